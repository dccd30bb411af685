/- Disks step by step, with a fuse that is told; the power going; New where a header names blocks; no condition but that numbers do not pass their greatest. -/
import Derived.Test.YtglcliokhlafoaaLRec2
namespace Go.Proofs.Ytglcliokhlafoaa
open Go.RowKit Go.Maps
variable {w W : World} {g d c mb : Nat} {v : Value} {x : LSt} {s : CSt} {t : St} {os ks : List (Nat × Obj)} {base : Nat} {book : Int → Nat → Int}
theorem holdAll_ok : ∀ (l : List Cel) (s : St), Ok s → (∀ c ∈ l, (0 ≤ c.1 ∧ c.1 < s.n) ∧ Can c.2) → Ok (holdAll s l)
  | [], _, h, _ => h
  | c :: r, s, h, hl => by
    obtain ⟨h1, h2⟩ := hl c (List.mem_cons_self ..)
    exact holdAll_ok r (holdV s c.1 c.2) (holdV_ok h h1 h2) fun c' hc => hl c' (List.mem_cons_of_mem _ hc)
/-- A disk that lives: its fuse, what it reads, what is pending. -/
structure LiveT (t : St) (n f : Int) (cur : Int → Nat → Int) (wait : List Cel) : Prop where
  ok : Ok t
  stop : t.stopped = false
  n : t.n = n
  fuse : t.fuse = f
  cur : curV t = cur
  wait : t.wait = wait
variable {n f : Int} {cur : Int → Nat → Int} {wait : List Cel}
def nextF (f : Int) : Int := if f = -1 then -1 else f - 1
theorem letV_pass (hf : t.fuse ≠ 0) : letV t = { t with fuse := nextF t.fuse, made := t.made + 1 } := by
  unfold letV nextF
  rw [if_neg hf]
theorem LiveT.write (h : LiveT t n f cur wait) (hf : f ≠ 0) {k : Int} (hk : 0 ≤ k ∧ k < n) {F : Nat → Int} (hF : Can F) : dopE t (some (k, F)) = 0 ∧ LiveT (dopV t (some (k, F))) n (nextF f) (fun j => if k = j then F else cur j) (wait ++ [(k, F)]) := by
  have hl : lets t = true := by unfold lets; rw [h.fuse]; simpa using hf
  have hr : refV t k = 0 := by unfold refV; rw [h.stop, if_neg (by simp), if_pos ⟨hk.1, by rw [h.n]; exact hk.2⟩]
  have hv : writeV t k F = writeS t k F := by unfold writeV; rw [if_pos hr, hl]; rfl
  have e1 := letV_pass (t := t) (by rw [h.fuse]; exact hf)
  refine ⟨by show writeE t k = 0; unfold writeE; rw [if_pos hr, hl]; rfl, ?_⟩
  show LiveT (writeV t k F) _ _ _ _
  refine ⟨by rw [hv]; exact writeS_ok h.ok ⟨hk.1, by rw [h.n]; exact hk.2⟩ hF, ?_, ?_, ?_, ?_, ?_⟩
  · rw [hv]; show (letV t).stopped = false; rw [e1]; exact h.stop
  · rw [hv]; show (letV t).n = n; rw [e1]; exact h.n
  · rw [hv]; show (letV t).fuse = _; rw [e1, ← h.fuse]
  · funext j; rw [cur_write hl hr, h.cur]
  · rw [hv]; show t.wait ++ [(k, F)] = _; rw [h.wait]
theorem LiveT.bar (h : LiveT t n f cur wait) (hf : f ≠ 0) : dopE t none = 0 ∧ LiveT (dopV t none) n (nextF f) cur [] := by
  have hl : lets t = true := by unfold lets; rw [h.fuse]; simpa using hf
  have e1 := letV_pass (t := t) (by rw [h.fuse]; exact hf)
  have hv : barV t = barS t := by unfold barV; rw [h.stop, hl]; rfl
  have hb := barS_nums t
  refine ⟨by show barE t = 0; unfold barE; rw [h.stop, hl]; rfl, ?_⟩
  show LiveT (barV t) _ _ _ _
  have hok : Ok (barS t) := barS_ok (holdAll_ok t.wait (letV t) (letV_ok h.ok) fun c hc => by rw [letV_n]; exact h.ok.wait c hc)
  refine ⟨by rw [hv]; exact hok, ?_, ?_, ?_, ?_, ?_⟩
  · rw [hv, hb.2.2.2.2.2.1, e1]; exact h.stop
  · rw [hv, hb.2.2.2.2.1]; exact h.n
  · rw [hv, hb.2.2.2.2.2.2, e1, ← h.fuse]
  · funext j; rw [hv, cur_bar h.ok, h.cur]
  · rw [hv]; rfl
/-- Where the fuse has burnt down. -/
theorem LiveT.out (h : LiveT t n 0 cur wait) (o : Option Cel) (hk : ∀ c, o = some c → 0 ≤ c.1 ∧ c.1 < n) : dopE t o = 3 ∧ dopV t o = { t with stopped := true } := by
  have hl : lets t = false := by unfold lets; rw [h.fuse]; rfl
  have e1 : letV t = { t with stopped := true } := by unfold letV; rw [if_pos h.fuse]
  cases o with
  | none => exact ⟨by show barE t = 3; unfold barE; rw [h.stop, hl]; rfl, by show barV t = _; unfold barV; rw [h.stop, hl]; exact e1⟩
  | some c =>
    obtain ⟨h1, h2⟩ := hk c rfl
    have hr : refV t c.1 = 0 := by unfold refV; rw [h.stop, if_neg (by simp), if_pos ⟨h1, by rw [h.n]; exact h2⟩]
    exact ⟨by show writeE t c.1 = 3; unfold writeE; rw [if_pos hr, hl]; rfl, by show writeV t c.1 c.2 = _; unfold writeV; rw [if_pos hr, hl]; exact e1⟩
theorem run_cons {o : Option Cel} {r : List (Option Cel)} (h : dopE t o = 0) : runE (o :: r) t = runE r (dopV t o) ∧ runV (o :: r) t = runV r (dopV t o) := by
  constructor
  · show (if dopE t o = 0 then _ else _) = _; rw [if_pos h]
  · show (if dopE t o = 0 then _ else _) = _; rw [if_pos h]
theorem run_out {o : Option Cel} {r : List (Option Cel)} {E : Int} {t' : St} (h : dopE t o = E ∧ dopV t o = t') (h0 : E ≠ 0) : runE (o :: r) t = E ∧ runV (o :: r) t = t' := by
  have h1 : ¬ dopE t o = 0 := by rw [h.1]; exact h0
  constructor
  · show (if dopE t o = 0 then _ else dopE t o) = _; rw [if_neg h1]; exact h.1
  · show (if dopE t o = 0 then _ else dopV t o) = _; rw [if_neg h1]; exact h.2
/-- All that is pending is kept. -/
theorem crash_all (h : LiveT t n f cur wait) {kl : List Bool} (hk : keptL wait kl = wait) (hx : ∀ t', t' = { t with stopped := true } → Ok (crashS t' kl)) : LiveT (crashS { t with stopped := true } kl) n (-1) cur [] ∧ (crashS { t with stopped := true } kl).claimed = false ∧ (crashS { t with stopped := true } kl).claims = t.claims ∧ (crashS { t with stopped := true } kl).reads = t.reads ∧ (crashS { t with stopped := true } kl).made = t.made := by
  obtain ⟨hh, he⟩ := holdAll_same (keptL ({ t with stopped := true } : St).wait kl) { t with stopped := true }
  have hcv : ∀ j, curV (crashS { t with stopped := true } kl) j = cur j := fun j => by
    have h1 : (crashS { t with stopped := true } kl).held = (holdAll { t with stopped := true } (keptL ({ t with stopped := true } : St).wait kl)).held := rfl
    rw [curV_last, show (crashS { t with stopped := true } kl).wait = [] from rfl, h1]
    have hkw : keptL t.wait kl = wait := by rw [h.wait]; exact hk
    show ((holdAll { t with stopped := true } (keptL t.wait kl)).held j).getD nought = _
    rw [hkw, holdAll_get wait { t with stopped := true } fun c hc => (h.ok.wait c (by rw [h.wait]; exact hc)).2, ← h.cur, curV_last, h.wait]
  refine ⟨⟨hx _ rfl, rfl, ?_, rfl, funext hcv, rfl⟩, rfl, ?_, ?_, ?_⟩
  · show (holdAll _ _).n = n; rw [holdAll_n]; exact h.n
  · show (holdAll _ _).claims = _; rw [he]
  · show (holdAll _ _).reads = _; rw [he]
  · show (holdAll _ _).made = _; rw [he]
theorem crash_all' (h : LiveT t n f cur wait) {kl : List Bool} (hk : keptL wait kl = wait) : LiveT (crashS { t with stopped := true } kl) n (-1) cur [] ∧ (crashS { t with stopped := true } kl).claimed = false ∧ (crashS { t with stopped := true } kl).claims = t.claims ∧ (crashS { t with stopped := true } kl).reads = t.reads ∧ (crashS { t with stopped := true } kl).made = t.made := by
  refine crash_all h hk fun t' ht => ?_
  subst ht
  have hok : Ok ({ t with stopped := true } : St) := ⟨h.ok.n, h.ok.held, h.ok.wait, h.ok.fuse, h.ok.made, h.ok.reads, h.ok.claims⟩
  refine crashS_ok (holdAll_ok _ _ hok fun c hc => ?_)
  have hw : ({ t with stopped := true } : St).wait = wait := h.wait
  rw [hw, hk] at hc
  exact h.ok.wait c (by rw [h.wait]; exact hc)
set_option maxRecDepth 20000 in
set_option maxHeartbeats 800000 in
theorem newL_some {b l i : Int} (h : Sits w W d t ks) (hf : H.Fine b l i) (hn : b ≤ t.n) (hs : t.stopped = false) (hr : Rm t 2) (hT : tgT b l t ≠ []) (hE : tgE b l t = 0) (hlen : (tgT b l t).length ≤ 255) : Calls Try.prog 11 #[ptr d, .agg (layA b l i)] W fun e W' => e = .returned (.tuple #[.pointer none, .int .i64 4]) ∧ Sits w W' d (readS t) ks := by
  have hA := h.add (.cells (layA b l i) 30)
  have hrow := heap_alloc_new W (.cells (layA b l i) 30)
  have hsz : (layA b l i).size = 9 := rfl
  have hc := Hid.mk' (committed_ok hA hf hn hs (Rm.room hr))
  rw [hE] at hc
  have hpos : 0 < (tgT b l t).length := List.length_pos_iff.2 hT
  clear h hA hf hn hs hr hE hT
  unfold ptr at *
  generalize layA b l i = L at *
  generalize tgT b l t = T at *
  have HTl : Hid (0 < T.length) := hpos
  generalize hTn : T.length = m at *
  have hm : (0 : Int) < m := by omega
  go_enter Try.func11, Try.ntmps11
  go_wp2_with (first | refine wpList_load_row rfl 30 (.tmp 3) rfl W.heap.size rfl 30 L (0, 0) _ hrow Try.underlying30 rfl (by rw [hsz]; exact H.size25L) ?_ | (go_at_call 36; fail))
  refine hc.out.mono ?_
  rintro e W1 ⟨p, rfl, _, h1⟩
  have H1 := Hid.mk' (h1.drop (ks' := ks) fun q hq => List.mem_cons_of_mem _ hq)
  clear h1 hc hrow
  go_wp2
  go_ret2
  exact ⟨rfl, H1.out⟩
end Go.Proofs.Ytglcliokhlafoaa
