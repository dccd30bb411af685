import Derived.Test.YtglcliokhlafoaaLRec2
/- Disks step by step, with a fuse that is told; the power going; New where a header names blocks; no condition but that numbers do not pass their greatest. -/
namespace Go.Proofs.Ytglcliokhlafoaa
open Go.RowKit Go.Maps
variable {w W : World} {g d c mb : Nat} {v : Value} {x : LSt} {s : CSt} {t : St} {os ks : List (Nat × Obj)} {base : Nat} {book : Int → Nat → Int}
theorem holdAll_ok : ∀ (l : List Cel) (s : St), Ok s → (∀ c ∈ l, (0 ≤ c.1 ∧ c.1 < s.n) ∧ Can c.2) → Ok (holdAll s l)
  | [], _, h, _ => h
  | c :: r, s, h, hl => by
    obtain ⟨h1, h2⟩ := hl c (List.mem_cons_self ..)
    exact holdAll_ok r (holdV s c.1 c.2) (holdV_ok h h1 h2) fun c' hc => hl c' (List.mem_cons_of_mem _ hc)
/-- A disk that lives: its fuse, what it reads, what is pending. -/
structure LiveT (t : St) (n f : Int) (cur : Int → Nat → Int) (wait : List Cel) : Prop where
  ok : Ok t
  stop : t.stopped = false
  n : t.n = n
  fuse : t.fuse = f
  cur : curV t = cur
  wait : t.wait = wait
variable {n f : Int} {cur : Int → Nat → Int} {wait : List Cel}
def nextF (f : Int) : Int := if f = -1 then -1 else f - 1
theorem letV_pass (hf : t.fuse ≠ 0) : letV t = { t with fuse := nextF t.fuse, made := t.made + 1 } := by
  unfold letV nextF
  rw [if_neg hf]
theorem LiveT.write (h : LiveT t n f cur wait) (hf : f ≠ 0) {k : Int} (hk : 0 ≤ k ∧ k < n) {F : Nat → Int} (hF : Can F) : dopE t (some (k, F)) = 0 ∧ LiveT (dopV t (some (k, F))) n (nextF f) (fun j => if k = j then F else cur j) (wait ++ [(k, F)]) := by
  have hl : lets t = true := by unfold lets; rw [h.fuse]; simpa using hf
  have hr : refV t k = 0 := by unfold refV; rw [h.stop, if_neg (by simp), if_pos ⟨hk.1, by rw [h.n]; exact hk.2⟩]
  have hv : writeV t k F = writeS t k F := by unfold writeV; rw [if_pos hr, hl]; rfl
  have e1 := letV_pass (t := t) (by rw [h.fuse]; exact hf)
  refine ⟨by show writeE t k = 0; unfold writeE; rw [if_pos hr, hl]; rfl, ?_⟩
  show LiveT (writeV t k F) _ _ _ _
  refine ⟨by rw [hv]; exact writeS_ok h.ok ⟨hk.1, by rw [h.n]; exact hk.2⟩ hF, ?_, ?_, ?_, ?_, ?_⟩
  · rw [hv]; show (letV t).stopped = false; rw [e1]; exact h.stop
  · rw [hv]; show (letV t).n = n; rw [e1]; exact h.n
  · rw [hv]; show (letV t).fuse = _; rw [e1, ← h.fuse]
  · funext j; rw [cur_write hl hr, h.cur]
  · rw [hv]; show t.wait ++ [(k, F)] = _; rw [h.wait]
theorem LiveT.bar (h : LiveT t n f cur wait) (hf : f ≠ 0) : dopE t none = 0 ∧ LiveT (dopV t none) n (nextF f) cur [] := by
  have hl : lets t = true := by unfold lets; rw [h.fuse]; simpa using hf
  have e1 := letV_pass (t := t) (by rw [h.fuse]; exact hf)
  have hv : barV t = barS t := by unfold barV; rw [h.stop, hl]; rfl
  have hb := barS_nums t
  refine ⟨by show barE t = 0; unfold barE; rw [h.stop, hl]; rfl, ?_⟩
  show LiveT (barV t) _ _ _ _
  have hok : Ok (barS t) := barS_ok (holdAll_ok t.wait (letV t) (letV_ok h.ok) fun c hc => by rw [letV_n]; exact h.ok.wait c hc)
  refine ⟨by rw [hv]; exact hok, ?_, ?_, ?_, ?_, ?_⟩
  · rw [hv, hb.2.2.2.2.2.1, e1]; exact h.stop
  · rw [hv, hb.2.2.2.2.1]; exact h.n
  · rw [hv, hb.2.2.2.2.2.2, e1, ← h.fuse]
  · funext j; rw [hv, cur_bar h.ok, h.cur]
  · rw [hv]; rfl
/-- Where the fuse has burnt down. -/
theorem LiveT.out (h : LiveT t n 0 cur wait) (o : Option Cel) (hk : ∀ c, o = some c → 0 ≤ c.1 ∧ c.1 < n) : dopE t o = 3 ∧ dopV t o = { t with stopped := true } := by
  have hl : lets t = false := by unfold lets; rw [h.fuse]; rfl
  have e1 : letV t = { t with stopped := true } := by unfold letV; rw [if_pos h.fuse]
  cases o with
  | none => exact ⟨by show barE t = 3; unfold barE; rw [h.stop, hl]; rfl, by show barV t = _; unfold barV; rw [h.stop, hl]; exact e1⟩
  | some c =>
    obtain ⟨h1, h2⟩ := hk c rfl
    have hr : refV t c.1 = 0 := by unfold refV; rw [h.stop, if_neg (by simp), if_pos ⟨h1, by rw [h.n]; exact h2⟩]
    exact ⟨by show writeE t c.1 = 3; unfold writeE; rw [if_pos hr, hl]; rfl, by show writeV t c.1 c.2 = _; unfold writeV; rw [if_pos hr, hl]; exact e1⟩
theorem run_cons {o : Option Cel} {r : List (Option Cel)} (h : dopE t o = 0) : runE (o :: r) t = runE r (dopV t o) ∧ runV (o :: r) t = runV r (dopV t o) := by
  constructor
  · show (if dopE t o = 0 then _ else _) = _; rw [if_pos h]
  · show (if dopE t o = 0 then _ else _) = _; rw [if_pos h]
theorem run_out {o : Option Cel} {r : List (Option Cel)} {E : Int} {t' : St} (h : dopE t o = E ∧ dopV t o = t') (h0 : E ≠ 0) : runE (o :: r) t = E ∧ runV (o :: r) t = t' := by
  have h1 : ¬ dopE t o = 0 := by rw [h.1]; exact h0
  constructor
  · show (if dopE t o = 0 then _ else dopE t o) = _; rw [if_neg h1]; exact h.1
  · show (if dopE t o = 0 then _ else dopV t o) = _; rw [if_neg h1]; exact h.2
/-- All that is pending is kept. -/
theorem crash_all (h : LiveT t n f cur wait) {kl : List Bool} (hk : keptL wait kl = wait) (hx : ∀ t', t' = { t with stopped := true } → Ok (crashS t' kl)) : LiveT (crashS { t with stopped := true } kl) n (-1) cur [] ∧ (crashS { t with stopped := true } kl).claimed = false ∧ (crashS { t with stopped := true } kl).claims = t.claims ∧ (crashS { t with stopped := true } kl).reads = t.reads ∧ (crashS { t with stopped := true } kl).made = t.made := by
  obtain ⟨hh, he⟩ := holdAll_same (keptL ({ t with stopped := true } : St).wait kl) { t with stopped := true }
  have hcv : ∀ j, curV (crashS { t with stopped := true } kl) j = cur j := fun j => by
    have h1 : (crashS { t with stopped := true } kl).held = (holdAll { t with stopped := true } (keptL ({ t with stopped := true } : St).wait kl)).held := rfl
    rw [curV_last, show (crashS { t with stopped := true } kl).wait = [] from rfl, h1]
    have hkw : keptL t.wait kl = wait := by rw [h.wait]; exact hk
    show ((holdAll { t with stopped := true } (keptL t.wait kl)).held j).getD nought = _
    rw [hkw, holdAll_get wait { t with stopped := true } fun c hc => (h.ok.wait c (by rw [h.wait]; exact hc)).2, ← h.cur, curV_last, h.wait]
  refine ⟨⟨hx _ rfl, rfl, ?_, rfl, funext hcv, rfl⟩, rfl, ?_, ?_, ?_⟩
  · show (holdAll _ _).n = n; rw [holdAll_n]; exact h.n
  · show (holdAll _ _).claims = _; rw [he]
  · show (holdAll _ _).reads = _; rw [he]
  · show (holdAll _ _).made = _; rw [he]
theorem crash_all' (h : LiveT t n f cur wait) {kl : List Bool} (hk : keptL wait kl = wait) : LiveT (crashS { t with stopped := true } kl) n (-1) cur [] ∧ (crashS { t with stopped := true } kl).claimed = false ∧ (crashS { t with stopped := true } kl).claims = t.claims ∧ (crashS { t with stopped := true } kl).reads = t.reads ∧ (crashS { t with stopped := true } kl).made = t.made := by
  refine crash_all h hk fun t' ht => ?_
  subst ht
  have hok : Ok ({ t with stopped := true } : St) := ⟨h.ok.n, h.ok.held, h.ok.wait, h.ok.fuse, h.ok.made, h.ok.reads, h.ok.claims⟩
  refine crashS_ok (holdAll_ok _ _ hok fun c hc => ?_)
  have hw : ({ t with stopped := true } : St).wait = wait := h.wait
  rw [hw, hk] at hc
  exact h.ok.wait c (by rw [h.wait]; exact hc)
set_option maxRecDepth 20000 in
set_option maxHeartbeats 800000 in
theorem newL_some {b l i : Int} (h : Sits w W d t ks) (hf : H.Fine b l i) (hn : b ≤ t.n) (hs : t.stopped = false) (hr : Rm t 2) (hT : tgT b l t ≠ []) (hE : tgE b l t = 0) (hlen : (tgT b l t).length ≤ 255) : Calls Try.prog 11 #[ptr d, .agg (layA b l i)] W fun e W' => e = .returned (.tuple #[.pointer none, .int .i64 4]) ∧ Sits w W' d (readS t) ks := by
  have hA := h.add (.cells (layA b l i) 30)
  have hrow := heap_alloc_new W (.cells (layA b l i) 30)
  have hsz : (layA b l i).size = 9 := rfl
  have hc := Hid.mk' (committed_ok hA hf hn hs (Rm.room hr))
  rw [hE] at hc
  have hpos : 0 < (tgT b l t).length := List.length_pos_iff.2 hT
  clear h hA hf hn hs hr hE hT
  unfold ptr at *
  generalize layA b l i = L at *
  generalize tgT b l t = T at *
  have HTl : Hid (0 < T.length) := hpos
  generalize hTn : T.length = m at *
  have hm : (0 : Int) < m := by omega
  go_enter Try.func11, Try.ntmps11
  go_wp2_with (first | refine wpList_load_row rfl 30 (.tmp 3) rfl W.heap.size rfl 30 L (0, 0) _ hrow Try.underlying30 rfl (by rw [hsz]; exact H.size25L) ?_ | (go_at_call 36; fail))
  refine hc.out.mono ?_
  rintro e W1 ⟨p, rfl, _, h1⟩
  have H1 := Hid.mk' (h1.drop (ks' := ks) fun q hq => List.mem_cons_of_mem _ hq)
  clear h1 hc hrow
  go_wp2
  go_ret2
  exact ⟨rfl, H1.out⟩
end Go.Proofs.Ytglcliokhlafoaa
/- The examples' disks, step by step; closed but for what was there before. -/
namespace Go.Proofs.Ytglcliokhlafoaa
open Go.RowKit Go.Maps
variable {w W : World} {g d c mb : Nat} {v : Value} {x : LSt} {s : CSt} {t : St} {os ks : List (Nat × Obj)} {base : Nat} {book : Int → Nat → Int} {n f : Int} {cur : Int → Nat → Int} {wait : List Cel}
theorem dop_ok (h : Ok t) {o : Option Cel} (hc : ∀ c, o = some c → Can c.2) : Ok (dopV t o) := by
  cases o with
  | none =>
    show Ok (barV t)
    unfold barV
    split
    · exact h
    · split
      · exact barS_ok (holdAll_ok t.wait (letV t) (letV_ok h) fun c hc => by rw [letV_n]; exact h.wait c hc)
      · exact letV_ok h
  | some c =>
    show Ok (writeV t c.1 c.2)
    unfold writeV
    split
    · rename_i hr
      split
      · exact writeS_ok h (refV_ok hr).2 (hc c rfl)
      · exact letV_ok h
    · exact h
theorem run_ok : ∀ (l : List (Option Cel)) (t : St), Ok t → (∀ c, some c ∈ l → Can c.2) → Ok (runV l t)
  | [], _, h, _ => h
  | o :: r, t, h, hc => by
    have h1 : Ok (dopV t o) := dop_ok h fun c e => hc c (by rw [← e]; exact List.mem_cons_self ..)
    unfold runV
    split
    · exact run_ok r _ h1 fun c hm => hc c (List.mem_cons_of_mem _ hm)
    · exact h1
theorem LiveT.readS (h : LiveT t n f cur wait) : LiveT (readS t) n f cur wait := ⟨readS_ok h.ok, h.stop, h.n, h.fuse, h.cur, h.wait⟩
theorem LiveT.fuse' (h : LiveT t n f cur wait) {m : Int} (hm : 0 ≤ m ∧ m ≤ 1000) : LiveT (fuseV t m) n m cur wait := by
  have e : fuseV t m = { t with fuse := m } := by
    unfold fuseV
    rw [h.stop]
    simp only [Bool.false_eq_true, if_false]
    rw [Int.max_eq_left (by omega)]
  rw [e]
  exact ⟨⟨h.ok.n, h.ok.held, h.ok.wait, ⟨by show -1 ≤ m; omega, by show m ≤ _; omega⟩, h.ok.made, h.ok.reads, h.ok.claims⟩, h.stop, h.n, rfl, h.cur, h.wait⟩
theorem LiveT.claim (h : LiveT t n f cur wait) : LiveT (claimV t) n f cur wait ∧ (claimV t).claims = t.claims + 1 ∧ (claimV t).claimed = true ∧ claimN t = t.claims + 1 ∧ (claimV t).made = t.made ∧ (claimV t).reads = t.reads ∧ (claimV t).ops = t.ops := by
  have e : claimV t = { t with claims := t.claims + 1, claimed := true } := by
    unfold claimV
    rw [h.stop]
    simp
  have e2 : claimN t = t.claims + 1 := by unfold claimN; rw [h.stop]; simp
  have hc := h.ok.claims
  rw [e]
  exact ⟨⟨⟨h.ok.n, h.ok.held, h.ok.wait, h.ok.fuse, h.ok.made, h.ok.reads, by show 0 ≤ t.claims + 1; omega⟩, h.stop, h.n, h.fuse, h.cur, h.wait⟩, rfl, rfl, e2, rfl, rfl, rfl⟩
theorem LiveT.move (h : LiveT t n f cur wait) (hf : f ≠ 0) {a b : Int} (ha : 0 ≤ a ∧ a < n) (hb : 0 ≤ b ∧ b < n) : moE t (a, b) = 0 ∧ LiveT (moV t (a, b)) n (nextF f) (fun j => if b = j then cur a else cur j) (wait ++ [(b, cur a)]) := by
  have hr : refV t a = 0 := by unfold refV; rw [h.stop, if_neg (by simp), if_pos ⟨ha.1, by rw [h.n]; exact ha.2⟩]
  have hcan : Can (cur a) := by rw [← h.cur]; exact curV_can h.ok a
  obtain ⟨w1, w2⟩ := h.readS.write hf hb hcan
  unfold moE moV
  rw [if_pos hr, if_pos hr, h.cur]
  exact ⟨w1, w2⟩
theorem tg_nought {b l : Int} (h : curV t 1 = nought) (hl : 32 ≤ l) : tgT b l t = [] ∧ tgE b l t = 0 := by
  have hz : H.numN nought 0 4 = 0 := rfl
  have ht : H.tgts nought (0 : Int).toNat = [] := rfl
  have hm : H.mayB (1 + l) b (l - 1) [] = true := decide_eq_true ⟨by simp; omega, fun q hq => by simp at hq, List.nodup_nil⟩
  unfold tgT tgE H.decL H.decN
  rw [h, hz, ht, if_pos ⟨by omega, hm⟩, if_pos ⟨by omega, hm⟩]
  exact ⟨rfl, rfl⟩
theorem tg_head {b l : Int} {ts : List Int} (h : curV t 1 = H.headF ts) (hl : 32 ≤ l ∧ l ≤ 256) (hm : H.MayP (1 + l) b (l - 1) ts) (hb : b ≤ 1048576) : tgT b l t = ts ∧ tgE b l t = 0 := by
  have hu : H.AllU ts := hm.u (by omega) (by omega)
  have hlen := hm.1
  have hn : H.numN (H.headF ts) 0 4 = (ts.length : Int) := by
    have := H.wordF_read ((ts.length : Int) :: ts) (fun q hq => by
      rcases List.mem_cons.1 hq with rfl | hq
      · exact ⟨by omega, by omega⟩
      · exact hu q hq) 0
    exact this
  have ht : H.tgts (H.headF ts) ((ts.length : Int)).toNat = ts := by
    rw [Int.toNat_natCast]
    have := H.head_tgts ts [] hu (fun q hq => by simp at hq) (by omega)
    rw [List.append_nil] at this
    exact this
  unfold tgT tgE H.decL H.decN
  rw [h, hn, ht, if_pos ⟨hlen, decide_eq_true hm⟩, if_pos ⟨hlen, decide_eq_true hm⟩]
  exact ⟨rfl, rfl⟩
/-- A commit that goes through leaves a header of noughts. -/
theorem cmt_head (hI : Inv x s t book) (ok : Ok t) (hs : t.stopped = false) (hf : t.fuse = -1) : curV (runV (cmtOps x book) t) 1 = nought ∧ (runV (cmtOps x book) t).wait = [] ∧ Ok (runV (cmtOps x book) t) := by
  have hlen := hI.len
  have hl2 := hI.fine.2.1
  have hin := cmt_in hI hI.c.n
  have hcan : ∀ c, some c ∈ cmtOps x book → Can c.2 := by
    intro c hc
    unfold cmtOps opsA opsB opsC opsD lgOps putOps at hc
    simp only [List.mem_append, List.mem_map, List.mem_range, List.mem_cons, List.not_mem_nil, or_false, reduceCtorEq, Option.some.injEq] at hc
    rcases hc with ⟨j, hj, rfl⟩ | rfl | ⟨k, hk, rfl⟩ | rfl
    · have : x.blocks.getD j 0 ∈ x.blocks := by
        rw [List.getD_eq_getElem?_getD, List.getElem?_eq_getElem hj]
        exact List.getElem_mem _
      exact hI.c.can (decide_eq_true this)
    · exact headF_can (by omega)
    · exact hI.c.can (decide_eq_true hk)
    · exact can_nought
  have hsplit : cmtOps x book = (opsA x book ++ (opsB x ++ opsC x book)) ++ [some (1, nought), none] := by
    unfold cmtOps opsD
    simp [List.append_assoc]
  rw [hsplit] at hin hcan ⊢
  obtain ⟨a1, a2, a3, a4⟩ := run_free (opsA x book ++ (opsB x ++ opsC x book)) t hs hf fun c hc => hin c (List.mem_append.2 (.inl hc))
  have hok := run_ok (opsA x book ++ (opsB x ++ opsC x book)) t ok fun c hc => hcan c (List.mem_append.2 (.inl hc))
  have hnn := (run_nums (opsA x book ++ (opsB x ++ opsC x book)) t).2.2.2.2.1
  obtain ⟨_, r2⟩ := run_on (b := [some (1, nought), none]) a1
  rw [r2]
  generalize runV (opsA x book ++ (opsB x ++ opsC x book)) t = t' at *
  have hL : LiveT t' t'.n (-1) (curV t') t'.wait := ⟨hok, a4, rfl, a3, rfl, rfl⟩
  have h1n := hin (1, nought) (by simp)
  obtain ⟨b1, b2⟩ := hL.write (by omega) (k := 1) (by rw [hnn]; exact ⟨by omega, h1n.2⟩) can_nought
  obtain ⟨c1, c2⟩ := b2.bar (by unfold nextF; simp)
  rw [(run_cons b1).2, (run_cons c1).2]
  exact ⟨by show curV (dopV _ none) 1 = _; rw [c2.cur]; simp, c2.wait, c2.ok⟩
def nx0 : LSt := newX 400 32 60 1
def nx1 : LSt := { nx0 with opn := true, room := 23 }
def nx2 : LSt := { changeL nx1 90 nx1.steps with room := nx1.room - 1 }
def nx3 : LSt := { changeL nx2 41 nx2.steps with room := nx2.room - 1 }
def nx4 : LSt := endX nx3
def nx5 : LSt := { nx4 with opn := true, room := 29 }
def nx6 : LSt := endX nx5
def nx7 : LSt := { forgotL nx6 with commits := nx6.commits + 1, opn := true, room := 30 }
def nx8 : LSt := endX nx7
def nx9 : LSt := { nx8 with opn := true, room := 9 }
def nx10 : LSt := { changeL nx9 33 nx9.steps with room := nx9.room - 1 }
def nx11 : LSt := { changeL nx10 60 nx10.steps with room := nx10.room - 1 }
def nx12 : LSt := endX nx11
def nb0 : Int → Nat → Int := curV (newV 400)
def nb1 : Int → Nat → Int := fun j => if j = 40 then blkF 1 else nb0 j
def nb2 : Int → Nat → Int := fun j => if j = 41 then blkF 2 else nb1 j
def nb3 : Int → Nat → Int := fun j => if j = 40 then blkF 3 else nb2 j
def nb4 : Int → Nat → Int := fun j => if j = 33 then blkF 1 else nb3 j
def nb5 : Int → Nat → Int := fun j => if j = 60 then blkF 1 else nb4 j
def nz0 : LSt := newX 400 32 60 2
def nz1 : LSt := { nz0 with opn := true, room := 2 }
def nz2 : LSt := { changeL nz1 50 nz1.steps with room := nz1.room - 1 }
def nz3 : LSt := { changeL nz2 51 nz2.steps with room := nz2.room - 1 }
def nz4 : LSt := endX nz3
theorem nFine : H.Fine 400 32 60 := by decide
theorem nx6_blocks : nx6.blocks = [90, 41] := rfl
theorem nx12_blocks : nx12.blocks = [33, 60] := rfl
theorem nz4_blocks : nz4.blocks = [50, 51] := rfl
/-- Behind the first commit. -/
theorem names_one {e : Ending} {W' : World} {r : Int} (h : BgPost w g d nx6 r t nb3 ks e W') (hI : Inv nx6 s t nb3) (ok : Ok t) (hs : t.stopped = false) (hf : t.fuse = -1) (hn : t.n = 400) (hm : t.made = 0) (hcl : t.claims = 1) (hcd : t.claimed = true) (hrd : t.reads = 1) (ho : t.ops.length = 0) :
    e = .returned (.int .i64 0) ∧ ∃ t1, LogI w W' g d { forgotL nx6 with commits := nx6.commits + 1, opn := true, room := r } t1 nb3 ks ∧ LiveT t1 400 (-1) (curV t1) [] ∧ curV t1 1 = nought ∧ t1.made = 10 ∧ t1.claims = 1 ∧ t1.claimed = true ∧ t1.reads = 1 ∧ t1.ops.length ≤ 10 := by
  obtain ⟨h1, h2, h3⟩ := h
  obtain ⟨a1, a2, a3, a4⟩ := run_free (cmtOps nx6 nb3) t hs hf (cmt_in hI hI.c.n)
  obtain ⟨_, b2, b3, b4, b5, b6⟩ := run_nums (cmtOps nx6 nb3) t
  obtain ⟨c1, c2, c3⟩ := cmt_head hI ok hs hf
  rw [cmt_len] at a2 b6
  rw [show nx6.blocks.length = 2 from rfl] at a2 b6
  exact ⟨by rw [h1, a1], _, h3 a1, ⟨c3, a4, by rw [b5]; exact hn, a3, rfl, c2⟩, c1, by rw [a2, hm]; rfl, by rw [b3]; exact hcl, by rw [b4]; exact hcd, by rw [b2]; exact hrd, by omega⟩
/-- A commit of two blocks, the disk's fuse being 3. -/
theorem names_dead {k1 k2 : Int} {e : Ending} {W' : World} (h : CmtPost w g d x t book ks e W') (hb : x.blocks = [k1, k2]) (hL : LiveT t 400 3 cur []) (h1 : Can (book k1)) (h2 : Can (book k2)) : e = .returned (.int .i64 3) ∧ ∃ tA, runV (cmtOps x book) t = { tA with stopped := true } ∧ LiveT tA 400 0 (fun j => if 3 = j then book k2 else if 2 = j then book k1 else cur j) [] ∧ tA.claims = t.claims ∧ tA.reads = t.reads ∧ tA.made ≤ t.made + 3 ∧ tA.ops.length ≤ t.ops.length + 3 := by
  obtain ⟨e1, _, _⟩ := h
  have hA : opsA x book = [some (2, book k1), some (3, book k2), none] := by unfold opsA; rw [hb]; rfl
  obtain ⟨w1, l1⟩ := hL.write (by omega) (k := 2) (by omega) h1
  obtain ⟨w2, l2⟩ := l1.write (by decide) (k := 3) (by omega) h2
  obtain ⟨w3, l3⟩ := l2.bar (by decide)
  have rA : runE (opsA x book) t = 0 ∧ runV (opsA x book) t = dopV (dopV (dopV t (some (2, book k1))) (some (3, book k2))) none := by
    rw [hA, (run_cons w1).1, (run_cons w1).2, (run_cons w2).1, (run_cons w2).2, (run_cons w3).1, (run_cons w3).2]
    exact ⟨rfl, rfl⟩
  obtain ⟨_, n2, n3, _, _, n6⟩ := run_nums (opsA x book) t
  have n1 := (run_nums (opsA x book) t).1
  rw [rA.2] at n1 n2 n3 n6
  rw [show (opsA x book).length = 3 by rw [hA]; rfl] at n1 n6
  obtain ⟨q1, q2⟩ := cmt_B rA.1
  rw [rA.2] at q1 q2
  generalize dopV (dopV (dopV t (some (2, book k1))) (some (3, book k2))) none = tA at *
  have l4 : LiveT tA 400 0 (fun j => if 3 = j then book k2 else if 2 = j then book k1 else cur j) [] := l3
  obtain ⟨o1, o2⟩ := run_out (r := none :: (opsC x book ++ opsD)) (l4.out (some (1, H.headF x.blocks)) (fun c hc => by cases hc; exact ⟨by show (0 : Int) ≤ 1; omega, by show (1 : Int) < 400; omega⟩)) (by omega)
  refine ⟨by rw [e1, q1]; exact congrArg (fun z => Ending.returned (.int .i64 z)) o1, tA, q2.trans o2, l4, n3, n2, by omega, by omega⟩
/-- .. being 4: the header is pending. -/
theorem names_head {k1 k2 : Int} {e : Ending} {W' : World} (h : CmtPost w g d x t book ks e W') (hb : x.blocks = [k1, k2]) (hL : LiveT t 400 4 cur []) (h1 : Can (book k1)) (h2 : Can (book k2)) : e = .returned (.int .i64 3) ∧ ∃ tB, runV (cmtOps x book) t = { tB with stopped := true } ∧ LiveT tB 400 0 (fun j => if 1 = j then H.headF [k1, k2] else if 3 = j then book k2 else if 2 = j then book k1 else cur j) [(1, H.headF [k1, k2])] ∧ tB.claims = t.claims ∧ tB.reads = t.reads ∧ tB.made ≤ t.made + 4 ∧ tB.ops.length ≤ t.ops.length + 4 := by
  obtain ⟨e1, _, _⟩ := h
  have hA : opsA x book = [some (2, book k1), some (3, book k2), none] := by unfold opsA; rw [hb]; rfl
  obtain ⟨w1, l1⟩ := hL.write (by omega) (k := 2) (by omega) h1
  obtain ⟨w2, l2⟩ := l1.write (by decide) (k := 3) (by omega) h2
  obtain ⟨w3, l3⟩ := l2.bar (by decide)
  obtain ⟨w4, l4⟩ := l3.write (by decide) (k := 1) (by omega) (headF_can (ts := [k1, k2]) (by simp))
  have rA : runE (opsA x book) t = 0 ∧ runV (opsA x book) t = dopV (dopV (dopV t (some (2, book k1))) (some (3, book k2))) none := by
    rw [hA, (run_cons w1).1, (run_cons w1).2, (run_cons w2).1, (run_cons w2).2, (run_cons w3).1, (run_cons w3).2]
    exact ⟨rfl, rfl⟩
  obtain ⟨_, n2, n3, _, _, n6⟩ := run_nums (opsA x book) t
  have n1 := (run_nums (opsA x book) t).1
  rw [rA.2] at n1 n2 n3 n6
  rw [show (opsA x book).length = 3 by rw [hA]; rfl] at n1 n6
  obtain ⟨q1, q2⟩ := cmt_B rA.1
  rw [rA.2] at q1 q2
  generalize dopV (dopV (dopV t (some (2, book k1))) (some (3, book k2))) none = tA at *
  obtain ⟨m1, m2, m3, _, _, m6⟩ := dop_nums tA (some (1, H.headF [k1, k2]))
  have hBe : opsB x ++ (opsC x book ++ opsD) = some (1, H.headF [k1, k2]) :: none :: (opsC x book ++ opsD) := by unfold opsB; rw [hb]; rfl
  rw [hBe, (run_cons w4).1] at q1
  rw [hBe, (run_cons w4).2] at q2
  generalize dopV tA (some (1, H.headF [k1, k2])) = tB at *
  have l5 : LiveT tB 400 0 (fun j => if 1 = j then H.headF [k1, k2] else if 3 = j then book k2 else if 2 = j then book k1 else cur j) [(1, H.headF [k1, k2])] := l4
  obtain ⟨o1, o2⟩ := run_out (r := opsC x book ++ opsD) (l5.out none (fun c hc => by cases hc)) (by omega)
  refine ⟨by rw [e1, q1]; exact congrArg (fun z => Ending.returned (.int .i64 z)) o1, tB, q2.trans o2, l5, by omega, by omega, by omega, by omega⟩
/-- Two blocks recovered. -/
theorem names_rec {t : St} {cur : Int → Nat → Int} (hL : LiveT t 400 (-1) cur []) : rcE [50, 51] t = 0 ∧ LiveT (rcV [50, 51] t) 400 (-1) (fun j => if 1 = j then nought else if 51 = j then (if (50 : Int) = 3 then cur 2 else cur 3) else if 50 = j then cur 2 else cur j) [] := by
  obtain ⟨w1, l1⟩ := hL.move (by omega) (a := 2) (b := 50) (by omega) (by omega)
  obtain ⟨w2, l2⟩ := l1.move (by decide) (a := 3) (b := 51) (by omega) (by omega)
  have hm : mvs [50, 51] ([50, 51] : List Int).length = [(2, 50), (3, 51)] := rfl
  have rM : mE [(2, 50), (3, 51)] t = 0 ∧ mV [(2, 50), (3, 51)] t = moV (moV t (2, 50)) (3, 51) := by
    constructor
    · show (if moE t (2, 50) = 0 then (if moE (moV t (2, 50)) (3, 51) = 0 then 0 else _) else _) = 0
      rw [if_pos w1, if_pos w2]
    · show (if moE t (2, 50) = 0 then (if moE (moV t (2, 50)) (3, 51) = 0 then moV (moV t (2, 50)) (3, 51) else _) else _) = _
      rw [if_pos w1, if_pos w2]
  obtain ⟨w3, l3⟩ := l2.bar (by decide)
  obtain ⟨w4, l4⟩ := l3.write (by decide) (k := 1) (by omega) can_nought
  obtain ⟨w5, l5⟩ := l4.bar (by decide)
  unfold rcE rcV
  rw [hm, rM.1, if_pos rfl, if_pos rfl, rM.2, (run_cons w3).1, (run_cons w3).2, (run_cons w4).1, (run_cons w4).2, (run_cons w5).1, (run_cons w5).2]
  exact ⟨rfl, l5⟩
end Go.Proofs.Ytglcliokhlafoaa
