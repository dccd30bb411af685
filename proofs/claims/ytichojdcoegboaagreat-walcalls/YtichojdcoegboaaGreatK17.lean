/- Several texts joined: the log, its cache and its disk, of the program and of the document; no condition. -/
import Derived.Test.YtichojdcoegboaaGreatK16
import Derived.Maps.AppendAt
import Derived.Maps.OwnOps
import Derived.Maps.OwnSet
import Derived.Deep.LoopGhost
namespace Go.Proofs.YtichojdcoegboaaGreatW.H
open Go.RowKit Go.Maps
def IntsAt (w : World) (p : Option Addr) (zs : List Int) : Prop := 0 < zs.length → ∃ b off, p = some ⟨b, off, none⟩ ∧ b < w.heap.size ∧ ∀ j x, zs[j]? = some x → w.cell? ⟨b, off + j, none⟩ = some (.int .i64 x)
theorem ints_of_row {w : World} {base : Nat} {v : Value} {zs : List Int} (h : w.ownsRow base 3 1 v zs.length (zs.map (Value.int .i64))) : ∃ p c, v = .slice p zs.length c ∧ IntsAt w p zs ∧ zs.length ≤ c ∧ ∀ b off, p = some ⟨b, off, none⟩ → base ≤ b := by
 rcases h.2 with ⟨h1, h2⟩ | ⟨g, cap, cur, h1, hg, hh, hc, _⟩
 ·exact ⟨none, 0, by rw [h1, h2], fun q => by omega, by omega, fun _ _ q => by cases q⟩
 ·refine ⟨_, cap, h1, fun _ => ⟨g, 0, rfl, (h.lt g (by rw [h1]; rfl)).2, fun j x hx => ?_⟩, hc, fun b off q => by injection q with q; injection q with q1; omega⟩
  have q := h.cells (g := g) (by rw [h1]; rfl) j (.int .i64 x) (by rw [List.getElem?_map, hx]; rfl)
  rw [Go.WideShapes.add_plain] at q
  exact q
theorem IntsAt.later {w W : World} {p : Option Addr} {l : List Int} (h : IntsAt w p l) (hb : Below w.heap.size w W) : IntsAt W p l := fun h0 => by
 obtain ⟨b, off, h1, h2, h3⟩ := h h0
 exact ⟨b, off, h1, Nat.lt_of_lt_of_le h2 hb.size, fun j x hx => (hb.cell (p := ⟨b, off + j, none⟩) h2).trans (h3 j x hx)⟩
theorem belowN {B : Nat} {w W : World} (h : Below B w W) (q : Nat) : Below B w (W.drewN q) := h.trans ⟨rfl, rfl, rfl, Nat.le_refl _, fun _ _ => rfl⟩
end Go.Proofs.YtichojdcoegboaaGreatW.H
namespace Go.Proofs.YtichojdcoegboaaGreatW.H
open Go.RowKit Go.Maps
abbrev MayP (lo hi m : Int) (ts : List Int) : Prop := (ts.length : Int) ≤ m ∧ (∀ t ∈ ts, lo ≤ t ∧ t < hi) ∧ ts.Nodup
def mayB (lo hi m : Int) (ts : List Int) : Bool := decide (MayP lo hi m ts)
abbrev WfI (ts : List Int) : Prop := ∀ t ∈ ts, (Lit.int .i64 t).wf = true
theorem lawK : Keyed Tryz.prog 3 := int_keyed Tryz.underlying3
theorem zero70 (w : World) : (zeroValue 176).run Tryz.prog w = .ok (.agg #[]) w := by kernel_rfl
def Sd (ts : List Int) : DataW Unit := setOf (.agg []) (ts.map (Lit.int .i64))
theorem any_int (x : Int) : ∀ l : List Int, l.any ((fun y : Lit => y.sameKey (.int .i64 x)) ∘ Lit.int .i64) = l.contains x
 | [] => rfl
 | a :: r => by
  rw [List.any_cons, List.contains_cons, any_int x r]
  congr 1
  show decide (IntKind.i64 = IntKind.i64 ∧ a = x) = (x == a)
  by_cases e : a = x
  ·subst e
   simp
  ·have e' : ¬ x = a := fun h => e h.symm
   simp [e, e']
theorem has_Sd (ts : List Int) (x : Int) : Maps.has (Sd ts) (.int .i64 x) = ts.contains x := by
 unfold Sd
 rw [has_setOf _ _ _ (fun y hy => by obtain ⟨_, _, rfl⟩ := List.mem_map.1 hy; trivial), List.any_map]
 exact any_int x _
theorem Sd_snoc (ts : List Int) (x : Int) : Sd (ts ++ [x]) = (Sd ts).put (.int .i64 x) (.agg []) := by
 unfold Sd
 rw [List.map_append]
 exact setOf_snoc _ _ _
theorem makeHint (n : Nat) (w : World) : (Instr.makeMap 175 (some (.int .i64 (n : Int)))).run Tryz.prog w = .ok (.map (some w.heap.size)) (w.alloc (.map #[] 0)) := by
 simp [Instr.makeMap, run_underlying Tryz.underlying175, go_sem]
set_option maxRecDepth 20000 in
theorem most_any (b l i a c d e f g : Int) (w : World) (hl : 32 ≤ l ∧ l ≤ 256) :
  Calls Tryz.prog 131 #[.agg (lay9 b l i a c d e f g)] w fun e' w' => e' = .returned (.int .i64 (l - 1)) ∧ Below w.heap.size w w' := by
 unfold lay9
 go_enter Tryz.func131, Tryz.ntmps131
 go_wp2
 go_ret
 refine ⟨?_, below_new _ _⟩
 congr 2
set_option maxRecDepth 20000 in
set_option maxHeartbeats 2000000 in
theorem may_any (b l i a c d e f g : Int) (ts : List Int) (p : Option Addr) (cap : Nat) (w : World) (hl : 32 ≤ l ∧ l ≤ 256) (hlen : ts.length < 9223372036854775807) (hts : IntsAt w p ts) (hwf : WfI ts) :
  Calls Tryz.prog 127 #[.agg (lay9 b l i a c d e f g), .slice p ts.length cap] w fun e' w' => e' = .returned (.bool (mayB c b (l - 1) ts)) ∧ Below w.heap.size w w' := by
 have hc := fun w => most_any b l i a c d e f g w hl
 have hmm := makeHint
 have e1 : (w.alloc (.cells (lay9 b l i a c d e f g) 59)).heap[w.heap.size]? = some (.cells (lay9 b l i a c d e f g) 59) := heap_alloc_new _ _
 have e2 := fun (W1 : World) (h : W1.heap[w.heap.size]? = some (.cells (lay9 b l i a c d e f g) 59)) => lay_cells h
 obtain ⟨n, hn⟩ : ∃ n, ts.length = n := ⟨_, rfl⟩
 have HT : Hid (IntsAt w p ts ∧ WfI ts ∧ ts.length = n) := ⟨hts, hwf, hn⟩
 rw [hn]
 rw [hn] at hlen
 clear hts hwf hn
 obtain ⟨m, hm⟩ : ∃ m, m = l - 1 := ⟨_, rfl⟩
 have hm2 : 27 ≤ m ∧ m ≤ 255 := by omega
 rw [← hm]
 simp only [← hm] at hc
 clear hm hl
 by_cases hbig : (n : Int) > m
 ·have er : mayB c b m ts = false := decide_eq_false fun q => by have := q.1; have := HT.out.2.2; omega
  rw [er]
  have g0 : decide (m < (n : Int)) = true := decide_eq_true hbig
  unfold lay9 at *
  go_enter Tryz.func127, Tryz.ntmps127
  go_wp2_with (first | (go_at_call 131; fail))
  refine (hc _).mono ?_
  rintro e' W1 ⟨rfl, hb1⟩
  have HB : Hid (Below w.heap.size w W1) := below_next (below_new _ _) hb1
  clear hb1 hc e1 e2 hmm
  go_wp2
  go_ret
  exact ⟨rfl, HB.out⟩
 ·have g0 : decide (m < (n : Int)) = false := decide_eq_false hbig
  generalize hq : mayB c b m ts = res
  have HQ : Hid (mayB c b m ts = res) := hq
  clear hq
  unfold lay9 at *
  go_enter Tryz.func127, Tryz.ntmps127
  go_wp2_with (first | (go_at_call 131; fail))
  refine (hc _).mono ?_
  rintro e' W1 ⟨rfl, hb1⟩
  have HB : Hid (Below w.heap.size w W1 ∧ W1.heap[w.heap.size]? = some (.cells #[.int .i64 b, .int .i64 l, .int .i64 i, .int .i64 a, .int .i64 c, .int .i64 d, .int .i64 e, .int .i64 f, .int .i64 g] 59) ∧ w.heap.size < W1.heap.size) :=
   ⟨below_next (below_new _ _) hb1, heap_kept e1 hb1, by have := hb1.size; simp at this; omega⟩
  clear hb1 hc e1
  go_wp2
  go_loopw [20] (fun s20 wr => ∃ k : Nat, k ≤ n ∧ s20 = .int .i64 k ∧ Hid (wr.ownsMap Tryz.prog 3 unitElem W1.heap.size k (Sd (ts.take k))) ∧ Hid (Below W1.heap.size W1 wr) ∧ Hid ((∀ t ∈ ts.take k, c ≤ t ∧ t < b) ∧ (ts.take k).Nodup))
   (fun s20 _ => n - (intOf s20).toNat)
  case atStart => exact ⟨0, by omega, rfl, World.ownsMap_made _ _ _ _, below_new _ _, by simp; exact trivial⟩
  case round =>
   obtain ⟨k, hk, rfl, Hown, HW, HG⟩ := hrel
   by_cases hk2 : (k : Int) < n
   ·obtain ⟨hts, hwf, hn⟩ := HT.out
    have hx : ts[k]? = some ts[k] := List.getElem?_eq_getElem (by omega)
    have htk : ts.take (k + 1) = ts.take k ++ [ts[k]] := by rw [List.take_add_one, hx]; rfl
    have hmem : ts[k] ∈ ts := List.getElem_mem _
    have hxw := hwf _ hmem
    obtain ⟨b1, o1, rfl, l1, C1⟩ := hts (by omega)
    generalize ts[k] = x at hx htk hmem hxw
    have hs1 := HB.out.1.size
    have q1 : wr.cell? ⟨b1, o1 + k, none⟩ = some (.int .i64 x) := (HW.out.cell (p := ⟨b1, o1 + k, none⟩) (by show b1 < W1.heap.size; omega)).trans ((HB.out.1.cell (p := ⟨b1, o1 + k, none⟩) l1).trans (C1 k x hx))
    obtain ⟨c0, c1, c2, c3, c4, c5, c6, c7, c8, hlt⟩ := e2 wr (heap_kept HB.out.2.1 HW.out)
    have hkey : keyOf Tryz.prog 3 (.int .i64 x) = some (.int .i64 x) := keyOf_int_mk Tryz.underlying3 hxw
    have hhas := has_Sd (ts.take k) x
    have hown := Hown.out
    have hr : (x ∈ ts.take k ∨ x < c ∨ b ≤ x) → res = false := fun h => by
     rw [← HQ.out]
     refine decide_eq_false fun q => ?_
     rcases h with h | h | h
     ·have q3 := q.2.2
      rw [← List.take_append_drop (k + 1) ts, htk] at q3
      exact (List.nodup_append.1 (List.nodup_append.1 q3).1).2.2 x h x (by simp) rfl
     ·have := q.2.1 x hmem; omega
     ·have := q.2.1 x hmem; omega
    have hD : Sd (ts.take (k + 1)) = (Sd (ts.take k)).put (.int .i64 x) (.agg []) := by rw [htk]; exact Sd_snoc _ _
    generalize Sd (ts.take k) = D at *
    have HX : Hid (ts.take (k + 1) = ts.take k ++ [x] ∧ Sd (ts.take (k + 1)) = D.put (.int .i64 x) (.agg [])) := ⟨htk, hD⟩
    have HWB : Hid (Below w.heap.size w wr) := HB.out.1.trans (HW.out.mono hs1)
    clear e2 hx htk hmem hxw hwf hts hn C1 hD
    by_cases h1 : (ts.take k).contains x = true
    ·have hres := hr (.inl (List.contains_iff_mem.1 h1))
     rw [h1] at hhas
     subst hres
     clear hr h1 HQ
     go_wp2_with (first
      | (at_lookup; refine wpList_lookup_own_unit _ rfl _ _ 175 rfl 3 176 lawK Tryz.underlying175 (zero70 _) W1.heap.size k _ rfl hown _ _ rfl hkey ?_; rw [hhas])
      | go_in)
     go_ret
     exact ⟨rfl, HWB.out.alloc HWB.out.size _⟩
    ·have h1 : (ts.take k).contains x = false := by simpa using h1
     rw [h1] at hhas
     by_cases h2 : x < c ∨ b ≤ x
     ·have hres := hr (.inr h2)
      subst hres
      clear hr h1 HQ
      rcases h2 with h2 | h2
      ·have g2 : decide (x < c) = true := decide_eq_true h2
       clear h2
       go_wp2_with (first
        | (at_lookup; refine wpList_lookup_own_unit _ rfl _ _ 175 rfl 3 176 lawK Tryz.underlying175 (zero70 _) W1.heap.size k _ rfl hown _ _ rfl hkey ?_; rw [hhas])
        | go_in)
       go_ret
       exact ⟨rfl, HWB.out.alloc HWB.out.size _⟩
      ·have g3 : decide (b ≤ x) = true := decide_eq_true h2
       clear h2
       go_wp2_with (first
        | (at_lookup; refine wpList_lookup_own_unit _ rfl _ _ 175 rfl 3 176 lawK Tryz.underlying175 (zero70 _) W1.heap.size k _ rfl hown _ _ rfl hkey ?_; rw [hhas])
        | go_in)
       all_goals
        go_ret
        exact ⟨rfl, HWB.out.alloc HWB.out.size _⟩
     ·have g2 : decide (x < c) = false := decide_eq_false (by omega)
      have g3 : decide (b ≤ x) = false := decide_eq_false (by omega)
      have HG2 : Hid ((∀ t ∈ ts.take (k + 1), c ≤ t ∧ t < b) ∧ (ts.take (k + 1)).Nodup) := by
       have h1' : x ∉ ts.take k := fun q => by rw [List.contains_iff_mem.2 q] at h1; cases h1
       rw [show ts.take (k + 1) = ts.take k ++ [x] from HX.out.1]
       refine ⟨fun t ht => ?_, List.nodup_append.2 ⟨HG.out.2, by simp, fun y hy z hz e => ?_⟩⟩
       ·rcases List.mem_append.1 ht with ht | ht
        ·exact HG.out.1 t ht
        ·rw [List.mem_singleton.1 ht]; omega
       ·rw [List.mem_singleton.1 hz] at e; exact h1' (e ▸ hy)
      clear hr h1 h2
      have hkm : k < maxLen := by unfold maxLen; omega
      go_wp2_with (first
       | (at_lookup; refine wpList_lookup_own_unit _ rfl _ _ 175 rfl 3 176 lawK Tryz.underlying175 (zero70 _) W1.heap.size k _ rfl hown _ _ rfl hkey ?_; rw [hhas])
       | (at_mapUpdate; refine wpList_mapUpdate_own _ rfl _ _ _ 175 rfl 3 176 lawK Tryz.underlying175 (unitElem (H := Unit)) W1.heap.size k _ rfl (hown.alloc _) hkm _ _ _ rfl rfl hkey _ [] unitElem_mk ?_; intro w1 hown1 hgrow1)
       | go_in)
      go_roundw
      case rel =>
       refine ⟨k + 1, by omega, by go_num, ?_, ?_, HG2.out⟩
       ·have := HX.out.2
        rw [this]
        exact hown1
       ·exact (HW.out.alloc HW.out.size _).grown hgrow1 (by have := HW.out.size; simp; omega) (fun j hj => by cases hj; exact Nat.le_refl _)
      case measure => simp [intOf]; omega
   ·obtain rfl : k = n := by omega
    have hres : res = true := by
     rw [← HQ.out]
     have hn := HT.out.2.2
     have hg := HG.out
     rw [List.take_of_length_le (by omega)] at hg
     exact decide_eq_true ⟨by omega, hg.1, hg.2⟩
    subst hres
    have HWB : Hid (Below w.heap.size w wr) := HB.out.1.trans (HW.out.mono HB.out.1.size)
    clear HQ e2
    go_wp2
    go_ret
    exact ⟨rfl, HWB.out⟩
end Go.Proofs.YtichojdcoegboaaGreatW.H
