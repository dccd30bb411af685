/- What is no log is refused by every call; a step ends; no condition. -/
import Derived.Test.YtahaiciciljijaaLWrite
namespace Go.Proofs.Ytahaiciciljijaa
open Go.RowKit Go.Maps
variable {w W : World} {g d c mb : Nat} {v : Value} {x : LSt} {s : CSt} {t : St} {os ks : List (Nat × Obj)} {base : Nat} {book : Int → Nat → Int}
theorem beginL_none {v : Value} (h : NoneAt W v) (r : Int) : Calls Try.prog 29 #[v, .int .i64 r] W fun e W' => e = .returned (.int .i64 1) ∧ W' = W := by
  have h0 := refusesL_none h false
  go_enter Try.func29, Try.ntmps29
  go_wp2_with (first | (go_at_call 61; refine h0.mono ?_; rintro e W ⟨rfl, rfl⟩))
  go_ret
  exact ⟨rfl, rfl⟩
theorem endL_none {v : Value} (h : NoneAt W v) : Calls Try.prog 32 #[v] W fun e W' => e = .returned (.int .i64 1) ∧ W' = W := by
  have h0 := refusesL_none h true
  go_enter Try.func32, Try.ntmps32
  go_wp2_with (first | (go_at_call 61; refine h0.mono ?_; rintro e W ⟨rfl, rfl⟩))
  go_ret
  exact ⟨rfl, rfl⟩
theorem syncL_none {v : Value} (h : NoneAt W v) : Calls Try.prog 25 #[v] W fun e W' => e = .returned (.int .i64 1) ∧ W' = W := by
  have h0 := refusesL_none h false
  go_enter Try.func25, Try.ntmps25
  go_wp2_with (first | (go_at_call 61; refine h0.mono ?_; rintro e W ⟨rfl, rfl⟩))
  go_ret
  exact ⟨rfl, rfl⟩
theorem closeL_none {v : Value} (h : NoneAt W v) : Calls Try.prog 27 #[v] W fun e W' => e = .returned (.int .i64 1) ∧ W' = W := by
  have h0 := syncL_none h
  go_enter Try.func27, Try.ntmps27
  go_wp2_with (first | (go_at_call 25; refine h0.mono ?_; rintro e W ⟨rfl, rfl⟩))
  go_ret
  exact ⟨rfl, rfl⟩
theorem openL_none {v : Value} (h : NoneAt W v) : Calls Try.prog 48 #[v] W fun e W' => e = .returned (.bool false) ∧ W' = W := by
  have h0 := check_none h
  go_enter Try.func48, Try.ntmps48
  go_wp2_with (first | (go_at_call 20; refine h0.mono ?_; rintro e W ⟨rfl, rfl⟩))
  go_ret
  exact ⟨rfl, rfl⟩
theorem LS.openL (h : LS w W g d c mb v x s t os ks) : Calls Try.prog 48 #[ptr g] W fun e W' => e = .returned (.bool (decide (chkE x t = 0) && x.opn)) ∧ ∃ m, W' = W.drewN m := by
  have h0 := h.check
  have c1 : ∀ m, (W.drewN m).cell? ⟨g, 15, none⟩ = some (.bool x.opn) := fun m => (h.log.later (below_drewN W m)).c15
  clear h
  unfold ptr at *
  by_cases hc : chkE x t = 0
  · rw [decide_eq_true hc]
    rw [hc] at h0
    go_enter Try.func48, Try.ntmps48
    go_wp2_with (first | (go_at_call 20; refine h0.mono ?_; rintro e W1 ⟨rfl, m, rfl⟩; have c1 := c1 m))
    go_ret
    exact ⟨by simp, _, rfl⟩
  · rw [decide_eq_false hc]
    have hc3 : chkE x t = 3 := by unfold chkE at hc ⊢; split at hc <;> simp_all
    rw [hc3] at h0
    go_enter Try.func48, Try.ntmps48
    go_wp2_with (first | (go_at_call 20; refine h0.mono ?_; rintro e W1 ⟨rfl, m, rfl⟩))
    go_ret
    exact ⟨by simp, _, rfl⟩
theorem retL {fn : Func} {p : Tmp} {R : Ending → World → Prop} {a : Act} {w : World} (h : fn.results = #[.cell p 31]) (g : Nat) (cs : Array Value) (hs : cs.size = 9)
    (hp : a.tmps.getD p undef = .pointer (some ⟨g, 0, none⟩)) (hg : w.heap[g]? = some (.cells cs 31)) (hd : a.defers = []) (hR : R (.returned (.agg cs)) w) : bodyPost Try.prog fn R .ret a w :=
  bodyPost_ret (results_cell_row h a.tmps w g 31 cs (0, 0) _ hp hg Try.underlying31 rfl (by rw [hs]; exact H.size25L)) hd hR
theorem layoutL_none {v : Value} (h : NoneAt W v) : Calls Try.prog 47 #[v] W fun e W' => e = .returned H.layZ ∧ Below W.heap.size W W' := by
  have h0 : Calls Try.prog 20 #[v] (W.alloc (.cells (H.lay9 0 0 0 0 0 0 0 0 0) 31)) fun e W' => e = .returned (.int .i64 1) ∧ W' = W.alloc (.cells (H.lay9 0 0 0 0 0 0 0 0 0) 31) := check_none (h.later (below_new _ _))
  have hb := below_new W (.cells (H.lay9 0 0 0 0 0 0 0 0 0) 31)
  unfold H.layZ
  unfold H.lay9 at *
  go_enter Try.func47, Try.ntmps47
  go_wp2_with (first | (go_at_call 20; refine h0.mono ?_; rintro e W1 ⟨rfl, rfl⟩))
  exact retL rfl W.heap.size _ rfl rfl (heap_alloc_new _ _) rfl ⟨rfl, hb⟩
theorem readL_none {v : Value} (h : NoneAt W v) (k : Int) : Calls Try.prog 24 #[v, .int .i64 k] W fun e W' => e = .returned (.tuple #[.agg (blk nought), .int .i64 1]) ∧ Below W.heap.size W W' := by
  have z25 := zero25
  have h0 : Calls Try.prog 20 #[v] (W.alloc (.cells (blk nought) 23)) fun e W' => e = .returned (.int .i64 1) ∧ W' = W.alloc (.cells (blk nought) 23) := check_none (h.later (below_new _ _))
  have hb := below_new W (.cells (blk nought) 23)
  go_enter Try.func24, Try.ntmps24
  go_wp2_with (first | (go_at_call 20; refine h0.mono ?_; rintro e W1 ⟨rfl, rfl⟩) | refine H.wpList_build30w rfl rfl ?_ | refine wpList_store25 rfl (.tmp 4) (.tmp 11) rfl W.heap.size _ rfl rfl _ (heap_alloc_new _ _) ?_)
  exact retBT rfl W.heap.size nought rfl (setRow_heap _ _ _ _ _ _ (heap_alloc_new _ _)) rfl ⟨rfl, below_setRow hb (Nat.le_refl _) _⟩
theorem endL_ref (h : LogSit w W g d x s t ks) {e0 : Int} (hr : refL x t true = e0) (h0 : e0 ≠ 0) : Calls Try.prog 32 #[ptr g] W fun e W' => e = .returned (.int .i64 e0) ∧ LogSit w W' g d x s t ks := by
  obtain ⟨c, mb, v, os, h⟩ := h
  have hc : Calls Try.prog 61 #[ptr g, .bool true] W fun e W' => e = .returned (.int .i64 e0) ∧ LogSit w W' g d x s t ks := by
    refine (h.refuses true).mono ?_
    rintro e W' ⟨rfl, m, rfl⟩
    exact ⟨by rw [hr], c, mb, v, os, h.later (below_drewN _ m)⟩
  clear h hr
  unfold ptr at *
  go_enter Try.func32, Try.ntmps32
  go_wp2_with (first | (go_at_call 61; refine hc.mono ?_; rintro e W1 ⟨rfl, h1⟩))
  go_ret
  exact ⟨rfl, h1⟩
def endX (x : LSt) : LSt := { x with opn := false, steps := x.steps + 1 }
theorem endL_ok (h : LogSit w W g d x s t ks) (hr : refL x t true = 0) (hst : 0 ≤ x.steps ∧ x.steps ≤ 1099511627776) : Calls Try.prog 32 #[ptr g] W fun e W' => e = .returned (.int .i64 0) ∧ LogSit w W' g d (endX x) s t ks := by
  obtain ⟨c, mb, v, os, h⟩ := h
  have hc : Calls Try.prog 61 #[ptr g, .bool true] W fun e W' => e = .returned (.int .i64 0) ∧ W'.cell? ⟨g, 15, none⟩ = some (.bool x.opn) ∧ W'.cell? ⟨g, 18, none⟩ = some (.int .i64 x.steps) ∧ W'.frozen? ⟨g, 15, none⟩ = false ∧ W'.frozen? ⟨g, 18, none⟩ = false ∧ Hid (LogSit w W' g d x s t ks) := by
    refine (h.refuses true).mono ?_
    rintro e W' ⟨rfl, m, rfl⟩
    have h1 := h.later (below_drewN _ m)
    exact ⟨by rw [hr], h1.log.c15, h1.log.c18, h1.log.free 15, h1.log.free 18, c, mb, v, os, h1⟩
  clear h hr
  unfold ptr at *
  go_enter Try.func32, Try.ntmps32
  go_wp2_with (first | (go_at_call 61; refine hc.mono ?_; rintro e W1 ⟨rfl, c15, c18, f15, f18, h1⟩))
  go_ret
  exact ⟨rfl, (h1.out.setOpn false).setSteps (x.steps + 1)⟩
theorem LogI.ends (h : LogI w W g d x t book ks) (hr : refL x t true = 0) (hst : x.steps < 1099511627776) : Calls Try.prog 32 #[ptr g] W fun e W' => e = .returned (.int .i64 0) ∧ LogI w W' g d (endX x) t book ks := by
  obtain ⟨s, h1, h2⟩ := h
  refine (endL_ok h1 hr h2.steps).mono ?_
  rintro e W' ⟨rfl, h3⟩
  exact ⟨rfl, s, h3, h2.fine, h2.c, h2.nd, h2.rng, h2.fast, h2.last, h2.len, ⟨by have := h2.steps; show 0 ≤ x.steps + 1; omega, by show x.steps + 1 ≤ _; omega⟩, h2.commits, h2.room, fun q => by cases q⟩
end Go.Proofs.Ytahaiciciljijaa
