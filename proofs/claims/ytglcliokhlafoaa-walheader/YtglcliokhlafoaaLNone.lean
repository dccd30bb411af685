/- What is no log is refused by every call; a step ends; no condition. -/
import Derived.Test.YtglcliokhlafoaaLWrite
namespace Go.Proofs.Ytglcliokhlafoaa
open Go.RowKit Go.Maps
variable {w W : World} {g d c mb : Nat} {v : Value} {x : LSt} {s : CSt} {t : St} {os ks : List (Nat × Obj)} {base : Nat} {book : Int → Nat → Int}
theorem beginL_none {v : Value} (h : NoneAt W v) (r : Int) : Calls Try.prog 22 #[v, .int .i64 r] W fun e W' => e = .returned (.int .i64 1) ∧ W' = W := by
  have h0 := refusesL_none h false
  go_enter Try.func22, Try.ntmps22
  go_wp2_with (first | (go_at_call 49; refine h0.mono ?_; rintro e W ⟨rfl, rfl⟩))
  go_ret
  exact ⟨rfl, rfl⟩
theorem endL_none {v : Value} (h : NoneAt W v) : Calls Try.prog 25 #[v] W fun e W' => e = .returned (.int .i64 1) ∧ W' = W := by
  have h0 := refusesL_none h true
  go_enter Try.func25, Try.ntmps25
  go_wp2_with (first | (go_at_call 49; refine h0.mono ?_; rintro e W ⟨rfl, rfl⟩))
  go_ret
  exact ⟨rfl, rfl⟩
theorem syncL_none {v : Value} (h : NoneAt W v) : Calls Try.prog 28 #[v] W fun e W' => e = .returned (.int .i64 1) ∧ W' = W := by
  have h0 := refusesL_none h false
  go_enter Try.func28, Try.ntmps28
  go_wp2_with (first | (go_at_call 49; refine h0.mono ?_; rintro e W ⟨rfl, rfl⟩))
  go_ret
  exact ⟨rfl, rfl⟩
theorem retL {fn : Func} {p : Tmp} {R : Ending → World → Prop} {a : Act} {w : World} (h : fn.results = #[.cell p 30]) (g : Nat) (cs : Array Value) (hs : cs.size = 9)
    (hp : a.tmps.getD p undef = .pointer (some ⟨g, 0, none⟩)) (hg : w.heap[g]? = some (.cells cs 30)) (hd : a.defers = []) (hR : R (.returned (.agg cs)) w) : bodyPost Try.prog fn R .ret a w :=
  bodyPost_ret (results_cell_row h a.tmps w g 30 cs (0, 0) _ hp hg Try.underlying30 rfl (by rw [hs]; exact H.size25L)) hd hR
theorem endL_ref (h : LogSit w W g d x s t ks) {e0 : Int} (hr : refL x t true = e0) (h0 : e0 ≠ 0) : Calls Try.prog 25 #[ptr g] W fun e W' => e = .returned (.int .i64 e0) ∧ LogSit w W' g d x s t ks := by
  obtain ⟨c, mb, v, os, h⟩ := h
  have hc : Calls Try.prog 49 #[ptr g, .bool true] W fun e W' => e = .returned (.int .i64 e0) ∧ LogSit w W' g d x s t ks := by
    refine (h.refuses true).mono ?_
    rintro e W' ⟨rfl, m, rfl⟩
    exact ⟨by rw [hr], c, mb, v, os, h.later (below_drewN _ m)⟩
  clear h hr
  unfold ptr at *
  go_enter Try.func25, Try.ntmps25
  go_wp2_with (first | (go_at_call 49; refine hc.mono ?_; rintro e W1 ⟨rfl, h1⟩))
  go_ret
  exact ⟨rfl, h1⟩
def endX (x : LSt) : LSt := { x with opn := false, steps := x.steps + 1 }
theorem endL_ok (h : LogSit w W g d x s t ks) (hr : refL x t true = 0) (hst : 0 ≤ x.steps ∧ x.steps ≤ 1099511627776) : Calls Try.prog 25 #[ptr g] W fun e W' => e = .returned (.int .i64 0) ∧ LogSit w W' g d (endX x) s t ks := by
  obtain ⟨c, mb, v, os, h⟩ := h
  have hc : Calls Try.prog 49 #[ptr g, .bool true] W fun e W' => e = .returned (.int .i64 0) ∧ W'.cell? ⟨g, 15, none⟩ = some (.bool x.opn) ∧ W'.cell? ⟨g, 18, none⟩ = some (.int .i64 x.steps) ∧ W'.frozen? ⟨g, 15, none⟩ = false ∧ W'.frozen? ⟨g, 18, none⟩ = false ∧ Hid (LogSit w W' g d x s t ks) := by
    refine (h.refuses true).mono ?_
    rintro e W' ⟨rfl, m, rfl⟩
    have h1 := h.later (below_drewN _ m)
    exact ⟨by rw [hr], h1.log.c15, h1.log.c18, h1.log.free 15, h1.log.free 18, c, mb, v, os, h1⟩
  clear h hr
  unfold ptr at *
  go_enter Try.func25, Try.ntmps25
  go_wp2_with (first | (go_at_call 49; refine hc.mono ?_; rintro e W1 ⟨rfl, c15, c18, f15, f18, h1⟩))
  go_ret
  exact ⟨rfl, (h1.out.setOpn false).setSteps (x.steps + 1)⟩
theorem LogI.ends (h : LogI w W g d x t book ks) (hr : refL x t true = 0) (hst : x.steps < 1099511627776) : Calls Try.prog 25 #[ptr g] W fun e W' => e = .returned (.int .i64 0) ∧ LogI w W' g d (endX x) t book ks := by
  obtain ⟨s, h1, h2⟩ := h
  refine (endL_ok h1 hr h2.steps).mono ?_
  rintro e W' ⟨rfl, h3⟩
  exact ⟨rfl, s, h3, h2.fine, h2.c, h2.nd, h2.rng, h2.fast, h2.last, h2.len, ⟨by have := h2.steps; show 0 ≤ x.steps + 1; omega, by show x.steps + 1 ≤ _; omega⟩, h2.commits, h2.room, fun q => by cases q⟩
end Go.Proofs.Ytglcliokhlafoaa
