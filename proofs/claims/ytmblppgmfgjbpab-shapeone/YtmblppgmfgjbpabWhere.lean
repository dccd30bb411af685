/- Where of shape, and the document's: the region of a block; for every layout and block. -/
import Derived.Test.YtmblppgmfgjbpabStands
namespace Go.Proofs.Ytmblppgmfgjbpab
open Go.RowKit

/-- The region of a block: its number. -/
def whereN (b l i a c d e f g k : Int) : Int :=
  if 0 ≤ k ∧ k < b ∧ standsB b l i a c d e f g = true then (if k < a then 1 else if k < c then 2 else if k < e then 3 else if k < g then 4 else 5) else 0
theorem place_any (k : Int) (w : World) (h : 0 ≤ k ∧ k ≤ 100) : Calls Try.prog 16 #[.int .i64 k] w fun e w' => e = .returned (.int .i64 (8 + 4 * k)) ∧ w' = w := by
  obtain ⟨h0, h1⟩ := h
  go_enter Try.func16, Try.ntmps16
  go_wp2
  go_ret
  exact ⟨rfl, rfl⟩
theorem ret23 {fn : Func} {p : Tmp} {R : Ending → World → Prop} {a : Act} {w : World} (h : fn.results = #[.cell p 25]) (g : Nat) (cs : Array Value) (hs : cs.size = 3)
    (hp : a.tmps.getD p undef = .pointer (some ⟨g, 0, none⟩)) (hg : w.heap[g]? = some (.cells cs 25)) (hd : a.defers = []) (hR : R (.returned (.agg cs)) w) : bodyPost Try.prog fn R .ret a w :=
  bodyPost_ret (results_cell_row h a.tmps w g 25 cs (0, 0) _ hp hg Try.underlying25 rfl (by rw [hs]; exact size23G)) hd hR
theorem ret48 {fn : Func} {p : Tmp} {R : Ending → World → Prop} {a : Act} {w : World} (h : fn.results = #[.cell p 43]) (g : Nat) (cs : Array Value) (hs : cs.size = 9)
    (hp : a.tmps.getD p undef = .pointer (some ⟨g, 0, none⟩)) (hg : w.heap[g]? = some (.cells cs 43)) (hd : a.defers = []) (hR : R (.returned (.agg cs)) w) : bodyPost Try.prog fn R .ret a w :=
  bodyPost_ret (results_cell_row h a.tmps w g 43 cs (0, 0) _ hp hg Try.underlying43 rfl (by rw [hs]; kernel_rfl)) hd hR
theorem small_any (w : World) : Calls Try.prog 9 #[] w fun e w' => e = .returned (geoV 400 32 60) ∧ w' = w.alloc (.cells #[.int .i64 400, .int .i64 32, .int .i64 60] 25) := by
  unfold geoV
  go_enter Try.func9, Try.ntmps9
  go_wp2
  exact ret23 rfl w.heap.size _ rfl rfl (heap_alloc_new _ _) rfl ⟨rfl, rfl⟩
set_option maxRecDepth 20000 in
set_option maxHeartbeats 400000 in
theorem numbers_any (b l i a c d e f g : Int) (w : World) :
    Calls Try.prog 14 #[.agg (lay9 b l i a c d e f g)] w fun e' w' => e' = .returned (.agg (lay9 b l i a c d e f g)) ∧ Below w.heap.size w w' := by
  unfold lay9
  go_enter Try.func14, Try.ntmps14
  go_wp2
  refine ret48 rfl (w.heap.size + 1) _ rfl rfl (heap3 _ _ _ _) rfl ⟨rfl, ?_⟩
  repeat refine bel_al ?_ _
  exact Below.refl _ _
end Go.Proofs.Ytmblppgmfgjbpab
