/- All of bits: the function value that goes over the bits that are set; for every block of bytes and every span. -/
import Derived.Test.YtplgelhfombhkaaLawFirst
import Derived.StillTailTactics
namespace Go.Proofs.Ytplgelhfombhkaa
open Go.RowKit

set_option maxRecDepth 20000 in
set_option maxHeartbeats 1000000 in
theorem all_any (f : Nat → Int) (x y : Int) (w : World) :
    Calls Try.prog 27 #[.agg (blk f), .int .i64 x, .int .i64 y] w fun e w' => e = .returned (.func (.func 28) #[] #[.pointer (some ⟨w.heap.size + 1, 0, none⟩), .pointer (some ⟨w.heap.size + 1 + 1, 0, none⟩), .pointer (some ⟨w.heap.size, 0, none⟩)]) ∧
      w'.heap[w.heap.size]? = some (.cells (blk f) 23) ∧ w'.cell? ⟨w.heap.size + 1, 0, none⟩ = some (.int .i64 (ins x)) ∧ w'.cell? ⟨w.heap.size + 1 + 1, 0, none⟩ = some (.int .i64 (ins y)) ∧ Below w.heap.size w w' := by
  have hix := fun w => inside_any x w
  have hiy := fun w => inside_any y w
  go_enter Try.func27, Try.ntmps27
  go_wp2
  have hb0 : Below w.heap.size w (((w.alloc (.cells (blk f) 23)).alloc (.cells #[.int .i64 x] 3)).alloc (.cells #[.int .i64 y] 3)).drew := ((below_two w _ _).alloc (by simp; omega) _).drew
  have h0 : (((w.alloc (.cells (blk f) 23)).alloc (.cells #[.int .i64 x] 3)).alloc (.cells #[.int .i64 y] 3)).drew.heap[w.heap.size]? = some (.cells (blk f) 23) := heap_kept (heap_alloc2_old w _ (.cells #[.int .i64 x] 3)) (below_new _ (.cells #[.int .i64 y] 3)).drew
  have h1 : (((w.alloc (.cells (blk f) 23)).alloc (.cells #[.int .i64 x] 3)).alloc (.cells #[.int .i64 y] 3)).drew.heap[w.heap.size + 1]? = some (.cells #[.int .i64 x] 3) := heap_kept (heap_alloc2_new w (.cells (blk f) 23) _) (below_new _ (.cells #[.int .i64 y] 3)).drew
  have h2 : (((w.alloc (.cells (blk f) 23)).alloc (.cells #[.int .i64 x] 3)).alloc (.cells #[.int .i64 y] 3)).drew.heap[w.heap.size + 1 + 1]? = some (.cells #[.int .i64 y] 3) := by
    have := heap_alloc2_new (w.alloc (.cells (blk f) 23)) (.cells #[.int .i64 x] 3) (.cells #[.int .i64 y] 3)
    rwa [World.size_alloc] at this
  refine wp_region_still_tail 4 (by kernel_rfl) (by kernel_rfl) ?_
  simp only [List.take_succ_cons, List.take_zero, List.drop_succ_cons, List.drop_zero]
  change wpStill _ _ (World.drew _) (fun a' => wpList _ _ _ _ a' (World.drew _)) _ _
  generalize (((w.alloc (.cells (blk f) 23)).alloc (.cells #[.int .i64 x] 3)).alloc (.cells #[.int .i64 y] 3)).drew = Y at hb0 h0 h1 h2 ⊢
  have c1 : Y.cell? ⟨w.heap.size + 1, 0, none⟩ = some (.int .i64 x) := by rw [cell_of_row Y _ _ _ 3 _ h1]; rfl
  have c2 : Y.cell? ⟨w.heap.size + 1 + 1, 0, none⟩ = some (.int .i64 y) := by rw [cell_of_row Y _ _ _ 3 _ h2]; rfl
  have f1 : Y.frozen? ⟨w.heap.size + 1, 0, none⟩ = false := frozen_of_row Y _ 0 _ 3 h1
  have f2 : Y.frozen? ⟨w.heap.size + 1 + 1, 0, none⟩ = false := frozen_of_row Y _ 0 _ 3 h2
  have H0 := (show Hid _ from h0)
  have HB0 := (show Hid _ from hb0)
  clear h0 h1 h2 hb0
  repeat (first | still_step | still_call (hix _) | still_call (hiy _))
  refine wpStill_nil ?_
  clear hix hiy
  go_wp2
  go_ret
  refine ⟨rfl, (heap_setCell_other _ _ _ _ (by simp; omega)).trans ((heap_setCell_other _ _ _ _ (by simp)).trans H0.out), ?_, ?_, (HB0.out.setCell (p := ⟨w.heap.size + 1, 0, none⟩) (by simp) _).setCell (p := ⟨w.heap.size + 1 + 1, 0, none⟩) (by simp; omega) _⟩
  · rw [World.cell?_setCell_other _ _ _ _ (by simp)]
    exact World.cell?_setCell_same' _ _ _ (by rw [c1]; rfl)
  · exact World.cell?_setCell_same' _ _ _ (by rw [World.cell?_setCell_other _ _ _ _ (by simp), c2]; rfl)
end Go.Proofs.Ytplgelhfombhkaa
