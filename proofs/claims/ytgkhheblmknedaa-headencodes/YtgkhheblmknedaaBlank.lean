/- Blank of slab and of the document: is every byte nought; for every block. -/
import Derived.Test.YtgkhheblmknedaaEq
namespace Go.Proofs.Ytgkhheblmknedaa
open Go.RowKit

set_option maxRecDepth 20000 in
set_option maxHeartbeats 400000 in
theorem blank_any (f : Nat → Int) (w : World) :
    Calls Try.prog 22 #[.agg (blk f)] w fun e w' => e = .returned (.bool (sameB f nought)) ∧ Below w.heap.size w w' := by
  have z25 := zero25
  have hq := eq25
  have hbd : ∀ u : World, (Instr.build 30 #[]).run Try.prog u = .ok (.agg (blk nought)) u := fun u => by
    simp [Instr.build, z25, run_underlying Try.underlying30, Try.sizeOf5, Instr.fill, Value.cells]
  go_enter Try.func22, Try.ntmps22
  go_wp2_with (first | refine wpList_load25 rfl _ rfl _ rfl _ (heap_alloc_new _ _) ?_)
  go_ret
  exact ⟨rfl, (Below.refl _ _).alloc (Nat.le_refl _) _⟩

end Go.Proofs.Ytgkhheblmknedaa
