/- U16 and U32 of slab: the number of the bytes at a place, or nought; for every block of bytes and every place. -/
import Derived.Test.YtadiajcllfahiaaNBlock
import Derived.Test.YtadiajcllfahiaaNNum
import Derived.BigQuiet
namespace Go.Proofs.YtadiajcllfahiaaN
open Go.RowKit

theorem ret_int {k : IntKind} {a b : Int} (h : a = b) : Ending.returned (.int k a) = .returned (.int k b) := by rw [h]

set_option maxRecDepth 20000 in
set_option maxHeartbeats 400000 in
theorem u16_in (f : Nat → Int) (k : Nat) (w : World) (hk : (k : Int) ≤ 1022) (hf : ∀ i, 0 ≤ f i ∧ f i ≤ 255) :
    Calls Try.prog 20 #[.agg (blk f), .int .i64 k] w fun e w' => e = .returned (.int .u16 (f k + 256 * f (k + 1))) ∧ Below w.heap.size w w' := by
  have hb0 := blk_get f k (by omega)
  have hb1 := blk_get f (k + 1) (by omega)
  go_enter Try.func20, Try.ntmps20
  go_wp2
  go_quiet (fail)
  go_wp2
  go_ret
  exact ⟨ret_int (or16 _ _ (hf k) (hf (k + 1))), below_drewN ((Below.refl _ _).alloc (Nat.le_refl _) _) _⟩
set_option maxRecDepth 20000 in
set_option maxHeartbeats 400000 in
theorem u16_out (f : Nat → Int) (k : Int) (w : World) (hk : k < 0 ∨ 1022 < k) :
    Calls Try.prog 20 #[.agg (blk f), .int .i64 k] w fun e w' => e = .returned (.int .u16 0) ∧ Below w.heap.size w w' := by
  rcases hk with hk | hk
  · have hk' : ¬ (0 ≤ k) := by omega
    go_enter Try.func20, Try.ntmps20
    go_wp2
    go_ret
    exact ⟨rfl, (Below.refl _ _).alloc (Nat.le_refl _) _⟩
  · have hk' : ¬ (k ≤ 1022) := by omega
    have hk0 : 0 ≤ k := by omega
    go_enter Try.func20, Try.ntmps20
    go_wp2
    go_ret
    exact ⟨rfl, (Below.refl _ _).alloc (Nat.le_refl _) _⟩
theorem u16_any (f : Nat → Int) (k : Int) (w : World) (hf : ∀ i, 0 ≤ f i ∧ f i ≤ 255) :
    Calls Try.prog 20 #[.agg (blk f), .int .i64 k] w fun e w' => e = .returned (.int .u16 (num f k 2)) ∧ Below w.heap.size w w' := by
  by_cases h : k < 0 ∨ 1022 < k
  · rw [num_out f k 2 (by omega)]; exact u16_out f k w h
  · obtain ⟨m, rfl⟩ := Int.eq_ofNat_of_zero_le (show 0 ≤ k by omega)
    rw [num_in f m 2 (by omega), num2]; exact u16_in f m w (by omega) hf

end Go.Proofs.YtadiajcllfahiaaN
