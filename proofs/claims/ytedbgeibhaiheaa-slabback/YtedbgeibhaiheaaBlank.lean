/- Blank of slab and of the document: is every byte nought; for every block. -/
import Derived.Test.YtedbgeibhaiheaaLay
namespace Go.Proofs.Ytedbgeibhaiheaa
open Go.RowKit

set_option maxRecDepth 20000 in
set_option maxHeartbeats 400000 in
theorem blank_any (f : Nat → Int) (w : World) :
    Calls Try.prog 25 #[.agg (blk f)] w fun e w' => e = .returned (.bool (sameB f nought)) ∧ Below w.heap.size w w' := by
  have z25 := zero25
  have hq := eq25
  have hbd : ∀ u : World, (Instr.build 25 #[]).run Try.prog u = .ok (.agg (blk nought)) u := fun u => by
    simp [Instr.build, z25, run_underlying Try.underlying25, Try.sizeOf5, Instr.fill, Value.cells]
  go_enter Try.func25, Try.ntmps25
  go_wp2_with (first | refine wpList_load25 rfl _ rfl _ rfl _ (heap_alloc_new _ _) ?_)
  go_ret
  exact ⟨rfl, (Below.refl _ _).alloc (Nat.le_refl _) _⟩

set_option maxRecDepth 20000 in
set_option maxHeartbeats 400000 in
theorem refBlank_any (f : Nat → Int) (w : World) :
    Calls Try.prog 26 #[.agg (blk f)] w fun e w' => e = .returned (.bool (sameB f nought)) ∧ Below w.heap.size w w' := by
  go_enter Try.func26, Try.ntmps26
  go_wp2
  go_loop [3] (fun s3 => ∃ k : Nat, (k : Int) ≤ 1024 ∧ s3 = .int .i64 k ∧ Hid (∀ i, i < k → f i = 0)) (fun s3 => 1024 - (intOf s3).toNat)
  case atStart => exact ⟨0, by omega, rfl, fun i hi => absurd hi (by omega)⟩
  case round =>
    obtain ⟨k, hk, rfl, hz⟩ := hrel
    by_cases hk2 : (k : Int) < 1024
    · have hbk := blk_get f k (by omega)
      by_cases h0 : f k = 0
      · have HZ : Hid (∀ i, i < k + 1 → f i = 0) := fun i hi => by
          by_cases e : i = k
          · rw [e]; exact h0
          · exact hz.out i (by omega)
        have hb : (f k != 0) = false := by simp [h0]
        clear hz h0
        go_wp2
        go_round
        case rel => exact ⟨k + 1, by omega, by go_num, HZ⟩
        case measure => simp [intOf]; omega
      · have HS : Hid (sameB f nought = false) := by
          show _ = _
          cases h : sameB f nought with
          | false => rfl
          | true => exact absurd ((sameB_iff f nought).1 h k (by omega)) h0
        have hb : (f k != 0) = true := by simp [h0]
        clear hz h0
        go_wp2
        go_ret
        exact ⟨by rw [HS.out]; rfl, (Below.refl _ _).alloc (Nat.le_refl _) _⟩
    · have HS : Hid (sameB f nought = true) := (sameB_iff f nought).2 fun i hi => hz.out i (by omega)
      clear hz
      go_wp2
      go_ret
      exact ⟨by rw [HS.out]; rfl, (Below.refl _ _).alloc (Nat.le_refl _) _⟩
end Go.Proofs.Ytedbgeibhaiheaa
