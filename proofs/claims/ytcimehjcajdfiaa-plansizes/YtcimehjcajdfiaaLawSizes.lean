/- PlanSizes answers true, of any number; no condition. -/
import Derived.Test.YtcimehjcajdfiaaNums
namespace Go.Proofs.Ytcimehjcajdfiaa
open Go.RowKit
set_option maxHeartbeats 400000 in
theorem law_sizes (n : Int) (hn : I64 n) (w : World) : Calls Try.prog 4 #[.int .i64 n] w fun e w' => e = .returned (.bool true) ∧ Below w.heap.size w w' := by
  have hw := way_any n
  have hr := refWay_any n
  unfold wayA way3 at hw hr
  generalize depthN n = d at *
  generalize firstN n = f at *
  generalize secondN n = s at *
  have g1 : (blocksN n == blocksN n) = true := by simp
  have g2 : (groupN n == groupN n) = true := by simp
  go_enter Try.func4, Try.ntmps4
  go_wp2_with (first
    | (go_at_call 13; refine (blocks_any n hn _).mono ?_; rintro e W ⟨rfl, rfl⟩)
    | (go_at_call 14; refine (refBlocks_any n hn _).mono ?_; rintro e W ⟨rfl, rfl⟩)
    | (go_at_call 15; refine (group_any n hn _).mono ?_; rintro e W ⟨rfl, rfl⟩)
    | (go_at_call 16; refine (refGroup_any n hn _).mono ?_; rintro e W ⟨rfl, rfl⟩)
    | (go_at_call 17; fail))
  refine (hw _).mono ?_
  rintro e W1 ⟨rfl, hb1⟩
  go_wp2_with (first | (go_at_call 18; fail))
  refine (hr _).mono ?_
  rintro e W2 ⟨rfl, hb2⟩
  go_wp2
  go_ret
  exact ⟨rfl, below_next hb1 hb2⟩
end Go.Proofs.Ytcimehjcajdfiaa
