/- ShapeOne's walk: whatever the two blocks, the call answers true and turns nothing that was there. -/
import Derived.Test.YtmblppgmfgjbpabAwake
namespace Go.Proofs.Ytmblppgmfgjbpab
open Go.RowKit

theorem decB_parts {f : Nat → Int} {n : Int} (h : decB f n = true) : ∃ x0 x1 x2, decV f n = layV x0 x1 x2 ∧ decE f n = 0 ∧ ∀ j, j < 1024 → superF x0 x1 x2 j = f j := by
  refine ⟨_, _, _, if_pos h, if_pos h, ?_⟩
  unfold decB at h
  rw [Bool.and_eq_true] at h
  exact (sameB_iff _ _).1 h.2

set_option maxRecDepth 20000 in
set_option maxHeartbeats 2000000 in
theorem law_one (f1 : Nat → Int) (hf1 : Byte f1) (f2 : Nat → Int) (hf2 : Byte f2) (w : World) :
    Calls Try.prog 3 #[.agg (blk f1), .agg (blk f2)] w fun e w' => e = .returned (.bool true) ∧ Below w.heap.size w w' := by
  have d1 := fun w => decode_any f1 hf1 1048576 w
  have d2 := fun w => decode_any f2 hf2 1048576 w
  have hq := eq25
  clear hf1 hf2
  by_cases h1 : decB f1 1048576 = true
  · obtain ⟨x0, x1, x2, v1, e1, s1⟩ := decB_parts h1
    rw [v1, e1] at d1
    by_cases h2 : decB f2 1048576 = true
    · obtain ⟨y0, y1, y2, v2, e2, s2⟩ := decB_parts h2
      rw [v2, e2] at d2
      clear h1 h2 v1 e1 v2 e2
      have hcase : ((x0 == y0) = false) ∨ (x0 = y0 ∧ (x1 == y1) = false) ∨ (x0 = y0 ∧ x1 = y1 ∧ (x2 == y2) = false) ∨ (x0 = y0 ∧ x1 = y1 ∧ x2 = y2) := by
        simp only [beq_eq_false_iff_ne, ne_eq]
        omega
      have HS : Hid (x0 = y0 ∧ x1 = y1 ∧ x2 = y2 → sameB f1 f2 = true) := fun ⟨a, b, c⟩ => by
        subst a b c
        exact (sameB_iff _ _).2 fun j hj => (s1 j hj).symm.trans (s2 j hj)
      clear s1 s2
      unfold layV lay9 at *
      go_enter Try.func3, Try.ntmps3
      go_wp2_with (first | refine wpList_load35w rfl _ rfl _ rfl _ (heap_alloc2_old _ _ _) ?_ | (go_at_call 4; fail))
      refine (d1 _).mono ?_
      rintro e W1 ⟨rfl, hb1⟩
      have a1 := heap_kept (heap_alloc2_old w _ _) hb1
      have b1 := heap_kept (heap_alloc2_new w _ _) hb1
      have HB1 : Hid (Below w.heap.size w W1) := below_next (bel_al (below_new _ _) _) hb1
      clear hb1 d1
      go_wp2_with (first | refine wpList_load35w rfl _ rfl _ rfl _ (heap_kept b1 (below_new _ _)) ?_ | (go_at_call 4; fail))
      refine (d2 _).mono ?_
      rintro e W2 ⟨rfl, hb2⟩
      have a2 := heap_kept (heap_kept a1 (below_new _ _)) hb2
      have b2 := heap_kept (heap_kept b1 (below_new _ _)) hb2
      have l2 := heap_kept (heap_alloc_new W1 _) hb2
      have HB2 : Hid (Below w.heap.size w W2) := below_next (bel_al HB1.out _) hb2
      obtain ⟨k0, k1, k2, k3, k4, k5, k6, k7, k8, t1⟩ := lay_cells (h0 := W1.heap.size) l2
      clear hb2 d2 HB1 a1 b1 l2
      have a3 := fun o => heap_kept a2 (below_new W2 o)
      have b3 := fun o => heap_kept b2 (below_new W2 o)
      clear a2 b2
      rcases hcase with c0 | ⟨rfl, c1⟩ | ⟨rfl, rfl, c2⟩ | ⟨rfl, rfl, rfl⟩
      · clear HS
        go_wp2_with (first | (go_at_call 5; fail))
        refine (awake_any _).mono ?_
        rintro e W3 ⟨rfl, hb3⟩
        have HB3 : Hid (Below w.heap.size w W3) := below_next (bel_al HB2.out _) hb3
        clear hb3 HB2 a3 b3 k0 k1 k2 k3 k4 k5 k6 k7 k8 t1
        go_wp2
        go_ret
        exact ⟨rfl, HB3.out⟩
      · clear HS
        go_wp2_with (first | (go_at_call 5; fail))
        refine (awake_any _).mono ?_
        rintro e W3 ⟨rfl, hb3⟩
        have HB3 : Hid (Below w.heap.size w W3) := below_next (bel_al HB2.out _) hb3
        clear hb3 HB2 a3 b3 k0 k1 k2 k3 k4 k5 k6 k7 k8 t1
        go_wp2
        go_ret
        exact ⟨rfl, HB3.out⟩
      · clear HS
        go_wp2_with (first | (go_at_call 5; fail))
        refine (awake_any _).mono ?_
        rintro e W3 ⟨rfl, hb3⟩
        have HB3 : Hid (Below w.heap.size w W3) := below_next (bel_al HB2.out _) hb3
        clear hb3 HB2 a3 b3 k0 k1 k2 k3 k4 k5 k6 k7 k8 t1
        go_wp2
        go_ret
        exact ⟨rfl, HB3.out⟩
      · have hs := HS.out ⟨rfl, rfl, rfl⟩
        clear HS
        go_wp2_with (first | refine wpList_load35w rfl _ rfl _ rfl _ (a3 _) ?_ | refine wpList_load35w rfl _ rfl _ rfl _ (b3 _) ?_ | (go_at_call 5; fail))
        refine (awake_any _).mono ?_
        rintro e W3 ⟨rfl, hb3⟩
        have HB3 : Hid (Below w.heap.size w W3) := below_next (bel_al HB2.out _) hb3
        clear hb3 HB2 a3 b3 k0 k1 k2 k3 k4 k5 k6 k7 k8 t1
        go_wp2
        go_ret
        exact ⟨rfl, HB3.out⟩
    · rw [show decV f2 1048576 = layZ from if_neg h2, show decE f2 1048576 = 4 from if_neg h2] at d2
      clear h1 h2 v1 e1 s1
      unfold layV layZ at *
      unfold lay9 at *
      go_enter Try.func3, Try.ntmps3
      go_wp2_with (first | refine wpList_load35w rfl _ rfl _ rfl _ (heap_alloc2_old _ _ _) ?_ | (go_at_call 4; fail))
      refine (d1 _).mono ?_
      rintro e W1 ⟨rfl, hb1⟩
      have b1 := heap_kept (heap_alloc2_new w _ _) hb1
      have HB1 : Hid (Below w.heap.size w W1) := below_next (bel_al (below_new _ _) _) hb1
      clear hb1 d1
      go_wp2_with (first | refine wpList_load35w rfl _ rfl _ rfl _ (heap_kept b1 (below_new _ _)) ?_ | (go_at_call 4; fail))
      refine (d2 _).mono ?_
      rintro e W2 ⟨rfl, hb2⟩
      have HB2 : Hid (Below w.heap.size w W2) := below_next (bel_al HB1.out _) hb2
      clear hb2 d2 HB1 b1
      go_wp2_with (first | (go_at_call 5; fail))
      refine (awake_any _).mono ?_
      rintro e W3 ⟨rfl, hb3⟩
      have HB3 : Hid (Below w.heap.size w W3) := below_next (bel_al HB2.out _) hb3
      clear hb3 HB2
      go_wp2
      go_ret
      exact ⟨rfl, HB3.out⟩
  · rw [show decV f1 1048576 = layZ from if_neg h1, show decE f1 1048576 = 4 from if_neg h1] at d1
    obtain ⟨v0, v1, v2, v3, v4, v5, v6, v7, v8, hv⟩ : ∃ v0 v1 v2 v3 v4 v5 v6 v7 v8 : Int, decV f2 1048576 = .agg #[.int .i64 v0, .int .i64 v1, .int .i64 v2, .int .i64 v3, .int .i64 v4, .int .i64 v5, .int .i64 v6, .int .i64 v7, .int .i64 v8] := by
      unfold decV
      split
      · exact ⟨_, _, _, _, _, _, _, _, _, rfl⟩
      · exact ⟨_, _, _, _, _, _, _, _, _, rfl⟩
    rw [hv] at d2
    generalize decE f2 1048576 = E at *
    clear h1 hv
    unfold layZ lay9 at *
    go_enter Try.func3, Try.ntmps3
    go_wp2_with (first | refine wpList_load35w rfl _ rfl _ rfl _ (heap_alloc2_old _ _ _) ?_ | (go_at_call 4; fail))
    refine (d1 _).mono ?_
    rintro e W1 ⟨rfl, hb1⟩
    have b1 := heap_kept (heap_alloc2_new w _ _) hb1
    have HB1 : Hid (Below w.heap.size w W1) := below_next (bel_al (below_new _ _) _) hb1
    clear hb1 d1
    go_wp2_with (first | refine wpList_load35w rfl _ rfl _ rfl _ (heap_kept b1 (below_new _ _)) ?_ | (go_at_call 4; fail))
    refine (d2 _).mono ?_
    rintro e W2 ⟨rfl, hb2⟩
    have HB2 : Hid (Below w.heap.size w W2) := below_next (bel_al HB1.out _) hb2
    clear hb2 d2 HB1 b1
    go_wp2_with (first | (go_at_call 5; fail))
    refine (awake_any _).mono ?_
    rintro e W3 ⟨rfl, hb3⟩
    have HB3 : Hid (Below w.heap.size w W3) := below_next (bel_al HB2.out _) hb3
    clear hb3 HB2
    go_wp2
    go_ret
    exact ⟨rfl, HB3.out⟩
end Go.Proofs.Ytmblppgmfgjbpab
