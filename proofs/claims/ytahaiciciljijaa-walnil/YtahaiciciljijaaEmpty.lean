/- The law's own function empty: of what is no log everything is refused, and nothing told; no condition. -/
import Derived.Test.YtahaiciciljijaaLWhere
namespace Go.Proofs.Ytahaiciciljijaa
open Go.RowKit Go.Maps
theorem eql31 (w : World) : (binOp .eql 31 (.agg (H.lay9 0 0 0 0 0 0 0 0 0)) (.agg (H.lay9 0 0 0 0 0 0 0 0 0))).run Try.prog w = .ok (.bool true) w := by
  unfold H.lay9
  kernel_rfl
set_option maxRecDepth 20000 in
set_option maxHeartbeats 4000000 in
theorem empty_any {v : Value} {W : World} (h : NoneAt W v) (n : Int) (f : Nat → Int) : Calls Try.prog 12 #[v, .int .i64 n, .agg (blk f)] W fun e W' => e = .returned (.bool true) ∧ Below W.heap.size W W' := by
  have z25 := zero25
  have h0 := h.later (below_new W (.cells (blk f) 23))
  have hbx := heap_alloc_new W (.cells (blk f) 23)
  have HB0 := Hid.mk' (below_new W (.cells (blk f) 23))
  have HNo := Hid.mk' h0
  clear h h0
  generalize hV0 : W.alloc (.cells (blk f) 23) = V0 at hbx HB0 HNo
  have HV0 := Hid.mk' hV0
  clear hV0
  go_enter Try.func12, Try.ntmps12
  go_wp2_with (go_at_call 24; fail)
  rw [HV0.out]
  refine (readL_none HNo.out n).mono ?_
  rintro e W1 ⟨rfl, hb1⟩
  have HN1 := Hid.mk' (HNo.out.later (below_next hb1 (below_new W1 (.cells (blk nought) 23))))
  have HB1 := Hid.mk' (below_next HB0.out (below_next hb1 (below_new W1 (.cells (blk nought) 23))))
  have hbx1 := heap_kept hbx (below_next hb1 (below_new W1 (.cells (blk nought) 23)))
  have hnw1 := heap_alloc_new W1 (.cells (blk nought) 23)
  clear hb1 HNo hbx HV0 HB0
  go_wp2_with (first | refine wpList_store25_new rfl (.tmp 7) (.tmp 15) rfl nought _ rfl rfl ?_ | refine H.wpList_load30w rfl (.tmp 7) rfl W1.heap.size rfl nought hnw1 ?_ | refine H.wpList_build30w rfl rfl ?_ | refine H.wpList_eq30 rfl (.tmp 20) (.tmp 21) rfl nought nought true rfl rfl (by unfold sameB; simp) ?_ | refine H.wpList_load30w rfl (.tmp 5) rfl W.heap.size rfl f hbx1 ?_ | (go_at_call 30; fail))
  refine (writeL_none HN1.out n f).mono ?_
  rintro e W2 ⟨rfl, hb2⟩
  have HN2 := Hid.mk' (HN1.out.later hb2)
  have HB2 := Hid.mk' (below_next HB1.out hb2)
  clear hb2 HN1 HB1 hbx1 hnw1
  go_wp2_with (first | (go_at_call 29; refine (beginL_none HN2.out n).mono ?_; rintro e W3 ⟨rfl, rfl⟩) | (go_at_call 32; refine (endL_none HN2.out).mono ?_; rintro e W3 ⟨rfl, rfl⟩) | (go_at_call 25; refine (syncL_none HN2.out).mono ?_; rintro e W3 ⟨rfl, rfl⟩) | (go_at_call 27; refine (closeL_none HN2.out).mono ?_; rintro e W3 ⟨rfl, rfl⟩) | (go_at_call 20; refine (check_none HN2.out).mono ?_; rintro e W3 ⟨rfl, rfl⟩) | (go_at_call 47; fail))
  refine (layoutL_none HN2.out).mono ?_
  rintro e W4 ⟨rfl, hb4⟩
  have HN4 := Hid.mk' (HN2.out.later hb4)
  have HB4 := Hid.mk' (below_next HB2.out hb4)
  clear hb4 HN2 HB2
  have he := eql31
  unfold H.layZ
  unfold H.lay9 at *
  go_wp2_with (first | (go_at_call 21; refine (used_none HN4.out).mono ?_; rintro e W5 ⟨rfl, rfl⟩) | (go_at_call 48; refine (openL_none HN4.out).mono ?_; rintro e W5 ⟨rfl, rfl⟩) | (go_at_call 33; refine (commits_none HN4.out).mono ?_; rintro e W5 ⟨rfl, rfl⟩) | (go_at_call 46; refine (stepsOver_none HN4.out).mono ?_; rintro e W5 ⟨rfl, rfl⟩))
  go_ret
  exact ⟨rfl, HB4.out⟩
end Go.Proofs.Ytahaiciciljijaa
