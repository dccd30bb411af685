/- The law WalNames: chapter 8's numbers and examples; closed. -/
import Derived.Test.YtahaiciciljijaaLNames3
namespace Go.Proofs.Ytahaiciciljijaa
open Go.RowKit Go.Maps
set_option maxRecDepth 20000 in
set_option maxHeartbeats 40000000 in
theorem names_walk (w : World) : Calls Try.prog 6 #[] w fun e w' => e = .returned (.bool true) ∧ Below w.heap.size w w' := by
  obtain ⟨LL, hLL⟩ : ∃ LL, LL = layA 400 32 60 := ⟨_, rfl⟩
  have HLL := Hid.mk' hLL
  have hsz : LL.size = 9 := by rw [hLL]; rfl
  have hone : LL.all (·.oneCell') = true := by rw [hLL]; exact layA_one _ _ _
  have HFr : Hid (Calls Try.prog 28 #[.agg #[.int .i64 400, .int .i64 32, .int .i64 60]] w fun e w' => ∃ d g, e = .returned (.tuple #[.pointer (some ⟨d, 0, none⟩), .pointer (some ⟨g, 0, none⟩), .agg LL, .bool true]) ∧ LogI w w' g d nx0 (freshT 400) nb0 []) := by rw [hLL]; exact fresh_ok nFine w
  clear hLL
  have z25 := zero25
  go_enter Try.func6, Try.ntmps6
  go_wp2_with (go_at_call 28; fail)
  refine HFr.out.mono ?_
  rintro e W1 ⟨d, g, rfl, h1⟩
  have H1 := Hid.mk' (h1.add (.cells LL 31))
  clear h1 HFr
  go_wp2_with (first | (with_reducible refine H.isStore 31 ?_; refine H.wpList_storeL_new rfl _ _ rfl LL _ hsz rfl hone _ rfl rfl rfl ?_) | (go_at_call 11; fail))
  generalize hgL : W1.heap.size = gL at H1 ⊢
  generalize W1.alloc (.cells LL 31) = W2 at H1 ⊢
  clear hgL
  refine (lives_any W2).mono ?_
  rintro e W3 ⟨rfl, hb3⟩
  have H3 := Hid.mk' (H1.out.later hb3)
  clear hb3 H1
  have HC4 : Hid (Calls Try.prog 29 #[.pointer (some ⟨g, 0, none⟩), .int .i64 23] W3 fun e W' => e = .returned (.int .i64 0) ∧ LogI w W' g d nx1 (freshT 400) nb0 [(gL, .cells LL 31)]) := LogI.begin H3.out (refL_of rfl rfl rfl) (by omega) (by decide)
  go_wp2_with (go_at_call 29; fail)
  refine HC4.out.mono ?_
  rintro e W4 ⟨rfl, h4⟩
  have H4 := Hid.mk' h4
  clear h4 HC4 H3
  have HC5 : Hid (Calls Try.prog 31 #[.int .u8 1] W4 fun e W' => e = .returned (.agg (blk (blkF 1))) ∧ LogI w W' g d nx1 (freshT 400) nb0 [(gL, .cells LL 31)]) := (block_any 1 (by omega) W4).mono fun e W' ⟨q1, q2⟩ => ⟨q1, (H4.out).later q2⟩
  go_wp2_with (go_at_call 31; fail)
  refine HC5.out.mono ?_
  rintro e W5 ⟨rfl, h5⟩
  have H5 := Hid.mk' h5
  clear h5 HC5 H4
  have HC6 : Hid (Calls Try.prog 30 #[.pointer (some ⟨g, 0, none⟩), .int .i64 40, .agg (blk (blkF 1))] W5 fun e W' => e = .returned (.int .i64 0) ∧ LogI w W' g d nx2 (freshT 400) nb1 [(gL, .cells LL 31)]) := LogI.write H5.out (blkF_can (by omega)) (refL_of rfl rfl rfl) (by decide) rfl (by decide)
  go_wp2_with (go_at_call 30; fail)
  refine HC6.out.mono ?_
  rintro e W6 ⟨rfl, h6⟩
  have H6 := Hid.mk' h6
  clear h6 HC6 H5
  have HC7 : Hid (Calls Try.prog 31 #[.int .u8 2] W6 fun e W' => e = .returned (.agg (blk (blkF 2))) ∧ LogI w W' g d nx2 (freshT 400) nb1 [(gL, .cells LL 31)]) := (block_any 2 (by omega) W6).mono fun e W' ⟨q1, q2⟩ => ⟨q1, (H6.out).later q2⟩
  go_wp2_with (go_at_call 31; fail)
  refine HC7.out.mono ?_
  rintro e W7 ⟨rfl, h7⟩
  have H7 := Hid.mk' h7
  clear h7 HC7 H6
  have HC8 : Hid (Calls Try.prog 30 #[.pointer (some ⟨g, 0, none⟩), .int .i64 41, .agg (blk (blkF 2))] W7 fun e W' => e = .returned (.int .i64 0) ∧ LogI w W' g d nx3 (freshT 400) nb2 [(gL, .cells LL 31)]) := LogI.write H7.out (blkF_can (by omega)) (refL_of rfl rfl rfl) (by decide) rfl (by decide)
  go_wp2_with (go_at_call 30; fail)
  refine HC8.out.mono ?_
  rintro e W8 ⟨rfl, h8⟩
  have H8 := Hid.mk' h8
  clear h8 HC8 H7
  have HC9 : Hid (Calls Try.prog 31 #[.int .u8 3] W8 fun e W' => e = .returned (.agg (blk (blkF 3))) ∧ LogI w W' g d nx3 (freshT 400) nb2 [(gL, .cells LL 31)]) := (block_any 3 (by omega) W8).mono fun e W' ⟨q1, q2⟩ => ⟨q1, (H8.out).later q2⟩
  go_wp2_with (go_at_call 31; fail)
  refine HC9.out.mono ?_
  rintro e W9 ⟨rfl, h9⟩
  have H9 := Hid.mk' h9
  clear h9 HC9 H8
  have HC10 : Hid (Calls Try.prog 30 #[.pointer (some ⟨g, 0, none⟩), .int .i64 40, .agg (blk (blkF 3))] W9 fun e W' => e = .returned (.int .i64 0) ∧ LogI w W' g d nx3 (freshT 400) nb3 [(gL, .cells LL 31)]) := LogI.rewrite H9.out (blkF_can (by omega)) (refL_of rfl rfl rfl) (by decide) rfl
  go_wp2_with (go_at_call 30; fail)
  refine HC10.out.mono ?_
  rintro e W10 ⟨rfl, h10⟩
  have H10 := Hid.mk' h10
  clear h10 HC10 H9
  have HC11 : Hid (Calls Try.prog 32 #[.pointer (some ⟨g, 0, none⟩)] W10 fun e W' => e = .returned (.int .i64 0) ∧ LogI w W' g d nx4 (freshT 400) nb3 [(gL, .cells LL 31)]) := LogI.ends H10.out (refL_of rfl rfl rfl) (by decide)
  go_wp2_with (go_at_call 32; fail)
  refine HC11.out.mono ?_
  rintro e W11 ⟨rfl, h11⟩
  have H11 := Hid.mk' h11
  clear h11 HC11 H10
  have HC12 : Hid (Calls Try.prog 29 #[.pointer (some ⟨g, 0, none⟩), .int .i64 29] W11 fun e W' => e = .returned (.int .i64 0) ∧ LogI w W' g d nx5 (freshT 400) nb3 [(gL, .cells LL 31)]) := LogI.begin H11.out (refL_of rfl rfl rfl) (by omega) (by decide)
  go_wp2_with (go_at_call 29; fail)
  refine HC12.out.mono ?_
  rintro e W12 ⟨rfl, h12⟩
  have H12 := Hid.mk' h12
  clear h12 HC12 H11
  have HC13 : Hid (Calls Try.prog 32 #[.pointer (some ⟨g, 0, none⟩)] W12 fun e W' => e = .returned (.int .i64 0) ∧ LogI w W' g d nx6 (freshT 400) nb3 [(gL, .cells LL 31)]) := LogI.ends H12.out (refL_of rfl rfl rfl) (by decide)
  go_wp2_with (go_at_call 32; fail)
  refine HC13.out.mono ?_
  rintro e W13 ⟨rfl, h13⟩
  have H13 := Hid.mk' h13
  clear h13 HC13 H12
  have HC14 : Hid (Calls Try.prog 23 #[.pointer (some ⟨d, 0, none⟩)] W13 fun e W' => e = .returned (.int .i64 0) ∧ LogI w W' g d nx6 (freshT 400) nb3 [(gL, .cells LL 31)]) := LogI.made H13.out
  go_wp2_with (go_at_call 23; fail)
  refine HC14.out.mono ?_
  rintro e W14 ⟨rfl, h14⟩
  have H14 := Hid.mk' h14
  clear h14 HC14 H13
  have HC15 := Hid.mk' (names_begin (r := 30) H14.out rfl)
  unfold ptr at HC15
  go_wp2_with (go_at_call 29; fail)
  refine HC15.out.mono ?_
  rintro e W15 ⟨rfl, t1, h15, hl1, hcu, hmd, hcl, hcd, hrd, hop⟩
  have H15 := Hid.mk' h15
  have HR : Hid (claimedV t1 1 = true ∧ LiveT t1 400 (-1) (curV t1) [] ∧ curV t1 1 = nought ∧ t1.made = 10 ∧ t1.claims = 1 ∧ t1.claimed = true ∧ t1.reads = 1 ∧ t1.ops.length ≤ 10) := ⟨live_of hl1.stop hcl hcd, hl1, hcu, hmd, hcl, hcd, hrd, hop⟩
  clear h15 HC15 H14 hl1 hcu hmd hcl hcd hrd hop
  have HC16 : Hid (Calls Try.prog 23 #[.pointer (some ⟨d, 0, none⟩)] W15 fun e W' => e = .returned (.int .i64 10) ∧ LogI w W' g d nx7 t1 nb3 [(gL, .cells LL 31)]) := by have := LogI.made H15.out; rw [HR.out.2.2.2.1] at this; exact this
  go_wp2_with (go_at_call 23; fail)
  refine HC16.out.mono ?_
  rintro e W16 ⟨rfl, h16⟩
  have H16 := Hid.mk' h16
  clear h16 HC16 H15
  have HC17 : Hid (Calls Try.prog 33 #[.pointer (some ⟨g, 0, none⟩)] W16 fun e W' => e = .returned (.int .i64 1) ∧ LogI w W' g d nx7 t1 nb3 [(gL, .cells LL 31)]) := LogI.commits H16.out (chk_of HR.out.1 rfl)
  go_wp2_with (go_at_call 33; fail)
  refine HC17.out.mono ?_
  rintro e W17 ⟨rfl, h17⟩
  have H17 := Hid.mk' h17
  clear h17 HC17 H16
  have HC18 : Hid (Calls Try.prog 32 #[.pointer (some ⟨g, 0, none⟩)] W17 fun e W' => e = .returned (.int .i64 0) ∧ LogI w W' g d nx8 t1 nb3 [(gL, .cells LL 31)]) := LogI.ends H17.out (refL_of HR.out.1 rfl rfl) (by decide)
  go_wp2_with (go_at_call 32; fail)
  refine HC18.out.mono ?_
  rintro e W18 ⟨rfl, h18⟩
  have H18 := Hid.mk' h18
  clear h18 HC18 H17
  have HC19 : Hid (Calls Try.prog 29 #[.pointer (some ⟨g, 0, none⟩), .int .i64 32] W18 fun e W' => e = .returned (.int .i64 2) ∧ LogI w W' g d nx8 t1 nb3 [(gL, .cells LL 31)]) := by obtain ⟨s, q1, q2⟩ := H18.out; exact (beginL_arg q1 (refL_of HR.out.1 rfl rfl) (by decide) (by decide)).mono fun e W' ⟨a1, a2⟩ => ⟨a1, s, a2, q2⟩
  go_wp2_with (go_at_call 29; fail)
  refine HC19.out.mono ?_
  rintro e W19 ⟨rfl, h19⟩
  have H19 := Hid.mk' h19
  clear h19 HC19 H18
  have HC20 : Hid (Calls Try.prog 32 #[.pointer (some ⟨g, 0, none⟩)] W19 fun e W' => e = .returned (.int .i64 180) ∧ LogI w W' g d nx8 t1 nb3 [(gL, .cells LL 31)]) := by obtain ⟨s, q1, q2⟩ := H19.out; exact (endL_ref q1 (refL_step HR.out.1 rfl (by decide)) (by omega)).mono fun e W' ⟨a1, a2⟩ => ⟨a1, s, a2, q2⟩
  go_wp2_with (go_at_call 32; fail)
  refine HC20.out.mono ?_
  rintro e W20 ⟨rfl, h20⟩
  have H20 := Hid.mk' h20
  clear h20 HC20 H19
  have HC21 : Hid (Calls Try.prog 31 #[.int .u8 1] W20 fun e W' => e = .returned (.agg (blk (blkF 1))) ∧ LogI w W' g d nx8 t1 nb3 [(gL, .cells LL 31)]) := (block_any 1 (by omega) W20).mono fun e W' ⟨q1, q2⟩ => ⟨q1, (H20.out).later q2⟩
  go_wp2_with (go_at_call 31; fail)
  refine HC21.out.mono ?_
  rintro e W21 ⟨rfl, h21⟩
  have H21 := Hid.mk' h21
  clear h21 HC21 H20
  have HC22 : Hid (Calls Try.prog 30 #[.pointer (some ⟨g, 0, none⟩), .int .i64 40, .agg (blk (blkF 1))] W21 fun e W' => e = .returned (.int .i64 180) ∧ LogI w W' g d nx8 t1 nb3 [(gL, .cells LL 31)]) := by obtain ⟨s, q1, q2⟩ := H21.out; exact (writeL_ref q1 (refL_step HR.out.1 rfl (by decide)) (by omega)).mono fun e W' ⟨a1, a2⟩ => ⟨a1, s, a2, q2⟩
  go_wp2_with (go_at_call 30; fail)
  refine HC22.out.mono ?_
  rintro e W22 ⟨rfl, h22⟩
  have H22 := Hid.mk' h22
  clear h22 HC22 H21
  have HC23 : Hid (Calls Try.prog 29 #[.pointer (some ⟨g, 0, none⟩), .int .i64 9] W22 fun e W' => e = .returned (.int .i64 0) ∧ LogI w W' g d nx9 t1 nb3 [(gL, .cells LL 31)]) := LogI.begin H22.out (refL_of HR.out.1 rfl rfl) (by omega) (by decide)
  go_wp2_with (go_at_call 29; fail)
  refine HC23.out.mono ?_
  rintro e W23 ⟨rfl, h23⟩
  have H23 := Hid.mk' h23
  clear h23 HC23 H22
  have HC24 : Hid (Calls Try.prog 31 #[.int .u8 1] W23 fun e W' => e = .returned (.agg (blk (blkF 1))) ∧ LogI w W' g d nx9 t1 nb3 [(gL, .cells LL 31)]) := (block_any 1 (by omega) W23).mono fun e W' ⟨q1, q2⟩ => ⟨q1, (H23.out).later q2⟩
  go_wp2_with (go_at_call 31; fail)
  refine HC24.out.mono ?_
  rintro e W24 ⟨rfl, h24⟩
  have H24 := Hid.mk' h24
  clear h24 HC24 H23
  have HC25 : Hid (Calls Try.prog 30 #[.pointer (some ⟨g, 0, none⟩), .int .i64 0, .agg (blk (blkF 1))] W24 fun e W' => e = .returned (.int .i64 2) ∧ LogI w W' g d nx9 t1 nb3 [(gL, .cells LL 31)]) := by obtain ⟨s, q1, q2⟩ := H24.out; exact (writeL_arg q1 (refL_of HR.out.1 rfl rfl) (by decide)).mono fun e W' ⟨a1, a2⟩ => ⟨a1, s, a2, q2⟩
  go_wp2_with (go_at_call 30; fail)
  refine HC25.out.mono ?_
  rintro e W25 ⟨rfl, h25⟩
  have H25 := Hid.mk' h25
  clear h25 HC25 H24
  have HC26 : Hid (Calls Try.prog 31 #[.int .u8 1] W25 fun e W' => e = .returned (.agg (blk (blkF 1))) ∧ LogI w W' g d nx9 t1 nb3 [(gL, .cells LL 31)]) := (block_any 1 (by omega) W25).mono fun e W' ⟨q1, q2⟩ => ⟨q1, (H25.out).later q2⟩
  go_wp2_with (go_at_call 31; fail)
  refine HC26.out.mono ?_
  rintro e W26 ⟨rfl, h26⟩
  have H26 := Hid.mk' h26
  clear h26 HC26 H25
  have HC27 : Hid (Calls Try.prog 30 #[.pointer (some ⟨g, 0, none⟩), .int .i64 1, .agg (blk (blkF 1))] W26 fun e W' => e = .returned (.int .i64 2) ∧ LogI w W' g d nx9 t1 nb3 [(gL, .cells LL 31)]) := by obtain ⟨s, q1, q2⟩ := H26.out; exact (writeL_arg q1 (refL_of HR.out.1 rfl rfl) (by decide)).mono fun e W' ⟨a1, a2⟩ => ⟨a1, s, a2, q2⟩
  go_wp2_with (go_at_call 30; fail)
  refine HC27.out.mono ?_
  rintro e W27 ⟨rfl, h27⟩
  have H27 := Hid.mk' h27
  clear h27 HC27 H26
  have HC28 : Hid (Calls Try.prog 31 #[.int .u8 1] W27 fun e W' => e = .returned (.agg (blk (blkF 1))) ∧ LogI w W' g d nx9 t1 nb3 [(gL, .cells LL 31)]) := (block_any 1 (by omega) W27).mono fun e W' ⟨q1, q2⟩ => ⟨q1, (H27.out).later q2⟩
  go_wp2_with (go_at_call 31; fail)
  refine HC28.out.mono ?_
  rintro e W28 ⟨rfl, h28⟩
  have H28 := Hid.mk' h28
  clear h28 HC28 H27
  have HC29 : Hid (Calls Try.prog 30 #[.pointer (some ⟨g, 0, none⟩), .int .i64 32, .agg (blk (blkF 1))] W28 fun e W' => e = .returned (.int .i64 2) ∧ LogI w W' g d nx9 t1 nb3 [(gL, .cells LL 31)]) := by obtain ⟨s, q1, q2⟩ := H28.out; exact (writeL_arg q1 (refL_of HR.out.1 rfl rfl) (by decide)).mono fun e W' ⟨a1, a2⟩ => ⟨a1, s, a2, q2⟩
  go_wp2_with (go_at_call 30; fail)
  refine HC29.out.mono ?_
  rintro e W29 ⟨rfl, h29⟩
  have H29 := Hid.mk' h29
  clear h29 HC29 H28
  have HC30 : Hid (Calls Try.prog 31 #[.int .u8 1] W29 fun e W' => e = .returned (.agg (blk (blkF 1))) ∧ LogI w W' g d nx9 t1 nb3 [(gL, .cells LL 31)]) := (block_any 1 (by omega) W29).mono fun e W' ⟨q1, q2⟩ => ⟨q1, (H29.out).later q2⟩
  go_wp2_with (go_at_call 31; fail)
  refine HC30.out.mono ?_
  rintro e W30 ⟨rfl, h30⟩
  have H30 := Hid.mk' h30
  clear h30 HC30 H29
  have HC31 : Hid (Calls Try.prog 30 #[.pointer (some ⟨g, 0, none⟩), .int .i64 400, .agg (blk (blkF 1))] W30 fun e W' => e = .returned (.int .i64 2) ∧ LogI w W' g d nx9 t1 nb3 [(gL, .cells LL 31)]) := by obtain ⟨s, q1, q2⟩ := H30.out; exact (writeL_arg q1 (refL_of HR.out.1 rfl rfl) (by decide)).mono fun e W' ⟨a1, a2⟩ => ⟨a1, s, a2, q2⟩
  go_wp2_with (go_at_call 30; fail)
  refine HC31.out.mono ?_
  rintro e W31 ⟨rfl, h31⟩
  have H31 := Hid.mk' h31
  clear h31 HC31 H30
  have HC32 : Hid (Calls Try.prog 31 #[.int .u8 1] W31 fun e W' => e = .returned (.agg (blk (blkF 1))) ∧ LogI w W' g d nx9 t1 nb3 [(gL, .cells LL 31)]) := (block_any 1 (by omega) W31).mono fun e W' ⟨q1, q2⟩ => ⟨q1, (H31.out).later q2⟩
  go_wp2_with (go_at_call 31; fail)
  refine HC32.out.mono ?_
  rintro e W32 ⟨rfl, h32⟩
  have H32 := Hid.mk' h32
  clear h32 HC32 H31
  have HC33 : Hid (Calls Try.prog 30 #[.pointer (some ⟨g, 0, none⟩), .int .i64 33, .agg (blk (blkF 1))] W32 fun e W' => e = .returned (.int .i64 0) ∧ LogI w W' g d nx10 t1 nb4 [(gL, .cells LL 31)]) := LogI.write H32.out (blkF_can (by omega)) (refL_of HR.out.1 rfl rfl) (by decide) rfl (by decide)
  go_wp2_with (go_at_call 30; fail)
  refine HC33.out.mono ?_
  rintro e W33 ⟨rfl, h33⟩
  have H33 := Hid.mk' h33
  clear h33 HC33 H32
  have HC34 : Hid (Calls Try.prog 31 #[.int .u8 1] W33 fun e W' => e = .returned (.agg (blk (blkF 1))) ∧ LogI w W' g d nx10 t1 nb4 [(gL, .cells LL 31)]) := (block_any 1 (by omega) W33).mono fun e W' ⟨q1, q2⟩ => ⟨q1, (H33.out).later q2⟩
  go_wp2_with (go_at_call 31; fail)
  refine HC34.out.mono ?_
  rintro e W34 ⟨rfl, h34⟩
  have H34 := Hid.mk' h34
  clear h34 HC34 H33
  have HC35 : Hid (Calls Try.prog 30 #[.pointer (some ⟨g, 0, none⟩), .int .i64 60, .agg (blk (blkF 1))] W34 fun e W' => e = .returned (.int .i64 0) ∧ LogI w W' g d nx11 t1 nb5 [(gL, .cells LL 31)]) := LogI.write H34.out (blkF_can (by omega)) (refL_of HR.out.1 rfl rfl) (by decide) rfl (by decide)
  go_wp2_with (go_at_call 30; fail)
  refine HC35.out.mono ?_
  rintro e W35 ⟨rfl, h35⟩
  have H35 := Hid.mk' h35
  clear h35 HC35 H34
  have HC36 : Hid (Calls Try.prog 32 #[.pointer (some ⟨g, 0, none⟩)] W35 fun e W' => e = .returned (.int .i64 0) ∧ LogI w W' g d nx12 t1 nb5 [(gL, .cells LL 31)]) := LogI.ends H35.out (refL_of HR.out.1 rfl rfl) (by decide)
  go_wp2_with (go_at_call 32; fail)
  refine HC36.out.mono ?_
  rintro e W36 ⟨rfl, h36⟩
  have H36 := Hid.mk' h36
  clear h36 HC36 H35
  have HC37 : Hid (Calls Try.prog 16 #[.pointer (some ⟨d, 0, none⟩), .int .i64 3] W36 fun e W' => e = .returned (.tuple #[]) ∧ LogI w W' g d nx12 (fuseV t1 3) nb5 [(gL, .cells LL 31)]) := LogI.fuse H36.out 3 (by omega)
  go_wp2_with (go_at_call 16; fail)
  refine HC37.out.mono ?_
  rintro e W37 ⟨rfl, h37⟩
  have H37 := Hid.mk' h37
  clear h37 HC37 H36
  have HS38 : Hid (Calls Try.prog 25 #[.pointer (some ⟨g, 0, none⟩)] W37 fun e W' => e = .returned (.int .i64 3) ∧ ∃ tA x' c mb v, x'.claim = 1 ∧ Sits w W' d { tA with stopped := true } ((g, .cells (lgRow g d c mb v x') 48) :: [(gL, .cells LL 31)]) ∧ LiveT tA 400 0 (fun j => if 3 = j then nb5 60 else if 2 = j then nb5 33 else curV t1 j) [] ∧ tA.claims = 1 ∧ tA.reads = 1 ∧ tA.made ≤ 13) := by
    obtain ⟨_, q1, _, q3, q4, q5, q6, q7⟩ := HR.out
    obtain ⟨f1, f2, f3, f4, f5⟩ := fuse_nums (t := t1) 3
    have q := names_sync1 H37.out (q1.fuse' (by omega)) (f1.trans q4) (f2.trans q5) ⟨by rw [f5]; omega, by rw [f4]; omega, by rw [f3]; omega, by rw [f1]; omega⟩
    rw [f3, f4, q3, q6] at q
    exact q
  go_wp2_with (go_at_call 25; fail)
  refine HS38.out.mono ?_
  rintro e W38 ⟨rfl, tA, xd, cd, mbd, vd, hxd, hsd, hld, hcd, hrd, hmd⟩
  have HS := Hid.mk' hsd
  have HD : Hid (xd.claim = 1 ∧ LiveT tA 400 0 (fun j => if 3 = j then nb5 60 else if 2 = j then nb5 33 else curV t1 j) [] ∧ tA.claims = 1 ∧ tA.reads = 1 ∧ tA.made ≤ 13 ∧ curV t1 1 = nought) := ⟨hxd, hld, hcd, hrd, hmd, HR.out.2.2.1⟩
  clear hsd hxd hld hcd hrd hmd HS38 H37 HR
  generalize hRow : Obj.cells (lgRow g d cd mbd vd xd) 48 = rowD at HS
  have HRow := Hid.mk' hRow
  clear hRow
  have HK : Hid (Calls Try.prog 19 #[.pointer (some ⟨d, 0, none⟩), .slice none 0 0] W38 fun e W' => e = .returned (.int .i64 0) ∧ ∃ t4, Sits w W' d t4 ((g, rowD) :: [(gL, .cells LL 31)]) ∧ LiveT t4 400 (-1) (fun j => if 3 = j then nb5 60 else if 2 = j then nb5 33 else curV t1 j) [] ∧ t4.claimed = false ∧ t4.claims = tA.claims ∧ t4.reads = tA.reads ∧ t4.made = tA.made ∧ t4.ops.length = 0) := names_crash HS.out HD.out.2.1 (kl := []) ⟨none, 0, rfl, fun q => by simp at q⟩ rfl (by decide) (by decide)
  go_wp2_with (go_at_call 19; fail)
  refine HK.out.mono ?_
  rintro e W39 ⟨rfl, t4, hs4, hl4, hcd4, hcl4, hrd4, hmd4, hop4⟩
  have HS4 := Hid.mk' hs4
  have HD4 : Hid (xd.claim = 1 ∧ LiveT t4 400 (-1) (fun j => if 3 = j then nb5 60 else if 2 = j then nb5 33 else curV t1 j) [] ∧ t4.claimed = false ∧ t4.claims = 1 ∧ curV t4 1 = nought ∧ Rm t4 62) := by
    obtain ⟨q1, q2, q3, q4, q5, q6⟩ := HD.out
    refine ⟨q1, hl4, hcd4, hcl4.trans q3, ?_, ⟨by omega, by omega, by omega, by omega⟩⟩
    rw [hl4.cur]
    simp [q6]
  have hLr := hs4.blk (List.mem_cons_of_mem _ (List.mem_cons_self ..))
  clear hs4 hl4 hcd4 hcl4 hrd4 hmd4 hop4 HK HS HD
  have HRe : Hid (Calls Try.prog 10 #[.pointer (some ⟨d, 0, none⟩), .agg LL] W39 fun e W' => e = .returned (.tuple #[.int .i64 0, .int .i64 0]) ∧ Sits w W' d (readS t4) ((g, rowD) :: [(gL, .cells LL 31)])) := by
    obtain ⟨_, q1, _, _, q4, q5⟩ := HD4.out
    obtain ⟨T, E⟩ := tg_nought (b := 400) (l := 32) q4 (by omega)
    have q := recover_empty HS4.out nFine (by rw [q1.n]; omega) q1.stop (q5.le (by omega)) T
    rw [E] at q
    rw [HLL.out] at q ⊢
    exact q
  go_wp2_with (first | (with_reducible refine H.isLoad 31 ?_; refine H.wpList_loadL rfl _ rfl gL rfl LL hsz hLr ?_) | (go_at_call 10; fail))
  refine HRe.out.mono ?_
  rintro e W40 ⟨rfl, hs5⟩
  have HS5 := Hid.mk' hs5
  have hdead : claimedV (readS t4) xd.claim = false := by have := HD4.out.2.2.1; unfold claimedV; rw [show (readS t4).claimed = false from this]; simp
  rw [← HRow.out] at hs5
  have HCk := Hid.mk' (dead_check hs5 (List.mem_cons_self ..) hdead)
  have HUs : Hid (∀ m, Calls Try.prog 21 #[.pointer (some ⟨g, 0, none⟩)] (W40.drewN m) fun e W' => e = .returned (.int .i64 0) ∧ ∃ k, W' = (W40.drewN m).drewN k) := fun m => dead_used (hs5.later (below_drewN _ m)) (List.mem_cons_self ..) hdead
  clear hs5 HRe HS4 hLr hdead
  unfold ptr at HCk
  go_wp2_with (go_at_call 20; fail)
  refine HCk.out.mono ?_
  rintro e Wk ⟨rfl, mk, rfl⟩
  go_wp2_with (go_at_call 21; fail)
  refine (HUs.out mk).mono ?_
  rintro e Wu ⟨rfl, mu, rfl⟩
  have HS6 := Hid.mk' ((HS5.out.later (below_next (below_drewN W40 mk) (below_drewN _ mu))).drop (ks' := [(gL, .cells LL 31)]) fun p hp => List.mem_cons_of_mem _ hp)
  clear HCk HUs HS5 HRow
  generalize (W40.drewN mk).drewN mu = W6 at HS6 ⊢
  have hLr := HS6.out.blk (List.mem_cons_self ..)
  have HN2 : Hid (Calls Try.prog 8 #[.pointer (some ⟨d, 0, none⟩), .agg LL] W6 fun e W' => ∃ g2 t6, e = .returned (.tuple #[.pointer (some ⟨g2, 0, none⟩), .int .i64 0]) ∧ LogI w W' g2 d nz0 t6 (curV t4) [(gL, .cells LL 31)] ∧ LiveT t6 400 (-1) (curV t4) [] ∧ t6.claims = 2 ∧ t6.claimed = true ∧ Rm t6 50) := by
    obtain ⟨_, q1, _, q3, q4, q5⟩ := HD4.out
    have q := names_new HS6.out (show LiveT (readS t4) 400 (-1) (curV t4) [] from ⟨q1.readS.ok, q1.stop, q1.n, q1.fuse, rfl, q1.wait⟩) q4 q3 (q5.readS.le (by omega))
    rw [← HLL.out] at q
    exact q
  go_wp2_with (first | (with_reducible refine H.isLoad 31 ?_; refine H.wpList_loadL rfl _ rfl gL rfl LL hsz hLr ?_) | (go_at_call 8; fail))
  refine HN2.out.mono ?_
  rintro e W7 ⟨g2, t6, rfl, h7, hl7, hc7, hd7, hr7⟩
  have H7 := Hid.mk' h7
  have HR7 : Hid (claimedV t6 2 = true ∧ LiveT t6 400 (-1) (curV t4) [] ∧ t6.claims = 2 ∧ t6.claimed = true ∧ Rm t6 50) := ⟨live2 hl7.stop hc7 hd7, hl7, hc7, hd7, hr7⟩
  clear h7 hl7 hc7 hd7 hr7 HN2 HS6 HD4 hLr
  generalize curV t4 = nc at *
  have HC51 : Hid (Calls Try.prog 29 #[.pointer (some ⟨g2, 0, none⟩), .int .i64 2] W7 fun e W' => e = .returned (.int .i64 0) ∧ LogI w W' g2 d nz1 t6 nc [(gL, .cells LL 31)]) := LogI.begin H7.out (ref2 HR7.out.1 rfl rfl) (by omega) (by decide)
  go_wp2_with (go_at_call 29; fail)
  refine HC51.out.mono ?_
  rintro e W51 ⟨rfl, h51⟩
  have H51 := Hid.mk' h51
  clear h51 HC51 H7
  have HC52 : Hid (Calls Try.prog 31 #[.int .u8 5] W51 fun e W' => e = .returned (.agg (blk (blkF 5))) ∧ LogI w W' g2 d nz1 t6 nc [(gL, .cells LL 31)]) := (block_any 5 (by omega) W51).mono fun e W' ⟨q1, q2⟩ => ⟨q1, (H51.out).later q2⟩
  go_wp2_with (go_at_call 31; fail)
  refine HC52.out.mono ?_
  rintro e W52 ⟨rfl, h52⟩
  have H52 := Hid.mk' h52
  clear h52 HC52 H51
  have HC53 : Hid (Calls Try.prog 30 #[.pointer (some ⟨g2, 0, none⟩), .int .i64 50, .agg (blk (blkF 5))] W52 fun e W' => e = .returned (.int .i64 0) ∧ LogI w W' g2 d nz2 t6 (fun j => if j = 50 then blkF 5 else nc j) [(gL, .cells LL 31)]) := LogI.write H52.out (blkF_can (by omega)) (ref2 HR7.out.1 rfl rfl) (by decide) rfl (by decide)
  go_wp2_with (go_at_call 30; fail)
  refine HC53.out.mono ?_
  rintro e W53 ⟨rfl, h53⟩
  have H53 := Hid.mk' h53
  clear h53 HC53 H52
  have HC54 : Hid (Calls Try.prog 31 #[.int .u8 6] W53 fun e W' => e = .returned (.agg (blk (blkF 6))) ∧ LogI w W' g2 d nz2 t6 (fun j => if j = 50 then blkF 5 else nc j) [(gL, .cells LL 31)]) := (block_any 6 (by omega) W53).mono fun e W' ⟨q1, q2⟩ => ⟨q1, (H53.out).later q2⟩
  go_wp2_with (go_at_call 31; fail)
  refine HC54.out.mono ?_
  rintro e W54 ⟨rfl, h54⟩
  have H54 := Hid.mk' h54
  clear h54 HC54 H53
  have HC55 : Hid (Calls Try.prog 30 #[.pointer (some ⟨g2, 0, none⟩), .int .i64 51, .agg (blk (blkF 6))] W54 fun e W' => e = .returned (.int .i64 0) ∧ LogI w W' g2 d nz3 t6 (fun j => if j = 51 then blkF 6 else if j = 50 then blkF 5 else nc j) [(gL, .cells LL 31)]) := LogI.write H54.out (blkF_can (by omega)) (ref2 HR7.out.1 rfl rfl) (by decide) rfl (by decide)
  go_wp2_with (go_at_call 30; fail)
  refine HC55.out.mono ?_
  rintro e W55 ⟨rfl, h55⟩
  have H55 := Hid.mk' h55
  clear h55 HC55 H54
  have HC56 : Hid (Calls Try.prog 32 #[.pointer (some ⟨g2, 0, none⟩)] W55 fun e W' => e = .returned (.int .i64 0) ∧ LogI w W' g2 d nz4 t6 (fun j => if j = 51 then blkF 6 else if j = 50 then blkF 5 else nc j) [(gL, .cells LL 31)]) := LogI.ends H55.out (ref2 HR7.out.1 rfl rfl) (by decide)
  go_wp2_with (go_at_call 32; fail)
  refine HC56.out.mono ?_
  rintro e W56 ⟨rfl, h56⟩
  have H56 := Hid.mk' h56
  clear h56 HC56 H55
  have HC57 : Hid (Calls Try.prog 16 #[.pointer (some ⟨d, 0, none⟩), .int .i64 4] W56 fun e W' => e = .returned (.tuple #[]) ∧ LogI w W' g2 d nz4 (fuseV t6 4) (fun j => if j = 51 then blkF 6 else if j = 50 then blkF 5 else nc j) [(gL, .cells LL 31)]) := LogI.fuse H56.out 4 (by omega)
  go_wp2_with (go_at_call 16; fail)
  refine HC57.out.mono ?_
  rintro e W57 ⟨rfl, h57⟩
  have H57 := Hid.mk' h57
  clear h57 HC57 H56
  have HS58 : Hid (Calls Try.prog 25 #[.pointer (some ⟨g2, 0, none⟩)] W57 fun e W' => e = .returned (.int .i64 3) ∧ ∃ tB, Sits w W' d { tB with stopped := true } [(gL, .cells LL 31)] ∧ LiveT tB 400 0 (fun j => if 1 = j then H.headF [50, 51] else if 3 = j then blkF 6 else if 2 = j then blkF 5 else nc j) [(1, H.headF [50, 51])] ∧ tB.claims = 2 ∧ tB.reads = t6.reads ∧ tB.made ≤ t6.made + 4) := by
    obtain ⟨_, q1, q3, q4, q5⟩ := HR7.out
    obtain ⟨f1, f2, f3, f4, f5⟩ := fuse_nums (t := t6) 4
    have q := names_sync2 H57.out (q1.fuse' (by omega)) (f1.trans q3) (f2.trans q4) (by obtain ⟨m1, m2, m3, m4⟩ := q5; exact ⟨by rw [f5]; omega, by rw [f4]; omega, by rw [f3]; omega, by rw [f1]; omega⟩) rfl rfl
    rw [f3, f4] at q
    exact q
  go_wp2_with (go_at_call 25; fail)
  refine HS58.out.mono ?_
  rintro e W58 ⟨rfl, tB, hsB, hlB, hcB, hrB, hmB⟩
  have HSB := Hid.mk' (hsB.later (below_new W58 (.cells #[.bool true] 4)))
  have HDB : Hid (LiveT tB 400 0 (fun j => if 1 = j then H.headF [50, 51] else if 3 = j then blkF 6 else if 2 = j then blkF 5 else nc j) [(1, H.headF [50, 51])] ∧ tB.reads = t6.reads ∧ tB.made ≤ t6.made + 4 ∧ tB.claims = 2 ∧ Rm t6 50) := ⟨hlB, hrB, hmB, hcB, HR7.out.2.2.2.2⟩
  clear hsB hlB hcB hrB hmB HS58 H57 HR7
  have HK2 : Hid (Calls Try.prog 19 #[.pointer (some ⟨d, 0, none⟩), .slice (some ⟨W58.heap.size, 0, none⟩) 1 1] (W58.alloc (.cells #[.bool true] 4)) fun e W' => e = .returned (.int .i64 0) ∧ ∃ t8, Sits w W' d t8 [(gL, .cells LL 31)] ∧ LiveT t8 400 (-1) (fun j => if 1 = j then H.headF [50, 51] else if 3 = j then blkF 6 else if 2 = j then blkF 5 else nc j) [] ∧ t8.claimed = false ∧ t8.claims = tB.claims ∧ t8.reads = tB.reads ∧ t8.made = tB.made ∧ t8.ops.length = 0) := names_crash HSB.out HDB.out.1 (kl := [true]) ⟨some ⟨W58.heap.size, 0, none⟩, 1, rfl, fun _ => ⟨_, 0, rfl, fun i x hx => by
    have hi : i = 0 := by have := (List.getElem?_eq_some_iff.1 hx).1; simp at this; omega
    subst hi
    simp at hx
    subst hx
    exact Joins.cell_of_block (heap_alloc_new _ _) 0⟩⟩ rfl (by decide) (by decide)
  go_wp2_with (go_at_call 19; fail)
  refine HK2.out.mono ?_
  rintro e W8 ⟨rfl, t8, hs8, hl8, _, hcl8, hrd8, hmd8, hop8⟩
  have HS8 := Hid.mk' hs8
  have hLr := hs8.blk (List.mem_cons_self ..)
  have HD8 : Hid (LiveT t8 400 (-1) (fun j => if 1 = j then H.headF [50, 51] else if 3 = j then blkF 6 else if 2 = j then blkF 5 else nc j) [] ∧ Rm t8 30) := by
    obtain ⟨_, q1, q2, q3, m1, m2, m3, m4⟩ := HDB.out
    exact ⟨hl8, by omega, by omega, by omega, by omega⟩
  clear hs8 hl8 hcl8 hrd8 hmd8 hop8 HK2 HSB HDB
  have HIn : Hid (Calls Try.prog 8 #[.pointer (some ⟨d, 0, none⟩), .agg LL] W8 fun e W' => e = .returned (.tuple #[.pointer none, .int .i64 4]) ∧ Sits w W' d (readS t8) [(gL, .cells LL 31)] ∧ LiveT (readS t8) 400 (-1) (fun j => if 1 = j then H.headF [50, 51] else if 3 = j then blkF 6 else if 2 = j then blkF 5 else nc j) [] ∧ Rm (readS t8) 29) := by have q := names_inval HS8.out HD8.out.1 rfl HD8.out.2; rw [← HLL.out] at q; exact q
  go_wp2_with (first | (with_reducible refine H.isLoad 31 ?_; refine H.wpList_loadL rfl _ rfl gL rfl LL hsz hLr ?_) | (go_at_call 8; fail))
  refine HIn.out.mono ?_
  rintro e W9 ⟨rfl, hs9, hl9, hr9⟩
  have hLr9 := hs9.blk (List.mem_cons_self ..)
  have HS9 := Hid.mk' hs9
  have HD9 := Hid.mk' (And.intro hl9 hr9)
  clear hs9 hl9 hr9 HIn HS8 HD8 hLr
  generalize readS t8 = t9 at *
  have HRc : Hid (Calls Try.prog 10 #[.pointer (some ⟨d, 0, none⟩), .agg LL] W9 fun e W' => e = .returned (.tuple #[.int .i64 2, .int .i64 0]) ∧ ∃ t10, Sits w W' d t10 [(gL, .cells LL 31)] ∧ t10.stopped = false ∧ t10.n = 400 ∧ curV t10 51 = blkF 6 ∧ Room t10) := by have q := names_recov HS9.out HD9.out.1 rfl rfl HD9.out.2; rw [← HLL.out] at q; exact q
  go_wp2_with (first | (with_reducible refine H.isLoad 31 ?_; refine H.wpList_loadL rfl _ rfl gL rfl LL hsz hLr9 ?_) | (go_at_call 10; fail))
  refine HRc.out.mono ?_
  rintro e W10 ⟨rfl, t10, hs10, ha, hb, hc, hd⟩
  have HRd := Hid.mk' (names_read hs10 ha hb hc hd)
  clear hs10 ha hb hc hd HRc HS9 HD9 hLr9
  unfold ptr at HRd
  go_wp2_with (go_at_call 34; fail)
  refine HRd.out.mono ?_
  rintro e W11 ⟨rfl, h11⟩
  have H11 := Hid.mk' (h11.add (.cells (blk (blkF 6)) 23))
  clear h11 HRd
  go_wp2_with (first | refine wpList_store25_new rfl (.tmp 12) (.tmp 254) rfl (blkF 6) _ rfl rfl ?_)
  generalize hgB : W11.heap.size = gB at H11 ⊢
  generalize W11.alloc (.cells (blk (blkF 6)) 23) = W12 at H11 ⊢
  clear hgB
  have hS8 := H11.out.blk (List.mem_cons_self ..)
  refine wp_region_ord (S := fun u => u.heap[gB]? = some (.cells (blk (blkF 6)) 23)) [(0, true), (1, true), (2, true), (3, true), (4, true), (5, true), (6, true), (7, true), (8, true), (9, true), (10, true), (11, true), (12, true), (13, true), (14, true), (15, true), (16, true), (17, true), (18, true), (19, false), (20, true), (21, true), (22, true)]
    (by kernel_rfl) rfl (by kernel_rfl) (fun d _ _ _ _ h => by cases d <;> exact h) hS8 ?_
  simp only [inOrd, List.getElem?_cons_zero, List.getElem?_cons_succ]
  refine wpOrd_move rfl _ rfl ?_
  simp only [Act.put, List.setIfInBounds_toArray, List.set_cons_succ, List.set_cons_zero]
  refine wpOrd_move rfl _ rfl ?_
  simp only [Act.put, List.setIfInBounds_toArray, List.set_cons_succ, List.set_cons_zero]
  refine wpOrd_move rfl _ rfl ?_
  simp only [Act.put, List.setIfInBounds_toArray, List.set_cons_succ, List.set_cons_zero]
  refine wpOrd_yield (v := .bool true) rfl (fun u _ => by go_simp) ?_
  simp only [Act.put, List.setIfInBounds_toArray, List.set_cons_succ, List.set_cons_zero]
  refine wpOrd_yield (v := .bool true) rfl (fun u _ => by go_simp) ?_
  simp only [Act.put, List.setIfInBounds_toArray, List.set_cons_succ, List.set_cons_zero]
  refine wpOrd_move rfl _ rfl ?_
  simp only [Act.put, List.setIfInBounds_toArray, List.set_cons_succ, List.set_cons_zero]
  refine wpOrd_move rfl _ rfl ?_
  simp only [Act.put, List.setIfInBounds_toArray, List.set_cons_succ, List.set_cons_zero]
  refine wpOrd_yield (v := .bool true) rfl (fun u _ => by go_simp) ?_
  simp only [Act.put, List.setIfInBounds_toArray, List.set_cons_succ, List.set_cons_zero]
  refine wpOrd_yield (v := .bool true) rfl (fun u _ => by go_simp) ?_
  simp only [Act.put, List.setIfInBounds_toArray, List.set_cons_succ, List.set_cons_zero]
  refine wpOrd_move rfl _ rfl ?_
  simp only [Act.put, List.setIfInBounds_toArray, List.set_cons_succ, List.set_cons_zero]
  refine wpOrd_move rfl _ rfl ?_
  simp only [Act.put, List.setIfInBounds_toArray, List.set_cons_succ, List.set_cons_zero]
  refine wpOrd_yield (v := .bool true) rfl (fun u _ => by go_simp) ?_
  simp only [Act.put, List.setIfInBounds_toArray, List.set_cons_succ, List.set_cons_zero]
  refine wpOrd_yield (v := .bool true) rfl (fun u _ => by go_simp) ?_
  simp only [Act.put, List.setIfInBounds_toArray, List.set_cons_succ, List.set_cons_zero]
  refine wpOrd_move rfl _ rfl ?_
  simp only [Act.put, List.setIfInBounds_toArray, List.set_cons_succ, List.set_cons_zero]
  refine wpOrd_move rfl _ rfl ?_
  simp only [Act.put, List.setIfInBounds_toArray, List.set_cons_succ, List.set_cons_zero]
  refine wpOrd_yield (v := .bool true) rfl (fun u _ => by go_simp) ?_
  simp only [Act.put, List.setIfInBounds_toArray, List.set_cons_succ, List.set_cons_zero]
  refine wpOrd_yield (v := .bool true) rfl (fun u _ => by go_simp) ?_
  simp only [Act.put, List.setIfInBounds_toArray, List.set_cons_succ, List.set_cons_zero]
  refine wpOrd_move rfl _ rfl ?_
  simp only [Act.put, List.setIfInBounds_toArray, List.set_cons_succ, List.set_cons_zero]
  refine wpOrd_yield (v := .agg (blk (blkF 6))) rfl (fun u hu => H.exec_loadB rfl gB (blkF 6) rfl hu) ?_
  simp only [Act.put, List.setIfInBounds_toArray, List.set_cons_succ, List.set_cons_zero]
  refine wpOrd_call rfl 31 _ _ rfl Try.call31 [.int .u8 6] rfl ?_
  refine (block_any 6 (by omega) _).mono ?_
  rintro e X1 ⟨rfl, hx1⟩
  have HX1 := Hid.mk' (H11.out.later (below_next (H.drew_below W12) hx1))
  refine ⟨_, rfl, HX1.out.blk (List.mem_cons_self ..), ?_⟩
  simp only [Act.put, List.setIfInBounds_toArray, List.set_cons_succ, List.set_cons_zero]
  refine wpOrd_yield (v := .bool true) rfl (fun u _ => exec_eqB rfl rfl rfl u) ?_
  simp only [Act.put, List.setIfInBounds_toArray, List.set_cons_succ, List.set_cons_zero]
  refine wpOrd_yield (v := .bool true) rfl (fun u _ => by go_simp) ?_
  simp only [Act.put, List.setIfInBounds_toArray, List.set_cons_succ, List.set_cons_zero]
  refine wpOrd_yield (v := .bool true) rfl (fun u _ => by go_simp) ?_
  refine wpOrd_nil ?_
  simp only [Act.put, List.setIfInBounds_toArray, List.set_cons_zero]
  go_wp2
  go_ret
  exact ⟨rfl, HX1.out.below⟩
end Go.Proofs.Ytahaiciciljijaa
