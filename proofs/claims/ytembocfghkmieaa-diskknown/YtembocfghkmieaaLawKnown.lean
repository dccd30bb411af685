/- The law of limits, errors and examples answers true; no condition. -/
import Derived.Test.YtembocfghkmieaaAwake
namespace Go.Proofs.Ytembocfghkmieaa
open Go.RowKit

section
variable (X : Nat → Int)
def kn1 : St := fuseV (newV 4) 1
def kn2 : St := writeS kn1 0 X
def kn3 : St := letV (kn2 X)
def kn4 : St := crashS (kn3 X) []
def kn5 : St := readS (kn4 X)
def kn6 : St := claimV (kn5 X)
def kn7 : St := claimV (kn6 X)
def kn8 : St := crashS (kn7 X) []
theorem knm_e : writeE (newV 1048576) 1048575 = 0 := rfl
theorem knm_v : writeV (newV 1048576) 1048575 X = writeS (newV 1048576) 1048575 X := rfl
theorem knm_room : Room (writeS (newV 1048576) 1048575 X) := roomR 1 1 0 0 rfl rfl rfl rfl (by omega)
theorem knm_e2 : writeE (writeS (newV 1048576) 1048575 X) 1048576 = 2 := rfl
theorem kn1_room : Room kn1 := roomR 0 0 0 0 rfl rfl rfl rfl (by omega)
theorem kn2_e : writeE kn1 0 = 0 := rfl
theorem kn2_v : writeV kn1 0 X = kn2 X := rfl
theorem kn2_room : Room (kn2 X) := roomR 1 1 0 0 rfl rfl rfl rfl (by omega)
theorem kn3_e : barE (kn2 X) = 3 := rfl
theorem kn3_v : barV (kn2 X) = kn3 X := rfl
theorem kn3_stopped : (kn3 X).stopped = true := rfl
theorem kn3_wait : (kn3 X).wait.length = 1 := rfl
theorem kn3_room : Room (kn3 X) := roomR 1 1 0 0 rfl rfl rfl rfl (by omega)
theorem kn3_cn : claimN (kn3 X) = 0 := rfl
theorem kn3_cv : claimV (kn3 X) = kn3 X := rfl
theorem kn3_made : (kn3 X).made = 1 := rfl
theorem kn3_re : refV (kn3 X) 0 = 3 := rfl
theorem kn3_rv : readV (kn3 X) 0 = kn3 X := rfl
theorem kn3_fv : fuseV (kn3 X) (-1) = kn3 X := rfl
theorem kn3_we : writeE (kn3 X) 0 = 3 := rfl
theorem kn3_wv (Y : Nat → Int) : writeV (kn3 X) 0 Y = kn3 X := rfl
theorem kn4_room : Room (kn4 X) := roomR 0 1 0 0 rfl rfl rfl rfl (by omega)
theorem kn4_re : refV (kn4 X) 0 = 0 := rfl
theorem kn4_rv : readV (kn4 X) 0 = kn5 X := rfl
theorem kn4_rb : readB (kn4 X) 0 = nought := by
  unfold readB
  rw [if_pos (kn4_re X), curV_held rfl]
  rfl
theorem kn5_room : Room (kn5 X) := roomR 0 1 1 0 rfl rfl rfl rfl (by omega)
theorem kn5_cn : claimN (kn5 X) = 1 := rfl
theorem kn6_room : Room (kn6 X) := roomR 0 1 1 1 rfl rfl rfl rfl (by omega)
theorem kn6_cn : claimN (kn6 X) = 2 := rfl
theorem kn7_1 : claimedV (kn7 X) 1 = false := rfl
theorem kn7_2 : claimedV (kn7 X) 2 = true := rfl
theorem kn7_wait : (kn7 X).wait.length = 0 := rfl
theorem kn8_room : Room (kn8 X) := roomR 0 1 1 2 rfl rfl rfl rfl (by omega)
theorem kn8_2 : claimedV (kn8 X) 2 = false := rfl
theorem kn8_0 : claimedV (kn8 X) 0 = false := rfl
theorem kn8_cn : claimN (kn8 X) = 3 := rfl
end
set_option maxRecDepth 20000 in
set_option maxHeartbeats 4000000 in
theorem known_any (w : World) : Calls Try.prog 8 #[] w fun e w' => e = .returned (.bool true) ∧ Below w.heap.size w w' := by
  have hX := can_one 1 (by omega)
  have hV := can_one 5 (by omega)
  have hC0 := can_nought
  obtain ⟨N, z25, hbd, eN⟩ : ∃ N, (∀ w, (zeroValue 58).run Try.prog w = .ok (.agg (blk N)) w) ∧ (∀ u : World, (Instr.build 58 #[]).run Try.prog u = .ok (.agg (blk N)) u) ∧ N = nought := ⟨nought, zero25, built58, rfl⟩
  have HN : Hid (N = nought) := eN
  rw [← eN] at hC0
  clear eN
  generalize eX : upd nought 0 1 = X at *
  generalize eV : upd nought 0 5 = V at *
  have HX : Hid (X = upd nought 0 1) := eX.symm
  have HV : Hid (V = upd nought 0 5) := eV.symm
  clear eX eV
  have hN0 := new_bad (n := 0) (by decide) w
  have hN1 := new_bad (n := 1048577) (by decide) w
  have hN2 := sits_new (w := w) (W := w) (n := 1048576) (ks := []) (by decide) (Below.refl _ _) (fun p hp => by simp at hp)
  go_enter Try.func8, Try.ntmps8
  go_wp2_with (go_at_call 30; fail)
  refine hN0.mono ?_
  rintro e W ⟨rfl, he⟩
  obtain rfl := he.symm
  clear he hN0
  go_wp2_with (go_at_call 30; fail)
  refine hN1.mono ?_
  rintro e W ⟨rfl, he⟩
  obtain rfl := he.symm
  clear he hN1
  go_wp2_with (go_at_call 30; fail)
  refine hN2.mono ?_
  rintro e W0 ⟨m, rfl, hS0⟩
  clear hN2
  go_wp2_with (go_at_call 18; fail)
  refine (sits_len hS0).mono ?_
  rw [show (newV 1048576).n = 1048576 from rfl]
  rintro e W1 ⟨rfl, hS1⟩
  clear hS0
  go_wp2_with (first | refine wpList_build58c rfl 5 rfl V HV.out ?_ | (go_at_call 33; fail))
  refine (sits_write hS1 (roomR 0 0 0 0 rfl rfl rfl rfl (by omega)) 1048575 hV).mono ?_
  rw [knm_e, knm_v]
  rintro e W2 ⟨rfl, hS2⟩
  clear hS1
  go_wp2_with (first | refine wpList_build58c rfl 5 rfl V HV.out ?_ | (go_at_call 33; fail))
  refine (sits_write hS2 (knm_room V) 1048576 hV).mono ?_
  rw [knm_e2]
  rintro e W3 ⟨rfl, hS3⟩
  have hB3 := hS3.below
  clear hS2 hS3
  go_wp2_with (go_at_call 30; fail)
  refine (sits_new (w := w) (W := W3) (n := 4) (ks := []) (by decide) hB3 (fun p hp => by simp at hp)).mono ?_
  rintro e W4 ⟨d, rfl, hS4⟩
  clear hB3
  go_wp2_with (go_at_call 31; fail)
  refine (sits_fuse hS4 1 (by omega)).mono ?_
  rw [show fuseV (newV 4) 1 = kn1 from rfl]
  rintro e W5 ⟨rfl, hS5⟩
  clear hS4
  go_wp2_with (first | refine wpList_build58c rfl 1 rfl X HX.out ?_ | (go_at_call 33; fail))
  refine (sits_write hS5 kn1_room 0 hX).mono ?_
  rw [kn2_e, kn2_v]
  rintro e W6 ⟨rfl, hS6⟩
  clear hS5
  go_wp2_with (go_at_call 32; fail)
  refine (sits_barrier hS6 (kn2_room X)).mono ?_
  rw [kn3_e, kn3_v]
  rintro e W7 ⟨rfl, hS7⟩
  clear hS6
  go_wp2_with (go_at_call 34; fail)
  refine (sits_stopped hS7).mono ?_
  rw [kn3_stopped]
  rintro e W8 ⟨rfl, hS8⟩
  clear hS7
  go_wp2_with (go_at_call 25; fail)
  refine (sits_pending hS8 (by rw [kn3_wait]; omega)).mono ?_
  rw [kn3_wait]
  rintro e W9 ⟨rfl, _, hS9⟩
  clear hS8
  go_wp2_with (go_at_call 36; fail)
  refine (sits_claim hS9 (kn3_room X)).mono ?_
  rw [kn3_cn, kn3_cv]
  rintro e W10 ⟨rfl, hS10⟩
  clear hS9
  go_wp2_with (go_at_call 23; fail)
  refine (sits_made hS10).mono ?_
  rw [kn3_made]
  rintro e W11 ⟨rfl, hS11⟩
  clear hS10
  go_wp2_with (go_at_call 20; fail)
  refine (sits_read hS11 (kn3_room X) 0).mono ?_
  rw [kn3_re, kn3_rv]
  generalize readB (kn3 X) 0 = Z0
  rintro e W12 ⟨rfl, hS12⟩
  clear hS11
  have hS13 := hS12.add (.cells (blk Z0) 58)
  go_wp2_with (first | refine wpList_store25_new rfl (.tmp 10) (.tmp 95) rfl Z0 _ rfl rfl ?_ | (go_at_call 31; fail))
  refine (sits_fuse hS13 (-1) (by omega)).mono ?_
  rw [kn3_fv]
  rintro e W14 ⟨rfl, hS14⟩
  clear hS13 hS12
  go_wp2_with (go_at_call 34; fail)
  refine (sits_stopped hS14).mono ?_
  rw [kn3_stopped]
  rintro e W15 ⟨rfl, hS15⟩
  clear hS14
  go_wp2_with (first | refine wpList_build58w rfl rfl hbd ?_ | (go_at_call 33; fail))
  refine (sits_write hS15 (kn3_room X) 0 hC0).mono ?_
  rw [kn3_we, kn3_wv]
  rintro e W16 ⟨rfl, hS16⟩
  clear hS15
  go_wp2_with (go_at_call 35; fail)
  refine (sits_crash hS16 (kl := []) (bools_nil W16) (by rw [kn3_wait]; omega) (by show 0 < 9223372036854775807; omega)).mono ?_
  rw [show crashS (kn3 X) [] = kn4 X from rfl]
  rintro e W17 ⟨rfl, hS17⟩
  clear hS16
  go_wp2_with (go_at_call 20; fail)
  refine (sits_read hS17 (kn4_room X) 0).mono ?_
  have q1 : sameB (readB (kn4 X) 0) N = true := by rw [kn4_rb, HN.out]; exact sameB_self _
  rw [kn4_re, kn4_rv]
  generalize readB (kn4 X) 0 = Z1 at *
  rintro e W18 ⟨rfl, hS18⟩
  clear hS17
  have hS19 := hS18.add (.cells (blk Z1) 58)
  clear hS18
  go_wp2_with (first | refine wpList_store25_new rfl (.tmp 13) (.tmp 112) rfl Z1 _ rfl rfl ?_ | (go_at_call 36; fail))
  generalize W18.alloc (.cells (blk Z1) 58) = W19 at *
  generalize W18.heap.size = gz at *
  refine (sits_claim hS19 (kn5_room X)).mono ?_
  rw [kn5_cn, show claimV (kn5 X) = kn6 X from rfl]
  rintro e W20 ⟨rfl, hS20⟩
  clear hS19
  go_wp2_with (go_at_call 36; fail)
  refine (sits_claim hS20 (kn6_room X)).mono ?_
  rw [kn6_cn, show claimV (kn6 X) = kn7 X from rfl]
  rintro e W21 ⟨rfl, hS21⟩
  clear hS20
  go_wp2_with (go_at_call 37; fail)
  refine (sits_claimed hS21 1).mono ?_
  rw [kn7_1]
  rintro e W22 ⟨rfl, hS22⟩
  clear hS21
  go_wp2_with (go_at_call 37; fail)
  refine (sits_claimed hS22 2).mono ?_
  rw [kn7_2]
  rintro e W23 ⟨rfl, hS23⟩
  clear hS22
  go_wp2_with (go_at_call 35; fail)
  refine (sits_crash hS23 (kl := []) (bools_nil W23) (by rw [kn7_wait]; omega) (by show 0 < 9223372036854775807; omega)).mono ?_
  rw [show crashS (kn7 X) [] = kn8 X from rfl]
  rintro e W24 ⟨rfl, hS24⟩
  clear hS23
  go_wp2_with (go_at_call 37; fail)
  refine (sits_claimed hS24 2).mono ?_
  rw [kn8_2]
  rintro e W25 ⟨rfl, hS25⟩
  clear hS24
  go_wp2_with (go_at_call 37; fail)
  refine (sits_claimed hS25 0).mono ?_
  rw [kn8_0]
  rintro e W26 ⟨rfl, hS26⟩
  clear hS25
  go_wp2_with (go_at_call 36; fail)
  refine (sits_claim hS26 (kn8_room X)).mono ?_
  rw [kn8_cn]
  rintro e W27 ⟨rfl, hS27⟩
  have k1 := hS27.blk (g := gz) (o := .cells (blk Z1) 58) (.head _)
  have HB : Hid (Below w.heap.size w W27) := hS27.below
  clear hS26 hS27
  go_wp2_with (go_at_call 28; fail)
  refine (awake_any W27).mono ?_
  rintro e W28 ⟨rfl, hb⟩
  have k2 := heap_kept k1 hb
  have HB2 : Hid (Below w.heap.size w W28) := below_next HB.out hb
  clear hb k1 HB
  go_wp2_with (first | refine wpList_load58w rfl (.tmp 13) rfl gz rfl Z1 k2 ?_ | refine wpList_build58w rfl rfl hbd ?_ | refine wpList_eq58 rfl (.tmp 177) (.tmp 178) rfl Z1 N true rfl rfl q1 ?_)
  go_ret
  exact ⟨rfl, HB2.out⟩
end Go.Proofs.Ytembocfghkmieaa
