/- DeskCounts answers true, whatever the desk's size and the calls; no condition. -/
import Derived.Test.YtpghalekcgnefaaDk5
namespace Go.Proofs.Ytpghalekcgnefaa
open Go.RowKit Go.Maps
theorem heldN_le (F : Nat → Int) : ∀ k, heldN F k ≤ k
  | 0 => Nat.le_refl _
  | k + 1 => by
    have := heldN_le F k
    unfold heldN
    split <;> omega
theorem Cnt.bound {m : Int} {L : List (Int × Int)} {F : Nat → Int} {c : Nat} (h : Cnt L F) (ho : Dok m L c) {k : Nat} (h1 : 1 ≤ k) (h2 : k < 20) : 0 ≤ F k ∧ F k ≤ c := by
  rw [h.val k h1 h2]
  cases e : getH L (k : Int) with
  | none => simp
  | some u =>
    have := ho.val _ (get_some e)
    simp only at this
    simp only [Option.getD_some]
    omega
set_option maxRecDepth 20000 in
theorem zero20 (w : World) : (Instr.makeSlice 35 (.int .i64 20) (.int .i64 20)).run Try.prog w = .ok (.slice (some ⟨w.heap.size, 0, none⟩) 20 20) (w.alloc (.cells (rowN .i64 nought 20) 3)) := by kernel_rfl
section
variable {ops : Array Oper} {rest : List Oper} {a : Act} {w : World} {dst : Option Tmp} {x y : Operand} {ty : TypeId} {pos : String} {aft : Array Edge} {Q : Exit → Act → World → Prop}
theorem isMake35 (h : wpList Try.prog ops Q (⟨dst, .makeSlice 35 x y, ty, pos, aft, none⟩ :: rest) a w) : wpList Try.prog ops Q (⟨dst, .makeSlice 35 x y, ty, pos, aft, none⟩ :: rest) a w := h
theorem wpList_mk20 (hx : a.eval x = .int .i64 20) (hy : a.eval y = .int .i64 20) (h : wpList Try.prog ops Q rest (a.put dst (.slice (some ⟨w.heap.size, 0, none⟩) 20 20)) (w.alloc (.cells (rowN .i64 nought 20) 3))) : wpList Try.prog ops Q (⟨dst, .makeSlice 35 x y, ty, pos, aft, none⟩ :: rest) a w :=
  wpList_plain rfl fun _ hK => by
    unfold Oper.wp execOp
    simp only [hx, hy, zero20, Sem.run_bind, Sem.run_pure, Result.andThen_ok]
    exact hK _ _ h
end
set_option maxHeartbeats 4000000 in
set_option maxRecDepth 20000 in
theorem counts_walk (n : Int) (hn : n ≤ 9223372036854775807) (S : List (Int × Int)) (a : Option Addr) (cap : Nat) (w : World) (hS : ActsAt w a S) (hl : S.length ≤ 9223372036854775807) (hwf : ∀ c ∈ S, (Lit.int .i64 c.1).wf = true ∧ (Lit.int .i64 c.2).wf = true) :
    Calls Try.prog 4 #[.int .i64 n, .slice a S.length cap] w fun e w' => e = .returned (.bool true) ∧ Below w.heap.size w w' := by
  have hlv := dlives_ok
  have HA : Hid (ActsAt w a S) := hS
  obtain ⟨N, hN⟩ : ∃ N, S.length = N := ⟨_, rfl⟩
  have HN : Hid (S.length = N) := hN
  rw [hN] at hl ⊢
  have HO0 : Hid (Dok (max n 0) [] 0) := Dok.start (by omega) (by omega) 0
  have hM : (if n < 0 then (0 : Int) else n) = max n 0 := by split <;> omega
  have HM : Hid (0 ≤ max n 0 ∧ max n 0 ≤ 9223372036854775807) := ⟨by omega, by omega⟩
  clear hN hS
  go_enter Try.func4, Try.ntmps4
  go_wp2_with (first | (go_at_call 7; fail))
  refine ((Sep.nil (Below.refl _ _)).new n).mono ?_
  rintro e W0 ⟨g, b, rfl, h0⟩
  have H0 : Hid (Sep w W0 (dkP g b (max n 0) [] :: [])) := h0
  clear h0
  go_wp2_with (first | (go_at_call 10; fail))
  refine (hlv _).mono ?_
  rintro e W1 ⟨rfl, hb1⟩
  have H1 : Hid (Sep w W1 (dkP g b (max n 0) [] :: [])) := H0.out.later hb1
  clear hb1 H0
  by_cases hbig : 300 < N
  · have q1 : decide ((300 : Int) < N) = true := decide_eq_true (by omega)
    have q2 : decide (300 < N) = true := decide_eq_true (by omega)
    go_wp2
    go_ret
    exact ⟨rfl, H1.out.below⟩
  have q1 : decide ((300 : Int) < N) = false := decide_eq_false (by omega)
  have q2 : decide (300 < N) = false := decide_eq_false (by omega)
  go_wp2_with (first | (with_reducible refine isMake35 ?_; refine wpList_mk20 rfl rfl ?_))
  have H2 : Hid (Sep w (W1.alloc (.cells (rowN .i64 nought 20) 3)) (dkP g b (max n 0) [] :: bkP W1.heap.size nought :: [])) := by
    refine Sep.swap (H1.out.add (below_new _ _) (bkP_good _ _) (heap_alloc_new _ _) ?_)
    rintro k rfl
    exact ⟨Nat.le_refl _, by simp⟩
  generalize hh : W1.heap.size = h at *
  generalize W1.alloc (.cells (rowN .i64 nought 20) 3) = W2 at *
  clear H1 hh hlv
  generalize hMM : max n 0 = M at *
  clear hMM
  go_wp2
  go_loopw [7] (fun s7 wx => ∃ (i : Nat) (L : List (Int × Int)) (F : Nat → Int), i ≤ N ∧ s7 = .int .i64 i ∧ Hid (Sep w wx (dkP g b M L :: bkP h F :: [])) ∧ Hid (Dok M L i) ∧ Hid (Cnt L F)) (fun s7 _ => N - (intOf s7).toNat)
  case atStart => exact ⟨0, [], nought, by omega, rfl, H2, HO0, Cnt.start⟩
  case round =>
    obtain ⟨i, L, F, hi, rfl, HS, HO, HC⟩ := hrel
    by_cases hi2 : i < N
    · have hnn := HN.out
      have hgs : S[i]? = some S[i] := List.getElem?_eq_getElem (by omega)
      obtain ⟨hw1, hw2⟩ := hwf _ (List.mem_of_getElem? hgs)
      obtain ⟨bA, oA, rfl, lb, C⟩ := HA.out (by omega)
      obtain ⟨c0, c1⟩ := C i _ hgs
      have hbw := HS.out.below
      have q0 : wr.cell? ⟨bA, oA + i * 2, none⟩ = some (.int .i64 (S[i]).1) := (hbw.cell (p := ⟨bA, oA + i * 2, none⟩) lb).trans c0
      have q3 : wr.cell? ⟨bA, oA + i * 2 + 1, none⟩ = some (.int .i64 (S[i]).2) := (hbw.cell (p := ⟨bA, oA + i * 2 + 1, none⟩) lb).trans c1
      generalize (S[i]).1 = cl at *
      generalize (S[i]).2 = im at *
      have hpk := pick_ok im 19 (by omega)
      have hm0 : 0 ≤ im % 19 ∧ im % 19 < 19 := by omega
      generalize im % 19 = r at *
      obtain ⟨k, hk⟩ : ∃ k : Nat, r + 1 = k := ⟨(r + 1).toNat, by omega⟩
      have hkw : IntKind.i64.wrap (r + 1) = (k : Int) := by rw [IntKind.wrap_i64]; omega
      have hk1 : 1 ≤ k := by omega
      have hk2 : k < 20 := by omega
      clear hk hm0 hbw c0 c1 C hgs hnn
      have hFb : 0 ≤ F k ∧ F k ≤ i := HC.out.bound HO.out hk1 hk2
      have hwr : IntKind.i64.wrap (F k + 1) = F k + 1 := by rw [IntKind.wrap_i64]; omega
      have htw : IntKind.i64.wrap (Int.tmod cl 2) = Int.tmod cl 2 := by rw [IntKind.wrap_i64]; have := Int.tmod_lt_of_pos cl (show (0:Int) < 2 by omega); have := Int.lt_tmod_of_pos cl (show (0:Int) < 2 by omega); omega
      have ck : wr.cell? ⟨h, k, none⟩ = some (.int .i64 (F k)) := cell_rowN HS.out.swap.head hk2
      by_cases hev : Int.tmod cl 2 = 0
      · rw [hev] at htw
        have hte : (IntKind.i64.wrap (Int.tmod cl 2) == 0) = true := by rw [hev]; rfl
        rcases holdE_cases (m := M) HC.out hk1 hk2 with he | ⟨he, hF, hfu, hL⟩
        · have hh := HS.out.hold HO.out (by omega) k (wf64 (by omega) (by omega))
          rw [he] at hh
          have HC2 : Hid (Cnt (holdL M L k) (updN F k (F k + 1))) := cnt_hold HC.out HO.out hk1 hk2 he
          have HO2 : Hid (Dok M (holdL M L k) (i + 1)) := HO.out.hold (by omega)
          generalize holdL M L k = L2 at *
          clear ck
          go_wp2_with (first | (go_at_call 12; refine (hpk _).mono ?_; rintro e W ⟨rfl, rfl⟩) | (go_at_call 13; fail))
          refine hh.mono ?_
          rintro e W3 ⟨rfl, h3⟩
          have ck : W3.cell? ⟨h, k, none⟩ = some (.int .i64 (F k)) := cell_rowN h3.swap.head hk2
          have fk : W3.frozen? ⟨h, k, none⟩ = false := frozen_row h3.swap.head k
          have HS2 : Hid (Sep w (W3.setCell ⟨h, k, none⟩ (.int .i64 (F k + 1))) (dkP g b M L2 :: bkP h (updN F k (F k + 1)) :: [])) := (h3.swap.book k (F k + 1)).swap
          clear h3 hh
          generalize updN F k (F k + 1) = F2 at *
          generalize F k = fv at *
          go_wp2
          generalize W3.setCell ⟨h, k, none⟩ (.int .i64 (fv + 1)) = V at *
          have HH : Hid (heldN F2 20 = L2.length) := HC2.out.held HO2.out
          go_loopw [12, 13] (fun s12 s13 wx => ∃ k : Nat, 1 ≤ k ∧ k ≤ 20 ∧ s13 = .int .i64 k ∧ s12 = .int .i64 (heldN F2 k) ∧ Hid (Sep w wx (dkP g b M L2 :: bkP h F2 :: []))) (fun _ s13 _ => 20 - (intOf s13).toNat)
          case atStart => exact ⟨1, by omega, by omega, rfl, rfl, HS2⟩
          case round =>
            obtain ⟨k, hk1, hk2, rfl, rfl, HX⟩ := hrel
            by_cases hk3 : k < 20
            · have c3 : wr.cell? ⟨h, k, none⟩ = some (.int .i64 (F2 k)) := cell_rowN HX.out.swap.head hk3
              have hh := fun q => holds_ok (HX.out.later (belowN (Below.refl _ _) q)).desk k (wf64 (by omega) (by omega))
              simp only [← HC2.out.val k hk1 hk3] at hh
              have hle : heldN F2 k ≤ k := heldN_le F2 k
              have HN : Hid (heldN F2 (k + 1) = heldN F2 k + (if 1 ≤ k ∧ 0 < F2 k then 1 else 0)) := rfl
              generalize F2 k = fk at *
              generalize heldN F2 k = hn at *
              by_cases hp : 0 < fk
              · have hp1 : decide (0 < fk) = true := decide_eq_true hp
                have e2 := HN.out
                rw [if_pos ⟨hk1, hp⟩] at e2
                have HE : Hid (heldN F2 (k + 1) = hn + 1) := e2
                clear e2 HN hp
                go_wp2
                go_quiet (first | (go_at_call 16; exact Calls.quiet_of_same (hh _)))
                go_wp2
                go_roundw
                case rel => exact ⟨k + 1, by omega, by omega, by go_num, by rw [HE.out]; go_num, HX.out.later (belowN (Below.refl _ _) _)⟩
                case measure => simp [intOf]; omega
              · have hp1 : decide (0 < fk) = false := decide_eq_false hp
                have e2 := HN.out
                rw [if_neg (fun q => hp q.2)] at e2
                have HE : Hid (heldN F2 (k + 1) = hn) := e2
                clear e2 HN hp
                go_wp2
                go_quiet (first | (go_at_call 16; exact Calls.quiet_of_same (hh _)))
                go_wp2
                go_roundw
                case rel => exact ⟨k + 1, by omega, by omega, by go_num, by rw [HE.out], HX.out.later (belowN (Below.refl _ _) _)⟩
                case measure => simp [intOf]; omega
            · obtain rfl : k = 20 := by omega
              rw [HH.out]
              have hll := len_ok HX.out.desk
              have hfl := HX.out.full
              have hMb := HM.out
              have hle := HO2.out.len
              have hg1 : decide (M < (L2.length : Int)) = false := decide_eq_false (by omega)
              have hg2 : ((L2.length : Int) == M) = fullB M L2 := rfl
              generalize fullB M L2 = fq at *
              have HLL : Hid (∃ z, L2.length = z) := ⟨_, rfl⟩
              generalize L2.length = z at *
              have hbb : (fq == fq) = true := by cases fq <;> rfl
              go_wp2_with (first | (go_at_call 17; refine hll.mono ?_; rintro e W ⟨rfl, rfl⟩) | (go_at_call 14; fail))
              refine hfl.mono ?_
              rintro e V5 ⟨rfl, h5⟩
              have H5 : Hid (Sep w V5 (dkP g b M L2 :: bkP h F2 :: [])) := h5
              clear h5 hfl hll
              go_wp2
              go_roundw
              case rel => exact ⟨i + 1, L2, F2, by omega, by go_num, H5, HO2, HC2⟩
              case measure => simp [intOf]; omega
        · have HC2 : Hid (Cnt L F) := HC.out
          have HO2 : Hid (Dok M L (i + 1)) := HO.out.mono (by omega)
          have hh := HS.out.hold HO.out (by omega) k (wf64 (by omega) (by omega))
          rw [he, hL] at hh
          rw [hF] at hFb
          clear ck
          go_wp2_with (first | (go_at_call 12; refine (hpk _).mono ?_; rintro e W ⟨rfl, rfl⟩) | (go_at_call 13; fail))
          refine hh.mono ?_
          rintro e W3 ⟨rfl, h3⟩
          have ck : W3.cell? ⟨h, k, none⟩ = some (.int .i64 (F k)) := cell_rowN h3.swap.head hk2
          rw [hF] at ck
          have hfl := h3.full
          rw [hfu] at hfl
          clear h3 hh
          go_wp2_with (first | (go_at_call 14; fail))
          refine hfl.mono ?_
          rintro e V ⟨rfl, h4⟩
          have HS2 : Hid (Sep w V (dkP g b M L :: bkP h F :: [])) := h4
          clear h4 hfl
          go_wp2
          obtain ⟨L2, hL2⟩ : ∃ L2, L2 = L := ⟨_, rfl⟩
          obtain ⟨F2, hF2⟩ : ∃ F2, F2 = F := ⟨_, rfl⟩
          rw [← hL2, ← hF2] at HS2 HC2
          rw [← hL2] at HO2
          clear hL2 hF2
          have HH : Hid (heldN F2 20 = L2.length) := HC2.out.held HO2.out
          go_loopw [12, 13] (fun s12 s13 wx => ∃ k : Nat, 1 ≤ k ∧ k ≤ 20 ∧ s13 = .int .i64 k ∧ s12 = .int .i64 (heldN F2 k) ∧ Hid (Sep w wx (dkP g b M L2 :: bkP h F2 :: []))) (fun _ s13 _ => 20 - (intOf s13).toNat)
          case atStart => exact ⟨1, by omega, by omega, rfl, rfl, HS2⟩
          case round =>
            obtain ⟨k, hk1, hk2, rfl, rfl, HX⟩ := hrel
            by_cases hk3 : k < 20
            · have c3 : wr.cell? ⟨h, k, none⟩ = some (.int .i64 (F2 k)) := cell_rowN HX.out.swap.head hk3
              have hh := fun q => holds_ok (HX.out.later (belowN (Below.refl _ _) q)).desk k (wf64 (by omega) (by omega))
              simp only [← HC2.out.val k hk1 hk3] at hh
              have hle : heldN F2 k ≤ k := heldN_le F2 k
              have HN : Hid (heldN F2 (k + 1) = heldN F2 k + (if 1 ≤ k ∧ 0 < F2 k then 1 else 0)) := rfl
              generalize F2 k = fk at *
              generalize heldN F2 k = hn at *
              by_cases hp : 0 < fk
              · have hp1 : decide (0 < fk) = true := decide_eq_true hp
                have e2 := HN.out
                rw [if_pos ⟨hk1, hp⟩] at e2
                have HE : Hid (heldN F2 (k + 1) = hn + 1) := e2
                clear e2 HN hp
                go_wp2
                go_quiet (first | (go_at_call 16; exact Calls.quiet_of_same (hh _)))
                go_wp2
                go_roundw
                case rel => exact ⟨k + 1, by omega, by omega, by go_num, by rw [HE.out]; go_num, HX.out.later (belowN (Below.refl _ _) _)⟩
                case measure => simp [intOf]; omega
              · have hp1 : decide (0 < fk) = false := decide_eq_false hp
                have e2 := HN.out
                rw [if_neg (fun q => hp q.2)] at e2
                have HE : Hid (heldN F2 (k + 1) = hn) := e2
                clear e2 HN hp
                go_wp2
                go_quiet (first | (go_at_call 16; exact Calls.quiet_of_same (hh _)))
                go_wp2
                go_roundw
                case rel => exact ⟨k + 1, by omega, by omega, by go_num, by rw [HE.out], HX.out.later (belowN (Below.refl _ _) _)⟩
                case measure => simp [intOf]; omega
            · obtain rfl : k = 20 := by omega
              rw [HH.out]
              have hll := len_ok HX.out.desk
              have hfl := HX.out.full
              have hMb := HM.out
              have hle := HO2.out.len
              have hg1 : decide (M < (L2.length : Int)) = false := decide_eq_false (by omega)
              have hg2 : ((L2.length : Int) == M) = fullB M L2 := rfl
              generalize fullB M L2 = fq at *
              have HLL : Hid (∃ z, L2.length = z) := ⟨_, rfl⟩
              generalize L2.length = z at *
              have hbb : (fq == fq) = true := by cases fq <;> rfl
              go_wp2_with (first | (go_at_call 17; refine hll.mono ?_; rintro e W ⟨rfl, rfl⟩) | (go_at_call 14; fail))
              refine hfl.mono ?_
              rintro e V5 ⟨rfl, h5⟩
              have H5 : Hid (Sep w V5 (dkP g b M L2 :: bkP h F2 :: [])) := h5
              clear h5 hfl hll
              go_wp2
              go_roundw
              case rel => exact ⟨i + 1, L2, F2, by omega, by go_num, H5, HO2, HC2⟩
              case measure => simp [intOf]; omega
      · have hte : (IntKind.i64.wrap (Int.tmod cl 2) == 0) = false := by rw [htw]; simpa using hev
        have hh := HS.out.dropD HO.out (by omega) k (wf64 (by omega) (by omega))
        rcases drop_cases HC.out HO.out hk1 hk2 with ⟨he, hf1, hf2, hb2, hc2⟩ | ⟨he, hF, hb2, hL⟩
        · have HC2 : Hid (Cnt (dropL L k) (updN F k (F k - 1))) := hc2
          have HO2 : Hid (Dok M (dropL L k) (i + 1)) := (HO.out.drop k).mono (by omega)
          rw [he, hb2] at hh
          generalize dropL L k = L2 at *
          have hp1 : decide (0 < F k) = true := decide_eq_true (by omega)
          have hwr2 : IntKind.i64.wrap (F k - 1) = F k - 1 := by rw [IntKind.wrap_i64]; omega
          clear ck hb2 hc2
          go_wp2_with (first | (go_at_call 12; refine (hpk _).mono ?_; rintro e W ⟨rfl, rfl⟩) | (go_at_call 15; fail))
          refine hh.mono ?_
          rintro e W3 ⟨rfl, h3⟩
          have ck : W3.cell? ⟨h, k, none⟩ = some (.int .i64 (F k)) := cell_rowN h3.swap.head hk2
          have fk : W3.frozen? ⟨h, k, none⟩ = false := frozen_row h3.swap.head k
          have HS2 : Hid (Sep w (W3.setCell ⟨h, k, none⟩ (.int .i64 (F k - 1))) (dkP g b M L2 :: bkP h (updN F k (F k - 1)) :: [])) := (h3.swap.book k (F k - 1)).swap
          clear h3 hh
          generalize updN F k (F k - 1) = F2 at *
          generalize F k = fv at *
          generalize hbq : (fv == 1) = bq at *
          have hbb : (bq == bq) = true := by cases bq <;> rfl
          go_wp2
          generalize W3.setCell ⟨h, k, none⟩ (.int .i64 (fv - 1)) = V at *
          have HH : Hid (heldN F2 20 = L2.length) := HC2.out.held HO2.out
          go_loopw [12, 13] (fun s12 s13 wx => ∃ k : Nat, 1 ≤ k ∧ k ≤ 20 ∧ s13 = .int .i64 k ∧ s12 = .int .i64 (heldN F2 k) ∧ Hid (Sep w wx (dkP g b M L2 :: bkP h F2 :: []))) (fun _ s13 _ => 20 - (intOf s13).toNat)
          case atStart => exact ⟨1, by omega, by omega, rfl, rfl, HS2⟩
          case round =>
            obtain ⟨k, hk1, hk2, rfl, rfl, HX⟩ := hrel
            by_cases hk3 : k < 20
            · have c3 : wr.cell? ⟨h, k, none⟩ = some (.int .i64 (F2 k)) := cell_rowN HX.out.swap.head hk3
              have hh := fun q => holds_ok (HX.out.later (belowN (Below.refl _ _) q)).desk k (wf64 (by omega) (by omega))
              simp only [← HC2.out.val k hk1 hk3] at hh
              have hle : heldN F2 k ≤ k := heldN_le F2 k
              have HN : Hid (heldN F2 (k + 1) = heldN F2 k + (if 1 ≤ k ∧ 0 < F2 k then 1 else 0)) := rfl
              generalize F2 k = fk at *
              generalize heldN F2 k = hn at *
              by_cases hp : 0 < fk
              · have hp1 : decide (0 < fk) = true := decide_eq_true hp
                have e2 := HN.out
                rw [if_pos ⟨hk1, hp⟩] at e2
                have HE : Hid (heldN F2 (k + 1) = hn + 1) := e2
                clear e2 HN hp
                go_wp2
                go_quiet (first | (go_at_call 16; exact Calls.quiet_of_same (hh _)))
                go_wp2
                go_roundw
                case rel => exact ⟨k + 1, by omega, by omega, by go_num, by rw [HE.out]; go_num, HX.out.later (belowN (Below.refl _ _) _)⟩
                case measure => simp [intOf]; omega
              · have hp1 : decide (0 < fk) = false := decide_eq_false hp
                have e2 := HN.out
                rw [if_neg (fun q => hp q.2)] at e2
                have HE : Hid (heldN F2 (k + 1) = hn) := e2
                clear e2 HN hp
                go_wp2
                go_quiet (first | (go_at_call 16; exact Calls.quiet_of_same (hh _)))
                go_wp2
                go_roundw
                case rel => exact ⟨k + 1, by omega, by omega, by go_num, by rw [HE.out], HX.out.later (belowN (Below.refl _ _) _)⟩
                case measure => simp [intOf]; omega
            · obtain rfl : k = 20 := by omega
              rw [HH.out]
              have hll := len_ok HX.out.desk
              have hfl := HX.out.full
              have hMb := HM.out
              have hle := HO2.out.len
              have hg1 : decide (M < (L2.length : Int)) = false := decide_eq_false (by omega)
              have hg2 : ((L2.length : Int) == M) = fullB M L2 := rfl
              generalize fullB M L2 = fq at *
              have HLL : Hid (∃ z, L2.length = z) := ⟨_, rfl⟩
              generalize L2.length = z at *
              have hbb : (fq == fq) = true := by cases fq <;> rfl
              go_wp2_with (first | (go_at_call 17; refine hll.mono ?_; rintro e W ⟨rfl, rfl⟩) | (go_at_call 14; fail))
              refine hfl.mono ?_
              rintro e V5 ⟨rfl, h5⟩
              have H5 : Hid (Sep w V5 (dkP g b M L2 :: bkP h F2 :: [])) := h5
              clear h5 hfl hll
              go_wp2
              go_roundw
              case rel => exact ⟨i + 1, L2, F2, by omega, by go_num, H5, HO2, HC2⟩
              case measure => simp [intOf]; omega
        · have HC2 : Hid (Cnt L F) := HC.out
          have HO2 : Hid (Dok M L (i + 1)) := HO.out.mono (by omega)
          rw [he, hb2, hL] at hh
          rw [hF] at hFb
          clear ck
          go_wp2_with (first | (go_at_call 12; refine (hpk _).mono ?_; rintro e W ⟨rfl, rfl⟩) | (go_at_call 15; fail))
          refine hh.mono ?_
          rintro e V ⟨rfl, h3⟩
          have ck : V.cell? ⟨h, k, none⟩ = some (.int .i64 (F k)) := cell_rowN h3.swap.head hk2
          rw [hF] at ck
          have HS2 : Hid (Sep w V (dkP g b M L :: bkP h F :: [])) := h3
          clear h3 hh
          go_wp2
          obtain ⟨L2, hL2⟩ : ∃ L2, L2 = L := ⟨_, rfl⟩
          obtain ⟨F2, hF2⟩ : ∃ F2, F2 = F := ⟨_, rfl⟩
          rw [← hL2, ← hF2] at HS2 HC2
          rw [← hL2] at HO2
          clear hL2 hF2
          have HH : Hid (heldN F2 20 = L2.length) := HC2.out.held HO2.out
          go_loopw [12, 13] (fun s12 s13 wx => ∃ k : Nat, 1 ≤ k ∧ k ≤ 20 ∧ s13 = .int .i64 k ∧ s12 = .int .i64 (heldN F2 k) ∧ Hid (Sep w wx (dkP g b M L2 :: bkP h F2 :: []))) (fun _ s13 _ => 20 - (intOf s13).toNat)
          case atStart => exact ⟨1, by omega, by omega, rfl, rfl, HS2⟩
          case round =>
            obtain ⟨k, hk1, hk2, rfl, rfl, HX⟩ := hrel
            by_cases hk3 : k < 20
            · have c3 : wr.cell? ⟨h, k, none⟩ = some (.int .i64 (F2 k)) := cell_rowN HX.out.swap.head hk3
              have hh := fun q => holds_ok (HX.out.later (belowN (Below.refl _ _) q)).desk k (wf64 (by omega) (by omega))
              simp only [← HC2.out.val k hk1 hk3] at hh
              have hle : heldN F2 k ≤ k := heldN_le F2 k
              have HN : Hid (heldN F2 (k + 1) = heldN F2 k + (if 1 ≤ k ∧ 0 < F2 k then 1 else 0)) := rfl
              generalize F2 k = fk at *
              generalize heldN F2 k = hn at *
              by_cases hp : 0 < fk
              · have hp1 : decide (0 < fk) = true := decide_eq_true hp
                have e2 := HN.out
                rw [if_pos ⟨hk1, hp⟩] at e2
                have HE : Hid (heldN F2 (k + 1) = hn + 1) := e2
                clear e2 HN hp
                go_wp2
                go_quiet (first | (go_at_call 16; exact Calls.quiet_of_same (hh _)))
                go_wp2
                go_roundw
                case rel => exact ⟨k + 1, by omega, by omega, by go_num, by rw [HE.out]; go_num, HX.out.later (belowN (Below.refl _ _) _)⟩
                case measure => simp [intOf]; omega
              · have hp1 : decide (0 < fk) = false := decide_eq_false hp
                have e2 := HN.out
                rw [if_neg (fun q => hp q.2)] at e2
                have HE : Hid (heldN F2 (k + 1) = hn) := e2
                clear e2 HN hp
                go_wp2
                go_quiet (first | (go_at_call 16; exact Calls.quiet_of_same (hh _)))
                go_wp2
                go_roundw
                case rel => exact ⟨k + 1, by omega, by omega, by go_num, by rw [HE.out], HX.out.later (belowN (Below.refl _ _) _)⟩
                case measure => simp [intOf]; omega
            · obtain rfl : k = 20 := by omega
              rw [HH.out]
              have hll := len_ok HX.out.desk
              have hfl := HX.out.full
              have hMb := HM.out
              have hle := HO2.out.len
              have hg1 : decide (M < (L2.length : Int)) = false := decide_eq_false (by omega)
              have hg2 : ((L2.length : Int) == M) = fullB M L2 := rfl
              generalize fullB M L2 = fq at *
              have HLL : Hid (∃ z, L2.length = z) := ⟨_, rfl⟩
              generalize L2.length = z at *
              have hbb : (fq == fq) = true := by cases fq <;> rfl
              go_wp2_with (first | (go_at_call 17; refine hll.mono ?_; rintro e W ⟨rfl, rfl⟩) | (go_at_call 14; fail))
              refine hfl.mono ?_
              rintro e V5 ⟨rfl, h5⟩
              have H5 : Hid (Sep w V5 (dkP g b M L2 :: bkP h F2 :: [])) := h5
              clear h5 hfl hll
              go_wp2
              go_roundw
              case rel => exact ⟨i + 1, L2, F2, by omega, by go_num, H5, HO2, HC2⟩
              case measure => simp [intOf]; omega
    · obtain rfl : i = N := by omega
      go_wp2
      go_ret
      exact ⟨rfl, HS.out.below⟩
end Go.Proofs.Ytpghalekcgnefaa
