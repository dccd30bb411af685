/- FdsScript's walk: it answers true, whatever the bounds and the acts; no condition. -/
import Derived.Test.YtbchbappdpbkiaaFdSd
import Derived.Test.YtbchbappdpbkiaaFdL2
namespace Go.Proofs.Ytbchbappdpbkiaa
open Go.RowKit Go.Maps
theorem sep_itsI {w W : World} {l : List Part} (h : Sep w W l) : Sep w W (itsI [] :: l) := h.add (Below.refl _ _) (itsI_good _) (fun x hx => by cases hx) fun k hk => by
  obtain ⟨x, hx, _⟩ := hk
  cases hx
theorem sep_itsT {w W : World} {l : List Part} (h : Sep w W l) : Sep w W (itsT [] :: l) := h.add (Below.refl _ _) (itsT_good _) (fun x hx => by cases hx) fun k hk => by
  obtain ⟨x, hx, _⟩ := hk
  cases hx
theorem st_start {w W : World} {gA gP gB gQ gK : Nat} {mA mB : Int} {N : Value} (hN : N = .slice none 0 0) (h : Sep w W (bxP gK #[N, N, N, N, N, N] 35 :: rfL gQ mB N N [] (rfL gP mA N N [] (tpT gB N 0 mB [] :: tpI gA N 0 mA [] :: [])))) : St w W gA gP gB gQ gK mA mB 0 := by
  subst hN
  have s := sep_itsT (sep_itsI (sep_nilL (sep_nilL (sep_nilL (sep_nilL (sep_nilL (sep_nilL h 82 1) 65 1) 80 1) 65 1) 65 1) 70 1))
  refine ⟨[], [], .slice none 0 0, .slice none 0 0, .slice none 0 0, .slice none 0 0, .slice none 0 0, .slice none 0 0, .slice none 0 0, .slice none 0 0, .slice none 0 0, .slice none 0 0, .slice none 0 0, .slice none 0 0, 0, 0, [], [], ⟨Nat.le_refl _, Nat.le_refl _, Nat.le_refl _, Nat.le_refl _, BdR.nil, (fun _ hy => absurd hy (by simp)), (fun _ hy => absurd hy (by simp))⟩, s.perm ?_⟩
  classical
  rw [List.perm_iff_count]
  intro a
  unfold StP
  simp only [List.count_cons, List.count_nil]
  have e0 : ∀ v e, olP v e 1 ([] : List ItI).length (([] : List ItI).flatMap e0I) = olP v e 1 0 [] := fun _ _ => rfl
  have em : mapR tx [] = [] := rfl
  simp only [k0I, k1I, k2I, k0T, k1T, k2T, List.length_nil, List.flatMap_nil, em]
  omega
set_option maxHeartbeats 8000000 in
set_option maxRecDepth 20000 in
theorem script_walk (most other : Int) (hm : most ≤ 9223372036854775807) (ho : other ≤ 9223372036854775807) (S : List Ac) (a : Option Addr) (cap : Nat) (w : World) (hS : ActsAt w a S) (hl : S.length ≤ 9223372036854775807) (hwf : ∀ c ∈ S, (Lit.int .i64 c.1).wf = true ∧ (Lit.int .i64 c.2.1).wf = true ∧ (Lit.int .i64 c.2.2.1).wf = true ∧ (Lit.int .i64 c.2.2.2).wf = true) :
    Calls Try.prog 3 #[.int .i64 most, .int .i64 other, .slice a S.length cap] w fun e w' => e = .returned (.bool true) ∧ Below w.heap.size w w' := by
  have HA : Hid (ActsAt w a S) := hS
  obtain ⟨N, hN⟩ : ∃ N, S.length = N := ⟨_, rfl⟩
  have HN : Hid (S.length = N) := hN
  have HW := (show Hid _ from hwf)
  rw [hN] at hl ⊢
  clear hN hS hwf
  by_cases hbig : 2000 < N
  · have q1 : decide ((2000 : Int) < N) = true := decide_eq_true (by omega)
    have q2 : decide (2000 < N) = true := decide_eq_true (by omega)
    go_enter Try.func3, Try.ntmps3
    go_wp2
    go_ret
    exact ⟨rfl, Below.refl _ _⟩
  have q1 : decide ((2000 : Int) < N) = false := decide_eq_false (by omega)
  have q2 : decide (2000 < N) = false := decide_eq_false (by omega)
  go_enter Try.func3, Try.ntmps3
  go_wp2_with (first | (go_at_call 7; fail))
  refine (sep_newI (Sep.nil (Below.refl _ _)) most hm).mono ?_
  rintro e W0 ⟨gA, rfl, h0⟩
  have H0 := (show Hid _ from h0)
  clear h0
  go_wp2_with (first | (go_at_call 8; fail))
  refine (sep_newT H0.out other ho).mono ?_
  rintro e W1 ⟨gB, rfl, h1⟩
  have H1 := (show Hid _ from h1)
  clear h1 H0
  go_wp2_with (first | (go_at_call 9; fail))
  refine (rnew H1.out most hm).mono ?_
  rintro e W2 ⟨gP, rfl, h2⟩
  have H2 := (show Hid _ from h2)
  clear h2 H1
  go_wp2_with (first | (go_at_call 9; fail))
  refine (rnew H2.out other ho).mono ?_
  rintro e W3 ⟨gQ, rfl, h3⟩
  have H3 : Hid (Sep w (W3.alloc (.cells #[.slice none 0 0, .slice none 0 0, .slice none 0 0, .slice none 0 0, .slice none 0 0, .slice none 0 0] 35)) (bxP W3.heap.size #[.slice none 0 0, .slice none 0 0, .slice none 0 0, .slice none 0 0, .slice none 0 0, .slice none 0 0] 35 :: _)) := h3.box _ _
  have H4 := (show Hid _ from st_start rfl H3.out)
  clear h3 H2 H3
  generalize max most 0 = mA at *
  generalize max other 0 = mB at *
  have hpk := fun (i : Int) u => pick_ok i 2 (by omega) u
  go_wp2
  go_loopw [12] (fun s12 wx => ∃ i : Nat, i ≤ N ∧ s12 = .int .i64 i ∧ Hid (St w wx gA gP gB gQ W3.heap.size mA mB i)) (fun s12 _ => N - (intOf s12).toNat)
  case atStart => exact ⟨0, by omega, rfl, H4⟩
  case round =>
    clear H4
    obtain ⟨i, hi, rfl, HX⟩ := hrel
    generalize W3.heap.size = gK at *
    by_cases hi2 : i < N
    · have hln := HN.out
      obtain ⟨b, off, rfl, hb, hcc⟩ := HA.out (by omega)
      have hx : S[i]? = some S[i] := List.getElem?_eq_getElem (by omega)
      obtain ⟨k0, k1, k2, k3⟩ := hcc i _ hx
      have hw3 := (HW.out S[i] (List.getElem_mem _)).2.2.2
      have hbl : Below w.heap.size w wr := by
        obtain ⟨_, _, _, _, _, _, _, _, _, _, _, _, _, _, _, _, _, _, _, hs⟩ := HX.out
        exact hs.below
      have a0 := (hbl.cell (p := ⟨b, off + i * 4, none⟩) hb).trans k0
      have a1 := (hbl.cell (p := ⟨b, off + i * 4 + 1, none⟩) hb).trans k1
      have a2 := (hbl.cell (p := ⟨b, off + i * 4 + 2, none⟩) hb).trans k2
      have a3 := (hbl.cell (p := ⟨b, off + i * 4 + 3, none⟩) hb).trans k3
      generalize S[i] = x at *
      obtain ⟨x1, x2, x3, x4⟩ := x
      simp only at a0 a1 a2 a3 hw3
      have hx4 := bounds_i64 hw3
      clear k0 k1 k2 k3 hx hcc hbl hln hw3
      have hp1 := hpk x1
      obtain ⟨kd, hkd⟩ : ∃ kd : Nat, x1 % 2 = kd := ⟨(x1 % 2).toNat, by have := Int.emod_nonneg x1 (show (2 : Int) ≠ 0 by omega); omega⟩
      have hkd2 : kd < 2 := by have := Int.emod_lt_of_pos x1 (show (0 : Int) < 2 by omega); omega
      rw [hkd] at hp1
      clear hkd
      rcases (show kd = 0 ∨ kd = 1 by omega) with rfl | rfl
      · go_wp2_with (first | (go_at_call 10; refine (hp1 _).mono ?_; rintro e U ⟨rfl, qq⟩; obtain rfl := qq.symm) | (go_at_call 11; fail))
        refine (st_ints x1 x2 x3 x4 HX.out (by omega)).mono ?_
        rintro e Y ⟨rfl, hs⟩
        have HX2 := (show Hid _ from hs)
        clear hs HX a0 a1 a2 a3
        go_wp2
        go_roundw
        case rel => exact ⟨i + 1, by omega, by go_num, HX2⟩
        case measure => simp [intOf]; omega
      · go_wp2_with (first | (go_at_call 10; refine (hp1 _).mono ?_; rintro e U ⟨rfl, qq⟩; obtain rfl := qq.symm) | (go_at_call 12; fail))
        refine (st_texts x1 x2 x3 x4 HX.out (by omega) hx4).mono ?_
        rintro e Y ⟨rfl, hs⟩
        have HX2 := (show Hid _ from hs)
        clear hs HX a0 a1 a2 a3
        go_wp2
        go_roundw
        case rel => exact ⟨i + 1, by omega, by go_num, HX2⟩
        case measure => simp [intOf]; omega
    · obtain rfl : i = N := by omega
      clear hpk
      go_wp2
      go_loopw [14] (fun s14 wx => ∃ k : Nat, k ≤ i + 2 ∧ s14 = .int .i64 ((k : Int) - 1) ∧ Hid (St w wx gA gP gB gQ gK mA mB (i + 2 * k))) (fun s14 _ => i + 2 - (intOf s14 + 1).toNat)
      case atStart => exact ⟨0, by omega, rfl, HX⟩
      case round =>
        clear HX
        obtain ⟨k, hk, rfl, HX⟩ := hrel
        by_cases hk2 : k < i + 2
        · have d1 : decide ((k : Int) - 1 ≤ (i : Int)) = true := decide_eq_true (by omega)
          go_wp2_with (first | (go_at_call 11; fail))
          refine (st_ints 0 1 ((k : Int) - 1) 0 HX.out (by omega)).mono ?_
          rintro e Y ⟨rfl, hs⟩
          have HX2 := (show Hid _ from hs)
          clear hs HX
          go_wp2_with (first | (go_at_call 12; fail))
          refine (st_texts 0 1 ((k : Int) - 1) 0 HX2.out (by omega) (by omega)).mono ?_
          rintro e Y2 ⟨rfl, hs⟩
          have HX3 := (show Hid _ from hs)
          clear hs HX2
          go_wp2
          go_roundw
          case rel => exact ⟨k + 1, by omega, by go_num, by have := HX3.out; rwa [show i + 2 * k + 1 + 1 = i + 2 * (k + 1) by omega] at this⟩
          case measure => simp [intOf]; omega
        · obtain rfl : k = i + 2 := by omega
          have d1 : decide ((((i + 2 : Nat) : Int)) - 1 ≤ (i : Int)) = false := decide_eq_false (by omega)
          go_wp2_with (first | (go_at_call 13; fail))
          refine (st_again HX.out (by omega)).mono ?_
          rintro e Y1 ⟨rfl, hs⟩
          have HX1 := (show Hid _ from hs)
          clear hs HX
          go_wp2_with (first | (go_at_call 11; fail))
          refine (st_ints 0 4 0 0 HX1.out (by omega)).mono ?_
          rintro e Y2 ⟨rfl, hs⟩
          have HX2 := (show Hid _ from hs)
          clear hs HX1
          go_wp2_with (first | (go_at_call 12; fail))
          refine (st_texts 0 4 0 0 HX2.out (by omega) (by omega)).mono ?_
          rintro e Y3 ⟨rfl, hs⟩
          have HX3 := (show Hid _ from hs)
          clear hs HX2
          go_wp2_with (first | (go_at_call 11; fail))
          refine (st_ints 0 5 0 0 HX3.out (by omega)).mono ?_
          rintro e Y4 ⟨rfl, hs⟩
          have HX4 := (show Hid _ from hs)
          clear hs HX3
          go_wp2_with (first | (go_at_call 12; fail))
          refine (st_texts 0 5 0 0 HX4.out (by omega) (by omega)).mono ?_
          rintro e Y5 ⟨rfl, hs⟩
          have HB : Hid (Below w.heap.size w Y5) := by
            obtain ⟨_, _, _, _, _, _, _, _, _, _, _, _, _, _, _, _, _, _, _, hs⟩ := hs
            exact hs.below
          clear hs HX4
          go_wp2
          go_ret
          exact ⟨rfl, HB.out⟩
end Go.Proofs.Ytbchbappdpbkiaa
