/- The document's table of ints: Open, beside whatever lies apart; fewer than a million numbers held; no other condition. -/
import Derived.Test.YtbchbappdpbkiaaFdS3
namespace Go.Proofs.Ytbchbappdpbkiaa
open Go.RowKit Go.Maps
theorem lf_cnt {α : Type} : ∀ R : List (Option α), lf R ≤ cnt R
  | [] => Nat.le_refl _
  | none :: _ => Nat.zero_le _
  | some _ :: t => by simp only [lf, cnt]; have := lf_cnt t; omega
theorem take_next {L : List Int} {i : Nat} {x : Int} (h : L[i]? = some x) : L.take (i + 1) = L.take i ++ [x] := by
  rw [List.take_succ_eq_append_getElem (List.getElem?_eq_some_iff.1 h).1, (List.getElem?_eq_some_iff.1 h).2]
theorem back_next {L : List Int} {i n : Nat} {x : Int} (h : L[i]? = some x) (hn : n ≤ i) : (L.take (i + 1)).drop n = (L.take i).drop n ++ [x] := by
  have hl := (List.getElem?_eq_some_iff.1 h).1
  rw [take_next h, List.drop_append_of_le_length (by rw [List.length_take]; omega)]
section
variable {w W : World} {l : List Part} {g : Nat} {m : Int} {vF vV : Value} {R : List (Option Int)}
set_option maxRecDepth 20000 in
set_option maxHeartbeats 4000000 in
theorem ropen (h : Sep w W (rfL g m vF vV R l)) (hc : cnt R ≤ 1000000) (hm : (cnt R : Int) ≤ m) (x : Int) : Calls Try.prog 29 #[.pointer (some ⟨g, 0, none⟩), .int .i64 x] W fun e W' => e = .returned (.tuple #[.int .i64 (openN R m), .int .i64 (openE R m)]) ∧ ∃ vF' vV', Sep w W' (rfL g m vF' vV' (openT R m x) l) := by
  have HS := (show Hid _ from h)
  have hg0 : W.heap[g]? = some (.cells #[.int .i64 m, vF, vV] 67) := h.head
  have c0 : W.cell? ⟨g, 0, none⟩ = some (.int .i64 m) := Joins.cell_of_block hg0 0
  obtain ⟨p1, k1, p2, k2, q1, q2, d1, d2, _, _, _, _⟩ := rcells (g := g) (m := m) (vF := vF) (vV := vV) (R := R) h (by simp) (by simp) (by simp)
  obtain ⟨n, hn⟩ : ∃ n, cnt R = n := ⟨_, rfl⟩
  have HN : Hid (cnt R = n) := hn
  unfold openN openE openT
  rw [hn] at d1 hc hm
  by_cases hfu : (n : Int) = m
  · have hfu2 : ((cnt R : Nat) : Int) = m := by rw [hn]; exact hfu
    rw [if_pos hfu2, if_pos hfu2, if_pos hfu2]
    have b1 : decide (m ≤ (n : Int)) = true := decide_eq_true (by omega)
    clear h hn q1 q2 d2 hfu2 hg0
    go_enter Try.func29, Try.ntmps29
    go_wp2
    go_quiet (fail)
    go_wp2
    go_ret2
    exact ⟨rfl, _, _, HS.out.later (belowN (Below.refl _ _) _)⟩
  · have hfu2 : ¬ ((cnt R : Nat) : Int) = m := by rw [hn]; exact hfu
    rw [if_neg hfu2, if_neg hfu2, if_neg hfu2]
    have b1 : decide (m ≤ (n : Int)) = false := decide_eq_false (by omega)
    obtain ⟨n0, hn0⟩ : ∃ n0, lf R = n0 := ⟨_, rfl⟩
    have HN0 : Hid (lf R = n0) := hn0
    have hnn : n0 ≤ n := by have := lf_cnt R; omega
    have HF : Hid (fsL (openR R x) = (fsL R).take n0 ++ [(n0 : Int)] ++ ((fsL R).take n).drop n0) := by
      show _ = _
      rw [List.take_of_length_le (show (fsL R).length ≤ n by rw [fsL_len]; omega)]
      unfold fsL
      rw [hl_open, hn0]
      simp [List.map_take, List.map_drop]
    have HV : Hid (vsL (openR R x) = (vsL R).take n0 ++ [x] ++ ((vsL R).take n).drop n0) := by
      show _ = _
      rw [List.take_of_length_le (show (vsL R).length ≤ n by rw [vsL_len]; omega)]
      unfold vsL
      rw [hl_open, hn0]
      simp [List.map_take, List.map_drop]
    clear h hn q1 q2 d2 hfu2 hg0 hn0
    go_enter Try.func29, Try.ntmps29
    go_wp2
    go_quiet (fail)
    have HS1 : Hid (Sep w (W.drewN nq) (rfL g m vF vV R l)) := HS.out.later (belowN (Below.refl _ _) nq)
    clear c0 d1 HS
    generalize W.drewN nq = V at *
    go_wp2
    go_loopw [6] (fun s6 wx => ∃ j : Nat, j ≤ n0 ∧ s6 = .int .i64 j ∧ wx = V) (fun s6 _ => n0 - (intOf s6).toNat)
    case atStart => exact ⟨0, by omega, rfl, rfl⟩
    case round =>
      obtain ⟨j, hj, rfl, hwx⟩ := hrel
      obtain rfl := hwx.symm
      have hr := rfind HS1.out (by rw [HN.out]; exact hc) (j : Int)
      by_cases hj2 : j < n0
      · obtain ⟨y, hy⟩ := lf_held R j (by rw [HN0.out]; exact hj2)
        rw [posV_held hy] at hr
        generalize cnt (R.take j) = pp at *
        have b2 : decide ((0 : Int) ≤ (pp : Int)) = true := decide_eq_true (by omega)
        clear hy
        go_wp2_with (first | (go_at_call 56; refine hr.mono ?_; rintro e U ⟨rfl, q⟩; obtain rfl := q.symm))
        go_roundw
        case rel => exact ⟨j + 1, by omega, by go_num, trivial⟩
        case measure => simp [intOf]; omega
      · obtain rfl : j = n0 := by omega
        have hg : getO R (j : Int) = none := by
          unfold getO
          rw [if_pos (by omega), show ((j : Int)).toNat = j by omega, ← HN0.out]
          exact atR_lf R
        rw [posV_not hg] at hr
        clear hg
        have HX0 : Hid (Sep w V (iP (.slice none 0 0) ((fsL R).take 0) :: iP (.slice none 0 0) ((vsL R).take 0) :: rfL g m vF vV R l)) := sep_nilL (sep_nilL HS1.out 3 1) 3 1
        go_wp2_with (first | (go_at_call 56; refine hr.mono ?_; rintro e U ⟨rfl, q⟩; obtain rfl := q.symm))
        clear HS1 hr
        go_loopw [7, 8, 9] (fun s7 s8 s9 wx => ∃ (i : Nat) (vf vv : Value), i ≤ j ∧ s7 = vf ∧ s8 = vv ∧ s9 = .int .i64 i ∧ Hid (Sep w wx (iP vf ((fsL R).take i) :: iP vv ((vsL R).take i) :: rfL g m vF vV R l))) (fun _ _ s9 _ => j - (intOf s9).toNat)
        case atStart => exact ⟨0, _, _, by omega, rfl, rfl, rfl, HX0⟩
        case round =>
          clear HX0
          obtain ⟨i, vf, vv, hi, e8, e9, rfl, HX⟩ := hrel
          obtain rfl := e8.symm
          obtain rfl := e9.symm
          have hl1 : (fsL R).length = n := by rw [fsL_len]; exact HN.out
          have hl2 : (vsL R).length = n := by rw [vsL_len]; exact HN.out
          by_cases hi2 : i < j
          · have hx : (fsL R)[i]? = some (fsL R)[i] := List.getElem?_eq_getElem (by omega)
            have hy : (vsL R)[i]? = some (vsL R)[i] := List.getElem?_eq_getElem (by omega)
            have hin : i < n := by omega
            obtain ⟨p1, k1, p2, k2, q1, q2, d1, d2, z1, z2, f1, f2⟩ := rcells (g := g) (m := m) (vF := vF) (vV := vV) (R := R) HX.out (by simp) (by simp) (by simp)
            rw [HN.out] at d1 d2
            obtain ⟨bF, rfl, cF⟩ := f1 i _ hx
            obtain ⟨vf', W1, vv', W2, r1, s1, r2, s2⟩ := sep_push2 HX.out (by simp; omega) (by simp; omega) (fsL R)[i] (vsL R)[i]
            rw [← take_next hx, ← take_next hy] at s2
            obtain ⟨p1', k1', p2', k2', q1', q2', d1', d2', _, _, f1', f2'⟩ := rcells (g := g) (m := m) (vF := vF) (vV := vV) (R := R) s1 (by simp) (by simp) (by simp)
            rw [HN.out] at d1' d2'
            obtain ⟨bV, rfl, cV⟩ := f2' i _ hy
            have HX2 := (show Hid _ from s2)
            generalize (fsL R)[i] = xx at *
            generalize (vsL R)[i] = yy at *
            clear HX hx hy hl1 hl2 f1 f2 q1 q2 q1' q2' s1 s2 f1' f2' d1' d2
            go_wp2_with (first | (at_builtin; refine wpList_app rfl (.tmp 32) (.tmp 40) rfl rfl rfl r1 ?_) | (at_builtin; refine wpList_app rfl (.tmp 42) (.tmp 50) rfl rfl rfl r2 ?_))
            go_roundw
            case rel => exact ⟨i + 1, _, _, by omega, rfl, rfl, by go_num, HX2⟩
            case measure => simp [intOf]; omega
          · obtain rfl : i = j := by omega
            obtain ⟨vf', W1, vv', W2, r1, _, r2, s2⟩ := sep_push2 HX.out (by simp; omega) (by simp; omega) (i : Int) x
            have HX1 : Hid (Sep w W2 (iP vf' ((fsL R).take i ++ [(i : Int)] ++ ((fsL R).take i).drop i) :: iP vv' ((vsL R).take i ++ [x] ++ ((vsL R).take i).drop i) :: rfL g m vF vV R l)) := by
              rw [List.drop_of_length_le (show ((fsL R).take i).length ≤ i by simp; omega), List.drop_of_length_le (show ((vsL R).take i).length ≤ i by simp; omega), List.append_nil, List.append_nil]
              exact s2
            clear HX s2 hl1 hl2
            go_wp2_with (first | (at_builtin; refine wpList_app rfl (.tmp 52) (.tmp 54) rfl rfl rfl r1 ?_) | (at_builtin; refine wpList_app rfl (.tmp 56) (.tmp 58) rfl rfl rfl r2 ?_))
            clear r1 r2
            go_loopw [7, 8, 10] (fun s7 s8 s10 wx => ∃ (k : Nat) (vf vv : Value), i ≤ k ∧ k ≤ n ∧ s7 = vf ∧ s8 = vv ∧ s10 = .int .i64 k ∧ Hid (Sep w wx (iP vf ((fsL R).take i ++ [(i : Int)] ++ ((fsL R).take k).drop i) :: iP vv ((vsL R).take i ++ [x] ++ ((vsL R).take k).drop i) :: rfL g m vF vV R l))) (fun _ _ s10 _ => n - (intOf s10).toNat)
            case atStart => exact ⟨i, _, _, by omega, by omega, rfl, rfl, rfl, HX1⟩
            case round =>
              clear HX1
              obtain ⟨k, vf, vv, hik, hkn, e8, e9, rfl, HX⟩ := hrel
              obtain rfl := e8.symm
              obtain rfl := e9.symm
              have hl1 : (fsL R).length = n := by rw [fsL_len]; exact HN.out
              have hl2 : (vsL R).length = n := by rw [vsL_len]; exact HN.out
              obtain ⟨p1, k1, p2, k2, q1, q2, d1, d2, z1, z2, f1, f2⟩ := rcells (g := g) (m := m) (vF := vF) (vV := vV) (R := R) HX.out (by simp) (by simp) (by simp)
              rw [HN.out] at d1 d2
              by_cases hk2 : k < n
              · have hx : (fsL R)[k]? = some (fsL R)[k] := List.getElem?_eq_getElem (by omega)
                have hy : (vsL R)[k]? = some (vsL R)[k] := List.getElem?_eq_getElem (by omega)
                obtain ⟨bF, rfl, cF⟩ := f1 k _ hx
                obtain ⟨vf', W1, vv', W2, r1, s1, r2, s2⟩ := sep_push2 HX.out (by simp; omega) (by simp; omega) (fsL R)[k] (vsL R)[k]
                rw [List.append_assoc, ← back_next hx hik, List.append_assoc _ _ [(vsL R)[k]], ← back_next hy hik] at s2
                obtain ⟨p1', k1', p2', k2', q1', q2', d1', d2', _, _, f1', f2'⟩ := rcells (g := g) (m := m) (vF := vF) (vV := vV) (R := R) s1 (by simp) (by simp) (by simp)
                rw [HN.out] at d1' d2'
                obtain ⟨bV, rfl, cV⟩ := f2' k _ hy
                have HX2 := (show Hid _ from s2)
                generalize (fsL R)[k] = xx at *
                generalize (vsL R)[k] = yy at *
                clear HX hx hy hl1 hl2 f1 f2 q1 q2 q1' q2' s1 s2 f1' f2' d1' d2
                go_wp2_with (first | (at_builtin; refine wpList_app rfl (.tmp 70) (.tmp 78) rfl rfl rfl r1 ?_) | (at_builtin; refine wpList_app rfl (.tmp 80) (.tmp 88) rfl rfl rfl r2 ?_))
                go_roundw
                case rel => exact ⟨k + 1, _, _, by omega, by omega, rfl, rfl, by go_num, HX2⟩
                case measure => simp [intOf]; omega
              · obtain rfl : k = n := by omega
                obtain ⟨pf, cf, g1, _⟩ := iP_form HX.out.head
                obtain ⟨pv, cv, g2, _⟩ := iP_form HX.out.swap.head
                generalize ((fsL R).take i ++ [(i : Int)] ++ ((fsL R).take k).drop i).length = Nf at g1
                generalize ((vsL R).take i ++ [x] ++ ((vsL R).take k).drop i).length = Nv at g2
                have HT := (show Hid _ from rtake HX.out HF.out.symm HV.out.symm)
                subst g1
                subst g2
                clear HX f1 f2 q1 q2
                go_wp2
                go_ret2
                exact ⟨by rw [HN0.out]; rfl, _, _, HT.out⟩
end
end Go.Proofs.Ytbchbappdpbkiaa
