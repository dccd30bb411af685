/- The document's table of ints: Close, Open, beside whatever lies apart; fewer than a million numbers held; no other condition. -/
import Derived.Test.YtbchbappdpbkiaaFdS2
import Derived.Test.YtbchbappdpbkiaaFdL1
namespace Go.Proofs.Ytbchbappdpbkiaa
open Go.RowKit Go.Maps
def goneL (i k : Nat) (L : List Int) : List Int := (L.take k).take i ++ (L.take k).drop (i + 1)
theorem goneL_zero (i : Nat) (L : List Int) : goneL i 0 L = [] := by simp [goneL]
theorem goneL_other {i k : Nat} {L : List Int} {x : Int} (h : L[k]? = some x) (hk : k ≠ i) : goneL i (k + 1) L = goneL i k L ++ [x] := by
  have hl := (List.getElem?_eq_some_iff.1 h).1
  have e : L.take (k + 1) = L.take k ++ [x] := by rw [List.take_succ_eq_append_getElem hl, (List.getElem?_eq_some_iff.1 h).2]
  have hT : (L.take k).length = k := by rw [List.length_take, Nat.min_eq_left (by omega)]
  unfold goneL
  rw [e]
  generalize L.take k = T at *
  have hT1 : (T ++ [x]).length = k + 1 := by simp [hT]
  rcases Nat.lt_or_ge k i with q | q
  · rw [List.take_of_length_le (by omega), List.drop_of_length_le (by omega), List.take_of_length_le (show T.length ≤ i by omega), List.drop_of_length_le (show T.length ≤ i + 1 by omega)]
    simp
  · rw [List.take_append_of_le_length (by omega), List.drop_append_of_le_length (by omega), List.append_assoc]
theorem goneL_same {i : Nat} {L : List Int} {x : Int} (h : L[i]? = some x) : goneL i (i + 1) L = goneL i i L := by
  have hl := (List.getElem?_eq_some_iff.1 h).1
  have h1 : (L.take (i + 1)).length = i + 1 := by rw [List.length_take, Nat.min_eq_left (by omega)]
  have h2 : (L.take i).length = i := by rw [List.length_take, Nat.min_eq_left (by omega)]
  unfold goneL
  rw [List.drop_of_length_le (show (L.take (i + 1)).length ≤ i + 1 by omega), List.drop_of_length_le (show (L.take i).length ≤ i + 1 by omega), List.take_take, List.take_take, Nat.min_eq_left (by omega), Nat.min_self]
theorem goneL_full (i : Nat) (L : List Int) : goneL i L.length L = L.take i ++ L.drop (i + 1) := by unfold goneL; rw [List.take_length]
section
variable {w W : World} {l : List Part} {g : Nat} {m : Int} {vF vV : Value} {R : List (Option Int)}
theorem sep_push2 {vf vv : Value} {A B : List Int} (h : Sep w W (iP vf A :: iP vv B :: l)) (ha : A.length ≤ 10000000) (hb : B.length ≤ 10000000) (x y : Int) :
    ∃ vf' W1 vv' W2, (Builtin.append_ #[65, 65] 65 #[vf, .slice (some ⟨W.heap.size, 0, none⟩) 1 1]).run Try.prog (W.alloc (.cells #[.int .i64 x] 3)) = .ok vf' W1 ∧ Sep w W1 (iP vv B :: iP vf' (A ++ [x]) :: l) ∧
      (Builtin.append_ #[65, 65] 65 #[vv, .slice (some ⟨W1.heap.size, 0, none⟩) 1 1]).run Try.prog (W1.alloc (.cells #[.int .i64 y] 3)) = .ok vv' W2 ∧ Sep w W2 (iP vf' (A ++ [x]) :: iP vv' (B ++ [y]) :: l) := by
  obtain ⟨vf', W1, r1, s1⟩ := sep_pushI h ha x 65
  obtain ⟨vv', W2, r2, s2⟩ := sep_pushI s1.swap hb y 65
  exact ⟨vf', W1, vv', W2, r1, s1.swap, r2, s2.swap⟩
/-- What is read of the document's table, wherever it stands among the parts. -/
theorem rcells {l' : List Part} (h : Sep w W l') (h1 : bxP g #[.int .i64 m, vF, vV] 67 ∈ l') (h2 : iP vF (fsL R) ∈ l') (h3 : iP vV (vsL R) ∈ l') :
    ∃ p1 c1 p2 c2, vF = .slice p1 (cnt R) c1 ∧ vV = .slice p2 (cnt R) c2 ∧ W.cell? ⟨g, 1, none⟩ = some (.slice p1 (cnt R) c1) ∧ W.cell? ⟨g, 2, none⟩ = some (.slice p2 (cnt R) c2) ∧ W.frozen? ⟨g, 1, none⟩ = false ∧ W.frozen? ⟨g, 2, none⟩ = false ∧
      (∀ k x, (fsL R)[k]? = some x → ∃ b, p1 = some ⟨b, 0, none⟩ ∧ W.cell? ⟨b, k, none⟩ = some (.int .i64 x)) ∧ (∀ k x, (vsL R)[k]? = some x → ∃ b, p2 = some ⟨b, 0, none⟩ ∧ W.cell? ⟨b, k, none⟩ = some (.int .i64 x)) := by
  have hb : W.heap[g]? = some (.cells #[.int .i64 m, vF, vV] 67) := h.sayOf h1
  obtain ⟨p1, c1, e1, f1⟩ := iP_form (h.sayOf h2)
  obtain ⟨p2, c2, e2, f2⟩ := iP_form (h.sayOf h3)
  rw [fsL_len] at e1
  rw [vsL_len] at e2
  refine ⟨p1, c1, p2, c2, e1, e2, by rw [← e1]; exact Joins.cell_of_block hb 1, by rw [← e2]; exact Joins.cell_of_block hb 2, frozen_row hb 1, frozen_row hb 2, fun k x hk => ?_, fun k x hk => ?_⟩
  · obtain ⟨b, q1, _, q2, _⟩ := f1 k x hk
    exact ⟨b, q1, q2⟩
  · obtain ⟨b, q1, _, q2, _⟩ := f2 k x hk
    exact ⟨b, q1, q2⟩
/-- The two new lists take the place of the old ones. -/
theorem rtake {vf vv : Value} {A B : List Int} {R' : List (Option Int)} (h : Sep w W (iP vf A :: iP vv B :: rfL g m vF vV R l)) (ha : A = fsL R') (hb : B = vsL R') : Sep w ((W.setCell ⟨g, 1, none⟩ vf).setCell ⟨g, 2, none⟩ vv) (rfL g m vf vv R' l) := by
  subst ha
  subst hb
  have s1 := h.third
  have s2 := Sep.setBox (Sep.setBox s1 1 vf) 2 vv
  exact (s2.front4.drop).front4.drop
set_option maxRecDepth 20000 in
set_option maxHeartbeats 2000000 in
theorem rclose (h : Sep w W (rfL g m vF vV R l)) (hc : cnt R ≤ 1000000) (fd : Int) : Calls Try.prog 34 #[.pointer (some ⟨g, 0, none⟩), .int .i64 fd] W fun e W' => e = .returned (.tuple #[.int .i64 ((getO R fd).getD 0), .int .i64 (refV R fd)]) ∧ ∃ vF' vV', Sep w W' (rfL g m vF' vV' (closeR R fd) l) := by
  have hr := rfind h hc fd
  have HS := (show Hid _ from h)
  rcases fd_cases R fd with ⟨k, x, rfl, hk, h1, h2, h3, _⟩ | ⟨h1, h2, h3, _⟩
  · rw [posV_held hk] at hr
    rw [h1, h2, h3]
    have hp := hl_at hk
    have hpl := pos_lt hk
    rw [hl_len] at hpl
    obtain ⟨p1, c1, p2, c2, e1, e2, d1, d2, _, _, f1, f2⟩ := rcells (g := g) (m := m) (vF := vF) (vV := vV) (R := R) h (by simp) (by simp) (by simp)
    have hvk : (vsL R)[cnt (R.take k)]? = some x := by unfold vsL; rw [List.getElem?_map, hp]; rfl
    obtain ⟨b2, rfl, cc⟩ := f2 _ x hvk
    have HF : Hid (fsL (R.set k none) = goneL (cnt (R.take k)) (cnt R) (fsL R)) := by
      show _ = _
      rw [← fsL_len R, goneL_full]
      unfold fsL
      rw [hl_gone hk, List.map_append, List.map_take, List.map_drop]
    have HV : Hid (vsL (R.set k none) = goneL (cnt (R.take k)) (cnt R) (vsL R)) := by
      show _ = _
      rw [← vsL_len R, goneL_full]
      unfold vsL
      rw [hl_gone hk, List.map_append, List.map_take, List.map_drop]
    show Calls _ _ _ _ fun e W' => e = .returned (.tuple #[.int .i64 x, .int .i64 0]) ∧ ∃ vF' vV', Sep w W' (rfL g m vF' vV' (R.set k none) l)
    obtain ⟨j, hj⟩ : ∃ j, cnt (R.take k) = j := ⟨_, rfl⟩
    obtain ⟨n, hn⟩ : ∃ n, cnt R = n := ⟨_, rfl⟩
    have HN : Hid (cnt R = n) := hn
    rw [hj] at hr cc hpl HF HV
    rw [hn] at d2 hpl hc HF HV
    have HS0 : Hid (Sep w W (iP (.slice none 0 0) (goneL j 0 (fsL R)) :: iP (.slice none 0 0) (goneL j 0 (vsL R)) :: rfL g m vF vV R l)) := by
      have := sep_nilL (sep_nilL h 3 1) 3 1
      rw [goneL_zero, goneL_zero]
      exact this
    clear h f1 f2 e1 e2 d1 hk h1 h2 h3 hp hvk hj hn
    go_enter Try.func34, Try.ntmps34
    go_wp2_with (first | (go_at_call 56; refine hr.mono ?_; rintro e U ⟨rfl, q⟩; obtain rfl := q.symm))
    clear d2 cc hr
    go_loopw [8, 9, 10] (fun s8 s9 s10 wx => ∃ (i : Nat) (vf vv : Value), i ≤ n ∧ s8 = vf ∧ s9 = vv ∧ s10 = .int .i64 i ∧ Hid (Sep w wx (iP vf (goneL j i (fsL R)) :: iP vv (goneL j i (vsL R)) :: rfL g m vF vV R l))) (fun _ _ s10 _ => n - (intOf s10).toNat)
    case atStart => exact ⟨0, _, _, by omega, rfl, rfl, rfl, HS0⟩
    case round =>
      clear HS0
      obtain ⟨i, vf, vv, hi, e8, e9, rfl, HX⟩ := hrel
      obtain rfl := e8.symm
      obtain rfl := e9.symm
      obtain ⟨p1, c1, p2, c2, q1, q2, d1, d2, z1, z2, f1, f2⟩ := rcells (g := g) (m := m) (vF := vF) (vV := vV) (R := R) HX.out (by simp) (by simp) (by simp)
      rw [HN.out] at d1 d2
      by_cases hi2 : i < n
      · have hl1 : (fsL R).length = n := by rw [fsL_len]; exact HN.out
        have hl2 : (vsL R).length = n := by rw [vsL_len]; exact HN.out
        have hx : (fsL R)[i]? = some (fsL R)[i] := List.getElem?_eq_getElem (by omega)
        have hy : (vsL R)[i]? = some (vsL R)[i] := List.getElem?_eq_getElem (by omega)
        by_cases hij : i = j
        · subst hij
          have HX2 : Hid (Sep w wr (iP vf (goneL i (i + 1) (fsL R)) :: iP vv (goneL i (i + 1) (vsL R)) :: rfL g m vF vV R l)) := by
            rw [goneL_same hx, goneL_same hy]
            exact HX.out
          have b1 : ((i : Int) != (i : Int)) = false := by simp
          clear HX hx hy hl1 hl2 f1 f2 q1 q2
          go_wp2
          go_roundw
          case rel => exact ⟨i + 1, _, _, by omega, rfl, rfl, by go_num, HX2⟩
          case measure => simp [intOf]; omega
        · have b1 : ((i : Int) != (j : Int)) = true := by simp; omega
          obtain ⟨bF, rfl, cF⟩ := f1 i _ hx
          obtain ⟨vf', W1, vv', W2, r1, s1, r2, s2⟩ := sep_push2 HX.out (by unfold goneL; simp; omega) (by unfold goneL; simp; omega) (fsL R)[i] (vsL R)[i]
          rw [← goneL_other hx hij, ← goneL_other hy hij] at s2
          obtain ⟨p1', c1', p2', c2', q1', q2', d1', d2', _, _, f1', f2'⟩ := rcells (g := g) (m := m) (vF := vF) (vV := vV) (R := R) s1 (by simp) (by simp) (by simp)
          rw [HN.out] at d1' d2'
          obtain ⟨bV, rfl, cV⟩ := f2' i _ hy
          have HX2 := (show Hid _ from s2)
          generalize (fsL R)[i] = xx at *
          generalize (vsL R)[i] = yy at *
          clear HX hx hy hl1 hl2 f1 f2 q1 q2 q1' q2' s1 s2 f1' f2' d1' d2
          go_wp2_with (first | (at_builtin; refine wpList_app rfl (.tmp 35) (.tmp 43) rfl rfl rfl r1 ?_) | (at_builtin; refine wpList_app rfl (.tmp 45) (.tmp 53) rfl rfl rfl r2 ?_))
          go_roundw
          case rel => exact ⟨i + 1, _, _, by omega, rfl, rfl, by go_num, HX2⟩
          case measure => simp [intOf]; omega
      · obtain rfl : i = n := by omega
        obtain ⟨pf, cf, g1, _⟩ := iP_form HX.out.head
        obtain ⟨pv, cv, g2, _⟩ := iP_form HX.out.swap.head
        have HT := (show Hid _ from rtake HX.out HF.out.symm HV.out.symm)
        subst g1
        subst g2
        clear HX f1 f2 q1 q2
        go_wp2
        go_ret2
        exact ⟨rfl, _, _, HT.out⟩
  · rw [posV_not h2] at hr
    rw [h1, h2, h3]
    show Calls _ _ _ _ fun e W' => e = .returned (.tuple #[.int .i64 0, .int .i64 13]) ∧ ∃ vF' vV', Sep w W' (rfL g m vF' vV' R l)
    clear h h1 h2 h3
    go_enter Try.func34, Try.ntmps34
    go_wp2_with (first | (go_at_call 56; refine hr.mono ?_; rintro e U ⟨rfl, q⟩; obtain rfl := q.symm))
    go_ret2
    exact ⟨rfl, _, _, HS.out⟩
end
end Go.Proofs.Ytbchbappdpbkiaa
