/- The document's table of ints: New, find, Get, Set, Len, Full, beside whatever lies apart; fewer than a million numbers held; no other condition. -/
import Derived.Test.YtbchbappdpbkiaaFdS1
import Derived.Test.YtbchbappdpbkiaaFdL0
namespace Go.Proofs.Ytbchbappdpbkiaa
open Go.RowKit Go.Maps
def inE (x : Int) : List Value := [.int .i64 x]
theorem lenin (x : Int) : (inE x).length = 1 := rfl
theorem onein (x : Int) : ∀ u ∈ inE x, u.oneCell' = true := fun u hu => by simp [inE] at hu; subst hu; rfl
theorem infin : (Try.prog.info? 3).map (fun i => (i.zero, i.size, i.bytes)) = some (some (.int .i64 0), 1, 8) := by kernel_rfl
abbrev iP (v : Value) (L : List Int) : Part := olP v 3 1 L.length (L.flatMap inE)
def fsL (R : List (Option Int)) : List Int := (hl R).map (fun p => (p.1 : Int))
def vsL (R : List (Option Int)) : List Int := (hl R).map (·.2)
theorem fsL_len (R : List (Option Int)) : (fsL R).length = cnt R := by unfold fsL; rw [List.length_map, hl_len]
theorem vsL_len (R : List (Option Int)) : (vsL R).length = cnt R := by unfold vsL; rw [List.length_map, hl_len]
/-- The document's table, as parts. -/
abbrev rfL (g : Nat) (m : Int) (vF vV : Value) (R : List (Option Int)) (l : List Part) : List Part := bxP g #[.int .i64 m, vF, vV] 67 :: iP vF (fsL R) :: iP vV (vsL R) :: l
section
variable {w W : World} {l : List Part} {v : Value} {L : List Int} {g : Nat} {m : Int} {vF vV : Value} {R : List (Option Int)}
theorem sep_pushI (h : Sep w W (iP v L :: l)) (hn : L.length ≤ 10000000) (x : Int) (ty : TypeId) : ∃ v' W', (Builtin.append_ #[65, 65] ty #[v, .slice (some ⟨W.heap.size, 0, none⟩) 1 1]).run Try.prog (W.alloc (.cells #[.int .i64 x] 3)) = .ok v' W' ∧ Sep w W' (iP v' (L ++ [x]) :: l) := by
  obtain ⟨i0, hi0, hz0, hz1, hz2⟩ := info_parts infin
  obtain ⟨v', W', h1, h2, h3, h4⟩ := own_pushG lenin onein Try.underlying65 hi0 hz0 hz1 hz2 rfl (by omega) (by omega) h.head (Nat.zero_le _) hn x ty
  exact ⟨v', W', h1, sep_own h h3 h2 h4⟩
theorem ints_set (L : List Int) (k : Nat) (x : Int) : (L.flatMap inE).set k (.int .i64 x) = (L.set k x).flatMap inE := by
  have e : ∀ L : List Int, L.flatMap inE = L.map (Value.int .i64) := fun L => by
    induction L with
    | nil => rfl
    | cons a t ih => rw [List.flatMap_cons, ih]; rfl
  rw [e, e, List.map_set]
theorem sep_putI {b n c k : Nat} (h : Sep w W (iP (.slice (some ⟨b, 0, none⟩) n c) L :: l)) (hn : L.length = n) (x : Int) : Sep w (W.setCell ⟨b, k, none⟩ (.int .i64 x)) (iP (.slice (some ⟨b, 0, none⟩) n c) (L.set k x) :: l) := by
  have h0 := h.head
  have h1 : W.ownsRow 0 3 1 (.slice (some ⟨b, 0, none⟩) n c) n (L.flatMap inE) := hn ▸ h0
  have h2 := (World.ownsRow.stored h1 k (.int .i64 x)).1
  rw [ints_set] at h2
  refine sep_own h ((Fr.setCell W b k _).mono fun i _ q => by rw [q]; rfl) ?_ fun k hk => .inl hk
  rw [List.length_set, hn]
  exact h2
/-- A list of ints as it lies. -/
theorem iP_form (h : (iP v L).say W) : ∃ p c, v = .slice p L.length c ∧ ∀ k x, L[k]? = some x → ∃ b, p = some ⟨b, 0, none⟩ ∧ b < W.heap.size ∧ W.cell? ⟨b, k, none⟩ = some (.int .i64 x) ∧ W.frozen? ⟨b, k, none⟩ = false := by
  have h1 : W.ownsRow 0 3 1 v L.length (L.flatMap inE) := h
  rcases own_form h1 with ⟨rfl, h0⟩ | ⟨b, c, rfl, hb⟩
  · exact ⟨none, 0, by rw [h0], fun k o hk => by have := (List.getElem?_eq_some_iff.1 hk).1; omega⟩
  · refine ⟨_, c, rfl, fun k x hk => ⟨b, rfl, hb, ?_, World.ownsRow.frozenAt h1 k⟩⟩
    have := own_get lenin h1 hk 0 _ rfl
    rwa [Nat.mul_one, Nat.add_zero] at this
theorem rnew (h : Sep w W l) (n : Int) (hn : n ≤ 9223372036854775807) : Calls Try.prog 9 #[.int .i64 n] W fun e W' => ∃ g, e = .returned (.pointer (some ⟨g, 0, none⟩)) ∧ Sep w W' (rfL g (max n 0) (.slice none 0 0) (.slice none 0 0) [] l) := by
  have hS : ∀ m' : Int, Sep w (W.alloc (.cells #[.int .i64 m', .slice none 0 0, .slice none 0 0] 67)) (rfL W.heap.size m' (.slice none 0 0) (.slice none 0 0) [] l) := fun m' => (sep_nilL (sep_nilL (h.box #[.int .i64 m', .slice none 0 0, .slice none 0 0] 67) 3 1) 3 1).third
  have HS := (show Hid _ from hS)
  clear hS h
  go_enter Try.func9, Try.ntmps9
  go_wp2
  all_goals go_ret
  all_goals first
    | exact ⟨_, rfl, HS.out _⟩
    | (rw [show max n 0 = 0 by omega]; exact ⟨_, rfl, HS.out _⟩)
    | (rw [show max n 0 = n by omega]; exact ⟨_, rfl, HS.out _⟩)
theorem rfind (h : Sep w W (rfL g m vF vV R l)) (hc : cnt R ≤ 1000000) (fd : Int) : Calls Try.prog 56 #[.pointer (some ⟨g, 0, none⟩), .int .i64 fd] W fun e W' => e = .returned (.int .i64 (posV R fd)) ∧ W' = W := by
  have hb := h.head
  have c1 : W.cell? ⟨g, 1, none⟩ = some vF := Joins.cell_of_block hb 1
  obtain ⟨p, c, hv, hf⟩ := iP_form (h.sayOf (q := iP vF (fsL R)) (by simp))
  rw [hv, fsL_len] at c1
  have HF : Hid (∀ k x, (fsL R)[k]? = some x → ∃ b, p = some ⟨b, 0, none⟩ ∧ b < W.heap.size ∧ W.cell? ⟨b, k, none⟩ = some (.int .i64 x) ∧ W.frozen? ⟨b, k, none⟩ = false) := hf
  have hlen : (hl R).length = cnt R := hl_len R
  have HL : Hid ((hl R).length = cnt R) := hlen
  obtain ⟨n, hn⟩ : ∃ n, cnt R = n := ⟨_, rfl⟩
  have HN : Hid (cnt R = n) := hn
  rw [hn] at c1 hc
  clear hb h hf hlen hn hv
  go_enter Try.func56, Try.ntmps56
  go_wp2
  go_loopw [5] (fun s5 wx => ∃ k : Nat, k ≤ n ∧ s5 = .int .i64 k ∧ wx = W ∧ Hid (∀ j, j < k → ∀ x, (fsL R)[j]? = some x → x ≠ fd)) (fun s5 _ => n - (intOf s5).toNat)
  case atStart => exact ⟨0, by omega, rfl, rfl, fun j hj => by omega⟩
  case round =>
    obtain ⟨k, hk, rfl, hwx, HX⟩ := hrel
    obtain rfl := hwx.symm
    by_cases hk2 : k < n
    · have hl1 := HL.out
      have hn1 := HN.out
      have hp : (hl R)[k]? = some (hl R)[k] := List.getElem?_eq_getElem (by omega)
      have hy : (fsL R)[k]? = some ((hl R)[k].1 : Int) := by unfold fsL; rw [List.getElem?_map, hp]; rfl
      obtain ⟨hR, hkc⟩ := hl_get hp
      obtain ⟨b, rfl, hb, cc, _⟩ := HF.out k _ hy
      by_cases he : ((hl R)[k].1 : Int) = fd
      · have HP : Hid (posV R fd = (k : Int)) := by
          show posV R fd = (k : Int)
          rw [← he, posV_held hR, ← hkc]
        rw [he] at cc
        have e1 : (fd == fd) = true := by simp
        clear hp hy hR hkc he HX hl1 hn1
        go_wp2
        go_ret
        exact ⟨by rw [HP.out]; rfl, rfl⟩
      · have e1 : (((hl R)[k].1 : Int) == fd) = false := by simp [he]
        have HX2 : Hid (∀ j, j < k + 1 → ∀ x, (fsL R)[j]? = some x → x ≠ fd) := fun j hj x hx => by
          by_cases q : j = k
          · subst q
            rw [hy] at hx
            injection hx with hx
            rw [← hx]
            exact he
          · exact HX.out j (by omega) x hx
        generalize ((hl R)[k].1 : Int) = y at *
        clear hp hy hR hkc HX hl1 hn1
        go_wp2
        go_roundw
        case rel => exact ⟨k + 1, by omega, by go_num, trivial, HX2⟩
        case measure => simp [intOf]; omega
    · obtain rfl : k = n := by omega
      have HP : Hid (posV R fd = -1) := by
        refine posV_not ?_
        cases hg : getO R fd with
        | none => rfl
        | some x =>
          rcases fd_cases R fd with ⟨j, y, e, hj, _⟩ | ⟨_, h2, _⟩
          · have h3 := hl_at hj
            have h4 := pos_lt hj
            exact absurd (by rw [e] : ((j : Nat) : Int) = fd) (HX.out (cnt (R.take j)) (by have := HL.out; have := HN.out; omega) _ (by unfold fsL; rw [List.getElem?_map, h3]; rfl))
          · rw [h2] at hg; cases hg
      go_wp2
      go_ret
      exact ⟨by rw [HP.out]; rfl, rfl⟩
theorem rget (h : Sep w W (rfL g m vF vV R l)) (hc : cnt R ≤ 1000000) (fd : Int) : Calls Try.prog 30 #[.pointer (some ⟨g, 0, none⟩), .int .i64 fd] W fun e W' => e = .returned (.tuple #[.int .i64 ((getO R fd).getD 0), .int .i64 (refV R fd)]) ∧ W' = W := by
  have hr := rfind h hc fd
  have c2 : W.cell? ⟨g, 2, none⟩ = some vV := Joins.cell_of_block h.head 2
  obtain ⟨p, c, hv, hf⟩ := iP_form (h.sayOf (q := iP vV (vsL R)) (by simp))
  rw [hv, vsL_len] at c2
  rcases fd_cases R fd with ⟨k, x, rfl, hk, h1, h2, _, _⟩ | ⟨h1, h2, _, _⟩
  · rw [posV_held hk] at hr
    rw [h1, h2]
    have hp := hl_at hk
    have hpl := pos_lt hk
    rw [hl_len] at hpl
    obtain ⟨b, rfl, hb, cc, _⟩ := hf (cnt (R.take k)) x (by unfold vsL; rw [List.getElem?_map, hp]; rfl)
    show Calls _ _ _ _ fun e W' => e = .returned (.tuple #[.int .i64 x, .int .i64 0]) ∧ W' = W
    generalize cnt (R.take k) = j at *
    generalize cnt R = n at *
    clear h hf hv hk h1 h2 hp
    go_enter Try.func30, Try.ntmps30
    go_wp2_with (first | (go_at_call 56; refine hr.mono ?_; rintro e U ⟨rfl, q⟩; obtain rfl := q.symm))
    go_ret2
    exact ⟨rfl, rfl⟩
  · rw [posV_not h2] at hr
    rw [h1, h2]
    show Calls _ _ _ _ fun e W' => e = .returned (.tuple #[.int .i64 0, .int .i64 13]) ∧ W' = W
    clear h hf hv h1 h2 c2
    go_enter Try.func30, Try.ntmps30
    go_wp2_with (first | (go_at_call 56; refine hr.mono ?_; rintro e U ⟨rfl, q⟩; obtain rfl := q.symm))
    go_ret2
    exact ⟨rfl, rfl⟩
theorem rset (h : Sep w W (rfL g m vF vV R l)) (hc : cnt R ≤ 1000000) (fd x : Int) : Calls Try.prog 32 #[.pointer (some ⟨g, 0, none⟩), .int .i64 fd, .int .i64 x] W fun e W' => e = .returned (.int .i64 (refV R fd)) ∧ Sep w W' (rfL g m vF vV (setR R fd x) l) := by
  have hr := rfind h hc fd
  have HS := (show Hid _ from h)
  have c2 : W.cell? ⟨g, 2, none⟩ = some vV := Joins.cell_of_block h.head 2
  obtain ⟨p, c, hv, hf⟩ := iP_form (h.sayOf (q := iP vV (vsL R)) (by simp))
  rw [hv, vsL_len] at c2
  rcases fd_cases R fd with ⟨k, y, rfl, hk, h1, h2, _, h3⟩ | ⟨h1, h2, _, h3⟩
  · rw [posV_held hk] at hr
    rw [h1, h3]
    have hp := hl_at hk
    have hpl := pos_lt hk
    rw [hl_len] at hpl
    obtain ⟨b, rfl, hb, cc, ff⟩ := hf (cnt (R.take k)) y (by unfold vsL; rw [List.getElem?_map, hp]; rfl)
    have HT : Hid (Sep w (W.setCell ⟨b, cnt (R.take k), none⟩ (.int .i64 x)) (rfL g m vF vV (R.set k (some x)) l)) := by
      have s1 := (HS.out.swap).third
      have hvl : (vsL R).length = cnt R := vsL_len R
      rw [hv, hvl] at s1
      have s2 := sep_putI (k := cnt (R.take k)) s1 hvl x
      have e1 : fsL (R.set k (some x)) = fsL R := by
        unfold fsL
        rw [hl_put hk, List.map_set]
        exact List.ext_getElem? fun i => by
          by_cases q : i = cnt (R.take k)
          · subst q
            rw [List.getElem?_set_self (by rw [List.length_map]; exact pos_lt hk), List.getElem?_map, hp]
            rfl
          · rw [List.getElem?_set_ne (Ne.symm q)]
      have e2 : vsL (R.set k (some x)) = (vsL R).set (cnt (R.take k)) x := by unfold vsL; rw [hl_put hk, List.map_set]
      show Sep w _ (rfL g m vF vV (R.set k (some x)) l)
      unfold rfL
      rw [e1, e2, hv, hvl]
      exact (Sep.back s2).swap
    generalize cnt (R.take k) = j at *
    generalize cnt R = n at *
    clear h hf hv hk h1 h2 h3 hp
    go_enter Try.func32, Try.ntmps32
    go_wp2_with (first | (go_at_call 56; refine hr.mono ?_; rintro e U ⟨rfl, q⟩; obtain rfl := q.symm))
    go_ret
    exact ⟨rfl, HT.out⟩
  · rw [posV_not h2] at hr
    rw [h1, h3]
    clear h hf hv h1 h2 h3 c2
    go_enter Try.func32, Try.ntmps32
    go_wp2_with (first | (go_at_call 56; refine hr.mono ?_; rintro e U ⟨rfl, q⟩; obtain rfl := q.symm))
    go_ret
    exact ⟨rfl, HS.out⟩
theorem rlen (h : Sep w W (rfL g m vF vV R l)) : Calls Try.prog 35 #[.pointer (some ⟨g, 0, none⟩)] W fun e W' => e = .returned (.int .i64 (cnt R : Nat)) ∧ W' = W := by
  have c1 : W.cell? ⟨g, 1, none⟩ = some vF := Joins.cell_of_block h.head 1
  obtain ⟨p, c, hv, hf⟩ := iP_form (h.sayOf (q := iP vF (fsL R)) (by simp))
  rw [hv, fsL_len] at c1
  generalize cnt R = n at *
  clear h hf hv
  go_enter Try.func35, Try.ntmps35
  go_wp2
  go_ret
  exact ⟨rfl, rfl⟩
theorem rfull (h : Sep w W (rfL g m vF vV R l)) (hm : (cnt R : Int) ≤ m) : Calls Try.prog 36 #[.pointer (some ⟨g, 0, none⟩)] W fun e W' => e = .returned (.bool (decide ((cnt R : Int) = m))) ∧ Sep w W' (rfL g m vF vV R l) := by
  have HS := (show Hid _ from h)
  have c1 : W.cell? ⟨g, 1, none⟩ = some vF := Joins.cell_of_block h.head 1
  have c0 : W.cell? ⟨g, 0, none⟩ = some (.int .i64 m) := Joins.cell_of_block h.head 0
  obtain ⟨p, c, hv, hf⟩ := iP_form (h.sayOf (q := iP vF (fsL R)) (by simp))
  rw [hv, fsL_len] at c1
  have e2 : decide ((cnt R : Int) = m) = decide (m ≤ (cnt R : Int)) := by
    by_cases hh : (cnt R : Int) = m
    · rw [decide_eq_true hh, decide_eq_true (by omega)]
    · rw [decide_eq_false hh, decide_eq_false (by omega)]
  rw [e2]
  obtain ⟨n, hn⟩ : ∃ n, cnt R = n := ⟨_, rfl⟩
  rw [hn] at c1 ⊢
  clear h hf hv e2 hn hm
  go_enter Try.func36, Try.ntmps36
  go_wp2
  go_quiet (fail)
  go_wp2
  go_ret
  exact ⟨rfl, HS.out.later (belowN (Below.refl _ _) _)⟩
end
end Go.Proofs.Ytbchbappdpbkiaa
