/- Tables as lists: what each number stands for, or nothing; the least number that is free, how many are held, what a call makes of them; no condition. -/
import Derived.Test.YtbchbappdpbkiaaBase
namespace Go.Proofs.Ytbchbappdpbkiaa
section
variable {α : Type}
def lf : List (Option α) → Nat
  | [] => 0
  | none :: _ => 0
  | some _ :: t => lf t + 1
def cnt : List (Option α) → Nat
  | [] => 0
  | none :: t => cnt t
  | some _ :: t => cnt t + 1
def atR (R : List (Option α)) (i : Nat) : Option α := (R[i]?).join
def openR (R : List (Option α)) (x : α) : List (Option α) := if lf R = R.length then R ++ [some x] else R.set (lf R) (some x)
theorem lf_le : ∀ R : List (Option α), lf R ≤ R.length
  | [] => Nat.le_refl _
  | none :: _ => Nat.zero_le _
  | some _ :: t => by simp only [lf, List.length_cons]; exact Nat.succ_le_succ (lf_le t)
theorem cnt_le : ∀ R : List (Option α), cnt R ≤ R.length
  | [] => Nat.le_refl _
  | none :: t => by simp only [cnt, List.length_cons]; exact Nat.le_succ_of_le (cnt_le t)
  | some _ :: t => by simp only [cnt, List.length_cons]; exact Nat.succ_le_succ (cnt_le t)
theorem lf_held : ∀ (R : List (Option α)) (i : Nat), i < lf R → ∃ x, R[i]? = some (some x)
  | [], i, h => by simp [lf] at h
  | none :: _, i, h => by simp [lf] at h
  | some x :: t, 0, _ => ⟨x, rfl⟩
  | some _ :: t, i + 1, h => by
    simp only [lf] at h
    simpa using lf_held t i (by omega)
theorem lf_free : ∀ R : List (Option α), lf R < R.length → R[lf R]? = some none
  | [], h => by simp at h
  | none :: _, _ => rfl
  | some _ :: t, h => by
    simp only [lf, List.length_cons] at h ⊢
    simpa using lf_free t (by omega)
theorem atR_lf (R : List (Option α)) : atR R (lf R) = none := by
  unfold atR
  rcases Nat.lt_or_ge (lf R) R.length with h | h
  · rw [lf_free R h]; rfl
  · rw [List.getElem?_eq_none h]; rfl
theorem le_lf {R : List (Option α)} {n : Nat} (h : ∀ i, i < n → (atR R i).isSome = true) : n ≤ lf R := by
  rcases Nat.lt_or_ge (lf R) n with q | q
  · have := h _ q
    rw [atR_lf] at this
    cases this
  · exact q
theorem atR_held {R : List (Option α)} {i : Nat} (h : i < lf R) : (atR R i).isSome = true := by
  obtain ⟨x, hx⟩ := lf_held R i h
  unfold atR
  rw [hx]
  rfl
theorem atR_some {R : List (Option α)} {i : Nat} {x : α} : atR R i = some x ↔ R[i]? = some (some x) := by
  unfold atR
  cases R[i]? with
  | none => simp
  | some o => cases o <;> simp
theorem atR_lt {R : List (Option α)} {i : Nat} (h : (atR R i).isSome = true) : i < R.length := by
  rcases Nat.lt_or_ge i R.length with q | q
  · exact q
  · unfold atR at h
    rw [List.getElem?_eq_none q] at h
    cases h
theorem atR_set (R : List (Option α)) (k : Nat) (o : Option α) (i : Nat) (hk : k < R.length) : atR (R.set k o) i = if i = k then o else atR R i := by
  unfold atR
  by_cases e : i = k
  · subst e
    rw [if_pos rfl, List.getElem?_set_self hk]
    rfl
  · rw [if_neg e, List.getElem?_set_ne (Ne.symm e)]
theorem atR_open (R : List (Option α)) (x : α) (i : Nat) : atR (openR R x) i = if i = lf R then some x else atR R i := by
  unfold openR
  have hl := lf_le R
  by_cases e : lf R = R.length
  · rw [if_pos e]
    by_cases q : i = lf R
    · rw [if_pos q, q, e]
      unfold atR
      rw [List.getElem?_append_right (Nat.le_refl _), Nat.sub_self]
      rfl
    · rw [if_neg q]
      unfold atR
      rcases Nat.lt_or_ge i R.length with h | h
      · rw [List.getElem?_append_left h]
      · rw [List.getElem?_append_right h, List.getElem?_eq_none (show R.length ≤ i by omega), List.getElem?_eq_none (by simp; omega)]
  · rw [if_neg e]
    exact atR_set R _ _ i (by omega)
theorem cnt_app : ∀ (R S : List (Option α)), cnt (R ++ S) = cnt R + cnt S
  | [], S => by simp [cnt]
  | none :: t, S => by simp only [List.cons_append, cnt]; exact cnt_app t S
  | some _ :: t, S => by simp only [List.cons_append, cnt]; rw [cnt_app t S]; omega
theorem cnt_set_some : ∀ (R : List (Option α)) (k : Nat) (x : α), R[k]? = some none → cnt (R.set k (some x)) = cnt R + 1
  | [], k, x, h => by simp at h
  | none :: t, 0, x, _ => rfl
  | some _ :: t, 0, x, h => by simp at h
  | none :: t, k + 1, x, h => by simp only [List.set_cons_succ, cnt]; exact cnt_set_some t k x (by simpa using h)
  | some _ :: t, k + 1, x, h => by simp only [List.set_cons_succ, cnt]; rw [cnt_set_some t k x (by simpa using h)]
theorem cnt_set_same : ∀ (R : List (Option α)) (k : Nat) (x y : α), R[k]? = some (some y) → cnt (R.set k (some x)) = cnt R
  | [], k, x, y, h => by simp at h
  | none :: t, 0, x, y, h => by simp at h
  | some _ :: t, 0, x, y, _ => rfl
  | none :: t, k + 1, x, y, h => by simp only [List.set_cons_succ, cnt]; exact cnt_set_same t k x y (by simpa using h)
  | some _ :: t, k + 1, x, y, h => by simp only [List.set_cons_succ, cnt]; rw [cnt_set_same t k x y (by simpa using h)]
theorem cnt_set_none : ∀ (R : List (Option α)) (k : Nat) (y : α), R[k]? = some (some y) → cnt (R.set k none) + 1 = cnt R
  | [], k, y, h => by simp at h
  | none :: t, 0, y, h => by simp at h
  | some _ :: t, 0, y, _ => rfl
  | none :: t, k + 1, y, h => by simp only [List.set_cons_succ, cnt]; exact cnt_set_none t k y (by simpa using h)
  | some _ :: t, k + 1, y, h => by simp only [List.set_cons_succ, cnt]; rw [cnt_set_none t k y (by simpa using h)]
theorem cnt_open (R : List (Option α)) (x : α) : cnt (openR R x) = cnt R + 1 := by
  unfold openR
  have hl := lf_le R
  by_cases e : lf R = R.length
  · rw [if_pos e, cnt_app]
    rfl
  · rw [if_neg e]
    exact cnt_set_some R _ x (lf_free R (by omega))
theorem lf_open (R : List (Option α)) (x : α) : lf R + 1 ≤ lf (openR R x) := le_lf fun i hi => by
  rw [atR_open]
  split
  · rfl
  · exact atR_held (by omega)
theorem len_open (R : List (Option α)) (x : α) : (openR R x).length ≤ R.length + 1 := by
  unfold openR
  split <;> simp
theorem lf_set {R : List (Option α)} {k n : Nat} {x y : α} (h : n ≤ lf R) (hk : R[k]? = some (some y)) : n ≤ lf (R.set k (some x)) := le_lf fun i hi => by
  rw [atR_set _ _ _ _ (List.getElem?_eq_some_iff.1 hk).1]
  split
  · rfl
  · exact atR_held (by omega)
theorem lf_close {R : List (Option α)} {k n : Nat} {y : α} (h : n ≤ lf R) (hk : R[k]? = some (some y)) : min n k ≤ lf (R.set k none) := le_lf fun i hi => by
  rw [atR_set _ _ _ _ (List.getElem?_eq_some_iff.1 hk).1, if_neg (by omega)]
  exact atR_held (by omega)
/-- Why a number is refused. -/
def refV (R : List (Option α)) (fd : Int) : Int := if 0 ≤ fd ∧ (atR R fd.toNat).isSome = true then 0 else 13
def setR (R : List (Option α)) (fd : Int) (x : α) : List (Option α) := if refV R fd = 0 then R.set fd.toNat (some x) else R
def closeR (R : List (Option α)) (fd : Int) : List (Option α) := if refV R fd = 0 then R.set fd.toNat none else R
def openE (R : List (Option α)) (m : Int) : Int := if (cnt R : Int) = m then 14 else 0
def openN (R : List (Option α)) (m : Int) : Int := if (cnt R : Int) = m then 0 else (lf R : Int)
def openT (R : List (Option α)) (m : Int) (x : α) : List (Option α) := if (cnt R : Int) = m then R else openR R x
theorem refV_zero {R : List (Option α)} {fd : Int} (h : refV R fd = 0) : ∃ k : Nat, ∃ x, fd = k ∧ R[k]? = some (some x) := by
  unfold refV at h
  split at h
  case isTrue q =>
    obtain ⟨q1, q2⟩ := q
    obtain ⟨x, hx⟩ := Option.isSome_iff_exists.1 q2
    exact ⟨fd.toNat, x, by omega, atR_some.1 hx⟩
  case isFalse q => simp at h
theorem refV_held {R : List (Option α)} {k : Nat} {x : α} (h : R[k]? = some (some x)) : refV R (k : Int) = 0 := by
  unfold refV
  rw [if_pos ⟨by omega, by rw [show ((k : Int)).toNat = k by omega, atR_some.2 h]; rfl⟩]
theorem refV_cases (R : List (Option α)) (fd : Int) : refV R fd = 0 ∨ refV R fd = 13 := by
  unfold refV
  split
  · exact .inl rfl
  · exact .inr rfl
def getO (R : List (Option α)) (fd : Int) : Option α := if 0 ≤ fd then atR R fd.toNat else none
theorem fd_cases (R : List (Option α)) (fd : Int) : (∃ k : Nat, ∃ x, fd = (k : Nat) ∧ R[k]? = some (some x) ∧ refV R fd = 0 ∧ getO R fd = some x ∧ closeR R fd = R.set k none ∧ ∀ y, setR R fd y = R.set k (some y)) ∨ (refV R fd = 13 ∧ getO R fd = none ∧ closeR R fd = R ∧ ∀ y, setR R fd y = R) := by
  rcases refV_cases R fd with h | h
  · obtain ⟨k, x, rfl, hk⟩ := refV_zero h
    have e : ((k : Int)).toNat = k := by omega
    refine .inl ⟨k, x, rfl, hk, h, ?_, ?_, fun y => ?_⟩
    · unfold getO; rw [if_pos (by omega), e, atR_some.2 hk]
    · unfold closeR; rw [if_pos h, e]
    · unfold setR; rw [if_pos h, e]
  · have h0 : ¬ refV R fd = 0 := by rw [h]; decide
    refine .inr ⟨h, ?_, ?_, fun y => ?_⟩
    · unfold getO
      by_cases q : 0 ≤ fd
      · rw [if_pos q]
        cases e : atR R fd.toNat with
        | none => rfl
        | some x => exact absurd (by unfold refV; rw [if_pos ⟨q, by rw [e]; rfl⟩]) h0
      · rw [if_neg q]
    · unfold closeR; rw [if_neg h0]
    · unfold setR; rw [if_neg h0]
theorem openR_set (R : List (Option α)) (x : α) : openR R x = (if lf R = R.length then R ++ [none] else R).set (lf R) (some x) := by
  unfold openR
  by_cases e : lf R = R.length
  · rw [if_pos e, if_pos e, e, List.set_append_right _ _ (Nat.le_refl _), Nat.sub_self]
    rfl
  · rw [if_neg e, if_neg e]
theorem len_set (R : List (Option α)) (fd : Int) (y : α) : (setR R fd y).length = R.length := by unfold setR; split <;> simp
theorem len_close (R : List (Option α)) (fd : Int) : (closeR R fd).length = R.length := by unfold closeR; split <;> simp
theorem cnt_set (R : List (Option α)) (fd : Int) (y : α) : cnt (setR R fd y) = cnt R := by
  rcases fd_cases R fd with ⟨k, x, rfl, hk, _, _, _, hs⟩ | ⟨_, _, _, hs⟩
  · rw [hs, cnt_set_same R k y x hk]
  · rw [hs]
end
end Go.Proofs.Ytbchbappdpbkiaa
