/- The clear bits of a span: how many there are, how they are taken one by one; no program. -/
import Derived.Test.YtplgelhfombhkaaMath
namespace Go.Proofs.Ytplgelhfombhkaa

/-- Those of the bits from a to b that are 0, of the numbers below c. -/
def zeros (f : Nat → Int) (a b : Int) (c : Nat) : List Nat := (List.range c).filter (hole f a b)
theorem zeros_succ (f : Nat → Int) (a b : Int) (c : Nat) : zeros f a b (c + 1) = zeros f a b c ++ if hole f a b c then [c] else [] := by
  unfold zeros
  rw [List.range_succ, List.filter_append]
  by_cases h : hole f a b c = true <;> simp [h]
theorem zeros_same (f : Nat → Int) (a b : Int) (c e : Nat) (he : c ≤ e) (h : ∀ i, c ≤ i → i < e → hole f a b i = false) : zeros f a b e = zeros f a b c := by
  obtain ⟨d, rfl⟩ := Nat.exists_eq_add_of_le he
  clear he
  induction d with
  | zero => rfl
  | succ d ih =>
    rw [← Nat.add_assoc, zeros_succ, h (c + d) (by omega) (by omega), ih fun i h1 h2 => h i h1 (by omega)]
    simp
theorem zeros_mem (f : Nat → Int) (a b : Int) (c j : Nat) : j ∈ zeros f a b c ↔ j < c ∧ hole f a b j = true := by
  unfold zeros; rw [List.mem_filter, List.mem_range]
theorem zeros_grow (f : Nat → Int) (a b : Int) (c e : Nat) (he : c ≤ e) : (zeros f a b c).length ≤ (zeros f a b e).length := by
  obtain ⟨d, rfl⟩ := Nat.exists_eq_add_of_le he
  clear he
  induction d with
  | zero => exact Nat.le_refl _
  | succ d ih => rw [← Nat.add_assoc, zeros_succ, List.length_append]; omega
theorem zeros_more (f : Nat → Int) (a b : Int) (c e j : Nat) (h1 : c ≤ j) (h2 : j < e) (h : hole f a b j = true) : (zeros f a b c).length < (zeros f a b e).length := by
  have g1 := zeros_grow f a b c j h1
  have g2 := zeros_grow f a b (j + 1) e h2
  rw [zeros_succ, h, if_pos rfl, List.length_append] at g2
  simp at g2
  omega
/-- The set and the clear ones are all. -/
theorem ones_zeros (f : Nat → Int) (a b : Nat) : ∀ c, (ones f a b c).length + (zeros f a b c).length = min b c - a := by
  intro c
  induction c with
  | zero => simp [ones, zeros]
  | succ c ih =>
    rw [ones_succ, zeros_succ, List.length_append, List.length_append]
    by_cases h : a ≤ c ∧ c < b
    · have hd : decide ((a : Int) ≤ (c : Int) ∧ (c : Int) < (b : Int)) = true := decide_eq_true (by omega)
      unfold ind hole
      rw [hd]
      cases bit f c <;> simp <;> omega
    · have hd : decide ((a : Int) ≤ (c : Int) ∧ (c : Int) < (b : Int)) = false := decide_eq_false (by omega)
      unfold ind hole
      rw [hd]
      simp
      omega
/-- F is f, but that the bits from a to c are set. -/
def Filled (f F : Nat → Int) (a c : Nat) : Prop := ∀ j, bit F j = (bit f j || decide (a ≤ j ∧ j < c))
theorem filled_start (f : Nat → Int) (a : Nat) : Filled f f a a := fun j => by
  rw [decide_eq_false (by omega)]; simp
theorem filled_hole {f F : Nat → Int} {a c : Nat} (h : Filled f F a c) (b j : Nat) : hole F a b j = (hole f a b j && decide (c ≤ j)) := by
  unfold hole
  rw [h j]
  by_cases h1 : a ≤ j
  · by_cases h2 : c ≤ j
    · rw [decide_eq_false (show ¬ (a ≤ j ∧ j < c) by omega), decide_eq_true h2]; simp
    · rw [decide_eq_true (show (a ≤ j ∧ j < c) by omega), decide_eq_false h2]; simp
  · rw [decide_eq_false (show ¬ ((a : Int) ≤ (j : Int) ∧ (j : Int) < (b : Int)) by omega)]; simp
/-- One more is taken: the first clear one. -/
theorem filled_next {f F : Nat → Int} {a c b : Nat} (hac : a ≤ c) (h : Filled f F a c) (hmore : (zeros f a b c).length < (zeros f a b 8192).length) :
    ∃ m : Nat, firstZ F a b = m ∧ c ≤ m ∧ m < b ∧ Filled f (setN F m true) a (m + 1) ∧ zeros f a b (m + 1) = zeros f a b c ++ [m] := by
  rcases firstZ_cases F a b with ⟨_, hno⟩ | ⟨m, hm, _, hh, hl⟩
  · exfalso
    by_cases hc : c ≤ 8192
    · have := zeros_same f a b c 8192 hc fun i h1 h2 => by
        have := hno i h2
        rw [filled_hole h b i, decide_eq_true h1, Bool.and_true] at this
        exact this
      rw [this] at hmore
      omega
    · have := zeros_grow f a b 8192 c (by omega)
      omega
  · rw [filled_hole h b m] at hh
    simp only [Bool.and_eq_true, decide_eq_true_eq] at hh
    obtain ⟨hh, hcm⟩ := hh
    have hmb : m < b := by
      unfold hole at hh
      simp only [Bool.and_eq_true, decide_eq_true_eq] at hh
      omega
    have hno : ∀ i, c ≤ i → i < m → hole f a b i = false := fun i h1 h2 => by
      have := hl i h2
      rw [filled_hole h b i, decide_eq_true h1, Bool.and_true] at this
      exact this
    refine ⟨m, hm, hcm, hmb, fun j => ?_, ?_⟩
    · rw [bit_setN]
      by_cases e : j = m
      · rw [if_pos e, decide_eq_true (show a ≤ j ∧ j < m + 1 by omega)]; simp
      · rw [if_neg e, h j]
        by_cases hj : a ≤ j ∧ j < m + 1
        · rw [decide_eq_true hj]
          by_cases hjc : j < c
          · rw [decide_eq_true (show a ≤ j ∧ j < c by omega)]
          · have := hno j (by omega) (by omega)
            unfold hole at this
            rw [decide_eq_true (show ((a : Int) ≤ (j : Int) ∧ (j : Int) < (b : Int)) by omega)] at this
            simp at this
            rw [this]; simp
        · rw [decide_eq_false hj, decide_eq_false (show ¬ (a ≤ j ∧ j < c) by omega)]
    · rw [zeros_succ, hh, if_pos rfl, zeros_same f a b c m hcm hno]
/-- None is left: the first clear one is none, and all are set. -/
theorem filled_end {f F : Nat → Int} {a c b : Nat} (hab : a ≤ b) (hb : b ≤ 8192) (h : Filled f F a c) (hall : (zeros f a b c).length = (zeros f a b 8192).length) :
    firstZ F a b = -1 ∧ (ones F a b 8192).length = b - a := by
  have hno : ∀ i, i < 8192 → hole F a b i = false := fun i hi => by
    rw [filled_hole h b i]
    by_cases hc : c ≤ i
    · by_cases hh : hole f a b i = true
      · have := zeros_more f a b c 8192 i hc hi hh
        omega
      · simp at hh; rw [hh]; rfl
    · rw [decide_eq_false hc]; simp
  refine ⟨firstZ_none F a b hno, ?_⟩
  have h1 := ones_zeros F a b 8192
  have h2 : zeros F a b 8192 = [] := by
    have := zeros_same F a b 0 8192 (by omega) fun i _ hi => hno i hi
    rw [this]; rfl
  rw [h2] at h1
  simp at h1
  omega
/-- G is F, but that the bits of the list are clear. -/
def Cleared (F G : Nat → Int) (l : List Nat) : Prop := ∀ j, bit G j = (bit F j && !l.contains j)
theorem cleared_start (F : Nat → Int) : Cleared F F [] := fun j => by simp
theorem cleared_next {F G : Nat → Int} {l : List Nat} (h : Cleared F G l) (k : Nat) : Cleared F (setN G k false) (l ++ [k]) := fun j => by
  rw [bit_setN, h j]
  by_cases e : j = k
  · rw [if_pos e]; simp [e]
  · rw [if_neg e]; simp [e]
theorem cleared_end {f F G : Nat → Int} {a b c : Nat} (hcb : c ≤ b) (hF : Filled f F a c) (hG : Cleared F G (zeros f a b c)) (hf : Byte f) (hg : Byte G) : blk G = blk f := by
  refine blk_of_bits hg hf fun j _ => ?_
  rw [hG j, hF j]
  have hm := zeros_mem f a b c j
  by_cases hin : j < c ∧ hole f a b j = true
  · have : (zeros f a b c).contains j = true := by simpa using hm.2 hin
    rw [this]
    have hh := hin.2
    unfold hole at hh
    simp only [Bool.and_eq_true, Bool.not_eq_true'] at hh
    rw [hh.2]; simp
  · have : (zeros f a b c).contains j = false := by
      cases h : (zeros f a b c).contains j with
      | false => rfl
      | true => exact absurd (hm.1 (by simpa using h)) hin
    rw [this]
    by_cases hj : a ≤ j ∧ j < c
    · cases hb : bit f j with
      | true => simp
      | false =>
        exact absurd ⟨hj.2, by unfold hole; rw [hb, decide_eq_true (show ((a : Int) ≤ (j : Int) ∧ (j : Int) < (b : Int)) by omega)]; rfl⟩ hin
    · rw [decide_eq_false hj]; simp
end Go.Proofs.Ytplgelhfombhkaa
