/- Rising lists of blocks by their numbers, as plain lists: what stands at a number, a block laid into a list; no condition but that the list rises. (Made ahead for stage 4.) -/
import Derived.Test.YtembocfghkmieaaEq
namespace Go.Proofs.Ytembocfghkmieaa

/-- A block's bytes behind a number. -/
abbrev Cel := Int × (Nat → Int)
/-- A block of bytes of which nothing but noughts stands behind byte 1023. -/
def Can (f : Nat → Int) : Prop := (∀ i, 0 ≤ f i ∧ f i ≤ 255) ∧ ∀ i, 1024 ≤ i → f i = 0
theorem can_nought : Can nought := ⟨fun _ => by unfold nought; omega, fun _ _ => rfl⟩
theorem Can.ext {f g : Nat → Int} (hf : Can f) (hg : Can g) (h : ∀ i, i < 1024 → f i = g i) : f = g := by
  funext i
  by_cases hi : i < 1024
  · exact h i hi
  · rw [hf.2 i (by omega), hg.2 i (by omega)]
theorem Can.same {f g : Nat → Int} (hf : Can f) (hg : Can g) : sameB f g = true ↔ f = g :=
  ⟨fun h => hf.ext hg ((sameB_iff f g).1 h), fun h => by subst h; exact sameB_self f⟩
/-- Is a block blank? -/
def blankB (f : Nat → Int) : Bool := sameB f nought
theorem Can.blank {f : Nat → Int} (hf : Can f) : blankB f = true ↔ f = nought := hf.same can_nought

/-- What stands at a number; noughts, if nothing does. -/
def atL : List Cel → Int → Nat → Int
  | [], _ => nought
  | (i, x) :: t, k => if i = k then x else atL t k
/-- All numbers are greater than m, and they rise. -/
def Rise : Int → List Cel → Prop
  | _, [] => True
  | m, (i, _) :: t => m < i ∧ Rise i t
/-- All blocks are blocks, none of them blank. -/
def Sound (l : List Cel) : Prop := ∀ c ∈ l, Can c.2 ∧ c.2 ≠ nought
/-- A block laid into a list: the numbers from k on are met; done: nothing is to be laid any more. -/
def laidGo (k : Int) (b : Nat → Int) : Bool → List Cel → List Cel
  | done, [] => if done then [] else [(k, b)]
  | done, (i, x) :: t => (if !done && decide (k ≤ i) then [(k, b)] else []) ++ ((if i = k then [] else [(i, x)]) ++ laidGo k b (done || decide (k ≤ i)) t)
def laidL (l : List Cel) (k : Int) (b : Nat → Int) : List Cel := laidGo k b (blankB b) l

theorem Rise.mono {m m' : Int} (h : m' ≤ m) : ∀ {l : List Cel}, Rise m l → Rise m' l
  | [], _ => trivial
  | (_, _) :: _, hl => ⟨by have := hl.1; omega, hl.2⟩
theorem at_above {m : Int} : ∀ {l : List Cel}, Rise m l → ∀ k, k ≤ m → atL l k = nought
  | [], _, _, _ => rfl
  | (i, x) :: t, hl, k, hk => by
    have h1 := hl.1
    unfold atL
    rw [if_neg (by omega)]
    exact at_above hl.2 k (by omega)
theorem at_can {l : List Cel} (hl : Sound l) (k : Int) : Can (atL l k) := by
  induction l with
  | nil => exact can_nought
  | cons c t ih =>
    obtain ⟨i, x⟩ := c
    unfold atL
    split
    · exact (hl (i, x) (by simp)).1
    · exact ih fun c hc => hl c (by simp [hc])
/-- Two rising lists with the same blocks at all numbers are one. -/
theorem rise_ext : ∀ {m m' : Int} {l l' : List Cel}, Rise m l → Rise m' l' → Sound l → Sound l' → (∀ k, atL l k = atL l' k) → l = l'
  | _, _, [], [], _, _, _, _, _ => rfl
  | _, _, [], (i, x) :: t, _, _, _, s', h => by
    have := h i
    simp only [atL, if_pos] at this
    exact absurd this.symm (s' (i, x) (by simp)).2
  | _, _, (i, x) :: t, [], _, _, s, _, h => by
    have := h i
    simp only [atL, if_pos] at this
    exact absurd this (s (i, x) (by simp)).2
  | _, _, (i, x) :: t, (j, y) :: t', r, r', s, s', h => by
    have hij : i = j := by
      by_cases h1 : i < j
      · have := h i
        rw [show atL ((j, y) :: t') i = nought from at_above (show Rise i ((j, y) :: t') from ⟨h1, r'.2⟩) i (Int.le_refl _)] at this
        simp only [atL, if_pos] at this
        exact absurd this (s (i, x) (by simp)).2
      · by_cases h2 : j < i
        · have := h j
          rw [show atL ((i, x) :: t) j = nought from at_above (show Rise j ((i, x) :: t) from ⟨h2, r.2⟩) j (Int.le_refl _)] at this
          simp only [atL, if_pos] at this
          exact absurd this.symm (s' (j, y) (by simp)).2
        · omega
    subst hij
    have hxy : x = y := by
      have := h i
      simpa only [atL, if_pos] using this
    subst hxy
    have ht : t = t' := by
      refine rise_ext r.2 r'.2 (fun c hc => s c (by simp [hc])) (fun c hc => s' c (by simp [hc])) fun k => ?_
      by_cases hk : i = k
      · subst hk
        rw [at_above r.2 i (Int.le_refl _), at_above r'.2 i (Int.le_refl _)]
      · have := h k
        simpa only [atL, if_neg hk] using this
    rw [ht]

theorem laid_done (k : Int) (b : Nat → Int) : ∀ {m : Int} {l : List Cel}, k ≤ m → Rise m l → laidGo k b true l = l
  | _, [], _, _ => rfl
  | m, (i, x) :: t, hk, hl => by
    have h1 := hl.1
    unfold laidGo
    simp only [Bool.not_true, Bool.false_and, Bool.false_eq_true, if_false, List.nil_append, Bool.true_or]
    rw [if_neg (by omega), laid_done k b (m := i) (by omega) hl.2]
    rfl
/-- What a list is behind the laying: it rises, it is sound, and at k stands b; all else stays. -/
theorem laid_spec (k : Int) (b : Nat → Int) (hb : Can b) : ∀ {m : Int} {l : List Cel}, m < k → Rise m l → Sound l →
    Rise m (laidL l k b) ∧ Sound (laidL l k b) ∧ ∀ j, atL (laidL l k b) j = if j = k then b else atL l j := by
  unfold laidL
  cases hbl : blankB b
  · have hne : b ≠ nought := fun h => by rw [hb.blank.2 h] at hbl; cases hbl
    intro m l
    induction l generalizing m with
    | nil =>
      intro hk _ _
      refine ⟨⟨hk, trivial⟩, fun c hc => ?_, fun j => ?_⟩
      · have : c = (k, b) := by simpa [laidGo] using hc
        subst this
        exact ⟨hb, hne⟩
      · simp only [laidGo, Bool.false_eq_true, if_false, atL]
        by_cases hj : j = k
        · rw [if_pos hj.symm, if_pos hj]
        · rw [if_neg (fun h => hj h.symm), if_neg hj]
    | cons c t ih =>
      obtain ⟨i, x⟩ := c
      intro hk hl hs
      have h1 := hl.1
      have hst : Sound t := fun c hc => hs c (by simp [hc])
      unfold laidGo
      simp only [Bool.not_false, Bool.true_and, Bool.false_or]
      by_cases hki : k ≤ i
      · rw [if_pos (by simpa using hki), decide_eq_true hki, laid_done k b hki hl.2]
        by_cases hik : i = k
        · subst hik
          rw [if_pos rfl]
          refine ⟨⟨hk, hl.2⟩, fun c hc => ?_, fun j => ?_⟩
          · have : c = (i, b) ∨ c ∈ t := by simpa using hc
            rcases this with rfl | h
            · exact ⟨hb, hne⟩
            · exact hst c h
          · simp only [List.singleton_append, List.nil_append, atL]
            by_cases hj : j = i
            · rw [if_pos hj.symm, if_pos hj]
            · rw [if_neg (fun h => hj h.symm), if_neg hj, if_neg (fun h => hj h.symm)]
        · rw [if_neg hik]
          refine ⟨⟨hk, by omega, hl.2⟩, fun c hc => ?_, fun j => ?_⟩
          · have : c = (k, b) ∨ c = (i, x) ∨ c ∈ t := by simpa using hc
            rcases this with rfl | rfl | h
            · exact ⟨hb, hne⟩
            · exact hs _ (by simp)
            · exact hst c h
          · simp only [List.singleton_append, atL]
            by_cases hj : j = k
            · rw [if_pos hj.symm, if_pos hj]
            · rw [if_neg (fun h => hj h.symm), if_neg hj]
      · rw [if_neg (by simpa using hki), if_neg (by omega), decide_eq_false hki]
        obtain ⟨r1, r2, r3⟩ := ih (m := i) (by omega) hl.2 hst
        refine ⟨⟨h1, r1⟩, fun c hc => ?_, fun j => ?_⟩
        · have : c = (i, x) ∨ c ∈ laidGo k b false t := by simpa using hc
          rcases this with rfl | h
          · exact hs _ (by simp)
          · exact r2 c h
        · simp only [List.nil_append, List.singleton_append, atL]
          rw [r3 j]
          by_cases hj : i = j
          · rw [if_pos hj, if_pos hj, if_neg (by omega)]
          · rw [if_neg hj, if_neg hj]
  · have hb0 : b = nought := hb.blank.1 hbl
    subst hb0
    intro m l
    induction l generalizing m with
    | nil =>
      intro _ _ _
      refine ⟨trivial, fun c hc => by simp [laidGo] at hc, fun j => ?_⟩
      simp [laidGo, atL]
    | cons c t ih =>
      obtain ⟨i, x⟩ := c
      intro hk hl hs
      have h1 := hl.1
      have hst : Sound t := fun c hc => hs c (by simp [hc])
      unfold laidGo
      simp only [Bool.not_true, Bool.false_and, Bool.false_eq_true, if_false, List.nil_append, Bool.true_or]
      by_cases hik : i = k
      · subst hik
        rw [if_pos rfl, laid_done i nought (Int.le_refl _) hl.2, List.nil_append]
        refine ⟨hl.2.mono (by omega), hst, fun j => ?_⟩
        simp only [atL]
        by_cases hj : j = i
        · rw [if_pos hj, hj]; exact at_above hl.2 i (Int.le_refl _)
        · rw [if_neg hj, if_neg (fun h => hj h.symm)]
      · rw [if_neg hik]
        by_cases hlt : i < k
        · obtain ⟨r1, r2, r3⟩ := ih (m := i) hlt hl.2 hst
          refine ⟨⟨h1, r1⟩, fun c hc => ?_, fun j => ?_⟩
          · have : c = (i, x) ∨ c ∈ laidGo k nought true t := by simpa using hc
            rcases this with rfl | h
            · exact hs _ (by simp)
            · exact r2 c h
          · simp only [List.singleton_append, atL]
            rw [r3 j]
            by_cases hj : i = j
            · rw [if_pos hj, if_pos hj, if_neg (by omega)]
            · rw [if_neg hj, if_neg hj]
        · rw [laid_done k nought (m := i) (by omega) hl.2]
          refine ⟨⟨h1, hl.2⟩, hs, fun j => ?_⟩
          simp only [List.singleton_append]
          by_cases hj : j = k
          · rw [if_pos hj, hj]
            exact at_above (show Rise k ((i, x) :: t) from ⟨by omega, hl.2⟩) k (Int.le_refl _)
          · rw [if_neg hj]
end Go.Proofs.Ytembocfghkmieaa
