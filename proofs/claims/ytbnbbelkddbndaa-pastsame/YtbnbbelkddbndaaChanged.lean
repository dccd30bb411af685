/- Changed: the numbers at which two images are not the same; no condition but that lists are not longer than lists can be. -/
import Derived.Test.YtbnbbelkddbndaaCutMath
namespace Go.Proofs.Ytbnbbelkddbndaa
open Go.RowKit Go.Maps
/-- Does c hold f at k? -/
def hasB (c : Con) (x : Cel) : Bool := match c x.1 with
  | some g => sameB g x.2
  | none => false
def strikeC (c : Con) (k : Int) : Con := fun j => if j = k then none else c j
def stepC (c : Con) (x : Cel) : Con := if hasB c x then strikeC c x.1 else holdC c x.1 x.2
def chgC (c : Con) (l : List Cel) : Con := l.foldl stepC c
theorem chgC_snoc (c : Con) (l : List Cel) (x : Cel) : chgC c (l ++ [x]) = stepC (chgC c l) x := by simp [chgC]
variable {B : Nat} {w w' : World} {b : Nat} {c : Con}
theorem strikeP {m : Int → Option Value} (h2 : ∀ k, c k = none → m k = none) (h3 : ∀ k f, c k = some f → ∃ g off, m k = some (.pointer (some ⟨g, off, none⟩)) ∧ g < B ∧ BlkAt w g off f)
    {x : Int} (hm : MapIs Try.prog 3 w' b (fun y => if y = x then none else m y)) (hB : ∀ k, k < B → w'.heap[k]? = w.heap[k]?) : PtrsAt B w' b (strikeC c x) := by
  refine ⟨_, hm, fun k hk => ?_, fun k f' hk => ?_⟩
  · unfold strikeC at hk
    by_cases e : k = x
    · rw [if_pos e]
    · rw [if_neg e] at hk ⊢; exact h2 k hk
  · unfold strikeC at hk
    by_cases e : k = x
    · rw [if_pos e] at hk; cases hk
    · rw [if_neg e] at hk ⊢
      obtain ⟨g', off', q1, q2, q3⟩ := h3 k f' hk
      exact ⟨g', off', q1, q2, q3.kept (hB g' q2)⟩
theorem stepC_other {c : Con} {x : Cel} {k : Int} (h : k ≠ x.1) : stepC c x k = c k := by
  unfold stepC
  split
  · unfold strikeC; rw [if_neg h]
  · unfold holdC; rw [if_neg h]
theorem stepC_same {c c' : Con} {k : Int} {f : Nat → Int} (h : c' k = c k) : stepC c' (k, f) k = stepC c (k, f) k := by
  have e : hasB c' (k, f) = hasB c (k, f) := by unfold hasB; simp only [h]
  unfold stepC
  rw [e]
  split
  · simp [strikeC]
  · simp [holdC]
theorem chgC_out : ∀ {l : List Cel} {c : Con} {k : Int}, k ∉ l.map (·.1) → chgC c l k = c k
  | [], _, _, _ => rfl
  | x :: t, c, k, h => by
    show chgC (stepC c x) t k = c k
    rw [chgC_out (fun q => h (by simp only [List.map_cons, List.mem_cons]; exact .inr q)), stepC_other fun e => h (by simp [e])]
theorem chgC_in : ∀ {l : List Cel} {m : Int} {c : Con} {k : Int}, Rise m l → k ∈ l.map (·.1) → chgC c l k = stepC c (k, atL l k) k
  | (i, x) :: t, m, c, k, hr, h => by
    show chgC (stepC c (i, x)) t k = _
    have up : ∀ {t : List Cel} {m : Int}, Rise m t → ∀ y ∈ t.map (·.1), m < y := by
      intro t
      induction t with
      | nil => intro m _ y hy; simp at hy
      | cons c t ih =>
        intro m hr y hy
        rcases List.mem_cons.1 hy with rfl | hy
        · exact hr.1
        · have := ih hr.2 y hy
          have := hr.1
          omega
    by_cases e : i = k
    · subst e
      rw [chgC_out fun q => by have := up hr.2 _ q; omega]
      simp [atL]
    · have ht : k ∈ t.map (·.1) := by
        simp only [List.map_cons, List.mem_cons] at h
        rcases h with q | q
        · exact absurd q.symm e
        · exact q
      rw [chgC_in hr.2 ht]
      have ea : atL ((i, x) :: t) k = atL t k := by simp [atL, e]
      have es : stepC c (i, x) k = c k := stepC_other fun q => e q.symm
      rw [ea]
      exact stepC_same es
theorem atL_mem {k : Int} : ∀ {l : List Cel}, k ∈ l.map (·.1) → ∃ x ∈ l, x.1 = k ∧ atL l k = x.2
  | [], h => by simp at h
  | (i, x) :: t, h => by
    by_cases e : i = k
    · exact ⟨(i, x), by simp, e, by simp [atL, e]⟩
    · have ht : k ∈ t.map (·.1) := by
        simp only [List.map_cons, List.mem_cons] at h
        rcases h with q | q
        · exact absurd q.symm e
        · exact q
      obtain ⟨y, h1, h2, h3⟩ := atL_mem ht
      exact ⟨y, List.mem_cons_of_mem _ h1, h2, by simp [atL, e, h3]⟩
/-- What a rising list of blocks says, as a map. -/
theorem hold_at {l : List Cel} {m : Int} (hr : Rise m l) (hs : Sound l) (k : Int) : (atL l k = nought → (holdCs noC l) k = none) ∧ (atL l k ≠ nought → (holdCs noC l) k = some (atL l k)) := by
  have h1 : ((holdCs noC l) k).getD nought = atL l k := by
    rw [lastB_hold k l noC (fun x hx => (hs x hx).1)]
    exact lastB_at k hr
  cases hc : (holdCs noC l) k with
  | none =>
    rw [hc] at h1
    exact ⟨fun _ => rfl, fun q => absurd h1.symm q⟩
  | some f =>
    rw [hc] at h1
    have hf : f ≠ nought := by
      have gen : ∀ (l : List Cel) (c : Con), (∀ k f, c k = some f → f ≠ nought) → Sound l → ∀ k f, (holdCs c l) k = some f → f ≠ nought := by
        intro l
        induction l with
        | nil => intro c h _ k f hk; exact h k f hk
        | cons x t ih =>
          intro c h hs k f hk
          refine ih (holdC c x.1 x.2) (fun k f hk => ?_) (fun d hd => hs d (List.mem_cons_of_mem _ hd)) k f hk
          unfold holdC at hk
          by_cases e : k = x.1
          · rw [if_pos e] at hk
            cases hb : blankB x.2
            · rw [hb] at hk
              have e2 : x.2 = f := by simpa using hk
              rw [← e2]
              exact (hs x (by simp)).2
            · rw [hb] at hk; cases hk
          · rw [if_neg e] at hk
            exact h k f hk
      exact gen l noC (fun k f h => by simp [noC] at h) hs k f hc
    have e : f = atL l k := h1
    exact ⟨fun q => absurd (e.trans q) hf, fun _ => by rw [e]⟩
theorem chg_some {s t : List Cel} {m m' : Int} (rs : Rise m s) (ss : Sound s) (rt : Rise m' t) (st : Sound t) (k : Int) : (chgC (holdCs noC s) t k).isSome = true ↔ atL s k ≠ atL t k := by
  by_cases h : k ∈ t.map (·.1)
  · obtain ⟨x, hx, hxk, hxa⟩ := atL_mem h
    have hn : atL t k ≠ nought := by rw [hxa]; exact (st x hx).2
    have hcan : Can (atL t k) := by rw [hxa]; exact (st x hx).1
    rw [chgC_in rt h]
    unfold stepC hasB
    have hcs := at_can ss k
    by_cases e0 : atL s k = nought
    · simp only [(hold_at rs ss k).1 e0, Bool.false_eq_true, if_false]
      unfold holdC
      rw [if_pos rfl, blank_no hcan hn, e0]
      simp
      exact fun q => hn q.symm
    · simp only [(hold_at rs ss k).2 e0]
      cases hb : sameB (atL s k) (atL t k)
      · simp only [Bool.false_eq_true, if_false]
        unfold holdC
        rw [if_pos rfl, blank_no hcan hn]
        simp
        intro q
        rw [q, sameB_self] at hb
        cases hb
      · simp only [if_true]
        unfold strikeC
        rw [if_pos rfl]
        simp
        exact (hcs.same hcan).1 hb
  · rw [chgC_out h, atL_none h]
    by_cases e0 : atL s k = nought
    · rw [(hold_at rs ss k).1 e0]
      simp [e0]
    · rw [(hold_at rs ss k).2 e0]
      simp [e0]
theorem rise_may {n : Int} : ∀ {l : List Cel} {a : Int}, risesB n a l = true → Rise a l
  | [], _, _ => trivial
  | c :: t, a, h => by
    unfold risesB at h
    simp at h
    obtain ⟨⟨⟨h1, _⟩, _⟩, h4⟩ := h
    exact ⟨by omega, rise_may h4⟩
theorem may_parts {n : Int} {l : List Cel} (h : mayB n l = true) (hc : ∀ c ∈ l, Can c.2) : Rise (-1) l ∧ Sound l := by
  have hb := (may_bounds h).2
  unfold mayB at h
  simp at h
  refine ⟨rise_may h.2, fun c hcm => ⟨hc c hcm, fun q => ?_⟩⟩
  have := (hb c hcm).2.2
  rw [(hc c hcm).blank.2 q] at this
  cases this
end Go.Proofs.Ytbnbbelkddbndaa
