/- The document's Changed, as a list: the numbers at which two rising lists of blocks differ, rising; and a rising list is told by what stands in it. -/
import Derived.Test.YtbnbbelkddbndaaChanged
namespace Go.Proofs.Ytbnbbelkddbndaa
open Go.RowKit Go.Maps
/-- The numbers at which two rising lists differ, step by step (n steps at most). -/
def chgM : Nat → List Cel → List Cel → List Int
  | 0, _, _ => []
  | _ + 1, [], [] => []
  | n + 1, a :: s, [] => a.1 :: chgM n s []
  | n + 1, [], b :: t => b.1 :: chgM n [] t
  | n + 1, a :: s, b :: t => if a.1 < b.1 then a.1 :: chgM n s (b :: t) else if b.1 < a.1 then b.1 :: chgM n (a :: s) t else if sameB a.2 b.2 then chgM n s t else a.1 :: chgM n s t
theorem chgM_nil : ∀ n, chgM n [] [] = []
  | 0 => rfl
  | _ + 1 => rfl
/-- More steps than both are long do not matter. -/
theorem chgM_more : ∀ (n : Nat) (s t : List Cel), s.length + t.length ≤ n → ∀ m, s.length + t.length ≤ m → chgM n s t = chgM m s t
  | 0, s, t, h, m, _ => by
    have h1 : s = [] := List.length_eq_zero_iff.1 (by omega)
    have h2 : t = [] := List.length_eq_zero_iff.1 (by omega)
    subst h1; subst h2
    rw [chgM_nil, chgM_nil]
  | n + 1, s, t, h, 0, h0 => by
    have h1 : s = [] := List.length_eq_zero_iff.1 (by omega)
    have h2 : t = [] := List.length_eq_zero_iff.1 (by omega)
    subst h1; subst h2
    rw [chgM_nil, chgM_nil]
  | n + 1, [], [], _, m + 1, _ => rfl
  | n + 1, a :: s, [], h, m + 1, h0 => by
    unfold chgM
    rw [chgM_more n s [] (by simp at h ⊢; omega) m (by simp at h0 ⊢; omega)]
  | n + 1, [], b :: t, h, m + 1, h0 => by
    unfold chgM
    rw [chgM_more n [] t (by simp at h ⊢; omega) m (by simp at h0 ⊢; omega)]
  | n + 1, a :: s, b :: t, h, m + 1, h0 => by
    simp only [List.length_cons] at h h0
    unfold chgM
    rw [chgM_more n s (b :: t) (by simp; omega) m (by simp; omega), chgM_more n (a :: s) t (by simp; omega) m (by simp; omega), chgM_more n s t (by omega) m (by omega)]
theorem chgM_len : ∀ (n : Nat) (s t : List Cel), (chgM n s t).length ≤ s.length + t.length
  | 0, _, _ => by simp [chgM]
  | n + 1, [], [] => by simp [chgM]
  | n + 1, a :: s, [] => by
    have := chgM_len n s []
    simp [chgM] at this ⊢
    omega
  | n + 1, [], b :: t => by
    have := chgM_len n [] t
    simp [chgM] at this ⊢
    omega
  | n + 1, a :: s, b :: t => by
    have h1 := chgM_len n s (b :: t)
    have h2 := chgM_len n (a :: s) t
    have h3 := chgM_len n s t
    simp only [List.length_cons] at h1 h2 ⊢
    unfold chgM
    split
    · simp; omega
    · split
      · simp; omega
      · split
        · omega
        · simp; omega
theorem at_head (i : Int) (x : Nat → Int) (t : List Cel) : atL ((i, x) :: t) i = x := by simp [atL]
theorem at_tail {i k : Int} (x : Nat → Int) (t : List Cel) (h : i ≠ k) : atL ((i, x) :: t) k = atL t k := by simp [atL, h]
/-- What it tells: rising, and just where they differ. -/
theorem chgM_tells : ∀ (n : Nat) (s t : List Cel) (m : Int), s.length + t.length ≤ n → Rise m s → Rise m t → Sound s → Sound t →
    (∀ x ∈ chgM n s t, m < x) ∧ (chgM n s t).Pairwise (fun a b => a < b) ∧ ∀ x, x ∈ chgM n s t ↔ atL s x ≠ atL t x
  | 0, s, t, m, h, _, _, _, _ => by
    have h1 : s = [] := List.length_eq_zero_iff.1 (by omega)
    have h2 : t = [] := List.length_eq_zero_iff.1 (by omega)
    subst h1; subst h2
    refine ⟨?_, ?_, ?_⟩ <;> simp [chgM]
  | n + 1, [], [], m, h, _, _, _, _ => by refine ⟨?_, ?_, ?_⟩ <;> simp [chgM]
  | n + 1, (i, f) :: s, [], m, h, rs, rt, ss, st => by
    obtain ⟨h1, h2, h3⟩ := chgM_tells n s [] i (by simp at h ⊢; omega) rs.2 trivial (fun c hc => ss c (by simp [hc])) st
    have e : chgM (n + 1) ((i, f) :: s) [] = i :: chgM n s [] := rfl
    rw [e]
    refine ⟨fun x hx => ?_, List.pairwise_cons.2 ⟨h1, h2⟩, fun x => ?_⟩
    · rcases List.mem_cons.1 hx with q | q
      · rw [q]; exact rs.1
      · have := h1 x q; have := rs.1; omega
    · rw [List.mem_cons, h3]
      by_cases hx : i = x
      · subst hx
        rw [at_head]
        exact ⟨fun _ => (ss (i, f) (by simp)).2, fun _ => .inl rfl⟩
      · rw [at_tail f s hx]
        exact ⟨fun q => q.resolve_left fun q => hx q.symm, .inr⟩
  | n + 1, [], (j, g) :: t, m, h, rs, rt, ss, st => by
    obtain ⟨h1, h2, h3⟩ := chgM_tells n [] t j (by simp at h ⊢; omega) trivial rt.2 ss (fun c hc => st c (by simp [hc]))
    have e : chgM (n + 1) [] ((j, g) :: t) = j :: chgM n [] t := rfl
    rw [e]
    refine ⟨fun x hx => ?_, List.pairwise_cons.2 ⟨h1, h2⟩, fun x => ?_⟩
    · rcases List.mem_cons.1 hx with q | q
      · rw [q]; exact rt.1
      · have := h1 x q; have := rt.1; omega
    · rw [List.mem_cons, h3]
      by_cases hx : j = x
      · subst hx
        rw [at_head]
        exact ⟨fun _ q => (st (j, g) (by simp)).2 q.symm, fun _ => .inl rfl⟩
      · rw [at_tail g t hx]
        exact ⟨fun q => q.resolve_left fun q => hx q.symm, .inr⟩
  | n + 1, (i, f) :: s, (j, g) :: t, m, h, rs, rt, ss, st => by
    have ss' : Sound s := fun c hc => ss c (by simp [hc])
    have st' : Sound t := fun c hc => st c (by simp [hc])
    simp only [List.length_cons] at h
    have e : chgM (n + 1) ((i, f) :: s) ((j, g) :: t) = if i < j then i :: chgM n s ((j, g) :: t) else if j < i then j :: chgM n ((i, f) :: s) t else if sameB f g then chgM n s t else i :: chgM n s t := rfl
    rw [e]
    by_cases c1 : i < j
    · rw [if_pos c1]
      obtain ⟨h1, h2, h3⟩ := chgM_tells n s ((j, g) :: t) i (by simp; omega) rs.2 ⟨c1, rt.2⟩ ss' st
      refine ⟨fun x hx => ?_, List.pairwise_cons.2 ⟨h1, h2⟩, fun x => ?_⟩
      · rcases List.mem_cons.1 hx with q | q
        · rw [q]; exact rs.1
        · have := h1 x q; have := rs.1; omega
      · rw [List.mem_cons, h3]
        by_cases hx : i = x
        · subst hx
          rw [at_head, show atL ((j, g) :: t) i = nought from at_above (show Rise i ((j, g) :: t) from ⟨c1, rt.2⟩) i (Int.le_refl _)]
          exact ⟨fun _ => (ss (i, f) (by simp)).2, fun _ => .inl rfl⟩
        · rw [at_tail f s hx]
          exact ⟨fun q => q.resolve_left fun q => hx q.symm, .inr⟩
    · rw [if_neg c1]
      by_cases c2 : j < i
      · rw [if_pos c2]
        obtain ⟨h1, h2, h3⟩ := chgM_tells n ((i, f) :: s) t j (by simp; omega) ⟨c2, rs.2⟩ rt.2 ss st'
        refine ⟨fun x hx => ?_, List.pairwise_cons.2 ⟨h1, h2⟩, fun x => ?_⟩
        · rcases List.mem_cons.1 hx with q | q
          · rw [q]; exact rt.1
          · have := h1 x q; have := rt.1; omega
        · rw [List.mem_cons, h3]
          by_cases hx : j = x
          · subst hx
            rw [at_head, show atL ((i, f) :: s) j = nought from at_above (show Rise j ((i, f) :: s) from ⟨c2, rs.2⟩) j (Int.le_refl _)]
            exact ⟨fun _ q => (st (j, g) (by simp)).2 q.symm, fun _ => .inl rfl⟩
          · rw [at_tail g t hx]
            exact ⟨fun q => q.resolve_left fun q => hx q.symm, .inr⟩
      · rw [if_neg c2]
        have hij : i = j := by omega
        subst hij
        obtain ⟨h1, h2, h3⟩ := chgM_tells n s t i (by omega) rs.2 rt.2 ss' st'
        have cf := (ss (i, f) (by simp)).1
        have cg := (st (i, g) (by simp)).1
        cases hb : sameB f g
        · simp only [Bool.false_eq_true, if_false]
          refine ⟨fun x hx => ?_, List.pairwise_cons.2 ⟨h1, h2⟩, fun x => ?_⟩
          · rcases List.mem_cons.1 hx with q | q
            · rw [q]; exact rs.1
            · have := h1 x q; have := rs.1; omega
          · rw [List.mem_cons, h3]
            by_cases hx : i = x
            · subst hx
              rw [at_head, at_head]
              exact ⟨fun _ q => (by rw [q, sameB_self] at hb; cases hb), fun _ => .inl rfl⟩
            · rw [at_tail f s hx, at_tail g t hx]
              exact ⟨fun q => q.resolve_left fun q => hx q.symm, .inr⟩
        · simp only [if_true]
          refine ⟨fun x hx => ?_, h2, fun x => ?_⟩
          · have := h1 x hx; have := rs.1; omega
          · rw [h3]
            have hfg : f = g := (cf.same cg).1 hb
            by_cases hx : i = x
            · subst hx
              rw [at_head, at_head, at_above rs.2 i (Int.le_refl _), at_above rt.2 i (Int.le_refl _), hfg]
              simp
            · rw [at_tail f s hx, at_tail g t hx]
/-- Two rising lists in which the same numbers stand are one. -/
theorem sorted_ext : ∀ {a b : List Int}, a.Pairwise (fun x y => x < y) → b.Pairwise (fun x y => x < y) → (∀ x, x ∈ a ↔ x ∈ b) → a = b
  | [], [], _, _, _ => rfl
  | [], y :: b, _, _, h => by have := (h y).2 (by simp); simp at this
  | x :: a, [], _, _, h => by have := (h x).1 (by simp); simp at this
  | x :: a, y :: b, ha, hb, h => by
    obtain ⟨a1, a2⟩ := List.pairwise_cons.1 ha
    obtain ⟨b1, b2⟩ := List.pairwise_cons.1 hb
    have hxy : x = y := by
      rcases List.mem_cons.1 ((h x).1 (by simp)) with q | q
      · exact q
      · rcases List.mem_cons.1 ((h y).2 (by simp)) with r | r
        · exact r.symm
        · have := b1 x q; have := a1 y r; omega
    subst hxy
    have ht : ∀ z, z ∈ a ↔ z ∈ b := fun z => by
      constructor
      · intro q
        rcases List.mem_cons.1 ((h z).1 (by simp [q])) with r | r
        · have := a1 z q; omega
        · exact r
      · intro q
        rcases List.mem_cons.1 ((h z).2 (by simp [q])) with r | r
        · have := b1 z q; omega
        · exact r
    rw [sorted_ext a2 b2 ht]
/-- What the program's Changed tells is what the document's tells. -/
theorem chg_is {n : Int} {s t : List Cel} {zs : List Int} (hms : mayB n s = true) (hmt : mayB n t = true) (hcs : ∀ c ∈ s, Can c.2) (hct : ∀ c ∈ t, Can c.2) (hp : zs.Pairwise (fun a b => a < b)) (hm : ∀ x, x ∈ zs ↔ atL s x ≠ atL t x) : zs = chgM (s.length + t.length) s t := by
  obtain ⟨rs, ss⟩ := may_parts hms hcs
  obtain ⟨rt, st⟩ := may_parts hmt hct
  obtain ⟨_, h2, h3⟩ := chgM_tells (s.length + t.length) s t (-1) (Nat.le_refl _) rs rt ss st
  exact sorted_ext hp h2 fun x => (hm x).trans (h3 x).symm
end Go.Proofs.Ytbnbbelkddbndaa
