/- The numbers held as a list: where each stands in it, what a call makes of it; tables whose things are turned one by one; no condition. -/
import Derived.Test.YtbchbappdpbkiaaFd2
namespace Go.Proofs.Ytbchbappdpbkiaa
section
variable {α β : Type}
theorem hlF_get : ∀ (a : Nat) (R : List (Option α)) (i : Nat) (p : Nat × α), (hlF a R)[i]? = some p → ∃ k, p.1 = a + k ∧ R[k]? = some (some p.2) ∧ i = cnt (R.take k)
  | a, [], i, p, h => by simp [hlF] at h
  | a, none :: t, i, p, h => by
    obtain ⟨k, h1, h2, h3⟩ := hlF_get (a + 1) t i p (by simpa [hlF] using h)
    exact ⟨k + 1, by omega, by simpa using h2, by simp only [List.take_succ_cons, cnt]; exact h3⟩
  | a, some x :: t, 0, p, h => by
    have : (a, x) = p := by simpa [hlF] using h
    subst this
    exact ⟨0, by simp, rfl, by simp [cnt]⟩
  | a, some x :: t, i + 1, p, h => by
    obtain ⟨k, h1, h2, h3⟩ := hlF_get (a + 1) t i p (by simpa [hlF] using h)
    exact ⟨k + 1, by omega, by simpa using h2, by simp only [List.take_succ_cons, cnt]; omega⟩
theorem hl_get {R : List (Option α)} {i : Nat} {p : Nat × α} (h : (hl R)[i]? = some p) : R[p.1]? = some (some p.2) ∧ i = cnt (R.take p.1) := by
  obtain ⟨k, h1, h2, h3⟩ := hlF_get 0 R i p h
  rw [show p.1 = k by omega]
  exact ⟨h2, h3⟩
theorem hl_split {R : List (Option α)} {k : Nat} (o : Option α) (hk : k < R.length) : hl (R.set k o) = hl (R.take k) ++ (hlF k [o] ++ hlF (k + 1) (R.drop (k + 1))) := by
  rw [List.set_eq_take_append_cons_drop, if_pos hk]
  unfold hl
  rw [hlF_app, List.length_take, Nat.min_eq_left (by omega), Nat.zero_add, show o :: R.drop (k + 1) = [o] ++ R.drop (k + 1) from rfl, hlF_app]
  rfl
theorem hl_of {R : List (Option α)} {k : Nat} {o : Option α} (h : R[k]? = some o) : hl R = hl (R.take k) ++ (hlF k [o] ++ hlF (k + 1) (R.drop (k + 1))) := by
  have hk := (List.getElem?_eq_some_iff.1 h).1
  have e : R.set k o = R := by
    have := (List.getElem?_eq_some_iff.1 h).2
    rw [← this]
    exact List.set_getElem_self hk
  have := hl_split o hk
  rwa [e] at this
theorem hl_at {R : List (Option α)} {k : Nat} {x : α} (h : R[k]? = some (some x)) : (hl R)[cnt (R.take k)]? = some (k, x) := by
  rw [hl_of h, List.getElem?_append_right (by rw [hl_len]; exact Nat.le_refl _), hl_len, Nat.sub_self]
  rfl
theorem hl_put {R : List (Option α)} {k : Nat} {x y : α} (h : R[k]? = some (some x)) : hl (R.set k (some y)) = (hl R).set (cnt (R.take k)) (k, y) := by
  rw [hl_split _ (List.getElem?_eq_some_iff.1 h).1, hl_of h, List.set_append_right _ _ (by rw [hl_len]; exact Nat.le_refl _), hl_len, Nat.sub_self]
  rfl
theorem hl_gone {R : List (Option α)} {k : Nat} {x : α} (h : R[k]? = some (some x)) : hl (R.set k none) = (hl R).take (cnt (R.take k)) ++ (hl R).drop (cnt (R.take k) + 1) := by
  rw [hl_split _ (List.getElem?_eq_some_iff.1 h).1, hl_of h]
  have hl0 : (hl (R.take k)).length = cnt (R.take k) := hl_len _
  rw [← hl0, List.take_left, show (hl (R.take k)).length + 1 = (hl (R.take k) ++ [(k, x)]).length by simp]
  have e : hl (R.take k) ++ (hlF k [some x] ++ hlF (k + 1) (R.drop (k + 1))) = (hl (R.take k) ++ [(k, x)]) ++ hlF (k + 1) (R.drop (k + 1)) := by
    rw [List.append_assoc]
    rfl
  rw [e, List.drop_left]
  rfl
theorem cnt_take_lf : ∀ (R : List (Option α)) (k : Nat), k ≤ lf R → cnt (R.take k) = k
  | [], k, h => by simp [lf] at h; subst h; rfl
  | none :: _, k, h => by simp [lf] at h; subst h; rfl
  | some _ :: t, 0, _ => rfl
  | some _ :: t, k + 1, h => by
    simp only [lf] at h
    simp only [List.take_succ_cons, cnt]
    rw [cnt_take_lf t k (by omega)]
theorem hl_open (R : List (Option α)) (x : α) : hl (openR R x) = (hl R).take (lf R) ++ (lf R, x) :: (hl R).drop (lf R) := by
  have hle := lf_le R
  have hc := cnt_take_lf R (lf R) (Nat.le_refl _)
  unfold openR
  by_cases e : lf R = R.length
  · rw [if_pos e]
    have hll : (hl R).length = lf R := by rw [hl_len, ← hc, e, List.take_length]
    rw [List.take_of_length_le (by omega), List.drop_of_length_le (by omega)]
    unfold hl
    rw [hlF_app, Nat.zero_add, e]
    rfl
  · rw [if_neg e, hl_split _ (by omega)]
    have h0 := hl_of (lf_free R (by omega))
    have hl0 : (hl (R.take (lf R))).length = lf R := by rw [hl_len]; exact hc
    have e1 : (hl R).take (lf R) = hl (R.take (lf R)) := by
      rw [h0]
      conv => lhs; rw [← hl0]
      rw [hl0, List.take_append_of_le_length (by omega), List.take_of_length_le (by omega)]
    have e2 : (hl R).drop (lf R) = hlF (lf R + 1) (R.drop (lf R + 1)) := by
      conv => lhs; rw [h0]
      rw [List.drop_append, List.drop_of_length_le (by omega), hl0, Nat.sub_self]
      rfl
    rw [e1, e2]
    rfl
/-- Where a number stands in the list; -1: it is not held. -/
def posV (R : List (Option α)) (fd : Int) : Int := if (getO R fd).isSome = true then (cnt (R.take fd.toNat) : Nat) else -1
theorem posV_held {R : List (Option α)} {k : Nat} {x : α} (h : R[k]? = some (some x)) : posV R (k : Int) = (cnt (R.take k) : Nat) := by
  have hg : getO R (k : Int) = some x := by
    unfold getO
    rw [if_pos (by omega), show ((k : Int)).toNat = k by omega]
    exact atR_some.2 h
  unfold posV
  rw [hg, show ((k : Int)).toNat = k by omega]
  rfl
theorem posV_not {R : List (Option α)} {fd : Int} (h : getO R fd = none) : posV R fd = -1 := by
  unfold posV
  rw [h]
  rfl
theorem pos_lt {R : List (Option α)} {k : Nat} {x : α} (h : R[k]? = some (some x)) : cnt (R.take k) < (hl R).length := (List.getElem?_eq_some_iff.1 (hl_at h)).1
/-- A table whose things are turned one by one. -/
def mapR (f : α → β) (R : List (Option α)) : List (Option β) := R.map (Option.map f)
variable (f : α → β)
theorem mapR_len (R : List (Option α)) : (mapR f R).length = R.length := by simp [mapR]
theorem lf_map : ∀ R : List (Option α), lf (mapR f R) = lf R
  | [] => rfl
  | none :: _ => rfl
  | some _ :: t => by
    have := lf_map t
    unfold mapR at this ⊢
    simp only [List.map_cons, Option.map_some, lf, this]
theorem cnt_map : ∀ R : List (Option α), cnt (mapR f R) = cnt R
  | [] => rfl
  | none :: t => by
    have := cnt_map t
    unfold mapR at this ⊢
    simp only [List.map_cons, Option.map_none, cnt, this]
  | some _ :: t => by
    have := cnt_map t
    unfold mapR at this ⊢
    simp only [List.map_cons, Option.map_some, cnt, this]
theorem atR_map (R : List (Option α)) (k : Nat) : atR (mapR f R) k = (atR R k).map f := by
  unfold atR mapR
  rw [List.getElem?_map]
  cases R[k]? with
  | none => rfl
  | some o => cases o <;> rfl
theorem getO_map (R : List (Option α)) (fd : Int) : getO (mapR f R) fd = (getO R fd).map f := by
  unfold getO
  split
  · exact atR_map f R _
  · rfl
theorem refV_map (R : List (Option α)) (fd : Int) : refV (mapR f R) fd = refV R fd := by
  unfold refV
  rw [atR_map]
  simp
theorem openR_map (R : List (Option α)) (x : α) : openR (mapR f R) (f x) = mapR f (openR R x) := by
  unfold openR
  rw [lf_map, mapR_len]
  split
  · simp [mapR]
  · simp [mapR, List.map_set]
theorem openT_map (R : List (Option α)) (m : Int) (x : α) : openT (mapR f R) m (f x) = mapR f (openT R m x) := by
  unfold openT
  rw [cnt_map]
  split
  · rfl
  · exact openR_map f R x
theorem openN_map (R : List (Option α)) (m : Int) : openN (mapR f R) m = openN R m := by unfold openN; rw [cnt_map, lf_map]
theorem openE_map (R : List (Option α)) (m : Int) : openE (mapR f R) m = openE R m := by unfold openE; rw [cnt_map]
theorem setR_map (R : List (Option α)) (fd : Int) (x : α) : setR (mapR f R) fd (f x) = mapR f (setR R fd x) := by
  unfold setR
  rw [refV_map]
  split
  · simp [mapR, List.map_set]
  · rfl
theorem closeR_map (R : List (Option α)) (fd : Int) : closeR (mapR f R) fd = mapR f (closeR R fd) := by
  unfold closeR
  rw [refV_map]
  split
  · simp [mapR, List.map_set]
  · rfl
theorem hlF_map : ∀ (a : Nat) (R : List (Option α)), hlF a (mapR f R) = (hlF a R).map (fun p => (p.1, f p.2))
  | _, [] => rfl
  | a, none :: t => by
    have := hlF_map (a + 1) t
    unfold mapR at this ⊢
    simp only [List.map_cons, Option.map_none, hlF, this]
  | a, some x :: t => by
    have := hlF_map (a + 1) t
    unfold mapR at this ⊢
    simp only [List.map_cons, Option.map_some, hlF, this]
theorem hl_map (R : List (Option α)) : hl (mapR f R) = (hl R).map (fun p => (p.1, f p.2)) := hlF_map f 0 R
end
end Go.Proofs.Ytbchbappdpbkiaa
