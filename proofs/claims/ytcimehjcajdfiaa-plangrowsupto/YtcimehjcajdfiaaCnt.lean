/- How many unlike numbers stand in a list, reckoned place by place; what indices cost, and what one more costs; no condition. -/
import Derived.Test.YtcimehjcajdfiaaTotal
namespace Go.Proofs.Ytcimehjcajdfiaa
open Go.RowKit Go.Maps
def cn (p : Nat → Bool) : Nat → Nat
  | 0 => 0
  | n + 1 => cn p n + (if p n then 1 else 0)
theorem cn_congr {p q : Nat → Bool} : ∀ n, (∀ j, j < n → p j = q j) → cn p n = cn q n
  | 0, _ => rfl
  | n + 1, h => by rw [cn, cn, cn_congr n (fun j hj => h j (by omega)), h n (by omega)]
theorem cn_add (p : Nat → Bool) (m : Nat) : ∀ n, cn p (m + n) = cn p m + cn (fun j => p (m + j)) n
  | 0 => rfl
  | n + 1 => by rw [show m + (n + 1) = (m + n) + 1 by omega, cn, cn, cn_add p m n]; omega
theorem cn_le {p q : Nat → Bool} : ∀ n, (∀ j, j < n → p j = true → q j = true) → cn p n ≤ cn q n
  | 0, _ => Nat.le_refl _
  | n + 1, h => by
    have ih := cn_le n (fun j hj => h j (by omega))
    have := h n (by omega)
    rw [cn, cn]
    cases hp : p n
    · cases q n <;> simp <;> omega
    · rw [this hp]
      simp
      exact ih
theorem cn_lt {p q : Nat → Bool} {x : Nat} (hp : p x = false) (hq : q x = true) : ∀ n, x < n → (∀ j, j < n → p j = true → q j = true) → cn p n < cn q n
  | 0, hx, _ => by omega
  | n + 1, hx, h => by
    rw [cn, cn]
    by_cases e : x = n
    · subst e
      have := cn_le x (fun j hj => h j (by omega))
      rw [hp, hq]
      simp
      omega
    · have ih := cn_lt hp hq n (by omega) (fun j hj => h j (by omega))
      have := h n (by omega)
      cases hpn : p n
      · cases q n <;> simp <;> omega
      · rw [this hpn]
        simp
        exact ih
theorem cn_one {p q : Nat → Bool} (x : Nat) (h : ∀ j, j ≠ x → q j = p j) (hq : q x = true) (hp : p x = false) : ∀ n, cn q n = cn p n + (if x < n then 1 else 0)
  | 0 => rfl
  | n + 1 => by
    rw [cn, cn, cn_one x h hq hp n]
    by_cases e : x = n
    · subst e
      rw [hq, hp]
      simp
    · rw [h n (fun q => e q.symm)]
      by_cases e2 : x < n
      · have e3 : x < n + 1 := by omega
        simp only [e2, e3, if_true]
        omega
      · have e3 : ¬ x < n + 1 := by omega
        simp only [e2, e3, if_false]
        omega
theorem cn_bound (p : Nat → Bool) : ∀ n, cn p n ≤ n
  | 0 => Nat.le_refl _
  | n + 1 => by rw [cn]; have := cn_bound p n; split <;> omega
def inK (K : List Int) (j : Nat) : Bool := K.contains (j : Int)
theorem inK_iff (K : List Int) (j : Nat) : inK K j = true ↔ (j : Int) ∈ K := by unfold inK; exact List.contains_iff_mem
theorem inK_false (K : List Int) (j : Nat) : inK K j = false ↔ (j : Int) ∉ K := by
  rw [← inK_iff]
  cases inK K j <;> simp
def cnt (K : List Int) : Nat := cn (inK K) 66060
abbrev Keys (K : List Int) : Prop := ∀ x ∈ K, 0 ≤ x ∧ x < 66060
theorem cnt_snoc (K : List Int) (x : Int) (hx : 0 ≤ x ∧ x < 66060) : cnt (K ++ [x]) = if K.contains x then cnt K else cnt K + 1 := by
  obtain ⟨j, rfl⟩ : ∃ j : Nat, x = j := ⟨x.toNat, by omega⟩
  unfold cnt
  by_cases h : K.contains (j : Int) = true
  · rw [if_pos h]
    refine cn_congr _ fun i _ => ?_
    rw [Bool.eq_iff_iff, inK_iff, inK_iff, List.mem_append, List.mem_singleton]
    constructor
    · rintro (q | q)
      · exact q
      · rw [q]; exact List.contains_iff_mem.1 h
    · exact .inl
  · have h1 : ∀ i, i ≠ j → inK (K ++ [(j : Int)]) i = inK K i := fun i hi => by
      rw [Bool.eq_iff_iff, inK_iff, inK_iff, List.mem_append, List.mem_singleton]
      constructor
      · rintro (q | q)
        · exact q
        · exact absurd (by omega) hi
      · exact .inl
    have h2 : inK (K ++ [(j : Int)]) j = true := by rw [inK_iff]; simp
    have h3 : inK K j = false := Bool.eq_false_iff.2 h
    rw [if_neg h, cn_one j h1 h2 h3 66060, if_pos (by omega)]
theorem tidy_Sd (K : List Int) : Tidy (Sd K) := tidy_setOf _ _ fun x hx => by
  obtain ⟨y, _, rfl⟩ := List.mem_map.1 hx
  trivial
theorem size_Sd (K : List Int) (h : Keys K) : ∀ n, n ≤ K.length → Maps.size (Sd (K.take n)) = cnt (K.take n)
  | 0, _ => by
    have e : ∀ n, cn (inK []) n = 0 := fun n => by
      induction n with
      | zero => rfl
      | succ n ih => rw [cn, ih]; rfl
    rw [List.take_zero]
    unfold cnt
    rw [e]
    rfl
  | n + 1, hn => by
    have hx : K[n]? = some K[n] := List.getElem?_eq_getElem (by omega)
    have htk : K.take (n + 1) = K.take n ++ [K[n]] := by rw [List.take_add_one, hx]; rfl
    rw [htk, cnt_snoc _ _ (h _ (List.getElem_mem _)), Sd_snoc, size_put (tidy_Sd _), has_Sd, size_Sd K h n (by omega)]
theorem size_cnt (K : List Int) (h : Keys K) : Maps.size (Sd K) = cnt K := by
  have := size_Sd K h K.length (Nat.le_refl _)
  rwa [List.take_length] at this
theorem kOf_keys (x : Int) : Keys (kOf x) := by
  intro k hk
  unfold kOf at hk
  split at hk
  · cases hk
  · split at hk
    · simp at hk; omega
    · split at hk
      · simp at hk; omega
      · simp at hk; omega
theorem keysL_keys (zs : List Int) : Keys (keysL zs) := by
  intro k hk
  obtain ⟨x, _, hx⟩ := List.mem_flatMap.1 hk
  exact kOf_keys x k hx
/-- What is below 65802 among an index's blocks is the index. -/
theorem kOf_low {x k : Int} (hk : k ∈ kOf x) (h : k < 65802) : k = x := by
  unfold kOf at hk
  split at hk
  · cases hk
  · split at hk
    · simpa using hk
    · split at hk
      · simp at hk; omega
      · simp at hk; omega
theorem kOf_self {x : Int} (h0 : 0 ≤ x) (h1 : x < 65802) : x ∈ kOf x := by
  unfold kOf
  rw [if_neg (by omega)]
  split
  · simp
  · split <;> simp
theorem keysL_low {zs : List Int} {x : Int} (hx : x ∈ keysL zs) (h : x < 65802) : x ∈ zs := by
  obtain ⟨y, hy, hk⟩ := List.mem_flatMap.1 hx
  rw [kOf_low hk h]
  exact hy
theorem keysL_of_mem {zs : List Int} {x : Int} (hx : x ∈ zs) : ∀ k ∈ kOf x, k ∈ keysL zs := fun _ hk => List.mem_flatMap.2 ⟨x, hx, hk⟩
theorem cnt_congr {K L : List Int} (h : ∀ x, x ∈ K ↔ x ∈ L) : cnt K = cnt L := cn_congr _ fun j _ => by rw [Bool.eq_iff_iff, inK_iff, inK_iff]; exact h j
theorem cnt_sub {K L : List Int} (h : ∀ x, x ∈ K → x ∈ L) : cnt K ≤ cnt L := cn_le _ fun j _ hj => (inK_iff L j).2 (h j ((inK_iff K j).1 hj))
theorem cnt_append_le (K : List Int) : ∀ ts : List Int, Keys ts → cnt (K ++ ts) ≤ cnt K + ts.length := fun ts => by
  suffices h : ∀ n, n ≤ ts.length → Keys ts → cnt (K ++ ts.take n) ≤ cnt K + n by
    intro hk
    have := h ts.length (Nat.le_refl _) hk
    rwa [List.take_length] at this
  intro n
  induction n with
  | zero => intro _ _; simp
  | succ n ih =>
    intro hn hk
    have hx : ts[n]? = some ts[n] := List.getElem?_eq_getElem (by omega)
    have htk : ts.take (n + 1) = ts.take n ++ [ts[n]] := by rw [List.take_add_one, hx]; rfl
    rw [htk, ← List.append_assoc, cnt_snoc _ _ (hk _ (List.getElem_mem _))]
    have := ih (by omega) hk
    split <;> omega
theorem cnt_bound (K : List Int) : cnt K ≤ 66060 := cn_bound _ _
end Go.Proofs.Ytcimehjcajdfiaa
