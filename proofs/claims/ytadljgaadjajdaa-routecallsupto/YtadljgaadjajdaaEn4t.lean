/- The text that stands in a name's fourteen bytes. -/
import Derived.Test.YtadljgaadjajdaaEn1
import Derived.Laws.IdiomStrings
import Derived.Deep.Cut
namespace Go.Proofs.Ytadljgaadjajdaa
open Go.RowKit Go.Maps
/-- How many of the first m stand ahead of the first nought. -/
def upto (g : Nat → Int) : Nat → Nat
  | 0 => 0
  | m + 1 => if upto g m = m ∧ ¬ g m = 0 then m + 1 else upto g m
theorem upto_le (g : Nat → Int) : ∀ m, upto g m ≤ m
  | 0 => Nat.le_refl _
  | m + 1 => by
    have := upto_le g m
    unfold upto
    split <;> omega
theorem upto_some (g : Nat → Int) : ∀ m k, k < upto g m → ¬ g k = 0
  | 0, k, h => absurd h (Nat.not_lt_zero k)
  | m + 1, k, h => by
    unfold upto at h
    split at h
    · rename_i q
      by_cases e : k = m
      · subst e; exact q.2
      · exact upto_some g m k (by omega)
    · exact upto_some g m k h
theorem upto_end (g : Nat → Int) : ∀ m, upto g m < m → g (upto g m) = 0
  | 0, h => absurd h (Nat.not_lt_zero _)
  | m + 1, h => by
    unfold upto at h ⊢
    split at h
    · omega
    · rename_i q
      rw [if_neg q]
      by_cases e : upto g m = m
      · rw [e]
        by_cases e2 : g m = 0
        · exact e2
        · exact absurd ⟨e, e2⟩ q
      · exact upto_end g m (by have := upto_le g m; omega)
theorem upto_is (g : Nat → Int) (m k : Nat) (hk : k ≤ m) (h1 : ∀ j, j < k → ¬ g j = 0) (h2 : k < m → g k = 0) : upto g m = k := by
  have a := upto_le g m
  rcases Nat.lt_trichotomy (upto g m) k with h | h | h
  · exact absurd (upto_end g m (by omega)) (h1 _ h)
  · exact h
  · exact absurd (h2 (by omega)) (upto_some g m k h)
def toB (x : Int) : UInt8 := UInt8.ofNat x.toNat
theorem toB_nat {x : Int} (h : 0 ≤ x ∧ x ≤ 255) : (((toB x).toNat : Nat) : Int) = x := by
  unfold toB
  rw [UInt8.toNat_ofNat', Nat.mod_eq_of_lt (by omega)]
  omega
/-- The first n bytes as a text. -/
def txt (g : Nat → Int) (n : Nat) : ByteArray := ⟨((List.range n).map fun k => toB (g k)).toArray⟩
theorem txt_size (g : Nat → Int) (n : Nat) : (txt g n).size = n := by
  show ((List.range n).map fun k => toB (g k)).toArray.size = n
  simp
theorem txt_zero (g : Nat → Int) : txt g 0 = ⟨#[]⟩ := rfl
theorem txt_byt (g : Nat → Int) (n k : Nat) (hk : k < n) (hg : 0 ≤ g k ∧ g k ≤ 255) : byt (txt g n) k = g k := by
  unfold byt
  rw [dif_pos (by rw [txt_size]; exact hk)]
  have e : (txt g n)[k]'(by rw [txt_size]; exact hk) = toB (g k) := by
    have h : (txt g n).data[k]? = some (toB (g k)) := by unfold txt; simp [hk]
    exact (Array.getElem?_eq_some_iff.1 h).2
  rw [e]
  exact toB_nat hg
theorem txt_step (g : Nat → Int) (k : Nat) : txt g k ++ ⟨[toB (g k)].toArray⟩ = txt g (k + 1) := by
  apply ByteArray.ext
  rw [ByteArray.data_append]
  unfold txt
  simp [List.range_succ]
theorem txt_congr {g h : Nat → Int} {n : Nat} (e : ∀ k, k < n → g k = h k) : txt g n = txt h n := by
  unfold txt
  congr 2
  exact List.map_congr_left fun k hk => by rw [e k (List.mem_range.1 hk)]
end Go.Proofs.Ytadljgaadjajdaa
