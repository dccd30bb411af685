/- What a slice of bytes that came in tells a walk; for every slice that can be read. -/
import Derived.Test.YtedbgeibhaiheaaBlock
import Derived.ProofKit
import Derived.OpenShut
namespace Go.Proofs.Ytedbgeibhaiheaa
open Go.RowKit Go.ChangeShapes Go.WideShapes

/-- The slice is nil, or it leads to a row of cap cells, the numbers zs, each fitting its kind; the first len are its elements. -/
def IsRow (k : IntKind) (w : World) (a : Option Addr) (len cap : Nat) (zs : List Int) : Prop :=
  (a = none ∧ len = 0 ∧ cap = 0 ∧ zs = []) ∨
  ∃ x, a = some x ∧ len ≤ cap ∧ cap ≤ maxLen ∧ zs.length = cap ∧ (∀ i, i < zs.length → w.cell? (x.add i) = some (.int k (zs.getD i 0))) ∧ ∀ n ∈ zs, (Lit.int k n).wf = true

theorem lies_of {w : World} {a : Option Addr} {len cap : Nat} {zs : List Int} (h : IsRow .u8 w a len cap zs) : Lies w (.slice a len cap) len (fun i => zs.getD i 0) := by
  rcases h with ⟨rfl, rfl, rfl, rfl⟩ | ⟨x, rfl, hl, hm, hz, hc, _⟩
  · exact .inl ⟨_, _, rfl, rfl, fun _ => rfl⟩
  · by_cases h0 : len = 0
    · subst h0; exact .inl ⟨_, _, rfl, rfl, fun h => by cases h⟩
    · obtain ⟨b, off, rfl, hj⟩ := ints_at hc (by omega)
      have h1 := hj 0 (by omega)
      exact .inr ⟨b, off, cap, rfl, by omega, hl, block_lt_of_cell h1, fun i hi => hj i (by omega)⟩
theorem bytes_of {w : World} {a : Option Addr} {len cap : Nat} {zs : List Int} (h : IsRow .u8 w a len cap zs) : ∀ i, 0 ≤ zs.getD i 0 ∧ zs.getD i 0 ≤ 255 := by
  have hz : ∀ n ∈ zs, (Lit.int .u8 n).wf = true := by
    rcases h with ⟨_, _, _, rfl⟩ | ⟨_, _, _, _, _, _, hw⟩
    · simp
    · exact hw
  intro i
  by_cases hi : i < zs.length
  · have := hz (zs.getD i 0) (by simp [hi])
    exact bounds_u8 this
  · simp [List.getElem?_eq_none (Nat.le_of_not_lt hi)]
theorem len_le {k : IntKind} {w : World} {a : Option Addr} {len cap m : Nat} {zs : List Int} (h : IsRow k w a len cap zs) (hm : cap ≤ m) : len ≤ m := by
  rcases h with ⟨_, rfl, _, _⟩ | ⟨_, _, hl, _⟩
  · omega
  · omega
end Go.Proofs.Ytedbgeibhaiheaa
