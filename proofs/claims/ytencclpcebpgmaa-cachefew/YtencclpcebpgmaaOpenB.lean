/- A slice of bytes as it came in; no condition. -/
import Derived.Test.YtencclpcebpgmaaLawFew
import Derived.ProofKit
namespace Go.Proofs.Ytencclpcebpgmaa
open Go.RowKit Go.WideShapes Go.ChangeShapes
def IsRow (k : IntKind) (w : World) (a : Option Addr) (len cap : Nat) (zs : List Int) : Prop :=
  (a = none ∧ len = 0 ∧ cap = 0 ∧ zs = []) ∨
  ∃ x, a = some x ∧ len ≤ cap ∧ cap ≤ maxLen ∧ zs.length = cap ∧ (∀ i, i < zs.length → w.cell? (x.add i) = some (.int k (zs.getD i 0))) ∧ ∀ n ∈ zs, (Lit.int k n).wf = true

theorem bytes_of {w : World} {a : Option Addr} {len cap : Nat} {zs : List Int} (h : IsRow .u8 w a len cap zs) : ∀ i, 0 ≤ zs.getD i 0 ∧ zs.getD i 0 ≤ 255 := by
  have hz : ∀ n ∈ zs, (Lit.int .u8 n).wf = true := by
    rcases h with ⟨_, _, _, rfl⟩ | ⟨_, _, _, _, _, _, hw⟩
    · simp
    · exact hw
  intro i
  by_cases hi : i < zs.length
  · have := hz (zs.getD i 0) (by simp [hi])
    exact bounds_u8 this
  · simp [List.getElem?_eq_none (Nat.le_of_not_lt hi)]
theorem len_le {k : IntKind} {w : World} {a : Option Addr} {len cap m : Nat} {zs : List Int} (h : IsRow k w a len cap zs) (hm : cap ≤ m) : len ≤ m := by
  rcases h with ⟨_, rfl, _, _⟩ | ⟨_, _, hl, _⟩
  · omega
  · omega

theorem bytesAt_of {w : World} {a : Option Addr} {len cap : Nat} {zs : List Int} (h : IsRow .u8 w a len cap zs) : BytesAt w a len (fun i => zs.getD i 0) := by
  have hb := bytes_of h
  intro i hi
  rcases h with ⟨rfl, rfl, rfl, rfl⟩ | ⟨x, rfl, hl, hm, hz, hc, _⟩
  · omega
  · obtain ⟨b, off, rfl, hj⟩ := ints_at hc (by omega)
    have h1 := hj i (by omega)
    exact ⟨b, off, rfl, block_lt_of_cell h1, h1, hb i⟩
end Go.Proofs.Ytencclpcebpgmaa
