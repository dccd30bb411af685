/- Slices of numbers as they came in; no condition. -/
import Derived.Test.YtcimehjcajdfiaaInts
import Derived.ProofKit
import Derived.OpenShut
import Derived.ChangeOld
namespace Go.Proofs.Ytcimehjcajdfiaa
open Go.RowKit Go.WideShapes Go.ChangeShapes
def IsRow (k : IntKind) (w : World) (a : Option Addr) (len cap : Nat) (zs : List Int) : Prop :=
  (a = none ∧ len = 0 ∧ cap = 0 ∧ zs = []) ∨
  ∃ x, a = some x ∧ len ≤ cap ∧ cap ≤ maxLen ∧ zs.length = cap ∧ (∀ i, i < zs.length → w.cell? (x.add i) = some (.int k (zs.getD i 0))) ∧ ∀ n ∈ zs, (Lit.int k n).wf = true
theorem len_le {k : IntKind} {w : World} {a : Option Addr} {len cap m : Nat} {zs : List Int} (h : IsRow k w a len cap zs) (hm : cap ≤ m) : len ≤ m := by
  rcases h with ⟨_, rfl, _, _⟩ | ⟨_, _, hl, _⟩
  · omega
  · omega
theorem none_cap {k : IntKind} {w : World} {a : Option Addr} {len cap : Nat} {zs : List Int} (h : IsRow k w a len cap zs) : a = none → cap = 0 := by
  rcases h with ⟨_, _, rfl, _⟩ | ⟨x, rfl, _⟩
  · exact fun _ => rfl
  · intro q; cases q
theorem row_at {k : IntKind} {w : World} {a : Option Addr} {len cap : Nat} {zs : List Int} (h : IsRow k w a len cap zs) : (zs.take len).length = len ∧ (0 < (zs.take len).length → ∃ b off, a = some ⟨b, off, none⟩ ∧ b < w.heap.size ∧ ∀ j x, (zs.take len)[j]? = some x → w.cell? ⟨b, off + j, none⟩ = some (.int k x)) ∧ ∀ n ∈ zs.take len, (Lit.int k n).wf = true := by
  rcases h with ⟨rfl, rfl, rfl, rfl⟩ | ⟨x, rfl, hl, hm, hz, hc, hw⟩
  · exact ⟨by simp, fun h => by simp at h, fun n hn => by simp at hn⟩
  · have e : (zs.take len).length = len := by rw [List.length_take]; omega
    refine ⟨e, fun h0 => ?_, fun n hn => hw n (List.mem_of_mem_take hn)⟩
    obtain ⟨b, off, rfl, hj⟩ := ints_at hc (by omega)
    refine ⟨b, off, rfl, block_lt_of_cell (hj 0 (by omega)), fun j y hy => ?_⟩
    have hjl : j < len := by have := (List.getElem?_eq_some_iff.1 hy).1; omega
    have h1 := hj j (by omega)
    rw [List.getElem?_take, if_pos hjl] at hy
    rw [h1, List.getD_eq_getElem?_getD, hy]
    rfl
end Go.Proofs.Ytcimehjcajdfiaa
