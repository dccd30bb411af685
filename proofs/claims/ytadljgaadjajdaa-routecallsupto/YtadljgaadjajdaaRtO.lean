/- Texts and lists of texts as they came in; no condition. -/
import Derived.Test.YtadljgaadjajdaaTx
import Derived.ProofKit
import Derived.OpenShut
import Derived.ChangeOld
import Derived.SliceStrings
namespace Go.Proofs.Ytadljgaadjajdaa
open Go.RowKit Go.WideShapes Go.ChangeShapes
section
variable {H : Type} {enc : TypeId × Value → H} {w w1 : World} {base : Nat} {sp : Nat → Bool} {held : Bool} {r : Reach} {b0 : Nat} {v : Value} {d : DataW H} {p : List MemPlace}
theorem open_str (hv : Value.okWide Try.prog w r b0 9 v) (h : DataW.Trod enc Try.prog w1 base sp held 9 v d p) : ∃ s : ByteArray, s.size ≤ 9223372036854775807 ∧ v = .string s ∧ d = .lit (.string s.data.toList) := by
  obtain ⟨s, rfl⟩ := okWide_string Try.underlying9 hv
  obtain ⟨fuel, hf⟩ := h
  obtain ⟨s', e1, e2, hs⟩ := DataW.trod_string Try.underlying9 hf
  simp [Value.cells] at e1
  subst e1
  exact ⟨s, by unfold maxLen at hs; omega, rfl, congrArg Prod.fst e2⟩
end
theorem strs_at {w : World} {a : Addr} {ss : List ByteArray} (h : ∀ i, i < ss.length → w.cell? (a.add i) = some (.string (ss.getD i ByteArray.empty))) (hp : 0 < ss.length) :
    ∃ b off, a = ⟨b, off, none⟩ ∧ ∀ j, j < ss.length → w.cell? ⟨b, off + j, none⟩ = some (.string (ss.getD j ByteArray.empty)) := by
  obtain ⟨b, off, spot⟩ := a
  have hspot : spot = none := by simpa [Addr.add] using World.cell?_spot (h 0 hp)
  subst hspot
  exact ⟨b, off, rfl, fun j hj => by rw [← Go.WideShapes.add_plain]; exact h j hj⟩
/-- A list of texts that came in. -/
theorem open_txs {H : Type} {enc : TypeId × Value → H} {w : World} {base : Nat} {sp : Nat → Bool} {held : Bool} {r : Reach} {b0 : Nat} {v : Value} {d : DataW H} {p : List MemPlace} (hv : Value.okWide Try.prog w r b0 22 v) (h : DataW.Trod enc Try.prog w base sp held 22 v d p) :
    ∃ (l : List ByteArray) (q : Option Addr) (n c : Nat) (rest : List (DataW H)), v = .slice q n c ∧ l.length = n ∧ n ≤ 9223372036854775807 ∧ (q = none → c = 0) ∧ TxAt w q l ∧ (∀ x ∈ l, x.size ≤ 9223372036854775807) ∧ (d = .nil ∧ l = [] ∨ d = .slice (strs l) rest) := by
  obtain ⟨a0, len, cap, rfl⟩ := okWide_slice Try.underlying22 hv
  obtain ⟨fuel, hf⟩ := h
  rcases open_strings Try.underlying22 Try.underlying9 (by kernel_rfl) hf with ⟨hcs, hd⟩ | ⟨x, l, c, ss, hcs, _, hl, hm, hz, hx, hcell, hws⟩
  · simp [Value.cells] at hcs
    obtain ⟨rfl, rfl, rfl⟩ := hcs
    exact ⟨[], none, 0, 0, [], rfl, rfl, by omega, fun _ => rfl, fun q => absurd q (by simp), fun x hx => absurd hx (by simp), .inl ⟨congrArg Prod.fst hd, rfl⟩⟩
  · simp [Value.cells] at hcs
    obtain ⟨rfl, rfl, rfl⟩ := hcs
    have hzl : len ≤ ss.length := by rw [hz]; split <;> omega
    have e : (ss.take len).length = len := by rw [List.length_take]; omega
    unfold maxLen at hm
    refine ⟨ss.take len, some x, len, cap, _, rfl, e, by omega, fun q => (by cases q), fun h0 => ?_, fun y hy => ?_, .inr (congrArg Prod.fst hx)⟩
    · obtain ⟨b, off, rfl, hj⟩ := strs_at hcell (by omega)
      refine ⟨b, off, rfl, block_lt_of_cell (hj 0 (by omega)), fun j y hy => ?_⟩
      have hjl : j < len := by have := (List.getElem?_eq_some_iff.1 hy).1; omega
      have h1 := hj j (by omega)
      rw [List.getElem?_take, if_pos hjl] at hy
      rw [h1, List.getD_eq_getElem?_getD, hy]
      rfl
    · have := hws y (List.mem_of_mem_take hy)
      unfold maxLen at this
      omega
end Go.Proofs.Ytadljgaadjajdaa
