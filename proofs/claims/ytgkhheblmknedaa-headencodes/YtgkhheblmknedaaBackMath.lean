/- Headers there and back; plain. -/
import Derived.Test.YtgkhheblmknedaaRight
import Derived.Test.YtgkhheblmknedaaBlank
namespace Go.Proofs.Ytgkhheblmknedaa
open Go.RowKit
theorem allU_cons {T : List Int} (h : AllU T) (hl : T.length ≤ 255) : AllU ((T.length : Int) :: T) := fun x hx => by
  rcases List.mem_cons.1 hx with rfl | hx
  · exact ⟨by omega, by omega⟩
  · exact h x hx
theorem head_first {T : List Int} (h : AllU T) (hl : T.length ≤ 255) : numN (headF T) 0 4 = T.length := wordF_read _ (allU_cons h hl) 0
theorem head_nil : headF [] = nought := by
  funext j
  unfold headF wordF nought
  show ([0] : List Int).getD (j / 4) 0 / 256 ^ (j % 4) % 256 = 0
  rw [show ([0] : List Int).getD (j / 4) 0 = 0 by cases j / 4 <;> simp]
  simp
theorem head_same {T T' : List Int} (h : AllU T) (hl : T.length ≤ 255) (h' : AllU T') (hl' : T'.length ≤ 255) (hne : T.length ≠ T'.length) : sameB (headF T) (headF T') = false := by
  cases hs : sameB (headF T) (headF T')
  · rfl
  · have e := (sameB_iff _ _).1 hs
    have a := head_first h hl
    have b := head_first h' hl'
    rw [num4, e 0 (by omega), e (0 + 1) (by omega), e (0 + 2) (by omega), e (0 + 3) (by omega), ← num4, b] at a
    omega
theorem head_blank {T : List Int} (h : AllU T) (hl : T.length ≤ 255) : sameB (headF T) nought = decide (T.length = 0) := by
  by_cases h0 : T.length = 0
  · rw [List.length_eq_zero_iff.1 h0, head_nil, sameB_self]; rfl
  · rw [← head_nil, head_same h hl (fun x hx => by cases hx) (by simp) (by simpa using h0), decide_eq_false h0]
theorem MayP.pre {lo hi m : Int} {T : List Int} (h : MayP lo hi m T) (k : Nat) : MayP lo hi m (T.take k) :=
  ⟨by have := h.1; rw [List.length_take]; omega, fun t ht => h.2.1 t (List.mem_of_mem_take ht), h.2.2.sublist (List.take_sublist k T)⟩
theorem tgts_zero (f : Nat → Int) : tgts f 0 = [] := rfl
theorem ints_pre {W : World} {p : Option Addr} {T : List Int} (h : IntsAt W p T) (k : Nat) : IntsAt W p (T.take k) := fun h0 => by
  rw [List.length_take] at h0
  obtain ⟨b, off, h1, h2, h3⟩ := h (by omega)
  refine ⟨b, off, h1, h2, fun j x hx => h3 j x ?_⟩
  rw [List.getElem?_take] at hx
  split at hx
  · exact hx
  · cases hx
theorem fine_more {b l i : Int} (h : Fine b l i) : l + 4 ≤ b ∧ b ≤ 1048576 ∧ 32 ≤ l ∧ l ≤ 256 := by
  obtain ⟨h1, h2, h3, h4, h5, h6⟩ := h
  unfold dataAt bitsAt nodeB bitsB at h6
  refine ⟨?_, h5, h1, h2⟩
  omega
end Go.Proofs.Ytgkhheblmknedaa
