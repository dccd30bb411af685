/- What entries, texts and sixteen bytes that came in tell a walk; for all that can be read. -/
import Derived.Test.YtadiajcllfahiaaEn5
import Derived.ProofKit
import Derived.OpenShut
namespace Go.Proofs.Ytadiajcllfahiaa
open Go.RowKit Go.ChangeShapes Go.WideShapes
theorem cellsEn : Try.prog.cellsOf 24 = 2 := by kernel_rfl
theorem cells16 : Try.prog.cellsOf 25 = 16 := by kernel_rfl
theorem cellsU : Try.prog.cellsOf 22 = 1 := by kernel_rfl
theorem cellsS : Try.prog.cellsOf 9 = 1 := by kernel_rfl
theorem cells5 : Try.prog.cellsOf 5 = 1 := by kernel_rfl
section
variable {H : Type} {enc : TypeId × Value → H} {w w1 : World} {base : Nat} {sp : Nat → Bool} {held : Bool} {r : Reach} {b0 : Nat} {v : Value} {d : DataW H} {p : List MemPlace}
theorem array2 {α : Type} {cs : Array α} (h : cs.size = 2) : ∃ c0 c1, cs = #[c0, c1] := by
  obtain ⟨l⟩ := cs
  match l, h with
  | [c0, c1], _ => exact ⟨c0, c1, rfl⟩
theorem open_ent (hv : Value.okWide Try.prog w r b0 24 v) (h : DataW.Trod enc Try.prog w1 base sp held 24 v d p) :
    ∃ (i : Int) (s : ByteArray), (0 ≤ i ∧ i < 65536) ∧ s.size ≤ 9223372036854775807 ∧ v = .agg #[.int .u16 i, .string s] := by
  obtain ⟨cs, rfl, hsz⟩ := okWide_struct Try.underlying24 hv
  rw [cellsEn] at hsz
  obtain ⟨c0, c1, rfl⟩ := array2 hsz
  obtain ⟨fuel, hf⟩ := h
  obtain ⟨xs, m, rfl, _, _, hl, hx⟩ := DataW.trod_struct Try.underlying24 hf
  match xs, hl with
  | [y0, y1], _ =>
    have h0 := hx 0 _ rfl
    have h1 := hx 1 _ rfl
    simp [Value.cells, cellsU, cellsS] at h0 h1
    obtain ⟨i, e0, _, hw⟩ := DataW.trod_int Try.underlying22 h0
    obtain ⟨s, e1, _, hs⟩ := DataW.trod_string Try.underlying9 h1
    simp at e0 e1
    refine ⟨i, s, ?_, by unfold maxLen at hs; omega, by rw [e0, e1]⟩
    have := bounds_u16 hw
    omega
theorem open_str (hv : Value.okWide Try.prog w r b0 9 v) (h : DataW.Trod enc Try.prog w1 base sp held 9 v d p) : ∃ s : ByteArray, s.size ≤ 9223372036854775807 ∧ v = .string s := by
  obtain ⟨s, rfl⟩ := okWide_string Try.underlying9 hv
  obtain ⟨fuel, hf⟩ := h
  obtain ⟨s', e1, _, hs⟩ := DataW.trod_string Try.underlying9 hf
  simp [Value.cells] at e1
  subst e1
  exact ⟨s, by unfold maxLen at hs; omega, rfl⟩
theorem okWide_array {n : Nat} {e t : TypeId} (ht : Try.prog.underlying t = some (.array n e)) (h : Value.okWide Try.prog w r b0 t v) : ∃ cs, v = .agg cs ∧ cs.size = Try.prog.cellsOf t := by
  unfold Value.okWide at h
  rw [ht] at h
  obtain ⟨cs, h1, h2, _⟩ := h
  exact ⟨cs, h1, h2⟩
theorem open_16 (hv : Value.okWide Try.prog w r b0 25 v) (h : DataW.Trod enc Try.prog w1 base sp held 25 v d p) : ∃ f, Byt16 f ∧ v = .agg (rowN .u8 f 16) := by
  obtain ⟨cs, rfl, hsz⟩ := okWide_array Try.underlying25 hv
  rw [cells16] at hsz
  obtain ⟨fuel, hf⟩ := h
  obtain ⟨xs, m, rfl, _, _, hl, hx⟩ := DataW.trod_array Try.underlying25 hf
  have hc : ∀ i, i < 16 → ∃ z : Int, (0 ≤ z ∧ z ≤ 255) ∧ cs[i]? = some (.int .u8 z) := by
    intro i hi
    have h1 := hx i hi
    rw [cells5, Nat.mul_one] at h1
    have hi' : i < xs.length := by omega
    rw [List.getElem?_eq_getElem hi'] at h1
    obtain ⟨z, hz, _, hw⟩ := DataW.trod_int Try.underlying5 h1
    refine ⟨z, bounds_u8 hw, ?_⟩
    have := congrArg (·[0]?) hz
    simpa [List.getElem?_take, List.getElem?_drop, Value.cells] using this
  have key : ∃ f : Nat → Int, ∀ i, i < 16 → (0 ≤ f i ∧ f i ≤ 255) ∧ cs[i]? = some (.int .u8 (f i)) :=
    ⟨fun i => if h : i < 16 then (hc i h).choose else 0, fun i hi => by
      simp only [hi, dif_pos]
      exact (hc i hi).choose_spec⟩
  obtain ⟨f, hf⟩ := key
  exact ⟨f, fun i hi => (hf i hi).1, by rw [rowN_ext hsz fun i hi => (hf i hi).2]⟩
end
end Go.Proofs.Ytadiajcllfahiaa
