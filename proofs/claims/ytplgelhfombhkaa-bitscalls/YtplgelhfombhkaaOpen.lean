/- What a block and a question that came in tell a walk; for every two that can be read. -/
import Derived.Test.YtplgelhfombhkaaLawSet
import Derived.ProofKit
import Derived.OpenShut
namespace Go.Proofs.Ytplgelhfombhkaa
open Go.RowKit Go.ChangeShapes Go.WideShapes

theorem cells23 : Try.prog.cellsOf 23 = 1024 := by kernel_rfl
theorem cells5 : Try.prog.cellsOf 5 = 1 := by kernel_rfl
theorem cells25 : Try.prog.cellsOf 25 = 6 := by kernel_rfl
theorem cells3 : Try.prog.cellsOf 3 = 1 := by kernel_rfl
theorem cells4 : Try.prog.cellsOf 4 = 1 := by kernel_rfl

section
variable {H : Type} {enc : TypeId × Value → H} {w w1 : World} {base : Nat} {sp : Nat → Bool} {held : Bool} {r : Reach} {b0 : Nat} {v : Value} {d : DataW H} {p : List MemPlace}
theorem okWide_array {n : Nat} {e t : TypeId} (ht : Try.prog.underlying t = some (.array n e)) (h : Value.okWide Try.prog w r b0 t v) : ∃ cs, v = .agg cs ∧ cs.size = Try.prog.cellsOf t := by
  unfold Value.okWide at h
  rw [ht] at h
  obtain ⟨cs, h1, h2, _⟩ := h
  exact ⟨cs, h1, h2⟩
theorem open_blk (hv : Value.okWide Try.prog w r b0 23 v) (h : DataW.Trod enc Try.prog w1 base sp held 23 v d p) : ∃ f, Byte f ∧ v = .agg (blk f) := by
  obtain ⟨cs, rfl, hsz⟩ := okWide_array Try.underlying23 hv
  rw [cells23] at hsz
  obtain ⟨fuel, hf⟩ := h
  obtain ⟨xs, m, rfl, _, _, hl, hx⟩ := DataW.trod_array Try.underlying23 hf
  have hc : ∀ i, i < 1024 → ∃ z : Int, (0 ≤ z ∧ z ≤ 255) ∧ cs[i]? = some (.int .u8 z) := by
    intro i hi
    have h1 := hx i hi
    rw [cells5, Nat.mul_one] at h1
    have hi' : i < xs.length := by omega
    rw [List.getElem?_eq_getElem hi'] at h1
    obtain ⟨z, hz, _, hw⟩ := DataW.trod_int Try.underlying5 h1
    refine ⟨z, bounds_u8 hw, ?_⟩
    have := congrArg (·[0]?) hz
    simpa [List.getElem?_take, List.getElem?_drop, Value.cells] using this
  have key : ∃ f : Nat → Int, ∀ i, i < 1024 → (0 ≤ f i ∧ f i ≤ 255) ∧ cs[i]? = some (.int .u8 (f i)) :=
    ⟨fun i => if h : i < 1024 then (hc i h).choose else 0, fun i hi => by
      simp only [hi, dif_pos]
      exact (hc i hi).choose_spec⟩
  obtain ⟨f, hf⟩ := key
  refine ⟨firsts f 1024, fun i => ?_, ?_⟩
  · unfold firsts
    by_cases hi : i < 1024
    · rw [if_pos hi]; exact (hf i hi).1
    · rw [if_neg hi]; omega
  · have e : cs = blk (firsts f 1024) := by
      apply Array.ext_getElem?
      intro i
      by_cases hi : i < 1024
      · rw [blk_get _ _ hi]
        unfold firsts
        rw [if_pos hi]; exact (hf i hi).2
      · rw [Array.getElem?_eq_none (by omega), Array.getElem?_eq_none (by rw [blk_size]; omega)]
    rw [e]

theorem array6 {α : Type} {cs : Array α} (h : cs.size = 6) : ∃ c0 c1 c2 c3 c4 c5, cs = #[c0, c1, c2, c3, c4, c5] := by
  obtain ⟨l⟩ := cs
  match l, h with
  | [c0, c1, c2, c3, c4, c5], _ => exact ⟨c0, c1, c2, c3, c4, c5, rfl⟩
theorem open_ask (hv : Value.okWide Try.prog w r b0 25 v) (h : DataW.Trod enc Try.prog w1 base sp held 25 v d p) :
    ∃ (i j : Int) (on : Bool) (a m b : Int), v = .agg (askV i j on a m b) := by
  obtain ⟨cs, rfl, hsz⟩ := okWide_struct Try.underlying25 hv
  rw [cells25] at hsz
  obtain ⟨c0, c1, c2, c3, c4, c5, rfl⟩ := array6 hsz
  obtain ⟨fuel, hf⟩ := h
  obtain ⟨xs, m, rfl, _, _, hl, hx⟩ := DataW.trod_struct Try.underlying25 hf
  match xs, hl with
  | [y0, y1, y2, y3, y4, y5], _ =>
    have h0 := hx 0 _ rfl
    have h1 := hx 1 _ rfl
    have h2 := hx 2 _ rfl
    have h3 := hx 3 _ rfl
    have h4 := hx 4 _ rfl
    have h5 := hx 5 _ rfl
    simp [Value.cells, cells3, cells4] at h0 h1 h2 h3 h4 h5
    obtain ⟨i, e0, _⟩ := DataW.trod_int Try.underlying3 h0
    obtain ⟨j, e1, _⟩ := DataW.trod_int Try.underlying3 h1
    obtain ⟨on, e2, _⟩ := DataW.trod_bool Try.underlying4 h2
    obtain ⟨a, e3, _⟩ := DataW.trod_int Try.underlying3 h3
    obtain ⟨n, e4, _⟩ := DataW.trod_int Try.underlying3 h4
    obtain ⟨b, e5, _⟩ := DataW.trod_int Try.underlying3 h5
    simp at e0 e1 e2 e3 e4 e5
    exact ⟨i, j, on, a, n, b, by rw [e0, e1, e2, e3, e4, e5]; rfl⟩
end
end Go.Proofs.Ytplgelhfombhkaa
