/- What a block, a geometry and a layout that came in tell a walk; for all that can be read. -/
import Derived.Test.YtahaiciciljijaaLWhere
import Derived.ProofKit
import Derived.OpenShut
namespace Go.Proofs.Ytahaiciciljijaa
open Go.RowKit Go.ChangeShapes Go.WideShapes

set_option maxRecDepth 100000 in
theorem cellsB : Try.prog.cellsOf 23 = 1024 := by kernel_rfl
set_option maxRecDepth 100000 in
theorem cells5 : Try.prog.cellsOf 5 = 1 := by kernel_rfl
set_option maxRecDepth 100000 in
theorem cellsG : Try.prog.cellsOf 25 = 3 := by kernel_rfl
set_option maxRecDepth 100000 in
theorem cellsL : Try.prog.cellsOf 31 = 9 := by kernel_rfl
set_option maxRecDepth 100000 in
theorem cellsI : Try.prog.cellsOf 3 = 1 := by kernel_rfl

section
variable {Hh : Type} {enc : TypeId × Value → Hh} {w w1 : World} {base : Nat} {sp : Nat → Bool} {held : Bool} {r : Reach} {b0 : Nat} {v : Value} {d : DataW Hh} {p : List MemPlace}
set_option maxRecDepth 100000 in
theorem okWide_array {n : Nat} {e t : TypeId} (ht : Try.prog.underlying t = some (.array n e)) (h : Value.okWide Try.prog w r b0 t v) : ∃ cs, v = .agg cs ∧ cs.size = Try.prog.cellsOf t := by
  unfold Value.okWide at h
  rw [ht] at h
  obtain ⟨cs, h1, h2, _⟩ := h
  exact ⟨cs, h1, h2⟩
set_option maxRecDepth 100000 in
theorem open_blk (hv : Value.okWide Try.prog w r b0 23 v) (h : DataW.Trod enc Try.prog w1 base sp held 23 v d p) : ∃ f, (∀ i, 0 ≤ f i ∧ f i ≤ 255) ∧ v = .agg (blk f) := by
  obtain ⟨cs, rfl, hsz⟩ := okWide_array Try.underlying23 hv
  rw [cellsB] at hsz
  obtain ⟨fuel, hf⟩ := h
  obtain ⟨xs, m, rfl, _, _, hl, hx⟩ := DataW.trod_array Try.underlying23 hf
  have hc : ∀ i, i < 1024 → ∃ z : Int, (0 ≤ z ∧ z ≤ 255) ∧ cs[i]? = some (.int .u8 z) := by
    intro i hi
    have h1 := hx i hi
    rw [cells5, Nat.mul_one] at h1
    have hi' : i < xs.length := by omega
    rw [List.getElem?_eq_getElem hi'] at h1
    obtain ⟨z, hz, _, hw⟩ := DataW.trod_int Try.underlying5 h1
    refine ⟨z, bounds_u8 hw, ?_⟩
    have := congrArg (·[0]?) hz
    simpa [List.getElem?_take, List.getElem?_drop, Value.cells] using this
  have key : ∃ f : Nat → Int, ∀ i, i < 1024 → (0 ≤ f i ∧ f i ≤ 255) ∧ cs[i]? = some (.int .u8 (f i)) :=
    ⟨fun i => if h : i < 1024 then (hc i h).choose else 0, fun i hi => by
      simp only [hi, dif_pos]
      exact (hc i hi).choose_spec⟩
  obtain ⟨f, hf⟩ := key
  refine ⟨firsts f 1024, fun i => ?_, ?_⟩
  · unfold firsts
    by_cases hi : i < 1024
    · rw [if_pos hi]; exact (hf i hi).1
    · rw [if_neg hi]; omega
  · have e : cs = blk (firsts f 1024) := by
      apply Array.ext_getElem?
      intro i
      by_cases hi : i < 1024
      · rw [blk_get _ _ hi]
        unfold firsts
        rw [if_pos hi]; exact (hf i hi).2
      · rw [Array.getElem?_eq_none (by omega), Array.getElem?_eq_none (by rw [blk_size]; omega)]
    rw [e]

set_option maxRecDepth 100000 in
theorem array3 {α : Type} {cs : Array α} (h : cs.size = 3) : ∃ c0 c1 c2, cs = #[c0, c1, c2] := by
  obtain ⟨l⟩ := cs
  match l, h with
  | [c0, c1, c2], _ => exact ⟨c0, c1, c2, rfl⟩
set_option maxRecDepth 100000 in
theorem array9 {α : Type} {cs : Array α} (h : cs.size = 9) : ∃ c0 c1 c2 c3 c4 c5 c6 c7 c8, cs = #[c0, c1, c2, c3, c4, c5, c6, c7, c8] := by
  obtain ⟨l⟩ := cs
  match l, h with
  | [c0, c1, c2, c3, c4, c5, c6, c7, c8], _ => exact ⟨c0, c1, c2, c3, c4, c5, c6, c7, c8, rfl⟩
set_option maxRecDepth 100000 in
theorem open_geo (hv : Value.okWide Try.prog w r b0 25 v) (h : DataW.Trod enc Try.prog w1 base sp held 25 v d p) :
    ∃ (b l i : Int), H.I64 b ∧ H.I64 l ∧ H.I64 i ∧ v = H.geoV b l i := by
  obtain ⟨cs, rfl, hsz⟩ := okWide_struct Try.underlying25 hv
  rw [cellsG] at hsz
  obtain ⟨c0, c1, c2, rfl⟩ := array3 hsz
  obtain ⟨fuel, hf⟩ := h
  obtain ⟨xs, m, rfl, _, _, hl, hx⟩ := DataW.trod_struct Try.underlying25 hf
  match xs, hl with
  | [y0, y1, y2], _ =>
    have h0 := hx 0 _ rfl
    have h1 := hx 1 _ rfl
    have h2 := hx 2 _ rfl
    simp [Value.cells, cellsI] at h0 h1 h2
    obtain ⟨b, e0, _, q0⟩ := DataW.trod_int Try.underlying3 h0
    obtain ⟨l, e1, _, q1⟩ := DataW.trod_int Try.underlying3 h1
    obtain ⟨i, e2, _, q2⟩ := DataW.trod_int Try.underlying3 h2
    simp at e0 e1 e2
    exact ⟨b, l, i, bounds_i64 q0, bounds_i64 q1, bounds_i64 q2, by rw [e0, e1, e2]; rfl⟩
set_option maxRecDepth 100000 in
theorem open_lay (hv : Value.okWide Try.prog w r b0 31 v) (h : DataW.Trod enc Try.prog w1 base sp held 31 v d p) :
    ∃ (b l i a c d e f g : Int), H.I64 b ∧ v = .agg (H.lay9 b l i a c d e f g) := by
  obtain ⟨cs, rfl, hsz⟩ := okWide_struct Try.underlying31 hv
  rw [cellsL] at hsz
  obtain ⟨c0, c1, c2, c3, c4, c5, c6, c7, c8, rfl⟩ := array9 hsz
  obtain ⟨fuel, hf⟩ := h
  obtain ⟨xs, m, rfl, _, _, hl, hx⟩ := DataW.trod_struct Try.underlying31 hf
  match xs, hl with
  | [y0, y1, y2, y3, y4, y5, y6], _ =>
    have h0 := hx 0 _ rfl
    have h1 := hx 1 _ rfl
    have h2 := hx 2 _ rfl
    have h3 := hx 3 _ rfl
    have h4 := hx 4 _ rfl
    have h5 := hx 5 _ rfl
    have h6 := hx 6 _ rfl
    simp [Value.cells, cellsI, cellsG] at h0 h1 h2 h3 h4 h5 h6
    obtain ⟨zs, m', rfl, _, _, hl', hz⟩ := DataW.trod_struct Try.underlying25 h0
    match zs, hl' with
    | [z0, z1, z2], _ =>
      have g0 := hz 0 _ rfl
      have g1 := hz 1 _ rfl
      have g2 := hz 2 _ rfl
      simp [cellsI] at g0 g1 g2
      obtain ⟨b, e0, _, q0⟩ := DataW.trod_int Try.underlying3 g0
      obtain ⟨l, e1, _, _⟩ := DataW.trod_int Try.underlying3 g1
      obtain ⟨i, e2, _, _⟩ := DataW.trod_int Try.underlying3 g2
      obtain ⟨a, e3, _, _⟩ := DataW.trod_int Try.underlying3 h1
      obtain ⟨c, e4, _, _⟩ := DataW.trod_int Try.underlying3 h2
      obtain ⟨d, e5, _, _⟩ := DataW.trod_int Try.underlying3 h3
      obtain ⟨e, e6, _, _⟩ := DataW.trod_int Try.underlying3 h4
      obtain ⟨f, e7, _, _⟩ := DataW.trod_int Try.underlying3 h5
      obtain ⟨g, e8, _, _⟩ := DataW.trod_int Try.underlying3 h6
      simp at e0 e1 e2 e3 e4 e5 e6 e7 e8
      exact ⟨b, l, i, a, c, d, e, f, g, bounds_i64 q0, by rw [e0, e1, e2, e3, e4, e5, e6, e7, e8]; rfl⟩
end
end Go.Proofs.Ytahaiciciljijaa
