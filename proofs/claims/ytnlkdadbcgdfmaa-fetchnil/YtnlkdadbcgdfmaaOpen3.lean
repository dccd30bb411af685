/- What a row of three numbers that came in tells a walk; for all that can be read. -/
import Derived.Test.YtnlkdadbcgdfmaaBase
import Derived.ProofKit
import Derived.OpenShut
namespace Go.Proofs.Ytnlkdadbcgdfmaa
open Go.RowKit Go.ChangeShapes Go.WideShapes
theorem cells3 : Try.prog.cellsOf 3 = 1 := by kernel_rfl
theorem array3 {α : Type} {cs : Array α} (h : cs.size = 3) : ∃ c0 c1 c2, cs = #[c0, c1, c2] := by
  obtain ⟨l⟩ := cs
  match l, h with
  | [c0, c1, c2], _ => exact ⟨c0, c1, c2, rfl⟩
section
variable {H : Type} {enc : TypeId × Value → H} {w w1 : World} {base : Nat} {sp : Nat → Bool} {held : Bool} {r : Reach} {b0 : Nat} {v : Value} {d : DataW H} {p : List MemPlace}
theorem cellsAsk : Try.prog.cellsOf 23 = 3 := by kernel_rfl
set_option maxRecDepth 20000 in
theorem open_ask (hv : Value.okWide Try.prog w r b0 23 v) (h : DataW.Trod enc Try.prog w1 base sp held 23 v d p) :
    ∃ (b l i : Int), v = .agg #[.int .i64 b, .int .i64 l, .int .i64 i] := by
  obtain ⟨cs, rfl, hsz⟩ := okWide_struct Try.underlying23 hv
  rw [cellsAsk] at hsz
  obtain ⟨c0, c1, c2, rfl⟩ := array3 hsz
  obtain ⟨fuel, hf⟩ := h
  obtain ⟨xs, m, rfl, _, _, hl, hx⟩ := DataW.trod_struct Try.underlying23 hf
  match xs, hl with
  | [y0, y1, y2], _ =>
    have h0 := hx 0 _ rfl
    have h1 := hx 1 _ rfl
    have h2 := hx 2 _ rfl
    simp [Value.cells, cells3] at h0 h1 h2
    obtain ⟨b, e0, _, _⟩ := DataW.trod_int Try.underlying3 h0
    obtain ⟨l, e1, _, _⟩ := DataW.trod_int Try.underlying3 h1
    obtain ⟨i, e2, _, _⟩ := DataW.trod_int Try.underlying3 h2
    simp at e0 e1 e2
    exact ⟨b, l, i, by rw [e0, e1, e2]⟩
end
end Go.Proofs.Ytnlkdadbcgdfmaa
