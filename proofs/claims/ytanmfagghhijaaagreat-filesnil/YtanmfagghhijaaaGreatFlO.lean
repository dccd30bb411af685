/- What a call that came in tells a walk; for all that can be read. -/
import Derived.Test.YtanmfagghhijaaaGreatFl9
import Derived.ProofKit
import Derived.OpenShut
namespace Go.Proofs.YtanmfagghhijaaaGreat
open Go.RowKit Go.ChangeShapes Go.WideShapes
theorem cellsCall : Tryz.prog.cellsOf 25 = 7 := by kernel_rfl
theorem cellsI3 : Tryz.prog.cellsOf 3 = 1 := by kernel_rfl
theorem cellsKd : Tryz.prog.cellsOf 22 = 1 := by kernel_rfl
theorem cellsSt : Tryz.prog.cellsOf 9 = 1 := by kernel_rfl
theorem array7 {α : Type} {cs : Array α} (h : cs.size = 7) : ∃ c0 c1 c2 c3 c4 c5 c6, cs = #[c0, c1, c2, c3, c4, c5, c6] := by
  obtain ⟨l⟩ := cs
  match l, h with
  | [c0, c1, c2, c3, c4, c5, c6], _ => exact ⟨c0, c1, c2, c3, c4, c5, c6, rfl⟩
section
variable {H : Type} {enc : TypeId × Value → H} {w w1 : World} {base : Nat} {sp : Nat → Bool} {held : Bool} {r : Reach} {b0 : Nat} {v : Value} {d : DataW H} {p : List MemPlace}
set_option maxRecDepth 20000 in
theorem open_call (hv : Value.okWide Tryz.prog w r b0 25 v) (h : DataW.Trod enc Tryz.prog w1 base sp held 25 v d p) :
    ∃ (k : Int) (s u : ByteArray) (d z f : Int) (b : Value), v = .agg (caR k s u d z f b) := by
  obtain ⟨cs, rfl, hsz⟩ := okWide_struct Tryz.underlying25 hv
  rw [cellsCall] at hsz
  obtain ⟨c0, c1, c2, c3, c4, c5, c6, rfl⟩ := array7 hsz
  obtain ⟨fuel, hf⟩ := h
  obtain ⟨xs, m, rfl, _, _, hl, hx⟩ := DataW.trod_struct Tryz.underlying25 hf
  match xs, hl with
  | [y0, y1, y2, y3, y4, y5, y6], _ =>
    have h0 := hx 0 _ rfl
    have h1 := hx 1 _ rfl
    have h2 := hx 2 _ rfl
    have h3 := hx 3 _ rfl
    have h4 := hx 4 _ rfl
    have h5 := hx 5 _ rfl
    simp [Value.cells, cellsI3, cellsKd, cellsSt] at h0 h1 h2 h3 h4 h5
    obtain ⟨k, e0, _, _⟩ := DataW.trod_int Tryz.underlying22 h0
    obtain ⟨s, e1, _, _⟩ := DataW.trod_string Tryz.underlying9 h1
    obtain ⟨u, e2, _, _⟩ := DataW.trod_string Tryz.underlying9 h2
    obtain ⟨d, e3, _, _⟩ := DataW.trod_int Tryz.underlying3 h3
    obtain ⟨z, e4, _, _⟩ := DataW.trod_int Tryz.underlying3 h4
    obtain ⟨f, e5, _, _⟩ := DataW.trod_int Tryz.underlying3 h5
    simp at e0 e1 e2 e3 e4 e5
    exact ⟨k, s, u, d, z, f, c6, by rw [e0, e1, e2, e3, e4, e5]; rfl⟩
end
end Go.Proofs.YtanmfagghhijaaaGreat
