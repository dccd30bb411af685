/- What a list of puts that came in tells a walk; for all that can be read. -/
import Derived.Test.YtembocfghkmieaaLawLeft
import Derived.Test.YtembocfghkmieaaOpen
namespace Go.Proofs.Ytembocfghkmieaa
open Go.RowKit Go.ChangeShapes Go.WideShapes

section
variable {H : Type} {enc : TypeId × Value → H} {w : World} {base : Nat} {sp : Nat → Bool} {held : Bool} {v : Value} {x : DataW H × List MemPlace} {fuel : Nat}
theorem list2 {α : Type} {l : List α} (h : l.length = 2) : ∃ a b, l = [a, b] := by
  match l, h with
  | [a, b], _ => exact ⟨a, b, rfl⟩
theorem puts_of_trod (h : DataW.trod enc Try.prog w base sp held fuel 77 [v] = some x) : ∃ a len cap, v = .slice a len cap ∧ PutsAt w a len := by
  rcases Go.Deep.open_slice Try.underlying77 h with ⟨h0, _⟩ | ⟨a, len, cap, m, n, D, Pl, hv, _, hl, hm, hmm, _, hc⟩
  · have hv : v = .slice none 0 0 := by simpa using h0
    subst hv
    exact ⟨none, 0, 0, rfl, by decide, fun r hr => absurd hr (by omega)⟩
  · have hv' : v = .slice (some a) len cap := by simpa using hv
    subst hv'
    have hlm : len ≤ m := by rw [hmm]; split <;> omega
    refine ⟨some a, len, cap, rfl, by unfold maxLen at hm; omega, fun r hr => ?_⟩
    obtain ⟨cs0, h01, _⟩ := hc 0 (by omega)
    obtain ⟨cs, h1, h2⟩ := hc r (by omega)
    have c81 : Try.prog.cellsOf 81 = 2 := by kernel_rfl
    have c3 : Try.prog.cellsOf 3 = 1 := by kernel_rfl
    have c41 : Try.prog.cellsOf 41 = 1 := by kernel_rfl
    obtain ⟨b, off, rfl, hb⟩ := plain_rows h01 (by rw [c81]; omega)
    rw [c81] at h1
    obtain ⟨_, hlen, hcell⟩ := World.cells?_some h1
    obtain ⟨xs, q, _, _, _, hxl, hf⟩ := DataW.trod_struct Try.underlying81 h2
    obtain ⟨y0, y1, rfl⟩ := list2 (show xs.length = 2 from hxl)
    obtain ⟨v0, v1, rfl⟩ := list2 hlen
    have g0 := hf 0 _ rfl
    have g1 := hf 1 _ rfl
    simp [c3, c41] at g0 g1
    obtain ⟨pos, hp, hp1⟩ := int_of_trod g0 rfl
    obtain ⟨pa, pl, pc, pf, rfl, hlies, hbyte⟩ := bytes_of_trod g1
    have e0 : v0 = .int .i64 pos := by simpa using hp
    subst e0
    have k0 := hcell 0 (by omega)
    have k1 := hcell 1 (by omega)
    rw [add_at] at k0 k1
    exact ⟨b, off, rfl, ⟨⟨pos, pa, pl, pc, pf, hb, k0, k1, hlies, hbyte, hp1⟩⟩⟩
end
end Go.Proofs.Ytembocfghkmieaa
