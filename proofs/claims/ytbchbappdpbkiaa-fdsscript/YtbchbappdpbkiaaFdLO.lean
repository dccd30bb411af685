/- What a list of calls that came in tells a walk; for all that can be read. -/
import Derived.Test.YtbchbappdpbkiaaFdL2
import Derived.ProofKit
import Derived.OpenShut
namespace Go.Proofs.Ytbchbappdpbkiaa
open Go.RowKit Go.ChangeShapes Go.WideShapes
section
variable {Hh : Type} {enc : TypeId × Value → Hh} {w : World} {base : Nat} {sp : Nat → Bool} {held : Bool} {v : Value} {x : DataW Hh × List MemPlace} {fuel : Nat}
theorem list4 {α : Type} {l : List α} (h : l.length = 4) : ∃ a b c d, l = [a, b, c, d] := by
  match l, h with
  | [a, b, c, d], _ => exact ⟨a, b, c, d, rfl⟩
theorem plain_addr {a : Addr} {u : Value} (h : w.cell? (a.add 0) = some u) : ∃ b off, a = ⟨b, off, none⟩ ∧ b < w.heap.size := by
  obtain ⟨b, off, spot⟩ := a
  have hs : spot = none := by simpa [Addr.add] using World.cell?_spot h
  subst hs
  rw [Go.WideShapes.add_plain] at h
  exact ⟨b, off, rfl, World.block_lt_of_cell? w _ h⟩
theorem plain_rows {a : Addr} {k : Nat} {cs : List Value} (h : w.cells? base (a.add (0 * k)) k = some cs) (hk : 0 < k) : ∃ b off, a = ⟨b, off, none⟩ ∧ b < w.heap.size := by
  obtain ⟨_, hlen, hcell⟩ := World.cells?_some h
  have h0 := hcell 0 hk
  rw [Nat.zero_mul, Go.Deep.add_add, Nat.add_zero, List.getElem?_eq_getElem (by omega)] at h0
  exact plain_addr h0
theorem add_at {b off i j : Nat} : ((⟨b, off, none⟩ : Addr).add i).add j = ⟨b, off + i + j, none⟩ := by
  rw [Go.WideShapes.add_plain, Go.WideShapes.add_plain]
set_option maxRecDepth 100000 in
theorem cellsAct : Try.prog.cellsOf 38 = 4 := by kernel_rfl
set_option maxRecDepth 100000 in
theorem cells3c : Try.prog.cellsOf 3 = 1 := by kernel_rfl
set_option maxRecDepth 100000 in
theorem acts_of_trod (h : DataW.trod enc Try.prog w base sp held fuel 22 [v] = some x) : ∃ a cap cs, v = .slice a (List.length cs) cap ∧ ActsAt w a cs ∧ cs.length ≤ 9223372036854775807 ∧ ∀ c ∈ cs, (Lit.int .i64 c.1).wf = true ∧ (Lit.int .i64 c.2.1).wf = true ∧ (Lit.int .i64 c.2.2.1).wf = true ∧ (Lit.int .i64 c.2.2.2).wf = true := by
  rcases Go.Deep.open_slice Try.underlying22 h with ⟨h0, _⟩ | ⟨a, len, cap, m, n, D, Pl, hv, _, hl, hm, hmm, _, hc⟩
  · have hv : v = .slice none 0 0 := by simpa using h0
    subst hv
    exact ⟨none, 0, [], rfl, fun q => by simp at q, by simp, fun c hc => by simp at hc⟩
  · have hv' : v = .slice (some a) len cap := by simpa using hv
    subst hv'
    have hlm : len ≤ m := by rw [hmm]; split <;> omega
    have key : ∀ r, ∃ c : Ac, ((Lit.int .i64 c.1).wf = true ∧ (Lit.int .i64 c.2.1).wf = true ∧ (Lit.int .i64 c.2.2.1).wf = true ∧ (Lit.int .i64 c.2.2.2).wf = true) ∧ (r < len → ∃ b off, a = ⟨b, off, none⟩ ∧ b < w.heap.size ∧ w.cell? ⟨b, off + r * 4, none⟩ = some (.int .i64 c.1) ∧ w.cell? ⟨b, off + r * 4 + 1, none⟩ = some (.int .i64 c.2.1) ∧ w.cell? ⟨b, off + r * 4 + 2, none⟩ = some (.int .i64 c.2.2.1) ∧ w.cell? ⟨b, off + r * 4 + 3, none⟩ = some (.int .i64 c.2.2.2)) := fun r => by
      by_cases hr : r < len
      · obtain ⟨cs0, h01, _⟩ := hc 0 (by omega)
        obtain ⟨cs, h1, h2⟩ := hc r (by omega)
        obtain ⟨b, off, rfl, hb⟩ := plain_rows h01 (by rw [cellsAct]; omega)
        rw [cellsAct] at h1
        obtain ⟨_, hlen, hcell⟩ := World.cells?_some h1
        obtain ⟨xs, q, _, _, _, hxl, hf⟩ := DataW.trod_struct Try.underlying38 h2
        obtain ⟨y0, y1, y2, y3, rfl⟩ := list4 (show xs.length = 4 from hxl)
        obtain ⟨v0, v1, v2, v3, rfl⟩ := list4 hlen
        have g0 := hf 0 _ rfl
        have g1 := hf 1 _ rfl
        have g2 := hf 2 _ rfl
        have g3 := hf 3 _ rfl
        simp [cells3c] at g0 g1 g2 g3
        obtain ⟨k0, hk0, _, hw0⟩ := DataW.trod_int Try.underlying3 g0
        obtain ⟨k1, hk1, _, hw1⟩ := DataW.trod_int Try.underlying3 g1
        obtain ⟨k2, hk2, _, hw2⟩ := DataW.trod_int Try.underlying3 g2
        obtain ⟨k3, hk3, _, hw3⟩ := DataW.trod_int Try.underlying3 g3
        have e0 : v0 = .int .i64 k0 := by simpa using hk0
        have e1 : v1 = .int .i64 k1 := by simpa using hk1
        have e2 : v2 = .int .i64 k2 := by simpa using hk2
        have e3 : v3 = .int .i64 k3 := by simpa using hk3
        subst e0 e1 e2 e3
        have t0 := hcell 0 (by omega)
        have t1 := hcell 1 (by omega)
        have t2 := hcell 2 (by omega)
        have t3 := hcell 3 (by omega)
        rw [add_at] at t0 t1 t2 t3
        exact ⟨(k0, k1, k2, k3), ⟨hw0, hw1, hw2, hw3⟩, fun _ => ⟨b, off, rfl, hb, t0, t1, t2, t3⟩⟩
      · exact ⟨(0, 0, 0, 0), ⟨by decide, by decide, by decide, by decide⟩, fun q => absurd q hr⟩
    obtain ⟨f, hf⟩ := Classical.skolem.1 key
    have hll : ((List.range len).map f).length = len := by simp
    refine ⟨some a, cap, (List.range len).map f, by rw [hll], fun h0 => ?_, by rw [hll]; unfold maxLen at hm; omega, fun c hc => ?_⟩
    · rw [hll] at h0
      obtain ⟨b, off, rfl, hb, _⟩ := (hf 0).2 h0
      refine ⟨b, off, rfl, hb, fun k c hk => ?_⟩
      have hi : k < len := by have := (List.getElem?_eq_some_iff.1 hk).1; rwa [hll] at this
      rw [List.getElem?_map, List.getElem?_range hi] at hk
      have ec : f k = c := by simpa using hk
      obtain ⟨b', off', e, _, k0, k1, k2, k3⟩ := (hf k).2 hi
      injection e with e1 e2
      subst e1 e2
      rw [ec] at k0 k1 k2 k3
      exact ⟨k0, k1, k2, k3⟩
    · obtain ⟨k, _, rfl⟩ := List.mem_map.1 hc
      exact (hf k).1
end
end Go.Proofs.Ytbchbappdpbkiaa
