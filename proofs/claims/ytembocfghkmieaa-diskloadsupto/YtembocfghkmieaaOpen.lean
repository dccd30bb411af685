/- What lists of bytes, bools and acts that came in tell a walk; for all that can be read. -/
import Derived.Test.YtembocfghkmieaaLawNone
import Derived.Deep.Slices
import Derived.ProofKit
import Derived.OpenShut
namespace Go.Proofs.Ytembocfghkmieaa
open Go.RowKit Go.ChangeShapes Go.WideShapes

section
variable {H : Type} {enc : TypeId × Value → H} {w : World} {base : Nat} {sp : Nat → Bool} {held : Bool} {v : Value} {x : DataW H × List MemPlace} {fuel : Nat}
theorem plain_addr {a : Addr} {v : Value} (h : w.cell? (a.add 0) = some v) : ∃ b off, a = ⟨b, off, none⟩ ∧ b < w.heap.size := by
  obtain ⟨b, off, spot⟩ := a
  have hs : spot = none := by simpa [Addr.add] using World.cell?_spot h
  subst hs
  rw [Go.WideShapes.add_plain] at h
  exact ⟨b, off, rfl, cell_lt h⟩
theorem bytes_of_trod (h : DataW.trod enc Try.prog w base sp held fuel 41 [v] = some x) : ∃ a len cap f, v = .slice a len cap ∧ Lies w v len f ∧ ∀ i, 0 ≤ f i ∧ f i ≤ 255 := by
  rcases Go.Deep.open_slice1 Try.underlying41 (by kernel_rfl) h with ⟨h0, _⟩ | ⟨a, len, cap, m, n, V, D, Pl, hv, _, hl, hm, hmm, _, hc⟩
  · have hv : v = .slice none 0 0 := by simpa using h0
    subst hv
    exact ⟨none, 0, 0, fun _ => 0, rfl, .inl ⟨none, 0, rfl, rfl, fun _ => rfl⟩, fun i => ⟨by simp, by simp⟩⟩
  · have hv' : v = .slice (some a) len cap := by simpa using hv
    subst hv'
    have hlm : len ≤ m := by rw [hmm]; split <;> omega
    have key : ∀ i, ∃ z : Int, (0 ≤ z ∧ z ≤ 255) ∧ (i < len → w.cell? (a.add i) = some (.int .u8 z)) := fun i => by
      by_cases hi : i < len
      · obtain ⟨h1, h2⟩ := hc i (by omega)
        obtain ⟨z, hz, _, hw⟩ := DataW.trod_int Try.underlying5 h2
        have hz' : V i = .int .u8 z := by simpa using hz
        exact ⟨z, bounds_u8 hw, fun _ => by rw [h1, hz']⟩
      · exact ⟨0, by omega, fun q => absurd q hi⟩
    obtain ⟨f, hf⟩ := Classical.skolem.1 key
    refine ⟨some a, len, cap, f, rfl, ?_, fun i => (hf i).1⟩
    by_cases h0 : len = 0
    · subst h0
      exact .inl ⟨some a, cap, rfl, rfl, fun q => by cases q⟩
    · obtain ⟨b, off, rfl, hb⟩ := plain_addr ((hf 0).2 (by omega))
      refine .inr ⟨b, off, cap, rfl, by omega, hl, hb, fun i hi => ?_⟩
      have q := (hf i).2 hi
      rwa [Go.WideShapes.add_plain] at q
theorem bools_of_trod (h : DataW.trod enc Try.prog w base sp held fuel 42 [v] = some x) : ∃ a cap l, v = .slice a (List.length l) cap ∧ BoolsAt w v l ∧ l.length ≤ maxLen := by
  rcases Go.Deep.open_slice1 Try.underlying42 (by kernel_rfl) h with ⟨h0, _⟩ | ⟨a, len, cap, m, n, V, D, Pl, hv, _, hl, hm, hmm, _, hc⟩
  · have hv : v = .slice none 0 0 := by simpa using h0
    subst hv
    exact ⟨none, 0, [], rfl, bools_nil w, by unfold maxLen; simp⟩
  · have hv' : v = .slice (some a) len cap := by simpa using hv
    subst hv'
    have hlm : len ≤ m := by rw [hmm]; split <;> omega
    have key : ∀ i, ∃ z : Bool, (i < len → w.cell? (a.add i) = some (.bool z)) := fun i => by
      by_cases hi : i < len
      · obtain ⟨h1, h2⟩ := hc i (by omega)
        obtain ⟨z, hz, _⟩ := DataW.trod_bool Try.underlying4 h2
        have hz' : V i = .bool z := by simpa using hz
        exact ⟨z, fun _ => by rw [h1, hz']⟩
      · exact ⟨false, fun q => absurd q hi⟩
    obtain ⟨f, hf⟩ := Classical.skolem.1 key
    have hll : ((List.range len).map f).length = len := by simp
    refine ⟨some a, cap, (List.range len).map f, by rw [hll], ⟨some a, cap, by rw [hll], fun h0 => ?_⟩, by rw [hll]; omega⟩
    rw [hll] at h0
    obtain ⟨b, off, rfl, hb⟩ := plain_addr (hf 0 (by omega))
    refine ⟨b, off, rfl, fun i x hx => ?_⟩
    have hi : i < len := by have := (List.getElem?_eq_some_iff.1 hx).1; rwa [hll] at this
    have q := hf i hi
    rw [Go.WideShapes.add_plain] at q
    rw [q]
    rw [List.getElem?_map, List.getElem?_range hi] at hx
    exact congrArg some (congrArg Value.bool (by simpa using hx))
theorem int_of_trod {c : List Value} {n : Nat} {y : Option (DataW H × List MemPlace)} {z : DataW H × List MemPlace} (h : DataW.trod enc Try.prog w base sp held n 3 c = y) (hy : y = some z) : ∃ k, c = [.int .i64 k] ∧ -9223372036854775808 ≤ k ∧ k ≤ 9223372036854775807 := by
  rw [hy] at h
  obtain ⟨k, hk, _, hw⟩ := DataW.trod_int Try.underlying3 h
  have := bounds_i64 hw
  exact ⟨k, hk, this.1, this.2⟩
theorem list6 {α : Type} {l : List α} (h : l.length = 6) : ∃ a b c d e f, l = [a, b, c, d, e, f] := by
  match l, h with
  | [a, b, c, d, e, f], _ => exact ⟨a, b, c, d, e, f, rfl⟩
theorem add_at {b off i j : Nat} : ((⟨b, off, none⟩ : Addr).add i).add j = ⟨b, off + i + j, none⟩ := by
  rw [Go.WideShapes.add_plain, Go.WideShapes.add_plain]
/-- A list whose elements are rows of k cells lies at a plain place. -/
theorem plain_rows {a : Addr} {k : Nat} {cs : List Value} (h : w.cells? base (a.add (0 * k)) k = some cs) (hk : 0 < k) : ∃ b off, a = ⟨b, off, none⟩ ∧ b < w.heap.size := by
  obtain ⟨_, hlen, hcell⟩ := World.cells?_some h
  have h0 := hcell 0 hk
  rw [Nat.zero_mul, Go.Deep.add_add, Nat.add_zero, List.getElem?_eq_getElem (by omega)] at h0
  exact plain_addr h0
theorem acts_of_trod (h : DataW.trod enc Try.prog w base sp held fuel 23 [v] = some x) : ∃ a len cap, v = .slice a len cap ∧ ActsAt w a len := by
  rcases Go.Deep.open_slice Try.underlying23 h with ⟨h0, _⟩ | ⟨a, len, cap, m, n, D, Pl, hv, _, hl, hm, hmm, _, hc⟩
  · have hv : v = .slice none 0 0 := by simpa using h0
    subst hv
    exact ⟨none, 0, 0, rfl, by decide, fun r hr => absurd hr (by omega)⟩
  · have hv' : v = .slice (some a) len cap := by simpa using hv
    subst hv'
    have hlm : len ≤ m := by rw [hmm]; split <;> omega
    refine ⟨some a, len, cap, rfl, by unfold maxLen at hm; omega, fun r hr => ?_⟩
    obtain ⟨cs0, h01, _⟩ := hc 0 (by omega)
    obtain ⟨cs, h1, h2⟩ := hc r (by omega)
    have c44 : Try.prog.cellsOf 44 = 6 := by kernel_rfl
    have c3 : Try.prog.cellsOf 3 = 1 := by kernel_rfl
    have c41 : Try.prog.cellsOf 41 = 1 := by kernel_rfl
    have c42 : Try.prog.cellsOf 42 = 1 := by kernel_rfl
    obtain ⟨b, off, rfl, hb⟩ := plain_rows h01 (by rw [c44]; omega)
    rw [c44] at h1
    obtain ⟨_, hlen, hcell⟩ := World.cells?_some h1
    obtain ⟨xs, q, _, _, _, hxl, hf⟩ := DataW.trod_struct Try.underlying44 h2
    obtain ⟨y0, y1, y2, y3, y4, y5, rfl⟩ := list6 (show xs.length = 6 from hxl)
    obtain ⟨v0, v1, v2, v3, v4, v5, rfl⟩ := list6 hlen
    have g0 := hf 0 _ rfl
    have g1 := hf 1 _ rfl
    have g2 := hf 2 _ rfl
    have g3 := hf 3 _ rfl
    have g4 := hf 4 _ rfl
    have g5 := hf 5 _ rfl
    simp [c3, c41, c42] at g0 g1 g2 g3 g4 g5
    obtain ⟨o, ho, ho1⟩ := int_of_trod g0 rfl
    obtain ⟨k, hk, hk1⟩ := int_of_trod g1 rfl
    obtain ⟨pos, hp, hp1⟩ := int_of_trod g2 rfl
    obtain ⟨n', hn, hn1⟩ := int_of_trod g4 rfl
    obtain ⟨pa, pl, pc, pf, rfl, hlies, hbyte⟩ := bytes_of_trod g3
    obtain ⟨ka, kc, kl, rfl, hbools, hkl⟩ := bools_of_trod g5
    have e0 : v0 = .int .i64 o := by simpa using ho
    have e1 : v1 = .int .i64 k := by simpa using hk
    have e2 : v2 = .int .i64 pos := by simpa using hp
    have e4 : v4 = .int .i64 n' := by simpa using hn
    subst e0 e1 e2 e4
    have k0 := hcell 0 (by omega)
    have k1 := hcell 1 (by omega)
    have k2 := hcell 2 (by omega)
    have k3 := hcell 3 (by omega)
    have k4 := hcell 4 (by omega)
    have k5 := hcell 5 (by omega)
    rw [add_at] at k0 k1 k2 k3 k4 k5
    exact ⟨b, off, rfl, ⟨⟨o, k, pos, n', pa, pl, pc, pf, ka, kc, kl, hb, k0, k1, k2, k3, k4, k5, hlies, hbyte, hbools, ho1, hk1, hp1, hn1, hkl⟩⟩⟩
end
end Go.Proofs.Ytembocfghkmieaa
