/- What a play that came in tells a walk; for all that can be read. -/
import Derived.Test.YtahaiciciljijaaLWr
import Derived.Test.YtahaiciciljijaaCOpen
import Derived.Deep.Slices
namespace Go.Proofs.Ytahaiciciljijaa
open Go.RowKit Go.ChangeShapes Go.WideShapes
section
variable {Hh : Type} {enc : TypeId × Value → Hh} {w w1 : World} {base : Nat} {sp : Nat → Bool} {held : Bool} {v : Value} {x : DataW Hh × List MemPlace} {fuel : Nat}
set_option maxRecDepth 100000 in
theorem cells78 : Try.prog.cellsOf 78 = 1 := by kernel_rfl
set_option maxRecDepth 100000 in
theorem cells44 : Try.prog.cellsOf 44 = 1 := by kernel_rfl
set_option maxRecDepth 100000 in
theorem cells50 : Try.prog.cellsOf 50 = 1 := by kernel_rfl
set_option maxRecDepth 100000 in
theorem cells51 : Try.prog.cellsOf 51 = 1 := by kernel_rfl
set_option maxRecDepth 100000 in
theorem cells53 : Try.prog.cellsOf 53 = 9 := by kernel_rfl
set_option maxRecDepth 100000 in
theorem zints_of_trod (h : DataW.trod enc Try.prog w base sp held fuel 44 [v] = some x) : ∃ a cap zs, v = .slice a (List.length zs) cap ∧ H.IntsAt w a zs ∧ zs.length ≤ 9223372036854775807 := by
  rcases Go.Deep.open_slice1 Try.underlying44 cells3c h with ⟨h0, _⟩ | ⟨a, len, cap, m, n, V, D, Pl, hv, _, hl, hm, hmm, _, hc⟩
  · have hv : v = .slice none 0 0 := by simpa using h0
    subst hv
    exact ⟨none, 0, [], rfl, fun q => by simp at q, by simp⟩
  · have hv' : v = .slice (some a) len cap := by simpa using hv
    subst hv'
    have hlm : len ≤ m := by rw [hmm]; split <;> omega
    have key : ∀ i, ∃ z : Int, (i < len → w.cell? (a.add i) = some (.int .i64 z)) := fun i => by
      by_cases hi : i < len
      · obtain ⟨h1, h2⟩ := hc i (by omega)
        obtain ⟨z, hz, _⟩ := DataW.trod_int Try.underlying3 h2
        have hz' : V i = .int .i64 z := by simpa using hz
        exact ⟨z, fun _ => by rw [h1, hz']⟩
      · exact ⟨0, fun q => absurd q hi⟩
    obtain ⟨f, hf⟩ := Classical.skolem.1 key
    have hll : ((List.range len).map f).length = len := by simp
    refine ⟨some a, cap, (List.range len).map f, by rw [hll], fun h0 => ?_, by rw [hll]; unfold maxLen at hm; omega⟩
    rw [hll] at h0
    obtain ⟨b, off, rfl, hb⟩ := plain_addr (hf 0 (by omega))
    refine ⟨b, off, rfl, hb, fun i x hx => ?_⟩
    have hi : i < len := by have := (List.getElem?_eq_some_iff.1 hx).1; rwa [hll] at this
    have q := hf i hi
    rw [Go.WideShapes.add_plain] at q
    rw [q]
    rw [List.getElem?_map, List.getElem?_range hi] at hx
    exact congrArg some (congrArg (Value.int .i64) (by simpa using hx))
set_option maxRecDepth 100000 in
theorem steps_of_trod (h : DataW.trod enc Try.prog w base sp held fuel 50 [v] = some x) : ∃ a cap ss, v = .slice a (List.length ss) cap ∧ StepsAt w a ss ∧ ss.length ≤ 9223372036854775807 ∧ ∀ s ∈ ss, ∃ cs : List (Int × Int), cs.length = s.2.1 ∧ ChsAt w s.1 cs ∧ ∀ c ∈ cs, 0 ≤ c.2 ∧ c.2 ≤ 255 := by
  rcases Go.Deep.open_slice1 Try.underlying50 cells78 h with ⟨h0, _⟩ | ⟨a, len, cap, m, n, V, D, Pl, hv, _, hl, hm, hmm, _, hc⟩
  · have hv : v = .slice none 0 0 := by simpa using h0
    subst hv
    exact ⟨none, 0, [], rfl, fun q => by simp at q, by simp, fun s hs => by simp at hs⟩
  · have hv' : v = .slice (some a) len cap := by simpa using hv
    subst hv'
    have hlm : len ≤ m := by rw [hmm]; split <;> omega
    have key : ∀ i, ∃ s : Option Addr × Nat × Nat, (∃ cs : List (Int × Int), cs.length = s.2.1 ∧ ChsAt w s.1 cs ∧ ∀ c ∈ cs, 0 ≤ c.2 ∧ c.2 ≤ 255) ∧ (i < len → w.cell? (a.add i) = some (.slice s.1 s.2.1 s.2.2)) := fun i => by
      by_cases hi : i < len
      · obtain ⟨h1, h2⟩ := hc i (by omega)
        obtain ⟨a', cap', cs, hv, k1, _, k3⟩ := chs_of_trod h2
        exact ⟨(a', cs.length, cap'), ⟨cs, rfl, k1, k3⟩, fun _ => by rw [h1, hv]⟩
      · exact ⟨(none, 0, 0), ⟨[], rfl, fun q => by simp at q, fun c hc => by simp at hc⟩, fun q => absurd q hi⟩
    obtain ⟨f, hf⟩ := Classical.skolem.1 key
    have hll : ((List.range len).map f).length = len := by simp
    refine ⟨some a, cap, (List.range len).map f, by rw [hll], fun h0 => ?_, by rw [hll]; unfold maxLen at hm; omega, fun s hs => ?_⟩
    · rw [hll] at h0
      obtain ⟨b, off, rfl, hb⟩ := plain_addr ((hf 0).2 (by omega))
      refine ⟨b, off, rfl, hb, fun i x hx => ?_⟩
      have hi : i < len := by have := (List.getElem?_eq_some_iff.1 hx).1; rwa [hll] at this
      have q := (hf i).2 hi
      rw [Go.WideShapes.add_plain] at q
      rw [List.getElem?_map, List.getElem?_range hi] at hx
      have ex : f i = x := by simpa using hx
      rw [q, ex]
    · obtain ⟨k, _, rfl⟩ := List.mem_map.1 hs
      exact (hf k).1
set_option maxRecDepth 100000 in
theorem slice_of_trod {t e : TypeId} (ht : Try.prog.underlying t = some (.slice e)) (h : DataW.trod enc Try.prog w base sp held fuel t [v] = some x) : ∃ a n cap, v = .slice a n cap := by
  rcases Go.Deep.open_slice ht h with ⟨h0, _⟩ | ⟨a, len, cap, m, n, D, Pl, hv, _⟩
  · exact ⟨none, 0, 0, by simpa using h0⟩
  · exact ⟨some a, len, cap, by simpa using hv⟩
theorem array9v {cs : Array Value} (h : cs.size = 9) : ∃ c0 c1 c2 c3 c4 c5 c6 c7 c8, cs = #[c0, c1, c2, c3, c4, c5, c6, c7, c8] := array9 h
set_option maxRecDepth 100000 in
theorem open_play {r : Reach} {b0 : Nat} {d : DataW Hh} {pl : List MemPlace} (hv : Value.okWide Try.prog w1 r b0 53 v) (h : DataW.Trod enc Try.prog w base sp held 53 v d pl) :
    ∃ b l i p ss c p2 sy c2 st p3 n3 c3 ag p4 n4 c4, v = .agg (playA b l i p (List.length ss) c p2 (List.length sy) c2 st p3 n3 c3 ag p4 n4 c4) ∧ PlayAt w p ss p2 sy ∧ ss.length ≤ 9223372036854775807 ∧ sy.length ≤ 9223372036854775807 ∧ H.I64 st ∧ H.I64 ag := by
  obtain ⟨cs, rfl, hsz⟩ := okWide_struct Try.underlying53 hv
  rw [cells53] at hsz
  obtain ⟨c0, c1, c2, c3, c4, c5, c6, c7, c8, rfl⟩ := array9 hsz
  obtain ⟨fuel, hf⟩ := h
  obtain ⟨xs, m, rfl, _, _, hl, hx⟩ := DataW.trod_struct Try.underlying53 hf
  match xs, hl with
  | [y0, y1, y2, y3, y4, y5, y6], _ =>
    have h0 := hx 0 _ rfl
    have h1 := hx 1 _ rfl
    have h2 := hx 2 _ rfl
    have h3 := hx 3 _ rfl
    have h4 := hx 4 _ rfl
    have h5 := hx 5 _ rfl
    have h6 := hx 6 _ rfl
    simp [Value.cells, cellsI, cellsG, cells50, cells44, cells51] at h0 h1 h2 h3 h4 h5 h6
    obtain ⟨zs, m', rfl, _, _, hl', hz⟩ := DataW.trod_struct Try.underlying25 h0
    match zs, hl' with
    | [z0, z1, z2], _ =>
      have g0 := hz 0 _ rfl
      have g1 := hz 1 _ rfl
      have g2 := hz 2 _ rfl
      simp [cellsI] at g0 g1 g2
      obtain ⟨b, e0, _, _⟩ := DataW.trod_int Try.underlying3 g0
      obtain ⟨l, e1, _, _⟩ := DataW.trod_int Try.underlying3 g1
      obtain ⟨i, e2, _, _⟩ := DataW.trod_int Try.underlying3 g2
      obtain ⟨p, c, ss, e3, k1, k2, k3⟩ := steps_of_trod h1
      obtain ⟨p2, c2, sy, e4, k4, k5⟩ := zints_of_trod h2
      obtain ⟨st, e5, _, q5⟩ := DataW.trod_int Try.underlying3 h3
      obtain ⟨p3, n3, cc3, e6⟩ := slice_of_trod Try.underlying51 h4
      obtain ⟨ag, e7, _, q7⟩ := DataW.trod_int Try.underlying3 h5
      obtain ⟨p4, n4, cc4, e8⟩ := slice_of_trod Try.underlying51 h6
      simp at e0 e1 e2 e5 e7
      exact ⟨b, l, i, p, ss, c, p2, sy, c2, st, p3, n3, cc3, ag, p4, n4, cc4, by rw [e0, e1, e2, e3, e4, e5, e6, e7, e8]; rfl, ⟨k1, k3, k4⟩, k2, k5, bounds_i64 q5, bounds_i64 q7⟩
end
end Go.Proofs.Ytahaiciciljijaa
