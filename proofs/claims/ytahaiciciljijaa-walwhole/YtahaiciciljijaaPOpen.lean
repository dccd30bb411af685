import Derived.Test.YtahaiciciljijaaLWhere
import Derived.ProofKit
import Derived.OpenShut
import Derived.Test.YtahaiciciljijaaLCSt
import Derived.Test.YtahaiciciljijaaLWr
import Derived.Deep.Slices
import Derived.Test.YtahaiciciljijaaSits
/- What a block, a geometry and a layout that came in tell a walk; for all that can be read. -/
namespace Go.Proofs.Ytahaiciciljijaa
open Go.RowKit Go.ChangeShapes Go.WideShapes

set_option maxRecDepth 100000 in
theorem cellsB : Try.prog.cellsOf 23 = 1024 := by kernel_rfl
set_option maxRecDepth 100000 in
theorem cells5 : Try.prog.cellsOf 5 = 1 := by kernel_rfl
set_option maxRecDepth 100000 in
theorem cellsG : Try.prog.cellsOf 25 = 3 := by kernel_rfl
set_option maxRecDepth 100000 in
theorem cellsL : Try.prog.cellsOf 31 = 9 := by kernel_rfl
set_option maxRecDepth 100000 in
theorem cellsI : Try.prog.cellsOf 3 = 1 := by kernel_rfl

section
variable {Hh : Type} {enc : TypeId × Value → Hh} {w w1 : World} {base : Nat} {sp : Nat → Bool} {held : Bool} {r : Reach} {b0 : Nat} {v : Value} {d : DataW Hh} {p : List MemPlace}
set_option maxRecDepth 100000 in
theorem okWide_array {n : Nat} {e t : TypeId} (ht : Try.prog.underlying t = some (.array n e)) (h : Value.okWide Try.prog w r b0 t v) : ∃ cs, v = .agg cs ∧ cs.size = Try.prog.cellsOf t := by
  unfold Value.okWide at h
  rw [ht] at h
  obtain ⟨cs, h1, h2, _⟩ := h
  exact ⟨cs, h1, h2⟩
set_option maxRecDepth 100000 in
theorem open_blk (hv : Value.okWide Try.prog w r b0 23 v) (h : DataW.Trod enc Try.prog w1 base sp held 23 v d p) : ∃ f, (∀ i, 0 ≤ f i ∧ f i ≤ 255) ∧ v = .agg (blk f) := by
  obtain ⟨cs, rfl, hsz⟩ := okWide_array Try.underlying23 hv
  rw [cellsB] at hsz
  obtain ⟨fuel, hf⟩ := h
  obtain ⟨xs, m, rfl, _, _, hl, hx⟩ := DataW.trod_array Try.underlying23 hf
  have hc : ∀ i, i < 1024 → ∃ z : Int, (0 ≤ z ∧ z ≤ 255) ∧ cs[i]? = some (.int .u8 z) := by
    intro i hi
    have h1 := hx i hi
    rw [cells5, Nat.mul_one] at h1
    have hi' : i < xs.length := by omega
    rw [List.getElem?_eq_getElem hi'] at h1
    obtain ⟨z, hz, _, hw⟩ := DataW.trod_int Try.underlying5 h1
    refine ⟨z, bounds_u8 hw, ?_⟩
    have := congrArg (·[0]?) hz
    simpa [List.getElem?_take, List.getElem?_drop, Value.cells] using this
  have key : ∃ f : Nat → Int, ∀ i, i < 1024 → (0 ≤ f i ∧ f i ≤ 255) ∧ cs[i]? = some (.int .u8 (f i)) :=
    ⟨fun i => if h : i < 1024 then (hc i h).choose else 0, fun i hi => by
      simp only [hi, dif_pos]
      exact (hc i hi).choose_spec⟩
  obtain ⟨f, hf⟩ := key
  refine ⟨firsts f 1024, fun i => ?_, ?_⟩
  · unfold firsts
    by_cases hi : i < 1024
    · rw [if_pos hi]; exact (hf i hi).1
    · rw [if_neg hi]; omega
  · have e : cs = blk (firsts f 1024) := by
      apply Array.ext_getElem?
      intro i
      by_cases hi : i < 1024
      · rw [blk_get _ _ hi]
        unfold firsts
        rw [if_pos hi]; exact (hf i hi).2
      · rw [Array.getElem?_eq_none (by omega), Array.getElem?_eq_none (by rw [blk_size]; omega)]
    rw [e]

set_option maxRecDepth 100000 in
theorem array3 {α : Type} {cs : Array α} (h : cs.size = 3) : ∃ c0 c1 c2, cs = #[c0, c1, c2] := by
  obtain ⟨l⟩ := cs
  match l, h with
  | [c0, c1, c2], _ => exact ⟨c0, c1, c2, rfl⟩
set_option maxRecDepth 100000 in
theorem array9 {α : Type} {cs : Array α} (h : cs.size = 9) : ∃ c0 c1 c2 c3 c4 c5 c6 c7 c8, cs = #[c0, c1, c2, c3, c4, c5, c6, c7, c8] := by
  obtain ⟨l⟩ := cs
  match l, h with
  | [c0, c1, c2, c3, c4, c5, c6, c7, c8], _ => exact ⟨c0, c1, c2, c3, c4, c5, c6, c7, c8, rfl⟩
set_option maxRecDepth 100000 in
theorem open_geo (hv : Value.okWide Try.prog w r b0 25 v) (h : DataW.Trod enc Try.prog w1 base sp held 25 v d p) :
    ∃ (b l i : Int), H.I64 b ∧ H.I64 l ∧ H.I64 i ∧ v = H.geoV b l i := by
  obtain ⟨cs, rfl, hsz⟩ := okWide_struct Try.underlying25 hv
  rw [cellsG] at hsz
  obtain ⟨c0, c1, c2, rfl⟩ := array3 hsz
  obtain ⟨fuel, hf⟩ := h
  obtain ⟨xs, m, rfl, _, _, hl, hx⟩ := DataW.trod_struct Try.underlying25 hf
  match xs, hl with
  | [y0, y1, y2], _ =>
    have h0 := hx 0 _ rfl
    have h1 := hx 1 _ rfl
    have h2 := hx 2 _ rfl
    simp [Value.cells, cellsI] at h0 h1 h2
    obtain ⟨b, e0, _, q0⟩ := DataW.trod_int Try.underlying3 h0
    obtain ⟨l, e1, _, q1⟩ := DataW.trod_int Try.underlying3 h1
    obtain ⟨i, e2, _, q2⟩ := DataW.trod_int Try.underlying3 h2
    simp at e0 e1 e2
    exact ⟨b, l, i, bounds_i64 q0, bounds_i64 q1, bounds_i64 q2, by rw [e0, e1, e2]; rfl⟩
set_option maxRecDepth 100000 in
theorem open_lay (hv : Value.okWide Try.prog w r b0 31 v) (h : DataW.Trod enc Try.prog w1 base sp held 31 v d p) :
    ∃ (b l i a c d e f g : Int), H.I64 b ∧ v = .agg (H.lay9 b l i a c d e f g) := by
  obtain ⟨cs, rfl, hsz⟩ := okWide_struct Try.underlying31 hv
  rw [cellsL] at hsz
  obtain ⟨c0, c1, c2, c3, c4, c5, c6, c7, c8, rfl⟩ := array9 hsz
  obtain ⟨fuel, hf⟩ := h
  obtain ⟨xs, m, rfl, _, _, hl, hx⟩ := DataW.trod_struct Try.underlying31 hf
  match xs, hl with
  | [y0, y1, y2, y3, y4, y5, y6], _ =>
    have h0 := hx 0 _ rfl
    have h1 := hx 1 _ rfl
    have h2 := hx 2 _ rfl
    have h3 := hx 3 _ rfl
    have h4 := hx 4 _ rfl
    have h5 := hx 5 _ rfl
    have h6 := hx 6 _ rfl
    simp [Value.cells, cellsI, cellsG] at h0 h1 h2 h3 h4 h5 h6
    obtain ⟨zs, m', rfl, _, _, hl', hz⟩ := DataW.trod_struct Try.underlying25 h0
    match zs, hl' with
    | [z0, z1, z2], _ =>
      have g0 := hz 0 _ rfl
      have g1 := hz 1 _ rfl
      have g2 := hz 2 _ rfl
      simp [cellsI] at g0 g1 g2
      obtain ⟨b, e0, _, q0⟩ := DataW.trod_int Try.underlying3 g0
      obtain ⟨l, e1, _, _⟩ := DataW.trod_int Try.underlying3 g1
      obtain ⟨i, e2, _, _⟩ := DataW.trod_int Try.underlying3 g2
      obtain ⟨a, e3, _, _⟩ := DataW.trod_int Try.underlying3 h1
      obtain ⟨c, e4, _, _⟩ := DataW.trod_int Try.underlying3 h2
      obtain ⟨d, e5, _, _⟩ := DataW.trod_int Try.underlying3 h3
      obtain ⟨e, e6, _, _⟩ := DataW.trod_int Try.underlying3 h4
      obtain ⟨f, e7, _, _⟩ := DataW.trod_int Try.underlying3 h5
      obtain ⟨g, e8, _, _⟩ := DataW.trod_int Try.underlying3 h6
      simp at e0 e1 e2 e3 e4 e5 e6 e7 e8
      exact ⟨b, l, i, a, c, d, e, f, g, bounds_i64 q0, by rw [e0, e1, e2, e3, e4, e5, e6, e7, e8]; rfl⟩
end
end Go.Proofs.Ytahaiciciljijaa
/- What a list of changes that came in tells a walk; for all that can be read. -/
namespace Go.Proofs.Ytahaiciciljijaa
open Go.RowKit Go.ChangeShapes Go.WideShapes
section
variable {Hh : Type} {enc : TypeId × Value → Hh} {w : World} {base : Nat} {sp : Nat → Bool} {held : Bool} {v : Value} {x : DataW Hh × List MemPlace} {fuel : Nat}
theorem list2 {α : Type} {l : List α} (h : l.length = 2) : ∃ a b, l = [a, b] := by
  match l, h with
  | [a, b], _ => exact ⟨a, b, rfl⟩
theorem plain_addr {a : Addr} {u : Value} (h : w.cell? (a.add 0) = some u) : ∃ b off, a = ⟨b, off, none⟩ ∧ b < w.heap.size := by
  obtain ⟨b, off, spot⟩ := a
  have hs : spot = none := by simpa [Addr.add] using World.cell?_spot h
  subst hs
  rw [Go.WideShapes.add_plain] at h
  exact ⟨b, off, rfl, World.block_lt_of_cell? w _ h⟩
theorem plain_rows {a : Addr} {k : Nat} {cs : List Value} (h : w.cells? base (a.add (0 * k)) k = some cs) (hk : 0 < k) : ∃ b off, a = ⟨b, off, none⟩ ∧ b < w.heap.size := by
  obtain ⟨_, hlen, hcell⟩ := World.cells?_some h
  have h0 := hcell 0 hk
  rw [Nat.zero_mul, Go.Deep.add_add, Nat.add_zero, List.getElem?_eq_getElem (by omega)] at h0
  exact plain_addr h0
theorem add_at {b off i j : Nat} : ((⟨b, off, none⟩ : Addr).add i).add j = ⟨b, off + i + j, none⟩ := by
  rw [Go.WideShapes.add_plain, Go.WideShapes.add_plain]
set_option maxRecDepth 100000 in
theorem cells80 : Try.prog.cellsOf 80 = 2 := by kernel_rfl
set_option maxRecDepth 100000 in
theorem cells3c : Try.prog.cellsOf 3 = 1 := by kernel_rfl
set_option maxRecDepth 100000 in
theorem chs_of_trod (h : DataW.trod enc Try.prog w base sp held fuel 78 [v] = some x) : ∃ a cap cs, v = .slice a (List.length cs) cap ∧ ChsAt w a cs ∧ cs.length ≤ 9223372036854775807 ∧ ∀ c ∈ cs, 0 ≤ c.2 ∧ c.2 ≤ 255 := by
  rcases Go.Deep.open_slice Try.underlying78 h with ⟨h0, _⟩ | ⟨a, len, cap, m, n, D, Pl, hv, _, hl, hm, hmm, _, hc⟩
  · have hv : v = .slice none 0 0 := by simpa using h0
    subst hv
    exact ⟨none, 0, [], rfl, fun q => by simp at q, by simp, fun c hc => by simp at hc⟩
  · have hv' : v = .slice (some a) len cap := by simpa using hv
    subst hv'
    have hlm : len ≤ m := by rw [hmm]; split <;> omega
    have key : ∀ r, ∃ c : Int × Int, (0 ≤ c.2 ∧ c.2 ≤ 255) ∧ (r < len → ∃ b off, a = ⟨b, off, none⟩ ∧ b < w.heap.size ∧ w.cell? ⟨b, off + r * 2, none⟩ = some (.int .i64 c.1) ∧ w.cell? ⟨b, off + r * 2 + 1, none⟩ = some (.int .u8 c.2)) := fun r => by
      by_cases hr : r < len
      · obtain ⟨cs0, h01, _⟩ := hc 0 (by omega)
        obtain ⟨cs, h1, h2⟩ := hc r (by omega)
        obtain ⟨b, off, rfl, hb⟩ := plain_rows h01 (by rw [cells80]; omega)
        rw [cells80] at h1
        obtain ⟨_, hlen, hcell⟩ := World.cells?_some h1
        obtain ⟨xs, q, _, _, _, hxl, hf⟩ := DataW.trod_struct Try.underlying80 h2
        obtain ⟨y0, y1, rfl⟩ := list2 (show xs.length = 2 from hxl)
        obtain ⟨v0, v1, rfl⟩ := list2 hlen
        have g0 := hf 0 _ rfl
        have g1 := hf 1 _ rfl
        simp [cells3c, cells5] at g0 g1
        obtain ⟨k0, hk0, _, _⟩ := DataW.trod_int Try.underlying3 g0
        obtain ⟨k1, hk1, _, hw1⟩ := DataW.trod_int Try.underlying5 g1
        have e0 : v0 = .int .i64 k0 := by simpa using hk0
        have e1 : v1 = .int .u8 k1 := by simpa using hk1
        subst e0 e1
        have t0 := hcell 0 (by omega)
        have t1 := hcell 1 (by omega)
        rw [add_at] at t0 t1
        exact ⟨(k0, k1), bounds_u8 hw1, fun _ => ⟨b, off, rfl, hb, t0, t1⟩⟩
      · exact ⟨(0, 0), ⟨by decide, by decide⟩, fun q => absurd q hr⟩
    obtain ⟨f, hf⟩ := Classical.skolem.1 key
    have hll : ((List.range len).map f).length = len := by simp
    refine ⟨some a, cap, (List.range len).map f, by rw [hll], fun h0 => ?_, by rw [hll]; unfold maxLen at hm; omega, fun c hc => ?_⟩
    · rw [hll] at h0
      obtain ⟨b, off, rfl, hb, _⟩ := (hf 0).2 h0
      refine ⟨b, off, rfl, hb, fun k c hk => ?_⟩
      have hi : k < len := by have := (List.getElem?_eq_some_iff.1 hk).1; rwa [hll] at this
      rw [List.getElem?_map, List.getElem?_range hi] at hk
      have ec : f k = c := by simpa using hk
      obtain ⟨b', off', e, _, k0, k1⟩ := (hf k).2 hi
      injection e with e1 e2
      subst e1 e2
      rw [ec] at k0 k1
      exact ⟨k0, k1⟩
    · obtain ⟨k, _, rfl⟩ := List.mem_map.1 hc
      exact (hf k).1
end
end Go.Proofs.Ytahaiciciljijaa
/- What a play that came in tells a walk; for all that can be read. -/
namespace Go.Proofs.Ytahaiciciljijaa
open Go.RowKit Go.ChangeShapes Go.WideShapes
section
variable {Hh : Type} {enc : TypeId × Value → Hh} {w w1 : World} {base : Nat} {sp : Nat → Bool} {held : Bool} {v : Value} {x : DataW Hh × List MemPlace} {fuel : Nat}
set_option maxRecDepth 100000 in
theorem cells78 : Try.prog.cellsOf 78 = 1 := by kernel_rfl
set_option maxRecDepth 100000 in
theorem cells44 : Try.prog.cellsOf 44 = 1 := by kernel_rfl
set_option maxRecDepth 100000 in
theorem cells50 : Try.prog.cellsOf 50 = 1 := by kernel_rfl
set_option maxRecDepth 100000 in
theorem cells51 : Try.prog.cellsOf 51 = 1 := by kernel_rfl
set_option maxRecDepth 100000 in
theorem cells53 : Try.prog.cellsOf 53 = 9 := by kernel_rfl
set_option maxRecDepth 100000 in
theorem zints_of_trod (h : DataW.trod enc Try.prog w base sp held fuel 44 [v] = some x) : ∃ a cap zs, v = .slice a (List.length zs) cap ∧ H.IntsAt w a zs ∧ zs.length ≤ 9223372036854775807 := by
  rcases Go.Deep.open_slice1 Try.underlying44 cells3c h with ⟨h0, _⟩ | ⟨a, len, cap, m, n, V, D, Pl, hv, _, hl, hm, hmm, _, hc⟩
  · have hv : v = .slice none 0 0 := by simpa using h0
    subst hv
    exact ⟨none, 0, [], rfl, fun q => by simp at q, by simp⟩
  · have hv' : v = .slice (some a) len cap := by simpa using hv
    subst hv'
    have hlm : len ≤ m := by rw [hmm]; split <;> omega
    have key : ∀ i, ∃ z : Int, (i < len → w.cell? (a.add i) = some (.int .i64 z)) := fun i => by
      by_cases hi : i < len
      · obtain ⟨h1, h2⟩ := hc i (by omega)
        obtain ⟨z, hz, _⟩ := DataW.trod_int Try.underlying3 h2
        have hz' : V i = .int .i64 z := by simpa using hz
        exact ⟨z, fun _ => by rw [h1, hz']⟩
      · exact ⟨0, fun q => absurd q hi⟩
    obtain ⟨f, hf⟩ := Classical.skolem.1 key
    have hll : ((List.range len).map f).length = len := by simp
    refine ⟨some a, cap, (List.range len).map f, by rw [hll], fun h0 => ?_, by rw [hll]; unfold maxLen at hm; omega⟩
    rw [hll] at h0
    obtain ⟨b, off, rfl, hb⟩ := plain_addr (hf 0 (by omega))
    refine ⟨b, off, rfl, hb, fun i x hx => ?_⟩
    have hi : i < len := by have := (List.getElem?_eq_some_iff.1 hx).1; rwa [hll] at this
    have q := hf i hi
    rw [Go.WideShapes.add_plain] at q
    rw [q]
    rw [List.getElem?_map, List.getElem?_range hi] at hx
    exact congrArg some (congrArg (Value.int .i64) (by simpa using hx))
set_option maxRecDepth 100000 in
theorem steps_of_trod (h : DataW.trod enc Try.prog w base sp held fuel 50 [v] = some x) : ∃ a cap ss, v = .slice a (List.length ss) cap ∧ StepsAt w a ss ∧ ss.length ≤ 9223372036854775807 ∧ ∀ s ∈ ss, ∃ cs : List (Int × Int), cs.length = s.2.1 ∧ ChsAt w s.1 cs ∧ ∀ c ∈ cs, 0 ≤ c.2 ∧ c.2 ≤ 255 := by
  rcases Go.Deep.open_slice1 Try.underlying50 cells78 h with ⟨h0, _⟩ | ⟨a, len, cap, m, n, V, D, Pl, hv, _, hl, hm, hmm, _, hc⟩
  · have hv : v = .slice none 0 0 := by simpa using h0
    subst hv
    exact ⟨none, 0, [], rfl, fun q => by simp at q, by simp, fun s hs => by simp at hs⟩
  · have hv' : v = .slice (some a) len cap := by simpa using hv
    subst hv'
    have hlm : len ≤ m := by rw [hmm]; split <;> omega
    have key : ∀ i, ∃ s : Option Addr × Nat × Nat, (∃ cs : List (Int × Int), cs.length = s.2.1 ∧ ChsAt w s.1 cs ∧ ∀ c ∈ cs, 0 ≤ c.2 ∧ c.2 ≤ 255) ∧ (i < len → w.cell? (a.add i) = some (.slice s.1 s.2.1 s.2.2)) := fun i => by
      by_cases hi : i < len
      · obtain ⟨h1, h2⟩ := hc i (by omega)
        obtain ⟨a', cap', cs, hv, k1, _, k3⟩ := chs_of_trod h2
        exact ⟨(a', cs.length, cap'), ⟨cs, rfl, k1, k3⟩, fun _ => by rw [h1, hv]⟩
      · exact ⟨(none, 0, 0), ⟨[], rfl, fun q => by simp at q, fun c hc => by simp at hc⟩, fun q => absurd q hi⟩
    obtain ⟨f, hf⟩ := Classical.skolem.1 key
    have hll : ((List.range len).map f).length = len := by simp
    refine ⟨some a, cap, (List.range len).map f, by rw [hll], fun h0 => ?_, by rw [hll]; unfold maxLen at hm; omega, fun s hs => ?_⟩
    · rw [hll] at h0
      obtain ⟨b, off, rfl, hb⟩ := plain_addr ((hf 0).2 (by omega))
      refine ⟨b, off, rfl, hb, fun i x hx => ?_⟩
      have hi : i < len := by have := (List.getElem?_eq_some_iff.1 hx).1; rwa [hll] at this
      have q := (hf i).2 hi
      rw [Go.WideShapes.add_plain] at q
      rw [List.getElem?_map, List.getElem?_range hi] at hx
      have ex : f i = x := by simpa using hx
      rw [q, ex]
    · obtain ⟨k, _, rfl⟩ := List.mem_map.1 hs
      exact (hf k).1
set_option maxRecDepth 100000 in
theorem slice_of_trod {t e : TypeId} (ht : Try.prog.underlying t = some (.slice e)) (h : DataW.trod enc Try.prog w base sp held fuel t [v] = some x) : ∃ a n cap, v = .slice a n cap := by
  rcases Go.Deep.open_slice ht h with ⟨h0, _⟩ | ⟨a, len, cap, m, n, D, Pl, hv, _⟩
  · exact ⟨none, 0, 0, by simpa using h0⟩
  · exact ⟨some a, len, cap, by simpa using hv⟩
theorem array9v {cs : Array Value} (h : cs.size = 9) : ∃ c0 c1 c2 c3 c4 c5 c6 c7 c8, cs = #[c0, c1, c2, c3, c4, c5, c6, c7, c8] := array9 h
set_option maxRecDepth 100000 in
theorem open_play {r : Reach} {b0 : Nat} {d : DataW Hh} {pl : List MemPlace} (hv : Value.okWide Try.prog w1 r b0 53 v) (h : DataW.Trod enc Try.prog w base sp held 53 v d pl) :
    ∃ b l i p ss c p2 sy c2 st p3 n3 c3 ag p4 n4 c4, v = .agg (playA b l i p (List.length ss) c p2 (List.length sy) c2 st p3 n3 c3 ag p4 n4 c4) ∧ PlayAt w p ss p2 sy ∧ ss.length ≤ 9223372036854775807 ∧ sy.length ≤ 9223372036854775807 ∧ H.I64 st ∧ H.I64 ag := by
  obtain ⟨cs, rfl, hsz⟩ := okWide_struct Try.underlying53 hv
  rw [cells53] at hsz
  obtain ⟨c0, c1, c2, c3, c4, c5, c6, c7, c8, rfl⟩ := array9 hsz
  obtain ⟨fuel, hf⟩ := h
  obtain ⟨xs, m, rfl, _, _, hl, hx⟩ := DataW.trod_struct Try.underlying53 hf
  match xs, hl with
  | [y0, y1, y2, y3, y4, y5, y6], _ =>
    have h0 := hx 0 _ rfl
    have h1 := hx 1 _ rfl
    have h2 := hx 2 _ rfl
    have h3 := hx 3 _ rfl
    have h4 := hx 4 _ rfl
    have h5 := hx 5 _ rfl
    have h6 := hx 6 _ rfl
    simp [Value.cells, cellsI, cellsG, cells50, cells44, cells51] at h0 h1 h2 h3 h4 h5 h6
    obtain ⟨zs, m', rfl, _, _, hl', hz⟩ := DataW.trod_struct Try.underlying25 h0
    match zs, hl' with
    | [z0, z1, z2], _ =>
      have g0 := hz 0 _ rfl
      have g1 := hz 1 _ rfl
      have g2 := hz 2 _ rfl
      simp [cellsI] at g0 g1 g2
      obtain ⟨b, e0, _, _⟩ := DataW.trod_int Try.underlying3 g0
      obtain ⟨l, e1, _, _⟩ := DataW.trod_int Try.underlying3 g1
      obtain ⟨i, e2, _, _⟩ := DataW.trod_int Try.underlying3 g2
      obtain ⟨p, c, ss, e3, k1, k2, k3⟩ := steps_of_trod h1
      obtain ⟨p2, c2, sy, e4, k4, k5⟩ := zints_of_trod h2
      obtain ⟨st, e5, _, q5⟩ := DataW.trod_int Try.underlying3 h3
      obtain ⟨p3, n3, cc3, e6⟩ := slice_of_trod Try.underlying51 h4
      obtain ⟨ag, e7, _, q7⟩ := DataW.trod_int Try.underlying3 h5
      obtain ⟨p4, n4, cc4, e8⟩ := slice_of_trod Try.underlying51 h6
      simp at e0 e1 e2 e5 e7
      exact ⟨b, l, i, p, ss, c, p2, sy, c2, st, p3, n3, cc3, ag, p4, n4, cc4, by rw [e0, e1, e2, e3, e4, e5, e6, e7, e8]; rfl, ⟨k1, k3, k4⟩, k2, k5, bounds_i64 q5, bounds_i64 q7⟩
end
end Go.Proofs.Ytahaiciciljijaa
/- A play that came in, with the bits of both its choices; for all that can be read. -/
namespace Go.Proofs.Ytahaiciciljijaa
open Go.RowKit Go.ChangeShapes Go.WideShapes
section
variable {Hh : Type} {enc : TypeId × Value → Hh} {w w1 : World} {base : Nat} {sp : Nat → Bool} {held : Bool} {v : Value} {x : DataW Hh × List MemPlace} {fuel : Nat}
set_option maxRecDepth 100000 in
theorem cells4b : Try.prog.cellsOf 4 = 1 := by kernel_rfl
set_option maxRecDepth 100000 in
theorem bools_of_trod (h : DataW.trod enc Try.prog w base sp held fuel 51 [v] = some x) : ∃ a cap l, v = .slice a (List.length l) cap ∧ BoolsAt w v l ∧ l.length ≤ 9223372036854775807 := by
  rcases Go.Deep.open_slice1 Try.underlying51 cells4b h with ⟨h0, _⟩ | ⟨a, len, cap, m, n, V, D, Pl, hv, _, hl, hm, hmm, _, hc⟩
  · have hv : v = .slice none 0 0 := by simpa using h0
    subst hv
    exact ⟨none, 0, [], rfl, ⟨none, 0, rfl, fun q => by simp at q⟩, by simp⟩
  · have hv' : v = .slice (some a) len cap := by simpa using hv
    subst hv'
    have hlm : len ≤ m := by rw [hmm]; split <;> omega
    have key : ∀ i, ∃ z : Bool, (i < len → w.cell? (a.add i) = some (.bool z)) := fun i => by
      by_cases hi : i < len
      · obtain ⟨h1, h2⟩ := hc i (by omega)
        obtain ⟨z, hz, _⟩ := DataW.trod_bool Try.underlying4 h2
        have hz' : V i = .bool z := by simpa using hz
        exact ⟨z, fun _ => by rw [h1, hz']⟩
      · exact ⟨false, fun q => absurd q hi⟩
    obtain ⟨f, hf⟩ := Classical.skolem.1 key
    have hll : ((List.range len).map f).length = len := by simp
    refine ⟨some a, cap, (List.range len).map f, by rw [hll], ⟨some a, cap, by rw [hll], fun h0 => ?_⟩, by rw [hll]; unfold maxLen at hm; omega⟩
    rw [hll] at h0
    obtain ⟨b, off, rfl, hb⟩ := plain_addr (hf 0 (by omega))
    refine ⟨b, off, rfl, fun i x hx => ?_⟩
    have hi : i < len := by have := (List.getElem?_eq_some_iff.1 hx).1; rwa [hll] at this
    have q := hf i hi
    rw [Go.WideShapes.add_plain] at q
    rw [q]
    rw [List.getElem?_map, List.getElem?_range hi] at hx
    exact congrArg some (congrArg Value.bool (by simpa using hx))
set_option maxRecDepth 100000 in
theorem open_play2 {r : Reach} {b0 : Nat} {d : DataW Hh} {pl : List MemPlace} (hv : Value.okWide Try.prog w1 r b0 53 v) (h : DataW.Trod enc Try.prog w base sp held 53 v d pl) :
    ∃ b l i p ss c p2 sy c2 st p3 n3 c3 ag p4 n4 c4, v = .agg (playA b l i p (List.length ss) c p2 (List.length sy) c2 st p3 n3 c3 ag p4 n4 c4) ∧ PlayAt w p ss p2 sy ∧ ss.length ≤ 9223372036854775807 ∧ sy.length ≤ 9223372036854775807 ∧ H.I64 st ∧ H.I64 ag ∧ (∃ kl : List Bool, BoolsAt w (.slice p3 n3 c3) kl ∧ kl.length ≤ 9223372036854775807) ∧ ∃ kl2 : List Bool, BoolsAt w (.slice p4 n4 c4) kl2 ∧ kl2.length ≤ 9223372036854775807 := by
  obtain ⟨cs, rfl, hsz⟩ := okWide_struct Try.underlying53 hv
  rw [cells53] at hsz
  obtain ⟨c0, c1, c2, c3, c4, c5, c6, c7, c8, rfl⟩ := array9 hsz
  obtain ⟨fuel, hf⟩ := h
  obtain ⟨xs, m, rfl, _, _, hl, hx⟩ := DataW.trod_struct Try.underlying53 hf
  match xs, hl with
  | [y0, y1, y2, y3, y4, y5, y6], _ =>
    have h0 := hx 0 _ rfl
    have h1 := hx 1 _ rfl
    have h2 := hx 2 _ rfl
    have h3 := hx 3 _ rfl
    have h4 := hx 4 _ rfl
    have h5 := hx 5 _ rfl
    have h6 := hx 6 _ rfl
    simp [Value.cells, cellsI, cellsG, cells50, cells44, cells51] at h0 h1 h2 h3 h4 h5 h6
    obtain ⟨zs, m', rfl, _, _, hl', hz⟩ := DataW.trod_struct Try.underlying25 h0
    match zs, hl' with
    | [z0, z1, z2], _ =>
      have g0 := hz 0 _ rfl
      have g1 := hz 1 _ rfl
      have g2 := hz 2 _ rfl
      simp [cellsI] at g0 g1 g2
      obtain ⟨b, e0, _, _⟩ := DataW.trod_int Try.underlying3 g0
      obtain ⟨l, e1, _, _⟩ := DataW.trod_int Try.underlying3 g1
      obtain ⟨i, e2, _, _⟩ := DataW.trod_int Try.underlying3 g2
      obtain ⟨p, c, ss, e3, k1, k2, k3⟩ := steps_of_trod h1
      obtain ⟨p2, c2, sy, e4, k4, k5⟩ := zints_of_trod h2
      obtain ⟨st, e5, _, q5⟩ := DataW.trod_int Try.underlying3 h3
      obtain ⟨p3, cc3, kl, e6, k6, k7⟩ := bools_of_trod h4
      obtain ⟨ag, e7, _, q7⟩ := DataW.trod_int Try.underlying3 h5
      obtain ⟨p4, cc4, kl2, e8, k8, k9⟩ := bools_of_trod h6
      simp at e0 e1 e2 e5 e7
      exact ⟨b, l, i, p, ss, c, p2, sy, c2, st, p3, kl.length, cc3, ag, p4, kl2.length, cc4, by rw [e0, e1, e2, e3, e4, e5, e6, e7, e8]; rfl, ⟨k1, k3, k4⟩, k2, k5, bounds_i64 q5, bounds_i64 q7, ⟨kl, by rw [← e6]; exact k6, k7⟩, ⟨kl2, by rw [← e8]; exact k8, k9⟩⟩
end
end Go.Proofs.Ytahaiciciljijaa
