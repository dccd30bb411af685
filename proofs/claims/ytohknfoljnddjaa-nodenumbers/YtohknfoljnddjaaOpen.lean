/- What an inode, a geometry and bytes that came in tell a walk; for all that can be read. -/
import Derived.Test.YtohknfoljnddjaaInode
import Derived.ProofKit
import Derived.OpenShut
namespace Go.Proofs.Ytohknfoljnddjaa
open Go.RowKit Go.ChangeShapes Go.WideShapes

/-- The slice is nil, or it leads to a row of cap cells, the numbers zs, each fitting its kind; the first len are its elements. -/
def IsRow (k : IntKind) (w : World) (a : Option Addr) (len cap : Nat) (zs : List Int) : Prop :=
  (a = none ∧ len = 0 ∧ cap = 0 ∧ zs = []) ∨
  ∃ x, a = some x ∧ len ≤ cap ∧ cap ≤ maxLen ∧ zs.length = cap ∧ (∀ i, i < zs.length → w.cell? (x.add i) = some (.int k (zs.getD i 0))) ∧ ∀ n ∈ zs, (Lit.int k n).wf = true
theorem lies_of {w : World} {a : Option Addr} {len cap : Nat} {zs : List Int} (h : IsRow .u8 w a len cap zs) : Lies w (.slice a len cap) len (fun i => zs.getD i 0) := by
  rcases h with ⟨rfl, rfl, rfl, rfl⟩ | ⟨x, rfl, hl, hm, hz, hc, _⟩
  · exact .inl ⟨_, _, rfl, rfl, fun _ => rfl⟩
  · by_cases h0 : len = 0
    · subst h0; exact .inl ⟨_, _, rfl, rfl, fun h => by cases h⟩
    · obtain ⟨b, off, rfl, hj⟩ := ints_at hc (by omega)
      have h1 := hj 0 (by omega)
      exact .inr ⟨b, off, cap, rfl, by omega, hl, block_lt_of_cell h1, fun i hi => hj i (by omega)⟩
theorem bytes_of {w : World} {a : Option Addr} {len cap : Nat} {zs : List Int} (h : IsRow .u8 w a len cap zs) : ∀ i, 0 ≤ zs.getD i 0 ∧ zs.getD i 0 ≤ 255 := by
  have hz : ∀ n ∈ zs, (Lit.int .u8 n).wf = true := by
    rcases h with ⟨_, _, _, rfl⟩ | ⟨_, _, _, _, _, _, hw⟩
    · simp
    · exact hw
  intro i
  by_cases hi : i < zs.length
  · have := hz (zs.getD i 0) (by simp [hi])
    exact bounds_u8 this
  · simp [List.getElem?_eq_none (Nat.le_of_not_lt hi)]

theorem cellsN : Try.prog.cellsOf 27 = 16 := by kernel_rfl
theorem cellsD : Try.prog.cellsOf 25 = 10 := by kernel_rfl
theorem cells24 : Try.prog.cellsOf 24 = 1 := by kernel_rfl
theorem cells23 : Try.prog.cellsOf 23 = 1 := by kernel_rfl
theorem cells22 : Try.prog.cellsOf 22 = 1 := by kernel_rfl
theorem cellsG : Try.prog.cellsOf 41 = 3 := by kernel_rfl
theorem cellsI : Try.prog.cellsOf 3 = 1 := by kernel_rfl
section
variable {H : Type} {enc : TypeId × Value → H} {w w1 : World} {base : Nat} {sp : Nat → Bool} {held : Bool} {r : Reach} {b0 : Nat} {v : Value} {d : DataW H} {p : List MemPlace}
theorem array3 {α : Type} {cs : Array α} (h : cs.size = 3) : ∃ c0 c1 c2, cs = #[c0, c1, c2] := by
  obtain ⟨l⟩ := cs
  match l, h with
  | [c0, c1, c2], _ => exact ⟨c0, c1, c2, rfl⟩
theorem open_geo (hv : Value.okWide Try.prog w r b0 41 v) (h : DataW.Trod enc Try.prog w1 base sp held 41 v d p) :
    ∃ (b l i : Int), I64 b ∧ I64 l ∧ I64 i ∧ v = geoV b l i := by
  obtain ⟨cs, rfl, hsz⟩ := okWide_struct Try.underlying41 hv
  rw [cellsG] at hsz
  obtain ⟨c0, c1, c2, rfl⟩ := array3 hsz
  obtain ⟨fuel, hf⟩ := h
  obtain ⟨xs, m, rfl, _, _, hl, hx⟩ := DataW.trod_struct Try.underlying41 hf
  match xs, hl with
  | [y0, y1, y2], _ =>
    have h0 := hx 0 _ rfl
    have h1 := hx 1 _ rfl
    have h2 := hx 2 _ rfl
    simp [Value.cells, cellsI] at h0 h1 h2
    obtain ⟨b, e0, _, q0⟩ := DataW.trod_int Try.underlying3 h0
    obtain ⟨l, e1, _, q1⟩ := DataW.trod_int Try.underlying3 h1
    obtain ⟨i, e2, _, q2⟩ := DataW.trod_int Try.underlying3 h2
    simp at e0 e1 e2
    exact ⟨b, l, i, bounds_i64 q0, bounds_i64 q1, bounds_i64 q2, by rw [e0, e1, e2]; rfl⟩
theorem array16 {α : Type} {cs : Array α} (h : cs.size = 16) : ∃ c0 c1 c2 c3 c4 c5 c6 c7 c8 c9 c10 c11 c12 c13 c14 c15, cs = #[c0, c1, c2, c3, c4, c5, c6, c7, c8, c9, c10, c11, c12, c13, c14, c15] := by
  obtain ⟨l⟩ := cs
  match l, h with
  | [c0, c1, c2, c3, c4, c5, c6, c7, c8, c9, c10, c11, c12, c13, c14, c15], _ => exact ⟨c0, c1, c2, c3, c4, c5, c6, c7, c8, c9, c10, c11, c12, c13, c14, c15, rfl⟩
theorem open_node (hv : Value.okWide Try.prog w r b0 27 v) (h : DataW.Trod enc Try.prog w1 base sp held 27 v d p) :
    ∃ (k l s b : Int) (d : Nat → Int), NodeOk k l s b d ∧ v = .agg (node16 k l s b d) := by
  obtain ⟨cs, rfl, hsz⟩ := okWide_struct Try.underlying27 hv
  rw [cellsN] at hsz
  obtain ⟨c0, c1, c2, c3, c4, c5, c6, c7, c8, c9, c10, c11, c12, c13, c14, c15, rfl⟩ := array16 hsz
  obtain ⟨fuel, hf⟩ := h
  obtain ⟨xs, m, rfl, _, _, hl, hx⟩ := DataW.trod_struct Try.underlying27 hf
  match xs, hl with
  | [y0, y1, y2, y3, y4, y5, y6], _ =>
    have h0 := hx 0 _ rfl
    have h1 := hx 1 _ rfl
    have h2 := hx 2 _ rfl
    have h3 := hx 3 _ rfl
    have h4 := hx 4 _ rfl
    have h5 := hx 5 _ rfl
    have h6 := hx 6 _ rfl
    simp [Value.cells, cells24, cells23, cells22, cellsD] at h0 h1 h2 h3 h4 h5 h6
    obtain ⟨zs, m', rfl, _, _, hl', hz⟩ := DataW.trod_array Try.underlying25 h4
    have hc : ∀ i, i < 10 → ∃ z : Int, (0 ≤ z ∧ z < 4294967296) ∧ [c4, c5, c6, c7, c8, c9, c10, c11, c12, c13][i]? = some (.int .u32 z) := by
      intro i hi
      have h1 := hz i hi
      rw [cells24, Nat.mul_one] at h1
      have hi' : i < zs.length := by omega
      rw [List.getElem?_eq_getElem hi'] at h1
      obtain ⟨z, hz, _, hw⟩ := DataW.trod_int Try.underlying24 h1
      refine ⟨z, by have := bounds_u32 hw; omega, ?_⟩
      have := congrArg (·[0]?) hz
      simpa [List.getElem?_take, List.getElem?_drop, Value.cells] using this
    obtain ⟨k, e0, _, q0⟩ := DataW.trod_int Try.underlying23 h0
    obtain ⟨l, e1, _, q1⟩ := DataW.trod_int Try.underlying22 h1
    obtain ⟨s, e2, _, q2⟩ := DataW.trod_int Try.underlying24 h2
    obtain ⟨b, e3, _, q3⟩ := DataW.trod_int Try.underlying24 h3
    obtain ⟨x, e5, _, q5⟩ := DataW.trod_int Try.underlying24 h5
    obtain ⟨y, e6, _, q6⟩ := DataW.trod_int Try.underlying24 h6
    simp at e0 e1 e2 e3 e5 e6
    obtain ⟨d0, p0, r0⟩ := hc 0 (by omega)
    obtain ⟨d1, p1, r1⟩ := hc 1 (by omega)
    obtain ⟨d2, p2, r2⟩ := hc 2 (by omega)
    obtain ⟨d3, p3, r3⟩ := hc 3 (by omega)
    obtain ⟨d4, p4, r4⟩ := hc 4 (by omega)
    obtain ⟨d5, p5, r5⟩ := hc 5 (by omega)
    obtain ⟨d6, p6, r6⟩ := hc 6 (by omega)
    obtain ⟨d7, p7, r7⟩ := hc 7 (by omega)
    obtain ⟨d8, p8, r8⟩ := hc 8 (by omega)
    obtain ⟨d9, p9, r9⟩ := hc 9 (by omega)
    simp at r0 r1 r2 r3 r4 r5 r6 r7 r8 r9
    have b5 := bounds_u32 q5
    have b6 := bounds_u32 q6
    refine ⟨k, l, s, b, fun i => [d0, d1, d2, d3, d4, d5, d6, d7, d8, d9, x, y].getD i 0, ⟨by have := bounds_u16 q0; omega, by have := bounds_u16 q1; omega, by have := bounds_u32 q2; omega, by have := bounds_u32 q3; omega, fun i => ?_⟩, ?_⟩
    · match i with
      | 0 => exact p0
      | 1 => exact p1
      | 2 => exact p2
      | 3 => exact p3
      | 4 => exact p4
      | 5 => exact p5
      | 6 => exact p6
      | 7 => exact p7
      | 8 => exact p8
      | 9 => exact p9
      | 10 => exact ⟨b5.1, Int.lt_of_le_of_lt b5.2 (by decide)⟩
      | 11 => exact ⟨b6.1, Int.lt_of_le_of_lt b6.2 (by decide)⟩
      | i + 12 => exact ⟨Int.le_refl _, show (0 : Int) < 4294967296 by decide⟩
    · rw [e0, e1, e2, e3, e5, e6, r0, r1, r2, r3, r4, r5, r6, r7, r8, r9]
      rfl
end
end Go.Proofs.Ytohknfoljnddjaa
