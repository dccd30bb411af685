/- Geometries and slices of numbers as they came in; no condition. -/
import Derived.Test.YtgkhheblmknedaaInts
import Derived.ProofKit
import Derived.OpenShut
import Derived.ChangeOld
namespace Go.Proofs.Ytgkhheblmknedaa
open Go.RowKit Go.WideShapes Go.ChangeShapes
def IsRow (k : IntKind) (w : World) (a : Option Addr) (len cap : Nat) (zs : List Int) : Prop :=
  (a = none ∧ len = 0 ∧ cap = 0 ∧ zs = []) ∨
  ∃ x, a = some x ∧ len ≤ cap ∧ cap ≤ maxLen ∧ zs.length = cap ∧ (∀ i, i < zs.length → w.cell? (x.add i) = some (.int k (zs.getD i 0))) ∧ ∀ n ∈ zs, (Lit.int k n).wf = true
theorem len_le {k : IntKind} {w : World} {a : Option Addr} {len cap m : Nat} {zs : List Int} (h : IsRow k w a len cap zs) (hm : cap ≤ m) : len ≤ m := by
  rcases h with ⟨_, rfl, _, _⟩ | ⟨_, _, hl, _⟩
  · omega
  · omega
theorem none_cap {k : IntKind} {w : World} {a : Option Addr} {len cap : Nat} {zs : List Int} (h : IsRow k w a len cap zs) : a = none → cap = 0 := by
  rcases h with ⟨_, _, rfl, _⟩ | ⟨x, rfl, _⟩
  · exact fun _ => rfl
  · intro q; cases q
/-- Numbers of four bytes that lie in memory. -/
def WordsAt (w : World) (p : Option Addr) (zs : List Int) : Prop := 0 < zs.length → ∃ b off, p = some ⟨b, off, none⟩ ∧ b < w.heap.size ∧ ∀ j x, zs[j]? = some x → w.cell? ⟨b, off + j, none⟩ = some (.int .u32 x)
theorem WordsAt.later {w W : World} {p : Option Addr} {l : List Int} (h : WordsAt w p l) (hb : Below w.heap.size w W) : WordsAt W p l := fun h0 => by
  obtain ⟨b, off, h1, h2, h3⟩ := h h0
  exact ⟨b, off, h1, Nat.lt_of_lt_of_le h2 hb.size, fun j x hx => (hb.cell (p := ⟨b, off + j, none⟩) h2).trans (h3 j x hx)⟩
theorem row_at {k : IntKind} {w : World} {a : Option Addr} {len cap : Nat} {zs : List Int} (h : IsRow k w a len cap zs) : (zs.take len).length = len ∧ (0 < (zs.take len).length → ∃ b off, a = some ⟨b, off, none⟩ ∧ b < w.heap.size ∧ ∀ j x, (zs.take len)[j]? = some x → w.cell? ⟨b, off + j, none⟩ = some (.int k x)) ∧ ∀ n ∈ zs.take len, (Lit.int k n).wf = true := by
  rcases h with ⟨rfl, rfl, rfl, rfl⟩ | ⟨x, rfl, hl, hm, hz, hc, hw⟩
  · exact ⟨by simp, fun h => by simp at h, fun n hn => by simp at hn⟩
  · have e : (zs.take len).length = len := by rw [List.length_take]; omega
    refine ⟨e, fun h0 => ?_, fun n hn => hw n (List.mem_of_mem_take hn)⟩
    obtain ⟨b, off, rfl, hj⟩ := ints_at hc (by omega)
    refine ⟨b, off, rfl, block_lt_of_cell (hj 0 (by omega)), fun j y hy => ?_⟩
    have hjl : j < len := by have := (List.getElem?_eq_some_iff.1 hy).1; omega
    have h1 := hj j (by omega)
    rw [List.getElem?_take, if_pos hjl] at hy
    rw [h1, List.getD_eq_getElem?_getD, hy]
    rfl
theorem cellsG : Try.prog.cellsOf 23 = 3 := by kernel_rfl
theorem cellsI : Try.prog.cellsOf 3 = 1 := by kernel_rfl
section
variable {H : Type} {enc : TypeId × Value → H} {w w1 : World} {r : Reach} {b0 base : Nat} {sp : Nat → Bool} {held : Bool} {v : Value} {d : DataW H} {p : List MemPlace}
theorem array3 {α : Type} {cs : Array α} (h : cs.size = 3) : ∃ c0 c1 c2, cs = #[c0, c1, c2] := by
  obtain ⟨l⟩ := cs
  match l, h with
  | [c0, c1, c2], _ => exact ⟨c0, c1, c2, rfl⟩
theorem open_geo (hv : Value.okWide Try.prog w r b0 23 v) (h : DataW.Trod enc Try.prog w1 base sp held 23 v d p) :
    ∃ (b l i : Int), I64 b ∧ I64 l ∧ I64 i ∧ v = geoV b l i := by
  obtain ⟨cs, rfl, hsz⟩ := okWide_struct Try.underlying23 hv
  rw [cellsG] at hsz
  obtain ⟨c0, c1, c2, rfl⟩ := array3 hsz
  obtain ⟨fuel, hf⟩ := h
  obtain ⟨xs, m, rfl, _, _, hl, hx⟩ := DataW.trod_struct Try.underlying23 hf
  match xs, hl with
  | [y0, y1, y2], _ =>
    have h0 := hx 0 _ rfl
    have h1 := hx 1 _ rfl
    have h2 := hx 2 _ rfl
    simp [Value.cells, cellsI] at h0 h1 h2
    obtain ⟨b, e0, _, q0⟩ := DataW.trod_int Try.underlying3 h0
    obtain ⟨l, e1, _, q1⟩ := DataW.trod_int Try.underlying3 h1
    obtain ⟨i, e2, _, q2⟩ := DataW.trod_int Try.underlying3 h2
    simp at e0 e1 e2
    exact ⟨b, l, i, bounds_i64 q0, bounds_i64 q1, bounds_i64 q2, by rw [e0, e1, e2]; rfl⟩
end
end Go.Proofs.Ytgkhheblmknedaa
