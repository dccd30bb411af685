/- A holding in memory: its row of 1028 cells; what a store of one of its fields turns; no condition. -/
import Derived.Test.YtencclpcebpgmaaRing
import Derived.Test.YtencclpcebpgmaaHold
namespace Go.Proofs.Ytencclpcebpgmaa
open Go.RowKit

def ptr (g : Nat) : Value := .pointer (some ⟨g, 0, none⟩)
/-- A holding's cells, whatever stands where its neighbours do. -/
def rowV (k : Int) (b : Bool) (p q : Value) (f : Nat → Int) : Array Value := (.int .i64 k :: .bool b :: p :: q :: (blk f).toList).toArray
def ndRow (n : Nd) : Array Value := rowV n.pos n.fast (ptr n.pv) (ptr n.nx) n.dat
theorem rowV_size (k : Int) (b : Bool) (p q : Value) (f : Nat → Int) : (rowV k b p q f).size = 1028 := by simp [rowV, blk_size]
theorem rowV_set1 (k : Int) (b c : Bool) (p q : Value) (f : Nat → Int) : (rowV k b p q f).setIfInBounds 1 (.bool c) = rowV k c p q f := by unfold rowV; rw [List.setIfInBounds_toArray]; rfl
theorem rowV_set2 (k : Int) (b : Bool) (p q r : Value) (f : Nat → Int) : (rowV k b p q f).setIfInBounds 2 r = rowV k b r q f := by unfold rowV; rw [List.setIfInBounds_toArray]; rfl
theorem rowV_set3 (k : Int) (b : Bool) (p q r : Value) (f : Nat → Int) : (rowV k b p q f).setIfInBounds 3 r = rowV k b p r f := by unfold rowV; rw [List.setIfInBounds_toArray]; rfl
variable {w : World} {g : Nat} {k : Int} {b : Bool} {p q : Value} {f : Nat → Int}
/-- A row at g. -/
def RowAt (w : World) (g : Nat) (k : Int) (b : Bool) (p q : Value) (f : Nat → Int) : Prop := w.heap[g]? = some (.cells (rowV k b p q f) 98)
theorem RowAt.c0 (h : RowAt w g k b p q f) : w.cell? ⟨g, 0, none⟩ = some (.int .i64 k) := Joins.cell_of_block h 0
theorem RowAt.c1 (h : RowAt w g k b p q f) : w.cell? ⟨g, 1, none⟩ = some (.bool b) := Joins.cell_of_block h 1
theorem RowAt.c2 (h : RowAt w g k b p q f) : w.cell? ⟨g, 2, none⟩ = some p := Joins.cell_of_block h 2
theorem RowAt.c3 (h : RowAt w g k b p q f) : w.cell? ⟨g, 3, none⟩ = some q := Joins.cell_of_block h 3
theorem RowAt.free (h : RowAt w g k b p q f) (i : Nat) : w.frozen? ⟨g, i, none⟩ = false := Joins.unfrozen_of_block h i
theorem RowAt.bytes (h : RowAt w g k b p q f) : BlkAt w g 4 f := fun j v hv => by
  rw [Joins.cell_of_block h]
  unfold rowV
  generalize (blk f).toList = l at *
  rw [List.getElem?_toArray, show 4 + j = j + 4 by omega]
  exact hv
theorem RowAt.set1 (h : RowAt w g k b p q f) (c : Bool) : RowAt (w.setCell ⟨g, 1, none⟩ (.bool c)) g k c p q f := (Joins.block_setCell h _).trans (by rw [rowV_set1])
theorem RowAt.set2 (h : RowAt w g k b p q f) (r : Value) : RowAt (w.setCell ⟨g, 2, none⟩ r) g k b r q f := (Joins.block_setCell h _).trans (by rw [rowV_set2])
theorem RowAt.set3 (h : RowAt w g k b p q f) (r : Value) : RowAt (w.setCell ⟨g, 3, none⟩ r) g k b p r f := (Joins.block_setCell h _).trans (by rw [rowV_set3])
theorem RowAt.other (h : RowAt w g k b p q f) {j : Nat} (i : Nat) (v : Value) (hne : g ≠ j) : RowAt (w.setCell ⟨j, i, none⟩ v) g k b p q f := (Below.heap_setCell w _ v g hne).trans h
/-- Some cells of a block stored one behind the other. -/
theorem block_setCells (g : Nat) (t : TypeId) (post : List Value) : ∀ (vs mid pre : List Value) (w : World), mid.length = vs.length → w.heap[g]? = some (.cells (pre ++ (mid ++ post)).toArray t) →
    (w.setCells g pre.length vs).heap[g]? = some (.cells (pre ++ (vs ++ post)).toArray t)
  | [], mid, pre, w, hl, h => by
    have : mid = [] := List.eq_nil_of_length_eq_zero hl
    subst this
    exact h
  | v :: r, [], pre, w, hl, h => by simp at hl
  | v :: r, m :: mid, pre, w, hl, h => by
    have h1 := Joins.block_setCell (i := pre.length) h v
    have e : (pre ++ (m :: mid ++ post)).toArray.setIfInBounds pre.length v = ((pre ++ [v]) ++ (mid ++ post)).toArray := by
      rw [List.setIfInBounds_toArray, List.set_append_right _ _ (Nat.le_refl _)]
      simp
    rw [e] at h1
    have h2 := block_setCells g t post r mid (pre ++ [v]) _ (by simpa using hl) h1
    simp only [List.length_append, List.length_cons, List.length_nil] at h2
    show ((w.setCell ⟨g, pre.length, none⟩ v).setCells g (pre.length + 1) r).heap[g]? = _
    rw [h2]
    simp
theorem heap_setCells (b : Nat) : ∀ (vs : List Value) (o : Nat) (w : World) (k : Nat), k ≠ b → (w.setCells b o vs).heap[k]? = w.heap[k]?
  | [], _, _, _, _ => rfl
  | v :: r, o, w, k, h => (heap_setCells b r (o + 1) _ k h).trans (Below.heap_setCell w _ v k h)
theorem size_setCells (b : Nat) : ∀ (vs : List Value) (o : Nat) (w : World), (w.setCells b o vs).heap.size = w.heap.size
  | [], _, _ => rfl
  | v :: r, o, w => (size_setCells b r (o + 1) _).trans (by simp)
theorem rest_setCells (b : Nat) : ∀ (vs : List Value) (o : Nat) (w : World), (w.setCells b o vs).os = w.os ∧ (w.setCells b o vs).tape = w.tape ∧ (w.setCells b o vs).output = w.output
  | [], _, _ => ⟨rfl, rfl, rfl⟩
  | v :: r, o, w => rest_setCells b r (o + 1) (w.setCell ⟨b, o, none⟩ v)
theorem Fr.setCells (w : World) (g o : Nat) (vs : List Value) : Fr (fun k => k = g) w (w.setCells g o vs) :=
  have h := rest_setCells g vs o w
  ⟨h.1, h.2.1, h.2.2, Nat.le_of_eq (size_setCells g vs o w).symm, fun k _ hn => heap_setCells g vs o w k hn⟩
theorem RowAt.setD (h : RowAt w g k b p q f) (f' : Nat → Int) : RowAt (w.setCells g 4 (blk f').toList) g k b p q f' := by
  have hl : (blk f).toList.length = (blk f').toList.length := by rw [blk_list_len, blk_list_len]
  unfold RowAt rowV at *
  generalize (blk f).toList = l at *
  generalize (blk f').toList = l' at *
  have := block_setCells g 98 [] l' l [.int .i64 k, .bool b, p, q] w hl (by simpa using h)
  simpa using this
theorem RowAt.there (h : RowAt w g k b p q f) : w.there g 4 1024 := fun j hj => by
  refine ⟨?_, h.free _⟩
  rw [Joins.cell_of_block h, Array.getElem?_eq_getElem (by rw [rowV_size]; omega)]
  rfl
theorem wpList_storeM {ops : Array Oper} {rest : List Oper} {o : Oper} {a : Act} {Q : Exit → Act → World → Prop} (hgd : o.guard = none) (x y : Operand) (ho : o.op = .store 59 x y)
    (hx : a.eval x = .pointer (some ⟨g, 4, none⟩)) (f' : Nat → Int) (hy : a.eval y = .agg (blk f')) (h : w.there g 4 1024)
    (hK : wpList Try.prog ops Q rest (a.put o.dst undef) (w.setCells g 4 (blk f').toList)) : wpList Try.prog ops Q (o :: rest) a w :=
  wpList_store_mid hgd 59 x y ho g 4 (blk f') hx hy (by rw [blk_size]; exact h) (by rw [blk_size]; exact size25) (blk_one f') hK
end Go.Proofs.Ytencclpcebpgmaa
