/- Rows of numbers of one kind as functions of their places; compared, loaded from the middle of rows; no condition. -/
import Derived.Test.YtbchbappdpbkiaaBase
namespace Go.Proofs.Ytbchbappdpbkiaa
open Go.RowKit Go.Maps
/-- A row of n numbers of a kind, f of each place. -/
def rowN (kd : IntKind) (f : Nat → Int) (n : Nat) : Array Value := ((List.range n).map fun i => Value.int kd (f i)).toArray
def updN (f : Nat → Int) (i : Nat) (x : Int) : Nat → Int := fun j => if j = i then x else f j
def nought : Nat → Int := fun _ => 0
/-- A block's cells. -/
def blk (f : Nat → Int) : Array Value := rowN .u8 f 1024
theorem rowN_size (kd : IntKind) (f : Nat → Int) (n : Nat) : (rowN kd f n).size = n := by simp [rowN]
theorem rowN_get (kd : IntKind) (f : Nat → Int) (n i : Nat) (h : i < n) : (rowN kd f n)[i]? = some (.int kd (f i)) := by simp [rowN, h]
theorem rowN_ext {kd : IntKind} {cs : Array Value} {f : Nat → Int} {n : Nat} (hs : cs.size = n) (h : ∀ i, i < n → cs[i]? = some (.int kd (f i))) : cs = rowN kd f n := by
  apply Array.ext_getElem?
  intro j
  by_cases hj : j < n
  · rw [h j hj, rowN_get _ _ _ _ hj]
  · rw [Array.getElem?_eq_none (by omega), Array.getElem?_eq_none (by rw [rowN_size]; omega)]
theorem rowN_congr {kd : IntKind} {f g : Nat → Int} {n : Nat} (h : ∀ i, i < n → f i = g i) : rowN kd f n = rowN kd g n :=
  rowN_ext (rowN_size kd f n) fun i hi => by rw [rowN_get _ _ _ _ hi, h i hi]
theorem rowN_set (kd : IntKind) (f : Nat → Int) (n i : Nat) (x : Int) : (rowN kd f n).setIfInBounds i (.int kd x) = rowN kd (updN f i x) n := by
  refine rowN_ext (by rw [Array.size_setIfInBounds, rowN_size]) fun j hj => ?_
  rw [Array.getElem?_setIfInBounds]
  by_cases e : i = j
  · subst e; simp [rowN_size, hj, updN]
  · have e' : ¬ j = i := fun q => e q.symm
    simp [e, e', rowN_get _ _ _ _ hj, updN]
theorem rowN_one (kd : IntKind) (f : Nat → Int) (n : Nat) : (rowN kd f n).all (·.oneCell') = true := by
  rw [Array.all_eq_true_iff_forall_mem]
  intro v hv
  simp [rowN] at hv
  obtain ⟨i, _, rfl⟩ := hv
  rfl
theorem setCell_rowN {w : World} {g m : Nat} {kd : IntKind} {f : Nat → Int} {t : TypeId} (h : w.heap[g]? = some (.cells (rowN kd f m) t)) (i : Nat) (x : Int) : (w.setCell ⟨g, i, none⟩ (.int kd x)).heap[g]? = some (.cells (rowN kd (updN f i x) m) t) := by
  rw [heap_setCell_same _ _ _ _ _ _ h, rowN_set]
theorem cell_rowN {w : World} {g m : Nat} {kd : IntKind} {f : Nat → Int} {t : TypeId} (h : w.heap[g]? = some (.cells (rowN kd f m) t)) {i : Nat} (hi : i < m) : w.cell? ⟨g, i, none⟩ = some (.int kd (f i)) := by
  rw [cell_of_row _ _ i _ t _ h, rowN_get _ _ _ _ hi]
theorem frozen_row {w : World} {g : Nat} {cs : Array Value} {t : TypeId} (h : w.heap[g]? = some (.cells cs t)) (i : Nat) : w.frozen? ⟨g, i, none⟩ = false := by simp [World.frozen?, h]
theorem heap_two (w : World) (a b : Obj) : ((w.alloc a).alloc b).heap[w.heap.size + 1]? = some b := by
  have := heap_alloc_new (w.alloc a) b
  simpa using this
/-- A row of numbers that lies in a larger row. -/
def NumsAt (w : World) (kd : IntKind) (b off : Nat) (f : Nat → Int) (n : Nat) : Prop := ∀ i, i < n → w.cell? ⟨b, off + i, none⟩ = some (.int kd (f i))
theorem NumsAt.later {w W : World} {kd : IntKind} {b off n : Nat} {f : Nat → Int} (h : NumsAt w kd b off f n) (hb : Below w.heap.size w W) (hlt : b < w.heap.size) : NumsAt W kd b off f n := fun i hi => (hb.cell (p := ⟨b, off + i, none⟩) hlt).trans (h i hi)
theorem NumsAt.of {w : World} {kd : IntKind} {g n : Nat} {f : Nat → Int} {t : TypeId} (h : w.heap[g]? = some (.cells (rowN kd f n) t)) : NumsAt w kd g 0 f n := fun i hi => by rw [Nat.zero_add]; exact cell_rowN h hi
theorem blk_at {w : World} {g : Nat} {f : Nat → Int} {t : TypeId} (h : w.heap[g]? = some (.cells (blk f) t)) : NumsAt w .u8 g 0 f 1024 := NumsAt.of (n := 1024) h
theorem blk_size (f : Nat → Int) : (blk f).size = 1024 := rowN_size _ _ _
section
variable {ops : Array Oper} {rest : List Oper} {o : Oper} {a : Act} {w : World} {Q : Exit → Act → World → Prop}
end
end Go.Proofs.Ytbchbappdpbkiaa
