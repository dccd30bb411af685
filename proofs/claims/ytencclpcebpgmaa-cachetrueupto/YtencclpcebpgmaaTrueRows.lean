/- The law of what is put: under way; no condition but that fewer than a million steps came in. -/
import Derived.Test.YtencclpcebpgmaaTrue
import Derived.Test.YtencclpcebpgmaaFew
import Derived.Deep.Cut
namespace Go.Proofs.Ytencclpcebpgmaa
open Go.RowKit Go.Maps

/-- Sixteen numbers of 16 bits as cells. -/
def uRow (f : Int → Int) : Array Value := ((List.range 16).map fun (i : Nat) => Value.int .u16 (f i)).toArray
def bRow (f : Int → Bool) : Array Value := ((List.range 16).map fun (i : Nat) => Value.bool (f i)).toArray
theorem uRow_size (f : Int → Int) : (uRow f).size = 16 := by simp [uRow]
theorem bRow_size (f : Int → Bool) : (bRow f).size = 16 := by simp [bRow]
theorem uRow_get (f : Int → Int) (i : Nat) (h : i < 16) : (uRow f)[i]? = some (.int .u16 (f i)) := by simp [uRow, h]
theorem bRow_get (f : Int → Bool) (i : Nat) (h : i < 16) : (bRow f)[i]? = some (.bool (f i)) := by simp [bRow, h]
theorem uRow_set (f : Int → Int) (i : Nat) (x : Int) : (uRow f).setIfInBounds i (.int .u16 x) = uRow (fun j => if j = i then x else f j) := by
  apply Array.ext_getElem?
  intro j
  by_cases hj : j < 16
  · rw [Array.getElem?_setIfInBounds, uRow_size, uRow_get f j hj, uRow_get (fun j => if j = (i : Int) then x else f j) j hj]
    by_cases e : i = j
    · subst e; simp [hj]
    · have e' : ¬ (j : Int) = i := fun q => e (by omega)
      simp [e, e']
  · rw [Array.getElem?_eq_none (by rw [Array.size_setIfInBounds, uRow_size]; omega), Array.getElem?_eq_none (by rw [uRow_size]; omega)]
theorem bRow_set (f : Int → Bool) (i : Nat) (x : Bool) : (bRow f).setIfInBounds i (.bool x) = bRow (fun j => if j = i then x else f j) := by
  apply Array.ext_getElem?
  intro j
  by_cases hj : j < 16
  · rw [Array.getElem?_setIfInBounds, bRow_size, bRow_get f j hj, bRow_get (fun j => if j = (i : Int) then x else f j) j hj]
    by_cases e : i = j
    · subst e; simp [hj]
    · have e' : ¬ (j : Int) = i := fun q => e (by omega)
      simp [e, e']
  · rw [Array.getElem?_eq_none (by rw [Array.size_setIfInBounds, bRow_size]; omega), Array.getElem?_eq_none (by rw [bRow_size]; omega)]
/-- A step that came in: four cells at a place. -/
structure StepAt (w : World) (b off : Nat) where
  o : Int
  second : Bool
  pos : Int
  fill : Int
  hb : b < w.heap.size
  c0 : w.cell? ⟨b, off, none⟩ = some (.int .u8 o)
  c1 : w.cell? ⟨b, off + 1, none⟩ = some (.bool second)
  c2 : w.cell? ⟨b, off + 2, none⟩ = some (.int .i64 pos)
  c3 : w.cell? ⟨b, off + 3, none⟩ = some (.int .u16 fill)
  ho : 0 ≤ o ∧ o ≤ 255
  hp : I64 pos
  hf : 0 ≤ fill ∧ fill < 65536
def StepsAt (w : World) (p : Option Addr) (m : Nat) : Prop := ∀ r, r < m → ∃ b off, p = some ⟨b, off, none⟩ ∧ Nonempty (StepAt w b (off + r * 4))
theorem zero83 (u : World) : (zeroValue 83).run Try.prog u = .ok (.agg (bRow fun _ => false)) u := by
  have h : (Try.prog.info? 83).map (fun i => (i.zero, i.size)) = some (some (.agg (bRow fun _ => false)), 16) := by kernel_rfl
  exact (zero_of_info h).1 u
theorem zero81 (u : World) : (zeroValue 81).run Try.prog u = .ok (.agg (uRow fun _ => 0)) u := by
  have h : (Try.prog.info? 81).map (fun i => (i.zero, i.size)) = some (some (.agg (uRow fun _ => 0)), 16) := by kernel_rfl
  exact (zero_of_info h).1 u
theorem size81 : (Try.prog.info? 81).map (·.size) = some 16 := by
  have h : (Try.prog.info? 81).map (fun i => (i.zero, i.size)) = some (some (.agg (uRow fun _ => 0)), 16) := by kernel_rfl
  exact (zero_of_info h).2
theorem uRow_one (f : Int → Int) : (uRow f).all (·.oneCell') = true := by
  rw [Array.all_eq_true_iff_forall_mem]
  intro v hv
  simp [uRow] at hv
  obtain ⟨i, _, rfl⟩ := hv
  rfl
end Go.Proofs.Ytencclpcebpgmaa
