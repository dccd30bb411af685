/- The law of the chapter's numbers and examples answers true; no condition. -/
import Derived.Test.YtencclpcebpgmaaAwakeC
import Derived.Test.YtencclpcebpgmaaFew
namespace Go.Proofs.Ytencclpcebpgmaa
open Go.RowKit Go.Maps
def T10 (r : Int) : St := { newV 10 with reads := r }
def nmR (k : Nat) : List Int := match k with
  | 0 => []
  | 1 => [3]
  | 2 => [3, 4]
  | 3 => [4, 3]
  | _ => [3, 5]
def nmT (k : Nat) : Int := match k with
  | 0 => 0
  | 1 => 1
  | 2 => 2
  | 3 => 2
  | _ => 3
def nmA (k : Nat) : Int := match k with
  | 0 => 3
  | 1 => 4
  | 2 => 3
  | _ => 5
theorem nm_step (k : Nat) (hk : k < 4) : usedE ⟨2, rowP (nmR k)⟩ (T10 (nmT k)) (nmA k) = 0 ∧ rdC ⟨2, rowP (nmR k)⟩ (T10 (nmT k)) (nmA k) = ⟨2, rowP (nmR (k + 1))⟩ ∧ rdD ⟨2, rowP (nmR k)⟩ (T10 (nmT k)) (nmA k) = T10 (nmT (k + 1)) := by
  match k, hk with
  | 0, _ => exact ⟨rfl, rfl, rfl⟩
  | 1, _ => exact ⟨rfl, rfl, rfl⟩
  | 2, _ => exact ⟨rfl, rfl, rfl⟩
  | 3, _ => exact ⟨rfl, rfl, rfl⟩
theorem T10_room {r : Int} (h : r < 1000) : Room (T10 r) := ⟨by simp [T10, newV, St.ops], by simp [T10, newV], by simp [T10]; omega, by simp [T10, newV]⟩
def nC1 (f : Nat → Int) : CSt := ⟨2, [⟨3, false, nought⟩, ⟨5, true, f⟩]⟩
def nC2 (f g : Nat → Int) : CSt := ⟨2, [⟨5, true, f⟩, ⟨6, true, g⟩]⟩
def nC3 (f g : Nat → Int) : CSt := ⟨2, [⟨6, true, g⟩, ⟨5, true, f⟩]⟩
def nC4 (f g : Nat → Int) : CSt := ⟨2, [⟨6, false, g⟩, ⟨5, true, f⟩]⟩
def nC5 (f : Nat → Int) : CSt := ⟨2, [⟨5, true, f⟩, ⟨7, false, nought⟩]⟩
def nT4 (g : Nat → Int) : St := writeV (T10 3) 6 g
def nT5 (g : Nat → Int) : St := readS (nT4 g)
section
variable (f g : Nat → Int)
theorem n1 : usedE ⟨2, rowP [3, 5]⟩ (T10 3) 5 = 0 ∧ putC ⟨2, rowP [3, 5]⟩ (T10 3) 5 f = nC1 f := ⟨rfl, rfl⟩
theorem n2 : usedE (nC1 f) (T10 3) 6 = 0 ∧ putC (nC1 f) (T10 3) 6 g = nC2 f g := ⟨rfl, rfl⟩
theorem n3 : usedE (nC2 f g) (T10 3) 7 = 160 ∧ rdC (nC2 f g) (T10 3) 7 = nC2 f g ∧ rdD (nC2 f g) (T10 3) 7 = T10 3 ∧ putC (nC2 f g) (T10 3) 7 f = nC2 f g := ⟨rfl, rfl, rfl, rfl⟩
theorem n4 : usedE (nC2 f g) (T10 3) 5 = 0 ∧ rdB (nC2 f g) (T10 3) 5 = f ∧ rdC (nC2 f g) (T10 3) 5 = nC3 f g ∧ rdD (nC2 f g) (T10 3) 5 = T10 3 := ⟨rfl, rfl, rfl, rfl⟩
theorem n5 : flushE (nC3 f g) (T10 3) 6 = 0 ∧ flushC (nC3 f g) (T10 3) 6 = nC4 f g ∧ flushD (nC3 f g) (T10 3) 6 = nT4 g := ⟨rfl, rfl, rfl⟩
theorem n6 : usedE (nC4 f g) (nT4 g) 7 = 0 ∧ rdC (nC4 f g) (nT4 g) 7 = nC5 f ∧ rdD (nC4 f g) (nT4 g) 7 = nT5 g := ⟨rfl, rfl, rfl⟩
theorem n7 : usedE (nC5 f) (nT5 g) (-1) = 2 ∧ rdC (nC5 f) (nT5 g) (-1) = nC5 f ∧ rdD (nC5 f) (nT5 g) (-1) = nT5 g := ⟨rfl, rfl, rfl⟩
theorem n8 : flushE (nC5 f) (nT5 g) 9 = 0 ∧ flushC (nC5 f) (nT5 g) 9 = nC5 f ∧ flushD (nC5 f) (nT5 g) 9 = nT5 g := ⟨rfl, rfl, rfl⟩
theorem n9 : flushE (nC5 f) (nT5 g) 10 = 2 ∧ flushC (nC5 f) (nT5 g) 10 = nC5 f ∧ flushD (nC5 f) (nT5 g) 10 = nT5 g := ⟨rfl, rfl, rfl⟩
theorem nR4 : Room (nT4 g) := roomR 1 1 3 0 rfl rfl rfl rfl (by omega)
theorem nR5 : Room (nT5 g) := roomR 1 1 4 0 rfl rfl rfl rfl (by omega)
end
theorem ints_new2 (W : World) (x y : Int) : IntsAt (W.alloc (.cells #[.int .i64 x, .int .i64 y] 3)) (some ⟨W.heap.size, 0, none⟩) [x, y] := fun _ => by
  refine ⟨W.heap.size, 0, rfl, by simp, fun j z hz => ?_⟩
  rw [cell_of_row _ _ _ _ 3 _ (heap_alloc_new W _), Nat.zero_add]
  match j, hz with
  | 0, hz => simpa using hz
  | 1, hz => simpa using hz
  | j + 2, hz => simp at hz
end Go.Proofs.Ytencclpcebpgmaa
