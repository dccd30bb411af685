/- The numbers that a table holds, rising, each with what it stands for; what an iterator over them must find kept; no condition. -/
import Derived.Test.YtbchbappdpbkiaaFd1
import Derived.Test.YtbchbappdpbkiaaSep
import Derived.Test.YtbchbappdpbkiaaRowN
import Derived.RangeFuncNested
import Derived.RangeFuncBound
import Derived.RangeFuncCalls
import Derived.RangeFuncLeaves
import Derived.RangeFuncFrom
import Derived.Shelf.Abstract
import Derived.Shelf.RegionOpen
import Derived.OwnWalkIn
import Derived.TacticsInMore
import Derived.LoopNIn
import Derived.LoopIn
import Derived.Sort.BigQuietIn
namespace Go.Proofs.Ytbchbappdpbkiaa
open Go.RowKit
theorem wide_fn (f : FuncId) : Fence.wide.fn f := trivial
theorem wide_depth : Fence.wide.depth = none := rfl
section
variable {α : Type}
def hlF : Nat → List (Option α) → List (Nat × α)
  | _, [] => []
  | i, none :: t => hlF (i + 1) t
  | i, some x :: t => (i, x) :: hlF (i + 1) t
/-- The numbers held, rising, each with what it stands for. -/
def hl (R : List (Option α)) : List (Nat × α) := hlF 0 R
theorem hlF_app : ∀ (i : Nat) (R S : List (Option α)), hlF i (R ++ S) = hlF i R ++ hlF (i + R.length) S
  | i, [], S => by simp [hlF]
  | i, none :: t, S => by
    simp only [List.cons_append, hlF, List.length_cons]
    rw [hlF_app (i + 1) t S, show i + 1 + t.length = i + (t.length + 1) by omega]
  | i, some x :: t, S => by
    simp only [List.cons_append, hlF, List.length_cons]
    rw [hlF_app (i + 1) t S, show i + 1 + t.length = i + (t.length + 1) by omega]
theorem hlF_len : ∀ (i : Nat) (R : List (Option α)), (hlF i R).length = cnt R
  | _, [] => rfl
  | i, none :: t => by simp only [hlF, cnt]; exact hlF_len (i + 1) t
  | i, some x :: t => by simp only [hlF, cnt, List.length_cons]; rw [hlF_len (i + 1) t]
theorem hl_len (R : List (Option α)) : (hl R).length = cnt R := hlF_len 0 R
theorem hl_take {R : List (Option α)} {k : Nat} {o : Option α} (h : R[k]? = some o) : hl (R.take (k + 1)) = hl (R.take k) ++ hlF k [o] := by
  have hk := (List.getElem?_eq_some_iff.1 h).1
  have e : R[k] = o := (List.getElem?_eq_some_iff.1 h).2
  rw [List.take_succ_eq_append_getElem hk, e]
  unfold hl
  rw [hlF_app, List.length_take, Nat.min_eq_left (by omega), Nat.zero_add]
theorem hl_pre (R : List (Option α)) (k : Nat) : hl (R.take k) <+: hl R := by
  conv => rhs; rw [← List.take_append_drop k R]
  unfold hl
  rw [hlF_app]
  exact List.prefix_append _ _
end
/-- A cell and a list's block stay. -/
def KpQ (q : Nat) (p : Option Addr) (A B : World) : Prop := B.heap[q]? = A.heap[q]? ∧ ∀ g, p = some ⟨g, 0, none⟩ → B.heap[g]? = A.heap[g]?
theorem KpQ.refl (q : Nat) (p : Option Addr) (A : World) : KpQ q p A A := ⟨rfl, fun _ _ => rfl⟩
theorem KpQ.trans {q : Nat} {p : Option Addr} {A B C : World} (h : KpQ q p A B) (k : KpQ q p B C) : KpQ q p A C := ⟨k.1.trans h.1, fun g e => (k.2 g e).trans (h.2 g e)⟩
theorem KpQ.cell {q : Nat} {p : Option Addr} {A B : World} (h : KpQ q p A B) : B.cell? ⟨q, 0, none⟩ = A.cell? ⟨q, 0, none⟩ := World.cell?_of_block h.1
theorem KpQ.below {q n : Nat} {p : Option Addr} {A B : World} (h : Below n A B) (hq : q < n) (hp : ∀ g, p = some ⟨g, 0, none⟩ → g < n) : KpQ q p A B := ⟨h.block q hq, fun g e => h.block g (hp g e)⟩
theorem kpQ_b {w : World} {q : Nat} {p : Option Addr} (hq : q < w.heap.size) (hp : ∀ g, p = some ⟨g, 0, none⟩ → g < w.heap.size) (W : World) (l : Nat) (o o' : Obj) (hl : w.heap.size ≤ l) (_ : W.heap[l]? = some o) (_ : o.isCells = false) (_ : o.isWalk = false) : KpQ q p W (W.putObj l o') :=
  ⟨World.putObj_heap_other (by omega), fun g e => World.putObj_heap_other (by have := hp g e; omega)⟩
/-- A block told whole. -/
def bxP (B : Nat) (cs : Array Value) (t : TypeId) : Part := ⟨fun k => k = B, fun W => W.heap[B]? = some (.cells cs t)⟩
theorem bxP_good (B : Nat) (cs : Array Value) (t : TypeId) : (bxP B cs t).Good := fun _ _ hs _ q => (q B rfl).trans hs
section
variable {w W W' : World} {l : List Part} {p : Part}
theorem Sep.box (h : Sep w W l) (cs : Array Value) (t : TypeId) : Sep w (W.alloc (.cells cs t)) (bxP W.heap.size cs t :: l) := by
  refine h.add (below_new _ _) (bxP_good _ _ _) (heap_alloc_new _ _) ?_
  rintro k rfl
  exact ⟨Nat.le_refl _, by simp⟩
theorem Sep.setBox {B : Nat} {cs : Array Value} {t : TypeId} (h : Sep w W (bxP B cs t :: l)) (i : Nat) (v : Value) : Sep w (W.setCell ⟨B, i, none⟩ v) (bxP B (cs.setIfInBounds i v) t :: l) := by
  refine h.turn (Fr.setCell W B i v) (fun k _ q => q) (bxP_good _ _ _) (heap_setCell_same _ _ _ _ _ _ h.head) ?_
  rintro k rfl
  have := (h.headLt (k := k) rfl).2
  exact ⟨.inl rfl, by simpa using this⟩
/-- What is not told grows. -/
theorem Sep.kept {row : Option Nat} (h : Sep w W l) (hg : W.grownBy W' row) (hr : ∀ r, row = some r → w.heap.size ≤ r ∧ ∀ p ∈ l, ¬ p.own r) : Sep w W' l := by
  refine ⟨h.good, fun p hp => h.good p hp W W' (h.say p hp) (fun k hk => (h.lt p hp k hk).2) fun k hk => hg.block k (h.lt p hp k hk).2 fun e => (hr k e.symm).2 p hp hk, fun p hp k hk => ⟨(h.lt p hp k hk).1, Nat.lt_of_lt_of_le (h.lt p hp k hk).2 hg.size⟩, h.apart, h.below.grown hg h.below.size fun j e => (hr j e).1⟩
theorem Sep.sayOf {q : Part} (h : Sep w W l) (hq : q ∈ l) : q.say W := h.say q hq
end
theorem eqB (c d : ByteArray) : (c.toList == d.toList) = decide (c = d) := by
  by_cases h : c = d
  · subst h; simp
  · rw [decide_eq_false h]
    apply beq_eq_false_iff_ne.2
    intro q
    rw [ByteArray.toList_eq, ByteArray.toList_eq] at q
    exact h (ByteArray.ext (by rw [← Array.toArray_toList (xs := c.data), q]))
end Go.Proofs.Ytbchbappdpbkiaa
