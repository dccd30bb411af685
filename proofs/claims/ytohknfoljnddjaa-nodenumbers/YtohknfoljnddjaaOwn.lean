/- Lists of block numbers in memory of the call's own: one or two appended, read; a hundred at most. -/
import Derived.Test.YtohknfoljnddjaaStands
import Derived.Laws.CopyOwn
import Derived.Laws.AppendOwnNone
import Derived.Laws.OwnMore
import Derived.RangeFuncBox
import Derived.Maps.AppendAt
namespace Go.Proofs.Ytohknfoljnddjaa
open Go.RowKit

def numsV (d : Nat → Int) (m : Nat) : List Value := (List.range m).map fun i => Value.int .u32 (d i)
/-- The slice v owns the first m numbers of d, in a block from base on. -/
def OwnD (w : World) (base : Nat) (v : Value) (d : Nat → Int) (m : Nat) : Prop := w.ownsRow base 24 1 v m (numsV d m)
theorem info24w : (Try.prog.info? 24).map (fun i => (i.zero, i.size, i.bytes)) = some (some (.int .u32 0), 1, 4) := by kernel_rfl
theorem numsV_snoc (d : Nat → Int) (m : Nat) : numsV d m ++ [.int .u32 (d m)] = numsV d (m + 1) := by simp [numsV, List.range_succ]
theorem numsV_two (d : Nat → Int) (m : Nat) : numsV d m ++ [.int .u32 (d m), .int .u32 (d (m + 1))] = numsV d (m + 2) := by simp [numsV, List.range_succ]
theorem OwnD.nil (w : World) (base : Nat) (d : Nat → Int) : OwnD w base (.slice none 0 0) d 0 := World.ownsRow_nil w base 24 1
theorem OwnD.later {w w' : World} {base : Nat} {v : Value} {d : Nat → Int} {m : Nat} (h : OwnD w base v d m) (hb : Below w.heap.size w w') : OwnD w' base v d m := by
  refine ⟨h.1, ?_⟩
  rcases h.2 with hn | ⟨g, cap, cur, rfl, hB, hg, rest⟩
  · exact .inl hn
  · exact .inr ⟨g, cap, cur, rfl, hB, heap_kept hg hb, rest⟩
theorem OwnD.slice {w : World} {base : Nat} {v : Value} {d : Nat → Int} {m : Nat} (h : OwnD w base v d m) (hm : 0 < m) : ∃ g cap, v = .slice (some ⟨g, 0, none⟩) m cap ∧ base ≤ g ∧ g < w.heap.size ∧ ∀ i, i < m → w.cell? ⟨g, i, none⟩ = some (.int .u32 (d i)) := by
  rcases h.2 with ⟨rfl, hn⟩ | ⟨g, cap, cur, rfl, hB, hg, h1, h2, h3, h4⟩
  · omega
  · refine ⟨g, cap, rfl, hB, (Array.getElem?_eq_some_iff.1 hg).1, fun i hi => ?_⟩
    rw [World.ownsRow.cellAt h i (by omega)]
    unfold numsV
    simp [hi]
theorem wpList_pushD {ops : Array Oper} {rest : List Oper} {o : Oper} {a : Act} {W : World} {Q : Exit → Act → World → Prop} (hgd : o.guard = none) (s x : Operand)
    (ho : o.op = .call { callee := .builtin .append, args := #[s, x], argTypes := #[52, 52] }) (base : Nat) (v : Value) (d : Nat → Int) (m : Nat) (hs : a.eval s = v)
    (hx : a.eval x = .slice (some ⟨W.heap.size, 0, none⟩) 1 1) (hown : OwnD W base v d m) (hn : m ≤ 100) (hbase : base ≤ W.heap.size)
    (h : ∀ v' w', OwnD w' base v' d (m + 1) → Below base W w' → wpList Try.prog ops Q rest (a.put o.dst v') w') :
    wpList Try.prog ops Q (o :: rest) a (W.alloc (.cells #[.int .u32 (d m)] 24)) := by
  obtain ⟨i0, hi0, hz0, hz1, hz2⟩ := info_parts info24w
  refine wpList_append_own _ hgd s x 52 ho base 24 i0 (.int .u32 0) 1 4 Try.underlying52 hi0 hz0 hz1 hz2 rfl (by decide) v m (numsV d m) hs (World.ownsRow.alloc hown _) ⟨W.heap.size, 0, none⟩ 1 1 [.int .u32 (d m)] hx rfl (cell_one_new _ _ _)
    (fun u hu => by simp at hu; subst hu; rfl) (by unfold maxLen; omega) (by omega) (by simp; omega) ?_
  intro v' w' hown' hg _
  refine h v' w' ?_ (((Below.refl _ _).alloc hbase _).grown hg (by simp; omega) fun k hk => (World.ownsRow.lt hown k hk).1)
  unfold OwnD
  rw [numsV_snoc] at hown'
  exact hown'
theorem wpList_pushD2 {ops : Array Oper} {rest : List Oper} {o : Oper} {a : Act} {W : World} {Q : Exit → Act → World → Prop} (hgd : o.guard = none) (s x : Operand)
    (ho : o.op = .call { callee := .builtin .append, args := #[s, x], argTypes := #[52, 52] }) (base : Nat) (v : Value) (d : Nat → Int) (m : Nat) (hs : a.eval s = v)
    (hx : a.eval x = .slice (some ⟨W.heap.size, 0, none⟩) 2 2) (hown : OwnD W base v d m) (hn : m ≤ 100) (hbase : base ≤ W.heap.size)
    (h : ∀ v' w', OwnD w' base v' d (m + 2) → Below base W w' → wpList Try.prog ops Q rest (a.put o.dst v') w') :
    wpList Try.prog ops Q (o :: rest) a (W.alloc (.cells #[.int .u32 (d m), .int .u32 (d (m + 1))] 24)) := by
  obtain ⟨i0, hi0, hz0, hz1, hz2⟩ := info_parts info24w
  refine wpList_append_own _ hgd s x 52 ho base 24 i0 (.int .u32 0) 1 4 Try.underlying52 hi0 hz0 hz1 hz2 rfl (by decide) v m (numsV d m) hs (World.ownsRow.alloc hown _) ⟨W.heap.size, 0, none⟩ 2 2 [.int .u32 (d m), .int .u32 (d (m + 1))] hx rfl (fun j u hu => by
      rw [Go.WideShapes.add_plain, cell_of_row _ W.heap.size _ _ 24 _ (heap_alloc_new _ _), Nat.zero_add]
      match j, hu with
      | 0, hu | 1, hu => exact hu
      | j + 2, hu => simp at hu)
    (fun u hu => by simp at hu; rcases hu with rfl | rfl <;> rfl) (by unfold maxLen; omega) (by omega) (by simp; omega) ?_
  intro v' w' hown' hg _
  refine h v' w' ?_ (((Below.refl _ _).alloc hbase _).grown hg (by simp; omega) fun k hk => (World.ownsRow.lt hown k hk).1)
  unfold OwnD
  rw [numsV_two] at hown'
  exact hown'
end Go.Proofs.Ytohknfoljnddjaa
