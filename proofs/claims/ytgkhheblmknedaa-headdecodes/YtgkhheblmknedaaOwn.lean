/- Lists of numbers that the call makes, appended to; blocks compared; a block laid in a drawn region. -/
import Derived.Test.YtgkhheblmknedaaAwake
import Derived.Test.YtgkhheblmknedaaSteps
import Derived.Laws.CopyOwn
import Derived.Laws.AppendOwnNone
import Derived.Laws.OwnMore
namespace Go.Proofs.Ytgkhheblmknedaa
open Go.RowKit
section
variable {ops : Array Oper} {rest : List Oper} {o : Oper} {a : Act} {w : World} {Q : Exit → Act → World → Prop}
theorem eq30 (f g : Nat → Int) (b : Bool) (hb : sameB f g = b) (u : World) : (binOp .eql 30 (.agg (blk f)) (.agg (blk g))).run Try.prog u = .ok (.bool b) u := by
  have h := eq25 f g u
  rw [hb] at h
  generalize blk f = F at *
  generalize blk g = G at *
  simp only [binOp, Op.equal, Op.maxDepth, Sem.run_bind, h, Result.andThen_ok, Sem.run_pure]
theorem eqg30 (x y : Operand) (F G : Array Value) (u : World) : (eqGuard .eql 30 x y (.agg F) (.agg G)).run Try.prog u = .ok () u := by
  unfold eqGuard
  simp
theorem neq30 (f g : Nat → Int) (b : Bool) (hb : sameB f g = b) (u : World) : (binOp .neq 30 (.agg (blk f)) (.agg (blk g))).run Try.prog u = .ok (.bool (!b)) u := by
  have h := eq25 f g u
  rw [hb] at h
  generalize blk f = F at *
  generalize blk g = G at *
  simp only [binOp, Op.equal, Op.maxDepth, Sem.run_bind, h, Result.andThen_ok, Sem.run_pure]
theorem neqg30 (x y : Operand) (F G : Array Value) (u : World) : (eqGuard .neq 30 x y (.agg F) (.agg G)).run Try.prog u = .ok () u := by
  unfold eqGuard
  simp
theorem wpList_eq30 (hw : Region.wanted o (yielded ops a.tmps) = true) (x y : Operand) (ho : o.op = .binOp .eql 30 x y 30) (f g : Nat → Int) (b : Bool) (hx : a.eval x = .agg (blk f)) (hy : a.eval y = .agg (blk g)) (hb : sameB f g = b)
    (h : wpList Try.prog ops Q rest (a.put o.dst (.bool b)) w) : wpList Try.prog ops Q (o :: rest) a w := by
  unfold wpList
  rw [if_pos hw]
  refine .inl ?_
  have e := eq30 f g b hb w
  unfold Oper.wp execOp
  simp only [ho, hx, hy, Sem.run_bind, eqg30, e, Result.andThen_ok, Sem.run_pure]
  exact h
theorem wpList_neq30 (hw : Region.wanted o (yielded ops a.tmps) = true) (x y : Operand) (ho : o.op = .binOp .neq 30 x y 30) (f g : Nat → Int) (b : Bool) (hx : a.eval x = .agg (blk f)) (hy : a.eval y = .agg (blk g)) (hb : sameB f g = b)
    (h : wpList Try.prog ops Q rest (a.put o.dst (.bool (!b))) w) : wpList Try.prog ops Q (o :: rest) a w := by
  unfold wpList
  rw [if_pos hw]
  refine .inl ?_
  have e := neq30 f g b hb w
  unfold Oper.wp execOp
  simp only [ho, hx, hy, Sem.run_bind, neqg30, e, Result.andThen_ok, Sem.run_pure]
  exact h
theorem build30 (u : World) : (Instr.build 30 #[]).run Try.prog u = .ok (.agg (blk nought)) u := by
  have z25 := zero25
  simp [Instr.build, z25, run_underlying Try.underlying30, Try.sizeOf5, Instr.fill, Value.cells]
theorem wpList_build30w (hw : Region.wanted o (yielded ops a.tmps) = true) (ho : o.op = .build 30 #[])
    (h : wpList Try.prog ops Q rest (a.put o.dst (.agg (blk nought))) w) : wpList Try.prog ops Q (o :: rest) a w := by
  unfold wpList
  rw [if_pos hw]
  refine .inl ?_
  have hb := build30 w
  generalize blk nought = Z at *
  have e : (execOp a.eval o).run Try.prog w = .ok (.value (.agg Z)) w := by
    unfold execOp
    simp only [ho, Array.map_empty, Sem.run_bind]
    simp only [hb, Result.andThen_ok, Sem.run_pure]
  unfold Oper.wp
  rw [e]
  exact h
theorem act_done {S : World → Prop} {K : Act → World → Prop} {w' : World} (hw : Region.wanted o (yielded ops a.tmps) = true) (hr : (execOp a.eval o).run Try.prog w = .ok .skip w') (hS : S w') (h : K (a.put o.dst undef) w') : wpAct Try.prog ops Q S o K a w := by
  unfold wpAct
  rw [if_pos hw]
  unfold Oper.wp
  rw [hr]
  exact ⟨hS, h⟩
theorem exec_allocB (ho : o.op = .alloc 30) : (execOp a.eval o).run Try.prog w = .ok (.value (.pointer (some ⟨w.heap.size, 0, none⟩))) (w.alloc (.cells (blk nought) 30)) := by
  have z := zero25
  unfold execOp
  generalize blk nought = Z at *
  simp [ho, go_sem, z]
theorem exec_storeB {x y : Operand} (ho : o.op = .store 30 x y) (g : Nat) (f f0 : Nat → Int) (hx : a.eval x = .pointer (some ⟨g, 0, none⟩)) (hy : a.eval y = .agg (blk f)) (hg : w.heap[g]? = some (.cells (blk f0) 30)) :
    (execOp a.eval o).run Try.prog w = .ok .skip (w.setRow g (blk f)) := by
  unfold execOp
  simp only [ho, hx, hy, Instr.storeAt, Instr.sureAddr, Sem.run_bind, Sem.run_pure, Result.andThen_ok, run_storeVar_row w g 30 30 (blk f0) (blk f) hg (by rw [blk_size]; exact size25) (by rw [blk_size, blk_size]) (blk_one f)]
theorem exec_loadB {x : Operand} (ho : o.op = .load 30 x) (g : Nat) (f : Nat → Int) (hx : a.eval x = .pointer (some ⟨g, 0, none⟩)) (hg : w.heap[g]? = some (.cells (blk f) 30)) : (execOp a.eval o).run Try.prog w = .ok (.value (.agg (blk f))) w := by
  unfold execOp
  simp only [ho, hx, Instr.loadAt, Instr.sureAddr, Sem.run_bind, Sem.run_pure, Result.andThen_ok, load30L w g f hg]
theorem exec_loadL {x : Operand} {g : Nat} {cs : Array Value} (ho : o.op = .load 26 x) (hx : a.eval x = .pointer (some ⟨g, 0, none⟩)) (hs : cs.size = 9) (hg : w.heap[g]? = some (.cells cs 26)) : (execOp a.eval o).run Try.prog w = .ok (.value (.agg cs)) w := by
  unfold execOp
  simp only [ho, hx, Instr.loadAt, Instr.sureAddr, Sem.run_bind, Sem.run_pure, Result.andThen_ok, load25L w g cs hg hs]
theorem drew_below (w : World) : Below w.heap.size w w.drew := (Below.refl _ _).drew
theorem last_new (X : World) (o : Obj) (n : Nat) (h : X.heap.size = n) : (X.alloc o).heap[n]? = some o := by subst h; exact heap_alloc_new _ _
/-- The slice v owns the numbers zs, in a block from base on. -/
def OwnZ (w : World) (base : Nat) (v : Value) (zs : List Int) : Prop := w.ownsRow base 3 1 v zs.length (zs.map (Value.int .i64))
theorem OwnZ.nil (w : World) (base : Nat) : OwnZ w base (.slice none 0 0) [] := World.ownsRow_nil w base 3 1
theorem OwnZ.later {w w' : World} {base : Nat} {v : Value} {xs : List Int} (h : OwnZ w base v xs) (hb : Below w.heap.size w w') : OwnZ w' base v xs := by
  refine ⟨h.1, ?_⟩
  rcases h.2 with hn | ⟨g, cap, cur, rfl, hB, hg, rest⟩
  · exact .inl hn
  · exact .inr ⟨g, cap, cur, rfl, hB, heap_kept hg hb, rest⟩
theorem OwnZ.ints {w : World} {base : Nat} {v : Value} {zs : List Int} (h : OwnZ w base v zs) : ∃ p c, v = .slice p zs.length c ∧ IntsAt w p zs ∧ zs.length ≤ c ∧ ∀ b off, p = some ⟨b, off, none⟩ → base ≤ b := ints_of_row h
theorem wpList_pushZ {W : World} (hgd : o.guard = none) (s x : Operand)
    (ho : o.op = .call { callee := .builtin .append, args := #[s, x], argTypes := #[24, 24] }) (base : Nat) (v : Value) (xs : List Int) (y : Int) (hs : a.eval s = v)
    (hx : a.eval x = .slice (some ⟨W.heap.size, 0, none⟩) 1 1) (hown : OwnZ W base v xs) (hn : xs.length ≤ 1048576) (hbase : base ≤ W.heap.size)
    (h : ∀ v' w', OwnZ w' base v' (xs ++ [y]) → (W.alloc (.cells #[.int .i64 y] 3)).grownBy w' v.ownBlock → Below base W w' → wpList Try.prog ops Q rest (a.put o.dst v') w') :
    wpList Try.prog ops Q (o :: rest) a (W.alloc (.cells #[.int .i64 y] 3)) := by
  obtain ⟨i0, hi0, hz0, hz1, hz2⟩ := info_parts info3
  refine wpList_append_own _ hgd s x 24 ho base 3 i0 (.int .i64 0) 1 8 Try.underlying24 hi0 hz0 hz1 hz2 rfl (by decide) v xs.length (xs.map (Value.int .i64)) hs (World.ownsRow.alloc hown _) ⟨W.heap.size, 0, none⟩ 1 1 [.int .i64 y] hx rfl (cell_one_new _ _ _)
    (fun u hu => by simp at hu; subst hu; rfl) (by unfold maxLen; omega) (by omega) (by simp; omega) ?_
  intro v' w' hown' hg _
  refine h v' w' ?_ hg (((Below.refl _ _).alloc hbase _).grown hg (by simp; omega) fun k hk => (World.ownsRow.lt hown k hk).1)
  unfold OwnZ
  rw [List.length_append, List.map_append]
  exact hown'
end
/-- A block below, or beside the list's own, lies as it lay. -/
theorem pushed_kept {W w' : World} {o o' : Obj} {v : Value} {g : Nat} (hg : (W.alloc o).grownBy w' v.ownBlock) (hv : ∀ k, v.ownBlock = some k → k ≠ g) (h : W.heap[g]? = some o') : w'.heap[g]? = some o' := by
  have hlt := (Array.getElem?_eq_some_iff.1 h).1
  rw [hg.block g (by simp; omega) (by
    cases e : v.ownBlock with
    | none => simp
    | some k => simp; exact fun q => hv k e q.symm)]
  rw [heap_alloc_old W o hlt]
  exact h
end Go.Proofs.Ytgkhheblmknedaa
