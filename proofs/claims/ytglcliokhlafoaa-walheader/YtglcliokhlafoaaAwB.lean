/- Blocks built, loaded and held against each other in a walk; no condition. -/
import Derived.Test.YtglcliokhlafoaaSits
namespace Go.Proofs.Ytglcliokhlafoaa
open Go.RowKit
section
variable {ops : Array Oper} {rest : List Oper} {o : Oper} {a : Act} {w : World} {Q : Exit → Act → World → Prop}
theorem wpList_build58w (hw : Region.wanted o (yielded ops a.tmps) = true) (ho : o.op = .build 46 #[]) {N : Nat → Int}
    (hb : ∀ u, (Instr.build 46 #[]).run Try.prog u = .ok (.agg (blk N)) u) (h : wpList Try.prog ops Q rest (a.put o.dst (.agg (blk N))) w) : wpList Try.prog ops Q (o :: rest) a w :=
  BigFrame.wpList_want hw fun _ hK => by
    have e : (execOp a.eval o).run Try.prog w = .ok (.value (.agg (blk N))) w := by
      unfold execOp
      simp only [ho, Array.map_empty, Sem.run_bind]
      simp only [hb, Result.andThen_ok, Sem.run_pure]
    unfold Oper.wp
    rw [e]
    exact hK _ _ h
theorem wpList_load58w (hw : Region.wanted o (yielded ops a.tmps) = true) (x : Operand) (ho : o.op = .load 46 x)
    (g : Nat) (hx : a.eval x = .pointer (some ⟨g, 0, none⟩)) (f : Nat → Int) (hg : w.heap[g]? = some (.cells (blk f) 46))
    (h : wpList Try.prog ops Q rest (a.put o.dst (.agg (blk f))) w) : wpList Try.prog ops Q (o :: rest) a w :=
  BigFrame.wpList_want hw fun _ hK => by
    unfold Oper.wp execOp
    simp only [ho, hx, loadM (BlkAt.of hg), Sem.run_bind, Result.andThen_ok, Sem.run_pure]
    exact hK _ _ h
theorem eq58 (f g : Nat → Int) (b : Bool) (hb : sameB f g = b) (u : World) : (binOp .eql 46 (.agg (blk f)) (.agg (blk g))).run Try.prog u = .ok (.bool b) u := by
  have h := eq25 f g u
  rw [hb] at h
  generalize blk f = F at *
  generalize blk g = G at *
  simp only [binOp, Op.equal, Op.maxDepth, Sem.run_bind, h, Result.andThen_ok, Sem.run_pure]
theorem eqg58 (x y : Operand) (F G : Array Value) (u : World) : (eqGuard .eql 46 x y (.agg F) (.agg G)).run Try.prog u = .ok () u := by
  unfold eqGuard
  simp
theorem wpList_eq58 (hw : Region.wanted o (yielded ops a.tmps) = true) (x y : Operand) (ho : o.op = .binOp .eql 46 x y 46) (f g : Nat → Int) (b : Bool) (hx : a.eval x = .agg (blk f)) (hy : a.eval y = .agg (blk g)) (hb : sameB f g = b)
    (h : wpList Try.prog ops Q rest (a.put o.dst (.bool b)) w) : wpList Try.prog ops Q (o :: rest) a w :=
  BigFrame.wpList_want hw fun _ hK => by
    have e := eq58 f g b hb w
    unfold Oper.wp execOp
    simp only [ho, hx, hy, Sem.run_bind, eqg58, e, Result.andThen_ok, Sem.run_pure]
    exact hK _ _ h
theorem wpList_store58_new (hgd : o.guard = none) (x y : Operand) (ho : o.op = .store 46 x y)
    (f f0 : Nat → Int) (g : Nat) (hg : g = w.heap.size) (hx : a.eval x = .pointer (some ⟨g, 0, none⟩)) (hy : a.eval y = .agg (blk f))
    (h : wpList Try.prog ops Q rest (a.put o.dst undef) (w.alloc (.cells (blk f) 46))) : wpList Try.prog ops Q (o :: rest) a (w.alloc (.cells (blk f0) 46)) := by
  subst hg
  exact wpList_store25_new hgd x y ho f f0 hx hy h
end
end Go.Proofs.Ytglcliokhlafoaa
