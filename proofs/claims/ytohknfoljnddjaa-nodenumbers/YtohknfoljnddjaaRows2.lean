/- Rows loaded and stored in regions whose order is drawn; no condition. -/
import Derived.Test.YtohknfoljnddjaaNums
import Derived.Test.YtohknfoljnddjaaPut
namespace Go.Proofs.Ytohknfoljnddjaa
open Go.RowKit
section
variable {ops : Array Oper} {Q : Exit → Act → World → Prop} {S : World → Prop} {r : List (Bool × Oper)} {a : Act} {w : World} {o : Oper}
/-- A row is loaded, where nothing else may come up. -/
theorem wpOrd_ldR (ty : TypeId) {d : TypeDesc} (hu : Try.prog.underlying ty = some d) (hd : d.isRow = true) (hw : Region.wanted o (yielded ops a.tmps) = true)
    (x : Operand) (ho : o.op = .load ty x) (g : Nat) (hx : a.eval x = .pointer (some ⟨g, 0, none⟩)) (cs : Array Value) (t : TypeId) (fr : Nat × Nat) (hi : (Try.prog.info? ty).map (·.size) = some cs.size) (hg : w.heap[g]? = some (.cells cs t fr))
    (h : S w ∧ wpOrd Try.prog ops Q S r (a.put o.dst (.agg cs)) w) : wpOrd Try.prog ops Q S ((false, o) :: r) a w := by
  simp only [wpOrd, hw, if_true]
  unfold Oper.wp execOp
  simp only [ho, hx, Instr.loadAt, Instr.sureAddr, Sem.run_bind, Sem.run_pure, Result.andThen_ok, run_loadVar_row w g t ty cs fr d hg hu (by cases d <;> first | rfl | cases hd) hi]
  exact h
/-- A row is loaded at any time. -/
theorem wpOrd_ldRT (ty : TypeId) {d : TypeDesc} (hu : Try.prog.underlying ty = some d) (hd : d.isRow = true) (hw : Region.wanted o (yielded ops a.tmps) = true)
    (x : Operand) (ho : o.op = .load ty x) (g : Nat) (hx : a.eval x = .pointer (some ⟨g, 0, none⟩)) (cs : Array Value) (t : TypeId) (fr : Nat × Nat) (hi : (Try.prog.info? ty).map (·.size) = some cs.size) (hg : ∀ u, S u → u.heap[g]? = some (.cells cs t fr))
    (h : wpOrd Try.prog ops Q S r (a.put o.dst (.agg cs)) w) : wpOrd Try.prog ops Q S ((true, o) :: r) a w := by
  refine wpOrd_yield hw (fun u hS => ?_) h
  unfold execOp
  simp only [ho, hx, Instr.loadAt, Instr.sureAddr, Sem.run_bind, Sem.run_pure, Result.andThen_ok, run_loadVar_row u g t ty cs fr d (hg u hS) hu (by cases d <;> first | rfl | cases hd) hi]
/-- A cell is loaded at any time. -/
theorem wpOrd_ldCT (ty : TypeId) (hagg : ∀ w, (isAgg ty).run Try.prog w = .ok false w) (hw : Region.wanted o (yielded ops a.tmps) = true)
    (x : Operand) (ho : o.op = .load ty x) (g j : Nat) (hx : a.eval x = .pointer (some ⟨g, j, none⟩)) (v : Value) (hc : ∀ u, S u → u.cell? ⟨g, j, none⟩ = some v)
    (h : wpOrd Try.prog ops Q S r (a.put o.dst v) w) : wpOrd Try.prog ops Q S ((true, o) :: r) a w := by
  refine wpOrd_yield hw (fun u hS => ?_) h
  have hc' := hc u hS
  unfold execOp
  simp only [ho, hx]
  simp [Instr.loadAt, Instr.sureAddr, loadVar, hagg, hc', go_sem]
theorem wpOrd_stR (ty : TypeId) (hw : Region.wanted o (yielded ops a.tmps) = true)
    (x y : Operand) (ho : o.op = .store ty x y) (g : Nat) (cs c0 : Array Value) (t : TypeId) (hi : (Try.prog.info? ty).map (·.size) = some cs.size) (hs : c0.size = cs.size) (h1 : cs.all (·.oneCell') = true)
    (hx : a.eval x = .pointer (some ⟨g, 0, none⟩)) (hy : a.eval y = .agg cs) (hg : w.heap[g]? = some (.cells c0 t))
    (h : S (w.setRow g cs) ∧ wpOrd Try.prog ops Q S r (a.put o.dst undef) (w.setRow g cs)) : wpOrd Try.prog ops Q S ((false, o) :: r) a w := by
  simp only [wpOrd, hw, if_true]
  unfold Oper.wp execOp
  simp only [ho, hx, hy, Instr.storeAt, Instr.sureAddr, Sem.run_bind, Sem.run_pure, Result.andThen_ok, run_storeVar_row w g t ty c0 cs hg hi hs h1]
  exact h
end
end Go.Proofs.Ytohknfoljnddjaa
