/- An operation that only reads, in a drawn region, by what it comes to. -/
import Derived.Test.YtahaiciciljijabLCSt3
namespace Go.Proofs.Ytahaiciciljijab
open Go.RowKit Go.Maps
theorem wpStill_exec {ops : Array Oper} {Q : Act → Prop} {a : Act} {o : Oper} {rest : List Oper} {w : World} {v : Value} (hw : Region.wanted o (yielded ops a.tmps) = true) (hr : (execOp a.eval o).run Try.prog w = .ok (.value v) w)
    (h : wpStill Try.prog ops w Q rest (a.put o.dst v)) : wpStill Try.prog ops w Q (o :: rest) a := by
  unfold wpStill
  rw [if_pos hw]
  unfold Oper.still
  rw [hr]
  exact ⟨rfl, h⟩
section
variable {P : Program} {ops : Array Oper} {Q : Exit → Act → World → Prop} {S : World → Prop} {r : List (Bool × Oper)} {a : Act} {w w' : World} {o : Oper} {v : Value}
theorem wpOrd_val (hw : Region.wanted o (yielded ops a.tmps) = true) (hr : (execOp a.eval o).run P w = .ok (.value v) w') (hS : S w') (h : wpOrd P ops Q S r (a.put o.dst v) w') : wpOrd P ops Q S ((false, o) :: r) a w := by
  simp only [wpOrd, hw, if_true]
  unfold Oper.wp
  rw [hr]
  exact ⟨hS, h⟩
end
section
variable {a : Act} {u : World} {o : Oper}
theorem exec_ld3 {y : Operand} {q k : Nat} {v : Value} (ho : o.op = .load 3 y) (hx : a.eval y = .pointer (some ⟨q, k, none⟩)) (hc : u.cell? ⟨q, k, none⟩ = some v) : (execOp a.eval o).run Try.prog u = .ok (.value v) u := by
  simp only [execOp, ho, hx]
  go_simp
theorem exec_ldM {y : Operand} {q k : Nat} {f : Nat → Int} (ho : o.op = .load 46 y) (hx : a.eval y = .pointer (some ⟨q, k, none⟩)) (hc : BlkAt u q k f) : (execOp a.eval o).run Try.prog u = .ok (.value (.agg (blk f))) u := by
  have e := run_loadAt_mid (P := Try.prog) u q k 46 (blk f).toList _ hc Try.underlying46 rfl (by rw [blk_list_len]; exact size25)
  rw [Array.toArray_toList] at e
  unfold execOp
  simp only [ho, hx, e, Sem.run_bind, Result.andThen_ok, Sem.run_pure]
theorem exec_ix69 {y z : Operand} {q n c k : Nat} (ho : o.op = .indexAddr 50 y z) (hx : a.eval y = .slice (some ⟨q, 0, none⟩) n c) (hz : a.eval z = .int .i64 (k : Int)) (hk : k < n) : (execOp a.eval o).run Try.prog u = .ok (.value (.pointer (some ⟨q, k * 1024, none⟩))) u := by
  have hk' : ((k : Int) < (n : Int)) := by omega
  simp only [execOp, ho, hx, hz]
  go_simp
theorem exec_ix44 {y z : Operand} {q off n c k : Nat} (ho : o.op = .indexAddr 25 y z) (hx : a.eval y = .slice (some ⟨q, off, none⟩) n c) (hz : a.eval z = .int .i64 (k : Int)) (hk : k < n) : (execOp a.eval o).run Try.prog u = .ok (.value (.pointer (some ⟨q, off + k, none⟩))) u := by
  have hk' : ((k : Int) < (n : Int)) := by omega
  simp only [execOp, ho, hx, hz]
  go_simp
end
end Go.Proofs.Ytahaiciciljijab
