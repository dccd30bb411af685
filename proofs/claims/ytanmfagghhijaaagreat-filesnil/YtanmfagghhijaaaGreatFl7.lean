/- A refusal as it is built, and the law's own pieces. -/
import Derived.Test.YtanmfagghhijaaaGreatFl6
namespace Go.Proofs.YtanmfagghhijaaaGreat
open Go.RowKit
set_option maxRecDepth 20000 in
theorem rs1_build (u : World) : (Instr.build 61 #[(0, .int .i64 1)]).run Tryz.prog u = .ok (.agg (rsR 1)) u := by
  have z := rsR_zero
  simp [Instr.build, z, run_underlying Tryz.underlying61, Instr.fill, Value.cells, go_sem, rsR]
set_option maxRecDepth 20000 in
theorem rs1_exec {o : Oper} {a : Act} {W : World} (ho : o.op = .build 61 #[(0, .const (.int .i64 1))]) : (execOp a.eval o).run Tryz.prog W = .ok (.value (.agg (rsR 1))) W := by
  have e := rs1_build W
  generalize rsR 1 = Z at *
  simp [execOp, ho, e, Act.eval]
end Go.Proofs.YtanmfagghhijaaaGreat
