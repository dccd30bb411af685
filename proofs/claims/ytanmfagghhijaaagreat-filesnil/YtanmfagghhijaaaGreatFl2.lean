/- What is no Files, on: its reads, writes, seeks, looks, ends; for any numbers, any bytes; no other memory turns. -/
import Derived.Test.YtanmfagghhijaaaGreatFl1
import Derived.Laws.ResultCell
namespace Go.Proofs.YtanmfagghhijaaaGreat
open Go.RowKit
def deZ : Array Value := #[.int .i64 0, .int .i64 0, .int .i64 0]
def noZ : Array Value := #[.int .u16 0, .int .u16 0, .int .u32 0, .int .u32 0, .int .u32 0, .int .u32 0, .int .u32 0, .int .u32 0, .int .u32 0, .int .u32 0, .int .u32 0, .int .u32 0, .int .u32 0, .int .u32 0, .int .u32 0, .int .u32 0]
def stZ : Array Value := #[.int .i64 0, .int .u16 0, .int .i64 0, .int .i64 0, .int .i64 0]
theorem deZ_size : (Tryz.prog.info? 41).map (·.size) = some deZ.size := by show _ = some 3; kernel_rfl
theorem deZ_one : deZ.all (·.oneCell') = true := by simp [deZ, Value.oneCell']
theorem deZ_zero : ∀ w, (zeroValue 41).run Tryz.prog w = .ok (.agg deZ) w := (zero_of_info (show (Tryz.prog.info? 41).map (fun i => (i.zero, i.size)) = some (some (.agg deZ), 3) by kernel_rfl)).1
theorem deZ_build (u : World) : (Instr.build 41 #[]).run Tryz.prog u = .ok (.agg deZ) u := by
  have z := deZ_zero
  generalize deZ = Z at *
  simp [Instr.build, z, run_underlying Tryz.underlying41, Instr.fill, Value.cells, go_sem]
theorem deZ_exec {o : Oper} {a : Act} {W : World} (ho : o.op = .build 41 #[]) : (execOp a.eval o).run Tryz.prog W = .ok (.value (.agg deZ)) W := by
  have e := deZ_build W
  generalize deZ = Z at *
  simp [execOp, ho, e]
theorem noZ_size : (Tryz.prog.info? 69).map (·.size) = some noZ.size := by show _ = some 16; kernel_rfl
theorem noZ_one : noZ.all (·.oneCell') = true := by simp [noZ, Value.oneCell']
theorem noZ_zero : ∀ w, (zeroValue 69).run Tryz.prog w = .ok (.agg noZ) w := (zero_of_info (show (Tryz.prog.info? 69).map (fun i => (i.zero, i.size)) = some (some (.agg noZ), 16) by kernel_rfl)).1
theorem noZ_build (u : World) : (Instr.build 69 #[]).run Tryz.prog u = .ok (.agg noZ) u := by
  have z := noZ_zero
  generalize noZ = Z at *
  simp [Instr.build, z, run_underlying Tryz.underlying69, Instr.fill, Value.cells, go_sem]
theorem noZ_exec {o : Oper} {a : Act} {W : World} (ho : o.op = .build 69 #[]) : (execOp a.eval o).run Tryz.prog W = .ok (.value (.agg noZ)) W := by
  have e := noZ_build W
  generalize noZ = Z at *
  simp [execOp, ho, e]
theorem stZ_size : (Tryz.prog.info? 51).map (·.size) = some stZ.size := by show _ = some 5; kernel_rfl
theorem stZ_one : stZ.all (·.oneCell') = true := by simp [stZ, Value.oneCell']
theorem stZ_zero : ∀ w, (zeroValue 51).run Tryz.prog w = .ok (.agg stZ) w := (zero_of_info (show (Tryz.prog.info? 51).map (fun i => (i.zero, i.size)) = some (some (.agg stZ), 5) by kernel_rfl)).1
theorem stZ_build (u : World) : (Instr.build 51 #[]).run Tryz.prog u = .ok (.agg stZ) u := by
  have z := stZ_zero
  generalize stZ = Z at *
  simp [Instr.build, z, run_underlying Tryz.underlying51, Instr.fill, Value.cells, go_sem]
theorem stZ_exec {o : Oper} {a : Act} {W : World} (ho : o.op = .build 51 #[]) : (execOp a.eval o).run Tryz.prog W = .ok (.value (.agg stZ)) W := by
  have e := stZ_build W
  generalize stZ = Z at *
  simp [execOp, ho, e]
end Go.Proofs.YtanmfagghhijaaaGreat
