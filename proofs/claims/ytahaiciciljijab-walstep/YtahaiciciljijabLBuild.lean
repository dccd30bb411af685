/- Things done, built; lists of one and of three of them built; a list of one block built; no condition. -/
import Derived.Test.YtahaiciciljijabLBlks
namespace Go.Proofs.Ytahaiciciljijab
open Go.RowKit Go.Maps
theorem fill_step (n i : Nat) (c z : Array Value) (ps : List (Nat × Value)) (hc : c.size = n) (hz : i * n + n ≤ z.size) : Instr.fill (fun i => some (i * n, n)) z ((i, .agg c) :: ps) = Instr.fill (fun i => some (i * n, n)) (z.toList.take (i * n) ++ (c.toList ++ z.toList.drop (i * n + n))).toArray ps := by
  have hcond : ((Value.agg c).cells.size ≠ n || decide (i * n + (Value.agg c).cells.size > z.size)) = false := by
    simp [Value.cells, hc]
    omega
  conv => lhs; unfold Instr.fill
  simp only [hcond, Bool.false_eq_true, if_false]
  exact congrArg (fun q => Instr.fill _ q ps) ((fold_over (i * n) c z (by omega)).trans (by rw [hc]))
theorem fill_three (c0 c1 c2 z : Array Value) (n : Nat) (h0 : c0.size = n) (h1 : c1.size = n) (h2 : c2.size = n) (hz : z.size = 3 * n) : Instr.fill (fun i => some (i * n, n)) z [(0, .agg c0), (1, .agg c1), (2, .agg c2)] = some (c0.toList ++ (c1.toList ++ c2.toList)).toArray := by
  have l0 : c0.toList.length = n := (Array.length_toList ..).trans h0
  have l1 : c1.toList.length = n := (Array.length_toList ..).trans h1
  have lz : z.toList.length = 3 * n := (Array.length_toList ..).trans hz
  rw [fill_step n 0 c0 z _ h0 (by omega), Nat.zero_mul, List.take_zero, List.nil_append, Nat.zero_add]
  generalize hz1 : (c0.toList ++ z.toList.drop n).toArray = z1
  have e1 : z1.toList = c0.toList ++ z.toList.drop n := by rw [← hz1]
  have s1 : z1.size = 3 * n := by rw [← hz1, List.size_toArray, List.length_append, List.length_drop, l0, lz]; omega
  rw [fill_step n 1 c1 z1 _ h1 (by omega), Nat.one_mul]
  have t1 : z1.toList.take n = c0.toList := by rw [e1, List.take_append_of_le_length (by omega), List.take_of_length_le (by omega)]
  rw [t1]
  generalize hz2 : (c0.toList ++ (c1.toList ++ z1.toList.drop (n + n))).toArray = z2
  have e2 : z2.toList = c0.toList ++ (c1.toList ++ z1.toList.drop (n + n)) := by rw [← hz2]
  have s2 : z2.size = 3 * n := by rw [← hz2, List.size_toArray, List.length_append, List.length_append, List.length_drop, l0, l1, Array.length_toList, s1]; omega
  rw [fill_step n 2 c2 z2 _ h2 (by omega)]
  have t2 : z2.toList.take (2 * n) = c0.toList ++ c1.toList := by
    rw [e2, ← List.append_assoc, List.take_append_of_le_length (by rw [List.length_append]; omega), List.take_of_length_le (by rw [List.length_append]; omega)]
  have d2 : z2.toList.drop (2 * n + n) = [] := List.drop_of_length_le (by rw [Array.length_toList, s2]; omega)
  unfold Instr.fill
  rw [t2, d2, List.append_nil, List.append_assoc]
/-- A list of three elements, each a whole row. -/
theorem build3 (t e n : Nat) (zero : Value) (c0 c1 c2 : Array Value) (hu : Try.prog.underlying t = some (.slice e)) (hs : ∀ u, (sizeOf e).run Try.prog u = .ok n u) (hn : 0 < n ∧ n ≤ 1048576) (hz : ∀ u, (zeroValue e).run Try.prog u = .ok zero u) (h0 : c0.size = n) (h1 : c1.size = n) (h2 : c2.size = n) (u : World) :
    (Instr.buildSlice t 3 #[(0, .agg c0), (1, .agg c1), (2, .agg c2)]).run Try.prog u = .ok (.slice (some ⟨u.heap.size, 0, none⟩) 3 3) (u.alloc (.cells (c0.toList ++ (c1.toList ++ c2.toList)).toArray e)) :=
  run_buildSlice_gen u t e 3 n zero #[(0, .agg c0), (1, .agg c1), (2, .agg c2)] _ hu (hs u) (by omega) (by omega) (hz u) (fill_three c0 c1 c2 _ n h0 h1 h2 (by rw [Array.size_map, Array.size_range]))
theorem build86_3 (r0 r1 r2 : Rec) (u : World) : (Instr.buildSlice 88 3 #[(0, .agg (recCells r0).toArray), (1, .agg (recCells r1).toArray), (2, .agg (recCells r2).toArray)]).run Try.prog u = .ok (.slice (some ⟨u.heap.size, 0, none⟩) 3 3) (u.alloc (.cells (opCells [r0, r1, r2]).toArray 97)) := by
  have h := build3 88 97 1026 _ (recCells r0).toArray (recCells r1).toArray (recCells r2).toArray Try.underlying88 Try.sizeOf97 (by omega) zero108 (rec_size r0) (rec_size r1) (rec_size r2) u
  rw [h]
  simp [opCells]
theorem build23_1 (f : Nat → Int) (u : World) : (Instr.buildSlice 50 1 #[(0, .agg (blk f))]).run Try.prog u = .ok (.slice (some ⟨u.heap.size, 0, none⟩) 1 1) (u.alloc (.cells (blk f) 46)) :=
  build1 50 46 1024 _ _ Try.underlying50 Try.sizeOf46 (by omega) zero25 (blk_size f) u
theorem fill_two (k p : Int) (place : Nat → Option (Nat × Nat)) (h0 : place 0 = some (0, 1)) (h1 : place 1 = some (1, 1)) :
    Instr.fill place (recCells ⟨0, 0, nought⟩).toArray [(0, .int .u8 k), (1, .int .i64 p)] = some (recCells ⟨k, p, nought⟩).toArray := by
  have hb := blk_list_len nought
  unfold recCells
  simp only
  generalize (blk nought).toList = B at *
  unfold Instr.fill
  rw [h0]
  simp only [Value.cells, List.size_toArray, List.length_cons, List.length_nil]
  rw [if_neg (by simp), fold_over 0 #[.int .u8 k] _ (by simp)]
  unfold Instr.fill
  rw [h1]
  simp only [Value.cells, List.size_toArray, List.length_cons, List.length_nil, List.take_zero, List.nil_append, Nat.zero_add, List.drop_succ_cons, List.drop_zero, List.singleton_append]
  rw [if_neg (by simp), fold_over 1 #[.int .i64 p] _ (by simp)]
  unfold Instr.fill
  simp
theorem build86w (k p : Int) (u : World) : (Instr.build 97 #[(0, .int .u8 k), (1, .int .i64 p)]).run Try.prog u = .ok (.agg (recCells ⟨k, p, nought⟩).toArray) u := by
  have z := zero108
  have hf := fill_two k p
  generalize (recCells ⟨0, 0, nought⟩).toArray = Z at *
  generalize (recCells ⟨k, p, nought⟩).toArray = Z' at *
  simp [Instr.build, z, run_underlying Try.underlying97, Value.cells]
  rw [hf _ rfl rfl]
  simp only [Sem.run_pure]
section
variable {o : Oper} {a : Act} {W : World}
theorem exec_build86 {y z : Operand} {k p : Int} {f : Nat → Int} (ho : o.op = .build 97 #[(0, .const (.int .u8 k)), (1, y), (2, z)]) (hy : a.eval y = .int .i64 p) (hz : a.eval z = .agg (blk f)) : (execOp a.eval o).run Try.prog W = .ok (.value (.agg (recCells ⟨k, p, f⟩).toArray)) W := by
  have e := build108 k p f W
  have hc : a.eval (.const (.int .u8 k)) = .int .u8 k := rfl
  generalize (recCells ⟨k, p, f⟩).toArray = Z at *
  simp [execOp, ho, hc, hy, hz, e]
theorem exec_build86w {y : Operand} {k p : Int} (ho : o.op = .build 97 #[(0, .const (.int .u8 k)), (1, y)]) (hy : a.eval y = .int .i64 p) : (execOp a.eval o).run Try.prog W = .ok (.value (.agg (recCells ⟨k, p, nought⟩).toArray)) W := by
  have e := build86w k p W
  have hc : a.eval (.const (.int .u8 k)) = .int .u8 k := rfl
  generalize (recCells ⟨k, p, nought⟩).toArray = Z at *
  simp [execOp, ho, hc, hy, e]
theorem exec_slice86 {y : Operand} {r : Rec} (ho : o.op = .buildSlice 88 1 #[(0, y)]) (hy : a.eval y = .agg (recCells r).toArray) : (execOp a.eval o).run Try.prog W = .ok (.value (.slice (some ⟨W.heap.size, 0, none⟩) 1 1)) (W.alloc (.cells (recCells r).toArray 97)) := by
  have e := build67 r W
  generalize (recCells r).toArray = Z at *
  simp [execOp, ho, hy, e]
theorem exec_slice86_3 {y0 y1 y2 : Operand} {r0 r1 r2 : Rec} (ho : o.op = .buildSlice 88 3 #[(0, y0), (1, y1), (2, y2)]) (h0 : a.eval y0 = .agg (recCells r0).toArray) (h1 : a.eval y1 = .agg (recCells r1).toArray) (h2 : a.eval y2 = .agg (recCells r2).toArray) :
    (execOp a.eval o).run Try.prog W = .ok (.value (.slice (some ⟨W.heap.size, 0, none⟩) 3 3)) (W.alloc (.cells (opCells [r0, r1, r2]).toArray 97)) := by
  have e := build86_3 r0 r1 r2 W
  generalize (recCells r0).toArray = Z0 at *
  generalize (recCells r1).toArray = Z1 at *
  generalize (recCells r2).toArray = Z2 at *
  generalize (opCells [r0, r1, r2]).toArray = Z at *
  simp [execOp, ho, h0, h1, h2, e]
theorem exec_slice23 {y : Operand} {f : Nat → Int} (ho : o.op = .buildSlice 50 1 #[(0, y)]) (hy : a.eval y = .agg (blk f)) : (execOp a.eval o).run Try.prog W = .ok (.value (.slice (some ⟨W.heap.size, 0, none⟩) 1 1)) (W.alloc (.cells (blk f) 46)) := by
  have e := build23_1 f W
  generalize blk f = Z at *
  simp [execOp, ho, hy, e]
/-- Any operation by what it comes to. -/
theorem wpList_exec {ops : Array Oper} {rest : List Oper} {Q : Exit → Act → World → Prop} {v : Value} {W' : World} (hgd : o.guard = none) (hr : (execOp a.eval o).run Try.prog W = .ok (.value v) W') (h : wpList Try.prog ops Q rest (a.put o.dst v) W') : wpList Try.prog ops Q (o :: rest) a W := by
  refine wpList_plain hgd fun K' hK' => ?_
  unfold Oper.wp
  rw [hr]
  exact hK' _ _ h
end
end Go.Proofs.Ytahaiciciljijab
