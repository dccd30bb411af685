/- What is no Files, asked all that the law asks: refused; whatever the call; no other memory turns. -/
import Derived.Test.YtanmfagghhijaaaGreatFl7
namespace Go.Proofs.YtanmfagghhijaaaGreat
open Go.RowKit
theorem caR_info (k : Int) (s u : ByteArray) (d z f : Int) (b : Value) : (Tryz.prog.info? 25).map (·.size) = some (caR k s u d z f b).size := by show _ = some 7; kernel_rfl
set_option maxRecDepth 20000 in
set_option maxHeartbeats 4000000 in
theorem flempty {w : World} {v : Value} (h : NoRow w v) (k : Int) (s u : ByteArray) (d z f : Int) (b : Value) : Calls Tryz.prog 5 #[v, .agg (caR k s u d z f b)] w fun e W' => e = .returned (.bool true) ∧ Below w.heap.size w W' := by
  have zs := stZ_zero
  have HCI := Hid.mk' (caR_info k s u d z f b)
  have HDo : Hid (∀ {W : World}, NoRow W v → Calls Tryz.prog 17 #[v, .agg (caR k s u d z f b)] W fun e W' => e = .returned (.agg (rsR 1)) ∧ Below W.heap.size W W') := fun q => fldo q k s u d z f b
  have HSr : Hid (∀ W : World, Calls Tryz.prog 16 #[.agg (rsR 1), .agg (rsR 1)] W fun e W' => e = .returned (.bool true) ∧ Below W.heap.size W W') := fun W => sameRs 1 W
  have HStat : Hid (∀ {W : World}, NoRow W v → Calls Tryz.prog 11 #[v, .int .i64 d] W fun e W' => e = .returned (.tuple #[.agg stZ, .int .i64 1]) ∧ Below W.heap.size W W') := fun q => flstat q d
  have HRE : Hid (∀ {o : Oper} {a : Act} {W : World}, o.op = .build 61 #[(0, .const (.int .i64 1))] → (execOp a.eval o).run Tryz.prog W = .ok (.value (.agg (rsR 1))) W) := fun ho => rs1_exec ho
  have HSE : Hid (∀ {o : Oper} {a : Act} {W : World}, o.op = .build 51 #[] → (execOp a.eval o).run Tryz.prog W = .ok (.value (.agg stZ)) W) := fun ho => stZ_exec ho
  have HSI := Hid.mk' stZ_size
  have HSO := Hid.mk' stZ_one
  have HEQ : Hid (∀ {o : Oper} {a : Act} {W : World} {x y : Operand}, o.op = .binOp .eql 51 x y 51 → a.eval x = .agg stZ → a.eval y = .agg stZ → (execOp a.eval o).run Tryz.prog W = .ok (.value (.bool true)) W) := fun ho hx hy => exec_eqSt ho hx hy
  have HX3 : Hid ((caR k s u d z f b)[3]? = some (.int .i64 d)) := rfl
  have HX4 : Hid ((caR k s u d z f b)[4]? = some (.int .i64 z)) := rfl
  have HX5 : Hid ((caR k s u d z f b)[5]? = some (.int .i64 f)) := rfl
  have HX6 : Hid ((caR k s u d z f b)[6]? = some b) := rfl
  generalize caR k s u d z f b = X at *
  generalize rsR 1 = R at *
  generalize stZ = Z at *
  have HN0 := Hid.mk' (h.later (below_new w (.cells X 25)))
  have HW0 := Hid.mk' (heap_alloc_new w (.cells X 25))
  have HB0 := Hid.mk' (below_new w (.cells X 25))
  clear h
  have c3 : (w.alloc (.cells X 25)).cell? ⟨w.heap.size, 3, none⟩ = some (.int .i64 d) := (Joins.cell_of_block HW0.out 3).trans HX3.out
  have c4 : (w.alloc (.cells X 25)).cell? ⟨w.heap.size, 4, none⟩ = some (.int .i64 z) := (Joins.cell_of_block HW0.out 4).trans HX4.out
  have c5 : (w.alloc (.cells X 25)).cell? ⟨w.heap.size, 5, none⟩ = some (.int .i64 f) := (Joins.cell_of_block HW0.out 5).trans HX5.out
  have c6 : (w.alloc (.cells X 25)).cell? ⟨w.heap.size, 6, none⟩ = some (b) := (Joins.cell_of_block HW0.out 6).trans HX6.out
  go_enter Tryz.func5, Tryz.ntmps5
  go_wp2_with (first | (go_at_call 8; fail))
  refine (flread HN0.out d z).mono ?_
  rintro e W1 ⟨rfl, hb⟩
  have HN1 := Hid.mk' (HN0.out.later hb)
  have HW1 := Hid.mk' (heap_kept HW0.out hb)
  have HB1 := Hid.mk' (below_next HB0.out hb)
  clear hb HN0 HW0 HB0 c3 c4 c5 c6
  have c3 : (W1).cell? ⟨w.heap.size, 3, none⟩ = some (.int .i64 d) := (Joins.cell_of_block HW1.out 3).trans HX3.out
  have c4 : (W1).cell? ⟨w.heap.size, 4, none⟩ = some (.int .i64 z) := (Joins.cell_of_block HW1.out 4).trans HX4.out
  have c5 : (W1).cell? ⟨w.heap.size, 5, none⟩ = some (.int .i64 f) := (Joins.cell_of_block HW1.out 5).trans HX5.out
  have c6 : (W1).cell? ⟨w.heap.size, 6, none⟩ = some (b) := (Joins.cell_of_block HW1.out 6).trans HX6.out
  go_wp2_with (first | (go_at_call 9; fail))
  refine (flwrite HN1.out d b).mono ?_
  rintro e W2 ⟨rfl, hb⟩
  have HN2 := Hid.mk' (HN1.out.later hb)
  have HW2 := Hid.mk' (heap_kept HW1.out hb)
  have HB2 := Hid.mk' (below_next HB1.out hb)
  clear hb HN1 HW1 HB1 c3 c4 c5 c6
  have c3 : (W2).cell? ⟨w.heap.size, 3, none⟩ = some (.int .i64 d) := (Joins.cell_of_block HW2.out 3).trans HX3.out
  have c4 : (W2).cell? ⟨w.heap.size, 4, none⟩ = some (.int .i64 z) := (Joins.cell_of_block HW2.out 4).trans HX4.out
  have c5 : (W2).cell? ⟨w.heap.size, 5, none⟩ = some (.int .i64 f) := (Joins.cell_of_block HW2.out 5).trans HX5.out
  have c6 : (W2).cell? ⟨w.heap.size, 6, none⟩ = some (b) := (Joins.cell_of_block HW2.out 6).trans HX6.out
  go_wp2_with (first | (go_at_call 10; fail))
  refine (flseek HN2.out d z f).mono ?_
  rintro e W3 ⟨rfl, hb⟩
  have HN3 := Hid.mk' (HN2.out.later hb)
  have HW3 := Hid.mk' (heap_kept HW2.out hb)
  have HB3 := Hid.mk' (below_next HB2.out hb)
  clear hb HN2 HW2 HB2 c3 c4 c5 c6
  have c3 : (W3).cell? ⟨w.heap.size, 3, none⟩ = some (.int .i64 d) := (Joins.cell_of_block HW3.out 3).trans HX3.out
  have c4 : (W3).cell? ⟨w.heap.size, 4, none⟩ = some (.int .i64 z) := (Joins.cell_of_block HW3.out 4).trans HX4.out
  have c5 : (W3).cell? ⟨w.heap.size, 5, none⟩ = some (.int .i64 f) := (Joins.cell_of_block HW3.out 5).trans HX5.out
  have c6 : (W3).cell? ⟨w.heap.size, 6, none⟩ = some (b) := (Joins.cell_of_block HW3.out 6).trans HX6.out
  go_wp2_with (first | (go_at_call 11; fail))
  refine (HStat.out HN3.out).mono ?_
  rintro e W4 ⟨rfl, hb⟩
  have HN4 := Hid.mk' (HN3.out.later hb)
  have HW4 := Hid.mk' (heap_kept HW3.out hb)
  have HB4 := Hid.mk' (below_next HB3.out hb)
  clear hb HN3 HW3 HB3 c3 c4 c5 c6
  have c3 : (W4).cell? ⟨w.heap.size, 3, none⟩ = some (.int .i64 d) := (Joins.cell_of_block HW4.out 3).trans HX3.out
  have c4 : (W4).cell? ⟨w.heap.size, 4, none⟩ = some (.int .i64 z) := (Joins.cell_of_block HW4.out 4).trans HX4.out
  have c5 : (W4).cell? ⟨w.heap.size, 5, none⟩ = some (.int .i64 f) := (Joins.cell_of_block HW4.out 5).trans HX5.out
  have c6 : (W4).cell? ⟨w.heap.size, 6, none⟩ = some (b) := (Joins.cell_of_block HW4.out 6).trans HX6.out
  have hbz := below_new W4 (.cells Z 51)
  have HZ4 := Hid.mk' (heap_alloc_new W4 (.cells Z 51))
  have HN5 := Hid.mk' (HN4.out.later hbz)
  have HW5 := Hid.mk' (heap_kept HW4.out hbz)
  have HB5 := Hid.mk' (below_next HB4.out hbz)
  clear hbz HN4 HW4 HB4 c3 c4 c5 c6
  have c3 : (W4.alloc (.cells Z 51)).cell? ⟨w.heap.size, 3, none⟩ = some (.int .i64 d) := (Joins.cell_of_block HW5.out 3).trans HX3.out
  have c4 : (W4.alloc (.cells Z 51)).cell? ⟨w.heap.size, 4, none⟩ = some (.int .i64 z) := (Joins.cell_of_block HW5.out 4).trans HX4.out
  have c5 : (W4.alloc (.cells Z 51)).cell? ⟨w.heap.size, 5, none⟩ = some (.int .i64 f) := (Joins.cell_of_block HW5.out 5).trans HX5.out
  have c6 : (W4.alloc (.cells Z 51)).cell? ⟨w.heap.size, 6, none⟩ = some (b) := (Joins.cell_of_block HW5.out 6).trans HX6.out
  go_wp2_with (first | (with_reducible refine isStoreR 51 ?_; refine wpList_stSame 51 rfl _ _ rfl W4.heap.size Z 51 HSI.out HSO.out rfl rfl HZ4.out ?_) | (go_at_call 12; refine (flopen HN5.out d f).mono ?_; rintro e W ⟨rfl, q⟩; obtain rfl := q.symm; clear q) | (go_at_call 13; fail))
  refine (fltrunc HN5.out d z).mono ?_
  have HZ5 := HZ4
  clear HZ4
  rintro e W6 ⟨rfl, hb⟩
  have HN6 := Hid.mk' (HN5.out.later hb)
  have HW6 := Hid.mk' (heap_kept HW5.out hb)
  have HB6 := Hid.mk' (below_next HB5.out hb)
  have HZ6 := Hid.mk' (heap_kept HZ5.out hb)
  clear hb HN5 HW5 HB5 HZ5 c3 c4 c5 c6
  have c3 : (W6).cell? ⟨w.heap.size, 3, none⟩ = some (.int .i64 d) := (Joins.cell_of_block HW6.out 3).trans HX3.out
  have c4 : (W6).cell? ⟨w.heap.size, 4, none⟩ = some (.int .i64 z) := (Joins.cell_of_block HW6.out 4).trans HX4.out
  have c5 : (W6).cell? ⟨w.heap.size, 5, none⟩ = some (.int .i64 f) := (Joins.cell_of_block HW6.out 5).trans HX5.out
  have c6 : (W6).cell? ⟨w.heap.size, 6, none⟩ = some (b) := (Joins.cell_of_block HW6.out 6).trans HX6.out
  go_wp2_with (first | (go_at_call 14; fail))
  refine (flclose HN6.out d).mono ?_
  rintro e W7 ⟨rfl, hb⟩
  have HN7 := Hid.mk' (HN6.out.later hb)
  have HW7 := Hid.mk' (heap_kept HW6.out hb)
  have HB7 := Hid.mk' (below_next HB6.out hb)
  have HZ7 := Hid.mk' (heap_kept HZ6.out hb)
  clear hb HN6 HW6 HB6 HZ6 c3 c4 c5 c6
  have c3 : (W7).cell? ⟨w.heap.size, 3, none⟩ = some (.int .i64 d) := (Joins.cell_of_block HW7.out 3).trans HX3.out
  have c4 : (W7).cell? ⟨w.heap.size, 4, none⟩ = some (.int .i64 z) := (Joins.cell_of_block HW7.out 4).trans HX4.out
  have c5 : (W7).cell? ⟨w.heap.size, 5, none⟩ = some (.int .i64 f) := (Joins.cell_of_block HW7.out 5).trans HX5.out
  have c6 : (W7).cell? ⟨w.heap.size, 6, none⟩ = some (b) := (Joins.cell_of_block HW7.out 6).trans HX6.out
  go_wp2_with (first | (with_reducible refine isLoadR 51 ?_; refine wpList_ldR 51 Tryz.underlying51 rfl rfl _ rfl W4.heap.size rfl Z 51 (0, 0) HSI.out HZ7.out ?_) | (with_reducible refine isBuildR 51 ?_; refine wpList_exec rfl (HSE.out rfl) ?_) | (with_reducible refine isEqR 51 51 ?_; refine wpList_exec rfl (HEQ.out rfl rfl rfl) ?_) | (go_at_call 15; refine (flfull HN7.out).mono ?_; rintro e W ⟨rfl, q⟩; obtain rfl := q.symm; clear q) | (with_reducible refine isLoadR 25 ?_; refine wpList_ldR 25 Tryz.underlying25 rfl rfl _ rfl w.heap.size rfl X 25 (0, 0) HCI.out HW7.out ?_) | (go_at_call 17; fail))
  refine (HDo.out HN7.out).mono ?_
  rintro e W8 ⟨rfl, hb⟩
  have HN8 := Hid.mk' (HN7.out.later hb)
  have HW8 := Hid.mk' (heap_kept HW7.out hb)
  have HB8 := Hid.mk' (below_next HB7.out hb)
  have HZ8 := Hid.mk' (heap_kept HZ7.out hb)
  clear hb HN7 HW7 HB7 HZ7 c3 c4 c5 c6
  have c3 : (W8).cell? ⟨w.heap.size, 3, none⟩ = some (.int .i64 d) := (Joins.cell_of_block HW8.out 3).trans HX3.out
  have c4 : (W8).cell? ⟨w.heap.size, 4, none⟩ = some (.int .i64 z) := (Joins.cell_of_block HW8.out 4).trans HX4.out
  have c5 : (W8).cell? ⟨w.heap.size, 5, none⟩ = some (.int .i64 f) := (Joins.cell_of_block HW8.out 5).trans HX5.out
  have c6 : (W8).cell? ⟨w.heap.size, 6, none⟩ = some (b) := (Joins.cell_of_block HW8.out 6).trans HX6.out
  go_wp2_with (first | (with_reducible refine isBuildR 61 ?_; refine wpList_exec rfl (HRE.out rfl) ?_) | (go_at_call 16; fail))
  refine (HSr.out _).mono ?_
  rintro e W9 ⟨rfl, hb⟩
  have HB9 := Hid.mk' (below_next HB8.out hb)
  clear hb
  go_wp2
  go_ret
  exact ⟨rfl, HB9.out⟩
end Go.Proofs.YtanmfagghhijaaaGreat
