/- What is no Files: a call of it as a value is refused, whatever the call; no other memory turns. -/
import Derived.Test.YtanmfagghhijaaaGreatFl4
namespace Go.Proofs.YtanmfagghhijaaaGreat
open Go.RowKit
section
variable {o : Oper} {a : Act} {w : World} {ty t : TypeId} {x y : Operand} {g off : Nat} {cs : List Value} {cur new : Array Value} {v : Value}
theorem exec_stV (ho : o.op = .store ty x y) (hi : (Tryz.prog.info? ty).map (·.size) = some cs.length) (hx : a.eval x = .pointer (some ⟨g, off, none⟩)) (hy : a.eval y = v) (hv : v.cells = cs.toArray)
    (hg : w.heap[g]? = some (.cells cur t)) (hfit : off + cs.length ≤ cur.size) (h1 : ∀ u ∈ cs, u.oneCell' = true) (hn : putE cur off cs = new) : (execOp a.eval o).run Tryz.prog w = .ok .skip (w.setRow g new) := by
  subst hn
  have hst := run_storeCells_at Tryz.prog g off t cs 0 cur w hg (by omega) h1
  simp only [Nat.add_zero] at hst
  obtain ⟨i, hi1, hi2⟩ := Option.map_eq_some_iff.1 hi
  unfold execOp
  unfold putE
  simp [ho, hx, hy, Instr.storeAt, Instr.sureAddr, storeVar, sizeOf, typeInfo, hi1, hi2, hv, hst]
variable {ops : Array Oper} {rest : List Oper} {Q : Exit → Act → World → Prop}
theorem wpList_stTurn (ty t : TypeId) (hgd : o.guard = none) (x y : Operand) (ho : o.op = .store ty x y) (g off : Nat) (cs : List Value) (cur new : Array Value) (v : Value) (hi : (Tryz.prog.info? ty).map (·.size) = some cs.length) (hx : a.eval x = .pointer (some ⟨g, off, none⟩)) (hy : a.eval y = v) (hv : v.cells = cs.toArray)
    (hg : w.heap[g]? = some (.cells cur t)) (hfit : off + cs.length ≤ cur.size) (h1 : ∀ u ∈ cs, u.oneCell' = true) (hn : putE cur off cs = new) (h : wpList Tryz.prog ops Q rest (a.put o.dst undef) (w.setRow g new)) : wpList Tryz.prog ops Q (o :: rest) a w :=
  wpList_plain hgd fun _ hK => by
    unfold Oper.wp
    rw [exec_stV ho hi hx hy hv hg hfit h1 hn]
    exact hK _ _ h
theorem wpList_stKeep (ty t : TypeId) (hgd : o.guard = none) (x y : Operand) (ho : o.op = .store ty x y) (g off : Nat) (cs : List Value) (cur : Array Value) (v : Value) (hi : (Tryz.prog.info? ty).map (·.size) = some cs.length) (hx : a.eval x = .pointer (some ⟨g, off, none⟩)) (hy : a.eval y = v) (hv : v.cells = cs.toArray)
    (hg : w.heap[g]? = some (.cells cur t)) (hfit : off + cs.length ≤ cur.size) (h1 : ∀ u ∈ cs, u.oneCell' = true) (hn : putE cur off cs = cur) (h : wpList Tryz.prog ops Q rest (a.put o.dst undef) w) : wpList Tryz.prog ops Q (o :: rest) a w :=
  wpList_stTurn ty t hgd x y ho g off cs cur cur v hi hx hy hv hg hfit h1 hn (by rw [setRow_self w g cur t (0, 0) hg]; exact h)
end
def rsR (e : Int) : Array Value := #[.int .i64 e, .int .i64 0, .slice none 0 0, .int .i64 0, .int .u16 0, .int .i64 0, .int .i64 0, .int .i64 0, .slice none 0 0]
theorem rsR_info (e : Int) : (Tryz.prog.info? 61).map (·.size) = some (rsR e).size := by show _ = some 9; kernel_rfl
theorem rsR_one (e : Int) : (rsR e).all (·.oneCell') = true := by simp [rsR, Value.oneCell']
theorem rsR_zero : ∀ w, (zeroValue 61).run Tryz.prog w = .ok (.agg (rsR 0)) w := (zero_of_info (show (Tryz.prog.info? 61).map (fun i => (i.zero, i.size)) = some (some (.agg (rsR 0)), 9) by kernel_rfl)).1
theorem size1 : (Tryz.prog.info? 3).map (·.size) = some 1 := by kernel_rfl
theorem sizeE : (Tryz.prog.info? 42).map (·.size) = some 1 := by kernel_rfl
theorem sizeSl : (Tryz.prog.info? 23).map (·.size) = some 1 := by kernel_rfl
def caR (k : Int) (s u : ByteArray) (d z f : Int) (b : Value) : Array Value := #[.int .u8 k, .string s, .string u, .int .i64 d, .int .i64 z, .int .i64 f, b]
section
variable {w : World} {v : Value} {s u : ByteArray} {d z f : Int} {b : Value}
def W3 (w : World) (X : Array Value) (R : Array Value) : World := ((w.alloc (.cells X 25)).alloc (.cells R 61)).alloc (.cells R 61)
theorem W3_row (w : World) (X R : Array Value) : (W3 w X R).heap[w.heap.size]? = some (.cells X 25) := heap_kept (heap_kept (heap_alloc_new w _) (below_new _ _)) (below_new _ _)
theorem W3_out (w : World) (X R : Array Value) : (W3 w X R).heap[w.heap.size + 1]? = some (.cells R 61) := by
  have q := heap_alloc_new (w.alloc (.cells X 25)) (.cells R 61)
  rw [World.size_alloc] at q
  exact heap_kept q (below_new _ _)
theorem W3_r (w : World) (X R : Array Value) : (W3 w X R).heap[w.heap.size + 1 + 1]? = some (.cells R 61) := by
  have q := heap_alloc_new ((w.alloc (.cells X 25)).alloc (.cells R 61)) (.cells R 61)
  rw [World.size_alloc, World.size_alloc] at q
  exact q
theorem W3_below (w : World) (X R : Array Value) : Below w.heap.size w (W3 w X R) := below_next (below_next (below_new w _) (below_new _ _)) (below_new _ _)
end
set_option maxRecDepth 20000 in
set_option maxHeartbeats 2000000 in
theorem fldo2 {w : World} {v : Value} (h : NoRow w v) (s u : ByteArray) (d z f : Int) (b : Value) : Calls Tryz.prog 17 #[v, .agg (caR (2) s u d z f b)] w fun e W' => e = .returned (.agg (rsR 1)) ∧ Below w.heap.size w W' := by
  have zr := rsR_zero
  have hX := W3_row w (caR (2) s u d z f b) (rsR 0)
  have c0 : (W3 w (caR (2) s u d z f b) (rsR 0)).cell? ⟨w.heap.size, 0, none⟩ = some (.int .u8 (2)) := Joins.cell_of_block hX 0
  have c3 : (W3 w (caR (2) s u d z f b) (rsR 0)).cell? ⟨w.heap.size, 3, none⟩ = some (.int .i64 d) := Joins.cell_of_block hX 3
  have c4 : (W3 w (caR (2) s u d z f b) (rsR 0)).cell? ⟨w.heap.size, 4, none⟩ = some (.int .i64 z) := Joins.cell_of_block hX 4
  have c5 : (W3 w (caR (2) s u d z f b) (rsR 0)).cell? ⟨w.heap.size, 5, none⟩ = some (.int .i64 f) := Joins.cell_of_block hX 5
  have c6 : (W3 w (caR (2) s u d z f b) (rsR 0)).cell? ⟨w.heap.size, 6, none⟩ = some b := Joins.cell_of_block hX 6
  have HO := Hid.mk' (W3_out w (caR (2) s u d z f b) (rsR 0))
  have HR := Hid.mk' (W3_r w (caR (2) s u d z f b) (rsR 0))
  have HB := Hid.mk' (W3_below w (caR (2) s u d z f b) (rsR 0))
  have hc := flread (h.later (W3_below w (caR (2) s u d z f b) (rsR 0))) d z
  clear h hX
  generalize caR (2) s u d z f b = X at *
  have HI := Hid.mk' (rsR_info 1)
  have HI0 := Hid.mk' (rsR_info 0)
  have H1 := Hid.mk' (rsR_one 1)
  have HP : Hid (putE (rsR 0) 0 [.int .i64 1] = rsR 1) := rfl
  have HK2 : Hid (putE (rsR 0) 2 [.slice none 0 0] = rsR 0) := rfl
  have HK1 : Hid (putE (rsR 0) 1 [.int .i64 0] = rsR 0) := rfl
  have HK3 : Hid (putE (rsR 0) 3 stZ.toList = rsR 0) := rfl
  have HK11 : Hid (putE (rsR 1) 1 [.int .i64 0] = rsR 1) := rfl
  have HS0 : Hid ((rsR 0).size = 9) := rfl
  have HS1 : Hid ((rsR 1).size = 9) := rfl
  have HQ2 : Hid ((rsR 1)[2]? = some (.slice none 0 0)) := rfl
  have HZ1 : Hid ((Tryz.prog.info? 51).map (·.size) = some stZ.toList.length) := Hid.mk' (by rw [stZ_size]; rfl)
  have HZ2 : Hid (∀ u ∈ stZ.toList, u.oneCell' = true) := by intro u hu; simp [stZ] at hu; rcases hu with rfl | rfl | rfl | rfl | rfl <;> rfl
  have HZ3 : Hid (Value.cells (.agg stZ) = stZ.toList.toArray) := Hid.mk' (by simp [Value.cells])
  have HZ4 : Hid (stZ.toList.length = 5) := rfl
  have HE1 : Hid ((Tryz.prog.info? 42).map (·.size) = some [Value.int .i64 1].length) := Hid.mk' sizeE
  have HE0 : Hid ((Tryz.prog.info? 3).map (·.size) = some [Value.int .i64 0].length) := Hid.mk' size1
  have HEs : Hid ((Tryz.prog.info? 23).map (·.size) = some [Value.slice none 0 0].length) := Hid.mk' sizeSl
  have HV1 : Hid (Value.cells (.int .i64 1) = [Value.int .i64 1].toArray) := rfl
  have HV0 : Hid (Value.cells (.int .i64 0) = [Value.int .i64 0].toArray) := rfl
  have HVs : Hid (Value.cells (.slice none 0 0) = [Value.slice none 0 0].toArray) := rfl
  have HW1 : Hid (∀ u ∈ [Value.int .i64 1], u.oneCell' = true) := Hid.mk' (by simp [Value.oneCell'])
  have HW0 : Hid (∀ u ∈ [Value.int .i64 0], u.oneCell' = true) := Hid.mk' (by simp [Value.oneCell'])
  have HWs : Hid (∀ u ∈ [Value.slice none 0 0], u.oneCell' = true) := Hid.mk' (by simp [Value.oneCell'])
  have HF0 : Hid (0 + [Value.int .i64 1].length ≤ (rsR 0).size) := Hid.mk' (by simp [rsR])
  have HF1 : Hid (1 + [Value.int .i64 0].length ≤ (rsR 0).size) := Hid.mk' (by simp [rsR])
  have HF11 : Hid (1 + [Value.int .i64 0].length ≤ (rsR 1).size) := Hid.mk' (by simp [rsR])
  have HF2 : Hid (2 + [Value.slice none 0 0].length ≤ (rsR 0).size) := Hid.mk' (by simp [rsR])
  have HF3 : Hid (3 + stZ.toList.length ≤ (rsR 0).size) := Hid.mk' (by simp [rsR, stZ])
  have HS01 : Hid ((rsR 0).size = (rsR 1).size) := rfl
  generalize stZ = Z at *
  generalize rsR 1 = R1 at *
  generalize rsR 0 = R at *
  unfold W3 at *
  go_enter Tryz.func17, Tryz.ntmps17
  go_wp2_with (first | (go_at_call 8; fail))
  refine hc.mono ?_
  rintro e W1 ⟨rfl, hb⟩
  have ho := heap_kept HO.out hb
  have hr := heap_kept HR.out hb
  have hb1 := below_next HB.out hb
  have ho1 : (W1.setRow (w.heap.size + 1 + 1) R1).heap[w.heap.size + 1]? = some (.cells R 61) := (setRow_other _ _ _ _ (by omega)).trans ho
  have hr1 : (W1.setRow (w.heap.size + 1 + 1) R1).heap[w.heap.size + 1 + 1]? = some (.cells R1 61) := setRow_heap _ _ _ _ _ _ hr
  have hbb : Below w.heap.size w ((W1.setRow (w.heap.size + 1 + 1) R1).setRow (w.heap.size + 1) R1) := (hb1.trans ((Fr.setRow W1 (w.heap.size + 1 + 1) R1).below (fun i hi => by omega) hb1.size)).trans ((Fr.setRow _ (w.heap.size + 1) R1).below (fun i hi => by omega) (by have := hb1.size; simpa using this))
  have q2 : (W1.setRow (w.heap.size + 1 + 1) R1).cell? ⟨w.heap.size + 1 + 1, 2, none⟩ = some (.slice none 0 0) := (Joins.cell_of_block hr1 2).trans HQ2.out
  have HO1 := Hid.mk' ho1
  have HR0 := Hid.mk' hr
  have HR1 := Hid.mk' hr1
  have HBB := Hid.mk' hbb
  clear hc hb ho hr hb1 ho1 hr1 hbb c0 c3 c4 c5 c6 HO HR HB
  go_wp2_with (first | (with_reducible refine isStoreR 42 ?_; refine wpList_stTurn 42 61 rfl _ _ rfl (w.heap.size + 1 + 1) 0 [.int .i64 1] R R1 (.int .i64 1) HE1.out rfl rfl HV1.out HR0.out HF0.out HW1.out HP.out ?_) | (with_reducible refine isStoreR 23 ?_; refine wpList_stKeep 23 61 rfl _ _ rfl (w.heap.size + 1 + 1) 2 [.slice none 0 0] R (.slice none 0 0) HEs.out rfl rfl HVs.out HR0.out HF2.out HWs.out HK2.out ?_) | (with_reducible refine isStoreR 3 ?_; refine wpList_stKeep 3 61 rfl _ _ rfl (w.heap.size + 1 + 1) 1 [.int .i64 0] R1 (.int .i64 0) HE0.out rfl rfl HV0.out HR1.out HF11.out HW0.out HK11.out ?_) | (with_reducible refine isLoadR 61 ?_; refine wpList_ldR 61 Tryz.underlying61 rfl rfl _ rfl (w.heap.size + 1 + 1) rfl R1 61 (0, 0) HI.out HR1.out ?_) | (with_reducible refine isStoreR 61 ?_; refine wpList_stR 61 rfl _ _ rfl (w.heap.size + 1) R1 R 61 HI.out HS01.out H1.out rfl rfl HO1.out ?_))
  refine retR Tryz.underlying61 rfl rfl (w.heap.size + 1) R1 61 HI.out rfl (setRow_heap _ _ _ _ _ _ HO1.out) rfl ⟨rfl, HBB.out⟩
set_option maxRecDepth 20000 in
set_option maxHeartbeats 2000000 in
theorem fldo3 {w : World} {v : Value} (h : NoRow w v) (s u : ByteArray) (d z f : Int) (b : Value) : Calls Tryz.prog 17 #[v, .agg (caR (3) s u d z f b)] w fun e W' => e = .returned (.agg (rsR 1)) ∧ Below w.heap.size w W' := by
  have zr := rsR_zero
  have hX := W3_row w (caR (3) s u d z f b) (rsR 0)
  have c0 : (W3 w (caR (3) s u d z f b) (rsR 0)).cell? ⟨w.heap.size, 0, none⟩ = some (.int .u8 (3)) := Joins.cell_of_block hX 0
  have c3 : (W3 w (caR (3) s u d z f b) (rsR 0)).cell? ⟨w.heap.size, 3, none⟩ = some (.int .i64 d) := Joins.cell_of_block hX 3
  have c4 : (W3 w (caR (3) s u d z f b) (rsR 0)).cell? ⟨w.heap.size, 4, none⟩ = some (.int .i64 z) := Joins.cell_of_block hX 4
  have c5 : (W3 w (caR (3) s u d z f b) (rsR 0)).cell? ⟨w.heap.size, 5, none⟩ = some (.int .i64 f) := Joins.cell_of_block hX 5
  have c6 : (W3 w (caR (3) s u d z f b) (rsR 0)).cell? ⟨w.heap.size, 6, none⟩ = some b := Joins.cell_of_block hX 6
  have HO := Hid.mk' (W3_out w (caR (3) s u d z f b) (rsR 0))
  have HR := Hid.mk' (W3_r w (caR (3) s u d z f b) (rsR 0))
  have HB := Hid.mk' (W3_below w (caR (3) s u d z f b) (rsR 0))
  have hc := flwrite (h.later (W3_below w (caR (3) s u d z f b) (rsR 0))) d b
  clear h hX
  generalize caR (3) s u d z f b = X at *
  have HI := Hid.mk' (rsR_info 1)
  have HI0 := Hid.mk' (rsR_info 0)
  have H1 := Hid.mk' (rsR_one 1)
  have HP : Hid (putE (rsR 0) 0 [.int .i64 1] = rsR 1) := rfl
  have HK2 : Hid (putE (rsR 0) 2 [.slice none 0 0] = rsR 0) := rfl
  have HK1 : Hid (putE (rsR 0) 1 [.int .i64 0] = rsR 0) := rfl
  have HK3 : Hid (putE (rsR 0) 3 stZ.toList = rsR 0) := rfl
  have HK11 : Hid (putE (rsR 1) 1 [.int .i64 0] = rsR 1) := rfl
  have HS0 : Hid ((rsR 0).size = 9) := rfl
  have HS1 : Hid ((rsR 1).size = 9) := rfl
  have HQ2 : Hid ((rsR 1)[2]? = some (.slice none 0 0)) := rfl
  have HZ1 : Hid ((Tryz.prog.info? 51).map (·.size) = some stZ.toList.length) := Hid.mk' (by rw [stZ_size]; rfl)
  have HZ2 : Hid (∀ u ∈ stZ.toList, u.oneCell' = true) := by intro u hu; simp [stZ] at hu; rcases hu with rfl | rfl | rfl | rfl | rfl <;> rfl
  have HZ3 : Hid (Value.cells (.agg stZ) = stZ.toList.toArray) := Hid.mk' (by simp [Value.cells])
  have HZ4 : Hid (stZ.toList.length = 5) := rfl
  have HE1 : Hid ((Tryz.prog.info? 42).map (·.size) = some [Value.int .i64 1].length) := Hid.mk' sizeE
  have HE0 : Hid ((Tryz.prog.info? 3).map (·.size) = some [Value.int .i64 0].length) := Hid.mk' size1
  have HEs : Hid ((Tryz.prog.info? 23).map (·.size) = some [Value.slice none 0 0].length) := Hid.mk' sizeSl
  have HV1 : Hid (Value.cells (.int .i64 1) = [Value.int .i64 1].toArray) := rfl
  have HV0 : Hid (Value.cells (.int .i64 0) = [Value.int .i64 0].toArray) := rfl
  have HVs : Hid (Value.cells (.slice none 0 0) = [Value.slice none 0 0].toArray) := rfl
  have HW1 : Hid (∀ u ∈ [Value.int .i64 1], u.oneCell' = true) := Hid.mk' (by simp [Value.oneCell'])
  have HW0 : Hid (∀ u ∈ [Value.int .i64 0], u.oneCell' = true) := Hid.mk' (by simp [Value.oneCell'])
  have HWs : Hid (∀ u ∈ [Value.slice none 0 0], u.oneCell' = true) := Hid.mk' (by simp [Value.oneCell'])
  have HF0 : Hid (0 + [Value.int .i64 1].length ≤ (rsR 0).size) := Hid.mk' (by simp [rsR])
  have HF1 : Hid (1 + [Value.int .i64 0].length ≤ (rsR 0).size) := Hid.mk' (by simp [rsR])
  have HF11 : Hid (1 + [Value.int .i64 0].length ≤ (rsR 1).size) := Hid.mk' (by simp [rsR])
  have HF2 : Hid (2 + [Value.slice none 0 0].length ≤ (rsR 0).size) := Hid.mk' (by simp [rsR])
  have HF3 : Hid (3 + stZ.toList.length ≤ (rsR 0).size) := Hid.mk' (by simp [rsR, stZ])
  have HS01 : Hid ((rsR 0).size = (rsR 1).size) := rfl
  generalize stZ = Z at *
  generalize rsR 1 = R1 at *
  generalize rsR 0 = R at *
  unfold W3 at *
  go_enter Tryz.func17, Tryz.ntmps17
  go_wp2_with (first | (go_at_call 9; fail))
  refine hc.mono ?_
  rintro e W1 ⟨rfl, hb⟩
  have ho := heap_kept HO.out hb
  have hr := heap_kept HR.out hb
  have hb1 := below_next HB.out hb
  have ho1 : (W1.setRow (w.heap.size + 1 + 1) R1).heap[w.heap.size + 1]? = some (.cells R 61) := (setRow_other _ _ _ _ (by omega)).trans ho
  have hr1 : (W1.setRow (w.heap.size + 1 + 1) R1).heap[w.heap.size + 1 + 1]? = some (.cells R1 61) := setRow_heap _ _ _ _ _ _ hr
  have hbb : Below w.heap.size w ((W1.setRow (w.heap.size + 1 + 1) R1).setRow (w.heap.size + 1) R1) := (hb1.trans ((Fr.setRow W1 (w.heap.size + 1 + 1) R1).below (fun i hi => by omega) hb1.size)).trans ((Fr.setRow _ (w.heap.size + 1) R1).below (fun i hi => by omega) (by have := hb1.size; simpa using this))
  have HO1 := Hid.mk' ho1
  have HR0 := Hid.mk' hr
  have HR1 := Hid.mk' hr1
  have HBB := Hid.mk' hbb
  clear hc hb ho hr hb1 ho1 hr1 hbb c0 c3 c4 c5 c6 HO HR HB
  go_wp2_with (first | (with_reducible refine isStoreR 42 ?_; refine wpList_stTurn 42 61 rfl _ _ rfl (w.heap.size + 1 + 1) 0 [.int .i64 1] R R1 (.int .i64 1) HE1.out rfl rfl HV1.out HR0.out HF0.out HW1.out HP.out ?_) | (with_reducible refine isStoreR 3 ?_; refine wpList_stKeep 3 61 rfl _ _ rfl (w.heap.size + 1 + 1) 1 [.int .i64 0] R (.int .i64 0) HE0.out rfl rfl HV0.out HR0.out HF1.out HW0.out HK1.out ?_) | (with_reducible refine isLoadR 61 ?_; refine wpList_ldR 61 Tryz.underlying61 rfl rfl _ rfl (w.heap.size + 1 + 1) rfl R1 61 (0, 0) HI.out HR1.out ?_) | (with_reducible refine isStoreR 61 ?_; refine wpList_stR 61 rfl _ _ rfl (w.heap.size + 1) R1 R 61 HI.out HS01.out H1.out rfl rfl HO1.out ?_))
  refine retR Tryz.underlying61 rfl rfl (w.heap.size + 1) R1 61 HI.out rfl (setRow_heap _ _ _ _ _ _ HO1.out) rfl ⟨rfl, HBB.out⟩
set_option maxRecDepth 20000 in
set_option maxHeartbeats 2000000 in
theorem fldo4 {w : World} {v : Value} (h : NoRow w v) (s u : ByteArray) (d z f : Int) (b : Value) : Calls Tryz.prog 17 #[v, .agg (caR (4) s u d z f b)] w fun e W' => e = .returned (.agg (rsR 1)) ∧ Below w.heap.size w W' := by
  have zr := rsR_zero
  have hX := W3_row w (caR (4) s u d z f b) (rsR 0)
  have c0 : (W3 w (caR (4) s u d z f b) (rsR 0)).cell? ⟨w.heap.size, 0, none⟩ = some (.int .u8 (4)) := Joins.cell_of_block hX 0
  have c3 : (W3 w (caR (4) s u d z f b) (rsR 0)).cell? ⟨w.heap.size, 3, none⟩ = some (.int .i64 d) := Joins.cell_of_block hX 3
  have c4 : (W3 w (caR (4) s u d z f b) (rsR 0)).cell? ⟨w.heap.size, 4, none⟩ = some (.int .i64 z) := Joins.cell_of_block hX 4
  have c5 : (W3 w (caR (4) s u d z f b) (rsR 0)).cell? ⟨w.heap.size, 5, none⟩ = some (.int .i64 f) := Joins.cell_of_block hX 5
  have c6 : (W3 w (caR (4) s u d z f b) (rsR 0)).cell? ⟨w.heap.size, 6, none⟩ = some b := Joins.cell_of_block hX 6
  have HO := Hid.mk' (W3_out w (caR (4) s u d z f b) (rsR 0))
  have HR := Hid.mk' (W3_r w (caR (4) s u d z f b) (rsR 0))
  have HB := Hid.mk' (W3_below w (caR (4) s u d z f b) (rsR 0))
  have hc := flseek (h.later (W3_below w (caR (4) s u d z f b) (rsR 0))) d z f
  clear h hX
  generalize caR (4) s u d z f b = X at *
  have HI := Hid.mk' (rsR_info 1)
  have HI0 := Hid.mk' (rsR_info 0)
  have H1 := Hid.mk' (rsR_one 1)
  have HP : Hid (putE (rsR 0) 0 [.int .i64 1] = rsR 1) := rfl
  have HK2 : Hid (putE (rsR 0) 2 [.slice none 0 0] = rsR 0) := rfl
  have HK1 : Hid (putE (rsR 0) 1 [.int .i64 0] = rsR 0) := rfl
  have HK3 : Hid (putE (rsR 0) 3 stZ.toList = rsR 0) := rfl
  have HK11 : Hid (putE (rsR 1) 1 [.int .i64 0] = rsR 1) := rfl
  have HS0 : Hid ((rsR 0).size = 9) := rfl
  have HS1 : Hid ((rsR 1).size = 9) := rfl
  have HQ2 : Hid ((rsR 1)[2]? = some (.slice none 0 0)) := rfl
  have HZ1 : Hid ((Tryz.prog.info? 51).map (·.size) = some stZ.toList.length) := Hid.mk' (by rw [stZ_size]; rfl)
  have HZ2 : Hid (∀ u ∈ stZ.toList, u.oneCell' = true) := by intro u hu; simp [stZ] at hu; rcases hu with rfl | rfl | rfl | rfl | rfl <;> rfl
  have HZ3 : Hid (Value.cells (.agg stZ) = stZ.toList.toArray) := Hid.mk' (by simp [Value.cells])
  have HZ4 : Hid (stZ.toList.length = 5) := rfl
  have HE1 : Hid ((Tryz.prog.info? 42).map (·.size) = some [Value.int .i64 1].length) := Hid.mk' sizeE
  have HE0 : Hid ((Tryz.prog.info? 3).map (·.size) = some [Value.int .i64 0].length) := Hid.mk' size1
  have HEs : Hid ((Tryz.prog.info? 23).map (·.size) = some [Value.slice none 0 0].length) := Hid.mk' sizeSl
  have HV1 : Hid (Value.cells (.int .i64 1) = [Value.int .i64 1].toArray) := rfl
  have HV0 : Hid (Value.cells (.int .i64 0) = [Value.int .i64 0].toArray) := rfl
  have HVs : Hid (Value.cells (.slice none 0 0) = [Value.slice none 0 0].toArray) := rfl
  have HW1 : Hid (∀ u ∈ [Value.int .i64 1], u.oneCell' = true) := Hid.mk' (by simp [Value.oneCell'])
  have HW0 : Hid (∀ u ∈ [Value.int .i64 0], u.oneCell' = true) := Hid.mk' (by simp [Value.oneCell'])
  have HWs : Hid (∀ u ∈ [Value.slice none 0 0], u.oneCell' = true) := Hid.mk' (by simp [Value.oneCell'])
  have HF0 : Hid (0 + [Value.int .i64 1].length ≤ (rsR 0).size) := Hid.mk' (by simp [rsR])
  have HF1 : Hid (1 + [Value.int .i64 0].length ≤ (rsR 0).size) := Hid.mk' (by simp [rsR])
  have HF11 : Hid (1 + [Value.int .i64 0].length ≤ (rsR 1).size) := Hid.mk' (by simp [rsR])
  have HF2 : Hid (2 + [Value.slice none 0 0].length ≤ (rsR 0).size) := Hid.mk' (by simp [rsR])
  have HF3 : Hid (3 + stZ.toList.length ≤ (rsR 0).size) := Hid.mk' (by simp [rsR, stZ])
  have HS01 : Hid ((rsR 0).size = (rsR 1).size) := rfl
  generalize stZ = Z at *
  generalize rsR 1 = R1 at *
  generalize rsR 0 = R at *
  unfold W3 at *
  go_enter Tryz.func17, Tryz.ntmps17
  go_wp2_with (first | (go_at_call 10; fail))
  refine hc.mono ?_
  rintro e W1 ⟨rfl, hb⟩
  have ho := heap_kept HO.out hb
  have hr := heap_kept HR.out hb
  have hb1 := below_next HB.out hb
  have ho1 : (W1.setRow (w.heap.size + 1 + 1) R1).heap[w.heap.size + 1]? = some (.cells R 61) := (setRow_other _ _ _ _ (by omega)).trans ho
  have hr1 : (W1.setRow (w.heap.size + 1 + 1) R1).heap[w.heap.size + 1 + 1]? = some (.cells R1 61) := setRow_heap _ _ _ _ _ _ hr
  have hbb : Below w.heap.size w ((W1.setRow (w.heap.size + 1 + 1) R1).setRow (w.heap.size + 1) R1) := (hb1.trans ((Fr.setRow W1 (w.heap.size + 1 + 1) R1).below (fun i hi => by omega) hb1.size)).trans ((Fr.setRow _ (w.heap.size + 1) R1).below (fun i hi => by omega) (by have := hb1.size; simpa using this))
  have HO1 := Hid.mk' ho1
  have HR0 := Hid.mk' hr
  have HR1 := Hid.mk' hr1
  have HBB := Hid.mk' hbb
  clear hc hb ho hr hb1 ho1 hr1 hbb c0 c3 c4 c5 c6 HO HR HB
  go_wp2_with (first | (with_reducible refine isStoreR 42 ?_; refine wpList_stTurn 42 61 rfl _ _ rfl (w.heap.size + 1 + 1) 0 [.int .i64 1] R R1 (.int .i64 1) HE1.out rfl rfl HV1.out HR0.out HF0.out HW1.out HP.out ?_) | (with_reducible refine isStoreR 3 ?_; refine wpList_stKeep 3 61 rfl _ _ rfl (w.heap.size + 1 + 1) 1 [.int .i64 0] R (.int .i64 0) HE0.out rfl rfl HV0.out HR0.out HF1.out HW0.out HK1.out ?_) | (with_reducible refine isLoadR 61 ?_; refine wpList_ldR 61 Tryz.underlying61 rfl rfl _ rfl (w.heap.size + 1 + 1) rfl R1 61 (0, 0) HI.out HR1.out ?_) | (with_reducible refine isStoreR 61 ?_; refine wpList_stR 61 rfl _ _ rfl (w.heap.size + 1) R1 R 61 HI.out HS01.out H1.out rfl rfl HO1.out ?_))
  refine retR Tryz.underlying61 rfl rfl (w.heap.size + 1) R1 61 HI.out rfl (setRow_heap _ _ _ _ _ _ HO1.out) rfl ⟨rfl, HBB.out⟩
set_option maxRecDepth 20000 in
set_option maxHeartbeats 2000000 in
theorem fldo5 {w : World} {v : Value} (h : NoRow w v) (s u : ByteArray) (d z f : Int) (b : Value) : Calls Tryz.prog 17 #[v, .agg (caR (5) s u d z f b)] w fun e W' => e = .returned (.agg (rsR 1)) ∧ Below w.heap.size w W' := by
  have zr := rsR_zero
  have hX := W3_row w (caR (5) s u d z f b) (rsR 0)
  have c0 : (W3 w (caR (5) s u d z f b) (rsR 0)).cell? ⟨w.heap.size, 0, none⟩ = some (.int .u8 (5)) := Joins.cell_of_block hX 0
  have c3 : (W3 w (caR (5) s u d z f b) (rsR 0)).cell? ⟨w.heap.size, 3, none⟩ = some (.int .i64 d) := Joins.cell_of_block hX 3
  have c4 : (W3 w (caR (5) s u d z f b) (rsR 0)).cell? ⟨w.heap.size, 4, none⟩ = some (.int .i64 z) := Joins.cell_of_block hX 4
  have c5 : (W3 w (caR (5) s u d z f b) (rsR 0)).cell? ⟨w.heap.size, 5, none⟩ = some (.int .i64 f) := Joins.cell_of_block hX 5
  have c6 : (W3 w (caR (5) s u d z f b) (rsR 0)).cell? ⟨w.heap.size, 6, none⟩ = some b := Joins.cell_of_block hX 6
  have HO := Hid.mk' (W3_out w (caR (5) s u d z f b) (rsR 0))
  have HR := Hid.mk' (W3_r w (caR (5) s u d z f b) (rsR 0))
  have HB := Hid.mk' (W3_below w (caR (5) s u d z f b) (rsR 0))
  have hc := fltrunc (h.later (W3_below w (caR (5) s u d z f b) (rsR 0))) d z
  clear h hX
  generalize caR (5) s u d z f b = X at *
  have HI := Hid.mk' (rsR_info 1)
  have HI0 := Hid.mk' (rsR_info 0)
  have H1 := Hid.mk' (rsR_one 1)
  have HP : Hid (putE (rsR 0) 0 [.int .i64 1] = rsR 1) := rfl
  have HK2 : Hid (putE (rsR 0) 2 [.slice none 0 0] = rsR 0) := rfl
  have HK1 : Hid (putE (rsR 0) 1 [.int .i64 0] = rsR 0) := rfl
  have HK3 : Hid (putE (rsR 0) 3 stZ.toList = rsR 0) := rfl
  have HK11 : Hid (putE (rsR 1) 1 [.int .i64 0] = rsR 1) := rfl
  have HS0 : Hid ((rsR 0).size = 9) := rfl
  have HS1 : Hid ((rsR 1).size = 9) := rfl
  have HQ2 : Hid ((rsR 1)[2]? = some (.slice none 0 0)) := rfl
  have HZ1 : Hid ((Tryz.prog.info? 51).map (·.size) = some stZ.toList.length) := Hid.mk' (by rw [stZ_size]; rfl)
  have HZ2 : Hid (∀ u ∈ stZ.toList, u.oneCell' = true) := by intro u hu; simp [stZ] at hu; rcases hu with rfl | rfl | rfl | rfl | rfl <;> rfl
  have HZ3 : Hid (Value.cells (.agg stZ) = stZ.toList.toArray) := Hid.mk' (by simp [Value.cells])
  have HZ4 : Hid (stZ.toList.length = 5) := rfl
  have HE1 : Hid ((Tryz.prog.info? 42).map (·.size) = some [Value.int .i64 1].length) := Hid.mk' sizeE
  have HE0 : Hid ((Tryz.prog.info? 3).map (·.size) = some [Value.int .i64 0].length) := Hid.mk' size1
  have HEs : Hid ((Tryz.prog.info? 23).map (·.size) = some [Value.slice none 0 0].length) := Hid.mk' sizeSl
  have HV1 : Hid (Value.cells (.int .i64 1) = [Value.int .i64 1].toArray) := rfl
  have HV0 : Hid (Value.cells (.int .i64 0) = [Value.int .i64 0].toArray) := rfl
  have HVs : Hid (Value.cells (.slice none 0 0) = [Value.slice none 0 0].toArray) := rfl
  have HW1 : Hid (∀ u ∈ [Value.int .i64 1], u.oneCell' = true) := Hid.mk' (by simp [Value.oneCell'])
  have HW0 : Hid (∀ u ∈ [Value.int .i64 0], u.oneCell' = true) := Hid.mk' (by simp [Value.oneCell'])
  have HWs : Hid (∀ u ∈ [Value.slice none 0 0], u.oneCell' = true) := Hid.mk' (by simp [Value.oneCell'])
  have HF0 : Hid (0 + [Value.int .i64 1].length ≤ (rsR 0).size) := Hid.mk' (by simp [rsR])
  have HF1 : Hid (1 + [Value.int .i64 0].length ≤ (rsR 0).size) := Hid.mk' (by simp [rsR])
  have HF11 : Hid (1 + [Value.int .i64 0].length ≤ (rsR 1).size) := Hid.mk' (by simp [rsR])
  have HF2 : Hid (2 + [Value.slice none 0 0].length ≤ (rsR 0).size) := Hid.mk' (by simp [rsR])
  have HF3 : Hid (3 + stZ.toList.length ≤ (rsR 0).size) := Hid.mk' (by simp [rsR, stZ])
  have HS01 : Hid ((rsR 0).size = (rsR 1).size) := rfl
  generalize stZ = Z at *
  generalize rsR 1 = R1 at *
  generalize rsR 0 = R at *
  unfold W3 at *
  go_enter Tryz.func17, Tryz.ntmps17
  go_wp2_with (first | (go_at_call 13; fail))
  refine hc.mono ?_
  rintro e W1 ⟨rfl, hb⟩
  have ho := heap_kept HO.out hb
  have hr := heap_kept HR.out hb
  have hb1 := below_next HB.out hb
  have ho1 : (W1.setRow (w.heap.size + 1 + 1) R1).heap[w.heap.size + 1]? = some (.cells R 61) := (setRow_other _ _ _ _ (by omega)).trans ho
  have hr1 : (W1.setRow (w.heap.size + 1 + 1) R1).heap[w.heap.size + 1 + 1]? = some (.cells R1 61) := setRow_heap _ _ _ _ _ _ hr
  have hbb : Below w.heap.size w ((W1.setRow (w.heap.size + 1 + 1) R1).setRow (w.heap.size + 1) R1) := (hb1.trans ((Fr.setRow W1 (w.heap.size + 1 + 1) R1).below (fun i hi => by omega) hb1.size)).trans ((Fr.setRow _ (w.heap.size + 1) R1).below (fun i hi => by omega) (by have := hb1.size; simpa using this))
  have HO1 := Hid.mk' ho1
  have HR0 := Hid.mk' hr
  have HR1 := Hid.mk' hr1
  have HBB := Hid.mk' hbb
  clear hc hb ho hr hb1 ho1 hr1 hbb c0 c3 c4 c5 c6 HO HR HB
  go_wp2_with (first | (with_reducible refine isStoreR 42 ?_; refine wpList_stTurn 42 61 rfl _ _ rfl (w.heap.size + 1 + 1) 0 [.int .i64 1] R R1 (.int .i64 1) HE1.out rfl rfl HV1.out HR0.out HF0.out HW1.out HP.out ?_) | (with_reducible refine isLoadR 61 ?_; refine wpList_ldR 61 Tryz.underlying61 rfl rfl _ rfl (w.heap.size + 1 + 1) rfl R1 61 (0, 0) HI.out HR1.out ?_) | (with_reducible refine isStoreR 61 ?_; refine wpList_stR 61 rfl _ _ rfl (w.heap.size + 1) R1 R 61 HI.out HS01.out H1.out rfl rfl HO1.out ?_))
  refine retR Tryz.underlying61 rfl rfl (w.heap.size + 1) R1 61 HI.out rfl (setRow_heap _ _ _ _ _ _ HO1.out) rfl ⟨rfl, HBB.out⟩
set_option maxRecDepth 20000 in
set_option maxHeartbeats 2000000 in
theorem fldo6 {w : World} {v : Value} (h : NoRow w v) (s u : ByteArray) (d z f : Int) (b : Value) : Calls Tryz.prog 17 #[v, .agg (caR (6) s u d z f b)] w fun e W' => e = .returned (.agg (rsR 1)) ∧ Below w.heap.size w W' := by
  have zr := rsR_zero
  have hX := W3_row w (caR (6) s u d z f b) (rsR 0)
  have c0 : (W3 w (caR (6) s u d z f b) (rsR 0)).cell? ⟨w.heap.size, 0, none⟩ = some (.int .u8 (6)) := Joins.cell_of_block hX 0
  have c3 : (W3 w (caR (6) s u d z f b) (rsR 0)).cell? ⟨w.heap.size, 3, none⟩ = some (.int .i64 d) := Joins.cell_of_block hX 3
  have c4 : (W3 w (caR (6) s u d z f b) (rsR 0)).cell? ⟨w.heap.size, 4, none⟩ = some (.int .i64 z) := Joins.cell_of_block hX 4
  have c5 : (W3 w (caR (6) s u d z f b) (rsR 0)).cell? ⟨w.heap.size, 5, none⟩ = some (.int .i64 f) := Joins.cell_of_block hX 5
  have c6 : (W3 w (caR (6) s u d z f b) (rsR 0)).cell? ⟨w.heap.size, 6, none⟩ = some b := Joins.cell_of_block hX 6
  have HO := Hid.mk' (W3_out w (caR (6) s u d z f b) (rsR 0))
  have HR := Hid.mk' (W3_r w (caR (6) s u d z f b) (rsR 0))
  have HB := Hid.mk' (W3_below w (caR (6) s u d z f b) (rsR 0))
  have hc := flclose (h.later (W3_below w (caR (6) s u d z f b) (rsR 0))) d
  clear h hX
  generalize caR (6) s u d z f b = X at *
  have HI := Hid.mk' (rsR_info 1)
  have HI0 := Hid.mk' (rsR_info 0)
  have H1 := Hid.mk' (rsR_one 1)
  have HP : Hid (putE (rsR 0) 0 [.int .i64 1] = rsR 1) := rfl
  have HK2 : Hid (putE (rsR 0) 2 [.slice none 0 0] = rsR 0) := rfl
  have HK1 : Hid (putE (rsR 0) 1 [.int .i64 0] = rsR 0) := rfl
  have HK3 : Hid (putE (rsR 0) 3 stZ.toList = rsR 0) := rfl
  have HK11 : Hid (putE (rsR 1) 1 [.int .i64 0] = rsR 1) := rfl
  have HS0 : Hid ((rsR 0).size = 9) := rfl
  have HS1 : Hid ((rsR 1).size = 9) := rfl
  have HQ2 : Hid ((rsR 1)[2]? = some (.slice none 0 0)) := rfl
  have HZ1 : Hid ((Tryz.prog.info? 51).map (·.size) = some stZ.toList.length) := Hid.mk' (by rw [stZ_size]; rfl)
  have HZ2 : Hid (∀ u ∈ stZ.toList, u.oneCell' = true) := by intro u hu; simp [stZ] at hu; rcases hu with rfl | rfl | rfl | rfl | rfl <;> rfl
  have HZ3 : Hid (Value.cells (.agg stZ) = stZ.toList.toArray) := Hid.mk' (by simp [Value.cells])
  have HZ4 : Hid (stZ.toList.length = 5) := rfl
  have HE1 : Hid ((Tryz.prog.info? 42).map (·.size) = some [Value.int .i64 1].length) := Hid.mk' sizeE
  have HE0 : Hid ((Tryz.prog.info? 3).map (·.size) = some [Value.int .i64 0].length) := Hid.mk' size1
  have HEs : Hid ((Tryz.prog.info? 23).map (·.size) = some [Value.slice none 0 0].length) := Hid.mk' sizeSl
  have HV1 : Hid (Value.cells (.int .i64 1) = [Value.int .i64 1].toArray) := rfl
  have HV0 : Hid (Value.cells (.int .i64 0) = [Value.int .i64 0].toArray) := rfl
  have HVs : Hid (Value.cells (.slice none 0 0) = [Value.slice none 0 0].toArray) := rfl
  have HW1 : Hid (∀ u ∈ [Value.int .i64 1], u.oneCell' = true) := Hid.mk' (by simp [Value.oneCell'])
  have HW0 : Hid (∀ u ∈ [Value.int .i64 0], u.oneCell' = true) := Hid.mk' (by simp [Value.oneCell'])
  have HWs : Hid (∀ u ∈ [Value.slice none 0 0], u.oneCell' = true) := Hid.mk' (by simp [Value.oneCell'])
  have HF0 : Hid (0 + [Value.int .i64 1].length ≤ (rsR 0).size) := Hid.mk' (by simp [rsR])
  have HF1 : Hid (1 + [Value.int .i64 0].length ≤ (rsR 0).size) := Hid.mk' (by simp [rsR])
  have HF11 : Hid (1 + [Value.int .i64 0].length ≤ (rsR 1).size) := Hid.mk' (by simp [rsR])
  have HF2 : Hid (2 + [Value.slice none 0 0].length ≤ (rsR 0).size) := Hid.mk' (by simp [rsR])
  have HF3 : Hid (3 + stZ.toList.length ≤ (rsR 0).size) := Hid.mk' (by simp [rsR, stZ])
  have HS01 : Hid ((rsR 0).size = (rsR 1).size) := rfl
  generalize stZ = Z at *
  generalize rsR 1 = R1 at *
  generalize rsR 0 = R at *
  unfold W3 at *
  go_enter Tryz.func17, Tryz.ntmps17
  go_wp2_with (first | (go_at_call 14; fail))
  refine hc.mono ?_
  rintro e W1 ⟨rfl, hb⟩
  have ho := heap_kept HO.out hb
  have hr := heap_kept HR.out hb
  have hb1 := below_next HB.out hb
  have ho1 : (W1.setRow (w.heap.size + 1 + 1) R1).heap[w.heap.size + 1]? = some (.cells R 61) := (setRow_other _ _ _ _ (by omega)).trans ho
  have hr1 : (W1.setRow (w.heap.size + 1 + 1) R1).heap[w.heap.size + 1 + 1]? = some (.cells R1 61) := setRow_heap _ _ _ _ _ _ hr
  have hbb : Below w.heap.size w ((W1.setRow (w.heap.size + 1 + 1) R1).setRow (w.heap.size + 1) R1) := (hb1.trans ((Fr.setRow W1 (w.heap.size + 1 + 1) R1).below (fun i hi => by omega) hb1.size)).trans ((Fr.setRow _ (w.heap.size + 1) R1).below (fun i hi => by omega) (by have := hb1.size; simpa using this))
  have HO1 := Hid.mk' ho1
  have HR0 := Hid.mk' hr
  have HR1 := Hid.mk' hr1
  have HBB := Hid.mk' hbb
  clear hc hb ho hr hb1 ho1 hr1 hbb c0 c3 c4 c5 c6 HO HR HB
  go_wp2_with (first | (with_reducible refine isStoreR 42 ?_; refine wpList_stTurn 42 61 rfl _ _ rfl (w.heap.size + 1 + 1) 0 [.int .i64 1] R R1 (.int .i64 1) HE1.out rfl rfl HV1.out HR0.out HF0.out HW1.out HP.out ?_) | (with_reducible refine isLoadR 61 ?_; refine wpList_ldR 61 Tryz.underlying61 rfl rfl _ rfl (w.heap.size + 1 + 1) rfl R1 61 (0, 0) HI.out HR1.out ?_) | (with_reducible refine isStoreR 61 ?_; refine wpList_stR 61 rfl _ _ rfl (w.heap.size + 1) R1 R 61 HI.out HS01.out H1.out rfl rfl HO1.out ?_))
  refine retR Tryz.underlying61 rfl rfl (w.heap.size + 1) R1 61 HI.out rfl (setRow_heap _ _ _ _ _ _ HO1.out) rfl ⟨rfl, HBB.out⟩
set_option maxRecDepth 20000 in
set_option maxHeartbeats 2000000 in
theorem fldo8 {w : World} {v : Value} (h : NoRow w v) (s u : ByteArray) (d z f : Int) (b : Value) : Calls Tryz.prog 17 #[v, .agg (caR (8) s u d z f b)] w fun e W' => e = .returned (.agg (rsR 1)) ∧ Below w.heap.size w W' := by
  have zr := rsR_zero
  have hX := W3_row w (caR (8) s u d z f b) (rsR 0)
  have c0 : (W3 w (caR (8) s u d z f b) (rsR 0)).cell? ⟨w.heap.size, 0, none⟩ = some (.int .u8 (8)) := Joins.cell_of_block hX 0
  have c3 : (W3 w (caR (8) s u d z f b) (rsR 0)).cell? ⟨w.heap.size, 3, none⟩ = some (.int .i64 d) := Joins.cell_of_block hX 3
  have c4 : (W3 w (caR (8) s u d z f b) (rsR 0)).cell? ⟨w.heap.size, 4, none⟩ = some (.int .i64 z) := Joins.cell_of_block hX 4
  have c5 : (W3 w (caR (8) s u d z f b) (rsR 0)).cell? ⟨w.heap.size, 5, none⟩ = some (.int .i64 f) := Joins.cell_of_block hX 5
  have c6 : (W3 w (caR (8) s u d z f b) (rsR 0)).cell? ⟨w.heap.size, 6, none⟩ = some b := Joins.cell_of_block hX 6
  have HO := Hid.mk' (W3_out w (caR (8) s u d z f b) (rsR 0))
  have HR := Hid.mk' (W3_r w (caR (8) s u d z f b) (rsR 0))
  have HB := Hid.mk' (W3_below w (caR (8) s u d z f b) (rsR 0))
  have hc := flstat (h.later (W3_below w (caR (8) s u d z f b) (rsR 0))) d
  clear h hX
  generalize caR (8) s u d z f b = X at *
  have HI := Hid.mk' (rsR_info 1)
  have HI0 := Hid.mk' (rsR_info 0)
  have H1 := Hid.mk' (rsR_one 1)
  have HP : Hid (putE (rsR 0) 0 [.int .i64 1] = rsR 1) := rfl
  have HK2 : Hid (putE (rsR 0) 2 [.slice none 0 0] = rsR 0) := rfl
  have HK1 : Hid (putE (rsR 0) 1 [.int .i64 0] = rsR 0) := rfl
  have HK3 : Hid (putE (rsR 0) 3 stZ.toList = rsR 0) := rfl
  have HK11 : Hid (putE (rsR 1) 1 [.int .i64 0] = rsR 1) := rfl
  have HS0 : Hid ((rsR 0).size = 9) := rfl
  have HS1 : Hid ((rsR 1).size = 9) := rfl
  have HQ2 : Hid ((rsR 1)[2]? = some (.slice none 0 0)) := rfl
  have HZ1 : Hid ((Tryz.prog.info? 51).map (·.size) = some stZ.toList.length) := Hid.mk' (by rw [stZ_size]; rfl)
  have HZ2 : Hid (∀ u ∈ stZ.toList, u.oneCell' = true) := by intro u hu; simp [stZ] at hu; rcases hu with rfl | rfl | rfl | rfl | rfl <;> rfl
  have HZ3 : Hid (Value.cells (.agg stZ) = stZ.toList.toArray) := Hid.mk' (by simp [Value.cells])
  have HZ4 : Hid (stZ.toList.length = 5) := rfl
  have HE1 : Hid ((Tryz.prog.info? 42).map (·.size) = some [Value.int .i64 1].length) := Hid.mk' sizeE
  have HE0 : Hid ((Tryz.prog.info? 3).map (·.size) = some [Value.int .i64 0].length) := Hid.mk' size1
  have HEs : Hid ((Tryz.prog.info? 23).map (·.size) = some [Value.slice none 0 0].length) := Hid.mk' sizeSl
  have HV1 : Hid (Value.cells (.int .i64 1) = [Value.int .i64 1].toArray) := rfl
  have HV0 : Hid (Value.cells (.int .i64 0) = [Value.int .i64 0].toArray) := rfl
  have HVs : Hid (Value.cells (.slice none 0 0) = [Value.slice none 0 0].toArray) := rfl
  have HW1 : Hid (∀ u ∈ [Value.int .i64 1], u.oneCell' = true) := Hid.mk' (by simp [Value.oneCell'])
  have HW0 : Hid (∀ u ∈ [Value.int .i64 0], u.oneCell' = true) := Hid.mk' (by simp [Value.oneCell'])
  have HWs : Hid (∀ u ∈ [Value.slice none 0 0], u.oneCell' = true) := Hid.mk' (by simp [Value.oneCell'])
  have HF0 : Hid (0 + [Value.int .i64 1].length ≤ (rsR 0).size) := Hid.mk' (by simp [rsR])
  have HF1 : Hid (1 + [Value.int .i64 0].length ≤ (rsR 0).size) := Hid.mk' (by simp [rsR])
  have HF11 : Hid (1 + [Value.int .i64 0].length ≤ (rsR 1).size) := Hid.mk' (by simp [rsR])
  have HF2 : Hid (2 + [Value.slice none 0 0].length ≤ (rsR 0).size) := Hid.mk' (by simp [rsR])
  have HF3 : Hid (3 + stZ.toList.length ≤ (rsR 0).size) := Hid.mk' (by simp [rsR, stZ])
  have HS01 : Hid ((rsR 0).size = (rsR 1).size) := rfl
  generalize stZ = Z at *
  generalize rsR 1 = R1 at *
  generalize rsR 0 = R at *
  unfold W3 at *
  go_enter Tryz.func17, Tryz.ntmps17
  go_wp2_with (first | (go_at_call 11; fail))
  refine hc.mono ?_
  rintro e W1 ⟨rfl, hb⟩
  have ho := heap_kept HO.out hb
  have hr := heap_kept HR.out hb
  have hb1 := below_next HB.out hb
  have ho1 : (W1.setRow (w.heap.size + 1 + 1) R1).heap[w.heap.size + 1]? = some (.cells R 61) := (setRow_other _ _ _ _ (by omega)).trans ho
  have hr1 : (W1.setRow (w.heap.size + 1 + 1) R1).heap[w.heap.size + 1 + 1]? = some (.cells R1 61) := setRow_heap _ _ _ _ _ _ hr
  have hbb : Below w.heap.size w ((W1.setRow (w.heap.size + 1 + 1) R1).setRow (w.heap.size + 1) R1) := (hb1.trans ((Fr.setRow W1 (w.heap.size + 1 + 1) R1).below (fun i hi => by omega) hb1.size)).trans ((Fr.setRow _ (w.heap.size + 1) R1).below (fun i hi => by omega) (by have := hb1.size; simpa using this))
  have HO1 := Hid.mk' ho1
  have HR0 := Hid.mk' hr
  have HR1 := Hid.mk' hr1
  have HBB := Hid.mk' hbb
  clear hc hb ho hr hb1 ho1 hr1 hbb c0 c3 c4 c5 c6 HO HR HB
  go_wp2_with (first | (with_reducible refine isStoreR 42 ?_; refine wpList_stTurn 42 61 rfl _ _ rfl (w.heap.size + 1 + 1) 0 [.int .i64 1] R R1 (.int .i64 1) HE1.out rfl rfl HV1.out HR0.out HF0.out HW1.out HP.out ?_) | (with_reducible refine isStoreR 51 ?_; refine wpList_stKeep 51 61 rfl _ _ rfl (w.heap.size + 1 + 1) 3 Z.toList R (.agg Z) HZ1.out rfl rfl HZ3.out HR0.out HF3.out HZ2.out HK3.out ?_) | (with_reducible refine isLoadR 61 ?_; refine wpList_ldR 61 Tryz.underlying61 rfl rfl _ rfl (w.heap.size + 1 + 1) rfl R1 61 (0, 0) HI.out HR1.out ?_) | (with_reducible refine isStoreR 61 ?_; refine wpList_stR 61 rfl _ _ rfl (w.heap.size + 1) R1 R 61 HI.out HS01.out H1.out rfl rfl HO1.out ?_))
  refine retR Tryz.underlying61 rfl rfl (w.heap.size + 1) R1 61 HI.out rfl (setRow_heap _ _ _ _ _ _ HO1.out) rfl ⟨rfl, HBB.out⟩
set_option maxRecDepth 20000 in
set_option maxHeartbeats 2000000 in
theorem fldoX {w : World} {v : Value} (h : NoRow w v) (k : Int) (n2 : k ≠ 2) (n3 : k ≠ 3) (n4 : k ≠ 4) (n5 : k ≠ 5) (n6 : k ≠ 6) (n8 : k ≠ 8) (s u : ByteArray) (d z f : Int) (b : Value) : Calls Tryz.prog 17 #[v, .agg (caR (k) s u d z f b)] w fun e W' => e = .returned (.agg (rsR 1)) ∧ Below w.heap.size w W' := by
  have zr := rsR_zero
  have hX := W3_row w (caR (k) s u d z f b) (rsR 0)
  have c0 : (W3 w (caR (k) s u d z f b) (rsR 0)).cell? ⟨w.heap.size, 0, none⟩ = some (.int .u8 (k)) := Joins.cell_of_block hX 0
  have c3 : (W3 w (caR (k) s u d z f b) (rsR 0)).cell? ⟨w.heap.size, 3, none⟩ = some (.int .i64 d) := Joins.cell_of_block hX 3
  have c4 : (W3 w (caR (k) s u d z f b) (rsR 0)).cell? ⟨w.heap.size, 4, none⟩ = some (.int .i64 z) := Joins.cell_of_block hX 4
  have c5 : (W3 w (caR (k) s u d z f b) (rsR 0)).cell? ⟨w.heap.size, 5, none⟩ = some (.int .i64 f) := Joins.cell_of_block hX 5
  have c6 : (W3 w (caR (k) s u d z f b) (rsR 0)).cell? ⟨w.heap.size, 6, none⟩ = some b := Joins.cell_of_block hX 6
  have HO := Hid.mk' (W3_out w (caR (k) s u d z f b) (rsR 0))
  have HR := Hid.mk' (W3_r w (caR (k) s u d z f b) (rsR 0))
  have HB := Hid.mk' (W3_below w (caR (k) s u d z f b) (rsR 0))
  have hc := flother (h.later (W3_below w (caR (k) s u d z f b) (rsR 0)))
  clear h hX
  generalize caR (k) s u d z f b = X at *
  have HI := Hid.mk' (rsR_info 1)
  have HI0 := Hid.mk' (rsR_info 0)
  have H1 := Hid.mk' (rsR_one 1)
  have HP : Hid (putE (rsR 0) 0 [.int .i64 1] = rsR 1) := rfl
  have HK2 : Hid (putE (rsR 0) 2 [.slice none 0 0] = rsR 0) := rfl
  have HK1 : Hid (putE (rsR 0) 1 [.int .i64 0] = rsR 0) := rfl
  have HK3 : Hid (putE (rsR 0) 3 stZ.toList = rsR 0) := rfl
  have HK11 : Hid (putE (rsR 1) 1 [.int .i64 0] = rsR 1) := rfl
  have HS0 : Hid ((rsR 0).size = 9) := rfl
  have HS1 : Hid ((rsR 1).size = 9) := rfl
  have HQ2 : Hid ((rsR 1)[2]? = some (.slice none 0 0)) := rfl
  have HZ1 : Hid ((Tryz.prog.info? 51).map (·.size) = some stZ.toList.length) := Hid.mk' (by rw [stZ_size]; rfl)
  have HZ2 : Hid (∀ u ∈ stZ.toList, u.oneCell' = true) := by intro u hu; simp [stZ] at hu; rcases hu with rfl | rfl | rfl | rfl | rfl <;> rfl
  have HZ3 : Hid (Value.cells (.agg stZ) = stZ.toList.toArray) := Hid.mk' (by simp [Value.cells])
  have HZ4 : Hid (stZ.toList.length = 5) := rfl
  have HE1 : Hid ((Tryz.prog.info? 42).map (·.size) = some [Value.int .i64 1].length) := Hid.mk' sizeE
  have HE0 : Hid ((Tryz.prog.info? 3).map (·.size) = some [Value.int .i64 0].length) := Hid.mk' size1
  have HEs : Hid ((Tryz.prog.info? 23).map (·.size) = some [Value.slice none 0 0].length) := Hid.mk' sizeSl
  have HV1 : Hid (Value.cells (.int .i64 1) = [Value.int .i64 1].toArray) := rfl
  have HV0 : Hid (Value.cells (.int .i64 0) = [Value.int .i64 0].toArray) := rfl
  have HVs : Hid (Value.cells (.slice none 0 0) = [Value.slice none 0 0].toArray) := rfl
  have HW1 : Hid (∀ u ∈ [Value.int .i64 1], u.oneCell' = true) := Hid.mk' (by simp [Value.oneCell'])
  have HW0 : Hid (∀ u ∈ [Value.int .i64 0], u.oneCell' = true) := Hid.mk' (by simp [Value.oneCell'])
  have HWs : Hid (∀ u ∈ [Value.slice none 0 0], u.oneCell' = true) := Hid.mk' (by simp [Value.oneCell'])
  have HF0 : Hid (0 + [Value.int .i64 1].length ≤ (rsR 0).size) := Hid.mk' (by simp [rsR])
  have HF1 : Hid (1 + [Value.int .i64 0].length ≤ (rsR 0).size) := Hid.mk' (by simp [rsR])
  have HF11 : Hid (1 + [Value.int .i64 0].length ≤ (rsR 1).size) := Hid.mk' (by simp [rsR])
  have HF2 : Hid (2 + [Value.slice none 0 0].length ≤ (rsR 0).size) := Hid.mk' (by simp [rsR])
  have HF3 : Hid (3 + stZ.toList.length ≤ (rsR 0).size) := Hid.mk' (by simp [rsR, stZ])
  have HS01 : Hid ((rsR 0).size = (rsR 1).size) := rfl
  generalize stZ = Z at *
  generalize rsR 1 = R1 at *
  generalize rsR 0 = R at *
  unfold W3 at *
  go_enter Tryz.func17, Tryz.ntmps17
  go_wp2_with (first | (go_at_call 38; fail))
  refine hc.mono ?_
  rintro e W1 ⟨rfl, hb⟩
  obtain rfl := hb
  have hb := Below.refl (((w.alloc (.cells X 25)).alloc (.cells R 61)).alloc (.cells R 61)).heap.size (((w.alloc (.cells X 25)).alloc (.cells R 61)).alloc (.cells R 61))
  generalize hW1 : ((w.alloc (.cells X 25)).alloc (.cells R 61)).alloc (.cells R 61) = W1 at *
  have ho := heap_kept HO.out hb
  have hr := heap_kept HR.out hb
  have hb1 := below_next HB.out hb
  have ho1 : (W1.setRow (w.heap.size + 1 + 1) R1).heap[w.heap.size + 1]? = some (.cells R 61) := (setRow_other _ _ _ _ (by omega)).trans ho
  have hr1 : (W1.setRow (w.heap.size + 1 + 1) R1).heap[w.heap.size + 1 + 1]? = some (.cells R1 61) := setRow_heap _ _ _ _ _ _ hr
  have hbb : Below w.heap.size w ((W1.setRow (w.heap.size + 1 + 1) R1).setRow (w.heap.size + 1) R1) := (hb1.trans ((Fr.setRow W1 (w.heap.size + 1 + 1) R1).below (fun i hi => by omega) hb1.size)).trans ((Fr.setRow _ (w.heap.size + 1) R1).below (fun i hi => by omega) (by have := hb1.size; simpa using this))
  have HO1 := Hid.mk' ho1
  have HR0 := Hid.mk' hr
  have HR1 := Hid.mk' hr1
  have HBB := Hid.mk' hbb
  clear hc hb ho hr hb1 ho1 hr1 hbb c0 c3 c4 c5 c6 HO HR HB
  go_wp2_with (first | (with_reducible refine isStoreR 42 ?_; refine wpList_stTurn 42 61 rfl _ _ rfl (w.heap.size + 1 + 1) 0 [.int .i64 1] R R1 (.int .i64 1) HE1.out rfl rfl HV1.out HR0.out HF0.out HW1.out HP.out ?_) | (with_reducible refine isLoadR 61 ?_; refine wpList_ldR 61 Tryz.underlying61 rfl rfl _ rfl (w.heap.size + 1 + 1) rfl R1 61 (0, 0) HI.out HR1.out ?_) | (with_reducible refine isStoreR 61 ?_; refine wpList_stR 61 rfl _ _ rfl (w.heap.size + 1) R1 R 61 HI.out HS01.out H1.out rfl rfl HO1.out ?_))
  refine retR Tryz.underlying61 rfl rfl (w.heap.size + 1) R1 61 HI.out rfl (setRow_heap _ _ _ _ _ _ HO1.out) rfl ⟨rfl, HBB.out⟩
theorem fldo {w : World} {v : Value} (h : NoRow w v) (k : Int) (s u : ByteArray) (d z f : Int) (b : Value) : Calls Tryz.prog 17 #[v, .agg (caR k s u d z f b)] w fun e W' => e = .returned (.agg (rsR 1)) ∧ Below w.heap.size w W' := by
  by_cases n2 : k = 2
  · subst n2; exact fldo2 h s u d z f b
  by_cases n3 : k = 3
  · subst n3; exact fldo3 h s u d z f b
  by_cases n4 : k = 4
  · subst n4; exact fldo4 h s u d z f b
  by_cases n5 : k = 5
  · subst n5; exact fldo5 h s u d z f b
  by_cases n6 : k = 6
  · subst n6; exact fldo6 h s u d z f b
  by_cases n8 : k = 8
  · subst n8; exact fldo8 h s u d z f b
  exact fldoX h k n2 n3 n4 n5 n6 n8 s u d z f b
end Go.Proofs.YtanmfagghhijaaaGreat
