/- What a call answered, held against a refusal: the same; no other memory turns. -/
import Derived.Test.YtanmfagghhijaaaGreatFl5
namespace Go.Proofs.YtanmfagghhijaaaGreat
open Go.RowKit
section
variable {o : Oper} {a : Act} {W : World} {x y : Operand}
theorem egSt : Tryz.prog.eqGuardType Tryz.prog.depth 51 = false := by kernel_rfl
theorem equalSt (w : World) : (Op.equalIn 10000 51 (.agg stZ) (.agg stZ)).run Tryz.prog w = .ok true w := by
  unfold stZ
  go_simp
theorem exec_eqSt (ho : o.op = .binOp .eql 51 x y 51) (hx : a.eval x = .agg stZ) (hy : a.eval y = .agg stZ) : (execOp a.eval o).run Tryz.prog W = .ok (.value (.bool true)) W := by
  have e : (binOp .eql 51 (.agg stZ) (.agg stZ)).run Tryz.prog W = .ok (.bool true) W := by
    rw [run_eql_struct, equalSt]; rfl
  generalize stZ = F at *
  unfold execOp
  simp only [ho, hx, hy, Sem.run_bind, run_eqGuard_agg W _ 51 _ _ _ _ egSt, e, Result.andThen_ok, Sem.run_pure]
end
theorem same0 (w : World) : Calls Tryz.prog 36 #[.slice none 0 0, .slice none 0 0] w fun e w' => e = .returned (.bool true) ∧ w' = w := by
  go_enter Tryz.func36, Tryz.ntmps36
  go_wp2
  go_loopw [5] (fun s5 wx => s5 = .int .i64 0 ∧ wx = w) (fun _ _ => 0)
  case atStart => exact ⟨rfl, rfl⟩
  case round =>
    obtain ⟨rfl, rfl⟩ := hrel
    go_wp2
    go_ret
    exact ⟨rfl, rfl⟩
theorem same0E (w : World) : Calls Tryz.prog 37 #[.slice none 0 0, .slice none 0 0] w fun e w' => e = .returned (.bool true) ∧ w' = w := by
  go_enter Tryz.func37, Tryz.ntmps37
  go_wp2
  go_loopw [5] (fun s5 wx => s5 = .int .i64 0 ∧ wx = w) (fun _ _ => 0)
  case atStart => exact ⟨rfl, rfl⟩
  case round =>
    obtain ⟨rfl, rfl⟩ := hrel
    go_wp2
    go_ret
    exact ⟨rfl, rfl⟩
theorem wpList_ldMid {ops : Array Oper} {rest : List Oper} {o : Oper} {a : Act} {w : World} {Q : Exit → Act → World → Prop} (t : TypeId) {d : TypeDesc} (hu : Tryz.prog.underlying t = some d) (hd : d.isRow = true) (hw : Region.wanted o (yielded ops a.tmps) = true) (x : Operand) (ho : o.op = .load t x) (b off : Nat) (cs : List Value) (R : Array Value) (hR : cs.toArray = R) (hsz : (Tryz.prog.info? t).map (·.size) = some cs.length) (hx : a.eval x = .pointer (some ⟨b, off, none⟩)) (hg : ∀ j u, cs[j]? = some u → w.cell? ⟨b, off + j, none⟩ = some u)
    (h : wpList Tryz.prog ops Q rest (a.put o.dst (.agg R)) w) : wpList Tryz.prog ops Q (o :: rest) a w := by
  subst hR
  have e : (Instr.loadAt t (.pointer (some ⟨b, off, none⟩))).run Tryz.prog w = .ok (.agg cs.toArray) w := run_loadAt_mid (P := Tryz.prog) w b off t cs _ (fun j v hv => hg j v hv) hu (by cases d <;> first | rfl | cases hd) hsz
  refine wpList_exec hw ?_ h
  unfold execOp
  simp only [ho, hx, e, Sem.run_bind, Result.andThen_ok, Sem.run_pure]
theorem mid_stat {w : World} {g : Nat} {e : Int} (h : w.heap[g]? = some (.cells (rsR e) 61)) : ∀ j u, stZ.toList[j]? = some u → w.cell? ⟨g, 3 + j, none⟩ = some u := fun j u hu => by
  rw [Joins.cell_of_block h]
  match j, hu with
  | 0, hu => exact hu
  | 1, hu => exact hu
  | 2, hu => exact hu
  | 3, hu => exact hu
  | 4, hu => exact hu
  | j + 5, hu => simp [stZ] at hu
set_option maxRecDepth 20000 in
set_option maxHeartbeats 2000000 in
theorem sameRs (e : Int) (w : World) : Calls Tryz.prog 16 #[.agg (rsR e), .agg (rsR e)] w fun e' w' => e' = .returned (.bool true) ∧ Below w.heap.size w w' := by
  have h1 : ((w.alloc (.cells (rsR e) 61)).alloc (.cells (rsR e) 61)).heap[w.heap.size]? = some (.cells (rsR e) 61) := heap_kept (heap_alloc_new w _) (below_new _ _)
  have h2 : ((w.alloc (.cells (rsR e) 61)).alloc (.cells (rsR e) 61)).heap[w.heap.size + 1]? = some (.cells (rsR e) 61) := by
    have q := heap_alloc_new (w.alloc (.cells (rsR e) 61)) (.cells (rsR e) 61)
    rw [World.size_alloc] at q
    exact q
  have HM1 := Hid.mk' (mid_stat h1)
  have HM2 := Hid.mk' (mid_stat h2)
  have HB := Hid.mk' (below_next (below_new w (.cells (rsR e) 61)) (below_new _ (.cells (rsR e) 61)))
  have a0 : ((w.alloc (.cells (rsR e) 61)).alloc (.cells (rsR e) 61)).cell? ⟨w.heap.size, 0, none⟩ = some (.int .i64 e) := Joins.cell_of_block h1 0
  have a1 : ((w.alloc (.cells (rsR e) 61)).alloc (.cells (rsR e) 61)).cell? ⟨w.heap.size, 1, none⟩ = some (.int .i64 0) := Joins.cell_of_block h1 1
  have a2 : ((w.alloc (.cells (rsR e) 61)).alloc (.cells (rsR e) 61)).cell? ⟨w.heap.size, 2, none⟩ = some (.slice none 0 0) := Joins.cell_of_block h1 2
  have a8 : ((w.alloc (.cells (rsR e) 61)).alloc (.cells (rsR e) 61)).cell? ⟨w.heap.size, 8, none⟩ = some (.slice none 0 0) := Joins.cell_of_block h1 8
  have b0 : ((w.alloc (.cells (rsR e) 61)).alloc (.cells (rsR e) 61)).cell? ⟨w.heap.size + 1, 0, none⟩ = some (.int .i64 e) := Joins.cell_of_block h2 0
  have b1 : ((w.alloc (.cells (rsR e) 61)).alloc (.cells (rsR e) 61)).cell? ⟨w.heap.size + 1, 1, none⟩ = some (.int .i64 0) := Joins.cell_of_block h2 1
  have b2 : ((w.alloc (.cells (rsR e) 61)).alloc (.cells (rsR e) 61)).cell? ⟨w.heap.size + 1, 2, none⟩ = some (.slice none 0 0) := Joins.cell_of_block h2 2
  have b8 : ((w.alloc (.cells (rsR e) 61)).alloc (.cells (rsR e) 61)).cell? ⟨w.heap.size + 1, 8, none⟩ = some (.slice none 0 0) := Joins.cell_of_block h2 8
  clear h1 h2
  have HZ1 : Hid ((Tryz.prog.info? 51).map (·.size) = some stZ.toList.length) := Hid.mk' (by rw [stZ_size]; rfl)
  have HE : Hid (∀ {o : Oper} {a : Act} {W : World} {x y : Operand}, o.op = .binOp .eql 51 x y 51 → a.eval x = .agg stZ → a.eval y = .agg stZ → (execOp a.eval o).run Tryz.prog W = .ok (.value (.bool true)) W) := fun ho hx hy => exec_eqSt ho hx hy
  generalize rsR e = R at *
  generalize stZ = Z at *
  go_enter Tryz.func16, Tryz.ntmps16
  go_wp2_with (first | (go_at_call 36; refine (same0 _).mono ?_; rintro e1 W ⟨rfl, q⟩; obtain rfl := q.symm; clear q) | (go_at_call 37; refine (same0E _).mono ?_; rintro e1 W ⟨rfl, q⟩; obtain rfl := q.symm; clear q) | (with_reducible refine isLoadR 51 ?_; first | go_loud (refine wpList_ldMid 51 Tryz.underlying51 rfl rfl _ rfl w.heap.size 3 Z.toList Z (Array.toArray_toList (xs := Z)) HZ1.out rfl HM1.out ?_) | go_loud (refine wpList_ldMid 51 Tryz.underlying51 rfl rfl _ rfl (w.heap.size + 1) 3 Z.toList Z (Array.toArray_toList (xs := Z)) HZ1.out rfl HM2.out ?_)) | (with_reducible refine isEqR 51 51 ?_; go_loud (refine wpList_exec rfl (HE.out rfl rfl rfl) ?_)))
  go_ret
  exact ⟨rfl, HB.out⟩
end Go.Proofs.YtanmfagghhijaaaGreat
