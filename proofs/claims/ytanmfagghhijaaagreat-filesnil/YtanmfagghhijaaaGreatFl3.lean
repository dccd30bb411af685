/- What is no Files: what a descriptor stands for, what an inode is: nothing; for any numbers; no other memory turns. -/
import Derived.Test.YtanmfagghhijaaaGreatFl2
import Derived.Laws.CopyRow
namespace Go.Proofs.YtanmfagghhijaaaGreat
open Go.RowKit
theorem Hid.mk' {p : Prop} (h : p) : Hid p := h
section
variable {ops : Array Oper} {rest : List Oper} {o : Oper} {a : Act} {w w' : World} {Q : Exit → Act → World → Prop}
theorem wpList_exec {v : Value} (hw : Region.wanted o (yielded ops a.tmps) = true) (hr : (execOp a.eval o).run Tryz.prog w = .ok (.value v) w')
    (h : wpList Tryz.prog ops Q rest (a.put o.dst v) w') : wpList Tryz.prog ops Q (o :: rest) a w := BigFrame.wpList_want hw fun _ hK => by
  unfold Oper.wp
  rw [hr]
  exact hK _ _ h
/-- A row is stored where it stands already. -/
theorem wpList_stSame (ty : TypeId) (hgd : o.guard = none) (x y : Operand) (ho : o.op = .store ty x y)
    (g : Nat) (cs : Array Value) (t : TypeId) (hi : (Tryz.prog.info? ty).map (·.size) = some cs.size) (h1 : cs.all (·.oneCell') = true)
    (hx : a.eval x = .pointer (some ⟨g, 0, none⟩)) (hy : a.eval y = .agg cs) (hg : w.heap[g]? = some (.cells cs t))
    (h : wpList Tryz.prog ops Q rest (a.put o.dst undef) w) : wpList Tryz.prog ops Q (o :: rest) a w :=
  wpList_stR ty hgd x y ho g cs cs t hi rfl h1 hx hy hg (by rw [setRow_self w g cs t (0, 0) hg]; exact h)
end
theorem retCT {fn : Func} {p u : Tmp} {ty : TypeId} {R : Ending → World → Prop} {a : Act} {w : World} {d : TypeDesc} (hu : Tryz.prog.underlying ty = some d) (hd : d.isRow = true) (h : fn.results = #[.cell p ty, .tmp u]) (g : Nat) (cs : Array Value) (t : TypeId) (hi : (Tryz.prog.info? ty).map (·.size) = some cs.size)
    (hp : a.tmps.getD p undef = .pointer (some ⟨g, 0, none⟩)) (hg : w.heap[g]? = some (.cells cs t))
    (hdf : a.defers = []) (hR : R (.returned (.tuple #[.agg cs, a.tmps.getD u undef])) w) : bodyPost Tryz.prog fn R .ret a w := by
  have hl : (loadVar ty ⟨g, 0, none⟩).run Tryz.prog w = .ok (.agg cs) w := run_loadVar_row w g t ty cs (0, 0) d hg hu (by cases d <;> first | rfl | cases hd) hi
  refine bodyPost_ret ?_ hdf hR
  rw [results_cell_tmp h]
  rw [hp]
  simp [asAddr, hl]
theorem retCCT {fn : Func} {p p2 u : Tmp} {ty ty2 : TypeId} {R : Ending → World → Prop} {a : Act} {w : World} {d d2 : TypeDesc} (hu : Tryz.prog.underlying ty = some d) (hd : d.isRow = true) (hu2 : Tryz.prog.underlying ty2 = some d2) (hd2 : d2.isRow = true) (h : fn.results = #[.cell p ty, .cell p2 ty2, .tmp u])
    (g g2 : Nat) (cs cs2 : Array Value) (t t2 : TypeId) (hi : (Tryz.prog.info? ty).map (·.size) = some cs.size) (hi2 : (Tryz.prog.info? ty2).map (·.size) = some cs2.size)
    (hp : a.tmps.getD p undef = .pointer (some ⟨g, 0, none⟩)) (hp2 : a.tmps.getD p2 undef = .pointer (some ⟨g2, 0, none⟩)) (hg : w.heap[g]? = some (.cells cs t)) (hg2 : w.heap[g2]? = some (.cells cs2 t2))
    (hdf : a.defers = []) (hR : R (.returned (.tuple #[.agg cs, .agg cs2, a.tmps.getD u undef])) w) : bodyPost Tryz.prog fn R .ret a w := by
  have hl : (loadVar ty ⟨g, 0, none⟩).run Tryz.prog w = .ok (.agg cs) w := run_loadVar_row w g t ty cs (0, 0) d hg hu (by cases d <;> first | rfl | cases hd) hi
  have hl2 : (loadVar ty2 ⟨g2, 0, none⟩).run Tryz.prog w = .ok (.agg cs2) w := run_loadVar_row w g2 t2 ty2 cs2 (0, 0) d2 hg2 hu2 (by cases d2 <;> first | rfl | cases hd2) hi2
  refine bodyPost_ret ?_ hdf hR
  simp only [results, h]
  simp only [Array.getD_eq_getD_getElem?] at hp hp2
  simp [Sem.run_bind, Result.andThen, asAddr, hp, hp2, hl, hl2]
set_option maxRecDepth 20000 in
set_option maxHeartbeats 1000000 in
theorem flopened {w : World} {v : Value} (h : NoRow w v) (k fl : Int) : Calls Tryz.prog 19 #[v, .int .i64 k, .int .i64 fl] w fun e W' => e = .returned (.tuple #[.agg deZ, .agg noZ, .int .i64 1]) ∧ Below w.heap.size w W' := by
  have zd := deZ_zero
  have zn := noZ_zero
  have hb1 := below_new w (.cells deZ 41)
  have hb2 := below_next hb1 (below_new _ (.cells noZ 69))
  have hd : ((w.alloc (.cells deZ 41)).alloc (.cells noZ 69)).heap[w.heap.size]? = some (.cells deZ 41) := heap_kept (heap_alloc_new w _) (below_new _ _)
  have hn : ((w.alloc (.cells deZ 41)).alloc (.cells noZ 69)).heap[w.heap.size + 1]? = some (.cells noZ 69) := by have := heap_alloc_new (w.alloc (.cells deZ 41)) (.cells noZ 69); simpa using this
  have hc := flcheck (h.later hb2)
  have HDI := Hid.mk' deZ_size
  have HDO := Hid.mk' deZ_one
  have HNI := Hid.mk' noZ_size
  have HNO := Hid.mk' noZ_one
  have HDE : Hid (∀ {o : Oper} {a : Act} {W : World}, o.op = .build 41 #[] → (execOp a.eval o).run Tryz.prog W = .ok (.value (.agg deZ)) W) := fun ho => deZ_exec ho
  have HNE : Hid (∀ {o : Oper} {a : Act} {W : World}, o.op = .build 69 #[] → (execOp a.eval o).run Tryz.prog W = .ok (.value (.agg noZ)) W) := fun ho => noZ_exec ho
  have HB := Hid.mk' hb2
  have HD := Hid.mk' hd
  have HN := Hid.mk' hn
  clear h hb1 hb2 hd hn
  generalize deZ = D at *
  generalize noZ = N at *
  go_enter Tryz.func19, Tryz.ntmps19
  go_wp2_with (first | (go_at_call 39; refine hc.mono ?_; rintro e W ⟨rfl, rfl⟩; clear hc) | (with_reducible refine isBuildR 41 ?_; refine wpList_exec rfl (HDE.out rfl) ?_) | (with_reducible refine isBuildR 69 ?_; refine wpList_exec rfl (HNE.out rfl) ?_) | (with_reducible refine isStoreR 41 ?_; refine wpList_stSame 41 rfl _ _ rfl w.heap.size D 41 HDI.out HDO.out rfl rfl HD.out ?_) | (with_reducible refine isStoreR 69 ?_; refine wpList_stSame 69 rfl _ _ rfl (w.heap.size + 1) N 69 HNI.out HNO.out rfl rfl HN.out ?_))
  exact retCCT Tryz.underlying41 rfl Tryz.underlying69 rfl rfl w.heap.size (w.heap.size + 1) D N _ _ HDI.out HNI.out rfl rfl HD.out HN.out rfl ⟨rfl, HB.out⟩
end Go.Proofs.YtanmfagghhijaaaGreat
