/- What is no Files: it is read, written, sought in, looked at, cut and closed in vain; for any numbers, any bytes; no other memory turns. -/
import Derived.Test.YtanmfagghhijaaaGreatFl3
namespace Go.Proofs.YtanmfagghhijaaaGreat
open Go.RowKit
set_option maxRecDepth 20000 in
set_option maxHeartbeats 1000000 in
theorem flread {w : World} {v : Value} (h : NoRow w v) (k z : Int) : Calls Tryz.prog 8 #[v, .int .i64 k, .int .i64 z] w fun e W' => e = .returned (.tuple #[.slice none 0 0, .int .i64 1]) ∧ Below w.heap.size w W' := by
  have zd := deZ_zero
  have zn := noZ_zero
  have hc := flopened h k 1
  have HDI := Hid.mk' deZ_size
  have HDO := Hid.mk' deZ_one
  have HNI := Hid.mk' noZ_size
  have HNO := Hid.mk' noZ_one
  clear h
  generalize deZ = D at *
  generalize noZ = N at *
  go_enter Tryz.func8, Tryz.ntmps8
  go_wp2_with (first | (go_at_call 19; fail))
  refine hc.mono ?_
  rintro e W1 ⟨rfl, hb⟩
  have hb2 := below_next (below_new W1 (.cells D 41)) (below_new _ (.cells N 69))
  have HD : Hid (((W1.alloc (.cells D 41)).alloc (.cells N 69)).heap[W1.heap.size]? = some (.cells D 41)) := heap_kept (heap_alloc_new W1 _) (below_new _ _)
  have HN : Hid (((W1.alloc (.cells D 41)).alloc (.cells N 69)).heap[W1.heap.size + 1]? = some (.cells N 69)) := by
    have q := heap_alloc_new (W1.alloc (.cells D 41)) (.cells N 69)
    rw [World.size_alloc] at q
    exact q
  have HB : Hid (Below w.heap.size w ((W1.alloc (.cells D 41)).alloc (.cells N 69))) := below_next hb hb2
  clear hc hb hb2
  go_wp2_with (first | (with_reducible refine isStoreR 41 ?_; refine wpList_stSame 41 rfl _ _ rfl W1.heap.size D 41 HDI.out HDO.out rfl rfl HD.out ?_) | (with_reducible refine isStoreR 69 ?_; refine wpList_stSame 69 rfl _ _ rfl (W1.heap.size + 1) N 69 HNI.out HNO.out rfl rfl HN.out ?_))
  go_ret2
  exact ⟨rfl, HB.out⟩
set_option maxRecDepth 20000 in
set_option maxHeartbeats 1000000 in
theorem flwrite {w : World} {v : Value} (h : NoRow w v) (k : Int) (b : Value) : Calls Tryz.prog 9 #[v, .int .i64 k, b] w fun e W' => e = .returned (.tuple #[.int .i64 0, .int .i64 1]) ∧ Below w.heap.size w W' := by
  have zd := deZ_zero
  have zn := noZ_zero
  have hc := flopened h k 2
  have HDI := Hid.mk' deZ_size
  have HDO := Hid.mk' deZ_one
  have HNI := Hid.mk' noZ_size
  have HNO := Hid.mk' noZ_one
  clear h
  generalize deZ = D at *
  generalize noZ = N at *
  go_enter Tryz.func9, Tryz.ntmps9
  go_wp2_with (first | (go_at_call 19; fail))
  refine hc.mono ?_
  rintro e W1 ⟨rfl, hb⟩
  have hb2 := below_next (below_new W1 (.cells D 41)) (below_new _ (.cells N 69))
  have HD : Hid (((W1.alloc (.cells D 41)).alloc (.cells N 69)).heap[W1.heap.size]? = some (.cells D 41)) := heap_kept (heap_alloc_new W1 _) (below_new _ _)
  have HN : Hid (((W1.alloc (.cells D 41)).alloc (.cells N 69)).heap[W1.heap.size + 1]? = some (.cells N 69)) := by
    have q := heap_alloc_new (W1.alloc (.cells D 41)) (.cells N 69)
    rw [World.size_alloc] at q
    exact q
  have HB : Hid (Below w.heap.size w ((W1.alloc (.cells D 41)).alloc (.cells N 69))) := below_next hb hb2
  clear hc hb hb2
  go_wp2_with (first | (with_reducible refine isStoreR 41 ?_; refine wpList_stSame 41 rfl _ _ rfl W1.heap.size D 41 HDI.out HDO.out rfl rfl HD.out ?_) | (with_reducible refine isStoreR 69 ?_; refine wpList_stSame 69 rfl _ _ rfl (W1.heap.size + 1) N 69 HNI.out HNO.out rfl rfl HN.out ?_))
  go_ret2
  exact ⟨rfl, HB.out⟩
set_option maxRecDepth 20000 in
set_option maxHeartbeats 1000000 in
theorem flseek {w : World} {v : Value} (h : NoRow w v) (k z f : Int) : Calls Tryz.prog 10 #[v, .int .i64 k, .int .i64 z, .int .i64 f] w fun e W' => e = .returned (.tuple #[.int .i64 0, .int .i64 1]) ∧ Below w.heap.size w W' := by
  have zd := deZ_zero
  have zn := noZ_zero
  have hc := flopened h k 0
  have HDI := Hid.mk' deZ_size
  have HDO := Hid.mk' deZ_one
  have HNI := Hid.mk' noZ_size
  have HNO := Hid.mk' noZ_one
  clear h
  generalize deZ = D at *
  generalize noZ = N at *
  go_enter Tryz.func10, Tryz.ntmps10
  go_wp2_with (first | (go_at_call 19; fail))
  refine hc.mono ?_
  rintro e W1 ⟨rfl, hb⟩
  have hb2 := below_next (below_new W1 (.cells D 41)) (below_new _ (.cells N 69))
  have HD : Hid (((W1.alloc (.cells D 41)).alloc (.cells N 69)).heap[W1.heap.size]? = some (.cells D 41)) := heap_kept (heap_alloc_new W1 _) (below_new _ _)
  have HN : Hid (((W1.alloc (.cells D 41)).alloc (.cells N 69)).heap[W1.heap.size + 1]? = some (.cells N 69)) := by
    have q := heap_alloc_new (W1.alloc (.cells D 41)) (.cells N 69)
    rw [World.size_alloc] at q
    exact q
  have HB : Hid (Below w.heap.size w ((W1.alloc (.cells D 41)).alloc (.cells N 69))) := below_next hb hb2
  clear hc hb hb2
  go_wp2_with (first | (with_reducible refine isStoreR 41 ?_; refine wpList_stSame 41 rfl _ _ rfl W1.heap.size D 41 HDI.out HDO.out rfl rfl HD.out ?_) | (with_reducible refine isStoreR 69 ?_; refine wpList_stSame 69 rfl _ _ rfl (W1.heap.size + 1) N 69 HNI.out HNO.out rfl rfl HN.out ?_))
  go_ret2
  exact ⟨rfl, HB.out⟩
set_option maxRecDepth 20000 in
set_option maxHeartbeats 1000000 in
theorem fltrunc {w : World} {v : Value} (h : NoRow w v) (k z : Int) : Calls Tryz.prog 13 #[v, .int .i64 k, .int .i64 z] w fun e W' => e = .returned (.int .i64 1) ∧ Below w.heap.size w W' := by
  have zd := deZ_zero
  have zn := noZ_zero
  have hc := flopened h k 2
  have HDI := Hid.mk' deZ_size
  have HDO := Hid.mk' deZ_one
  have HNI := Hid.mk' noZ_size
  have HNO := Hid.mk' noZ_one
  clear h
  generalize deZ = D at *
  generalize noZ = N at *
  go_enter Tryz.func13, Tryz.ntmps13
  go_wp2_with (first | (go_at_call 19; fail))
  refine hc.mono ?_
  rintro e W1 ⟨rfl, hb⟩
  have hb2 := below_next (below_new W1 (.cells D 41)) (below_new _ (.cells N 69))
  have HD : Hid (((W1.alloc (.cells D 41)).alloc (.cells N 69)).heap[W1.heap.size]? = some (.cells D 41)) := heap_kept (heap_alloc_new W1 _) (below_new _ _)
  have HN : Hid (((W1.alloc (.cells D 41)).alloc (.cells N 69)).heap[W1.heap.size + 1]? = some (.cells N 69)) := by
    have q := heap_alloc_new (W1.alloc (.cells D 41)) (.cells N 69)
    rw [World.size_alloc] at q
    exact q
  have HB : Hid (Below w.heap.size w ((W1.alloc (.cells D 41)).alloc (.cells N 69))) := below_next hb hb2
  clear hc hb hb2
  go_wp2_with (first | (with_reducible refine isStoreR 41 ?_; refine wpList_stSame 41 rfl _ _ rfl W1.heap.size D 41 HDI.out HDO.out rfl rfl HD.out ?_) | (with_reducible refine isStoreR 69 ?_; refine wpList_stSame 69 rfl _ _ rfl (W1.heap.size + 1) N 69 HNI.out HNO.out rfl rfl HN.out ?_))
  go_ret
  exact ⟨rfl, HB.out⟩
set_option maxRecDepth 20000 in
set_option maxHeartbeats 1000000 in
theorem flclose {w : World} {v : Value} (h : NoRow w v) (k : Int) : Calls Tryz.prog 14 #[v, .int .i64 k] w fun e W' => e = .returned (.int .i64 1) ∧ Below w.heap.size w W' := by
  have zd := deZ_zero
  have zn := noZ_zero
  have hc := flopened h k 0
  have HDI := Hid.mk' deZ_size
  have HDO := Hid.mk' deZ_one
  have HNI := Hid.mk' noZ_size
  have HNO := Hid.mk' noZ_one
  clear h
  generalize deZ = D at *
  generalize noZ = N at *
  go_enter Tryz.func14, Tryz.ntmps14
  go_wp2_with (first | (go_at_call 19; fail))
  refine hc.mono ?_
  rintro e W1 ⟨rfl, hb⟩
  have hb2 := below_next (below_new W1 (.cells D 41)) (below_new _ (.cells N 69))
  have HD : Hid (((W1.alloc (.cells D 41)).alloc (.cells N 69)).heap[W1.heap.size]? = some (.cells D 41)) := heap_kept (heap_alloc_new W1 _) (below_new _ _)
  have HN : Hid (((W1.alloc (.cells D 41)).alloc (.cells N 69)).heap[W1.heap.size + 1]? = some (.cells N 69)) := by
    have q := heap_alloc_new (W1.alloc (.cells D 41)) (.cells N 69)
    rw [World.size_alloc] at q
    exact q
  have HB : Hid (Below w.heap.size w ((W1.alloc (.cells D 41)).alloc (.cells N 69))) := below_next hb hb2
  clear hc hb hb2
  go_wp2_with (first | (with_reducible refine isStoreR 41 ?_; refine wpList_stSame 41 rfl _ _ rfl W1.heap.size D 41 HDI.out HDO.out rfl rfl HD.out ?_) | (with_reducible refine isStoreR 69 ?_; refine wpList_stSame 69 rfl _ _ rfl (W1.heap.size + 1) N 69 HNI.out HNO.out rfl rfl HN.out ?_))
  go_ret
  exact ⟨rfl, HB.out⟩
set_option maxRecDepth 20000 in
set_option maxHeartbeats 1000000 in
theorem flstat {w : World} {v : Value} (h : NoRow w v) (k : Int) : Calls Tryz.prog 11 #[v, .int .i64 k] w fun e W' => e = .returned (.tuple #[.agg stZ, .int .i64 1]) ∧ Below w.heap.size w W' := by
  have zd := deZ_zero
  have zn := noZ_zero
  have zs := stZ_zero
  have hb0 := below_new w (.cells stZ 51)
  have hr0 := heap_alloc_new w (.cells stZ 51)
  have hc := flopened (h.later hb0) k 0
  have HDI := Hid.mk' deZ_size
  have HDO := Hid.mk' deZ_one
  have HNI := Hid.mk' noZ_size
  have HNO := Hid.mk' noZ_one
  have HSI := Hid.mk' stZ_size
  have HSO := Hid.mk' stZ_one
  have HSE : Hid (∀ {o : Oper} {a : Act} {W : World}, o.op = .build 51 #[] → (execOp a.eval o).run Tryz.prog W = .ok (.value (.agg stZ)) W) := fun ho => stZ_exec ho
  have HB0 := Hid.mk' hb0
  have HR0 := Hid.mk' hr0
  clear hb0 hr0
  clear h
  generalize stZ = S at *
  generalize deZ = D at *
  generalize noZ = N at *
  go_enter Tryz.func11, Tryz.ntmps11
  go_wp2_with (first | (go_at_call 19; fail))
  refine hc.mono ?_
  rintro e W1 ⟨rfl, hb⟩
  have hb2 := below_next (below_new W1 (.cells D 41)) (below_new _ (.cells N 69))
  have HD : Hid (((W1.alloc (.cells D 41)).alloc (.cells N 69)).heap[W1.heap.size]? = some (.cells D 41)) := heap_kept (heap_alloc_new W1 _) (below_new _ _)
  have HN : Hid (((W1.alloc (.cells D 41)).alloc (.cells N 69)).heap[W1.heap.size + 1]? = some (.cells N 69)) := by
    have q := heap_alloc_new (W1.alloc (.cells D 41)) (.cells N 69)
    rw [World.size_alloc] at q
    exact q
  have HB : Hid (Below w.heap.size w ((W1.alloc (.cells D 41)).alloc (.cells N 69))) := below_next HB0.out (below_next hb hb2)
  have HR : Hid (((W1.alloc (.cells D 41)).alloc (.cells N 69)).heap[w.heap.size]? = some (.cells S 51)) := heap_kept HR0.out (below_next hb hb2)
  clear hc hb hb2
  go_wp2_with (first | (with_reducible refine isStoreR 41 ?_; refine wpList_stSame 41 rfl _ _ rfl W1.heap.size D 41 HDI.out HDO.out rfl rfl HD.out ?_) | (with_reducible refine isStoreR 69 ?_; refine wpList_stSame 69 rfl _ _ rfl (W1.heap.size + 1) N 69 HNI.out HNO.out rfl rfl HN.out ?_) | (with_reducible refine isBuildR 51 ?_; refine wpList_exec rfl (HSE.out rfl) ?_) | (with_reducible refine isStoreR 51 ?_; refine wpList_stSame 51 rfl _ _ rfl w.heap.size S 51 HSI.out HSO.out rfl rfl HR.out ?_))
  exact retCT Tryz.underlying51 rfl rfl w.heap.size S _ HSI.out rfl HR.out rfl ⟨rfl, HB.out⟩
end Go.Proofs.YtanmfagghhijaaaGreat
