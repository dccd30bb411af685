/- The law FetchNil walked: of what is no log nothing is read; for every number; no other memory turns. -/
import Derived.Test.YtnlkdadbcgdfmaaBase
namespace Go.Proofs.Ytnlkdadbcgdfmaa
open Go.RowKit
theorem neqLogN (w : World) (a : Addr) : (binOp .neq 28 (.pointer none) (.pointer (some a))).run Try.prog w = .ok (.bool true) w := by
  have h : ∀ d : Nat, (Op.equalIn (d + 1) 28 (.pointer none) (.pointer (some a))).run Try.prog w = .ok false w := fun d => by
    simp [Op.equalIn, run_underlying Try.underlying28]
  simp only [binOp]
  simp [Op.equal, Op.maxDepth, h 9999]
/-- What is no log: nothing, or a row whose first cell is nothing. -/
def NoneAt (w : World) (v : Value) : Prop := v = .pointer none ∨ ∃ g, v = .pointer (some ⟨g, 0, none⟩) ∧ w.cell? ⟨g, 0, none⟩ = some (.pointer none)
theorem NoneAt.later {W W' : World} {v : Value} (h : NoneAt W v) (hb : Below W.heap.size W W') : NoneAt W' v := by
  rcases h with rfl | ⟨g, rfl, c⟩
  · exact .inl rfl
  · exact .inr ⟨g, rfl, (hb.cell (p := ⟨g, 0, none⟩) (block_lt_of_cell c)).trans c⟩
theorem check_none {W : World} {v : Value} (h : NoneAt W v) : Calls Try.prog 8 #[v] W fun e W' => e = .returned (.int .i64 1) ∧ W' = W := by
  have hn := neqLogN
  rcases h with rfl | ⟨g, rfl, c0⟩
  · go_enter Try.func8, Try.ntmps8
    go_wp2
    go_ret
    exact ⟨rfl, rfl⟩
  · go_enter Try.func8, Try.ntmps8
    go_wp2
    go_ret
    exact ⟨rfl, rfl⟩
def nodZ : Array Value := #[.int .u16 0, .int .u16 0, .int .u32 0, .int .u32 0, .int .u32 0, .int .u32 0, .int .u32 0, .int .u32 0, .int .u32 0, .int .u32 0, .int .u32 0, .int .u32 0, .int .u32 0, .int .u32 0, .int .u32 0, .int .u32 0]
theorem sizeNd : (Try.prog.info? 47).map (·.size) = some 16 := by kernel_rfl
theorem zeroNd : ∀ w, (zeroValue 47).run Try.prog w = .ok (.agg nodZ) w := (zero_of_info (show (Try.prog.info? 47).map (fun i => (i.zero, i.size)) = some (some (.agg nodZ), 16) by kernel_rfl)).1
theorem nodZ_one : nodZ.all (·.oneCell') = true := by simp [nodZ, Value.oneCell']
theorem retNT {fn : Func} {p u : Tmp} {R : Ending → World → Prop} {a : Act} {w : World} (h : fn.results = #[.cell p 47, .tmp u]) (g : Nat) (N : Array Value) (hs : N.size = 16)
    (hp : a.tmps.getD p undef = .pointer (some ⟨g, 0, none⟩)) (hg : w.heap[g]? = some (.cells N 47))
    (hdf : a.defers = []) (hR : R (.returned (.tuple #[.agg N, a.tmps.getD u undef])) w) : bodyPost Try.prog fn R .ret a w := by
  refine bodyPost_ret ?_ hdf hR
  rw [results_cell_tmp h]
  rw [hp]
  simp [asAddr, run_loadVar_row w g 47 47 N (0, 0) _ hg Try.underlying47 rfl (by rw [hs]; exact sizeNd)]
set_option maxRecDepth 20000 in
set_option maxHeartbeats 1000000 in
theorem rread_none {W : World} {v : Value} (h : NoneAt W v) (i : Int) : Calls Try.prog 5 #[v, .int .i64 i] W fun e W' => e = .returned (.tuple #[.agg nodZ, .int .i64 1]) ∧ Below W.heap.size W W' := by
  have z27 := zeroNd
  have h0 : Calls Try.prog 8 #[v] (W.alloc (.cells nodZ 47)) _ := check_none (h.later (below_new W (.cells nodZ 47)))
  have hb := below_new W (.cells nodZ 47)
  have HS : Hid (nodZ.size = 16) := rfl
  have HI : Hid ((Try.prog.info? 47).map (·.size) = some nodZ.size) := sizeNd
  have HO : Hid (nodZ.all (·.oneCell') = true) := nodZ_one
  generalize nodZ = N at *
  go_enter Try.func5, Try.ntmps5
  go_wp2_with (first | (go_at_call 8; refine h0.mono ?_; rintro e W1 ⟨rfl, rfl⟩) | (with_reducible refine isStoreR 47 ?_; refine wpList_stNew 47 rfl _ _ rfl _ _ _ 47 HI.out rfl HO.out rfl rfl rfl ?_))
  exact retNT rfl W.heap.size N HS.out rfl (heap_alloc_new _ _) rfl ⟨rfl, hb⟩
set_option maxRecDepth 20000 in
set_option maxHeartbeats 1000000 in
theorem fread_none {W : World} {v : Value} (h : NoneAt W v) (i j k : Int) : Calls Try.prog 4 #[v, .int .i64 i, .int .i64 j, .int .i64 k] W fun e W' => e = .returned (.tuple #[.slice none 0 0, .int .i64 1]) ∧ Below W.heap.size W W' := by
  have z27 := zeroNd
  have h0 := rread_none h i
  have HI : Hid ((Try.prog.info? 47).map (·.size) = some nodZ.size) := sizeNd
  have HO : Hid (nodZ.all (·.oneCell') = true) := nodZ_one
  generalize nodZ = N at *
  go_enter Try.func4, Try.ntmps4
  go_wp2_with (first | (go_at_call 5; fail))
  refine h0.mono ?_
  rintro e W1 ⟨rfl, hb⟩
  have HB : Hid (Below W.heap.size W (W1.alloc (.cells N 47))) := below_next hb (below_new _ _)
  clear h0 hb
  go_wp2_with (first | (with_reducible refine isStoreR 47 ?_; refine wpList_stNew 47 rfl _ _ rfl _ _ _ 47 HI.out rfl HO.out rfl rfl rfl ?_))
  go_ret2
  exact ⟨rfl, HB.out⟩
def logZ : Array Value := #[.pointer none, .pointer none, .int .i64 0, .int .i64 0, .int .i64 0, .int .i64 0, .int .i64 0, .int .i64 0, .int .i64 0, .int .i64 0, .int .i64 0, .int .i64 0, .pointer none, .slice none 0 0, .map none, .bool false, .int .i64 0, .int .i64 0, .int .i64 0]
theorem none_new (W : World) : NoneAt (W.alloc (.cells logZ 40)) (.pointer (some ⟨W.heap.size, 0, none⟩)) := .inr ⟨_, rfl, (cell_of_row _ _ 0 logZ 40 _ (heap_alloc_new _ _)).trans rfl⟩
theorem zeroLog : ∀ w, (zeroValue 40).run Try.prog w = .ok (.agg logZ) w := (zero_of_info (show (Try.prog.info? 40).map (fun i => (i.zero, i.size)) = some (some (.agg logZ), 19) by kernel_rfl)).1
def askRow (i j k : Int) : Array Value := #[.int .i64 i, .int .i64 j, .int .i64 k]
set_option maxRecDepth 20000 in
set_option maxHeartbeats 4000000 in
theorem fnil_walk (i j k : Int) (w : World) : Calls Try.prog 3 #[.agg (askRow i j k)] w fun e w' => e = .returned (.bool true) ∧ Below w.heap.size w w' := by
  have z45 := zeroLog
  have hx : (w.alloc (.cells (askRow i j k) 23)).heap[w.heap.size]? = some (.cells (askRow i j k) 23) := heap_alloc_new _ _
  have HX : Hid _ := hx
  have HB : Hid _ := below_new w (.cells (askRow i j k) 23)
  have hc0 := fread_none (W := w.alloc (.cells (askRow i j k) 23)) (.inl rfl) i j k
  have c0 : (w.alloc (.cells (askRow i j k) 23)).cell? ⟨w.heap.size, 0, none⟩ = some (.int .i64 i) := Joins.cell_of_block hx 0
  have c1 : (w.alloc (.cells (askRow i j k) 23)).cell? ⟨w.heap.size, 1, none⟩ = some (.int .i64 j) := Joins.cell_of_block hx 1
  have c2 : (w.alloc (.cells (askRow i j k) 23)).cell? ⟨w.heap.size, 2, none⟩ = some (.int .i64 k) := Joins.cell_of_block hx 2
  clear hx
  go_enter Try.func3, Try.ntmps3
  go_wp2_with (first | (go_at_call 4; fail))
  refine hc0.mono ?_
  rintro e W1 ⟨rfl, hb1⟩
  have hb2 := below_next hb1 (below_new W1 (.cells logZ 40))
  have hx2 := heap_kept HX.out hb2
  have HB2 : Hid _ := below_next HB.out hb2
  have d0 : (W1.alloc (.cells logZ 40)).cell? ⟨w.heap.size, 0, none⟩ = some (.int .i64 i) := Joins.cell_of_block hx2 0
  have d1 : (W1.alloc (.cells logZ 40)).cell? ⟨w.heap.size, 1, none⟩ = some (.int .i64 j) := Joins.cell_of_block hx2 1
  have d2 : (W1.alloc (.cells logZ 40)).cell? ⟨w.heap.size, 2, none⟩ = some (.int .i64 k) := Joins.cell_of_block hx2 2
  have hc1 := fread_none (none_new W1) i j k
  clear hc0 hb1 hb2 hx2 c0 c1 c2 HX HB
  go_wp2_with (first | (go_at_call 4; fail))
  refine hc1.mono ?_
  rintro e W2 ⟨rfl, hb3⟩
  have HB3 : Hid (Below w.heap.size w W2) := below_next HB2.out hb3
  clear hc1 hb3 d0 d1 d2 HB2
  go_wp2
  go_ret
  exact ⟨rfl, HB3.out⟩
end Go.Proofs.Ytnlkdadbcgdfmaa
