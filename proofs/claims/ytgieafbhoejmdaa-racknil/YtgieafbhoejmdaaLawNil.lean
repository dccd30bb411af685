/- The law RackNil walked: of what is no log everything is refused; for every number and inode; no other memory turns. -/
import Derived.Test.YtgieafbhoejmdaaNEq
namespace Go.Proofs.Ytgieafbhoejmdaa
open Go.RowKit
theorem heap_kept {w w' : World} {g : Nat} {o : Obj} (h : w.heap[g]? = some o) (hb : Below w.heap.size w w') : w'.heap[g]? = some o :=
  (hb.block g (Array.getElem?_eq_some_iff.1 h).1).trans h
theorem below_next {w w1 w2 : World} (h : Below w.heap.size w w1) (hb : Below w1.heap.size w1 w2) : Below w.heap.size w w2 := h.trans (hb.mono h.size)
theorem below_new (w : World) (o : Obj) : Below w.heap.size w (w.alloc o) := (Below.refl _ _).alloc (Nat.le_refl _) _
variable {w W : World}
theorem neq33n (w : World) (a : Addr) : (binOp .neq 33 (.pointer none) (.pointer (some a))).run Try.prog w = .ok (.bool true) w := by
  have h : ∀ d : Nat, (Op.equalIn (d + 1) 33 (.pointer none) (.pointer (some a))).run Try.prog w = .ok false w := fun d => by
    simp [Op.equalIn, run_underlying Try.underlying33]
  simp only [binOp]
  simp [Op.equal, Op.maxDepth, h 9999]
def NoneAt (w : World) (v : Value) : Prop := v = .pointer none ∨ ∃ g, v = .pointer (some ⟨g, 0, none⟩) ∧ w.cell? ⟨g, 0, none⟩ = some (.pointer none)
theorem NoneAt.later {W' : World} {v : Value} (h : NoneAt W v) (hb : Below W.heap.size W W') : NoneAt W' v := by
  rcases h with rfl | ⟨g, rfl, c⟩
  · exact .inl rfl
  · exact .inr ⟨g, rfl, (hb.cell (p := ⟨g, 0, none⟩) (block_lt_of_cell c)).trans c⟩
theorem check_none {v : Value} (h : NoneAt W v) : Calls Try.prog 9 #[v] W fun e W' => e = .returned (.int .i64 1) ∧ W' = W := by
  have hn := neq33n
  rcases h with rfl | ⟨g, rfl, c0⟩
  · go_enter Try.func9, Try.ntmps9
    go_wp2
    go_ret
    exact ⟨rfl, rfl⟩
  · go_enter Try.func9, Try.ntmps9
    go_wp2
    go_ret
    exact ⟨rfl, rfl⟩
theorem refuses_none {v : Value} (h : NoneAt W v) : Calls Try.prog 12 #[v] W fun e W' => e = .returned (.int .i64 1) ∧ W' = W := by
  have h0 := check_none h
  go_enter Try.func12, Try.ntmps12
  go_wp2_with (first | (go_at_call 9; refine h0.mono ?_; rintro e W1 ⟨rfl, rfl⟩))
  go_ret
  exact ⟨rfl, rfl⟩
theorem spare_none {v : Value} (h : NoneAt W v) : Calls Try.prog 6 #[v] W fun e W' => e = .returned (.tuple #[.int .i64 0, .int .i64 1]) ∧ W' = W := by
  have h0 := check_none h
  go_enter Try.func6, Try.ntmps6
  go_wp2_with (first | (go_at_call 9; refine h0.mono ?_; rintro e W1 ⟨rfl, rfl⟩))
  go_ret2
  exact ⟨rfl, rfl⟩
theorem orphans_none {v : Value} (h : NoneAt W v) : Calls Try.prog 7 #[v] W fun e W' => e = .returned (.tuple #[.slice none 0 0, .int .i64 1]) ∧ W' = W := by
  have h0 := check_none h
  go_enter Try.func7, Try.ntmps7
  go_wp2_with (first | (go_at_call 9; refine h0.mono ?_; rintro e W1 ⟨rfl, rfl⟩))
  go_ret2
  exact ⟨rfl, rfl⟩
theorem write_none {v : Value} (h : NoneAt W v) (i : Int) (N : Array Value) : Calls Try.prog 8 #[v, .int .i64 i, .agg N] W fun e W' => e = .returned (.int .i64 1) ∧ Below W.heap.size W W' := by
  have h0 := refuses_none (h.later (below_new W (.cells N 27)))
  have hb := below_new W (.cells N 27)
  go_enter Try.func8, Try.ntmps8
  go_wp2_with (first | (go_at_call 12; refine h0.mono ?_; rintro e W1 ⟨rfl, rfl⟩))
  go_ret
  exact ⟨rfl, hb⟩
theorem take_none {v : Value} (h : NoneAt W v) (N : Array Value) : Calls Try.prog 5 #[v, .agg N] W fun e W' => e = .returned (.tuple #[.int .i64 0, .int .i64 1]) ∧ Below W.heap.size W W' := by
  have h0 := refuses_none (h.later (below_new W (.cells N 27)))
  have hb := below_new W (.cells N 27)
  go_enter Try.func5, Try.ntmps5
  go_wp2_with (first | (go_at_call 12; refine h0.mono ?_; rintro e W1 ⟨rfl, rfl⟩))
  go_ret2
  exact ⟨rfl, hb⟩
theorem retNT {fn : Func} {p u : Tmp} {R : Ending → World → Prop} {a : Act} {w : World} (h : fn.results = #[.cell p 27, .tmp u]) (g : Nat) (N : Array Value) (hs : N.size = 16)
    (hp : a.tmps.getD p undef = .pointer (some ⟨g, 0, none⟩)) (hg : w.heap[g]? = some (.cells N 27))
    (hdf : a.defers = []) (hR : R (.returned (.tuple #[.agg N, a.tmps.getD u undef])) w) : bodyPost Try.prog fn R .ret a w := by
  refine bodyPost_ret ?_ hdf hR
  rw [results_cell_tmp h]
  rw [hp]
  simp [asAddr, run_loadVar_row w g 27 27 N (0, 0) _ hg Try.underlying27 rfl (by rw [hs]; exact size27)]
def logZ : Array Value := #[.pointer none, .pointer none, .int .i64 0, .int .i64 0, .int .i64 0, .int .i64 0, .int .i64 0, .int .i64 0, .int .i64 0, .int .i64 0, .int .i64 0, .int .i64 0, .pointer none, .slice none 0 0, .map none, .bool false, .int .i64 0, .int .i64 0, .int .i64 0]
set_option maxRecDepth 20000 in
set_option maxHeartbeats 1000000 in
theorem read_none {v : Value} (h : NoneAt W v) (i : Int) : Calls Try.prog 4 #[v, .int .i64 i] W fun e W' => e = .returned (.tuple #[.agg (node16 0 0 0 0 nought), .int .i64 1]) ∧ Below W.heap.size W W' := by
  have z27 := zero27
  have h0 : Calls Try.prog 9 #[v] (W.alloc (.cells (node16 0 0 0 0 nought) 27)) _ := check_none (h.later (below_new W (.cells (node16 0 0 0 0 nought) 27)))
  have hb := below_new W (.cells (node16 0 0 0 0 nought) 27)
  have HS : Hid ((node16 0 0 0 0 nought).size = 16) := rfl
  have HI : Hid ((Try.prog.info? 27).map (·.size) = some (node16 0 0 0 0 nought).size) := size27
  have HO : Hid ((node16 0 0 0 0 nought).all (·.oneCell') = true) := node_one _ _ _ _ _
  generalize node16 0 0 0 0 nought = N at *
  go_enter Try.func4, Try.ntmps4
  go_wp2_with (first | (go_at_call 9; refine h0.mono ?_; rintro e W1 ⟨rfl, rfl⟩) | refine wpList_stNew 27 rfl _ _ rfl _ _ _ 27 HI.out rfl HO.out rfl rfl rfl ?_)
  exact retNT rfl W.heap.size N HS.out rfl (heap_alloc_new _ _) rfl ⟨rfl, hb⟩
/-- The inode that came in stands boxed; nothing else has turned. -/
structure NS (w W : World) (N : Array Value) : Prop where
  row : W.heap[w.heap.size]? = some (.cells N 27)
  bel : Below w.heap.size w W
theorem NS.next {w W W' : World} {N : Array Value} (h : NS w W N) (hb : Below W.heap.size W W') : NS w W' N := ⟨heap_kept h.row hb, below_next h.bel hb⟩
theorem NS.start (w : World) (N : Array Value) : NS w (w.alloc (.cells N 27)) N := ⟨heap_alloc_new _ _, below_new _ _⟩
theorem none_new (W : World) : NoneAt (W.alloc (.cells logZ 45)) (.pointer (some ⟨W.heap.size, 0, none⟩)) := .inr ⟨_, rfl, (cell_of_row _ _ 0 logZ 45 _ (heap_alloc_new _ _)).trans rfl⟩
theorem zero45 : ∀ w, (zeroValue 45).run Try.prog w = .ok (.agg logZ) w := (zero_of_info (show (Try.prog.info? 45).map (fun i => (i.zero, i.size)) = some (some (.agg logZ), 19) by kernel_rfl)).1
set_option maxRecDepth 20000 in
set_option maxHeartbeats 4000000 in
theorem nil_walk (i : Int) (N : Array Value) (hN : N.size = 16) (w : World) : Calls Try.prog 3 #[.int .i64 i, .agg N] w fun e w' => e = .returned (.bool true) ∧ Below w.heap.size w w' := by
  have z27 := zero27
  have z45 := zero45
  have HR : Hid (∀ (W : World), Calls Try.prog 4 #[.pointer none, .int .i64 i] W fun e W' => e = .returned (.tuple #[.agg (node16 0 0 0 0 nought), .int .i64 1]) ∧ Below W.heap.size W W') := fun W => read_none (.inl rfl) i
  have HI : Hid ((Try.prog.info? 27).map (·.size) = some N.size) := by rw [hN]; exact size27
  have HZ : Hid ((Try.prog.info? 27).map (·.size) = some (node16 0 0 0 0 nought).size) := size27
  have HO : Hid ((node16 0 0 0 0 nought).all (·.oneCell') = true) := node_one _ _ _ _ _
  have HE : Hid (∀ w, (Op.equalIn 10000 27 (.agg (node16 0 0 0 0 nought)) (.agg (node16 0 0 0 0 nought))).run Try.prog w = .ok true w) := fun w => by
    rw [eq27]; rw [(sameNode_iff ..).2 ⟨rfl, rfl, rfl, rfl, fun _ _ => rfl⟩]
  have HN0 : Hid (NS w (w.alloc (.cells N 27)) N) := NS.start w N
  generalize node16 0 0 0 0 nought = Z at *
  clear hN
  go_enter Try.func3, Try.ntmps3
  go_wp2_with (go_at_call 4; fail)
  refine (HR.out _).mono ?_
  rintro e W1 ⟨rfl, hb1⟩
  have HN1 : Hid (NS w (W1.alloc (.cells Z 27)) N) := (HN0.out.next hb1).next (below_new _ _)
  have HC1 : Hid ((W1.alloc (.cells Z 27)).heap[W1.heap.size]? = some (.cells Z 27)) := heap_alloc_new _ _
  clear HN0 hb1
  go_wp2_with (first | (refine wpList_stNew 27 rfl _ _ rfl _ _ _ 27 HZ.out rfl HO.out rfl rfl rfl ?_; refine Hid.out ?_))
  unfold Hid
  have HN2 : Hid (NS w ((W1.alloc (.cells Z 27)).alloc (.cells logZ 45)) N) := HN1.out.next (below_new _ _)
  have HC2 : Hid (((W1.alloc (.cells Z 27)).alloc (.cells logZ 45)).heap[W1.heap.size]? = some (.cells Z 27)) := heap_kept HC1.out (below_new _ _)
  have HG2 : Hid (NoneAt ((W1.alloc (.cells Z 27)).alloc (.cells logZ 45)) (.pointer (some ⟨(W1.alloc (.cells Z 27)).heap.size, 0, none⟩))) := none_new _
  clear HN1 HC1
  generalize hx1 : W1.alloc (.cells Z 27) = X1 at *
  generalize W1.heap.size = g1 at *
  go_wp2_with (first | refine wpList_ldR 27 Try.underlying27 rfl rfl _ rfl _ rfl _ 27 (0, 0) HI.out HN2.out.row ?_ | (go_at_call 5; fail))
  refine (take_none HG2.out N).mono ?_
  rintro e W2 ⟨rfl, hb2⟩
  have HN3 : Hid (NS w W2 N) := HN2.out.next hb2
  have HC3 : Hid (W2.heap[g1]? = some (.cells Z 27)) := heap_kept HC2.out hb2
  clear HN2 HC2 HG2 hb2 hx1
  go_wp2_with (first | (go_at_call 6; fail))
  refine (spare_none (.inl rfl)).mono ?_
  rintro e W3 ⟨rfl, he3⟩
  obtain rfl := he3.symm
  have HN4 : Hid (NS w (W2.alloc (.cells logZ 45)) N) := HN3.out.next (below_new _ _)
  have HC4 : Hid ((W2.alloc (.cells logZ 45)).heap[g1]? = some (.cells Z 27)) := heap_kept HC3.out (below_new _ _)
  have HG4 : Hid (NoneAt (W2.alloc (.cells logZ 45)) (.pointer (some ⟨W2.heap.size, 0, none⟩))) := none_new _
  clear HN3 HC3 he3
  go_wp2_with (first | (go_at_call 7; fail))
  refine (orphans_none HG4.out).mono ?_
  rintro e W4 ⟨rfl, he4⟩
  obtain rfl := he4.symm
  clear he4
  have hE := HE.out
  go_wp2_with (first | refine wpList_ldR 27 Try.underlying27 rfl rfl _ rfl _ rfl _ 27 (0, 0) HI.out HN4.out.row ?_ | refine wpList_ldR 27 Try.underlying27 rfl rfl _ rfl _ rfl _ 27 (0, 0) HZ.out HC4.out ?_ | (go_at_call 8; fail))
  refine (write_none (.inl rfl) i N).mono ?_
  rintro e W5 ⟨rfl, hb5⟩
  have HN6 : Hid (NS w (W5.alloc (.cells logZ 45)) N) := (HN4.out.next hb5).next (below_new _ _)
  have HG6 : Hid (NoneAt (W5.alloc (.cells logZ 45)) (.pointer (some ⟨W5.heap.size, 0, none⟩))) := none_new _
  clear HN4 HC4 HG4 hb5
  go_wp2_with (first | refine wpList_ldR 27 Try.underlying27 rfl rfl _ rfl _ rfl _ 27 (0, 0) HI.out HN6.out.row ?_ | (go_at_call 8; fail))
  refine (write_none HG6.out i N).mono ?_
  rintro e W7 ⟨rfl, hb7⟩
  have HB : Hid (Below w.heap.size w W7) := (HN6.out.next hb7).bel
  clear hb7 HN6 HG6
  go_wp2
  go_ret
  exact ⟨rfl, HB.out⟩
end Go.Proofs.Ytgieafbhoejmdaa
