/- The law's own function awake: it answers true; Decode of a geometry's superblock. -/
import Derived.Test.YtmblppgmfgjbpabDecode
namespace Go.Proofs.Ytmblppgmfgjbpab
open Go.RowKit

theorem byte_super (b l i : Int) : Byte (superF b l i) := fun j => supF_byte _ j
theorem decB_super {b l i : Int} (h : Fine b l i) (n : Int) : decB (superF b l i) n = decide (b ≤ n) := by
  obtain ⟨h0, h1, h2⟩ := super_nums h
  unfold decB
  rw [h0, h1, h2, sameB_self, Bool.and_true]
  by_cases hn : b ≤ n
  · rw [decide_eq_true hn, decide_eq_true ⟨h, hn⟩]
  · rw [decide_eq_false hn, decide_eq_false fun q => hn q.2]
theorem decode_super {b l i : Int} (h : Fine b l i) (n : Int) (hn : b ≤ n) (w : World) :
    Calls Try.prog 4 #[.agg (blk (superF b l i)), .int .i64 n] w fun e w' => e = .returned (.tuple #[layV b l i, .int .i64 0]) ∧ Below w.heap.size w w' := by
  have hc := decode_any (superF b l i) (byte_super b l i) n w
  have hd : decB (superF b l i) n = true := by rw [decB_super h, decide_eq_true hn]
  obtain ⟨h0, h1, h2⟩ := super_nums h
  rw [show decV (superF b l i) n = layV b l i by unfold decV; rw [if_pos hd, h0, h1, h2], show decE (superF b l i) n = 0 by unfold decE; rw [if_pos hd]] at hc
  exact hc
theorem decode_short {b l i : Int} (h : Fine b l i) (n : Int) (hn : n < b) (w : World) :
    Calls Try.prog 4 #[.agg (blk (superF b l i)), .int .i64 n] w fun e w' => e = .returned (.tuple #[layZ, .int .i64 4]) ∧ Below w.heap.size w w' := by
  have hc := decode_any (superF b l i) (byte_super b l i) n w
  have hd : decB (superF b l i) n = false := by rw [decB_super h, decide_eq_false (by omega)]
  rw [show decV (superF b l i) n = layZ by unfold decV; rw [if_neg (by rw [hd]; decide)], show decE (superF b l i) n = 4 by unfold decE; rw [if_neg (by rw [hd]; decide)]] at hc
  exact hc

theorem quiet_loadL {W : World} {o : Oper} {a : Act} {K : Act → Prop} (x : Operand) (ho : o.op = .load 27 x) (g : Nat) (hx : a.eval x = .pointer (some ⟨g, 0, none⟩)) (cs : Array Value) (hs : cs.size = 9)
    (hg : W.heap[g]? = some (.cells cs 27)) (hk : K (a.put o.dst (.agg cs))) : o.quiet Try.prog a (fun w' => ∃ x : Later W, w' = x.val) K := by
  refine ⟨.agg cs, ?_, hk⟩
  rintro _ ⟨y, rfl⟩
  have hlt : g < W.heap.size := (Array.getElem?_eq_some_iff.1 hg).1
  have hh := (y.heap g hlt).trans hg
  unfold Oper.quietAt execOp
  simp only [ho, hx, Instr.loadAt, Instr.sureAddr, Sem.run_bind, Sem.run_pure, Result.andThen_ok, run_loadVar_row y.val g 27 27 cs (0, 0) _ hh Try.underlying27 rfl (by rw [hs]; exact size25L)]
  exact ⟨rfl, rfl⟩
theorem small_later (w : World) : Calls Try.prog 9 #[] w fun e w' => e = .returned (.agg #[.int .i64 400, .int .i64 32, .int .i64 60]) ∧ Below w.heap.size w w' :=
  (small_any w).mono fun e w' h => ⟨h.1, by rw [h.2]; exact below_new _ _⟩
theorem fine_small : Fine 400 32 60 := by decide

set_option maxRecDepth 20000 in
set_option maxHeartbeats 1000000 in
theorem awake_any (w : World) : Calls Try.prog 5 #[] w fun e w' => e = .returned (.bool true) ∧ Below w.heap.size w w' := by
  have hof := fun w => of_any 400 32 60 w (by unfold I64; omega)
  rw [show ofV 400 32 60 = layV 400 32 60 from if_pos fine_small, show ofE 400 32 60 = 0 from if_pos fine_small] at hof
  have henc := fun w => encode_fine 400 32 60 w fine_small
  have hdec := fun w => decode_super fine_small 400 (by omega) w
  have h8 : superF 400 32 60 8 = 144 := by decide
  have h9 : superF 400 32 60 9 = 1 := by decide
  rw [show layV 400 32 60 = .agg #[.int .i64 400, .int .i64 32, .int .i64 60, .int .i64 1, .int .i64 33, .int .i64 4, .int .i64 37, .int .i64 1, .int .i64 38] by rfl] at hof henc hdec
  generalize superF 400 32 60 = F at *
  have z25 := zero25
  have hsm := small_any
  unfold geoV at *
  go_enter Try.func5, Try.ntmps5
  go_wp2_with (first | (go_at_call 9; refine (hsm _).mono ?_; rintro e w' ⟨rfl, rfl⟩) | (go_at_call 6; fail))
  refine (hof _).mono ?_
  rintro e W1 ⟨rfl, hb1⟩
  have HB1 : Hid (Below w.heap.size w W1) := below_next (below_new _ _) hb1
  clear hb1 hof
  go_wp2_with (first | (go_at_call 8; fail))
  refine (henc _).mono ?_
  rintro e W2 ⟨rfl, hb2⟩
  have l2 := heap_kept (heap_alloc_new W1 _) hb2
  have HB2 : Hid (Below w.heap.size w W2) := below_next (bel_al HB1.out _) hb2
  clear hb2 henc HB1
  go_wp2_with (first | refine wpList_store25_new rfl _ _ rfl _ _ rfl rfl ?_ | refine wpList_load35w rfl _ rfl _ rfl _ (heap_alloc_new _ _) ?_ | (go_at_call 4; fail))
  refine (hdec _).mono ?_
  rintro e W3 ⟨rfl, hb3⟩
  have l3 := heap_kept (heap_kept l2 (below_new _ _)) hb3
  have f3 := heap_kept (heap_alloc_new W2 (.cells (blk F) 23)) hb3
  have HB3 : Hid (Below w.heap.size w W3) := below_next (bel_al HB2.out _) hb3
  clear hb3 hdec HB2 l2
  go_wp2
  have l4 := heap_kept l3 (below_new W3 (.cells #[.int .i64 400, .int .i64 32, .int .i64 60, .int .i64 1, .int .i64 33, .int .i64 4, .int .i64 37, .int .i64 1, .int .i64 38] 27))
  have f4 := heap_kept f3 (below_new W3 (.cells #[.int .i64 400, .int .i64 32, .int .i64 60, .int .i64 1, .int .i64 33, .int .i64 4, .int .i64 37, .int .i64 1, .int .i64 38] 27))
  have n4 := heap_alloc_new W3 (.cells #[.int .i64 400, .int .i64 32, .int .i64 60, .int .i64 1, .int .i64 33, .int .i64 4, .int .i64 37, .int .i64 1, .int .i64 38] 27)
  have HB4 : Hid (Below w.heap.size w (W3.alloc (.cells #[.int .i64 400, .int .i64 32, .int .i64 60, .int .i64 1, .int .i64 33, .int .i64 4, .int .i64 37, .int .i64 1, .int .i64 38] 27))) := bel_al HB3.out _
  generalize W3.alloc (.cells #[.int .i64 400, .int .i64 32, .int .i64 60, .int .i64 1, .int .i64 33, .int .i64 4, .int .i64 37, .int .i64 1, .int .i64 38] 27) = W at *
  have c8 : W.cell? ⟨W2.heap.size, 8, none⟩ = some (.int .u8 144) := by rw [cell_of_row W _ 8 _ 23 _ f4, blk_get F 8 (by omega), h8]
  have c9 : W.cell? ⟨W2.heap.size, 9, none⟩ = some (.int .u8 1) := by rw [cell_of_row W _ 9 _ 23 _ f4, blk_get F 9 (by omega), h9]
  have d8 : ∀ x : Later W, x.val.cell? ⟨W2.heap.size, 8, none⟩ = some (.int .u8 144) := fun x => (x.cell _ (by exact block_lt_of_cell c8)).trans c8
  have d9 : ∀ x : Later W, x.val.cell? ⟨W2.heap.size, 9, none⟩ = some (.int .u8 1) := fun x => (x.cell _ (by exact block_lt_of_cell c9)).trans c9
  clear c8 c9 h8 h9 l3 f3 f4 HB3 hsm
  have hne := later_some W
  refine wp_region_later (by kernel_rfl) (by kernel_rfl) W (Below.refl _ _) ?_
  repeat (first
    | (go_big_quiet_want; refine quiet_loadL _ rfl _ rfl _ rfl l4 ?_; simp only [Act.put, List.setIfInBounds_toArray, List.set_cons_succ, List.set_cons_zero]; go_big_quiet_on)
    | (go_big_quiet_want; refine quiet_loadL _ rfl _ rfl _ rfl n4 ?_; simp only [Act.put, List.setIfInBounds_toArray, List.set_cons_succ, List.set_cons_zero]; go_big_quiet_on)
    | go_big_quiet_step (first
        | (go_at_call 9; exact Later.call _ (small_later _))))
  refine wpQuiet_nil ?_
  rintro _ ⟨y, rfl⟩
  go_wp2
  go_ret
  exact ⟨rfl, below_next HB4.out y.below⟩
end Go.Proofs.Ytmblppgmfgjbpab
