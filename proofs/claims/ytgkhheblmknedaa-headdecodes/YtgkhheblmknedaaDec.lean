/- Decode of head: the header that a block says, or none; for every layout and every block. -/
import Derived.Test.YtgkhheblmknedaaSaid
namespace Go.Proofs.Ytgkhheblmknedaa
open Go.RowKit
theorem size35H : (Try.prog.info? 35).map (·.size) = some 1 := by kernel_rfl
theorem under35 : Try.prog.underlying 35 = some (.struct (Try.prog.fieldsOf 35)) := by kernel_rfl
theorem load35H (w : World) (g : Nat) (v : Value) (h : w.heap[g]? = some (.cells #[v] 35)) : (loadVar 35 ⟨g, 0, none⟩).run Try.prog w = .ok (.agg #[v]) w :=
  run_loadVar_row w g 35 35 #[v] (0, 0) _ h under35 rfl size35H
section
variable {ops : Array Oper} {rest : List Oper} {o : Oper} {a : Act} {w : World} {Q : Exit → Act → World → Prop}
theorem wpList_load35H (hgd : o.guard = none) (x : Operand) (ho : o.op = .load 35 x) (g : Nat) (hx : a.eval x = .pointer (some ⟨g, 0, none⟩)) (v : Value) (hg : w.heap[g]? = some (.cells #[v] 35))
    (h : wpList Try.prog ops Q rest (a.put o.dst (.agg #[v])) w) : wpList Try.prog ops Q (o :: rest) a w :=
  wpList_load_row hgd 35 x ho g hx 35 #[v] (0, 0) _ hg under35 rfl size35H h
theorem wpList_store35H (hgd : o.guard = none) (x y : Operand) (ho : o.op = .store 35 x y) (g : Nat) (v v0 : Value) (hv : v.oneCell' = true) (hx : a.eval x = .pointer (some ⟨g, 0, none⟩)) (hy : a.eval y = .agg #[v]) (hg : w.heap[g]? = some (.cells #[v0] 35))
    (h : wpList Try.prog ops Q rest (a.put o.dst undef) (w.setRow g #[v])) : wpList Try.prog ops Q (o :: rest) a w := by
  refine wpList_plain hgd fun _ hK => ?_
  unfold Oper.wp execOp
  simp only [ho, hx, hy, Instr.storeAt, Instr.sureAddr, Sem.run_bind, Sem.run_pure, Result.andThen_ok, run_storeVar_row w g 35 35 #[v0] #[v] hg size35H rfl (by simp [hv])]
  exact hK _ _ h
end
set_option maxRecDepth 20000 in
set_option maxHeartbeats 400000 in
theorem dec_not (b l i a c d e f g : Int) (F : Nat → Int) (w : World) (hb : I64 b) (hs : standsB b l i a c d e f g = false) :
    Calls Try.prog 16 #[.agg (lay9 b l i a c d e f g), .agg (blk F)] w fun e' w' => e' = .returned (.tuple #[.agg #[.slice none 0 0], .int .i64 2]) ∧ Below w.heap.size w w' := by
  have hc := fun w => hstands_any b l i a c d e f g w hb
  rw [hs] at hc
  clear hs
  have hsz : (lay9 b l i a c d e f g).size = 9 := rfl
  generalize lay9 b l i a c d e f g = L at *
  go_enter Try.func16, Try.ntmps16
  go_wp2_with (first | refine wpList_loadL rfl _ rfl _ rfl _ hsz (heap3o _ _ _ _) ?_ | (go_at_call 33; fail))
  refine (hc _).mono ?_
  rintro e' W1 ⟨rfl, hb1⟩
  have h2 := heap_kept (heap3n w _ _ _) hb1
  have HB : Hid (Below w.heap.size w W1) := below_next (below3 _ _ _ _) hb1
  clear hb1 hc
  go_wp2_with (first | refine wpList_store35H rfl _ _ rfl _ _ _ rfl rfl rfl h2 ?_)
  refine retCT rfl (w.heap.size + 2) _ rfl (load35H _ _ _ (setRow_heap _ _ _ _ _ _ h2)) rfl ⟨rfl, below_setRow HB.out (by omega) _⟩
set_option maxRecDepth 20000 in
set_option maxHeartbeats 400000 in
theorem dec_more (b l i a c d e f g : Int) (F : Nat → Int) (w : World) (hb : I64 b) (hs : standsB b l i a c d e f g = true) (hl : 32 ≤ l ∧ l ≤ 256) (hF : ∀ i, 0 ≤ F i ∧ F i ≤ 255) (hn : l - 1 < numN F 0 4) :
    Calls Try.prog 16 #[.agg (lay9 b l i a c d e f g), .agg (blk F)] w fun e' w' => e' = .returned (.tuple #[.agg #[.slice none 0 0], .int .i64 4]) ∧ Below w.heap.size w w' := by
  have hc := fun w => hstands_any b l i a c d e f g w hb
  rw [hs] at hc
  have hM := fun w => most_any b l i a c d e f g w hl
  have hU := fun w => u32_any F 0 w hF
  rw [show num F 0 4 = numN F 0 4 from num_in F 0 4 (by omega)] at hU
  clear hs hF
  have hsz : (lay9 b l i a c d e f g).size = 9 := rfl
  generalize lay9 b l i a c d e f g = L at *
  generalize numN F 0 4 = n at *
  have hm : 31 ≤ l - 1 ∧ l - 1 ≤ 255 := by omega
  generalize l - 1 = m at *
  have g0 : decide (m < n) = true := decide_eq_true hn
  have hwr : IntKind.u32.wrap m = m := by rw [wrap_u32]; omega
  go_enter Try.func16, Try.ntmps16
  go_wp2_with (first | refine wpList_loadL rfl _ rfl _ rfl _ hsz (heap3o _ _ _ _) ?_ | (go_at_call 33; fail))
  refine (hc _).mono ?_
  rintro e' W1 ⟨rfl, hb1⟩
  have h0 := heap_kept (heap3o w _ _ _) hb1
  have h1 := heap_kept (heap3 w _ _ _) hb1
  have h2 := heap_kept (heap3n w _ _ _) hb1
  have HB : Hid (Below w.heap.size w W1) := below_next (below3 _ _ _ _) hb1
  clear hb1 hc
  go_wp2_with (first | refine wpList_load25 rfl _ rfl _ rfl _ h1 ?_ | (go_at_call 26; fail))
  refine (hU _).mono ?_
  rintro e' W2 ⟨rfl, hb2⟩
  have h3 := heap_kept h2 hb2
  have h4 := heap_kept h0 hb2
  have HB2 : Hid (Below w.heap.size w W2) := below_next HB.out hb2
  clear hb2 hU h0 h1 h2 HB
  go_wp2_with (first | refine wpList_loadL rfl _ rfl _ rfl _ hsz h4 ?_ | (go_at_call 37; fail))
  refine (hM _).mono ?_
  rintro e' W3 ⟨rfl, hb3⟩
  have h5 := heap_kept h3 hb3
  have HB3 : Hid (Below w.heap.size w W3) := below_next HB2.out hb3
  clear hb3 hM h3 h4 HB2
  go_wp2_with (first | refine wpList_store35H rfl _ _ rfl _ _ _ rfl rfl rfl h5 ?_)
  refine retCT rfl (w.heap.size + 2) _ rfl (load35H _ _ _ (setRow_heap _ _ _ _ _ _ h5)) rfl ⟨rfl, below_setRow HB3.out (by omega) _⟩
theorem listRow_at {W : World} {q : Nat} {T : List Int} (h : W.heap[q]? = some (.cells (listRow T) 3)) : IntsAt W (some ⟨q, 0, none⟩) T := fun _ =>
  ⟨q, 0, rfl, (Array.getElem?_eq_some_iff.1 h).1, fun j x hx => by
    rw [cell_of_row W q _ _ 3 _ h]
    unfold listRow
    rw [List.getElem?_toArray, List.getElem?_map, Nat.zero_add, hx]
    rfl⟩
set_option maxRecDepth 20000 in
set_option maxHeartbeats 1000000 in
theorem dec_bad (b l i a c d e f g : Int) (F : Nat → Int) (n : Nat) (w : World) (hb : I64 b) (hs : standsB b l i a c d e f g = true) (hl : 32 ≤ l ∧ l ≤ 256) (hF : ∀ i, 0 ≤ F i ∧ F i ≤ 255) (hN : numN F 0 4 = n) (hn : (n : Int) ≤ l - 1)
    (hm : mayB c b (l - 1) (tgts F n) = false) :
    Calls Try.prog 16 #[.agg (lay9 b l i a c d e f g), .agg (blk F)] w fun e' w' => e' = .returned (.tuple #[.agg #[.slice none 0 0], .int .i64 4]) ∧ Below w.heap.size w w' := by
  have hc := fun w => hstands_any b l i a c d e f g w hb
  rw [hs] at hc
  have hM := fun w => most_any b l i a c d e f g w hl
  have hU := fun w => u32_any F 0 w hF
  rw [show num F 0 4 = numN F 0 4 from num_in F 0 4 (by omega), hN] at hU
  have hS := fun w => said_any F n w hF (by omega)
  have hA := fun W (p : Option Addr) (h : IntsAt W p (tgts F n)) => may_any b l i a c d e f g (tgts F n) p n W hl (by rw [tgts_len]; omega) h (allU_wf (tgts_u F hF n))
  rw [hm, tgts_len] at hA
  have HI : Hid (∀ (W : World) (q : Nat), W.heap[q]? = some (.cells (listRow (tgts F n)) 3) → IntsAt W (some ⟨q, 0, none⟩) (tgts F n)) := fun W q h => listRow_at h
  clear hs hF hm hN
  have hsz : (lay9 b l i a c d e f g).size = 9 := rfl
  generalize tgts F n = T at *
  generalize lay9 b l i a c d e f g = L at *
  have hm : 31 ≤ l - 1 ∧ l - 1 ≤ 255 := by omega
  generalize l - 1 = m at *
  have g0 : decide (m < (n : Int)) = false := decide_eq_false (by omega)
  have hwr : IntKind.u32.wrap m = m := by rw [wrap_u32]; omega
  have hwn : IntKind.i64.wrap (n : Int) = n := by rw [IntKind.wrap_i64]; omega
  go_enter Try.func16, Try.ntmps16
  go_wp2_with (first | refine wpList_loadL rfl _ rfl _ rfl _ hsz (heap3o _ _ _ _) ?_ | (go_at_call 33; fail))
  refine (hc _).mono ?_
  rintro e' W1 ⟨rfl, hb1⟩
  have h0 := heap_kept (heap3o w _ _ _) hb1
  have h1 := heap_kept (heap3 w _ _ _) hb1
  have h2 := heap_kept (heap3n w _ _ _) hb1
  have HB : Hid (Below w.heap.size w W1) := below_next (below3 _ _ _ _) hb1
  clear hb1 hc
  go_wp2_with (first | refine wpList_load25 rfl _ rfl _ rfl _ h1 ?_ | (go_at_call 26; fail))
  refine (hU _).mono ?_
  rintro e' W2 ⟨rfl, hb2⟩
  have h3 := heap_kept h2 hb2
  have h4 := heap_kept h0 hb2
  have h4b := heap_kept h1 hb2
  have HB2 : Hid (Below w.heap.size w W2) := below_next HB.out hb2
  clear hb2 hU h0 h1 h2 HB
  go_wp2_with (first | refine wpList_loadL rfl _ rfl _ rfl _ hsz h4 ?_ | (go_at_call 37; fail))
  refine (hM _).mono ?_
  rintro e' W3 ⟨rfl, hb3⟩
  have h5 := heap_kept h3 hb3
  have h6 := heap_kept h4 hb3
  have h6b := heap_kept h4b hb3
  have HB3 : Hid (Below w.heap.size w W3) := below_next HB2.out hb3
  clear hb3 hM h3 h4 h4b HB2
  go_wp2_with (first | refine wpList_load25 rfl _ rfl _ rfl _ h6b ?_ | (go_at_call 38; fail))
  refine (hS _).mono ?_
  rintro e' W4 ⟨rfl, hrow, hb4⟩
  have h7 := heap_kept h5 hb4
  have h8 := heap_kept h6 hb4
  have hq : w.heap.size ≤ W3.heap.size + 1 := by have := HB3.out.size; omega
  generalize W3.heap.size + 1 = q at *
  have HB4 : Hid (Below w.heap.size w W4) := below_next HB3.out hb4
  clear hb4 hS h5 h6 h6b HB3
  go_wp2_with (first | refine wpList_loadL rfl _ rfl _ rfl _ hsz h8 ?_ | (go_at_call 34; fail))
  refine (hA _ _ (HI.out _ _ hrow)).mono ?_
  rintro e' W5 ⟨rfl, hb5⟩
  have h9 := heap_kept h7 hb5
  have hrow2 := heap_kept hrow hb5
  have HB5 : Hid (Below w.heap.size w W5) := below_next HB4.out hb5
  have hqn : q ≠ w.heap.size + 2 := fun e => by
    rw [e, h9] at hrow2
    simp at hrow2
  clear hb5 hA h7 h8 hrow HB4
  go_wp2_with (first | refine wpList_store35H rfl _ _ rfl _ _ _ rfl rfl rfl h9 ?_)
  refine retCT rfl (w.heap.size + 2) _ rfl (load35H _ _ _ (setRow_heap _ _ _ _ _ _ h9)) rfl ⟨rfl, below_setRow HB5.out (by omega) _⟩
set_option maxRecDepth 20000 in
set_option maxHeartbeats 1000000 in
theorem dec_ok (b l i a c d e f g : Int) (F : Nat → Int) (n : Nat) (w : World) (hb : I64 b) (hs : standsB b l i a c d e f g = true) (hl : 32 ≤ l ∧ l ≤ 256) (hF : ∀ i, 0 ≤ F i ∧ F i ≤ 255) (hN : numN F 0 4 = n) (hn : (n : Int) ≤ l - 1)
    (hm : mayB c b (l - 1) (tgts F n) = true) :
    Calls Try.prog 16 #[.agg (lay9 b l i a c d e f g), .agg (blk F)] w fun e' w' => ∃ q, e' = .returned (.tuple #[.agg #[.slice (some ⟨q, 0, none⟩) n n], .int .i64 0]) ∧ w.heap.size ≤ q ∧ w'.heap[q]? = some (.cells (listRow (tgts F n)) 3) ∧ Below w.heap.size w w' := by
  have hc := fun w => hstands_any b l i a c d e f g w hb
  rw [hs] at hc
  have hM := fun w => most_any b l i a c d e f g w hl
  have hU := fun w => u32_any F 0 w hF
  rw [show num F 0 4 = numN F 0 4 from num_in F 0 4 (by omega), hN] at hU
  have hS := fun w => said_any F n w hF (by omega)
  have hA := fun W (p : Option Addr) (h : IntsAt W p (tgts F n)) => may_any b l i a c d e f g (tgts F n) p n W hl (by rw [tgts_len]; omega) h (allU_wf (tgts_u F hF n))
  rw [hm, tgts_len] at hA
  have HI : Hid (∀ (W : World) (q : Nat), W.heap[q]? = some (.cells (listRow (tgts F n)) 3) → IntsAt W (some ⟨q, 0, none⟩) (tgts F n)) := fun W q h => listRow_at h
  clear hs hF hm hN
  have hsz : (lay9 b l i a c d e f g).size = 9 := rfl
  generalize tgts F n = T at *
  generalize lay9 b l i a c d e f g = L at *
  have hm : 31 ≤ l - 1 ∧ l - 1 ≤ 255 := by omega
  generalize l - 1 = m at *
  have g0 : decide (m < (n : Int)) = false := decide_eq_false (by omega)
  have hwr : IntKind.u32.wrap m = m := by rw [wrap_u32]; omega
  have hwn : IntKind.i64.wrap (n : Int) = n := by rw [IntKind.wrap_i64]; omega
  go_enter Try.func16, Try.ntmps16
  go_wp2_with (first | refine wpList_loadL rfl _ rfl _ rfl _ hsz (heap3o _ _ _ _) ?_ | (go_at_call 33; fail))
  refine (hc _).mono ?_
  rintro e' W1 ⟨rfl, hb1⟩
  have h0 := heap_kept (heap3o w _ _ _) hb1
  have h1 := heap_kept (heap3 w _ _ _) hb1
  have h2 := heap_kept (heap3n w _ _ _) hb1
  have HB : Hid (Below w.heap.size w W1) := below_next (below3 _ _ _ _) hb1
  clear hb1 hc
  go_wp2_with (first | refine wpList_load25 rfl _ rfl _ rfl _ h1 ?_ | (go_at_call 26; fail))
  refine (hU _).mono ?_
  rintro e' W2 ⟨rfl, hb2⟩
  have h3 := heap_kept h2 hb2
  have h4 := heap_kept h0 hb2
  have h4b := heap_kept h1 hb2
  have HB2 : Hid (Below w.heap.size w W2) := below_next HB.out hb2
  clear hb2 hU h0 h1 h2 HB
  go_wp2_with (first | refine wpList_loadL rfl _ rfl _ rfl _ hsz h4 ?_ | (go_at_call 37; fail))
  refine (hM _).mono ?_
  rintro e' W3 ⟨rfl, hb3⟩
  have h5 := heap_kept h3 hb3
  have h6 := heap_kept h4 hb3
  have h6b := heap_kept h4b hb3
  have HB3 : Hid (Below w.heap.size w W3) := below_next HB2.out hb3
  clear hb3 hM h3 h4 h4b HB2
  go_wp2_with (first | refine wpList_load25 rfl _ rfl _ rfl _ h6b ?_ | (go_at_call 38; fail))
  refine (hS _).mono ?_
  rintro e' W4 ⟨rfl, hrow, hb4⟩
  have h7 := heap_kept h5 hb4
  have h8 := heap_kept h6 hb4
  have hq : w.heap.size ≤ W3.heap.size + 1 := by have := HB3.out.size; omega
  generalize W3.heap.size + 1 = q at *
  have HB4 : Hid (Below w.heap.size w W4) := below_next HB3.out hb4
  clear hb4 hS h5 h6 h6b HB3
  go_wp2_with (first | refine wpList_loadL rfl _ rfl _ rfl _ hsz h8 ?_ | (go_at_call 34; fail))
  refine (hA _ _ (HI.out _ _ hrow)).mono ?_
  rintro e' W5 ⟨rfl, hb5⟩
  have h9 := heap_kept h7 hb5
  have hrow2 := heap_kept hrow hb5
  have HB5 : Hid (Below w.heap.size w W5) := below_next HB4.out hb5
  have hqn : q ≠ w.heap.size + 2 := fun e => by
    rw [e, h9] at hrow2
    simp at hrow2
  clear hb5 hA h7 h8 hrow HB4
  go_wp2_with (first | refine wpList_store35H rfl _ _ rfl _ _ _ rfl rfl rfl h9 ?_)
  refine retCT rfl (w.heap.size + 2) _ rfl (load35H _ _ _ (setRow_heap _ _ _ _ _ _ h9)) rfl ⟨q, rfl, hq, (setRow_other _ _ _ _ hqn).trans hrow2, below_setRow HB5.out (by omega) _⟩
end Go.Proofs.Ytgkhheblmknedaa
