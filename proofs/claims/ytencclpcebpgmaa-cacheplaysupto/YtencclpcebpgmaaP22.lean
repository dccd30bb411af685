/- The law's own first look: a block that is put is read, and goes to the disk when it is flushed; no condition. -/
import Derived.Test.YtencclpcebpgmaaP7
namespace Go.Proofs.Ytencclpcebpgmaa
open Go.RowKit Go.Maps
theorem exec_load {P : Program} {o : Oper} {a : Act} {t : TypeId} {x : Operand} {p v : Value} {u : World} (ho : o.op = .load t x) (hx : a.eval x = p) (hr : (Instr.loadAt t p).run P u = .ok v u) : (execOp a.eval o).run P u = .ok (.value v) u := by
  unfold execOp
  simp only [ho, hx, hr, Sem.run_bind, Result.andThen_ok, Sem.run_pure]
theorem exec_load59 {o : Oper} {a : Act} {x : Operand} {g : Nat} {u : World} {f : Nat → Int} {FB : Array Value} (ho : o.op = .load 59 x) (hx : a.eval x = .pointer (some ⟨g, 0, none⟩)) (hF : blk f = FB) (hg : u.heap[g]? = some (.cells FB 59)) :
    (execOp a.eval o).run Try.prog u = .ok (.value (.agg FB)) u := by
  subst hF
  exact exec_load ho hx (loadM (BlkAt.of hg))
theorem exec_eq59 {o : Oper} {a : Act} {x y : Operand} {F G : Array Value} {f g : Nat → Int} {r : Bool} {u : World} (ho : o.op = .binOp .eql 59 x y 59) (hx : a.eval x = .agg F) (hy : a.eval y = .agg G) (hF : blk f = F) (hG : blk g = G) (hr : sameB f g = r) : (execOp a.eval o).run Try.prog u = .ok (.value (.bool r)) u := by
  have e := eq58 f g r hr u
  rw [hF, hG] at e
  unfold execOp
  simp only [ho, hx, hy, Sem.run_bind, eqg58, e, Result.andThen_ok, Sem.run_pure]
theorem exec_build59 {o : Oper} {a : Act} {N : Array Value} {u : World} (ho : o.op = .build 59 #[]) (hb : (Instr.build 59 #[]).run Try.prog u = .ok (.agg N) u) : (execOp a.eval o).run Try.prog u = .ok (.value (.agg N)) u := by
  unfold execOp
  simp only [ho, Array.map_empty, Sem.run_bind]
  simp only [hb, Result.andThen_ok, Sem.run_pure]
theorem ints_new5 (W : World) : IntsAt (W.alloc (.cells #[.int .i64 5] 3)) (some ⟨W.heap.size, 0, none⟩) [5] := fun _ => by
  refine ⟨W.heap.size, 0, rfl, by simp, fun j x hx => ?_⟩
  rw [cell_of_row _ _ _ _ 3 _ (heap_alloc_new W _), Nat.zero_add]
  match j, hx with
  | 0, hx => simpa using hx
  | j + 1, hx => simp at hx
def cw1 (f : Nat → Int) : CSt := ⟨2, [⟨5, true, f⟩]⟩
def cw2 (f : Nat → Int) : CSt := ⟨2, [⟨5, false, f⟩]⟩
theorem cw_e1 : usedE (newC 2) (newV 10) 5 = 0 := rfl
theorem cw_p1 (f : Nat → Int) : putC (newC 2) (newV 10) 5 f = cw1 f := rfl
theorem cw_e2 (f : Nat → Int) : usedE (cw1 f) (newV 10) 5 = 0 := rfl
theorem cw_b2 (f : Nat → Int) : rdB (cw1 f) (newV 10) 5 = f := rfl
theorem cw_c2 (f : Nat → Int) : rdC (cw1 f) (newV 10) 5 = cw1 f := rfl
theorem cw_d2 (f : Nat → Int) : rdD (cw1 f) (newV 10) 5 = newV 10 := rfl
theorem cw_b3 : readB (newV 10) 5 = nought := rfl
theorem cw_r3 : refV (newV 10) 5 = 0 := rfl
def cw3 : St := readV (newV 10) 5
theorem cw_f (f : Nat → Int) : flushE (cw1 f) cw3 5 = 0 := rfl
theorem cw_fc (f : Nat → Int) : flushC (cw1 f) cw3 5 = cw2 f := rfl
def cw4 (f : Nat → Int) : St := flushD (cw1 f) cw3 5
theorem cw_b4 (f : Nat → Int) : readB (cw4 f) 5 = f := rfl
theorem cw_r4 (f : Nat → Int) : refV (cw4 f) 5 = 0 := rfl
theorem cw_room0 : Room (newV 10) := roomR 0 0 0 0 rfl rfl rfl rfl (by omega)
theorem cw_room3 : Room cw3 := roomR 0 0 1 0 rfl rfl rfl rfl (by omega)
theorem cw_room4 (f : Nat → Int) : Room (cw4 f) := roomR 1 1 1 0 rfl rfl rfl rfl (by omega)
set_option maxRecDepth 20000 in
set_option maxHeartbeats 40000000 in
theorem awake_any (w : World) : Calls Try.prog 9 #[] w fun e w' => e = .returned (.bool true) ∧ Below w.heap.size w w' := by
  have HT : Hid (Calls Try.prog 34 #[] w fun e W' => ∃ c d, e = .returned (.tuple #[ptr d, ptr c, .bool true]) ∧ Sit w W' c d (newC 2) (newV 10) []) := ten_any (Below.refl _ _) (by simp)
  have HF7 : Hid (∀ W, Calls Try.prog 35 #[.int .u16 7] W fun e w' => e = .returned (.agg (blk (fillF 7))) ∧ Below W.heap.size W w') := fill_any 7 (by omega)
  have hcan := fill_can 7 (by omega)
  have hff := sameB_refl (fillF 7)
  have hnn := sameB_refl nought
  have hbd := built58
  have z25 := zero25
  generalize fillF 7 = f at *
  go_enter Try.func9, Try.ntmps9
  go_wp2_with (go_at_call 34; fail)
  refine HT.out.mono ?_
  rintro e W1 ⟨c, d, rfl, h1⟩
  clear HT
  have H1 : Hid (Sit w W1 c d (newC 2) (newV 10) []) := h1
  clear h1
  unfold ptr
  go_wp2_with (go_at_call 35; fail)
  refine (HF7.out _).mono ?_
  rintro e W2 ⟨rfl, hb2⟩
  have H2 : Hid (Sit w W2 c d (newC 2) (newV 10) []) := H1.out.later hb2
  clear H1 hb2
  go_wp2_with (go_at_call 25; fail)
  refine (sit_put H2.out 5 hcan).mono ?_
  rw [cw_e1, cw_p1]
  rintro e W3 ⟨rfl, h3⟩
  have H3 : Hid (Sit w W3 c d (cw1 f) (newV 10) []) := h3
  clear H2 h3
  go_wp2_with (go_at_call 24; fail)
  refine (sit_read H3.out cw_room0 5).mono ?_
  rw [cw_e2, cw_b2, cw_c2, cw_d2]
  rintro e W4 ⟨rfl, h4⟩
  have h4' := h4.add (.cells (blk f) 59)
  have H4 : Hid (Sit w (W4.alloc (.cells (blk f) 59)) c d (cw1 f) (newV 10) [(W4.heap.size, .cells (blk f) 59)]) := h4'
  clear H3 h4 h4'
  go_wp2_with (first | refine wpList_store58_new rfl (.tmp 5) (.tmp 26) rfl f _ _ rfl rfl rfl ?_ | (go_at_call 37; fail))
  refine (dsit_read H4.out cw_room0 5).mono ?_
  rw [cw_b3, cw_r3, show readV (newV 10) 5 = cw3 from rfl]
  rintro e W5 ⟨rfl, h5⟩
  have h5' := h5.add (.cells (blk nought) 59)
  generalize W4.heap.size = g5 at *
  have H5 : Hid (Sit w (W5.alloc (.cells (blk nought) 59)) c d (cw1 f) cw3 [(W5.heap.size, .cells (blk nought) 59), (g5, .cells (blk f) 59)]) := h5'
  clear H4 h5 h5'
  go_wp2_with (first | refine wpList_store58_new rfl (.tmp 7) (.tmp 31) rfl nought _ _ rfl rfl rfl ?_ | (go_at_call 27; fail))
  generalize W5.heap.size = g7 at *
  refine (sit_fast H5.out).mono ?_
  rw [show fastN (cw1 f).row = 1 from rfl]
  rintro e W6 ⟨rfl, he⟩
  rw [← he] at H5
  clear he
  go_wp2_with (go_at_call 26; fail)
  refine (sit_flush H5.out cw_room3 5).mono ?_
  rw [cw_f, cw_fc, show flushD (cw1 f) cw3 5 = cw4 f from rfl]
  rintro e W7 ⟨rfl, h7⟩
  have H7 : Hid (Sit w W7 c d (cw2 f) (cw4 f) [(g7, .cells (blk nought) 59), (g5, .cells (blk f) 59)]) := h7
  clear H5 h7
  go_wp2_with (go_at_call 37; fail)
  refine (dsit_read H7.out (cw_room4 f) 5).mono ?_
  rw [cw_b4, cw_r4]
  rintro e W8 ⟨rfl, h8⟩
  have h8' := h8.add (.cells (blk f) 59)
  have H8 : Hid (Sit w (W8.alloc (.cells (blk f) 59)) c d (cw2 f) (readV (cw4 f) 5) [(W8.heap.size, .cells (blk f) 59), (g7, .cells (blk nought) 59), (g5, .cells (blk f) 59)]) := h8'
  clear H7 h8 h8'
  go_wp2_with (first | refine wpList_store58_new rfl (.tmp 11) (.tmp 40) rfl f _ _ rfl rfl rfl ?_)
  generalize W8.heap.size = g11 at *
  generalize W8.alloc (.cells (blk f) 59) = V at *
  have ho2 : ordV (cw2 f).row = [5] := rfl
  have hf2 : fastN (cw2 f).row = 0 := rfl
  generalize readV (cw4 f) 5 = t4 at *
  generalize cw2 f = s4 at *
  generalize hFB : blk f = FB at *
  generalize hNB : blk nought = NB at *
  have hS0 := H8.out.drew
  clear H8 hcan
  refine wp_region_steps (S := fun u => Sit w u c d s4 t4 [(g11, .cells FB 59), (g7, .cells NB 59), (g5, .cells FB 59)]) [.inl 0, .inl 1, .inl 2, .inl 3, .inl 4, .inl 5, .inl 6, .inl 7, .inl 8, .inl 9, .inl 10, .inl 11, .inl 12, .inl 13, .inl 14, .inl 15, .inl 16, .inl 17, .inl 18, .inl 19, .inr (.inl 20), .inl 21, .inl 22, .inl 23, .inl 24, .inl 25, .inl 26, .inl 27, .inl 28, .inl 29, .inr (.inl 30), .inl 31, .inl 32, .inl 33, .inl 34, .inl 35, .inl 36, .inl 37, .inl 38, .inr (.inl 39), .inl 40, .inl 41, .inl 42, .inl 43, .inr (.inr (44, 45)), .inr (.inl 46), .inl 47, .inl 48] (by kernel_rfl) (by kernel_rfl) (by kernel_rfl) (fun d _ _ _ _ h => by cases d <;> exact h) hS0 ?_
  simp only [inSt, List.getElem?_cons_zero, List.getElem?_cons_succ]
  refine wpSt_move (by kernel_rfl) _ rfl ?_
  simp only [Act.put, List.setIfInBounds_toArray, List.set_cons_succ, List.set_cons_zero]
  refine wpSt_yield (v := .bool true) (by kernel_rfl) (fun u hu => by go_simp) ?_
  simp only [Act.put, List.setIfInBounds_toArray, List.set_cons_succ, List.set_cons_zero]
  refine wpSt_move (by kernel_rfl) _ rfl ?_
  simp only [Act.put, List.setIfInBounds_toArray, List.set_cons_succ, List.set_cons_zero]
  refine wpSt_move (by kernel_rfl) _ rfl ?_
  simp only [Act.put, List.setIfInBounds_toArray, List.set_cons_succ, List.set_cons_zero]
  refine wpSt_yield (v := .bool true) (by kernel_rfl) (fun u hu => by go_simp) ?_
  simp only [Act.put, List.setIfInBounds_toArray, List.set_cons_succ, List.set_cons_zero]
  refine wpSt_yield (v := .bool true) (by kernel_rfl) (fun u hu => by go_simp) ?_
  simp only [Act.put, List.setIfInBounds_toArray, List.set_cons_succ, List.set_cons_zero]
  refine wpSt_move (by kernel_rfl) _ rfl ?_
  simp only [Act.put, List.setIfInBounds_toArray, List.set_cons_succ, List.set_cons_zero]
  refine wpSt_move (by kernel_rfl) _ rfl ?_
  simp only [Act.put, List.setIfInBounds_toArray, List.set_cons_succ, List.set_cons_zero]
  refine wpSt_yield (v := .bool true) (by kernel_rfl) (fun u hu => by go_simp) ?_
  simp only [Act.put, List.setIfInBounds_toArray, List.set_cons_succ, List.set_cons_zero]
  refine wpSt_yield (v := .bool true) (by kernel_rfl) (fun u hu => by go_simp) ?_
  simp only [Act.put, List.setIfInBounds_toArray, List.set_cons_succ, List.set_cons_zero]
  refine wpSt_move (by kernel_rfl) _ rfl ?_
  simp only [Act.put, List.setIfInBounds_toArray, List.set_cons_succ, List.set_cons_zero]
  refine wpSt_move (by kernel_rfl) _ rfl ?_
  simp only [Act.put, List.setIfInBounds_toArray, List.set_cons_succ, List.set_cons_zero]
  refine wpSt_yield (v := .bool true) (by kernel_rfl) (fun u hu => by go_simp) ?_
  simp only [Act.put, List.setIfInBounds_toArray, List.set_cons_succ, List.set_cons_zero]
  refine wpSt_yield (v := .bool true) (by kernel_rfl) (fun u hu => by go_simp) ?_
  simp only [Act.put, List.setIfInBounds_toArray, List.set_cons_succ, List.set_cons_zero]
  refine wpSt_move (by kernel_rfl) _ rfl ?_
  simp only [Act.put, List.setIfInBounds_toArray, List.set_cons_succ, List.set_cons_zero]
  refine wpSt_move (by kernel_rfl) _ rfl ?_
  simp only [Act.put, List.setIfInBounds_toArray, List.set_cons_succ, List.set_cons_zero]
  refine wpSt_yield (v := .bool true) (by kernel_rfl) (fun u hu => by go_simp) ?_
  simp only [Act.put, List.setIfInBounds_toArray, List.set_cons_succ, List.set_cons_zero]
  refine wpSt_yield (v := .bool true) (by kernel_rfl) (fun u hu => by go_simp) ?_
  simp only [Act.put, List.setIfInBounds_toArray, List.set_cons_succ, List.set_cons_zero]
  refine wpSt_move (by kernel_rfl) _ rfl ?_
  simp only [Act.put, List.setIfInBounds_toArray, List.set_cons_succ, List.set_cons_zero]
  refine wpSt_yield (v := .agg FB) (by kernel_rfl) (fun u hu => exec_load59 (g := g5) rfl rfl hFB (hu.blk (by simp))) ?_
  simp only [Act.put, List.setIfInBounds_toArray, List.set_cons_succ, List.set_cons_zero]
  refine wpSt_act ?_
  refine act_call (by kernel_rfl) 35 _ _ rfl Try.call35 [.int .u16 7] rfl ?_
  refine (HF7.out _).mono ?_
  rintro e X1 ⟨rfl, hx1⟩
  have hS1 := hS0.later hx1
  refine ⟨_, rfl, hS1, ?_⟩
  simp only [Act.put, List.setIfInBounds_toArray, List.set_cons_succ, List.set_cons_zero]
  refine wpSt_yield (v := .bool true) (by kernel_rfl) (fun u hu => exec_eq59 rfl rfl rfl hFB hFB hff) ?_
  simp only [Act.put, List.setIfInBounds_toArray, List.set_cons_succ, List.set_cons_zero]
  refine wpSt_yield (v := .bool true) (by kernel_rfl) (fun u hu => by go_simp) ?_
  simp only [Act.put, List.setIfInBounds_toArray, List.set_cons_succ, List.set_cons_zero]
  refine wpSt_move (by kernel_rfl) _ rfl ?_
  simp only [Act.put, List.setIfInBounds_toArray, List.set_cons_succ, List.set_cons_zero]
  refine wpSt_yield (v := .agg NB) (by kernel_rfl) (fun u hu => exec_load59 (g := g7) rfl rfl hNB (hu.blk (by simp))) ?_
  simp only [Act.put, List.setIfInBounds_toArray, List.set_cons_succ, List.set_cons_zero]
  refine wpSt_yield (v := .agg NB) (by kernel_rfl) (fun u hu => exec_build59 rfl (hbd u)) ?_
  simp only [Act.put, List.setIfInBounds_toArray, List.set_cons_succ, List.set_cons_zero]
  refine wpSt_yield (v := .bool true) (by kernel_rfl) (fun u hu => exec_eq59 rfl rfl rfl hNB hNB hnn) ?_
  simp only [Act.put, List.setIfInBounds_toArray, List.set_cons_succ, List.set_cons_zero]
  refine wpSt_yield (v := .bool true) (by kernel_rfl) (fun u hu => by go_simp) ?_
  simp only [Act.put, List.setIfInBounds_toArray, List.set_cons_succ, List.set_cons_zero]
  refine wpSt_move (by kernel_rfl) _ rfl ?_
  simp only [Act.put, List.setIfInBounds_toArray, List.set_cons_succ, List.set_cons_zero]
  refine wpSt_yield (v := .agg FB) (by kernel_rfl) (fun u hu => exec_load59 (g := g11) rfl rfl hFB (hu.blk (by simp))) ?_
  simp only [Act.put, List.setIfInBounds_toArray, List.set_cons_succ, List.set_cons_zero]
  refine wpSt_act ?_
  refine act_call (by kernel_rfl) 35 _ _ rfl Try.call35 [.int .u16 7] rfl ?_
  refine (HF7.out _).mono ?_
  rintro e X2 ⟨rfl, hx2⟩
  have hS2 := hS1.later hx2
  refine ⟨_, rfl, hS2, ?_⟩
  simp only [Act.put, List.setIfInBounds_toArray, List.set_cons_succ, List.set_cons_zero]
  refine wpSt_yield (v := .bool true) (by kernel_rfl) (fun u hu => exec_eq59 rfl rfl rfl hFB hFB hff) ?_
  simp only [Act.put, List.setIfInBounds_toArray, List.set_cons_succ, List.set_cons_zero]
  refine wpSt_yield (v := .bool true) (by kernel_rfl) (fun u hu => by go_simp) ?_
  simp only [Act.put, List.setIfInBounds_toArray, List.set_cons_succ, List.set_cons_zero]
  refine wpSt_move (by kernel_rfl) _ rfl ?_
  simp only [Act.put, List.setIfInBounds_toArray, List.set_cons_succ, List.set_cons_zero]
  refine wpSt_move (by kernel_rfl) _ rfl ?_
  simp only [Act.put, List.setIfInBounds_toArray, List.set_cons_succ, List.set_cons_zero]
  refine wpSt_yield (v := .bool true) (by kernel_rfl) (fun u hu => by go_simp) ?_
  simp only [Act.put, List.setIfInBounds_toArray, List.set_cons_succ, List.set_cons_zero]
  refine wpSt_yield (v := .bool true) (by kernel_rfl) (fun u hu => by go_simp) ?_
  simp only [Act.put, List.setIfInBounds_toArray, List.set_cons_succ, List.set_cons_zero]
  refine wpSt_move (by kernel_rfl) _ rfl ?_
  simp only [Act.put, List.setIfInBounds_toArray, List.set_cons_succ, List.set_cons_zero]
  refine wpSt_move (by kernel_rfl) _ rfl ?_
  simp only [Act.put, List.setIfInBounds_toArray, List.set_cons_succ, List.set_cons_zero]
  refine wpSt_act ?_
  refine act_call (by kernel_rfl) 27 _ _ rfl Try.call27 [.pointer (some ⟨c, 0, none⟩)] rfl ?_
  refine (sit_fast hS2).mono ?_
  rintro e X3 ⟨rfl, rfl⟩
  refine ⟨_, rfl, hS2, ?_⟩
  rw [hf2]
  simp only [Act.put, List.setIfInBounds_toArray, List.set_cons_succ, List.set_cons_zero]
  refine wpSt_yield (v := .bool true) (by kernel_rfl) (fun u hu => by go_simp) ?_
  simp only [Act.put, List.setIfInBounds_toArray, List.set_cons_succ, List.set_cons_zero]
  refine wpSt_yield (v := .bool true) (by kernel_rfl) (fun u hu => by go_simp) ?_
  simp only [Act.put, List.setIfInBounds_toArray, List.set_cons_succ, List.set_cons_zero]
  refine wpSt_move (by kernel_rfl) _ rfl ?_
  simp only [Act.put, List.setIfInBounds_toArray, List.set_cons_succ, List.set_cons_zero]
  refine wpSt_move (by kernel_rfl) _ rfl ?_
  simp only [Act.put, List.setIfInBounds_toArray, List.set_cons_succ, List.set_cons_zero]
  refine wpSt_fork ?_ ?_
  · refine act_call (by kernel_rfl) 31 _ _ rfl Try.call31 [.pointer (some ⟨c, 0, none⟩)] rfl ?_
    refine (sit_order hS2).mono ?_
    rintro e X4 ⟨p9, cp9, rfl, hp4, hcp, hx4, _⟩
    rw [ho2] at hp4 hcp
    have hS4 := hS2.later hx4
    refine ⟨_, rfl, hS4, ?_⟩
    rw [ho2]
    show wpAct _ _ _ _ _ _ _ _
    simp only [Act.put, List.setIfInBounds_toArray, List.set_cons_succ, List.set_cons_zero]
    refine act_makes (v := .slice (some ⟨X4.heap.size, 0, none⟩) 1 1) (w' := X4.alloc (.cells #[.int .i64 5] 3)) (by kernel_rfl) (by go_simp) (hS4.later (below_new _ _)) ?_
    simp only [Act.put, List.setIfInBounds_toArray, List.set_cons_succ, List.set_cons_zero]
    have hp9 := hp4.later (below_new X4 (.cells #[.int .i64 5] 3))
    have hb9 := ints_new5 X4
    have hS8 := hS4.later (below_new X4 (.cells #[.int .i64 5] 3))
    generalize X4.heap.size = b9 at *
    generalize X4.alloc (.cells #[.int .i64 5] 3) = X8 at *
    refine wpSt_act ?_
    refine act_call (by kernel_rfl) 30 _ _ rfl Try.call30 [.slice p9 1 cp9, .slice (some ⟨b9, 0, none⟩) 1 1] rfl ?_
    refine (sameInts_any [5] [5] p9 (some ⟨b9, 0, none⟩) cp9 1 _ (by decide) hp9 hb9).mono ?_
    rintro e X9 ⟨rfl, hx9⟩
    have hS9 := hS8.later hx9
    refine ⟨_, rfl, hS9, ?_⟩
    rw [show decide (([5] : List Int) = [5]) = true from by decide]
    simp only [Act.put, List.setIfInBounds_toArray, List.set_cons_succ, List.set_cons_zero]
    refine wpSt_yield (v := .bool true) (by kernel_rfl) (fun u hu => by go_simp) ?_
    simp only [Act.put, List.setIfInBounds_toArray, List.set_cons_succ, List.set_cons_zero]
    refine wpSt_yield (v := .bool true) (by kernel_rfl) (fun u hu => by go_simp) ?_
    simp only [Act.put, List.setIfInBounds_toArray, List.set_cons_zero]
    refine wpSt_nil ?_
    go_wp2
    go_ret
    exact ⟨rfl, hS9.below⟩
  · refine act_makes (v := .slice (some ⟨X3.heap.size, 0, none⟩) 1 1) (w' := X3.alloc (.cells #[.int .i64 5] 3)) (by kernel_rfl) (by go_simp) (hS2.later (below_new _ _)) ?_
    show wpAct _ _ _ _ _ _ _ _
    simp only [Act.put, List.setIfInBounds_toArray, List.set_cons_succ, List.set_cons_zero]
    have hb4 := ints_new5 X3
    have hS4 := hS2.later (below_new X3 (.cells #[.int .i64 5] 3))
    generalize X3.heap.size = b9 at *
    generalize X3.alloc (.cells #[.int .i64 5] 3) = X4 at *
    refine act_call (by kernel_rfl) 31 _ _ rfl Try.call31 [.pointer (some ⟨c, 0, none⟩)] rfl ?_
    refine (sit_order hS4).mono ?_
    rintro e X8 ⟨p9, cp9, rfl, hp9, hcp, hx4, _⟩
    rw [ho2] at hp9 hcp
    have hS8 := hS4.later hx4
    have hb9 := hb4.later hx4
    refine ⟨_, rfl, hS8, ?_⟩
    rw [ho2]
    simp only [Act.put, List.setIfInBounds_toArray, List.set_cons_succ, List.set_cons_zero]
    refine wpSt_act ?_
    refine act_call (by kernel_rfl) 30 _ _ rfl Try.call30 [.slice p9 1 cp9, .slice (some ⟨b9, 0, none⟩) 1 1] rfl ?_
    refine (sameInts_any [5] [5] p9 (some ⟨b9, 0, none⟩) cp9 1 _ (by decide) hp9 hb9).mono ?_
    rintro e X9 ⟨rfl, hx9⟩
    have hS9 := hS8.later hx9
    refine ⟨_, rfl, hS9, ?_⟩
    rw [show decide (([5] : List Int) = [5]) = true from by decide]
    simp only [Act.put, List.setIfInBounds_toArray, List.set_cons_succ, List.set_cons_zero]
    refine wpSt_yield (v := .bool true) (by kernel_rfl) (fun u hu => by go_simp) ?_
    simp only [Act.put, List.setIfInBounds_toArray, List.set_cons_succ, List.set_cons_zero]
    refine wpSt_yield (v := .bool true) (by kernel_rfl) (fun u hu => by go_simp) ?_
    simp only [Act.put, List.setIfInBounds_toArray, List.set_cons_zero]
    refine wpSt_nil ?_
    go_wp2
    go_ret
    exact ⟨rfl, hS9.below⟩
end Go.Proofs.Ytencclpcebpgmaa
