/- Decode of shape: the layout of a superblock, or none; for every block of bytes and every number of blocks. -/
import Derived.Test.YtmblppgmfgjbpabEncode
namespace Go.Proofs.Ytmblppgmfgjbpab
open Go.RowKit

def Byte (f : Nat → Int) : Prop := ∀ i, 0 ≤ f i ∧ f i ≤ 255
/-- Is f the superblock of a layout of at most n blocks? -/
def decB (f : Nat → Int) (n : Int) : Bool :=
  decide (Fine (numN f 8 4) (numN f 12 4) (numN f 16 4) ∧ numN f 8 4 ≤ n) && sameB (superF (numN f 8 4) (numN f 12 4) (numN f 16 4)) f
/-- What Decode answers. -/
def decV (f : Nat → Int) (n : Int) : Value := if decB f n = true then layV (numN f 8 4) (numN f 12 4) (numN f 16 4) else layZ
def decE (f : Nat → Int) (n : Int) : Int := if decB f n = true then 0 else 4

set_option maxRecDepth 20000 in
set_option maxHeartbeats 400000 in
theorem number_any (f : Nat → Int) (hf : Byte f) (k : Nat) (w : World) (hk : k < 9) :
    Calls Try.prog 11 #[.agg (blk f), .int .i64 k] w fun e w' => e = .returned (.int .i64 (numN f (8 + 4 * k) 4)) ∧ Below w.heap.size w w' := by
  have hu := fun w => u32_any f (8 + 4 * (k : Int)) w hf
  rw [show (8 + 4 * (k : Int)) = ((8 + 4 * k : Nat) : Int) by omega, num_in _ _ _ (by omega)] at hu
  have hp : ∀ w, Calls Try.prog 16 #[.int .i64 (k : Int)] w fun e w' => e = .returned (.int .i64 ((8 + 4 * k : Nat) : Int)) ∧ Below w.heap.size w w' := fun w =>
    (place_any k w (by omega)).mono fun e w' h => ⟨by rw [h.1, show (8 + 4 * (k : Int)) = ((8 + 4 * k : Nat) : Int) by omega], by rw [h.2]; exact Below.refl _ _⟩
  have hbd := numN_bd f hf 4 (8 + 4 * k)
  have hlt : numN f (8 + 4 * k) 4 < 4294967296 := by have := hbd.2; omega
  have hge := hbd.1
  clear hbd hf
  generalize numN f (8 + 4 * k) 4 = x at *
  generalize 8 + 4 * k = m at *
  go_enter Try.func11, Try.ntmps11
  go_wp2
  have hne := later_some (w.alloc (.cells (blk f) 23))
  refine wp_region_later (by kernel_rfl) (by kernel_rfl) (w.alloc (.cells (blk f) 23)) (Below.refl _ _) ?_
  repeat (first
    | (go_big_quiet_want; refine quiet_load25 _ rfl _ rfl _ (heap_alloc_new _ _) ?_; simp only [Act.put, List.setIfInBounds_toArray, List.set_cons_succ, List.set_cons_zero]; go_big_quiet_on)
    | go_big_quiet_step (first
        | (go_at_call 16; exact Later.call _ (hp _))
        | (go_at_call 17; exact Later.call _ (hu _))))
  refine wpQuiet_nil ?_
  rintro _ ⟨y, rfl⟩
  go_wp2
  go_ret
  exact ⟨rfl, below_next (below_new _ _) y.below⟩

theorem wpOrd_storeG {ops : Array Oper} {Q : Exit → Act → World → Prop} {S : World → Prop} {r : List (Bool × Oper)} {a : Act} {w : World} {o : Oper} (hw : Region.wanted o (yielded ops a.tmps) = true)
    (x y : Operand) (ho : o.op = .store 25 x y) (g : Nat) (cs c0 : Array Value) (hs : cs.size = 3) (hs0 : c0.size = 3) (h1 : cs.all (·.oneCell') = true) (hx : a.eval x = .pointer (some ⟨g, 0, none⟩)) (hy : a.eval y = .agg cs) (hg : w.heap[g]? = some (.cells c0 25))
    (h : S (w.setRow g cs) ∧ wpOrd Try.prog ops Q S r (a.put o.dst undef) (w.setRow g cs)) : wpOrd Try.prog ops Q S ((false, o) :: r) a w := by
  have hz : (Try.prog.info? 25).map (·.size) = some cs.size := by rw [hs]; exact size23G
  simp only [wpOrd, hw, if_true]
  unfold Oper.wp execOp
  simp only [ho, hx, hy, Instr.storeAt, Instr.sureAddr, Sem.run_bind, Sem.run_pure, Result.andThen_ok, run_storeVar_row w g 25 25 c0 cs hg hz (by rw [hs, hs0]) h1]
  exact h

set_option maxRecDepth 20000 in
set_option maxHeartbeats 400000 in
theorem geometry_any (f : Nat → Int) (hf : Byte f) (w : World) :
    Calls Try.prog 7 #[.agg (blk f)] w fun e w' => e = .returned (geoV (numN f 8 4) (numN f 12 4) (numN f 16 4)) ∧ Below w.heap.size w w' := by
  have n0 := fun w => number_any f hf 0 w (by omega)
  have n1 := fun w => number_any f hf 1 w (by omega)
  have n2 := fun w => number_any f hf 2 w (by omega)
  simp only [Nat.mul_zero, Nat.add_zero, Nat.mul_one, Nat.reduceAdd, Nat.reduceMul] at n0 n1 n2
  clear hf
  unfold geoV
  generalize numN f 8 4 = x0 at *
  generalize numN f 12 4 = x1 at *
  generalize numN f 16 4 = x2 at *
  go_enter Try.func7, Try.ntmps7
  go_wp2
  have hbx := heap_alloc2_old w (.cells (blk f) 23) (.cells #[.int .i64 0, .int .i64 0, .int .i64 0] 25)
  have hrs := heap_alloc2_new w (.cells (blk f) 23) (.cells #[.int .i64 0, .int .i64 0, .int .i64 0] 25)
  have HB : Hid (Below w.heap.size w ((w.alloc (.cells (blk f) 23)).alloc (.cells #[.int .i64 0, .int .i64 0, .int .i64 0] 25))) := bel_al (below_new _ _) _
  have hb0 : Below ((w.alloc (.cells (blk f) 23)).alloc (.cells #[.int .i64 0, .int .i64 0, .int .i64 0] 25)).heap.size ((w.alloc (.cells (blk f) 23)).alloc (.cells #[.int .i64 0, .int .i64 0, .int .i64 0] 25)) ((w.alloc (.cells (blk f) 23)).alloc (.cells #[.int .i64 0, .int .i64 0, .int .i64 0] 25)).drew := (Below.refl _ _).drew
  generalize (w.alloc (.cells (blk f) 23)).alloc (.cells #[.int .i64 0, .int .i64 0, .int .i64 0] 25) = W at *
  refine wp_region_ord (S := fun u => u.heap[w.heap.size]? = some (.cells (blk f) 23)) [(0, true), (2, true), (4, true), (1, false), (3, false), (5, false), (6, true), (7, false)]
    (by kernel_rfl) rfl (by kernel_rfl) (fun d _ _ _ _ h => by cases d <;> exact h) (heap_kept hbx hb0) ?_
  simp only [inOrd, List.getElem?_cons_zero, List.getElem?_cons_succ]
  refine wpOrd_loadB rfl _ rfl w.heap.size rfl f (fun u hu => hu) ?_
  simp only [Act.put, List.setIfInBounds_toArray, List.set_cons_succ, List.set_cons_zero]
  refine wpOrd_loadB rfl _ rfl w.heap.size rfl f (fun u hu => hu) ?_
  simp only [Act.put, List.setIfInBounds_toArray, List.set_cons_succ, List.set_cons_zero]
  refine wpOrd_loadB rfl _ rfl w.heap.size rfl f (fun u hu => hu) ?_
  simp only [Act.put, List.setIfInBounds_toArray, List.set_cons_succ, List.set_cons_zero]
  refine wpOrd_call rfl 11 _ _ rfl Try.call11 [.agg (blk f), .int .i64 (0 : Nat)] rfl ?_
  refine (n0 _).mono ?_
  rintro e X1 ⟨rfl, hx1⟩
  have b1 := below_next hb0 hx1
  refine ⟨_, rfl, heap_kept hbx b1, ?_⟩
  simp only [Act.put, List.setIfInBounds_toArray, List.set_cons_succ, List.set_cons_zero]
  refine wpOrd_call rfl 11 _ _ rfl Try.call11 [.agg (blk f), .int .i64 (1 : Nat)] rfl ?_
  refine (n1 _).mono ?_
  rintro e X2 ⟨rfl, hx2⟩
  have b2 := below_next b1 hx2
  refine ⟨_, rfl, heap_kept hbx b2, ?_⟩
  simp only [Act.put, List.setIfInBounds_toArray, List.set_cons_succ, List.set_cons_zero]
  refine wpOrd_call rfl 11 _ _ rfl Try.call11 [.agg (blk f), .int .i64 (2 : Nat)] rfl ?_
  refine (n2 _).mono ?_
  rintro e X3 ⟨rfl, hx3⟩
  have b3 := below_next b2 hx3
  refine ⟨_, rfl, heap_kept hbx b3, ?_⟩
  simp only [Act.put, List.setIfInBounds_toArray, List.set_cons_succ, List.set_cons_zero]
  refine wpOrd_yield (v := .agg #[.int .i64 x0, .int .i64 x1, .int .i64 x2]) rfl (fun u _ => by go_simp) ?_
  simp only [Act.put, List.setIfInBounds_toArray, List.set_cons_succ, List.set_cons_zero]
  have hr3 := heap_kept hrs b3
  have hbx3 := heap_kept hbx b3
  refine wpOrd_storeG rfl _ _ rfl (w.heap.size + 1) #[.int .i64 x0, .int .i64 x1, .int .i64 x2] _ rfl rfl (by simp [Value.oneCell']) rfl rfl hr3 ⟨(setRow_other _ _ _ _ (by omega)).trans hbx3, ?_⟩
  refine wpOrd_nil ?_
  simp only [Act.put]
  have hrr := setRow_heap X3 (w.heap.size + 1) #[.int .i64 0, .int .i64 0, .int .i64 0] #[.int .i64 x0, .int .i64 x1, .int .i64 x2] 25 (0, 0) hr3
  have HX : Hid (Below w.heap.size w (X3.setRow (w.heap.size + 1) #[.int .i64 x0, .int .i64 x1, .int .i64 x2])) := below_setRow (below_next HB.out b3) (by omega) _
  generalize X3.setRow (w.heap.size + 1) #[.int .i64 x0, .int .i64 x1, .int .i64 x2] = Y at *
  clear n0 n1 n2 hx1 hx2 hx3 b1 b2 b3 hb0 hr3 hbx3 hbx hrs
  go_wp2
  exact ret23 rfl (w.heap.size + 1) _ rfl rfl hrr rfl ⟨rfl, HX.out⟩

/-- A block that is loaded, where the operation is wanted. -/
theorem wpList_load35w {ops : Array Oper} {rest : List Oper} {o : Oper} {a : Act} {w : World} {Q : Exit → Act → World → Prop} (hw : Region.wanted o (yielded ops a.tmps) = true) (x : Operand) (ho : o.op = .load 23 x)
    (g : Nat) (hx : a.eval x = .pointer (some ⟨g, 0, none⟩)) (f : Nat → Int) (hg : w.heap[g]? = some (.cells (blk f) 23))
    (h : wpList Try.prog ops Q rest (a.put o.dst (.agg (blk f))) w) : wpList Try.prog ops Q (o :: rest) a w := by
  unfold wpList
  rw [if_pos hw]
  refine .inl ?_
  unfold Oper.wp execOp
  simp only [ho, hx, Instr.loadAt, Instr.sureAddr, Sem.run_bind, Sem.run_pure, Result.andThen_ok, run_loadVar_row w g 23 23 (blk f) (0, 0) _ hg Try.underlying23 rfl (by rw [blk_size]; exact size25)]
  exact h
/-- A layout that is stored over another. -/
theorem wpList_storeL {ops : Array Oper} {rest : List Oper} {o : Oper} {a : Act} {w : World} {Q : Exit → Act → World → Prop} (hgd : o.guard = none) (x y : Operand) (ho : o.op = .store 27 x y)
    (g : Nat) (cs c0 : Array Value) (hs : cs.size = 9) (hs0 : c0.size = 9) (h1 : cs.all (·.oneCell') = true) (hx : a.eval x = .pointer (some ⟨g, 0, none⟩)) (hy : a.eval y = .agg cs) (hg : w.heap[g]? = some (.cells c0 27))
    (h : wpList Try.prog ops Q rest (a.put o.dst undef) (w.setRow g cs)) : wpList Try.prog ops Q (o :: rest) a w :=
  wpList_plain hgd fun _ hK => by
    have hz : (Try.prog.info? 27).map (·.size) = some cs.size := by rw [hs]; exact size25L
    unfold Oper.wp execOp
    simp only [ho, hx, hy, Instr.storeAt, Instr.sureAddr, Sem.run_bind, Sem.run_pure, Result.andThen_ok, run_storeVar_row w g 27 27 c0 cs hg hz (by rw [hs, hs0]) h1]
    exact hK _ _ h
theorem lay_one (b l i a c d e f g : Int) : (lay9 b l i a c d e f g).all (·.oneCell') = true := by simp [lay9, Value.oneCell']
theorem decB_no {f : Nat → Int} {n : Int} (h : ¬ (Fine (numN f 8 4) (numN f 12 4) (numN f 16 4) ∧ numN f 8 4 ≤ n)) : decB f n = false := by
  unfold decB; rw [decide_eq_false h, Bool.false_and]
theorem decB_yes {f : Nat → Int} {n : Int} (h : Fine (numN f 8 4) (numN f 12 4) (numN f 16 4) ∧ numN f 8 4 ≤ n) : decB f n = sameB (superF (numN f 8 4) (numN f 12 4) (numN f 16 4)) f := by
  unfold decB; rw [decide_eq_true h, Bool.true_and]
theorem dec_ret {f : Nat → Int} {n : Int} (h : decB f n = false) : Ending.returned (.tuple #[layZ, .int .i64 4]) = .returned (.tuple #[decV f n, .int .i64 (decE f n)]) := by
  unfold decV decE; rw [h]; rfl
theorem dec_retT {f : Nat → Int} {n : Int} (h : decB f n = true) : Ending.returned (.tuple #[layV (numN f 8 4) (numN f 12 4) (numN f 16 4), .int .i64 0]) = .returned (.tuple #[decV f n, .int .i64 (decE f n)]) := by
  unfold decV decE; rw [h]; rfl

set_option maxRecDepth 20000 in
set_option maxHeartbeats 1000000 in
theorem decode_any (f : Nat → Int) (hf : Byte f) (n : Int) (w : World) :
    Calls Try.prog 4 #[.agg (blk f), .int .i64 n] w fun e w' => e = .returned (.tuple #[decV f n, .int .i64 (decE f n)]) ∧ Below w.heap.size w w' := by
  have hg := fun w => geometry_any f hf w
  have hN := @decB_no f n
  have hY := @decB_yes f n
  have hR := @dec_ret f n
  have hT := @dec_retT f n
  have hI : I64 (numN f 8 4) := by
    have h := numN_bd f hf 4 8
    unfold I64
    omega
  have hof := fun w => of_any (numN f 8 4) (numN f 12 4) (numN f 16 4) w hI
  generalize decV f n = V at *
  generalize decE f n = E at *
  generalize decB f n = D at *
  generalize numN f 8 4 = x0 at *
  generalize numN f 12 4 = x1 at *
  generalize numN f 16 4 = x2 at *
  clear hf hI
  by_cases hfine : Fine x0 x1 x2
  · rw [show ofV x0 x1 x2 = layV x0 x1 x2 from if_pos hfine, show ofE x0 x1 x2 = 0 from if_pos hfine] at hof
    have henc := fun w => encode_fine x0 x1 x2 w hfine
    by_cases hle : x0 ≤ n
    · have hY' := hY ⟨hfine, hle⟩
      clear hN hY hfine
      generalize superF x0 x1 x2 = F at *
      have HR : Hid _ := hR
      have HT : Hid _ := hT
      have HY : Hid _ := hY'
      clear hR hT hY'
      have hlc : ∀ (W : World) (g : Nat), W.heap[g]? = some (.cells (lay9 x0 x1 x2 1 (1 + x1) (nodeB x2) (bitsAt x1 x2) (bitsB x0) (dataAt x0 x1 x2)) 27) → W.cell? ⟨g, 0, none⟩ = some (.int .i64 x0) := fun W g h => (lay_cells h).1
      have hsz : (lay9 x0 x1 x2 1 (1 + x1) (nodeB x2) (bitsAt x1 x2) (bitsB x0) (dataAt x0 x1 x2)).size = 9 := rfl
      have hone := lay_one x0 x1 x2 1 (1 + x1) (nodeB x2) (bitsAt x1 x2) (bitsB x0) (dataAt x0 x1 x2)
      unfold layV at *
      unfold lay9 at *
      have hq := eq25
      go_enter Try.func4, Try.ntmps4
      go_wp2_with (first | refine wpList_load35w rfl _ rfl _ rfl _ (heap_alloc2_old _ _ _) ?_ | (go_at_call 7; fail))
      refine (hg _).mono ?_
      rintro e W1 ⟨rfl, hb1⟩
      have p1 := heap_kept (heap_alloc2_old w _ _) hb1
      have r1 := heap_kept (heap_alloc2_new w _ _) hb1
      have HB1 : Hid (Below w.heap.size w W1) := below_next (bel_al (below_new _ _) _) hb1
      clear hb1 hg
      go_wp2_with (first | (go_at_call 6; fail))
      refine (hof _).mono ?_
      rintro e W2 ⟨rfl, hb2⟩
      have p2 := heap_kept p1 hb2
      have r2 := heap_kept r1 hb2
      have HB2 : Hid (Below w.heap.size w W2) := below_next HB1.out hb2
      clear hb2 hof p1 r1 HB1
      go_wp2_with (first | (go_at_call 8; fail))
      refine (henc _).mono ?_
      rintro e W3 ⟨rfl, hb3⟩
      have p3 := heap_kept (heap_kept p2 (below_new _ _)) hb3
      have r3 := heap_kept (heap_kept r2 (below_new _ _)) hb3
      have l3 := heap_kept (heap_alloc_new W2 _) hb3
      have HB3 : Hid (Below w.heap.size w W3) := below_next (below_next HB2.out (below_new _ _)) hb3
      clear hb3 henc p2 r2 HB2
      have p4 := heap_kept p3 (below_new W3 (.cells (blk F) 23))
      have l4 := heap_kept l3 (below_new W3 (.cells (blk F) 23))
      have r4 := heap_kept r3 (below_new W3 (.cells (blk F) 23))
      have HB4 : Hid (Below w.heap.size w (W3.alloc (.cells (blk F) 23))) := below_next HB3.out (below_new _ _)
      clear p3 l3 r3
      have z25 := zero25
      cases hD : sameB F f
      · have HE := HR.out (HY.out.trans hD)
        have HE' : Hid _ := HE
        clear HE HR HT HY hlc hsz hone
        go_wp2_with (first | refine wpList_store25_new rfl _ _ rfl _ _ rfl rfl ?_ | refine wpList_load35w rfl _ rfl _ rfl _ (heap_alloc_new _ _) ?_ | refine wpList_load35w rfl _ rfl _ rfl _ p4 ?_ | refine wpList_storeL rfl _ _ rfl _ _ _ rfl rfl (by simp [Value.oneCell']) rfl rfl r4 ?_)
        exact retCT rfl (w.heap.size + 1) _ rfl (load25L _ _ _ (setRow_heap _ _ _ _ _ _ r4) rfl) rfl ⟨HE'.out, below_setRow HB4.out (by omega) _⟩
      · have HE := HT.out (HY.out.trans hD)
        have HE' : Hid _ := HE
        clear HE HR HT HY hlc hsz hone
        go_wp2_with (first | refine wpList_store25_new rfl _ _ rfl _ _ rfl rfl ?_ | refine wpList_load35w rfl _ rfl _ rfl _ (heap_alloc_new _ _) ?_ | refine wpList_load35w rfl _ rfl _ rfl _ p4 ?_ | refine wpList_loadL rfl _ rfl _ rfl _ rfl l4 ?_ | refine wpList_storeL rfl _ _ rfl _ _ _ rfl rfl (by simp [Value.oneCell']) rfl rfl r4 ?_)
        exact retCT rfl (w.heap.size + 1) _ rfl (load25L _ _ _ (setRow_heap _ _ _ _ _ _ r4) rfl) rfl ⟨HE'.out, below_setRow HB4.out (by omega) _⟩
    · have hd := hN fun q => hle q.2
      have HE : Hid _ := hR hd
      clear hN hY hR hT hfine hd henc
      unfold layV at *
      unfold lay9 at *
      have hle' : n < x0 := by omega
      clear hle
      go_enter Try.func4, Try.ntmps4
      go_wp2_with (first | refine wpList_load35w rfl _ rfl _ rfl _ (heap_alloc2_old _ _ _) ?_ | (go_at_call 7; fail))
      refine (hg _).mono ?_
      rintro e W1 ⟨rfl, hb1⟩
      have r1 := heap_kept (heap_alloc2_new w _ _) hb1
      have HB1 : Hid (Below w.heap.size w W1) := below_next (bel_al (below_new _ _) _) hb1
      clear hb1 hg
      go_wp2_with (first | (go_at_call 6; fail))
      refine (hof _).mono ?_
      rintro e W2 ⟨rfl, hb2⟩
      have r2 := fun o => heap_kept (heap_kept r1 hb2) (below_new _ o)
      have HB2 : Hid (Below w.heap.size w W2) := below_next HB1.out hb2
      clear hb2 hof r1 HB1
      go_wp2_with (first | refine wpList_storeL rfl _ _ rfl _ _ _ rfl rfl (by simp [Value.oneCell']) rfl rfl (r2 _) ?_)
      exact retCT rfl (w.heap.size + 1) _ rfl (load25L _ _ _ (setRow_heap _ _ _ _ _ _ (r2 _)) rfl) rfl ⟨HE.out, below_setRow (bel_al HB2.out _) (by omega) _⟩
  · have hd := hN fun q => hfine q.1
    have HE : Hid _ := hR hd
    rw [show ofV x0 x1 x2 = layZ from if_neg hfine, show ofE x0 x1 x2 = 2 from if_neg hfine] at hof
    clear hN hY hR hT hfine hd
    unfold layZ at hof
    unfold lay9 at hof
    go_enter Try.func4, Try.ntmps4
    go_wp2_with (first | refine wpList_load35w rfl _ rfl _ rfl _ (heap_alloc2_old _ _ _) ?_ | (go_at_call 7; fail))
    refine (hg _).mono ?_
    rintro e W1 ⟨rfl, hb1⟩
    have r1 := heap_kept (heap_alloc2_new w _ _) hb1
    have HB1 : Hid (Below w.heap.size w W1) := below_next (bel_al (below_new _ _) _) hb1
    clear hb1 hg
    go_wp2_with (first | (go_at_call 6; fail))
    refine (hof _).mono ?_
    rintro e W2 ⟨rfl, hb2⟩
    have r2 := fun o => heap_kept (heap_kept r1 hb2) (below_new _ o)
    have HB2 : Hid (Below w.heap.size w W2) := below_next HB1.out hb2
    clear hb2 hof r1 HB1
    go_wp2_with (first | refine wpList_storeL rfl _ _ rfl _ _ _ rfl rfl (by simp [Value.oneCell']) rfl rfl (r2 _) ?_)
    exact retCT rfl (w.heap.size + 1) _ rfl (load25L _ _ _ (setRow_heap _ _ _ _ _ _ (r2 _)) rfl) rfl ⟨HE.out, below_setRow (bel_al HB2.out _) (by omega) _⟩
end Go.Proofs.Ytmblppgmfgjbpab
