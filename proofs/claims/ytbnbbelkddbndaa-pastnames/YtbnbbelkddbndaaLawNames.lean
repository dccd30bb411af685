/- PastNames answers true: the numbers and the chapter's examples; no condition. -/
import Derived.Test.YtbnbbelkddbndaaLives
namespace Go.Proofs.Ytbnbbelkddbndaa
open Go.RowKit Go.Maps
variable {A B C : Nat → Int}
theorem five_img2 {n : Int} {l : List Cel} (hA : Can A) (hC : Can C) (nA : A ≠ nought) (nC : C ≠ nought) (h : IsImg n (afterC [] ((fiveR A B C).take 5) [false, true]) l) : l = [(1, A), (2, C)] := by
  refine img_unique h ⟨by omega, by omega, trivial⟩ (fun c hc => ?_) fun k => ?_
  · simp only [List.mem_cons, List.not_mem_nil, or_false] at hc
    rcases hc with rfl | rfl
    · exact ⟨hA, nA⟩
    · exact ⟨hC, nC⟩
  · unfold afterC
    rw [five_take, List.nil_append, five_made2, lastB_hold k _ _ (by intro x hx; simp at hx; rcases hx with rfl | rfl; exact hA; exact hC)]
    show (if (1 : Int) = k then A else if (2 : Int) = k then C else nought) = if (2 : Int) = k then C else if (1 : Int) = k then A else nought
    by_cases h1 : (1 : Int) = k
    · rw [if_pos h1, if_neg (by omega), if_pos h1]
    · rw [if_neg h1]
      by_cases h2 : (2 : Int) = k
      · rw [if_pos h2, if_pos h2]
      · rw [if_neg h2, if_neg h2, if_neg h1]
theorem five_img0 {n : Int} {l : List Cel} (hA : Can A) (nA : A ≠ nought) (h : IsImg n (afterC [] ((fiveR A B C).take 5) []) l) : l = [(1, A)] := by
  refine img_unique h ⟨by omega, trivial⟩ (sound_one hA nA) fun k => ?_
  unfold afterC
  rw [five_take, List.nil_append, five_made, lastB_hold k _ _ (by intro x hx; simp at hx; rcases hx with rfl; exact hA)]
  rfl
theorem five_img1st {n : Int} {l : List Cel} (h : IsImg n (afterC [] ((fiveR A B C).take 1) []) l) : l = [] := by
  refine img_unique h trivial (fun c hc => by simp at hc) fun k => ?_
  rfl
theorem five_block2 (hC : Can C) (nC : C ≠ nought) : blockL [] (fiveR A B C) 2 = [nought, C] := by
  have hl : lastB 2 nought ([] ++ madeL [] (fiveR A B C)) = nought := by rw [five_made]; rfl
  have h1 : sameB nought C = false := by
    cases q : sameB nought C
    · rfl
    · exact absurd ((can_nought.same hC).1 q).symm nC
  unfold blockL
  rw [hl, five_pend]
  have s2 : stepB (fiveR A B C) 2 [nought] 2 = [nought] := rfl
  have s3 : stepB (fiveR A B C) 2 [nought] 3 = [nought, C] := by
    have e : (fiveR A B C)[(3 : Int).toNat]? = some ⟨1, 2, C⟩ := rfl
    unfold stepB
    rw [e]
    simp only [if_true]
    unfold tellL inB
    simp [h1]
  have s4 : stepB (fiveR A B C) 2 [nought, C] 4 = [nought, C] := rfl
  simp only [List.foldl_cons, List.foldl_nil, s2, s3, s4]
theorem five_block3 : blockL [] (fiveR A B C) 3 = [nought] := by
  have hl : lastB 3 nought ([] ++ madeL [] (fiveR A B C)) = nought := by rw [five_made]; rfl
  unfold blockL
  rw [hl, five_pend]
  have s2 : stepB (fiveR A B C) 3 [nought] 2 = [nought] := rfl
  have s3 : stepB (fiveR A B C) 3 [nought] 3 = [nought] := rfl
  have s4 : stepB (fiveR A B C) 3 [nought] 4 = [nought] := rfl
  simp only [List.foldl_cons, List.foldl_nil, s2, s3, s4]
theorem neq40A (f g : Nat → Int) (F G : Array Value) (b : Bool) (hF : blk f = F) (hG : blk g = G) (hb : sameB f g = b) (u : World) : (binOp .neq 40 (.agg F) (.agg G)).run Try.prog u = .ok (.bool (!b)) u := by
  have h := eq25 f g u
  rw [hb, hF, hG] at h
  simp only [binOp, Op.equal, Op.maxDepth, Sem.run_bind, h, Result.andThen_ok, Sem.run_pure]
theorem neqg40 (x y : Operand) (F G : Array Value) (u : World) : (eqGuard .neq 40 x y (.agg F) (.agg G)).run Try.prog u = .ok () u := by
  unfold eqGuard
  simp
theorem wpList_neq40A {ops : Array Oper} {rest : List Oper} {o : Oper} {a : Act} {w : World} {Q : Exit → Act → World → Prop} (hw : Region.wanted o (yielded ops a.tmps) = true) (x y : Operand) (ho : o.op = .binOp .neq 40 x y 40) (F G : Array Value) (b : Bool) (hx : a.eval x = .agg F) (hy : a.eval y = .agg G)
    (hr : (binOp .neq 40 (.agg F) (.agg G)).run Try.prog w = .ok (.bool b) w) (h : wpList Try.prog ops Q rest (a.put o.dst (.bool b)) w) : wpList Try.prog ops Q (o :: rest) a w :=
  BigFrame.wpList_want hw fun _ hK => by
    unfold Oper.wp execOp
    simp only [ho, hx, hy, Sem.run_bind, neqg40, hr, Result.andThen_ok, Sem.run_pure]
    exact hK _ _ h
theorem exec_neq40 {o : Oper} {a : Act} {x y : Operand} {F G : Array Value} {b : Bool} {u : World} (ho : o.op = .binOp .neq 40 x y 40) (hx : a.eval x = .agg F) (hy : a.eval y = .agg G) (hr : (binOp .neq 40 (.agg F) (.agg G)).run Try.prog u = .ok (.bool b) u) : (execOp a.eval o).run Try.prog u = .ok (.value (.bool b)) u := by
  unfold execOp
  simp only [ho, hx, hy, Sem.run_bind, neqg40, hr, Result.andThen_ok, Sem.run_pure]
theorem exec_build40 {o : Oper} {a : Act} {F : Array Value} {u : World} (ho : o.op = .build 40 #[]) (hr : (Instr.build 40 #[]).run Try.prog u = .ok (.agg F) u) : (execOp a.eval o).run Try.prog u = .ok (.value (.agg F)) u := by
  unfold execOp
  simp only [ho, Array.map_empty, Sem.run_bind]
  simp only [hr, Result.andThen_ok, Sem.run_pure]
theorem bools_new2 (W : World) : BoolsAt (W.alloc (.cells #[.bool false, .bool true] 4)) (.slice (some ⟨W.heap.size, 0, none⟩) 2 2) [false, true] := bools_new W [false, true]
theorem fill_celz (k : Int) (place : Nat → Option (Nat × Nat)) (h0 : place 0 = some (0, 1)) :
    Instr.fill place (celRow (0, nought)).toArray [(0, .int .i64 k)] = some (celRow (k, nought)).toArray := by
  have hZ := cel_size (0, nought)
  unfold Instr.fill
  rw [h0]
  simp only [Value.cells, List.size_toArray, List.length_cons, List.length_nil]
  rw [if_neg (by rw [celRow_len]; simp)]
  rw [fold_over 0 #[.int .i64 k] _ (by rw [hZ]; simp)]
  unfold Instr.fill
  rfl
theorem build44z (k : Int) (u : World) : (Instr.build 44 #[(0, .int .i64 k)]).run Try.prog u = .ok (.agg (celRow (k, nought)).toArray) u := by
  have z := zero85
  have hf := fill_celz k
  generalize (celRow (0, nought)).toArray = Z at *
  generalize (celRow (k, nought)).toArray = Y at *
  simp [Instr.build, z, run_underlying Try.underlying44, Value.cells]
  rw [hf _ rfl]
  simp only [Sem.run_pure]
theorem cels1 (c : Cel) (u : World) : (Instr.buildSlice 22 1 #[(0, .agg (celRow c).toArray)]).run Try.prog u = .ok (.slice (some ⟨u.heap.size, 0, none⟩) 1 1) (u.alloc (.cells (celRow c).toArray 44)) :=
  build1 22 44 1025 _ _ Try.underlying22 Try.sizeOf44 (by omega) zero85 (cel_size c) u
theorem cels2 (c d : Cel) (u : World) : (Instr.buildSlice 22 2 #[(0, .agg (celRow c).toArray), (1, .agg (celRow d).toArray)]).run Try.prog u = .ok (.slice (some ⟨u.heap.size, 0, none⟩) 2 2) (u.alloc (.cells (celCells [c, d]).toArray 44)) := by
  refine run_buildSlice_gen u 22 44 2 1025 _ _ _ Try.underlying22 (Try.sizeOf44 u) (by omega) (by omega) (zero85 u) ?_
  have := fill_seq 1025 [(celRow c).toArray, (celRow d).toArray] 0 ((Array.range (2 * 1025)).map ((Value.agg (celRow (0, nought)).toArray).cells[· % (Value.agg (celRow (0, nought)).toArray).cells.size]!)) (fun x hx => by
    simp only [List.mem_cons, List.not_mem_nil, or_false] at hx
    rcases hx with rfl | rfl
    · exact cel_size c
    · exact cel_size d) (by rw [Array.size_map, Array.size_range]; rfl)
  rw [Nat.zero_mul, List.take_zero, List.nil_append] at this
  refine this.trans ?_
  congr 2
theorem wpList_bld44z {ops : Array Oper} {rest : List Oper} {o : Oper} {a : Act} {w : World} {Q : Exit → Act → World → Prop} (hgd : o.guard = none) (x : Operand) (ho : o.op = .build 44 #[(0, x)]) (u : Value) (R : Array Value) (hx : a.eval x = u) (hr : (Instr.build 44 #[(0, u)]).run Try.prog w = .ok (.agg R) w)
    (h : wpList Try.prog ops Q rest (a.put o.dst (.agg R)) w) : wpList Try.prog ops Q (o :: rest) a w :=
  wpList_plain hgd fun _ hK => by
    have e' : (execOp a.eval o).run Try.prog w = .ok (.value (.agg R)) w := by simp [execOp, ho, hx, hr]
    unfold Oper.wp
    rw [e']
    exact hK _ _ h
theorem wpList_cels2 {ops : Array Oper} {rest : List Oper} {o : Oper} {a : Act} {w w' : World} {Q : Exit → Act → World → Prop} (hgd : o.guard = none) (x y : Operand) (ho : o.op = .buildSlice 22 2 #[(0, x), (1, y)]) (u v V : Value) (hx : a.eval x = u) (hy : a.eval y = v) (hr : (Instr.buildSlice 22 2 #[(0, u), (1, v)]).run Try.prog w = .ok V w')
    (h : wpList Try.prog ops Q rest (a.put o.dst V) w') : wpList Try.prog ops Q (o :: rest) a w :=
  wpList_plain hgd fun _ hK => by
    have e' : (execOp a.eval o).run Try.prog w = .ok (.value V) w' := by simp [execOp, ho, hx, hy, hr]
    unfold Oper.wp
    rw [e']
    exact hK _ _ h
theorem whole_odd2 {A : Nat → Int} : wholeE 4 [(4, A)] = 2 := by unfold wholeE mayB risesB; simp
theorem whole_odd3 : wholeE 4 [(1, nought)] = 2 := by
  have h : blankB nought = true := sameB_self nought
  unfold wholeE mayB risesB
  rw [h]
  simp
theorem whole_odd4 {A : Nat → Int} : wholeE 4 [(2, A), (1, A)] = 2 := by
  unfold wholeE mayB risesB
  simp [risesB]
theorem ints_new1 (W : World) : IntsAt (W.alloc (.cells #[.int .i64 0] 3)) (some ⟨W.heap.size, 0, none⟩) [0] := fun _ => by
  refine ⟨W.heap.size, 0, rfl, by simp, fun j x hx => ?_⟩
  rw [cell_of_row _ _ _ _ 3 _ (heap_alloc_new W _), Nat.zero_add]
  match j, hx with
  | 0, hx => simpa using hx
  | j + 1, hx => simp at hx
set_option maxRecDepth 20000 in
set_option maxHeartbeats 2000000 in
theorem law_names (w : World) : Calls Try.prog 7 #[] w fun e w' => e = .returned (.bool true) ∧ Below w.heap.size w w' := by
  obtain ⟨A, B, C, FA, FB, FC, RA, RN, RB, RC, O, hcan, hlet, hblk, hO, l1, l2, l3, b1, b0, b2, b3, b5⟩ := five_run
  have HCan : Hid (Can A ∧ Can B ∧ Can C ∧ A ≠ nought ∧ B ≠ nought ∧ C ≠ nought ∧ A ≠ B) := hcan
  have HBlk : Hid (blk A = FA ∧ blk B = FB ∧ blk C = FC) := hblk
  have HO : Hid ((opCells (fiveR A B C)).toArray = O) := hO
  have hBi := below_new w (.cells #[.int .i64 4, .slice none 0 0] 24)
  have hGi := heap_alloc_new w (.cells #[.int .i64 4, .slice none 0 0] 24)
  clear hcan hlet hblk hO
  go_enter Try.func7, Try.ntmps7
  go_wp2_with (go_at_call 30; fail)
  refine (l1 _).mono ?_
  rintro e W1 ⟨rfl, hb1⟩
  have hG1 := heap_kept hGi hb1
  have hB1 := below3 hBi hb1
  clear hBi hGi hb1
  go_wp2_with (first | (with_reducible refine isBuild 42 ?_; first | refine wpList_build42 rfl _ _ _ rfl (.int .u8 1) (.int .i64 1) (.agg FA) RA rfl rfl rfl (b1 _) ?_ | refine wpList_bar42 rfl _ rfl (.int .u8 2) RN rfl (b0 _) ?_) | (go_at_call 30; fail))
  refine (l2 _).mono ?_
  rintro e W2 ⟨rfl, hb2⟩
  have hG2 := heap_kept hG1 hb2
  have hB2 := below3 hB1 hb2
  clear hB1 hG1 hb2
  go_wp2_with (first | (with_reducible refine isBuild 42 ?_; refine wpList_build42 rfl _ _ _ rfl (.int .u8 1) (.int .i64 1) (.agg FB) RB rfl rfl rfl (b2 _) ?_) | (go_at_call 30; fail))
  refine (l3 _).mono ?_
  rintro e W3 ⟨rfl, hb3⟩
  have hG3 := heap_kept hG2 hb3
  have hB3 := below3 hB2 hb3
  clear hB2 hG2 hb3
  go_wp2_with (first | (with_reducible refine isBuild 42 ?_; refine wpList_build42 rfl _ _ _ rfl (.int .u8 1) (.int .i64 2) (.agg FC) RC rfl rfl rfl (b3 _) ?_) | (go_at_call 30; fail))
  refine (l1 _).mono ?_
  rintro e W4 ⟨rfl, hb4⟩
  have hG4 := heap_kept hG3 hb4
  have hB4 := below3 hB3 hb4
  clear hB3 hG3 hb4
  have hB5 := below3 hB4 (below_new W4 (.cells O 42))
  have hO5 : (W4.alloc (.cells O 42)).heap[W4.heap.size]? = some (.cells O 42) := heap_alloc_new _ _
  have hG5 := heap_kept hG4 (below_new W4 (.cells O 42))
  obtain ⟨W5, hW5⟩ : ∃ W5, W5 = W4.alloc (.cells O 42) := ⟨_, rfl⟩
  rw [← hW5] at hB5 hO5 hG5
  have hs5 : W5.heap.size = W4.heap.size + 1 := by rw [hW5]; simp
  have i0 : W5.cell? ⟨w.heap.size, 0, none⟩ = some (.int .i64 4) := Joins.cell_of_block hG5 0
  have i1 : W5.cell? ⟨w.heap.size, 1, none⟩ = some (.slice none 0 0) := Joins.cell_of_block hG5 1
  have hwlt : w.heap.size < W4.heap.size := (Array.getElem?_eq_some_iff.1 hG4).1
  have HW5 : Hid (W5 = W4.alloc (.cells O 42)) := hW5
  clear hW5 hB4 hG4
  go_wp2_with (first | (with_reducible refine isBuild 42 ?_; refine wpList_build42 rfl _ _ _ rfl (.int .u8 1) (.int .i64 1) (.agg FA) RA rfl rfl rfl (b1 _) ?_) | (with_reducible refine isList 25 ?_; refine wpList_build5 rfl _ _ _ _ _ rfl (.agg RA) (.agg RN) (.agg RB) (.agg RC) (.agg RA) _ rfl rfl rfl rfl rfl (b5 _) ?_; rw [← HW5.out]) | (go_at_call 21; fail))
  obtain ⟨cA, cB, cC, nA, nB, nC, nAB⟩ := HCan.out
  obtain ⟨hFA, hFB, hFC⟩ := HBlk.out
  have hO : (W5.alloc (.cells #[.bool false, .bool true] 4)).heap[W4.heap.size]? = some (.cells (opCells (fiveR A B C)).toArray 42) := by rw [HO.out]; exact heap_kept hO5 (below_new _ _)
  have hbl : BoolsAt (W5.alloc (.cells #[.bool false, .bool true] 4)) (.slice (some ⟨W4.heap.size + 1, 0, none⟩) 2 2) [false, true] := by
    have := bools_new2 W5
    rw [hs5] at this
    exact this
  refine (after_ok 4 [] none 0 (fiveR A B C) (some ⟨W4.heap.size, 0, none⟩) 5 5 [false, true] (some ⟨W4.heap.size + 1, 0, none⟩) 2 _ (by decide) (fun h => by simp at h) (by show 5 < 9223372036854775807; omega) (ops_row hO) (by show 5 ≤ 5; omega) (by decide) hbl (five_may rfl 5 (by omega)) (by simp) (five_can cA cB cC)).mono ?_
  rintro e W6 ⟨g6, l6, rfl, hI6, hg6, hgl6, hb6⟩
  obtain rfl := five_img2 cA cC nA nC hI6
  have hB6 := below3 (below3 hB5 (below_new W5 (.cells #[.bool false, .bool true] 4))) hb6
  have hG6 : W6.heap[w.heap.size]? = some (.cells #[.int .i64 4, .slice none 0 0] 24) := heap_kept (heap_kept hG5 (below_new _ _)) hb6
  have hO6 := heap_kept hO hb6
  have hb7 := below_new W6 (.cells #[.int .i64 4, .slice (some ⟨g6, 0, none⟩) 2 2] 24)
  have hA7 := heap_alloc_new W6 (.cells #[.int .i64 4, .slice (some ⟨g6, 0, none⟩) 2 2] 24)
  obtain ⟨W7, hW7⟩ : ∃ W7, W7 = W6.alloc (.cells #[.int .i64 4, .slice (some ⟨g6, 0, none⟩) 2 2] 24) := ⟨_, rfl⟩
  have HW7 : Hid (W7 = W6.alloc (.cells #[.int .i64 4, .slice (some ⟨g6, 0, none⟩) 2 2] 24)) := hW7
  rw [← hW7] at hA7 hb7
  have hs7 : W7.heap.size = W6.heap.size + 1 := by rw [hW7]; simp
  have hB7 := below3 hB6 hb7
  have hG7 := heap_kept hG6 hb7
  have hO7 := heap_kept hO6 hb7
  have hL7 := heap_kept hg6 hb7
  have j0 : W6.cell? ⟨w.heap.size, 0, none⟩ = some (.int .i64 4) := Joins.cell_of_block hG6 0
  have j1 : W6.cell? ⟨w.heap.size, 1, none⟩ = some (.slice none 0 0) := Joins.cell_of_block hG6 1
  have hw6 : w.heap.size < W6.heap.size := (Array.getElem?_eq_some_iff.1 hG6).1
  clear hW7 hI6 hb6 hO hbl hB5 hG5 hO5 i0 i1 hg6
  go_wp2_with (go_at_call 21; fail)
  rw [← HW7.out]
  have hO := hO7
  refine (after_ok 4 [] none 0 (fiveR A B C) (some ⟨W4.heap.size, 0, none⟩) 5 5 [] none 0 _ (by decide) (fun h => by simp at h) (by show 5 < 9223372036854775807; omega) (ops_row hO) (by show 5 ≤ 5; omega) (by decide) (bools_nil _) (five_may rfl 5 (by omega)) (by simp) (five_can cA cB cC)).mono ?_
  rintro e W8 ⟨g8, l8, rfl, hI8, hg8, hgl8, hb8⟩
  obtain rfl := five_img0 cA nA hI8
  have hB8 := below3 hB7 hb8
  have hG8 := heap_kept hG7 hb8
  have hO8 := heap_kept hO7 hb8
  have hL8 := heap_kept hL7 hb8
  have hA8 := heap_kept hA7 hb8
  have hb9 := below_new W8 (.cells #[.int .i64 4, .slice (some ⟨g8, 0, none⟩) 1 1] 24)
  have hD9 := heap_alloc_new W8 (.cells #[.int .i64 4, .slice (some ⟨g8, 0, none⟩) 1 1] 24)
  obtain ⟨W9, hW9⟩ : ∃ W9, W9 = W8.alloc (.cells #[.int .i64 4, .slice (some ⟨g8, 0, none⟩) 1 1] 24) := ⟨_, rfl⟩
  have HW9 : Hid (W9 = W8.alloc (.cells #[.int .i64 4, .slice (some ⟨g8, 0, none⟩) 1 1] 24)) := hW9
  rw [← hW9] at hD9 hb9
  have hs9 : W9.heap.size = W8.heap.size + 1 := by rw [hW9]; simp
  have hB9 := below3 hB8 hb9
  have hG9 := heap_kept hG8 hb9
  have hO9 := heap_kept hO8 hb9
  have hL9 := heap_kept hL8 hb9
  have hA9 := heap_kept hA8 hb9
  have j2 : W8.cell? ⟨w.heap.size, 0, none⟩ = some (.int .i64 4) := Joins.cell_of_block hG8 0
  have j3 : W8.cell? ⟨w.heap.size, 1, none⟩ = some (.slice none 0 0) := Joins.cell_of_block hG8 1
  have hw8 : w.heap.size < W8.heap.size := (Array.getElem?_eq_some_iff.1 hG8).1
  clear hW9 hI8 hb8 hO hB6 hG6 hO6 hB7 hG7 hO7 hL7 hA7 hb7 hg8 j0 j1 HW7
  go_wp2_with (go_at_call 21; fail)
  rw [← HW9.out]
  have hO := hO9
  refine (after_ok 4 [] none 0 (fiveR A B C) (some ⟨W4.heap.size, 0, none⟩) 5 1 [] none 0 _ (by decide) (fun h => by simp at h) (by show 5 < 9223372036854775807; omega) (ops_row hO) (by show 5 ≤ 5; omega) (by decide) (bools_nil _) (five_may rfl 1 (by omega)) (by simp) (five_can cA cB cC)).mono ?_
  rintro e W10 ⟨g10, l10, rfl, hI10, hg10, hgl10, hb10⟩
  obtain rfl := five_img1st hI10
  have hB10 := below3 hB9 hb10
  have hG10 := heap_kept hG9 hb10
  have hO10 := heap_kept hO9 hb10
  have hL10 := heap_kept hL9 hb10
  have hA10 := heap_kept hA9 hb10
  have hD10 := heap_kept hD9 hb10
  have hb11 := below_new W10 (.cells #[.int .i64 4, .slice (some ⟨g10, 0, none⟩) 0 0] 24)
  have hE11 := heap_alloc_new W10 (.cells #[.int .i64 4, .slice (some ⟨g10, 0, none⟩) 0 0] 24)
  obtain ⟨W11, hW11⟩ : ∃ W11, W11 = W10.alloc (.cells #[.int .i64 4, .slice (some ⟨g10, 0, none⟩) 0 0] 24) := ⟨_, rfl⟩
  have HW11 : Hid (W11 = W10.alloc (.cells #[.int .i64 4, .slice (some ⟨g10, 0, none⟩) 0 0] 24)) := hW11
  rw [← hW11] at hE11 hb11
  have hB11 := below3 hB10 hb11
  have hG11 := heap_kept hG10 hb11
  have hO11 := heap_kept hO10 hb11
  have hL11 := heap_kept hL10 hb11
  have hA11 := heap_kept hA10 hb11
  have hD11 := heap_kept hD10 hb11
  have kA : ∀ u, Below W11.heap.size W11 u → Calls Try.prog 26 #[.agg #[.int .i64 4, .slice (some ⟨g6, 0, none⟩) 2 2], .int .i64 1] u fun e w' => e = .returned (.agg FA) ∧ Below u.heap.size u w' := fun u hu => by
    have := blockAt_any 4 [(1, A), (2, C)] (some ⟨g6, 0, none⟩) 2 1 u (by simp) ((img_row hL11).later hu)
    rw [show atL [(1, A), (2, C)] 1 = A from rfl, hFA] at this
    exact this
  have kC : ∀ u, Below W11.heap.size W11 u → Calls Try.prog 26 #[.agg #[.int .i64 4, .slice (some ⟨g6, 0, none⟩) 2 2], .int .i64 2] u fun e w' => e = .returned (.agg FC) ∧ Below u.heap.size u w' := fun u hu => by
    have := blockAt_any 4 [(1, A), (2, C)] (some ⟨g6, 0, none⟩) 2 2 u (by simp) ((img_row hL11).later hu)
    rw [show atL [(1, A), (2, C)] 2 = C from rfl, hFC] at this
    exact this
  have sA0 : ∀ u, Below W11.heap.size W11 u → u.cell? ⟨W6.heap.size, 0, none⟩ = some (.int .i64 4) := fun u hu => (hu.cell (p := ⟨W6.heap.size, 0, none⟩) (Array.getElem?_eq_some_iff.1 hA11).1).trans (Joins.cell_of_block hA11 0)
  have sA1 : ∀ u, Below W11.heap.size W11 u → u.cell? ⟨W6.heap.size, 1, none⟩ = some (.slice (some ⟨g6, 0, none⟩) 2 2) := fun u hu => (hu.cell (p := ⟨W6.heap.size, 1, none⟩) (Array.getElem?_eq_some_iff.1 hA11).1).trans (Joins.cell_of_block hA11 1)
  have sD1 : ∀ u, Below W11.heap.size W11 u → u.cell? ⟨W8.heap.size, 1, none⟩ = some (.slice (some ⟨g8, 0, none⟩) 1 1) := fun u hu => (hu.cell (p := ⟨W8.heap.size, 1, none⟩) (Array.getElem?_eq_some_iff.1 hD11).1).trans (Joins.cell_of_block hD11 1)
  have sE1 : ∀ u, Below W11.heap.size W11 u → u.cell? ⟨W10.heap.size, 1, none⟩ = some (.slice (some ⟨g10, 0, none⟩) 0 0) := fun u hu => (hu.cell (p := ⟨W10.heap.size, 1, none⟩) (Array.getElem?_eq_some_iff.1 hE11).1).trans (Joins.cell_of_block hE11 1)
  have nAA : ∀ u, (binOp .neq 40 (.agg FA) (.agg FA)).run Try.prog u = .ok (.bool false) u := fun u => neq40A A A FA FA true hFA hFA (sameB_self A) u
  have nCC : ∀ u, (binOp .neq 40 (.agg FC) (.agg FC)).run Try.prog u = .ok (.bool false) u := fun u => neq40A C C FC FC true hFC hFC (sameB_self C) u
  have m0 : W10.cell? ⟨W6.heap.size, 0, none⟩ = some (.int .i64 4) := Joins.cell_of_block hA10 0
  have m1 : W10.cell? ⟨W6.heap.size, 1, none⟩ = some (.slice (some ⟨g6, 0, none⟩) 2 2) := Joins.cell_of_block hA10 1
  have m2 : W6.heap.size < W10.heap.size := (Array.getElem?_eq_some_iff.1 hA10).1
  clear hW11 hI10 hb10 hO hB8 hG8 hO8 hL8 hA8 hB9 hG9 hO9 hL9 hA9 hD9 hb9 hg10 j2 j3 HW9 hB10 hG10 hO10 hL10 hA10 hD10 hb11
  -- REG6
  go_wp2_with (first | (go_at_call 26; fail))
  rw [← HW11.out]
  refine (kA W11 (Below.refl _ _)).mono ?_
  rintro e X1 ⟨rfl, hx1⟩
  go_wp2_with (first | (go_at_call 30; fail))
  refine (l1 _).mono ?_
  rintro e X2 ⟨rfl, hx2⟩
  have hX2 := below3 hx1 hx2
  have a0 := sA0 X2 hX2
  have a1 := sA1 X2 hX2
  go_wp2_with (first | (with_reducible refine isEq 40 40 ?_; refine wpList_neq40A rfl _ _ rfl FA FA false rfl rfl (nAA _) ?_) | (go_at_call 26; fail))
  refine (kC X2 hX2).mono ?_
  rintro e X3 ⟨rfl, hx3⟩
  go_wp2_with (first | (go_at_call 30; fail))
  refine (l3 _).mono ?_
  rintro e X4 ⟨rfl, hx4⟩
  have hX4 := below3 (below3 hX2 hx3) hx4
  have d1 := sD1 X4 hX4
  have d2 := sE1 X4 hX4
  have hG12 := heap_kept hG11 hX4
  have hO12 := heap_kept hO11 hX4
  have hB12 := below3 hB11 hX4
  have e0 : X4.cell? ⟨w.heap.size, 0, none⟩ = some (.int .i64 4) := Joins.cell_of_block hG12 0
  have e1 : X4.cell? ⟨w.heap.size, 1, none⟩ = some (.slice none 0 0) := Joins.cell_of_block hG12 1
  clear hx1 hx2 hx3 hx4 hX2 a0 a1 kA kC sA0 sA1 sD1 sE1 hL11 hA11 hD11 hE11 hG11 hO11 hB11 hX4
  go_wp2_with (first | (with_reducible refine isEq 40 40 ?_; refine wpList_neq40A rfl _ _ rfl FC FC false rfl rfl (nCC _) ?_) | (go_at_call 24; fail))
  refine (block_ok 4 [] none 0 (fiveR A B C) (some ⟨W4.heap.size, 0, none⟩) 5 5 2 _ (by decide) (fun h => by simp at h) (by show 5 < 34359738368; omega) (ops_row hO12) (by show 5 ≤ 5; omega) (five_may rfl 5 (by omega)) ⟨by omega, by omega⟩ (by simp) (five_can cA cB cC)).mono ?_
  rintro e X5 ⟨v5, rfl, hr5, hx5⟩
  rw [five_take, five_block2 cC nC] at hr5
  obtain ⟨g12, c12, rfl, hg12, _, hc12, hL12⟩ := blks_own hr5 (by simp)
  have hG13 := heap_kept hG12 hx5
  have hO13 := heap_kept hO12 hx5
  have hB13 := below3 hB12 hx5
  have e2 : X5.cell? ⟨w.heap.size, 0, none⟩ = some (.int .i64 4) := Joins.cell_of_block hG13 0
  have e3 : X5.cell? ⟨w.heap.size, 1, none⟩ = some (.slice none 0 0) := Joins.cell_of_block hG13 1
  clear hr5 hG12 hO12 hB12 hx5 d1 d2 e0 e1
  go_wp2_with (first | (go_at_call 24; fail))
  refine (block_ok 4 [] none 0 (fiveR A B C) (some ⟨W4.heap.size, 0, none⟩) 5 5 3 _ (by decide) (fun h => by simp at h) (by show 5 < 34359738368; omega) (ops_row hO13) (by show 5 ≤ 5; omega) (five_may rfl 5 (by omega)) ⟨by omega, by omega⟩ (by simp) (five_can cA cB cC)).mono ?_
  rintro e X6 ⟨v6, rfl, hr6, hx6⟩
  rw [five_take, five_block3] at hr6
  obtain ⟨g13, c13, rfl, hg13, _, hc13, hL13⟩ := blks_own hr6 (by simp)
  have hG14 := heap_kept hG13 hx6
  have hO14 := heap_kept hO13 hx6
  have hB14 := below3 hB13 hx6
  have e4 : X6.cell? ⟨w.heap.size, 0, none⟩ = some (.int .i64 4) := Joins.cell_of_block hG14 0
  have e5 : X6.cell? ⟨w.heap.size, 1, none⟩ = some (.slice none 0 0) := Joins.cell_of_block hG14 1
  have hC6 : BlkAt X6 g12 1024 C := BlkAt.kept (hL12 1 C rfl) (hx6.block g12 hg12)
  have hgl6 : g12 < X6.heap.size := Nat.lt_of_lt_of_le hg12 hx6.size
  clear hr6 hG13 hO13 hB13 hx6 hL12 e2 e3
  go_wp2_with (first | (go_at_call 24; fail))
  refine (block_bad 4 [] none 0 (fiveR A B C) (some ⟨W4.heap.size, 0, none⟩) 5 5 4 _ (by decide) (fun h => by simp at h) (by show 5 < 9223372036854775807; omega) (ops_row hO14) (.inr (.inr (by omega)))).mono ?_
  rintro e X7 ⟨rfl, hx7⟩
  have hG15 := heap_kept hG14 hx7
  have hO15 := heap_kept hO14 hx7
  have hB15 := below3 hB14 hx7
  obtain ⟨FN, hFN, hbN⟩ : ∃ FN, blk nought = FN ∧ ∀ u : World, (Instr.build 40 #[]).run Try.prog u = .ok (.agg FN) u := ⟨_, rfl, built58⟩
  have sB1 : ∀ u, Below X7.heap.size X7 u → (Instr.loadAt 40 (.pointer (some ⟨g12, 1024, none⟩))).run Try.prog u = .ok (.agg FC) u := fun u hu => by
    rw [← hFC]
    exact loadM (hC6.kept ((hu.block g12 (Nat.lt_of_lt_of_le hgl6 hx7.size)).trans (hx7.block g12 hgl6)))
  have sN0 : ∀ u, Below X7.heap.size X7 u → (Instr.loadAt 40 (.pointer (some ⟨g13, 0, none⟩))).run Try.prog u = .ok (.agg FN) u := fun u hu => by
    rw [← hFN]
    exact loadM (BlkAt.kept (hL13 0 nought rfl) ((hu.block g13 (Nat.lt_of_lt_of_le hg13 hx7.size)).trans (hx7.block g13 hg13)))
  have nNN : ∀ u, (binOp .neq 40 (.agg FN) (.agg FN)).run Try.prog u = .ok (.bool false) u := fun u => neq40A nought nought FN FN true hFN hFN (sameB_self nought) u
  clear hG14 hO14 hB14 hx7 hL13 hC6 e4 e5
  go_wp2
  refine wp_region_ord (S := fun u => Below X7.heap.size X7 u) [(0, true), (1, true), (2, true), (3, true), (4, true), (5, true), (6, true), (7, true), (8, true), (9, true), (10, true), (11, true), (12, true), (13, true), (14, true), (15, true), (16, true), (17, true), (18, true), (19, false), (20, true), (21, true), (22, true), (23, true), (24, true), (25, true), (26, true), (27, true), (28, true), (29, true), (30, true), (31, true), (32, true), (33, true)]
    (by kernel_rfl) rfl (by kernel_rfl) (fun d _ _ _ _ h => by cases d <;> exact h) ((Below.refl _ _).drew) ?_
  simp only [inOrd, List.getElem?_cons_zero, List.getElem?_cons_succ]
  have hXd : Below X7.heap.size X7 X7.drew := (Below.refl _ _).drew
  refine wpOrd_move rfl _ rfl ?_
  simp only [Act.put, List.setIfInBounds_toArray, List.set_cons_succ, List.set_cons_zero]
  refine wpOrd_yield (v := .bool false) rfl (fun u hu => by go_simp) ?_
  simp only [Act.put, List.setIfInBounds_toArray, List.set_cons_succ, List.set_cons_zero]
  refine wpOrd_move rfl _ rfl ?_
  simp only [Act.put, List.setIfInBounds_toArray, List.set_cons_succ, List.set_cons_zero]
  refine wpOrd_move rfl _ rfl ?_
  simp only [Act.put, List.setIfInBounds_toArray, List.set_cons_succ, List.set_cons_zero]
  refine wpOrd_yield (v := .bool false) rfl (fun u hu => by go_simp) ?_
  simp only [Act.put, List.setIfInBounds_toArray, List.set_cons_succ, List.set_cons_zero]
  refine wpOrd_yield (v := .bool false) rfl (fun u hu => by go_simp) ?_
  simp only [Act.put, List.setIfInBounds_toArray, List.set_cons_succ, List.set_cons_zero]
  refine wpOrd_move rfl _ rfl ?_
  simp only [Act.put, List.setIfInBounds_toArray, List.set_cons_succ, List.set_cons_zero]
  refine wpOrd_move rfl _ rfl ?_
  simp only [Act.put, List.setIfInBounds_toArray, List.set_cons_succ, List.set_cons_zero]
  refine wpOrd_yield (v := .bool false) rfl (fun u hu => by go_simp) ?_
  simp only [Act.put, List.setIfInBounds_toArray, List.set_cons_succ, List.set_cons_zero]
  refine wpOrd_yield (v := .bool false) rfl (fun u hu => by go_simp) ?_
  simp only [Act.put, List.setIfInBounds_toArray, List.set_cons_succ, List.set_cons_zero]
  refine wpOrd_move rfl _ rfl ?_
  simp only [Act.put, List.setIfInBounds_toArray, List.set_cons_succ, List.set_cons_zero]
  refine wpOrd_move rfl _ rfl ?_
  simp only [Act.put, List.setIfInBounds_toArray, List.set_cons_succ, List.set_cons_zero]
  refine wpOrd_yield (v := .int .i64 2) rfl (fun u hu => by go_simp) ?_
  simp only [Act.put, List.setIfInBounds_toArray, List.set_cons_succ, List.set_cons_zero]
  refine wpOrd_yield (v := .bool false) rfl (fun u hu => by go_simp) ?_
  simp only [Act.put, List.setIfInBounds_toArray, List.set_cons_succ, List.set_cons_zero]
  refine wpOrd_yield (v := .bool false) rfl (fun u hu => by go_simp) ?_
  simp only [Act.put, List.setIfInBounds_toArray, List.set_cons_succ, List.set_cons_zero]
  refine wpOrd_move rfl _ rfl ?_
  simp only [Act.put, List.setIfInBounds_toArray, List.set_cons_succ, List.set_cons_zero]
  refine wpOrd_move rfl _ rfl ?_
  simp only [Act.put, List.setIfInBounds_toArray, List.set_cons_succ, List.set_cons_zero]
  refine wpOrd_yield (v := .pointer (some ⟨g12, 1024, none⟩)) rfl (fun u hu => by go_simp) ?_
  simp only [Act.put, List.setIfInBounds_toArray, List.set_cons_succ, List.set_cons_zero]
  refine wpOrd_yield (v := .agg FC) rfl (fun u hu => exec_load rfl rfl (sB1 u hu)) ?_
  simp only [Act.put, List.setIfInBounds_toArray, List.set_cons_succ, List.set_cons_zero]
  refine wpOrd_call rfl 30 _ _ rfl Try.call30 [.int .u8 3] rfl ?_
  refine (l3 _).mono ?_
  rintro e X8 ⟨rfl, hx8⟩
  have hX8 : Below X7.heap.size X7 X8 := below3 hXd hx8
  refine ⟨_, rfl, hX8, ?_⟩
  simp only [Act.put, List.setIfInBounds_toArray, List.set_cons_succ, List.set_cons_zero]
  refine wpOrd_yield (v := .bool false) rfl (fun u hu => exec_neq40 rfl rfl rfl (nCC u)) ?_
  simp only [Act.put, List.setIfInBounds_toArray, List.set_cons_succ, List.set_cons_zero]
  refine wpOrd_yield (v := .bool false) rfl (fun u hu => by go_simp) ?_
  simp only [Act.put, List.setIfInBounds_toArray, List.set_cons_succ, List.set_cons_zero]
  refine wpOrd_move rfl _ rfl ?_
  simp only [Act.put, List.setIfInBounds_toArray, List.set_cons_succ, List.set_cons_zero]
  refine wpOrd_move rfl _ rfl ?_
  simp only [Act.put, List.setIfInBounds_toArray, List.set_cons_succ, List.set_cons_zero]
  refine wpOrd_yield (v := .int .i64 1) rfl (fun u hu => by go_simp) ?_
  simp only [Act.put, List.setIfInBounds_toArray, List.set_cons_succ, List.set_cons_zero]
  refine wpOrd_yield (v := .bool false) rfl (fun u hu => by go_simp) ?_
  simp only [Act.put, List.setIfInBounds_toArray, List.set_cons_succ, List.set_cons_zero]
  refine wpOrd_yield (v := .bool false) rfl (fun u hu => by go_simp) ?_
  simp only [Act.put, List.setIfInBounds_toArray, List.set_cons_succ, List.set_cons_zero]
  refine wpOrd_move rfl _ rfl ?_
  simp only [Act.put, List.setIfInBounds_toArray, List.set_cons_succ, List.set_cons_zero]
  refine wpOrd_move rfl _ rfl ?_
  simp only [Act.put, List.setIfInBounds_toArray, List.set_cons_succ, List.set_cons_zero]
  refine wpOrd_yield (v := .pointer (some ⟨g13, 0, none⟩)) rfl (fun u hu => by go_simp) ?_
  simp only [Act.put, List.setIfInBounds_toArray, List.set_cons_succ, List.set_cons_zero]
  refine wpOrd_yield (v := .agg FN) rfl (fun u hu => exec_load rfl rfl (sN0 u hu)) ?_
  simp only [Act.put, List.setIfInBounds_toArray, List.set_cons_succ, List.set_cons_zero]
  refine wpOrd_yield (v := .agg FN) rfl (fun u hu => exec_build40 rfl (hbN u)) ?_
  simp only [Act.put, List.setIfInBounds_toArray, List.set_cons_succ, List.set_cons_zero]
  refine wpOrd_yield (v := .bool false) rfl (fun u hu => exec_neq40 rfl rfl rfl (nNN u)) ?_
  simp only [Act.put, List.setIfInBounds_toArray, List.set_cons_succ, List.set_cons_zero]
  refine wpOrd_yield (v := .bool false) rfl (fun u hu => by go_simp) ?_
  simp only [Act.put, List.setIfInBounds_toArray, List.set_cons_succ, List.set_cons_zero]
  refine wpOrd_nil ?_
  have hG16 := heap_kept hG15 hX8
  have hO16 := heap_kept hO15 hX8
  have hB16 := below3 hB15 hX8
  clear sB1 sN0 nNN nCC nAA hbN hG15 hO15 hB15 hXd hx8 hX8 hs7 hs9 hw6 hw8 m0 m1 m2
  obtain ⟨R1, hR1⟩ : ∃ R1, (celRow (4, A)).toArray = R1 := ⟨_, rfl⟩
  obtain ⟨R2, hR2⟩ : ∃ R2, (celRow (1, nought)).toArray = R2 := ⟨_, rfl⟩
  obtain ⟨R3, hR3⟩ : ∃ R3, (celRow (2, A)).toArray = R3 := ⟨_, rfl⟩
  obtain ⟨R4, hR4⟩ : ∃ R4, (celRow (1, A)).toArray = R4 := ⟨_, rfl⟩
  obtain ⟨R5, hR5⟩ : ∃ R5, (celCells [(2, A), (1, A)]).toArray = R5 := ⟨_, rfl⟩
  have q1 : ∀ u, (Instr.build 44 #[(0, .int .i64 4), (1, .agg FA)]).run Try.prog u = .ok (.agg R1) u := fun u => by rw [← hR1, ← hFA]; exact build85 4 A u
  have q2 : ∀ u, (Instr.build 44 #[(0, .int .i64 1)]).run Try.prog u = .ok (.agg R2) u := fun u => by rw [← hR2]; exact build44z 1 u
  have q3 : ∀ u, (Instr.build 44 #[(0, .int .i64 2), (1, .agg FA)]).run Try.prog u = .ok (.agg R3) u := fun u => by rw [← hR3, ← hFA]; exact build85 2 A u
  have q4 : ∀ u, (Instr.build 44 #[(0, .int .i64 1), (1, .agg FA)]).run Try.prog u = .ok (.agg R4) u := fun u => by rw [← hR4, ← hFA]; exact build85 1 A u
  have r1 : ∀ u, (Instr.buildSlice 22 1 #[(0, .agg R1)]).run Try.prog u = .ok (.slice (some ⟨u.heap.size, 0, none⟩) 1 1) (u.alloc (.cells R1 44)) := fun u => by rw [← hR1]; exact cels1 (4, A) u
  have r2 : ∀ u, (Instr.buildSlice 22 1 #[(0, .agg R2)]).run Try.prog u = .ok (.slice (some ⟨u.heap.size, 0, none⟩) 1 1) (u.alloc (.cells R2 44)) := fun u => by rw [← hR2]; exact cels1 (1, nought) u
  have r5 : ∀ u, (Instr.buildSlice 22 2 #[(0, .agg R3), (1, .agg R4)]).run Try.prog u = .ok (.slice (some ⟨u.heap.size, 0, none⟩) 2 2) (u.alloc (.cells R5 44)) := fun u => by rw [← hR3, ← hR4, ← hR5]; exact cels2 (2, A) (1, A) u
  go_wp2_with (first | (go_at_call 30; fail))
  refine (l1 _).mono ?_
  rintro e Y1 ⟨rfl, hy1⟩
  have hB17 := below3 hB16 hy1
  have hG17 := heap_kept hG16 hy1
  have hO17 := heap_kept hO16 hy1
  have u1 := heap_alloc_new Y1 (.cells R1 44)
  obtain ⟨Y2, hY2⟩ : ∃ Y2, Y2 = Y1.alloc (.cells R1 44) := ⟨_, rfl⟩
  have b2' := below_new Y1 (.cells R1 44)
  rw [← hY2] at u1 b2'
  have hsY2 : Y2.heap.size = Y1.heap.size + 1 := by rw [hY2]; simp
  have u2 := heap_alloc_new Y2 (.cells R2 44)
  obtain ⟨Y3, hY3⟩ : ∃ Y3, Y3 = Y2.alloc (.cells R2 44) := ⟨_, rfl⟩
  have b3' := below_new Y2 (.cells R2 44)
  rw [← hY3] at u2 b3'
  have HY2 : Hid (Y2 = Y1.alloc (.cells R1 44)) := hY2
  have HY3 : Hid (Y3 = Y2.alloc (.cells R2 44)) := hY3
  have u1' := heap_kept u1 b3'
  have b23 := below3 b2' b3'
  have hB18 := below3 hB17 b23
  have hG18 := heap_kept hG17 b23
  have hO18 := heap_kept hO17 b23
  clear hY2 hY3 hB16 hG16 hO16 hB17 hG17 hO17 hy1 u1
  go_wp2_with (first | (with_reducible refine isBuild 44 ?_; first | refine wpList_build44A rfl _ _ rfl (.int .i64 4) (.agg FA) R1 rfl rfl (q1 _) ?_ | refine wpList_bld44z rfl _ rfl (.int .i64 1) R2 rfl (q2 _) ?_) | (with_reducible refine isList 22 ?_; first | (refine wpList_build1 rfl 22 44 (.tmp 131) rfl R1 rfl (r1 _) ?_; rw [← HY2.out]) | (refine wpList_build1 rfl 22 44 (.tmp 134) rfl R2 rfl (r2 _) ?_; rw [← HY3.out])) | (go_at_call 30; fail))
  refine (l1 _).mono ?_
  rintro e Y4 ⟨rfl, hy4⟩
  go_wp2_with (first | (with_reducible refine isBuild 44 ?_; refine wpList_build44A rfl _ _ rfl (.int .i64 2) (.agg FA) R3 rfl rfl (q3 _) ?_) | (go_at_call 30; fail))
  refine (l1 _).mono ?_
  rintro e Y5 ⟨rfl, hy5⟩
  have b35 := below3 hy4 hy5
  have u3 := heap_alloc_new Y5 (.cells R5 44)
  have b6' := below_new Y5 (.cells R5 44)
  obtain ⟨Y6, hY6⟩ : ∃ Y6, Y6 = Y5.alloc (.cells R5 44) := ⟨_, rfl⟩
  rw [← hY6] at u3 b6'
  have HY6 : Hid (Y6 = Y5.alloc (.cells R5 44)) := hY6
  have b36 := below3 b35 b6'
  have u1'' := heap_kept u1' b36
  have u2'' := heap_kept u2 b36
  have hB19 := below3 hB18 b36
  have hG19 := heap_kept hG18 b36
  have hO19 := heap_kept hO18 b36
  clear hY6 hB18 hG18 hO18 hy4 hy5 b35 u1' u2 b23 b2' b3' b6' b36
  go_wp2_with (first | (with_reducible refine isBuild 44 ?_; refine wpList_build44A rfl _ _ rfl (.int .i64 1) (.agg FA) R4 rfl rfl (q4 _) ?_) | (with_reducible refine isList 22 ?_; refine wpList_cels2 rfl _ _ rfl (.agg R3) (.agg R4) _ rfl rfl (r5 _) ?_; rw [← HY6.out]))
  rw [hsY2] at u2''
  have hcs := heap_alloc_new Y6 (.cells #[.int .i64 0, .slice none 0 0, .int .i64 4, .slice (some ⟨Y1.heap.size, 0, none⟩) 1 1, .int .i64 4, .slice (some ⟨Y1.heap.size + 1, 0, none⟩) 1 1, .int .i64 4, .slice (some ⟨Y5.heap.size, 0, none⟩) 2 2] 24)
  have b7 := below_new Y6 (.cells #[.int .i64 0, .slice none 0 0, .int .i64 4, .slice (some ⟨Y1.heap.size, 0, none⟩) 1 1, .int .i64 4, .slice (some ⟨Y1.heap.size + 1, 0, none⟩) 1 1, .int .i64 4, .slice (some ⟨Y5.heap.size, 0, none⟩) 2 2] 24)
  have HB20 := below3 hB19 b7
  have HG20 := heap_kept hG19 b7
  have HO20 := heap_kept hO19 b7
  have u1z := heap_kept u1'' b7
  have u2z := heap_kept u2'' b7
  have u3z := heap_kept u3 b7
  generalize hY7 : Y6.alloc (.cells #[.int .i64 0, .slice none 0 0, .int .i64 4, .slice (some ⟨Y1.heap.size, 0, none⟩) 1 1, .int .i64 4, .slice (some ⟨Y1.heap.size + 1, 0, none⟩) 1 1, .int .i64 4, .slice (some ⟨Y5.heap.size, 0, none⟩) 2 2] 24) = Y7 at *
  have w1 : ∀ u, Below Y7.heap.size Y7 u → Calls Try.prog 22 #[.agg #[.int .i64 0, .slice none 0 0]] u fun e w' => e = .returned (.int .i64 2) ∧ Below u.heap.size u w' := fun u _ => whole_any 0 [] none 0 u (by decide) (fun h => by simp at h)
  have w2 : ∀ u, Below Y7.heap.size Y7 u → Calls Try.prog 22 #[.agg #[.int .i64 4, .slice (some ⟨Y1.heap.size, 0, none⟩) 1 1]] u fun e w' => e = .returned (.int .i64 2) ∧ Below u.heap.size u w' := fun u hu => by
    have := whole_any 4 [(4, A)] (some ⟨Y1.heap.size, 0, none⟩) 1 u (by simp) ((img_row (l := [(4, A)]) (by rw [celCells_one, hR1]; exact u1z)).later hu)
    rw [whole_odd2] at this
    exact this
  have w3 : ∀ u, Below Y7.heap.size Y7 u → Calls Try.prog 22 #[.agg #[.int .i64 4, .slice (some ⟨Y1.heap.size + 1, 0, none⟩) 1 1]] u fun e w' => e = .returned (.int .i64 2) ∧ Below u.heap.size u w' := fun u hu => by
    have := whole_any 4 [(1, nought)] (some ⟨Y1.heap.size + 1, 0, none⟩) 1 u (by simp) ((img_row (l := [(1, nought)]) (by rw [celCells_one, hR2]; exact u2z)).later hu)
    rw [whole_odd3] at this
    exact this
  have w4 : ∀ u, Below Y7.heap.size Y7 u → Calls Try.prog 22 #[.agg #[.int .i64 4, .slice (some ⟨Y5.heap.size, 0, none⟩) 2 2]] u fun e w' => e = .returned (.int .i64 2) ∧ Below u.heap.size u w' := fun u hu => by
    have := whole_any 4 [(2, A), (1, A)] (some ⟨Y5.heap.size, 0, none⟩) 2 u (by simp) ((img_row (l := [(2, A), (1, A)]) (by rw [hR5]; exact u3z)).later hu)
    rw [whole_odd4] at this
    exact this
  have cc : ∀ (u : World), Below Y7.heap.size Y7 u → ∀ i, u.cell? ⟨Y6.heap.size, i, none⟩ = (#[.int .i64 0, .slice none 0 0, .int .i64 4, .slice (some ⟨Y1.heap.size, 0, none⟩) 1 1, .int .i64 4, .slice (some ⟨Y1.heap.size + 1, 0, none⟩) 1 1, .int .i64 4, .slice (some ⟨Y5.heap.size, 0, none⟩) 2 2] : Array Value)[i]? := fun u hu i => (hu.cell (p := ⟨Y6.heap.size, i, none⟩) (Array.getElem?_eq_some_iff.1 hcs).1).trans (Joins.cell_of_block hcs i)
  have W1' : Hid (∀ u, Below Y7.heap.size Y7 u → Calls Try.prog 22 #[.agg #[.int .i64 0, .slice none 0 0]] u fun e w' => e = .returned (.int .i64 2) ∧ Below u.heap.size u w') := w1
  have W2' : Hid (∀ u, Below Y7.heap.size Y7 u → Calls Try.prog 22 #[.agg #[.int .i64 4, .slice (some ⟨Y1.heap.size, 0, none⟩) 1 1]] u fun e w' => e = .returned (.int .i64 2) ∧ Below u.heap.size u w') := w2
  have W3' : Hid (∀ u, Below Y7.heap.size Y7 u → Calls Try.prog 22 #[.agg #[.int .i64 4, .slice (some ⟨Y1.heap.size + 1, 0, none⟩) 1 1]] u fun e w' => e = .returned (.int .i64 2) ∧ Below u.heap.size u w') := w3
  have W4' : Hid (∀ u, Below Y7.heap.size Y7 u → Calls Try.prog 22 #[.agg #[.int .i64 4, .slice (some ⟨Y5.heap.size, 0, none⟩) 2 2]] u fun e w' => e = .returned (.int .i64 2) ∧ Below u.heap.size u w') := w4
  have CC : Hid (∀ (u : World), Below Y7.heap.size Y7 u → ∀ i, u.cell? ⟨Y6.heap.size, i, none⟩ = (#[.int .i64 0, .slice none 0 0, .int .i64 4, .slice (some ⟨Y1.heap.size, 0, none⟩) 1 1, .int .i64 4, .slice (some ⟨Y1.heap.size + 1, 0, none⟩) 1 1, .int .i64 4, .slice (some ⟨Y5.heap.size, 0, none⟩) 2 2] : Array Value)[i]?) := cc
  have HBy : Hid (Below w.heap.size w Y7) := HB20
  have HOy : Hid (Y7.heap[W4.heap.size]? = some (.cells (opCells (fiveR A B C)).toArray 42)) := HO20
  clear w1 w2 w3 w4 cc HB20 HO20 HG20 u1z u2z u3z b7 hcs hY7 hR1 hR2 hR3 hR4 hR5 q1 q2 q3 q4 r1 r2 r5 b1 b0 b2 b3 b5 l1 l2 l3 u1'' u2'' u3 hB19 hG19 hO19 HY2 HY3 HY6 HW5 HW11 hsY2 HCan HBlk HO
  go_loopw [12] (fun s12 wx => ∃ i : Nat, i ≤ 4 ∧ s12 = .int .i64 i ∧ Hid (Below Y7.heap.size Y7 wx)) (fun s12 _ => 4 - (intOf s12).toNat)
  case atStart => exact ⟨0, by omega, rfl, Below.refl _ _⟩
  case round =>
    obtain ⟨i, hi, rfl, HB⟩ := hrel
    have hc := CC.out wr HB.out
    have z0 : wr.cell? ⟨Y6.heap.size, 0, none⟩ = some (.int .i64 0) := hc 0
    have z1 : wr.cell? ⟨Y6.heap.size, 1, none⟩ = some (.slice none 0 0) := hc 1
    have z2 : wr.cell? ⟨Y6.heap.size, 2, none⟩ = some (.int .i64 4) := hc 2
    have z3 : wr.cell? ⟨Y6.heap.size, 3, none⟩ = some (.slice (some ⟨Y1.heap.size, 0, none⟩) 1 1) := hc 3
    have z4 : wr.cell? ⟨Y6.heap.size, 4, none⟩ = some (.int .i64 4) := hc 4
    have z5 : wr.cell? ⟨Y6.heap.size, 5, none⟩ = some (.slice (some ⟨Y1.heap.size + 1, 0, none⟩) 1 1) := hc 5
    have z6 : wr.cell? ⟨Y6.heap.size, 6, none⟩ = some (.int .i64 4) := hc 6
    have z7 : wr.cell? ⟨Y6.heap.size, 7, none⟩ = some (.slice (some ⟨Y5.heap.size, 0, none⟩) 2 2) := hc 7
    clear hc
    rcases (show i = 0 ∨ i = 1 ∨ i = 2 ∨ i = 3 ∨ i = 4 by omega) with rfl | rfl | rfl | rfl | rfl
    · go_wp2_with (go_at_call 22; refine (W1'.out _ HB.out).mono ?_; rintro e V ⟨rfl, hv⟩)
      exact ⟨⟨1, by omega, rfl, below3 HB.out hv⟩, by simp [intOf]⟩
    · go_wp2_with (go_at_call 22; refine (W2'.out _ HB.out).mono ?_; rintro e V ⟨rfl, hv⟩)
      exact ⟨⟨2, by omega, rfl, below3 HB.out hv⟩, by simp [intOf]⟩
    · go_wp2_with (go_at_call 22; refine (W3'.out _ HB.out).mono ?_; rintro e V ⟨rfl, hv⟩)
      exact ⟨⟨3, by omega, rfl, below3 HB.out hv⟩, by simp [intOf]⟩
    · go_wp2_with (go_at_call 22; refine (W4'.out _ HB.out).mono ?_; rintro e V ⟨rfl, hv⟩)
      exact ⟨⟨4, by omega, rfl, below3 HB.out hv⟩, by simp [intOf]⟩
    · clear z0 z1 z2 z3 z4 z5 z6 z7 W1' W2' W3' W4' CC
      go_wp2_with (go_at_call 20; fail)
      refine (lives_any _).mono ?_
      rintro e V1 ⟨rfl, hv1⟩
      have hV1 := below3 HB.out hv1
      have ho1 := heap_kept HOy.out hV1
      go_wp2_with (go_at_call 27; fail)
      refine (pending_any (fiveR A B C) (some ⟨W4.heap.size, 0, none⟩) 5 2 V1 (by show 5 < 68719476736; omega) (ops_row ho1) (by show 5 ≤ 5; omega)).mono ?_
      rintro e V2 ⟨v2, rfl, hr2, hv2⟩
      rw [show pendL ((fiveR A B C).take (upTo (fiveR A B C).length 2)) = [] from rfl] at hr2
      obtain ⟨p2, c2, rfl, _, _, _⟩ := ints_of_row hr2
      have hV2 := below3 hV1 hv2
      have ho2 := heap_kept HOy.out hV2
      go_wp2_with (go_at_call 27; fail)
      refine (pending_any (fiveR A B C) (some ⟨W4.heap.size, 0, none⟩) 5 1 V2 (by show 5 < 68719476736; omega) (ops_row ho2) (by show 5 ≤ 5; omega)).mono ?_
      rintro e V3 ⟨v3, rfl, hr3, hv3⟩
      rw [show pendL ((fiveR A B C).take (upTo (fiveR A B C).length 1)) = [0] from rfl] at hr3
      obtain ⟨p3, c3, rfl, hi3, _, _⟩ := ints_of_row hr3
      have hV3 := below3 hV2 hv3
      have hsm := sameInts_any [0] [0] p3 (some ⟨V3.heap.size, 0, none⟩) c3 1 _ (by decide) (hi3.later (below_new V3 (.cells #[.int .i64 0] 3))) (ints_new1 V3)
      rw [show decide (([0] : List Int) = [0]) = true from rfl] at hsm
      go_wp2_with (go_at_call 29; refine hsm.mono ?_; rintro e V4 ⟨rfl, hv4⟩)
      go_ret
      exact ⟨rfl, below3 HBy.out (below3 (below3 hV3 (below_new _ _)) hv4)⟩
end Go.Proofs.Ytbnbbelkddbndaa
