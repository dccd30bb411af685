/- The law's own first look: what the chapter's examples say; no condition. -/
import Derived.Test.YtbnbbelkddbndaaCutMath
namespace Go.Proofs.Ytbnbbelkddbndaa
open Go.RowKit Go.Maps
section
variable {ops : Array Oper} {rest : List Oper} {o : Oper} {a : Act} {w : World} {Q : Exit → Act → World → Prop}
theorem wpList_build42 (hgd : o.guard = none) (x y z : Operand) (ho : o.op = .build 42 #[(0, x), (1, y), (2, z)]) (u v t : Value) (R : Array Value) (hx : a.eval x = u) (hy : a.eval y = v) (hz : a.eval z = t) (hr : (Instr.build 42 #[(0, u), (1, v), (2, t)]).run Try.prog w = .ok (.agg R) w)
    (h : wpList Try.prog ops Q rest (a.put o.dst (.agg R)) w) : wpList Try.prog ops Q (o :: rest) a w :=
  wpList_plain hgd fun _ hK => by
    have e' : (execOp a.eval o).run Try.prog w = .ok (.value (.agg R)) w := by simp [execOp, ho, hx, hy, hz, hr]
    unfold Oper.wp
    rw [e']
    exact hK _ _ h
theorem wpList_bar42 (hgd : o.guard = none) (x : Operand) (ho : o.op = .build 42 #[(0, x)]) (u : Value) (R : Array Value) (hx : a.eval x = u) (hr : (Instr.build 42 #[(0, u)]).run Try.prog w = .ok (.agg R) w)
    (h : wpList Try.prog ops Q rest (a.put o.dst (.agg R)) w) : wpList Try.prog ops Q (o :: rest) a w :=
  wpList_plain hgd fun _ hK => by
    have e' : (execOp a.eval o).run Try.prog w = .ok (.value (.agg R)) w := by simp [execOp, ho, hx, hr]
    unfold Oper.wp
    rw [e']
    exact hK _ _ h
theorem wpList_build5 {w' : World} (hgd : o.guard = none) (x0 x1 x2 x3 x4 : Operand) (ho : o.op = .buildSlice 25 5 #[(0, x0), (1, x1), (2, x2), (3, x3), (4, x4)]) (v0 v1 v2 v3 v4 V : Value) (h0 : a.eval x0 = v0) (h1 : a.eval x1 = v1) (h2 : a.eval x2 = v2) (h3 : a.eval x3 = v3) (h4 : a.eval x4 = v4)
    (hr : (Instr.buildSlice 25 5 #[(0, v0), (1, v1), (2, v2), (3, v3), (4, v4)]).run Try.prog w = .ok V w')
    (h : wpList Try.prog ops Q rest (a.put o.dst V) w') : wpList Try.prog ops Q (o :: rest) a w :=
  wpList_plain hgd fun _ hK => by
    have e' : (execOp a.eval o).run Try.prog w = .ok (.value V) w' := by simp [execOp, ho, h0, h1, h2, h3, h4, hr]
    unfold Oper.wp
    rw [e']
    exact hK _ _ h
end
section
variable {P : Program} {ops : Array Oper} {Q : Exit → Act → World → Prop} {S : World → Prop}
theorem wpOrd_makes {r : List (Bool × Oper)} {a : Act} {w w' : World} {o : Oper} {v : Value} (hw : Region.wanted o (yielded ops a.tmps) = true) (hr : (execOp a.eval o).run P w = .ok (.value v) w') (hS : S w') (h : wpOrd P ops Q S r (a.put o.dst v) w') : wpOrd P ops Q S ((false, o) :: r) a w := by
  simp only [wpOrd, hw, if_true]
  unfold Oper.wp
  rw [hr]
  exact ⟨hS, h⟩
theorem exec_load {o : Oper} {a : Act} {t : TypeId} {x : Operand} {p v : Value} {u : World} (ho : o.op = .load t x) (hx : a.eval x = p) (hr : (Instr.loadAt t p).run P u = .ok v u) : (execOp a.eval o).run P u = .ok (.value v) u := by
  unfold execOp
  simp only [ho, hx, hr, Sem.run_bind, Result.andThen_ok, Sem.run_pure]
end
theorem exec_build44 {o : Oper} {a : Act} {x y : Operand} {p q : Value} {R : Array Value} {u : World} (ho : o.op = .build 44 #[(0, x), (1, y)]) (hx : a.eval x = p) (hy : a.eval y = q) (hr : (Instr.build 44 #[(0, p), (1, q)]).run Try.prog u = .ok (.agg R) u) : (execOp a.eval o).run Try.prog u = .ok (.value (.agg R)) u := by
  simp [execOp, ho, hx, hy, hr]
theorem exec_eq44 {o : Oper} {a : Act} {x y : Operand} {F G : Array Value} {c d : Cel} {r : Bool} {u : World} (ho : o.op = .binOp .eql 44 x y 44) (hx : a.eval x = .agg F) (hy : a.eval y = .agg G) (hF : (celRow c).toArray = F) (hG : (celRow d).toArray = G) (hr : celB c d = r) : (execOp a.eval o).run Try.prog u = .ok (.value (.bool r)) u := by
  have e := eql44 c d r hr u
  rw [hF, hG] at e
  unfold execOp
  simp only [ho, hx, hy, Sem.run_bind, eqg44, e, Result.andThen_ok, Sem.run_pure]
theorem exec_eq40 {o : Oper} {a : Act} {x y : Operand} {F G : Array Value} {f g : Nat → Int} {r : Bool} {u : World} (ho : o.op = .binOp .eql 40 x y 40) (hx : a.eval x = .agg F) (hy : a.eval y = .agg G) (hF : blk f = F) (hG : blk g = G) (hr : sameB f g = r) : (execOp a.eval o).run Try.prog u = .ok (.value (.bool r)) u := by
  have e := eq58 f g r hr u
  rw [hF, hG] at e
  unfold execOp
  simp only [ho, hx, hy, Sem.run_bind, eqg58, e, Result.andThen_ok, Sem.run_pure]
theorem ints_new3 (W : World) : IntsAt (W.alloc (.cells #[.int .i64 2, .int .i64 3, .int .i64 4] 3)) (some ⟨W.heap.size, 0, none⟩) [2, 3, 4] := fun _ => by
  refine ⟨W.heap.size, 0, rfl, by simp, fun j x hx => ?_⟩
  rw [cell_of_row _ _ _ _ 3 _ (heap_alloc_new W _), Nat.zero_add]
  match j, hx with
  | 0, hx => simpa using hx
  | 1, hx => simpa using hx
  | 2, hx => simpa using hx
  | j + 3, hx => simp at hx
theorem blks_own {w : World} {base : Nat} {v : Value} {l : List (Nat → Int)} (h : w.ownsRow base 40 1024 v l.length (blkCells l)) (h0 : 0 < l.length) : ∃ g c, v = .slice (some ⟨g, 0, none⟩) l.length c ∧ g < w.heap.size ∧ base ≤ g ∧ l.length ≤ c ∧ ∀ k f, l[k]? = some f → BlkAt w g (k * 1024) f := by
  rcases h.2 with ⟨_, h2⟩ | ⟨g, cap, cur, h1, hg, hh, hc, hm, hs, ht⟩
  · omega
  · refine ⟨g, cap, h1, (Array.getElem?_eq_some_iff.1 hh).1, hg, hc, fun k f hf => fun j x hx => ?_⟩
    have hj : j < 1024 := by have := (List.getElem?_eq_some_iff.1 hx).1; rwa [blk_list_len] at this
    have hkl := (List.getElem?_eq_some_iff.1 hf).1
    have gen : ∀ (l : List (Nat → Int)) (k : Nat), l[k]? = some f → (blkCells l)[k * 1024 + j]? = (blk f).toList[j]? := by
      intro l
      induction l with
      | nil => intro k hk; simp at hk
      | cons y t ih =>
        intro k hk
        show ((blk y).toList ++ blkCells t)[k * 1024 + j]? = _
        cases k with
        | zero =>
          have e : y = f := by simpa using hk
          subst e
          rw [Nat.zero_mul, Nat.zero_add, List.getElem?_append_left (by rw [blk_list_len]; exact hj)]
        | succ k =>
          rw [List.getElem?_append_right (by rw [blk_list_len, Nat.succ_mul]; omega), blk_list_len, show (k + 1) * 1024 + j - 1024 = k * 1024 + j by rw [Nat.succ_mul]; omega]
          exact ih k (by simpa using hk)
    have hin : k * 1024 + j < l.length * 1024 := by simp only [Nat.mul_comm _ 1024] at *; omega
    rw [cell_of_row w g _ cur 40 _ hh, ← Array.getElem?_toList, ← List.getElem?_take_of_lt hin, ht, gen l k hf]
    exact hx
/-- The chapter's ops made: from region 2 of a law on. -/
theorem five_run : ∃ (A B C : Nat → Int) (FA FB FC RA RN RB RC O : Array Value), (Can A ∧ Can B ∧ Can C ∧ A ≠ nought ∧ B ≠ nought ∧ C ≠ nought ∧ A ≠ B) ∧ (letF 1 = A ∧ letF 2 = B ∧ letF 3 = C) ∧ (blk A = FA ∧ blk B = FB ∧ blk C = FC) ∧ (opCells (fiveR A B C)).toArray = O ∧
    (∀ w, Calls Try.prog 30 #[.int .u8 1] w fun e w' => e = .returned (.agg FA) ∧ Below w.heap.size w w') ∧ (∀ w, Calls Try.prog 30 #[.int .u8 2] w fun e w' => e = .returned (.agg FB) ∧ Below w.heap.size w w') ∧ (∀ w, Calls Try.prog 30 #[.int .u8 3] w fun e w' => e = .returned (.agg FC) ∧ Below w.heap.size w w') ∧
    (∀ u, (Instr.build 42 #[(0, .int .u8 1), (1, .int .i64 1), (2, .agg FA)]).run Try.prog u = .ok (.agg RA) u) ∧ (∀ u, (Instr.build 42 #[(0, .int .u8 2)]).run Try.prog u = .ok (.agg RN) u) ∧ (∀ u, (Instr.build 42 #[(0, .int .u8 1), (1, .int .i64 1), (2, .agg FB)]).run Try.prog u = .ok (.agg RB) u) ∧ (∀ u, (Instr.build 42 #[(0, .int .u8 1), (1, .int .i64 2), (2, .agg FC)]).run Try.prog u = .ok (.agg RC) u) ∧
    (∀ u, (Instr.buildSlice 25 5 #[(0, .agg RA), (1, .agg RN), (2, .agg RB), (3, .agg RC), (4, .agg RA)]).run Try.prog u = .ok (.slice (some ⟨u.heap.size, 0, none⟩) 5 5) (u.alloc (.cells O 42))) :=
  ⟨letF 1, letF 2, letF 3, _, _, _, _, _, _, _, _, ⟨letF_can (by omega), letF_can (by omega), letF_can (by omega), letF_ne (by omega), letF_ne (by omega), letF_ne (by omega), fun h => by have := letF_inj h; omega⟩, ⟨rfl, rfl, rfl⟩, ⟨rfl, rfl, rfl⟩, rfl,
    letter_any 1, letter_any 2, letter_any 3, build108 1 1 _, build108b 2, build108 1 1 _, build108 1 2 _, build5 (fiveR (letF 1) (letF 2) (letF 3)) rfl⟩
set_option maxRecDepth 20000 in
set_option maxHeartbeats 1000000 in
theorem lives_any (w : World) : Calls Try.prog 20 #[] w fun e w' => e = .returned (.bool true) ∧ Below w.heap.size w w' := by
  obtain ⟨A, B, C, FA, FB, FC, RA, RN, RB, RC, O, hcan, hlet, hblk, hO, l1, l2, l3, b1, b0, b2, b3, b5⟩ := five_run
  have HCan : Hid (Can A ∧ Can B ∧ Can C ∧ A ≠ nought ∧ B ≠ nought ∧ C ≠ nought ∧ A ≠ B) := hcan
  have HBlk : Hid (blk A = FA ∧ blk B = FB ∧ blk C = FC) := hblk
  have HO : Hid ((opCells (fiveR A B C)).toArray = O) := hO
  have hBi := below_new w (.cells #[.int .i64 4, .slice none 0 0] 24)
  have hGi := heap_alloc_new w (.cells #[.int .i64 4, .slice none 0 0] 24)
  clear hcan hlet hblk hO
  go_enter Try.func20, Try.ntmps20
  go_wp2_with (go_at_call 30; fail)
  refine (l1 _).mono ?_
  rintro e W1 ⟨rfl, hb1⟩
  have hG1 := heap_kept hGi hb1
  have hB1 := below3 hBi hb1
  clear hBi hGi hb1
  go_wp2_with (first | (with_reducible refine isBuild 42 ?_; first | refine wpList_build42 rfl _ _ _ rfl (.int .u8 1) (.int .i64 1) (.agg FA) RA rfl rfl rfl (b1 _) ?_ | refine wpList_bar42 rfl _ rfl (.int .u8 2) RN rfl (b0 _) ?_) | (go_at_call 30; fail))
  refine (l2 _).mono ?_
  rintro e W2 ⟨rfl, hb2⟩
  have hG2 := heap_kept hG1 hb2
  have hB2 := below3 hB1 hb2
  clear hB1 hG1 hb2
  go_wp2_with (first | (with_reducible refine isBuild 42 ?_; refine wpList_build42 rfl _ _ _ rfl (.int .u8 1) (.int .i64 1) (.agg FB) RB rfl rfl rfl (b2 _) ?_) | (go_at_call 30; fail))
  refine (l3 _).mono ?_
  rintro e W3 ⟨rfl, hb3⟩
  have hG3 := heap_kept hG2 hb3
  have hB3 := below3 hB2 hb3
  clear hB2 hG2 hb3
  go_wp2_with (first | (with_reducible refine isBuild 42 ?_; refine wpList_build42 rfl _ _ _ rfl (.int .u8 1) (.int .i64 2) (.agg FC) RC rfl rfl rfl (b3 _) ?_) | (go_at_call 30; fail))
  refine (l1 _).mono ?_
  rintro e W4 ⟨rfl, hb4⟩
  have hG4 := heap_kept hG3 hb4
  have hB4 := below3 hB3 hb4
  clear hB3 hG3 hb4
  have hB5 := below3 hB4 (below_new W4 (.cells O 42))
  have hO5 : (W4.alloc (.cells O 42)).heap[W4.heap.size]? = some (.cells O 42) := heap_alloc_new _ _
  have hG5 := heap_kept hG4 (below_new W4 (.cells O 42))
  obtain ⟨W5, hW5⟩ : ∃ W5, W5 = W4.alloc (.cells O 42) := ⟨_, rfl⟩
  rw [← hW5] at hB5 hO5 hG5
  have hs5 : W5.heap.size = W4.heap.size + 1 := by rw [hW5]; simp
  have i0 : W5.cell? ⟨w.heap.size, 0, none⟩ = some (.int .i64 4) := Joins.cell_of_block hG5 0
  have i1 : W5.cell? ⟨w.heap.size, 1, none⟩ = some (.slice none 0 0) := Joins.cell_of_block hG5 1
  have hwlt : w.heap.size < W4.heap.size := (Array.getElem?_eq_some_iff.1 hG4).1
  have HW5 : Hid (W5 = W4.alloc (.cells O 42)) := hW5
  clear hW5 hB4 hG4
  go_wp2_with (first | (with_reducible refine isBuild 42 ?_; refine wpList_build42 rfl _ _ _ rfl (.int .u8 1) (.int .i64 1) (.agg FA) RA rfl rfl rfl (b1 _) ?_) | (with_reducible refine isList 25 ?_; refine wpList_build5 rfl _ _ _ _ _ rfl (.agg RA) (.agg RN) (.agg RB) (.agg RC) (.agg RA) _ rfl rfl rfl rfl rfl (b5 _) ?_; rw [← HW5.out]) | (go_at_call 21; fail))
  -- CUT
  obtain ⟨cA, cB, cC, nA, nB, nC, nAB⟩ := HCan.out
  obtain ⟨hFA, hFB, hFC⟩ := HBlk.out
  have hO6 : (W5.alloc (.cells #[.bool true] 4)).heap[W4.heap.size]? = some (.cells (opCells (fiveR A B C)).toArray 42) := by rw [HO.out]; exact heap_kept hO5 (below_new _ _)
  have hbl : BoolsAt (W5.alloc (.cells #[.bool true] 4)) (.slice (some ⟨W4.heap.size + 1, 0, none⟩) 1 1) [true] := by
    have := bools_new W5 [true]
    rw [hs5] at this
    exact this
  refine (after_ok 4 [] none 0 (fiveR A B C) (some ⟨W4.heap.size, 0, none⟩) 5 5 [true] (some ⟨W4.heap.size + 1, 0, none⟩) 1 _ (by decide) (fun h => by simp at h) (by show 5 < 9223372036854775807; omega) (ops_row hO6) (by show 5 ≤ 5; omega) (by decide) hbl (five_may rfl 5 (by omega)) (by simp) (five_can cA cB cC)).mono ?_
  rintro e W6 ⟨g6, l6, rfl, hI6, hg6, hgl6, hb6⟩
  obtain rfl := five_img1 cA cB nB hI6
  have hB6 := below3 (below3 hB5 (below_new W5 (.cells #[.bool true] 4))) hb6
  have hs6 : W4.heap.size + 2 ≤ W6.heap.size := by have := hb6.size; simp at this; omega
  have hG6 : W6.heap[w.heap.size]? = some (.cells #[.int .i64 4, .slice none 0 0] 24) := heap_kept (heap_kept hG5 (below_new _ _)) hb6
  have hO6' : W6.heap[W4.heap.size]? = some (.cells (opCells (fiveR A B C)).toArray 42) := heap_kept hO6 hb6
  have hw6 : w.heap.size < W6.heap.size := by omega
  have j0 : W6.cell? ⟨w.heap.size, 0, none⟩ = some (.int .i64 4) := Joins.cell_of_block hG6 0
  have j1 : W6.cell? ⟨w.heap.size, 1, none⟩ = some (.slice none 0 0) := Joins.cell_of_block hG6 1
  have hA7 : (W6.alloc (.cells #[.int .i64 4, .slice (some ⟨g6, 0, none⟩) 1 1] 24)).heap[W6.heap.size]? = some (.cells #[.int .i64 4, .slice (some ⟨g6, 0, none⟩) 1 1] 24) := heap_alloc_new _ _
  have hb7 : Below W6.heap.size W6 (W6.alloc (.cells #[.int .i64 4, .slice (some ⟨g6, 0, none⟩) 1 1] 24)) := below_new _ _
  obtain ⟨W7, hW7⟩ : ∃ W7, W7 = W6.alloc (.cells #[.int .i64 4, .slice (some ⟨g6, 0, none⟩) 1 1] 24) := ⟨_, rfl⟩
  have hs7 : W7.heap.size = W6.heap.size + 1 := by rw [hW7]; simp
  have HW7 : Hid (W7 = W6.alloc (.cells #[.int .i64 4, .slice (some ⟨g6, 0, none⟩) 1 1] 24)) := hW7
  rw [← hW7] at hA7 hb7
  have hB7 := below3 hB6 hb7
  have hG7 := heap_kept hG6 hb7
  have hO7 := heap_kept hO6' hb7
  have hC7 := heap_kept hg6 hb7
  clear hW7 hI6 hb6 hO6 hbl hB5 hG5 hO5 i0 i1
  go_wp2_with (go_at_call 24; fail)
  rw [← HW7.out]
  refine (block_ok 4 [] none 0 (fiveR A B C) (some ⟨W4.heap.size, 0, none⟩) 5 5 1 _ (by decide) (fun h => by simp at h) (by show 5 < 34359738368; omega) (ops_row hO7) (by show 5 ≤ 5; omega) (five_may rfl 5 (by omega)) ⟨by omega, by omega⟩ (by simp) (five_can cA cB cC)).mono ?_
  rintro e W8 ⟨v8, rfl, hr8, hb8⟩
  rw [five_take, five_block cA cB nAB] at hr8
  obtain ⟨g8, c8, rfl, hg8, hg8b, hc8, hL8⟩ := blks_own hr8 (by simp)
  have hB8 := below3 hB7 hb8
  have hG8 := heap_kept hG7 hb8
  have hO8 := heap_kept hO7 hb8
  have hC8 := heap_kept hC7 hb8
  have hA8 := heap_kept hA7 hb8
  clear hr8 hb8 hB7 hG7 hO7 hC7 hA7
  go_wp2_with (go_at_call 27; fail)
  refine (pending_any (fiveR A B C) (some ⟨W4.heap.size, 0, none⟩) 5 5 W8 (by show 5 < 68719476736; omega) (ops_row hO8) (by show 5 ≤ 5; omega)).mono ?_
  rintro e W9 ⟨v9, rfl, hr9, hb9⟩
  rw [show (fiveR A B C).take (upTo (fiveR A B C).length 5) = fiveR A B C from rfl, five_pend] at hr9
  obtain ⟨p9, c9, rfl, hI9, hc9, _⟩ := ints_of_row hr9
  have hB9 := below3 hB8 hb9
  have hG9 := heap_kept hG8 hb9
  have hC9 := heap_kept hC8 hb9
  have hA9 := heap_kept hA8 hb9
  have sI0 : ∀ u, Below W9.heap.size W9 u → u.cell? ⟨w.heap.size, 0, none⟩ = some (.int .i64 4) := fun u hu => (hu.cell (p := ⟨w.heap.size, 0, none⟩) (Array.getElem?_eq_some_iff.1 hG9).1).trans (Joins.cell_of_block hG9 0)
  have sI1 : ∀ u, Below W9.heap.size W9 u → u.cell? ⟨w.heap.size, 1, none⟩ = some (.slice none 0 0) := fun u hu => (hu.cell (p := ⟨w.heap.size, 1, none⟩) (Array.getElem?_eq_some_iff.1 hG9).1).trans (Joins.cell_of_block hG9 1)
  have sA : ∀ u, Below W9.heap.size W9 u → u.cell? ⟨W6.heap.size, 1, none⟩ = some (.slice (some ⟨g6, 0, none⟩) 1 1) := fun u hu => (hu.cell (p := ⟨W6.heap.size, 1, none⟩) (Array.getElem?_eq_some_iff.1 hA9).1).trans (Joins.cell_of_block hA9 1)
  obtain ⟨R6, hR6⟩ : ∃ R6, (celRow (1, B)).toArray = R6 := ⟨_, rfl⟩
  have sC : ∀ u, Below W9.heap.size W9 u → (Instr.loadAt 44 (.pointer (some ⟨g6, 0, none⟩))).run Try.prog u = .ok (.agg R6) u := fun u hu => by
    rw [← hR6]
    have hu6 := heap_kept hC9 hu
    exact load44 (cels_row hu6 0 (1, B) rfl)
  have sL0 : ∀ u, Below W9.heap.size W9 u → (Instr.loadAt 40 (.pointer (some ⟨g8, 0, none⟩))).run Try.prog u = .ok (.agg FA) u := fun u hu => by
    rw [← hFA]
    exact loadM (BlkAt.kept (hL8 0 A rfl) ((hu.block g8 (Nat.lt_of_lt_of_le hg8 hb9.size)).trans (hb9.block g8 hg8)))
  have sL1 : ∀ u, Below W9.heap.size W9 u → (Instr.loadAt 40 (.pointer (some ⟨g8, 1024, none⟩))).run Try.prog u = .ok (.agg FB) u := fun u hu => by
    rw [← hFB]
    exact loadM (BlkAt.kept (hL8 1 B rfl) ((hu.block g8 (Nat.lt_of_lt_of_le hg8 hb9.size)).trans (hb9.block g8 hg8)))
  have sP : ∀ u, Below W9.heap.size W9 u → IntsAt u p9 [2, 3, 4] := fun u hu => hI9.later hu
  have hb6 : ∀ u, (Instr.build 44 #[(0, .int .i64 1), (1, .agg FB)]).run Try.prog u = .ok (.agg R6) u := fun u => by
    rw [← hFB, ← hR6]
    exact build85 1 B u
  have hcc : celB (1, B) (1, B) = true := (celB_iff cB cB).2 rfl
  have hAA := sameB_self A
  have hBB := sameB_self B
  clear hr9 hI9 hb9 hB8 hG8 hO8 hC8 hA8 hL8 hG9 hC9 hA9 hg6 hG6 hO6' hB6 hb7 HW7 j0 j1 b1 b0 b2 b3 b5 HW5
  go_wp2
  refine wp_region_ord (S := fun u => Below W9.heap.size W9 u) [(0, true), (1, true), (2, true), (3, true), (4, true), (5, true), (6, true), (7, true), (8, true), (9, true), (10, true), (11, true), (12, true), (13, true), (14, true), (15, true), (16, true), (17, false), (18, true), (19, true), (20, true), (21, true), (22, true), (23, true), (24, true), (25, true), (26, true), (27, true), (28, true), (29, true), (30, false), (31, true), (32, true), (33, true), (34, true), (35, true), (36, true), (37, false), (38, true), (39, true), (40, true), (41, true), (42, false), (43, false), (44, true), (45, true), (46, true), (47, false), (48, true), (49, true), (50, true), (51, true), (52, false), (53, true), (54, true), (55, true)]
    (by kernel_rfl) rfl (by kernel_rfl) (fun d _ _ _ _ h => by cases d <;> exact h) ((Below.refl _ _).drew) ?_
  simp only [inOrd, List.getElem?_cons_zero, List.getElem?_cons_succ]
  have hX0 : Below W9.heap.size W9 W9.drew := (Below.refl _ _).drew
  refine wpOrd_move rfl _ rfl ?_
  simp only [Act.put, List.setIfInBounds_toArray, List.set_cons_succ, List.set_cons_zero]
  refine wpOrd_yield (v := .bool true) rfl (fun u hu => by go_simp) ?_
  simp only [Act.put, List.setIfInBounds_toArray, List.set_cons_succ, List.set_cons_zero]
  refine wpOrd_move rfl _ rfl ?_
  simp only [Act.put, List.setIfInBounds_toArray, List.set_cons_succ, List.set_cons_zero]
  refine wpOrd_move rfl _ rfl ?_
  simp only [Act.put, List.setIfInBounds_toArray, List.set_cons_succ, List.set_cons_zero]
  refine wpOrd_yield (v := .bool true) rfl (fun u hu => by go_simp) ?_
  simp only [Act.put, List.setIfInBounds_toArray, List.set_cons_succ, List.set_cons_zero]
  refine wpOrd_yield (v := .bool true) rfl (fun u hu => by go_simp) ?_
  simp only [Act.put, List.setIfInBounds_toArray, List.set_cons_succ, List.set_cons_zero]
  refine wpOrd_move rfl _ rfl ?_
  simp only [Act.put, List.setIfInBounds_toArray, List.set_cons_succ, List.set_cons_zero]
  refine wpOrd_yield (v := .pointer (some ⟨W6.heap.size, 1, none⟩)) rfl (fun u hu => by go_simp) ?_
  simp only [Act.put, List.setIfInBounds_toArray, List.set_cons_succ, List.set_cons_zero]
  refine wpOrd_yield (v := .slice (some ⟨g6, 0, none⟩) 1 1) rfl (fun u hu => by have := sA u hu; go_simp) ?_
  simp only [Act.put, List.setIfInBounds_toArray, List.set_cons_succ, List.set_cons_zero]
  refine wpOrd_yield (v := .int .i64 1) rfl (fun u hu => by go_simp) ?_
  simp only [Act.put, List.setIfInBounds_toArray, List.set_cons_succ, List.set_cons_zero]
  refine wpOrd_yield (v := .bool true) rfl (fun u hu => by go_simp) ?_
  simp only [Act.put, List.setIfInBounds_toArray, List.set_cons_succ, List.set_cons_zero]
  refine wpOrd_yield (v := .bool true) rfl (fun u hu => by go_simp) ?_
  simp only [Act.put, List.setIfInBounds_toArray, List.set_cons_succ, List.set_cons_zero]
  refine wpOrd_move rfl _ rfl ?_
  simp only [Act.put, List.setIfInBounds_toArray, List.set_cons_succ, List.set_cons_zero]
  refine wpOrd_yield (v := .pointer (some ⟨W6.heap.size, 1, none⟩)) rfl (fun u hu => by go_simp) ?_
  simp only [Act.put, List.setIfInBounds_toArray, List.set_cons_succ, List.set_cons_zero]
  refine wpOrd_yield (v := .slice (some ⟨g6, 0, none⟩) 1 1) rfl (fun u hu => by have := sA u hu; go_simp) ?_
  simp only [Act.put, List.setIfInBounds_toArray, List.set_cons_succ, List.set_cons_zero]
  refine wpOrd_yield (v := .pointer (some ⟨g6, 0, none⟩)) rfl (fun u hu => by go_simp) ?_
  simp only [Act.put, List.setIfInBounds_toArray, List.set_cons_succ, List.set_cons_zero]
  refine wpOrd_yield (v := .agg R6) rfl (fun u hu => exec_load rfl rfl (sC u hu)) ?_
  simp only [Act.put, List.setIfInBounds_toArray, List.set_cons_succ, List.set_cons_zero]
  refine wpOrd_call rfl 30 _ _ rfl Try.call30 [.int .u8 2] rfl ?_
  refine (l2 _).mono ?_
  rintro e X1 ⟨rfl, hx1⟩
  have hX1 : Below W9.heap.size W9 X1 := below3 hX0 hx1
  refine ⟨_, rfl, hX1, ?_⟩
  simp only [Act.put, List.setIfInBounds_toArray, List.set_cons_succ, List.set_cons_zero]
  refine wpOrd_yield (v := .agg R6) rfl (fun u hu => exec_build44 rfl rfl rfl (hb6 u)) ?_
  simp only [Act.put, List.setIfInBounds_toArray, List.set_cons_succ, List.set_cons_zero]
  refine wpOrd_yield (v := .bool true) rfl (fun u hu => exec_eq44 rfl rfl rfl hR6 hR6 hcc) ?_
  simp only [Act.put, List.setIfInBounds_toArray, List.set_cons_succ, List.set_cons_zero]
  refine wpOrd_yield (v := .bool true) rfl (fun u hu => by go_simp) ?_
  simp only [Act.put, List.setIfInBounds_toArray, List.set_cons_succ, List.set_cons_zero]
  refine wpOrd_move rfl _ rfl ?_
  simp only [Act.put, List.setIfInBounds_toArray, List.set_cons_succ, List.set_cons_zero]
  refine wpOrd_move rfl _ rfl ?_
  simp only [Act.put, List.setIfInBounds_toArray, List.set_cons_succ, List.set_cons_zero]
  refine wpOrd_yield (v := .int .i64 2) rfl (fun u hu => by go_simp) ?_
  simp only [Act.put, List.setIfInBounds_toArray, List.set_cons_succ, List.set_cons_zero]
  refine wpOrd_yield (v := .bool true) rfl (fun u hu => by go_simp) ?_
  simp only [Act.put, List.setIfInBounds_toArray, List.set_cons_succ, List.set_cons_zero]
  refine wpOrd_yield (v := .bool true) rfl (fun u hu => by go_simp) ?_
  simp only [Act.put, List.setIfInBounds_toArray, List.set_cons_succ, List.set_cons_zero]
  refine wpOrd_move rfl _ rfl ?_
  simp only [Act.put, List.setIfInBounds_toArray, List.set_cons_succ, List.set_cons_zero]
  refine wpOrd_move rfl _ rfl ?_
  simp only [Act.put, List.setIfInBounds_toArray, List.set_cons_succ, List.set_cons_zero]
  refine wpOrd_yield (v := .pointer (some ⟨g8, 0, none⟩)) rfl (fun u hu => by go_simp) ?_
  simp only [Act.put, List.setIfInBounds_toArray, List.set_cons_succ, List.set_cons_zero]
  refine wpOrd_yield (v := .agg FA) rfl (fun u hu => exec_load rfl rfl (sL0 u hu)) ?_
  simp only [Act.put, List.setIfInBounds_toArray, List.set_cons_succ, List.set_cons_zero]
  refine wpOrd_call rfl 30 _ _ rfl Try.call30 [.int .u8 1] rfl ?_
  refine (l1 _).mono ?_
  rintro e X2 ⟨rfl, hx2⟩
  have hX2 : Below W9.heap.size W9 X2 := below3 hX1 hx2
  refine ⟨_, rfl, hX2, ?_⟩
  simp only [Act.put, List.setIfInBounds_toArray, List.set_cons_succ, List.set_cons_zero]
  refine wpOrd_yield (v := .bool true) rfl (fun u hu => exec_eq40 rfl rfl rfl hFA hFA hAA) ?_
  simp only [Act.put, List.setIfInBounds_toArray, List.set_cons_succ, List.set_cons_zero]
  refine wpOrd_yield (v := .bool true) rfl (fun u hu => by go_simp) ?_
  simp only [Act.put, List.setIfInBounds_toArray, List.set_cons_succ, List.set_cons_zero]
  refine wpOrd_move rfl _ rfl ?_
  simp only [Act.put, List.setIfInBounds_toArray, List.set_cons_succ, List.set_cons_zero]
  refine wpOrd_move rfl _ rfl ?_
  simp only [Act.put, List.setIfInBounds_toArray, List.set_cons_succ, List.set_cons_zero]
  refine wpOrd_yield (v := .pointer (some ⟨g8, 1024, none⟩)) rfl (fun u hu => by go_simp) ?_
  simp only [Act.put, List.setIfInBounds_toArray, List.set_cons_succ, List.set_cons_zero]
  refine wpOrd_yield (v := .agg FB) rfl (fun u hu => exec_load rfl rfl (sL1 u hu)) ?_
  simp only [Act.put, List.setIfInBounds_toArray, List.set_cons_succ, List.set_cons_zero]
  refine wpOrd_call rfl 30 _ _ rfl Try.call30 [.int .u8 2] rfl ?_
  refine (l2 _).mono ?_
  rintro e X3 ⟨rfl, hx3⟩
  have hX3 : Below W9.heap.size W9 X3 := below3 hX2 hx3
  refine ⟨_, rfl, hX3, ?_⟩
  simp only [Act.put, List.setIfInBounds_toArray, List.set_cons_succ, List.set_cons_zero]
  refine wpOrd_yield (v := .bool true) rfl (fun u hu => exec_eq40 rfl rfl rfl hFB hFB hBB) ?_
  simp only [Act.put, List.setIfInBounds_toArray, List.set_cons_succ, List.set_cons_zero]
  refine wpOrd_yield (v := .bool true) rfl (fun u hu => by go_simp) ?_
  simp only [Act.put, List.setIfInBounds_toArray, List.set_cons_succ, List.set_cons_zero]
  refine wpOrd_move rfl _ rfl ?_
  simp only [Act.put, List.setIfInBounds_toArray, List.set_cons_succ, List.set_cons_zero]
  refine wpOrd_move rfl _ rfl ?_
  simp only [Act.put, List.setIfInBounds_toArray, List.set_cons_succ, List.set_cons_zero]
  refine wpOrd_makes (v := .slice (some ⟨X3.heap.size, 0, none⟩) 3 3) (w' := X3.alloc (.cells #[.int .i64 2, .int .i64 3, .int .i64 4] 3)) rfl (by go_simp) (below3 hX3 (below_new _ _)) ?_
  simp only [Act.put, List.setIfInBounds_toArray, List.set_cons_succ, List.set_cons_zero]
  have hn3 : IntsAt (X3.alloc (.cells #[.int .i64 2, .int .i64 3, .int .i64 4] 3)) (some ⟨X3.heap.size, 0, none⟩) [2, 3, 4] := ints_new3 X3
  refine wpOrd_call rfl 29 _ _ rfl Try.call29 [.slice p9 3 c9, .slice (some ⟨X3.heap.size, 0, none⟩) 3 3] rfl ?_
  refine (sameInts_any [2, 3, 4] [2, 3, 4] p9 (some ⟨X3.heap.size, 0, none⟩) c9 3 _ (by decide) (sP _ (below3 hX3 (below_new _ _))) hn3).mono ?_
  rintro e X4 ⟨rfl, hx4⟩
  have hX4 : Below W9.heap.size W9 X4 := below3 (below3 hX3 (below_new _ _)) hx4
  refine ⟨_, rfl, hX4, ?_⟩
  simp only [Act.put, List.setIfInBounds_toArray, List.set_cons_succ, List.set_cons_zero]
  refine wpOrd_yield (v := .bool true) rfl (fun u hu => by go_simp) ?_
  simp only [Act.put, List.setIfInBounds_toArray, List.set_cons_succ, List.set_cons_zero]
  refine wpOrd_move rfl _ rfl ?_
  simp only [Act.put, List.setIfInBounds_toArray, List.set_cons_succ, List.set_cons_zero]
  refine wpOrd_yield (v := .agg #[.int .i64 4, .slice none 0 0]) rfl (fun u hu => by have := sI0 u hu; have := sI1 u hu; go_simp) ?_
  simp only [Act.put, List.setIfInBounds_toArray, List.set_cons_succ, List.set_cons_zero]
  refine wpOrd_call rfl 22 _ _ rfl Try.call22 [.agg #[.int .i64 4, .slice none 0 0]] rfl ?_
  refine (whole_any 4 [] none 0 _ (by decide) (fun h => by simp at h)).mono ?_
  rintro e X5 ⟨rfl, hx5⟩
  have hX5 : Below W9.heap.size W9 X5 := below3 hX4 hx5
  refine ⟨_, rfl, hX5, ?_⟩
  rw [show wholeE 4 [] = 0 from rfl]
  simp only [Act.put, List.setIfInBounds_toArray, List.set_cons_succ, List.set_cons_zero]
  refine wpOrd_yield (v := .bool true) rfl (fun u hu => by go_simp) ?_
  simp only [Act.put, List.setIfInBounds_toArray, List.set_cons_succ, List.set_cons_zero]
  refine wpOrd_yield (v := .bool true) rfl (fun u hu => by go_simp) ?_
  simp only [Act.put, List.setIfInBounds_toArray, List.set_cons_succ, List.set_cons_zero]
  refine wpOrd_move rfl _ rfl ?_
  simp only [Act.put, List.setIfInBounds_toArray, List.set_cons_succ, List.set_cons_zero]
  refine wpOrd_yield (v := .agg #[.int .i64 0, .slice none 0 0]) rfl (fun u hu => by go_simp) ?_
  simp only [Act.put, List.setIfInBounds_toArray, List.set_cons_succ, List.set_cons_zero]
  refine wpOrd_call rfl 22 _ _ rfl Try.call22 [.agg #[.int .i64 0, .slice none 0 0]] rfl ?_
  refine (whole_any 0 [] none 0 _ (by decide) (fun h => by simp at h)).mono ?_
  rintro e X6 ⟨rfl, hx6⟩
  have hX6 : Below W9.heap.size W9 X6 := below3 hX5 hx6
  refine ⟨_, rfl, hX6, ?_⟩
  rw [show wholeE 0 [] = 2 from rfl]
  simp only [Act.put, List.setIfInBounds_toArray, List.set_cons_succ, List.set_cons_zero]
  refine wpOrd_yield (v := .bool true) rfl (fun u hu => by go_simp) ?_
  simp only [Act.put, List.setIfInBounds_toArray, List.set_cons_succ, List.set_cons_zero]
  refine wpOrd_yield (v := .bool true) rfl (fun u hu => by go_simp) ?_
  simp only [Act.put, List.setIfInBounds_toArray, List.set_cons_succ, List.set_cons_zero]
  refine wpOrd_yield (v := .bool true) rfl (fun u hu => by go_simp) ?_
  simp only [Act.put, List.setIfInBounds_toArray, List.set_cons_zero]
  refine wpOrd_nil ?_
  go_wp2
  go_ret
  exact ⟨rfl, below3 hB9 hX6⟩
end Go.Proofs.Ytbnbbelkddbndaa
