/- The law's own lives, closed: its first and third examples; no condition. -/
import Derived.Test.YtichojdcoegboaaGreatK37
namespace Go.Proofs.YtichojdcoegboaaGreatW
open Go.RowKit Go.Maps
section
variable {w W : World} {g d c mb : Nat} {v : Value} {x : LSt} {s : CSt} {t : St} {os ks : List (Nat × Obj)} {base : Nat} {book : Int → Nat → Int}
theorem where0 (b l i : Int) (w : World) : Calls Tryz.prog 18 #[H.geoV b l i, .int .i64 0] w fun e w' => e = .returned (H.ofV b l i) ∧ Below w.heap.size w w' := by
 obtain ⟨x0, x1, x2, x3, x4, x5, x6, x7, x8, hv, _⟩ := nine_of b l i
 have hc := fun w => H.refOf_any b l i w
 rw [hv] at hc ⊢
 exact where_0 b l i 0 hc (by omega) w
theorem LogI.made (h : LogI w W g d x t book ks) : Calls Tryz.prog 25 #[.pointer (some ⟨d, 0, none⟩)] W fun e W' => e = .returned (.int .i64 t.made) ∧ LogI w W' g d x t book ks := by
 have H0 := Hid.mk' h
 obtain ⟨s, ⟨c, mb, v, os, h⟩, hI⟩ := h
 obtain ⟨K, L, _, rfl, hS⟩ := h.sit
 exact (made_of hS.cd.disk).mono fun _ _ ⟨a, b⟩ => ⟨a, by rw [b]; exact H0.out⟩
set_option maxRecDepth 20000 in
set_option maxHeartbeats 20000000 in
theorem lives_any (w : World) : Calls Tryz.prog 4 #[] w fun e w' => e = .returned (.bool true) ∧ Below w.heap.size w w' := by
 have z25 := zero25
 have HDN := Hid.mk' (sits_new (n := 60) (w := w) (ks := [(w.heap.size, .cells #[.int .i64 60, .int .i64 32, .int .i64 5] 26)]) rfl (below_new w (.cells #[.int .i64 60, .int .i64 32, .int .i64 5] 26)) geo_ks)
 go_enter Tryz.func4, Tryz.ntmps4
 go_wp2_with (go_at_call 16; fail)
 refine HDN.out.mono ?_
 rintro e W1 ⟨d, rfl, h1⟩
 have c0 : W1.cell? ⟨w.heap.size, 0, none⟩ = some (.int .i64 60) := Joins.cell_of_block (h1.blk (List.mem_cons_self ..)) 0
 have c1 : W1.cell? ⟨w.heap.size, 1, none⟩ = some (.int .i64 32) := Joins.cell_of_block (h1.blk (List.mem_cons_self ..)) 1
 have c2 : W1.cell? ⟨w.heap.size, 2, none⟩ = some (.int .i64 5) := Joins.cell_of_block (h1.blk (List.mem_cons_self ..)) 2
 have H1 := Hid.mk' (h1.drop (ks' := []) fun p hp => by simp at hp)
 clear h1 HDN
 go_wp2_with (go_at_call 18; fail)
 refine (where0 60 32 5 W1).mono ?_
 rintro e W2 ⟨rfl, hb2⟩
 rw [lOf]
 have H2 := Hid.mk' (H1.out.later hb2)
 clear H1 hb2 c0 c1 c2
 have HN : Hid (Calls Tryz.prog 17 #[.pointer (some ⟨d, 0, none⟩), .agg (layA 60 32 5)] W2 fun e W' => ∃ g, e = .returned (.tuple #[.pointer (some ⟨g, 0, none⟩), .int .i64 0]) ∧ LogI w W' g d lx0 lt0 lb0 []) := newL_ok H2.out lFine (by show (60 : Int) ≤ 60; omega) rfl (by refine ⟨?_, ?_, ?_, ?_⟩ <;> decide) (tg_new (by omega)).1 (tg_new (by omega)).2
 generalize layA 60 32 5 = LL at HN ⊢
 go_wp2_with (go_at_call 17; fail)
 refine HN.out.mono ?_
 rintro e W3 ⟨g, rfl, h3⟩
 have H3 := Hid.mk' h3
 clear h3 H2 HN
 have HC4 : Hid (Calls Tryz.prog 19 #[.pointer (some ⟨g, 0, none⟩), .int .i64 23] W3 fun e W' => e = .returned (.int .i64 0) ∧ LogI w W' g d lx1 lt0 lb0 []) := LogI.begin H3.out (refL_of lt0_live rfl rfl) (by omega) (by decide)
 go_wp2_with (go_at_call 19; fail)
 refine HC4.out.mono ?_
 rintro e W4 ⟨rfl, h4⟩
 have H4 := Hid.mk' h4
 clear h4 HC4 H3
 have HC5 : Hid (Calls Tryz.prog 21 #[.int .u8 4] W4 fun e W' => e = .returned (.agg (blk (blkF 4))) ∧ LogI w W' g d lx1 lt0 lb0 []) := (block_any 4 (by omega) W4).mono fun e W' ⟨q1, q2⟩ => ⟨q1, (H4.out).later q2⟩
 go_wp2_with (go_at_call 21; fail)
 refine HC5.out.mono ?_
 rintro e W5 ⟨rfl, h5⟩
 have H5 := Hid.mk' h5
 clear h5 HC5 H4
 have HC6 : Hid (Calls Tryz.prog 20 #[.pointer (some ⟨g, 0, none⟩), .int .i64 40, .agg (blk (blkF 4))] W5 fun e W' => e = .returned (.int .i64 0) ∧ LogI w W' g d lx2 lt0 lb1 []) := LogI.write H5.out (blkF_can (by omega)) (refL_of lt0_live rfl rfl) (by decide) rfl (by decide)
 go_wp2_with (go_at_call 20; fail)
 refine HC6.out.mono ?_
 rintro e W6 ⟨rfl, h6⟩
 have H6 := Hid.mk' h6
 clear h6 HC6 H5
 have HC7 : Hid (Calls Tryz.prog 21 #[.int .u8 6] W6 fun e W' => e = .returned (.agg (blk (blkF 6))) ∧ LogI w W' g d lx2 lt0 lb1 []) := (block_any 6 (by omega) W6).mono fun e W' ⟨q1, q2⟩ => ⟨q1, (H6.out).later q2⟩
 go_wp2_with (go_at_call 21; fail)
 refine HC7.out.mono ?_
 rintro e W7 ⟨rfl, h7⟩
 have H7 := Hid.mk' h7
 clear h7 HC7 H6
 have HC8 : Hid (Calls Tryz.prog 20 #[.pointer (some ⟨g, 0, none⟩), .int .i64 41, .agg (blk (blkF 6))] W7 fun e W' => e = .returned (.int .i64 0) ∧ LogI w W' g d lx3 lt0 lb2 []) := LogI.write H7.out (blkF_can (by omega)) (refL_of lt0_live rfl rfl) (by decide) rfl (by decide)
 go_wp2_with (go_at_call 20; fail)
 refine HC8.out.mono ?_
 rintro e W8 ⟨rfl, h8⟩
 have H8 := Hid.mk' h8
 clear h8 HC8 H7
 have HC9 : Hid (Calls Tryz.prog 21 #[.int .u8 8] W8 fun e W' => e = .returned (.agg (blk (blkF 8))) ∧ LogI w W' g d lx3 lt0 lb2 []) := (block_any 8 (by omega) W8).mono fun e W' ⟨q1, q2⟩ => ⟨q1, (H8.out).later q2⟩
 go_wp2_with (go_at_call 21; fail)
 refine HC9.out.mono ?_
 rintro e W9 ⟨rfl, h9⟩
 have H9 := Hid.mk' h9
 clear h9 HC9 H8
 have HC10 : Hid (Calls Tryz.prog 20 #[.pointer (some ⟨g, 0, none⟩), .int .i64 40, .agg (blk (blkF 8))] W9 fun e W' => e = .returned (.int .i64 0) ∧ LogI w W' g d lx3 lt0 lb3 []) := LogI.rewrite H9.out (blkF_can (by omega)) (refL_of lt0_live rfl rfl) (by decide) rfl
 go_wp2_with (go_at_call 20; fail)
 refine HC10.out.mono ?_
 rintro e W10 ⟨rfl, h10⟩
 have H10 := Hid.mk' h10
 clear h10 HC10 H9
 have HC11 : Hid (Calls Tryz.prog 22 #[.pointer (some ⟨g, 0, none⟩)] W10 fun e W' => e = .returned (.int .i64 0) ∧ LogI w W' g d lx4 lt0 lb3 []) := LogI.ends H10.out (refL_of lt0_live rfl rfl) (by decide)
 go_wp2_with (go_at_call 22; fail)
 refine HC11.out.mono ?_
 rintro e W11 ⟨rfl, h11⟩
 have H11 := Hid.mk' h11
 clear h11 HC11 H10
 have HC12 : Hid (Calls Tryz.prog 23 #[.pointer (some ⟨g, 0, none⟩)] W11 fun e W' => e = .returned (.int .i64 2) ∧ LogI w W' g d lx4 lt0 lb3 []) := LogI.used H11.out (chk_of lt0_live rfl)
 go_wp2_with (go_at_call 23; fail)
 refine HC12.out.mono ?_
 rintro e W12 ⟨rfl, h12⟩
 have H12 := Hid.mk' h12
 clear h12 HC12 H11
 have HC13 : Hid (Calls Tryz.prog 24 #[.pointer (some ⟨g, 0, none⟩)] W12 fun e W' => e = .returned (.int .i64 1) ∧ LogI w W' g d lx4 lt0 lb3 []) := LogI.steps H12.out (chk_of lt0_live rfl)
 go_wp2_with (go_at_call 24; fail)
 refine HC13.out.mono ?_
 rintro e W13 ⟨rfl, h13⟩
 have H13 := Hid.mk' h13
 clear h13 HC13 H12
 have HC14 : Hid (Calls Tryz.prog 25 #[.pointer (some ⟨d, 0, none⟩)] W13 fun e W' => e = .returned (.int .i64 0) ∧ LogI w W' g d lx4 lt0 lb3 []) := LogI.made H13.out
 go_wp2_with (go_at_call 25; fail)
 refine HC14.out.mono ?_
 rintro e W14 ⟨rfl, h14⟩
 have H14 := Hid.mk' h14
 clear h14 HC14 H13
 have HC15 : Hid (Calls Tryz.prog 26 #[.pointer (some ⟨g, 0, none⟩)] W14 fun e W' => e = .returned (.int .i64 0) ∧ ∃ t', LogI w W' g d lx5 t' lb3 [] ∧ t'.made = 10 ∧ t'.stopped = false ∧ t'.claims = 1 ∧ t'.claimed = true ∧ t'.n = 60 ∧ t'.reads = 1 ∧ t'.ops.length ≤ 10) := (LogI.syncFree H14.out (refL_of lt0_live rfl rfl) (by decide) (lRm0 _ (by decide)) (by decide) rfl).mono fun e W' ⟨q, t', a1, a2, a3, a4, a5, a6, a7, a8, a9⟩ => ⟨q, t', a1, a2, a4, a5, a6, a7, a8, a9⟩
 go_wp2_with (go_at_call 26; fail)
 refine HC15.out.mono ?_
 rintro e W15 ⟨rfl, t1, h15, hmade, hstop, hcl, hcld, hn, hrd, hops⟩
 have H15 := Hid.mk' h15
 have hlive := live_of hstop hcl hcld
 have HR : Hid (claimedV t1 1 = true ∧ t1.stopped = false ∧ t1.n = 60 ∧ t1.made = 10 ∧ Room t1) := ⟨hlive, hstop, hn, hmade, ⟨by omega, by omega, by omega, by omega⟩⟩
 clear h15 HC15 H14 hmade hstop hcl hcld hn hrd hops hlive
 have HC16 : Hid (Calls Tryz.prog 25 #[.pointer (some ⟨d, 0, none⟩)] W15 fun e W' => e = .returned (.int .i64 10) ∧ LogI w W' g d lx5 t1 lb3 []) := by have := LogI.made H15.out; rw [HR.out.2.2.2.1] at this; exact this
 go_wp2_with (go_at_call 25; fail)
 refine HC16.out.mono ?_
 rintro e W16 ⟨rfl, h16⟩
 have H16 := Hid.mk' h16
 clear h16 HC16 H15
 have HC17 : Hid (Calls Tryz.prog 27 #[.pointer (some ⟨g, 0, none⟩)] W16 fun e W' => e = .returned (.int .i64 1) ∧ LogI w W' g d lx5 t1 lb3 []) := LogI.commits H16.out (chk_of HR.out.1 rfl)
 go_wp2_with (go_at_call 27; fail)
 refine HC17.out.mono ?_
 rintro e W17 ⟨rfl, h17⟩
 have H17 := Hid.mk' h17
 clear h17 HC17 H16
 have HC18 : Hid (Calls Tryz.prog 23 #[.pointer (some ⟨g, 0, none⟩)] W17 fun e W' => e = .returned (.int .i64 0) ∧ LogI w W' g d lx5 t1 lb3 []) := LogI.used H17.out (chk_of HR.out.1 rfl)
 go_wp2_with (go_at_call 23; fail)
 refine HC18.out.mono ?_
 rintro e W18 ⟨rfl, h18⟩
 have H18 := Hid.mk' h18
 clear h18 HC18 H17
 have HC19 : Hid (Calls Tryz.prog 28 #[.pointer (some ⟨d, 0, none⟩), .int .i64 40] W18 fun e W' => e = .returned (.tuple #[.agg (blk (blkF 8)), .int .i64 0]) ∧ LogI w W' g d lx5 (readS t1) lb3 []) := by
  have q := LogI.dread H18.out HR.out.2.1 HR.out.2.2.2.2 (k := 40) ⟨by omega, by rw [HR.out.2.2.1]; omega⟩
  rw [LogI.cur H18.out (k := 40) ⟨by decide, by decide⟩ (by decide)] at q
  exact q
 go_wp2_with (go_at_call 28; fail)
 refine HC19.out.mono ?_
 rintro e W19 ⟨rfl, h19⟩
 have H19 := Hid.mk' (h19.add (.cells (blk (blkF 8)) 64))
 have HR2 : Hid (claimedV (readS t1) 1 = true) := HR.out.1
 clear h19 HC19 H18 HR
 go_wp2_with (first | refine wpList_store25_new rfl (.tmp 8) (.tmp 97) rfl (blkF 8) _ rfl rfl ?_ | (go_at_call 19; fail))
 generalize hgB : W19.heap.size = gB at H19 ⊢
 generalize W19.alloc (.cells (blk (blkF 8)) 64) = W19a at H19 ⊢
 clear hgB
 generalize readS t1 = t2 at *
 have HC20 : Hid (Calls Tryz.prog 19 #[.pointer (some ⟨g, 0, none⟩), .int .i64 1] W19a fun e W' => e = .returned (.int .i64 0) ∧ LogI w W' g d lx6 t2 lb3 [(gB, .cells (blk (blkF 8)) 64)]) := LogI.begin H19.out (refL_of HR2.out rfl rfl) (by omega) (by decide)
 go_wp2_with (go_at_call 19; fail)
 refine HC20.out.mono ?_
 rintro e W20 ⟨rfl, h20⟩
 have H20 := Hid.mk' h20
 clear h20 HC20 H19
 have HC21 : Hid (Calls Tryz.prog 21 #[.int .u8 2] W20 fun e W' => e = .returned (.agg (blk (blkF 2))) ∧ LogI w W' g d lx6 t2 lb3 [(gB, .cells (blk (blkF 8)) 64)]) := (block_any 2 (by omega) W20).mono fun e W' ⟨q1, q2⟩ => ⟨q1, (H20.out).later q2⟩
 go_wp2_with (go_at_call 21; fail)
 refine HC21.out.mono ?_
 rintro e W21 ⟨rfl, h21⟩
 have H21 := Hid.mk' h21
 clear h21 HC21 H20
 have HC22 : Hid (Calls Tryz.prog 20 #[.pointer (some ⟨g, 0, none⟩), .int .i64 50, .agg (blk (blkF 2))] W21 fun e W' => e = .returned (.int .i64 0) ∧ LogI w W' g d lx7 t2 lb4 [(gB, .cells (blk (blkF 8)) 64)]) := LogI.write H21.out (blkF_can (by omega)) (refL_of HR2.out rfl rfl) (by decide) rfl (by decide)
 go_wp2_with (go_at_call 20; fail)
 refine HC22.out.mono ?_
 rintro e W22 ⟨rfl, h22⟩
 have H22 := Hid.mk' h22
 clear h22 HC22 H21
 have HC23 : Hid (Calls Tryz.prog 21 #[.int .u8 2] W22 fun e W' => e = .returned (.agg (blk (blkF 2))) ∧ LogI w W' g d lx7 t2 lb4 [(gB, .cells (blk (blkF 8)) 64)]) := (block_any 2 (by omega) W22).mono fun e W' ⟨q1, q2⟩ => ⟨q1, (H22.out).later q2⟩
 go_wp2_with (go_at_call 21; fail)
 refine HC23.out.mono ?_
 rintro e W23 ⟨rfl, h23⟩
 have H23 := Hid.mk' h23
 clear h23 HC23 H22
 have HC24 : Hid (Calls Tryz.prog 20 #[.pointer (some ⟨g, 0, none⟩), .int .i64 51, .agg (blk (blkF 2))] W23 fun e W' => e = .returned (.int .i64 181) ∧ LogI w W' g d lx7 t2 lb4 [(gB, .cells (blk (blkF 8)) 64)]) := by obtain ⟨s, q1, q2⟩ := H23.out; exact (writeL_tight q1 (refL_of HR2.out rfl rfl) (by decide) (by decide) (by decide) rfl rfl).mono fun e W' ⟨a1, a2⟩ => ⟨a1, s, a2, q2⟩
 go_wp2_with (go_at_call 20; fail)
 refine HC24.out.mono ?_
 rintro e W24 ⟨rfl, h24⟩
 have H24 := Hid.mk' h24
 clear h24 HC24 H23
 have HC25 : Hid (Calls Tryz.prog 22 #[.pointer (some ⟨g, 0, none⟩)] W24 fun e W' => e = .returned (.int .i64 0) ∧ LogI w W' g d lx8 t2 lb4 [(gB, .cells (blk (blkF 8)) 64)]) := LogI.ends H24.out (refL_of HR2.out rfl rfl) (by decide)
 go_wp2_with (go_at_call 22; fail)
 refine HC25.out.mono ?_
 rintro e W25 ⟨rfl, h25⟩
 have H25 := Hid.mk' h25
 clear h25 HC25 H24
 go_wp2
 have hS8 := H25.out.obj (List.mem_cons_self ..)
 refine wp_region_ord (S := fun u => u.heap[gB]? = some (.cells (blk (blkF 8)) 64)) [(0, true), (1, true), (2, true), (3, true), (4, true), (5, true), (6, true), (7, true), (8, true), (9, true), (10, true), (11, true), (12, true), (13, false), (14, true), (15, true), (16, true), (17, true), (18, false), (19, false), (20, true), (21, true), (22, true)]
  (by kernel_rfl) rfl (by kernel_rfl) (fun d _ _ _ _ h => by cases d <;> exact h) hS8 ?_
 simp only [inOrd, List.getElem?_cons_zero, List.getElem?_cons_succ]
 refine wpOrd_move rfl _ rfl ?_
 simp only [Act.put, pA, pB, pC]
 refine wpOrd_move rfl _ rfl ?_
 simp only [Act.put, pA, pB, pC]
 refine wpOrd_move rfl _ rfl ?_
 simp only [Act.put, pA, pB, pC]
 refine wpOrd_yield (v := .bool true) rfl (fun u _ => by go_simp) ?_
 simp only [Act.put, pA, pB, pC]
 refine wpOrd_move rfl _ rfl ?_
 simp only [Act.put, pA, pB, pC]
 refine wpOrd_move rfl _ rfl ?_
 simp only [Act.put, pA, pB, pC]
 refine wpOrd_yield (v := .bool true) rfl (fun u _ => by go_simp) ?_
 simp only [Act.put, pA, pB, pC]
 refine wpOrd_move rfl _ rfl ?_
 simp only [Act.put, pA, pB, pC]
 refine wpOrd_move rfl _ rfl ?_
 simp only [Act.put, pA, pB, pC]
 refine wpOrd_yield (v := .bool true) rfl (fun u _ => by go_simp) ?_
 simp only [Act.put, pA, pB, pC]
 refine wpOrd_yield (v := .bool true) rfl (fun u _ => by go_simp) ?_
 simp only [Act.put, pA, pB, pC]
 refine wpOrd_move rfl _ rfl ?_
 simp only [Act.put, pA, pB, pC]
 refine wpOrd_yield (v := .agg (blk (blkF 8))) rfl (fun u hu => H.exec_loadB rfl gB (blkF 8) rfl hu) ?_
 simp only [Act.put, pA, pB, pC]
 refine wpOrd_call rfl 21 _ _ rfl Tryz.call21 [.int .u8 8] rfl ?_
 refine (block_any 8 (by omega) _).mono ?_
 rintro e X1 ⟨rfl, hx1⟩
 have HX1 := Hid.mk' (H25.out.later (below_next (H.drew_below W25) hx1))
 refine ⟨_, rfl, HX1.out.obj (List.mem_cons_self ..), ?_⟩
 simp only [Act.put, pA, pB, pC]
 refine wpOrd_yield (v := .bool true) rfl (fun u _ => exec_eqB rfl rfl rfl u) ?_
 simp only [Act.put, pA, pB, pC]
 refine wpOrd_yield (v := .bool true) rfl (fun u _ => by go_simp) ?_
 simp only [Act.put, pA, pB, pC]
 refine wpOrd_move rfl _ rfl ?_
 simp only [Act.put, pA, pB, pC]
 refine wpOrd_move rfl _ rfl ?_
 simp only [Act.put, pA, pB, pC]
 refine wpOrd_call rfl 21 _ _ rfl Tryz.call21 [.int .u8 2] rfl ?_
 refine (block_any 2 (by omega) _).mono ?_
 rintro e X2 ⟨rfl, hx2⟩
 have HX2 := Hid.mk' (HX1.out.later hx2)
 refine ⟨_, rfl, HX2.out.obj (List.mem_cons_self ..), ?_⟩
 simp only [Act.put, pA, pB, pC]
 have HW3 : Hid (Calls Tryz.prog 20 #[.pointer (some ⟨g, 0, none⟩), .int .i64 50, .agg (blk (blkF 2))] X2 fun e W' => e = .returned (.int .i64 180) ∧ LogI w W' g d lx8 t2 lb4 [(gB, .cells (blk (blkF 8)) 64)]) := by obtain ⟨s, q1, q2⟩ := HX2.out; exact (writeL_ref q1 (refL_step HR2.out rfl (by decide)) (by omega)).mono fun e W' ⟨a1, a2⟩ => ⟨a1, s, a2, q2⟩
 refine wpOrd_call rfl 20 _ _ rfl Tryz.call20 [.pointer (some ⟨g, 0, none⟩), .int .i64 50, .agg (blk (blkF 2))] rfl ?_
 refine HW3.out.mono ?_
 rintro e X3 ⟨rfl, h3⟩
 have HX3 := Hid.mk' h3
 refine ⟨_, rfl, h3.obj (List.mem_cons_self ..), ?_⟩
 clear h3
 simp only [Act.put, pA, pB, pC]
 refine wpOrd_yield (v := .bool true) rfl (fun u _ => by go_simp) ?_
 simp only [Act.put, pA, pB, pC]
 refine wpOrd_yield (v := .bool true) rfl (fun u _ => by go_simp) ?_
 simp only [Act.put, pA, pB, pC]
 refine wpOrd_yield (v := .bool true) rfl (fun u _ => by go_simp) ?_
 refine wpOrd_nil ?_
 simp only [Act.put, List.setIfInBounds_toArray, List.set_cons_zero]
 go_wp2
 go_ret
 exact ⟨rfl, HX3.out.below⟩
end
end Go.Proofs.YtichojdcoegboaaGreatW
