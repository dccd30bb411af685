/- ShapeNames's walk: the call, which takes nothing, answers true and turns nothing that was there. -/
import Derived.Test.YtmblppgmfgjbpaaLawSide
namespace Go.Proofs.Ytmblppgmfgjbpaa
open Go.RowKit

theorem wpList_store25N {ops : Array Oper} {rest : List Oper} {o : Oper} {a : Act} {w : World} {Q : Exit → Act → World → Prop} (hgd : o.guard = none) (x y : Operand) (ho : o.op = .store 35 x y)
    (f f0 : Nat → Int) (g : Nat) (hx : a.eval x = .pointer (some ⟨g, 0, none⟩)) (hg : g = w.heap.size) (hy : a.eval y = .agg (blk f))
    (h : wpList Try.prog ops Q rest (a.put o.dst undef) (w.alloc (.cells (blk f) 35))) : wpList Try.prog ops Q (o :: rest) a (w.alloc (.cells (blk f0) 35)) := by
  subst hg
  exact wpList_store25_new hgd x y ho f f0 hx hy h
theorem numN_upd (f : Nat → Int) (j : Nat) (x : Int) : ∀ m k : Nat, k + m ≤ j → numN (upd f j x) k m = numN f k m
  | 0, _, _ => rfl
  | m + 1, k, h => by
    show upd f j x k + 256 * numN (upd f j x) (k + 1) m = f k + 256 * numN f (k + 1) m
    rw [numN_upd f j x m (k + 1) (by omega)]
    unfold upd
    rw [if_neg (by omega)]
theorem decode_touched {b l i : Int} (h : Fine b l i) (n : Int) (j : Nat) (x : Int) (hj : 20 ≤ j) (hj1 : j < 1024) (hx : 0 ≤ x ∧ x ≤ 255) (hne : superF b l i j ≠ x) (w : World) :
    Calls Try.prog 16 #[.agg (blk (upd (superF b l i) j x)), .int .i64 n] w fun e w' => e = .returned (.tuple #[layZ, .int .i64 4]) ∧ Below w.heap.size w w' := by
  have hby : Byte (upd (superF b l i) j x) := fun q => by
    unfold upd
    split
    · exact hx
    · exact byte_super b l i q
  have hc := decode_any _ hby n w
  obtain ⟨h0, h1, h2⟩ := super_nums h
  have hd : decB (upd (superF b l i) j x) n = false := by
    unfold decB
    rw [numN_upd _ _ _ _ _ (by omega), numN_upd _ _ _ _ _ (by omega), numN_upd _ _ _ _ _ (by omega), h0, h1, h2]
    have : sameB (superF b l i) (upd (superF b l i) j x) = false := by
      cases hs : sameB (superF b l i) (upd (superF b l i) j x)
      · rfl
      · have := (sameB_iff _ _).1 hs j hj1
        unfold upd at this
        rw [if_pos rfl] at this
        exact absurd this hne
    rw [this, Bool.and_false]
  rw [show decV (upd (superF b l i) j x) n = layZ by unfold decV; rw [if_neg (by rw [hd]; decide)], show decE (upd (superF b l i) j x) n = 4 by unfold decE; rw [if_neg (by rw [hd]; decide)]] at hc
  exact hc
theorem of_yes {b l i : Int} (h : Fine b l i) (w : World) : Calls Try.prog 9 #[geoV b l i] w fun e w' => e = .returned (.tuple #[layV b l i, .int .i64 0]) ∧ Below w.heap.size w w' := by
  have hof := of_any b l i w (by have := h.pos; have := h.2.2.2.2.1; unfold I64; omega)
  rw [show ofV b l i = layV b l i from if_pos h, show ofE b l i = 0 from if_pos h] at hof
  exact hof
theorem of_no {b l i : Int} (hb : I64 b) (h : ¬ Fine b l i) (w : World) : Calls Try.prog 9 #[geoV b l i] w fun e w' => e = .returned (.tuple #[layZ, .int .i64 2]) ∧ Below w.heap.size w w' := by
  have hof := of_any b l i w hb
  rw [show ofV b l i = layZ from if_neg h, show ofE b l i = 2 from if_neg h] at hof
  exact hof

set_option maxRecDepth 20000 in
set_option maxHeartbeats 4000000 in
theorem law_names (w : World) : Calls Try.prog 6 #[] w fun e w' => e = .returned (.bool true) ∧ Below w.heap.size w w' := by
  have o1 := fun w => of_yes (show Fine 36 32 15 by decide) w
  have o2 := fun w => of_no (b := 35) (l := 32) (i := 15) (by unfold I64; omega) (by decide) w
  have o3 := fun w => of_yes (show Fine 1048576 256 65535 by decide) w
  have o4 := fun w => of_no (b := 1048577) (l := 256) (i := 65535) (by unfold I64; omega) (by decide) w
  have o5 := fun w => of_no (b := -1) (l := 32) (i := 1) (by unfold I64; omega) (by decide) w
  have o6 := fun w => of_yes fine_small w
  have henc := fun w => encode_fine 400 32 60 w fine_small
  have d1 := fun w => decode_short fine_small 399 (by omega) w
  have d2 := fun w => decode_touched fine_small 400 44 1 (by omega) (by omega) (by omega) (by decide) w
  have d3 := fun w => decode_touched fine_small 400 40 39 (by omega) (by omega) (by omega) (by decide) w
  have w1 := fun w => where_reg fine_small 36 w
  have w2 := fun w => where_reg fine_small 37 w
  have w3 := fun w => where_reg fine_small 400 w
  rw [show regN 400 (1 + 32) (bitsAt 32 60) (dataAt 400 32 60) 36 = 3 by decide] at w1
  rw [show regN 400 (1 + 32) (bitsAt 32 60) (dataAt 400 32 60) 37 = 4 by decide] at w2
  rw [show regN 400 (1 + 32) (bitsAt 32 60) (dataAt 400 32 60) 400 = 0 by decide] at w3
  rw [show lay9 400 32 60 1 (1 + 32) (nodeB 60) (bitsAt 32 60) (bitsB 400) (dataAt 400 32 60) = #[.int .i64 400, .int .i64 32, .int .i64 60, .int .i64 1, .int .i64 33, .int .i64 4, .int .i64 37, .int .i64 1, .int .i64 38] by rfl] at w1 w2 w3
  rw [show layV 400 32 60 = .agg #[.int .i64 400, .int .i64 32, .int .i64 60, .int .i64 1, .int .i64 33, .int .i64 4, .int .i64 37, .int .i64 1, .int .i64 38] by rfl] at o6 henc
  rw [show layV 36 32 15 = .agg #[.int .i64 36, .int .i64 32, .int .i64 15, .int .i64 1, .int .i64 33, .int .i64 1, .int .i64 34, .int .i64 1, .int .i64 35] by rfl] at o1
  rw [show layV 1048576 256 65535 = .agg #[.int .i64 1048576, .int .i64 256, .int .i64 65535, .int .i64 1, .int .i64 257, .int .i64 4096, .int .i64 4353, .int .i64 128, .int .i64 4481] by rfl] at o3
  rw [show layZ = .agg #[.int .i64 0, .int .i64 0, .int .i64 0, .int .i64 0, .int .i64 0, .int .i64 0, .int .i64 0, .int .i64 0, .int .i64 0] by rfl] at o2 o4 o5 d1 d2 d3
  generalize superF 400 32 60 = F at *
  have z25 := zero25
  have hsm := small_any
  unfold geoV at *
  go_enter Try.func6, Try.ntmps6
  go_wp2_with (first | (go_at_call 9; fail))
  refine (o1 _).mono ?_
  rintro e W1 ⟨rfl, hb1⟩
  have HB1 : Hid (Below w.heap.size w W1) := hb1
  clear hb1 o1
  go_wp2_with (first | (go_at_call 9; fail))
  refine (o2 _).mono ?_
  rintro e W2 ⟨rfl, hb2⟩
  have x2 := heap_kept (heap_alloc_new W1 _) hb2
  have HB2 : Hid (Below w.heap.size w W2) := below_next (bel_al HB1.out _) hb2
  clear hb2 o2 HB1
  go_wp2_with (first | (go_at_call 9; fail))
  refine (o3 _).mono ?_
  rintro e W3 ⟨rfl, hb3⟩
  have x3 := heap_kept (heap_kept x2 (below_new _ _)) hb3
  have HB3 : Hid (Below w.heap.size w W3) := below_next (bel_al HB2.out _) hb3
  clear hb3 o3 HB2 x2
  go_wp2_with (first | (go_at_call 9; fail))
  refine (o4 _).mono ?_
  rintro e W4 ⟨rfl, hb4⟩
  have x4 := heap_kept (heap_kept x3 (below_new _ _)) hb4
  have y4 := heap_kept (heap_alloc_new W3 _) hb4
  have HB4 : Hid (Below w.heap.size w W4) := below_next (bel_al HB3.out _) hb4
  clear hb4 o4 HB3 x3
  go_wp2_with (first | (go_at_call 9; fail))
  refine (o5 _).mono ?_
  rintro e W5 ⟨rfl, hb5⟩
  have x5 := heap_kept (heap_kept x4 (below_new _ _)) hb5
  have y5 := heap_kept (heap_kept y4 (below_new _ _)) hb5
  have HB5 : Hid (Below w.heap.size w W5) := below_next (bel_al HB4.out _) hb5
  clear hb5 o5 HB4 x4 y4
  have c1 : W5.cell? ⟨W1.heap.size, 8, none⟩ = some (.int .i64 35) := Joins.cell_of_block x5 8
  have c2 : W5.cell? ⟨W3.heap.size, 5, none⟩ = some (.int .i64 4096) := Joins.cell_of_block y5 5
  have c3 : W5.cell? ⟨W3.heap.size, 8, none⟩ = some (.int .i64 4481) := Joins.cell_of_block y5 8
  have t1 : W1.heap.size < W5.heap.size := (Array.getElem?_eq_some_iff.1 x5).1
  have t3 : W3.heap.size < W5.heap.size := (Array.getElem?_eq_some_iff.1 y5).1
  clear x5 y5
  go_wp2_with (first | (go_at_call 18; refine (hsm _).mono ?_; rintro e w' ⟨rfl, rfl⟩) | (go_at_call 9; fail))
  refine (o6 _).mono ?_
  rintro e W6 ⟨rfl, hb6⟩
  have HB6 : Hid (Below w.heap.size w W6) := below_next (bel_al (bel_al HB5.out _) _) hb6
  clear hb6 o6 HB5 c1 c2 c3 t1 t3
  go_wp2_with (first | (go_at_call 14; fail))
  refine (henc _).mono ?_
  rintro e W7 ⟨rfl, hb7⟩
  have l7 := heap_kept (heap_alloc_new W6 _) hb7
  have HB7 : Hid (Below w.heap.size w W7) := below_next (bel_al HB6.out _) hb7
  have HL : Hid (W6.heap.size < W7.heap.size) := (Array.getElem?_eq_some_iff.1 l7).1
  clear hb7 henc HB6
  go_wp2_with (first | refine wpList_store25_new rfl _ _ rfl _ _ rfl rfl ?_ | refine wpList_load35w rfl _ rfl _ rfl _ (heap_alloc_new _ _) ?_ | (go_at_call 16; fail))
  refine (d1 _).mono ?_
  rintro e W8 ⟨rfl, hb8⟩
  have l8 := heap_kept (heap_kept l7 (below_new _ _)) hb8
  have f8 := heap_kept (heap_alloc_new W7 (.cells (blk F) 35)) hb8
  have HB8 : Hid (Below w.heap.size w W8) := below_next (bel_al HB7.out _) hb8
  clear hb8 d1 HB7 l7
  have hset := blk_set F 44 1
  have hbk := blk_get F 44 (by omega)
  go_wp2_with (first | refine wpList_load35w rfl _ rfl _ rfl _ (heap_kept f8 (below_new _ _)) ?_ | refine wpList_store25N rfl _ _ rfl _ _ _ rfl (by simp) rfl ?_ | refine wpList_load35w rfl _ rfl _ rfl _ (heap_alloc2_new _ _ _) ?_ | (go_at_call 16; fail))
  refine (d2 _).mono ?_
  rintro e W9 ⟨rfl, hb9⟩
  have l9 := heap_kept (heap_kept (heap_kept l8 (below_new _ _)) (below_new _ _)) hb9
  have f9 := heap_kept (heap_kept (heap_kept f8 (below_new _ _)) (below_new _ _)) hb9
  have c9 := heap_kept (heap_alloc2_new W8 _ (.cells (blk (upd F 44 1)) 35)) hb9
  have HB9 : Hid (Below w.heap.size w W9) := below_next (bel_al (bel_al HB8.out _) _) hb9
  have HS9 : Hid (w.heap.size ≤ W8.heap.size) := HB8.out.size
  have HN9 : Hid (W7.heap.size < W8.heap.size) := (Array.getElem?_eq_some_iff.1 f8).1
  clear hb9 d2 HB8 l8 f8 hset hbk
  have c10 := heap_kept c9 (below_new W9 (.cells #[.int .i64 0, .int .i64 0, .int .i64 0, .int .i64 0, .int .i64 0, .int .i64 0, .int .i64 0, .int .i64 0, .int .i64 0] 25))
  have f10 := heap_kept f9 (below_new W9 (.cells #[.int .i64 0, .int .i64 0, .int .i64 0, .int .i64 0, .int .i64 0, .int .i64 0, .int .i64 0, .int .i64 0, .int .i64 0] 25))
  have l10 := heap_kept l9 (below_new W9 (.cells #[.int .i64 0, .int .i64 0, .int .i64 0, .int .i64 0, .int .i64 0, .int .i64 0, .int .i64 0, .int .i64 0, .int .i64 0] 25))
  go_upto_region 15 with (first | refine wpList_load35w rfl _ rfl _ rfl _ f10 ?_ | refine wpList_store25 rfl _ _ rfl _ _ rfl rfl _ c10 ?_)
  have c11 := setRow_heap _ _ _ (blk F) _ _ c10
  have l11 := (setRow_other (W9.alloc (.cells #[.int .i64 0, .int .i64 0, .int .i64 0, .int .i64 0, .int .i64 0, .int .i64 0, .int .i64 0, .int .i64 0, .int .i64 0] 25)) (W8.heap.size + 1) W6.heap.size (blk F) (by have := (Array.getElem?_eq_some_iff.1 l9).1; have h7 := HN9.out; have := HL.out; omega)).trans l10
  have HB11 : Hid (Below w.heap.size w ((W9.alloc (.cells #[.int .i64 0, .int .i64 0, .int .i64 0, .int .i64 0, .int .i64 0, .int .i64 0, .int .i64 0, .int .i64 0, .int .i64 0] 25)).setRow (W8.heap.size + 1) (blk F))) := below_setRow (bel_al HB9.out _) (by have := HS9.out; omega) _
  generalize (W9.alloc (.cells #[.int .i64 0, .int .i64 0, .int .i64 0, .int .i64 0, .int .i64 0, .int .i64 0, .int .i64 0, .int .i64 0, .int .i64 0] 25)).setRow (W8.heap.size + 1) (blk F) = Y at *
  clear c9 f9 l9 c10 f10 l10 HB9
  have hcl : Y.cell? ⟨W8.heap.size + 1, 40, none⟩ = some (.int .u8 (F 40)) := (Joins.cell_of_block c11 40).trans (blk_get F 40 (by omega))
  have hfr : Y.frozen? ⟨W8.heap.size + 1, 40, none⟩ = false := Joins.unfrozen_of_block c11 40
  go_upto_region 16 with fail
  have c12 := Joins.block_setCell (i := 40) c11 (.int .u8 39)
  rw [blk_set] at c12
  have l12 : (Y.setCell ⟨W8.heap.size + 1, 40, none⟩ (.int .u8 39)).heap[W6.heap.size]? = _ := (Deep.blk_setCell_other _ _ _ _ (by show W6.heap.size ≠ W8.heap.size + 1; have := HL.out; have := HN9.out; omega)).trans l11
  have HB12 : Hid (Below w.heap.size w (Y.setCell ⟨W8.heap.size + 1, 40, none⟩ (.int .u8 39))) := HB11.out.setCell (by show w.heap.size ≤ W8.heap.size + 1; have := HS9.out; omega) _
  generalize Y.setCell ⟨W8.heap.size + 1, 40, none⟩ (.int .u8 39) = Z at *
  clear hcl hfr c11 l11 HB11
  go_wp2_with (first | refine wpList_load35w rfl _ rfl _ rfl _ c12 ?_ | (go_at_call 16; fail))
  refine (d3 _).mono ?_
  rintro e W10 ⟨rfl, hb10⟩
  have l13 := heap_kept (heap_kept l12 hb10) (below_new W10 (.cells #[.int .i64 0, .int .i64 0, .int .i64 0, .int .i64 0, .int .i64 0, .int .i64 0, .int .i64 0, .int .i64 0, .int .i64 0] 25))
  have HB13 : Hid (Below w.heap.size w W10) := below_next HB12.out hb10
  clear hb10 d3 HB12 l12 c12
  go_wp2_with (first | (go_at_call 13; fail))
  refine (awake_any _).mono ?_
  rintro e W11 ⟨rfl, hb11⟩
  have l14 := heap_kept l13 hb11
  have HB14 : Hid (Below w.heap.size w W11) := below_next (bel_al HB13.out _) hb11
  clear hb11 HB13 l13
  obtain ⟨k0, k1, k2, k3, k4, k5, k6, k7, k8, t1⟩ := lay_cells (h0 := W6.heap.size) l14
  go_wp2_with (first | (go_at_call 11; fail))
  refine (w1 _).mono ?_
  rintro e W12 ⟨rfl, hb12⟩
  have l15 := heap_kept l14 hb12
  have HB15 : Hid (Below w.heap.size w W12) := below_next HB14.out hb12
  clear hb12 HB14 l14 k0 k1 k2 k3 k4 k5 k6 k7 k8 t1
  obtain ⟨k0, k1, k2, k3, k4, k5, k6, k7, k8, t1⟩ := lay_cells (h0 := W6.heap.size) l15
  go_wp2_with (first | (go_at_call 11; fail))
  refine (w2 _).mono ?_
  rintro e W13 ⟨rfl, hb13⟩
  have l16 := heap_kept l15 hb13
  have HB16 : Hid (Below w.heap.size w W13) := below_next HB15.out hb13
  clear hb13 HB15 l15 k0 k1 k2 k3 k4 k5 k6 k7 k8 t1
  obtain ⟨k0, k1, k2, k3, k4, k5, k6, k7, k8, t1⟩ := lay_cells (h0 := W6.heap.size) l16
  go_wp2_with (first | (go_at_call 11; fail))
  refine (w3 _).mono ?_
  rintro e W14 ⟨rfl, hb14⟩
  have HB17 : Hid (Below w.heap.size w W14) := below_next HB16.out hb14
  clear hb14 HB16 l16 k0 k1 k2 k3 k4 k5 k6 k7 k8 t1
  go_wp2
  go_ret
  exact ⟨rfl, HB17.out⟩
end Go.Proofs.Ytmblppgmfgjbpaa
