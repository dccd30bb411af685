/- ShapeBack's walk: whatever the arguments, the call answers true and turns nothing that was there. -/
import Derived.Test.YtmblppgmfgjbpaaLawLayouts
import Derived.Deep.Cut
import Derived.Deep.CutRange
namespace Go.Proofs.Ytmblppgmfgjbpaa
open Go.RowKit

set_option maxRecDepth 20000 in
set_option maxHeartbeats 2000000 in
theorem law_back (b l i : Int) (hb : I64 b) (f : Nat → Int) (hf : Byte f) (n : Int) (w : World) :
    Calls Try.prog 7 #[geoV b l i, .agg (blk f), .int .i64 n] w fun e w' => e = .returned (.bool true) ∧ Below w.heap.size w w' := by
  have hof := fun w => of_any b l i w hb
  have z25 := zero25
  have HI : Hid (I64 b) := hb
  have HF : Hid (Byte f) := hf
  clear hb hf
  obtain ⟨v0, v1, v2, v3, v4, v5, v6, v7, v8, h0, hv⟩ := ofV_lay b l i HI.out
  have HV : Hid _ := hv
  rw [hv] at hof
  clear hv h0
  obtain ⟨E, hE⟩ : ∃ E, E = ofE b l i := ⟨_, rfl⟩
  rw [← hE] at hof
  have HE : Hid _ := hE
  clear hE
  unfold geoV at *
  go_enter Try.func7, Try.ntmps7
  go_wp2_with (first | (go_at_call 9; fail))
  refine (hof _).mono ?_
  rintro e W1 ⟨rfl, hb1⟩
  have g1 := heap_kept (heap_alloc2_old w _ _) hb1
  have f1 := heap_kept (heap_alloc2_new w _ _) hb1
  have HB1 : Hid (Below w.heap.size w W1) := below_next (bel_al (below_new _ _) _) hb1
  clear hb1 hof
  go_upto_if 24 with fail
  go_cut [] from 9 to 55 (fun wc => wc.heap[w.heap.size + 1]? = some (.cells (blk f) 35) ∧ Below w.heap.size w wc)
  case first =>
    by_cases hfine : Fine b l i
    · obtain rfl : E = 0 := by rw [HE.out]; exact if_pos hfine
      have hv := HV.out
      rw [show ofV b l i = layV b l i from if_pos hfine] at hv
      unfold layV lay9 at hv
      simp only [Value.agg.injEq, Array.mk.injEq, List.cons.injEq, Value.int.injEq, true_and, and_true] at hv
      obtain ⟨rfl, rfl, rfl, rfl, rfl, rfl, rfl, rfl, rfl⟩ := hv
      have henc := fun w => encode_fine b l i w hfine
      have hd1 := fun h w => decode_super hfine n h w
      have hd2 := fun h w => decode_short hfine n h w
      generalize superF b l i = F at *
      unfold layV layZ at *
      unfold lay9 at *
      clear hfine HV HE HF HI
      go_wp2_with (first | (go_at_call 14; fail))
      refine (henc _).mono ?_
      rintro e W2 ⟨rfl, hb2⟩
      have g2 := heap_kept (heap_kept g1 (below_new _ _)) hb2
      have f2 := heap_kept (heap_kept f1 (below_new _ _)) hb2
      have l2 := heap_kept (heap_alloc_new W1 _) hb2
      have HB2 : Hid (Below w.heap.size w W2) := below_next (bel_al HB1.out _) hb2
      clear hb2 henc HB1 g1 f1
      go_wp2_with (first | refine wpList_store25_new rfl _ _ rfl _ _ rfl rfl ?_ | refine wpList_load35w rfl _ rfl _ rfl _ (heap_alloc_new _ _) ?_ | (go_at_call 16; fail))
      by_cases hn : b ≤ n
      · refine (hd1 hn _).mono ?_
        rintro e W3 ⟨rfl, hb3⟩
        have g3 := heap_kept (heap_kept g2 (below_new _ _)) hb3
        have f3 := heap_kept (heap_kept f2 (below_new _ _)) hb3
        have l3 := heap_kept (heap_kept l2 (below_new _ _)) hb3
        have HB3 : Hid (Below w.heap.size w W3) := below_next (bel_al HB2.out _) hb3
        have c0 : W3.cell? ⟨w.heap.size, 0, none⟩ = some (.int .i64 b) := Joins.cell_of_block g3 0
        have t0 : w.heap.size < W3.heap.size := (Array.getElem?_eq_some_iff.1 g3).1
        obtain ⟨k0, k1, k2, k3, k4, k5, k6, k7, k8, t1⟩ := lay_cells (h0 := W1.heap.size) l3
        have HF3 : Hid _ := f3
        clear hb3 hd1 hd2 HB2 g2 f2 l2 g3 f3 l3
        go_wp2
        go_meet
        case rel => exact ⟨heap_kept HF3.out (below_new _ _), bel_al HB3.out _⟩
      · have hn' : n < b := by omega
        refine (hd2 hn' _).mono ?_
        rintro e W3 ⟨rfl, hb3⟩
        have g3 := heap_kept (heap_kept g2 (below_new _ _)) hb3
        have f3 := heap_kept (heap_kept f2 (below_new _ _)) hb3
        have HB3 : Hid (Below w.heap.size w W3) := below_next (bel_al HB2.out _) hb3
        have c0 : W3.cell? ⟨w.heap.size, 0, none⟩ = some (.int .i64 b) := Joins.cell_of_block g3 0
        have t0 : w.heap.size < W3.heap.size := (Array.getElem?_eq_some_iff.1 g3).1
        have HF3 : Hid _ := f3
        clear hb3 hd1 hd2 HB2 g2 f2 l2 g3 f3 hn
        go_wp2
        go_meet
        case rel => exact ⟨heap_kept HF3.out (below_new _ _), bel_al HB3.out _⟩
    · obtain rfl : E = 2 := by rw [HE.out]; exact if_neg hfine
      clear hfine HV HE HF HI g1
      go_wp2
      go_meet
      case rel => exact ⟨heap_kept f1 (below_new _ _), bel_al HB1.out _⟩
  case rest =>
    obtain ⟨f2, hbel⟩ := hcut
    have HB2 : Hid _ := hbel
    clear hbel f1 g1 HB1 HE HV
    have hdec := fun w => decode_any f HF.out n w
    have hq := eq25
    by_cases hD : decB f n = true
    · rw [show decV f n = layV (numN f 8 4) (numN f 12 4) (numN f 16 4) from if_pos hD, show decE f n = 0 from if_pos hD] at hdec
      have hd := hD
      unfold decB at hd
      rw [Bool.and_eq_true] at hd
      obtain ⟨hd1, hd2⟩ := hd
      obtain ⟨hfine, hle⟩ := of_decide_eq_true hd1
      clear hD hd1 HF HI
      generalize numN f 8 4 = x0 at *
      generalize numN f 12 4 = x1 at *
      generalize numN f 16 4 = x2 at *
      have henc := fun w => encode_fine x0 x1 x2 w hfine
      have hof := fun w => of_any x0 x1 x2 w (by have := hfine.pos; have := hfine.2.2.2.2.1; unfold I64; omega)
      rw [show ofV x0 x1 x2 = layV x0 x1 x2 from if_pos hfine, show ofE x0 x1 x2 = 0 from if_pos hfine] at hof
      generalize superF x0 x1 x2 = F at *
      clear hfine
      unfold layV geoV at *
      unfold lay9 at *
      go_wp2_with (first | refine wpList_load35w rfl _ rfl _ rfl _ f2 ?_ | (go_at_call 16; fail))
      refine (hdec _).mono ?_
      rintro e W3 ⟨rfl, hb3⟩
      have f3 := heap_kept f2 hb3
      have HB3 : Hid (Below w.heap.size w W3) := below_next HB2.out hb3
      clear hb3 hdec HB2 f2
      go_wp2_with (first | (go_at_call 14; fail))
      refine (henc _).mono ?_
      rintro e W4 ⟨rfl, hb4⟩
      have f4 := heap_kept (heap_kept f3 (below_new _ _)) hb4
      have l4 := heap_kept (heap_alloc_new W3 _) hb4
      have HB4 : Hid (Below w.heap.size w W4) := below_next (bel_al HB3.out _) hb4
      obtain ⟨k0, k1, k2, k3, k4, k5, k6, k7, k8, t1⟩ := lay_cells (h0 := W3.heap.size) l4
      clear hb4 henc HB3 f3
      go_wp2_with (first | refine wpList_store25_new rfl _ _ rfl _ _ rfl rfl ?_ | (go_at_call 9; fail))
      refine (hof _).mono ?_
      rintro e W5 ⟨rfl, hb5⟩
      have f5 := heap_kept (heap_kept f4 (below_new _ _)) hb5
      have l5 := heap_kept (heap_kept l4 (below_new _ _)) hb5
      have b5 := heap_kept (heap_alloc_new W4 (.cells (blk F) 35)) hb5
      have HB5 : Hid (Below w.heap.size w W5) := below_next (bel_al HB4.out _) hb5
      clear hb5 hof HB4 f4 l4 k0 k1 k2 k3 k4 k5 k6 k7 k8 t1
      obtain ⟨k0, k1, k2, k3, k4, k5, k6, k7, k8, t1⟩ := lay_cells (h0 := W3.heap.size) l5
      have f6 := heap_kept f5 (below_new W5 (.cells #[.int .i64 x0, .int .i64 x1, .int .i64 x2, .int .i64 1, .int .i64 (1 + x1), .int .i64 (nodeB x2), .int .i64 (bitsAt x1 x2), .int .i64 (bitsB x0), .int .i64 (dataAt x0 x1 x2)] 25))
      have b6 := heap_kept b5 (below_new W5 (.cells #[.int .i64 x0, .int .i64 x1, .int .i64 x2, .int .i64 1, .int .i64 (1 + x1), .int .i64 (nodeB x2), .int .i64 (bitsAt x1 x2), .int .i64 (bitsB x0), .int .i64 (dataAt x0 x1 x2)] 25))
      clear f5 b5 l5
      go_wp2_with (first | refine wpList_load35w rfl _ rfl _ rfl _ b6 ?_ | refine wpList_load35w rfl _ rfl _ rfl _ f6 ?_ | (go_at_call 13; fail))
      refine (awake_any _).mono ?_
      rintro e W7 ⟨rfl, hb7⟩
      have HB7 : Hid (Below w.heap.size w W7) := below_next (bel_al HB5.out _) hb7
      clear hb7 HB5 f6 b6 k0 k1 k2 k3 k4 k5 k6 k7 k8 t1
      go_wp2
      go_ret
      exact ⟨rfl, HB7.out⟩
    · rw [show decV f n = layZ from if_neg hD, show decE f n = 4 from if_neg hD] at hdec
      clear hD HF HI
      unfold layZ at *
      unfold lay9 at *
      go_wp2_with (first | refine wpList_load35w rfl _ rfl _ rfl _ f2 ?_ | (go_at_call 16; fail))
      refine (hdec _).mono ?_
      rintro e W3 ⟨rfl, hb3⟩
      have HB3 : Hid (Below w.heap.size w W3) := below_next HB2.out hb3
      clear hb3 hdec HB2 f2
      go_wp2_with (first | (go_at_call 13; fail))
      refine (awake_any _).mono ?_
      rintro e W4 ⟨rfl, hb4⟩
      have HB4 : Hid (Below w.heap.size w W4) := below_next (bel_al HB3.out _) hb4
      clear hb4 HB3
      go_wp2
      go_ret
      exact ⟨rfl, HB4.out⟩
end Go.Proofs.Ytmblppgmfgjbpaa
