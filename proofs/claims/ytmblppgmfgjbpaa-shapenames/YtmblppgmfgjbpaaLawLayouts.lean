/- The walks of ShapeLayouts, ShapeWrites and ShapeReads: whatever the arguments, the call answers true and turns nothing that was there. -/
import Derived.Test.YtmblppgmfgjbpaaAwake
namespace Go.Proofs.Ytmblppgmfgjbpaa
open Go.RowKit

theorem ofV_lay (b l i : Int) (hb : I64 b) : ∃ v0 v1 v2 v3 v4 v5 v6 v7 v8 : Int, I64 v0 ∧ ofV b l i = .agg #[.int .i64 v0, .int .i64 v1, .int .i64 v2, .int .i64 v3, .int .i64 v4, .int .i64 v5, .int .i64 v6, .int .i64 v7, .int .i64 v8] := by
  unfold ofV
  split
  · exact ⟨_, _, _, _, _, _, _, _, _, hb, rfl⟩
  · exact ⟨_, _, _, _, _, _, _, _, _, by unfold I64; omega, rfl⟩
theorem decV_lay (f : Nat → Int) (n : Int) : ∃ v0 v1 v2 v3 v4 v5 v6 v7 v8 : Int, decV f n = .agg #[.int .i64 v0, .int .i64 v1, .int .i64 v2, .int .i64 v3, .int .i64 v4, .int .i64 v5, .int .i64 v6, .int .i64 v7, .int .i64 v8] := by
  unfold decV
  split
  · exact ⟨_, _, _, _, _, _, _, _, _, rfl⟩
  · exact ⟨_, _, _, _, _, _, _, _, _, rfl⟩
theorem whereN_bd (b l i a c d e f g k : Int) : 0 ≤ whereN b l i a c d e f g k ∧ whereN b l i a c d e f g k ≤ 5 := by
  unfold whereN
  (repeat' split) <;> omega

set_option maxRecDepth 20000 in
set_option maxHeartbeats 1000000 in
theorem law_layouts (b l i k : Int) (hb : I64 b) (w : World) :
    Calls Try.prog 3 #[geoV b l i, .int .i64 k] w fun e w' => e = .returned (.bool true) ∧ Below w.heap.size w w' := by
  have hof := fun w => of_any b l i w hb
  have href := fun w => refOf_any b l i w
  obtain ⟨v0, v1, v2, v3, v4, v5, v6, v7, v8, h0, hv⟩ := ofV_lay b l i hb
  rw [hv] at hof href
  generalize ofE b l i = E at *
  have hwh := fun w => where_any v0 v1 v2 v3 v4 v5 v6 v7 v8 k w h0
  have hrw := fun w => refWhere_any v0 v1 v2 v3 v4 v5 v6 v7 v8 k w
  have hbd := whereN_bd v0 v1 v2 v3 v4 v5 v6 v7 v8 k
  generalize whereN v0 v1 v2 v3 v4 v5 v6 v7 v8 k = n at *
  have hwr : IntKind.i64.wrap n = n := by rw [IntKind.wrap_i64]; omega
  clear hv hb h0 hbd
  unfold geoV lay9 at *
  go_enter Try.func3, Try.ntmps3
  go_wp2_with (first | (go_at_call 9; fail))
  refine (hof _).mono ?_
  rintro e W1 ⟨rfl, hb1⟩
  have g1 := heap_kept (heap_alloc_new w _) hb1
  have k0 : W1.cell? ⟨w.heap.size, 0, none⟩ = some (.int .i64 b) := Joins.cell_of_block g1 0
  have k1 : W1.cell? ⟨w.heap.size, 1, none⟩ = some (.int .i64 l) := Joins.cell_of_block g1 1
  have k2 : W1.cell? ⟨w.heap.size, 2, none⟩ = some (.int .i64 i) := Joins.cell_of_block g1 2
  have hlt : w.heap.size < W1.heap.size := (Array.getElem?_eq_some_iff.1 g1).1
  have HB1 : Hid (Below w.heap.size w W1) := below_next (below_new _ _) hb1
  clear hb1 hof g1
  go_wp2_with (first | (go_at_call 10; fail))
  refine (href _).mono ?_
  rintro e W2 ⟨rfl, hb2⟩
  have l2 := heap_kept (heap_alloc_new W1 _) hb2
  have HB2 : Hid (Below w.heap.size w W2) := below_next (bel_al HB1.out _) hb2
  clear hb2 href HB1 k0 k1 k2 hlt
  go_wp2
  have l3 := heap_kept l2 (below_new W2 (.cells #[.int .i64 v0, .int .i64 v1, .int .i64 v2, .int .i64 v3, .int .i64 v4, .int .i64 v5, .int .i64 v6, .int .i64 v7, .int .i64 v8] 25))
  have n3 := heap_alloc_new W2 (.cells #[.int .i64 v0, .int .i64 v1, .int .i64 v2, .int .i64 v3, .int .i64 v4, .int .i64 v5, .int .i64 v6, .int .i64 v7, .int .i64 v8] 25)
  have HB3 : Hid (Below w.heap.size w (W2.alloc (.cells #[.int .i64 v0, .int .i64 v1, .int .i64 v2, .int .i64 v3, .int .i64 v4, .int .i64 v5, .int .i64 v6, .int .i64 v7, .int .i64 v8] 25))) := bel_al HB2.out _
  generalize W2.alloc (.cells #[.int .i64 v0, .int .i64 v1, .int .i64 v2, .int .i64 v3, .int .i64 v4, .int .i64 v5, .int .i64 v6, .int .i64 v7, .int .i64 v8] 25) = W at *
  clear HB2 l2
  have hne := later_some W
  refine wp_region_later (by kernel_rfl) (by kernel_rfl) W (Below.refl _ _) ?_
  repeat (first
    | (go_big_quiet_want; refine quiet_loadL _ rfl _ rfl _ rfl l3 ?_; simp only [Act.put, List.setIfInBounds_toArray, List.set_cons_succ, List.set_cons_zero]; go_big_quiet_on)
    | (go_big_quiet_want; refine quiet_loadL _ rfl _ rfl _ rfl n3 ?_; simp only [Act.put, List.setIfInBounds_toArray, List.set_cons_succ, List.set_cons_zero]; go_big_quiet_on)
    | go_big_quiet_step (first
        | (go_at_call 11; exact Later.call _ (hwh _))
        | (go_at_call 12; exact Later.call _ (hrw _))
        | (go_at_call 13; exact Later.call _ (awake_any _))))
  refine wpQuiet_nil ?_
  rintro _ ⟨y, rfl⟩
  go_wp2
  go_ret
  exact ⟨rfl, below_next HB3.out y.below⟩

set_option maxRecDepth 20000 in
set_option maxHeartbeats 1000000 in
theorem law_writes (b l i a c d e f g k : Int) (hb : I64 b) (w : World) :
    Calls Try.prog 4 #[.agg (lay9 b l i a c d e f g), .int .i64 k] w fun e w' => e = .returned (.bool true) ∧ Below w.heap.size w w' := by
  have hen := fun w => encode_any b l i a c d e f g w hb
  have hre := fun w => refEncode_any b l i a c d e f g w
  generalize encF b l i a c d e f g = F at *
  generalize encE b l i a c d e f g = E at *
  have hwh := fun w => where_any b l i a c d e f g k w hb
  have hrw := fun w => refWhere_any b l i a c d e f g k w
  have hbd := whereN_bd b l i a c d e f g k
  generalize whereN b l i a c d e f g k = n at *
  have hwr : IntKind.i64.wrap n = n := by rw [IntKind.wrap_i64]; omega
  have z25 := zero25
  have hq := eq25
  have hs := sameB_self
  clear hbd
  have hsz : (lay9 b l i a c d e f g).size = 9 := rfl
  generalize lay9 b l i a c d e f g = L at *
  go_enter Try.func4, Try.ntmps4
  go_wp2_with (first | refine wpList_loadL rfl _ rfl _ rfl _ hsz (heap_alloc_new _ _) ?_ | (go_at_call 14; fail))
  refine (hen _).mono ?_
  rintro e W1 ⟨rfl, hb1⟩
  have g1 := heap_kept (heap_alloc_new w _) hb1
  have HB1 : Hid (Below w.heap.size w W1) := below_next (below_new _ _) hb1
  clear hb1 hen
  go_wp2_with (first | refine wpList_store25_new rfl _ _ rfl _ _ rfl rfl ?_ | refine wpList_loadL rfl _ rfl _ rfl _ hsz (heap_kept g1 (below_new _ _)) ?_ | (go_at_call 15; fail))
  refine (hre _).mono ?_
  rintro e W2 ⟨rfl, hb2⟩
  have g2 := heap_kept (heap_kept g1 (below_new _ _)) hb2
  have f2 := heap_kept (heap_alloc_new W1 (.cells (blk F) 35)) hb2
  have HB2 : Hid (Below w.heap.size w W2) := below_next (bel_al HB1.out _) hb2
  clear hb2 hre HB1 g1
  go_wp2_with (first | refine wpList_store25_new rfl _ _ rfl _ _ rfl rfl ?_)
  have g3 := heap_kept g2 (below_new W2 (.cells (blk F) 35))
  have f3 := heap_kept f2 (below_new W2 (.cells (blk F) 35))
  have n3 := heap_alloc_new W2 (.cells (blk F) 35)
  have HB3 : Hid (Below w.heap.size w (W2.alloc (.cells (blk F) 35))) := bel_al HB2.out _
  generalize W2.alloc (.cells (blk F) 35) = W at *
  clear HB2 g2 f2
  have hne := later_some W
  refine wp_region_later (by kernel_rfl) (by kernel_rfl) W (Below.refl _ _) ?_
  repeat (first
    | (go_big_quiet_want; refine quiet_loadL _ rfl _ rfl _ hsz g3 ?_; simp only [Act.put, List.setIfInBounds_toArray, List.set_cons_succ, List.set_cons_zero]; go_big_quiet_on)
    | (go_big_quiet_want; refine quiet_load25 _ rfl _ rfl _ f3 ?_; simp only [Act.put, List.setIfInBounds_toArray, List.set_cons_succ, List.set_cons_zero]; go_big_quiet_on)
    | (go_big_quiet_want; refine quiet_load25 _ rfl _ rfl _ n3 ?_; simp only [Act.put, List.setIfInBounds_toArray, List.set_cons_succ, List.set_cons_zero]; go_big_quiet_on)
    | go_big_quiet_step (first
        | (go_at_call 11; exact Later.call _ (hwh _))
        | (go_at_call 12; exact Later.call _ (hrw _))
        | (go_at_call 13; exact Later.call _ (awake_any _))))
  refine wpQuiet_nil ?_
  rintro _ ⟨y, rfl⟩
  go_wp2
  go_ret
  exact ⟨rfl, below_next HB3.out y.below⟩

set_option maxRecDepth 20000 in
set_option maxHeartbeats 1000000 in
theorem law_reads (f : Nat → Int) (hf : Byte f) (n : Int) (w : World) :
    Calls Try.prog 5 #[.agg (blk f), .int .i64 n] w fun e w' => e = .returned (.bool true) ∧ Below w.heap.size w w' := by
  have hde := fun w => decode_any f hf n w
  have hre := fun w => refDecode_any f hf n w
  obtain ⟨v0, v1, v2, v3, v4, v5, v6, v7, v8, hv⟩ := decV_lay f n
  rw [hv] at hde hre
  generalize decE f n = E at *
  clear hv hf
  go_enter Try.func5, Try.ntmps5
  go_wp2_with (first | refine wpList_load35w rfl _ rfl _ rfl _ (heap_alloc_new _ _) ?_ | (go_at_call 16; fail))
  refine (hde _).mono ?_
  rintro e W1 ⟨rfl, hb1⟩
  have g1 := heap_kept (heap_alloc_new w _) hb1
  have HB1 : Hid (Below w.heap.size w W1) := below_next (below_new _ _) hb1
  clear hb1 hde
  go_wp2_with (first | refine wpList_load35w rfl _ rfl _ rfl _ (heap_kept g1 (below_new _ _)) ?_ | (go_at_call 17; fail))
  refine (hre _).mono ?_
  rintro e W2 ⟨rfl, hb2⟩
  have l2 := heap_kept (heap_alloc_new W1 _) hb2
  have k0 : W2.cell? ⟨W1.heap.size, 0, none⟩ = some (.int .i64 v0) := Joins.cell_of_block l2 0
  have k1 : W2.cell? ⟨W1.heap.size, 1, none⟩ = some (.int .i64 v1) := Joins.cell_of_block l2 1
  have k2 : W2.cell? ⟨W1.heap.size, 2, none⟩ = some (.int .i64 v2) := Joins.cell_of_block l2 2
  have k3 : W2.cell? ⟨W1.heap.size, 3, none⟩ = some (.int .i64 v3) := Joins.cell_of_block l2 3
  have k4 : W2.cell? ⟨W1.heap.size, 4, none⟩ = some (.int .i64 v4) := Joins.cell_of_block l2 4
  have k5 : W2.cell? ⟨W1.heap.size, 5, none⟩ = some (.int .i64 v5) := Joins.cell_of_block l2 5
  have k6 : W2.cell? ⟨W1.heap.size, 6, none⟩ = some (.int .i64 v6) := Joins.cell_of_block l2 6
  have k7 : W2.cell? ⟨W1.heap.size, 7, none⟩ = some (.int .i64 v7) := Joins.cell_of_block l2 7
  have k8 : W2.cell? ⟨W1.heap.size, 8, none⟩ = some (.int .i64 v8) := Joins.cell_of_block l2 8
  have hlt : W1.heap.size < W2.heap.size := (Array.getElem?_eq_some_iff.1 l2).1
  have HB2 : Hid (Below w.heap.size w W2) := below_next (bel_al HB1.out _) hb2
  clear hb2 hre HB1 g1 l2
  go_wp2_with (first | (go_at_call 13; fail))
  refine (awake_any _).mono ?_
  rintro e W3 ⟨rfl, hb3⟩
  have HB3 : Hid (Below w.heap.size w W3) := below_next (bel_al HB2.out _) hb3
  clear hb3 k0 k1 k2 k3 k4 k5 k6 k7 k8 HB2
  go_wp2
  go_ret
  exact ⟨rfl, HB3.out⟩
theorem layoutsW (b l i : Int) (hb : I64 b) (k : Int) (w : World) : Calls Try.prog 3 #[geoV b l i, .int .i64 k] w fun e w' => e = .returned (.bool true) ∧ Below w.heap.size w w' := law_layouts b l i k hb w
theorem writesW (b l i a c d e f g : Int) (hb : I64 b) (k : Int) (w : World) : Calls Try.prog 4 #[.agg (lay9 b l i a c d e f g), .int .i64 k] w fun e w' => e = .returned (.bool true) ∧ Below w.heap.size w w' := law_writes b l i a c d e f g k hb w
end Go.Proofs.Ytmblppgmfgjbpaa
