/- The law WalNil: what is no log, and no disk: every call is refused; for every number, block and geometry. -/
import Derived.Test.YtahaiciciljijaaEmpty
import Derived.Test.YtahaiciciljijaaLives
namespace Go.Proofs.Ytahaiciciljijaa
open Go.RowKit Go.Maps
def diskZ : Array Value := #[.pointer none, .int .i64 0, .map none, .slice none 0 0, .int .i64 0, .map none, .int .i64 0, .bool false, .int .i64 0, .int .i64 0, .int .i64 0, .bool false]
set_option maxRecDepth 20000 in
set_option maxHeartbeats 4000000 in
theorem nil_walk (n : Int) (f : Nat → Int) (b l i : Int) (w : World) : Calls Try.prog 3 #[.int .i64 n, .agg (blk f), H.geoV b l i] w fun e w' => e = .returned (.bool true) ∧ Below w.heap.size w w' := by
  obtain ⟨x0, x1, x2, x3, x4, x5, x6, x7, x8, hv⟩ := ofV_nine b l i
  have HW : Hid (∀ V, Calls Try.prog 9 #[.agg #[.int .i64 b, .int .i64 l, .int .i64 i], .int .i64 0] V fun e w' => e = .returned (.agg (H.lay9 x0 x1 x2 x3 x4 x5 x6 x7 x8)) ∧ Below V.heap.size V w') := fun V => by
    have := where0 b l i V
    rw [hv] at this
    exact this
  have hLs : (H.lay9 x0 x1 x2 x3 x4 x5 x6 x7 x8).size = 9 := rfl
  generalize H.lay9 x0 x1 x2 x3 x4 x5 x6 x7 x8 = L at HW hLs
  clear hv
  unfold H.geoV
  have HA : Hid (∀ V, Below ((w.alloc (.cells (blk f) 23)).alloc (.cells #[.int .i64 b, .int .i64 l, .int .i64 i] 25)).heap.size ((w.alloc (.cells (blk f) 23)).alloc (.cells #[.int .i64 b, .int .i64 l, .int .i64 i] 25)) V → V.cell? ⟨w.heap.size + 1, 0, none⟩ = some (.int .i64 b) ∧ V.cell? ⟨w.heap.size + 1, 1, none⟩ = some (.int .i64 l) ∧ V.cell? ⟨w.heap.size + 1, 2, none⟩ = some (.int .i64 i) ∧ V.heap[w.heap.size]? = some (.cells (blk f) 23)) := fun V hb => by
    have h1 := heap_kept (heap_alloc2_new w (.cells (blk f) 23) (.cells #[.int .i64 b, .int .i64 l, .int .i64 i] 25)) hb
    exact ⟨Joins.cell_of_block h1 0, Joins.cell_of_block h1 1, Joins.cell_of_block h1 2, heap_kept (heap_alloc2_old w _ _) hb⟩
  have HB0 := Hid.mk' (H.bel_al (below_new w (.cells (blk f) 23)) (.cells #[.int .i64 b, .int .i64 l, .int .i64 i] 25))
  go_enter Try.func3, Try.ntmps3
  go_wp2_with (go_at_call 9; fail)
  refine (HW.out _).mono ?_
  rintro e W1 ⟨rfl, hb1⟩
  have HB1 := Hid.mk' hb1
  clear hb1
  go_wp2_with (go_at_call 8; fail)
  refine (newL_none hLs (.inl rfl)).mono ?_
  rintro e W2 ⟨rfl, hb2⟩
  have HB2 := Hid.mk' (below_next HB1.out hb2)
  obtain ⟨c0, c1, c2, _⟩ := HA.out W2 HB2.out
  clear hb2 HB1
  unfold nilp
  go_wp2_with (go_at_call 9; fail)
  refine (HW.out _).mono ?_
  rintro e W3 ⟨rfl, hb3⟩
  have HB3 := Hid.mk' (below_next HB2.out hb3)
  clear hb3 HB2 c0 c1 c2
  go_wp2_with (go_at_call 10; fail)
  refine (recover_none hLs (.inl rfl)).mono ?_
  rintro e W4 ⟨rfl, hb4⟩
  have HB4 := Hid.mk' (below_next HB3.out hb4)
  have HN4 : Hid (∀ V, Below (W4.alloc (.cells diskZ 40)).heap.size (W4.alloc (.cells diskZ 40)) V → NoneAt V (.pointer (some ⟨W4.heap.size, 0, none⟩))) := fun V hb => .inr ⟨_, rfl, Joins.cell_of_block (heap_kept (heap_alloc_new _ _) hb) 0⟩
  obtain ⟨c0, c1, c2, _⟩ := HA.out (W4.alloc (.cells diskZ 40)) (below_next HB4.out (below_new _ _))
  have HB4a := Hid.mk' (below_next HB4.out (below_new W4 (.cells diskZ 40)))
  clear hb4 HB3 HB4
  unfold diskZ at c0 c1 c2
  go_wp2_with (go_at_call 9; fail)
  refine (HW.out _).mono ?_
  rintro e W5 ⟨rfl, hb5⟩
  have HB5 := Hid.mk' (below_next HB4a.out hb5)
  have HN5 := Hid.mk' (HN4.out W5 hb5)
  clear hb5 HB4a HN4 c0 c1 c2
  go_wp2_with (go_at_call 8; fail)
  refine (newL_none hLs HN5.out).mono ?_
  rintro e W6 ⟨rfl, hb6⟩
  have HB6 := Hid.mk' (below_next HB5.out hb6)
  have HN6 : Hid (∀ V, Below (W6.alloc (.cells diskZ 40)).heap.size (W6.alloc (.cells diskZ 40)) V → NoneAt V (.pointer (some ⟨W6.heap.size, 0, none⟩))) := fun V hb => .inr ⟨_, rfl, Joins.cell_of_block (heap_kept (heap_alloc_new _ _) hb) 0⟩
  obtain ⟨c0, c1, c2, _⟩ := HA.out (W6.alloc (.cells diskZ 40)) (below_next HB6.out (below_new _ _))
  have HB6a := Hid.mk' (below_next HB6.out (below_new W6 (.cells diskZ 40)))
  clear hb6 HB5 HN5 HB6
  unfold nilp
  unfold diskZ at c0 c1 c2
  go_wp2_with (go_at_call 9; fail)
  refine (HW.out _).mono ?_
  rintro e W7 ⟨rfl, hb7⟩
  have HB7 := Hid.mk' (below_next HB6a.out hb7)
  have HN7 := Hid.mk' (HN6.out W7 hb7)
  clear hb7 HB6a HN6 c0 c1 c2
  go_wp2_with (go_at_call 10; fail)
  refine (recover_none hLs HN7.out).mono ?_
  rintro e W8 ⟨rfl, hb8⟩
  have HB8 := Hid.mk' (below_next HB7.out hb8)
  clear hb8 HB7 HN7
  go_wp2_with (go_at_call 11; fail)
  refine (lives_any W8).mono ?_
  rintro e W9 ⟨rfl, hb9⟩
  have HB9 := Hid.mk' (below_next HB8.out hb9)
  obtain ⟨_, _, _, hbx⟩ := HA.out W9 HB9.out
  clear hb9 HB8
  go_wp2_with (first | refine H.wpList_load30w rfl (.tmp 4) rfl w.heap.size rfl f hbx ?_ | (go_at_call 12; fail))
  refine (empty_any (.inl rfl) n f).mono ?_
  rintro e W10 ⟨rfl, hb10⟩
  have HB10 := Hid.mk' (below_next HB9.out hb10)
  have hbx2 : ∀ o : Obj, (W10.alloc o).heap[w.heap.size]? = some (.cells (blk f) 23) := fun o => (HA.out (W10.alloc o) (below_next HB10.out (below_new _ _))).2.2.2
  clear hb10 HB9 hbx
  go_wp2_with (first | refine H.wpList_load30w rfl (.tmp 4) rfl w.heap.size rfl f (hbx2 _) ?_ | (go_at_call 12; fail))
  refine (empty_any (.inr ⟨_, rfl, Joins.cell_of_block (heap_alloc_new _ _) 0⟩) n f).mono ?_
  rintro e W11 ⟨rfl, hb11⟩
  have HB11 := Hid.mk' (below_next HB0.out (below_next (below_next HB10.out (below_new _ _)) hb11))
  clear hb11 HB10 hbx2
  go_wp2
  go_ret
  exact ⟨rfl, HB11.out⟩
end Go.Proofs.Ytahaiciciljijaa
