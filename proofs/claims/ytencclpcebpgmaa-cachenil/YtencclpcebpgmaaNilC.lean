/- What is asked of a cache that is nil, or that New did not make; no condition. -/
import Derived.Test.YtencclpcebpgmaaTen
namespace Go.Proofs.Ytencclpcebpgmaa
open Go.RowKit Go.Maps
variable {w : World}
theorem cell_lt {w : World} {g off : Nat} {v : Value} (h : w.cell? ⟨g, off, none⟩ = some v) : g < w.heap.size := by
  have := World.block_lt_of_cell? w _ h
  exact this
theorem NoneAt.later {w' : World} {v : Value} (h : NoneAt w v) (hb : Below w.heap.size w w') : NoneAt w' v := by
  rcases h with rfl | ⟨g, rfl, h⟩
  · exact .inl rfl
  · exact .inr ⟨g, rfl, (hb.cell (p := ⟨g, 0, none⟩) (cell_lt h)).trans h⟩
set_option maxRecDepth 20000 in
theorem readC_none {v : Value} (h : NoneAt w v) (k : Int) : Calls Try.prog 24 #[v, .int .i64 k] w fun e w' => e = .returned (.tuple #[.agg (blk nought), .int .i64 1]) ∧ Below w.heap.size w w' := by
  have hU := use_none (h.later (below_new w (.cells (blk nought) 59))) k
  have R0 := heap_alloc_new w (.cells (blk nought) 59)
  have hB0 := below_new w (.cells (blk nought) 59)
  have z25 := zero25
  have hbd := built58
  clear h
  generalize nought = N at *
  unfold nilp at *
  have HU : Hid (Calls Try.prog 53 _ _ _) := hU
  have HB0 : Hid (Below w.heap.size w _) := hB0
  clear hU hB0
  go_enter Try.func24, Try.ntmps24
  go_wp2_with (go_at_call 53; fail)
  refine HU.out.mono ?_
  rintro e W1 ⟨rfl, he⟩
  rw [← he] at R0 HB0
  clear HU he
  generalize hg0 : w.heap.size = g0 at *
  go_wp2_with (first | refine wpList_build58 rfl rfl hbd ?_ | refine wpList_store25 rfl (.tmp 4) (.tmp 18) rfl g0 N rfl rfl _ R0 ?_)
  exact retBT rfl g0 N rfl (setRow_heap _ _ _ _ _ _ R0) rfl ⟨rfl, by rw [hg0]; exact below_setRow HB0.out (Nat.le_refl _) _⟩
theorem putC_none {v : Value} (h : NoneAt w v) (k : Int) (f : Nat → Int) : Calls Try.prog 25 #[v, .int .i64 k, .agg (blk f)] w fun e w' => e = .returned (.int .i64 1) ∧ Below w.heap.size w w' := by
  have hU := use_none (h.later (below_new w (.cells (blk f) 59))) k
  have hB0 := below_new w (.cells (blk f) 59)
  clear h
  unfold nilp at *
  have HU : Hid (Calls Try.prog 53 _ _ _) := hU
  have HB0 : Hid (Below w.heap.size w _) := hB0
  clear hU hB0
  go_enter Try.func25, Try.ntmps25
  go_wp2_with (go_at_call 53; fail)
  refine HU.out.mono ?_
  rintro e W1 ⟨rfl, he⟩
  rw [← he] at HB0
  clear HU he
  go_wp2
  go_ret
  exact ⟨rfl, HB0.out⟩
theorem flushC_none {v : Value} (h : NoneAt w v) (k : Int) : Calls Try.prog 26 #[v, .int .i64 k] w fun e w' => e = .returned (.int .i64 1) ∧ w' = w := by
  have hU := refusesC_none h k
  clear h
  go_enter Try.func26, Try.ntmps26
  go_wp2_with (go_at_call 54; refine hU.mono ?_; rintro e W1 ⟨rfl, rfl⟩)
  go_ret
  exact ⟨rfl, rfl⟩
end Go.Proofs.Ytencclpcebpgmaa
