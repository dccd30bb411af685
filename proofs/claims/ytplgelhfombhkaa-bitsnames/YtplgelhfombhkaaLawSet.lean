/- BitsSet's walk: of every block of bytes and every question the call answers true and turns nothing that was there. -/
import Derived.Test.YtplgelhfombhkaaLives
namespace Go.Proofs.Ytplgelhfombhkaa
open Go.RowKit

theorem heap_kept {w w' : World} {g : Nat} {o : Obj} (h : w.heap[g]? = some o) (hb : Below w.heap.size w w') : w'.heap[g]? = some o :=
  (hb.block g (Array.getElem?_eq_some_iff.1 h).1).trans h
theorem below_next {w w1 w2 : World} (h : Below w.heap.size w w1) (hb : Below w1.heap.size w1 w2) : Below w.heap.size w w2 := h.trans (hb.mono h.size)
theorem below_new (w : World) (o : Obj) : Below w.heap.size w (w.alloc o) := (Below.refl _ _).alloc (Nat.le_refl _) _
theorem below_two (w : World) (o p : Obj) : Below w.heap.size w ((w.alloc o).alloc p) := ((Below.refl _ _).alloc (Nat.le_refl _) _).alloc (by simp) _
/-- What a question is as a value. -/
def askV (i j : Int) (on : Bool) (a m b : Int) : Array Value := #[.int .i64 i, .int .i64 j, .bool on, .int .i64 a, .int .i64 m, .int .i64 b]
theorem ask_cells {w : World} {g : Nat} {i j : Int} {on : Bool} {a m b : Int} (h : w.heap[g]? = some (.cells (askV i j on a m b) 25)) :
    w.cell? ⟨g, 0, none⟩ = some (.int .i64 i) ∧ w.cell? ⟨g, 1, none⟩ = some (.int .i64 j) ∧ w.cell? ⟨g, 2, none⟩ = some (.bool on) ∧ w.cell? ⟨g, 3, none⟩ = some (.int .i64 a) ∧ w.cell? ⟨g, 4, none⟩ = some (.int .i64 m) ∧ w.cell? ⟨g, 5, none⟩ = some (.int .i64 b) := by
  refine ⟨?_, ?_, ?_, ?_, ?_, ?_⟩ <;> (rw [cell_of_row w g _ _ 25 _ h]; rfl)

set_option maxRecDepth 20000 in
set_option maxHeartbeats 1000000 in
theorem law_set (f : Nat → Int) (hf : Byte f) (i j : Int) (on : Bool) (a m b : Int) (w : World) :
    Calls Try.prog 4 #[.agg (blk f), .agg (askV i j on a m b)] w fun e w' => e = .returned (.bool true) ∧ Below w.heap.size w w' := by
  have z25 := zero25
  have hset := fun w => set_any f hf i on w
  have k1 := fun w => has_any f hf j w
  have k2 := fun w => has_any (setB f i on) (byte_setB hf i on) j w
  have hval := has_setB f i j on
  generalize setB f i on = F at hset k2 hval
  clear hf
  unfold askV
  go_enter Try.func4, Try.ntmps4
  go_wp2_with (first | refine wpList_load25 rfl _ rfl _ rfl _ (heap_alloc2_old _ _ _) ?_ | (go_at_call 12; fail))
  refine (hset _).mono ?_
  rintro e W1 ⟨rfl, hb1⟩
  have h1 := (hb1.block w.heap.size (by simp; omega)).trans (heap_alloc2_old _ _ _)
  have h2 := (hb1.block (w.heap.size + 1) (by simp)).trans (heap_alloc2_new _ _ _)
  have hb1' : Hid (Below w.heap.size w W1) := (((Below.refl _ _).alloc (Nat.le_refl _) _).alloc (by simp) _).trans (hb1.mono (by simp; omega))
  clear hb1 hset
  go_wp2_with (first | refine wpList_store25_new rfl _ _ rfl _ _ rfl rfl ?_ | (go_at_call 19; fail))
  refine (lives_any _).mono ?_
  rintro e W ⟨rfl, hb2⟩
  have hB := heap_kept (heap_kept h1 (below_new W1 (.cells (blk F) 23))) hb2
  have hA := heap_kept (heap_kept h2 (below_new W1 (.cells (blk F) 23))) hb2
  have hC := heap_kept (heap_alloc_new W1 (.cells (blk F) 23)) hb2
  have HW : Hid (Below w.heap.size w W) := below_next (below_next hb1'.out (below_new W1 (.cells (blk F) 23))) hb2
  have hcs := ask_cells (i := i) (j := j) (on := on) (a := a) (m := m) (b := b) hA
  obtain ⟨c0, c1, c2, _⟩ := hcs
  have l1 : ∀ x : Later W, x.val.cell? ⟨w.heap.size + 1, 1, none⟩ = some (.int .i64 j) := fun x => (x.cell _ (by exact block_lt_of_cell c1)).trans c1
  have l2 : ∀ x : Later W, x.val.cell? ⟨w.heap.size + 1, 2, none⟩ = some (.bool on) := fun x => (x.cell _ (by exact block_lt_of_cell c2)).trans c2
  have hne := later_some W
  clear hb2 h1 h2 hb1' hA
  have fin : ∀ (v : Bool), v = true → ∀ y : Later W, Hid (Ending.returned (.bool v) = .returned (.bool true) ∧ Below w.heap.size w y.val) := fun v hv y => ⟨by rw [hv], HW.out.trans (y.below.mono HW.out.size)⟩
  by_cases hall : i = j ∧ 0 ≤ i ∧ i < 8192
  · rw [if_pos hall] at hval
    obtain ⟨hij, h0, h1⟩ := hall
    have hij' : (i == j) = true := by simp [hij]
    clear hij
    have HV := (show Hid _ from hval)
    clear hval
    go_wp2
    refine wp_region_later (by kernel_rfl) (by kernel_rfl) W (Below.refl _ _) ?_
    repeat (first
      | (go_big_quiet_want; refine quiet_load25 _ rfl _ rfl _ hC ?_; simp only [Act.put, List.setIfInBounds_toArray, List.set_cons_succ, List.set_cons_zero]; go_big_quiet_on)
      | go_big_quiet_step (first
          | (go_at_call 10; exact Later.call _ (k2 _))))
    refine wpQuiet_nil ?_
    rintro _ ⟨y, rfl⟩
    go_wp2
    go_ret
    exact (fin _ (by rw [HV.out]; simp) y).out
  · rw [if_neg hall] at hval
    have HV := (show Hid _ from hval)
    clear hval
    have key : ∀ (h : (i == j) = false ∨ ((i == j) = true ∧ ¬ 0 ≤ i) ∨ ((i == j) = true ∧ 0 ≤ i ∧ ¬ i < 8192)), True := fun _ => trivial
    have hcase : (i == j) = false ∨ ((i == j) = true ∧ ¬ 0 ≤ i) ∨ ((i == j) = true ∧ 0 ≤ i ∧ ¬ i < 8192) := by
      by_cases h : i = j
      · have h' : (i == j) = true := by simp [h]
        by_cases h0 : 0 ≤ i
        · exact .inr (.inr ⟨h', h0, fun h1 => hall ⟨h, h0, h1⟩⟩)
        · exact .inr (.inl ⟨h', h0⟩)
      · exact .inl (by simp [h])
    clear hall key
    rcases hcase with h | ⟨h, h0⟩ | ⟨h, h0, h1⟩
    all_goals
      go_wp2
      refine wp_region_later (by kernel_rfl) (by kernel_rfl) W (Below.refl _ _) ?_
      repeat (first
        | (go_big_quiet_want; refine quiet_load25 _ rfl _ rfl _ hC ?_; simp only [Act.put, List.setIfInBounds_toArray, List.set_cons_succ, List.set_cons_zero]; go_big_quiet_on)
        | (go_big_quiet_want; refine quiet_load25 _ rfl _ rfl _ hB ?_; simp only [Act.put, List.setIfInBounds_toArray, List.set_cons_succ, List.set_cons_zero]; go_big_quiet_on)
        | go_big_quiet_step (first
            | (go_at_call_of 10 (Value.agg (blk F)); exact Later.call _ (k2 _))
            | (go_at_call_of 10 (Value.agg (blk f)); exact Later.call _ (k1 _))))
      refine wpQuiet_nil ?_
      rintro _ ⟨y, rfl⟩
      go_wp2
      go_ret
      exact (fin _ (by rw [HV.out]; simp) y).out
end Go.Proofs.Ytplgelhfombhkaa
