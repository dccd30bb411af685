/- BitsAdd's walk: of every block of bytes and every question the call answers true and turns nothing that was there. -/
import Derived.Test.YtplgelhfombhkaaWalk
namespace Go.Proofs.Ytplgelhfombhkaa
open Go.RowKit

/-- Two spans side by side have as many as both together. -/
theorem ones_add (f : Nat → Int) (a m b : Int) (h1 : a ≤ m) (h2 : m ≤ b) : ∀ c, (ones f a m c).length + (ones f m b c).length = (ones f a b c).length := by
  intro c
  induction c with
  | zero => rfl
  | succ c ih =>
    rw [ones_succ, ones_succ, ones_succ, List.length_append, List.length_append, List.length_append]
    have key : ((if ind f a m c then [c] else []) : List Nat).length + ((if ind f m b c then [c] else []) : List Nat).length = ((if ind f a b c then [c] else []) : List Nat).length := by
      unfold ind
      by_cases g1 : (c : Int) < m
      · have e1 : decide (m ≤ (c : Int) ∧ (c : Int) < b) = false := decide_eq_false (by omega)
        have e2 : decide (a ≤ (c : Int) ∧ (c : Int) < m) = decide (a ≤ (c : Int) ∧ (c : Int) < b) := decide_eq_decide.2 (by omega)
        rw [e1, e2]; simp
      · have e1 : decide (a ≤ (c : Int) ∧ (c : Int) < m) = false := decide_eq_false (by omega)
        have e2 : decide (m ≤ (c : Int) ∧ (c : Int) < b) = decide (a ≤ (c : Int) ∧ (c : Int) < b) := decide_eq_decide.2 (by omega)
        rw [e1, e2]; simp
    omega

set_option maxRecDepth 20000 in
set_option maxHeartbeats 4000000 in
theorem law_add (f : Nat → Int) (hf : Byte f) (i j : Int) (on : Bool) (a m b : Int) (w : World) :
    Calls Try.prog 5 #[.agg (blk f), .agg (askV i j on a m b)] w fun e w' => e = .returned (.bool true) ∧ Below w.heap.size w w' := by
  have k0 := fun w => callsIn_wide.1 (walk_in f hf a b w 3 (by omega))
  have HF : Hid (Byte f) := hf
  have HAdd : Hid (a ≤ m → m ≤ b → (ones f a m 8192).length + (ones f m b 8192).length = (ones f a b 8192).length) := fun h1 h2 => ones_add f a m b h1 h2 8192
  have l1 := ones_len f a b 8192
  have l2 := ones_len f a m 8192
  have l3 := ones_len f m b 8192
  clear hf
  unfold askV
  go_enter Try.func5, Try.ntmps5
  go_wp2_with (first | (go_at_call 19; fail))
  refine (lives_any _).mono ?_
  rintro e W1 ⟨rfl, hb1⟩
  have h1 := heap_kept (heap_alloc2_old w (.cells (blk f) 23) (.cells (askV i j on a m b) 25)) hb1
  have h2 := heap_kept (heap_alloc2_new w (.cells (blk f) 23) (.cells (askV i j on a m b) 25)) hb1
  have hb1' : Hid (Below w.heap.size w W1) := below_next (below_two w _ _) hb1
  clear hb1
  obtain ⟨c0, c1, c2, c3, c4, c5⟩ := ask_cells h2
  clear c1 c2 c4
  go_wp2_with (first | refine wpList_load25 rfl _ rfl _ rfl _ h1 ?_ | (go_at_call 20; fail))
  refine (k0 _).mono ?_
  rintro e W ⟨v, rfl, hlies, hb2⟩
  have hB := heap_kept h1 hb2
  have hA := heap_kept h2 hb2
  have HW : Hid (Below w.heap.size w W) := below_next hb1'.out hb2
  clear hb2 h1 h2 hb1' c0 c3 c5 k0
  obtain ⟨ad, cap, rfl, hdrop⟩ := hlies
  clear hdrop
  obtain ⟨c0, c1, c2, c3, c4, c5⟩ := ask_cells hA
  clear c1 c2
  have l3' : ∀ x : Later W, x.val.cell? ⟨w.heap.size + 1, 3, none⟩ = some (.int .i64 a) := fun x => (x.cell _ (by exact block_lt_of_cell c3)).trans c3
  have l4' : ∀ x : Later W, x.val.cell? ⟨w.heap.size + 1, 4, none⟩ = some (.int .i64 m) := fun x => (x.cell _ (by exact block_lt_of_cell c4)).trans c4
  have l5' : ∀ x : Later W, x.val.cell? ⟨w.heap.size + 1, 5, none⟩ = some (.int .i64 b) := fun x => (x.cell _ (by exact block_lt_of_cell c5)).trans c5
  have hne := later_some W
  have fin : ∀ y : Later W, Hid (Below w.heap.size w y.val) := fun y => HW.out.trans (y.below.mono HW.out.size)
  go_wp2_with (first | refine wpList_later_in _ rfl W (Below.refl _ _) ?_)
  repeat (first
    | (go_big_quiet_want; refine quiet_load25 _ rfl _ rfl _ hB ?_; simp only [Act.put, List.setIfInBounds_toArray, List.set_cons_succ, List.set_cons_zero]; go_big_quiet_on)
    | go_big_quiet_step (first | (go_at_call 16; exact Later.call _ (count_any f HF.out _ _ _))))
  refine wpQuiet_nil ?_
  rintro _ ⟨y, rfl⟩
  have hAy := (y.heap _ (Array.getElem?_eq_some_iff.1 hA).1).trans hA
  have q3 := l3' y
  have q4 := l4' y
  have q5 := l5' y
  by_cases g1 : m < a
  · go_wp2
    go_ret
    exact ⟨rfl, (fin y).out⟩
  · by_cases g2 : b < m
    · go_wp2
      go_ret
      exact ⟨rfl, (fin y).out⟩
    · have hadd := HAdd.out (by omega) (by omega)
      have hadd' : ((ones f a m 8192).length : Int) + ((ones f m b 8192).length : Int) = ((ones f a b 8192).length : Int) := by omega
      have HA2 := (show Hid _ from hadd')
      clear hadd hadd' HAdd
      go_wp2
      refine wp_region_later (by kernel_rfl) (by kernel_rfl) W y.below ?_
      repeat (first
        | (go_big_quiet_want; refine quiet_load25 _ rfl _ rfl _ hB ?_; simp only [Act.put, List.setIfInBounds_toArray, List.set_cons_succ, List.set_cons_zero]; go_big_quiet_on)
        | go_big_quiet_step (first | (go_at_call 16; exact Later.call _ (count_any f HF.out _ _ _))))
      refine wpQuiet_nil ?_
      rintro _ ⟨z, rfl⟩
      go_wp2
      go_ret
      exact ⟨ret_bool (by simp; exact HA2.out), (fin z).out⟩
end Go.Proofs.Ytplgelhfombhkaa
