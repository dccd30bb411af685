/- BitsCalls's walk: of every block of bytes and every question the call answers true and turns nothing that was there. -/
import Derived.Test.YtplgelhfombhkaaRefs2
import Derived.Test.YtplgelhfombhkaaRefSet
namespace Go.Proofs.Ytplgelhfombhkaa
open Go.RowKit

theorem Later.same {W : World} (x : Later W) {f : FuncId} {args : Array Value} {v : Value}
    (h : Calls Try.prog f args x.val fun e w' => e = .returned v ∧ w' = x.val) : Calls Try.prog f args x.val fun e w'' => e = .returned v ∧ ∃ y : Later W, w'' = y.val :=
  h.mono fun _ _ ⟨he, hb⟩ => ⟨he, x, hb⟩

set_option maxRecDepth 20000 in
set_option maxHeartbeats 4000000 in
theorem law_calls (f : Nat → Int) (hf : Byte f) (i j : Int) (on : Bool) (a m b : Int) (w : World) :
    Calls Try.prog 3 #[.agg (blk f), .agg (askV i j on a m b)] w fun e w' => e = .returned (.bool true) ∧ Below w.heap.size w w' := by
  have k9 := fun w => refAll_any f hf a b w
  have k10 := fun w => has_any f hf i w
  have k11 := fun w => refHas_any f hf i w
  have k12 := fun w => set_any f hf i on w
  have k13 := fun w => refSet_any f hf i on w
  have k14 := fun w => first_any f hf a b w
  have k15 := fun w => refFirst_any f hf a b w
  have k16 := fun w => count_any f hf a b w
  have k17 := fun v most w h => callsIn_wide.1 (again_in f hf a b most v w h 3 (by omega))
  have k18 := fun w => pick_any j w
  have hT8 := ones_len f a b 8192
  generalize ones f a b 8192 = T at *
  generalize firstZ f a b = z at *
  generalize setB f i on = F at *
  generalize has f i = u at *
  generalize j % 20 = most at *
  clear hf
  unfold askV
  go_enter Try.func3, Try.ntmps3
  go_wp2_with (first | refine wpList_load25 rfl _ rfl _ rfl _ (heap_alloc2_old _ _ _) ?_ | (go_at_call 9; fail))
  refine (k9 _).mono ?_
  rintro e W ⟨v, rfl, hlies, hb1⟩
  have hB := heap_kept (heap_alloc2_old w (.cells (blk f) 23) (.cells (askV i j on a m b) 25)) hb1
  have hA := heap_kept (heap_alloc2_new w (.cells (blk f) 23) (.cells (askV i j on a m b) 25)) hb1
  have HW : Hid (Below w.heap.size w W) := below_next (below_two w _ _) hb1
  clear hb1 k9
  have HL : Hid (∀ x : Later W, LiesI x.val v T) := fun x => hlies.later x.below
  obtain ⟨ad, cap, rfl, hdrop⟩ := hlies
  clear hdrop
  obtain ⟨c0, c1, c2, c3, c4, c5⟩ := ask_cells hA
  have l0 : ∀ x : Later W, x.val.cell? ⟨w.heap.size + 1, 0, none⟩ = some (.int .i64 i) := fun x => (x.cell _ (by exact block_lt_of_cell c0)).trans c0
  have l1 : ∀ x : Later W, x.val.cell? ⟨w.heap.size + 1, 1, none⟩ = some (.int .i64 j) := fun x => (x.cell _ (by exact block_lt_of_cell c1)).trans c1
  have l2 : ∀ x : Later W, x.val.cell? ⟨w.heap.size + 1, 2, none⟩ = some (.bool on) := fun x => (x.cell _ (by exact block_lt_of_cell c2)).trans c2
  have l3 : ∀ x : Later W, x.val.cell? ⟨w.heap.size + 1, 3, none⟩ = some (.int .i64 a) := fun x => (x.cell _ (by exact block_lt_of_cell c3)).trans c3
  have l5 : ∀ x : Later W, x.val.cell? ⟨w.heap.size + 1, 5, none⟩ = some (.int .i64 b) := fun x => (x.cell _ (by exact block_lt_of_cell c5)).trans c5
  clear c0 c1 c2 c3 c4 c5
  have hne := later_some W
  have fin : ∀ y : Later W, Hid (Below w.heap.size w y.val) := fun y => HW.out.trans (y.below.mono HW.out.size)
  have hq := eq25
  have hs := sameB_self
  go_wp2
  refine wp_region_later (by kernel_rfl) (by kernel_rfl) W (Below.refl _ _) ?_
  repeat (first
    | (go_big_quiet_want; refine quiet_load25 _ rfl _ rfl _ hB ?_; simp only [Act.put, List.setIfInBounds_toArray, List.set_cons_succ, List.set_cons_zero]; go_big_quiet_on)
    | go_big_quiet_step (first
        | (go_at_call 10; exact Later.call _ (k10 _))
        | (go_at_call 11; exact Later.call _ (k11 _))
        | (go_at_call 12; exact Later.call _ (k12 _))
        | (go_at_call 13; exact Later.call _ (k13 _))))
  refine wpQuiet_nil ?_
  rintro _ ⟨y, rfl⟩
  clear hq hs
  go_wp2
  refine wp_region_later (by kernel_rfl) (by kernel_rfl) W y.below ?_
  repeat (first
    | (go_big_quiet_want; refine quiet_load25 _ rfl _ rfl _ hB ?_; simp only [Act.put, List.setIfInBounds_toArray, List.set_cons_succ, List.set_cons_zero]; go_big_quiet_on)
    | go_big_quiet_step (first
        | (go_at_call 14; exact Later.call _ (k14 _))
        | (go_at_call 15; exact Later.call _ (k15 _))
        | (go_at_call 16; exact Later.call _ (k16 _))))
  refine wpQuiet_nil ?_
  rintro _ ⟨y2, rfl⟩
  go_wp2
  refine wp_region_later (by kernel_rfl) (by kernel_rfl) W y2.below ?_
  repeat (first
    | (go_big_quiet_want; refine quiet_load25 _ rfl _ rfl _ hB ?_; simp only [Act.put, List.setIfInBounds_toArray, List.set_cons_succ, List.set_cons_zero]; go_big_quiet_on)
    | go_big_quiet_step (first
        | (go_at_call 18; exact Later.same _ (k18 _))
        | (go_at_call 17; exact Later.call _ (k17 _ _ _ (HL.out _)))))
  refine wpQuiet_nil ?_
  rintro _ ⟨y3, rfl⟩
  go_wp2
  go_ret
  exact ⟨rfl, (fin y3).out⟩
end Go.Proofs.Ytplgelhfombhkaa
