/- BitsFirst's walk: of every block of bytes and every question the call answers true and turns nothing that was there. -/
import Derived.Test.YtplgelhfombhkaaLawSet
namespace Go.Proofs.Ytplgelhfombhkaa
open Go.RowKit

/-- Where the next operation loads a block, in a world behind W. -/
theorem wpList_later_in {ops : Array Oper} {l : List Oper} {Q : Exit → Act → World → Prop} {a : Act} {o : Oper} (x : Operand) (_ : o.op = .load 23 x) (W : World) {w : World} (hW : Below W.heap.size W w)
    (h : wpQuiet Try.prog ops (fun w' => ∃ x : Later W, w' = x.val) (fun a' => ∀ w', (∃ x : Later W, w' = x.val) → Q .normal a' w') (o :: l) a) : wpList Try.prog ops Q (o :: l) a w :=
  wpList_later W hW h
theorem hole_off {f : Nat → Int} {a b : Int} {i : Nat} (h : hole f a b i = false) (hi : i < 8192) (h1 : a ≤ (i : Int)) (h2 : (i : Int) < b) : has f i = true := by
  rw [has_in f i hi]
  unfold hole at h
  rw [decide_eq_true (show a ≤ (i : Int) ∧ (i : Int) < b from ⟨h1, h2⟩)] at h
  simpa using h
theorem hole_on {f : Nat → Int} {a b : Int} {i : Nat} (h : hole f a b i = true) (hi : i < 8192) : (a ≤ (i : Int) ∧ (i : Int) < b) ∧ has f i = false := by
  rw [has_in f i hi]
  unfold hole at h
  simpa using h

set_option maxRecDepth 20000 in
set_option maxHeartbeats 4000000 in
theorem law_first (f : Nat → Int) (hf : Byte f) (i j : Int) (on : Bool) (a m b : Int) (w : World) :
    Calls Try.prog 6 #[.agg (blk f), .agg (askV i j on a m b)] w fun e w' => e = .returned (.bool true) ∧ Below w.heap.size w w' := by
  have k1 := fun (j : Int) w => has_any f hf j w
  have k2 := fun w => first_any f hf a b w
  have hcs := firstZ_cases f a b
  have HSp : Hid (∀ i : Nat, i < 8192 → a ≤ (i : Int) → (i : Int) < b → (firstZ f a b < 0 ∨ (i : Int) < firstZ f a b) → has f i = true) := by
    intro i hi h1 h2 h3
    rcases hcs with ⟨hn, hno⟩ | ⟨m, hn, _, _, hno⟩
    · exact hole_off (hno i hi) hi h1 h2
    · exact hole_off (hno i (by omega)) hi h1 h2
  have HCs : Hid ((firstZ f a b = -1) ∨ ∃ m : Nat, firstZ f a b = m ∧ m < 8192 ∧ (a ≤ (m : Int) ∧ (m : Int) < b) ∧ has f m = false) := by
    rcases hcs with ⟨hn, _⟩ | ⟨m, hn, hm, hh, _⟩
    · exact .inl hn
    · exact .inr ⟨m, hn, hm, hole_on hh hm⟩
  generalize firstZ f a b = n at k2 HSp HCs
  clear hcs hf
  unfold askV
  go_enter Try.func6, Try.ntmps6
  go_wp2_with (first | (go_at_call 19; fail))
  refine (lives_any _).mono ?_
  rintro e W1 ⟨rfl, hb1⟩
  have h1 := heap_kept (heap_alloc2_old w (.cells (blk f) 23) (.cells (askV i j on a m b) 25)) hb1
  have h2 := heap_kept (heap_alloc2_new w (.cells (blk f) 23) (.cells (askV i j on a m b) 25)) hb1
  have hb1' : Hid (Below w.heap.size w W1) := below_next (below_two w _ _) hb1
  clear hb1
  have hcs := ask_cells h2
  obtain ⟨c0, c1, c2, c3, c4, c5⟩ := hcs
  clear c0 c1 c2 c4
  go_wp2_with (first | refine wpList_load25 rfl _ rfl _ rfl _ h1 ?_ | (go_at_call 14; fail))
  refine (k2 _).mono ?_
  rintro e W ⟨rfl, hb2⟩
  have hB := heap_kept h1 hb2
  have hA := heap_kept h2 hb2
  have HW : Hid (Below w.heap.size w W) := below_next hb1'.out hb2
  clear hb2 h1 h2 hb1' c3 c5
  have hcs := ask_cells hA
  obtain ⟨c0, c1, c2, c3, c4, c5⟩ := hcs
  clear c0 c1 c2 c4
  have l3 : ∀ x : Later W, x.val.cell? ⟨w.heap.size + 1, 3, none⟩ = some (.int .i64 a) := fun x => (x.cell _ (by exact block_lt_of_cell c3)).trans c3
  have l5 : ∀ x : Later W, x.val.cell? ⟨w.heap.size + 1, 5, none⟩ = some (.int .i64 b) := fun x => (x.cell _ (by exact block_lt_of_cell c5)).trans c5
  have hne := later_some W
  have fin : ∀ y : Later W, Hid (Below w.heap.size w y.val) := fun y => HW.out.trans (y.below.mono HW.out.size)
  rcases HCs.out with hn | ⟨q, hn, hq, hab, hhq⟩
  · have n1 : ¬ 0 ≤ n := by omega
    have n2 : ¬ n < -1 := by omega
    have n3 : n < 0 := by omega
    clear HCs hn
    go_wp2
    go_loopw [6] (fun s6 wx => ∃ (i : Nat) (y : Later W), i ≤ 8192 ∧ s6 = .int .i64 i ∧ wx = y.val) (fun s6 _ => 8192 - (RowKit.intOf s6).toNat)
    case atStart => exact ⟨0, ⟨W, Below.refl _ _⟩, by omega, rfl, rfl⟩
    case round =>
      obtain ⟨i, y, hi, rfl, rfl⟩ := hrel
      have hAy := (y.heap _ (Array.getElem?_eq_some_iff.1 hA).1).trans hA
      have lc3 := l3 y
      have lc5 := l5 y
      by_cases hi2 : (i : Int) < 8192
      · by_cases g1 : a ≤ (i : Int)
        · by_cases g2 : (i : Int) < b
          · by_cases g3 : n < 0 ∨ (i : Int) < n
            · have hh := HSp.out i (by omega) g1 g2 g3
              have kk : ∀ w, Calls Try.prog 10 #[.agg (blk f), .int .i64 (i : Int)] w fun e w' => e = .returned (.bool true) ∧ Below w.heap.size w w' := fun w => by
                have := k1 (i : Int) w
                rwa [hh] at this
              have g6 : n < 0 := by omega
              clear g3 hh
              go_wp2_with (first | refine wpList_later_in _ rfl W y.below ?_)
              repeat (first
                | (go_big_quiet_want; refine quiet_load25 _ rfl _ rfl _ hB ?_; simp only [Act.put, List.setIfInBounds_toArray, List.set_cons_succ, List.set_cons_zero]; go_big_quiet_on)
                | go_big_quiet_step (first
                    | (go_at_call 10; exact Later.call _ (kk _))))
              refine wpQuiet_nil ?_

              rintro _ ⟨z, rfl⟩
              go_wp2
              exact ⟨⟨i + 1, z, by omega, by go_num, rfl⟩, by simp [RowKit.intOf]; omega⟩
            · have g5 : ¬ (n < 0 ∨ (i : Int) < n) := g3
              clear g3
              exact absurd (.inl n3) g5
          · go_wp2
            exact ⟨⟨i + 1, y, by omega, by go_num, rfl⟩, by simp [RowKit.intOf]; omega⟩
        · go_wp2
          exact ⟨⟨i + 1, y, by omega, by go_num, rfl⟩, by simp [RowKit.intOf]; omega⟩
      · go_wp2
        go_ret
        exact ⟨rfl, (fin y).out⟩
  · have n1 : 0 ≤ n := by omega
    have n2 : ¬ n < a := by omega
    have n3 : ¬ n ≥ b := by omega
    have n3' : n < b := by omega
    have n4 : ¬ n > 8191 := by omega
    have n4' : n ≤ 8191 := by omega
    have n5 : ¬ n < -1 := by omega
    have n6 : ¬ n < 0 := by omega
    have d2 : decide (n < a) = false := decide_eq_false n2
    have d3 : decide (b ≤ n) = false := decide_eq_false n3
    have d4 : decide (8191 < n) = false := decide_eq_false n4
    have d5 : decide (n < -1) = false := decide_eq_false n5
    have kq : ∀ w, Calls Try.prog 10 #[.agg (blk f), .int .i64 n] w fun e w' => e = .returned (.bool false) ∧ Below w.heap.size w w' := fun w => by
      have := k1 n w
      rwa [hn, hhq, ← hn] at this
    clear HCs hn hhq hab hq
    go_wp2_with (first | refine wpList_later_in _ rfl W (Below.refl _ _) ?_)
    repeat (first
      | (go_big_quiet_want; refine quiet_load25 _ rfl _ rfl _ hB ?_; simp only [Act.put, List.setIfInBounds_toArray, List.set_cons_succ, List.set_cons_zero]; go_big_quiet_on)
      | go_big_quiet_step (first
          | (go_at_call 10; exact Later.call _ (kq _))))
    refine wpQuiet_nil ?_
    rintro _ ⟨y0, rfl⟩
    clear kq
    go_wp2
    go_loopw [6] (fun s6 wx => ∃ (i : Nat) (y : Later W), i ≤ 8192 ∧ s6 = .int .i64 i ∧ wx = y.val) (fun s6 _ => 8192 - (RowKit.intOf s6).toNat)
    case atStart => exact ⟨0, y0, by omega, rfl, rfl⟩
    case round =>
      obtain ⟨i, y, hi, rfl, rfl⟩ := hrel
      have hAy := (y.heap _ (Array.getElem?_eq_some_iff.1 hA).1).trans hA
      have lc3 := l3 y
      have lc5 := l5 y
      by_cases hi2 : (i : Int) < 8192
      · by_cases g1 : a ≤ (i : Int)
        · by_cases g2 : (i : Int) < b
          · by_cases g3 : n < 0 ∨ (i : Int) < n
            · have hh := HSp.out i (by omega) g1 g2 g3
              have kk : ∀ w, Calls Try.prog 10 #[.agg (blk f), .int .i64 (i : Int)] w fun e w' => e = .returned (.bool true) ∧ Below w.heap.size w w' := fun w => by
                have := k1 (i : Int) w
                rwa [hh] at this
              have g6 : (i : Int) < n := by omega
              clear g3 hh
              go_wp2_with (first | refine wpList_later_in _ rfl W y.below ?_)
              repeat (first
                | (go_big_quiet_want; refine quiet_load25 _ rfl _ rfl _ hB ?_; simp only [Act.put, List.setIfInBounds_toArray, List.set_cons_succ, List.set_cons_zero]; go_big_quiet_on)
                | go_big_quiet_step (first
                    | (go_at_call 10; exact Later.call _ (kk _))))
              refine wpQuiet_nil ?_

              rintro _ ⟨z, rfl⟩
              go_wp2
              exact ⟨⟨i + 1, z, by omega, by go_num, rfl⟩, by simp [RowKit.intOf]; omega⟩
            · have g5 : ¬ (n < 0 ∨ (i : Int) < n) := g3
              clear g3
              have g6 : ¬ (i : Int) < n := by omega
              have g7 : decide ((i : Int) < n) = false := decide_eq_false g6
              have g8 : decide (n < 0) = false := decide_eq_false (by omega)
              clear g5
              go_wp2
              exact ⟨⟨i + 1, y, by omega, by go_num, rfl⟩, by simp [RowKit.intOf]; omega⟩
          · go_wp2
            exact ⟨⟨i + 1, y, by omega, by go_num, rfl⟩, by simp [RowKit.intOf]; omega⟩
        · go_wp2
          exact ⟨⟨i + 1, y, by omega, by go_num, rfl⟩, by simp [RowKit.intOf]; omega⟩
      · go_wp2
        go_ret
        exact ⟨rfl, (fin y).out⟩
end Go.Proofs.Ytplgelhfombhkaa
