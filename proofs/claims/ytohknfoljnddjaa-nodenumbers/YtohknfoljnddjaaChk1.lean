/- The points of 'an inode may be', one by one: bounded, reached, counted; for every inode. -/
import Derived.Test.YtohknfoljnddjaaNums
import Derived.Test.YtohknfoljnddjaaRows2
namespace Go.Proofs.Ytohknfoljnddjaa
open Go.RowKit

abbrev BoundP (k l s : Int) : Prop := l ≤ 1000 ∧ s ≤ 67381248 ∧ (k = 1 ∨ k = 2 ∧ l ≠ 1 ∧ s % 16 = 0)
set_option maxRecDepth 20000 in
set_option maxHeartbeats 400000 in
theorem bounded_any' (k l s b : Int) (d : Nat → Int) (w : World) (h : NodeOk k l s b d) :
    Calls Try.prog 44 #[.agg (node16 k l s b d)] w fun e w' => e = .returned (.bool (decide (BoundP k l s))) ∧ Below w.heap.size w w' := by
  obtain ⟨hk0, hk1⟩ := h.k
  obtain ⟨hl0, hl1⟩ := h.l
  obtain ⟨hs0, hs1⟩ := h.s
  clear h
  unfold node16
  have fin : ∀ v : Bool, (v = true ↔ BoundP k l s) → v = decide (BoundP k l s) := fun v h => by rw [Bool.eq_iff_iff, decide_eq_true_iff]; exact h
  generalize decide (BoundP k l s) = v at *
  have HF : Hid _ := fin
  clear fin
  by_cases h1 : l ≤ 1000
  · by_cases h2 : s ≤ 67381248
    · by_cases h3 : k = 1
      · go_enter Try.func44, Try.ntmps44
        go_wp2
        go_ret
        exact ⟨ret_bool (HF.out _ (by simp; omega)), below_new _ _⟩
      · by_cases h4 : k = 2
        · by_cases h5 : l = 1
          · go_enter Try.func44, Try.ntmps44
            go_wp2
            go_ret
            exact ⟨ret_bool (HF.out _ (by simp; omega)), below_new _ _⟩
          · by_cases h6 : s % 16 = 0
            all_goals
              go_enter Try.func44, Try.ntmps44
              go_wp2
              go_ret
              exact ⟨ret_bool (HF.out _ (by simp; omega)), below_new _ _⟩
        · go_enter Try.func44, Try.ntmps44
          go_wp2
          go_ret
          exact ⟨ret_bool (HF.out _ (by simp; omega)), below_new _ _⟩
    · go_enter Try.func44, Try.ntmps44
      go_wp2
      go_ret
      exact ⟨ret_bool (HF.out _ (by simp; omega)), below_new _ _⟩
  · go_enter Try.func44, Try.ntmps44
    go_wp2
    go_ret
    exact ⟨ret_bool (HF.out _ (by simp; omega)), below_new _ _⟩

/-- The least block to which number i leads. -/
def firstN (i : Nat) : Int := if i = 11 then 266 else i
theorem first_any (i : Nat) (w : World) (h : i < 12) : Calls Try.prog 50 #[.int .i64 i] w fun e w' => e = .returned (.int .u32 (firstN i)) ∧ w' = w := by
  unfold firstN
  by_cases q : i = 11
  · subst q
    rw [if_pos rfl]
    go_enter Try.func50, Try.ntmps50
    go_wp2
    go_ret
    exact ⟨rfl, rfl⟩
  · rw [if_neg q]
    have q' : ¬ ((i : Int) = 11) := by omega
    go_enter Try.func50, Try.ntmps50
    go_wp2
    go_ret
    exact ⟨rfl, rfl⟩
abbrev ReachP (k s : Int) (d : Nat → Int) (m : Nat) : Prop := ∀ i, i < m → (d i ≠ 0 → firstN i * 1024 < s) ∧ (d i = 0 → k = 2 → s ≤ firstN i * 1024)
theorem reach_next {k s : Int} {d : Nat → Int} {m : Nat} (h : ReachP k s d m) (h1 : d m ≠ 0 → firstN m * 1024 < s) (h2 : d m = 0 → k = 2 → s ≤ firstN m * 1024) : ReachP k s d (m + 1) := fun i hi => by
  by_cases q : i = m
  · subst q; exact ⟨h1, h2⟩
  · exact h i (by omega)
theorem node_cells {W : World} {g : Nat} {k l s b : Int} {d : Nat → Int} {t : TypeId} (h : W.heap[g]? = some (.cells (node16 k l s b d) t)) :
    W.cell? ⟨g, 0, none⟩ = some (.int .u16 k) ∧ W.cell? ⟨g, 1, none⟩ = some (.int .u16 l) ∧ W.cell? ⟨g, 2, none⟩ = some (.int .u32 s) ∧ W.cell? ⟨g, 3, none⟩ = some (.int .u32 b) ∧ W.cell? ⟨g, 14, none⟩ = some (.int .u32 (d 10)) ∧ W.cell? ⟨g, 15, none⟩ = some (.int .u32 (d 11)) ∧ g < W.heap.size := by
  refine ⟨?_, ?_, ?_, ?_, ?_, ?_, (Array.getElem?_eq_some_iff.1 h).1⟩ <;> (rw [cell_of_row W g _ _ t _ h]; rfl)

set_option maxRecDepth 20000 in
set_option maxHeartbeats 1000000 in
theorem reached_any (k l s b : Int) (d : Nat → Int) (w : World) (h : NodeOk k l s b d) :
    Calls Try.prog 46 #[.agg (node16 k l s b d)] w fun e w' => e = .returned (.bool (decide (ReachP k s d 12))) ∧ Below w.heap.size w w' := by
  obtain ⟨hs0, hs1⟩ := h.s
  have HT : Hid (ReachP k s d 12 → true = decide (ReachP k s d 12)) := fun q => (decide_eq_true q).symm
  have HFF : Hid (¬ ReachP k s d 12 → false = decide (ReachP k s d 12)) := fun q => (decide_eq_false q).symm
  have hnum := fun W => numbers_any k l s b d W
  have e1 : ∀ (w : World), (w.alloc (.cells (node16 k l s b d) 27)).heap[w.heap.size]? = some (.cells (node16 k l s b d) 27) := fun w => heap_alloc_new _ _
  have e2 := fun (W : World) (h : W.heap[w.heap.size]? = some (.cells (node16 k l s b d) 27)) => node_cells h
  have HD : Hid _ := h.d
  clear h
  generalize decide (ReachP k s d 12) = v at *
  have hsz : (Try.prog.info? 27).map (·.size) = some (node16 k l s b d).size := size27
  generalize node16 k l s b d = N at *
  go_enter Try.func46, Try.ntmps46
  go_wp2_with (first | refine wpList_ldR 27 Try.underlying27 rfl rfl _ rfl _ rfl _ 27 (0, 0) hsz (heap_alloc_new _ _) ?_ | (go_at_call 25; fail))
  refine (hnum _).mono ?_
  rintro e' W1 ⟨rfl, hb1⟩
  have h1 := heap_kept (e1 w) hb1
  have HB : Hid (Below w.heap.size w W1) := below_next (below_new _ _) hb1
  obtain ⟨c0, _, c2, _, _, _, hlt⟩ := e2 W1 h1
  clear hb1 hnum e1 h1 e2 hsz
  go_wp2
  go_loopw [8] (fun s8 wx => ∃ m : Nat, m ≤ 12 ∧ s8 = .int .i64 m ∧ ReachP k s d m ∧ Below W1.heap.size W1 wx) (fun s8 _ => 12 - (intOf s8).toNat)
  case atStart => exact ⟨0, by omega, rfl, fun i hi => absurd hi (by omega), Below.refl _ _⟩
  case round =>
    obtain ⟨m, hm, rfl, hr, hbel⟩ := hrel
    have HR : Hid _ := hr
    have HW : Hid _ := hbel
    have c0' := (hbel.cell (p := ⟨w.heap.size, 0, none⟩) hlt).trans c0
    have c2' := (hbel.cell (p := ⟨w.heap.size, 2, none⟩) hlt).trans c2
    have hlt' : w.heap.size < wr.heap.size := Nat.lt_of_lt_of_le hlt hbel.size
    clear hr hbel c0 c2 hlt
    by_cases h12 : (m : Int) < 12
    · have hidx := idx62 d m (by omega)
      have hfb : 0 ≤ firstN m ∧ firstN m ≤ 266 := by unfold firstN; split <;> omega
      have HN : Hid _ := @reach_next k s d m HR.out
      have HX : Hid (ReachP k s d 12 → (d m ≠ 0 → firstN m * 1024 < s) ∧ (d m = 0 → k = 2 → s ≤ firstN m * 1024)) := fun q => q m (by omega)
      have HFI : Hid _ := fun w => first_any m w (by omega)
      generalize d m = x at *
      obtain ⟨hy0, hy1⟩ := hfb
      clear HR
      generalize firstN m = y at *
      have HWY : Hid (IntKind.u32.wrap (y * 1024) = y * 1024) := by show _ = _; rw [wrap_u32]; omega
      have HDW : Hid _ := HW.out.drew
      have cD : wr.drew.cell? ⟨w.heap.size, 2, none⟩ = some (.int .u32 s) := c2'
      have cE : wr.drew.cell? ⟨w.heap.size, 0, none⟩ = some (.int .u16 k) := c0'
      have hltd : w.heap.size < wr.drew.heap.size := hlt'
      go_wp2
      refine wp_region_ord (S := fun u => u.cell? ⟨w.heap.size, 2, none⟩ = some (.int .u32 s)) [(0, true), (3, true), (4, true), (1, false), (2, true), (5, true), (6, true)]
        (by kernel_rfl) rfl (by kernel_rfl) (fun d _ _ _ _ h => by cases d <;> exact h) cD ?_
      clear HW c0' c2' hlt'
      generalize wr.drew = wd at *
      simp only [inOrd, List.getElem?_cons_zero, List.getElem?_cons_succ]
      refine wpOrd_yield (v := .int .i64 (m : Int)) rfl (fun u _ => by simp [execOp, Act.eval]) ?_
      simp only [Act.put, List.setIfInBounds_toArray, List.set_cons_succ, List.set_cons_zero]
      refine wpOrd_yield (v := .pointer (some ⟨w.heap.size, 2, none⟩)) rfl (fun u _ => by go_simp) ?_
      simp only [Act.put, List.setIfInBounds_toArray, List.set_cons_succ, List.set_cons_zero]
      refine wpOrd_ldCT 24 (fun w => Try.isAgg24 w) rfl _ rfl _ _ rfl (.int .u32 s) (fun u hu => hu) ?_
      simp only [Act.put, List.setIfInBounds_toArray, List.set_cons_succ, List.set_cons_zero]
      refine wpOrd_call rfl 50 _ _ rfl Try.call50 [.int .i64 (m : Int)] rfl ?_
      refine (HFI.out _).mono ?_
      rintro e' X ⟨rfl, rfl⟩
      refine ⟨_, rfl, cD, ?_⟩
      simp only [Act.put, List.setIfInBounds_toArray, List.set_cons_succ, List.set_cons_zero]
      refine wpOrd_yield (v := .int .u32 (y * 1024)) rfl (fun u _ => by go_simp; exact HWY.out) ?_
      simp only [Act.put, List.setIfInBounds_toArray, List.set_cons_succ, List.set_cons_zero]
      refine wpOrd_yield (v := .bool (decide (y * 1024 < s))) rfl (fun u _ => by go_simp) ?_
      simp only [Act.put, List.setIfInBounds_toArray, List.set_cons_succ, List.set_cons_zero]
      refine wpOrd_yield (v := .bool (decide (y * 1024 < s))) rfl (fun u _ => by simp [execOp, Act.eval]) ?_
      simp only [Act.put, List.setIfInBounds_toArray, List.set_cons_succ, List.set_cons_zero]
      refine wpOrd_nil ?_
      by_cases hx : x = 0
      · by_cases hy : y * 1024 < s
        · rw [decide_eq_true hy]
          by_cases hk : k = 2
          · go_wp2
            go_ret
            exact ⟨ret_bool (HFF.out fun q => absurd ((HX.out q).2 hx hk) (by omega)), below_next HB.out HDW.out⟩
          · go_wp2
            exact ⟨⟨m + 1, by omega, by go_num, HN.out (fun q => absurd hx q) (fun _ q => absurd q hk), HDW.out⟩, by simp [intOf]; omega⟩
        · rw [decide_eq_false hy]
          go_wp2
          exact ⟨⟨m + 1, by omega, by go_num, HN.out (fun q => absurd hx q) (fun _ _ => by omega), HDW.out⟩, by simp [intOf]; omega⟩
      · by_cases hy : y * 1024 < s
        · rw [decide_eq_true hy]
          go_wp2
          exact ⟨⟨m + 1, by omega, by go_num, HN.out (fun _ => hy) (fun q => absurd q hx), HDW.out⟩, by simp [intOf]; omega⟩
        · rw [decide_eq_false hy]
          go_wp2
          go_ret
          exact ⟨ret_bool (HFF.out fun q => absurd ((HX.out q).1 hx) (by omega)), below_next HB.out HDW.out⟩
    · obtain rfl : m = 12 := by omega
      clear hm
      go_wp2
      go_ret
      exact ⟨ret_bool (HT.out HR.out), below_next HB.out HW.out⟩

/-- How many of the first m numbers are there. -/
def countN (d : Nat → Int) : Nat → Int
  | 0 => 0
  | m + 1 => countN d m + (if d m = 0 then 0 else 1)
def benN (d : Nat → Int) : Int := (if d 10 = 0 then 0 else 1) + (if d 11 = 0 then 0 else 2)
theorem count_bd (d : Nat → Int) : ∀ m : Nat, 0 ≤ countN d m ∧ countN d m ≤ m
  | 0 => by simp [countN]
  | m + 1 => by
    have := count_bd d m
    simp only [countN]
    split <;> omega
abbrev CountP (b : Int) (d : Nat → Int) : Prop := if benN d = 0 then b = countN d 12 else countN d 12 + benN d ≤ b
set_option maxRecDepth 20000 in
set_option maxHeartbeats 1000000 in
theorem counted_any (k l s b : Int) (d : Nat → Int) (w : World) (h : NodeOk k l s b d) :
    Calls Try.prog 47 #[.agg (node16 k l s b d)] w fun e w' => e = .returned (.bool (decide (CountP b d))) ∧ Below w.heap.size w w' := by
  obtain ⟨hb0, hb1⟩ := h.b
  have HV : Hid (∀ u : Bool, (u = true ↔ (if (if d 10 = 0 then (0 : Int) else 1) + (if d 11 = 0 then 0 else 2) = 0 then b = countN d 12 else countN d 12 + ((if d 10 = 0 then 0 else 1) + (if d 11 = 0 then 0 else 2)) ≤ b)) → u = decide (CountP b d)) := fun u q => by
    rw [Bool.eq_iff_iff, decide_eq_true_iff]; unfold CountP benN; exact q
  generalize decide (CountP b d) = v at *
  have hnum := fun W => numbers_any k l s b d W
  have e1 : ∀ (w : World), (w.alloc (.cells (node16 k l s b d) 27)).heap[w.heap.size]? = some (.cells (node16 k l s b d) 27) := fun w => heap_alloc_new _ _
  have e2 := fun (W : World) (h : W.heap[w.heap.size]? = some (.cells (node16 k l s b d) 27)) => node_cells h
  have HC := count_bd d
  clear h
  have hsz : (Try.prog.info? 27).map (·.size) = some (node16 k l s b d).size := size27
  generalize node16 k l s b d = N at *
  go_enter Try.func47, Try.ntmps47
  go_wp2_with (first | refine wpList_ldR 27 Try.underlying27 rfl rfl _ rfl _ rfl _ 27 (0, 0) hsz (heap_alloc_new _ _) ?_ | (go_at_call 25; fail))
  refine (hnum _).mono ?_
  rintro e' W1 ⟨rfl, hb2⟩
  have h1 := heap_kept (e1 w) hb2
  have HB : Hid (Below w.heap.size w W1) := below_next (below_new _ _) hb2
  obtain ⟨_, _, _, c3, c14, c15, hlt⟩ := e2 W1 h1
  clear hb2 hnum e1 h1 e2 hsz
  go_wp2
  go_loopw [3, 9] (fun s3 s9 wx => ∃ m : Nat, m ≤ 12 ∧ s9 = .int .i64 m ∧ s3 = .int .u32 (countN d m) ∧ wx = W1) (fun _ s9 _ => 12 - (intOf s9).toNat)
  case atStart => exact ⟨0, by omega, rfl, rfl, rfl⟩
  case round =>
    obtain ⟨m, hm, rfl, rfl, rfl⟩ := hrel
    obtain ⟨hc0, hc1⟩ := HC m
    by_cases h12 : (m : Int) < 12
    · have hidx := idx62 d m (by omega)
      have HN : Hid (countN d (m + 1) = countN d m + (if d m = 0 then 0 else 1)) := rfl
      clear HC
      generalize countN d m = y at *
      generalize d m = x at *
      by_cases hx : x = 0
      · have HZ : Hid (countN d (m + 1) = y) := by show _ = _; rw [HN.out, if_pos hx]; omega
        clear HN
        go_wp2
        exact ⟨⟨m + 1, by omega, by go_num, by rw [HZ.out], trivial⟩, by simp [intOf]; omega⟩
      · have HZ : Hid (countN d (m + 1) = y + 1) := by show _ = _; rw [HN.out, if_neg hx]
        clear HN
        go_wp2
        exact ⟨⟨m + 1, by omega, by go_num, by rw [HZ.out], trivial⟩, by simp [intOf]; omega⟩
    · obtain rfl : m = 12 := by omega
      clear HC hm
      generalize countN d 12 = y at *
      generalize d 10 = x0 at *
      generalize d 11 = x1 at *
      by_cases q0 : x0 = 0
      all_goals by_cases q1 : x1 = 0
      all_goals
        go_wp2
        go_ret
        exact ⟨ret_bool (HV.out _ (by simp [q0, q1]; try omega)), HB.out⟩
end Go.Proofs.Ytohknfoljnddjaa
