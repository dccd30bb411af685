/- The document's own 'may an inode be': for every inode and every bounds. -/
import Derived.Test.YtohknfoljnddjaaChk3
namespace Go.Proofs.Ytohknfoljnddjaa
open Go.RowKit

theorem reaches_any (s : Int) (i : Nat) (w : World) (hs : 0 ≤ s ∧ s < 4294967296) (h : i < 12) :
    Calls Try.prog 48 #[.int .i64 ((s + 1023) / 1024), .int .i64 i] w fun e w' => e = .returned (.bool (decide (firstN i * 1024 < s))) ∧ w' = w := by
  have HX : Hid (∀ u : Bool, (u = true ↔ firstN i * 1024 < s) → u = decide (firstN i * 1024 < s)) := fun u q => by rw [Bool.eq_iff_iff, decide_eq_true_iff]; exact q
  generalize decide (firstN i * 1024 < s) = v at *
  have HF : Hid (firstN i = if i = 11 then 266 else (i : Int)) := rfl
  generalize firstN i = y at *
  obtain ⟨m, hm⟩ : ∃ m : Int, m = (s + 1023) / 1024 := ⟨_, rfl⟩
  rw [← hm]
  have HM : Hid (m = (s + 1023) / 1024) := hm
  have hm0 : 0 ≤ m := by omega
  have hm1 : m ≤ 9999999 := by omega
  clear hm
  by_cases h1 : (i : Int) < 10
  · have HY : Hid (y = i) := by show _ = _; rw [HF.out, if_neg (by omega)]
    clear HF
    by_cases h2 : (i : Int) < m
    all_goals
      go_enter Try.func48, Try.ntmps48
      go_wp2
      go_ret
      exact ⟨ret_bool (HX.out _ (by have := HY.out; have := HM.out; simp; omega)), rfl⟩
  · by_cases h2 : (i : Int) = 10
    · have HY : Hid (y = 10) := by show _ = _; rw [HF.out, if_neg (by omega)]; omega
      clear HF
      by_cases h3 : 10 < m
      all_goals
        go_enter Try.func48, Try.ntmps48
        go_wp2
        go_ret
        exact ⟨ret_bool (HX.out _ (by have := HY.out; have := HM.out; simp; omega)), rfl⟩
    · have HY : Hid (y = 266) := by show _ = _; rw [HF.out, if_pos (by omega)]
      clear HF
      by_cases h3 : 266 < m
      all_goals
        go_enter Try.func48, Try.ntmps48
        go_wp2
        go_ret
        exact ⟨ret_bool (HX.out _ (by have := HY.out; have := HM.out; simp; omega)), rfl⟩
theorem mayV_iff (lo hi k l s b : Int) (d : Nat → Int) : mayV lo hi k l s b d = true ↔ (sameNode k l s b d 0 0 0 0 nought = true ∨ BoundP k l s ∧ PlaceP lo hi d 12 ∧ ReachP k s d 12 ∧ CountP b d) := by
  unfold mayV
  simp only [Bool.or_eq_true, Bool.and_eq_true, decide_eq_true_eq]
theorem mayV_free (lo hi l s b : Int) (d : Nat → Int) : sameNode 0 l s b d 0 0 0 0 nought = mayV lo hi 0 l s b d := by
  rw [Bool.eq_iff_iff, mayV_iff]
  constructor
  · exact .inl
  · rintro (q | q)
    · exact q
    · have := q.1; unfold BoundP at this; omega
theorem mayV_not {lo hi k l s b : Int} {d : Nat → Int} (hk : k ≠ 0) (h : ¬ (BoundP k l s ∧ PlaceP lo hi d 12 ∧ ReachP k s d 12 ∧ CountP b d)) : false = mayV lo hi k l s b d := by
  cases hq : mayV lo hi k l s b d
  · rfl
  · rcases (mayV_iff ..).1 hq with q | q
    · exact absurd ((sameNode_iff ..).1 q).1 hk
    · exact absurd q h
theorem mayV_yes {lo hi k l s b : Int} {d : Nat → Int} (h : BoundP k l s ∧ PlaceP lo hi d 12 ∧ ReachP k s d 12 ∧ CountP b d) : true = mayV lo hi k l s b d := ((mayV_iff ..).2 (.inr h)).symm

set_option maxRecDepth 20000 in
set_option maxHeartbeats 400000 in
theorem refMay_free (B L I a c dd e f lo : Int) (l s b : Int) (d : Nat → Int) (w : World) :
    Calls Try.prog 39 #[.agg (lay9 B L I a c dd e f lo), .agg (node16 0 l s b d)] w fun e' w' => e' = .returned (.bool (mayV lo B 0 l s b d)) ∧ Below w.heap.size w w' := by
  rw [← mayV_free]
  have z27 := zero27
  have heq := fun w => eq27 0 l s b d 0 0 0 0 nought w
  have H27 : Hid ((Try.prog.info? 27).map (·.size) = some (node16 0 l s b d).size) := size27
  have n0 : (node16 0 l s b d)[0]? = some (.int .u16 0) := rfl
  generalize sameNode 0 l s b d 0 0 0 0 nought = v0 at *
  generalize node16 0 l s b d = N at *
  generalize node16 0 0 0 0 nought = O at *
  generalize lay9 B L I a c dd e f lo = Y at *
  go_enter Try.func39, Try.ntmps39
  go_wp2_with (first | refine wpList_ldR 27 Try.underlying27 rfl rfl _ rfl _ rfl _ 27 (0, 0) H27.out (heap_alloc2_new _ _ _) ?_)
  go_ret
  exact ⟨rfl, bel_al (below_new _ _) _⟩
set_option maxRecDepth 20000 in
set_option maxHeartbeats 400000 in
theorem refMay_out (B L I a c dd e f lo : Int) (k l s b : Int) (d : Nat → Int) (w : World) (h : NodeOk k l s b d) (hk : k ≠ 0) (hb : ¬ ((k = 1 ∨ k = 2) ∧ l ≤ 1000 ∧ s ≤ 67381248)) :
    Calls Try.prog 39 #[.agg (lay9 B L I a c dd e f lo), .agg (node16 k l s b d)] w fun e' w' => e' = .returned (.bool (mayV lo B k l s b d)) ∧ Below w.heap.size w w' := by
  rw [← mayV_not (lo := lo) (hi := B) (b := b) (d := d) hk (fun q => by have := q.1; unfold BoundP at this; omega)]
  obtain ⟨hk0, hk1⟩ := h.k
  obtain ⟨hl0, hl1⟩ := h.l
  obtain ⟨hs0, hs1⟩ := h.s
  have hk' : ¬ k = 0 := hk
  clear h hk
  unfold node16
  generalize lay9 B L I a c dd e f lo = Y at *
  by_cases h1 : k = 1
  · have hb' : ¬ (l ≤ 1000 ∧ s ≤ 67381248) := fun q => hb ⟨.inl h1, q⟩
    clear hb
    by_cases h2 : l ≤ 1000
    · have h3 : ¬ s ≤ 67381248 := fun q => hb' ⟨h2, q⟩
      clear hb'
      go_enter Try.func39, Try.ntmps39
      go_wp2
      go_ret
      exact ⟨rfl, bel_al (below_new _ _) _⟩
    · clear hb'
      go_enter Try.func39, Try.ntmps39
      go_wp2
      go_ret
      exact ⟨rfl, bel_al (below_new _ _) _⟩
  · by_cases h4 : k = 2
    · have hb' : ¬ (l ≤ 1000 ∧ s ≤ 67381248) := fun q => hb ⟨.inr h4, q⟩
      clear hb
      by_cases h2 : l ≤ 1000
      · have h3 : ¬ s ≤ 67381248 := fun q => hb' ⟨h2, q⟩
        clear hb'
        go_enter Try.func39, Try.ntmps39
        go_wp2
        go_ret
        exact ⟨rfl, bel_al (below_new _ _) _⟩
      · clear hb'
        go_enter Try.func39, Try.ntmps39
        go_wp2
        go_ret
        exact ⟨rfl, bel_al (below_new _ _) _⟩
    · clear hb
      go_enter Try.func39, Try.ntmps39
      go_wp2
      go_ret
      exact ⟨rfl, bel_al (below_new _ _) _⟩

/-- What stands below stays: the inode's row, the layout's and that of the numbers. -/
structure MR (w W : World) (Y N : Array Value) (g : Nat) (d : Nat → Int) : Prop where
  lay : W.heap[w.heap.size]? = some (.cells Y 43)
  node : W.heap[w.heap.size + 1]? = some (.cells N 27)
  row : W.heap[g]? = some (.cells (w12 d) 62)
  bel : Below w.heap.size w W
theorem MR.drew {w W : World} {Y N : Array Value} {g : Nat} {d : Nat → Int} (h : MR w W Y N g d) : MR w W.drew Y N g d := ⟨h.lay, h.node, h.row, h.bel.drew⟩
theorem MR.drewN {w W : World} {Y N : Array Value} {g : Nat} {d : Nat → Int} (h : MR w W Y N g d) (n : Nat) : MR w (W.drewN n) Y N g d := ⟨h.lay, h.node, h.row, below_drewN h.bel n⟩
theorem MR.at {w W : World} {Y N : Array Value} {g : Nat} {d : Nat → Int} (h : MR w W Y N g d) (i : Nat) (hi : i < 12) : W.cell? ⟨g, i, none⟩ = some (.int .u32 (d i)) := (cell_of_row W g i _ 62 _ h.row).trans (w12_get d i hi)
theorem MR.layAt {w W : World} {Y N : Array Value} {g : Nat} {d : Nat → Int} (h : MR w W Y N g d) (i : Nat) (v : Value) (hi : Y[i]? = some v) : W.cell? ⟨w.heap.size, i, none⟩ = some v := (cell_of_row W _ i _ 43 _ h.lay).trans hi
theorem MR.nodeAt {w W : World} {Y N : Array Value} {g : Nat} {d : Nat → Int} (h : MR w W Y N g d) (i : Nat) (v : Value) (hi : N[i]? = some v) : W.cell? ⟨w.heap.size + 1, i, none⟩ = some v := (cell_of_row W _ i _ 27 _ h.node).trans hi
theorem MR.lt {w W : World} {Y N : Array Value} {g : Nat} {d : Nat → Int} (h : MR w W Y N g d) : w.heap.size < W.heap.size ∧ w.heap.size + 1 < W.heap.size ∧ g < W.heap.size := ⟨(Array.getElem?_eq_some_iff.1 h.lay).1, (Array.getElem?_eq_some_iff.1 h.node).1, (Array.getElem?_eq_some_iff.1 h.row).1⟩
theorem has_no {d : Nat → Int} {i : Nat} (h : ∀ j, j < i → d j ≠ d i) : hasB d i (d i) = false := by
  cases q : hasB d i (d i)
  · rfl
  · obtain ⟨j, hj, e⟩ := (hasB_iff ..).1 q
    exact absurd e (h j hj)
theorem has_yes {d : Nat → Int} {i j : Nat} (hj : j < i) (h : d j = d i) : ¬ hasB d i (d i) = false := by
  rw [(hasB_iff ..).2 ⟨j, hj, h⟩]; simp
set_option maxRecDepth 20000 in
set_option maxHeartbeats 4000000 in
theorem refMay_in (B L I a c dd e f lo : Int) (k l s b : Int) (d : Nat → Int) (w : World) (h : NodeOk k l s b d) (hk : k = 1 ∨ k = 2) (hl : l ≤ 1000) (hs : s ≤ 67381248) :
    Calls Try.prog 39 #[.agg (lay9 B L I a c dd e f lo), .agg (node16 k l s b d)] w fun e' w' => e' = .returned (.bool (mayV lo B k l s b d)) ∧ Below w.heap.size w w' := by
  have hk0 : k ≠ 0 := by omega
  have HNP : Hid (∀ i, i < 12 → d i ≠ 0 → ¬ (lo ≤ d i ∧ d i < B ∧ hasB d i (d i) = false) → false = mayV lo B k l s b d) := fun i hi q1 q2 => mayV_not hk0 fun q => q2 (q.2.1 i hi q1)
  have HNR : Hid (∀ i, i < 12 → ¬ ((d i ≠ 0 → firstN i * 1024 < s) ∧ (d i = 0 → k = 2 → s ≤ firstN i * 1024)) → false = mayV lo B k l s b d) := fun i hi q2 => mayV_not hk0 fun q => q2 (q.2.2.1 i hi)
  have HNC : Hid (¬ CountP b d → false = mayV lo B k l s b d) := fun q2 => mayV_not hk0 fun q => q2 q.2.2.2
  have HNB : Hid (¬ BoundP k l s → false = mayV lo B k l s b d) := fun q2 => mayV_not hk0 fun q => q2 q.1
  have HY : Hid (BoundP k l s ∧ PlaceP lo B d 12 ∧ ReachP k s d 12 ∧ CountP b d → true = mayV lo B k l s b d) := fun q => mayV_yes q
  generalize mayV lo B k l s b d = v at *
  obtain ⟨hl0, _⟩ := h.l
  obtain ⟨hs0, hs1⟩ := h.s
  obtain ⟨hb0, hb1⟩ := h.b
  have HD : Hid _ := h.d
  have HCB := count_bd d
  have HC : Hid _ := HCB
  clear h HCB
  have z62 := zero62
  have hnum := fun W => refNumbers_any k l s b d W
  have hrc := fun i (hi : i < 12) W => reaches_any s i W ⟨hs0, hs1⟩ hi
  have HRC : Hid _ := hrc
  clear hrc
  have n0 : (node16 k l s b d)[0]? = some (.int .u16 k) := rfl
  have n1 : (node16 k l s b d)[1]? = some (.int .u16 l) := rfl
  have n2 : (node16 k l s b d)[2]? = some (.int .u32 s) := rfl
  have N0 : Hid _ := n0
  have N1 : Hid _ := n1
  have N2 : Hid _ := n2
  have N3 : Hid ((node16 k l s b d)[3]? = some (.int .u32 b)) := rfl
  have N14 : Hid ((node16 k l s b d)[14]? = some (.int .u32 (d 10))) := rfl
  have N15 : Hid ((node16 k l s b d)[15]? = some (.int .u32 (d 11))) := rfl
  have L0 : Hid ((lay9 B L I a c dd e f lo)[0]? = some (.int .i64 B)) := rfl
  have L8 : Hid ((lay9 B L I a c dd e f lo)[8]? = some (.int .i64 lo)) := rfl
  have H27 : Hid ((Try.prog.info? 27).map (·.size) = some (node16 k l s b d).size) := size27
  generalize node16 k l s b d = N at *
  generalize lay9 B L I a c dd e f lo = Y at *
  have hk1 : k = 1 ∨ k = 2 := hk
  have HK : Hid _ := hk1
  clear hk1
  rcases hk with rfl | rfl
  · go_enter Try.func39, Try.ntmps39
    go_wp2_with (first | refine wpList_ldR 27 Try.underlying27 rfl rfl _ rfl _ rfl _ 27 (0, 0) H27.out (heap_alloc2_new _ _ _) ?_ | (go_at_call 29; fail))
    refine (hnum _).mono ?_
    rintro e' W1 ⟨rfl, hb1'⟩
    have HM : Hid (MR w (W1.alloc (.cells (w12 d) 62)) Y N W1.heap.size d) := ⟨heap_kept (heap_kept (heap_alloc2_old _ _ _) hb1') (below_new _ _), heap_kept (heap_kept (heap_alloc2_new _ _ _) hb1') (below_new _ _), heap_alloc_new _ _, below_next (below_next (bel_al (below_new _ _) _) hb1') (below_new _ _)⟩
    clear hnum hb1' H27 n0 n1 n2
    go_wp2_with (first | refine wpList_stNew 62 rfl _ _ rfl _ _ _ 62 (by rw [w12_size]; exact size62) (by rfl) (w12_one _) rfl rfl rfl ?_)
    generalize W1.heap.size = g at *
    go_loopw [6, 7] (fun s6 s7 wx => ∃ m : Nat, m ≤ 12 ∧ s7 = .int .i64 m ∧ s6 = .int .u32 (countN d m) ∧ PlaceP lo B d m ∧ MR w wx Y N g d) (fun _ s7 _ => 12 - (intOf s7).toNat)
    case atStart => exact ⟨0, by omega, rfl, rfl, fun i hi => absurd hi (by omega), HM.out⟩
    case round =>
      obtain ⟨m, hm, rfl, rfl, hr, hmr⟩ := hrel
      have HR : Hid _ := hr
      have HW : Hid _ := hmr
      clear hr HM
      obtain ⟨lt0, lt1, lt2⟩ := hmr.lt
      by_cases h12 : (m : Int) < 12
      · have hcm := hmr.at m (by omega)
        have y0 := hmr.layAt 0 _ L0.out
        have y8 := hmr.layAt 8 _ L8.out
        obtain ⟨hc0, hc1⟩ := HC.out m
        obtain ⟨hx0, hx1⟩ := HD.out m
        have HN : Hid (countN d (m + 1) = countN d m + (if d m = 0 then 0 else 1)) := rfl
        have HPN : Hid _ := @place_next lo B d m HR.out
        have HX : Hid _ := HNP.out m (by omega)
        clear hmr
        by_cases hx : d m = 0
        · have HZ : Hid (countN d (m + 1) = countN d m) := by show _ = _; rw [HN.out, if_pos hx]; omega
          have HPP : Hid _ := HPN.out (fun q => absurd hx q)
          clear HN HPN HX
          generalize countN d m = cnt at *
          rw [hx] at hcm
          go_wp2
          exact ⟨⟨m + 1, by omega, by go_num, by rw [HZ.out], HPP.out, HW.out⟩, by simp [intOf]; omega⟩
        · have HZ : Hid (countN d (m + 1) = countN d m + 1) := by show _ = _; rw [HN.out, if_neg hx]
          clear HN
          generalize hxx : d m = x at *
          have HXX : Hid _ := hxx
          clear hxx
          generalize countN d m = cnt at *
          by_cases hlo : x < lo
          · go_wp2
            go_quiet (fail)
            go_wp2
            go_ret
            exact ⟨ret_bool (HX.out hx (by omega)), below_drewN HW.out.bel _⟩
          · have hxi : IntKind.i64.wrap x = x := by rw [IntKind.wrap_i64]; omega
            have HLT : Hid _ := h12
            go_wp2
            refine wp_region_ord (S := fun u => MR w u Y N g d) [(0, true), (1, true), (2, true), (3, true), (4, true), (5, true), (6, true), (7, true), (8, true), (9, true), (10, true), (11, true), (12, true), (13, true), (14, true), (15, true), (16, true)]
              (by kernel_rfl) rfl (by kernel_rfl) (fun d _ _ _ _ h => by cases d <;> exact h) HW.out.drew ?_
            have HWD : Hid _ := HW.out.drew
            clear HW hcm y0 y8 lt0 lt1 lt2
            generalize wr.drew = wd at *
            simp only [inOrd, List.getElem?_cons_zero, List.getElem?_cons_succ]
            refine wpOrd_yield (v := .int .i64 (m : Int)) rfl (fun u _ => by simp [execOp, Act.eval]) ?_
            simp only [Act.put, List.setIfInBounds_toArray, List.set_cons_succ, List.set_cons_zero]
            refine wpOrd_yield (v := .pointer (some ⟨g, m, none⟩)) rfl (fun u _ => by go_simp) ?_
            simp only [Act.put, List.setIfInBounds_toArray, List.set_cons_succ, List.set_cons_zero]
            refine wpOrd_ldCT 24 (fun w => Try.isAgg24 w) rfl _ rfl _ _ rfl (.int .u32 x) (fun u hu => by rw [hu.at m (by omega), HXX.out]) ?_
            simp only [Act.put, List.setIfInBounds_toArray, List.set_cons_succ, List.set_cons_zero]
            refine wpOrd_yield (v := .int .i64 x) rfl (fun u _ => by go_simp) ?_
            simp only [Act.put, List.setIfInBounds_toArray, List.set_cons_succ, List.set_cons_zero]
            refine wpOrd_yield (v := .pointer (some ⟨w.heap.size, 8, none⟩)) rfl (fun u _ => by go_simp) ?_
            simp only [Act.put, List.setIfInBounds_toArray, List.set_cons_succ, List.set_cons_zero]
            refine wpOrd_ldCT 3 (fun w => Try.isAgg3 w) rfl _ rfl _ _ rfl (.int .i64 lo) (fun u hu => hu.layAt 8 _ L8.out) ?_
            simp only [Act.put, List.setIfInBounds_toArray, List.set_cons_succ, List.set_cons_zero]
            refine wpOrd_yield (v := .bool false) rfl (fun u _ => by go_simp) ?_
            simp only [Act.put, List.setIfInBounds_toArray, List.set_cons_succ, List.set_cons_zero]
            refine wpOrd_yield (v := .bool false) rfl (fun u _ => by simp [execOp, Act.eval]) ?_
            simp only [Act.put, List.setIfInBounds_toArray, List.set_cons_succ, List.set_cons_zero]
            refine wpOrd_yield (v := .int .i64 (m : Int)) rfl (fun u _ => by simp [execOp, Act.eval]) ?_
            simp only [Act.put, List.setIfInBounds_toArray, List.set_cons_succ, List.set_cons_zero]
            refine wpOrd_yield (v := .pointer (some ⟨g, m, none⟩)) rfl (fun u _ => by go_simp) ?_
            simp only [Act.put, List.setIfInBounds_toArray, List.set_cons_succ, List.set_cons_zero]
            refine wpOrd_ldCT 24 (fun w => Try.isAgg24 w) rfl _ rfl _ _ rfl (.int .u32 x) (fun u hu => by rw [hu.at m (by omega), HXX.out]) ?_
            simp only [Act.put, List.setIfInBounds_toArray, List.set_cons_succ, List.set_cons_zero]
            refine wpOrd_yield (v := .int .i64 x) rfl (fun u _ => by go_simp) ?_
            simp only [Act.put, List.setIfInBounds_toArray, List.set_cons_succ, List.set_cons_zero]
            refine wpOrd_yield (v := .pointer (some ⟨w.heap.size, 0, none⟩)) rfl (fun u _ => by go_simp) ?_
            simp only [Act.put, List.setIfInBounds_toArray, List.set_cons_succ, List.set_cons_zero]
            refine wpOrd_yield (v := .pointer (some ⟨w.heap.size, 0, none⟩)) rfl (fun u _ => by go_simp) ?_
            simp only [Act.put, List.setIfInBounds_toArray, List.set_cons_succ, List.set_cons_zero]
            refine wpOrd_ldCT 3 (fun w => Try.isAgg3 w) rfl _ rfl _ _ rfl (.int .i64 B) (fun u hu => hu.layAt 0 _ L0.out) ?_
            simp only [Act.put, List.setIfInBounds_toArray, List.set_cons_succ, List.set_cons_zero]
            refine wpOrd_yield (v := .bool (decide (B ≤ x))) rfl (fun u _ => by go_simp) ?_
            simp only [Act.put, List.setIfInBounds_toArray, List.set_cons_succ, List.set_cons_zero]
            refine wpOrd_yield (v := .bool (decide (B ≤ x))) rfl (fun u _ => by go_simp) ?_
            simp only [Act.put, List.setIfInBounds_toArray, List.set_cons_succ, List.set_cons_zero]
            refine wpOrd_nil ?_
            by_cases hhi : B ≤ x
            · rw [decide_eq_true hhi]
              go_wp2
              go_ret
              exact ⟨ret_bool (HX.out hx (by omega)), HWD.out.bel⟩
            · rw [decide_eq_false hhi]
              go_wp2
              go_loopw [8] (fun s8 wx => ∃ j : Nat, j ≤ m ∧ s8 = .int .i64 j ∧ (∀ i, i < j → d i ≠ x) ∧ MR w wx Y N g d) (fun s8 _ => m - (intOf s8).toNat)
              case atStart => exact ⟨0, by omega, rfl, fun i hi => absurd hi (by omega), HWD.out⟩
              case round =>
                obtain ⟨j, hj, rfl, hno, hmr⟩ := hrel
                have HNO : Hid _ := hno
                have HV : Hid _ := hmr
                clear hno HWD
                by_cases hjm : (j : Int) < m
                · have HJ : Hid (d j ≠ x → ∀ i, i < j + 1 → d i ≠ x) := fun q i hi => by
                    by_cases e : i = j
                    · rw [e]; exact q
                    · exact HNO.out i (by omega)
                  have HYES : Hid (d j = x → ¬ hasB d m x = false) := fun q => by rw [← HXX.out]; exact @has_yes d m j (by omega) (by rw [q, HXX.out])
                  clear HNO hmr
                  generalize hzz : d j = z at *
                  have HZZ : Hid _ := hzz
                  clear hzz
                  go_wp2
                  refine wp_region_ord (S := fun u => MR w u Y N g d) [(0, true), (1, true), (2, true), (3, true), (4, true), (5, true), (6, true)]
                    (by kernel_rfl) rfl (by kernel_rfl) (fun d _ _ _ _ h => by cases d <;> exact h) HV.out.drew ?_
                  have HVD : Hid _ := HV.out.drew
                  clear HV
                  generalize wr.drew = we at *
                  simp only [inOrd, List.getElem?_cons_zero, List.getElem?_cons_succ]
                  refine wpOrd_yield (v := .int .i64 (j : Int)) rfl (fun u _ => by simp [execOp, Act.eval]) ?_
                  simp only [Act.put, List.setIfInBounds_toArray, List.set_cons_succ, List.set_cons_zero]
                  refine wpOrd_yield (v := .pointer (some ⟨g, j, none⟩)) rfl (fun u _ => by go_simp; intro q; omega) ?_
                  simp only [Act.put, List.setIfInBounds_toArray, List.set_cons_succ, List.set_cons_zero]
                  refine wpOrd_ldCT 24 (fun w => Try.isAgg24 w) rfl _ rfl _ _ rfl (.int .u32 z) (fun u hu => by rw [hu.at j (by omega), HZZ.out]) ?_
                  simp only [Act.put, List.setIfInBounds_toArray, List.set_cons_succ, List.set_cons_zero]
                  refine wpOrd_yield (v := .int .i64 (m : Int)) rfl (fun u _ => by simp [execOp, Act.eval]) ?_
                  simp only [Act.put, List.setIfInBounds_toArray, List.set_cons_succ, List.set_cons_zero]
                  refine wpOrd_yield (v := .pointer (some ⟨g, m, none⟩)) rfl (fun u _ => by go_simp) ?_
                  simp only [Act.put, List.setIfInBounds_toArray, List.set_cons_succ, List.set_cons_zero]
                  refine wpOrd_ldCT 24 (fun w => Try.isAgg24 w) rfl _ rfl _ _ rfl (.int .u32 x) (fun u hu => by rw [hu.at m (by omega), HXX.out]) ?_
                  simp only [Act.put, List.setIfInBounds_toArray, List.set_cons_succ, List.set_cons_zero]
                  refine wpOrd_yield (v := .bool (decide (z = x))) rfl (fun u _ => by go_simp; rw [Bool.eq_iff_iff]; simp) ?_
                  simp only [Act.put, List.setIfInBounds_toArray, List.set_cons_succ, List.set_cons_zero]
                  refine wpOrd_nil ?_
                  by_cases hzx : z = x
                  · rw [decide_eq_true hzx]
                    go_wp2
                    go_ret
                    exact ⟨ret_bool (HX.out hx (fun q => HYES.out hzx q.2.2)), HVD.out.bel⟩
                  · rw [decide_eq_false hzx]
                    go_wp2
                    exact ⟨⟨j + 1, by omega, by go_num, HJ.out hzx, HVD.out⟩, by simp [intOf]; omega⟩
                · obtain rfl : j = m := by omega
                  have HHAS : Hid (hasB d j x = false) := by
                    show _ = _
                    have := @has_no d j (fun i hi => by rw [HXX.out]; exact HNO.out i hi)
                    rwa [HXX.out] at this
                  clear hmr
                  go_wp2
                  exact ⟨⟨j + 1, by omega, by go_num, by rw [HZ.out], HPN.out (fun _ => ⟨by omega, by omega, HHAS.out⟩), HV.out⟩, by simp [intOf]; omega⟩
      · obtain rfl : m = 12 := by omega
        have c2 := hmr.nodeAt 2 _ N2.out
        have HPL : Hid _ := HR.out
        obtain ⟨hct0, hct1⟩ := HC.out 12
        clear HR hmr hm
        have hsm : IntKind.i64.wrap s = s := by rw [IntKind.wrap_i64]; omega
        go_wp2
        rw [show s + 1024 - 1 = s + 1023 by omega]
        go_loopw [10] (fun s10 wx => ∃ m : Nat, m ≤ 12 ∧ s10 = .int .i64 m ∧ ReachP 1 s d m ∧ MR w wx Y N g d) (fun s10 _ => 12 - (intOf s10).toNat)
        case atStart => exact ⟨0, by omega, rfl, fun i hi => absurd hi (by omega), HW.out⟩
        case round =>
          obtain ⟨m, hm, rfl, hr, hmr⟩ := hrel
          have HR : Hid _ := hr
          have HV : Hid _ := hmr
          clear hr HW c2 lt0 lt1 lt2
          obtain ⟨lt0, lt1, lt2⟩ := hmr.lt
          have c0 := hmr.nodeAt 0 _ N0.out
          by_cases h12' : (m : Int) < 12
          · have hcm := hmr.at m (by omega)
            have HRN : Hid _ := @reach_next 1 s d m HR.out
            have HX : Hid _ := HNR.out m (by omega)
            have HR1 : Hid _ := HRC.out m (by omega)
            clear hmr HR HRC
            generalize d m = x at *
            generalize firstN m = y at *
            by_cases hx : x = 0
            · by_cases hy : y * 1024 < s
              · rw [decide_eq_true hy] at HR1
                go_wp2_with (first | (go_at_call 48; refine (HR1.out _).mono ?_; rintro e' W2 ⟨rfl, rfl⟩))
                first
                  | (go_ret; exact ⟨ret_bool (HX.out (by intro q; have := q.2 hx (by simp); omega)), HV.out.bel⟩)
                  | exact ⟨⟨m + 1, by omega, by go_num, HRN.out (fun q => absurd hx q) (fun _ q => by omega), HV.out⟩, by simp [intOf]; omega⟩
              · rw [decide_eq_false hy] at HR1
                go_wp2_with (first | (go_at_call 48; refine (HR1.out _).mono ?_; rintro e' W2 ⟨rfl, rfl⟩))
                exact ⟨⟨m + 1, by omega, by go_num, HRN.out (fun q => absurd hx q) (fun _ _ => by omega), HV.out⟩, by simp [intOf]; omega⟩
            · by_cases hy : y * 1024 < s
              · rw [decide_eq_true hy] at HR1
                go_wp2_with (first | (go_at_call 48; refine (HR1.out _).mono ?_; rintro e' W2 ⟨rfl, rfl⟩))
                exact ⟨⟨m + 1, by omega, by go_num, HRN.out (fun _ => hy) (fun q => absurd q hx), HV.out⟩, by simp [intOf]; omega⟩
              · rw [decide_eq_false hy] at HR1
                go_wp2_with (first | (go_at_call 48; refine (HR1.out _).mono ?_; rintro e' W2 ⟨rfl, rfl⟩))
                go_ret
                exact ⟨ret_bool (HX.out (by intro q; have := q.1 hx; omega)), HV.out.bel⟩
          · obtain rfl : m = 12 := by omega
            have c1 := hmr.nodeAt 1 _ N1.out
            have c2 := hmr.nodeAt 2 _ N2.out
            have c3 := hmr.nodeAt 3 _ N3.out
            have c14 := hmr.nodeAt 14 _ N14.out
            have c15 := hmr.nodeAt 15 _ N15.out
            have HNC2 : Hid (¬ (if (if d 10 = 0 then (0 : Int) else 1) + (if d 11 = 0 then 0 else 2) = 0 then b = countN d 12 else countN d 12 + ((if d 10 = 0 then 0 else 1) + (if d 11 = 0 then 0 else 2)) ≤ b) → false = v) := fun q => HNC.out (by unfold CountP benN; exact q)
            have HY2 : Hid (BoundP 1 l s → (if (if d 10 = 0 then (0 : Int) else 1) + (if d 11 = 0 then 0 else 2) = 0 then b = countN d 12 else countN d 12 + ((if d 10 = 0 then 0 else 1) + (if d 11 = 0 then 0 else 2)) ≤ b) → true = v) := fun q1 q2 => HY.out ⟨q1, HPL.out, HR.out, by unfold CountP benN; exact q2⟩
            clear hmr HR HPL HNC HY HNP HNR HRC hm
            generalize countN d 12 = cnt at *
            generalize d 10 = z0 at *
            generalize d 11 = z1 at *
            by_cases q0 : z0 = 0
            · by_cases q1 : z1 = 0
              · by_cases hb : b = cnt
                · subst hb
                  go_wp2
                  go_ret
                  exact ⟨ret_bool (HY2.out (by unfold BoundP; omega) (by simp [q0, q1]; try omega)), HV.out.bel⟩
                · by_cases hb2 : b < cnt
                  all_goals
                    go_wp2
                    go_ret
                    exact ⟨ret_bool (HNC2.out (by simp [q0, q1]; omega)), HV.out.bel⟩
              · by_cases hb : b < cnt + 2
                · go_wp2
                  go_ret
                  exact ⟨ret_bool (HNC2.out (by simp [q0, q1]; omega)), HV.out.bel⟩
                · go_wp2
                  go_ret
                  exact ⟨ret_bool (HY2.out (by unfold BoundP; omega) (by simp [q0, q1]; try omega)), HV.out.bel⟩
            · by_cases q1 : z1 = 0
              · by_cases hb : b < cnt + 1
                · go_wp2
                  go_ret
                  exact ⟨ret_bool (HNC2.out (by simp [q0, q1]; omega)), HV.out.bel⟩
                · go_wp2
                  go_ret
                  exact ⟨ret_bool (HY2.out (by unfold BoundP; omega) (by simp [q0, q1]; try omega)), HV.out.bel⟩
              · by_cases hb : b < cnt + 1 + 2
                · go_wp2
                  go_ret
                  exact ⟨ret_bool (HNC2.out (by simp [q0, q1]; omega)), HV.out.bel⟩
                · go_wp2
                  go_ret
                  exact ⟨ret_bool (HY2.out (by unfold BoundP; omega) (by simp [q0, q1]; try omega)), HV.out.bel⟩
  · go_enter Try.func39, Try.ntmps39
    go_wp2_with (first | refine wpList_ldR 27 Try.underlying27 rfl rfl _ rfl _ rfl _ 27 (0, 0) H27.out (heap_alloc2_new _ _ _) ?_ | (go_at_call 29; fail))
    refine (hnum _).mono ?_
    rintro e' W1 ⟨rfl, hb1'⟩
    have HM : Hid (MR w (W1.alloc (.cells (w12 d) 62)) Y N W1.heap.size d) := ⟨heap_kept (heap_kept (heap_alloc2_old _ _ _) hb1') (below_new _ _), heap_kept (heap_kept (heap_alloc2_new _ _ _) hb1') (below_new _ _), heap_alloc_new _ _, below_next (below_next (bel_al (below_new _ _) _) hb1') (below_new _ _)⟩
    clear hnum hb1' H27 n0 n1 n2
    go_wp2_with (first | refine wpList_stNew 62 rfl _ _ rfl _ _ _ 62 (by rw [w12_size]; exact size62) (by rfl) (w12_one _) rfl rfl rfl ?_)
    generalize W1.heap.size = g at *
    go_loopw [6, 7] (fun s6 s7 wx => ∃ m : Nat, m ≤ 12 ∧ s7 = .int .i64 m ∧ s6 = .int .u32 (countN d m) ∧ PlaceP lo B d m ∧ MR w wx Y N g d) (fun _ s7 _ => 12 - (intOf s7).toNat)
    case atStart => exact ⟨0, by omega, rfl, rfl, fun i hi => absurd hi (by omega), HM.out⟩
    case round =>
      obtain ⟨m, hm, rfl, rfl, hr, hmr⟩ := hrel
      have HR : Hid _ := hr
      have HW : Hid _ := hmr
      clear hr HM
      obtain ⟨lt0, lt1, lt2⟩ := hmr.lt
      by_cases h12 : (m : Int) < 12
      · have hcm := hmr.at m (by omega)
        have y0 := hmr.layAt 0 _ L0.out
        have y8 := hmr.layAt 8 _ L8.out
        obtain ⟨hc0, hc1⟩ := HC.out m
        obtain ⟨hx0, hx1⟩ := HD.out m
        have HN : Hid (countN d (m + 1) = countN d m + (if d m = 0 then 0 else 1)) := rfl
        have HPN : Hid _ := @place_next lo B d m HR.out
        have HX : Hid _ := HNP.out m (by omega)
        clear hmr
        by_cases hx : d m = 0
        · have HZ : Hid (countN d (m + 1) = countN d m) := by show _ = _; rw [HN.out, if_pos hx]; omega
          have HPP : Hid _ := HPN.out (fun q => absurd hx q)
          clear HN HPN HX
          generalize countN d m = cnt at *
          rw [hx] at hcm
          go_wp2
          exact ⟨⟨m + 1, by omega, by go_num, by rw [HZ.out], HPP.out, HW.out⟩, by simp [intOf]; omega⟩
        · have HZ : Hid (countN d (m + 1) = countN d m + 1) := by show _ = _; rw [HN.out, if_neg hx]
          clear HN
          generalize hxx : d m = x at *
          have HXX : Hid _ := hxx
          clear hxx
          generalize countN d m = cnt at *
          by_cases hlo : x < lo
          · go_wp2
            go_quiet (fail)
            go_wp2
            go_ret
            exact ⟨ret_bool (HX.out hx (by omega)), below_drewN HW.out.bel _⟩
          · have hxi : IntKind.i64.wrap x = x := by rw [IntKind.wrap_i64]; omega
            have HLT : Hid _ := h12
            go_wp2
            refine wp_region_ord (S := fun u => MR w u Y N g d) [(0, true), (1, true), (2, true), (3, true), (4, true), (5, true), (6, true), (7, true), (8, true), (9, true), (10, true), (11, true), (12, true), (13, true), (14, true), (15, true), (16, true)]
              (by kernel_rfl) rfl (by kernel_rfl) (fun d _ _ _ _ h => by cases d <;> exact h) HW.out.drew ?_
            have HWD : Hid _ := HW.out.drew
            clear HW hcm y0 y8 lt0 lt1 lt2
            generalize wr.drew = wd at *
            simp only [inOrd, List.getElem?_cons_zero, List.getElem?_cons_succ]
            refine wpOrd_yield (v := .int .i64 (m : Int)) rfl (fun u _ => by simp [execOp, Act.eval]) ?_
            simp only [Act.put, List.setIfInBounds_toArray, List.set_cons_succ, List.set_cons_zero]
            refine wpOrd_yield (v := .pointer (some ⟨g, m, none⟩)) rfl (fun u _ => by go_simp) ?_
            simp only [Act.put, List.setIfInBounds_toArray, List.set_cons_succ, List.set_cons_zero]
            refine wpOrd_ldCT 24 (fun w => Try.isAgg24 w) rfl _ rfl _ _ rfl (.int .u32 x) (fun u hu => by rw [hu.at m (by omega), HXX.out]) ?_
            simp only [Act.put, List.setIfInBounds_toArray, List.set_cons_succ, List.set_cons_zero]
            refine wpOrd_yield (v := .int .i64 x) rfl (fun u _ => by go_simp) ?_
            simp only [Act.put, List.setIfInBounds_toArray, List.set_cons_succ, List.set_cons_zero]
            refine wpOrd_yield (v := .pointer (some ⟨w.heap.size, 8, none⟩)) rfl (fun u _ => by go_simp) ?_
            simp only [Act.put, List.setIfInBounds_toArray, List.set_cons_succ, List.set_cons_zero]
            refine wpOrd_ldCT 3 (fun w => Try.isAgg3 w) rfl _ rfl _ _ rfl (.int .i64 lo) (fun u hu => hu.layAt 8 _ L8.out) ?_
            simp only [Act.put, List.setIfInBounds_toArray, List.set_cons_succ, List.set_cons_zero]
            refine wpOrd_yield (v := .bool false) rfl (fun u _ => by go_simp) ?_
            simp only [Act.put, List.setIfInBounds_toArray, List.set_cons_succ, List.set_cons_zero]
            refine wpOrd_yield (v := .bool false) rfl (fun u _ => by simp [execOp, Act.eval]) ?_
            simp only [Act.put, List.setIfInBounds_toArray, List.set_cons_succ, List.set_cons_zero]
            refine wpOrd_yield (v := .int .i64 (m : Int)) rfl (fun u _ => by simp [execOp, Act.eval]) ?_
            simp only [Act.put, List.setIfInBounds_toArray, List.set_cons_succ, List.set_cons_zero]
            refine wpOrd_yield (v := .pointer (some ⟨g, m, none⟩)) rfl (fun u _ => by go_simp) ?_
            simp only [Act.put, List.setIfInBounds_toArray, List.set_cons_succ, List.set_cons_zero]
            refine wpOrd_ldCT 24 (fun w => Try.isAgg24 w) rfl _ rfl _ _ rfl (.int .u32 x) (fun u hu => by rw [hu.at m (by omega), HXX.out]) ?_
            simp only [Act.put, List.setIfInBounds_toArray, List.set_cons_succ, List.set_cons_zero]
            refine wpOrd_yield (v := .int .i64 x) rfl (fun u _ => by go_simp) ?_
            simp only [Act.put, List.setIfInBounds_toArray, List.set_cons_succ, List.set_cons_zero]
            refine wpOrd_yield (v := .pointer (some ⟨w.heap.size, 0, none⟩)) rfl (fun u _ => by go_simp) ?_
            simp only [Act.put, List.setIfInBounds_toArray, List.set_cons_succ, List.set_cons_zero]
            refine wpOrd_yield (v := .pointer (some ⟨w.heap.size, 0, none⟩)) rfl (fun u _ => by go_simp) ?_
            simp only [Act.put, List.setIfInBounds_toArray, List.set_cons_succ, List.set_cons_zero]
            refine wpOrd_ldCT 3 (fun w => Try.isAgg3 w) rfl _ rfl _ _ rfl (.int .i64 B) (fun u hu => hu.layAt 0 _ L0.out) ?_
            simp only [Act.put, List.setIfInBounds_toArray, List.set_cons_succ, List.set_cons_zero]
            refine wpOrd_yield (v := .bool (decide (B ≤ x))) rfl (fun u _ => by go_simp) ?_
            simp only [Act.put, List.setIfInBounds_toArray, List.set_cons_succ, List.set_cons_zero]
            refine wpOrd_yield (v := .bool (decide (B ≤ x))) rfl (fun u _ => by go_simp) ?_
            simp only [Act.put, List.setIfInBounds_toArray, List.set_cons_succ, List.set_cons_zero]
            refine wpOrd_nil ?_
            by_cases hhi : B ≤ x
            · rw [decide_eq_true hhi]
              go_wp2
              go_ret
              exact ⟨ret_bool (HX.out hx (by omega)), HWD.out.bel⟩
            · rw [decide_eq_false hhi]
              go_wp2
              go_loopw [8] (fun s8 wx => ∃ j : Nat, j ≤ m ∧ s8 = .int .i64 j ∧ (∀ i, i < j → d i ≠ x) ∧ MR w wx Y N g d) (fun s8 _ => m - (intOf s8).toNat)
              case atStart => exact ⟨0, by omega, rfl, fun i hi => absurd hi (by omega), HWD.out⟩
              case round =>
                obtain ⟨j, hj, rfl, hno, hmr⟩ := hrel
                have HNO : Hid _ := hno
                have HV : Hid _ := hmr
                clear hno HWD
                by_cases hjm : (j : Int) < m
                · have HJ : Hid (d j ≠ x → ∀ i, i < j + 1 → d i ≠ x) := fun q i hi => by
                    by_cases e : i = j
                    · rw [e]; exact q
                    · exact HNO.out i (by omega)
                  have HYES : Hid (d j = x → ¬ hasB d m x = false) := fun q => by rw [← HXX.out]; exact @has_yes d m j (by omega) (by rw [q, HXX.out])
                  clear HNO hmr
                  generalize hzz : d j = z at *
                  have HZZ : Hid _ := hzz
                  clear hzz
                  go_wp2
                  refine wp_region_ord (S := fun u => MR w u Y N g d) [(0, true), (1, true), (2, true), (3, true), (4, true), (5, true), (6, true)]
                    (by kernel_rfl) rfl (by kernel_rfl) (fun d _ _ _ _ h => by cases d <;> exact h) HV.out.drew ?_
                  have HVD : Hid _ := HV.out.drew
                  clear HV
                  generalize wr.drew = we at *
                  simp only [inOrd, List.getElem?_cons_zero, List.getElem?_cons_succ]
                  refine wpOrd_yield (v := .int .i64 (j : Int)) rfl (fun u _ => by simp [execOp, Act.eval]) ?_
                  simp only [Act.put, List.setIfInBounds_toArray, List.set_cons_succ, List.set_cons_zero]
                  refine wpOrd_yield (v := .pointer (some ⟨g, j, none⟩)) rfl (fun u _ => by go_simp; intro q; omega) ?_
                  simp only [Act.put, List.setIfInBounds_toArray, List.set_cons_succ, List.set_cons_zero]
                  refine wpOrd_ldCT 24 (fun w => Try.isAgg24 w) rfl _ rfl _ _ rfl (.int .u32 z) (fun u hu => by rw [hu.at j (by omega), HZZ.out]) ?_
                  simp only [Act.put, List.setIfInBounds_toArray, List.set_cons_succ, List.set_cons_zero]
                  refine wpOrd_yield (v := .int .i64 (m : Int)) rfl (fun u _ => by simp [execOp, Act.eval]) ?_
                  simp only [Act.put, List.setIfInBounds_toArray, List.set_cons_succ, List.set_cons_zero]
                  refine wpOrd_yield (v := .pointer (some ⟨g, m, none⟩)) rfl (fun u _ => by go_simp) ?_
                  simp only [Act.put, List.setIfInBounds_toArray, List.set_cons_succ, List.set_cons_zero]
                  refine wpOrd_ldCT 24 (fun w => Try.isAgg24 w) rfl _ rfl _ _ rfl (.int .u32 x) (fun u hu => by rw [hu.at m (by omega), HXX.out]) ?_
                  simp only [Act.put, List.setIfInBounds_toArray, List.set_cons_succ, List.set_cons_zero]
                  refine wpOrd_yield (v := .bool (decide (z = x))) rfl (fun u _ => by go_simp; rw [Bool.eq_iff_iff]; simp) ?_
                  simp only [Act.put, List.setIfInBounds_toArray, List.set_cons_succ, List.set_cons_zero]
                  refine wpOrd_nil ?_
                  by_cases hzx : z = x
                  · rw [decide_eq_true hzx]
                    go_wp2
                    go_ret
                    exact ⟨ret_bool (HX.out hx (fun q => HYES.out hzx q.2.2)), HVD.out.bel⟩
                  · rw [decide_eq_false hzx]
                    go_wp2
                    exact ⟨⟨j + 1, by omega, by go_num, HJ.out hzx, HVD.out⟩, by simp [intOf]; omega⟩
                · obtain rfl : j = m := by omega
                  have HHAS : Hid (hasB d j x = false) := by
                    show _ = _
                    have := @has_no d j (fun i hi => by rw [HXX.out]; exact HNO.out i hi)
                    rwa [HXX.out] at this
                  clear hmr
                  go_wp2
                  exact ⟨⟨j + 1, by omega, by go_num, by rw [HZ.out], HPN.out (fun _ => ⟨by omega, by omega, HHAS.out⟩), HV.out⟩, by simp [intOf]; omega⟩
      · obtain rfl : m = 12 := by omega
        have c2 := hmr.nodeAt 2 _ N2.out
        have HPL : Hid _ := HR.out
        obtain ⟨hct0, hct1⟩ := HC.out 12
        clear HR hmr hm
        have hsm : IntKind.i64.wrap s = s := by rw [IntKind.wrap_i64]; omega
        go_wp2
        rw [show s + 1024 - 1 = s + 1023 by omega]
        go_loopw [10] (fun s10 wx => ∃ m : Nat, m ≤ 12 ∧ s10 = .int .i64 m ∧ ReachP 2 s d m ∧ MR w wx Y N g d) (fun s10 _ => 12 - (intOf s10).toNat)
        case atStart => exact ⟨0, by omega, rfl, fun i hi => absurd hi (by omega), HW.out⟩
        case round =>
          obtain ⟨m, hm, rfl, hr, hmr⟩ := hrel
          have HR : Hid _ := hr
          have HV : Hid _ := hmr
          clear hr HW c2 lt0 lt1 lt2
          obtain ⟨lt0, lt1, lt2⟩ := hmr.lt
          have c0 := hmr.nodeAt 0 _ N0.out
          by_cases h12' : (m : Int) < 12
          · have hcm := hmr.at m (by omega)
            have HRN : Hid _ := @reach_next 2 s d m HR.out
            have HX : Hid _ := HNR.out m (by omega)
            have HR1 : Hid _ := HRC.out m (by omega)
            clear hmr HR HRC
            generalize d m = x at *
            generalize firstN m = y at *
            by_cases hx : x = 0
            · by_cases hy : y * 1024 < s
              · rw [decide_eq_true hy] at HR1
                go_wp2_with (first | (go_at_call 48; refine (HR1.out _).mono ?_; rintro e' W2 ⟨rfl, rfl⟩))
                first
                  | (go_ret; exact ⟨ret_bool (HX.out (by intro q; have := q.2 hx (by simp); omega)), HV.out.bel⟩)
                  | exact ⟨⟨m + 1, by omega, by go_num, HRN.out (fun q => absurd hx q) (fun _ q => by omega), HV.out⟩, by simp [intOf]; omega⟩
              · rw [decide_eq_false hy] at HR1
                go_wp2_with (first | (go_at_call 48; refine (HR1.out _).mono ?_; rintro e' W2 ⟨rfl, rfl⟩))
                exact ⟨⟨m + 1, by omega, by go_num, HRN.out (fun q => absurd hx q) (fun _ _ => by omega), HV.out⟩, by simp [intOf]; omega⟩
            · by_cases hy : y * 1024 < s
              · rw [decide_eq_true hy] at HR1
                go_wp2_with (first | (go_at_call 48; refine (HR1.out _).mono ?_; rintro e' W2 ⟨rfl, rfl⟩))
                exact ⟨⟨m + 1, by omega, by go_num, HRN.out (fun _ => hy) (fun q => absurd q hx), HV.out⟩, by simp [intOf]; omega⟩
              · rw [decide_eq_false hy] at HR1
                go_wp2_with (first | (go_at_call 48; refine (HR1.out _).mono ?_; rintro e' W2 ⟨rfl, rfl⟩))
                go_ret
                exact ⟨ret_bool (HX.out (by intro q; have := q.1 hx; omega)), HV.out.bel⟩
          · obtain rfl : m = 12 := by omega
            have c1 := hmr.nodeAt 1 _ N1.out
            have c2 := hmr.nodeAt 2 _ N2.out
            have c3 := hmr.nodeAt 3 _ N3.out
            have c14 := hmr.nodeAt 14 _ N14.out
            have c15 := hmr.nodeAt 15 _ N15.out
            have HNC2 : Hid (¬ (if (if d 10 = 0 then (0 : Int) else 1) + (if d 11 = 0 then 0 else 2) = 0 then b = countN d 12 else countN d 12 + ((if d 10 = 0 then 0 else 1) + (if d 11 = 0 then 0 else 2)) ≤ b) → false = v) := fun q => HNC.out (by unfold CountP benN; exact q)
            have HY2 : Hid (BoundP 2 l s → (if (if d 10 = 0 then (0 : Int) else 1) + (if d 11 = 0 then 0 else 2) = 0 then b = countN d 12 else countN d 12 + ((if d 10 = 0 then 0 else 1) + (if d 11 = 0 then 0 else 2)) ≤ b) → true = v) := fun q1 q2 => HY.out ⟨q1, HPL.out, HR.out, by unfold CountP benN; exact q2⟩
            clear hmr HR HPL HNC HY HNP HNR HRC hm
            generalize countN d 12 = cnt at *
            generalize d 10 = z0 at *
            generalize d 11 = z1 at *
            by_cases q0 : z0 = 0
            · by_cases q1 : z1 = 0
              · by_cases hb : b = cnt
                · subst hb
                  by_cases h5 : s % 16 = 0
                  · by_cases h6 : l = 1
                    · go_wp2
                      go_ret
                      exact ⟨ret_bool (HNB.out (by unfold BoundP; omega)), HV.out.bel⟩
                    · have h6' : (l != 1) = true := by simpa using h6
                      go_wp2
                      go_ret
                      exact ⟨ret_bool (HY2.out (by unfold BoundP; omega) (by simp [q0, q1]; try omega)), HV.out.bel⟩
                  · go_wp2
                    go_ret
                    exact ⟨ret_bool (HNB.out (by unfold BoundP; omega)), HV.out.bel⟩
                · by_cases hb2 : b < cnt
                  all_goals
                    go_wp2
                    go_ret
                    exact ⟨ret_bool (HNC2.out (by simp [q0, q1]; omega)), HV.out.bel⟩
              · by_cases hb : b < cnt + 2
                · go_wp2
                  go_ret
                  exact ⟨ret_bool (HNC2.out (by simp [q0, q1]; omega)), HV.out.bel⟩
                · by_cases h5 : s % 16 = 0
                  · by_cases h6 : l = 1
                    · go_wp2
                      go_ret
                      exact ⟨ret_bool (HNB.out (by unfold BoundP; omega)), HV.out.bel⟩
                    · have h6' : (l != 1) = true := by simpa using h6
                      go_wp2
                      go_ret
                      exact ⟨ret_bool (HY2.out (by unfold BoundP; omega) (by simp [q0, q1]; try omega)), HV.out.bel⟩
                  · go_wp2
                    go_ret
                    exact ⟨ret_bool (HNB.out (by unfold BoundP; omega)), HV.out.bel⟩
            · by_cases q1 : z1 = 0
              · by_cases hb : b < cnt + 1
                · go_wp2
                  go_ret
                  exact ⟨ret_bool (HNC2.out (by simp [q0, q1]; omega)), HV.out.bel⟩
                · by_cases h5 : s % 16 = 0
                  · by_cases h6 : l = 1
                    · go_wp2
                      go_ret
                      exact ⟨ret_bool (HNB.out (by unfold BoundP; omega)), HV.out.bel⟩
                    · have h6' : (l != 1) = true := by simpa using h6
                      go_wp2
                      go_ret
                      exact ⟨ret_bool (HY2.out (by unfold BoundP; omega) (by simp [q0, q1]; try omega)), HV.out.bel⟩
                  · go_wp2
                    go_ret
                    exact ⟨ret_bool (HNB.out (by unfold BoundP; omega)), HV.out.bel⟩
              · by_cases hb : b < cnt + 1 + 2
                · go_wp2
                  go_ret
                  exact ⟨ret_bool (HNC2.out (by simp [q0, q1]; omega)), HV.out.bel⟩
                · by_cases h5 : s % 16 = 0
                  · by_cases h6 : l = 1
                    · go_wp2
                      go_ret
                      exact ⟨ret_bool (HNB.out (by unfold BoundP; omega)), HV.out.bel⟩
                    · have h6' : (l != 1) = true := by simpa using h6
                      go_wp2
                      go_ret
                      exact ⟨ret_bool (HY2.out (by unfold BoundP; omega) (by simp [q0, q1]; try omega)), HV.out.bel⟩
                  · go_wp2
                    go_ret
                    exact ⟨ret_bool (HNB.out (by unfold BoundP; omega)), HV.out.bel⟩
theorem refMay_any (B L I a c dd e f lo : Int) (k l s b : Int) (d : Nat → Int) (w : World) (h : NodeOk k l s b d) :
    Calls Try.prog 39 #[.agg (lay9 B L I a c dd e f lo), .agg (node16 k l s b d)] w fun e' w' => e' = .returned (.bool (mayV lo B k l s b d)) ∧ Below w.heap.size w w' := by
  by_cases hk : k = 0
  · subst hk; exact refMay_free B L I a c dd e f lo l s b d w
  · by_cases hb : (k = 1 ∨ k = 2) ∧ l ≤ 1000 ∧ s ≤ 67381248
    · exact refMay_in B L I a c dd e f lo k l s b d w h hb.1 hb.2.1 hb.2.2
    · exact refMay_out B L I a c dd e f lo k l s b d w h hk hb
end Go.Proofs.Ytohknfoljnddjaa
