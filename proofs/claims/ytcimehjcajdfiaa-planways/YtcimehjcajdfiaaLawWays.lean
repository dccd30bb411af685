/- PlanWays answers true, of any index and size; no condition. -/
import Derived.Test.YtcimehjcajdfiaaAwake
namespace Go.Proofs.Ytcimehjcajdfiaa
open Go.RowKit Go.Maps
set_option maxHeartbeats 1000000 in
theorem place1 (i : Int) (w : World) : Calls Try.prog 25 #[.agg #[.int .u8 1, .int .i64 i, .int .i64 0]] w fun e w' => e = .returned (.int .i64 i) ∧ Below w.heap.size w w' := by
  go_enter Try.func25, Try.ntmps25
  go_wp2
  go_ret
  exact ⟨rfl, below_new _ _⟩
set_option maxHeartbeats 1000000 in
theorem place2 (i : Int) (h0 : 10 ≤ i) (h1 : i < 266) (w : World) : Calls Try.prog 25 #[.agg #[.int .u8 2, .int .i64 (i - 10), .int .i64 0]] w fun e w' => e = .returned (.int .i64 i) ∧ Below w.heap.size w w' := by
  have e1 : IntKind.i64.wrap (10 + (i - 10)) = i := by rw [IntKind.wrap_i64]; omega
  go_enter Try.func25, Try.ntmps25
  go_wp2
  go_ret
  exact ⟨rfl, below_new _ _⟩
set_option maxHeartbeats 1000000 in
theorem place3 (i : Int) (h0 : 266 ≤ i) (h1 : i < 65802) (w : World) : Calls Try.prog 25 #[.agg #[.int .u8 3, .int .i64 ((i - 266) / 256), .int .i64 ((i - 266) % 256)]] w fun e w' => e = .returned (.int .i64 i) ∧ Below w.heap.size w w' := by
  have hd : 256 * ((i - 266) / 256) + (i - 266) % 256 = i - 266 := Int.mul_ediv_add_emod _ _
  have hq : 0 ≤ (i - 266) / 256 ∧ (i - 266) / 256 < 256 := by omega
  have hr : 0 ≤ (i - 266) % 256 ∧ (i - 266) % 256 < 256 := by omega
  generalize (i - 266) / 256 = q at *
  generalize (i - 266) % 256 = r at *
  have e1 : IntKind.i64.wrap (256 * q) = 256 * q := by rw [IntKind.wrap_i64]; omega
  have e2 : IntKind.i64.wrap (266 + 256 * q) = 266 + 256 * q := by rw [IntKind.wrap_i64]; omega
  have e3 : IntKind.i64.wrap (266 + 256 * q + r) = i := by rw [IntKind.wrap_i64]; omega
  clear hd
  go_enter Try.func25, Try.ntmps25
  go_wp2
  go_ret
  exact ⟨rfl, below_new _ _⟩
theorem field29 (d f s : Int) (w : World) : (Instr.field 29 (.agg #[.int .u8 d, .int .i64 f, .int .i64 s]) 0).run Try.prog w = .ok (.int .u8 d) w := by
  simp [Instr.field, go_sem, run_underlying Try.underlying29, asAgg]
theorem ways_row (W : World) (d f s : Int) : (W.alloc (.cells #[.int .u8 d, .int .i64 f, .int .i64 s] 29)).heap[W.heap.size]? = some (.cells #[.int .u8 d, .int .i64 f, .int .i64 s] 29) := heap_alloc_new _ _
theorem row3 {W : World} {g : Nat} {d f s : Int} (h : W.heap[g]? = some (.cells #[.int .u8 d, .int .i64 f, .int .i64 s] 29)) : W.cell? ⟨g, 0, none⟩ = some (.int .u8 d) ∧ W.cell? ⟨g, 1, none⟩ = some (.int .i64 f) ∧ W.cell? ⟨g, 2, none⟩ = some (.int .i64 s) :=
  ⟨Joins.cell_of_block h 0, Joins.cell_of_block h 1, Joins.cell_of_block h 2⟩
set_option maxHeartbeats 1000000 in
theorem law_ways (i s : Int) (hi : I64 i) (hs : I64 s) (w : World) : Calls Try.prog 7 #[.int .i64 i, .int .i64 s] w fun e w' => e = .returned (.bool true) ∧ Below w.heap.size w w' := by
  have ha := awake_any w
  have hw := way_any
  unfold wayA way3 at hw
  by_cases h0 : i < 0 ∨ 65802 ≤ i
  · have he := way_none h0
    have hw1 := hw i
    rw [he.1, he.2.1, he.2.2] at hw1
    have g1 : decide (i < 0) = true ∨ (decide (i < 0) = false ∧ decide (65802 ≤ i) = true) := by
      rcases h0 with h | h
      · exact .inl (decide_eq_true h)
      · exact .inr ⟨decide_eq_false (by omega), decide_eq_true h⟩
    clear he h0 hw
    go_enter Try.func7, Try.ntmps7
    go_wp2_with (first | (go_at_call 24; fail))
    refine ha.mono ?_
    rintro e W1 ⟨rfl, hb1⟩
    go_wp2_with (first | (go_at_call 17; fail))
    refine (hw1 _).mono ?_
    rintro e W2 ⟨rfl, hb2⟩
    have HB : Hid (Below w.heap.size w W2) := below_next hb1 hb2
    clear hb1 hb2 hw1 ha
    rcases g1 with g1 | ⟨g1, g2⟩
    all_goals
      go_wp2
      go_ret
      exact ⟨rfl, HB.out.alloc HB.out.size _⟩
  · by_cases h1 : i < 10
    · have he := way_direct (by omega) h1
      have hw1 := hw i
      rw [he.1, he.2.1, he.2.2] at hw1
      have hp := fun W => place1 i W
      have gi : decide (i < 0) = false := decide_eq_false (by omega)
      have gj : decide (65802 ≤ i) = false := decide_eq_false (by omega)
      have gf : decide (i < 0) = false := decide_eq_false (by omega)
      have gg : decide (256 ≤ i) = false := decide_eq_false (by omega)
      have gii : (i == i) = true := by simp
      clear he
      by_cases hz : s < 1 ∨ 67381248 < s
      · have gz : decide (s < 1) = true ∨ (decide (s < 1) = false ∧ decide (67381248 < s) = true) := by
          rcases hz with h | h
          · exact .inl (decide_eq_true h)
          · exact .inr ⟨decide_eq_false (by omega), decide_eq_true h⟩
        clear hz hw
        go_enter Try.func7, Try.ntmps7
        go_wp2_with (first | (go_at_call 24; fail))
        refine ha.mono ?_
        rintro e W1 ⟨rfl, hb1⟩
        go_wp2_with (first | (go_at_call 17; fail))
        refine (hw1 _).mono ?_
        rintro e W2 ⟨rfl, hb2⟩
        have HB : Hid (Below w.heap.size w W2) := below_next hb1 hb2
        have hrow := ways_row W2 1 i 0
        clear hb1 hb2 hw1 ha
        go_wp2_with (first | (go_at_call 25; fail))
        refine (hp _).mono ?_
        rintro e W3 ⟨rfl, hb3⟩
        obtain ⟨c0, c1, c2⟩ := row3 (heap_kept hrow hb3)
        have HB3 : Hid (Below w.heap.size w W3) := below_next (HB.out.alloc HB.out.size _) hb3
        clear hb3 hrow HB hp
        rcases gz with gz | ⟨gz, gz2⟩
        all_goals
          go_wp2
          go_ret
          exact ⟨rfl, HB3.out⟩
      · have gz : decide (s < 1) = false := decide_eq_false (by omega)
        have gz2 : decide (67381248 < s) = false := decide_eq_false (by omega)
        have hbl := blocks_any s hs
        have hbn : blocksN s - 1 = (s - 1) / 1024 := by
          unfold blocksN
          rw [if_neg (by omega)]
          split <;> omega
        have hl0 : 0 ≤ (s - 1) / 1024 ∧ (s - 1) / 1024 < 65802 := by omega
        have hd0 : (depthN ((s - 1) / 1024) != 0) = true := by
          have : depthN ((s - 1) / 1024) ≠ 0 := by
            unfold depthN
            rw [if_neg (by omega)]
            split
            · omega
            · split <;> omega
          simp [this]
        have hw2 := hw ((s - 1) / 1024)
        have e1 : IntKind.i64.wrap (blocksN s - 1) = (s - 1) / 1024 := by rw [IntKind.wrap_i64, hbn]; omega
        have e2 : IntKind.i64.wrap (s - 1) = s - 1 := by rw [IntKind.wrap_i64]; omega
        have e3 : (s - 1).tdiv 1024 = (s - 1) / 1024 := Int.tdiv_eq_ediv_of_nonneg (by omega)
        have e4 : IntKind.i64.wrap ((s - 1) / 1024) = (s - 1) / 1024 := by rw [IntKind.wrap_i64]; omega
        clear hbn hl0 hz hw
        generalize blocksN s = B at *
        generalize (s - 1) / 1024 = L at *
        generalize depthN L = D at *
        generalize firstN L = L1 at *
        generalize secondN L = L2 at *
        have gL : (L == L) = true := by simp
        go_enter Try.func7, Try.ntmps7
        go_wp2_with (first | (go_at_call 24; fail))
        refine ha.mono ?_
        rintro e W1 ⟨rfl, hb1⟩
        go_wp2_with (first | (go_at_call 17; fail))
        refine (hw1 _).mono ?_
        rintro e W2 ⟨rfl, hb2⟩
        have HB : Hid (Below w.heap.size w W2) := below_next hb1 hb2
        have hrow := ways_row W2 1 i 0
        clear hb1 hb2 hw1 ha
        go_wp2_with (first | (go_at_call 25; fail))
        refine (hp _).mono ?_
        rintro e W3 ⟨rfl, hb3⟩
        obtain ⟨c0, c1, c2⟩ := row3 (heap_kept hrow hb3)
        have HB3 : Hid (Below w.heap.size w W3) := below_next (HB.out.alloc HB.out.size _) hb3
        clear hb3 hrow HB hp
        go_wp2_with (first | (go_at_call 13; refine (hbl _).mono ?_; rintro e W ⟨rfl, rfl⟩) | (go_at_call 17; fail))
        refine (hw2 _).mono ?_
        rintro e W4 ⟨rfl, hb4⟩
        have hf4 := field29
        go_wp2
        go_ret
        exact ⟨rfl, below_next HB3.out hb4⟩
    · by_cases h2 : i < 266
      · have he := way_single (by omega) h2
        have hw1 := hw i
        rw [he.1, he.2.1, he.2.2] at hw1
        have hp := fun W => place2 i (by omega) h2 W
        have gi : decide (i < 0) = false := decide_eq_false (by omega)
        have gj : decide (65802 ≤ i) = false := decide_eq_false (by omega)
        have gf : decide ((i - 10) < 0) = false := decide_eq_false (by omega)
        have gg : decide (256 ≤ (i - 10)) = false := decide_eq_false (by omega)
        have gii : (i == i) = true := by simp
        clear he
        by_cases hz : s < 1 ∨ 67381248 < s
        · have gz : decide (s < 1) = true ∨ (decide (s < 1) = false ∧ decide (67381248 < s) = true) := by
            rcases hz with h | h
            · exact .inl (decide_eq_true h)
            · exact .inr ⟨decide_eq_false (by omega), decide_eq_true h⟩
          clear hz hw
          generalize (i - 10) = F at *
          go_enter Try.func7, Try.ntmps7
          go_wp2_with (first | (go_at_call 24; fail))
          refine ha.mono ?_
          rintro e W1 ⟨rfl, hb1⟩
          go_wp2_with (first | (go_at_call 17; fail))
          refine (hw1 _).mono ?_
          rintro e W2 ⟨rfl, hb2⟩
          have HB : Hid (Below w.heap.size w W2) := below_next hb1 hb2
          have hrow := ways_row W2 2 F 0
          clear hb1 hb2 hw1 ha
          go_wp2_with (first | (go_at_call 25; fail))
          refine (hp _).mono ?_
          rintro e W3 ⟨rfl, hb3⟩
          obtain ⟨c0, c1, c2⟩ := row3 (heap_kept hrow hb3)
          have HB3 : Hid (Below w.heap.size w W3) := below_next (HB.out.alloc HB.out.size _) hb3
          clear hb3 hrow HB hp
          rcases gz with gz | ⟨gz, gz2⟩
          all_goals
            go_wp2
            go_ret
            exact ⟨rfl, HB3.out⟩
        · have gz : decide (s < 1) = false := decide_eq_false (by omega)
          have gz2 : decide (67381248 < s) = false := decide_eq_false (by omega)
          have hbl := blocks_any s hs
          have hbn : blocksN s - 1 = (s - 1) / 1024 := by
            unfold blocksN
            rw [if_neg (by omega)]
            split <;> omega
          have hl0 : 0 ≤ (s - 1) / 1024 ∧ (s - 1) / 1024 < 65802 := by omega
          have hd0 : (depthN ((s - 1) / 1024) != 0) = true := by
            have : depthN ((s - 1) / 1024) ≠ 0 := by
              unfold depthN
              rw [if_neg (by omega)]
              split
              · omega
              · split <;> omega
            simp [this]
          have hw2 := hw ((s - 1) / 1024)
          have e1 : IntKind.i64.wrap (blocksN s - 1) = (s - 1) / 1024 := by rw [IntKind.wrap_i64, hbn]; omega
          have e2 : IntKind.i64.wrap (s - 1) = s - 1 := by rw [IntKind.wrap_i64]; omega
          have e3 : (s - 1).tdiv 1024 = (s - 1) / 1024 := Int.tdiv_eq_ediv_of_nonneg (by omega)
          have e4 : IntKind.i64.wrap ((s - 1) / 1024) = (s - 1) / 1024 := by rw [IntKind.wrap_i64]; omega
          clear hbn hl0 hz hw
          generalize (i - 10) = F at *
          generalize blocksN s = B at *
          generalize (s - 1) / 1024 = L at *
          generalize depthN L = D at *
          generalize firstN L = L1 at *
          generalize secondN L = L2 at *
          have gL : (L == L) = true := by simp
          go_enter Try.func7, Try.ntmps7
          go_wp2_with (first | (go_at_call 24; fail))
          refine ha.mono ?_
          rintro e W1 ⟨rfl, hb1⟩
          go_wp2_with (first | (go_at_call 17; fail))
          refine (hw1 _).mono ?_
          rintro e W2 ⟨rfl, hb2⟩
          have HB : Hid (Below w.heap.size w W2) := below_next hb1 hb2
          have hrow := ways_row W2 2 F 0
          clear hb1 hb2 hw1 ha
          go_wp2_with (first | (go_at_call 25; fail))
          refine (hp _).mono ?_
          rintro e W3 ⟨rfl, hb3⟩
          obtain ⟨c0, c1, c2⟩ := row3 (heap_kept hrow hb3)
          have HB3 : Hid (Below w.heap.size w W3) := below_next (HB.out.alloc HB.out.size _) hb3
          clear hb3 hrow HB hp
          go_wp2_with (first | (go_at_call 13; refine (hbl _).mono ?_; rintro e W ⟨rfl, rfl⟩) | (go_at_call 17; fail))
          refine (hw2 _).mono ?_
          rintro e W4 ⟨rfl, hb4⟩
          have hf4 := field29
          go_wp2
          go_ret
          exact ⟨rfl, below_next HB3.out hb4⟩
      · have he := way_double (i := i) (by omega) (by omega)
        have hw1 := hw i
        rw [he.1, he.2.1, he.2.2] at hw1
        have hp := fun W => place3 i (by omega) (by omega) W
        have gi : decide (i < 0) = false := decide_eq_false (by omega)
        have gj : decide (65802 ≤ i) = false := decide_eq_false (by omega)
        have gf : decide (((i - 266) / 256) < 0) = false := decide_eq_false (by omega)
        have gg : decide (256 ≤ ((i - 266) / 256)) = false := decide_eq_false (by omega)
        have gs : decide (((i - 266) % 256) < 0) = false := decide_eq_false (by omega)
        have gt : decide (256 ≤ ((i - 266) % 256)) = false := decide_eq_false (by omega)
        have gii : (i == i) = true := by simp
        clear he
        by_cases hz : s < 1 ∨ 67381248 < s
        · have gz : decide (s < 1) = true ∨ (decide (s < 1) = false ∧ decide (67381248 < s) = true) := by
            rcases hz with h | h
            · exact .inl (decide_eq_true h)
            · exact .inr ⟨decide_eq_false (by omega), decide_eq_true h⟩
          clear hz hw
          generalize ((i - 266) / 256) = F at *
          generalize ((i - 266) % 256) = G at *
          go_enter Try.func7, Try.ntmps7
          go_wp2_with (first | (go_at_call 24; fail))
          refine ha.mono ?_
          rintro e W1 ⟨rfl, hb1⟩
          go_wp2_with (first | (go_at_call 17; fail))
          refine (hw1 _).mono ?_
          rintro e W2 ⟨rfl, hb2⟩
          have HB : Hid (Below w.heap.size w W2) := below_next hb1 hb2
          have hrow := ways_row W2 3 F G
          clear hb1 hb2 hw1 ha
          go_wp2_with (first | (go_at_call 25; fail))
          refine (hp _).mono ?_
          rintro e W3 ⟨rfl, hb3⟩
          obtain ⟨c0, c1, c2⟩ := row3 (heap_kept hrow hb3)
          have HB3 : Hid (Below w.heap.size w W3) := below_next (HB.out.alloc HB.out.size _) hb3
          clear hb3 hrow HB hp
          rcases gz with gz | ⟨gz, gz2⟩
          all_goals
            go_wp2
            go_ret
            exact ⟨rfl, HB3.out⟩
        · have gz : decide (s < 1) = false := decide_eq_false (by omega)
          have gz2 : decide (67381248 < s) = false := decide_eq_false (by omega)
          have hbl := blocks_any s hs
          have hbn : blocksN s - 1 = (s - 1) / 1024 := by
            unfold blocksN
            rw [if_neg (by omega)]
            split <;> omega
          have hl0 : 0 ≤ (s - 1) / 1024 ∧ (s - 1) / 1024 < 65802 := by omega
          have hd0 : (depthN ((s - 1) / 1024) != 0) = true := by
            have : depthN ((s - 1) / 1024) ≠ 0 := by
              unfold depthN
              rw [if_neg (by omega)]
              split
              · omega
              · split <;> omega
            simp [this]
          have hw2 := hw ((s - 1) / 1024)
          have e1 : IntKind.i64.wrap (blocksN s - 1) = (s - 1) / 1024 := by rw [IntKind.wrap_i64, hbn]; omega
          have e2 : IntKind.i64.wrap (s - 1) = s - 1 := by rw [IntKind.wrap_i64]; omega
          have e3 : (s - 1).tdiv 1024 = (s - 1) / 1024 := Int.tdiv_eq_ediv_of_nonneg (by omega)
          have e4 : IntKind.i64.wrap ((s - 1) / 1024) = (s - 1) / 1024 := by rw [IntKind.wrap_i64]; omega
          clear hbn hl0 hz hw
          generalize ((i - 266) / 256) = F at *
          generalize ((i - 266) % 256) = G at *
          generalize blocksN s = B at *
          generalize (s - 1) / 1024 = L at *
          generalize depthN L = D at *
          generalize firstN L = L1 at *
          generalize secondN L = L2 at *
          have gL : (L == L) = true := by simp
          go_enter Try.func7, Try.ntmps7
          go_wp2_with (first | (go_at_call 24; fail))
          refine ha.mono ?_
          rintro e W1 ⟨rfl, hb1⟩
          go_wp2_with (first | (go_at_call 17; fail))
          refine (hw1 _).mono ?_
          rintro e W2 ⟨rfl, hb2⟩
          have HB : Hid (Below w.heap.size w W2) := below_next hb1 hb2
          have hrow := ways_row W2 3 F G
          clear hb1 hb2 hw1 ha
          go_wp2_with (first | (go_at_call 25; fail))
          refine (hp _).mono ?_
          rintro e W3 ⟨rfl, hb3⟩
          obtain ⟨c0, c1, c2⟩ := row3 (heap_kept hrow hb3)
          have HB3 : Hid (Below w.heap.size w W3) := below_next (HB.out.alloc HB.out.size _) hb3
          clear hb3 hrow HB hp
          go_wp2_with (first | (go_at_call 13; refine (hbl _).mono ?_; rintro e W ⟨rfl, rfl⟩) | (go_at_call 17; fail))
          refine (hw2 _).mono ?_
          rintro e W4 ⟨rfl, hb4⟩
          have hf4 := field29
          go_wp2
          go_ret
          exact ⟨rfl, below_next HB3.out hb4⟩
end Go.Proofs.Ytcimehjcajdfiaa
