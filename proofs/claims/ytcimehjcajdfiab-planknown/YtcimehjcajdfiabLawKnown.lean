/- PlanKnown answers true; no condition. -/
import Derived.Test.YtcimehjcajdfiabAwake
namespace Go.Proofs.Ytcimehjcajdfiab
open Go.RowKit Go.Maps
theorem plist_one : plist 0 8192 = [(0, 8192)] := by
  have h1 : nxt 0 8192 = 8192 := by decide
  unfold plist
  rw [if_neg (by omega), show (0 + 8192 : Int) = 8192 by omega, pcs_step (by omega), h1, pcs_end (by omega)]
  rfl
theorem plist_two : plist 67381247 1 = [(67381247, 1)] := by
  have h1 : nxt 67381247 67381248 = 67381248 := by decide
  unfold plist
  rw [if_neg (by omega), show (67381247 + 1 : Int) = 67381248 by omega, pcs_step (by omega), h1, pcs_end (by omega)]
  rfl
theorem tot1 : Maps.size (Sd (keysL [])) = 0 := by kernel_rfl
theorem tot2 : Maps.size (Sd (keysL [0, 0, 9])) = 2 := by kernel_rfl
theorem tot3 : Maps.size (Sd (keysL [10])) = 2 := by kernel_rfl
theorem tot4 : Maps.size (Sd (keysL [9, 10, 11])) = 4 := by kernel_rfl
theorem tot5 : Maps.size (Sd (keysL [266])) = 3 := by kernel_rfl
theorem tot6 : Maps.size (Sd (keysL [-1])) = 0 := by kernel_rfl
theorem total_of (ts : List Int) (t : Nat) (ht : Maps.size (Sd (keysL ts)) = t) (hl : ts.length < 100) (W : World) (s m : Nat) (hs : W.heap.size = s) (hm : ts.length = m) (cs : Array Value) (hcs : (ts.map (Value.int .i64)).toArray = cs) :
    Calls Try.prog 8 #[.slice (some ⟨s, 0, none⟩) m m] (W.alloc (.cells cs 3)) fun e' w' => e' = .returned (.int .i64 t) ∧ Below W.heap.size W w' := by
  subst hs hm hcs ht
  exact (total_any ts _ _ _ (by omega) (ints_new W ts)).mono fun e w' ⟨h1, h2⟩ => ⟨h1, below_next (below_new _ _) h2⟩
theorem total_nil (W : World) : Calls Try.prog 8 #[.slice none 0 0] W fun e' w' => e' = .returned (.int .i64 0) ∧ Below W.heap.size W w' := by
  have := total_any [] none 0 W (by simp) (fun h => by simp at h)
  rwa [tot1] at this
theorem pieces_none (a n : Int) (ha : I64 a) (hn : I64 n) (h : plist a n = []) (W : World) : Calls Try.prog 4 #[.int .i64 a, .int .i64 n] W fun e w' => ∃ p c, e = .returned (.slice p 0 c) ∧ Below W.heap.size W w' :=
  (pieces_any a n ha hn W).mono fun e w' ⟨v, h1, h2, h3⟩ => by
    rw [h] at h2
    obtain ⟨p, c, rfl, _, _⟩ := h2.at
    exact ⟨p, c, h1, h3⟩
theorem pieces_one (a n x y : Int) (ha : I64 a) (hn : I64 n) (h : plist a n = [(x, y)]) (W : World) : Calls Try.prog 4 #[.int .i64 a, .int .i64 n] W fun e w' => ∃ g c, e = .returned (.slice (some ⟨g, 0, none⟩) 1 c) ∧ Below W.heap.size W w' ∧ g < w'.heap.size ∧ w'.cell? ⟨g, 0, none⟩ = some (.int .i64 x) ∧ w'.cell? ⟨g, 1, none⟩ = some (.int .i64 y) :=
  (pieces_any a n ha hn W).mono fun e w' ⟨v, h1, h2, h3⟩ => by
    rw [h] at h2
    obtain ⟨p, c, rfl, h4, _⟩ := h2.at
    obtain ⟨g, rfl, hlt, hc⟩ := h4 (by simp)
    obtain ⟨c0, c1⟩ := hc 0 _ rfl
    exact ⟨g, c, h1, h3, hlt, c0, c1⟩
theorem way_at (i d f s : Int) (h1 : depthN i = d) (h2 : firstN i = f) (h3 : secondN i = s) (W : World) : Calls Try.prog 7 #[.int .i64 i] W fun e w' => e = .returned (.agg #[.int .u8 d, .int .i64 f, .int .i64 s]) ∧ Below W.heap.size W w' := by
  have := way_any i W
  unfold wayA way3 at this
  rwa [h1, h2, h3] at this
theorem blocks_at (n b : Int) (hn : I64 n) (h : blocksN n = b) (W : World) : Calls Try.prog 5 #[.int .i64 n] W fun e w' => e = .returned (.int .i64 b) ∧ w' = W := by
  have := blocks_any n hn W
  rwa [h] at this
theorem group_at (n b : Int) (hn : I64 n) (h : groupN n = b) (W : World) : Calls Try.prog 6 #[.int .i64 n] W fun e w' => e = .returned (.int .i64 b) ∧ w' = W := by
  have := group_any n hn W
  rwa [h] at this
set_option maxRecDepth 20000 in
set_option maxHeartbeats 2000000 in
theorem law_known (w : World) : Calls Try.prog 3 #[] w fun e w' => e = .returned (.bool true) ∧ Below w.heap.size w w' := by
  go_enter Try.func3, Try.ntmps3
  go_wp2_with (first | (go_at_call 4; fail))
  refine (pieces_one 0 8192 0 8192 (by unfold I64; omega) (by unfold I64; omega) plist_one _).mono ?_
  rintro e W1 ⟨g1, c1, rfl, hb1, hl1, a0, a1⟩
  go_wp2_with (first | (go_at_call 4; fail))
  refine (pieces_one 67381247 1 67381247 1 (by unfold I64; omega) (by unfold I64; omega) plist_two _).mono ?_
  rintro e W2 ⟨g2, c2, rfl, hb2, hl2, d0, d1⟩
  have a0' : W2.cell? ⟨g1, 0, none⟩ = some (.int .i64 0) := (hb2.cell (p := ⟨g1, 0, none⟩) hl1).trans a0
  have a1' : W2.cell? ⟨g1, 1, none⟩ = some (.int .i64 8192) := (hb2.cell (p := ⟨g1, 1, none⟩) hl1).trans a1
  have HB : Hid (Below w.heap.size w W2) := below_next hb1 hb2
  clear hb1 hb2 a0 a1
  go_wp2_with (first | (go_at_call 4; fail))
  refine (pieces_none 67381247 2 (by unfold I64; omega) (by unfold I64; omega) (if_pos (by omega)) _).mono ?_
  rintro e W3 ⟨p3, q3, rfl, hb3⟩
  have HB3 : Hid (Below w.heap.size w W3) := below_next HB.out hb3
  clear hb3 HB a0' a1' d0 d1
  go_wp2_with (first | (go_at_call 4; fail))
  refine (pieces_none 9223372036854775807 9223372036854775807 (by unfold I64; omega) (by unfold I64; omega) (if_pos (by omega)) _).mono ?_
  rintro e W4 ⟨p4, q4, rfl, hb4⟩
  have HB4 : Hid (Below w.heap.size w W4) := below_next HB3.out hb4
  clear hb4 HB3
  go_wp2_with (first | (go_at_call 4; fail))
  refine (pieces_none (-1) 5 (by unfold I64; omega) (by unfold I64; omega) (if_pos (by omega)) _).mono ?_
  rintro e W5 ⟨p5, q5, rfl, hb5⟩
  have HB5 : Hid (Below w.heap.size w W5) := below_next HB4.out hb5
  clear hb5 HB4
  go_wp2_with (first | (go_at_call 5; fail))
  refine (blocks_at 0 0 (by unfold I64; omega) (by decide) _).mono ?_
  rintro e W ⟨rfl, rfl⟩
  go_wp2_with (first | (go_at_call 5; fail))
  refine (blocks_at 1024 1 (by unfold I64; omega) (by decide) _).mono ?_
  rintro e W ⟨rfl, rfl⟩
  go_wp2_with (first | (go_at_call 5; fail))
  refine (blocks_at (-5) 0 (by unfold I64; omega) (by decide) _).mono ?_
  rintro e W ⟨rfl, rfl⟩
  go_wp2_with (first | (go_at_call 5; fail))
  refine (blocks_at 9223372036854775807 9007199254740992 (by unfold I64; omega) (by decide) _).mono ?_
  rintro e W ⟨rfl, rfl⟩
  go_wp2_with (first | (go_at_call 6; fail))
  refine (group_at (-1) (-1) (by unfold I64; omega) (by decide) _).mono ?_
  rintro e W ⟨rfl, rfl⟩
  go_wp2_with (first | (go_at_call 6; fail))
  refine (group_at 7 0 (by unfold I64; omega) (by decide) _).mono ?_
  rintro e W ⟨rfl, rfl⟩
  go_wp2_with (first | (go_at_call 7; fail))
  refine (way_at 9 1 9 0 (by decide) (by decide) (by decide) _).mono ?_
  rintro e W6 ⟨rfl, hb6⟩
  have HB6 : Hid (Below w.heap.size w W6) := below_next HB5.out hb6
  clear hb6 HB5
  go_wp2_with (first | (go_at_call 7; fail))
  refine (way_at 266 3 0 0 (by decide) (by decide) (by decide) _).mono ?_
  rintro e W7 ⟨rfl, hb7⟩
  have HB7 : Hid (Below w.heap.size w W7) := below_next HB6.out hb7
  clear hb7 HB6
  go_wp2_with (first | (go_at_call 7; fail))
  refine (way_at 65801 3 255 255 (by decide) (by decide) (by decide) _).mono ?_
  rintro e W8 ⟨rfl, hb8⟩
  have HB8 : Hid (Below w.heap.size w W8) := below_next HB7.out hb8
  clear hb8 HB7
  go_wp2_with (first | (go_at_call 7; fail))
  refine (way_at 65802 0 0 0 (by decide) (by decide) (by decide) _).mono ?_
  rintro e W9 ⟨rfl, hb9⟩
  have HB9 : Hid (Below w.heap.size w W9) := below_next HB8.out hb9
  clear hb9 HB8
  go_wp2_with (first | (go_at_call 8; fail))
  refine (total_nil _).mono ?_
  rintro e W10 ⟨rfl, hb10⟩
  have HB10 : Hid (Below w.heap.size w W10) := below_next HB9.out hb10
  clear hb10 HB9
  go_wp2_with (first | (go_at_call 8; fail))
  refine (total_of [0, 0, 9] _ tot2 (by simp) _ _ _ rfl rfl _ rfl).mono ?_
  rintro e W11 ⟨rfl, hb11⟩
  have HB11 : Hid (Below w.heap.size w W11) := below_next HB10.out hb11
  clear hb11 HB10
  go_wp2_with (first | (go_at_call 8; fail))
  refine (total_of [10] _ tot3 (by simp) _ _ _ rfl rfl _ rfl).mono ?_
  rintro e W12 ⟨rfl, hb12⟩
  have HB12 : Hid (Below w.heap.size w W12) := below_next HB11.out hb12
  clear hb12 HB11
  go_wp2_with (first | (go_at_call 8; fail))
  refine (total_of [9, 10, 11] _ tot4 (by simp) _ _ _ rfl rfl _ rfl).mono ?_
  rintro e W13 ⟨rfl, hb13⟩
  have HB13 : Hid (Below w.heap.size w W13) := below_next HB12.out hb13
  clear hb13 HB12
  go_wp2_with (first | (go_at_call 8; fail))
  refine (total_of [266] _ tot5 (by simp) _ _ _ rfl rfl _ rfl).mono ?_
  rintro e W14 ⟨rfl, hb14⟩
  have HB14 : Hid (Below w.heap.size w W14) := below_next HB13.out hb14
  clear hb14 HB13
  go_wp2_with (first | (go_at_call 8; fail))
  refine (total_of [-1] _ tot6 (by simp) _ _ _ rfl rfl _ rfl).mono ?_
  rintro e W15 ⟨rfl, hb15⟩
  have HB15 : Hid (Below w.heap.size w W15) := below_next HB14.out hb15
  clear hb15 HB14
  go_wp2_with (first | (go_at_call 9; fail))
  refine (awake_any _).mono ?_
  rintro e V ⟨rfl, hbv⟩
  go_wp2
  go_ret
  exact ⟨rfl, below_next HB15.out hbv⟩
end Go.Proofs.Ytcimehjcajdfiab
