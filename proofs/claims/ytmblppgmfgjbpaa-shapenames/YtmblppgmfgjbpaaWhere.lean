/- Where of shape, and the document's: the region of a block; for every layout and block. -/
import Derived.Test.YtmblppgmfgjbpaaStands
namespace Go.Proofs.Ytmblppgmfgjbpaa
open Go.RowKit

/-- The region of a block: its number. -/
def whereN (b l i a c d e f g k : Int) : Int :=
  if 0 ≤ k ∧ k < b ∧ standsB b l i a c d e f g = true then (if k < a then 1 else if k < c then 2 else if k < e then 3 else if k < g then 4 else 5) else 0
theorem wN0 {b l i a c d e f g k : Int} (h : k < 0 ∨ b ≤ k ∨ standsB b l i a c d e f g = false) : 0 = whereN b l i a c d e f g k := by
  unfold whereN
  rw [if_neg]
  rintro ⟨h1, h2, h3⟩
  rcases h with h | h | h
  · omega
  · omega
  · rw [h] at h3; cases h3
theorem wN {b l i a c d e f g k : Int} (h0 : 0 ≤ k) (h1 : k < b) (h : standsB b l i a c d e f g = true) : whereN b l i a c d e f g k = (if k < a then 1 else if k < c then 2 else if k < e then 3 else if k < g then 4 else 5) := by
  unfold whereN
  rw [if_pos ⟨h0, h1, h⟩]

set_option maxRecDepth 20000 in
set_option maxHeartbeats 400000 in
theorem where_any (b l i a c d e f g k : Int) (w : World) (hb : I64 b) :
    Calls Try.prog 11 #[.agg (lay9 b l i a c d e f g), .int .i64 k] w fun e' w' => e' = .returned (.int .u8 (whereN b l i a c d e f g k)) ∧ Below w.heap.size w w' := by
  have hc := fun w => stands_any b l i a c d e f g w hb
  have e1 : ∀ (w : World), (w.alloc (.cells (lay9 b l i a c d e f g) 25)).heap[w.heap.size]? = some (.cells (lay9 b l i a c d e f g) 25) := fun w => heap_alloc_new _ _
  have e2 := fun (W1 : World) (h : W1.heap[w.heap.size]? = some (.cells (lay9 b l i a c d e f g) 25)) => lay_cells h
  have z0 := @wN0 b l i a c d e f g k
  have z1 := @wN b l i a c d e f g k
  generalize whereN b l i a c d e f g k = n at *
  have Z0 : Hid _ := z0
  have Z1 : Hid _ := z1
  clear z0 z1
  generalize standsB b l i a c d e f g = v at *
  by_cases h0 : k < 0
  · unfold lay9 at *
    go_enter Try.func11, Try.ntmps11
    go_wp2
    go_ret
    exact ⟨ret_int (Z0.out (.inl h0)), below_new _ _⟩
  · by_cases h1 : b ≤ k
    · unfold lay9 at *
      go_enter Try.func11, Try.ntmps11
      go_wp2
      go_ret
      exact ⟨ret_int (Z0.out (.inr (.inl h1))), below_new _ _⟩
    · cases v
      · have ZZ : Hid (0 = n) := Z0.out (.inr (.inr rfl))
        clear Z0 Z1
        unfold lay9 at *
        go_enter Try.func11, Try.ntmps11
        go_wp2_with (first | (go_at_call 21; refine (hc _).mono ?_; rintro e' W1 ⟨rfl, hb1⟩))
        go_ret
        exact ⟨ret_int ZZ.out, below_next (below_new _ _) hb1⟩
      · have hn := Z1.out (by omega) (by omega) rfl
        have HN : Hid _ := hn
        clear Z0 Z1 hn
        unfold lay9 at *
        go_enter Try.func11, Try.ntmps11
        go_wp2_with (first | (go_at_call 21; fail))
        refine (hc _).mono ?_
        rintro e' W1 ⟨rfl, hb1⟩
        have h2 := heap_kept (e1 w) hb1
        have HB : Hid (Below w.heap.size w W1) := below_next (below_new _ _) hb1
        obtain ⟨c0, c1, c2, c3, c4, c5, c6, c7, c8, hlt⟩ := e2 W1 h2
        clear hb1 hc e1 h2 e2
        go_wp2
        all_goals
          go_ret
          refine ⟨ret_int ?_, HB.out⟩
          have h := HN.out
          clear c0 c1 c2 c3 c4 c5 c6 c7 c8 HN
          (repeat' split at h) <;> omega

set_option maxRecDepth 20000 in
set_option maxHeartbeats 400000 in
theorem refWhere_any (b l i a c d e f g k : Int) (w : World) :
    Calls Try.prog 12 #[.agg (lay9 b l i a c d e f g), .int .i64 k] w fun e' w' => e' = .returned (.int .i64 (whereN b l i a c d e f g k)) ∧ Below w.heap.size w w' := by
  have hc := fun w => fits3_any b l i a c d e f g w
  have e1 : ∀ (w : World), (w.alloc (.cells (lay9 b l i a c d e f g) 25)).heap[w.heap.size]? = some (.cells (lay9 b l i a c d e f g) 25) := fun w => heap_alloc_new _ _
  have e2 := fun (W1 : World) (h : W1.heap[w.heap.size]? = some (.cells (lay9 b l i a c d e f g) 25)) => lay_cells h
  have z0 := @wN0 b l i a c d e f g k
  have z1 := @wN b l i a c d e f g k
  have HX : Hid (standsB b l i a c d e f g = true → 1 = a ∧ a ≤ c ∧ c ≤ e ∧ e ≤ g) := fun q => by
    have := of_decide_eq_true q
    obtain ⟨⟨f1, f2, f3, f4, f5, f6⟩, q1, q2, q3, q4, q5, q6⟩ := this
    unfold dataAt bitsAt nodeB bitsB at *
    omega
  generalize whereN b l i a c d e f g k = n at *
  have Z0 : Hid _ := z0
  have Z1 : Hid _ := z1
  clear z0 z1
  generalize standsB b l i a c d e f g = v at *
  cases v
  · have ZZ : Hid (0 = n) := Z0.out (.inr (.inr rfl))
    clear Z0 Z1 HX
    unfold lay9 at *
    go_enter Try.func12, Try.ntmps12
    go_wp2_with (first | (go_at_call 22; refine (hc _).mono ?_; rintro e' W1 ⟨rfl, hb1⟩))
    go_ret
    exact ⟨ret_int ZZ.out, below_next (below_new _ _) hb1⟩
  · by_cases h0 : k < 0
    · unfold lay9 at *
      go_enter Try.func12, Try.ntmps12
      go_wp2_with (first | (go_at_call 22; refine (hc _).mono ?_; rintro e' W1 ⟨rfl, hb1⟩))
      go_ret
      exact ⟨ret_int (Z0.out (.inl h0)), below_next (below_new _ _) hb1⟩
    · by_cases h1 : b ≤ k
      · unfold lay9 at *
        go_enter Try.func12, Try.ntmps12
        go_wp2_with (first | (go_at_call 22; fail))
        refine (hc _).mono ?_
        rintro e' W1 ⟨rfl, hb1⟩
        have h2 := heap_kept (e1 w) hb1
        have HB : Hid (Below w.heap.size w W1) := below_next (below_new _ _) hb1
        obtain ⟨c0, c1, c2, c3, c4, c5, c6, c7, c8, hlt⟩ := e2 W1 h2
        clear hb1 hc e1 h2 e2
        go_wp2
        go_ret
        exact ⟨ret_int (Z0.out (.inr (.inl h1))), HB.out⟩
      · have hn := Z1.out (by omega) (by omega) rfl
        have hx := HX.out rfl
        have HN : Hid _ := hn
        have HY : Hid _ := hx
        clear Z0 Z1 hn hx HX
        unfold lay9 at *
        go_enter Try.func12, Try.ntmps12
        go_wp2_with (first | (go_at_call 22; fail))
        refine (hc _).mono ?_
        rintro e' W1 ⟨rfl, hb1⟩
        have h2 := heap_kept (e1 w) hb1
        have HB : Hid (Below w.heap.size w W1) := below_next (below_new _ _) hb1
        obtain ⟨c0, c1, c2, c3, c4, c5, c6, c7, c8, hlt⟩ := e2 W1 h2
        clear hb1 hc e1 h2 e2
        go_wp2
        all_goals
          go_ret
          refine ⟨ret_int ?_, HB.out⟩
          have h := HN.out
          have h9 := HY.out
          clear c0 c1 c2 c3 c4 c5 c6 c7 c8 HN HY
          (repeat' split at h) <;> omega

theorem place_any (k : Int) (w : World) (h : 0 ≤ k ∧ k ≤ 100) : Calls Try.prog 26 #[.int .i64 k] w fun e w' => e = .returned (.int .i64 (8 + 4 * k)) ∧ w' = w := by
  obtain ⟨h0, h1⟩ := h
  go_enter Try.func26, Try.ntmps26
  go_wp2
  go_ret
  exact ⟨rfl, rfl⟩
theorem next_any (k : Int) (w : World) (h : 0 ≤ k ∧ k ≤ 100) : Calls Try.prog 19 #[.int .u8 k] w fun e w' => e = .returned (.int .u8 (k + 1)) ∧ w' = w := by
  obtain ⟨h0, h1⟩ := h
  go_enter Try.func19, Try.ntmps19
  go_wp2
  go_ret
  exact ⟨rfl, rfl⟩
theorem ret23 {fn : Func} {p : Tmp} {R : Ending → World → Prop} {a : Act} {w : World} (h : fn.results = #[.cell p 23]) (g : Nat) (cs : Array Value) (hs : cs.size = 3)
    (hp : a.tmps.getD p undef = .pointer (some ⟨g, 0, none⟩)) (hg : w.heap[g]? = some (.cells cs 23)) (hd : a.defers = []) (hR : R (.returned (.agg cs)) w) : bodyPost Try.prog fn R .ret a w :=
  bodyPost_ret (results_cell_row h a.tmps w g 23 cs (0, 0) _ hp hg Try.underlying23 rfl (by rw [hs]; exact size23G)) hd hR
theorem ret48 {fn : Func} {p : Tmp} {R : Ending → World → Prop} {a : Act} {w : World} (h : fn.results = #[.cell p 48]) (g : Nat) (cs : Array Value) (hs : cs.size = 9)
    (hp : a.tmps.getD p undef = .pointer (some ⟨g, 0, none⟩)) (hg : w.heap[g]? = some (.cells cs 48)) (hd : a.defers = []) (hR : R (.returned (.agg cs)) w) : bodyPost Try.prog fn R .ret a w :=
  bodyPost_ret (results_cell_row h a.tmps w g 48 cs (0, 0) _ hp hg Try.underlying48 rfl (by rw [hs]; kernel_rfl)) hd hR
theorem small_any (w : World) : Calls Try.prog 18 #[] w fun e w' => e = .returned (geoV 400 32 60) ∧ w' = w.alloc (.cells #[.int .i64 400, .int .i64 32, .int .i64 60] 23) := by
  unfold geoV
  go_enter Try.func18, Try.ntmps18
  go_wp2
  exact ret23 rfl w.heap.size _ rfl rfl (heap_alloc_new _ _) rfl ⟨rfl, rfl⟩
set_option maxRecDepth 20000 in
set_option maxHeartbeats 400000 in
theorem numbers_any (b l i a c d e f g : Int) (w : World) :
    Calls Try.prog 24 #[.agg (lay9 b l i a c d e f g)] w fun e' w' => e' = .returned (.agg (lay9 b l i a c d e f g)) ∧ Below w.heap.size w w' := by
  unfold lay9
  go_enter Try.func24, Try.ntmps24
  go_wp2
  refine ret48 rfl (w.heap.size + 1) _ rfl rfl (heap3 _ _ _ _) rfl ⟨rfl, ?_⟩
  repeat refine bel_al ?_ _
  exact Below.refl _ _
set_option maxRecDepth 20000 in
set_option maxHeartbeats 400000 in
theorem refNumbers_any (b l i a c d e f g : Int) (w : World) :
    Calls Try.prog 27 #[.agg (lay9 b l i a c d e f g)] w fun e' w' => e' = .returned (.agg (lay9 b l i a c d e f g)) ∧ Below w.heap.size w w' := by
  unfold lay9
  go_enter Try.func27, Try.ntmps27
  go_wp2
  refine ret48 rfl (w.heap.size + 1) _ rfl rfl (heap_alloc2_new _ _ _) rfl ⟨rfl, ?_⟩
  repeat refine bel_al ?_ _
  exact Below.refl _ _
end Go.Proofs.Ytmblppgmfgjbpaa
