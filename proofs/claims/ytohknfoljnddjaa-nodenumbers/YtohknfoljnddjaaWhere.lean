/- Where of shape, and the document's: the region of a block; for every layout and block. -/
import Derived.Test.YtohknfoljnddjaaStands
namespace Go.Proofs.Ytohknfoljnddjaa
open Go.RowKit

/-- The region of a block: its number. -/
def whereN (b l i a c d e f g k : Int) : Int :=
  if 0 ≤ k ∧ k < b ∧ standsB b l i a c d e f g = true then (if k < a then 1 else if k < c then 2 else if k < e then 3 else if k < g then 4 else 5) else 0
theorem wN0 {b l i a c d e f g k : Int} (h : k < 0 ∨ b ≤ k ∨ standsB b l i a c d e f g = false) : 0 = whereN b l i a c d e f g k := by
  unfold whereN
  rw [if_neg]
  rintro ⟨h1, h2, h3⟩
  rcases h with h | h | h
  · omega
  · omega
  · rw [h] at h3; cases h3
theorem wN {b l i a c d e f g k : Int} (h0 : 0 ≤ k) (h1 : k < b) (h : standsB b l i a c d e f g = true) : whereN b l i a c d e f g k = (if k < a then 1 else if k < c then 2 else if k < e then 3 else if k < g then 4 else 5) := by
  unfold whereN
  rw [if_pos ⟨h0, h1, h⟩]

set_option maxRecDepth 20000 in
set_option maxHeartbeats 400000 in
theorem where_any (b l i a c d e f g k : Int) (w : World) (hb : I64 b) :
    Calls Try.prog 20 #[.agg (lay9 b l i a c d e f g), .int .i64 k] w fun e' w' => e' = .returned (.int .u8 (whereN b l i a c d e f g k)) ∧ Below w.heap.size w w' := by
  have hc := fun w => stands_any b l i a c d e f g w hb
  have e1 : ∀ (w : World), (w.alloc (.cells (lay9 b l i a c d e f g) 43)).heap[w.heap.size]? = some (.cells (lay9 b l i a c d e f g) 43) := fun w => heap_alloc_new _ _
  have e2 := fun (W1 : World) (h : W1.heap[w.heap.size]? = some (.cells (lay9 b l i a c d e f g) 43)) => lay_cells h
  have z0 := @wN0 b l i a c d e f g k
  have z1 := @wN b l i a c d e f g k
  generalize whereN b l i a c d e f g k = n at *
  have Z0 : Hid _ := z0
  have Z1 : Hid _ := z1
  clear z0 z1
  generalize standsB b l i a c d e f g = v at *
  by_cases h0 : k < 0
  · unfold lay9 at *
    go_enter Try.func20, Try.ntmps20
    go_wp2
    go_ret
    exact ⟨ret_int (Z0.out (.inl h0)), below_new _ _⟩
  · by_cases h1 : b ≤ k
    · unfold lay9 at *
      go_enter Try.func20, Try.ntmps20
      go_wp2
      go_ret
      exact ⟨ret_int (Z0.out (.inr (.inl h1))), below_new _ _⟩
    · cases v
      · have ZZ : Hid (0 = n) := Z0.out (.inr (.inr rfl))
        clear Z0 Z1
        unfold lay9 at *
        go_enter Try.func20, Try.ntmps20
        go_wp2_with (first | (go_at_call 41; refine (hc _).mono ?_; rintro e' W1 ⟨rfl, hb1⟩))
        go_ret
        exact ⟨ret_int ZZ.out, below_next (below_new _ _) hb1⟩
      · have hn := Z1.out (by omega) (by omega) rfl
        have HN : Hid _ := hn
        clear Z0 Z1 hn
        unfold lay9 at *
        go_enter Try.func20, Try.ntmps20
        go_wp2_with (first | (go_at_call 41; fail))
        refine (hc _).mono ?_
        rintro e' W1 ⟨rfl, hb1⟩
        have h2 := heap_kept (e1 w) hb1
        have HB : Hid (Below w.heap.size w W1) := below_next (below_new _ _) hb1
        obtain ⟨c0, c1, c2, c3, c4, c5, c6, c7, c8, hlt⟩ := e2 W1 h2
        clear hb1 hc e1 h2 e2
        go_wp2
        all_goals
          go_ret
          refine ⟨ret_int ?_, HB.out⟩
          have h := HN.out
          clear c0 c1 c2 c3 c4 c5 c6 c7 c8 HN
          (repeat' split at h) <;> omega

theorem ret23 {fn : Func} {p : Tmp} {R : Ending → World → Prop} {a : Act} {w : World} (h : fn.results = #[.cell p 41]) (g : Nat) (cs : Array Value) (hs : cs.size = 3)
    (hp : a.tmps.getD p undef = .pointer (some ⟨g, 0, none⟩)) (hg : w.heap[g]? = some (.cells cs 41)) (hd : a.defers = []) (hR : R (.returned (.agg cs)) w) : bodyPost Try.prog fn R .ret a w :=
  bodyPost_ret (results_cell_row h a.tmps w g 41 cs (0, 0) _ hp hg Try.underlying41 rfl (by rw [hs]; exact size23G)) hd hR
end Go.Proofs.Ytohknfoljnddjaa
