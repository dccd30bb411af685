/- ShapeSide's walk: whatever the arguments, the call answers true and turns nothing that was there. -/
import Derived.Test.YtmblppgmfgjbpaaLawBack
namespace Go.Proofs.Ytmblppgmfgjbpaa
open Go.RowKit

/-- The region of block k, if the regions begin at 1, c, e, g and there are b blocks. -/
def regN (b c e g k : Int) : Int := if 0 ≤ k ∧ k < b then (if k < 1 then 1 else if k < c then 2 else if k < e then 3 else if k < g then 4 else 5) else 0
theorem where_reg {b l i : Int} (h : Fine b l i) (k : Int) (w : World) :
    Calls Try.prog 11 #[.agg (lay9 b l i 1 (1 + l) (nodeB i) (bitsAt l i) (bitsB b) (dataAt b l i)), .int .i64 k] w fun e' w' => e' = .returned (.int .u8 (regN b (1 + l) (bitsAt l i) (dataAt b l i) k)) ∧ Below w.heap.size w w' := by
  have hb : I64 b := by have := h.pos; have := h.2.2.2.2.1; unfold I64; omega
  have hc := where_any b l i 1 (1 + l) (nodeB i) (bitsAt l i) (bitsB b) (dataAt b l i) k w hb
  have hs : standsB b l i 1 (1 + l) (nodeB i) (bitsAt l i) (bitsB b) (dataAt b l i) = true := decide_eq_true ⟨h, rfl, rfl, rfl, rfl, rfl, rfl⟩
  rw [show whereN b l i 1 (1 + l) (nodeB i) (bitsAt l i) (bitsB b) (dataAt b l i) k = regN b (1 + l) (bitsAt l i) (dataAt b l i) k by
    unfold whereN regN
    rw [hs]
    simp only [and_true]] at hc
  exact hc
/-- From block to block: the region stays, or the next one begins, just where the layout says. -/
theorem side_cases (b c e g k : Int) (h0 : 1 < c) (h1 : c < e) (h2 : e < g) (hk : 0 ≤ k) (hk1 : k < b - 1) :
    ∃ (r s : Int) (q1 q2 q3 q4 : Bool), regN b c e g k = r ∧ regN b c e g (k + 1) = s ∧ (k + 1 == 1) = q1 ∧ (k + 1 == c) = q2 ∧ (k + 1 == e) = q3 ∧ (k + 1 == g) = q4 ∧
      ((r = 1 ∧ s = 2 ∧ q1 = true) ∨ (r = 2 ∧ s = 2 ∧ q1 = false ∧ q2 = false ∧ q3 = false ∧ q4 = false) ∨ (r = 2 ∧ s = 3 ∧ q1 = false ∧ q2 = true) ∨ (r = 3 ∧ s = 3 ∧ q1 = false ∧ q2 = false ∧ q3 = false ∧ q4 = false) ∨
        (r = 3 ∧ s = 4 ∧ q1 = false ∧ q2 = false ∧ q3 = true) ∨ (r = 4 ∧ s = 4 ∧ q1 = false ∧ q2 = false ∧ q3 = false ∧ q4 = false) ∨ (r = 4 ∧ s = 5 ∧ q1 = false ∧ q2 = false ∧ q3 = false ∧ q4 = true) ∨ (r = 5 ∧ s = 5 ∧ q1 = false ∧ q2 = false ∧ q3 = false ∧ q4 = false)) := by
  refine ⟨_, _, _, _, _, _, rfl, rfl, rfl, rfl, rfl, rfl, ?_⟩
  unfold regN
  rw [if_pos (show 0 ≤ k ∧ k < b by omega), if_pos (show 0 ≤ k + 1 ∧ k + 1 < b by omega)]
  simp only [beq_iff_eq, beq_eq_false_iff_ne, ne_eq]
  by_cases a1 : k < 1
  · refine .inl ⟨if_pos a1, ?_, by omega⟩
    rw [if_neg (by omega), if_pos (by omega)]
  · by_cases a2 : k < c
    · by_cases a3 : k + 1 = c
      · refine .inr (.inr (.inl ⟨?_, ?_, by omega, a3⟩))
        · rw [if_neg a1, if_pos a2]
        · rw [if_neg (by omega), if_neg (by omega), if_pos (by omega)]
      · refine .inr (.inl ⟨?_, ?_, by omega, a3, by omega, by omega⟩)
        · rw [if_neg a1, if_pos a2]
        · rw [if_neg (by omega), if_pos (by omega)]
    · by_cases a4 : k < e
      · by_cases a5 : k + 1 = e
        · refine .inr (.inr (.inr (.inr (.inl ⟨?_, ?_, by omega, by omega, a5⟩))))
          · rw [if_neg a1, if_neg a2, if_pos a4]
          · rw [if_neg (by omega), if_neg (by omega), if_neg (by omega), if_pos (by omega)]
        · refine .inr (.inr (.inr (.inl ⟨?_, ?_, by omega, by omega, a5, by omega⟩)))
          · rw [if_neg a1, if_neg a2, if_pos a4]
          · rw [if_neg (by omega), if_neg (by omega), if_pos (by omega)]
      · by_cases a6 : k < g
        · by_cases a7 : k + 1 = g
          · refine .inr (.inr (.inr (.inr (.inr (.inr (.inl ⟨?_, ?_, by omega, by omega, by omega, a7⟩))))))
            · rw [if_neg a1, if_neg a2, if_neg a4, if_pos a6]
            · rw [if_neg (by omega), if_neg (by omega), if_neg (by omega), if_neg (by omega)]
          · refine .inr (.inr (.inr (.inr (.inr (.inl ⟨?_, ?_, by omega, by omega, by omega, a7⟩)))))
            · rw [if_neg a1, if_neg a2, if_neg a4, if_pos a6]
            · rw [if_neg (by omega), if_neg (by omega), if_neg (by omega), if_pos (by omega)]
        · refine .inr (.inr (.inr (.inr (.inr (.inr (.inr ⟨?_, ?_, by omega, by omega, by omega, by omega⟩))))))
          · rw [if_neg a1, if_neg a2, if_neg a4, if_neg a6]
          · rw [if_neg (by omega), if_neg (by omega), if_neg (by omega), if_neg (by omega)]

set_option maxRecDepth 20000 in
set_option maxHeartbeats 4000000 in
theorem side_fine (b l i k : Int) (hfine : Fine b l i) (w : World) :
    Calls Try.prog 8 #[geoV b l i, .int .i64 k] w fun e w' => e = .returned (.bool true) ∧ Below w.heap.size w w' := by
  have hof := fun w => of_any b l i w (by have := hfine.pos; have := hfine.2.2.2.2.1; unfold I64; omega)
  rw [show ofV b l i = layV b l i from if_pos hfine, show ofE b l i = 0 from if_pos hfine] at hof
  have hw := fun k w => where_reg hfine k w
  have hpos := hfine.pos
  obtain ⟨f1, f2, f3, f4, f5, f6⟩ := hfine
  unfold layV at hof
  obtain ⟨d, hd⟩ : ∃ d, d = nodeB i := ⟨_, rfl⟩
  obtain ⟨e, he⟩ : ∃ e, e = bitsAt l i := ⟨_, rfl⟩
  obtain ⟨f, hf⟩ : ∃ f, f = bitsB b := ⟨_, rfl⟩
  obtain ⟨g, hg⟩ : ∃ g, g = dataAt b l i := ⟨_, rfl⟩
  obtain ⟨c, hc⟩ : ∃ c, c = 1 + l := ⟨_, rfl⟩
  rw [← hd, ← he, ← hf, ← hg, ← hc] at hof
  simp only [← hd, ← he, ← hf, ← hg, ← hc] at hw
  rw [← hg] at f6
  have m1 : e = c + d := by rw [he, hc, hd]; rfl
  have m2 : g = e + f := by rw [hg, he, hf]; rfl
  unfold nodeB at hd
  unfold bitsB at hf
  clear he hg
  have d1 : decide (16 * d ≤ i) = false := decide_eq_false (by omega)
  have d2 : decide (i < 16 * (d - 1)) = false := decide_eq_false (by omega)
  have d3 : decide (8192 * f < b) = false := decide_eq_false (by omega)
  have d4 : decide (b ≤ 8192 * (f - 1)) = false := decide_eq_false (by omega)
  have d5 : (c - 1 != l) = false := by simp; omega
  have d6 : (e - c != d) = false := by simp; omega
  have d7 : (g - e != f) = false := by simp; omega
  have hd0 : 1 ≤ d := by omega
  have hd1 : d ≤ 5000 := by omega
  have hf0 : 1 ≤ f := by omega
  have hf1 : f ≤ 200 := by omega
  have hc0 : 33 ≤ c := by omega
  have hc1 : c ≤ 257 := by omega
  have he0 : 33 ≤ e := by omega
  have he1 : e ≤ 6000 := by omega
  have hg0 : 33 ≤ g := by omega
  have hg1 : g ≤ 7000 := by omega
  have hw0 := fun w => hw 0 w
  have hwl := fun w => hw (b - 1) w
  have hwb := fun w => hw b w
  have hwm := fun w => hw (-1) w
  rw [show regN b c e g 0 = 1 by unfold regN; rw [if_pos (by omega), if_pos (by omega)]] at hw0
  rw [show regN b c e g (b - 1) = 5 by unfold regN; rw [if_pos (by omega), if_neg (by omega), if_neg (by omega), if_neg (by omega), if_neg (by omega)]] at hwl
  rw [show regN b c e g b = 0 by unfold regN; rw [if_neg (by omega)]] at hwb
  rw [show regN b c e g (-1) = 0 by unfold regN; rw [if_neg (by omega)]] at hwm
  have HC : Hid (0 ≤ k → k < b - 1 → _) := fun p q => side_cases b c e g k (by omega) (by omega) (by omega) p q
  have HW : Hid _ := hw
  clear hd hf hc hw m1 m2
  unfold geoV lay9 at *
  go_enter Try.func8, Try.ntmps8
  go_wp2_with (first | (go_at_call 9; fail))
  refine (hof _).mono ?_
  rintro e' W1 ⟨rfl, hb1⟩
  have g1 := heap_kept (heap_alloc_new w _) hb1
  have HB1 : Hid (Below w.heap.size w W1) := below_next (below_new _ _) hb1
  have a10 : W1.cell? ⟨w.heap.size, 0, none⟩ = some (.int .i64 b) := Joins.cell_of_block g1 0
  have t1 : w.heap.size < W1.heap.size := (Array.getElem?_eq_some_iff.1 g1).1
  clear hb1 hof
  go_wp2_with (first | (go_at_call 11; fail))
  refine (hw0 _).mono ?_
  rintro e' W2 ⟨rfl, hb2⟩
  have g2 := heap_kept (heap_kept g1 (below_new _ _)) hb2
  have l2 := heap_kept (heap_alloc_new W1 _) hb2
  have HB2 : Hid (Below w.heap.size w W2) := below_next (bel_al HB1.out _) hb2
  clear a10 t1 hb2 hw0 g1 HB1
  have a20 : W2.cell? ⟨w.heap.size, 0, none⟩ = some (.int .i64 b) := Joins.cell_of_block g2 0
  have a21 : W2.cell? ⟨w.heap.size, 1, none⟩ = some (.int .i64 l) := Joins.cell_of_block g2 1
  have a22 : W2.cell? ⟨w.heap.size, 2, none⟩ = some (.int .i64 i) := Joins.cell_of_block g2 2
  have b20 : W2.cell? ⟨W1.heap.size, 0, none⟩ = some (.int .i64 b) := Joins.cell_of_block l2 0
  have b21 : W2.cell? ⟨W1.heap.size, 1, none⟩ = some (.int .i64 l) := Joins.cell_of_block l2 1
  have b22 : W2.cell? ⟨W1.heap.size, 2, none⟩ = some (.int .i64 i) := Joins.cell_of_block l2 2
  have b23 : W2.cell? ⟨W1.heap.size, 3, none⟩ = some (.int .i64 1) := Joins.cell_of_block l2 3
  have b24 : W2.cell? ⟨W1.heap.size, 4, none⟩ = some (.int .i64 c) := Joins.cell_of_block l2 4
  have b25 : W2.cell? ⟨W1.heap.size, 5, none⟩ = some (.int .i64 d) := Joins.cell_of_block l2 5
  have b26 : W2.cell? ⟨W1.heap.size, 6, none⟩ = some (.int .i64 e) := Joins.cell_of_block l2 6
  have b27 : W2.cell? ⟨W1.heap.size, 7, none⟩ = some (.int .i64 f) := Joins.cell_of_block l2 7
  have b28 : W2.cell? ⟨W1.heap.size, 8, none⟩ = some (.int .i64 g) := Joins.cell_of_block l2 8
  go_wp2_with (first | (go_at_call 11; fail))
  clear a20 a21 a22 b20 b21 b22 b23 b24 b25 b26 b27 b28
  refine (hwl _).mono ?_
  rintro e' W3 ⟨rfl, hb3⟩
  have g3 := heap_kept g2 hb3
  have l3 := heap_kept l2 hb3
  have HB3 : Hid (Below w.heap.size w W3) := below_next HB2.out hb3
  clear hb3 hwl g2 HB2 l2
  have a30 : W3.cell? ⟨w.heap.size, 0, none⟩ = some (.int .i64 b) := Joins.cell_of_block g3 0
  have a31 : W3.cell? ⟨w.heap.size, 1, none⟩ = some (.int .i64 l) := Joins.cell_of_block g3 1
  have a32 : W3.cell? ⟨w.heap.size, 2, none⟩ = some (.int .i64 i) := Joins.cell_of_block g3 2
  have b30 : W3.cell? ⟨W1.heap.size, 0, none⟩ = some (.int .i64 b) := Joins.cell_of_block l3 0
  have b31 : W3.cell? ⟨W1.heap.size, 1, none⟩ = some (.int .i64 l) := Joins.cell_of_block l3 1
  have b32 : W3.cell? ⟨W1.heap.size, 2, none⟩ = some (.int .i64 i) := Joins.cell_of_block l3 2
  have b33 : W3.cell? ⟨W1.heap.size, 3, none⟩ = some (.int .i64 1) := Joins.cell_of_block l3 3
  have b34 : W3.cell? ⟨W1.heap.size, 4, none⟩ = some (.int .i64 c) := Joins.cell_of_block l3 4
  have b35 : W3.cell? ⟨W1.heap.size, 5, none⟩ = some (.int .i64 d) := Joins.cell_of_block l3 5
  have b36 : W3.cell? ⟨W1.heap.size, 6, none⟩ = some (.int .i64 e) := Joins.cell_of_block l3 6
  have b37 : W3.cell? ⟨W1.heap.size, 7, none⟩ = some (.int .i64 f) := Joins.cell_of_block l3 7
  have b38 : W3.cell? ⟨W1.heap.size, 8, none⟩ = some (.int .i64 g) := Joins.cell_of_block l3 8
  go_wp2_with (first | (go_at_call 11; fail))
  clear a30 a31 a32 b30 b31 b32 b33 b34 b35 b36 b37 b38
  refine (hwb _).mono ?_
  rintro e' W4 ⟨rfl, hb4⟩
  have g4 := heap_kept g3 hb4
  have l4 := heap_kept l3 hb4
  have HB4 : Hid (Below w.heap.size w W4) := below_next HB3.out hb4
  clear hb4 hwb g3 HB3 l3
  have a40 : W4.cell? ⟨w.heap.size, 0, none⟩ = some (.int .i64 b) := Joins.cell_of_block g4 0
  have a41 : W4.cell? ⟨w.heap.size, 1, none⟩ = some (.int .i64 l) := Joins.cell_of_block g4 1
  have a42 : W4.cell? ⟨w.heap.size, 2, none⟩ = some (.int .i64 i) := Joins.cell_of_block g4 2
  have b40 : W4.cell? ⟨W1.heap.size, 0, none⟩ = some (.int .i64 b) := Joins.cell_of_block l4 0
  have b41 : W4.cell? ⟨W1.heap.size, 1, none⟩ = some (.int .i64 l) := Joins.cell_of_block l4 1
  have b42 : W4.cell? ⟨W1.heap.size, 2, none⟩ = some (.int .i64 i) := Joins.cell_of_block l4 2
  have b43 : W4.cell? ⟨W1.heap.size, 3, none⟩ = some (.int .i64 1) := Joins.cell_of_block l4 3
  have b44 : W4.cell? ⟨W1.heap.size, 4, none⟩ = some (.int .i64 c) := Joins.cell_of_block l4 4
  have b45 : W4.cell? ⟨W1.heap.size, 5, none⟩ = some (.int .i64 d) := Joins.cell_of_block l4 5
  have b46 : W4.cell? ⟨W1.heap.size, 6, none⟩ = some (.int .i64 e) := Joins.cell_of_block l4 6
  have b47 : W4.cell? ⟨W1.heap.size, 7, none⟩ = some (.int .i64 f) := Joins.cell_of_block l4 7
  have b48 : W4.cell? ⟨W1.heap.size, 8, none⟩ = some (.int .i64 g) := Joins.cell_of_block l4 8
  go_wp2_with (first | (go_at_call 11; fail))
  clear a40 a41 a42 b40 b41 b42 b43 b44 b45 b46 b47 b48
  refine (hwm _).mono ?_
  rintro e' W5 ⟨rfl, hb5⟩
  have g5 := heap_kept g4 hb5
  have l5 := heap_kept l4 hb5
  have HB5 : Hid (Below w.heap.size w W5) := below_next HB4.out hb5
  clear hb5 hwm g4 HB4 l4
  have a50 : W5.cell? ⟨w.heap.size, 0, none⟩ = some (.int .i64 b) := Joins.cell_of_block g5 0
  have a51 : W5.cell? ⟨w.heap.size, 1, none⟩ = some (.int .i64 l) := Joins.cell_of_block g5 1
  have a52 : W5.cell? ⟨w.heap.size, 2, none⟩ = some (.int .i64 i) := Joins.cell_of_block g5 2
  have b50 : W5.cell? ⟨W1.heap.size, 0, none⟩ = some (.int .i64 b) := Joins.cell_of_block l5 0
  have b51 : W5.cell? ⟨W1.heap.size, 1, none⟩ = some (.int .i64 l) := Joins.cell_of_block l5 1
  have b52 : W5.cell? ⟨W1.heap.size, 2, none⟩ = some (.int .i64 i) := Joins.cell_of_block l5 2
  have b53 : W5.cell? ⟨W1.heap.size, 3, none⟩ = some (.int .i64 1) := Joins.cell_of_block l5 3
  have b54 : W5.cell? ⟨W1.heap.size, 4, none⟩ = some (.int .i64 c) := Joins.cell_of_block l5 4
  have b55 : W5.cell? ⟨W1.heap.size, 5, none⟩ = some (.int .i64 d) := Joins.cell_of_block l5 5
  have b56 : W5.cell? ⟨W1.heap.size, 6, none⟩ = some (.int .i64 e) := Joins.cell_of_block l5 6
  have b57 : W5.cell? ⟨W1.heap.size, 7, none⟩ = some (.int .i64 f) := Joins.cell_of_block l5 7
  have b58 : W5.cell? ⟨W1.heap.size, 8, none⟩ = some (.int .i64 g) := Joins.cell_of_block l5 8
  go_upto_if 118 with fail
  clear d1 d2 d3 d4 d5 d6 d7
  by_cases h0 : k < 0
  · clear HC HW
    go_wp2_with (first | (go_at_call 13; fail))
    refine (awake_any _).mono ?_
    rintro e' V ⟨rfl, hv⟩
    have HV : Hid (Below w.heap.size w V) := below_next HB5.out hv
    clear hv HB5
    go_wp2
    go_ret
    exact ⟨rfl, HV.out⟩
  · by_cases h1 : b - 1 ≤ k
    · clear HC HW
      go_wp2_with (first | (go_at_call 13; fail))
      refine (awake_any _).mono ?_
      rintro e' V ⟨rfl, hv⟩
      have HV : Hid (Below w.heap.size w V) := below_next HB5.out hv
      clear hv HB5
      go_wp2
      go_ret
      exact ⟨rfl, HV.out⟩
    · have h0 : 0 ≤ k := by omega
      have h1 : k < b - 1 := by omega
      have hs := fun w => HW.out k w
      have ht := fun w => HW.out (k + 1) w
      obtain ⟨r, s, q1, q2, q3, q4, e1, e2, e3, e4, e5, e6, hcase⟩ := HC.out h0 h1
      rw [e1] at hs
      rw [e2] at ht
      have hn := fun w h => next_any r w h
      clear HC HW e1 e2
      rcases hcase with ⟨rfl, rfl, rfl⟩ | ⟨rfl, rfl, rfl, rfl, rfl, rfl⟩ | ⟨rfl, rfl, rfl, rfl⟩ | ⟨rfl, rfl, rfl, rfl, rfl, rfl⟩ | ⟨rfl, rfl, rfl, rfl, rfl⟩ | ⟨rfl, rfl, rfl, rfl, rfl, rfl⟩ | ⟨rfl, rfl, rfl, rfl, rfl, rfl⟩ | ⟨rfl, rfl, rfl, rfl, rfl, rfl⟩
      all_goals
        go_wp2_with (first | (go_at_call 11; fail))
        refine (hs _).mono ?_
        rintro e' W6 ⟨rfl, hb6⟩
        have g6 := heap_kept g5 hb6
        have l6 := heap_kept l5 hb6
        have HB6 : Hid (Below w.heap.size w W6) := below_next HB5.out hb6
        clear hb6 hs g5 l5 HB5
        clear a50 a51 a52 b50 b51 b52 b53 b54 b55 b56 b57 b58
        have a60 : W6.cell? ⟨w.heap.size, 0, none⟩ = some (.int .i64 b) := Joins.cell_of_block g6 0
        have a61 : W6.cell? ⟨w.heap.size, 1, none⟩ = some (.int .i64 l) := Joins.cell_of_block g6 1
        have a62 : W6.cell? ⟨w.heap.size, 2, none⟩ = some (.int .i64 i) := Joins.cell_of_block g6 2
        have b60 : W6.cell? ⟨W1.heap.size, 0, none⟩ = some (.int .i64 b) := Joins.cell_of_block l6 0
        have b61 : W6.cell? ⟨W1.heap.size, 1, none⟩ = some (.int .i64 l) := Joins.cell_of_block l6 1
        have b62 : W6.cell? ⟨W1.heap.size, 2, none⟩ = some (.int .i64 i) := Joins.cell_of_block l6 2
        have b63 : W6.cell? ⟨W1.heap.size, 3, none⟩ = some (.int .i64 1) := Joins.cell_of_block l6 3
        have b64 : W6.cell? ⟨W1.heap.size, 4, none⟩ = some (.int .i64 c) := Joins.cell_of_block l6 4
        have b65 : W6.cell? ⟨W1.heap.size, 5, none⟩ = some (.int .i64 d) := Joins.cell_of_block l6 5
        have b66 : W6.cell? ⟨W1.heap.size, 6, none⟩ = some (.int .i64 e) := Joins.cell_of_block l6 6
        have b67 : W6.cell? ⟨W1.heap.size, 7, none⟩ = some (.int .i64 f) := Joins.cell_of_block l6 7
        have b68 : W6.cell? ⟨W1.heap.size, 8, none⟩ = some (.int .i64 g) := Joins.cell_of_block l6 8
        go_wp2_with (first | (go_at_call 11; fail))
        refine (ht _).mono ?_
        rintro e' W7 ⟨rfl, hb7⟩
        have g7 := heap_kept g6 hb7
        have l7 := heap_kept l6 hb7
        have HB7 : Hid (Below w.heap.size w W7) := below_next HB6.out hb7
        clear hb7 ht g6 l6 HB6
        clear a60 a61 a62 b60 b61 b62 b63 b64 b65 b66 b67 b68
        have a70 : W7.cell? ⟨w.heap.size, 0, none⟩ = some (.int .i64 b) := Joins.cell_of_block g7 0
        have a71 : W7.cell? ⟨w.heap.size, 1, none⟩ = some (.int .i64 l) := Joins.cell_of_block g7 1
        have a72 : W7.cell? ⟨w.heap.size, 2, none⟩ = some (.int .i64 i) := Joins.cell_of_block g7 2
        have b70 : W7.cell? ⟨W1.heap.size, 0, none⟩ = some (.int .i64 b) := Joins.cell_of_block l7 0
        have b71 : W7.cell? ⟨W1.heap.size, 1, none⟩ = some (.int .i64 l) := Joins.cell_of_block l7 1
        have b72 : W7.cell? ⟨W1.heap.size, 2, none⟩ = some (.int .i64 i) := Joins.cell_of_block l7 2
        have b73 : W7.cell? ⟨W1.heap.size, 3, none⟩ = some (.int .i64 1) := Joins.cell_of_block l7 3
        have b74 : W7.cell? ⟨W1.heap.size, 4, none⟩ = some (.int .i64 c) := Joins.cell_of_block l7 4
        have b75 : W7.cell? ⟨W1.heap.size, 5, none⟩ = some (.int .i64 d) := Joins.cell_of_block l7 5
        have b76 : W7.cell? ⟨W1.heap.size, 6, none⟩ = some (.int .i64 e) := Joins.cell_of_block l7 6
        have b77 : W7.cell? ⟨W1.heap.size, 7, none⟩ = some (.int .i64 f) := Joins.cell_of_block l7 7
        have b78 : W7.cell? ⟨W1.heap.size, 8, none⟩ = some (.int .i64 g) := Joins.cell_of_block l7 8
        go_wp2_with (first | (go_at_call 19; refine (hn _ (by omega)).mono ?_; rintro e' w' ⟨rfl, rfl⟩) | (go_at_call 13; fail))
        refine (awake_any _).mono ?_
        rintro e' V ⟨rfl, hv⟩
        have HV : Hid (Below w.heap.size w V) := below_next HB7.out hv
        clear hv HB7 g7 l7
        clear a70 a71 a72 b70 b71 b72 b73 b74 b75 b76 b77 b78
        go_wp2
        go_ret
        exact ⟨rfl, HV.out⟩

set_option maxRecDepth 20000 in
set_option maxHeartbeats 1000000 in
theorem side_not (b l i k : Int) (hb : I64 b) (hfine : ¬ Fine b l i) (w : World) :
    Calls Try.prog 8 #[geoV b l i, .int .i64 k] w fun e w' => e = .returned (.bool true) ∧ Below w.heap.size w w' := by
  have hof := fun w => of_any b l i w hb
  rw [show ofV b l i = layZ from if_neg hfine, show ofE b l i = 2 from if_neg hfine] at hof
  have hwh := fun w => where_any 0 0 0 0 0 0 0 0 0 k w (by unfold I64; omega)
  rw [show whereN 0 0 0 0 0 0 0 0 0 k = 0 by unfold whereN; rw [if_neg (by omega)]] at hwh
  clear hb hfine
  unfold layZ geoV at *
  unfold lay9 at *
  go_enter Try.func8, Try.ntmps8
  go_wp2_with (first | (go_at_call 9; fail))
  refine (hof _).mono ?_
  rintro e' W1 ⟨rfl, hb1⟩
  have HB1 : Hid (Below w.heap.size w W1) := below_next (below_new _ _) hb1
  clear hb1 hof
  go_wp2_with (first | (go_at_call 11; fail))
  refine (hwh _).mono ?_
  rintro e' W2 ⟨rfl, hb2⟩
  have HB2 : Hid (Below w.heap.size w W2) := below_next (bel_al HB1.out _) hb2
  clear hb2 hwh HB1
  go_wp2_with (first | (go_at_call 13; fail))
  refine (awake_any _).mono ?_
  rintro e' W3 ⟨rfl, hb3⟩
  have HB3 : Hid (Below w.heap.size w W3) := below_next HB2.out hb3
  clear hb3 HB2
  go_wp2
  go_ret
  exact ⟨rfl, HB3.out⟩
theorem law_side (b l i : Int) (hb : I64 b) (k : Int) (w : World) :
    Calls Try.prog 8 #[geoV b l i, .int .i64 k] w fun e w' => e = .returned (.bool true) ∧ Below w.heap.size w w' := by
  by_cases hfine : Fine b l i
  · exact side_fine b l i k hfine w
  · exact side_not b l i k hb hfine w
end Go.Proofs.Ytmblppgmfgjbpaa
