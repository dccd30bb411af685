/- SlabPieces's walk: of every slice of bytes, place and number the call answers true and turns nothing that was there. -/
import Derived.Test.YtedbgeibhaiheaaApart
import Derived.Test.YtedbgeibhaiheaaRefPiece
namespace Go.Proofs.Ytedbgeibhaiheaa
open Go.RowKit

theorem wpList_load25w {ops : Array Oper} {rest : List Oper} {o : Oper} {a : Act} {w : World} {Q : Exit → Act → World → Prop} (hw : Region.wanted o (yielded ops a.tmps) = true) (x : Operand) (ho : o.op = .load 25 x)
    (g : Nat) (hx : a.eval x = .pointer (some ⟨g, 0, none⟩)) (f : Nat → Int) (hg : w.heap[g]? = some (.cells (blk f) 25))
    (h : wpList Try.prog ops Q rest (a.put o.dst (.agg (blk f))) w) : wpList Try.prog ops Q (o :: rest) a w :=
  BigFrame.wpList_want hw fun _ hK => wp_load_row 25 x ho g hx 25 (blk f) (0, 0) _ hg Try.underlying25 rfl (by rw [blk_size]; exact size25) (hK _ _ h)

theorem lies_row {w : World} {g n : Nat} {f : Nat → Int} (h : w.heap[g]? = some (.cells (rowA f n) 5)) (hn : n ≤ 281474976710656) : Lies w (.slice (some ⟨g, 0, none⟩) n n) n f :=
  .inr ⟨g, 0, n, rfl, by unfold maxLen; omega, Nat.le_refl _, (Array.getElem?_eq_some_iff.1 h).1, fun i hi => by rw [Nat.zero_add]; exact cell_row h i hi⟩
theorem piece_new (f : Nat → Int) (k n : Int) (w : World) (ha : -9223372036854775808 ≤ k ∧ k ≤ 9223372036854775807) (hn : -9223372036854775808 ≤ n ∧ n ≤ 9223372036854775807) :
    Calls Try.prog 19 #[.agg (blk f), .int .i64 k, .int .i64 n] w fun e w' => ∃ g, e = .returned (.slice (some ⟨g, 0, none⟩) (insHi k n - insLo k n) (insHi k n - insLo k n)) ∧
      w'.heap[g]? = some (.cells (rowA (from' f (insLo k n)) (insHi k n - insLo k n)) 5) ∧ w.heap.size ≤ g ∧ Below w.heap.size w w' :=
  (piece_any f k n w ha hn).mono fun _ _ ⟨h1, h2, _, h4⟩ => ⟨_, h1, h2, by omega, h4⟩
/-- Three of a kind. -/
def three {α : Type} (a b c : α) : Nat → α := fun k => if k = 0 then a else if k = 1 then b else c
theorem three_cases {P : Nat → Prop} (h0 : P 0) (h1 : P 1) (h2 : P 2) : ∀ k, k < 3 → P k := fun k hk => by
  obtain rfl | rfl | rfl : k = 0 ∨ k = 1 ∨ k = 2 := by omega
  · exact h0
  · exact h1
  · exact h2
/-- Three lists in blocks of their own are told apart. -/
theorem apart_three (base gx gy gz nx ny nz : Nat) (fx fy fz : Nat → Int) (w : World) (hx : w.heap[gx]? = some (.cells (rowA fx nx) 5)) (hy : w.heap[gy]? = some (.cells (rowA fy ny) 5)) (hz : w.heap[gz]? = some (.cells (rowA fz nz) 5))
    (bx : base ≤ gx) (byy : base ≤ gy) (bz : base ≤ gz) (h1 : gx ≠ gy) (h2 : gx ≠ gz) (h3 : gy ≠ gz) (n1 : nx ≤ 1099511627776) (n2 : ny ≤ 1099511627776) (n3 : nz ≤ 1099511627776) :
    Calls Try.prog 21 #[.slice (some ⟨w.heap.size, 0, none⟩) 3 3] (w.alloc (.cells #[.slice (some ⟨gx, 0, none⟩) nx nx, .slice (some ⟨gy, 0, none⟩) ny ny, .slice (some ⟨gz, 0, none⟩) nz nz] 22)) fun e w' =>
      e = .returned (.bool true) ∧ Below base w w' := by
  have lx : gx < w.heap.size := (Array.getElem?_eq_some_iff.1 hx).1
  have ly : gy < w.heap.size := (Array.getElem?_eq_some_iff.1 hy).1
  have lz : gz < w.heap.size := (Array.getElem?_eq_some_iff.1 hz).1
  have hb : base ≤ w.heap.size := by omega
  generalize hW : w.alloc (.cells #[.slice (some ⟨gx, 0, none⟩) nx nx, .slice (some ⟨gy, 0, none⟩) ny ny, .slice (some ⟨gz, 0, none⟩) nz nz] 22) = W
  have hg : W.heap[w.heap.size]? = some (.cells #[.slice (some ⟨gx, 0, none⟩) nx nx, .slice (some ⟨gy, 0, none⟩) ny ny, .slice (some ⟨gz, 0, none⟩) nz nz] 22) := by rw [← hW]; exact heap_alloc_new _ _
  have hbW : Below w.heap.size w W := by rw [← hW]; exact (Below.refl _ _).alloc (Nat.le_refl _) _
  refine (apart_any 3 w.heap.size (three gx gy gz) (three nx ny nz) base W (three fx fy fz) (by omega) (by omega) (three_cases n1 n2 n3) (three_cases bx byy bz)
    (three_cases (P := fun k => w.heap.size ≠ three gx gy gz k) (by show _ ≠ gx; omega) (by show _ ≠ gy; omega) (by show _ ≠ gz; omega)) ?_ (Nat.le_trans hb hbW.size) ⟨Below.refl _ _, ?_, ?_⟩).mono ?_
  · intro j k hj hk
    obtain rfl | rfl | rfl : j = 0 ∨ j = 1 ∨ j = 2 := by omega
    all_goals obtain rfl | rfl | rfl : k = 0 ∨ k = 1 ∨ k = 2 := by omega
    all_goals simp [three]
    all_goals omega
  · refine three_cases ?_ ?_ ?_
    all_goals rw [cell_of_row W w.heap.size _ _ 22 _ hg]; rfl
  · refine three_cases ?_ ?_ ?_
    · exact (hbW.block gx lx).trans hx
    · exact (hbW.block gy ly).trans hy
    · exact (hbW.block gz lz).trans hz
  · intro e w' ⟨he, hb'⟩
    exact ⟨he, (hbW.mono hb).trans hb'⟩

set_option maxRecDepth 20000 in
set_option maxHeartbeats 1000000 in
theorem law_pieces (p : Value) (n0 : Nat) (f : Nat → Int) (k n : Int) (w : World) (hp : Lies w p n0 f) (ha : -9223372036854775808 ≤ k ∧ k ≤ 9223372036854775807) (hn : -9223372036854775808 ≤ n ∧ n ≤ 9223372036854775807) :
    Calls Try.prog 4 #[p, .int .i64 k, .int .i64 n] w fun e w' => e = .returned (.bool true) ∧ Below w.heap.size w w' := by
  have z25 := zero25
  go_enter Try.func4, Try.ntmps4
  go_wp2_with fail
  refine (block_lies hp).mono ?_
  rintro e W1 ⟨rfl, hb1⟩
  go_wp2_with (first | refine wpList_store25_new rfl _ _ rfl _ _ rfl rfl ?_ | refine wpList_load25 rfl _ rfl _ rfl _ (heap_alloc_new _ _) ?_)
  generalize hF : firsts f n0 = F
  generalize hW : W1.alloc (.cells (blk F) 25) = W2
  have hWg : W2.heap[W1.heap.size]? = some (.cells (blk F) 25) := by rw [← hW]; exact heap_alloc_new _ _
  have hWb : Below w.heap.size w W2 := by rw [← hW]; exact hb1.alloc hb1.size _
  have hlt : W1.heap.size < W2.heap.size := by rw [← hW]; simp
  clear hW hF
  refine (refPiece_any F k n W2 ha hn).mono ?_
  rintro e W3 ⟨v, rfl, hown, hb3⟩
  have hle := ins_le k n
  have hg3 : W3.heap[W1.heap.size]? = some (.cells (blk F) 25) := (hb3.block _ hlt).trans hWg
  have hlt3 := (Array.getElem?_eq_some_iff.1 hg3).1
  have hB3 := hWb.trans (hb3.mono hWb.size)
  clear hWb hWg hb1 hp
  go_wp2_with (first | refine wpList_load25 rfl _ rfl _ rfl _ hg3 ?_)
  have hL := ins_le k n
  refine (piece_new F k n W3 ha hn).mono ?_
  rintro e W4 ⟨gx, rfl, hx4, hz4, hb4⟩
  have hg4 : W4.heap[W1.heap.size]? = some (.cells (blk F) 25) := (hb4.block _ hlt3).trans hg3
  have hlt4 := (Array.getElem?_eq_some_iff.1 hg4).1
  have hl4 := (Array.getElem?_eq_some_iff.1 hx4).1
  go_wp2_with (first | refine wpList_load25 rfl _ rfl _ rfl _ hg4 ?_)
  refine (piece_new F k n W4 ha hn).mono ?_
  rintro e W5 ⟨gy, rfl, hx5, hz5, hb5⟩
  have hg5 : W5.heap[W1.heap.size]? = some (.cells (blk F) 25) := (hb5.block _ hlt4).trans hg4
  have hlt5 := (Array.getElem?_eq_some_iff.1 hg5).1
  have hl5 := (Array.getElem?_eq_some_iff.1 hx5).1
  go_wp2_with (first | refine wpList_load25 rfl _ rfl _ rfl _ hg5 ?_)
  refine (piece_new F 0 9 W5 (by omega) (by omega)).mono ?_
  rintro e W6 ⟨gz, rfl, hx6, hz6, hb6⟩
  have hg6 : W6.heap[W1.heap.size]? = some (.cells (blk F) 25) := (hb6.block _ hlt5).trans hg5
  have hlt6 := (Array.getElem?_eq_some_iff.1 hg6).1
  have HX : W6.heap[gx]? = some (.cells (rowA (from' F (insLo k n)) (insHi k n - insLo k n)) 5) := (hb6.block gx (Nat.lt_of_lt_of_le hl4 hb5.size)).trans ((hb5.block gx hl4).trans hx4)
  have HY : W6.heap[gy]? = some (.cells (rowA (from' F (insLo k n)) (insHi k n - insLo k n)) 5) := (hb6.block gy hl5).trans hx5
  have HV : Lies W6 v (insHi k n - insLo k n) (from' F (insLo k n)) := (((hown.later hb4).later hb5).later hb6).lies
  have hB6 : Below w.heap.size w W6 := (((hB3.trans (hb4.mono hB3.size)).trans (hb5.mono (Nat.le_trans hB3.size hb4.size)))).trans (hb6.mono (Nat.le_trans (Nat.le_trans hB3.size hb4.size) hb5.size))
  have o1 : w.heap.size ≤ gx := Nat.le_trans hB3.size hz4
  have o2 : w.heap.size ≤ gy := Nat.le_trans (Nat.le_trans hB3.size hb4.size) hz5
  have o3 : w.heap.size ≤ gz := Nat.le_trans (Nat.le_trans (Nat.le_trans hB3.size hb4.size) hb5.size) hz6
  have d1 : gx ≠ gy := by omega
  have d3 : gy ≠ gz := by omega
  have d2 : gx ≠ gz := by have := hb5.size; omega
  clear hg3 hg4 hg5 hx4 hx5 hb3 hb4 hb5 hb6 hz4 hz5 hz6 hl4 hl5 hlt hlt3 hlt4 hlt5 hB3 hown
  have hM : insHi 0 9 - insLo 0 9 ≤ 1024 := by have := ins_le 0 9; omega
  have hr := refPiece_any F 0 9
  generalize insHi 0 9 - insLo 0 9 = M at *
  generalize from' F (insLo 0 9) = G at *
  have hL' : insHi k n - insLo k n ≤ 1024 := by omega
  clear hL hle
  generalize insHi k n - insLo k n = L at *
  generalize from' F (insLo k n) = H at *
  go_wp2_with fail
  refine (same_lies (lies_row HX (by omega)) HV (fun _ _ => rfl)).mono ?_
  rintro e W7 ⟨rfl, hb7⟩
  have HY7 := (hb7.block gy (Array.getElem?_eq_some_iff.1 HY).1).trans HY
  have HV7 := HV.later hb7
  have hg7 := (hb7.block _ hlt6).trans hg6
  have hlt7 := (Array.getElem?_eq_some_iff.1 hg7).1
  go_wp2_with fail
  refine (same_lies (lies_row HY7 (by omega)) HV7 (fun _ _ => rfl)).mono ?_
  rintro e W8 ⟨rfl, hb8⟩
  have hg8 := (hb8.block _ hlt7).trans hg7
  have hlt8 := (Array.getElem?_eq_some_iff.1 hg8).1
  have hb68 : Below W6.heap.size W6 W8 := hb7.trans (hb8.mono hb7.size)
  have HZ8 := (hb68.block gz (Array.getElem?_eq_some_iff.1 hx6).1).trans hx6
  clear HV HV7 HY7 hg6 hg7 hb7 hb8
  go_wp2_with (first | refine wpList_load25w rfl _ rfl _ rfl _ hg8 ?_)
  refine (hr W8 (by omega) (by omega)).mono ?_
  rintro e W9 ⟨v9, rfl, hown9, hb9⟩
  have HZ9 := (hb9.block gz (Array.getElem?_eq_some_iff.1 HZ8).1).trans HZ8
  go_wp2_with fail
  refine (same_lies (lies_row HZ9 (by omega)) hown9.lies (fun _ _ => rfl)).mono ?_
  rintro e W10 ⟨rfl, hb10⟩
  have hb6 : Below W6.heap.size W6 W10 := (hb68.trans (hb9.mono hb68.size)).trans (hb10.mono (Nat.le_trans hb68.size hb9.size))
  have HX10 := (hb6.block gx (Array.getElem?_eq_some_iff.1 HX).1).trans HX
  have HY10 := (hb6.block gy (Array.getElem?_eq_some_iff.1 HY).1).trans HY
  have HZ10 := (hb6.block gz (Array.getElem?_eq_some_iff.1 hx6).1).trans hx6
  have hB10 : Below w.heap.size w W10 := hB6.trans (hb6.mono hB6.size)
  clear HZ9 HZ8 hown9 hb9 hb10 hb68 hg8 hr
  go_wp2_with fail
  refine (apart_three w.heap.size gx gy gz L L M H H G W10 HX10 HY10 HZ10 o1 o2 o3 d1 d2 d3 (by omega) (by omega) (by omega)).mono ?_
  rintro e W11 ⟨rfl, hb11⟩
  go_wp2
  go_ret
  exact ⟨rfl, hB10.trans hb11⟩
end Go.Proofs.Ytedbgeibhaiheaa
