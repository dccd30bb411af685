/- SlabKnown's walk: the document's examples hold; the call answers true and turns nothing that was there; no condition. -/
import Derived.Test.YtedbgeibhaiheabKnownAid
namespace Go.Proofs.Ytedbgeibhaiheab
open Go.RowKit

/-- The examples' block. -/
def kn : Nat → Int := fun i => ((i % 251 : Nat) : Int)
def q3 : Nat → Int := fun i => if i = 0 then 1 else if i = 1 then 2 else 3

theorem cut_c {w : World} {p : Value} {m : Nat} {q : Nat → Int} (N : Nat) (h : Lies w p m q) (hm : m ≤ 140737488355328) (hN : blocksOf m = N) :
    Calls Try.prog 9 #[p] w fun e w' => e = .returned (.slice (some ⟨w.heap.size, 0, none⟩) N N) ∧ Below w.heap.size w w' := by
  have := cut_lies h hm
  rw [hN] at this
  exact this.mono fun e w' ⟨e1, _, _, e4⟩ => ⟨e1, e4⟩
theorem join_c {w : World} {l : Value} {L : Nat} {F : Nat → Int} (n : Int) (M : Nat) (h : LiesB w l L F) (hn : -9223372036854775808 ≤ n ∧ n ≤ 9223372036854775807) (hM : joinLen n L = M) :
    Calls Try.prog 10 #[l, .int .i64 n] w fun e w' => e = .returned (.slice (some ⟨w.heap.size, 0, none⟩) M M) ∧ Below w.heap.size w w' := by
  have := join_lies h n hn
  rw [hM] at this
  exact this.mono fun e w' ⟨e1, _, _, e4⟩ => ⟨e1, e4⟩
theorem one_lies (w : World) (f : Nat → Int) : LiesB (w.alloc (.cells (blk f) 23)) (.slice (some ⟨w.heap.size, 0, none⟩) 1 1) 1 f :=
  .inr ⟨w.heap.size, 0, 1, rfl, by omega, Nat.le_refl _, by simp, fun i hi => by rw [Nat.zero_add]; exact cell_row (m := 1024) (heap_alloc_new _ _) i (by omega)⟩
theorem nil_lies (w : World) (f : Nat → Int) : LiesB w (.slice none 0 0) 0 f := .inl ⟨none, 0, rfl, rfl, fun _ => rfl⟩
theorem nil_lies5 (w : World) (f : Nat → Int) : Lies w (.slice none 0 0) 0 f := .inl ⟨none, 0, rfl, rfl, fun _ => rfl⟩
theorem set16_c (N : Nat → Int) (w : World) : Calls Try.prog 7 #[.agg (blk N), .int .i64 1023, .int .u16 7] w fun e w' => e = .returned (.agg (blk N)) ∧ Below w.heap.size w w' := by
  have := set16_any N 1023 7 w (by omega)
  rwa [put_out N 1023 2 7 (by omega)] at this
theorem set32_c (N : Nat → Int) (w : World) : Calls Try.prog 8 #[.agg (blk N), .int .i64 (-1), .int .u32 7] w fun e w' => e = .returned (.agg (blk N)) ∧ Below w.heap.size w w' := by
  have := set32_any N (-1) 7 w (by omega)
  rwa [put_out N (-1) 4 7 (by omega)] at this

set_option maxRecDepth 20000 in
set_option maxHeartbeats 20000000 in
theorem law_known (w : World) : Calls Try.prog 3 #[] w fun e w' => e = .returned (.bool true) ∧ Below w.heap.size w w' := by
  obtain ⟨N, hN⟩ : ∃ N, N = nought := ⟨_, rfl⟩
  have z25 : ∀ u, (zeroValue 23).run Try.prog u = .ok (.agg (blk N)) u := by rw [hN]; exact zero25
  have hmk : ∀ u : World, (Instr.makeSlice 24 (.int .i64 1025) (.int .i64 1025)).run Try.prog u = .ok (.slice (some ⟨u.heap.size, 0, none⟩) 1025 1025) (u.alloc (.cells (rowA N 1025) 5)) := by
    rw [hN]; exact fun u => run_make5 u 1025 1025 (by omega) (by omega)
  have HN : Hid (N = nought) := hN
  clear hN
  have heq := eq25
  have hself := sameB_self N
  go_enter Try.func3, Try.ntmps3
  go_wp2
  go_loopw [2] (fun s2 wx => ∃ k : Nat, (k : Int) ≤ 1024 ∧ s2 = .int .i64 k ∧ wx = w.alloc (.cells (blk (firsts kn k)) 23)) (fun s2 _ => 1024 - (intOf s2).toNat)
  case atStart => exact ⟨0, by omega, rfl, by rw [blk_congr (f := N) (g := firsts kn 0) fun i _ => by rw [HN.out]; unfold nought firsts; rw [if_neg (by omega)]]⟩
  case round =>
    obtain ⟨k, hk, rfl, rfl⟩ := hrel
    by_cases hk2 : (k : Int) < 1024
    · have hbk := blk_get (firsts kn k) k (by omega)
      have hset := blk_set (firsts kn k)
      go_wp2
      refine ⟨⟨k + 1, by omega, by go_num, ?_⟩, by simp [intOf]; omega⟩
      rw [← firsts_next]
      rfl
    · have e : k = 1024 := by omega
      subst e
      rw [blk_congr (f := firsts kn 1024) (g := kn) fun i hi => by unfold firsts; rw [if_pos hi]]
      obtain ⟨K, hK⟩ : ∃ K, kn = K := ⟨_, rfl⟩
      rw [hK]
      clear hK
      obtain ⟨W0, hW0⟩ : ∃ W0, w.alloc (.cells (blk K) 23) = W0 := ⟨_, rfl⟩
      have g0 : W0.heap[w.heap.size]? = some (.cells (blk K) 23) := by rw [← hW0]; exact heap_alloc_new _ _
      have b0 : Below w.heap.size w W0 := by rw [← hW0]; exact (Below.refl _ _).alloc (Nat.le_refl _) _
      rw [hW0]
      clear hW0 hk2 hk
      go_wp2_with (first | refine wpList_load25w rfl _ rfl _ rfl _ g0 ?_)
      refine (piece_c K (-2) 4 0 2 _ (by omega) (by omega) (by decide) (by decide)).mono ?_
      rintro e W1 ⟨rfl, l1, hb1⟩
      have g1 : W1.heap[w.heap.size]? = some (.cells (blk K) 23) := (hb1.block _ (Array.getElem?_eq_some_iff.1 g0).1).trans g0
      have b1 : Below w.heap.size w W1 := b0.trans (hb1.mono b0.size)
      clear hb1
      go_wp2_with (first | refine wpList_load25w rfl _ rfl _ rfl _ g1 ?_)
      refine (piece_c K 1022 9 1022 2 _ (by omega) (by omega) (by decide) (by decide)).mono ?_
      rintro e W2 ⟨rfl, l2, hb2⟩
      have g2 : W2.heap[w.heap.size]? = some (.cells (blk K) 23) := (hb2.block _ (Array.getElem?_eq_some_iff.1 g1).1).trans g1
      have b2 : Below w.heap.size w W2 := b1.trans (hb2.mono b1.size)
      have l12 := l1.later hb2
      clear hb2 l1 g1 g0 b0 b1
      go_wp2_with fail
      refine (lay_any N (-1) _ 3 q3 _ (by omega) (lies3' W2)).mono ?_
      rintro e W3 ⟨rfl, hb3⟩
      have bb3 : Below W2.heap.size W2 W3 := ((Below.refl _ _).alloc (Nat.le_refl _) _).trans (hb3.mono (by simp))
      have g3 : W3.heap[w.heap.size]? = some (.cells (blk K) 23) := (bb3.block _ (Array.getElem?_eq_some_iff.1 g2).1).trans g2
      have b3 : Below w.heap.size w W3 := b2.trans (bb3.mono b2.size)
      have l13 := l12.later bb3
      have l23 := l2.later bb3
      clear hb3 bb3 l12 l2 g2 b2
      obtain ⟨E1, hE1⟩ : ∃ E1, layF N (-1) 3 q3 = E1 := ⟨_, rfl⟩
      rw [hE1]
      have e10 : E1 0 = 2 := by rw [← hE1, HN.out]; decide
      have e11 : E1 1 = 3 := by rw [← hE1, HN.out]; decide
      have e12 : E1 2 = 0 := by rw [← hE1, HN.out]; decide
      have HE1 := (show Hid _ from And.intro e10 (And.intro e11 e12))
      clear hE1 e10 e11 e12
      have hs3 : (W3.alloc (.cells (blk E1) 23)).heap.size = W3.heap.size + 1 := by simp
      have ly := lies3' (W3.alloc (.cells (blk E1) 23))
      rw [hs3] at ly
      go_wp2_with (first | refine wpList_store25_new rfl _ _ rfl _ _ rfl rfl ?_)
      refine (lay_any N 1023 _ 3 q3 _ (by omega) ly).mono ?_
      rintro e W4 ⟨rfl, hb4⟩
      have bb4 : Below W3.heap.size W3 W4 := (((Below.refl _ _).alloc (Nat.le_refl _) _).alloc (by simp) _).trans (hb4.mono (by simp; omega))
      have gA : W4.heap[W3.heap.size]? = some (.cells (blk E1) 23) := (hb4.block _ (by simp; omega)).trans (heap_alloc2_old _ _ _)
      have g4 : W4.heap[w.heap.size]? = some (.cells (blk K) 23) := (bb4.block _ (Array.getElem?_eq_some_iff.1 g3).1).trans g3
      have b4 : Below w.heap.size w W4 := b3.trans (bb4.mono b3.size)
      have l14 := l13.later bb4
      have l24 := l23.later bb4
      clear hb4 bb4 l13 l23 g3 b3 ly hs3
      obtain ⟨E2, hE2⟩ : ∃ E2, layF N 1023 3 q3 = E2 := ⟨_, rfl⟩
      rw [hE2]
      have e20 : E2 1023 = 1 := by rw [← hE2, HN.out]; decide
      have e21 : E2 0 = 0 := by rw [← hE2, HN.out]; decide
      have HE2 := (show Hid _ from And.intro e20 e21)
      clear hE2 e20 e21
      obtain ⟨A, hA⟩ : ∃ A, W4.alloc (.cells (blk E2) 23) = A := ⟨_, rfl⟩
      have bb : Below W4.heap.size W4 A := by rw [← hA]; exact (Below.refl _ _).alloc (Nat.le_refl _) _
      have gB : A.heap[W4.heap.size]? = some (.cells (blk E2) 23) := by rw [← hA]; exact heap_alloc_new _ _
      have gA' : A.heap[W3.heap.size]? = some (.cells (blk E1) 23) := (bb.block _ (Array.getElem?_eq_some_iff.1 gA).1).trans gA
      have g5 : A.heap[w.heap.size]? = some (.cells (blk K) 23) := (bb.block _ (Array.getElem?_eq_some_iff.1 g4).1).trans g4
      have b5 : Below w.heap.size w A := b4.trans (bb.mono b4.size)
      have l15 := l14.later bb
      have l25 := l24.later bb
      have HA := (show Hid _ from hA)
      have G : ∀ y : Later A, y.val.heap[w.heap.size]? = some (.cells (blk K) 23) := fun y => (y.heap _ (Array.getElem?_eq_some_iff.1 g5).1).trans g5
      have GA : ∀ y : Later A, y.val.heap[W3.heap.size]? = some (.cells (blk E1) 23) := fun y => (y.heap _ (Array.getElem?_eq_some_iff.1 gA').1).trans gA'
      have GB : ∀ y : Later A, y.val.heap[W4.heap.size]? = some (.cells (blk E2) 23) := fun y => (y.heap _ (Array.getElem?_eq_some_iff.1 gB).1).trans gB
      have M1 : ∀ y : Later A, Lies y.val (.slice (some ⟨w.heap.size, 0, none⟩) 2 1024) 2 (from' K 0) := fun y => row_lies (G y) 0 2 1024 (by omega) (by omega) (by unfold maxLen; omega)
      have M2 : ∀ y : Later A, Lies y.val (.slice (some ⟨w.heap.size, 1022, none⟩) 2 2) 2 (from' K 1022) := fun y => row_lies (G y) 1022 2 2 (by omega) (by omega) (by unfold maxLen; omega)
      have c0 : ∀ y : Later A, y.val.cell? ⟨W3.heap.size, 0, none⟩ = some (.int .u8 2) := fun y => by rw [← HE1.out.1]; exact cell_row (f := E1) (m := 1024) (GA y) 0 (by omega)
      have c1 : ∀ y : Later A, y.val.cell? ⟨W3.heap.size, 1, none⟩ = some (.int .u8 3) := fun y => by rw [← HE1.out.2.1]; exact cell_row (f := E1) (m := 1024) (GA y) 1 (by omega)
      have c2 : ∀ y : Later A, y.val.cell? ⟨W3.heap.size, 2, none⟩ = some (.int .u8 0) := fun y => by rw [← HE1.out.2.2]; exact cell_row (f := E1) (m := 1024) (GA y) 2 (by omega)
      have c3 : ∀ y : Later A, y.val.cell? ⟨W4.heap.size, 1023, none⟩ = some (.int .u8 1) := fun y => by rw [← HE2.out.1]; exact cell_row (f := E2) (m := 1024) (GB y) 1023 (by omega)
      have c4 : ∀ y : Later A, y.val.cell? ⟨W4.heap.size, 0, none⟩ = some (.int .u8 0) := fun y => by rw [← HE2.out.2]; exact cell_row (f := E2) (m := 1024) (GB y) 0 (by omega)
      clear hA bb l14 l24 g4 b4 gA gA' gB g5 GA GB HE1 HE2
      go_wp2_with (first | refine wpList_store25_new rfl _ _ rfl _ _ rfl rfl ?_)
      rw [HA.out]
      refine (same_lies l15 (M1 ⟨A, Below.refl _ _⟩) fun i _ => by simp [from']).mono ?_
      rintro e V ⟨rfl, hb⟩
      obtain ⟨y1, rfl⟩ : ∃ y : Later A, V = y.val := ⟨⟨V, hb⟩, rfl⟩
      clear hb HA l15
      go_wp2_with (first | refine wpList_load25w rfl _ rfl _ rfl _ (G _) ?_ | refine wpList_build1 rfl _ rfl _ rfl ?_)
      refine (same_lies (l25.later y1.below) (M2 y1) fun i _ => by simp [from']).mono ?_
      rintro e V ⟨rfl, hb⟩
      obtain ⟨y2, rfl⟩ : ∃ y : Later A, V = y.val := ⟨⟨V, y1.below.trans (hb.mono y1.below.size)⟩, rfl⟩
      clear hb l25 M1 M2
      go_wp2_with (first | refine wpList_load25w rfl _ rfl _ rfl _ (G _) ?_ | refine wpList_build1 rfl _ rfl _ rfl ?_)
      refine (piece_c K 5 0 0 0 _ (by omega) (by omega) (by decide) (by decide)).mono ?_
      rintro e V ⟨rfl, _, hb⟩
      obtain ⟨y3, rfl⟩ : ∃ y : Later A, V = y.val := ⟨⟨V, y2.below.trans (hb.mono y2.below.size)⟩, rfl⟩
      clear hb
      go_wp2_with (first | refine wpList_load25w rfl _ rfl _ rfl _ (G _) ?_ | refine wpList_build1 rfl _ rfl _ rfl ?_)
      refine (piece_c K (-9223372036854775808) 9223372036854775807 0 0 _ (by omega) (by omega) (by decide) (by decide)).mono ?_
      rintro e V ⟨rfl, _, hb⟩
      obtain ⟨y4, rfl⟩ : ∃ y : Later A, V = y.val := ⟨⟨V, y3.below.trans (hb.mono y3.below.size)⟩, rfl⟩
      clear hb
      go_wp2_with (first | refine wpList_load25w rfl _ rfl _ rfl _ (G _) ?_ | refine wpList_build1 rfl _ rfl _ rfl ?_)
      refine (piece_c K 9223372036854775807 9223372036854775807 0 0 _ (by omega) (by omega) (by decide) (by decide)).mono ?_
      rintro e V ⟨rfl, _, hb⟩
      obtain ⟨y5, rfl⟩ : ∃ y : Later A, V = y.val := ⟨⟨V, y4.below.trans (hb.mono y4.below.size)⟩, rfl⟩
      clear hb
      go_wp2_with (first | refine wpList_load25w rfl _ rfl _ rfl _ (G _) ?_ | refine wpList_build1 rfl _ rfl _ rfl ?_)
      refine (set16_c N _).mono ?_
      rintro e V ⟨rfl, hb⟩
      obtain ⟨y6, rfl⟩ : ∃ y : Later A, V = y.val := ⟨⟨V, y5.below.trans (hb.mono y5.below.size)⟩, rfl⟩
      clear hb
      go_wp2_with (first | refine wpList_load25w rfl _ rfl _ rfl _ (G _) ?_ | refine wpList_build1 rfl _ rfl _ rfl ?_)
      refine (set32_c N _).mono ?_
      rintro e V ⟨rfl, hb⟩
      obtain ⟨y7, rfl⟩ : ∃ y : Later A, V = y.val := ⟨⟨V, y6.below.trans (hb.mono y6.below.size)⟩, rfl⟩
      clear hb c0 c1 c2 c3 c4
      go_wp2_with (first | refine wpList_load25w rfl _ rfl _ rfl _ (G _) ?_ | refine wpList_build1 rfl _ rfl _ rfl ?_)
      obtain ⟨A2, hA2⟩ : ∃ A2, y7.val.alloc (.cells (rowA N 1025) 5) = A2 := ⟨_, rfl⟩
      have r2 : A2.heap[y7.val.heap.size]? = some (.cells (rowA N 1025) 5) := by rw [← hA2]; exact heap_alloc_new _ _
      have bA : Below A.heap.size A A2 := by rw [← hA2]; exact y7.below.alloc y7.below.size _
      rw [hA2]
      have G2 : ∀ z : Later A2, z.val.heap[w.heap.size]? = some (.cells (blk K) 23) := fun z => G ⟨z.val, bA.trans (z.below.mono bA.size)⟩
      have R2 : ∀ z : Later A2, z.val.heap[y7.val.heap.size]? = some (.cells (rowA N 1025) 5) := fun z => (z.heap _ (Array.getElem?_eq_some_iff.1 r2).1).trans r2
      have b6 : Below w.heap.size w A2 := b5.trans (bA.mono b5.size)
      have z0 : Later A2 := ⟨A2, Below.refl _ _⟩
      clear hA2 r2 bA G b5 hmk
      refine (cut_c 0 (nil_lies5 _ N) (by omega) rfl).mono ?_
      rintro e V ⟨rfl, hb⟩
      obtain ⟨z1, rfl⟩ : ∃ y : Later A2, V = y.val := ⟨⟨V, hb⟩, rfl⟩
      clear hb
      go_wp2_with (first | refine wpList_load25w rfl _ rfl _ rfl _ (G2 _) ?_ | refine wpList_build1 rfl _ rfl _ rfl ?_)
      refine (cut_c 1 (row_lies (R2 z1) 0 1024 1025 (by omega) (by omega) (by unfold maxLen; omega)) (by omega) rfl).mono ?_
      rintro e V ⟨rfl, hb⟩
      obtain ⟨z2, rfl⟩ : ∃ y : Later A2, V = y.val := ⟨⟨V, z1.below.trans (hb.mono z1.below.size)⟩, rfl⟩
      clear hb
      go_wp2_with (first | refine wpList_load25w rfl _ rfl _ rfl _ (G2 _) ?_ | refine wpList_build1 rfl _ rfl _ rfl ?_)
      refine (cut_c 2 (row_lies (R2 z2) 0 1025 1025 (by omega) (by omega) (by unfold maxLen; omega)) (by omega) rfl).mono ?_
      rintro e V ⟨rfl, hb⟩
      obtain ⟨z3, rfl⟩ : ∃ y : Later A2, V = y.val := ⟨⟨V, z2.below.trans (hb.mono z2.below.size)⟩, rfl⟩
      clear hb R2
      go_wp2_with (first | refine wpList_load25w rfl _ rfl _ rfl _ (G2 _) ?_ | refine wpList_build1 rfl _ rfl _ rfl ?_)
      refine (join_c 3 3 (one_lies _ K) (by omega) (by decide)).mono ?_
      rintro e V ⟨rfl, hb⟩
      obtain ⟨z4, rfl⟩ : ∃ y : Later A2, V = y.val := ⟨⟨V, (z3.below.alloc z3.below.size _).trans (hb.mono (Nat.le_trans z3.below.size (by simp)))⟩, rfl⟩
      clear hb
      go_wp2_with (first | refine wpList_load25w rfl _ rfl _ rfl _ (G2 _) ?_ | refine wpList_build1 rfl _ rfl _ rfl ?_)
      refine (join_c 2000 1024 (one_lies _ K) (by omega) (by decide)).mono ?_
      rintro e V ⟨rfl, hb⟩
      obtain ⟨z5, rfl⟩ : ∃ y : Later A2, V = y.val := ⟨⟨V, (z4.below.alloc z4.below.size _).trans (hb.mono (Nat.le_trans z4.below.size (by simp)))⟩, rfl⟩
      clear hb
      go_wp2_with (first | refine wpList_load25w rfl _ rfl _ rfl _ (G2 _) ?_ | refine wpList_build1 rfl _ rfl _ rfl ?_)
      refine (join_c 5 0 (nil_lies _ K) (by omega) (by decide)).mono ?_
      rintro e V ⟨rfl, hb⟩
      obtain ⟨z6, rfl⟩ : ∃ y : Later A2, V = y.val := ⟨⟨V, z5.below.trans (hb.mono z5.below.size)⟩, rfl⟩
      clear hb
      go_wp2_with (first | refine wpList_load25w rfl _ rfl _ rfl _ (G2 _) ?_ | refine wpList_build1 rfl _ rfl _ rfl ?_)
      refine (join_c (-1) 0 (one_lies _ K) (by omega) (by decide)).mono ?_
      rintro e V ⟨rfl, hb⟩
      obtain ⟨z7, rfl⟩ : ∃ y : Later A2, V = y.val := ⟨⟨V, (z6.below.alloc z6.below.size _).trans (hb.mono (Nat.le_trans z6.below.size (by simp)))⟩, rfl⟩
      clear hb
      go_wp2_with (first | refine wpList_load25w rfl _ rfl _ rfl _ (G2 _) ?_ | refine wpList_build1 rfl _ rfl _ rfl ?_)
      refine (awake_any _).mono ?_
      rintro e V ⟨rfl, hb⟩
      go_wp2
      go_ret
      exact ⟨rfl, b6.trans ((z7.below.trans (hb.mono z7.below.size)).mono b6.size)⟩
end Go.Proofs.Ytedbgeibhaiheab
