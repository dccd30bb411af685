/- DeskCalls answers true, whatever the desks' sizes and the calls; no condition. -/
import Derived.Test.YtpghalekcgnefaaDk16
namespace Go.Proofs.Ytpghalekcgnefaa
open Go.RowKit Go.Maps
section
variable {w W : World} {l : List Part}
theorem pairs_swap {a b c d : Part} (h : Sep w W (a :: b :: c :: d :: l)) : Sep w W (c :: d :: a :: b :: l) := h.perm (List.Perm.append_right l (List.perm_append_comm (l₁ := [a, b]) (l₂ := [c, d])))
theorem six_order {x r1 r0 y d1 d0 : Part} (h : Sep w W (x :: r1 :: r0 :: y :: d1 :: d0 :: l)) : Sep w W (d0 :: r0 :: d1 :: r1 :: y :: x :: l) := by
  have h1 := h.perm (List.perm_middle (l₁ := [x, r1, r0, y, d1]) (a := d0) (l₂ := l))
  have h2 := h1.perm (List.Perm.cons d0 (List.perm_middle (l₁ := [x, r1]) (a := r0) (l₂ := y :: d1 :: l)))
  have h3 := h2.perm (List.Perm.cons d0 (List.Perm.cons r0 (List.perm_middle (l₁ := [x, r1, y]) (a := d1) (l₂ := l))))
  have h4 := h3.perm (List.Perm.cons d0 (List.Perm.cons r0 (List.Perm.cons d1 (List.Perm.swap r1 x (y :: l)))))
  exact h4.perm (List.Perm.cons d0 (List.Perm.cons r0 (List.Perm.cons d1 (List.Perm.cons r1 (List.Perm.swap y x l)))))
end
/-- Both pairs of desks, and the rows that name them. -/
def FourD (w V : World) (g0 b0 h0 g1 b1 h1 hd hr : Nat) (m0 m1 : Int) (c : Nat) : Prop := ∃ L0 v0 L1 v1, Dok m0 L0 c ∧ Dok m1 L1 c ∧ Sep w V (dkP g0 b0 m0 L0 :: rfP h0 m0 v0 L0 :: dkP g1 b1 m1 L1 :: rfP h1 m1 v1 L1 :: bxP hd #[.pointer (some ⟨g0, 0, none⟩), .pointer (some ⟨g1, 0, none⟩)] 25 :: bxP hr #[.pointer (some ⟨h0, 0, none⟩), .pointer (some ⟨h1, 0, none⟩)] 28 :: [])
section
variable {w V V' : World} {g0 b0 h0 g1 b1 h1 hd hr : Nat} {m0 m1 : Int} {c : Nat}
theorem FourD.below (h : FourD w V g0 b0 h0 g1 b1 h1 hd hr m0 m1 c) : Below w.heap.size w V := by
  obtain ⟨_, _, _, _, _, _, h⟩ := h
  exact h.below
theorem FourD.later (h : FourD w V g0 b0 h0 g1 b1 h1 hd hr m0 m1 c) (hb : Below V.heap.size V V') : FourD w V' g0 b0 h0 g1 b1 h1 hd hr m0 m1 c := by
  obtain ⟨L0, v0, L1, v1, a, b, h⟩ := h
  exact ⟨L0, v0, L1, v1, a, b, h.later hb⟩
theorem FourD.rows (h : FourD w V g0 b0 h0 g1 b1 h1 hd hr m0 m1 c) : V.cell? ⟨hd, 0, none⟩ = some (.pointer (some ⟨g0, 0, none⟩)) ∧ V.cell? ⟨hd, 1, none⟩ = some (.pointer (some ⟨g1, 0, none⟩)) ∧ V.cell? ⟨hr, 0, none⟩ = some (.pointer (some ⟨h0, 0, none⟩)) ∧ V.cell? ⟨hr, 1, none⟩ = some (.pointer (some ⟨h1, 0, none⟩)) := by
  obtain ⟨_, _, _, _, _, _, h⟩ := h
  have s1 := h.sayOf (q := bxP hd #[.pointer (some ⟨g0, 0, none⟩), .pointer (some ⟨g1, 0, none⟩)] 25) (by simp)
  have s2 := h.sayOf (q := bxP hr #[.pointer (some ⟨h0, 0, none⟩), .pointer (some ⟨h1, 0, none⟩)] 28) (by simp)
  exact ⟨Joins.cell_of_block s1 0, Joins.cell_of_block s1 1, Joins.cell_of_block s2 0, Joins.cell_of_block s2 1⟩
theorem FourD.act0 (h : FourD w V g0 b0 h0 g1 b1 h1 hd hr m0 m1 c) (hc : c < 999998) (x : Int × Int) (hx : (Lit.int .i64 x.2).wf = true) : Calls Try.prog 9 #[.pointer (some ⟨g0, 0, none⟩), .pointer (some ⟨h0, 0, none⟩), .agg #[.int .i64 x.1, .int .i64 x.2]] V fun e V' => e = .returned (.bool true) ∧ FourD w V' g0 b0 h0 g1 b1 h1 hd hr m0 m1 (c + 1) := by
  obtain ⟨L0, v0, L1, v1, a, b, h⟩ := h
  refine (act_ok ⟨L0, v0, a, h⟩ hc x hx).mono ?_
  rintro e V' ⟨he, L0', v0', a', h'⟩
  exact ⟨he, L0', v0', L1, v1, a', b.mono (by omega), h'⟩
theorem FourD.act1 (h : FourD w V g0 b0 h0 g1 b1 h1 hd hr m0 m1 c) (hc : c < 999998) (x : Int × Int) (hx : (Lit.int .i64 x.2).wf = true) : Calls Try.prog 9 #[.pointer (some ⟨g1, 0, none⟩), .pointer (some ⟨h1, 0, none⟩), .agg #[.int .i64 x.1, .int .i64 x.2]] V fun e V' => e = .returned (.bool true) ∧ FourD w V' g0 b0 h0 g1 b1 h1 hd hr m0 m1 (c + 1) := by
  obtain ⟨L0, v0, L1, v1, a, b, h⟩ := h
  refine (act_ok ⟨L1, v1, b, pairs_swap h⟩ hc x hx).mono ?_
  rintro e V' ⟨he, L1', v1', b', h'⟩
  exact ⟨he, L0, v0, L1', v1', a.mono (by omega), b', pairs_swap h'⟩
theorem FourD.walk0 (h : FourD w V g0 b0 h0 g1 b1 h1 hd hr m0 m1 c) (hc : c < 999998) (s : Nat) (hs : s ≤ 100) : Calls Try.prog 11 #[.pointer (some ⟨g0, 0, none⟩), .pointer (some ⟨h0, 0, none⟩), .int .i64 s] V fun e V' => e = .returned (.bool true) ∧ FourD w V' g0 b0 h0 g1 b1 h1 hd hr m0 m1 (c + 1) := by
  obtain ⟨L0, v0, L1, v1, a, b, h⟩ := h
  refine (walk_ok h a (by omega) s hs).mono ?_
  rintro e V' ⟨he, v', h'⟩
  exact ⟨he, _, v', L1, v1, a.hold (by omega), b.mono (by omega), h'⟩
theorem FourD.walk1 (h : FourD w V g0 b0 h0 g1 b1 h1 hd hr m0 m1 c) (hc : c < 999998) (s : Nat) (hs : s ≤ 100) : Calls Try.prog 11 #[.pointer (some ⟨g1, 0, none⟩), .pointer (some ⟨h1, 0, none⟩), .int .i64 s] V fun e V' => e = .returned (.bool true) ∧ FourD w V' g0 b0 h0 g1 b1 h1 hd hr m0 m1 (c + 1) := by
  obtain ⟨L0, v0, L1, v1, a, b, h⟩ := h
  refine (walk_ok (pairs_swap h) b (by omega) s hs).mono ?_
  rintro e V' ⟨he, v', h'⟩
  exact ⟨he, L0, v0, _, v', a.mono (by omega), b.hold (by omega), pairs_swap h'⟩
end
set_option maxHeartbeats 4000000 in
set_option maxRecDepth 20000 in
theorem calls_walk (n0 n1 : Int) (hn0 : n0 ≤ 9223372036854775807) (hn1 : n1 ≤ 9223372036854775807) (S : List (Int × Int)) (a : Option Addr) (cap : Nat) (w : World) (hS : ActsAt w a S) (hl : S.length ≤ 9223372036854775807) (hwf : ∀ c ∈ S, (Lit.int .i64 c.1).wf = true ∧ (Lit.int .i64 c.2).wf = true) :
    Calls Try.prog 3 #[.int .i64 n0, .int .i64 n1, .slice a S.length cap] w fun e w' => e = .returned (.bool true) ∧ Below w.heap.size w w' := by
  have HA : Hid (ActsAt w a S) := hS
  obtain ⟨N, hN⟩ : ∃ N, S.length = N := ⟨_, rfl⟩
  have HN : Hid (S.length = N) := hN
  rw [hN] at hl ⊢
  have HO0 : Hid (Dok (max n0 0) [] 0) := Dok.start (by omega) (by omega) 0
  have HO1 : Hid (Dok (max n1 0) [] 0) := Dok.start (by omega) (by omega) 0
  clear hN hS
  go_enter Try.func3, Try.ntmps3
  by_cases hbig : 300 < N
  · have q1 : decide ((300 : Int) < N) = true := decide_eq_true (by omega)
    have q2 : decide (300 < N) = true := decide_eq_true (by omega)
    go_wp2
    go_ret
    exact ⟨rfl, Below.refl _ _⟩
  have q1 : decide ((300 : Int) < N) = false := decide_eq_false (by omega)
  have q2 : decide (300 < N) = false := decide_eq_false (by omega)
  go_wp2_with (first | (go_at_call 7; fail))
  refine ((Sep.nil (Below.refl _ _)).new n0).mono ?_
  rintro e W0 ⟨g0, b0, rfl, h⟩
  have H0 : Hid (Sep w W0 (dkP g0 b0 (max n0 0) [] :: [])) := h
  clear h
  go_wp2_with (first | (go_at_call 7; fail))
  refine (H0.out.new n1).mono ?_
  rintro e W1 ⟨g1, b1, rfl, h⟩
  have H1 : Hid (Sep w W1 (dkP g1 b1 (max n1 0) [] :: dkP g0 b0 (max n0 0) [] :: [])) := h
  clear h H0
  go_wp2_with (first | (go_at_call 8; fail))
  have s2 := H1.out.box #[.pointer (some ⟨g0, 0, none⟩), .pointer (some ⟨g1, 0, none⟩)] 25
  generalize W1.alloc (.cells #[.pointer (some ⟨g0, 0, none⟩), .pointer (some ⟨g1, 0, none⟩)] 25) = W2 at *
  generalize W1.heap.size = hd at *
  refine (s2.rnew n0).mono ?_
  rintro e W3 ⟨h0, rfl, h⟩
  have H3 := (show Hid _ from h)
  clear h s2 H1
  go_wp2_with (first | (go_at_call 8; fail))
  refine (H3.out.rnew n1).mono ?_
  rintro e W4 ⟨h1, rfl, h⟩
  have s5 := h.box #[.pointer (some ⟨h0, 0, none⟩), .pointer (some ⟨h1, 0, none⟩)] 28
  have HF : Hid (FourD w (W4.alloc (.cells #[.pointer (some ⟨h0, 0, none⟩), .pointer (some ⟨h1, 0, none⟩)] 28)) g0 b0 h0 g1 b1 h1 hd W4.heap.size (max n0 0) (max n1 0) 0) := ⟨[], _, [], _, HO0.out, HO1.out, six_order s5⟩
  clear h s5 H3
  go_wp2
  generalize W4.alloc (.cells #[.pointer (some ⟨h0, 0, none⟩), .pointer (some ⟨h1, 0, none⟩)] 28) = W5 at *
  generalize W4.heap.size = hr at *
  generalize max n0 0 = m0 at *
  generalize max n1 0 = m1 at *
  clear HO0 HO1
  go_loopw [9] (fun s9 wx => ∃ i : Nat, i ≤ N ∧ s9 = .int .i64 i ∧ Hid (FourD w wx g0 b0 h0 g1 b1 h1 hd hr m0 m1 i)) (fun s9 _ => N - (intOf s9).toNat)
  case atStart => exact ⟨0, by omega, rfl, HF⟩
  case round =>
    obtain ⟨i, hi, rfl, HX⟩ := hrel
    by_cases hi2 : i < N
    · have hnn := HN.out
      have hgs : S[i]? = some S[i] := List.getElem?_eq_getElem (by omega)
      obtain ⟨hw1, hw2⟩ := hwf _ (List.mem_of_getElem? hgs)
      obtain ⟨bA, oA, rfl, lb, C⟩ := HA.out (by omega)
      obtain ⟨c0, c1⟩ := C i _ hgs
      have HC0 : Hid (∀ V, Below w.heap.size w V → V.cell? ⟨bA, oA + i * 2, none⟩ = some (.int .i64 (S[i]).1) ∧ V.cell? ⟨bA, oA + i * 2 + 1, none⟩ = some (.int .i64 (S[i]).2)) := fun V hb => ⟨(hb.cell (p := ⟨bA, oA + i * 2, none⟩) lb).trans c0, (hb.cell (p := ⟨bA, oA + i * 2 + 1, none⟩) lb).trans c1⟩
      generalize S[i] = x at *
      obtain ⟨xc, xi⟩ := x
      simp only at HC0 hw1 hw2
      have HY := HX.out.later (belowN (Below.refl _ _) 1)
      have HX2 : Hid (FourD w wr.drew g0 b0 h0 g1 b1 h1 hd hr m0 m1 i) := HY
      clear HY c0 c1 C hgs hnn
      have hcells := HC0.out _ HX2.out.below
      obtain ⟨r0, r1, r2, r3⟩ := HX2.out.rows
      by_cases hpar : i % 2 = 0
      · have hrem : Int.tmod (i : Int) 2 = 0 := by
          rw [show Int.tmod (i : Int) 2 = ((i % 2 : Nat) : Int) from rfl, show i % 2 = 0 by omega]
          rfl
        have hact := HX2.out.act0 (by omega) (xc, xi) hw2
        simp only at hact
        clear hpar
        go_wp2
        refine wp_region_ord (S := fun u => u.cell? ⟨hd, 0, none⟩ = some (.pointer (some ⟨g0, 0, none⟩)) ∧ u.cell? ⟨hr, 0, none⟩ = some (.pointer (some ⟨h0, 0, none⟩)) ∧ u.cell? ⟨bA, oA + i * 2, none⟩ = some (.int .i64 xc) ∧ u.cell? ⟨bA, oA + i * 2 + 1, none⟩ = some (.int .i64 xi)) [(0, true), (1, true), (2, true), (3, true), (4, true), (5, true), (6, true), (7, true), (8, true), (9, true), (10, true), (11, true), (12, false), (13, true)] (by kernel_rfl) rfl (by kernel_rfl) (fun d _ _ _ _ h => by cases d <;> exact h) ⟨r0, r2, hcells.1, hcells.2⟩ ?_
        simp only [inOrd, List.getElem?_cons_zero, List.getElem?_cons_succ]
        refine wpOrd_yield (v := .int .i64 (i : Int)) rfl (fun u _ => exec_mv rfl rfl) ?_
        simp only [Act.put, List.setIfInBounds_toArray, List.set_cons_succ, List.set_cons_zero]
        refine wpOrd_yield (v := .int .i64 0) rfl (fun u _ => by have := hrem; go_simp) ?_
        simp only [Act.put, List.setIfInBounds_toArray, List.set_cons_succ, List.set_cons_zero]
        refine wpOrd_yield (v := .pointer (some ⟨hd, 0, none⟩)) rfl (fun u _ => by go_simp) ?_
        simp only [Act.put, List.setIfInBounds_toArray, List.set_cons_succ, List.set_cons_zero]
        refine wpOrd_yield (v := .pointer (some ⟨g0, 0, none⟩)) rfl (fun u hu => by have := hu.1; go_simp) ?_
        simp only [Act.put, List.setIfInBounds_toArray, List.set_cons_succ, List.set_cons_zero]
        refine wpOrd_yield (v := .int .i64 (i : Int)) rfl (fun u _ => exec_mv rfl rfl) ?_
        simp only [Act.put, List.setIfInBounds_toArray, List.set_cons_succ, List.set_cons_zero]
        refine wpOrd_yield (v := .int .i64 0) rfl (fun u _ => by have := hrem; go_simp) ?_
        simp only [Act.put, List.setIfInBounds_toArray, List.set_cons_succ, List.set_cons_zero]
        refine wpOrd_yield (v := .pointer (some ⟨hr, 0, none⟩)) rfl (fun u _ => by go_simp) ?_
        simp only [Act.put, List.setIfInBounds_toArray, List.set_cons_succ, List.set_cons_zero]
        refine wpOrd_yield (v := .pointer (some ⟨h0, 0, none⟩)) rfl (fun u hu => by have := hu.2.1; go_simp) ?_
        simp only [Act.put, List.setIfInBounds_toArray, List.set_cons_succ, List.set_cons_zero]
        refine wpOrd_yield (v := .slice (some ⟨bA, oA, none⟩) N cap) rfl (fun u _ => exec_mv rfl rfl) ?_
        simp only [Act.put, List.setIfInBounds_toArray, List.set_cons_succ, List.set_cons_zero]
        refine wpOrd_yield (v := .int .i64 (i : Int)) rfl (fun u _ => exec_mv rfl rfl) ?_
        simp only [Act.put, List.setIfInBounds_toArray, List.set_cons_succ, List.set_cons_zero]
        refine wpOrd_yield (v := .pointer (some ⟨bA, oA + i * 2, none⟩)) rfl (fun u _ => by have := hi2; go_simp) ?_
        simp only [Act.put, List.setIfInBounds_toArray, List.set_cons_succ, List.set_cons_zero]
        refine wpOrd_yield (v := .agg #[.int .i64 xc, .int .i64 xi]) rfl (fun u hu => by have q1 := hu.2.2.1; have q2 := hu.2.2.2; go_simp) ?_
        simp only [Act.put, List.setIfInBounds_toArray, List.set_cons_succ, List.set_cons_zero]
        refine wpOrd_call rfl 9 _ _ rfl Try.call9 [.pointer (some ⟨g0, 0, none⟩), .pointer (some ⟨h0, 0, none⟩), .agg #[.int .i64 xc, .int .i64 xi]] rfl ?_
        refine hact.mono ?_
        rintro e Y ⟨rfl, h⟩
        have HX3 : Hid (FourD w Y g0 b0 h0 g1 b1 h1 hd hr m0 m1 (i + 1)) := h
        refine ⟨_, rfl, ⟨HX3.out.rows.1, HX3.out.rows.2.2.1, (HC0.out _ h.below).1, (HC0.out _ h.below).2⟩, ?_⟩
        simp only [Act.put, List.setIfInBounds_toArray, List.set_cons_succ, List.set_cons_zero]
        refine wpOrd_yield (v := .bool true) rfl (fun u _ => by go_simp) ?_
        simp only [Act.put, List.setIfInBounds_toArray, List.set_cons_succ, List.set_cons_zero]
        refine wpOrd_nil ?_
        clear h hact hcells r0 r1 r2 r3 HX HX2
        go_wp2
        go_roundw
        case rel => exact ⟨i + 1, by omega, by go_num, HX3⟩
        case measure => simp [intOf]; omega
      · have hrem : Int.tmod (i : Int) 2 = 1 := by
          rw [show Int.tmod (i : Int) 2 = ((i % 2 : Nat) : Int) from rfl, show i % 2 = 1 by omega]
          rfl
        have hact := HX2.out.act1 (by omega) (xc, xi) hw2
        simp only at hact
        clear hpar
        go_wp2
        refine wp_region_ord (S := fun u => u.cell? ⟨hd, 1, none⟩ = some (.pointer (some ⟨g1, 0, none⟩)) ∧ u.cell? ⟨hr, 1, none⟩ = some (.pointer (some ⟨h1, 0, none⟩)) ∧ u.cell? ⟨bA, oA + i * 2, none⟩ = some (.int .i64 xc) ∧ u.cell? ⟨bA, oA + i * 2 + 1, none⟩ = some (.int .i64 xi)) [(0, true), (1, true), (2, true), (3, true), (4, true), (5, true), (6, true), (7, true), (8, true), (9, true), (10, true), (11, true), (12, false), (13, true)] (by kernel_rfl) rfl (by kernel_rfl) (fun d _ _ _ _ h => by cases d <;> exact h) ⟨r1, r3, hcells.1, hcells.2⟩ ?_
        simp only [inOrd, List.getElem?_cons_zero, List.getElem?_cons_succ]
        refine wpOrd_yield (v := .int .i64 (i : Int)) rfl (fun u _ => exec_mv rfl rfl) ?_
        simp only [Act.put, List.setIfInBounds_toArray, List.set_cons_succ, List.set_cons_zero]
        refine wpOrd_yield (v := .int .i64 1) rfl (fun u _ => by have := hrem; go_simp) ?_
        simp only [Act.put, List.setIfInBounds_toArray, List.set_cons_succ, List.set_cons_zero]
        refine wpOrd_yield (v := .pointer (some ⟨hd, 1, none⟩)) rfl (fun u _ => by go_simp) ?_
        simp only [Act.put, List.setIfInBounds_toArray, List.set_cons_succ, List.set_cons_zero]
        refine wpOrd_yield (v := .pointer (some ⟨g1, 0, none⟩)) rfl (fun u hu => by have := hu.1; go_simp) ?_
        simp only [Act.put, List.setIfInBounds_toArray, List.set_cons_succ, List.set_cons_zero]
        refine wpOrd_yield (v := .int .i64 (i : Int)) rfl (fun u _ => exec_mv rfl rfl) ?_
        simp only [Act.put, List.setIfInBounds_toArray, List.set_cons_succ, List.set_cons_zero]
        refine wpOrd_yield (v := .int .i64 1) rfl (fun u _ => by have := hrem; go_simp) ?_
        simp only [Act.put, List.setIfInBounds_toArray, List.set_cons_succ, List.set_cons_zero]
        refine wpOrd_yield (v := .pointer (some ⟨hr, 1, none⟩)) rfl (fun u _ => by go_simp) ?_
        simp only [Act.put, List.setIfInBounds_toArray, List.set_cons_succ, List.set_cons_zero]
        refine wpOrd_yield (v := .pointer (some ⟨h1, 0, none⟩)) rfl (fun u hu => by have := hu.2.1; go_simp) ?_
        simp only [Act.put, List.setIfInBounds_toArray, List.set_cons_succ, List.set_cons_zero]
        refine wpOrd_yield (v := .slice (some ⟨bA, oA, none⟩) N cap) rfl (fun u _ => exec_mv rfl rfl) ?_
        simp only [Act.put, List.setIfInBounds_toArray, List.set_cons_succ, List.set_cons_zero]
        refine wpOrd_yield (v := .int .i64 (i : Int)) rfl (fun u _ => exec_mv rfl rfl) ?_
        simp only [Act.put, List.setIfInBounds_toArray, List.set_cons_succ, List.set_cons_zero]
        refine wpOrd_yield (v := .pointer (some ⟨bA, oA + i * 2, none⟩)) rfl (fun u _ => by have := hi2; go_simp) ?_
        simp only [Act.put, List.setIfInBounds_toArray, List.set_cons_succ, List.set_cons_zero]
        refine wpOrd_yield (v := .agg #[.int .i64 xc, .int .i64 xi]) rfl (fun u hu => by have q1 := hu.2.2.1; have q2 := hu.2.2.2; go_simp) ?_
        simp only [Act.put, List.setIfInBounds_toArray, List.set_cons_succ, List.set_cons_zero]
        refine wpOrd_call rfl 9 _ _ rfl Try.call9 [.pointer (some ⟨g1, 0, none⟩), .pointer (some ⟨h1, 0, none⟩), .agg #[.int .i64 xc, .int .i64 xi]] rfl ?_
        refine hact.mono ?_
        rintro e Y ⟨rfl, h⟩
        have HX3 : Hid (FourD w Y g0 b0 h0 g1 b1 h1 hd hr m0 m1 (i + 1)) := h
        refine ⟨_, rfl, ⟨HX3.out.rows.2.1, HX3.out.rows.2.2.2, (HC0.out _ h.below).1, (HC0.out _ h.below).2⟩, ?_⟩
        simp only [Act.put, List.setIfInBounds_toArray, List.set_cons_succ, List.set_cons_zero]
        refine wpOrd_yield (v := .bool true) rfl (fun u _ => by go_simp) ?_
        simp only [Act.put, List.setIfInBounds_toArray, List.set_cons_succ, List.set_cons_zero]
        refine wpOrd_nil ?_
        clear h hact hcells r0 r1 r2 r3 HX HX2
        go_wp2
        go_roundw
        case rel => exact ⟨i + 1, by omega, by go_num, HX3⟩
        case measure => simp [intOf]; omega
    · obtain rfl : i = N := by omega
      go_wp2_with (first | (go_at_call 10; fail))
      refine (dlives_ok _).mono ?_
      rintro e Y1 ⟨rfl, hb1⟩
      have H1 : Hid (FourD w Y1 g0 b0 h0 g1 b1 h1 hd hr m0 m1 i) := HX.out.later hb1
      obtain ⟨r0, r1, r2, r3⟩ := H1.out.rows
      have k1 := H1.out.walk0 (by omega) 3 (by omega)
      clear hb1
      go_wp2_with (first | (go_at_call 11; fail))
      refine k1.mono ?_
      rintro e Y2 ⟨rfl, h⟩
      have H2 : Hid (FourD w Y2 g0 b0 h0 g1 b1 h1 hd hr m0 m1 (i + 1)) := h
      clear h k1 r0 r1 r2 r3 H1
      obtain ⟨r0, r1, r2, r3⟩ := H2.out.rows
      have k2 := H2.out.walk1 (by omega) 0 (by omega)
      go_wp2_with (first | (go_at_call 11; fail))
      refine k2.mono ?_
      rintro e Y3 ⟨rfl, h⟩
      have HB : Hid (Below w.heap.size w Y3) := h.below
      clear h k2
      go_wp2
      go_ret
      exact ⟨rfl, HB.out⟩
end Go.Proofs.Ytpghalekcgnefaa
