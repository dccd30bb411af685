/- The document's Total is how many unlike blocks the indices have; no condition but fewer indices than memory has. -/
import Derived.Test.YtcimehjcajdfiaaRefTotal
namespace Go.Proofs.Ytcimehjcajdfiaa
open Go.RowKit Go.Maps
theorem Bk.bound {g : Nat} {K : List Int} {s d n : Int} {w : World} (h : Bk g K s d n w) : 0 ≤ n ∧ n ≤ 65802 ∧ 0 ≤ s ∧ s ≤ 1 ∧ 0 ≤ d ∧ d ≤ 1 := by
  have h1 := cn_bound (inK K) 65802
  have hb : ∀ j, 0 ≤ bit K j ∧ bit K j ≤ 1 := fun j => by unfold bit; split <;> omega
  have h2 := hb 65802
  have h3 := hb 65803
  rw [h.hs, h.hd, h.hn]
  omega
theorem row3 {W : World} {g : Nat} {d f s : Int} (h : W.heap[g]? = some (.cells #[.int .u8 d, .int .i64 f, .int .i64 s] 29)) : W.cell? ⟨g, 0, none⟩ = some (.int .u8 d) ∧ W.cell? ⟨g, 1, none⟩ = some (.int .i64 f) ∧ W.cell? ⟨g, 2, none⟩ = some (.int .i64 s) :=
  ⟨Joins.cell_of_block h 0, Joins.cell_of_block h 1, Joins.cell_of_block h 2⟩
theorem Bk.cell {g : Nat} {K : List Int} {s d n : Int} {w : World} (h : Bk g K s d n w) {j : Nat} (hj : j < 65802) : w.cell? ⟨g, j, none⟩ = some (.int .i64 (bit K j)) := by
  rw [cell_of_row _ _ j _ 3 _ h.met, iRow_get _ _ _ hj]
theorem Bk.cell2 {g : Nat} {K : List Int} {s d n : Int} {w : World} (h : Bk g K s d n w) {j : Nat} (hj : j < 256) : w.cell? ⟨g + 1, j, none⟩ = some (.int .i64 (bit K (65804 + j))) := by
  rw [cell_of_row _ _ j _ 3 _ h.low, iRow_get _ _ _ hj]
set_option maxRecDepth 20000 in
set_option maxHeartbeats 2000000 in
theorem refTotal_any (zs : List Int) (p : Option Addr) (cap : Nat) (w : World) (hlen : zs.length < 1152921504606846976) (hzs : IntsAt w p zs) :
    Calls Try.prog 21 #[.slice p zs.length cap] w fun e' w' => e' = .returned (.int .i64 (cnt (keysL zs))) ∧ Below w.heap.size w w' := by
  obtain ⟨N, hn⟩ : ∃ n, zs.length = n := ⟨_, rfl⟩
  have HT : Hid (IntsAt w p zs ∧ zs.length = N) := ⟨hzs, hn⟩
  rw [hn] at hlen ⊢
  clear hzs hn
  have hwy := refWay_any
  unfold wayA way3 at hwy
  have m1 : ∀ u : World, (Instr.makeSlice 32 (.int .i64 65802) (.int .i64 65802)).run Try.prog u = .ok (.slice (some ⟨u.heap.size, 0, none⟩) 65802 65802) (u.alloc (.cells (iRow (fun _ => 0) 65802) 3)) := fun u => run_make32 u 65802 (by omega)
  have m2 : ∀ u : World, (Instr.makeSlice 32 (.int .i64 256) (.int .i64 256)).run Try.prog u = .ok (.slice (some ⟨u.heap.size, 0, none⟩) 256 256) (u.alloc (.cells (iRow (fun _ => 0) 256) 3)) := fun u => run_make32 u 256 (by omega)
  have HS : Hid (Bk w.heap.size [] 0 0 0 ((w.alloc (.cells (iRow (fun _ => 0) 65802) 3)).alloc (.cells (iRow (fun _ => 0) 256) 3))) := Bk.start w
  generalize iRow (fun _ => 0) 65802 = Z1 at *
  generalize iRow (fun _ => 0) 256 = Z2 at *
  go_enter Try.func21, Try.ntmps21
  go_wp2
  go_loopw [5, 6, 7, 8] (fun s5 s6 s7 s8 wr => ∃ (k : Nat) (s d n : Int), k ≤ N ∧ s8 = .int .i64 k ∧ s5 = .int .i64 s ∧ s6 = .int .i64 d ∧ s7 = .int .i64 n ∧ Hid (Bk w.heap.size (keysL (zs.take k)) s d n wr) ∧ Hid (Below w.heap.size w wr)) (fun _ _ _ s8 _ => N - (intOf s8).toNat)
  case atStart => exact ⟨0, 0, 0, 0, by omega, rfl, rfl, rfl, rfl, HS.out, below_next (below_new _ _) (below_new _ _)⟩
  case round =>
    obtain ⟨k, s, d, n, hk, rfl, rfl, rfl, rfl, HB, HW⟩ := hrel
    clear HS m1 m2
    by_cases hk2 : (k : Int) < N
    · obtain ⟨hzs, hn⟩ := HT.out
      have hx : zs[k]? = some zs[k] := List.getElem?_eq_getElem (by omega)
      have htk : zs.take (k + 1) = zs.take k ++ [zs[k]] := by rw [List.take_add_one, hx]; rfl
      have HK : Hid (keysL (zs.take (k + 1)) = keysL (zs.take k) ++ kOf zs[k]) := by show _ = _; rw [htk]; exact keysL_snoc _ _
      have HO : Hid (∀ x : Int, x < 65802 → x ∈ keysL (zs.take k) → ∀ y ∈ kOf x, y ∈ keysL (zs.take k)) := fun x h1 h2 => keysL_of_mem (keysL_low h2 h1)
      obtain ⟨b1, o1, rfl, l1, C1⟩ := hzs (by omega)
      generalize zs[k] = x at *
      have q1 : ∀ W, Below w.heap.size w W → W.cell? ⟨b1, o1 + k, none⟩ = some (.int .i64 x) := fun W hW => (hW.cell (p := ⟨b1, o1 + k, none⟩) l1).trans (C1 k x hx)
      have hbd := HB.out.bound
      have hw1 := hwy x
      clear hwy hx htk hzs hn C1
      generalize keysL (zs.take k) = K at *
      by_cases h0 : x < 0 ∨ 65802 ≤ x
      · have he := way_none h0
        rw [he.1, he.2.1, he.2.2] at hw1
        have HE : Hid (keysL (zs.take (k + 1)) = K) := by have := HK.out; rw [kOf_none h0, List.append_nil] at this; exact this
        clear he h0
        have q2 := q1 _ HW.out
        go_wp2_with (first | (go_at_call 18; fail))
        refine (hw1 _).mono ?_
        rintro e W1 ⟨rfl, hb1⟩
        have HB1 : Hid (Bk w.heap.size (keysL (zs.take (k + 1))) s d n (W1.alloc (.cells #[.int .u8 0, .int .i64 0, .int .i64 0] 29))) := by
          have := HE.out
          show Bk _ _ _ _ _ _
          rw [this]
          exact (HB.out.later hb1).later (below_new _ _)
        have HW1 : Hid (Below w.heap.size w W1) := HW.out.trans (hb1.mono HW.out.size)
        clear HB HW q1 q2 hb1 hw1
        go_wp2
        exact ⟨⟨k + 1, s, d, n, by omega, by go_num, rfl, rfl, rfl, HB1.out, HW1.out.alloc HW1.out.size _⟩, by simp [intOf]; omega⟩
      · obtain ⟨j, rfl⟩ : ∃ j : Nat, x = j := ⟨x.toNat, by omega⟩
        have hj : j < 65802 := by omega
        by_cases hin : inK K j = true
        · have hd0 : (depthN (j : Int) == 0) = false := by
            have : depthN (j : Int) ≠ 0 := by
              unfold depthN
              rw [if_neg (by omega)]
              split
              · omega
              · split <;> omega
            simp [this]
          have HE : Hid (∀ W, Bk w.heap.size K s d n W → Bk w.heap.size (keysL (zs.take (k + 1))) s d n W) := fun W h => by
            have := HK.out
            rw [this]
            exact h.same (HO.out _ (by omega) ((inK_iff K j).1 hin))
          have q2 := q1 _ HW.out
          generalize depthN (j : Int) = D at *
          generalize firstN (j : Int) = F at *
          generalize secondN (j : Int) = G at *
          go_wp2_with (first | (go_at_call 18; fail))
          refine (hw1 _).mono ?_
          rintro e W1 ⟨rfl, hb1⟩
          have hb2 := below_new W1 (.cells #[.int .u8 D, .int .i64 F, .int .i64 G] 29)
          have HB1 : Hid (Bk w.heap.size K s d n (W1.alloc (.cells #[.int .u8 D, .int .i64 F, .int .i64 G] 29))) := (HB.out.later hb1).later hb2
          have HW1 : Hid (Below w.heap.size w (W1.alloc (.cells #[.int .u8 D, .int .i64 F, .int .i64 G] 29))) := below_next (HW.out.trans (hb1.mono HW.out.size)) hb2
          have c1 := q1 _ HW1.out
          have c2 := HB1.out.cell hj
          rw [bit_yes hin] at c2
          clear HB HW q1 q2 hb1 hb2 hw1
          go_wp2
          exact ⟨⟨k + 1, s, d, n, by omega, by go_num, rfl, rfl, rfl, HE.out _ HB1.out, HW1.out⟩, by simp [intOf]; omega⟩
        · have hin' : inK K j = false := Bool.eq_false_iff.2 hin
          have en : IntKind.i64.wrap (n + 1) = n + 1 := by rw [IntKind.wrap_i64]; omega
          have q2 := q1 _ HW.out
          clear hin
          by_cases h1 : j < 10
          · have he := way_direct (i := (j : Int)) (by omega) (by omega)
            rw [he.1, he.2.1, he.2.2] at hw1
            have HE : Hid (keysL (zs.take (k + 1)) = K ++ [(j : Int)]) := by have := HK.out; rw [kOf_direct (by omega) (by omega)] at this; exact this
            clear he
            go_wp2_with (first | (go_at_call 18; fail))
            refine (hw1 _).mono ?_
            rintro e W1 ⟨rfl, hb1⟩
            have hb2 := below_new W1 (.cells #[.int .u8 1, .int .i64 (j : Int), .int .i64 0] 29)
            have hr0 := heap_alloc_new W1 (.cells #[.int .u8 1, .int .i64 (j : Int), .int .i64 0] 29)
            have HB1 : Hid (Bk w.heap.size K s d n (W1.alloc (.cells #[.int .u8 1, .int .i64 (j : Int), .int .i64 0] 29))) := (HB.out.later hb1).later hb2
            have HW1 : Hid (Below w.heap.size w (W1.alloc (.cells #[.int .u8 1, .int .i64 (j : Int), .int .i64 0] 29))) := below_next (HW.out.trans (hb1.mono HW.out.size)) hb2
            have hg2 : w.heap.size + 1 < W1.heap.size := by
              have := (Array.getElem?_eq_some_iff.1 (HB.out.later hb1).low).1
              exact this
            have c1 := q1 _ HW1.out
            have c2 := HB1.out.cell hj
            have f2 := frozen_row HB1.out.met j
            rw [bit_no hin'] at c2
            have HB2 : Hid (Bk w.heap.size (keysL (zs.take (k + 1))) s d (n + 1) ((W1.alloc (.cells #[.int .u8 1, .int .i64 (j : Int), .int .i64 0] 29)).setCell ⟨w.heap.size, j, none⟩ (.int .i64 1))) := by
              have := HE.out
              show Bk _ _ _ _ _ _
              rw [this]
              exact HB1.out.direct h1 hin'
            have HW2 : Hid (Below w.heap.size w ((W1.alloc (.cells #[.int .u8 1, .int .i64 (j : Int), .int .i64 0] 29)).setCell ⟨w.heap.size, j, none⟩ (.int .i64 1))) := HW1.out.trans ((Fr.setCell _ _ _ _).below (fun i hi => by omega) HW1.out.size)
            have hr1 : ((W1.alloc (.cells #[.int .u8 1, .int .i64 (j : Int), .int .i64 0] 29)).setCell ⟨w.heap.size, j, none⟩ (.int .i64 1)).heap[W1.heap.size]? = some (.cells #[.int .u8 1, .int .i64 (j : Int), .int .i64 0] 29) := by rw [Below.heap_setCell _ _ _ _ (show W1.heap.size ≠ w.heap.size by omega)]; exact hr0
            obtain ⟨r0, r1, r2⟩ := row3 hr1
            clear HB HW q1 q2 hb1 hb2 hw1 hr0 hr1
            go_wp2_with (first
              | (with_reducible refine isStoreR 3 ?_; refine wpList_st3 rfl (.tmp 42) _ rfl w.heap.size j 1 _ rfl rfl c2 f2 ?_))
            exact ⟨⟨k + 1, _, _, _, by omega, by go_num, rfl, rfl, rfl, HB2.out, HW2.out⟩, by simp [intOf]; omega⟩
          · by_cases h2 : j < 266
            · have he := way_single (i := (j : Int)) (by omega) (by omega)
              rw [he.1, he.2.1, he.2.2] at hw1
              have HE : Hid (keysL (zs.take (k + 1)) = K ++ [(j : Int), 65802]) := by have := HK.out; rw [kOf_single (by omega) (by omega)] at this; exact this
              clear he
              go_wp2_with (first | (go_at_call 18; fail))
              refine (hw1 _).mono ?_
              rintro e W1 ⟨rfl, hb1⟩
              have hb2 := below_new W1 (.cells #[.int .u8 2, .int .i64 ((j : Int) - 10), .int .i64 0] 29)
              have hr0 := heap_alloc_new W1 (.cells #[.int .u8 2, .int .i64 ((j : Int) - 10), .int .i64 0] 29)
              have HB1 : Hid (Bk w.heap.size K s d n (W1.alloc (.cells #[.int .u8 2, .int .i64 ((j : Int) - 10), .int .i64 0] 29))) := (HB.out.later hb1).later hb2
              have HW1 : Hid (Below w.heap.size w (W1.alloc (.cells #[.int .u8 2, .int .i64 ((j : Int) - 10), .int .i64 0] 29))) := below_next (HW.out.trans (hb1.mono HW.out.size)) hb2
              have hg2 : w.heap.size + 1 < W1.heap.size := by
                have := (Array.getElem?_eq_some_iff.1 (HB.out.later hb1).low).1
                exact this
              have c1 := q1 _ HW1.out
              have c2 := HB1.out.cell hj
              have f2 := frozen_row HB1.out.met j
              rw [bit_no hin'] at c2
              have HB2 : Hid (Bk w.heap.size (keysL (zs.take (k + 1))) 1 d (n + 1) ((W1.alloc (.cells #[.int .u8 2, .int .i64 ((j : Int) - 10), .int .i64 0] 29)).setCell ⟨w.heap.size, j, none⟩ (.int .i64 1))) := by
                have := HE.out
                show Bk _ _ _ _ _ _
                rw [this]
                exact HB1.out.single h2 hin'
              have HW2 : Hid (Below w.heap.size w ((W1.alloc (.cells #[.int .u8 2, .int .i64 ((j : Int) - 10), .int .i64 0] 29)).setCell ⟨w.heap.size, j, none⟩ (.int .i64 1))) := HW1.out.trans ((Fr.setCell _ _ _ _).below (fun i hi => by omega) HW1.out.size)
              have hr1 : ((W1.alloc (.cells #[.int .u8 2, .int .i64 ((j : Int) - 10), .int .i64 0] 29)).setCell ⟨w.heap.size, j, none⟩ (.int .i64 1)).heap[W1.heap.size]? = some (.cells #[.int .u8 2, .int .i64 ((j : Int) - 10), .int .i64 0] 29) := by rw [Below.heap_setCell _ _ _ _ (show W1.heap.size ≠ w.heap.size by omega)]; exact hr0
              obtain ⟨r0, r1, r2⟩ := row3 hr1
              clear HB HW q1 q2 hb1 hb2 hw1 hr0 hr1
              go_wp2_with (first
                | (with_reducible refine isStoreR 3 ?_; refine wpList_st3 rfl (.tmp 42) _ rfl w.heap.size j 1 _ rfl rfl c2 f2 ?_))
              exact ⟨⟨k + 1, _, _, _, by omega, by go_num, rfl, rfl, rfl, HB2.out, HW2.out⟩, by simp [intOf]; omega⟩
            · obtain ⟨q, hqe⟩ : ∃ q : Nat, ((j : Int) - 266) / 256 = q := ⟨(((j : Int) - 266) / 256).toNat, by omega⟩
              have hq : q < 256 := by omega
              have he := way_double (i := (j : Int)) (by omega) (by omega)
              rw [he.1, he.2.1, he.2.2] at hw1
              have HE : Hid (keysL (zs.take (k + 1)) = K ++ [(j : Int), 65803, 65804 + (q : Int)]) := by have := HK.out; rw [kOf_double (by omega) (by omega), hqe] at this; exact this
              rw [hqe] at hw1
              clear he hqe
              generalize hG : ((j : Int) - 266) % 256 = G at *
              go_wp2_with (first | (go_at_call 18; fail))
              refine (hw1 _).mono ?_
              rintro e W1 ⟨rfl, hb1⟩
              have hb2 := below_new W1 (.cells #[.int .u8 3, .int .i64 (q : Int), .int .i64 G] 29)
              have hr0 := heap_alloc_new W1 (.cells #[.int .u8 3, .int .i64 (q : Int), .int .i64 G] 29)
              have HB1 : Hid (Bk w.heap.size K s d n (W1.alloc (.cells #[.int .u8 3, .int .i64 (q : Int), .int .i64 G] 29))) := (HB.out.later hb1).later hb2
              have HW1 : Hid (Below w.heap.size w (W1.alloc (.cells #[.int .u8 3, .int .i64 (q : Int), .int .i64 G] 29))) := below_next (HW.out.trans (hb1.mono HW.out.size)) hb2
              have hg2 : w.heap.size + 1 < W1.heap.size := by
                have := (Array.getElem?_eq_some_iff.1 (HB.out.later hb1).low).1
                exact this
              have c1 := q1 _ HW1.out
              have c2 := HB1.out.cell hj
              have f2 := frozen_row HB1.out.met j
              rw [bit_no hin'] at c2
              have HB2 : Hid (Bk w.heap.size (keysL (zs.take (k + 1))) s 1 (n + 1) (((W1.alloc (.cells #[.int .u8 3, .int .i64 (q : Int), .int .i64 G] 29)).setCell ⟨w.heap.size, j, none⟩ (.int .i64 1)).setCell ⟨w.heap.size + 1, q, none⟩ (.int .i64 1))) := by
                have := HE.out
                show Bk _ _ _ _ _ _
                rw [this]
                exact HB1.out.double hj hq hin'
              have HW2 : Hid (Below w.heap.size w ((W1.alloc (.cells #[.int .u8 3, .int .i64 (q : Int), .int .i64 G] 29)).setCell ⟨w.heap.size, j, none⟩ (.int .i64 1))) := HW1.out.trans ((Fr.setCell _ _ _ _).below (fun i hi => by omega) HW1.out.size)
              have hr1 : ((W1.alloc (.cells #[.int .u8 3, .int .i64 (q : Int), .int .i64 G] 29)).setCell ⟨w.heap.size, j, none⟩ (.int .i64 1)).heap[W1.heap.size]? = some (.cells #[.int .u8 3, .int .i64 (q : Int), .int .i64 G] 29) := by rw [Below.heap_setCell _ _ _ _ (show W1.heap.size ≠ w.heap.size by omega)]; exact hr0
              obtain ⟨r0, r1, r2⟩ := row3 hr1
              have hl2 : ((W1.alloc (.cells #[.int .u8 3, .int .i64 (q : Int), .int .i64 G] 29)).setCell ⟨w.heap.size, j, none⟩ (.int .i64 1)).heap[w.heap.size + 1]? = some (.cells (iRow (fun j => bit K (65804 + j)) 256) 3) := by rw [Below.heap_setCell _ _ _ _ (show w.heap.size + 1 ≠ w.heap.size by omega)]; exact HB1.out.low
              have c3 : ((W1.alloc (.cells #[.int .u8 3, .int .i64 (q : Int), .int .i64 G] 29)).setCell ⟨w.heap.size, j, none⟩ (.int .i64 1)).cell? ⟨w.heap.size + 1, q, none⟩ = some (.int .i64 (bit K (65804 + q))) := by rw [cell_of_row _ _ q _ 3 _ hl2, iRow_get _ _ _ hq]
              have f3 := frozen_row hl2 q
              have HW3 : Hid (Below w.heap.size w (((W1.alloc (.cells #[.int .u8 3, .int .i64 (q : Int), .int .i64 G] 29)).setCell ⟨w.heap.size, j, none⟩ (.int .i64 1)).setCell ⟨w.heap.size + 1, q, none⟩ (.int .i64 1))) := HW2.out.trans ((Fr.setCell _ _ _ _).below (fun i hi => by omega) HW2.out.size)
              clear hl2
              clear HB HW q1 q2 hb1 hb2 hw1 hr0 hr1
              go_wp2_with (first
                | (with_reducible refine isStoreR 3 ?_; refine wpList_st3 rfl (.tmp 42) _ rfl w.heap.size j 1 _ rfl rfl c2 f2 ?_)
                | (with_reducible refine isStoreR 3 ?_; refine wpList_st3 rfl (.tmp 54) _ rfl (w.heap.size + 1) q 1 _ rfl rfl c3 f3 ?_))
              exact ⟨⟨k + 1, _, _, _, by omega, by go_num, rfl, rfl, rfl, HB2.out, HW3.out⟩, by simp [intOf]; omega⟩
    · obtain rfl : N = k := by omega
      have HB0 : Hid (Bk w.heap.size (keysL zs) s d n wr) := by
        have := HB.out
        rwa [List.take_of_length_le (by rw [HT.out.2]; exact Nat.le_refl _)] at this
      have hbd := HB0.out.bound
      have HC : Hid (∀ i, i < 256 → wr.cell? ⟨w.heap.size + 1, i, none⟩ = some (.int .i64 (bit (keysL zs) (65804 + i)))) := fun i hi => HB0.out.cell2 hi
      have HR : Hid (n + ((cn (fun j => inK (keysL zs) (65804 + j)) 256 : Nat) : Int) + s + d = ((cnt (keysL zs) : Nat) : Int)) := by
        have e1 := cnt_parts (keysL zs)
        have e2 := bits_two (keysL zs)
        have e3 := HB0.out.hs
        have e4 := HB0.out.hd
        have e5 := HB0.out.hn
        show _ = _
        omega
      generalize hK0 : keysL zs = K at *
      have HK0 : Hid (keysL zs = K) := hK0
      clear hK0
      have HG : Hid (∃ f : Nat → Int, (∀ i, f i = n + ((cn (fun j => inK K (65804 + j)) i : Nat) : Int))) := ⟨_, fun _ => rfl⟩
      obtain ⟨f, hf⟩ := HG.out
      have HF : Hid (f 0 = n ∧ (∀ i, f (i + 1) = f i + bit K (65804 + i)) ∧ (∀ i, i ≤ 256 → 0 ≤ f i ∧ f i ≤ 70000) ∧ f 256 + s + d = ((cnt K : Nat) : Int)) := by
        refine ⟨by rw [hf]; simp [cn], fun i => ?_, fun i hi => ?_, by rw [hf]; exact HR.out⟩
        · rw [hf, hf, cn]
          unfold bit
          split <;> omega
        · rw [hf]
          have := cn_bound (fun j => inK K (65804 + j)) i
          omega
      clear HG HR hf HB HB0 hwy hk hk2
      have hf0 := HF.out.1
      go_wp2
      generalize wr = W4 at *
      go_loopw [7, 10] (fun s7 s10 wx => ∃ i : Nat, i ≤ 256 ∧ s10 = .int .i64 i ∧ s7 = .int .i64 (f i) ∧ wx = W4) (fun _ s10 _ => 256 - (intOf s10).toNat)
      case atStart => exact ⟨0, by omega, rfl, by rw [hf0], rfl⟩
      case round =>
        obtain ⟨i, hi, rfl, rfl, rfl⟩ := hrel
        clear hf0
        by_cases hi2 : (i : Int) < 256
        · have c0 := HC.out i (by omega)
          have e1 : IntKind.i64.wrap (f i + bit K (65804 + i)) = f (i + 1) := by
            have h1 := HF.out.2.1 i
            have h2 := HF.out.2.2.1 (i + 1) (by omega)
            rw [IntKind.wrap_i64]
            omega
          generalize bit K (65804 + i) = B at *
          go_wp2
          exact ⟨⟨i + 1, by omega, by go_num, rfl, trivial⟩, by simp [intOf]; omega⟩
        · obtain rfl : i = 256 := by omega
          have h4 := HF.out.2.2.2
          have h5 := HF.out.2.2.1 256 (by omega)
          have hc := cnt_bound K
          have e1 : IntKind.i64.wrap (f 256 + s) = f 256 + s := by rw [IntKind.wrap_i64]; omega
          have e2 : IntKind.i64.wrap (f 256 + s + d) = ((cnt K : Nat) : Int) := by rw [IntKind.wrap_i64]; omega
          clear h4 h5 hc hi hi2
          generalize hcn : cnt K = C at *
          have HC2 : Hid (cnt (keysL zs) = C) := by
            have := HK0.out
            rw [this]
            exact hcn
          clear hcn
          go_wp2
          go_ret
          have e3 := HC2.out
          rw [e3]
          exact ⟨rfl, HW.out⟩
end Go.Proofs.Ytcimehjcajdfiaa
