/- WalGroups: when groups are committed, and what that makes; for every play. -/
import Derived.Test.YtahaiciciljijabLPlay
namespace Go.Proofs.Ytahaiciciljijab
open Go.RowKit Go.Maps
set_option maxRecDepth 100000 in
set_option maxHeartbeats 8000000 in
theorem groups_any (b l i : Int) (p : Option Addr) (ss : List (Option Addr × Nat × Nat)) (c : Nat) (p2 : Option Addr) (sy : List Int) (c2 : Nat) (st : Int) (p3 : Option Addr) (n3 c3 : Nat) (ag : Int) (p4 : Option Addr) (n4 c4 : Nat) (w : World) (h : PlayAt w p ss p2 sy) (hl : ss.length ≤ 9223372036854775807) (hl2 : sy.length ≤ 9223372036854775807) :
    Calls Try.prog 3 #[.agg (playA b l i p ss.length c p2 sy.length c2 st p3 n3 c3 ag p4 n4 c4)] w fun e w' => e = .returned (.bool true) ∧ Below w.heap.size w w' := by
  obtain ⟨n, hn⟩ : ∃ n, ss.length = n := ⟨_, rfl⟩
  obtain ⟨m2, hm2⟩ : ∃ m2, sy.length = m2 := ⟨_, rfl⟩
  have HFit : Hid (∀ W, Below w.heap.size w W → Calls Try.prog 7 #[.agg (playA b l i p n c p2 m2 c2 st p3 n3 c3 ag p4 n4 c4)] W fun e W' => e = .returned (.bool (fitsB b l i ss)) ∧ Below W.heap.size W W') := fun W hb => by
    have q := fits_any b l i p ss c p2 m2 c2 st p3 n3 c3 ag p4 n4 c4 W (h.1.later hb) hl
    rw [hn] at q
    exact q
  have HT : Hid (PlayAt w p ss p2 sy ∧ ss.length = n ∧ sy.length = m2) := ⟨h, hn, hm2⟩
  rw [hn] at hl ⊢
  rw [hm2] at hl2 ⊢
  clear h hn hm2
  have hz28 : (Try.prog.info? 28).map (·.size) = some (playA b l i p n c p2 m2 c2 st p3 n3 c3 ag p4 n4 c4).size := size53
  generalize hPA : playA b l i p n c p2 m2 c2 st p3 n3 c3 ag p4 n4 c4 = PA at *
  have HPA := Hid.mk' hPA
  clear hPA
  go_enter Try.func3, Try.ntmps3
  go_wp2_with (first | (go_at_call 6; fail))
  refine (lives_any _).mono ?_
  rintro e W0 ⟨rfl, hb0⟩
  have h0 := heap_kept (heap_alloc_new w (.cells PA 28)) hb0
  have HB0 : Hid (Below w.heap.size w W0) := below_next (below_new _ _) hb0
  clear hb0
  go_wp2_with (first | refine wpList_load_row rfl 28 (.tmp 1) rfl w.heap.size rfl 28 PA (0, 0) _ h0 Try.underlying28 rfl hz28 ?_ | (go_at_call 7; fail))
  refine (HFit.out _ HB0.out).mono ?_
  rintro e W1 ⟨rfl, hb1⟩
  have h1 := heap_kept h0 hb1
  have HB1 : Hid (Below w.heap.size w W1) := below_next HB0.out hb1
  clear HFit hb1 h0 HB0 hz28
  cases hfit : fitsB b l i ss
  · go_wp2
    go_ret
    exact ⟨rfl, HB1.out⟩
  obtain ⟨hF, hb300, hn40, hn31⟩ := of_decide_eq_true hfit
  have hn40 : n ≤ 40 := by rw [HT.out.2.1] at hn40; exact hn40
  have hl32 : 32 ≤ l ∧ l ≤ 256 := ⟨hF.1, hF.2.1⟩
  have H31 := Hid.mk' hn31
  have HFr : Hid (∀ W, Calls Try.prog 8 #[.agg #[.int .i64 b, .int .i64 l, .int .i64 i]] W fun e w' => ∃ d g, e = .returned (.tuple #[ptr d, ptr g, .agg (layA b l i), .bool true]) ∧ LogI W w' g d (newX b l i 1) (freshT b) (curV (newV b)) []) := fun W => fresh_ok hF W
  have HF : Hid (H.Fine b l i) := hF
  have HP1 : Hid (PlayAt W1 p ss p2 sy ∧ ss.length = n ∧ sy.length = m2) := ⟨HT.out.1.later HB1.out, HT.out.2⟩
  clear hF hfit hn31 HT
  have h1' := h1
  rw [← HPA.out] at h1'
  go_wp2_with (first | (with_reducible refine H.isLoad 23 ?_; refine wpList_exec rfl (exec_loadG rfl rfl h1') ?_) | (go_at_call 8; fail))
  refine (HFr.out _).mono ?_
  rintro e W2 ⟨d, g, rfl, h2⟩
  have hsz : (layA b l i).size = 9 := rfl
  have hone := layA_one b l i
  have h3 := Hid.mk' (h2.add (.cells (layA b l i) 34))
  clear HFr h2
  unfold ptr at *
  generalize hLA : layA b l i = LA at *
  have HLA := Hid.mk' hLA
  clear hLA
  go_wp2_with (first | (with_reducible refine H.isStore 34 ?_; refine H.wpList_storeL_new rfl _ _ rfl LA _ hsz rfl hone _ rfl rfl rfl ?_))
  have H0 := Hid.mk' h3.out.zx
  have hbl : 1 ≤ b - (1 + l) := by have := HF.out.2.2.2.2.2; have := HF.out.pos; unfold H.dataAt H.bitsAt H.nodeB H.bitsB at *; have := HF.out.2.2.1; omega
  clear h3 hone h1'
  generalize W2.heap.size = q8 at *
  generalize hq1 : w.heap.size = qq at *
  have HQ1 := Hid.mk' hq1
  clear hq1
  generalize (W2.alloc (.cells LA 34)) = W3 at *
  have HG0 : Hid (Going b l i (newX b l i 1) (freshT b)) := ⟨rfl, rfl, rfl, rfl, rfl, rfl, rfl, rfl, by show (1 : Int) ≤ 1000000; omega, by show ((0 : Nat) : Int) ≤ 0; omega⟩
  go_loopw [8, 9, 10, 11] (fun s8 s9 s10 s11 wx => ∃ (k cN mN : Nat) (x : LSt) (t : St) (book : Int → Nat → Int), k ≤ n ∧ s11 = .int .i64 k ∧ s9 = .int .i64 mN ∧ s10 = .int .i64 cN ∧ cN ≤ 2 * k ∧ mN ≤ 1100 * k ∧ Hid (ZX W1 wx g d x t book s8 x.blocks [(q8, .cells LA 34)] ∧ Going b l i x t ∧ x.opn = false ∧ x.steps = k ∧ x.commits = cN ∧ t.made = mN)) (fun _ _ _ s11 _ => n - (intOf s11).toNat)
  case atStart => exact ⟨0, 0, 0, newX b l i 1, freshT b, curV (newV b), by omega, rfl, rfl, rfl, by omega, by omega, H0.out, HG0.out, rfl, rfl, rfl, rfl⟩
  case round =>
    obtain ⟨k, cN, mN, x, t, book, hk, rfl, rfl, rfl, hcN, hmN, HG⟩ := hrel
    clear H0 HG0
    by_cases hk2 : (k : Int) < n
    · have hbW := HG.out.1.below
      have hrow := heap_kept h1 hbW
      rw [← HPA.out] at hrow
      obtain ⟨r0, r1, r3, r4⟩ := play_cells hrow
      obtain ⟨⟨hst, hch, hsy⟩, hsn, hm2⟩ := HP1.out
      have hx : ss[k]? = some ss[k] := List.getElem?_eq_getElem (by omega)
      have hmem : ss[k] ∈ ss := List.getElem_mem _
      obtain ⟨b1, o1, rfl, l1w, C1⟩ := hst (by omega)
      have q1 := (hbW.cell (p := ⟨b1, o1 + k, none⟩) l1w).trans (C1 k _ hx)
      have h31 := H31.out _ hmem
      obtain ⟨cs, hcl, hcs, hfl⟩ := hch _ hmem
      generalize ss[k] = sk at hx hmem q1 h31 hcl hcs
      obtain ⟨sa, sn, sc⟩ := sk
      dsimp only at q1 h31 hcl hcs
      have HQ : Hid (∀ W, Below W1.heap.size W1 W → W.cell? ⟨b1, o1 + k, none⟩ = some (.slice sa sn sc)) := fun W hb => (hb.cell (p := ⟨b1, o1 + k, none⟩) l1w).trans (C1 k _ hx)
      obtain ⟨p8, c8, e8, hI8⟩ := HG.out.1.ints
      subst e8
      obtain ⟨z, hz⟩ : ∃ z, x.blocks.length = z := ⟨_, rfl⟩
      have hzl : (z : Int) ≤ l - 1 := by
        obtain ⟨s, _, hI⟩ := HG.out.1.log
        have := hI.len
        rw [HG.out.2.1.xl, hz] at this
        exact this
      rw [hz] at HG ⊢
      have HLZ := Hid.mk' hz
      obtain ⟨rr, hmx⟩ : ∃ rr : Nat, (if (1 : Int) < sn then (sn : Int) else 1) = rr := ⟨max 1 sn, by split <;> omega⟩
      have hrb : 1 ≤ rr ∧ rr ≤ 31 ∧ sn ≤ rr := by split at hmx <;> omega
      have HCs : Hid (cs.length = sn ∧ ChsAt W1 sa cs ∧ (∀ c ∈ cs, 0 ≤ c.2 ∧ c.2 ≤ 255) ∧ ss[k]? = some (sa, sn, sc)) := ⟨hcl, hcs, hfl, hx⟩
      have HBg : Hid (Calls Try.prog 9 #[.pointer (some ⟨g, 0, none⟩), .int .i64 (rr : Int)] wr fun e W' => e = .returned (.int .i64 0) ∧ ZX W1 W' g d (bgX x rr) (bgT x book t rr) book (.slice p8 z c8) x.blocks [(q8, .cells LA 34)]) :=
        HG.out.1.call fun ks h => h.beginAny HG.out.2.1 HG.out.2.2.1 (by omega) (by omega) (by rw [HG.out.2.2.2.2.2]; omega) (by rw [HG.out.2.2.2.2.1]; omega)
      clear hst hch hsy hsn hm2 hx hmem C1 l1w hcl hcs hfl hI8 hz hbW hrow
      by_cases hov : l - 1 < (z : Int) + rr
      · have hov' : bgOver x rr = true := by unfold bgOver; rw [HG.out.2.1.xl, HLZ.out]; exact decide_eq_true hov
        go_wp2_with (first | (go_at_call 9; fail))
        refine HBg.out.mono ?_
        rintro e Wb ⟨rfl, hB⟩
        obtain ⟨X, T, hX⟩ := hB.over HG.out.1.log HG.out.2.1 hov'
        have hz := HLZ.out
        clear HBg
        obtain ⟨HZ, HN⟩ : Hid (ZX W1 Wb g d X T book (.slice none 0 0) X.blocks [(q8, .cells LA 34)]) ∧ Hid (Going b l i X T ∧ X.opn = true ∧ X.steps = k ∧ X.commits = (cN : Int) + 1 ∧ T.made = (mN : Int) + 2 * (z : Int) + 6 ∧ X.room = rr ∧ X.blocks.length = 0) := ⟨hX.1, hX.2.1, hX.2.2.1, hX.2.2.2.1.trans HG.out.2.2.2.1, by rw [hX.2.2.2.2.1, HG.out.2.2.2.2.1], by rw [hX.2.2.2.2.2.1, HG.out.2.2.2.2.2, hz] <;> omega, hX.2.2.2.2.2.2.1, by have q := hX.2.2.2.2.2.2.2; first | exact q | exact q.trans hz⟩
        clear hX hB HG hz
        have hc := HZ.out.call fun ks h => h.made
        rw [HN.out.2.2.2.2.1] at hc
        have HC := Hid.mk' hc
        clear hc
        go_wp2_with (first | (go_at_call 10; fail))
        refine HC.out.mono ?_
        rintro e Wc ⟨rfl, hzz⟩
        have H1 := Hid.mk' hzz
        clear HC HZ hzz
        have hc := H1.out.call fun ks h => h.commits HN.out.1.chk
        rw [HN.out.2.2.2.1] at hc
        have HC := Hid.mk' hc
        clear hc
        go_wp2_with (first | (go_at_call 11; fail))
        refine HC.out.mono ?_
        rintro e Wd ⟨rfl, hzz⟩
        have H2 := Hid.mk' hzz
        clear HC H1 hzz
        have hc := H2.out.call fun ks h => h.used HN.out.1.chk
        rw [HN.out.2.2.2.2.2.2] at hc
        have HC := Hid.mk' hc
        clear hc
        go_wp2_with (first | (go_at_call 12; fail))
        refine HC.out.mono ?_
        rintro e We ⟨rfl, hzz⟩
        have H3 := Hid.mk' hzz
        clear HC H2 hzz
        have hc := H3.out.call fun ks h => h.openL HN.out.1.chk
        rw [HN.out.2.1] at hc
        have HC := Hid.mk' hc
        clear hc
        go_wp2_with (first | (go_at_call 13; fail))
        refine HC.out.mono ?_
        rintro e Wf ⟨rfl, hzz⟩
        have H4 := Hid.mk' hzz
        clear HC H3 hzz
        clear r0 r1 r3 r4 q1
        go_wp2
        go_loopw [8, 13] (fun s8 s13 wx => ∃ (j : Nat) (x' : LSt) (bk : Int → Nat → Int), j ≤ sn ∧ s13 = .int .i64 j ∧ Hid (ZX W1 wx g d x' T bk s8 x'.blocks [(q8, .cells LA 34)] ∧ Going b l i x' T ∧ x'.opn = true ∧ x'.steps = k ∧ x'.commits = (cN : Int) + 1 ∧ (rr : Int) - (j : Int) ≤ x'.room)) (fun _ s13 _ => sn - (intOf s13).toNat)
        case atStart => exact ⟨0, X, book, by omega, rfl, H4.out, HN.out.1, HN.out.2.1, HN.out.2.2.1, HN.out.2.2.2.1, by rw [HN.out.2.2.2.2.2.1]; omega⟩
        case round =>
          obtain ⟨j, x', bk, hj, rfl, HJ⟩ := hrel
          clear H4
          have hbW := HJ.out.1.below
          have hrow := heap_kept h1 hbW
          rw [← HPA.out] at hrow
          obtain ⟨r0j, _, r3j, _⟩ := play_cells hrow
          have q1j := HQ.out _ hbW
          clear hrow
          by_cases hj2 : (j : Int) < sn
          · have hrowL : wr.heap[q8]? = some (.cells LA 34) := HJ.out.1.obj (List.mem_cons_self ..)
            rw [← HLA.out] at hrowL
            have c84 : wr.cell? ⟨q8, 4, none⟩ = some (.int .i64 (1 + l)) := Joins.cell_of_block hrowL 4
            obtain ⟨hcl, hcs, hfl, _⟩ := HCs.out
            have hxj : cs[j]? = some cs[j] := List.getElem?_eq_getElem (by omega)
            have hfk := hfl cs[j] (List.getElem_mem _)
            obtain ⟨b2, o2, rfl, l2w, C2⟩ := hcs (by omega)
            have hCj := C2 j _ hxj
            generalize cs[j] = cc at hxj hfk hCj
            obtain ⟨cat, cf⟩ := cc
            dsimp only at hCj hfk
            have HQ2 : Hid (∀ W, Below W1.heap.size W1 W → W.cell? ⟨b2, o2 + j * 2 + 1, none⟩ = some (.int .u8 cf)) := fun W hb => (hb.cell (p := ⟨b2, o2 + j * 2 + 1, none⟩) l2w).trans hCj.2
            have q2j := (hbW.cell (p := ⟨b2, o2 + j * 2, none⟩) l2w).trans hCj.1
            clear hCj l2w C2 hxj hcl hcs hfl hrowL hbW
            go_wp2
            have hpk := pick_any cat (b - (1 + l)) ⟨by omega, by omega⟩
            have hw1 : IntKind.i64.wrap (b - (1 + l)) = b - (1 + l) := by rw [IntKind.wrap_i64]; omega
            obtain ⟨at0, hat, hatr⟩ : ∃ at0, cat % (b - (1 + l)) = at0 ∧ 0 ≤ at0 ∧ at0 < b - (1 + l) := ⟨_, rfl, Int.emod_nonneg _ (by omega), Int.emod_lt_of_pos _ (by omega)⟩
            rw [hat] at hpk
            have hw2 : IntKind.i64.wrap (1 + l + at0) = 1 + l + at0 := by rw [IntKind.wrap_i64]; omega
            clear hat
            go_quiet ((go_at_call 14; exact Calls.quiet_of_same (hpk _)))
            have HJ1 := Hid.mk' (HJ.out.1.later (below_drewN wr nq))
            have HJ2 := Hid.mk' HJ.out.2
            have hbA := HJ1.out.below
            have hrowA := heap_kept h1 hbA
            rw [← HPA.out] at hrowA
            obtain ⟨_, _, r3a, _⟩ := play_cells hrowA
            have q1a := HQ.out _ hbA
            have q2a := HQ2.out _ hbA
            clear HJ q1j q2j r0j r3j hpk c84 hw1 hw2 hbA hrowA
            generalize wr.drewN nq = Wa at *
            obtain ⟨at1, hat1⟩ : ∃ at1, 1 + l + at0 = at1 := ⟨_, rfl⟩
            have hatr1 : 1 + l ≤ at1 ∧ at1 < b := by omega
            rw [hat1]
            clear hat1 hatr
            go_wp2_with (first | (go_at_call 16; fail))
            refine (block_any cf hfk _).mono ?_
            rintro e Wb1 ⟨rfl, hbb⟩
            have HJ3 := Hid.mk' (HJ1.out.later hbb)
            clear HJ1 hbb r3a q1a q2a
            have hc := HJ3.out.call fun ks h => h.wr (blkF_can hfk) (HJ2.out.1.ref HJ2.out.2.1) (k := at1) ⟨by rw [HJ2.out.1.xl]; omega, by rw [HJ2.out.1.xb]; omega⟩ (by have := HJ2.out.2.2.2.2; omega)
            have HC := Hid.mk' hc
            clear hc
            go_wp2_with (first | (go_at_call 15; fail))
            refine HC.out.mono ?_
            rintro e Wc1 ⟨rfl, h5⟩
            have hwb := HJ3.out.log.wrote at1
            clear HC HJ3
            obtain ⟨p9, c9, e9, hI9⟩ := h5.ints
            subst e9
            have hlb : x'.blocks.length ≤ 256 := by
              obtain ⟨s, _, hI⟩ := h5.log
              have q1 := hI.len
              rw [hwb] at q1
              have q2 : x'.blocks.length ≤ (ordV x'.blocks at1).length := by unfold ordV; split <;> simp
              have q3 : (wrX x' at1).l = l := (wrX_same x' at1).2.1.trans HJ2.out.1.xl
              rw [q3] at q1
              omega
            have hin := in_any x'.blocks p9 c9 at1 Wc1 (by omega) hI9
            have HWN : Hid (Going b l i (wrX x' at1) T ∧ (wrX x' at1).opn = true ∧ (wrX x' at1).steps = k ∧ (wrX x' at1).commits = (cN : Int) + 1 ∧ (rr : Int) - ((j + 1 : Nat) : Int) ≤ (wrX x' at1).room) := by
              obtain ⟨_, _, _, _, w5, w6, w7, w8⟩ := wrX_same x' at1
              obtain ⟨v1, v2, v3, v4, v5⟩ := HJ2.out
              exact ⟨v1.wr at1, w5.trans v2, w6.trans v3, w7.trans v4, by omega⟩
            have H5 := Hid.mk' h5
            have HWB := Hid.mk' hwb
            obtain ⟨z9, hz9⟩ : ∃ z9, x'.blocks.length = z9 := ⟨_, rfl⟩
            rw [hz9] at hin hlb ⊢
            have HZ9 := Hid.mk' hz9
            have HIn := Hid.mk' hin
            clear h5 hI9 hwb hin hz9 HJ2
            go_wp2_with (first | (go_at_call 17; fail))
            refine HIn.out.mono ?_
            rintro e Wc2 ⟨rfl, rfl⟩
            clear HIn
            by_cases hmem : at1 ∈ x'.blocks
            · rw [decide_eq_true hmem]
              have H6 : Hid (ZX W1 Wc2 g d (wrX x' at1) T (fun y => if y = at1 then blkF cf else bk y) (.slice p9 z9 c9) (wrX x' at1).blocks [(q8, .cells LA 34)]) := by
                have q := H5.out
                have e0 : (wrX x' at1).blocks = x'.blocks := by rw [HWB.out]; unfold ordV; rw [if_pos hmem]
                rw [e0, ← HZ9.out]
                exact q
              clear H5
              go_wp2
              exact ⟨⟨j + 1, wrX x' at1, _, by omega, by go_num, H6.out, HWN.out⟩, by simp [intOf]; omega⟩
            · rw [decide_eq_false hmem]
              obtain ⟨v10, Wd1, hr1, h6⟩ := H5.out.push (by rw [HZ9.out]; omega) at1 25
              rw [HZ9.out] at hr1
              have H6 : Hid (ZX W1 Wd1 g d (wrX x' at1) T (fun y => if y = at1 then blkF cf else bk y) v10 (wrX x' at1).blocks [(q8, .cells LA 34)]) := by
                have e0 : (wrX x' at1).blocks = x'.blocks ++ [at1] := by rw [HWB.out]; unfold ordV; rw [if_neg hmem]
                rw [e0]
                exact h6
              clear H5 h6
              go_wp2_with (first | (at_builtin; refine wpList_push rfl rfl rfl rfl hr1 ?_))
              clear hr1
              exact ⟨⟨j + 1, wrX x' at1, _, by omega, by go_num, H6.out, HWN.out⟩, by simp [intOf]; omega⟩
          · obtain rfl : j = sn := by omega
            obtain ⟨p9, c9, e9, hI9⟩ := HJ.out.1.ints
            subst e9
            obtain ⟨z9, hz9⟩ : ∃ z9, x'.blocks.length = z9 := ⟨_, rfl⟩
            have hz9l : (z9 : Int) ≤ l - 1 := by
              obtain ⟨s, _, hI⟩ := HJ.out.1.log
              have := hI.len
              rw [HJ.out.2.1.xl, hz9] at this
              exact this
            rw [hz9] at HJ ⊢
            have HL9 := Hid.mk' hz9
            clear hI9 hz9
            have HE : Hid (Going b l i (endX x') T ∧ (endX x').steps = (k : Int) + 1 ∧ (endX x').commits = (cN : Int) + 1 ∧ T.made = (mN : Int) + 2 * (z : Int) + 6) := ⟨HJ.out.2.1.turn rfl rfl rfl rfl, by show x'.steps + 1 = _; rw [HJ.out.2.2.2.1], HJ.out.2.2.2.2.1, HN.out.2.2.2.2.1⟩
            have HJ1 := Hid.mk' HJ.out.1
            have HJ2 := Hid.mk' HJ.out.2
            clear HJ
            have hc := HJ1.out.call fun ks h => h.ends (HJ2.out.1.ref HJ2.out.2.1) (by rw [HJ2.out.2.2.1]; omega)
            have HC := Hid.mk' hc
            clear hc
            go_wp2_with (first | (go_at_call 18; fail))
            refine HC.out.mono ?_
            rintro e Wa ⟨rfl, hzz⟩
            have H5 := Hid.mk' hzz
            clear HC HJ1 hzz
            have hc := H5.out.call fun ks h => h.openL HE.out.1.chk
            rw [show (endX x').opn = false from rfl] at hc
            have HC := Hid.mk' hc
            clear hc
            go_wp2_with (first | (go_at_call 13; fail))
            refine HC.out.mono ?_
            rintro e Wb1 ⟨rfl, hzz⟩
            have H6 := Hid.mk' hzz
            clear HC H5 hzz
            have hc := H6.out.call fun ks h => h.steps HE.out.1.chk
            rw [HE.out.2.1] at hc
            have HC := Hid.mk' hc
            clear hc
            go_wp2_with (first | (go_at_call 19; fail))
            refine HC.out.mono ?_
            rintro e Wc1 ⟨rfl, hzz⟩
            have H7 := Hid.mk' hzz
            clear HC H6 hzz
            have hc := H7.out.call fun ks h => h.used HE.out.1.chk
            rw [show (endX x').blocks.length = z9 from HL9.out] at hc
            have HC := Hid.mk' hc
            clear hc
            go_wp2_with (first | (go_at_call 12; fail))
            refine HC.out.mono ?_
            rintro e Wd1 ⟨rfl, hzz⟩
            have H8 := Hid.mk' hzz
            clear HC H7 hzz
            have hbD := H8.out.below
            have hrowD := heap_kept h1 hbD
            rw [← HPA.out] at hrowD
            obtain ⟨_, _, _, r4d⟩ := play_cells hrowD
            have hin := in_any sy p2 c2 (k : Int) Wd1 (by rw [HP1.out.2.2]; omega) (HP1.out.1.2.2.later hbD)
            rw [HP1.out.2.2] at hin
            have HIn := Hid.mk' hin
            clear hin hbD hrowD
            go_wp2_with (first | (go_at_call 17; fail))
            refine HIn.out.mono ?_
            rintro e Wd2 ⟨rfl, rfl⟩
            clear HIn
            by_cases hsyk : (k : Int) ∈ sy
            · rw [decide_eq_true hsyk]
              by_cases hz0 : z9 = 0
              · subst hz0
                have H9a := Hid.mk' H8.out
                clear H8
                have hc := H9a.out.call fun ks h => h.syncNone (HE.out.1.ref rfl) (List.eq_nil_of_length_eq_zero HL9.out)
                have HC := Hid.mk' hc
                clear hc
                go_wp2_with (first | (go_at_call 20; fail))
                refine HC.out.mono ?_
                rintro e We1 ⟨rfl, hzz⟩
                have H9b := Hid.mk' hzz
                clear HC H9a hzz
                have H9 : Hid (ZX W1 We1 g d (endX x') T bk (.slice none 0 0) (endX x').blocks [(q8, .cells LA 34)]) := by
                  have q := H9b.out.log.zx
                  have e0 : (endX x').blocks = [] := List.eq_nil_of_length_eq_zero HL9.out
                  rw [e0]
                  exact q
                have HN9 : Hid (Going b l i (endX x') T ∧ (endX x').opn = false ∧ (endX x').steps = ((k + 1 : Nat) : Int) ∧ (endX x').commits = (cN : Int) + 1 ∧ T.made = (mN : Int) + 2 * (z : Int) + 6) := ⟨HE.out.1, rfl, by rw [HE.out.2.1]; omega, HE.out.2.2.1, HE.out.2.2.2⟩
                clear H9b
                have hc := H9.out.call fun ks h => h.made
                rw [HN9.out.2.2.2.2] at hc
                have HC := Hid.mk' hc
                clear hc
                go_wp2_with (first | (go_at_call 10; fail))
                refine HC.out.mono ?_
                rintro e Wf ⟨rfl, hzz⟩
                have H10 := Hid.mk' hzz
                clear HC H9 hzz
                have hc := H10.out.call fun ks h => h.commits HN9.out.1.chk
                rw [HN9.out.2.2.2.1] at hc
                have HC := Hid.mk' hc
                clear hc
                go_wp2_with (first | (go_at_call 11; fail))
                refine HC.out.mono ?_
                rintro e Wg ⟨rfl, hzz⟩
                have H11 := Hid.mk' hzz
                clear HC H10 hzz
                go_wp2
                refine ⟨⟨k + 1, (cN + 1), mN + (2 * z + 6), endX x', T, bk, by omega, by go_num, by go_num, by go_num, by omega, by omega, H11.out, HN9.out.1, HN9.out.2.1, HN9.out.2.2.1, HN9.out.2.2.2.1.trans (by omega), HN9.out.2.2.2.2.trans (by omega)⟩, by simp [intOf]; omega⟩
              · have hzp : (0 : Int) < z9 := by omega
                have H9a := Hid.mk' H8.out
                have HWe := Hid.mk' H8.out.log
                clear H8
                have hc := H9a.out.call fun ks h => h.syncAll (HE.out.1.ref rfl) (fun q => hz0 (by rw [← HL9.out, show x'.blocks = [] from q]; rfl)) (HE.out.1.rm (by rw [HE.out.2.2.2]; omega) (by rw [show (endX x').blocks.length = z9 from HL9.out]; omega)) (by rw [HE.out.2.2.1]; omega) HE.out.1.fu
                have HC := Hid.mk' hc
                clear hc
                go_wp2_with (first | (go_at_call 20; fail))
                refine HC.out.mono ?_
                rintro e We1 ⟨rfl, hzz⟩
                have H9b := Hid.mk' hzz
                clear HC H9a hzz
                obtain ⟨x9, t9, H9, HN9⟩ : ∃ x9 t9, Hid (ZX W1 We1 g d x9 t9 bk (.slice none 0 0) x9.blocks [(q8, .cells LA 34)]) ∧ Hid (Going b l i x9 t9 ∧ x9.opn = false ∧ x9.steps = ((k + 1 : Nat) : Int) ∧ x9.commits = (cN : Int) + 1 + 1 ∧ t9.made = (mN : Int) + 2 * (z : Int) + 6 + 2 * (z9 : Int) + 6) := by
                  obtain ⟨_, w2, w3⟩ := HWe.out.went (x' := { forgotL (endX x') with commits := (endX x').commits + 1 }) HE.out.1 rfl rfl rfl rfl
                  rw [show (endX x').blocks.length = z9 from HL9.out, HE.out.2.2.2] at w3
                  exact ⟨_, _, H9b.out.log.zx, w2, rfl, by show (endX x').steps = _; rw [HE.out.2.1]; omega, by show (endX x').commits + 1 = _; rw [HE.out.2.2.1], by rw [w3]; omega⟩
                clear H9b HWe
                have hc := H9.out.call fun ks h => h.made
                rw [HN9.out.2.2.2.2] at hc
                have HC := Hid.mk' hc
                clear hc
                go_wp2_with (first | (go_at_call 10; fail))
                refine HC.out.mono ?_
                rintro e Wf ⟨rfl, hzz⟩
                have H10 := Hid.mk' hzz
                clear HC H9 hzz
                have hc := H10.out.call fun ks h => h.commits HN9.out.1.chk
                rw [HN9.out.2.2.2.1] at hc
                have HC := Hid.mk' hc
                clear hc
                go_wp2_with (first | (go_at_call 11; fail))
                refine HC.out.mono ?_
                rintro e Wg ⟨rfl, hzz⟩
                have H11 := Hid.mk' hzz
                clear HC H10 hzz
                go_wp2
                refine ⟨⟨k + 1, (cN + 1) + 1, mN + (2 * z + 6) + (2 * z9 + 6), x9, t9, bk, by omega, by go_num, by go_num, by go_num, by omega, by omega, H11.out, HN9.out.1, HN9.out.2.1, HN9.out.2.2.1, HN9.out.2.2.2.1.trans (by omega), HN9.out.2.2.2.2.trans (by omega)⟩, by simp [intOf]; omega⟩
            · rw [decide_eq_false hsyk]
              have H9 := Hid.mk' H8.out
              clear H8
              have HN9 : Hid (Going b l i (endX x') T ∧ (endX x').opn = false ∧ (endX x').steps = ((k + 1 : Nat) : Int) ∧ (endX x').commits = (cN : Int) + 1 ∧ T.made = (mN : Int) + 2 * (z : Int) + 6) := ⟨HE.out.1, rfl, by rw [HE.out.2.1]; omega, HE.out.2.2.1, HE.out.2.2.2⟩
              have hc := H9.out.call fun ks h => h.made
              rw [HN9.out.2.2.2.2] at hc
              have HC := Hid.mk' hc
              clear hc
              go_wp2_with (first | (go_at_call 10; fail))
              refine HC.out.mono ?_
              rintro e Wf ⟨rfl, hzz⟩
              have H10 := Hid.mk' hzz
              clear HC H9 hzz
              have hc := H10.out.call fun ks h => h.commits HN9.out.1.chk
              rw [HN9.out.2.2.2.1] at hc
              have HC := Hid.mk' hc
              clear hc
              go_wp2_with (first | (go_at_call 11; fail))
              refine HC.out.mono ?_
              rintro e Wg ⟨rfl, hzz⟩
              have H11 := Hid.mk' hzz
              clear HC H10 hzz
              go_wp2
              refine ⟨⟨k + 1, (cN + 1), mN + (2 * z + 6), endX x', T, bk, by omega, by go_num, by go_num, by go_num, by omega, by omega, H11.out, HN9.out.1, HN9.out.2.1, HN9.out.2.2.1, HN9.out.2.2.2.1.trans (by omega), HN9.out.2.2.2.2.trans (by omega)⟩, by simp [intOf]; omega⟩
      · have hov' : ¬ bgOver x rr = true := by unfold bgOver; rw [HG.out.2.1.xl, HLZ.out]; simp only [decide_eq_true_eq]; exact hov
        go_wp2_with (first | (go_at_call 9; fail))
        refine HBg.out.mono ?_
        rintro e Wb ⟨rfl, hB⟩
        obtain ⟨X, T, hX⟩ := hB.under HG.out.1.log HG.out.2.1 hov'
        have hz := HLZ.out
        clear HBg
        obtain ⟨HZ, HN⟩ : Hid (ZX W1 Wb g d X T book (.slice p8 z c8) X.blocks [(q8, .cells LA 34)]) ∧ Hid (Going b l i X T ∧ X.opn = true ∧ X.steps = k ∧ X.commits = (cN : Int) ∧ T.made = (mN : Int) ∧ X.room = rr ∧ X.blocks.length = z) := ⟨hX.1, hX.2.1, hX.2.2.1, hX.2.2.2.1.trans HG.out.2.2.2.1, by rw [hX.2.2.2.2.1, HG.out.2.2.2.2.1], by rw [hX.2.2.2.2.2.1, HG.out.2.2.2.2.2] <;> omega, hX.2.2.2.2.2.2.1, by have q := hX.2.2.2.2.2.2.2; first | exact q | exact q.trans hz⟩
        clear hX hB HG hz
        have hc := HZ.out.call fun ks h => h.made
        rw [HN.out.2.2.2.2.1] at hc
        have HC := Hid.mk' hc
        clear hc
        go_wp2_with (first | (go_at_call 10; fail))
        refine HC.out.mono ?_
        rintro e Wc ⟨rfl, hzz⟩
        have H1 := Hid.mk' hzz
        clear HC HZ hzz
        have hc := H1.out.call fun ks h => h.commits HN.out.1.chk
        rw [HN.out.2.2.2.1] at hc
        have HC := Hid.mk' hc
        clear hc
        go_wp2_with (first | (go_at_call 11; fail))
        refine HC.out.mono ?_
        rintro e Wd ⟨rfl, hzz⟩
        have H2 := Hid.mk' hzz
        clear HC H1 hzz
        have hc := H2.out.call fun ks h => h.used HN.out.1.chk
        rw [HN.out.2.2.2.2.2.2] at hc
        have HC := Hid.mk' hc
        clear hc
        go_wp2_with (first | (go_at_call 12; fail))
        refine HC.out.mono ?_
        rintro e We ⟨rfl, hzz⟩
        have H3 := Hid.mk' hzz
        clear HC H2 hzz
        have hc := H3.out.call fun ks h => h.openL HN.out.1.chk
        rw [HN.out.2.1] at hc
        have HC := Hid.mk' hc
        clear hc
        go_wp2_with (first | (go_at_call 13; fail))
        refine HC.out.mono ?_
        rintro e Wf ⟨rfl, hzz⟩
        have H4 := Hid.mk' hzz
        clear HC H3 hzz
        clear r0 r1 r3 r4 q1
        go_wp2
        go_loopw [8, 13] (fun s8 s13 wx => ∃ (j : Nat) (x' : LSt) (bk : Int → Nat → Int), j ≤ sn ∧ s13 = .int .i64 j ∧ Hid (ZX W1 wx g d x' T bk s8 x'.blocks [(q8, .cells LA 34)] ∧ Going b l i x' T ∧ x'.opn = true ∧ x'.steps = k ∧ x'.commits = (cN : Int) ∧ (rr : Int) - (j : Int) ≤ x'.room)) (fun _ s13 _ => sn - (intOf s13).toNat)
        case atStart => exact ⟨0, X, book, by omega, rfl, H4.out, HN.out.1, HN.out.2.1, HN.out.2.2.1, HN.out.2.2.2.1, by rw [HN.out.2.2.2.2.2.1]; omega⟩
        case round =>
          obtain ⟨j, x', bk, hj, rfl, HJ⟩ := hrel
          clear H4
          have hbW := HJ.out.1.below
          have hrow := heap_kept h1 hbW
          rw [← HPA.out] at hrow
          obtain ⟨r0j, _, r3j, _⟩ := play_cells hrow
          have q1j := HQ.out _ hbW
          clear hrow
          by_cases hj2 : (j : Int) < sn
          · have hrowL : wr.heap[q8]? = some (.cells LA 34) := HJ.out.1.obj (List.mem_cons_self ..)
            rw [← HLA.out] at hrowL
            have c84 : wr.cell? ⟨q8, 4, none⟩ = some (.int .i64 (1 + l)) := Joins.cell_of_block hrowL 4
            obtain ⟨hcl, hcs, hfl, _⟩ := HCs.out
            have hxj : cs[j]? = some cs[j] := List.getElem?_eq_getElem (by omega)
            have hfk := hfl cs[j] (List.getElem_mem _)
            obtain ⟨b2, o2, rfl, l2w, C2⟩ := hcs (by omega)
            have hCj := C2 j _ hxj
            generalize cs[j] = cc at hxj hfk hCj
            obtain ⟨cat, cf⟩ := cc
            dsimp only at hCj hfk
            have HQ2 : Hid (∀ W, Below W1.heap.size W1 W → W.cell? ⟨b2, o2 + j * 2 + 1, none⟩ = some (.int .u8 cf)) := fun W hb => (hb.cell (p := ⟨b2, o2 + j * 2 + 1, none⟩) l2w).trans hCj.2
            have q2j := (hbW.cell (p := ⟨b2, o2 + j * 2, none⟩) l2w).trans hCj.1
            clear hCj l2w C2 hxj hcl hcs hfl hrowL hbW
            go_wp2
            have hpk := pick_any cat (b - (1 + l)) ⟨by omega, by omega⟩
            have hw1 : IntKind.i64.wrap (b - (1 + l)) = b - (1 + l) := by rw [IntKind.wrap_i64]; omega
            obtain ⟨at0, hat, hatr⟩ : ∃ at0, cat % (b - (1 + l)) = at0 ∧ 0 ≤ at0 ∧ at0 < b - (1 + l) := ⟨_, rfl, Int.emod_nonneg _ (by omega), Int.emod_lt_of_pos _ (by omega)⟩
            rw [hat] at hpk
            have hw2 : IntKind.i64.wrap (1 + l + at0) = 1 + l + at0 := by rw [IntKind.wrap_i64]; omega
            clear hat
            go_quiet ((go_at_call 14; exact Calls.quiet_of_same (hpk _)))
            have HJ1 := Hid.mk' (HJ.out.1.later (below_drewN wr nq))
            have HJ2 := Hid.mk' HJ.out.2
            have hbA := HJ1.out.below
            have hrowA := heap_kept h1 hbA
            rw [← HPA.out] at hrowA
            obtain ⟨_, _, r3a, _⟩ := play_cells hrowA
            have q1a := HQ.out _ hbA
            have q2a := HQ2.out _ hbA
            clear HJ q1j q2j r0j r3j hpk c84 hw1 hw2 hbA hrowA
            generalize wr.drewN nq = Wa at *
            obtain ⟨at1, hat1⟩ : ∃ at1, 1 + l + at0 = at1 := ⟨_, rfl⟩
            have hatr1 : 1 + l ≤ at1 ∧ at1 < b := by omega
            rw [hat1]
            clear hat1 hatr
            go_wp2_with (first | (go_at_call 16; fail))
            refine (block_any cf hfk _).mono ?_
            rintro e Wb1 ⟨rfl, hbb⟩
            have HJ3 := Hid.mk' (HJ1.out.later hbb)
            clear HJ1 hbb r3a q1a q2a
            have hc := HJ3.out.call fun ks h => h.wr (blkF_can hfk) (HJ2.out.1.ref HJ2.out.2.1) (k := at1) ⟨by rw [HJ2.out.1.xl]; omega, by rw [HJ2.out.1.xb]; omega⟩ (by have := HJ2.out.2.2.2.2; omega)
            have HC := Hid.mk' hc
            clear hc
            go_wp2_with (first | (go_at_call 15; fail))
            refine HC.out.mono ?_
            rintro e Wc1 ⟨rfl, h5⟩
            have hwb := HJ3.out.log.wrote at1
            clear HC HJ3
            obtain ⟨p9, c9, e9, hI9⟩ := h5.ints
            subst e9
            have hlb : x'.blocks.length ≤ 256 := by
              obtain ⟨s, _, hI⟩ := h5.log
              have q1 := hI.len
              rw [hwb] at q1
              have q2 : x'.blocks.length ≤ (ordV x'.blocks at1).length := by unfold ordV; split <;> simp
              have q3 : (wrX x' at1).l = l := (wrX_same x' at1).2.1.trans HJ2.out.1.xl
              rw [q3] at q1
              omega
            have hin := in_any x'.blocks p9 c9 at1 Wc1 (by omega) hI9
            have HWN : Hid (Going b l i (wrX x' at1) T ∧ (wrX x' at1).opn = true ∧ (wrX x' at1).steps = k ∧ (wrX x' at1).commits = (cN : Int) ∧ (rr : Int) - ((j + 1 : Nat) : Int) ≤ (wrX x' at1).room) := by
              obtain ⟨_, _, _, _, w5, w6, w7, w8⟩ := wrX_same x' at1
              obtain ⟨v1, v2, v3, v4, v5⟩ := HJ2.out
              exact ⟨v1.wr at1, w5.trans v2, w6.trans v3, w7.trans v4, by omega⟩
            have H5 := Hid.mk' h5
            have HWB := Hid.mk' hwb
            obtain ⟨z9, hz9⟩ : ∃ z9, x'.blocks.length = z9 := ⟨_, rfl⟩
            rw [hz9] at hin hlb ⊢
            have HZ9 := Hid.mk' hz9
            have HIn := Hid.mk' hin
            clear h5 hI9 hwb hin hz9 HJ2
            go_wp2_with (first | (go_at_call 17; fail))
            refine HIn.out.mono ?_
            rintro e Wc2 ⟨rfl, rfl⟩
            clear HIn
            by_cases hmem : at1 ∈ x'.blocks
            · rw [decide_eq_true hmem]
              have H6 : Hid (ZX W1 Wc2 g d (wrX x' at1) T (fun y => if y = at1 then blkF cf else bk y) (.slice p9 z9 c9) (wrX x' at1).blocks [(q8, .cells LA 34)]) := by
                have q := H5.out
                have e0 : (wrX x' at1).blocks = x'.blocks := by rw [HWB.out]; unfold ordV; rw [if_pos hmem]
                rw [e0, ← HZ9.out]
                exact q
              clear H5
              go_wp2
              exact ⟨⟨j + 1, wrX x' at1, _, by omega, by go_num, H6.out, HWN.out⟩, by simp [intOf]; omega⟩
            · rw [decide_eq_false hmem]
              obtain ⟨v10, Wd1, hr1, h6⟩ := H5.out.push (by rw [HZ9.out]; omega) at1 25
              rw [HZ9.out] at hr1
              have H6 : Hid (ZX W1 Wd1 g d (wrX x' at1) T (fun y => if y = at1 then blkF cf else bk y) v10 (wrX x' at1).blocks [(q8, .cells LA 34)]) := by
                have e0 : (wrX x' at1).blocks = x'.blocks ++ [at1] := by rw [HWB.out]; unfold ordV; rw [if_neg hmem]
                rw [e0]
                exact h6
              clear H5 h6
              go_wp2_with (first | (at_builtin; refine wpList_push rfl rfl rfl rfl hr1 ?_))
              clear hr1
              exact ⟨⟨j + 1, wrX x' at1, _, by omega, by go_num, H6.out, HWN.out⟩, by simp [intOf]; omega⟩
          · obtain rfl : j = sn := by omega
            obtain ⟨p9, c9, e9, hI9⟩ := HJ.out.1.ints
            subst e9
            obtain ⟨z9, hz9⟩ : ∃ z9, x'.blocks.length = z9 := ⟨_, rfl⟩
            have hz9l : (z9 : Int) ≤ l - 1 := by
              obtain ⟨s, _, hI⟩ := HJ.out.1.log
              have := hI.len
              rw [HJ.out.2.1.xl, hz9] at this
              exact this
            rw [hz9] at HJ ⊢
            have HL9 := Hid.mk' hz9
            clear hI9 hz9
            have HE : Hid (Going b l i (endX x') T ∧ (endX x').steps = (k : Int) + 1 ∧ (endX x').commits = (cN : Int) ∧ T.made = (mN : Int)) := ⟨HJ.out.2.1.turn rfl rfl rfl rfl, by show x'.steps + 1 = _; rw [HJ.out.2.2.2.1], HJ.out.2.2.2.2.1, HN.out.2.2.2.2.1⟩
            have HJ1 := Hid.mk' HJ.out.1
            have HJ2 := Hid.mk' HJ.out.2
            clear HJ
            have hc := HJ1.out.call fun ks h => h.ends (HJ2.out.1.ref HJ2.out.2.1) (by rw [HJ2.out.2.2.1]; omega)
            have HC := Hid.mk' hc
            clear hc
            go_wp2_with (first | (go_at_call 18; fail))
            refine HC.out.mono ?_
            rintro e Wa ⟨rfl, hzz⟩
            have H5 := Hid.mk' hzz
            clear HC HJ1 hzz
            have hc := H5.out.call fun ks h => h.openL HE.out.1.chk
            rw [show (endX x').opn = false from rfl] at hc
            have HC := Hid.mk' hc
            clear hc
            go_wp2_with (first | (go_at_call 13; fail))
            refine HC.out.mono ?_
            rintro e Wb1 ⟨rfl, hzz⟩
            have H6 := Hid.mk' hzz
            clear HC H5 hzz
            have hc := H6.out.call fun ks h => h.steps HE.out.1.chk
            rw [HE.out.2.1] at hc
            have HC := Hid.mk' hc
            clear hc
            go_wp2_with (first | (go_at_call 19; fail))
            refine HC.out.mono ?_
            rintro e Wc1 ⟨rfl, hzz⟩
            have H7 := Hid.mk' hzz
            clear HC H6 hzz
            have hc := H7.out.call fun ks h => h.used HE.out.1.chk
            rw [show (endX x').blocks.length = z9 from HL9.out] at hc
            have HC := Hid.mk' hc
            clear hc
            go_wp2_with (first | (go_at_call 12; fail))
            refine HC.out.mono ?_
            rintro e Wd1 ⟨rfl, hzz⟩
            have H8 := Hid.mk' hzz
            clear HC H7 hzz
            have hbD := H8.out.below
            have hrowD := heap_kept h1 hbD
            rw [← HPA.out] at hrowD
            obtain ⟨_, _, _, r4d⟩ := play_cells hrowD
            have hin := in_any sy p2 c2 (k : Int) Wd1 (by rw [HP1.out.2.2]; omega) (HP1.out.1.2.2.later hbD)
            rw [HP1.out.2.2] at hin
            have HIn := Hid.mk' hin
            clear hin hbD hrowD
            go_wp2_with (first | (go_at_call 17; fail))
            refine HIn.out.mono ?_
            rintro e Wd2 ⟨rfl, rfl⟩
            clear HIn
            by_cases hsyk : (k : Int) ∈ sy
            · rw [decide_eq_true hsyk]
              by_cases hz0 : z9 = 0
              · subst hz0
                have H9a := Hid.mk' H8.out
                clear H8
                have hc := H9a.out.call fun ks h => h.syncNone (HE.out.1.ref rfl) (List.eq_nil_of_length_eq_zero HL9.out)
                have HC := Hid.mk' hc
                clear hc
                go_wp2_with (first | (go_at_call 20; fail))
                refine HC.out.mono ?_
                rintro e We1 ⟨rfl, hzz⟩
                have H9b := Hid.mk' hzz
                clear HC H9a hzz
                have H9 : Hid (ZX W1 We1 g d (endX x') T bk (.slice none 0 0) (endX x').blocks [(q8, .cells LA 34)]) := by
                  have q := H9b.out.log.zx
                  have e0 : (endX x').blocks = [] := List.eq_nil_of_length_eq_zero HL9.out
                  rw [e0]
                  exact q
                have HN9 : Hid (Going b l i (endX x') T ∧ (endX x').opn = false ∧ (endX x').steps = ((k + 1 : Nat) : Int) ∧ (endX x').commits = (cN : Int) ∧ T.made = (mN : Int)) := ⟨HE.out.1, rfl, by rw [HE.out.2.1]; omega, HE.out.2.2.1, HE.out.2.2.2⟩
                clear H9b
                have hc := H9.out.call fun ks h => h.made
                rw [HN9.out.2.2.2.2] at hc
                have HC := Hid.mk' hc
                clear hc
                go_wp2_with (first | (go_at_call 10; fail))
                refine HC.out.mono ?_
                rintro e Wf ⟨rfl, hzz⟩
                have H10 := Hid.mk' hzz
                clear HC H9 hzz
                have hc := H10.out.call fun ks h => h.commits HN9.out.1.chk
                rw [HN9.out.2.2.2.1] at hc
                have HC := Hid.mk' hc
                clear hc
                go_wp2_with (first | (go_at_call 11; fail))
                refine HC.out.mono ?_
                rintro e Wg ⟨rfl, hzz⟩
                have H11 := Hid.mk' hzz
                clear HC H10 hzz
                go_wp2
                refine ⟨⟨k + 1, cN, mN, endX x', T, bk, by omega, by go_num, by go_num, by go_num, by omega, by omega, H11.out, HN9.out.1, HN9.out.2.1, HN9.out.2.2.1, HN9.out.2.2.2.1.trans (by omega), HN9.out.2.2.2.2.trans (by omega)⟩, by simp [intOf]; omega⟩
              · have hzp : (0 : Int) < z9 := by omega
                have H9a := Hid.mk' H8.out
                have HWe := Hid.mk' H8.out.log
                clear H8
                have hc := H9a.out.call fun ks h => h.syncAll (HE.out.1.ref rfl) (fun q => hz0 (by rw [← HL9.out, show x'.blocks = [] from q]; rfl)) (HE.out.1.rm (by rw [HE.out.2.2.2]; omega) (by rw [show (endX x').blocks.length = z9 from HL9.out]; omega)) (by rw [HE.out.2.2.1]; omega) HE.out.1.fu
                have HC := Hid.mk' hc
                clear hc
                go_wp2_with (first | (go_at_call 20; fail))
                refine HC.out.mono ?_
                rintro e We1 ⟨rfl, hzz⟩
                have H9b := Hid.mk' hzz
                clear HC H9a hzz
                obtain ⟨x9, t9, H9, HN9⟩ : ∃ x9 t9, Hid (ZX W1 We1 g d x9 t9 bk (.slice none 0 0) x9.blocks [(q8, .cells LA 34)]) ∧ Hid (Going b l i x9 t9 ∧ x9.opn = false ∧ x9.steps = ((k + 1 : Nat) : Int) ∧ x9.commits = (cN : Int) + 1 ∧ t9.made = (mN : Int) + 2 * (z9 : Int) + 6) := by
                  obtain ⟨_, w2, w3⟩ := HWe.out.went (x' := { forgotL (endX x') with commits := (endX x').commits + 1 }) HE.out.1 rfl rfl rfl rfl
                  rw [show (endX x').blocks.length = z9 from HL9.out, HE.out.2.2.2] at w3
                  exact ⟨_, _, H9b.out.log.zx, w2, rfl, by show (endX x').steps = _; rw [HE.out.2.1]; omega, by show (endX x').commits + 1 = _; rw [HE.out.2.2.1], by rw [w3]; omega⟩
                clear H9b HWe
                have hc := H9.out.call fun ks h => h.made
                rw [HN9.out.2.2.2.2] at hc
                have HC := Hid.mk' hc
                clear hc
                go_wp2_with (first | (go_at_call 10; fail))
                refine HC.out.mono ?_
                rintro e Wf ⟨rfl, hzz⟩
                have H10 := Hid.mk' hzz
                clear HC H9 hzz
                have hc := H10.out.call fun ks h => h.commits HN9.out.1.chk
                rw [HN9.out.2.2.2.1] at hc
                have HC := Hid.mk' hc
                clear hc
                go_wp2_with (first | (go_at_call 11; fail))
                refine HC.out.mono ?_
                rintro e Wg ⟨rfl, hzz⟩
                have H11 := Hid.mk' hzz
                clear HC H10 hzz
                go_wp2
                refine ⟨⟨k + 1, cN + 1, mN + (2 * z9 + 6), x9, t9, bk, by omega, by go_num, by go_num, by go_num, by omega, by omega, H11.out, HN9.out.1, HN9.out.2.1, HN9.out.2.2.1, HN9.out.2.2.2.1.trans (by omega), HN9.out.2.2.2.2.trans (by omega)⟩, by simp [intOf]; omega⟩
            · rw [decide_eq_false hsyk]
              have H9 := Hid.mk' H8.out
              clear H8
              have HN9 : Hid (Going b l i (endX x') T ∧ (endX x').opn = false ∧ (endX x').steps = ((k + 1 : Nat) : Int) ∧ (endX x').commits = (cN : Int) ∧ T.made = (mN : Int)) := ⟨HE.out.1, rfl, by rw [HE.out.2.1]; omega, HE.out.2.2.1, HE.out.2.2.2⟩
              have hc := H9.out.call fun ks h => h.made
              rw [HN9.out.2.2.2.2] at hc
              have HC := Hid.mk' hc
              clear hc
              go_wp2_with (first | (go_at_call 10; fail))
              refine HC.out.mono ?_
              rintro e Wf ⟨rfl, hzz⟩
              have H10 := Hid.mk' hzz
              clear HC H9 hzz
              have hc := H10.out.call fun ks h => h.commits HN9.out.1.chk
              rw [HN9.out.2.2.2.1] at hc
              have HC := Hid.mk' hc
              clear hc
              go_wp2_with (first | (go_at_call 11; fail))
              refine HC.out.mono ?_
              rintro e Wg ⟨rfl, hzz⟩
              have H11 := Hid.mk' hzz
              clear HC H10 hzz
              go_wp2
              refine ⟨⟨k + 1, cN, mN, endX x', T, bk, by omega, by go_num, by go_num, by go_num, by omega, by omega, H11.out, HN9.out.1, HN9.out.2.1, HN9.out.2.2.1, HN9.out.2.2.2.1.trans (by omega), HN9.out.2.2.2.2.trans (by omega)⟩, by simp [intOf]; omega⟩
    · obtain rfl : k = n := by omega
      have hbW := HG.out.1.below
      have hrow := heap_kept h1 hbW
      rw [← HPA.out] at hrow
      obtain ⟨r0, r1, r3, r4⟩ := play_cells hrow
      have HBk : Hid (Below w.heap.size w wr) := below_next (by have q := HB1.out; rw [← HQ1.out] at q; exact q) hbW
      clear hbW hrow
      go_wp2
      go_ret
      exact ⟨rfl, HBk.out⟩
end Go.Proofs.Ytahaiciciljijab
