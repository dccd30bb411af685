/- WalStep: what one step may write, and what is read of it; for every geometry, reservation and list of changes. -/
import Derived.Test.YtahaiciciljijabLStep2
namespace Go.Proofs.Ytahaiciciljijab
open Go.RowKit Go.Maps
set_option maxRecDepth 100000 in
set_option maxHeartbeats 8000000 in
theorem step_any (b l i r : Int) (p : Option Addr) (cs : List (Int × Int)) (cap : Nat) (w : World) (h : ChsAt w p cs) (hl : cs.length ≤ 9223372036854775807) (hfill : ∀ c ∈ cs, 0 ≤ c.2 ∧ c.2 ≤ 255) :
    Calls Try.prog 4 #[H.geoV b l i, .int .i64 r, .slice p cs.length cap] w fun e w' => e = .returned (.bool true) ∧ Below w.heap.size w w' := by
  obtain ⟨n, hn⟩ : ∃ n, cs.length = n := ⟨_, rfl⟩
  have HT0 : Hid (ChsAt w p cs ∧ cs.length = n ∧ ∀ c ∈ cs, 0 ≤ c.2 ∧ c.2 ≤ 255) := ⟨h, hn, hfill⟩
  rw [hn] at hl ⊢
  have HFit : Hid (∀ W, Calls Try.prog 7 #[.agg #[.int .i64 b, .int .i64 l, .int .i64 i, .slice none 0 0, .slice none 0 0, .int .i64 0, .slice none 0 0, .int .i64 0, .slice none 0 0]] W fun e W' => e = .returned (.bool (fitsB b l i [])) ∧ Below W.heap.size W W') := fun W => fits_any b l i none [] 0 none 0 0 0 none 0 0 0 none 0 0 W (fun q => by simp at q) (by simp)
  clear h hn hfill
  unfold H.geoV at *
  go_enter Try.func4, Try.ntmps4
  go_wp2_with (first | (go_at_call 7; fail))
  refine (HFit.out _).mono ?_
  rintro e W1 ⟨rfl, hb1⟩
  have h0 := heap_kept (heap_alloc_new w _) hb1
  have HB1 : Hid (Below w.heap.size w W1) := below_next (below_new _ _) hb1
  clear HFit hb1
  cases hfit : fitsB b l i []
  · go_wp2
    go_ret
    exact ⟨rfl, HB1.out⟩
  by_cases hn2 : (200 : Int) < n
  · go_wp2
    go_ret
    exact ⟨rfl, HB1.out⟩
  obtain ⟨hF, hb300, hx1, hx2⟩ := of_decide_eq_true hfit
  clear hx1 hx2
  have hl32 : 32 ≤ l ∧ l ≤ 256 := ⟨hF.1, hF.2.1⟩
  have hbl : 1 ≤ b - (1 + l) := by have := hF.2.2.2.2.2; have := hF.pos; unfold H.dataAt H.bitsAt H.nodeB H.bitsB at *; have := hF.2.2.1; omega
  obtain ⟨bn, rfl⟩ : ∃ bn : Nat, b = (bn : Int) := ⟨b.toNat, by omega⟩
  have HFr : Hid (∀ W, Calls Try.prog 8 #[.agg #[.int .i64 (bn : Int), .int .i64 l, .int .i64 i]] W fun e w' => ∃ d g, e = .returned (.tuple #[ptr d, ptr g, .agg (layA bn l i), .bool true]) ∧ LogI W w' g d (newX bn l i 1) (freshT bn) (curV (newV bn)) []) := fun W => fresh_ok hF W
  have HT : Hid (ChsAt W1 p cs ∧ cs.length = n ∧ ∀ c ∈ cs, 0 ≤ c.2 ∧ c.2 ≤ 255) := ⟨HT0.out.1.later HB1.out, HT0.out.2⟩
  clear hF hfit HT0
  have hz25 : (Try.prog.info? 23).map (·.size) = some 3 := size23p
  go_wp2_with (first | refine wpList_load_row rfl 23 (.tmp 3) rfl w.heap.size rfl 23 _ (0, 0) _ h0 Try.underlying23 rfl hz25 ?_ | (go_at_call 8; fail))
  refine (HFr.out _).mono ?_
  rintro e W2 ⟨d, g, rfl, h2⟩
  have hsz : (layA bn l i).size = 9 := rfl
  have hone := layA_one bn l i
  have h3 := Hid.mk' (h2.add (.cells (layA bn l i) 34))
  clear HFr h2 hz25
  unfold ptr at *
  generalize hLA : layA bn l i = LA at *
  have HLA := Hid.mk' hLA
  clear hLA
  have hq1 : (W2.alloc (.cells LA 34)).cell? ⟨w.heap.size, 1, none⟩ = some (.int .i64 l) := Joins.cell_of_block (heap_kept h0 h3.out.below) 1
  obtain ⟨r0, hr0, hr0l⟩ : ∃ r0 : Nat, r % (l - 1) = (r0 : Int) ∧ (r0 : Int) < l - 1 := ⟨(r % (l - 1)).toNat, by have := Int.emod_nonneg r (show l - 1 ≠ 0 by omega); omega, by have := Int.emod_nonneg r (show l - 1 ≠ 0 by omega); have := Int.emod_lt_of_pos r (show 0 < l - 1 by omega); omega⟩
  have hpk0 := fun W => pick_any r (l - 1) ⟨by omega, by omega⟩ W
  rw [hr0] at hpk0
  clear hr0
  go_wp2_with (first | (with_reducible refine H.isStore 34 ?_; refine H.wpList_storeL_new rfl _ _ rfl LA _ hsz rfl hone _ rfl rfl rfl ?_) | (go_at_call 14; fail))
  refine (hpk0 _).mono ?_
  rintro e W3 ⟨rfl, rfl⟩
  clear hpk0 hq1 hone
  generalize hq8 : W2.heap.size = q8 at *
  clear hq8
  generalize hqq : w.heap.size = qq at *
  have HQQ := Hid.mk' hqq
  clear hqq
  go_wp2_with (first | (go_at_call 6; fail))
  refine (lives_any _).mono ?_
  rintro e W4 ⟨rfl, hb4⟩
  have H3 := Hid.mk' (h3.out.later hb4)
  clear h3 hb4
  go_wp2_with (first | (go_at_call 9; fail))
  refine (H3.out.begin (r := 1 + (r0 : Int)) (refL_of (t := freshT bn) (by rfl) rfl rfl) (by omega) (by show ((0 : Nat) : Int) + (1 + (r0 : Int)) ≤ l - 1; omega)).mono ?_
  rintro e W5 ⟨rfl, h4⟩
  rw [grp_begun, show (1 + (r0 : Int)) = ((1 + r0 : Nat) : Int) by omega] at h4
  have h40 : GSt W1 W5 g d q8 LA bn l i (1 + r0) (.slice none 0 0) (.slice none 0 0) [] (curV (newV bn)) [] [] := GSt.start h4
  have g0 : W5.cell? ⟨qq, 0, none⟩ = some (.int .i64 (bn : Int)) := Joins.cell_of_block (heap_kept h0 h40.below) 0
  obtain ⟨v13, W6, hmk, h5⟩ := h40.make (m := bn) (by omega)
  rw [← nowL_start l bn bn] at h5
  obtain ⟨q13, c13, e13, hrest⟩ := blks_at h5.owns2 (by rw [nowL_len]; omega)
  rw [nowL_len] at e13
  subst e13
  have H5 := Hid.mk' h5
  clear h4 h40 h5 H3 hrest
  go_wp2_with (first | refine wpList_exec rfl (exec_make50 rfl rfl rfl hmk) ?_)
  clear hmk g0
  go_loopw [12, 14] (fun s12 s14 wx => ∃ (k : Nat) (ord : List Int) (book : Int → Nat → Int), k ≤ n ∧ s14 = .int .i64 k ∧ Hid (ord.length ≤ 1 + r0 ∧ book 0 = nought ∧ GSt W1 wx g d q8 LA bn l i (1 + r0) s12 (.slice (some ⟨q13, 0, none⟩) bn c13) ord book ord (nowL l bn book))) (fun _ s14 _ => n - (intOf s14).toNat)
  case atStart => exact ⟨0, [], curV (newV bn), by omega, rfl, Nat.zero_le _, rfl, H5.out⟩
  case round =>
    obtain ⟨k, ord, book, hk, rfl, HG⟩ := hrel
    clear H5
    by_cases hk2 : (k : Int) < n
    · obtain ⟨hts, hn1, hfl⟩ := HT.out
      have hx : cs[k]? = some cs[k] := List.getElem?_eq_getElem (by omega)
      have hfk := hfl cs[k] (List.getElem_mem _)
      have hbW := HG.out.2.2.below
      have c30 : wr.cell? ⟨qq, 0, none⟩ = some (.int .i64 (bn : Int)) := Joins.cell_of_block (heap_kept h0 hbW) 0
      obtain ⟨b1, o1, rfl, l1w, C1⟩ := hts (by omega)
      have hCk := C1 k _ hx
      generalize cs[k] = c at hx hfk hCk
      obtain ⟨cat, cf⟩ := c
      dsimp only at hCk hfk
      have HQ : Hid (∀ W, Below W1.heap.size W1 W → W.cell? ⟨b1, o1 + k * 2 + 1, none⟩ = some (.int .u8 cf)) := fun W hb => (hb.cell (p := ⟨b1, o1 + k * 2 + 1, none⟩) l1w).trans hCk.2
      have q1 := (hbW.cell (p := ⟨b1, o1 + k * 2, none⟩) l1w).trans hCk.1
      clear hCk l1w hts hn1 hfl hx C1 hbW
      go_wp2
      have hpk := pick_any cat ((bn : Int) + 4) ⟨by omega, by omega⟩
      have hw1 : IntKind.i64.wrap ((bn : Int) + 4) = (bn : Int) + 4 := by rw [IntKind.wrap_i64]; omega
      obtain ⟨at0, hat, hatr⟩ : ∃ at0, cat % ((bn : Int) + 4) = at0 ∧ 0 ≤ at0 ∧ at0 < (bn : Int) + 4 := ⟨_, rfl, Int.emod_nonneg _ (by omega), Int.emod_lt_of_pos _ (by omega)⟩
      rw [hat] at hpk
      have hw2 : IntKind.i64.wrap (at0 - 2) = at0 - 2 := by rw [IntKind.wrap_i64]; omega
      clear hat
      go_quiet ((go_at_call 14; exact Calls.quiet_of_same (hpk _)))
      have HG1 := Hid.mk' (HG.out.2.2.later (below_drewN wr nq))
      have HO : Hid (ord.length ≤ 1 + r0 ∧ book 0 = nought) := ⟨HG.out.1, HG.out.2.1⟩
      have q2a := HQ.out _ HG1.out.below
      clear HG q1 hpk c30 hw1 hw2
      generalize wr.drewN nq = Wa at *
      obtain ⟨at1, hat1⟩ : ∃ at1, at0 - 2 = at1 := ⟨_, rfl⟩
      have hatr1 : -2 ≤ at1 ∧ at1 < (bn : Int) + 2 := by omega
      rw [hat1]
      clear hat1 hatr
      go_wp2_with (first | (go_at_call 16; fail))
      refine (block_any cf hfk _).mono ?_
      rintro e Wb ⟨rfl, hbb⟩
      have HG2 := Hid.mk' (HG1.out.later hbb)
      clear HG1 q2a hbb
      by_cases hA1 : at1 ≤ 0
      · have HC := Hid.mk' (HG2.out.wrArg (f := blkF cf) (k := at1) (.inl (by omega)))
        go_wp2_with (first | (go_at_call 15; fail))
        refine HC.out.mono ?_
        rintro e Wc ⟨rfl, h5⟩
        clear HC HG2
        have hbC := h5.below
        have g0 : Wc.cell? ⟨qq, 0, none⟩ = some (.int .i64 (bn : Int)) := Joins.cell_of_block (heap_kept h0 hbC) 0
        have hrowL := h5.row
        rw [← HLA.out] at hrowL
        have c83 : Wc.cell? ⟨q8, 3, none⟩ = some (.int .i64 1) := Joins.cell_of_block hrowL 3
        have c84 : Wc.cell? ⟨q8, 4, none⟩ = some (.int .i64 (1 + l)) := Joins.cell_of_block hrowL 4
        have q2c := HQ.out _ hbC
        clear hrowL hbC
        obtain ⟨p12, c12, e12, hI⟩ := h5.ints
        subst e12
        have H5 := Hid.mk' h5
        clear hI h5
        obtain ⟨m, hm⟩ : ∃ m, ord.length = m := ⟨_, rfl⟩
        rw [hm] at H5 ⊢
        have HM := Hid.mk' hm
        clear hm
        have HU := Hid.mk' H5.out.used
        have hmm := HM.out
        rw [hmm] at HU
        clear hmm
        go_wp2_with (first | (go_at_call 12; fail))
        refine HU.out.mono ?_
        rintro e Wu ⟨rfl, hu⟩
        have HU2 := Hid.mk' hu
        clear hu HU H5
        go_wp2
        have H9 : Hid (GSt W1 Wu g d q8 LA bn l i (1 + r0) (.slice p12 m c12) (.slice (some ⟨q13, 0, none⟩) bn c13) ord book ord (nowL l bn book)) := HU2.out
        refine ⟨⟨k + 1, ord, book, by omega, by go_num, HO.out.1, HO.out.2, H9.out⟩, by simp [intOf]; omega⟩
      by_cases hA2 : (bn : Int) ≤ at1
      · have HC := Hid.mk' (HG2.out.wrArg (f := blkF cf) (k := at1) (.inr (.inl hA2)))
        go_wp2_with (first | (go_at_call 15; fail))
        refine HC.out.mono ?_
        rintro e Wc ⟨rfl, h5⟩
        clear HC HG2
        have hbC := h5.below
        have g0 : Wc.cell? ⟨qq, 0, none⟩ = some (.int .i64 (bn : Int)) := Joins.cell_of_block (heap_kept h0 hbC) 0
        have hrowL := h5.row
        rw [← HLA.out] at hrowL
        have c83 : Wc.cell? ⟨q8, 3, none⟩ = some (.int .i64 1) := Joins.cell_of_block hrowL 3
        have c84 : Wc.cell? ⟨q8, 4, none⟩ = some (.int .i64 (1 + l)) := Joins.cell_of_block hrowL 4
        have q2c := HQ.out _ hbC
        clear hrowL hbC
        obtain ⟨p12, c12, e12, hI⟩ := h5.ints
        subst e12
        have H5 := Hid.mk' h5
        clear hI h5
        obtain ⟨m, hm⟩ : ∃ m, ord.length = m := ⟨_, rfl⟩
        rw [hm] at H5 ⊢
        have HM := Hid.mk' hm
        clear hm
        have HU := Hid.mk' H5.out.used
        have hmm := HM.out
        rw [hmm] at HU
        clear hmm
        go_wp2_with (first | (go_at_call 12; fail))
        refine HU.out.mono ?_
        rintro e Wu ⟨rfl, hu⟩
        have HU2 := Hid.mk' hu
        clear hu HU H5
        go_wp2
        have H9 : Hid (GSt W1 Wu g d q8 LA bn l i (1 + r0) (.slice p12 m c12) (.slice (some ⟨q13, 0, none⟩) bn c13) ord book ord (nowL l bn book)) := HU2.out
        refine ⟨⟨k + 1, ord, book, by omega, by go_num, HO.out.1, HO.out.2, H9.out⟩, by simp [intOf]; omega⟩
      by_cases hA3 : at1 < 1 + l
      · have hA4 : ¬ at1 < 1 := by omega
        have hA8 : decide (at1 < 1) = false := decide_eq_false (by omega)
        have hA7 : decide (1 + l ≤ at1) = false := decide_eq_false (by omega)
        have hA5 : 1 ≤ at1 := by omega
        have hA6 : at1 < (bn : Int) := by omega
        have HC := Hid.mk' (HG2.out.wrArg (f := blkF cf) (k := at1) (.inr (.inr hA3)))
        go_wp2_with (first | (go_at_call 15; fail))
        refine HC.out.mono ?_
        rintro e Wc ⟨rfl, h5⟩
        clear HC HG2
        have hbC := h5.below
        have g0 : Wc.cell? ⟨qq, 0, none⟩ = some (.int .i64 (bn : Int)) := Joins.cell_of_block (heap_kept h0 hbC) 0
        have hrowL := h5.row
        rw [← HLA.out] at hrowL
        have c83 : Wc.cell? ⟨q8, 3, none⟩ = some (.int .i64 1) := Joins.cell_of_block hrowL 3
        have c84 : Wc.cell? ⟨q8, 4, none⟩ = some (.int .i64 (1 + l)) := Joins.cell_of_block hrowL 4
        have q2c := HQ.out _ hbC
        clear hrowL hbC
        obtain ⟨p12, c12, e12, hI⟩ := h5.ints
        subst e12
        have H5 := Hid.mk' h5
        clear hI h5
        obtain ⟨m, hm⟩ : ∃ m, ord.length = m := ⟨_, rfl⟩
        rw [hm] at H5 ⊢
        have HM := Hid.mk' hm
        clear hm
        have HU := Hid.mk' H5.out.used
        have hmm := HM.out
        rw [hmm] at HU
        clear hmm
        go_wp2_with (first | (go_at_call 12; fail))
        refine HU.out.mono ?_
        rintro e Wu ⟨rfl, hu⟩
        have HU2 := Hid.mk' hu
        clear hu HU H5
        go_wp2
        have H9 : Hid (GSt W1 Wu g d q8 LA bn l i (1 + r0) (.slice p12 m c12) (.slice (some ⟨q13, 0, none⟩) bn c13) ord book ord (nowL l bn book)) := HU2.out
        refine ⟨⟨k + 1, ord, book, by omega, by go_num, HO.out.1, HO.out.2, H9.out⟩, by simp [intOf]; omega⟩
      have hB : 1 + l ≤ at1 ∧ at1 < (bn : Int) := by omega
      obtain ⟨an, han⟩ : ∃ an : Nat, at1 = (an : Int) := ⟨at1.toNat, by omega⟩
      subst han
      by_cases hmem : (an : Int) ∈ ord
      · have hov : ordV ord (an : Int) = ord := by unfold ordV; rw [if_pos hmem]
        have HC := Hid.mk' (HG2.out.wrOk (k := (an : Int)) (blkF_can hfk) hB (.inl hmem))
        go_wp2_with (first | (go_at_call 15; fail))
        refine HC.out.mono ?_
        rintro e Wc ⟨rfl, h5⟩
        clear HC HG2
        have hbC := h5.below
        have g0 : Wc.cell? ⟨qq, 0, none⟩ = some (.int .i64 (bn : Int)) := Joins.cell_of_block (heap_kept h0 hbC) 0
        have hrowL := h5.row
        rw [← HLA.out] at hrowL
        have c83 : Wc.cell? ⟨q8, 3, none⟩ = some (.int .i64 1) := Joins.cell_of_block hrowL 3
        have c84 : Wc.cell? ⟨q8, 4, none⟩ = some (.int .i64 (1 + l)) := Joins.cell_of_block hrowL 4
        have q2c := HQ.out _ hbC
        clear hrowL hbC
        rw [hov] at h5
        clear hov
        obtain ⟨p12, c12, e12, hI⟩ := h5.ints
        subst e12
        obtain ⟨m, hm⟩ : ∃ m, ord.length = m := ⟨_, rfl⟩
        have hin := in_any ord p12 c12 (an : Int) Wc (by have := HO.out.1; omega) hI
        rw [hm] at hin h5 ⊢
        rw [decide_eq_true hmem] at hin
        have HIn := Hid.mk' hin
        have HM := Hid.mk' hm
        have H5 := Hid.mk' h5
        have hmr : m ≤ 1 + r0 := by rw [← hm]; exact HO.out.1
        clear hI hin h5
        go_wp2_with (first | (go_at_call 17; fail))
        refine HIn.out.mono ?_
        rintro e Wc2 ⟨rfl, rfl⟩
        clear HIn
        go_wp2_with (first | (go_at_call 16; fail))
        refine (block_any cf hfk _).mono ?_
        rintro e Wd ⟨rfl, hbd⟩
        have H6 := Hid.mk' (H5.out.later hbd)
        have hfl : (nowL l bn book).length = bn := nowL_len ..
        have HTh := (blks_set H6.out.owns2 (q := q13) rfl (k := an) (by omega) (blkF cf)).1
        have H7 := Hid.mk' (H6.out.setB (q := q13) rfl (k := an) (by omega) (blkF cf))
        clear H5 H6 hbd
        have h8 := H7.out
        rw [← nowL_set (by omega) (blkF cf)] at h8
        obtain ⟨an', han⟩ : ∃ z : Int, (an : Int) = z := ⟨_, rfl⟩
        have H8 : Hid (GSt W1 (Wd.setCells q13 (an * 1024) (blk (blkF cf)).toList) g d q8 LA bn l i (1 + r0) (.slice p12 m c12) (.slice (some ⟨q13, 0, none⟩) bn c13) ord (fun y => if y = (an : Int) then blkF cf else book y) ord (nowL l bn (fun y => if y = (an : Int) then blkF cf else book y))) := h8
        clear h8 H7 han
        have hin2 : Hid (∀ W, GSt W1 W g d q8 LA bn l i (1 + r0) (.slice p12 m c12) (.slice (some ⟨q13, 0, none⟩) bn c13) ord (fun y => if y = (an : Int) then blkF cf else book y) ord (nowL l bn (fun y => if y = (an : Int) then blkF cf else book y)) → Calls Try.prog 17 #[.slice p12 m c12, .int .i64 (an : Int)] W fun e W' => e = .returned (.bool true) ∧ W' = W) := fun W hW => by
          obtain ⟨p', c', e', hI'⟩ := hW.ints
          rw [HM.out] at e'
          injection e' with e1 e2 e3
          subst e1 e3
          have q := in_any ord p12 c12 (an : Int) W (by have := HO.out.1; omega) hI'
          rw [decide_eq_true hmem, HM.out] at q
          exact q
        go_wp2_with (first | (with_reducible refine H.isStore 46 ?_; refine wpList_storeBlk rfl _ _ rfl q13 (an * 1024) rfl (blkF cf) rfl HTh ?_) | (go_at_call 17; fail))
        refine (hin2.out _ H8.out).mono ?_
        rintro e We ⟨rfl, rfl⟩
        clear hin2 HTh
        have HU := Hid.mk' H8.out.used
        have hmm := HM.out
        rw [hmm] at HU
        clear hmm
        go_wp2_with (first | (go_at_call 12; fail))
        refine HU.out.mono ?_
        rintro e Wu ⟨rfl, hu⟩
        have HU2 := Hid.mk' hu
        clear hu HU H8
        go_wp2
        refine ⟨⟨k + 1, ord, _, by omega, by go_num, HO.out.1, (if_neg (by omega)).trans HO.out.2, HU2.out⟩, by simp [intOf]; omega⟩
      by_cases htight : ord.length = 1 + r0
      · have HC := Hid.mk' (HG2.out.wrTight (f := blkF cf) (k := (an : Int)) hB hmem htight)
        go_wp2_with (first | (go_at_call 15; fail))
        refine HC.out.mono ?_
        rintro e Wc ⟨rfl, h5⟩
        clear HC HG2
        have hbC := h5.below
        have g0 : Wc.cell? ⟨qq, 0, none⟩ = some (.int .i64 (bn : Int)) := Joins.cell_of_block (heap_kept h0 hbC) 0
        have hrowL := h5.row
        rw [← HLA.out] at hrowL
        have c83 : Wc.cell? ⟨q8, 3, none⟩ = some (.int .i64 1) := Joins.cell_of_block hrowL 3
        have c84 : Wc.cell? ⟨q8, 4, none⟩ = some (.int .i64 (1 + l)) := Joins.cell_of_block hrowL 4
        have q2c := HQ.out _ hbC
        clear hrowL hbC
        obtain ⟨p12, c12, e12, hI⟩ := h5.ints
        subst e12
        obtain ⟨m, hm⟩ : ∃ m, ord.length = m := ⟨_, rfl⟩
        have hin := in_any ord p12 c12 (an : Int) Wc (by have := HO.out.1; omega) hI
        rw [hm] at hin h5 ⊢
        rw [decide_eq_false hmem] at hin
        have HIn := Hid.mk' hin
        have HM := Hid.mk' hm
        have H5 := Hid.mk' h5
        have hmr : m ≤ 1 + r0 := by rw [← hm]; exact HO.out.1
        clear hI hin h5
        have hm1 : (m : Int) = 1 + r0 := by rw [← HM.out, htight]; omega
        go_wp2_with (first | (go_at_call 17; fail))
        refine HIn.out.mono ?_
        rintro e Wc2 ⟨rfl, rfl⟩
        clear HIn
        have HU := Hid.mk' H5.out.used
        have hmm := HM.out
        rw [hmm] at HU
        clear hmm
        go_wp2_with (first | (go_at_call 12; fail))
        refine HU.out.mono ?_
        rintro e Wu ⟨rfl, hu⟩
        have HU2 := Hid.mk' hu
        clear hu HU H5
        go_wp2
        refine ⟨⟨k + 1, ord, book, by omega, by go_num, HO.out.1, HO.out.2, HU2.out⟩, by simp [intOf]; omega⟩
      have hlt : ord.length < 1 + r0 := by have := HO.out.1; omega
      have hov : ordV ord (an : Int) = ord ++ [(an : Int)] := by unfold ordV; rw [if_neg hmem]
      have HC := Hid.mk' (HG2.out.wrOk (k := (an : Int)) (blkF_can hfk) hB (.inr hlt))
      go_wp2_with (first | (go_at_call 15; fail))
      refine HC.out.mono ?_
      rintro e Wc ⟨rfl, h5⟩
      clear HC HG2
      have hbC := h5.below
      have g0 : Wc.cell? ⟨qq, 0, none⟩ = some (.int .i64 (bn : Int)) := Joins.cell_of_block (heap_kept h0 hbC) 0
      have hrowL := h5.row
      rw [← HLA.out] at hrowL
      have c83 : Wc.cell? ⟨q8, 3, none⟩ = some (.int .i64 1) := Joins.cell_of_block hrowL 3
      have c84 : Wc.cell? ⟨q8, 4, none⟩ = some (.int .i64 (1 + l)) := Joins.cell_of_block hrowL 4
      have q2c := HQ.out _ hbC
      clear hrowL hbC
      rw [hov] at h5
      clear hov
      obtain ⟨p12, c12, e12, hI⟩ := h5.ints
      subst e12
      obtain ⟨m, hm⟩ : ∃ m, ord.length = m := ⟨_, rfl⟩
      have hin := in_any ord p12 c12 (an : Int) Wc (by have := HO.out.1; omega) hI
      rw [hm] at hin h5 ⊢
      rw [decide_eq_false hmem] at hin
      have HIn := Hid.mk' hin
      have HM := Hid.mk' hm
      have H5 := Hid.mk' h5
      have hmr : m ≤ 1 + r0 := by rw [← hm]; exact HO.out.1
      clear hI hin h5
      have hm1 : m < 1 + r0 := by rw [← HM.out]; exact hlt
      go_wp2_with (first | (go_at_call 17; fail))
      refine HIn.out.mono ?_
      rintro e Wc2 ⟨rfl, rfl⟩
      clear HIn
      go_wp2_with (first | (go_at_call 16; fail))
      refine (block_any cf hfk _).mono ?_
      rintro e Wd ⟨rfl, hbd⟩
      have H6 := Hid.mk' (H5.out.later hbd)
      have hfl : (nowL l bn book).length = bn := nowL_len ..
      have HTh := (blks_set H6.out.owns2 (q := q13) rfl (k := an) (by omega) (blkF cf)).1
      have H7 := Hid.mk' (H6.out.setB (q := q13) rfl (k := an) (by omega) (blkF cf))
      clear H5 H6 hbd
      have h8 := H7.out
      rw [← nowL_set (by omega) (blkF cf)] at h8
      have H8 : Hid (GSt W1 (Wd.setCells q13 (an * 1024) (blk (blkF cf)).toList) g d q8 LA bn l i (1 + r0) (.slice p12 m c12) (.slice (some ⟨q13, 0, none⟩) bn c13) (ord ++ [(an : Int)]) (fun y => if y = (an : Int) then blkF cf else book y) ord (nowL l bn (fun y => if y = (an : Int) then blkF cf else book y))) := h8
      clear h8 H7
      have hin2 : Hid (∀ W, GSt W1 W g d q8 LA bn l i (1 + r0) (.slice p12 m c12) (.slice (some ⟨q13, 0, none⟩) bn c13) (ord ++ [(an : Int)]) (fun y => if y = (an : Int) then blkF cf else book y) ord (nowL l bn (fun y => if y = (an : Int) then blkF cf else book y)) → Calls Try.prog 17 #[.slice p12 m c12, .int .i64 (an : Int)] W fun e W' => e = .returned (.bool false) ∧ W' = W) := fun W hW => by
        obtain ⟨p', c', e', hI'⟩ := hW.ints
        rw [HM.out] at e'
        injection e' with e1 e2 e3
        subst e1 e3
        have q := in_any ord p12 c12 (an : Int) W (by have := HO.out.1; omega) hI'
        rw [decide_eq_false hmem, HM.out] at q
        exact q
      go_wp2_with (first | (with_reducible refine H.isStore 46 ?_; refine wpList_storeBlk rfl _ _ rfl q13 (an * 1024) rfl (blkF cf) rfl HTh ?_) | (go_at_call 17; fail))
      refine (hin2.out _ H8.out).mono ?_
      rintro e We ⟨rfl, rfl⟩
      clear hin2 HTh
      obtain ⟨v12, Wf, hr1, h9⟩ := H8.out.pushZ (by have := HO.out.1; omega) (an : Int) 25
      obtain ⟨p14, c14, e14, _⟩ := h9.ints
      have hl14 : (ord ++ [(an : Int)]).length = m + 1 := by rw [List.length_append, HM.out]; rfl
      rw [hl14] at e14
      subst e14
      have H9 := Hid.mk' h9
      clear h9 H8
      have HU := Hid.mk' H9.out.used
      rw [hl14] at HU
      go_wp2_with (first | (at_builtin; refine wpList_push rfl rfl rfl rfl hr1 ?_) | (go_at_call 12; fail))
      refine HU.out.mono ?_
      rintro e Wu ⟨rfl, hu⟩
      have HU2 := Hid.mk' hu
      clear hu HU H9 hr1
      go_wp2
      refine ⟨⟨k + 1, ord ++ [(an : Int)], _, by omega, by go_num, by rw [hl14]; omega, (if_neg (by omega)).trans HO.out.2, HU2.out⟩, by simp [intOf]; omega⟩
    · obtain rfl : k = n := by omega
      obtain ⟨p12, c12, e12, _⟩ := HG.out.2.2.ints
      subst e12
      obtain ⟨m, hm⟩ : ∃ m, ord.length = m := ⟨_, rfl⟩
      have hmr : m ≤ 1 + r0 := by rw [← hm]; exact HG.out.1
      rw [hm] at HG ⊢
      have HM := Hid.mk' hm
      obtain ⟨X, hX⟩ : ∃ X, grpX (bn : Int) l i ((1 + r0 : Nat) : Int) ord = X := ⟨_, rfl⟩
      have HX0 : Hid (GX W1 wr g d q8 LA X (freshT bn) (.slice p12 m c12) (.slice (some ⟨q13, 0, none⟩) bn c13) book ord (nowL l bn book) ∧ Quiet bn l i X (freshT bn) 1) := by
        rw [← hX]
        exact ⟨HG.out.2.2.gx, ⟨⟨rfl, rfl, rfl, rfl, rfl, rfl, rfl, rfl, by show (1 : Int) ≤ 1000000; omega, by show ((0 : Nat) : Int) ≤ 0; omega⟩, rfl, by show (1 : Int) ≤ ((1 : Nat) : Int); omega, rfl, fun k => rfl⟩⟩
      have HB0 : Hid (book 0 = nought ∧ m ≤ 1 + r0 ∧ grpX (bn : Int) l i ((1 + r0 : Nat) : Int) ord = X ∧ ∀ y ∈ ord, 1 + l ≤ y ∧ y < (bn : Int)) := by
        refine ⟨HG.out.2.1, HG.out.1, hX, ?_⟩
        obtain ⟨o1, o2, ⟨s, _, hI⟩, _⟩ := HG.out.2.2
        exact hI.rng
      clear HG hX hm
      go_wp2
      go_loopw [19] (fun s19 wx => ∃ (j : Nat) (t : St), j ≤ bn ∧ s19 = .int .i64 j ∧ Hid (GX W1 wx g d q8 LA X t (.slice p12 m c12) (.slice (some ⟨q13, 0, none⟩) bn c13) book ord (nowL l bn book) ∧ Quiet bn l i X t (1 + 2 * j))) (fun s19 _ => bn - (intOf s19).toNat)
      case atStart => exact ⟨0, freshT bn, by omega, rfl, HX0.out⟩
      case round =>
        obtain ⟨j, t, hj, rfl, HJ⟩ := hrel
        clear HX0
        have g0 : wr.cell? ⟨qq, 0, none⟩ = some (.int .i64 (bn : Int)) := Joins.cell_of_block (heap_kept h0 HJ.out.1.below) 0
        by_cases hj2 : (j : Int) < bn
        · have hrd := HJ.out.1.read HJ.out.2 (by omega) (by omega) HB0.out.1 (k := j) hj2
          obtain ⟨F, hF⟩ : ∃ F, (if 1 + l ≤ (j : Int) then book j else nought) = F := ⟨_, rfl⟩
          rw [hF] at hrd
          have HC := Hid.mk' hrd
          have HF := Hid.mk' hF
          clear hrd hF HJ
          go_wp2_with (first | (go_at_call 21; fail))
          refine HC.out.mono ?_
          rintro e Wa ⟨rfl, t1, h1x, hQ1⟩
          have hrd := h1x.dreadAt hQ1 (by omega) (.cells (blk F) 46) (k := j) hj2
          have HA : Hid (Below (W1.heap.size) W1 Wa) := h1x.below
          have HC2 := Hid.mk' hrd
          have z25 := zero25
          clear hrd HC h1x hQ1
          go_wp2_with (first | (with_reducible refine H.isStore 46 ?_; refine wpList_store25_new rfl _ _ rfl F _ rfl rfl ?_) | (go_at_call 22; fail))
          refine HC2.out.mono ?_
          rintro e Wb ⟨rfl, hra, t2, h2x, hQ2⟩
          have H2 : Hid (GX W1 (Wb.alloc (.cells (blk nought) 46)).drew g d q8 LA X t2 (.slice p12 m c12) (.slice (some ⟨q13, 0, none⟩) bn c13) book ord (nowL l bn book) ∧ Quiet bn l i X t2 (1 + 2 * (j + 1))) := ⟨h2x.later (below_next (below_new Wb _) (H.drew_below _)), hQ2.more (by omega)⟩
          have HR : Hid ((Wb.alloc (.cells (blk nought) 46)).drew.heap[Wa.heap.size]? = some (.cells (blk F) 46) ∧ BlkAt (Wb.alloc (.cells (blk nought) 46)).drew q13 (j * 1024) F ∧ (Wb.alloc (.cells (blk nought) 46)).drew.heap[Wb.heap.size]? = some (.cells (blk nought) 46)) := by
            refine ⟨heap_kept hra (below_next (below_new Wb _) (H.drew_below _)), ?_, heap_kept (heap_alloc_new Wb _) (H.drew_below _)⟩
            obtain ⟨q', c', e', _, _, _, _, hk'⟩ := blks_at H2.out.1.owns2 (by rw [nowL_len]; omega)
            injection e' with e1 e2 e3
            injection e1 with e1
            injection e1 with e1
            subst e1
            exact hk' j F (by rw [nowL_get (by omega), HF.out])
          clear HC2 hra h2x hQ2 g0
          go_wp2_with (first | (with_reducible refine H.isStore 46 ?_; refine wpList_store25_new rfl _ _ rfl nought _ rfl rfl ?_))
          generalize hqa : Wa.heap.size = qa at *
          generalize hqb : Wb.heap.size = qb at *
          clear hqa hqb z25
          refine wp_region_ord (S := fun u => u.heap[qa]? = some (.cells (blk F) 46) ∧ BlkAt u q13 (j * 1024) F ∧ u.heap[qb]? = some (.cells (blk nought) 46)) [(0, true), (1, true), (2, true), (3, true), (4, true), (5, true), (6, true), (7, true), (8, true), (9, true), (10, true), (11, true), (12, true), (13, true), (14, true), (15, true), (16, true), (17, true), (18, true)]
            (by kernel_rfl) rfl (by kernel_rfl) (fun d _ _ _ _ h => by cases d <;> exact h) HR.out ?_
          simp only [inOrd, List.getElem?_cons_zero, List.getElem?_cons_succ]
          refine wpOrd_move rfl _ rfl ?_
          simp only [Act.put, List.setIfInBounds_toArray, List.set_cons_succ, List.set_cons_zero]
          refine wpOrd_yield (v := .bool false) rfl (fun u _ => by go_simp) ?_
          simp only [Act.put, List.setIfInBounds_toArray, List.set_cons_succ, List.set_cons_zero]
          refine wpOrd_move rfl _ rfl ?_
          simp only [Act.put, List.setIfInBounds_toArray, List.set_cons_succ, List.set_cons_zero]
          refine wpOrd_move rfl _ rfl ?_
          simp only [Act.put, List.setIfInBounds_toArray, List.set_cons_succ, List.set_cons_zero]
          refine wpOrd_yield (v := .bool false) rfl (fun u _ => by go_simp) ?_
          simp only [Act.put, List.setIfInBounds_toArray, List.set_cons_succ, List.set_cons_zero]
          refine wpOrd_yield (v := .bool false) rfl (fun u _ => by go_simp) ?_
          simp only [Act.put, List.setIfInBounds_toArray, List.set_cons_succ, List.set_cons_zero]
          refine wpOrd_move rfl _ rfl ?_
          simp only [Act.put, List.setIfInBounds_toArray, List.set_cons_succ, List.set_cons_zero]
          refine wpOrd_yield (v := .agg (blk F)) rfl (fun u hu => H.exec_loadB rfl qa F rfl hu.1) ?_
          simp only [Act.put, List.setIfInBounds_toArray, List.set_cons_succ, List.set_cons_zero]
          refine wpOrd_move rfl _ rfl ?_
          simp only [Act.put, List.setIfInBounds_toArray, List.set_cons_succ, List.set_cons_zero]
          refine wpOrd_move rfl _ rfl ?_
          simp only [Act.put, List.setIfInBounds_toArray, List.set_cons_succ, List.set_cons_zero]
          refine wpOrd_yield (v := .pointer (some ⟨q13, j * 1024, none⟩)) rfl (fun u _ => exec_ix69 rfl rfl rfl (by omega)) ?_
          simp only [Act.put, List.setIfInBounds_toArray, List.set_cons_succ, List.set_cons_zero]
          refine wpOrd_yield (v := .agg (blk F)) rfl (fun u hu => exec_ldM rfl rfl hu.2.1) ?_
          simp only [Act.put, List.setIfInBounds_toArray, List.set_cons_succ, List.set_cons_zero]
          refine wpOrd_yield (v := .bool false) rfl (fun u _ => exec_neB rfl rfl rfl u) ?_
          simp only [Act.put, List.setIfInBounds_toArray, List.set_cons_succ, List.set_cons_zero]
          refine wpOrd_yield (v := .bool false) rfl (fun u _ => by go_simp) ?_
          simp only [Act.put, List.setIfInBounds_toArray, List.set_cons_succ, List.set_cons_zero]
          refine wpOrd_move rfl _ rfl ?_
          simp only [Act.put, List.setIfInBounds_toArray, List.set_cons_succ, List.set_cons_zero]
          refine wpOrd_yield (v := .agg (blk nought)) rfl (fun u hu => H.exec_loadB rfl qb nought rfl hu.2.2) ?_
          simp only [Act.put, List.setIfInBounds_toArray, List.set_cons_succ, List.set_cons_zero]
          refine wpOrd_yield (v := .agg (blk nought)) rfl (fun u _ => exec_b30 rfl u) ?_
          simp only [Act.put, List.setIfInBounds_toArray, List.set_cons_succ, List.set_cons_zero]
          refine wpOrd_yield (v := .bool false) rfl (fun u _ => exec_neB rfl rfl rfl u) ?_
          simp only [Act.put, List.setIfInBounds_toArray, List.set_cons_succ, List.set_cons_zero]
          refine wpOrd_yield (v := .bool false) rfl (fun u _ => by go_simp) ?_
          simp only [Act.put, List.setIfInBounds_toArray, List.set_cons_succ, List.set_cons_zero]
          refine wpOrd_nil ?_
          go_wp2
          exact ⟨⟨j + 1, t2, by omega, by go_num, H2.out⟩, by simp [intOf]; omega⟩
        · obtain rfl : j = bn := by omega
          have HE : Hid (Quiet j l i (endX X) t (1 + 2 * j)) := ⟨HJ.out.2.go.turn rfl rfl rfl rfl, HJ.out.2.made, HJ.out.2.rd, HJ.out.2.n, HJ.out.2.cur⟩
          have hXo : X.opn = true := by rw [← HB0.out.2.2.1]; rfl
          have hXs : X.steps = 0 := by rw [← HB0.out.2.2.1]; rfl
          have hXc : X.commits = 0 := by rw [← HB0.out.2.2.1]; rfl
          have hc := HJ.out.1.zx.call fun ks h => h.ends (HJ.out.2.go.ref hXo) (by rw [hXs]; omega)
          have HC := Hid.mk' hc
          have HXc := Hid.mk' hXc
          have HXs := Hid.mk' hXs
          clear hc hXo hXs hXc HJ
          go_wp2_with (first | (go_at_call 18; fail))
          refine HC.out.mono ?_
          rintro e Wa ⟨rfl, hzz⟩
          have hc := hzz.call fun ks h => h.made
          rw [HE.out.made] at hc
          have HC2 := Hid.mk' hc
          clear hc HC hzz g0
          go_wp2_with (first | (go_at_call 10; fail))
          refine HC2.out.mono ?_
          rintro e Wb ⟨rfl, hzz⟩
          have H4 : Hid (ZX W1 Wb g d (endX X) t book (.slice p12 m c12) ord [] ∧ Going j l i (endX X) t ∧ (endX X).opn = false ∧ (endX X).steps = ((1 : Nat) : Int) ∧ (endX X).commits ≤ ((0 : Nat) : Int) ∧ t.made ≤ ((0 : Nat) : Int)) := ⟨hzz, HE.out.go, rfl, by show X.steps + 1 = _; rw [HXs.out]; rfl, by show X.commits ≤ _; rw [HXc.out]; omega, by rw [HE.out.made]; omega⟩
          clear hzz HC2 HE
          go_wp2
          go_loopw [24] (fun s24 wx => ∃ (k3 : Nat) (x : LSt) (t : St) (bk : Int → Nat → Int), k3 ≤ m ∧ s24 = .int .i64 k3 ∧ Hid (ZX W1 wx g d x t bk (.slice p12 m c12) ord [] ∧ Going j l i x t ∧ x.opn = false ∧ x.steps = ((1 + k3 : Nat) : Int) ∧ x.commits ≤ ((k3 : Nat) : Int) ∧ t.made ≤ ((600 * k3 : Nat) : Int))) (fun s24 _ => m - (intOf s24).toNat)
          case atStart => exact ⟨0, endX X, t, book, by omega, rfl, H4.out⟩
          case round =>
            obtain ⟨k3, x, t3, bk, hk3, rfl, H3⟩ := hrel
            clear H4
            by_cases hk32 : (k3 : Int) < m
            · have hoi : ord[k3]? = some (ord[k3]'(by have := HM.out; omega)) := List.getElem?_eq_getElem _
              have hyr := HB0.out.2.2.2 _ (List.getElem_mem (by have := HM.out; omega : k3 < ord.length))
              generalize (ord[k3]'(by have := HM.out; omega)) = y at hoi hyr
              obtain ⟨q12, o12, e12, hl12, C12⟩ : ∃ q12 o12, p12 = some ⟨q12, o12, none⟩ ∧ True ∧ ∀ W x t bk, ZX W1 W g d x t bk (.slice p12 m c12) ord [] → W.cell? ⟨q12, o12 + k3, none⟩ = some (.int .i64 y) := by
                obtain ⟨p', c', e', hI'⟩ := H3.out.1.ints
                injection e' with e1 e2 e3
                subst e1
                obtain ⟨b5, o5, rfl, _, _⟩ := hI' (by have := HM.out; omega)
                refine ⟨b5, o5, rfl, trivial, fun W x t bk hz => ?_⟩
                obtain ⟨p'', c'', e'', hI''⟩ := hz.ints
                injection e'' with e1 e2 e3
                subst e1
                obtain ⟨b6, o6, e6, _, C6⟩ := hI'' (by have := HM.out; omega)
                injection e6 with e6
                injection e6 with e7 e8
                subst e7 e8
                exact C6 k3 y hoi
              subst e12
              have HC12 := Hid.mk' C12
              clear hl12 C12
              have HBg : Hid (∀ W, ZX W1 W g d x t3 bk (.slice (some ⟨q12, o12, none⟩) m c12) ord [] → Calls Try.prog 9 #[.pointer (some ⟨g, 0, none⟩), .int .i64 1] W fun e W' => e = .returned (.int .i64 0) ∧ ∃ x' t', ZX W1 W' g d x' t' bk (.slice (some ⟨q12, o12, none⟩) m c12) ord [] ∧ Going j l i x' t' ∧ x'.opn = true ∧ x'.steps = x.steps ∧ x'.room = 1 ∧ x'.commits ≤ ((k3 + 1 : Nat) : Int) ∧ t'.made ≤ ((600 * k3 + 600 : Nat) : Int)) := fun W hz => hz.again H3.out.2.1 H3.out.2.2.1 H3.out.2.2.2.2.1 H3.out.2.2.2.2.2 (by omega) (by omega) (by omega)
              have HZ3 := Hid.mk' (H3.out.1.later (H.drew_below wr))
              have HS3 := Hid.mk' H3.out.2.2.2.1
              clear H3
              go_wp2
              refine wp_region_ord (S := fun u => u.cell? ⟨q12, o12 + k3, none⟩ = some (.int .i64 y)) [(0, true), (1, false), (2, true), (3, true), (4, true), (5, true), (6, true), (7, true), (8, true), (9, false), (10, false), (11, true), (12, true), (13, true), (14, true), (15, false), (16, true), (17, true)]
                (by kernel_rfl) rfl (by kernel_rfl) (fun d _ _ _ _ h => by cases d <;> exact h) (HC12.out _ _ _ _ HZ3.out) ?_
              simp only [inOrd, List.getElem?_cons_zero, List.getElem?_cons_succ]
              refine wpOrd_move rfl _ rfl ?_
              simp only [Act.put, List.setIfInBounds_toArray, List.set_cons_succ, List.set_cons_zero]
              refine wpOrd_call rfl 9 _ _ rfl Try.call9 [.pointer (some ⟨g, 0, none⟩), .int .i64 1] rfl ?_
              refine (HBg.out _ HZ3.out).mono ?_
              rintro e X1 ⟨rfl, x1, t1, hz1, hG1, ho1, hs1, hr1, hc1, hm1⟩
              have H5 := Hid.mk' hz1
              have HN5 : Hid (Going j l i x1 t1 ∧ x1.opn = true ∧ x1.steps = ((1 + k3 : Nat) : Int) ∧ x1.room = 1 ∧ x1.commits ≤ ((k3 + 1 : Nat) : Int) ∧ t1.made ≤ ((600 * k3 + 600 : Nat) : Int)) := ⟨hG1, ho1, hs1.trans HS3.out, hr1, hc1, hm1⟩
              clear hz1 hG1 ho1 hs1 hr1 hc1 hm1 HBg HZ3
              refine ⟨_, rfl, HC12.out _ _ _ _ H5.out, ?_⟩
              simp only [Act.put, List.setIfInBounds_toArray, List.set_cons_succ, List.set_cons_zero]
              refine wpOrd_yield (v := .bool false) rfl (fun u _ => by go_simp) ?_
              simp only [Act.put, List.setIfInBounds_toArray, List.set_cons_succ, List.set_cons_zero]
              refine wpOrd_move rfl _ rfl ?_
              simp only [Act.put, List.setIfInBounds_toArray, List.set_cons_succ, List.set_cons_zero]
              refine wpOrd_move rfl _ rfl ?_
              simp only [Act.put, List.setIfInBounds_toArray, List.set_cons_succ, List.set_cons_zero]
              refine wpOrd_move rfl _ rfl ?_
              simp only [Act.put, List.setIfInBounds_toArray, List.set_cons_succ, List.set_cons_zero]
              refine wpOrd_move rfl _ rfl ?_
              simp only [Act.put, List.setIfInBounds_toArray, List.set_cons_succ, List.set_cons_zero]
              refine wpOrd_yield (v := .pointer (some ⟨q12, o12 + k3, none⟩)) rfl (fun u _ => exec_ix44 rfl rfl rfl (by omega)) ?_
              simp only [Act.put, List.setIfInBounds_toArray, List.set_cons_succ, List.set_cons_zero]
              refine wpOrd_yield (v := .int .i64 y) rfl (fun u hu => exec_ld3 rfl rfl hu) ?_
              simp only [Act.put, List.setIfInBounds_toArray, List.set_cons_succ, List.set_cons_zero]
              refine wpOrd_call rfl 16 _ _ rfl Try.call16 [.int .u8 9] rfl ?_
              refine (block_any 9 (by omega) _).mono ?_
              rintro e X2 ⟨rfl, hx2⟩
              have H6 := Hid.mk' (H5.out.later hx2)
              clear H5 hx2
              refine ⟨_, rfl, HC12.out _ _ _ _ H6.out, ?_⟩
              simp only [Act.put, List.setIfInBounds_toArray, List.set_cons_succ, List.set_cons_zero]
              have hc := H6.out.call fun ks h => h.wr (blkF_can (by omega : (0 : Int) ≤ 9 ∧ (9 : Int) ≤ 255)) (HN5.out.1.ref HN5.out.2.1) (k := y) ⟨by rw [HN5.out.1.xl]; exact hyr.1, by rw [HN5.out.1.xb]; exact hyr.2⟩ (by rw [HN5.out.2.2.2.1]; omega)
              have HC := Hid.mk' hc
              clear hc
              refine wpOrd_call rfl 15 _ _ rfl Try.call15 [.pointer (some ⟨g, 0, none⟩), .int .i64 y, .agg (blk (blkF 9))] rfl ?_
              refine HC.out.mono ?_
              rintro e X3 ⟨rfl, hz3⟩
              have H7 := Hid.mk' hz3
              have HN7 : Hid (Going j l i (wrX x1 y) t1 ∧ (wrX x1 y).opn = true ∧ (wrX x1 y).steps = ((1 + k3 : Nat) : Int) ∧ (wrX x1 y).commits ≤ ((k3 + 1 : Nat) : Int)) := by
                obtain ⟨_, _, _, _, w5, w6, w7, _⟩ := wrX_same x1 y
                obtain ⟨v1, v2, v3, v4, v5, v6⟩ := HN5.out
                exact ⟨v1.wr y, w5.trans v2, w6.trans v3, by rw [w7]; exact v5⟩
              clear hz3 HC H6
              refine ⟨_, rfl, HC12.out _ _ _ _ H7.out, ?_⟩
              simp only [Act.put, List.setIfInBounds_toArray, List.set_cons_succ, List.set_cons_zero]
              refine wpOrd_yield (v := .bool false) rfl (fun u _ => by go_simp) ?_
              simp only [Act.put, List.setIfInBounds_toArray, List.set_cons_succ, List.set_cons_zero]
              refine wpOrd_yield (v := .bool false) rfl (fun u _ => by go_simp) ?_
              simp only [Act.put, List.setIfInBounds_toArray, List.set_cons_succ, List.set_cons_zero]
              refine wpOrd_move rfl _ rfl ?_
              simp only [Act.put, List.setIfInBounds_toArray, List.set_cons_succ, List.set_cons_zero]
              refine wpOrd_move rfl _ rfl ?_
              simp only [Act.put, List.setIfInBounds_toArray, List.set_cons_succ, List.set_cons_zero]
              have hc := H7.out.call fun ks h => h.ends (HN7.out.1.ref HN7.out.2.1) (by rw [HN7.out.2.2.1]; omega)
              have HC := Hid.mk' hc
              clear hc
              refine wpOrd_call rfl 18 _ _ rfl Try.call18 [.pointer (some ⟨g, 0, none⟩)] rfl ?_
              refine HC.out.mono ?_
              rintro e X4 ⟨rfl, hz4⟩
              have H8 : Hid (ZX W1 X4 g d (endX (wrX x1 y)) t1 (fun z => if z = y then blkF 9 else bk z) (.slice (some ⟨q12, o12, none⟩) m c12) ord [] ∧ Going j l i (endX (wrX x1 y)) t1 ∧ (endX (wrX x1 y)).opn = false ∧ (endX (wrX x1 y)).steps = ((1 + (k3 + 1) : Nat) : Int) ∧ (endX (wrX x1 y)).commits ≤ ((k3 + 1 : Nat) : Int) ∧ t1.made ≤ ((600 * (k3 + 1) : Nat) : Int)) := ⟨hz4, HN7.out.1.turn rfl rfl rfl rfl, rfl, by show (wrX x1 y).steps + 1 = _; rw [HN7.out.2.2.1]; omega, HN7.out.2.2.2, by have := HN5.out.2.2.2.2.2; omega⟩
              clear hz4 HC H7 HN7 HN5
              refine ⟨_, rfl, HC12.out _ _ _ _ H8.out.1, ?_⟩
              simp only [Act.put, List.setIfInBounds_toArray, List.set_cons_succ, List.set_cons_zero]
              refine wpOrd_yield (v := .bool false) rfl (fun u _ => by go_simp) ?_
              simp only [Act.put, List.setIfInBounds_toArray, List.set_cons_succ, List.set_cons_zero]
              refine wpOrd_yield (v := .bool false) rfl (fun u _ => by go_simp) ?_
              simp only [Act.put, List.setIfInBounds_toArray, List.set_cons_succ, List.set_cons_zero]
              refine wpOrd_nil ?_
              go_wp2
              exact ⟨⟨k3 + 1, endX (wrX x1 y), t1, _, by omega, by go_num, H8.out⟩, by simp [intOf]; omega⟩
            · obtain rfl : k3 = m := by omega
              have HBk : Hid (Below w.heap.size w wr) := below_next (by have q := HB1.out; rw [← HQQ.out] at q; exact q) H3.out.1.below
              clear H3
              go_wp2
              go_ret
              exact ⟨rfl, HBk.out⟩
end Go.Proofs.Ytahaiciciljijab
