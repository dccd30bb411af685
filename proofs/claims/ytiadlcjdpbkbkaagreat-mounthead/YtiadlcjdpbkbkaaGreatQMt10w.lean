/- MountHead's walk: one block put in place; a header refused. -/
import Derived.Test.YtiadlcjdpbkbkaaGreatQMt10
namespace Go.Proofs.YtiadlcjdpbkbkaaGreat
open Go.RowKit Go.Maps
theorem neqBH (f : Nat → Int) (u : World) : (binOp .neq 47 (.agg (blk f)) (.agg (blk f))).run Tryz.prog u = .ok (.bool false) u := by
  have h := Go.Proofs.YtiadlcjdpbkbkaaGreatD.H.neq30 f f true ((Go.Proofs.YtiadlcjdpbkbkaaGreatD.sameB_iff f f).2 fun _ _ => rfl) u
  exact h
theorem blk_setS (f : Nat → Int) (i : Nat) (x : Int) : (blk f).setIfInBounds i (.int .u8 x) = blk (Go.Proofs.YtiadlcjdpbkbkaaGreatD.upd f i x) := by
  have h := Go.Proofs.YtiadlcjdpbkbkaaGreatD.blk_set f i x
  rwa [blkW, blkW] at h
set_option maxRecDepth 20000 in
set_option maxHeartbeats 8000000 in
theorem law_head (w : World) : Calls Tryz.prog 4 #[] w fun e w' => e = .returned (.bool true) ∧ Below w.heap.size w w' := by
  have hem := Go.Proofs.YtiadlcjdpbkbkaaGreatD.empty_ok (w := w) (W := w) (ks := []) (Below.refl _ _) (fun p hp => by cases hp)
  have HAw : Hid (∀ U : World, Calls Tryz.prog 8 #[] U fun e w' => e = .returned (.bool true) ∧ Below U.heap.size U w') := awake_ok
  have hof := Go.Proofs.YtiadlcjdpbkbkaaGreatD.of_small
  obtain ⟨hh, hhh⟩ : ∃ hh, Go.Proofs.YtiadlcjdpbkbkaaGreatD.hF = hh := ⟨_, rfl⟩
  obtain ⟨BH, hBH⟩ : ∃ BH, blk hh = BH := ⟨_, rfl⟩
  obtain ⟨BB, hBB⟩ : ∃ BB, blk Go.Proofs.YtiadlcjdpbkbkaaGreatD.bF = BB := ⟨_, rfl⟩
  obtain ⟨BN, hBN⟩ : ∃ BN, blk nought = BN := ⟨_, rfl⟩
  have HEn : Hid (∀ (U : World) (g : Nat), U.heap[g]? = some (.cells #[.int .i64 39] 3) → Calls Tryz.prog 22 #[.agg (Go.Proofs.YtiadlcjdpbkbkaaGreatD.layA 400 32 60), .agg #[.slice (some ⟨g, 0, none⟩) 1 1]] U fun e W' => e = .returned (.tuple #[.agg BH, .int .i64 0]) ∧ Below U.heap.size U W') := fun U g hg => by
    have h := Go.Proofs.YtiadlcjdpbkbkaaGreatD.enc_small hg
    rw [blkW, hhh, hBH] at h
    exact h
  have HI := Hid.mk' (Go.Proofs.YtiadlcjdpbkbkaaGreatD.layA_info 400 32 60)
  have HO := Hid.mk' (Go.Proofs.YtiadlcjdpbkbkaaGreatD.layA_one 400 32 60)
  have H9 : Hid (Go.Proofs.YtiadlcjdpbkbkaaGreatD.lay0R.size = (Go.Proofs.YtiadlcjdpbkbkaaGreatD.layA 400 32 60).size) := rfl
  have zl := Go.Proofs.YtiadlcjdpbkbkaaGreatD.zeroLyR
  have zb := zero77
  have HBx : Hid (∀ {o : Oper} {a : Act} {W : World} {x y u : Operand}, o.op = .build 47 #[(0, x), (1, y), (2, u)] → a.eval x = .int .u8 7 → a.eval y = .int .u8 8 → a.eval u = .int .u8 9 → (execOp a.eval o).run Tryz.prog W = .ok (.value (.agg BB)) W) := fun {o a W x y u} h1 h2 h3 h4 => by
    have h := Go.Proofs.YtiadlcjdpbkbkaaGreatD.exec_buildB3 (W := W) h1 h2 h3 h4
    rw [blkW, hBB] at h
    exact h
  have hneq := fun u => neqBH Go.Proofs.YtiadlcjdpbkbkaaGreatD.bF u
  rw [hBN] at zb
  rw [hBB] at hneq
  have HBI : Hid ((Tryz.prog.info? 47).map (·.size) = some BH.size ∧ BN.size = BH.size ∧ BH.all (·.oneCell') = true) := by rw [← hBH, ← hBN]; exact ⟨blk_info _, blk_two _ _, blk_one _⟩
  have HBB : Hid ((Tryz.prog.info? 47).map (·.size) = some BB.size ∧ BN.size = BB.size ∧ BB.all (·.oneCell') = true) := by rw [← hBB, ← hBN]; exact ⟨blk_info _, blk_two _ _, blk_one _⟩
  have HW2 : Hid (∀ V d ks M bk r, Go.Proofs.YtiadlcjdpbkbkaaGreatD.Dk w V d ks M bk (r + 1) → Calls Tryz.prog 23 #[.pointer (some ⟨d, 0, none⟩), .int .i64 2, .agg BB] V fun e W' => e = .returned (.int .i64 0) ∧ Go.Proofs.YtiadlcjdpbkbkaaGreatD.Dk w W' d ks (M + 1) (fun j => if 2 = j then Go.Proofs.YtiadlcjdpbkbkaaGreatD.bF else bk j) r) := fun V d ks M bk r hV => by
    rw [← hBB]
    exact hV.write (by omega) Go.Proofs.YtiadlcjdpbkbkaaGreatD.bF_can
  have HW1 : Hid (∀ V d ks M bk r, Go.Proofs.YtiadlcjdpbkbkaaGreatD.Dk w V d ks M bk (r + 1) → Calls Tryz.prog 23 #[.pointer (some ⟨d, 0, none⟩), .int .i64 1, .agg BH] V fun e W' => e = .returned (.int .i64 0) ∧ Go.Proofs.YtiadlcjdpbkbkaaGreatD.Dk w W' d ks (M + 1) (fun j => if 1 = j then hh else bk j) r) := fun V d ks M bk r hV => by
    rw [← hBH, ← hhh]
    exact hV.write (by omega) Go.Proofs.YtiadlcjdpbkbkaaGreatD.hF_can
  obtain ⟨BC, hBC⟩ : ∃ BC, blk Go.Proofs.YtiadlcjdpbkbkaaGreatD.cF = BC := ⟨_, rfl⟩
  have HBC : Hid ((Tryz.prog.info? 47).map (·.size) = some BC.size) := by rw [← hBC]; exact blk_info _
  have HW3 : Hid (∀ V d ks M bk r, Go.Proofs.YtiadlcjdpbkbkaaGreatD.Dk w V d ks M bk (r + 1) → Calls Tryz.prog 23 #[.pointer (some ⟨d, 0, none⟩), .int .i64 1, .agg BC] V fun e W' => e = .returned (.int .i64 0) ∧ Go.Proofs.YtiadlcjdpbkbkaaGreatD.Dk w W' d ks (M + 1) (fun j => if 1 = j then Go.Proofs.YtiadlcjdpbkbkaaGreatD.cF else bk j) r) := fun V d ks M bk r hV => by
    rw [← hBC]
    exact hV.write (by omega) Go.Proofs.YtiadlcjdpbkbkaaGreatD.cF_can
  have HBCe : Hid (blk (Go.Proofs.YtiadlcjdpbkbkaaGreatD.cK 1023) = BC) := hBC
  clear hBC
  have HBH : Hid (blk Go.Proofs.YtiadlcjdpbkbkaaGreatD.hF = BH) := by rw [hhh]; exact hBH
  have HBe : Hid (blk Go.Proofs.YtiadlcjdpbkbkaaGreatD.bF = BB) := hBB
  have HHH : Hid (Go.Proofs.YtiadlcjdpbkbkaaGreatD.hF = hh) := hhh
  clear hBH hBB hBN hhh
  generalize Go.Proofs.YtiadlcjdpbkbkaaGreatD.layA 400 32 60 = LA at *
  generalize Go.Proofs.YtiadlcjdpbkbkaaGreatD.lay0R = L0 at *
  go_enter Tryz.func4, Tryz.ntmps4
  go_wp2_with (go_at_call 6; fail)
  refine hem.mono ?_
  rintro e W1 ⟨d, rfl, h1⟩
  have H1 := Hid.mk' (Go.Proofs.YtiadlcjdpbkbkaaGreatD.dk_new h1)
  clear hem h1
  generalize Go.Proofs.YtiadlcjdpbkbkaaGreatD.curV Go.Proofs.YtiadlcjdpbkbkaaGreatD.tE = b0 at *
  go_wp2_with (go_at_call 21; fail)
  refine (hof _).mono ?_
  rintro e W2 ⟨rfl, hb2⟩
  have hrow := heap_alloc_new W2 (.cells LA 43)
  have hint := heap_alloc_new (W2.alloc (.cells LA 43)) (.cells #[.int .i64 39] 3)
  have H2 := Hid.mk' ((H1.out.1.later hb2).later (below_next (below_new W2 (.cells LA 43)) (below_new (W2.alloc (.cells LA 43)) (.cells #[.int .i64 39] 3))))
  have HF0 := Hid.mk' H1.out.2
  rw [World.size_alloc] at hint
  have hen := HEn.out _ _ hint
  clear hof hb2 H1 HEn hint
  go_wp2_with (first | (with_reducible refine isStoreR 43 ?_; refine wpList_stNew 43 rfl _ _ rfl W2.heap.size LA L0 43 HI.out H9.out HO.out rfl rfl rfl ?_) | (with_reducible refine isLoadR 43 ?_; refine wpList_ldR 43 Tryz.underlying43 rfl rfl _ rfl W2.heap.size rfl LA 43 (0, 0) HI.out hrow ?_) | (go_at_call 22; fail))
  refine hen.mono ?_
  rintro e W3 ⟨rfl, hb3⟩
  have h3 := (H2.out.later hb3).add (.cells BH 47)
  have H3 := Hid.mk' h3
  have haw := HAw.out (W3.alloc (.cells BH 47))
  clear hen hb3 h3 H2 hrow HAw HI HO H9
  go_wp2_with (first | (with_reducible refine isStoreR 47 ?_; refine wpList_stNew 47 rfl _ _ rfl W3.heap.size BH BN 47 HBI.out.1 HBI.out.2.1 HBI.out.2.2 rfl rfl rfl ?_) | (go_at_call 8; fail))
  refine haw.mono ?_
  rintro e W4 ⟨rfl, hb4⟩
  have H4 := Hid.mk' (H3.out.later hb4)
  clear haw hb4 H3
  generalize W3.heap.size = gb at *
  have hw2 := HW2.out _ _ _ _ _ _ H4.out
  clear HW2
  go_wp2_with (first | (with_reducible refine isBuildR 47 ?_; refine wpList_ex rfl (HBx.out rfl rfl rfl rfl) ?_) | (go_at_call 23; fail))
  refine hw2.mono ?_
  rintro e W5 ⟨rfl, h5⟩
  have hr := h5.blk (List.mem_cons_self ..)
  have hw1 := HW1.out _ _ _ _ _ _ h5
  clear hw2 h5 H4
  go_wp2_with (first | (with_reducible refine isLoadR 47 ?_; refine wpList_ldR 47 Tryz.underlying47 rfl rfl _ rfl gb rfl BH 47 (0, 0) HBI.out.1 hr ?_) | (go_at_call 23; fail))
  refine hw1.mono ?_
  rintro e W6 ⟨rfl, h6⟩
  have hba := h6.bar
  clear hw1 h6 hr HW1
  go_wp2_with (go_at_call 11; fail)
  refine hba.mono ?_
  rintro e W7 ⟨rfl, h7⟩
  have H7 := Hid.mk' h7
  have hmd := h7.made
  clear hba h7
  go_wp2_with (go_at_call 12; refine hmd.mono ?_; rintro e W8 ⟨rfl, rfl⟩)
  have hpt := (H7.out.le (q := 3000) (by omega)).put ((HF0.out.set (.inr rfl) Go.Proofs.YtiadlcjdpbkbkaaGreatD.bF).set (.inl rfl) hh) ((if_pos rfl).trans HHH.out.symm)
  clear hmd H7 HF0
  go_wp2_with (go_at_call 9; fail)
  refine hpt.mono ?_
  rintro e W9 ⟨gv, book, rfl, h9, hf9, hb39⟩
  have HF9 := Hid.mk' hf9
  have hbB : blk (book 39) = BB := by
    rw [hb39]
    exact HBe.out
  have hrd := h9.read (k := 39) (r := 900) (by omega)
  rw [hbB] at hrd
  clear hpt h9 hf9 hb39 hbB
  go_wp2_with (go_at_call 24; fail)
  refine hrd.mono ?_
  rintro e W10 ⟨rfl, h10⟩
  have h11 := h10.add (.cells BB 47)
  have hrp := h11.blk (List.mem_cons_self ..)
  have hrb := h11.blk (List.mem_cons_of_mem _ (List.mem_cons_self ..))
  have hmd := h11.made
  have H11 := Hid.mk' h11
  clear hrd h10 h11
  go_wp2_with (first | (with_reducible refine isStoreR 47 ?_; refine wpList_stNew 47 rfl _ _ rfl W10.heap.size BB BN 47 HBB.out.1 HBB.out.2.1 HBB.out.2.2 rfl rfl rfl ?_) | (with_reducible refine isLoadR 47 ?_; refine wpList_ldR 47 Tryz.underlying47 rfl rfl _ rfl W10.heap.size rfl BB 47 (0, 0) HBB.out.1 hrp ?_) | (with_reducible refine isBuildR 47 ?_; refine wpList_ex rfl (HBx.out rfl rfl rfl rfl) ?_) | (go_at_call 12; fail))
  refine hmd.mono ?_
  rintro e V ⟨rfl, hV⟩
  obtain rfl := hV.symm
  clear hmd hrp hneq HBx
  have HSz := Hid.mk' H11.out.below.size
  generalize W10.alloc (.cells BB 47) = V at *
  have h12 := H11.out.add (.cells BH 47)
  have HC := Hid.mk' (h12.drop (ks' := [(V.heap.size, .cells BH 47)]) fun p hp => by rw [List.mem_singleton.1 hp]; exact List.mem_cons_self ..)
  clear h12 H11
  go_wp2_with (first | (with_reducible refine isLoadR 47 ?_; refine wpList_ldR 47 Tryz.underlying47 rfl rfl _ rfl gb rfl BH 47 (0, 0) HBI.out.1 hrb ?_) | (with_reducible refine isStoreR 47 ?_; refine wpList_stNew 47 rfl _ _ rfl V.heap.size BH BN 47 HBI.out.1 HBI.out.2.1 HBI.out.2.2 rfl rfl rfl ?_))
  have HGe : Hid (w.heap.size ≤ V.heap.size) := HSz.out
  generalize V.alloc (.cells BH 47) = X at *
  generalize V.heap.size = gc at *
  clear hrb
  go_loopw [11] (fun s11 wx => ∃ k : Nat, k ≤ 1023 ∧ s11 = .int .i64 (k : Int) ∧ Hid (Go.Proofs.YtiadlcjdpbkbkaaGreatD.Dk w wx d [(gc, .cells (blk (Go.Proofs.YtiadlcjdpbkbkaaGreatD.cK k)) 47)] (12 + 1 + 1 + 1 + 4) book 900)) (fun s11 _ => 1023 - (intOf s11).toNat)
  case atStart => exact ⟨0, by omega, rfl, by rw [Go.Proofs.YtiadlcjdpbkbkaaGreatD.cK_zero, HBH.out]; exact HC.out⟩
  case round =>
    obtain ⟨k, hk, rfl, HK⟩ := hrel
    have e1 : IntKind.i64.wrap ((k : Int) + 1) = ((k + 1 : Nat) : Int) := by rw [IntKind.wrap_i64]; omega
    by_cases h1 : k < 1023
    · have t1 : decide (((k + 1 : Nat) : Int) < 1024) = true := decide_eq_true (by omega)
      have hrow := HK.out.blk (List.mem_cons_self ..)
      have ck : wr.cell? ⟨gc, k, none⟩ = some (.int .u8 (Go.Proofs.YtiadlcjdpbkbkaaGreatD.hF k)) := (Joins.cell_of_block hrow k).trans ((blk_got _ k (by omega)).trans (by rw [Go.Proofs.YtiadlcjdpbkbkaaGreatD.cK_at]))
      have ff : wr.frozen? ⟨gc, k, none⟩ = false := Go.Proofs.YtiadlcjdpbkbkaaGreatD.H.frozen_row hrow k
      by_cases h39 : Go.Proofs.YtiadlcjdpbkbkaaGreatD.hF k = 39
      · rw [h39] at ck
        have HN : Hid (Go.Proofs.YtiadlcjdpbkbkaaGreatD.Dk w (wr.setCell ⟨gc, k, none⟩ (.int .u8 5)) d [(gc, .cells (blk (Go.Proofs.YtiadlcjdpbkbkaaGreatD.cK (k + 1))) 47)] (12 + 1 + 1 + 1 + 4) book 900) :=
          HK.out.swap (Go.Proofs.YtiadlcjdpbkbkaaGreatD.Fr.setCell wr gc k (.int .u8 5)) HGe.out (fun p hp => by cases hp) (by rw [heap_setCell_same _ _ _ _ _ _ hrow, blk_setS, Go.Proofs.YtiadlcjdpbkbkaaGreatD.cK_put h39])
        clear hrow h39 HK
        go_wp2
        exact ⟨⟨k + 1, by omega, rfl, HN⟩, by simp [intOf]; omega⟩
      · have b39 : (Go.Proofs.YtiadlcjdpbkbkaaGreatD.hF k == 39) = false := beq_eq_false_iff_ne.2 h39
        rw [← Go.Proofs.YtiadlcjdpbkbkaaGreatD.cK_skip h39] at HK
        clear hrow ff h39
        generalize Go.Proofs.YtiadlcjdpbkbkaaGreatD.hF k = z at *
        go_wp2
        exact ⟨⟨k + 1, by omega, rfl, HK⟩, by simp [intOf]; omega⟩
    · obtain rfl : k = 1023 := by omega
      have t1 : decide (((1023 + 1 : Nat) : Int) < 1024) = false := by decide
      rw [HBCe.out] at HK
      have hrow := HK.out.blk (List.mem_cons_self ..)
      have hw := HW3.out _ _ _ _ _ _ HK.out
      clear HK HW3 HBCe
      go_wp2_with (first | (with_reducible refine isLoadR 47 ?_; refine wpList_ldR 47 Tryz.underlying47 rfl rfl _ rfl gc rfl BC 47 (0, 0) HBC.out hrow ?_) | (go_at_call 23; fail))
      refine hw.mono ?_
      rintro e Y1 ⟨rfl, y1⟩
      have hba := y1.bar
      clear hw y1 hrow
      go_wp2_with (go_at_call 11; fail)
      refine hba.mono ?_
      rintro e Y2 ⟨rfl, y2⟩
      have hmd := y2.made
      have hrf := (y2.le (q := 100) (by omega)).refuse (HF9.out.set (.inl rfl) Go.Proofs.YtiadlcjdpbkbkaaGreatD.cF) (if_pos rfl)
      clear hba y2 HF9
      go_wp2_with (go_at_call 12; refine hmd.mono ?_; rintro e Y3 ⟨rfl, rfl⟩)
      refine hrf.mono ?_
      rintro e Y4 ⟨rfl, y4⟩
      have hm2 := y4.made
      have HB := Hid.mk' y4.below
      clear hmd hrf y4
      go_wp2_with (go_at_call 12; refine hm2.mono ?_; rintro e Y5 ⟨rfl, rfl⟩)
      go_ret
      exact ⟨rfl, HB.out⟩
end Go.Proofs.YtiadlcjdpbkbkaaGreat
