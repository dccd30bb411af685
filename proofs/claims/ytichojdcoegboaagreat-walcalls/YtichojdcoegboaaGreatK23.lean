/- Several texts joined: the log, its cache and its disk, of the program and of the document; no condition. -/
import Derived.Test.YtichojdcoegboaaGreatK22
import Derived.Deep.Cut
import Derived.Deep.CutRange
namespace Go.Proofs.YtichojdcoegboaaGreatW
open Go.RowKit Go.Maps
variable {w W : World} {g d c mb : Nat} {v : Value} {x : LSt} {s : CSt} {t : St} {os ks : List (Nat × Obj)} {base : Nat} {book : Int → Nat → Int}
def noPanic (Q : Exit → Act → World → Prop) : Exit → Act → World → Prop := fun e a w => match e with
 | .panic _ => False
 | e' => Q e' a w
theorem noPanic_normal {Q : Exit → Act → World → Prop} {a : Act} {u : World} (h : Q .normal a u) : noPanic Q .normal a u := h
theorem wp_calm {P : Program} {c : Code} {Q : Exit → Act → World → Prop} {a : Act} {u : World} (h : c.wp P (noPanic Q) a u) : c.wp P Q a u := Code.wp_mono (fun e a w q => by
 cases e
 case panic => exact q.elim
 all_goals exact q) h
theorem Inv.may (h : Inv x s t book) : H.mayB (1 + x.l) x.b (x.l - 1) x.blocks = true := decide_eq_true ⟨h.len, h.rng, h.nd⟩
theorem Inv.dats (h : Inv x s t book) : ∀ k ∈ x.blocks, Dat x.b x.l k := fun k hk => h.dat (h.rng k hk)
theorem Inv.encodes (h : Inv x s t book) (hL : LS w W g d c mb v x s t os ks) {p : Option Addr} {cp : Nat} (hv : v = .slice p x.blocks.length cp) {V : World} (hb : Below W.heap.size W V) :
  Calls Tryz.prog 103 #[.agg (layA x.b x.l x.i), .agg #[.slice p x.blocks.length cp]] V fun e W' => e = .returned (.tuple #[.agg (blk (H.headF x.blocks)), .int .i64 0]) ∧ Below V.heap.size V W' := by
 obtain ⟨p', cp', hv', hints, _, _⟩ := (hL.later hb).log.own.ints
 rw [hv] at hv'
 injection hv' with hv' _ h3
 subst hv' h3
 have hf := h.fine
 have hlen := h.len
 have hst : H.standsB x.b x.l x.i 1 (1 + x.l) (H.nodeB x.i) (H.bitsAt x.l x.i) (H.bitsB x.b) (H.dataAt x.b x.l x.i) = true := decide_eq_true ⟨hf, rfl, rfl, rfl, rfl, rfl, rfl⟩
 have hP : H.MayP (1 + x.l) x.b (x.l - 1) x.blocks := ⟨h.len, h.rng, h.nd⟩
 have hpos := H.Fine.pos hf
 exact H.enc_ok x.b x.l x.i 1 (1 + x.l) (H.nodeB x.i) (H.bitsAt x.l x.i) (H.bitsB x.b) (H.dataAt x.b x.l x.i) x.blocks p cp V (by unfold H.I64; omega) hst ⟨hf.1, hf.2.1⟩ hints (hP.u (by omega) (by omega)) (by omega) h.may
theorem LS.addNew {W' : World} {q : Nat} {o : Obj} (h : LS w W g d c mb v x s t os ks) (hb : Below W.heap.size W W') (hq : W.heap.size ≤ q) (ho : W'.heap[q]? = some o) : LS w W' g d c mb v x s t os ((q, o) :: ks) := by
 have hl := h.later hb
 refine ⟨h.sit.turn (T := fun _ => False) (Fr.ofBelow hb) (fun _ q => q.elim) fun p hp => ?_, hl.log, h.own, fun p hp => ?_⟩
 ·rcases List.mem_append.1 hp with hp | hp
  ·exact ⟨hl.sit.blk (List.mem_append.2 (.inl hp)), .inl ⟨p.2, List.mem_append.2 (.inl hp)⟩⟩
  ·rcases List.mem_cons.1 hp with rfl | hp
   ·exact ⟨ho, .inr hq⟩
   ·exact ⟨hl.sit.blk (List.mem_append.2 (.inr hp)), .inl ⟨p.2, List.mem_append.2 (.inr hp)⟩⟩
 ·rcases List.mem_cons.1 hp with rfl | hp
  ·intro q2
   have := h.log.lt _ q2
   simp only at this
   omega
  ·exact h.ap p hp
def CmtPost (w : World) (g d : Nat) (x : LSt) (t : St) (book : Int → Nat → Int) (ks : List (Nat × Obj)) (e : Ending) (W' : World) : Prop :=
 e = .returned (.int .i64 (runE (cmtOps x book) t)) ∧ (∃ x' s', LogSit w W' g d x' s' (runV (cmtOps x book) t) ks ∧ x'.claim = x.claim) ∧ (runE (cmtOps x book) t = 0 → LogI w W' g d { forgotL x with commits := x.commits + 1 } (runV (cmtOps x book) t) book ks)
theorem cmt_bad {E : Int} {T : St} {W3 : World} {s3 : CSt} {x3 : LSt} {ks' : List (Nat × Obj)} (h : LogSit w W3 g d x3 s3 T ks') (hks : ∀ p ∈ ks, p ∈ ks') (hc : x3.claim = x.claim) (hE : runE (cmtOps x book) t = E) (hT : runV (cmtOps x book) t = T) (h0 : E ≠ 0) : CmtPost w g d x t book ks (.returned (.int .i64 E)) (forgotW W3 g) := by
 obtain ⟨c, mb, v, os, h⟩ := h
 refine ⟨by rw [hE], ⟨forgotL x3, s3, ?_, hc⟩, fun q => absurd (hE.symm.trans q) h0⟩
 rw [hT]
 exact h.forgot.drop hks
theorem cmt_fine {T : St} {W3 : World} {s3 : CSt} {ks' : List (Nat × Obj)} (hI : Inv x s t book) (h : LogSit w W3 g d { x with commits := x.commits + 1 } s3 T ks') (hks : ∀ p ∈ ks, p ∈ ks') (hE : runE (cmtOps x book) t = 0) (hT : runV (cmtOps x book) t = T) (hC : CInv x.b x.l s3 T book (fun _ => false)) (hf : (fastN s3.row : Int) = 0) (hcm : x.commits < 1099511627776) : CmtPost w g d x t book ks (.returned (.int .i64 0)) (forgotW W3 g) := by
 obtain ⟨c, mb, v, os, h⟩ := h
 have h1 := h.forgot.drop hks
 refine ⟨by rw [hE], ⟨forgotL { x with commits := x.commits + 1 }, s3, by rw [hT]; exact h1, rfl⟩, fun _ => ?_⟩
 rw [hT]
 refine ⟨s3, h1, hI.fine, ?_, List.nodup_nil, fun k hk => by simp [forgotL] at hk, hf, fun k => ⟨fun _ => by simp [forgotL], fun _ => rfl⟩, ?_, hI.steps, ⟨by have := hI.commits; show 0 ≤ x.commits + 1; omega, by show x.commits + 1 ≤ _; omega⟩, hI.room, ?_⟩
 ·have : inB { forgotL x with commits := x.commits + 1 } = fun _ => false := by funext k; simp [inB, forgotL]
  rw [this]
  exact hC
 ·have := hI.fine.1
  show ((0 : Nat) : Int) ≤ x.l - 1
  omega
 ·intro ho
  have := hI.more ho
  show ((0 : Nat) : Int) + x.room ≤ x.l - 1
  omega
theorem LogSit.c17 (h : LogSit w W g d x s t ks) : W.cell? ⟨g, 17, none⟩ = some (.int .i64 x.commits) ∧ W.frozen? ⟨g, 17, none⟩ = false := by
 obtain ⟨c, mb, v, os, h⟩ := h
 exact ⟨h.log.c17, h.log.free 17⟩
set_option maxRecDepth 20000 in
set_option maxHeartbeats 4000000 in
theorem LS.commit (h : LS w W g d c mb v x s t os ks) (hI : Inv x s t book) (hs : t.stopped = false) (hrm : Rm t (2 * x.blocks.length + 12)) (hcm : x.commits < 1099511627776) :
  Calls Tryz.prog 76 #[ptr g] W (CmtPost w g d x t book ks) := by
 obtain ⟨p, cp, hv, hints, _, _⟩ := h.log.own.ints
 have hrow := h.log.row
 have HEn : Hid (∀ V, Below W.heap.size W V → Calls Tryz.prog 103 #[.agg (layA x.b x.l x.i), .agg #[.slice p x.blocks.length cp]] V fun e W' => e = .returned (.tuple #[.agg (blk (H.headF x.blocks)), .int .i64 0]) ∧ Below V.heap.size V W') := fun V hb => hI.encodes h hv hb
 have HLS := Hid.mk' h
 clear h hints
 subst hv
 generalize hn : x.blocks.length = n at HEn hrm
 generalize hFF : H.headF x.blocks = F at HEn
 rw [hn] at hrow HLS
 unfold ptr at *
 go_enter_defers Tryz.func76, Tryz.ntmps76
 go_upto_region 2 with fail
 go_cut [3, 4, 8] from 9 to 21 (fun s3 s4 _ wc => ∃ gB : Nat, s3 = .pointer (some ⟨gB, 0, none⟩) ∧ s4 = .int .i64 0 ∧ True ∧ W.heap.size ≤ gB ∧ wc.heap[gB]? = some (.cells (blk F) 64) ∧ Below W.heap.size W wc)
 case first =>
  refine wp_calm ?_
  refine wp_region_plan (S := fun u => Below W.heap.size W u) 17 [.inl 0, .inl 1, .inl 2, .inl 3, .inl 4, .inl 5, .inl 6, .inl 7, .inl 8, .inl 9, .inr (.inr (10, 14, 6)), .inl 11, .inl 12, .inl 13, .inr (.inl 14), .inr (.inl 15), .inl 16, .inr (.inl 10), .inl 11, .inl 12, .inl 13, .inr (.inl 15), .inl 16] (by kernel_rfl) rfl (by kernel_rfl) (fun _ _ _ _ _ h => h) (H.drew_below W) ?_
  refine wpPl_yield (v := .pointer (some ⟨g, 0, none⟩)) rfl rfl (fun u _ => by simp [execOp, Act.eval]) ?_
  simp only [Act.put, pA, pB, pC]
  refine wpPl_yield (v := .pointer (some ⟨g, 0, none⟩)) rfl rfl (fun u _ => by go_simp) ?_
  simp only [Act.put, pA, pB, pC]
  refine wpPl_yield (v := .pointer (some ⟨g, 3, none⟩)) rfl rfl (fun u _ => by go_simp) ?_
  simp only [Act.put, pA, pB, pC]
  refine wpPl_yield (v := .agg (layA x.b x.l x.i)) rfl rfl (fun u hu => exec_loadLay rfl rfl (heap_kept hrow hu)) ?_
  simp only [Act.put, pA, pB, pC]
  refine wpPl_yield (v := .pointer (some ⟨g, 0, none⟩)) rfl rfl (fun u _ => by simp [execOp, Act.eval]) ?_
  simp only [Act.put, pA, pB, pC]
  refine wpPl_yield (v := .pointer (some ⟨g, 0, none⟩)) rfl rfl (fun u _ => by go_simp) ?_
  simp only [Act.put, pA, pB, pC]
  refine wpPl_yield (v := .pointer (some ⟨g, 13, none⟩)) rfl rfl (fun u _ => by go_simp) ?_
  simp only [Act.put, pA, pB, pC]
  refine wpPl_yield (v := .pointer (some ⟨g, 13, none⟩)) rfl rfl (fun u _ => by go_simp) ?_
  simp only [Act.put, pA, pB, pC]
  refine wpPl_yield (v := .slice p n cp) rfl rfl (fun u hu => by have c13 : u.cell? ⟨g, 13, none⟩ = some (.slice p n cp) := Joins.cell_of_block (heap_kept hrow hu) 13; go_simp) ?_
  simp only [Act.put, pA, pB, pC]
  refine wpPl_yield (v := .agg #[.slice p n cp]) rfl rfl (fun u _ => by go_simp) ?_
  simp only [Act.put, pA, pB, pC]
  have hq := H.drew_below W
  generalize W.drew = V at *
  refine wpPl_two (r1 := [.inl 11, .inl 12, .inl 13, .inr (.inl 14), .inr (.inl 15), .inl 16]) (r2 := [.inr (.inl 10), .inl 11, .inl 12, .inl 13, .inr (.inl 15), .inl 16]) rfl rfl ?_ ?_ rfl rfl
  ·refine act_call rfl 103 _ _ rfl Tryz.call103 [.agg (layA x.b x.l x.i), .agg #[.slice p n cp]] rfl ?_
   refine (HEn.out V hq).mono ?_
   rintro e' Y ⟨rfl, hbY⟩
   have hqY := below_next hq hbY
   refine ⟨_, rfl, hqY, ?_⟩
   simp only [Act.put, pA, pB, pC]
   refine wpPl_yield (v := .tuple #[.agg (blk F), .int .i64 0]) rfl rfl (fun u _ => by simp [execOp, Act.eval]) ?_
   simp only [Act.put, pA, pB, pC]
   refine wpPl_yield (v := .agg (blk F)) rfl rfl (fun u _ => by go_simp) ?_
   simp only [Act.put, pA, pB, pC]
   refine wpPl_yield (v := .int .i64 0) rfl rfl (fun u _ => by go_simp) ?_
   simp only [Act.put, pA, pB, pC]
   refine wpPl_act rfl (act_makes rfl (H.exec_allocB rfl) (hqY.alloc hqY.size _) ?_)
   simp only [Act.put, pA, pB, pC]
   have hgA := heap_alloc_new Y (.cells (blk nought) 64)
   have hge := hqY.size
   have hqA : Below W.heap.size W (Y.alloc (.cells (blk nought) 64)) := hqY.alloc hqY.size _
   refine wpPl_act rfl (H.act_done rfl (H.exec_storeB rfl Y.heap.size F _ rfl rfl hgA) (below_setRow hqA hge _) ?_)
   simp only [Act.put]
   refine wpPl_yield (v := .int .i64 0) rfl rfl (fun u _ => by simp [execOp, Act.eval]) ?_
   simp only [Act.put, pA, pB, pC]
   refine wpPl_done (noPanic_normal ?_)
   have hZ := setRow_heap (Y.alloc (.cells (blk nought) 64)) (Y.heap.size) (blk nought) (blk F) 64 (0, 0) hgA
   have HZ : Hid (Below W.heap.size W ((Y.alloc (.cells (blk nought) 64)).setRow (Y.heap.size) (blk F))) := below_setRow hqA hge _
   go_wp2_with fail
   go_meet
   case rel => exact ⟨_, rfl, rfl, trivial, hge, hZ, HZ.out⟩
  ·refine act_makes rfl (H.exec_allocB rfl) (hq.alloc hq.size _) ?_
   simp only [Act.put, pA, pB, pC]
   have hgA := heap_alloc_new V (.cells (blk nought) 64)
   have hge := hq.size
   have hqA : Below W.heap.size W (V.alloc (.cells (blk nought) 64)) := hq.alloc hq.size _
   refine wpPl_act rfl ?_
   refine act_call rfl 103 _ _ rfl Tryz.call103 [.agg (layA x.b x.l x.i), .agg #[.slice p n cp]] rfl ?_
   refine (HEn.out _ hqA).mono ?_
   rintro e' Y ⟨rfl, hbY⟩
   have hqY := below_next hqA hbY
   refine ⟨_, rfl, hqY, ?_⟩
   simp only [Act.put, pA, pB, pC]
   refine wpPl_yield (v := .tuple #[.agg (blk F), .int .i64 0]) rfl rfl (fun u _ => by simp [execOp, Act.eval]) ?_
   simp only [Act.put, pA, pB, pC]
   refine wpPl_yield (v := .agg (blk F)) rfl rfl (fun u _ => by go_simp) ?_
   simp only [Act.put, pA, pB, pC]
   refine wpPl_yield (v := .int .i64 0) rfl rfl (fun u _ => by go_simp) ?_
   simp only [Act.put, pA, pB, pC]
   refine wpPl_act rfl (H.act_done rfl (H.exec_storeB rfl V.heap.size F _ rfl rfl (heap_kept hgA hbY)) (below_setRow hqY hge _) ?_)
   simp only [Act.put]
   refine wpPl_yield (v := .int .i64 0) rfl rfl (fun u _ => by simp [execOp, Act.eval]) ?_
   simp only [Act.put, pA, pB, pC]
   refine wpPl_done (noPanic_normal ?_)
   have hZ := setRow_heap Y (V.heap.size) (blk nought) (blk F) 64 (0, 0) (heap_kept hgA hbY)
   have HZ : Hid (Below W.heap.size W (Y.setRow (V.heap.size) (blk F))) := below_setRow hqY hge _
   go_wp2_with fail
   go_meet
   case rel => exact ⟨_, rfl, rfl, trivial, hge, hZ, HZ.out⟩
 case rest =>
  obtain ⟨gB, rfl, rfl, _, hge, hgB, hbc⟩ := hcut
  have hL1 := HLS.out.addNew hbc hge hgB
  subst hn
  have hrmA : Rm t (x.blocks.length + 2) := hrm.le (by omega)
  have hl256 := hI.fine.2.1
  have HA := Hid.mk' (hL1.toLog hI.c hI.fast hs hI.len hI.dats hrmA hl256)
  have HX : Hid (Rm t (2 * x.blocks.length + 12) ∧ Inv x s t book ∧ t.stopped = false ∧ x.commits < 1099511627776 ∧ H.headF x.blocks = F) := ⟨hrm, hI, hs, hcm, hFF⟩
  clear hL1 HLS HEn hrow hgB hge hbc hrmA hrm hI hs hcm hl256 hFF
  unfold ptr at HA
  change Hid (Calls _ _ _ _ fun e W' => e = .returned (.int .i64 (runE (opsA x book) t)) ∧ ∃ s', LS w W' g d c mb (.slice p x.blocks.length cp) x s' (runV (opsA x book) t) os ((gB, .cells (blk F) 64) :: ks) ∧ (runE (opsA x book) t = 0 → CInv x.b x.l s' (runV (opsA x book) t) book (inB x) ∧ (fastN s'.row : Int) = x.blocks.length)) at HA
  by_cases hA : runE (opsA x book) t = 0
  ·rw [hA] at HA
   go_wp2_with (go_at_call 105; fail)
   refine HA.out.mono ?_
   rintro e W3 ⟨rfl, s1, h1, h1b⟩
   obtain ⟨hC1, hf1⟩ := h1b (by trivial)
   have hrow3 := h1.log.row
   have c1 : W3.cell? ⟨g, 1, none⟩ = some (.pointer (some ⟨d, 0, none⟩)) := h1.log.c1
   have hgB3 : BlkAt W3 gB 0 F := BlkAt.of (h1.sit.blk (List.mem_append.2 (.inr (List.mem_cons_self ..))))
   have hrmB : Rm (runV (opsA x book) t) (x.blocks.length + 10) := Rm.run (HX.out.1.le (by rw [opsA_len]; omega))
   have hlv1 := run_live _ _ HX.out.2.2.1 hA
   have hcF : Can F := by rw [← HX.out.2.2.2.2]; exact headF_can (by have := HX.out.2.1.len; have := HX.out.2.1.fine.2.1; omega)
   have hok1 := h1.sit.ok.2
   have HB := Hid.mk' ((show LogSit w W3 g d x s1 (runV (opsA x book) t) ((gB, .cells (blk F) 64) :: ks) from ⟨c, mb, _, os, h1⟩).drew.setHeader x.b x.l x.i hcF (hrmB.le (by omega)))
   have hBB : [some (1, F), none] = opsB x := by unfold opsB; rw [HX.out.2.2.2.2]
   rw [hBB] at HB
   have HC1 : Hid (CInv x.b x.l s1 (runV (opsA x book) t) book (inB x) ∧ (fastN s1.row : Int) = x.blocks.length ∧ Ok (runV (opsA x book) t) ∧ Can F ∧ (runV (opsA x book) t).stopped = false ∧ Rm (runV (opsA x book) t) (x.blocks.length + 10) ∧ [some (1, F), none] = opsB x) := ⟨hC1, hf1, hok1, hcF, hlv1, hrmB, hBB⟩
   clear hC1 hf1 h1b hlv1 hrmB hcF hok1 hBB h1 HA
   unfold ptr at HB
   obtain ⟨eT, vT⟩ := cmt_B hA
   have HT : Hid (runE (cmtOps x book) t = runE (opsB x ++ (opsC x book ++ opsD)) (runV (opsA x book) t) ∧ runV (cmtOps x book) t = runV (opsB x ++ (opsC x book ++ opsD)) (runV (opsA x book) t)) := ⟨eT, vT⟩
   clear eT vT hA
   generalize runV (opsA x book) t = t1 at *
   go_wp2
   go_still_tail 9, (by kernel_rfl)
   refine wpStill_loadLay rfl (.tmp 34) rfl rfl hrow3 ?_
   repeat still_step
   refine wpStill_loadM rfl (.tmp 3) rfl gB 0 rfl F hgB3 ?_
   repeat still_step
   refine wpStill_nil ?_
   change wpList _ _ _ _ _ (World.drew _)
   clear hrow3 hgB3 c1
   by_cases hB : runE (opsB x) t1 = 0
   ·rw [hB] at HB
    go_wp2_with (go_at_call 93; fail)
    refine HB.out.mono ?_
    rintro e W4 ⟨rfl, h4⟩
    obtain ⟨c4, mb4, v4, os4, h4'⟩ := h4
    obtain ⟨hC1, hf1, hok1, hcF, hlv1, hrmB, hBB⟩ := HC1.out
    have hC2 : CInv x.b x.l s1 (runV (opsB x) t1) book (inB x) := by
     rw [← hBB]
     exact head_same hC1 hok1 hcF (by rw [hBB]; exact hB) HX.out.2.1.fine.1
    have hlv2 := run_live _ _ hlv1 hB
    have hrmC : Rm (runV (opsB x) t1) (x.blocks.length + 8) := Rm.run (hrmB.le (by show x.blocks.length + 8 + 2 ≤ _; omega))
    have HCc := Hid.mk' (h4'.toPlaces hC2 hf1 hlv2 HX.out.2.1.nd HX.out.2.1.dats (hrmC.le (by omega)) (by have := HX.out.2.1.len; have := HX.out.2.1.fine.2.1; omega))
    obtain ⟨eB, vB⟩ := run_on (b := opsC x book ++ opsD) hB
    have HT2 : Hid (runE (cmtOps x book) t = runE (opsC x book ++ opsD) (runV (opsB x) t1) ∧ runV (cmtOps x book) t = runV (opsC x book ++ opsD) (runV (opsB x) t1) ∧ (runV (opsB x) t1).stopped = false ∧ Rm (runV (opsB x) t1) (x.blocks.length + 8)) := ⟨HT.out.1.trans eB, HT.out.2.trans vB, hlv2, hrmC⟩
    clear h4' HB hC1 hf1 hok1 hcF hlv1 hrmB hBB hC2 hlv2 hrmC eB vB HT HC1 hB
    unfold ptr at HCc
    change Hid (Calls _ _ _ _ fun e W' => e = .returned (.int .i64 (runE (opsC x book) (runV (opsB x) t1))) ∧ ∃ s', LS w W' g d c4 mb4 v4 x s' (runV (opsC x book) (runV (opsB x) t1)) os4 ((gB, .cells (blk F) 64) :: ks) ∧ (runE (opsC x book) (runV (opsB x) t1) = 0 → CInv x.b x.l s' (runV (opsC x book) (runV (opsB x) t1)) book (fun _ => false) ∧ (fastN s'.row : Int) = 0)) at HCc
    generalize runV (opsB x) t1 = t2 at *
    by_cases hC : runE (opsC x book) t2 = 0
    ·rw [hC] at HCc
     go_wp2_with (go_at_call 106; fail)
     refine HCc.out.mono ?_
     rintro e W5 ⟨rfl, s5, h5, h5b⟩
     obtain ⟨hC5, hf5⟩ := h5b (by trivial)
     have hrow5 := h5.log.row
     have c1 : W5.cell? ⟨g, 1, none⟩ = some (.pointer (some ⟨d, 0, none⟩)) := h5.log.c1
     have hlv5 := run_live _ _ HT2.out.2.2.1 hC
     have hrmD : Rm (runV (opsC x book) t2) 6 := Rm.run (HT2.out.2.2.2.le (by rw [opsC_len]; omega))
     have hok5 := h5.sit.ok.2
     have HD := Hid.mk' ((show LogSit w W5 g d x s5 (runV (opsC x book) t2) ((gB, .cells (blk F) 64) :: ks) from ⟨c4, mb4, v4, os4, h5⟩).drew.setHeader x.b x.l x.i can_nought (hrmD.le (by omega)))
     unfold ptr at HD
     obtain ⟨eC, vC⟩ := run_on (b := opsD) hC
     have HT3 : Hid (runE (cmtOps x book) t = runE opsD (runV (opsC x book) t2) ∧ runV (cmtOps x book) t = runV opsD (runV (opsC x book) t2) ∧ CInv x.b x.l s5 (runV (opsC x book) t2) book (fun _ => false) ∧ (fastN s5.row : Int) = 0 ∧ Ok (runV (opsC x book) t2)) := ⟨HT2.out.1.trans eC, HT2.out.2.1.trans vC, hC5, hf5, hok5⟩
     clear h5 h5b hC5 hf5 hlv5 hrmD hok5 HCc eC vC HT2 hC
     change Hid (Calls _ _ _ _ fun e W' => e = .returned (.int .i64 (runE opsD (runV (opsC x book) t2))) ∧ LogSit w W' g d x s5 (runV opsD (runV (opsC x book) t2)) ((gB, .cells (blk F) 64) :: ks)) at HD
     generalize runV (opsC x book) t2 = t3 at *
     go_wp2
     go_still_tail 9, (by kernel_rfl)
     refine wpStill_loadLay rfl (.tmp 50) rfl rfl hrow5 ?_
     refine wpStill_buildB rfl rfl ?_
     repeat still_step
     refine wpStill_nil ?_
     change wpList _ _ _ _ _ (World.drew _)
     clear hrow5 c1
     by_cases hD : runE opsD t3 = 0
     ·rw [hD] at HD
      go_wp2_with (go_at_call 93; fail)
      refine HD.out.mono ?_
      rintro e W6 ⟨rfl, h6⟩
      obtain ⟨c17, f17⟩ := h6.c17
      have H6 := Hid.mk' h6
      clear h6 HD
      have hcm1 : 0 ≤ x.commits ∧ x.commits ≤ 1099511627776 := HX.out.2.1.commits
      go_wp2
      have h7 := H6.out.setCommits (x.commits + 1)
      obtain ⟨hT1, hT2, hC5, hf5, hok5⟩ := HT3.out
      have hF : CmtPost w g d x t book ks (.returned (.int .i64 0)) (forgotW (W6.setCell ⟨g, 17, none⟩ (.int .i64 (x.commits + 1))) g) := cmt_fine HX.out.2.1 h7 (fun q hq => List.mem_cons_of_mem _ hq) (hT1.trans hD) hT2 (head_same hC5 hok5 can_nought hD HX.out.2.1.fine.1) hf5 HX.out.2.2.2.1
      obtain ⟨c7, mb7, v7, os7, h7'⟩ := h7
      have hrow7 := h7'.log.row
      refine leaves_cons (f := 72) (args := #[.pointer (some ⟨g, 13, none⟩)]) (by simp) (by simp [go_sem]) ?_
      refine (forget_rawD hrow7 rfl .returning).mono ?_
      rintro e u' w'' ⟨rfl, rfl, rfl⟩
      refine ⟨_, results_tmp rfl _ _ _, ?_⟩
      exact hF
     ·generalize hED : runE opsD t3 = ED at *
      go_wp2_with (go_at_call 93; fail)
      refine HD.out.mono ?_
      rintro e W6 ⟨rfl, h6⟩
      obtain ⟨c6, mb6, v6, os6, h6'⟩ := h6
      have hrow6 := Hid.mk' h6'.log.row
      have H6 := Hid.mk' h6'
      clear h6' HD
      go_wp2
      have hF : CmtPost w g d x t book ks (.returned (.int .i64 ED)) (forgotW W6 g) := cmt_bad ⟨c6, mb6, v6, os6, H6.out⟩ (fun q hq => List.mem_cons_of_mem _ hq) rfl HT3.out.1 HT3.out.2.1 hD
      refine leaves_cons (f := 72) (args := #[.pointer (some ⟨g, 13, none⟩)]) (by simp) (by simp [go_sem]) ?_
      refine (forget_rawD hrow6.out rfl .returning).mono ?_
      rintro e u' w'' ⟨rfl, rfl, rfl⟩
      refine ⟨_, results_tmp rfl _ _ _, ?_⟩
      exact hF
    ·generalize hEC : runE (opsC x book) t2 = EC at *
     go_wp2_with (go_at_call 106; fail)
     refine HCc.out.mono ?_
     rintro e W5 ⟨rfl, s5, h5, _⟩
     have hrow5 := Hid.mk' h5.log.row
     have H5 := Hid.mk' h5
     clear h5 HCc
     go_wp2
     have hF : CmtPost w g d x t book ks (.returned (.int .i64 EC)) (forgotW W5 g) := cmt_bad ⟨c4, mb4, v4, os4, H5.out⟩ (fun q hq => List.mem_cons_of_mem _ hq) rfl (by rw [HT2.out.1, (run_ended (by rw [hEC]; exact hC)).1, hEC]) (by rw [HT2.out.2.1, (run_ended (by rw [hEC]; exact hC)).2]) hC
     refine leaves_cons (f := 72) (args := #[.pointer (some ⟨g, 13, none⟩)]) (by simp) (by simp [go_sem]) ?_
     refine (forget_rawD hrow5.out rfl .returning).mono ?_
     rintro e u' w'' ⟨rfl, rfl, rfl⟩
     refine ⟨_, results_tmp rfl _ _ _, ?_⟩
     exact hF
   ·generalize hEB : runE (opsB x) t1 = EB at *
    go_wp2_with (go_at_call 93; fail)
    refine HB.out.mono ?_
    rintro e W4 ⟨rfl, h4⟩
    obtain ⟨c4, mb4, v4, os4, h4'⟩ := h4
    have hrow4 := Hid.mk' h4'.log.row
    have H4 := Hid.mk' h4'
    clear h4' HB
    go_wp2
    have hF : CmtPost w g d x t book ks (.returned (.int .i64 EB)) (forgotW W4 g) := cmt_bad ⟨c4, mb4, v4, os4, H4.out⟩ (fun q hq => List.mem_cons_of_mem _ hq) rfl (by rw [HT.out.1, (run_ended (by rw [hEB]; exact hB)).1, hEB]) (by rw [HT.out.2, (run_ended (by rw [hEB]; exact hB)).2]) hB
    refine leaves_cons (f := 72) (args := #[.pointer (some ⟨g, 13, none⟩)]) (by simp) (by simp [go_sem]) ?_
    refine (forget_rawD hrow4.out rfl .returning).mono ?_
    rintro e u' w'' ⟨rfl, rfl, rfl⟩
    refine ⟨_, results_tmp rfl _ _ _, ?_⟩
    exact hF
  ·generalize hEA : runE (opsA x book) t = EA at *
   go_wp2_with (go_at_call 105; fail)
   refine HA.out.mono ?_
   rintro e W3 ⟨rfl, s1, h1, _⟩
   have hrow3 := Hid.mk' h1.log.row
   have H1 := Hid.mk' h1
   clear h1 HA
   go_wp2
   have hF : CmtPost w g d x t book ks (.returned (.int .i64 EA)) (forgotW W3 g) := cmt_bad ⟨c, mb, _, os, H1.out⟩ (fun q hq => List.mem_cons_of_mem _ hq) rfl (by rw [(cmt_A (by rw [hEA]; exact hA)).1, hEA]) (cmt_A (by rw [hEA]; exact hA)).2 hA
   refine leaves_cons (f := 72) (args := #[.pointer (some ⟨g, 13, none⟩)]) (by simp) (by simp [go_sem]) ?_
   refine (forget_rawD hrow3.out rfl .returning).mono ?_
   rintro e u' w'' ⟨rfl, rfl, rfl⟩
   refine ⟨_, results_tmp rfl _ _ _, ?_⟩
   exact hF
end Go.Proofs.YtichojdcoegboaaGreatW
namespace Go.Proofs.YtichojdcoegboaaGreatW
open Go.RowKit Go.Maps
variable {w W : World} {g d c mb : Nat} {v : Value} {x : LSt} {s : CSt} {t : St} {os ks : List (Nat × Obj)} {base : Nat} {book : Int → Nat → Int}
theorem LS.refuses2 (h : LS w W g d c mb v x s t os ks) (o : Bool) : Calls Tryz.prog 74 #[ptr g, .bool o] W fun e W' => e = .returned (.int .i64 (refL x t o)) ∧ LS w W' g d c mb v x s t os ks := by
 refine (h.refuses o).mono ?_
 rintro e W' ⟨rfl, m, rfl⟩
 exact ⟨rfl, h.later (below_drewN _ m)⟩
theorem syncL_ref (h : LogSit w W g d x s t ks) {e0 : Int} (hr : refL x t false = e0) (h0 : e0 ≠ 0) : Calls Tryz.prog 26 #[ptr g] W fun e W' => e = .returned (.int .i64 e0) ∧ LogSit w W' g d x s t ks := by
 obtain ⟨c, mb, v, os, h⟩ := h
 have hc := h.refuses2 false
 rw [hr] at hc
 clear h hr
 unfold ptr at *
 go_enter Tryz.func26, Tryz.ntmps26
 go_wp2_with (first | (go_at_call 74; refine hc.mono ?_; rintro e W1 ⟨rfl, h1⟩))
 go_ret
 exact ⟨rfl, c, mb, v, os, h1⟩
theorem LogI.syncNone (h : LogI w W g d x t book ks) (hr : refL x t false = 0) (hb : x.blocks = []) : Calls Tryz.prog 26 #[ptr g] W fun e W' => e = .returned (.int .i64 0) ∧ LogI w W' g d x t book ks := by
 obtain ⟨s, ⟨c, mb, v, os, h⟩, hI⟩ := h
 have hc : Calls Tryz.prog 74 #[ptr g, .bool false] W fun e W' => e = .returned (.int .i64 0) ∧ (∃ p cp, W'.cell? ⟨g, 13, none⟩ = some (.slice p 0 cp)) ∧ Hid (LogI w W' g d x t book ks) := by
  refine (h.refuses2 false).mono ?_
  rintro e W' ⟨rfl, h1⟩
  obtain ⟨p, cp, hv, _⟩ := h1.log.own.ints
  rw [hb] at hv
  refine ⟨by rw [hr], ⟨p, cp, ?_⟩, s, ⟨c, mb, v, os, h1⟩, hI⟩
  rw [h1.log.c13, hv]
  rfl
 clear h hr hI
 unfold ptr at *
 go_enter Tryz.func26, Tryz.ntmps26
 go_wp2_with (first | (go_at_call 74; refine hc.mono ?_; rintro e W1 ⟨rfl, ⟨p, cp, c13⟩, h1⟩))
 go_ret
 exact ⟨rfl, h1.out⟩
theorem LogI.sync (h : LogI w W g d x t book ks) (hr : refL x t false = 0) (hb : x.blocks ≠ []) (hrm : Rm t (2 * x.blocks.length + 12)) (hcm : x.commits < 1099511627776) : Calls Tryz.prog 26 #[ptr g] W (CmtPost w g d x t book ks) := by
 obtain ⟨s, ⟨c, mb, v, os, h⟩, hI⟩ := h
 have hlen : 0 < x.blocks.length := List.length_pos_iff.2 hb
 have hle := hI.len
 have hl2 := hI.fine.2.1
 have hc : Calls Tryz.prog 74 #[ptr g, .bool false] W fun e W' => e = .returned (.int .i64 0) ∧ (∃ p cp, W'.cell? ⟨g, 13, none⟩ = some (.slice p x.blocks.length cp)) ∧ Hid (Calls Tryz.prog 76 #[ptr g] W' (CmtPost w g d x t book ks)) := by
  refine (h.refuses2 false).mono ?_
  rintro e W' ⟨rfl, h1⟩
  obtain ⟨p, cp, hv, _⟩ := h1.log.own.ints
  refine ⟨by rw [hr], ⟨p, cp, ?_⟩, h1.commit hI (claimed_live (refL_live hr).1) hrm hcm⟩
  rw [h1.log.c13, hv]
 clear h hr hI hrm
 unfold ptr at *
 generalize x.blocks.length = n at *
 have hn0 : ¬ (n : Int) = 0 := by omega
 go_enter Tryz.func26, Tryz.ntmps26
 go_wp2_with (first | (go_at_call 74; refine hc.mono ?_; rintro e W1 ⟨rfl, ⟨p, cp, c13⟩, h1⟩) | (go_at_call 76; fail))
 refine h1.out.mono ?_
 rintro e W2 h2
 have H2 := Hid.mk' h2
 obtain ⟨rfl, _⟩ := h2
 go_wp2
 go_ret
 exact H2.out
theorem beginL_ref (h : LogSit w W g d x s t ks) {e0 r : Int} (hr : refL x t false = e0) (h0 : e0 ≠ 0) : Calls Tryz.prog 19 #[ptr g, .int .i64 r] W fun e W' => e = .returned (.int .i64 e0) ∧ LogSit w W' g d x s t ks := by
 obtain ⟨c, mb, v, os, h⟩ := h
 have hc := h.refuses2 false
 rw [hr] at hc
 clear h hr
 unfold ptr at *
 go_enter Tryz.func19, Tryz.ntmps19
 go_wp2_with (first | (go_at_call 74; refine hc.mono ?_; rintro e W1 ⟨rfl, h1⟩))
 go_ret
 exact ⟨rfl, c, mb, v, os, h1⟩
theorem beginL_arg (h : LogSit w W g d x s t ks) {r : Int} (hr : refL x t false = 0) (hl : 32 ≤ x.l ∧ x.l ≤ 256) (ha : r < 1 ∨ x.l - 1 < r) : Calls Tryz.prog 19 #[ptr g, .int .i64 r] W fun e W' => e = .returned (.int .i64 2) ∧ LogSit w W' g d x s t ks := by
 obtain ⟨c, mb, v, os, h⟩ := h
 have hc : Calls Tryz.prog 74 #[ptr g, .bool false] W fun e W' => e = .returned (.int .i64 0) ∧ Calls Tryz.prog 75 #[ptr g] W' (fun e W'' => e = .returned (.int .i64 (x.l - 1)) ∧ W'' = W') ∧ Hid (LogSit w W' g d x s t ks) := by
  refine (h.refuses2 false).mono ?_
  rintro e W' ⟨rfl, h1⟩
  exact ⟨by rw [hr], h1.most hl, c, mb, v, os, h1⟩
 clear h hr
 unfold ptr at *
 generalize hm : x.l - 1 = m at *
 by_cases h1 : r < 1
 ·go_enter Tryz.func19, Tryz.ntmps19
  go_wp2_with (first | (go_at_call 74; refine hc.mono ?_; rintro e W1 ⟨rfl, hmo, h1⟩))
  go_ret
  exact ⟨rfl, h1.out⟩
 ·have h2 : m < r := by omega
  go_enter Tryz.func19, Tryz.ntmps19
  go_wp2_with (first | (go_at_call 74; refine hc.mono ?_; rintro e W1 ⟨rfl, hmo, h1⟩) | (go_at_call 75; refine hmo.mono ?_; rintro e W2 ⟨rfl, rfl⟩))
  go_ret
  exact ⟨rfl, h1.out⟩
structure Bg1 (W' : World) (g : Nat) (m : Int) (n : Nat) : Prop where
 sl : ∃ p cp, W'.cell? ⟨g, 13, none⟩ = some (.slice p n cp)
 most : ∀ k, Calls Tryz.prog 75 #[.pointer (some ⟨g, 0, none⟩)] (W'.drewN k) fun e W'' => e = .returned (.int .i64 m) ∧ W'' = W'.drewN k
 m0 : Calls Tryz.prog 75 #[.pointer (some ⟨g, 0, none⟩)] W' fun e W'' => e = .returned (.int .i64 m) ∧ W'' = W'
theorem LS.bg1 (h : LS w W g d c mb v x s t os ks) (hl : 32 ≤ x.l ∧ x.l ≤ 256) : Bg1 W g (x.l - 1) x.blocks.length := by
 obtain ⟨p, cp, hv, _⟩ := h.log.own.ints
 exact ⟨⟨p, cp, by rw [h.log.c13, hv]⟩, fun k => (h.later (below_drewN W k)).most hl, h.most hl⟩
theorem LogSit.c1516 (h : LogSit w W g d x s t ks) : W.cell? ⟨g, 15, none⟩ = some (.bool x.opn) ∧ W.frozen? ⟨g, 15, none⟩ = false ∧ W.cell? ⟨g, 16, none⟩ = some (.int .i64 x.room) ∧ W.frozen? ⟨g, 16, none⟩ = false := by
 obtain ⟨c, mb, v, os, h⟩ := h
 exact ⟨h.log.c15, h.log.free 15, h.log.c16, h.log.free 16⟩
theorem LogI.opened (h : LogI w W g d x t book ks) {r : Int} (hr : 1 ≤ r ∧ (x.blocks.length : Int) + r ≤ x.l - 1) : LogI w ((W.setCell ⟨g, 15, none⟩ (.bool true)).setCell ⟨g, 16, none⟩ (.int .i64 r)) g d { x with opn := true, room := r } t book ks := by
 obtain ⟨s, h1, hI⟩ := h
 refine ⟨s, (h1.setOpn true).setRoom r, hI.fine, hI.c, hI.nd, hI.rng, hI.fast, hI.last, hI.len, hI.steps, hI.commits, ⟨by show 0 ≤ r; omega, ?_⟩, fun _ => hr.2⟩
 have := hI.fine.2.1
 show r ≤ 256
 omega
set_option maxHeartbeats 800000 in
theorem LogI.begin (h : LogI w W g d x t book ks) {r : Int} (hr : refL x t false = 0) (hr1 : 1 ≤ r) (hr2 : (x.blocks.length : Int) + r ≤ x.l - 1) : Calls Tryz.prog 19 #[ptr g, .int .i64 r] W fun e W' => e = .returned (.int .i64 0) ∧ LogI w W' g d { x with opn := true, room := r } t book ks := by
 obtain ⟨s, ⟨c, mb, v, os, h⟩, hI⟩ := h
 have hl : 32 ≤ x.l ∧ x.l ≤ 256 := ⟨hI.fine.1, hI.fine.2.1⟩
 have hc : Calls Tryz.prog 74 #[ptr g, .bool false] W fun e W' => e = .returned (.int .i64 0) ∧ Bg1 W' g (x.l - 1) x.blocks.length ∧ Hid (LogI w W' g d x t book ks) := by
  refine (h.refuses2 false).mono ?_
  rintro e W' ⟨rfl, h1⟩
  exact ⟨by rw [hr], h1.bg1 hl, s, ⟨c, mb, v, os, h1⟩, hI⟩
 have HO : Hid (∀ W', LogI w W' g d x t book ks → LogI w ((W'.setCell ⟨g, 15, none⟩ (.bool true)).setCell ⟨g, 16, none⟩ (.int .i64 r)) g d { x with opn := true, room := r } t book ks) := fun W' h1 => h1.opened ⟨hr1, hr2⟩
 clear h hr hI
 unfold ptr at *
 generalize hm : x.l - 1 = m at *
 generalize hn : x.blocks.length = n at *
 have hn2 : n ≤ 256 := by omega
 have h1 : ¬ r < 1 := by omega
 have h2 : ¬ m < r := by omega
 have h3 : ¬ m < (n : Int) + r := by omega
 go_enter Tryz.func19, Tryz.ntmps19
 go_wp2_with (go_at_call 74; fail)
 refine hc.mono ?_
 rintro e W1 ⟨rfl, ⟨⟨p, cp, c13⟩, hmo, hm0⟩, H1⟩
 go_wp2_with (first | (go_at_call 75; refine hm0.mono ?_; rintro e W2 ⟨rfl, rfl⟩))
 go_quiet (first | (go_at_call 75; refine Calls.quiet_of_same (hmo _)))
 have H2 := Hid.mk' (H1.out.later (below_drewN _ nq))
 clear hmo hm0 H1 c13 hc
 generalize W2.drewN nq = W3 at H2 ⊢
 obtain ⟨s, h4, _⟩ := H2.out
 obtain ⟨c15, f15, c16, f16⟩ := h4.c1516
 clear h4
 go_wp2
 go_ret
 exact ⟨rfl, HO.out W3 H2.out⟩
end Go.Proofs.YtichojdcoegboaaGreatW
