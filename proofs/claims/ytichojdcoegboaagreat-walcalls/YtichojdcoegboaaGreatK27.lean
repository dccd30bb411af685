/- The document's log: Write of a block that the step may write; groups of at most a million. -/
import Derived.Test.YtichojdcoegboaaGreatK26
namespace Go.Proofs.YtichojdcoegboaaGreatW
open Go.RowKit Go.Maps
section
variable {w W W' V : World} {q r : Nat} {y y' : RL} {u u' : RSt} {l : List Part} {B : Nat} {gv wv : Value} {k : Int} {f : Nat → Int}
theorem wpList_push90 {ops : Array Oper} {rest : List Oper} {o : Oper} {a : Act} {Q : Exit → Act → World → Prop} {W0 W5 : World} {v v' z : Value} (hw : Region.wanted o (yielded ops a.tmps) = true) (s x : Operand) (ho : o.op = .call { callee := .builtin .append, args := #[s, x], argTypes := #[90, 90] }) (ht : o.type = 90) (hs : a.eval s = v) (hx : a.eval x = z)
  (hr : (Builtin.append_ #[90, 90] 90 #[v, z]).run Tryz.prog W0 = .ok v' W5) (h : wpList Tryz.prog ops Q rest (a.put o.dst v') W5) : wpList Tryz.prog ops Q (o :: rest) a W0 := by
 refine wpList_ex8 hw ?_ h
 unfold execOp
 simp [ho, ht, hs, hx, resolve, invoke, builtin, hr, Result.andThen]
theorem cell_same {W W' : World} {q i : Nat} (h : W'.heap[q]? = W.heap[q]?) : W'.cell? ⟨q, i, none⟩ = W.cell? ⟨q, i, none⟩ := by
 unfold World.cell?
 simp only
 rw [h]
set_option maxRecDepth 20000 in
set_option maxHeartbeats 4000000 in
theorem DL.write_again (h : DL w W q r y u l) (hc : rchE y u = 0) (hs : y.step = true) (hl2 : 32 ≤ y.l ∧ y.l ≤ 256) (hk : ¬ outB y k) (hwl : y.wrote.length ≤ 1000000) (hgl : y.grp.length ≤ 1000000) (hn : k ∈ y.wrote) : Calls Tryz.prog 38 #[.pointer (some ⟨q, 0, none⟩), .int .i64 k, .agg (blk f)] W fun e W' => e = .returned (.int .i64 0) ∧ DL w W' q r { y with grp := gPut y.grp k f } u l := by
 have H0 := Hid.mk' ((h.box f).live hc)
 have hw : IntKind.i64.wrap (1 + y.l) = 1 + y.l := by rw [IntKind.wrap_i64]; omega
 clear h
 unfold outB at hk
 have g1 : decide (k ≤ 0) = false := decide_eq_false (by omega)
 have g2 : decide (y.b ≤ k) = false := decide_eq_false (by omega)
 have g3 : decide (1 ≤ k) = true := decide_eq_true (by omega)
 have g4 : decide (k < 1 + y.l) = false := decide_eq_false (by omega)
 obtain ⟨G, hG⟩ : ∃ G, y.grp.length = G := ⟨_, rfl⟩
 have HG2 := Hid.mk' hG
 rw [hG] at hgl
 clear hk hl2 hG
 go_enter Tryz.func38, Tryz.ntmps38
 go_wp2_with (first | (go_at_call 51; fail))
 refine H0.out.mono ?_
 rintro e W1 ⟨rfl, _, h1⟩
 generalize hg0 : W.heap.size = g0 at *
 clear hg0
 obtain ⟨Y, hl⟩ := h1.at
 have c13 := hl.c13
 have c1 := hl.c1
 have c2 := hl.c2
 have c4 := hl.c4
 rw [hs] at c13
 have HW : Hid (∀ m, Calls Tryz.prog 86 #[.pointer (some ⟨q, 0, none⟩), .int .i64 k] (W1.drewN m) fun e W' => e = .returned (.bool true) ∧ DL w W' q r y u (boxB g0 f :: l)) := fun m => by
  refine (wrote_at (hl.later (below_drewN W1 m)) hwl k).mono ?_
  rintro e W2 ⟨rfl, rfl⟩
  exact ⟨by rw [decide_eq_true hn], h1.later (below_drewN W1 m)⟩
 clear h1 hl H0 hwl hn
 go_wp2
 go_quiet (fail)
 go_wp2_with (first | (go_at_call 86; fail))
 refine (HW.out _).mono ?_
 rintro e W2 ⟨rfl, h2⟩
 clear HW c13 c1 c2 c4
 go_wp2
 go_quiet (fail)
 have H1 := Hid.mk' (h2.later (below_drewN W2 nq))
 clear h2
 generalize W2.drewN nq = W2 at *
 obtain ⟨Y, hl⟩ := H1.out.at
 have c12 := hl.c12
 obtain ⟨p, c, hv, hI⟩ := own_img hl.grp
 rw [hv, HG2.out] at c12
 have HI := Hid.mk' hI
 have HX := Hid.mk' H1.out.boxed
 clear hl hv hI
 go_wp2
 go_loopw [9] (fun s9 wx => ∃ j : Nat, (j : Int) ≤ G ∧ s9 = .int .i64 j ∧ wx = W2 ∧ Hid (∀ i, i < j → ∀ c, y.grp[i]? = some c → c.1 ≠ k)) (fun s9 _ => G - (intOf s9).toNat)
 case atStart => exact ⟨0, by omega, rfl, rfl, Hid.mk' fun i hi => by omega⟩
 case round =>
  obtain ⟨j, hj, rfl, rfl, HA⟩ := hrel
  by_cases hj2 : (j : Int) < G
  ·have hjl : j < y.grp.length := by have := HG2.out; omega
   have hcc : y.grp[j]? = some (y.grp[j]'hjl) := List.getElem?_eq_getElem hjl
   generalize y.grp[j]'hjl = x at hcc
   obtain ⟨b0, off, rfl, hlt, hC⟩ := HI.out (by have := HG2.out; omega)
   have c3 := (hC j x hcc).1
   obtain ⟨x1, f0⟩ := x
   dsimp only at c3
   have HC := Hid.mk' hcc
   clear hcc hC hjl
   by_cases hy : x1 = k
   ·subst hy
    obtain ⟨b1, c1', cur, k1, k2, k3, k4⟩ := (H1.out.later (W' := wr.drew) ⟨rfl, rfl, rfl, Nat.le_refl _, fun _ _ => rfl⟩).putG HC.out f
    rw [HG2.out] at k1
    have ke := k1.symm.trans c12
    injection ke with ke
    injection ke with ke1 ke2 ke3
    injection ke1 with ke1
    injection ke1 with kb ko
    subst kb
    subst ko
    rw [Nat.zero_add] at c3
    have hst := storeB64 (f := f) k2 k3
    have HK := Hid.mk' k4.unboxed
    have HS2 := Hid.mk' k4.boxed
    have HS1 : Hid ((wr.drew.setRow b1 (putE cur (j * 1025 + 1) (blk f).toList)).cell? ⟨q, 12, none⟩ = some (.slice (some ⟨b1, 0, none⟩) G c)) := by
     obtain ⟨Y5, h5⟩ := H1.out.at
     exact (cell_same (W := wr) (setRow_other wr.drew b1 q _ (box_ne h5.row k2 (by decide)))).trans c12
    have HP := Hid.mk' (gPut_at (f := f) HC.out HA.out)
    clear k1 k4 ke2 ke3 HA HC HI
    generalize putE cur (j * 1025 + 1) (blk f).toList = CU at *
    go_wp2
    refine wp_region_ord (S := fun v => v.cell? ⟨q, 12, none⟩ = some (.slice (some ⟨b1, 0, none⟩) G c) ∧ v.heap[g0]? = some (.cells (blk f) 64)) [(0, true), (1, true), (2, true), (3, true), (4, true), (5, true), (6, true), (7, true), (8, false)]
     (by kernel_rfl) rfl (by kernel_rfl) (fun d _ _ _ _ h => by cases d <;> exact h) ⟨c12, HX.out⟩ ?_
    simp only [inOrd, List.getElem?_cons_zero, List.getElem?_cons_succ]
    refine wpOrd_move rfl _ rfl ?_
    simp only [Act.put, pA, pB, pC]
    refine wpOrd_yield (v := .pointer (some ⟨q, 0, none⟩)) rfl (fun v _ => by go_simp) ?_
    simp only [Act.put, pA, pB, pC]
    refine wpOrd_yield (v := .pointer (some ⟨q, 12, none⟩)) rfl (fun v _ => by go_simp) ?_
    simp only [Act.put, pA, pB, pC]
    refine wpOrd_yield (v := .slice (some ⟨b1, 0, none⟩) G c) rfl (fun v hv => by have hv1 := hv.1; go_simp) ?_
    simp only [Act.put, pA, pB, pC]
    refine wpOrd_move rfl _ rfl ?_
    simp only [Act.put, pA, pB, pC]
    refine wpOrd_yield (v := .agg (blk f)) rfl (fun v hv => by
     unfold execOp
     simp only [Act.eval]
     have e := loadM (BlkAt.of hv.2)
     change Sem.run Tryz.prog (Instr.loadAt 64 (.pointer (some ⟨g0, 0, none⟩)) >>= fun v => pure (Next.value v)) v = _
     simp only [Sem.run_bind, e, Result.andThen_ok, Sem.run_pure]) ?_
    simp only [Act.put, pA, pB, pC]
    refine wpOrd_yield (v := .pointer (some ⟨b1, j * 1025, none⟩)) rfl (fun v _ => by go_simp) ?_
    simp only [Act.put, pA, pB, pC]
    refine wpOrd_yield (v := .pointer (some ⟨b1, j * 1025 + 1, none⟩)) rfl (fun v _ => by go_simp) ?_
    simp only [Act.put, pA, pB, pC]
    refine wpOrd_do (w' := wr.drew.setRow b1 CU) rfl (by
     unfold execOp
     change Sem.run Tryz.prog (Instr.storeAt 64 (.pointer (some ⟨b1, j * 1025 + 1, none⟩)) (.agg (blk f)) >>= fun _ => pure Next.skip) wr.drew = _
     simp only [Sem.run_bind, hst, Result.andThen_ok, Sem.run_pure]) ⟨HS1.out, HS2.out⟩ ?_
    refine wpOrd_nil ?_
    simp only [Act.put]
    generalize wr.drew.setRow b1 CU = WE at *
    clear hst k2 k3 c12 c3 HX H1 HS1 HS2
    go_wp2
    go_ret
    exact ⟨rfl, by rw [HP.out]; exact HK.out⟩
   ·have HF := Hid.mk' (show ∀ i, i < j + 1 → ∀ c, y.grp[i]? = some c → c.1 ≠ k from fun i hi c hc => by
     by_cases e : i = j
     ·subst e
      rw [HC.out] at hc
      injection hc with hc
      rw [← hc]
      exact hy
     ·exact HA.out i (by omega) c hc)
    have hne : (x1 == k) = false := by simpa using hy
    clear HC hy HA
    go_wp2
    exact ⟨⟨j + 1, by omega, by go_num, by first | rfl | trivial, HF.out⟩, by simp [intOf]; omega⟩
  ·have hjN : G = j := by omega
   subst hjN
   have HP := Hid.mk' (gPut_new (f := f) (k := k) (g := y.grp) fun c hc => by
    obtain ⟨i, hi, e⟩ := List.getElem_of_mem hc
    exact HA.out i (by have := HG2.out; omega) c (by rw [List.getElem?_eq_getElem hi, e]))
   clear HA HI
   go_wp2
   have hX9 : wr.drew.heap[g0]? = some (.cells (blk f) 64) := HX.out
   refine wp_region_fork (S := fun u => u.heap[g0]? = some (.cells (blk f) 64)) [0, 1, 2, 3, 5, 6, 7] 4 8 [(9, false), (10, true), (11, true), (12, false)] (by kernel_rfl) rfl (by kernel_rfl) (fun d _ _ _ _ h => by cases d <;> exact h) hX9 ?_
   try simp only [Act.put]
   have D9 := H1.out.later (W' := wr.drew) ⟨rfl, rfl, rfl, Nat.le_refl _, fun _ _ => rfl⟩
   have c9 : wr.drew.cell? ⟨q, 12, none⟩ = some (.slice p G c) := c12
   generalize wr.drew = V9 at *
   refine wpFork_yield (v := .pointer (some ⟨q, 0, none⟩)) rfl rfl (fun u _ => by simp [execOp, Act.eval]) ?_
   simp only [Act.put, pA, pB, pC]
   refine wpFork_yield (v := .pointer (some ⟨q, 0, none⟩)) rfl rfl (fun u _ => by simp [execOp, Act.eval]) ?_
   simp only [Act.put, pA, pB, pC]
   refine wpFork_yield (v := .pointer (some ⟨q, 0, none⟩)) rfl rfl (fun u _ => by go_simp) ?_
   simp only [Act.put, pA, pB, pC]
   refine wpFork_yield (v := .pointer (some ⟨q, 12, none⟩)) rfl rfl (fun u _ => by go_simp) ?_
   simp only [Act.put, pA, pB, pC]
   refine wpFork_yield (v := .int .i64 k) rfl rfl (fun u _ => by simp [execOp, Act.eval]) ?_
   simp only [Act.put, pA, pB, pC]
   refine wpFork_yield (v := .agg (blk f)) rfl rfl (fun u hu => by
    unfold execOp
    simp only [Act.eval]
    have e := loadM (BlkAt.of hu)
    change Sem.run Tryz.prog (Instr.loadAt 64 (.pointer (some ⟨g0, 0, none⟩)) >>= fun v => pure (Next.value v)) u = _
    simp only [Sem.run_bind, e, Result.andThen_ok, Sem.run_pure]) ?_
   simp only [Act.put, pA, pB, pC]
   refine wpFork_yield (v := .agg (celRow (k, f)).toArray) rfl rfl (fun u hu => by
    have e := build123 k f u
    simp [execOp, Act.eval, e]) ?_
   simp only [Act.put, pA, pB, pC]
   obtain ⟨gv9, v9, W9, e1, -, ⟨aa9, ac9, e3⟩, hr9, k9, z9, hq9, hE9⟩ := D9.pushG (by have := HG2.out; omega) (k, f)
   have ee := e1.symm.trans c9
   injection ee with ee
   subst ee
   rw [HG2.out] at e3
   subst e3
   have HE9 := Hid.mk' hE9.unboxed
   have S6 := hE9.boxed
   obtain ⟨Y9, hl9⟩ := D9.at
   have hne9 : g0 ≠ q := box_ne hX9 hl9.row (by decide)
   have S5 : W9.heap[g0]? = some (.cells (blk f) 64) := (Below.heap_setCell _ _ _ _ (by show g0 ≠ q; exact hne9)).symm.trans S6
   have c9' : (V9.alloc (.cells (celRow (k, f)).toArray 123)).cell? ⟨q, 12, none⟩ = some (.slice p G c) := by rw [World.cell?_alloc_past _ _ _ hq9]; exact c9
   have S1 := heap_kept hX9 (below_new V9 (.cells (celRow (k, f)).toArray 123))
   have hbs := buildS123 (k, f) V9
   clear e1 hE9 hl9 D9 H1 hne9
   generalize hrc9 : (celRow (k, f)).toArray = RC9 at *
   clear hrc9
   refine wpFork_nil rfl rfl ?_ ?_
   ·simp only [inOrd, List.getElem?_cons_zero, List.getElem?_cons_succ]
    refine wpOrd_run (v := .slice p G c) (w' := V9) rfl (by go_simp) hX9 ?_
    simp only [Act.put, pA, pB, pC]
    refine wpOrd_run (v := .slice (some ⟨V9.heap.size, 0, none⟩) 1 1) (w' := V9.alloc (.cells RC9 123)) rfl (by simp [execOp, Act.eval, hbs]) S1 ?_
    simp only [Act.put, pA, pB, pC]
    refine wpOrd_run (v := .slice aa9 (G + 1) ac9) (w' := W9) rfl (by simp [execOp, Act.eval, resolve, invoke, builtin, hr9, Result.andThen]) S5 ?_
    simp only [Act.put, pA, pB, pC]
    refine wpOrd_yield (v := .pointer (some ⟨q, 0, none⟩)) rfl (fun u _ => by go_simp) ?_
    simp only [Act.put, pA, pB, pC]
    refine wpOrd_yield (v := .pointer (some ⟨q, 12, none⟩)) rfl (fun u _ => by go_simp) ?_
    simp only [Act.put, pA, pB, pC]
    refine wpOrd_do (w' := W9.setCell ⟨q, 12, none⟩ (.slice aa9 (G + 1) ac9)) rfl (by go_simp) S6 ?_
    refine wpOrd_nil ?_
    simp only [Act.put]
    clear hr9 S1 S5 k9 z9 c9 c9' hbs S6 c12
    generalize W9.setCell ⟨q, 12, none⟩ (.slice aa9 (G + 1) ac9) = WE at *
    go_wp2
    go_ret
    exact ⟨rfl, by rw [HP.out]; exact HE9.out⟩
   ·simp only [inOrd, List.getElem?_cons_zero, List.getElem?_cons_succ]
    refine wpOrd_run (v := .slice (some ⟨V9.heap.size, 0, none⟩) 1 1) (w' := V9.alloc (.cells RC9 123)) rfl (by simp [execOp, Act.eval, hbs]) S1 ?_
    simp only [Act.put, pA, pB, pC]
    refine wpOrd_run (v := .slice p G c) (w' := V9.alloc (.cells RC9 123)) rfl (by go_simp) S1 ?_
    simp only [Act.put, pA, pB, pC]
    refine wpOrd_run (v := .slice aa9 (G + 1) ac9) (w' := W9) rfl (by simp [execOp, Act.eval, resolve, invoke, builtin, hr9, Result.andThen]) S5 ?_
    simp only [Act.put, pA, pB, pC]
    refine wpOrd_yield (v := .pointer (some ⟨q, 0, none⟩)) rfl (fun u _ => by go_simp) ?_
    simp only [Act.put, pA, pB, pC]
    refine wpOrd_yield (v := .pointer (some ⟨q, 12, none⟩)) rfl (fun u _ => by go_simp) ?_
    simp only [Act.put, pA, pB, pC]
    refine wpOrd_do (w' := W9.setCell ⟨q, 12, none⟩ (.slice aa9 (G + 1) ac9)) rfl (by go_simp) S6 ?_
    refine wpOrd_nil ?_
    simp only [Act.put]
    clear hr9 S1 S5 k9 z9 c9 c9' hbs S6 c12
    generalize W9.setCell ⟨q, 12, none⟩ (.slice aa9 (G + 1) ac9) = WE at *
    go_wp2
    go_ret
    exact ⟨rfl, by rw [HP.out]; exact HE9.out⟩
set_option maxRecDepth 20000 in
set_option maxHeartbeats 4000000 in
theorem DL.write_first {y2 : RL} (hy2 : y2 = { y with wrote := y.wrote ++ [k] }) (h : DL w W q r y u l) (hc : rchE y u = 0) (hs : y.step = true) (hl2 : 32 ≤ y.l ∧ y.l ≤ 256) (hk : ¬ outB y k) (hwl : y.wrote.length ≤ 1000000) (hgl : y.grp.length ≤ 1000000) (hn : k ∉ y.wrote) (hr : y.wrote.length < y.room) : Calls Tryz.prog 38 #[.pointer (some ⟨q, 0, none⟩), .int .i64 k, .agg (blk f)] W fun e W' => e = .returned (.int .i64 0) ∧ DL w W' q r { y2 with grp := gPut y2.grp k f } u l := by
 have H0 := Hid.mk' ((h.box f).live hc)
 have hw : IntKind.i64.wrap (1 + y.l) = 1 + y.l := by rw [IntKind.wrap_i64]; omega
 clear h
 unfold outB at hk
 have g1 : decide (k ≤ 0) = false := decide_eq_false (by omega)
 have g2 : decide (y.b ≤ k) = false := decide_eq_false (by omega)
 have g3 : decide (1 ≤ k) = true := decide_eq_true (by omega)
 have g4 : decide (k < 1 + y.l) = false := decide_eq_false (by omega)
 obtain ⟨G, hG⟩ : ∃ G, y.grp.length = G := ⟨_, rfl⟩
 obtain ⟨N, hN⟩ : ∃ N, y.wrote.length = N := ⟨_, rfl⟩
 have g5 : decide (y.room ≤ (N : Int)) = false := decide_eq_false (by omega)
 have HN := Hid.mk' hN
 have HG2 : Hid (y2.grp.length = G) := by rw [hy2]; exact hG
 have HY := Hid.mk' hy2
 have HWL := Hid.mk' hwl
 rw [hG] at hgl
 clear hk hl2 hG hr hN hy2
 go_enter Tryz.func38, Tryz.ntmps38
 go_wp2_with (first | (go_at_call 51; fail))
 refine H0.out.mono ?_
 rintro e W1 ⟨rfl, _, h1⟩
 generalize hg0 : W.heap.size = g0 at *
 clear hg0
 obtain ⟨Y, hl⟩ := h1.at
 have c13 := hl.c13
 have c1 := hl.c1
 have c2 := hl.c2
 have c4 := hl.c4
 rw [hs] at c13
 have HW : Hid (∀ m, Calls Tryz.prog 86 #[.pointer (some ⟨q, 0, none⟩), .int .i64 k] (W1.drewN m) fun e W' => e = .returned (.bool false) ∧ DL w W' q r y u (boxB g0 f :: l)) := fun m => by
  refine (wrote_at (hl.later (below_drewN W1 m)) hwl k).mono ?_
  rintro e W2 ⟨rfl, rfl⟩
  exact ⟨by rw [decide_eq_false hn], h1.later (below_drewN W1 m)⟩
 clear h1 hl H0 hwl hn
 go_wp2
 go_quiet (fail)
 go_wp2_with (first | (go_at_call 86; fail))
 refine (HW.out _).mono ?_
 rintro e W2 ⟨rfl, h2⟩
 clear HW c13 c1 c2 c4
 obtain ⟨Y, hl⟩ := h2.at
 have c14 := hl.c14
 have c15 := hl.c15
 obtain ⟨pw, cw, hv, _⟩ := H.OwnZ.ints hl.wrote
 rw [hv, HN.out] at c15
 have H2 := Hid.mk' h2
 clear h2 hl hv
 go_wp2
 go_quiet (fail)
 have h3 := H2.out.later (below_drewN W2 nq)
 have c15' : (W2.drewN nq).cell? ⟨q, 15, none⟩ = some (.slice pw N cw) := c15
 generalize W2.drewN nq = V9 at *
 obtain ⟨wv9, v9, W9, e1, -, ⟨aa9, ac9, e3⟩, hr9, k9, z9, hq9, hE9⟩ := h3.pushW (by have := HWL.out; omega) k
 have ee := e1.symm.trans c15'
 injection ee with ee
 subst ee
 rw [HN.out] at e3
 subst e3
 rw [← HY.out] at hE9
 have H1 := Hid.mk' hE9
 clear e1 hE9 h3 H2 c15 c14 HY
 go_wp2_with (at_builtin; refine wpList_push90 rfl (.tmp 80) (.tmp 82) rfl rfl rfl rfl hr9 ?_)
 clear hr9 k9 z9 hq9
 generalize W9.setCell ⟨q, 15, none⟩ (.slice aa9 (N + 1) ac9) = W2 at *
 obtain ⟨Y, hl⟩ := H1.out.at
 have c12 := hl.c12
 obtain ⟨p, c, hv, hI⟩ := own_img hl.grp
 rw [hv, HG2.out] at c12
 have HI := Hid.mk' hI
 have HX := Hid.mk' H1.out.boxed
 clear hl hv hI
 go_wp2
 go_loopw [9] (fun s9 wx => ∃ j : Nat, (j : Int) ≤ G ∧ s9 = .int .i64 j ∧ wx = W2 ∧ Hid (∀ i, i < j → ∀ c, y2.grp[i]? = some c → c.1 ≠ k)) (fun s9 _ => G - (intOf s9).toNat)
 case atStart => exact ⟨0, by omega, rfl, rfl, Hid.mk' fun i hi => by omega⟩
 case round =>
  obtain ⟨j, hj, rfl, rfl, HA⟩ := hrel
  by_cases hj2 : (j : Int) < G
  ·have hjl : j < y2.grp.length := by have := HG2.out; omega
   have hcc : y2.grp[j]? = some (y2.grp[j]'hjl) := List.getElem?_eq_getElem hjl
   generalize y2.grp[j]'hjl = x at hcc
   obtain ⟨b0, off, rfl, hlt, hC⟩ := HI.out (by have := HG2.out; omega)
   have c3 := (hC j x hcc).1
   obtain ⟨x1, f0⟩ := x
   dsimp only at c3
   have HC := Hid.mk' hcc
   clear hcc hC hjl
   by_cases hy : x1 = k
   ·subst hy
    obtain ⟨b1, c1', cur, k1, k2, k3, k4⟩ := (H1.out.later (W' := wr.drew) ⟨rfl, rfl, rfl, Nat.le_refl _, fun _ _ => rfl⟩).putG HC.out f
    rw [HG2.out] at k1
    have ke := k1.symm.trans c12
    injection ke with ke
    injection ke with ke1 ke2 ke3
    injection ke1 with ke1
    injection ke1 with kb ko
    subst kb
    subst ko
    rw [Nat.zero_add] at c3
    have hst := storeB64 (f := f) k2 k3
    have HK := Hid.mk' k4.unboxed
    have HS2 := Hid.mk' k4.boxed
    have HS1 : Hid ((wr.drew.setRow b1 (putE cur (j * 1025 + 1) (blk f).toList)).cell? ⟨q, 12, none⟩ = some (.slice (some ⟨b1, 0, none⟩) G c)) := by
     obtain ⟨Y5, h5⟩ := H1.out.at
     exact (cell_same (W := wr) (setRow_other wr.drew b1 q _ (box_ne h5.row k2 (by decide)))).trans c12
    have HP := Hid.mk' (gPut_at (f := f) HC.out HA.out)
    clear k1 k4 ke2 ke3 HA HC HI
    generalize putE cur (j * 1025 + 1) (blk f).toList = CU at *
    go_wp2
    refine wp_region_ord (S := fun v => v.cell? ⟨q, 12, none⟩ = some (.slice (some ⟨b1, 0, none⟩) G c) ∧ v.heap[g0]? = some (.cells (blk f) 64)) [(0, true), (1, true), (2, true), (3, true), (4, true), (5, true), (6, true), (7, true), (8, false)]
     (by kernel_rfl) rfl (by kernel_rfl) (fun d _ _ _ _ h => by cases d <;> exact h) ⟨c12, HX.out⟩ ?_
    simp only [inOrd, List.getElem?_cons_zero, List.getElem?_cons_succ]
    refine wpOrd_move rfl _ rfl ?_
    simp only [Act.put, pA, pB, pC]
    refine wpOrd_yield (v := .pointer (some ⟨q, 0, none⟩)) rfl (fun v _ => by go_simp) ?_
    simp only [Act.put, pA, pB, pC]
    refine wpOrd_yield (v := .pointer (some ⟨q, 12, none⟩)) rfl (fun v _ => by go_simp) ?_
    simp only [Act.put, pA, pB, pC]
    refine wpOrd_yield (v := .slice (some ⟨b1, 0, none⟩) G c) rfl (fun v hv => by have hv1 := hv.1; go_simp) ?_
    simp only [Act.put, pA, pB, pC]
    refine wpOrd_move rfl _ rfl ?_
    simp only [Act.put, pA, pB, pC]
    refine wpOrd_yield (v := .agg (blk f)) rfl (fun v hv => by
     unfold execOp
     simp only [Act.eval]
     have e := loadM (BlkAt.of hv.2)
     change Sem.run Tryz.prog (Instr.loadAt 64 (.pointer (some ⟨g0, 0, none⟩)) >>= fun v => pure (Next.value v)) v = _
     simp only [Sem.run_bind, e, Result.andThen_ok, Sem.run_pure]) ?_
    simp only [Act.put, pA, pB, pC]
    refine wpOrd_yield (v := .pointer (some ⟨b1, j * 1025, none⟩)) rfl (fun v _ => by go_simp) ?_
    simp only [Act.put, pA, pB, pC]
    refine wpOrd_yield (v := .pointer (some ⟨b1, j * 1025 + 1, none⟩)) rfl (fun v _ => by go_simp) ?_
    simp only [Act.put, pA, pB, pC]
    refine wpOrd_do (w' := wr.drew.setRow b1 CU) rfl (by
     unfold execOp
     change Sem.run Tryz.prog (Instr.storeAt 64 (.pointer (some ⟨b1, j * 1025 + 1, none⟩)) (.agg (blk f)) >>= fun _ => pure Next.skip) wr.drew = _
     simp only [Sem.run_bind, hst, Result.andThen_ok, Sem.run_pure]) ⟨HS1.out, HS2.out⟩ ?_
    refine wpOrd_nil ?_
    simp only [Act.put]
    generalize wr.drew.setRow b1 CU = WE at *
    clear hst k2 k3 c12 c3 HX H1 HS1 HS2
    go_wp2
    go_ret
    exact ⟨rfl, by rw [HP.out]; exact HK.out⟩
   ·have HF := Hid.mk' (show ∀ i, i < j + 1 → ∀ c, y2.grp[i]? = some c → c.1 ≠ k from fun i hi c hc => by
     by_cases e : i = j
     ·subst e
      rw [HC.out] at hc
      injection hc with hc
      rw [← hc]
      exact hy
     ·exact HA.out i (by omega) c hc)
    have hne : (x1 == k) = false := by simpa using hy
    clear HC hy HA
    go_wp2
    exact ⟨⟨j + 1, by omega, by go_num, by first | rfl | trivial, HF.out⟩, by simp [intOf]; omega⟩
  ·have hjN : G = j := by omega
   subst hjN
   have HP := Hid.mk' (gPut_new (f := f) (k := k) (g := y2.grp) fun c hc => by
    obtain ⟨i, hi, e⟩ := List.getElem_of_mem hc
    exact HA.out i (by have := HG2.out; omega) c (by rw [List.getElem?_eq_getElem hi, e]))
   clear HA HI
   go_wp2
   have hX9 : wr.drew.heap[g0]? = some (.cells (blk f) 64) := HX.out
   refine wp_region_fork (S := fun u => u.heap[g0]? = some (.cells (blk f) 64)) [0, 1, 2, 3, 5, 6, 7] 4 8 [(9, false), (10, true), (11, true), (12, false)] (by kernel_rfl) rfl (by kernel_rfl) (fun d _ _ _ _ h => by cases d <;> exact h) hX9 ?_
   try simp only [Act.put]
   have D9 := H1.out.later (W' := wr.drew) ⟨rfl, rfl, rfl, Nat.le_refl _, fun _ _ => rfl⟩
   have c9 : wr.drew.cell? ⟨q, 12, none⟩ = some (.slice p G c) := c12
   generalize wr.drew = V9 at *
   refine wpFork_yield (v := .pointer (some ⟨q, 0, none⟩)) rfl rfl (fun u _ => by simp [execOp, Act.eval]) ?_
   simp only [Act.put, pA, pB, pC]
   refine wpFork_yield (v := .pointer (some ⟨q, 0, none⟩)) rfl rfl (fun u _ => by simp [execOp, Act.eval]) ?_
   simp only [Act.put, pA, pB, pC]
   refine wpFork_yield (v := .pointer (some ⟨q, 0, none⟩)) rfl rfl (fun u _ => by go_simp) ?_
   simp only [Act.put, pA, pB, pC]
   refine wpFork_yield (v := .pointer (some ⟨q, 12, none⟩)) rfl rfl (fun u _ => by go_simp) ?_
   simp only [Act.put, pA, pB, pC]
   refine wpFork_yield (v := .int .i64 k) rfl rfl (fun u _ => by simp [execOp, Act.eval]) ?_
   simp only [Act.put, pA, pB, pC]
   refine wpFork_yield (v := .agg (blk f)) rfl rfl (fun u hu => by
    unfold execOp
    simp only [Act.eval]
    have e := loadM (BlkAt.of hu)
    change Sem.run Tryz.prog (Instr.loadAt 64 (.pointer (some ⟨g0, 0, none⟩)) >>= fun v => pure (Next.value v)) u = _
    simp only [Sem.run_bind, e, Result.andThen_ok, Sem.run_pure]) ?_
   simp only [Act.put, pA, pB, pC]
   refine wpFork_yield (v := .agg (celRow (k, f)).toArray) rfl rfl (fun u hu => by
    have e := build123 k f u
    simp [execOp, Act.eval, e]) ?_
   simp only [Act.put, pA, pB, pC]
   obtain ⟨gv9, v9, W9, e1, -, ⟨aa9, ac9, e3⟩, hr9, k9, z9, hq9, hE9⟩ := D9.pushG (by have := HG2.out; omega) (k, f)
   have ee := e1.symm.trans c9
   injection ee with ee
   subst ee
   rw [HG2.out] at e3
   subst e3
   have HE9 := Hid.mk' hE9.unboxed
   have S6 := hE9.boxed
   obtain ⟨Y9, hl9⟩ := D9.at
   have hne9 : g0 ≠ q := box_ne hX9 hl9.row (by decide)
   have S5 : W9.heap[g0]? = some (.cells (blk f) 64) := (Below.heap_setCell _ _ _ _ (by show g0 ≠ q; exact hne9)).symm.trans S6
   have c9' : (V9.alloc (.cells (celRow (k, f)).toArray 123)).cell? ⟨q, 12, none⟩ = some (.slice p G c) := by rw [World.cell?_alloc_past _ _ _ hq9]; exact c9
   have S1 := heap_kept hX9 (below_new V9 (.cells (celRow (k, f)).toArray 123))
   have hbs := buildS123 (k, f) V9
   clear e1 hE9 hl9 D9 H1 hne9
   generalize hrc9 : (celRow (k, f)).toArray = RC9 at *
   clear hrc9
   refine wpFork_nil rfl rfl ?_ ?_
   ·simp only [inOrd, List.getElem?_cons_zero, List.getElem?_cons_succ]
    refine wpOrd_run (v := .slice p G c) (w' := V9) rfl (by go_simp) hX9 ?_
    simp only [Act.put, pA, pB, pC]
    refine wpOrd_run (v := .slice (some ⟨V9.heap.size, 0, none⟩) 1 1) (w' := V9.alloc (.cells RC9 123)) rfl (by simp [execOp, Act.eval, hbs]) S1 ?_
    simp only [Act.put, pA, pB, pC]
    refine wpOrd_run (v := .slice aa9 (G + 1) ac9) (w' := W9) rfl (by simp [execOp, Act.eval, resolve, invoke, builtin, hr9, Result.andThen]) S5 ?_
    simp only [Act.put, pA, pB, pC]
    refine wpOrd_yield (v := .pointer (some ⟨q, 0, none⟩)) rfl (fun u _ => by go_simp) ?_
    simp only [Act.put, pA, pB, pC]
    refine wpOrd_yield (v := .pointer (some ⟨q, 12, none⟩)) rfl (fun u _ => by go_simp) ?_
    simp only [Act.put, pA, pB, pC]
    refine wpOrd_do (w' := W9.setCell ⟨q, 12, none⟩ (.slice aa9 (G + 1) ac9)) rfl (by go_simp) S6 ?_
    refine wpOrd_nil ?_
    simp only [Act.put]
    clear hr9 S1 S5 k9 z9 c9 c9' hbs S6 c12
    generalize W9.setCell ⟨q, 12, none⟩ (.slice aa9 (G + 1) ac9) = WE at *
    go_wp2
    go_ret
    exact ⟨rfl, by rw [HP.out]; exact HE9.out⟩
   ·simp only [inOrd, List.getElem?_cons_zero, List.getElem?_cons_succ]
    refine wpOrd_run (v := .slice (some ⟨V9.heap.size, 0, none⟩) 1 1) (w' := V9.alloc (.cells RC9 123)) rfl (by simp [execOp, Act.eval, hbs]) S1 ?_
    simp only [Act.put, pA, pB, pC]
    refine wpOrd_run (v := .slice p G c) (w' := V9.alloc (.cells RC9 123)) rfl (by go_simp) S1 ?_
    simp only [Act.put, pA, pB, pC]
    refine wpOrd_run (v := .slice aa9 (G + 1) ac9) (w' := W9) rfl (by simp [execOp, Act.eval, resolve, invoke, builtin, hr9, Result.andThen]) S5 ?_
    simp only [Act.put, pA, pB, pC]
    refine wpOrd_yield (v := .pointer (some ⟨q, 0, none⟩)) rfl (fun u _ => by go_simp) ?_
    simp only [Act.put, pA, pB, pC]
    refine wpOrd_yield (v := .pointer (some ⟨q, 12, none⟩)) rfl (fun u _ => by go_simp) ?_
    simp only [Act.put, pA, pB, pC]
    refine wpOrd_do (w' := W9.setCell ⟨q, 12, none⟩ (.slice aa9 (G + 1) ac9)) rfl (by go_simp) S6 ?_
    refine wpOrd_nil ?_
    simp only [Act.put]
    clear hr9 S1 S5 k9 z9 c9 c9' hbs S6 c12
    generalize W9.setCell ⟨q, 12, none⟩ (.slice aa9 (G + 1) ac9) = WE at *
    go_wp2
    go_ret
    exact ⟨rfl, by rw [HP.out]; exact HE9.out⟩
theorem DL.write_ok (h : DL w W q r y u l) (hc : rchE y u = 0) (hs : y.step = true) (hl2 : 32 ≤ y.l ∧ y.l ≤ 256) (hk : ¬ outB y k) (hwl : y.wrote.length ≤ 1000000) (hgl : y.grp.length ≤ 1000000) (hr : k ∈ y.wrote ∨ y.wrote.length < y.room) : Calls Tryz.prog 38 #[.pointer (some ⟨q, 0, none⟩), .int .i64 k, .agg (blk f)] W fun e W' => e = .returned (.int .i64 0) ∧ DL w W' q r (rWr y k f) u l := by
 unfold rWr
 by_cases hn : k ∈ y.wrote
 ·simp only [if_pos hn]
  exact h.write_again hc hs hl2 hk hwl hgl hn
 ·simp only [if_neg hn]
  exact h.write_first rfl hc hs hl2 hk hwl hgl hn (hr.resolve_left hn)
end
end Go.Proofs.YtichojdcoegboaaGreatW
