/- One call of both sides, by its kind: Crash of the disk, Recover, New; walked over whatever both calls make of memory; no condition. -/
import Derived.Test.YtichojdcoegboaaGreatK39
namespace Go.Proofs.YtichojdcoegboaaGreatW
open Go.RowKit Go.Maps
section
variable {W : World} {I Q : World → Prop} {l : List Part} {P d r : Nat} {G : Int × Int × Int} {l0 l1 m0 m1 vl vm : Value} {on c n f tn E : Int}
theorem size26 : (Tryz.prog.info? 26).map (·.size) = some 3 := by kernel_rfl
theorem exec_ldG {o : Oper} {a : Act} {X : World} {x : Operand} (ho : o.op = .load 26 x) (hx : a.eval x = .pointer (some ⟨P, 0, none⟩)) (hg : X.heap[P]? = some (.cells (pairRow G d r l0 l1 m0 m1) 45)) : (execOp a.eval o).run Tryz.prog X = .ok (.value (H.geoV G.1 G.2.1 G.2.2)) X := by
 have hc : ∀ j v, [Value.int .i64 G.1, .int .i64 G.2.1, .int .i64 G.2.2][j]? = some v → X.cell? ⟨P, 0 + j, none⟩ = some v := fun j v hv => by
  have hj : j < 3 := (List.getElem?_eq_some_iff.1 hv).1
  rw [Nat.zero_add, Joins.cell_of_block hg j]
  rcases j with _ | _ | _ | j
  ·exact hv
  ·exact hv
  ·exact hv
  ·omega
 have e : (Instr.loadAt 26 (.pointer (some ⟨P, 0, none⟩))).run Tryz.prog X = .ok (.agg [Value.int .i64 G.1, .int .i64 G.2.1, .int .i64 G.2.2].toArray) X := run_loadAt_mid (P := Tryz.prog) X P 0 26 _ _ (fun j v hv => hc j v hv) Tryz.underlying26 rfl size26
 unfold execOp
 simp only [ho, hx, e, Sem.run_bind, Result.andThen_ok, Sem.run_pure]
 rfl
set_option maxRecDepth 20000 in
set_option maxHeartbeats 4000000 in
theorem act_crash {I2 : Option Addr → Nat → World → Prop} (hn : H.I64 n) (h : ActI W I l P d r G l0 l1 m0 m1 vl vm on 6 n f tn) (hI2 : ∀ p c X X', I X → Below X.heap.size X X' → X'.ownsRow X.heap.size 4 1 (.slice p 70 c) 70 ((bits n 70).flatMap enO) → I2 p c X') (hl2 : ∀ p c W W', I2 p c W → Below W.heap.size W W' → I2 p c W') (hk2 : ∀ p c W, I2 p c W → Kl l W) (hT : ∀ p c, Two l (I2 p c) 43 44 #[.pointer (some ⟨d, 0, none⟩), .slice p 70 c] #[.pointer (some ⟨r, 0, none⟩), .slice p 70 c] (.int .i64 0) Q) (hQ : ∀ W, Q W → Kl l W) : Calls Tryz.prog 8 #[.pointer (some ⟨P, 0, none⟩), .agg (actRow on 6 n f tn)] W fun e W' => e = .returned (.bool true) ∧ Q W' := by
 have HT := Hid.mk' hT
 have HQK := Hid.mk' hQ
 have HB := Hid.mk' fun w => bools_any n hn w
 have HI2 := Hid.mk' hI2
 have HL2 := Hid.mk' hl2
 have HK2 := Hid.mk' hk2
 clear hT hQ hn hI2 hl2 hk2
 have hI := h.now
 have HL := Hid.mk' h.later
 have hpk := fun w => pick_any on 2 (by omega) w
 have hC := h.cells (h.kl _ hI)
 have HI := Hid.mk' hI
 have HK : Hid (∀ X, Kl l X → ActC X P W.heap.size d r G l0 l1 m0 m1 on 6 n f tn) := fun X hX => h.cells hX
 have HIK := Hid.mk' h.kl
 obtain ⟨b0, b1, b2, b3, b4, row, p3, p4, p5, p6, p7, p8⟩ := hC
 have hslot := h.slot
 clear h hI row
 rcases hslot with ⟨ho, hl, hm⟩ | ⟨ho, hl, hm⟩
 all_goals
  first | rw [hl] at p5 | rw [hl] at p6
  first | rw [hm] at p7 | rw [hm] at p8
  rw [ho] at hpk
  clear ho hl hm
  unfold actRow at *
  go_enter Tryz.func8, Tryz.ntmps8
  go_upto_region 1 with fail
  generalize W.alloc (.cells #[.int .i64 on, .int .i64 6, .int .i64 n, .int .u8 f, .int .i64 tn] 48) = X at *
  generalize W.heap.size = B at *
  go_wp2_with (first | (go_at_call 33; refine (hpk _).mono ?_; rintro e W1 ⟨rfl, hX1⟩; obtain rfl := hX1.symm) | (go_at_call 42; fail))
  refine Calls.mono (HB.out X) ?_
  rintro e W1 ⟨pk, ck, rfl, q1, q2⟩
  have HJ := Hid.mk' (HL2.out _ _ _ _ (HI2.out pk ck _ _ HI.out q2 q1) (Below.refl _ _).drew)
  obtain ⟨M, hMl, hMK, h1, h2⟩ := HT.out pk ck
  have H1 := Hid.mk' h1
  have H2 := Hid.mk' h2
  have HMK := Hid.mk' hMK
  clear q1 q2 h1 h2 hMl hMK HT HI2 HB HI HL HIK b0 b1 b2 b3 b4 p3 p4 p5 p6 p7 p8 hpk
  go_wp2
  have HS : Hid (ActC W1.drew P B d r G l0 l1 m0 m1 on 6 n f tn) := HK.out _ (HK2.out _ _ _ HJ.out)
  refine wp_region_ord (S := fun X => ActC X P B d r G l0 l1 m0 m1 on 6 n f tn) [(0, true), (1, true), (2, true), (3, true), (4, true), (6, true), (7, true), (8, true), (9, true), (10, true), (5, false), (11, false), (12, true), (13, true)] (by kernel_rfl) rfl (by kernel_rfl) (fun d _ _ _ _ h => by cases d <;> exact h) HS.out ?_
  simp only [inOrd, List.getElem?_cons_zero, List.getElem?_cons_succ]
  refine wpOrd_yield (v := .pointer (some ⟨P, 0, none⟩)) rfl (fun u _ => exec_mvP rfl rfl) ?_
  simp only [Act.put, pA, pB, pC]
  refine wpOrd_yield (v := .pointer (some ⟨P, 0, none⟩)) rfl (fun u _ => by go_simp) ?_
  simp only [Act.put, pA, pB, pC]
  refine wpOrd_yield (v := .pointer (some ⟨P, 3, none⟩)) rfl (fun u _ => by go_simp) ?_
  simp only [Act.put, pA, pB, pC]
  refine wpOrd_yield (v := .pointer (some ⟨d, 0, none⟩)) rfl (fun u hu => by have := hu.p3; go_simp) ?_
  simp only [Act.put, pA, pB, pC]
  refine wpOrd_yield (v := .slice pk 70 ck) rfl (fun u _ => exec_mvP rfl rfl) ?_
  simp only [Act.put, pA, pB, pC]
  refine wpOrd_yield (v := .pointer (some ⟨P, 0, none⟩)) rfl (fun u _ => exec_mvP rfl rfl) ?_
  simp only [Act.put, pA, pB, pC]
  refine wpOrd_yield (v := .pointer (some ⟨P, 0, none⟩)) rfl (fun u _ => by go_simp) ?_
  simp only [Act.put, pA, pB, pC]
  refine wpOrd_yield (v := .pointer (some ⟨P, 4, none⟩)) rfl (fun u _ => by go_simp) ?_
  simp only [Act.put, pA, pB, pC]
  refine wpOrd_yield (v := .pointer (some ⟨r, 0, none⟩)) rfl (fun u hu => by have := hu.p4; go_simp) ?_
  simp only [Act.put, pA, pB, pC]
  refine wpOrd_yield (v := .slice pk 70 ck) rfl (fun u _ => exec_mvP rfl rfl) ?_
  simp only [Act.put, pA, pB, pC]
  refine wpOrd_call rfl 43 _ _ rfl Tryz.call43 [.pointer (some ⟨d, 0, none⟩), .slice pk 70 ck] rfl ?_
  refine Calls.mono (H1.out _ HJ.out) ?_
  rintro e W2 ⟨rfl, q2⟩
  have HM := Hid.mk' q2
  refine ⟨_, rfl, HK.out _ (HMK.out _ q2), ?_⟩
  clear q2 H1 HJ HS HL2 HK2
  simp only [Act.put, pA, pB, pC]
  refine wpOrd_call rfl 44 _ _ rfl Tryz.call44 [.pointer (some ⟨r, 0, none⟩), .slice pk 70 ck] rfl ?_
  refine Calls.mono (H2.out _ HM.out) ?_
  rintro e W3 ⟨rfl, q3⟩
  have HQ := Hid.mk' q3
  refine ⟨_, rfl, HK.out _ (HQK.out _ q3), ?_⟩
  clear q3 H2 HM
  simp only [Act.put, pA, pB, pC]
  refine wpOrd_yield (v := .bool true) rfl (fun u _ => by go_simp) ?_
  simp only [Act.put, pA, pB, pC]
  refine wpOrd_yield (v := .bool true) rfl (fun u _ => by go_simp) ?_
  simp only [Act.put, pA, pB, pC]
  refine wpOrd_nil ?_
  go_wp2
  go_ret
  exact ⟨rfl, HQ.out⟩
set_option maxRecDepth 20000 in
set_option maxHeartbeats 4000000 in
theorem act_recover {LA : Array Value} {N : Int} (h : ActI W I l P d r G l0 l1 m0 m1 vl vm on 7 n f tn) (hW : ∀ w, Calls Tryz.prog 18 #[H.geoV G.1 G.2.1 G.2.2, .int .i64 tn] w fun e w' => e = .returned (.agg LA) ∧ Below w.heap.size w w') (hT : Two l I 45 46 #[.pointer (some ⟨d, 0, none⟩), .agg LA] #[.pointer (some ⟨r, 0, none⟩), .agg LA] (.tuple #[.int .i64 N, .int .i64 E]) Q) (hQ : ∀ W, Q W → Kl l W) : Calls Tryz.prog 8 #[.pointer (some ⟨P, 0, none⟩), .agg (actRow on 7 n f tn)] W fun e W' => e = .returned (.bool true) ∧ Q W' := by
 obtain ⟨M, hMl, hMK, h1, h2⟩ := hT
 have H1 := Hid.mk' h1
 have H2 := Hid.mk' h2
 have HML := Hid.mk' hMl
 have HMK := Hid.mk' hMK
 have HQK := Hid.mk' hQ
 have HW := Hid.mk' hW
 clear hQ hW
 clear h1 h2 hMl hMK
 have hI := h.now
 have HL := Hid.mk' h.later
 have hpk := fun w => pick_any on 2 (by omega) w
 have hC := h.cells (h.kl _ hI)
 have HI := Hid.mk' hI
 have HK : Hid (∀ X, Kl l X → ActC X P W.heap.size d r G l0 l1 m0 m1 on 7 n f tn) := fun X hX => h.cells hX
 have HIK := Hid.mk' h.kl
 obtain ⟨b0, b1, b2, b3, b4, row, p3, p4, p5, p6, p7, p8⟩ := hC
 have hslot := h.slot
 clear h hI row
 rcases hslot with ⟨ho, hl, hm⟩ | ⟨ho, hl, hm⟩
 all_goals
  first | rw [hl] at p5 | rw [hl] at p6
  first | rw [hm] at p7 | rw [hm] at p8
  rw [ho] at hpk
  clear ho hl hm
  unfold actRow at *
  go_enter Tryz.func8, Tryz.ntmps8
  go_upto_region 1 with fail
  generalize W.alloc (.cells #[.int .i64 on, .int .i64 7, .int .i64 n, .int .u8 f, .int .i64 tn] 48) = X at *
  generalize W.heap.size = B at *
  go_wp2_with (first | (go_at_call 33; refine (hpk _).mono ?_; rintro e W1 ⟨rfl, hX1⟩; obtain rfl := hX1.symm))
  have HI2 : Hid (I X.drew) := HL.out _ _ HI.out (Below.refl _ _).drew
  have HS : Hid (ActC X.drew P B d r G l0 l1 m0 m1 on 7 n f tn) := HK.out _ (HIK.out _ HI2.out)
  clear b0 b1 b2 b3 b4 p3 p4 p5 p6 p7 p8 hpk
  refine wp_region_ord (S := fun X => ActC X P B d r G l0 l1 m0 m1 on 7 n f tn) [(0, true), (1, true), (2, true), (3, true), (4, true), (5, true), (6, true), (7, true), (8, true), (9, true), (10, false), (11, false), (12, true), (13, true), (14, true), (15, true), (16, true)] (by kernel_rfl) rfl (by kernel_rfl) (fun d _ _ _ _ h => by cases d <;> exact h) HS.out ?_
  simp only [inOrd, List.getElem?_cons_zero, List.getElem?_cons_succ]
  refine wpOrd_yield (v := .pointer (some ⟨P, 0, none⟩)) rfl (fun u _ => exec_mvP rfl rfl) ?_
  simp only [Act.put, pA, pB, pC]
  refine wpOrd_yield (v := .pointer (some ⟨P, 0, none⟩)) rfl (fun u _ => by go_simp) ?_
  simp only [Act.put, pA, pB, pC]
  refine wpOrd_yield (v := .pointer (some ⟨P, 3, none⟩)) rfl (fun u _ => by go_simp) ?_
  simp only [Act.put, pA, pB, pC]
  refine wpOrd_yield (v := .pointer (some ⟨d, 0, none⟩)) rfl (fun u hu => by have := hu.p3; go_simp) ?_
  simp only [Act.put, pA, pB, pC]
  refine wpOrd_yield (v := .pointer (some ⟨P, 0, none⟩)) rfl (fun u _ => exec_mvP rfl rfl) ?_
  simp only [Act.put, pA, pB, pC]
  refine wpOrd_yield (v := .pointer (some ⟨P, 0, none⟩)) rfl (fun u _ => by go_simp) ?_
  simp only [Act.put, pA, pB, pC]
  refine wpOrd_yield (v := .pointer (some ⟨P, 0, none⟩)) rfl (fun u _ => by go_simp) ?_
  simp only [Act.put, pA, pB, pC]
  refine wpOrd_yield (v := H.geoV G.1 G.2.1 G.2.2) rfl (fun u hu => exec_ldG rfl rfl hu.row) ?_
  simp only [Act.put, pA, pB, pC]
  refine wpOrd_yield (v := .pointer (some ⟨B, 4, none⟩)) rfl (fun u _ => by go_simp) ?_
  simp only [Act.put, pA, pB, pC]
  refine wpOrd_yield (v := .int .i64 tn) rfl (fun u hu => by have := hu.b4; go_simp) ?_
  simp only [Act.put, pA, pB, pC]
  refine wpOrd_call rfl 18 _ _ rfl Tryz.call18 [H.geoV G.1 G.2.1 G.2.2, .int .i64 tn] rfl ?_
  refine Calls.mono (HW.out _) ?_
  rintro e W1 ⟨rfl, q1⟩
  have HI3 := Hid.mk' (HL.out _ _ HI2.out q1)
  refine ⟨_, rfl, HK.out _ (HIK.out _ HI3.out), ?_⟩
  clear q1
  simp only [Act.put, pA, pB, pC]
  refine wpOrd_call rfl 45 _ _ rfl Tryz.call45 [.pointer (some ⟨d, 0, none⟩), .agg LA] rfl ?_
  refine Calls.mono (H1.out _ HI3.out) ?_
  rintro e W2 ⟨rfl, q2⟩
  have HM := Hid.mk' (HML.out _ _ q2 (Below.refl _ _).drew)
  refine ⟨_, rfl, HK.out _ (HMK.out _ q2), ?_⟩
  clear q2 H1 HI HI2 HI3 HL HIK HS
  simp only [Act.put, pA, pB, pC]
  refine wpOrd_yield (v := .tuple #[.int .i64 N, .int .i64 E]) rfl (fun u _ => exec_mvP rfl rfl) ?_
  simp only [Act.put, pA, pB, pC]
  refine wpOrd_yield (v := .int .i64 N) rfl (fun u _ => by go_simp) ?_
  simp only [Act.put, pA, pB, pC]
  refine wpOrd_yield (v := .int .i64 E) rfl (fun u _ => by go_simp) ?_
  simp only [Act.put, pA, pB, pC]
  refine wpOrd_yield (v := .int .i64 N) rfl (fun u _ => by go_simp) ?_
  simp only [Act.put, pA, pB, pC]
  refine wpOrd_yield (v := .int .i64 E) rfl (fun u _ => by go_simp) ?_
  simp only [Act.put, pA, pB, pC]
  refine wpOrd_nil ?_
  go_wp2
  have HS2 : Hid (ActC W2.drew P B d r G l0 l1 m0 m1 on 7 n f tn) := HK.out _ (HMK.out _ HM.out)
  refine wp_region_ord (S := fun X => ActC X P B d r G l0 l1 m0 m1 on 7 n f tn) [(0, true), (1, true), (2, true), (3, true), (4, true), (5, true), (6, true), (7, true), (8, true), (9, true), (10, false), (11, false), (12, true), (13, true), (14, true), (15, true), (16, true)] (by kernel_rfl) rfl (by kernel_rfl) (fun d _ _ _ _ h => by cases d <;> exact h) HS2.out ?_
  simp only [inOrd, List.getElem?_cons_zero, List.getElem?_cons_succ]
  refine wpOrd_yield (v := .pointer (some ⟨P, 0, none⟩)) rfl (fun u _ => exec_mvP rfl rfl) ?_
  simp only [Act.put, pA, pB, pC]
  refine wpOrd_yield (v := .pointer (some ⟨P, 0, none⟩)) rfl (fun u _ => by go_simp) ?_
  simp only [Act.put, pA, pB, pC]
  refine wpOrd_yield (v := .pointer (some ⟨P, 4, none⟩)) rfl (fun u _ => by go_simp) ?_
  simp only [Act.put, pA, pB, pC]
  refine wpOrd_yield (v := .pointer (some ⟨r, 0, none⟩)) rfl (fun u hu => by have := hu.p4; go_simp) ?_
  simp only [Act.put, pA, pB, pC]
  refine wpOrd_yield (v := .pointer (some ⟨P, 0, none⟩)) rfl (fun u _ => exec_mvP rfl rfl) ?_
  simp only [Act.put, pA, pB, pC]
  refine wpOrd_yield (v := .pointer (some ⟨P, 0, none⟩)) rfl (fun u _ => by go_simp) ?_
  simp only [Act.put, pA, pB, pC]
  refine wpOrd_yield (v := .pointer (some ⟨P, 0, none⟩)) rfl (fun u _ => by go_simp) ?_
  simp only [Act.put, pA, pB, pC]
  refine wpOrd_yield (v := H.geoV G.1 G.2.1 G.2.2) rfl (fun u hu => exec_ldG rfl rfl hu.row) ?_
  simp only [Act.put, pA, pB, pC]
  refine wpOrd_yield (v := .pointer (some ⟨B, 4, none⟩)) rfl (fun u _ => by go_simp) ?_
  simp only [Act.put, pA, pB, pC]
  refine wpOrd_yield (v := .int .i64 tn) rfl (fun u hu => by have := hu.b4; go_simp) ?_
  simp only [Act.put, pA, pB, pC]
  refine wpOrd_call rfl 18 _ _ rfl Tryz.call18 [H.geoV G.1 G.2.1 G.2.2, .int .i64 tn] rfl ?_
  refine Calls.mono (HW.out _) ?_
  rintro e W1 ⟨rfl, q1⟩
  have HM2 := Hid.mk' (HML.out _ _ HM.out q1)
  refine ⟨_, rfl, HK.out _ (HMK.out _ HM2.out), ?_⟩
  clear q1
  simp only [Act.put, pA, pB, pC]
  refine wpOrd_call rfl 46 _ _ rfl Tryz.call46 [.pointer (some ⟨r, 0, none⟩), .agg LA] rfl ?_
  refine Calls.mono (H2.out _ HM2.out) ?_
  rintro e W3 ⟨rfl, q3⟩
  have HQ := Hid.mk' q3
  refine ⟨_, rfl, HK.out _ (HQK.out _ q3), ?_⟩
  clear q3 H2 HM HM2 HML HMK HS2
  simp only [Act.put, pA, pB, pC]
  refine wpOrd_yield (v := .tuple #[.int .i64 N, .int .i64 E]) rfl (fun u _ => exec_mvP rfl rfl) ?_
  simp only [Act.put, pA, pB, pC]
  refine wpOrd_yield (v := .int .i64 N) rfl (fun u _ => by go_simp) ?_
  simp only [Act.put, pA, pB, pC]
  refine wpOrd_yield (v := .int .i64 E) rfl (fun u _ => by go_simp) ?_
  simp only [Act.put, pA, pB, pC]
  refine wpOrd_yield (v := .int .i64 N) rfl (fun u _ => by go_simp) ?_
  simp only [Act.put, pA, pB, pC]
  refine wpOrd_yield (v := .int .i64 E) rfl (fun u _ => by go_simp) ?_
  simp only [Act.put, pA, pB, pC]
  refine wpOrd_nil ?_
  go_wp2
  go_ret
  exact ⟨rfl, HQ.out⟩
end
end Go.Proofs.YtichojdcoegboaaGreatW
