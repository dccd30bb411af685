/- One call of both sides, by its kind: Read and Write of a log, Fuse and Crash of the disk; walked over whatever both calls make of memory; no condition. -/
import Derived.Test.YtichojdcoegboaaGreatK39
namespace Go.Proofs.YtichojdcoegboaaGreatW
open Go.RowKit Go.Maps
section
variable {W : World} {I Q : World → Prop} {l : List Part} {P d r : Nat} {G : Int × Int × Int} {l0 l1 m0 m1 vl vm : Value} {on c n f tn E : Int}
theorem isEq64 {ops : Array Oper} {rest : List Oper} {a : Act} {w : World} {Q : Exit → Act → World → Prop} {dst : Option Tmp} {x y : Operand} {ty : TypeId} {pos : String} {aft : Array Edge} {gd : Option (Nat × Bool)} (h : wpList Tryz.prog ops Q (⟨dst, .binOp .eql 64 x y 64, ty, pos, aft, gd⟩ :: rest) a w) : wpList Tryz.prog ops Q (⟨dst, .binOp .eql 64 x y 64, ty, pos, aft, gd⟩ :: rest) a w := h
set_option maxRecDepth 20000 in
set_option maxHeartbeats 4000000 in
theorem act_read {F : Nat → Int} (h : ActI W I l P d r G l0 l1 m0 m1 vl vm on 2 n f tn) (hT : TwoB l I 36 37 #[vl, .int .i64 n] #[vm, .int .i64 n] (.tuple #[.agg (blk F), .int .i64 E]) Q) (hQ : ∀ W W', Q W → Below W.heap.size W W' → Q W') : Calls Tryz.prog 8 #[.pointer (some ⟨P, 0, none⟩), .agg (actRow on 2 n f tn)] W fun e W' => e = .returned (.bool true) ∧ Q W' := by
 obtain ⟨M, hMl, hMK, h1, h2⟩ := hT
 have H1 := Hid.mk' h1
 have H2 := Hid.mk' h2
 have HML := Hid.mk' hMl
 have HMK := Hid.mk' hMK
 have HQL := Hid.mk' hQ
 clear hQ
 have z25 := zero25
 clear h1 h2 hMl hMK
 have hI := h.now
 have HL := Hid.mk' h.later
 have hpk := fun w => pick_any on 2 (by omega) w
 have hC := h.cells (h.kl _ hI)
 have HI := Hid.mk' hI
 have HK : Hid (∀ X, Kl l X → ActC X P W.heap.size d r G l0 l1 m0 m1 on 2 n f tn) := fun X hX => h.cells hX
 have HIK := Hid.mk' h.kl
 obtain ⟨b0, b1, b2, b3, b4, row, p3, p4, p5, p6, p7, p8⟩ := hC
 have hslot := h.slot
 clear h hI row
 rcases hslot with ⟨ho, hl, hm⟩ | ⟨ho, hl, hm⟩
 all_goals
  first | rw [hl] at p5 | rw [hl] at p6
  first | rw [hm] at p7 | rw [hm] at p8
  rw [ho] at hpk
  clear ho hl hm
  unfold actRow at *
  go_enter Tryz.func8, Tryz.ntmps8
  go_upto_region 1 with fail
  generalize W.alloc (.cells #[.int .i64 on, .int .i64 2, .int .i64 n, .int .u8 f, .int .i64 tn] 48) = X at *
  generalize W.heap.size = B at *
  go_wp2_with (first | (go_at_call 33; refine (hpk _).mono ?_; rintro e W1 ⟨rfl, hX1⟩; obtain rfl := hX1.symm) | (go_at_call 36; fail))
  refine Calls.mono (H1.out _ HI.out) ?_
  rintro e W2 ⟨rfl, q2⟩
  have HC2 := Hid.mk' (H2.out W2 (.cells (blk F) 64) q2)
  have c2 := (HK.out _ (HMK.out _ (HML.out _ _ q2 (below_new W2 (.cells (blk F) 64))))).b2
  clear q2 H1 H2 HI HL HK HIK HMK HML b0 b1 b2 b3 b4 p3 p4 p5 p6 p7 p8 hpk
  go_wp2_with (first | refine wpList_store25_new rfl (.tmp 8) (.tmp 63) rfl F _ rfl rfl ?_ | (go_at_call 37; fail))
  refine Calls.mono HC2.out ?_
  rintro e W3 ⟨rfl, q3, k3⟩
  have k4 := heap_kept k3 (below_new W3 (.cells (blk F) 64))
  have k5 := heap_alloc_new W3 (.cells (blk F) 64)
  have HQ := Hid.mk' (HQL.out _ _ q3 (below_new W3 (.cells (blk F) 64)))
  clear q3 HC2 HQL c2 k3
  go_wp2_with (first | refine wpList_store25_new rfl (.tmp 10) (.tmp 70) rfl F _ rfl rfl ?_ | (with_reducible refine isLoad 64 ?_; refine wpList_load25 rfl (.tmp 8) rfl W2.heap.size rfl _ k4 ?_) | (with_reducible refine isLoad 64 ?_; refine wpList_load25 rfl (.tmp 10) rfl W3.heap.size rfl _ k5 ?_) | (with_reducible refine isEq64 ?_; refine wpList_ex8 rfl (exec_eqB rfl rfl rfl _) ?_))
  go_ret
  exact ⟨rfl, HQ.out⟩
set_option maxRecDepth 20000 in
set_option maxHeartbeats 4000000 in
theorem act_write (h : ActI W I l P d r G l0 l1 m0 m1 vl vm on 3 n f tn) (hf : 0 ≤ f ∧ f ≤ 255) (hT : Two l I 20 38 #[vl, .int .i64 n, .agg (blk (blkF f))] #[vm, .int .i64 n, .agg (blk (blkF f))] (.int .i64 E) Q) (hQ : ∀ W, Q W → Kl l W) : Calls Tryz.prog 8 #[.pointer (some ⟨P, 0, none⟩), .agg (actRow on 3 n f tn)] W fun e W' => e = .returned (.bool true) ∧ Q W' := by
 obtain ⟨M, hMl, hMK, h1, h2⟩ := hT
 have H1 := Hid.mk' h1
 have H2 := Hid.mk' h2
 have HML := Hid.mk' hMl
 have HMK := Hid.mk' hMK
 have HQK := Hid.mk' hQ
 clear hQ
 have HBL := Hid.mk' fun w => block_any f hf w
 clear hf
 clear h1 h2 hMl hMK
 have hI := h.now
 have HL := Hid.mk' h.later
 have hpk := fun w => pick_any on 2 (by omega) w
 have hC := h.cells (h.kl _ hI)
 have HI := Hid.mk' hI
 have HK : Hid (∀ X, Kl l X → ActC X P W.heap.size d r G l0 l1 m0 m1 on 3 n f tn) := fun X hX => h.cells hX
 have HIK := Hid.mk' h.kl
 obtain ⟨b0, b1, b2, b3, b4, row, p3, p4, p5, p6, p7, p8⟩ := hC
 have hslot := h.slot
 clear h hI row
 rcases hslot with ⟨ho, hl, hm⟩ | ⟨ho, hl, hm⟩
 all_goals
  first | rw [hl] at p5 | rw [hl] at p6
  first | rw [hm] at p7 | rw [hm] at p8
  rw [ho] at hpk
  clear ho hl hm
  unfold actRow at *
  go_enter Tryz.func8, Tryz.ntmps8
  go_upto_region 1 with fail
  generalize W.alloc (.cells #[.int .i64 on, .int .i64 3, .int .i64 n, .int .u8 f, .int .i64 tn] 48) = X at *
  generalize W.heap.size = B at *
  go_wp2_with (first | (go_at_call 33; refine (hpk _).mono ?_; rintro e W1 ⟨rfl, hX1⟩; obtain rfl := hX1.symm))
  have HI2 : Hid (I X.drew) := HL.out _ _ HI.out (Below.refl _ _).drew
  have HS : Hid (ActC X.drew P B d r G l0 l1 m0 m1 on 3 n f tn) := HK.out _ (HIK.out _ HI2.out)
  refine wp_region_ord (S := fun X => ActC X P B d r G l0 l1 m0 m1 on 3 n f tn) [(0, true), (1, true), (2, true), (3, true), (4, true), (7, true), (8, true), (9, true), (10, true), (11, true), (5, false), (6, false), (12, false), (13, false), (14, true), (15, true)] (by kernel_rfl) rfl (by kernel_rfl) (fun d _ _ _ _ h => by cases d <;> exact h) HS.out ?_
  simp only [inOrd, List.getElem?_cons_zero, List.getElem?_cons_succ]
  refine wpOrd_yield (v := vl) rfl (fun u _ => exec_mvP rfl rfl) ?_
  simp only [Act.put, pA, pB, pC]
  refine wpOrd_yield (v := .pointer (some ⟨B, 2, none⟩)) rfl (fun u _ => by go_simp) ?_
  simp only [Act.put, pA, pB, pC]
  refine wpOrd_yield (v := .int .i64 n) rfl (fun u hu => by have := hu.b2; go_simp) ?_
  simp only [Act.put, pA, pB, pC]
  refine wpOrd_yield (v := .pointer (some ⟨B, 3, none⟩)) rfl (fun u _ => by go_simp) ?_
  simp only [Act.put, pA, pB, pC]
  refine wpOrd_yield (v := .int .u8 f) rfl (fun u hu => by have := hu.b3; go_simp) ?_
  simp only [Act.put, pA, pB, pC]
  refine wpOrd_yield (v := vm) rfl (fun u _ => exec_mvP rfl rfl) ?_
  simp only [Act.put, pA, pB, pC]
  refine wpOrd_yield (v := .pointer (some ⟨B, 2, none⟩)) rfl (fun u _ => by go_simp) ?_
  simp only [Act.put, pA, pB, pC]
  refine wpOrd_yield (v := .int .i64 n) rfl (fun u hu => by have := hu.b2; go_simp) ?_
  simp only [Act.put, pA, pB, pC]
  refine wpOrd_yield (v := .pointer (some ⟨B, 3, none⟩)) rfl (fun u _ => by go_simp) ?_
  simp only [Act.put, pA, pB, pC]
  refine wpOrd_yield (v := .int .u8 f) rfl (fun u hu => by have := hu.b3; go_simp) ?_
  simp only [Act.put, pA, pB, pC]
  clear b0 b1 b2 b3 b4 p3 p4 p5 p6 p7 p8
  refine wpOrd_call rfl 21 _ _ rfl Tryz.call21 [.int .u8 f] rfl ?_
  refine Calls.mono (HBL.out _) ?_
  rintro e W1 ⟨rfl, q1⟩
  have HI3 := Hid.mk' (HL.out _ _ HI2.out q1)
  refine ⟨_, rfl, HK.out _ (HIK.out _ HI3.out), ?_⟩
  clear q1 HI HI2 HS HL
  simp only [Act.put, pA, pB, pC]
  refine wpOrd_call rfl 20 _ _ rfl Tryz.call20 [vl, .int .i64 n, .agg (blk (blkF f))] rfl ?_
  refine Calls.mono (H1.out _ HI3.out) ?_
  rintro e W2 ⟨rfl, q2⟩
  have HM := Hid.mk' q2
  refine ⟨_, rfl, HK.out _ (HMK.out _ q2), ?_⟩
  clear q2 H1 HI3 HIK
  simp only [Act.put, pA, pB, pC]
  refine wpOrd_call rfl 21 _ _ rfl Tryz.call21 [.int .u8 f] rfl ?_
  refine Calls.mono (HBL.out _) ?_
  rintro e W3 ⟨rfl, q3⟩
  have HM2 := Hid.mk' (HML.out _ _ HM.out q3)
  refine ⟨_, rfl, HK.out _ (HMK.out _ HM2.out), ?_⟩
  clear q3 HM HML HBL
  simp only [Act.put, pA, pB, pC]
  refine wpOrd_call rfl 38 _ _ rfl Tryz.call38 [vm, .int .i64 n, .agg (blk (blkF f))] rfl ?_
  refine Calls.mono (H2.out _ HM2.out) ?_
  rintro e W4 ⟨rfl, q4⟩
  have HQ := Hid.mk' q4
  refine ⟨_, rfl, HK.out _ (HQK.out _ q4), ?_⟩
  clear q4 H2 HM2 HMK HQK
  simp only [Act.put, pA, pB, pC]
  refine wpOrd_yield (v := .bool true) rfl (fun u _ => by go_simp) ?_
  simp only [Act.put, pA, pB, pC]
  refine wpOrd_yield (v := .bool true) rfl (fun u _ => by go_simp) ?_
  simp only [Act.put, pA, pB, pC]
  refine wpOrd_nil ?_
  go_wp2
  go_ret
  exact ⟨rfl, HQ.out⟩
set_option maxRecDepth 20000 in
set_option maxHeartbeats 4000000 in
theorem act_fuse {Q2 : World → Prop} (h : ActI W I l P d r G l0 l1 m0 m1 vl vm on 5 n f tn) (hT : Two l I 40 41 #[.pointer (some ⟨d, 0, none⟩), .int .i64 n] #[.pointer (some ⟨r, 0, none⟩), .int .i64 n] (.tuple #[]) Q) (hQ : ∀ W, Q W → Kl l W) (hT2 : Two l Q 50 51 #[vl] #[vm] (.int .i64 E) Q2) : Calls Tryz.prog 8 #[.pointer (some ⟨P, 0, none⟩), .agg (actRow on 5 n f tn)] W fun e W' => e = .returned (.bool true) ∧ Q2 W' := by
 obtain ⟨M, hMl, hMK, h1, h2⟩ := hT
 have H1 := Hid.mk' h1
 have H2 := Hid.mk' h2
 have HML := Hid.mk' hMl
 have HMK := Hid.mk' hMK
 have HQK := Hid.mk' hQ
 clear hQ
 clear h1 h2 hMl hMK
 obtain ⟨M2, hMl2, hMK2, h3, h4⟩ := hT2
 have H3 := Hid.mk' h3
 have H4 := Hid.mk' h4
 clear h3 h4 hMl2 hMK2
 have hI := h.now
 have HL := Hid.mk' h.later
 have hpk := fun w => pick_any on 2 (by omega) w
 have hC := h.cells (h.kl _ hI)
 have HI := Hid.mk' hI
 have HK : Hid (∀ X, Kl l X → ActC X P W.heap.size d r G l0 l1 m0 m1 on 5 n f tn) := fun X hX => h.cells hX
 have HIK := Hid.mk' h.kl
 obtain ⟨b0, b1, b2, b3, b4, row, p3, p4, p5, p6, p7, p8⟩ := hC
 have hslot := h.slot
 clear h hI row
 rcases hslot with ⟨ho, hl, hm⟩ | ⟨ho, hl, hm⟩
 all_goals
  first | rw [hl] at p5 | rw [hl] at p6
  first | rw [hm] at p7 | rw [hm] at p8
  rw [ho] at hpk
  clear ho hl hm
  unfold actRow at *
  go_enter Tryz.func8, Tryz.ntmps8
  go_upto_region 1 with fail
  generalize W.alloc (.cells #[.int .i64 on, .int .i64 5, .int .i64 n, .int .u8 f, .int .i64 tn] 48) = X at *
  generalize W.heap.size = B at *
  go_wp2_with (first | (go_at_call 33; refine (hpk _).mono ?_; rintro e W1 ⟨rfl, hX1⟩; obtain rfl := hX1.symm))
  have HI2 : Hid (I X.drew) := HL.out _ _ HI.out (Below.refl _ _).drew
  have HS : Hid (ActC X.drew P B d r G l0 l1 m0 m1 on 5 n f tn) := HK.out _ (HIK.out _ HI2.out)
  refine wp_region_ord (S := fun X => ActC X P B d r G l0 l1 m0 m1 on 5 n f tn) [(0, true), (1, true), (2, true), (3, true), (4, true), (5, true), (6, false)] (by kernel_rfl) rfl (by kernel_rfl) (fun d _ _ _ _ h => by cases d <;> exact h) HS.out ?_
  simp only [inOrd, List.getElem?_cons_zero, List.getElem?_cons_succ]
  refine wpOrd_yield (v := .pointer (some ⟨P, 0, none⟩)) rfl (fun u _ => exec_mvP rfl rfl) ?_
  simp only [Act.put, pA, pB, pC]
  refine wpOrd_yield (v := .pointer (some ⟨P, 0, none⟩)) rfl (fun u _ => by go_simp) ?_
  simp only [Act.put, pA, pB, pC]
  refine wpOrd_yield (v := .pointer (some ⟨P, 3, none⟩)) rfl (fun u _ => by go_simp) ?_
  simp only [Act.put, pA, pB, pC]
  refine wpOrd_yield (v := .pointer (some ⟨d, 0, none⟩)) rfl (fun u hu => by have := hu.p3; go_simp) ?_
  simp only [Act.put, pA, pB, pC]
  refine wpOrd_yield (v := .pointer (some ⟨B, 2, none⟩)) rfl (fun u _ => by go_simp) ?_
  simp only [Act.put, pA, pB, pC]
  refine wpOrd_yield (v := .int .i64 n) rfl (fun u hu => by have := hu.b2; go_simp) ?_
  simp only [Act.put, pA, pB, pC]
  clear b0 b1 b2 b3 b4 p3 p4 p5 p6 p7 p8
  refine wpOrd_call rfl 40 _ _ rfl Tryz.call40 [.pointer (some ⟨d, 0, none⟩), .int .i64 n] rfl ?_
  refine Calls.mono (H1.out _ HI2.out) ?_
  rintro e W2 ⟨rfl, q2⟩
  have HM := Hid.mk' (HML.out _ _ q2 (Below.refl _ _).drew)
  refine ⟨_, rfl, HK.out _ (HMK.out _ q2), ?_⟩
  clear q2 H1 HI HI2 HL HIK HS
  simp only [Act.put, pA, pB, pC]
  refine wpOrd_nil ?_
  go_wp2
  have HS2 : Hid (ActC W2.drew P B d r G l0 l1 m0 m1 on 5 n f tn) := HK.out _ (HMK.out _ HM.out)
  refine wp_region_ord (S := fun X => ActC X P B d r G l0 l1 m0 m1 on 5 n f tn) [(0, true), (1, true), (2, true), (3, true), (4, true), (5, true), (6, false)] (by kernel_rfl) rfl (by kernel_rfl) (fun d _ _ _ _ h => by cases d <;> exact h) HS2.out ?_
  simp only [inOrd, List.getElem?_cons_zero, List.getElem?_cons_succ]
  refine wpOrd_yield (v := .pointer (some ⟨P, 0, none⟩)) rfl (fun u _ => exec_mvP rfl rfl) ?_
  simp only [Act.put, pA, pB, pC]
  refine wpOrd_yield (v := .pointer (some ⟨P, 0, none⟩)) rfl (fun u _ => by go_simp) ?_
  simp only [Act.put, pA, pB, pC]
  refine wpOrd_yield (v := .pointer (some ⟨P, 4, none⟩)) rfl (fun u _ => by go_simp) ?_
  simp only [Act.put, pA, pB, pC]
  refine wpOrd_yield (v := .pointer (some ⟨r, 0, none⟩)) rfl (fun u hu => by have := hu.p4; go_simp) ?_
  simp only [Act.put, pA, pB, pC]
  refine wpOrd_yield (v := .pointer (some ⟨B, 2, none⟩)) rfl (fun u _ => by go_simp) ?_
  simp only [Act.put, pA, pB, pC]
  refine wpOrd_yield (v := .int .i64 n) rfl (fun u hu => by have := hu.b2; go_simp) ?_
  simp only [Act.put, pA, pB, pC]
  refine wpOrd_call rfl 41 _ _ rfl Tryz.call41 [.pointer (some ⟨r, 0, none⟩), .int .i64 n] rfl ?_
  refine Calls.mono (H2.out _ HM.out) ?_
  rintro e W3 ⟨rfl, q3⟩
  have HQ := Hid.mk' q3
  refine ⟨_, rfl, HK.out _ (HQK.out _ q3), ?_⟩
  clear q3 H2 HM HMK HML HQK HS2 HK
  simp only [Act.put, pA, pB, pC]
  refine wpOrd_nil ?_
  go_wp2_with (go_at_call 50; fail)
  refine Calls.mono (H3.out _ HQ.out) ?_
  rintro e W4 ⟨rfl, q4⟩
  have HM4 := Hid.mk' q4
  clear q4 H3 HQ
  go_wp2_with (go_at_call 51; fail)
  refine Calls.mono (H4.out _ HM4.out) ?_
  rintro e W5 ⟨rfl, q5⟩
  have HQ5 := Hid.mk' q5
  clear q5 H4 HM4
  go_wp2
  go_ret
  exact ⟨rfl, HQ5.out⟩
end
end Go.Proofs.YtichojdcoegboaaGreatW
