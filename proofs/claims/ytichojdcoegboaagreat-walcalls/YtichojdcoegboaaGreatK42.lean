/- One call of both sides, by its kind: New; walked over whatever both calls make of memory; no condition. -/
import Derived.Test.YtichojdcoegboaaGreatK41
namespace Go.Proofs.YtichojdcoegboaaGreatW
open Go.RowKit Go.Maps
section
variable {W : World} {I Q : World → Prop} {l : List Part} {P d r : Nat} {G : Int × Int × Int} {l0 l1 m0 m1 vl vm : Value} {on c n f tn E : Int}
set_option maxRecDepth 20000 in
set_option maxHeartbeats 4000000 in
theorem act_refused {LA : Array Value} {Q0 : World → Prop} (h : ActI W I l P d r G l0 l1 m0 m1 vl vm on 8 n f tn) (hW : ∀ w, Calls Tryz.prog 18 #[H.geoV G.1 G.2.1 G.2.2, .int .i64 tn] w fun e w' => e = .returned (.agg LA) ∧ Below w.heap.size w w') (hT : Two l I 17 47 #[.pointer (some ⟨d, 0, none⟩), .agg LA] #[.pointer (some ⟨r, 0, none⟩), .agg LA] (.tuple #[.pointer none, .int .i64 E]) Q0) (hQ : ∀ W, Q0 W → Kl l W) (hS : ∀ W, Q0 W → (on % 2 = 0 → Q ((W.setCell ⟨P, 5, none⟩ (.pointer none)).setCell ⟨P, 7, none⟩ (.pointer none))) ∧ (on % 2 = 1 → Q ((W.setCell ⟨P, 6, none⟩ (.pointer none)).setCell ⟨P, 8, none⟩ (.pointer none)))) : Calls Tryz.prog 8 #[.pointer (some ⟨P, 0, none⟩), .agg (actRow on 8 n f tn)] W fun e W' => e = .returned (.bool true) ∧ Q W' := by
 obtain ⟨M, hMl, hMK, h1, h2⟩ := hT
 have H1 := Hid.mk' h1
 have H2 := Hid.mk' h2
 have HML := Hid.mk' hMl
 have HMK := Hid.mk' hMK
 have HQK := Hid.mk' hQ
 have HW := Hid.mk' hW
 have HSS := Hid.mk' hS
 clear hQ hW hS
 clear h1 h2 hMl hMK
 have hI := h.now
 have HL := Hid.mk' h.later
 have hpk := fun w => pick_any on 2 (by omega) w
 have hC := h.cells (h.kl _ hI)
 have HI := Hid.mk' hI
 have HK : Hid (∀ X, Kl l X → ActC X P W.heap.size d r G l0 l1 m0 m1 on 8 n f tn) := fun X hX => h.cells hX
 have HIK := Hid.mk' h.kl
 obtain ⟨b0, b1, b2, b3, b4, row, p3, p4, p5, p6, p7, p8⟩ := hC
 have hslot := h.slot
 clear h hI row
 rcases hslot with ⟨ho, hl, hm⟩ | ⟨ho, hl, hm⟩
 all_goals
  first | rw [hl] at p5 | rw [hl] at p6
  first | rw [hm] at p7 | rw [hm] at p8
  rw [ho] at hpk
  have HO := Hid.mk' ho
  clear ho hl hm
  unfold actRow at *
  go_enter Tryz.func8, Tryz.ntmps8
  go_upto_region 1 with fail
  generalize W.alloc (.cells #[.int .i64 on, .int .i64 8, .int .i64 n, .int .u8 f, .int .i64 tn] 48) = X at *
  generalize W.heap.size = B at *
  go_wp2_with (first | (go_at_call 33; refine (hpk _).mono ?_; rintro e W1 ⟨rfl, hX1⟩; obtain rfl := hX1.symm))
  have HI2 : Hid (I X.drew) := HL.out _ _ HI.out (Below.refl _ _).drew
  have HS : Hid (ActC X.drew P B d r G l0 l1 m0 m1 on 8 n f tn) := HK.out _ (HIK.out _ HI2.out)
  clear b0 b1 b2 b3 b4 p3 p4 p5 p6 p7 p8 hpk
  refine wp_region_ord (S := fun X => ActC X P B d r G l0 l1 m0 m1 on 8 n f tn) [(0, true), (1, true), (2, true), (3, true), (4, true), (5, true), (6, true), (7, true), (8, true), (9, true), (10, false), (11, false), (12, true), (13, true), (14, true), (15, true), (16, true)] (by kernel_rfl) rfl (by kernel_rfl) (fun d _ _ _ _ h => by cases d <;> exact h) HS.out ?_
  simp only [inOrd, List.getElem?_cons_zero, List.getElem?_cons_succ]
  refine wpOrd_yield (v := .pointer (some ⟨P, 0, none⟩)) rfl (fun u _ => exec_mvP rfl rfl) ?_
  simp only [Act.put, pA, pB, pC]
  refine wpOrd_yield (v := .pointer (some ⟨P, 0, none⟩)) rfl (fun u _ => by go_simp) ?_
  simp only [Act.put, pA, pB, pC]
  refine wpOrd_yield (v := .pointer (some ⟨P, 3, none⟩)) rfl (fun u _ => by go_simp) ?_
  simp only [Act.put, pA, pB, pC]
  refine wpOrd_yield (v := .pointer (some ⟨d, 0, none⟩)) rfl (fun u hu => by have := hu.p3; go_simp) ?_
  simp only [Act.put, pA, pB, pC]
  refine wpOrd_yield (v := .pointer (some ⟨P, 0, none⟩)) rfl (fun u _ => exec_mvP rfl rfl) ?_
  simp only [Act.put, pA, pB, pC]
  refine wpOrd_yield (v := .pointer (some ⟨P, 0, none⟩)) rfl (fun u _ => by go_simp) ?_
  simp only [Act.put, pA, pB, pC]
  refine wpOrd_yield (v := .pointer (some ⟨P, 0, none⟩)) rfl (fun u _ => by go_simp) ?_
  simp only [Act.put, pA, pB, pC]
  refine wpOrd_yield (v := H.geoV G.1 G.2.1 G.2.2) rfl (fun u hu => exec_ldG rfl rfl hu.row) ?_
  simp only [Act.put, pA, pB, pC]
  refine wpOrd_yield (v := .pointer (some ⟨B, 4, none⟩)) rfl (fun u _ => by go_simp) ?_
  simp only [Act.put, pA, pB, pC]
  refine wpOrd_yield (v := .int .i64 tn) rfl (fun u hu => by have := hu.b4; go_simp) ?_
  simp only [Act.put, pA, pB, pC]
  refine wpOrd_call rfl 18 _ _ rfl Tryz.call18 [H.geoV G.1 G.2.1 G.2.2, .int .i64 tn] rfl ?_
  refine Calls.mono (HW.out _) ?_
  rintro e W1 ⟨rfl, q1⟩
  have HI3 := Hid.mk' (HL.out _ _ HI2.out q1)
  refine ⟨_, rfl, HK.out _ (HIK.out _ HI3.out), ?_⟩
  clear q1
  simp only [Act.put, pA, pB, pC]
  refine wpOrd_call rfl 17 _ _ rfl Tryz.call17 [.pointer (some ⟨d, 0, none⟩), .agg LA] rfl ?_
  refine Calls.mono (H1.out _ HI3.out) ?_
  rintro e W2 ⟨rfl, q2⟩
  have HM := Hid.mk' (HML.out _ _ q2 (Below.refl _ _).drew)
  refine ⟨_, rfl, HK.out _ (HMK.out _ q2), ?_⟩
  clear q2 H1 HI HI2 HI3 HL HIK HS
  simp only [Act.put, pA, pB, pC]
  refine wpOrd_yield (v := .tuple #[.pointer none, .int .i64 E]) rfl (fun u _ => exec_mvP rfl rfl) ?_
  simp only [Act.put, pA, pB, pC]
  refine wpOrd_yield (v := .pointer none) rfl (fun u _ => by go_simp) ?_
  simp only [Act.put, pA, pB, pC]
  refine wpOrd_yield (v := .int .i64 E) rfl (fun u _ => by go_simp) ?_
  simp only [Act.put, pA, pB, pC]
  refine wpOrd_yield (v := .pointer none) rfl (fun u _ => by go_simp) ?_
  simp only [Act.put, pA, pB, pC]
  refine wpOrd_yield (v := .int .i64 E) rfl (fun u _ => by go_simp) ?_
  simp only [Act.put, pA, pB, pC]
  refine wpOrd_nil ?_
  go_wp2
  have HS2 : Hid (ActC W2.drew P B d r G l0 l1 m0 m1 on 8 n f tn) := HK.out _ (HMK.out _ HM.out)
  refine wp_region_ord (S := fun X => ActC X P B d r G l0 l1 m0 m1 on 8 n f tn) [(0, true), (1, true), (2, true), (3, true), (4, true), (5, true), (6, true), (7, true), (8, true), (9, true), (10, false), (11, false), (12, true), (13, true), (14, true), (15, true), (16, true)] (by kernel_rfl) rfl (by kernel_rfl) (fun d _ _ _ _ h => by cases d <;> exact h) HS2.out ?_
  simp only [inOrd, List.getElem?_cons_zero, List.getElem?_cons_succ]
  refine wpOrd_yield (v := .pointer (some ⟨P, 0, none⟩)) rfl (fun u _ => exec_mvP rfl rfl) ?_
  simp only [Act.put, pA, pB, pC]
  refine wpOrd_yield (v := .pointer (some ⟨P, 0, none⟩)) rfl (fun u _ => by go_simp) ?_
  simp only [Act.put, pA, pB, pC]
  refine wpOrd_yield (v := .pointer (some ⟨P, 4, none⟩)) rfl (fun u _ => by go_simp) ?_
  simp only [Act.put, pA, pB, pC]
  refine wpOrd_yield (v := .pointer (some ⟨r, 0, none⟩)) rfl (fun u hu => by have := hu.p4; go_simp) ?_
  simp only [Act.put, pA, pB, pC]
  refine wpOrd_yield (v := .pointer (some ⟨P, 0, none⟩)) rfl (fun u _ => exec_mvP rfl rfl) ?_
  simp only [Act.put, pA, pB, pC]
  refine wpOrd_yield (v := .pointer (some ⟨P, 0, none⟩)) rfl (fun u _ => by go_simp) ?_
  simp only [Act.put, pA, pB, pC]
  refine wpOrd_yield (v := .pointer (some ⟨P, 0, none⟩)) rfl (fun u _ => by go_simp) ?_
  simp only [Act.put, pA, pB, pC]
  refine wpOrd_yield (v := H.geoV G.1 G.2.1 G.2.2) rfl (fun u hu => exec_ldG rfl rfl hu.row) ?_
  simp only [Act.put, pA, pB, pC]
  refine wpOrd_yield (v := .pointer (some ⟨B, 4, none⟩)) rfl (fun u _ => by go_simp) ?_
  simp only [Act.put, pA, pB, pC]
  refine wpOrd_yield (v := .int .i64 tn) rfl (fun u hu => by have := hu.b4; go_simp) ?_
  simp only [Act.put, pA, pB, pC]
  refine wpOrd_call rfl 18 _ _ rfl Tryz.call18 [H.geoV G.1 G.2.1 G.2.2, .int .i64 tn] rfl ?_
  refine Calls.mono (HW.out _) ?_
  rintro e W1 ⟨rfl, q1⟩
  have HM2 := Hid.mk' (HML.out _ _ HM.out q1)
  refine ⟨_, rfl, HK.out _ (HMK.out _ HM2.out), ?_⟩
  clear q1
  simp only [Act.put, pA, pB, pC]
  refine wpOrd_call rfl 47 _ _ rfl Tryz.call47 [.pointer (some ⟨r, 0, none⟩), .agg LA] rfl ?_
  refine Calls.mono (H2.out _ HM2.out) ?_
  rintro e W3 ⟨rfl, q3⟩
  have hrow := (HK.out _ (HQK.out _ q3)).row
  refine ⟨_, rfl, HK.out _ (HQK.out _ q3), ?_⟩
  have hrow5 := heap_setCell_same W3 P 5 _ 45 (.pointer none) hrow
  have hrow6 := heap_setCell_same W3 P 6 _ 45 (.pointer none) hrow
  have f1 : W3.frozen? ⟨P, 5, none⟩ = false := Joins.unfrozen_of_block hrow 5
  have f2 : W3.cell? ⟨P, 5, none⟩ = some l0 := Joins.cell_of_block hrow 5
  have f3 : (W3.setCell ⟨P, 5, none⟩ (.pointer none)).frozen? ⟨P, 7, none⟩ = false := Joins.unfrozen_of_block hrow5 7
  have f4 : (W3.setCell ⟨P, 5, none⟩ (.pointer none)).cell? ⟨P, 7, none⟩ = some m0 := Joins.cell_of_block hrow5 7
  have f5 : W3.frozen? ⟨P, 6, none⟩ = false := Joins.unfrozen_of_block hrow 6
  have f6 : W3.cell? ⟨P, 6, none⟩ = some l1 := Joins.cell_of_block hrow 6
  have f7 : (W3.setCell ⟨P, 6, none⟩ (.pointer none)).frozen? ⟨P, 8, none⟩ = false := Joins.unfrozen_of_block hrow6 8
  have f8 : (W3.setCell ⟨P, 6, none⟩ (.pointer none)).cell? ⟨P, 8, none⟩ = some m1 := Joins.cell_of_block hrow6 8
  have HQ := Hid.mk' (HSS.out _ q3)
  clear q3 H2 HM HM2 HML HMK HS2 HK HQK HSS hrow hrow5 hrow6
  simp only [Act.put, pA, pB, pC]
  refine wpOrd_yield (v := .tuple #[.pointer none, .int .i64 E]) rfl (fun u _ => exec_mvP rfl rfl) ?_
  simp only [Act.put, pA, pB, pC]
  refine wpOrd_yield (v := .pointer none) rfl (fun u _ => by go_simp) ?_
  simp only [Act.put, pA, pB, pC]
  refine wpOrd_yield (v := .int .i64 E) rfl (fun u _ => by go_simp) ?_
  simp only [Act.put, pA, pB, pC]
  refine wpOrd_yield (v := .pointer none) rfl (fun u _ => by go_simp) ?_
  simp only [Act.put, pA, pB, pC]
  refine wpOrd_yield (v := .int .i64 E) rfl (fun u _ => by go_simp) ?_
  simp only [Act.put, pA, pB, pC]
  refine wpOrd_nil ?_
  go_wp2
  go_ret
  first | exact ⟨rfl, HQ.out.1 HO.out⟩ | exact ⟨rfl, HQ.out.2 HO.out⟩
set_option maxRecDepth 20000 in
set_option maxHeartbeats 4000000 in
theorem act_made {LA : Array Value} {M : Nat → World → Prop} {Q0 : Nat → Nat → World → Prop} (h : ActI W I l P d r G l0 l1 m0 m1 vl vm on 8 n f tn) (hW : ∀ w, Calls Tryz.prog 18 #[H.geoV G.1 G.2.1 G.2.2, .int .i64 tn] w fun e w' => e = .returned (.agg LA) ∧ Below w.heap.size w w') (hMl : ∀ g W W', M g W → Below W.heap.size W W' → M g W') (hMK : ∀ g W, M g W → Kl l W) (h1 : ∀ W, I W → Calls Tryz.prog 17 #[.pointer (some ⟨d, 0, none⟩), .agg LA] W fun e W' => ∃ g, e = .returned (.tuple #[.pointer (some ⟨g, 0, none⟩), .int .i64 0]) ∧ M g W') (h2 : ∀ g W, M g W → Calls Tryz.prog 47 #[.pointer (some ⟨r, 0, none⟩), .agg LA] W fun e W' => ∃ q, e = .returned (.tuple #[.pointer (some ⟨q, 0, none⟩), .int .i64 0]) ∧ Q0 g q W') (hQ : ∀ g q W, Q0 g q W → Kl l W) (hS : ∀ g q W, Q0 g q W → (on % 2 = 0 → Q ((W.setCell ⟨P, 5, none⟩ (.pointer (some ⟨g, 0, none⟩))).setCell ⟨P, 7, none⟩ (.pointer (some ⟨q, 0, none⟩)))) ∧ (on % 2 = 1 → Q ((W.setCell ⟨P, 6, none⟩ (.pointer (some ⟨g, 0, none⟩))).setCell ⟨P, 8, none⟩ (.pointer (some ⟨q, 0, none⟩))))) : Calls Tryz.prog 8 #[.pointer (some ⟨P, 0, none⟩), .agg (actRow on 8 n f tn)] W fun e W' => e = .returned (.bool true) ∧ Q W' := by
 have H1 := Hid.mk' h1
 have H2 := Hid.mk' h2
 have HML := Hid.mk' hMl
 have HMK := Hid.mk' hMK
 have HQK := Hid.mk' hQ
 have HW := Hid.mk' hW
 have HSS := Hid.mk' hS
 clear h1 h2 hMl hMK hQ hW hS
 have hI := h.now
 have HL := Hid.mk' h.later
 have hpk := fun w => pick_any on 2 (by omega) w
 have hC := h.cells (h.kl _ hI)
 have HI := Hid.mk' hI
 have HK : Hid (∀ X, Kl l X → ActC X P W.heap.size d r G l0 l1 m0 m1 on 8 n f tn) := fun X hX => h.cells hX
 have HIK := Hid.mk' h.kl
 obtain ⟨b0, b1, b2, b3, b4, row, p3, p4, p5, p6, p7, p8⟩ := hC
 have hslot := h.slot
 clear h hI row
 rcases hslot with ⟨ho, hl, hm⟩ | ⟨ho, hl, hm⟩
 all_goals
  first | rw [hl] at p5 | rw [hl] at p6
  first | rw [hm] at p7 | rw [hm] at p8
  rw [ho] at hpk
  have HO := Hid.mk' ho
  clear ho hl hm
  unfold actRow at *
  go_enter Tryz.func8, Tryz.ntmps8
  go_upto_region 1 with fail
  generalize W.alloc (.cells #[.int .i64 on, .int .i64 8, .int .i64 n, .int .u8 f, .int .i64 tn] 48) = X at *
  generalize W.heap.size = B at *
  go_wp2_with (first | (go_at_call 33; refine (hpk _).mono ?_; rintro e W1 ⟨rfl, hX1⟩; obtain rfl := hX1.symm))
  have HI2 : Hid (I X.drew) := HL.out _ _ HI.out (Below.refl _ _).drew
  have HS : Hid (ActC X.drew P B d r G l0 l1 m0 m1 on 8 n f tn) := HK.out _ (HIK.out _ HI2.out)
  clear b0 b1 b2 b3 b4 p3 p4 p5 p6 p7 p8 hpk
  refine wp_region_ord (S := fun X => ActC X P B d r G l0 l1 m0 m1 on 8 n f tn) [(0, true), (1, true), (2, true), (3, true), (4, true), (5, true), (6, true), (7, true), (8, true), (9, true), (10, false), (11, false), (12, true), (13, true), (14, true), (15, true), (16, true)] (by kernel_rfl) rfl (by kernel_rfl) (fun d _ _ _ _ h => by cases d <;> exact h) HS.out ?_
  simp only [inOrd, List.getElem?_cons_zero, List.getElem?_cons_succ]
  refine wpOrd_yield (v := .pointer (some ⟨P, 0, none⟩)) rfl (fun u _ => exec_mvP rfl rfl) ?_
  simp only [Act.put, pA, pB, pC]
  refine wpOrd_yield (v := .pointer (some ⟨P, 0, none⟩)) rfl (fun u _ => by go_simp) ?_
  simp only [Act.put, pA, pB, pC]
  refine wpOrd_yield (v := .pointer (some ⟨P, 3, none⟩)) rfl (fun u _ => by go_simp) ?_
  simp only [Act.put, pA, pB, pC]
  refine wpOrd_yield (v := .pointer (some ⟨d, 0, none⟩)) rfl (fun u hu => by have := hu.p3; go_simp) ?_
  simp only [Act.put, pA, pB, pC]
  refine wpOrd_yield (v := .pointer (some ⟨P, 0, none⟩)) rfl (fun u _ => exec_mvP rfl rfl) ?_
  simp only [Act.put, pA, pB, pC]
  refine wpOrd_yield (v := .pointer (some ⟨P, 0, none⟩)) rfl (fun u _ => by go_simp) ?_
  simp only [Act.put, pA, pB, pC]
  refine wpOrd_yield (v := .pointer (some ⟨P, 0, none⟩)) rfl (fun u _ => by go_simp) ?_
  simp only [Act.put, pA, pB, pC]
  refine wpOrd_yield (v := H.geoV G.1 G.2.1 G.2.2) rfl (fun u hu => exec_ldG rfl rfl hu.row) ?_
  simp only [Act.put, pA, pB, pC]
  refine wpOrd_yield (v := .pointer (some ⟨B, 4, none⟩)) rfl (fun u _ => by go_simp) ?_
  simp only [Act.put, pA, pB, pC]
  refine wpOrd_yield (v := .int .i64 tn) rfl (fun u hu => by have := hu.b4; go_simp) ?_
  simp only [Act.put, pA, pB, pC]
  refine wpOrd_call rfl 18 _ _ rfl Tryz.call18 [H.geoV G.1 G.2.1 G.2.2, .int .i64 tn] rfl ?_
  refine Calls.mono (HW.out _) ?_
  rintro e W1 ⟨rfl, q1⟩
  have HI3 := Hid.mk' (HL.out _ _ HI2.out q1)
  refine ⟨_, rfl, HK.out _ (HIK.out _ HI3.out), ?_⟩
  clear q1
  simp only [Act.put, pA, pB, pC]
  refine wpOrd_call rfl 17 _ _ rfl Tryz.call17 [.pointer (some ⟨d, 0, none⟩), .agg LA] rfl ?_
  refine Calls.mono (H1.out _ HI3.out) ?_
  rintro e W2 ⟨g0, rfl, q2⟩
  have HM := Hid.mk' (HML.out _ _ _ q2 (Below.refl _ _).drew)
  refine ⟨_, rfl, HK.out _ (HMK.out _ _ q2), ?_⟩
  clear q2 H1 HI HI2 HI3 HL HIK HS
  simp only [Act.put, pA, pB, pC]
  refine wpOrd_yield (v := .tuple #[.pointer (some ⟨g0, 0, none⟩), .int .i64 0]) rfl (fun u _ => exec_mvP rfl rfl) ?_
  simp only [Act.put, pA, pB, pC]
  refine wpOrd_yield (v := .pointer (some ⟨g0, 0, none⟩)) rfl (fun u _ => by go_simp) ?_
  simp only [Act.put, pA, pB, pC]
  refine wpOrd_yield (v := .int .i64 0) rfl (fun u _ => by go_simp) ?_
  simp only [Act.put, pA, pB, pC]
  refine wpOrd_yield (v := .pointer (some ⟨g0, 0, none⟩)) rfl (fun u _ => by go_simp) ?_
  simp only [Act.put, pA, pB, pC]
  refine wpOrd_yield (v := .int .i64 0) rfl (fun u _ => by go_simp) ?_
  simp only [Act.put, pA, pB, pC]
  refine wpOrd_nil ?_
  go_wp2
  have HS2 : Hid (ActC W2.drew P B d r G l0 l1 m0 m1 on 8 n f tn) := HK.out _ (HMK.out _ _ HM.out)
  refine wp_region_ord (S := fun X => ActC X P B d r G l0 l1 m0 m1 on 8 n f tn) [(0, true), (1, true), (2, true), (3, true), (4, true), (5, true), (6, true), (7, true), (8, true), (9, true), (10, false), (11, false), (12, true), (13, true), (14, true), (15, true), (16, true)] (by kernel_rfl) rfl (by kernel_rfl) (fun d _ _ _ _ h => by cases d <;> exact h) HS2.out ?_
  simp only [inOrd, List.getElem?_cons_zero, List.getElem?_cons_succ]
  refine wpOrd_yield (v := .pointer (some ⟨P, 0, none⟩)) rfl (fun u _ => exec_mvP rfl rfl) ?_
  simp only [Act.put, pA, pB, pC]
  refine wpOrd_yield (v := .pointer (some ⟨P, 0, none⟩)) rfl (fun u _ => by go_simp) ?_
  simp only [Act.put, pA, pB, pC]
  refine wpOrd_yield (v := .pointer (some ⟨P, 4, none⟩)) rfl (fun u _ => by go_simp) ?_
  simp only [Act.put, pA, pB, pC]
  refine wpOrd_yield (v := .pointer (some ⟨r, 0, none⟩)) rfl (fun u hu => by have := hu.p4; go_simp) ?_
  simp only [Act.put, pA, pB, pC]
  refine wpOrd_yield (v := .pointer (some ⟨P, 0, none⟩)) rfl (fun u _ => exec_mvP rfl rfl) ?_
  simp only [Act.put, pA, pB, pC]
  refine wpOrd_yield (v := .pointer (some ⟨P, 0, none⟩)) rfl (fun u _ => by go_simp) ?_
  simp only [Act.put, pA, pB, pC]
  refine wpOrd_yield (v := .pointer (some ⟨P, 0, none⟩)) rfl (fun u _ => by go_simp) ?_
  simp only [Act.put, pA, pB, pC]
  refine wpOrd_yield (v := H.geoV G.1 G.2.1 G.2.2) rfl (fun u hu => exec_ldG rfl rfl hu.row) ?_
  simp only [Act.put, pA, pB, pC]
  refine wpOrd_yield (v := .pointer (some ⟨B, 4, none⟩)) rfl (fun u _ => by go_simp) ?_
  simp only [Act.put, pA, pB, pC]
  refine wpOrd_yield (v := .int .i64 tn) rfl (fun u hu => by have := hu.b4; go_simp) ?_
  simp only [Act.put, pA, pB, pC]
  refine wpOrd_call rfl 18 _ _ rfl Tryz.call18 [H.geoV G.1 G.2.1 G.2.2, .int .i64 tn] rfl ?_
  refine Calls.mono (HW.out _) ?_
  rintro e W1 ⟨rfl, q1⟩
  have HM2 := Hid.mk' (HML.out _ _ _ HM.out q1)
  refine ⟨_, rfl, HK.out _ (HMK.out _ _ HM2.out), ?_⟩
  clear q1
  simp only [Act.put, pA, pB, pC]
  refine wpOrd_call rfl 47 _ _ rfl Tryz.call47 [.pointer (some ⟨r, 0, none⟩), .agg LA] rfl ?_
  refine Calls.mono (H2.out _ _ HM2.out) ?_
  rintro e W3 ⟨q0, rfl, q3⟩
  have hrow := (HK.out _ (HQK.out _ _ _ q3)).row
  refine ⟨_, rfl, HK.out _ (HQK.out _ _ _ q3), ?_⟩
  have hrow5 := heap_setCell_same W3 P 5 _ 45 (.pointer (some ⟨g0, 0, none⟩)) hrow
  have hrow6 := heap_setCell_same W3 P 6 _ 45 (.pointer (some ⟨g0, 0, none⟩)) hrow
  have f1 : W3.frozen? ⟨P, 5, none⟩ = false := Joins.unfrozen_of_block hrow 5
  have f2 : W3.cell? ⟨P, 5, none⟩ = some l0 := Joins.cell_of_block hrow 5
  have f3 : (W3.setCell ⟨P, 5, none⟩ (.pointer (some ⟨g0, 0, none⟩))).frozen? ⟨P, 7, none⟩ = false := Joins.unfrozen_of_block hrow5 7
  have f4 : (W3.setCell ⟨P, 5, none⟩ (.pointer (some ⟨g0, 0, none⟩))).cell? ⟨P, 7, none⟩ = some m0 := Joins.cell_of_block hrow5 7
  have f5 : W3.frozen? ⟨P, 6, none⟩ = false := Joins.unfrozen_of_block hrow 6
  have f6 : W3.cell? ⟨P, 6, none⟩ = some l1 := Joins.cell_of_block hrow 6
  have f7 : (W3.setCell ⟨P, 6, none⟩ (.pointer (some ⟨g0, 0, none⟩))).frozen? ⟨P, 8, none⟩ = false := Joins.unfrozen_of_block hrow6 8
  have f8 : (W3.setCell ⟨P, 6, none⟩ (.pointer (some ⟨g0, 0, none⟩))).cell? ⟨P, 8, none⟩ = some m1 := Joins.cell_of_block hrow6 8
  have HQ := Hid.mk' (HSS.out g0 q0 _ q3)
  clear q3 H2 HM HM2 HML HMK HS2 HK HQK HSS hrow hrow5 hrow6
  simp only [Act.put, pA, pB, pC]
  refine wpOrd_yield (v := .tuple #[.pointer (some ⟨q0, 0, none⟩), .int .i64 0]) rfl (fun u _ => exec_mvP rfl rfl) ?_
  simp only [Act.put, pA, pB, pC]
  refine wpOrd_yield (v := .pointer (some ⟨q0, 0, none⟩)) rfl (fun u _ => by go_simp) ?_
  simp only [Act.put, pA, pB, pC]
  refine wpOrd_yield (v := .int .i64 0) rfl (fun u _ => by go_simp) ?_
  simp only [Act.put, pA, pB, pC]
  refine wpOrd_yield (v := .pointer (some ⟨q0, 0, none⟩)) rfl (fun u _ => by go_simp) ?_
  simp only [Act.put, pA, pB, pC]
  refine wpOrd_yield (v := .int .i64 0) rfl (fun u _ => by go_simp) ?_
  simp only [Act.put, pA, pB, pC]
  refine wpOrd_nil ?_
  go_wp2
  go_ret
  first | exact ⟨rfl, HQ.out.1 HO.out⟩ | exact ⟨rfl, HQ.out.2 HO.out⟩
end
end Go.Proofs.YtichojdcoegboaaGreatW
