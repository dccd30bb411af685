/- One call of both sides: the law's own act, by its kind; each walked over whatever both calls make of memory; no condition. -/
import Derived.Test.YtichojdcoegboaaGreatK38
namespace Go.Proofs.YtichojdcoegboaaGreatW
open Go.RowKit Go.Maps
def actRow (on c n f tn : Int) : Array Value := #[.int .i64 on, .int .i64 c, .int .i64 n, .int .u8 f, .int .i64 tn]
structure ActI (W : World) (I : World → Prop) (l : List Part) (P d r : Nat) (G : Int × Int × Int) (l0 l1 m0 m1 vl vm : Value) (on c n f tn : Int) : Prop where
 now : I (W.alloc (.cells (actRow on c n f tn) 48))
 later : ∀ W W', I W → Below W.heap.size W W' → I W'
 kl : ∀ W, I W → Kl l W
 pair : oP P (.cells (pairRow G d r l0 l1 m0 m1) 45) ∈ l
 box : oP W.heap.size (.cells (actRow on c n f tn) 48) ∈ l
 slot : (on % 2 = 0 ∧ l0 = vl ∧ m0 = vm) ∨ (on % 2 = 1 ∧ l1 = vl ∧ m1 = vm)
theorem exec_mvP {o : Oper} {a : Act} {x : Operand} {v : Value} {V : World} (ho : o.op = .move x) (hx : a.eval x = v) : (execOp a.eval o).run Tryz.prog V = .ok (.value v) V := by simp [execOp, ho, hx]
section
variable {W : World} {I Q : World → Prop} {l : List Part} {P d r : Nat} {G : Int × Int × Int} {l0 l1 m0 m1 vl vm : Value} {on c n f tn E : Int}
structure ActC (X : World) (P B d r : Nat) (G : Int × Int × Int) (l0 l1 m0 m1 : Value) (on c n f tn : Int) : Prop where
 b0 : X.cell? ⟨B, 0, none⟩ = some (.int .i64 on)
 b1 : X.cell? ⟨B, 1, none⟩ = some (.int .i64 c)
 b2 : X.cell? ⟨B, 2, none⟩ = some (.int .i64 n)
 b3 : X.cell? ⟨B, 3, none⟩ = some (.int .u8 f)
 b4 : X.cell? ⟨B, 4, none⟩ = some (.int .i64 tn)
 row : X.heap[P]? = some (.cells (pairRow G d r l0 l1 m0 m1) 45)
 p3 : X.cell? ⟨P, 3, none⟩ = some (.pointer (some ⟨d, 0, none⟩))
 p4 : X.cell? ⟨P, 4, none⟩ = some (.pointer (some ⟨r, 0, none⟩))
 p5 : X.cell? ⟨P, 5, none⟩ = some l0
 p6 : X.cell? ⟨P, 6, none⟩ = some l1
 p7 : X.cell? ⟨P, 7, none⟩ = some m0
 p8 : X.cell? ⟨P, 8, none⟩ = some m1
theorem ActI.cells (h : ActI W I l P d r G l0 l1 m0 m1 vl vm on c n f tn) {X : World} (hk : Kl l X) : ActC X P W.heap.size d r G l0 l1 m0 m1 on c n f tn := by
 have h1 := hk _ _ h.pair
 have h2 := hk _ _ h.box
 exact ⟨Joins.cell_of_block h2 0, Joins.cell_of_block h2 1, Joins.cell_of_block h2 2, Joins.cell_of_block h2 3, Joins.cell_of_block h2 4, h1, Joins.cell_of_block h1 3, Joins.cell_of_block h1 4, Joins.cell_of_block h1 5, Joins.cell_of_block h1 6, Joins.cell_of_block h1 7, Joins.cell_of_block h1 8⟩
set_option maxRecDepth 20000 in
set_option maxHeartbeats 4000000 in
theorem act_end (h : ActI W I l P d r G l0 l1 m0 m1 vl vm on 1 n f tn) (hT : Two l I 22 35 #[vl] #[vm] (.int .i64 E) Q) : Calls Tryz.prog 8 #[.pointer (some ⟨P, 0, none⟩), .agg (actRow on 1 n f tn)] W fun e W' => e = .returned (.bool true) ∧ Q W' := by
 obtain ⟨M, hMl, hMK, h1, h2⟩ := hT
 have H1 := Hid.mk' h1
 have H2 := Hid.mk' h2
 clear h1 h2 hMl hMK
 have hI := h.now
 have HL := Hid.mk' h.later
 have hpk := fun w => pick_any on 2 (by omega) w
 have hC := h.cells (h.kl _ hI)
 have HI := Hid.mk' hI
 have HK : Hid (∀ X, Kl l X → ActC X P W.heap.size d r G l0 l1 m0 m1 on 1 n f tn) := fun X hX => h.cells hX
 have HIK := Hid.mk' h.kl
 obtain ⟨b0, b1, b2, b3, b4, row, p3, p4, p5, p6, p7, p8⟩ := hC
 have hslot := h.slot
 clear h hI row
 rcases hslot with ⟨ho, hl, hm⟩ | ⟨ho, hl, hm⟩
 all_goals
  first | rw [hl] at p5 | rw [hl] at p6
  first | rw [hm] at p7 | rw [hm] at p8
  rw [ho] at hpk
  clear ho hl hm
  unfold actRow at *
  go_enter Tryz.func8, Tryz.ntmps8
  go_upto_region 1 with fail
  generalize W.alloc (.cells #[.int .i64 on, .int .i64 1, .int .i64 n, .int .u8 f, .int .i64 tn] 48) = X at *
  generalize W.heap.size = B at *
  go_wp2_with (first | (go_at_call 33; refine (hpk _).mono ?_; rintro e W1 ⟨rfl, hX1⟩; obtain rfl := hX1.symm) | (go_at_call 22; fail))
  refine Calls.mono (H1.out _ HI.out) ?_
  rintro e W2 ⟨rfl, q2⟩
  have HM := Hid.mk' q2
  clear q2 H1 HI HL HK HIK
  go_wp2_with (go_at_call 35; fail)
  refine Calls.mono (H2.out _ HM.out) ?_
  rintro e W3 ⟨rfl, q3⟩
  have HQ := Hid.mk' q3
  clear q3 H2 HM
  go_wp2
  go_ret
  exact ⟨rfl, HQ.out⟩
set_option maxRecDepth 20000 in
set_option maxHeartbeats 4000000 in
theorem act_sync (h : ActI W I l P d r G l0 l1 m0 m1 vl vm on 4 n f tn) (hT : Two l I 26 39 #[vl] #[vm] (.int .i64 E) Q) : Calls Tryz.prog 8 #[.pointer (some ⟨P, 0, none⟩), .agg (actRow on 4 n f tn)] W fun e W' => e = .returned (.bool true) ∧ Q W' := by
 obtain ⟨M, hMl, hMK, h1, h2⟩ := hT
 have H1 := Hid.mk' h1
 have H2 := Hid.mk' h2
 clear h1 h2 hMl hMK
 have hI := h.now
 have HL := Hid.mk' h.later
 have hpk := fun w => pick_any on 2 (by omega) w
 have hC := h.cells (h.kl _ hI)
 have HI := Hid.mk' hI
 have HK : Hid (∀ X, Kl l X → ActC X P W.heap.size d r G l0 l1 m0 m1 on 4 n f tn) := fun X hX => h.cells hX
 have HIK := Hid.mk' h.kl
 obtain ⟨b0, b1, b2, b3, b4, row, p3, p4, p5, p6, p7, p8⟩ := hC
 have hslot := h.slot
 clear h hI row
 rcases hslot with ⟨ho, hl, hm⟩ | ⟨ho, hl, hm⟩
 all_goals
  first | rw [hl] at p5 | rw [hl] at p6
  first | rw [hm] at p7 | rw [hm] at p8
  rw [ho] at hpk
  clear ho hl hm
  unfold actRow at *
  go_enter Tryz.func8, Tryz.ntmps8
  go_upto_region 1 with fail
  generalize W.alloc (.cells #[.int .i64 on, .int .i64 4, .int .i64 n, .int .u8 f, .int .i64 tn] 48) = X at *
  generalize W.heap.size = B at *
  go_wp2_with (first | (go_at_call 33; refine (hpk _).mono ?_; rintro e W1 ⟨rfl, hX1⟩; obtain rfl := hX1.symm) | (go_at_call 26; fail))
  refine Calls.mono (H1.out _ HI.out) ?_
  rintro e W2 ⟨rfl, q2⟩
  have HM := Hid.mk' q2
  clear q2 H1 HI HL HK HIK
  go_wp2_with (go_at_call 39; fail)
  refine Calls.mono (H2.out _ HM.out) ?_
  rintro e W3 ⟨rfl, q3⟩
  have HQ := Hid.mk' q3
  clear q3 H2 HM
  go_wp2
  go_ret
  exact ⟨rfl, HQ.out⟩
set_option maxRecDepth 20000 in
set_option maxHeartbeats 4000000 in
theorem act_close (h : ActI W I l P d r G l0 l1 m0 m1 vl vm on 9 n f tn) (hT : Two l I 48 49 #[vl] #[vm] (.int .i64 E) Q) : Calls Tryz.prog 8 #[.pointer (some ⟨P, 0, none⟩), .agg (actRow on 9 n f tn)] W fun e W' => e = .returned (.bool true) ∧ Q W' := by
 obtain ⟨M, hMl, hMK, h1, h2⟩ := hT
 have H1 := Hid.mk' h1
 have H2 := Hid.mk' h2
 clear h1 h2 hMl hMK
 have hI := h.now
 have HL := Hid.mk' h.later
 have hpk := fun w => pick_any on 2 (by omega) w
 have hC := h.cells (h.kl _ hI)
 have HI := Hid.mk' hI
 have HK : Hid (∀ X, Kl l X → ActC X P W.heap.size d r G l0 l1 m0 m1 on 9 n f tn) := fun X hX => h.cells hX
 have HIK := Hid.mk' h.kl
 obtain ⟨b0, b1, b2, b3, b4, row, p3, p4, p5, p6, p7, p8⟩ := hC
 have hslot := h.slot
 clear h hI row
 rcases hslot with ⟨ho, hl, hm⟩ | ⟨ho, hl, hm⟩
 all_goals
  first | rw [hl] at p5 | rw [hl] at p6
  first | rw [hm] at p7 | rw [hm] at p8
  rw [ho] at hpk
  clear ho hl hm
  unfold actRow at *
  go_enter Tryz.func8, Tryz.ntmps8
  go_upto_region 1 with fail
  generalize W.alloc (.cells #[.int .i64 on, .int .i64 9, .int .i64 n, .int .u8 f, .int .i64 tn] 48) = X at *
  generalize W.heap.size = B at *
  go_wp2_with (first | (go_at_call 33; refine (hpk _).mono ?_; rintro e W1 ⟨rfl, hX1⟩; obtain rfl := hX1.symm) | (go_at_call 48; fail))
  refine Calls.mono (H1.out _ HI.out) ?_
  rintro e W2 ⟨rfl, q2⟩
  have HM := Hid.mk' q2
  clear q2 H1 HI HL HK HIK
  go_wp2_with (go_at_call 49; fail)
  refine Calls.mono (H2.out _ HM.out) ?_
  rintro e W3 ⟨rfl, q3⟩
  have HQ := Hid.mk' q3
  clear q3 H2 HM
  go_wp2
  go_ret
  exact ⟨rfl, HQ.out⟩
set_option maxRecDepth 20000 in
set_option maxHeartbeats 4000000 in
theorem act_check (h : ActI W I l P d r G l0 l1 m0 m1 vl vm on c n f tn) (hc : c ≠ 0 ∧ c ≠ 1 ∧ c ≠ 2 ∧ c ≠ 3 ∧ c ≠ 4 ∧ c ≠ 5 ∧ c ≠ 6 ∧ c ≠ 7 ∧ c ≠ 8 ∧ c ≠ 9) (hT : Two l I 50 51 #[vl] #[vm] (.int .i64 E) Q) : Calls Tryz.prog 8 #[.pointer (some ⟨P, 0, none⟩), .agg (actRow on c n f tn)] W fun e W' => e = .returned (.bool true) ∧ Q W' := by
 obtain ⟨M, hMl, hMK, h1, h2⟩ := hT
 have H1 := Hid.mk' h1
 have H2 := Hid.mk' h2
 clear h1 h2 hMl hMK
 obtain ⟨c0, c1, c2, c3, c4, c5, c6, c7, c8, c9⟩ := hc
 have hI := h.now
 have HL := Hid.mk' h.later
 have hpk := fun w => pick_any on 2 (by omega) w
 have hC := h.cells (h.kl _ hI)
 have HI := Hid.mk' hI
 have HK : Hid (∀ X, Kl l X → ActC X P W.heap.size d r G l0 l1 m0 m1 on c n f tn) := fun X hX => h.cells hX
 have HIK := Hid.mk' h.kl
 obtain ⟨b0, b1, b2, b3, b4, row, p3, p4, p5, p6, p7, p8⟩ := hC
 have hslot := h.slot
 clear h hI row
 rcases hslot with ⟨ho, hl, hm⟩ | ⟨ho, hl, hm⟩
 all_goals
  first | rw [hl] at p5 | rw [hl] at p6
  first | rw [hm] at p7 | rw [hm] at p8
  rw [ho] at hpk
  clear ho hl hm
  unfold actRow at *
  go_enter Tryz.func8, Tryz.ntmps8
  go_upto_region 1 with fail
  generalize W.alloc (.cells #[.int .i64 on, .int .i64 c, .int .i64 n, .int .u8 f, .int .i64 tn] 48) = X at *
  generalize W.heap.size = B at *
  go_wp2_with (first | (go_at_call 33; refine (hpk _).mono ?_; rintro e W1 ⟨rfl, hX1⟩; obtain rfl := hX1.symm) | (go_at_call 50; fail))
  refine Calls.mono (H1.out _ HI.out) ?_
  rintro e W2 ⟨rfl, q2⟩
  have HM := Hid.mk' q2
  clear q2 H1 HI HL HK HIK
  go_wp2_with (go_at_call 51; fail)
  refine Calls.mono (H2.out _ HM.out) ?_
  rintro e W3 ⟨rfl, q3⟩
  have HQ := Hid.mk' q3
  clear q3 H2 HM
  go_wp2
  go_ret
  exact ⟨rfl, HQ.out⟩
set_option maxRecDepth 20000 in
set_option maxHeartbeats 4000000 in
theorem act_begin (h : ActI W I l P d r G l0 l1 m0 m1 vl vm on 0 n f tn) (hT : Two l I 19 34 #[vl, .int .i64 n] #[vm, .int .i64 n] (.int .i64 E) Q) (hQ : ∀ W, Q W → Kl l W) : Calls Tryz.prog 8 #[.pointer (some ⟨P, 0, none⟩), .agg (actRow on 0 n f tn)] W fun e W' => e = .returned (.bool true) ∧ Q W' := by
 obtain ⟨M, hMl, hMK, h1, h2⟩ := hT
 have H1 := Hid.mk' h1
 have H2 := Hid.mk' h2
 have HMK := Hid.mk' hMK
 have HQK := Hid.mk' hQ
 clear h1 h2 hMl hMK hQ
 have hI := h.now
 have HL := Hid.mk' h.later
 have hpk := fun w => pick_any on 2 (by omega) w
 have hC := h.cells (h.kl _ hI)
 have HI := Hid.mk' hI
 have HK : Hid (∀ X, Kl l X → ActC X P W.heap.size d r G l0 l1 m0 m1 on 0 n f tn) := fun X hX => h.cells hX
 have HIK := Hid.mk' h.kl
 obtain ⟨b0, b1, b2, b3, b4, row, p3, p4, p5, p6, p7, p8⟩ := hC
 have hslot := h.slot
 clear h hI row
 rcases hslot with ⟨ho, hl, hm⟩ | ⟨ho, hl, hm⟩
 all_goals
  first | rw [hl] at p5 | rw [hl] at p6
  first | rw [hm] at p7 | rw [hm] at p8
  rw [ho] at hpk
  clear ho hl hm
  unfold actRow at *
  go_enter Tryz.func8, Tryz.ntmps8
  go_upto_region 1 with fail
  generalize W.alloc (.cells #[.int .i64 on, .int .i64 0, .int .i64 n, .int .u8 f, .int .i64 tn] 48) = X at *
  generalize W.heap.size = B at *
  go_wp2_with (first | (go_at_call 33; refine (hpk _).mono ?_; rintro e W1 ⟨rfl, hX1⟩; obtain rfl := hX1.symm))
  have HI2 : Hid (I X.drew) := HL.out _ _ HI.out (Below.refl _ _).drew
  have HS : Hid (ActC X.drew P B d r G l0 l1 m0 m1 on 0 n f tn) := HK.out _ (HIK.out _ HI2.out)
  refine wp_region_ord (S := fun X => ActC X P B d r G l0 l1 m0 m1 on 0 n f tn) [(0, true), (1, true), (2, true), (4, true), (5, true), (6, true), (3, false), (7, false), (8, true), (9, true)] (by kernel_rfl) rfl (by kernel_rfl) (fun d _ _ _ _ h => by cases d <;> exact h) HS.out ?_
  simp only [inOrd, List.getElem?_cons_zero, List.getElem?_cons_succ]
  refine wpOrd_yield (v := vl) rfl (fun u _ => exec_mvP rfl rfl) ?_
  simp only [Act.put, pA, pB, pC]
  refine wpOrd_yield (v := .pointer (some ⟨B, 2, none⟩)) rfl (fun u _ => by go_simp) ?_
  simp only [Act.put, pA, pB, pC]
  refine wpOrd_yield (v := .int .i64 n) rfl (fun u hu => by have := hu.b2; go_simp) ?_
  simp only [Act.put, pA, pB, pC]
  refine wpOrd_yield (v := vm) rfl (fun u _ => exec_mvP rfl rfl) ?_
  simp only [Act.put, pA, pB, pC]
  refine wpOrd_yield (v := .pointer (some ⟨B, 2, none⟩)) rfl (fun u _ => by go_simp) ?_
  simp only [Act.put, pA, pB, pC]
  refine wpOrd_yield (v := .int .i64 n) rfl (fun u hu => by have := hu.b2; go_simp) ?_
  simp only [Act.put, pA, pB, pC]
  clear b0 b1 b2 b3 b4 p3 p4 p5 p6 p7 p8
  refine wpOrd_call rfl 19 _ _ rfl Tryz.call19 [vl, .int .i64 n] rfl ?_
  refine Calls.mono (H1.out _ HI2.out) ?_
  rintro e W2 ⟨rfl, q2⟩
  have HM := Hid.mk' q2
  refine ⟨_, rfl, HK.out _ (HMK.out _ q2), ?_⟩
  clear q2 H1 HI HI2 HL HIK HS
  simp only [Act.put, pA, pB, pC]
  refine wpOrd_call rfl 34 _ _ rfl Tryz.call34 [vm, .int .i64 n] rfl ?_
  refine Calls.mono (H2.out _ HM.out) ?_
  rintro e W3 ⟨rfl, q3⟩
  have HQ := Hid.mk' q3
  refine ⟨_, rfl, HK.out _ (HQK.out _ q3), ?_⟩
  clear q3 H2 HM
  simp only [Act.put, pA, pB, pC]
  refine wpOrd_yield (v := .bool true) rfl (fun u _ => by go_simp) ?_
  simp only [Act.put, pA, pB, pC]
  refine wpOrd_yield (v := .bool true) rfl (fun u _ => by go_simp) ?_
  simp only [Act.put, pA, pB, pC]
  refine wpOrd_nil ?_
  go_wp2
  go_ret
  exact ⟨rfl, HQ.out⟩
end
end Go.Proofs.YtichojdcoegboaaGreatW
