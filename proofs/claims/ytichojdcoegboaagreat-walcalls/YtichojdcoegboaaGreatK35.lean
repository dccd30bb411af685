/- Several texts joined: the log, its cache and its disk, of the program and of the document; no condition. -/
import Derived.Test.YtichojdcoegboaaGreatK34
import Derived.Test.YtichojdcoegboaaGreatK24
namespace Go.Proofs.YtichojdcoegboaaGreatW
open Go.RowKit Go.Maps
section
variable {w W W' V : World} {r : Nat} {u u' U : RSt} {ps : List Part} {y : RL}
theorem RDs.newLog (h : RDs w W r u ps) (hg : y.grp = []) (hw : y.wrote = []) : DL w (W.alloc (.cells (rlRow r (.slice none 0 0) (.slice none 0 0) y) 121)) W.heap.size r y u ps := by
 obtain ⟨R, hr, h⟩ := h.out
 refine DL.of (Y := ⟨W.heap.size, W.heap.size, .slice none 0 0, .slice none 0 0⟩) rfl ⟨R, hr, (h.add (p := rlP r ⟨W.heap.size, W.heap.size, .slice none 0 0, .slice none 0 0⟩ y) (below_new W _) (rlP_good _ _ _) ⟨heap_alloc_new _ _, ?_, ?_, Nat.le_refl _⟩ fun k hk => ?_).swap⟩
 ·rw [hg]; exact ⟨by simp, .inl ⟨rfl, rfl⟩⟩
 ·rw [hw]; exact H.OwnZ.nil _ _
 ·rcases hk with rfl | hk | hk
  ·simp
  ·cases hk
  ·cases hk
def newRL (b l i m : Int) : RL := ⟨b, l, i, m, true, [], false, 0, [], 0, 0⟩
theorem zero121 : ∀ w, (zeroValue 121).run Tryz.prog w = .ok (.agg #[.pointer none, .int .i64 0, .int .i64 0, .int .i64 0, .int .i64 0, .int .i64 0, .int .i64 0, .int .i64 0, .int .i64 0, .int .i64 0, .int .i64 0, .bool false, .slice none 0 0, .bool false, .int .i64 0, .slice none 0 0, .int .i64 0, .int .i64 0]) w := fun _ => by kernel_rfl
theorem exec_build121 {o : Oper} {a : Act} {W : World} {x0 x1 x2 : Operand} {b l i m : Int} (ho : o.op = .build 121 #[(0, x0), (1, x1), (2, x2), (3, .const (.bool true))]) (h0 : a.eval x0 = .pointer (some ⟨r, 0, none⟩)) (h1 : a.eval x1 = .agg (layA b l i)) (h2 : a.eval x2 = .int .i64 m) : (execOp a.eval o).run Tryz.prog W = .ok (.value (.agg (rlRow r (.slice none 0 0) (.slice none 0 0) (newRL b l i m)))) W := by
 have z := zero121 W
 have hc : ∀ v, a.eval (.const v) = v := fun _ => rfl
 unfold layA H.lay9 at h1
 unfold rlRow newRL
 generalize a.eval = E at *
 unfold execOp
 simp only [ho]
 simp [go_sem, h0, h1, h2, hc, z, ptr]
theorem exec_box121 {a : Act} {o : Oper} {u : World} {y : Operand} {cs : Array Value} (ho : o.op = .box 121 y) (hx : a.eval y = .agg cs) : (execOp a.eval o).run Tryz.prog u = .ok (.value (.pointer (some ⟨u.heap.size, 0, none⟩))) (u.alloc (.cells cs 121)) := by
 unfold execOp
 simp only [ho, hx]
 simp [go_sem]
set_option maxRecDepth 20000 in
set_option maxHeartbeats 2000000 in
theorem RDs.new_no (h : RDs w W r u ps) {L : Array Value} {T : List Int} {E : Int} (hsz : L.size = 9) (hH : HdC w r u L T E U) (hE : E ≠ 0) : Calls Tryz.prog 47 #[.pointer (some ⟨r, 0, none⟩), .agg L] W fun e' W' => e' = .returned (.tuple #[.pointer none, .int .i64 E]) ∧ RDs w W' r U ps := by
 have z129 := H.zero35
 have H0 := Hid.mk' (h.boxO (.cells L 59))
 have HH := Hid.mk' hH
 obtain ⟨N, hN⟩ : ∃ N, T.length = N := ⟨_, rfl⟩
 have HN := Hid.mk' hN
 clear h hH hN
 go_enter Tryz.func47, Tryz.ntmps47
 go_upto_region 1 with fail
 have h0 := H0.out.atO (g := W.heap.size) (o := .cells L 59) (by simp)
 generalize W.alloc (.cells L 59) = V at *
 go_wp2_with (first | (with_reducible refine H.isLoad 59 ?_; refine H.wpList_loadL rfl _ rfl _ rfl _ hsz h0 ?_) | (go_at_call 94; fail))
 refine (HH.out _ _ H0.out).mono ?_
 rintro e' X ⟨p, k, rfl, h1⟩
 rw [HN.out]
 have hx0 := heap_alloc_new X (.cells #[.slice none 0 0] 129)
 have H1 := Hid.mk' (h1.boxO (.cells #[.slice none 0 0] 129))
 have H2 := Hid.mk' (H1.out.reO #[.slice p N k]).drop.drop.drop
 have hb : (E != 0) = true := by simp [hE]
 clear h1 H0 HH H1 h0
 go_wp2_with (first | refine H.wpList_store35H rfl _ _ rfl _ _ _ rfl rfl rfl hx0 ?_)
 go_ret2
 exact ⟨rfl, H2.out⟩
set_option maxRecDepth 20000 in
set_option maxHeartbeats 2000000 in
theorem RDs.new_some (h : RDs w W r u ps) {L : Array Value} {T : List Int} (hsz : L.size = 9) (hH : HdC w r u L T 0 U) (hT : 0 < T.length) : Calls Tryz.prog 47 #[.pointer (some ⟨r, 0, none⟩), .agg L] W fun e' W' => e' = .returned (.tuple #[.pointer none, .int .i64 4]) ∧ RDs w W' r U ps := by
 have z129 := H.zero35
 have H0 := Hid.mk' (h.boxO (.cells L 59))
 have HH := Hid.mk' hH
 obtain ⟨N, hN⟩ : ∃ N, T.length = N := ⟨_, rfl⟩
 have HN := Hid.mk' hN
 clear h hH hN
 go_enter Tryz.func47, Tryz.ntmps47
 go_upto_region 1 with fail
 have h0 := H0.out.atO (g := W.heap.size) (o := .cells L 59) (by simp)
 generalize W.alloc (.cells L 59) = V at *
 go_wp2_with (first | (with_reducible refine H.isLoad 59 ?_; refine H.wpList_loadL rfl _ rfl _ rfl _ hsz h0 ?_) | (go_at_call 94; fail))
 refine (HH.out _ _ H0.out).mono ?_
 rintro e' X ⟨p, k, rfl, h1⟩
 rw [HN.out]
 have hx0 := heap_alloc_new X (.cells #[.slice none 0 0] 129)
 have H1 := Hid.mk' (h1.boxO (.cells #[.slice none 0 0] 129))
 have H2 := Hid.mk' (H1.out.reO #[.slice p N k]).drop.drop.drop
 have hx1 := Joins.cell_of_block (setRow_heap (X.alloc (.cells #[.slice none 0 0] 129)) X.heap.size _ #[.slice p N k] 129 (0, 0) hx0) 0
 have hb : decide ((N : Int) > 0) = true := by rw [HN.out] at hT; simp; omega
 have hb2 : decide (0 < (N : Int)) = true := by rw [HN.out] at hT; simp; omega
 have hb3 : 0 < N := by rw [HN.out] at hT; exact hT
 clear h1 H0 HH H1 h0 hT
 go_wp2_with (first | refine H.wpList_store35H rfl _ _ rfl _ _ _ rfl rfl rfl hx0 ?_)
 go_ret2
 exact ⟨rfl, H2.out⟩
set_option maxRecDepth 20000 in
set_option maxHeartbeats 2000000 in
theorem RDs.new_ok (h : RDs w W r u ps) {b l i : Int} (hH : HdC w r u (layA b l i) [] 0 U) (hr : RRoom U) : Calls Tryz.prog 47 #[.pointer (some ⟨r, 0, none⟩), .agg (layA b l i)] W fun e' W' => ∃ q, e' = .returned (.tuple #[.pointer (some ⟨q, 0, none⟩), .int .i64 0]) ∧ DL w W' q r (newRL b l i (rClaimN U)) (rClaim U) ps := by
 have z129 := H.zero35
 have H0 := Hid.mk' (h.boxO (.cells (layA b l i) 59))
 have HH := Hid.mk' hH
 have hsz : (layA b l i).size = 9 := rfl
 have HB := Hid.mk' (fun (a : Act) (o : Oper) (W : World) (x0 x1 x2 : Operand) (m : Int) => exec_build121 (r := r) (o := o) (a := a) (W := W) (x0 := x0) (x1 := x1) (x2 := x2) (b := b) (l := l) (i := i) (m := m))
 have HNL : Hid (∀ (V : World) (qs : List Part) (u : RSt) (m : Int), RDs w V r u qs → DL w (V.alloc (.cells (rlRow r (.slice none 0 0) (.slice none 0 0) (newRL b l i m)) 121)) V.heap.size r (newRL b l i m) u qs) := fun V qs u m hV => hV.newLog rfl rfl
 clear h hH
 generalize layA b l i = L at *
 generalize newRL b l i = nl at *
 go_enter Tryz.func47, Tryz.ntmps47
 go_upto_region 1 with fail
 have h0 := H0.out.atO (g := W.heap.size) (o := .cells L 59) (by simp)
 generalize W.alloc (.cells L 59) = V at *
 go_wp2_with (first | (with_reducible refine H.isLoad 59 ?_; refine H.wpList_loadL rfl _ rfl _ rfl _ hsz h0 ?_) | (go_at_call 94; fail))
 refine (HH.out _ _ H0.out).mono ?_
 rintro e' X ⟨p, k, rfl, h1⟩
 rw [List.length_nil]
 have hx0 := heap_alloc_new X (.cells #[.slice none 0 0] 129)
 have H1 := Hid.mk' (h1.boxO (.cells #[.slice none 0 0] 129))
 have H2 := Hid.mk' (H1.out.reO #[.slice p 0 k]).drop.drop
 have hx1 := Joins.cell_of_block (setRow_heap (X.alloc (.cells #[.slice none 0 0] 129)) X.heap.size _ #[.slice p 0 k] 129 (0, 0) hx0) 0
 clear h1 H0 HH H1 h0
 go_upto_region 6 with (first | refine H.wpList_store35H rfl _ _ rfl _ _ _ rfl rfl rfl hx0 ?_)
 clear hx0 hx1
 generalize (X.alloc (.cells #[.slice none 0 0] 129)).setRow X.heap.size #[.slice p 0 k] = Y at *
 have H3 := Hid.mk' (H2.out.later (W' := Y.drew) ⟨rfl, rfl, rfl, Nat.le_refl _, fun _ _ => rfl⟩)
 have HC := Hid.mk' (H3.out.claim hr)
 have hL3 := H3.out.atO (g := W.heap.size) (o := .cells L 59) (by simp)
 clear H2
 refine wp_region_ord (S := fun u => u.heap[W.heap.size]? = some (.cells L 59)) [(0, true), (1, true), (2, true), (3, false), (4, true), (5, false), (6, true), (7, true)] (by kernel_rfl) rfl (by kernel_rfl) (fun d _ _ _ _ h => by cases d <;> exact h) hL3 ?_
 simp only [inOrd, List.getElem?_cons_zero, List.getElem?_cons_succ]
 refine wpOrd_yield (v := .pointer (some ⟨r, 0, none⟩)) rfl (fun v hv => by simp [execOp, Act.eval]) ?_
 simp only [Act.put, pA, pB, pC]
 refine wpOrd_yield (v := .agg L) rfl (fun v hv => H.exec_loadL rfl rfl hsz hv) ?_
 simp only [Act.put, pA, pB, pC]
 refine wpOrd_yield (v := .pointer (some ⟨r, 0, none⟩)) rfl (fun v hv => by simp [execOp, Act.eval]) ?_
 simp only [Act.put, pA, pB, pC]
 refine wpOrd_call rfl 97 _ _ rfl Tryz.call97 [.pointer (some ⟨r, 0, none⟩)] rfl ?_
 refine HC.out.mono ?_
 rintro e Z ⟨rfl, h4⟩
 have hL4 := h4.atO (g := W.heap.size) (o := .cells L 59) (by simp)
 refine ⟨_, rfl, hL4, ?_⟩
 simp only [Act.put, pA, pB, pC]
 have H5 := Hid.mk' (HNL.out _ _ _ (rClaimN U) h4.drop)
 have hL5 := heap_kept hL4 (below_new Z (.cells (rlRow r (.slice none 0 0) (.slice none 0 0) (nl (rClaimN U))) 121))
 refine wpOrd_yield (v := .agg (rlRow r (.slice none 0 0) (.slice none 0 0) (nl (rClaimN U)))) rfl (fun v hv => HB.out _ _ _ _ _ _ _ rfl rfl rfl rfl) ?_
 simp only [Act.put, pA, pB, pC]
 refine wpOrd_run (v := .pointer (some ⟨Z.heap.size, 0, none⟩)) (w' := Z.alloc (.cells (rlRow r (.slice none 0 0) (.slice none 0 0) (nl (rClaimN U))) 121)) rfl (exec_box121 rfl rfl) hL5 ?_
 simp only [Act.put, pA, pB, pC]
 clear h4 hL4 hL5 HC H3 HNL HB
 generalize Z.alloc (.cells (rlRow r (.slice none 0 0) (.slice none 0 0) (nl (rClaimN U))) 121) = Z1 at *
 generalize Z.heap.size = qn at *
 refine wpOrd_yield (v := .pointer (some ⟨qn, 0, none⟩)) rfl (fun v hv => by go_simp) ?_
 simp only [Act.put, pA, pB, pC]
 refine wpOrd_yield (v := .int .i64 0) rfl (fun v hv => by go_simp) ?_
 simp only [Act.put, pA, pB, pC]
 refine wpOrd_nil ?_
 go_wp2
 go_ret2
 exact ⟨qn, rfl, H5.out⟩
end
def rmoE (u : RSt) (c : Int × Int) : Int := rWriteE (rReadV u c.1) c.2
def rmoV (u : RSt) (c : Int × Int) : RSt := rWriteV (rReadV u c.1) c.2 (rReadB u c.1)
def rmE : List (Int × Int) → RSt → Int
 | [], _ => 0
 | c :: l, u => if rmoE u c = 0 then rmE l (rmoV u c) else rmoE u c
def rmV : List (Int × Int) → RSt → RSt
 | [], u => u
 | c :: l, u => if rmoE u c = 0 then rmV l (rmoV u c) else rmoV u c
theorem rmE_append : ∀ (a b : List (Int × Int)) (t : RSt), rmE (a ++ b) t = if rmE a t = 0 then rmE b (rmV a t) else rmE a t
 | [], b, t => by simp [rmE, rmV]
 | c :: a, b, t => by
  simp only [List.cons_append, rmE, rmV]
  by_cases h : rmoE t c = 0
  ·simp only [h, if_true]; exact rmE_append a b _
  ·simp [h]
theorem rmV_append : ∀ (a b : List (Int × Int)) (t : RSt), rmV (a ++ b) t = if rmE a t = 0 then rmV b (rmV a t) else rmV a t
 | [], b, t => by simp [rmE, rmV]
 | c :: a, b, t => by
  simp only [List.cons_append, rmE, rmV]
  by_cases h : rmoE t c = 0
  ·simp only [h, if_true]; exact rmV_append a b _
  ·simp [h]
theorem rm_snoc {a : List (Int × Int)} {o : Int × Int} {t : RSt} (h : rmE a t = 0) : rmE (a ++ [o]) t = rmoE (rmV a t) o ∧ rmV (a ++ [o]) t = rmoV (rmV a t) o := by
 rw [rmE_append, rmV_append, if_pos h, if_pos h]
 constructor
 ·show (if rmoE (rmV a t) o = 0 then 0 else rmoE (rmV a t) o) = _
  split
  ·rename_i q; exact q.symm
  ·rfl
 ·show (if rmoE (rmV a t) o = 0 then rmoV (rmV a t) o else rmoV (rmV a t) o) = _
  split <;> rfl
theorem rm_ended {a b : List (Int × Int)} {t : RSt} (h : rmE a t ≠ 0) : rmE (a ++ b) t = rmE a t ∧ rmV (a ++ b) t = rmV a t := by
 rw [rmE_append, rmV_append, if_neg h, if_neg h]
 exact ⟨rfl, rfl⟩
def bwb : List (Option Cel) := [none, some (1, nought), none]
def rrcE (T : List Int) (u : RSt) : Int := if rmE (mvs T T.length) u = 0 then rrunE bwb (rmV (mvs T T.length) u) else rmE (mvs T T.length) u
def rrcV (T : List Int) (u : RSt) : RSt := if rmE (mvs T T.length) u = 0 then rrunV bwb (rmV (mvs T T.length) u) else rmV (mvs T T.length) u
section
variable {w W W' V : World} {r : Nat} {u u' U : RSt} {ps : List Part} {T : List Int}
def RRc (w : World) (r : Nat) (T : List Int) (U : RSt) (ps : List Part) (e : Ending) (W' : World) : Prop := e = .returned (.tuple #[.int .i64 (if rrcE T U = 0 then (T.length : Int) else 0), .int .i64 (if rrcE T U = 0 then 0 else 3)]) ∧ RDs w W' r (rrcV T U) ps
theorem rrc_bad (h : rrcE T U ≠ 0) (hs : RDs w W r (rrcV T U) ps) : RRc w r T U ps (.returned (.tuple #[.int .i64 0, .int .i64 3])) W := by
 unfold RRc
 rw [if_neg h, if_neg h]
 exact ⟨rfl, hs⟩
theorem rrc_fine (h : rrcE T U = 0) (hs : RDs w W r (rrcV T U) ps) : RRc w r T U ps (.returned (.tuple #[.int .i64 (T.length : Int), .int .i64 0])) W := by
 unfold RRc
 rw [if_pos h, if_pos h]
 exact ⟨rfl, hs⟩
theorem rrc_moved {j : Nat} {y : Int} (hy : T[j]? = some y) (h0 : rmE (mvs T j) U = 0) (h1 : rmoE (rmV (mvs T j) U) (2 + (j : Int), y) ≠ 0) : rrcE T U ≠ 0 ∧ rrcV T U = rmoV (rmV (mvs T j) U) (2 + (j : Int), y) := by
 have hj : j < T.length := (List.getElem?_eq_some_iff.1 hy).1
 obtain ⟨m, hm⟩ := mvs_more T (j + 1) T.length (by omega)
 rw [mvs_succ hy] at hm
 obtain ⟨s1, s2⟩ := rm_snoc (o := (2 + (j : Int), y)) h0
 have h2 : rmE (mvs T j ++ [(2 + (j : Int), y)]) U ≠ 0 := by rw [s1]; exact h1
 obtain ⟨t1, t2⟩ := rm_ended (b := m) h2
 unfold rrcE rrcV
 rw [hm, t1, t2, if_neg h2, if_neg h2]
 exact ⟨h2, s2⟩
theorem rrc_tail (h0 : rmE (mvs T T.length) U = 0) : rrcE T U = rrunE bwb (rmV (mvs T T.length) U) ∧ rrcV T U = rrunV bwb (rmV (mvs T T.length) U) := by
 unfold rrcE rrcV
 rw [if_pos h0, if_pos h0]
 exact ⟨rfl, rfl⟩
def Bw (U0 U : RSt) (b : List (Option Cel)) : Prop := ∃ a, bwb = a ++ b ∧ rrunE a U0 = 0 ∧ rrunV a U0 = U
theorem Bw.go {U0 : RSt} {o : Option Cel} {b : List (Option Cel)} (h : Bw U0 U (o :: b)) (h0 : rdopE U o = 0) : Bw U0 (rdopV U o) b := by
 obtain ⟨a, h1, h2, rfl⟩ := h
 obtain ⟨s1, s2⟩ := rrun_snoc (o := o) h2
 exact ⟨a ++ [o], by rw [h1]; simp, by rw [s1, h0], s2⟩
theorem Bw.ends {U0 : RSt} {o : Option Cel} {b : List (Option Cel)} (h : Bw U0 U (o :: b)) (h1 : rdopE U o ≠ 0) : rrunE bwb U0 ≠ 0 ∧ rrunV bwb U0 = rdopV U o := by
 obtain ⟨a, e1, e2, rfl⟩ := h
 obtain ⟨s1, s2⟩ := rrun_snoc (o := o) e2
 have h2 : rrunE (a ++ [o]) U0 ≠ 0 := by rw [s1]; exact h1
 obtain ⟨t1, t2⟩ := rrun_ended (b := b) h2
 have hc : bwb = a ++ [o] ++ b := by rw [e1]; simp
 rw [← hc] at t1 t2
 exact ⟨by rw [t1]; exact h2, by rw [t2, s2]⟩
theorem Bw.done {U0 : RSt} (h : Bw U0 U []) : rrunE bwb U0 = 0 ∧ rrunV bwb U0 = U := by
 obtain ⟨a, e1, e2, rfl⟩ := h
 rw [List.append_nil] at e1
 subst e1
 exact ⟨e2, rfl⟩
theorem isBuild64 {ops : Array Oper} {rest : List Oper} {a : Act} {w : World} {Q : Exit → Act → World → Prop} {dst : Option Tmp} {ty : TypeId} {pos : String} {aft : Array Edge} {gd : Option (Nat × Bool)} (h : wpList Tryz.prog ops Q (⟨dst, .build 64 #[], ty, pos, aft, gd⟩ :: rest) a w) : wpList Tryz.prog ops Q (⟨dst, .build 64 #[], ty, pos, aft, gd⟩ :: rest) a w := h
set_option maxRecDepth 20000 in
set_option maxHeartbeats 4000000 in
theorem RDs.recover_no (h : RDs w W r u ps) {L : Array Value} {E : Int} (hsz : L.size = 9) (hH : HdC w r u L T E U) (hE : E ≠ 0) : Calls Tryz.prog 46 #[.pointer (some ⟨r, 0, none⟩), .agg L] W fun e' W' => e' = .returned (.tuple #[.int .i64 0, .int .i64 E]) ∧ RDs w W' r U ps := by
 have z129 := H.zero35
 have H0 := Hid.mk' (h.boxO (.cells L 59))
 have HH := Hid.mk' hH
 obtain ⟨N, hN⟩ : ∃ N, T.length = N := ⟨_, rfl⟩
 have HN := Hid.mk' hN
 clear h hH
 go_enter Tryz.func46, Tryz.ntmps46
 go_upto_region 1 with fail
 have h0 := H0.out.atO (g := W.heap.size) (o := .cells L 59) (by simp)
 generalize W.alloc (.cells L 59) = V at *
 go_wp2_with (first | (with_reducible refine H.isLoad 59 ?_; refine H.wpList_loadL rfl _ rfl _ rfl _ hsz h0 ?_) | (go_at_call 94; fail))
 refine (HH.out _ _ H0.out).mono ?_
 rintro e' X ⟨p, k, rfl, h1⟩
 rw [HN.out]
 have hx0 := heap_alloc_new X (.cells #[.slice none 0 0] 129)
 have H1 := Hid.mk' (h1.boxO (.cells #[.slice none 0 0] 129))
 have H2 := Hid.mk' (H1.out.reO #[.slice p N k]).drop.drop.drop
 have hb : (E != 0) = true := by simp [hE]
 clear h1 H0 HH H1 h0 hN
 go_wp2_with (first | refine H.wpList_store35H rfl _ _ rfl _ _ _ rfl rfl rfl hx0 ?_)
 go_ret2
 exact ⟨rfl, H2.out⟩
set_option maxRecDepth 20000 in
set_option maxHeartbeats 4000000 in
theorem RDs.recover_none (h : RDs w W r u ps) {L : Array Value} (hsz : L.size = 9) (hH : HdC w r u L [] 0 U) : Calls Tryz.prog 46 #[.pointer (some ⟨r, 0, none⟩), .agg L] W fun e' W' => e' = .returned (.tuple #[.int .i64 0, .int .i64 0]) ∧ RDs w W' r U ps := by
 have z129 := H.zero35
 have H0 := Hid.mk' (h.boxO (.cells L 59))
 have HH := Hid.mk' hH
 clear h hH
 go_enter Tryz.func46, Tryz.ntmps46
 go_upto_region 1 with fail
 have h0 := H0.out.atO (g := W.heap.size) (o := .cells L 59) (by simp)
 generalize W.alloc (.cells L 59) = V at *
 go_wp2_with (first | (with_reducible refine H.isLoad 59 ?_; refine H.wpList_loadL rfl _ rfl _ rfl _ hsz h0 ?_) | (go_at_call 94; fail))
 refine (HH.out _ _ H0.out).mono ?_
 rintro e' X ⟨p, k, rfl, h1⟩
 rw [List.length_nil]
 have hx0 := heap_alloc_new X (.cells #[.slice none 0 0] 129)
 have H1 := Hid.mk' (h1.boxO (.cells #[.slice none 0 0] 129))
 have H2 := Hid.mk' (H1.out.reO #[.slice p 0 k]).drop.drop.drop
 have hx1 := Joins.cell_of_block (setRow_heap (X.alloc (.cells #[.slice none 0 0] 129)) X.heap.size _ #[.slice p 0 k] 129 (0, 0) hx0) 0
 clear h1 H0 HH H1 h0
 go_wp2_with (first | refine H.wpList_store35H rfl _ _ rfl _ _ _ rfl rfl rfl hx0 ?_)
 go_ret2
 exact ⟨rfl, H2.out⟩
set_option maxRecDepth 20000 in
set_option maxHeartbeats 4000000 in
theorem RDs.recover_some (h : RDs w W r u ps) {L : Array Value} (hsz : L.size = 9) (hL3 : L[3]? = some (.int .i64 1)) (hH : HdC w r u L T 0 U) (hT : 0 < T.length ∧ T.length ≤ 255) (hR : ∀ j, j ≤ T.length → RRoom (rmV (mvs T j) U) ∧ RRoom (rReadV (rmV (mvs T j) U) (2 + (j : Int)))) (hR2 : ∀ a b, bwb = a ++ b → RRoom (rrunV a (rmV (mvs T T.length) U))) :
  Calls Tryz.prog 46 #[.pointer (some ⟨r, 0, none⟩), .agg L] W (RRc w r T U ps) := by
 have z129 := H.zero35
 have H0 := Hid.mk' (h.boxO (.cells L 59))
 have HH := Hid.mk' hH
 obtain ⟨N, hN⟩ : ∃ N, T.length = N := ⟨_, rfl⟩
 have HN := Hid.mk' hN
 have HL3 := Hid.mk' hL3
 have HR := Hid.mk' hR
 have HR2 := Hid.mk' hR2
 rw [hN] at hT
 clear h hH hL3 hR hR2
 go_enter Tryz.func46, Tryz.ntmps46
 go_upto_region 1 with fail
 have h0 := H0.out.atO (g := W.heap.size) (o := .cells L 59) (by simp)
 generalize W.alloc (.cells L 59) = V at *
 go_wp2_with (first | (with_reducible refine H.isLoad 59 ?_; refine H.wpList_loadL rfl _ rfl _ rfl _ hsz h0 ?_) | (go_at_call 94; fail))
 refine (HH.out _ _ H0.out).mono ?_
 rintro e' X ⟨p, k, rfl, h1⟩
 rw [HN.out]
 have hx0 := heap_alloc_new X (.cells #[.slice none 0 0] 129)
 have H1 := Hid.mk' (h1.boxO (.cells #[.slice none 0 0] 129))
 have H2 : Hid (RDs w ((X.alloc (.cells #[.slice none 0 0] 129)).setRow X.heap.size #[.slice p N k]) r U (oP X.heap.size (.cells #[.slice p N k] 129) :: lsI p T :: oP W.heap.size (.cells L 59) :: ps)) := H1.out.reO #[.slice p N k]
 have hx1 := Joins.cell_of_block (setRow_heap (X.alloc (.cells #[.slice none 0 0] 129)) X.heap.size _ #[.slice p N k] 129 (0, 0) hx0) 0
 have hN0 : ((N : Int) == 0) = false := by simp; omega
 have z64 := zero25
 clear h1 H0 HH H1 h0
 go_upto_region 7 with (first | refine H.wpList_store35H rfl _ _ rfl _ _ _ rfl rfl rfl hx0 ?_)
 clear hx0 hx1 hN0
 generalize (X.alloc (.cells #[.slice none 0 0] 129)).setRow X.heap.size #[.slice p N k] = Y0 at *
 generalize X.heap.size = gh at *
 generalize W.heap.size = gl at *
 go_wp2
 go_loopw [9] (fun s9 wx => ∃ j : Nat, (j : Int) ≤ N ∧ s9 = .int .i64 j ∧ Hid (RDs w wx r (rmV (mvs T j) U) (oP gh (.cells #[.slice p N k] 129) :: lsI p T :: oP gl (.cells L 59) :: ps) ∧ rmE (mvs T j) U = 0)) (fun s9 _ => N - (intOf s9).toNat)
 case atStart => exact ⟨0, by omega, rfl, Hid.mk' ⟨H2.out, rfl⟩⟩
 case round =>
  obtain ⟨j, hj, rfl, HM⟩ := hrel
  clear H2
  by_cases hj2 : (j : Int) < N
  ·have hjl : j < T.length := by have := HN.out; omega
   have hcc : T[j]? = some (T[j]'hjl) := List.getElem?_eq_getElem hjl
   generalize T[j]'hjl = x at hcc
   have c3 : wr.cell? ⟨gl, 3, none⟩ = some (.int .i64 1) := by rw [← HL3.out]; exact Joins.cell_of_block (HM.out.1.atO (g := gl) (o := .cells L 59) (by simp)) 3
   have HE0 := Hid.mk' HM.out.2
   have HRd := Hid.mk' (HM.out.1.read (HR.out j (by omega)).1 (2 + (j : Int)))
   have HR1 := Hid.mk' (HR.out j (by omega)).2
   have HX := Hid.mk' hcc
   have HMv := Hid.mk' (fun q => rrc_moved (U := U) hcc HM.out.2 q)
   have HSn := Hid.mk' (rm_snoc (o := (2 + (j : Int), x)) HM.out.2)
   have hw1 : IntKind.i64.wrap ((1 : Int) + 1) = 2 := by decide
   have hw2 : IntKind.i64.wrap ((2 : Int) + (j : Int)) = 2 + (j : Int) := by rw [IntKind.wrap_i64]; omega
   clear HM hjl
   unfold rmoE rmoV at HMv HSn
   dsimp only at HMv HSn
   generalize rmV (mvs T j) U = U1 at *
   generalize hB : rReadB U1 (2 + (j : Int)) = F at *
   generalize rRefV U1 (2 + (j : Int)) = rf at *
   generalize rReadV U1 (2 + (j : Int)) = U2 at *
   clear hB
   go_wp2_with (first | (go_at_call 85; fail))
   refine HRd.out.mono ?_
   rintro e' Z ⟨rfl, h3⟩
   have hbx := heap_alloc_new Z (.cells (blk F) 64)
   have H4 := Hid.mk' (h3.boxO (.cells (blk F) 64))
   clear h3 HRd c3
   go_upto_region 11 with (first | refine wpList_store25_new rfl _ _ rfl F nought rfl rfl ?_)
   generalize Z.alloc (.cells (blk F) 64) = Z1 at *
   generalize Z.heap.size = gb at *
   have H5 := Hid.mk' (H4.out.later (W' := Z1.drew) ⟨rfl, rfl, rfl, Nat.le_refl _, fun _ _ => rfl⟩)
   have HW5 := Hid.mk' (H5.out.write HR1.out x F)
   have hI : H.IntsAt Z1.drew p T := H5.out.say (p := lsI p T) (by simp)
   obtain ⟨b0, off, rfl, hlt, hC⟩ := hI (by have := HN.out; omega)
   clear hI hC hlt hbx H4
   have HB : Hid (∀ u : World, (H.IntsAt u (some ⟨b0, off, none⟩) T ∧ u.heap[gh]? = some (.cells #[.slice (some ⟨b0, off, none⟩) N k] 129) ∧ u.heap[gb]? = some (.cells (blk F) 64)) → u.cell? ⟨gh, 0, none⟩ = some (.slice (some ⟨b0, off, none⟩) N k) ∧ u.cell? ⟨b0, off + j, none⟩ = some (.int .i64 x)) := fun u hu => by
    refine ⟨Joins.cell_of_block hu.2.1 0, ?_⟩
    obtain ⟨b1, o1, e1, _, hC⟩ := hu.1 (by have := HN.out; omega)
    injection e1 with e1
    injection e1 with eb eo
    subst eb
    subst eo
    exact hC j x HX.out
   have HSay : Hid (∀ (v : World) (uu : RSt), RDs w v r uu (oP gb (.cells (blk F) 64) :: oP gh (.cells #[.slice (some ⟨b0, off, none⟩) N k] 129) :: lsI (some ⟨b0, off, none⟩) T :: oP gl (.cells L 59) :: ps) → H.IntsAt v (some ⟨b0, off, none⟩) T ∧ v.heap[gh]? = some (.cells #[.slice (some ⟨b0, off, none⟩) N k] 129) ∧ v.heap[gb]? = some (.cells (blk F) 64)) := fun v uu h => ⟨h.say (p := lsI (some ⟨b0, off, none⟩) T) (by simp), h.atO (by simp), h.atO (by simp)⟩
   have hS5 := HSay.out _ _ H5.out
   clear H5
   refine wp_region_ord (S := fun v => H.IntsAt v (some ⟨b0, off, none⟩) T ∧ v.heap[gh]? = some (.cells #[.slice (some ⟨b0, off, none⟩) N k] 129) ∧ v.heap[gb]? = some (.cells (blk F) 64)) [(0, true), (1, true), (2, true), (3, true), (4, true), (5, true), (6, true), (7, false), (8, true)] (by kernel_rfl) rfl (by kernel_rfl) (fun d _ _ _ _ h => by cases d <;> exact h) hS5 ?_
   simp only [inOrd, List.getElem?_cons_zero, List.getElem?_cons_succ]
   refine wpOrd_yield (v := .pointer (some ⟨r, 0, none⟩)) rfl (fun v hv => by simp [execOp, Act.eval]) ?_
   simp only [Act.put, pA, pB, pC]
   refine wpOrd_yield (v := .pointer (some ⟨gh, 0, none⟩)) rfl (fun v hv => by go_simp) ?_
   simp only [Act.put, pA, pB, pC]
   refine wpOrd_yield (v := .slice (some ⟨b0, off, none⟩) N k) rfl (fun v hv => by have e := (HB.out v hv).1; go_simp) ?_
   simp only [Act.put, pA, pB, pC]
   refine wpOrd_yield (v := .int .i64 (j : Int)) rfl (fun v hv => by simp [execOp, Act.eval]) ?_
   simp only [Act.put, pA, pB, pC]
   refine wpOrd_yield (v := .pointer (some ⟨b0, off + j, none⟩)) rfl (fun v hv => by go_simp) ?_
   simp only [Act.put, pA, pB, pC]
   refine wpOrd_yield (v := .int .i64 x) rfl (fun v hv => by have e := (HB.out v hv).2; go_simp) ?_
   simp only [Act.put, pA, pB, pC]
   refine wpOrd_yield (v := .agg (blk F)) rfl (fun v hv => H.exec_loadB rfl gb F rfl hv.2.2) ?_
   simp only [Act.put, pA, pB, pC]
   refine wpOrd_call rfl 95 _ _ rfl Tryz.call95 [.pointer (some ⟨r, 0, none⟩), .int .i64 x, .agg (blk F)] rfl ?_
   refine HW5.out.mono ?_
   rintro e W1 ⟨rfl, h1⟩
   refine ⟨_, rfl, HSay.out _ _ h1, ?_⟩
   simp only [Act.put, pA, pB, pC]
   by_cases hE : rWriteE U2 x = 0
   ·have hb : (rWriteE U2 x != 0) = false := by simp [hE]
    refine wpOrd_yield (v := .bool false) rfl (fun v hv => by go_simp) ?_
    simp only [Act.put, pA, pB, pC]
    refine wpOrd_nil ?_
    have HE1 : Hid (RDs w W1 r (rmV (mvs T (j + 1)) U) (oP gh (.cells #[.slice (some ⟨b0, off, none⟩) N k] 129) :: lsI (some ⟨b0, off, none⟩) T :: oP gl (.cells L 59) :: ps) ∧ rmE (mvs T (j + 1)) U = 0) := by
     rw [mvs_succ HX.out, HSn.out.1, HSn.out.2]
     exact ⟨h1.drop, hE⟩
    generalize rWriteE U2 x = E at *
    subst hE
    clear h1 HW5 HSay hb HB hS5 HMv HSn HR1 HX HE0
    go_wp2
    exact ⟨⟨j + 1, by omega, by go_num, HE1⟩, by simp [intOf]; omega⟩
   ·have hb : (rWriteE U2 x != 0) = true := by simp [hE]
    refine wpOrd_yield (v := .bool true) rfl (fun v hv => by go_simp) ?_
    simp only [Act.put, pA, pB, pC]
    refine wpOrd_nil ?_
    have HZ : Hid (RRc w r T U ps (.returned (.tuple #[.int .i64 0, .int .i64 3])) W1) := by
     obtain ⟨q1, q2⟩ := HMv.out hE
     refine rrc_bad q1 ?_
     rw [q2]
     exact h1.drop.drop.drop.drop
    generalize rWriteE U2 x = E at *
    clear h1 HW5 HSay hb HB hS5 HMv HSn HR1 HX HE0 hE
    go_wp2
    go_ret2
    exact HZ.out
  ·obtain rfl : N = j := by omega
   have hNe := HN.out
   have HM1 := HM.out
   rw [← hNe] at HM1
   have HT := Hid.mk' (rrc_tail HM1.2)
   have HP : Hid (Bw (rmV (mvs T T.length) U) (rmV (mvs T T.length) U) bwb) := ⟨[], rfl, rfl, rfl⟩
   have HD := Hid.mk' HM1.1
   have HRm : Hid (∀ (V : RSt) (b : List (Option Cel)), Bw (rmV (mvs T T.length) U) V b → RRoom V) := fun V b ⟨a, e1, _, e3⟩ => by rw [← e3]; exact HR2.out a b e1
   have HL := Hid.mk' (fun (v : World) (uu : RSt) (qs : List Part) (o1 : Obj) (h : RDs w v r uu (oP gh o1 :: lsI p T :: oP gl (.cells L 59) :: qs)) => h.atO (g := gl) (o := .cells L 59) (by simp))
   have HL2 : Hid (∀ v : World, v.heap[gl]? = some (.cells L 59) → v.cell? ⟨gl, 3, none⟩ = some (.int .i64 1)) := fun v h => by rw [← HL3.out]; exact Joins.cell_of_block h 3
   clear HM HM1 hNe HR HR2
   generalize rmV (mvs T T.length) U = U0 at *
   have HB0 := Hid.mk' (HD.out.barrier (HRm.out _ _ HP.out))
   clear HD
   go_wp2_with (first | (go_at_call 96; fail))
   refine HB0.out.mono ?_
   rintro e W1 ⟨rfl, h1⟩
   unfold bwb at HP
   by_cases hE : rBarE U0 = 0
   rotate_left
   ·have hb : (rBarE U0 != 0) = true := by simp [hE]
    have HZ : Hid (RRc w r T U ps (.returned (.tuple #[.int .i64 0, .int .i64 3])) W1) := by
     obtain ⟨q1, q2⟩ := HP.out.ends hE
     refine rrc_bad (by rw [HT.out.1]; exact q1) ?_
     rw [HT.out.2, q2]
     exact h1.drop.drop.drop
    generalize rBarE U0 = E at *
    clear h1 HB0 hE
    go_wp2
    go_ret2
    exact HZ.out
   have hb : (rBarE U0 != 0) = false := by simp [hE]
   have HP1 := Hid.mk' (HP.out.go hE)
   dsimp only [rdopV] at HP1
   have c3 := HL2.out _ (HL.out _ _ _ _ h1)
   have HB1 := Hid.mk' (h1.write (HRm.out _ _ HP1.out) 1 nought)
   generalize rBarE U0 = E at *
   subst hE
   generalize rBarV U0 = U1 at *
   clear h1 HB0 HP hb
   go_wp2_with (first | (with_reducible refine isBuild64 ?_; refine wpList_ex8 rfl (exec_zeroB64 rfl) ?_) | (go_at_call 95; fail))
   refine HB1.out.mono ?_
   rintro e W2 ⟨rfl, h2⟩
   by_cases hE : rWriteE U1 1 = 0
   rotate_left
   ·have hb : (rWriteE U1 1 != 0) = true := by simp [hE]
    have HZ : Hid (RRc w r T U ps (.returned (.tuple #[.int .i64 0, .int .i64 3])) W2) := by
     obtain ⟨q1, q2⟩ := HP1.out.ends hE
     refine rrc_bad (by rw [HT.out.1]; exact q1) ?_
     rw [HT.out.2, q2]
     exact h2.drop.drop.drop
    generalize rWriteE U1 1 = E at *
    clear h2 HB1 hE
    go_wp2
    go_ret2
    exact HZ.out
   have hb : (rWriteE U1 1 != 0) = false := by simp [hE]
   have HP2 := Hid.mk' (HP1.out.go hE)
   dsimp only [rdopV] at HP2
   have HB2 := Hid.mk' (h2.barrier (HRm.out _ _ HP2.out))
   generalize rWriteE U1 1 = E at *
   subst hE
   generalize rWriteV U1 1 nought = U2 at *
   clear h2 HB1 HP1 hb c3
   go_wp2_with (first | (go_at_call 96; fail))
   refine HB2.out.mono ?_
   rintro e W3 ⟨rfl, h3⟩
   by_cases hE : rBarE U2 = 0
   rotate_left
   ·have hb : (rBarE U2 != 0) = true := by simp [hE]
    have HZ : Hid (RRc w r T U ps (.returned (.tuple #[.int .i64 0, .int .i64 3])) W3) := by
     obtain ⟨q1, q2⟩ := HP2.out.ends hE
     refine rrc_bad (by rw [HT.out.1]; exact q1) ?_
     rw [HT.out.2, q2]
     exact h3.drop.drop.drop
    generalize rBarE U2 = E at *
    clear h3 HB2 hE
    go_wp2
    go_ret2
    exact HZ.out
   have hb : (rBarE U2 != 0) = false := by simp [hE]
   have HP3 := Hid.mk' (HP2.out.go hE)
   dsimp only [rdopV] at HP3
   have HZ : Hid (RRc w r T U ps (.returned (.tuple #[.int .i64 (N : Int), .int .i64 0])) W3) := by
    obtain ⟨q1, q2⟩ := HP3.out.done
    have := rrc_fine (T := T) (U := U) (W := W3) (w := w) (r := r) (ps := ps) (by rw [HT.out.1]; exact q1) (by rw [HT.out.2, q2]; exact h3.drop.drop.drop)
    rw [HN.out] at this
    exact this
   generalize rBarE U2 = E at *
   subst hE
   clear h3 HB2 HP2 hb
   go_wp2
   go_ret2
   exact HZ.out
end
def dkP (L : Loc) (t : St) : Part := ⟨L.has, fun W => DiskAt W L t⟩
theorem dkP_good (L : Loc) (t : St) : (dkP L t).Good := fun _ _ h _ hb => DiskAt.kept h hb
structure ZLoc where
 K : KLoc
 L : Loc
 mb : Nat
 v : Value
def zHas (g : Nat) (Z : ZLoc) (k : Nat) : Prop := Z.K.has k ∨ Z.L.has k ∨ LHas g Z.mb Z.v k
structure ZAt (W : World) (base g d : Nat) (x : LSt) (t : St) (book : Int → Nat → Int) (Z : ZLoc) : Prop where
 dd : Z.L.d = d
 st : ∃ s, CD W Z.K Z.L s t ∧ Inv x s t book
 log : LogAt W base g d Z.K.c Z.mb Z.v x
 ap : ∀ k, LHas g Z.mb Z.v k → ¬ Z.K.has k ∧ ¬ Z.L.has k
def lgP (base g d : Nat) (x : LSt) (t : St) (book : Int → Nat → Int) (Z : ZLoc) : Part := ⟨zHas g Z, fun W => ZAt W base g d x t book Z⟩
theorem lgP_good (base g d : Nat) (x : LSt) (t : St) (book : Int → Nat → Int) (Z : ZLoc) : (lgP base g d x t book Z).Good := fun _ _ h _ hb => by
 obtain ⟨s, hs, hI⟩ := h.st
 exact ⟨h.dd, ⟨s, ⟨hs.cache.kept fun k hk => hb k (.inl hk), hs.disk.kept fun k hk => hb k (.inr (.inl hk)), hs.d, hs.apart⟩, hI⟩, h.log.kept fun k hk => hb k (.inr (.inr hk)), h.ap⟩
section
variable {w W W' : World} {g d : Nat} {x x' : LSt} {t t' : St} {book book' : Int → Nat → Int} {Z : ZLoc} {L : Loc} {l : List Part} {ks : List (Nat × Obj)}
structure Held (w W : World) (l : List Part) (ks : List (Nat × Obj)) : Prop where
 sep : Sep w W l
 obj : ∀ p ∈ ks, W.heap[p.1]? = some p.2 ∧ ∃ q ∈ l, q.own p.1
 all : ∀ q ∈ l, ∀ k, q.own k → ∃ o, (k, o) ∈ ks
theorem Sep.held (h : Sep w W l) : ∃ ks, Held w W l ks := by
 classical
 refine ⟨(List.range W.heap.size).filterMap fun k => if ∃ q ∈ l, q.own k then (W.heap[k]?).map fun o => (k, o) else Option.none, h, fun p hp => ?_, fun q hq k hk => ?_⟩
 ·obtain ⟨k, _, hk⟩ := List.mem_filterMap.1 hp
  split at hk
  ·rename_i hq
   obtain ⟨o, ho, rfl⟩ := Option.map_eq_some_iff.1 hk
   exact ⟨ho, hq⟩
  ·cases hk
 ·have hlt := (h.lt q hq k hk).2
  refine ⟨W.heap[k], List.mem_filterMap.2 ⟨k, List.mem_range.2 hlt, ?_⟩⟩
  rw [if_pos ⟨q, hq, hk⟩, Array.getElem?_eq_getElem hlt]
  rfl
theorem Held.stay (h : Held w W l ks) (hk : ∀ p ∈ ks, W'.heap[p.1]? = some p.2) (hb : Below w.heap.size w W') : Sep w W' l := by
 have he : ∀ q ∈ l, ∀ k, q.own k → W'.heap[k]? = W.heap[k]? := fun q hq k hk' => by
  obtain ⟨o, ho⟩ := h.all q hq k hk'
  rw [hk _ ho, (h.obj _ ho).1]
 refine ⟨h.sep.good, fun q hq => h.sep.good q hq W W' (h.sep.say q hq) (fun k hk => (h.sep.lt q hq k hk).2) (he q hq), fun q hq k hk' => ⟨(h.sep.lt q hq k hk').1, ?_⟩, h.sep.apart, hb⟩
 obtain ⟨o, ho⟩ := h.all q hq k hk'
 exact (Array.getElem?_eq_some_iff.1 (hk _ ho)).1
theorem Held.put {p : Part} (h : Held w W l ks) (hk : ∀ p ∈ ks, W'.heap[p.1]? = some p.2) (hb : Below w.heap.size w W') (hg : p.Good) (hs : p.say W') (ho : ∀ k, p.own k → w.heap.size ≤ k ∧ k < W'.heap.size) (ha : ∀ q ∈ ks, ¬ p.own q.1) : Sep w W' (p :: l) := by
 have hS := h.stay hk hb
 refine ⟨fun q hq => ?_, fun q hq => ?_, fun q hq => ?_, List.pairwise_cons.2 ⟨fun q hq k h1 h2 => ?_, hS.apart⟩, hb⟩
 ·rcases List.mem_cons.1 hq with rfl | hq
  ·exact hg
  ·exact hS.good q hq
 ·rcases List.mem_cons.1 hq with rfl | hq
  ·exact hs
  ·exact hS.say q hq
 ·rcases List.mem_cons.1 hq with rfl | hq
  ·exact ho
  ·exact hS.lt q hq
 ·obtain ⟨o, hm⟩ := h.all q hq k h2
  exact ha _ hm h1
theorem Sep.apartOf {p : Part} (h : Sep w W (p :: l)) {q : Part} (hq : q ∈ l) {k : Nat} (h2 : q.own k) : ¬ p.own k := fun h1 => (List.pairwise_cons.1 h.apart).1 q hq k h1 h2
theorem Sep.toSits (h : Sep w W (dkP L t :: l)) : ∃ ks, Held w W l ks ∧ Sits w W L.d t ks := by
 obtain ⟨ks, hk⟩ := h.drop.held
 refine ⟨ks, hk, L, rfl, h.head, fun k q => (h.headLt q).1, h.below, fun p hp => ⟨(hk.obj p hp).1, ?_⟩⟩
 obtain ⟨q, hq, ho⟩ := (hk.obj p hp).2
 exact h.apartOf hq ho
theorem Held.ofSits (h : Held w W l ks) (hk : Sits w W' d t' ks) : ∃ L, L.d = d ∧ Sep w W' (dkP L t' :: l) := by
 obtain ⟨L, hd, hs⟩ := hk
 exact ⟨L, hd, h.put (fun p hp => (hs.keep p hp).1) hs.below (dkP_good _ _) hs.disk (fun k q => ⟨hs.new k q, hs.disk.lt k q⟩) fun p hp => (hs.keep p hp).2⟩
theorem Held.ofSits2 {o : Obj} (h : Held w W l ks) (hk : Sits w W' d t' ((g, o) :: ks)) (hg : w.heap.size ≤ g) (hn : ∀ p ∈ ks, p.1 ≠ g) : ∃ L, L.d = d ∧ Sep w W' (dkP L t' :: oP g o :: l) := by
 obtain ⟨L, hd, hs⟩ := hk
 have hgo := hs.keep (g, o) (by simp)
 have hlt := (Array.getElem?_eq_some_iff.1 hgo.1).1
 have h1 : Sep w W' (oP g o :: l) := h.put (fun p hp => (hs.keep p (List.mem_cons_of_mem _ hp)).1) hs.below (oP_good _ _) hgo.1 (fun k q => by obtain rfl : k = g := q; exact ⟨hg, hlt⟩) fun p hp q => hn p hp q
 refine ⟨L, hd, ⟨fun q hq => ?_, fun q hq => ?_, fun q hq => ?_, List.pairwise_cons.2 ⟨fun q hq k a1 a2 => ?_, h1.apart⟩, hs.below⟩⟩
 ·rcases List.mem_cons.1 hq with rfl | hq
  ·exact dkP_good _ _
  ·exact h1.good q hq
 ·rcases List.mem_cons.1 hq with rfl | hq
  ·exact hs.disk
  ·exact h1.say q hq
 ·rcases List.mem_cons.1 hq with rfl | hq
  ·exact fun k q => ⟨hs.new k q, hs.disk.lt k q⟩
  ·exact h1.lt q hq
 ·rcases List.mem_cons.1 hq with rfl | hq
  ·obtain rfl : k = g := a2
   exact hgo.2 a1
  ·obtain ⟨o', hm⟩ := h.all q hq k a2
   exact (hs.keep _ (List.mem_cons_of_mem _ hm)).2 a1
theorem Sep.toLog (h : Sep w W (lgP w.heap.size g d x t book Z :: l)) : ∃ ks, Held w W l ks ∧ LogI w W g d x t book ks := by
 obtain ⟨ks, hk⟩ := h.drop.held
 refine ⟨ks, hk, ?_⟩
 have hz : ZAt W w.heap.size g d x t book Z := h.head
 obtain ⟨s, hc, hI⟩ := hz.st
 have hap : ∀ p ∈ ks, ¬ zHas g Z p.1 := fun p hp => by
  obtain ⟨q, hq, ho⟩ := (hk.obj p hp).2
  exact h.apartOf hq ho
 have hnew : ∀ k, zHas g Z k → w.heap.size ≤ k ∧ k < W.heap.size := fun k q => h.headLt (p := lgP w.heap.size g d x t book Z) q
 classical
 let os : List (Nat × Obj) := (List.range W.heap.size).filterMap fun k => if LHas g Z.mb Z.v k then (W.heap[k]?).map fun o => (k, o) else Option.none
 have hos : ∀ p ∈ os, W.heap[p.1]? = some p.2 ∧ LHas g Z.mb Z.v p.1 := fun p hp => by
  obtain ⟨k, _, hk⟩ := List.mem_filterMap.1 hp
  split at hk
  ·rename_i hq
   obtain ⟨o, ho, rfl⟩ := Option.map_eq_some_iff.1 hk
   exact ⟨ho, hq⟩
  ·cases hk
 refine ⟨s, ⟨Z.K.c, Z.mb, Z.v, os, ⟨⟨Z.K, Z.L, rfl, hz.dd, hc, fun k q => (hnew k (.inl q)).1, fun k q => (hnew k (.inr (.inl q))).1, h.below, fun p hp => ?_⟩, hz.log, fun k hk' => ⟨(hnew k (.inr (.inr hk'))).1, ?_⟩, fun p hp q => hap p hp (.inr (.inr q))⟩⟩, hI⟩
 ·rcases List.mem_append.1 hp with hp | hp
  ·exact ⟨(hos p hp).1, (hz.ap _ (hos p hp).2).1, (hz.ap _ (hos p hp).2).2⟩
  ·exact ⟨(hk.obj p hp).1, fun q => hap p hp (.inl q), fun q => hap p hp (.inr (.inl q))⟩
 ·have hlt := (hnew k (.inr (.inr hk'))).2
  refine ⟨W.heap[k], List.mem_filterMap.2 ⟨k, List.mem_range.2 hlt, ?_⟩⟩
  rw [if_pos hk', Array.getElem?_eq_getElem hlt]
  rfl
theorem Held.ofLog (h : Held w W l ks) (hk : LogI w W' g d x' t' book' ks) : ∃ Z, Sep w W' (lgP w.heap.size g d x' t' book' Z :: l) := by
 obtain ⟨s, ⟨c, mb, v, os, hL⟩, hI⟩ := hk
 obtain ⟨K, L, hc, hd, hS⟩ := hL.sit
 subst hc
 have hap : ∀ k, LHas g mb v k → ¬ K.has k ∧ ¬ L.has k := fun k q => by
  obtain ⟨_, o, ho⟩ := hL.own k q
  exact (hS.keep _ (List.mem_append.2 (.inl ho))).2
 refine ⟨⟨K, L, mb, v⟩, h.put (fun p hp => (hS.keep p (List.mem_append.2 (.inr hp))).1) hS.below (lgP_good _ _ _ _ _ _ _) ⟨hd, ⟨s, hS.cd, hI⟩, hL.log, hap⟩ (fun k q => ?_) fun p hp q => ?_⟩
 ·rcases q with q | q | q
  ·exact ⟨hS.newK k q, hS.cd.cache.lt k q⟩
  ·exact ⟨hS.newL k q, hS.cd.disk.lt k q⟩
  ·exact ⟨(hL.own k q).1, hL.log.lt k q⟩
 ·rcases q with q | q | q
  ·exact (hS.keep p (List.mem_append.2 (.inr hp))).2.1 q
  ·exact (hS.keep p (List.mem_append.2 (.inr hp))).2.2 q
  ·exact hL.ap p hp q
theorem Sep.callLog {f : FuncId} {av : Array Value} {Q : Ending → Prop} (h : Sep w W (lgP w.heap.size g d x t book Z :: l)) (hc : ∀ ks, LogI w W g d x t book ks → Calls Tryz.prog f av W fun e W' => Q e ∧ LogI w W' g d x' t' book' ks) : Calls Tryz.prog f av W fun e W' => Q e ∧ ∃ Z', Sep w W' (lgP w.heap.size g d x' t' book' Z' :: l) := by
 obtain ⟨ks, hk, hl⟩ := h.toLog
 exact (hc ks hl).mono fun _ _ ⟨hq, hL⟩ => ⟨hq, hk.ofLog hL⟩
theorem Sep.callDisk {f : FuncId} {av : Array Value} {Q : Ending → Prop} (h : Sep w W (dkP L t :: l)) (hc : ∀ ks, Sits w W L.d t ks → Calls Tryz.prog f av W fun e W' => Q e ∧ Sits w W' L.d t' ks) : Calls Tryz.prog f av W fun e W' => Q e ∧ ∃ L', L'.d = L.d ∧ Sep w W' (dkP L' t' :: l) := by
 obtain ⟨ks, hk, hl⟩ := h.toSits
 exact (hc ks hl).mono fun _ _ ⟨hq, hL⟩ => ⟨hq, hk.ofSits hL⟩
theorem Sep.logGone (h : Sep w W (lgP w.heap.size g d x t book Z :: l)) : ∃ c mb v L, L.d = d ∧ Sep w W (dkP L t :: oP g (.cells (lgRow g d c mb v x) 110) :: l) := by
 have hz : ZAt W w.heap.size g d x t book Z := h.head
 obtain ⟨s, hc, hI⟩ := hz.st
 refine ⟨Z.K.c, Z.mb, Z.v, Z.L, hz.dd, ⟨fun q hq => ?_, fun q hq => ?_, fun q hq => ?_, ?_, h.below⟩⟩
 ·rcases List.mem_cons.1 hq with rfl | hq
  ·exact dkP_good _ _
  ·rcases List.mem_cons.1 hq with rfl | hq
   ·exact oP_good _ _
   ·exact h.good q (List.mem_cons_of_mem _ hq)
 ·rcases List.mem_cons.1 hq with rfl | hq
  ·exact hc.disk
  ·rcases List.mem_cons.1 hq with rfl | hq
   ·exact hz.log.row
   ·exact h.say q (List.mem_cons_of_mem _ hq)
 ·rcases List.mem_cons.1 hq with rfl | hq
  ·exact fun k q => h.headLt (p := lgP w.heap.size g d x t book Z) (.inr (.inl q))
  ·rcases List.mem_cons.1 hq with rfl | hq
   ·exact fun k q => by
     obtain rfl : k = g := q
     exact h.headLt (p := lgP w.heap.size k d x t book Z) (.inr (.inr (.inl rfl)))
   ·exact h.lt q (List.mem_cons_of_mem _ hq)
 ·refine List.pairwise_cons.2 ⟨fun q hq k h1 h2 => ?_, List.pairwise_cons.2 ⟨fun q hq k h1 h2 => ?_, h.drop.apart⟩⟩
  ·rcases List.mem_cons.1 hq with rfl | hq
   ·obtain rfl : k = g := h2
    exact (hz.ap k (.inl rfl)).2 h1
   ·exact h.apartOf hq h2 (.inr (.inl h1))
  ·obtain rfl : k = g := h1
   exact h.apartOf hq h2 (.inr (.inr (.inl rfl)))
end
variable {w W : World} {g d c mb : Nat} {v : Value} {x : LSt} {s : CSt} {t : St} {os ks : List (Nat × Obj)} {base : Nat} {book : Int → Nat → Int}
theorem LS.beside {W' : World} {q : Nat} {o : Obj} (h : LS w W g d c mb v x s t os ((q, o) :: ks)) (hf : Fr (fun k => k = q) W W') (hq : w.heap.size ≤ q) (hks : ∀ p ∈ ks, p.1 ≠ q) : LogSit w W' g d x s t ks := by
 have hne : ∀ k, LHas g mb v k → k ≠ q := fun k hk e => h.ap (q, o) (List.mem_cons_self ..) (by rw [← e]; exact hk)
 have hk : ∀ k, LHas g mb v k → W'.heap[k]? = W.heap[k]? := fun k hk => hf.block k (h.log.lt k hk) (hne k hk)
 refine ⟨c, mb, v, os.filter (fun p => decide (p.1 ≠ q)), h.sit.turn hf (fun k e => by subst e; exact ⟨hq, o, List.mem_append.2 (.inr (List.mem_cons_self ..))⟩) fun p hp => ?_, h.log.kept hk, fun k hk2 => ?_, fun p hp => h.ap p (List.mem_cons_of_mem _ hp)⟩
 ·rcases List.mem_append.1 hp with hp | hp
  ·obtain ⟨hp1, hp2⟩ := List.mem_filter.1 hp
   have hp3 : p.1 ≠ q := by simpa using hp2
   have hb := h.sit.blk (List.mem_append.2 (.inl hp1) : (p.1, p.2) ∈ os ++ (q, o) :: ks)
   exact ⟨(hf.block p.1 (Array.getElem?_eq_some_iff.1 hb).1 hp3).trans hb, .inl ⟨p.2, List.mem_append.2 (.inl hp1)⟩⟩
  ·have hb := h.sit.blk (List.mem_append.2 (.inr (List.mem_cons_of_mem _ hp)) : (p.1, p.2) ∈ os ++ (q, o) :: ks)
   exact ⟨(hf.block p.1 (Array.getElem?_eq_some_iff.1 hb).1 (hks p hp)).trans hb, .inl ⟨p.2, List.mem_append.2 (.inr (List.mem_cons_of_mem _ hp))⟩⟩
 ·obtain ⟨h1, o2, ho2⟩ := h.own k hk2
  exact ⟨h1, o2, List.mem_filter.2 ⟨ho2, by simpa using hne k hk2⟩⟩
theorem LS.ksLt (h : LS w W g d c mb v x s t os ks) : ∀ p ∈ ks, p.1 ≠ W.heap.size := fun p hp e => by
 have := (Array.getElem?_eq_some_iff.1 (h.sit.blk (List.mem_append.2 (.inr hp) : (p.1, p.2) ∈ os ++ ks))).1
 omega
def RdPost (w : World) (g d : Nat) (x : LSt) (t : St) (book : Int → Nat → Int) (ks : List (Nat × Obj)) (F : Nat → Int) (e : Ending) (W' : World) : Prop :=
 e = .returned (.tuple #[.agg (blk F), .int .i64 0]) ∧ ∃ t', (t' = t ∨ t' = readS t) ∧ LogI w W' g d x t' book ks
set_option maxRecDepth 20000 in
set_option maxHeartbeats 1600000 in
theorem LogI.read (h : LogI w W g d x t book ks) (hc : chkE x t = 0) {k : Int} (hk : Dat x.b x.l k) (hs : t.stopped = false) (hr : Room t) : Calls Tryz.prog 36 #[ptr g, .int .i64 k] W (RdPost w g d x t book ks (book k)) := by
 obtain ⟨s, ⟨c, mb, v, os, h⟩, hI⟩ := h
 have hksz := h.ksLt
 have hbase := h.sit.below.size
 have hA := h.add (.cells (blk nought) 64)
 have hu := hI.used hs hk
 have hck : Calls Tryz.prog 50 #[ptr g] (W.alloc (.cells (blk nought) 64)) fun e W' => e = .returned (.int .i64 0) ∧ W'.cell? ⟨g, 3, none⟩ = some (.int .i64 x.b) ∧ W'.cell? ⟨g, 12, none⟩ = some (.pointer (some ⟨c, 0, none⟩)) ∧ Calls Tryz.prog 77 #[ptr g, .int .i64 k] W' (fun e W'' => e = .returned (.bool false) ∧ W'' = W') ∧ Hid (Calls Tryz.prog 84 #[ptr c, .int .i64 k] W' fun e W'' => e = .returned (.tuple #[.agg (blk (book k)), .int .i64 0]) ∧ W''.heap[W.heap.size]? = some (.cells (blk nought) 64) ∧ Hid (RdPost w g d x t book ks (book k) (.returned (.tuple #[.agg (blk (book k)), .int .i64 0])) (W''.setRow W.heap.size (blk (book k))))) := by
  refine hA.check.mono ?_
  rintro e W' ⟨rfl, m, rfl⟩
  have hB := hA.later (below_drewN _ m)
  have ho : ofL x k = false := by unfold ofL; exact decide_eq_false fun q => hk.2 q
  have ho2 := hB.ofLog k
  rw [ho] at ho2
  refine ⟨by rw [hc], hB.log.c3, hB.log.c12, ho2, ?_⟩
  refine (hB.cread hr k).mono ?_
  rintro e W2 ⟨rfl, h2⟩
  obtain ⟨a1, a2, _, a4⟩ := hI.c.read hk hu h2.sit.ok.1
  refine ⟨by rw [hI.c.reads hk hu, hu], h2.sit.blk (List.mem_append.2 (.inr (List.mem_cons_self ..))), rfl, rdD s t k, a4, rdC s t k, h2.beside (Fr.setRow W2 W.heap.size _) hbase hksz, ?_⟩
  exact ⟨hI.fine, a1, hI.nd, hI.rng, by rw [a2]; exact hI.fast, hI.last, hI.len, hI.steps, hI.commits, hI.room, hI.more⟩
 have hk1 : ¬ k < 0 := by have := hk.1; omega
 have hk2 : ¬ x.b ≤ k := by have := hk.1; omega
 clear h hA hI hu hksz hbase
 unfold ptr at *
 generalize book k = F at *
 have z25 := zero25
 go_enter Tryz.func36, Tryz.ntmps36
 go_wp2_with (go_at_call 50; fail)
 refine hck.mono ?_
 rintro e W1 ⟨rfl, c3, c12, ofl, HR⟩
 clear hck
 go_wp2_with (first | (go_at_call 77; refine ofl.mono ?_; rintro e W2 ⟨rfl, rfl⟩) | (go_at_call 84; fail))
 refine HR.out.mono ?_
 rintro e W3 ⟨rfl, hg, HP⟩
 clear HR ofl c3 c12
 go_wp2_with (first | refine wpList_store25 rfl (.tmp 4) (.tmp 45) rfl W.heap.size F rfl rfl _ hg ?_)
 exact retBT rfl W.heap.size F rfl (setRow_heap _ _ _ _ _ _ hg) rfl HP.out
end Go.Proofs.YtichojdcoegboaaGreatW
