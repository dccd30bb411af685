/- Several texts joined, each with its own remark; no condition. -/
import Derived.Test.YtlcdpmjdnihocaaGreatJ10
import Derived.Test.YtlcdpmjdnihocaaGreatJ7
import Derived.Test.YtlcdpmjdnihocaaGreatJ8
import Derived.Test.YtlcdpmjdnihocaaGreatJ9
import Derived.Test.YtlcdpmjdnihocaaGreatJ6
import Derived.WalkKit
import Derived.WalkSpells
import Derived.WalkLawsBesides
import Derived.Deep.WholeRow
import Derived.Laws.StructEq
import Derived.Test.YtlcdpmjdnihocaaGreatRows
import Derived.BigQuiet
import Derived.OrdersHeld
import Derived.Laws.BitsLemmas
/- The document's Barrier: all that is pending is held; lists of at most a million. -/
namespace Go.Proofs.YtlcdpmjdnihocaaGreatD
open Go.RowKit Go.Maps
variable {w : World} {B g : Nat} {hv wv ov : Value} {s : RSt}
/-- What Barrier does. -/
def rBarS (s : RSt) : RSt := { rLets s with held := rLay (rLets s).held (rLets s).wait, wait := [], ops := (rLets s).ops ++ [⟨2, 0, nought⟩] }
theorem RDAt.waitAt {b0 off N cw j : Nat} {x : Cel} (h : RDAt w B g hv (.slice (some ⟨b0, off, none⟩) N cw) ov s) (hx : s.wait[j]? = some x) :
    w.cell? ⟨g, 2, none⟩ = some (.slice (some ⟨b0, off, none⟩) N cw) ∧ w.cell? ⟨b0, off + j * 1025, none⟩ = some (.int .i64 x.1) ∧ BlkAt w b0 (off + j * 1025 + 1) x.2 := by
  obtain ⟨p', c', e2, hI, -, -⟩ := HL.img (show HL B w (.slice (some ⟨b0, off, none⟩) N cw) s.wait from h.wait)
  injection e2 with e2 e3 e4
  subst e2
  obtain ⟨b1, o1, e5, _, hC⟩ := hI (by have := (List.getElem?_eq_some_iff.1 hx).1; omega)
  injection e5 with e5
  injection e5 with e6 e7
  subst e6
  subst e7
  exact ⟨h.cells.2.2.1, hC j x hx⟩
set_option maxRecDepth 20000 in
theorem rBarrier_stopped (h : RDAt w B g hv wv ov s) (hd : s.dead = true) :
    Calls Tryz.prog 45 #[.pointer (some ⟨g, 0, none⟩)] w fun e w' => e = .returned (.int .i64 3) ∧ w' = w := by
  have c5 := h.cells.2.2.2.2.2.1
  rw [hd] at c5
  clear h
  go_enter Tryz.func45, Tryz.ntmps45
  go_wp2
  go_ret
  exact ⟨rfl, rfl⟩
set_option maxRecDepth 20000 in
theorem rBarrier_dead (h : RDAt w B g hv wv ov s) (hd : s.dead = false) (hL : rLetsB s = false) (hl : s.fused = true → 0 ≤ s.left ∧ s.left ≤ 9223372036854775807) (hc : 0 ≤ s.count ∧ s.count < 9223372036854775807) :
    Calls Tryz.prog 45 #[.pointer (some ⟨g, 0, none⟩)] w fun e w' => e = .returned (.int .i64 3) ∧ RDAt w' B g hv wv ov (rLets s) ∧ Fr (fun i => i = g) w w' := by
  have c5 := h.cells.2.2.2.2.2.1
  rw [hd] at c5
  have hT := rLets_any h hl hc
  rw [hL] at hT
  clear h hl hc
  go_enter Tryz.func45, Tryz.ntmps45
  go_wp2_with (go_at_call 65; fail)
  refine hT.mono ?_
  rintro e W ⟨rfl, hD, hF⟩
  have HD := Hid.mk' hD
  have HF2 := Hid.mk' (hF)
  clear hD hF
  go_wp2
  go_ret
  exact ⟨rfl, HD.out, HF2.out⟩
set_option maxRecDepth 20000 in
set_option maxHeartbeats 4000000 in
theorem rBarrier_ok (h : RDAt w B g hv wv ov s) (hd : s.dead = false) (hL : rLetsB s = true) (hl : s.fused = true → 0 ≤ s.left ∧ s.left ≤ 9223372036854775807) (hc : 0 ≤ s.count ∧ s.count < 9223372036854775807) (hlh : s.held.length + s.wait.length ≤ 9000000) (hlo : s.ops.length ≤ 10000000) :
    Calls Tryz.prog 45 #[.pointer (some ⟨g, 0, none⟩)] w fun e w' => e = .returned (.int .i64 0) ∧ RBarP B g hv ov (rBarS s) w w' := by
  have c5 := h.cells.2.2.2.2.2.1
  rw [hd] at c5
  have hT := rLets_any h hl hc
  rw [hL] at hT
  have hl1 : (rLets s).held.length + (rLets s).wait.length ≤ 9000000 := by rw [rLets_wait, rLets_held]; exact hlh
  have hl2 : (rLets s).ops.length ≤ 10000000 := by rw [rLets_ops]; exact hlo
  have HBS : Hid (∀ (W : World) (x y : Value), RDAt W B g x (.slice none 0 0) y { rLets s with held := rLay (rLets s).held (rLets s).wait, wait := [], ops := (rLets s).ops ++ [⟨2, 0, nought⟩] } → RDAt W B g x (.slice none 0 0) y (rBarS s)) := fun _ _ _ q => q
  clear h hl hc
  go_enter Tryz.func45, Tryz.ntmps45
  go_wp2_with (go_at_call 65; fail)
  refine hT.mono ?_
  rintro e W ⟨rfl, hD, hF⟩
  have HF2 := Hid.mk' (hF.mono (T' := Tco g ov) fun _ _ q => .inl q)
  clear hF c5 hT
  generalize rLets s = S at *
  obtain ⟨pw, cw, rfl, -⟩ := own_slice hD.wait
  obtain ⟨N, hN⟩ : ∃ N, S.wait.length = N := ⟨_, rfl⟩
  have HN := Hid.mk' hN
  rw [hN] at hD hl1
  clear hN
  have HD0 := Hid.mk' (show RDAt W B g hv (.slice pw N cw) ov { S with held := rLay S.held (S.wait.take 0) } from hD)
  clear hD
  go_wp2
  go_loopw [3] (fun s3 wx => ∃ (j : Nat) (hx : Value), j ≤ N ∧ s3 = .int .i64 j ∧ Hid (RDAt wx B g hx (.slice pw N cw) ov { S with held := rLay S.held (S.wait.take j) }) ∧ Hid (Fr (Tco g ov) w wx) ∧ Hid (∀ b, hx.ownBlock = some b → hv.ownBlock = some b ∨ w.heap.size ≤ b)) (fun s3 _ => N - (intOf s3).toNat)
  case atStart => exact ⟨0, hv, by omega, rfl, HD0.out, HF2.out, fun _ q => .inl q⟩
  case round =>
    obtain ⟨j, hx, hj, rfl, HD, HB, HLo⟩ := hrel
    clear HD0 HF2
    have c2 := HD.out.cells.2.2.1
    by_cases hj2 : (j : Int) < N
    · have hjl : j < S.wait.length := by have := HN.out; omega
      have hcc : S.wait[j]? = some (S.wait[j]'hjl) := List.getElem?_eq_getElem hjl
      have ht : S.wait.take (j + 1) = S.wait.take j ++ [S.wait[j]'hjl] := by rw [List.take_add_one, List.getElem?_eq_getElem hjl]; rfl
      generalize S.wait[j]'hjl = x at hcc ht
      have c1 := HD.out.cells.2.1
      obtain ⟨p', c', e2, hIw, -, -⟩ := HL.img (show HL B wr (.slice pw N cw) S.wait from HD.out.wait)
      injection e2 with e2 e3 e4
      subst e2
      obtain ⟨ph, ch, rfl, hIh, -, -⟩ := HL.img (show HL B wr hx (rLay S.held (S.wait.take j)) from HD.out.held)
      obtain ⟨b0, off, rfl, hlt0, hC⟩ := hIw (by omega)
      have HW := Hid.mk' (fun (u : World) (hx' : Value) (l : List Cel) (h : RDAt u B g hx' (.slice (some ⟨b0, off, none⟩) N cw) ov { S with held := l }) => h.waitAt (j := j) (x := x) hcc)
      have hlen : (rLay S.held (S.wait.take j)).length ≤ 9000000 := by
        have a := rLay_len S.held (S.wait.take j)
        have b : (S.wait.take j).length ≤ N := by rw [List.length_take]; omega
        omega
      have HC := Hid.mk' (laid_any (rLay S.held (S.wait.take j)) ph ch x.1 x.2 wr.drew hlen (show ImgAt wr.drew ph _ from hIh))
      have HE := Hid.mk' (show rLay S.held (S.wait.take (j + 1)) = laidL (rLay S.held (S.wait.take j)) x.1 x.2 by rw [ht, rLay_snoc])
      have HDd := Hid.mk' HD.out.drew
      have HBd := Hid.mk' HB.out.drewF
      generalize hls : rLay S.held (S.wait.take j) = ls at *
      clear hC hcc ht hIw hIh HD HB HLo hls e3 e4
      obtain ⟨M, hM⟩ : ∃ M, ls.length = M := ⟨_, rfl⟩
      rw [hM] at c1
      have HC2 := HC.out
      rw [hM] at HC2
      have HC3 := Hid.mk' HC2
      have HD2 := HDd.out
      rw [hM] at HD2
      have HDd2 := Hid.mk' HD2
      clear HC HC2 HDd HD2 hM hlen
      go_wp2
      refine wp_region_ord (S := fun u => u.cell? ⟨g, 2, none⟩ = some (.slice (some ⟨b0, off, none⟩) N cw) ∧ u.cell? ⟨b0, off + j * 1025, none⟩ = some (.int .i64 x.1) ∧ BlkAt u b0 (off + j * 1025 + 1) x.2) [(0, true), (1, true), (2, true), (3, true), (5, true), (6, true), (7, true), (8, true), (9, true), (10, true), (11, true), (12, true), (13, true), (14, true), (15, true), (16, true), (17, true), (18, true), (19, true), (20, true), (4, false), (21, false), (22, true), (23, true), (24, false)]
        (by kernel_rfl) rfl (by kernel_rfl) (fun d _ _ _ _ h => by cases d <;> exact h) (HW.out _ _ _ HDd2.out) ?_
      simp only [inOrd, List.getElem?_cons_zero, List.getElem?_cons_succ]
      refine wpOrd_move rfl _ rfl ?_
      simp only [Act.put, List.setIfInBounds_toArray, List.set_cons_succ, List.set_cons_zero]
      refine wpOrd_move rfl _ rfl ?_
      simp only [Act.put, List.setIfInBounds_toArray, List.set_cons_succ, List.set_cons_zero]
      refine wpOrd_yield (v := .pointer (some ⟨g, 0, none⟩)) rfl (fun u _ => by go_simp) ?_
      simp only [Act.put, List.setIfInBounds_toArray, List.set_cons_succ, List.set_cons_zero]
      refine wpOrd_yield (v := .pointer (some ⟨g, 1, none⟩)) rfl (fun u _ => by go_simp) ?_
      simp only [Act.put, List.setIfInBounds_toArray, List.set_cons_succ, List.set_cons_zero]
      refine wpOrd_move rfl _ rfl ?_
      simp only [Act.put, List.setIfInBounds_toArray, List.set_cons_succ, List.set_cons_zero]
      refine wpOrd_yield (v := .pointer (some ⟨g, 0, none⟩)) rfl (fun u _ => by go_simp) ?_
      simp only [Act.put, List.setIfInBounds_toArray, List.set_cons_succ, List.set_cons_zero]
      refine wpOrd_yield (v := .pointer (some ⟨g, 2, none⟩)) rfl (fun u _ => by go_simp) ?_
      simp only [Act.put, List.setIfInBounds_toArray, List.set_cons_succ, List.set_cons_zero]
      refine wpOrd_yield (v := .slice (some ⟨b0, off, none⟩) N cw) rfl (fun u hu => by have hu1 := hu.1; go_simp) ?_
      simp only [Act.put, List.setIfInBounds_toArray, List.set_cons_succ, List.set_cons_zero]
      refine wpOrd_move rfl _ rfl ?_
      simp only [Act.put, List.setIfInBounds_toArray, List.set_cons_succ, List.set_cons_zero]
      refine wpOrd_yield (v := .pointer (some ⟨b0, off + j * 1025, none⟩)) rfl (fun u _ => by go_simp) ?_
      simp only [Act.put, List.setIfInBounds_toArray, List.set_cons_succ, List.set_cons_zero]
      refine wpOrd_yield (v := .pointer (some ⟨b0, off + j * 1025, none⟩)) rfl (fun u _ => by go_simp) ?_
      simp only [Act.put, List.setIfInBounds_toArray, List.set_cons_succ, List.set_cons_zero]
      refine wpOrd_yield (v := .int .i64 x.1) rfl (fun u hu => by have hu1 := hu.2.1; go_simp) ?_
      simp only [Act.put, List.setIfInBounds_toArray, List.set_cons_succ, List.set_cons_zero]
      refine wpOrd_move rfl _ rfl ?_
      simp only [Act.put, List.setIfInBounds_toArray, List.set_cons_succ, List.set_cons_zero]
      refine wpOrd_yield (v := .pointer (some ⟨g, 0, none⟩)) rfl (fun u _ => by go_simp) ?_
      simp only [Act.put, List.setIfInBounds_toArray, List.set_cons_succ, List.set_cons_zero]
      refine wpOrd_yield (v := .pointer (some ⟨g, 2, none⟩)) rfl (fun u _ => by go_simp) ?_
      simp only [Act.put, List.setIfInBounds_toArray, List.set_cons_succ, List.set_cons_zero]
      refine wpOrd_yield (v := .slice (some ⟨b0, off, none⟩) N cw) rfl (fun u hu => by have hu1 := hu.1; go_simp) ?_
      simp only [Act.put, List.setIfInBounds_toArray, List.set_cons_succ, List.set_cons_zero]
      refine wpOrd_move rfl _ rfl ?_
      simp only [Act.put, List.setIfInBounds_toArray, List.set_cons_succ, List.set_cons_zero]
      refine wpOrd_yield (v := .pointer (some ⟨b0, off + j * 1025, none⟩)) rfl (fun u _ => by go_simp) ?_
      simp only [Act.put, List.setIfInBounds_toArray, List.set_cons_succ, List.set_cons_zero]
      refine wpOrd_yield (v := .pointer (some ⟨b0, off + j * 1025 + 1, none⟩)) rfl (fun u _ => by go_simp) ?_
      simp only [Act.put, List.setIfInBounds_toArray, List.set_cons_succ, List.set_cons_zero]
      refine wpOrd_yield (v := .agg (blk x.2)) rfl (fun u hu => exec_ldBlk rfl rfl hu.2.2) ?_
      simp only [Act.put, List.setIfInBounds_toArray, List.set_cons_succ, List.set_cons_zero]
      have k1 := HDd2.out.cells.2.1
      refine wpOrd_run (v := .slice ph M ch) (w' := wr.drew) rfl (by go_simp) (HW.out _ _ _ HDd2.out) ?_
      simp only [Act.put, List.setIfInBounds_toArray, List.set_cons_succ, List.set_cons_zero]
      refine wpOrd_call rfl 66 _ _ rfl Tryz.call66 [.slice ph M ch, .int .i64 x.1, .agg (blk x.2)] rfl ?_
      refine HC3.out.mono ?_
      rintro e W2 ⟨v, rfl, ho, hb⟩
      obtain ⟨pv, cv, rfl, -⟩ := own_slice ho
      have hD2 := HDd2.out.later hb
      have hD3 := HDd2.out.setHeld hb ho
      have k2 := hD2.cells.2.1
      have f2 := hD2.free 1
      have HB3 := Hid.mk' ((HBd.out.trans (Fr.ofBelow (T := fun _ => False) hb) fun _ _ q => q.elim).trans (Fr.setCell W2 g 1 (.slice pv (laidL ls x.1 x.2).length cv)) fun _ _ q => .inl q)
      have HLo3 : Hid (∀ b, (Value.slice pv (laidL ls x.1 x.2).length cv).ownBlock = some b → hv.ownBlock = some b ∨ w.heap.size ≤ b) := fun b q => .inr (Nat.le_trans HBd.out.size (ho.lt b q).1)
      have HS2 := Hid.mk' (HW.out _ _ _ hD2)
      have HS3 := Hid.mk' (HW.out _ _ _ hD3)
      have HD3 := Hid.mk' hD3
      generalize (laidL ls x.1 x.2).length = M2 at *
      rw [← HE.out] at HD3
      clear hD2 hD3 ho hb HC3 HDd2 HBd
      refine ⟨_, rfl, HS2.out, ?_⟩
      simp only [Act.put, List.setIfInBounds_toArray, List.set_cons_succ, List.set_cons_zero]
      refine wpOrd_yield (v := .pointer (some ⟨g, 0, none⟩)) rfl (fun u _ => by go_simp) ?_
      simp only [Act.put, List.setIfInBounds_toArray, List.set_cons_succ, List.set_cons_zero]
      refine wpOrd_yield (v := .pointer (some ⟨g, 1, none⟩)) rfl (fun u _ => by go_simp) ?_
      simp only [Act.put, List.setIfInBounds_toArray, List.set_cons_succ, List.set_cons_zero]
      refine wpOrd_do (w' := W2.setCell ⟨g, 1, none⟩ (.slice pv M2 cv)) rfl (by go_simp) HS3.out ?_
      refine wpOrd_nil ?_
      simp only [Act.put]
      clear k1 k2 f2 HS2 HS3 HW c1 c2
      generalize W2.setCell ⟨g, 1, none⟩ (.slice pv M2 cv) = Y at *
      go_wp2
      exact ⟨⟨j + 1, _, by omega, by go_num, HD3.out, HB3.out, HLo3.out⟩, by simp [intOf]; omega⟩
    · have hjN : N = j := by omega
      subst hjN
      have hD := HD.out
      rw [← HN.out, List.take_length, HN.out] at hD
      have f2 := hD.free 2
      have H2 := Hid.mk' hD.nilW
      have HB2 := Hid.mk' (HB.out.trans (Fr.setCell wr g 2 (.slice none 0 0)) fun _ _ q => .inl q)
      clear hD HD HB
      go_upto_region 10 with fail
      clear c2 f2
      generalize wr.setCell ⟨g, 2, none⟩ (.slice none 0 0) = Y at *
      obtain ⟨v', W5, hr, hw, hb, hf, hor, hE⟩ := H2.out.pushO hl2 ⟨2, 0, nought⟩
      obtain ⟨po, co, e0, -⟩ := own_slice H2.out.ops
      obtain ⟨aa, am, ac, rfl⟩ : ∃ a m c, v' = Value.slice a m c := by obtain ⟨p, c, e, _⟩ := own_slice hE.ops; exact ⟨_, _, _, e⟩
      have c6 := H2.out.cells.2.2.2.2.2.2.1
      have k6 : W5.cell? ⟨g, 6, none⟩ = some ov := Joins.cell_of_block hw 6
      have f6 : W5.frozen? ⟨g, 6, none⟩ = false := Joins.unfrozen_of_block hw 6
      have HLo5 : Hid (∀ b, (Value.slice aa am ac).ownBlock = some b → ov.ownBlock = some b ∨ w.heap.size ≤ b) := fun b q => (hor b q).elim .inl fun r => .inr (Nat.le_trans HB2.out.size r)
      have HE := Hid.mk' (HBS.out _ _ _ hE)
      have HB5 := Hid.mk' ((HB2.out.trans hf fun _ _ q => .inr q).trans (Fr.setCell W5 g 6 (.slice aa am ac)) fun _ _ q => .inl q)
      rw [e0] at c6 k6 hr
      have HR := Hid.mk' hr
      have hbl := fun u => build67 ⟨2, 0, nought⟩ u
      clear hr hw hb hf hor hE e0 H2 HB2 HBS
      generalize hmo : List.length _ = mo at c6 k6 HR
      go_wp2_with (first | refine wpList_bar rfl rfl ?_ | refine wpList_build1 rfl 42 94 (.tmp 56) rfl _ rfl (hbl _) ?_ | (at_builtin; refine wpList_exec rfl (exec_pushY rfl rfl rfl HR.out) ?_))
      go_ret
      exact ⟨rfl, _, _, HE.out, HB5.out, HLo.out, HLo5.out⟩
end Go.Proofs.YtlcdpmjdnihocaaGreatD
/- The document's Crash: of what is pending that is held which is kept; lists of at most a million. -/
namespace Go.Proofs.YtlcdpmjdnihocaaGreatD
open Go.RowKit Go.Maps
variable {w : World} {B g : Nat} {hv wv ov : Value} {s : RSt}
/-- What Crash does. -/
def rCrashS (s : RSt) (kl : List Bool) : RSt := { s with held := rLay s.held (keptL s.wait kl), wait := [], ops := [], dead := false, fused := false, owner := 0 }
theorem keptL_len : ∀ (l : List Cel) (k : List Bool), (keptL l k).length ≤ l.length
  | [], k => by simp [keptL]
  | x :: l, [] => by simp [keptL]
  | x :: l, y :: k => by
    have ih := keptL_len l k
    cases y
    · show (keptL l k).length ≤ _
      rw [List.length_cons]
      omega
    · show (x :: keptL l k).length ≤ _
      rw [List.length_cons, List.length_cons]
      omega
end Go.Proofs.YtlcdpmjdnihocaaGreatD
/- The document's Pending and History: lists that are made anew; of at most ten million. -/
namespace Go.Proofs.YtlcdpmjdnihocaaGreatD
open Go.RowKit Go.Maps
variable {w : World} {B g : Nat} {hv wv ov : Value} {s : RSt}
def intRow (x : Int) : List Value := [.int .i64 x]
theorem intRow_len (x : Int) : (intRow x).length = 1 := rfl
theorem intRow_one (x : Int) : ∀ u ∈ intRow x, u.oneCell' = true := fun u hu => by
  simp only [intRow, List.mem_singleton] at hu
  subst hu
  rfl
theorem info3t : (Tryz.prog.info? 3).map (fun i => (i.zero, i.size, i.bytes)) = some (some (.int .i64 0), 1, 8) := by kernel_rfl
theorem exec_ldAt {o : Oper} {a : Act} {W : World} {x : Operand} {ty : TypeId} {p v : Value} (ho : o.op = .load ty x) (hx : a.eval x = p) (h : (Instr.loadAt ty p).run Tryz.prog W = .ok v W) : (execOp a.eval o).run Tryz.prog W = .ok (.value v) W := by
  unfold execOp
  simp only [ho, hx, Sem.run_bind, h, Result.andThen_ok, Sem.run_pure]
theorem exec_slice108 {o : Oper} {a : Act} {W : World} {y : Operand} {r : Rec} (ho : o.op = .buildSlice 42 1 #[(0, y)]) (hy : a.eval y = .agg (recCells r).toArray) : (execOp a.eval o).run Tryz.prog W = .ok (.value (.slice (some ⟨W.heap.size, 0, none⟩) 1 1)) (W.alloc (.cells (recCells r).toArray 94)) := by
  have e := build67 r W
  generalize (recCells r).toArray = Z at *
  simp [execOp, ho, hy, e]
theorem rec_load {N cw j : Nat} {po : Option Addr} {x : Rec} (h : RDAt w B g hv wv (.slice po N cw) s) (hx : s.ops[j]? = some x) : ∃ b0 off, po = some ⟨b0, off, none⟩ ∧ (Instr.loadAt 94 (.pointer (some ⟨b0, off + j * 1026, none⟩))).run Tryz.prog w = .ok (.agg (recCells x).toArray) w := by
  have ho := h.ops
  have hN : N = s.ops.length := by
    obtain ⟨p, c, e, _⟩ := own_slice ho
    injection e
  rw [hN] at ho
  obtain ⟨b, off, e, _, hC⟩ := own_lies recCells_len ho (by have := (List.getElem?_eq_some_iff.1 hx).1; omega)
  exact ⟨b, off, e, run_loadAt_mid (P := Tryz.prog) w b (off + j * 1026) 94 (recCells x) _ (fun i v hv => hC j x hx i v hv) Tryz.underlying94 rfl (by rw [recCells_len]; exact size108)⟩
set_option maxRecDepth 20000 in
set_option maxHeartbeats 4000000 in
theorem rHistory_any (h : RDAt w B g hv wv ov s) (hl : s.ops.length ≤ 10000000) :
    Calls Tryz.prog 19 #[.pointer (some ⟨g, 0, none⟩)] w fun e w' => ∃ v, e = .returned v ∧ w'.ownsRow w.heap.size 94 1026 v s.ops.length (s.ops.flatMap recCells) ∧ Below w.heap.size w w' := by
  obtain ⟨pw, cw, rfl, -⟩ := own_slice h.ops
  obtain ⟨N, hN⟩ : ∃ N, s.ops.length = N := ⟨_, rfl⟩
  have HN := Hid.mk' hN
  rw [hN] at h hl ⊢
  clear hN
  have HD := Hid.mk' h
  clear h
  go_enter Tryz.func19, Tryz.ntmps19
  go_wp2
  go_loopw [3, 4] (fun s3 s4 wx => ∃ j : Nat, j ≤ N ∧ s4 = .int .i64 j ∧ Hid (wx.ownsRow w.heap.size 94 1026 s3 (s.ops.take j).length ((s.ops.take j).flatMap recCells)) ∧ Hid (Below w.heap.size w wx)) (fun _ s4 _ => N - (intOf s4).toNat)
  case atStart => exact ⟨0, by omega, rfl, World.ownsRow_nil _ _ _ _, Below.refl _ _⟩
  case round =>
    obtain ⟨j, hj, rfl, HO, HB⟩ := hrel
    have hD := HD.out.later HB.out
    have c2 := hD.cells.2.2.2.2.2.2.1
    by_cases hj2 : (j : Int) < N
    · have hjl : j < s.ops.length := by have := HN.out; omega
      have hcc : s.ops[j]? = some (s.ops[j]'hjl) := List.getElem?_eq_getElem hjl
      generalize s.ops[j]'hjl = x at hcc
      have ht : s.ops.take (j + 1) = s.ops.take j ++ [x] := by rw [List.take_add_one, hcc]; rfl
      obtain ⟨b0, off, rfl, q1⟩ := rec_load hD hcc
      have HQ := Hid.mk' q1
      obtain ⟨i0, hi0, hz0, hz1, hz2⟩ := info_parts info108
      obtain ⟨v', w3, hr, ho, hb3, -⟩ := own_pushF recCells_len recCells_one Tryz.underlying42 hi0 hz0 hz1 hz2 (rec_size ⟨0, 0, nought⟩) (by omega) (by omega) HO.out HB.out.size (by rw [List.length_take]; omega) x 42
      rw [← ht] at ho
      have HO2 := Hid.mk' ho
      have HB2 := Hid.mk' (HB.out.trans hb3)
      have HR := Hid.mk' hr
      clear hr ho hb3 hcc ht HO HB hD q1
      go_wp2_with (first | (with_reducible refine isLoad 94 ?_; refine wpList_exec rfl (exec_ldAt (p := .pointer (some ⟨b0, off + j * 1026, none⟩)) (v := .agg (recCells x).toArray) rfl rfl HQ.out) ?_) | refine wpList_exec rfl (exec_slice108 (r := x) rfl rfl) ?_ | (at_builtin; refine wpList_exec rfl (exec_pushY rfl rfl rfl HR.out) ?_))
      exact ⟨⟨j + 1, by omega, by go_num, HO2.out, HB2.out⟩, by simp [intOf]; omega⟩
    · have hjN : N = j := by omega
      subst hjN
      have ho := HO.out
      rw [List.take_of_length_le (by have := HN.out; omega), HN.out] at ho
      have HO2 := Hid.mk' ho
      clear ho HO hD
      go_wp2
      go_ret
      exact ⟨_, rfl, HO2.out, HB.out⟩
end Go.Proofs.YtlcdpmjdnihocaaGreatD
/- The document's Image: the count, and a copy of what is held. -/
namespace Go.Proofs.YtlcdpmjdnihocaaGreatD
open Go.RowKit Go.Maps
set_option maxRecDepth 20000 in
set_option maxHeartbeats 1000000 in
theorem copyHeld_all (l : List Cel) (p : Option Addr) (cap : Nat) (w : World) (hl : l.length ≤ 100000000) (h : ImgAt w p l) :
    Calls Tryz.prog 33 #[.slice p l.length cap] w fun e w' => ∃ q c, e = .returned (.slice q l.length c) ∧ HL w.heap.size w' (.slice q l.length c) l ∧ Below w.heap.size w w' := by
  have HI : Hid (ImgAt w p l) := h
  obtain ⟨N, hN⟩ : ∃ N, l.length = N := ⟨_, rfl⟩
  have HN := Hid.mk' hN
  rw [hN] at hl ⊢
  clear hN h
  go_enter Tryz.func33, Tryz.ntmps33
  go_wp2
  go_loopw [3, 4] (fun s3 s4 wx => ∃ k : Nat, k ≤ N ∧ s4 = .int .i64 k ∧ Hid (HL w.heap.size wx s3 (l.take k) ∧ Below w.heap.size w wx)) (fun _ s4 _ => N - (intOf s4).toNat)
  case atStart => exact ⟨0, by omega, rfl, HL.nil _ _, Below.refl _ _⟩
  case round =>
    obtain ⟨k, hk, rfl, HH⟩ := hrel
    by_cases hk2 : (k : Int) < N
    · have hlN := HN.out
      have hc : l[k]? = some (l[k]'(by omega)) := List.getElem?_eq_getElem _
      obtain ⟨b, off, rfl, hlt, hC⟩ := HI.out (by omega)
      generalize l[k]'(by omega) = c at hc
      have q1 : CelAt wr b (off + k * 1025) c := (hC.later HH.out.2 hlt) k c hc
      have htk : (l.take k).length = k := by rw [List.length_take]; omega
      obtain ⟨v', w3, hr, hown', hb3, _⟩ := HH.out.1.push HH.out.2.size (by omega) c 22
      rw [← take_snoc hc] at hown'
      have HO := Hid.mk' hown'
      have HB := Hid.mk' (HH.out.2.trans hb3)
      have HRR := Hid.mk' hr
      have HQ := Hid.mk' q1
      clear hr hown' hb3 q1 hC hc HH htk hlN
      go_wp2_with (first | refine wpList_exec rfl (exec_load85 rfl rfl HQ.out) ?_ | refine wpList_exec rfl (exec_slice85 rfl rfl) ?_ | refine wpList_exec rfl (exec_push rfl rfl rfl HRR.out) ?_)
      exact ⟨⟨k + 1, by omega, by go_num, HO.out, HB.out⟩, by simp [intOf]; omega⟩
    · obtain rfl : k = N := by omega
      have h1 := HH.out.1
      rw [List.take_of_length_le (by have := HN.out; omega)] at h1
      obtain ⟨q, c, hv, _⟩ := h1.img
      rw [HN.out] at hv
      subst hv
      have HB := Hid.mk' HH.out.2
      have H1 := Hid.mk' h1
      clear HH h1
      go_wp2
      go_ret
      exact ⟨q, c, rfl, H1.out, HB.out⟩
variable {w : World} {B g : Nat} {hv wv ov : Value} {s : RSt}
set_option maxRecDepth 20000 in
set_option maxHeartbeats 4000000 in
theorem rImage_any (h : RDAt w B g hv wv ov s) (hl : s.held.length ≤ 10000000) :
    Calls Tryz.prog 22 #[.pointer (some ⟨g, 0, none⟩)] w fun e w' => ∃ q c, e = .returned (.agg #[.int .i64 s.n, .slice q s.held.length c]) ∧ HL w.heap.size w' (.slice q s.held.length c) s.held ∧ Below w.heap.size w w' := by
  have h1 := h.later (below_new w (.cells #[.int .i64 0, .slice none 0 0] 24))
  have hX := heap_alloc_new w (.cells #[.int .i64 0, .slice none 0 0] 24)
  have HB := Hid.mk' (below_new w (.cells #[.int .i64 0, .slice none 0 0] 24))
  have hlt := h.lt
  obtain ⟨ph, ch, rfl, hI, -, -⟩ := HL.img (show HL B _ hv s.held from h1.held)
  have HC := Hid.mk' (copyHeld_all s.held ph ch (w.alloc (.cells #[.int .i64 0, .slice none 0 0] 24)).drew (by omega) (show ImgAt (w.alloc (.cells #[.int .i64 0, .slice none 0 0] 24)).drew ph s.held from hI))
  have HS := Hid.mk' (fun (u : World) (q : u.heap[g]? = some (.cells (rdRow (.slice ph s.held.length ch) wv ov s) 75)) => (⟨Joins.cell_of_block q 0, Joins.cell_of_block q 1⟩ : u.cell? ⟨g, 0, none⟩ = some (.int .i64 s.n) ∧ u.cell? ⟨g, 1, none⟩ = some (.slice ph s.held.length ch)))
  have HR := Hid.mk' h1.drew.row
  have HX := Hid.mk' (show (w.alloc (.cells #[.int .i64 0, .slice none 0 0] 24)).drew.heap[w.heap.size]? = some (.cells #[.int .i64 0, .slice none 0 0] 24) from hX)
  have hsz : w.heap.size < (w.alloc (.cells #[.int .i64 0, .slice none 0 0] 24)).drew.heap.size := by show w.heap.size < (w.alloc (.cells #[.int .i64 0, .slice none 0 0] 24)).heap.size; simp
  have HBd := Hid.mk' HB.out.drew
  clear h h1 hX hI HB
  obtain ⟨M, hM⟩ : ∃ M, s.held.length = M := ⟨_, rfl⟩
  rw [hM] at HC HS HR ⊢
  clear hM hl
  go_enter Tryz.func22, Tryz.ntmps22
  go_wp2
  refine wp_region_ord (S := fun u => u.cell? ⟨g, 0, none⟩ = some (.int .i64 s.n) ∧ u.cell? ⟨g, 1, none⟩ = some (.slice ph M ch)) [(0, true), (1, true), (2, true), (3, true), (4, true), (5, true), (6, true), (7, true), (8, false), (9, true), (10, false)]
    (by kernel_rfl) rfl (by kernel_rfl) (fun d _ _ _ _ h => by cases d <;> exact h) (HS.out _ HR.out) ?_
  simp only [inOrd, List.getElem?_cons_zero, List.getElem?_cons_succ]
  generalize (w.alloc (.cells #[.int .i64 0, .slice none 0 0] 24)).drew = V at *
  refine wpOrd_move rfl _ rfl ?_
  simp only [Act.put, List.setIfInBounds_toArray, List.set_cons_succ, List.set_cons_zero]
  refine wpOrd_yield (v := .pointer (some ⟨g, 0, none⟩)) rfl (fun u _ => by go_simp) ?_
  simp only [Act.put, List.setIfInBounds_toArray, List.set_cons_succ, List.set_cons_zero]
  refine wpOrd_yield (v := .pointer (some ⟨g, 0, none⟩)) rfl (fun u _ => by go_simp) ?_
  simp only [Act.put, List.setIfInBounds_toArray, List.set_cons_succ, List.set_cons_zero]
  refine wpOrd_yield (v := .int .i64 s.n) rfl (fun u hu => by have hu1 := hu.1; go_simp) ?_
  simp only [Act.put, List.setIfInBounds_toArray, List.set_cons_succ, List.set_cons_zero]
  refine wpOrd_move rfl _ rfl ?_
  simp only [Act.put, List.setIfInBounds_toArray, List.set_cons_succ, List.set_cons_zero]
  refine wpOrd_yield (v := .pointer (some ⟨g, 0, none⟩)) rfl (fun u _ => by go_simp) ?_
  simp only [Act.put, List.setIfInBounds_toArray, List.set_cons_succ, List.set_cons_zero]
  refine wpOrd_yield (v := .pointer (some ⟨g, 1, none⟩)) rfl (fun u _ => by go_simp) ?_
  simp only [Act.put, List.setIfInBounds_toArray, List.set_cons_succ, List.set_cons_zero]
  refine wpOrd_yield (v := .slice ph M ch) rfl (fun u hu => by have hu1 := hu.2; go_simp) ?_
  simp only [Act.put, List.setIfInBounds_toArray, List.set_cons_succ, List.set_cons_zero]
  refine wpOrd_call rfl 33 _ _ rfl Tryz.call33 [.slice ph M ch] rfl ?_
  refine HC.out.mono ?_
  rintro e W2 ⟨q, c, rfl, ho, hb⟩
  have r2 := heap_kept HR.out hb
  have x2 := heap_kept HX.out hb
  have cB0 : W2.cell? ⟨w.heap.size, 0, none⟩ = some (.int .i64 0) := Joins.cell_of_block x2 0
  have cB1 : W2.cell? ⟨w.heap.size, 1, none⟩ = some (.slice none 0 0) := Joins.cell_of_block x2 1
  have fB0 : W2.frozen? ⟨w.heap.size, 0, none⟩ = false := Joins.unfrozen_of_block x2 0
  have fB1 : W2.frozen? ⟨w.heap.size, 1, none⟩ = false := Joins.unfrozen_of_block x2 1
  have hrow := Hid.mk' (Joins.block_setCell (Joins.block_setCell x2 (i := 0) (.int .i64 s.n)) (i := 1) (.slice q M c))
  have r3 := Hid.mk' ((Below.heap_setCell (W2.setCell ⟨w.heap.size, 0, none⟩ (.int .i64 s.n)) ⟨w.heap.size, 1, none⟩ (.slice q M c) g (by show g ≠ w.heap.size; omega)).trans ((Below.heap_setCell W2 ⟨w.heap.size, 0, none⟩ (.int .i64 s.n) g (by show g ≠ w.heap.size; omega)).trans r2))
  have ho3 := ownsRow_setCell_below (ownsRow_setCell_below (show W2.ownsRow V.heap.size 81 1025 (.slice q M c) s.held.length (celCells s.held) from ho) (a := ⟨w.heap.size, 0, none⟩) hsz (.int .i64 s.n)) (a := ⟨w.heap.size, 1, none⟩) hsz (.slice q M c)
  have HO3 := Hid.mk' (show HL w.heap.size _ (.slice q M c) s.held from own_base ho3 (by omega))
  have HB3 := Hid.mk' (((HBd.out.trans (hb.mono (by omega))).trans ((Fr.setCell W2 w.heap.size 0 (.int .i64 s.n)).below (fun i q => by omega) (by have := hb.size; omega))).trans ((Fr.setCell (W2.setCell ⟨w.heap.size, 0, none⟩ (.int .i64 s.n)) w.heap.size 1 (.slice q M c)).below (fun i q => by omega) (by have := hb.size; simp; omega)))
  refine ⟨_, rfl, HS.out _ r2, ?_⟩
  simp only [Act.put, List.setIfInBounds_toArray, List.set_cons_succ, List.set_cons_zero]
  refine wpOrd_yield (v := .agg #[.int .i64 s.n, .slice q M c]) rfl (fun u _ => by go_simp) ?_
  simp only [Act.put, List.setIfInBounds_toArray, List.set_cons_succ, List.set_cons_zero]
  refine wpOrd_do (w' := (W2.setCell ⟨w.heap.size, 0, none⟩ (.int .i64 s.n)).setCell ⟨w.heap.size, 1, none⟩ (.slice q M c)) rfl (by go_simp) (HS.out _ r3.out) ?_
  refine wpOrd_nil ?_
  simp only [Act.put]
  clear cB0 cB1 fB0 fB1 ho ho3 hb r2 x2 HC HR HX HBd
  go_wp2
  refine ret32 rfl w.heap.size _ rfl hrow.out rfl rfl ⟨q, c, rfl, HO3.out, HB3.out⟩
end Go.Proofs.YtlcdpmjdnihocaaGreatD
/- The document's New and Load: a new disk. -/
namespace Go.Proofs.YtlcdpmjdnihocaaGreatD
open Go.RowKit Go.Maps
/-- A new disk. -/
def rNew (n : Int) (l : List Cel) : RSt := ⟨n, l, [], false, 0, false, [], 0, 0, 0, 0⟩
def freshRow (n : Int) (v : Value) : Array Value := #[.int .i64 n, v, .slice none 0 0, .bool false, .int .i64 0, .bool false, .slice none 0 0, .int .i64 0, .int .i64 0, .int .i64 0, .int .i64 0]
theorem rMade_row {W2 : World} {B B' : Nat} {v : Value} {n : Int} {l : List Cel} (ho : HL B' W2 v l) (hB : B ≤ B') (hW : B ≤ W2.heap.size) : RDAt (W2.alloc (.cells (freshRow n v) 75)) B W2.heap.size v (.slice none 0 0) (.slice none 0 0) (rNew n l) :=
  ⟨heap_alloc_new _ _, own_later (own_base (show W2.ownsRow B' 81 1025 v l.length (l.flatMap celRow) from ho) hB) (below_new _ _), World.ownsRow_nil _ _ _ _, World.ownsRow_nil _ _ _ _, (fun b _ q => by cases q), hW⟩
set_option maxRecDepth 20000 in
set_option maxHeartbeats 1000000 in
theorem refLoad_made (n : Int) (l : List Cel) (p : Option Addr) (cap : Nat) (w : World) (hl : l.length ≤ 100000000) (h : ImgAt w p l) (hm : mayB n l = true) :
    Calls Tryz.prog 6 #[.agg #[.int .i64 n, .slice p l.length cap]] w fun e w' => ∃ g v, e = .returned (.tuple #[.pointer (some ⟨g, 0, none⟩), .int .i64 0]) ∧ RDAt w' w.heap.size g v (.slice none 0 0) (.slice none 0 0) (rNew n l) ∧ Below w.heap.size w w' := by
  have hB := below_new w (.cells #[.int .i64 n, .slice p l.length cap] 24)
  have hG := heap_alloc_new w (.cells #[.int .i64 n, .slice p l.length cap] 24)
  have hM := refMay_any n l p cap _ (by omega) (h.later hB)
  rw [hm] at hM
  have HI := Hid.mk' h
  have HL' := Hid.mk' hl
  clear h hl hm
  go_enter Tryz.func6, Tryz.ntmps6
  go_wp2_with (go_at_call 32; fail)
  refine hM.mono ?_
  rintro e W1 ⟨rfl, hb1⟩
  have hG1 := heap_kept hG hb1
  have hB1 := below_next hB hb1
  have HC := Hid.mk' (copyHeld_all l p cap W1.drew HL'.out (HI.out.later hB1.drew))
  clear hM hG hB hb1 HI HL'
  go_wp2
  refine wp_region_ord (S := fun u => u.heap[w.heap.size]? = some (.cells #[.int .i64 n, .slice p l.length cap] 24)) [(0, true), (1, true), (2, true), (3, true), (4, false), (5, true), (6, false), (7, true), (8, true)]
    (by kernel_rfl) rfl (by kernel_rfl) (fun d _ _ _ _ h => by cases d <;> exact h) hG1 ?_
  simp only [inOrd, List.getElem?_cons_zero, List.getElem?_cons_succ]
  refine wpOrd_yield (v := .pointer (some ⟨w.heap.size, 0, none⟩)) rfl (fun u _ => by go_simp) ?_
  simp only [Act.put, List.setIfInBounds_toArray, List.set_cons_succ, List.set_cons_zero]
  refine wpOrd_yield (v := .int .i64 n) rfl (fun u hu => by have c0 : u.cell? ⟨w.heap.size, 0, none⟩ = some (.int .i64 n) := Joins.cell_of_block hu 0; go_simp) ?_
  simp only [Act.put, List.setIfInBounds_toArray, List.set_cons_succ, List.set_cons_zero]
  refine wpOrd_yield (v := .pointer (some ⟨w.heap.size, 1, none⟩)) rfl (fun u _ => by go_simp) ?_
  simp only [Act.put, List.setIfInBounds_toArray, List.set_cons_succ, List.set_cons_zero]
  refine wpOrd_yield (v := .slice p l.length cap) rfl (fun u hu => by have c0 : u.cell? ⟨w.heap.size, 1, none⟩ = some (.slice p l.length cap) := Joins.cell_of_block hu 1; go_simp) ?_
  simp only [Act.put, List.setIfInBounds_toArray, List.set_cons_succ, List.set_cons_zero]
  refine wpOrd_call rfl 33 _ _ rfl Tryz.call33 [.slice p l.length cap] rfl ?_
  refine Calls.mono HC.out ?_
  rintro e W2 ⟨q, c, rfl, ho2, hb2⟩
  have hG2 : W2.heap[w.heap.size]? = _ := (hb2.block w.heap.size (Array.getElem?_eq_some_iff.1 hG1).1).trans hG1
  have HB2 := Hid.mk' (below_next hB1.drew hb2)
  have HM := Hid.mk' (rMade_row (n := n) ho2 hB1.drew.size HB2.out.size)
  refine ⟨_, rfl, hG2, ?_⟩
  clear HC hb2 hB1 ho2
  simp only [Act.put, List.setIfInBounds_toArray, List.set_cons_succ, List.set_cons_zero]
  refine wpOrd_yield (v := .agg (freshRow n (.slice q l.length c))) rfl (fun u _ => by unfold freshRow; go_simp) ?_
  simp only [Act.put, List.setIfInBounds_toArray, List.set_cons_succ, List.set_cons_zero]
  refine wpOrd_run (v := .pointer (some ⟨W2.heap.size, 0, none⟩)) (w' := W2.alloc (.cells (freshRow n (.slice q l.length c)) 75)) rfl (by unfold freshRow; go_simp) (heap_kept hG2 (below_new _ _)) ?_
  simp only [Act.put, List.setIfInBounds_toArray, List.set_cons_succ, List.set_cons_zero]
  refine wpOrd_yield (v := .pointer (some ⟨W2.heap.size, 0, none⟩)) rfl (fun u _ => by go_simp) ?_
  simp only [Act.put, List.setIfInBounds_toArray, List.set_cons_succ, List.set_cons_zero]
  refine wpOrd_yield (v := .int .i64 0) rfl (fun u _ => by go_simp) ?_
  simp only [Act.put, List.setIfInBounds_toArray, List.set_cons_succ, List.set_cons_zero]
  refine wpOrd_nil ?_
  have HB3 := Hid.mk' (below_next HB2.out (below_new W2 (.cells (freshRow n (.slice q l.length c)) 75)))
  generalize W2.alloc (.cells (freshRow n (.slice q l.length c)) 75) = W3 at HB3 HM ⊢
  go_wp2
  go_ret2
  exact ⟨_, _, rfl, HM.out, HB3.out⟩
end Go.Proofs.YtlcdpmjdnihocaaGreatD
/- What a disk and the law's own book of it have to do with each other, write by write; no condition. -/
namespace Go.Proofs.YtlcdpmjdnihocaaGreatD
open Go.RowKit

/-- hs are the blocks that s holds. -/
def Rel (s : St) (hs : List (Nat → Int)) : Prop := (hs.length : Int) = s.n ∧ ∀ k : Nat, k < hs.length → hs[k]? = some ((s.held k).getD nought)
theorem Rel.same {s s' : St} {hs : List (Nat → Int)} (h : Rel s hs) (h1 : s'.n = s.n) (h2 : s'.held = s.held) : Rel s' hs := by
  unfold Rel
  rw [h1, h2]
  exact h
theorem holdV_get (s : St) (k : Int) {f : Nat → Int} (hf : Can f) (j : Int) : ((holdV s k f).held j).getD nought = if j = k then f else (s.held j).getD nought := by
  show (if j = k then (if blankB f then none else some f) else s.held j).getD nought = _
  by_cases e : j = k
  · rw [if_pos e, if_pos e]
    cases hb : blankB f
    · rfl
    · rw [hf.blank.1 hb]; rfl
  · rw [if_neg e, if_neg e]
theorem Rel.hold {s : St} {hs : List (Nat → Int)} (h : Rel s hs) {c : Cel} (hc : 0 ≤ c.1 ∧ c.1 < s.n) (hf : Can c.2) : Rel (holdV s c.1 c.2) (hs.set c.1.toNat c.2) := by
  refine ⟨by rw [List.length_set]; exact h.1, fun k hk => ?_⟩
  rw [List.length_set] at hk
  rw [holdV_get s c.1 hf, List.getElem?_set]
  have h1 := h.1
  by_cases e : (k : Int) = c.1
  · rw [if_pos (by omega), if_pos (by omega), if_pos e]
  · rw [if_neg (by omega), if_neg e]
    exact h.2 k hk
theorem rel_new (n : Nat) : Rel (newV n) (List.replicate n nought) := by
  refine ⟨by rw [List.length_replicate]; rfl, fun k hk => ?_⟩
  rw [List.length_replicate] at hk
  rw [List.getElem?_replicate, if_pos hk]
  rfl
/-- A disk behind i writes and barriers under a fuse. -/
structure Left (s : St) (blocks fuse : Int) (i : Nat) : Prop where
  n : s.n = blocks
  live : s.stopped = false → (fuse < 0 → s.fuse = -1) ∧ (0 ≤ fuse → s.fuse = fuse - i ∧ (i : Int) ≤ fuse)
  ops : s.ops.length ≤ i
  made : s.made ≤ i
  reads : s.reads = 0
  claims : s.claims = 0
theorem Left.room {s : St} {b f : Int} {i : Nat} (h : Left s b f i) (hi : i ≤ 300) : Room s := ⟨by have := h.ops; omega, by have := h.made; omega, by have := h.reads; omega, by have := h.claims; omega⟩
theorem Left.lets {s : St} {b f : Int} {i : Nat} (h : Left s b f i) (hs : s.stopped = false) : lets s = decide (f < 0 ∨ (i : Int) < f) := by
  obtain ⟨h1, h2⟩ := h.live hs
  unfold YtlcdpmjdnihocaaGreatD.lets
  by_cases hf : f < 0
  · rw [h1 hf, decide_eq_true (.inl hf)]; rfl
  · obtain ⟨h3, h4⟩ := h2 (by omega)
    by_cases h5 : (i : Int) < f
    · rw [decide_eq_true (.inr h5)]
      have : s.fuse ≠ 0 := by omega
      simpa using this
    · rw [decide_eq_false (by omega)]
      have : s.fuse = 0 := by omega
      simp [this]
/-- Does the next one go through? -/
def goesB (s : St) (f : Int) (i : Nat) : Bool := !s.stopped && decide (f < 0 ∨ (i : Int) < f)
/-- Stopped. -/
def deadV (s : St) : St := if s.stopped then s else letV s
theorem letV_dead {s : St} (hl : lets s = false) : letV s = { s with stopped := true } := by
  have h0 : s.fuse = 0 := by unfold lets at hl; simpa using hl
  unfold letV
  rw [if_pos h0]
theorem deadV_is {s : St} (h : s.stopped = true ∨ lets s = false) : (deadV s).stopped = true ∧ (deadV s).n = s.n ∧ (deadV s).held = s.held ∧ (deadV s).wait = s.wait ∧ (deadV s).ops = s.ops ∧ (deadV s).made = s.made ∧ (deadV s).reads = s.reads ∧ (deadV s).claims = s.claims := by
  unfold deadV
  cases hs : s.stopped
  · have hl : lets s = false := by
      rcases h with h | h
      · rw [hs] at h; cases h
      · exact h
    rw [if_neg (by simp), letV_dead hl]
    exact ⟨rfl, rfl, rfl, rfl, rfl, rfl, rfl, rfl⟩
  · rw [if_pos rfl]
    exact ⟨hs, rfl, rfl, rfl, rfl, rfl, rfl, rfl⟩
theorem not_goes {s : St} {b f : Int} {i : Nat} (h : Left s b f i) (hg : goesB s f i = false) : s.stopped = true ∨ lets s = false := by
  cases hs : s.stopped
  · right
    rw [h.lets hs]
    unfold goesB at hg
    rw [hs] at hg
    simpa using hg
  · exact .inl rfl
theorem Left.dead {s : St} {b f : Int} {i : Nat} (h : Left s b f i) (hg : goesB s f i = false) : Left (deadV s) b f (i + 1) := by
  obtain ⟨h1, h2, h3, h4, h5, h6, h7, h8⟩ := deadV_is (not_goes h hg)
  have := h.ops
  have := h.made
  exact ⟨h2.trans h.n, fun q => (by rw [h1] at q; cases q), by rw [h5]; omega, by rw [h6]; omega, h7.trans h.reads, h8.trans h.claims⟩
theorem goes_live {s : St} {b f : Int} {i : Nat} (h : Left s b f i) (hg : goesB s f i = true) : s.stopped = false ∧ lets s = true := by
  unfold goesB at hg
  cases hs : s.stopped
  · rw [hs] at hg
    exact ⟨rfl, by rw [h.lets hs]; simpa using hg⟩
  · rw [hs] at hg; simp at hg
theorem letV_live {s : St} (hl : lets s = true) : (letV s).stopped = s.stopped ∧ (letV s).made = s.made + 1 ∧ (letV s).reads = s.reads ∧ (letV s).claims = s.claims ∧ (letV s).fuse = (if s.fuse = -1 then -1 else s.fuse - 1) := by
  have h0 : s.fuse ≠ 0 := by unfold lets at hl; simpa using hl
  unfold letV
  rw [if_neg h0]
  exact ⟨rfl, rfl, rfl, rfl, rfl⟩
/-- A state of which all but what is held and pending is that of a disk that let one through. -/
theorem Left.next {s s' : St} {b f : Int} {i : Nat} (h : Left s b f i) (hg : goesB s f i = true) (h1 : s'.n = s.n) (h2 : s'.stopped = (letV s).stopped) (h3 : s'.made = (letV s).made) (h4 : s'.reads = (letV s).reads) (h5 : s'.claims = (letV s).claims) (h6 : s'.fuse = (letV s).fuse) (h7 : s'.ops.length = s.ops.length + 1) : Left s' b f (i + 1) ∧ s'.stopped = false := by
  obtain ⟨hs, hl⟩ := goes_live h hg
  obtain ⟨k1, k2, k3, k4, k5⟩ := letV_live hl
  obtain ⟨l1, l2⟩ := h.live hs
  have := h.ops
  have := h.made
  refine ⟨⟨h1.trans h.n, fun _ => ⟨fun q => ?_, fun q => ?_⟩, by omega, by omega, h4.trans (k3.trans h.reads), h5.trans (k4.trans h.claims)⟩, h2.trans (k1.trans hs)⟩
  · rw [h6, k5, if_pos (l1 q)]
  · obtain ⟨m1, m2⟩ := l2 q
    have m3 : s.fuse ≠ 0 := by unfold YtlcdpmjdnihocaaGreatD.lets at hl; simpa using hl
    rw [h6, k5, if_neg (by omega)]
    omega
theorem write_goes {s : St} {b f : Int} {i : Nat} (h : Left s b f i) (hg : goesB s f i = true) {k : Int} (hk : 0 ≤ k ∧ k < b) (F : Nat → Int) : writeE s k = 0 ∧ writeV s k F = writeS s k F ∧ Left (writeS s k F) b f (i + 1) ∧ (writeS s k F).stopped = false ∧ (writeS s k F).wait = s.wait ++ [(k, F)] ∧ (writeS s k F).held = s.held ∧ (writeS s k F).n = s.n := by
  obtain ⟨hs, hl⟩ := goes_live h hg
  have hr : refV s k = 0 := by unfold refV; rw [hs, if_neg (by simp), if_pos (by rw [h.n]; exact hk)]
  have hN := h.next (s' := writeS s k F) hg (letV_n s) rfl rfl rfl rfl rfl (by rw [writeS_ops]; simp)
  refine ⟨?_, ?_, hN.1, hN.2, rfl, letV_held s, letV_n s⟩
  · unfold writeE; rw [if_pos hr, if_pos hl]
  · unfold writeV; rw [if_pos hr, if_pos hl]
theorem write_stays {s : St} {b f : Int} {i : Nat} (h : Left s b f i) (hg : goesB s f i = false) {k : Int} (hk : 0 ≤ k ∧ k < b) (F : Nat → Int) : writeE s k = 3 ∧ writeV s k F = deadV s := by
  have hn := not_goes h hg
  unfold writeE writeV deadV
  cases hs : s.stopped
  · have hl : lets s = false := by
      rcases hn with q | q
      · rw [hs] at q; cases q
      · exact q
    have hr : refV s k = 0 := by unfold refV; rw [hs, if_neg (by simp), if_pos (by rw [h.n]; exact hk)]
    rw [if_pos hr, if_pos hr, hl]
    simp
  · have hr : refV s k = 3 := by unfold refV; rw [hs, if_pos rfl]
    rw [if_neg (by omega), if_neg (by omega), hr]
    simp
theorem bar_goes {s : St} {b f : Int} {i : Nat} (h : Left s b f i) (hg : goesB s f i = true) : barE s = 0 ∧ barV s = barS s ∧ Left (barS s) b f (i + 1) ∧ (barS s).stopped = false ∧ (barS s).wait = [] ∧ (barS s).held = (holdAll s s.wait).held ∧ (barS s).n = s.n := by
  obtain ⟨hs, hl⟩ := goes_live h hg
  obtain ⟨hh, he⟩ := holdAll_same s.wait (letV s)
  have e1 : barS s = { letV s with held := hh, done := s.ops ++ [⟨2, 0, nought⟩], wait := [] } := by unfold barS; rw [he]
  have hN := h.next (s' := barS s) hg (by rw [e1]; exact letV_n s) (by rw [e1]) (by rw [e1]) (by rw [e1]) (by rw [e1]) (by rw [e1]) (by rw [barS_ops]; simp)
  refine ⟨?_, ?_, hN.1, hN.2, rfl, ?_, by rw [e1]; exact letV_n s⟩
  · unfold barE; rw [hs, hl]; rfl
  · unfold barV; rw [hs, hl]; rfl
  · show (holdAll (letV s) s.wait).held = _
    have key : ∀ (l : List Cel) (a b : St), a.held = b.held → (holdAll a l).held = (holdAll b l).held := fun l => by
      induction l with
      | nil => exact fun a b q => q
      | cons c t ih =>
        intro a b q
        exact ih (holdV a c.1 c.2) (holdV b c.1 c.2) (by unfold holdV; rw [q])
    exact key _ _ _ (letV_held s)
theorem bar_stays {s : St} {b f : Int} {i : Nat} (h : Left s b f i) (hg : goesB s f i = false) : barE s = 3 ∧ barV s = deadV s := by
  have hn := not_goes h hg
  unfold barE barV deadV
  cases hs : s.stopped
  · have hl : lets s = false := by
      rcases hn with q | q
      · rw [hs] at q; cases q
      · exact q
    rw [hl]
    simp
  · simp
end Go.Proofs.YtlcdpmjdnihocaaGreatD
/- Crash, for a choice of any length that a list can have; no condition. -/
namespace Go.Proofs.YtlcdpmjdnihocaaGreatD
open Go.RowKit
variable {w : World} {L : Loc} {s : St}
end Go.Proofs.YtlcdpmjdnihocaaGreatD
/- Steps that the stage's theorem's law takes beside the disk: a write more waited for, blocks told apart; no condition. -/
namespace Go.Proofs.YtlcdpmjdnihocaaGreatD
open Go.RowKit

theorem slice_ofC {w : World} {base e size : Nat} {v : Value} {n : Nat} {xs : List Value} (h : w.ownsRow base e size v n xs) (hn : 0 < n) : ∃ g cap, v = .slice (some ⟨g, 0, none⟩) n cap := by
  rcases h.2 with ⟨_, h⟩ | ⟨g, cap', _, h, _⟩
  · omega
  · exact ⟨g, cap', h⟩
theorem slice_of0 {w : World} {base e size : Nat} {wa : Option Addr} {wc : Nat} {n : Nat} {xs : List Value} (h : w.ownsRow base e size (.slice wa n wc) n xs) : 0 < n → ∃ g, wa = some ⟨g, 0, none⟩ := fun hn => by
  obtain ⟨g, cap, e⟩ := slice_ofC h hn
  injection e with e1
  exact ⟨g, e1⟩
section
variable {w W : World} {g d : Nat} {hs : List (Nat → Int)} {v : Value} {wl : List Cel} {s : St}
theorem Has.gbase (h : Has (Side w g hs v wl) W d s) : g + 1 ≤ W.heap.size := (Array.getElem?_eq_some_iff.1 h.row).1
theorem wpList_pushC {ops : Array Oper} {rest : List Oper} {o : Oper} {a : Act} {Q : Exit → Act → World → Prop} (hgd : o.guard = none) (x y : Operand)
    (ho : o.op = .call { callee := .builtin .append, args := #[x, y], argTypes := #[22, 22] }) (c : Cel) (hx : a.eval x = v)
    (hy : a.eval y = .slice (some ⟨W.heap.size, 0, none⟩) 1 1) (hH : Has (Side w g hs v wl) W d s) (hn : wl.length < 1000)
    (h : ∀ wa wc W', Has (Side w g hs (.slice wa (wl.length + 1) wc) (wl ++ [c])) W' d s → wpList Tryz.prog ops Q rest (a.put o.dst (.slice wa (wl.length + 1) wc)) W') :
    wpList Tryz.prog ops Q (o :: rest) a (W.alloc (.cells (celRow c).toArray 81)) := by
  obtain ⟨i0, hi0, hz0, hz1, hz2⟩ := info_parts info85
  have hown1 := World.ownsRow.alloc hH.own (.cells (celRow c).toArray 81)
  have hnews : ∀ j u, (celRow c)[j]? = some u → (W.alloc (.cells (celRow c).toArray 81)).cell? ((⟨W.heap.size, 0, none⟩ : Addr).add j) = some u := fun j u hu => by
    rw [Go.WideShapes.add_plain, Nat.zero_add, cell_of_row _ _ j _ 81 _ (heap_alloc_new W _), List.getElem?_toArray]
    exact hu
  have hbase := hH.gbase
  refine wpList_append_own_at _ hgd x y 22 ho (g + 1) 81 i0 _ 1025 1032 Tryz.underlying22 hi0 hz0 hz1 hz2 (cel_size _) (by decide) v wl.length (celCells wl) hx hown1 ⟨W.heap.size, 0, none⟩ 1 1 (celRow c) hy (by rw [celRow_len]) hnews (celRow_one c)
    (by unfold maxLen; omega) (by omega) (by simp; omega) ?_
  intro v' W' h1 h2 h3 h4
  obtain ⟨g', cap', rfl⟩ := slice_ofC h1 (by omega)
  exact h _ _ W' (hH.push h1 h2 h4)
end
section
variable {ops : Array Oper} {rest : List Oper} {o : Oper} {a : Act} {w : World} {Q : Exit → Act → World → Prop}
theorem neq58 (f g : Nat → Int) (b : Bool) (hb : sameB f g = b) (u : World) : (binOp .neq 79 (.agg (blk f)) (.agg (blk g))).run Tryz.prog u = .ok (.bool (!b)) u := by
  have h := eq25 f g u
  rw [hb] at h
  generalize blk f = F at *
  generalize blk g = G at *
  simp only [binOp, Op.equal, Op.maxDepth, Sem.run_bind, h, Result.andThen_ok, Sem.run_pure]
theorem neqg58 (x y : Operand) (F G : Array Value) (u : World) : (eqGuard .neq 79 x y (.agg F) (.agg G)).run Tryz.prog u = .ok () u := by
  unfold eqGuard
  simp
theorem wpList_neq58 (hw : Region.wanted o (yielded ops a.tmps) = true) (x y : Operand) (ho : o.op = .binOp .neq 79 x y 79) (f : Nat → Int) (hx : a.eval x = .agg (blk f)) (hy : a.eval y = .agg (blk f))
    (h : wpList Tryz.prog ops Q rest (a.put o.dst (.bool false)) w) : wpList Tryz.prog ops Q (o :: rest) a w :=
  BigFrame.wpList_want hw fun _ hK => by
    have e := neq58 f f true (sameB_self f) w
    unfold Oper.wp execOp
    simp only [ho, hx, hy, Sem.run_bind, neqg58, e, Result.andThen_ok, Sem.run_pure]
    exact hK _ _ h
end
theorem wpStill_loadW {ops : Array Oper} {Q : Act → Prop} {a : Act} {o : Oper} {rest : List Oper} {w : World} (hw : Region.wanted o (yielded ops a.tmps) = true) (x : Operand) (ho : o.op = .load 79 x)
    (g off : Nat) (hx : a.eval x = .pointer (some ⟨g, off, none⟩)) (f : Nat → Int) (hg : BlkAt w g off f)
    (h : wpStill Tryz.prog ops w Q rest (a.put o.dst (.agg (blk f)))) : wpStill Tryz.prog ops w Q (o :: rest) a := by
  unfold wpStill
  rw [if_pos hw]
  unfold Oper.still execOp
  simp only [ho, hx, loadM hg, Sem.run_bind, Result.andThen_ok, Sem.run_pure, Oper.stillUpon]
  exact ⟨trivial, h⟩
theorem wpStill_neqW {ops : Array Oper} {Q : Act → Prop} {a : Act} {o : Oper} {rest : List Oper} {w : World} (hw : Region.wanted o (yielded ops a.tmps) = true) (x y : Operand) (ho : o.op = .binOp .neq 79 x y 79)
    (f : Nat → Int) (hx : a.eval x = .agg (blk f)) (hy : a.eval y = .agg (blk f))
    (h : wpStill Tryz.prog ops w Q rest (a.put o.dst (.bool false))) : wpStill Tryz.prog ops w Q (o :: rest) a := by
  have e := neq58 f f true (sameB_self f) w
  unfold wpStill
  rw [if_pos hw]
  unfold Oper.still execOp
  simp only [ho, hx, hy, neqg58, e, Sem.run_bind, Result.andThen_ok, Sem.run_pure, Oper.stillUpon]
  exact ⟨trivial, h⟩
theorem BoolsAt.later {w W : World} {v : Value} {l : List Bool} (h : BoolsAt w v l) (hb : Below w.heap.size w W) : BoolsAt W v l := by
  obtain ⟨p, c, h1, h2⟩ := h
  refine ⟨p, c, h1, fun hl => ?_⟩
  obtain ⟨b, off, h3, h4⟩ := h2 hl
  refine ⟨b, off, h3, fun i x hx => ?_⟩
  have h5 := h4 i x hx
  have hlt : b < w.heap.size := by
    by_cases q : b < w.heap.size
    · exact q
    · unfold World.cell? at h5
      simp only [Array.getElem?_eq_none (show w.heap.size ≤ b by omega)] at h5
      simp at h5
  exact (hb.cell (p := ⟨b, off + i, none⟩) hlt).trans h5
theorem bools_cell {w : World} {ka : Option Addr} {n kc : Nat} {l : List Bool} (h : BoolsAt w (.slice ka n kc) l) {j : Nat} {x : Bool} (hx : l[j]? = some x) : ∃ b off, ka = some ⟨b, off, none⟩ ∧ ∀ W, Below w.heap.size w W → W.cell? ⟨b, off + j, none⟩ = some (.bool x) := by
  obtain ⟨p, c, h1, h2⟩ := h
  injection h1 with e1 e2 e3
  obtain ⟨b, off, h3, h4⟩ := h2 (by have := (List.getElem?_eq_some_iff.1 hx).1; omega)
  refine ⟨b, off, e1.trans h3, fun W hb => ?_⟩
  have h5 := h4 j x hx
  have hlt : b < w.heap.size := by
    by_cases q : b < w.heap.size
    · exact q
    · unfold World.cell? at h5
      simp only [Array.getElem?_eq_none (show w.heap.size ≤ b by omega)] at h5
      simp at h5
  exact (hb.cell (p := ⟨b, off + j, none⟩) hlt).trans h5
/-- A disk behind a crash and j reads. -/
structure After (s : St) (n : Int) (j : Nat) : Prop where
  n : s.n = n
  live : s.stopped = false
  wait : s.wait = []
  done : s.done = []
  made : s.made ≤ 300
  reads : s.reads ≤ j
  claims : s.claims = 0
theorem after_crash {s : St} {n f : Int} {i : Nat} (h : Left s n f i) (hi : i ≤ 300) (k : List Bool) : After (crashS s k) n 0 := by
  have := h.made
  have := h.reads
  obtain ⟨hh, he⟩ := holdAll_same (keptL s.wait k) s
  unfold crashS
  rw [he]
  exact ⟨h.n, rfl, rfl, rfl, by show s.made ≤ 300; omega, by show s.reads ≤ (0 : Nat); omega, h.claims⟩
theorem After.room {s : St} {n : Int} {j : Nat} (h : After s n j) (hj : j ≤ 64) : Room s := ⟨by unfold St.ops; rw [h.wait, h.done]; simp, by have := h.made; omega, by have := h.reads; omega, by have := h.claims; omega⟩
theorem After.read {s : St} {n : Int} {j : Nat} (h : After s n j) {k : Int} (hk : 0 ≤ k ∧ k < n) : refV s k = 0 ∧ readB s k = (s.held k).getD nought ∧ readV s k = readS s ∧ After (readS s) n (j + 1) := by
  have hr : refV s k = 0 := by unfold refV; rw [h.live, if_neg (by simp), if_pos (by rw [h.n]; exact hk)]
  refine ⟨hr, ?_, ?_, h.n, h.live, h.wait, h.done, h.made, ?_, h.claims⟩
  · unfold readB
    rw [if_pos hr, curV_held (by rw [h.wait]; rfl)]
  · unfold readV
    rw [if_pos hr]
  · have := h.reads
    show s.reads + 1 ≤ ((j + 1 : Nat) : Int)
    omega
theorem After.ops {s : St} {n : Int} {j : Nat} (h : After s n j) : s.ops.length = 0 := by unfold St.ops; rw [h.wait, h.done]; simp
theorem crashS_n (s : St) (k : List Bool) : (crashS s k).n = s.n := holdAll_n s (keptL s.wait k)
theorem rel_crash {s : St} {hs : List (Nat → Int)} {kl : List Bool} (h : Rel (holdAll s (keptL s.wait kl)) hs) : Rel (crashS s kl) hs := h.same rfl rfl
theorem Rel.keptNext {s : St} {hs : List (Nat → Int)} {kl : List Bool} {j : Nat} {c : Cel} {x : Bool} (h : Rel (holdAll s (keptL (s.wait.take j) (kl.take j))) hs) (hc : s.wait[j]? = some c) (hx : kl[j]? = some x) (hok : Ok s) : Rel (holdAll s (keptL (s.wait.take (j + 1)) (kl.take (j + 1)))) (if x then hs.set c.1.toNat c.2 else hs) := by
  have hj : j < s.wait.length := (List.getElem?_eq_some_iff.1 hc).1
  have hk : j < kl.length := (List.getElem?_eq_some_iff.1 hx).1
  have hks := keptL_snoc c x (s.wait.take j) (kl.take j) (by rw [List.length_take, List.length_take]; omega)
  rw [← take_snoc hc, ← show kl.take (j + 1) = kl.take j ++ [x] by rw [List.take_add_one, hx]; rfl] at hks
  rw [hks]
  cases x
  · simpa using h
  · rw [if_pos rfl, if_pos rfl, holdAll_snoc]
    have hw := hok.wait c (List.mem_of_getElem? hc)
    exact h.hold (by rw [holdAll_n]; exact hw.1) hw.2
end Go.Proofs.YtlcdpmjdnihocaaGreatD
/- The document's disk and the program's stand for the same: each call keeps it, and both answer alike; no condition. -/
namespace Go.Proofs.YtlcdpmjdnihocaaGreatD
open Go.RowKit Go.Maps
/-- t, the document's, and s, the program's, stand for one disk. -/
structure Sim (t : RSt) (s : St) : Prop where
  n : t.n = s.n
  rise : Rise (-1) t.held
  sound : Sound t.held
  top : ∀ c ∈ t.held, c.1 < s.n
  held : ∀ k, atL t.held k = (s.held k).getD nought
  wait : t.wait = s.wait
  fuse : s.fuse = if t.fused then t.left else -1
  left : t.fused = true → 0 ≤ t.left ∧ t.left ≤ 9223372036854775807
  dead : t.dead = s.stopped
  ops : t.ops = s.ops
  count : t.count = s.made
  seen : t.seen = s.reads
  claims : t.claims = s.claims
  owner : t.owner = if s.claimed then s.claims else 0
  claimed : s.claimed = true → 0 < s.claims
theorem Sim.image {t : RSt} {s : St} (h : Sim t s) : IsImage s t.held := ⟨h.rise, h.sound, h.top, h.held⟩
theorem Sim.ref {t : RSt} {s : St} (h : Sim t s) (k : Int) : rRefV t k = refV s k := by
  unfold rRefV refV
  rw [h.dead, h.n]
theorem Sim.cur {t : RSt} {s : St} (h : Sim t s) (k : Int) : rCur t k = curV s k := by
  unfold rCur curV
  rw [h.wait, h.held k]
  rfl
theorem Sim.lets {t : RSt} {s : St} (h : Sim t s) : rLetsB t = lets s := by
  unfold rLetsB Go.Proofs.YtlcdpmjdnihocaaGreatD.lets
  rw [h.fuse]
  cases hf : t.fused
  · simp
  · have := h.left hf
    by_cases e : t.left = 0
    · simp [e]
    · simp [e]
theorem sim_new {n : Int} : Sim (rNew n []) (newV n) := ⟨rfl, trivial, (fun c hc => by cases hc), (fun c hc => by cases hc), fun _ => rfl, rfl, rfl, (fun h => by cases h), rfl, rfl, rfl, rfl, rfl, rfl, (fun h => by cases h)⟩
theorem Sim.read {t : RSt} {s : St} (h : Sim t s) : Sim { t with seen := t.seen + 1 } (readS s) :=
  ⟨h.n, h.rise, h.sound, h.top, h.held, h.wait, h.fuse, h.left, h.dead, h.ops, h.count, by show t.seen + 1 = s.reads + 1; rw [h.seen], h.claims, h.owner, h.claimed⟩
theorem Sim.let_ {t : RSt} {s : St} (h : Sim t s) : Sim (rLets t) (letV s) := by
  have hl := h.lets
  have hf := h.fuse
  unfold rLets letV
  cases hL : rLetsB t
  · rw [hL] at hl
    have h0 : s.fuse = 0 := by unfold Go.Proofs.YtlcdpmjdnihocaaGreatD.lets at hl; simpa using hl.symm
    rw [if_pos h0]
    simp only [Bool.false_eq_true, if_false]
    exact ⟨h.n, h.rise, h.sound, h.top, h.held, h.wait, h.fuse, h.left, rfl, h.ops, h.count, h.seen, h.claims, h.owner, h.claimed⟩
  · rw [hL] at hl
    have h0 : ¬ s.fuse = 0 := by unfold Go.Proofs.YtlcdpmjdnihocaaGreatD.lets at hl; simpa using hl.symm
    rw [if_neg h0]
    simp only [if_true]
    cases hfd : t.fused
    · rw [hfd] at hf
      simp only [Bool.false_eq_true, if_false] at hf ⊢
      refine ⟨h.n, h.rise, h.sound, h.top, h.held, h.wait, ?_, (fun q => by cases q), h.dead, h.ops, by show t.count + 1 = s.made + 1; rw [h.count], h.seen, h.claims, h.owner, h.claimed⟩
      show (if s.fuse = -1 then (-1 : Int) else s.fuse - 1) = -1
      rw [if_pos hf]
    · rw [hfd] at hf
      simp only [if_true] at hf ⊢
      have hb := h.left hfd
      refine ⟨h.n, h.rise, h.sound, h.top, h.held, h.wait, ?_, fun _ => by show 0 ≤ t.left - 1 ∧ t.left - 1 ≤ _; omega, h.dead, h.ops, by show t.count + 1 = s.made + 1; rw [h.count], h.seen, h.claims, h.owner, h.claimed⟩
      show (if s.fuse = -1 then (-1 : Int) else s.fuse - 1) = t.left - 1
      rw [if_neg (by omega), hf]
theorem Sim.write {t : RSt} {s : St} (h : Sim t s) (k : Int) (f : Nat → Int) : Sim (rWriteS t k f) (writeS s k f) := by
  have h1 := h.let_
  refine ⟨h1.n, h1.rise, h1.sound, h1.top, h1.held, ?_, h1.fuse, h1.left, h1.dead, ?_, h1.count, h1.seen, h1.claims, h1.owner, h1.claimed⟩
  · show (rLets t).wait ++ [(k, f)] = s.wait ++ [(k, f)]
    rw [h1.wait, letV_wait]
  · show (rLets t).ops ++ [⟨1, k, f⟩] = (writeS s k f).ops
    rw [h1.ops, letV_ops]
    show s.ops ++ [wrec (k, f)] = (letV s).done ++ (s.wait ++ [(k, f)]).map wrec
    rw [letV_done, List.map_append, ← List.append_assoc]
    rfl
theorem Sim.fuse_ {t : RSt} {s : St} (h : Sim t s) (n : Int) (hn : n ≤ 9223372036854775807) : Sim (rFuse t n) (fuseV s n) := by
  unfold rFuse fuseV
  rw [h.dead]
  cases hs : s.stopped
  · simp only [Bool.false_eq_true, if_false]
    refine ⟨h.n, h.rise, h.sound, h.top, h.held, h.wait, ?_, fun q => ?_, rfl, h.ops, h.count, h.seen, h.claims, h.owner, h.claimed⟩
    · show max n (-1) = if decide (0 ≤ n) = true then n else -1
      by_cases q : 0 ≤ n
      · rw [if_pos (by simp [q])]; omega
      · rw [if_neg (by simp [q])]; omega
    · have q' : decide (0 ≤ n) = true := q
      have : 0 ≤ n := by simpa using q'
      show 0 ≤ n ∧ n ≤ _
      omega
  · simp only [if_true]
    exact h
theorem Sim.claim {t : RSt} {s : St} (h : Sim t s) (hc : 0 ≤ s.claims) : Sim (rClaim t) (claimV s) ∧ rClaimN t = claimN s := by
  unfold rClaim claimV rClaimN claimN
  rw [h.dead, h.claims]
  cases hs : s.stopped
  · simp only [Bool.false_eq_true, if_false]
    refine ⟨⟨h.n, h.rise, h.sound, h.top, h.held, h.wait, h.fuse, h.left, rfl, h.ops, h.count, h.seen, rfl, rfl, fun _ => ?_⟩, trivial⟩
    show 0 < s.claims + 1
    omega
  · simp only [if_true]
    exact ⟨h, trivial⟩
theorem Sim.isClaimed {t : RSt} {s : St} (h : Sim t s) (n : Int) : rClaimed t n = claimedV s n := by
  unfold rClaimed claimedV
  rw [h.dead, h.owner]
  cases hs : s.stopped
  · cases hd : s.claimed
    · simp
      intro q e
      omega
    · have := h.claimed hd
      simp only [Bool.not_false, Bool.true_and, if_true]
      by_cases e : n = s.claims
      · simp [e, this]
      · simp [e]
  · simp
/-- Laying blocks into the document's list is holding them. -/
theorem lay_hold {t : List Cel} {s : St} (hr : Rise (-1) t) (hs : Sound t) (hh : ∀ k, atL t k = (s.held k).getD nought) : ∀ (ws : List Cel), (∀ c ∈ ws, (0 ≤ c.1 ∧ c.1 < s.n) ∧ Can c.2) →
    Rise (-1) (rLay t ws) ∧ Sound (rLay t ws) ∧ ∀ k, atL (rLay t ws) k = ((holdAll s ws).held k).getD nought := fun ws => by
  suffices H : ∀ n, n ≤ ws.length → (∀ c ∈ ws, (0 ≤ c.1 ∧ c.1 < s.n) ∧ Can c.2) → Rise (-1) (rLay t (ws.take n)) ∧ Sound (rLay t (ws.take n)) ∧ ∀ k, atL (rLay t (ws.take n)) k = ((holdAll s (ws.take n)).held k).getD nought by
    intro hw
    have := H ws.length (Nat.le_refl _) hw
    rwa [List.take_length] at this
  intro n
  induction n with
  | zero => intro _ _; simp [rLay, holdAll]; exact ⟨hr, hs, hh⟩
  | succ n ih =>
    intro hn hw
    obtain ⟨i1, i2, i3⟩ := ih (by omega) hw
    have hx : ws[n]? = some ws[n] := List.getElem?_eq_getElem (by omega)
    have htk : ws.take (n + 1) = ws.take n ++ [ws[n]] := by rw [List.take_add_one, hx]; rfl
    have hc := hw _ (List.getElem_mem (by omega : n < ws.length))
    rw [htk, rLay_snoc, holdAll_snoc]
    obtain ⟨l1, l2, l3⟩ := laid_spec ws[n].1 ws[n].2 hc.2 (by omega : (-1 : Int) < ws[n].1) i1 i2
    refine ⟨l1, l2, fun k => ?_⟩
    rw [l3, holdV_get _ _ hc.2, i3]
theorem at_mem : ∀ {m : Int} {l : List Cel}, Rise m l → ∀ c ∈ l, m < c.1 ∧ atL l c.1 = c.2
  | _, [], _, c, hc => by cases hc
  | m, x :: r, h, c, hc => by
    rcases List.mem_cons.1 hc with rfl | hc
    · exact ⟨h.1, by simp [atL]⟩
    · obtain ⟨h1, h2⟩ := at_mem h.2 c hc
      refine ⟨by have := h.1; omega, ?_⟩
      rw [atL, if_neg (by omega)]
      exact h2
theorem top_of {l : List Cel} {s : St} (hr : Rise (-1) l) (hs : Sound l) (hh : ∀ k, atL l k = (s.held k).getD nought) (hk : Ok s) : ∀ c ∈ l, c.1 < s.n := fun c hc => by
  obtain ⟨_, h2⟩ := at_mem hr c hc
  rw [hh] at h2
  cases hx : s.held c.1 with
  | none =>
    rw [hx] at h2
    exact absurd h2.symm (hs c hc).2
  | some f => exact (hk.held _ _ hx).1.2
theorem holdAll_ok : ∀ {l : List Cel} {s : St}, Ok s → (∀ c ∈ l, (0 ≤ c.1 ∧ c.1 < s.n) ∧ Can c.2) → Ok (holdAll s l)
  | [], _, h, _ => h
  | c :: l, s, h, hw => by
    have h1 := hw c (by simp)
    exact holdAll_ok (l := l) (holdV_ok h h1.1 h1.2) fun x hx => hw x (by simp [hx])
theorem Sim.barrier {t : RSt} {s : St} (h : Sim t s) (hk : Ok s) : Sim (rBarS t) (barS s) := by
  have h1 := h.let_
  have hk1 := letV_ok hk
  have hw : ∀ c ∈ s.wait, (0 ≤ c.1 ∧ c.1 < (letV s).n) ∧ Can c.2 := by rw [letV_n]; exact hk.wait
  obtain ⟨l1, l2, l3⟩ := lay_hold h1.rise h1.sound h1.held s.wait hw
  have hok : Ok (barS s) := barS_ok (holdAll_ok hk1 hw)
  have e0 : (rBarS t).held = rLay (rLets t).held s.wait := by
    show rLay (rLets t).held (rLets t).wait = _
    rw [h1.wait, letV_wait]
  obtain ⟨hh, he⟩ := holdAll_same s.wait (letV s)
  have e1 : (barS s).held = (holdAll (letV s) s.wait).held := rfl
  refine ⟨?_, by rw [e0]; exact l1, by rw [e0]; exact l2, ?_, fun k => by rw [e0, e1]; exact l3 k, rfl, ?_, h1.left, ?_, ?_, ?_, ?_, ?_, ?_, ?_⟩
  · show (rLets t).n = (holdAll (letV s) s.wait).n
    rw [he]; exact h1.n
  · rw [e0]; exact top_of l1 l2 (fun k => by rw [e1]; exact l3 k) hok
  · show (holdAll (letV s) s.wait).fuse = _
    rw [he]; exact h1.fuse
  · show (rLets t).dead = (holdAll (letV s) s.wait).stopped
    rw [he]; exact h1.dead
  · rw [barS_ops]
    show (rLets t).ops ++ _ = _
    rw [h1.ops, letV_ops]
  · show (rLets t).count = (holdAll (letV s) s.wait).made
    rw [he]; exact h1.count
  · show (rLets t).seen = (holdAll (letV s) s.wait).reads
    rw [he]; exact h1.seen
  · show (rLets t).claims = (holdAll (letV s) s.wait).claims
    rw [he]; exact h1.claims
  · show (rLets t).owner = if (holdAll (letV s) s.wait).claimed then (holdAll (letV s) s.wait).claims else 0
    rw [he]; exact h1.owner
  · show (holdAll (letV s) s.wait).claimed = true → 0 < (holdAll (letV s) s.wait).claims
    rw [he]; exact h1.claimed
theorem keptL_mem : ∀ (l : List Cel) (k : List Bool), ∀ c ∈ keptL l k, c ∈ l
  | [], _, c, h => by simp [keptL] at h
  | x :: l, [], c, h => by simp [keptL] at h
  | x :: l, true :: k, c, h => by
    rcases List.mem_cons.1 (show c ∈ x :: keptL l k from h) with rfl | h
    · simp
    · exact List.mem_cons_of_mem _ (keptL_mem l k c h)
  | x :: l, false :: k, c, h => List.mem_cons_of_mem _ (keptL_mem l k c h)
theorem Sim.crash {t : RSt} {s : St} (h : Sim t s) (hk : Ok s) (kl : List Bool) : Sim (rCrashS t kl) (crashS s kl) := by
  have hw : ∀ c ∈ keptL s.wait kl, (0 ≤ c.1 ∧ c.1 < s.n) ∧ Can c.2 := fun c hc => hk.wait c (keptL_mem _ _ c hc)
  obtain ⟨l1, l2, l3⟩ := lay_hold h.rise h.sound h.held (keptL s.wait kl) hw
  have hok : Ok (crashS s kl) := crashS_ok (holdAll_ok hk hw)
  have e0 : (rCrashS t kl).held = rLay t.held (keptL s.wait kl) := by
    show rLay t.held (keptL t.wait kl) = _
    rw [h.wait]
  obtain ⟨hh, he⟩ := holdAll_same (keptL s.wait kl) s
  have e1 : (crashS s kl).held = (holdAll s (keptL s.wait kl)).held := rfl
  refine ⟨?_, by rw [e0]; exact l1, by rw [e0]; exact l2, ?_, fun k => by rw [e0, e1]; exact l3 k, rfl, rfl, (fun q => by cases q), rfl, rfl, ?_, ?_, ?_, rfl, (fun q => by cases q)⟩
  · show t.n = (holdAll s (keptL s.wait kl)).n
    rw [he]; exact h.n
  · rw [e0]; exact top_of l1 l2 (fun k => by rw [e1]; exact l3 k) hok
  · show t.count = (holdAll s (keptL s.wait kl)).made
    rw [he]; exact h.count
  · show t.seen = (holdAll s (keptL s.wait kl)).reads
    rw [he]; exact h.seen
  · show t.claims = (holdAll s (keptL s.wait kl)).claims
    rw [he]; exact h.claims
end Go.Proofs.YtlcdpmjdnihocaaGreatD
/- Parts of memory that lie apart: one of them turns, the others stay; no condition. -/
namespace Go.Proofs.YtlcdpmjdnihocaaGreatD
open Go.RowKit

theorem Fr.below' {T : Nat → Prop} {B : Nat} {a b : World} (h : Fr T a b) (hT : ∀ k, T k → k < a.heap.size → B ≤ k) (hB : B ≤ a.heap.size) : Below B a b :=
  ⟨h.os, h.tape, h.output, h.size, fun i hi => h.block i (by omega) fun q => by have := hT i q (by omega); omega⟩
/-- A part of memory: its blocks, and what it says. -/
structure Part where
  own : Nat → Prop
  say : World → Prop
/-- What a part says goes by its own blocks alone. -/
def Part.Good (p : Part) : Prop := ∀ W W' : World, p.say W → (∀ k, p.own k → k < W.heap.size) → (∀ k, p.own k → W'.heap[k]? = W.heap[k]?) → p.say W'
/-- Parts that were made since w, and lie apart. -/
structure Sep (w W : World) (l : List Part) : Prop where
  good : ∀ p ∈ l, p.Good
  say : ∀ p ∈ l, p.say W
  lt : ∀ p ∈ l, ∀ k, p.own k → w.heap.size ≤ k ∧ k < W.heap.size
  apart : l.Pairwise fun p q => ∀ k, p.own k → ¬ q.own k
  below : Below w.heap.size w W
variable {w W W' : World} {p p' q : Part} {l : List Part}
theorem Sep.head (h : Sep w W (p :: l)) : p.say W := h.say p (by simp)
theorem Sep.headLt (h : Sep w W (p :: l)) {k : Nat} (hk : p.own k) : w.heap.size ≤ k ∧ k < W.heap.size := h.lt p (by simp) k hk
/-- The first one turns. -/
theorem Sep.turn (h : Sep w W (p :: l)) {T : Nat → Prop} (hF : Fr T W W') (hT : ∀ k, k < W.heap.size → T k → p.own k) (hg : p'.Good) (hs : p'.say W') (ho : ∀ k, p'.own k → (p.own k ∨ W.heap.size ≤ k) ∧ k < W'.heap.size) : Sep w W' (p' :: l) := by
  obtain ⟨ha, hl⟩ := List.pairwise_cons.1 h.apart
  refine ⟨fun q hq => ?_, fun q hq => ?_, fun q hq k hk => ?_, List.pairwise_cons.2 ⟨fun q hq k hk hk2 => ?_, hl⟩, ?_⟩
  · rcases List.mem_cons.1 hq with rfl | hq
    · exact hg
    · exact h.good q (List.mem_cons_of_mem _ hq)
  · rcases List.mem_cons.1 hq with rfl | hq
    · exact hs
    · have hm : q ∈ p :: l := List.mem_cons_of_mem _ hq
      exact h.good q hm W W' (h.say q hm) (fun k hk => (h.lt q hm k hk).2) fun k hk => hF.block k (h.lt q hm k hk).2 fun hp => ha q hq k (hT k (h.lt q hm k hk).2 hp) hk
  · rcases List.mem_cons.1 hq with rfl | hq
    · refine ⟨?_, (ho k hk).2⟩
      rcases (ho k hk).1 with r | r
      · exact (h.lt p (by simp) k r).1
      · have := h.below.size; omega
    · have := h.lt q (List.mem_cons_of_mem _ hq) k hk
      exact ⟨this.1, Nat.lt_of_lt_of_le this.2 hF.size⟩
  · rcases (ho k hk).1 with r | r
    · exact ha q hq k r hk2
    · have := (h.lt q (List.mem_cons_of_mem _ hq) k hk2).2
      omega
  · exact h.below.trans (hF.below' (fun k hk hlt => (h.lt p (by simp) k (hT k hlt hk)).1) h.below.size)
theorem Sep.later (h : Sep w W l) (hb : Below W.heap.size W W') : Sep w W' l :=
  ⟨h.good, fun q hq => h.good q hq W W' (h.say q hq) (fun k hk => (h.lt q hq k hk).2) fun k hk => hb.block k (h.lt q hq k hk).2, fun q hq k hk => ⟨(h.lt q hq k hk).1, Nat.lt_of_lt_of_le (h.lt q hq k hk).2 hb.size⟩, h.apart, h.below.trans (hb.mono h.below.size)⟩
/-- One more, made just now. -/
theorem Sep.add (h : Sep w W l) (hb : Below W.heap.size W W') (hg : p.Good) (hs : p.say W') (ho : ∀ k, p.own k → W.heap.size ≤ k ∧ k < W'.heap.size) : Sep w W' (p :: l) := by
  have h2 := h.later hb
  refine ⟨fun q hq => ?_, fun q hq => ?_, fun q hq k hk => ?_, List.pairwise_cons.2 ⟨fun q hq k hk hk2 => ?_, h2.apart⟩, h2.below⟩
  · rcases List.mem_cons.1 hq with rfl | hq
    · exact hg
    · exact h2.good q hq
  · rcases List.mem_cons.1 hq with rfl | hq
    · exact hs
    · exact h2.say q hq
  · rcases List.mem_cons.1 hq with rfl | hq
    · have := h.below.size
      have := ho k hk
      omega
    · exact h2.lt q hq k hk
  · have := (h.lt q hq k hk2).2
    have := (ho k hk).1
    omega
theorem Sep.perm {l' : List Part} (h : Sep w W l) (hp : l.Perm l') : Sep w W l' :=
  ⟨fun q hq => h.good q (hp.mem_iff.2 hq), fun q hq => h.say q (hp.mem_iff.2 hq), fun q hq => h.lt q (hp.mem_iff.2 hq), (hp.pairwise_iff fun h k hk hk2 => h k hk2 hk).1 h.apart, h.below⟩
theorem Sep.swap (h : Sep w W (p :: q :: l)) : Sep w W (q :: p :: l) := h.perm (List.Perm.swap _ _ _)
/-- The third one comes to the front. -/
theorem Sep.third {r : Part} (h : Sep w W (p :: q :: r :: l)) : Sep w W (r :: p :: q :: l) := h.perm ((List.Perm.cons _ (List.Perm.swap _ _ _)).trans (List.Perm.swap _ _ _))
theorem Sep.back {r : Part} (h : Sep w W (r :: p :: q :: l)) : Sep w W (p :: q :: r :: l) := h.perm ((List.Perm.swap _ _ _).trans (List.Perm.cons _ (List.Perm.swap _ _ _)))
/-- The first one is let go. -/
theorem Sep.drop (h : Sep w W (p :: l)) : Sep w W l :=
  ⟨fun q hq => h.good q (List.mem_cons_of_mem _ hq), fun q hq => h.say q (List.mem_cons_of_mem _ hq), fun q hq => h.lt q (List.mem_cons_of_mem _ hq), (List.pairwise_cons.1 h.apart).2, h.below⟩
theorem Sep.nil (hb : Below w.heap.size w W) : Sep w W [] := ⟨by simp, by simp, by simp, List.Pairwise.nil, hb⟩
/-- Nothing. -/
def noPart : Part := ⟨fun _ => False, fun _ => True⟩
theorem noPart_good : noPart.Good := fun _ _ _ _ _ => trivial
theorem Sep.none (h : Sep w W l) : Sep w W (noPart :: l) := h.add (Below.refl _ _) noPart_good trivial fun _ q => q.elim
end Go.Proofs.YtlcdpmjdnihocaaGreatD
/- What is held behind writes and barriers, and of an image that is loaded again, as plain lists; no condition. -/
namespace Go.Proofs.YtlcdpmjdnihocaaGreatD
open Go.RowKit

theorem rises_of {n : Int} : ∀ (l : List Cel) (m : Int), Rise m l → Sound l → (∀ c ∈ l, c.1 < n) → risesB n m l = true
  | [], _, _, _, _ => rfl
  | (i, x) :: t, m, hr, hs, ht => by
    have h1 := hr.1
    have h2 := ht (i, x) (by simp)
    have h3 := hs (i, x) (by simp)
    have h4 : blankB x = false := by
      cases hb : blankB x
      · rfl
      · exact absurd (h3.1.blank.1 hb) h3.2
    have ih := rises_of t i hr.2 (fun c hc => hs c (by simp [hc])) fun c hc => ht c (by simp [hc])
    unfold risesB
    simp only at h2 ⊢
    rw [ih, h4, decide_eq_false (by omega : ¬ i ≤ m), decide_eq_false (by omega : ¬ i ≥ n)]
    rfl
theorem rise_len {n : Int} : ∀ (l : List Cel) (m : Int), Rise m l → (∀ c ∈ l, c.1 < n) → m < n → (l.length : Int) ≤ n - m - 1
  | [], m, _, _, h => by simp; omega
  | (i, x) :: t, m, hr, ht, h => by
    have h1 := hr.1
    have h2 := ht (i, x) (by simp)
    have ih := rise_len t i hr.2 (fun c hc => ht c (by simp [hc])) h2
    simp only [List.length_cons] at *
    omega
theorem image_may {s : St} {l : List Cel} (h : IsImage s l) (hok : Ok s) : mayB s.n l = true := by
  have hn := hok.n
  unfold mayB
  rw [rises_of l (-1) h.rise h.sound h.top, show bndB s.n = true by unfold bndB; simp; omega]
  rfl
theorem image_len {s : St} {l : List Cel} (h : IsImage s l) (hok : Ok s) : l.length < 9223372036854775807 := by
  have := rise_len l (-1) h.rise h.top (by have := hok.n; omega)
  have := hok.n
  omega
/-- What the last of the writes to k left; x, if there is none. -/
def lastV (x : Nat → Int) : List Cel → Int → Nat → Int
  | [], _ => x
  | c :: t, k => lastV (if c.1 = k then c.2 else x) t k
theorem lastV_none {k : Int} : ∀ (l : List Cel) (x : Nat → Int), (∀ c ∈ l, c.1 ≠ k) → lastV x l k = x
  | [], _, _ => rfl
  | c :: t, x, h => by
    unfold lastV
    rw [if_neg (h c (by simp))]
    exact lastV_none t x fun c hc => h c (by simp [hc])
theorem rise_ne : ∀ (l : List Cel) (m : Int), Rise m l → ∀ c ∈ l, m < c.1
  | [], _, _, c, hc => by simp at hc
  | (i, x) :: t, m, h, c, hc => by
    rcases List.mem_cons.1 hc with rfl | hc
    · exact h.1
    · have := rise_ne t i h.2 c hc
      have := h.1
      omega
theorem lastV_at {k : Int} : ∀ (l : List Cel) (m : Int), Rise m l → lastV nought l k = atL l k
  | [], _, _ => rfl
  | (i, x) :: t, m, h => by
    unfold lastV atL
    simp only
    by_cases e : i = k
    · rw [if_pos e, if_pos e]
      exact lastV_none t x fun c hc q => by have := rise_ne t i h.2 c hc; omega
    · rw [if_neg e, if_neg e]
      exact lastV_at t i h.2
theorem lastV_append {k : Int} : ∀ (l m : List Cel) (x : Nat → Int), lastV x (l ++ m) k = lastV (lastV x l k) m k
  | [], _, _ => rfl
  | c :: t, m, x => by
    show lastV (if c.1 = k then c.2 else x) (t ++ m) k = _
    rw [lastV_append t m]
    rfl
theorem holdAll_get {k : Int} : ∀ (l : List Cel) (s : St), (∀ c ∈ l, Can c.2) → ((holdAll s l).held k).getD nought = lastV ((s.held k).getD nought) l k
  | [], _, _ => rfl
  | c :: t, s, h => by
    show ((holdAll (holdV s c.1 c.2) t).held k).getD nought = _
    rw [holdAll_get t _ fun c hc => h c (by simp [hc]), holdV_get s c.1 (h c (by simp)) k]
    show _ = lastV (if c.1 = k then c.2 else (s.held k).getD nought) t k
    by_cases e : k = c.1
    · rw [if_pos e, if_pos e.symm]
    · rw [if_neg e, if_neg fun q => e q.symm]
theorem image_load {s : St} {l : List Cel} (h : IsImage s l) (k : Int) : ((loadV s.n l).held k).getD nought = (s.held k).getD nought := by
  unfold loadV
  rw [holdAll_get l _ fun c hc => (h.sound c hc).1, ← h.at_ k]
  exact lastV_at l (-1) h.rise
theorem lastAt_last {k : Int} : ∀ (l : List Cel) (x : Nat → Int), (match lastAt l k with | some i => (match l[i]? with | some c => c.2 | none => nought) | none => x) = lastV x l k
  | [], _ => rfl
  | c :: t, x => by
    have ih := lastAt_last (k := k) t (if c.1 = k then c.2 else x)
    unfold lastV
    rw [← ih]
    show (match (match lastAt t k with | some i => some (i + 1) | none => if c.1 = k then some 0 else none) with | some i => (match (c :: t)[i]? with | some c => c.2 | none => nought) | none => x) = _
    cases lastAt t k with
    | some i => rfl
    | none =>
      by_cases e : c.1 = k
      · rw [if_pos e, if_pos e]; rfl
      · rw [if_neg e, if_neg e]
theorem curV_last (s : St) (k : Int) : curV s k = lastV ((s.held k).getD nought) s.wait k := by
  rw [← lastAt_last]
  rfl
theorem mod_in {n : Int} (hn : 1 ≤ n) (x : Int) : 0 ≤ x % n ∧ x % n < n := ⟨Int.emod_nonneg _ (by omega), Int.emod_lt_of_pos _ (by omega)⟩
theorem goes_on {s : St} (hs : s.stopped = false) (i : Nat) : goesB s (-1) i = true := by unfold goesB; rw [hs]; simp
section
variable (n : Int) (q : Nat → Int × (Nat → Int))
/-- The disk behind the first i puts. -/
def putS : Nat → St
  | 0 => newV n
  | i + 1 => if (q i).1 < 0 then barS (putS i) else writeS (putS i) ((q i).1 % n) (q i).2
/-- The writes of the first i puts. -/
def wrL : Nat → List Cel
  | 0 => []
  | i + 1 => if (q i).1 < 0 then wrL i else wrL i ++ [((q i).1 % n, (q i).2)]
/-- The last barrier of the first i puts. -/
def lastI : Nat → Int
  | 0 => -1
  | i + 1 => if (q i).1 < 0 then i else lastI i
/-- A disk to which only writes came. -/
def wrS : Nat → St
  | 0 => newV n
  | i + 1 => if (q i).1 < 0 then wrS i else writeS (wrS i) ((q i).1 % n) (q i).2
theorem putS_succ (i : Nat) : putS n q (i + 1) = if (q i).1 < 0 then barS (putS n q i) else writeS (putS n q i) ((q i).1 % n) (q i).2 := rfl
theorem wrL_succ (i : Nat) : wrL n q (i + 1) = if (q i).1 < 0 then wrL n q i else wrL n q i ++ [((q i).1 % n, (q i).2)] := rfl
theorem wrS_succ (i : Nat) : wrS n q (i + 1) = if (q i).1 < 0 then wrS n q i else writeS (wrS n q i) ((q i).1 % n) (q i).2 := rfl
theorem lastI_succ (i : Nat) : lastI q (i + 1) = if (q i).1 < 0 then (i : Int) else lastI q i := rfl
theorem wrL_can (hq : ∀ i, Can (q i).2) (i : Nat) : ∀ c ∈ wrL n q i, Can c.2 := by
  induction i with
  | zero => intro c hc; simp [wrL] at hc
  | succ i ih =>
    intro c hc
    rw [wrL_succ] at hc
    split at hc
    · exact ih c hc
    · rcases List.mem_append.1 hc with h | h
      · exact ih c h
      · obtain rfl : c = _ := by simpa using h
        exact hq i
theorem putS_is (hn : 1 ≤ n) (hq : ∀ i, Can (q i).2) (i : Nat) : Left (putS n q i) n (-1) i ∧ (putS n q i).stopped = false ∧ (putS n q i).made = i ∧ ∃ fl, fl = wrL n q (lastI q i).toNat ∧ fl ++ (putS n q i).wait = wrL n q i ∧ ∀ k, ((putS n q i).held k).getD nought = lastV nought fl k := by
  induction i with
  | zero => exact ⟨⟨rfl, fun _ => ⟨fun _ => rfl, fun h => by omega⟩, Nat.le_refl _, Int.le_refl _, rfl, rfl⟩, rfl, rfl, [], rfl, rfl, fun k => rfl⟩
  | succ i ih =>
    obtain ⟨hl, hs, hm, fl, h1, h2, h3⟩ := ih
    have hg := goes_on hs i
    have hlt := (goes_live hl hg).2
    have hmade : (letV (putS n q i)).made = i + 1 := by rw [(letV_live hlt).2.1, hm]
    rw [putS_succ, wrL_succ, lastI_succ]
    by_cases hb : (q i).1 < 0
    · rw [if_pos hb, if_pos hb, if_pos hb]
      obtain ⟨_, _, g1, g2, g3, g4, _⟩ := bar_goes hl hg
      obtain ⟨hh, he⟩ := holdAll_same (putS n q i).wait (letV (putS n q i))
      refine ⟨g1, g2, ?_, wrL n q i, by simp, by rw [g3, List.append_nil], fun k => ?_⟩
      · have e1 : (barS (putS n q i)).made = (holdAll (letV (putS n q i)) (putS n q i).wait).made := rfl
        rw [e1, he]
        exact hmade
      · rw [g4, holdAll_get _ _ (fun c hc => wrL_can n q hq i c (by rw [← h2]; exact List.mem_append_right _ hc)), h3, ← lastV_append, h2]
    · rw [if_neg hb, if_neg hb, if_neg hb]
      obtain ⟨_, _, g1, g2, g3, g4, _⟩ := write_goes hl hg (mod_in hn (q i).1) (q i).2
      refine ⟨g1, g2, hmade, fl, h1, by rw [g3, ← List.append_assoc, h2], fun k => by rw [g4]; exact h3 k⟩
theorem wrS_is (hn : 1 ≤ n) (i : Nat) : ∃ j : Nat, j ≤ i ∧ Left (wrS n q i) n (-1) j ∧ (wrS n q i).stopped = false ∧ (wrS n q i).wait = wrL n q i ∧ ∀ k, (wrS n q i).held k = none := by
  induction i with
  | zero => exact ⟨0, Nat.le_refl _, ⟨rfl, fun _ => ⟨fun _ => rfl, fun h => by omega⟩, Nat.le_refl _, Int.le_refl _, rfl, rfl⟩, rfl, rfl, fun k => rfl⟩
  | succ i ih =>
    obtain ⟨j, hj, hl, hs, h1, h2⟩ := ih
    rw [wrS_succ, wrL_succ]
    by_cases hb : (q i).1 < 0
    · rw [if_pos hb, if_pos hb]
      exact ⟨j, by omega, hl, hs, h1, h2⟩
    · rw [if_neg hb, if_neg hb]
      obtain ⟨_, _, g1, g2, g3, g4, _⟩ := write_goes hl (goes_on hs j) (mod_in hn (q i).1) (q i).2
      exact ⟨j + 1, by omega, g1, g2, by rw [g3, h1], fun k => by rw [g4]; exact h2 k⟩
/-- What the loaded one reads is what the one with the writes alone reads. -/
theorem again_same (hn : 1 ≤ n) (hq : ∀ i, Can (q i).2) (m : Nat) {l : List Cel} (h : IsImage (putS n q m) l) (k : Int) : curV (loadV (putS n q m).n l) k = curV (wrS n q (lastI q m).toNat) k := by
  obtain ⟨_, _, _, fl, h1, _, h3⟩ := putS_is n q hn hq m
  obtain ⟨_, _, _, _, h4, h5⟩ := wrS_is n q hn (lastI q m).toNat
  rw [curV_last, curV_last, h4, h5 k, show (loadV (putS n q m).n l).wait = [] from holdAll_wait _ _, ← h1]
  show ((loadV (putS n q m).n l).held k).getD nought = lastV nought fl k
  rw [image_load h k, h3 k]
end
end Go.Proofs.YtlcdpmjdnihocaaGreatD
/- Several disks in one world: one that turns, others beside it; any of them may be the one that turns; no condition. -/
namespace Go.Proofs.YtlcdpmjdnihocaaGreatD
open Go.RowKit

/-- New since w. -/
structure Solo (w : World) (W : World) (L : Loc) : Prop where
  new : L.from w.heap.size
  below : Below w.heap.size w W
/-- Another disk beside it. -/
structure By (w : World) (d1 : Nat) (s1 : St) (W : World) (L : Loc) (L1 : Loc) : Prop where
  at_ : L1.d = d1
  disk : DiskAt W L1 s1
  new : L1.from w.heap.size
  apart : ∀ k, L.has k → ¬ L1.has k
def Two (w : World) (d1 : Nat) (s1 : St) (W : World) (L : Loc) : Prop := Solo w W L ∧ ∃ L1, By w d1 s1 W L L1
def Tri (w : World) (d1 : Nat) (s1 : St) (d2 : Nat) (s2 : St) (W : World) (L : Loc) : Prop := Solo w W L ∧ ∃ L1 L2, By w d1 s1 W L L1 ∧ By w d2 s2 W L L2 ∧ ∀ k, L1.has k → ¬ L2.has k
variable {w W W' : World} {d d1 d2 : Nat} {s s1 s2 : St} {L L' L1 : Loc}
theorem solo_goes (h : Solo w W L) (hG : Goes W W' L L') : Solo w W' L' := by
  refine ⟨fun k hk => ?_, h.below.trans (hG.fr.below h.new h.below.size)⟩
  rcases hG.own k hk with q | q
  · exact h.new k q
  · have := h.below.size
    omega
theorem by_goes (h : By w d1 s1 W L L1) (hG : Goes W W' L L') : By w d1 s1 W' L' L1 := by
  refine ⟨h.at_, h.disk.fr hG.fr fun k hk q => h.apart k q hk, h.new, fun k hk q => ?_⟩
  rcases hG.own k hk with r | r
  · exact h.apart k r q
  · have := h.disk.lt k q
    omega
theorem solo_stays (w : World) : Stays (Solo w) := fun _ _ _ _ _ h hG => solo_goes h hG
theorem two_stays (w : World) (d1 : Nat) (s1 : St) : Stays (Two w d1 s1) := fun _ _ _ _ _ ⟨h, L1, h1⟩ hG => ⟨solo_goes h hG, L1, by_goes h1 hG⟩
theorem tri_stays (w : World) (d1 : Nat) (s1 : St) (d2 : Nat) (s2 : St) : Stays (Tri w d1 s1 d2 s2) := fun _ _ _ _ _ ⟨h, L1, L2, h1, h2, h3⟩ hG => ⟨solo_goes h hG, L1, L2, by_goes h1 hG, by_goes h2 hG, h3⟩
theorem Has.belowS (h : Has (Solo w) W d s) : Below w.heap.size w W := by
  obtain ⟨L, _, _, h⟩ := h
  exact h.below
theorem Has.below2 (h : Has (Two w d1 s1) W d s) : Below w.heap.size w W := by
  obtain ⟨L, _, _, h, _⟩ := h
  exact h.below
theorem Has.below3 (h : Has (Tri w d1 s1 d2 s2) W d s) : Below w.heap.size w W := by
  obtain ⟨L, _, _, h, _⟩ := h
  exact h.below
theorem Has.swap (h : Has (Two w d1 s1) W d s) : Has (Two w d s) W d1 s1 := by
  obtain ⟨L, hd, hD, h0, L1, h1⟩ := h
  exact ⟨L1, h1.at_, h1.disk, ⟨h1.new, h0.below⟩, L, hd, hD, h0.new, fun k q r => h1.apart k r q⟩
theorem Has.swap3 (h : Has (Tri w d1 s1 d2 s2) W d s) : Has (Tri w d s d2 s2) W d1 s1 := by
  obtain ⟨L, hd, hD, h0, L1, L2, h1, h2, h3⟩ := h
  exact ⟨L1, h1.at_, h1.disk, ⟨h1.new, h0.below⟩, L, L2, ⟨hd, hD, h0.new, fun k q r => h1.apart k r q⟩, ⟨h2.at_, h2.disk, h2.new, h3⟩, h2.apart⟩
theorem Has.drop3 (h : Has (Tri w d1 s1 d2 s2) W d s) : Has (Two w d s) W d2 s2 := by
  obtain ⟨L, hd, hD, h0, L1, L2, h1, h2, h3⟩ := h
  exact ⟨L2, h2.at_, h2.disk, ⟨h2.new, h0.below⟩, L, hd, hD, h0.new, fun k q r => h2.apart k r q⟩
/-- A disk that was made just now beside it. -/
theorem Has.add (h : Has (Solo w) W d s) (hb : Below W.heap.size W W') (hD1 : DiskAt W' L1 s1) (hL : L1.from W.heap.size) : Has (Two w L1.d s1) W' d s := by
  obtain ⟨L, hd, hD, h0⟩ := h
  exact ⟨L, hd, hD.later hb, solo_goes h0 (Goes.ofBelow L hb), L1, rfl, hD1, fun k hk => by have := hL k hk; have := h0.below.size; omega, fun k hk q => by have := hL k q; have := hD.lt k hk; omega⟩
theorem Has.add2 (h : Has (Two w d2 s2) W d s) (hb : Below W.heap.size W W') (hD1 : DiskAt W' L1 s1) (hL : L1.from W.heap.size) : Has (Tri w L1.d s1 d2 s2) W' d s := by
  obtain ⟨L, hd, hD, h0, L2, h2⟩ := h
  exact ⟨L, hd, hD.later hb, solo_goes h0 (Goes.ofBelow L hb), L1, L2, ⟨rfl, hD1, fun k hk => by have := hL k hk; have := h0.below.size; omega, fun k hk q => by have := hL k q; have := hD.lt k hk; omega⟩,
    by_goes h2 (Goes.ofBelow L hb), fun k hk q => by have := hL k hk; have := h2.disk.lt k q; omega⟩
/-- The image of a disk, loaded. -/
theorem img_cells {W : World} {g : Nat} {l : List Cel} (h : W.heap[g]? = some (.cells (celCells l).toArray 81)) : ImgAt W (some ⟨g, 0, none⟩) l := fun _ => by
  refine ⟨g, 0, rfl, (Array.getElem?_eq_some_iff.1 h).1, fun k c hc => ?_⟩
  obtain ⟨K, hK⟩ : ∃ K, K = k * 1025 := ⟨_, rfl⟩
  have key : ∀ j, j < 1025 → ∀ v, (celRow c)[j]? = some v → W.cell? ⟨g, K + j, none⟩ = some v := fun j hj v hv => by
    have q0 := (fm_get celRow 1025 celRow_len l k j c hc hj).trans hv
    rw [← hK] at q0
    rw [cell_of_row W g _ _ 81 _ h, List.getElem?_toArray]
    exact q0
  rw [Nat.zero_add, ← hK]
  clear hK hc h
  refine ⟨key 0 (by omega) _ rfl, fun j v hv => ?_⟩
  have hj : j < 1024 := by have := (List.getElem?_eq_some_iff.1 hv).1; rwa [blk_list_len] at this
  rw [Nat.add_assoc, Nat.add_comm 1 j]
  refine key (j + 1) (by omega) v ?_
  rw [show (celRow c)[j + 1]? = (blk c.2).toList[j]? by simp only [celRow, List.getElem?_cons_succ]]
  exact hv
theorem has_image {P : World → Loc → Prop} (hP : Stays P) (h : Has P W d s) : Calls Tryz.prog 21 #[.pointer (some ⟨d, 0, none⟩)] W fun e W' => ∃ (g : Nat) (l : List Cel), e = .returned (.agg #[.int .i64 s.n, .slice (some ⟨g, 0, none⟩) l.length l.length]) ∧ IsImage s l ∧ ImgAt W' (some ⟨g, 0, none⟩) l ∧ Has P W' d s := by
  have h' := h
  obtain ⟨L, rfl, hD, hp⟩ := h
  exact (image_walk hD).mono fun e W' ⟨g, l, h1, h2, h3, _, h5⟩ => ⟨g, l, h1, h2, img_cells h3, h'.later hP h5⟩
theorem load_image {s : St} {l : List Cel} (h : IsImage s l) (hok : Ok s) (p : Option Addr) (cap : Nat) (hi : ImgAt W p l) :
    Calls Tryz.prog 7 #[.agg #[.int .i64 s.n, .slice p l.length cap]] W fun e w' => ∃ L : Loc, e = .returned (.tuple #[.pointer (some ⟨L.d, 0, none⟩), .int .i64 0]) ∧ DiskAt w' L (loadV s.n l) ∧ L.from W.heap.size ∧ Below W.heap.size W w' :=
  load_ok s.n l p cap W (image_len h hok) hi (fun c hc => (h.sound c hc).1) (image_may h hok)
/-- A live disk that has been read j times. -/
structure Live (s : St) (n : Int) (j : Nat) : Prop where
  n : s.n = n
  live : s.stopped = false
  ops : s.ops.length ≤ 1000
  made : s.made ≤ 1000
  reads : s.reads ≤ j
  claims : s.claims = 0
theorem Live.room {s : St} {n : Int} {j : Nat} (h : Live s n j) (hj : j ≤ 1000) : Room s := ⟨by have := h.ops; omega, by have := h.made; omega, by have := h.reads; omega, by have := h.claims; omega⟩
theorem Live.read {s : St} {n : Int} {j : Nat} (h : Live s n j) {k : Int} (hk : 0 ≤ k ∧ k < n) : refV s k = 0 ∧ readB s k = curV s k ∧ readV s k = readS s ∧ Live (readS s) n (j + 1) ∧ ∀ i, curV (readS s) i = curV s i := by
  have hr : refV s k = 0 := by unfold refV; rw [h.live, if_neg (by simp), if_pos (by rw [h.n]; exact hk)]
  refine ⟨hr, ?_, ?_, ⟨h.n, h.live, h.ops, h.made, ?_, h.claims⟩, fun _ => rfl⟩
  · unfold readB
    rw [if_pos hr]
  · unfold readV
    rw [if_pos hr]
  · have := h.reads
    show s.reads + 1 ≤ ((j + 1 : Nat) : Int)
    omega
theorem Left.toLive {s : St} {n f : Int} {i : Nat} (h : Left s n f i) (hs : s.stopped = false) (hi : i ≤ 1000) : Live s n 0 := ⟨h.n, hs, by have := h.ops; omega, by have := h.made; omega, by have := h.reads; omega, h.claims⟩
theorem load_live (n : Int) (l : List Cel) : Live (loadV n l) n 0 := by
  obtain ⟨hh, he⟩ := holdAll_same l (newV n)
  unfold loadV
  rw [he]
  exact ⟨rfl, rfl, Nat.zero_le _, by show (0 : Int) ≤ 1000; omega, Int.le_refl _, rfl⟩
end Go.Proofs.YtlcdpmjdnihocaaGreatD

/- What a block of 1024 bytes is as cells: a plain function from places to numbers, laid as cells; no condition. -/
namespace Go.Proofs.YtlcdpmjdnihocaaGreatH
open Go.RowKit

/-- The cells of a block whose byte at place i is f i. -/
def blk (f : Nat → Int) : Array Value := ((List.range 1024).map fun i => Value.int .u8 (f i)).toArray
/-- f, but for x at place i. -/
def upd (f : Nat → Int) (i : Nat) (x : Int) : Nat → Int := fun j => if j = i then x else f j
def nought : Nat → Int := fun _ => 0

theorem blk_size (f : Nat → Int) : (blk f).size = 1024 := by simp [blk]
theorem blk_get (f : Nat → Int) (i : Nat) (h : i < 1024) : (blk f)[i]? = some (.int .u8 (f i)) := by
  simp [blk, h]
theorem blk_set (f : Nat → Int) (i : Nat) (x : Int) : (blk f).setIfInBounds i (.int .u8 x) = blk (upd f i x) := by
  apply Array.ext_getElem?
  intro j
  by_cases hj : j < 1024
  · rw [blk_get _ _ hj, Array.getElem?_setIfInBounds]
    by_cases e : i = j
    · subst e; simp [blk_size, hj, upd]
    · have e' : ¬ j = i := fun q => e q.symm
      simp [e, e', blk_get _ _ hj, upd]
  · rw [Array.getElem?_eq_none (by rw [Array.size_setIfInBounds, blk_size]; omega), Array.getElem?_eq_none (by rw [blk_size]; omega)]
theorem blk_congr {f g : Nat → Int} (h : ∀ i, i < 1024 → f i = g i) : blk f = blk g := by
  apply Array.ext_getElem?
  intro j
  by_cases hj : j < 1024
  · rw [blk_get _ _ hj, blk_get _ _ hj, h j hj]
  · rw [Array.getElem?_eq_none (by rw [blk_size]; omega), Array.getElem?_eq_none (by rw [blk_size]; omega)]
theorem blk_one (f : Nat → Int) : (blk f).all (·.oneCell') = true := by
  rw [Array.all_eq_true_iff_forall_mem]
  intro v hv
  simp [blk] at hv
  obtain ⟨i, _, rfl⟩ := hv
  rfl
end Go.Proofs.YtlcdpmjdnihocaaGreatH
/- The block type of this program over its translation: loads, stores and results of whole blocks; fits; no condition. -/
namespace Go.Proofs.YtlcdpmjdnihocaaGreatH
open Go.RowKit

theorem info25 : (Tryz.prog.info? 79).map (fun i => (i.zero, i.size)) = some (some (.agg (blk nought)), 1024) := by kernel_rfl
theorem zero25 : ∀ w, (zeroValue 79).run Tryz.prog w = .ok (.agg (blk nought)) w := (zero_of_info info25).1
theorem size25 : (Tryz.prog.info? 79).map (·.size) = some 1024 := (zero_of_info info25).2

def firsts (f : Nat → Int) (k : Nat) : Nat → Int := fun i => if i < k then f i else 0
theorem firsts_next (f : Nat → Int) (k : Nat) : upd (firsts f k) k (f k) = firsts f (k + 1) := by
  funext j
  unfold upd firsts
  by_cases h : j = k
  · subst h; simp
  · by_cases h2 : j < k
    · simp [h, h2, show j < k + 1 by omega]
    · simp [h, h2, show ¬ j < k + 1 by omega]

theorem wpList_load25 {ops : Array Oper} {rest : List Oper} {o : Oper} {a : Act} {w : World} {Q : Exit → Act → World → Prop} (hgd : o.guard = none) (x : Operand) (ho : o.op = .load 79 x)
    (g : Nat) (hx : a.eval x = .pointer (some ⟨g, 0, none⟩)) (f : Nat → Int) (hg : w.heap[g]? = some (.cells (blk f) 79))
    (h : wpList Tryz.prog ops Q rest (a.put o.dst (.agg (blk f))) w) : wpList Tryz.prog ops Q (o :: rest) a w :=
  wpList_load_row hgd 79 x ho g hx 79 (blk f) (0, 0) _ hg Tryz.underlying79 rfl (by rw [blk_size]; exact size25) h
theorem wpList_store25 {ops : Array Oper} {rest : List Oper} {o : Oper} {a : Act} {w : World} {Q : Exit → Act → World → Prop} (hgd : o.guard = none) (x y : Operand) (ho : o.op = .store 79 x y)
    (g : Nat) (f : Nat → Int) (hx : a.eval x = .pointer (some ⟨g, 0, none⟩)) (hy : a.eval y = .agg (blk f)) (f0 : Nat → Int) (hg : w.heap[g]? = some (.cells (blk f0) 79))
    (h : wpList Tryz.prog ops Q rest (a.put o.dst undef) (w.setRow g (blk f))) : wpList Tryz.prog ops Q (o :: rest) a w :=
  wpList_plain hgd fun _ hK => by
    unfold Oper.wp execOp
    simp only [ho, hx, hy, Instr.storeAt, Instr.sureAddr, Sem.run_bind, Sem.run_pure, Result.andThen_ok, run_storeVar_row w g 79 79 (blk f0) (blk f) hg (by rw [blk_size]; exact size25) (by rw [blk_size, blk_size]) (blk_one f)]
    exact hK _ _ h

/-- A result that is a whole block in a cell. -/
theorem ret25 {fn : Func} {p : Tmp} {R : Ending → World → Prop} {a : Act} {w : World} (h : fn.results = #[.cell p 79]) (g : Nat) (f : Nat → Int)
    (hp : a.tmps.getD p undef = .pointer (some ⟨g, 0, none⟩)) (hg : w.heap[g]? = some (.cells (blk f) 79)) (hd : a.defers = []) (hR : R (.returned (.agg (blk f))) w) : bodyPost Tryz.prog fn R .ret a w :=
  bodyPost_ret (results_cell_row h a.tmps w g 79 (blk f) (0, 0) _ hp hg Tryz.underlying79 rfl (by rw [blk_size]; exact size25)) hd hR
theorem below_setRow {B : Nat} {a w : World} (h : Below B a w) {g : Nat} (hg : B ≤ g) (cs : Array Value) : Below B a (w.setRow g cs) :=
  h.trans ⟨rfl, rfl, rfl, by simp, fun k hk => setRow_other w g k cs (by omega)⟩
theorem below2 (w : World) (a b : Obj) (g : Nat) (hg : w.heap.size ≤ g) (cs : Array Value) : Below w.heap.size w (((w.alloc a).alloc b).setRow g cs) :=
  below_setRow (((Below.refl _ _).alloc (Nat.le_refl _) _).alloc (by simp) _) hg _
end Go.Proofs.YtlcdpmjdnihocaaGreatH
/- Two blocks held against each other: equal just where every byte is; for every two blocks. -/
namespace Go.Proofs.YtlcdpmjdnihocaaGreatH
open Go.RowKit

def sameB (f g : Nat → Int) : Bool := (List.range 1024).all fun i => f i == g i
theorem sameB_iff (f g : Nat → Int) : sameB f g = true ↔ ∀ i, i < 1024 → f i = g i := by
  simp [sameB, List.all_eq_true, List.mem_range]
theorem sameB_self (f : Nat → Int) : sameB f f = true := (sameB_iff f f).2 fun _ _ => rfl

theorem part5 (f : Nat → Int) (i : Nat) (hi : i < 1024) (w : World) : (part 5 (blk f) (i * 1)).run Tryz.prog w = .ok (.int .u8 (f i)) w := by
  have hb := blk_get f i hi
  simp [part, Tryz.isAgg5, hb]
theorem each25 (d : Nat) (f g : Nat → Int) (w : World) : ∀ l : List Nat, (∀ i, i ∈ l → i < 1024) →
    (forIn (m := Sem) l ((none : Option Bool), ()) fun i _ => do
            let x ← part 5 (blk f) (i * 1)
            let y ← part 5 (blk g) (i * 1)
            let b ← Op.equalIn (d + 1) 5 x y
            if (!b) = true then pure (ForInStep.done (some false, ())) else pure (ForInStep.yield (none, ()))).run Tryz.prog w
      = .ok ((if l.all (fun i => f i == g i) then none else some false), ()) w
  | [], _ => by simp
  | i :: l, h => by
    have h1 := part5 f i (h i (by simp)) w
    have h2 := part5 g i (h i (by simp)) w
    have ih := each25 d f g w l fun j hj => h j (by simp [hj])
    have he := run_equalIn_int (P := Tryz.prog) w d 5 .u8 .u8 (f i) (g i) Tryz.underlying5
    simp only [List.forIn_cons, Sem.run_bind, h1, h2, he, Result.andThen_ok, List.all_cons]
    by_cases e : f i = g i
    · simp only [e, beq_self_eq_true, Bool.not_true, Bool.false_eq_true, if_false, Sem.run_pure, Result.andThen_ok, Bool.true_and]
      exact ih
    · have e' : (f i == g i) = false := by simp [e]
      simp [e']
theorem eq25 (f g : Nat → Int) (w : World) : (Op.equalIn 10000 79 (.agg (blk f)) (.agg (blk g))).run Tryz.prog w = .ok (sameB f g) w := by
  have key := each25 9998 f g w (List.range' 0 [:1024].size) (fun i hi => by simpa [Std.Legacy.Range.size] using hi)
  show (Op.equalIn (9998 + 1 + 1) 79 (.agg (blk f)) (.agg (blk g))).run Tryz.prog w = _
  rw [Op.equalIn]
  simp only [Sem.run_bind, run_underlying Tryz.underlying79, Result.andThen_ok]
  rw [show (sizeOf 5).run Tryz.prog w = .ok 1 w by simp [go_sem]]
  simp only [Result.andThen_ok, Std.Legacy.Range.forIn_eq_forIn_range']
  refine (congrArg (fun r => Result.andThen r _) key).trans ?_
  have hr : List.range' 0 [:1024].size = List.range 1024 := by simp [Std.Legacy.Range.size, List.range_eq_range']
  rw [hr]
  show Result.andThen (Result.ok ((if sameB f g = true then none else some false), ()) w) _ = _
  cases sameB f g <;> simp
end Go.Proofs.YtlcdpmjdnihocaaGreatH
/- Regions whose order is drawn and whose calls make memory but turn none that was there: one walk in the text's order serves every order. -/
namespace Go.Proofs.YtlcdpmjdnihocaaGreatH
open Go.RowKit

/-- A world that has all that W has, and perhaps more behind it. -/
structure Later (W : World) where
  val : World
  below : Below W.heap.size W val

theorem later_some (W : World) : Nonempty (Later W) := ⟨⟨W, Below.refl _ _⟩⟩
theorem Later.cell {W : World} (x : Later W) (p : Addr) (h : p.block < W.heap.size) : x.val.cell? p = W.cell? p := x.below.cell h
theorem Later.heap {W : World} (x : Later W) (g : Nat) (h : g < W.heap.size) : x.val.heap[g]? = W.heap[g]? := x.below.block g h

theorem wp_region_later {id : Nat} {Q : Exit → Act → World → Prop} {a : Act} {w : World} {l : List Oper} (hm : Tryz.prog.follows .mixedOrders = true) (hB : Region.lexB .any l.toArray = true)
    (W : World) (hW : Below W.heap.size W w)
    (h : wpQuiet Tryz.prog l.toArray (fun w' => ∃ x : Later W, w' = x.val) (fun a' => ∀ w', (∃ x : Later W, w' = x.val) → Q .normal a' w') l a) : (Code.region id l.toArray true).wp Tryz.prog Q a w :=
  wp_region_quiet (C := fun w' => ∃ x : Later W, w' = x.val) hm hB ⟨⟨_, hW.drew⟩, rfl⟩ (by simpa using h)

theorem Later.call {W : World} (x : Later W) {f : FuncId} {args : Array Value} {v : Value}
    (h : Calls Tryz.prog f args x.val fun e w' => e = .returned v ∧ Below x.val.heap.size x.val w') : Calls Tryz.prog f args x.val fun e w'' => e = .returned v ∧ ∃ y : Later W, w'' = y.val :=
  h.mono fun _ w' ⟨he, hb⟩ => ⟨he, ⟨w', x.below.trans (hb.mono x.below.size)⟩, rfl⟩

theorem quiet_load25 {W : World} {o : Oper} {a : Act} {K : Act → Prop} (x : Operand) (ho : o.op = .load 79 x) (g : Nat) (hx : a.eval x = .pointer (some ⟨g, 0, none⟩)) (f : Nat → Int)
    (hg : W.heap[g]? = some (.cells (blk f) 79)) (hk : K (a.put o.dst (.agg (blk f)))) : o.quiet Tryz.prog a (fun w' => ∃ x : Later W, w' = x.val) K := by
  refine ⟨.agg (blk f), ?_, hk⟩
  rintro _ ⟨y, rfl⟩
  have hlt : g < W.heap.size := (Array.getElem?_eq_some_iff.1 hg).1
  have hh := (y.heap g hlt).trans hg
  unfold Oper.quietAt execOp
  simp only [ho, hx, Instr.loadAt, Instr.sureAddr, Sem.run_bind, Sem.run_pure, Result.andThen_ok, run_loadVar_row y.val g 79 79 (blk f) (0, 0) _ hh Tryz.underlying79 rfl (by rw [blk_size]; exact size25)]
  exact ⟨rfl, rfl⟩

theorem wpList_store25_new {ops : Array Oper} {rest : List Oper} {o : Oper} {a : Act} {w : World} {Q : Exit → Act → World → Prop} (hgd : o.guard = none) (x y : Operand) (ho : o.op = .store 79 x y)
    (f f0 : Nat → Int) (hx : a.eval x = .pointer (some ⟨w.heap.size, 0, none⟩)) (hy : a.eval y = .agg (blk f))
    (h : wpList Tryz.prog ops Q rest (a.put o.dst undef) (w.alloc (.cells (blk f) 79))) : wpList Tryz.prog ops Q (o :: rest) a (w.alloc (.cells (blk f0) 79)) :=
  wpList_store25 hgd x y ho w.heap.size f hx hy f0 (heap_alloc_new _ _) (by rw [World.setRow_alloc_new]; exact h)
end Go.Proofs.YtlcdpmjdnihocaaGreatH
/- Regions whose order is drawn, walked in one order that is told: what only reads may come at any time, what acts comes where nothing else may; S holds all along. -/
namespace Go.Proofs.YtlcdpmjdnihocaaGreatH
open Go.RowKit

section
variable {P : Program} {ops : Array Oper} {Q : Exit → Act → World → Prop} {S : World → Prop}

/-- May the operations be taken in this order? true: it is taken first; false: nothing else may come up. -/
def ordB (ops : Array Oper) : List (Nat × Bool) → Array Bool → Bool
  | [], listed => (Region.ready .any ops listed).isEmpty
  | (i, true) :: r, listed => (Region.ready .any ops listed).contains i && Region.free .any ops listed i && (ops[i]?).isSome && ordB ops r (listed.setIfInBounds i true)
  | (i, false) :: r, listed => (Region.ready .any ops listed == [i]) && (ops[i]?).isSome && ordB ops r (listed.setIfInBounds i true)

/-- The operations themselves, in that order. -/
def inOrd (ol : List Oper) : List (Nat × Bool) → List (Bool × Oper)
  | [] => []
  | (i, b) :: r => match ol[i]? with
    | some o => (b, o) :: inOrd ol r
    | none => inOrd ol r

def wpOrd (P : Program) (ops : Array Oper) (Q : Exit → Act → World → Prop) (S : World → Prop) : List (Bool × Oper) → Act → World → Prop
  | [], a, w => Q .normal a w
  | (true, o) :: r, a, w => ∃ v, YieldsIf P ops S o v a ∧ wpOrd P ops Q S r (a.put o.dst v) w
  | (false, o) :: r, a, w => if Region.wanted o (yielded ops a.tmps) then o.wp P a w (fun a' w' => S w' ∧ wpOrd P ops Q S r a' w') Q else S w ∧ wpOrd P ops Q S r (a.put o.dst undef) w

theorem wpOrd_any {ol : List Oper} (hs : Region.noSelect ol.toArray = true) (hQ : ∀ d v c a w, Q (.panic c) (a.put d v) w → Q (.panic c) a w) : ∀ (l : List (Nat × Bool)) (listed : Array Bool) (a : Act) (w : World), S w →
    ordB ol.toArray l listed = true → wpOrd P ol.toArray Q S (inOrd ol l) a w → wpAnyH P .any ol.toArray Q S l.length listed a w
  | [], listed, a, w, _, hB, h => wpAnyH_done (by simpa [ordB] using hB) h _
  | (i, true) :: r, listed, a, w, hS, hB, h => by
    simp only [ordB, Bool.and_eq_true] at hB
    obtain ⟨⟨⟨h1, h2⟩, h3⟩, h4⟩ := hB
    obtain ⟨o, hi⟩ := Option.isSome_iff_exists.1 h3
    have hi' : ol[i]? = some o := by simpa using hi
    simp only [inOrd, hi', wpOrd] at h
    obtain ⟨v, hy, hr⟩ := h
    exact wpAnyH_take hi hs h2 h1 (fun c a w => hQ _ _ c a w) hy hS (wpOrd_any hs hQ r _ _ w hS h4 hr)
  | (i, false) :: r, listed, a, w, hS, hB, h => by
    simp only [ordB, Bool.and_eq_true, beq_iff_eq] at hB
    obtain ⟨⟨h1, h3⟩, h2⟩ := hB
    obtain ⟨o, hi⟩ := Option.isSome_iff_exists.1 h3
    have hi' : ol[i]? = some o := by simpa using hi
    simp only [inOrd, hi', wpOrd] at h
    refine wpAnyH_all h1 (by simp) fun j hj => ?_
    obtain rfl : j = i := by simpa using hj
    unfold wpOp
    rw [hi]
    simp only
    split
    · rename_i hw
      rw [if_pos hw] at h
      exact .inl (Oper.wp_mono (fun a' w' h' => ⟨h'.1, wpOrd_any hs hQ r _ a' w' h'.1 h2 h'.2⟩) h)
    · rename_i hw
      rw [if_neg hw] at h
      exact ⟨h.1, wpOrd_any hs hQ r _ _ w h.1 h2 h.2⟩

/-- A region that draws its order, walked in the order l. -/
theorem wp_region_ord {id : Nat} {a : Act} {w : World} {ol : List Oper} (l : List (Nat × Bool)) (hm : P.follows .mixedOrders = true) (hl : l.length = ol.length)
    (hB : (Region.noSelect ol.toArray && ordB ol.toArray l (Array.replicate ol.toArray.size false)) = true) (hQ : ∀ d v c a w, Q (.panic c) (a.put d v) w → Q (.panic c) a w)
    (hS : S w.drew) (h : wpOrd P ol.toArray Q S (inOrd ol l) a w.drew) : (Code.region id ol.toArray true).wp P Q a w := by
  simp only [Bool.and_eq_true] at hB
  have h1 := wpOrd_any hB.1 hQ l _ a w.drew hS hB.2 h
  rw [hl] at h1
  exact wp_region_held hm (by simpa using h1)

theorem wpOrd_nil {a : Act} {w : World} (h : Q .normal a w) : wpOrd P ops Q S [] a w := h
theorem wpOrd_skip {r : List (Bool × Oper)} {b : Bool} {a : Act} {w : World} {o : Oper} (hS : S w) (hw : Region.wanted o (yielded ops a.tmps) = false) (h : wpOrd P ops Q S r (a.put o.dst undef) w) :
    wpOrd P ops Q S ((b, o) :: r) a w := by
  cases b
  · simp only [wpOrd, hw, Bool.false_eq_true, if_false]
    exact ⟨hS, h⟩
  · exact ⟨undef, .inr ⟨hw, rfl⟩, h⟩
theorem wpOrd_yield {r : List (Bool × Oper)} {a : Act} {w : World} {o : Oper} {v : Value} (hw : Region.wanted o (yielded ops a.tmps) = true)
    (hr : ∀ u, S u → (execOp a.eval o).run P u = .ok (.value v) u) (h : wpOrd P ops Q S r (a.put o.dst v) w) : wpOrd P ops Q S ((true, o) :: r) a w :=
  ⟨v, .inl ⟨hw, hr⟩, h⟩
theorem wpOrd_move {r : List (Bool × Oper)} {a : Act} {w : World} {o : Oper} (hw : Region.wanted o (yielded ops a.tmps) = true) (x : Operand) (ho : o.op = .move x)
    (h : wpOrd P ops Q S r (a.put o.dst (a.eval x)) w) : wpOrd P ops Q S ((true, o) :: r) a w :=
  wpOrd_yield hw (fun u _ => by simp [execOp, ho]) h
theorem wpOrd_call {r : List (Bool × Oper)} {a : Act} {w : World} {o : Oper} (hw : Region.wanted o (yielded ops a.tmps) = true) (f : FuncId) (xs : List Operand) (ts : Array TypeId)
    (ho : o.op = .call { callee := .value (.func f), args := xs.toArray, argTypes := ts }) (hc : ∀ args u, (callFunc f args).run P u = .ok (.enter f args) u) (args : List Value) (hx : xs.map a.eval = args)
    (h : Calls P f args.toArray w fun e w' => ∃ v, e = .returned v ∧ S w' ∧ wpOrd P ops Q S r (a.put o.dst v) w') : wpOrd P ops Q S ((false, o) :: r) a w := by
  simp only [wpOrd, hw, if_true]
  unfold Oper.wp execOp
  have e : (do let d ← resolve a.eval { callee := .value (.func f), args := xs.toArray, argTypes := ts } o.type; invoke d.target d.args : Sem Next).run P w = .ok (.enter f args.toArray) w := by
    have hx' : xs.toArray.map a.eval = args.toArray := by rw [← hx]; simp
    simp only [resolve, hx']
    simp [Act.eval, Deferred.ofValue, invoke, hc]
  simp only [ho]
  rw [e]
  unfold Oper.upon
  exact h.mono fun e w' ⟨v, he, h1, h2⟩ => by subst he; exact ⟨h1, h2⟩
end
end Go.Proofs.YtlcdpmjdnihocaaGreatH
/- Regions whose order is drawn, where two operations may come up in either order: both orders are walked. -/
namespace Go.Proofs.YtlcdpmjdnihocaaGreatH
open Go.RowKit

section
variable {P : Program} {ops : Array Oper} {Q : Exit → Act → World → Prop} {S : World → Prop}

/-- First the operations of a list that only read, then i and j in either order, then l. -/
def forkB (ops : Array Oper) (i j : Nat) (l : List (Nat × Bool)) : List Nat → Array Bool → Bool
  | [], listed => (Region.ready .any ops listed == [i, j]) && (ops[i]?).isSome && (ops[j]?).isSome && ordB ops ((j, false) :: l) (listed.setIfInBounds i true) && ordB ops ((i, false) :: l) (listed.setIfInBounds j true)
  | k :: r, listed => (Region.ready .any ops listed).contains k && Region.free .any ops listed k && (ops[k]?).isSome && forkB ops i j l r (listed.setIfInBounds k true)

/-- One operation that acts, and what follows. -/
def wpAct (P : Program) (ops : Array Oper) (Q : Exit → Act → World → Prop) (S : World → Prop) (o : Oper) (K : Act → World → Prop) (a : Act) (w : World) : Prop :=
  if Region.wanted o (yielded ops a.tmps) then o.wp P a w (fun a' w' => S w' ∧ K a' w') Q else S w ∧ K (a.put o.dst undef) w

theorem wpOp_act {i : Nat} {o : Oper} (hi : ops[i]? = some o) {K K' : Act → World → Prop} (hK : ∀ a w, S w → K a w → K' a w) {a : Act} {w : World} (h : wpAct P ops Q S o K a w) : wpOp P ops Q i (fun a' w' => S w' ∧ K' a' w') a w := by
  unfold wpOp
  rw [hi]
  simp only
  unfold wpAct at h
  split
  · rename_i hw
    rw [if_pos hw] at h
    exact .inl (Oper.wp_mono (fun a' w' h' => ⟨h'.1, hK a' w' h'.1 h'.2⟩) h)
  · rename_i hw
    rw [if_neg hw] at h
    exact ⟨h.1, hK _ w h.1 h.2⟩

def wpFork (P : Program) (ops : Array Oper) (Q : Exit → Act → World → Prop) (S : World → Prop) (ol : List Oper) (i j : Nat) (l : List (Nat × Bool)) : List Nat → Act → World → Prop
  | [], a, w => (∀ o, ol[i]? = some o → wpAct P ops Q S o (wpOrd P ops Q S (inOrd ol ((j, false) :: l))) a w) ∧ (∀ o, ol[j]? = some o → wpAct P ops Q S o (wpOrd P ops Q S (inOrd ol ((i, false) :: l))) a w)
  | k :: r, a, w => ∀ o, ol[k]? = some o → ∃ v, YieldsIf P ops S o v a ∧ wpFork P ops Q S ol i j l r (a.put o.dst v) w

theorem wpFork_any {ol : List Oper} (hs : Region.noSelect ol.toArray = true) (hQ : ∀ d v c a w, Q (.panic c) (a.put d v) w → Q (.panic c) a w) (i j : Nat) (l : List (Nat × Bool)) : ∀ (r : List Nat) (listed : Array Bool) (a : Act) (w : World), S w →
    forkB ol.toArray i j l r listed = true → wpFork P ol.toArray Q S ol i j l r a w → wpAnyH P .any ol.toArray Q S (r.length + (l.length + 2)) listed a w
  | [], listed, a, w, hS, hB, h => by
    simp only [forkB, Bool.and_eq_true, beq_iff_eq] at hB
    obtain ⟨⟨⟨⟨h1, h2⟩, h3⟩, h4⟩, h5⟩ := hB
    obtain ⟨oi, hoi⟩ := Option.isSome_iff_exists.1 h2
    obtain ⟨oj, hoj⟩ := Option.isSome_iff_exists.1 h3
    have hoi' : ol[i]? = some oi := by simpa using hoi
    have hoj' : ol[j]? = some oj := by simpa using hoj
    rw [show ([] : List Nat).length + (l.length + 2) = (l.length + 1) + 1 by simp]
    refine wpAnyH_all h1 (by simp) fun k hk => ?_
    simp only [List.mem_cons, List.not_mem_nil, or_false] at hk
    rcases hk with rfl | rfl
    · exact wpOp_act hoi (fun a' w' hS' hK => wpOrd_any hs hQ ((j, false) :: l) _ a' w' hS' h4 hK) (h.1 oi hoi')
    · exact wpOp_act hoj (fun a' w' hS' hK => wpOrd_any hs hQ ((i, false) :: l) _ a' w' hS' h5 hK) (h.2 oj hoj')
  | k :: r, listed, a, w, hS, hB, h => by
    simp only [forkB, Bool.and_eq_true] at hB
    obtain ⟨⟨⟨h1, h2⟩, h3⟩, h4⟩ := hB
    obtain ⟨o, hi⟩ := Option.isSome_iff_exists.1 h3
    have hi' : ol[k]? = some o := by simpa using hi
    obtain ⟨v, hy, hr⟩ := h o hi'
    rw [show (k :: r).length + (l.length + 2) = r.length + (l.length + 2) + 1 by simp; omega]
    exact wpAnyH_take hi hs h2 h1 (fun c a w => hQ _ _ c a w) hy hS (wpFork_any hs hQ i j l r _ _ w hS h4 hr)

/-- A region that draws its order, walked so. -/
theorem wp_region_fork {id : Nat} {a : Act} {w : World} {ol : List Oper} (r : List Nat) (i j : Nat) (l : List (Nat × Bool)) (hm : P.follows .mixedOrders = true) (hl : r.length + (l.length + 2) = ol.length)
    (hB : (Region.noSelect ol.toArray && forkB ol.toArray i j l r (Array.replicate ol.toArray.size false)) = true) (hQ : ∀ d v c a w, Q (.panic c) (a.put d v) w → Q (.panic c) a w)
    (hS : S w.drew) (h : wpFork P ol.toArray Q S ol i j l r a w.drew) : (Code.region id ol.toArray true).wp P Q a w := by
  simp only [Bool.and_eq_true] at hB
  have h1 := wpFork_any hB.1 hQ i j l r _ a w.drew hS hB.2 h
  rw [hl] at h1
  exact wp_region_held hm (by simpa using h1)

theorem wpFork_yield {ol : List Oper} {i j : Nat} {l : List (Nat × Bool)} {k : Nat} {r : List Nat} {a : Act} {w : World} {o : Oper} {v : Value} (ho : ol[k]? = some o) (hw : Region.wanted o (yielded ops a.tmps) = true)
    (hr : ∀ u, S u → (execOp a.eval o).run P u = .ok (.value v) u) (h : wpFork P ops Q S ol i j l r (a.put o.dst v) w) : wpFork P ops Q S ol i j l (k :: r) a w := by
  intro o' ho'
  obtain rfl : o = o' := by rw [ho] at ho'; exact Option.some.inj ho'
  exact ⟨v, .inl ⟨hw, hr⟩, h⟩
theorem wpFork_nil {ol : List Oper} {i j : Nat} {l : List (Nat × Bool)} {a : Act} {w : World} {oi oj : Oper} (hi : ol[i]? = some oi) (hj : ol[j]? = some oj)
    (h1 : wpOrd P ops Q S (inOrd ol ((i, false) :: (j, false) :: l)) a w) (h2 : wpOrd P ops Q S (inOrd ol ((j, false) :: (i, false) :: l)) a w) : wpFork P ops Q S ol i j l [] a w := by
  refine ⟨fun o ho => ?_, fun o ho => ?_⟩
  · obtain rfl : oi = o := by rw [hi] at ho; exact Option.some.inj ho
    simp only [inOrd, hi, hj, wpOrd] at h1 ⊢
    exact h1
  · obtain rfl : oj = o := by rw [hj] at ho; exact Option.some.inj ho
    simp only [inOrd, hi, hj, wpOrd] at h2 ⊢
    exact h2
end
end Go.Proofs.YtlcdpmjdnihocaaGreatH
/- Regions whose order is drawn, walked step by step: what only reads may come at any time, what acts comes where nothing else may, two that act come in either order; S holds all along. -/
namespace Go.Proofs.YtlcdpmjdnihocaaGreatH
open Go.RowKit

/-- A step: what only reads (.inl i), what acts alone (.inr (.inl i)), two that act in either order (.inr (.inr (i, j))). -/
abbrev Stp : Type := Nat ⊕ (Nat ⊕ (Nat × Nat))
abbrev StO : Type := Oper ⊕ (Oper ⊕ (Oper × Oper))
def Stp.many : Stp → Nat
  | .inl _ => 1
  | .inr (.inl _) => 1
  | .inr (.inr _) => 2
def manyOf : List Stp → Nat
  | [] => 0
  | s :: r => Stp.many s + manyOf r
section
variable {P : Program} {ops : Array Oper} {Q : Exit → Act → World → Prop} {S : World → Prop}
def stB (ops : Array Oper) : List Stp → Array Bool → Bool
  | [], listed => (Region.ready .any ops listed).isEmpty
  | .inl i :: r, listed => (Region.ready .any ops listed).contains i && Region.free .any ops listed i && (ops[i]?).isSome && stB ops r (listed.setIfInBounds i true)
  | .inr (.inl i) :: r, listed => (Region.ready .any ops listed == [i]) && (ops[i]?).isSome && stB ops r (listed.setIfInBounds i true)
  | .inr (.inr (i, j)) :: r, listed => (Region.ready .any ops listed == [i, j]) && (ops[i]?).isSome && (ops[j]?).isSome && (Region.ready .any ops (listed.setIfInBounds i true) == [j]) && (Region.ready .any ops (listed.setIfInBounds j true) == [i]) &&
      stB ops r ((listed.setIfInBounds i true).setIfInBounds j true) && stB ops r ((listed.setIfInBounds j true).setIfInBounds i true)
def inSt (ol : List Oper) : List Stp → List StO
  | [] => []
  | .inl i :: r => match ol[i]? with
    | some o => .inl o :: inSt ol r
    | none => inSt ol r
  | .inr (.inl i) :: r => match ol[i]? with
    | some o => .inr (.inl o) :: inSt ol r
    | none => inSt ol r
  | .inr (.inr (i, j)) :: r => match ol[i]?, ol[j]? with
    | some x, some y => .inr (.inr (x, y)) :: inSt ol r
    | _, _ => inSt ol r
def wpSt (P : Program) (ops : Array Oper) (Q : Exit → Act → World → Prop) (S : World → Prop) : List StO → Act → World → Prop
  | [], a, w => Q .normal a w
  | .inl o :: r, a, w => ∃ v, YieldsIf P ops S o v a ∧ wpSt P ops Q S r (a.put o.dst v) w
  | .inr (.inl o) :: r, a, w => wpAct P ops Q S o (wpSt P ops Q S r) a w
  | .inr (.inr (x, y)) :: r, a, w => wpAct P ops Q S x (wpAct P ops Q S y (wpSt P ops Q S r)) a w ∧ wpAct P ops Q S y (wpAct P ops Q S x (wpSt P ops Q S r)) a w
theorem wpSt_any {ol : List Oper} (hs : Region.noSelect ol.toArray = true) (hQ : ∀ d v c a w, Q (.panic c) (a.put d v) w → Q (.panic c) a w) : ∀ (l : List Stp) (listed : Array Bool) (a : Act) (w : World), S w →
    stB ol.toArray l listed = true → wpSt P ol.toArray Q S (inSt ol l) a w → wpAnyH P .any ol.toArray Q S (manyOf l) listed a w
  | [], listed, a, w, _, hB, h => wpAnyH_done (by simpa [stB] using hB) h _
  | .inl i :: r, listed, a, w, hS, hB, h => by
    simp only [stB, Bool.and_eq_true] at hB
    obtain ⟨⟨⟨h1, h2⟩, h3⟩, h4⟩ := hB
    obtain ⟨o, hi⟩ := Option.isSome_iff_exists.1 h3
    have hi' : ol[i]? = some o := by simpa using hi
    simp only [inSt, hi', wpSt] at h
    obtain ⟨v, hy, hr⟩ := h
    rw [show manyOf (.inl i :: r) = manyOf r + 1 by simp [manyOf, Stp.many]; omega]
    exact wpAnyH_take hi hs h2 h1 (fun c a w => hQ _ _ c a w) hy hS (wpSt_any hs hQ r _ _ w hS h4 hr)
  | .inr (.inl i) :: r, listed, a, w, hS, hB, h => by
    simp only [stB, Bool.and_eq_true, beq_iff_eq] at hB
    obtain ⟨⟨h1, h3⟩, h2⟩ := hB
    obtain ⟨o, hi⟩ := Option.isSome_iff_exists.1 h3
    have hi' : ol[i]? = some o := by simpa using hi
    simp only [inSt, hi', wpSt] at h
    rw [show manyOf (.inr (.inl i) :: r) = manyOf r + 1 by simp [manyOf, Stp.many]; omega]
    refine wpAnyH_all h1 (by simp) fun j hj => ?_
    obtain rfl : j = i := by simpa using hj
    exact wpOp_act hi (fun a' w' hS' hK => wpSt_any hs hQ r _ a' w' hS' h2 hK) h
  | .inr (.inr (i, j)) :: r, listed, a, w, hS, hB, h => by
    simp only [stB, Bool.and_eq_true, beq_iff_eq] at hB
    obtain ⟨⟨⟨⟨⟨⟨h1, h2⟩, h3⟩, h4⟩, h5⟩, h6⟩, h7⟩ := hB
    obtain ⟨x, hx⟩ := Option.isSome_iff_exists.1 h2
    obtain ⟨y, hy⟩ := Option.isSome_iff_exists.1 h3
    have hx' : ol[i]? = some x := by simpa using hx
    have hy' : ol[j]? = some y := by simpa using hy
    simp only [inSt, hx', hy', wpSt] at h
    rw [show manyOf (.inr (.inr (i, j)) :: r) = (manyOf r + 1) + 1 by simp [manyOf, Stp.many]; omega]
    refine wpAnyH_all h1 (by simp) fun k hk => ?_
    simp only [List.mem_cons, List.not_mem_nil, or_false] at hk
    rcases hk with rfl | rfl
    · refine wpOp_act hx (fun a' w' hS' hK => ?_) h.1
      refine wpAnyH_all h4 (by simp) fun k hk => ?_
      obtain rfl : k = j := by simpa using hk
      exact wpOp_act hy (fun a' w' hS' hK => wpSt_any hs hQ r _ a' w' hS' h6 hK) hK
    · refine wpOp_act hy (fun a' w' hS' hK => ?_) h.2
      refine wpAnyH_all h5 (by simp) fun k hk => ?_
      obtain rfl : k = i := by simpa using hk
      exact wpOp_act hx (fun a' w' hS' hK => wpSt_any hs hQ r _ a' w' hS' h7 hK) hK
/-- A region that draws its order, walked by these steps. -/
theorem wp_region_steps {id : Nat} {a : Act} {w : World} {ol : List Oper} (l : List Stp) (hm : P.follows .mixedOrders = true) (hl : manyOf l = ol.length)
    (hB : (Region.noSelect ol.toArray && stB ol.toArray l (Array.replicate ol.toArray.size false)) = true) (hQ : ∀ d v c a w, Q (.panic c) (a.put d v) w → Q (.panic c) a w)
    (hS : S w.drew) (h : wpSt P ol.toArray Q S (inSt ol l) a w.drew) : (Code.region id ol.toArray true).wp P Q a w := by
  simp only [Bool.and_eq_true] at hB
  have h1 := wpSt_any hB.1 hQ l _ a w.drew hS hB.2 h
  rw [hl] at h1
  exact wp_region_held hm (by simpa using h1)
variable {r : List StO} {a : Act} {w : World} {o x y : Oper} {K : Act → World → Prop}
theorem wpSt_nil (h : Q .normal a w) : wpSt P ops Q S [] a w := h
theorem wpSt_yield {v : Value} (hw : Region.wanted o (yielded ops a.tmps) = true) (hr : ∀ u, S u → (execOp a.eval o).run P u = .ok (.value v) u) (h : wpSt P ops Q S r (a.put o.dst v) w) : wpSt P ops Q S (.inl o :: r) a w :=
  ⟨v, .inl ⟨hw, hr⟩, h⟩
theorem wpSt_move (hw : Region.wanted o (yielded ops a.tmps) = true) (x : Operand) (ho : o.op = .move x) (h : wpSt P ops Q S r (a.put o.dst (a.eval x)) w) : wpSt P ops Q S (.inl o :: r) a w :=
  wpSt_yield hw (fun u _ => by simp [execOp, ho]) h
theorem wpSt_skip (hw : Region.wanted o (yielded ops a.tmps) = false) (h : wpSt P ops Q S r (a.put o.dst undef) w) : wpSt P ops Q S (.inl o :: r) a w := ⟨undef, .inr ⟨hw, rfl⟩, h⟩
theorem wpSt_act (h : wpAct P ops Q S o (wpSt P ops Q S r) a w) : wpSt P ops Q S (.inr (.inl o) :: r) a w := h
theorem wpSt_fork (h1 : wpAct P ops Q S x (wpAct P ops Q S y (wpSt P ops Q S r)) a w) (h2 : wpAct P ops Q S y (wpAct P ops Q S x (wpSt P ops Q S r)) a w) : wpSt P ops Q S (.inr (.inr (x, y)) :: r) a w := ⟨h1, h2⟩
theorem act_skip (hS : S w) (hw : Region.wanted o (yielded ops a.tmps) = false) (h : K (a.put o.dst undef) w) : wpAct P ops Q S o K a w := by
  unfold wpAct
  rw [hw]
  exact ⟨hS, h⟩
theorem act_makes {w' : World} {v : Value} (hw : Region.wanted o (yielded ops a.tmps) = true) (hr : (execOp a.eval o).run P w = .ok (.value v) w') (hS : S w') (h : K (a.put o.dst v) w') : wpAct P ops Q S o K a w := by
  unfold wpAct
  rw [if_pos hw]
  unfold Oper.wp
  rw [hr]
  exact ⟨hS, h⟩
theorem act_call (hw : Region.wanted o (yielded ops a.tmps) = true) (f : FuncId) (xs : List Operand) (ts : Array TypeId)
    (ho : o.op = .call { callee := .value (.func f), args := xs.toArray, argTypes := ts }) (hc : ∀ args u, (callFunc f args).run P u = .ok (.enter f args) u) (args : List Value) (hx : xs.map a.eval = args)
    (h : Calls P f args.toArray w fun e w' => ∃ v, e = .returned v ∧ S w' ∧ K (a.put o.dst v) w') : wpAct P ops Q S o K a w := by
  unfold wpAct
  rw [if_pos hw]
  unfold Oper.wp execOp
  have e : (do let d ← resolve a.eval { callee := .value (.func f), args := xs.toArray, argTypes := ts } o.type; invoke d.target d.args : Sem Next).run P w = .ok (.enter f args.toArray) w := by
    have hx' : xs.toArray.map a.eval = args.toArray := by rw [← hx]; simp
    simp only [resolve, hx']
    simp [Act.eval, Deferred.ofValue, invoke, hc]
  simp only [ho]
  rw [e]
  unfold Oper.upon
  exact h.mono fun e w' ⟨v, he, h1, h2⟩ => by subst he; exact ⟨h1, h2⟩
/-- Reads, then one of two that act, each with its own steps behind it. -/
def twoB (ops : Array Oper) (i j : Nat) (l1 l2 : List Stp) : List Nat → Array Bool → Bool
  | [], listed => (Region.ready .any ops listed == [i, j]) && (ops[i]?).isSome && (ops[j]?).isSome && stB ops l1 (listed.setIfInBounds i true) && stB ops l2 (listed.setIfInBounds j true)
  | k :: r, listed => (Region.ready .any ops listed).contains k && Region.free .any ops listed k && (ops[k]?).isSome && twoB ops i j l1 l2 r (listed.setIfInBounds k true)
def wpTwo (P : Program) (ops : Array Oper) (Q : Exit → Act → World → Prop) (S : World → Prop) (ol : List Oper) (i j : Nat) (l1 l2 : List Stp) : List Nat → Act → World → Prop
  | [], a, w => ∀ x y, ol[i]? = some x → ol[j]? = some y → wpAct P ops Q S x (wpSt P ops Q S (inSt ol l1)) a w ∧ wpAct P ops Q S y (wpSt P ops Q S (inSt ol l2)) a w
  | k :: r, a, w => ∀ o, ol[k]? = some o → ∃ v, YieldsIf P ops S o v a ∧ wpTwo P ops Q S ol i j l1 l2 r (a.put o.dst v) w
theorem wpTwo_any {ol : List Oper} (hs : Region.noSelect ol.toArray = true) (hQ : ∀ d v c a w, Q (.panic c) (a.put d v) w → Q (.panic c) a w) (i j : Nat) (l1 l2 : List Stp) (hl : manyOf l1 = manyOf l2) : ∀ (r : List Nat) (listed : Array Bool) (a : Act) (w : World), S w →
    twoB ol.toArray i j l1 l2 r listed = true → wpTwo P ol.toArray Q S ol i j l1 l2 r a w → wpAnyH P .any ol.toArray Q S (r.length + (manyOf l1 + 1)) listed a w
  | [], listed, a, w, hS, hB, h => by
    simp only [twoB, Bool.and_eq_true, beq_iff_eq] at hB
    obtain ⟨⟨⟨⟨h1, h2⟩, h3⟩, h4⟩, h5⟩ := hB
    obtain ⟨x, hx⟩ := Option.isSome_iff_exists.1 h2
    obtain ⟨y, hy⟩ := Option.isSome_iff_exists.1 h3
    obtain ⟨hA, hC⟩ := h x y (by simpa using hx) (by simpa using hy)
    rw [List.length_nil, Nat.zero_add]
    refine wpAnyH_all h1 (by simp) fun k hk => ?_
    simp only [List.mem_cons, List.not_mem_nil, or_false] at hk
    rcases hk with rfl | rfl
    · exact wpOp_act hx (fun a' w' hS' hK => wpSt_any hs hQ l1 _ a' w' hS' h4 hK) hA
    · rw [hl]
      exact wpOp_act hy (fun a' w' hS' hK => wpSt_any hs hQ l2 _ a' w' hS' h5 hK) hC
  | k :: r, listed, a, w, hS, hB, h => by
    simp only [twoB, Bool.and_eq_true] at hB
    obtain ⟨⟨⟨h1, h2⟩, h3⟩, h4⟩ := hB
    obtain ⟨o, hi⟩ := Option.isSome_iff_exists.1 h3
    obtain ⟨v, hy, hr⟩ := h o (by simpa using hi)
    rw [show (k :: r).length + (manyOf l1 + 1) = (r.length + (manyOf l1 + 1)) + 1 by simp; omega]
    exact wpAnyH_take hi hs h2 h1 (fun c a w => hQ _ _ c a w) hy hS (wpTwo_any hs hQ i j l1 l2 hl r _ _ w hS h4 hr)
theorem wp_region_two {id : Nat} {a : Act} {w : World} {ol : List Oper} (r : List Nat) (i j : Nat) (l1 l2 : List Stp) (hm : P.follows .mixedOrders = true) (hl : manyOf l1 = manyOf l2) (hn : r.length + (manyOf l1 + 1) = ol.length)
    (hB : (Region.noSelect ol.toArray && twoB ol.toArray i j l1 l2 r (Array.replicate ol.toArray.size false)) = true) (hQ : ∀ d v c a w, Q (.panic c) (a.put d v) w → Q (.panic c) a w)
    (hS : S w.drew) (h : wpTwo P ol.toArray Q S ol i j l1 l2 r a w.drew) : (Code.region id ol.toArray true).wp P Q a w := by
  simp only [Bool.and_eq_true] at hB
  have h1 := wpTwo_any hB.1 hQ i j l1 l2 hl r _ a w.drew hS hB.2 h
  rw [hn] at h1
  exact wp_region_held hm (by simpa using h1)
theorem wpTwo_yield {ol : List Oper} {i j : Nat} {l1 l2 : List Stp} {k : Nat} {r : List Nat} {v : Value} (ho : ol[k]? = some o) (hw : Region.wanted o (yielded ops a.tmps) = true) (hr : ∀ u, S u → (execOp a.eval o).run P u = .ok (.value v) u)
    (h : wpTwo P ops Q S ol i j l1 l2 r (a.put o.dst v) w) : wpTwo P ops Q S ol i j l1 l2 (k :: r) a w := fun o' ho' => by
  obtain rfl : o = o' := by rw [ho] at ho'; exact Option.some.inj ho'
  exact ⟨v, .inl ⟨hw, hr⟩, h⟩
theorem wpTwo_nil {ol : List Oper} {i j : Nat} {l1 l2 : List Stp} (hi : ol[i]? = some x) (hj : ol[j]? = some y) (h1 : wpAct P ops Q S x (wpSt P ops Q S (inSt ol l1)) a w) (h2 : wpAct P ops Q S y (wpSt P ops Q S (inSt ol l2)) a w) :
    wpTwo P ops Q S ol i j l1 l2 [] a w := fun x' y' hx hy => by
  obtain rfl : x = x' := by rw [hi] at hx; exact Option.some.inj hx
  obtain rfl : y = y' := by rw [hj] at hy; exact Option.some.inj hy
  exact ⟨h1, h2⟩
end
end Go.Proofs.YtlcdpmjdnihocaaGreatH
/- Regions whose order is drawn, walked by a plan: reads, what acts alone, and one of two that act, each with its own plan behind it; S holds all along. -/
namespace Go.Proofs.YtlcdpmjdnihocaaGreatH
open Go.RowKit
/-- A step of a plan: what only reads (.inl i), what acts alone (.inr (.inl i)), one of two that act (.inr (.inr (i, j, k))): the first one's plan is the next k steps, the other's is what is left behind them. -/
abbrev Ins : Type := Nat ⊕ (Nat ⊕ (Nat × Nat × Nat))
def plMany : Nat → List Ins → Nat
  | _, [] => 0
  | 0, _ :: _ => 0
  | f + 1, .inl _ :: r => plMany f r + 1
  | f + 1, .inr (.inl _) :: r => plMany f r + 1
  | f + 1, .inr (.inr (_, _, k)) :: r => plMany f (r.take k) + 1
section
variable {P : Program} {ops : Array Oper} {Q : Exit → Act → World → Prop} {S : World → Prop}
def plB (ops : Array Oper) : Nat → List Ins → Array Bool → Bool
  | _, [], listed => (Region.ready .any ops listed).isEmpty
  | 0, _ :: _, _ => false
  | f + 1, .inl i :: r, listed => (Region.ready .any ops listed).contains i && Region.free .any ops listed i && (ops[i]?).isSome && plB ops f r (listed.setIfInBounds i true)
  | f + 1, .inr (.inl i) :: r, listed => (Region.ready .any ops listed == [i]) && (ops[i]?).isSome && plB ops f r (listed.setIfInBounds i true)
  | f + 1, .inr (.inr (i, j, k)) :: r, listed => (Region.ready .any ops listed == [i, j]) && (ops[i]?).isSome && (ops[j]?).isSome && (plMany f (r.take k) == plMany f (r.drop k)) && plB ops f (r.take k) (listed.setIfInBounds i true) && plB ops f (r.drop k) (listed.setIfInBounds j true)
def wpPl (P : Program) (ops : Array Oper) (Q : Exit → Act → World → Prop) (S : World → Prop) (ol : List Oper) : Nat → List Ins → Act → World → Prop
  | _, [], a, w => Q .normal a w
  | 0, _ :: _, _, _ => False
  | f + 1, .inl i :: r, a, w => ∀ o, ol[i]? = some o → ∃ v, YieldsIf P ops S o v a ∧ wpPl P ops Q S ol f r (a.put o.dst v) w
  | f + 1, .inr (.inl i) :: r, a, w => ∀ o, ol[i]? = some o → wpAct P ops Q S o (wpPl P ops Q S ol f r) a w
  | f + 1, .inr (.inr (i, j, k)) :: r, a, w => ∀ x y, ol[i]? = some x → ol[j]? = some y → wpAct P ops Q S x (wpPl P ops Q S ol f (r.take k)) a w ∧ wpAct P ops Q S y (wpPl P ops Q S ol f (r.drop k)) a w
theorem wpPl_any {ol : List Oper} (hs : Region.noSelect ol.toArray = true) (hQ : ∀ d v c a w, Q (.panic c) (a.put d v) w → Q (.panic c) a w) : ∀ (f : Nat) (l : List Ins) (listed : Array Bool) (a : Act) (w : World), S w →
    plB ol.toArray f l listed = true → wpPl P ol.toArray Q S ol f l a w → wpAnyH P .any ol.toArray Q S (plMany f l) listed a w
  | f, [], listed, a, w, _, hB, h => by
    have hB' : (Region.ready .any ol.toArray listed).isEmpty = true := by cases f <;> exact hB
    have h' : Q .normal a w := by cases f <;> exact h
    exact wpAnyH_done (by simpa using hB') h' _
  | 0, _ :: _, _, _, _, _, hB, _ => by cases hB
  | f + 1, .inl i :: r, listed, a, w, hS, hB, h => by
    simp only [plB, Bool.and_eq_true] at hB
    obtain ⟨⟨⟨h1, h2⟩, h3⟩, h4⟩ := hB
    obtain ⟨o, hi⟩ := Option.isSome_iff_exists.1 h3
    obtain ⟨v, hy, hr⟩ := h o (by simpa using hi)
    exact wpAnyH_take hi hs h2 h1 (fun c a w => hQ _ _ c a w) hy hS (wpPl_any hs hQ f r _ _ w hS h4 hr)
  | f + 1, .inr (.inl i) :: r, listed, a, w, hS, hB, h => by
    simp only [plB, Bool.and_eq_true, beq_iff_eq] at hB
    obtain ⟨⟨h1, h3⟩, h2⟩ := hB
    obtain ⟨o, hi⟩ := Option.isSome_iff_exists.1 h3
    refine wpAnyH_all h1 (by simp) fun j hj => ?_
    obtain rfl : j = i := by simpa using hj
    exact wpOp_act hi (fun a' w' hS' hK => wpPl_any hs hQ f r _ a' w' hS' h2 hK) (h o (by simpa using hi))
  | f + 1, .inr (.inr (i, j, k)) :: r, listed, a, w, hS, hB, h => by
    simp only [plB, Bool.and_eq_true, beq_iff_eq] at hB
    obtain ⟨⟨⟨⟨⟨h1, h2⟩, h3⟩, hm⟩, h4⟩, h5⟩ := hB
    obtain ⟨x, hx⟩ := Option.isSome_iff_exists.1 h2
    obtain ⟨y, hy⟩ := Option.isSome_iff_exists.1 h3
    obtain ⟨hA, hC⟩ := h x y (by simpa using hx) (by simpa using hy)
    refine wpAnyH_all h1 (by simp) fun m hk => ?_
    simp only [List.mem_cons, List.not_mem_nil, or_false] at hk
    rcases hk with rfl | rfl
    · exact wpOp_act hx (fun a' w' hS' hK => wpPl_any hs hQ f (r.take k) _ a' w' hS' h4 hK) hA
    · show wpOp P ol.toArray Q m (fun a' w' => S w' ∧ wpAnyH P .any ol.toArray Q S (plMany f (r.take k)) _ a' w') a w
      rw [hm]
      exact wpOp_act hy (fun a' w' hS' hK => wpPl_any hs hQ f (r.drop k) _ a' w' hS' h5 hK) hC
theorem wp_region_plan {id : Nat} {a : Act} {w : World} {ol : List Oper} (f : Nat) (l : List Ins) (hm : P.follows .mixedOrders = true) (hl : plMany f l = ol.length)
    (hB : (Region.noSelect ol.toArray && plB ol.toArray f l (Array.replicate ol.toArray.size false)) = true) (hQ : ∀ d v c a w, Q (.panic c) (a.put d v) w → Q (.panic c) a w)
    (hS : S w.drew) (h : wpPl P ol.toArray Q S ol f l a w.drew) : (Code.region id ol.toArray true).wp P Q a w := by
  simp only [Bool.and_eq_true] at hB
  have h1 := wpPl_any hB.1 hQ f l _ a w.drew hS hB.2 h
  rw [hl] at h1
  exact wp_region_held hm (by simpa using h1)
variable {a : Act} {w : World} {o x y : Oper} {ol : List Oper} {i j k f : Nat} {r : List Ins}
theorem wpPl_done (h : Q .normal a w) : wpPl P ops Q S ol f [] a w := by cases f <;> exact h
theorem wpPl_yield {v : Value} (ho : ol[i]? = some o) (hw : Region.wanted o (yielded ops a.tmps) = true) (hr : ∀ u, S u → (execOp a.eval o).run P u = .ok (.value v) u) (h : wpPl P ops Q S ol f r (a.put o.dst v) w) : wpPl P ops Q S ol (f + 1) (.inl i :: r) a w := fun o' ho' => by
  obtain rfl : o = o' := by rw [ho] at ho'; exact Option.some.inj ho'
  exact ⟨v, .inl ⟨hw, hr⟩, h⟩
theorem wpPl_skip (ho : ol[i]? = some o) (hw : Region.wanted o (yielded ops a.tmps) = false) (h : wpPl P ops Q S ol f r (a.put o.dst undef) w) : wpPl P ops Q S ol (f + 1) (.inl i :: r) a w := fun o' ho' => by
  obtain rfl : o = o' := by rw [ho] at ho'; exact Option.some.inj ho'
  exact ⟨undef, .inr ⟨hw, rfl⟩, h⟩
theorem wpPl_act (ho : ol[i]? = some o) (h : wpAct P ops Q S o (wpPl P ops Q S ol f r) a w) : wpPl P ops Q S ol (f + 1) (.inr (.inl i) :: r) a w := fun o' ho' => by
  obtain rfl : o = o' := by rw [ho] at ho'; exact Option.some.inj ho'
  exact h
theorem wpPl_two {r1 r2 : List Ins} (hi : ol[i]? = some x) (hj : ol[j]? = some y) (h1 : wpAct P ops Q S x (wpPl P ops Q S ol f r1) a w) (h2 : wpAct P ops Q S y (wpPl P ops Q S ol f r2) a w) (e1 : r.take k = r1) (e2 : r.drop k = r2) : wpPl P ops Q S ol (f + 1) (.inr (.inr (i, j, k)) :: r) a w := fun x' y' hx hy => by
  obtain rfl : x = x' := by rw [hi] at hx; exact Option.some.inj hx
  obtain rfl : y = y' := by rw [hj] at hy; exact Option.some.inj hy
  subst e1 e2
  exact ⟨h1, h2⟩
end
end Go.Proofs.YtlcdpmjdnihocaaGreatH

/- Numbers of some bytes, the lowest first: read and laid, as plain functions; the bytes are 0 to 255. -/
namespace Go.Proofs.YtlcdpmjdnihocaaGreatH.H
open Go.RowKit

/-- The number of m bytes from place k on. -/
def numN (f : Nat → Int) (k : Nat) : Nat → Int
  | 0 => 0
  | m + 1 => f k + 256 * numN f (k + 1) m
/-- The number of n bytes from at on, if all are inside. -/
def num (f : Nat → Int) (at' : Int) (n : Nat) : Int := if 0 ≤ at' ∧ at' ≤ 1024 - (n : Int) then numN f at'.toNat n else 0
/-- f with m bytes of v laid from place k on. -/
def putN (f : Nat → Int) (k : Nat) (v : Int) : Nat → Nat → Int
  | 0 => f
  | m + 1 => putN (upd f k (v % 256)) (k + 1) (v / 256) m
def put (f : Nat → Int) (at' : Int) (n : Nat) (v : Int) : Nat → Int := if 0 ≤ at' ∧ at' ≤ 1024 - (n : Int) then putN f at'.toNat v n else f

theorem numN_bd (f : Nat → Int) (hf : ∀ i, 0 ≤ f i ∧ f i ≤ 255) : ∀ (m k : Nat), 0 ≤ numN f k m ∧ numN f k m < 256 ^ m
  | 0, _ => by simp [numN]
  | m + 1, k => by
    have h1 := numN_bd f hf m (k + 1)
    have h2 := hf k
    simp only [numN, Int.pow_succ]
    omega
theorem num2 (f : Nat → Int) (k : Nat) : numN f k 2 = f k + 256 * f (k + 1) := by simp [numN]
theorem num4 (f : Nat → Int) (k : Nat) : numN f k 4 = f k + 256 * f (k + 1) + 65536 * f (k + 2) + 16777216 * f (k + 3) := by
  simp only [numN, Nat.add_assoc, Nat.reduceAdd]; omega
theorem num_in (f : Nat → Int) (k n : Nat) (h : k + n ≤ 1024) : num f (k : Int) n = numN f k n := by
  unfold num; rw [if_pos (by omega), Int.toNat_natCast]
theorem num_out (f : Nat → Int) (a : Int) (n : Nat) (h : a < 0 ∨ 1024 - (n : Int) < a) : num f a n = 0 := by
  unfold num; rw [if_neg (by omega)]
theorem put_in (f : Nat → Int) (k n : Nat) (v : Int) (h : k + n ≤ 1024) : put f (k : Int) n v = putN f k v n := by
  unfold put; rw [if_pos (by omega), Int.toNat_natCast]
theorem put_out (f : Nat → Int) (a : Int) (n : Nat) (v : Int) (h : a < 0 ∨ 1024 - (n : Int) < a) : put f a n v = f := by
  unfold put; rw [if_neg (by omega)]
theorem put2 (f : Nat → Int) (k : Nat) (v : Int) (hv : 0 ≤ v ∧ v < 65536) : putN f k v 2 = upd (upd f k (v % 256)) (k + 1) (v / 256) := by
  simp only [putN]
  rw [show v / 256 % 256 = v / 256 by omega]
theorem put4 (f : Nat → Int) (k : Nat) (v : Int) (hv : 0 ≤ v ∧ v < 4294967296) : putN f k v 4 = upd (upd (upd (upd f k (v % 256)) (k + 1) (v / 256 % 256)) (k + 2) (v / 65536 % 256)) (k + 3) (v / 16777216) := by
  simp only [putN, Nat.add_assoc, Nat.reduceAdd]
  rw [show v / 256 / 256 % 256 = v / 65536 % 256 by omega, show v / 256 / 256 / 256 % 256 = v / 16777216 by omega]
theorem num_bd (f : Nat → Int) (hf : ∀ i, 0 ≤ f i ∧ f i ≤ 255) (a : Int) (n : Nat) : 0 ≤ num f a n ∧ num f a n < 256 ^ n := by
  unfold num
  split
  · exact numN_bd f hf _ _
  · exact ⟨Int.le_refl _, Int.pow_pos (by decide)⟩

theorem wrap_u8 (n : Int) : IntKind.u8.wrap n = n % 256 := by simp [IntKind.wrap, IntKind.bits, IntKind.signed]
theorem wrap_u16 (n : Int) : IntKind.u16.wrap n = n % 65536 := by simp [IntKind.wrap, IntKind.bits, IntKind.signed]
theorem wrap_u32 (n : Int) : IntKind.u32.wrap n = n % 4294967296 := by simp [IntKind.wrap, IntKind.bits, IntKind.signed]

theorem or_comm' (k : IntKind) (x y : Int) : bits .or k x y = bits .or k y x := by simp only [bits, BitVec.or_comm]
theorem or16 (a b : Int) (ha : 0 ≤ a ∧ a ≤ 255) (hb : 0 ≤ b ∧ b ≤ 255) : bits .or .u16 (IntKind.u16.wrap a) (IntKind.u16.wrap (IntKind.u16.wrap b * 256)) = a + 256 * b := by
  simp only [wrap_u16]
  have h1 : a % 65536 = a := by omega
  have h2 : b % 65536 * 256 % 65536 = 256 * b := by omega
  rw [h1, h2, or_comm', bits_join .u16 16 (by decide) (fun n h0 h1 => by rw [wrap_u16]; omega) 8 (256 * b) a (by omega) (by omega) (by omega) (by omega) (by omega) (by omega)]
  omega
theorem or32 (i : Nat) (x y : Int) (hx0 : 0 ≤ x) (hx : x % 2 ^ i = 0) (hx1 : x < 2 ^ 32) (hy0 : 0 ≤ y) (hy : y < 2 ^ i) (hy1 : y < 2 ^ 32) : bits .or .u32 y x = y + x := by
  rw [or_comm', bits_join .u32 32 (by decide) (fun n h0 h1 => by rw [wrap_u32]; omega) i x y hx0 hx hx1 hy0 hy hy1]
  omega
theorem or32all (a b c d : Int) (ha : 0 ≤ a ∧ a ≤ 255) (hb : 0 ≤ b ∧ b ≤ 255) (hc : 0 ≤ c ∧ c ≤ 255) (hd : 0 ≤ d ∧ d ≤ 255) :
    bits .or .u32 (bits .or .u32 (bits .or .u32 (IntKind.u32.wrap a) (IntKind.u32.wrap (IntKind.u32.wrap b * 256))) (IntKind.u32.wrap (IntKind.u32.wrap c * 65536))) (IntKind.u32.wrap (IntKind.u32.wrap d * 16777216)) = a + 256 * b + 65536 * c + 16777216 * d := by
  simp only [wrap_u32]
  have h1 : a % 4294967296 = a := by omega
  have h2 : b % 4294967296 * 256 % 4294967296 = 256 * b := by omega
  have h3 : c % 4294967296 * 65536 % 4294967296 = 65536 * c := by omega
  have h4 : d % 4294967296 * 16777216 % 4294967296 = 16777216 * d := by omega
  rw [h1, h2, h3, h4, or32 8 (256 * b) a (by omega) (by omega) (by omega) (by omega) (by omega) (by omega),
    or32 16 (65536 * c) (a + 256 * b) (by omega) (by omega) (by omega) (by omega) (by omega) (by omega),
    or32 24 (16777216 * d) (a + 256 * b + 65536 * c) (by omega) (by omega) (by omega) (by omega) (by omega) (by omega)]
end Go.Proofs.YtlcdpmjdnihocaaGreatH.H
/- The law's own function block: a block that begins with the bytes of a slice; its bytes lie in memory below. -/
namespace Go.Proofs.YtlcdpmjdnihocaaGreatH.H
open Go.RowKit
set_option maxHeartbeats 400000 in
theorem fits_any (a n : Int) (w : World) (hn : 0 ≤ n ∧ n ≤ 1024) :
    Calls Tryz.prog 137 #[.int .i64 a, .int .i64 n] w fun e w' => e = .returned (.bool (decide (0 ≤ a ∧ a ≤ 1024 - n))) ∧ w' = w := by
  by_cases h0 : 0 ≤ a
  · by_cases h1 : a ≤ 1024 - n
    · go_enter Tryz.func137, Tryz.ntmps137
      go_wp2
      go_ret
      exact ⟨by simp [h0, h1], rfl⟩
    · go_enter Tryz.func137, Tryz.ntmps137
      go_wp2
      go_ret
      exact ⟨by simp [h1], rfl⟩
  · go_enter Tryz.func137, Tryz.ntmps137
    go_wp2
    go_ret
    exact ⟨by simp; omega, rfl⟩

theorem fits_yes (a n : Int) (w : World) (hn : 0 ≤ n ∧ n ≤ 1024) (h : 0 ≤ a ∧ a ≤ 1024 - n) :
    Calls Tryz.prog 137 #[.int .i64 a, .int .i64 n] w fun e w' => e = .returned (.bool true) ∧ w' = w := by
  have := fits_any a n w hn
  rwa [decide_eq_true h] at this
theorem fits_no (a n : Int) (w : World) (hn : 0 ≤ n ∧ n ≤ 1024) (h : ¬ (0 ≤ a ∧ a ≤ 1024 - n)) :
    Calls Tryz.prog 137 #[.int .i64 a, .int .i64 n] w fun e w' => e = .returned (.bool false) ∧ w' = w := by
  have := fits_any a n w hn
  rwa [decide_eq_false h] at this


def Lies (w : World) (v : Value) (n : Nat) (f : Nat → Int) : Prop :=
  (∃ a cap, v = .slice a 0 cap ∧ n = 0 ∧ (a = none → cap = 0)) ∨ ∃ b off cap, v = .slice (some ⟨b, off, none⟩) n cap ∧ n ≤ maxLen ∧ n ≤ cap ∧ b < w.heap.size ∧ ∀ i, i < n → w.cell? ⟨b, off + i, none⟩ = some (.int .u8 (f i))
theorem Lies.later {w w' : World} {v : Value} {n : Nat} {f : Nat → Int} (h : Lies w v n f) (hb : Below w.heap.size w w') : Lies w' v n f := by
  rcases h with h | ⟨b, off, cap, hv, hn, hcap, hlt, hc⟩
  · exact .inl h
  · exact .inr ⟨b, off, cap, hv, hn, hcap, Nat.lt_of_lt_of_le hlt hb.size, fun i hi => (hb.cell (p := ⟨b, off + i, none⟩) hlt).trans (hc i hi)⟩
end Go.Proofs.YtlcdpmjdnihocaaGreatH.H
/- U16 and U32 of slab: the number of the bytes at a place, or nought; for every block of bytes and every place. -/
namespace Go.Proofs.YtlcdpmjdnihocaaGreatH.H
open Go.RowKit

theorem ret_int {k : IntKind} {a b : Int} (h : a = b) : Ending.returned (.int k a) = .returned (.int k b) := by rw [h]

end Go.Proofs.YtlcdpmjdnihocaaGreatH.H
/- SetU16 and SetU32 of slab: the block in which a number is laid; for every block, place and number. -/
namespace Go.Proofs.YtlcdpmjdnihocaaGreatH.H
open Go.RowKit

theorem ret_blk {f g : Nat → Int} (h : f = g) : Ending.returned (.agg (blk f)) = .returned (.agg (blk g)) := by rw [h]
set_option maxRecDepth 20000 in
set_option maxHeartbeats 400000 in
theorem set32_in (f : Nat → Int) (k : Nat) (v : Int) (w : World) (hk : (k : Int) ≤ 1020) (hv : 0 ≤ v ∧ v < 4294967296) :
    Calls Tryz.prog 95 #[.agg (blk f), .int .i64 k, .int .u32 v] w fun e w' => e = .returned (.agg (blk (putN f k v 4))) ∧ Below w.heap.size w w' := by
  have z25 := zero25
  have hb0 := fun g => blk_get g (k) (by omega)
  have hb1 := fun g => blk_get g (k + 1) (by omega)
  have hb2 := fun g => blk_get g (k + 2) (by omega)
  have hb3 := fun g => blk_get g (k + 3) (by omega)
  have hset := blk_set
  go_enter Tryz.func95, Tryz.ntmps95
  go_wp2_with (first | (go_at_call 137; refine (fits_yes _ _ _ (by omega) (by omega)).mono ?_; rintro e w' ⟨rfl, rfl⟩) | refine wpList_load25 rfl _ rfl _ rfl _ (heap_alloc2_old _ _ _) ?_ | refine wpList_store25 rfl _ _ rfl _ _ rfl rfl _ (heap_alloc2_new _ _ _) ?_)
  exact ret25 rfl (w.heap.size + 1) _ rfl (setRow_heap _ _ _ _ _ _ (heap_alloc2_new _ _ _)) rfl ⟨ret_blk (put4 f k v hv).symm, below2 _ _ _ _ (by omega) _⟩
set_option maxRecDepth 20000 in
set_option maxHeartbeats 400000 in
theorem set32_out (f : Nat → Int) (k : Int) (v : Int) (w : World) (hk : ¬ (0 ≤ k ∧ k ≤ 1024 - 4)) :
    Calls Tryz.prog 95 #[.agg (blk f), .int .i64 k, .int .u32 v] w fun e w' => e = .returned (.agg (blk f)) ∧ Below w.heap.size w w' := by
  have z25 := zero25
  have HK : Hid (¬ (0 ≤ k ∧ k ≤ 1024 - 4)) := hk
  clear hk
  go_enter Tryz.func95, Tryz.ntmps95
  go_wp2_with (first | (go_at_call 137; refine (fits_no _ _ _ (by omega) HK.out).mono ?_; rintro e w' ⟨rfl, rfl⟩) | refine wpList_load25 rfl _ rfl _ rfl _ (heap_alloc2_old _ _ _) ?_ | refine wpList_store25 rfl _ _ rfl _ _ rfl rfl _ (heap_alloc2_new _ _ _) ?_)
  exact ret25 rfl (w.heap.size + 1) _ rfl (setRow_heap _ _ _ _ _ _ (heap_alloc2_new _ _ _)) rfl ⟨rfl, below2 _ _ _ _ (by omega) _⟩
theorem set32_any (f : Nat → Int) (k : Int) (v : Int) (w : World) (hv : 0 ≤ v ∧ v < 4294967296) :
    Calls Tryz.prog 95 #[.agg (blk f), .int .i64 k, .int .u32 v] w fun e w' => e = .returned (.agg (blk (put f k 4 v))) ∧ Below w.heap.size w w' := by
  by_cases h : 0 ≤ k ∧ k ≤ 1024 - 4
  · obtain ⟨m, rfl⟩ := Int.eq_ofNat_of_zero_le h.1
    rw [put_in f m 4 v (by omega)]; exact set32_in f m v w (by omega) hv
  · rw [put_out f k 4 v (by omega)]; exact set32_out f k v w h
end Go.Proofs.YtlcdpmjdnihocaaGreatH.H
