/- Several texts joined: the log, its cache and its disk, of the program and of the document; no condition. -/
import Derived.Test.YtichojdcoegboaaGreatK10
import Derived.Test.YtichojdcoegboaaGreatK4
namespace Go.Proofs.YtichojdcoegboaaGreatW
open Go.RowKit Go.Maps
variable {w : World} {B g : Nat} {hv wv ov : Value} {s : RSt}
def rBarS (s : RSt) : RSt := { rLets s with held := rLay (rLets s).held (rLets s).wait, wait := [], ops := (rLets s).ops ++ [⟨2, 0, nought⟩] }
theorem RDAt.waitAt {b0 off N cw j : Nat} {x : Cel} (h : RDAt w B g hv (.slice (some ⟨b0, off, none⟩) N cw) ov s) (hx : s.wait[j]? = some x) :
  w.cell? ⟨g, 2, none⟩ = some (.slice (some ⟨b0, off, none⟩) N cw) ∧ w.cell? ⟨b0, off + j * 1025, none⟩ = some (.int .i64 x.1) ∧ BlkAt w b0 (off + j * 1025 + 1) x.2 := by
 obtain ⟨p', c', e2, hI, -, -⟩ := HL.img (show HL B w (.slice (some ⟨b0, off, none⟩) N cw) s.wait from h.wait)
 injection e2 with e2 e3 e4
 subst e2
 obtain ⟨b1, o1, e5, _, hC⟩ := hI (by have := (List.getElem?_eq_some_iff.1 hx).1; omega)
 injection e5 with e5
 injection e5 with e6 e7
 subst e6
 subst e7
 exact ⟨h.cells.2.2.1, hC j x hx⟩
set_option maxRecDepth 20000 in
theorem rBarrier_stopped (h : RDAt w B g hv wv ov s) (hd : s.dead = true) :
  Calls Tryz.prog 96 #[.pointer (some ⟨g, 0, none⟩)] w fun e w' => e = .returned (.int .i64 3) ∧ w' = w := by
 have c5 := h.cells.2.2.2.2.2.1
 rw [hd] at c5
 clear h
 go_enter Tryz.func96, Tryz.ntmps96
 go_wp2
 go_ret
 exact ⟨rfl, rfl⟩
set_option maxRecDepth 20000 in
theorem rBarrier_dead (h : RDAt w B g hv wv ov s) (hd : s.dead = false) (hL : rLetsB s = false) (hl : s.fused = true → 0 ≤ s.left ∧ s.left ≤ 9223372036854775807) (hc : 0 ≤ s.count ∧ s.count < 9223372036854775807) :
  Calls Tryz.prog 96 #[.pointer (some ⟨g, 0, none⟩)] w fun e w' => e = .returned (.int .i64 3) ∧ RDAt w' B g hv wv ov (rLets s) ∧ Fr (fun i => i = g) w w' := by
 have c5 := h.cells.2.2.2.2.2.1
 rw [hd] at c5
 have hT := rLets_any h hl hc
 rw [hL] at hT
 clear h hl hc
 go_enter Tryz.func96, Tryz.ntmps96
 go_wp2_with (go_at_call 114; fail)
 refine hT.mono ?_
 rintro e W ⟨rfl, hD, hF⟩
 have HD := Hid.mk' hD
 have HF2 := Hid.mk' (hF)
 clear hD hF
 go_wp2
 go_ret
 exact ⟨rfl, HD.out, HF2.out⟩
set_option maxRecDepth 20000 in
set_option maxHeartbeats 4000000 in
theorem rBarrier_ok (h : RDAt w B g hv wv ov s) (hd : s.dead = false) (hL : rLetsB s = true) (hl : s.fused = true → 0 ≤ s.left ∧ s.left ≤ 9223372036854775807) (hc : 0 ≤ s.count ∧ s.count < 9223372036854775807) (hlh : s.held.length + s.wait.length ≤ 9000000) (hlo : s.ops.length ≤ 10000000) :
  Calls Tryz.prog 96 #[.pointer (some ⟨g, 0, none⟩)] w fun e w' => e = .returned (.int .i64 0) ∧ RBarP B g hv ov (rBarS s) w w' := by
 have c5 := h.cells.2.2.2.2.2.1
 rw [hd] at c5
 have hT := rLets_any h hl hc
 rw [hL] at hT
 have hl1 : (rLets s).held.length + (rLets s).wait.length ≤ 9000000 := by rw [rLets_wait, rLets_held]; exact hlh
 have hl2 : (rLets s).ops.length ≤ 10000000 := by rw [rLets_ops]; exact hlo
 have HBS : Hid (∀ (W : World) (x y : Value), RDAt W B g x (.slice none 0 0) y { rLets s with held := rLay (rLets s).held (rLets s).wait, wait := [], ops := (rLets s).ops ++ [⟨2, 0, nought⟩] } → RDAt W B g x (.slice none 0 0) y (rBarS s)) := fun _ _ _ q => q
 clear h hl hc
 go_enter Tryz.func96, Tryz.ntmps96
 go_wp2_with (go_at_call 114; fail)
 refine hT.mono ?_
 rintro e W ⟨rfl, hD, hF⟩
 have HF2 := Hid.mk' (hF.mono (T' := Tco g ov) fun _ _ q => .inl q)
 clear hF c5 hT
 generalize rLets s = S at *
 obtain ⟨pw, cw, rfl, -⟩ := own_slice hD.wait
 obtain ⟨N, hN⟩ : ∃ N, S.wait.length = N := ⟨_, rfl⟩
 have HN := Hid.mk' hN
 rw [hN] at hD hl1
 clear hN
 have HD0 := Hid.mk' (show RDAt W B g hv (.slice pw N cw) ov { S with held := rLay S.held (S.wait.take 0) } from hD)
 clear hD
 go_wp2
 go_loopw [3] (fun s3 wx => ∃ (j : Nat) (hx : Value), j ≤ N ∧ s3 = .int .i64 j ∧ Hid (RDAt wx B g hx (.slice pw N cw) ov { S with held := rLay S.held (S.wait.take j) }) ∧ Hid (Fr (Tco g ov) w wx) ∧ Hid (∀ b, hx.ownBlock = some b → hv.ownBlock = some b ∨ w.heap.size ≤ b)) (fun s3 _ => N - (intOf s3).toNat)
 case atStart => exact ⟨0, hv, by omega, rfl, HD0.out, HF2.out, fun _ q => .inl q⟩
 case round =>
  obtain ⟨j, hx, hj, rfl, HD, HB, HLo⟩ := hrel
  clear HD0 HF2
  have c2 := HD.out.cells.2.2.1
  by_cases hj2 : (j : Int) < N
  ·have hjl : j < S.wait.length := by have := HN.out; omega
   have hcc : S.wait[j]? = some (S.wait[j]'hjl) := List.getElem?_eq_getElem hjl
   have ht : S.wait.take (j + 1) = S.wait.take j ++ [S.wait[j]'hjl] := by rw [List.take_add_one, List.getElem?_eq_getElem hjl]; rfl
   generalize S.wait[j]'hjl = x at hcc ht
   have c1 := HD.out.cells.2.1
   obtain ⟨p', c', e2, hIw, -, -⟩ := HL.img (show HL B wr (.slice pw N cw) S.wait from HD.out.wait)
   injection e2 with e2 e3 e4
   subst e2
   obtain ⟨ph, ch, rfl, hIh, -, -⟩ := HL.img (show HL B wr hx (rLay S.held (S.wait.take j)) from HD.out.held)
   obtain ⟨b0, off, rfl, hlt0, hC⟩ := hIw (by omega)
   have HW := Hid.mk' (fun (u : World) (hx' : Value) (l : List Cel) (h : RDAt u B g hx' (.slice (some ⟨b0, off, none⟩) N cw) ov { S with held := l }) => h.waitAt (j := j) (x := x) hcc)
   have hlen : (rLay S.held (S.wait.take j)).length ≤ 9000000 := by
    have a := rLay_len S.held (S.wait.take j)
    have b : (S.wait.take j).length ≤ N := by rw [List.length_take]; omega
    omega
   have HC := Hid.mk' (laid_any (rLay S.held (S.wait.take j)) ph ch x.1 x.2 wr.drew hlen (show ImgAt wr.drew ph _ from hIh))
   have HE := Hid.mk' (show rLay S.held (S.wait.take (j + 1)) = laidL (rLay S.held (S.wait.take j)) x.1 x.2 by rw [ht, rLay_snoc])
   have HDd := Hid.mk' HD.out.drew
   have HBd := Hid.mk' HB.out.drewF
   generalize hls : rLay S.held (S.wait.take j) = ls at *
   clear hC hcc ht hIw hIh HD HB HLo hls e3 e4
   obtain ⟨M, hM⟩ : ∃ M, ls.length = M := ⟨_, rfl⟩
   rw [hM] at c1
   have HC2 := HC.out
   rw [hM] at HC2
   have HC3 := Hid.mk' HC2
   have HD2 := HDd.out
   rw [hM] at HD2
   have HDd2 := Hid.mk' HD2
   clear HC HC2 HDd HD2 hM hlen
   go_wp2
   refine wp_region_ord (S := fun u => u.cell? ⟨g, 2, none⟩ = some (.slice (some ⟨b0, off, none⟩) N cw) ∧ u.cell? ⟨b0, off + j * 1025, none⟩ = some (.int .i64 x.1) ∧ BlkAt u b0 (off + j * 1025 + 1) x.2) [(0, true), (1, true), (2, true), (3, true), (5, true), (6, true), (7, true), (8, true), (9, true), (10, true), (11, true), (12, true), (13, true), (14, true), (15, true), (16, true), (17, true), (18, true), (19, true), (20, true), (4, false), (21, false), (22, true), (23, true), (24, false)]
    (by kernel_rfl) rfl (by kernel_rfl) (fun d _ _ _ _ h => by cases d <;> exact h) (HW.out _ _ _ HDd2.out) ?_
   simp only [inOrd, List.getElem?_cons_zero, List.getElem?_cons_succ]
   refine wpOrd_move rfl _ rfl ?_
   simp only [Act.put, pA, pB, pC]
   refine wpOrd_move rfl _ rfl ?_
   simp only [Act.put, pA, pB, pC]
   refine wpOrd_yield (v := .pointer (some ⟨g, 0, none⟩)) rfl (fun u _ => by go_simp) ?_
   simp only [Act.put, pA, pB, pC]
   refine wpOrd_yield (v := .pointer (some ⟨g, 1, none⟩)) rfl (fun u _ => by go_simp) ?_
   simp only [Act.put, pA, pB, pC]
   refine wpOrd_move rfl _ rfl ?_
   simp only [Act.put, pA, pB, pC]
   refine wpOrd_yield (v := .pointer (some ⟨g, 0, none⟩)) rfl (fun u _ => by go_simp) ?_
   simp only [Act.put, pA, pB, pC]
   refine wpOrd_yield (v := .pointer (some ⟨g, 2, none⟩)) rfl (fun u _ => by go_simp) ?_
   simp only [Act.put, pA, pB, pC]
   refine wpOrd_yield (v := .slice (some ⟨b0, off, none⟩) N cw) rfl (fun u hu => by have hu1 := hu.1; go_simp) ?_
   simp only [Act.put, pA, pB, pC]
   refine wpOrd_move rfl _ rfl ?_
   simp only [Act.put, pA, pB, pC]
   refine wpOrd_yield (v := .pointer (some ⟨b0, off + j * 1025, none⟩)) rfl (fun u _ => by go_simp) ?_
   simp only [Act.put, pA, pB, pC]
   refine wpOrd_yield (v := .pointer (some ⟨b0, off + j * 1025, none⟩)) rfl (fun u _ => by go_simp) ?_
   simp only [Act.put, pA, pB, pC]
   refine wpOrd_yield (v := .int .i64 x.1) rfl (fun u hu => by have hu1 := hu.2.1; go_simp) ?_
   simp only [Act.put, pA, pB, pC]
   refine wpOrd_move rfl _ rfl ?_
   simp only [Act.put, pA, pB, pC]
   refine wpOrd_yield (v := .pointer (some ⟨g, 0, none⟩)) rfl (fun u _ => by go_simp) ?_
   simp only [Act.put, pA, pB, pC]
   refine wpOrd_yield (v := .pointer (some ⟨g, 2, none⟩)) rfl (fun u _ => by go_simp) ?_
   simp only [Act.put, pA, pB, pC]
   refine wpOrd_yield (v := .slice (some ⟨b0, off, none⟩) N cw) rfl (fun u hu => by have hu1 := hu.1; go_simp) ?_
   simp only [Act.put, pA, pB, pC]
   refine wpOrd_move rfl _ rfl ?_
   simp only [Act.put, pA, pB, pC]
   refine wpOrd_yield (v := .pointer (some ⟨b0, off + j * 1025, none⟩)) rfl (fun u _ => by go_simp) ?_
   simp only [Act.put, pA, pB, pC]
   refine wpOrd_yield (v := .pointer (some ⟨b0, off + j * 1025 + 1, none⟩)) rfl (fun u _ => by go_simp) ?_
   simp only [Act.put, pA, pB, pC]
   refine wpOrd_yield (v := .agg (blk x.2)) rfl (fun u hu => exec_ldBlk rfl rfl hu.2.2) ?_
   simp only [Act.put, pA, pB, pC]
   have k1 := HDd2.out.cells.2.1
   refine wpOrd_run (v := .slice ph M ch) (w' := wr.drew) rfl (by go_simp) (HW.out _ _ _ HDd2.out) ?_
   simp only [Act.put, pA, pB, pC]
   refine wpOrd_call rfl 89 _ _ rfl Tryz.call89 [.slice ph M ch, .int .i64 x.1, .agg (blk x.2)] rfl ?_
   refine HC3.out.mono ?_
   rintro e W2 ⟨v, rfl, ho, hb⟩
   obtain ⟨pv, cv, rfl, -⟩ := own_slice ho
   have hD2 := HDd2.out.later hb
   have hD3 := HDd2.out.setHeld hb ho
   have k2 := hD2.cells.2.1
   have f2 := hD2.free 1
   have HB3 := Hid.mk' ((HBd.out.trans (Fr.ofBelow (T := fun _ => False) hb) fun _ _ q => q.elim).trans (Fr.setCell W2 g 1 (.slice pv (laidL ls x.1 x.2).length cv)) fun _ _ q => .inl q)
   have HLo3 : Hid (∀ b, (Value.slice pv (laidL ls x.1 x.2).length cv).ownBlock = some b → hv.ownBlock = some b ∨ w.heap.size ≤ b) := fun b q => .inr (Nat.le_trans HBd.out.size (ho.lt b q).1)
   have HS2 := Hid.mk' (HW.out _ _ _ hD2)
   have HS3 := Hid.mk' (HW.out _ _ _ hD3)
   have HD3 := Hid.mk' hD3
   generalize (laidL ls x.1 x.2).length = M2 at *
   rw [← HE.out] at HD3
   clear hD2 hD3 ho hb HC3 HDd2 HBd
   refine ⟨_, rfl, HS2.out, ?_⟩
   simp only [Act.put, pA, pB, pC]
   refine wpOrd_yield (v := .pointer (some ⟨g, 0, none⟩)) rfl (fun u _ => by go_simp) ?_
   simp only [Act.put, pA, pB, pC]
   refine wpOrd_yield (v := .pointer (some ⟨g, 1, none⟩)) rfl (fun u _ => by go_simp) ?_
   simp only [Act.put, pA, pB, pC]
   refine wpOrd_do (w' := W2.setCell ⟨g, 1, none⟩ (.slice pv M2 cv)) rfl (by go_simp) HS3.out ?_
   refine wpOrd_nil ?_
   simp only [Act.put]
   clear k1 k2 f2 HS2 HS3 HW c1 c2
   generalize W2.setCell ⟨g, 1, none⟩ (.slice pv M2 cv) = Y at *
   go_wp2
   exact ⟨⟨j + 1, _, by omega, by go_num, HD3.out, HB3.out, HLo3.out⟩, by simp [intOf]; omega⟩
  ·have hjN : N = j := by omega
   subst hjN
   have hD := HD.out
   rw [← HN.out, List.take_length, HN.out] at hD
   have f2 := hD.free 2
   have H2 := Hid.mk' hD.nilW
   have HB2 := Hid.mk' (HB.out.trans (Fr.setCell wr g 2 (.slice none 0 0)) fun _ _ q => .inl q)
   clear hD HD HB
   go_upto_region 10 with fail
   clear c2 f2
   generalize wr.setCell ⟨g, 2, none⟩ (.slice none 0 0) = Y at *
   obtain ⟨v', W5, hr, hw, hb, hf, hor, hE⟩ := H2.out.pushO hl2 ⟨2, 0, nought⟩
   obtain ⟨po, co, e0, -⟩ := own_slice H2.out.ops
   obtain ⟨aa, am, ac, rfl⟩ : ∃ a m c, v' = Value.slice a m c := by obtain ⟨p, c, e, _⟩ := own_slice hE.ops; exact ⟨_, _, _, e⟩
   have c6 := H2.out.cells.2.2.2.2.2.2.1
   have k6 : W5.cell? ⟨g, 6, none⟩ = some ov := Joins.cell_of_block hw 6
   have f6 : W5.frozen? ⟨g, 6, none⟩ = false := Joins.unfrozen_of_block hw 6
   have HLo5 : Hid (∀ b, (Value.slice aa am ac).ownBlock = some b → ov.ownBlock = some b ∨ w.heap.size ≤ b) := fun b q => (hor b q).elim .inl fun r => .inr (Nat.le_trans HB2.out.size r)
   have HE := Hid.mk' (HBS.out _ _ _ hE)
   have HB5 := Hid.mk' ((HB2.out.trans hf fun _ _ q => .inr q).trans (Fr.setCell W5 g 6 (.slice aa am ac)) fun _ _ q => .inl q)
   rw [e0] at c6 k6 hr
   have HR := Hid.mk' hr
   have hbl := fun u => build67 ⟨2, 0, nought⟩ u
   clear hr hw hb hf hor hE e0 H2 HB2 HBS
   generalize hmo : List.length _ = mo at c6 k6 HR
   go_wp2_with (first | refine wpList_bar rfl rfl ?_ | refine wpList_build1 rfl 49 98 (.tmp 56) rfl _ rfl (hbl _) ?_ | (at_builtin; refine wpList_exec rfl (exec_pushY rfl rfl rfl HR.out) ?_))
   go_ret
   exact ⟨rfl, _, _, HE.out, HB5.out, HLo.out, HLo5.out⟩
end Go.Proofs.YtichojdcoegboaaGreatW
namespace Go.Proofs.YtichojdcoegboaaGreatW
open Go.RowKit Go.Maps
variable {w : World} {B g : Nat} {hv wv ov : Value} {s : RSt}
def rCrashS (s : RSt) (kl : List Bool) : RSt := { s with held := rLay s.held (keptL s.wait kl), wait := [], ops := [], dead := false, fused := false, owner := 0 }
theorem keptL_len : ∀ (l : List Cel) (k : List Bool), (keptL l k).length ≤ l.length
 | [], k => by simp [keptL]
 | x :: l, [] => by simp [keptL]
 | x :: l, y :: k => by
  have ih := keptL_len l k
  cases y
  ·show (keptL l k).length ≤ _
   rw [List.length_cons]
   omega
  ·show (x :: keptL l k).length ≤ _
   rw [List.length_cons, List.length_cons]
   omega
set_option maxRecDepth 20000 in
set_option maxHeartbeats 4000000 in
theorem rCrash_ok (h : RDAt w B g hv wv ov s) {pk : Option Addr} {ck : Nat} {kl : List Bool} (hk : 0 < kl.length → ∃ b off, pk = some ⟨b, off, none⟩ ∧ b ≠ g ∧ b < w.heap.size ∧ ∀ i x, kl[i]? = some x → w.cell? ⟨b, off + i, none⟩ = some (.bool x)) (hlh : s.held.length + s.wait.length ≤ 9000000) (hkl : kl.length < 9223372036854775807) :
  Calls Tryz.prog 44 #[.pointer (some ⟨g, 0, none⟩), .slice pk kl.length ck] w fun e w' => e = .returned (.int .i64 0) ∧ RCrP B g hv (rCrashS s kl) w w' := by
 have HK := Hid.mk' hk
 clear hk
 have HBS : Hid (∀ (W : World) (x : Value), RDAt W B g x (.slice none 0 0) (.slice none 0 0) { s with held := rLay s.held (keptL s.wait kl), wait := [], ops := [], dead := false, fused := false, owner := 0 } → RDAt W B g x (.slice none 0 0) (.slice none 0 0) (rCrashS s kl)) := fun _ _ q => q
 obtain ⟨pw, cw, rfl, -⟩ := own_slice h.wait
 obtain ⟨N, hN⟩ : ∃ N, s.wait.length = N := ⟨_, rfl⟩
 obtain ⟨K, hK⟩ : ∃ K, kl.length = K := ⟨_, rfl⟩
 have HN := Hid.mk' hN
 have HK2 := Hid.mk' hK
 rw [hN] at h hlh
 rw [hK] at hkl ⊢
 clear hN hK
 have HD0 := Hid.mk' (show RDAt w B g hv (.slice pw N cw) ov { s with held := rLay s.held (keptL (s.wait.take 0) (kl.take 0)) } from h)
 clear h
 go_enter Tryz.func44, Tryz.ntmps44
 go_wp2
 go_loopw [5] (fun s3 wx => ∃ (j : Nat) (hx : Value), j ≤ N ∧ j ≤ K ∧ s3 = .int .i64 j ∧ Hid (RDAt wx B g hx (.slice pw N cw) ov { s with held := rLay s.held (keptL (s.wait.take j) (kl.take j)) }) ∧ Hid (Fr (fun i => i = g) w wx) ∧ Hid (∀ b, hx.ownBlock = some b → hv.ownBlock = some b ∨ w.heap.size ≤ b)) (fun s3 _ => N - (intOf s3).toNat)
 case atStart => exact ⟨0, hv, by omega, by omega, rfl, HD0.out, Fr.refl _ _, fun _ q => .inl q⟩
 case round =>
  obtain ⟨j, hx, hj, hjk, rfl, HD, HB, HLo⟩ := hrel
  clear HD0
  have c2 := HD.out.cells.2.2.1
  by_cases hj2 : (j : Int) < N ∧ (j : Int) < K
  ·obtain ⟨hj2, hj3⟩ := hj2
   have hjl : j < s.wait.length := by have := HN.out; omega
   have hjk2 : j < kl.length := by have := HK2.out; omega
   have hcc : s.wait[j]? = some (s.wait[j]'hjl) := List.getElem?_eq_getElem hjl
   have ht : s.wait.take (j + 1) = s.wait.take j ++ [s.wait[j]'hjl] := by rw [List.take_add_one, List.getElem?_eq_getElem hjl]; rfl
   have hck : kl[j]? = some (kl[j]'hjk2) := List.getElem?_eq_getElem hjk2
   have htk : kl.take (j + 1) = kl.take j ++ [kl[j]'hjk2] := by rw [List.take_add_one, List.getElem?_eq_getElem hjk2]; rfl
   generalize s.wait[j]'hjl = x at hcc ht
   generalize kl[j]'hjk2 = y at hck htk
   have hks := keptL_snoc x y (s.wait.take j) (kl.take j) (by rw [List.length_take, List.length_take]; omega)
   rw [← ht, ← htk] at hks
   obtain ⟨bk, ok, rfl, hbk, hbl, hcell⟩ := HK.out (by omega)
   have hy : wr.cell? ⟨bk, ok + j, none⟩ = some (.bool y) := (World.cell?_of_block (HB.out.block bk hbl hbk)).trans (hcell j y hck)
   clear hcell hck htk
   cases y
   ·rw [if_neg (by simp), List.append_nil] at hks
    have HD2 := HD.out
    rw [← hks] at HD2
    have HD3 := Hid.mk' HD2
    clear HD2 HD hks ht hcc
    go_wp2
    exact ⟨⟨j + 1, _, by omega, by omega, by go_num, HD3.out, HB.out, HLo.out⟩, by simp [intOf]; omega⟩
   rw [if_pos rfl] at hks
   have c1 := HD.out.cells.2.1
   obtain ⟨p', c', e2, hIw, -, -⟩ := HL.img (show HL B wr (.slice pw N cw) s.wait from HD.out.wait)
   injection e2 with e2 e3 e4
   subst e2
   obtain ⟨ph, ch, rfl, hIh, -, -⟩ := HL.img (show HL B wr hx (rLay s.held (keptL (s.wait.take j) (kl.take j))) from HD.out.held)
   obtain ⟨b0, off, rfl, hlt0, hC⟩ := hIw (by omega)
   have HW := Hid.mk' (fun (u : World) (hx' : Value) (l : List Cel) (h : RDAt u B g hx' (.slice (some ⟨b0, off, none⟩) N cw) ov { s with held := l }) => h.waitAt (j := j) (x := x) hcc)
   have hlen : (rLay s.held (keptL (s.wait.take j) (kl.take j))).length ≤ 9000000 := by
    have a := rLay_len s.held (keptL (s.wait.take j) (kl.take j))
    have b := keptL_len (s.wait.take j) (kl.take j)
    have c : (s.wait.take j).length ≤ N := by rw [List.length_take]; omega
    omega
   have HC := Hid.mk' (laid_any (rLay s.held (keptL (s.wait.take j) (kl.take j))) ph ch x.1 x.2 wr.drew hlen (show ImgAt wr.drew ph _ from hIh))
   have HE := Hid.mk' (show rLay s.held (keptL (s.wait.take (j + 1)) (kl.take (j + 1))) = laidL (rLay s.held (keptL (s.wait.take j) (kl.take j))) x.1 x.2 by rw [hks, rLay_snoc])
   have HDd := Hid.mk' HD.out.drew
   have HBd := Hid.mk' (HB.out.trans (Fr.drew (T := fun i => i = g) wr) fun _ _ q => q)
   generalize hls : rLay s.held (keptL (s.wait.take j) (kl.take j)) = ls at *
   clear hC hcc ht hks hIw hIh HD HB HLo hls e3 e4
   obtain ⟨M, hM⟩ : ∃ M, ls.length = M := ⟨_, rfl⟩
   rw [hM] at c1
   have HC2 := HC.out
   rw [hM] at HC2
   have HC3 := Hid.mk' HC2
   have HD2 := HDd.out
   rw [hM] at HD2
   have HDd2 := Hid.mk' HD2
   clear HC HC2 HDd HD2 hM hlen
   go_wp2
   refine wp_region_ord (S := fun u => u.cell? ⟨g, 2, none⟩ = some (.slice (some ⟨b0, off, none⟩) N cw) ∧ u.cell? ⟨b0, off + j * 1025, none⟩ = some (.int .i64 x.1) ∧ BlkAt u b0 (off + j * 1025 + 1) x.2) [(0, true), (1, true), (2, true), (3, true), (5, true), (6, true), (7, true), (8, true), (9, true), (10, true), (11, true), (12, true), (13, true), (14, true), (15, true), (16, true), (17, true), (18, true), (19, true), (20, true), (4, false), (21, false), (22, true), (23, true), (24, false)]
    (by kernel_rfl) rfl (by kernel_rfl) (fun d _ _ _ _ h => by cases d <;> exact h) (HW.out _ _ _ HDd2.out) ?_
   simp only [inOrd, List.getElem?_cons_zero, List.getElem?_cons_succ]
   refine wpOrd_move rfl _ rfl ?_
   simp only [Act.put, pA, pB, pC]
   refine wpOrd_move rfl _ rfl ?_
   simp only [Act.put, pA, pB, pC]
   refine wpOrd_yield (v := .pointer (some ⟨g, 0, none⟩)) rfl (fun u _ => by go_simp) ?_
   simp only [Act.put, pA, pB, pC]
   refine wpOrd_yield (v := .pointer (some ⟨g, 1, none⟩)) rfl (fun u _ => by go_simp) ?_
   simp only [Act.put, pA, pB, pC]
   refine wpOrd_move rfl _ rfl ?_
   simp only [Act.put, pA, pB, pC]
   refine wpOrd_yield (v := .pointer (some ⟨g, 0, none⟩)) rfl (fun u _ => by go_simp) ?_
   simp only [Act.put, pA, pB, pC]
   refine wpOrd_yield (v := .pointer (some ⟨g, 2, none⟩)) rfl (fun u _ => by go_simp) ?_
   simp only [Act.put, pA, pB, pC]
   refine wpOrd_yield (v := .slice (some ⟨b0, off, none⟩) N cw) rfl (fun u hu => by have hu1 := hu.1; go_simp) ?_
   simp only [Act.put, pA, pB, pC]
   refine wpOrd_move rfl _ rfl ?_
   simp only [Act.put, pA, pB, pC]
   refine wpOrd_yield (v := .pointer (some ⟨b0, off + j * 1025, none⟩)) rfl (fun u _ => by go_simp) ?_
   simp only [Act.put, pA, pB, pC]
   refine wpOrd_yield (v := .pointer (some ⟨b0, off + j * 1025, none⟩)) rfl (fun u _ => by go_simp) ?_
   simp only [Act.put, pA, pB, pC]
   refine wpOrd_yield (v := .int .i64 x.1) rfl (fun u hu => by have hu1 := hu.2.1; go_simp) ?_
   simp only [Act.put, pA, pB, pC]
   refine wpOrd_move rfl _ rfl ?_
   simp only [Act.put, pA, pB, pC]
   refine wpOrd_yield (v := .pointer (some ⟨g, 0, none⟩)) rfl (fun u _ => by go_simp) ?_
   simp only [Act.put, pA, pB, pC]
   refine wpOrd_yield (v := .pointer (some ⟨g, 2, none⟩)) rfl (fun u _ => by go_simp) ?_
   simp only [Act.put, pA, pB, pC]
   refine wpOrd_yield (v := .slice (some ⟨b0, off, none⟩) N cw) rfl (fun u hu => by have hu1 := hu.1; go_simp) ?_
   simp only [Act.put, pA, pB, pC]
   refine wpOrd_move rfl _ rfl ?_
   simp only [Act.put, pA, pB, pC]
   refine wpOrd_yield (v := .pointer (some ⟨b0, off + j * 1025, none⟩)) rfl (fun u _ => by go_simp) ?_
   simp only [Act.put, pA, pB, pC]
   refine wpOrd_yield (v := .pointer (some ⟨b0, off + j * 1025 + 1, none⟩)) rfl (fun u _ => by go_simp) ?_
   simp only [Act.put, pA, pB, pC]
   refine wpOrd_yield (v := .agg (blk x.2)) rfl (fun u hu => exec_ldBlk rfl rfl hu.2.2) ?_
   simp only [Act.put, pA, pB, pC]
   have k1 := HDd2.out.cells.2.1
   refine wpOrd_run (v := .slice ph M ch) (w' := wr.drew) rfl (by go_simp) (HW.out _ _ _ HDd2.out) ?_
   simp only [Act.put, pA, pB, pC]
   refine wpOrd_call rfl 89 _ _ rfl Tryz.call89 [.slice ph M ch, .int .i64 x.1, .agg (blk x.2)] rfl ?_
   refine HC3.out.mono ?_
   rintro e W2 ⟨v, rfl, ho, hb⟩
   obtain ⟨pv, cv, rfl, -⟩ := own_slice ho
   have hD2 := HDd2.out.later hb
   have hD3 := HDd2.out.setHeld hb ho
   have k2 := hD2.cells.2.1
   have f2 := hD2.free 1
   have HB3 := Hid.mk' ((HBd.out.trans (Fr.ofBelow (T := fun i => i = g) hb) fun _ _ q => q).trans (Fr.setCell W2 g 1 (.slice pv (laidL ls x.1 x.2).length cv)) fun _ _ q => q)
   have HLo3 : Hid (∀ b, (Value.slice pv (laidL ls x.1 x.2).length cv).ownBlock = some b → hv.ownBlock = some b ∨ w.heap.size ≤ b) := fun b q => .inr (Nat.le_trans HBd.out.size (ho.lt b q).1)
   have HS2 := Hid.mk' (HW.out _ _ _ hD2)
   have HS3 := Hid.mk' (HW.out _ _ _ hD3)
   have HD3 := Hid.mk' hD3
   generalize (laidL ls x.1 x.2).length = M2 at *
   rw [← HE.out] at HD3
   clear hD2 hD3 ho hb HC3 HDd2 HBd
   refine ⟨_, rfl, HS2.out, ?_⟩
   simp only [Act.put, pA, pB, pC]
   refine wpOrd_yield (v := .pointer (some ⟨g, 0, none⟩)) rfl (fun u _ => by go_simp) ?_
   simp only [Act.put, pA, pB, pC]
   refine wpOrd_yield (v := .pointer (some ⟨g, 1, none⟩)) rfl (fun u _ => by go_simp) ?_
   simp only [Act.put, pA, pB, pC]
   refine wpOrd_do (w' := W2.setCell ⟨g, 1, none⟩ (.slice pv M2 cv)) rfl (by go_simp) HS3.out ?_
   refine wpOrd_nil ?_
   simp only [Act.put]
   clear k1 k2 f2 HS2 HS3 HW c1 c2
   generalize W2.setCell ⟨g, 1, none⟩ (.slice pv M2 cv) = Y at *
   go_wp2
   exact ⟨⟨j + 1, _, by omega, by omega, by go_num, HD3.out, HB3.out, HLo3.out⟩, by simp [intOf]; omega⟩
  ·have hD := HD.out
   rw [keptL_take _ _ _ (by have := HN.out; have := HK2.out; omega)] at hD
   have f2 := hD.free 2
   have HB2 := Hid.mk' (HB.out.trans (Fr.setCell wr g 2 (.slice none 0 0)) fun _ _ q => q)
   have H2 := Hid.mk' hD.nilW
   clear hD HD HB HK
   by_cases hjN : (j : Int) < N
   all_goals
    go_upto_region 9 with fail
    clear c2 f2
    generalize wr.setCell ⟨g, 2, none⟩ (.slice none 0 0) = Y at *
    obtain ⟨po, co, e0, -⟩ := own_slice H2.out.ops
    have c6 := H2.out.cells.2.2.2.2.2.2.1
    have f6 := H2.out.free 6
    rw [e0] at c6
    have H3 := Hid.mk' H2.out.nilO
    have HB3 := Hid.mk' (HB2.out.trans (Fr.setCell Y g 6 (.slice none 0 0)) fun _ _ q => q)
    clear H2 HB2
    generalize hmo : List.length _ = mo at c6
    go_upto_region 10 with fail
    clear c6 f6
    generalize Y.setCell ⟨g, 6, none⟩ (.slice none 0 0) = Y2 at *
    have c5 := H3.out.cells.2.2.2.2.2.1
    have f5 := H3.out.free 5
    have H4 := Hid.mk' (H3.out.set (j := 5) (u := .bool false) (s' := { s with held := rLay s.held (keptL s.wait kl), wait := [], ops := [], dead := false }) rfl rfl rfl rfl)
    have HB4 := Hid.mk' (HB3.out.trans (Fr.setCell Y2 g 5 (.bool false)) fun _ _ q => q)
    clear H3 HB3
    go_upto_region 11 with fail
    clear c5 f5
    generalize Y2.setCell ⟨g, 5, none⟩ (.bool false) = Y3 at *
    have c3 := H4.out.cells.2.2.2.1
    have f3 := H4.out.free 3
    have H5 := Hid.mk' (H4.out.set (j := 3) (u := .bool false) (s' := { s with held := rLay s.held (keptL s.wait kl), wait := [], ops := [], dead := false, fused := false }) rfl rfl rfl rfl)
    have HB5 := Hid.mk' (HB4.out.trans (Fr.setCell Y3 g 3 (.bool false)) fun _ _ q => q)
    clear H4 HB4
    go_upto_region 12 with fail
    clear c3 f3
    generalize Y3.setCell ⟨g, 3, none⟩ (.bool false) = Y4 at *
    have c10 := H5.out.cells.2.2.2.2.2.2.2.2.2.2
    have f10 := H5.out.free 10
    have H6 := Hid.mk' (HBS.out _ _ (H5.out.set (j := 10) (u := .int .i64 0) (s' := { s with held := rLay s.held (keptL s.wait kl), wait := [], ops := [], dead := false, fused := false, owner := 0 }) rfl rfl rfl rfl))
    have HB6 := Hid.mk' (HB5.out.trans (Fr.setCell Y4 g 10 (.int .i64 0)) fun _ _ q => q)
    clear H5 HB5
    go_wp2
    go_ret
    exact ⟨rfl, _, H6.out, HB6.out, HLo.out⟩
end Go.Proofs.YtichojdcoegboaaGreatW
namespace Go.Proofs.YtichojdcoegboaaGreatW
open Go.RowKit Go.Maps
variable {w : World} {B g : Nat} {hv wv ov : Value} {s : RSt}
def intRow (x : Int) : List Value := [.int .i64 x]
theorem intRow_len (x : Int) : (intRow x).length = 1 := rfl
theorem intRow_one (x : Int) : ∀ u ∈ intRow x, u.oneCell' = true := fun u hu => by
 simp only [intRow, List.mem_singleton] at hu
 subst hu
 rfl
theorem info3t : (Tryz.prog.info? 3).map (fun i => (i.zero, i.size, i.bytes)) = some (some (.int .i64 0), 1, 8) := by kernel_rfl
theorem exec_ldAt {o : Oper} {a : Act} {W : World} {x : Operand} {ty : TypeId} {p v : Value} (ho : o.op = .load ty x) (hx : a.eval x = p) (h : (Instr.loadAt ty p).run Tryz.prog W = .ok v W) : (execOp a.eval o).run Tryz.prog W = .ok (.value v) W := by
 unfold execOp
 simp only [ho, hx, Sem.run_bind, h, Result.andThen_ok, Sem.run_pure]
theorem exec_slice108 {o : Oper} {a : Act} {W : World} {y : Operand} {r : Rec} (ho : o.op = .buildSlice 49 1 #[(0, y)]) (hy : a.eval y = .agg (recCells r).toArray) : (execOp a.eval o).run Tryz.prog W = .ok (.value (.slice (some ⟨W.heap.size, 0, none⟩) 1 1)) (W.alloc (.cells (recCells r).toArray 98)) := by
 have e := build67 r W
 generalize (recCells r).toArray = Z at *
 simp [execOp, ho, hy, e]
theorem rec_load {N cw j : Nat} {po : Option Addr} {x : Rec} (h : RDAt w B g hv wv (.slice po N cw) s) (hx : s.ops[j]? = some x) : ∃ b0 off, po = some ⟨b0, off, none⟩ ∧ (Instr.loadAt 98 (.pointer (some ⟨b0, off + j * 1026, none⟩))).run Tryz.prog w = .ok (.agg (recCells x).toArray) w := by
 have ho := h.ops
 have hN : N = s.ops.length := by
  obtain ⟨p, c, e, _⟩ := own_slice ho
  injection e
 rw [hN] at ho
 obtain ⟨b, off, e, _, hC⟩ := own_lies recCells_len ho (by have := (List.getElem?_eq_some_iff.1 hx).1; omega)
 exact ⟨b, off, e, run_loadAt_mid (P := Tryz.prog) w b (off + j * 1026) 98 (recCells x) _ (fun i v hv => hC j x hx i v hv) Tryz.underlying98 rfl (by rw [recCells_len]; exact size108)⟩
set_option maxRecDepth 20000 in
set_option maxHeartbeats 4000000 in
theorem rPending_any (h : RDAt w B g hv wv ov s) (hl : s.wait.length ≤ 10000000) :
  Calls Tryz.prog 64 #[.pointer (some ⟨g, 0, none⟩)] w fun e w' => ∃ v, e = .returned v ∧ w'.ownsRow w.heap.size 3 1 v s.wait.length ((s.wait.map (·.1)).flatMap intRow) ∧ Below w.heap.size w w' := by
 obtain ⟨pw, cw, rfl, -⟩ := own_slice h.wait
 obtain ⟨N, hN⟩ : ∃ N, s.wait.length = N := ⟨_, rfl⟩
 have HN := Hid.mk' hN
 rw [hN] at h hl ⊢
 clear hN
 have HD := Hid.mk' h
 clear h
 go_enter Tryz.func64, Tryz.ntmps64
 go_wp2
 go_loopw [3, 4] (fun s3 s4 wx => ∃ j : Nat, j ≤ N ∧ s4 = .int .i64 j ∧ Hid (wx.ownsRow w.heap.size 3 1 s3 ((s.wait.map (·.1)).take j).length (((s.wait.map (·.1)).take j).flatMap intRow)) ∧ Hid (Below w.heap.size w wx)) (fun _ s4 _ => N - (intOf s4).toNat)
 case atStart => exact ⟨0, by omega, rfl, World.ownsRow_nil _ _ _ _, Below.refl _ _⟩
 case round =>
  obtain ⟨j, hj, rfl, HO, HB⟩ := hrel
  have hD := HD.out.later HB.out
  have c2 := hD.cells.2.2.1
  by_cases hj2 : (j : Int) < N
  ·have hjl : j < s.wait.length := by have := HN.out; omega
   have hcc : s.wait[j]? = some (s.wait[j]'hjl) := List.getElem?_eq_getElem hjl
   generalize s.wait[j]'hjl = x at hcc
   have ht : (s.wait.map (·.1)).take (j + 1) = (s.wait.map (·.1)).take j ++ [x.1] := by rw [List.take_add_one, List.getElem?_map, hcc]; rfl
   obtain ⟨p', c', e2, hIw, -, -⟩ := HL.img (show HL B wr (.slice pw N cw) s.wait from hD.wait)
   injection e2 with e2 e3 e4
   subst e2
   obtain ⟨b0, off, rfl, -, hC⟩ := hIw (by omega)
   have q1 : wr.cell? ⟨b0, off + j * 1025, none⟩ = some (.int .i64 x.1) := (hC j x hcc).1
   obtain ⟨i0, hi0, hz0, hz1, hz2⟩ := info_parts info3t
   obtain ⟨v', w3, hr, ho, hb3, -⟩ := own_pushF intRow_len intRow_one Tryz.underlying90 hi0 hz0 hz1 hz2 rfl (by omega) (by omega) HO.out HB.out.size (by rw [List.length_take]; omega) x.1 90
   rw [← ht] at ho
   have HO2 := Hid.mk' ho
   have HB2 := Hid.mk' (HB.out.trans hb3)
   have HR := Hid.mk' (show (Builtin.append_ #[90, 90] 90 #[u3, .slice (some ⟨wr.heap.size, 0, none⟩) 1 1]).run Tryz.prog (wr.alloc (.cells #[.int .i64 x.1] 3)) = .ok v' w3 from hr)
   clear hr ho hb3 hIw hC hcc ht HO HB hD e3 e4
   go_wp2_with (at_builtin; refine wpList_exec rfl (exec_pushY rfl rfl rfl HR.out) ?_)
   exact ⟨⟨j + 1, by omega, by go_num, HO2.out, HB2.out⟩, by simp [intOf]; omega⟩
  ·have hjN : N = j := by omega
   subst hjN
   have ho := HO.out
   rw [List.take_of_length_le (by rw [List.length_map]; have := HN.out; omega), List.length_map, HN.out] at ho
   have HO2 := Hid.mk' ho
   clear ho HO hD
   go_wp2
   go_ret
   exact ⟨_, rfl, HO2.out, HB.out⟩
set_option maxRecDepth 20000 in
set_option maxHeartbeats 4000000 in
theorem rHistory_any (h : RDAt w B g hv wv ov s) (hl : s.ops.length ≤ 10000000) :
  Calls Tryz.prog 11 #[.pointer (some ⟨g, 0, none⟩)] w fun e w' => ∃ v, e = .returned v ∧ w'.ownsRow w.heap.size 98 1026 v s.ops.length (s.ops.flatMap recCells) ∧ Below w.heap.size w w' := by
 obtain ⟨pw, cw, rfl, -⟩ := own_slice h.ops
 obtain ⟨N, hN⟩ : ∃ N, s.ops.length = N := ⟨_, rfl⟩
 have HN := Hid.mk' hN
 rw [hN] at h hl ⊢
 clear hN
 have HD := Hid.mk' h
 clear h
 go_enter Tryz.func11, Tryz.ntmps11
 go_wp2
 go_loopw [3, 4] (fun s3 s4 wx => ∃ j : Nat, j ≤ N ∧ s4 = .int .i64 j ∧ Hid (wx.ownsRow w.heap.size 98 1026 s3 (s.ops.take j).length ((s.ops.take j).flatMap recCells)) ∧ Hid (Below w.heap.size w wx)) (fun _ s4 _ => N - (intOf s4).toNat)
 case atStart => exact ⟨0, by omega, rfl, World.ownsRow_nil _ _ _ _, Below.refl _ _⟩
 case round =>
  obtain ⟨j, hj, rfl, HO, HB⟩ := hrel
  have hD := HD.out.later HB.out
  have c2 := hD.cells.2.2.2.2.2.2.1
  by_cases hj2 : (j : Int) < N
  ·have hjl : j < s.ops.length := by have := HN.out; omega
   have hcc : s.ops[j]? = some (s.ops[j]'hjl) := List.getElem?_eq_getElem hjl
   generalize s.ops[j]'hjl = x at hcc
   have ht : s.ops.take (j + 1) = s.ops.take j ++ [x] := by rw [List.take_add_one, hcc]; rfl
   obtain ⟨b0, off, rfl, q1⟩ := rec_load hD hcc
   have HQ := Hid.mk' q1
   obtain ⟨i0, hi0, hz0, hz1, hz2⟩ := info_parts info108
   obtain ⟨v', w3, hr, ho, hb3, -⟩ := own_pushF recCells_len recCells_one Tryz.underlying49 hi0 hz0 hz1 hz2 (rec_size ⟨0, 0, nought⟩) (by omega) (by omega) HO.out HB.out.size (by rw [List.length_take]; omega) x 49
   rw [← ht] at ho
   have HO2 := Hid.mk' ho
   have HB2 := Hid.mk' (HB.out.trans hb3)
   have HR := Hid.mk' hr
   clear hr ho hb3 hcc ht HO HB hD q1
   go_wp2_with (first | (with_reducible refine isLoad 98 ?_; refine wpList_exec rfl (exec_ldAt (p := .pointer (some ⟨b0, off + j * 1026, none⟩)) (v := .agg (recCells x).toArray) rfl rfl HQ.out) ?_) | refine wpList_exec rfl (exec_slice108 (r := x) rfl rfl) ?_ | (at_builtin; refine wpList_exec rfl (exec_pushY rfl rfl rfl HR.out) ?_))
   exact ⟨⟨j + 1, by omega, by go_num, HO2.out, HB2.out⟩, by simp [intOf]; omega⟩
  ·have hjN : N = j := by omega
   subst hjN
   have ho := HO.out
   rw [List.take_of_length_le (by have := HN.out; omega), HN.out] at ho
   have HO2 := Hid.mk' ho
   clear ho HO hD
   go_wp2
   go_ret
   exact ⟨_, rfl, HO2.out, HB.out⟩
end Go.Proofs.YtichojdcoegboaaGreatW
