/- Several texts joined, each with its own remark; no condition. -/
import Derived.Test.YtembocfghkmieaaK7
import Derived.Test.YtembocfghkmieaaK3
import Derived.Test.YtembocfghkmieaaK4
import Derived.Test.YtembocfghkmieaaK5
/- The document's Barrier: all that is pending is held; lists of at most a million. -/
namespace Go.Proofs.Ytembocfghkmieaa
open Go.RowKit Go.Maps
variable {w : World} {B g : Nat} {hv wv ov : Value} {s : RSt}
/-- What Barrier does. -/
def rBarS (s : RSt) : RSt := { rLets s with held := rLay (rLets s).held (rLets s).wait, wait := [], ops := (rLets s).ops ++ [⟨2, 0, nought⟩] }
theorem RDAt.waitAt {b0 off N cw j : Nat} {x : Cel} (h : RDAt w B g hv (.slice (some ⟨b0, off, none⟩) N cw) ov s) (hx : s.wait[j]? = some x) :
    w.cell? ⟨g, 2, none⟩ = some (.slice (some ⟨b0, off, none⟩) N cw) ∧ w.cell? ⟨b0, off + j * 1025, none⟩ = some (.int .i64 x.1) ∧ BlkAt w b0 (off + j * 1025 + 1) x.2 := by
  obtain ⟨p', c', e2, hI, -, -⟩ := HL.img (show HL B w (.slice (some ⟨b0, off, none⟩) N cw) s.wait from h.wait)
  injection e2 with e2 e3 e4
  subst e2
  obtain ⟨b1, o1, e5, _, hC⟩ := hI (by have := (List.getElem?_eq_some_iff.1 hx).1; omega)
  injection e5 with e5
  injection e5 with e6 e7
  subst e6
  subst e7
  exact ⟨h.cells.2.2.1, hC j x hx⟩
set_option maxRecDepth 20000 in
theorem rBarrier_stopped (h : RDAt w B g hv wv ov s) (hd : s.dead = true) :
    Calls Try.prog 44 #[.pointer (some ⟨g, 0, none⟩)] w fun e w' => e = .returned (.int .i64 3) ∧ w' = w := by
  have c5 := h.cells.2.2.2.2.2.1
  rw [hd] at c5
  clear h
  go_enter Try.func44, Try.ntmps44
  go_wp2
  go_ret
  exact ⟨rfl, rfl⟩
set_option maxRecDepth 20000 in
theorem rBarrier_dead (h : RDAt w B g hv wv ov s) (hd : s.dead = false) (hL : rLetsB s = false) (hl : s.fused = true → 0 ≤ s.left ∧ s.left ≤ 9223372036854775807) (hc : 0 ≤ s.count ∧ s.count < 9223372036854775807) :
    Calls Try.prog 44 #[.pointer (some ⟨g, 0, none⟩)] w fun e w' => e = .returned (.int .i64 3) ∧ RDAt w' B g hv wv ov (rLets s) ∧ Fr (fun i => i = g) w w' := by
  have c5 := h.cells.2.2.2.2.2.1
  rw [hd] at c5
  have hT := rLets_any h hl hc
  rw [hL] at hT
  clear h hl hc
  go_enter Try.func44, Try.ntmps44
  go_wp2_with (go_at_call 75; fail)
  refine hT.mono ?_
  rintro e W ⟨rfl, hD, hF⟩
  have HD := Hid.mk' hD
  have HF2 := Hid.mk' (hF)
  clear hD hF
  go_wp2
  go_ret
  exact ⟨rfl, HD.out, HF2.out⟩
set_option maxRecDepth 20000 in
set_option maxHeartbeats 4000000 in
theorem rBarrier_ok (h : RDAt w B g hv wv ov s) (hd : s.dead = false) (hL : rLetsB s = true) (hl : s.fused = true → 0 ≤ s.left ∧ s.left ≤ 9223372036854775807) (hc : 0 ≤ s.count ∧ s.count < 9223372036854775807) (hlh : s.held.length + s.wait.length ≤ 9000000) (hlo : s.ops.length ≤ 10000000) :
    Calls Try.prog 44 #[.pointer (some ⟨g, 0, none⟩)] w fun e w' => e = .returned (.int .i64 0) ∧ RBarP B g hv ov (rBarS s) w w' := by
  have c5 := h.cells.2.2.2.2.2.1
  rw [hd] at c5
  have hT := rLets_any h hl hc
  rw [hL] at hT
  have hl1 : (rLets s).held.length + (rLets s).wait.length ≤ 9000000 := by rw [rLets_wait, rLets_held]; exact hlh
  have hl2 : (rLets s).ops.length ≤ 10000000 := by rw [rLets_ops]; exact hlo
  have HBS : Hid (∀ (W : World) (x y : Value), RDAt W B g x (.slice none 0 0) y { rLets s with held := rLay (rLets s).held (rLets s).wait, wait := [], ops := (rLets s).ops ++ [⟨2, 0, nought⟩] } → RDAt W B g x (.slice none 0 0) y (rBarS s)) := fun _ _ _ q => q
  clear h hl hc
  go_enter Try.func44, Try.ntmps44
  go_wp2_with (go_at_call 75; fail)
  refine hT.mono ?_
  rintro e W ⟨rfl, hD, hF⟩
  have HF2 := Hid.mk' (hF.mono (T' := Tco g ov) fun _ _ q => .inl q)
  clear hF c5 hT
  generalize rLets s = S at *
  obtain ⟨pw, cw, rfl, -⟩ := own_slice hD.wait
  obtain ⟨N, hN⟩ : ∃ N, S.wait.length = N := ⟨_, rfl⟩
  have HN := Hid.mk' hN
  rw [hN] at hD hl1
  clear hN
  have HD0 := Hid.mk' (show RDAt W B g hv (.slice pw N cw) ov { S with held := rLay S.held (S.wait.take 0) } from hD)
  clear hD
  go_wp2
  go_loopw [3] (fun s3 wx => ∃ (j : Nat) (hx : Value), j ≤ N ∧ s3 = .int .i64 j ∧ Hid (RDAt wx B g hx (.slice pw N cw) ov { S with held := rLay S.held (S.wait.take j) }) ∧ Hid (Fr (Tco g ov) w wx) ∧ Hid (∀ b, hx.ownBlock = some b → hv.ownBlock = some b ∨ w.heap.size ≤ b)) (fun s3 _ => N - (intOf s3).toNat)
  case atStart => exact ⟨0, hv, by omega, rfl, HD0.out, HF2.out, fun _ q => .inl q⟩
  case round =>
    obtain ⟨j, hx, hj, rfl, HD, HB, HLo⟩ := hrel
    clear HD0 HF2
    have c2 := HD.out.cells.2.2.1
    by_cases hj2 : (j : Int) < N
    · have hjl : j < S.wait.length := by have := HN.out; omega
      have hcc : S.wait[j]? = some (S.wait[j]'hjl) := List.getElem?_eq_getElem hjl
      have ht : S.wait.take (j + 1) = S.wait.take j ++ [S.wait[j]'hjl] := by rw [List.take_add_one, List.getElem?_eq_getElem hjl]; rfl
      generalize S.wait[j]'hjl = x at hcc ht
      have c1 := HD.out.cells.2.1
      obtain ⟨p', c', e2, hIw, -, -⟩ := HL.img (show HL B wr (.slice pw N cw) S.wait from HD.out.wait)
      injection e2 with e2 e3 e4
      subst e2
      obtain ⟨ph, ch, rfl, hIh, -, -⟩ := HL.img (show HL B wr hx (rLay S.held (S.wait.take j)) from HD.out.held)
      obtain ⟨b0, off, rfl, hlt0, hC⟩ := hIw (by omega)
      have HW := Hid.mk' (fun (u : World) (hx' : Value) (l : List Cel) (h : RDAt u B g hx' (.slice (some ⟨b0, off, none⟩) N cw) ov { S with held := l }) => h.waitAt (j := j) (x := x) hcc)
      have hlen : (rLay S.held (S.wait.take j)).length ≤ 9000000 := by
        have a := rLay_len S.held (S.wait.take j)
        have b : (S.wait.take j).length ≤ N := by rw [List.length_take]; omega
        omega
      have HC := Hid.mk' (laid_any (rLay S.held (S.wait.take j)) ph ch x.1 x.2 wr.drew hlen (show ImgAt wr.drew ph _ from hIh))
      have HE := Hid.mk' (show rLay S.held (S.wait.take (j + 1)) = laidL (rLay S.held (S.wait.take j)) x.1 x.2 by rw [ht, rLay_snoc])
      have HDd := Hid.mk' HD.out.drew
      have HBd := Hid.mk' HB.out.drewF
      generalize hls : rLay S.held (S.wait.take j) = ls at *
      clear hC hcc ht hIw hIh HD HB HLo hls e3 e4
      obtain ⟨M, hM⟩ : ∃ M, ls.length = M := ⟨_, rfl⟩
      rw [hM] at c1
      have HC2 := HC.out
      rw [hM] at HC2
      have HC3 := Hid.mk' HC2
      have HD2 := HDd.out
      rw [hM] at HD2
      have HDd2 := Hid.mk' HD2
      clear HC HC2 HDd HD2 hM hlen
      go_wp2
      refine wp_region_ord (S := fun u => u.cell? ⟨g, 2, none⟩ = some (.slice (some ⟨b0, off, none⟩) N cw) ∧ u.cell? ⟨b0, off + j * 1025, none⟩ = some (.int .i64 x.1) ∧ BlkAt u b0 (off + j * 1025 + 1) x.2) [(0, true), (1, true), (2, true), (3, true), (5, true), (6, true), (7, true), (8, true), (9, true), (10, true), (11, true), (12, true), (13, true), (14, true), (15, true), (16, true), (17, true), (18, true), (19, true), (20, true), (4, false), (21, false), (22, true), (23, true), (24, false)]
        (by kernel_rfl) rfl (by kernel_rfl) (fun d _ _ _ _ h => by cases d <;> exact h) (HW.out _ _ _ HDd2.out) ?_
      simp only [inOrd, List.getElem?_cons_zero, List.getElem?_cons_succ]
      refine wpOrd_move rfl _ rfl ?_
      simp only [Act.put, List.setIfInBounds_toArray, List.set_cons_succ, List.set_cons_zero]
      refine wpOrd_move rfl _ rfl ?_
      simp only [Act.put, List.setIfInBounds_toArray, List.set_cons_succ, List.set_cons_zero]
      refine wpOrd_yield (v := .pointer (some ⟨g, 0, none⟩)) rfl (fun u _ => by go_simp) ?_
      simp only [Act.put, List.setIfInBounds_toArray, List.set_cons_succ, List.set_cons_zero]
      refine wpOrd_yield (v := .pointer (some ⟨g, 1, none⟩)) rfl (fun u _ => by go_simp) ?_
      simp only [Act.put, List.setIfInBounds_toArray, List.set_cons_succ, List.set_cons_zero]
      refine wpOrd_move rfl _ rfl ?_
      simp only [Act.put, List.setIfInBounds_toArray, List.set_cons_succ, List.set_cons_zero]
      refine wpOrd_yield (v := .pointer (some ⟨g, 0, none⟩)) rfl (fun u _ => by go_simp) ?_
      simp only [Act.put, List.setIfInBounds_toArray, List.set_cons_succ, List.set_cons_zero]
      refine wpOrd_yield (v := .pointer (some ⟨g, 2, none⟩)) rfl (fun u _ => by go_simp) ?_
      simp only [Act.put, List.setIfInBounds_toArray, List.set_cons_succ, List.set_cons_zero]
      refine wpOrd_yield (v := .slice (some ⟨b0, off, none⟩) N cw) rfl (fun u hu => by have hu1 := hu.1; go_simp) ?_
      simp only [Act.put, List.setIfInBounds_toArray, List.set_cons_succ, List.set_cons_zero]
      refine wpOrd_move rfl _ rfl ?_
      simp only [Act.put, List.setIfInBounds_toArray, List.set_cons_succ, List.set_cons_zero]
      refine wpOrd_yield (v := .pointer (some ⟨b0, off + j * 1025, none⟩)) rfl (fun u _ => by go_simp) ?_
      simp only [Act.put, List.setIfInBounds_toArray, List.set_cons_succ, List.set_cons_zero]
      refine wpOrd_yield (v := .pointer (some ⟨b0, off + j * 1025, none⟩)) rfl (fun u _ => by go_simp) ?_
      simp only [Act.put, List.setIfInBounds_toArray, List.set_cons_succ, List.set_cons_zero]
      refine wpOrd_yield (v := .int .i64 x.1) rfl (fun u hu => by have hu1 := hu.2.1; go_simp) ?_
      simp only [Act.put, List.setIfInBounds_toArray, List.set_cons_succ, List.set_cons_zero]
      refine wpOrd_move rfl _ rfl ?_
      simp only [Act.put, List.setIfInBounds_toArray, List.set_cons_succ, List.set_cons_zero]
      refine wpOrd_yield (v := .pointer (some ⟨g, 0, none⟩)) rfl (fun u _ => by go_simp) ?_
      simp only [Act.put, List.setIfInBounds_toArray, List.set_cons_succ, List.set_cons_zero]
      refine wpOrd_yield (v := .pointer (some ⟨g, 2, none⟩)) rfl (fun u _ => by go_simp) ?_
      simp only [Act.put, List.setIfInBounds_toArray, List.set_cons_succ, List.set_cons_zero]
      refine wpOrd_yield (v := .slice (some ⟨b0, off, none⟩) N cw) rfl (fun u hu => by have hu1 := hu.1; go_simp) ?_
      simp only [Act.put, List.setIfInBounds_toArray, List.set_cons_succ, List.set_cons_zero]
      refine wpOrd_move rfl _ rfl ?_
      simp only [Act.put, List.setIfInBounds_toArray, List.set_cons_succ, List.set_cons_zero]
      refine wpOrd_yield (v := .pointer (some ⟨b0, off + j * 1025, none⟩)) rfl (fun u _ => by go_simp) ?_
      simp only [Act.put, List.setIfInBounds_toArray, List.set_cons_succ, List.set_cons_zero]
      refine wpOrd_yield (v := .pointer (some ⟨b0, off + j * 1025 + 1, none⟩)) rfl (fun u _ => by go_simp) ?_
      simp only [Act.put, List.setIfInBounds_toArray, List.set_cons_succ, List.set_cons_zero]
      refine wpOrd_yield (v := .agg (blk x.2)) rfl (fun u hu => exec_ldBlk rfl rfl hu.2.2) ?_
      simp only [Act.put, List.setIfInBounds_toArray, List.set_cons_succ, List.set_cons_zero]
      have k1 := HDd2.out.cells.2.1
      refine wpOrd_run (v := .slice ph M ch) (w' := wr.drew) rfl (by go_simp) (HW.out _ _ _ HDd2.out) ?_
      simp only [Act.put, List.setIfInBounds_toArray, List.set_cons_succ, List.set_cons_zero]
      refine wpOrd_call rfl 76 _ _ rfl Try.call76 [.slice ph M ch, .int .i64 x.1, .agg (blk x.2)] rfl ?_
      refine HC3.out.mono ?_
      rintro e W2 ⟨v, rfl, ho, hb⟩
      obtain ⟨pv, cv, rfl, -⟩ := own_slice ho
      have hD2 := HDd2.out.later hb
      have hD3 := HDd2.out.setHeld hb ho
      have k2 := hD2.cells.2.1
      have f2 := hD2.free 1
      have HB3 := Hid.mk' ((HBd.out.trans (Fr.ofBelow (T := fun _ => False) hb) fun _ _ q => q.elim).trans (Fr.setCell W2 g 1 (.slice pv (laidL ls x.1 x.2).length cv)) fun _ _ q => .inl q)
      have HLo3 : Hid (∀ b, (Value.slice pv (laidL ls x.1 x.2).length cv).ownBlock = some b → hv.ownBlock = some b ∨ w.heap.size ≤ b) := fun b q => .inr (Nat.le_trans HBd.out.size (ho.lt b q).1)
      have HS2 := Hid.mk' (HW.out _ _ _ hD2)
      have HS3 := Hid.mk' (HW.out _ _ _ hD3)
      have HD3 := Hid.mk' hD3
      generalize (laidL ls x.1 x.2).length = M2 at *
      rw [← HE.out] at HD3
      clear hD2 hD3 ho hb HC3 HDd2 HBd
      refine ⟨_, rfl, HS2.out, ?_⟩
      simp only [Act.put, List.setIfInBounds_toArray, List.set_cons_succ, List.set_cons_zero]
      refine wpOrd_yield (v := .pointer (some ⟨g, 0, none⟩)) rfl (fun u _ => by go_simp) ?_
      simp only [Act.put, List.setIfInBounds_toArray, List.set_cons_succ, List.set_cons_zero]
      refine wpOrd_yield (v := .pointer (some ⟨g, 1, none⟩)) rfl (fun u _ => by go_simp) ?_
      simp only [Act.put, List.setIfInBounds_toArray, List.set_cons_succ, List.set_cons_zero]
      refine wpOrd_do (w' := W2.setCell ⟨g, 1, none⟩ (.slice pv M2 cv)) rfl (by go_simp) HS3.out ?_
      refine wpOrd_nil ?_
      simp only [Act.put]
      clear k1 k2 f2 HS2 HS3 HW c1 c2
      generalize W2.setCell ⟨g, 1, none⟩ (.slice pv M2 cv) = Y at *
      go_wp2
      exact ⟨⟨j + 1, _, by omega, by go_num, HD3.out, HB3.out, HLo3.out⟩, by simp [intOf]; omega⟩
    · have hjN : N = j := by omega
      subst hjN
      have hD := HD.out
      rw [← HN.out, List.take_length, HN.out] at hD
      have f2 := hD.free 2
      have H2 := Hid.mk' hD.nilW
      have HB2 := Hid.mk' (HB.out.trans (Fr.setCell wr g 2 (.slice none 0 0)) fun _ _ q => .inl q)
      clear hD HD HB
      go_upto_region 10 with fail
      clear c2 f2
      generalize wr.setCell ⟨g, 2, none⟩ (.slice none 0 0) = Y at *
      obtain ⟨v', W5, hr, hw, hb, hf, hor, hE⟩ := H2.out.pushO hl2 ⟨2, 0, nought⟩
      obtain ⟨po, co, e0, -⟩ := own_slice H2.out.ops
      obtain ⟨aa, am, ac, rfl⟩ : ∃ a m c, v' = Value.slice a m c := by obtain ⟨p, c, e, _⟩ := own_slice hE.ops; exact ⟨_, _, _, e⟩
      have c6 := H2.out.cells.2.2.2.2.2.2.1
      have k6 : W5.cell? ⟨g, 6, none⟩ = some ov := Joins.cell_of_block hw 6
      have f6 : W5.frozen? ⟨g, 6, none⟩ = false := Joins.unfrozen_of_block hw 6
      have HLo5 : Hid (∀ b, (Value.slice aa am ac).ownBlock = some b → ov.ownBlock = some b ∨ w.heap.size ≤ b) := fun b q => (hor b q).elim .inl fun r => .inr (Nat.le_trans HB2.out.size r)
      have HE := Hid.mk' (HBS.out _ _ _ hE)
      have HB5 := Hid.mk' ((HB2.out.trans hf fun _ _ q => .inr q).trans (Fr.setCell W5 g 6 (.slice aa am ac)) fun _ _ q => .inl q)
      rw [e0] at c6 k6 hr
      have HR := Hid.mk' hr
      have hbl := fun u => build67 ⟨2, 0, nought⟩ u
      clear hr hw hb hf hor hE e0 H2 HB2 HBS
      generalize hmo : List.length _ = mo at c6 k6 HR
      go_wp2_with (first | refine wpList_bar rfl rfl ?_ | refine wpList_build1 rfl 67 108 (.tmp 56) rfl _ rfl (hbl _) ?_ | (at_builtin; refine wpList_exec rfl (exec_pushY rfl rfl rfl HR.out) ?_))
      go_ret
      exact ⟨rfl, _, _, HE.out, HB5.out, HLo.out, HLo5.out⟩
end Go.Proofs.Ytembocfghkmieaa
/- The document's Crash: of what is pending that is held which is kept; lists of at most a million. -/
namespace Go.Proofs.Ytembocfghkmieaa
open Go.RowKit Go.Maps
variable {w : World} {B g : Nat} {hv wv ov : Value} {s : RSt}
/-- What Crash does. -/
def rCrashS (s : RSt) (kl : List Bool) : RSt := { s with held := rLay s.held (keptL s.wait kl), wait := [], ops := [], dead := false, fused := false, owner := 0 }
theorem keptL_len : ∀ (l : List Cel) (k : List Bool), (keptL l k).length ≤ l.length
  | [], k => by simp [keptL]
  | x :: l, [] => by simp [keptL]
  | x :: l, y :: k => by
    have ih := keptL_len l k
    cases y
    · show (keptL l k).length ≤ _
      rw [List.length_cons]
      omega
    · show (x :: keptL l k).length ≤ _
      rw [List.length_cons, List.length_cons]
      omega
set_option maxRecDepth 20000 in
set_option maxHeartbeats 4000000 in
theorem rCrash_ok (h : RDAt w B g hv wv ov s) {pk : Option Addr} {ck : Nat} {kl : List Bool} (hk : 0 < kl.length → ∃ b off, pk = some ⟨b, off, none⟩ ∧ b ≠ g ∧ b < w.heap.size ∧ ∀ i x, kl[i]? = some x → w.cell? ⟨b, off + i, none⟩ = some (.bool x)) (hlh : s.held.length + s.wait.length ≤ 9000000) (hkl : kl.length < 9223372036854775807) :
    Calls Try.prog 77 #[.pointer (some ⟨g, 0, none⟩), .slice pk kl.length ck] w fun e w' => e = .returned (.int .i64 0) ∧ RCrP B g hv (rCrashS s kl) w w' := by
  have HK := Hid.mk' hk
  clear hk
  have HBS : Hid (∀ (W : World) (x : Value), RDAt W B g x (.slice none 0 0) (.slice none 0 0) { s with held := rLay s.held (keptL s.wait kl), wait := [], ops := [], dead := false, fused := false, owner := 0 } → RDAt W B g x (.slice none 0 0) (.slice none 0 0) (rCrashS s kl)) := fun _ _ q => q
  obtain ⟨pw, cw, rfl, -⟩ := own_slice h.wait
  obtain ⟨N, hN⟩ : ∃ N, s.wait.length = N := ⟨_, rfl⟩
  obtain ⟨K, hK⟩ : ∃ K, kl.length = K := ⟨_, rfl⟩
  have HN := Hid.mk' hN
  have HK2 := Hid.mk' hK
  rw [hN] at h hlh
  rw [hK] at hkl ⊢
  clear hN hK
  have HD0 := Hid.mk' (show RDAt w B g hv (.slice pw N cw) ov { s with held := rLay s.held (keptL (s.wait.take 0) (kl.take 0)) } from h)
  clear h
  go_enter Try.func77, Try.ntmps77
  go_wp2
  go_loopw [5] (fun s3 wx => ∃ (j : Nat) (hx : Value), j ≤ N ∧ j ≤ K ∧ s3 = .int .i64 j ∧ Hid (RDAt wx B g hx (.slice pw N cw) ov { s with held := rLay s.held (keptL (s.wait.take j) (kl.take j)) }) ∧ Hid (Fr (fun i => i = g) w wx) ∧ Hid (∀ b, hx.ownBlock = some b → hv.ownBlock = some b ∨ w.heap.size ≤ b)) (fun s3 _ => N - (intOf s3).toNat)
  case atStart => exact ⟨0, hv, by omega, by omega, rfl, HD0.out, Fr.refl _ _, fun _ q => .inl q⟩
  case round =>
    obtain ⟨j, hx, hj, hjk, rfl, HD, HB, HLo⟩ := hrel
    clear HD0
    have c2 := HD.out.cells.2.2.1
    by_cases hj2 : (j : Int) < N ∧ (j : Int) < K
    · obtain ⟨hj2, hj3⟩ := hj2
      have hjl : j < s.wait.length := by have := HN.out; omega
      have hjk2 : j < kl.length := by have := HK2.out; omega
      have hcc : s.wait[j]? = some (s.wait[j]'hjl) := List.getElem?_eq_getElem hjl
      have ht : s.wait.take (j + 1) = s.wait.take j ++ [s.wait[j]'hjl] := by rw [List.take_add_one, List.getElem?_eq_getElem hjl]; rfl
      have hck : kl[j]? = some (kl[j]'hjk2) := List.getElem?_eq_getElem hjk2
      have htk : kl.take (j + 1) = kl.take j ++ [kl[j]'hjk2] := by rw [List.take_add_one, List.getElem?_eq_getElem hjk2]; rfl
      generalize s.wait[j]'hjl = x at hcc ht
      generalize kl[j]'hjk2 = y at hck htk
      have hks := keptL_snoc x y (s.wait.take j) (kl.take j) (by rw [List.length_take, List.length_take]; omega)
      rw [← ht, ← htk] at hks
      obtain ⟨bk, ok, rfl, hbk, hbl, hcell⟩ := HK.out (by omega)
      have hy : wr.cell? ⟨bk, ok + j, none⟩ = some (.bool y) := (World.cell?_of_block (HB.out.block bk hbl hbk)).trans (hcell j y hck)
      clear hcell hck htk
      cases y
      · rw [if_neg (by simp), List.append_nil] at hks
        have HD2 := HD.out
        rw [← hks] at HD2
        have HD3 := Hid.mk' HD2
        clear HD2 HD hks ht hcc
        go_wp2
        exact ⟨⟨j + 1, _, by omega, by omega, by go_num, HD3.out, HB.out, HLo.out⟩, by simp [intOf]; omega⟩
      rw [if_pos rfl] at hks
      have c1 := HD.out.cells.2.1
      obtain ⟨p', c', e2, hIw, -, -⟩ := HL.img (show HL B wr (.slice pw N cw) s.wait from HD.out.wait)
      injection e2 with e2 e3 e4
      subst e2
      obtain ⟨ph, ch, rfl, hIh, -, -⟩ := HL.img (show HL B wr hx (rLay s.held (keptL (s.wait.take j) (kl.take j))) from HD.out.held)
      obtain ⟨b0, off, rfl, hlt0, hC⟩ := hIw (by omega)
      have HW := Hid.mk' (fun (u : World) (hx' : Value) (l : List Cel) (h : RDAt u B g hx' (.slice (some ⟨b0, off, none⟩) N cw) ov { s with held := l }) => h.waitAt (j := j) (x := x) hcc)
      have hlen : (rLay s.held (keptL (s.wait.take j) (kl.take j))).length ≤ 9000000 := by
        have a := rLay_len s.held (keptL (s.wait.take j) (kl.take j))
        have b := keptL_len (s.wait.take j) (kl.take j)
        have c : (s.wait.take j).length ≤ N := by rw [List.length_take]; omega
        omega
      have HC := Hid.mk' (laid_any (rLay s.held (keptL (s.wait.take j) (kl.take j))) ph ch x.1 x.2 wr.drew hlen (show ImgAt wr.drew ph _ from hIh))
      have HE := Hid.mk' (show rLay s.held (keptL (s.wait.take (j + 1)) (kl.take (j + 1))) = laidL (rLay s.held (keptL (s.wait.take j) (kl.take j))) x.1 x.2 by rw [hks, rLay_snoc])
      have HDd := Hid.mk' HD.out.drew
      have HBd := Hid.mk' (HB.out.trans (Fr.drew (T := fun i => i = g) wr) fun _ _ q => q)
      generalize hls : rLay s.held (keptL (s.wait.take j) (kl.take j)) = ls at *
      clear hC hcc ht hks hIw hIh HD HB HLo hls e3 e4
      obtain ⟨M, hM⟩ : ∃ M, ls.length = M := ⟨_, rfl⟩
      rw [hM] at c1
      have HC2 := HC.out
      rw [hM] at HC2
      have HC3 := Hid.mk' HC2
      have HD2 := HDd.out
      rw [hM] at HD2
      have HDd2 := Hid.mk' HD2
      clear HC HC2 HDd HD2 hM hlen
      go_wp2
      refine wp_region_ord (S := fun u => u.cell? ⟨g, 2, none⟩ = some (.slice (some ⟨b0, off, none⟩) N cw) ∧ u.cell? ⟨b0, off + j * 1025, none⟩ = some (.int .i64 x.1) ∧ BlkAt u b0 (off + j * 1025 + 1) x.2) [(0, true), (1, true), (2, true), (3, true), (5, true), (6, true), (7, true), (8, true), (9, true), (10, true), (11, true), (12, true), (13, true), (14, true), (15, true), (16, true), (17, true), (18, true), (19, true), (20, true), (4, false), (21, false), (22, true), (23, true), (24, false)]
        (by kernel_rfl) rfl (by kernel_rfl) (fun d _ _ _ _ h => by cases d <;> exact h) (HW.out _ _ _ HDd2.out) ?_
      simp only [inOrd, List.getElem?_cons_zero, List.getElem?_cons_succ]
      refine wpOrd_move rfl _ rfl ?_
      simp only [Act.put, List.setIfInBounds_toArray, List.set_cons_succ, List.set_cons_zero]
      refine wpOrd_move rfl _ rfl ?_
      simp only [Act.put, List.setIfInBounds_toArray, List.set_cons_succ, List.set_cons_zero]
      refine wpOrd_yield (v := .pointer (some ⟨g, 0, none⟩)) rfl (fun u _ => by go_simp) ?_
      simp only [Act.put, List.setIfInBounds_toArray, List.set_cons_succ, List.set_cons_zero]
      refine wpOrd_yield (v := .pointer (some ⟨g, 1, none⟩)) rfl (fun u _ => by go_simp) ?_
      simp only [Act.put, List.setIfInBounds_toArray, List.set_cons_succ, List.set_cons_zero]
      refine wpOrd_move rfl _ rfl ?_
      simp only [Act.put, List.setIfInBounds_toArray, List.set_cons_succ, List.set_cons_zero]
      refine wpOrd_yield (v := .pointer (some ⟨g, 0, none⟩)) rfl (fun u _ => by go_simp) ?_
      simp only [Act.put, List.setIfInBounds_toArray, List.set_cons_succ, List.set_cons_zero]
      refine wpOrd_yield (v := .pointer (some ⟨g, 2, none⟩)) rfl (fun u _ => by go_simp) ?_
      simp only [Act.put, List.setIfInBounds_toArray, List.set_cons_succ, List.set_cons_zero]
      refine wpOrd_yield (v := .slice (some ⟨b0, off, none⟩) N cw) rfl (fun u hu => by have hu1 := hu.1; go_simp) ?_
      simp only [Act.put, List.setIfInBounds_toArray, List.set_cons_succ, List.set_cons_zero]
      refine wpOrd_move rfl _ rfl ?_
      simp only [Act.put, List.setIfInBounds_toArray, List.set_cons_succ, List.set_cons_zero]
      refine wpOrd_yield (v := .pointer (some ⟨b0, off + j * 1025, none⟩)) rfl (fun u _ => by go_simp) ?_
      simp only [Act.put, List.setIfInBounds_toArray, List.set_cons_succ, List.set_cons_zero]
      refine wpOrd_yield (v := .pointer (some ⟨b0, off + j * 1025, none⟩)) rfl (fun u _ => by go_simp) ?_
      simp only [Act.put, List.setIfInBounds_toArray, List.set_cons_succ, List.set_cons_zero]
      refine wpOrd_yield (v := .int .i64 x.1) rfl (fun u hu => by have hu1 := hu.2.1; go_simp) ?_
      simp only [Act.put, List.setIfInBounds_toArray, List.set_cons_succ, List.set_cons_zero]
      refine wpOrd_move rfl _ rfl ?_
      simp only [Act.put, List.setIfInBounds_toArray, List.set_cons_succ, List.set_cons_zero]
      refine wpOrd_yield (v := .pointer (some ⟨g, 0, none⟩)) rfl (fun u _ => by go_simp) ?_
      simp only [Act.put, List.setIfInBounds_toArray, List.set_cons_succ, List.set_cons_zero]
      refine wpOrd_yield (v := .pointer (some ⟨g, 2, none⟩)) rfl (fun u _ => by go_simp) ?_
      simp only [Act.put, List.setIfInBounds_toArray, List.set_cons_succ, List.set_cons_zero]
      refine wpOrd_yield (v := .slice (some ⟨b0, off, none⟩) N cw) rfl (fun u hu => by have hu1 := hu.1; go_simp) ?_
      simp only [Act.put, List.setIfInBounds_toArray, List.set_cons_succ, List.set_cons_zero]
      refine wpOrd_move rfl _ rfl ?_
      simp only [Act.put, List.setIfInBounds_toArray, List.set_cons_succ, List.set_cons_zero]
      refine wpOrd_yield (v := .pointer (some ⟨b0, off + j * 1025, none⟩)) rfl (fun u _ => by go_simp) ?_
      simp only [Act.put, List.setIfInBounds_toArray, List.set_cons_succ, List.set_cons_zero]
      refine wpOrd_yield (v := .pointer (some ⟨b0, off + j * 1025 + 1, none⟩)) rfl (fun u _ => by go_simp) ?_
      simp only [Act.put, List.setIfInBounds_toArray, List.set_cons_succ, List.set_cons_zero]
      refine wpOrd_yield (v := .agg (blk x.2)) rfl (fun u hu => exec_ldBlk rfl rfl hu.2.2) ?_
      simp only [Act.put, List.setIfInBounds_toArray, List.set_cons_succ, List.set_cons_zero]
      have k1 := HDd2.out.cells.2.1
      refine wpOrd_run (v := .slice ph M ch) (w' := wr.drew) rfl (by go_simp) (HW.out _ _ _ HDd2.out) ?_
      simp only [Act.put, List.setIfInBounds_toArray, List.set_cons_succ, List.set_cons_zero]
      refine wpOrd_call rfl 76 _ _ rfl Try.call76 [.slice ph M ch, .int .i64 x.1, .agg (blk x.2)] rfl ?_
      refine HC3.out.mono ?_
      rintro e W2 ⟨v, rfl, ho, hb⟩
      obtain ⟨pv, cv, rfl, -⟩ := own_slice ho
      have hD2 := HDd2.out.later hb
      have hD3 := HDd2.out.setHeld hb ho
      have k2 := hD2.cells.2.1
      have f2 := hD2.free 1
      have HB3 := Hid.mk' ((HBd.out.trans (Fr.ofBelow (T := fun i => i = g) hb) fun _ _ q => q).trans (Fr.setCell W2 g 1 (.slice pv (laidL ls x.1 x.2).length cv)) fun _ _ q => q)
      have HLo3 : Hid (∀ b, (Value.slice pv (laidL ls x.1 x.2).length cv).ownBlock = some b → hv.ownBlock = some b ∨ w.heap.size ≤ b) := fun b q => .inr (Nat.le_trans HBd.out.size (ho.lt b q).1)
      have HS2 := Hid.mk' (HW.out _ _ _ hD2)
      have HS3 := Hid.mk' (HW.out _ _ _ hD3)
      have HD3 := Hid.mk' hD3
      generalize (laidL ls x.1 x.2).length = M2 at *
      rw [← HE.out] at HD3
      clear hD2 hD3 ho hb HC3 HDd2 HBd
      refine ⟨_, rfl, HS2.out, ?_⟩
      simp only [Act.put, List.setIfInBounds_toArray, List.set_cons_succ, List.set_cons_zero]
      refine wpOrd_yield (v := .pointer (some ⟨g, 0, none⟩)) rfl (fun u _ => by go_simp) ?_
      simp only [Act.put, List.setIfInBounds_toArray, List.set_cons_succ, List.set_cons_zero]
      refine wpOrd_yield (v := .pointer (some ⟨g, 1, none⟩)) rfl (fun u _ => by go_simp) ?_
      simp only [Act.put, List.setIfInBounds_toArray, List.set_cons_succ, List.set_cons_zero]
      refine wpOrd_do (w' := W2.setCell ⟨g, 1, none⟩ (.slice pv M2 cv)) rfl (by go_simp) HS3.out ?_
      refine wpOrd_nil ?_
      simp only [Act.put]
      clear k1 k2 f2 HS2 HS3 HW c1 c2
      generalize W2.setCell ⟨g, 1, none⟩ (.slice pv M2 cv) = Y at *
      go_wp2
      exact ⟨⟨j + 1, _, by omega, by omega, by go_num, HD3.out, HB3.out, HLo3.out⟩, by simp [intOf]; omega⟩
    · have hD := HD.out
      rw [keptL_take _ _ _ (by have := HN.out; have := HK2.out; omega)] at hD
      have f2 := hD.free 2
      have HB2 := Hid.mk' (HB.out.trans (Fr.setCell wr g 2 (.slice none 0 0)) fun _ _ q => q)
      have H2 := Hid.mk' hD.nilW
      clear hD HD HB HK
      by_cases hjN : (j : Int) < N
      all_goals
        go_upto_region 9 with fail
        clear c2 f2
        generalize wr.setCell ⟨g, 2, none⟩ (.slice none 0 0) = Y at *
        obtain ⟨po, co, e0, -⟩ := own_slice H2.out.ops
        have c6 := H2.out.cells.2.2.2.2.2.2.1
        have f6 := H2.out.free 6
        rw [e0] at c6
        have H3 := Hid.mk' H2.out.nilO
        have HB3 := Hid.mk' (HB2.out.trans (Fr.setCell Y g 6 (.slice none 0 0)) fun _ _ q => q)
        clear H2 HB2
        generalize hmo : List.length _ = mo at c6
        go_upto_region 10 with fail
        clear c6 f6
        generalize Y.setCell ⟨g, 6, none⟩ (.slice none 0 0) = Y2 at *
        have c5 := H3.out.cells.2.2.2.2.2.1
        have f5 := H3.out.free 5
        have H4 := Hid.mk' (H3.out.set (j := 5) (u := .bool false) (s' := { s with held := rLay s.held (keptL s.wait kl), wait := [], ops := [], dead := false }) rfl rfl rfl rfl)
        have HB4 := Hid.mk' (HB3.out.trans (Fr.setCell Y2 g 5 (.bool false)) fun _ _ q => q)
        clear H3 HB3
        go_upto_region 11 with fail
        clear c5 f5
        generalize Y2.setCell ⟨g, 5, none⟩ (.bool false) = Y3 at *
        have c3 := H4.out.cells.2.2.2.1
        have f3 := H4.out.free 3
        have H5 := Hid.mk' (H4.out.set (j := 3) (u := .bool false) (s' := { s with held := rLay s.held (keptL s.wait kl), wait := [], ops := [], dead := false, fused := false }) rfl rfl rfl rfl)
        have HB5 := Hid.mk' (HB4.out.trans (Fr.setCell Y3 g 3 (.bool false)) fun _ _ q => q)
        clear H4 HB4
        go_upto_region 12 with fail
        clear c3 f3
        generalize Y3.setCell ⟨g, 3, none⟩ (.bool false) = Y4 at *
        have c10 := H5.out.cells.2.2.2.2.2.2.2.2.2.2
        have f10 := H5.out.free 10
        have H6 := Hid.mk' (HBS.out _ _ (H5.out.set (j := 10) (u := .int .i64 0) (s' := { s with held := rLay s.held (keptL s.wait kl), wait := [], ops := [], dead := false, fused := false, owner := 0 }) rfl rfl rfl rfl))
        have HB6 := Hid.mk' (HB5.out.trans (Fr.setCell Y4 g 10 (.int .i64 0)) fun _ _ q => q)
        clear H5 HB5
        go_wp2
        go_ret
        exact ⟨rfl, _, H6.out, HB6.out, HLo.out⟩
end Go.Proofs.Ytembocfghkmieaa
/- The document's Pending and History: lists that are made anew; of at most ten million. -/
namespace Go.Proofs.Ytembocfghkmieaa
open Go.RowKit Go.Maps
variable {w : World} {B g : Nat} {hv wv ov : Value} {s : RSt}
def intRow (x : Int) : List Value := [.int .i64 x]
theorem intRow_len (x : Int) : (intRow x).length = 1 := rfl
theorem intRow_one (x : Int) : ∀ u ∈ intRow x, u.oneCell' = true := fun u hu => by
  simp only [intRow, List.mem_singleton] at hu
  subst hu
  rfl
theorem info3t : (Try.prog.info? 3).map (fun i => (i.zero, i.size, i.bytes)) = some (some (.int .i64 0), 1, 8) := by kernel_rfl
theorem exec_ldAt {o : Oper} {a : Act} {W : World} {x : Operand} {ty : TypeId} {p v : Value} (ho : o.op = .load ty x) (hx : a.eval x = p) (h : (Instr.loadAt ty p).run Try.prog W = .ok v W) : (execOp a.eval o).run Try.prog W = .ok (.value v) W := by
  unfold execOp
  simp only [ho, hx, Sem.run_bind, h, Result.andThen_ok, Sem.run_pure]
theorem exec_slice108 {o : Oper} {a : Act} {W : World} {y : Operand} {r : Rec} (ho : o.op = .buildSlice 67 1 #[(0, y)]) (hy : a.eval y = .agg (recCells r).toArray) : (execOp a.eval o).run Try.prog W = .ok (.value (.slice (some ⟨W.heap.size, 0, none⟩) 1 1)) (W.alloc (.cells (recCells r).toArray 108)) := by
  have e := build67 r W
  generalize (recCells r).toArray = Z at *
  simp [execOp, ho, hy, e]
theorem rec_load {N cw j : Nat} {po : Option Addr} {x : Rec} (h : RDAt w B g hv wv (.slice po N cw) s) (hx : s.ops[j]? = some x) : ∃ b0 off, po = some ⟨b0, off, none⟩ ∧ (Instr.loadAt 108 (.pointer (some ⟨b0, off + j * 1026, none⟩))).run Try.prog w = .ok (.agg (recCells x).toArray) w := by
  have ho := h.ops
  have hN : N = s.ops.length := by
    obtain ⟨p, c, e, _⟩ := own_slice ho
    injection e
  rw [hN] at ho
  obtain ⟨b, off, e, _, hC⟩ := own_lies recCells_len ho (by have := (List.getElem?_eq_some_iff.1 hx).1; omega)
  exact ⟨b, off, e, run_loadAt_mid (P := Try.prog) w b (off + j * 1026) 108 (recCells x) _ (fun i v hv => hC j x hx i v hv) Try.underlying108 rfl (by rw [recCells_len]; exact size108)⟩
set_option maxRecDepth 20000 in
set_option maxHeartbeats 4000000 in
theorem rPending_any (h : RDAt w B g hv wv ov s) (hl : s.wait.length ≤ 10000000) :
    Calls Try.prog 49 #[.pointer (some ⟨g, 0, none⟩)] w fun e w' => ∃ v, e = .returned v ∧ w'.ownsRow w.heap.size 3 1 v s.wait.length ((s.wait.map (·.1)).flatMap intRow) ∧ Below w.heap.size w w' := by
  obtain ⟨pw, cw, rfl, -⟩ := own_slice h.wait
  obtain ⟨N, hN⟩ : ∃ N, s.wait.length = N := ⟨_, rfl⟩
  have HN := Hid.mk' hN
  rw [hN] at h hl ⊢
  clear hN
  have HD := Hid.mk' h
  clear h
  go_enter Try.func49, Try.ntmps49
  go_wp2
  go_loopw [3, 4] (fun s3 s4 wx => ∃ j : Nat, j ≤ N ∧ s4 = .int .i64 j ∧ Hid (wx.ownsRow w.heap.size 3 1 s3 ((s.wait.map (·.1)).take j).length (((s.wait.map (·.1)).take j).flatMap intRow)) ∧ Hid (Below w.heap.size w wx)) (fun _ s4 _ => N - (intOf s4).toNat)
  case atStart => exact ⟨0, by omega, rfl, World.ownsRow_nil _ _ _ _, Below.refl _ _⟩
  case round =>
    obtain ⟨j, hj, rfl, HO, HB⟩ := hrel
    have hD := HD.out.later HB.out
    have c2 := hD.cells.2.2.1
    by_cases hj2 : (j : Int) < N
    · have hjl : j < s.wait.length := by have := HN.out; omega
      have hcc : s.wait[j]? = some (s.wait[j]'hjl) := List.getElem?_eq_getElem hjl
      generalize s.wait[j]'hjl = x at hcc
      have ht : (s.wait.map (·.1)).take (j + 1) = (s.wait.map (·.1)).take j ++ [x.1] := by rw [List.take_add_one, List.getElem?_map, hcc]; rfl
      obtain ⟨p', c', e2, hIw, -, -⟩ := HL.img (show HL B wr (.slice pw N cw) s.wait from hD.wait)
      injection e2 with e2 e3 e4
      subst e2
      obtain ⟨b0, off, rfl, -, hC⟩ := hIw (by omega)
      have q1 : wr.cell? ⟨b0, off + j * 1025, none⟩ = some (.int .i64 x.1) := (hC j x hcc).1
      obtain ⟨i0, hi0, hz0, hz1, hz2⟩ := info_parts info3t
      obtain ⟨v', w3, hr, ho, hb3, -⟩ := own_pushF intRow_len intRow_one Try.underlying65 hi0 hz0 hz1 hz2 rfl (by omega) (by omega) HO.out HB.out.size (by rw [List.length_take]; omega) x.1 65
      rw [← ht] at ho
      have HO2 := Hid.mk' ho
      have HB2 := Hid.mk' (HB.out.trans hb3)
      have HR := Hid.mk' (show (Builtin.append_ #[65, 65] 65 #[u3, .slice (some ⟨wr.heap.size, 0, none⟩) 1 1]).run Try.prog (wr.alloc (.cells #[.int .i64 x.1] 3)) = .ok v' w3 from hr)
      clear hr ho hb3 hIw hC hcc ht HO HB hD e3 e4
      go_wp2_with (at_builtin; refine wpList_exec rfl (exec_pushY rfl rfl rfl HR.out) ?_)
      exact ⟨⟨j + 1, by omega, by go_num, HO2.out, HB2.out⟩, by simp [intOf]; omega⟩
    · have hjN : N = j := by omega
      subst hjN
      have ho := HO.out
      rw [List.take_of_length_le (by rw [List.length_map]; have := HN.out; omega), List.length_map, HN.out] at ho
      have HO2 := Hid.mk' ho
      clear ho HO hD
      go_wp2
      go_ret
      exact ⟨_, rfl, HO2.out, HB.out⟩
set_option maxRecDepth 20000 in
set_option maxHeartbeats 4000000 in
theorem rHistory_any (h : RDAt w B g hv wv ov s) (hl : s.ops.length ≤ 10000000) :
    Calls Try.prog 50 #[.pointer (some ⟨g, 0, none⟩)] w fun e w' => ∃ v, e = .returned v ∧ w'.ownsRow w.heap.size 108 1026 v s.ops.length (s.ops.flatMap recCells) ∧ Below w.heap.size w w' := by
  obtain ⟨pw, cw, rfl, -⟩ := own_slice h.ops
  obtain ⟨N, hN⟩ : ∃ N, s.ops.length = N := ⟨_, rfl⟩
  have HN := Hid.mk' hN
  rw [hN] at h hl ⊢
  clear hN
  have HD := Hid.mk' h
  clear h
  go_enter Try.func50, Try.ntmps50
  go_wp2
  go_loopw [3, 4] (fun s3 s4 wx => ∃ j : Nat, j ≤ N ∧ s4 = .int .i64 j ∧ Hid (wx.ownsRow w.heap.size 108 1026 s3 (s.ops.take j).length ((s.ops.take j).flatMap recCells)) ∧ Hid (Below w.heap.size w wx)) (fun _ s4 _ => N - (intOf s4).toNat)
  case atStart => exact ⟨0, by omega, rfl, World.ownsRow_nil _ _ _ _, Below.refl _ _⟩
  case round =>
    obtain ⟨j, hj, rfl, HO, HB⟩ := hrel
    have hD := HD.out.later HB.out
    have c2 := hD.cells.2.2.2.2.2.2.1
    by_cases hj2 : (j : Int) < N
    · have hjl : j < s.ops.length := by have := HN.out; omega
      have hcc : s.ops[j]? = some (s.ops[j]'hjl) := List.getElem?_eq_getElem hjl
      generalize s.ops[j]'hjl = x at hcc
      have ht : s.ops.take (j + 1) = s.ops.take j ++ [x] := by rw [List.take_add_one, hcc]; rfl
      obtain ⟨b0, off, rfl, q1⟩ := rec_load hD hcc
      have HQ := Hid.mk' q1
      obtain ⟨i0, hi0, hz0, hz1, hz2⟩ := info_parts info108
      obtain ⟨v', w3, hr, ho, hb3, -⟩ := own_pushF recCells_len recCells_one Try.underlying67 hi0 hz0 hz1 hz2 (rec_size ⟨0, 0, nought⟩) (by omega) (by omega) HO.out HB.out.size (by rw [List.length_take]; omega) x 67
      rw [← ht] at ho
      have HO2 := Hid.mk' ho
      have HB2 := Hid.mk' (HB.out.trans hb3)
      have HR := Hid.mk' hr
      clear hr ho hb3 hcc ht HO HB hD q1
      go_wp2_with (first | (with_reducible refine isLoad 108 ?_; refine wpList_exec rfl (exec_ldAt (p := .pointer (some ⟨b0, off + j * 1026, none⟩)) (v := .agg (recCells x).toArray) rfl rfl HQ.out) ?_) | refine wpList_exec rfl (exec_slice108 (r := x) rfl rfl) ?_ | (at_builtin; refine wpList_exec rfl (exec_pushY rfl rfl rfl HR.out) ?_))
      exact ⟨⟨j + 1, by omega, by go_num, HO2.out, HB2.out⟩, by simp [intOf]; omega⟩
    · have hjN : N = j := by omega
      subst hjN
      have ho := HO.out
      rw [List.take_of_length_le (by have := HN.out; omega), HN.out] at ho
      have HO2 := Hid.mk' ho
      clear ho HO hD
      go_wp2
      go_ret
      exact ⟨_, rfl, HO2.out, HB.out⟩
end Go.Proofs.Ytembocfghkmieaa
/- The document's Image: the count, and a copy of what is held. -/
namespace Go.Proofs.Ytembocfghkmieaa
open Go.RowKit Go.Maps
set_option maxRecDepth 20000 in
set_option maxHeartbeats 1000000 in
theorem copyHeld_all (l : List Cel) (p : Option Addr) (cap : Nat) (w : World) (hl : l.length ≤ 100000000) (h : ImgAt w p l) :
    Calls Try.prog 63 #[.slice p l.length cap] w fun e w' => ∃ q c, e = .returned (.slice q l.length c) ∧ HL w.heap.size w' (.slice q l.length c) l ∧ Below w.heap.size w w' := by
  have HI : Hid (ImgAt w p l) := h
  obtain ⟨N, hN⟩ : ∃ N, l.length = N := ⟨_, rfl⟩
  have HN := Hid.mk' hN
  rw [hN] at hl ⊢
  clear hN h
  go_enter Try.func63, Try.ntmps63
  go_wp2
  go_loopw [3, 4] (fun s3 s4 wx => ∃ k : Nat, k ≤ N ∧ s4 = .int .i64 k ∧ Hid (HL w.heap.size wx s3 (l.take k) ∧ Below w.heap.size w wx)) (fun _ s4 _ => N - (intOf s4).toNat)
  case atStart => exact ⟨0, by omega, rfl, HL.nil _ _, Below.refl _ _⟩
  case round =>
    obtain ⟨k, hk, rfl, HH⟩ := hrel
    by_cases hk2 : (k : Int) < N
    · have hlN := HN.out
      have hc : l[k]? = some (l[k]'(by omega)) := List.getElem?_eq_getElem _
      obtain ⟨b, off, rfl, hlt, hC⟩ := HI.out (by omega)
      generalize l[k]'(by omega) = c at hc
      have q1 : CelAt wr b (off + k * 1025) c := (hC.later HH.out.2 hlt) k c hc
      have htk : (l.take k).length = k := by rw [List.length_take]; omega
      obtain ⟨v', w3, hr, hown', hb3, _⟩ := HH.out.1.push HH.out.2.size (by omega) c 30
      rw [← take_snoc hc] at hown'
      have HO := Hid.mk' hown'
      have HB := Hid.mk' (HH.out.2.trans hb3)
      have HRR := Hid.mk' hr
      have HQ := Hid.mk' q1
      clear hr hown' hb3 q1 hC hc HH htk hlN
      go_wp2_with (first | refine wpList_exec rfl (exec_load85 rfl rfl HQ.out) ?_ | refine wpList_exec rfl (exec_slice85 rfl rfl) ?_ | refine wpList_exec rfl (exec_push rfl rfl rfl HRR.out) ?_)
      exact ⟨⟨k + 1, by omega, by go_num, HO.out, HB.out⟩, by simp [intOf]; omega⟩
    · obtain rfl : k = N := by omega
      have h1 := HH.out.1
      rw [List.take_of_length_le (by have := HN.out; omega)] at h1
      obtain ⟨q, c, hv, _⟩ := h1.img
      rw [HN.out] at hv
      subst hv
      have HB := Hid.mk' HH.out.2
      have H1 := Hid.mk' h1
      clear HH h1
      go_wp2
      go_ret
      exact ⟨q, c, rfl, H1.out, HB.out⟩
variable {w : World} {B g : Nat} {hv wv ov : Value} {s : RSt}
set_option maxRecDepth 20000 in
set_option maxHeartbeats 4000000 in
theorem rImage_any (h : RDAt w B g hv wv ov s) (hl : s.held.length ≤ 10000000) :
    Calls Try.prog 51 #[.pointer (some ⟨g, 0, none⟩)] w fun e w' => ∃ q c, e = .returned (.agg #[.int .i64 s.n, .slice q s.held.length c]) ∧ HL w.heap.size w' (.slice q s.held.length c) s.held ∧ Below w.heap.size w w' := by
  have h1 := h.later (below_new w (.cells #[.int .i64 0, .slice none 0 0] 32))
  have hX := heap_alloc_new w (.cells #[.int .i64 0, .slice none 0 0] 32)
  have HB := Hid.mk' (below_new w (.cells #[.int .i64 0, .slice none 0 0] 32))
  have hlt := h.lt
  obtain ⟨ph, ch, rfl, hI, -, -⟩ := HL.img (show HL B _ hv s.held from h1.held)
  have HC := Hid.mk' (copyHeld_all s.held ph ch (w.alloc (.cells #[.int .i64 0, .slice none 0 0] 32)).drew (by omega) (show ImgAt (w.alloc (.cells #[.int .i64 0, .slice none 0 0] 32)).drew ph s.held from hI))
  have HS := Hid.mk' (fun (u : World) (q : u.heap[g]? = some (.cells (rdRow (.slice ph s.held.length ch) wv ov s) 102)) => (⟨Joins.cell_of_block q 0, Joins.cell_of_block q 1⟩ : u.cell? ⟨g, 0, none⟩ = some (.int .i64 s.n) ∧ u.cell? ⟨g, 1, none⟩ = some (.slice ph s.held.length ch)))
  have HR := Hid.mk' h1.drew.row
  have HX := Hid.mk' (show (w.alloc (.cells #[.int .i64 0, .slice none 0 0] 32)).drew.heap[w.heap.size]? = some (.cells #[.int .i64 0, .slice none 0 0] 32) from hX)
  have hsz : w.heap.size < (w.alloc (.cells #[.int .i64 0, .slice none 0 0] 32)).drew.heap.size := by show w.heap.size < (w.alloc (.cells #[.int .i64 0, .slice none 0 0] 32)).heap.size; simp
  have HBd := Hid.mk' HB.out.drew
  clear h h1 hX hI HB
  obtain ⟨M, hM⟩ : ∃ M, s.held.length = M := ⟨_, rfl⟩
  rw [hM] at HC HS HR ⊢
  clear hM hl
  go_enter Try.func51, Try.ntmps51
  go_wp2
  refine wp_region_ord (S := fun u => u.cell? ⟨g, 0, none⟩ = some (.int .i64 s.n) ∧ u.cell? ⟨g, 1, none⟩ = some (.slice ph M ch)) [(0, true), (1, true), (2, true), (3, true), (4, true), (5, true), (6, true), (7, true), (8, false), (9, true), (10, false)]
    (by kernel_rfl) rfl (by kernel_rfl) (fun d _ _ _ _ h => by cases d <;> exact h) (HS.out _ HR.out) ?_
  simp only [inOrd, List.getElem?_cons_zero, List.getElem?_cons_succ]
  generalize (w.alloc (.cells #[.int .i64 0, .slice none 0 0] 32)).drew = V at *
  refine wpOrd_move rfl _ rfl ?_
  simp only [Act.put, List.setIfInBounds_toArray, List.set_cons_succ, List.set_cons_zero]
  refine wpOrd_yield (v := .pointer (some ⟨g, 0, none⟩)) rfl (fun u _ => by go_simp) ?_
  simp only [Act.put, List.setIfInBounds_toArray, List.set_cons_succ, List.set_cons_zero]
  refine wpOrd_yield (v := .pointer (some ⟨g, 0, none⟩)) rfl (fun u _ => by go_simp) ?_
  simp only [Act.put, List.setIfInBounds_toArray, List.set_cons_succ, List.set_cons_zero]
  refine wpOrd_yield (v := .int .i64 s.n) rfl (fun u hu => by have hu1 := hu.1; go_simp) ?_
  simp only [Act.put, List.setIfInBounds_toArray, List.set_cons_succ, List.set_cons_zero]
  refine wpOrd_move rfl _ rfl ?_
  simp only [Act.put, List.setIfInBounds_toArray, List.set_cons_succ, List.set_cons_zero]
  refine wpOrd_yield (v := .pointer (some ⟨g, 0, none⟩)) rfl (fun u _ => by go_simp) ?_
  simp only [Act.put, List.setIfInBounds_toArray, List.set_cons_succ, List.set_cons_zero]
  refine wpOrd_yield (v := .pointer (some ⟨g, 1, none⟩)) rfl (fun u _ => by go_simp) ?_
  simp only [Act.put, List.setIfInBounds_toArray, List.set_cons_succ, List.set_cons_zero]
  refine wpOrd_yield (v := .slice ph M ch) rfl (fun u hu => by have hu1 := hu.2; go_simp) ?_
  simp only [Act.put, List.setIfInBounds_toArray, List.set_cons_succ, List.set_cons_zero]
  refine wpOrd_call rfl 63 _ _ rfl Try.call63 [.slice ph M ch] rfl ?_
  refine HC.out.mono ?_
  rintro e W2 ⟨q, c, rfl, ho, hb⟩
  have r2 := heap_kept HR.out hb
  have x2 := heap_kept HX.out hb
  have cB0 : W2.cell? ⟨w.heap.size, 0, none⟩ = some (.int .i64 0) := Joins.cell_of_block x2 0
  have cB1 : W2.cell? ⟨w.heap.size, 1, none⟩ = some (.slice none 0 0) := Joins.cell_of_block x2 1
  have fB0 : W2.frozen? ⟨w.heap.size, 0, none⟩ = false := Joins.unfrozen_of_block x2 0
  have fB1 : W2.frozen? ⟨w.heap.size, 1, none⟩ = false := Joins.unfrozen_of_block x2 1
  have hrow := Hid.mk' (Joins.block_setCell (Joins.block_setCell x2 (i := 0) (.int .i64 s.n)) (i := 1) (.slice q M c))
  have r3 := Hid.mk' ((Below.heap_setCell (W2.setCell ⟨w.heap.size, 0, none⟩ (.int .i64 s.n)) ⟨w.heap.size, 1, none⟩ (.slice q M c) g (by show g ≠ w.heap.size; omega)).trans ((Below.heap_setCell W2 ⟨w.heap.size, 0, none⟩ (.int .i64 s.n) g (by show g ≠ w.heap.size; omega)).trans r2))
  have ho3 := ownsRow_setCell_below (ownsRow_setCell_below (show W2.ownsRow V.heap.size 85 1025 (.slice q M c) s.held.length (celCells s.held) from ho) (a := ⟨w.heap.size, 0, none⟩) hsz (.int .i64 s.n)) (a := ⟨w.heap.size, 1, none⟩) hsz (.slice q M c)
  have HO3 := Hid.mk' (show HL w.heap.size _ (.slice q M c) s.held from own_base ho3 (by omega))
  have HB3 := Hid.mk' (((HBd.out.trans (hb.mono (by omega))).trans ((Fr.setCell W2 w.heap.size 0 (.int .i64 s.n)).below (fun i q => by omega) (by have := hb.size; omega))).trans ((Fr.setCell (W2.setCell ⟨w.heap.size, 0, none⟩ (.int .i64 s.n)) w.heap.size 1 (.slice q M c)).below (fun i q => by omega) (by have := hb.size; simp; omega)))
  refine ⟨_, rfl, HS.out _ r2, ?_⟩
  simp only [Act.put, List.setIfInBounds_toArray, List.set_cons_succ, List.set_cons_zero]
  refine wpOrd_yield (v := .agg #[.int .i64 s.n, .slice q M c]) rfl (fun u _ => by go_simp) ?_
  simp only [Act.put, List.setIfInBounds_toArray, List.set_cons_succ, List.set_cons_zero]
  refine wpOrd_do (w' := (W2.setCell ⟨w.heap.size, 0, none⟩ (.int .i64 s.n)).setCell ⟨w.heap.size, 1, none⟩ (.slice q M c)) rfl (by go_simp) (HS.out _ r3.out) ?_
  refine wpOrd_nil ?_
  simp only [Act.put]
  clear cB0 cB1 fB0 fB1 ho ho3 hb r2 x2 HC HR HX HBd
  go_wp2
  refine ret32 rfl w.heap.size _ rfl hrow.out rfl rfl ⟨q, c, rfl, HO3.out, HB3.out⟩
end Go.Proofs.Ytembocfghkmieaa
/- The document's New and Load: a new disk. -/
namespace Go.Proofs.Ytembocfghkmieaa
open Go.RowKit Go.Maps
/-- A new disk. -/
def rNew (n : Int) (l : List Cel) : RSt := ⟨n, l, [], false, 0, false, [], 0, 0, 0, 0⟩
def freshRow (n : Int) (v : Value) : Array Value := #[.int .i64 n, v, .slice none 0 0, .bool false, .int .i64 0, .bool false, .slice none 0 0, .int .i64 0, .int .i64 0, .int .i64 0, .int .i64 0]
theorem rMade_row {W2 : World} {B B' : Nat} {v : Value} {n : Int} {l : List Cel} (ho : HL B' W2 v l) (hB : B ≤ B') (hW : B ≤ W2.heap.size) : RDAt (W2.alloc (.cells (freshRow n v) 102)) B W2.heap.size v (.slice none 0 0) (.slice none 0 0) (rNew n l) :=
  ⟨heap_alloc_new _ _, own_later (own_base (show W2.ownsRow B' 85 1025 v l.length (l.flatMap celRow) from ho) hB) (below_new _ _), World.ownsRow_nil _ _ _ _, World.ownsRow_nil _ _ _ _, (fun b _ q => by cases q), hW⟩
set_option maxRecDepth 20000 in
theorem rNew_bad (n : Int) (w : World) (hn : n < 1 ∨ 1048576 < n) : Calls Try.prog 39 #[.int .i64 n] w fun e w' => e = .returned (.tuple #[.pointer none, .int .i64 2]) ∧ w' = w := by
  by_cases h1 : n < 1
  · go_enter Try.func39, Try.ntmps39
    go_wp2
    go_ret2
    exact ⟨rfl, rfl⟩
  · have h2 : 1048576 < n := by omega
    clear hn
    go_enter Try.func39, Try.ntmps39
    go_wp2
    go_ret2
    exact ⟨rfl, rfl⟩
set_option maxRecDepth 20000 in
theorem rNew_ok (n : Int) (w : World) (h1 : 1 ≤ n) (h2 : n ≤ 1048576) : Calls Try.prog 39 #[.int .i64 n] w fun e w' => e = .returned (.tuple #[.pointer (some ⟨w.heap.size, 0, none⟩), .int .i64 0]) ∧ RDAt w' w.heap.size w.heap.size (.slice none 0 0) (.slice none 0 0) (.slice none 0 0) (rNew n []) ∧ Below w.heap.size w w' := by
  have HM := Hid.mk' (rMade_row (n := n) (HL.nil w.heap.size w) (Nat.le_refl _) (Nat.le_refl _))
  have HB := Hid.mk' (below_new w (.cells (freshRow n (.slice none 0 0)) 102))
  unfold freshRow at HM HB
  go_enter Try.func39, Try.ntmps39
  go_wp2
  go_ret2
  exact ⟨rfl, HM.out, HB.out⟩
set_option maxRecDepth 20000 in
set_option maxHeartbeats 1000000 in
theorem refLoad_made (n : Int) (l : List Cel) (p : Option Addr) (cap : Nat) (w : World) (hl : l.length ≤ 100000000) (h : ImgAt w p l) (hm : mayB n l = true) :
    Calls Try.prog 16 #[.agg #[.int .i64 n, .slice p l.length cap]] w fun e w' => ∃ g v, e = .returned (.tuple #[.pointer (some ⟨g, 0, none⟩), .int .i64 0]) ∧ RDAt w' w.heap.size g v (.slice none 0 0) (.slice none 0 0) (rNew n l) ∧ Below w.heap.size w w' := by
  have hB := below_new w (.cells #[.int .i64 n, .slice p l.length cap] 32)
  have hG := heap_alloc_new w (.cells #[.int .i64 n, .slice p l.length cap] 32)
  have hM := refMay_any n l p cap _ (by omega) (h.later hB)
  rw [hm] at hM
  have HI := Hid.mk' h
  have HL' := Hid.mk' hl
  clear h hl hm
  go_enter Try.func16, Try.ntmps16
  go_wp2_with (go_at_call 62; fail)
  refine hM.mono ?_
  rintro e W1 ⟨rfl, hb1⟩
  have hG1 := heap_kept hG hb1
  have hB1 := below_next hB hb1
  have HC := Hid.mk' (copyHeld_all l p cap W1.drew HL'.out (HI.out.later hB1.drew))
  clear hM hG hB hb1 HI HL'
  go_wp2
  refine wp_region_ord (S := fun u => u.heap[w.heap.size]? = some (.cells #[.int .i64 n, .slice p l.length cap] 32)) [(0, true), (1, true), (2, true), (3, true), (4, false), (5, true), (6, false), (7, true), (8, true)]
    (by kernel_rfl) rfl (by kernel_rfl) (fun d _ _ _ _ h => by cases d <;> exact h) hG1 ?_
  simp only [inOrd, List.getElem?_cons_zero, List.getElem?_cons_succ]
  refine wpOrd_yield (v := .pointer (some ⟨w.heap.size, 0, none⟩)) rfl (fun u _ => by go_simp) ?_
  simp only [Act.put, List.setIfInBounds_toArray, List.set_cons_succ, List.set_cons_zero]
  refine wpOrd_yield (v := .int .i64 n) rfl (fun u hu => by have c0 : u.cell? ⟨w.heap.size, 0, none⟩ = some (.int .i64 n) := Joins.cell_of_block hu 0; go_simp) ?_
  simp only [Act.put, List.setIfInBounds_toArray, List.set_cons_succ, List.set_cons_zero]
  refine wpOrd_yield (v := .pointer (some ⟨w.heap.size, 1, none⟩)) rfl (fun u _ => by go_simp) ?_
  simp only [Act.put, List.setIfInBounds_toArray, List.set_cons_succ, List.set_cons_zero]
  refine wpOrd_yield (v := .slice p l.length cap) rfl (fun u hu => by have c0 : u.cell? ⟨w.heap.size, 1, none⟩ = some (.slice p l.length cap) := Joins.cell_of_block hu 1; go_simp) ?_
  simp only [Act.put, List.setIfInBounds_toArray, List.set_cons_succ, List.set_cons_zero]
  refine wpOrd_call rfl 63 _ _ rfl Try.call63 [.slice p l.length cap] rfl ?_
  refine Calls.mono HC.out ?_
  rintro e W2 ⟨q, c, rfl, ho2, hb2⟩
  have hG2 : W2.heap[w.heap.size]? = _ := (hb2.block w.heap.size (Array.getElem?_eq_some_iff.1 hG1).1).trans hG1
  have HB2 := Hid.mk' (below_next hB1.drew hb2)
  have HM := Hid.mk' (rMade_row (n := n) ho2 hB1.drew.size HB2.out.size)
  refine ⟨_, rfl, hG2, ?_⟩
  clear HC hb2 hB1 ho2
  simp only [Act.put, List.setIfInBounds_toArray, List.set_cons_succ, List.set_cons_zero]
  refine wpOrd_yield (v := .agg (freshRow n (.slice q l.length c))) rfl (fun u _ => by unfold freshRow; go_simp) ?_
  simp only [Act.put, List.setIfInBounds_toArray, List.set_cons_succ, List.set_cons_zero]
  refine wpOrd_run (v := .pointer (some ⟨W2.heap.size, 0, none⟩)) (w' := W2.alloc (.cells (freshRow n (.slice q l.length c)) 102)) rfl (by unfold freshRow; go_simp) (heap_kept hG2 (below_new _ _)) ?_
  simp only [Act.put, List.setIfInBounds_toArray, List.set_cons_succ, List.set_cons_zero]
  refine wpOrd_yield (v := .pointer (some ⟨W2.heap.size, 0, none⟩)) rfl (fun u _ => by go_simp) ?_
  simp only [Act.put, List.setIfInBounds_toArray, List.set_cons_succ, List.set_cons_zero]
  refine wpOrd_yield (v := .int .i64 0) rfl (fun u _ => by go_simp) ?_
  simp only [Act.put, List.setIfInBounds_toArray, List.set_cons_succ, List.set_cons_zero]
  refine wpOrd_nil ?_
  have HB3 := Hid.mk' (below_next HB2.out (below_new W2 (.cells (freshRow n (.slice q l.length c)) 102)))
  generalize W2.alloc (.cells (freshRow n (.slice q l.length c)) 102) = W3 at HB3 HM ⊢
  go_wp2
  go_ret2
  exact ⟨_, _, rfl, HM.out, HB3.out⟩
end Go.Proofs.Ytembocfghkmieaa
/- What a disk and the law's own book of it have to do with each other, write by write; no condition. -/
namespace Go.Proofs.Ytembocfghkmieaa
open Go.RowKit

/-- hs are the blocks that s holds. -/
def Rel (s : St) (hs : List (Nat → Int)) : Prop := (hs.length : Int) = s.n ∧ ∀ k : Nat, k < hs.length → hs[k]? = some ((s.held k).getD nought)
theorem Rel.same {s s' : St} {hs : List (Nat → Int)} (h : Rel s hs) (h1 : s'.n = s.n) (h2 : s'.held = s.held) : Rel s' hs := by
  unfold Rel
  rw [h1, h2]
  exact h
theorem holdV_get (s : St) (k : Int) {f : Nat → Int} (hf : Can f) (j : Int) : ((holdV s k f).held j).getD nought = if j = k then f else (s.held j).getD nought := by
  show (if j = k then (if blankB f then none else some f) else s.held j).getD nought = _
  by_cases e : j = k
  · rw [if_pos e, if_pos e]
    cases hb : blankB f
    · rfl
    · rw [hf.blank.1 hb]; rfl
  · rw [if_neg e, if_neg e]
theorem Rel.hold {s : St} {hs : List (Nat → Int)} (h : Rel s hs) {c : Cel} (hc : 0 ≤ c.1 ∧ c.1 < s.n) (hf : Can c.2) : Rel (holdV s c.1 c.2) (hs.set c.1.toNat c.2) := by
  refine ⟨by rw [List.length_set]; exact h.1, fun k hk => ?_⟩
  rw [List.length_set] at hk
  rw [holdV_get s c.1 hf, List.getElem?_set]
  have h1 := h.1
  by_cases e : (k : Int) = c.1
  · rw [if_pos (by omega), if_pos (by omega), if_pos e]
  · rw [if_neg (by omega), if_neg e]
    exact h.2 k hk
theorem rel_new (n : Nat) : Rel (newV n) (List.replicate n nought) := by
  refine ⟨by rw [List.length_replicate]; rfl, fun k hk => ?_⟩
  rw [List.length_replicate] at hk
  rw [List.getElem?_replicate, if_pos hk]
  rfl
/-- A disk behind i writes and barriers under a fuse. -/
structure Left (s : St) (blocks fuse : Int) (i : Nat) : Prop where
  n : s.n = blocks
  live : s.stopped = false → (fuse < 0 → s.fuse = -1) ∧ (0 ≤ fuse → s.fuse = fuse - i ∧ (i : Int) ≤ fuse)
  ops : s.ops.length ≤ i
  made : s.made ≤ i
  reads : s.reads = 0
  claims : s.claims = 0
theorem Left.room {s : St} {b f : Int} {i : Nat} (h : Left s b f i) (hi : i ≤ 300) : Room s := ⟨by have := h.ops; omega, by have := h.made; omega, by have := h.reads; omega, by have := h.claims; omega⟩
theorem Left.lets {s : St} {b f : Int} {i : Nat} (h : Left s b f i) (hs : s.stopped = false) : lets s = decide (f < 0 ∨ (i : Int) < f) := by
  obtain ⟨h1, h2⟩ := h.live hs
  unfold Ytembocfghkmieaa.lets
  by_cases hf : f < 0
  · rw [h1 hf, decide_eq_true (.inl hf)]; rfl
  · obtain ⟨h3, h4⟩ := h2 (by omega)
    by_cases h5 : (i : Int) < f
    · rw [decide_eq_true (.inr h5)]
      have : s.fuse ≠ 0 := by omega
      simpa using this
    · rw [decide_eq_false (by omega)]
      have : s.fuse = 0 := by omega
      simp [this]
/-- Does the next one go through? -/
def goesB (s : St) (f : Int) (i : Nat) : Bool := !s.stopped && decide (f < 0 ∨ (i : Int) < f)
/-- Stopped. -/
def deadV (s : St) : St := if s.stopped then s else letV s
theorem letV_dead {s : St} (hl : lets s = false) : letV s = { s with stopped := true } := by
  have h0 : s.fuse = 0 := by unfold lets at hl; simpa using hl
  unfold letV
  rw [if_pos h0]
theorem deadV_is {s : St} (h : s.stopped = true ∨ lets s = false) : (deadV s).stopped = true ∧ (deadV s).n = s.n ∧ (deadV s).held = s.held ∧ (deadV s).wait = s.wait ∧ (deadV s).ops = s.ops ∧ (deadV s).made = s.made ∧ (deadV s).reads = s.reads ∧ (deadV s).claims = s.claims := by
  unfold deadV
  cases hs : s.stopped
  · have hl : lets s = false := by
      rcases h with h | h
      · rw [hs] at h; cases h
      · exact h
    rw [if_neg (by simp), letV_dead hl]
    exact ⟨rfl, rfl, rfl, rfl, rfl, rfl, rfl, rfl⟩
  · rw [if_pos rfl]
    exact ⟨hs, rfl, rfl, rfl, rfl, rfl, rfl, rfl⟩
theorem not_goes {s : St} {b f : Int} {i : Nat} (h : Left s b f i) (hg : goesB s f i = false) : s.stopped = true ∨ lets s = false := by
  cases hs : s.stopped
  · right
    rw [h.lets hs]
    unfold goesB at hg
    rw [hs] at hg
    simpa using hg
  · exact .inl rfl
theorem Left.dead {s : St} {b f : Int} {i : Nat} (h : Left s b f i) (hg : goesB s f i = false) : Left (deadV s) b f (i + 1) := by
  obtain ⟨h1, h2, h3, h4, h5, h6, h7, h8⟩ := deadV_is (not_goes h hg)
  have := h.ops
  have := h.made
  exact ⟨h2.trans h.n, fun q => (by rw [h1] at q; cases q), by rw [h5]; omega, by rw [h6]; omega, h7.trans h.reads, h8.trans h.claims⟩
theorem goes_live {s : St} {b f : Int} {i : Nat} (h : Left s b f i) (hg : goesB s f i = true) : s.stopped = false ∧ lets s = true := by
  unfold goesB at hg
  cases hs : s.stopped
  · rw [hs] at hg
    exact ⟨rfl, by rw [h.lets hs]; simpa using hg⟩
  · rw [hs] at hg; simp at hg
theorem letV_live {s : St} (hl : lets s = true) : (letV s).stopped = s.stopped ∧ (letV s).made = s.made + 1 ∧ (letV s).reads = s.reads ∧ (letV s).claims = s.claims ∧ (letV s).fuse = (if s.fuse = -1 then -1 else s.fuse - 1) := by
  have h0 : s.fuse ≠ 0 := by unfold lets at hl; simpa using hl
  unfold letV
  rw [if_neg h0]
  exact ⟨rfl, rfl, rfl, rfl, rfl⟩
/-- A state of which all but what is held and pending is that of a disk that let one through. -/
theorem Left.next {s s' : St} {b f : Int} {i : Nat} (h : Left s b f i) (hg : goesB s f i = true) (h1 : s'.n = s.n) (h2 : s'.stopped = (letV s).stopped) (h3 : s'.made = (letV s).made) (h4 : s'.reads = (letV s).reads) (h5 : s'.claims = (letV s).claims) (h6 : s'.fuse = (letV s).fuse) (h7 : s'.ops.length = s.ops.length + 1) : Left s' b f (i + 1) ∧ s'.stopped = false := by
  obtain ⟨hs, hl⟩ := goes_live h hg
  obtain ⟨k1, k2, k3, k4, k5⟩ := letV_live hl
  obtain ⟨l1, l2⟩ := h.live hs
  have := h.ops
  have := h.made
  refine ⟨⟨h1.trans h.n, fun _ => ⟨fun q => ?_, fun q => ?_⟩, by omega, by omega, h4.trans (k3.trans h.reads), h5.trans (k4.trans h.claims)⟩, h2.trans (k1.trans hs)⟩
  · rw [h6, k5, if_pos (l1 q)]
  · obtain ⟨m1, m2⟩ := l2 q
    have m3 : s.fuse ≠ 0 := by unfold Ytembocfghkmieaa.lets at hl; simpa using hl
    rw [h6, k5, if_neg (by omega)]
    omega
theorem write_goes {s : St} {b f : Int} {i : Nat} (h : Left s b f i) (hg : goesB s f i = true) {k : Int} (hk : 0 ≤ k ∧ k < b) (F : Nat → Int) : writeE s k = 0 ∧ writeV s k F = writeS s k F ∧ Left (writeS s k F) b f (i + 1) ∧ (writeS s k F).stopped = false ∧ (writeS s k F).wait = s.wait ++ [(k, F)] ∧ (writeS s k F).held = s.held ∧ (writeS s k F).n = s.n := by
  obtain ⟨hs, hl⟩ := goes_live h hg
  have hr : refV s k = 0 := by unfold refV; rw [hs, if_neg (by simp), if_pos (by rw [h.n]; exact hk)]
  have hN := h.next (s' := writeS s k F) hg (letV_n s) rfl rfl rfl rfl rfl (by rw [writeS_ops]; simp)
  refine ⟨?_, ?_, hN.1, hN.2, rfl, letV_held s, letV_n s⟩
  · unfold writeE; rw [if_pos hr, if_pos hl]
  · unfold writeV; rw [if_pos hr, if_pos hl]
theorem write_stays {s : St} {b f : Int} {i : Nat} (h : Left s b f i) (hg : goesB s f i = false) {k : Int} (hk : 0 ≤ k ∧ k < b) (F : Nat → Int) : writeE s k = 3 ∧ writeV s k F = deadV s := by
  have hn := not_goes h hg
  unfold writeE writeV deadV
  cases hs : s.stopped
  · have hl : lets s = false := by
      rcases hn with q | q
      · rw [hs] at q; cases q
      · exact q
    have hr : refV s k = 0 := by unfold refV; rw [hs, if_neg (by simp), if_pos (by rw [h.n]; exact hk)]
    rw [if_pos hr, if_pos hr, hl]
    simp
  · have hr : refV s k = 3 := by unfold refV; rw [hs, if_pos rfl]
    rw [if_neg (by omega), if_neg (by omega), hr]
    simp
theorem bar_goes {s : St} {b f : Int} {i : Nat} (h : Left s b f i) (hg : goesB s f i = true) : barE s = 0 ∧ barV s = barS s ∧ Left (barS s) b f (i + 1) ∧ (barS s).stopped = false ∧ (barS s).wait = [] ∧ (barS s).held = (holdAll s s.wait).held ∧ (barS s).n = s.n := by
  obtain ⟨hs, hl⟩ := goes_live h hg
  obtain ⟨hh, he⟩ := holdAll_same s.wait (letV s)
  have e1 : barS s = { letV s with held := hh, done := s.ops ++ [⟨2, 0, nought⟩], wait := [] } := by unfold barS; rw [he]
  have hN := h.next (s' := barS s) hg (by rw [e1]; exact letV_n s) (by rw [e1]) (by rw [e1]) (by rw [e1]) (by rw [e1]) (by rw [e1]) (by rw [barS_ops]; simp)
  refine ⟨?_, ?_, hN.1, hN.2, rfl, ?_, by rw [e1]; exact letV_n s⟩
  · unfold barE; rw [hs, hl]; rfl
  · unfold barV; rw [hs, hl]; rfl
  · show (holdAll (letV s) s.wait).held = _
    have key : ∀ (l : List Cel) (a b : St), a.held = b.held → (holdAll a l).held = (holdAll b l).held := fun l => by
      induction l with
      | nil => exact fun a b q => q
      | cons c t ih =>
        intro a b q
        exact ih (holdV a c.1 c.2) (holdV b c.1 c.2) (by unfold holdV; rw [q])
    exact key _ _ _ (letV_held s)
theorem bar_stays {s : St} {b f : Int} {i : Nat} (h : Left s b f i) (hg : goesB s f i = false) : barE s = 3 ∧ barV s = deadV s := by
  have hn := not_goes h hg
  unfold barE barV deadV
  cases hs : s.stopped
  · have hl : lets s = false := by
      rcases hn with q | q
      · rw [hs] at q; cases q
      · exact q
    rw [hl]
    simp
  · simp
end Go.Proofs.Ytembocfghkmieaa
