/- A block of a cache is used: it is the last of the row from then on; no condition. -/
import Derived.Test.YtencclpcebpgmaaPlace
namespace Go.Proofs.Ytencclpcebpgmaa
open Go.RowKit Go.Maps

theorem setM_self (M : Nat → Nd) (g : Nat) : setM M g (M g) = M := by
  funext k
  unfold setM
  split
  · next h => rw [h]
  · rfl
theorem setM_other (M : Nat → Nd) (g : Nat) (n : Nd) {k : Nat} (h : k ≠ g) : setM M g n k = M k := by unfold setM; rw [if_neg h]
theorem setM_same (M : Nat → Nd) (g : Nat) (n : Nd) : setM M g n g = n := by unfold setM; rw [if_pos rfl]
/-- A cache whose row has got one more, the last. -/
theorem cache_stood {w : World} {K : KLoc} {s : CSt} {M : Nat → Nd} {ns : List Nat} {g : Nat} {n : Nd} (hnd : (g :: K.e :: ns).Nodup) (hseg : seg (Lnk M) K.e ns K.e)
    (hc : w.heap[K.c]? = some (.cells (ckRow K s) 73)) (hm : MapIs Try.prog 3 w K.mb (mapV (standM (setM M g n) g K.e) (ns ++ [g])))
    (hN : Nodes w (standM (setM M g n) g K.e) (fun k => k = g ∨ k = K.e ∨ k ∈ ns)) (hrow : s.row = ns.map (hld M) ++ [⟨n.pos, n.fast, n.dat⟩]) (hok : COk s) :
    CacheAt w { K with ns := ns ++ [g], M := standM (setM M g n) g K.e } s := by
  have hgn : ∀ x, x ∈ K.e :: ns → x ≠ g := fun x hx e => (List.nodup_cons.1 hnd).1 (e ▸ hx)
  have hh : ∀ x, hld (standM (setM M g n) g K.e) x = hld (setM M g n) x := fun x => by
    obtain ⟨a1, a2, a3⟩ := stand_rest (setM M g n) g K.e x
    unfold hld
    rw [a1, a2, a3]
  refine ⟨hc, hm, hN.mono fun x hx => ?_, stand_seg hnd ?_, ?_, ?_, hok⟩
  · rcases hx with h | h
    · exact .inr (.inl h)
    · have h : x ∈ ns ++ [g] := h
      simp at h
      rcases h with h | h
      · exact .inr (.inr h)
      · exact .inl h
  · refine seg_mono _ _ _ hseg fun x y hx hy hl => ?_
    have hy' : y ∈ K.e :: ns := by simp at hy ⊢; rcases hy with h | h <;> simp [h]
    unfold Lnk
    rw [setM_other _ _ _ (hgn x hx), setM_other _ _ _ (hgn y hy')]
    exact hl
  · have : (ns ++ [g]).Perm (g :: ns) := List.perm_append_comm (l₁ := ns) (l₂ := [g])
    have h2 : (K.e :: (ns ++ [g])).Perm (K.e :: g :: ns) := this.cons _
    exact ((h2.trans (List.Perm.swap ..)).nodup_iff).2 hnd
  · rw [hrow, List.map_append]
    congr 1
    · refine List.map_congr_left fun x hx => ?_
      rw [hh x]
      unfold hld
      rw [setM_other _ _ _ (hgn x (List.mem_cons_of_mem _ hx))]
    · show _ = [hld (standM (setM M g n) g K.e) g]
      rw [hh g]
      unfold hld
      rw [setM_same]
variable {w : World} {K : KLoc} {L : Loc} {s : CSt} {t : St}
theorem use_bad (h : CD w K L s t) {k : Int} (hb : refV t k ≠ 0) : Calls Try.prog 53 #[ptr K.c, .int .i64 k] w fun e w' => e = .returned (.tuple #[nilp, .bool false, .int .i64 (refV t k)]) ∧ w' = w := by
  have hR := refusesC_of h k
  have hne : (refV t k != 0) = true := by simp [hb]
  clear h hb
  generalize refV t k = r at *
  unfold ptr nilp at *
  go_enter Try.func53, Try.ntmps53
  go_wp2_with (first | (go_at_call 54; refine hR.mono ?_; rintro e W ⟨rfl, rfl⟩))
  go_ret3
  exact ⟨rfl, rfl⟩
theorem use_none {v : Value} (h : NoneAt w v) (k : Int) : Calls Try.prog 53 #[v, .int .i64 k] w fun e w' => e = .returned (.tuple #[nilp, .bool false, .int .i64 1]) ∧ w' = w := by
  have hR := refusesC_none h k
  clear h
  unfold nilp at *
  go_enter Try.func53, Try.ntmps53
  go_wp2_with (first | (go_at_call 54; refine hR.mono ?_; rintro e W ⟨rfl, rfl⟩))
  go_ret3
  exact ⟨rfl, rfl⟩
theorem zero71 (u : World) : (zeroValue 71).run Try.prog u = .ok nilp u := by
  have h : (Try.prog.info? 71).map (fun i => (i.zero, i.size)) = some (some nilp, 1) := by kernel_rfl
  exact (zero_of_info h).1 u
set_option maxRecDepth 20000 in
set_option maxHeartbeats 2000000 in
/-- The block is held. -/
theorem use_held (h : CD w K L s t) {k : Int} (hb : refV t k = 0) {p q : List Nat} {g : Nat} (hns : K.ns = p ++ g :: q) (hg : posOf K.M g = k) :
    Calls Try.prog 53 #[ptr K.c, .int .i64 k] w fun e w' => e = .returned (.tuple #[ptr g, .bool false, .int .i64 0]) ∧
      ∃ M', CacheAt w' { K with ns := (p ++ q) ++ [g], M := M' } { s with row := (p ++ q).map (hld K.M) ++ [hld K.M g] } ∧ hld M' g = hld K.M g ∧ Fr K.has w w' := by
  have hR := refusesC_of h k
  rw [hb] at hR
  have hC := h.cache
  have hgm : g ∈ K.ns := by rw [hns]; simp
  have hwf : (Lit.int .i64 k).wf = true := inTop.wf (inTop_of h.disk.ok (refV_ok hb).2)
  have hmv : mapV K.M K.ns k = some (ptr g) := by rw [← hg]; exact mapV_some hC.posNd hgm
  have hmap := hC.map
  have c3 := hC.c3
  have c4 := hC.c4
  have near := seg_near (p := p) (q := q) (h := g) (e := K.e) (M := K.M) (by rw [← hns]; exact hC.ring)
  have hnp : (K.M g).pv = K.e ∨ (K.M g).pv ∈ K.ns := by
    rw [hns]
    rcases List.mem_cons.1 near.1 with q | q
    · exact .inl q
    · exact .inr (by simp [q])
  have hnn : (K.M g).nx = K.e ∨ (K.M g).nx ∈ K.ns := by
    rw [hns]
    rcases List.mem_append.1 near.2 with q | q
    · exact .inr (by simp [q])
    · exact .inl (by simpa using q)
  have hL := leave_of hC.nodes (.inr hgm) hnp hnn
  have hnd := hC.nd
  rw [hns] at hnd
  have hnd2 : (g :: K.e :: (p ++ q)).Nodup := by
    have e1 : (K.e :: (p ++ g :: q)).Perm (g :: K.e :: (p ++ q)) := (List.perm_middle.cons K.e).trans (List.Perm.swap ..)
    exact (e1.nodup_iff).1 hnd
  have hseg := leave_seg hnd (by rw [← hns]; exact hC.ring)
  have z71 := zero71
  have HS : Hid (∀ W, Nodes W (leaveM K.M g) (fun k => k = K.e ∨ k ∈ K.ns) → Fr (fun k => k = (K.M g).pv ∨ k = (K.M g).nx) w W →
      W.cell? ⟨K.c, 4, none⟩ = some (ptr K.e) ∧ Calls Try.prog 65 #[ptr g, ptr K.e] W fun x w' => x = .returned (.tuple #[]) ∧
      ∃ M', CacheAt w' { K with ns := (p ++ q) ++ [g], M := M' } { s with row := (p ++ q).map (hld K.M) ++ [hld K.M g] } ∧ hld M' g = hld K.M g ∧ Fr K.has w w') := by
    intro W hN hF
    have hcn : K.c ≠ (K.M g).pv ∧ K.c ≠ (K.M g).nx := ⟨(hC.cne hnp).symm, (hC.cne hnn).symm⟩
    have hmn : K.mb ≠ (K.M g).pv ∧ K.mb ≠ (K.M g).nx := ⟨(hC.mne hnp).symm, (hC.mne hnn).symm⟩
    have hcW : W.heap[K.c]? = some (.cells (ckRow K s) 73) := (hF.block K.c (hC.lt _ (.inl rfl)) (by rintro (q | q); exact hcn.1 q; exact hcn.2 q)).trans hC.row
    have hmW : MapIs Try.prog 3 W K.mb (mapV K.M K.ns) := hC.map.kept (hF.block K.mb (hC.lt _ (.inr (.inl rfl))) (by rintro (q | q); exact hmn.1 q; exact hmn.2 q))
    refine ⟨by rw [Joins.cell_of_block hcW]; rfl, ?_⟩
    have hsub : ∀ x, x ∈ p ++ q → x ∈ K.ns := fun x hx => by rw [hns]; simp at hx ⊢; rcases hx with h | h <;> simp [h]
    have hgS : ¬ (g = K.e ∨ g ∈ p ++ q) := by
      rintro (e | e)
      · exact (List.nodup_cons.1 hnd2).1 (by rw [e]; simp)
      · exact (List.nodup_cons.1 hnd2).1 (List.mem_cons_of_mem _ e)
    have hlast : (leaveM K.M g K.e).pv = K.e ∨ (leaveM K.M g K.e).pv ∈ p ++ q := by
      rcases List.mem_cons.1 (seg_last hseg) with h | h
      · exact .inl h
      · exact .inr h
    have hst := stand_of (S := fun x => x = K.e ∨ x ∈ p ++ q) (hN.mono fun x hx => hx.imp id (hsub x)) (h := g) (e := K.e) (n := leaveM K.M g g) hgS (.inl rfl) hlast (hN g (.inr hgm))
    refine hst.mono ?_
    rintro e w' ⟨rfl, hN2, hF2⟩
    have hF3 : Fr K.has w w' := (hF.mono (T' := K.has) fun i _ q => by
        rcases q with rfl | rfl
        · exact .inr (.inr hnp)
        · exact .inr (.inr hnn)).trans hF2 fun i _ q => by
      rcases q with rfl | rfl | rfl
      · exact .inr (.inr (.inr hgm))
      · exact .inr (.inr (.inl rfl))
      · exact .inr (.inr (hlast.imp id (hsub _)))
    have hT : ∀ x, (x = K.c ∨ x = K.mb) → ¬ (x = g ∨ x = K.e ∨ x = (leaveM K.M g K.e).pv) := by
      rintro x hx (e | e | e)
      · rcases hx with rfl | rfl
        · exact hC.cne (.inr hgm) e.symm
        · exact hC.mne (.inr hgm) e.symm
      · rcases hx with rfl | rfl
        · exact hC.cne (.inl rfl) e.symm
        · exact hC.mne (.inl rfl) e.symm
      · rcases hx with rfl | rfl
        · exact hC.cne (hlast.imp id (hsub _)) e.symm
        · exact hC.mne (hlast.imp id (hsub _)) e.symm
    have hsz := hF.size
    have hlr : ∀ x, hld (leaveM K.M g) x = hld K.M x := fun x => by
      obtain ⟨a1, a2, a3⟩ := leave_rest K.M g x
      unfold hld
      rw [a1, a2, a3]
    have hrow : s.row = p.map (hld K.M) ++ hld K.M g :: q.map (hld K.M) := by rw [hC.holds, hns]; simp
    have hperm : ((p ++ q).map (hld K.M) ++ [hld K.M g]).Perm s.row := by
      rw [hrow, List.map_append]
      refine (List.perm_append_comm).trans ?_
      exact (List.perm_middle (l₁ := p.map (hld K.M)) (l₂ := q.map (hld K.M)) (a := hld K.M g)).symm
    have hfn : fastN ((p ++ q).map (hld K.M) ++ [hld K.M g]) = fastN s.row := hperm.countP_eq _
    have hok : COk { s with row := (p ++ q).map (hld K.M) ++ [hld K.M g] } :=
      ⟨hC.ok.size, by show (((p ++ q).map (hld K.M) ++ [hld K.M g]).length : Int) ≤ s.size; rw [hperm.length_eq]; exact hC.ok.len, fun x hx => hC.ok.pos x (hperm.subset hx), ((hperm.map _).nodup_iff).2 hC.ok.nodup⟩
    have hpM : ∀ x, posOf (standM (setM (leaveM K.M g) g (leaveM K.M g g)) g K.e) x = posOf K.M x := fun x => by
      rw [setM_self]
      exact ((stand_rest (leaveM K.M g) g K.e x).1).trans (leave_rest K.M g x).1
    have hnsp : ((p ++ q) ++ [g]).Perm K.ns := by
      rw [hns]
      exact (List.perm_append_comm).trans (List.perm_middle (l₁ := p) (l₂ := q) (a := g)).symm
    refine ⟨rfl, standM (setM (leaveM K.M g) g (leaveM K.M g g)) g K.e, ?_, ?_, hF3⟩
    · refine cache_stood (K := K) (s := { s with row := (p ++ q).map (hld K.M) ++ [hld K.M g] }) hnd2 hseg ?_ ?_ hN2 ?_ hok
      · have e1 : ckRow K { s with row := (p ++ q).map (hld K.M) ++ [hld K.M g] } = ckRow K s := by unfold ckRow; simp only [hfn]
        rw [e1]
        exact (hF2.block K.c (by have := hC.lt _ (.inl rfl); omega) (hT _ (.inl rfl))).trans hcW
      · have e1 := mapV_ext (M := K.M) (M' := standM (setM (leaveM K.M g) g (leaveM K.M g g)) g K.e) (ns := K.ns) (ns' := (p ++ q) ++ [g]) hC.posNd
          (by rw [List.map_congr_left fun x _ => hpM x]; exact ((hnsp.map _).nodup_iff).2 hC.posNd) (fun x => (hnsp.mem_iff).symm) fun x _ => hpM x
        rw [← e1]
        exact hmW.kept (hF2.block K.mb (by have := hC.lt _ (.inr (.inl rfl)); omega) (hT _ (.inr rfl)))
      · show (p ++ q).map (hld K.M) ++ [hld K.M g] = _
        congr 1
        · exact List.map_congr_left fun x _ => (hlr x).symm
        · rw [← hlr g]
          rfl
    · rw [setM_self]
      obtain ⟨a1, a2, a3⟩ := stand_rest (leaveM K.M g) g K.e g
      rw [← hlr g]
      unfold hld
      rw [a1, a2, a3]
  clear hb h hC hns hg hgm near hnp hnn hnd hnd2 hseg
  generalize (p ++ q).map (hld K.M) ++ [hld K.M g] = R at *
  have HL : Hid (Calls Try.prog 63 #[ptr g] w fun e w' => e = .returned (.tuple #[]) ∧ Nodes w' (leaveM K.M g) (fun k => k = K.e ∨ k ∈ K.ns) ∧ Fr (fun k => k = (K.M g).pv ∨ k = (K.M g).nx) w w') := hL
  clear hL
  unfold nilp at z71
  unfold ptr at c3 c4 hmv hR ⊢
  go_enter Try.func53, Try.ntmps53
  go_wp2_with (first | (go_at_call 54; refine hR.mono ?_; rintro e W ⟨rfl, rfl⟩) | (refine wpList_lookM_some rfl (.tmp 18) (.tmp 19) 70 rfl 71 Try.underlying3 keyed3 Try.underlying70 rfl hmap (z71 _) k hwf rfl _ hmv ?_) | (go_at_call 63; fail))
  refine HL.out.mono ?_
  rintro e W1 ⟨rfl, hN1, hF1⟩
  obtain ⟨d4, hst⟩ := HS.out W1 hN1 hF1
  unfold ptr at d4 hst
  have HST : Hid (Calls Try.prog 65 _ W1 _) := hst
  clear HS HL hN1 hF1 hst hmap
  go_wp2_with (go_at_call 65; fail)
  refine HST.out.mono ?_
  rintro e W2 ⟨rfl, M', h1, h2, h3⟩
  have H1 : Hid (CacheAt W2 _ _) := h1
  have H2 : Hid (hld M' g = hld K.M g) := h2
  have H3 : Hid (Fr K.has _ W2) := h3
  clear h1 h2 h3 HST
  go_wp2
  go_ret3
  exact ⟨rfl, M', H1.out, H2.out, H3.out⟩
end Go.Proofs.Ytencclpcebpgmaa
