import Derived.Test.YtencclpcebpgmaaPlace
/- A block of a cache is used: it is the last of the row from then on; no condition. -/
namespace Go.Proofs.Ytencclpcebpgmaa
open Go.RowKit Go.Maps

theorem setM_self (M : Nat → Nd) (g : Nat) : setM M g (M g) = M := by
  funext k
  unfold setM
  split
  · next h => rw [h]
  · rfl
theorem setM_other (M : Nat → Nd) (g : Nat) (n : Nd) {k : Nat} (h : k ≠ g) : setM M g n k = M k := by unfold setM; rw [if_neg h]
theorem setM_same (M : Nat → Nd) (g : Nat) (n : Nd) : setM M g n g = n := by unfold setM; rw [if_pos rfl]
/-- A cache whose row has got one more, the last. -/
theorem cache_stood {w : World} {K : KLoc} {s : CSt} {M : Nat → Nd} {ns : List Nat} {g : Nat} {n : Nd} (hnd : (g :: K.e :: ns).Nodup) (hseg : seg (Lnk M) K.e ns K.e)
    (hc : w.heap[K.c]? = some (.cells (ckRow K s) 73)) (hm : MapIs Try.prog 3 w K.mb (mapV (standM (setM M g n) g K.e) (ns ++ [g])))
    (hN : Nodes w (standM (setM M g n) g K.e) (fun k => k = g ∨ k = K.e ∨ k ∈ ns)) (hrow : s.row = ns.map (hld M) ++ [⟨n.pos, n.fast, n.dat⟩]) (hok : COk s) :
    CacheAt w { K with ns := ns ++ [g], M := standM (setM M g n) g K.e } s := by
  have hgn : ∀ x, x ∈ K.e :: ns → x ≠ g := fun x hx e => (List.nodup_cons.1 hnd).1 (e ▸ hx)
  have hh : ∀ x, hld (standM (setM M g n) g K.e) x = hld (setM M g n) x := fun x => by
    obtain ⟨a1, a2, a3⟩ := stand_rest (setM M g n) g K.e x
    unfold hld
    rw [a1, a2, a3]
  refine ⟨hc, hm, hN.mono fun x hx => ?_, stand_seg hnd ?_, ?_, ?_, hok⟩
  · rcases hx with h | h
    · exact .inr (.inl h)
    · have h : x ∈ ns ++ [g] := h
      simp at h
      rcases h with h | h
      · exact .inr (.inr h)
      · exact .inl h
  · refine seg_mono _ _ _ hseg fun x y hx hy hl => ?_
    have hy' : y ∈ K.e :: ns := by simp at hy ⊢; rcases hy with h | h <;> simp [h]
    unfold Lnk
    rw [setM_other _ _ _ (hgn x hx), setM_other _ _ _ (hgn y hy')]
    exact hl
  · have : (ns ++ [g]).Perm (g :: ns) := List.perm_append_comm (l₁ := ns) (l₂ := [g])
    have h2 : (K.e :: (ns ++ [g])).Perm (K.e :: g :: ns) := this.cons _
    exact ((h2.trans (List.Perm.swap ..)).nodup_iff).2 hnd
  · rw [hrow, List.map_append]
    congr 1
    · refine List.map_congr_left fun x hx => ?_
      rw [hh x]
      unfold hld
      rw [setM_other _ _ _ (hgn x (List.mem_cons_of_mem _ hx))]
    · show _ = [hld (standM (setM M g n) g K.e) g]
      rw [hh g]
      unfold hld
      rw [setM_same]
variable {w : World} {K : KLoc} {L : Loc} {s : CSt} {t : St}
theorem use_bad (h : CD w K L s t) {k : Int} (hb : refV t k ≠ 0) : Calls Try.prog 53 #[ptr K.c, .int .i64 k] w fun e w' => e = .returned (.tuple #[nilp, .bool false, .int .i64 (refV t k)]) ∧ w' = w := by
  have hR := refusesC_of h k
  have hne : (refV t k != 0) = true := by simp [hb]
  clear h hb
  generalize refV t k = r at *
  unfold ptr nilp at *
  go_enter Try.func53, Try.ntmps53
  go_wp2_with (first | (go_at_call 54; refine hR.mono ?_; rintro e W ⟨rfl, rfl⟩))
  go_ret3
  exact ⟨rfl, rfl⟩
theorem use_none {v : Value} (h : NoneAt w v) (k : Int) : Calls Try.prog 53 #[v, .int .i64 k] w fun e w' => e = .returned (.tuple #[nilp, .bool false, .int .i64 1]) ∧ w' = w := by
  have hR := refusesC_none h k
  clear h
  unfold nilp at *
  go_enter Try.func53, Try.ntmps53
  go_wp2_with (first | (go_at_call 54; refine hR.mono ?_; rintro e W ⟨rfl, rfl⟩))
  go_ret3
  exact ⟨rfl, rfl⟩
theorem zero71 (u : World) : (zeroValue 71).run Try.prog u = .ok nilp u := by
  have h : (Try.prog.info? 71).map (fun i => (i.zero, i.size)) = some (some nilp, 1) := by kernel_rfl
  exact (zero_of_info h).1 u
set_option maxRecDepth 20000 in
set_option maxHeartbeats 2000000 in
/-- The block is held. -/
theorem use_held (h : CD w K L s t) {k : Int} (hb : refV t k = 0) {p q : List Nat} {g : Nat} (hns : K.ns = p ++ g :: q) (hg : posOf K.M g = k) :
    Calls Try.prog 53 #[ptr K.c, .int .i64 k] w fun e w' => e = .returned (.tuple #[ptr g, .bool false, .int .i64 0]) ∧
      ∃ M', CacheAt w' { K with ns := (p ++ q) ++ [g], M := M' } { s with row := (p ++ q).map (hld K.M) ++ [hld K.M g] } ∧ hld M' g = hld K.M g ∧ Fr K.has w w' := by
  have hR := refusesC_of h k
  rw [hb] at hR
  have hC := h.cache
  have hgm : g ∈ K.ns := by rw [hns]; simp
  have hwf : (Lit.int .i64 k).wf = true := inTop.wf (inTop_of h.disk.ok (refV_ok hb).2)
  have hmv : mapV K.M K.ns k = some (ptr g) := by rw [← hg]; exact mapV_some hC.posNd hgm
  have hmap := hC.map
  have c3 := hC.c3
  have c4 := hC.c4
  have near := seg_near (p := p) (q := q) (h := g) (e := K.e) (M := K.M) (by rw [← hns]; exact hC.ring)
  have hnp : (K.M g).pv = K.e ∨ (K.M g).pv ∈ K.ns := by
    rw [hns]
    rcases List.mem_cons.1 near.1 with q | q
    · exact .inl q
    · exact .inr (by simp [q])
  have hnn : (K.M g).nx = K.e ∨ (K.M g).nx ∈ K.ns := by
    rw [hns]
    rcases List.mem_append.1 near.2 with q | q
    · exact .inr (by simp [q])
    · exact .inl (by simpa using q)
  have hL := leave_of hC.nodes (.inr hgm) hnp hnn
  have hnd := hC.nd
  rw [hns] at hnd
  have hnd2 : (g :: K.e :: (p ++ q)).Nodup := by
    have e1 : (K.e :: (p ++ g :: q)).Perm (g :: K.e :: (p ++ q)) := (List.perm_middle.cons K.e).trans (List.Perm.swap ..)
    exact (e1.nodup_iff).1 hnd
  have hseg := leave_seg hnd (by rw [← hns]; exact hC.ring)
  have z71 := zero71
  have HS : Hid (∀ W, Nodes W (leaveM K.M g) (fun k => k = K.e ∨ k ∈ K.ns) → Fr (fun k => k = (K.M g).pv ∨ k = (K.M g).nx) w W →
      W.cell? ⟨K.c, 4, none⟩ = some (ptr K.e) ∧ Calls Try.prog 65 #[ptr g, ptr K.e] W fun x w' => x = .returned (.tuple #[]) ∧
      ∃ M', CacheAt w' { K with ns := (p ++ q) ++ [g], M := M' } { s with row := (p ++ q).map (hld K.M) ++ [hld K.M g] } ∧ hld M' g = hld K.M g ∧ Fr K.has w w') := by
    intro W hN hF
    have hcn : K.c ≠ (K.M g).pv ∧ K.c ≠ (K.M g).nx := ⟨(hC.cne hnp).symm, (hC.cne hnn).symm⟩
    have hmn : K.mb ≠ (K.M g).pv ∧ K.mb ≠ (K.M g).nx := ⟨(hC.mne hnp).symm, (hC.mne hnn).symm⟩
    have hcW : W.heap[K.c]? = some (.cells (ckRow K s) 73) := (hF.block K.c (hC.lt _ (.inl rfl)) (by rintro (q | q); exact hcn.1 q; exact hcn.2 q)).trans hC.row
    have hmW : MapIs Try.prog 3 W K.mb (mapV K.M K.ns) := hC.map.kept (hF.block K.mb (hC.lt _ (.inr (.inl rfl))) (by rintro (q | q); exact hmn.1 q; exact hmn.2 q))
    refine ⟨by rw [Joins.cell_of_block hcW]; rfl, ?_⟩
    have hsub : ∀ x, x ∈ p ++ q → x ∈ K.ns := fun x hx => by rw [hns]; simp at hx ⊢; rcases hx with h | h <;> simp [h]
    have hgS : ¬ (g = K.e ∨ g ∈ p ++ q) := by
      rintro (e | e)
      · exact (List.nodup_cons.1 hnd2).1 (by rw [e]; simp)
      · exact (List.nodup_cons.1 hnd2).1 (List.mem_cons_of_mem _ e)
    have hlast : (leaveM K.M g K.e).pv = K.e ∨ (leaveM K.M g K.e).pv ∈ p ++ q := by
      rcases List.mem_cons.1 (seg_last hseg) with h | h
      · exact .inl h
      · exact .inr h
    have hst := stand_of (S := fun x => x = K.e ∨ x ∈ p ++ q) (hN.mono fun x hx => hx.imp id (hsub x)) (h := g) (e := K.e) (n := leaveM K.M g g) hgS (.inl rfl) hlast (hN g (.inr hgm))
    refine hst.mono ?_
    rintro e w' ⟨rfl, hN2, hF2⟩
    have hF3 : Fr K.has w w' := (hF.mono (T' := K.has) fun i _ q => by
        rcases q with rfl | rfl
        · exact .inr (.inr hnp)
        · exact .inr (.inr hnn)).trans hF2 fun i _ q => by
      rcases q with rfl | rfl | rfl
      · exact .inr (.inr (.inr hgm))
      · exact .inr (.inr (.inl rfl))
      · exact .inr (.inr (hlast.imp id (hsub _)))
    have hT : ∀ x, (x = K.c ∨ x = K.mb) → ¬ (x = g ∨ x = K.e ∨ x = (leaveM K.M g K.e).pv) := by
      rintro x hx (e | e | e)
      · rcases hx with rfl | rfl
        · exact hC.cne (.inr hgm) e.symm
        · exact hC.mne (.inr hgm) e.symm
      · rcases hx with rfl | rfl
        · exact hC.cne (.inl rfl) e.symm
        · exact hC.mne (.inl rfl) e.symm
      · rcases hx with rfl | rfl
        · exact hC.cne (hlast.imp id (hsub _)) e.symm
        · exact hC.mne (hlast.imp id (hsub _)) e.symm
    have hsz := hF.size
    have hlr : ∀ x, hld (leaveM K.M g) x = hld K.M x := fun x => by
      obtain ⟨a1, a2, a3⟩ := leave_rest K.M g x
      unfold hld
      rw [a1, a2, a3]
    have hrow : s.row = p.map (hld K.M) ++ hld K.M g :: q.map (hld K.M) := by rw [hC.holds, hns]; simp
    have hperm : ((p ++ q).map (hld K.M) ++ [hld K.M g]).Perm s.row := by
      rw [hrow, List.map_append]
      refine (List.perm_append_comm).trans ?_
      exact (List.perm_middle (l₁ := p.map (hld K.M)) (l₂ := q.map (hld K.M)) (a := hld K.M g)).symm
    have hfn : fastN ((p ++ q).map (hld K.M) ++ [hld K.M g]) = fastN s.row := hperm.countP_eq _
    have hok : COk { s with row := (p ++ q).map (hld K.M) ++ [hld K.M g] } :=
      ⟨hC.ok.size, by show (((p ++ q).map (hld K.M) ++ [hld K.M g]).length : Int) ≤ s.size; rw [hperm.length_eq]; exact hC.ok.len, fun x hx => hC.ok.pos x (hperm.subset hx), ((hperm.map _).nodup_iff).2 hC.ok.nodup⟩
    have hpM : ∀ x, posOf (standM (setM (leaveM K.M g) g (leaveM K.M g g)) g K.e) x = posOf K.M x := fun x => by
      rw [setM_self]
      exact ((stand_rest (leaveM K.M g) g K.e x).1).trans (leave_rest K.M g x).1
    have hnsp : ((p ++ q) ++ [g]).Perm K.ns := by
      rw [hns]
      exact (List.perm_append_comm).trans (List.perm_middle (l₁ := p) (l₂ := q) (a := g)).symm
    refine ⟨rfl, standM (setM (leaveM K.M g) g (leaveM K.M g g)) g K.e, ?_, ?_, hF3⟩
    · refine cache_stood (K := K) (s := { s with row := (p ++ q).map (hld K.M) ++ [hld K.M g] }) hnd2 hseg ?_ ?_ hN2 ?_ hok
      · have e1 : ckRow K { s with row := (p ++ q).map (hld K.M) ++ [hld K.M g] } = ckRow K s := by unfold ckRow; simp only [hfn]
        rw [e1]
        exact (hF2.block K.c (by have := hC.lt _ (.inl rfl); omega) (hT _ (.inl rfl))).trans hcW
      · have e1 := mapV_ext (M := K.M) (M' := standM (setM (leaveM K.M g) g (leaveM K.M g g)) g K.e) (ns := K.ns) (ns' := (p ++ q) ++ [g]) hC.posNd
          (by rw [List.map_congr_left fun x _ => hpM x]; exact ((hnsp.map _).nodup_iff).2 hC.posNd) (fun x => (hnsp.mem_iff).symm) fun x _ => hpM x
        rw [← e1]
        exact hmW.kept (hF2.block K.mb (by have := hC.lt _ (.inr (.inl rfl)); omega) (hT _ (.inr rfl)))
      · show (p ++ q).map (hld K.M) ++ [hld K.M g] = _
        congr 1
        · exact List.map_congr_left fun x _ => (hlr x).symm
        · rw [← hlr g]
          rfl
    · rw [setM_self]
      obtain ⟨a1, a2, a3⟩ := stand_rest (leaveM K.M g) g K.e g
      rw [← hlr g]
      unfold hld
      rw [a1, a2, a3]
  clear hb h hC hns hg hgm near hnp hnn hnd hnd2 hseg
  generalize (p ++ q).map (hld K.M) ++ [hld K.M g] = R at *
  have HL : Hid (Calls Try.prog 63 #[ptr g] w fun e w' => e = .returned (.tuple #[]) ∧ Nodes w' (leaveM K.M g) (fun k => k = K.e ∨ k ∈ K.ns) ∧ Fr (fun k => k = (K.M g).pv ∨ k = (K.M g).nx) w w') := hL
  clear hL
  unfold nilp at z71
  unfold ptr at c3 c4 hmv hR ⊢
  go_enter Try.func53, Try.ntmps53
  go_wp2_with (first | (go_at_call 54; refine hR.mono ?_; rintro e W ⟨rfl, rfl⟩) | (refine wpList_lookM_some rfl (.tmp 18) (.tmp 19) 70 rfl 71 Try.underlying3 keyed3 Try.underlying70 rfl hmap (z71 _) k hwf rfl _ hmv ?_) | (go_at_call 63; fail))
  refine HL.out.mono ?_
  rintro e W1 ⟨rfl, hN1, hF1⟩
  obtain ⟨d4, hst⟩ := HS.out W1 hN1 hF1
  unfold ptr at d4 hst
  have HST : Hid (Calls Try.prog 65 _ W1 _) := hst
  clear HS HL hN1 hF1 hst hmap
  go_wp2_with (go_at_call 65; fail)
  refine HST.out.mono ?_
  rintro e W2 ⟨rfl, M', h1, h2, h3⟩
  have H1 : Hid (CacheAt W2 _ _) := h1
  have H2 : Hid (hld M' g = hld K.M g) := h2
  have H3 : Hid (Fr K.has _ W2) := h3
  clear h1 h2 h3 HST
  go_wp2
  go_ret3
  exact ⟨rfl, M', H1.out, H2.out, H3.out⟩
end Go.Proofs.Ytencclpcebpgmaa
/- A block that a cache does not hold is used: where all are held fast, refused; else a place is made; no condition. -/
namespace Go.Proofs.Ytencclpcebpgmaa
open Go.RowKit Go.Maps
variable {w : World} {K : KLoc} {L : Loc} {s : CSt} {t : St}

theorem fastN_le (r : List Hld) : fastN r ≤ r.length := List.countP_le_length
theorem placeR_sub (n : Int) (r : List Hld) : (placeR n r).Sublist r := by
  unfold placeR
  split
  · exact List.Sublist.refl _
  · exact List.eraseP_sublist
theorem placeR_len (ok : COk s) (hf : (fastN s.row : Int) ≠ s.size) : ((placeR s.size s.row).length : Int) + 1 ≤ s.size := by
  have h1 := fastN_le s.row
  have h2 := ok.len
  unfold placeR
  split
  · omega
  · have hlt : fastN s.row < s.row.length := by omega
    have hex : ∃ a ∈ s.row, (!a.fast) = true := by
      apply Classical.byContradiction
      intro hn
      have : fastN s.row = s.row.length := List.countP_eq_length.2 fun a ha => by
        cases hq : a.fast
        · exact absurd ⟨a, ha, by rw [hq]; rfl⟩ hn
        · rfl
      omega
    obtain ⟨a, ha, hp⟩ := hex
    rw [List.length_eraseP_of_mem ha hp]
    omega
set_option maxRecDepth 20000 in
set_option maxHeartbeats 2000000 in
theorem use_full (h : CD w K L s t) {k : Int} (hb : refV t k = 0) (hno : ∀ g ∈ K.ns, posOf K.M g ≠ k) (hf : (fastN s.row : Int) = s.size) :
    Calls Try.prog 53 #[ptr K.c, .int .i64 k] w fun e w' => e = .returned (.tuple #[nilp, .bool false, .int .i64 160]) ∧ w' = w.drew := by
  have hR := refusesC_of h k
  rw [hb] at hR
  have hwf : (Lit.int .i64 k).wf = true := inTop.wf (inTop_of h.disk.ok (refV_ok hb).2)
  have hmv := mapV_none hno
  have hmap := h.cache.map
  have c2 := h.cache.c2
  have c3 := h.cache.c3
  have c5 := h.cache.c5
  rw [hf] at c5
  have z71 := zero71
  clear h hb hno hf
  unfold nilp at z71 ⊢
  unfold ptr at c3 hR ⊢
  go_enter Try.func53, Try.ntmps53
  go_wp2_with (first | (go_at_call 54; refine hR.mono ?_; rintro e W ⟨rfl, rfl⟩) | (refine wpList_lookM_none rfl (.tmp 18) (.tmp 19) 70 rfl 71 Try.underlying3 keyed3 Try.underlying70 rfl hmap (z71 _) k hwf rfl hmv ?_))
  go_region
  go_wp2
  go_ret3
  exact ⟨rfl, rfl⟩
set_option maxRecDepth 20000 in
set_option maxHeartbeats 2000000 in
theorem use_new (h : CD w K L s t) {k : Int} (hb : refV t k = 0) (hno : ∀ g ∈ K.ns, posOf K.M g ≠ k) (hf : (fastN s.row : Int) ≠ s.size) :
    Calls Try.prog 53 #[ptr K.c, .int .i64 k] w fun e w' => ∃ K' g l, e = .returned (.tuple #[ptr g, .bool true, .int .i64 0]) ∧ K'.ns = l ++ [g] ∧
      CacheAt w' K' { s with row := placeR s.size s.row ++ [⟨k, false, nought⟩] } ∧ hld K'.M g = ⟨k, false, nought⟩ ∧ K'.c = K.c ∧ K'.d = K.d ∧ (∀ i, K'.has i → K.has i ∨ w.heap.size ≤ i) ∧ Fr K.has w w' := by
  have hR := refusesC_of h k
  rw [hb] at hR
  have hin := inTop_of h.disk.ok (refV_ok hb).2
  have hwf : (Lit.int .i64 k).wf = true := inTop.wf hin
  have hmv := mapV_none hno
  have hC := h.cache
  have hmap := hC.map
  have c2 := hC.c2
  have c3 := hC.c3
  have c5 := hC.c5
  have z71 := zero71
  have hle := fastN_le s.row
  have hlen := hC.ok.len
  have hne : ((fastN s.row : Int) == s.size) = false := by simp [hf]
  have HD : CacheAt w.drew K s := hC.fr (Fr.drew (T := fun _ => False) w) fun _ _ q => q
  have HPl : Hid (Calls Try.prog 64 #[ptr K.c] w.drew fun e w' => e = .returned (.tuple #[]) ∧ ∃ K', CacheAt w' K' { s with row := placeR s.size s.row } ∧ K'.c = K.c ∧ K'.d = K.d ∧ K'.e = K.e ∧ K'.mb = K.mb ∧ (∀ k ∈ K'.ns, k ∈ K.ns) ∧ Fr K.has w.drew w') :=
    place_of HD (by omega)
  have hpl := placeR_len hC.ok hf
  have hps := placeR_sub s.size s.row
  have hposR : ∀ x ∈ placeR s.size s.row, x.pos ≠ k := by
    intro x hx
    have hx' := hps.subset hx
    rw [hC.holds] at hx'
    obtain ⟨g, hg, rfl⟩ := List.mem_map.1 hx'
    exact hno g hg
  have hnodR : ((placeR s.size s.row).map (·.pos)).Nodup := hC.ok.nodup.sublist (hps.map _)
  have hsize := hC.ok.size
  have hb98 := built98k k
  have HS : Hid (∀ W1 K1, CacheAt W1 K1 { s with row := placeR s.size s.row } → K1.c = K.c → K1.d = K.d → K1.e = K.e → K1.mb = K.mb → (∀ k ∈ K1.ns, k ∈ K.ns) → Fr K.has w.drew W1 →
      MapIs Try.prog 3 (W1.alloc (.cells (rowV k false nilp nilp nought) 98)) K.mb (mapV K1.M K1.ns) ∧
      (W1.alloc (.cells (rowV k false nilp nilp nought) 98)).cell? ⟨K.c, 3, none⟩ = some (.map (some K.mb)) ∧
      ∀ W3, MapIs Try.prog 3 W3 K.mb (fun y => if y = k then some (ptr W1.heap.size) else mapV K1.M K1.ns y) → (W1.alloc (.cells (rowV k false nilp nilp nought) 98)).grownBy W3 (some K.mb) →
        W3.cell? ⟨K.c, 4, none⟩ = some (ptr K.e) ∧
        Calls Try.prog 65 #[ptr W1.heap.size, ptr K.e] W3 fun x w' => x = .returned (.tuple #[]) ∧
          ∃ K' l, K'.ns = l ++ [W1.heap.size] ∧ CacheAt w' K' { s with row := placeR s.size s.row ++ [⟨k, false, nought⟩] } ∧ hld K'.M W1.heap.size = ⟨k, false, nought⟩ ∧ K'.c = K.c ∧ K'.d = K.d ∧ (∀ i, K'.has i → K.has i ∨ w.heap.size ≤ i) ∧ Fr K.has w w') := by
    intro W1 K1 h1 hc1 hd1 he1 hm1 hn1 hF1
    have hb1 := below_new W1 (.cells (rowV k false nilp nilp nought) 98)
    have ht1 := heap_alloc_new W1 (.cells (rowV k false nilp nilp nought) 98)
    have hd3 : (W1.alloc (.cells (rowV k false nilp nilp nought) 98)).cell? ⟨K.c, 3, none⟩ = some (.map (some K.mb)) := by
      rw [← hc1, Joins.cell_of_block ((hb1.block _ (h1.lt _ (.inl rfl))).trans h1.row), ← hm1]
      rfl
    refine ⟨by rw [← hm1]; exact h1.map.kept (hb1.block _ (h1.lt _ (.inr (.inl rfl)))), hd3, ?_⟩
    intro W3 hm3 hg3
    have f2 : Fr (fun i => i = K.mb) (W1.alloc (.cells (rowV k false nilp nilp nought) 98)) W3 := (Fr.ofGrown hg3).mono fun i _ q => by injection q with q; exact q.symm
    have f1 : Fr (fun _ => False) W1 (W1.alloc (.cells (rowV k false nilp nilp nought) 98)) := Fr.alloc _ _ _
    have f12 : Fr (fun i => i = K.mb) W1 W3 := (f1.mono (T' := fun i => i = K.mb) fun _ _ q => q.elim).trans f2 fun _ _ q => q
    have hN3 : Nodes W3 K1.M (fun x => x = K1.e ∨ x ∈ K1.ns) := h1.nodes.kept fun x hx => f12.block x (h1.lt x (.inr (.inr hx))) (by rw [← hm1]; exact h1.mne hx)
    have hgm : W1.heap.size ≠ K.mb := by have := h1.lt K1.mb (.inr (.inl rfl)); rw [hm1] at this; omega
    have hr3 : RowAt W3 W1.heap.size k false nilp nilp nought := (f2.block W1.heap.size (by simp) hgm).trans ht1
    have hc3 : W3.heap[K1.c]? = some (.cells (ckRow K1 { s with row := placeR s.size s.row }) 73) := (f12.block K1.c (h1.lt _ (.inl rfl)) (by rw [← hm1]; exact h1.cm)).trans h1.row
    refine ⟨?_, ?_⟩
    · rw [← hc1, Joins.cell_of_block hc3, ← he1]
      rfl
    have hgS : ¬ (W1.heap.size = K1.e ∨ W1.heap.size ∈ K1.ns) := fun hx => by have := h1.lt _ (.inr (.inr hx)); omega
    have hlast : (K1.M K1.e).pv = K1.e ∨ (K1.M K1.e).pv ∈ K1.ns := List.mem_cons.1 (seg_last h1.ring)
    have hst := stand_of (S := fun x => x = K1.e ∨ x ∈ K1.ns) hN3 (h := W1.heap.size) (e := K1.e) (n := ⟨k, false, 0, 0, nought⟩) hgS (.inl rfl) hlast hr3
    rw [he1] at hst
    refine hst.mono ?_
    rintro e w' ⟨rfl, hN4, hF4⟩
    rw [← he1] at hN4 hF4
    have hnd2 : (W1.heap.size :: K1.e :: K1.ns).Nodup := List.nodup_cons.2 ⟨fun hx => hgS (List.mem_cons.1 hx), h1.nd⟩
    have hT : ∀ x, (x = K1.c ∨ x = K1.mb) → ¬ (x = W1.heap.size ∨ x = K1.e ∨ x = (K1.M K1.e).pv) := by
      rintro x hx (e | e | e)
      · have : x < W1.heap.size := by
          rcases hx with rfl | rfl
          · exact h1.lt _ (.inl rfl)
          · exact h1.lt _ (.inr (.inl rfl))
        omega
      · rcases hx with rfl | rfl
        · exact h1.cne (.inl rfl) e.symm
        · exact h1.mne (.inl rfl) e.symm
      · rcases hx with rfl | rfl
        · exact h1.cne hlast e.symm
        · exact h1.mne hlast e.symm
    have hsz13 := f12.size
    have hlt1 : ∀ x, K1.has x → x < W3.heap.size := fun x hx => by have := h1.lt x hx; omega
    have hK1 : ∀ x, K1.has x → K.has x := by
      rintro x (q | q | q | q)
      · exact .inl (by rw [q, hc1])
      · exact .inr (.inl (by rw [q, hm1]))
      · exact .inr (.inr (.inl (by rw [q, he1])))
      · exact .inr (.inr (.inr (hn1 x q)))
    have hpM : ∀ x, x ≠ W1.heap.size → posOf (standM (setM K1.M W1.heap.size ⟨k, false, 0, 0, nought⟩) W1.heap.size K1.e) x = posOf K1.M x := fun x hx => by
      refine ((stand_rest _ _ _ x).1).trans ?_
      unfold posOf
      rw [setM_other _ _ _ hx]
    have hpG : posOf (standM (setM K1.M W1.heap.size ⟨k, false, 0, 0, nought⟩) W1.heap.size K1.e) W1.heap.size = k := by
      refine ((stand_rest _ _ _ _).1).trans ?_
      rw [setM_same]
    have hne1 : ∀ x ∈ K1.ns, x ≠ W1.heap.size := fun x hx e => hgS (.inr (e ▸ hx))
    have hrow1 : placeR s.size s.row = K1.ns.map (hld K1.M) := h1.holds
    have hfn : fastN (placeR s.size s.row ++ [⟨k, false, nought⟩]) = fastN (placeR s.size s.row) := by simp [fastN, List.countP_append]
    have hok : COk { s with row := placeR s.size s.row ++ [⟨k, false, nought⟩] } := by
      refine ⟨hsize, ?_, ?_, ?_⟩
      · show ((placeR s.size s.row ++ [(⟨k, false, nought⟩ : Hld)]).length : Int) ≤ s.size
        rw [List.length_append]
        simpa using hpl
      · intro x hx
        rcases List.mem_append.1 hx with hx | hx
        · exact h1.ok.pos x hx
        · obtain rfl : x = ⟨k, false, nought⟩ := by simpa using hx
          exact ⟨hin, can_nought⟩
      · show ((placeR s.size s.row ++ [(⟨k, false, nought⟩ : Hld)]).map (·.pos)).Nodup
        rw [List.map_append, List.nodup_append]
        refine ⟨hnodR, by simp, ?_⟩
        intro a ha b hb e
        obtain ⟨x, hx, rfl⟩ := List.mem_map.1 ha
        simp at hb
        exact hposR x hx (e.trans hb)
    have hndm : ((K1.ns ++ [W1.heap.size]).map (posOf (standM (setM K1.M W1.heap.size ⟨k, false, 0, 0, nought⟩) W1.heap.size K1.e))).Nodup := by
      rw [List.map_append, List.map_congr_left fun x hx => hpM x (hne1 x hx)]
      have := hok.nodup
      rw [List.map_append] at this
      have e1 : (placeR s.size s.row).map (·.pos) = K1.ns.map (posOf K1.M) := by rw [hrow1, List.map_map]; rfl
      rw [e1] at this
      simpa [hpG] using this
    refine ⟨rfl, { K1 with ns := K1.ns ++ [W1.heap.size], M := standM (setM K1.M W1.heap.size ⟨k, false, 0, 0, nought⟩) W1.heap.size K1.e }, K1.ns, rfl, ?_, ?_, hc1, hd1, ?_, ?_⟩
    · refine cache_stood (K := K1) (n := ⟨k, false, 0, 0, nought⟩) hnd2 h1.ring ?_ ?_ hN4 ?_ hok
      · have e1 : ckRow K1 { s with row := placeR s.size s.row ++ [⟨k, false, nought⟩] } = ckRow K1 { s with row := placeR s.size s.row } := by unfold ckRow; simp only [hfn]
        rw [e1]
        exact (hF4.block K1.c (hlt1 _ (.inl rfl)) (hT _ (.inl rfl))).trans hc3
      · have e1 := mapV_add (M := K1.M) (ns := K1.ns) (g := W1.heap.size) hndm fun x hx => hpM x (hne1 x hx)
        rw [hpG] at e1
        rw [← e1]
        rw [← hm1] at hm3
        exact hm3.kept (hF4.block K1.mb (hlt1 _ (.inr (.inl rfl))) (hT _ (.inr rfl)))
      · show placeR s.size s.row ++ [(⟨k, false, nought⟩ : Hld)] = _
        rw [hrow1]
    · obtain ⟨a1, a2, a3⟩ := stand_rest (setM K1.M W1.heap.size ⟨k, false, 0, 0, nought⟩) W1.heap.size K1.e W1.heap.size
      unfold hld
      rw [a1, a2, a3, setM_same]
    · have hsw : w.heap.size ≤ W1.heap.size := hF1.size
      rintro i (q | q | q | q)
      · exact .inl (hK1 i (.inl q))
      · exact .inl (hK1 i (.inr (.inl q)))
      · exact .inl (hK1 i (.inr (.inr (.inl q))))
      · have q : i ∈ K1.ns ++ [W1.heap.size] := q
        rcases List.mem_append.1 q with q | q
        · exact .inl (hK1 i (.inr (.inr (.inr q))))
        · simp at q
          exact .inr (by omega)
    · have g1 : Fr K.has w W1 := (Fr.drew (T := K.has) w).trans hF1 fun _ _ q => q
      have g2 : Fr K.has w W3 := g1.trans f12 fun i _ q => by rw [q]; exact .inr (.inl rfl)
      refine g2.trans hF4 fun i hi q => ?_
      rcases q with q | q | q
      · have := hF1.size
        have e1 : w.drew.heap.size = w.heap.size := rfl
        omega
      · exact .inr (.inr (.inl (by rw [q, he1])))
      · exact hK1 i (by rw [q]; exact .inr (.inr hlast))
  clear hb h hC hno hf HD hpl hps hposR hnodR hsize
  generalize placeR s.size s.row ++ [(⟨k, false, nought⟩ : Hld)] = R at *
  generalize placeR s.size s.row = R1 at *
  generalize rowV k false nilp nilp nought = Z at *
  unfold nilp at z71
  unfold ptr at c3 hR ⊢
  go_enter Try.func53, Try.ntmps53
  go_wp2_with (first | (go_at_call 54; refine hR.mono ?_; rintro e W ⟨rfl, rfl⟩) | (refine wpList_lookM_none rfl (.tmp 18) (.tmp 19) 70 rfl 71 Try.underlying3 keyed3 Try.underlying70 rfl hmap (z71 _) k hwf rfl hmv ?_))
  go_region
  go_wp2_with (go_at_call 64; fail)
  refine HPl.out.mono ?_
  rintro e W1 ⟨rfl, K1, h1, hc1, hd1, he1, hm1, hn1, hF1⟩
  obtain ⟨hm2, d3, hst⟩ := HS.out W1 K1 h1 hc1 hd1 he1 hm1 hn1 hF1
  have HST : Hid (∀ W3, MapIs Try.prog 3 W3 K.mb (fun y => if y = k then some (ptr W1.heap.size) else mapV K1.M K1.ns y) → (W1.alloc (.cells Z 98)).grownBy W3 (some K.mb) →
        W3.cell? ⟨K.c, 4, none⟩ = some (ptr K.e) ∧ Calls Try.prog 65 #[ptr W1.heap.size, ptr K.e] W3 _) := hst
  clear HS HPl h1 hc1 hd1 he1 hm1 hn1 hF1 hst hmap hmv c3 c5 c2
  go_wp2_with (first | (refine wpList_build98k rfl _ rfl k rfl hb98 ?_) | (refine wpList_putM rfl (.tmp 31) (.tmp 32) (.tmp 33) 70 rfl 71 Try.underlying3 keyed3 Try.underlying70 K.mb _ rfl hm2 k hin rfl _ rfl ?_; intro W3 hm3 hg3; obtain ⟨d4, hcall⟩ := HST.out W3 hm3 hg3; have HCall : Hid (Calls Try.prog 65 _ W3 _) := hcall; clear HST hcall hm2 hg3 hm3; unfold ptr at d4) | (go_at_call 65; fail))
  refine HCall.out.mono ?_
  rintro e W4 ⟨rfl, K', l, a1, a2, a3, a4, a5, a6, a7⟩
  have HR : Hid _ := (⟨K', W1.heap.size, l, rfl, a1, a2, a3, a4, a5, a6, a7⟩ : ∃ K' g l, (Ending.returned (.tuple #[ptr W1.heap.size, .bool true, .int .i64 0])) = .returned (.tuple #[ptr g, .bool true, .int .i64 0]) ∧ K'.ns = l ++ [g] ∧
      CacheAt W4 K' { s with row := R } ∧ hld K'.M g = ⟨k, false, nought⟩ ∧ K'.c = K.c ∧ K'.d = K.d ∧ (∀ i, K'.has i → K.has i ∨ _ ≤ i) ∧ Fr K.has _ W4)
  clear a1 a2 a3 a4 a5 a6 a7
  go_wp2
  go_ret3
  exact HR.out
end Go.Proofs.Ytencclpcebpgmaa
