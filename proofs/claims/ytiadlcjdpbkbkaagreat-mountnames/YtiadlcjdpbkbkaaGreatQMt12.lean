/- Mount of a blank disk, and of one that has stopped; a volume's desk holds inodes; a volume with a step open; closed. -/
import Derived.Test.YtiadlcjdpbkbkaaGreatJ15
namespace Go.Proofs.YtiadlcjdpbkbkaaGreatD
open Go.RowKit Go.Maps
variable {w W : World} {d : Nat} {t : St} {ks : List (Nat × Obj)}
set_option maxRecDepth 20000 in
set_option maxHeartbeats 1600000 in
/-- The regions are asked for: whatever the block says. -/
theorem found_gen {F : Nat → Int} {L : Array Value} {E : Int} (h : Sits w W d t ks) (h1n : 0 < t.n) (hs : t.stopped = false) (hr : Room t) (h0 : curV t 0 = F) (hD : Go.Proofs.YtiadlcjdpbkbkaaGreatP.decV F (readS t).n = .agg L ∧ Go.Proofs.YtiadlcjdpbkbkaaGreatP.decE F (readS t).n = E)
    (hL : (Tryz.prog.info? 43).map (·.size) = some L.size) (hL1 : L.all (·.oneCell') = true) (hL9 : L.size = 9) :
    Calls Tryz.prog 27 #[.pointer (some ⟨d, 0, none⟩)] W fun e W' => e = .returned (.tuple #[.agg L, .int .i64 E]) ∧ Sits w W' d (readS t) ks := by
  have zl := zeroLyR
  have z25 := zero25
  have hA := h.add (.cells lay0R 43)
  have href : refV t 0 = 0 := by unfold refV; rw [hs, if_neg (by simp), if_pos ⟨by omega, by omega⟩]
  have hrd := sits_read hA hr 0
  unfold readB readV at hrd
  rw [href, if_pos rfl, if_pos rfl, h0] at hrd
  have hcan : Can F := by rw [← h0]; exact curV_can h.ok 0
  have HDc : Hid (∀ V, Calls Tryz.prog 55 #[.agg (blk F), .int .i64 (readS t).n] V fun e w' => e = .returned (.tuple #[.agg L, .int .i64 E]) ∧ Below V.heap.size V w') := fun V => by
    have hd := Go.Proofs.YtiadlcjdpbkbkaaGreatP.decode_any F hcan.1 (readS t).n V
    rw [hD.1, hD.2] at hd
    exact hd
  have HI : Hid _ := hL
  have HO : Hid _ := hL1
  have HTw : Hid (L.size = 9) := hL9
  have HSz : Hid (w.heap.size ≤ W.heap.size) := h.below.size
  have HK : Hid _ := h.ksLt
  clear h hA hs hr h0 href hcan h1n hD hL hL1 hL9
  go_enter Tryz.func27, Tryz.ntmps27
  go_wp2_with (go_at_call 24; fail)
  refine hrd.mono ?_
  rintro e W1 ⟨rfl, h1⟩
  have HGb : Hid (W1.heap.size ≠ W.heap.size) := fun e => h1.ksLt _ (List.mem_cons_self ..) e.symm
  have H2 := Hid.mk' (h1.add (.cells (blk F) 47))
  clear hrd h1
  go_upto_region 4 with (first | refine wpList_store25_new rfl (.tmp 4) (.tmp 9) rfl F _ rfl rfl ?_)
  generalize W1.alloc (.cells (blk F) 47) = W2 at *
  generalize W1.heap.size = gb at *
  have hblk := H2.out.blk (List.mem_cons_self ..)
  have H2d := H2.out.later (W' := W2.drew) ⟨rfl, rfl, rfl, Nat.le_refl _, fun _ _ => rfl⟩
  have hlen := sits_len2 H2d
  have hdc := HDc.out W2.drew
  have HD := Hid.mk' H2d
  clear H2 H2d HDc
  refine wp_region_ord (S := fun u => u.heap[gb]? = some (.cells (blk F) 47)) [(0, true), (1, true), (2, false), (3, false), (4, true), (5, true), (6, false), (7, true)]
    (by kernel_rfl) rfl (by kernel_rfl) (fun d _ _ _ _ h => by cases d <;> exact h) hblk ?_
  simp only [inOrd, List.getElem?_cons_zero, List.getElem?_cons_succ]
  refine wpOrd_yield (v := .agg (blk F)) rfl (fun u hu => by exact (H.exec_loadB rfl gb F rfl hu)) ?_
  simp only [Act.put, List.setIfInBounds_toArray, List.set_cons_succ, List.set_cons_zero]
  refine wpOrd_yield (v := .pointer (some ⟨d, 0, none⟩)) rfl (fun u _ => by go_simp) ?_
  simp only [Act.put, List.setIfInBounds_toArray, List.set_cons_succ, List.set_cons_zero]
  refine wpOrd_call rfl 56 _ _ rfl Tryz.call56 [.pointer (some ⟨d, 0, none⟩)] rfl ?_
  refine hlen.mono ?_
  rintro e V ⟨rfl, rfl⟩
  refine ⟨_, rfl, hblk, ?_⟩
  simp only [Act.put, List.setIfInBounds_toArray, List.set_cons_succ, List.set_cons_zero]
  refine wpOrd_call rfl 55 _ _ rfl Tryz.call55 [.agg (blk F), .int .i64 (readS t).n] rfl ?_
  refine hdc.mono ?_
  rintro e W3 ⟨rfl, hb3⟩
  have h3 := HD.out.later hb3
  refine ⟨_, rfl, h3.blk (List.mem_cons_self ..), ?_⟩
  have hres := h3.blk (List.mem_cons_of_mem _ (List.mem_cons_self ..))
  have HE : Hid (Sits w (W3.setRow W.heap.size L) d (readS t) ks) := (h3.drop (ks' := (W.heap.size, .cells lay0R 43) :: ks) fun p hp => List.mem_cons_of_mem _ hp).beside (Fr.setRow W3 W.heap.size L) HSz.out HK.out
  clear hlen hdc HD hb3
  simp only [Act.put, List.setIfInBounds_toArray, List.set_cons_succ, List.set_cons_zero]
  refine wpOrd_yield (v := .agg L) rfl (fun u _ => by go_simp) ?_
  simp only [Act.put, List.setIfInBounds_toArray, List.set_cons_succ, List.set_cons_zero]
  refine wpOrd_yield (v := .int .i64 E) rfl (fun u _ => by go_simp) ?_
  simp only [Act.put, List.setIfInBounds_toArray, List.set_cons_succ, List.set_cons_zero]
  refine wpOrd_do rfl (exec_storeL rfl W.heap.size L lay0R HTw.out rfl HO.out rfl rfl hres) ((setRow_other W3 W.heap.size gb L HGb.out).trans (h3.blk (List.mem_cons_self ..))) ?_
  simp only [Act.put]
  refine wpOrd_yield (v := .int .i64 E) rfl (fun u _ => by go_simp) ?_
  simp only [Act.put, List.setIfInBounds_toArray, List.set_cons_succ, List.set_cons_zero]
  refine wpOrd_nil ?_
  go_wp2
  exact Go.Proofs.YtiadlcjdpbkbkaaGreat.retCT Tryz.underlying43 rfl rfl W.heap.size L 43 HI.out rfl (setRow_heap _ _ _ _ _ _ hres) rfl ⟨rfl, HE.out⟩
set_option maxRecDepth 20000 in
set_option maxHeartbeats 1600000 in
/-- A disk that has stopped. -/
theorem found_dead (h : Sits w W d t ks) (hs : t.stopped = true) (hr : Room t) : Calls Tryz.prog 27 #[.pointer (some ⟨d, 0, none⟩)] W fun e W' => e = .returned (.tuple #[.agg lay0R, .int .i64 3]) ∧ Sits w W' d t ks := by
  have zl := zeroLyR
  have z25 := zero25
  have hA := h.add (.cells lay0R 43)
  have href : refV t 0 = 3 := by unfold refV; rw [hs]; rfl
  have hrd := sits_read hA hr 0
  unfold readB readV at hrd
  rw [href, if_neg (by omega), if_neg (by omega)] at hrd
  have HI := Hid.mk' lay0R_info
  have HO := Hid.mk' lay0R_one
  have HE : Hid (∀ {o : Oper} {a : Act} {W : World}, o.op = .build 43 #[] → (execOp a.eval o).run Tryz.prog W = .ok (.value (.agg lay0R)) W) := fun ho => exec_build0Ly ho
  have HSz : Hid (w.heap.size ≤ W.heap.size) := h.below.size
  have HK : Hid _ := h.ksLt
  clear h hA href hs hr
  generalize lay0R = L at *
  generalize nought = N at *
  go_enter Tryz.func27, Tryz.ntmps27
  go_wp2_with (go_at_call 24; fail)
  refine hrd.mono ?_
  rintro e W1 ⟨rfl, h1⟩
  have h2 := (h1.add (.cells (blk N) 47)).drop (ks' := (W.heap.size, .cells L 43) :: ks) fun p hp => List.mem_cons_of_mem _ hp
  have hrow := h2.blk (List.mem_cons_self ..)
  have HE2 : Hid (Sits w ((W1.alloc (.cells (blk N) 47)).setRow W.heap.size L) d t ks) := h2.beside (Fr.setRow _ W.heap.size L) HSz.out HK.out
  clear hrd h1 h2
  go_wp2_with (first | refine wpList_store25_new rfl _ _ rfl _ _ rfl rfl ?_ | (with_reducible refine YtiadlcjdpbkbkaaGreat.isBuildR 43 ?_; refine YtiadlcjdpbkbkaaGreat.wpList_ex rfl (HE.out rfl) ?_) | (with_reducible refine YtiadlcjdpbkbkaaGreat.isStoreR 43 ?_; refine YtiadlcjdpbkbkaaGreat.wpList_stR 43 rfl _ _ rfl W.heap.size L L 43 HI.out rfl HO.out rfl rfl hrow ?_))
  exact Go.Proofs.YtiadlcjdpbkbkaaGreat.retCT Tryz.underlying43 rfl rfl W.heap.size L 43 HI.out rfl (setRow_heap _ _ _ _ _ _ hrow) rfl ⟨rfl, HE2.out⟩
set_option maxRecDepth 20000 in
set_option maxHeartbeats 1600000 in
/-- No regions, no volume. -/
theorem mount_nofound {t1 : St} {E : Int} (hE : E ≠ 0) {L : Array Value} (hL : (Tryz.prog.info? 43).map (·.size) = some L.size) (hL1 : L.all (·.oneCell') = true) (hL9 : L.size = lay0R.size)
    (hF : Calls Tryz.prog 27 #[.pointer (some ⟨d, 0, none⟩)] W fun e W' => e = .returned (.tuple #[.agg L, .int .i64 E]) ∧ Sits w W' d t1 ks) :
    Calls Tryz.prog 9 #[.pointer (some ⟨d, 0, none⟩)] W fun e W' => e = .returned (.tuple #[.pointer none, .int .i64 E]) ∧ Sits w W' d t1 ks := by
  have zl := zeroLyR
  have HI := Hid.mk' (hL)
  have HO := Hid.mk' (hL1)
  have H9 := Hid.mk' (hL9)
  have hEb : (E != 0) = true := by simpa using hE
  clear hL hL1 hL9 hE
  go_enter Tryz.func9, Tryz.ntmps9
  go_wp2_with (go_at_call 27; fail)
  refine hF.mono ?_
  rintro e W1 ⟨rfl, h1⟩
  have HS := Hid.mk' ((h1.add (.cells L 43)).drop (ks' := ks) fun p hp => List.mem_cons_of_mem _ hp)
  clear hF h1
  go_wp2_with (first | (with_reducible refine YtiadlcjdpbkbkaaGreat.isStoreR 43 ?_; refine YtiadlcjdpbkbkaaGreat.wpList_stNew 43 rfl _ _ rfl W1.heap.size L lay0R 43 HI.out H9.out.symm HO.out rfl rfl rfl ?_))
  go_ret2
  exact ⟨rfl, HS.out⟩
theorem dec_blank : Go.Proofs.YtiadlcjdpbkbkaaGreatP.decV nought 400 = .agg lay0R ∧ Go.Proofs.YtiadlcjdpbkbkaaGreatP.decE nought 400 = 4 := by
  have h : Go.Proofs.YtiadlcjdpbkbkaaGreatP.decB nought 400 = false := by decide +kernel
  unfold Go.Proofs.YtiadlcjdpbkbkaaGreatP.decV Go.Proofs.YtiadlcjdpbkbkaaGreatP.decE
  rw [h]
  exact ⟨rfl, rfl⟩
theorem cur_new (n k : Int) : curV (newV n) k = nought := rfl
/-- A new disk is blank. -/
theorem mount_blank (h : Sits w W d (newV 400) ks) : Calls Tryz.prog 9 #[.pointer (some ⟨d, 0, none⟩)] W fun e W' => e = .returned (.tuple #[.pointer none, .int .i64 4]) ∧ Sits w W' d (readS (newV 400)) ks :=
  mount_nofound (by omega) lay0R_info lay0R_one rfl (found_gen h (by show (0 : Int) < 400; omega) rfl (Rm.room (n := 2) (rm_new 400)) (cur_new 400 0) dec_blank lay0R_info lay0R_one rfl)
/-- The disk behind that, its fuse at nought, and a barrier asked for. -/
def dead0 : St := barV (fuseV (readS (newV 400)) 0)
theorem dead0_facts : barE (fuseV (readS (newV 400)) 0) = 3 ∧ dead0.stopped = true ∧ dead0.made = 0 := by
  refine ⟨?_, ?_, ?_⟩ <;> decide
theorem dead0_room : Room (fuseV (readS (newV 400)) 0) ∧ Room dead0 := ⟨⟨by decide, by decide, by decide, by decide⟩, ⟨by decide, by decide, by decide, by decide⟩⟩
theorem mount_dead (h : Sits w W d dead0 ks) : Calls Tryz.prog 9 #[.pointer (some ⟨d, 0, none⟩)] W fun e W' => e = .returned (.tuple #[.pointer none, .int .i64 3]) ∧ Sits w W' d dead0 ks :=
  mount_nofound (by omega) lay0R_info lay0R_one rfl (found_dead h dead0_facts.2.1 dead0_room.2)
end Go.Proofs.YtiadlcjdpbkbkaaGreatD
namespace Go.Proofs.YtiadlcjdpbkbkaaGreat
open Go.RowKit Go.Maps
section
variable {M : Int} {w W W' : World} {gv g gk bk d n : Nat} {x x1 : Go.Proofs.YtiadlcjdpbkbkaaGreatD.LSt} {book : Int → Nat → Int} {L : List (Int × Int)} {ks ks' : List (Nat × Obj)}
theorem VolAt.hold {c : Nat} (h : VolAt M w W gv g gk bk d x book n L []) (hd : Dok 8 L c) (hc : c < 1000000) (k : Int) (hk : (Lit.int .i64 k).wf = true) :
    Calls Tryz.prog 15 #[.pointer (some ⟨gk, 0, none⟩), .int .i64 k] W fun e W' => e = .returned (.int .i64 (holdE 8 L k)) ∧ VolAt M w W' gv g gk bk d x book n (holdL 8 L k) [] := by
  obtain ⟨oK, oB, h, hD, h1, h2, h3, h4⟩ := h
  refine (hold_ok hD hd hc k hk).mono ?_
  rintro e W' ⟨rfl, hD2, hF⟩
  obtain ⟨es, clk, hmo⟩ : ∃ es clk, W'.heap[bk]? = some (.map es clk) := by
    obtain ⟨es, clk, q, _⟩ := hD2.map
    exact ⟨es, clk, q⟩
  have hne : gk ≠ bk := hD.ne
  have a1 : RLog M w W g d x book n ((bk, oB) :: (gv, .cells (voRow gv g gk) 61) :: (gk, oK) :: []) := h.drop fun p hp => by
    simp only [List.mem_cons, List.mem_nil_iff, or_false] at hp ⊢
    rcases hp with rfl | rfl | rfl
    · exact .inr (.inr rfl)
    · exact .inl rfl
    · exact .inr (.inl rfl)
  have a2 := a1.swap hF h4 (fun p hp => by
    simp only [List.mem_cons, List.mem_nil_iff, or_false] at hp
    rcases hp with rfl | rfl
    · exact h2
    · exact hne) hmo
  exact ⟨rfl, oK, .map es clk, a2.drop fun p hp => by
    simp only [List.mem_cons, List.mem_nil_iff, or_false] at hp ⊢
    rcases hp with rfl | rfl | rfl
    · exact .inr (.inl rfl)
    · exact .inr (.inr rfl)
    · exact .inl rfl, hD2, h1, h2, h3, h4⟩
/-- A volume's row beside its log. -/
def VL (M : Int) (w W : World) (gv g gk d : Nat) (x : Go.Proofs.YtiadlcjdpbkbkaaGreatD.LSt) (book : Int → Nat → Int) (n : Nat) : Prop := RLog M w W g d x book n [(gv, .cells (voRow gv g gk) 61)] ∧ w.heap.size ≤ gv
theorem VolAt.vl (h : VolAt M w W gv g gk bk d x book n L []) : VL M w W gv g gk d x book n := by
  obtain ⟨oK, oB, h, hD, h1, h2, h3, h4⟩ := h
  exact ⟨h.drop fun p hp => by rw [List.mem_singleton.1 hp]; exact List.mem_cons_self .., h3⟩
theorem VL.cells (h : VL M w W gv g gk d x book n) : W.cell? ⟨gv, 0, none⟩ = some (.pointer (some ⟨gv, 0, none⟩)) ∧ W.cell? ⟨gv, 1, none⟩ = some (.pointer (some ⟨g, 0, none⟩)) ∧ W.cell? ⟨gv, 2, none⟩ = some (.pointer (some ⟨gk, 0, none⟩)) := by
  have hr := h.1.obj (List.mem_cons_self ..)
  exact ⟨Joins.cell_of_block hr 0, Joins.cell_of_block hr 1, Joins.cell_of_block hr 2⟩
set_option maxHeartbeats 800000 in
theorem VL.syncOpen (h : VL M w W gv g gk d x book n) (ho : x.opn = true) : Calls Tryz.prog 17 #[.pointer (some ⟨gv, 0, none⟩)] W fun e W' => e = .returned (.int .i64 180) ∧ VL M w W' gv g gk d x book n := by
  obtain ⟨c0, c1, c2⟩ := h.cells
  have hc : Calls Tryz.prog 30 #[.iface 35 (.pointer (some ⟨g, 0, none⟩))] W fun e W' => e = .returned (.int .i64 180) ∧ VL M w W' gv g gk d x book n := commitW_ok ((h.1.syncOpen ho).mono fun e W' q => ⟨180, q.1, q.1, q.2, h.2⟩)
  clear h ho
  go_enter Tryz.func17, Tryz.ntmps17
  go_wp2_with (first | (go_at_call 37; refine (vnone_no c0).mono ?_; rintro e w1 ⟨rfl, rfl⟩) | (go_at_call 30; fail))
  refine hc.mono ?_
  rintro e W1 ⟨rfl, h1⟩
  have HV := Hid.mk' (h1)
  clear hc h1 c0 c1 c2
  go_wp2
  go_ret
  exact ⟨rfl, HV.out⟩
theorem VL.later (h : VL M w W gv g gk d x book n) (hb : Below W.heap.size W W') : VL M w W' gv g gk d x book n := ⟨h.1.later hb, h.2⟩
set_option maxHeartbeats 1600000 in
theorem VL.closeOpen (h : VL M w W gv g gk d x book n) (ho : x.opn = true) : Calls Tryz.prog 18 #[.pointer (some ⟨gv, 0, none⟩)] W fun e W' => e = .returned (.int .i64 180) ∧ VL M w W' gv g gk d x book n := by
  obtain ⟨c0, c1, c2⟩ := h.cells
  have hc : Calls Tryz.prog 30 #[.iface 87 (.agg #[.pointer (some ⟨g, 0, none⟩)])] W fun e W' => e = .returned (.int .i64 180) ∧ VL M w W' gv g gk d x book n :=
    commitE_ok (endSync_ok fun W1 hb => ((h.later hb).1.closeOpen ho).mono fun e W' q => ⟨180, q.1, ⟨180, q.1, q.1, q.2, h.2⟩⟩)
  clear h ho
  go_enter Tryz.func18, Tryz.ntmps18
  go_wp2_with (first | (go_at_call 37; refine (vnone_no c0).mono ?_; rintro e w1 ⟨rfl, rfl⟩) | (go_at_call 30; fail))
  refine hc.mono ?_
  rintro e W1 ⟨rfl, h1⟩
  have HV := Hid.mk' (h1)
  clear hc h1 c0 c1 c2
  go_wp2
  go_ret
  exact ⟨rfl, HV.out⟩
set_option maxHeartbeats 1600000 in
/-- A volume with nothing to commit is closed: it is none, and its log is none. -/
theorem VL.close (h : VL M w W gv g gk d x book n) (ho : x.opn = false) (hb : x.blocks = []) :
    Calls Tryz.prog 18 #[.pointer (some ⟨gv, 0, none⟩)] W fun e W' => e = .returned (.int .i64 0) ∧ NoVol W' (.pointer (some ⟨gv, 0, none⟩)) ∧ Go.Proofs.YtiadlcjdpbkbkaaGreatD.NoneAt W' (.pointer (some ⟨g, 0, none⟩)) ∧ Below w.heap.size w W' := by
  obtain ⟨c0, c1, c2⟩ := h.cells
  have hne : gv ≠ g := by
    obtain ⟨t, hL, _⟩ := h.1
    obtain ⟨R, _, _, _, hq⟩ := hL.row19
    exact hq _ (List.mem_cons_self ..)
  have hc : Calls Tryz.prog 30 #[.iface 87 (.agg #[.pointer (some ⟨g, 0, none⟩)])] W fun e W' => e = .returned (.int .i64 0) ∧ Go.Proofs.YtiadlcjdpbkbkaaGreatD.NoneAt W' (.pointer (some ⟨g, 0, none⟩)) ∧ W'.heap[gv]? = some (.cells (voRow gv g gk) 61) ∧ Below w.heap.size w W' :=
    commitE_ok (endSync_ok fun W1 hb1 => ((h.later hb1).1.close ho hb).mono fun e W' q => ⟨0, q.1, ⟨0, q.1, q.1, q.2.1, q.2.2.1 _ (List.mem_cons_self ..), q.2.2.2⟩⟩)
  have HG := Hid.mk' h.2
  have HN := Hid.mk' hne
  have HI := Hid.mk' voZ_info
  have HO := Hid.mk' voZ_one
  have HE : Hid (∀ {o : Oper} {a : Act} {W : World}, o.op = .build 61 #[] → (execOp a.eval o).run Tryz.prog W = .ok (.value (.agg voZ)) W) := fun ho => exec_build0Vo ho
  have hz0 : voZ[0]? = some (.pointer none) := rfl
  have hzs : (voRow gv g gk).size = voZ.size := rfl
  have HZ0 := Hid.mk' hz0
  have HZs := Hid.mk' hzs
  clear h ho hb hne hz0 hzs
  generalize voZ = Z at *
  generalize voRow gv g gk = R at *
  go_enter Tryz.func18, Tryz.ntmps18
  go_wp2_with (first | (go_at_call 37; refine (vnone_no c0).mono ?_; rintro e w1 ⟨rfl, rfl⟩) | (go_at_call 30; fail))
  refine hc.mono ?_
  rintro e W1 ⟨rfl, hn, hrow, hb1⟩
  have HZ : Hid ((W1.setRow gv Z).heap[gv]? = some (.cells Z 61)) := setRow_heap _ _ _ _ _ _ hrow
  have HNo : Hid (Go.Proofs.YtiadlcjdpbkbkaaGreatD.NoneAt (W1.setRow gv Z) (.pointer (some ⟨g, 0, none⟩))) := by
    rcases hn with hn | ⟨g2, e2, hcl⟩
    · cases hn
    · injection e2 with e2
      injection e2 with e2
      injection e2 with e2
      subst e2
      refine .inr ⟨g, rfl, ?_⟩
      have hlt := World.block_lt_of_cell? W1 _ hcl
      have hk : (W1.setRow gv Z).heap[g]? = W1.heap[g]? := (Go.Proofs.YtiadlcjdpbkbkaaGreatD.Fr.setRow W1 gv Z).block g hlt (fun e => HN.out e.symm)
      unfold World.cell? at hcl ⊢
      simp only [hk]
      exact hcl
  have HB : Hid (Below w.heap.size w (W1.setRow gv Z)) := hb1.trans ((Go.Proofs.YtiadlcjdpbkbkaaGreatD.Fr.setRow W1 gv Z).below (fun i hi => by have := HG.out; omega) hb1.size)
  clear hc hn hb1 c0 c1 c2
  go_wp2_with (first | (with_reducible refine isBuildR 61 ?_; refine wpList_ex rfl (HE.out rfl) ?_) | (with_reducible refine isStoreR 61 ?_; refine wpList_stR 61 rfl _ _ rfl gv Z R 61 HI.out HZs.out HO.out rfl rfl hrow ?_))
  go_ret
  exact ⟨rfl, .inr ⟨gv, rfl, (Joins.cell_of_block HZ.out 0).trans HZ0.out⟩, HNo.out, HB.out⟩
end
end Go.Proofs.YtiadlcjdpbkbkaaGreat
