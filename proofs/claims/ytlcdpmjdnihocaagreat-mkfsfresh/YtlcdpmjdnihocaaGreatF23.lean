/- Several texts joined, each with its own remark; no condition. -/
import Derived.Test.YtlcdpmjdnihocaaGreatF22
import Derived.Deep.Cut
import Derived.Deep.CutRange
import Derived.Test.YtlcdpmjdnihocaaGreatF15
import Derived.Test.YtlcdpmjdnihocaaGreatF3
/- MkfsFresh: the walk; for every image and geometry. -/
namespace Go.Proofs.YtlcdpmjdnihocaaGreatD
open Go.RowKit
theorem lw_of_solo {w W : World} {d : Nat} {s : St} {im ge : Array Value} {ks : List (Nat × Obj)} (h : Has (SoP w ks) W d s) (hk : ∀ p ∈ lwK w im ge, p ∈ ks) : LwS w W im ge := ⟨h.rowO (hk _ (by simp [lwK])), h.rowO (hk _ (by simp [lwK])), h.belowO⟩
set_option maxRecDepth 20000 in
set_option maxHeartbeats 8000000 in
theorem law_fresh (n : Int) (p : Option Addr) (ls : List Cel) (cap : Nat) (gb gl gi : Int) (w : World) (himg : ImgAt w p ls) (hcan : ∀ c ∈ ls, Can c.2) (hgb : YtlcdpmjdnihocaaGreatP.I64 gb) :
    Calls Tryz.prog 4 #[.agg #[.int .i64 n, .slice p ls.length cap], YtlcdpmjdnihocaaGreatP.geoV gb gl gi] w fun e w' => e = .returned (.bool true) ∧ Below w.heap.size w w' := by
  obtain ⟨m, hm⟩ : ∃ m, ls.length = m := ⟨_, rfl⟩
  have hOf := fun u => YtlcdpmjdnihocaaGreatP.refOf_any gb gl gi u
  have hLg := fun u => large_ok n p m cap gb gl gi u
  have hWh : ∀ u, Below w.heap.size w u → largeB n m gi = false → Calls Tryz.prog 28 #[.agg #[.int .i64 n, .slice p m cap]] u fun e w' => e = .returned (.int .i64 (wholeE n ls)) ∧ Below u.heap.size u w' := fun u hu hl => by
    have h4 : (m : Int) ≤ 400 := by
      unfold largeB at hl
      simp at hl
      omega
    have := whole_any n ls p cap u (by omega) (himg.later hu)
    rwa [hm] at this
  have HWh : Hid _ := hWh
  have HIm : Hid (ImgAt w p ls) := himg
  have HCn : Hid (∀ c ∈ ls, Can c.2) := hcan
  have HM : Hid (ls.length = m) := hm
  clear himg hcan hWh
  rw [hm]
  clear hm
  obtain ⟨LR, hLR⟩ : ∃ LR, YtlcdpmjdnihocaaGreatP.ofV gb gl gi = .agg LR ∧ Hid ((Tryz.prog.info? 52).map (·.size) = some LR.size) ∧ Hid ((YtlcdpmjdnihocaaGreatP.lay9 0 0 0 0 0 0 0 0 0).size = LR.size) ∧ Hid (LR.all (·.oneCell') = true) ∧ Hid (YtlcdpmjdnihocaaGreatP.Fine gb gl gi → LR = YtlcdpmjdnihocaaGreatP.lay9 gb gl gi 1 (1 + gl) (YtlcdpmjdnihocaaGreatP.nodeB gi) (YtlcdpmjdnihocaaGreatP.bitsAt gl gi) (YtlcdpmjdnihocaaGreatP.bitsB gb) (YtlcdpmjdnihocaaGreatP.dataAt gb gl gi)) := by
    by_cases hf : YtlcdpmjdnihocaaGreatP.Fine gb gl gi
    · exact ⟨_, if_pos hf, lay9_size _ _ _ _ _ _ _ _ _, (rfl : (YtlcdpmjdnihocaaGreatP.lay9 0 0 0 0 0 0 0 0 0).size = _), lay9_one _ _ _ _ _ _ _ _ _, fun _ => rfl⟩
    · exact ⟨_, if_neg hf, lay9_size _ _ _ _ _ _ _ _ _, (rfl : (YtlcdpmjdnihocaaGreatP.lay9 0 0 0 0 0 0 0 0 0).size = _), lay9_one _ _ _ _ _ _ _ _ _, fun q => absurd q hf⟩
  obtain ⟨hLR, HLi, HLs, HLo, HLF⟩ := hLR
  rw [hLR] at hOf
  clear hLR
  have HOE : Hid (YtlcdpmjdnihocaaGreatP.ofE gb gl gi = if YtlcdpmjdnihocaaGreatP.Fine gb gl gi then 0 else 2) := rfl
  have HWE : Hid (wholeE n ls = if mayB n ls then 0 else 2) := rfl
  have zl := zeroLy
  unfold YtlcdpmjdnihocaaGreatP.geoV at *
  generalize YtlcdpmjdnihocaaGreatP.lay9 0 0 0 0 0 0 0 0 0 = Z at *
  have HIi : Hid _ := im_info n p m cap
  have HGi : Hid _ := ge_info gb gl gi
  have i0 : (#[Value.int .i64 n, .slice p m cap] : Array Value)[0]? = some (.int .i64 n) := rfl
  have g0 : (#[Value.int .i64 gb, .int .i64 gl, .int .i64 gi] : Array Value)[0]? = some (.int .i64 gb) := rfl
  have g2 : (#[Value.int .i64 gb, .int .i64 gl, .int .i64 gi] : Array Value)[2]? = some (.int .i64 gi) := rfl
  have HI0 : Hid _ := i0
  have HG0 : Hid _ := g0
  have HG2 : Hid _ := g2
  clear i0 g0 g2
  have HMk : Hid (∀ (Q : World → Loc → Prop), Stays Q → ∀ V d s, Has Q V d s → Wide s 10000 → s.claims < 1000000000 → Calls Tryz.prog 13 #[.pointer (some ⟨d, 0, none⟩), .agg #[.int .i64 gb, .int .i64 gl, .int .i64 gi]] V fun e W' => e = .returned (.int .i64 (mkE gb gl gi s)) ∧ Has Q W' d (mkV gb gl gi s)) := fun Q hQ V d s hV hW hC => make_ok hQ hV gb gl gi hgb hW hC
  have HLd : Hid (mayB n ls = true → m ≤ 400 → ∀ V, Below w.heap.size w V → Calls Tryz.prog 7 #[.agg #[.int .i64 n, .slice p m cap]] V fun e w' => ∃ L : Loc, e = .returned (.tuple #[.pointer (some ⟨L.d, 0, none⟩), .int .i64 0]) ∧ DiskAt w' L (loadV n ls) ∧ L.from V.heap.size ∧ Below V.heap.size V w') := fun hmay h4 V hV => by
    have := load_ok n ls p cap V (by have := HM.out; omega) (HIm.out.later hV) HCn.out hmay
    rwa [HM.out] at this
  generalize him : (#[Value.int .i64 n, .slice p m cap] : Array Value) = im at *
  generalize hge : (#[Value.int .i64 gb, .int .i64 gl, .int .i64 gi] : Array Value) = ge at *
  obtain ⟨A, hA⟩ : ∃ A, A = (w.alloc (.cells im 24)).alloc (.cells ge 26) := ⟨_, rfl⟩
  have HS : Hid (LwS w A im ge) := by rw [hA]; exact ⟨heap_kept (heap_alloc_new _ _) (below_new _ _), YtlcdpmjdnihocaaGreat.heap_two _ _ _, below_next (below_new _ _) (below_new _ _)⟩
  have HA : Hid (A = _) := hA
  have HIm2 : Hid (im = #[Value.int .i64 n, .slice p m cap]) := him.symm
  have HGe2 : Hid (ge = #[Value.int .i64 gb, .int .i64 gl, .int .i64 gi]) := hge.symm
  clear hA him hge
  obtain ⟨lg, hlg⟩ : ∃ lg, largeB n m gi = lg := ⟨_, rfl⟩
  have HLb : Hid (largeB n m gi = lg) := hlg
  rw [hlg] at hLg
  clear hlg
  obtain ⟨oe, hoe⟩ : ∃ oe, YtlcdpmjdnihocaaGreatP.ofE gb gl gi = oe := ⟨_, rfl⟩
  rw [hoe] at hOf HOE
  clear hoe
  obtain ⟨we, hwe⟩ : ∃ we, wholeE n ls = we := ⟨_, rfl⟩
  rw [hwe] at HWh HWE
  clear hwe
  go_enter Tryz.func4, Tryz.ntmps4
  go_upto_region 1 with fail
  rw [← HA.out]
  clear HA
  go_wp2_with (first | (with_reducible refine YtlcdpmjdnihocaaGreat.isLoadR 26 ?_; refine YtlcdpmjdnihocaaGreat.wpList_ldR 26 Tryz.underlying26 rfl rfl _ rfl (w.heap.size + 1) rfl ge 26 (0, 0) HGi.out HS.out.ge ?_) | (go_at_call 27; fail))
  refine (hOf _).mono ?_
  rintro e W1 ⟨rfl, hb1⟩
  have HS1 : Hid (LwS w (W1.alloc (.cells LR 52)) im ge) := (HS.out.later hb1).later (below_new _ _)
  have HLy1 : Hid ((W1.alloc (.cells LR 52)).heap[W1.heap.size]? = some (.cells LR 52)) := heap_alloc_new _ _
  clear HS hb1 hOf
  go_upto_region 2 with (first | (with_reducible refine YtlcdpmjdnihocaaGreat.isStoreR 52 ?_; refine YtlcdpmjdnihocaaGreat.wpList_stNew 52 rfl _ _ rfl W1.heap.size LR Z 52 HLi.out HLs.out HLo.out rfl rfl rfl ?_))
  generalize W1.alloc (.cells LR 52) = V1 at *
  generalize W1.heap.size = gy at *
  go_wp2_with (first | (with_reducible refine YtlcdpmjdnihocaaGreat.isLoadR 24 ?_; refine YtlcdpmjdnihocaaGreat.wpList_ldR 24 Tryz.underlying24 rfl rfl _ rfl w.heap.size rfl im 24 (0, 0) HIi.out HS1.out.im ?_) | (with_reducible refine YtlcdpmjdnihocaaGreat.isLoadR 26 ?_; refine YtlcdpmjdnihocaaGreat.wpList_ldR 26 Tryz.underlying26 rfl rfl _ rfl (w.heap.size + 1) rfl ge 26 (0, 0) HGi.out HS1.out.ge ?_) | (go_at_call 5; fail))
  refine (hLg _).mono ?_
  rintro e V2 ⟨rfl, hb2⟩
  have HS2 : Hid (LwS w V2 im ge) := HS1.out.later hb2
  have HLy2 : Hid _ := heap_kept HLy1.out hb2
  clear HS1 HLy1 hb2 hLg
  cases lg
  case true =>
    clear HWh HOE HWE HMk HLd
    go_wp2_with fail
    go_ret
    exact ⟨rfl, HS2.out.bel⟩
  go_wp2_with (first | (with_reducible refine YtlcdpmjdnihocaaGreat.isLoadR 24 ?_; refine YtlcdpmjdnihocaaGreat.wpList_ldR 24 Tryz.underlying24 rfl rfl _ rfl w.heap.size rfl im 24 (0, 0) HIi.out HS2.out.im ?_) | (go_at_call 28; fail))
  refine (HWh.out _ HS2.out.bel HLb.out).mono ?_
  rintro e V3 ⟨rfl, hb3⟩
  have HS3 : Hid (LwS w V3 im ge) := HS2.out.later hb3
  have HLy3 : Hid _ := heap_kept HLy2.out hb3
  clear HS2 HLy2 hb3 HWh
  by_cases hmay : mayB n ls = true
  case neg =>
    have hwe : we = 2 := by rw [HWE.out, if_neg hmay]
    subst hwe
    clear HOE HWE HMk HLd hmay
    go_wp2_with fail
    go_ret
    exact ⟨rfl, HS3.out.bel⟩
  have hwe : we = 0 := by rw [HWE.out, if_pos hmay]
  subst hwe
  have h400 : m ≤ 400 ∧ n ≤ 9000 := by
    have := HLb.out
    unfold largeB at this
    simp at this
    omega
  have HLd : Hid _ := HLd.out hmay h400.1
  have HN : Hid (m ≤ 400 ∧ n ≤ 9000 ∧ mayB n ls = true) := ⟨h400.1, h400.2, hmay⟩
  clear HWE hmay h400
  obtain ⟨K5, hK5⟩ : ∃ K5 : List (Nat × Obj), ((gy, .cells LR 52) :: lwK w im ge) = K5 := ⟨_, rfl⟩
  have HSub : Hid (∀ q ∈ lwK w im ge, q ∈ K5) := by rw [← hK5]; exact fun q hq => List.mem_cons_of_mem _ hq
  have HKy : Hid ((gy, Obj.cells LR 52) ∈ K5) := by rw [← hK5]; exact List.mem_cons_self ..
  have HKr : Hid (∀ V, V.heap[gy]? = some (.cells LR 52) → LwS w V im ge → ∀ p ∈ K5, V.heap[p.1]? = some p.2) := by
    rw [← hK5]
    intro V h1 h2 p hp
    rcases List.mem_cons.1 hp with rfl | hp
    · exact h1
    · exact h2.rows p hp
  clear hK5
  go_wp2_with (first | (with_reducible refine YtlcdpmjdnihocaaGreat.isLoadR 24 ?_; refine YtlcdpmjdnihocaaGreat.wpList_ldR 24 Tryz.underlying24 rfl rfl _ rfl w.heap.size rfl im 24 (0, 0) HIi.out HS3.out.im ?_) | (go_at_call 7; fail))
  refine (HLd.out V3 HS3.out.bel).mono ?_
  rintro e V4 ⟨L, rfl, hD, hL, hb4⟩
  have HH1 : Hid (Has (SoP w K5) V4 L.d (loadV n ls)) := has_solo hD hL hb4 HS3.out.bel (HKr.out V3 HLy3.out HS3.out)
  clear hD hL hb4 HS3 HLy3 HLd HKr
  generalize L.d = d1 at *
  have hlv := fun u => lives_ok u
  have HSt : Hid (Stays (SoP w K5)) := soP_stays w K5
  go_wp2_with (go_at_call 8; fail)
  refine (hlv _).mono ?_
  rintro e V6 ⟨rfl, hb6⟩
  have HH2 : Hid (Has (SoP w K5) V6 d1 (loadV n ls)) := HH1.out.later HSt.out hb6
  clear HH1 hb6 hlv
  have HC1 : Hid ((loadV n ls).claims < 1000000000) := by show _ < _; rw [(loadV_same n ls).2.2.2.2.2.1]; omega
  go_wp2_with (first | (with_reducible refine YtlcdpmjdnihocaaGreat.isLoadR 26 ?_; refine YtlcdpmjdnihocaaGreat.wpList_ldR 26 Tryz.underlying26 rfl rfl _ rfl (w.heap.size + 1) rfl ge 26 (0, 0) HGi.out (lw_of_solo HH2.out HSub.out).ge ?_) | (go_at_call 13; fail))
  refine (HMk.out _ HSt.out V6 d1 (loadV n ls) HH2.out (wide_load n ls) HC1.out).mono ?_
  rintro e V7 ⟨rfl, h7⟩
  have HH3 : Hid (Has (SoP w K5) V7 d1 (mkV gb gl gi (loadV n ls))) := h7
  clear h7 HH2 HC1 HMk
  have cg0 : V7.cell? ⟨w.heap.size + 1, 0, none⟩ = some (.int .i64 gb) := (cell_of_row _ _ 0 _ _ _ (lw_of_solo HH3.out HSub.out).ge).trans HG0.out
  have ci0 : V7.cell? ⟨w.heap.size, 0, none⟩ = some (.int .i64 n) := (cell_of_row _ _ 0 _ _ _ (lw_of_solo HH3.out HSub.out).im).trans HI0.out
  by_cases hf : YtlcdpmjdnihocaaGreatP.Fine gb gl gi
  case neg =>
    have hoe : oe = 2 := by rw [HOE.out, if_neg hf]
    subst hoe
    have hr : rdyE gb gl gi (loadV n ls) = 2 := by unfold rdyE; rw [if_pos (.inl (by unfold YtlcdpmjdnihocaaGreatP.ofE; rw [if_neg hf]; decide))]
    have hE : mkE gb gl gi (loadV n ls) = 2 := by unfold mkE; rw [hr]; rfl
    have hV : (mkV gb gl gi (loadV n ls)).made = 0 := by unfold mkV; rw [hr, if_neg (by decide)]; exact (loadV_same n ls).2.2.2.2.1
    have hmd := has_made HH3.out
    rw [hV] at hmd
    rw [hE]
    have HB : Hid (Below w.heap.size w V7) := HH3.out.belowO
    clear HOE hf hr hE hV HH3
    go_wp2_with (go_at_call 25; fail)
    refine hmd.mono ?_
    rintro e V8 ⟨rfl, rfl⟩
    go_wp2
    go_ret
    exact ⟨rfl, HB.out⟩
  have hoe : oe = 0 := by rw [HOE.out, if_pos hf]
  subst hoe
  by_cases hbn : gb > n
  case pos =>
    have hgt : decide (n < gb) = true := decide_eq_true hbn
    have hr : rdyE gb gl gi (loadV n ls) = 2 := by unfold rdyE; rw [if_pos (.inr (by rw [(loadV_same n ls).1]; exact hbn))]
    have hE : mkE gb gl gi (loadV n ls) = 2 := by unfold mkE; rw [hr]; rfl
    have hV : (mkV gb gl gi (loadV n ls)).made = 0 := by unfold mkV; rw [hr, if_neg (by decide)]; exact (loadV_same n ls).2.2.2.2.1
    have hmd := has_made HH3.out
    rw [hV] at hmd
    rw [hE]
    have HB : Hid (Below w.heap.size w V7) := HH3.out.belowO
    clear HOE hf hr hE hV HH3 hbn
    go_wp2_with (go_at_call 25; fail)
    refine hmd.mono ?_
    rintro e V8 ⟨rfl, rfl⟩
    go_wp2
    go_ret
    exact ⟨rfl, HB.out⟩
  have hgt : decide (n < gb) = false := decide_eq_false hbn
  have hn0 := HN.out
  have HDn : Hid (mkE gb gl gi (loadV n ls) = 0 ∧ Dn gb gl gi n (mkV gb gl gi (loadV n ls)) (gt (loadV n ls)) 0 (0 + (mkN gb gl gi + 6))) := by
    obtain ⟨l1, l2, l3, l4, l5, l6, l7⟩ := loadV_same n ls
    exact dn_of (s := loadV n ls) hf l1 (by omega) l3 (loadV_fuse n ls).1 l2 (by rw [l6]; omega) (by rw [l7]; simp) 0 0 (by rw [l4]; rfl) (by rw [l5]; rfl)
  rw [HDn.out.1]
  have HD := Hid.mk' HDn.out.2
  clear HDn HOE
  generalize gt (loadV n ls) = s0 at *
  generalize mkV gb gl gi (loadV n ls) = s1 at *
  have hIm := has_image HSt.out HH3.out
  rw [HD.out.n] at hIm
  have HFn : Hid (YtlcdpmjdnihocaaGreatP.Fine gb gl gi ∧ gb ≤ n ∧ n ≤ 9000) := ⟨hf, by omega, hn0.2.1⟩
  clear hf hn0 HN hbn
  go_wp2_with (go_at_call 21; fail)
  refine hIm.mono ?_
  rintro e X1 ⟨g1, l1, rfl, hi1, hi2, hx1⟩
  have HX1 := Hid.mk' hx1
  have hlk : Calls Tryz.prog 29 #[.agg #[.int .i64 n, .slice (some ⟨g1, 0, none⟩) l1.length l1.length]] X1 fun e w' => ∃ gi' ci tp tc q dd, e = .returned (.tuple #[.agg (Go.Proofs.YtlcdpmjdnihocaaGreat.stRow (.slice (some ⟨gi', 0, none⟩) 1 ci) (gb - YtlcdpmjdnihocaaGreatP.dataAt gb gl gi - 1) (gi - 1)), .slice none 0 0]) ∧
      (∀ j u, (Go.Proofs.YtlcdpmjdnihocaaGreat.itCells ⟨1, 2, 2, 32, 1, tp, 0, tc, q, 2, dd⟩)[j]? = some u → w'.cell? ⟨gi', j, none⟩ = some u) ∧ Go.Proofs.YtlcdpmjdnihocaaGreat.LieG Go.Proofs.YtlcdpmjdnihocaaGreat.enE 2 w' q Go.Proofs.YtlcdpmjdnihocaaGreat.esA ∧ Below X1.heap.size X1 w' := by
    obtain ⟨f1, f2, f3⟩ := HFn.out
    obtain ⟨b', l', i', rfl, rfl, rfl, hg⟩ := geo_of f1
    have hb := (YtlcdpmjdnihocaaGreat.fine_bd f1).1
    have hM := made_of_dn f1 hg HD.out hi1
    have := hM.look (n := n) (cap := l1.length) (img_same hi2) (whole_of hi1 HD.out.n (by omega) f3) (by omega) (fun c hc j => (hi1.sound c hc).1.1 j)
    rw [(Go.Proofs.YtlcdpmjdnihocaaGreat.lay_nums b' l' i').2.2.2]
    exact this
  clear hIm hi1 hi2 hx1 HH3
  generalize l1.length = N1 at *
  go_wp2_with (go_at_call 29; fail)
  refine hlk.mono ?_
  rintro e X2 ⟨g2, c2, tp, tc, q2, dd, rfl, ht, hes, hx2⟩
  have HX2 := Hid.mk' (HX1.out.later HSt.out hx2)
  have HE := Hid.mk' hes
  have HE0 := Hid.mk' (ht 0 _ rfl)
  have HT := Hid.mk' ht
  clear hlk hx2 HX1 ht hes
  obtain ⟨da, hda⟩ : ∃ da, YtlcdpmjdnihocaaGreatP.dataAt gb gl gi = da := ⟨_, rfl⟩
  have HL8 : Hid (LR[8]? = some (.int .i64 da)) := by show _ = _; rw [HLF.out HFn.out.1, hda]; rfl
  have HDa : Hid (0 < da ∧ da < gb ∧ gb ≤ 9000 ∧ 1 ≤ gi ∧ gi ≤ 65535) := by
    have h1 := YtlcdpmjdnihocaaGreat.fine_bd HFn.out.1
    have h2 := HFn.out
    rw [hda] at h1
    exact ⟨by omega, by omega, by omega, h2.1.2.2.1, h2.1.2.2.2.1⟩
  rw [hda]
  clear hda HLF
  obtain ⟨fr, hfr⟩ : ∃ fr, gb - da - 1 = fr := ⟨_, rfl⟩
  obtain ⟨sp, hsp⟩ : ∃ sp, gi - 1 = sp := ⟨_, rfl⟩
  have HFr := Hid.mk' hfr
  have HSp := Hid.mk' hsp
  rw [hfr, hsp]
  clear hfr hsp
  obtain ⟨SR, hSR⟩ : ∃ SR, Go.Proofs.YtlcdpmjdnihocaaGreat.stRow (.slice (some ⟨g2, 0, none⟩) 1 c2) fr sp = SR := ⟨_, rfl⟩
  have HS0 : Hid (SR[0]? = some (.slice (some ⟨g2, 0, none⟩) 1 c2)) := by rw [← hSR]; exact rfl
  have HS1 : Hid (SR[1]? = some (.int .i64 fr)) := by rw [← hSR]; exact rfl
  have HS2 : Hid (SR[2]? = some (.int .i64 sp)) := by rw [← hSR]; exact rfl
  have HSi : Hid _ := Go.Proofs.YtlcdpmjdnihocaaGreat.st_info (.slice (some ⟨g2, 0, none⟩) 1 c2) fr sp
  have HSs : Hid _ := Go.Proofs.YtlcdpmjdnihocaaGreat.st_two (.slice none 0 0) (.slice (some ⟨g2, 0, none⟩) 1 c2) 0 0 fr sp
  have HSo : Hid _ := Go.Proofs.YtlcdpmjdnihocaaGreat.st_one (some ⟨g2, 0, none⟩) 1 c2 fr sp
  rw [hSR] at HSi HSs HSo ⊢
  clear hSR
  have zs := Go.Proofs.YtlcdpmjdnihocaaGreat.zeroSt
  generalize Go.Proofs.YtlcdpmjdnihocaaGreat.stRow (.slice none 0 0) 0 0 = SZ at *
  have HX3 := Hid.mk' (HX2.out.addO (.cells SR 58))
  have HR3 := Hid.mk' (heap_alloc_new X2 (.cells SR 58))
  have HB3 := Hid.mk' (below_new X2 (.cells SR 58))
  clear cg0 ci0
  go_upto_region 11 with (first | (with_reducible refine YtlcdpmjdnihocaaGreat.isStoreR 58 ?_; refine YtlcdpmjdnihocaaGreat.wpList_stNew 58 rfl _ _ rfl X2.heap.size SR SZ 58 HSi.out HSs.out HSo.out rfl rfl rfl ?_))
  have cs0 := (Joins.cell_of_block HR3.out 0).trans HS0.out
  have hT3 : ∀ j u, (Go.Proofs.YtlcdpmjdnihocaaGreat.itCells ⟨1, 2, 2, 32, 1, tp, 0, tc, q2, 2, dd⟩)[j]? = some u → (X2.alloc (.cells SR 58)).cell? ⟨g2, 0 + j, none⟩ = some u := fun j u hu => by
    rw [Nat.zero_add]
    exact (HB3.out.cell (p := ⟨g2, j, none⟩) (World.block_lt_of_cell? _ _ (HT.out j u hu))).trans (HT.out j u hu)
  have HE3 : Hid (Go.Proofs.YtlcdpmjdnihocaaGreat.LieG Go.Proofs.YtlcdpmjdnihocaaGreat.enE 2 (X2.alloc (.cells SR 58)) q2 Go.Proofs.YtlcdpmjdnihocaaGreat.esA) := HE.out.later HB3.out
  have l0 := hT3 0 _ rfl
  have l1' := hT3 1 _ rfl
  have l2 := hT3 2 _ rfl
  have l3 := hT3 3 _ rfl
  have l4 := hT3 4 _ rfl
  have l5 := hT3 5 _ rfl
  have l6 := hT3 6 _ rfl
  simp only [Nat.zero_add] at l0 l1' l2 l3 l4 l5 l6
  obtain ⟨IR, hIR⟩ : ∃ IR : Array Value, #[.int .i64 1, .int .u16 2, .int .i64 2, .int .i64 32, .int .i64 1, .slice tp 0 tc, .slice q2 2 dd] = IR := ⟨_, rfl⟩
  have HI' : Hid (IR[0]? = some (.int .i64 1) ∧ IR[1]? = some (.int .u16 2) ∧ IR[2]? = some (.int .i64 2) ∧ IR[3]? = some (.int .i64 32) ∧ IR[4]? = some (.int .i64 1) ∧ IR[6]? = some (.slice q2 2 dd)) := by rw [← hIR]; exact ⟨rfl, rfl, rfl, rfl, rfl, rfl⟩
  have HIs : Hid ((Tryz.prog.info? 66).map (·.size) = some IR.size) := by rw [← hIR]; exact Go.Proofs.YtlcdpmjdnihocaaGreat.sizeIt
  have HIo : Hid (IR.all (·.oneCell') = true) := by rw [← hIR]; exact Go.Proofs.YtlcdpmjdnihocaaGreat.it_one 1 2 2 32 1 tp q2 0 2 tc dd
  have HIz : Hid ((Go.Proofs.YtlcdpmjdnihocaaGreat.itRow 0 0 0 0 0 (.slice none 0 0) (.slice none 0 0)).size = IR.size) := by rw [← hIR]; rfl
  have HIR := Hid.mk' hIR
  clear hIR hT3
  have zi := Go.Proofs.YtlcdpmjdnihocaaGreat.zeroIt
  generalize Go.Proofs.YtlcdpmjdnihocaaGreat.itRow 0 0 0 0 0 (.slice none 0 0) (.slice none 0 0) = IZ at *
  clear HB3 HX2 HE HT HE0 zs
  generalize X2.alloc (.cells SR 58) = X3 at *
  generalize X2.heap.size = gs at *
  have HX4 := Hid.mk' (HX3.out.addO (.cells IR 66))
  have HR4 := Hid.mk' (heap_alloc_new X3 (.cells IR 66))
  have HE4 := Hid.mk' (HE3.out.later (below_new X3 (.cells IR 66)))
  have HS4 := Hid.mk' (heap_kept HR3.out (below_new X3 (.cells IR 66)))
  clear HX3 HR3 HE3
  go_upto_region 14 with (first | (with_reducible refine YtlcdpmjdnihocaaGreat.isStoreR 66 ?_; rw [HIR.out]; refine YtlcdpmjdnihocaaGreat.wpList_stNew 66 rfl _ _ rfl X3.heap.size IR IZ 66 HIs.out HIz.out HIo.out rfl rfl rfl ?_))
  clear cs0 zi HIs HIz HIo HIR l0 l1' l2 l3 l4 l5 l6
  generalize X3.alloc (.cells IR 66) = X4 at *
  generalize X3.heap.size = gx at *
  obtain ⟨i0, i1, i2, i3, i4, i6⟩ := HI'.out
  have x0 := (Joins.cell_of_block HR4.out 0).trans i0
  have x1 := (Joins.cell_of_block HR4.out 1).trans i1
  have x2 := (Joins.cell_of_block HR4.out 2).trans i2
  have x3 := (Joins.cell_of_block HR4.out 3).trans i3
  have x4 := (Joins.cell_of_block HR4.out 4).trans i4
  have x6 := (Joins.cell_of_block HR4.out 6).trans i6
  clear i0 i1 i2 i3 i4 i6 HI' HR4
  go_upto_region 15 with fail
  clear x0 x1 x2 x3 x4
  go_wp2_with (go_at_call 30; fail)
  have hb5 := below_new X4 (.cells #[.int .u16 1, .string ⟨#[46]⟩, .int .u16 1, .string ⟨#[46, 46]⟩] 69)
  have hse := Go.Proofs.YtlcdpmjdnihocaaGreat.sameEntriesK_eq dd 2 (HE4.out.later hb5) (Go.Proofs.YtlcdpmjdnihocaaGreat.lie_named (heap_alloc_new X4 _)) (by show (2 : Nat) ≤ 1000000; decide)
  have HB5 := Hid.mk' hb5
  clear hb5 x6 HE4
  refine hse.mono ?_
  rintro e X6 ⟨rfl, hb6⟩
  have HX6 := Hid.mk' (HX4.out.later (soP_stays _ _) (below_next HB5.out hb6))
  clear hse hb6 HB5 HX4 HS4
  have hrs := HX6.out.rowO (List.mem_cons_of_mem _ (List.mem_cons_self ..))
  have hry := HX6.out.rowO (List.mem_cons_of_mem _ (List.mem_cons_of_mem _ HKy.out))
  have hrg := (lw_of_solo HX6.out (fun q hq => List.mem_cons_of_mem _ (List.mem_cons_of_mem _ (HSub.out q hq)))).ge
  have y1 := (Joins.cell_of_block hrs 1).trans HS1.out
  have y2 := (Joins.cell_of_block hrs 2).trans HS2.out
  have y3 := (Joins.cell_of_block hrg 0).trans HG0.out
  have y4 := (Joins.cell_of_block hrg 2).trans HG2.out
  have y5 := (Joins.cell_of_block hry 8).trans HL8.out
  have hpd : Calls Tryz.prog 31 #[.pointer (some ⟨d1, 0, none⟩)] X6 fun e W' => ∃ g, e = .returned (.slice (some ⟨g, 0, none⟩) 0 0) ∧ Below X6.heap.size X6 W' := by
    obtain ⟨L, hd, hDk, hp⟩ := HX6.out
    have := pend_of hDk (by rw [HD.out.wait]; decide)
    rw [HD.out.wait, hd] at this
    exact this.mono fun e W' ⟨h1, _, h3⟩ => ⟨_, h1, h3⟩
  clear hrs hry hrg HS0 HS1 HS2 HL8 HSub HKy
  have e1 : IntKind.i64.wrap (gb - da) = gb - da := by have := HDa.out; rw [IntKind.wrap_i64]; omega
  have e2 : IntKind.i64.wrap (gb - da - 1) = fr := by have := HDa.out; rw [← HFr.out, IntKind.wrap_i64]; omega
  have e3 : IntKind.i64.wrap (gi - 1) = sp := by have := HDa.out; rw [← HSp.out, IntKind.wrap_i64]; omega
  clear HFr HSp
  go_wp2_with (go_at_call 31; fail)
  refine hpd.mono ?_
  rintro e X7 ⟨gp, rfl, hb7⟩
  have HB := Hid.mk' (below_next HX6.out.belowO hb7)
  clear hpd hb7 HX6 y1 y2 y3 y4 y5
  go_wp2
  go_ret
  exact ⟨rfl, HB.out⟩
end Go.Proofs.YtlcdpmjdnihocaaGreatD
/- A list of marks that came in; for all that can be read. -/
namespace Go.Proofs.YtlcdpmjdnihocaaGreatD
open Go.RowKit Go.ChangeShapes Go.WideShapes
section
variable {H : Type} {enc : TypeId × Value → H} {w : World} {base : Nat} {sp : Nat → Bool} {held : Bool} {v : Value} {x : DataW H × List MemPlace} {fuel : Nat}
end
end Go.Proofs.YtlcdpmjdnihocaaGreatD
