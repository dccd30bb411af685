/- MkfsStays: the walk; for every image and geometry. -/
import Derived.Test.YtlcdpmjdnihocaaQMk15
import Derived.Deep.Cut
import Derived.Deep.CutRange
namespace Go.Proofs.YtlcdpmjdnihocaaD
open Go.RowKit
theorem lw_of_solo {w W : World} {d : Nat} {s : St} {im ge : Array Value} {ks : List (Nat × Obj)} (h : Has (SoP w ks) W d s) (hk : ∀ p ∈ lwK w im ge, p ∈ ks) : LwS w W im ge := ⟨h.rowO (hk _ (by simp [lwK])), h.rowO (hk _ (by simp [lwK])), h.belowO⟩
theorem lw_of_duo {w W : World} {d d2 : Nat} {s s2 : St} {im ge : Array Value} {ks : List (Nat × Obj)} (h : Has (DuP w d2 s2 ks) W d s) (hk : ∀ p ∈ lwK w im ge, p ∈ ks) : LwS w W im ge := ⟨h.rowD (hk _ (by simp [lwK])), h.rowD (hk _ (by simp [lwK])), h.belowD⟩
theorem Has.subD {w W : World} {d d2 : Nat} {s s2 : St} {ks ks' : List (Nat × Obj)} (h : Has (DuP w d2 s2 ks) W d s) (hk : ∀ p ∈ ks', p ∈ ks) : Has (DuP w d2 s2 ks') W d s := by
  obtain ⟨L, hd, hD, hS⟩ := h
  obtain ⟨L2, hd2, hD2, hS2, ha⟩ := hS.other
  exact ⟨L, hd, hD, ⟨hS.so.new, hS.so.below, fun p hp => hS.so.keep p (hk p hp)⟩, L2, hd2, hD2, ⟨hS2.new, hS2.below, fun p hp => hS2.keep p (hk p hp)⟩, ha⟩
/-- An image told, its list kept beside the disks. -/
theorem has_imageK {w W : World} {d d2 : Nat} {s s2 : St} {ks : List (Nat × Obj)} (h : Has (DuP w d2 s2 ks) W d s) : Calls Try.prog 16 #[.pointer (some ⟨d, 0, none⟩)] W fun e W' => ∃ (g : Nat) (l : List Cel), e = .returned (.agg #[.int .i64 s.n, .slice (some ⟨g, 0, none⟩) l.length l.length]) ∧ IsImage s l ∧ Has (DuP w d2 s2 ((g, .cells (celCells l).toArray 54) :: ks)) W' d s := by
  obtain ⟨L, hd, hD, hS⟩ := h
  have hq := image_walk hD
  rw [hd] at hq
  refine hq.mono fun e W' ⟨g, l, h1, h2, h3, h4, h5⟩ => ⟨g, l, h1, h2, ?_⟩
  obtain ⟨L2, hd2, hD2, hS2, ha⟩ := hS.other
  have key : ∀ (L0 : Loc) (s0 : St), DiskAt W L0 s0 → SoP w ks W L0 → SoP w ((g, .cells (celCells l).toArray 54) :: ks) W' L0 := fun L0 s0 hD0 h0 => by
    obtain ⟨hn, hb, hk⟩ := soP_stays w ks W _ L0 L0 hD0.lt h0 (Goes.ofBelow L0 h5)
    refine ⟨hn, hb, fun p hp => ?_⟩
    rcases List.mem_cons.1 hp with rfl | hp
    · exact ⟨h3, fun q => by have := hD0.lt _ q; simp only at this; omega⟩
    · exact hk p hp
  exact ⟨L, hd, hD.later h5, key L s hD hS.so, L2, hd2, hD2.later h5, key L2 s2 hD2 hS2, ha⟩
theorem exec_ldB {o : Oper} {a : Act} {u : World} {x : Operand} {g : Nat} {f : Nat → Int} (ho : o.op = .load 46 x) (hx : a.eval x = .pointer (some ⟨g, 0, none⟩)) (hg : u.heap[g]? = some (.cells (blk f) 46)) : (execOp a.eval o).run Try.prog u = .ok (.value (.agg (blk f))) u := by
  have h := run_loadVar_row u g 46 46 (blk f) (0, 0) _ hg Try.underlying46 rfl (by rw [blk_size]; exact Ytlcdpmjdnihocaa.size77)
  generalize blk f = F at *
  simp only [execOp, ho, hx, Instr.loadAt, Instr.sureAddr, Sem.run_bind, Sem.run_pure, Result.andThen_ok, h]
theorem exec_ldIm {o : Oper} {a : Act} {u : World} {x : Operand} {g : Nat} {im : Array Value} (ho : o.op = .load 24 x) (hx : a.eval x = .pointer (some ⟨g, 0, none⟩)) (hg : u.heap[g]? = some (.cells im 24)) (hi : (Try.prog.info? 24).map (·.size) = some im.size) :
    (execOp a.eval o).run Try.prog u = .ok (.value (.agg im)) u := by
  have h := run_loadVar_row u g 24 24 im (0, 0) _ hg Try.underlying24 rfl hi
  simp only [execOp, ho, hx, Instr.loadAt, Instr.sureAddr, Sem.run_bind, Sem.run_pure, Result.andThen_ok, h]
theorem exec_buildB {o : Oper} {a : Act} {u : World} {f : Nat → Int} (ho : o.op = .build 46 #[]) (h : ∀ w, (Instr.build 46 #[]).run Try.prog w = .ok (.agg (blk f)) w) : (execOp a.eval o).run Try.prog u = .ok (.value (.agg (blk f))) u := by
  generalize blk f = F at *
  simp only [execOp, ho, Sem.run_bind, Sem.run_pure, List.map_toArray, List.map_nil, h u, Result.andThen_ok]
theorem exec_ldGe {o : Oper} {a : Act} {u : World} {x : Operand} {g : Nat} {im : Array Value} (ho : o.op = .load 26 x) (hx : a.eval x = .pointer (some ⟨g, 0, none⟩)) (hg : u.heap[g]? = some (.cells im 26)) (hi : (Try.prog.info? 26).map (·.size) = some im.size) :
    (execOp a.eval o).run Try.prog u = .ok (.value (.agg im)) u := by
  have h := run_loadVar_row u g 26 26 im (0, 0) _ hg Try.underlying26 rfl hi
  simp only [execOp, ho, hx, Instr.loadAt, Instr.sureAddr, Sem.run_bind, Sem.run_pure, Result.andThen_ok, h]
set_option maxRecDepth 20000 in
set_option maxHeartbeats 8000000 in
theorem law_stays (n : Int) (p : Option Addr) (ls : List Cel) (cap : Nat) (gb gl gi : Int) (w : World) (himg : ImgAt w p ls) (hcan : ∀ c ∈ ls, Can c.2) (hgb : YtlcdpmjdnihocaaP.I64 gb) :
    Calls Try.prog 5 #[.agg #[.int .i64 n, .slice p ls.length cap], YtlcdpmjdnihocaaP.geoV gb gl gi] w fun e w' => e = .returned (.bool true) ∧ Below w.heap.size w w' := by
  obtain ⟨m, hm⟩ : ∃ m, ls.length = m := ⟨_, rfl⟩
  have hOf := fun u => YtlcdpmjdnihocaaP.refOf_any gb gl gi u
  have hLg := fun u => large_ok n p m cap gb gl gi u
  have hWh : ∀ u, Below w.heap.size w u → largeB n m gi = false → Calls Try.prog 8 #[.agg #[.int .i64 n, .slice p m cap]] u fun e w' => e = .returned (.int .i64 (wholeE n ls)) ∧ Below u.heap.size u w' := fun u hu hl => by
    have h4 : (m : Int) ≤ 400 := by
      unfold largeB at hl
      simp at hl
      omega
    have := whole_any n ls p cap u (by omega) (himg.later hu)
    rwa [hm] at this
  have HWh : Hid _ := hWh
  have HIm : Hid (ImgAt w p ls) := himg
  have HCn : Hid (∀ c ∈ ls, Can c.2) := hcan
  have HM : Hid (ls.length = m) := hm
  clear himg hcan hWh
  rw [hm]
  clear hm
  obtain ⟨LR, hLR⟩ : ∃ LR, YtlcdpmjdnihocaaP.ofV gb gl gi = .agg LR ∧ Hid ((Try.prog.info? 29).map (·.size) = some LR.size) ∧ Hid ((YtlcdpmjdnihocaaP.lay9 0 0 0 0 0 0 0 0 0).size = LR.size) ∧ Hid (LR.all (·.oneCell') = true) ∧ Hid (YtlcdpmjdnihocaaP.Fine gb gl gi → LR = YtlcdpmjdnihocaaP.lay9 gb gl gi 1 (1 + gl) (YtlcdpmjdnihocaaP.nodeB gi) (YtlcdpmjdnihocaaP.bitsAt gl gi) (YtlcdpmjdnihocaaP.bitsB gb) (YtlcdpmjdnihocaaP.dataAt gb gl gi)) := by
    by_cases hf : YtlcdpmjdnihocaaP.Fine gb gl gi
    · exact ⟨_, if_pos hf, lay9_size _ _ _ _ _ _ _ _ _, (rfl : (YtlcdpmjdnihocaaP.lay9 0 0 0 0 0 0 0 0 0).size = _), lay9_one _ _ _ _ _ _ _ _ _, fun _ => rfl⟩
    · exact ⟨_, if_neg hf, lay9_size _ _ _ _ _ _ _ _ _, (rfl : (YtlcdpmjdnihocaaP.lay9 0 0 0 0 0 0 0 0 0).size = _), lay9_one _ _ _ _ _ _ _ _ _, fun q => absurd q hf⟩
  obtain ⟨hLR, HLi, HLs, HLo, HLF⟩ := hLR
  rw [hLR] at hOf
  clear hLR
  have HOE : Hid (YtlcdpmjdnihocaaP.ofE gb gl gi = if YtlcdpmjdnihocaaP.Fine gb gl gi then 0 else 2) := rfl
  have HWE : Hid (wholeE n ls = if mayB n ls then 0 else 2) := rfl
  have zl := zeroLy
  unfold YtlcdpmjdnihocaaP.geoV at *
  generalize YtlcdpmjdnihocaaP.lay9 0 0 0 0 0 0 0 0 0 = Z at *
  have HIi : Hid _ := im_info n p m cap
  have HGi : Hid _ := ge_info gb gl gi
  have i0 : (#[Value.int .i64 n, .slice p m cap] : Array Value)[0]? = some (.int .i64 n) := rfl
  have g0 : (#[Value.int .i64 gb, .int .i64 gl, .int .i64 gi] : Array Value)[0]? = some (.int .i64 gb) := rfl
  have g2 : (#[Value.int .i64 gb, .int .i64 gl, .int .i64 gi] : Array Value)[2]? = some (.int .i64 gi) := rfl
  have HI0 : Hid _ := i0
  have HG0 : Hid _ := g0
  have HG2 : Hid _ := g2
  clear i0 g0 g2
  have HMk : Hid (∀ (Q : World → Loc → Prop), Stays Q → ∀ V d s, Has Q V d s → Wide s 10000 → s.claims < 1000000000 → Calls Try.prog 11 #[.pointer (some ⟨d, 0, none⟩), .agg #[.int .i64 gb, .int .i64 gl, .int .i64 gi]] V fun e W' => e = .returned (.int .i64 (mkE gb gl gi s)) ∧ Has Q W' d (mkV gb gl gi s)) := fun Q hQ V d s hV hW hC => make_ok hQ hV gb gl gi hgb hW hC
  have HLd : Hid (mayB n ls = true → m ≤ 400 → ∀ V, Below w.heap.size w V → Calls Try.prog 9 #[.agg #[.int .i64 n, .slice p m cap]] V fun e w' => ∃ L : Loc, e = .returned (.tuple #[.pointer (some ⟨L.d, 0, none⟩), .int .i64 0]) ∧ DiskAt w' L (loadV n ls) ∧ L.from V.heap.size ∧ Below V.heap.size V w') := fun hmay h4 V hV => by
    have := load_ok n ls p cap V (by have := HM.out; omega) (HIm.out.later hV) HCn.out hmay
    rwa [HM.out] at this
  generalize him : (#[Value.int .i64 n, .slice p m cap] : Array Value) = im at *
  generalize hge : (#[Value.int .i64 gb, .int .i64 gl, .int .i64 gi] : Array Value) = ge at *
  obtain ⟨A, hA⟩ : ∃ A, A = (w.alloc (.cells im 24)).alloc (.cells ge 26) := ⟨_, rfl⟩
  have HS : Hid (LwS w A im ge) := by rw [hA]; exact ⟨heap_kept (heap_alloc_new _ _) (below_new _ _), Ytlcdpmjdnihocaa.heap_two _ _ _, below_next (below_new _ _) (below_new _ _)⟩
  have HA : Hid (A = _) := hA
  have HIm2 : Hid (im = #[Value.int .i64 n, .slice p m cap]) := him.symm
  have HGe2 : Hid (ge = #[Value.int .i64 gb, .int .i64 gl, .int .i64 gi]) := hge.symm
  clear hA him hge
  obtain ⟨lg, hlg⟩ : ∃ lg, largeB n m gi = lg := ⟨_, rfl⟩
  have HLb : Hid (largeB n m gi = lg) := hlg
  rw [hlg] at hLg
  clear hlg
  obtain ⟨oe, hoe⟩ : ∃ oe, YtlcdpmjdnihocaaP.ofE gb gl gi = oe := ⟨_, rfl⟩
  rw [hoe] at hOf HOE
  clear hoe
  obtain ⟨we, hwe⟩ : ∃ we, wholeE n ls = we := ⟨_, rfl⟩
  rw [hwe] at HWh HWE
  clear hwe
  go_enter Try.func5, Try.ntmps5
  go_upto_region 1 with fail
  rw [← HA.out]
  clear HA
  go_wp2_with (first | (with_reducible refine Ytlcdpmjdnihocaa.isLoadR 26 ?_; refine Ytlcdpmjdnihocaa.wpList_ldR 26 Try.underlying26 rfl rfl _ rfl (w.heap.size + 1) rfl ge 26 (0, 0) HGi.out HS.out.ge ?_) | (go_at_call 6; fail))
  refine (hOf _).mono ?_
  rintro e W1 ⟨rfl, hb1⟩
  have HS1 : Hid (LwS w (W1.alloc (.cells LR 29)) im ge) := (HS.out.later hb1).later (below_new _ _)
  have HLy1 : Hid ((W1.alloc (.cells LR 29)).heap[W1.heap.size]? = some (.cells LR 29)) := heap_alloc_new _ _
  clear HS hb1 hOf
  go_upto_region 2 with (first | (with_reducible refine Ytlcdpmjdnihocaa.isStoreR 29 ?_; refine Ytlcdpmjdnihocaa.wpList_stNew 29 rfl _ _ rfl W1.heap.size LR Z 29 HLi.out HLs.out HLo.out rfl rfl rfl ?_))
  generalize W1.alloc (.cells LR 29) = V1 at *
  generalize W1.heap.size = gy at *
  go_wp2_with (first | (with_reducible refine Ytlcdpmjdnihocaa.isLoadR 24 ?_; refine Ytlcdpmjdnihocaa.wpList_ldR 24 Try.underlying24 rfl rfl _ rfl w.heap.size rfl im 24 (0, 0) HIi.out HS1.out.im ?_) | (with_reducible refine Ytlcdpmjdnihocaa.isLoadR 26 ?_; refine Ytlcdpmjdnihocaa.wpList_ldR 26 Try.underlying26 rfl rfl _ rfl (w.heap.size + 1) rfl ge 26 (0, 0) HGi.out HS1.out.ge ?_) | (go_at_call 7; fail))
  refine (hLg _).mono ?_
  rintro e V2 ⟨rfl, hb2⟩
  have HS2 : Hid (LwS w V2 im ge) := HS1.out.later hb2
  have HLy2 : Hid _ := heap_kept HLy1.out hb2
  clear HS1 HLy1 hb2 hLg
  cases lg
  case true =>
    clear HWh HOE HWE HMk HLd
    go_wp2_with fail
    go_ret
    exact ⟨rfl, HS2.out.bel⟩
  go_wp2_with (first | (with_reducible refine Ytlcdpmjdnihocaa.isLoadR 24 ?_; refine Ytlcdpmjdnihocaa.wpList_ldR 24 Try.underlying24 rfl rfl _ rfl w.heap.size rfl im 24 (0, 0) HIi.out HS2.out.im ?_) | (go_at_call 8; fail))
  refine (HWh.out _ HS2.out.bel HLb.out).mono ?_
  rintro e V3 ⟨rfl, hb3⟩
  have HS3 : Hid (LwS w V3 im ge) := HS2.out.later hb3
  have HLy3 : Hid _ := heap_kept HLy2.out hb3
  clear HS2 HLy2 hb3 HWh
  by_cases hmay : mayB n ls = true
  case neg =>
    have hwe : we = 2 := by rw [HWE.out, if_neg hmay]
    subst hwe
    clear HOE HWE HMk HLd hmay
    go_wp2_with fail
    go_ret
    exact ⟨rfl, HS3.out.bel⟩
  have hwe : we = 0 := by rw [HWE.out, if_pos hmay]
  subst hwe
  by_cases hf : YtlcdpmjdnihocaaP.Fine gb gl gi
  case neg =>
    have hoe : oe = 2 := by rw [HOE.out, if_neg hf]
    subst hoe
    clear HOE HWE HMk HLd hmay hf
    go_wp2_with fail
    go_ret
    exact ⟨rfl, HS3.out.bel⟩
  have hoe : oe = 0 := by rw [HOE.out, if_pos hf]
  subst hoe
  have cg0 : V3.cell? ⟨w.heap.size + 1, 0, none⟩ = some (.int .i64 gb) := (cell_of_row _ _ 0 _ _ _ HS3.out.ge).trans HG0.out
  have ci0 : V3.cell? ⟨w.heap.size, 0, none⟩ = some (.int .i64 n) := (cell_of_row _ _ 0 _ _ _ HS3.out.im).trans HI0.out
  by_cases hbn : gb > n
  case pos =>
    have hgt : decide (n < gb) = true := decide_eq_true hbn
    clear HOE HWE HMk HLd hmay hf
    go_wp2_with fail
    go_ret
    exact ⟨rfl, HS3.out.bel⟩
  have hgt : decide (n < gb) = false := decide_eq_false hbn
  have h400 : m ≤ 400 ∧ n ≤ 9000 := by
    have := HLb.out
    unfold largeB at this
    simp at this
    omega
  have HL9 : Hid (LR = YtlcdpmjdnihocaaP.lay9 gb gl gi 1 (1 + gl) (YtlcdpmjdnihocaaP.nodeB gi) (YtlcdpmjdnihocaaP.bitsAt gl gi) (YtlcdpmjdnihocaaP.bitsB gb) (YtlcdpmjdnihocaaP.dataAt gb gl gi)) := HLF.out hf
  have HLd : Hid _ := HLd.out hmay h400.1
  have HF : Hid (YtlcdpmjdnihocaaP.Fine gb gl gi ∧ gb ≤ n ∧ n ≤ 9000 ∧ m ≤ 400 ∧ mayB n ls = true ∧ 35 ≤ gb) := ⟨hf, by omega, h400.2, h400.1, hmay, (Ytlcdpmjdnihocaa.fine_bd hf).1⟩
  clear HOE HWE hmay hf hbn h400 HLF
  go_upto_region 4 with fail
  clear cg0 ci0 hgt
  have hsub : ∀ q ∈ lwK w im ge, q ∈ (((gy, .cells LR 29) :: lwK w im ge) : List (Nat × Obj)) := fun q hq => List.mem_cons_of_mem _ hq
  have HSub : Hid (∀ q ∈ lwK w im ge, q ∈ (((gy, .cells LR 29) :: lwK w im ge) : List (Nat × Obj))) := hsub
  clear hsub
  obtain ⟨K5, hK5⟩ : ∃ K5 : List (Nat × Obj), ((gy, .cells LR 29) :: lwK w im ge) = K5 := ⟨_, rfl⟩
  rw [hK5] at HSub
  have HKy : Hid ((gy, Obj.cells LR 29) ∈ K5) := by rw [← hK5]; exact List.mem_cons_self ..
  have HKr : Hid (∀ V, V.heap[gy]? = some (.cells LR 29) → LwS w V im ge → ∀ p ∈ K5, V.heap[p.1]? = some p.2) := by
    rw [← hK5]
    intro V h1 h2 p hp
    rcases List.mem_cons.1 hp with rfl | hp
    · exact h1
    · exact h2.rows p hp
  clear hK5
  go_wp2_with (first | (with_reducible refine Ytlcdpmjdnihocaa.isLoadR 24 ?_; refine Ytlcdpmjdnihocaa.wpList_ldR 24 Try.underlying24 rfl rfl _ rfl w.heap.size rfl im 24 (0, 0) HIi.out HS3.out.im ?_) | (go_at_call 9; fail))
  refine (HLd.out V3 HS3.out.bel).mono ?_
  rintro e V4 ⟨L, rfl, hD, hL, hb4⟩
  have HH1 : Hid (Has (SoP w K5) V4 L.d (loadV n ls)) := has_solo hD hL hb4 HS3.out.bel (HKr.out V3 HLy3.out HS3.out)
  clear hD hL hb4 HS3 HLy3 HLd HKr
  generalize L.d = d1 at *
  have ci4 : V4.cell? ⟨w.heap.size, 0, none⟩ = some (.int .i64 n) := (cell_of_row _ _ 0 _ _ _ (lw_of_solo HH1.out HSub.out).im).trans HI0.out
  have hnw := fun u => new_ok (n := n) (by have := HF.out; unfold bndB; simp; omega) u
  go_wp2_with (go_at_call 19; fail)
  refine (hnw _).mono ?_
  rintro e V5 ⟨L2, rfl, hD, hL, hb5⟩
  have HJ1 : Hid (Has (DuP w d1 (loadV n ls) K5) V5 L2.d (newV n)) := HH1.out.duo hD hL hb5
  clear hD hL hb5 HH1 ci4 hnw
  generalize L2.d = db at *
  have hlv := fun u => lives_ok u
  have HStD : Hid (∀ d s ks, Stays (DuP w d s ks)) := fun d s ks => duP_stays _ _ _ _
  go_wp2_with (go_at_call 10; fail)
  refine (hlv _).mono ?_
  rintro e V6 ⟨rfl, hb6⟩
  have HJ2 : Hid (Has (DuP w db (newV n) K5) V6 d1 (loadV n ls)) := (HJ1.out.later (HStD.out _ _ _) hb6).swapD
  clear HJ1 hb6 hlv
  obtain ⟨N, hN⟩ : ∃ N : Nat, mkN gb gl gi + 6 = N := ⟨_, rfl⟩
  have HN : Hid (mkN gb gl gi + 6 = N ∧ N ≤ 4306) := ⟨hN, by have := mkN_le HF.out.1; omega⟩
  have HD1 : Hid (mkE gb gl gi (loadV n ls) = 0 ∧ Dn gb gl gi n (mkV gb gl gi (loadV n ls)) (gt (loadV n ls)) 0 N) := by
    obtain ⟨l1, l2, l3, l4, l5, l6, l7⟩ := loadV_same n ls
    have h := dn_of (s := loadV n ls) HF.out.1 l1 HF.out.2.1 l3 (loadV_fuse n ls).1 l2 (by rw [l6]; omega) (by rw [l7]; simp) 0 0 (by rw [l4]; rfl) (by rw [l5]; rfl)
    rw [Nat.zero_add, hN] at h
    exact h
  have HDb : Hid (mkE gb gl gi (newV n) = 0 ∧ Dn gb gl gi n (mkV gb gl gi (newV n)) (gt (newV n)) 0 N) := by
    have h := dn_of (s := newV n) HF.out.1 rfl HF.out.2.1 rfl rfl rfl (by show (0 : Int) ≤ 4; omega) (by show (0 : Nat) ≤ 600; omega) 0 0 rfl rfl
    rw [Nat.zero_add, hN] at h
    exact h
  have HC1 : Hid ((loadV n ls).claims < 1000000000) := by show _ < _; rw [(loadV_same n ls).2.2.2.2.2.1]; omega
  clear hN
  go_wp2_with (first | (with_reducible refine Ytlcdpmjdnihocaa.isLoadR 26 ?_; refine Ytlcdpmjdnihocaa.wpList_ldR 26 Try.underlying26 rfl rfl _ rfl (w.heap.size + 1) rfl ge 26 (0, 0) HGi.out (lw_of_duo HJ2.out HSub.out).ge ?_) | (go_at_call 11; fail))
  refine (HMk.out _ (HStD.out _ _ _) V6 d1 (loadV n ls) HJ2.out (wide_load n ls) HC1.out).mono ?_
  rintro e V7 ⟨rfl, h7⟩
  have HJ3 : Hid (Has (DuP w d1 (mkV gb gl gi (loadV n ls)) K5) V7 db (newV n)) := h7.swapD
  rw [HD1.out.1]
  clear h7 HJ2 HC1
  go_wp2_with (first | (with_reducible refine Ytlcdpmjdnihocaa.isLoadR 26 ?_; refine Ytlcdpmjdnihocaa.wpList_ldR 26 Try.underlying26 rfl rfl _ rfl (w.heap.size + 1) rfl ge 26 (0, 0) HGi.out (lw_of_duo HJ3.out HSub.out).ge ?_) | (go_at_call 11; fail))
  refine (HMk.out _ (HStD.out _ _ _) V7 db (newV n) HJ3.out (wide_new n) (by show (0 : Int) < _; omega)).mono ?_
  rintro e V8 ⟨rfl, h8⟩
  have HJ4 : Hid (Has (DuP w db (mkV gb gl gi (newV n)) K5) V8 d1 (mkV gb gl gi (loadV n ls))) := h8.swapD
  rw [HDb.out.1]
  have HE1 : Hid _ := HD1.out.2
  have HEb : Hid _ := HDb.out.2
  clear h8 HJ3 HD1 HDb
  generalize mkV gb gl gi (loadV n ls) = s1 at *
  generalize mkV gb gl gi (newV n) = sb at *
  have HAt : Hid (∀ V (k : Int), Below w.heap.size w V → Calls Try.prog 17 #[.agg im, .int .i64 k] V fun e w' => e = .returned (.agg (blk (atL ls k))) ∧ Below V.heap.size V w') := fun V k hV => by
    have := at_any n ls p cap k V (by have := HM.out; have := HF.out; omega) (HIm.out.later hV)
    rw [HIm2.out, ← HM.out]
    exact this
  go_upto_region 9 with fail
  go_loopw [11] (fun s11 wx => ∃ (j : Nat) (t tb : St), (j : Int) ≤ n ∧ s11 = .int .i64 (j : Int) ∧ Hid (Has (DuP w db tb K5) wx d1 t) ∧ Hid (Dn gb gl gi n t (gt (loadV n ls)) j N) ∧ Hid (Dn gb gl gi n tb (gt (newV n)) j N)) (fun s11 _ => (n - intOf s11).toNat)
  case atStart => exact ⟨0, s1, sb, by have := HF.out; omega, rfl, HJ4.out, HE1.out, HEb.out⟩
  case round =>
    obtain ⟨j, t, tb, hj, rfl, HT, HDt, HDb⟩ := hrel
    clear HJ4 HE1 HEb
    have ci0 : wr.cell? ⟨w.heap.size, 0, none⟩ = some (.int .i64 n) := (cell_of_row _ _ 0 _ _ _ (lw_of_duo HT.out HSub.out).im).trans HI0.out
    by_cases hjn : (j : Int) < n
    · have hR1 := has_read (HStD.out _ _ _) HT.out (HDt.out.room (by have := HF.out; omega) (by have := HN.out; omega)).1 (j : Int)
      obtain ⟨r1, r2, r3, r4⟩ := HDt.out.read (k := (j : Int)) ⟨by omega, hjn⟩
      rw [r1, r2] at hR1
      have HDt2 : Hid (Dn gb gl gi n (readV t (j : Int)) (gt (loadV n ls)) (j + 1) N) := r3
      have HGt : Hid (gt t (j : Int) = if (j : Int) = 0 then YtlcdpmjdnihocaaP.superF gb gl gi else lastV (atL ls (j : Int)) (mkBs gb gl gi) (j : Int)) := by
        show _ = _
        rw [HDt.out.get (j : Int), show gt (loadV n ls) (j : Int) = atL ls (j : Int) from load_get HF.out.2.2.2.2.1 HCn.out (j : Int)]
      clear r1 r2 r3 r4
      obtain ⟨B, hB⟩ : ∃ B, gt t (j : Int) = B := ⟨_, rfl⟩
      rw [hB] at hR1 HGt
      have HJn : Hid ((j : Int) < n) := hjn
      clear hB HDt hj
      have hz := zeroBk
      obtain ⟨Nt, hNt⟩ : ∃ Nt, nought = Nt := ⟨_, rfl⟩
      rw [hNt] at hz
      have HNt : Hid _ := hNt
      clear hNt
      go_wp2_with (go_at_call 20; fail)
      refine hR1.mono ?_
      rintro e X1 ⟨rfl, hx1⟩
      obtain ⟨Xa, hXa⟩ : ∃ Xa, X1.alloc (.cells (blk B) 46) = Xa := ⟨_, rfl⟩
      have HX2 : Hid (Has (DuP w db tb ((X1.heap.size, .cells (blk B) 46) :: K5)) Xa d1 (readV t (j : Int))) := hXa ▸ hx1.addD _
      have HXa : Hid _ := hXa
      clear hx1 hR1 HT ci0 hXa
      go_upto_region 12 with (first | refine wpList_store58_new rfl _ _ rfl B Nt X1.heap.size rfl rfl rfl ?_)
      rw [HXa.out]
      clear HXa
      generalize X1.heap.size = a12 at *
      have hR2 := has_read (HStD.out _ _ _) HX2.out.swapD (HDb.out.room (by have := HF.out; have := HJn.out; omega) (by have := HN.out; omega)).1 (j : Int)
      obtain ⟨r1, r2, r3, r4⟩ := HDb.out.read (k := (j : Int)) ⟨by omega, HJn.out⟩
      rw [r1, r2] at hR2
      have HDb2 : Hid (Dn gb gl gi n (readV tb (j : Int)) (gt (newV n)) (j + 1) N) := r3
      have HGb : Hid (gt tb (j : Int) = if (j : Int) = 0 then YtlcdpmjdnihocaaP.superF gb gl gi else lastV nought (mkBs gb gl gi) (j : Int)) := by
        show _ = _
        rw [HDb.out.get (j : Int)]
        rfl
      clear r1 r2 r3 r4
      obtain ⟨C, hC⟩ : ∃ C, gt tb (j : Int) = C := ⟨_, rfl⟩
      rw [hC] at hR2 HGb
      clear hC HDb
      go_wp2_with (go_at_call 20; fail)
      refine hR2.mono ?_
      rintro e X3 ⟨rfl, hx3⟩
      obtain ⟨Xb, hXb⟩ : ∃ Xb, X3.alloc (.cells (blk C) 46) = Xb := ⟨_, rfl⟩
      have HX4 : Hid (Has (DuP w db (readV tb (j : Int)) ((X3.heap.size, .cells (blk C) 46) :: (a12, .cells (blk B) 46) :: K5)) Xb d1 (readV t (j : Int))) := (hXb ▸ hx3.addD _ : Has (DuP w d1 (readV t (j : Int)) ((X3.heap.size, .cells (blk C) 46) :: (a12, .cells (blk B) 46) :: K5)) Xb db (readV tb (j : Int))).swapD
      have HXb : Hid _ := hXb
      clear hx3 hR2 HX2 hXb
      go_upto_region 13 with (first | refine wpList_store58_new rfl _ _ rfl C Nt X3.heap.size rfl rfl rfl ?_)
      rw [HXb.out]
      clear HXb hz
      generalize X3.heap.size = a14 at *
      generalize readV t (j : Int) = t2 at *
      generalize readV tb (j : Int) = tb2 at *
      have cy3 : Xb.cell? ⟨gy, 3, none⟩ = some (.int .i64 1) := (cell_of_row _ _ 3 _ _ _ (HX4.out.rowD (List.mem_cons_of_mem _ (List.mem_cons_of_mem _ HKy.out)))).trans (by rw [HL9.out]; rfl)
      have cy4 : Xb.cell? ⟨gy, 4, none⟩ = some (.int .i64 (1 + gl)) := (cell_of_row _ _ 4 _ _ _ (HX4.out.rowD (List.mem_cons_of_mem _ (List.mem_cons_of_mem _ HKy.out)))).trans (by rw [HL9.out]; rfl)
      have cy8 : Xb.cell? ⟨gy, 8, none⟩ = some (.int .i64 (YtlcdpmjdnihocaaP.dataAt gb gl gi)) := (cell_of_row _ _ 8 _ _ _ (HX4.out.rowD (List.mem_cons_of_mem _ (List.mem_cons_of_mem _ HKy.out)))).trans (by rw [HL9.out]; rfl)
      have HYs : Hid ((1 < (j : Int) ∧ (j : Int) < 1 + gl) ∨ YtlcdpmjdnihocaaP.dataAt gb gl gi < (j : Int) → B = atL ls (j : Int) ∧ C = Nt) := by
        intro h
        obtain ⟨h0, -⟩ := mk_stay HF.out.1 nought h
        constructor
        · rw [HGt.out, if_neg h0]; exact (mk_stay HF.out.1 _ h).2
        · rw [HGb.out, if_neg h0, (mk_stay HF.out.1 _ h).2]; exact HNt.out
      have HYn : Hid (¬ ((1 < (j : Int) ∧ (j : Int) < 1 + gl) ∨ YtlcdpmjdnihocaaP.dataAt gb gl gi < (j : Int)) → B = C) := by
        intro h
        show _ = _
        rw [HGt.out, HGb.out]
        by_cases h0 : (j : Int) = 0
        · rw [if_pos h0, if_pos h0]
        · rw [if_neg h0, if_neg h0]; exact mk_same HF.out.1 (by omega) _ _ h h0
      clear HGt HGb
      generalize YtlcdpmjdnihocaaP.dataAt gb gl gi = dA at *
      have hbk := buildBk
      rcases (by omega : (1 < (j : Int) ∧ (j : Int) < 1 + gl) ∨ ((1 < (j : Int) ∧ ¬ (j : Int) < 1 + gl) ∧ dA < (j : Int)) ∨ ((1 < (j : Int) ∧ ¬ (j : Int) < 1 + gl) ∧ ¬ dA < (j : Int)) ∨ (¬ 1 < (j : Int) ∧ dA < (j : Int)) ∨ (¬ 1 < (j : Int) ∧ ¬ dA < (j : Int))) with ⟨g1, g2⟩ | ⟨⟨g1, g2⟩, g3⟩ | ⟨⟨g1, g2⟩, g3⟩ | ⟨g1, g3⟩ | ⟨g1, g3⟩
      · have hst : ((1 < (j : Int) ∧ (j : Int) < 1 + gl) ∨ dA < (j : Int)) := by omega
        have k1 : decide (1 < (j : Int)) = true := decide_eq_true g1
        have k2 : decide ((j : Int) < 1 + gl) = true := decide_eq_true g2
        clear g1 g2
        obtain ⟨hB, hC⟩ := HYs.out hst
        rw [HNt.out, ← hC] at hbk
        have HC3 : Hid (1 < (0 : Int) ∨ True) := .inr trivial
        clear HYs HYn hst HC3
        clear hC
        go_upto_region 14 with fail
        clear cy3 cy4 cy8
        have HX5 : Hid (Has (DuP w db tb2 ((a14, .cells (blk C) 46) :: (a12, .cells (blk B) 46) :: K5)) Xb.drew d1 t2) := HX4.out.later (HStD.out _ _ _) (Below.refl _ _).drew
        have hS : (fun u => u.heap[a12]? = some (.cells (blk B) 46) ∧ u.heap[a14]? = some (.cells (blk C) 46) ∧ u.heap[w.heap.size]? = some (.cells im 24)) Xb.drew := ⟨HX5.out.rowD (List.mem_cons_of_mem _ (List.mem_cons_self ..)), HX5.out.rowD (List.mem_cons_self ..), (lw_of_duo HX5.out (fun q hq => List.mem_cons_of_mem _ (List.mem_cons_of_mem _ (HSub.out q hq)))).im⟩
        clear HX4
        refine wp_region_ord (S := (fun u => u.heap[a12]? = some (.cells (blk B) 46) ∧ u.heap[a14]? = some (.cells (blk C) 46) ∧ u.heap[w.heap.size]? = some (.cells im 24))) [(0, true), (1, true), (2, true), (3, true), (4, true), (5, true), (6, true), (7, true), (8, true), (9, true), (10, true), (11, true), (12, false), (13, true), (14, true), (15, true), (16, true), (17, true), (18, true), (19, true), (20, true), (21, true), (22, true), (23, true), (24, true), (25, true), (26, true), (27, true), (28, true), (29, true)] (by kernel_rfl) rfl (by kernel_rfl) (fun d _ _ _ _ h => by cases d <;> exact h) hS ?_
        simp only [inOrd, List.getElem?_cons_zero, List.getElem?_cons_succ]
        generalize Xb.drew = U at *
        refine wpOrd_yield (v := .int .i64 0) rfl (fun u _ => by go_simp) ?_
        simp only [Act.put, List.setIfInBounds_toArray, List.set_cons_succ, List.set_cons_zero]
        refine wpOrd_yield (v := .bool false) rfl (fun u _ => by go_simp) ?_
        simp only [Act.put, List.setIfInBounds_toArray, List.set_cons_succ, List.set_cons_zero]
        refine wpOrd_yield (v := .bool false) rfl (fun u _ => by go_simp) ?_
        simp only [Act.put, List.setIfInBounds_toArray, List.set_cons_succ, List.set_cons_zero]
        refine wpOrd_yield (v := .int .i64 0) rfl (fun u _ => by go_simp) ?_
        simp only [Act.put, List.setIfInBounds_toArray, List.set_cons_succ, List.set_cons_zero]
        refine wpOrd_yield (v := .bool false) rfl (fun u _ => by go_simp) ?_
        simp only [Act.put, List.setIfInBounds_toArray, List.set_cons_succ, List.set_cons_zero]
        refine wpOrd_yield (v := .bool false) rfl (fun u _ => by go_simp) ?_
        simp only [Act.put, List.setIfInBounds_toArray, List.set_cons_succ, List.set_cons_zero]
        refine wpOrd_yield (v := .bool false) rfl (fun u _ => by go_simp) ?_
        simp only [Act.put, List.setIfInBounds_toArray, List.set_cons_succ, List.set_cons_zero]
        refine wpOrd_yield (v := .bool true) rfl (fun u _ => by go_simp) ?_
        simp only [Act.put, List.setIfInBounds_toArray, List.set_cons_succ, List.set_cons_zero]
        refine wpOrd_yield (v := .bool true) rfl (fun u _ => by go_simp) ?_
        simp only [Act.put, List.setIfInBounds_toArray, List.set_cons_succ, List.set_cons_zero]
        refine wpOrd_yield (v := .agg (blk B)) rfl (fun u hu => exec_ldB rfl rfl hu.1) ?_
        simp only [Act.put, List.setIfInBounds_toArray, List.set_cons_succ, List.set_cons_zero]
        refine wpOrd_yield (v := .agg im) rfl (fun u hu => exec_ldIm rfl rfl hu.2.2 HIi.out) ?_
        simp only [Act.put, List.setIfInBounds_toArray, List.set_cons_succ, List.set_cons_zero]
        refine wpOrd_yield (v := .int .i64 (j : Int)) rfl (fun u _ => by go_simp) ?_
        simp only [Act.put, List.setIfInBounds_toArray, List.set_cons_succ, List.set_cons_zero]
        refine wpOrd_call rfl 17 _ _ rfl Try.call17 [.agg im, .int .i64 (j : Int)] rfl ?_
        refine (HAt.out U (j : Int) (lw_of_duo HX5.out (fun q hq => List.mem_cons_of_mem _ (List.mem_cons_of_mem _ (HSub.out q hq)))).bel).mono ?_
        rintro e U2 ⟨rfl, hb⟩
        have hS2 : (fun u => u.heap[a12]? = some (.cells (blk B) 46) ∧ u.heap[a14]? = some (.cells (blk C) 46) ∧ u.heap[w.heap.size]? = some (.cells im 24)) U2 := ⟨heap_kept hS.1 hb, heap_kept hS.2.1 hb, heap_kept hS.2.2 hb⟩
        refine ⟨_, rfl, hS2, ?_⟩
        simp only [Act.put, List.setIfInBounds_toArray, List.set_cons_succ, List.set_cons_zero]
        rw [← hB]
        have HX6 : Hid (Has (DuP w db tb2 ((a14, .cells (blk C) 46) :: (a12, .cells (blk B) 46) :: K5)) U2 d1 t2) := HX5.out.later (HStD.out _ _ _) hb
        clear HX5 hS hb hB
        refine wpOrd_yield (v := .bool false) rfl (fun u _ => exec_neB (f := B) (g := B) (r := true) rfl rfl rfl (sameB_self B)) ?_
        simp only [Act.put, List.setIfInBounds_toArray, List.set_cons_succ, List.set_cons_zero]
        refine wpOrd_yield (v := .bool false) rfl (fun u _ => by go_simp) ?_
        simp only [Act.put, List.setIfInBounds_toArray, List.set_cons_succ, List.set_cons_zero]
        refine wpOrd_yield (v := .agg (blk C)) rfl (fun u hu => exec_ldB rfl rfl hu.2.1) ?_
        simp only [Act.put, List.setIfInBounds_toArray, List.set_cons_succ, List.set_cons_zero]
        refine wpOrd_yield (v := .agg (blk C)) rfl (fun u _ => exec_buildB rfl hbk) ?_
        simp only [Act.put, List.setIfInBounds_toArray, List.set_cons_succ, List.set_cons_zero]
        refine wpOrd_yield (v := .bool false) rfl (fun u _ => exec_neB (f := C) (g := C) (r := true) rfl rfl rfl (sameB_self C)) ?_
        simp only [Act.put, List.setIfInBounds_toArray, List.set_cons_succ, List.set_cons_zero]
        refine wpOrd_yield (v := .bool false) rfl (fun u _ => by go_simp) ?_
        simp only [Act.put, List.setIfInBounds_toArray, List.set_cons_succ, List.set_cons_zero]
        refine wpOrd_yield (v := .bool false) rfl (fun u _ => by go_simp) ?_
        simp only [Act.put, List.setIfInBounds_toArray, List.set_cons_succ, List.set_cons_zero]
        refine wpOrd_yield (v := .bool false) rfl (fun u _ => by go_simp) ?_
        simp only [Act.put, List.setIfInBounds_toArray, List.set_cons_succ, List.set_cons_zero]
        refine wpOrd_yield (v := .bool false) rfl (fun u _ => by go_simp) ?_
        simp only [Act.put, List.setIfInBounds_toArray, List.set_cons_succ, List.set_cons_zero]
        refine wpOrd_yield (v := .bool true) rfl (fun u _ => by go_simp) ?_
        simp only [Act.put, List.setIfInBounds_toArray, List.set_cons_succ, List.set_cons_zero]
        refine wpOrd_yield (v := .bool false) rfl (fun u _ => by go_simp) ?_
        simp only [Act.put, List.setIfInBounds_toArray, List.set_cons_succ, List.set_cons_zero]
        refine wpOrd_yield (v := .bool false) rfl (fun u _ => by go_simp) ?_
        simp only [Act.put, List.setIfInBounds_toArray, List.set_cons_succ, List.set_cons_zero]
        refine wpOrd_skip hS2 rfl ?_
        simp only [Act.put, List.setIfInBounds_toArray, List.set_cons_succ, List.set_cons_zero]
        refine wpOrd_skip hS2 rfl ?_
        simp only [Act.put, List.setIfInBounds_toArray, List.set_cons_succ, List.set_cons_zero]
        refine wpOrd_skip hS2 rfl ?_
        simp only [Act.put, List.setIfInBounds_toArray, List.set_cons_succ, List.set_cons_zero]
        refine wpOrd_yield (v := .bool false) rfl (fun u _ => by go_simp) ?_
        simp only [Act.put, List.setIfInBounds_toArray, List.set_cons_succ, List.set_cons_zero]
        refine wpOrd_yield (v := .bool false) rfl (fun u _ => by go_simp) ?_
        simp only [Act.put, List.setIfInBounds_toArray, List.set_cons_succ, List.set_cons_zero]
        refine wpOrd_nil ?_
        have HXn : Hid (Has (DuP w db tb2 K5) U2 d1 t2) := HX6.out.subD fun q hq => List.mem_cons_of_mem _ (List.mem_cons_of_mem _ hq)
        clear HX6 hS2
        have W1 : IntKind.i64.wrap ((j : Int) + 1) = ((j + 1 : Nat) : Int) := by have := HF.out; have := HJn.out; rw [IntKind.wrap_i64]; omega
        go_wp2_with fail
        exact ⟨⟨j + 1, t2, tb2, by have := HJn.out; omega, rfl, HXn.out, HDt2.out, HDb2.out⟩, by have := HJn.out; simp [intOf]; omega⟩
      · have hst : ((1 < (j : Int) ∧ (j : Int) < 1 + gl) ∨ dA < (j : Int)) := by omega
        have k1 : decide (1 < (j : Int)) = true := decide_eq_true g1
        have k2 : decide ((j : Int) < 1 + gl) = false := decide_eq_false g2
        have k3 : decide (dA < (j : Int)) = true := decide_eq_true g3
        clear g1 g2 g3
        obtain ⟨hB, hC⟩ := HYs.out hst
        rw [HNt.out, ← hC] at hbk
        have HC3 : Hid (1 < (0 : Int) ∨ True) := .inr trivial
        clear HYs HYn hst HC3
        clear hC
        go_upto_region 14 with fail
        clear cy3 cy4 cy8
        have HX5 : Hid (Has (DuP w db tb2 ((a14, .cells (blk C) 46) :: (a12, .cells (blk B) 46) :: K5)) Xb.drew d1 t2) := HX4.out.later (HStD.out _ _ _) (Below.refl _ _).drew
        have hS : (fun u => u.heap[a12]? = some (.cells (blk B) 46) ∧ u.heap[a14]? = some (.cells (blk C) 46) ∧ u.heap[w.heap.size]? = some (.cells im 24)) Xb.drew := ⟨HX5.out.rowD (List.mem_cons_of_mem _ (List.mem_cons_self ..)), HX5.out.rowD (List.mem_cons_self ..), (lw_of_duo HX5.out (fun q hq => List.mem_cons_of_mem _ (List.mem_cons_of_mem _ (HSub.out q hq)))).im⟩
        clear HX4
        refine wp_region_ord (S := (fun u => u.heap[a12]? = some (.cells (blk B) 46) ∧ u.heap[a14]? = some (.cells (blk C) 46) ∧ u.heap[w.heap.size]? = some (.cells im 24))) [(0, true), (1, true), (2, true), (3, true), (4, true), (5, true), (6, true), (7, true), (8, true), (9, true), (10, true), (11, true), (12, false), (13, true), (14, true), (15, true), (16, true), (17, true), (18, true), (19, true), (20, true), (21, true), (22, true), (23, true), (24, true), (25, true), (26, true), (27, true), (28, true), (29, true)] (by kernel_rfl) rfl (by kernel_rfl) (fun d _ _ _ _ h => by cases d <;> exact h) hS ?_
        simp only [inOrd, List.getElem?_cons_zero, List.getElem?_cons_succ]
        generalize Xb.drew = U at *
        refine wpOrd_yield (v := .int .i64 0) rfl (fun u _ => by go_simp) ?_
        simp only [Act.put, List.setIfInBounds_toArray, List.set_cons_succ, List.set_cons_zero]
        refine wpOrd_yield (v := .bool false) rfl (fun u _ => by go_simp) ?_
        simp only [Act.put, List.setIfInBounds_toArray, List.set_cons_succ, List.set_cons_zero]
        refine wpOrd_yield (v := .bool false) rfl (fun u _ => by go_simp) ?_
        simp only [Act.put, List.setIfInBounds_toArray, List.set_cons_succ, List.set_cons_zero]
        refine wpOrd_yield (v := .int .i64 0) rfl (fun u _ => by go_simp) ?_
        simp only [Act.put, List.setIfInBounds_toArray, List.set_cons_succ, List.set_cons_zero]
        refine wpOrd_yield (v := .bool false) rfl (fun u _ => by go_simp) ?_
        simp only [Act.put, List.setIfInBounds_toArray, List.set_cons_succ, List.set_cons_zero]
        refine wpOrd_yield (v := .bool false) rfl (fun u _ => by go_simp) ?_
        simp only [Act.put, List.setIfInBounds_toArray, List.set_cons_succ, List.set_cons_zero]
        refine wpOrd_yield (v := .bool false) rfl (fun u _ => by go_simp) ?_
        simp only [Act.put, List.setIfInBounds_toArray, List.set_cons_succ, List.set_cons_zero]
        refine wpOrd_yield (v := .bool true) rfl (fun u _ => by go_simp) ?_
        simp only [Act.put, List.setIfInBounds_toArray, List.set_cons_succ, List.set_cons_zero]
        refine wpOrd_yield (v := .bool true) rfl (fun u _ => by go_simp) ?_
        simp only [Act.put, List.setIfInBounds_toArray, List.set_cons_succ, List.set_cons_zero]
        refine wpOrd_yield (v := .agg (blk B)) rfl (fun u hu => exec_ldB rfl rfl hu.1) ?_
        simp only [Act.put, List.setIfInBounds_toArray, List.set_cons_succ, List.set_cons_zero]
        refine wpOrd_yield (v := .agg im) rfl (fun u hu => exec_ldIm rfl rfl hu.2.2 HIi.out) ?_
        simp only [Act.put, List.setIfInBounds_toArray, List.set_cons_succ, List.set_cons_zero]
        refine wpOrd_yield (v := .int .i64 (j : Int)) rfl (fun u _ => by go_simp) ?_
        simp only [Act.put, List.setIfInBounds_toArray, List.set_cons_succ, List.set_cons_zero]
        refine wpOrd_call rfl 17 _ _ rfl Try.call17 [.agg im, .int .i64 (j : Int)] rfl ?_
        refine (HAt.out U (j : Int) (lw_of_duo HX5.out (fun q hq => List.mem_cons_of_mem _ (List.mem_cons_of_mem _ (HSub.out q hq)))).bel).mono ?_
        rintro e U2 ⟨rfl, hb⟩
        have hS2 : (fun u => u.heap[a12]? = some (.cells (blk B) 46) ∧ u.heap[a14]? = some (.cells (blk C) 46) ∧ u.heap[w.heap.size]? = some (.cells im 24)) U2 := ⟨heap_kept hS.1 hb, heap_kept hS.2.1 hb, heap_kept hS.2.2 hb⟩
        refine ⟨_, rfl, hS2, ?_⟩
        simp only [Act.put, List.setIfInBounds_toArray, List.set_cons_succ, List.set_cons_zero]
        rw [← hB]
        have HX6 : Hid (Has (DuP w db tb2 ((a14, .cells (blk C) 46) :: (a12, .cells (blk B) 46) :: K5)) U2 d1 t2) := HX5.out.later (HStD.out _ _ _) hb
        clear HX5 hS hb hB
        refine wpOrd_yield (v := .bool false) rfl (fun u _ => exec_neB (f := B) (g := B) (r := true) rfl rfl rfl (sameB_self B)) ?_
        simp only [Act.put, List.setIfInBounds_toArray, List.set_cons_succ, List.set_cons_zero]
        refine wpOrd_yield (v := .bool false) rfl (fun u _ => by go_simp) ?_
        simp only [Act.put, List.setIfInBounds_toArray, List.set_cons_succ, List.set_cons_zero]
        refine wpOrd_yield (v := .agg (blk C)) rfl (fun u hu => exec_ldB rfl rfl hu.2.1) ?_
        simp only [Act.put, List.setIfInBounds_toArray, List.set_cons_succ, List.set_cons_zero]
        refine wpOrd_yield (v := .agg (blk C)) rfl (fun u _ => exec_buildB rfl hbk) ?_
        simp only [Act.put, List.setIfInBounds_toArray, List.set_cons_succ, List.set_cons_zero]
        refine wpOrd_yield (v := .bool false) rfl (fun u _ => exec_neB (f := C) (g := C) (r := true) rfl rfl rfl (sameB_self C)) ?_
        simp only [Act.put, List.setIfInBounds_toArray, List.set_cons_succ, List.set_cons_zero]
        refine wpOrd_yield (v := .bool false) rfl (fun u _ => by go_simp) ?_
        simp only [Act.put, List.setIfInBounds_toArray, List.set_cons_succ, List.set_cons_zero]
        refine wpOrd_yield (v := .bool false) rfl (fun u _ => by go_simp) ?_
        simp only [Act.put, List.setIfInBounds_toArray, List.set_cons_succ, List.set_cons_zero]
        refine wpOrd_yield (v := .bool false) rfl (fun u _ => by go_simp) ?_
        simp only [Act.put, List.setIfInBounds_toArray, List.set_cons_succ, List.set_cons_zero]
        refine wpOrd_yield (v := .bool false) rfl (fun u _ => by go_simp) ?_
        simp only [Act.put, List.setIfInBounds_toArray, List.set_cons_succ, List.set_cons_zero]
        refine wpOrd_yield (v := .bool true) rfl (fun u _ => by go_simp) ?_
        simp only [Act.put, List.setIfInBounds_toArray, List.set_cons_succ, List.set_cons_zero]
        refine wpOrd_yield (v := .bool false) rfl (fun u _ => by go_simp) ?_
        simp only [Act.put, List.setIfInBounds_toArray, List.set_cons_succ, List.set_cons_zero]
        refine wpOrd_yield (v := .bool false) rfl (fun u _ => by go_simp) ?_
        simp only [Act.put, List.setIfInBounds_toArray, List.set_cons_succ, List.set_cons_zero]
        refine wpOrd_skip hS2 rfl ?_
        simp only [Act.put, List.setIfInBounds_toArray, List.set_cons_succ, List.set_cons_zero]
        refine wpOrd_skip hS2 rfl ?_
        simp only [Act.put, List.setIfInBounds_toArray, List.set_cons_succ, List.set_cons_zero]
        refine wpOrd_skip hS2 rfl ?_
        simp only [Act.put, List.setIfInBounds_toArray, List.set_cons_succ, List.set_cons_zero]
        refine wpOrd_yield (v := .bool false) rfl (fun u _ => by go_simp) ?_
        simp only [Act.put, List.setIfInBounds_toArray, List.set_cons_succ, List.set_cons_zero]
        refine wpOrd_yield (v := .bool false) rfl (fun u _ => by go_simp) ?_
        simp only [Act.put, List.setIfInBounds_toArray, List.set_cons_succ, List.set_cons_zero]
        refine wpOrd_nil ?_
        have HXn : Hid (Has (DuP w db tb2 K5) U2 d1 t2) := HX6.out.subD fun q hq => List.mem_cons_of_mem _ (List.mem_cons_of_mem _ hq)
        clear HX6 hS2
        have W1 : IntKind.i64.wrap ((j : Int) + 1) = ((j + 1 : Nat) : Int) := by have := HF.out; have := HJn.out; rw [IntKind.wrap_i64]; omega
        go_wp2_with fail
        exact ⟨⟨j + 1, t2, tb2, by have := HJn.out; omega, rfl, HXn.out, HDt2.out, HDb2.out⟩, by have := HJn.out; simp [intOf]; omega⟩
      · have hst : ¬ ((1 < (j : Int) ∧ (j : Int) < 1 + gl) ∨ dA < (j : Int)) := by omega
        have k1 : decide (1 < (j : Int)) = true := decide_eq_true g1
        have k2 : decide ((j : Int) < 1 + gl) = false := decide_eq_false g2
        have k3 : decide (dA < (j : Int)) = false := decide_eq_false g3
        clear g1 g2 g3
        have hB := HYn.out hst
        have HC3 : Hid (1 < (0 : Int) ∨ True) := .inr trivial
        clear HYs HYn hst HC3
        subst hB
        go_upto_region 14 with fail
        clear cy3 cy4 cy8
        have HX5 : Hid (Has (DuP w db tb2 ((a14, .cells (blk B) 46) :: (a12, .cells (blk B) 46) :: K5)) Xb.drew d1 t2) := HX4.out.later (HStD.out _ _ _) (Below.refl _ _).drew
        have hS : (fun u => u.heap[a12]? = some (.cells (blk B) 46) ∧ u.heap[a14]? = some (.cells (blk B) 46) ∧ u.heap[w.heap.size]? = some (.cells im 24)) Xb.drew := ⟨HX5.out.rowD (List.mem_cons_of_mem _ (List.mem_cons_self ..)), HX5.out.rowD (List.mem_cons_self ..), (lw_of_duo HX5.out (fun q hq => List.mem_cons_of_mem _ (List.mem_cons_of_mem _ (HSub.out q hq)))).im⟩
        clear HX4
        refine wp_region_ord (S := (fun u => u.heap[a12]? = some (.cells (blk B) 46) ∧ u.heap[a14]? = some (.cells (blk B) 46) ∧ u.heap[w.heap.size]? = some (.cells im 24))) [(0, true), (1, true), (2, true), (3, true), (4, true), (5, true), (6, true), (7, true), (8, true), (9, true), (10, true), (11, true), (12, false), (13, true), (14, true), (15, true), (16, true), (17, true), (18, true), (19, true), (20, true), (21, true), (22, true), (23, true), (24, true), (25, true), (26, true), (27, true), (28, true), (29, true)] (by kernel_rfl) rfl (by kernel_rfl) (fun d _ _ _ _ h => by cases d <;> exact h) hS ?_
        simp only [inOrd, List.getElem?_cons_zero, List.getElem?_cons_succ]
        generalize Xb.drew = U at *
        refine wpOrd_yield (v := .int .i64 0) rfl (fun u _ => by go_simp) ?_
        simp only [Act.put, List.setIfInBounds_toArray, List.set_cons_succ, List.set_cons_zero]
        refine wpOrd_yield (v := .bool false) rfl (fun u _ => by go_simp) ?_
        simp only [Act.put, List.setIfInBounds_toArray, List.set_cons_succ, List.set_cons_zero]
        refine wpOrd_yield (v := .bool false) rfl (fun u _ => by go_simp) ?_
        simp only [Act.put, List.setIfInBounds_toArray, List.set_cons_succ, List.set_cons_zero]
        refine wpOrd_yield (v := .int .i64 0) rfl (fun u _ => by go_simp) ?_
        simp only [Act.put, List.setIfInBounds_toArray, List.set_cons_succ, List.set_cons_zero]
        refine wpOrd_yield (v := .bool false) rfl (fun u _ => by go_simp) ?_
        simp only [Act.put, List.setIfInBounds_toArray, List.set_cons_succ, List.set_cons_zero]
        refine wpOrd_yield (v := .bool false) rfl (fun u _ => by go_simp) ?_
        simp only [Act.put, List.setIfInBounds_toArray, List.set_cons_succ, List.set_cons_zero]
        refine wpOrd_yield (v := .bool false) rfl (fun u _ => by go_simp) ?_
        simp only [Act.put, List.setIfInBounds_toArray, List.set_cons_succ, List.set_cons_zero]
        refine wpOrd_yield (v := .bool false) rfl (fun u _ => by go_simp) ?_
        simp only [Act.put, List.setIfInBounds_toArray, List.set_cons_succ, List.set_cons_zero]
        refine wpOrd_yield (v := .bool false) rfl (fun u _ => by go_simp) ?_
        simp only [Act.put, List.setIfInBounds_toArray, List.set_cons_succ, List.set_cons_zero]
        have HX6 : Hid (Has (DuP w db tb2 ((a14, .cells (blk B) 46) :: (a12, .cells (blk B) 46) :: K5)) U d1 t2) := HX5.out
        refine wpOrd_skip hS rfl ?_
        simp only [Act.put, List.setIfInBounds_toArray, List.set_cons_succ, List.set_cons_zero]
        refine wpOrd_skip hS rfl ?_
        simp only [Act.put, List.setIfInBounds_toArray, List.set_cons_succ, List.set_cons_zero]
        refine wpOrd_skip hS rfl ?_
        simp only [Act.put, List.setIfInBounds_toArray, List.set_cons_succ, List.set_cons_zero]
        refine wpOrd_skip hS rfl ?_
        simp only [Act.put, List.setIfInBounds_toArray, List.set_cons_succ, List.set_cons_zero]
        refine wpOrd_skip hS rfl ?_
        simp only [Act.put, List.setIfInBounds_toArray, List.set_cons_succ, List.set_cons_zero]
        refine wpOrd_skip hS rfl ?_
        simp only [Act.put, List.setIfInBounds_toArray, List.set_cons_succ, List.set_cons_zero]
        refine wpOrd_skip hS rfl ?_
        simp only [Act.put, List.setIfInBounds_toArray, List.set_cons_succ, List.set_cons_zero]
        refine wpOrd_skip hS rfl ?_
        simp only [Act.put, List.setIfInBounds_toArray, List.set_cons_succ, List.set_cons_zero]
        refine wpOrd_skip hS rfl ?_
        simp only [Act.put, List.setIfInBounds_toArray, List.set_cons_succ, List.set_cons_zero]
        refine wpOrd_skip hS rfl ?_
        simp only [Act.put, List.setIfInBounds_toArray, List.set_cons_succ, List.set_cons_zero]
        refine wpOrd_yield (v := .bool false) rfl (fun u _ => by go_simp) ?_
        simp only [Act.put, List.setIfInBounds_toArray, List.set_cons_succ, List.set_cons_zero]
        refine wpOrd_yield (v := .bool false) rfl (fun u _ => by go_simp) ?_
        simp only [Act.put, List.setIfInBounds_toArray, List.set_cons_succ, List.set_cons_zero]
        refine wpOrd_yield (v := .bool false) rfl (fun u _ => by go_simp) ?_
        simp only [Act.put, List.setIfInBounds_toArray, List.set_cons_succ, List.set_cons_zero]
        refine wpOrd_yield (v := .bool false) rfl (fun u _ => by go_simp) ?_
        simp only [Act.put, List.setIfInBounds_toArray, List.set_cons_succ, List.set_cons_zero]
        refine wpOrd_yield (v := .bool true) rfl (fun u _ => by go_simp) ?_
        simp only [Act.put, List.setIfInBounds_toArray, List.set_cons_succ, List.set_cons_zero]
        refine wpOrd_yield (v := .bool true) rfl (fun u _ => by go_simp) ?_
        simp only [Act.put, List.setIfInBounds_toArray, List.set_cons_succ, List.set_cons_zero]
        refine wpOrd_yield (v := .agg (blk B)) rfl (fun u hu => exec_ldB rfl rfl hu.1) ?_
        simp only [Act.put, List.setIfInBounds_toArray, List.set_cons_succ, List.set_cons_zero]
        refine wpOrd_yield (v := .agg (blk B)) rfl (fun u hu => exec_ldB rfl rfl hu.2.1) ?_
        simp only [Act.put, List.setIfInBounds_toArray, List.set_cons_succ, List.set_cons_zero]
        refine wpOrd_yield (v := .bool false) rfl (fun u _ => exec_neB (f := B) (g := B) (r := true) rfl rfl rfl (sameB_self B)) ?_
        simp only [Act.put, List.setIfInBounds_toArray, List.set_cons_succ, List.set_cons_zero]
        refine wpOrd_yield (v := .bool false) rfl (fun u _ => by go_simp) ?_
        simp only [Act.put, List.setIfInBounds_toArray, List.set_cons_succ, List.set_cons_zero]
        refine wpOrd_yield (v := .bool false) rfl (fun u _ => by go_simp) ?_
        simp only [Act.put, List.setIfInBounds_toArray, List.set_cons_succ, List.set_cons_zero]
        refine wpOrd_nil ?_
        have HXn : Hid (Has (DuP w db tb2 K5) U d1 t2) := HX6.out.subD fun q hq => List.mem_cons_of_mem _ (List.mem_cons_of_mem _ hq)
        clear HX6 hS HX5
        have W1 : IntKind.i64.wrap ((j : Int) + 1) = ((j + 1 : Nat) : Int) := by have := HF.out; have := HJn.out; rw [IntKind.wrap_i64]; omega
        go_wp2_with fail
        exact ⟨⟨j + 1, t2, tb2, by have := HJn.out; omega, rfl, HXn.out, HDt2.out, HDb2.out⟩, by have := HJn.out; simp [intOf]; omega⟩
      · have hst : ((1 < (j : Int) ∧ (j : Int) < 1 + gl) ∨ dA < (j : Int)) := by omega
        have k1 : decide (1 < (j : Int)) = false := decide_eq_false g1
        have k3 : decide (dA < (j : Int)) = true := decide_eq_true g3
        clear g1 g3
        obtain ⟨hB, hC⟩ := HYs.out hst
        rw [HNt.out, ← hC] at hbk
        have HC3 : Hid (1 < (0 : Int) ∨ True) := .inr trivial
        clear HYs HYn hst HC3
        clear hC
        go_upto_region 14 with fail
        clear cy3 cy4 cy8
        have HX5 : Hid (Has (DuP w db tb2 ((a14, .cells (blk C) 46) :: (a12, .cells (blk B) 46) :: K5)) Xb.drew d1 t2) := HX4.out.later (HStD.out _ _ _) (Below.refl _ _).drew
        have hS : (fun u => u.heap[a12]? = some (.cells (blk B) 46) ∧ u.heap[a14]? = some (.cells (blk C) 46) ∧ u.heap[w.heap.size]? = some (.cells im 24)) Xb.drew := ⟨HX5.out.rowD (List.mem_cons_of_mem _ (List.mem_cons_self ..)), HX5.out.rowD (List.mem_cons_self ..), (lw_of_duo HX5.out (fun q hq => List.mem_cons_of_mem _ (List.mem_cons_of_mem _ (HSub.out q hq)))).im⟩
        clear HX4
        refine wp_region_ord (S := (fun u => u.heap[a12]? = some (.cells (blk B) 46) ∧ u.heap[a14]? = some (.cells (blk C) 46) ∧ u.heap[w.heap.size]? = some (.cells im 24))) [(0, true), (1, true), (2, true), (3, true), (4, true), (5, true), (6, true), (7, true), (8, true), (9, true), (10, true), (11, true), (12, false), (13, true), (14, true), (15, true), (16, true), (17, true), (18, true), (19, true), (20, true), (21, true), (22, true), (23, true), (24, true), (25, true), (26, true), (27, true), (28, true), (29, true)] (by kernel_rfl) rfl (by kernel_rfl) (fun d _ _ _ _ h => by cases d <;> exact h) hS ?_
        simp only [inOrd, List.getElem?_cons_zero, List.getElem?_cons_succ]
        generalize Xb.drew = U at *
        refine wpOrd_yield (v := .int .i64 0) rfl (fun u _ => by go_simp) ?_
        simp only [Act.put, List.setIfInBounds_toArray, List.set_cons_succ, List.set_cons_zero]
        refine wpOrd_yield (v := .bool false) rfl (fun u _ => by go_simp) ?_
        simp only [Act.put, List.setIfInBounds_toArray, List.set_cons_succ, List.set_cons_zero]
        refine wpOrd_yield (v := .bool false) rfl (fun u _ => by go_simp) ?_
        simp only [Act.put, List.setIfInBounds_toArray, List.set_cons_succ, List.set_cons_zero]
        refine wpOrd_yield (v := .int .i64 0) rfl (fun u _ => by go_simp) ?_
        simp only [Act.put, List.setIfInBounds_toArray, List.set_cons_succ, List.set_cons_zero]
        refine wpOrd_yield (v := .bool false) rfl (fun u _ => by go_simp) ?_
        simp only [Act.put, List.setIfInBounds_toArray, List.set_cons_succ, List.set_cons_zero]
        refine wpOrd_yield (v := .bool false) rfl (fun u _ => by go_simp) ?_
        simp only [Act.put, List.setIfInBounds_toArray, List.set_cons_succ, List.set_cons_zero]
        refine wpOrd_yield (v := .bool false) rfl (fun u _ => by go_simp) ?_
        simp only [Act.put, List.setIfInBounds_toArray, List.set_cons_succ, List.set_cons_zero]
        refine wpOrd_yield (v := .bool true) rfl (fun u _ => by go_simp) ?_
        simp only [Act.put, List.setIfInBounds_toArray, List.set_cons_succ, List.set_cons_zero]
        refine wpOrd_yield (v := .bool true) rfl (fun u _ => by go_simp) ?_
        simp only [Act.put, List.setIfInBounds_toArray, List.set_cons_succ, List.set_cons_zero]
        refine wpOrd_yield (v := .agg (blk B)) rfl (fun u hu => exec_ldB rfl rfl hu.1) ?_
        simp only [Act.put, List.setIfInBounds_toArray, List.set_cons_succ, List.set_cons_zero]
        refine wpOrd_yield (v := .agg im) rfl (fun u hu => exec_ldIm rfl rfl hu.2.2 HIi.out) ?_
        simp only [Act.put, List.setIfInBounds_toArray, List.set_cons_succ, List.set_cons_zero]
        refine wpOrd_yield (v := .int .i64 (j : Int)) rfl (fun u _ => by go_simp) ?_
        simp only [Act.put, List.setIfInBounds_toArray, List.set_cons_succ, List.set_cons_zero]
        refine wpOrd_call rfl 17 _ _ rfl Try.call17 [.agg im, .int .i64 (j : Int)] rfl ?_
        refine (HAt.out U (j : Int) (lw_of_duo HX5.out (fun q hq => List.mem_cons_of_mem _ (List.mem_cons_of_mem _ (HSub.out q hq)))).bel).mono ?_
        rintro e U2 ⟨rfl, hb⟩
        have hS2 : (fun u => u.heap[a12]? = some (.cells (blk B) 46) ∧ u.heap[a14]? = some (.cells (blk C) 46) ∧ u.heap[w.heap.size]? = some (.cells im 24)) U2 := ⟨heap_kept hS.1 hb, heap_kept hS.2.1 hb, heap_kept hS.2.2 hb⟩
        refine ⟨_, rfl, hS2, ?_⟩
        simp only [Act.put, List.setIfInBounds_toArray, List.set_cons_succ, List.set_cons_zero]
        rw [← hB]
        have HX6 : Hid (Has (DuP w db tb2 ((a14, .cells (blk C) 46) :: (a12, .cells (blk B) 46) :: K5)) U2 d1 t2) := HX5.out.later (HStD.out _ _ _) hb
        clear HX5 hS hb hB
        refine wpOrd_yield (v := .bool false) rfl (fun u _ => exec_neB (f := B) (g := B) (r := true) rfl rfl rfl (sameB_self B)) ?_
        simp only [Act.put, List.setIfInBounds_toArray, List.set_cons_succ, List.set_cons_zero]
        refine wpOrd_yield (v := .bool false) rfl (fun u _ => by go_simp) ?_
        simp only [Act.put, List.setIfInBounds_toArray, List.set_cons_succ, List.set_cons_zero]
        refine wpOrd_yield (v := .agg (blk C)) rfl (fun u hu => exec_ldB rfl rfl hu.2.1) ?_
        simp only [Act.put, List.setIfInBounds_toArray, List.set_cons_succ, List.set_cons_zero]
        refine wpOrd_yield (v := .agg (blk C)) rfl (fun u _ => exec_buildB rfl hbk) ?_
        simp only [Act.put, List.setIfInBounds_toArray, List.set_cons_succ, List.set_cons_zero]
        refine wpOrd_yield (v := .bool false) rfl (fun u _ => exec_neB (f := C) (g := C) (r := true) rfl rfl rfl (sameB_self C)) ?_
        simp only [Act.put, List.setIfInBounds_toArray, List.set_cons_succ, List.set_cons_zero]
        refine wpOrd_yield (v := .bool false) rfl (fun u _ => by go_simp) ?_
        simp only [Act.put, List.setIfInBounds_toArray, List.set_cons_succ, List.set_cons_zero]
        refine wpOrd_yield (v := .bool false) rfl (fun u _ => by go_simp) ?_
        simp only [Act.put, List.setIfInBounds_toArray, List.set_cons_succ, List.set_cons_zero]
        refine wpOrd_yield (v := .bool false) rfl (fun u _ => by go_simp) ?_
        simp only [Act.put, List.setIfInBounds_toArray, List.set_cons_succ, List.set_cons_zero]
        refine wpOrd_yield (v := .bool false) rfl (fun u _ => by go_simp) ?_
        simp only [Act.put, List.setIfInBounds_toArray, List.set_cons_succ, List.set_cons_zero]
        refine wpOrd_yield (v := .bool true) rfl (fun u _ => by go_simp) ?_
        simp only [Act.put, List.setIfInBounds_toArray, List.set_cons_succ, List.set_cons_zero]
        refine wpOrd_yield (v := .bool false) rfl (fun u _ => by go_simp) ?_
        simp only [Act.put, List.setIfInBounds_toArray, List.set_cons_succ, List.set_cons_zero]
        refine wpOrd_yield (v := .bool false) rfl (fun u _ => by go_simp) ?_
        simp only [Act.put, List.setIfInBounds_toArray, List.set_cons_succ, List.set_cons_zero]
        refine wpOrd_skip hS2 rfl ?_
        simp only [Act.put, List.setIfInBounds_toArray, List.set_cons_succ, List.set_cons_zero]
        refine wpOrd_skip hS2 rfl ?_
        simp only [Act.put, List.setIfInBounds_toArray, List.set_cons_succ, List.set_cons_zero]
        refine wpOrd_skip hS2 rfl ?_
        simp only [Act.put, List.setIfInBounds_toArray, List.set_cons_succ, List.set_cons_zero]
        refine wpOrd_yield (v := .bool false) rfl (fun u _ => by go_simp) ?_
        simp only [Act.put, List.setIfInBounds_toArray, List.set_cons_succ, List.set_cons_zero]
        refine wpOrd_yield (v := .bool false) rfl (fun u _ => by go_simp) ?_
        simp only [Act.put, List.setIfInBounds_toArray, List.set_cons_succ, List.set_cons_zero]
        refine wpOrd_nil ?_
        have HXn : Hid (Has (DuP w db tb2 K5) U2 d1 t2) := HX6.out.subD fun q hq => List.mem_cons_of_mem _ (List.mem_cons_of_mem _ hq)
        clear HX6 hS2
        have W1 : IntKind.i64.wrap ((j : Int) + 1) = ((j + 1 : Nat) : Int) := by have := HF.out; have := HJn.out; rw [IntKind.wrap_i64]; omega
        go_wp2_with fail
        exact ⟨⟨j + 1, t2, tb2, by have := HJn.out; omega, rfl, HXn.out, HDt2.out, HDb2.out⟩, by have := HJn.out; simp [intOf]; omega⟩
      · have hst : ¬ ((1 < (j : Int) ∧ (j : Int) < 1 + gl) ∨ dA < (j : Int)) := by omega
        have k1 : decide (1 < (j : Int)) = false := decide_eq_false g1
        have k3 : decide (dA < (j : Int)) = false := decide_eq_false g3
        clear g1 g3
        have hB := HYn.out hst
        have HC3 : Hid (1 < (0 : Int) ∨ True) := .inr trivial
        clear HYs HYn hst HC3
        subst hB
        go_upto_region 14 with fail
        clear cy3 cy4 cy8
        have HX5 : Hid (Has (DuP w db tb2 ((a14, .cells (blk B) 46) :: (a12, .cells (blk B) 46) :: K5)) Xb.drew d1 t2) := HX4.out.later (HStD.out _ _ _) (Below.refl _ _).drew
        have hS : (fun u => u.heap[a12]? = some (.cells (blk B) 46) ∧ u.heap[a14]? = some (.cells (blk B) 46) ∧ u.heap[w.heap.size]? = some (.cells im 24)) Xb.drew := ⟨HX5.out.rowD (List.mem_cons_of_mem _ (List.mem_cons_self ..)), HX5.out.rowD (List.mem_cons_self ..), (lw_of_duo HX5.out (fun q hq => List.mem_cons_of_mem _ (List.mem_cons_of_mem _ (HSub.out q hq)))).im⟩
        clear HX4
        refine wp_region_ord (S := (fun u => u.heap[a12]? = some (.cells (blk B) 46) ∧ u.heap[a14]? = some (.cells (blk B) 46) ∧ u.heap[w.heap.size]? = some (.cells im 24))) [(0, true), (1, true), (2, true), (3, true), (4, true), (5, true), (6, true), (7, true), (8, true), (9, true), (10, true), (11, true), (12, false), (13, true), (14, true), (15, true), (16, true), (17, true), (18, true), (19, true), (20, true), (21, true), (22, true), (23, true), (24, true), (25, true), (26, true), (27, true), (28, true), (29, true)] (by kernel_rfl) rfl (by kernel_rfl) (fun d _ _ _ _ h => by cases d <;> exact h) hS ?_
        simp only [inOrd, List.getElem?_cons_zero, List.getElem?_cons_succ]
        generalize Xb.drew = U at *
        refine wpOrd_yield (v := .int .i64 0) rfl (fun u _ => by go_simp) ?_
        simp only [Act.put, List.setIfInBounds_toArray, List.set_cons_succ, List.set_cons_zero]
        refine wpOrd_yield (v := .bool false) rfl (fun u _ => by go_simp) ?_
        simp only [Act.put, List.setIfInBounds_toArray, List.set_cons_succ, List.set_cons_zero]
        refine wpOrd_yield (v := .bool false) rfl (fun u _ => by go_simp) ?_
        simp only [Act.put, List.setIfInBounds_toArray, List.set_cons_succ, List.set_cons_zero]
        refine wpOrd_yield (v := .int .i64 0) rfl (fun u _ => by go_simp) ?_
        simp only [Act.put, List.setIfInBounds_toArray, List.set_cons_succ, List.set_cons_zero]
        refine wpOrd_yield (v := .bool false) rfl (fun u _ => by go_simp) ?_
        simp only [Act.put, List.setIfInBounds_toArray, List.set_cons_succ, List.set_cons_zero]
        refine wpOrd_yield (v := .bool false) rfl (fun u _ => by go_simp) ?_
        simp only [Act.put, List.setIfInBounds_toArray, List.set_cons_succ, List.set_cons_zero]
        refine wpOrd_yield (v := .bool false) rfl (fun u _ => by go_simp) ?_
        simp only [Act.put, List.setIfInBounds_toArray, List.set_cons_succ, List.set_cons_zero]
        refine wpOrd_yield (v := .bool false) rfl (fun u _ => by go_simp) ?_
        simp only [Act.put, List.setIfInBounds_toArray, List.set_cons_succ, List.set_cons_zero]
        refine wpOrd_yield (v := .bool false) rfl (fun u _ => by go_simp) ?_
        simp only [Act.put, List.setIfInBounds_toArray, List.set_cons_succ, List.set_cons_zero]
        have HX6 : Hid (Has (DuP w db tb2 ((a14, .cells (blk B) 46) :: (a12, .cells (blk B) 46) :: K5)) U d1 t2) := HX5.out
        refine wpOrd_skip hS rfl ?_
        simp only [Act.put, List.setIfInBounds_toArray, List.set_cons_succ, List.set_cons_zero]
        refine wpOrd_skip hS rfl ?_
        simp only [Act.put, List.setIfInBounds_toArray, List.set_cons_succ, List.set_cons_zero]
        refine wpOrd_skip hS rfl ?_
        simp only [Act.put, List.setIfInBounds_toArray, List.set_cons_succ, List.set_cons_zero]
        refine wpOrd_skip hS rfl ?_
        simp only [Act.put, List.setIfInBounds_toArray, List.set_cons_succ, List.set_cons_zero]
        refine wpOrd_skip hS rfl ?_
        simp only [Act.put, List.setIfInBounds_toArray, List.set_cons_succ, List.set_cons_zero]
        refine wpOrd_skip hS rfl ?_
        simp only [Act.put, List.setIfInBounds_toArray, List.set_cons_succ, List.set_cons_zero]
        refine wpOrd_skip hS rfl ?_
        simp only [Act.put, List.setIfInBounds_toArray, List.set_cons_succ, List.set_cons_zero]
        refine wpOrd_skip hS rfl ?_
        simp only [Act.put, List.setIfInBounds_toArray, List.set_cons_succ, List.set_cons_zero]
        refine wpOrd_skip hS rfl ?_
        simp only [Act.put, List.setIfInBounds_toArray, List.set_cons_succ, List.set_cons_zero]
        refine wpOrd_skip hS rfl ?_
        simp only [Act.put, List.setIfInBounds_toArray, List.set_cons_succ, List.set_cons_zero]
        refine wpOrd_yield (v := .bool false) rfl (fun u _ => by go_simp) ?_
        simp only [Act.put, List.setIfInBounds_toArray, List.set_cons_succ, List.set_cons_zero]
        refine wpOrd_yield (v := .bool false) rfl (fun u _ => by go_simp) ?_
        simp only [Act.put, List.setIfInBounds_toArray, List.set_cons_succ, List.set_cons_zero]
        refine wpOrd_yield (v := .bool false) rfl (fun u _ => by go_simp) ?_
        simp only [Act.put, List.setIfInBounds_toArray, List.set_cons_succ, List.set_cons_zero]
        refine wpOrd_yield (v := .bool false) rfl (fun u _ => by go_simp) ?_
        simp only [Act.put, List.setIfInBounds_toArray, List.set_cons_succ, List.set_cons_zero]
        refine wpOrd_yield (v := .bool true) rfl (fun u _ => by go_simp) ?_
        simp only [Act.put, List.setIfInBounds_toArray, List.set_cons_succ, List.set_cons_zero]
        refine wpOrd_yield (v := .bool true) rfl (fun u _ => by go_simp) ?_
        simp only [Act.put, List.setIfInBounds_toArray, List.set_cons_succ, List.set_cons_zero]
        refine wpOrd_yield (v := .agg (blk B)) rfl (fun u hu => exec_ldB rfl rfl hu.1) ?_
        simp only [Act.put, List.setIfInBounds_toArray, List.set_cons_succ, List.set_cons_zero]
        refine wpOrd_yield (v := .agg (blk B)) rfl (fun u hu => exec_ldB rfl rfl hu.2.1) ?_
        simp only [Act.put, List.setIfInBounds_toArray, List.set_cons_succ, List.set_cons_zero]
        refine wpOrd_yield (v := .bool false) rfl (fun u _ => exec_neB (f := B) (g := B) (r := true) rfl rfl rfl (sameB_self B)) ?_
        simp only [Act.put, List.setIfInBounds_toArray, List.set_cons_succ, List.set_cons_zero]
        refine wpOrd_yield (v := .bool false) rfl (fun u _ => by go_simp) ?_
        simp only [Act.put, List.setIfInBounds_toArray, List.set_cons_succ, List.set_cons_zero]
        refine wpOrd_yield (v := .bool false) rfl (fun u _ => by go_simp) ?_
        simp only [Act.put, List.setIfInBounds_toArray, List.set_cons_succ, List.set_cons_zero]
        refine wpOrd_nil ?_
        have HXn : Hid (Has (DuP w db tb2 K5) U d1 t2) := HX6.out.subD fun q hq => List.mem_cons_of_mem _ (List.mem_cons_of_mem _ hq)
        clear HX6 hS HX5
        have W1 : IntKind.i64.wrap ((j : Int) + 1) = ((j + 1 : Nat) : Int) := by have := HF.out; have := HJn.out; rw [IntKind.wrap_i64]; omega
        go_wp2_with fail
        exact ⟨⟨j + 1, t2, tb2, by have := HJn.out; omega, rfl, HXn.out, HDt2.out, HDb2.out⟩, by have := HJn.out; simp [intOf]; omega⟩
    · have hjn2 : decide ((j : Int) < n) = false := decide_eq_false hjn
      have HJ : Hid ((j : Int) ≤ n) := hj
      clear hjn hj
      go_wp2_with (go_at_call 13; fail)
      refine (has_made HT.out).mono ?_
      rintro e X1 ⟨rfl, he⟩
      obtain rfl := he.symm
      clear he hjn2
      rw [HDt.out.made]
      have hIm := has_imageK HT.out
      rw [HDt.out.n] at hIm
      go_wp2_with (go_at_call 16; fail)
      refine hIm.mono ?_
      rintro e X2 ⟨g1, l1, rfl, hi1, hx2⟩
      have HI1 : Hid (IsImage t l1) := hi1
      have HN1 : Hid (l1.length ≤ 9000) := by
        have h2 := rise_len (n := n) l1 (-1) hi1.rise (fun c hc => by have := hi1.top c hc; rwa [HDt.out.n] at this) (by have := HF.out; omega)
        have := HF.out
        show _ ≤ _
        omega
      obtain ⟨IR, hIR⟩ : ∃ IR, (#[.int .i64 n, .slice (some ⟨g1, 0, none⟩) l1.length l1.length] : Array Value) = IR := ⟨_, rfl⟩
      have HIi1 : Hid _ := im_info n (some ⟨g1, 0, none⟩) l1.length l1.length
      have HIz : Hid ((#[Value.int .i64 0, .slice none 0 0] : Array Value).size = IR.size ∧ IR.all (·.oneCell') = true) := by rw [← hIR]; exact ⟨rfl, by simp [Value.oneCell']⟩
      rw [hIR] at HIi1 ⊢
      have HIR : Hid _ := hIR
      clear hIR
      obtain ⟨Xa, hXa⟩ : ∃ Xa, X2.alloc (.cells IR 24) = Xa := ⟨_, rfl⟩
      have HX3 : Hid (Has (DuP w db tb ((X2.heap.size, .cells IR 24) :: (g1, .cells (celCells l1).toArray 54) :: K5)) Xa d1 t) := hXa ▸ hx2.addD _
      have HXa : Hid _ := hXa
      have zi := zeroIm
      clear hi1 hIm hx2 HT ci0 hXa
      go_upto_region 18 with (first | (with_reducible refine Ytlcdpmjdnihocaa.isStoreR 24 ?_; refine Ytlcdpmjdnihocaa.wpList_stNew 24 rfl _ _ rfl X2.heap.size IR #[.int .i64 0, .slice none 0 0] 24 HIi1.out HIz.out.1 HIz.out.2 rfl rfl rfl ?_))
      rw [HXa.out]
      clear HXa zi
      generalize X2.heap.size = g18 at *
      have HX4 : Hid (Has (DuP w db tb ((g18, .cells IR 24) :: (g1, .cells (celCells l1).toArray 54) :: K5)) Xa.drew d1 t) := HX3.out.later (HStD.out _ _ _) (Below.refl _ _).drew
      clear HX3
      have hLw : ∀ V s, Has (DuP w db tb ((g18, .cells IR 24) :: (g1, .cells (celCells l1).toArray 54) :: K5)) V d1 s → (fun u => u.heap[w.heap.size + 1]? = some (.cells ge 26) ∧ u.heap[g18]? = some (.cells IR 24)) V := fun V s hV => ⟨(lw_of_duo hV (fun q hq => List.mem_cons_of_mem _ (List.mem_cons_of_mem _ (HSub.out q hq)))).ge, hV.rowD (List.mem_cons_self ..)⟩
      have HLw : Hid _ := hLw
      have hS := hLw _ _ HX4.out
      clear hLw
      have W2 : IntKind.i64.wrap (2 * (N : Int)) = 2 * (N : Int) := by have := HN.out; rw [IntKind.wrap_i64]; omega
      obtain ⟨q1, q2, q3, q4⟩ := HDt.out.again HF.out.1 HF.out.2.1
      obtain ⟨-, rW, rC⟩ := HDt.out.room (by have := HF.out; have := HJ.out; omega) (by have := HN.out; omega)
      have hMk := HMk.out _ (HStD.out _ _ _) Xa.drew d1 t HX4.out rW rC
      refine wp_region_ord (S := (fun u => u.heap[w.heap.size + 1]? = some (.cells ge 26) ∧ u.heap[g18]? = some (.cells IR 24))) [(0, true), (1, true), (2, false), (3, true), (4, true), (5, true), (7, true), (8, true), (6, false), (9, true), (10, true), (11, true), (12, true), (14, true), (13, false), (15, false), (16, true), (17, true)] (by kernel_rfl) rfl (by kernel_rfl) (fun d _ _ _ _ h => by cases d <;> exact h) hS ?_
      simp only [inOrd, List.getElem?_cons_zero, List.getElem?_cons_succ]
      clear HX4
      generalize Xa.drew = U at *
      refine wpOrd_yield (v := .pointer (some ⟨d1, 0, none⟩)) rfl (fun u _ => by go_simp) ?_
      simp only [Act.put, List.setIfInBounds_toArray, List.set_cons_succ, List.set_cons_zero]
      refine wpOrd_yield (v := .agg ge) rfl (fun u hu => exec_ldGe rfl rfl hu.1 HGi.out) ?_
      simp only [Act.put, List.setIfInBounds_toArray, List.set_cons_succ, List.set_cons_zero]
      refine wpOrd_call rfl 11 _ _ rfl Try.call11 [.pointer (some ⟨d1, 0, none⟩), .agg ge] rfl ?_
      refine hMk.mono ?_
      rintro e U2 ⟨rfl, hx5⟩
      have hS2 := HLw.out _ _ hx5
      refine ⟨_, rfl, hS2, ?_⟩
      simp only [Act.put, List.setIfInBounds_toArray, List.set_cons_succ, List.set_cons_zero]
      rw [q1]
      refine wpOrd_yield (v := .bool true) rfl (fun u _ => by go_simp) ?_
      simp only [Act.put, List.setIfInBounds_toArray, List.set_cons_succ, List.set_cons_zero]
      refine wpOrd_yield (v := .bool true) rfl (fun u _ => by go_simp) ?_
      simp only [Act.put, List.setIfInBounds_toArray, List.set_cons_succ, List.set_cons_zero]
      refine wpOrd_yield (v := .pointer (some ⟨d1, 0, none⟩)) rfl (fun u _ => by go_simp) ?_
      simp only [Act.put, List.setIfInBounds_toArray, List.set_cons_succ, List.set_cons_zero]
      refine wpOrd_yield (v := .int .i64 (N : Int)) rfl (fun u _ => by go_simp) ?_
      simp only [Act.put, List.setIfInBounds_toArray, List.set_cons_succ, List.set_cons_zero]
      refine wpOrd_yield (v := .int .i64 (2 * (N : Int))) rfl (fun u _ => by go_simp) ?_
      simp only [Act.put, List.setIfInBounds_toArray, List.set_cons_succ, List.set_cons_zero]
      refine wpOrd_call rfl 13 _ _ rfl Try.call13 [.pointer (some ⟨d1, 0, none⟩)] rfl ?_
      refine (has_made hx5).mono ?_
      rintro e U3 ⟨rfl, he⟩
      obtain rfl := he.symm
      clear he
      refine ⟨_, rfl, hS2, ?_⟩
      simp only [Act.put, List.setIfInBounds_toArray, List.set_cons_succ, List.set_cons_zero]
      rw [q2, show ((N + (mkN gb gl gi + 6) : Nat) : Int) = 2 * (N : Int) by have := HN.out; omega]
      generalize 2 * (N : Int) = N2 at *
      refine wpOrd_yield (v := .bool true) rfl (fun u _ => by go_simp) ?_
      simp only [Act.put, List.setIfInBounds_toArray, List.set_cons_succ, List.set_cons_zero]
      refine wpOrd_yield (v := .bool true) rfl (fun u _ => by go_simp) ?_
      simp only [Act.put, List.setIfInBounds_toArray, List.set_cons_succ, List.set_cons_zero]
      refine wpOrd_yield (v := .bool true) rfl (fun u _ => by go_simp) ?_
      simp only [Act.put, List.setIfInBounds_toArray, List.set_cons_succ, List.set_cons_zero]
      refine wpOrd_yield (v := .pointer (some ⟨d1, 0, none⟩)) rfl (fun u _ => by go_simp) ?_
      simp only [Act.put, List.setIfInBounds_toArray, List.set_cons_succ, List.set_cons_zero]
      refine wpOrd_yield (v := .agg IR) rfl (fun u hu => exec_ldIm rfl rfl hu.2 HIi1.out) ?_
      simp only [Act.put, List.setIfInBounds_toArray, List.set_cons_succ, List.set_cons_zero]
      have hIm := has_imageK hx5
      rw [q3] at hIm
      refine wpOrd_call rfl 16 _ _ rfl Try.call16 [.pointer (some ⟨d1, 0, none⟩)] rfl ?_
      refine hIm.mono ?_
      rintro e U4 ⟨g2, l2, rfl, hi2, hx6⟩
      obtain rfl : l2 = l1 := hi2.one HI1.out.rise HI1.out.sound fun k => (HI1.out.at_ k).trans (q4 k).symm
      have hx7 := hx6.subD (ks' := ((g18, .cells IR 24) :: (g1, .cells (celCells l2).toArray 54) :: K5)) fun q hq => List.mem_cons_of_mem _ hq
      have hS4 := HLw.out _ _ hx7
      refine ⟨_, rfl, hS4, ?_⟩
      simp only [Act.put, List.setIfInBounds_toArray, List.set_cons_succ, List.set_cons_zero]
      have hsm := sameImage_any n n l2 l2 (some ⟨g2, 0, none⟩) (some ⟨g1, 0, none⟩) l2.length l2.length U4 (by have := HN1.out; omega) (by have := HN1.out; omega) (img_cells (hx6.rowD (List.mem_cons_self ..))) (img_cells (hx7.rowD (List.mem_cons_of_mem _ (List.mem_cons_self ..))))
      rw [show ((n == n) && celsB l2 l2) = true by rw [beq_self_eq_true, Bool.true_and]; exact (celsB_iff (fun c hc => (HI1.out.sound c hc).1) (fun c hc => (HI1.out.sound c hc).1)).2 rfl, HIR.out] at hsm
      refine wpOrd_call rfl 18 _ _ rfl Try.call18 [.agg #[.int .i64 n, .slice (some ⟨g2, 0, none⟩) l2.length l2.length], .agg IR] rfl ?_
      refine hsm.mono ?_
      rintro e U5 ⟨rfl, hb⟩
      have hx8 := hx7.later (HStD.out _ _ _) hb
      refine ⟨_, rfl, HLw.out _ _ hx8, ?_⟩
      simp only [Act.put, List.setIfInBounds_toArray, List.set_cons_succ, List.set_cons_zero]
      refine wpOrd_yield (v := .bool true) rfl (fun u _ => by go_simp) ?_
      simp only [Act.put, List.setIfInBounds_toArray, List.set_cons_succ, List.set_cons_zero]
      refine wpOrd_yield (v := .bool true) rfl (fun u _ => by go_simp) ?_
      simp only [Act.put, List.setIfInBounds_toArray, List.set_cons_succ, List.set_cons_zero]
      refine wpOrd_nil ?_
      have HBel : Hid (Below w.heap.size w U5) := hx8.belowD
      clear hx5 hx6 hx7 hx8 hS hS2 hS4 hsm hb hi2 hIm hMk q1 q2 q3 q4 HMk HDt HDb HLw HIR HI1 W2 rW rC
      go_wp2_with fail
      go_ret
      exact ⟨rfl, HBel.out⟩
end Go.Proofs.YtlcdpmjdnihocaaD
