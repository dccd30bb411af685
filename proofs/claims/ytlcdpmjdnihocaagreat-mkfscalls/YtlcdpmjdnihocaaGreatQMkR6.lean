/- MkfsCalls: the walk; for every image, geometry and fuse. -/
import Derived.Test.YtlcdpmjdnihocaaGreatJ18
namespace Go.Proofs.YtlcdpmjdnihocaaGreatD
open Go.RowKit Go.Maps
theorem im2_info (n : Int) (p : Option Addr) (m c : Nat) : (Tryz.prog.info? 24).map (·.size) = some (#[Value.int .i64 n, .slice p m c] : Array Value).size := by kernel_rfl
theorem exec_ldGe {o : Oper} {a : Act} {u : World} {x : Operand} {g : Nat} {cs : Array Value} (ho : o.op = .load 26 x) (hx : a.eval x = .pointer (some ⟨g, 0, none⟩)) (hg : u.heap[g]? = some (.cells cs 26)) (hi : (Tryz.prog.info? 26).map (·.size) = some cs.size) :
    (execOp a.eval o).run Tryz.prog u = .ok (.value (.agg cs)) u := by
  have h := run_loadVar_row u g 26 26 cs (0, 0) _ hg Tryz.underlying26 rfl hi
  simp only [execOp, ho, hx, Instr.loadAt, Instr.sureAddr, Sem.run_bind, Sem.run_pure, Result.andThen_ok, h]
section
variable {ops : Array Oper} {Q : Exit → Act → World → Prop} {S : World → Prop} {r : List (Bool × Oper)} {a : Act} {o : Oper} {W W' : World} {v : Value}
theorem wpOrd_val (hw : Region.wanted o (yielded ops a.tmps) = true) (hr : (execOp a.eval o).run Tryz.prog W = .ok (.value v) W') (hS : S W') (h : wpOrd Tryz.prog ops Q S r (a.put o.dst v) W') : wpOrd Tryz.prog ops Q S ((false, o) :: r) a W := by
  simp only [wpOrd, hw, if_true]
  unfold Oper.wp
  rw [hr]
  exact ⟨hS, h⟩
end
theorem exec_boxD {a : Act} {o : Oper} {u : World} {y : Operand} {cs : Array Value} (ho : o.op = .box 49 y) (hx : a.eval y = .agg cs) : (execOp a.eval o).run Tryz.prog u = .ok (.value (.pointer (some ⟨u.heap.size, 0, none⟩))) (u.alloc (.cells cs 49)) := by
  unfold execOp
  simp only [ho, hx]
  simp [go_sem]
def diZ : Array Value := #[.pointer none, .int .i64 0, .map none, .slice none 0 0, .int .i64 0, .map none, .int .i64 0, .bool false, .int .i64 0, .int .i64 0, .int .i64 0, .bool false]
theorem zeroDi : ∀ w, (zeroValue 49).run Tryz.prog w = .ok (.agg diZ) w := (zero_of_info (show (Tryz.prog.info? 49).map (fun i => (i.zero, i.size)) = some (some (.agg diZ), 12) by kernel_rfl)).1
theorem diZ_none : diZ[0]? = some (.pointer none) := rfl
theorem exec_buildD {D : Array Value} (z : ∀ w, (zeroValue 49).run Tryz.prog w = .ok (.agg D) w) {o : Oper} {a : Act} {u : World} (ho : o.op = .build 49 #[]) : (execOp a.eval o).run Tryz.prog u = .ok (.value (.agg D)) u := by
  have e : (Instr.build 49 #[]).run Tryz.prog u = .ok (.agg D) u := by simp [go_sem, z]
  simp [execOp, ho, e]
theorem drew_below (W : World) : Below W.heap.size W W.drew := ⟨rfl, rfl, rfl, Nat.le_refl _, fun _ _ => rfl⟩
set_option maxRecDepth 20000 in
set_option maxHeartbeats 8000000 in
theorem law_calls (n : Int) (p : Option Addr) (ls : List Cel) (cap : Nat) (gb gl gi fu : Int) (w : World) (himg : ImgAt w p ls) (hcan : ∀ c ∈ ls, Can c.2) (hgb : YtlcdpmjdnihocaaGreatP.I64 gb) (hfu : fu ≤ 9223372036854775807) :
    Calls Tryz.prog 3 #[.agg #[.int .i64 n, .slice p ls.length cap], .agg #[.int .i64 gb, .int .i64 gl, .int .i64 gi], .int .i64 fu] w fun e w' => e = .returned (.bool true) ∧ Below w.heap.size w w' := by
  obtain ⟨A, hA⟩ : ∃ A, A = (w.alloc (.cells #[.int .i64 n, .slice p ls.length cap] 24)).alloc (.cells #[.int .i64 gb, .int .i64 gl, .int .i64 gi] 26) := ⟨_, rfl⟩
  have a1 : A.heap[w.heap.size]? = some (.cells #[.int .i64 n, .slice p ls.length cap] 24) := by rw [hA]; exact heap_kept (heap_alloc_new _ _) (below_new _ _)
  have a2 : A.heap[w.heap.size + 1]? = some (.cells #[.int .i64 gb, .int .i64 gl, .int .i64 gi] 26) := by rw [hA]; exact YtlcdpmjdnihocaaGreat.heap_two _ _ _
  have a3 : Below w.heap.size w A := by rw [hA]; exact below_next (below_new _ _) (below_new _ _)
  have A1 := Hid.mk' a1
  have A2 := Hid.mk' a2
  have A3 := Hid.mk' a3
  have HIi := Hid.mk' (im2_info n p ls.length cap)
  have HGi := Hid.mk' (ge3_info gb gl gi)
  have hlg := large_ok n p ls.length cap gb gl gi A
  have HLa : Hid (largeB n ls.length gi = false → ls.length ≤ 400) := fun h => by
    unfold largeB at h
    simp at h
    omega
  have HLv := Hid.mk' (fun U => lives_ok U)
  have HIm : Hid (∀ V, Below A.heap.size A V → ImgAt V p ls) := fun V hV => himg.later (a3.trans (hV.mono a3.size))
  have HA := Hid.mk' hA
  obtain ⟨lb, hlb⟩ : ∃ lb, largeB n ls.length gi = lb := ⟨_, rfl⟩
  rw [hlb] at hlg HLa
  clear hA hlb
  go_enter Tryz.func3, Tryz.ntmps3
  go_upto_region 1 with fail
  rw [← HA.out]
  clear HA
  go_wp2_with (first | (with_reducible refine YtlcdpmjdnihocaaGreat.isLoadR 24 ?_; refine YtlcdpmjdnihocaaGreat.wpList_ldR 24 Tryz.underlying24 rfl rfl _ rfl w.heap.size rfl #[.int .i64 n, .slice p ls.length cap] 24 (0, 0) HIi.out a1 ?_) | (with_reducible refine YtlcdpmjdnihocaaGreat.isLoadR 26 ?_; refine YtlcdpmjdnihocaaGreat.wpList_ldR 26 Tryz.underlying26 rfl rfl _ rfl (w.heap.size + 1) rfl #[.int .i64 gb, .int .i64 gl, .int .i64 gi] 26 (0, 0) HGi.out a2 ?_) | (go_at_call 5; fail))
  refine hlg.mono ?_
  rintro e W1 ⟨rfl, hb1⟩
  clear hlg a1 a2
  cases lb
  case true =>
    have HB := Hid.mk' (below_next a3 hb1)
    go_wp2
    go_ret
    exact ⟨rfl, HB.out⟩
  have hl400 := HLa.out rfl
  clear a3 HLa
  have B1 := Hid.mk' hb1
  have i1 := heap_kept A1.out hb1
  clear hb1
  cases hm : mayB n ls
  · have hrl := refLoad_bad n ls p cap W1 (by omega) (HIm.out _ B1.out) hm
    go_wp2_with (first | (with_reducible refine YtlcdpmjdnihocaaGreat.isLoadR 24 ?_; refine YtlcdpmjdnihocaaGreat.wpList_ldR 24 Tryz.underlying24 rfl rfl _ rfl w.heap.size rfl #[.int .i64 n, .slice p ls.length cap] 24 (0, 0) HIi.out i1 ?_) | (go_at_call 6; fail))
    refine hrl.mono ?_
    rintro e W2 ⟨rfl, hb2⟩
    have B2 := Hid.mk' (below_next B1.out hb2)
    have i2 := heap_kept A1.out B2.out
    have hld := load_bad n ls p cap W2 (by omega) (HIm.out _ B2.out) hm
    clear hrl hb2 B1 i1
    go_wp2_with (first | (with_reducible refine YtlcdpmjdnihocaaGreat.isLoadR 24 ?_; refine YtlcdpmjdnihocaaGreat.wpList_ldR 24 Tryz.underlying24 rfl rfl _ rfl w.heap.size rfl #[.int .i64 n, .slice p ls.length cap] 24 (0, 0) HIi.out i2 ?_) | (go_at_call 7; fail))
    refine hld.mono ?_
    rintro e W3 ⟨rfl, hb3⟩
    have B3 := Hid.mk' (below_next B2.out hb3)
    have hlv := HLv.out W3
    clear hld hb3 B2 i2
    go_wp2_with (go_at_call 8; fail)
    refine hlv.mono ?_
    rintro e W4 ⟨rfl, hb4⟩
    have HB := Hid.mk' (below_next A3.out (below_next B3.out hb4))
    clear hlv hb4
    go_wp2
    go_ret
    exact ⟨rfl, HB.out⟩
  · have hrl := refLoad_made n ls p cap W1 (by omega) (HIm.out _ B1.out) hm
    go_wp2_with (first | (with_reducible refine YtlcdpmjdnihocaaGreat.isLoadR 24 ?_; refine YtlcdpmjdnihocaaGreat.wpList_ldR 24 Tryz.underlying24 rfl rfl _ rfl w.heap.size rfl #[.int .i64 n, .slice p ls.length cap] 24 (0, 0) HIi.out i1 ?_) | (go_at_call 6; fail))
    refine hrl.mono ?_
    rintro e W2 ⟨g, v, rfl, hR, hb2⟩
    have B2 := Hid.mk' (below_next B1.out hb2)
    have i2 := heap_kept A1.out B2.out
    have HR := Hid.mk' (And.intro hR hb2)
    have hld := load_ok n ls p cap W2 (by omega) (HIm.out _ B2.out) hcan hm
    clear hrl hb2 i1 hR
    go_wp2_with (first | (with_reducible refine YtlcdpmjdnihocaaGreat.isLoadR 24 ?_; refine YtlcdpmjdnihocaaGreat.wpList_ldR 24 Tryz.underlying24 rfl rfl _ rfl w.heap.size rfl #[.int .i64 n, .slice p ls.length cap] 24 (0, 0) HIi.out i2 ?_) | (go_at_call 7; fail))
    refine hld.mono ?_
    rintro e W3 ⟨L, rfl, hD, hL, hb3⟩
    have H3 := Hid.mk' (rs_load (w := A) B1.out hm hcan HR.out.1 HR.out.2 hD hL hb3)
    have hlv := HLv.out W3
    clear hld hb3 B2 i2 hD hL HR B1
    generalize L.d = d at *
    have hsm := loadV_same n ls
    generalize rNew n ls = t0 at *
    generalize loadV n ls = s0 at *
    go_wp2_with (go_at_call 8; fail)
    refine hlv.mono ?_
    rintro e W4 ⟨rfl, hb4⟩
    have h4 := H3.out.later hb4
    have hst : s0.stopped = false := hsm.2.2.1
    have hc4 := h4.pclaim (cap_wide h4.cap (by omega)).2.2
    clear hlv hb4 H3
    go_wp2_with (go_at_call 9; fail)
    refine hc4.mono ?_
    rintro e W5 ⟨rfl, h5⟩
    have hc5 := h5.rclaim2 (by omega) hst
    clear hc4 h5 h4
    go_wp2_with (go_at_call 10; fail)
    refine hc5.mono ?_
    rintro e W6 ⟨rfl, t6, h6⟩
    have hc6 := h6.pfuse fu hfu
    clear hc5 h6
    go_wp2_with (go_at_call 11; fail)
    refine hc6.mono ?_
    rintro e W7 ⟨rfl, h7⟩
    have hc7 := h7.rfuse fu hfu
    clear hc6 h7
    go_wp2_with (go_at_call 12; fail)
    refine hc7.mono ?_
    rintro e W8 ⟨rfl, t8, h8⟩
    have H8 := Hid.mk' h8
    clear hc7 h8 hst hsm
    generalize claimN s0 = cn at *
    generalize fuseV (claimV s0) fu = s2 at *
    go_upto_region 9 with fail
    have HX := Hid.mk' (H8.out.later (drew_below W8))
    have g8 := heap_kept A2.out HX.out.both.below
    clear H8
    refine wp_region_ord (S := fun u => u.heap[w.heap.size + 1]? = some (.cells #[.int .i64 gb, .int .i64 gl, .int .i64 gi] 26)) [(0, true), (1, true), (3, true), (4, true), (2, false), (5, false), (6, true), (7, true), (8, true), (9, true), (10, true), (11, true), (12, true), (13, true), (14, true), (16, true), (17, true), (15, false), (18, false), (19, true), (20, true), (21, true)]
      (by kernel_rfl) rfl (by kernel_rfl) (fun d _ _ _ _ h => by cases d <;> exact h) g8 ?_
    simp only [inOrd, List.getElem?_cons_zero, List.getElem?_cons_succ]
    generalize W8.drew = X at *
    refine wpOrd_yield (v := .pointer (some ⟨d, 0, none⟩)) rfl (fun u _ => by go_simp) ?_
    simp only [Act.put, List.setIfInBounds_toArray, List.set_cons_succ, List.set_cons_zero]
    refine wpOrd_yield (v := .agg #[.int .i64 gb, .int .i64 gl, .int .i64 gi]) rfl (fun u hu => exec_ldGe rfl rfl hu HGi.out) ?_
    simp only [Act.put, List.setIfInBounds_toArray, List.set_cons_succ, List.set_cons_zero]
    refine wpOrd_yield (v := .pointer (some ⟨g, 0, none⟩)) rfl (fun u _ => by go_simp) ?_
    simp only [Act.put, List.setIfInBounds_toArray, List.set_cons_succ, List.set_cons_zero]
    refine wpOrd_yield (v := .agg #[.int .i64 gb, .int .i64 gl, .int .i64 gi]) rfl (fun u hu => exec_ldGe rfl rfl hu HGi.out) ?_
    simp only [Act.put, List.setIfInBounds_toArray, List.set_cons_succ, List.set_cons_zero]
    refine wpOrd_call rfl 13 _ _ rfl Tryz.call13 [.pointer (some ⟨d, 0, none⟩), .agg #[.int .i64 gb, .int .i64 gl, .int .i64 gi]] rfl ?_
    refine (HX.out.pmake gb gl gi hgb (cap_wide HX.out.cap (by omega)).1 (cap_wide HX.out.cap (by omega)).2.1).mono ?_
    rintro e X1 ⟨rfl, x1⟩
    have g1 := heap_kept A2.out x1.both.below
    refine ⟨_, rfl, g1, ?_⟩
    simp only [Act.put, List.setIfInBounds_toArray, List.set_cons_succ, List.set_cons_zero]
    refine wpOrd_call rfl 14 _ _ rfl Tryz.call14 [.pointer (some ⟨g, 0, none⟩), .agg #[.int .i64 gb, .int .i64 gl, .int .i64 gi]] rfl ?_
    refine (rmake_ok gb gl gi x1 (by omega)).mono ?_
    rintro e X2 ⟨rfl, t9, x2⟩
    have g2 := heap_kept A2.out x2.both.below
    have HX2 := Hid.mk' x2
    refine ⟨_, rfl, g2, ?_⟩
    clear HX g8 x1 g1 x2
    generalize mkE gb gl gi s2 = E at *
    generalize mkV gb gl gi s2 = s3 at *
    simp only [Act.put, List.setIfInBounds_toArray, List.set_cons_succ, List.set_cons_zero]
    refine wpOrd_yield (v := .bool true) rfl (fun u _ => by go_simp) ?_
    simp only [Act.put, List.setIfInBounds_toArray, List.set_cons_succ, List.set_cons_zero]
    refine wpOrd_yield (v := .bool true) rfl (fun u _ => by go_simp) ?_
    simp only [Act.put, List.setIfInBounds_toArray, List.set_cons_succ, List.set_cons_zero]
    refine wpOrd_yield (v := .int .i64 cn) rfl (fun u _ => by go_simp) ?_
    simp only [Act.put, List.setIfInBounds_toArray, List.set_cons_succ, List.set_cons_zero]
    refine wpOrd_yield (v := .int .i64 cn) rfl (fun u _ => by go_simp) ?_
    simp only [Act.put, List.setIfInBounds_toArray, List.set_cons_succ, List.set_cons_zero]
    refine wpOrd_yield (v := .bool true) rfl (fun u _ => by go_simp) ?_
    simp only [Act.put, List.setIfInBounds_toArray, List.set_cons_succ, List.set_cons_zero]
    refine wpOrd_yield (v := .bool true) rfl (fun u _ => by go_simp) ?_
    simp only [Act.put, List.setIfInBounds_toArray, List.set_cons_succ, List.set_cons_zero]
    refine wpOrd_yield (v := .bool true) rfl (fun u _ => by go_simp) ?_
    simp only [Act.put, List.setIfInBounds_toArray, List.set_cons_succ, List.set_cons_zero]
    refine wpOrd_yield (v := .pointer (some ⟨d, 0, none⟩)) rfl (fun u _ => by go_simp) ?_
    simp only [Act.put, List.setIfInBounds_toArray, List.set_cons_succ, List.set_cons_zero]
    refine wpOrd_yield (v := .int .i64 cn) rfl (fun u _ => by go_simp) ?_
    simp only [Act.put, List.setIfInBounds_toArray, List.set_cons_succ, List.set_cons_zero]
    refine wpOrd_yield (v := .pointer (some ⟨g, 0, none⟩)) rfl (fun u _ => by go_simp) ?_
    simp only [Act.put, List.setIfInBounds_toArray, List.set_cons_succ, List.set_cons_zero]
    refine wpOrd_yield (v := .int .i64 cn) rfl (fun u _ => by go_simp) ?_
    simp only [Act.put, List.setIfInBounds_toArray, List.set_cons_succ, List.set_cons_zero]
    refine wpOrd_call rfl 15 _ _ rfl Tryz.call15 [.pointer (some ⟨d, 0, none⟩), .int .i64 cn] rfl ?_
    refine (HX2.out.claimed2 cn).mono ?_
    rintro e X3 ⟨rfl, rfl⟩
    refine ⟨_, rfl, g2, ?_⟩
    simp only [Act.put, List.setIfInBounds_toArray, List.set_cons_succ, List.set_cons_zero]
    refine wpOrd_call rfl 16 _ _ rfl Tryz.call16 [.pointer (some ⟨g, 0, none⟩), .int .i64 cn] rfl ?_
    refine (HX2.out.rclaimed2 cn).mono ?_
    rintro e X4 ⟨rfl, rfl⟩
    refine ⟨_, rfl, g2, ?_⟩
    generalize claimedV s3 cn = cb at *
    simp only [Act.put, List.setIfInBounds_toArray, List.set_cons_succ, List.set_cons_zero]
    refine wpOrd_yield (v := .bool true) rfl (fun u _ => by go_simp) ?_
    simp only [Act.put, List.setIfInBounds_toArray, List.set_cons_succ, List.set_cons_zero]
    refine wpOrd_yield (v := .bool true) rfl (fun u _ => by go_simp) ?_
    simp only [Act.put, List.setIfInBounds_toArray, List.set_cons_succ, List.set_cons_zero]
    refine wpOrd_yield (v := .bool true) rfl (fun u _ => by go_simp) ?_
    simp only [Act.put, List.setIfInBounds_toArray, List.set_cons_succ, List.set_cons_zero]
    refine wpOrd_nil ?_
    clear g2
    have hph := HX2.out.phist (by have := HX2.out.cap.ops; omega)
    go_wp2_with (go_at_call 18; fail)
    refine hph.mono ?_
    rintro e Y1 ⟨p1, c1, rfl, ho1, hb1⟩
    have HO1 := Hid.mk' ho1
    have HY1 := Hid.mk' (HX2.out.later hb1)
    have hrh := HY1.out.rhist (by have := HX2.out.cap.ops; omega)
    clear hph ho1 hb1 HX2
    go_wp2_with (go_at_call 19; fail)
    refine hrh.mono ?_
    rintro e Y2 ⟨p2, c2, rfl, ho2, hb2⟩
    have hso := sameOps_any s3.ops s3.ops p1 p2 c1 c2 Y2 (by have := HY1.out.cap.ops; omega) (by have := HY1.out.cap.ops; omega) (HO1.out.later hb2) ho2
    rw [recsB_self] at hso
    have HY2 := Hid.mk' (HY1.out.later hb2)
    clear hrh ho2 hb2 HO1 HY1
    generalize hol : s3.ops.length = ol at *
    go_wp2_with (go_at_call 17; fail)
    refine hso.mono ?_
    rintro e Y3 ⟨rfl, hb3⟩
    have HY3 := Hid.mk' (HY2.out.later hb3)
    have hpi := HY3.out.pimage
    clear hso hb3 HY2
    go_wp2_with (go_at_call 21; fail)
    refine hpi.mono ?_
    rintro e Y4 ⟨p4, c4, rfl, hi4, hb4⟩
    have HI4 := Hid.mk' hi4
    have HY4 := Hid.mk' (HY3.out.later hb4)
    have hri := HY4.out.rimage
    clear hpi hi4 hb4 HY3
    go_wp2_with (go_at_call 22; fail)
    refine hri.mono ?_
    rintro e Y5 ⟨p5, c5, rfl, hi5, hb5⟩
    have HY5 := Hid.mk' (HY4.out.later hb5)
    have hcn : ∀ c ∈ t9.held, Can c.2 := fun c hc => (HY5.out.sim.sound c hc).1
    have hsi := sameImage_any s3.n s3.n t9.held t9.held p4 p5 c4 c5 Y5 (by have := HY5.out.held; omega) (by have := HY5.out.held; omega) (HI4.out.later hb5) hi5
    rw [beq_self_eq_true, Bool.true_and, (celsB_iff hcn hcn).2 rfl] at hsi
    clear hri hi5 hb5 HI4 HY4 hcn
    generalize t9.held.length = hl9 at *
    go_wp2_with (go_at_call 20; fail)
    refine hsi.mono ?_
    rintro e Y6 ⟨rfl, hb6⟩
    have HY6 := Hid.mk' (HY5.out.later hb6)
    have hps := both_stopped HY6.out.both
    have hrs := both_rstopped2 HY6.out
    clear hsi hb6 HY5
    generalize s3.stopped = sb at hps hrs
    go_wp2_with (go_at_call 23; fail)
    refine hps.mono ?_
    rintro e Y7 ⟨rfl, rfl⟩
    clear hps
    go_wp2_with (go_at_call 24; fail)
    refine hrs.mono ?_
    rintro e Y8 ⟨rfl, rfl⟩
    clear hrs
    go_upto_region 15 with fail
    have HX := Hid.mk' (HY6.out.later (drew_below Y8))
    have g8 := heap_kept A2.out HX.out.both.below
    clear HY6
    refine wp_region_ord (S := fun u => u.heap[w.heap.size + 1]? = some (.cells #[.int .i64 gb, .int .i64 gl, .int .i64 gi] 26)) [(0, true), (1, true), (2, true), (3, true), (4, true), (5, true), (6, true), (8, true), (9, true), (7, false), (10, false), (11, true), (12, true), (13, true), (14, true), (16, true), (15, false), (17, false), (18, true), (19, true), (20, true), (21, true), (22, false), (23, true), (24, true), (25, true), (26, true), (28, true), (27, false), (29, false), (30, true), (31, true), (32, true)]
      (by kernel_rfl) rfl (by kernel_rfl) (fun d _ _ _ _ h => by cases d <;> exact h) g8 ?_
    simp only [inOrd, List.getElem?_cons_zero, List.getElem?_cons_succ]
    generalize Y8.drew = X at *
    refine wpOrd_yield (v := .bool true) rfl (fun u _ => by go_simp) ?_
    simp only [Act.put, List.setIfInBounds_toArray, List.set_cons_succ, List.set_cons_zero]
    refine wpOrd_yield (v := .bool true) rfl (fun u _ => by go_simp) ?_
    simp only [Act.put, List.setIfInBounds_toArray, List.set_cons_succ, List.set_cons_zero]
    refine wpOrd_yield (v := .bool true) rfl (fun u _ => by go_simp) ?_
    simp only [Act.put, List.setIfInBounds_toArray, List.set_cons_succ, List.set_cons_zero]
    refine wpOrd_yield (v := .bool true) rfl (fun u _ => by go_simp) ?_
    simp only [Act.put, List.setIfInBounds_toArray, List.set_cons_succ, List.set_cons_zero]
    refine wpOrd_yield (v := .bool true) rfl (fun u _ => by go_simp) ?_
    simp only [Act.put, List.setIfInBounds_toArray, List.set_cons_succ, List.set_cons_zero]
    refine wpOrd_yield (v := .pointer (some ⟨d, 0, none⟩)) rfl (fun u _ => by go_simp) ?_
    simp only [Act.put, List.setIfInBounds_toArray, List.set_cons_succ, List.set_cons_zero]
    refine wpOrd_yield (v := .agg #[.int .i64 gb, .int .i64 gl, .int .i64 gi]) rfl (fun u hu => exec_ldGe rfl rfl hu HGi.out) ?_
    simp only [Act.put, List.setIfInBounds_toArray, List.set_cons_succ, List.set_cons_zero]
    refine wpOrd_yield (v := .pointer (some ⟨g, 0, none⟩)) rfl (fun u _ => by go_simp) ?_
    simp only [Act.put, List.setIfInBounds_toArray, List.set_cons_succ, List.set_cons_zero]
    refine wpOrd_yield (v := .agg #[.int .i64 gb, .int .i64 gl, .int .i64 gi]) rfl (fun u hu => exec_ldGe rfl rfl hu HGi.out) ?_
    simp only [Act.put, List.setIfInBounds_toArray, List.set_cons_succ, List.set_cons_zero]
    refine wpOrd_call rfl 13 _ _ rfl Tryz.call13 [.pointer (some ⟨d, 0, none⟩), .agg #[.int .i64 gb, .int .i64 gl, .int .i64 gi]] rfl ?_
    refine (HX.out.pmake gb gl gi hgb (cap_wide HX.out.cap (by omega)).1 (cap_wide HX.out.cap (by omega)).2.1).mono ?_
    rintro e Z1 ⟨rfl, x1⟩
    have g1 := heap_kept A2.out x1.both.below
    refine ⟨_, rfl, g1, ?_⟩
    simp only [Act.put, List.setIfInBounds_toArray, List.set_cons_succ, List.set_cons_zero]
    refine wpOrd_call rfl 14 _ _ rfl Tryz.call14 [.pointer (some ⟨g, 0, none⟩), .agg #[.int .i64 gb, .int .i64 gl, .int .i64 gi]] rfl ?_
    refine (rmake_ok gb gl gi x1 (by omega)).mono ?_
    rintro e Z2 ⟨rfl, tz, x2⟩
    have g2 := heap_kept A2.out x2.both.below
    have HX2 := Hid.mk' x2
    refine ⟨_, rfl, g2, ?_⟩
    clear HX g8 x1 g1 x2
    generalize mkE gb gl gi s3 = E2 at *
    generalize mkV gb gl gi s3 = s4 at *
    simp only [Act.put, List.setIfInBounds_toArray, List.set_cons_succ, List.set_cons_zero]
    refine wpOrd_yield (v := .bool true) rfl (fun u _ => by go_simp) ?_
    simp only [Act.put, List.setIfInBounds_toArray, List.set_cons_succ, List.set_cons_zero]
    refine wpOrd_yield (v := .bool true) rfl (fun u _ => by go_simp) ?_
    simp only [Act.put, List.setIfInBounds_toArray, List.set_cons_succ, List.set_cons_zero]
    refine wpOrd_yield (v := .bool true) rfl (fun u _ => by go_simp) ?_
    simp only [Act.put, List.setIfInBounds_toArray, List.set_cons_succ, List.set_cons_zero]
    refine wpOrd_yield (v := .pointer (some ⟨d, 0, none⟩)) rfl (fun u _ => by go_simp) ?_
    simp only [Act.put, List.setIfInBounds_toArray, List.set_cons_succ, List.set_cons_zero]
    refine wpOrd_yield (v := .pointer (some ⟨g, 0, none⟩)) rfl (fun u _ => by go_simp) ?_
    simp only [Act.put, List.setIfInBounds_toArray, List.set_cons_succ, List.set_cons_zero]
    refine wpOrd_call rfl 25 _ _ rfl Tryz.call25 [.pointer (some ⟨d, 0, none⟩)] rfl ?_
    refine (both_made HX2.out.both).mono ?_
    rintro e Z3 ⟨rfl, rfl⟩
    refine ⟨_, rfl, g2, ?_⟩
    simp only [Act.put, List.setIfInBounds_toArray, List.set_cons_succ, List.set_cons_zero]
    refine wpOrd_call rfl 26 _ _ rfl Tryz.call26 [.pointer (some ⟨g, 0, none⟩)] rfl ?_
    refine HX2.out.rmade2.mono ?_
    rintro e Z4 ⟨rfl, rfl⟩
    refine ⟨_, rfl, g2, ?_⟩
    generalize s4.made = sm at *
    simp only [Act.put, List.setIfInBounds_toArray, List.set_cons_succ, List.set_cons_zero]
    refine wpOrd_yield (v := .bool true) rfl (fun u _ => by go_simp) ?_
    simp only [Act.put, List.setIfInBounds_toArray, List.set_cons_succ, List.set_cons_zero]
    refine wpOrd_yield (v := .bool true) rfl (fun u _ => by go_simp) ?_
    simp only [Act.put, List.setIfInBounds_toArray, List.set_cons_succ, List.set_cons_zero]
    refine wpOrd_yield (v := .bool true) rfl (fun u _ => by go_simp) ?_
    simp only [Act.put, List.setIfInBounds_toArray, List.set_cons_succ, List.set_cons_zero]
    refine wpOrd_yield (v := .agg #[.int .i64 gb, .int .i64 gl, .int .i64 gi]) rfl (fun u hu => exec_ldGe rfl rfl hu HGi.out) ?_
    simp only [Act.put, List.setIfInBounds_toArray, List.set_cons_succ, List.set_cons_zero]
    refine wpOrd_call rfl 13 _ _ rfl Tryz.call13 [.pointer none, .agg #[.int .i64 gb, .int .i64 gl, .int .i64 gi]] rfl ?_
    refine (make_none (.inl rfl) gb gl gi).mono ?_
    rintro e Z5 ⟨rfl, hb5⟩
    have HX5 := Hid.mk' (HX2.out.later hb5)
    have g5 := heap_kept A2.out HX5.out.both.below
    refine ⟨_, rfl, g5, ?_⟩
    clear g2 hb5 HX2
    simp only [Act.put, List.setIfInBounds_toArray, List.set_cons_succ, List.set_cons_zero]
    refine wpOrd_yield (v := .bool true) rfl (fun u _ => by go_simp) ?_
    simp only [Act.put, List.setIfInBounds_toArray, List.set_cons_succ, List.set_cons_zero]
    refine wpOrd_yield (v := .bool true) rfl (fun u _ => by go_simp) ?_
    simp only [Act.put, List.setIfInBounds_toArray, List.set_cons_succ, List.set_cons_zero]
    refine wpOrd_yield (v := .bool true) rfl (fun u _ => by go_simp) ?_
    simp only [Act.put, List.setIfInBounds_toArray, List.set_cons_succ, List.set_cons_zero]
    have HDn := Hid.mk' diZ_none
    have zd := zeroDi
    generalize diZ = DZ at *
    refine wpOrd_yield (v := .agg DZ) rfl (fun u _ => exec_buildD zd rfl) ?_
    simp only [Act.put, List.setIfInBounds_toArray, List.set_cons_succ, List.set_cons_zero]
    refine wpOrd_yield (v := .agg #[.int .i64 gb, .int .i64 gl, .int .i64 gi]) rfl (fun u hu => exec_ldGe rfl rfl hu HGi.out) ?_
    simp only [Act.put, List.setIfInBounds_toArray, List.set_cons_succ, List.set_cons_zero]
    have HX6 := Hid.mk' (HX5.out.later (below_new Z5 (.cells DZ 49)))
    have g6 := heap_kept A2.out HX6.out.both.below
    have hmn := make_none (.inr ⟨Z5.heap.size, rfl, (Joins.cell_of_block (heap_alloc_new Z5 (.cells DZ 49)) 0).trans HDn.out⟩) gb gl gi
    refine wpOrd_val (W' := Z5.alloc (.cells DZ 49)) (v := .pointer (some ⟨Z5.heap.size, 0, none⟩)) rfl (exec_boxD rfl rfl) g6 ?_
    clear HX5 g5 HDn zd
    generalize Z5.alloc (.cells DZ 49) = Z6 at *
    generalize Z5.heap.size = dz at *
    simp only [Act.put, List.setIfInBounds_toArray, List.set_cons_succ, List.set_cons_zero]
    refine wpOrd_call rfl 13 _ _ rfl Tryz.call13 [.pointer (some ⟨dz, 0, none⟩), .agg #[.int .i64 gb, .int .i64 gl, .int .i64 gi]] rfl ?_
    refine hmn.mono ?_
    rintro e Z7 ⟨rfl, hb7⟩
    have HX7 := Hid.mk' (HX6.out.later hb7)
    have g7 := heap_kept A2.out HX7.out.both.below
    refine ⟨_, rfl, g7, ?_⟩
    have HB := Hid.mk' (below_next A3.out HX7.out.both.below)
    clear g6 hb7 HX6 HX7 g7 hmn
    simp only [Act.put, List.setIfInBounds_toArray, List.set_cons_succ, List.set_cons_zero]
    refine wpOrd_yield (v := .bool true) rfl (fun u _ => by go_simp) ?_
    simp only [Act.put, List.setIfInBounds_toArray, List.set_cons_succ, List.set_cons_zero]
    refine wpOrd_yield (v := .bool true) rfl (fun u _ => by go_simp) ?_
    simp only [Act.put, List.setIfInBounds_toArray, List.set_cons_succ, List.set_cons_zero]
    refine wpOrd_yield (v := .bool true) rfl (fun u _ => by go_simp) ?_
    simp only [Act.put, List.setIfInBounds_toArray, List.set_cons_succ, List.set_cons_zero]
    refine wpOrd_nil ?_
    go_wp2
    go_ret
    exact ⟨rfl, HB.out⟩
end Go.Proofs.YtlcdpmjdnihocaaGreatD
