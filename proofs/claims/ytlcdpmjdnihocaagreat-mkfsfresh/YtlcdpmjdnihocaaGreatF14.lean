/- Several texts joined, each with its own remark; no condition. -/
import Derived.Test.YtlcdpmjdnihocaaGreatF13
import Derived.Deep.Cut
import Derived.Deep.CutRange
import Derived.Test.YtlcdpmjdnihocaaGreatF3
import Derived.Test.YtlcdpmjdnihocaaGreatF4
import Derived.Test.YtlcdpmjdnihocaaGreatF2
/- Mkfs by the program: whether a file system may be made on a disk; for every disk and geometry. -/
namespace Go.Proofs.YtlcdpmjdnihocaaGreatD
open Go.RowKit
variable {P : World → Loc → Prop} {W : World} {d : Nat} {s : St}
theorem layIn (b l i : Int) : (Tryz.prog.info? 52).map (·.size) = some (YtlcdpmjdnihocaaGreatP.lay9 b l i 1 (1 + l) (YtlcdpmjdnihocaaGreatP.nodeB i) (YtlcdpmjdnihocaaGreatP.bitsAt l i) (YtlcdpmjdnihocaaGreatP.bitsB b) (YtlcdpmjdnihocaaGreatP.dataAt b l i)).size := by kernel_rfl
theorem lay9_size (b l i a c d e f g : Int) : (Tryz.prog.info? 52).map (·.size) = some (YtlcdpmjdnihocaaGreatP.lay9 b l i a c d e f g).size := by kernel_rfl
theorem lay9_one (b l i a c d e f g : Int) : (YtlcdpmjdnihocaaGreatP.lay9 b l i a c d e f g).all (·.oneCell') = true := by simp [YtlcdpmjdnihocaaGreatP.lay9, Value.oneCell']
theorem zeroLy : ∀ w, (zeroValue 52).run Tryz.prog w = .ok (.agg (YtlcdpmjdnihocaaGreatP.lay9 0 0 0 0 0 0 0 0 0)) w := (zero_of_info (show (Tryz.prog.info? 52).map (fun i => (i.zero, i.size)) = some (some (.agg (YtlcdpmjdnihocaaGreatP.lay9 0 0 0 0 0 0 0 0 0)), 9) by kernel_rfl)).1
theorem buildLy (u : World) : (Instr.build 52 #[]).run Tryz.prog u = .ok (.agg (YtlcdpmjdnihocaaGreatP.lay9 0 0 0 0 0 0 0 0 0)) u := by
  have z := zeroLy u
  generalize YtlcdpmjdnihocaaGreatP.lay9 0 0 0 0 0 0 0 0 0 = L at *
  simp [go_sem, z]
/-- What is beside the disk while ready goes: its own two rows. -/
structure RyS (P : World → Loc → Prop) (W0 W : World) (d : Nat) (s : St) (b l i : Int) (Z : Array Value) : Prop where
  has : Has P W d s
  geo : W.heap[W0.heap.size]? = some (.cells #[.int .i64 b, .int .i64 l, .int .i64 i] 26)
  res : W.heap[W0.heap.size + 1]? = some (.cells Z 52)
  bel : Below W0.heap.size W0 W
theorem RyS.later (hP : Stays P) {W0 W' : World} {b l i : Int} {Z : Array Value} (h : RyS P W0 W d s b l i Z) (hb : Below W.heap.size W W') : RyS P W0 W' d s b l i Z := ⟨h.has.later hP hb, heap_kept h.geo hb, heap_kept h.res hb, below_next h.bel hb⟩
theorem RyS.set (hP : Stays P) {W0 : World} {b l i : Int} {Z : Array Value} (hH : Has P W0 d s) (h : RyS P W0 W d s b l i Z) (cs : Array Value) : Has P (W.setRow (W0.heap.size + 1) cs) d s := hH.later hP (below_setRow h.bel (by omega) _)
set_option maxRecDepth 20000 in
set_option maxHeartbeats 4000000 in
theorem ready_ok (hP : Stays P) (h : Has P W d s) (b l i : Int) (hb : YtlcdpmjdnihocaaGreatP.I64 b) :
    Calls Tryz.prog 38 #[.pointer (some ⟨d, 0, none⟩), YtlcdpmjdnihocaaGreatP.geoV b l i] W fun e W' => e = .returned (.tuple #[if rdyE b l i s = 0 then YtlcdpmjdnihocaaGreatP.layV b l i else YtlcdpmjdnihocaaGreatP.layZ, .int .i64 (rdyE b l i s)]) ∧ Has P W' d s := by
  have hOf := fun u => YtlcdpmjdnihocaaGreatP.of_any b l i u hb
  have hn1 := h.ok.n
  have zl := zeroLy
  have zb := buildLy
  have HH : Hid (Has P W d s) := h
  have HLn : Hid (∀ V, Has P V d s → Calls Tryz.prog 57 #[.pointer (some ⟨d, 0, none⟩)] V fun e W' => e = .returned (.int .i64 s.n) ∧ W' = V) := fun V hV => has_len hV
  have HSt : Hid (∀ V, Has P V d s → Calls Tryz.prog 23 #[.pointer (some ⟨d, 0, none⟩)] V fun e W' => e = .returned (.bool s.stopped) ∧ W' = V) := fun V hV => has_stopped hV
  have HRd : Hid (rdyE b l i s = if YtlcdpmjdnihocaaGreatP.ofE b l i ≠ 0 ∨ b > s.n then 2 else if s.stopped then 3 else 0) := rfl
  have HOE : Hid (YtlcdpmjdnihocaaGreatP.ofE b l i = if YtlcdpmjdnihocaaGreatP.Fine b l i then 0 else 2) := rfl
  have HOV : Hid (YtlcdpmjdnihocaaGreatP.ofV b l i = if YtlcdpmjdnihocaaGreatP.Fine b l i then YtlcdpmjdnihocaaGreatP.layV b l i else YtlcdpmjdnihocaaGreatP.layZ) := rfl
  unfold YtlcdpmjdnihocaaGreatP.geoV at *
  unfold YtlcdpmjdnihocaaGreatP.layZ YtlcdpmjdnihocaaGreatP.layV at *
  have HLI : Hid _ := layIn b l i
  have HL0 : Hid _ := lay9_size 0 0 0 0 0 0 0 0 0
  have HL1 : Hid _ := lay9_one 0 0 0 0 0 0 0 0 0
  have HL3 : Hid _ := lay9_one b l i 1 (1 + l) (YtlcdpmjdnihocaaGreatP.nodeB i) (YtlcdpmjdnihocaaGreatP.bitsAt l i) (YtlcdpmjdnihocaaGreatP.bitsB b) (YtlcdpmjdnihocaaGreatP.dataAt b l i)
  have HL2 : Hid ((YtlcdpmjdnihocaaGreatP.lay9 0 0 0 0 0 0 0 0 0).size = (YtlcdpmjdnihocaaGreatP.lay9 b l i 1 (1 + l) (YtlcdpmjdnihocaaGreatP.nodeB i) (YtlcdpmjdnihocaaGreatP.bitsAt l i) (YtlcdpmjdnihocaaGreatP.bitsB b) (YtlcdpmjdnihocaaGreatP.dataAt b l i)).size) := rfl
  have hS0 : RyS P W ((W.alloc (.cells #[.int .i64 b, .int .i64 l, .int .i64 i] 26)).alloc (.cells (YtlcdpmjdnihocaaGreatP.lay9 0 0 0 0 0 0 0 0 0) 52)) d s b l i (YtlcdpmjdnihocaaGreatP.lay9 0 0 0 0 0 0 0 0 0) := by
    have hbb : Below W.heap.size W ((W.alloc (.cells #[.int .i64 b, .int .i64 l, .int .i64 i] 26)).alloc (.cells (YtlcdpmjdnihocaaGreatP.lay9 0 0 0 0 0 0 0 0 0) 52)) := below_next (below_new _ _) (below_new _ _)
    exact ⟨h.later hP hbb, heap_kept (heap_alloc_new _ _) (below_new _ _), YtlcdpmjdnihocaaGreat.heap_two _ _ _, hbb⟩
  generalize YtlcdpmjdnihocaaGreatP.lay9 b l i 1 (1 + l) (YtlcdpmjdnihocaaGreatP.nodeB i) (YtlcdpmjdnihocaaGreatP.bitsAt l i) (YtlcdpmjdnihocaaGreatP.bitsB b) (YtlcdpmjdnihocaaGreatP.dataAt b l i) = Y at *
  generalize YtlcdpmjdnihocaaGreatP.lay9 0 0 0 0 0 0 0 0 0 = Z at *
  generalize YtlcdpmjdnihocaaGreatP.ofV b l i = ov at *
  generalize YtlcdpmjdnihocaaGreatP.ofE b l i = oe at *
  obtain ⟨A, hA⟩ : ∃ A, A = (W.alloc (.cells #[.int .i64 b, .int .i64 l, .int .i64 i] 26)).alloc (.cells Z 52) := ⟨_, rfl⟩
  rw [← hA] at hS0
  have HA : Hid (A = _) := hA
  have HS0 : Hid _ := hS0
  have HGi : Hid ((Tryz.prog.info? 26).map (·.size) = some (#[Value.int .i64 b, .int .i64 l, .int .i64 i] : Array Value).size) := by show _ = _; kernel_rfl
  clear hA hS0 h
  generalize hsn : s.n = n at *
  have hn0 : (n == 0) = false := by simp; omega
  by_cases hF : YtlcdpmjdnihocaaGreatP.Fine b l i
  · have hoe : oe = 0 := by rw [HOE.out, if_pos hF]
    have hov : ov = .agg Y := by rw [HOV.out, if_pos hF]
    subst hoe hov
    clear HOE HOV hF
    by_cases hbn : b > n
    · have HE : Hid (rdyE b l i s = 2) := by show _ = _; rw [HRd.out, if_pos (.inr hbn)]
      clear HRd
      rw [HE.out]
      have hgt : decide (n < b) = true := decide_eq_true hbn
      have HVi : Hid _ := HLI.out
      have HVs : Hid _ := HL2.out
      have HVo : Hid _ := HL3.out
      go_enter Tryz.func38, Tryz.ntmps38
      go_upto_region 1 with fail
      rw [← HA.out]
      clear HA
      go_wp2_with (go_at_call 57; fail)
      refine (HLn.out _ HS0.out.has).mono ?_
      rintro e V ⟨rfl, he⟩
      obtain rfl := he.symm
      clear he
      have HS1 : Hid _ := HS0.out
      clear HS0
      go_wp2_with (first | (with_reducible refine YtlcdpmjdnihocaaGreat.isLoadR 26 ?_; refine YtlcdpmjdnihocaaGreat.wpList_ldR 26 Tryz.underlying26 rfl rfl _ rfl W.heap.size rfl #[.int .i64 b, .int .i64 l, .int .i64 i] 26 (0, 0) HGi.out HS1.out.geo ?_) | (go_at_call 58; fail))
      refine (hOf _).mono ?_
      rintro e V1 ⟨rfl, hb1⟩
      have HS2 : Hid _ := HS1.out.later hP (below_next hb1 (below_new V1 (.cells Y 52)))
      have HV2 : Hid ((V1.alloc (.cells Y 52)).heap[V1.heap.size]? = some (.cells Y 52)) := heap_alloc_new _ _
      clear HS1 hb1 hOf
      go_upto_region 4 with (first | (with_reducible refine YtlcdpmjdnihocaaGreat.isStoreR 52 ?_; refine YtlcdpmjdnihocaaGreat.wpList_stNew 52 rfl _ _ rfl V1.heap.size Y Z 52 HVi.out HVs.out HVo.out rfl rfl rfl ?_))
      generalize V1.alloc (.cells Y 52) = V2 at *
      generalize V1.heap.size = gl at *
      have HS3 : Hid (RyS P W V2.drew d s b l i Z) := HS2.out.later hP (Below.refl _ _).drew
      have HV3 : Hid (V2.drew.heap[gl]? = some (.cells Y 52)) := HV2.out
      clear HS2 HV2
      refine wp_region_ord (S := fun u => u.cell? ⟨W.heap.size, 0, none⟩ = some (.int .i64 b)) [(0, true), (1, true), (2, true), (3, true), (4, true), (5, true), (6, false), (7, true), (8, true), (9, true)] (by kernel_rfl) rfl (by kernel_rfl) (fun d _ _ _ _ h => by cases d <;> exact h) (Joins.cell_of_block HS3.out.geo 0) ?_
      simp only [inOrd, List.getElem?_cons_zero, List.getElem?_cons_succ]
      generalize V2.drew = U at *
      refine wpOrd_yield (v := .int .i64 0) rfl (fun u _ => by go_simp) ?_
      simp only [Act.put, List.setIfInBounds_toArray, List.set_cons_succ, List.set_cons_zero]
      refine wpOrd_yield (v := .bool false) rfl (fun u _ => by go_simp) ?_
      simp only [Act.put, List.setIfInBounds_toArray, List.set_cons_succ, List.set_cons_zero]
      refine wpOrd_yield (v := .bool false) rfl (fun u _ => by go_simp) ?_
      simp only [Act.put, List.setIfInBounds_toArray, List.set_cons_succ, List.set_cons_zero]
      refine wpOrd_yield (v := .pointer (some ⟨W.heap.size, 0, none⟩)) rfl (fun u _ => by go_simp) ?_
      simp only [Act.put, List.setIfInBounds_toArray, List.set_cons_succ, List.set_cons_zero]
      refine wpOrd_yield (v := .int .i64 b) rfl (fun u hu => by go_simp) ?_
      simp only [Act.put, List.setIfInBounds_toArray, List.set_cons_succ, List.set_cons_zero]
      refine wpOrd_yield (v := .pointer (some ⟨d, 0, none⟩)) rfl (fun u _ => by go_simp) ?_
      simp only [Act.put, List.setIfInBounds_toArray, List.set_cons_succ, List.set_cons_zero]
      refine wpOrd_call rfl 57 _ _ rfl Tryz.call57 [.pointer (some ⟨d, 0, none⟩)] rfl ?_
      refine (HLn.out U HS3.out.has).mono ?_
      rintro e U2 ⟨rfl, he⟩
      obtain rfl := he.symm
      clear he
      refine ⟨_, rfl, Joins.cell_of_block HS3.out.geo 0, ?_⟩
      simp only [Act.put, List.setIfInBounds_toArray, List.set_cons_succ, List.set_cons_zero]
      refine wpOrd_yield (v := .bool true) rfl (fun u _ => by go_simp) ?_
      simp only [Act.put, List.setIfInBounds_toArray, List.set_cons_succ, List.set_cons_zero]
      refine wpOrd_yield (v := .bool true) rfl (fun u _ => by go_simp) ?_
      simp only [Act.put, List.setIfInBounds_toArray, List.set_cons_succ, List.set_cons_zero]
      refine wpOrd_yield (v := .bool true) rfl (fun u _ => by go_simp) ?_
      simp only [Act.put, List.setIfInBounds_toArray, List.set_cons_succ, List.set_cons_zero]
      refine wpOrd_nil ?_
      go_wp2_with (first | (with_reducible refine YtlcdpmjdnihocaaGreat.isStoreR 52 ?_; refine YtlcdpmjdnihocaaGreat.wpList_stR 52 rfl _ _ rfl (W.heap.size + 1) Z Z 52 HL0.out rfl HL1.out rfl rfl HS3.out.res ?_))
      exact YtlcdpmjdnihocaaGreat.retCT Tryz.underlying52 rfl rfl (W.heap.size + 1) Z 52 HL0.out rfl (setRow_heap _ _ _ _ _ _ HS3.out.res) rfl ⟨rfl, HS3.out.set hP HH.out _⟩
    · have hgt : decide (n < b) = false := decide_eq_false hbn
      cases hst : s.stopped
      · have HE : Hid (rdyE b l i s = 0) := by show _ = _; rw [HRd.out, if_neg (by rintro (q | q); exact q rfl; exact hbn q), hst]; rfl
        clear HRd
        rw [HE.out]
        rw [hst] at HSt
        have HVi : Hid _ := HLI.out
        have HVs : Hid _ := HL2.out
        have HVo : Hid _ := HL3.out
        go_enter Tryz.func38, Tryz.ntmps38
        go_upto_region 1 with fail
        rw [← HA.out]
        clear HA
        go_wp2_with (go_at_call 57; fail)
        refine (HLn.out _ HS0.out.has).mono ?_
        rintro e V ⟨rfl, he⟩
        obtain rfl := he.symm
        clear he
        have HS1 : Hid _ := HS0.out
        clear HS0
        go_wp2_with (first | (with_reducible refine YtlcdpmjdnihocaaGreat.isLoadR 26 ?_; refine YtlcdpmjdnihocaaGreat.wpList_ldR 26 Tryz.underlying26 rfl rfl _ rfl W.heap.size rfl #[.int .i64 b, .int .i64 l, .int .i64 i] 26 (0, 0) HGi.out HS1.out.geo ?_) | (go_at_call 58; fail))
        refine (hOf _).mono ?_
        rintro e V1 ⟨rfl, hb1⟩
        have HS2 : Hid _ := HS1.out.later hP (below_next hb1 (below_new V1 (.cells Y 52)))
        have HV2 : Hid ((V1.alloc (.cells Y 52)).heap[V1.heap.size]? = some (.cells Y 52)) := heap_alloc_new _ _
        clear HS1 hb1 hOf
        go_upto_region 4 with (first | (with_reducible refine YtlcdpmjdnihocaaGreat.isStoreR 52 ?_; refine YtlcdpmjdnihocaaGreat.wpList_stNew 52 rfl _ _ rfl V1.heap.size Y Z 52 HVi.out HVs.out HVo.out rfl rfl rfl ?_))
        generalize V1.alloc (.cells Y 52) = V2 at *
        generalize V1.heap.size = gl at *
        have HS3 : Hid (RyS P W V2.drew d s b l i Z) := HS2.out.later hP (Below.refl _ _).drew
        have HV3 : Hid (V2.drew.heap[gl]? = some (.cells Y 52)) := HV2.out
        clear HS2 HV2
        refine wp_region_ord (S := fun u => u.cell? ⟨W.heap.size, 0, none⟩ = some (.int .i64 b)) [(0, true), (1, true), (2, true), (3, true), (4, true), (5, true), (6, false), (7, true), (8, true), (9, true)] (by kernel_rfl) rfl (by kernel_rfl) (fun d _ _ _ _ h => by cases d <;> exact h) (Joins.cell_of_block HS3.out.geo 0) ?_
        simp only [inOrd, List.getElem?_cons_zero, List.getElem?_cons_succ]
        generalize V2.drew = U at *
        refine wpOrd_yield (v := .int .i64 0) rfl (fun u _ => by go_simp) ?_
        simp only [Act.put, List.setIfInBounds_toArray, List.set_cons_succ, List.set_cons_zero]
        refine wpOrd_yield (v := .bool false) rfl (fun u _ => by go_simp) ?_
        simp only [Act.put, List.setIfInBounds_toArray, List.set_cons_succ, List.set_cons_zero]
        refine wpOrd_yield (v := .bool false) rfl (fun u _ => by go_simp) ?_
        simp only [Act.put, List.setIfInBounds_toArray, List.set_cons_succ, List.set_cons_zero]
        refine wpOrd_yield (v := .pointer (some ⟨W.heap.size, 0, none⟩)) rfl (fun u _ => by go_simp) ?_
        simp only [Act.put, List.setIfInBounds_toArray, List.set_cons_succ, List.set_cons_zero]
        refine wpOrd_yield (v := .int .i64 b) rfl (fun u hu => by go_simp) ?_
        simp only [Act.put, List.setIfInBounds_toArray, List.set_cons_succ, List.set_cons_zero]
        refine wpOrd_yield (v := .pointer (some ⟨d, 0, none⟩)) rfl (fun u _ => by go_simp) ?_
        simp only [Act.put, List.setIfInBounds_toArray, List.set_cons_succ, List.set_cons_zero]
        refine wpOrd_call rfl 57 _ _ rfl Tryz.call57 [.pointer (some ⟨d, 0, none⟩)] rfl ?_
        refine (HLn.out U HS3.out.has).mono ?_
        rintro e U2 ⟨rfl, he⟩
        obtain rfl := he.symm
        clear he
        refine ⟨_, rfl, Joins.cell_of_block HS3.out.geo 0, ?_⟩
        simp only [Act.put, List.setIfInBounds_toArray, List.set_cons_succ, List.set_cons_zero]
        refine wpOrd_yield (v := .bool false) rfl (fun u _ => by go_simp) ?_
        simp only [Act.put, List.setIfInBounds_toArray, List.set_cons_succ, List.set_cons_zero]
        refine wpOrd_yield (v := .bool false) rfl (fun u _ => by go_simp) ?_
        simp only [Act.put, List.setIfInBounds_toArray, List.set_cons_succ, List.set_cons_zero]
        refine wpOrd_yield (v := .bool false) rfl (fun u _ => by go_simp) ?_
        simp only [Act.put, List.setIfInBounds_toArray, List.set_cons_succ, List.set_cons_zero]
        refine wpOrd_nil ?_
        go_upto_region 6 with fail
        go_wp2_with (go_at_call 23; fail)
        refine (HSt.out _ HS3.out.has).mono ?_
        rintro e V ⟨rfl, he⟩
        obtain rfl := he.symm
        clear he
        go_wp2_with (first | (with_reducible refine YtlcdpmjdnihocaaGreat.isLoadR 52 ?_; refine YtlcdpmjdnihocaaGreat.wpList_ldR 52 Tryz.underlying52 rfl rfl _ rfl gl rfl Y 52 (0, 0) HVi.out HV3.out ?_) | (with_reducible refine YtlcdpmjdnihocaaGreat.isStoreR 52 ?_; refine YtlcdpmjdnihocaaGreat.wpList_stR 52 rfl _ _ rfl (W.heap.size + 1) Y Z 52 HVi.out HVs.out HVo.out rfl rfl HS3.out.res ?_))
        exact YtlcdpmjdnihocaaGreat.retCT Tryz.underlying52 rfl rfl (W.heap.size + 1) Y 52 HVi.out rfl (setRow_heap _ _ _ _ _ _ HS3.out.res) rfl ⟨rfl, HS3.out.set hP HH.out _⟩
      · have HE : Hid (rdyE b l i s = 3) := by show _ = _; rw [HRd.out, if_neg (by rintro (q | q); exact q rfl; exact hbn q), hst]; rfl
        clear HRd
        rw [HE.out]
        rw [hst] at HSt
        have HVi : Hid _ := HLI.out
        have HVs : Hid _ := HL2.out
        have HVo : Hid _ := HL3.out
        go_enter Tryz.func38, Tryz.ntmps38
        go_upto_region 1 with fail
        rw [← HA.out]
        clear HA
        go_wp2_with (go_at_call 57; fail)
        refine (HLn.out _ HS0.out.has).mono ?_
        rintro e V ⟨rfl, he⟩
        obtain rfl := he.symm
        clear he
        have HS1 : Hid _ := HS0.out
        clear HS0
        go_wp2_with (first | (with_reducible refine YtlcdpmjdnihocaaGreat.isLoadR 26 ?_; refine YtlcdpmjdnihocaaGreat.wpList_ldR 26 Tryz.underlying26 rfl rfl _ rfl W.heap.size rfl #[.int .i64 b, .int .i64 l, .int .i64 i] 26 (0, 0) HGi.out HS1.out.geo ?_) | (go_at_call 58; fail))
        refine (hOf _).mono ?_
        rintro e V1 ⟨rfl, hb1⟩
        have HS2 : Hid _ := HS1.out.later hP (below_next hb1 (below_new V1 (.cells Y 52)))
        have HV2 : Hid ((V1.alloc (.cells Y 52)).heap[V1.heap.size]? = some (.cells Y 52)) := heap_alloc_new _ _
        clear HS1 hb1 hOf
        go_upto_region 4 with (first | (with_reducible refine YtlcdpmjdnihocaaGreat.isStoreR 52 ?_; refine YtlcdpmjdnihocaaGreat.wpList_stNew 52 rfl _ _ rfl V1.heap.size Y Z 52 HVi.out HVs.out HVo.out rfl rfl rfl ?_))
        generalize V1.alloc (.cells Y 52) = V2 at *
        generalize V1.heap.size = gl at *
        have HS3 : Hid (RyS P W V2.drew d s b l i Z) := HS2.out.later hP (Below.refl _ _).drew
        have HV3 : Hid (V2.drew.heap[gl]? = some (.cells Y 52)) := HV2.out
        clear HS2 HV2
        refine wp_region_ord (S := fun u => u.cell? ⟨W.heap.size, 0, none⟩ = some (.int .i64 b)) [(0, true), (1, true), (2, true), (3, true), (4, true), (5, true), (6, false), (7, true), (8, true), (9, true)] (by kernel_rfl) rfl (by kernel_rfl) (fun d _ _ _ _ h => by cases d <;> exact h) (Joins.cell_of_block HS3.out.geo 0) ?_
        simp only [inOrd, List.getElem?_cons_zero, List.getElem?_cons_succ]
        generalize V2.drew = U at *
        refine wpOrd_yield (v := .int .i64 0) rfl (fun u _ => by go_simp) ?_
        simp only [Act.put, List.setIfInBounds_toArray, List.set_cons_succ, List.set_cons_zero]
        refine wpOrd_yield (v := .bool false) rfl (fun u _ => by go_simp) ?_
        simp only [Act.put, List.setIfInBounds_toArray, List.set_cons_succ, List.set_cons_zero]
        refine wpOrd_yield (v := .bool false) rfl (fun u _ => by go_simp) ?_
        simp only [Act.put, List.setIfInBounds_toArray, List.set_cons_succ, List.set_cons_zero]
        refine wpOrd_yield (v := .pointer (some ⟨W.heap.size, 0, none⟩)) rfl (fun u _ => by go_simp) ?_
        simp only [Act.put, List.setIfInBounds_toArray, List.set_cons_succ, List.set_cons_zero]
        refine wpOrd_yield (v := .int .i64 b) rfl (fun u hu => by go_simp) ?_
        simp only [Act.put, List.setIfInBounds_toArray, List.set_cons_succ, List.set_cons_zero]
        refine wpOrd_yield (v := .pointer (some ⟨d, 0, none⟩)) rfl (fun u _ => by go_simp) ?_
        simp only [Act.put, List.setIfInBounds_toArray, List.set_cons_succ, List.set_cons_zero]
        refine wpOrd_call rfl 57 _ _ rfl Tryz.call57 [.pointer (some ⟨d, 0, none⟩)] rfl ?_
        refine (HLn.out U HS3.out.has).mono ?_
        rintro e U2 ⟨rfl, he⟩
        obtain rfl := he.symm
        clear he
        refine ⟨_, rfl, Joins.cell_of_block HS3.out.geo 0, ?_⟩
        simp only [Act.put, List.setIfInBounds_toArray, List.set_cons_succ, List.set_cons_zero]
        refine wpOrd_yield (v := .bool false) rfl (fun u _ => by go_simp) ?_
        simp only [Act.put, List.setIfInBounds_toArray, List.set_cons_succ, List.set_cons_zero]
        refine wpOrd_yield (v := .bool false) rfl (fun u _ => by go_simp) ?_
        simp only [Act.put, List.setIfInBounds_toArray, List.set_cons_succ, List.set_cons_zero]
        refine wpOrd_yield (v := .bool false) rfl (fun u _ => by go_simp) ?_
        simp only [Act.put, List.setIfInBounds_toArray, List.set_cons_succ, List.set_cons_zero]
        refine wpOrd_nil ?_
        go_upto_region 6 with fail
        go_wp2_with (go_at_call 23; fail)
        refine (HSt.out _ HS3.out.has).mono ?_
        rintro e V ⟨rfl, he⟩
        obtain rfl := he.symm
        clear he
        go_wp2_with (first | (with_reducible refine YtlcdpmjdnihocaaGreat.isStoreR 52 ?_; refine YtlcdpmjdnihocaaGreat.wpList_stR 52 rfl _ _ rfl (W.heap.size + 1) Z Z 52 HL0.out rfl HL1.out rfl rfl HS3.out.res ?_))
        exact YtlcdpmjdnihocaaGreat.retCT Tryz.underlying52 rfl rfl (W.heap.size + 1) Z 52 HL0.out rfl (setRow_heap _ _ _ _ _ _ HS3.out.res) rfl ⟨rfl, HS3.out.set hP HH.out _⟩
  · have hoe : oe = 2 := by rw [HOE.out, if_neg hF]
    have hov : ov = .agg Z := by rw [HOV.out, if_neg hF]
    have HE : Hid (rdyE b l i s = 2) := by show _ = _; rw [HRd.out, hoe, if_pos (.inl (by decide))]
    subst hoe hov
    clear HOE HOV HRd hF
    rw [HE.out]
    have HVi : Hid _ := HL0.out
    have HVo : Hid _ := HL1.out
    obtain ⟨VR, hVR⟩ : ∃ VR, VR = Z := ⟨_, rfl⟩
    rw [← hVR] at hOf HVi HVo
    have HVs : Hid (Z.size = VR.size) := by rw [hVR]; exact (rfl : Z.size = Z.size)
    clear hVR
    go_enter Tryz.func38, Tryz.ntmps38
    go_upto_region 1 with fail
    rw [← HA.out]
    clear HA
    go_wp2_with (go_at_call 57; fail)
    refine (HLn.out _ HS0.out.has).mono ?_
    rintro e V ⟨rfl, he⟩
    obtain rfl := he.symm
    clear he
    have HS1 : Hid _ := HS0.out
    clear HS0
    go_wp2_with (first | (with_reducible refine YtlcdpmjdnihocaaGreat.isLoadR 26 ?_; refine YtlcdpmjdnihocaaGreat.wpList_ldR 26 Tryz.underlying26 rfl rfl _ rfl W.heap.size rfl #[.int .i64 b, .int .i64 l, .int .i64 i] 26 (0, 0) HGi.out HS1.out.geo ?_) | (go_at_call 58; fail))
    refine (hOf _).mono ?_
    rintro e V1 ⟨rfl, hb1⟩
    have HS2 : Hid _ := HS1.out.later hP (below_next hb1 (below_new V1 (.cells VR 52)))
    have HV2 : Hid ((V1.alloc (.cells VR 52)).heap[V1.heap.size]? = some (.cells VR 52)) := heap_alloc_new _ _
    clear HS1 hb1 hOf
    go_upto_region 4 with (first | (with_reducible refine YtlcdpmjdnihocaaGreat.isStoreR 52 ?_; refine YtlcdpmjdnihocaaGreat.wpList_stNew 52 rfl _ _ rfl V1.heap.size VR Z 52 HVi.out HVs.out HVo.out rfl rfl rfl ?_))
    generalize V1.alloc (.cells VR 52) = V2 at *
    generalize V1.heap.size = gl at *
    have HS3 : Hid (RyS P W V2.drew d s b l i Z) := HS2.out.later hP (Below.refl _ _).drew
    have HV3 : Hid (V2.drew.heap[gl]? = some (.cells VR 52)) := HV2.out
    clear HS2 HV2
    refine wp_region_ord (S := fun u => u.cell? ⟨W.heap.size, 0, none⟩ = some (.int .i64 b)) [(0, true), (1, true), (2, true), (3, true), (4, true), (5, true), (6, false), (7, true), (8, true), (9, true)] (by kernel_rfl) rfl (by kernel_rfl) (fun d _ _ _ _ h => by cases d <;> exact h) (Joins.cell_of_block HS3.out.geo 0) ?_
    simp only [inOrd, List.getElem?_cons_zero, List.getElem?_cons_succ]
    generalize V2.drew = U at *
    refine wpOrd_yield (v := .int .i64 2) rfl (fun u _ => by go_simp) ?_
    simp only [Act.put, List.setIfInBounds_toArray, List.set_cons_succ, List.set_cons_zero]
    refine wpOrd_yield (v := .bool true) rfl (fun u _ => by go_simp) ?_
    simp only [Act.put, List.setIfInBounds_toArray, List.set_cons_succ, List.set_cons_zero]
    refine wpOrd_yield (v := .bool true) rfl (fun u _ => by go_simp) ?_
    simp only [Act.put, List.setIfInBounds_toArray, List.set_cons_succ, List.set_cons_zero]
    refine wpOrd_skip (Joins.cell_of_block HS3.out.geo 0) rfl ?_
    simp only [Act.put, List.setIfInBounds_toArray, List.set_cons_succ, List.set_cons_zero]
    refine wpOrd_skip (Joins.cell_of_block HS3.out.geo 0) rfl ?_
    simp only [Act.put, List.setIfInBounds_toArray, List.set_cons_succ, List.set_cons_zero]
    refine wpOrd_skip (Joins.cell_of_block HS3.out.geo 0) rfl ?_
    simp only [Act.put, List.setIfInBounds_toArray, List.set_cons_succ, List.set_cons_zero]
    refine wpOrd_skip (Joins.cell_of_block HS3.out.geo 0) rfl ?_
    simp only [Act.put, List.setIfInBounds_toArray, List.set_cons_succ, List.set_cons_zero]
    refine wpOrd_skip (Joins.cell_of_block HS3.out.geo 0) rfl ?_
    simp only [Act.put, List.setIfInBounds_toArray, List.set_cons_succ, List.set_cons_zero]
    refine wpOrd_yield (v := .bool true) rfl (fun u _ => by go_simp) ?_
    simp only [Act.put, List.setIfInBounds_toArray, List.set_cons_succ, List.set_cons_zero]
    refine wpOrd_yield (v := .bool true) rfl (fun u _ => by go_simp) ?_
    simp only [Act.put, List.setIfInBounds_toArray, List.set_cons_succ, List.set_cons_zero]
    refine wpOrd_nil ?_
    go_wp2_with (first | (with_reducible refine YtlcdpmjdnihocaaGreat.isStoreR 52 ?_; refine YtlcdpmjdnihocaaGreat.wpList_stR 52 rfl _ _ rfl (W.heap.size + 1) Z Z 52 HL0.out rfl HL1.out rfl rfl HS3.out.res ?_))
    exact YtlcdpmjdnihocaaGreat.retCT Tryz.underlying52 rfl rfl (W.heap.size + 1) Z 52 HL0.out rfl (setRow_heap _ _ _ _ _ _ HS3.out.res) rfl ⟨rfl, HS3.out.set hP HH.out _⟩
end Go.Proofs.YtlcdpmjdnihocaaGreatD
/- Mkfs by the program: its three parts; the blocks are blocks of bytes; for every layout that may be. -/
namespace Go.Proofs.YtlcdpmjdnihocaaGreatD
open Go.RowKit
/-- Bytes. -/
def ByF (f : Nat → Int) : Prop := ∀ i, 0 ≤ f i ∧ f i ≤ 255
theorem by_nought : ByF YtlcdpmjdnihocaaGreat.nought := fun _ => by unfold YtlcdpmjdnihocaaGreat.nought; omega
theorem by_over {F E : Nat → Int} (hF : ByF F) (hE : ByF E) (o n : Nat) : ByF (YtlcdpmjdnihocaaGreatN.over F o n E) := fun i => by
  unfold YtlcdpmjdnihocaaGreatN.over
  split
  · exact hE _
  · exact hF _
theorem by_putN : ∀ (n : Nat) {f : Nat → Int} (k : Nat) (v : Int), ByF f → ByF (YtlcdpmjdnihocaaGreatK.putN f k v n)
  | 0, f, k, v, h => h
  | n + 1, f, k, v, h => by
    unfold YtlcdpmjdnihocaaGreatK.putN
    refine by_putN n (k + 1) (v / 256) fun i => ?_
    unfold YtlcdpmjdnihocaaGreatK.upd
    split
    · omega
    · exact h i
theorem by_encN (k l s b : Int) (d : Nat → Int) : ∀ m : Nat, ByF (YtlcdpmjdnihocaaGreatK.encN k l s b d m)
  | 0 => by
    unfold YtlcdpmjdnihocaaGreatK.encN
    refine by_putN _ _ _ (by_putN _ _ _ (by_putN _ _ _ (by_putN _ _ _ fun i => ?_)))
    unfold YtlcdpmjdnihocaaGreatK.nought
    omega
  | m + 1 => by
    unfold YtlcdpmjdnihocaaGreatK.encN
    exact by_putN _ _ _ (by_encN k l s b d m)
theorem by_enc (s : ByteArray) : ByF (YtlcdpmjdnihocaaGreat.encF 1 s) := by
  unfold YtlcdpmjdnihocaaGreat.encF
  split
  · intro j
    unfold YtlcdpmjdnihocaaGreat.encP
    split
    · omega
    · split
      · omega
      · exact YtlcdpmjdnihocaaGreat.byt_bd _ _
  · exact by_nought
theorem can_nd (g : Int) (rt : Bool) : Can (YtlcdpmjdnihocaaGreat.ndF g rt) := by
  cases rt
  · exact ⟨by_nought, fun _ _ => rfl⟩
  · refine ⟨by_over by_nought (by_encN _ _ _ _ _ _) _ _, fun i hi => ?_⟩
    show YtlcdpmjdnihocaaGreatN.over YtlcdpmjdnihocaaGreat.nought 64 64 _ i = 0
    unfold YtlcdpmjdnihocaaGreatN.over
    rw [if_neg (by omega)]
    rfl
theorem can_sl : Can YtlcdpmjdnihocaaGreat.slF := by
  refine ⟨by_over (by_over by_nought (by_enc _) _ _) (by_enc _) _ _, fun i hi => ?_⟩
  show YtlcdpmjdnihocaaGreatN.over (YtlcdpmjdnihocaaGreatN.over YtlcdpmjdnihocaaGreat.nought 0 16 _) 16 16 _ i = 0
  unfold YtlcdpmjdnihocaaGreatN.over
  rw [if_neg (by omega), if_neg (by omega)]
  rfl
theorem can_bt (n : Nat) (hn : n ≤ 8192) : Can (YtlcdpmjdnihocaaGreat.btF n) := by
  refine ⟨fun j => ?_, fun j hj => ?_⟩
  · unfold YtlcdpmjdnihocaaGreat.btF
    split
    · omega
    · split
      · omega
      · have := YtlcdpmjdnihocaaGreat.pow8 (n - 8 * j) (by omega)
        omega
  · unfold YtlcdpmjdnihocaaGreat.btF
    rw [if_neg (by omega), if_pos (by omega)]
theorem can_co (b l i k : Int) : Can (YtlcdpmjdnihocaaGreat.coF b l i k) := by
  unfold YtlcdpmjdnihocaaGreat.coF
  split
  · exact can_nd _ _
  · split
    · exact can_bt _ (by omega)
    · exact can_sl
theorem can_super (b l i : Int) : Can (YtlcdpmjdnihocaaGreatP.superF b l i) := by
  refine ⟨fun j => YtlcdpmjdnihocaaGreatP.supF_byte _ j, fun j hj => ?_⟩
  unfold YtlcdpmjdnihocaaGreatP.superF YtlcdpmjdnihocaaGreatP.supF
  rw [if_neg (by omega), if_neg (by omega)]
theorem head_nil : blk (YtlcdpmjdnihocaaGreatH.H.headF []) = blk nought := blk_congr fun j hj => by
  show YtlcdpmjdnihocaaGreatH.H.wordF [((0 : Nat) : Int)] j = 0
  unfold YtlcdpmjdnihocaaGreatH.H.wordF
  rcases (show j / 4 = 0 ∨ 1 ≤ j / 4 by omega) with h | h
  · rw [h]; simp
  · rw [List.getD_eq_getElem?_getD, List.getElem?_eq_none (by simpa using h)]; simp
theorem headEnc_ok {b l i : Int} (hf : YtlcdpmjdnihocaaGreatP.Fine b l i) (w : World) :
    Calls Tryz.prog 60 #[YtlcdpmjdnihocaaGreatP.layV b l i, .agg #[.slice none 0 0]] w fun e w' => e = .returned (.tuple #[.agg (blk nought), .int .i64 0]) ∧ Below w.heap.size w w' := by
  obtain ⟨b1, b2, b3, b4, _⟩ := YtlcdpmjdnihocaaGreat.fine_bd hf
  have h := YtlcdpmjdnihocaaGreatH.H.enc_ok b l i 1 (1 + l) (YtlcdpmjdnihocaaGreatP.nodeB i) (YtlcdpmjdnihocaaGreatP.bitsAt l i) (YtlcdpmjdnihocaaGreatP.bitsB b) (YtlcdpmjdnihocaaGreatP.dataAt b l i) [] none 0 w (by unfold YtlcdpmjdnihocaaGreatH.H.I64; omega) (decide_eq_true ⟨hf, rfl, rfl, rfl, rfl, rfl, rfl⟩) ⟨b3, b4⟩ (fun q => by simp at q) (fun x hx => by simp at hx) (by simp) (decide_eq_true ⟨by simp; omega, fun t ht => by simp at ht, List.Pairwise.nil⟩)
  rw [show YtlcdpmjdnihocaaGreatH.blk (YtlcdpmjdnihocaaGreatH.H.headF []) = blk nought from head_nil] at h
  exact h
theorem superEnc_ok {b l i : Int} (hf : YtlcdpmjdnihocaaGreatP.Fine b l i) (w : World) :
    Calls Tryz.prog 62 #[YtlcdpmjdnihocaaGreatP.layV b l i] w fun e w' => e = .returned (.tuple #[.agg (blk (YtlcdpmjdnihocaaGreatP.superF b l i)), .int .i64 0]) ∧ Below w.heap.size w w' := YtlcdpmjdnihocaaGreatP.encode_fine b l i w hf
theorem contentD_ok {b l i k : Int} (hf : YtlcdpmjdnihocaaGreatP.Fine b l i) (hk : 1 + l ≤ k ∧ k ≤ YtlcdpmjdnihocaaGreatP.dataAt b l i) (w : World) :
    Calls Tryz.prog 61 #[YtlcdpmjdnihocaaGreatP.layV b l i, .int .i64 k] w fun e w' => e = .returned (.agg (blk (YtlcdpmjdnihocaaGreat.coF b l i k))) ∧ Below w.heap.size w w' := YtlcdpmjdnihocaaGreat.content_ok b l i k hf hk w
variable {P : World → Loc → Prop} {W : World} {d : Nat} {s : St}
theorem zeroBk : ∀ w, (zeroValue 79).run Tryz.prog w = .ok (.agg (blk nought)) w := YtlcdpmjdnihocaaGreat.zero77
theorem buildBk (u : World) : (Instr.build 79 #[]).run Tryz.prog u = .ok (.agg (blk nought)) u := by
  have z := zeroBk u
  generalize blk nought = B at *
  simp [go_sem, z]
set_option maxRecDepth 20000 in
set_option maxHeartbeats 1000000 in
theorem erase_ok (hP : Stays P) (h : Has P W d s) (hr : Room s) (b l i : Int) :
    Calls Tryz.prog 39 #[.pointer (some ⟨d, 0, none⟩), YtlcdpmjdnihocaaGreatP.layV b l i] W fun e W' => e = .returned (.int .i64 (runL s mkA).2) ∧ Has P W' d (runL s mkA).1 := by
  have hb := buildBk
  have hwr := has_write hP (h.later hP (below_new W (.cells (YtlcdpmjdnihocaaGreatP.lay9 b l i 1 (1 + l) (YtlcdpmjdnihocaaGreatP.nodeB i) (YtlcdpmjdnihocaaGreatP.bitsAt l i) (YtlcdpmjdnihocaaGreatP.bitsB b) (YtlcdpmjdnihocaaGreatP.dataAt b l i)) 52))) hr 0 can_nought
  have hE : (runL s mkA) = (writeV s 0 nought, writeE s 0) := by
    unfold mkA
    rw [runL_cons]
    show (if writeE s 0 = 0 then (writeV s 0 nought, 0) else (writeV s 0 nought, writeE s 0)) = _
    split
    · rename_i q; rw [q]
    · rfl
  rw [hE]
  clear hE
  unfold YtlcdpmjdnihocaaGreatP.layV
  generalize YtlcdpmjdnihocaaGreatP.lay9 b l i 1 (1 + l) (YtlcdpmjdnihocaaGreatP.nodeB i) (YtlcdpmjdnihocaaGreatP.bitsAt l i) (YtlcdpmjdnihocaaGreatP.bitsB b) (YtlcdpmjdnihocaaGreatP.dataAt b l i) = L at *
  generalize nought = N at *
  clear h
  go_enter Tryz.func39, Tryz.ntmps39
  go_wp2_with (first | refine wpList_build58w rfl rfl hb ?_ | (go_at_call 59; fail))
  refine hwr.mono ?_
  rintro e W1 ⟨rfl, h1⟩
  go_wp2
  go_ret
  exact ⟨rfl, h1⟩
set_option maxRecDepth 20000 in
set_option maxHeartbeats 2000000 in
theorem sign_ok (hP : Stays P) (h : Has P W d s) (hr : Room s) {b l i : Int} (hf : YtlcdpmjdnihocaaGreatP.Fine b l i) :
    Calls Tryz.prog 41 #[.pointer (some ⟨d, 0, none⟩), YtlcdpmjdnihocaaGreatP.layV b l i] W fun e W' => e = .returned (.int .i64 (runL s (mkC b l i)).2) ∧ Has P W' d (runL s (mkC b l i)).1 := by
  have hen := fun u => superEnc_ok hf u
  have hcs := can_super b l i
  have hE : runL s (mkC b l i) = (writeV s 0 (YtlcdpmjdnihocaaGreatP.superF b l i), writeE s 0) := by
    unfold mkC
    rw [runL_cons]
    show (if writeE s 0 = 0 then (writeV s 0 (YtlcdpmjdnihocaaGreatP.superF b l i), 0) else (writeV s 0 (YtlcdpmjdnihocaaGreatP.superF b l i), writeE s 0)) = _
    split
    · rename_i q; rw [q]
    · rfl
  rw [hE]
  clear hE
  have hz := zeroBk
  have HI : Hid _ := layIn b l i
  unfold YtlcdpmjdnihocaaGreatP.layV at *
  generalize YtlcdpmjdnihocaaGreatP.lay9 b l i 1 (1 + l) (YtlcdpmjdnihocaaGreatP.nodeB i) (YtlcdpmjdnihocaaGreatP.bitsAt l i) (YtlcdpmjdnihocaaGreatP.bitsB b) (YtlcdpmjdnihocaaGreatP.dataAt b l i) = L at *
  generalize YtlcdpmjdnihocaaGreatP.superF b l i = F at *
  have HP : Hid (∀ V, Has P V d s → Calls Tryz.prog 59 #[.pointer (some ⟨d, 0, none⟩), .int .i64 0, .agg (blk F)] V fun e W' => e = .returned (.int .i64 (writeE s 0)) ∧ Has P W' d (writeV s 0 F)) := fun V hV => has_write hP hV hr 0 hcs
  have HH : Hid (Has P (W.alloc (.cells L 52)) d s) := h.later hP (below_new _ _)
  have HL : Hid ((W.alloc (.cells L 52)).heap[W.heap.size]? = some (.cells L 52)) := heap_alloc_new _ _
  clear h
  go_enter Tryz.func41, Tryz.ntmps41
  go_upto_region 1 with fail
  generalize W.alloc (.cells L 52) = V at *
  go_wp2_with (first | (with_reducible refine YtlcdpmjdnihocaaGreat.isLoadR 52 ?_; refine YtlcdpmjdnihocaaGreat.wpList_ldR 52 Tryz.underlying52 rfl rfl _ rfl W.heap.size rfl L 52 (0, 0) HI.out HL.out ?_) | (go_at_call 62; fail))
  refine (hen _).mono ?_
  rintro e V1 ⟨rfl, hb⟩
  have HH1 : Hid (Has P (V1.alloc (.cells (blk F) 79)) d s) := (HH.out.later hP hb).later hP (below_new _ _)
  have HB : Hid ((V1.alloc (.cells (blk F) 79)).heap[V1.heap.size]? = some (.cells (blk F) 79)) := heap_alloc_new _ _
  clear HH hb hen
  go_upto_region 2 with (first | refine wpList_store58_new rfl _ _ rfl F _ V1.heap.size rfl rfl rfl ?_)
  generalize V1.alloc (.cells (blk F) 79) = V2 at *
  generalize V1.heap.size = gb at *
  go_wp2_with (first | refine wpList_load58w rfl _ rfl gb rfl F HB.out ?_ | (go_at_call 59; fail))
  refine (HP.out _ HH1.out).mono ?_
  rintro e W1 ⟨rfl, h1⟩
  go_wp2
  go_ret
  exact ⟨rfl, h1⟩
theorem buildHd (u : World) : (Instr.build 104 #[]).run Tryz.prog u = .ok (.agg #[.slice none 0 0]) u := by
  have z : ∀ w, (zeroValue 104).run Tryz.prog w = .ok (.agg #[.slice none 0 0]) w := (zero_of_info (show (Tryz.prog.info? 104).map (fun i => (i.zero, i.size)) = some (some (.agg #[.slice none 0 0]), 1) by kernel_rfl)).1
  simp [go_sem, z]
/-- Blocks stay beside a disk that stays apart from them. -/
def Keep2 (P : World → Loc → Prop) (g : Nat) (o : Obj) (W : World) (L : Loc) : Prop := P W L ∧ W.heap[g]? = some o ∧ ¬ L.has g
theorem keep2_stays {P : World → Loc → Prop} (hP : Stays P) (g : Nat) (o : Obj) : Stays (Keep2 P g o) := fun W W' L L' hlt ⟨h1, h2, h3⟩ hG => by
  have hg : g < W.heap.size := (Array.getElem?_eq_some_iff.1 h2).1
  refine ⟨hP W W' L L' hlt h1 hG, (hG.fr.block g hg h3).trans h2, fun q => ?_⟩
  rcases hG.own g q with r | r
  · exact h3 r
  · omega
theorem Has.keep2 {P : World → Loc → Prop} {W : World} {d : Nat} {s : St} (hP : Stays P) (h : Has P W d s) (o : Obj) : Has (Keep2 P W.heap.size o) (W.alloc o) d s := by
  obtain ⟨L, hd, hD, hp⟩ := h
  exact ⟨L, hd, hD.later (below_new W o), hP _ _ L L hD.lt hp (Goes.ofBelow L (below_new W o)), heap_alloc_new _ _, fun q => by have := hD.lt _ q; omega⟩
theorem Has.unkeep2 {P : World → Loc → Prop} {W : World} {d g : Nat} {s : St} {o : Obj} (h : Has (Keep2 P g o) W d s) : Has P W d s ∧ W.heap[g]? = some o := by
  obtain ⟨L, hd, hD, h1, h2, _⟩ := h
  exact ⟨⟨L, hd, hD, h1⟩, h2⟩
set_option maxRecDepth 20000 in
set_option maxHeartbeats 4000000 in
theorem fill_ok (hP : Stays P) (h : Has P W d s) {b l i : Int} (hf : YtlcdpmjdnihocaaGreatP.Fine b l i) (hw : Wide s (mkN b l i + 2)) :
    Calls Tryz.prog 40 #[.pointer (some ⟨d, 0, none⟩), YtlcdpmjdnihocaaGreatP.layV b l i] W fun e W' => e = .returned (.int .i64 (runL s (mkB b l i)).2) ∧ Has P W' d (runL s (mkB b l i)).1 := by
  have hen := fun u => headEnc_ok hf u
  have hco : ∀ k : Nat, k < mkN b l i → ∀ u, Calls Tryz.prog 61 #[YtlcdpmjdnihocaaGreatP.layV b l i, .int .i64 (1 + l + (k : Int))] u fun e w' => e = .returned (.agg (blk (YtlcdpmjdnihocaaGreat.coF b l i (1 + l + (k : Int))))) ∧ Below u.heap.size u w' := fun k hk u => contentD_ok hf (by unfold mkN at hk; obtain ⟨b1, b2, b3, b4, b5, b6, b7, b8⟩ := YtlcdpmjdnihocaaGreat.fine_bd hf; omega) u
  have HF : Hid (35 ≤ b ∧ b ≤ 1048576 ∧ 32 ≤ l ∧ l ≤ 256 ∧ (mkN b l i : Int) = YtlcdpmjdnihocaaGreatP.dataAt b l i - l ∧ YtlcdpmjdnihocaaGreatP.dataAt b l i < b) := by
    obtain ⟨b1, b2, b3, b4, b5, b6, b7, b8⟩ := YtlcdpmjdnihocaaGreat.fine_bd hf
    show _ ∧ _
    unfold mkN
    omega
  have HR : Hid (∀ j, j < mkN b l i → mkR b l i j = some (1 + l + (j : Int), YtlcdpmjdnihocaaGreat.coF b l i (1 + l + (j : Int))) :: mkR b l i (j + 1)) := fun j hj => mkR_step b l i j hj
  have HRe : Hid (mkR b l i (mkN b l i) = []) := mkR_end b l i
  have HB0 : Hid (runL s (mkB b l i) = if writeE s 1 = 0 then runL (writeV s 1 nought) (mkR b l i 0) else (writeV s 1 nought, writeE s 1)) := by
    show _ = _
    unfold mkB
    exact runL_cons _ _ _
  have HCn : Hid (∀ k : Int, Can (YtlcdpmjdnihocaaGreat.coF b l i k)) := can_co b l i
  have HCz : Hid (Can nought) := can_nought
  have hbh := buildHd
  have HI : Hid _ := layIn b l i
  have l3 : (YtlcdpmjdnihocaaGreatP.lay9 b l i 1 (1 + l) (YtlcdpmjdnihocaaGreatP.nodeB i) (YtlcdpmjdnihocaaGreatP.bitsAt l i) (YtlcdpmjdnihocaaGreatP.bitsB b) (YtlcdpmjdnihocaaGreatP.dataAt b l i))[3]? = some (.int .i64 1) := rfl
  have l4 : (YtlcdpmjdnihocaaGreatP.lay9 b l i 1 (1 + l) (YtlcdpmjdnihocaaGreatP.nodeB i) (YtlcdpmjdnihocaaGreatP.bitsAt l i) (YtlcdpmjdnihocaaGreatP.bitsB b) (YtlcdpmjdnihocaaGreatP.dataAt b l i))[4]? = some (.int .i64 (1 + l)) := rfl
  have l8 : (YtlcdpmjdnihocaaGreatP.lay9 b l i 1 (1 + l) (YtlcdpmjdnihocaaGreatP.nodeB i) (YtlcdpmjdnihocaaGreatP.bitsAt l i) (YtlcdpmjdnihocaaGreatP.bitsB b) (YtlcdpmjdnihocaaGreatP.dataAt b l i))[8]? = some (.int .i64 (YtlcdpmjdnihocaaGreatP.dataAt b l i)) := rfl
  have HL3 : Hid _ := l3
  have HL4 : Hid _ := l4
  have HL8 : Hid _ := l8
  clear l3 l4 l8
  unfold YtlcdpmjdnihocaaGreatP.layV at *
  generalize YtlcdpmjdnihocaaGreatP.lay9 b l i 1 (1 + l) (YtlcdpmjdnihocaaGreatP.nodeB i) (YtlcdpmjdnihocaaGreatP.bitsAt l i) (YtlcdpmjdnihocaaGreatP.bitsB b) (YtlcdpmjdnihocaaGreatP.dataAt b l i) = L at *
  have HCo : Hid (∀ k : Nat, k < mkN b l i → ∀ u, Calls Tryz.prog 61 #[.agg L, .int .i64 (1 + l + (k : Int))] u fun e w' => e = .returned (.agg (blk (YtlcdpmjdnihocaaGreat.coF b l i (1 + l + (k : Int))))) ∧ Below u.heap.size u w') := hco
  clear hco
  obtain ⟨R, hR⟩ : ∃ R, runL s (mkB b l i) = R := ⟨_, rfl⟩
  rw [hR] at HB0 ⊢
  generalize YtlcdpmjdnihocaaGreatP.dataAt b l i = D at *
  generalize mkR b l i = mr at *
  generalize YtlcdpmjdnihocaaGreat.coF b l i = cf at *
  generalize mkN b l i = n at *
  have HWr : Hid (∀ (Q : World → Loc → Prop), Stays Q → ∀ (t : St) (V : World) (k : Int) (f : Nat → Int), Room t → Can f → Has Q V d t → Calls Tryz.prog 59 #[.pointer (some ⟨d, 0, none⟩), .int .i64 k, .agg (blk f)] V fun e W' => e = .returned (.int .i64 (writeE t k)) ∧ Has Q W' d (writeV t k f)) := fun Q hQ t V k f hr hc hV => has_write hQ hV hr k hc
  have HK : Hid (Has (Keep2 P W.heap.size (.cells L 52)) (W.alloc (.cells L 52)) d s) := h.keep2 hP _
  have hKs := keep2_stays hP W.heap.size (.cells L 52)
  have HKs : Hid _ := hKs
  have HU : Hid (∀ V t, Has (Keep2 P W.heap.size (.cells L 52)) V d t → Has P V d t) := fun V t q => q.unkeep2.1
  have HUl : Hid (∀ V t, Has (Keep2 P W.heap.size (.cells L 52)) V d t → V.heap[W.heap.size]? = some (.cells L 52)) := fun V t q => q.unkeep2.2
  clear h hR
  generalize Keep2 P W.heap.size (.cells L 52) = KP at *
  go_enter Tryz.func40, Tryz.ntmps40
  go_upto_region 1 with fail
  generalize W.alloc (.cells L 52) = V at *
  have HLy : Hid _ := HUl.out _ _ HK.out
  have hz := zeroBk
  go_wp2_with (first | (with_reducible refine YtlcdpmjdnihocaaGreat.isLoadR 52 ?_; refine YtlcdpmjdnihocaaGreat.wpList_ldR 52 Tryz.underlying52 rfl rfl _ rfl W.heap.size rfl L 52 (0, 0) HI.out HLy.out ?_) | (go_at_call 60; fail))
  refine (hen _).mono ?_
  rintro e V1 ⟨rfl, hb⟩
  have HK1 : Hid (Has KP (V1.alloc (.cells (blk nought) 79)) d s) := (HK.out.later hKs hb).later hKs (below_new _ _)
  have HB : Hid ((V1.alloc (.cells (blk nought) 79)).heap[V1.heap.size]? = some (.cells (blk nought) 79)) := heap_alloc_new _ _
  clear HK hb hen HLy
  generalize nought = N at *
  go_upto_region 2 with (first | refine wpList_store58_new rfl _ _ rfl N _ V1.heap.size rfl rfl rfl ?_)
  generalize V1.alloc (.cells (blk N) 79) = V2 at *
  generalize V1.heap.size = gb at *
  have hLy2 := HUl.out _ _ HK1.out
  have c3 : V2.cell? ⟨W.heap.size, 3, none⟩ = some (.int .i64 1) := (cell_of_row _ _ 3 _ _ _ hLy2).trans HL3.out
  clear hLy2
  go_wp2_with (first | refine wpList_load58w rfl _ rfl gb rfl N HB.out ?_ | (go_at_call 59; fail))
  refine (HWr.out KP hKs s V2 1 N hw.room HCz.out HK1.out).mono ?_
  rintro e V3 ⟨rfl, hK3⟩
  have HK3 : Hid (Has KP V3 d (writeV s 1 N)) := hK3
  have HW3 : Hid (Wide (writeV s 1 N) (n + 1)) := Wide.doV hw (some (1, N))
  have c4 : V3.cell? ⟨W.heap.size, 4, none⟩ = some (.int .i64 (1 + l)) := (cell_of_row _ _ 4 _ _ _ (HUl.out _ _ hK3)).trans HL4.out
  clear hK3 HK1 c3 HB hw
  generalize writeV s 1 N = t0 at *
  generalize writeE s 1 = e0 at *
  go_wp2_with fail
  clear c4
  go_loopw [6, 7] (fun s6 s7 wx => ∃ (j : Nat) (t : St) (er : Int), j ≤ n ∧ s7 = .int .i64 (1 + l + (j : Int)) ∧ s6 = .int .i64 er ∧ Hid (Has KP wx d t) ∧ Hid (R = if er = 0 then runL t (mr j) else (t, er)) ∧ Hid (Wide t (n + 1 - j))) (fun _ s7 _ => (1 + l + n - intOf s7).toNat)
  case atStart => exact ⟨0, t0, e0, by omega, by simp, rfl, HK3.out, HB0.out, HW3.out⟩
  case round =>
    obtain ⟨j, t, er, hj, rfl, rfl, HT, HRt, HWt⟩ := hrel
    clear HK3 HB0 HW3
    have c8 : wr.cell? ⟨W.heap.size, 8, none⟩ = some (.int .i64 D) := (cell_of_row _ _ 8 _ _ _ (HUl.out _ _ HT.out)).trans HL8.out
    by_cases her : er = 0
    · subst her
      have hRt := HRt.out
      rw [if_pos rfl] at hRt
      by_cases hjn : j < n
      · have hd : decide (1 + l + (j : Int) ≤ D) = true := decide_eq_true (by have := HF.out; omega)
        have HR2 : Hid (R = if writeE t (1 + l + (j : Int)) = 0 then runL (writeV t (1 + l + (j : Int)) (cf (1 + l + (j : Int)))) (mr (j + 1)) else (writeV t (1 + l + (j : Int)) (cf (1 + l + (j : Int))), writeE t (1 + l + (j : Int)))) := by
          show _ = _
          rw [hRt, HR.out j hjn]
          exact runL_cons _ _ _
        have HJ : Hid (j < n ∧ n + 1 - j = (n + 1 - (j + 1)) + 1) := ⟨hjn, by omega⟩
        have HCj : Hid _ := HCo.out j hjn
        have W1 : IntKind.i64.wrap (1 + l + (j : Int) + 1) = 1 + l + ((j + 1 : Nat) : Int) := by have := HF.out; rw [IntKind.wrap_i64]; omega
        clear HRt hRt hjn hj
        go_wp2_with (first | (with_reducible refine YtlcdpmjdnihocaaGreat.isLoadR 52 ?_; refine YtlcdpmjdnihocaaGreat.wpList_ldR 52 Tryz.underlying52 rfl rfl _ rfl W.heap.size rfl L 52 (0, 0) HI.out (HUl.out _ _ HT.out) ?_) | (go_at_call 61; fail))
        refine (HCj.out _).mono ?_
        rintro e V4 ⟨rfl, hb4⟩
        have HT4 : Hid _ := HT.out.later hKs hb4
        have hWj := HWt.out
        rw [HJ.out.2] at hWj
        clear HT hb4 HCj c8
        go_wp2_with (go_at_call 59; fail)
        refine (HWr.out KP hKs t V4 (1 + l + (j : Int)) (cf (1 + l + (j : Int))) hWj.room (HCn.out _) HT4.out).mono ?_
        rintro e V5 ⟨rfl, hK5⟩
        have HK5 : Hid _ := hK5
        have HW5 : Hid (Wide (writeV t (1 + l + (j : Int)) (cf (1 + l + (j : Int)))) (n + 1 - (j + 1))) := hWj.doV (some (1 + l + (j : Int), cf (1 + l + (j : Int))))
        clear hK5 hWj HT4 HWt
        generalize writeV t (1 + l + (j : Int)) (cf (1 + l + (j : Int))) = t2 at *
        generalize writeE t (1 + l + (j : Int)) = e2 at *
        go_wp2_with fail
        exact ⟨⟨j + 1, t2, e2, by have := HJ.out; omega, rfl, rfl, HK5.out, HR2.out, HW5.out⟩, by have := HJ.out; simp [intOf]; omega⟩
      · obtain rfl : j = n := by omega
        have hd : decide (1 + l + (j : Int) ≤ D) = false := decide_eq_false (by have := HF.out; omega)
        have HRr : Hid (R = (t, 0)) := by show _ = _; rw [hRt, HRe.out]; rfl
        clear HRt hRt hjn HWt
        go_wp2_with fail
        go_ret
        exact ⟨by rw [HRr.out]; rfl, by rw [HRr.out]; exact HU.out _ _ HT.out⟩
    · have HRr : Hid (R = (t, er)) := by show _ = _; rw [HRt.out, if_neg her]
      have her2 : (er == 0) = false := by simpa using her
      clear HRt HWt her
      by_cases hd0 : 1 + l + (j : Int) ≤ D
      · have hd : decide (1 + l + (j : Int) ≤ D) = true := decide_eq_true hd0
        clear hd0
        go_wp2_with fail
        go_ret
        exact ⟨by rw [HRr.out]; rfl, by rw [HRr.out]; exact HU.out _ _ HT.out⟩
      · have hd : decide (1 + l + (j : Int) ≤ D) = false := decide_eq_false hd0
        clear hd0
        go_wp2_with fail
        go_ret
        exact ⟨by rw [HRr.out]; rfl, by rw [HRr.out]; exact HU.out _ _ HT.out⟩
end Go.Proofs.YtlcdpmjdnihocaaGreatD
/- Mkfs by the program: Make; for every disk and geometry, numbers of calls not past their greatest. -/
namespace Go.Proofs.YtlcdpmjdnihocaaGreatD
open Go.RowKit
theorem runL_part (p r : List MOp) (t : St) : runL t (p ++ none :: r) = if (runL t p).2 = 0 then (if barE (runL t p).1 = 0 then runL (barV (runL t p).1) r else (barV (runL t p).1, barE (runL t p).1)) else runL t p := by
  rw [runL_append]
  rfl
theorem Wide.bar {t : St} {k : Nat} (h : Wide t (k + 1)) : Wide (barV t) k := h.doV none
theorem mkN_le {b l i : Int} (hf : YtlcdpmjdnihocaaGreatP.Fine b l i) : mkN b l i ≤ 4300 := by
  obtain ⟨h1, h2, h3, h4, h5, h6⟩ := hf
  unfold mkN
  unfold YtlcdpmjdnihocaaGreatP.dataAt YtlcdpmjdnihocaaGreatP.bitsAt YtlcdpmjdnihocaaGreatP.nodeB YtlcdpmjdnihocaaGreatP.bitsB at *
  omega
theorem mkA_len : mkA.length = 1 := rfl
theorem mkB_len (b l i : Int) : (mkB b l i).length = mkN b l i + 1 := by unfold mkB; rw [List.length_cons, mkR_len]; rfl
theorem mkC_len (b l i : Int) : (mkC b l i).length = 1 := rfl
theorem claimV_wide {s : St} {k : Nat} (h : Wide s k) (hc : s.claims < 1000000000) : Wide (claimV s) k := by
  unfold claimV
  split
  · exact h
  · exact ⟨h.ops, h.made, h.reads, by show s.claims + 1 < _; omega⟩
def wdN (n m : Nat) : Nat := if m = 0 then n + 100 else if m = 1 then n + 98 else if m = 2 then 90 else 80
def ptV : Value := .agg #[.func (.func 39) #[] #[], .func (.func 40) #[] #[], .func (.func 41) #[] #[]]
theorem idx3a (u : World) : (Instr.index 86 ptV (.int .i64 0)).run Tryz.prog u = .ok (.func (.func 39) #[] #[]) u := by
  unfold ptV
  simp [Instr.index, run_underlying Tryz.underlying86, asIntOf, part, Tryz.isAgg85, go_sem]
theorem idx3b (u : World) : (Instr.index 86 ptV (.int .i64 1)).run Tryz.prog u = .ok (.func (.func 40) #[] #[]) u := by
  unfold ptV
  simp [Instr.index, run_underlying Tryz.underlying86, asIntOf, part, Tryz.isAgg85, go_sem]
theorem idx3c (u : World) : (Instr.index 86 ptV (.int .i64 2)).run Tryz.prog u = .ok (.func (.func 41) #[] #[]) u := by
  unfold ptV
  simp [Instr.index, run_underlying Tryz.underlying86, asIntOf, part, Tryz.isAgg85, go_sem]
variable {P : World → Loc → Prop} {W : World} {d : Nat} {s : St}
theorem rdy_fine {b l i : Int} {s : St} (h : rdyE b l i s = 0) : YtlcdpmjdnihocaaGreatP.Fine b l i := by
  unfold rdyE YtlcdpmjdnihocaaGreatP.ofE at h
  by_cases hf : YtlcdpmjdnihocaaGreatP.Fine b l i
  · exact hf
  · rw [if_neg hf] at h
    rw [if_pos (.inl (by decide))] at h
    omega
set_option maxRecDepth 20000 in
set_option maxHeartbeats 4000000 in
theorem make_ok (hP : Stays P) (h : Has P W d s) (b l i : Int) (hb : YtlcdpmjdnihocaaGreatP.I64 b) (hw : Wide s 10000) (hc : s.claims < 1000000000) :
    Calls Tryz.prog 13 #[.pointer (some ⟨d, 0, none⟩), YtlcdpmjdnihocaaGreatP.geoV b l i] W fun e W' => e = .returned (.int .i64 (mkE b l i s)) ∧ Has P W' d (mkV b l i s) := by
  have hK : Has P (W.alloc (.cells #[.int .i64 b, .int .i64 l, .int .i64 i] 26)) d s := h.later hP (below_new _ _)
  have hrd := ready_ok hP hK b l i hb
  have hG : (W.alloc (.cells #[.int .i64 b, .int .i64 l, .int .i64 i] 26)).heap[W.heap.size]? = some (.cells #[.int .i64 b, .int .i64 l, .int .i64 i] 26) := heap_alloc_new _ _
  have HGi : Hid ((Tryz.prog.info? 26).map (·.size) = some (#[Value.int .i64 b, .int .i64 l, .int .i64 i] : Array Value).size) := by show _ = _; kernel_rfl
  have HG : Hid _ := hG
  have zl := zeroLy
  have HI : Hid _ := layIn b l i
  have HZi : Hid _ := lay9_size 0 0 0 0 0 0 0 0 0
  have HZo : Hid _ := lay9_one 0 0 0 0 0 0 0 0 0
  have HLo : Hid _ := lay9_one b l i 1 (1 + l) (YtlcdpmjdnihocaaGreatP.nodeB i) (YtlcdpmjdnihocaaGreatP.bitsAt l i) (YtlcdpmjdnihocaaGreatP.bitsB b) (YtlcdpmjdnihocaaGreatP.dataAt b l i)
  have HLs : Hid ((YtlcdpmjdnihocaaGreatP.lay9 0 0 0 0 0 0 0 0 0).size = (YtlcdpmjdnihocaaGreatP.lay9 b l i 1 (1 + l) (YtlcdpmjdnihocaaGreatP.nodeB i) (YtlcdpmjdnihocaaGreatP.bitsAt l i) (YtlcdpmjdnihocaaGreatP.bitsB b) (YtlcdpmjdnihocaaGreatP.dataAt b l i)).size) := rfl
  clear hG hK
  unfold YtlcdpmjdnihocaaGreatP.geoV at *
  by_cases hr : rdyE b l i s = 0
  · have hf := rdy_fine hr
    have HE : Hid (mkE b l i s = (runL (claimV s) (mkL b l i 0)).2) := by show _ = _; unfold mkE; rw [if_pos hr]
    have HV : Hid (mkV b l i s = (runL (claimV s) (mkL b l i 0)).1) := by show _ = _; unfold mkV; rw [if_pos hr]
    rw [if_pos hr, hr] at hrd
    rw [HE.out, HV.out]
    have HWd : Hid (Wide (claimV s) (mkN b l i + 100)) := (claimV_wide hw hc).less (by have := mkN_le hf; omega)
    obtain ⟨R, hR⟩ : ∃ R, runL (claimV s) (mkL b l i 0) = R := ⟨_, rfl⟩
    rw [hR]
    have HR0 : Hid (R = runL (claimV s) (mkL b l i 0)) := hR.symm
    have HR1 : Hid (∀ t, runL t (mkL b l i 0) = if (runL t mkA).2 = 0 then (if barE (runL t mkA).1 = 0 then runL (barV (runL t mkA).1) (mkL b l i 1) else (barV (runL t mkA).1, barE (runL t mkA).1)) else runL t mkA) := fun t => runL_part mkA (mkL b l i 1) t
    have HR2 : Hid (∀ t, runL t (mkL b l i 1) = if (runL t (mkB b l i)).2 = 0 then (if barE (runL t (mkB b l i)).1 = 0 then runL (barV (runL t (mkB b l i)).1) (mkL b l i 2) else (barV (runL t (mkB b l i)).1, barE (runL t (mkB b l i)).1)) else runL t (mkB b l i)) := fun t => runL_part (mkB b l i) (mkL b l i 2) t
    have HR3 : Hid (∀ t, runL t (mkL b l i 2) = if (runL t (mkC b l i)).2 = 0 then (if barE (runL t (mkC b l i)).1 = 0 then runL (barV (runL t (mkC b l i)).1) (mkL b l i 3) else (barV (runL t (mkC b l i)).1, barE (runL t (mkC b l i)).1)) else runL t (mkC b l i)) := fun t => runL_part (mkC b l i) (mkL b l i 3) t
    have HR4 : Hid (∀ t, runL t (mkL b l i 3) = (t, 0)) := fun t => rfl
    have HA : Hid (∀ (Q : World → Loc → Prop), Stays Q → ∀ V t, Has Q V d t → Room t → Calls Tryz.prog 39 #[.pointer (some ⟨d, 0, none⟩), YtlcdpmjdnihocaaGreatP.layV b l i] V fun e W' => e = .returned (.int .i64 (runL t mkA).2) ∧ Has Q W' d (runL t mkA).1) := fun Q hQ V t hV hT => erase_ok hQ hV hT b l i
    have HB : Hid (∀ (Q : World → Loc → Prop), Stays Q → ∀ V t, Has Q V d t → Wide t (mkN b l i + 2) → Calls Tryz.prog 40 #[.pointer (some ⟨d, 0, none⟩), YtlcdpmjdnihocaaGreatP.layV b l i] V fun e W' => e = .returned (.int .i64 (runL t (mkB b l i)).2) ∧ Has Q W' d (runL t (mkB b l i)).1) := fun Q hQ V t hV hT => fill_ok hQ hV hf hT
    have HC : Hid (∀ (Q : World → Loc → Prop), Stays Q → ∀ V t, Has Q V d t → Room t → Calls Tryz.prog 41 #[.pointer (some ⟨d, 0, none⟩), YtlcdpmjdnihocaaGreatP.layV b l i] V fun e W' => e = .returned (.int .i64 (runL t (mkC b l i)).2) ∧ Has Q W' d (runL t (mkC b l i)).1) := fun Q hQ V t hV hT => sign_ok hQ hV hT hf
    have HWA : Hid (∀ t k, Wide t (k + 2) → Wide (runL t mkA).1 (k + 1)) := fun t k q => Wide.run (by rw [mkA_len]; exact q.less (by omega))
    have HWB : Hid (∀ t k, Wide t (mkN b l i + k + 2) → Wide (runL t (mkB b l i)).1 (k + 1)) := fun t k q => Wide.run (by rw [mkB_len]; exact q.less (by omega))
    have HWC : Hid (∀ t k, Wide t (k + 2) → Wide (runL t (mkC b l i)).1 (k + 1)) := fun t k q => Wide.run (by rw [mkC_len]; exact q.less (by omega))
    have HBr : Hid (∀ (Q : World → Loc → Prop), Stays Q → ∀ V t, Has Q V d t → Room t → Calls Tryz.prog 42 #[.pointer (some ⟨d, 0, none⟩)] V fun e W' => e = .returned (.int .i64 (barE t)) ∧ Has Q W' d (barV t)) := fun Q hQ V t hV hT => has_barrier hQ hV hT
    have HCl : Hid (∀ (Q : World → Loc → Prop), Stays Q → ∀ V t, Has Q V d t → Room t → Calls Tryz.prog 9 #[.pointer (some ⟨d, 0, none⟩)] V fun e W' => e = .returned (.int .i64 (claimN t)) ∧ Has Q W' d (claimV t)) := fun Q hQ V t hV hT => has_claim hQ hV hT
    have HRm : Hid (Room s) := hw.room
    clear hR hf hw hc hr h
    unfold YtlcdpmjdnihocaaGreatP.layV at *
    generalize YtlcdpmjdnihocaaGreatP.lay9 b l i 1 (1 + l) (YtlcdpmjdnihocaaGreatP.nodeB i) (YtlcdpmjdnihocaaGreatP.bitsAt l i) (YtlcdpmjdnihocaaGreatP.bitsB b) (YtlcdpmjdnihocaaGreatP.dataAt b l i) = L at *
    generalize YtlcdpmjdnihocaaGreatP.lay9 0 0 0 0 0 0 0 0 0 = Z at *
    generalize mkN b l i = n at *
    generalize mkL b l i = ml at *
    generalize mkB b l i = pB at *
    generalize mkC b l i = pC at *
    generalize mkA = pA at *
    have hi0 := idx3a
    have hi1 := idx3b
    have hi2 := idx3c
    unfold ptV at hi0 hi1 hi2
    go_enter Tryz.func13, Tryz.ntmps13
    go_upto_region 1 with fail
    generalize W.alloc (.cells #[.int .i64 b, .int .i64 l, .int .i64 i] 26) = V0 at *
    go_wp2_with (first | (with_reducible refine YtlcdpmjdnihocaaGreat.isLoadR 26 ?_; refine YtlcdpmjdnihocaaGreat.wpList_ldR 26 Tryz.underlying26 rfl rfl _ rfl W.heap.size rfl #[.int .i64 b, .int .i64 l, .int .i64 i] 26 (0, 0) HGi.out HG.out ?_) | (go_at_call 38; fail))
    refine hrd.mono ?_
    rintro e V1 ⟨rfl, hH1⟩
    have HK : Hid (Has (Keep2 P V1.heap.size (.cells L 52)) (V1.alloc (.cells L 52)) d s) := hH1.keep2 hP _
    have HKs : Hid (Stays (Keep2 P V1.heap.size (.cells L 52))) := keep2_stays hP V1.heap.size (.cells L 52)
    have HU : Hid (∀ V t, Has (Keep2 P V1.heap.size (.cells L 52)) V d t → Has P V d t) := fun V t q => q.unkeep2.1
    have HUl : Hid (∀ V t, Has (Keep2 P V1.heap.size (.cells L 52)) V d t → V.heap[V1.heap.size]? = some (.cells L 52)) := fun V t q => q.unkeep2.2
    clear hH1 hrd HG
    generalize Keep2 P V1.heap.size (.cells L 52) = KP at *
    go_upto_region 2 with (first | (with_reducible refine YtlcdpmjdnihocaaGreat.isStoreR 52 ?_; refine YtlcdpmjdnihocaaGreat.wpList_stNew 52 rfl _ _ rfl V1.heap.size L Z 52 HI.out HLs.out HLo.out rfl rfl rfl ?_))
    generalize V1.alloc (.cells L 52) = V2 at *
    generalize V1.heap.size = gl at *
    go_wp2_with (go_at_call 9; fail)
    refine (HCl.out KP HKs.out V2 s HK.out HRm.out).mono ?_
    rintro e V3 ⟨rfl, hK3⟩
    have HK3 : Hid (Has KP V3 d (claimV s)) := hK3
    clear hK3 HK HRm HCl
    generalize claimV s = t0 at *
    generalize claimN s = c0 at *
    go_wp2_with fail
    go_loopw [23] (fun s23 wx => ∃ (m : Nat) (t : St), m ≤ 3 ∧ s23 = .int .i64 (m : Int) ∧ Hid (Has KP wx d t) ∧ Hid (R = runL t (ml m)) ∧ Hid (Wide t (wdN n m)))  (fun s23 _ => (3 - intOf s23).toNat)
    case atStart => exact ⟨0, t0, by omega, rfl, HK3.out, HR0.out, HWd.out⟩
    case round =>
      obtain ⟨m, t, hm, rfl, HT, HRt, HWt⟩ := hrel
      clear HK3 HR0 HWd
      have HLy : Hid _ := HUl.out _ _ HT.out
      by_cases h0 : m = 0
      · subst h0
        have hWt : Wide t (n + 100) := HWt.out
        have hW1 : Wide (runL t pA).1 (n + 98 + 1) := HWA.out t (n + 98) (hWt.less (by omega))
        have hRt := HRt.out
        rw [HR1.out t] at hRt
        have HRm : Hid _ := hRt
        go_wp2_with (first | (with_reducible refine YtlcdpmjdnihocaaGreat.isLoadR 52 ?_; refine YtlcdpmjdnihocaaGreat.wpList_ldR 52 Tryz.underlying52 rfl rfl _ rfl gl rfl L 52 (0, 0) HI.out HLy.out ?_) | (go_at_call 39; fail))
        refine (HA.out KP HKs.out wr t HT.out hWt.room).mono ?_
        rintro e V4 ⟨rfl, hK4⟩
        have HK4 : Hid (Has KP V4 d (runL t pA).1) := hK4
        have HW4 : Hid (Wide (runL t pA).1 (n + 98 + 1)) := hW1
        clear hK4 hWt hW1 HT HRt HWt HLy hRt
        obtain ⟨q, hq⟩ : ∃ q, runL t pA = q := ⟨_, rfl⟩
        rw [hq] at HK4 HW4 HRm ⊢
        clear hq
        obtain ⟨t1, e1⟩ := q
        dsimp only at HK4 HW4 HRm ⊢
        by_cases he : e1 = 0
        · subst he
          have hRm := HRm.out
          rw [if_pos rfl] at hRm
          have HRm : Hid _ := hRm
          go_wp2_with (go_at_call 42; fail)
          refine (HBr.out KP HKs.out V4 t1 HK4.out HW4.out.room).mono ?_
          rintro e V5 ⟨rfl, hK5⟩
          have HK5 : Hid (Has KP V5 d (barV t1)) := hK5
          have HW5 : Hid (Wide (barV t1) (n + 98)) := HW4.out.bar
          clear hK5 HK4 HW4 hRm
          generalize barV t1 = t2 at *
          generalize barE t1 = e2 at *
          by_cases he2 : e2 = 0
          · subst he2
            have hRm := HRm.out
            rw [if_pos rfl] at hRm
            have HRn : Hid (R = runL t2 (ml 1)) := hRm
            clear HRm hRm
            go_wp2_with fail
            exact ⟨⟨1, t2, by omega, by go_num, HK5.out, HRn.out, HW5.out.less (by unfold wdN; simp)⟩, by simp [intOf]⟩
          · have hRm := HRm.out
            rw [if_neg he2] at hRm
            have HRn : Hid (R = (t2, e2)) := hRm
            have hne : (e2 != 0) = true := by simpa using he2
            clear HRm hRm he2
            go_wp2_with fail
            go_ret
            exact ⟨by rw [HRn.out]; rfl, by rw [HRn.out]; exact HU.out _ _ HK5.out⟩
        · have hRm := HRm.out
          rw [if_neg he] at hRm
          have HRn : Hid (R = (t1, e1)) := hRm
          have hne : (e1 != 0) = true := by simpa using he
          clear HRm hRm he
          go_wp2_with fail
          go_ret
          exact ⟨by rw [HRn.out]; rfl, by rw [HRn.out]; exact HU.out _ _ HK4.out⟩
      by_cases h1 : m = 1
      · subst h1
        have hWt : Wide t (n + 98) := HWt.out
        have hW1 : Wide (runL t pB).1 (90 + 1) := HWB.out t 90 (hWt.less (by omega))
        have hRt := HRt.out
        rw [HR2.out t] at hRt
        have HRm : Hid _ := hRt
        go_wp2_with (first | (with_reducible refine YtlcdpmjdnihocaaGreat.isLoadR 52 ?_; refine YtlcdpmjdnihocaaGreat.wpList_ldR 52 Tryz.underlying52 rfl rfl _ rfl gl rfl L 52 (0, 0) HI.out HLy.out ?_) | (go_at_call 40; fail))
        refine (HB.out KP HKs.out wr t HT.out (hWt.less (by omega))).mono ?_
        rintro e V4 ⟨rfl, hK4⟩
        have HK4 : Hid (Has KP V4 d (runL t pB).1) := hK4
        have HW4 : Hid (Wide (runL t pB).1 (90 + 1)) := hW1
        clear hK4 hWt hW1 HT HRt HWt HLy hRt
        obtain ⟨q, hq⟩ : ∃ q, runL t pB = q := ⟨_, rfl⟩
        rw [hq] at HK4 HW4 HRm ⊢
        clear hq
        obtain ⟨t1, e1⟩ := q
        dsimp only at HK4 HW4 HRm ⊢
        by_cases he : e1 = 0
        · subst he
          have hRm := HRm.out
          rw [if_pos rfl] at hRm
          have HRm : Hid _ := hRm
          go_wp2_with (go_at_call 42; fail)
          refine (HBr.out KP HKs.out V4 t1 HK4.out HW4.out.room).mono ?_
          rintro e V5 ⟨rfl, hK5⟩
          have HK5 : Hid (Has KP V5 d (barV t1)) := hK5
          have HW5 : Hid (Wide (barV t1) (90)) := HW4.out.bar
          clear hK5 HK4 HW4 hRm
          generalize barV t1 = t2 at *
          generalize barE t1 = e2 at *
          by_cases he2 : e2 = 0
          · subst he2
            have hRm := HRm.out
            rw [if_pos rfl] at hRm
            have HRn : Hid (R = runL t2 (ml 2)) := hRm
            clear HRm hRm
            go_wp2_with fail
            exact ⟨⟨2, t2, by omega, by go_num, HK5.out, HRn.out, HW5.out.less (by unfold wdN; simp)⟩, by simp [intOf]⟩
          · have hRm := HRm.out
            rw [if_neg he2] at hRm
            have HRn : Hid (R = (t2, e2)) := hRm
            have hne : (e2 != 0) = true := by simpa using he2
            clear HRm hRm he2
            go_wp2_with fail
            go_ret
            exact ⟨by rw [HRn.out]; rfl, by rw [HRn.out]; exact HU.out _ _ HK5.out⟩
        · have hRm := HRm.out
          rw [if_neg he] at hRm
          have HRn : Hid (R = (t1, e1)) := hRm
          have hne : (e1 != 0) = true := by simpa using he
          clear HRm hRm he
          go_wp2_with fail
          go_ret
          exact ⟨by rw [HRn.out]; rfl, by rw [HRn.out]; exact HU.out _ _ HK4.out⟩
      by_cases h2 : m = 2
      · subst h2
        have hWt : Wide t 90 := HWt.out
        have hW1 : Wide (runL t pC).1 (80 + 1) := HWC.out t 80 (hWt.less (by omega))
        have hRt := HRt.out
        rw [HR3.out t] at hRt
        have HRm : Hid _ := hRt
        go_wp2_with (first | (with_reducible refine YtlcdpmjdnihocaaGreat.isLoadR 52 ?_; refine YtlcdpmjdnihocaaGreat.wpList_ldR 52 Tryz.underlying52 rfl rfl _ rfl gl rfl L 52 (0, 0) HI.out HLy.out ?_) | (go_at_call 41; fail))
        refine (HC.out KP HKs.out wr t HT.out hWt.room).mono ?_
        rintro e V4 ⟨rfl, hK4⟩
        have HK4 : Hid (Has KP V4 d (runL t pC).1) := hK4
        have HW4 : Hid (Wide (runL t pC).1 (80 + 1)) := hW1
        clear hK4 hWt hW1 HT HRt HWt HLy hRt
        obtain ⟨q, hq⟩ : ∃ q, runL t pC = q := ⟨_, rfl⟩
        rw [hq] at HK4 HW4 HRm ⊢
        clear hq
        obtain ⟨t1, e1⟩ := q
        dsimp only at HK4 HW4 HRm ⊢
        by_cases he : e1 = 0
        · subst he
          have hRm := HRm.out
          rw [if_pos rfl] at hRm
          have HRm : Hid _ := hRm
          go_wp2_with (go_at_call 42; fail)
          refine (HBr.out KP HKs.out V4 t1 HK4.out HW4.out.room).mono ?_
          rintro e V5 ⟨rfl, hK5⟩
          have HK5 : Hid (Has KP V5 d (barV t1)) := hK5
          have HW5 : Hid (Wide (barV t1) (80)) := HW4.out.bar
          clear hK5 HK4 HW4 hRm
          generalize barV t1 = t2 at *
          generalize barE t1 = e2 at *
          by_cases he2 : e2 = 0
          · subst he2
            have hRm := HRm.out
            rw [if_pos rfl] at hRm
            have HRn : Hid (R = runL t2 (ml 3)) := hRm
            clear HRm hRm
            go_wp2_with fail
            exact ⟨⟨3, t2, by omega, by go_num, HK5.out, HRn.out, HW5.out.less (by unfold wdN; simp)⟩, by simp [intOf]⟩
          · have hRm := HRm.out
            rw [if_neg he2] at hRm
            have HRn : Hid (R = (t2, e2)) := hRm
            have hne : (e2 != 0) = true := by simpa using he2
            clear HRm hRm he2
            go_wp2_with fail
            go_ret
            exact ⟨by rw [HRn.out]; rfl, by rw [HRn.out]; exact HU.out _ _ HK5.out⟩
        · have hRm := HRm.out
          rw [if_neg he] at hRm
          have HRn : Hid (R = (t1, e1)) := hRm
          have hne : (e1 != 0) = true := by simpa using he
          clear HRm hRm he
          go_wp2_with fail
          go_ret
          exact ⟨by rw [HRn.out]; rfl, by rw [HRn.out]; exact HU.out _ _ HK4.out⟩
      obtain rfl : m = 3 := by omega
      have hRt := HRt.out
      rw [HR4.out t] at hRt
      have HRn : Hid (R = (t, 0)) := hRt
      clear hRt HRt HWt HLy
      go_wp2_with fail
      go_ret
      exact ⟨by rw [HRn.out]; rfl, by rw [HRn.out]; exact HU.out _ _ HT.out⟩
  · have HE : Hid (mkE b l i s = rdyE b l i s) := by show _ = _; unfold mkE; rw [if_neg hr]
    have HV : Hid (mkV b l i s = s) := by show _ = _; unfold mkV; rw [if_neg hr]
    rw [if_neg hr] at hrd
    rw [HE.out, HV.out]
    have hne : (rdyE b l i s != 0) = true := by simpa using hr
    clear hr h hw hc HE HV
    unfold YtlcdpmjdnihocaaGreatP.layZ at *
    generalize rdyE b l i s = re at *
    generalize YtlcdpmjdnihocaaGreatP.lay9 0 0 0 0 0 0 0 0 0 = Z at *
    have HZs : Hid (Z.size = Z.size) := (rfl : Z.size = Z.size)
    go_enter Tryz.func13, Tryz.ntmps13
    go_upto_region 1 with fail
    generalize W.alloc (.cells #[.int .i64 b, .int .i64 l, .int .i64 i] 26) = V0 at *
    go_wp2_with (first | (with_reducible refine YtlcdpmjdnihocaaGreat.isLoadR 26 ?_; refine YtlcdpmjdnihocaaGreat.wpList_ldR 26 Tryz.underlying26 rfl rfl _ rfl W.heap.size rfl #[.int .i64 b, .int .i64 l, .int .i64 i] 26 (0, 0) HGi.out HG.out ?_) | (go_at_call 38; fail))
    refine hrd.mono ?_
    rintro e V1 ⟨rfl, hH1⟩
    have HK : Hid (Has P (V1.alloc (.cells Z 52)) d s) := hH1.later hP (below_new _ _)
    clear hH1 hrd HG
    go_wp2_with (first | (with_reducible refine YtlcdpmjdnihocaaGreat.isStoreR 52 ?_; refine YtlcdpmjdnihocaaGreat.wpList_stNew 52 rfl _ _ rfl V1.heap.size Z Z 52 HZi.out (rfl : Z.size = Z.size) HZo.out rfl rfl rfl ?_))
    go_ret
    exact ⟨rfl, HK.out⟩
end Go.Proofs.YtlcdpmjdnihocaaGreatD
/- What a row of writes and barriers leaves on a disk, wherever it stops, whatever is kept: the plain side of mkfs; no condition but that the writes are within the disk. -/
namespace Go.Proofs.YtlcdpmjdnihocaaGreatD
open Go.RowKit
/-- One that is let through. -/
def goV (s : St) : MOp → St
  | some c => writeS s c.1 c.2
  | none => barS s
def allV (s : St) (l : List MOp) : St := l.foldl goV s
theorem allV_cons (s : St) (o : MOp) (l : List MOp) : allV s (o :: l) = allV (goV s o) l := rfl
theorem allV_append (s : St) (a b : List MOp) : allV s (a ++ b) = allV (allV s a) b := by unfold allV; rw [List.foldl_append]
/-- Within the disk. -/
def InOp (n : Int) : MOp → Prop
  | some c => 0 ≤ c.1 ∧ c.1 < n
  | none => True
theorem goV_rest (s : St) (o : MOp) : (goV s o).n = s.n ∧ (goV s o).made = (letV s).made ∧ (goV s o).reads = s.reads ∧ (goV s o).claims = s.claims ∧ (goV s o).fuse = (letV s).fuse ∧ (goV s o).stopped = (letV s).stopped ∧ (goV s o).claimed = s.claimed := by
  obtain ⟨_, l2, l3, l4⟩ := letV_most s
  cases o with
  | none =>
    obtain ⟨b1, b2, b3, b4, b5, b6, b7, _, _⟩ := barS_rest s
    exact ⟨b1, b2, b3.trans l2, b4.trans l3, b5, b6, b7.trans l4⟩
  | some c => exact ⟨letV_n s, rfl, l2, l3, rfl, rfl, l4⟩
theorem do_goes {s : St} {o : MOp} (hs : s.stopped = false) (hl : lets s = true) (ho : InOp s.n o) : doE s o = 0 ∧ doV s o = goV s o := by
  cases o with
  | none => exact ⟨by show barE s = 0; unfold barE; rw [hs, hl]; rfl, by show barV s = barS s; unfold barV; rw [hs, hl]; rfl⟩
  | some c =>
    have hr : refV s c.1 = 0 := by unfold refV; rw [hs, if_neg (by simp), if_pos (show 0 ≤ c.1 ∧ c.1 < s.n from ho)]
    exact ⟨by show writeE s c.1 = 0; unfold writeE; rw [if_pos hr, if_pos hl], by show writeV s c.1 c.2 = writeS s c.1 c.2; unfold writeV; rw [if_pos hr, if_pos hl]⟩
theorem lets_fuse {s : St} (h : s.fuse ≠ 0) : lets s = true ∧ (letV s).fuse = (if s.fuse = -1 then -1 else s.fuse - 1) ∧ (letV s).made = s.made + 1 ∧ (letV s).stopped = s.stopped := by
  have hl : lets s = true := by unfold lets; simpa using h
  obtain ⟨h1, h2, _, _, h5⟩ := letV_live hl
  exact ⟨hl, h5, h2, h1⟩
/-- All of it goes through. -/
theorem run_goes : ∀ (l : List MOp) (s : St), s.stopped = false → (∀ o ∈ l, InOp s.n o) → (s.fuse = -1 ∨ (l.length : Int) ≤ s.fuse) → runL s l = (allV s l, 0) ∧ (allV s l).stopped = false ∧ (allV s l).made = s.made + l.length ∧ (allV s l).n = s.n ∧ (allV s l).reads = s.reads ∧ (allV s l).claims = s.claims ∧ (allV s l).fuse = (if s.fuse = -1 then -1 else s.fuse - l.length) ∧ (allV s l).claimed = s.claimed
  | [], s, hs, _, _ => by
    refine ⟨rfl, hs, by simp [allV], rfl, rfl, rfl, ?_, rfl⟩
    show s.fuse = _
    split
    · assumption
    · simp
  | o :: t, s, hs, ho, hf => by
    have h0 : s.fuse ≠ 0 := by rw [List.length_cons] at hf; omega
    obtain ⟨hl, f1, f2, f3⟩ := lets_fuse h0
    obtain ⟨d1, d2⟩ := do_goes hs hl (ho o (by simp))
    obtain ⟨g1, g2, g3, g4, g5, g6, g7⟩ := goV_rest s o
    have hs2 : (goV s o).stopped = false := g6.trans (f3.trans hs)
    have ih := run_goes t (goV s o) hs2 (fun x hx => by rw [g1]; exact ho x (by simp [hx])) (by
      rw [g5, f1]
      rw [List.length_cons] at hf
      split
      · exact .inl rfl
      · exact .inr (by omega))
    obtain ⟨i1, i2, i3, i4, i5, i6, i7, i8⟩ := ih
    rw [runL_cons, d1, if_pos rfl, d2, allV_cons]
    refine ⟨i1, i2, by rw [i3, g2, f2, List.length_cons]; omega, i4.trans g1, i5.trans g3, i6.trans g4, ?_, i8.trans g7⟩
    rw [i7, g5, f1, List.length_cons]
    by_cases q : s.fuse = -1
    · rw [if_pos q, if_pos rfl, if_pos q]
    · rw [if_neg q, if_neg q, if_neg (by rw [List.length_cons] at hf; omega)]
      omega
theorem allV_writes : ∀ (cs : List Cel) (s : St), (allV s (cs.map some)).held = s.held ∧ (allV s (cs.map some)).wait = s.wait ++ cs
  | [], s => ⟨rfl, by simp [allV]⟩
  | c :: t, s => by
    obtain ⟨h1, h2⟩ := allV_writes t (goV s (some c))
    rw [List.map_cons, allV_cons]
    refine ⟨h1.trans (letV_held s), ?_⟩
    rw [h2]
    show (s.wait ++ [(c.1, c.2)]) ++ t = _
    simp
theorem allV_bar (s : St) : (allV s [none]).held = (holdAll s s.wait).held ∧ (allV s [none]).wait = [] := by
  obtain ⟨_, _, _, _, _, _, _, h1, h2⟩ := barS_rest s
  exact ⟨h2, h1⟩
theorem holdAll_held {s t : St} (h : s.held = t.held) (l : List Cel) : (holdAll s l).held = (holdAll t l).held := by
  induction l generalizing s t with
  | nil => exact h
  | cons c l ih => exact ih (s := holdV s c.1 c.2) (t := holdV t c.1 c.2) (by unfold holdV; rw [h])
/-- The cells of the second part. -/
def mkBs (b l i : Int) : List Cel := (1, nought) :: (List.range (mkN b l i)).map fun (q : Nat) => (1 + l + (q : Int), YtlcdpmjdnihocaaGreat.coF b l i (1 + l + (q : Int)))
theorem mkB_eq (b l i : Int) : mkB b l i = (mkBs b l i).map some := by
  unfold mkB mkBs mkR
  rw [List.map_cons, List.map_map, List.drop_zero]
  rfl
theorem mkBs_pos {b l i : Int} (hf : YtlcdpmjdnihocaaGreatP.Fine b l i) : ∀ c ∈ mkBs b l i, (1 ≤ c.1 ∧ c.1 < b) ∧ Can c.2 := fun c hc => by
  obtain ⟨b1, b2, b3, b4, b5, b6, b7, b8⟩ := YtlcdpmjdnihocaaGreat.fine_bd hf
  unfold mkBs at hc
  rcases List.mem_cons.1 hc with rfl | hc
  · exact ⟨⟨by show (1 : Int) ≤ 1; omega, by show (1 : Int) < b; omega⟩, can_nought⟩
  · obtain ⟨q, hq, rfl⟩ := List.mem_map.1 hc
    have hq := List.mem_range.1 hq
    unfold mkN at hq
    exact ⟨⟨by show 1 ≤ 1 + l + (q : Int); omega, by show 1 + l + (q : Int) < b; omega⟩, can_co _ _ _ _⟩
theorem mkL_in {b l i n : Int} (hf : YtlcdpmjdnihocaaGreatP.Fine b l i) (hn : b ≤ n) : ∀ o ∈ mkL b l i 0, InOp n o := fun o ho => by
  obtain ⟨b1, _⟩ := YtlcdpmjdnihocaaGreat.fine_bd hf
  have hz : InOp n (some (0, nought)) := ⟨by show (0 : Int) ≤ 0; omega, by show (0 : Int) < n; omega⟩
  unfold mkL mkA mkC at ho
  rw [mkB_eq] at ho
  simp only [List.mem_append, List.mem_cons, List.mem_nil_iff, or_false] at ho
  rcases ho with rfl | rfl | ho | rfl | rfl | rfl
  · exact hz
  · trivial
  · obtain ⟨c, hc, rfl⟩ := List.mem_map.1 ho
    have := (mkBs_pos hf c hc).1
    exact ⟨by omega, by omega⟩
  · trivial
  · exact ⟨by show (0 : Int) ≤ 0; omega, by show (0 : Int) < n; omega⟩
  · trivial
end Go.Proofs.YtlcdpmjdnihocaaGreatD
/- Steps that the stage's theorem's law takes beside the disk: a write more waited for, blocks told apart; no condition. -/
namespace Go.Proofs.YtlcdpmjdnihocaaGreatD
open Go.RowKit

section
variable {w W : World} {g d : Nat} {hs : List (Nat → Int)} {v : Value} {wl : List Cel} {s : St}
end
section
variable {ops : Array Oper} {rest : List Oper} {o : Oper} {a : Act} {w : World} {Q : Exit → Act → World → Prop}
end
end Go.Proofs.YtlcdpmjdnihocaaGreatD
/- What is held behind writes and barriers, and of an image that is loaded again, as plain lists; no condition. -/
namespace Go.Proofs.YtlcdpmjdnihocaaGreatD
open Go.RowKit

theorem rise_len {n : Int} : ∀ (l : List Cel) (m : Int), Rise m l → (∀ c ∈ l, c.1 < n) → m < n → (l.length : Int) ≤ n - m - 1
  | [], m, _, _, h => by simp; omega
  | (i, x) :: t, m, hr, ht, h => by
    have h1 := hr.1
    have h2 := ht (i, x) (by simp)
    have ih := rise_len t i hr.2 (fun c hc => ht c (by simp [hc])) h2
    simp only [List.length_cons] at *
    omega
/-- What the last of the writes to k left; x, if there is none. -/
def lastV (x : Nat → Int) : List Cel → Int → Nat → Int
  | [], _ => x
  | c :: t, k => lastV (if c.1 = k then c.2 else x) t k
theorem lastV_none {k : Int} : ∀ (l : List Cel) (x : Nat → Int), (∀ c ∈ l, c.1 ≠ k) → lastV x l k = x
  | [], _, _ => rfl
  | c :: t, x, h => by
    unfold lastV
    rw [if_neg (h c (by simp))]
    exact lastV_none t x fun c hc => h c (by simp [hc])
theorem lastV_append {k : Int} : ∀ (l m : List Cel) (x : Nat → Int), lastV x (l ++ m) k = lastV (lastV x l k) m k
  | [], _, _ => rfl
  | c :: t, m, x => by
    show lastV (if c.1 = k then c.2 else x) (t ++ m) k = _
    rw [lastV_append t m]
    rfl
theorem holdAll_get {k : Int} : ∀ (l : List Cel) (s : St), (∀ c ∈ l, Can c.2) → ((holdAll s l).held k).getD nought = lastV ((s.held k).getD nought) l k
  | [], _, _ => rfl
  | c :: t, s, h => by
    show ((holdAll (holdV s c.1 c.2) t).held k).getD nought = _
    rw [holdAll_get t _ fun c hc => h c (by simp [hc]), holdV_get s c.1 (h c (by simp)) k]
    show _ = lastV (if c.1 = k then c.2 else (s.held k).getD nought) t k
    by_cases e : k = c.1
    · rw [if_pos e, if_pos e.symm]
    · rw [if_neg e, if_neg fun q => e q.symm]
section
variable (n : Int) (q : Nat → Int × (Nat → Int))
end
end Go.Proofs.YtlcdpmjdnihocaaGreatD
/- Several disks in one world: one that turns, others beside it; any of them may be the one that turns; no condition. -/
namespace Go.Proofs.YtlcdpmjdnihocaaGreatD
open Go.RowKit

variable {w W W' : World} {d d1 d2 : Nat} {s s1 s2 : St} {L L' L1 : Loc}
/-- The image of a disk, loaded. -/
theorem img_cells {W : World} {g : Nat} {l : List Cel} (h : W.heap[g]? = some (.cells (celCells l).toArray 81)) : ImgAt W (some ⟨g, 0, none⟩) l := fun _ => by
  refine ⟨g, 0, rfl, (Array.getElem?_eq_some_iff.1 h).1, fun k c hc => ?_⟩
  obtain ⟨K, hK⟩ : ∃ K, K = k * 1025 := ⟨_, rfl⟩
  have key : ∀ j, j < 1025 → ∀ v, (celRow c)[j]? = some v → W.cell? ⟨g, K + j, none⟩ = some v := fun j hj v hv => by
    have q0 := (fm_get celRow 1025 celRow_len l k j c hc hj).trans hv
    rw [← hK] at q0
    rw [cell_of_row W g _ _ 81 _ h, List.getElem?_toArray]
    exact q0
  rw [Nat.zero_add, ← hK]
  clear hK hc h
  refine ⟨key 0 (by omega) _ rfl, fun j v hv => ?_⟩
  have hj : j < 1024 := by have := (List.getElem?_eq_some_iff.1 hv).1; rwa [blk_list_len] at this
  rw [Nat.add_assoc, Nat.add_comm 1 j]
  refine key (j + 1) (by omega) v ?_
  rw [show (celRow c)[j + 1]? = (blk c.2).toList[j]? by simp only [celRow, List.getElem?_cons_succ]]
  exact hv
theorem has_image {P : World → Loc → Prop} (hP : Stays P) (h : Has P W d s) : Calls Tryz.prog 21 #[.pointer (some ⟨d, 0, none⟩)] W fun e W' => ∃ (g : Nat) (l : List Cel), e = .returned (.agg #[.int .i64 s.n, .slice (some ⟨g, 0, none⟩) l.length l.length]) ∧ IsImage s l ∧ ImgAt W' (some ⟨g, 0, none⟩) l ∧ Has P W' d s := by
  have h' := h
  obtain ⟨L, rfl, hD, hp⟩ := h
  exact (image_walk hD).mono fun e W' ⟨g, l, h1, h2, h3, _, h5⟩ => ⟨g, l, h1, h2, img_cells h3, h'.later hP h5⟩
end Go.Proofs.YtlcdpmjdnihocaaGreatD
/- What an image that may be tells when it is loaded; no condition. -/
namespace Go.Proofs.YtlcdpmjdnihocaaGreatD
open Go.RowKit Go.Maps
theorem loadV_same (n : Int) (l : List Cel) : (loadV n l).n = n ∧ (loadV n l).wait = [] ∧ (loadV n l).stopped = false ∧ (loadV n l).reads = 0 ∧ (loadV n l).made = 0 ∧ (loadV n l).claims = 0 ∧ (loadV n l).ops = [] := by
  obtain ⟨h, e⟩ := holdAll_same l (newV n)
  unfold loadV
  rw [e]
  exact ⟨rfl, rfl, rfl, rfl, rfl, rfl, rfl⟩
end Go.Proofs.YtlcdpmjdnihocaaGreatD
/- Regions whose order is drawn, where what was read is written over at the end: A holds all along, B until the operation m has come up; what m waits for may be read under B. -/
namespace Go.Proofs.YtlcdpmjdnihocaaGreatD
open Go.RowKit
section
variable {P : Program} {ops : Array Oper} {Q : Exit → Act → World → Prop} {A B : World → Prop} {m : Nat}
section
variable {r : List (Nat × Bool × Oper)} {mm f : Bool} {a : Act} {w w' : World} {o : Oper} {v : Value}
end
end
end Go.Proofs.YtlcdpmjdnihocaaGreatD
/- Lists of blocks with their numbers that grow; copies of them; of fewer bytes than memory has. -/
namespace Go.Proofs.YtlcdpmjdnihocaaGreatD
open Go.RowKit Go.Maps
section
variable {w W W' : World} {v v' : Value}
section
variable {o : Oper} {a : Act}
theorem exec_load85 {x : Operand} {g off : Nat} {c : Cel} (ho : o.op = .load 81 x) (hx : a.eval x = .pointer (some ⟨g, off, none⟩)) (hc : CelAt W g off c) : (execOp a.eval o).run Tryz.prog W = .ok (.value (.agg (celRow c).toArray)) W := by
  have e := load85 hc
  generalize (celRow c).toArray = Z at *
  unfold execOp
  simp only [ho, hx, e, Sem.run_bind, Result.andThen_ok, Sem.run_pure]
theorem wpList_exec {ops : Array Oper} {rest : List Oper} {Q : Exit → Act → World → Prop} {v : Value} {W' : World} (hgd : o.guard = none) (hr : (execOp a.eval o).run Tryz.prog W = .ok (.value v) W') (h : wpList Tryz.prog ops Q rest (a.put o.dst v) W') : wpList Tryz.prog ops Q (o :: rest) a W := by
  refine wpList_plain hgd fun K' hK' => ?_
  unfold Oper.wp
  rw [hr]
  exact hK' _ _ h
end
end
end Go.Proofs.YtlcdpmjdnihocaaGreatD
