/- Several texts joined, each with its own remark; no condition. -/
import Derived.Test.YtlcdpmjdnihocaaGreatJ13
import Derived.Test.YtlcdpmjdnihocaaGreatJ11
import Derived.Test.YtlcdpmjdnihocaaGreatJ9
import Derived.Deep.Cut
import Derived.Deep.CutRange
import Derived.Deep.Slices
import Derived.ProofKit
import Derived.OpenShut
/- Mkfs by the program: Make; for every disk and geometry, numbers of calls not past their greatest. -/
namespace Go.Proofs.YtlcdpmjdnihocaaGreatD
open Go.RowKit
theorem runL_part (p r : List MOp) (t : St) : runL t (p ++ none :: r) = if (runL t p).2 = 0 then (if barE (runL t p).1 = 0 then runL (barV (runL t p).1) r else (barV (runL t p).1, barE (runL t p).1)) else runL t p := by
  rw [runL_append]
  rfl
theorem mkL_zero (b l i : Int) : mkL b l i 0 = mkA ++ none :: mkL b l i 1 := rfl
theorem mkL_one (b l i : Int) : mkL b l i 1 = mkB b l i ++ none :: mkL b l i 2 := rfl
theorem mkL_two (b l i : Int) : mkL b l i 2 = mkC b l i ++ none :: mkL b l i 3 := rfl
theorem Wide.bar {t : St} {k : Nat} (h : Wide t (k + 1)) : Wide (barV t) k := h.doV none
theorem mkN_le {b l i : Int} (hf : YtlcdpmjdnihocaaGreatP.Fine b l i) : mkN b l i ≤ 4300 := by
  obtain ⟨h1, h2, h3, h4, h5, h6⟩ := hf
  unfold mkN
  unfold YtlcdpmjdnihocaaGreatP.dataAt YtlcdpmjdnihocaaGreatP.bitsAt YtlcdpmjdnihocaaGreatP.nodeB YtlcdpmjdnihocaaGreatP.bitsB at *
  omega
theorem mkA_len : mkA.length = 1 := rfl
theorem mkB_len (b l i : Int) : (mkB b l i).length = mkN b l i + 1 := by unfold mkB; rw [List.length_cons, mkR_len]; rfl
theorem mkC_len (b l i : Int) : (mkC b l i).length = 1 := rfl
theorem claimV_wide {s : St} {k : Nat} (h : Wide s k) (hc : s.claims < 1000000000) : Wide (claimV s) k := by
  unfold claimV
  split
  · exact h
  · exact ⟨h.ops, h.made, h.reads, by show s.claims + 1 < _; omega⟩
def wdN (n m : Nat) : Nat := if m = 0 then n + 100 else if m = 1 then n + 98 else if m = 2 then 90 else 80
def ptV : Value := .agg #[.func (.func 39) #[] #[], .func (.func 40) #[] #[], .func (.func 41) #[] #[]]
theorem idx3a (u : World) : (Instr.index 86 ptV (.int .i64 0)).run Tryz.prog u = .ok (.func (.func 39) #[] #[]) u := by
  unfold ptV
  simp [Instr.index, run_underlying Tryz.underlying86, asIntOf, part, Tryz.isAgg85, go_sem]
theorem idx3b (u : World) : (Instr.index 86 ptV (.int .i64 1)).run Tryz.prog u = .ok (.func (.func 40) #[] #[]) u := by
  unfold ptV
  simp [Instr.index, run_underlying Tryz.underlying86, asIntOf, part, Tryz.isAgg85, go_sem]
theorem idx3c (u : World) : (Instr.index 86 ptV (.int .i64 2)).run Tryz.prog u = .ok (.func (.func 41) #[] #[]) u := by
  unfold ptV
  simp [Instr.index, run_underlying Tryz.underlying86, asIntOf, part, Tryz.isAgg85, go_sem]
variable {P : World → Loc → Prop} {W : World} {d : Nat} {s : St}
theorem rdy_fine {b l i : Int} {s : St} (h : rdyE b l i s = 0) : YtlcdpmjdnihocaaGreatP.Fine b l i := by
  unfold rdyE YtlcdpmjdnihocaaGreatP.ofE at h
  by_cases hf : YtlcdpmjdnihocaaGreatP.Fine b l i
  · exact hf
  · rw [if_neg hf] at h
    rw [if_pos (.inl (by decide))] at h
    omega
set_option maxRecDepth 20000 in
set_option maxHeartbeats 4000000 in
theorem make_ok (hP : Stays P) (h : Has P W d s) (b l i : Int) (hb : YtlcdpmjdnihocaaGreatP.I64 b) (hw : Wide s 10000) (hc : s.claims < 1000000000) :
    Calls Tryz.prog 13 #[.pointer (some ⟨d, 0, none⟩), YtlcdpmjdnihocaaGreatP.geoV b l i] W fun e W' => e = .returned (.int .i64 (mkE b l i s)) ∧ Has P W' d (mkV b l i s) := by
  have hK : Has P (W.alloc (.cells #[.int .i64 b, .int .i64 l, .int .i64 i] 26)) d s := h.later hP (below_new _ _)
  have hrd := ready_ok hP hK b l i hb
  have hG : (W.alloc (.cells #[.int .i64 b, .int .i64 l, .int .i64 i] 26)).heap[W.heap.size]? = some (.cells #[.int .i64 b, .int .i64 l, .int .i64 i] 26) := heap_alloc_new _ _
  have HGi : Hid ((Tryz.prog.info? 26).map (·.size) = some (#[Value.int .i64 b, .int .i64 l, .int .i64 i] : Array Value).size) := by show _ = _; kernel_rfl
  have HG : Hid _ := hG
  have zl := zeroLy
  have HI : Hid _ := layIn b l i
  have HZi : Hid _ := lay9_size 0 0 0 0 0 0 0 0 0
  have HZo : Hid _ := lay9_one 0 0 0 0 0 0 0 0 0
  have HLo : Hid _ := lay9_one b l i 1 (1 + l) (YtlcdpmjdnihocaaGreatP.nodeB i) (YtlcdpmjdnihocaaGreatP.bitsAt l i) (YtlcdpmjdnihocaaGreatP.bitsB b) (YtlcdpmjdnihocaaGreatP.dataAt b l i)
  have HLs : Hid ((YtlcdpmjdnihocaaGreatP.lay9 0 0 0 0 0 0 0 0 0).size = (YtlcdpmjdnihocaaGreatP.lay9 b l i 1 (1 + l) (YtlcdpmjdnihocaaGreatP.nodeB i) (YtlcdpmjdnihocaaGreatP.bitsAt l i) (YtlcdpmjdnihocaaGreatP.bitsB b) (YtlcdpmjdnihocaaGreatP.dataAt b l i)).size) := rfl
  clear hG hK
  unfold YtlcdpmjdnihocaaGreatP.geoV at *
  by_cases hr : rdyE b l i s = 0
  · have hf := rdy_fine hr
    have HE : Hid (mkE b l i s = (runL (claimV s) (mkL b l i 0)).2) := by show _ = _; unfold mkE; rw [if_pos hr]
    have HV : Hid (mkV b l i s = (runL (claimV s) (mkL b l i 0)).1) := by show _ = _; unfold mkV; rw [if_pos hr]
    rw [if_pos hr, hr] at hrd
    rw [HE.out, HV.out]
    have HWd : Hid (Wide (claimV s) (mkN b l i + 100)) := (claimV_wide hw hc).less (by have := mkN_le hf; omega)
    obtain ⟨R, hR⟩ : ∃ R, runL (claimV s) (mkL b l i 0) = R := ⟨_, rfl⟩
    rw [hR]
    have HR0 : Hid (R = runL (claimV s) (mkL b l i 0)) := hR.symm
    have HR1 : Hid (∀ t, runL t (mkL b l i 0) = if (runL t mkA).2 = 0 then (if barE (runL t mkA).1 = 0 then runL (barV (runL t mkA).1) (mkL b l i 1) else (barV (runL t mkA).1, barE (runL t mkA).1)) else runL t mkA) := fun t => runL_part mkA (mkL b l i 1) t
    have HR2 : Hid (∀ t, runL t (mkL b l i 1) = if (runL t (mkB b l i)).2 = 0 then (if barE (runL t (mkB b l i)).1 = 0 then runL (barV (runL t (mkB b l i)).1) (mkL b l i 2) else (barV (runL t (mkB b l i)).1, barE (runL t (mkB b l i)).1)) else runL t (mkB b l i)) := fun t => runL_part (mkB b l i) (mkL b l i 2) t
    have HR3 : Hid (∀ t, runL t (mkL b l i 2) = if (runL t (mkC b l i)).2 = 0 then (if barE (runL t (mkC b l i)).1 = 0 then runL (barV (runL t (mkC b l i)).1) (mkL b l i 3) else (barV (runL t (mkC b l i)).1, barE (runL t (mkC b l i)).1)) else runL t (mkC b l i)) := fun t => runL_part (mkC b l i) (mkL b l i 3) t
    have HR4 : Hid (∀ t, runL t (mkL b l i 3) = (t, 0)) := fun t => rfl
    have HA : Hid (∀ (Q : World → Loc → Prop), Stays Q → ∀ V t, Has Q V d t → Room t → Calls Tryz.prog 39 #[.pointer (some ⟨d, 0, none⟩), YtlcdpmjdnihocaaGreatP.layV b l i] V fun e W' => e = .returned (.int .i64 (runL t mkA).2) ∧ Has Q W' d (runL t mkA).1) := fun Q hQ V t hV hT => erase_ok hQ hV hT b l i
    have HB : Hid (∀ (Q : World → Loc → Prop), Stays Q → ∀ V t, Has Q V d t → Wide t (mkN b l i + 2) → Calls Tryz.prog 40 #[.pointer (some ⟨d, 0, none⟩), YtlcdpmjdnihocaaGreatP.layV b l i] V fun e W' => e = .returned (.int .i64 (runL t (mkB b l i)).2) ∧ Has Q W' d (runL t (mkB b l i)).1) := fun Q hQ V t hV hT => fill_ok hQ hV hf hT
    have HC : Hid (∀ (Q : World → Loc → Prop), Stays Q → ∀ V t, Has Q V d t → Room t → Calls Tryz.prog 41 #[.pointer (some ⟨d, 0, none⟩), YtlcdpmjdnihocaaGreatP.layV b l i] V fun e W' => e = .returned (.int .i64 (runL t (mkC b l i)).2) ∧ Has Q W' d (runL t (mkC b l i)).1) := fun Q hQ V t hV hT => sign_ok hQ hV hT hf
    have HWA : Hid (∀ t k, Wide t (k + 2) → Wide (runL t mkA).1 (k + 1)) := fun t k q => Wide.run (by rw [mkA_len]; exact q.less (by omega))
    have HWB : Hid (∀ t k, Wide t (mkN b l i + k + 2) → Wide (runL t (mkB b l i)).1 (k + 1)) := fun t k q => Wide.run (by rw [mkB_len]; exact q.less (by omega))
    have HWC : Hid (∀ t k, Wide t (k + 2) → Wide (runL t (mkC b l i)).1 (k + 1)) := fun t k q => Wide.run (by rw [mkC_len]; exact q.less (by omega))
    have HBr : Hid (∀ (Q : World → Loc → Prop), Stays Q → ∀ V t, Has Q V d t → Room t → Calls Tryz.prog 42 #[.pointer (some ⟨d, 0, none⟩)] V fun e W' => e = .returned (.int .i64 (barE t)) ∧ Has Q W' d (barV t)) := fun Q hQ V t hV hT => has_barrier hQ hV hT
    have HCl : Hid (∀ (Q : World → Loc → Prop), Stays Q → ∀ V t, Has Q V d t → Room t → Calls Tryz.prog 9 #[.pointer (some ⟨d, 0, none⟩)] V fun e W' => e = .returned (.int .i64 (claimN t)) ∧ Has Q W' d (claimV t)) := fun Q hQ V t hV hT => has_claim hQ hV hT
    have HRm : Hid (Room s) := hw.room
    clear hR hf hw hc hr h
    unfold YtlcdpmjdnihocaaGreatP.layV at *
    generalize YtlcdpmjdnihocaaGreatP.lay9 b l i 1 (1 + l) (YtlcdpmjdnihocaaGreatP.nodeB i) (YtlcdpmjdnihocaaGreatP.bitsAt l i) (YtlcdpmjdnihocaaGreatP.bitsB b) (YtlcdpmjdnihocaaGreatP.dataAt b l i) = L at *
    generalize YtlcdpmjdnihocaaGreatP.lay9 0 0 0 0 0 0 0 0 0 = Z at *
    generalize mkN b l i = n at *
    generalize mkL b l i = ml at *
    generalize mkB b l i = pB at *
    generalize mkC b l i = pC at *
    generalize mkA = pA at *
    have hi0 := idx3a
    have hi1 := idx3b
    have hi2 := idx3c
    unfold ptV at hi0 hi1 hi2
    go_enter Tryz.func13, Tryz.ntmps13
    go_upto_region 1 with fail
    generalize W.alloc (.cells #[.int .i64 b, .int .i64 l, .int .i64 i] 26) = V0 at *
    go_wp2_with (first | (with_reducible refine YtlcdpmjdnihocaaGreat.isLoadR 26 ?_; refine YtlcdpmjdnihocaaGreat.wpList_ldR 26 Tryz.underlying26 rfl rfl _ rfl W.heap.size rfl #[.int .i64 b, .int .i64 l, .int .i64 i] 26 (0, 0) HGi.out HG.out ?_) | (go_at_call 38; fail))
    refine hrd.mono ?_
    rintro e V1 ⟨rfl, hH1⟩
    have HK : Hid (Has (Keep2 P V1.heap.size (.cells L 52)) (V1.alloc (.cells L 52)) d s) := hH1.keep2 hP _
    have HKs : Hid (Stays (Keep2 P V1.heap.size (.cells L 52))) := keep2_stays hP V1.heap.size (.cells L 52)
    have HU : Hid (∀ V t, Has (Keep2 P V1.heap.size (.cells L 52)) V d t → Has P V d t) := fun V t q => q.unkeep2.1
    have HUl : Hid (∀ V t, Has (Keep2 P V1.heap.size (.cells L 52)) V d t → V.heap[V1.heap.size]? = some (.cells L 52)) := fun V t q => q.unkeep2.2
    clear hH1 hrd HG
    generalize Keep2 P V1.heap.size (.cells L 52) = KP at *
    go_upto_region 2 with (first | (with_reducible refine YtlcdpmjdnihocaaGreat.isStoreR 52 ?_; refine YtlcdpmjdnihocaaGreat.wpList_stNew 52 rfl _ _ rfl V1.heap.size L Z 52 HI.out HLs.out HLo.out rfl rfl rfl ?_))
    generalize V1.alloc (.cells L 52) = V2 at *
    generalize V1.heap.size = gl at *
    go_wp2_with (go_at_call 9; fail)
    refine (HCl.out KP HKs.out V2 s HK.out HRm.out).mono ?_
    rintro e V3 ⟨rfl, hK3⟩
    have HK3 : Hid (Has KP V3 d (claimV s)) := hK3
    clear hK3 HK HRm HCl
    generalize claimV s = t0 at *
    generalize claimN s = c0 at *
    go_wp2_with fail
    go_loopw [23] (fun s23 wx => ∃ (m : Nat) (t : St), m ≤ 3 ∧ s23 = .int .i64 (m : Int) ∧ Hid (Has KP wx d t) ∧ Hid (R = runL t (ml m)) ∧ Hid (Wide t (wdN n m)))  (fun s23 _ => (3 - intOf s23).toNat)
    case atStart => exact ⟨0, t0, by omega, rfl, HK3.out, HR0.out, HWd.out⟩
    case round =>
      obtain ⟨m, t, hm, rfl, HT, HRt, HWt⟩ := hrel
      clear HK3 HR0 HWd
      have HLy : Hid _ := HUl.out _ _ HT.out
      by_cases h0 : m = 0
      · subst h0
        have hWt : Wide t (n + 100) := HWt.out
        have hW1 : Wide (runL t pA).1 (n + 98 + 1) := HWA.out t (n + 98) (hWt.less (by omega))
        have hRt := HRt.out
        rw [HR1.out t] at hRt
        have HRm : Hid _ := hRt
        go_wp2_with (first | (with_reducible refine YtlcdpmjdnihocaaGreat.isLoadR 52 ?_; refine YtlcdpmjdnihocaaGreat.wpList_ldR 52 Tryz.underlying52 rfl rfl _ rfl gl rfl L 52 (0, 0) HI.out HLy.out ?_) | (go_at_call 39; fail))
        refine (HA.out KP HKs.out wr t HT.out hWt.room).mono ?_
        rintro e V4 ⟨rfl, hK4⟩
        have HK4 : Hid (Has KP V4 d (runL t pA).1) := hK4
        have HW4 : Hid (Wide (runL t pA).1 (n + 98 + 1)) := hW1
        clear hK4 hWt hW1 HT HRt HWt HLy hRt
        obtain ⟨q, hq⟩ : ∃ q, runL t pA = q := ⟨_, rfl⟩
        rw [hq] at HK4 HW4 HRm ⊢
        clear hq
        obtain ⟨t1, e1⟩ := q
        dsimp only at HK4 HW4 HRm ⊢
        by_cases he : e1 = 0
        · subst he
          have hRm := HRm.out
          rw [if_pos rfl] at hRm
          have HRm : Hid _ := hRm
          go_wp2_with (go_at_call 42; fail)
          refine (HBr.out KP HKs.out V4 t1 HK4.out HW4.out.room).mono ?_
          rintro e V5 ⟨rfl, hK5⟩
          have HK5 : Hid (Has KP V5 d (barV t1)) := hK5
          have HW5 : Hid (Wide (barV t1) (n + 98)) := HW4.out.bar
          clear hK5 HK4 HW4 hRm
          generalize barV t1 = t2 at *
          generalize barE t1 = e2 at *
          by_cases he2 : e2 = 0
          · subst he2
            have hRm := HRm.out
            rw [if_pos rfl] at hRm
            have HRn : Hid (R = runL t2 (ml 1)) := hRm
            clear HRm hRm
            go_wp2_with fail
            exact ⟨⟨1, t2, by omega, by go_num, HK5.out, HRn.out, HW5.out.less (by unfold wdN; simp)⟩, by simp [intOf]⟩
          · have hRm := HRm.out
            rw [if_neg he2] at hRm
            have HRn : Hid (R = (t2, e2)) := hRm
            have hne : (e2 != 0) = true := by simpa using he2
            clear HRm hRm he2
            go_wp2_with fail
            go_ret
            exact ⟨by rw [HRn.out]; rfl, by rw [HRn.out]; exact HU.out _ _ HK5.out⟩
        · have hRm := HRm.out
          rw [if_neg he] at hRm
          have HRn : Hid (R = (t1, e1)) := hRm
          have hne : (e1 != 0) = true := by simpa using he
          clear HRm hRm he
          go_wp2_with fail
          go_ret
          exact ⟨by rw [HRn.out]; rfl, by rw [HRn.out]; exact HU.out _ _ HK4.out⟩
      by_cases h1 : m = 1
      · subst h1
        have hWt : Wide t (n + 98) := HWt.out
        have hW1 : Wide (runL t pB).1 (90 + 1) := HWB.out t 90 (hWt.less (by omega))
        have hRt := HRt.out
        rw [HR2.out t] at hRt
        have HRm : Hid _ := hRt
        go_wp2_with (first | (with_reducible refine YtlcdpmjdnihocaaGreat.isLoadR 52 ?_; refine YtlcdpmjdnihocaaGreat.wpList_ldR 52 Tryz.underlying52 rfl rfl _ rfl gl rfl L 52 (0, 0) HI.out HLy.out ?_) | (go_at_call 40; fail))
        refine (HB.out KP HKs.out wr t HT.out (hWt.less (by omega))).mono ?_
        rintro e V4 ⟨rfl, hK4⟩
        have HK4 : Hid (Has KP V4 d (runL t pB).1) := hK4
        have HW4 : Hid (Wide (runL t pB).1 (90 + 1)) := hW1
        clear hK4 hWt hW1 HT HRt HWt HLy hRt
        obtain ⟨q, hq⟩ : ∃ q, runL t pB = q := ⟨_, rfl⟩
        rw [hq] at HK4 HW4 HRm ⊢
        clear hq
        obtain ⟨t1, e1⟩ := q
        dsimp only at HK4 HW4 HRm ⊢
        by_cases he : e1 = 0
        · subst he
          have hRm := HRm.out
          rw [if_pos rfl] at hRm
          have HRm : Hid _ := hRm
          go_wp2_with (go_at_call 42; fail)
          refine (HBr.out KP HKs.out V4 t1 HK4.out HW4.out.room).mono ?_
          rintro e V5 ⟨rfl, hK5⟩
          have HK5 : Hid (Has KP V5 d (barV t1)) := hK5
          have HW5 : Hid (Wide (barV t1) (90)) := HW4.out.bar
          clear hK5 HK4 HW4 hRm
          generalize barV t1 = t2 at *
          generalize barE t1 = e2 at *
          by_cases he2 : e2 = 0
          · subst he2
            have hRm := HRm.out
            rw [if_pos rfl] at hRm
            have HRn : Hid (R = runL t2 (ml 2)) := hRm
            clear HRm hRm
            go_wp2_with fail
            exact ⟨⟨2, t2, by omega, by go_num, HK5.out, HRn.out, HW5.out.less (by unfold wdN; simp)⟩, by simp [intOf]⟩
          · have hRm := HRm.out
            rw [if_neg he2] at hRm
            have HRn : Hid (R = (t2, e2)) := hRm
            have hne : (e2 != 0) = true := by simpa using he2
            clear HRm hRm he2
            go_wp2_with fail
            go_ret
            exact ⟨by rw [HRn.out]; rfl, by rw [HRn.out]; exact HU.out _ _ HK5.out⟩
        · have hRm := HRm.out
          rw [if_neg he] at hRm
          have HRn : Hid (R = (t1, e1)) := hRm
          have hne : (e1 != 0) = true := by simpa using he
          clear HRm hRm he
          go_wp2_with fail
          go_ret
          exact ⟨by rw [HRn.out]; rfl, by rw [HRn.out]; exact HU.out _ _ HK4.out⟩
      by_cases h2 : m = 2
      · subst h2
        have hWt : Wide t 90 := HWt.out
        have hW1 : Wide (runL t pC).1 (80 + 1) := HWC.out t 80 (hWt.less (by omega))
        have hRt := HRt.out
        rw [HR3.out t] at hRt
        have HRm : Hid _ := hRt
        go_wp2_with (first | (with_reducible refine YtlcdpmjdnihocaaGreat.isLoadR 52 ?_; refine YtlcdpmjdnihocaaGreat.wpList_ldR 52 Tryz.underlying52 rfl rfl _ rfl gl rfl L 52 (0, 0) HI.out HLy.out ?_) | (go_at_call 41; fail))
        refine (HC.out KP HKs.out wr t HT.out hWt.room).mono ?_
        rintro e V4 ⟨rfl, hK4⟩
        have HK4 : Hid (Has KP V4 d (runL t pC).1) := hK4
        have HW4 : Hid (Wide (runL t pC).1 (80 + 1)) := hW1
        clear hK4 hWt hW1 HT HRt HWt HLy hRt
        obtain ⟨q, hq⟩ : ∃ q, runL t pC = q := ⟨_, rfl⟩
        rw [hq] at HK4 HW4 HRm ⊢
        clear hq
        obtain ⟨t1, e1⟩ := q
        dsimp only at HK4 HW4 HRm ⊢
        by_cases he : e1 = 0
        · subst he
          have hRm := HRm.out
          rw [if_pos rfl] at hRm
          have HRm : Hid _ := hRm
          go_wp2_with (go_at_call 42; fail)
          refine (HBr.out KP HKs.out V4 t1 HK4.out HW4.out.room).mono ?_
          rintro e V5 ⟨rfl, hK5⟩
          have HK5 : Hid (Has KP V5 d (barV t1)) := hK5
          have HW5 : Hid (Wide (barV t1) (80)) := HW4.out.bar
          clear hK5 HK4 HW4 hRm
          generalize barV t1 = t2 at *
          generalize barE t1 = e2 at *
          by_cases he2 : e2 = 0
          · subst he2
            have hRm := HRm.out
            rw [if_pos rfl] at hRm
            have HRn : Hid (R = runL t2 (ml 3)) := hRm
            clear HRm hRm
            go_wp2_with fail
            exact ⟨⟨3, t2, by omega, by go_num, HK5.out, HRn.out, HW5.out.less (by unfold wdN; simp)⟩, by simp [intOf]⟩
          · have hRm := HRm.out
            rw [if_neg he2] at hRm
            have HRn : Hid (R = (t2, e2)) := hRm
            have hne : (e2 != 0) = true := by simpa using he2
            clear HRm hRm he2
            go_wp2_with fail
            go_ret
            exact ⟨by rw [HRn.out]; rfl, by rw [HRn.out]; exact HU.out _ _ HK5.out⟩
        · have hRm := HRm.out
          rw [if_neg he] at hRm
          have HRn : Hid (R = (t1, e1)) := hRm
          have hne : (e1 != 0) = true := by simpa using he
          clear HRm hRm he
          go_wp2_with fail
          go_ret
          exact ⟨by rw [HRn.out]; rfl, by rw [HRn.out]; exact HU.out _ _ HK4.out⟩
      obtain rfl : m = 3 := by omega
      have hRt := HRt.out
      rw [HR4.out t] at hRt
      have HRn : Hid (R = (t, 0)) := hRt
      clear hRt HRt HWt HLy
      go_wp2_with fail
      go_ret
      exact ⟨by rw [HRn.out]; rfl, by rw [HRn.out]; exact HU.out _ _ HT.out⟩
  · have HE : Hid (mkE b l i s = rdyE b l i s) := by show _ = _; unfold mkE; rw [if_neg hr]
    have HV : Hid (mkV b l i s = s) := by show _ = _; unfold mkV; rw [if_neg hr]
    rw [if_neg hr] at hrd
    rw [HE.out, HV.out]
    have hne : (rdyE b l i s != 0) = true := by simpa using hr
    clear hr h hw hc HE HV
    unfold YtlcdpmjdnihocaaGreatP.layZ at *
    generalize rdyE b l i s = re at *
    generalize YtlcdpmjdnihocaaGreatP.lay9 0 0 0 0 0 0 0 0 0 = Z at *
    have HZs : Hid (Z.size = Z.size) := (rfl : Z.size = Z.size)
    go_enter Tryz.func13, Tryz.ntmps13
    go_upto_region 1 with fail
    generalize W.alloc (.cells #[.int .i64 b, .int .i64 l, .int .i64 i] 26) = V0 at *
    go_wp2_with (first | (with_reducible refine YtlcdpmjdnihocaaGreat.isLoadR 26 ?_; refine YtlcdpmjdnihocaaGreat.wpList_ldR 26 Tryz.underlying26 rfl rfl _ rfl W.heap.size rfl #[.int .i64 b, .int .i64 l, .int .i64 i] 26 (0, 0) HGi.out HG.out ?_) | (go_at_call 38; fail))
    refine hrd.mono ?_
    rintro e V1 ⟨rfl, hH1⟩
    have HK : Hid (Has P (V1.alloc (.cells Z 52)) d s) := hH1.later hP (below_new _ _)
    clear hH1 hrd HG
    go_wp2_with (first | (with_reducible refine YtlcdpmjdnihocaaGreat.isStoreR 52 ?_; refine YtlcdpmjdnihocaaGreat.wpList_stNew 52 rfl _ _ rfl V1.heap.size Z Z 52 HZi.out (rfl : Z.size = Z.size) HZo.out rfl rfl rfl ?_))
    go_ret
    exact ⟨rfl, HK.out⟩
end Go.Proofs.YtlcdpmjdnihocaaGreatD
/- What a row of writes and barriers leaves on a disk, wherever it stops, whatever is kept: the plain side of mkfs; no condition but that the writes are within the disk. -/
namespace Go.Proofs.YtlcdpmjdnihocaaGreatD
open Go.RowKit
/-- One that is let through. -/
def goV (s : St) : MOp → St
  | some c => writeS s c.1 c.2
  | none => barS s
def allV (s : St) (l : List MOp) : St := l.foldl goV s
theorem allV_cons (s : St) (o : MOp) (l : List MOp) : allV s (o :: l) = allV (goV s o) l := rfl
theorem allV_append (s : St) (a b : List MOp) : allV s (a ++ b) = allV (allV s a) b := by unfold allV; rw [List.foldl_append]
/-- Within the disk. -/
def InOp (n : Int) : MOp → Prop
  | some c => 0 ≤ c.1 ∧ c.1 < n
  | none => True
theorem goV_rest (s : St) (o : MOp) : (goV s o).n = s.n ∧ (goV s o).made = (letV s).made ∧ (goV s o).reads = s.reads ∧ (goV s o).claims = s.claims ∧ (goV s o).fuse = (letV s).fuse ∧ (goV s o).stopped = (letV s).stopped ∧ (goV s o).claimed = s.claimed := by
  obtain ⟨_, l2, l3, l4⟩ := letV_most s
  cases o with
  | none =>
    obtain ⟨b1, b2, b3, b4, b5, b6, b7, _, _⟩ := barS_rest s
    exact ⟨b1, b2, b3.trans l2, b4.trans l3, b5, b6, b7.trans l4⟩
  | some c => exact ⟨letV_n s, rfl, l2, l3, rfl, rfl, l4⟩
theorem do_goes {s : St} {o : MOp} (hs : s.stopped = false) (hl : lets s = true) (ho : InOp s.n o) : doE s o = 0 ∧ doV s o = goV s o := by
  cases o with
  | none => exact ⟨by show barE s = 0; unfold barE; rw [hs, hl]; rfl, by show barV s = barS s; unfold barV; rw [hs, hl]; rfl⟩
  | some c =>
    have hr : refV s c.1 = 0 := by unfold refV; rw [hs, if_neg (by simp), if_pos (show 0 ≤ c.1 ∧ c.1 < s.n from ho)]
    exact ⟨by show writeE s c.1 = 0; unfold writeE; rw [if_pos hr, if_pos hl], by show writeV s c.1 c.2 = writeS s c.1 c.2; unfold writeV; rw [if_pos hr, if_pos hl]⟩
theorem do_dead {s : St} {o : MOp} (hs : s.stopped = false) (hl : lets s = false) (ho : InOp s.n o) : doE s o = 3 ∧ doV s o = { s with stopped := true } := by
  cases o with
  | none => exact ⟨by show barE s = 3; unfold barE; rw [hs, hl]; rfl, by show barV s = _; unfold barV; rw [hs, hl]; exact letV_dead hl⟩
  | some c =>
    have hr : refV s c.1 = 0 := by unfold refV; rw [hs, if_neg (by simp), if_pos (show 0 ≤ c.1 ∧ c.1 < s.n from ho)]
    refine ⟨by show writeE s c.1 = 3; unfold writeE; rw [if_pos hr, if_neg (by rw [hl]; simp)], ?_⟩
    show writeV s c.1 c.2 = _
    unfold writeV
    rw [if_pos hr, if_neg (by rw [hl]; simp)]
    exact letV_dead hl
theorem lets_fuse {s : St} (h : s.fuse ≠ 0) : lets s = true ∧ (letV s).fuse = (if s.fuse = -1 then -1 else s.fuse - 1) ∧ (letV s).made = s.made + 1 ∧ (letV s).stopped = s.stopped := by
  have hl : lets s = true := by unfold lets; simpa using h
  obtain ⟨h1, h2, _, _, h5⟩ := letV_live hl
  exact ⟨hl, h5, h2, h1⟩
/-- All of it goes through. -/
theorem run_goes : ∀ (l : List MOp) (s : St), s.stopped = false → (∀ o ∈ l, InOp s.n o) → (s.fuse = -1 ∨ (l.length : Int) ≤ s.fuse) → runL s l = (allV s l, 0) ∧ (allV s l).stopped = false ∧ (allV s l).made = s.made + l.length ∧ (allV s l).n = s.n ∧ (allV s l).reads = s.reads ∧ (allV s l).claims = s.claims ∧ (allV s l).fuse = (if s.fuse = -1 then -1 else s.fuse - l.length) ∧ (allV s l).claimed = s.claimed
  | [], s, hs, _, _ => by
    refine ⟨rfl, hs, by simp [allV], rfl, rfl, rfl, ?_, rfl⟩
    show s.fuse = _
    split
    · assumption
    · simp
  | o :: t, s, hs, ho, hf => by
    have h0 : s.fuse ≠ 0 := by rw [List.length_cons] at hf; omega
    obtain ⟨hl, f1, f2, f3⟩ := lets_fuse h0
    obtain ⟨d1, d2⟩ := do_goes hs hl (ho o (by simp))
    obtain ⟨g1, g2, g3, g4, g5, g6, g7⟩ := goV_rest s o
    have hs2 : (goV s o).stopped = false := g6.trans (f3.trans hs)
    have ih := run_goes t (goV s o) hs2 (fun x hx => by rw [g1]; exact ho x (by simp [hx])) (by
      rw [g5, f1]
      rw [List.length_cons] at hf
      split
      · exact .inl rfl
      · exact .inr (by omega))
    obtain ⟨i1, i2, i3, i4, i5, i6, i7, i8⟩ := ih
    rw [runL_cons, d1, if_pos rfl, d2, allV_cons]
    refine ⟨i1, i2, by rw [i3, g2, f2, List.length_cons]; omega, i4.trans g1, i5.trans g3, i6.trans g4, ?_, i8.trans g7⟩
    rw [i7, g5, f1, List.length_cons]
    by_cases q : s.fuse = -1
    · rw [if_pos q, if_pos rfl, if_pos q]
    · rw [if_neg q, if_neg q, if_neg (by rw [List.length_cons] at hf; omega)]
      omega
/-- It stops where the fuse has none left. -/
theorem run_stops : ∀ (l : List MOp) (s : St), s.stopped = false → (∀ o ∈ l, InOp s.n o) → 0 ≤ s.fuse → s.fuse < l.length → runL s l = ({ allV s (l.take s.fuse.toNat) with stopped := true }, 3) ∧ (allV s (l.take s.fuse.toNat)).made = s.made + s.fuse
  | [], s, _, _, h0, h1 => by simp at h1; omega
  | o :: t, s, hs, ho, h0, h1 => by
    by_cases q : s.fuse = 0
    · have hl : lets s = false := by unfold lets; simp [q]
      obtain ⟨d1, d2⟩ := do_dead hs hl (ho o (by simp))
      rw [runL_cons, d1, if_neg (by decide), d2, show s.fuse.toNat = 0 by omega]
      exact ⟨rfl, by simp [allV, q]⟩
    · obtain ⟨hl, f1, f2, f3⟩ := lets_fuse q
      obtain ⟨d1, d2⟩ := do_goes hs hl (ho o (by simp))
      obtain ⟨g1, g2, g3, g4, g5, g6, g7⟩ := goV_rest s o
      have hfu : (goV s o).fuse = s.fuse - 1 := by rw [g5, f1, if_neg (by omega)]
      have ih := run_stops t (goV s o) (g6.trans (f3.trans hs)) (fun x hx => by rw [g1]; exact ho x (by simp [hx])) (by rw [hfu]; omega) (by rw [hfu]; rw [List.length_cons] at h1; omega)
      obtain ⟨i1, i2⟩ := ih
      have ht : s.fuse.toNat = (goV s o).fuse.toNat + 1 := by rw [hfu]; omega
      rw [runL_cons, d1, if_pos rfl, d2, ht, List.take_succ_cons, allV_cons]
      exact ⟨i1, by rw [i2, g2, f2, hfu]; omega⟩
/-- What is held and what waits goes by that alone. -/
theorem goV_hw {s t : St} (h1 : s.held = t.held) (h2 : s.wait = t.wait) (o : MOp) : (goV s o).held = (goV t o).held ∧ (goV s o).wait = (goV t o).wait := by
  cases o with
  | none =>
    refine ⟨?_, rfl⟩
    obtain ⟨_, _, _, _, _, _, _, _, e1⟩ := barS_rest s
    obtain ⟨_, _, _, _, _, _, _, _, e2⟩ := barS_rest t
    show (barS s).held = (barS t).held
    rw [e1, e2, h2]
    have key : ∀ (l : List Cel) (a b : St), a.held = b.held → (holdAll a l).held = (holdAll b l).held := fun l => by
      induction l with
      | nil => exact fun a b q => q
      | cons c t ih =>
        intro a b q
        exact ih (holdV a c.1 c.2) (holdV b c.1 c.2) (by unfold holdV; rw [q])
    exact key _ _ _ h1
  | some c => exact ⟨by show (letV s).held = (letV t).held; rw [letV_held, letV_held, h1], by show s.wait ++ _ = t.wait ++ _; rw [h2]⟩
theorem allV_hw : ∀ (l : List MOp) {s t : St}, s.held = t.held → s.wait = t.wait → (allV s l).held = (allV t l).held ∧ (allV s l).wait = (allV t l).wait
  | [], _, _, h1, h2 => ⟨h1, h2⟩
  | o :: l, s, t, h1, h2 => by
    obtain ⟨g1, g2⟩ := goV_hw h1 h2 o
    rw [allV_cons, allV_cons]
    exact allV_hw l g1 g2
theorem allV_writes : ∀ (cs : List Cel) (s : St), (allV s (cs.map some)).held = s.held ∧ (allV s (cs.map some)).wait = s.wait ++ cs
  | [], s => ⟨rfl, by simp [allV]⟩
  | c :: t, s => by
    obtain ⟨h1, h2⟩ := allV_writes t (goV s (some c))
    rw [List.map_cons, allV_cons]
    refine ⟨h1.trans (letV_held s), ?_⟩
    rw [h2]
    show (s.wait ++ [(c.1, c.2)]) ++ t = _
    simp
theorem allV_bar (s : St) : (allV s [none]).held = (holdAll s s.wait).held ∧ (allV s [none]).wait = [] := by
  obtain ⟨_, _, _, _, _, _, _, h1, h2⟩ := barS_rest s
  exact ⟨h2, h1⟩
theorem holdAll_held {s t : St} (h : s.held = t.held) (l : List Cel) : (holdAll s l).held = (holdAll t l).held := by
  induction l generalizing s t with
  | nil => exact h
  | cons c l ih => exact ih (s := holdV s c.1 c.2) (t := holdV t c.1 c.2) (by unfold holdV; rw [h])
theorem holdAll_off (k : Int) : ∀ (l : List Cel) (s : St), (∀ c ∈ l, c.1 ≠ k) → (holdAll s l).held k = s.held k
  | [], _, _ => rfl
  | c :: t, s, h => by
    show (holdAll (holdV s c.1 c.2) t).held k = _
    rw [holdAll_off k t _ fun x hx => h x (by simp [hx])]
    show (if k = c.1 then _ else s.held k) = _
    rw [if_neg fun q => h c (by simp) q.symm]
theorem kept_sub : ∀ (l : List Cel) (kl : List Bool) (c : Cel), c ∈ keptL l kl → c ∈ l
  | [], kl, c, h => by unfold keptL at h; simp at h
  | x :: t, [], c, h => by unfold keptL at h; simp at h
  | x :: t, true :: kl, c, h => by
    unfold keptL at h
    rcases List.mem_cons.1 h with h | h
    · simp [h]
    · exact List.mem_cons_of_mem _ (kept_sub t kl c h)
  | x :: t, false :: kl, c, h => by
    unfold keptL at h
    exact List.mem_cons_of_mem _ (kept_sub t kl c h)
/-- The cells of the second part. -/
def mkBs (b l i : Int) : List Cel := (1, nought) :: (List.range (mkN b l i)).map fun (q : Nat) => (1 + l + (q : Int), YtlcdpmjdnihocaaGreat.coF b l i (1 + l + (q : Int)))
theorem mkB_eq (b l i : Int) : mkB b l i = (mkBs b l i).map some := by
  unfold mkB mkBs mkR
  rw [List.map_cons, List.map_map, List.drop_zero]
  rfl
theorem mkBs_pos {b l i : Int} (hf : YtlcdpmjdnihocaaGreatP.Fine b l i) : ∀ c ∈ mkBs b l i, (1 ≤ c.1 ∧ c.1 < b) ∧ Can c.2 := fun c hc => by
  obtain ⟨b1, b2, b3, b4, b5, b6, b7, b8⟩ := YtlcdpmjdnihocaaGreat.fine_bd hf
  unfold mkBs at hc
  rcases List.mem_cons.1 hc with rfl | hc
  · exact ⟨⟨by show (1 : Int) ≤ 1; omega, by show (1 : Int) < b; omega⟩, can_nought⟩
  · obtain ⟨q, hq, rfl⟩ := List.mem_map.1 hc
    have hq := List.mem_range.1 hq
    unfold mkN at hq
    exact ⟨⟨by show 1 ≤ 1 + l + (q : Int); omega, by show 1 + l + (q : Int) < b; omega⟩, can_co _ _ _ _⟩
theorem mkL_in {b l i n : Int} (hf : YtlcdpmjdnihocaaGreatP.Fine b l i) (hn : b ≤ n) : ∀ o ∈ mkL b l i 0, InOp n o := fun o ho => by
  obtain ⟨b1, _⟩ := YtlcdpmjdnihocaaGreat.fine_bd hf
  have hz : InOp n (some (0, nought)) := ⟨by show (0 : Int) ≤ 0; omega, by show (0 : Int) < n; omega⟩
  unfold mkL mkA mkC at ho
  rw [mkB_eq] at ho
  simp only [List.mem_append, List.mem_cons, List.mem_nil_iff, or_false] at ho
  rcases ho with rfl | rfl | ho | rfl | rfl | rfl
  · exact hz
  · trivial
  · obtain ⟨c, hc, rfl⟩ := List.mem_map.1 ho
    have := (mkBs_pos hf c hc).1
    exact ⟨by omega, by omega⟩
  · trivial
  · exact ⟨by show (0 : Int) ≤ 0; omega, by show (0 : Int) < n; omega⟩
  · trivial
theorem hold_zero (s : St) (f : Nat → Int) (hb : blankB f = true) : (holdAll s [(0, f)]).held 0 = none := by
  have e : (holdAll s [(0, f)]).held = fun j => if j = 0 then (if blankB f then none else some f) else s.held j := rfl
  rw [e]
  simp only [hb, if_true]
/-- Ahead of the first barrier it is what it was, or its first block is noughts; behind it its first block is noughts, or all is done. -/
theorem mk_three {b l i : Int} (hf : YtlcdpmjdnihocaaGreatP.Fine b l i) (s : St) (hw : s.wait = []) (k : Nat) (hk : k ≤ (mkL b l i 0).length) (kl : List Bool) :
    (k < 2 ∧ (holdAll (allV s ((mkL b l i 0).take k)) (keptL (allV s ((mkL b l i 0).take k)).wait kl)).held = s.held)
    ∨ (holdAll (allV s ((mkL b l i 0).take k)) (keptL (allV s ((mkL b l i 0).take k)).wait kl)).held 0 = none
    ∨ (holdAll (allV s ((mkL b l i 0).take k)) (keptL (allV s ((mkL b l i 0).take k)).wait kl)).held = (allV s (mkL b l i 0)).held := by
  obtain ⟨cs, hcs⟩ : ∃ cs, mkBs b l i = cs := ⟨_, rfl⟩
  obtain ⟨F, hF⟩ : ∃ F, YtlcdpmjdnihocaaGreatP.superF b l i = F := ⟨_, rfl⟩
  have hpos : ∀ c ∈ cs, c.1 ≠ 0 := fun c hc => by have := (mkBs_pos hf c (hcs ▸ hc)).1.1; omega
  have hL : mkL b l i 0 = some (0, nought) :: none :: (cs.map some ++ (none :: some (0, F) :: [none])) := by
    unfold mkL mkA mkC
    rw [mkB_eq, hcs, hF]
    rfl
  rw [hL] at hk ⊢
  clear hL
  have hb0 : blankB nought = true := can_nought.blank.2 rfl
  -- behind the first write
  have w1 : (allV s [some (0, nought)]).held = s.held ∧ (allV s [some (0, nought)]).wait = [(0, nought)] := by
    obtain ⟨h1, h2⟩ := allV_writes [(0, nought)] s
    rw [hw] at h2
    exact ⟨h1, h2⟩
  -- behind the first barrier
  obtain ⟨s1, hs1⟩ : ∃ s1, allV s [some (0, nought), none] = s1 := ⟨_, rfl⟩
  have w2 : s1.held 0 = none ∧ s1.wait = [] := by
    have h := allV_bar (allV s [some (0, nought)])
    rw [← allV_append] at h
    rw [show [some ((0, nought) : Cel)] ++ [none] = [some (0, nought), none] from rfl, hs1, w1.2] at h
    refine ⟨?_, h.2⟩
    rw [h.1]
    exact hold_zero _ _ hb0
  -- the second part's writes
  have w3 : ∀ j, (allV s1 ((cs.map some).take j)).held = s1.held ∧ (allV s1 ((cs.map some).take j)).wait = cs.take j := fun j => by
    rw [← List.map_take]
    obtain ⟨h1, h2⟩ := allV_writes (cs.take j) s1
    rw [w2.2] at h2
    exact ⟨h1, by simpa using h2⟩
  obtain ⟨s2, hs2⟩ : ∃ s2, allV s1 (cs.map some ++ [none]) = s2 := ⟨_, rfl⟩
  have w4 : s2.held 0 = none ∧ s2.wait = [] := by
    have h := allV_bar (allV s1 (cs.map some))
    rw [← allV_append, hs2] at h
    have h3 := w3 cs.length
    rw [List.take_of_length_le (by simp), List.take_of_length_le (by simp)] at h3
    refine ⟨?_, h.2⟩
    rw [h.1, holdAll_off 0 _ _ (by rw [h3.2]; exact hpos), h3.1]
    exact w2.1
  have w5 : (allV s2 [some (0, F)]).held = s2.held ∧ (allV s2 [some (0, F)]).wait = [(0, F)] := by
    obtain ⟨h1, h2⟩ := allV_writes [(0, F)] s2
    rw [w4.2] at h2
    exact ⟨h1, h2⟩
  have w6 : (allV s2 [some (0, F), none]).held = (holdAll s2 [(0, F)]).held ∧ (allV s2 [some (0, F), none]).wait = [] := by
    have h := allV_bar (allV s2 [some (0, F)])
    rw [← allV_append] at h
    refine ⟨?_, h.2⟩
    rw [show [some ((0, F) : Cel)] ++ [none] = [some (0, F), none] from rfl, w5.2] at h
    rw [h.1]
    exact holdAll_held w5.1 _
  have hall : allV s (some (0, nought) :: none :: (cs.map some ++ (none :: some (0, F) :: [none]))) = allV s2 [some (0, F), none] := by
    rw [show some ((0, nought) : Cel) :: none :: (cs.map some ++ (none :: some (0, F) :: [none])) = [some (0, nought), none] ++ ((cs.map some ++ [none]) ++ [some (0, F), none]) by simp, allV_append, hs1, allV_append, hs2]
  rcases (show k = 0 ∨ k = 1 ∨ (∃ j, k = j + 2 ∧ j ≤ cs.length) ∨ k = cs.length + 3 ∨ k = cs.length + 4 ∨ k = cs.length + 5 by
    simp only [List.length_cons, List.length_append, List.length_map, List.length_nil] at hk
    by_cases q : k ≤ cs.length + 2
    · by_cases q0 : k < 2
      · omega
      · exact .inr (.inr (.inl ⟨k - 2, by omega, by omega⟩))
    · omega) with rfl | rfl | ⟨j, rfl, hj⟩ | rfl | rfl | rfl
  · left
    refine ⟨by omega, ?_⟩
    show (holdAll s (keptL s.wait kl)).held = s.held
    rw [hw]
    cases kl with
    | nil => rfl
    | cons _ _ => rfl
  · show _ ∨ (holdAll (allV s [some (0, nought)]) (keptL (allV s [some (0, nought)]).wait kl)).held 0 = none ∨ _
    rw [List.take_succ_cons, List.take_zero, w1.2]
    match kl with
    | [] => exact .inl ⟨by omega, w1.1⟩
    | false :: _ => exact .inl ⟨by omega, w1.1⟩
    | true :: _ =>
      right; left
      exact hold_zero _ _ hb0
  · right; left
    rw [List.take_succ_cons, List.take_succ_cons, List.take_append_of_le_length (by simpa using hj)]
    rw [show some ((0, nought) : Cel) :: none :: (cs.map some).take j = [some (0, nought), none] ++ (cs.map some).take j from rfl, allV_append, hs1]
    obtain ⟨h1, h2⟩ := w3 j
    rw [holdAll_off 0 _ _ (fun c hc => hpos c (List.mem_of_mem_take (h2 ▸ kept_sub _ _ c hc))), h1]
    exact w2.1
  · right; left
    rw [show (some ((0, nought) : Cel) :: none :: (cs.map some ++ (none :: some (0, F) :: [none]))).take (cs.length + 3) = [some (0, nought), none] ++ (cs.map some ++ [none]) by
      rw [List.take_succ_cons, List.take_succ_cons, List.take_append, List.take_of_length_le (by simp)]
      simp, allV_append, hs1, hs2, w4.2]
    have : keptL [] kl = [] := by cases kl <;> rfl
    rw [this]
    exact w4.1
  · rw [show (some ((0, nought) : Cel) :: none :: (cs.map some ++ (none :: some (0, F) :: [none]))).take (cs.length + 4) = [some (0, nought), none] ++ ((cs.map some ++ [none]) ++ [some (0, F)]) by
      rw [List.take_succ_cons, List.take_succ_cons, List.take_append, List.take_of_length_le (by simp)]
      simp, hall, allV_append, hs1, allV_append, hs2, w5.2]
    match kl with
    | [] => right; left; show (allV s2 [some (0, F)]).held 0 = none; rw [w5.1]; exact w4.1
    | false :: _ => right; left; show (allV s2 [some (0, F)]).held 0 = none; rw [w5.1]; exact w4.1
    | true :: t =>
      right; right
      rw [w6.1]
      have : keptL [(0, F)] (true :: t) = [(0, F)] := by cases t <;> rfl
      rw [this]
      exact holdAll_held w5.1 _
  · right; right
    rw [List.take_of_length_le (by simp), hall, w6.2]
    have : keptL [] kl = [] := by cases kl <;> rfl
    rw [this]
    rfl
end Go.Proofs.YtlcdpmjdnihocaaGreatD
/- What an image that may be tells when it is loaded; no condition. -/
namespace Go.Proofs.YtlcdpmjdnihocaaGreatD
open Go.RowKit Go.Maps
theorem rises_rise {n : Int} : ∀ (l : List Cel) (a : Int), risesB n a l = true → Rise a l
  | [], _, _ => trivial
  | (i, x) :: t, a, h => by
    unfold risesB at h
    simp at h
    exact ⟨by omega, rises_rise t i h.2⟩
theorem rises_sound {n : Int} {l : List Cel} {a : Int} (ha : -1 ≤ a) (h : risesB n a l = true) (hc : ∀ c ∈ l, Can c.2) : Sound l := fun c hm => by
  have h1 := (rises_bounds l a ha h c hm).2.2
  refine ⟨hc c hm, fun q => ?_⟩
  rw [((hc c hm).blank).2 q] at h1
  cases h1
theorem may_rises {n : Int} {l : List Cel} (h : mayB n l = true) : bndB n = true ∧ risesB n (-1) l = true := by
  unfold mayB at h
  simpa using h
theorem load_get {n : Int} {l : List Cel} (h : mayB n l = true) (hc : ∀ c ∈ l, Can c.2) (k : Int) : ((loadV n l).held k).getD nought = atL l k := by
  unfold loadV
  rw [holdAll_get l (newV n) hc]
  exact lastV_at l (-1) (rises_rise l _ (may_rises h).2)
theorem load_one {n : Int} {l lx : List Cel} (h : mayB n l = true) (hc : ∀ c ∈ l, Can c.2) {s : St} (hs : s.held = (loadV n l).held) (hi : IsImage s lx) : lx = l :=
  hi.one (rises_rise l _ (may_rises h).2) (rises_sound (by omega) (may_rises h).2 hc) fun k => by rw [hs]; exact (load_get h hc k).symm
theorem rise_at : ∀ {m : Int} {l : List Cel}, Rise m l → ∀ {i : Nat} {c : Cel}, l[i]? = some c → atL l c.1 = c.2
  | _, [], _, i, c, h => by simp at h
  | m, (i0, x) :: t, hr, 0, c, h => by
    have e : (i0, x) = c := by simpa using h
    subst e
    unfold atL
    rw [if_pos rfl]
  | m, (i0, x) :: t, hr, i + 1, c, h => by
    have h' : t[i]? = some c := by simpa using h
    have h2 := rise_ne t i0 hr.2 c (List.mem_of_getElem? h')
    unfold atL
    rw [if_neg (by omega)]
    exact rise_at hr.2 h'
/-- A disk that was read k times. -/
def rdK (s : St) (k : Nat) : St := { s with reads := s.reads + k }
theorem rdK_zero (s : St) : rdK s 0 = s := by unfold rdK; simp
theorem rdK_succ (s : St) (k : Nat) : readS (rdK s k) = rdK s (k + 1) := by
  have e : s.reads + (k : Int) + 1 = s.reads + ((k + 1 : Nat) : Int) := by omega
  show ({ s with reads := s.reads + (k : Int) + 1 } : St) = { s with reads := s.reads + ((k + 1 : Nat) : Int) }
  rw [e]
theorem loadV_same (n : Int) (l : List Cel) : (loadV n l).n = n ∧ (loadV n l).wait = [] ∧ (loadV n l).stopped = false ∧ (loadV n l).reads = 0 ∧ (loadV n l).made = 0 ∧ (loadV n l).claims = 0 ∧ (loadV n l).ops = [] := by
  obtain ⟨h, e⟩ := holdAll_same l (newV n)
  unfold loadV
  rw [e]
  exact ⟨rfl, rfl, rfl, rfl, rfl, rfl, rfl⟩
end Go.Proofs.YtlcdpmjdnihocaaGreatD
/- Whole rows loaded and stored, of any type; blocks with their numbers in rows of their own; no condition. -/
namespace Go.Proofs.YtlcdpmjdnihocaaGreatD
open Go.RowKit Go.Maps
section
variable {ops : Array Oper} {rest : List Oper} {Q : Exit → Act → World → Prop} {a : Act} {w : World} {dst : Option Tmp} {x y : Operand} {ty : TypeId} {pos : String} {aft : Array Edge} {gd : Option (Nat × Bool)}
theorem isEq (t t' : TypeId) {bo : BinOp} (h : wpList Tryz.prog ops Q (⟨dst, .binOp bo t x y t', ty, pos, aft, gd⟩ :: rest) a w) : wpList Tryz.prog ops Q (⟨dst, .binOp bo t x y t', ty, pos, aft, gd⟩ :: rest) a w := h
theorem isBuild (t : TypeId) {ps : Array (Nat × Operand)} (h : wpList Tryz.prog ops Q (⟨dst, .build t ps, ty, pos, aft, gd⟩ :: rest) a w) : wpList Tryz.prog ops Q (⟨dst, .build t ps, ty, pos, aft, gd⟩ :: rest) a w := h
end
section
variable {ops : Array Oper} {rest : List Oper} {o : Oper} {a : Act} {w : World} {Q : Exit → Act → World → Prop}
/-- A whole row is loaded, of any type that is a row. -/
theorem wpList_ldR (ty : TypeId) {d : TypeDesc} (hu : Tryz.prog.underlying ty = some d) (hd : d.isRow = true) (hw : Region.wanted o (yielded ops a.tmps) = true) (x : Operand) (ho : o.op = .load ty x)
    (g : Nat) (hx : a.eval x = .pointer (some ⟨g, 0, none⟩)) (cs : Array Value) (t : TypeId) (fr : Nat × Nat) (hi : (Tryz.prog.info? ty).map (·.size) = some cs.size) (hg : w.heap[g]? = some (.cells cs t fr))
    (h : wpList Tryz.prog ops Q rest (a.put o.dst (.agg cs)) w) : wpList Tryz.prog ops Q (o :: rest) a w := by
  unfold wpList
  rw [if_pos hw]
  refine .inl ?_
  unfold Oper.wp execOp
  simp only [ho, hx, Instr.loadAt, Instr.sureAddr, Sem.run_bind, Sem.run_pure, Result.andThen_ok, run_loadVar_row w g t ty cs fr d hg hu (by cases d <;> first | rfl | cases hd) hi]
  exact h
theorem wpList_stR (ty : TypeId) (hgd : o.guard = none) (x y : Operand) (ho : o.op = .store ty x y)
    (g : Nat) (cs c0 : Array Value) (t : TypeId) (hi : (Tryz.prog.info? ty).map (·.size) = some cs.size) (hs : c0.size = cs.size) (h1 : cs.all (·.oneCell') = true)
    (hx : a.eval x = .pointer (some ⟨g, 0, none⟩)) (hy : a.eval y = .agg cs) (hg : w.heap[g]? = some (.cells c0 t))
    (h : wpList Tryz.prog ops Q rest (a.put o.dst undef) (w.setRow g cs)) : wpList Tryz.prog ops Q (o :: rest) a w :=
  wpList_plain hgd fun _ hK => by
    unfold Oper.wp execOp
    simp only [ho, hx, hy, Instr.storeAt, Instr.sureAddr, Sem.run_bind, Sem.run_pure, Result.andThen_ok, run_storeVar_row w g t ty c0 cs hg hi hs h1]
    exact hK _ _ h
theorem wpList_stNew (ty : TypeId) (hgd : o.guard = none) (x y : Operand) (ho : o.op = .store ty x y)
    (g : Nat) (cs c0 : Array Value) (t : TypeId) (hi : (Tryz.prog.info? ty).map (·.size) = some cs.size) (hs : c0.size = cs.size) (h1 : cs.all (·.oneCell') = true)
    (hx : a.eval x = .pointer (some ⟨g, 0, none⟩)) (hgw : g = w.heap.size) (hy : a.eval y = .agg cs)
    (h : wpList Tryz.prog ops Q rest (a.put o.dst undef) (w.alloc (.cells cs t))) : wpList Tryz.prog ops Q (o :: rest) a (w.alloc (.cells c0 t)) := by
  subst hgw
  exact wpList_stR ty hgd x y ho w.heap.size cs c0 t hi hs h1 hx hy (heap_alloc_new _ _) (by rw [World.setRow_alloc_new]; exact h)
end
theorem retR {fn : Func} {p : Tmp} {ty : TypeId} {R : Ending → World → Prop} {a : Act} {w : World} {d : TypeDesc} (hu : Tryz.prog.underlying ty = some d) (hd : d.isRow = true)
    (h : fn.results = #[.cell p ty]) (g : Nat) (cs : Array Value) (t : TypeId) (hi : (Tryz.prog.info? ty).map (·.size) = some cs.size)
    (hp : a.tmps.getD p undef = .pointer (some ⟨g, 0, none⟩)) (hg : w.heap[g]? = some (.cells cs t)) (hdf : a.defers = []) (hR : R (.returned (.agg cs)) w) : bodyPost Tryz.prog fn R .ret a w :=
  bodyPost_ret (results_cell_row h a.tmps w g t cs (0, 0) _ hp hg hu (by cases d <;> first | rfl | cases hd) hi) hdf hR

theorem row_cel {W : World} {g : Nat} {l : List Cel} (h : W.heap[g]? = some (.cells (celCells l).toArray 81)) {k : Nat} {c : Cel} (hc : l[k]? = some c) : CelAt W g (k * 1025) c := by
  obtain ⟨K, hK⟩ : ∃ K, K = k * 1025 := ⟨_, rfl⟩
  have key : ∀ j, j < 1025 → ∀ v, (celRow c)[j]? = some v → W.cell? ⟨g, K + j, none⟩ = some v := fun j hj v hv => by
    have q0 := (fm_get celRow 1025 celRow_len l k j c hc hj).trans hv
    rw [← hK] at q0
    rw [cell_of_row W g _ _ 81 _ h, List.getElem?_toArray]
    exact q0
  rw [← hK]
  clear hK hc h
  refine ⟨key 0 (by omega) _ rfl, fun j v hv => ?_⟩
  have hj : j < 1024 := by have := (List.getElem?_eq_some_iff.1 hv).1; rwa [blk_list_len] at this
  rw [Nat.add_assoc, Nat.add_comm 1 j]
  refine key (j + 1) (by omega) v ?_
  rw [show (celRow c)[j + 1]? = (blk c.2).toList[j]? by simp only [celRow, List.getElem?_cons_succ]]
  exact hv
theorem one_cel {W : World} {g : Nat} {c : Cel} (h : W.heap[g]? = some (.cells (celRow c).toArray 81)) : CelAt W g 0 c := by
  have h' : W.heap[g]? = some (.cells (celCells [c]).toArray 81) := by rw [celCells_one]; exact h
  have := row_cel h' (k := 0) (c := c) rfl
  rwa [Nat.zero_mul] at this
theorem cel_all (c : Cel) : (celRow c).toArray.all (·.oneCell') = true := by
  rw [Array.all_eq_true_iff_forall_mem]
  intro v hv
  exact celRow_one c v (by simpa using hv)
section
variable {o : Oper} {a : Act} {W : World}
theorem wpList_execw {ops : Array Oper} {rest : List Oper} {Q : Exit → Act → World → Prop} {v : Value} {W' : World} (hw : Region.wanted o (yielded ops a.tmps) = true) (hr : (execOp a.eval o).run Tryz.prog W = .ok (.value v) W') (h : wpList Tryz.prog ops Q rest (a.put o.dst v) W') : wpList Tryz.prog ops Q (o :: rest) a W :=
  BigFrame.wpList_want hw fun _ hK => by
    unfold Oper.wp
    rw [hr]
    exact hK _ _ h
theorem eqgB (x y : Operand) (F G : Array Value) (u : World) : (eqGuard .eql 79 x y (.agg F) (.agg G)).run Tryz.prog u = .ok () u := by
  unfold eqGuard
  simp
theorem exec_eqBZ {x y : Operand} {f g : Nat → Int} {r : Bool} (ho : o.op = .binOp .eql 79 x y 79) (hx : a.eval x = .agg (blk f)) (hy : a.eval y = .agg (blk g)) (hr : sameB f g = r) : (execOp a.eval o).run Tryz.prog W = .ok (.value (.bool r)) W := by
  have e : (binOp .eql 79 (.agg (blk f)) (.agg (blk g))).run Tryz.prog W = .ok (.bool r) W := by
    have h := eq25 f g W
    rw [hr] at h
    generalize blk f = F at *
    generalize blk g = G at *
    simp only [binOp, Op.equal, Op.maxDepth, Sem.run_bind, h, Result.andThen_ok, Sem.run_pure]
  generalize blk f = F at *
  generalize blk g = G at *
  unfold execOp
  simp only [ho, hx, hy, Sem.run_bind, eqgB, e, Result.andThen_ok, Sem.run_pure]
theorem exec_zeroB (ho : o.op = .build 79 #[]) : (execOp a.eval o).run Tryz.prog W = .ok (.value (.agg (blk nought))) W := by
  have z := zero25
  generalize blk nought = Z at *
  simp [execOp, ho, Instr.build, z, run_underlying Tryz.underlying79, Instr.fill, Value.cells]
end
end Go.Proofs.YtlcdpmjdnihocaaGreatD

/- The document's functions of images: Whole, At; the law's own large and sameImage; lists of at most a billion blocks. -/
namespace Go.Proofs.YtlcdpmjdnihocaaGreatD
open Go.RowKit Go.Maps
def wholeE (n : Int) (l : List Cel) : Int := if mayB n l then 0 else 2
set_option maxRecDepth 20000 in
set_option maxHeartbeats 4000000 in
theorem whole_any (n : Int) (l : List Cel) (p : Option Addr) (cap : Nat) (w : World) (hl : l.length ≤ 1000000000) (h : ImgAt w p l) :
    Calls Tryz.prog 28 #[.agg #[.int .i64 n, .slice p l.length cap]] w fun e w' => e = .returned (.int .i64 (wholeE n l)) ∧ Below w.heap.size w w' := by
  have hB := below_new w (.cells #[.int .i64 n, .slice p l.length cap] 24)
  have hG := heap_alloc_new w (.cells #[.int .i64 n, .slice p l.length cap] 24)
  have HI : Hid (ImgAt w p l) := h
  clear h
  obtain ⟨N, hN⟩ : ∃ N, l.length = N := ⟨_, rfl⟩
  have HN := Hid.mk' hN
  rw [hN] at hl hB hG ⊢
  clear hN
  have h10 : ((1 : Int) ≤ n ∧ n ≤ 1048576) ↔ bndB n = true := by unfold bndB; exact decide_eq_true_iff.symm
  by_cases h1 : n < 1
  · have hres : wholeE n l = 2 := by
      have : bndB n = false := by cases q : bndB n; rfl; exact absurd (h10.2 q).1 (by omega)
      unfold wholeE mayB; rw [this]; rfl
    rw [hres]
    clear hres h10
    go_enter Tryz.func28, Tryz.ntmps28
    go_wp2
    go_ret
    exact ⟨rfl, hB⟩
  by_cases h2 : n > 1048576
  · have hres : wholeE n l = 2 := by
      have : bndB n = false := by cases q : bndB n; rfl; exact absurd (h10.2 q).2 (by omega)
      unfold wholeE mayB; rw [this]; rfl
    rw [hres]
    clear hres h10
    go_enter Tryz.func28, Tryz.ntmps28
    go_wp2
    go_ret
    exact ⟨rfl, hB⟩
  have HR : Hid (wholeE n l = if risesB n (-1) (l.drop 0) then 0 else 2) := by unfold wholeE mayB; rw [h10.1 ⟨by omega, by omega⟩]; rfl
  generalize wholeE n l = res at *
  clear h10
  have z25 := zero25
  have HBn := Hid.mk' (below_new (w.alloc (.cells #[.int .i64 n, .slice p N cap] 24)) (.cells (blk nought) 79))
  have H0 : Hid (Below w.heap.size w ((w.alloc (.cells #[.int .i64 n, .slice p N cap] 24)).alloc (.cells (blk nought) 79)) ∧ ((w.alloc (.cells #[.int .i64 n, .slice p N cap] 24)).alloc (.cells (blk nought) 79)).heap[w.heap.size]? = some (.cells #[.int .i64 n, .slice p N cap] 24) ∧ ((w.alloc (.cells #[.int .i64 n, .slice p N cap] 24)).alloc (.cells (blk nought) 79)).heap[w.heap.size + 1]? = some (.cells (blk nought) 79)) := by
    refine ⟨below_next hB HBn.out, heap_kept hG HBn.out, ?_⟩
    have := heap_alloc_new (w.alloc (.cells #[.int .i64 n, .slice p N cap] 24)) (.cells (blk nought) 79)
    simpa using this
  clear hB hG HBn
  obtain ⟨NB, eNB⟩ : ∃ NB, NB = nought := ⟨nought, rfl⟩
  have HNB := Hid.mk' eNB
  rw [← eNB] at z25 H0
  clear eNB
  go_enter Tryz.func28, Tryz.ntmps28
  go_wp2
  go_loopw [4, 5] (fun s4 s5 wx => ∃ (k : Nat) (x : Int), k ≤ N ∧ s4 = .int .i64 x ∧ s5 = .int .i64 k ∧ Hid (Below w.heap.size w wx ∧ wx.heap[w.heap.size]? = some (.cells #[.int .i64 n, .slice p N cap] 24) ∧ wx.heap[w.heap.size + 1]? = some (.cells (blk NB) 79)) ∧ Hid (res = if risesB n x (l.drop k) then 0 else 2)) (fun _ s5 _ => N - (intOf s5).toNat)
  case atStart => exact ⟨0, -1, by omega, rfl, rfl, H0.out, HR.out⟩
  case round =>
    obtain ⟨k, x, hk, rfl, rfl, H9, HR2⟩ := hrel
    clear HR H0
    have i0 : wr.cell? ⟨w.heap.size, 0, none⟩ = some (.int .i64 n) := Joins.cell_of_block H9.out.2.1 0
    have i1 : wr.cell? ⟨w.heap.size, 1, none⟩ = some (.slice p N cap) := Joins.cell_of_block H9.out.2.1 1
    by_cases hk2 : (k : Int) < N
    · have hlN := HN.out
      have hc : l[k]? = some (l[k]'(by omega)) := List.getElem?_eq_getElem _
      obtain ⟨b, off, rfl, hlt, hC⟩ := HI.out (by omega)
      have hd : l.drop k = l[k]'(by omega) :: l.drop (k + 1) := List.drop_eq_getElem_cons (by omega)
      generalize l[k]'(by omega) = c at hc hd
      have q1 : CelAt wr b (off + k * 1025) c := (hC.later H9.out.1 hlt) k c hc
      have hR := HR2.out
      rw [hd] at hR
      unfold risesB at hR
      have hbA := below_new wr (.cells (celRow c).toArray 81)
      have hA := heap_alloc_new wr (.cells (celRow c).toArray 81)
      have hcA := one_cel hA
      have h9A : Below w.heap.size w (wr.alloc (.cells (celRow c).toArray 81)) ∧ (wr.alloc (.cells (celRow c).toArray 81)).heap[w.heap.size]? = some (.cells #[.int .i64 n, .slice (some ⟨b, off, none⟩) N cap] 24) ∧ (wr.alloc (.cells (celRow c).toArray 81)).heap[w.heap.size + 1]? = some (.cells (blk NB) 79) := ⟨below_next H9.out.1 hbA, heap_kept H9.out.2.1 hbA, heap_kept H9.out.2.2 hbA⟩
      have H10 := Hid.mk' h9A
      have HQ := Hid.mk' q1
      have HSz := Hid.mk' (show (Tryz.prog.info? 81).map (·.size) = some (celRow c).toArray.size by rw [cel_size]; exact size85)
      have HAll := Hid.mk' (cel_all c)
      have HZs := Hid.mk' (show (celRow (0, nought)).toArray.size = (celRow c).toArray.size by rw [cel_size, cel_size])
      have z85 := zero85
      have j0 : (wr.alloc (.cells (celRow c).toArray 81)).cell? ⟨w.heap.size, 0, none⟩ = some (.int .i64 n) := Joins.cell_of_block h9A.2.1 0
      have j1 : (wr.alloc (.cells (celRow c).toArray 81)).cell? ⟨wr.heap.size, 0, none⟩ = some (.int .i64 c.1) := hcA.1
      have HJB := Hid.mk' (show BlkAt (wr.alloc (.cells (celRow c).toArray 81)) wr.heap.size 1 c.2 by have := hcA.2; rwa [Nat.zero_add] at this)
      have HJN := Hid.mk' h9A.2.2
      obtain ⟨y, f⟩ := c
      simp only at hR j1 HJB
      generalize (celRow (0, nought)).toArray = Z at *
      clear hd hc HR2 hC hbA hA hcA h9A q1 H9
      go_wp2_with (first | (with_reducible refine isLoad 81 ?_; refine wpList_exec rfl (exec_load85 (c := (y, f)) rfl rfl HQ.out) ?_) | (with_reducible refine isStore 81 ?_; refine wpList_stNew 81 rfl _ _ rfl _ (celRow (y, f)).toArray _ 81 HSz.out HZs.out HAll.out rfl rfl rfl ?_; refine Hid.out ?_))
      unfold Hid
      generalize (celRow (y, f)).toArray = C at *
      by_cases h3 : y ≤ x
      · have hr0 : res = 2 := by rw [hR]; simp [h3]
        have HFn := Hid.mk' H10.out.1
        clear hR
        subst hr0
        go_wp2
        go_ret
        exact ⟨rfl, HFn.out⟩
      · by_cases h4 : y ≥ n
        · have hr0 : res = 2 := by rw [hR]; simp [h4]
          have HFn := Hid.mk' H10.out.1
          clear hR
          subst hr0
          go_wp2
          go_ret
          exact ⟨rfl, HFn.out⟩
        · cases h5 : blankB f
          · have HR3 : Hid (res = if risesB n y (l.drop (k + 1)) then 0 else 2) := by
              show res = _
              rw [hR, h5]; simp [h3, h4]
            have h3' : sameB f NB = false := by rw [HNB.out]; exact h5
            clear hR
            go_wp2_with (first | (with_reducible refine isLoad 79 ?_; first | refine wpList_loadMw rfl (.tmp 39) rfl wr.heap.size 1 rfl f HJB.out ?_ | refine wpList_ldR 79 Tryz.underlying79 rfl rfl _ rfl _ rfl _ 79 (0, 0) (by rw [blk_size]; exact size25) HJN.out ?_) | (with_reducible refine isEq 79 79 ?_; refine wpList_eq58 rfl (.tmp 40) (.tmp 41) rfl f NB false rfl rfl h3' ?_))
            exact ⟨⟨k + 1, y, by omega, rfl, by go_num, H10.out, HR3.out⟩, by simp [intOf]; omega⟩
          · have hr0 : res = 2 := by rw [hR, h5]; simp
            have h3' : sameB f NB = true := by rw [HNB.out]; exact h5
            have HFn := Hid.mk' H10.out.1
            clear hR
            subst hr0
            go_wp2_with (first | (with_reducible refine isLoad 79 ?_; first | refine wpList_loadMw rfl (.tmp 39) rfl wr.heap.size 1 rfl f HJB.out ?_ | refine wpList_ldR 79 Tryz.underlying79 rfl rfl _ rfl _ rfl _ 79 (0, 0) (by rw [blk_size]; exact size25) HJN.out ?_) | (with_reducible refine isEq 79 79 ?_; refine wpList_eq58 rfl (.tmp 40) (.tmp 41) rfl f NB true rfl rfl h3' ?_))
            go_ret
            exact ⟨rfl, HFn.out⟩
    · have hr0 : res = 0 := by rw [HR2.out, List.drop_of_length_le (by have := HN.out; omega)]; rfl
      have HFn := Hid.mk' H9.out.1
      clear HR2 H9
      subst hr0
      go_wp2
      go_ret
      exact ⟨rfl, HFn.out⟩
set_option maxRecDepth 20000 in
set_option maxHeartbeats 4000000 in
theorem at_any (n : Int) (l : List Cel) (p : Option Addr) (cap : Nat) (at' : Int) (w : World) (hl : l.length ≤ 1000000000) (h : ImgAt w p l) :
    Calls Tryz.prog 76 #[.agg #[.int .i64 n, .slice p l.length cap], .int .i64 at'] w fun e w' => e = .returned (.agg (blk (atL l at'))) ∧ Below w.heap.size w w' := by
  have z25 := zero25
  have HI : Hid (ImgAt w p l) := h
  clear h
  obtain ⟨N, hN⟩ : ∃ N, l.length = N := ⟨_, rfl⟩
  have HN := Hid.mk' hN
  rw [hN] at hl ⊢
  clear hN
  have hB := below_next (below_new w (.cells #[.int .i64 n, .slice p N cap] 24)) (below_new _ (.cells (blk nought) 79))
  have hG : ((w.alloc (.cells #[.int .i64 n, .slice p N cap] 24)).alloc (.cells (blk nought) 79)).heap[w.heap.size]? = some (.cells #[.int .i64 n, .slice p N cap] 24) := heap_kept (heap_alloc_new w _) (below_new _ _)
  have hG4 : ((w.alloc (.cells #[.int .i64 n, .slice p N cap] 24)).alloc (.cells (blk nought) 79)).heap[w.heap.size + 1]? = some (.cells (blk nought) 79) := by
    have := heap_alloc_new (w.alloc (.cells #[.int .i64 n, .slice p N cap] 24)) (.cells (blk nought) 79)
    simpa using this
  have i1 : ((w.alloc (.cells #[.int .i64 n, .slice p N cap] 24)).alloc (.cells (blk nought) 79)).cell? ⟨w.heap.size, 1, none⟩ = some (.slice p N cap) := Joins.cell_of_block hG 1
  have HB := Hid.mk' hB
  have HG4 := Hid.mk' hG4
  have HR : Hid (atL l at' = atL (l.drop 0) at') := rfl
  generalize atL l at' = res at *
  clear hB hG hG4
  go_enter Tryz.func76, Tryz.ntmps76
  go_wp2
  generalize (w.alloc (.cells #[.int .i64 n, .slice p N cap] 24)).alloc (.cells (blk nought) 79) = W0 at *
  go_loopw [5] (fun s5 wx => ∃ k : Nat, k ≤ N ∧ s5 = .int .i64 k ∧ wx = W0 ∧ Hid (res = atL (l.drop k) at')) (fun s5 _ => N - (intOf s5).toNat)
  case atStart => exact ⟨0, by omega, rfl, rfl, HR.out⟩
  case round =>
    obtain ⟨k, hk, rfl, rfl, HR2⟩ := hrel
    clear HR
    by_cases hk2 : (k : Int) < N
    · have hlN := HN.out
      have hc : l[k]? = some (l[k]'(by omega)) := List.getElem?_eq_getElem _
      obtain ⟨b, off, rfl, hlt, hC⟩ := HI.out (by omega)
      have hd : l.drop k = l[k]'(by omega) :: l.drop (k + 1) := List.drop_eq_getElem_cons (by omega)
      generalize l[k]'(by omega) = c at hc hd
      obtain ⟨q1, q2⟩ : CelAt wr b (off + k * 1025) c := (hC.later HB.out hlt) k c hc
      obtain ⟨y, f⟩ := c
      have hR := HR2.out
      rw [hd] at hR
      unfold atL at hR
      simp only at hR q1 q2
      have HQ2 := Hid.mk' q2
      clear hd hc HR2 hC q2
      by_cases hy : y = at'
      · have HRf := Hid.mk' (show res = f by rw [hR, if_pos hy])
        subst hy
        clear hR
        go_wp2_with (first | (with_reducible refine isLoad 79 ?_; refine wpList_loadMw rfl (.tmp 25) rfl b (off + k * 1025 + 1) rfl f HQ2.out ?_) | (with_reducible refine isStore 79 ?_; refine wpList_store25 rfl _ _ rfl (w.heap.size + 1) f rfl rfl _ HG4.out ?_))
        rw [HRf.out]
        exact ret25 rfl (w.heap.size + 1) f rfl (setRow_heap _ _ _ _ _ _ HG4.out) rfl ⟨rfl, below_setRow HB.out (by omega) _⟩
      · have HR3 := Hid.mk' (show res = atL (l.drop (k + 1)) at' by rw [hR, if_neg hy])
        clear hR
        go_wp2
        exact ⟨⟨k + 1, by omega, by go_num, by trivial, HR3.out⟩, by simp [intOf]; omega⟩
    · have HRf := Hid.mk' (show res = nought by rw [HR2.out, List.drop_of_length_le (by have := HN.out; omega)]; rfl)
      clear HR2
      go_wp2_with (first | (with_reducible refine isBuild 79 ?_; refine wpList_exec rfl (exec_zeroB rfl) ?_) | (with_reducible refine isStore 79 ?_; refine wpList_store25 rfl _ _ rfl (w.heap.size + 1) nought rfl rfl _ HG4.out ?_))
      rw [HRf.out]
      exact ret25 rfl (w.heap.size + 1) nought rfl (setRow_heap _ _ _ _ _ _ HG4.out) rfl ⟨rfl, below_setRow HB.out (by omega) _⟩
set_option maxRecDepth 20000 in
set_option maxHeartbeats 1000000 in
theorem sameImage_any (n m : Int) (s t : List Cel) (p q : Option Addr) (cp cq : Nat) (w : World) (hls : s.length < 9223372036854775807) (hlt : t.length < 9223372036854775807) (hs : ImgAt w p s) (ht : ImgAt w q t) :
    Calls Tryz.prog 20 #[.agg #[.int .i64 n, .slice p s.length cp], .agg #[.int .i64 m, .slice q t.length cq]] w fun e w' => e = .returned (.bool ((n == m) && celsB s t)) ∧ Below w.heap.size w w' := by
  have hB := below_next (below_new w (.cells #[.int .i64 n, .slice p s.length cp] 24)) (below_new _ (.cells #[.int .i64 m, .slice q t.length cq] 24))
  have HC := Hid.mk' (sameHelds_any s t p q cp cq _ hls hlt (hs.later hB) (ht.later hB))
  cases hnm : (n == m)
  · go_enter Tryz.func20, Tryz.ntmps20
    go_wp2
    go_ret
    exact ⟨rfl, hB⟩
  · go_enter Tryz.func20, Tryz.ntmps20
    go_wp2_with (go_at_call 48; fail)
    refine Calls.mono HC.out ?_
    rintro e W1 ⟨rfl, hb1⟩
    have HB := Hid.mk' (below_next hB hb1)
    clear hb1 HC hB
    go_wp2
    go_ret
    exact ⟨by simp, HB.out⟩
end Go.Proofs.YtlcdpmjdnihocaaGreatD
/- The document's With: an image with a block written; lists of at most a million blocks. -/
namespace Go.Proofs.YtlcdpmjdnihocaaGreatD
open Go.RowKit Go.Maps
/-- The four boxes of the call, and the list that grows. -/
structure WSt (w wx : World) (im : Array Value) (b : Nat → Int) (n : Int) (p : Option Addr) (c : Nat) (acc : List Cel) : Prop where
  hl : HL (w.heap.size + 4) wx (.slice p acc.length c) acc
  bel : Below w.heap.size w wx
  r3 : wx.heap[w.heap.size]? = some (.cells im 24)
  r5 : wx.heap[w.heap.size + 1]? = some (.cells (blk b) 79)
  r6 : wx.heap[w.heap.size + 2]? = some (.cells #[.int .i64 0, .slice none 0 0] 24)
  r7 : wx.heap[w.heap.size + 3]? = some (.cells #[.int .i64 n, .slice p acc.length c] 24)
theorem WSt.later {w wx wy : World} {im : Array Value} {b : Nat → Int} {n : Int} {p : Option Addr} {c : Nat} {acc : List Cel} (h : WSt w wx im b n p c acc) (hb : Below wx.heap.size wx wy) : WSt w wy im b n p c acc := by
  refine ⟨?_, below_next h.bel hb, heap_kept h.r3 hb, heap_kept h.r5 hb, heap_kept h.r6 hb, heap_kept h.r7 hb⟩
  obtain ⟨h1, h2⟩ := h.hl
  refine ⟨h1, ?_⟩
  rcases h2 with h2 | ⟨g, cp, cur, hv, hg, hh, r⟩
  · exact .inl h2
  · exact .inr ⟨g, cp, cur, hv, hg, heap_kept hh hb, r⟩
/-- One more is appended and laid back. -/
theorem WSt.push {w wx : World} {im : Array Value} {b : Nat → Int} {n : Int} {p : Option Addr} {c : Nat} {acc : List Cel} (h : WSt w wx im b n p c acc) (x : Cel) (hl : acc.length ≤ 10000000) (ty : TypeId) :
    ∃ p' c' W', (Builtin.append_ #[22, 22] ty #[.slice p acc.length c, .slice (some ⟨wx.heap.size, 0, none⟩) 1 1]).run Tryz.prog (wx.alloc (.cells (celRow x).toArray 81)) = .ok (.slice p' (acc.length + 1) c') W' ∧
      W'.cell? ⟨w.heap.size + 3, 1, none⟩ = some (.slice p acc.length c) ∧ W'.frozen? ⟨w.heap.size + 3, 1, none⟩ = false ∧ WSt w (W'.setCell ⟨w.heap.size + 3, 1, none⟩ (.slice p' (acc.length + 1) c')) im b n p' c' (acc ++ [x]) ∧
      (∀ g o, wx.heap[g]? = some o → g ≠ w.heap.size + 3 → (∀ k, (Value.slice p acc.length c).ownBlock = some k → k ≠ g) → (W'.setCell ⟨w.heap.size + 3, 1, none⟩ (.slice p' (acc.length + 1) c')).heap[g]? = some o) ∧
      (∀ k, (Value.slice p' (acc.length + 1) c').ownBlock = some k → (Value.slice p acc.length c).ownBlock = some k ∨ wx.heap.size ≤ k) := by
  have h4 := (Array.getElem?_eq_some_iff.1 h.r7).1
  obtain ⟨v', W', hr, hown, hb, hfr, hob⟩ := h.hl.push (by omega) (by omega) x ty
  obtain ⟨p', c', hv, _⟩ := hown.img
  have hll : (acc ++ [x]).length = acc.length + 1 := by simp
  rw [hll] at hv
  subst hv
  have k3 := (hb.block _ (by omega)).trans h.r3
  have k5 := (hb.block _ (by omega)).trans h.r5
  have k6 := (hb.block _ (by omega)).trans h.r6
  have k7 := (hb.block _ (by omega)).trans h.r7
  have hf : Fr (fun i => i = w.heap.size + 3) W' (W'.setCell ⟨w.heap.size + 3, 1, none⟩ (.slice p' (acc.length + 1) c')) := Fr.setCell W' _ _ _
  refine ⟨p', c', W', hr, Joins.cell_of_block k7 1, Joins.unfrozen_of_block k7 1, ⟨?_, (h.bel.trans (hb.mono (by omega))).setCell (by simp) _, (heap_setCell_other W' _ _ _ (by simp)).trans k3, (heap_setCell_other W' _ _ _ (by simp)).trans k5, (heap_setCell_other W' _ _ _ (by simp)).trans k6, ?_⟩, fun g o ho hg hk => ?_, hob⟩
  · rw [hll]
    refine ⟨hown.1, ?_⟩
    rcases hown.2 with h | ⟨g, cp, cur, h1, h2, h3, h4⟩
    · exact .inl h
    · exact .inr ⟨g, cp, cur, h1, h2, (hf.block g (Array.getElem?_eq_some_iff.1 h3).1 (by omega)).trans h3, h4⟩
  · rw [hll]
    exact heap_setCell_same W' (w.heap.size + 3) 1 _ 24 _ k7
  · exact (heap_setCell_other W' _ _ _ hg).trans ((hfr.block g (Array.getElem?_eq_some_iff.1 ho).1 fun q => hk g q rfl).trans ho)
section
variable {ops : Array Oper} {rest : List Oper} {Q : Exit → Act → World → Prop} {a : Act} {w : World} {dst : Option Tmp} {x y : Operand} {ty : TypeId} {pos : String} {aft : Array Edge} {gd : Option (Nat × Bool)}
theorem isSlice {t : TypeId} {n : Nat} {ps : Array (Nat × Operand)} (h : wpList Tryz.prog ops Q (⟨dst, .buildSlice t n ps, ty, pos, aft, gd⟩ :: rest) a w) : wpList Tryz.prog ops Q (⟨dst, .buildSlice t n ps, ty, pos, aft, gd⟩ :: rest) a w := h
theorem isAppend {xs : Array Operand} {ts : Array TypeId} (h : wpList Tryz.prog ops Q (⟨dst, .call { callee := .builtin .append, args := xs, argTypes := ts }, ty, pos, aft, gd⟩ :: rest) a w) : wpList Tryz.prog ops Q (⟨dst, .call { callee := .builtin .append, args := xs, argTypes := ts }, ty, pos, aft, gd⟩ :: rest) a w := h
end
theorem laidGo_nil (k : Int) (b : Nat → Int) (d : Bool) : laidGo k b d [] = if d then [] else [(k, b)] := rfl
theorem laidGo_cons (k : Int) (b : Nat → Int) (d : Bool) (i : Int) (x : Nat → Int) (t : List Cel) : laidGo k b d ((i, x) :: t) = (if !d && decide (k ≤ i) then [(k, b)] else []) ++ ((if i = k then [] else [(i, x)]) ++ laidGo k b (d || decide (k ≤ i)) t) := rfl
end Go.Proofs.YtlcdpmjdnihocaaGreatD
/- What the image and the geometry of a scene that came in tell a walk; for all that can be read. -/
namespace Go.Proofs.YtlcdpmjdnihocaaGreatD
open Go.RowKit Go.ChangeShapes Go.WideShapes
theorem cellsO59 : Tryz.prog.cellsOf 81 = 1025 := by kernel_rfl
theorem cellsO46 : Tryz.prog.cellsOf 79 = 1024 := by kernel_rfl
theorem cellsO5 : Tryz.prog.cellsOf 5 = 1 := by kernel_rfl
theorem cellsO3 : Tryz.prog.cellsOf 3 = 1 := by kernel_rfl
theorem cellsO24 : Tryz.prog.cellsOf 24 = 2 := by kernel_rfl
theorem cellsO22 : Tryz.prog.cellsOf 22 = 1 := by kernel_rfl
theorem cellsO26 : Tryz.prog.cellsOf 26 = 3 := by kernel_rfl
section
variable {H : Type} {enc : TypeId × Value → H} {w : World} {base : Nat} {sp : Nat → Bool} {held : Bool} {v : Value} {x : DataW H × List MemPlace} {fuel : Nat}
theorem cellLt {b off : Nat} {v : Value} (h : w.cell? ⟨b, off, none⟩ = some v) : b < w.heap.size := by
  by_cases q : b < w.heap.size
  · exact q
  · unfold World.cell? at h
    simp only [Array.getElem?_eq_none (show w.heap.size ≤ b by omega)] at h
    simp at h
theorem plain_addr {a : Addr} {v : Value} (h : w.cell? (a.add 0) = some v) : ∃ b off, a = ⟨b, off, none⟩ ∧ b < w.heap.size := by
  obtain ⟨b, off, spot⟩ := a
  have hs : spot = none := by simpa [Addr.add] using World.cell?_spot h
  subst hs
  rw [Go.WideShapes.add_plain] at h
  exact ⟨b, off, rfl, cellLt h⟩
theorem int_of_trod {c : List Value} {n : Nat} {y : Option (DataW H × List MemPlace)} {z : DataW H × List MemPlace} (h : DataW.trod enc Tryz.prog w base sp held n 3 c = y) (hy : y = some z) : ∃ k, c = [.int .i64 k] ∧ -9223372036854775808 ≤ k ∧ k ≤ 9223372036854775807 := by
  rw [hy] at h
  obtain ⟨k, hk, _, hw⟩ := DataW.trod_int Tryz.underlying3 h
  have := bounds_i64 hw
  exact ⟨k, hk, this.1, this.2⟩
theorem blk_of_trod {cs : List Value} {n : Nat} {y : Option (DataW H × List MemPlace)} {z : DataW H × List MemPlace} (h : DataW.trod enc Tryz.prog w base sp held n 79 cs = y) (hy : y = some z) (hsz : cs.length = 1024) : ∃ f, Can f ∧ cs = (blk f).toList := by
  rw [hy] at h
  obtain ⟨xs, m, rfl, _, _, hl, hx⟩ := DataW.trod_array Tryz.underlying79 h
  have hc : ∀ i, i < 1024 → ∃ z : Int, (0 ≤ z ∧ z ≤ 255) ∧ cs[i]? = some (.int .u8 z) := by
    intro i hi
    have h1 := hx i hi
    rw [cellsO5, Nat.mul_one] at h1
    have hi' : i < xs.length := by omega
    rw [List.getElem?_eq_getElem hi'] at h1
    obtain ⟨z, hz, _, hw⟩ := DataW.trod_int Tryz.underlying5 h1
    refine ⟨z, bounds_u8 hw, ?_⟩
    have := congrArg (·[0]?) hz
    simpa [List.getElem?_take, List.getElem?_drop, Value.cells] using this
  have key : ∃ f : Nat → Int, ∀ i, i < 1024 → (0 ≤ f i ∧ f i ≤ 255) ∧ cs[i]? = some (.int .u8 (f i)) :=
    ⟨fun i => if h : i < 1024 then (hc i h).choose else 0, fun i hi => by
      simp only [hi, dif_pos]
      exact (hc i hi).choose_spec⟩
  obtain ⟨f, hf⟩ := key
  refine ⟨firsts f 1024, ⟨fun i => ?_, fun i hi => by unfold firsts; rw [if_neg (by omega)]⟩, ?_⟩
  · unfold firsts
    by_cases hi : i < 1024
    · rw [if_pos hi]; exact (hf i hi).1
    · rw [if_neg hi]; omega
  · apply List.ext_getElem?
    intro i
    by_cases hi : i < 1024
    · rw [(hf i hi).2, Array.getElem?_toList, blk_get _ _ hi]
      unfold firsts
      rw [if_pos hi]
    · rw [List.getElem?_eq_none (by omega), List.getElem?_eq_none (by rw [blk_list_len]; omega)]
theorem list2 {α : Type} {l : List α} (h : l.length = 2) : ∃ a b, l = [a, b] := by
  match l, h with
  | [a, b], _ => exact ⟨a, b, rfl⟩
theorem list3 {α : Type} {l : List α} (h : l.length = 3) : ∃ a b c, l = [a, b, c] := by
  match l, h with
  | [a, b, c], _ => exact ⟨a, b, c, rfl⟩
theorem list5 {α : Type} {l : List α} (h : l.length = 5) : ∃ a b c d e, l = [a, b, c, d, e] := by
  match l, h with
  | [a, b, c, d, e], _ => exact ⟨a, b, c, d, e, rfl⟩
theorem add_at {b off i j : Nat} : ((⟨b, off, none⟩ : Addr).add i).add j = ⟨b, off + i + j, none⟩ := by
  rw [Go.WideShapes.add_plain, Go.WideShapes.add_plain]
theorem plain_rows {a : Addr} {k : Nat} {cs : List Value} (h : w.cells? base (a.add (0 * k)) k = some cs) (hk : 0 < k) : ∃ b off, a = ⟨b, off, none⟩ ∧ b < w.heap.size := by
  obtain ⟨_, hlen, hcell⟩ := World.cells?_some h
  have h0 := hcell 0 hk
  rw [Nat.zero_mul, Go.Deep.add_add, Nat.add_zero, List.getElem?_eq_getElem (by omega)] at h0
  exact plain_addr h0
theorem cel_of_trod {cs : List Value} {n : Nat} (h : DataW.trod enc Tryz.prog w base sp held n 81 cs = some x) (hl : cs.length = 1025) : ∃ c : Cel, Can c.2 ∧ cs = celRow c := by
  obtain ⟨xs, q, _, _, _, hxl, hf⟩ := DataW.trod_struct Tryz.underlying81 h
  obtain ⟨y0, y1, rfl⟩ := list2 (show xs.length = 2 from hxl)
  have g0 : DataW.trod enc Tryz.prog w base sp held q 3 ((cs.drop 0).take (Tryz.prog.cellsOf 3)) = some y0 := hf 0 _ rfl
  have g1 : DataW.trod enc Tryz.prog w base sp held q 79 ((cs.drop 1).take (Tryz.prog.cellsOf 79)) = some y1 := hf 1 _ rfl
  rw [cellsO3, List.drop_zero] at g0
  rw [cellsO46] at g1
  obtain ⟨k, hk, _⟩ := int_of_trod g0 rfl
  obtain ⟨f, hcan, hfe⟩ := blk_of_trod g1 rfl (by rw [List.length_take, List.length_drop, hl]; omega)
  refine ⟨(k, f), hcan, ?_⟩
  have e1 : (cs.drop 1).take 1024 = cs.drop 1 := List.take_of_length_le (by rw [List.length_drop, hl]; omega)
  rw [e1] at hfe
  rw [← List.take_append_drop 1 cs, hk, hfe]
  rfl
theorem helds_of_trod (h : DataW.trod enc Tryz.prog w base sp held fuel 22 [v] = some x) : ∃ a cap l, v = .slice a (List.length l) cap ∧ ImgAt w a l ∧ l.length ≤ maxLen ∧ l.length ≤ cap ∧ ∀ c ∈ l, Can c.2 := by
  rcases Go.Deep.open_slice Tryz.underlying22 h with ⟨h0, _⟩ | ⟨a, len, cap, m, n, D, Pl, hv, _, hl, hm, hmm, _, hc⟩
  · have hv : v = .slice none 0 0 := by simpa using h0
    subst hv
    exact ⟨none, 0, [], rfl, fun q => by simp at q, by simp, by simp, fun c hc => by simp at hc⟩
  · have hv' : v = .slice (some a) len cap := by simpa using hv
    subst hv'
    have hlm : len ≤ m := by rw [hmm]; split <;> omega
    have key : ∀ i, ∃ c : Cel, Can c.2 ∧ (i < len → w.cells? base (a.add (i * 1025)) 1025 = some (celRow c)) := fun i => by
      by_cases hi : i < len
      · obtain ⟨cs, h1, h2⟩ := hc i (by omega)
        rw [cellsO59] at h1
        obtain ⟨_, hlen, _⟩ := World.cells?_some h1
        obtain ⟨c, hcan, rfl⟩ := cel_of_trod h2 hlen
        exact ⟨c, hcan, fun _ => h1⟩
      · exact ⟨(0, nought), can_nought, fun q => absurd q hi⟩
    obtain ⟨f, hf⟩ := Classical.skolem.1 key
    have hll : ((List.range len).map f).length = len := by simp
    refine ⟨some a, cap, (List.range len).map f, by rw [hll], fun h0 => ?_, by rw [hll]; omega, by rw [hll]; exact hl, fun c hc => ?_⟩
    · rw [hll] at h0
      obtain ⟨b, off, rfl, hb⟩ := plain_rows ((hf 0).2 (by omega)) (by omega)
      refine ⟨b, off, rfl, hb, fun k c hk => ?_⟩
      have hi : k < len := by have := (List.getElem?_eq_some_iff.1 hk).1; rwa [hll] at this
      rw [List.getElem?_map, List.getElem?_range hi] at hk
      have ec : f k = c := by simpa using hk
      obtain ⟨_, _, hcell⟩ := World.cells?_some ((hf k).2 hi)
      rw [ec] at hcell
      refine ⟨?_, fun j u hu => ?_⟩
      · have := hcell 0 (by omega)
        rw [add_at] at this
        rw [Nat.add_zero] at this
        rw [this]
        rfl
      · have hj : j < 1024 := by have := (List.getElem?_eq_some_iff.1 hu).1; rwa [blk_list_len] at this
        have := hcell (j + 1) (by omega)
        rw [add_at, show off + k * 1025 + (j + 1) = off + k * 1025 + 1 + j by omega] at this
        rw [this]
        unfold celRow
        rw [List.getElem?_cons_succ]
        exact hu
    · obtain ⟨i, _, rfl⟩ := List.mem_map.1 hc
      exact (hf i).1
theorem image_of_trod {cs : List Value} (h : DataW.trod enc Tryz.prog w base sp held fuel 24 cs = some x) (hl : cs.length = 2) : ∃ n p l cp, cs = [.int .i64 n, .slice p (List.length l) cp] ∧ ImgAt w p l ∧ l.length ≤ maxLen ∧ (∀ c ∈ l, Can c.2) := by
  obtain ⟨v0, v1, rfl⟩ := list2 hl
  obtain ⟨us, mm, _, _, _, hul, hg⟩ := DataW.trod_struct Tryz.underlying24 h
  obtain ⟨z0, z1, rfl⟩ := list2 (show us.length = 2 from hul)
  have i0 := hg 0 _ rfl
  have i1 := hg 1 _ rfl
  simp [cellsO3, cellsO22] at i0 i1
  obtain ⟨n, hn, _⟩ := int_of_trod i0 rfl
  obtain ⟨a, cap, l, rfl, h2, h3, _, h5⟩ := helds_of_trod i1
  have e0 : v0 = .int .i64 n := by simpa using hn
  subst e0
  exact ⟨n, a, l, cap, rfl, h2, h3, h5⟩
theorem geo_of_trod {cs : List Value} (h : DataW.trod enc Tryz.prog w base sp held fuel 26 cs = some x) (hl : cs.length = 3) : ∃ gb gl gi, cs = [.int .i64 gb, .int .i64 gl, .int .i64 gi] ∧ (-9223372036854775808 ≤ gb ∧ gb ≤ 9223372036854775807) ∧ (-9223372036854775808 ≤ gl ∧ gl ≤ 9223372036854775807) ∧ (-9223372036854775808 ≤ gi ∧ gi ≤ 9223372036854775807) := by
  obtain ⟨v0, v1, v2, rfl⟩ := list3 hl
  obtain ⟨ts, mk, _, _, _, htl, hk⟩ := DataW.trod_struct Tryz.underlying26 h
  obtain ⟨t0, t1, t2, rfl⟩ := list3 (show ts.length = 3 from htl)
  have j0 := hk 0 _ rfl
  have j1 := hk 1 _ rfl
  have j2 := hk 2 _ rfl
  simp [cellsO3] at j0 j1 j2
  obtain ⟨gb, hgb, hb⟩ := int_of_trod j0 rfl
  obtain ⟨gl, hgl, hc⟩ := int_of_trod j1 rfl
  obtain ⟨gi, hgi, hd⟩ := int_of_trod j2 rfl
  have e0 : v0 = .int .i64 gb := by simpa using hgb
  have e1 : v1 = .int .i64 gl := by simpa using hgl
  have e2 : v2 = .int .i64 gi := by simpa using hgi
  subst e0 e1 e2
  exact ⟨gb, gl, gi, rfl, hb, hc, hd⟩
end
end Go.Proofs.YtlcdpmjdnihocaaGreatD
/- Two disks beside rows of the law's own; the law's first look; how large an image and a geometry are; no condition. -/
namespace Go.Proofs.YtlcdpmjdnihocaaGreatD
open Go.RowKit
/-- Beside a disk: rows that stay. -/
structure SoP (w : World) (ks : List (Nat × Obj)) (W : World) (L : Loc) : Prop where
  new : L.from w.heap.size
  below : Below w.heap.size w W
  keep : ∀ p ∈ ks, W.heap[p.1]? = some p.2 ∧ ¬ L.has p.1
theorem soP_stays (w : World) (ks : List (Nat × Obj)) : Stays (SoP w ks) := fun W W' L L' hlt h hG => by
  refine ⟨fun k hk => ?_, h.below.trans (hG.fr.below h.new h.below.size), fun p hp => ?_⟩
  · rcases hG.own k hk with q | q
    · exact h.new k q
    · have := h.below.size; omega
  · obtain ⟨h1, h2⟩ := h.keep p hp
    have hg := (Array.getElem?_eq_some_iff.1 h1).1
    refine ⟨(hG.fr.block _ hg h2).trans h1, fun q => ?_⟩
    rcases hG.own _ q with r | r
    · exact h2 r
    · omega
/-- Beside a disk: another one, and rows that stay. -/
structure DuP (w : World) (d2 : Nat) (s2 : St) (ks : List (Nat × Obj)) (W : World) (L : Loc) : Prop where
  so : SoP w ks W L
  other : ∃ L2 : Loc, L2.d = d2 ∧ DiskAt W L2 s2 ∧ SoP w ks W L2 ∧ ∀ k, L.has k → ¬ L2.has k
theorem duP_stays (w : World) (d2 : Nat) (s2 : St) (ks : List (Nat × Obj)) : Stays (DuP w d2 s2 ks) := fun W W' L L' hlt h hG => by
  obtain ⟨L2, hd, hD, hS, ha⟩ := h.other
  have hs := soP_stays w ks W W' L L' hlt h.so hG
  have hne : ∀ k, L2.has k → ¬ L.has k := fun k q r => ha k r q
  have hD2 : DiskAt W' L2 s2 := hD.kept fun k hk => hG.fr.block k (hD.lt k hk) (hne k hk)
  refine ⟨hs, L2, hd, hD2, ⟨hS.new, hs.below, fun p hp => ⟨(hs.keep p hp).1, (hS.keep p hp).2⟩⟩, fun k hk hk2 => ?_⟩
  rcases hG.own k hk with q | q
  · exact ha k q hk2
  · have := hD.lt k hk2; omega
variable {w W W' : World} {d d2 : Nat} {s s2 : St} {ks : List (Nat × Obj)}
theorem Has.belowO (h : Has (SoP w ks) W d s) : Below w.heap.size w W := by obtain ⟨L, _, _, h⟩ := h; exact h.below
theorem Has.rowO (h : Has (SoP w ks) W d s) {g : Nat} {o : Obj} (hm : (g, o) ∈ ks) : W.heap[g]? = some o := by obtain ⟨L, _, _, h⟩ := h; exact (h.keep _ hm).1
theorem Has.belowD (h : Has (DuP w d2 s2 ks) W d s) : Below w.heap.size w W := by obtain ⟨L, _, _, h⟩ := h; exact h.so.below
theorem Has.rowD (h : Has (DuP w d2 s2 ks) W d s) {g : Nat} {o : Obj} (hm : (g, o) ∈ ks) : W.heap[g]? = some o := by obtain ⟨L, _, _, h⟩ := h; exact (h.so.keep _ hm).1
theorem Has.swapD (h : Has (DuP w d2 s2 ks) W d s) : Has (DuP w d s ks) W d2 s2 := by
  obtain ⟨L, hd, hD, h⟩ := h
  obtain ⟨L2, hd2, hD2, hS2, ha⟩ := h.other
  exact ⟨L2, hd2, hD2, hS2, L, hd, hD, h.so, fun k q r => ha k r q⟩
theorem Has.okD (h : Has (DuP w d2 s2 ks) W d s) : Ok s2 := by
  obtain ⟨L, hd, hD, h⟩ := h
  obtain ⟨L2, hd2, hD2, hS2, ha⟩ := h.other
  exact hD2.ok
theorem has_solo {L : Loc} (hD : DiskAt W' L s) (hL : L.from W.heap.size) (hb : Below W.heap.size W W') (hB : Below w.heap.size w W) (hk : ∀ p ∈ ks, W.heap[p.1]? = some p.2) : Has (SoP w ks) W' L.d s := by
  refine ⟨L, rfl, hD, fun k hk => by have := hL k hk; have := hB.size; omega, below_next hB hb, fun p hp => ?_⟩
  have h1 := hk p hp
  have hlt := (Array.getElem?_eq_some_iff.1 h1).1
  exact ⟨heap_kept h1 hb, fun q => by have := hL _ q; omega⟩
theorem Has.duo {L2 : Loc} (h : Has (SoP w ks) W d s) (hD : DiskAt W' L2 s2) (hL : L2.from W.heap.size) (hb : Below W.heap.size W W') : Has (DuP w d s ks) W' L2.d s2 := by
  have hB := h.belowO
  have h' := h.later (soP_stays w ks) hb
  obtain ⟨L, hd, hD1, hS⟩ := h
  have hlt := hD1.lt
  have hD1' := hD1.later hb
  have hS' : SoP w ks W' L := soP_stays w ks W W' L L hlt hS (Goes.ofBelow L hb)
  refine ⟨L2, rfl, hD, ⟨fun k hk => by have := hL k hk; have := hB.size; omega, below_next hB hb, fun p hp => ⟨(hS'.keep p hp).1, fun q => ?_⟩⟩, L, hd, hD1', hS', fun k hk q => ?_⟩
  · have := hL _ q
    have := (Array.getElem?_eq_some_iff.1 (hS.keep p hp).1).1
    omega
  · have := hL k hk
    have := hlt k q
    omega
theorem Has.addO (h : Has (SoP w ks) W d s) (o : Obj) : Has (SoP w ((W.heap.size, o) :: ks)) (W.alloc o) d s := by
  have h2 := h.later (soP_stays w ks) (below_new W o)
  obtain ⟨L, hd, hD, hS⟩ := h
  obtain ⟨hn, hb, hk⟩ := soP_stays w ks W _ L L hD.lt hS (Goes.ofBelow L (below_new W o))
  refine ⟨L, hd, hD.later (below_new W o), hn, hb, fun p hp => ?_⟩
  rcases List.mem_cons.1 hp with rfl | hp
  · exact ⟨heap_alloc_new _ _, fun q => by have := hD.lt _ q; simp only at this; omega⟩
  · exact hk p hp
theorem Has.addD (h : Has (DuP w d2 s2 ks) W d s) (o : Obj) : Has (DuP w d2 s2 ((W.heap.size, o) :: ks)) (W.alloc o) d s := by
  obtain ⟨L, hd, hD, hS⟩ := h
  obtain ⟨L2, hd2, hD2, hS2, ha⟩ := hS.other
  have key : ∀ (L0 : Loc) (s0 : St), DiskAt W L0 s0 → SoP w ks W L0 → SoP w ((W.heap.size, o) :: ks) (W.alloc o) L0 := fun L0 s0 hD0 h0 => by
    obtain ⟨hn, hb, hk⟩ := soP_stays w ks W _ L0 L0 hD0.lt h0 (Goes.ofBelow L0 (below_new W o))
    refine ⟨hn, hb, fun p hp => ?_⟩
    rcases List.mem_cons.1 hp with rfl | hp
    · exact ⟨heap_alloc_new _ _, fun q => by have := hD0.lt _ q; simp only at this; omega⟩
    · exact hk p hp
  exact ⟨L, hd, hD.later (below_new W o), key L s hD hS.so, L2, hd2, hD2.later (below_new W o), key L2 s2 hD2 hS2, ha⟩
/-- What mkfs makes of a disk that lets all through. -/
theorem mk_done {b l i : Int} {s : St} (hf : YtlcdpmjdnihocaaGreatP.Fine b l i) (hn : b ≤ s.n) (hs : s.stopped = false) (hfu : s.fuse = -1 ∨ ((mkN b l i + 6 : Nat) : Int) ≤ s.fuse) :
    mkE b l i s = 0 ∧ mkV b l i s = allV (claimV s) (mkL b l i 0) ∧ (mkV b l i s).made = s.made + (mkN b l i + 6 : Nat) ∧ (mkV b l i s).n = s.n ∧ (mkV b l i s).stopped = false ∧ (mkV b l i s).reads = s.reads ∧ (mkV b l i s).claims = s.claims + 1 ∧ (mkV b l i s).fuse = (if s.fuse = -1 then -1 else s.fuse - (mkN b l i + 6 : Nat)) := by
  have hr : rdyE b l i s = 0 := by
    unfold rdyE YtlcdpmjdnihocaaGreatP.ofE
    rw [if_pos hf, if_neg (by rintro (q | q); exact q rfl; omega), hs]
    rfl
  have hc : claimV s = { s with claims := s.claims + 1, claimed := true } := by unfold claimV; rw [hs]; rfl
  have hg := run_goes (mkL b l i 0) (claimV s) (by rw [hc]; exact hs) (by rw [hc]; exact mkL_in hf hn) (by rw [hc, mkL_len]; exact hfu)
  obtain ⟨g1, g2, g3, g4, g5, g6, g7, g8⟩ := hg
  have hE : mkE b l i s = 0 := by unfold mkE; rw [if_pos hr, g1]
  have hV : mkV b l i s = allV (claimV s) (mkL b l i 0) := by unfold mkV; rw [if_pos hr, g1]
  refine ⟨hE, hV, ?_, ?_, ?_, ?_, ?_, ?_⟩
  · rw [hV, g3, hc, mkL_len]
  · rw [hV, g4, hc]
  · rw [hV]; exact g2
  · rw [hV, g5, hc]
  · rw [hV, g6, hc]
  · rw [hV, g7, hc, mkL_len]
/-- What it makes of a disk that stops. -/
theorem mk_stops {b l i : Int} {s : St} (hf : YtlcdpmjdnihocaaGreatP.Fine b l i) (hn : b ≤ s.n) (hs : s.stopped = false) (h0 : 0 ≤ s.fuse) (h1 : s.fuse < ((mkN b l i + 6 : Nat) : Int)) :
    mkE b l i s = 3 ∧ mkV b l i s = { allV (claimV s) ((mkL b l i 0).take s.fuse.toNat) with stopped := true } ∧ (mkV b l i s).made = s.made + s.fuse := by
  have hr : rdyE b l i s = 0 := by
    unfold rdyE YtlcdpmjdnihocaaGreatP.ofE
    rw [if_pos hf, if_neg (by rintro (q | q); exact q rfl; omega), hs]
    rfl
  have hc : claimV s = { s with claims := s.claims + 1, claimed := true } := by unfold claimV; rw [hs]; rfl
  have hg := run_stops (mkL b l i 0) (claimV s) (by rw [hc]; exact hs) (by rw [hc]; exact mkL_in hf hn) (by rw [hc]; exact h0) (by rw [hc, mkL_len]; exact h1)
  obtain ⟨g1, g2⟩ := hg
  have hfc : (claimV s).fuse = s.fuse := by rw [hc]
  have hV : mkV b l i s = { allV (claimV s) ((mkL b l i 0).take s.fuse.toNat) with stopped := true } := by unfold mkV; rw [if_pos hr, g1, hfc]
  refine ⟨by unfold mkE; rw [if_pos hr, g1], hV, ?_⟩
  rw [hV]
  show (allV (claimV s) _).made = _
  rw [← hfc, g2, hc]
theorem fine_small : YtlcdpmjdnihocaaGreatP.Fine 400 32 60 := by
  unfold YtlcdpmjdnihocaaGreatP.Fine YtlcdpmjdnihocaaGreatP.dataAt YtlcdpmjdnihocaaGreatP.bitsAt YtlcdpmjdnihocaaGreatP.nodeB YtlcdpmjdnihocaaGreatP.bitsB
  decide
theorem mkN_small : mkN 400 32 60 = 6 := by
  unfold mkN YtlcdpmjdnihocaaGreatP.dataAt YtlcdpmjdnihocaaGreatP.bitsAt YtlcdpmjdnihocaaGreatP.nodeB YtlcdpmjdnihocaaGreatP.bitsB
  decide
theorem wide_new (n : Int) : Wide (newV n) 10000 := ⟨by show (0 : Nat) + 10000 < _; omega, by show (0 : Int) + _ < _; omega, by show (0 : Int) < _; omega, by show (0 : Int) < _; omega⟩
set_option maxRecDepth 20000 in
set_option maxHeartbeats 2000000 in
theorem lives_ok (w : World) : Calls Tryz.prog 8 #[] w fun e w' => e = .returned (.bool true) ∧ Below w.heap.size w w' := by
  have hnw := new_ok (n := 400) (by decide) w
  obtain ⟨q1, q2, q3, _⟩ := mk_done (s := newV 400) fine_small (by show (400 : Int) ≤ 400; omega) rfl (.inl rfl)
  rw [mkN_small] at q3
  have HQ1 : Hid _ := q1
  have HQ3 : Hid ((mkV 400 32 60 (newV 400)).made = 12) := q3
  have HMk : Hid (∀ V d, Has (SoP w []) V d (newV 400) → Calls Tryz.prog 13 #[.pointer (some ⟨d, 0, none⟩), .agg #[.int .i64 400, .int .i64 32, .int .i64 60]] V fun e W' => e = .returned (.int .i64 (mkE 400 32 60 (newV 400))) ∧ Has (SoP w []) W' d (mkV 400 32 60 (newV 400))) := fun V d hV => make_ok (soP_stays w []) hV 400 32 60 (by unfold YtlcdpmjdnihocaaGreatP.I64; omega) (wide_new 400) (by show (0 : Int) < _; omega)
  have HMd : Hid (∀ V d s, Has (SoP w []) V d s → Calls Tryz.prog 25 #[.pointer (some ⟨d, 0, none⟩)] V fun e W' => e = .returned (.int .i64 s.made) ∧ W' = V) := fun V d s hV => has_made hV
  clear q1 q2 q3
  go_enter Tryz.func8, Tryz.ntmps8
  go_wp2_with (go_at_call 35; fail)
  refine hnw.mono ?_
  rintro e W1 ⟨L, rfl, hD, hL, hb⟩
  have HH : Hid (Has (SoP w []) W1 L.d (newV 400)) := has_solo hD hL hb (Below.refl _ _) (fun p hp => by simp at hp)
  clear hD hL hb hnw
  generalize L.d = d at *
  go_wp2_with (go_at_call 13; fail)
  refine (HMk.out _ _ HH.out).mono ?_
  rintro e W2 ⟨rfl, h2⟩
  have HH2 : Hid (Has (SoP w []) W2 d (mkV 400 32 60 (newV 400))) := h2
  rw [HQ1.out]
  clear h2 HH HMk
  go_wp2_with (go_at_call 25; fail)
  refine (HMd.out _ _ _ HH2.out).mono ?_
  rintro e W3 ⟨rfl, he⟩
  obtain rfl := he.symm
  clear he
  rw [HQ3.out]
  have HB : Hid (Below w.heap.size w W2) := HH2.out.belowO
  clear HH2 HMd
  go_wp2
  go_ret
  exact ⟨rfl, HB.out⟩
def largeB (n : Int) (m : Nat) (i : Int) : Bool := decide (n > 9000) || (decide ((m : Int) > 400) || (decide (i > 2000) && decide (i ≤ 65535)))
set_option maxRecDepth 20000 in
set_option maxHeartbeats 2000000 in
theorem large_ok (n : Int) (p : Option Addr) (m cap : Nat) (b l i : Int) (w : World) :
    Calls Tryz.prog 5 #[.agg #[.int .i64 n, .slice p m cap], YtlcdpmjdnihocaaGreatP.geoV b l i] w fun e w' => e = .returned (.bool (largeB n m i)) ∧ Below w.heap.size w w' := by
  have hB := below_next (below_new w (.cells #[.int .i64 n, .slice p m cap] 24)) (below_new _ (.cells #[.int .i64 b, .int .i64 l, .int .i64 i] 26))
  unfold YtlcdpmjdnihocaaGreatP.geoV largeB
  have HB : Hid _ := hB
  clear hB
  cases h1 : decide (n > 9000)
  · cases h2 : decide ((m : Int) > 400)
    · cases h3 : decide (i > 2000)
      · go_enter Tryz.func5, Tryz.ntmps5
        go_wp2
        go_ret
        exact ⟨rfl, HB.out⟩
      · go_enter Tryz.func5, Tryz.ntmps5
        go_wp2
        go_ret
        exact ⟨rfl, HB.out⟩
    · go_enter Tryz.func5, Tryz.ntmps5
      go_wp2
      go_ret
      exact ⟨rfl, HB.out⟩
  · go_enter Tryz.func5, Tryz.ntmps5
    go_wp2
    go_ret
    exact ⟨rfl, HB.out⟩
end Go.Proofs.YtlcdpmjdnihocaaGreatD
