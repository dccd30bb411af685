/- The document's Same: whether two images may be and hold the same; lists of at most a billion blocks. -/
import Derived.Test.YtbnbbelkddbndaaRWith
namespace Go.Proofs.Ytbnbbelkddbndaa
open Go.RowKit Go.Maps
def rSameV (n m : Int) (s t : List Cel) : Bool := mayB n s && mayB m t && decide (n = m) && celsB s t
set_option maxRecDepth 20000 in
set_option maxHeartbeats 4000000 in
theorem refSame_any (n m : Int) (s t : List Cel) (p q : Option Addr) (cp cq : Nat) (w : World) (hls : s.length ≤ 1000000000) (hlt : t.length ≤ 1000000000) (hs : ImgAt w p s) (ht : ImgAt w q t) :
    Calls Try.prog 47 #[.agg #[.int .i64 n, .slice p s.length cp], .agg #[.int .i64 m, .slice q t.length cq]] w fun e w' => e = .returned (.bool (rSameV n m s t)) ∧ Below w.heap.size w w' := by
  have HS := Hid.mk' hs
  have HT := Hid.mk' ht
  have HWa := Hid.mk' (fun (W : World) (hW : Below w.heap.size w W) => rWhole_any n s p cp W (by omega) (hs.later hW))
  have HWb := Hid.mk' (fun (W : World) (hW : Below w.heap.size w W) => rWhole_any m t q cq W (by omega) (ht.later hW))
  unfold wholeE at HWa HWb
  have hlen : rSameV n m s t = true → s.length = t.length := fun h => by
    unfold rSameV at h
    simp only [Bool.and_eq_true] at h
    exact celsB_len h.2
  have hval : rSameV n m s t = (mayB n s && mayB m t && decide (n = m) && celsB (s.drop 0) (t.drop 0)) := rfl
  generalize rSameV n m s t = res at *
  generalize mayB n s = m1 at *
  generalize mayB m t = m2 at *
  obtain ⟨N, hN⟩ : ∃ N, s.length = N := ⟨_, rfl⟩
  obtain ⟨M, hM⟩ : ∃ M, t.length = M := ⟨_, rfl⟩
  have HN := Hid.mk' hN
  have HM := Hid.mk' hM
  rw [hN, hM] at hlen
  rw [hN] at hls HWa ⊢
  rw [hM] at hlt HWb ⊢
  clear hN hM hs ht
  have HB0 := Hid.mk' (below_next (below_new w (.cells #[.int .i64 n, .slice p N cp] 24)) (below_new (w.alloc (.cells #[.int .i64 n, .slice p N cp] 24)) (.cells #[.int .i64 m, .slice q M cq] 24)))
  have HG2 := Hid.mk' (heap_kept (heap_alloc_new w (.cells #[.int .i64 n, .slice p N cp] 24)) (below_new (w.alloc (.cells #[.int .i64 n, .slice p N cp] 24)) (.cells #[.int .i64 m, .slice q M cq] 24)))
  have hG3 := heap_alloc_new (w.alloc (.cells #[.int .i64 n, .slice p N cp] 24)) (.cells #[.int .i64 m, .slice q M cq] 24)
  rw [show (w.alloc (.cells #[.int .i64 n, .slice p N cp] 24)).heap.size = w.heap.size + 1 by simp] at hG3
  have HG3 := Hid.mk' hG3
  clear hG3
  have HV := Hid.mk' hval
  have HLn := Hid.mk' hlen
  clear hval hlen
  go_enter Try.func47, Try.ntmps47
  go_wp2_with (go_at_call 42; fail)
  refine Calls.mono (HWa.out _ HB0.out) ?_
  rintro e W1 ⟨rfl, hb1⟩
  have HB1 := Hid.mk' (below_next HB0.out hb1)
  have HG21 := Hid.mk' (heap_kept HG2.out hb1)
  have HG31 := Hid.mk' (heap_kept HG3.out hb1)
  clear hb1 HB0 HG2 HG3 HWa
  cases m1
  · have e : res = false := by rw [HV.out]; simp
    clear HV
    subst e
    go_wp2
    go_ret
    exact ⟨rfl, HB1.out⟩
  have a0 : W1.cell? ⟨w.heap.size + 1, 0, none⟩ = some (.int .i64 m) := Joins.cell_of_block HG31.out 0
  have a1 : W1.cell? ⟨w.heap.size + 1, 1, none⟩ = some (.slice q M cq) := Joins.cell_of_block HG31.out 1
  go_wp2_with (go_at_call 42; fail)
  refine Calls.mono (HWb.out _ HB1.out) ?_
  rintro e W2 ⟨rfl, hb2⟩
  have HB2 := Hid.mk' (below_next HB1.out hb2)
  have HG22 := Hid.mk' (heap_kept HG21.out hb2)
  have HG32 := Hid.mk' (heap_kept HG31.out hb2)
  clear hb2 HB1 HG21 HG31 HWb a0 a1
  cases m2
  · have e : res = false := by rw [HV.out]; simp
    clear HV
    subst e
    go_wp2
    go_ret
    exact ⟨rfl, HB2.out⟩
  have a0 : W2.cell? ⟨w.heap.size, 0, none⟩ = some (.int .i64 n) := Joins.cell_of_block HG22.out 0
  have a1 : W2.cell? ⟨w.heap.size, 1, none⟩ = some (.slice p N cp) := Joins.cell_of_block HG22.out 1
  have b0 : W2.cell? ⟨w.heap.size + 1, 0, none⟩ = some (.int .i64 m) := Joins.cell_of_block HG32.out 0
  have b1 : W2.cell? ⟨w.heap.size + 1, 1, none⟩ = some (.slice q M cq) := Joins.cell_of_block HG32.out 1
  by_cases hnm : n = m
  · subst hnm
    by_cases hNM : N = M
    · subst hNM
      have HR := Hid.mk' (show res = celsB (s.drop 0) (t.drop 0) by rw [HV.out]; simp)
      clear HV HLn
      go_wp2
      clear a0 a1 b0 b1
      go_loopw [5] (fun s5 wx => ∃ k : Nat, k ≤ N ∧ s5 = .int .i64 k ∧ Hid (Below W2.heap.size W2 wx) ∧ Hid (res = celsB (s.drop k) (t.drop k))) (fun s5 _ => N - (intOf s5).toNat)
      case atStart => exact ⟨0, by omega, rfl, Below.refl _ _, HR.out⟩
      case round =>
        obtain ⟨k, hk, rfl, HB, HR2⟩ := hrel
        clear HR
        have a1 : wr.cell? ⟨w.heap.size, 1, none⟩ = some (.slice p N cp) := Joins.cell_of_block (heap_kept HG22.out HB.out) 1
        have b1 : wr.cell? ⟨w.heap.size + 1, 1, none⟩ = some (.slice q N cq) := Joins.cell_of_block (heap_kept HG32.out HB.out) 1
        have HBw := Hid.mk' (below_next HB2.out HB.out)
        by_cases hk2 : (k : Int) < N
        · have hn := HN.out
          have hn2 := HM.out
          have hc : s[k]? = some s[k] := List.getElem?_eq_getElem (by omega)
          have hd : t[k]? = some t[k] := List.getElem?_eq_getElem (by omega)
          have hcd : s.drop k = s[k] :: s.drop (k + 1) := List.drop_eq_getElem_cons (by omega)
          have hdd : t.drop k = t[k] :: t.drop (k + 1) := List.drop_eq_getElem_cons (by omega)
          obtain ⟨g1, o1, rfl, l1, C1⟩ := HS.out (by omega)
          obtain ⟨g2, o2, rfl, l2, C2⟩ := HT.out (by omega)
          generalize s[k] = c at hc hcd
          generalize t[k] = d at hd hdd
          have q1 : CelAt wr g1 (o1 + k * 1025) c := (C1.later HBw.out l1) k c hc
          have q2 : CelAt wr g2 (o2 + k * 1025) d := (C2.later HBw.out l2) k d hd
          have hR := HR2.out
          rw [hcd, hdd] at hR
          unfold celsB at hR
          clear HR2 C1 C2 hcd hdd hc hd hn hn2
          cases hb : celB c d
          · have hr0 : res = false := by rw [hR, hb]; rfl
            clear hR
            subst hr0
            go_wp2
            refine wp_region_still_lit (by kernel_rfl) (by kernel_rfl) ?_
            repeat still_step
            refine wpStill_load44 rfl (.tmp 40) rfl g1 (o1 + k * 1025) rfl c q1 ?_
            repeat still_step
            refine wpStill_load44 rfl (.tmp 45) rfl g2 (o2 + k * 1025) rfl d q2 ?_
            repeat still_step
            refine wpStill_neq44 rfl (.tmp 41) (.tmp 46) rfl c d false rfl rfl hb ?_
            simp only [Act.put, List.setIfInBounds_toArray, List.set_cons_succ, List.set_cons_zero, Bool.not_false]
            refine wpStill_nil ?_
            go_wp2
            go_ret
            exact ⟨rfl, HBw.out.drew⟩
          · have HR3 : Hid (res = celsB (s.drop (k + 1)) (t.drop (k + 1))) := by
              have e : res = celsB (s.drop (k + 1)) (t.drop (k + 1)) := by rw [hR, hb]; rfl
              exact e
            clear hR
            go_wp2
            refine wp_region_still_lit (by kernel_rfl) (by kernel_rfl) ?_
            repeat still_step
            refine wpStill_load44 rfl (.tmp 40) rfl g1 (o1 + k * 1025) rfl c q1 ?_
            repeat still_step
            refine wpStill_load44 rfl (.tmp 45) rfl g2 (o2 + k * 1025) rfl d q2 ?_
            repeat still_step
            refine wpStill_neq44 rfl (.tmp 41) (.tmp 46) rfl c d true rfl rfl hb ?_
            simp only [Act.put, List.setIfInBounds_toArray, List.set_cons_succ, List.set_cons_zero, Bool.not_true]
            refine wpStill_nil ?_
            go_wp2
            exact ⟨⟨k + 1, by omega, by go_num, HB.out.drew, HR3.out⟩, by simp [intOf]; omega⟩
        · obtain rfl : k = N := by omega
          have hr0 : res = true := by
            rw [HR2.out, List.drop_of_length_le (by have := HN.out; omega), List.drop_of_length_le (by have := HM.out; omega)]
            rfl
          subst hr0
          go_wp2
          go_ret
          exact ⟨rfl, HBw.out⟩
    · have e : res = false := by
        cases h : res
        · rfl
        · exact absurd (HLn.out h) hNM
      clear HV HLn
      subst e
      have hlI : ¬ ((N : Int) = M) := by omega
      go_wp2
      go_ret
      exact ⟨rfl, HB2.out⟩
  · have e : res = false := by rw [HV.out]; simp [hnm]
    clear HV HLn
    subst e
    go_wp2
    go_ret
    exact ⟨rfl, HB2.out⟩
end Go.Proofs.Ytbnbbelkddbndaa
