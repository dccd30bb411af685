/- The document's Load, copies, and lists held against each other; of fewer than a hundred million blocks. -/
import Derived.Test.YtembocfghkmieaaRMay
import Derived.Test.YtembocfghkmieaaApartH2
namespace Go.Proofs.Ytembocfghkmieaa
open Go.RowKit Go.Maps
set_option maxRecDepth 20000 in
set_option maxHeartbeats 1000000 in
theorem sameHeld_any (s t : List Cel) (p q : Option Addr) (cp cq : Nat) (w : World) (hls : s.length < 9223372036854775807) (_hlt : t.length < 9223372036854775807) (hs : ImgAt w p s) (ht : ImgAt w q t) :
    Calls Try.prog 69 #[.slice p s.length cp, .slice q t.length cq] w fun e w' => e = .returned (.bool (celsB s t)) ∧ Below w.heap.size w w' := by
  by_cases hl : s.length = t.length
  · have HS : Hid (ImgAt w p s) := hs
    have HT : Hid (ImgAt w q t) := ht
    have HR : Hid (celsB s t = celsB (s.drop 0) (t.drop 0)) := rfl
    generalize celsB s t = res at *
    obtain ⟨n, hn⟩ : ∃ n, s.length = n := ⟨_, rfl⟩
    have hn2 : t.length = n := by omega
    rw [hn, hn2]
    rw [hn] at hls
    have HL : Hid (s.length = n ∧ t.length = n) := ⟨hn, hn2⟩
    clear hs ht hl hn hn2
    go_enter Try.func69, Try.ntmps69
    go_wp2
    go_loopw [5] (fun s5 wx => ∃ k : Nat, k ≤ n ∧ s5 = .int .i64 k ∧ Hid (Below w.heap.size w wx) ∧ Hid (res = celsB (s.drop k) (t.drop k))) (fun s5 _ => n - (intOf s5).toNat)
    case atStart => exact ⟨0, by omega, rfl, Below.refl _ _, HR.out⟩
    case round =>
      obtain ⟨k, hk, rfl, HB, HR2⟩ := hrel
      clear HR
      by_cases hk2 : (k : Int) < n
      · obtain ⟨hn, hn2⟩ := HL.out
        have hc : s[k]? = some s[k] := List.getElem?_eq_getElem (by omega)
        have hd : t[k]? = some t[k] := List.getElem?_eq_getElem (by omega)
        have hcd : s.drop k = s[k] :: s.drop (k + 1) := List.drop_eq_getElem_cons (by omega)
        have hdd : t.drop k = t[k] :: t.drop (k + 1) := List.drop_eq_getElem_cons (by omega)
        obtain ⟨b1, o1, rfl, l1, C1⟩ := HS.out (by omega)
        obtain ⟨b2, o2, rfl, l2, C2⟩ := HT.out (by omega)
        generalize s[k] = c at hc hcd
        generalize t[k] = d at hd hdd
        have q1 : CelAt wr b1 (o1 + k * 1025) c := (C1.later HB.out l1) k c hc
        have q2 : CelAt wr b2 (o2 + k * 1025) d := (C2.later HB.out l2) k d hd
        have hR := HR2.out
        rw [hcd, hdd] at hR
        unfold celsB at hR
        clear HR2 C1 C2 hcd hdd hc hd hn hn2
        cases hb : celB c d
        · have hr0 : res = false := by rw [hR, hb]; rfl
          clear hR
          subst hr0
          go_wp2
          refine wp_region_still_lit (by kernel_rfl) (by kernel_rfl) ?_
          repeat still_step
          refine wpStill_load85 rfl (.tmp 19) rfl b1 (o1 + k * 1025) rfl c q1 ?_
          repeat still_step
          refine wpStill_load85 rfl (.tmp 23) rfl b2 (o2 + k * 1025) rfl d q2 ?_
          repeat still_step
          refine wpStill_neq85 rfl (.tmp 20) (.tmp 24) rfl c d false rfl rfl hb ?_
          simp only [Act.put, List.setIfInBounds_toArray, List.set_cons_succ, List.set_cons_zero, Bool.not_false]
          refine wpStill_nil ?_
          go_wp2
          go_ret
          exact ⟨rfl, HB.out.drew⟩
        · have HR3 : Hid (res = celsB (s.drop (k + 1)) (t.drop (k + 1))) := by
            have e : res = celsB (s.drop (k + 1)) (t.drop (k + 1)) := by rw [hR, hb]; rfl
            exact e
          clear hR
          go_wp2
          refine wp_region_still_lit (by kernel_rfl) (by kernel_rfl) ?_
          repeat still_step
          refine wpStill_load85 rfl (.tmp 19) rfl b1 (o1 + k * 1025) rfl c q1 ?_
          repeat still_step
          refine wpStill_load85 rfl (.tmp 23) rfl b2 (o2 + k * 1025) rfl d q2 ?_
          repeat still_step
          refine wpStill_neq85 rfl (.tmp 20) (.tmp 24) rfl c d true rfl rfl hb ?_
          simp only [Act.put, List.setIfInBounds_toArray, List.set_cons_succ, List.set_cons_zero, Bool.not_true]
          refine wpStill_nil ?_
          go_wp2
          exact ⟨⟨k + 1, by omega, by go_num, HB.out.drew, HR3.out⟩, by simp [intOf]; omega⟩
      · obtain rfl : k = n := by omega
        have hr0 : res = true := by
          obtain ⟨hn, hn2⟩ := HL.out
          rw [HR2.out, List.drop_of_length_le (by omega), List.drop_of_length_le (by omega)]
          rfl
        subst hr0
        go_wp2
        go_ret
        exact ⟨rfl, HB.out⟩
  · have e : celsB s t = false := by
      cases h : celsB s t
      · rfl
      · exact absurd (celsB_len h) hl
    rw [e]
    have hlI : ¬ ((s.length : Int) = t.length) := by omega
    clear e hs ht
    go_enter Try.func69, Try.ntmps69
    go_wp2
    go_ret
    exact ⟨rfl, Below.refl _ _⟩
set_option maxRecDepth 20000 in
set_option maxHeartbeats 1000000 in
theorem sameImage_any (n m : Int) (s t : List Cel) (p q : Option Addr) (cp cq : Nat) (w : World) (hls : s.length < 9223372036854775807) (hlt : t.length < 9223372036854775807) (hs : ImgAt w p s) (ht : ImgAt w q t) :
    Calls Try.prog 27 #[.agg #[.int .i64 n, .slice p s.length cp], .agg #[.int .i64 m, .slice q t.length cq]] w fun e w' => e = .returned (.bool ((n == m) && celsB s t)) ∧ Below w.heap.size w w' := by
  have hB := below_next (below_new w (.cells #[.int .i64 n, .slice p s.length cp] 32)) (below_new _ (.cells #[.int .i64 m, .slice q t.length cq] 32))
  have HC := Hid.mk' (sameHeld_any s t p q cp cq _ hls hlt (hs.later hB) (ht.later hB))
  cases hnm : (n == m)
  · go_enter Try.func27, Try.ntmps27
    go_wp2
    go_ret
    exact ⟨rfl, hB⟩
  · go_enter Try.func27, Try.ntmps27
    go_wp2_with (go_at_call 69; fail)
    refine Calls.mono HC.out ?_
    rintro e W1 ⟨rfl, hb1⟩
    have HB := Hid.mk' (below_next hB hb1)
    clear hb1 HC hB
    go_wp2
    go_ret
    exact ⟨by simp, HB.out⟩
set_option maxRecDepth 20000 in
set_option maxHeartbeats 1000000 in
theorem copyHeld_any (l : List Cel) (p : Option Addr) (cap : Nat) (w : World) (hl : l.length ≤ 100000000) (h : ImgAt w p l) :
    Calls Try.prog 63 #[.slice p l.length cap] w fun e w' => ∃ q c, e = .returned (.slice q l.length c) ∧ Below w.heap.size w w' := by
  have HI : Hid (ImgAt w p l) := h
  obtain ⟨N, hN⟩ : ∃ N, l.length = N := ⟨_, rfl⟩
  have HN := Hid.mk' hN
  rw [hN] at hl ⊢
  clear hN h
  go_enter Try.func63, Try.ntmps63
  go_wp2
  go_loopw [3, 4] (fun s3 s4 wx => ∃ k : Nat, k ≤ N ∧ s4 = .int .i64 k ∧ Hid (HL w.heap.size wx s3 (l.take k) ∧ Below w.heap.size w wx)) (fun _ s4 _ => N - (intOf s4).toNat)
  case atStart => exact ⟨0, by omega, rfl, HL.nil _ _, Below.refl _ _⟩
  case round =>
    obtain ⟨k, hk, rfl, HH⟩ := hrel
    by_cases hk2 : (k : Int) < N
    · have hlN := HN.out
      have hc : l[k]? = some (l[k]'(by omega)) := List.getElem?_eq_getElem _
      obtain ⟨b, off, rfl, hlt, hC⟩ := HI.out (by omega)
      generalize l[k]'(by omega) = c at hc
      have q1 : CelAt wr b (off + k * 1025) c := (hC.later HH.out.2 hlt) k c hc
      have htk : (l.take k).length = k := by rw [List.length_take]; omega
      obtain ⟨v', w3, hr, hown', hb3, _⟩ := HH.out.1.push HH.out.2.size (by omega) c 30
      rw [← take_snoc hc] at hown'
      have HO := Hid.mk' hown'
      have HB := Hid.mk' (HH.out.2.trans hb3)
      have HRR := Hid.mk' hr
      have HQ := Hid.mk' q1
      clear hr hown' hb3 q1 hC hc HH htk hlN
      go_wp2_with (first | refine wpList_exec rfl (exec_load85 rfl rfl HQ.out) ?_ | refine wpList_exec rfl (exec_slice85 rfl rfl) ?_ | refine wpList_exec rfl (exec_push rfl rfl rfl HRR.out) ?_)
      exact ⟨⟨k + 1, by omega, by go_num, HO.out, HB.out⟩, by simp [intOf]; omega⟩
    · obtain rfl : k = N := by omega
      have h1 := HH.out.1
      rw [List.take_of_length_le (by have := HN.out; omega)] at h1
      obtain ⟨q, c, hv, _⟩ := h1.img
      rw [HN.out] at hv
      subst hv
      have HB := Hid.mk' HH.out.2
      clear HH h1
      go_wp2
      go_ret
      exact ⟨⟨q, c, rfl⟩, HB.out⟩
def refRow (n : Int) (v : Value) : Array Value := #[.int .i64 n, v, .slice none 0 0, .bool false, .int .i64 0, .bool false, .slice none 0 0, .int .i64 0, .int .i64 0, .int .i64 0, .int .i64 0]
set_option maxRecDepth 20000 in
set_option maxHeartbeats 1000000 in
theorem refLoad_bad (n : Int) (l : List Cel) (p : Option Addr) (cap : Nat) (w : World) (hl : l.length ≤ 100000000) (h : ImgAt w p l) (hm : mayB n l = false) :
    Calls Try.prog 16 #[.agg #[.int .i64 n, .slice p l.length cap]] w fun e w' => e = .returned (.tuple #[.pointer none, .int .i64 4]) ∧ Below w.heap.size w w' := by
  have hB := below_new w (.cells #[.int .i64 n, .slice p l.length cap] 32)
  have hM := refMay_any n l p cap _ (by omega) (h.later hB)
  rw [hm] at hM
  go_enter Try.func16, Try.ntmps16
  go_wp2_with (go_at_call 62; refine hM.mono ?_; rintro e W1 ⟨rfl, hb1⟩)
  go_ret2
  exact ⟨rfl, below_next hB hb1⟩
set_option maxRecDepth 20000 in
set_option maxHeartbeats 1000000 in
theorem refLoad_ok (n : Int) (l : List Cel) (p : Option Addr) (cap : Nat) (w : World) (hl : l.length ≤ 100000000) (h : ImgAt w p l) (hm : mayB n l = true) :
    Calls Try.prog 16 #[.agg #[.int .i64 n, .slice p l.length cap]] w fun e w' => ∃ g, e = .returned (.tuple #[.pointer (some ⟨g, 0, none⟩), .int .i64 0]) ∧ Below w.heap.size w w' := by
  have hB := below_new w (.cells #[.int .i64 n, .slice p l.length cap] 32)
  have hG := heap_alloc_new w (.cells #[.int .i64 n, .slice p l.length cap] 32)
  have hM := refMay_any n l p cap _ (by omega) (h.later hB)
  rw [hm] at hM
  have HI := Hid.mk' h
  have HL' := Hid.mk' hl
  clear h hl hm
  go_enter Try.func16, Try.ntmps16
  go_wp2_with (go_at_call 62; fail)
  refine hM.mono ?_
  rintro e W1 ⟨rfl, hb1⟩
  have hG1 := heap_kept hG hb1
  have hB1 := below_next hB hb1
  have HC := Hid.mk' (copyHeld_any l p cap W1.drew HL'.out (HI.out.later hB1.drew))
  clear hM hG hB hb1 HI HL'
  go_wp2
  refine wp_region_ord (S := fun u => u.heap[w.heap.size]? = some (.cells #[.int .i64 n, .slice p l.length cap] 32)) [(0, true), (1, true), (2, true), (3, true), (4, false), (5, true), (6, false), (7, true), (8, true)]
    (by kernel_rfl) rfl (by kernel_rfl) (fun d _ _ _ _ h => by cases d <;> exact h) hG1 ?_
  simp only [inOrd, List.getElem?_cons_zero, List.getElem?_cons_succ]
  refine wpOrd_yield (v := .pointer (some ⟨w.heap.size, 0, none⟩)) rfl (fun u _ => by go_simp) ?_
  simp only [Act.put, List.setIfInBounds_toArray, List.set_cons_succ, List.set_cons_zero]
  refine wpOrd_yield (v := .int .i64 n) rfl (fun u hu => by have c0 : u.cell? ⟨w.heap.size, 0, none⟩ = some (.int .i64 n) := Joins.cell_of_block hu 0; go_simp) ?_
  simp only [Act.put, List.setIfInBounds_toArray, List.set_cons_succ, List.set_cons_zero]
  refine wpOrd_yield (v := .pointer (some ⟨w.heap.size, 1, none⟩)) rfl (fun u _ => by go_simp) ?_
  simp only [Act.put, List.setIfInBounds_toArray, List.set_cons_succ, List.set_cons_zero]
  refine wpOrd_yield (v := .slice p l.length cap) rfl (fun u hu => by have c0 : u.cell? ⟨w.heap.size, 1, none⟩ = some (.slice p l.length cap) := Joins.cell_of_block hu 1; go_simp) ?_
  simp only [Act.put, List.setIfInBounds_toArray, List.set_cons_succ, List.set_cons_zero]
  refine wpOrd_call rfl 63 _ _ rfl Try.call63 [.slice p l.length cap] rfl ?_
  refine Calls.mono HC.out ?_
  rintro e W2 ⟨q, c, rfl, hb2⟩
  have hG2 : W2.heap[w.heap.size]? = _ := (hb2.block w.heap.size (Array.getElem?_eq_some_iff.1 hG1).1).trans hG1
  have HB2 := Hid.mk' (below_next hB1.drew hb2)
  refine ⟨_, rfl, hG2, ?_⟩
  clear HC hb2 hB1
  simp only [Act.put, List.setIfInBounds_toArray, List.set_cons_succ, List.set_cons_zero]
  refine wpOrd_yield (v := .agg (refRow n (.slice q l.length c))) rfl (fun u _ => by unfold refRow; go_simp) ?_
  simp only [Act.put, List.setIfInBounds_toArray, List.set_cons_succ, List.set_cons_zero]
  refine wpOrd_run (v := .pointer (some ⟨W2.heap.size, 0, none⟩)) (w' := W2.alloc (.cells (refRow n (.slice q l.length c)) 102)) rfl (by unfold refRow; go_simp) (heap_kept hG2 (below_new _ _)) ?_
  simp only [Act.put, List.setIfInBounds_toArray, List.set_cons_succ, List.set_cons_zero]
  refine wpOrd_yield (v := .pointer (some ⟨W2.heap.size, 0, none⟩)) rfl (fun u _ => by go_simp) ?_
  simp only [Act.put, List.setIfInBounds_toArray, List.set_cons_succ, List.set_cons_zero]
  refine wpOrd_yield (v := .int .i64 0) rfl (fun u _ => by go_simp) ?_
  simp only [Act.put, List.setIfInBounds_toArray, List.set_cons_succ, List.set_cons_zero]
  refine wpOrd_nil ?_
  have HB3 := Hid.mk' (below_next HB2.out (below_new W2 (.cells (refRow n (.slice q l.length c)) 102)))
  generalize W2.alloc (.cells (refRow n (.slice q l.length c)) 102) = W3 at HB3 ⊢
  go_wp2
  go_ret2
  exact ⟨_, rfl, HB3.out⟩
end Go.Proofs.Ytembocfghkmieaa
