/- The document's functions of images: Whole, At; the law's own large and sameImage; lists of at most a billion blocks. -/
import Derived.Test.YtglcliokhlafoaaRows2
namespace Go.Proofs.Ytglcliokhlafoaa
open Go.RowKit Go.Maps
def wholeE (n : Int) (l : List Cel) : Int := if mayB n l then 0 else 2
set_option maxRecDepth 20000 in
set_option maxHeartbeats 4000000 in
theorem whole_any (n : Int) (l : List Cel) (p : Option Addr) (cap : Nat) (w : World) (hl : l.length ≤ 1000000000) (h : ImgAt w p l) :
    Calls Try.prog 6 #[.agg #[.int .i64 n, .slice p l.length cap]] w fun e w' => e = .returned (.int .i64 (wholeE n l)) ∧ Below w.heap.size w w' := by
  have hB := below_new w (.cells #[.int .i64 n, .slice p l.length cap] 24)
  have hG := heap_alloc_new w (.cells #[.int .i64 n, .slice p l.length cap] 24)
  have HI : Hid (ImgAt w p l) := h
  clear h
  obtain ⟨N, hN⟩ : ∃ N, l.length = N := ⟨_, rfl⟩
  have HN := Hid.mk' hN
  rw [hN] at hl hB hG ⊢
  clear hN
  have h10 : ((1 : Int) ≤ n ∧ n ≤ 1048576) ↔ bndB n = true := by unfold bndB; exact decide_eq_true_iff.symm
  by_cases h1 : n < 1
  · have hres : wholeE n l = 2 := by
      have : bndB n = false := by cases q : bndB n; rfl; exact absurd (h10.2 q).1 (by omega)
      unfold wholeE mayB; rw [this]; rfl
    rw [hres]
    clear hres h10
    go_enter Try.func6, Try.ntmps6
    go_wp2
    go_ret
    exact ⟨rfl, hB⟩
  by_cases h2 : n > 1048576
  · have hres : wholeE n l = 2 := by
      have : bndB n = false := by cases q : bndB n; rfl; exact absurd (h10.2 q).2 (by omega)
      unfold wholeE mayB; rw [this]; rfl
    rw [hres]
    clear hres h10
    go_enter Try.func6, Try.ntmps6
    go_wp2
    go_ret
    exact ⟨rfl, hB⟩
  have HR : Hid (wholeE n l = if risesB n (-1) (l.drop 0) then 0 else 2) := by unfold wholeE mayB; rw [h10.1 ⟨by omega, by omega⟩]; rfl
  generalize wholeE n l = res at *
  clear h10
  have z25 := zero25
  have HBn := Hid.mk' (below_new (w.alloc (.cells #[.int .i64 n, .slice p N cap] 24)) (.cells (blk nought) 46))
  have H0 : Hid (Below w.heap.size w ((w.alloc (.cells #[.int .i64 n, .slice p N cap] 24)).alloc (.cells (blk nought) 46)) ∧ ((w.alloc (.cells #[.int .i64 n, .slice p N cap] 24)).alloc (.cells (blk nought) 46)).heap[w.heap.size]? = some (.cells #[.int .i64 n, .slice p N cap] 24) ∧ ((w.alloc (.cells #[.int .i64 n, .slice p N cap] 24)).alloc (.cells (blk nought) 46)).heap[w.heap.size + 1]? = some (.cells (blk nought) 46)) := by
    refine ⟨below_next hB HBn.out, heap_kept hG HBn.out, ?_⟩
    have := heap_alloc_new (w.alloc (.cells #[.int .i64 n, .slice p N cap] 24)) (.cells (blk nought) 46)
    simpa using this
  clear hB hG HBn
  obtain ⟨NB, eNB⟩ : ∃ NB, NB = nought := ⟨nought, rfl⟩
  have HNB := Hid.mk' eNB
  rw [← eNB] at z25 H0
  clear eNB
  go_enter Try.func6, Try.ntmps6
  go_wp2
  go_loopw [4, 5] (fun s4 s5 wx => ∃ (k : Nat) (x : Int), k ≤ N ∧ s4 = .int .i64 x ∧ s5 = .int .i64 k ∧ Hid (Below w.heap.size w wx ∧ wx.heap[w.heap.size]? = some (.cells #[.int .i64 n, .slice p N cap] 24) ∧ wx.heap[w.heap.size + 1]? = some (.cells (blk NB) 46)) ∧ Hid (res = if risesB n x (l.drop k) then 0 else 2)) (fun _ s5 _ => N - (intOf s5).toNat)
  case atStart => exact ⟨0, -1, by omega, rfl, rfl, H0.out, HR.out⟩
  case round =>
    obtain ⟨k, x, hk, rfl, rfl, H9, HR2⟩ := hrel
    clear HR H0
    have i0 : wr.cell? ⟨w.heap.size, 0, none⟩ = some (.int .i64 n) := Joins.cell_of_block H9.out.2.1 0
    have i1 : wr.cell? ⟨w.heap.size, 1, none⟩ = some (.slice p N cap) := Joins.cell_of_block H9.out.2.1 1
    by_cases hk2 : (k : Int) < N
    · have hlN := HN.out
      have hc : l[k]? = some (l[k]'(by omega)) := List.getElem?_eq_getElem _
      obtain ⟨b, off, rfl, hlt, hC⟩ := HI.out (by omega)
      have hd : l.drop k = l[k]'(by omega) :: l.drop (k + 1) := List.drop_eq_getElem_cons (by omega)
      generalize l[k]'(by omega) = c at hc hd
      have q1 : CelAt wr b (off + k * 1025) c := (hC.later H9.out.1 hlt) k c hc
      have hR := HR2.out
      rw [hd] at hR
      unfold risesB at hR
      have hbA := below_new wr (.cells (celRow c).toArray 59)
      have hA := heap_alloc_new wr (.cells (celRow c).toArray 59)
      have hcA := one_cel hA
      have h9A : Below w.heap.size w (wr.alloc (.cells (celRow c).toArray 59)) ∧ (wr.alloc (.cells (celRow c).toArray 59)).heap[w.heap.size]? = some (.cells #[.int .i64 n, .slice (some ⟨b, off, none⟩) N cap] 24) ∧ (wr.alloc (.cells (celRow c).toArray 59)).heap[w.heap.size + 1]? = some (.cells (blk NB) 46) := ⟨below_next H9.out.1 hbA, heap_kept H9.out.2.1 hbA, heap_kept H9.out.2.2 hbA⟩
      have H10 := Hid.mk' h9A
      have HQ := Hid.mk' q1
      have HSz := Hid.mk' (show (Try.prog.info? 59).map (·.size) = some (celRow c).toArray.size by rw [cel_size]; exact size85)
      have HAll := Hid.mk' (cel_all c)
      have HZs := Hid.mk' (show (celRow (0, nought)).toArray.size = (celRow c).toArray.size by rw [cel_size, cel_size])
      have z85 := zero85
      have j0 : (wr.alloc (.cells (celRow c).toArray 59)).cell? ⟨w.heap.size, 0, none⟩ = some (.int .i64 n) := Joins.cell_of_block h9A.2.1 0
      have j1 : (wr.alloc (.cells (celRow c).toArray 59)).cell? ⟨wr.heap.size, 0, none⟩ = some (.int .i64 c.1) := hcA.1
      have HJB := Hid.mk' (show BlkAt (wr.alloc (.cells (celRow c).toArray 59)) wr.heap.size 1 c.2 by have := hcA.2; rwa [Nat.zero_add] at this)
      have HJN := Hid.mk' h9A.2.2
      obtain ⟨y, f⟩ := c
      simp only at hR j1 HJB
      generalize (celRow (0, nought)).toArray = Z at *
      clear hd hc HR2 hC hbA hA hcA h9A q1 H9
      go_wp2_with (first | (with_reducible refine isLoad 59 ?_; refine wpList_exec rfl (exec_load85 (c := (y, f)) rfl rfl HQ.out) ?_) | (with_reducible refine isStore 59 ?_; refine wpList_stNew 59 rfl _ _ rfl _ (celRow (y, f)).toArray _ 59 HSz.out HZs.out HAll.out rfl rfl rfl ?_; refine Hid.out ?_))
      unfold Hid
      generalize (celRow (y, f)).toArray = C at *
      by_cases h3 : y ≤ x
      · have hr0 : res = 2 := by rw [hR]; simp [h3]
        have HFn := Hid.mk' H10.out.1
        clear hR
        subst hr0
        go_wp2
        go_ret
        exact ⟨rfl, HFn.out⟩
      · by_cases h4 : y ≥ n
        · have hr0 : res = 2 := by rw [hR]; simp [h4]
          have HFn := Hid.mk' H10.out.1
          clear hR
          subst hr0
          go_wp2
          go_ret
          exact ⟨rfl, HFn.out⟩
        · cases h5 : blankB f
          · have HR3 : Hid (res = if risesB n y (l.drop (k + 1)) then 0 else 2) := by
              show res = _
              rw [hR, h5]; simp [h3, h4]
            have h3' : sameB f NB = false := by rw [HNB.out]; exact h5
            clear hR
            go_wp2_with (first | (with_reducible refine isLoad 46 ?_; first | refine wpList_loadMw rfl (.tmp 39) rfl wr.heap.size 1 rfl f HJB.out ?_ | refine wpList_ldR 46 Try.underlying46 rfl rfl _ rfl _ rfl _ 46 (0, 0) (by rw [blk_size]; exact size25) HJN.out ?_) | (with_reducible refine isEq 46 46 ?_; refine wpList_eq58 rfl (.tmp 40) (.tmp 41) rfl f NB false rfl rfl h3' ?_))
            exact ⟨⟨k + 1, y, by omega, rfl, by go_num, H10.out, HR3.out⟩, by simp [intOf]; omega⟩
          · have hr0 : res = 2 := by rw [hR, h5]; simp
            have h3' : sameB f NB = true := by rw [HNB.out]; exact h5
            have HFn := Hid.mk' H10.out.1
            clear hR
            subst hr0
            go_wp2_with (first | (with_reducible refine isLoad 46 ?_; first | refine wpList_loadMw rfl (.tmp 39) rfl wr.heap.size 1 rfl f HJB.out ?_ | refine wpList_ldR 46 Try.underlying46 rfl rfl _ rfl _ rfl _ 46 (0, 0) (by rw [blk_size]; exact size25) HJN.out ?_) | (with_reducible refine isEq 46 46 ?_; refine wpList_eq58 rfl (.tmp 40) (.tmp 41) rfl f NB true rfl rfl h3' ?_))
            go_ret
            exact ⟨rfl, HFn.out⟩
    · have hr0 : res = 0 := by rw [HR2.out, List.drop_of_length_le (by have := HN.out; omega)]; rfl
      have HFn := Hid.mk' H9.out.1
      clear HR2 H9
      subst hr0
      go_wp2
      go_ret
      exact ⟨rfl, HFn.out⟩
set_option maxRecDepth 20000 in
set_option maxHeartbeats 4000000 in
theorem at_any (n : Int) (l : List Cel) (p : Option Addr) (cap : Nat) (at' : Int) (w : World) (hl : l.length ≤ 1000000000) (h : ImgAt w p l) :
    Calls Try.prog 10 #[.agg #[.int .i64 n, .slice p l.length cap], .int .i64 at'] w fun e w' => e = .returned (.agg (blk (atL l at'))) ∧ Below w.heap.size w w' := by
  have z25 := zero25
  have HI : Hid (ImgAt w p l) := h
  clear h
  obtain ⟨N, hN⟩ : ∃ N, l.length = N := ⟨_, rfl⟩
  have HN := Hid.mk' hN
  rw [hN] at hl ⊢
  clear hN
  have hB := below_next (below_new w (.cells #[.int .i64 n, .slice p N cap] 24)) (below_new _ (.cells (blk nought) 46))
  have hG : ((w.alloc (.cells #[.int .i64 n, .slice p N cap] 24)).alloc (.cells (blk nought) 46)).heap[w.heap.size]? = some (.cells #[.int .i64 n, .slice p N cap] 24) := heap_kept (heap_alloc_new w _) (below_new _ _)
  have hG4 : ((w.alloc (.cells #[.int .i64 n, .slice p N cap] 24)).alloc (.cells (blk nought) 46)).heap[w.heap.size + 1]? = some (.cells (blk nought) 46) := by
    have := heap_alloc_new (w.alloc (.cells #[.int .i64 n, .slice p N cap] 24)) (.cells (blk nought) 46)
    simpa using this
  have i1 : ((w.alloc (.cells #[.int .i64 n, .slice p N cap] 24)).alloc (.cells (blk nought) 46)).cell? ⟨w.heap.size, 1, none⟩ = some (.slice p N cap) := Joins.cell_of_block hG 1
  have HB := Hid.mk' hB
  have HG4 := Hid.mk' hG4
  have HR : Hid (atL l at' = atL (l.drop 0) at') := rfl
  generalize atL l at' = res at *
  clear hB hG hG4
  go_enter Try.func10, Try.ntmps10
  go_wp2
  generalize (w.alloc (.cells #[.int .i64 n, .slice p N cap] 24)).alloc (.cells (blk nought) 46) = W0 at *
  go_loopw [5] (fun s5 wx => ∃ k : Nat, k ≤ N ∧ s5 = .int .i64 k ∧ wx = W0 ∧ Hid (res = atL (l.drop k) at')) (fun s5 _ => N - (intOf s5).toNat)
  case atStart => exact ⟨0, by omega, rfl, rfl, HR.out⟩
  case round =>
    obtain ⟨k, hk, rfl, rfl, HR2⟩ := hrel
    clear HR
    by_cases hk2 : (k : Int) < N
    · have hlN := HN.out
      have hc : l[k]? = some (l[k]'(by omega)) := List.getElem?_eq_getElem _
      obtain ⟨b, off, rfl, hlt, hC⟩ := HI.out (by omega)
      have hd : l.drop k = l[k]'(by omega) :: l.drop (k + 1) := List.drop_eq_getElem_cons (by omega)
      generalize l[k]'(by omega) = c at hc hd
      obtain ⟨q1, q2⟩ : CelAt wr b (off + k * 1025) c := (hC.later HB.out hlt) k c hc
      obtain ⟨y, f⟩ := c
      have hR := HR2.out
      rw [hd] at hR
      unfold atL at hR
      simp only at hR q1 q2
      have HQ2 := Hid.mk' q2
      clear hd hc HR2 hC q2
      by_cases hy : y = at'
      · have HRf := Hid.mk' (show res = f by rw [hR, if_pos hy])
        subst hy
        clear hR
        go_wp2_with (first | (with_reducible refine isLoad 46 ?_; refine wpList_loadMw rfl (.tmp 25) rfl b (off + k * 1025 + 1) rfl f HQ2.out ?_) | (with_reducible refine isStore 46 ?_; refine wpList_store25 rfl _ _ rfl (w.heap.size + 1) f rfl rfl _ HG4.out ?_))
        rw [HRf.out]
        exact ret25 rfl (w.heap.size + 1) f rfl (setRow_heap _ _ _ _ _ _ HG4.out) rfl ⟨rfl, below_setRow HB.out (by omega) _⟩
      · have HR3 := Hid.mk' (show res = atL (l.drop (k + 1)) at' by rw [hR, if_neg hy])
        clear hR
        go_wp2
        exact ⟨⟨k + 1, by omega, by go_num, by trivial, HR3.out⟩, by simp [intOf]; omega⟩
    · have HRf := Hid.mk' (show res = nought by rw [HR2.out, List.drop_of_length_le (by have := HN.out; omega)]; rfl)
      clear HR2
      go_wp2_with (first | (with_reducible refine isBuild 46 ?_; refine wpList_exec rfl (exec_zeroB rfl) ?_) | (with_reducible refine isStore 46 ?_; refine wpList_store25 rfl _ _ rfl (w.heap.size + 1) nought rfl rfl _ HG4.out ?_))
      rw [HRf.out]
      exact ret25 rfl (w.heap.size + 1) nought rfl (setRow_heap _ _ _ _ _ _ HG4.out) rfl ⟨rfl, below_setRow HB.out (by omega) _⟩
theorem large_any (n b l i : Int) (p : Option Addr) (len cap : Nat) (w : World) : Calls Try.prog 5 #[.agg #[.int .i64 n, .slice p len cap, .int .i64 b, .int .i64 l, .int .i64 i]] w fun e w' => e = .returned (.bool (decide (n > 300) || decide ((len : Int) > 300))) ∧ Below w.heap.size w w' := by
  have hB := below_new w (.cells #[.int .i64 n, .slice p len cap, .int .i64 b, .int .i64 l, .int .i64 i] 28)
  by_cases h1 : n > 300
  · go_enter Try.func5, Try.ntmps5
    go_wp2
    go_ret
    exact ⟨by simp [h1], hB⟩
  · by_cases h2 : (len : Int) > 300
    · go_enter Try.func5, Try.ntmps5
      go_wp2
      go_ret
      exact ⟨by first | (simp; done) | (simp; omega), hB⟩
    · go_enter Try.func5, Try.ntmps5
      go_wp2
      go_ret
      exact ⟨by simp; omega, hB⟩
set_option maxRecDepth 20000 in
set_option maxHeartbeats 1000000 in
theorem sameImage_any (n m : Int) (s t : List Cel) (p q : Option Addr) (cp cq : Nat) (w : World) (hls : s.length < 9223372036854775807) (hlt : t.length < 9223372036854775807) (hs : ImgAt w p s) (ht : ImgAt w q t) :
    Calls Try.prog 16 #[.agg #[.int .i64 n, .slice p s.length cp], .agg #[.int .i64 m, .slice q t.length cq]] w fun e w' => e = .returned (.bool ((n == m) && celsB s t)) ∧ Below w.heap.size w w' := by
  have hB := below_next (below_new w (.cells #[.int .i64 n, .slice p s.length cp] 24)) (below_new _ (.cells #[.int .i64 m, .slice q t.length cq] 24))
  have HC := Hid.mk' (sameHelds_any s t p q cp cq _ hls hlt (hs.later hB) (ht.later hB))
  cases hnm : (n == m)
  · go_enter Try.func16, Try.ntmps16
    go_wp2
    go_ret
    exact ⟨rfl, hB⟩
  · go_enter Try.func16, Try.ntmps16
    go_wp2_with (go_at_call 46; fail)
    refine Calls.mono HC.out ?_
    rintro e W1 ⟨rfl, hb1⟩
    have HB := Hid.mk' (below_next hB hb1)
    clear hb1 HC hB
    go_wp2
    go_ret
    exact ⟨by simp, HB.out⟩
end Go.Proofs.Ytglcliokhlafoaa
