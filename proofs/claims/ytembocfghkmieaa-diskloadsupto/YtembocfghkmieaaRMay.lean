/- The document's Load: whether an image may be, and a copy of it; of fewer bytes than memory has. -/
import Derived.Test.YtembocfghkmieaaHList
namespace Go.Proofs.Ytembocfghkmieaa
open Go.RowKit Go.Maps
set_option maxRecDepth 20000 in
set_option maxHeartbeats 400000 in
theorem refBlank_any (f : Nat → Int) (w : World) :
    Calls Try.prog 80 #[.agg (blk f)] w fun e w' => e = .returned (.bool (blankB f)) ∧ Below w.heap.size w w' := by
  go_enter Try.func80, Try.ntmps80
  go_wp2
  go_loop [3] (fun s3 => ∃ k : Nat, (k : Int) ≤ 1024 ∧ s3 = .int .i64 k ∧ Hid (∀ i, i < k → f i = 0)) (fun s3 => 1024 - (intOf s3).toNat)
  case atStart => exact ⟨0, by omega, rfl, fun i hi => absurd hi (by omega)⟩
  case round =>
    obtain ⟨k, hk, rfl, hz⟩ := hrel
    by_cases hk2 : (k : Int) < 1024
    · have hbk := blk_get f k (by omega)
      by_cases h0 : f k = 0
      · have HZ : Hid (∀ i, i < k + 1 → f i = 0) := fun i hi => by
          by_cases e : i = k
          · rw [e]; exact h0
          · exact hz.out i (by omega)
        have hb : (f k != 0) = false := by simp [h0]
        clear hz h0
        go_wp2
        go_round
        case rel => exact ⟨k + 1, by omega, by go_num, HZ⟩
        case measure => simp [intOf]; omega
      · have HS : Hid (sameB f nought = false) := by
          show _ = _
          cases h : sameB f nought with
          | false => rfl
          | true => exact absurd ((sameB_iff f nought).1 h k (by omega)) h0
        have hb : (f k != 0) = true := by simp [h0]
        clear hz h0
        go_wp2
        go_ret
        exact ⟨by unfold blankB; rw [HS.out]; rfl, (Below.refl _ _).alloc (Nat.le_refl _) _⟩
    · have HS : Hid (sameB f nought = true) := (sameB_iff f nought).2 fun i hi => hz.out i (by omega)
      clear hz
      go_wp2
      go_ret
      exact ⟨by unfold blankB; rw [HS.out]; rfl, (Below.refl _ _).alloc (Nat.le_refl _) _⟩

section
variable {ops : Array Oper} {rest : List Oper} {Q : Exit → Act → World → Prop} {a : Act} {w : World} {dst : Option Tmp} {x y : Operand} {ty : TypeId} {pos : String} {aft : Array Edge} {gd : Option (Nat × Bool)}
theorem isLoad (t : TypeId) (h : wpList Try.prog ops Q (⟨dst, .load t x, ty, pos, aft, gd⟩ :: rest) a w) : wpList Try.prog ops Q (⟨dst, .load t x, ty, pos, aft, gd⟩ :: rest) a w := h
theorem isStore (t : TypeId) (h : wpList Try.prog ops Q (⟨dst, .store t x y, ty, pos, aft, gd⟩ :: rest) a w) : wpList Try.prog ops Q (⟨dst, .store t x y, ty, pos, aft, gd⟩ :: rest) a w := h
end
set_option maxRecDepth 20000 in
set_option maxHeartbeats 4000000 in
theorem refMay_any (n : Int) (l : List Cel) (p : Option Addr) (cap : Nat) (w : World) (hl : l.length < 9223372036854775807) (h : ImgAt w p l) :
    Calls Try.prog 62 #[.agg #[.int .i64 n, .slice p l.length cap]] w fun e w' => e = .returned (.bool (mayB n l)) ∧ Below w.heap.size w w' := by
  have hB := below_new w (.cells #[.int .i64 n, .slice p l.length cap] 32)
  have hG := heap_alloc_new w (.cells #[.int .i64 n, .slice p l.length cap] 32)
  have HI : Hid (ImgAt w p l) := h
  clear h
  obtain ⟨N, hN⟩ : ∃ N, l.length = N := ⟨_, rfl⟩
  have HN := Hid.mk' hN
  rw [hN] at hl hB hG ⊢
  clear hN
  have h10 : ((1 : Int) ≤ n ∧ n ≤ 1048576) ↔ bndB n = true := by unfold bndB; exact decide_eq_true_iff.symm
  by_cases h1 : n < 1
  · have hres : mayB n l = false := by
      have : bndB n = false := by cases q : bndB n; rfl; exact absurd (h10.2 q).1 (by omega)
      unfold mayB; rw [this]; rfl
    rw [hres]
    clear hres h10
    go_enter Try.func62, Try.ntmps62
    go_wp2
    go_ret
    exact ⟨rfl, hB⟩
  by_cases h2 : n > 1048576
  · have hres : mayB n l = false := by
      have : bndB n = false := by cases q : bndB n; rfl; exact absurd (h10.2 q).2 (by omega)
      unfold mayB; rw [this]; rfl
    rw [hres]
    clear hres h10
    go_enter Try.func62, Try.ntmps62
    go_wp2
    go_ret
    exact ⟨rfl, hB⟩
  have HR : Hid (mayB n l = risesB n (-1) (l.drop 0)) := by unfold mayB; rw [h10.1 ⟨by omega, by omega⟩]; rfl
  generalize mayB n l = res at *
  clear h10
  have H0 : Hid (Below w.heap.size w (w.alloc (.cells #[.int .i64 n, .slice p N cap] 32)) ∧ (w.alloc (.cells #[.int .i64 n, .slice p N cap] 32)).heap[w.heap.size]? = some (.cells #[.int .i64 n, .slice p N cap] 32)) := ⟨hB, hG⟩
  clear hB hG
  go_enter Try.func62, Try.ntmps62
  go_wp2
  generalize hq1 : w.heap.size = g1 at *
  have HQ := Hid.mk' hq1
  clear hq1
  go_loopw [3] (fun s3 wx => ∃ (k : Nat) (x : Int), k ≤ N ∧ s3 = .int .i64 k ∧ -1 ≤ x ∧ (0 < k → 0 ≤ x ∧ ∃ f, l[k - 1]? = some (x, f)) ∧ Hid (Below g1 w wx ∧ wx.heap[g1]? = some (.cells #[.int .i64 n, .slice p N cap] 32)) ∧ Hid (res = risesB n x (l.drop k) ∧ (k = 0 → x = -1))) (fun s3 _ => N - (intOf s3).toNat)
  case atStart => exact ⟨0, -1, by omega, rfl, by omega, fun q => by omega, H0.out, HR.out, fun _ => rfl⟩
  case round =>
    obtain ⟨k, x, hk, rfl, hx, hpv, H9, HR2⟩ := hrel
    clear HR H0
    have hb9 := H9.out.1
    rw [← HQ.out] at hb9
    have i0 : wr.cell? ⟨g1, 0, none⟩ = some (.int .i64 n) := Joins.cell_of_block H9.out.2 0
    have i1 : wr.cell? ⟨g1, 1, none⟩ = some (.slice p N cap) := Joins.cell_of_block H9.out.2 1
    by_cases hk2 : (k : Int) < N
    · have hlN := HN.out
      have hc : l[k]? = some (l[k]'(by omega)) := List.getElem?_eq_getElem _
      obtain ⟨b, off, rfl, hlt, hC⟩ := HI.out (by omega)
      have hd : l.drop k = l[k]'(by omega) :: l.drop (k + 1) := List.drop_eq_getElem_cons (by omega)
      generalize l[k]'(by omega) = c at hc hd
      obtain ⟨q1, q2⟩ := (hC.later hb9 hlt) k c hc
      obtain ⟨y, f⟩ := c
      have hR := HR2.out.1
      rw [hd] at hR
      unfold risesB at hR
      simp only at hR q1 q2
      have hfin : ∀ W', Below wr.heap.size wr W' → Below g1 w W' := fun W' h => by
        rw [← HQ.out]
        exact below_next hb9 h
      have HFn := Hid.mk' hfin
      by_cases h3 : y < 0
      · have hr0 : res = false := by rw [hR]; simp [show y ≤ x by omega]
        clear hR hd hc HR2 hC hpv hfin hb9
        subst hr0
        go_wp2
        go_ret
        exact ⟨rfl, by rw [HQ.out]; exact HFn.out _ (Below.refl _ _)⟩
      by_cases h4 : y ≥ n
      · have hr0 : res = false := by rw [hR]; simp [h4]
        clear hR hd hc HR2 hC hpv hfin hb9
        subst hr0
        go_wp2
        go_ret
        exact ⟨rfl, by rw [HQ.out]; exact HFn.out _ (Below.refl _ _)⟩
      have HBl := Hid.mk' (refBlank_any f)
      rcases Nat.eq_zero_or_pos k with hk0 | hk0
      · have hxx := HR2.out.2 hk0
        subst hk0
        have hk3 : (0 : Int) < N := by omega
        have hk4 : 0 < N := by omega
        clear hk2 hk
        simp only [Int.natCast_zero]
        have q2' : BlkAt wr b (off + 1) f := by have := q2; rwa [show off + 0 * 1025 + 1 = off + 1 by omega] at this
        have q1' : wr.cell? ⟨b, off, none⟩ = some (.int .i64 y) := by have := q1; rwa [show off + 0 * 1025 = off by omega] at this
        cases h5 : blankB f
        · have HR3 : Hid (res = risesB n y (l.drop (0 + 1))) := by
            show res = _
            rw [hR, h5]; simp [show ¬ (y ≤ x) by omega, show ¬ (y ≥ n) from h4]
          rw [h5] at HBl
          have HcK : Hid (l[0]? = some (y, f)) := hc
          clear hR hd hc HR2 hC hpv hfin hb9 hxx q2 q1
          go_wp2_with (first | (with_reducible refine isLoad 58 ?_; refine wpList_loadMw rfl (.tmp 54) rfl b (off + 1) rfl f q2' ?_) | (go_at_call 80; fail))
          refine (HBl.out _).mono ?_
          rintro e W9 ⟨rfl, hb10⟩
          have H10 : Hid (Below g1 w W9 ∧ W9.heap[g1]? = some (.cells #[.int .i64 n, .slice (some ⟨b, off, none⟩) N cap] 32)) := ⟨HFn.out _ hb10, heap_kept H9.out.2 hb10⟩
          clear hb10 H9
          go_wp2
          exact ⟨⟨0 + 1, y, by omega, by go_num, by omega, fun _ => ⟨by omega, f, HcK.out⟩, H10.out, HR3.out, fun q => by omega⟩, by simp [intOf]; omega⟩
        · have hr0 : res = false := by rw [hR, h5]; simp
          rw [h5] at HBl
          clear hR hd hc HR2 hC hpv hfin hb9 hxx q2 q1
          subst hr0
          go_wp2_with (first | (with_reducible refine isLoad 58 ?_; refine wpList_loadMw rfl (.tmp 54) rfl b (off + 1) rfl f q2' ?_) | (go_at_call 80; fail))
          refine (HBl.out _).mono ?_
          rintro e W9 ⟨rfl, hb10⟩
          have H10 := Hid.mk' (HFn.out _ hb10)
          clear hb10 H9
          go_wp2
          go_ret
          exact ⟨rfl, by rw [HQ.out]; exact H10.out⟩
      · obtain ⟨j, rfl⟩ : ∃ j, k = j + 1 := ⟨k - 1, by omega⟩
        obtain ⟨hx0, fp, hpp⟩ := hpv hk0
        rw [show j + 1 - 1 = j by omega] at hpp
        obtain ⟨p1, _⟩ := (hC.later hb9 hlt) j (x, fp) hpp
        simp only at p1
        have hw1 : IntKind.i64.wrap ((j : Int) + 1 - 1) = (j : Int) := by rw [IntKind.wrap_i64]; omega
        by_cases h6 : x ≥ y
        · have hr0 : res = false := by rw [hR]; simp [show y ≤ x from h6]
          clear hR hd hc HR2 hC hpv hfin hb9
          subst hr0
          go_wp2
          go_ret
          exact ⟨rfl, by rw [HQ.out]; exact HFn.out _ (Below.refl _ _)⟩
        · cases h5 : blankB f
          · have HR3 : Hid (res = risesB n y (l.drop (j + 1 + 1))) := by
              show res = _
              rw [hR, h5]; simp [show ¬ (y ≤ x) by omega, show ¬ (y ≥ n) from h4]
            rw [h5] at HBl
            have HcK : Hid (l[j + 1]? = some (y, f)) := hc
            clear hR hd hc HR2 hC hpv hfin hb9
            go_wp2_with (first | (with_reducible refine isLoad 58 ?_; refine wpList_loadMw rfl (.tmp 54) rfl b (off + (j + 1) * 1025 + 1) rfl f q2 ?_) | (go_at_call 80; fail))
            refine (HBl.out _).mono ?_
            rintro e W9 ⟨rfl, hb10⟩
            have H10 : Hid (Below g1 w W9 ∧ W9.heap[g1]? = some (.cells #[.int .i64 n, .slice (some ⟨b, off, none⟩) N cap] 32)) := ⟨HFn.out _ hb10, heap_kept H9.out.2 hb10⟩
            clear hb10 H9
            go_wp2
            exact ⟨⟨j + 1 + 1, y, by omega, by go_num, by omega, fun _ => ⟨by omega, f, by rw [show j + 1 + 1 - 1 = j + 1 by omega]; exact HcK.out⟩, H10.out, HR3.out, fun q => by omega⟩, by simp [intOf]; omega⟩
          · have hr0 : res = false := by rw [hR, h5]; simp
            rw [h5] at HBl
            clear hR hd hc HR2 hC hpv hfin hb9
            subst hr0
            go_wp2_with (first | (with_reducible refine isLoad 58 ?_; refine wpList_loadMw rfl (.tmp 54) rfl b (off + (j + 1) * 1025 + 1) rfl f q2 ?_) | (go_at_call 80; fail))
            refine (HBl.out _).mono ?_
            rintro e W9 ⟨rfl, hb10⟩
            have H10 := Hid.mk' (HFn.out _ hb10)
            clear hb10 H9
            go_wp2
            go_ret
            exact ⟨rfl, by rw [HQ.out]; exact H10.out⟩
    · have hr0 : res = true := by rw [HR2.out.1, List.drop_of_length_le (by have := HN.out; omega)]; rfl
      have HFn := Hid.mk' hb9
      clear hb9 hpv HR2
      subst hr0
      go_wp2
      go_ret
      exact ⟨rfl, HFn.out⟩
end Go.Proofs.Ytembocfghkmieaa
