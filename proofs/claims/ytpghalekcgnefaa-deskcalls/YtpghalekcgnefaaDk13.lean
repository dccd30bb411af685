/- The document's desk: Drop; for lists of fewer than a million. -/
import Derived.Test.YtpghalekcgnefaaDk12
namespace Go.Proofs.Ytpghalekcgnefaa
open Go.RowKit Go.Maps
section
variable {w W : World} {g : Nat} {m : Int} {v : Value} {L : List (Int × Int)} {l : List Part} {c : Nat}
set_option maxRecDepth 20000 in
set_option maxHeartbeats 2000000 in
theorem rdrop_ok (h : RfAt w g m v L) (ho : Dok m L c) (hc : c < 1000000) (k : Int) : Calls Try.prog 21 #[.pointer (some ⟨g, 0, none⟩), .int .i64 k] w fun e w' => e = .returned (.tuple #[.bool (dropB L k), .int .i64 (dropE L k)]) ∧ RfTo w g m v (dropL L k) w' := by
  have HF : Hid (RfAt w g m v L) := h
  have HO : Hid (Dok m L c) := ho
  obtain ⟨p, cap, rfl, _⟩ := h.list
  obtain ⟨N, hN⟩ : ∃ N, L.length = N := ⟨_, rfl⟩
  have HN : Hid (L.length = N) := hN
  have hN1 : N ≤ 1000000 := by have := ho.lec; omega
  obtain ⟨c0, c1⟩ := h.cells
  rw [hN] at c1
  obtain ⟨B, hB⟩ : ∃ B, dropB L k = B := ⟨_, rfl⟩
  obtain ⟨E, hE⟩ : ∃ E, dropE L k = E := ⟨_, rfl⟩
  obtain ⟨L', hL'⟩ : ∃ L', dropL L k = L' := ⟨_, rfl⟩
  have HE : Hid (dropB L k = B ∧ dropE L k = E ∧ dropL L k = L') := ⟨hB, hE, hL'⟩
  rw [hB, hE, hL']
  clear h ho hN hB hE hL'
  go_enter Try.func21, Try.ntmps21
  go_wp2
  go_loopw [6, 7, 8, 9] (fun s6 s7 s8 s9 wx => ∃ (i a cc : Nat) (f z : Bool) (ad : Option Addr), i ≤ N ∧ s9 = .int .i64 i ∧ s7 = .bool f ∧ s8 = .bool z ∧ s6 = .slice ad a cc ∧ Hid (wx.ownsRow w.heap.size 57 2 (.slice ad a cc) (dpU k (L.take i)).length ((dpU k (L.take i)).flatMap pc2)) ∧ Hid (f = fnU k (L.take i) ∧ z = lsU k (L.take i)) ∧ Hid (Below w.heap.size w wx)) (fun _ _ _ s9 _ => N - (intOf s9).toNat)
  case atStart => exact ⟨0, 0, 0, false, false, none, by omega, rfl, rfl, rfl, rfl, World.ownsRow_nil _ _ _ _, ⟨rfl, rfl⟩, Below.refl _ _⟩
  case round =>
    obtain ⟨i, a, cc, f, z, ad, hi, rfl, rfl, rfl, rfl, HV, HZ, HB⟩ := hrel
    have hf := HF.out.later HB.out
    obtain ⟨d0, d1⟩ := hf.cells
    rw [HN.out] at d1
    have hlx := HN.out
    have hlv : (dpU k (L.take i)).length ≤ 10000000 := by have := dpU_len k (L.take i); rw [List.length_take] at this; omega
    by_cases hi2 : i < N
    · have hx : L[i]? = some L[i] := List.getElem?_eq_getElem (by omega)
      obtain ⟨p', cap', e, hl2⟩ := hf.list
      injection e with e1 _ e3
      subst e1 e3
      obtain ⟨b, rfl, a0, a1⟩ := hl2 i _ hx
      have HX : Hid (L[i]? = some L[i]) := hx
      have HT : Hid (L.take (i + 1) = L.take i ++ [L[i]]) := take_next hx
      have hxv := HO.out.val _ (List.mem_of_getElem? hx)
      generalize L[i] = x at *
      clear hx hl2
      obtain ⟨xk, xh⟩ := x
      simp only at a0 a1 hxv
      by_cases hk : xk = k
      · subst hk
        have hk1 : (xk == xk) = true := by simp
        have hge : getH (L.take i) xk = none := get_not fun j q hq e => by
          have hj : j < i := by have := (List.getElem?_eq_some_iff.1 hq).1; rw [List.length_take] at this; omega
          rw [List.getElem?_take, if_pos hj] at hq
          have := ris_at HO.out.ris hq HX.out e
          omega
        obtain ⟨s1, s2, s3⟩ := dp_same (x := (xk, xh)) (A := L.take i) rfl hge
        simp only at s1 s2 s3
        obtain ⟨y, hy⟩ : ∃ y, xh - 1 = y := ⟨_, rfl⟩
        have hw1 : IntKind.i64.wrap (xh - 1) = y := by rw [IntKind.wrap_i64]; omega
        have hyb : 0 ≤ y ∧ y ≤ 1000000 := by omega
        rw [hy] at s1 s3
        clear hy
        have HZ2 : Hid (true = fnU xk (L.take (i + 1)) ∧ (y == 0) = lsU xk (L.take (i + 1))) := by rw [HT.out, s2, s3]; exact ⟨rfl, rfl⟩
        have hB1 := HB.out.trans ((below_new wr (.cells #[.int .i64 xk, .int .i64 (y)] 57)).mono HB.out.size)
        have hV1 := own_later HV.out (below_new wr (.cells #[.int .i64 xk, .int .i64 (y)] 57))
        by_cases hp : 0 < y
        · have hp1 : decide (0 < y) = true := decide_eq_true hp
          rw [if_pos hp] at s1
          obtain ⟨v2, w2, hrun2, ho2, hb2⟩ := pushP hV1 hB1.size hlv (xk, y)
          obtain ⟨ad2, n2, cc2, rfl⟩ := slice_of ho2
          have HV2 : Hid (w2.ownsRow w.heap.size 57 2 (.slice ad2 n2 cc2) (dpU xk (L.take (i + 1))).length ((dpU xk (L.take (i + 1))).flatMap pc2)) := by rw [HT.out, s1]; exact ho2
          have HB2 : Hid (Below w.heap.size w w2) := hB1.trans hb2
          simp only [World.size_alloc] at hrun2
          generalize hlb : (y == 0) = lb at *
          clear s1 s2 s3 ho2 hb2 hV1 hB1 HV HB HZ hf hp hge
          go_wp2_with (first | (at_builtin; refine wpList_app rfl (.tmp 43) (.tmp 45) rfl rfl rfl hrun2 ?_))
          go_roundw
          case rel => exact ⟨i + 1, _, _, true, _, _, by omega, by go_num, rfl, rfl, rfl, HV2, HZ2, HB2⟩
          case measure => simp [intOf]; omega
        · have hp1 : decide (0 < y) = false := decide_eq_false hp
          rw [if_neg hp] at s1
          have HV2 : Hid ((wr.alloc (.cells #[.int .i64 xk, .int .i64 (y)] 57)).ownsRow w.heap.size 57 2 (.slice ad a cc) (dpU xk (L.take (i + 1))).length ((dpU xk (L.take (i + 1))).flatMap pc2)) := by rw [HT.out, s1]; exact hV1
          have HB2 : Hid (Below w.heap.size w (wr.alloc (.cells #[.int .i64 xk, .int .i64 (y)] 57))) := hB1
          generalize hlb : (y == 0) = lb at *
          clear s1 s2 s3 hV1 hB1 HV HB HZ hf hp hge
          go_wp2
          go_roundw
          case rel => exact ⟨i + 1, _, _, true, _, _, by omega, by go_num, rfl, rfl, rfl, HV2, HZ2, HB2⟩
          case measure => simp [intOf]; omega
      · have hk1 : (xk == k) = false := by simpa using hk
        obtain ⟨s1, s2, s3⟩ := dp_other (x := (xk, xh)) (L.take i) hk hxv.1
        have hp1 : decide (0 < xh) = true := decide_eq_true (by omega)
        have HZ2 : Hid (f = fnU k (L.take (i + 1)) ∧ z = lsU k (L.take (i + 1))) := by rw [HT.out, s2, s3]; exact HZ.out
        have hB1 := HB.out.trans ((below_new wr (.cells #[.int .i64 xk, .int .i64 xh] 57)).mono HB.out.size)
        have hV1 := own_later HV.out (below_new wr (.cells #[.int .i64 xk, .int .i64 xh] 57))
        obtain ⟨v2, w2, hrun2, ho2, hb2⟩ := pushP hV1 hB1.size hlv (xk, xh)
        obtain ⟨ad2, n2, cc2, rfl⟩ := slice_of ho2
        have HV2 : Hid (w2.ownsRow w.heap.size 57 2 (.slice ad2 n2 cc2) (dpU k (L.take (i + 1))).length ((dpU k (L.take (i + 1))).flatMap pc2)) := by rw [HT.out, s1]; exact ho2
        have HB2 : Hid (Below w.heap.size w w2) := hB1.trans hb2
        simp only [World.size_alloc] at hrun2
        clear s1 s2 s3 ho2 hb2 hV1 hB1 HV HB HZ hf hk hxv
        go_wp2_with (first | (at_builtin; refine wpList_app rfl (.tmp 43) (.tmp 45) rfl rfl rfl hrun2 ?_))
        go_roundw
        case rel => exact ⟨i + 1, _, _, _, _, _, by omega, by go_num, rfl, rfl, rfl, HV2, HZ2, HB2⟩
        case measure => simp [intOf]; omega
    · obtain rfl : i = N := by omega
      obtain ⟨z1, z2⟩ := HZ.out
      rw [← hlx, List.take_length] at z1 z2
      have hV := HV.out
      rw [← hlx, List.take_length] at hV
      obtain ⟨e1, e2, e3⟩ := HE.out
      cases hfb : fnU k L with
      | false =>
        obtain ⟨r1, r2, r3⟩ := dp_none hfb
        rw [hfb] at z1
        rw [r2] at e1
        rw [r3] at e2
        rw [r1] at e3
        subst z1 e1 e2 e3
        have HB2 := HB
        clear hV HV z2 hf HZ r1 r2 r3
        go_wp2
        go_ret2
        exact ⟨rfl, _, HF.out.later HB2.out, Fr.ofBelow HB2.out, fun _ q => .inl q⟩
      | true =>
        obtain ⟨r1, r2, r3⟩ := dp_done HO.out hfb
        rw [hfb] at z1
        rw [← r2, ← z2] at e1
        rw [r3] at e2
        rw [← r1] at e3
        rw [e3] at hV
        subst z1 e1 e2
        have HT := RfTo.list HF.out HB.out hV
        have HT2 := (show Hid _ from HT)
        have fr : wr.frozen? ⟨g, 1, none⟩ = false := frozen_row hf.row 1
        clear hV HV z2 hf HZ r1 r2 r3 HT e3
        go_wp2
        go_ret2
        exact ⟨rfl, HT2.out⟩
end
end Go.Proofs.Ytpghalekcgnefaa
