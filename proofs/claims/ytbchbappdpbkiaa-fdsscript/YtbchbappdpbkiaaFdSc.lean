/- FdsScript's again: every walk that was kept goes over what there was at its call; tables of at most a million rows. -/
import Derived.Test.YtbchbappdpbkiaaFdSaT
import Derived.Test.YtbchbappdpbkiaaFdSbI
import Derived.Test.YtbchbappdpbkiaaFdSbT
import Derived.Test.YtbchbappdpbkiaaLater
namespace Go.Proofs.Ytbchbappdpbkiaa
open Go.RowKit Go.Maps
theorem kform {α : Type} {en : α → List Value} {e : TypeId} {W : World} {v : Value} {L : List α} (hr : ∀ x, (en x).length = 1) (h : W.ownsRow 0 e 1 v L.length (L.flatMap en)) : ∃ p c, v = .slice p L.length c ∧ ∀ i x, L[i]? = some x → ∃ b, p = some ⟨b, 0, none⟩ ∧ b < W.heap.size ∧ ∀ u, (en x)[0]? = some u → W.cell? ⟨b, i, none⟩ = some u := by
  rcases own_form h with ⟨rfl, h0⟩ | ⟨b, c, rfl, hb⟩
  · exact ⟨none, 0, by rw [h0], fun k o hk => by have := (List.getElem?_eq_some_iff.1 hk).1; omega⟩
  · refine ⟨_, c, rfl, fun k x hk => ⟨b, rfl, hb, fun u hu => ?_⟩⟩
    have := own_get hr h hk 0 u hu
    rwa [Nat.mul_one, Nat.add_zero] at this
section
variable {w W : World} {l : List Part} {gK : Nat} {v0 v1 v2 v3 v4 v5 : Value} {LI : List ItI} {LT : List ItT}
set_option maxRecDepth 20000 in
set_option maxHeartbeats 4000000 in
theorem again_ok (h : Sep w W (bxP gK #[v0, v1, v2, v3, v4, v5] 35 :: k0I v0 LI :: k1I v1 LI :: k2I v2 LI :: itsI LI :: k0T v3 LT :: k1T v4 LT :: k2T v5 LT :: itsT LT :: l)) (hI : LI.length ≤ 900000) (hT : LT.length ≤ 900000) (hIR : ∀ y ∈ LI, y.R.length ≤ 900000) (hTR : ∀ y ∈ LT, y.R.length ≤ 900000) :
    Calls Try.prog 13 #[.pointer (some ⟨gK, 0, none⟩)] W fun e W' => e = .returned (.bool true) ∧ Below W.heap.size W W' := by
  have hb := h.head
  have hgl : gK < W.heap.size := (Array.getElem?_eq_some_iff.1 hb).1
  obtain ⟨p0, c0, e0, f0⟩ := kform (en := e0I) (fun _ => rfl) (h.sayOf (q := k0I v0 LI) (by simp))
  obtain ⟨p1, c1, e1, f1⟩ := kform (en := e1I) (fun _ => rfl) (h.sayOf (q := k1I v1 LI) (by simp))
  obtain ⟨p2, c2, e2, f2⟩ := kform (en := e2I) (fun _ => rfl) (h.sayOf (q := k2I v2 LI) (by simp))
  obtain ⟨p3, c3, e3, f3⟩ := kform (en := e0T) (fun _ => rfl) (h.sayOf (q := k0T v3 LT) (by simp))
  obtain ⟨p4, c4, e4, f4⟩ := kform (en := e1T) (fun _ => rfl) (h.sayOf (q := k1T v4 LT) (by simp))
  obtain ⟨p5, c5, e5, f5⟩ := kform (en := e2T) (fun _ => rfl) (h.sayOf (q := k2T v5 LT) (by simp))
  subst e0 e1 e2 e3 e4 e5
  have HI : Hid (∀ i x, LI[i]? = some x → x.R.length ≤ 900000 ∧ ((itI x).say W ∧ ∀ k, (itI x).own k → k < W.heap.size)) := fun i x hx => by
    have hm := List.mem_of_getElem? hx
    exact ⟨hIR x hm, h.sayOf (q := itsI LI) (by simp) x hm, fun k hk => (h.lt (itsI LI) (by simp) k ⟨x, hm, hk⟩).2⟩
  have HT : Hid (∀ i x, LT[i]? = some x → x.R.length ≤ 900000 ∧ ((itT x).say W ∧ ∀ k, (itT x).own k → k < W.heap.size)) := fun i x hx => by
    have hm := List.mem_of_getElem? hx
    exact ⟨hTR x hm, h.sayOf (q := itsT LT) (by simp) x hm, fun k hk => (h.lt (itsT LT) (by simp) k ⟨x, hm, hk⟩).2⟩
  have HB : Hid (W.heap[gK]? = some (.cells #[.slice p0 LI.length c0, .slice p1 LI.length c1, .slice p2 LI.length c2, .slice p3 LT.length c3, .slice p4 LT.length c4, .slice p5 LT.length c5] 35)) := hb
  have F0 := (show Hid _ from f0)
  have F1 := (show Hid _ from f1)
  have F2 := (show Hid _ from f2)
  have F3 := (show Hid _ from f3)
  have F4 := (show Hid _ from f4)
  have F5 := (show Hid _ from f5)
  obtain ⟨nI, hnI⟩ : ∃ nI, LI.length = nI := ⟨_, rfl⟩
  obtain ⟨nT, hnT⟩ : ∃ nT, LT.length = nT := ⟨_, rfl⟩
  have HNI : Hid (LI.length = nI) := hnI
  have HNT : Hid (LT.length = nT) := hnT
  rw [hnI, hnT] at HB
  rw [hnI] at hI
  rw [hnT] at hT
  clear h hb f0 f1 f2 f3 f4 f5 hIR hTR hnI hnT
  go_enter Try.func13, Try.ntmps13
  go_wp2
  go_loopw [3] (fun s3 wx => ∃ i : Nat, i ≤ nI ∧ s3 = .int .i64 i ∧ Hid (Below W.heap.size W wx)) (fun s3 _ => nI - (intOf s3).toNat)
  case atStart => exact ⟨0, by omega, rfl, Below.refl _ _⟩
  case round =>
    obtain ⟨i, hi, rfl, HX⟩ := hrel
    have hbb : wr.heap[gK]? = _ := (HX.out.block gK hgl).trans HB.out
    have d0 : wr.cell? ⟨gK, 0, none⟩ = some (.slice p0 nI c0) := Joins.cell_of_block hbb 0
    by_cases hi2 : i < nI
    · have hln := HNI.out
      have hx : LI[i]? = some LI[i] := List.getElem?_eq_getElem (by omega)
      obtain ⟨hxR, hsay, hlt⟩ := HI.out i _ hx
      obtain ⟨b0, rfl, q0, g0⟩ := F0.out i _ hx
      obtain ⟨b1, rfl, q1, g1⟩ := F1.out i _ hx
      obtain ⟨b2, rfl, q2, g2⟩ := F2.out i _ hx
      have hszw := HX.out.size
      have m0 : ∀ y : Later wr, y.val.cell? ⟨gK, 0, none⟩ = some (.slice (some ⟨b0, 0, none⟩) nI c0) := fun y => (y.cell ⟨gK, 0, none⟩ (by show gK < _; omega)).trans d0
      have m1 : ∀ y : Later wr, y.val.cell? ⟨gK, 1, none⟩ = some (.slice (some ⟨b1, 0, none⟩) nI c1) := fun y => (y.cell ⟨gK, 1, none⟩ (by show gK < _; omega)).trans (Joins.cell_of_block hbb 1)
      have m2 : ∀ y : Later wr, y.val.cell? ⟨gK, 2, none⟩ = some (.slice (some ⟨b2, 0, none⟩) nI c2) := fun y => (y.cell ⟨gK, 2, none⟩ (by show gK < _; omega)).trans (Joins.cell_of_block hbb 2)
      have n0 : ∀ y : Later wr, y.val.cell? ⟨b0, i, none⟩ = some (fnI LI[i]) := fun y => (y.cell ⟨b0, i, none⟩ (by show b0 < _; omega)).trans ((HX.out.cell (p := ⟨b0, i, none⟩) q0).trans (g0 _ rfl))
      have n1 : ∀ y : Later wr, y.val.cell? ⟨b1, i, none⟩ = some (vFI LI[i]) := fun y => (y.cell ⟨b1, i, none⟩ (by show b1 < _; omega)).trans ((HX.out.cell (p := ⟨b1, i, none⟩) q1).trans (g1 _ rfl))
      have n2 : ∀ y : Later wr, y.val.cell? ⟨b2, i, none⟩ = some (vVI LI[i]) := fun y => (y.cell ⟨b2, i, none⟩ (by show b2 < _; omega)).trans ((HX.out.cell (p := ⟨b2, i, none⟩) q2).trans (g2 _ rfl))
      have hwk : ∀ (y : Later wr) (mo : Int), Calls Try.prog 39 #[fnI LI[i], vFI LI[i], vVI LI[i], .int .i64 mo] y.val fun e W' => e = .returned (.bool true) ∧ Below y.val.heap.size y.val W' := fun y mo => by
        have hbw := HX.out.trans (y.below.mono hszw)
        exact walk_itI (itI_good _ W y.val hsay hlt fun k hk => hbw.block k (hlt k hk)) hxR mo
      have hne := later_some wr
      generalize fnI LI[i] = fv at *
      generalize vFI LI[i] = fF at *
      generalize vVI LI[i] = fV at *
      clear hx hsay hlt hxR g0 g1 g2 q0 q1 q2 hbb hln hszw
      go_wp2
      refine wp_region_later (by kernel_rfl) (by kernel_rfl) wr (Below.refl _ _) ?_
      repeat (first | go_big_quiet_step (first | (go_at_call 39; exact Later.call _ (hwk _ _))))
      refine wpQuiet_nil ?_
      rintro _ ⟨y, rfl⟩
      have HX2 : Hid (Below W.heap.size W y.val) := HX.out.trans (y.below.mono HX.out.size)
      clear m0 m1 m2 n0 n1 n2 hwk hne HX
      generalize y.val = Z at *
      go_wp2
      go_roundw
      case rel => exact ⟨i + 1, by omega, by go_num, HX2⟩
      case measure => simp [intOf]; omega
    · obtain rfl : i = nI := by omega
      clear hbb
      go_wp2
      clear d0
      go_loopw [4] (fun s4 wx => ∃ j : Nat, j ≤ nT ∧ s4 = .int .i64 j ∧ Hid (Below W.heap.size W wx)) (fun s4 _ => nT - (intOf s4).toNat)
      case atStart => exact ⟨0, by omega, rfl, HX⟩
      case round =>
        clear HX
        obtain ⟨j, hj, rfl, HX⟩ := hrel
        have hbb : wr.heap[gK]? = _ := (HX.out.block gK hgl).trans HB.out
        have d0 : wr.cell? ⟨gK, 3, none⟩ = some (.slice p3 nT c3) := Joins.cell_of_block hbb 3
        by_cases hj2 : j < nT
        · have hln := HNT.out
          have hx : LT[j]? = some LT[j] := List.getElem?_eq_getElem (by omega)
          obtain ⟨hxR, hsay, hlt⟩ := HT.out j _ hx
          obtain ⟨b0, rfl, q0, g0⟩ := F3.out j _ hx
          obtain ⟨b1, rfl, q1, g1⟩ := F4.out j _ hx
          obtain ⟨b2, rfl, q2, g2⟩ := F5.out j _ hx
          have hszw := HX.out.size
          have m0 : ∀ y : Later wr, y.val.cell? ⟨gK, 3, none⟩ = some (.slice (some ⟨b0, 0, none⟩) nT c3) := fun y => (y.cell ⟨gK, 3, none⟩ (by show gK < _; omega)).trans d0
          have m1 : ∀ y : Later wr, y.val.cell? ⟨gK, 4, none⟩ = some (.slice (some ⟨b1, 0, none⟩) nT c4) := fun y => (y.cell ⟨gK, 4, none⟩ (by show gK < _; omega)).trans (Joins.cell_of_block hbb 4)
          have m2 : ∀ y : Later wr, y.val.cell? ⟨gK, 5, none⟩ = some (.slice (some ⟨b2, 0, none⟩) nT c5) := fun y => (y.cell ⟨gK, 5, none⟩ (by show gK < _; omega)).trans (Joins.cell_of_block hbb 5)
          have n0 : ∀ y : Later wr, y.val.cell? ⟨b0, j, none⟩ = some (fnT LT[j]) := fun y => (y.cell ⟨b0, j, none⟩ (by show b0 < _; omega)).trans ((HX.out.cell (p := ⟨b0, j, none⟩) q0).trans (g0 _ rfl))
          have n1 : ∀ y : Later wr, y.val.cell? ⟨b1, j, none⟩ = some (vFT LT[j]) := fun y => (y.cell ⟨b1, j, none⟩ (by show b1 < _; omega)).trans ((HX.out.cell (p := ⟨b1, j, none⟩) q1).trans (g1 _ rfl))
          have n2 : ∀ y : Later wr, y.val.cell? ⟨b2, j, none⟩ = some (vVT LT[j]) := fun y => (y.cell ⟨b2, j, none⟩ (by show b2 < _; omega)).trans ((HX.out.cell (p := ⟨b2, j, none⟩) q2).trans (g2 _ rfl))
          have hwk : ∀ (y : Later wr) (mo : Int), Calls Try.prog 49 #[fnT LT[j], vFT LT[j], vVT LT[j], .int .i64 mo] y.val fun e W' => e = .returned (.bool true) ∧ Below y.val.heap.size y.val W' := fun y mo => by
            have hbw := HX.out.trans (y.below.mono hszw)
            exact walk_itT (itT_good _ W y.val hsay hlt fun k hk => hbw.block k (hlt k hk)) hxR mo
          have hne := later_some wr
          generalize fnT LT[j] = fv at *
          generalize vFT LT[j] = fF at *
          generalize vVT LT[j] = fV at *
          clear hx hsay hlt hxR g0 g1 g2 q0 q1 q2 hbb hln hszw
          go_wp2
          refine wp_region_later (by kernel_rfl) (by kernel_rfl) wr (Below.refl _ _) ?_
          repeat (first | go_big_quiet_step (first | (go_at_call 49; exact Later.call _ (hwk _ _))))
          refine wpQuiet_nil ?_
          rintro _ ⟨y, rfl⟩
          have HX2 : Hid (Below W.heap.size W y.val) := HX.out.trans (y.below.mono HX.out.size)
          clear m0 m1 m2 n0 n1 n2 hwk hne HX
          generalize y.val = Z at *
          go_wp2
          go_roundw
          case rel => exact ⟨j + 1, by omega, by go_num, HX2⟩
          case measure => simp [intOf]; omega
        · obtain rfl : j = nT := by omega
          clear hbb
          go_wp2
          go_ret
          exact ⟨rfl, HX.out⟩
end
end Go.Proofs.Ytbchbappdpbkiaa
