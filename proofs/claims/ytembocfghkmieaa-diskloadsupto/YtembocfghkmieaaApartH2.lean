/- ApartHelds: lists of blocks with their numbers, in memory of their own, are told apart; there are at most 90 of them, each of at most ten million. -/
import Derived.Test.YtembocfghkmieaaApartH
import Derived.Deep.Onto
namespace Go.Proofs.Ytembocfghkmieaa
open Go.RowKit Go.Maps
theorem eq_cel_self (c : Cel) (w : World) : (Op.equalIn 10000 85 (.agg (celRow c).toArray) (.agg (celRow c).toArray)).run Try.prog w = .ok true w := by
  rw [eq_cel 9997 c c w]
  congr 1
  unfold celB
  rw [sameB_self]
  simp
theorem CelAt.laterB {W W' : World} {g off : Nat} {c : Cel} (h : CelAt W g off c) (hb : Below W.heap.size W W') (hlt : g < W.heap.size) : CelAt W' g off c :=
  ⟨(hb.cell (p := ⟨g, off, none⟩) hlt).trans h.1, fun j v hv => (hb.cell (p := ⟨g, off + 1 + j, none⟩) hlt).trans (h.2 j v hv)⟩
theorem row_cel {W : World} {g : Nat} {l : List Cel} (h : W.heap[g]? = some (.cells (celCells l).toArray 85)) {k : Nat} {c : Cel} (hc : l[k]? = some c) : CelAt W g (k * 1025) c := by
  obtain ⟨K, hK⟩ : ∃ K, K = k * 1025 := ⟨_, rfl⟩
  have key : ∀ j, j < 1025 → ∀ v, (celRow c)[j]? = some v → W.cell? ⟨g, K + j, none⟩ = some v := fun j hj v hv => by
    have q0 := (fm_get celRow 1025 celRow_len l k j c hc hj).trans hv
    rw [← hK] at q0
    rw [cell_of_row W g _ _ 85 _ h, List.getElem?_toArray]
    exact q0
  rw [← hK]
  clear hK hc h
  refine ⟨key 0 (by omega) _ rfl, fun j v hv => ?_⟩
  have hj : j < 1024 := by have := (List.getElem?_eq_some_iff.1 hv).1; rwa [blk_list_len] at this
  rw [Nat.add_assoc, Nat.add_comm 1 j]
  refine key (j + 1) (by omega) v ?_
  rw [show (celRow c)[j + 1]? = (blk c.2).toList[j]? by simp only [celRow, List.getElem?_cons_succ]]
  exact hv
set_option maxRecDepth 20000 in
set_option maxHeartbeats 4000000 in
theorem apartH_any (K gl : Nat) (g ns : Nat → Nat) (w : World) (fs : Nat → List Cel) (hK0 : 0 < K) (hK : (K : Int) ≤ 90) (hns : ∀ k, k < K → (fs k).length = ns k ∧ ns k ≤ 10000000) (hgl : ∀ k, k < K → gl ≠ g k) (hd : ∀ j k, j < K → k < K → j ≠ k → g j ≠ g k)
    (h0 : ListsH K gl g ns w fs w) :
    Calls Try.prog 22 #[.slice (some ⟨gl, 0, none⟩) K K] w fun e w' => e = .returned (.bool true) ∧ Fr (TG K g) w w' := by
  have HNS := (show Hid _ from hns)
  have HGL := (show Hid _ from hgl)
  have HD := (show Hid _ from hd)
  have h1 : ListsH K gl g ns w (upToH fs 0 0) w := ⟨h0.fr, h0.head, fun j hj => by
    rw [h0.row j hj]
    have : upToH fs 0 0 j = fs j := by
      unfold upToH
      rw [if_neg (by omega)]
      split
      · rw [asMarks_zero]
      · rfl
    rw [this]⟩
  clear hns hgl hd h0
  go_enter Try.func22, Try.ntmps22
  go_wp2
  go_loopw [3] (fun s3 wx => ∃ k : Nat, (k : Int) ≤ K ∧ s3 = .int .i64 k ∧ ListsH K gl g ns w (upToH fs k 0) wx) (fun s3 _ => K - (intOf s3).toNat)
  case atStart => exact ⟨0, by omega, rfl, h1⟩
  case round =>
    obtain ⟨k, hk, rfl, hL⟩ := hrel
    clear h1
    by_cases hk2 : (k : Int) < K
    · have hkN : k < K := by omega
      obtain ⟨hln, hn⟩ := HNS.out k hkN
      have HLN := (show Hid _ from hln)
      clear hln
      go_wp2
      go_loopw [4] (fun s4 wx => ∃ i : Nat, (i : Int) ≤ ns k ∧ s4 = .int .i64 i ∧ ListsH K gl g ns w (upToH fs k i) wx) (fun s4 _ => ns k - (intOf s4).toNat)
      case atStart => exact ⟨0, by omega, rfl, hL⟩
      case round =>
        obtain ⟨i, hi, rfl, hL⟩ := hrel
        have hhd := hL.head k hkN
        by_cases hi2 : (i : Int) < ns k
        · have HL : Hid (ListsH K gl g ns w (upToH fs k i) wr.drew) := ⟨hL.fr.trans (Fr.drew (T := TG K g) wr) (fun _ _ q => q), hL.head, hL.row⟩
          clear hL
          go_wp2
          have hwr : IntKind.i64.wrap ((k : Int) + 10) = (k : Int) + 10 := by rw [IntKind.wrap_i64]; omega
          refine wp_region_ord (S := fun u => u.cell? ⟨gl, k, none⟩ = some (.slice (some ⟨g k, 0, none⟩) (ns k) (ns k))) [(0, true), (1, true), (2, true), (3, true), (4, true), (5, true), (6, true), (7, true), (8, false), (9, true), (10, false)]
            (by kernel_rfl) rfl (by kernel_rfl) (fun d _ _ _ _ h => by cases d <;> exact h) hhd ?_
          simp only [inOrd, List.getElem?_cons_zero, List.getElem?_cons_succ]
          refine wpOrd_move rfl _ rfl ?_
          simp only [Act.put, List.setIfInBounds_toArray, List.set_cons_succ, List.set_cons_zero]
          refine wpOrd_move rfl _ rfl ?_
          simp only [Act.put, List.setIfInBounds_toArray, List.set_cons_succ, List.set_cons_zero]
          refine wpOrd_yield (v := .pointer (some ⟨gl, k, none⟩)) rfl (fun u _ => by go_simp) ?_
          simp only [Act.put, List.setIfInBounds_toArray, List.set_cons_succ, List.set_cons_zero]
          refine wpOrd_yield (v := .slice (some ⟨g k, 0, none⟩) (ns k) (ns k)) rfl (fun u hu => by go_simp) ?_
          simp only [Act.put, List.setIfInBounds_toArray, List.set_cons_succ, List.set_cons_zero]
          refine wpOrd_move rfl _ rfl ?_
          simp only [Act.put, List.setIfInBounds_toArray, List.set_cons_succ, List.set_cons_zero]
          refine wpOrd_move rfl _ rfl ?_
          simp only [Act.put, List.setIfInBounds_toArray, List.set_cons_succ, List.set_cons_zero]
          refine wpOrd_yield (v := .int .i64 ((k : Int) + 10)) rfl (fun u _ => by go_simp) ?_
          simp only [Act.put, List.setIfInBounds_toArray, List.set_cons_succ, List.set_cons_zero]
          refine wpOrd_move rfl _ rfl ?_
          simp only [Act.put, List.setIfInBounds_toArray, List.set_cons_succ, List.set_cons_zero]
          refine wpOrd_call rfl 67 _ _ rfl Try.call67 [.int .i64 ((k : Int) + 10), .int .i64 (i : Int)] rfl ?_
          refine (markHelds_any ((k : Int) + 10) i _ (by omega) (by omega)).mono ?_
          rintro e X ⟨rfl, hbX⟩
          have HLX := HL.out.later hbX
          have hrow := HLX.row k hkN
          have hup : upToH fs k i k = asMarks ((k : Int) + 10) (fs k) i := by unfold upToH; rw [if_neg (by omega), if_pos rfl]
          rw [hup] at hrow
          have hil : i < (fs k).length := by rw [HLN.out]; omega
          have hst := HLX.store hkN (HGL.out k hkN) (fun j hj e => HD.out j k hj hkN e) hil
          have hfit : i * 1025 + 1025 ≤ (celCells (asMarks ((k : Int) + 10) (fs k) i)).toArray.size := by
            rw [List.size_toArray, celCells_len, asMarks_len _ _ _ (by omega)]
            simp only [Nat.mul_comm _ 1025] at *
            omega
          refine ⟨_, rfl, HLX.head k hkN, ?_⟩
          have HST := (show Hid _ from hst)
          clear hst hup
          generalize (celCells (asMarks ((k : Int) + 10) (fs k) i)).toArray = cur at *
          generalize hm : markC ((k : Int) + 10) i = m at *
          simp only [Act.put, List.setIfInBounds_toArray, List.set_cons_succ, List.set_cons_zero]
          refine wpOrd_yield (v := .pointer (some ⟨g k, i * 1025, none⟩)) rfl (fun u _ => by go_simp) ?_
          simp only [Act.put, List.setIfInBounds_toArray, List.set_cons_succ, List.set_cons_zero]
          refine wpOrd_store85 rfl _ _ rfl (g k) (i * 1025) m cur rfl rfl hrow hfit ⟨HST.out.head k hkN, ?_⟩
          refine wpOrd_nil ?_
          simp only [Act.put]
          generalize X.setRow (g k) (putCel cur (i * 1025) m) = Y at HST ⊢
          clear HLX HL hhd hrow hm hfit hil
          go_wp2
          exact ⟨⟨i + 1, by omega, by go_num, HST.out⟩, by simp [intOf]; omega⟩
        · have e : i = (fs k).length := by rw [HLN.out]; omega
          have HL : Hid (ListsH K gl g ns w (upToH fs (k + 1) 0) wr) := by rw [e] at hL; exact hL.next
          clear hL e
          go_wp2
          exact ⟨⟨k + 1, by omega, by go_num, HL.out⟩, by simp [intOf]; omega⟩
    · have e : K = k := by omega
      have hm : ListsH K gl g ns w (fun j => marksL ((j : Int) + 10) (ns j)) wr := ⟨hL.fr, hL.head, fun j hj => by rw [hL.row j hj]; unfold upToH; rw [if_pos (by omega), (HNS.out j hj).1]⟩
      clear hL e hk
      have HM := (show Hid _ from hm)
      have hglt : gl < wr.heap.size := block_lt_of_cell (hm.head 0 hK0)
      clear hm
      go_wp2
      generalize wr = W2 at HM hglt ⊢
      go_loopw [5, 6] (fun s5 s6 wx => ∃ (k : Nat) (gv : Nat → Value), (k : Int) ≤ K ∧ s6 = .int .i64 k ∧ Hid (GrownH W2.heap.size ns k gv s5 wx) ∧ Hid (Below W2.heap.size W2 wx)) (fun _ s6 _ => K - (intOf s6).toNat)
      case atStart => exact ⟨0, fun _ => undef, by omega, rfl, ⟨World.ownsRow_nil _ _ _ _, fun j hj => absurd hj (by omega)⟩, Below.refl _ _⟩
      case round =>
        obtain ⟨k2, gv, hk3, rfl, HGr, HBl⟩ := hrel
        by_cases hk4 : (k2 : Int) < K
        · have hkN : k2 < K := by omega
          obtain ⟨_, hn⟩ := HNS.out k2 hkN
          have hhd : wr.cell? ⟨gl, k2, none⟩ = some (.slice (some ⟨g k2, 0, none⟩) (ns k2) (ns k2)) := (HBl.out.cell (p := ⟨gl, k2, none⟩) hglt).trans (HM.out.head k2 hkN)
          have hrow0 := HM.out.row k2 hkN
          have HR : Hid (wr.heap[g k2]? = some (.cells (celCells (marksL ((k2 : Int) + 10) (ns k2))).toArray 85)) := (HBl.out.block (g k2) (Array.getElem?_eq_some_iff.1 hrow0).1).trans hrow0
          clear hrow0
          have hgl3 : gl < wr.heap.size := Nat.lt_of_lt_of_le hglt HBl.out.size
          go_wp2
          generalize wr = W3 at HGr HBl hhd HR hgl3 ⊢
          go_loopw [7, 8] (fun s7 s8 wx => ∃ i : Nat, (i : Int) ≤ 6 ∧ s8 = .int .i64 i ∧ Hid (s7 = .slice (some ⟨g k2, 0, none⟩) (ns k2) (ns k2) ∧ i = 0 ∨ 0 < i ∧ HL W3.heap.size wx s7 (marksL ((k2 : Int) + 10) (ns k2 + i))) ∧ Hid (Below W3.heap.size W3 wx)) (fun _ s8 _ => 6 - (intOf s8).toNat)
          case atStart => exact ⟨0, by omega, rfl, .inl ⟨rfl, rfl⟩, Below.refl _ _⟩
          case round =>
            obtain ⟨i, hi, rfl, HS, HB3⟩ := hrel
            have hhd3 : wr.cell? ⟨gl, k2, none⟩ = some (.slice (some ⟨g k2, 0, none⟩) (ns k2) (ns k2)) := (HB3.out.cell (p := ⟨gl, k2, none⟩) hgl3).trans hhd
            by_cases hi2 : (i : Int) < 6
            · have HMk : Hid (∀ u : World, Calls Try.prog 67 #[.int .i64 ((k2 : Int) + 10), .int .i64 ((ns k2 : Int) + i)] u fun e w' => e = .returned (.agg (celRow (markC ((k2 : Int) + 10) (ns k2 + i))).toArray) ∧ Below u.heap.size u w') := fun u => by
                have := markHelds_any ((k2 : Int) + 10) (ns k2 + i) u (by omega) (by omega)
                rwa [show ((ns k2 + i : Nat) : Int) = (ns k2 : Int) + i by omega] at this
              have HSn : Hid (marksL ((k2 : Int) + 10) (ns k2 + (i + 1)) = marksL ((k2 : Int) + 10) (ns k2 + i) ++ [markC ((k2 : Int) + 10) (ns k2 + i)]) := marksL_succ _ _
              rcases HS.out with ⟨rfl, hi0⟩ | ⟨hpos, hown⟩
              · have HI0 : Hid (i = 0) := hi0
                clear HS hhd hi0
                go_wp2_with fail
                refine (HMk.out wr).mono ?_
                rintro e w2 ⟨rfl, hb2⟩
                have HB2 := Hid.mk' (HB3.out.trans (hb2.mono HB3.out.size))
                have hr3 : w2.heap[g k2]? = some (.cells (celCells (marksL ((k2 : Int) + 10) (ns k2))).toArray 85) := (HB2.out.block (g k2) (Array.getElem?_eq_some_iff.1 HR.out).1).trans HR.out
                have HFP := Hid.mk' (fun ty => first_push (W := w2) (c := markC ((k2 : Int) + 10) (ns k2 + i)) (marksL_len _ _) hr3 (show ns k2 ≤ 100000000 by omega) ty)
                clear hb2 hr3
                generalize markC ((k2 : Int) + 10) (ns k2 + i) = m at *
                obtain ⟨v', w3, hr, hown', hb3⟩ := HFP.out 30
                have HO' := Hid.mk' hown'
                have HB4 := Hid.mk' (HB2.out.trans (hb3.mono HB2.out.size))
                have HRR := Hid.mk' hr
                clear HFP hown' hb3 hr
                go_wp2_with (first | refine wpList_exec rfl (exec_slice85 rfl rfl) ?_ | refine wpList_exec rfl (exec_push rfl rfl rfl HRR.out) ?_)
                refine ⟨⟨i + 1, by omega, by go_num, .inr ⟨by omega, ?_⟩, HB4.out⟩, by simp [intOf]; omega⟩
                have h1 := HO'.out
                rw [HSn.out]
                have h2 := HI0.out
                subst h2
                exact World.ownsRow.mono h1 HB2.out.size
              · have HOw := Hid.mk' hown
                clear HS hhd hown
                go_wp2_with fail
                refine (HMk.out wr).mono ?_
                rintro e w2 ⟨rfl, hb2⟩
                have HB2 := Hid.mk' (HB3.out.trans (hb2.mono HB3.out.size))
                have hown2 := HOw.out.later hb2
                obtain ⟨v', w3, hr, hown', hb3, _⟩ := hown2.push HB2.out.size (by rw [marksL_len]; omega) (markC ((k2 : Int) + 10) (ns k2 + i)) 30
                have HO' := Hid.mk' hown'
                have HB4 := Hid.mk' (HB2.out.trans hb3)
                have HRR := Hid.mk' hr
                clear hown' hb3 hr hb2 hown2
                generalize markC ((k2 : Int) + 10) (ns k2 + i) = m at *
                go_wp2_with (first | refine wpList_exec rfl (exec_slice85 rfl rfl) ?_ | refine wpList_exec rfl (exec_push rfl rfl rfl HRR.out) ?_)
                refine ⟨⟨i + 1, by omega, by go_num, .inr ⟨by omega, ?_⟩, HB4.out⟩, by simp [intOf]; omega⟩
                rw [HSn.out]
                exact HO'.out
            · have hi6 : i = 6 := by omega
              have HO : Hid (HL W2.heap.size wr u7 (marksL ((k2 : Int) + 10) (ns k2 + 6))) := by
                rcases HS.out with ⟨_, h0⟩ | ⟨_, hown⟩
                · omega
                · rw [hi6] at hown
                  exact World.ownsRow.mono hown HBl.out.size
              obtain ⟨g7, c7, hu7, _⟩ := HO.out.some (by rw [marksL_len]; omega)
              rw [marksL_len] at hu7
              subst hu7
              clear HS hhd hhd3
              go_wp2_with (first | (at_builtin; refine wpList_growH rfl (.tmp 63) (.tmp 65) rfl W2.heap.size ns k2 gv _ _ rfl rfl (HGr.out.later HB3.out) HO.out (by omega) (Nat.le_trans HBl.out.size HB3.out.size) ?_; intro v' w2 hG2 hb2))
              exact ⟨⟨k2 + 1, _, by omega, by go_num, hG2, (HBl.out.trans (HB3.out.mono HBl.out.size)).trans hb2⟩, by simp [intOf]; omega⟩
        · have e : k2 = K := by omega
          subst e
          have HC : Hid (∀ j, j < k2 → ∃ h c, gv j = .slice (some ⟨h, 0, none⟩) (ns j + 6) c ∧ h < wr.heap.size ∧ ∀ i, i < ns j + 6 → CelAt wr h (i * 1025) (markC ((j : Int) + 10) i)) := fun j hj => by
            have hj' := HGr.out.each j hj
            obtain ⟨h, c, hv2, _, hlt, hcc⟩ := hj'.some (by rw [marksL_len]; omega)
            rw [marksL_len] at hv2
            exact ⟨h, c, hv2, hlt, fun i hi => hcc i _ (marksL_get _ _ _ hi)⟩
          obtain ⟨G, cG, hu5, HD5⟩ : ∃ G cG, u5 = .slice (some ⟨G, 0, none⟩) k2 cG ∧ Hid (∀ j, j < k2 → wr.cell? ⟨G, j, none⟩ = some (gv j)) := by
            have hr := HGr.out.row
            obtain ⟨_, h2⟩ := hr
            rcases h2 with ⟨_, h0⟩ | ⟨G, cG, cur, hv, _⟩
            · omega
            · refine ⟨G, cG, hv, fun j hj => ?_⟩
              have hr := HGr.out.row
              rw [hv] at hr
              rw [World.ownsRow.cellAt hr j (by omega)]
              simp [hj]
          subst hu5
          have HE : Hid (∀ j, j < k2 → wr.cell? ⟨gl, j, none⟩ = some (.slice (some ⟨g j, 0, none⟩) (ns j) (ns j)) ∧ g j < wr.heap.size ∧ ∀ i, i < ns j → CelAt wr (g j) (i * 1025) (markC ((j : Int) + 10) i)) := fun j hj => by
            have hrow0 := HM.out.row j hj
            have hlt := (Array.getElem?_eq_some_iff.1 hrow0).1
            exact ⟨(HBl.out.cell (p := ⟨gl, j, none⟩) hglt).trans (HM.out.head j hj), Nat.lt_of_lt_of_le hlt HBl.out.size, fun i hi => row_cel ((HBl.out.block (g j) hlt).trans hrow0) (marksL_get _ _ _ hi)⟩
          have HF : Hid (Fr (TG k2 g) w wr) := HM.out.fr.trans (Fr.mono (T := fun _ => False) (Fr.ofBelow HBl.out) (fun _ _ q => q.elim)) (fun _ _ (q : False) => q.elim)
          clear HGr HBl HM hglt
          go_wp2
          generalize wr = W4 at HC HD5 HE HF ⊢
          go_loopw [9] (fun s9 wx => ∃ k : Nat, (k : Int) ≤ k2 ∧ s9 = .int .i64 k ∧ Hid (Below W4.heap.size W4 wx)) (fun s9 _ => k2 - (intOf s9).toNat)
          case atStart => exact ⟨0, by omega, rfl, Below.refl _ _⟩
          case round =>
            obtain ⟨k5, hk5, rfl, HB5⟩ := hrel
            by_cases hk6 : (k5 : Int) < k2
            · have hkN : k5 < k2 := by omega
              obtain ⟨_, hn⟩ := HNS.out k5 hkN
              obtain ⟨h, c, hgv, hhlt, hc⟩ := HC.out k5 hkN
              have hc5 := HD5.out k5 hkN
              rw [hgv] at hc5
              obtain ⟨hc6, hglt6, hc7⟩ := HE.out k5 hkN
              have hwr : IntKind.i64.wrap ((k5 : Int) + 10) = (k5 : Int) + 10 := by rw [IntKind.wrap_i64]; omega
              have HCc := (show Hid _ from hc)
              have HC7 := (show Hid _ from hc7)
              have hGl := block_lt_of_cell hc5
              have hgl6 := block_lt_of_cell hc6
              clear hc hc7
              go_wp2
              go_loopw [10] (fun s10 wx => ∃ i : Nat, (i : Int) ≤ ns k5 + 6 ∧ s10 = .int .i64 i ∧ Hid (Below W4.heap.size W4 wx)) (fun s10 _ => ns k5 + 6 - (intOf s10).toNat)
              case atStart => exact ⟨0, by omega, rfl, HB5.out⟩
              case round =>
                obtain ⟨i, hi, rfl, HB⟩ := hrel
                have hc5' : wr.cell? ⟨G, k5, none⟩ = _ := (HB.out.cell (p := ⟨G, k5, none⟩) hGl).trans hc5
                by_cases hi2 : (i : Int) < ns k5 + 6
                · have hmk := fun u => markHelds_any ((k5 : Int) + 10) i u (by omega) (by omega)
                  have heq := eq_cel_self (markC ((k5 : Int) + 10) i)
                  have q5 : ∀ x : Later wr, x.val.cell? ⟨G, k5, none⟩ = some (.slice (some ⟨h, 0, none⟩) (ns k5 + 6) c) := fun x => (x.cell ⟨G, k5, none⟩ (Nat.lt_of_lt_of_le hGl HB.out.size)).trans hc5'
                  have q6 : ∀ x : Later wr, x.val.cell? ⟨gl, k5, none⟩ = some (.slice (some ⟨g k5, 0, none⟩) (ns k5) (ns k5)) := fun x => (x.cell ⟨gl, k5, none⟩ (Nat.lt_of_lt_of_le hgl6 HB.out.size)).trans ((HB.out.cell (p := ⟨gl, k5, none⟩) hgl6).trans hc6)
                  have l1 : h < wr.heap.size := Nat.lt_of_lt_of_le hhlt HB.out.size
                  have l2 : g k5 < wr.heap.size := Nat.lt_of_lt_of_le hglt6 HB.out.size
                  have HL1 : Hid (CelAt wr h (i * 1025) (markC ((k5 : Int) + 10) i)) := (HCc.out i (by omega)).laterB HB.out hhlt
                  have hne := later_some wr
                  by_cases hi3 : (i : Int) < ns k5
                  · have HL2 : Hid (CelAt wr (g k5) (i * 1025) (markC ((k5 : Int) + 10) i)) := (HC7.out i (by omega)).laterB HB.out hglt6
                    generalize markC ((k5 : Int) + 10) i = m at *
                    have HQ1 : Hid (∀ {o : Oper} {a : Act} {K : Act → Prop} (x : Operand), o.op = .load 85 x → a.eval x = .pointer (some ⟨h, i * 1025, none⟩) → K (a.put o.dst (.agg (celRow m).toArray)) → o.quiet Try.prog a (fun w' => ∃ x : Later wr, w' = x.val) K) := fun x ho hx hk => quiet_load85 x ho h (i * 1025) hx m l1 HL1.out hk
                    have HQ2 : Hid (∀ {o : Oper} {a : Act} {K : Act → Prop} (x : Operand), o.op = .load 85 x → a.eval x = .pointer (some ⟨g k5, i * 1025, none⟩) → K (a.put o.dst (.agg (celRow m).toArray)) → o.quiet Try.prog a (fun w' => ∃ x : Later wr, w' = x.val) K) := fun x ho hx hk => quiet_load85 x ho (g k5) (i * 1025) hx m l2 HL2.out hk
                    clear HL1 HL2
                    generalize (celRow m).toArray = M at *
                    go_wp2
                    refine wp_region_later (by kernel_rfl) (by kernel_rfl) wr (Below.refl _ _) ?_
                    repeat (first
                      | (go_big_quiet_want; refine HQ1.out _ rfl rfl ?_; simp only [Act.put, List.setIfInBounds_toArray, List.set_cons_succ, List.set_cons_zero]; go_big_quiet_on)
                      | (go_big_quiet_want; refine HQ2.out _ rfl rfl ?_; simp only [Act.put, List.setIfInBounds_toArray, List.set_cons_succ, List.set_cons_zero]; go_big_quiet_on)
                      | go_big_quiet_step (first | (go_at_call 67; exact Later.call _ (hmk _))))
                    refine wpQuiet_nil ?_
                    rintro _ ⟨x, rfl⟩
                    go_wp2
                    exact ⟨⟨i + 1, by omega, by go_num, HB.out.trans (x.below.mono HB.out.size)⟩, by simp [intOf]; omega⟩
                  · have hi4 : decide ((i : Int) < (ns k5 : Int)) = false := by simpa using hi3
                    have hi5 : decide (i < ns k5) = false := by simp; omega
                    generalize markC ((k5 : Int) + 10) i = m at *
                    have HQ1 : Hid (∀ {o : Oper} {a : Act} {K : Act → Prop} (x : Operand), o.op = .load 85 x → a.eval x = .pointer (some ⟨h, i * 1025, none⟩) → K (a.put o.dst (.agg (celRow m).toArray)) → o.quiet Try.prog a (fun w' => ∃ x : Later wr, w' = x.val) K) := fun x ho hx hk => quiet_load85 x ho h (i * 1025) hx m l1 HL1.out hk
                    clear HL1
                    generalize (celRow m).toArray = M at *
                    go_wp2
                    refine wp_region_later (by kernel_rfl) (by kernel_rfl) wr (Below.refl _ _) ?_
                    repeat (first
                      | (go_big_quiet_want; refine HQ1.out _ rfl rfl ?_; simp only [Act.put, List.setIfInBounds_toArray, List.set_cons_succ, List.set_cons_zero]; go_big_quiet_on)
                      | go_big_quiet_step (first | (go_at_call 67; exact Later.call _ (hmk _))))
                    refine wpQuiet_nil ?_
                    rintro _ ⟨x, rfl⟩
                    go_wp2
                    exact ⟨⟨i + 1, by omega, by go_num, HB.out.trans (x.below.mono HB.out.size)⟩, by simp [intOf]; omega⟩
                · go_wp2
                  exact ⟨⟨k5 + 1, by omega, by go_num, HB.out⟩, by simp [intOf]; omega⟩
            · go_wp2
              go_ret
              exact ⟨rfl, HF.out.trans (Fr.mono (T := fun _ => False) (Fr.ofBelow HB5.out) (fun _ _ q => q.elim)) (fun _ _ (q : False) => q.elim)⟩
end Go.Proofs.Ytembocfghkmieaa
