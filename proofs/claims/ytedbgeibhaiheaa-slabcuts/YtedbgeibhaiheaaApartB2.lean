/- ApartBlocks itself: lists of blocks in memory of their own are told apart; there are at most 90 of them, each of fewer than 2 to the 37th blocks. -/
import Derived.Test.YtedbgeibhaiheaaApartB
namespace Go.Proofs.Ytedbgeibhaiheaa
open Go.RowKit

theorem catB_marks0 (k : Int) (n x : Nat) (hx : x < (n + 1) * 1024) : catB (marksB k) n (markB k n) x = marksB k x := by
  unfold catB
  by_cases h : x < n * 1024
  · rw [if_pos h]
  · have h1 : x / 1024 = n := by simp only [Nat.mul_comm _ 1024] at *; omega
    have h2 : x % 1024 = x - n * 1024 := by simp only [Nat.mul_comm _ 1024] at *; omega
    rw [if_neg h]
    unfold marksB
    rw [h1, h2]
theorem marksB_in (k : Int) (n j : Nat) (hj : j < 1024) : marksB k (n * 1024 + j) = markB k n j := by
  unfold marksB
  have h1 : (n * 1024 + j) / 1024 = n := by simp only [Nat.mul_comm _ 1024] at *; omega
  have h2 : (n * 1024 + j) % 1024 = j := by simp only [Nat.mul_comm _ 1024] at *; omega
  rw [h1, h2]

set_option maxRecDepth 20000 in
set_option maxHeartbeats 2000000 in
theorem apartB_any (K gl : Nat) (g ns : Nat → Nat) (base : Nat) (w : World) (fs : Nat → Nat → Int) (hK0 : 0 < K) (hK : (K : Int) ≤ 90) (hns : ∀ k, k < K → ns k ≤ 137438953472) (hg : ∀ k, k < K → base ≤ g k) (hgl : ∀ k, k < K → gl ≠ g k) (hd : ∀ j k, j < K → k < K → j ≠ k → g j ≠ g k) (hbase : base ≤ w.heap.size)
    (h0 : ListsB K gl g ns base w fs w) :
    Calls Try.prog 33 #[.slice (some ⟨gl, 0, none⟩) K K] w fun e w' => e = .returned (.bool true) ∧ Below base w w' := by
  have HNS := (show Hid _ from hns)
  have HG := (show Hid _ from hg)
  have HGL := (show Hid _ from hgl)
  have HD := (show Hid _ from hd)
  have h1 : ListsB K gl g ns base w (upToB fs 0 0) w := ⟨h0.below, h0.head, fun j hj => by
    rw [h0.row j hj, rowA_congr fun i _ => ?_]
    unfold upToB firstAs
    rw [if_neg (by omega)]
    split
    · simp
    · rfl⟩
  clear hns hg hgl hd h0
  have heq := eq25
  have hself := sameB_self
  go_enter Try.func33, Try.ntmps33
  go_wp2
  go_loopw [3] (fun s3 wx => ∃ k : Nat, (k : Int) ≤ K ∧ s3 = .int .i64 k ∧ ListsB K gl g ns base w (upToB fs k 0) wx) (fun s3 _ => K - (intOf s3).toNat)
  case atStart => exact ⟨0, by omega, rfl, h1⟩
  case round =>
    obtain ⟨k, hk, rfl, hL⟩ := hrel
    clear h1
    by_cases hk2 : (k : Int) < K
    · have hkN : k < K := by omega
      have hn := HNS.out k hkN
      go_wp2
      go_loopw [4] (fun s4 wx => ∃ i : Nat, (i : Int) ≤ ns k ∧ s4 = .int .i64 i ∧ ListsB K gl g ns base w (upToB fs k i) wx) (fun s4 _ => ns k - (intOf s4).toNat)
      case atStart => exact ⟨0, by omega, rfl, hL⟩
      case round =>
        obtain ⟨i, hi, rfl, hL⟩ := hrel
        have hhd := hL.head k hkN
        by_cases hi2 : (i : Int) < ns k
        · have HL : Hid (ListsB K gl g ns base w (upToB fs k i) wr.drew) := ⟨hL.below.drew, hL.head, hL.row⟩
          clear hL
          go_wp2
          have hwr : IntKind.i64.wrap ((k : Int) + 10) = (k : Int) + 10 := by rw [IntKind.wrap_i64]; omega
          refine wp_region_ord (S := fun u => u.cell? ⟨gl, k, none⟩ = some (.slice (some ⟨g k, 0, none⟩) (ns k) (ns k))) [(0, true), (1, true), (2, true), (3, true), (4, true), (5, true), (6, true), (7, true), (8, false), (9, true), (10, false)]
            (by kernel_rfl) rfl (by kernel_rfl) (fun d _ _ _ _ h => by cases d <;> exact h) hhd ?_
          simp only [inOrd, List.getElem?_cons_zero, List.getElem?_cons_succ]
          refine wpOrd_move rfl _ rfl ?_
          simp only [Act.put, List.setIfInBounds_toArray, List.set_cons_succ, List.set_cons_zero]
          refine wpOrd_move rfl _ rfl ?_
          simp only [Act.put, List.setIfInBounds_toArray, List.set_cons_succ, List.set_cons_zero]
          refine wpOrd_yield (v := .pointer (some ⟨gl, k, none⟩)) rfl (fun u _ => by go_simp) ?_
          simp only [Act.put, List.setIfInBounds_toArray, List.set_cons_succ, List.set_cons_zero]
          refine wpOrd_yield (v := .slice (some ⟨g k, 0, none⟩) (ns k) (ns k)) rfl (fun u hu => by go_simp) ?_
          simp only [Act.put, List.setIfInBounds_toArray, List.set_cons_succ, List.set_cons_zero]
          refine wpOrd_move rfl _ rfl ?_
          simp only [Act.put, List.setIfInBounds_toArray, List.set_cons_succ, List.set_cons_zero]
          refine wpOrd_move rfl _ rfl ?_
          simp only [Act.put, List.setIfInBounds_toArray, List.set_cons_succ, List.set_cons_zero]
          refine wpOrd_yield (v := .int .i64 ((k : Int) + 10)) rfl (fun u _ => by go_simp) ?_
          simp only [Act.put, List.setIfInBounds_toArray, List.set_cons_succ, List.set_cons_zero]
          refine wpOrd_move rfl _ rfl ?_
          simp only [Act.put, List.setIfInBounds_toArray, List.set_cons_succ, List.set_cons_zero]
          refine wpOrd_call rfl 47 _ _ rfl Try.call47 [.int .i64 ((k : Int) + 10), .int .i64 (i : Int)] rfl ?_
          refine (markBlocks_any ((k : Int) + 10) i _ (by omega) (by omega)).mono ?_
          rintro e X ⟨rfl, hbX⟩
          have HLX := HL.out.later hbX (Nat.le_trans hbase HL.out.below.size)
          have hst := HLX.store hkN (HG.out k hkN) (HGL.out k hkN) (fun j hj e => HD.out j k hj hkN e)
          have hfit : i * 1024 + 1024 ≤ ns k * 1024 := by simp only [Nat.mul_comm _ 1024] at *; omega
          have hrow := HLX.row k hkN
          refine ⟨_, rfl, HLX.head k hkN, ?_⟩
          generalize hm : markB ((k : Int) + 10) (i : Int) = m at *
          simp only [Act.put, List.setIfInBounds_toArray, List.set_cons_succ, List.set_cons_zero]
          refine wpOrd_yield (v := .pointer (some ⟨g k, i * 1024, none⟩)) rfl (fun u _ => by go_simp) ?_
          simp only [Act.put, List.setIfInBounds_toArray, List.set_cons_succ, List.set_cons_zero]
          refine wpOrd_store25 rfl _ _ rfl (g k) (i * 1024) (ns k * 1024) _ m 25 rfl rfl hrow hfit ⟨hst.head k hkN, ?_⟩
          refine wpOrd_nil ?_
          simp only [Act.put]
          have HS := (show Hid _ from hst)
          generalize X.setCells (g k) (i * 1024) (blk m).toList = Y at HS ⊢
          clear hst HLX HL hhd hrow hm
          go_wp2
          exact ⟨⟨i + 1, by omega, by go_num, HS.out⟩, by simp [intOf]; omega⟩
        · have e : i = ns k := by omega
          have HL : Hid (ListsB K gl g ns base w (upToB fs (k + 1) 0) wr) := by rw [e] at hL; exact hL.next
          clear hL e
          go_wp2
          exact ⟨⟨k + 1, by omega, by go_num, HL.out⟩, by simp [intOf]; omega⟩
    · have e : K = k := by omega
      have hm : ListsB K gl g ns base w (fun j => marksB (j + 10)) wr := ⟨hL.below, hL.head, fun j hj => by rw [hL.row j hj]; unfold upToB; rw [if_pos (by omega)]⟩
      clear hL e hk
      have HM := (show Hid _ from hm)
      have hglt : gl < wr.heap.size := block_lt_of_cell (hm.head 0 hK0)
      clear hm
      go_wp2
      generalize wr = W2 at HM hglt ⊢
      go_loopw [5, 6] (fun s5 s6 wx => ∃ (k : Nat) (gv : Nat → Value), (k : Int) ≤ K ∧ s6 = .int .i64 k ∧ Hid (GrownB W2.heap.size ns k gv s5 wx) ∧ Hid (Below W2.heap.size W2 wx)) (fun _ s6 _ => K - (intOf s6).toNat)
      case atStart => exact ⟨0, fun _ => undef, by omega, rfl, ⟨World.ownsRow_nil _ _ _ _, fun j hj => absurd hj (by omega)⟩, Below.refl _ _⟩
      case round =>
        obtain ⟨k2, gv, hk3, rfl, HGr, HBl⟩ := hrel
        by_cases hk4 : (k2 : Int) < K
        · have hkN : k2 < K := by omega
          have hn := HNS.out k2 hkN
          have hhd : wr.cell? ⟨gl, k2, none⟩ = some (.slice (some ⟨g k2, 0, none⟩) (ns k2) (ns k2)) := (HBl.out.cell (p := ⟨gl, k2, none⟩) hglt).trans (HM.out.head k2 hkN)
          have hrow0 := HM.out.row k2 hkN
          have HR : Hid (wr.heap[g k2]? = some (.cells (rowA (marksB (k2 + 10)) (ns k2 * 1024)) 25)) := (HBl.out.block (g k2) (Array.getElem?_eq_some_iff.1 hrow0).1).trans hrow0
          clear hrow0
          have hgl3 : gl < wr.heap.size := Nat.lt_of_lt_of_le hglt HBl.out.size
          go_wp2
          generalize wr = W3 at HGr HBl hhd HR hgl3 ⊢
          go_loopw [7, 8] (fun s7 s8 wx => ∃ i : Nat, (i : Int) ≤ 6 ∧ s8 = .int .i64 i ∧ Hid (s7 = .slice (some ⟨g k2, 0, none⟩) (ns k2) (ns k2) ∧ i = 0 ∨ 0 < i ∧ OwnB wx W3.heap.size s7 (ns k2 + i) (marksB (k2 + 10))) ∧ Hid (Below W3.heap.size W3 wx)) (fun _ s8 _ => 6 - (intOf s8).toNat)
          case atStart => exact ⟨0, by omega, rfl, .inl ⟨rfl, rfl⟩, Below.refl _ _⟩
          case round =>
            obtain ⟨i, hi, rfl, HS, HB3⟩ := hrel
            have hhd3 : wr.cell? ⟨gl, k2, none⟩ = some (.slice (some ⟨g k2, 0, none⟩) (ns k2) (ns k2)) := (HB3.out.cell (p := ⟨gl, k2, none⟩) hgl3).trans hhd
            by_cases hi2 : (i : Int) < 6
            · have hsz : ns k2 + i + 1 ≤ 137438954000 := by omega
              have HSZ := (show Hid _ from hsz)
              have HMM : Hid (∀ x, x < (ns k2 + i + 1) * 1024 → catB (marksB ((k2 : Int) + 10)) (ns k2 + i) (markB ((k2 : Int) + 10) ((ns k2 : Int) + i)) x = marksB ((k2 : Int) + 10) x) := fun x hx => by
                have := catB_marks0 ((k2 : Int) + 10) (ns k2 + i) x hx
                rwa [show ((ns k2 + i : Nat) : Int) = (ns k2 : Int) + i by omega] at this
              clear hsz
              rcases HS.out with ⟨rfl, hi0⟩ | ⟨hpos, hown⟩
              · have HI0 : Hid (i = 0) := hi0
                clear HS hhd hi0
                go_wp2_with fail
                refine (markBlocks_any ((k2 : Int) + 10) ((ns k2 : Int) + i) wr (by omega) (by omega)).mono ?_
                rintro e w2 ⟨rfl, hb2⟩
                have hB2 := HB3.out.trans (hb2.mono HB3.out.size)
                have HR3 : Hid (w2.heap[g k2]? = some (.cells (rowA (marksB (k2 + 10)) (ns k2 * 1024)) 25)) := (hB2.block (g k2) (Array.getElem?_eq_some_iff.1 HR.out).1).trans HR.out
                have HSZ0 : Hid (ns k2 + 1 ≤ 137438954000) := show _ ≤ _ by omega
                generalize markB ((k2 : Int) + 10) ((ns k2 : Int) + i) = m at *
                go_wp2_with (first | refine wpList_build1 rfl (.tmp 60) rfl m rfl ?_ | (at_builtin; refine wpList_firstB rfl (.tmp 50) (.tmp 61) rfl (g k2) (ns k2) (marksB (k2 + 10)) m rfl rfl HR3.out HSZ0.out ?_; intro v' w3 hown' hb3))
                refine ⟨⟨i + 1, by omega, by go_num, .inr ⟨by omega, ?_⟩, hB2.trans (hb3.mono hB2.size)⟩, by simp [intOf]; omega⟩
                have hi0 := HI0.out
                have hmm := HMM.out
                rw [hi0] at hmm ⊢
                exact World.ownsRow.mono (hown'.congr hmm) hB2.size
              · clear HS hhd
                go_wp2_with fail
                refine (markBlocks_any ((k2 : Int) + 10) ((ns k2 : Int) + i) wr (by omega) (by omega)).mono ?_
                rintro e w2 ⟨rfl, hb2⟩
                have hB2 := HB3.out.trans (hb2.mono HB3.out.size)
                have hown2 := hown.later hb2
                generalize markB ((k2 : Int) + 10) ((ns k2 : Int) + i) = m at *
                go_wp2_with (first | refine wpList_build1 rfl (.tmp 60) rfl m rfl ?_ | (at_builtin; refine wpList_pushBw rfl (.tmp 50) (.tmp 61) rfl W3.heap.size _ (ns k2 + i) (marksB (k2 + 10)) m rfl rfl hown2 HSZ.out hB2.size ?_; intro v' w3 hown' _ hb3))
                exact ⟨⟨i + 1, by omega, by go_num, .inr ⟨by omega, hown'.congr HMM.out⟩, hB2.trans hb3⟩, by simp [intOf]; omega⟩
            · have hi6 : i = 6 := by omega
              have HO : Hid (OwnB wr W2.heap.size u7 (ns k2 + 6) (marksB (k2 + 10))) := by
                rcases HS.out with ⟨_, h0⟩ | ⟨_, hown⟩
                · omega
                · rw [hi6] at hown
                  exact World.ownsRow.mono hown HBl.out.size
              obtain ⟨g7, c7, hu7, _⟩ := HO.out.some (by omega)
              subst hu7
              clear HS hhd hhd3
              go_wp2_with (first | (at_builtin; refine wpList_growB rfl (.tmp 63) (.tmp 65) rfl W2.heap.size ns k2 gv _ _ rfl rfl (HGr.out.later HB3.out) HO.out (by omega) (Nat.le_trans HBl.out.size HB3.out.size) ?_; intro v' w2 hG2 hb2))
              exact ⟨⟨k2 + 1, _, by omega, by go_num, hG2, (HBl.out.trans (HB3.out.mono HBl.out.size)).trans hb2⟩, by simp [intOf]; omega⟩
        · have e : k2 = K := by omega
          subst e
          have HC : Hid (∀ j, j < k2 → ∃ h c, gv j = .slice (some ⟨h, 0, none⟩) (ns j + 6) c ∧ h < wr.heap.size ∧ ∀ i, i < (ns j + 6) * 1024 → wr.cell? ⟨h, i, none⟩ = some (.int .u8 (marksB ((j : Int) + 10) i))) := fun j hj => by
            have hj' := HGr.out.each j hj
            obtain ⟨h, c, hv2, _, hlt, _⟩ := hj'.some (by omega)
            rw [hv2] at hj'
            refine ⟨h, c, hv2, hlt, fun i hi => ?_⟩
            have := World.ownsRow.cellAt hj' i hi
            rwa [Array.getElem?_toList, rowA_get _ _ _ hi] at this
          obtain ⟨G, cG, hu5, HD5⟩ : ∃ G cG, u5 = .slice (some ⟨G, 0, none⟩) k2 cG ∧ Hid (∀ j, j < k2 → wr.cell? ⟨G, j, none⟩ = some (gv j)) := by
            have hr := HGr.out.row
            obtain ⟨_, h2⟩ := hr
            rcases h2 with ⟨_, h0⟩ | ⟨G, cG, cur, hv, _⟩
            · omega
            · refine ⟨G, cG, hv, fun j hj => ?_⟩
              have hr := HGr.out.row
              rw [hv] at hr
              rw [World.ownsRow.cellAt hr j (by omega)]
              simp [hj]
          subst hu5
          have HE : Hid (∀ j, j < k2 → wr.cell? ⟨gl, j, none⟩ = some (.slice (some ⟨g j, 0, none⟩) (ns j) (ns j)) ∧ g j < wr.heap.size ∧ ∀ i, i < ns j * 1024 → wr.cell? ⟨g j, i, none⟩ = some (.int .u8 (marksB ((j : Int) + 10) i))) := fun j hj => by
            have hrow0 := HM.out.row j hj
            have hlt := (Array.getElem?_eq_some_iff.1 hrow0).1
            exact ⟨(HBl.out.cell (p := ⟨gl, j, none⟩) hglt).trans (HM.out.head j hj), Nat.lt_of_lt_of_le hlt HBl.out.size, fun i hi => cell_row ((HBl.out.block (g j) hlt).trans hrow0) i hi⟩
          have HF : Hid (Below base w wr ∧ base ≤ wr.heap.size) := ⟨HM.out.below.trans (HBl.out.mono (Nat.le_trans hbase HM.out.below.size)), Nat.le_trans hbase (Nat.le_trans HM.out.below.size HBl.out.size)⟩
          clear HGr HBl HM hglt
          go_wp2
          generalize wr = W4 at HC HD5 HE HF ⊢
          go_loopw [9] (fun s9 wx => ∃ k : Nat, (k : Int) ≤ k2 ∧ s9 = .int .i64 k ∧ Hid (Below W4.heap.size W4 wx)) (fun s9 _ => k2 - (intOf s9).toNat)
          case atStart => exact ⟨0, by omega, rfl, Below.refl _ _⟩
          case round =>
            obtain ⟨k5, hk5, rfl, HB5⟩ := hrel
            by_cases hk6 : (k5 : Int) < k2
            · have hkN : k5 < k2 := by omega
              have hn := HNS.out k5 hkN
              obtain ⟨h, c, hgv, hhlt, hc⟩ := HC.out k5 hkN
              have hc5 := HD5.out k5 hkN
              rw [hgv] at hc5
              obtain ⟨hc6, hglt6, hc7⟩ := HE.out k5 hkN
              have hwr : IntKind.i64.wrap ((k5 : Int) + 10) = (k5 : Int) + 10 := by rw [IntKind.wrap_i64]; omega
              have HCc := (show Hid _ from hc)
              have HC7 := (show Hid _ from hc7)
              have hGl := block_lt_of_cell hc5
              have hgl6 := block_lt_of_cell hc6
              clear hc hc7
              go_wp2
              go_loopw [10] (fun s10 wx => ∃ i : Nat, (i : Int) ≤ ns k5 + 6 ∧ s10 = .int .i64 i ∧ Hid (Below W4.heap.size W4 wx)) (fun s10 _ => ns k5 + 6 - (intOf s10).toNat)
              case atStart => exact ⟨0, by omega, rfl, HB5.out⟩
              case round =>
                obtain ⟨i, hi, rfl, HB⟩ := hrel
                have hc5' : wr.cell? ⟨G, k5, none⟩ = _ := (HB.out.cell (p := ⟨G, k5, none⟩) hGl).trans hc5
                by_cases hi2 : (i : Int) < ns k5 + 6
                · have hmk := fun u => markBlocks_any ((k5 : Int) + 10) i u (by omega) (by omega)
                  have q5 : ∀ x : Later wr, x.val.cell? ⟨G, k5, none⟩ = some (.slice (some ⟨h, 0, none⟩) (ns k5 + 6) c) := fun x => (x.cell ⟨G, k5, none⟩ (Nat.lt_of_lt_of_le hGl HB.out.size)).trans hc5'
                  have q6 : ∀ x : Later wr, x.val.cell? ⟨gl, k5, none⟩ = some (.slice (some ⟨g k5, 0, none⟩) (ns k5) (ns k5)) := fun x => (x.cell ⟨gl, k5, none⟩ (Nat.lt_of_lt_of_le hgl6 HB.out.size)).trans ((HB.out.cell (p := ⟨gl, k5, none⟩) hgl6).trans hc6)
                  have l1 : h < wr.heap.size := Nat.lt_of_lt_of_le hhlt HB.out.size
                  have l2 : g k5 < wr.heap.size := Nat.lt_of_lt_of_le hglt6 HB.out.size
                  have HL1 : Hid (∀ j, j < 1024 → wr.cell? ⟨h, i * 1024 + j, none⟩ = some (.int .u8 (markB ((k5 : Int) + 10) i j))) := fun j hj => by
                    have hb : i * 1024 + j < (ns k5 + 6) * 1024 := by simp only [Nat.mul_comm _ 1024] at *; omega
                    rw [HB.out.cell (p := ⟨h, i * 1024 + j, none⟩) hhlt, HCc.out _ hb, marksB_in _ _ _ hj]
                  have hne := later_some wr
                  by_cases hi3 : (i : Int) < ns k5
                  · have HL2 : Hid (∀ j, j < 1024 → wr.cell? ⟨g k5, i * 1024 + j, none⟩ = some (.int .u8 (markB ((k5 : Int) + 10) i j))) := fun j hj => by
                      have hb : i * 1024 + j < ns k5 * 1024 := by simp only [Nat.mul_comm _ 1024] at *; omega
                      rw [HB.out.cell (p := ⟨g k5, i * 1024 + j, none⟩) hglt6, HC7.out _ hb, marksB_in _ _ _ hj]
                    generalize markB ((k5 : Int) + 10) (i : Int) = m at *
                    go_wp2
                    refine wp_region_later (by kernel_rfl) (by kernel_rfl) wr (Below.refl _ _) ?_
                    repeat (first
                      | (go_big_quiet_want; refine quiet_loadB _ rfl h (i * 1024) rfl m l1 HL1.out ?_; simp only [Act.put, List.setIfInBounds_toArray, List.set_cons_succ, List.set_cons_zero]; go_big_quiet_on)
                      | (go_big_quiet_want; refine quiet_loadB _ rfl (g k5) (i * 1024) rfl m l2 HL2.out ?_; simp only [Act.put, List.setIfInBounds_toArray, List.set_cons_succ, List.set_cons_zero]; go_big_quiet_on)
                      | go_big_quiet_step (first | (go_at_call 47; exact Later.call _ (hmk _))))
                    refine wpQuiet_nil ?_
                    rintro _ ⟨x, rfl⟩
                    go_wp2
                    exact ⟨⟨i + 1, by omega, by go_num, HB.out.trans (x.below.mono HB.out.size)⟩, by simp [intOf]; omega⟩
                  · have hi4 : decide ((i : Int) < (ns k5 : Int)) = false := by simpa using hi3
                    have hi5 : decide (i < ns k5) = false := by simp; omega
                    generalize markB ((k5 : Int) + 10) (i : Int) = m at *
                    go_wp2
                    refine wp_region_later (by kernel_rfl) (by kernel_rfl) wr (Below.refl _ _) ?_
                    repeat (first
                      | (go_big_quiet_want; refine quiet_loadB _ rfl h (i * 1024) rfl m l1 HL1.out ?_; simp only [Act.put, List.setIfInBounds_toArray, List.set_cons_succ, List.set_cons_zero]; go_big_quiet_on)
                      | go_big_quiet_step (first | (go_at_call 47; exact Later.call _ (hmk _))))
                    refine wpQuiet_nil ?_
                    rintro _ ⟨x, rfl⟩
                    go_wp2
                    exact ⟨⟨i + 1, by omega, by go_num, HB.out.trans (x.below.mono HB.out.size)⟩, by simp [intOf]; omega⟩
                · go_wp2
                  exact ⟨⟨k5 + 1, by omega, by go_num, HB.out⟩, by simp [intOf]; omega⟩
            · go_wp2
              go_ret
              exact ⟨rfl, HF.out.1.trans (HB5.out.mono HF.out.2)⟩
end Go.Proofs.Ytedbgeibhaiheaa
