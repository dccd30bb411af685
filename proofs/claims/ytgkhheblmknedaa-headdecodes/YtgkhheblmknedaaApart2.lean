/- ApartInts of two lists: of two with rows of their own, and of two that are nil. -/
import Derived.Test.YtgkhheblmknedaaApart
namespace Go.Proofs.Ytgkhheblmknedaa
open Go.RowKit
def two2 {α : Type} (x y : α) : Nat → α := fun k => if k = 0 then x else y
theorem two_cases {P : Nat → Prop} (h0 : P 0) (h1 : P 1) : ∀ k, k < 2 → P k := fun k hk => by
  obtain rfl | rfl : k = 0 ∨ k = 1 := by omega
  · exact h0
  · exact h1
theorem apart_two (base gx gy n : Nat) (f : Nat → Int) (w : World) (hx : w.heap[gx]? = some (.cells (rowI f n) 3)) (hy : w.heap[gy]? = some (.cells (rowI f n) 3))
    (bx : base ≤ gx) (byy : base ≤ gy) (h1 : gx ≠ gy) (n1 : n ≤ 1048576) :
    Calls Try.prog 18 #[.slice (some ⟨w.heap.size, 0, none⟩) 2 2] (w.alloc (.cells #[.slice (some ⟨gx, 0, none⟩) n n, .slice (some ⟨gy, 0, none⟩) n n] 24)) fun e w' =>
      e = .returned (.bool true) ∧ Below base w w' := by
  have lx : gx < w.heap.size := (Array.getElem?_eq_some_iff.1 hx).1
  have ly : gy < w.heap.size := (Array.getElem?_eq_some_iff.1 hy).1
  have hb : base ≤ w.heap.size := by omega
  generalize hW : w.alloc (.cells #[.slice (some ⟨gx, 0, none⟩) n n, .slice (some ⟨gy, 0, none⟩) n n] 24) = W
  have hg : W.heap[w.heap.size]? = some (.cells #[.slice (some ⟨gx, 0, none⟩) n n, .slice (some ⟨gy, 0, none⟩) n n] 24) := by rw [← hW]; exact heap_alloc_new _ _
  have hbW : Below w.heap.size w W := by rw [← hW]; exact (Below.refl _ _).alloc (Nat.le_refl _) _
  refine (apart_any 2 w.heap.size (two2 gx gy) (fun _ => n) base W (fun _ => f) (by omega) (by omega) (fun _ _ => by omega) (two_cases bx byy)
    (two_cases (P := fun k => w.heap.size ≠ two2 gx gy k) (by show _ ≠ gx; omega) (by show _ ≠ gy; omega)) ?_ (Nat.le_trans hb hbW.size) ⟨Below.refl _ _, ?_, ?_⟩).mono ?_
  · intro j k hj hk
    obtain rfl | rfl : j = 0 ∨ j = 1 := by omega
    all_goals obtain rfl | rfl : k = 0 ∨ k = 1 := by omega
    all_goals simp [two2]
    all_goals omega
  · refine two_cases ?_ ?_
    all_goals rw [cell_of_row W w.heap.size _ _ 24 _ hg]; rfl
  · refine two_cases ?_ ?_
    · exact (hbW.block gx lx).trans hx
    · exact (hbW.block gy ly).trans hy
  · intro e w' ⟨he, hb'⟩
    exact ⟨he, (hbW.mono hb).trans hb'⟩
set_option maxRecDepth 20000 in
set_option maxHeartbeats 2000000 in
theorem apart_nil (K gl : Nat) (w : World) (hK0 : 0 < K) (hK : (K : Int) ≤ 90) (hhd0 : ∀ k, k < K → w.cell? ⟨gl, k, none⟩ = some (.slice none 0 0)) :
    Calls Try.prog 18 #[.slice (some ⟨gl, 0, none⟩) K K] w fun e w' => e = .returned (.bool true) ∧ Below w.heap.size w w' := by
  have HH : Hid (∀ k, k < K → w.cell? ⟨gl, k, none⟩ = some (.slice none 0 0)) := hhd0
  have hglt : gl < w.heap.size := block_lt_of_cell (hhd0 0 hK0)
  clear hhd0
  go_enter Try.func18, Try.ntmps18
  go_wp2
  go_loopw [3, 4] (fun s3 _ wx => ∃ k : Nat, (k : Int) ≤ K ∧ s3 = .int .i64 k ∧ Hid (wx = w)) (fun s3 _ _ => K - (intOf s3).toNat)
  case atStart => exact ⟨0, by omega, rfl, rfl⟩
  case round =>
    obtain ⟨k, hk, rfl, HWx⟩ := hrel
    have hwx := HWx.out.symm
    subst hwx
    by_cases hk2 : (k : Int) < K
    · have hhd := HH.out k (by omega)
      go_wp2
      refine wp_loop_rounds 1 ?_
      rw [rounds_succ]
      go_wp2
      exact ⟨⟨k + 1, by omega, by go_num, trivial⟩, by simp [intOf]; omega⟩
    · clear hk
      go_wp2
      have hmk : ∀ (kk : Nat) (i : Nat), kk < K → i < 6 → ∀ u, Calls Try.prog 29 #[.int .i64 ((kk : Int) + 10), .int .i64 (i : Int)] u fun e u' => e = .returned (.int .i64 (markF ((kk : Int) + 10) i)) ∧ u' = u := fun kk i h1 h3 u => by
        have := mark_any ((kk : Int) + 10) (i : Int) u (by omega) (by omega)
        unfold markF
        exact this
      have HMK : Hid (∀ (kk : Nat) (i : Nat), kk < K → i < 6 → ∀ u, Calls Try.prog 29 #[.int .i64 ((kk : Int) + 10), .int .i64 (i : Int)] u fun e u' => e = .returned (.int .i64 (markF ((kk : Int) + 10) i)) ∧ u' = u) := hmk
      clear hmk
      go_loopw [5, 6] (fun s5 s6 wx => ∃ (k : Nat) (gv : Nat → Value), (k : Int) ≤ K ∧ s6 = .int .i64 k ∧ Hid (Grown w.heap.size (fun _ => 0) k gv s5 wx) ∧ Hid (Below w.heap.size w wx)) (fun _ s6 _ => K - (intOf s6).toNat)
      case atStart => exact ⟨0, fun _ => undef, by omega, rfl, ⟨World.ownsRow_nil _ _ _ _, fun j hj => absurd hj (by omega)⟩, Below.refl _ _⟩
      case round =>
        obtain ⟨k2, gv, hk3, rfl, HGr, HBl⟩ := hrel
        by_cases hk4 : (k2 : Int) < K
        · have hkN : k2 < K := by omega
          have hhd : wr.cell? ⟨gl, k2, none⟩ = some (.slice none 0 0) := (HBl.out.cell (p := ⟨gl, k2, none⟩) hglt).trans (HH.out k2 hkN)
          have hgl3 : gl < wr.heap.size := Nat.lt_of_lt_of_le hglt HBl.out.size
          have hwr : IntKind.i64.wrap ((k2 : Int) + 10) = (k2 : Int) + 10 := by rw [IntKind.wrap_i64]; omega
          go_wp2
          generalize wr = W3 at HGr HBl hhd hgl3 ⊢
          go_loopw [7, 8] (fun s7 s8 wx => ∃ i : Nat, (i : Int) ≤ 6 ∧ s8 = .int .i64 i ∧ Hid (Own wx W3.heap.size s7 i (markF (k2 + 10))) ∧ Hid (Below W3.heap.size W3 wx)) (fun _ s8 _ => 6 - (intOf s8).toNat)
          case atStart => exact ⟨0, by omega, rfl, Own.nil _ _ _, Below.refl _ _⟩
          case round =>
            obtain ⟨i, hi, rfl, HS, HB3⟩ := hrel
            have hhd3 : wr.cell? ⟨gl, k2, none⟩ = some (.slice none 0 0) := (HB3.out.cell (p := ⟨gl, k2, none⟩) hgl3).trans hhd
            by_cases hi2 : (i : Int) < 6
            · have hown := HS.out
              clear HS hhd
              go_wp2_with (first | (go_at_call 29; refine (HMK.out k2 i hkN (by omega) _).mono ?_; rintro e w' ⟨rfl, rfl⟩) | (at_builtin; refine wpList_push5 rfl (.tmp 50) (.tmp 61) rfl W3.heap.size _ i (markF (k2 + 10)) _ rfl rfl hown (by omega) HB3.out.size ?_; intro v' w2 hown' _ hb2))
              refine ⟨⟨i + 1, by omega, by go_num, ?_, HB3.out.trans hb2⟩, by simp [intOf]; omega⟩
              rw [upd_same _ _ _ rfl] at hown'
              exact hown'
            · have hi6 : i = 6 := by omega
              have HO : Hid (Own wr w.heap.size u7 6 (markF (k2 + 10))) := by
                have hown := HS.out
                rw [hi6] at hown
                exact World.ownsRow.mono hown HBl.out.size
              obtain ⟨g7, c7, hu7, _⟩ := HO.out.some (by omega)
              subst hu7
              clear HS hhd hhd3
              go_wp2_with (first | (at_builtin; refine wpList_grow rfl (.tmp 63) (.tmp 65) rfl w.heap.size (fun _ => 0) k2 gv _ _ rfl rfl (HGr.out.later HB3.out) HO.out (by omega) (Nat.le_trans HBl.out.size HB3.out.size) ?_; intro v' w2 hG2 hb2))
              exact ⟨⟨k2 + 1, _, by omega, by go_num, hG2, (HBl.out.trans (HB3.out.mono HBl.out.size)).trans hb2⟩, by simp [intOf]; omega⟩
        · have e : k2 = K := by omega
          subst e
          have HC : Hid (∀ j, j < k2 → ∃ h c, gv j = .slice (some ⟨h, 0, none⟩) 6 c ∧ ∀ i, i < 6 → wr.cell? ⟨h, i, none⟩ = some (.int .i64 (markF ((j : Int) + 10) i))) := fun j hj =>
            (HGr.out.each j hj).some (by omega)
          obtain ⟨G, cG, hu5, HD5⟩ : ∃ G cG, u5 = .slice (some ⟨G, 0, none⟩) k2 cG ∧ Hid (∀ j, j < k2 → wr.cell? ⟨G, j, none⟩ = some (gv j)) := by
            have hr := HGr.out.row
            obtain ⟨_, h2⟩ := hr
            rcases h2 with ⟨_, h0⟩ | ⟨G, cG, cur, hv, _⟩
            · omega
            · refine ⟨G, cG, hv, fun j hj => ?_⟩
              have hr := HGr.out.row
              rw [hv] at hr
              rw [World.ownsRow.cellAt hr j (by omega)]
              simp [hj]
          subst hu5
          have HE : Hid (∀ j, j < k2 → wr.cell? ⟨gl, j, none⟩ = some (.slice none 0 0)) := fun j hj => (HBl.out.cell (p := ⟨gl, j, none⟩) hglt).trans (HH.out j hj)
          have HF : Hid (Below w.heap.size w wr) := HBl.out
          clear HGr HBl HMK
          go_wp2
          generalize wr = W4 at HC HD5 HE HF ⊢
          go_loopw [9] (fun s9 wx => ∃ k d : Nat, (k : Int) ≤ k2 ∧ s9 = .int .i64 k ∧ wx = W4.drewN d) (fun s9 _ => k2 - (intOf s9).toNat)
          case atStart => exact ⟨0, 0, by omega, rfl, rfl⟩
          case round =>
            obtain ⟨k5, d, hk5, rfl, rfl⟩ := hrel
            by_cases hk6 : (k5 : Int) < k2
            · have hkN : k5 < k2 := by omega
              obtain ⟨h, c, hgv, hc⟩ := HC.out k5 hkN
              have hc5 := HD5.out k5 hkN
              rw [hgv] at hc5
              have hc6 := HE.out k5 hkN
              have hwr : IntKind.i64.wrap ((k5 : Int) + 10) = (k5 : Int) + 10 := by rw [IntKind.wrap_i64]; omega
              have HCc : Hid (∀ i, i < 6 → W4.cell? ⟨h, i, none⟩ = some (.int .i64 (markF ((k5 : Int) + 10) i))) := hc
              clear hc
              go_wp2
              go_loopw [10] (fun s10 wx => ∃ i d : Nat, (i : Int) ≤ 6 ∧ s10 = .int .i64 i ∧ wx = W4.drewN d) (fun s10 _ => 6 - (intOf s10).toNat)
              case atStart => exact ⟨0, _, by omega, rfl, rfl⟩
              case round =>
                obtain ⟨i, d2, hi, rfl, rfl⟩ := hrel
                by_cases hi2 : (i : Int) < 6
                · have hci := HCc.out i (by omega)
                  have hmk : ∀ u, Calls Try.prog 29 #[.int .i64 ((k5 : Int) + 10), .int .i64 (i : Int)] u fun e u' => e = .returned (.int .i64 (markF ((k5 : Int) + 10) i)) ∧ u' = u := fun u => mark_any ((k5 : Int) + 10) i u (by omega) (by omega)
                  have hi4 : decide ((i : Int) < 0) = false := by simp
                  have hi5 : decide (i < 0) = false := by simp
                  go_wp2
                  go_quiet ((go_at_call 29; exact (hmk _).mono fun _ _ h => ⟨h.1, ⟨_, h.2⟩⟩))
                  go_wp2
                  exact ⟨⟨i + 1, _, by omega, by go_num, rfl⟩, by simp [intOf]; omega⟩
                · go_wp2
                  exact ⟨⟨k5 + 1, _, by omega, by go_num, rfl⟩, by simp [intOf]; omega⟩
            · go_wp2
              go_ret
              exact ⟨rfl, below_drewN' HF.out _⟩
theorem apart_two_nil (w : World) : Calls Try.prog 18 #[.slice (some ⟨w.heap.size, 0, none⟩) 2 2] (w.alloc (.cells #[.slice none 0 0, .slice none 0 0] 24)) fun e w' => e = .returned (.bool true) ∧ Below w.heap.size w w' := by
  have hg := heap_alloc_new w (.cells #[.slice none 0 0, .slice none 0 0] 24)
  refine (apart_nil 2 w.heap.size _ (by omega) (by omega) (two_cases ?_ ?_)).mono fun e w' h => ⟨h.1, below_next (below_new _ _) h.2⟩
  all_goals rw [cell_of_row _ w.heap.size _ _ 24 _ hg]; rfl
end Go.Proofs.Ytgkhheblmknedaa
