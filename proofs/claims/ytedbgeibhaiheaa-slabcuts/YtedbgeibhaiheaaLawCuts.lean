/- SlabCuts's walk: of every slice of bytes the call answers true and turns nothing that was there; the bytes are fewer than 2 to the 47th, less 4096. -/
import Derived.Test.YtedbgeibhaiheaaApartB2
import Derived.Test.YtedbgeibhaiheaaRefCut
import Derived.Test.YtedbgeibhaiheaaLawJoins
namespace Go.Proofs.Ytedbgeibhaiheaa
open Go.RowKit

set_option maxRecDepth 20000 in
set_option maxHeartbeats 400000 in
theorem over_but (base g cap n : Nat) (f : Nat → Int) (w : World) (h : Own w base (.slice (some ⟨g, 0, none⟩) n cap) n f) (hg : base ≤ g) (hn : (n : Int) ≤ 140737488355328) :
    Calls Try.prog 28 #[.slice (some ⟨g, 0, none⟩) n cap] w fun e w' => e = .returned (.tuple #[]) ∧ Own w' base (.slice (some ⟨g, 0, none⟩) n cap) n (markF 9) ∧ Below base w w' ∧ ∀ b, b ≠ g → w'.heap[b]? = w.heap[b]? := by
  go_enter Try.func28, Try.ntmps28
  go_wp2
  go_loopw [2] (fun s2 wx => ∃ k : Nat, (k : Int) ≤ n ∧ s2 = .int .i64 k ∧ Own wx base (.slice (some ⟨g, 0, none⟩) n cap) n (firstAs f (markF 9) k) ∧ Hid (Below base w wx ∧ ∀ b, b ≠ g → wx.heap[b]? = w.heap[b]?)) (fun s2 _ => n - (intOf s2).toNat)
  case atStart => exact ⟨0, by omega, rfl, by unfold firstAs; rw [upto_zero']; exact h, Below.refl _ _, fun _ _ => rfl⟩
  case round =>
    obtain ⟨k, hk, rfl, hown, hb⟩ := hrel
    clear h
    by_cases hk2 : (k : Int) < n
    · have hcell := World.ownsRow.cellAt hown k (by omega)
      rw [Array.getElem?_toList, rowA_get _ _ _ (by omega)] at hcell
      have hfr := World.ownsRow.frozenAt hown k
      have hst := World.ownsRow.stored hown k (.int .u8 (markF 9 k))
      have HS : Hid (Own (wr.setCell ⟨g, k, none⟩ (.int .u8 (markF 9 k))) base (.slice (some ⟨g, 0, none⟩) n cap) n (firstAs f (markF 9) (k + 1))) := show Own _ _ _ _ _ by
        unfold Own
        rw [← firstAs_next, ← rowA_set]
        simpa using hst.1
      have HB : Hid (Below base w (wr.setCell ⟨g, k, none⟩ (.int .u8 (markF 9 k))) ∧ ∀ b, b ≠ g → (wr.setCell ⟨g, k, none⟩ (.int .u8 (markF 9 k))).heap[b]? = w.heap[b]?) :=
        ⟨hb.out.1.setCell hg _, fun b hb' => (heap_setCell_other wr _ _ _ hb').trans (hb.out.2 b hb')⟩
      have em : (7 * 9 + (k : Int) + 1) % 256 = markF 9 k := rfl
      clear hst hown hb
      go_wp2_with (first | (go_at_call 46; refine (mark_any 9 k _ (by omega) (by omega)).mono ?_; rintro e w' ⟨rfl, rfl⟩))
      exact ⟨⟨k + 1, by omega, by go_num, HS.out, HB.out⟩, by simp [intOf]; omega⟩
    · have e : k = n := by omega
      subst e
      go_wp2
      go_end0
      refine ⟨rfl, ?_, hb.out.1, hb.out.2⟩
      unfold Own at *
      rw [rowA_congr (g := firstAs f (markF 9) k) fun i hi => by unfold firstAs; rw [if_pos hi]]
      exact hown

theorem cut_new {w : World} {p : Value} {m : Nat} {q : Nat → Int} (h : Lies w p m q) (hm : m ≤ 140737488355328) :
    Calls Try.prog 31 #[p] w fun e w' => ∃ g, e = .returned (.slice (some ⟨g, 0, none⟩) (blocksOf m) (blocksOf m)) ∧
      w'.heap[g]? = some (.cells (rowA (firsts q m) (blocksOf m * 1024)) 25) ∧ w.heap.size ≤ g ∧ Below w.heap.size w w' :=
  (cut_lies h hm).mono fun _ _ ⟨h1, h2, _, h4⟩ => ⟨_, h1, h2, Nat.le_refl _, h4⟩
theorem liesB_row {w : World} {g n : Nat} {F : Nat → Int} (h : w.heap[g]? = some (.cells (rowA F (n * 1024)) 25)) (hn : n * 1024 ≤ 281474976710656) : LiesB w (.slice (some ⟨g, 0, none⟩) n n) n F :=
  .inr ⟨g, 0, n, rfl, hn, Nat.le_refl _, (Array.getElem?_eq_some_iff.1 h).1, fun i hi => by rw [Nat.zero_add]; exact cell_row h i hi⟩
theorem OwnB.keptBut {w w' : World} {base g : Nat} {v : Value} {n : Nat} {F : Nat → Int} (h : OwnB w base v n F) (hk : ∀ b, b ≠ g → w'.heap[b]? = w.heap[b]?) (hg : g < base) : OwnB w' base v n F := by
  obtain ⟨h1, h2⟩ := h
  refine ⟨h1, ?_⟩
  rcases h2 with h2 | ⟨b, cap, cur, hv, hb, hh, r⟩
  · exact .inl h2
  · exact .inr ⟨b, cap, cur, hv, hb, (hk b (by omega)).trans hh, r⟩
/-- Three lists of blocks in memory of their own are told apart. -/
theorem apartB_three (base gx gy gz nx ny nz : Nat) (fx fy fz : Nat → Int) (w : World) (hx : w.heap[gx]? = some (.cells (rowA fx (nx * 1024)) 25)) (hy : w.heap[gy]? = some (.cells (rowA fy (ny * 1024)) 25)) (hz : w.heap[gz]? = some (.cells (rowA fz (nz * 1024)) 25))
    (bx : base ≤ gx) (byy : base ≤ gy) (bz : base ≤ gz) (h1 : gx ≠ gy) (h2 : gx ≠ gz) (h3 : gy ≠ gz) (n1 : nx ≤ 137438953472) (n2 : ny ≤ 137438953472) (n3 : nz ≤ 137438953472) :
    Calls Try.prog 33 #[.slice (some ⟨w.heap.size, 0, none⟩) 3 3] (w.alloc (.cells #[.slice (some ⟨gx, 0, none⟩) nx nx, .slice (some ⟨gy, 0, none⟩) ny ny, .slice (some ⟨gz, 0, none⟩) nz nz] 43)) fun e w' =>
      e = .returned (.bool true) ∧ Below base w w' := by
  have lx : gx < w.heap.size := (Array.getElem?_eq_some_iff.1 hx).1
  have ly : gy < w.heap.size := (Array.getElem?_eq_some_iff.1 hy).1
  have lz : gz < w.heap.size := (Array.getElem?_eq_some_iff.1 hz).1
  have hb : base ≤ w.heap.size := by omega
  generalize hW : w.alloc (.cells #[.slice (some ⟨gx, 0, none⟩) nx nx, .slice (some ⟨gy, 0, none⟩) ny ny, .slice (some ⟨gz, 0, none⟩) nz nz] 43) = W
  have hg : W.heap[w.heap.size]? = some (.cells #[.slice (some ⟨gx, 0, none⟩) nx nx, .slice (some ⟨gy, 0, none⟩) ny ny, .slice (some ⟨gz, 0, none⟩) nz nz] 43) := by rw [← hW]; exact heap_alloc_new _ _
  have hbW : Below w.heap.size w W := by rw [← hW]; exact (Below.refl _ _).alloc (Nat.le_refl _) _
  refine (apartB_any 3 w.heap.size (three gx gy gz) (three nx ny nz) base W (three fx fy fz) (by omega) (by omega) (three_cases n1 n2 n3) (three_cases bx byy bz)
    (three_cases (P := fun k => w.heap.size ≠ three gx gy gz k) (by show _ ≠ gx; omega) (by show _ ≠ gy; omega) (by show _ ≠ gz; omega)) ?_ (Nat.le_trans hb hbW.size) ⟨Below.refl _ _, ?_, ?_⟩).mono ?_
  · intro j k hj hk
    obtain rfl | rfl | rfl : j = 0 ∨ j = 1 ∨ j = 2 := by omega
    all_goals obtain rfl | rfl | rfl : k = 0 ∨ k = 1 ∨ k = 2 := by omega
    all_goals simp [three]
    all_goals omega
  · refine three_cases ?_ ?_ ?_
    all_goals rw [cell_of_row W w.heap.size _ _ 43 _ hg]; rfl
  · refine three_cases ?_ ?_ ?_
    · exact (hbW.block gx lx).trans hx
    · exact (hbW.block gy ly).trans hy
    · exact (hbW.block gz lz).trans hz
  · intro e w' ⟨he, hb'⟩
    exact ⟨he, (hbW.mono hb).trans hb'⟩

set_option maxRecDepth 20000 in
set_option maxHeartbeats 2000000 in
theorem law_cuts (a0 : Option Addr) (m cap0 : Nat) (f : Nat → Int) (w : World) (hp : Lies w (.slice a0 m cap0) m f) (hm : m ≤ 140737488351232) :
    Calls Try.prog 6 #[.slice a0 m cap0] w fun e w' => e = .returned (.bool true) ∧ Below w.heap.size w w' := by
  have hN : blocksOf m ≤ 137438953472 := by unfold blocksOf; omega
  have s1 : blocksOf m * 1024 ≤ 281474976710656 := by simp only [Nat.mul_comm _ 1024] at *; omega
  have S1 := (show Hid _ from s1)
  clear s1
  go_enter Try.func6, Try.ntmps6
  go_wp2_with fail
  refine (lent_lies hp (by omega)).mono ?_
  rintro e W1 ⟨v3, rfl, hown1, hb1⟩
  obtain ⟨g, cap, rfl, hg1, hg2, hg3, hg4⟩ := hown1.some (by omega)
  have hsl := slice22h g m cap (by omega)
  have hp1 := hp.later hb1
  go_wp2_with fail
  refine (refCut_lies hp1 (by omega)).mono ?_
  rintro e W2 ⟨v5, rfl, hown5, hb2⟩
  have hf2 := hown1.later hb2
  have hl2 : Lies W2 (.slice (some ⟨g, 0, none⟩) m cap) m f := hf2.start (by omega) fun i hi => by unfold lentF; rw [if_pos hi]
  go_wp2_with fail
  refine (cut_new hl2 (by omega)).mono ?_
  rintro e W3 ⟨gx, rfl, hx3, bx3, hb3⟩
  have hl3 := hl2.later hb3
  go_wp2_with fail
  refine (cut_new hl3 (by omega)).mono ?_
  rintro e W4 ⟨gy, rfl, hy4, by4, hb4⟩
  have lg2 : g < W2.heap.size := Nat.lt_of_lt_of_le hg2 hb2.size
  have lx3 := (Array.getElem?_eq_some_iff.1 hx3).1
  have ly4 := (Array.getElem?_eq_some_iff.1 hy4).1
  have hx4 := (hb4.block gx lx3).trans hx3
  have hv4 := (hown5.later hb3).later hb4
  have hf4 := (hf2.later hb3).later hb4
  have hp4 := ((hp1.later hb2).later hb3).later hb4
  have hB4 : Below w.heap.size w W4 := ((hb1.trans (hb2.mono hb1.size)).trans (hb3.mono (Nat.le_trans hb1.size hb2.size))).trans (hb4.mono (Nat.le_trans (Nat.le_trans hb1.size hb2.size) hb3.size))
  have n1 : gx ≠ g := by omega
  have n2 : gy ≠ g := by have := hb3.size; omega
  have n3 : gx ≠ gy := by omega
  have o1 : w.heap.size ≤ gx := by have := hb1.size; have := hb2.size; omega
  have o2 : w.heap.size ≤ gy := by have := hb1.size; have := hb2.size; have := hb3.size; omega
  have lg1 : g < W1.heap.size := hg2
  clear hb1 hb2 hb3 hb4 hl2 hl3 hown1 hown5 hf2 hp1 hp hx3
  go_wp2_with fail
  refine (sameB_lies (liesB_row hx4 S1.out) (hv4.lies S1.out) (fun _ _ => rfl)).mono ?_
  rintro e W5 ⟨rfl, hb5⟩
  have hy5 := (hb5.block gy ly4).trans hy4
  have hv5 := hv4.later hb5
  go_wp2_with fail
  refine (sameB_lies (liesB_row hy5 S1.out) (hv5.lies S1.out) (fun _ _ => rfl)).mono ?_
  rintro e W6 ⟨rfl, hb6⟩
  have hf6 := (hf4.later hb5).later hb6
  have hp6 := (hp4.later hb5).later hb6
  go_wp2_with fail
  refine (kept_lies hf6.lies hp6 (fun _ _ => rfl) (by omega)).mono ?_
  rintro e W7 ⟨rfl, hb7⟩
  have hb47 : Below W4.heap.size W4 W7 := (hb5.trans (hb6.mono hb5.size)).trans (hb7.mono (Nat.le_trans hb5.size hb6.size))
  have hf7 := hf4.later hb47
  have hx7 := (hb47.block gx (Array.getElem?_eq_some_iff.1 hx4).1).trans hx4
  have hy7 := (hb47.block gy ly4).trans hy4
  have hv7 := hv4.later hb47
  have hB7 : Below w.heap.size w W7 := hB4.trans (hb47.mono hB4.size)
  clear hx4 hy4 hv4 hf4 hp4 hy5 hv5 hf6 hp6 hb5 hb6 hb7 hB4 hb47
  go_wp2_with fail
  refine (over_but w.heap.size g cap (m + 6) _ W7 hf7 hg1 (by omega)).mono ?_
  rintro e W8 ⟨rfl, hf8, hb8, hk8⟩
  have hx8 := (hk8 gx n1).trans hx7
  have hy8 := (hk8 gy n2).trans hy7
  have hv8 := hv7.keptBut hk8 lg1
  have hB8 := hB7.trans hb8
  have lx8 := (Array.getElem?_eq_some_iff.1 hx8).1
  have ly8 := (Array.getElem?_eq_some_iff.1 hy8).1
  have hl8 : Lies W8 (.slice (some ⟨g, 0, none⟩) m cap) m (markF 9) := hf8.start (by omega) fun _ _ => rfl
  clear hx7 hy7 hv7 hf7 hf8 hb8 hk8 hB7
  generalize markF 9 = G at *
  go_wp2_with fail
  refine (cut_new hl8 (by omega)).mono ?_
  rintro e W9 ⟨gz, rfl, hz9, bz9, hb9⟩
  have lz9 := (Array.getElem?_eq_some_iff.1 hz9).1
  have hl9 := hl8.later hb9
  go_wp2_with fail
  refine (copy_lies hl9 (by omega)).mono ?_
  rintro e W10 ⟨v10, rfl, hown10, hb10⟩
  go_wp2_with fail
  refine (refCut_lies hown10.lies (by omega)).mono ?_
  rintro e W11 ⟨v11, rfl, hown11, hb11⟩
  have hz11 := (hb11.block gz (Nat.lt_of_lt_of_le lz9 hb10.size)).trans ((hb10.block gz lz9).trans hz9)
  go_wp2_with fail
  refine (sameB_lies (liesB_row hz11 S1.out) (hown11.lies S1.out) (fun _ _ => rfl)).mono ?_
  rintro e W12 ⟨rfl, hb12⟩
  have hb812 : Below W8.heap.size W8 W12 := ((hb9.trans (hb10.mono hb9.size)).trans (hb11.mono (Nat.le_trans hb9.size hb10.size))).trans (hb12.mono (Nat.le_trans (Nat.le_trans hb9.size hb10.size) hb11.size))
  have hy12 := (hb812.block gy ly8).trans hy8
  have hx12 := (hb812.block gx lx8).trans hx8
  have hz12 := (hb12.block gz (Array.getElem?_eq_some_iff.1 hz11).1).trans hz11
  have hv12 := hv8.later hb812
  have hB12 := hB8.trans (hb812.mono hB8.size)
  have n4 : gx ≠ gz := by omega
  have n5 : gy ≠ gz := by omega
  have o3 : w.heap.size ≤ gz := by omega
  clear hz11 hown11 hown10 hl9 hl8 hb9 hb10 hb11 hb12 hv8 hx8 hy8 hB8 hz9
  go_wp2_with fail
  refine (sameB_lies (liesB_row hy12 S1.out) (hv12.lies S1.out) (fun _ _ => rfl)).mono ?_
  rintro e W13 ⟨rfl, hb13⟩
  have hx13 := (hb13.block gx (Array.getElem?_eq_some_iff.1 hx12).1).trans hx12
  have hy13 := (hb13.block gy (Array.getElem?_eq_some_iff.1 hy12).1).trans hy12
  have hz13 := (hb13.block gz (Array.getElem?_eq_some_iff.1 hz12).1).trans hz12
  have hBw := hB12.trans (hb13.mono hB12.size)
  clear hx12 hy12 hz12 hv12 hB12 hb13 hb812
  generalize blocksOf m = N at *
  go_wp2_with fail
  refine (apartB_three w.heap.size gx gy gz N N N _ _ _ W13 hx13 hy13 hz13 o1 o2 o3 n3 n4 n5 hN hN hN).mono ?_
  rintro e W14 ⟨rfl, hb14⟩
  go_wp2
  go_ret
  exact ⟨rfl, hBw.trans hb14⟩
end Go.Proofs.Ytedbgeibhaiheaa
