/- SlabJoins's walk: of every list of lists of bytes and every number the call answers true and turns nothing that was there. -/
import Derived.Test.YtedbgeibhaiheaaBlocks3
import Derived.Test.YtedbgeibhaiheaaLawPieces
namespace Go.Proofs.Ytedbgeibhaiheaa
open Go.RowKit

theorem OwnB.form {w : World} {base : Nat} {v : Value} {n : Nat} {F : Nat → Int} (h : OwnB w base v n F) : ∃ a c, v = .slice a n c := by
  obtain ⟨_, h2⟩ := h
  rcases h2 with ⟨rfl, rfl⟩ | ⟨g, cap, cur, rfl, _⟩
  · exact ⟨_, _, rfl⟩
  · exact ⟨_, _, rfl⟩
theorem Own.keptBut {w w' : World} {base g : Nat} {v : Value} {n : Nat} {f : Nat → Int} (h : Own w base v n f) (hk : ∀ b, b < w.heap.size → b ≠ g → w'.heap[b]? = w.heap[b]?) (hg : g < base) : Own w' base v n f := by
  obtain ⟨h1, h2⟩ := h
  refine ⟨h1, ?_⟩
  rcases h2 with h2 | ⟨b, cap, cur, hv, hb, hh, r⟩
  · exact .inl h2
  · exact .inr ⟨b, cap, cur, hv, hb, (hk b (Array.getElem?_eq_some_iff.1 hh).1 (by omega)).trans hh, r⟩
theorem join_new {w : World} {l : Value} {L : Nat} {F : Nat → Int} (h : LiesB w l L F) (n : Int) (hn : -9223372036854775808 ≤ n ∧ n ≤ 9223372036854775807) :
    Calls Try.prog 36 #[l, .int .i64 n] w fun e w' => ∃ g, e = .returned (.slice (some ⟨g, 0, none⟩) (joinLen n L) (joinLen n L)) ∧
      w'.heap[g]? = some (.cells (rowA F (joinLen n L)) 5) ∧ w.heap.size ≤ g ∧ Below w.heap.size w w' :=
  (join_lies h n hn).mono fun _ _ ⟨h1, h2, _, h4⟩ => ⟨_, h1, h2, Nat.le_refl _, h4⟩
/-- The blocks that begin with the lists' bytes, one behind the other. -/
def allF (ls : Nat → Nat) (fs : Nat → Nat → Int) : Nat → Int := fun x => firsts (fs (x / 1024)) (ls (x / 1024)) (x % 1024)
theorem catB_all (ls : Nat → Nat) (fs : Nat → Nat → Int) (i x : Nat) (hx : x < (i + 1) * 1024) : catB (allF ls fs) i (firsts (fs i) (ls i)) x = allF ls fs x := by
  unfold catB
  by_cases h : x < i * 1024
  · rw [if_pos h]
  · have h1 : x / 1024 = i := by simp only [Nat.mul_comm _ 1024] at *; omega
    have h2 : x % 1024 = x - i * 1024 := by simp only [Nat.mul_comm _ 1024] at *; omega
    rw [if_neg h]
    unfold allF
    rw [h1, h2]
theorem liesB_start {w : World} {g n m cap : Nat} {F G : Nat → Int} (h : ∀ i, i < m * 1024 → w.cell? ⟨g, i, none⟩ = some (.int .u8 (F i))) (hlt : g < w.heap.size) (hnm : n ≤ m) (hm : m * 1024 ≤ 281474976710656) (hc : n ≤ cap) (hf : ∀ i, i < n * 1024 → F i = G i) :
    LiesB w (.slice (some ⟨g, 0, none⟩) n cap) n G := by
  have h1 : n * 1024 ≤ m * 1024 := Nat.mul_le_mul_right _ hnm
  exact .inr ⟨g, 0, cap, rfl, Nat.le_trans h1 hm, hc, hlt, fun i hi => by rw [Nat.zero_add, h i (Nat.lt_of_lt_of_le hi h1), hf i hi]⟩
theorem OwnB.cells {w : World} {base g cap n : Nat} {F : Nat → Int} (h : OwnB w base (.slice (.some ⟨g, 0, .none⟩) n cap) n F) : ∀ i, i < n * 1024 → w.cell? ⟨g, i, .none⟩ = .some (.int .u8 (F i)) := fun i hi => by
  have := World.ownsRow.cellAt h i hi
  rwa [Array.getElem?_toList, rowA_get _ _ _ hi] at this

set_option maxRecDepth 20000 in
set_option maxHeartbeats 2000000 in
theorem law_joins (a0 : Option Addr) (n0 cap0 : Nat) (ls : Nat → Nat) (fs : Nat → Nat → Int) (k : Int) (w : World) (hk : -9223372036854775808 ≤ k ∧ k ≤ 9223372036854775807) (hn0 : (n0 : Int) ≤ 9223372036854775807)
    (h : ∀ r, r < n0 → ∃ b off x, a0 = some ⟨b, off, none⟩ ∧ b < w.heap.size ∧ w.cell? ⟨b, off + r, none⟩ = some x ∧ Lies w x (ls r) (fs r)) :
    Calls Try.prog 7 #[.slice a0 n0 cap0, .int .i64 k] w fun e w' => e = .returned (.bool true) ∧ Below w.heap.size w w' := by
  by_cases h40 : (n0 : Int) > 40
  · clear h
    go_enter Try.func7, Try.ntmps7
    go_wp2
    go_ret
    exact ⟨rfl, Below.refl _ _⟩
  have H := (show Hid _ from h)
  clear h
  have HF : Hid (∀ i x, x < (i + 1) * 1024 → catB (allF ls fs) i (firsts (fs i) (ls i)) x = allF ls fs x) := fun i x hx => catB_all ls fs i x hx
  generalize hF : allF ls fs = F at *
  clear hF
  go_enter Try.func7, Try.ntmps7
  go_wp2
  go_loopw [5, 6] (fun s5 s6 wx => ∃ i : Nat, (i : Int) ≤ n0 ∧ s6 = .int .i64 i ∧ Hid (OwnB wx w.heap.size s5 i F) ∧ Hid (Below w.heap.size w wx)) (fun _ s6 _ => n0 - (intOf s6).toNat)
  case atStart => exact ⟨0, by omega, rfl, OwnB.nil _ _ _, Below.refl _ _⟩
  case round =>
    obtain ⟨i, hi, rfl, HO, HB⟩ := hrel
    by_cases hi2 : (i : Int) < n0
    · obtain ⟨b, off, x, rfl, hb, hc, hl⟩ := H.out i (by omega)
      have hc2 : wr.cell? ⟨b, off + i, none⟩ = some x := (HB.out.cell (p := ⟨b, off + i, none⟩) hb).trans hc
      have hl2 := hl.later HB.out
      have HFi : Hid (∀ x, x < (i + 1) * 1024 → catB F i (firsts (fs i) (ls i)) x = F x) := HF.out i
      have hsz : (i + 1) * 1024 ≤ 140737488355328 := by simp only [Nat.mul_comm _ 1024] at *; omega
      have HSZ := (show Hid _ from hsz)
      clear hsz hc hl H
      go_wp2_with fail
      refine (block_lies hl2).mono ?_
      rintro e w2 ⟨rfl, hb2⟩
      have HO2 : Hid (OwnB w2 w.heap.size u5 i F) := HO.out.later hb2
      have HB2 : Hid (Below w.heap.size w w2) := HB.out.trans (hb2.mono HB.out.size)
      clear HO HB hb2 hc2 hl2
      generalize firsts (fs i) (ls i) = f at *
      go_wp2_with (first | refine wpList_build1 rfl (.tmp 26) rfl f rfl ?_ | (at_builtin; refine wpList_pushB rfl (.tmp 21) (.tmp 27) rfl w.heap.size _ i F f rfl rfl HO2.out HSZ.out HB2.out.size ?_; intro v' w3 hown' _ hb3))
      exact ⟨⟨i + 1, by omega, by go_num, hown'.congr HFi.out, HB2.out.trans hb3⟩, by simp [intOf]; omega⟩
    · have e : i = n0 := by omega
      subst e
      have h40' : i ≤ 40 := by omega
      have s1 : (i + 6) * 1024 ≤ 140737488355328 := by simp only [Nat.mul_comm _ 1024] at *; omega
      have s2 : i * 1024 ≤ 140737488355328 := by simp only [Nat.mul_comm _ 1024] at *; omega
      have s3 : (i + 6) * 1024 ≤ 281474976710656 := Nat.le_trans s1 (by decide)
      have s4 : i * 1024 ≤ 281474976710656 := Nat.le_trans s2 (by decide)
      have hM : joinLen k i ≤ 1099511627776 := by
        have := (join_len k i).2.2.2
        have h5 : i * 1024 ≤ 1099511627776 := by simp only [Nat.mul_comm _ 1024] at *; omega
        omega
      have S1 := (show Hid _ from s1)
      have S2 := (show Hid _ from s2)
      have S3 := (show Hid _ from s3)
      have S4 := (show Hid _ from s4)
      have HM := (show Hid _ from hM)
      clear s1 s2 s3 s4 hM H HF
      obtain ⟨a5, c5, hu5⟩ := HO.out.form
      subst hu5
      go_wp2_with fail
      generalize wr = W0 at HO HB ⊢
      have hl0 := HO.out.lies S4.out
      refine (lentB_lies hl0 S1.out).mono ?_
      rintro e W1 ⟨v7, rfl, hown7, hb1⟩
      obtain ⟨g, cap, rfl, hg1, hg2, hg3, hg4⟩ := hown7.some (by omega)
      have hsl := slice43h g i cap (by omega)
      have hl1 := hl0.later hb1
      go_wp2_with fail
      refine (refJoin_lies hl1 k hk S2.out).mono ?_
      rintro e W2 ⟨v8, rfl, hown8, hb2⟩
      have hown7b := hown7.later hb2
      have hj2 : LiesB W2 (.slice (some ⟨g, 0, none⟩) i cap) i F := liesB_start hown7b.cells (Nat.lt_of_lt_of_le hg2 hb2.size) (by omega) S3.out (by omega) (fun x hx => by unfold catB; rw [if_pos hx])
      go_wp2_with fail
      refine (join_new hj2 k hk).mono ?_
      rintro e W3 ⟨gx, rfl, hx3, bx3, hb3⟩
      have hj3 := hj2.later hb3
      go_wp2_with fail
      refine (join_new hj3 k hk).mono ?_
      rintro e W4 ⟨gy, rfl, hy4, by4, hb4⟩
      have lg2 : g < W2.heap.size := Nat.lt_of_lt_of_le hg2 hb2.size
      have lx3 := (Array.getElem?_eq_some_iff.1 hx3).1
      have ly4 := (Array.getElem?_eq_some_iff.1 hy4).1
      have hx4 := (hb4.block gx lx3).trans hx3
      have hv4 := (hown8.later hb3).later hb4
      have hf4 := ((hown7b.later hb3).later hb4)
      have hl4 := ((hl1.later hb2).later hb3).later hb4
      have hB4 : Below W0.heap.size W0 W4 := ((hb1.trans (hb2.mono hb1.size)).trans (hb3.mono (Nat.le_trans hb1.size hb2.size))).trans (hb4.mono (Nat.le_trans (Nat.le_trans hb1.size hb2.size) hb3.size))
      have n1 : gx ≠ g := by omega
      have n2 : gy ≠ g := by have := hb3.size; omega
      have n3 : gx ≠ gy := by omega
      have o1 : w.heap.size ≤ gx := by have := HB.out.size; have := hb1.size; have := hb2.size; omega
      have o2 : w.heap.size ≤ gy := by have := HB.out.size; have := hb1.size; have := hb2.size; have := hb3.size; omega
      have lg1 : g < W1.heap.size := hg2
      clear hb1 hb2 hb3 hb4 hj2 hj3 hown7 hown7b hown8 hl0 hl1 hx3 HO
      have hm2 : joinLen k i ≤ 281474976710656 := Nat.le_trans HM.out (by decide)
      have HM2 := (show Hid _ from hm2)
      clear hm2
      go_wp2_with fail
      refine (same_lies (lies_row hx4 HM2.out) hv4.lies (fun _ _ => rfl)).mono ?_
      rintro e W5 ⟨rfl, hb5⟩
      have hy5 := (hb5.block gy ly4).trans hy4
      have hv5 := hv4.later hb5
      go_wp2_with fail
      refine (same_lies (lies_row hy5 HM2.out) hv5.lies (fun _ _ => rfl)).mono ?_
      rintro e W6 ⟨rfl, hb6⟩
      have hf6 := (hf4.later hb5).later hb6
      have hl6 := (hl4.later hb5).later hb6
      go_wp2_with fail
      refine (keptB_lies (hf6.lies S3.out) hl6 (fun _ _ => rfl) S1.out).mono ?_
      rintro e W7 ⟨rfl, hb7⟩
      have hb47 : Below W4.heap.size W4 W7 := (hb5.trans (hb6.mono hb5.size)).trans (hb7.mono (Nat.le_trans hb5.size hb6.size))
      have hf7 := hf4.later hb47
      have hx7 := (hb47.block gx (Array.getElem?_eq_some_iff.1 hx4).1).trans hx4
      have hy7 := (hb47.block gy ly4).trans hy4
      have hv7 := hv4.later hb47
      have hB7 : Below W0.heap.size W0 W7 := hB4.trans (hb47.mono hB4.size)
      have lx7 := (Array.getElem?_eq_some_iff.1 hx7).1
      have ly7 := (Array.getElem?_eq_some_iff.1 hy7).1
      clear hx4 hy4 hv4 hf4 hl4 hy5 hv5 hf6 hl6 hb5 hb6 hb7 hB4 hb47
      go_wp2_with fail
      refine (overB_some W0.heap.size g cap (i + 6) _ W7 hf7 hg1 S1.out).mono ?_
      rintro e W8 ⟨rfl, hc8, hb8, hk8⟩
      have hx8 := (hk8 gx lx7 n1).trans hx7
      have hy8 := (hk8 gy ly7 n2).trans hy7
      have hv8 := hv7.keptBut hk8 lg1
      have hB8 := hB7.trans hb8
      have HC8 := (show Hid _ from hc8)
      have lx8 := (Array.getElem?_eq_some_iff.1 hx8).1
      have ly8 := (Array.getElem?_eq_some_iff.1 hy8).1
      have hj8 : LiesB W8 (.slice (some ⟨g, 0, none⟩) i cap) i (marksB 9) := liesB_start HC8.out (block_lt_of_cell (HC8.out 0 (by omega))) (by omega) S3.out (by omega) (fun _ _ => rfl)
      clear hx7 hy7 hv7 hf7 hc8 hb8 hk8 hB7 HC8
      generalize marksB 9 = G at *
      go_wp2_with fail
      refine (join_new hj8 k hk).mono ?_
      rintro e W9 ⟨gz, rfl, hz9, bz9, hb9⟩
      have lz9 := (Array.getElem?_eq_some_iff.1 hz9).1
      have hj9 := hj8.later hb9
      go_wp2_with fail
      refine (copyB_lies hj9 S2.out).mono ?_
      rintro e W10 ⟨v10, rfl, hown10, hb10⟩
      go_wp2_with fail
      refine (refJoin_lies (hown10.lies S4.out) k hk S2.out).mono ?_
      rintro e W11 ⟨v11, rfl, hown11, hb11⟩
      have hz11 := (hb11.block gz (Nat.lt_of_lt_of_le lz9 hb10.size)).trans ((hb10.block gz lz9).trans hz9)
      go_wp2_with fail
      refine (same_lies (lies_row hz11 HM2.out) hown11.lies (fun _ _ => rfl)).mono ?_
      rintro e W12 ⟨rfl, hb12⟩
      have hb812 : Below W8.heap.size W8 W12 := ((hb9.trans (hb10.mono hb9.size)).trans (hb11.mono (Nat.le_trans hb9.size hb10.size))).trans (hb12.mono (Nat.le_trans (Nat.le_trans hb9.size hb10.size) hb11.size))
      have hy12 := (hb812.block gy ly8).trans hy8
      have hx12 := (hb812.block gx lx8).trans hx8
      have hz12 := (hb12.block gz (Array.getElem?_eq_some_iff.1 hz11).1).trans hz11
      have hv12 := hv8.later hb812
      have hB12 := hB8.trans (hb812.mono hB8.size)
      have n4 : gx ≠ gz := by omega
      have n5 : gy ≠ gz := by omega
      have o3 : w.heap.size ≤ gz := by omega
      clear hz11 hown11 hown10 hj9 hj8 hb9 hb10 hb11 hb12 hv8 hx8 hy8 hB8 hz9
      go_wp2_with fail
      refine (same_lies (lies_row hy12 HM2.out) hv12.lies (fun _ _ => rfl)).mono ?_
      rintro e W13 ⟨rfl, hb13⟩
      have hx13 := (hb13.block gx (Array.getElem?_eq_some_iff.1 hx12).1).trans hx12
      have hy13 := (hb13.block gy (Array.getElem?_eq_some_iff.1 hy12).1).trans hy12
      have hz13 := (hb13.block gz (Array.getElem?_eq_some_iff.1 hz12).1).trans hz12
      have hB13 := hB12.trans (hb13.mono hB12.size)
      have hBw : Below w.heap.size w W13 := HB.out.trans (hB13.mono HB.out.size)
      clear hx12 hy12 hz12 hv12 hB12 hb13 hB13 hb812
      go_wp2_with fail
      refine (apart_three w.heap.size gx gy gz (joinLen k i) (joinLen k i) (joinLen k i) F F G W13 hx13 hy13 hz13 o1 o2 o3 n3 n4 n5 HM.out HM.out HM.out).mono ?_
      rintro e W14 ⟨rfl, hb14⟩
      go_wp2
      go_ret
      exact ⟨rfl, hBw.trans hb14⟩
end Go.Proofs.Ytedbgeibhaiheaa
