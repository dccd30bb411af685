/- Lists of blocks: copied, lent with marks behind them, held against each other; they are of fewer than 2 to the 47th bytes. -/
import Derived.Test.YtedbgeibhaiheaaBlocks
namespace Go.Proofs.Ytedbgeibhaiheaa
open Go.RowKit

set_option maxRecDepth 20000 in
set_option maxHeartbeats 400000 in
theorem copyB_nil (w : World) (F : Nat → Int) :
    Calls Try.prog 39 #[.slice none 0 0] w fun e w' => ∃ v, e = .returned v ∧ OwnB w' w.heap.size v 0 F ∧ Below w.heap.size w w' := by
  obtain ⟨i0, hi0, hz0, hz1, hz2⟩ := info_parts info25b
  go_enter Try.func39, Try.ntmps39
  go_wp2_with (at_builtin; refine wpList_append_own_none rfl _ _ 43 rfl w.heap.size 25 i0 1024 Try.underlying43 hi0 _ 0 [] rfl (World.ownsRow_nil _ _ _ _) rfl ?_)
  go_ret
  exact ⟨_, rfl, OwnB.nil _ _ _, Below.refl _ _⟩

set_option maxRecDepth 20000 in
set_option maxHeartbeats 400000 in
theorem copyB_some (ad : Addr) (n cap : Nat) (w : World) (F : Nat → Int) (hn : n * 1024 ≤ 140737488355328) (hc : ∀ i, i < n * 1024 → w.cell? (ad.add i) = some (.int .u8 (F i))) :
    Calls Try.prog 39 #[.slice (some ad) n cap] w fun e w' => ∃ v, e = .returned v ∧ OwnB w' w.heap.size v n F ∧ Below w.heap.size w w' := by
  obtain ⟨i0, hi0, hz0, hz1, hz2⟩ := info_parts info25b
  have hnews : ∀ j u, (rowA F (n * 1024)).toList[j]? = some u → w.cell? (ad.add j) = some u := fun j u hu => by
    have hj : j < n * 1024 := by have := (List.getElem?_eq_some_iff.1 hu).1; rwa [rowA_len] at this
    rw [hc j hj]
    rw [Array.getElem?_toList, rowA_get F _ j hj] at hu
    exact hu
  have HN : Hid (∀ j u, (rowA F (n * 1024)).toList[j]? = some u → w.cell? (ad.add j) = some u) := hnews
  clear hc hnews
  have hN0 := World.ownsRow_nil w w.heap.size 25 1024
  have hs0 := blk_size nought
  generalize nought = N at *
  go_enter Try.func39, Try.ntmps39
  go_wp2_with (at_builtin; refine wpList_append_own _ rfl _ _ 43 rfl w.heap.size 25 i0 (.agg (blk N)) 1024 1024 Try.underlying43 hi0 hz0 hz1 hz2 hs0 (by decide) _ 0 [] rfl hN0 ad n cap (rowA F (n * 1024)).toList rfl (by rw [rowA_len]) HN.out (rowA_one F _) (by unfold maxLen; omega) (by omega) (Nat.le_refl _) ?_)
  intro v' w1 hown hg _
  go_wp2
  go_ret
  refine ⟨_, rfl, ?_, (Below.refl _ _).grown hg (Nat.le_refl _) (fun k hk => by simp [Value.ownBlock] at hk)⟩
  unfold OwnB
  simpa using hown
theorem copyB_lies {w : World} {p : Value} {n : Nat} {F : Nat → Int} (h : LiesB w p n F) (hn : n * 1024 ≤ 140737488355328) :
    Calls Try.prog 39 #[p] w fun e w' => ∃ v, e = .returned v ∧ OwnB w' w.heap.size v n F ∧ Below w.heap.size w w' := by
  rcases h with ⟨a, cap, rfl, rfl, ha⟩ | ⟨b, off, cap, rfl, _, _, _, hc⟩
  · cases a with
    | none => rw [ha rfl]; exact copyB_nil w F
    | some x => exact copyB_some x 0 cap w F (by omega) (fun i hi => absurd hi (by omega))
  · exact copyB_some _ n cap w F hn (fun i hi => by rw [Go.WideShapes.add_plain]; exact hc i hi)

/-- The marks of list k, one behind the other. -/
def marksB (k : Int) : Nat → Int := fun i => markB k ((i / 1024 : Nat) : Int) (i % 1024)
theorem catB_marks (F : Nat → Int) (k : Int) (n j i : Nat) (hi : i < (n + j + 1) * 1024) : catB (catB F n (marksB k)) (n + j) (markB k j) i = catB F n (marksB k) i := by
  by_cases h1 : i < (n + j) * 1024
  · unfold catB
    rw [if_pos h1]
  · have h2 : ¬ i < n * 1024 := by simp only [Nat.mul_comm _ 1024] at *; omega
    have h3 : (i - n * 1024) / 1024 = j := by simp only [Nat.mul_comm _ 1024] at *; omega
    have h4 : (i - n * 1024) % 1024 = i - (n + j) * 1024 := by simp only [Nat.mul_comm _ 1024] at *; omega
    unfold catB
    rw [if_neg h1, if_neg h2]
    unfold marksB
    rw [h3, h4]

set_option maxRecDepth 20000 in
set_option maxHeartbeats 1000000 in
theorem lentB_lies {w : World} {p : Value} {n : Nat} {F : Nat → Int} (h : LiesB w p n F) (hn : (n + 6) * 1024 ≤ 140737488355328) :
    Calls Try.prog 34 #[p] w fun e w' => ∃ v, e = .returned v ∧ OwnB w' w.heap.size v (n + 6) (catB F n (marksB 7)) ∧ Below w.heap.size w w' := by
  go_enter Try.func34, Try.ntmps34
  go_wp2_with fail
  refine (copyB_lies h (by simp only [Nat.mul_comm _ 1024] at *; omega)).mono ?_
  rintro e w1 ⟨v1, rfl, hown1, hb1⟩
  have hown2 : OwnB w1 w.heap.size v1 (n + 0) (catB F n (marksB 7)) := hown1.congr fun i hi => by unfold catB; rw [if_pos hi]
  clear hown1 h
  have HNN : Hid (∀ k : Nat, k < 6 → (n + k + 1) * 1024 ≤ 140737488355328) := fun k hk => by simp only [Nat.mul_comm _ 1024] at *; omega
  clear hn
  go_wp2
  go_loopw [3, 4] (fun s3 s4 wx => ∃ k : Nat, (k : Int) ≤ 6 ∧ s4 = .int .i64 k ∧ Hid (OwnB wx w.heap.size s3 (n + k) (catB F n (marksB 7))) ∧ Hid (Below w.heap.size w wx)) (fun _ s4 _ => 6 - (intOf s4).toNat)
  case atStart => exact ⟨0, by omega, rfl, hown2, hb1⟩
  case round =>
    obtain ⟨k, hk, rfl, HO, HB⟩ := hrel
    clear hown2 hb1
    by_cases hk2 : (k : Int) < 6
    · go_wp2_with fail
      refine (markBlocks_any 7 k wr (by omega) (by omega)).mono ?_
      rintro e w2 ⟨rfl, hb2⟩
      have HK := HNN.out k (by omega)
      have hB2 := HB.out.trans (hb2.mono HB.out.size)
      have hO2 := HO.out.later hb2
      generalize hm : markB 7 (k : Int) = m at *
      have HM : Hid (markB 7 (k : Int) = m) := hm
      clear hm
      go_wp2_with (first | refine wpList_build1 rfl (.tmp 13) rfl m rfl ?_ | (at_builtin; refine wpList_pushB rfl (.tmp 11) (.tmp 14) rfl w.heap.size _ (n + k) (catB F n (marksB 7)) m rfl rfl hO2 HK hB2.size ?_; intro v' w3 hown' _ hb3))
      refine ⟨⟨k + 1, by omega, by go_num, ?_, hB2.trans hb3⟩, by simp [intOf]; omega⟩
      rw [← HM.out] at hown'
      exact hown'.congr fun i hi => catB_marks F 7 n k i hi
    · have e : k = 6 := by omega
      subst e
      go_wp2
      go_ret
      exact ⟨_, rfl, HO.out, HB.out⟩

/-- A block is read out of a list's middle, in whatever later world. -/
theorem quiet_loadB {W : World} {o : Oper} {a : Act} {K : Act → Prop} (x : Operand) (ho : o.op = .load 25 x) (g off : Nat) (hx : a.eval x = .pointer (some ⟨g, off, none⟩)) (f : Nat → Int)
    (hlt : g < W.heap.size) (hc : ∀ j, j < 1024 → W.cell? ⟨g, off + j, none⟩ = some (.int .u8 (f j))) (hk : K (a.put o.dst (.agg (blk f)))) : o.quiet Try.prog a (fun w' => ∃ x : Later W, w' = x.val) K := by
  refine ⟨.agg (blk f), ?_, hk⟩
  rintro _ ⟨y, rfl⟩
  have hr := run_loadAt_mid (P := Try.prog) y.val g off 25 (blk f).toList _ (fun j v hv => by
    have hj : j < 1024 := by have := (List.getElem?_eq_some_iff.1 hv).1; rwa [blk_len] at this
    rw [Array.getElem?_toList, blk_get f j hj] at hv
    rw [y.cell ⟨g, off + j, none⟩ hlt, hc j hj]
    exact hv) Try.underlying25 rfl (by rw [blk_len]; exact size25)
  rw [Array.toArray_toList] at hr
  unfold Oper.quietAt execOp
  simp only [ho, hx, hr, Sem.run_bind, Result.andThen_ok, Sem.run_pure]
  exact ⟨rfl, rfl⟩

set_option maxRecDepth 20000 in
set_option maxHeartbeats 1000000 in
theorem sameB_some (b1 o1 c1 b2 o2 c2 n : Nat) (F G : Nat → Int) (w : World) (hn : n * 1024 ≤ 281474976710656) (l1 : b1 < w.heap.size) (l2 : b2 < w.heap.size)
    (h1 : ∀ i, i < n * 1024 → w.cell? ⟨b1, o1 + i, none⟩ = some (.int .u8 (F i))) (h2 : ∀ i, i < n * 1024 → w.cell? ⟨b2, o2 + i, none⟩ = some (.int .u8 (G i))) (hs : ∀ i, i < n * 1024 → F i = G i) :
    Calls Try.prog 32 #[.slice (some ⟨b1, o1, none⟩) n c1, .slice (some ⟨b2, o2, none⟩) n c2] w fun e w' => e = .returned (.bool true) ∧ Below w.heap.size w w' := by
  have H1 : Hid (∀ i, i < n * 1024 → w.cell? ⟨b1, o1 + i, none⟩ = some (.int .u8 (F i))) := h1
  have H2 : Hid (∀ i, i < n * 1024 → w.cell? ⟨b2, o2 + i, none⟩ = some (.int .u8 (F i))) := fun i hi => by rw [h2 i hi, hs i hi]
  clear h1 h2 hs
  have heq := eq25
  have hself := sameB_self
  go_enter Try.func32, Try.ntmps32
  go_wp2
  go_loopw [5] (fun s5 wx => ∃ k : Nat, (k : Int) ≤ n ∧ s5 = .int .i64 k ∧ Hid (Below w.heap.size w wx)) (fun s5 _ => n - (intOf s5).toNat)
  case atStart => exact ⟨0, by omega, rfl, Below.refl _ _⟩
  case round =>
    obtain ⟨k, hk, rfl, HB⟩ := hrel
    by_cases hk2 : (k : Int) < n
    · have HKJ : Hid (∀ j, j < 1024 → k * 1024 + j < n * 1024) := fun j hj => by simp only [Nat.mul_comm _ 1024] at *; omega
      have hc1 : ∀ j, j < 1024 → wr.cell? ⟨b1, o1 + k * 1024 + j, none⟩ = some (.int .u8 (from' F (k * 1024) j)) := fun j hj => by
        have := H1.out (k * 1024 + j) (HKJ.out j hj)
        rw [← Nat.add_assoc] at this
        exact (HB.out.cell (p := ⟨b1, o1 + k * 1024 + j, none⟩) l1).trans this
      have hc2 : ∀ j, j < 1024 → wr.cell? ⟨b2, o2 + k * 1024 + j, none⟩ = some (.int .u8 (from' F (k * 1024) j)) := fun j hj => by
        have := H2.out (k * 1024 + j) (HKJ.out j hj)
        rw [← Nat.add_assoc] at this
        exact (HB.out.cell (p := ⟨b2, o2 + k * 1024 + j, none⟩) l2).trans this
      have HC1 := (show Hid _ from hc1)
      have HC2 := (show Hid _ from hc2)
      have m1 : b1 < wr.heap.size := Nat.lt_of_lt_of_le l1 HB.out.size
      have m2 : b2 < wr.heap.size := Nat.lt_of_lt_of_le l2 HB.out.size
      clear hc1 hc2
      generalize from' F (k * 1024) = f at *
      go_wp2
      have hne := later_some wr
      refine wp_region_later (by kernel_rfl) (by kernel_rfl) wr (Below.refl _ _) ?_
      repeat (first
        | (go_big_quiet_want; refine quiet_loadB _ rfl b1 (o1 + k * 1024) rfl f m1 HC1.out ?_; simp only [Act.put, List.setIfInBounds_toArray, List.set_cons_succ, List.set_cons_zero]; go_big_quiet_on)
        | (go_big_quiet_want; refine quiet_loadB _ rfl b2 (o2 + k * 1024) rfl f m2 HC2.out ?_; simp only [Act.put, List.setIfInBounds_toArray, List.set_cons_succ, List.set_cons_zero]; go_big_quiet_on)
        | go_big_quiet_step (fail))
      refine wpQuiet_nil ?_
      rintro _ ⟨x, rfl⟩
      go_wp2
      exact ⟨⟨k + 1, by omega, by go_num, HB.out.trans (x.below.mono HB.out.size)⟩, by simp [intOf]; omega⟩
    · go_wp2
      go_ret
      exact ⟨rfl, HB.out⟩
end Go.Proofs.Ytedbgeibhaiheaa
