/- Lists of blocks: kept, written over; the document's own Join; they are of fewer than 2 to the 47th bytes. -/
import Derived.Test.YtedbgeibhaiheaaBlocks2
import Derived.Test.YtedbgeibhaiheaaRefPiece
namespace Go.Proofs.Ytedbgeibhaiheaa
open Go.RowKit

set_option maxRecDepth 20000 in
set_option maxHeartbeats 400000 in
theorem sameB_none (a1 a2 : Option Addr) (c1 c2 : Nat) (w : World) :
    Calls Try.prog 32 #[.slice a1 0 c1, .slice a2 0 c2] w fun e w' => e = .returned (.bool true) ∧ Below w.heap.size w w' := by
  go_enter Try.func32, Try.ntmps32
  go_wp2
  go_loop [5] (fun s5 => s5 = .int .i64 0) (fun _ => 0)
  case atStart => rfl
  case round =>
    obtain rfl := hrel
    go_wp2
    go_ret
    exact ⟨rfl, Below.refl _ _⟩
theorem LiesB.none {w : World} {v : Value} {F : Nat → Int} (h : LiesB w v 0 F) : ∃ a cap, v = .slice a 0 cap := by
  rcases h with ⟨a, cap, rfl, _, _⟩ | ⟨b, off, cap, rfl, _⟩
  · exact ⟨_, _, rfl⟩
  · exact ⟨_, _, rfl⟩
theorem LiesB.some {w : World} {v : Value} {n : Nat} {F : Nat → Int} (h : LiesB w v n F) (hn : 0 < n) :
    ∃ b off cap, v = .slice (some ⟨b, off, .none⟩) n cap ∧ n * 1024 ≤ 281474976710656 ∧ n ≤ cap ∧ b < w.heap.size ∧ ∀ i, i < n * 1024 → w.cell? ⟨b, off + i, .none⟩ = .some (.int .u8 (F i)) := by
  rcases h with ⟨a, cap, rfl, h0, _⟩ | h
  · omega
  · exact h
theorem sameB_lies {w : World} {a b : Value} {n : Nat} {F G : Nat → Int} (h1 : LiesB w a n F) (h2 : LiesB w b n G) (hs : ∀ i, i < n * 1024 → F i = G i) :
    Calls Try.prog 32 #[a, b] w fun e w' => e = .returned (.bool true) ∧ Below w.heap.size w w' := by
  by_cases h0 : n = 0
  · subst h0
    obtain ⟨a1, c1, rfl⟩ := h1.none
    obtain ⟨a2, c2, rfl⟩ := h2.none
    exact sameB_none a1 a2 c1 c2 w
  · obtain ⟨b1, o1, c1, rfl, hm, _, l1, hc1⟩ := h1.some (by omega)
    obtain ⟨b2, o2, c2, rfl, _, _, l2, hc2⟩ := h2.some (by omega)
    exact sameB_some b1 o1 c1 b2 o2 c2 n F G w hm l1 l2 hc1 hc2 hs

set_option maxRecDepth 20000 in
set_option maxHeartbeats 400000 in
theorem keptB_lies {w : World} {a p : Value} {n : Nat} {F G : Nat → Int} (h1 : LiesB w a (n + 6) G) (h : LiesB w p n F) (hG : ∀ i, i < (n + 6) * 1024 → G i = catB F n (marksB 7) i) (hn : (n + 6) * 1024 ≤ 140737488355328) :
    Calls Try.prog 37 #[a, p] w fun e w' => e = .returned (.bool true) ∧ Below w.heap.size w w' := by
  have HG : Hid (∀ i, i < (n + 6) * 1024 → G i = catB F n (marksB 7) i) := hG
  have hn2 : (n + 6) * 1024 ≤ 281474976710656 := Nat.le_trans hn (by decide)
  have HN := (show Hid _ from hn2)
  clear hG hn2
  go_enter Try.func37, Try.ntmps37
  go_wp2_with fail
  refine (lentB_lies h hn).mono ?_
  rintro e w1 ⟨v, rfl, hown, hb1⟩
  have hl := hown.lies HN.out
  have h1' := h1.later hb1
  go_wp2_with fail
  refine (sameB_lies h1' hl HG.out).mono ?_
  rintro e w2 ⟨rfl, hb2⟩
  go_wp2
  go_ret
  exact ⟨rfl, hb1.trans (hb2.mono hb1.size)⟩

theorem wpList_storeB {ops : Array Oper} {rest : List Oper} {o : Oper} {a : Act} {w : World} {Q : Exit → Act → World → Prop} (hgd : o.guard = none) (x y : Operand) (ho : o.op = .store 25 x y)
    (g off : Nat) (f : Nat → Int) (hx : a.eval x = .pointer (some ⟨g, off, none⟩)) (hy : a.eval y = .agg (blk f)) (ht : w.there g off 1024)
    (h : ∀ w', (∀ j, j < 1024 → w'.cell? ⟨g, off + j, none⟩ = some (.int .u8 (f j))) → (∀ j, j < off ∨ off + 1024 ≤ j → w'.cell? ⟨g, j, none⟩ = w.cell? ⟨g, j, none⟩) → (∀ x, w'.frozen? x = w.frozen? x) → (∀ B, B ≤ g → Below B w w') → (∀ b, b ≠ g → w'.heap[b]? = w.heap[b]?) →
      wpList Try.prog ops Q rest (a.put o.dst undef) w') : wpList Try.prog ops Q (o :: rest) a w := by
  refine wpList_store_mid hgd 25 x y ho g off (blk f) hx hy (by rw [blk_size]; exact ht) (by rw [blk_size]; exact size25) (blk_one f) (h _ (fun j hj => ?_) (fun j hj => ?_) (fun x => World.frozen?_setCells g _ off w x) (fun B hB => ?_) fun b hb => ?_)
  · have hj' : j < (blk f).toList.length := by rw [blk_len]; exact hj
    rw [World.cell?_setCells_in g (blk f).toList off w (fun i hi => (ht i (by rw [blk_len] at hi; exact hi)).1) j hj', ← List.getElem?_eq_getElem hj', Array.getElem?_toList, blk_get f j hj]
  · refine World.cell?_setCells_out g _ off w ⟨g, j, none⟩ fun _ _ => ?_
    rw [blk_len]
    exact hj
  · generalize (blk f).toList = vs
    have key : ∀ (vs : List Value) (o : Nat) (u : World), Below B w u → Below B w (u.setCells g o vs) := by
      intro vs
      induction vs with
      | nil => exact fun _ _ hu => hu
      | cons v r ih => exact fun o u hu => ih (o + 1) _ (hu.setCell hB _)
    exact key vs off w (Below.refl _ _)
  · generalize (blk f).toList = vs
    have key : ∀ (vs : List Value) (o : Nat) (u : World), u.heap[b]? = w.heap[b]? → (u.setCells g o vs).heap[b]? = w.heap[b]? := by
      intro vs
      induction vs with
      | nil => exact fun _ _ hu => hu
      | cons v r ih => exact fun o u hu => ih (o + 1) _ ((heap_setCell_other u _ _ _ hb).trans hu)
    exact key vs off w rfl

set_option maxRecDepth 20000 in
set_option maxHeartbeats 1000000 in
theorem overB_some (base g cap n : Nat) (F : Nat → Int) (w : World) (h : OwnB w base (.slice (some ⟨g, 0, none⟩) n cap) n F) (hg : base ≤ g) (hn : n * 1024 ≤ 140737488355328) :
    Calls Try.prog 38 #[.slice (some ⟨g, 0, none⟩) n cap] w fun e w' => e = .returned (.tuple #[]) ∧ (∀ i, i < n * 1024 → w'.cell? ⟨g, i, none⟩ = some (.int .u8 (marksB 9 i))) ∧ Below base w w' ∧ ∀ b, b < w.heap.size → b ≠ g → w'.heap[b]? = w.heap[b]? := by
  have H0 : Hid ((∀ i, i < n * 1024 → w.cell? ⟨g, i, none⟩ = some (.int .u8 (firstAs F (marksB 9) (0 * 1024) i))) ∧ ∀ i, w.frozen? ⟨g, i, none⟩ = false) := ⟨fun i hi => by
    have := World.ownsRow.cellAt h i hi
    rw [Array.getElem?_toList, rowA_get _ _ _ hi] at this
    rw [this, Nat.zero_mul]
    unfold firstAs
    rw [if_neg (by omega)], fun i => World.ownsRow.frozenAt h i⟩
  clear h
  have hN : n ≤ 140737488355328 := by simp only [Nat.mul_comm _ 1024] at *; omega
  have HNN := (show Hid _ from hn)
  clear hn
  go_enter Try.func38, Try.ntmps38
  go_wp2
  go_loopw [2] (fun s2 wx => ∃ k : Nat, (k : Int) ≤ n ∧ s2 = .int .i64 k ∧ Hid ((∀ i, i < n * 1024 → wx.cell? ⟨g, i, none⟩ = some (.int .u8 (firstAs F (marksB 9) (k * 1024) i))) ∧ ∀ i, wx.frozen? ⟨g, i, none⟩ = false) ∧ Hid (Below base w wx ∧ w.heap.size ≤ wx.heap.size ∧ ∀ b, b < w.heap.size → b ≠ g → wx.heap[b]? = w.heap[b]?)) (fun s2 _ => n - (intOf s2).toNat)
  case atStart => exact ⟨0, by omega, rfl, H0.out, Below.refl _ _, Nat.le_refl _, fun _ _ _ => rfl⟩
  case round =>
    obtain ⟨k, hk, rfl, HC, HB⟩ := hrel
    clear H0
    by_cases hk2 : (k : Int) < n
    · have HKJ : Hid (∀ j, j < 1024 → k * 1024 + j < n * 1024) := fun j hj => by simp only [Nat.mul_comm _ 1024] at *; omega
      go_wp2_with fail
      refine (markBlocks_any 9 k wr (by omega) (by omega)).mono ?_
      rintro e w2 ⟨rfl, hb2⟩
      have hgl : g < wr.heap.size := block_lt_of_cell (HC.out.1 (k * 1024 + 0) (HKJ.out 0 (by omega)))
      have hblk := hb2.block g hgl
      have HC2 : Hid ((∀ i, i < n * 1024 → w2.cell? ⟨g, i, none⟩ = some (.int .u8 (firstAs F (marksB 9) (k * 1024) i))) ∧ ∀ i, w2.frozen? ⟨g, i, none⟩ = false) :=
        ⟨fun i hi => (World.cell?_of_block (a := ⟨g, i, none⟩) hblk).trans (HC.out.1 i hi), fun i => (World.frozen?_of_block (a := ⟨g, i, none⟩) hblk).trans (HC.out.2 i)⟩
      have HB2 : Hid (Below base w w2 ∧ w.heap.size ≤ w2.heap.size ∧ ∀ b, b < w.heap.size → b ≠ g → w2.heap[b]? = w.heap[b]?) := ⟨HB.out.1.trans (hb2.mono (Nat.le_trans hg (Nat.le_of_lt hgl))), Nat.le_trans HB.out.2.1 hb2.size, fun b h1 h2 => (hb2.block b (Nat.lt_of_lt_of_le h1 HB.out.2.1)).trans (HB.out.2.2 b h1 h2)⟩
      have HT : Hid (w2.there g (k * 1024) 1024) := fun j hj => ⟨by rw [HC2.out.1 _ (HKJ.out j hj)]; rfl, HC2.out.2 _⟩
      clear HC HB hb2 hblk
      generalize hm : markB 9 (k : Int) = m at *
      have HM : Hid (markB 9 (k : Int) = m) := hm
      clear hm
      go_wp2_with (first | refine wpList_storeB rfl _ _ rfl g (k * 1024) m rfl rfl HT.out ?_; intro w3 i1 i2 i3 i4 i5)
      have HI : Hid (∀ i, i < n * 1024 → w3.cell? ⟨g, i, none⟩ = some (.int .u8 (firstAs F (marksB 9) ((k + 1) * 1024) i))) := fun i hi => by
        by_cases c : i < k * 1024 ∨ k * 1024 + 1024 ≤ i
        · rw [i2 i c, HC2.out.1 i hi]
          congr 2
          unfold firstAs
          by_cases c2 : i < k * 1024
          · have c3 : i < (k + 1) * 1024 := by simp only [Nat.mul_comm _ 1024] at *; omega
            rw [if_pos c2, if_pos c3]
          · have c3 : ¬ i < (k + 1) * 1024 := by simp only [Nat.mul_comm _ 1024] at *; omega
            rw [if_neg c2, if_neg c3]
        · have c3 : i < (k + 1) * 1024 := by simp only [Nat.mul_comm _ 1024] at *; omega
          have c4 : i / 1024 = k := by simp only [Nat.mul_comm _ 1024] at *; omega
          have c5 : k * 1024 + i % 1024 = i := by simp only [Nat.mul_comm _ 1024] at *; omega
          have := i1 (i % 1024) (Nat.mod_lt _ (by decide))
          rw [c5] at this
          rw [this]
          unfold firstAs marksB
          rw [if_pos c3, c4, HM.out]
      have HF : Hid (∀ i, w3.frozen? ⟨g, i, none⟩ = false) := fun i => (i3 _).trans (HC2.out.2 i)
      have HB3 : Hid (Below base w w3 ∧ w.heap.size ≤ w3.heap.size ∧ ∀ b, b < w.heap.size → b ≠ g → w3.heap[b]? = w.heap[b]?) := ⟨HB2.out.1.trans (i4 base hg), Nat.le_trans HB2.out.2.1 (i4 base hg).size, fun b h1 h2 => (i5 b h2).trans (HB2.out.2.2 b h1 h2)⟩
      clear i1 i2 i3 i4 i5
      go_wp2
      exact ⟨⟨k + 1, by omega, by go_num, ⟨HI.out, HF.out⟩, HB3.out⟩, by simp [intOf]; omega⟩
    · have e : k = n := by omega
      subst e
      go_wp2
      go_end0
      refine ⟨rfl, fun i hi => ?_, HB.out.1, HB.out.2.2⟩
      have := HC.out.1 i hi
      unfold firstAs at this
      rwa [if_pos hi] at this

theorem join_iff (n : Int) (L i : Nat) : i < joinLen n L ↔ ((i : Int) < (L : Int) * 1024 ∧ (i : Int) < n) := by
  have := join_len n L
  generalize joinLen n L = M at *
  obtain ⟨h1, h2, h3, h4⟩ := this
  have h4' : (M : Int) ≤ (L : Int) * 1024 := by simp only [Nat.mul_comm _ 1024, Int.mul_comm _ 1024] at *; omega
  by_cases c1 : n ≤ 0
  · have := h1 c1; omega
  · by_cases c2 : n ≤ (L : Int) * 1024
    · have := h2 (by omega) c2; omega
    · have := h3 (by omega)
      have h5 : (M : Int) = (L : Int) * 1024 := by simp only [Nat.mul_comm _ 1024, Int.mul_comm _ 1024] at *; omega
      omega

set_option maxRecDepth 20000 in
set_option maxHeartbeats 1000000 in
theorem refJoin_some (b off L cap : Nat) (F : Nat → Int) (n : Int) (w : World) (hn : -9223372036854775808 ≤ n ∧ n ≤ 9223372036854775807) (hL : L * 1024 ≤ 140737488355328) (hb : b < w.heap.size)
    (hc : ∀ i, i < L * 1024 → w.cell? ⟨b, off + i, none⟩ = some (.int .u8 (F i))) :
    Calls Try.prog 35 #[.slice (some ⟨b, off, none⟩) L cap, .int .i64 n] w fun e w' => ∃ v, e = .returned v ∧ Own w' w.heap.size v (joinLen n L) F ∧ Below w.heap.size w w' := by
  have HI : Hid (∀ i : Nat, i < joinLen n L ↔ ((i : Int) < (L : Int) * 1024 ∧ (i : Int) < n)) := join_iff n L
  generalize joinLen n L = M at *
  have HC := (show Hid _ from hc)
  have HL := (show Hid _ from hL)
  have hL2 : L ≤ 137438953472 := by simp only [Nat.mul_comm _ 1024] at *; omega
  clear hc hL
  go_enter Try.func35, Try.ntmps35
  go_wp2
  go_loopw [5, 6] (fun s5 s6 wx => ∃ i : Nat, i ≤ M ∧ s6 = .int .i64 i ∧ Hid (Own wx w.heap.size s5 i F) ∧ Hid (Below w.heap.size w wx)) (fun _ s6 _ => M - (intOf s6).toNat)
  case atStart => exact ⟨0, by omega, rfl, Own.nil _ _ _, Below.refl _ _⟩
  case round =>
    obtain ⟨i, hi, rfl, HO, HB⟩ := hrel
    by_cases hi2 : i < M
    · obtain ⟨h1, h2⟩ := (HI.out i).1 hi2
      have hi3 : i < L * 1024 := by simp only [Nat.mul_comm _ 1024, Int.mul_comm _ 1024] at *; omega
      have hi4 : i ≤ 140737488355327 := by have := HL.out; omega
      have hcell : wr.cell? ⟨b, off + i / 1024 * 1024 + i % 1024, none⟩ = some (.int .u8 (F i)) := by
        rw [show off + i / 1024 * 1024 + i % 1024 = off + i by omega]
        exact (HB.out.cell (p := ⟨b, off + i, none⟩) hb).trans (HC.out i hi3)
      have HE : Hid (upd F i (F i) = F) := upd_self F i
      go_wp2_with (first | (at_builtin; refine wpList_push5 rfl (.tmp 19) (.tmp 28) rfl w.heap.size _ i F _ rfl rfl HO.out (by omega) HB.out.size ?_; intro v' w2 hown' _ hb2))
      refine ⟨⟨i + 1, by omega, by go_num, ?_, HB.out.trans hb2⟩, by simp [intOf]; omega⟩
      rw [HE.out] at hown'
      exact hown'
    · have hiM : i = M := by omega
      have hno := fun h => hi2 ((HI.out i).2 h)
      have HO2 : Hid (Own wr w.heap.size u5 M F) := by rw [← hiM]; exact HO.out
      clear HO hiM hi2 hi HI
      by_cases h1 : (i : Int) < (L : Int) * 1024
      · have h2 : ¬ (i : Int) < n := fun q => hno ⟨h1, q⟩
        clear hno
        go_wp2
        go_ret
        exact ⟨_, rfl, HO2.out, HB.out⟩
      · clear hno
        go_wp2
        go_ret
        exact ⟨_, rfl, HO2.out, HB.out⟩
set_option maxRecDepth 20000 in
set_option maxHeartbeats 400000 in
theorem refJoin_none (a : Option Addr) (cap : Nat) (F : Nat → Int) (n : Int) (w : World) :
    Calls Try.prog 35 #[.slice a 0 cap, .int .i64 n] w fun e w' => ∃ v, e = .returned v ∧ Own w' w.heap.size v (joinLen n 0) F ∧ Below w.heap.size w w' := by
  have h0 : joinLen n 0 = 0 := by have := join_len n 0; omega
  rw [h0]
  go_enter Try.func35, Try.ntmps35
  go_wp2
  go_loopw [5, 6] (fun s5 s6 wx => s5 = .slice none 0 0 ∧ s6 = .int .i64 0 ∧ wx = w) (fun _ _ _ => 0)
  case atStart => exact ⟨rfl, rfl, rfl⟩
  case round =>
    obtain ⟨rfl, rfl, rfl⟩ := hrel
    go_wp2
    go_ret
    exact ⟨_, rfl, Own.nil _ _ _, Below.refl _ _⟩
theorem refJoin_lies {w : World} {l : Value} {L : Nat} {F : Nat → Int} (h : LiesB w l L F) (n : Int) (hn : -9223372036854775808 ≤ n ∧ n ≤ 9223372036854775807) (hL : L * 1024 ≤ 140737488355328) :
    Calls Try.prog 35 #[l, .int .i64 n] w fun e w' => ∃ v, e = .returned v ∧ Own w' w.heap.size v (joinLen n L) F ∧ Below w.heap.size w w' := by
  rcases h with ⟨a, cap, rfl, rfl, _⟩ | ⟨b, off, cap, rfl, _, _, hb, hc⟩
  · exact refJoin_none a cap F n w
  · exact refJoin_some b off L cap F n w hn hL hb hc
theorem slice43h (g n cap : Nat) (hn : n ≤ cap) (u : World) :
    (Instr.slice 43 (.slice (some ⟨g, 0, none⟩) (n + 6) cap) none (some (.int .i64 (n : Int))) none).run Try.prog u = .ok (.slice (some ⟨g, 0, none⟩) n cap) u := by
  have ee : Try.prog.elem 43 = 25 := by kernel_rfl
  have hx := run_slice_h (P := Try.prog) u 43 (some ⟨g, 0, none⟩) (n + 6) cap (by rw [ee]; exact Try.underlying43) .i64 (n : Int) (by omega) (by omega)
  rw [hx, ee]
  simp [Try.sizeOf25, sliced, Addr.add]
end Go.Proofs.Ytedbgeibhaiheaa
