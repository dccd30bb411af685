/- Join of slab: blocks one behind the other, as far as n bytes; for every list of blocks of fewer than 2 to the 47th bytes, and every n. -/
import Derived.Test.YtedbgeibhaiheaaCut
namespace Go.Proofs.Ytedbgeibhaiheaa
open Go.RowKit

/-- The slice v holds n blocks, of the bytes F 0, F 1 .. -/
def LiesB (w : World) (v : Value) (n : Nat) (F : Nat → Int) : Prop :=
  (∃ a cap, v = .slice a 0 cap ∧ n = 0 ∧ (a = none → cap = 0)) ∨ ∃ b off cap, v = .slice (some ⟨b, off, none⟩) n cap ∧ n * 1024 ≤ 281474976710656 ∧ n ≤ cap ∧ b < w.heap.size ∧ ∀ i, i < n * 1024 → w.cell? ⟨b, off + i, none⟩ = some (.int .u8 (F i))
theorem LiesB.later {w w' : World} {v : Value} {n : Nat} {f : Nat → Int} (h : LiesB w v n f) (hb : Below w.heap.size w w') : LiesB w' v n f := by
  rcases h with h | ⟨b, off, cap, hv, hn, hcap, hlt, hc⟩
  · exact .inl h
  · exact .inr ⟨b, off, cap, hv, hn, hcap, Nat.lt_of_lt_of_le hlt hb.size, fun i hi => (hb.cell (p := ⟨b, off + i, none⟩) hlt).trans (hc i hi)⟩
/-- So many bytes does Join give. -/
def joinLen (n : Int) (L : Nat) : Nat := (min n ((L : Int) * 1024)).toNat
theorem join_len (n : Int) (L : Nat) : (n ≤ 0 → joinLen n L = 0) ∧ (0 < n → n ≤ (L : Int) * 1024 → (joinLen n L : Int) = n) ∧ ((L : Int) * 1024 < n → joinLen n L = L * 1024) ∧ joinLen n L ≤ L * 1024 := by
  unfold joinLen
  rw [Int.min_def]
  split
  · exact ⟨fun h => by omega, fun h h' => by omega, fun h => by omega, by omega⟩
  · exact ⟨fun h => by omega, fun h h' => by omega, fun h => by omega, by omega⟩
theorem join_step (g M k : Nat) (hk : k * 1024 < M) : ∃ o, (Value.slice (if M - k * 1024 = min 1024 (M - k * 1024) then some ⟨g, k * 1024, none⟩ else some ⟨g, k * 1024 + min 1024 (M - k * 1024), none⟩)
    (M - k * 1024 - min 1024 (M - k * 1024)) (M - k * 1024 - min 1024 (M - k * 1024)) = .slice (some ⟨g, o, none⟩) (M - min ((k + 1) * 1024) M) (M - min ((k + 1) * 1024) M)) ∧ ((k + 1) * 1024 < M → o = (k + 1) * 1024) := by
  by_cases h : 1024 < M - k * 1024
  · rw [Nat.min_eq_left (show 1024 ≤ M - k * 1024 by omega), Nat.min_eq_left (show (k + 1) * 1024 ≤ M by omega), if_neg (by omega), show M - k * 1024 - 1024 = M - (k + 1) * 1024 by omega]
    exact ⟨_, rfl, fun _ => by omega⟩
  · rw [Nat.min_eq_right (show M - k * 1024 ≤ 1024 by omega), Nat.min_eq_right (show M ≤ (k + 1) * 1024 by omega), if_pos rfl, Nat.sub_self, Nat.sub_self]
    exact ⟨_, rfl, fun h2 => by omega⟩
theorem run_make5 (u : World) (x : Int) (n : Nat) (hx : x = (n : Int)) (hn : n ≤ 281474976710656) :
    (Instr.makeSlice 22 (.int .i64 x) (.int .i64 x)).run Try.prog u = .ok (.slice (some ⟨u.heap.size, 0, none⟩) n n) (u.alloc (.cells (rowA nought n) 5)) := by
  obtain ⟨i0, hi0, hz0, hz1, hz2⟩ := info_parts info5
  have h := run_make (P := Try.prog) u 22 5 i0 (.int .u8 0) Try.underlying22 hi0 hz0 .i64 .i64 x x (by omega) (Int.le_refl _) (by rw [hz2]; omega) (by omega)
  rw [show x.toNat = n by omega, hz1] at h
  simpa [Value.cells, made_row] using h

set_option maxRecDepth 20000 in
set_option maxHeartbeats 1000000 in
theorem join_some (b off L cap : Nat) (F : Nat → Int) (n : Int) (w : World) (hn : -9223372036854775808 ≤ n ∧ n ≤ 9223372036854775807) (hL : L * 1024 ≤ 281474976710656) (hb : b < w.heap.size)
    (hc : ∀ i, i < L * 1024 → w.cell? ⟨b, off + i, none⟩ = some (.int .u8 (F i))) :
    Calls Try.prog 36 #[.slice (some ⟨b, off, none⟩) L cap, .int .i64 n] w fun e w' => e = .returned (.slice (some ⟨w.heap.size, 0, none⟩) (joinLen n L) (joinLen n L)) ∧
      w'.heap[w.heap.size]? = some (.cells (rowA F (joinLen n L)) 5) ∧ w'.heap.size = w.heap.size + 1 ∧ Below w.heap.size w w' := by
  obtain ⟨M, hM⟩ : ∃ M, M = joinLen n L := ⟨_, rfl⟩
  rw [← hM]
  have hM1 : M ≤ L * 1024 := by have := join_len n L; omega
  have hmk0 : n ≤ 0 → ∀ u, _ := fun h u => run_make5 u 0 M (by have := join_len n L; omega) (by omega)
  have hmk1 : 0 < n ∧ n ≤ (L : Int) * 1024 → ∀ u, _ := fun h u => run_make5 u n M (by have := join_len n L; omega) (by omega)
  have hmk2 : (L : Int) * 1024 < n ∧ 0 < (L : Int) * 1024 → ∀ u, _ := fun h u => run_make5 u ((L : Int) * 1024) M (by have := join_len n L; omega) (by omega)
  have hmk3 : (L : Int) * 1024 < n ∧ (L : Int) * 1024 ≤ 0 → ∀ u, _ := fun h u => run_make5 u 0 M (by have := join_len n L; omega) (by omega)
  clear hM
  have hcs : n ≤ 0 ∨ (0 < n ∧ n ≤ (L : Int) * 1024) ∨ ((L : Int) * 1024 < n ∧ 0 < (L : Int) * 1024) ∨ ((L : Int) * 1024 < n ∧ (L : Int) * 1024 ≤ 0) := by
    by_cases h : n ≤ 0
    · exact .inl h
    · by_cases h2 : n ≤ (L : Int) * 1024
      · exact .inr (.inl ⟨Int.lt_of_not_ge h, h2⟩)
      · by_cases h3 : (L : Int) * 1024 ≤ 0
        · exact .inr (.inr (.inr ⟨Int.lt_of_not_ge h2, h3⟩))
        · exact .inr (.inr (.inl ⟨Int.lt_of_not_ge h2, Int.lt_of_not_ge h3⟩))
  have hL0 : 0 ≤ (L : Int) * 1024 := by omega
  have HG0 : Hid ((w.alloc (.cells (rowA nought M) 5)).heap[w.heap.size]? = some (.cells (rowA (over nought 0 (min (0 * 1024) M) F) M) 5)) := show _ = _ by
    rw [show min (0 * 1024) M = 0 by omega, over_none]; exact heap_alloc_new _ _
  have HS0 : Hid (Value.slice (some ⟨w.heap.size, 0, none⟩) M M = .slice (some ⟨w.heap.size, 0, none⟩) (M - min (0 * 1024) M) (M - min (0 * 1024) M)) := show _ = _ by
    rw [show min (0 * 1024) M = 0 by omega]; rfl
  have HZ0 : Hid ((w.alloc (.cells (rowA nought M) 5)).heap.size = w.heap.size + 1) := show _ = _ by simp
  have HB0 : Hid (Below w.heap.size w (w.alloc (.cells (rowA nought M) 5))) := (Below.refl _ _).alloc (Nat.le_refl _) _
  have HK0 : Hid (0 * 1024 ≤ M + 1023) := show _ ≤ _ by omega
  rcases hcs with h0 | h0 | h0 | h0
  all_goals
    first | (have hmk := hmk0 h0) | (have hmk := hmk1 h0) | (have hmk := hmk2 h0) | (have hmk := hmk3 h0)
    clear hmk0 hmk1 hmk2 hmk3
    try obtain ⟨h0, h0'⟩ := h0
    go_enter Try.func36, Try.ntmps36
    go_wp2
    clear hmk
    try clear h0
    try clear h0'
    go_loopw [6, 7] (fun s6 s7 wx => ∃ k o : Nat, k * 1024 ≤ M + 1023 ∧ s7 = .int .i64 k ∧ s6 = .slice (some ⟨w.heap.size, o, none⟩) (M - min (k * 1024) M) (M - min (k * 1024) M) ∧ (k * 1024 < M → o = k * 1024) ∧
      Hid (wx.heap[w.heap.size]? = some (.cells (rowA (over nought 0 (min (k * 1024) M) F) M) 5)) ∧ wx.heap.size = w.heap.size + 1 ∧ Below w.heap.size w wx) (fun _ s7 _ => M + 1024 - 1024 * (intOf s7).toNat)
    case atStart => exact ⟨0, 0, HK0.out, rfl, HS0.out, fun _ => rfl, HG0, HZ0.out, HB0.out⟩
    case round =>
      obtain ⟨k, o, hk, rfl, rfl, ho, HG, hsz, hbel⟩ := hrel
      by_cases hk2 : k * 1024 < M
      · obtain rfl := ho hk2
        clear ho
        have hmn : min (k * 1024) M = k * 1024 := by omega
        rw [hmn] at HG ⊢
        have hlen : (0 : Int) < ((M - k * 1024 : Nat) : Int) := by omega
        have hkL : (k : Int) < (L : Int) := by omega
        have hsrc : ∀ j, j < min 1024 (M - k * 1024) → wr.cell? ⟨b, off + k * 1024 + j, none⟩ = some (.int .u8 (from' F (k * 1024) j)) := fun j hj => by
          have h1 := hc (k * 1024 + j) (by omega)
          rw [← Nat.add_assoc] at h1
          exact (hbel.cell (p := ⟨b, off + k * 1024 + j, none⟩) hb).trans h1
        have HS : Hid (∀ j, j < min 1024 (M - k * 1024) → wr.cell? ⟨b, off + k * 1024 + j, none⟩ = some (.int .u8 (from' F (k * 1024) j))) := hsrc
        have HE : Hid (k * 1024 + min 1024 (M - k * 1024) ≤ M) := show _ ≤ _ by omega
        have HM : Hid (min 1024 (M - k * 1024) = Nat.min 1024 (M - k * 1024)) := rfl
        have HO : Hid (rowA (over (over nought 0 (k * 1024) F) (k * 1024) (min 1024 (M - k * 1024)) (from' F (k * 1024))) M = rowA (over nought 0 (min ((k + 1) * 1024) M) F) M) := rowA_congr fun i _ => by
          unfold over from'
          by_cases h1 : k * 1024 ≤ i ∧ i < k * 1024 + min 1024 (M - k * 1024)
          · rw [if_pos h1, if_pos (by omega)]; congr 1; omega
          · rw [if_neg h1]
            by_cases h2 : 0 ≤ i ∧ i < 0 + k * 1024
            · rw [if_pos h2, if_pos (by omega)]
            · rw [if_neg h2, if_neg (by omega)]
        clear hc hsrc hmn HG0 HS0 HZ0 HB0 HK0
        go_wp2_with (first | refine wpList_copy5 rfl (.tmp 22) (.tmp 26) rfl w.heap.size (k * 1024) (M - k * 1024) (M - k * 1024) b (off + k * 1024) 1024 1024 rfl rfl (over nought 0 (k * 1024) F) M 5 HG.out (from' F (k * 1024)) (min 1024 (M - k * 1024)) HM.out HS.out HE.out ?_)
        have h1 := setRow_heap wr w.heap.size _ (rowA (over (over nought 0 (k * 1024) F) (k * 1024) (min 1024 (M - k * 1024)) (from' F (k * 1024))) M) 5 (0, 0) HG.out
        rw [HO.out] at h1
        obtain ⟨o, ho1, ho2⟩ := join_step w.heap.size M k hk2
        exact ⟨⟨k + 1, o, by omega, by go_num, ho1, ho2, by rw [HO.out]; exact h1, by simp; exact hsz, below_setRow hbel (Nat.le_refl _) _⟩, by simp [intOf]; omega⟩
      · have hmn : min (k * 1024) M = M := by omega
        have hz : M - M = 0 := by omega
        rw [hmn] at HG ⊢
        rw [hz]
        have HR : Hid (rowA (over nought 0 M F) M = rowA F M) := rowA_congr fun i hi => by unfold over; rw [if_pos (by omega), Nat.sub_zero]
        clear hc hmn hz HG0 HS0 HZ0 HB0 HK0 ho
        go_wp2
        go_ret
        exact ⟨rfl, by rw [← HR.out]; exact HG.out, hsz, hbel⟩

set_option maxRecDepth 20000 in
set_option maxHeartbeats 400000 in
theorem join_none (a : Option Addr) (cap : Nat) (F : Nat → Int) (n : Int) (w : World) (hn : -9223372036854775808 ≤ n ∧ n ≤ 9223372036854775807) :
    Calls Try.prog 36 #[.slice a 0 cap, .int .i64 n] w fun e w' => e = .returned (.slice (some ⟨w.heap.size, 0, none⟩) (joinLen n 0) (joinLen n 0)) ∧
      w'.heap[w.heap.size]? = some (.cells (rowA F (joinLen n 0)) 5) ∧ w'.heap.size = w.heap.size + 1 ∧ Below w.heap.size w w' := by
  have h0 : joinLen n 0 = 0 := by have := join_len n 0; omega
  rw [h0]
  have hmk := fun u => run_make5 u 0 0 (by omega) (by omega)
  by_cases h1 : n ≤ 0
  all_goals
    go_enter Try.func36, Try.ntmps36
    go_wp2
    go_loopw [6, 7] (fun s6 s7 wx => s6 = .slice (some ⟨w.heap.size, 0, none⟩) 0 0 ∧ s7 = .int .i64 0 ∧ wx = w.alloc (.cells (rowA nought 0) 5)) (fun _ _ _ => 0)
    case atStart => exact ⟨rfl, rfl, rfl⟩
    case round =>
      obtain ⟨rfl, rfl, rfl⟩ := hrel
      go_wp2
      go_ret
      exact ⟨rfl, by rw [heap_alloc_new, rowA_congr (f := nought) (g := F) fun i hi => absurd hi (by omega)], by simp, (Below.refl _ _).alloc (Nat.le_refl _) _⟩
theorem join_lies {w : World} {l : Value} {L : Nat} {F : Nat → Int} (h : LiesB w l L F) (n : Int) (hn : -9223372036854775808 ≤ n ∧ n ≤ 9223372036854775807) :
    Calls Try.prog 36 #[l, .int .i64 n] w fun e w' => e = .returned (.slice (some ⟨w.heap.size, 0, none⟩) (joinLen n L) (joinLen n L)) ∧
      w'.heap[w.heap.size]? = some (.cells (rowA F (joinLen n L)) 5) ∧ w'.heap.size = w.heap.size + 1 ∧ Below w.heap.size w w' := by
  rcases h with ⟨a, cap, rfl, rfl, _⟩ | ⟨b, off, cap, rfl, hL, _, hb, hc⟩
  · exact join_none a cap F n w hn
  · exact join_some b off L cap F n w hn hL hb hc
end Go.Proofs.Ytedbgeibhaiheaa
