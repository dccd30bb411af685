/- The document's own U16, U32: the number of the bytes at a place, or nought; for every block of bytes and every place. -/
import Derived.Test.YtgkhheblmknedaaSets
namespace Go.Proofs.Ytgkhheblmknedaa
open Go.RowKit

set_option maxHeartbeats 400000 in
theorem inside_any (a : Int) (w : World) :
    Calls Try.prog 44 #[.int .i64 a] w fun e w' => e = .returned (.bool (decide (0 ≤ a ∧ a < 1024))) ∧ w' = w := by
  by_cases h0 : 0 ≤ a
  · by_cases h1 : a < 1024
    · go_enter Try.func44, Try.ntmps44
      go_wp2
      go_ret
      exact ⟨by simp [h0, h1], rfl⟩
    · go_enter Try.func44, Try.ntmps44
      go_wp2
      go_ret
      exact ⟨by simp [h1], rfl⟩
  · go_enter Try.func44, Try.ntmps44
    go_wp2
    go_ret
    exact ⟨by simp; omega, rfl⟩
theorem inside_yes (a : Int) (w : World) (h : 0 ≤ a ∧ a < 1024) : Calls Try.prog 44 #[.int .i64 a] w fun e w' => e = .returned (.bool true) ∧ w' = w := by
  have := inside_any a w
  rwa [decide_eq_true h] at this
theorem inside_no (a : Int) (w : World) (h : ¬ (0 ≤ a ∧ a < 1024)) : Calls Try.prog 44 #[.int .i64 a] w fun e w' => e = .returned (.bool false) ∧ w' = w := by
  have := inside_any a w
  rwa [decide_eq_false h] at this

theorem numN_bd3 (f : Nat → Int) (hf : ∀ i, 0 ≤ f i ∧ f i ≤ 255) (m k : Nat) (h : m ≤ 3) : 0 ≤ numN f k m ∧ numN f k m < 16777216 := by
  have hb := numN_bd f hf m k
  have hm : m = 0 ∨ m = 1 ∨ m = 2 ∨ m = 3 := by omega
  rcases hm with rfl | rfl | rfl | rfl <;> simp at hb <;> omega
theorem numN_step (f : Nat → Int) (k n j : Nat) (hj : j + 1 ≤ n) : numN f (k + j) (n - j) = f (k + j) + 256 * numN f (k + (j + 1)) (n - (j + 1)) := by
  rw [show n - j = (n - (j + 1)) + 1 by omega, numN, Nat.add_assoc]

set_option maxRecDepth 20000 in
set_option maxHeartbeats 400000 in
theorem number_in (f : Nat → Int) (k n : Nat) (w : World) (hn : 1 ≤ (n : Int) ∧ (n : Int) ≤ 4) (hk : (k : Int) + (n : Int) ≤ 1024) (hf : ∀ i, 0 ≤ f i ∧ f i ≤ 255) :
    Calls Try.prog 43 #[.agg (blk f), .int .i64 k, .int .i64 n] w fun e w' => e = .returned (.int .u32 (numN f k n)) ∧ Below w.heap.size w w' := by
  go_enter Try.func43, Try.ntmps43
  go_wp2_with (first | (go_at_call 44; refine (inside_yes _ _ (by omega)).mono ?_; rintro e w' ⟨rfl, rfl⟩))
  go_loop [7, 8] (fun x i => ∃ c : Int, -1 ≤ c ∧ c < n ∧ i = .int .i64 c ∧ x = .int .u32 (numN f (k + (c + 1).toNat) (n - (c + 1).toNat))) (fun _ i => (intOf i + 1).toNat)
  case atStart => exact ⟨(n : Int) - 1, by omega, by omega, rfl, by simp [numN]⟩
  case round =>
    obtain ⟨c, hc0, hc1, rfl, rfl⟩ := hrel
    by_cases h0 : 0 ≤ c
    · obtain ⟨m, rfl⟩ := Int.eq_ofNat_of_zero_le h0
      have e1 : ((m : Int) + 1).toNat = m + 1 := by omega
      rw [e1]
      have hst := numN_step f k n m (by omega)
      have hbd := numN_bd3 f hf (n - (m + 1)) (k + (m + 1)) (by omega)
      obtain ⟨x, hx⟩ : ∃ x, x = numN f (k + (m + 1)) (n - (m + 1)) := ⟨_, rfl⟩
      rw [← hx] at hst hbd
      rw [← hx]
      have hx0 : 0 ≤ x := hbd.1
      have hx1 : x < 16777216 := hbd.2
      have HST : Hid (numN f (k + m) (n - m) = f (k + m) + 256 * x) := hst
      have hfm := hf (k + m)
      have hf0 : 0 ≤ f (k + m) := hfm.1
      have hf1 : f (k + m) ≤ 255 := hfm.2
      have hbm := blk_get f (k + m) (by omega)
      have eadd : ((k : Int) + (m : Int)).toNat = k + m := by omega
      clear hst hbd hx e1 hf hfm hc0 h0
      go_wp2
      go_round
      case rel => exact ⟨(m : Int) - 1, by omega, by omega, rfl, by rw [show ((m : Int) - 1 + 1).toNat = m by omega, HST.out]; go_num⟩
      case measure => simp [intOf]
    · have e : c = -1 := by omega
      subst e
      go_wp2
      go_ret
      exact ⟨ret_int (by simp), (Below.refl _ _).alloc (Nat.le_refl _) _⟩

set_option maxRecDepth 20000 in
set_option maxHeartbeats 400000 in
theorem number_out (f : Nat → Int) (k : Int) (n : Nat) (w : World) (hn : 1 ≤ (n : Int) ∧ (n : Int) ≤ 4) (hk : ¬ (0 ≤ k ∧ k ≤ 1024 - (n : Int))) :
    Calls Try.prog 43 #[.agg (blk f), .int .i64 k, .int .i64 n] w fun e w' => e = .returned (.int .u32 0) ∧ Below w.heap.size w w' := by
  by_cases h : 0 ≤ k ∧ k < 1024
  · obtain ⟨h0, h1⟩ := h
    have HK : Hid (¬ (0 ≤ k + (n : Int) - 1 ∧ k + (n : Int) - 1 < 1024)) := show ¬ _ by omega
    clear hk
    go_enter Try.func43, Try.ntmps43
    go_wp2_with fail
    refine (inside_yes _ _ ⟨h0, h1⟩).mono ?_
    rintro e w' ⟨rfl, rfl⟩
    go_wp2_with fail
    refine (inside_no _ _ HK.out).mono ?_
    rintro e w' ⟨rfl, rfl⟩
    go_wp2
    go_ret
    exact ⟨rfl, (Below.refl _ _).alloc (Nat.le_refl _) _⟩
  · have HK : Hid (¬ (0 ≤ k ∧ k < 1024)) := h
    clear hk h
    go_enter Try.func43, Try.ntmps43
    go_wp2_with (first | (go_at_call 44; refine (inside_no _ _ HK.out).mono ?_; rintro e w' ⟨rfl, rfl⟩))
    go_ret
    exact ⟨rfl, (Below.refl _ _).alloc (Nat.le_refl _) _⟩
theorem number_any (f : Nat → Int) (k : Int) (n : Nat) (w : World) (hn : 1 ≤ (n : Int) ∧ (n : Int) ≤ 4) (hf : ∀ i, 0 ≤ f i ∧ f i ≤ 255) :
    Calls Try.prog 43 #[.agg (blk f), .int .i64 k, .int .i64 n] w fun e w' => e = .returned (.int .u32 (num f k n)) ∧ Below w.heap.size w w' := by
  by_cases h : 0 ≤ k ∧ k ≤ 1024 - (n : Int)
  · obtain ⟨m, rfl⟩ := Int.eq_ofNat_of_zero_le h.1
    rw [num_in f m n (by omega)]; exact number_in f m n w hn (by omega) hf
  · rw [num_out f k n (by omega)]; exact number_out f k n w hn h

set_option maxRecDepth 20000 in
set_option maxHeartbeats 400000 in
theorem refU32_any (f : Nat → Int) (k : Int) (w : World) (hf : ∀ i, 0 ≤ f i ∧ f i ≤ 255) :
    Calls Try.prog 36 #[.agg (blk f), .int .i64 k] w fun e w' => e = .returned (.int .u32 (num f k 4)) ∧ Below w.heap.size w w' := by
  have HF : Hid (∀ i, 0 ≤ f i ∧ f i ≤ 255) := hf
  clear hf
  go_enter Try.func36, Try.ntmps36
  go_wp2_with (first | (go_at_call 43; refine (number_any f k 4 _ (by omega) HF.out).mono ?_; rintro e w' ⟨rfl, hb⟩) | refine wpList_load25 rfl _ rfl _ rfl _ (heap_alloc_new _ _) ?_)
  go_ret
  exact ⟨rfl, ((Below.refl _ _).alloc (Nat.le_refl _) _).trans (hb.mono (by simp))⟩
end Go.Proofs.Ytgkhheblmknedaa
