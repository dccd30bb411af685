/- The document's own Has and Set: for every block of bytes, every number and either way; and Pick. -/
import Derived.Test.YtplgelhfombhkaaLawFirst
import Derived.Test.YtplgelhfombhkaaInts
namespace Go.Proofs.Ytplgelhfombhkaa
open Go.RowKit

theorem div_next (x k : Nat) : x / 2 ^ k / 2 = x / 2 ^ (k + 1) := by rw [Nat.div_div_eq_div_mul, Nat.pow_succ]
theorem bit_div (f : Nat → Int) (i : Nat) : ((((f (i / 8)).toNat / 2 ^ (i % 8) : Nat) : Int) % 2 == 1) = bit f i := by
  unfold bit
  rw [Nat.testBit_eq_decide_div_mod_eq, Bool.eq_iff_iff]
  simp only [beq_iff_eq, decide_eq_true_eq]
  omega
set_option maxRecDepth 20000 in
set_option maxHeartbeats 1000000 in
theorem refHas_in' (f : Nat → Int) (i : Int) (q r x : Nat) (v : Bool) (w : World) (h0 : 0 ≤ i) (h1 : i < 8192) (hq : i / 8 = q) (hq9 : (q : Int) < 1024) (hr : i % 8 = r) (hb0 : (blk f)[q]? = some (.int .u8 x)) (hx : x < 256) (hv : ((x / 2 ^ r : Nat) : Int) % 2 = 1 ↔ v = true) :
    Calls Try.prog 11 #[.agg (blk f), .int .i64 i] w fun e w' => e = .returned (.bool v) ∧ Below w.heap.size w w' := by
  have HV := (show Hid _ from hv)
  clear hv
  go_enter Try.func11, Try.ntmps11
  go_wp2
  go_loopw [5, 6] (fun s5 s6 wx => ∃ k : Nat, k ≤ r ∧ s6 = .int .i64 k ∧ s5 = .int .i64 ((x / 2 ^ k : Nat) : Int) ∧ wx = w.alloc (.cells (blk f) 23)) (fun _ s6 _ => 8 - (RowKit.intOf s6).toNat)
  case atStart => exact ⟨0, by omega, rfl, by simp, rfl⟩
  case round =>
    obtain ⟨k, hk, rfl, rfl, rfl⟩ := hrel
    have hle : x / 2 ^ k ≤ x := Nat.div_le_self _ _
    by_cases hk2 : k < r
    · have HN : Hid ((x / 2 ^ k) / 2 = x / 2 ^ (k + 1)) := div_next x k
      generalize x / 2 ^ k = z at *
      have hk3 : (k : Int) < (r : Int) := by omega
      go_wp2
      refine ⟨⟨k + 1, by omega, by go_num, ?_, by first | rfl | trivial⟩, by simp [RowKit.intOf]; omega⟩
      rw [← HN.out]
      go_num
    · have e : k = r := by omega
      rw [← e] at HV
      generalize x / 2 ^ k = z at *
      have hk3 : ¬ (k : Int) < (r : Int) := by omega
      clear e
      go_wp2
      go_ret
      refine ⟨ret_bool ?_, below_new _ _⟩
      rw [Bool.eq_iff_iff, ← HV.out]
      simp
theorem refHas_in (f : Nat → Int) (hf : Byte f) (i : Nat) (w : World) (hi : i < 8192) :
    Calls Try.prog 11 #[.agg (blk f), .int .i64 i] w fun e w' => e = .returned (.bool (bit f i)) ∧ Below w.heap.size w w' := by
  have hx := hf (i / 8)
  obtain ⟨x, hxe⟩ : ∃ x : Nat, f (i / 8) = (x : Int) := ⟨(f (i / 8)).toNat, by omega⟩
  have hb0 := blk_get f (i / 8) (by omega)
  have he := bit_div f i
  rw [hxe] at hb0 he
  rw [Int.toNat_natCast] at he
  exact refHas_in' f i (i / 8) (i % 8) x _ w (by omega) (by omega) (by omega) (by omega) (by omega) hb0 (by omega) (by rw [← he]; simp)
set_option maxRecDepth 20000 in
set_option maxHeartbeats 1000000 in
theorem refHas_out (f : Nat → Int) (i : Int) (w : World) (hk : ¬ (0 ≤ i ∧ i < 8192)) :
    Calls Try.prog 11 #[.agg (blk f), .int .i64 i] w fun e w' => e = .returned (.bool false) ∧ Below w.heap.size w w' := by
  by_cases h : i < 0
  · go_enter Try.func11, Try.ntmps11
    go_wp2
    go_ret
    exact ⟨rfl, below_new _ _⟩
  · have h2 : 8192 ≤ i := by omega
    clear hk
    go_enter Try.func11, Try.ntmps11
    go_wp2
    go_ret
    exact ⟨rfl, below_new _ _⟩
theorem refHas_any (f : Nat → Int) (hf : Byte f) (i : Int) (w : World) :
    Calls Try.prog 11 #[.agg (blk f), .int .i64 i] w fun e w' => e = .returned (.bool (has f i)) ∧ Below w.heap.size w w' := by
  by_cases h : 0 ≤ i ∧ i < 8192
  · obtain ⟨k, rfl⟩ := Int.eq_ofNat_of_zero_le h.1
    rw [has_in f k (by omega)]
    exact refHas_in f hf k w (by omega)
  · rw [has_out f i h]
    exact refHas_out f i w h

theorem tmod_20 (a : Int) : (0 ≤ a ∧ a.tmod 20 = a % 20) ∨ (a < 0 ∧ a.tmod 20 = -((-a) % 20)) := by
  by_cases h : 0 ≤ a
  · exact .inl ⟨h, Int.tmod_eq_emod_of_nonneg h⟩
  · refine .inr ⟨by omega, ?_⟩
    have h1 : a.tmod 20 = -((-a).tmod 20) := by rw [Int.neg_tmod, Int.neg_neg]
    rw [h1, Int.tmod_eq_emod_of_nonneg (by omega)]
set_option maxHeartbeats 400000 in
theorem pick_any (a : Int) (w : World) :
    Calls Try.prog 18 #[.int .i64 a, .int .i64 20] w fun e w' => e = .returned (.int .i64 (a % 20)) ∧ w' = w := by
  have ht := tmod_20 a
  have HN : Hid (a.tmod 20 < 0 → a.tmod 20 + 20 = a % 20) := show _ → _ by omega
  have HP : Hid (0 ≤ a.tmod 20 → a.tmod 20 = a % 20) := show _ → _ by omega
  have h1 : -20 < a.tmod 20 := by omega
  have h2 : a.tmod 20 < 20 := by omega
  clear ht
  by_cases h : a.tmod 20 < 0
  · go_enter Try.func18, Try.ntmps18
    go_wp2
    go_ret
    exact ⟨ret_int (HN.out h), rfl⟩
  · go_enter Try.func18, Try.ntmps18
    go_wp2
    go_ret
    exact ⟨ret_int (HP.out (by omega)), rfl⟩
end Go.Proofs.Ytplgelhfombhkaa
