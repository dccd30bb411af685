/- The small functions of bits: exists, mask, inside, span; the two of math/bits; for every argument that they are called at. -/
import Derived.Test.YtplgelhfombhkaaLater
import Derived.Lib.Strings
import Derived.Lib.Slices
import Derived.Lib.Small
import Derived.Lib.Walk
import Derived.Lib.BitFns
import Derived.Laws.BitsAllLaws
import Derived.Test.YtplgelhfombhkaaMath
namespace Go.Proofs.Ytplgelhfombhkaa
open Go.RowKit

theorem exists_any (a : Int) (w : World) : Calls Try.prog 21 #[.int .i64 a] w fun e w' => e = .returned (.bool (decide (0 ≤ a ∧ a < 8192))) ∧ w' = w := by
  by_cases h0 : 0 ≤ a
  · by_cases h1 : a < 8192
    · go_enter Try.func21, Try.ntmps21
      go_wp2
      go_ret
      exact ⟨by simp [h0, h1], rfl⟩
    · go_enter Try.func21, Try.ntmps21
      go_wp2
      go_ret
      exact ⟨by simp [h1], rfl⟩
  · go_enter Try.func21, Try.ntmps21
    go_wp2
    go_ret
    exact ⟨by simp; omega, rfl⟩

theorem ret_int {k : IntKind} {a b : Int} (h : a = b) : Ending.returned (.int k a) = .returned (.int k b) := by rw [h]
theorem ret_bool {a b : Bool} (h : a = b) : Ending.returned (.bool a) = .returned (.bool b) := by rw [h]
theorem ret_blk {f g : Nat → Int} (h : f = g) : Ending.returned (.agg (blk f)) = .returned (.agg (blk g)) := by rw [h]
theorem wrap_is (y : Int) : wrap64 y = (y + 9223372036854775808) % 18446744073709551616 - 9223372036854775808 := by
  first | rfl | (unfold wrap64; omega)
set_option maxRecDepth 20000 in
theorem tz_any (x : Int) (w : World) (h0 : 0 ≤ x) (h1 : x ≤ 255) :
    Calls Try.prog 25 #[.int .u8 x] w fun e w' => e = .returned (.int .i64 (Lib.trailingZeros8 x.toNat)) ∧ w' = w := by
  go_enter Try.func25, Try.ntmps25
  go_wp2
  go_ret
  exact ⟨ret_int ((wrap_is _).trans (Lib.ntz8_int x h0 h1)), rfl⟩
set_option maxRecDepth 20000 in
theorem pop_any (x : Int) (w : World) (h0 : 0 ≤ x) (h1 : x ≤ 255) :
    Calls Try.prog 26 #[.int .u8 x] w fun e w' => e = .returned (.int .i64 (Lib.onesCount x.toNat)) ∧ w' = w := by
  go_enter Try.func26, Try.ntmps26
  go_wp2
  go_ret
  exact ⟨ret_int ((wrap_is _).trans (Lib.pop8_int x h0 h1)), rfl⟩

theorem mask_any (k : Nat) (w : World) (hk : k < 8192) :
    Calls Try.prog 22 #[.int .i64 k] w fun e w' => e = .returned (.int .u8 (mskV k)) ∧ w' = w := by
  unfold mskV
  go_enter Try.func22, Try.ntmps22
  go_wp2
  go_ret
  refine ⟨ret_int ?_, rfl⟩
  have h := pow_lt (k % 8) (by omega)
  have e : ((2 ^ (k % 8) : Nat) : Int) = (2 : Int) ^ (k % 8) := Int.natCast_pow _ _
  rw [← e]
  generalize 2 ^ (k % 8) = p at h
  omega
theorem inside_any (a : Int) (w : World) :
    Calls Try.prog 23 #[.int .i64 a] w fun e w' => e = .returned (.int .i64 (ins a)) ∧ w' = w := by
  rw [ins_int]
  go_enter Try.func23, Try.ntmps23
  go_wp2
  go_ret
  exact ⟨rfl, rfl⟩
theorem span_int (k a b : Nat) (h3 : 8 * k < b) : bits BinOp.and IntKind.u8 (255 * 2 ^ (max 0 ((a : Int) - 8 * k)).toNat % 256) (255 / 2 ^ (8 - min 8 ((b : Int) - 8 * k)).toNat) = ((spanV k a b : Nat) : Int) := by
  have e1 : (max 0 ((a : Int) - 8 * k)).toNat = a - 8 * k := by omega
  have e2 : (8 - min 8 ((b : Int) - 8 * k)).toNat = 8 - min 8 (b - 8 * k) := by omega
  rw [e1, e2]
  have e3 : (255 * 2 ^ (a - 8 * k) % 256 : Int) = ((255 * 2 ^ (a - 8 * k) % 256 : Nat) : Int) := by rw [Int.natCast_emod, Int.natCast_mul, Int.natCast_pow]; rfl
  have e4 : (255 / 2 ^ (8 - min 8 (b - 8 * k)) : Int) = ((255 / 2 ^ (8 - min 8 (b - 8 * k)) : Nat) : Int) := by rw [Int.natCast_ediv, Int.natCast_pow]; rfl
  rw [e3, e4, u8_and_nat _ _ (Nat.mod_lt _ (by decide)) (Nat.lt_of_le_of_lt (Nat.div_le_self _ _) (by decide))]
  rfl
theorem span_any (k a b : Nat) (w : World) (h0 : a ≤ 8192) (h1 : b ≤ 8192) (h2 : a / 8 ≤ k) (h3 : 8 * k < b) :
    Calls Try.prog 24 #[.int .i64 k, .int .i64 a, .int .i64 b] w fun e w' => e = .returned (.int .u8 (spanV k a b : Nat)) ∧ ∃ d, w' = w.drewN d := by
  rw [← span_int k a b h3]
  go_enter Try.func24, Try.ntmps24
  go_wp2
  go_quiet (fail)
  go_wp2
  go_ret
  exact ⟨rfl, _, rfl⟩

theorem and_mask (f : Nat → Int) (hf : Byte f) (k : Nat) : (bits BinOp.and IntKind.u8 (f (k / 8)) (mskV k) != 0) = bit f k := by
  unfold mskV
  have h := hf (k / 8)
  have hm := pow_lt (k % 8) (by omega)
  unfold bit
  rw [← and_ne]
  generalize 2 ^ (k % 8) = p at hm
  rw [u8_and _ _ (by omega) (by omega) (by omega) (by omega), Int.toNat_natCast]
  rw [Bool.eq_iff_iff]
  simp only [bne_iff_ne, ne_eq]
  omega
set_option maxRecDepth 20000 in
set_option maxHeartbeats 400000 in
theorem has_inW (f : Nat → Int) (hf : Byte f) (k : Nat) (w : World) (hk : k < 8192) :
    Calls Try.prog 10 #[.agg (blk f), .int .i64 k] w fun e w' => e = .returned (.bool (bit f k)) ∧ Below w.heap.size w w' := by
  have hb0 := blk_get f (k / 8) (by omega)
  rw [← and_mask f hf k]
  have HF : Hid (Byte f) := hf
  clear hf
  have hd : decide (0 ≤ (k : Int) ∧ (k : Int) < 8192) = true := decide_eq_true (by omega)
  have hex := fun w => exists_any (k : Int) w
  rw [hd] at hex
  go_enter Try.func10, Try.ntmps10
  go_wp2
  go_quiet (first | (go_at_call 21; exact (hex _).mono fun _ _ h => ⟨h.1, ⟨_, h.2⟩⟩) | (go_at_call 22; exact (mask_any k _ hk).mono fun _ _ h => ⟨h.1, ⟨_, h.2⟩⟩))
  go_wp2
  go_ret
  exact ⟨rfl, below_drewN ((Below.refl _ _).alloc (Nat.le_refl _) _) _⟩
end Go.Proofs.Ytplgelhfombhkaa
