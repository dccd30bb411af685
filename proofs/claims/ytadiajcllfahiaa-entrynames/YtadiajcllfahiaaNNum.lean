/- Numbers of some bytes, the lowest first: read and laid, as plain functions; the bytes are 0 to 255. -/
import Derived.Test.YtadiajcllfahiaaNPlain
import Derived.Laws.BitsLemmas
namespace Go.Proofs.YtadiajcllfahiaaN
open Go.RowKit

/-- The number of m bytes from place k on. -/
def numN (f : Nat → Int) (k : Nat) : Nat → Int
  | 0 => 0
  | m + 1 => f k + 256 * numN f (k + 1) m
/-- The number of n bytes from at on, if all are inside. -/
def num (f : Nat → Int) (at' : Int) (n : Nat) : Int := if 0 ≤ at' ∧ at' ≤ 1024 - (n : Int) then numN f at'.toNat n else 0
/-- f with m bytes of v laid from place k on. -/
def putN (f : Nat → Int) (k : Nat) (v : Int) : Nat → Nat → Int
  | 0 => f
  | m + 1 => putN (upd f k (v % 256)) (k + 1) (v / 256) m
def put (f : Nat → Int) (at' : Int) (n : Nat) (v : Int) : Nat → Int := if 0 ≤ at' ∧ at' ≤ 1024 - (n : Int) then putN f at'.toNat v n else f

theorem numN_bd (f : Nat → Int) (hf : ∀ i, 0 ≤ f i ∧ f i ≤ 255) : ∀ (m k : Nat), 0 ≤ numN f k m ∧ numN f k m < 256 ^ m
  | 0, _ => by simp [numN]
  | m + 1, k => by
    have h1 := numN_bd f hf m (k + 1)
    have h2 := hf k
    simp only [numN, Int.pow_succ]
    omega
theorem num2 (f : Nat → Int) (k : Nat) : numN f k 2 = f k + 256 * f (k + 1) := by simp [numN]
theorem num4 (f : Nat → Int) (k : Nat) : numN f k 4 = f k + 256 * f (k + 1) + 65536 * f (k + 2) + 16777216 * f (k + 3) := by
  simp only [numN, Nat.add_assoc, Nat.reduceAdd]; omega
theorem num_in (f : Nat → Int) (k n : Nat) (h : k + n ≤ 1024) : num f (k : Int) n = numN f k n := by
  unfold num; rw [if_pos (by omega), Int.toNat_natCast]
theorem num_out (f : Nat → Int) (a : Int) (n : Nat) (h : a < 0 ∨ 1024 - (n : Int) < a) : num f a n = 0 := by
  unfold num; rw [if_neg (by omega)]
theorem put_in (f : Nat → Int) (k n : Nat) (v : Int) (h : k + n ≤ 1024) : put f (k : Int) n v = putN f k v n := by
  unfold put; rw [if_pos (by omega), Int.toNat_natCast]
theorem put_out (f : Nat → Int) (a : Int) (n : Nat) (v : Int) (h : a < 0 ∨ 1024 - (n : Int) < a) : put f a n v = f := by
  unfold put; rw [if_neg (by omega)]
theorem put2 (f : Nat → Int) (k : Nat) (v : Int) (hv : 0 ≤ v ∧ v < 65536) : putN f k v 2 = upd (upd f k (v % 256)) (k + 1) (v / 256) := by
  simp only [putN]
  rw [show v / 256 % 256 = v / 256 by omega]
theorem put4 (f : Nat → Int) (k : Nat) (v : Int) (hv : 0 ≤ v ∧ v < 4294967296) : putN f k v 4 = upd (upd (upd (upd f k (v % 256)) (k + 1) (v / 256 % 256)) (k + 2) (v / 65536 % 256)) (k + 3) (v / 16777216) := by
  simp only [putN, Nat.add_assoc, Nat.reduceAdd]
  rw [show v / 256 / 256 % 256 = v / 65536 % 256 by omega, show v / 256 / 256 / 256 % 256 = v / 16777216 by omega]
theorem num_bd (f : Nat → Int) (hf : ∀ i, 0 ≤ f i ∧ f i ≤ 255) (a : Int) (n : Nat) : 0 ≤ num f a n ∧ num f a n < 256 ^ n := by
  unfold num
  split
  · exact numN_bd f hf _ _
  · exact ⟨Int.le_refl _, Int.pow_pos (by decide)⟩

theorem wrap_u8 (n : Int) : IntKind.u8.wrap n = n % 256 := by simp [IntKind.wrap, IntKind.bits, IntKind.signed]
theorem wrap_u16 (n : Int) : IntKind.u16.wrap n = n % 65536 := by simp [IntKind.wrap, IntKind.bits, IntKind.signed]
theorem wrap_u32 (n : Int) : IntKind.u32.wrap n = n % 4294967296 := by simp [IntKind.wrap, IntKind.bits, IntKind.signed]

theorem or_comm' (k : IntKind) (x y : Int) : bits .or k x y = bits .or k y x := by simp only [bits, BitVec.or_comm]
theorem or16 (a b : Int) (ha : 0 ≤ a ∧ a ≤ 255) (hb : 0 ≤ b ∧ b ≤ 255) : bits .or .u16 (IntKind.u16.wrap a) (IntKind.u16.wrap (IntKind.u16.wrap b * 256)) = a + 256 * b := by
  simp only [wrap_u16]
  have h1 : a % 65536 = a := by omega
  have h2 : b % 65536 * 256 % 65536 = 256 * b := by omega
  rw [h1, h2, or_comm', bits_join .u16 16 (by decide) (fun n h0 h1 => by rw [wrap_u16]; omega) 8 (256 * b) a (by omega) (by omega) (by omega) (by omega) (by omega) (by omega)]
  omega
theorem or32 (i : Nat) (x y : Int) (hx0 : 0 ≤ x) (hx : x % 2 ^ i = 0) (hx1 : x < 2 ^ 32) (hy0 : 0 ≤ y) (hy : y < 2 ^ i) (hy1 : y < 2 ^ 32) : bits .or .u32 y x = y + x := by
  rw [or_comm', bits_join .u32 32 (by decide) (fun n h0 h1 => by rw [wrap_u32]; omega) i x y hx0 hx hx1 hy0 hy hy1]
  omega
theorem or32all (a b c d : Int) (ha : 0 ≤ a ∧ a ≤ 255) (hb : 0 ≤ b ∧ b ≤ 255) (hc : 0 ≤ c ∧ c ≤ 255) (hd : 0 ≤ d ∧ d ≤ 255) :
    bits .or .u32 (bits .or .u32 (bits .or .u32 (IntKind.u32.wrap a) (IntKind.u32.wrap (IntKind.u32.wrap b * 256))) (IntKind.u32.wrap (IntKind.u32.wrap c * 65536))) (IntKind.u32.wrap (IntKind.u32.wrap d * 16777216)) = a + 256 * b + 65536 * c + 16777216 * d := by
  simp only [wrap_u32]
  have h1 : a % 4294967296 = a := by omega
  have h2 : b % 4294967296 * 256 % 4294967296 = 256 * b := by omega
  have h3 : c % 4294967296 * 65536 % 4294967296 = 65536 * c := by omega
  have h4 : d % 4294967296 * 16777216 % 4294967296 = 16777216 * d := by omega
  rw [h1, h2, h3, h4, or32 8 (256 * b) a (by omega) (by omega) (by omega) (by omega) (by omega) (by omega),
    or32 16 (65536 * c) (a + 256 * b) (by omega) (by omega) (by omega) (by omega) (by omega) (by omega),
    or32 24 (16777216 * d) (a + 256 * b + 65536 * c) (by omega) (by omega) (by omega) (by omega) (by omega) (by omega)]
end Go.Proofs.YtadiajcllfahiaaN
