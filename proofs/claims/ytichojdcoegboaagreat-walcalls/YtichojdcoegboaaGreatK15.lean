/- Several texts joined: the log, its cache and its disk, of the program and of the document; no condition. -/
import Derived.Test.YtichojdcoegboaaGreatK1
import Derived.Laws.BitsLemmas
import Derived.BigQuiet
namespace Go.Proofs.YtichojdcoegboaaGreatW.H
open Go.RowKit
def numN (f : Nat → Int) (k : Nat) : Nat → Int
 | 0 => 0
 | m + 1 => f k + 256 * numN f (k + 1) m
def num (f : Nat → Int) (at' : Int) (n : Nat) : Int := if 0 ≤ at' ∧ at' ≤ 1024 - (n : Int) then numN f at'.toNat n else 0
def putN (f : Nat → Int) (k : Nat) (v : Int) : Nat → Nat → Int
 | 0 => f
 | m + 1 => putN (upd f k (v % 256)) (k + 1) (v / 256) m
def put (f : Nat → Int) (at' : Int) (n : Nat) (v : Int) : Nat → Int := if 0 ≤ at' ∧ at' ≤ 1024 - (n : Int) then putN f at'.toNat v n else f
theorem numN_bd (f : Nat → Int) (hf : ∀ i, 0 ≤ f i ∧ f i ≤ 255) : ∀ (m k : Nat), 0 ≤ numN f k m ∧ numN f k m < 256 ^ m
 | 0, _ => by simp [numN]
 | m + 1, k => by
  have h1 := numN_bd f hf m (k + 1)
  have h2 := hf k
  simp only [numN, Int.pow_succ]
  omega
theorem num4 (f : Nat → Int) (k : Nat) : numN f k 4 = f k + 256 * f (k + 1) + 65536 * f (k + 2) + 16777216 * f (k + 3) := by
 simp only [numN, Nat.add_assoc, Nat.reduceAdd]; omega
theorem num_in (f : Nat → Int) (k n : Nat) (h : k + n ≤ 1024) : num f (k : Int) n = numN f k n := by
 unfold num; rw [if_pos (by omega), Int.toNat_natCast]
theorem num_out (f : Nat → Int) (a : Int) (n : Nat) (h : a < 0 ∨ 1024 - (n : Int) < a) : num f a n = 0 := by
 unfold num; rw [if_neg (by omega)]
theorem put_in (f : Nat → Int) (k n : Nat) (v : Int) (h : k + n ≤ 1024) : put f (k : Int) n v = putN f k v n := by
 unfold put; rw [if_pos (by omega), Int.toNat_natCast]
theorem put_out (f : Nat → Int) (a : Int) (n : Nat) (v : Int) (h : a < 0 ∨ 1024 - (n : Int) < a) : put f a n v = f := by
 unfold put; rw [if_neg (by omega)]
theorem put4 (f : Nat → Int) (k : Nat) (v : Int) (hv : 0 ≤ v ∧ v < 4294967296) : putN f k v 4 = upd (upd (upd (upd f k (v % 256)) (k + 1) (v / 256 % 256)) (k + 2) (v / 65536 % 256)) (k + 3) (v / 16777216) := by
 simp only [putN, Nat.add_assoc, Nat.reduceAdd]
 rw [show v / 256 / 256 % 256 = v / 65536 % 256 by omega, show v / 256 / 256 / 256 % 256 = v / 16777216 by omega]
theorem wrap_u32 (n : Int) : IntKind.u32.wrap n = n % 4294967296 := by simp [IntKind.wrap, IntKind.bits, IntKind.signed]
theorem or_comm' (k : IntKind) (x y : Int) : bits .or k x y = bits .or k y x := by simp only [bits, BitVec.or_comm]
theorem or32 (i : Nat) (x y : Int) (hx0 : 0 ≤ x) (hx : x % 2 ^ i = 0) (hx1 : x < 2 ^ 32) (hy0 : 0 ≤ y) (hy : y < 2 ^ i) (hy1 : y < 2 ^ 32) : bits .or .u32 y x = y + x := by
 rw [or_comm', bits_join .u32 32 (by decide) (fun n h0 h1 => by rw [wrap_u32]; omega) i x y hx0 hx hx1 hy0 hy hy1]
 omega
theorem or32all (a b c d : Int) (ha : 0 ≤ a ∧ a ≤ 255) (hb : 0 ≤ b ∧ b ≤ 255) (hc : 0 ≤ c ∧ c ≤ 255) (hd : 0 ≤ d ∧ d ≤ 255) :
  bits .or .u32 (bits .or .u32 (bits .or .u32 (IntKind.u32.wrap a) (IntKind.u32.wrap (IntKind.u32.wrap b * 256))) (IntKind.u32.wrap (IntKind.u32.wrap c * 65536))) (IntKind.u32.wrap (IntKind.u32.wrap d * 16777216)) = a + 256 * b + 65536 * c + 16777216 * d := by
 simp only [wrap_u32]
 have h1 : a % 4294967296 = a := by omega
 have h2 : b % 4294967296 * 256 % 4294967296 = 256 * b := by omega
 have h3 : c % 4294967296 * 65536 % 4294967296 = 65536 * c := by omega
 have h4 : d % 4294967296 * 16777216 % 4294967296 = 16777216 * d := by omega
 rw [h1, h2, h3, h4, or32 8 (256 * b) a (by omega) (by omega) (by omega) (by omega) (by omega) (by omega),
  or32 16 (65536 * c) (a + 256 * b) (by omega) (by omega) (by omega) (by omega) (by omega) (by omega),
  or32 24 (16777216 * d) (a + 256 * b + 65536 * c) (by omega) (by omega) (by omega) (by omega) (by omega) (by omega)]
end Go.Proofs.YtichojdcoegboaaGreatW.H
namespace Go.Proofs.YtichojdcoegboaaGreatW.H
open Go.RowKit
set_option maxHeartbeats 400000 in
theorem fits_any (a n : Int) (w : World) (hn : 0 ≤ n ∧ n ≤ 1024) :
  Calls Tryz.prog 150 #[.int .i64 a, .int .i64 n] w fun e w' => e = .returned (.bool (decide (0 ≤ a ∧ a ≤ 1024 - n))) ∧ w' = w := by
 by_cases h0 : 0 ≤ a
 ·by_cases h1 : a ≤ 1024 - n
  ·go_enter Tryz.func150, Tryz.ntmps150
   go_wp2
   go_ret
   exact ⟨by simp [h0, h1], rfl⟩
  ·go_enter Tryz.func150, Tryz.ntmps150
   go_wp2
   go_ret
   exact ⟨by simp [h1], rfl⟩
 ·go_enter Tryz.func150, Tryz.ntmps150
  go_wp2
  go_ret
  exact ⟨by simp; omega, rfl⟩
theorem fits_yes (a n : Int) (w : World) (hn : 0 ≤ n ∧ n ≤ 1024) (h : 0 ≤ a ∧ a ≤ 1024 - n) :
  Calls Tryz.prog 150 #[.int .i64 a, .int .i64 n] w fun e w' => e = .returned (.bool true) ∧ w' = w := by
 have := fits_any a n w hn
 rwa [decide_eq_true h] at this
theorem fits_no (a n : Int) (w : World) (hn : 0 ≤ n ∧ n ≤ 1024) (h : ¬ (0 ≤ a ∧ a ≤ 1024 - n)) :
  Calls Tryz.prog 150 #[.int .i64 a, .int .i64 n] w fun e w' => e = .returned (.bool false) ∧ w' = w := by
 have := fits_any a n w hn
 rwa [decide_eq_false h] at this
end Go.Proofs.YtichojdcoegboaaGreatW.H
namespace Go.Proofs.YtichojdcoegboaaGreatW.H
open Go.RowKit
theorem ret_int {k : IntKind} {a b : Int} (h : a = b) : Ending.returned (.int k a) = .returned (.int k b) := by rw [h]
set_option maxRecDepth 20000 in
set_option maxHeartbeats 400000 in
theorem u32_in (f : Nat → Int) (k : Nat) (w : World) (hk : (k : Int) ≤ 1020) (hf : ∀ i, 0 ≤ f i ∧ f i ≤ 255) :
  Calls Tryz.prog 130 #[.agg (blk f), .int .i64 k] w fun e w' => e = .returned (.int .u32 (f k + 256 * f (k + 1) + 65536 * f (k + 2) + 16777216 * f (k + 3))) ∧ Below w.heap.size w w' := by
 have hb0 := blk_get f k (by omega)
 have hb1 := blk_get f (k + 1) (by omega)
 have hb2 := blk_get f (k + 2) (by omega)
 have hb3 := blk_get f (k + 3) (by omega)
 go_enter Tryz.func130, Tryz.ntmps130
 go_wp2
 go_quiet (fail)
 go_wp2
 go_ret
 exact ⟨ret_int (or32all _ _ _ _ (hf k) (hf (k + 1)) (hf (k + 2)) (hf (k + 3))), below_drewN ((Below.refl _ _).alloc (Nat.le_refl _) _) _⟩
set_option maxRecDepth 20000 in
set_option maxHeartbeats 400000 in
theorem u32_out (f : Nat → Int) (k : Int) (w : World) (hk : k < 0 ∨ 1020 < k) :
  Calls Tryz.prog 130 #[.agg (blk f), .int .i64 k] w fun e w' => e = .returned (.int .u32 0) ∧ Below w.heap.size w w' := by
 rcases hk with hk | hk
 ·have hk' : ¬ (0 ≤ k) := by omega
  go_enter Tryz.func130, Tryz.ntmps130
  go_wp2
  go_ret
  exact ⟨rfl, (Below.refl _ _).alloc (Nat.le_refl _) _⟩
 ·have hk' : ¬ (k ≤ 1020) := by omega
  have hk0 : 0 ≤ k := by omega
  go_enter Tryz.func130, Tryz.ntmps130
  go_wp2
  go_ret
  exact ⟨rfl, (Below.refl _ _).alloc (Nat.le_refl _) _⟩
theorem u32_any (f : Nat → Int) (k : Int) (w : World) (hf : ∀ i, 0 ≤ f i ∧ f i ≤ 255) :
  Calls Tryz.prog 130 #[.agg (blk f), .int .i64 k] w fun e w' => e = .returned (.int .u32 (num f k 4)) ∧ Below w.heap.size w w' := by
 by_cases h : k < 0 ∨ 1020 < k
 ·rw [num_out f k 4 (by omega)]; exact u32_out f k w h
 ·obtain ⟨m, rfl⟩ := Int.eq_ofNat_of_zero_le (show 0 ≤ k by omega)
  rw [num_in f m 4 (by omega), num4]; exact u32_in f m w (by omega) hf
end Go.Proofs.YtichojdcoegboaaGreatW.H
namespace Go.Proofs.YtichojdcoegboaaGreatW.H
open Go.RowKit
theorem ret_blk {f g : Nat → Int} (h : f = g) : Ending.returned (.agg (blk f)) = .returned (.agg (blk g)) := by rw [h]
set_option maxRecDepth 20000 in
set_option maxHeartbeats 400000 in
theorem set32_in (f : Nat → Int) (k : Nat) (v : Int) (w : World) (hk : (k : Int) ≤ 1020) (hv : 0 ≤ v ∧ v < 4294967296) :
  Calls Tryz.prog 128 #[.agg (blk f), .int .i64 k, .int .u32 v] w fun e w' => e = .returned (.agg (blk (putN f k v 4))) ∧ Below w.heap.size w w' := by
 have z25 := zero25
 have hb0 := fun g => blk_get g (k) (by omega)
 have hb1 := fun g => blk_get g (k + 1) (by omega)
 have hb2 := fun g => blk_get g (k + 2) (by omega)
 have hb3 := fun g => blk_get g (k + 3) (by omega)
 have hset := blk_set
 go_enter Tryz.func128, Tryz.ntmps128
 go_wp2_with (first | (go_at_call 150; refine (fits_yes _ _ _ (by omega) (by omega)).mono ?_; rintro e w' ⟨rfl, rfl⟩) | refine wpList_load25 rfl _ rfl _ rfl _ (heap_alloc2_old _ _ _) ?_ | refine wpList_store25 rfl _ _ rfl _ _ rfl rfl _ (heap_alloc2_new _ _ _) ?_)
 exact ret25 rfl (w.heap.size + 1) _ rfl (setRow_heap _ _ _ _ _ _ (heap_alloc2_new _ _ _)) rfl ⟨ret_blk (put4 f k v hv).symm, below2 _ _ _ _ (by omega) _⟩
set_option maxRecDepth 20000 in
set_option maxHeartbeats 400000 in
theorem set32_out (f : Nat → Int) (k : Int) (v : Int) (w : World) (hk : ¬ (0 ≤ k ∧ k ≤ 1024 - 4)) :
  Calls Tryz.prog 128 #[.agg (blk f), .int .i64 k, .int .u32 v] w fun e w' => e = .returned (.agg (blk f)) ∧ Below w.heap.size w w' := by
 have z25 := zero25
 have HK : Hid (¬ (0 ≤ k ∧ k ≤ 1024 - 4)) := hk
 clear hk
 go_enter Tryz.func128, Tryz.ntmps128
 go_wp2_with (first | (go_at_call 150; refine (fits_no _ _ _ (by omega) HK.out).mono ?_; rintro e w' ⟨rfl, rfl⟩) | refine wpList_load25 rfl _ rfl _ rfl _ (heap_alloc2_old _ _ _) ?_ | refine wpList_store25 rfl _ _ rfl _ _ rfl rfl _ (heap_alloc2_new _ _ _) ?_)
 exact ret25 rfl (w.heap.size + 1) _ rfl (setRow_heap _ _ _ _ _ _ (heap_alloc2_new _ _ _)) rfl ⟨rfl, below2 _ _ _ _ (by omega) _⟩
theorem set32_any (f : Nat → Int) (k : Int) (v : Int) (w : World) (hv : 0 ≤ v ∧ v < 4294967296) :
  Calls Tryz.prog 128 #[.agg (blk f), .int .i64 k, .int .u32 v] w fun e w' => e = .returned (.agg (blk (put f k 4 v))) ∧ Below w.heap.size w w' := by
 by_cases h : 0 ≤ k ∧ k ≤ 1024 - 4
 ·obtain ⟨m, rfl⟩ := Int.eq_ofNat_of_zero_le h.1
  rw [put_in f m 4 v (by omega)]; exact set32_in f m v w (by omega) hv
 ·rw [put_out f k 4 v (by omega)]; exact set32_out f k v w h
end Go.Proofs.YtichojdcoegboaaGreatW.H
