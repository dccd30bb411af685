/- Several texts joined, each with its own remark; no condition. -/
import Derived.Test.YtiejhjngcnkimaaGreatRK26
import Derived.StillTailTactics
import Derived.Laws.BitsLemmas
import Derived.BigQuiet
import Derived.Laws.ResultCell
import Derived.OrdersHeld
import Derived.WalkKit
import Derived.Deep.MidRow
import Derived.Laws.Cover3
/- Piece of slab: some bytes of a block, those that are inside, in memory of their own; for every block, place and number. -/
namespace Go.Proofs.YtiejhjngcnkimaaGreatRN
open Go.RowKit
theorem ins_lo_lt (a n : Int) : insLo a n < 1024 := by unfold insLo; split <;> omega
theorem slice25 (g lo hi : Nat) (h1 : lo ≤ hi) (h2 : hi ≤ 1024) (h3 : lo < 1024) (u : World) :
    (Instr.sliceAt 85 (.pointer (some ⟨g, 0, none⟩)) (some (.int .i64 (lo : Int))) (some (.int .i64 (hi : Int))) none).run Tryz.prog u = .ok (.slice (some ⟨g, lo, none⟩) (hi - lo) (1024 - lo)) u := by
  have hn : ¬ ((1024 : Nat) = lo) := by omega
  have ea : Tryz.prog.arrayLen 85 = 1024 := by kernel_rfl
  have ee : Tryz.prog.elem 85 = 5 := by kernel_rfl
  have h := run_sliceAt_array_lh (P := Tryz.prog) u 85 ⟨g, 0, none⟩ (by rw [ea, ee]; exact Tryz.underlying85) .i64 .i64 (lo : Int) (hi : Int) (by omega) (by omega) (by rw [ea]; omega)
  rw [h, ea, ee]
  simp [Tryz.sizeOf5, slicedAt, hn, Addr.add]
  intro h0; exact h0.symm
def from' (f : Nat → Int) (lo : Nat) : Nat → Int := fun i => f (lo + i)
set_option maxRecDepth 20000 in
set_option maxHeartbeats 400000 in
theorem piece_any (f : Nat → Int) (k n : Int) (w : World) (ha : -9223372036854775808 ≤ k ∧ k ≤ 9223372036854775807) (hn : -9223372036854775808 ≤ n ∧ n ≤ 9223372036854775807) :
    Calls Tryz.prog 218 #[.agg (blk f), .int .i64 k, .int .i64 n] w fun e w' => e = .returned (.slice (some ⟨w.heap.size + 1, 0, none⟩) (insHi k n - insLo k n) (insHi k n - insLo k n)) ∧
      w'.heap[w.heap.size + 1]? = some (.cells (rowA (from' f (insLo k n)) (insHi k n - insLo k n)) 5) ∧ w'.heap.size = w.heap.size + 2 ∧ Below w.heap.size w w' := by
  obtain ⟨i0, hi0, hz0, hz1, hz2⟩ := info_parts info5
  have hle := ins_le k n
  have hlo := ins_lo_lt k n
  have hcl := slabInside_any k n
  generalize insLo k n = lo at *
  generalize insHi k n = hi at *
  obtain ⟨hl1, hl2⟩ := hle
  have hmk : ∀ u : World, (Instr.makeSlice 88 (.int .i64 ((hi : Int) - (lo : Int))) (.int .i64 ((hi : Int) - (lo : Int)))).run Tryz.prog u =
      .ok (.slice (some ⟨u.heap.size, 0, none⟩) (hi - lo) (hi - lo)) (u.alloc (.cells (rowA nought (hi - lo)) 5)) := fun u => by
    have h := run_make (P := Tryz.prog) u 88 5 i0 (.int .u8 0) Tryz.underlying88 hi0 hz0 .i64 .i64 ((hi : Int) - (lo : Int)) ((hi : Int) - (lo : Int)) (by omega) (Int.le_refl _) (by rw [hz2]; omega) (by omega)
    rw [show ((hi : Int) - (lo : Int)).toNat = hi - lo by omega] at h
    simpa [hz1, Value.cells, made_row] using h
  clear hi0 hz0 hz1 hz2
  have hsl := slice25 w.heap.size lo hi hl1 hl2 hlo
  have hsrc : ∀ j, j < hi - lo → ((w.alloc (.cells (blk f) 85)).alloc (.cells (rowA nought (hi - lo)) 5)).cell? ⟨w.heap.size, lo + j, none⟩ = some (.int .u8 (from' f lo j)) := fun j hj =>
    cell_row (f := f) (m := 1024) (heap_alloc2_old _ _ _) (lo + j) (by omega)
  have HS : Hid (∀ j, j < hi - lo → ((w.alloc (.cells (blk f) 85)).alloc (.cells (rowA nought (hi - lo)) 5)).cell? ⟨w.heap.size, lo + j, none⟩ = some (.int .u8 (from' f lo j))) := hsrc
  have hov : rowA (over nought 0 (hi - lo) (from' f lo)) (hi - lo) = rowA (from' f lo) (hi - lo) := rowA_congr fun i hi => by unfold over; rw [if_pos (by omega), Nat.sub_zero]
  have HO : Hid (rowA (over nought 0 (hi - lo) (from' f lo)) (hi - lo) = rowA (from' f lo) (hi - lo)) := hov
  clear hsrc hov
  go_enter Tryz.func218, Tryz.ntmps218
  go_wp2_with fail
  refine (hcl _ ha hn).mono ?_
  rintro e w1 ⟨rfl, rfl⟩
  clear hcl
  go_wp2_with (first | refine wpList_copy5 rfl _ _ rfl _ _ _ _ _ _ _ _ rfl rfl nought (hi - lo) 5 (heap_alloc2_new _ _ _) (from' f lo) (hi - lo) (Nat.min_self _).symm HS.out (by omega) ?_)
  go_ret
  refine ⟨rfl, ?_, by simp, below2 _ _ _ _ (by omega) _⟩
  rw [← HO.out]
  exact setRow_heap _ _ _ _ _ _ (heap_alloc2_new _ _ _)
end Go.Proofs.YtiejhjngcnkimaaGreatRN
/- Lay of slab: bytes laid into a block, those that come to lie inside; for every block, place and bytes. -/
namespace Go.Proofs.YtiejhjngcnkimaaGreatRN
open Go.RowKit
def layF (f : Nat → Int) (a : Int) (n : Nat) (q : Nat → Int) : Nat → Int := fun j => if a ≤ (j : Int) ∧ (j : Int) - a < (n : Int) then q ((j : Int) - a).toNat else f j
theorem lay_none (f : Nat → Int) (k : Int) (n : Nat) (q : Nat → Int) (h : ¬ insLo k n < insHi k n) : blk f = blk (layF f k n q) := blk_congr fun i hi => by
  unfold layF
  have := ins_iff k n i hi
  rw [if_neg (by omega)]
theorem lay_some (f : Nat → Int) (k : Int) (n : Nat) (q : Nat → Int) (h : insLo k n < insHi k n) :
    rowA (over f (insLo k n) (insHi k n - insLo k n) (from' q ((insLo k n : Int) - k).toNat)) 1024 = blk (layF f k n q) := rowA_congr fun i hi => by
  unfold over layF from'
  have h1 := ins_iff k n i hi
  have h2 := ins_lo k n h
  by_cases h3 : insLo k n ≤ i ∧ i < insHi k n
  · rw [if_pos (by omega), if_pos (h1.1 h3)]
    congr 1
    omega
  · rw [if_neg (by omega), if_neg (by omega)]
set_option maxRecDepth 20000 in
set_option maxHeartbeats 400000 in
theorem lay_skip (f : Nat → Int) (k : Int) (a : Option Addr) (n cap : Nat) (q : Nat → Int) (w : World) (ha : -9223372036854775808 ≤ k ∧ k ≤ 9223372036854775807) (hn : n ≤ 9223372036854775807) (h : ¬ insLo k n < insHi k n) :
    Calls Tryz.prog 149 #[.agg (blk f), .int .i64 k, .slice a n cap] w fun e w' => e = .returned (.agg (blk (layF f k n q))) ∧ Below w.heap.size w w' := by
  have HF : Hid (blk f = blk (layF f k n q)) := lay_none f k n q h
  have hcl := slabInside_any k n
  have z25 := zero25
  generalize insLo k n = lo at *
  generalize insHi k n = hi at *
  have h' : ¬ ((lo : Int) < (hi : Int)) := by omega
  clear h
  go_enter Tryz.func149, Tryz.ntmps149
  go_wp2_with fail
  refine (hcl _ ha (by omega)).mono ?_
  rintro e w1 ⟨rfl, rfl⟩
  clear hcl
  go_wp2_with (first | refine wpList_load25 rfl _ rfl _ rfl _ (heap_alloc2_old _ _ _) ?_ | refine wpList_store25 rfl _ _ rfl _ _ rfl rfl _ (heap_alloc2_new _ _ _) ?_)
  exact ret25 rfl (w.heap.size + 1) _ rfl (setRow_heap _ _ _ _ _ _ (heap_alloc2_new _ _ _)) rfl ⟨by rw [HF.out], below2 _ _ _ _ (by omega) _⟩
set_option maxRecDepth 20000 in
set_option maxHeartbeats 400000 in
theorem lay_copy (f : Nat → Int) (k : Int) (b off n cap : Nat) (q : Nat → Int) (w : World) (ha : -9223372036854775808 ≤ k ∧ k ≤ 9223372036854775807) (hn : n ≤ 9223372036854775807) (hcap : n ≤ cap)
    (hb : b < w.heap.size) (hc : ∀ i, i < n → w.cell? ⟨b, off + i, none⟩ = some (.int .u8 (q i))) (h : insLo k n < insHi k n) :
    Calls Tryz.prog 149 #[.agg (blk f), .int .i64 k, .slice (some ⟨b, off, none⟩) n cap] w fun e w' => e = .returned (.agg (blk (layF f k n q))) ∧ Below w.heap.size w w' := by
  have hle := ins_le k n
  have hlo := ins_lo_lt k n
  have hlk := ins_lo k n h
  have HF : Hid (rowA (over f (insLo k n) (insHi k n - insLo k n) (from' q ((insLo k n : Int) - k).toNat)) 1024 = blk (layF f k n q)) := lay_some f k n q h
  have hcl := slabInside_any k n
  have z25 := zero25
  generalize insLo k n = lo at *
  generalize insHi k n = hi at *
  obtain ⟨l, hl⟩ : ∃ l : Nat, (lo : Int) - k = (l : Int) := ⟨((lo : Int) - k).toNat, by omega⟩
  have hlt : ((lo : Int) - k).toNat = l := by omega
  rw [hlt] at HF
  have h' : ((lo : Int) < (hi : Int)) := by omega
  have hsl := slice25 w.heap.size lo hi hle.1 hle.2 hlo
  have hln : l < n := by omega
  have hwr : IntKind.i64.wrap ((lo : Int) - k) = (l : Int) := by rw [IntKind.wrap_i64]; omega
  have hln' : (l : Int) ≤ (n : Int) := by omega
  have hcp : ¬ cap = l := by omega
  have hsrc : ∀ j, j < hi - lo → ((w.alloc (.cells (blk f) 85)).alloc (.cells (blk nought) 85)).drew.cell? ⟨b, off + l + j, none⟩ = some (.int .u8 (from' q l j)) := fun j hj => by
    have h1 := hc (l + j) (by omega)
    rw [← Nat.add_assoc] at h1
    exact ((((Below.refl w.heap.size w).alloc (Nat.le_refl _) (.cells (blk f) 85)).alloc (by simp) (.cells (blk nought) 85)).cell (p := ⟨b, off + l + j, none⟩) hb).trans h1
  have HS : Hid (∀ j, j < hi - lo → ((w.alloc (.cells (blk f) 85)).alloc (.cells (blk nought) 85)).drew.cell? ⟨b, off + l + j, none⟩ = some (.int .u8 (from' q l j))) := hsrc
  have HB : Hid (((w.alloc (.cells (blk f) 85)).alloc (.cells (blk nought) 85)).drew.heap[w.heap.size]? = some (.cells (rowA f 1024) 85)) := heap_alloc2_old _ _ _
  have hE : lo + (hi - lo) ≤ 1024 := by omega
  have HE : Hid (lo + (hi - lo) ≤ 1024) := hE
  clear hE
  have HN : Hid (hi - lo = Nat.min (n - l) (hi - lo)) := show _ = _ from (Nat.min_eq_right (by omega)).symm
  clear hc hsrc hlt h hlo hln
  clear hl
  go_enter Tryz.func149, Tryz.ntmps149
  go_wp2_with fail
  refine (hcl _ ha (by omega)).mono ?_
  rintro e w1 ⟨rfl, rfl⟩
  clear hcl
  go_wp2
  go_still_tail 8, (by kernel_rfl)
  change wpList _ _ _ _ _ (World.drew _)
  refine wpList_copy5 rfl (.tmp 21) (.tmp 26) rfl w.heap.size lo (hi - lo) (1024 - lo) b (off + l) (n - l) (cap - l) rfl rfl f 1024 85 HB.out (from' q l) (hi - lo) HN.out HS.out HE.out ?_
  rw [HF.out]
  have h1 := setRow_heap _ w.heap.size (rowA f 1024) (blk (layF f k n q)) 85 (0, 0) HB.out
  have h2 : (((w.alloc (.cells (blk f) 85)).alloc (.cells (blk nought) 85)).drew.setRow w.heap.size (blk (layF f k n q))).heap[w.heap.size + 1]? = some (.cells (blk nought) 85) :=
    (setRow_other _ _ _ _ (by omega)).trans (heap_alloc2_new _ _ _)
  have h3 : Below w.heap.size w (((w.alloc (.cells (blk f) 85)).alloc (.cells (blk nought) 85)).drew.setRow w.heap.size (blk (layF f k n q))) :=
    below_setRow (((Below.refl _ _).alloc (Nat.le_refl _) _).alloc (by simp) _).drew (Nat.le_refl _) _
  generalize ((w.alloc (.cells (blk f) 85)).alloc (.cells (blk nought) 85)).drew.setRow w.heap.size (blk (layF f k n q)) = W at h1 h2 h3 ⊢
  clear HB HS HF hsl
  simp only [Act.put, List.setIfInBounds_toArray, List.set_cons_succ, List.set_cons_zero]
  go_wp2_with (first | refine wpList_load25 rfl _ rfl _ rfl _ h1 ?_ | refine wpList_store25 rfl _ _ rfl _ _ rfl rfl _ h2 ?_)
  exact ret25 rfl (w.heap.size + 1) _ rfl (setRow_heap _ _ _ _ _ _ h2) rfl ⟨rfl, below_setRow h3 (by omega) _⟩
theorem lay_any (f : Nat → Int) (k : Int) (p : Value) (n : Nat) (q : Nat → Int) (w : World) (ha : -9223372036854775808 ≤ k ∧ k ≤ 9223372036854775807) (hp : Lies w p n q) :
    Calls Tryz.prog 149 #[.agg (blk f), .int .i64 k, p] w fun e w' => e = .returned (.agg (blk (layF f k n q))) ∧ Below w.heap.size w w' := by
  rcases hp with ⟨a, cap, rfl, rfl, _⟩ | ⟨b, off, cap, rfl, hn, hcap, hb, hc⟩
  · refine lay_skip f k a 0 cap q w ha (by omega) ?_
    unfold insLo insHi; rw [if_pos (.inl (by omega)), if_pos (.inl (by omega))]; omega
  · unfold maxLen at hn
    by_cases h : insLo k n < insHi k n
    · exact lay_copy f k b off n cap q w ha (by omega) hcap hb hc h
    · exact lay_skip f k _ n cap q w ha (by omega) h
end Go.Proofs.YtiejhjngcnkimaaGreatRN
/- Numbers of some bytes, the lowest first: read and laid, as plain functions; the bytes are 0 to 255. -/
namespace Go.Proofs.YtiejhjngcnkimaaGreatRN
open Go.RowKit
def numN (f : Nat → Int) (k : Nat) : Nat → Int
  | 0 => 0
  | m + 1 => f k + 256 * numN f (k + 1) m
def num (f : Nat → Int) (at' : Int) (n : Nat) : Int := if 0 ≤ at' ∧ at' ≤ 1024 - (n : Int) then numN f at'.toNat n else 0
def putN (f : Nat → Int) (k : Nat) (v : Int) : Nat → Nat → Int
  | 0 => f
  | m + 1 => putN (upd f k (v % 256)) (k + 1) (v / 256) m
theorem num2 (f : Nat → Int) (k : Nat) : numN f k 2 = f k + 256 * f (k + 1) := by simp [numN]
theorem num4 (f : Nat → Int) (k : Nat) : numN f k 4 = f k + 256 * f (k + 1) + 65536 * f (k + 2) + 16777216 * f (k + 3) := by
  simp only [numN, Nat.add_assoc, Nat.reduceAdd]; omega
theorem num_in (f : Nat → Int) (k n : Nat) (h : k + n ≤ 1024) : num f (k : Int) n = numN f k n := by
  unfold num; rw [if_pos (by omega), Int.toNat_natCast]
theorem num_out (f : Nat → Int) (a : Int) (n : Nat) (h : a < 0 ∨ 1024 - (n : Int) < a) : num f a n = 0 := by
  unfold num; rw [if_neg (by omega)]
theorem put2 (f : Nat → Int) (k : Nat) (v : Int) (hv : 0 ≤ v ∧ v < 65536) : putN f k v 2 = upd (upd f k (v % 256)) (k + 1) (v / 256) := by
  simp only [putN]
  rw [show v / 256 % 256 = v / 256 by omega]
theorem put4 (f : Nat → Int) (k : Nat) (v : Int) (hv : 0 ≤ v ∧ v < 4294967296) : putN f k v 4 = upd (upd (upd (upd f k (v % 256)) (k + 1) (v / 256 % 256)) (k + 2) (v / 65536 % 256)) (k + 3) (v / 16777216) := by
  simp only [putN, Nat.add_assoc, Nat.reduceAdd]
  rw [show v / 256 / 256 % 256 = v / 65536 % 256 by omega, show v / 256 / 256 / 256 % 256 = v / 16777216 by omega]
theorem wrap_u16 (n : Int) : IntKind.u16.wrap n = n % 65536 := by simp [IntKind.wrap, IntKind.bits, IntKind.signed]
theorem wrap_u32 (n : Int) : IntKind.u32.wrap n = n % 4294967296 := by simp [IntKind.wrap, IntKind.bits, IntKind.signed]
theorem or_comm' (k : IntKind) (x y : Int) : bits .or k x y = bits .or k y x := by simp only [bits, BitVec.or_comm]
theorem or16 (a b : Int) (ha : 0 ≤ a ∧ a ≤ 255) (hb : 0 ≤ b ∧ b ≤ 255) : bits .or .u16 (IntKind.u16.wrap a) (IntKind.u16.wrap (IntKind.u16.wrap b * 256)) = a + 256 * b := by
  simp only [wrap_u16]
  have h1 : a % 65536 = a := by omega
  have h2 : b % 65536 * 256 % 65536 = 256 * b := by omega
  rw [h1, h2, or_comm', bits_join .u16 16 (by decide) (fun n h0 h1 => by rw [wrap_u16]; omega) 8 (256 * b) a (by omega) (by omega) (by omega) (by omega) (by omega) (by omega)]
  omega
theorem or32 (i : Nat) (x y : Int) (hx0 : 0 ≤ x) (hx : x % 2 ^ i = 0) (hx1 : x < 2 ^ 32) (hy0 : 0 ≤ y) (hy : y < 2 ^ i) (hy1 : y < 2 ^ 32) : bits .or .u32 y x = y + x := by
  rw [or_comm', bits_join .u32 32 (by decide) (fun n h0 h1 => by rw [wrap_u32]; omega) i x y hx0 hx hx1 hy0 hy hy1]
  omega
theorem or32all (a b c d : Int) (ha : 0 ≤ a ∧ a ≤ 255) (hb : 0 ≤ b ∧ b ≤ 255) (hc : 0 ≤ c ∧ c ≤ 255) (hd : 0 ≤ d ∧ d ≤ 255) :
    bits .or .u32 (bits .or .u32 (bits .or .u32 (IntKind.u32.wrap a) (IntKind.u32.wrap (IntKind.u32.wrap b * 256))) (IntKind.u32.wrap (IntKind.u32.wrap c * 65536))) (IntKind.u32.wrap (IntKind.u32.wrap d * 16777216)) = a + 256 * b + 65536 * c + 16777216 * d := by
  simp only [wrap_u32]
  have h1 : a % 4294967296 = a := by omega
  have h2 : b % 4294967296 * 256 % 4294967296 = 256 * b := by omega
  have h3 : c % 4294967296 * 65536 % 4294967296 = 65536 * c := by omega
  have h4 : d % 4294967296 * 16777216 % 4294967296 = 16777216 * d := by omega
  rw [h1, h2, h3, h4, or32 8 (256 * b) a (by omega) (by omega) (by omega) (by omega) (by omega) (by omega),
    or32 16 (65536 * c) (a + 256 * b) (by omega) (by omega) (by omega) (by omega) (by omega) (by omega),
    or32 24 (16777216 * d) (a + 256 * b + 65536 * c) (by omega) (by omega) (by omega) (by omega) (by omega) (by omega)]
end Go.Proofs.YtiejhjngcnkimaaGreatRN
/- U16 and U32 of slab: the number of the bytes at a place, or nought; for every block of bytes and every place. -/
namespace Go.Proofs.YtiejhjngcnkimaaGreatRN
open Go.RowKit
theorem ret_int {k : IntKind} {a b : Int} (h : a = b) : Ending.returned (.int k a) = .returned (.int k b) := by rw [h]
set_option maxRecDepth 20000 in
set_option maxHeartbeats 400000 in
theorem u16_in (f : Nat → Int) (k : Nat) (w : World) (hk : (k : Int) ≤ 1022) (hf : ∀ i, 0 ≤ f i ∧ f i ≤ 255) :
    Calls Tryz.prog 152 #[.agg (blk f), .int .i64 k] w fun e w' => e = .returned (.int .u16 (f k + 256 * f (k + 1))) ∧ Below w.heap.size w w' := by
  have hb0 := blk_get f k (by omega)
  have hb1 := blk_get f (k + 1) (by omega)
  go_enter Tryz.func152, Tryz.ntmps152
  go_wp2
  go_quiet (fail)
  go_wp2
  go_ret
  exact ⟨ret_int (or16 _ _ (hf k) (hf (k + 1))), below_drewN ((Below.refl _ _).alloc (Nat.le_refl _) _) _⟩
set_option maxRecDepth 20000 in
set_option maxHeartbeats 400000 in
theorem u16_out (f : Nat → Int) (k : Int) (w : World) (hk : k < 0 ∨ 1022 < k) :
    Calls Tryz.prog 152 #[.agg (blk f), .int .i64 k] w fun e w' => e = .returned (.int .u16 0) ∧ Below w.heap.size w w' := by
  rcases hk with hk | hk
  · have hk' : ¬ (0 ≤ k) := by omega
    go_enter Tryz.func152, Tryz.ntmps152
    go_wp2
    go_ret
    exact ⟨rfl, (Below.refl _ _).alloc (Nat.le_refl _) _⟩
  · have hk' : ¬ (k ≤ 1022) := by omega
    have hk0 : 0 ≤ k := by omega
    go_enter Tryz.func152, Tryz.ntmps152
    go_wp2
    go_ret
    exact ⟨rfl, (Below.refl _ _).alloc (Nat.le_refl _) _⟩
theorem u16_any (f : Nat → Int) (k : Int) (w : World) (hf : ∀ i, 0 ≤ f i ∧ f i ≤ 255) :
    Calls Tryz.prog 152 #[.agg (blk f), .int .i64 k] w fun e w' => e = .returned (.int .u16 (num f k 2)) ∧ Below w.heap.size w w' := by
  by_cases h : k < 0 ∨ 1022 < k
  · rw [num_out f k 2 (by omega)]; exact u16_out f k w h
  · obtain ⟨m, rfl⟩ := Int.eq_ofNat_of_zero_le (show 0 ≤ k by omega)
    rw [num_in f m 2 (by omega), num2]; exact u16_in f m w (by omega) hf
set_option maxRecDepth 20000 in
set_option maxHeartbeats 400000 in
theorem u32_in (f : Nat → Int) (k : Nat) (w : World) (hk : (k : Int) ≤ 1020) (hf : ∀ i, 0 ≤ f i ∧ f i ≤ 255) :
    Calls Tryz.prog 150 #[.agg (blk f), .int .i64 k] w fun e w' => e = .returned (.int .u32 (f k + 256 * f (k + 1) + 65536 * f (k + 2) + 16777216 * f (k + 3))) ∧ Below w.heap.size w w' := by
  have hb0 := blk_get f k (by omega)
  have hb1 := blk_get f (k + 1) (by omega)
  have hb2 := blk_get f (k + 2) (by omega)
  have hb3 := blk_get f (k + 3) (by omega)
  go_enter Tryz.func150, Tryz.ntmps150
  go_wp2
  go_quiet (fail)
  go_wp2
  go_ret
  exact ⟨ret_int (or32all _ _ _ _ (hf k) (hf (k + 1)) (hf (k + 2)) (hf (k + 3))), below_drewN ((Below.refl _ _).alloc (Nat.le_refl _) _) _⟩
set_option maxRecDepth 20000 in
set_option maxHeartbeats 400000 in
theorem u32_out (f : Nat → Int) (k : Int) (w : World) (hk : k < 0 ∨ 1020 < k) :
    Calls Tryz.prog 150 #[.agg (blk f), .int .i64 k] w fun e w' => e = .returned (.int .u32 0) ∧ Below w.heap.size w w' := by
  rcases hk with hk | hk
  · have hk' : ¬ (0 ≤ k) := by omega
    go_enter Tryz.func150, Tryz.ntmps150
    go_wp2
    go_ret
    exact ⟨rfl, (Below.refl _ _).alloc (Nat.le_refl _) _⟩
  · have hk' : ¬ (k ≤ 1020) := by omega
    have hk0 : 0 ≤ k := by omega
    go_enter Tryz.func150, Tryz.ntmps150
    go_wp2
    go_ret
    exact ⟨rfl, (Below.refl _ _).alloc (Nat.le_refl _) _⟩
theorem u32_any (f : Nat → Int) (k : Int) (w : World) (hf : ∀ i, 0 ≤ f i ∧ f i ≤ 255) :
    Calls Tryz.prog 150 #[.agg (blk f), .int .i64 k] w fun e w' => e = .returned (.int .u32 (num f k 4)) ∧ Below w.heap.size w w' := by
  by_cases h : k < 0 ∨ 1020 < k
  · rw [num_out f k 4 (by omega)]; exact u32_out f k w h
  · obtain ⟨m, rfl⟩ := Int.eq_ofNat_of_zero_le (show 0 ≤ k by omega)
    rw [num_in f m 4 (by omega), num4]; exact u32_in f m w (by omega) hf
end Go.Proofs.YtiejhjngcnkimaaGreatRN
/- SetU16 and SetU32 of slab: the block in which a number is laid; for every block, place and number. -/
namespace Go.Proofs.YtiejhjngcnkimaaGreatRN
open Go.RowKit
theorem ret_blk {f g : Nat → Int} (h : f = g) : Ending.returned (.agg (blk f)) = .returned (.agg (blk g)) := by rw [h]
set_option maxRecDepth 20000 in
set_option maxHeartbeats 400000 in
theorem set16_in (f : Nat → Int) (k : Nat) (v : Int) (w : World) (hk : (k : Int) ≤ 1022) (hv : 0 ≤ v ∧ v < 65536) :
    Calls Tryz.prog 216 #[.agg (blk f), .int .i64 k, .int .u16 v] w fun e w' => e = .returned (.agg (blk (putN f k v 2))) ∧ Below w.heap.size w w' := by
  have z25 := zero25
  have hb0 := fun g => blk_get g (k) (by omega)
  have hb1 := fun g => blk_get g (k + 1) (by omega)
  have hset := blk_set
  go_enter Tryz.func216, Tryz.ntmps216
  go_wp2_with (first | (go_at_call 215; refine (fits_yes _ _ _ (by omega) (by omega)).mono ?_; rintro e w' ⟨rfl, rfl⟩) | refine wpList_load25 rfl _ rfl _ rfl _ (heap_alloc2_old _ _ _) ?_ | refine wpList_store25 rfl _ _ rfl _ _ rfl rfl _ (heap_alloc2_new _ _ _) ?_)
  exact ret25 rfl (w.heap.size + 1) _ rfl (setRow_heap _ _ _ _ _ _ (heap_alloc2_new _ _ _)) rfl ⟨ret_blk (put2 f k v hv).symm, below2 _ _ _ _ (by omega) _⟩
set_option maxRecDepth 20000 in
set_option maxHeartbeats 400000 in
theorem set32_in (f : Nat → Int) (k : Nat) (v : Int) (w : World) (hk : (k : Int) ≤ 1020) (hv : 0 ≤ v ∧ v < 4294967296) :
    Calls Tryz.prog 159 #[.agg (blk f), .int .i64 k, .int .u32 v] w fun e w' => e = .returned (.agg (blk (putN f k v 4))) ∧ Below w.heap.size w w' := by
  have z25 := zero25
  have hb0 := fun g => blk_get g (k) (by omega)
  have hb1 := fun g => blk_get g (k + 1) (by omega)
  have hb2 := fun g => blk_get g (k + 2) (by omega)
  have hb3 := fun g => blk_get g (k + 3) (by omega)
  have hset := blk_set
  go_enter Tryz.func159, Tryz.ntmps159
  go_wp2_with (first | (go_at_call 215; refine (fits_yes _ _ _ (by omega) (by omega)).mono ?_; rintro e w' ⟨rfl, rfl⟩) | refine wpList_load25 rfl _ rfl _ rfl _ (heap_alloc2_old _ _ _) ?_ | refine wpList_store25 rfl _ _ rfl _ _ rfl rfl _ (heap_alloc2_new _ _ _) ?_)
  exact ret25 rfl (w.heap.size + 1) _ rfl (setRow_heap _ _ _ _ _ _ (heap_alloc2_new _ _ _)) rfl ⟨ret_blk (put4 f k v hv).symm, below2 _ _ _ _ (by omega) _⟩
end Go.Proofs.YtiejhjngcnkimaaGreatRN
/- Where the regions of a geometry lie, as plain numbers, and the values that stand for them; no condition. -/
namespace Go.Proofs.YtiejhjngcnkimaaGreatRN
open Go.RowKit
def nodeB (i : Int) : Int := (i + 16) / 16
def bitsB (b : Int) : Int := (b + 8191) / 8192
def bitsAt (l i : Int) : Int := 1 + l + nodeB i
def dataAt (b l i : Int) : Int := bitsAt l i + bitsB b
end Go.Proofs.YtiejhjngcnkimaaGreatRN
/- Of of shape: the layout of a geometry, or none; for every geometry. -/
namespace Go.Proofs.YtiejhjngcnkimaaGreatRN
open Go.RowKit
theorem bel_al {w u : World} (h : Below w.heap.size w u) (o : Obj) : Below w.heap.size w (u.alloc o) := h.alloc h.size o
theorem heap3 (w : World) (A B C : Obj) : (((w.alloc A).alloc B).alloc C).heap[w.heap.size + 1]? = some B := by
  rw [heap_alloc_old _ _ (by simp)]; exact heap_alloc2_new _ _ _
end Go.Proofs.YtiejhjngcnkimaaGreatRN
/- Regions whose order is drawn, walked in one order that is told: what only reads may come at any time, what acts comes where nothing else may; S holds all along. -/
namespace Go.Proofs.YtiejhjngcnkimaaGreatRN
open Go.RowKit
section
variable {P : Program} {ops : Array Oper} {Q : Exit → Act → World → Prop} {S : World → Prop}
def ordB (ops : Array Oper) : List (Nat × Bool) → Array Bool → Bool
  | [], listed => (Region.ready .any ops listed).isEmpty
  | (i, true) :: r, listed => (Region.ready .any ops listed).contains i && Region.free .any ops listed i && (ops[i]?).isSome && ordB ops r (listed.setIfInBounds i true)
  | (i, false) :: r, listed => (Region.ready .any ops listed == [i]) && (ops[i]?).isSome && ordB ops r (listed.setIfInBounds i true)
def inOrd (ol : List Oper) : List (Nat × Bool) → List (Bool × Oper)
  | [] => []
  | (i, b) :: r => match ol[i]? with
    | some o => (b, o) :: inOrd ol r
    | none => inOrd ol r
def wpOrd (P : Program) (ops : Array Oper) (Q : Exit → Act → World → Prop) (S : World → Prop) : List (Bool × Oper) → Act → World → Prop
  | [], a, w => Q .normal a w
  | (true, o) :: r, a, w => ∃ v, YieldsIf P ops S o v a ∧ wpOrd P ops Q S r (a.put o.dst v) w
  | (false, o) :: r, a, w => if Region.wanted o (yielded ops a.tmps) then o.wp P a w (fun a' w' => S w' ∧ wpOrd P ops Q S r a' w') Q else S w ∧ wpOrd P ops Q S r (a.put o.dst undef) w
theorem wpOrd_any {ol : List Oper} (hs : Region.noSelect ol.toArray = true) (hQ : ∀ d v c a w, Q (.panic c) (a.put d v) w → Q (.panic c) a w) : ∀ (l : List (Nat × Bool)) (listed : Array Bool) (a : Act) (w : World), S w →
    ordB ol.toArray l listed = true → wpOrd P ol.toArray Q S (inOrd ol l) a w → wpAnyH P .any ol.toArray Q S l.length listed a w
  | [], listed, a, w, _, hB, h => wpAnyH_done (by simpa [ordB] using hB) h _
  | (i, true) :: r, listed, a, w, hS, hB, h => by
    simp only [ordB, Bool.and_eq_true] at hB
    obtain ⟨⟨⟨h1, h2⟩, h3⟩, h4⟩ := hB
    obtain ⟨o, hi⟩ := Option.isSome_iff_exists.1 h3
    have hi' : ol[i]? = some o := by simpa using hi
    simp only [inOrd, hi', wpOrd] at h
    obtain ⟨v, hy, hr⟩ := h
    exact wpAnyH_take hi hs h2 h1 (fun c a w => hQ _ _ c a w) hy hS (wpOrd_any hs hQ r _ _ w hS h4 hr)
  | (i, false) :: r, listed, a, w, hS, hB, h => by
    simp only [ordB, Bool.and_eq_true, beq_iff_eq] at hB
    obtain ⟨⟨h1, h3⟩, h2⟩ := hB
    obtain ⟨o, hi⟩ := Option.isSome_iff_exists.1 h3
    have hi' : ol[i]? = some o := by simpa using hi
    simp only [inOrd, hi', wpOrd] at h
    refine wpAnyH_all h1 (by simp) fun j hj => ?_
    obtain rfl : j = i := by simpa using hj
    unfold wpOp
    rw [hi]
    simp only
    split
    · rename_i hw
      rw [if_pos hw] at h
      exact .inl (Oper.wp_mono (fun a' w' h' => ⟨h'.1, wpOrd_any hs hQ r _ a' w' h'.1 h2 h'.2⟩) h)
    · rename_i hw
      rw [if_neg hw] at h
      exact ⟨h.1, wpOrd_any hs hQ r _ _ w h.1 h2 h.2⟩
theorem wp_region_ord {id : Nat} {a : Act} {w : World} {ol : List Oper} (l : List (Nat × Bool)) (hm : P.follows .mixedOrders = true) (hl : l.length = ol.length)
    (hB : (Region.noSelect ol.toArray && ordB ol.toArray l (Array.replicate ol.toArray.size false)) = true) (hQ : ∀ d v c a w, Q (.panic c) (a.put d v) w → Q (.panic c) a w)
    (hS : S w.drew) (h : wpOrd P ol.toArray Q S (inOrd ol l) a w.drew) : (Code.region id ol.toArray true).wp P Q a w := by
  simp only [Bool.and_eq_true] at hB
  have h1 := wpOrd_any hB.1 hQ l _ a w.drew hS hB.2 h
  rw [hl] at h1
  exact wp_region_held hm (by simpa using h1)
theorem wpOrd_nil {a : Act} {w : World} (h : Q .normal a w) : wpOrd P ops Q S [] a w := h
theorem wpOrd_yield {r : List (Bool × Oper)} {a : Act} {w : World} {o : Oper} {v : Value} (hw : Region.wanted o (yielded ops a.tmps) = true)
    (hr : ∀ u, S u → (execOp a.eval o).run P u = .ok (.value v) u) (h : wpOrd P ops Q S r (a.put o.dst v) w) : wpOrd P ops Q S ((true, o) :: r) a w :=
  ⟨v, .inl ⟨hw, hr⟩, h⟩
theorem wpOrd_call {r : List (Bool × Oper)} {a : Act} {w : World} {o : Oper} (hw : Region.wanted o (yielded ops a.tmps) = true) (f : FuncId) (xs : List Operand) (ts : Array TypeId)
    (ho : o.op = .call { callee := .value (.func f), args := xs.toArray, argTypes := ts }) (hc : ∀ args u, (callFunc f args).run P u = .ok (.enter f args) u) (args : List Value) (hx : xs.map a.eval = args)
    (h : Calls P f args.toArray w fun e w' => ∃ v, e = .returned v ∧ S w' ∧ wpOrd P ops Q S r (a.put o.dst v) w') : wpOrd P ops Q S ((false, o) :: r) a w := by
  simp only [wpOrd, hw, if_true]
  unfold Oper.wp execOp
  have e : (do let d ← resolve a.eval { callee := .value (.func f), args := xs.toArray, argTypes := ts } o.type; invoke d.target d.args : Sem Next).run P w = .ok (.enter f args.toArray) w := by
    have hx' : xs.toArray.map a.eval = args.toArray := by rw [← hx]; simp
    simp only [resolve, hx']
    simp [Act.eval, Deferred.ofValue, invoke, hc]
  simp only [ho]
  rw [e]
  unfold Oper.upon
  exact h.mono fun e w' ⟨v, he, h1, h2⟩ => by subst he; exact ⟨h1, h2⟩
end
end Go.Proofs.YtiejhjngcnkimaaGreatRN
/- Regions whose order is drawn, where two operations may come up in either order: both orders are walked. -/
namespace Go.Proofs.YtiejhjngcnkimaaGreatRN
open Go.RowKit
section
variable {P : Program} {ops : Array Oper} {Q : Exit → Act → World → Prop} {S : World → Prop}
def forkB (ops : Array Oper) (i j : Nat) (l : List (Nat × Bool)) : List Nat → Array Bool → Bool
  | [], listed => (Region.ready .any ops listed == [i, j]) && (ops[i]?).isSome && (ops[j]?).isSome && ordB ops ((j, false) :: l) (listed.setIfInBounds i true) && ordB ops ((i, false) :: l) (listed.setIfInBounds j true)
  | k :: r, listed => (Region.ready .any ops listed).contains k && Region.free .any ops listed k && (ops[k]?).isSome && forkB ops i j l r (listed.setIfInBounds k true)
def wpAct (P : Program) (ops : Array Oper) (Q : Exit → Act → World → Prop) (S : World → Prop) (o : Oper) (K : Act → World → Prop) (a : Act) (w : World) : Prop :=
  if Region.wanted o (yielded ops a.tmps) then o.wp P a w (fun a' w' => S w' ∧ K a' w') Q else S w ∧ K (a.put o.dst undef) w
theorem wpOp_act {i : Nat} {o : Oper} (hi : ops[i]? = some o) {K K' : Act → World → Prop} (hK : ∀ a w, S w → K a w → K' a w) {a : Act} {w : World} (h : wpAct P ops Q S o K a w) : wpOp P ops Q i (fun a' w' => S w' ∧ K' a' w') a w := by
  unfold wpOp
  rw [hi]
  simp only
  unfold wpAct at h
  split
  · rename_i hw
    rw [if_pos hw] at h
    exact .inl (Oper.wp_mono (fun a' w' h' => ⟨h'.1, hK a' w' h'.1 h'.2⟩) h)
  · rename_i hw
    rw [if_neg hw] at h
    exact ⟨h.1, hK _ w h.1 h.2⟩
def wpFork (P : Program) (ops : Array Oper) (Q : Exit → Act → World → Prop) (S : World → Prop) (ol : List Oper) (i j : Nat) (l : List (Nat × Bool)) : List Nat → Act → World → Prop
  | [], a, w => (∀ o, ol[i]? = some o → wpAct P ops Q S o (wpOrd P ops Q S (inOrd ol ((j, false) :: l))) a w) ∧ (∀ o, ol[j]? = some o → wpAct P ops Q S o (wpOrd P ops Q S (inOrd ol ((i, false) :: l))) a w)
  | k :: r, a, w => ∀ o, ol[k]? = some o → ∃ v, YieldsIf P ops S o v a ∧ wpFork P ops Q S ol i j l r (a.put o.dst v) w
theorem wpFork_any {ol : List Oper} (hs : Region.noSelect ol.toArray = true) (hQ : ∀ d v c a w, Q (.panic c) (a.put d v) w → Q (.panic c) a w) (i j : Nat) (l : List (Nat × Bool)) : ∀ (r : List Nat) (listed : Array Bool) (a : Act) (w : World), S w →
    forkB ol.toArray i j l r listed = true → wpFork P ol.toArray Q S ol i j l r a w → wpAnyH P .any ol.toArray Q S (r.length + (l.length + 2)) listed a w
  | [], listed, a, w, hS, hB, h => by
    simp only [forkB, Bool.and_eq_true, beq_iff_eq] at hB
    obtain ⟨⟨⟨⟨h1, h2⟩, h3⟩, h4⟩, h5⟩ := hB
    obtain ⟨oi, hoi⟩ := Option.isSome_iff_exists.1 h2
    obtain ⟨oj, hoj⟩ := Option.isSome_iff_exists.1 h3
    have hoi' : ol[i]? = some oi := by simpa using hoi
    have hoj' : ol[j]? = some oj := by simpa using hoj
    rw [show ([] : List Nat).length + (l.length + 2) = (l.length + 1) + 1 by simp]
    refine wpAnyH_all h1 (by simp) fun k hk => ?_
    simp only [List.mem_cons, List.not_mem_nil, or_false] at hk
    rcases hk with rfl | rfl
    · exact wpOp_act hoi (fun a' w' hS' hK => wpOrd_any hs hQ ((j, false) :: l) _ a' w' hS' h4 hK) (h.1 oi hoi')
    · exact wpOp_act hoj (fun a' w' hS' hK => wpOrd_any hs hQ ((i, false) :: l) _ a' w' hS' h5 hK) (h.2 oj hoj')
  | k :: r, listed, a, w, hS, hB, h => by
    simp only [forkB, Bool.and_eq_true] at hB
    obtain ⟨⟨⟨h1, h2⟩, h3⟩, h4⟩ := hB
    obtain ⟨o, hi⟩ := Option.isSome_iff_exists.1 h3
    have hi' : ol[k]? = some o := by simpa using hi
    obtain ⟨v, hy, hr⟩ := h o hi'
    rw [show (k :: r).length + (l.length + 2) = r.length + (l.length + 2) + 1 by simp; omega]
    exact wpAnyH_take hi hs h2 h1 (fun c a w => hQ _ _ c a w) hy hS (wpFork_any hs hQ i j l r _ _ w hS h4 hr)
theorem wp_region_fork {id : Nat} {a : Act} {w : World} {ol : List Oper} (r : List Nat) (i j : Nat) (l : List (Nat × Bool)) (hm : P.follows .mixedOrders = true) (hl : r.length + (l.length + 2) = ol.length)
    (hB : (Region.noSelect ol.toArray && forkB ol.toArray i j l r (Array.replicate ol.toArray.size false)) = true) (hQ : ∀ d v c a w, Q (.panic c) (a.put d v) w → Q (.panic c) a w)
    (hS : S w.drew) (h : wpFork P ol.toArray Q S ol i j l r a w.drew) : (Code.region id ol.toArray true).wp P Q a w := by
  simp only [Bool.and_eq_true] at hB
  have h1 := wpFork_any hB.1 hQ i j l r _ a w.drew hS hB.2 h
  rw [hl] at h1
  exact wp_region_held hm (by simpa using h1)
theorem wpFork_yield {ol : List Oper} {i j : Nat} {l : List (Nat × Bool)} {k : Nat} {r : List Nat} {a : Act} {w : World} {o : Oper} {v : Value} (ho : ol[k]? = some o) (hw : Region.wanted o (yielded ops a.tmps) = true)
    (hr : ∀ u, S u → (execOp a.eval o).run P u = .ok (.value v) u) (h : wpFork P ops Q S ol i j l r (a.put o.dst v) w) : wpFork P ops Q S ol i j l (k :: r) a w := by
  intro o' ho'
  obtain rfl : o = o' := by rw [ho] at ho'; exact Option.some.inj ho'
  exact ⟨v, .inl ⟨hw, hr⟩, h⟩
theorem wpFork_nil {ol : List Oper} {i j : Nat} {l : List (Nat × Bool)} {a : Act} {w : World} {oi oj : Oper} (hi : ol[i]? = some oi) (hj : ol[j]? = some oj)
    (h1 : wpOrd P ops Q S (inOrd ol ((i, false) :: (j, false) :: l)) a w) (h2 : wpOrd P ops Q S (inOrd ol ((j, false) :: (i, false) :: l)) a w) : wpFork P ops Q S ol i j l [] a w := by
  refine ⟨fun o ho => ?_, fun o ho => ?_⟩
  · obtain rfl : oi = o := by rw [hi] at ho; exact Option.some.inj ho
    simp only [inOrd, hi, hj, wpOrd] at h1 ⊢
    exact h1
  · obtain rfl : oj = o := by rw [hj] at ho; exact Option.some.inj ho
    simp only [inOrd, hi, hj, wpOrd] at h2 ⊢
    exact h2
end
end Go.Proofs.YtiejhjngcnkimaaGreatRN
/- An inode, its twelve numbers and its sixty-four bytes as values: loads, stores and results of them; no condition. -/
namespace Go.Proofs.YtiejhjngcnkimaaGreatRN
open Go.RowKit
def node16 (k l s b : Int) (d : Nat → Int) : Array Value :=
  #[.int .u16 k, .int .u16 l, .int .u32 s, .int .u32 b, .int .u32 (d 0), .int .u32 (d 1), .int .u32 (d 2), .int .u32 (d 3), .int .u32 (d 4), .int .u32 (d 5), .int .u32 (d 6), .int .u32 (d 7), .int .u32 (d 8), .int .u32 (d 9), .int .u32 (d 10), .int .u32 (d 11)]
def w12 (d : Nat → Int) : Array Value :=
  #[.int .u32 (d 0), .int .u32 (d 1), .int .u32 (d 2), .int .u32 (d 3), .int .u32 (d 4), .int .u32 (d 5), .int .u32 (d 6), .int .u32 (d 7), .int .u32 (d 8), .int .u32 (d 9), .int .u32 (d 10), .int .u32 (d 11)]
structure NodeOk (k l s b : Int) (d : Nat → Int) : Prop where
  k : 0 ≤ k ∧ k < 65536
  l : 0 ≤ l ∧ l < 65536
  s : 0 ≤ s ∧ s < 4294967296
  b : 0 ≤ b ∧ b < 4294967296
  d : ∀ i, 0 ≤ d i ∧ d i < 4294967296
theorem w12_size (d : Nat → Int) : (w12 d).size = 12 := rfl
theorem w12_get (d : Nat → Int) (i : Nat) (h : i < 12) : (w12 d)[i]? = some (.int .u32 (d i)) :=
  match i, h with
  | 0, _ => rfl | 1, _ => rfl | 2, _ => rfl | 3, _ => rfl | 4, _ => rfl | 5, _ => rfl | 6, _ => rfl | 7, _ => rfl | 8, _ => rfl | 9, _ => rfl | 10, _ => rfl | 11, _ => rfl
theorem w12_ext {d : Nat → Int} {cs : Array Value} (hs : cs.size = 12) (h : ∀ i, i < 12 → cs[i]? = some (.int .u32 (d i))) : cs = w12 d := by
  apply Array.ext_getElem?
  intro i
  by_cases hi : i < 12
  · rw [h i hi, w12_get d i hi]
  · rw [Array.getElem?_eq_none (by omega), Array.getElem?_eq_none (by rw [w12_size]; omega)]
theorem w12_set (d : Nat → Int) (i : Nat) (x : Int) : (w12 d).setIfInBounds i (.int .u32 x) = w12 (upd d i x) := by
  refine w12_ext (by rw [Array.size_setIfInBounds, w12_size]) fun j hj => ?_
  rw [Array.getElem?_setIfInBounds]
  by_cases e : i = j
  · subst e; simp [w12_size, hj, upd]
  · have e' : ¬ j = i := fun q => e q.symm
    simp [e, e', w12_get _ _ hj, upd]
theorem w12_one (d : Nat → Int) : (w12 d).all (·.oneCell') = true := by simp [w12, Value.oneCell']
theorem node_one (k l s b : Int) (d : Nat → Int) : (node16 k l s b d).all (·.oneCell') = true := by simp [node16, Value.oneCell']
theorem node_congr {k l s b k' l' s' b' : Int} {d e : Nat → Int} (hk : k = k') (hl : l = l') (hs : s = s') (hb : b = b') (h : ∀ i, i < 12 → d i = e i) : node16 k l s b d = node16 k' l' s' b' e := by
  subst hk hl hs hb
  unfold node16
  rw [h 0 (by omega), h 1 (by omega), h 2 (by omega), h 3 (by omega), h 4 (by omega), h 5 (by omega), h 6 (by omega), h 7 (by omega), h 8 (by omega), h 9 (by omega), h 10 (by omega), h 11 (by omega)]
theorem row64_one (f : Nat → Int) : (rowA f 64).all (·.oneCell') = true := by
  rw [Array.all_eq_true_iff_forall_mem]
  intro v hv
  exact rowA_one f 64 v (by simpa using hv)
theorem size27 : (Tryz.prog.info? 45).map (·.size) = some 16 := by kernel_rfl
theorem size62 : (Tryz.prog.info? 246).map (·.size) = some 12 := by kernel_rfl
theorem size31 : (Tryz.prog.info? 181).map (·.size) = some 64 := by kernel_rfl
theorem zero31 : ∀ w, (zeroValue 181).run Tryz.prog w = .ok (.agg (rowA nought 64)) w := (zero_of_info (show (Tryz.prog.info? 181).map (fun i => (i.zero, i.size)) = some (some (.agg (rowA nought 64)), 64) by kernel_rfl)).1
theorem zero62 : ∀ w, (zeroValue 246).run Tryz.prog w = .ok (.agg (w12 nought)) w := (zero_of_info (show (Tryz.prog.info? 246).map (fun i => (i.zero, i.size)) = some (some (.agg (w12 nought)), 12) by kernel_rfl)).1
theorem zero27 : ∀ w, (zeroValue 45).run Tryz.prog w = .ok (.agg (node16 0 0 0 0 nought)) w := (zero_of_info (show (Tryz.prog.info? 45).map (fun i => (i.zero, i.size)) = some (some (.agg (node16 0 0 0 0 nought)), 16) by kernel_rfl)).1
section
variable {ops : Array Oper} {rest : List Oper} {o : Oper} {a : Act} {w : World} {Q : Exit → Act → World → Prop}
theorem wpList_ldR (ty : TypeId) {d : TypeDesc} (hu : Tryz.prog.underlying ty = some d) (hd : d.isRow = true) (hw : Region.wanted o (yielded ops a.tmps) = true) (x : Operand) (ho : o.op = .load ty x)
    (g : Nat) (hx : a.eval x = .pointer (some ⟨g, 0, none⟩)) (cs : Array Value) (t : TypeId) (fr : Nat × Nat) (hi : (Tryz.prog.info? ty).map (·.size) = some cs.size) (hg : w.heap[g]? = some (.cells cs t fr))
    (h : wpList Tryz.prog ops Q rest (a.put o.dst (.agg cs)) w) : wpList Tryz.prog ops Q (o :: rest) a w := by
  unfold wpList
  rw [if_pos hw]
  refine .inl ?_
  unfold Oper.wp execOp
  simp only [ho, hx, Instr.loadAt, Instr.sureAddr, Sem.run_bind, Sem.run_pure, Result.andThen_ok, run_loadVar_row w g t ty cs fr d hg hu (by cases d <;> first | rfl | cases hd) hi]
  exact h
theorem wpList_stR (ty : TypeId) (hgd : o.guard = none) (x y : Operand) (ho : o.op = .store ty x y)
    (g : Nat) (cs c0 : Array Value) (t : TypeId) (hi : (Tryz.prog.info? ty).map (·.size) = some cs.size) (hs : c0.size = cs.size) (h1 : cs.all (·.oneCell') = true)
    (hx : a.eval x = .pointer (some ⟨g, 0, none⟩)) (hy : a.eval y = .agg cs) (hg : w.heap[g]? = some (.cells c0 t))
    (h : wpList Tryz.prog ops Q rest (a.put o.dst undef) (w.setRow g cs)) : wpList Tryz.prog ops Q (o :: rest) a w :=
  wpList_plain hgd fun _ hK => by
    unfold Oper.wp execOp
    simp only [ho, hx, hy, Instr.storeAt, Instr.sureAddr, Sem.run_bind, Sem.run_pure, Result.andThen_ok, run_storeVar_row w g t ty c0 cs hg hi hs h1]
    exact hK _ _ h
end
theorem retR {fn : Func} {p : Tmp} {ty : TypeId} {R : Ending → World → Prop} {a : Act} {w : World} {d : TypeDesc} (hu : Tryz.prog.underlying ty = some d) (hd : d.isRow = true)
    (h : fn.results = #[.cell p ty]) (g : Nat) (cs : Array Value) (t : TypeId) (hi : (Tryz.prog.info? ty).map (·.size) = some cs.size)
    (hp : a.tmps.getD p undef = .pointer (some ⟨g, 0, none⟩)) (hg : w.heap[g]? = some (.cells cs t)) (hdf : a.defers = []) (hR : R (.returned (.agg cs)) w) : bodyPost Tryz.prog fn R .ret a w :=
  bodyPost_ret (results_cell_row h a.tmps w g t cs (0, 0) _ hp hg hu (by cases d <;> first | rfl | cases hd) hi) hdf hR
theorem idx62 (d : Nat → Int) (k : Nat) (hk : k < 12) (w : World) : (Instr.index 246 (.agg (w12 d)) (.int .i64 k)).run Tryz.prog w = .ok (.int .u32 (d k)) w := by
  have h := w12_get d k hk
  simp [Instr.index, run_underlying Tryz.underlying246, asIntOf, part, Tryz.isAgg42, h, go_sem]
  intro h9; omega
theorem arrayAt31 (a : Option Addr) (n c : Nat) (h : 64 ≤ n) (w : World) : (Instr.arrayAt 181 (.slice a n c)).run Tryz.prog w = .ok (.pointer a) w := by
  have : ¬ n < 64 := by omega
  simp [Instr.arrayAt, run_underlying Tryz.underlying181, this]
theorem arrayAt25 (a : Option Addr) (n c : Nat) (h : 10 ≤ n) (w : World) : (Instr.arrayAt 43 (.slice a n c)).run Tryz.prog w = .ok (.pointer a) w := by
  have : ¬ n < 10 := by omega
  simp [Instr.arrayAt, run_underlying Tryz.underlying43, this]
end Go.Proofs.YtiejhjngcnkimaaGreatRN
/- The document's Of: the layout of a geometry, or none; for every geometry. -/
namespace Go.Proofs.YtiejhjngcnkimaaGreatRN
open Go.RowKit
end Go.Proofs.YtiejhjngcnkimaaGreatRN
/- stands of shape, and the document's Fits: is a layout just what its geometry says? For every layout. -/
namespace Go.Proofs.YtiejhjngcnkimaaGreatRN
open Go.RowKit
theorem heap_kept {w w' : World} {g : Nat} {o : Obj} (h : w.heap[g]? = some o) (hb : Below w.heap.size w w') : w'.heap[g]? = some o :=
  (hb.block g (Array.getElem?_eq_some_iff.1 h).1).trans h
theorem below_next {w w1 w2 : World} (h : Below w.heap.size w w1) (hb : Below w1.heap.size w1 w2) : Below w.heap.size w w2 := h.trans (hb.mono h.size)
theorem below_new (w : World) (o : Obj) : Below w.heap.size w (w.alloc o) := (Below.refl _ _).alloc (Nat.le_refl _) _
end Go.Proofs.YtiejhjngcnkimaaGreatRN
/- The twelve numbers of an inode, the program's and the document's; what is told of an inode; sixty-four bytes of a slice; no condition. -/
namespace Go.Proofs.YtiejhjngcnkimaaGreatRN
open Go.RowKit
def w10 (d e : Nat → Int) : Array Value :=
  #[.int .u32 (d 0), .int .u32 (d 1), .int .u32 (d 2), .int .u32 (d 3), .int .u32 (d 4), .int .u32 (d 5), .int .u32 (d 6), .int .u32 (d 7), .int .u32 (d 8), .int .u32 (d 9), .int .u32 (e 10), .int .u32 (e 11)]
theorem run_copyN (W : World) (ty : TypeId) (g gs : Nat) (k l s b : Int) (d : Nat → Int) (t t' : TypeId) (hF : W.heap[g]? = some (.cells (w12 nought) t)) (hG : W.heap[gs]? = some (.cells (node16 k l s b d) t')) :
    (Builtin.copy_ #[249, 249] ty #[.slice (some ⟨g, 0, none⟩) 12 12, .slice (some ⟨gs, 4, none⟩) 10 10]).run Tryz.prog W = .ok (goInt 10) (W.setRow g (w10 d nought)) := by
  have hi : (Tryz.prog.info? 42).map (·.size) = some 1 := by kernel_rfl
  have key := run_copy_row (P := Tryz.prog) W 249 249 ty 42 g 0 12 12 ⟨gs, 4, none⟩ 10 10 (w12 nought) t
    [.int .u32 (d 0), .int .u32 (d 1), .int .u32 (d 2), .int .u32 (d 3), .int .u32 (d 4), .int .u32 (d 5), .int .u32 (d 6), .int .u32 (d 7), .int .u32 (d 8), .int .u32 (d 9)] Tryz.underlying249 hi hF rfl (fun j v hv => by
      rw [Go.WideShapes.add_plain, cell_of_row W gs _ _ t' _ hG]
      match j, hv with
      | 0, hv | 1, hv | 2, hv | 3, hv | 4, hv | 5, hv | 6, hv | 7, hv | 8, hv | 9, hv => exact hv
      | j + 10, hv => simp at hv) (by rw [w12_size]; simp) (by simp [Value.oneCell'])
  exact key
theorem wpList_copyN {ops : Array Oper} {rest : List Oper} {o : Oper} {a : Act} {w : World} {Q : Exit → Act → World → Prop} (hgd : o.guard = none) (x y : Operand)
    (ho : o.op = .call { callee := .builtin .copy, args := #[x, y], argTypes := #[249, 249] }) (g gs : Nat) (k l s b : Int) (d : Nat → Int) (t t' : TypeId)
    (hd : a.eval x = .slice (some ⟨g, 0, none⟩) 12 12) (hs : a.eval y = .slice (some ⟨gs, 4, none⟩) 10 10)
    (hF : w.heap[g]? = some (.cells (w12 nought) t)) (hG : w.heap[gs]? = some (.cells (node16 k l s b d) t'))
    (h : wpList Tryz.prog ops Q rest (a.put o.dst (goInt 10)) (w.setRow g (w10 d nought))) : wpList Tryz.prog ops Q (o :: rest) a w :=
  wpList_plain hgd fun _ hK => by
    have hrun := run_copyN w o.type g gs k l s b d t t' hF hG
    unfold Oper.wp
    simp [execOp, ho, resolve, invoke, builtin, hd, hs, hrun, Result.andThen]
    exact hK _ _ h
theorem heap_new3 (w : World) (A B C : Obj) : (((w.alloc A).alloc B).alloc C).heap[w.heap.size + 2]? = some C := by
  have h := heap_alloc_new ((w.alloc A).alloc B) C
  rwa [World.size_alloc, World.size_alloc] at h
set_option maxRecDepth 20000 in
set_option maxHeartbeats 400000 in
theorem numbers_any (k l s b : Int) (d : Nat → Int) (w : World) :
    Calls Tryz.prog 217 #[.agg (node16 k l s b d)] w fun e w' => e = .returned (.agg (w12 d)) ∧ Below w.heap.size w w' := by
  have z62 := zero62
  go_enter Tryz.func217, Tryz.ntmps217
  go_wp2
  go_still_tail 3, (by kernel_rfl)
  change wpList _ _ _ _ _ (World.drew _)
  have hF : (((w.alloc (.cells (node16 k l s b d) 45)).alloc (.cells (w12 nought) 246)).alloc (.cells (w12 nought) 246)).drew.heap[w.heap.size + 2]? = some (.cells (w12 nought) 246) := by
    show (((w.alloc (.cells (node16 k l s b d) 45)).alloc (.cells (w12 nought) 246)).alloc (.cells (w12 nought) 246)).heap[w.heap.size + 2]? = _
    exact heap_new3 _ _ _ _
  have hG : (((w.alloc (.cells (node16 k l s b d) 45)).alloc (.cells (w12 nought) 246)).alloc (.cells (w12 nought) 246)).drew.heap[w.heap.size]? = some (.cells (node16 k l s b d) 45) := by
    show (((w.alloc (.cells (node16 k l s b d) 45)).alloc (.cells (w12 nought) 246)).alloc (.cells (w12 nought) 246)).heap[w.heap.size]? = _
    rw [heap_alloc_old _ _ (by simp; omega)]
    exact heap_alloc2_old _ _ _
  refine wpList_copyN rfl _ _ rfl (w.heap.size + 2) w.heap.size k l s b d 246 45 rfl rfl hF hG ?_
  have hW : (((w.alloc (.cells (node16 k l s b d) 45)).alloc (.cells (w12 nought) 246)).alloc (.cells (w12 nought) 246)).drew.setRow (w.heap.size + 2) (w10 d nought) = (((w.alloc (.cells (node16 k l s b d) 45)).alloc (.cells (w12 nought) 246)).alloc (.cells (w10 d nought) 246)).drew := by
    have h := World.setRow_alloc_new ((w.alloc (.cells (node16 k l s b d) 45)).alloc (.cells (w12 nought) 246)) (w12 nought) (w10 d nought) 246
    rw [World.size_alloc, World.size_alloc] at h
    exact congrArg World.drew h
  rw [hW]
  clear hF hG hW
  simp only [Act.put, List.setIfInBounds_toArray, List.set_cons_succ, List.set_cons_zero]
  unfold node16 w10
  go_wp2_with (first | refine wpList_stR 246 rfl _ _ rfl _ (w12 d) _ 246 (by rw [w12_size]; exact size62) (by rfl) (w12_one d) rfl rfl (heap3 _ _ _ _) ?_)
  refine retR Tryz.underlying246 rfl rfl (w.heap.size + 1) (w12 d) 246 (by rw [w12_size]; exact size62) rfl (setRow_heap _ _ _ _ _ _ (heap3 _ _ _ _)) rfl ⟨rfl, ?_⟩
  exact below_setRow (bel_al (bel_al (below_new _ _) _) _).drew (by omega) _
end Go.Proofs.YtiejhjngcnkimaaGreatRN
/- The document's put and get over sixty-four bytes, and where a number of an inode stands; places inside. -/
namespace Go.Proofs.YtiejhjngcnkimaaGreatRN
open Go.RowKit
theorem nplace_any (k : Int) (w : World) (h : 0 ≤ k ∧ k ≤ 100) : Calls Tryz.prog 151 #[.int .i64 k] w fun e w' => e = .returned (.int .i64 (12 + 4 * k)) ∧ w' = w := by
  obtain ⟨h0, h1⟩ := h
  go_enter Tryz.func151, Tryz.ntmps151
  go_wp2
  go_ret
  exact ⟨rfl, rfl⟩
end Go.Proofs.YtiejhjngcnkimaaGreatRN
/- Encode of node: the sixty-four bytes of an inode; for every inode. -/
namespace Go.Proofs.YtiejhjngcnkimaaGreatRN
open Go.RowKit
def encN (k l s b : Int) (d : Nat → Int) : Nat → Nat → Int
  | 0 => putN (putN (putN (putN nought 0 k 2) 2 l 2) 4 s 4) 8 b 4
  | m + 1 => putN (encN k l s b d m) (12 + 4 * m) (d m) 4
theorem wpList_ldC {ops : Array Oper} {rest : List Oper} {o : Oper} {a : Act} {w : World} {Q : Exit → Act → World → Prop} (ty : TypeId) (hagg : ∀ w, (isAgg ty).run Tryz.prog w = .ok false w) (hw : Region.wanted o (yielded ops a.tmps) = true) (x : Operand) (ho : o.op = .load ty x)
    (g j : Nat) (hx : a.eval x = .pointer (some ⟨g, j, none⟩)) (v : Value) (hc : w.cell? ⟨g, j, none⟩ = some v)
    (h : wpList Tryz.prog ops Q rest (a.put o.dst v) w) : wpList Tryz.prog ops Q (o :: rest) a w := by
  unfold wpList
  rw [if_pos hw]
  refine .inl ?_
  unfold Oper.wp execOp
  simp only [ho, hx]
  simp [Instr.loadAt, Instr.sureAddr, loadVar, hagg, hc, go_sem]
  exact h
theorem load59 (w : World) (g : Nat) (f : Nat → Int) (h : w.heap[g]? = some (.cells (blk f) 85)) : (loadVar 85 ⟨g, 0, none⟩).run Tryz.prog w = .ok (.agg (blk f)) w :=
  run_loadVar_row w g 85 85 (blk f) (0, 0) _ h Tryz.underlying85 rfl (by rw [blk_size]; exact size25)
theorem wpOrd_loadF {ops : Array Oper} {Q : Exit → Act → World → Prop} {S : World → Prop} {r : List (Bool × Oper)} {a : Act} {w : World} {o : Oper} (hw : Region.wanted o (yielded ops a.tmps) = true)
    (x : Operand) (ho : o.op = .load 85 x) (g : Nat) (hx : a.eval x = .pointer (some ⟨g, 0, none⟩)) (f : Nat → Int) (hg : w.heap[g]? = some (.cells (blk f) 85))
    (h : S w ∧ wpOrd Tryz.prog ops Q S r (a.put o.dst (.agg (blk f))) w) : wpOrd Tryz.prog ops Q S ((false, o) :: r) a w := by
  simp only [wpOrd, hw, if_true]
  unfold Oper.wp execOp
  simp only [ho, hx, Instr.loadAt, Instr.sureAddr, Sem.run_bind, Sem.run_pure, Result.andThen_ok, load59 w g f hg]
  exact h
theorem wpOrd_storeB {ops : Array Oper} {Q : Exit → Act → World → Prop} {S : World → Prop} {r : List (Bool × Oper)} {a : Act} {w : World} {o : Oper} (hw : Region.wanted o (yielded ops a.tmps) = true)
    (x y : Operand) (ho : o.op = .store 85 x y) (g : Nat) (f f0 : Nat → Int) (hx : a.eval x = .pointer (some ⟨g, 0, none⟩)) (hy : a.eval y = .agg (blk f)) (hg : w.heap[g]? = some (.cells (blk f0) 85))
    (h : S (w.setRow g (blk f)) ∧ wpOrd Tryz.prog ops Q S r (a.put o.dst undef) (w.setRow g (blk f))) : wpOrd Tryz.prog ops Q S ((false, o) :: r) a w := by
  simp only [wpOrd, hw, if_true]
  unfold Oper.wp execOp
  simp only [ho, hx, hy, Instr.storeAt, Instr.sureAddr, Sem.run_bind, Sem.run_pure, Result.andThen_ok, run_storeVar_row w g 85 85 (blk f0) (blk f) hg (by rw [blk_size]; exact size25) (by rw [blk_size, blk_size]) (blk_one f)]
  exact h
structure EncS (w W : World) (N : Array Value) (g : Nat) (f : Nat → Int) : Prop where
  node : W.heap[w.heap.size]? = some (.cells N 45)
  res : W.heap[w.heap.size + 1]? = some (.cells (rowA nought 64) 181)
  blk : W.heap[g]? = some (.cells (blk f) 85)
  far : w.heap.size + 2 ≤ g
  bel : Below w.heap.size w W
theorem EncS.call {w W W' : World} {N : Array Value} {g : Nat} {f : Nat → Int} (h : EncS w W N g f) (hb : Below W.heap.size W W') : EncS w W' N g f :=
  ⟨heap_kept h.node hb, heap_kept h.res hb, heap_kept h.blk hb, h.far, below_next h.bel hb⟩
theorem EncS.store {w W : World} {N : Array Value} {g : Nat} {f : Nat → Int} (h : EncS w W N g f) (f' : Nat → Int) : EncS w (W.setRow g (Proofs.YtiejhjngcnkimaaGreatRN.blk f')) N g f' :=
  ⟨(setRow_other _ _ _ _ (by have := h.far; omega)).trans h.node, (setRow_other _ _ _ _ (by have := h.far; omega)).trans h.res, setRow_heap _ _ _ _ _ _ h.blk, h.far, below_setRow h.bel (by have := h.far; omega) _⟩
theorem EncS.drew {w W : World} {N : Array Value} {g : Nat} {f : Nat → Int} (h : EncS w W N g f) : EncS w W.drew N g f := ⟨h.node, h.res, h.blk, h.far, h.bel.drew⟩
theorem EncS.cell {w W : World} {N : Array Value} {g : Nat} {f : Nat → Int} (h : EncS w W N g f) (j : Nat) (v : Value) (hv : N[j]? = some v) : W.cell? ⟨w.heap.size, j, none⟩ = some v :=
  (cell_of_row W _ j N 45 _ h.node).trans hv
set_option maxRecDepth 20000 in
set_option maxHeartbeats 1000000 in
theorem encode_any (k l s b : Int) (d : Nat → Int) (w : World) (h : NodeOk k l s b d) :
    Calls Tryz.prog 156 #[.agg (node16 k l s b d)] w fun e w' => e = .returned (.agg (rowA (encN k l s b d 12) 64)) ∧ Below w.heap.size w w' := by
  have z31 := zero31
  have z25 := zero25
  have c0 : ∀ W : World, Calls Tryz.prog 216 #[.agg (blk nought), .int .i64 0, .int .u16 k] W fun e w' => e = .returned (.agg (blk (putN nought 0 k 2))) ∧ Below W.heap.size W w' := fun W => set16_in _ 0 k W (by omega) h.k
  have c1 : ∀ W : World, Calls Tryz.prog 216 #[.agg (blk (putN nought 0 k 2)), .int .i64 2, .int .u16 l] W fun e w' => e = .returned (.agg (blk (putN (putN nought 0 k 2) 2 l 2))) ∧ Below W.heap.size W w' := fun W => set16_in _ 2 l W (by omega) h.l
  have c2 : ∀ W : World, Calls Tryz.prog 159 #[.agg (blk (putN (putN nought 0 k 2) 2 l 2)), .int .i64 4, .int .u32 s] W fun e w' => e = .returned (.agg (blk (putN (putN (putN nought 0 k 2) 2 l 2) 4 s 4))) ∧ Below W.heap.size W w' := fun W => set32_in _ 4 s W (by omega) h.s
  have c3 : ∀ W : World, Calls Tryz.prog 159 #[.agg (blk (putN (putN (putN nought 0 k 2) 2 l 2) 4 s 4)), .int .i64 8, .int .u32 b] W fun e w' => e = .returned (.agg (blk (encN k l s b d 0))) ∧ Below W.heap.size W w' := fun W => set32_in _ 8 b W (by omega) h.b
  have H4 : Hid (∀ i, 0 ≤ d i ∧ d i < 4294967296) := h.d
  have HS : Hid (∀ (m : Nat) (W : World), m < 12 → Calls Tryz.prog 159 #[.agg (blk (encN k l s b d m)), .int .i64 (12 + 4 * (m : Int)), .int .u32 (d m)] W fun e w' => e = .returned (.agg (blk (encN k l s b d (m + 1)))) ∧ Below W.heap.size W w') := fun m W hm => by
    have := set32_in (encN k l s b d m) (12 + 4 * m) (d m) W (by omega) (h.d m)
    rwa [show ((12 + 4 * m : Nat) : Int) = 12 + 4 * (m : Int) by omega] at this
  have HF : Hid (∀ f : Nat → Int, rowA (from' f 0) 64 = rowA f 64) := fun f => rowA_congr fun i _ => by simp [from']
  have hnum := fun W => numbers_any k l s b d W
  have n0 : (node16 k l s b d)[0]? = some (.int .u16 k) := rfl
  have n1 : (node16 k l s b d)[1]? = some (.int .u16 l) := rfl
  have n2 : (node16 k l s b d)[2]? = some (.int .u32 s) := rfl
  have n3 : (node16 k l s b d)[3]? = some (.int .u32 b) := rfl
  have hsz : (Tryz.prog.info? 45).map (·.size) = some (node16 k l s b d).size := size27
  have N1 : Hid _ := n1
  have N2 : Hid _ := n2
  have N3 : Hid _ := n3
  have HZ : Hid _ := hsz
  clear h n1 n2 n3 hsz
  generalize node16 k l s b d = N at *
  generalize encN k l s b d = E at *
  generalize putN (putN (putN nought 0 k 2) 2 l 2) 4 s 4 = f3 at *
  generalize putN (putN nought 0 k 2) 2 l 2 = f2 at *
  generalize putN nought 0 k 2 = f1 at *
  go_enter Tryz.func156, Tryz.ntmps156
  go_wp2_with (first | (go_at_call 216; fail))
  refine (c0 _).mono ?_
  rintro e W1 ⟨rfl, hb1⟩
  have S1 : EncS w (W1.alloc (.cells (blk f1) 85)) N W1.heap.size f1 :=
    ⟨heap_kept (heap_kept (heap_alloc2_old w _ _) hb1) (below_new _ _), heap_kept (heap_kept (heap_alloc2_new w _ _) hb1) (below_new _ _), heap_alloc_new _ _, by have := hb1.size; simpa using this, below_next (below_next (bel_al (below_new _ _) _) hb1) (below_new _ _)⟩
  have HS1 : Hid _ := S1
  clear c0 S1 hb1 n0
  go_wp2_with (first | refine wpList_store25_new rfl _ _ rfl _ _ rfl rfl ?_ | refine wpList_load25 rfl _ rfl _ rfl _ HS1.out.blk ?_ | refine wpList_ldC 40 (fun w => Tryz.isAgg40 w) rfl _ rfl _ _ rfl _ (HS1.out.cell 1 _ N1.out) ?_ | (go_at_call 216; fail))
  refine (c1 _).mono ?_
  rintro e W2 ⟨rfl, hb⟩
  have HS2 : Hid _ := HS1.out.call hb
  clear hb HS1 c1 N1
  go_wp2_with (first | refine wpList_store25 rfl _ _ rfl _ _ rfl rfl _ HS2.out.blk ?_ | refine wpList_load25 rfl _ rfl _ rfl _ (HS2.out.store f2).blk ?_ | refine wpList_ldC 42 (fun w => Tryz.isAgg42 w) rfl _ rfl _ _ rfl _ ((HS2.out.store f2).cell 2 _ N2.out) ?_ | (go_at_call 159; fail))
  refine (c2 _).mono ?_
  rintro e W3 ⟨rfl, hb⟩
  have HS3 : Hid _ := (HS2.out.store f2).call hb
  clear hb HS2 c2 N2
  go_wp2_with (first | refine wpList_store25 rfl _ _ rfl _ _ rfl rfl _ HS3.out.blk ?_ | refine wpList_load25 rfl _ rfl _ rfl _ (HS3.out.store f3).blk ?_ | refine wpList_ldC 42 (fun w => Tryz.isAgg42 w) rfl _ rfl _ _ rfl _ ((HS3.out.store f3).cell 3 _ N3.out) ?_ | (go_at_call 159; fail))
  refine (c3 _).mono ?_
  rintro e W4 ⟨rfl, hb⟩
  have HS4 : Hid _ := (HS3.out.store f3).call hb
  clear hb HS3 c3 N3
  go_wp2_with (first | refine wpList_store25 rfl _ _ rfl _ _ rfl rfl _ HS4.out.blk ?_ | refine wpList_ldR 45 Tryz.underlying45 rfl rfl _ rfl _ rfl _ 45 (0, 0) HZ.out (HS4.out.store (E 0)).node ?_ | (go_at_call 217; fail))
  refine (hnum _).mono ?_
  rintro e W5 ⟨rfl, hb⟩
  have HS5 : Hid _ := (HS4.out.store (E 0)).call hb
  clear hb HS4 hnum HZ
  go_wp2
  go_loopw [24] (fun s24 wx => ∃ m : Nat, m ≤ 12 ∧ s24 = .int .i64 m ∧ EncS w wx N W1.heap.size (E m)) (fun s24 _ => 12 - (intOf s24).toNat)
  case atStart => exact ⟨0, by omega, rfl, HS5.out⟩
  case round =>
    obtain ⟨m, hm, rfl, hst⟩ := hrel
    have HT : Hid _ := hst
    clear hst HS5
    by_cases h12 : (m : Int) < 12
    · have hidx := idx62 d m (by omega)
      have hst := fun W => HS.out m W (by omega)
      have hx := H4.out m
      generalize d m = x at *
      have HST : Hid _ := hst
      have HX : Hid _ := hx
      have HPL : Hid _ := fun (W : World) => nplace_any m W (by omega)
      clear hst hx HS H4
      go_wp2
      refine wp_region_fork (S := fun _ => True) [1, 3] 0 2 [(4, false), (5, false)] (by kernel_rfl) rfl (by kernel_rfl) (fun d _ _ _ _ h => by cases d <;> exact h) trivial ?_
      refine wpFork_yield (v := .int .i64 (m : Int)) rfl rfl (fun u _ => by simp [execOp, Act.eval]) ?_
      simp only [Act.put, List.setIfInBounds_toArray, List.set_cons_succ, List.set_cons_zero]
      refine wpFork_yield (v := .int .u32 x) rfl rfl (fun u _ => by simp [execOp, Act.eval]) ?_
      simp only [Act.put, List.setIfInBounds_toArray, List.set_cons_succ, List.set_cons_zero]
      have HD : Hid _ := HT.out.drew
      clear HT
      generalize wr.drew = wd at *
      refine wpFork_nil rfl rfl ?_ ?_
      · simp only [inOrd, List.getElem?_cons_zero, List.getElem?_cons_succ]
        refine wpOrd_loadF rfl _ rfl _ rfl _ HD.out.blk ⟨trivial, ?_⟩
        simp only [Act.put, List.setIfInBounds_toArray, List.set_cons_succ, List.set_cons_zero]
        refine wpOrd_call rfl 151 _ _ rfl Tryz.call151 [.int .i64 (m : Int)] rfl ?_
        refine (HPL.out _).mono ?_
        rintro e' X ⟨rfl, rfl⟩
        refine ⟨_, rfl, trivial, ?_⟩
        simp only [Act.put, List.setIfInBounds_toArray, List.set_cons_succ, List.set_cons_zero]
        refine wpOrd_call rfl 159 _ _ rfl Tryz.call159 [.agg (blk (E m)), .int .i64 (12 + 4 * (m : Int)), .int .u32 x] rfl ?_
        refine (HST.out _).mono ?_
        rintro e' X ⟨rfl, hbx⟩
        refine ⟨_, rfl, trivial, ?_⟩
        simp only [Act.put, List.setIfInBounds_toArray, List.set_cons_succ, List.set_cons_zero]
        have HX1 : Hid _ := HD.out.call hbx
        refine wpOrd_storeB rfl _ _ rfl W1.heap.size (E (m + 1)) _ rfl rfl HX1.out.blk ⟨trivial, ?_⟩
        refine wpOrd_nil ?_
        have HX2 : Hid _ := HX1.out.store (E (m + 1))
        simp only [Act.put]
        generalize X.setRow W1.heap.size (blk (E (m + 1))) = Y at HX2 ⊢
        clear HX1 HD hbx HST HPL
        go_wp2
        exact ⟨⟨m + 1, by omega, by go_num, HX2.out⟩, by simp [intOf]; omega⟩
      · simp only [inOrd, List.getElem?_cons_zero, List.getElem?_cons_succ]
        refine wpOrd_call rfl 151 _ _ rfl Tryz.call151 [.int .i64 (m : Int)] rfl ?_
        refine (HPL.out _).mono ?_
        rintro e' X ⟨rfl, rfl⟩
        refine ⟨_, rfl, trivial, ?_⟩
        simp only [Act.put, List.setIfInBounds_toArray, List.set_cons_succ, List.set_cons_zero]
        refine wpOrd_loadF rfl _ rfl _ rfl _ HD.out.blk ⟨trivial, ?_⟩
        simp only [Act.put, List.setIfInBounds_toArray, List.set_cons_succ, List.set_cons_zero]
        refine wpOrd_call rfl 159 _ _ rfl Tryz.call159 [.agg (blk (E m)), .int .i64 (12 + 4 * (m : Int)), .int .u32 x] rfl ?_
        refine (HST.out _).mono ?_
        rintro e' X ⟨rfl, hbx⟩
        refine ⟨_, rfl, trivial, ?_⟩
        simp only [Act.put, List.setIfInBounds_toArray, List.set_cons_succ, List.set_cons_zero]
        have HX1 : Hid _ := HD.out.call hbx
        refine wpOrd_storeB rfl _ _ rfl W1.heap.size (E (m + 1)) _ rfl rfl HX1.out.blk ⟨trivial, ?_⟩
        refine wpOrd_nil ?_
        have HX2 : Hid _ := HX1.out.store (E (m + 1))
        simp only [Act.put]
        generalize X.setRow W1.heap.size (blk (E (m + 1))) = Y at HX2 ⊢
        clear HX1 HD hbx HST HPL
        go_wp2
        exact ⟨⟨m + 1, by omega, by go_num, HX2.out⟩, by simp [intOf]; omega⟩
    · obtain rfl : m = 12 := by omega
      clear hm HS H4
      have hpc := fun W => piece_any (E 12) 0 64 W (by omega) (by omega)
      have e1 : insLo 0 64 = 0 := by decide
      have e2 : insHi 0 64 = 64 := by decide
      rw [e1, e2] at hpc
      simp only [Nat.sub_zero] at hpc
      rw [HF.out] at hpc
      clear HF e1 e2
      go_wp2_with (first | refine wpList_load25 rfl _ rfl _ rfl _ HT.out.blk ?_ | (go_at_call 218; fail))
      refine (hpc _).mono ?_
      rintro e' X ⟨rfl, hX, hXs, hbx⟩
      have HX1 : Hid _ := HT.out.call hbx
      have HR : Hid _ := hX
      clear hpc hX hXs hbx HT
      have ha := fun u => arrayAt31 (some ⟨wr.heap.size + 1, 0, none⟩) 64 64 (by omega) u
      go_wp2_with (first | refine wpList_ldR 181 Tryz.underlying181 rfl rfl _ rfl _ rfl _ 5 (0, 0) (by rw [rowA_size]; exact size31) HR.out ?_ | refine wpList_stR 181 rfl _ _ rfl _ _ _ 181 (by rw [rowA_size]; exact size31) (by simp only [rowA_size]) (row64_one _) rfl rfl HX1.out.res ?_)
      exact retR Tryz.underlying181 rfl rfl (w.heap.size + 1) _ 181 (by rw [rowA_size]; exact size31) rfl (setRow_heap _ _ _ _ _ _ HX1.out.res) rfl ⟨rfl, below_setRow HX1.out.bel (by omega) _⟩
end Go.Proofs.YtiejhjngcnkimaaGreatRN
/- Rows loaded and stored in regions whose order is drawn; no condition. -/
namespace Go.Proofs.YtiejhjngcnkimaaGreatRN
open Go.RowKit
section
variable {ops : Array Oper} {Q : Exit → Act → World → Prop} {S : World → Prop} {r : List (Bool × Oper)} {a : Act} {w : World} {o : Oper}
theorem wpOrd_ldRT (ty : TypeId) {d : TypeDesc} (hu : Tryz.prog.underlying ty = some d) (hd : d.isRow = true) (hw : Region.wanted o (yielded ops a.tmps) = true)
    (x : Operand) (ho : o.op = .load ty x) (g : Nat) (hx : a.eval x = .pointer (some ⟨g, 0, none⟩)) (cs : Array Value) (t : TypeId) (fr : Nat × Nat) (hi : (Tryz.prog.info? ty).map (·.size) = some cs.size) (hg : ∀ u, S u → u.heap[g]? = some (.cells cs t fr))
    (h : wpOrd Tryz.prog ops Q S r (a.put o.dst (.agg cs)) w) : wpOrd Tryz.prog ops Q S ((true, o) :: r) a w := by
  refine wpOrd_yield hw (fun u hS => ?_) h
  unfold execOp
  simp only [ho, hx, Instr.loadAt, Instr.sureAddr, Sem.run_bind, Sem.run_pure, Result.andThen_ok, run_loadVar_row u g t ty cs fr d (hg u hS) hu (by cases d <;> first | rfl | cases hd) hi]
theorem wpOrd_ldCT (ty : TypeId) (hagg : ∀ w, (isAgg ty).run Tryz.prog w = .ok false w) (hw : Region.wanted o (yielded ops a.tmps) = true)
    (x : Operand) (ho : o.op = .load ty x) (g j : Nat) (hx : a.eval x = .pointer (some ⟨g, j, none⟩)) (v : Value) (hc : ∀ u, S u → u.cell? ⟨g, j, none⟩ = some v)
    (h : wpOrd Tryz.prog ops Q S r (a.put o.dst v) w) : wpOrd Tryz.prog ops Q S ((true, o) :: r) a w := by
  refine wpOrd_yield hw (fun u hS => ?_) h
  have hc' := hc u hS
  unfold execOp
  simp only [ho, hx]
  simp [Instr.loadAt, Instr.sureAddr, loadVar, hagg, hc', go_sem]
theorem wpOrd_stR (ty : TypeId) (hw : Region.wanted o (yielded ops a.tmps) = true)
    (x y : Operand) (ho : o.op = .store ty x y) (g : Nat) (cs c0 : Array Value) (t : TypeId) (hi : (Tryz.prog.info? ty).map (·.size) = some cs.size) (hs : c0.size = cs.size) (h1 : cs.all (·.oneCell') = true)
    (hx : a.eval x = .pointer (some ⟨g, 0, none⟩)) (hy : a.eval y = .agg cs) (hg : w.heap[g]? = some (.cells c0 t))
    (h : S (w.setRow g cs) ∧ wpOrd Tryz.prog ops Q S r (a.put o.dst undef) (w.setRow g cs)) : wpOrd Tryz.prog ops Q S ((false, o) :: r) a w := by
  simp only [wpOrd, hw, if_true]
  unfold Oper.wp execOp
  simp only [ho, hx, hy, Instr.storeAt, Instr.sureAddr, Sem.run_bind, Sem.run_pure, Result.andThen_ok, run_storeVar_row w g t ty c0 cs hg hi hs h1]
  exact h
end
end Go.Proofs.YtiejhjngcnkimaaGreatRN
/- Decode of node: the inode that sixty-four bytes say; for all bytes. -/
namespace Go.Proofs.YtiejhjngcnkimaaGreatRN
open Go.RowKit
theorem info24 : ∃ i0, Tryz.prog.info? 42 = some i0 ∧ i0.size = 1 := by
  have h : (Tryz.prog.info? 42).map (·.size) = some 1 := by kernel_rfl
  cases hq : Tryz.prog.info? 42 with
  | none => rw [hq] at h; cases h
  | some i => exact ⟨i, rfl, by simpa [hq] using h⟩
theorem run_stC (w : World) (g j : Nat) (cs : Array Value) (t : TypeId) (hg : w.heap[g]? = some (.cells cs t)) (hj : j < cs.size) (x : Int) :
    (Instr.storeAt 42 (.pointer (some ⟨g, j, none⟩)) (.int .u32 x)).run Tryz.prog w = .ok () (w.setRow g (cs.setIfInBounds j (.int .u32 x))) := by
  obtain ⟨i0, hi0, hz⟩ := info24
  have hc : w.cell? ⟨g, j, none⟩ = some cs[j] := by rw [cell_of_row w g j cs t _ hg]; simp
  have hf : w.frozen? ⟨g, j, none⟩ = false := by simp [World.frozen?, hg]
  have hr := setCell_eq_setRow w g j cs t (0, 0) (.int .u32 x) hg
  simp [Instr.storeAt, Instr.sureAddr, storeVar, sizeOf, typeInfo, hi0, hz, storeCells, go_sem, hc, hf, hr]
theorem wpOrd_stC {ops : Array Oper} {Q : Exit → Act → World → Prop} {S : World → Prop} {r : List (Bool × Oper)} {a : Act} {w : World} {o : Oper} (hw : Region.wanted o (yielded ops a.tmps) = true)
    (p y : Operand) (ho : o.op = .store 42 p y) (g j : Nat) (cs : Array Value) (t : TypeId) (x : Int) (hj : j < cs.size) (hx : a.eval p = .pointer (some ⟨g, j, none⟩)) (hy : a.eval y = .int .u32 x) (hg : w.heap[g]? = some (.cells cs t))
    (h : S (w.setRow g (cs.setIfInBounds j (.int .u32 x))) ∧ wpOrd Tryz.prog ops Q S r (a.put o.dst undef) (w.setRow g (cs.setIfInBounds j (.int .u32 x)))) : wpOrd Tryz.prog ops Q S ((false, o) :: r) a w := by
  simp only [wpOrd, hw, if_true]
  unfold Oper.wp execOp
  simp only [ho, hx, hy, Sem.run_bind, run_stC w g j cs t hg hj x, Sem.run_pure, Result.andThen_ok]
  exact h
theorem numN_congr {F f : Nat → Int} : ∀ (n k : Nat), (∀ i, i < k + n → F i = f i) → numN F k n = numN f k n
  | 0, _, _ => rfl
  | n + 1, k, h => by
    simp only [numN]
    rw [h k (by omega), numN_congr n (k + 1) fun i hi => h i (by omega)]
theorem from_lay (f : Nat → Int) (k n : Nat) (h : k + n ≤ 64) : numN (layF nought 0 64 f) k n = numN f k n := numN_congr n k fun i hi => by
  unfold layF; rw [if_pos (by omega)]; congr 1
theorem from_byte (f : Nat → Int) (hf : ∀ i, 0 ≤ f i ∧ f i ≤ 255) (i : Nat) : 0 ≤ layF nought 0 64 f i ∧ layF nought 0 64 f i ≤ 255 := by
  unfold layF; split
  · exact hf _
  · exact ⟨Int.le_refl _, show (0 : Int) ≤ 255 by decide⟩
def decD (f : Nat → Int) : Nat → Int := fun i => numN f (12 + 4 * i) 4
def decN (f : Nat → Int) : Array Value := node16 (numN f 0 2) (numN f 2 2) (numN f 4 4) (numN f 8 4) (decD f)
structure DecS (w W : World) (g : Nat) (F e : Nat → Int) : Prop where
  res : W.heap[w.heap.size + 1]? = some (.cells (node16 0 0 0 0 nought) 45)
  blk : W.heap[g]? = some (.cells (blk F) 85)
  row : W.heap[g + 1]? = some (.cells (w12 e) 246)
  far : w.heap.size + 2 ≤ g
  bel : Below w.heap.size w W
theorem DecS.call {w W W' : World} {g : Nat} {F e : Nat → Int} (h : DecS w W g F e) (hb : Below W.heap.size W W') : DecS w W' g F e :=
  ⟨heap_kept h.res hb, heap_kept h.blk hb, heap_kept h.row hb, h.far, below_next h.bel hb⟩
theorem DecS.store {w W : World} {g : Nat} {F e : Nat → Int} (h : DecS w W g F e) (e' : Nat → Int) : DecS w (W.setRow (g + 1) (w12 e')) g F e' :=
  ⟨(setRow_other _ _ _ _ (by have := h.far; omega)).trans h.res, (setRow_other _ _ _ _ (by omega)).trans h.blk, setRow_heap _ _ _ _ _ _ h.row, h.far, below_setRow h.bel (by have := h.far; omega) _⟩
theorem DecS.drew {w W : World} {g : Nat} {F e : Nat → Int} (h : DecS w W g F e) : DecS w W.drew g F e := ⟨h.res, h.blk, h.row, h.far, h.bel.drew⟩
theorem load10 (u : World) (g : Nat) (d : Nat → Int) (t : TypeId) (h : u.heap[g]? = some (.cells (w12 d) t)) : (Instr.loadAt 43 (.pointer (some ⟨g, 0, none⟩))).run Tryz.prog u =
    .ok (.agg #[.int .u32 (d 0), .int .u32 (d 1), .int .u32 (d 2), .int .u32 (d 3), .int .u32 (d 4), .int .u32 (d 5), .int .u32 (d 6), .int .u32 (d 7), .int .u32 (d 8), .int .u32 (d 9)]) u :=
  run_loadAt_mid u g 0 43 [.int .u32 (d 0), .int .u32 (d 1), .int .u32 (d 2), .int .u32 (d 3), .int .u32 (d 4), .int .u32 (d 5), .int .u32 (d 6), .int .u32 (d 7), .int .u32 (d 8), .int .u32 (d 9)] _ (fun j v hv => by
    rw [cell_of_row u g _ _ t _ h]
    match j, hv with
    | 0, hv | 1, hv | 2, hv | 3, hv | 4, hv | 5, hv | 6, hv | 7, hv | 8, hv | 9, hv => exact hv
    | j + 10, hv => simp at hv) Tryz.underlying43 rfl (by kernel_rfl)
set_option maxRecDepth 20000 in
set_option maxHeartbeats 1000000 in
theorem decode_any (f : Nat → Int) (w : World) (hf : ∀ i, 0 ≤ f i ∧ f i ≤ 255) :
    Calls Tryz.prog 100 #[.agg (rowA f 64)] w fun e w' => e = .returned (.agg (decN f)) ∧ Below w.heap.size w w' := by
  have z27 := zero27
  have z25 := zero25
  have z62 := zero62
  have hby := from_byte f hf
  have C0 : Hid (∀ W : World, Calls Tryz.prog 152 #[.agg (blk (layF nought 0 64 f)), .int .i64 0] W fun e w' => e = .returned (.int .u16 (numN f 0 2)) ∧ Below W.heap.size W w') := fun W => by
    have := u16_any (layF nought 0 64 f) ((0 : Nat) : Int) W hby; rwa [num_in _ _ _ (by omega), from_lay f 0 2 (by omega)] at this
  have C1 : Hid (∀ W : World, Calls Tryz.prog 152 #[.agg (blk (layF nought 0 64 f)), .int .i64 2] W fun e w' => e = .returned (.int .u16 (numN f 2 2)) ∧ Below W.heap.size W w') := fun W => by
    have := u16_any (layF nought 0 64 f) ((2 : Nat) : Int) W hby; rwa [num_in _ _ _ (by omega), from_lay f 2 2 (by omega)] at this
  have C2 : Hid (∀ W : World, Calls Tryz.prog 150 #[.agg (blk (layF nought 0 64 f)), .int .i64 4] W fun e w' => e = .returned (.int .u32 (numN f 4 4)) ∧ Below W.heap.size W w') := fun W => by
    have := u32_any (layF nought 0 64 f) ((4 : Nat) : Int) W hby; rwa [num_in _ _ _ (by omega), from_lay f 4 4 (by omega)] at this
  have C3 : Hid (∀ W : World, Calls Tryz.prog 150 #[.agg (blk (layF nought 0 64 f)), .int .i64 8] W fun e w' => e = .returned (.int .u32 (numN f 8 4)) ∧ Below W.heap.size W w') := fun W => by
    have := u32_any (layF nought 0 64 f) ((8 : Nat) : Int) W hby; rwa [num_in _ _ _ (by omega), from_lay f 8 4 (by omega)] at this
  have CM : Hid (∀ (m : Nat) (W : World), m < 12 → Calls Tryz.prog 150 #[.agg (blk (layF nought 0 64 f)), .int .i64 (12 + 4 * (m : Int))] W fun e w' => e = .returned (.int .u32 (decD f m)) ∧ Below W.heap.size W w') := fun m W hm => by
    have := u32_any (layF nought 0 64 f) ((12 + 4 * m : Nat) : Int) W hby
    rw [num_in _ _ _ (by omega), from_lay f (12 + 4 * m) 4 (by omega)] at this
    rwa [show ((12 + 4 * m : Nat) : Int) = 12 + 4 * (m : Int) by omega] at this
  have hlay := fun (W : World) (p : Value) (hp : Lies W p 64 f) => lay_any nought 0 p 64 f W (by omega) hp
  have hl : Lies ((w.alloc (.cells (rowA f 64) 181)).alloc (.cells (node16 0 0 0 0 nought) 45)) (.slice (some ⟨w.heap.size, 0, none⟩) 64 64) 64 f :=
    .inr ⟨w.heap.size, 0, 64, rfl, by unfold maxLen; omega, by omega, by simp; omega, fun i hi => by rw [Nat.zero_add]; exact cell_row (heap_alloc2_old _ _ _) i hi⟩
  have HLAY := hlay _ _ hl
  unfold decN
  generalize numN f 0 2 = x0 at *
  generalize numN f 2 2 = x1 at *
  generalize numN f 4 4 = x2 at *
  generalize numN f 8 4 = x3 at *
  generalize layF nought 0 64 f = F at *
  generalize decD f = d at *
  clear hlay hby hl
  go_enter Tryz.func100, Tryz.ntmps100
  go_wp2_with (first | (go_at_call 149; fail))
  refine HLAY.mono ?_
  rintro e W1 ⟨rfl, hb1⟩
  have HS1 : Hid (DecS w ((W1.alloc (.cells (blk F) 85)).alloc (.cells (w12 nought) 246)) W1.heap.size F nought) :=
    ⟨heap_kept (heap_kept (heap_kept (heap_alloc2_new w _ _) hb1) (below_new _ _)) (below_new _ _), heap_alloc2_old _ _ _, heap_alloc2_new _ _ _, by have := hb1.size; simpa using this, below_next (below_next (below_next (bel_al (below_new _ _) _) hb1) (below_new _ _)) (below_new _ _)⟩
  clear HLAY hb1
  go_wp2_with (first | refine wpList_store25_new rfl _ _ rfl _ _ rfl rfl ?_)
  go_loopw [9] (fun s9 wx => ∃ (m : Nat) (e : Nat → Int), m ≤ 12 ∧ s9 = .int .i64 m ∧ (∀ i, i < m → e i = d i) ∧ DecS w wx W1.heap.size F e) (fun s9 _ => 12 - (intOf s9).toNat)
  case atStart => exact ⟨0, nought, by omega, rfl, fun i hi => absurd hi (by omega), HS1.out⟩
  case round =>
    obtain ⟨m, e, hm, rfl, he, hst⟩ := hrel
    have HT : Hid _ := hst
    have HE : Hid _ := he
    clear hst he HS1
    by_cases h12 : (m : Int) < 12
    · have HST : Hid _ := fun W => CM.out m W (by omega)
      have HPL : Hid _ := fun (W : World) => nplace_any m W (by omega)
      have HU : Hid (∀ i, i < m + 1 → upd e m (d m) i = d i) := fun i hi => by
        unfold upd; split
        · rename_i q; rw [q]
        · exact HE.out i (by omega)
      clear C0 C1 C2 C3 CM HE
      generalize d m = x at *
      go_wp2
      have HD : Hid _ := HT.out.drew
      clear HT
      refine wp_region_ord (S := fun u => u.heap[W1.heap.size]? = some (.cells (blk F) 85)) [(0, true), (1, true), (2, true), (3, false), (4, false), (5, true), (6, false)]
        (by kernel_rfl) rfl (by kernel_rfl) (fun d _ _ _ _ h => by cases d <;> exact h) HD.out.blk ?_
      generalize wr.drew = wd at *
      simp only [inOrd, List.getElem?_cons_zero, List.getElem?_cons_succ]
      refine wpOrd_yield (v := .int .i64 (m : Int)) rfl (fun u _ => by simp [execOp, Act.eval]) ?_
      simp only [Act.put, List.setIfInBounds_toArray, List.set_cons_succ, List.set_cons_zero]
      refine wpOrd_ldRT 85 Tryz.underlying85 rfl rfl _ rfl _ rfl (blk F) 85 (0, 0) (by rw [blk_size]; exact size25) (fun u hu => hu) ?_
      simp only [Act.put, List.setIfInBounds_toArray, List.set_cons_succ, List.set_cons_zero]
      refine wpOrd_yield (v := .int .i64 (m : Int)) rfl (fun u _ => by simp [execOp, Act.eval]) ?_
      simp only [Act.put, List.setIfInBounds_toArray, List.set_cons_succ, List.set_cons_zero]
      refine wpOrd_call rfl 151 _ _ rfl Tryz.call151 [.int .i64 (m : Int)] rfl ?_
      refine (HPL.out _).mono ?_
      rintro e' X ⟨rfl, rfl⟩
      refine ⟨_, rfl, HD.out.blk, ?_⟩
      simp only [Act.put, List.setIfInBounds_toArray, List.set_cons_succ, List.set_cons_zero]
      refine wpOrd_call rfl 150 _ _ rfl Tryz.call150 [.agg (blk F), .int .i64 (12 + 4 * (m : Int))] rfl ?_
      refine (HST.out _).mono ?_
      rintro e' X ⟨rfl, hbx⟩
      have HX1 : Hid _ := HD.out.call hbx
      refine ⟨_, rfl, HX1.out.blk, ?_⟩
      simp only [Act.put, List.setIfInBounds_toArray, List.set_cons_succ, List.set_cons_zero]
      refine wpOrd_yield (v := .pointer (some ⟨W1.heap.size + 1, m, none⟩)) rfl (fun u _ => by go_simp) ?_
      simp only [Act.put, List.setIfInBounds_toArray, List.set_cons_succ, List.set_cons_zero]
      have HX2 : Hid _ := HX1.out.store (upd e m x)
      refine wpOrd_stC rfl _ _ rfl (W1.heap.size + 1) m (w12 e) 246 x (by rw [w12_size]; omega) rfl rfl HX1.out.row ?_
      rw [w12_set]
      refine ⟨HX2.out.blk, ?_⟩
      refine wpOrd_nil ?_
      simp only [Act.put]
      generalize X.setRow (W1.heap.size + 1) (w12 (upd e m x)) = Y at HX2 ⊢
      clear HX1 HD hbx HST HPL
      go_wp2
      exact ⟨⟨m + 1, upd e m x, by omega, by go_num, HU.out, HX2.out⟩, by simp [intOf]; omega⟩
    · obtain rfl : m = 12 := by omega
      have HC : Hid (node16 x0 x1 x2 x3 e = node16 x0 x1 x2 x3 d) := node_congr rfl rfl rfl rfl HE.out
      clear hm CM HE
      go_wp2
      have HD : Hid _ := HT.out.drew
      clear HT
      have ha := fun u => arrayAt25 (some ⟨W1.heap.size + 1, 0, none⟩) 10 12 (by omega) u
      refine wp_region_ord (S := fun u => u.heap[W1.heap.size]? = some (.cells (blk F) 85) ∧ u.heap[W1.heap.size + 1]? = some (.cells (w12 e) 246)) [(0, true), (2, true), (4, true), (6, true), (8, true), (9, true), (10, true), (11, true), (12, true), (13, true), (14, true), (1, false), (3, false), (5, false), (7, false), (15, true), (16, false)]
        (by kernel_rfl) rfl (by kernel_rfl) (fun d _ _ _ _ h => by cases d <;> exact h) ⟨HD.out.blk, HD.out.row⟩ ?_
      generalize wr.drew = wd at *
      simp only [inOrd, List.getElem?_cons_zero, List.getElem?_cons_succ]
      iterate 4
        refine wpOrd_ldRT 85 Tryz.underlying85 rfl rfl _ rfl _ rfl (blk F) 85 (0, 0) (by rw [blk_size]; exact size25) (fun u hu => hu.1) ?_
        simp only [Act.put, List.setIfInBounds_toArray, List.set_cons_succ, List.set_cons_zero]
      refine wpOrd_yield (v := .slice (some ⟨W1.heap.size + 1, 0, none⟩) 10 12) rfl (fun u _ => by go_simp) ?_
      simp only [Act.put, List.setIfInBounds_toArray, List.set_cons_succ, List.set_cons_zero]
      refine wpOrd_yield (v := .pointer (some ⟨W1.heap.size + 1, 0, none⟩)) rfl (fun u _ => by simp [execOp, Act.eval, ha]) ?_
      simp only [Act.put, List.setIfInBounds_toArray, List.set_cons_succ, List.set_cons_zero]
      refine wpOrd_yield (v := .agg #[.int .u32 (e 0), .int .u32 (e 1), .int .u32 (e 2), .int .u32 (e 3), .int .u32 (e 4), .int .u32 (e 5), .int .u32 (e 6), .int .u32 (e 7), .int .u32 (e 8), .int .u32 (e 9)]) rfl (fun u hu => by simp [execOp, Act.eval, load10 u _ e 246 hu.2]) ?_
      simp only [Act.put, List.setIfInBounds_toArray, List.set_cons_succ, List.set_cons_zero]
      refine wpOrd_yield (v := .pointer (some ⟨W1.heap.size + 1, 10, none⟩)) rfl (fun u _ => by go_simp) ?_
      simp only [Act.put, List.setIfInBounds_toArray, List.set_cons_succ, List.set_cons_zero]
      refine wpOrd_ldCT 42 (fun w => Tryz.isAgg42 w) rfl _ rfl _ _ rfl (.int .u32 (e 10)) (fun u hu => (cell_of_row u _ 10 _ 246 _ hu.2).trans rfl) ?_
      simp only [Act.put, List.setIfInBounds_toArray, List.set_cons_succ, List.set_cons_zero]
      refine wpOrd_yield (v := .pointer (some ⟨W1.heap.size + 1, 11, none⟩)) rfl (fun u _ => by go_simp) ?_
      simp only [Act.put, List.setIfInBounds_toArray, List.set_cons_succ, List.set_cons_zero]
      refine wpOrd_ldCT 42 (fun w => Tryz.isAgg42 w) rfl _ rfl _ _ rfl (.int .u32 (e 11)) (fun u hu => (cell_of_row u _ 11 _ 246 _ hu.2).trans rfl) ?_
      simp only [Act.put, List.setIfInBounds_toArray, List.set_cons_succ, List.set_cons_zero]
      refine wpOrd_call rfl 152 _ _ rfl Tryz.call152 [.agg (blk F), .int .i64 0] rfl ?_
      refine (C0.out _).mono ?_
      rintro e' X1 ⟨rfl, hbx⟩
      have HD1 : Hid _ := HD.out.call hbx
      clear hbx HD C0
      refine ⟨_, rfl, ⟨HD1.out.blk, HD1.out.row⟩, ?_⟩
      simp only [Act.put, List.setIfInBounds_toArray, List.set_cons_succ, List.set_cons_zero]
      refine wpOrd_call rfl 152 _ _ rfl Tryz.call152 [.agg (blk F), .int .i64 2] rfl ?_
      refine (C1.out _).mono ?_
      rintro e' X2 ⟨rfl, hbx⟩
      have HD2 : Hid _ := HD1.out.call hbx
      clear hbx HD1 C1
      refine ⟨_, rfl, ⟨HD2.out.blk, HD2.out.row⟩, ?_⟩
      simp only [Act.put, List.setIfInBounds_toArray, List.set_cons_succ, List.set_cons_zero]
      refine wpOrd_call rfl 150 _ _ rfl Tryz.call150 [.agg (blk F), .int .i64 4] rfl ?_
      refine (C2.out _).mono ?_
      rintro e' X3 ⟨rfl, hbx⟩
      have HD3 : Hid _ := HD2.out.call hbx
      clear hbx HD2 C2
      refine ⟨_, rfl, ⟨HD3.out.blk, HD3.out.row⟩, ?_⟩
      simp only [Act.put, List.setIfInBounds_toArray, List.set_cons_succ, List.set_cons_zero]
      refine wpOrd_call rfl 150 _ _ rfl Tryz.call150 [.agg (blk F), .int .i64 8] rfl ?_
      refine (C3.out _).mono ?_
      rintro e' X4 ⟨rfl, hbx⟩
      have HD4 : Hid _ := HD3.out.call hbx
      clear hbx HD3 C3
      refine ⟨_, rfl, ⟨HD4.out.blk, HD4.out.row⟩, ?_⟩
      simp only [Act.put, List.setIfInBounds_toArray, List.set_cons_succ, List.set_cons_zero]
      refine wpOrd_yield (v := .agg (node16 x0 x1 x2 x3 e)) rfl (fun u _ => by unfold node16 at z27 ⊢; go_simp) ?_
      simp only [Act.put, List.setIfInBounds_toArray, List.set_cons_succ, List.set_cons_zero]
      rw [HC.out]
      refine wpOrd_stR 45 rfl _ _ rfl (w.heap.size + 1) (node16 x0 x1 x2 x3 d) _ 45 (by exact size27) (by rfl) (node_one _ _ _ _ _) rfl rfl HD4.out.res ⟨⟨(setRow_other _ _ _ _ (by have := HD4.out.far; omega)).trans HD4.out.blk, (setRow_other _ _ _ _ (by have := HD4.out.far; omega)).trans HD4.out.row⟩, ?_⟩
      refine wpOrd_nil ?_
      simp only [Act.put]
      have HRR : Hid _ := setRow_heap _ (w.heap.size + 1) _ (node16 x0 x1 x2 x3 d) 45 (0, 0) HD4.out.res
      have HBB : Hid _ := below_setRow HD4.out.bel (show w.heap.size ≤ w.heap.size + 1 by omega) (node16 x0 x1 x2 x3 d)
      generalize X4.setRow (w.heap.size + 1) (node16 x0 x1 x2 x3 d) = Y at HRR HBB ⊢
      clear HD4
      go_wp2
      exact retR Tryz.underlying45 rfl rfl (w.heap.size + 1) _ 45 (by exact size27) rfl HRR.out rfl ⟨rfl, HBB.out⟩
end Go.Proofs.YtiejhjngcnkimaaGreatRN
/- An inode out of a shelf, and the rack's Read. -/
namespace Go.Proofs.YtiejhjngcnkimaaGreatR
open Go.RowKit Go.Maps
def frB (f : Nat → Int) (lo : Nat) : Nat → Int := fun i => f (lo + i)
def nodN (f : Nat → Int) (lo : Nat) : Array Value := Go.Proofs.YtiejhjngcnkimaaGreatRN.decN (frB f lo)
theorem nodN_size (f : Nat → Int) (lo : Nat) : (nodN f lo).size = 16 := rfl
theorem nodN_info (f : Nat → Int) (lo : Nat) : (Tryz.prog.info? 45).map (·.size) = some (nodN f lo).size := by rw [nodN_size]; kernel_rfl
theorem nodN_one (f : Nat → Int) (lo : Nat) : (nodN f lo).all (·.oneCell') = true := Go.Proofs.YtiejhjngcnkimaaGreatRN.node_one _ _ _ _ _
def nod0 : Array Value := Go.Proofs.YtiejhjngcnkimaaGreatRN.node16 0 0 0 0 nought
theorem zeroNo : ∀ w, (zeroValue 45).run Tryz.prog w = .ok (.agg nod0) w := (zero_of_info (show (Tryz.prog.info? 45).map (fun i => (i.zero, i.size)) = some (some (.agg nod0), 16) by kernel_rfl)).1
theorem sizeBy : (Tryz.prog.info? 181).map (·.size) = some 64 := by kernel_rfl
theorem load64 {w : World} {b off : Nat} {f : Nat → Int} (h : NumsAt w .u8 b off f 64) : (Instr.loadAt 181 (.pointer (some ⟨b, off, none⟩))).run Tryz.prog w = .ok (.agg (rowN .u8 f 64)) w := by
  have hr : w.rangeAt b off (rowN .u8 f 64).toList := fun j v hv => by
    have hj : j < 64 := by
      have := (List.getElem?_eq_some_iff.1 hv).1
      rw [Array.length_toList, rowN_size] at this
      exact this
    rw [Array.getElem?_toList, rowN_get _ _ _ _ hj] at hv
    injection hv with hv
    rw [← hv]
    exact h j hj
  have := run_loadAt_mid (P := Tryz.prog) w b off 181 (rowN .u8 f 64).toList _ hr Tryz.underlying181 rfl (by rw [Array.length_toList, rowN_size]; exact sizeBy)
  rwa [Array.toArray_toList] at this
section
variable {o : Oper} {a : Act} {W : World}
theorem exec_ld64 {x : Operand} {b off : Nat} {f : Nat → Int} (ho : o.op = .load 181 x) (hx : a.eval x = .pointer (some ⟨b, off, none⟩)) (hg : NumsAt W .u8 b off f 64) : (execOp a.eval o).run Tryz.prog W = .ok (.value (.agg (rowN .u8 f 64))) W := by
  unfold execOp
  simp only [ho, hx, load64 hg, Sem.run_bind, Result.andThen_ok, Sem.run_pure]
theorem sliceB (g off lo : Nat) (h : lo < 1024) (u : World) :
    (Instr.sliceAt 85 (.pointer (some ⟨g, off, none⟩)) (some (.int .i64 (lo : Int))) none none).run Tryz.prog u = .ok (.slice (some ⟨g, off + lo, none⟩) (1024 - lo) (1024 - lo)) u := by
  have hn : ¬ ((1024 : Nat) = lo) := by omega
  have ea : Tryz.prog.arrayLen 85 = 1024 := by kernel_rfl
  have ee : Tryz.prog.elem 85 = 5 := by kernel_rfl
  have h := run_sliceAt_array_l (P := Tryz.prog) u 85 ⟨g, off, none⟩ (by rw [ea, ee]; exact Tryz.underlying85) .i64 (lo : Int) (by omega) (by rw [ea]; omega)
  rw [h, ea, ee]
  simp [Tryz.sizeOf5, slicedAt, hn, Addr.add]
theorem exec_slB {x y : Operand} {g off lo : Nat} (ho : o.op = .slice 85 x (some y) none none) (hx : a.eval x = .pointer (some ⟨g, off, none⟩)) (hy : a.eval y = .int .i64 (lo : Int)) (h : lo < 1024) : (execOp a.eval o).run Tryz.prog W = .ok (.value (.slice (some ⟨g, off + lo, none⟩) (1024 - lo) (1024 - lo))) W := by
  have e := sliceB g off lo h W
  simp [execOp, ho, hx, hy, e]
theorem exec_arr {x : Operand} {p : Option Addr} {n c : Nat} (ho : o.op = .sliceToArrayPointer 181 x) (hx : a.eval x = .slice p n c) (hn : 64 ≤ n) : (execOp a.eval o).run Tryz.prog W = .ok (.value (.pointer p)) W := by
  have e := run_arrayAt (P := Tryz.prog) W 181 _ 64 p n c Tryz.underlying181 hn
  simp [execOp, ho, hx, e]
end
theorem sf_base {W : World} {g : Nat} {a b : Int} {f : Nat → Int} (h : W.heap[g]? = some (.cells (shRow a b f) 111)) : W.cell? ⟨g, 1, none⟩ = some (.int .i64 b) := by
  rw [Joins.cell_of_block h]
  rfl
theorem sf_at {W : World} {g : Nat} {a b : Int} {f : Nat → Int} (h : W.heap[g]? = some (.cells (shRow a b f) 111)) : W.cell? ⟨g, 0, none⟩ = some (.int .i64 a) := by
  rw [Joins.cell_of_block h]
  rfl
theorem sf_blk {W : World} {g : Nat} {a b : Int} {f : Nat → Int} (h : W.heap[g]? = some (.cells (shRow a b f) 111)) : NumsAt W .u8 g 2 f 1024 := fun j hj => by
  rw [Joins.cell_of_block h]
  unfold shRow shL
  rw [List.getElem?_toArray, show 2 + j = j + 1 + 1 by omega, List.getElem?_cons_succ, List.getElem?_cons_succ, Array.getElem?_toList]
  exact blk_got f j hj
theorem place_ok {W : World} {gs : Nat} {a b k : Int} {f : Nat → Int} {lo : Nat} (h : W.heap[gs]? = some (.cells (shRow a b f) 111)) (hk : (k - b) * 64 = (lo : Int)) (hl : lo ≤ 960) :
    Calls Tryz.prog 101 #[.pointer (some ⟨gs, 0, none⟩), .int .i64 k] W fun e W' => e = .returned (.int .i64 (lo : Int)) ∧ W' = W := by
  have c1 := sf_base h
  have e1 : IntKind.i64.wrap (k - b) = k - b := by rw [IntKind.wrap_i64]; omega
  have e2 : IntKind.i64.wrap ((k - b) * 64) = (lo : Int) := by rw [hk, IntKind.wrap_i64]; omega
  clear h
  go_enter Tryz.func101, Tryz.ntmps101
  go_wp2
  go_ret
  exact ⟨rfl, rfl⟩
set_option maxRecDepth 20000 in
set_option maxHeartbeats 2000000 in
theorem node_ok {W : World} {gs : Nat} {a b k : Int} {f : Nat → Int} {lo : Nat} (h : W.heap[gs]? = some (.cells (shRow a b f) 111)) (hf : Byt f) (hk : (k - b) * 64 = (lo : Int)) (hl : lo ≤ 960) :
    Calls Tryz.prog 47 #[.pointer (some ⟨gs, 0, none⟩), .int .i64 k] W fun e W' => e = .returned (.agg (nodN f lo)) ∧ Below W.heap.size W W' := by
  have zn := zeroNo
  have hb0 := below_new W (.cells nod0 45)
  have HR0 : Hid ((W.alloc (.cells nod0 45)).heap[W.heap.size]? = some (.cells nod0 45)) := heap_alloc_new _ _
  have HS0 : Hid _ := heap_kept h hb0
  have HB0 : Hid _ := hb0
  have HPl : Hid (∀ V : World, V.heap[gs]? = some (.cells (shRow a b f) 111) → Calls Tryz.prog 101 #[.pointer (some ⟨gs, 0, none⟩), .int .i64 k] V fun e W' => e = .returned (.int .i64 (lo : Int)) ∧ W' = V) := fun V hV => place_ok hV hk hl
  have HDe : Hid (∀ V : World, Calls Tryz.prog 100 #[.agg (rowN .u8 (frB f lo) 64)] V fun e w' => e = .returned (.agg (nodN f lo)) ∧ Below V.heap.size V w') := fun V => Go.Proofs.YtiejhjngcnkimaaGreatRN.decode_any (frB f lo) V fun i => hf _
  have hgs : gs ≠ W.heap.size := by have := (Array.getElem?_eq_some_iff.1 h).1; omega
  clear h hb0 hf hk
  go_enter Tryz.func47, Tryz.ntmps47
  go_upto_region 1 with fail
  generalize W.alloc (.cells nod0 45) = V at *
  have hS : V.drew.heap[gs]? = some (.cells (shRow a b f) 111) := HS0.out
  have hR : V.drew.heap[W.heap.size]? = some (.cells nod0 45) := HR0.out
  have hB : Below W.heap.size W V.drew := HB0.out.drew
  clear HS0 HR0 HB0
  refine wp_region_ord (S := fun u => u.heap[gs]? = some (.cells (shRow a b f) 111)) [(0, true), (1, true), (2, true), (3, true), (4, true), (5, false), (6, true), (7, true), (8, true), (9, true), (10, false), (11, false)] (by kernel_rfl) rfl (by kernel_rfl) (fun d _ _ _ _ h => by cases d <;> exact h) hS ?_
  simp only [inOrd, List.getElem?_cons_zero, List.getElem?_cons_succ]
  generalize V.drew = U at *
  refine wpOrd_yield (v := .pointer (some ⟨gs, 0, none⟩)) rfl (fun u _ => exec_mv rfl rfl) ?_
  simp only [Act.put, pA, pB, pC]
  refine wpOrd_yield (v := .pointer (some ⟨gs, 0, none⟩)) rfl (fun u _ => by go_simp) ?_
  simp only [Act.put, pA, pB, pC]
  refine wpOrd_yield (v := .pointer (some ⟨gs, 2, none⟩)) rfl (fun u _ => by go_simp) ?_
  simp only [Act.put, pA, pB, pC]
  refine wpOrd_yield (v := .pointer (some ⟨gs, 0, none⟩)) rfl (fun u _ => exec_mv rfl rfl) ?_
  simp only [Act.put, pA, pB, pC]
  refine wpOrd_yield (v := .int .i64 k) rfl (fun u _ => exec_mv rfl rfl) ?_
  simp only [Act.put, pA, pB, pC]
  refine wpOrd_call rfl 101 _ _ rfl Tryz.call101 [.pointer (some ⟨gs, 0, none⟩), .int .i64 k] rfl ?_
  refine (HPl.out U hS).mono ?_
  rintro e U2 ⟨rfl, rfl⟩
  refine ⟨_, rfl, hS, ?_⟩
  simp only [Act.put, pA, pB, pC]
  refine wpOrd_yield (v := .slice (some ⟨gs, 2 + lo, none⟩) (1024 - lo) (1024 - lo)) rfl (fun u _ => exec_slB rfl rfl rfl (by omega)) ?_
  simp only [Act.put, pA, pB, pC]
  have hsz : ((1024 - lo : Nat) : Int) = 1024 - (lo : Int) := by omega
  have hm : (64 : Int) ≤ 1024 - (lo : Int) := by omega
  refine wpOrd_yield (v := .slice (some ⟨gs, 2 + lo, none⟩) 64 (1024 - lo)) rfl (fun u _ => by have := hsz; have := hm; go_simp) ?_
  simp only [Act.put, pA, pB, pC]
  refine wpOrd_yield (v := .pointer (some ⟨gs, 2 + lo, none⟩)) rfl (fun u _ => exec_arr rfl rfl (Nat.le_refl _)) ?_
  simp only [Act.put, pA, pB, pC]
  refine wpOrd_yield (v := .agg (rowN .u8 (frB f lo) 64)) rfl (fun u hu => exec_ld64 rfl rfl (fun j hj => by have := sf_blk hu (lo + j) (by omega); rw [show 2 + lo + j = 2 + (lo + j) by omega]; exact this)) ?_
  simp only [Act.put, pA, pB, pC]
  refine wpOrd_call rfl 100 _ _ rfl Tryz.call100 [.agg (rowN .u8 (frB f lo) 64)] rfl ?_
  refine (HDe.out U2).mono ?_
  rintro e U1 ⟨rfl, hb1⟩
  have hS1 := heap_kept hS hb1
  have hR1 := heap_kept hR hb1
  refine ⟨_, rfl, hS1, ?_⟩
  simp only [Act.put, pA, pB, pC]
  refine wpOrd_do (W' := U1.setRow W.heap.size (nodN f lo)) rfl (exec_stR 45 (.tmp 4) (.tmp 15) rfl W.heap.size rfl rfl hR1 (nodN_info _ _) rfl (nodN_one _ _)) (((Fr.setRow U1 W.heap.size _).block gs (Array.getElem?_eq_some_iff.1 hS1).1 hgs).trans hS1) ?_
  simp only [Act.put]
  refine wpOrd_nil ?_
  have hBl : Below W.heap.size W (U1.setRow W.heap.size (nodN f lo)) := by
    have h2 := below_next hB hb1
    exact h2.trans ((Fr.setRow U1 W.heap.size _).below (fun i hi => by omega) h2.size)
  have hRr := setRow_heap U1 W.heap.size _ (nodN f lo) _ _ hR1
  generalize U1.setRow W.heap.size (nodN f lo) = Z at hBl hRr ⊢
  clear hS1 hR1 hb1 hS hR hB HPl HDe
  have HBl : Hid _ := hBl
  have HRr : Hid _ := hRr
  clear hBl hRr
  go_wp2_with fail
  exact retR Tryz.underlying45 rfl rfl W.heap.size (nodN f lo) 45 (nodN_info _ _) rfl HRr.out rfl ⟨rfl, HBl.out⟩
end Go.Proofs.YtiejhjngcnkimaaGreatR
/- A row beside a log that lives is turned, and stays beside it. -/
namespace Go.Proofs.YtiejhjngcnkimaaGreatRW
open Go.RowKit Go.Maps
theorem LS.swap {w W W' : World} {g d c mb : Nat} {v : Value} {x : LSt} {s : CSt} {t : St} {os ks : List (Nat × Obj)} {q : Nat} {o o' : Obj} (h : LS w W g d c mb v x s t os ((q, o) :: ks)) (hf : Fr (fun k => k = q) W W') (hq : w.heap.size ≤ q) (hks : ∀ p ∈ ks, p.1 ≠ q) (ho : W'.heap[q]? = some o') : LogSit w W' g d x s t ((q, o') :: ks) := by
  have hne : ∀ k, LHas g mb v k → k ≠ q := fun k hk e => h.ap (q, o) (List.mem_cons_self ..) (by rw [← e]; exact hk)
  have hk : ∀ k, LHas g mb v k → W'.heap[k]? = W.heap[k]? := fun k hk => hf.block k (h.log.lt k hk) (hne k hk)
  refine ⟨c, mb, v, os.filter (fun p => decide (p.1 ≠ q)), h.sit.turn hf (fun k e => by subst e; exact ⟨hq, o, List.mem_append.2 (.inr (List.mem_cons_self ..))⟩) fun p hp => ?_, h.log.kept hk, fun k hk2 => ?_, fun p hp => ?_⟩
  · rcases List.mem_append.1 hp with hp | hp
    · obtain ⟨hp1, hp2⟩ := List.mem_filter.1 hp
      have hp3 : p.1 ≠ q := by simpa using hp2
      have hb := h.sit.blk (List.mem_append.2 (.inl hp1) : (p.1, p.2) ∈ os ++ (q, o) :: ks)
      exact ⟨(hf.block p.1 (Array.getElem?_eq_some_iff.1 hb).1 hp3).trans hb, .inl ⟨p.2, List.mem_append.2 (.inl hp1)⟩⟩
    · rcases List.mem_cons.1 hp with rfl | hp
      · exact ⟨ho, .inl ⟨o, List.mem_append.2 (.inr (List.mem_cons_self ..))⟩⟩
      · have hb := h.sit.blk (List.mem_append.2 (.inr (List.mem_cons_of_mem _ hp)) : (p.1, p.2) ∈ os ++ (q, o) :: ks)
        exact ⟨(hf.block p.1 (Array.getElem?_eq_some_iff.1 hb).1 (hks p hp)).trans hb, .inl ⟨p.2, List.mem_append.2 (.inr (List.mem_cons_of_mem _ hp))⟩⟩
  · obtain ⟨h1, o2, ho2⟩ := h.own k hk2
    exact ⟨h1, o2, List.mem_filter.2 ⟨ho2, by simpa using hne k hk2⟩⟩
  · rcases List.mem_cons.1 hp with rfl | hp
    · exact h.ap (q, o) (List.mem_cons_self ..)
    · exact h.ap p (List.mem_cons_of_mem _ hp)
theorem LS.fresh {w W W' : World} {g d c mb : Nat} {v : Value} {x : LSt} {s : CSt} {t : St} {os ks : List (Nat × Obj)} {q : Nat} {o : Obj} (h : LS w W g d c mb v x s t os ks) (hf : Below W.heap.size W W') (hq : W.heap.size ≤ q) (ho : W'.heap[q]? = some o) : LogSit w W' g d x s t ((q, o) :: ks) := by
  have hlt : ∀ k, LHas g mb v k → k < W.heap.size := fun k hk => h.log.lt k hk
  have hk : ∀ k, LHas g mb v k → W'.heap[k]? = W.heap[k]? := fun k hk => hf.block k (hlt k hk)
  refine ⟨c, mb, v, os, h.sit.turn (T := fun _ => False) ⟨hf.os, hf.tape, hf.output, hf.size, fun i hi _ => hf.block i hi⟩ (fun k e => e.elim) fun p hp => ?_, h.log.kept hk, h.own, fun p hp => ?_⟩
  · rcases List.mem_append.1 hp with hp | hp
    · have hb := h.sit.blk (List.mem_append.2 (.inl hp) : (p.1, p.2) ∈ os ++ ks)
      exact ⟨(hf.block p.1 (Array.getElem?_eq_some_iff.1 hb).1).trans hb, .inl ⟨p.2, List.mem_append.2 (.inl hp)⟩⟩
    · rcases List.mem_cons.1 hp with rfl | hp
      · exact ⟨ho, .inr hq⟩
      · have hb := h.sit.blk (List.mem_append.2 (.inr hp) : (p.1, p.2) ∈ os ++ ks)
        exact ⟨(hf.block p.1 (Array.getElem?_eq_some_iff.1 hb).1).trans hb, .inl ⟨p.2, List.mem_append.2 (.inr hp)⟩⟩
  · rcases List.mem_cons.1 hp with rfl | hp
    · intro e
      have := hlt _ e
      simp only at this
      omega
    · exact h.ap p hp
end Go.Proofs.YtiejhjngcnkimaaGreatRW
namespace Go.Proofs.YtiejhjngcnkimaaGreatR
open Go.RowKit Go.Maps
theorem RLog.swap {w W W' : World} {g d n : Nat} {x : Go.Proofs.YtiejhjngcnkimaaGreatRW.LSt} {book : Int → Nat → Int} {ks : List (Nat × Obj)} {q : Nat} {o o' : Obj} (h : RLog w W g d x book n ((q, o) :: ks)) (hf : Fr (fun k => k = q) W W') (hq : w.heap.size ≤ q) (hks : ∀ p ∈ ks, p.1 ≠ q) (ho : W'.heap[q]? = some o') : RLog w W' g d x book n ((q, o') :: ks) := by
  obtain ⟨t, ⟨s, ⟨c, mb, v, os, h⟩, hI⟩, h1, h2⟩ := h
  exact ⟨t, ⟨s, Go.Proofs.YtiejhjngcnkimaaGreatRW.LS.swap h ⟨hf.os, hf.tape, hf.output, hf.size, hf.block⟩ hq hks ho, hI⟩, h1, h2⟩
theorem RLog.fresh {w W W' : World} {g d n : Nat} {x : Go.Proofs.YtiejhjngcnkimaaGreatRW.LSt} {book : Int → Nat → Int} {ks : List (Nat × Obj)} {q : Nat} {o : Obj} (h : RLog w W g d x book n ks) (hf : Below W.heap.size W W') (hq : W.heap.size ≤ q) (ho : W'.heap[q]? = some o) : RLog w W' g d x book n ((q, o) :: ks) := by
  obtain ⟨t, ⟨s, ⟨c, mb, v, os, h⟩, hI⟩, h1, h2⟩ := h
  exact ⟨t, ⟨s, Go.Proofs.YtiejhjngcnkimaaGreatRW.LS.fresh h hf hq ho, hI⟩, h1, h2⟩
end Go.Proofs.YtiejhjngcnkimaaGreatR
/- The table of inodes gone through: the rack's each, handed each of the tally's methods. -/
namespace Go.Proofs.YtiejhjngcnkimaaGreatR
open Go.RowKit Go.Maps
def Keeps (V V' : World) : Prop := ∀ (b : Nat) (R : Array Value), V.heap[b]? = some (.cells R 111) → V'.heap[b]? = some (.cells R 111)
def stK (r : Nat) : Nat := if r = 0 then 1 else if r = 4 then 61 else 16 * r
theorem stK_facts {r a : Nat} (h : r ≤ 3) (hA : stK r = a) : ∃ z, stK (r + 1) = z ∧ 1 ≤ a ∧ a ≤ 60 ∧ min 61 ((r : Int) * 16 + 16) = (z : Int) ∧ a < z ∧ z ≤ 61 ∧ ∀ k, a ≤ k → k < z → k / 16 = r := by
  match r, h with
  | 0, _ => obtain rfl : 1 = a := hA; exact ⟨16, rfl, by decide, by decide, by decide, by decide, by decide, fun k h1 h2 => by omega⟩
  | 1, _ => obtain rfl : 16 = a := hA; exact ⟨32, rfl, by decide, by decide, by decide, by decide, by decide, fun k h1 h2 => by omega⟩
  | 2, _ => obtain rfl : 32 = a := hA; exact ⟨48, rfl, by decide, by decide, by decide, by decide, by decide, fun k h1 h2 => by omega⟩
  | 3, _ => obtain rfl : 48 = a := hA; exact ⟨61, rfl, by decide, by decide, by decide, by decide, by decide, fun k h1 h2 => by omega⟩
theorem field_geo (y : Lay) (W : World) : (Instr.field 61 (.agg (layRow y)) 0).run Tryz.prog W = .ok (.agg (geoRow y.b y.l y.i)) W := by kernel_rfl
theorem exec_geoF {o : Oper} {a : Act} {W : World} {x : Operand} {y : Lay} (ho : o.op = .field 61 x 0) (hx : a.eval x = .agg (layRow y)) : (execOp a.eval o).run Tryz.prog W = .ok (.value (.agg (geoRow y.b y.l y.i))) W := by
  have e := field_geo y W
  unfold execOp
  simp only [ho, hx, e, Sem.run_bind, Result.andThen_ok, Sem.run_pure]
theorem field_ino (b l i : Int) (W : World) : (Instr.field 26 (.agg (geoRow b l i)) 2).run Tryz.prog W = .ok (.int .i64 i) W := by kernel_rfl
theorem exec_inoF {o : Oper} {a : Act} {W : World} {x : Operand} {b l i : Int} (ho : o.op = .field 26 x 2) (hx : a.eval x = .agg (geoRow b l i)) : (execOp a.eval o).run Tryz.prog W = .ok (.value (.int .i64 i)) W := by
  have e := field_ino b l i W
  unfold execOp
  simp only [ho, hx, e, Sem.run_bind, Result.andThen_ok, Sem.run_pure]
set_option maxRecDepth 20000 in
set_option maxHeartbeats 1500000 in
theorem eachC_ok {W : World} {g gt n : Nat} {y : Lay} (I : Nat → Nat → World → Prop) (more : Nat → Bool) (F : Nat → Nat → Int) (Q : World → Prop)
    (hLay : Calls Tryz.prog 98 #[.pointer (some ⟨g, 0, none⟩)] W fun e W' => e = .returned (.agg (layRow y)) ∧ I 1 (n + 4) W') (hyi : y.i = 60)
    (hSh : ∀ (k q m : Nat) V, 1 ≤ k → k ≤ 60 → k / 16 = q → I k (m + 1) V → Calls Tryz.prog 46 #[.pointer (some ⟨g, 0, none⟩), .int .i64 (k : Int)] V fun e W' => e = .returned (.tuple #[.agg (shRow (33 + (q : Int)) ((q : Int) * 16) (F q)), .int .i64 0]) ∧ I k m W')
    (hLt : ∀ k m V V', I k m V → Below V.heap.size V V' → I k m V') (hF : ∀ q, Byt (F q))
    (hcl : ∀ (k q m : Nat) V, 1 ≤ k → k ≤ 60 → k / 16 = q → (∀ j, 1 ≤ j → j < k → more j = true) → I k m V → Calls Tryz.prog 49 #[.pointer (some ⟨gt, 0, none⟩), .int .i64 (k : Int), .agg (nodN (F q) (k % 16 * 64))] V fun e V' => e = .returned (.bool (more k)) ∧ I (k + 1) m V' ∧ Keeps V V')
    (hQ1 : ∀ m V, n ≤ m → (∀ j, 1 ≤ j → j < 61 → more j = true) → I 61 m V → Q V)
    (hQ2 : ∀ k m V, 1 ≤ k → k ≤ 60 → n ≤ m → more k = false → (∀ j, 1 ≤ j → j < k → more j = true) → I (k + 1) m V → Q V) :
    Calls Tryz.prog 48 #[.pointer (some ⟨g, 0, none⟩), .func (.func 49) #[.pointer (some ⟨gt, 0, none⟩)] #[]] W fun e W' => e = .returned (.int .i64 0) ∧ Q W' := by
  have zs := zeroSf
  have HSh : Hid _ := hSh
  have HLt : Hid _ := hLt
  have HCl : Hid _ := hcl
  have HQ1 : Hid _ := hQ1
  have HQ2 : Hid _ := hQ2
  have HF : Hid _ := hF
  have HyI : Hid (y.i = 60) := hyi
  clear hSh hLt hcl hQ1 hQ2 hF hyi
  go_enter Tryz.func48, Tryz.ntmps48
  go_wp2_with (go_at_call 98; fail)
  refine hLay.mono ?_
  rintro e V1 ⟨rfl, hI1⟩
  have HI1 : Hid _ := hI1
  clear hLay hI1
  have hyi := HyI.out
  go_wp2_with (first | (with_reducible refine isFdR 61 ?_; refine wpList_ex rfl (v := .agg (geoRow y.b y.l y.i)) (exec_geoF rfl rfl) ?_) | (with_reducible refine isFdR 26 ?_; refine wpList_ex rfl (v := .int .i64 60) (by rw [← hyi]; exact exec_inoF rfl rfl) ?_))
  clear hyi HyI
  go_loopw [6] (fun s6 wx => ∃ r a : Nat, r ≤ 4 ∧ s6 = .int .i64 (a : Int) ∧ Hid (stK r = a) ∧ Hid (I a (n + (4 - r)) wx ∧ ∀ j, 1 ≤ j → j < a → more j = true)) (fun s6 _ => 61 - (intOf s6).toNat)
  case atStart => exact ⟨0, 1, by omega, rfl, rfl, HI1.out, fun j h1 h2 => by omega⟩
  case round =>
    obtain ⟨r, a, hr, rfl, HA, HI⟩ := hrel
    by_cases hr4 : r = 4
    · subst hr4
      obtain rfl : 61 = a := HA.out
      have hq : Q wr := HQ1.out _ wr (Nat.le_add_right n (4 - 4)) HI.out.2 HI.out.1
      have HQ : Hid _ := hq
      rw [show ((61 : Nat) : Int) = 61 from rfl]
      clear HI hq HCl HSh HLt HQ1 HQ2
      go_wp2
      go_ret
      exact ⟨rfl, HQ.out⟩
    · obtain ⟨z, hZ, ha1, ha2, he, hae, hz61, hdv⟩ := stK_facts (show r ≤ 3 by omega) HA.out
      have hb4 : n + (4 - r) = (n + (3 - r)) + 1 := by omega
      have hIr := HI.out.1
      rw [hb4] at hIr
      have hsh := HSh.out a r (n + (3 - r)) wr ha1 ha2 (hdv a (Nat.le_refl _) hae) hIr
      have HMr : Hid _ := HI.out.2
      have HE : Hid (min 61 ((r : Int) * 16 + 16) = (z : Int)) := he
      have HZ : Hid (stK (r + 1) = z) := hZ
      have hrb : r ≤ 3 := by omega
      have HDv : Hid _ := hdv
      have HA1 : Hid (1 ≤ a) := ha1
      have HA2 : Hid (z ≤ 61) := hz61
      have HAE : Hid (a < z) := hae
      have t1 : decide ((a : Int) ≤ 60) = true := decide_eq_true (by omega)
      clear HI hIr HI1 he hZ hdv ha1 hae hz61 HA
      go_wp2_with (go_at_call 46; fail)
      refine hsh.mono ?_
      rintro e V2 ⟨rfl, hI2⟩
      have HI3 : Hid _ := HLt.out _ _ _ _ hI2 (below_new V2 (.cells (shRow (33 + (r : Int)) ((r : Int) * 16) (F r)) 111))
      have HS3 : Hid ((V2.alloc (.cells (shRow (33 + (r : Int)) ((r : Int) * 16) (F r)) 111)).heap[V2.heap.size]? = some (.cells (shRow (33 + (r : Int)) ((r : Int) * 16) (F r)) 111)) := heap_alloc_new _ _
      clear hsh hI2 t1
      go_upto_region 5 with (first | (with_reducible refine isStoreR 111 ?_; refine wpList_stNew 111 rfl (.tmp 7) (.tmp 21) rfl V2.heap.size (shRow (33 + (r : Int)) ((r : Int) * 16) (F r)) (shRow 0 0 nought) 111 (sf_info _ _ _) (sh_two _ _ _ _ _ _) (sh_one _ _ _) rfl rfl rfl ?_))
      generalize V2.alloc (.cells (shRow (33 + (r : Int)) ((r : Int) * 16) (F r)) 111) = V3 at *
      generalize V2.heap.size = gs at *
      have cb := sf_base HS3.out
      have e1 : IntKind.i64.wrap ((r : Int) * 16 + 16) = (r : Int) * 16 + 16 := by rw [IntKind.wrap_i64]; omega
      have e2 := HE.out
      go_wp2
      clear cb e1 e2
      go_loopw [6] (fun s6 wx => ∃ k : Nat, a ≤ k ∧ k ≤ z ∧ s6 = .int .i64 (k : Int) ∧ Hid (I k (n + (3 - r)) wx ∧ wx.heap[gs]? = some (.cells (shRow (33 + (r : Int)) ((r : Int) * 16) (F r)) 111) ∧ ∀ j, 1 ≤ j → j < k → more j = true)) (fun s6 _ => z - (intOf s6).toNat)
      case atStart => exact ⟨a, Nat.le_refl _, Nat.le_of_lt HAE.out, rfl, HI3.out, HS3.out, HMr.out⟩
      case round =>
        obtain ⟨k, hk1, hk2, rfl, HJ⟩ := hrel
        by_cases hkz : k < z
        · have hkq : k / 16 = r := HDv.out k hk1 hkz
          have hk60 : k ≤ 60 := by have := HA2.out; omega
          have hk11 : 1 ≤ k := Nat.le_trans HA1.out hk1
          have hnd := node_ok (k := (k : Int)) (lo := k % 16 * 64) HJ.out.2.1 (HF.out r) (by omega) (by omega)
          have t2 : decide ((k : Int) < (z : Int)) = true := decide_eq_true (by omega)
          have HJ' : Hid _ := HJ.out
          clear HJ
          go_wp2_with (go_at_call 47; fail)
          refine hnd.mono ?_
          rintro e V4 ⟨rfl, hb4⟩
          have hI4 := HLt.out _ _ _ _ HJ'.out.1 hb4
          have hS4 := heap_kept HJ'.out.2.1 hb4
          have HM4 : Hid _ := HJ'.out.2.2
          have hc := HCl.out k r (n + (3 - r)) V4 hk11 hk60 hkq HM4.out hI4
          have HS4 : Hid _ := hS4
          clear hnd hb4 HJ' hI4 hS4
          cases hm : more k
          · rw [hm] at hc
            go_wp2_with (go_at_call 49; fail)
            refine hc.mono ?_
            rintro e V5 ⟨rfl, hI5, _⟩
            have hq : Q V5 := HQ2.out k (n + (3 - r)) V5 hk11 hk60 (Nat.le_add_right _ _) hm HM4.out hI5
            have HQ : Hid _ := hq
            clear hc hI5 hq
            go_wp2
            go_ret
            exact ⟨rfl, HQ.out⟩
          · rw [hm] at hc
            go_wp2_with (go_at_call 49; fail)
            refine hc.mono ?_
            rintro e V5 ⟨rfl, hI5, hKp⟩
            have HN : Hid (I (k + 1) (n + (3 - r)) V5 ∧ V5.heap[gs]? = some (.cells (shRow (33 + (r : Int)) ((r : Int) * 16) (F r)) 111) ∧ ∀ j, 1 ≤ j → j < k + 1 → more j = true) := ⟨hI5, hKp _ _ HS4.out, fun j h1 h2 => by
              rcases Nat.lt_or_ge j k with q | q
              · exact HM4.out j h1 q
              · rw [show j = k by omega]; exact hm⟩
            have e3 : IntKind.i64.wrap ((k : Int) + 1) = ((k + 1 : Nat) : Int) := by rw [IntKind.wrap_i64]; omega
            clear hc hI5 hKp
            go_wp2
            exact ⟨⟨k + 1, by omega, by omega, rfl, HN.out⟩, by simp [intOf]; omega⟩
        · obtain rfl : k = z := by omega
          have t2 : decide ((k : Int) < (k : Int)) = false := decide_eq_false (by omega)
          have HN : Hid (I k (n + (4 - (r + 1))) wr ∧ ∀ j, 1 ≤ j → j < k → more j = true) := by
            rw [show 4 - (r + 1) = 3 - r by omega]
            exact ⟨HJ.out.1, HJ.out.2.2⟩
          clear HJ
          go_wp2
          have hz61 := HA2.out
          have haz := HAE.out
          exact ⟨⟨r + 1, k, by omega, rfl, HZ.out, HN.out⟩, by simp [intOf]; omega⟩
end Go.Proofs.YtiejhjngcnkimaaGreatR
/- The rack's Read; how many inodes are free: Spare. -/
namespace Go.Proofs.YtiejhjngcnkimaaGreatR
open Go.RowKit Go.Maps
section
variable {w W W' : World} {g d n : Nat} {x : Go.Proofs.YtiejhjngcnkimaaGreatRW.LSt} {book : Int → Nat → Int} {ks ks' : List (Nat × Obj)}
theorem nd_info (k l s b : Int) (d : Nat → Int) : (Tryz.prog.info? 45).map (·.size) = some (Go.Proofs.YtiejhjngcnkimaaGreatRN.node16 k l s b d).size := by show _ = some 16; kernel_rfl
theorem nd_one (k l s b : Int) (d : Nat → Int) : (Go.Proofs.YtiejhjngcnkimaaGreatRN.node16 k l s b d).all (·.oneCell') = true := Go.Proofs.YtiejhjngcnkimaaGreatRN.node_one _ _ _ _ _
theorem nod0_info : (Tryz.prog.info? 45).map (·.size) = some nod0.size := nd_info _ _ _ _ _
theorem nod0_one : nod0.all (·.oneCell') = true := nd_one _ _ _ _ _
theorem build0Nd (u : World) : (Instr.build 45 #[]).run Tryz.prog u = .ok (.agg nod0) u := by
  have z := zeroNo
  generalize nod0 = Z at *
  simp [Instr.build, z, run_underlying Tryz.underlying45, Instr.fill, Value.cells, go_sem]
theorem exec_build0Nd {o : Oper} {a : Act} {W : World} (ho : o.op = .build 45 #[]) : (execOp a.eval o).run Tryz.prog W = .ok (.value (.agg nod0)) W := by
  have e := build0Nd W
  generalize nod0 = Z at *
  simp [execOp, ho, e]
set_option maxRecDepth 20000 in
set_option maxHeartbeats 1600000 in
theorem RLog.rread (h : RLog w W g d x book (n + 1) ks) (hg : Ge x) (k q lo : Nat) (hk : 1 ≤ k ∧ k ≤ 60) (hq : k / 16 = q) (hlo : k % 16 * 64 = lo) (hf : Byt (book (33 + (q : Int)))) :
    Calls Tryz.prog 11 #[.pointer (some ⟨g, 0, none⟩), .int .i64 (k : Int)] W fun e W' => e = .returned (.tuple #[.agg (nodN (book (33 + (q : Int))) lo), .int .i64 0]) ∧ RLog w W' g d x book n ks := by
  have zs := zeroSf
  have zn := zeroNo
  have HK : Hid _ := h.ksLt
  have HS0 : Hid (w.heap.size ≤ W.heap.size) := h.below.size
  have hck := (h.add (.cells nod0 45)).check
  have HSh : Hid (∀ V ks0, RLog w V g d x book (n + 1) ks0 → Calls Tryz.prog 46 #[.pointer (some ⟨g, 0, none⟩), .int .i64 (k : Int)] V fun e W' => e = .returned (.tuple #[.agg (shRow (33 + (q : Int)) ((q : Int) * 16) (book (33 + (q : Int)))), .int .i64 0]) ∧ RLog w W' g d x book n ks0) := fun V ks0 hV => hV.shelfOf hg k q hk hq
  have HNd : Hid (∀ (V : World) gs, V.heap[gs]? = some (.cells (shRow (33 + (q : Int)) ((q : Int) * 16) (book (33 + (q : Int)))) 111) → Calls Tryz.prog 47 #[.pointer (some ⟨gs, 0, none⟩), .int .i64 (k : Int)] V fun e W' => e = .returned (.agg (nodN (book (33 + (q : Int))) lo)) ∧ Below V.heap.size V W') := fun V gs hV => node_ok hV hf (by omega) (by omega)
  clear h hg hk hq hlo hf
  generalize book (33 + (q : Int)) = F at *
  generalize 33 + (q : Int) = A0 at *
  generalize (q : Int) * 16 = B0' at *
  generalize (k : Int) = K at *
  go_enter Tryz.func11, Tryz.ntmps11
  go_upto_region 1 with fail
  generalize W.alloc (.cells nod0 45) = V at *
  go_wp2_with (go_at_call 45; fail)
  refine hck.mono ?_
  rintro e V1 ⟨rfl, hL1⟩
  have hsh := HSh.out V1 _ hL1
  clear hck hL1 HSh
  go_wp2_with (go_at_call 46; fail)
  refine hsh.mono ?_
  rintro e V2 ⟨rfl, hL2⟩
  have HL3 : Hid _ := hL2.add (.cells (shRow A0 B0' F) 111)
  clear hsh hL2
  go_upto_region 5 with (first | (with_reducible refine isStoreR 111 ?_; refine wpList_stNew 111 rfl (.tmp 7) (.tmp 19) rfl V2.heap.size (shRow A0 B0' F) (shRow 0 0 nought) 111 (sf_info _ _ _) (sh_two _ _ _ _ _ _) (sh_one _ _ _) rfl rfl rfl ?_))
  generalize V2.alloc (.cells (shRow A0 B0' F) 111) = V3 at *
  generalize V2.heap.size = gs at *
  have hnd := HNd.out V3 gs (HL3.out.obj (List.mem_cons_self ..))
  go_wp2_with (go_at_call 47; fail)
  refine hnd.mono ?_
  rintro e V4 ⟨rfl, hb4⟩
  have hL4 := HL3.out.later hb4
  have hres := hL4.obj (List.mem_cons_of_mem _ (List.mem_cons_self ..))
  have HL5 : Hid _ := (hL4.drop (ks' := (W.heap.size, .cells nod0 45) :: ks) fun p hp => List.mem_cons_of_mem _ hp).beside (Fr.setRow V4 W.heap.size (nodN F lo)) HS0.out HK.out
  clear hnd hb4 hL4 HL3
  go_wp2_with (first | (with_reducible refine isStoreR 45 ?_; refine wpList_stR 45 rfl (.tmp 4) (.tmp 26) rfl W.heap.size (nodN F lo) nod0 45 (nodN_info _ _) rfl (nodN_one _ _) rfl rfl hres ?_))
  exact retCT Tryz.underlying45 rfl rfl W.heap.size (nodN F lo) 45 (nodN_info _ _) rfl (setRow_heap _ _ _ _ _ _ hres) rfl ⟨rfl, HL5.out⟩
set_option maxRecDepth 20000 in
set_option maxHeartbeats 1600000 in
theorem RLog.rreadBad (h : RLog w W g d x book n ks) (hg : Ge x) (k : Int) (hk : k < 1 ∨ 60 < k) :
    Calls Tryz.prog 11 #[.pointer (some ⟨g, 0, none⟩), .int .i64 k] W fun e W' => e = .returned (.tuple #[.agg nod0, .int .i64 2]) ∧ RLog w W' g d x book n ks := by
  have zs := zeroSf
  have zn := zeroNo
  have HK : Hid _ := h.ksLt
  have HS0 : Hid (w.heap.size ≤ W.heap.size) := h.below.size
  have hck := (h.add (.cells nod0 45)).check
  have HSh : Hid (∀ V ks0, RLog w V g d x book n ks0 → Calls Tryz.prog 46 #[.pointer (some ⟨g, 0, none⟩), .int .i64 k] V fun e W' => e = .returned (.tuple #[.agg (shRow 0 0 nought), .int .i64 2]) ∧ RLog w W' g d x book n ks0) := fun V ks0 hV => hV.shelfBad hg k hk
  clear h hg hk
  go_enter Tryz.func11, Tryz.ntmps11
  go_upto_region 1 with fail
  generalize W.alloc (.cells nod0 45) = V at *
  go_wp2_with (go_at_call 45; fail)
  refine hck.mono ?_
  rintro e V1 ⟨rfl, hL1⟩
  have hsh := HSh.out V1 _ hL1
  clear hck hL1 HSh
  go_wp2_with (go_at_call 46; fail)
  refine hsh.mono ?_
  rintro e V2 ⟨rfl, hL2⟩
  have hL3 := hL2.later (below_new V2 (.cells (shRow 0 0 nought) 111))
  have HR3 : Hid _ := hL3.obj (List.mem_cons_self ..)
  have HL5 : Hid _ := hL3.beside (Fr.setRow _ W.heap.size nod0) HS0.out HK.out
  clear hsh hL2 hL3
  go_upto_region 5 with (first | (with_reducible refine isStoreR 111 ?_; refine wpList_stNew 111 rfl (.tmp 7) (.tmp 19) rfl V2.heap.size (shRow 0 0 nought) (shRow 0 0 nought) 111 (sf_info _ _ _) (sh_two _ _ _ _ _ _) (sh_one _ _ _) rfl rfl rfl ?_))
  generalize V2.alloc (.cells (shRow 0 0 nought) 111) = V3 at *
  have hres := HR3.out
  go_wp2_with (first | (with_reducible refine isBuildR 45 ?_; refine wpList_ex rfl (exec_build0Nd rfl) ?_) | (with_reducible refine isStoreR 45 ?_; refine wpList_stR 45 rfl (.tmp 4) (.tmp 23) rfl W.heap.size nod0 nod0 45 nod0_info rfl nod0_one rfl rfl hres ?_))
  exact retCT Tryz.underlying45 rfl rfl W.heap.size nod0 45 nod0_info rfl (setRow_heap _ _ _ _ _ _ hres) rfl ⟨rfl, HL5.out⟩
theorem isFree_ok (k l s b : Int) (e : Nat → Int) (V : World) : Calls Tryz.prog 55 #[.agg (Go.Proofs.YtiejhjngcnkimaaGreatRN.node16 k l s b e)] V fun r V' => r = .returned (.bool (k == 0)) ∧ Below V.heap.size V V' := by
  have hb := below_new V (.cells (Go.Proofs.YtiejhjngcnkimaaGreatRN.node16 k l s b e) 45)
  have hr := heap_alloc_new V (.cells (Go.Proofs.YtiejhjngcnkimaaGreatRN.node16 k l s b e) 45)
  have c0 : (V.alloc (.cells (Go.Proofs.YtiejhjngcnkimaaGreatRN.node16 k l s b e) 45)).cell? ⟨V.heap.size, 0, none⟩ = some (.int .u16 k) := Joins.cell_of_block hr 0
  have HB : Hid _ := hb
  clear hb hr
  generalize Go.Proofs.YtiejhjngcnkimaaGreatRN.node16 k l s b e = N at *
  go_enter Tryz.func55, Tryz.ntmps55
  go_wp2
  go_ret
  exact ⟨rfl, HB.out⟩
def tlRow (c f : Int) (v : Value) : Array Value := #[.int .i64 c, .int .i64 f, v]
theorem zeroTl : ∀ w, (zeroValue 116).run Tryz.prog w = .ok (.agg (tlRow 0 0 (.slice none 0 0))) w := (zero_of_info (show (Tryz.prog.info? 116).map (fun i => (i.zero, i.size)) = some (some (.agg (tlRow 0 0 (.slice none 0 0))), 3) by kernel_rfl)).1
theorem keeps_of {V V' : World} {gt : Nat} {c f : Int} {v : Value} (h : V.heap[gt]? = some (.cells (tlRow c f v) 116)) (hf : Fr (fun k => k = gt) V V') : Keeps V V' := fun b R hb => by
  have hne : b ≠ gt := by
    rintro rfl
    rw [hb] at h
    have := Option.some.inj h
    simp at this
  exact (hf.block b (Array.getElem?_eq_some_iff.1 hb).1 hne).trans hb
set_option maxHeartbeats 1000000 in
theorem countFree_ok {V : World} {gt : Nat} {c f : Int} {v : Value} (hc : 0 ≤ c ∧ c ≤ 1000000) (h : V.heap[gt]? = some (.cells (tlRow c f v) 116)) (i k l s b : Int) (e : Nat → Int) :
    Calls Tryz.prog 49 #[.pointer (some ⟨gt, 0, none⟩), .int .i64 i, .agg (Go.Proofs.YtiejhjngcnkimaaGreatRN.node16 k l s b e)] V fun r V' => r = .returned (.bool true) ∧ V'.heap[gt]? = some (.cells (tlRow (if k = 0 then c + 1 else c) f v) 116) ∧ Fr (fun q => q = gt) V V' := by
  obtain ⟨c', hc'⟩ : ∃ c', (if k = 0 then c + 1 else c) = c' := ⟨_, rfl⟩
  rw [hc']
  have hb := below_new V (.cells (Go.Proofs.YtiejhjngcnkimaaGreatRN.node16 k l s b e) 45)
  have hr := heap_alloc_new V (.cells (Go.Proofs.YtiejhjngcnkimaaGreatRN.node16 k l s b e) 45)
  have hif := isFree_ok k l s b e (V.alloc (.cells (Go.Proofs.YtiejhjngcnkimaaGreatRN.node16 k l s b e) 45))
  have HT : Hid _ := heap_kept h hb
  have HB : Hid _ := hb
  have HR : Hid _ := hr
  have HI : Hid _ := nd_info k l s b e
  clear hb hr h
  generalize Go.Proofs.YtiejhjngcnkimaaGreatRN.node16 k l s b e = N at *
  go_enter Tryz.func49, Tryz.ntmps49
  go_upto_region 1 with fail
  generalize V.alloc (.cells N 45) = V1 at *
  go_wp2_with (first | (with_reducible refine isLoadR 45 ?_; refine wpList_ldR 45 Tryz.underlying45 rfl rfl (.tmp 5) rfl V.heap.size rfl N 45 (0, 0) HI.out HR.out ?_) | (go_at_call 55; fail))
  refine hif.mono ?_
  rintro r V2 ⟨rfl, hb2⟩
  have hT2 := heap_kept HT.out hb2
  have hB2 := below_next HB.out hb2
  clear hif hb2 HR HT HB
  by_cases hk : k = 0
  · rw [if_pos hk] at hc'
    subst hc' hk
    have c0 : V2.cell? ⟨gt, 0, none⟩ = some (.int .i64 c) := Joins.cell_of_block hT2 0
    have f0 := frozen_row hT2 0
    have e1 : IntKind.i64.wrap (c + 1) = c + 1 := by rw [IntKind.wrap_i64]; omega
    have H3 : Hid ((V2.setCell ⟨gt, 0, none⟩ (.int .i64 (c + 1))).heap[gt]? = some (.cells (tlRow (c + 1) f v) 116)) := by rw [heap_setCell_same _ _ _ _ _ _ hT2]; rfl
    have H4 : Hid (Fr (fun q => q = gt) V (V2.setCell ⟨gt, 0, none⟩ (.int .i64 (c + 1)))) := Fr.trans (Fr.ofBelow (T := fun q => q = gt) hB2) (Fr.setCell V2 gt 0 _) fun _ _ q => q
    clear hT2 hB2
    go_wp2
    go_ret
    exact ⟨rfl, H3.out, H4.out⟩
  · have hkb : (k == 0) = false := beq_eq_false_iff_ne.2 hk
    rw [if_neg hk] at hc'
    subst hc'
    have H3 : Hid _ := hT2
    have H4 : Hid _ := Fr.ofBelow (T := fun q => q = gt) hB2
    clear hT2 hB2
    go_wp2
    go_ret
    exact ⟨rfl, H3.out, H4.out⟩
def BkB (book : Int → Nat → Int) : Prop := ∀ k, Byt (book k)
def kdP (book : Int → Nat → Int) (k : Nat) : Int := Go.Proofs.YtiejhjngcnkimaaGreatRN.numN (frB (book (33 + ((k / 16 : Nat) : Int))) (k % 16 * 64)) 0 2
def lkP (book : Int → Nat → Int) (k : Nat) : Int := Go.Proofs.YtiejhjngcnkimaaGreatRN.numN (frB (book (33 + ((k / 16 : Nat) : Int))) (k % 16 * 64)) 2 2
set_option maxRecDepth 20000 in
set_option maxHeartbeats 1600000 in
theorem RLog.spare (h : RLog w W g d x book (n + 4) ks) (hg : Ge x) (hbk : BkB book) (cf : Nat → Int) (h1 : cf 1 = 0) (hs : ∀ k, 1 ≤ k → k ≤ 60 → cf (k + 1) = if kdP book k = 0 then cf k + 1 else cf k) (hb : ∀ k, 0 ≤ cf k ∧ cf k ≤ 1000000) :
    Calls Tryz.prog 12 #[.pointer (some ⟨g, 0, none⟩)] W fun e W' => e = .returned (.tuple #[.int .i64 (cf 61), .int .i64 0]) ∧ RLog w W' g d x book n ks := by
  have zt := zeroTl
  have hmf : ∀ (fn : Fn) (first cap : Array Value) (w : World), (Instr.makeFunc fn first cap).run Tryz.prog w = .ok (.func fn first cap) w := fun _ _ _ _ => rfl
  have hck := h.check
  have HEa : Hid (∀ (V : World) gt, w.heap.size ≤ gt → (∀ p ∈ ks, p.1 ≠ gt) → RLog w V g d x book (n + 4) ((gt, .cells (tlRow 0 0 (.slice none 0 0)) 116) :: ks) → Calls Tryz.prog 48 #[.pointer (some ⟨g, 0, none⟩), .func (.func 49) #[.pointer (some ⟨gt, 0, none⟩)] #[]] V fun e W' => e = .returned (.int .i64 0) ∧ RLog w W' g d x book n ((gt, .cells (tlRow (cf 61) 0 (.slice none 0 0)) 116) :: ks)) := by
    intro V gt hgt hne hV
    refine eachC_ok (n := n) (y := layL x) (fun k m U => RLog w U g d x book m ((gt, .cells (tlRow (cf k) 0 (.slice none 0 0)) 116) :: ks)) (fun _ => true) (fun q => book (33 + (q : Int))) _ ?_ hg.i ?_ ?_ (fun q => hbk _) ?_ ?_ ?_
    · rw [h1]; exact hV.layout
    · intro k q m U hk1 hk2 hq hU
      exact hU.shelfOf hg k q ⟨hk1, hk2⟩ hq
    · intro k m U U' hU hbl
      exact hU.later hbl
    · intro k q m U hk1 hk2 hq _ hU
      have hrow := hU.obj (List.mem_cons_self ..)
      refine (countFree_ok (hb k) hrow (k : Int) _ _ _ _ _).mono ?_
      rintro r U' ⟨rfl, hr1, hr2⟩
      refine ⟨rfl, hU.swap hr2 hgt hne ?_, keeps_of hrow hr2⟩
      rw [hr1, hs k hk1 hk2]
      subst hq
      rfl
    · intro m U hm _ hU
      exact hU.less hm
    · intro k m U _ _ _ hf
      cases hf
  have HKs : Hid _ := h.ksLt
  have HB0 : Hid (w.heap.size ≤ W.heap.size) := h.below.size
  clear h hg hbk h1 hs hb
  generalize cf 61 = C at *
  go_enter Tryz.func12, Tryz.ntmps12
  go_wp2_with (go_at_call 45; fail)
  refine hck.mono ?_
  rintro e V1 ⟨rfl, hL1⟩
  have hea := HEa.out _ V1.heap.size hL1.below.size hL1.ksLt (hL1.add (.cells (tlRow 0 0 (.slice none 0 0)) 116))
  clear hck hL1 HEa
  go_upto_region 5 with fail
  generalize V1.alloc (.cells (tlRow 0 0 (.slice none 0 0)) 116) = V2 at *
  generalize V1.heap.size = gt at *
  go_wp2_with (go_at_call 48; fail)
  refine hea.mono ?_
  rintro e V3 ⟨rfl, hL3⟩
  have c0 : V3.cell? ⟨gt, 0, none⟩ = some (.int .i64 C) := Joins.cell_of_block (hL3.obj (List.mem_cons_self ..)) 0
  have HL : Hid _ := hL3.drop (ks' := ks) fun p hp => List.mem_cons_of_mem _ hp
  clear hea hL3
  go_wp2
  exact bodyPost_ret (results_tmp2 rfl _ _ _) rfl ⟨rfl, HL.out⟩
end
end Go.Proofs.YtiejhjngcnkimaaGreatR
/- An inode laid into its shelf: the rack's with, and put. -/
namespace Go.Proofs.YtiejhjngcnkimaaGreatR
open Go.RowKit Go.Maps
theorem by64_info (f : Nat → Int) : (Tryz.prog.info? 181).map (·.size) = some (rowN .u8 f 64).size := by rw [rowN_size]; exact sizeBy
theorem by64_two (f f' : Nat → Int) : (rowN .u8 f 64).size = (rowN .u8 f' 64).size := by rw [rowN_size, rowN_size]
theorem zeroBy : ∀ w, (zeroValue 181).run Tryz.prog w = .ok (.agg (rowN .u8 nought 64)) w := (zero_of_info (show (Tryz.prog.info? 181).map (fun i => (i.zero, i.size)) = some (some (.agg (rowN .u8 nought 64)), 64) by kernel_rfl)).1
structure WiS (A W : World) (gb gy : Nat) (F E : Nat → Int) : Prop where
  bel : Below A.heap.size A W
  nb : A.heap.size ≤ gb
  ny : A.heap.size ≤ gy
  ne : gb ≠ gy
  blk : W.heap[gb]? = some (.cells (blk F) 85)
  byt : W.heap[gy]? = some (.cells (rowN .u8 E 64) 181)
theorem wiS_end {A Z : World} {gb gy : Nat} {F E F0 E0 : Nat → Int} (hq : Below A.heap.size A Z) (h1 : A.heap.size ≤ gb) (h2 : A.heap.size ≤ gy) (hne : gb ≠ gy) (hb : Z.heap[gb]? = some (.cells (blk F0) 85)) (hy : Z.heap[gy]? = some (.cells (rowN .u8 E0 64) 181)) :
    Below A.heap.size A (Z.setRow gb (blk F)) ∧ (Z.setRow gb (blk F)).heap[gy]? = some (.cells (rowN .u8 E0 64) 181) ∧ WiS A ((Z.setRow gb (blk F)).setRow gy (rowN .u8 E 64)) gb gy F E := by
  have b1 : Below A.heap.size A (Z.setRow gb (blk F)) := hq.trans ((Fr.setRow Z gb _).below (fun i hi => by omega) hq.size)
  have y1 : (Z.setRow gb (blk F)).heap[gy]? = some (.cells (rowN .u8 E0 64) 181) := ((Fr.setRow Z gb _).block gy (Array.getElem?_eq_some_iff.1 hy).1 (fun e => hne e.symm)).trans hy
  have k1 := setRow_heap Z gb _ (blk F) _ _ hb
  refine ⟨b1, y1, b1.trans ((Fr.setRow _ gy _).below (fun i hi => by omega) b1.size), h1, h2, hne, ?_, setRow_heap _ gy _ _ _ _ y1⟩
  exact ((Fr.setRow _ gy _).block gb (Array.getElem?_eq_some_iff.1 k1).1 hne).trans k1
theorem exec_copyB {o : Oper} {a : Act} {w : World} {d s : Operand} (ho : o.op = .call { callee := .builtin .copy, args := #[d, s], argTypes := #[88, 88] }) (g off dLen dCap gs so sLen sCap : Nat)
    (hd : a.eval d = .slice (some ⟨g, off, none⟩) dLen dCap) (hs : a.eval s = .slice (some ⟨gs, so, none⟩) sLen sCap)
    (F : Nat → Int) (m : Nat) (t : TypeId) (hF : w.heap[g]? = some (.cells (Go.Proofs.YtiejhjngcnkimaaGreatRN.rowA F m) t)) (G : Nat → Int) (n : Nat) (hn : n = Nat.min sLen dLen)
    (hsrc : ∀ j, j < n → w.cell? ⟨gs, so + j, none⟩ = some (.int .u8 (G j))) (hfit : off + n ≤ m) : (execOp a.eval o).run Tryz.prog w = .ok (.value (goInt n)) (w.setRow g (Go.Proofs.YtiejhjngcnkimaaGreatRN.rowA (Go.Proofs.YtiejhjngcnkimaaGreatRN.over F off n G) m)) := by
  have hrun := Go.Proofs.YtiejhjngcnkimaaGreatRN.run_copy5 w o.type g off dLen dCap gs so sLen sCap F m t hF G n hn hsrc hfit
  simp [execOp, ho, resolve, invoke, builtin, hd, hs, hrun, Result.andThen]
theorem exec_slY {o : Oper} {a : Act} {W : World} {x : Operand} {g : Nat} (ho : o.op = .slice 181 x none none none) (hx : a.eval x = .pointer (some ⟨g, 0, none⟩)) : (execOp a.eval o).run Tryz.prog W = .ok (.value (.slice (some ⟨g, 0, none⟩) 64 64)) W := by
  have ea : Tryz.prog.arrayLen 181 = 64 := by kernel_rfl
  have ee : Tryz.prog.elem 181 = 5 := by kernel_rfl
  have h := run_sliceAt_array_all (P := Tryz.prog) W 181 ⟨g, 0, none⟩ (by rw [ea, ee]; exact Tryz.underlying181)
  rw [ea, ee] at h
  simp [Tryz.sizeOf5, slicedAt, Addr.add] at h
  simp [execOp, ho, hx, h]
set_option maxRecDepth 20000 in
set_option maxHeartbeats 4000000 in
theorem with_ok {W : World} {gs : Nat} {a b k : Int} {F : Nat → Int} {lo : Nat} (h : W.heap[gs]? = some (.cells (shRow a b F) 111)) (hk : (k - b) * 64 = (lo : Int)) (hl : lo ≤ 960) {kk l s bb : Int} {dd : Nat → Int} (hN : Go.Proofs.YtiejhjngcnkimaaGreatRN.NodeOk kk l s bb dd) :
    Calls Tryz.prog 104 #[.pointer (some ⟨gs, 0, none⟩), .int .i64 k, .agg (Go.Proofs.YtiejhjngcnkimaaGreatRN.node16 kk l s bb dd)] W fun e W' => e = .returned (.agg (blk (Go.Proofs.YtiejhjngcnkimaaGreatRN.over F lo 64 (Go.Proofs.YtiejhjngcnkimaaGreatRN.encN kk l s bb dd 12)))) ∧ Below W.heap.size W W' := by
  have zb := zero77
  have HEn : Hid (∀ V : World, Calls Tryz.prog 156 #[.agg (Go.Proofs.YtiejhjngcnkimaaGreatRN.node16 kk l s bb dd)] V fun e w' => e = .returned (.agg (rowN .u8 (Go.Proofs.YtiejhjngcnkimaaGreatRN.encN kk l s bb dd 12) 64)) ∧ Below V.heap.size V w') := fun V => Go.Proofs.YtiejhjngcnkimaaGreatRN.encode_any kk l s bb dd V hN
  have HPl : Hid (∀ V : World, V.heap[gs]? = some (.cells (shRow a b F) 111) → Calls Tryz.prog 101 #[.pointer (some ⟨gs, 0, none⟩), .int .i64 k] V fun e W' => e = .returned (.int .i64 (lo : Int)) ∧ W' = V) := fun V hV => place_ok hV hk hl
  have HNi : Hid _ := nd_info kk l s bb dd
  generalize Go.Proofs.YtiejhjngcnkimaaGreatRN.encN kk l s bb dd 12 = E at *
  generalize Go.Proofs.YtiejhjngcnkimaaGreatRN.node16 kk l s bb dd = N at *
  obtain ⟨G, hG⟩ : ∃ G, Go.Proofs.YtiejhjngcnkimaaGreatRN.over F lo 64 E = G := ⟨_, rfl⟩
  rw [hG]
  have HG : Hid _ := hG
  clear hG
  obtain ⟨A, hA⟩ : ∃ A, A = (W.alloc (.cells N 45)).alloc (.cells (blk nought) 85) := ⟨_, rfl⟩
  have HSA : Hid (A.heap[gs]? = some (.cells (shRow a b F) 111)) := by rw [hA]; exact heap_kept (heap_kept h (below_new _ _)) (below_new _ _)
  have HNA : Hid (A.heap[W.heap.size]? = some (.cells N 45)) := by rw [hA]; exact heap_kept (heap_alloc_new _ _) (below_new _ _)
  have HRA : Hid (A.heap[W.heap.size + 1]? = some (.cells (blk nought) 85)) := by rw [hA]; exact heap_two _ _ _
  have HBA : Hid (Below W.heap.size W A) := by rw [hA]; exact below_next (below_new _ _) (below_new _ _)
  have hsz : A.heap.size = W.heap.size + 1 + 1 := by rw [hA]; simp
  have HSz : Hid _ := hsz
  have HA : Hid (A = _) := hA
  clear h hA hk hN hsz
  go_enter Tryz.func104, Tryz.ntmps104
  go_upto_region 1 with fail
  rw [← HA.out]
  clear HA
  go_cut [7, 8] from 9 to 14 (fun s7 s8 wc => ∃ gb gy : Nat, s7 = .pointer (some ⟨gb, 0, none⟩) ∧ s8 = .pointer (some ⟨gy, 0, none⟩) ∧ Hid (WiS A wc gb gy F E))
  case first =>
    refine wp_region_tree (S := fun u => Below A.heap.size A u) (rdT 0 (rdT 1 (rdT 2 (rdT 3 (rdT 4 (altT [(5, altT [(6, altT [(7, altT [(8, altT [(9, finT)])])]), (7, altT [(6, altT [(8, altT [(9, finT)])])])]), (6, altT [(5, altT [(7, altT [(8, altT [(9, finT)])])]), (7, altT [(5, altT [(8, altT [(9, finT)])])])]), (7, altT [(5, altT [(6, altT [(8, altT [(9, finT)])])]), (6, altT [(5, altT [(8, altT [(9, finT)])])])])])))))) (by kernel_rfl) rfl (by kernel_rfl) (fun d _ _ _ _ h => by cases d <;> exact h) (Below.refl _ _).drew ?_
    have hq : Below A.heap.size A A.drew := (Below.refl _ _).drew
    generalize A.drew = U at *
    refine wpT_yield (v := .pointer (some ⟨gs, 0, none⟩)) rfl rfl (fun u _ => by go_simp) ?_
    simp only [Act.put, pA, pB, pC]
    refine wpT_yield (v := .pointer (some ⟨gs, 0, none⟩)) rfl rfl (fun u _ => by go_simp) ?_
    simp only [Act.put, pA, pB, pC]
    refine wpT_yield (v := .pointer (some ⟨gs, 2, none⟩)) rfl rfl (fun u _ => by go_simp) ?_
    simp only [Act.put, pA, pB, pC]
    refine wpT_yield (v := .agg (blk F)) rfl rfl (fun u hu => exec_ldB rfl rfl (sf_blk (heap_kept HSA.out hu))) ?_
    simp only [Act.put, pA, pB, pC]
    refine wpT_yield (v := .agg N) rfl rfl (fun u hu => run_ldR 45 Tryz.underlying45 rfl (.tmp 5) rfl W.heap.size rfl (heap_kept HNA.out hu) HNi.out) ?_
    simp only [Act.put, pA, pB, pC]
    refine wpT_call rfl rfl 156 _ _ rfl Tryz.call156 [.agg N] rfl ?_ ?_
    · refine (HEn.out U).mono ?_
      rintro e1 X1 ⟨rfl, hb1⟩
      have hq1 := below_next hq hb1
      refine ⟨_, rfl, hq1, ?_⟩
      simp only [Act.put, pA, pB, pC]
      refine wpT_make (v := .pointer (some ⟨X1.heap.size, 0, none⟩)) (w' := X1.alloc (.cells (blk nought) 85)) rfl rfl (exec_allocR zero77 rfl) (hq1.alloc hq1.size _) ?_ ?_
      · simp only [Act.put, pA, pB, pC]
        have hq2 : Below A.heap.size A (X1.alloc (.cells (blk nought) 85)) := hq1.alloc hq1.size _
        have hgb2 : (X1.alloc (.cells (blk nought) 85)).heap[X1.heap.size]? = some (.cells (blk nought) 85) := heap_alloc_new _ _
        have ga2 : A.heap.size ≤ X1.heap.size := hq1.size
        obtain ⟨Y2, hY2⟩ : ∃ Y, X1.alloc (.cells (blk nought) 85) = Y := ⟨_, rfl⟩
        obtain ⟨G2, hG2⟩ : ∃ G, X1.heap.size = G := ⟨_, rfl⟩
        rw [hY2] at hq2 hgb2 ⊢
        rw [hG2] at hgb2 ga2 ⊢
        refine wpT_make (v := .pointer (some ⟨Y2.heap.size, 0, none⟩)) (w' := Y2.alloc (.cells (rowN .u8 nought 64) 181)) rfl rfl (exec_allocR zeroBy rfl) (hq2.alloc hq2.size _) ?_ wpT_stop
        simp only [Act.put, pA, pB, pC]
        have hq3 : Below A.heap.size A (Y2.alloc (.cells (rowN .u8 nought 64) 181)) := hq2.alloc hq2.size _
        have hgb3 := heap_kept hgb2 (below_new Y2 (.cells (rowN .u8 nought 64) 181))
        have hgy3 : (Y2.alloc (.cells (rowN .u8 nought 64) 181)).heap[Y2.heap.size]? = some (.cells (rowN .u8 nought 64) 181) := heap_alloc_new _ _
        have ga3 : A.heap.size ≤ Y2.heap.size := hq2.size
        obtain ⟨Y3, hY3⟩ : ∃ Y, Y2.alloc (.cells (rowN .u8 nought 64) 181) = Y := ⟨_, rfl⟩
        obtain ⟨G3, hG3⟩ : ∃ G, Y2.heap.size = G := ⟨_, rfl⟩
        rw [hY3] at hq3 hgy3 hgb3 ⊢
        rw [hG3] at hgy3 ga3 ⊢
        have hne : G2 ≠ G3 := by
          intro q
          have h1 := hgb3
          rw [q, hgy3] at h1
          have := Option.some.inj h1
          simp at this
        have hw := wiS_end hq3 ga2 ga3 hne hgb3 hgy3 (F := F) (E := E)
        refine wpT_do (w' := Y3.setRow G2 (blk F)) rfl rfl (exec_stR 85 (.tmp 7) (.tmp 12) rfl G2 rfl rfl hgb3 (blk_info _) (blk_two _ _) (blk_one _)) hw.1 ?_ wpT_stop
        simp only [Act.put]
        refine wpT_do (w' := (Y3.setRow G2 (blk F)).setRow G3 (rowN .u8 E 64)) rfl rfl (exec_stR 181 (.tmp 8) (.tmp 14) rfl G3 rfl rfl hw.2.1 (by64_info _) (by64_two _ _) (rowN_one _ _ _)) hw.2.2.bel ?_ wpT_stop
        simp only [Act.put]
        refine wpT_fin ?_
        have HRel : Hid _ := hw.2.2
        clear hw
        generalize (Y3.setRow G2 (blk F)).setRow G3 (rowN .u8 E 64) = ZZ at HRel ⊢
        go_wp2_with fail
        go_meet
        case rel => exact ⟨G2, G3, rfl, rfl, HRel.out⟩
      refine wpT_make (v := .pointer (some ⟨X1.heap.size, 0, none⟩)) (w' := X1.alloc (.cells (rowN .u8 nought 64) 181)) rfl rfl (exec_allocR zeroBy rfl) (hq1.alloc hq1.size _) ?_ wpT_stop
      simp only [Act.put, pA, pB, pC]
      have hq5 : Below A.heap.size A (X1.alloc (.cells (rowN .u8 nought 64) 181)) := hq1.alloc hq1.size _
      have hgy5 : (X1.alloc (.cells (rowN .u8 nought 64) 181)).heap[X1.heap.size]? = some (.cells (rowN .u8 nought 64) 181) := heap_alloc_new _ _
      have ga5 : A.heap.size ≤ X1.heap.size := hq1.size
      obtain ⟨Y5, hY5⟩ : ∃ Y, X1.alloc (.cells (rowN .u8 nought 64) 181) = Y := ⟨_, rfl⟩
      obtain ⟨G5, hG5⟩ : ∃ G, X1.heap.size = G := ⟨_, rfl⟩
      rw [hY5] at hq5 hgy5 ⊢
      rw [hG5] at hgy5 ga5 ⊢
      refine wpT_make (v := .pointer (some ⟨Y5.heap.size, 0, none⟩)) (w' := Y5.alloc (.cells (blk nought) 85)) rfl rfl (exec_allocR zero77 rfl) (hq5.alloc hq5.size _) ?_ wpT_stop
      simp only [Act.put, pA, pB, pC]
      have hq6 : Below A.heap.size A (Y5.alloc (.cells (blk nought) 85)) := hq5.alloc hq5.size _
      have hgy6 := heap_kept hgy5 (below_new Y5 (.cells (blk nought) 85))
      have hgb6 : (Y5.alloc (.cells (blk nought) 85)).heap[Y5.heap.size]? = some (.cells (blk nought) 85) := heap_alloc_new _ _
      have ga6 : A.heap.size ≤ Y5.heap.size := hq5.size
      obtain ⟨Y6, hY6⟩ : ∃ Y, Y5.alloc (.cells (blk nought) 85) = Y := ⟨_, rfl⟩
      obtain ⟨G6, hG6⟩ : ∃ G, Y5.heap.size = G := ⟨_, rfl⟩
      rw [hY6] at hq6 hgb6 hgy6 ⊢
      rw [hG6] at hgb6 ga6 ⊢
      have hne : G6 ≠ G5 := by
        intro q
        have h1 := hgb6
        rw [q, hgy6] at h1
        have := Option.some.inj h1
        simp at this
      have hw := wiS_end hq6 ga6 ga5 hne hgb6 hgy6 (F := F) (E := E)
      refine wpT_do (w' := Y6.setRow G6 (blk F)) rfl rfl (exec_stR 85 (.tmp 7) (.tmp 12) rfl G6 rfl rfl hgb6 (blk_info _) (blk_two _ _) (blk_one _)) hw.1 ?_ wpT_stop
      simp only [Act.put]
      refine wpT_do (w' := (Y6.setRow G6 (blk F)).setRow G5 (rowN .u8 E 64)) rfl rfl (exec_stR 181 (.tmp 8) (.tmp 14) rfl G5 rfl rfl hw.2.1 (by64_info _) (by64_two _ _) (rowN_one _ _ _)) hw.2.2.bel ?_ wpT_stop
      simp only [Act.put]
      refine wpT_fin ?_
      have HRel : Hid _ := hw.2.2
      clear hw
      generalize (Y6.setRow G6 (blk F)).setRow G5 (rowN .u8 E 64) = ZZ at HRel ⊢
      go_wp2_with fail
      go_meet
      case rel => exact ⟨G6, G5, rfl, rfl, HRel.out⟩
    refine wpT_make (v := .pointer (some ⟨U.heap.size, 0, none⟩)) (w' := U.alloc (.cells (blk nought) 85)) rfl rfl (exec_allocR zero77 rfl) (hq.alloc hq.size _) ?_ ?_
    · simp only [Act.put, pA, pB, pC]
      have hq8 : Below A.heap.size A (U.alloc (.cells (blk nought) 85)) := hq.alloc hq.size _
      have hgb8 : (U.alloc (.cells (blk nought) 85)).heap[U.heap.size]? = some (.cells (blk nought) 85) := heap_alloc_new _ _
      have ga8 : A.heap.size ≤ U.heap.size := hq.size
      obtain ⟨Y8, hY8⟩ : ∃ Y, U.alloc (.cells (blk nought) 85) = Y := ⟨_, rfl⟩
      obtain ⟨G8, hG8⟩ : ∃ G, U.heap.size = G := ⟨_, rfl⟩
      rw [hY8] at hq8 hgb8 ⊢
      rw [hG8] at hgb8 ga8 ⊢
      refine wpT_call rfl rfl 156 _ _ rfl Tryz.call156 [.agg N] rfl ?_ ?_
      · refine (HEn.out Y8).mono ?_
        rintro e9 X9 ⟨rfl, hb9⟩
        have hq9 := below_next hq8 hb9
        have hgb9 := heap_kept hgb8 hb9
        refine ⟨_, rfl, hq9, ?_⟩
        simp only [Act.put, pA, pB, pC]
        refine wpT_make (v := .pointer (some ⟨X9.heap.size, 0, none⟩)) (w' := X9.alloc (.cells (rowN .u8 nought 64) 181)) rfl rfl (exec_allocR zeroBy rfl) (hq9.alloc hq9.size _) ?_ wpT_stop
        simp only [Act.put, pA, pB, pC]
        have hq10 : Below A.heap.size A (X9.alloc (.cells (rowN .u8 nought 64) 181)) := hq9.alloc hq9.size _
        have hgb10 := heap_kept hgb9 (below_new X9 (.cells (rowN .u8 nought 64) 181))
        have hgy10 : (X9.alloc (.cells (rowN .u8 nought 64) 181)).heap[X9.heap.size]? = some (.cells (rowN .u8 nought 64) 181) := heap_alloc_new _ _
        have ga10 : A.heap.size ≤ X9.heap.size := hq9.size
        obtain ⟨Y10, hY10⟩ : ∃ Y, X9.alloc (.cells (rowN .u8 nought 64) 181) = Y := ⟨_, rfl⟩
        obtain ⟨G10, hG10⟩ : ∃ G, X9.heap.size = G := ⟨_, rfl⟩
        rw [hY10] at hq10 hgy10 hgb10 ⊢
        rw [hG10] at hgy10 ga10 ⊢
        have hne : G8 ≠ G10 := by
          intro q
          have h1 := hgb10
          rw [q, hgy10] at h1
          have := Option.some.inj h1
          simp at this
        have hw := wiS_end hq10 ga8 ga10 hne hgb10 hgy10 (F := F) (E := E)
        refine wpT_do (w' := Y10.setRow G8 (blk F)) rfl rfl (exec_stR 85 (.tmp 7) (.tmp 12) rfl G8 rfl rfl hgb10 (blk_info _) (blk_two _ _) (blk_one _)) hw.1 ?_ wpT_stop
        simp only [Act.put]
        refine wpT_do (w' := (Y10.setRow G8 (blk F)).setRow G10 (rowN .u8 E 64)) rfl rfl (exec_stR 181 (.tmp 8) (.tmp 14) rfl G10 rfl rfl hw.2.1 (by64_info _) (by64_two _ _) (rowN_one _ _ _)) hw.2.2.bel ?_ wpT_stop
        simp only [Act.put]
        refine wpT_fin ?_
        have HRel : Hid _ := hw.2.2
        clear hw
        generalize (Y10.setRow G8 (blk F)).setRow G10 (rowN .u8 E 64) = ZZ at HRel ⊢
        go_wp2_with fail
        go_meet
        case rel => exact ⟨G8, G10, rfl, rfl, HRel.out⟩
      refine wpT_make (v := .pointer (some ⟨Y8.heap.size, 0, none⟩)) (w' := Y8.alloc (.cells (rowN .u8 nought 64) 181)) rfl rfl (exec_allocR zeroBy rfl) (hq8.alloc hq8.size _) ?_ wpT_stop
      simp only [Act.put, pA, pB, pC]
      have hq12 : Below A.heap.size A (Y8.alloc (.cells (rowN .u8 nought 64) 181)) := hq8.alloc hq8.size _
      have hgb12 := heap_kept hgb8 (below_new Y8 (.cells (rowN .u8 nought 64) 181))
      have hgy12 : (Y8.alloc (.cells (rowN .u8 nought 64) 181)).heap[Y8.heap.size]? = some (.cells (rowN .u8 nought 64) 181) := heap_alloc_new _ _
      have ga12 : A.heap.size ≤ Y8.heap.size := hq8.size
      obtain ⟨Y12, hY12⟩ : ∃ Y, Y8.alloc (.cells (rowN .u8 nought 64) 181) = Y := ⟨_, rfl⟩
      obtain ⟨G12, hG12⟩ : ∃ G, Y8.heap.size = G := ⟨_, rfl⟩
      rw [hY12] at hq12 hgy12 hgb12 ⊢
      rw [hG12] at hgy12 ga12 ⊢
      refine wpT_call rfl rfl 156 _ _ rfl Tryz.call156 [.agg N] rfl ?_ wpT_stop
      refine (HEn.out Y12).mono ?_
      rintro e13 X13 ⟨rfl, hb13⟩
      have hq13 := below_next hq12 hb13
      have hgb13 := heap_kept hgb12 hb13
      have hgy13 := heap_kept hgy12 hb13
      refine ⟨_, rfl, hq13, ?_⟩
      simp only [Act.put, pA, pB, pC]
      have hne : G8 ≠ G12 := by
        intro q
        have h1 := hgb13
        rw [q, hgy13] at h1
        have := Option.some.inj h1
        simp at this
      have hw := wiS_end hq13 ga8 ga12 hne hgb13 hgy13 (F := F) (E := E)
      refine wpT_do (w' := X13.setRow G8 (blk F)) rfl rfl (exec_stR 85 (.tmp 7) (.tmp 12) rfl G8 rfl rfl hgb13 (blk_info _) (blk_two _ _) (blk_one _)) hw.1 ?_ wpT_stop
      simp only [Act.put]
      refine wpT_do (w' := (X13.setRow G8 (blk F)).setRow G12 (rowN .u8 E 64)) rfl rfl (exec_stR 181 (.tmp 8) (.tmp 14) rfl G12 rfl rfl hw.2.1 (by64_info _) (by64_two _ _) (rowN_one _ _ _)) hw.2.2.bel ?_ wpT_stop
      simp only [Act.put]
      refine wpT_fin ?_
      have HRel : Hid _ := hw.2.2
      clear hw
      generalize (X13.setRow G8 (blk F)).setRow G12 (rowN .u8 E 64) = ZZ at HRel ⊢
      go_wp2_with fail
      go_meet
      case rel => exact ⟨G8, G12, rfl, rfl, HRel.out⟩
    refine wpT_make (v := .pointer (some ⟨U.heap.size, 0, none⟩)) (w' := U.alloc (.cells (rowN .u8 nought 64) 181)) rfl rfl (exec_allocR zeroBy rfl) (hq.alloc hq.size _) ?_ wpT_stop
    simp only [Act.put, pA, pB, pC]
    have hq15 : Below A.heap.size A (U.alloc (.cells (rowN .u8 nought 64) 181)) := hq.alloc hq.size _
    have hgy15 : (U.alloc (.cells (rowN .u8 nought 64) 181)).heap[U.heap.size]? = some (.cells (rowN .u8 nought 64) 181) := heap_alloc_new _ _
    have ga15 : A.heap.size ≤ U.heap.size := hq.size
    obtain ⟨Y15, hY15⟩ : ∃ Y, U.alloc (.cells (rowN .u8 nought 64) 181) = Y := ⟨_, rfl⟩
    obtain ⟨G15, hG15⟩ : ∃ G, U.heap.size = G := ⟨_, rfl⟩
    rw [hY15] at hq15 hgy15 ⊢
    rw [hG15] at hgy15 ga15 ⊢
    refine wpT_call rfl rfl 156 _ _ rfl Tryz.call156 [.agg N] rfl ?_ ?_
    · refine (HEn.out Y15).mono ?_
      rintro e16 X16 ⟨rfl, hb16⟩
      have hq16 := below_next hq15 hb16
      have hgy16 := heap_kept hgy15 hb16
      refine ⟨_, rfl, hq16, ?_⟩
      simp only [Act.put, pA, pB, pC]
      refine wpT_make (v := .pointer (some ⟨X16.heap.size, 0, none⟩)) (w' := X16.alloc (.cells (blk nought) 85)) rfl rfl (exec_allocR zero77 rfl) (hq16.alloc hq16.size _) ?_ wpT_stop
      simp only [Act.put, pA, pB, pC]
      have hq17 : Below A.heap.size A (X16.alloc (.cells (blk nought) 85)) := hq16.alloc hq16.size _
      have hgy17 := heap_kept hgy16 (below_new X16 (.cells (blk nought) 85))
      have hgb17 : (X16.alloc (.cells (blk nought) 85)).heap[X16.heap.size]? = some (.cells (blk nought) 85) := heap_alloc_new _ _
      have ga17 : A.heap.size ≤ X16.heap.size := hq16.size
      obtain ⟨Y17, hY17⟩ : ∃ Y, X16.alloc (.cells (blk nought) 85) = Y := ⟨_, rfl⟩
      obtain ⟨G17, hG17⟩ : ∃ G, X16.heap.size = G := ⟨_, rfl⟩
      rw [hY17] at hq17 hgb17 hgy17 ⊢
      rw [hG17] at hgb17 ga17 ⊢
      have hne : G17 ≠ G15 := by
        intro q
        have h1 := hgb17
        rw [q, hgy17] at h1
        have := Option.some.inj h1
        simp at this
      have hw := wiS_end hq17 ga17 ga15 hne hgb17 hgy17 (F := F) (E := E)
      refine wpT_do (w' := Y17.setRow G17 (blk F)) rfl rfl (exec_stR 85 (.tmp 7) (.tmp 12) rfl G17 rfl rfl hgb17 (blk_info _) (blk_two _ _) (blk_one _)) hw.1 ?_ wpT_stop
      simp only [Act.put]
      refine wpT_do (w' := (Y17.setRow G17 (blk F)).setRow G15 (rowN .u8 E 64)) rfl rfl (exec_stR 181 (.tmp 8) (.tmp 14) rfl G15 rfl rfl hw.2.1 (by64_info _) (by64_two _ _) (rowN_one _ _ _)) hw.2.2.bel ?_ wpT_stop
      simp only [Act.put]
      refine wpT_fin ?_
      have HRel : Hid _ := hw.2.2
      clear hw
      generalize (Y17.setRow G17 (blk F)).setRow G15 (rowN .u8 E 64) = ZZ at HRel ⊢
      go_wp2_with fail
      go_meet
      case rel => exact ⟨G17, G15, rfl, rfl, HRel.out⟩
    refine wpT_make (v := .pointer (some ⟨Y15.heap.size, 0, none⟩)) (w' := Y15.alloc (.cells (blk nought) 85)) rfl rfl (exec_allocR zero77 rfl) (hq15.alloc hq15.size _) ?_ wpT_stop
    simp only [Act.put, pA, pB, pC]
    have hq19 : Below A.heap.size A (Y15.alloc (.cells (blk nought) 85)) := hq15.alloc hq15.size _
    have hgy19 := heap_kept hgy15 (below_new Y15 (.cells (blk nought) 85))
    have hgb19 : (Y15.alloc (.cells (blk nought) 85)).heap[Y15.heap.size]? = some (.cells (blk nought) 85) := heap_alloc_new _ _
    have ga19 : A.heap.size ≤ Y15.heap.size := hq15.size
    obtain ⟨Y19, hY19⟩ : ∃ Y, Y15.alloc (.cells (blk nought) 85) = Y := ⟨_, rfl⟩
    obtain ⟨G19, hG19⟩ : ∃ G, Y15.heap.size = G := ⟨_, rfl⟩
    rw [hY19] at hq19 hgb19 hgy19 ⊢
    rw [hG19] at hgb19 ga19 ⊢
    refine wpT_call rfl rfl 156 _ _ rfl Tryz.call156 [.agg N] rfl ?_ wpT_stop
    refine (HEn.out Y19).mono ?_
    rintro e20 X20 ⟨rfl, hb20⟩
    have hq20 := below_next hq19 hb20
    have hgb20 := heap_kept hgb19 hb20
    have hgy20 := heap_kept hgy19 hb20
    refine ⟨_, rfl, hq20, ?_⟩
    simp only [Act.put, pA, pB, pC]
    have hne : G19 ≠ G15 := by
      intro q
      have h1 := hgb20
      rw [q, hgy20] at h1
      have := Option.some.inj h1
      simp at this
    have hw := wiS_end hq20 ga19 ga15 hne hgb20 hgy20 (F := F) (E := E)
    refine wpT_do (w' := X20.setRow G19 (blk F)) rfl rfl (exec_stR 85 (.tmp 7) (.tmp 12) rfl G19 rfl rfl hgb20 (blk_info _) (blk_two _ _) (blk_one _)) hw.1 ?_ wpT_stop
    simp only [Act.put]
    refine wpT_do (w' := (X20.setRow G19 (blk F)).setRow G15 (rowN .u8 E 64)) rfl rfl (exec_stR 181 (.tmp 8) (.tmp 14) rfl G15 rfl rfl hw.2.1 (by64_info _) (by64_two _ _) (rowN_one _ _ _)) hw.2.2.bel ?_ wpT_stop
    simp only [Act.put]
    refine wpT_fin ?_
    have HRel : Hid _ := hw.2.2
    clear hw
    generalize (X20.setRow G19 (blk F)).setRow G15 (rowN .u8 E 64) = ZZ at HRel ⊢
    go_wp2_with fail
    go_meet
    case rel => exact ⟨G19, G15, rfl, rfl, HRel.out⟩
  case rest =>
    obtain ⟨gb, gy, rfl, rfl, HWi⟩ := hcut
    go_upto_region 2 with fail
    have hS : wc.drew.heap[gs]? = some (.cells (shRow a b F) 111) := heap_kept HSA.out HWi.out.bel.drew
    have hgs : gs < A.heap.size := (Array.getElem?_eq_some_iff.1 HSA.out).1
    have hb0 : wc.drew.heap[gb]? = some (.cells (blk F) 85) := HWi.out.blk
    have hy0 : wc.drew.heap[gy]? = some (.cells (rowN .u8 E 64) 181) := HWi.out.byt
    have hBw : Below A.heap.size A wc.drew := HWi.out.bel.drew
    have hnb := HWi.out.nb
    have hne := HWi.out.ne
    have hr0 : wc.drew.heap[W.heap.size + 1]? = some (.cells (blk nought) 85) := heap_kept HRA.out hBw
    have hszA := HSz.out
    refine wp_region_ord (S := fun u => u.heap[gs]? = some (.cells (shRow a b F) 111)) [(0, true), (1, true), (4, true), (2, false), (3, true), (5, false)] (by kernel_rfl) rfl (by kernel_rfl) (fun d _ _ _ _ h => by cases d <;> exact h) hS ?_
    simp only [inOrd, List.getElem?_cons_zero, List.getElem?_cons_succ]
    generalize wc.drew = U at *
    refine wpOrd_yield (v := .pointer (some ⟨gs, 0, none⟩)) rfl (fun u _ => exec_mv rfl rfl) ?_
    simp only [Act.put, pA, pB, pC]
    refine wpOrd_yield (v := .int .i64 k) rfl (fun u _ => exec_mv rfl rfl) ?_
    simp only [Act.put, pA, pB, pC]
    refine wpOrd_yield (v := .slice (some ⟨gy, 0, none⟩) 64 64) rfl (fun u _ => exec_slY rfl rfl) ?_
    simp only [Act.put, pA, pB, pC]
    refine wpOrd_call rfl 101 _ _ rfl Tryz.call101 [.pointer (some ⟨gs, 0, none⟩), .int .i64 k] rfl ?_
    refine (HPl.out U hS).mono ?_
    rintro e U2 ⟨rfl, rfl⟩
    refine ⟨_, rfl, hS, ?_⟩
    simp only [Act.put, pA, pB, pC]
    refine wpOrd_yield (v := .slice (some ⟨gb, 0 + lo, none⟩) (1024 - lo) (1024 - lo)) rfl (fun u _ => exec_slB rfl rfl rfl (by omega)) ?_
    simp only [Act.put, pA, pB, pC]
    have hmin : 64 = Nat.min 64 (1024 - lo) := by show 64 = min 64 (1024 - lo); omega
    have hk1 := setRow_heap U2 gb _ (blk G) _ _ hb0
    refine wpOrd_act (W' := U2.setRow gb (blk G)) rfl (exec_copyB rfl gb (0 + lo) (1024 - lo) (1024 - lo) gy 0 64 64 rfl rfl F 1024 85 hb0 E 64 hmin (fun j hj => by rw [Nat.zero_add]; exact cell_rowN hy0 hj) (by omega) |>.trans (by rw [Nat.zero_add, HG.out]; rfl)) (((Fr.setRow U2 gb _).block gs (Array.getElem?_eq_some_iff.1 hS).1 (by omega)).trans hS) ?_
    simp only [Act.put, pA, pB, pC]
    refine wpOrd_nil ?_
    have hr1 : (U2.setRow gb (blk G)).heap[W.heap.size + 1]? = some (.cells (blk nought) 85) := ((Fr.setRow U2 gb _).block (W.heap.size + 1) (Array.getElem?_eq_some_iff.1 hr0).1 (by omega)).trans hr0
    have hB1 : Below W.heap.size W (U2.setRow gb (blk G)) := by
      have h1 : Below A.heap.size A (U2.setRow gb (blk G)) := hBw.trans ((Fr.setRow U2 gb _).below (fun i hi => by omega) hBw.size)
      exact below_next HBA.out h1
    have hbk := blk_at hk1
    have HB1 : Hid _ := hB1
    generalize U2.setRow gb (blk G) = Z at *
    clear hS hb0 hy0 hBw hr0 hk1 hB1 HWi HPl HEn HSA HNA HRA HBA
    have HB2 : Hid (Below W.heap.size W (Z.setRow (W.heap.size + 1) (blk G))) := HB1.out.trans ((Fr.setRow Z (W.heap.size + 1) (blk G)).below (fun i hi => by omega) HB1.out.size)
    go_wp2_with (first | (with_reducible refine isLoadR 85 ?_; refine wpList_ldB rfl (.tmp 7) rfl gb 0 G rfl hbk ?_) | (with_reducible refine isStoreR 85 ?_; refine wpList_stB rfl (.tmp 6) (.tmp 21) rfl (W.heap.size + 1) G nought 85 rfl rfl hr1 ?_))
    exact retB rfl (W.heap.size + 1) G 85 rfl (setRow_heap _ _ _ _ _ _ hr1) rfl ⟨rfl, HB2.out⟩
end Go.Proofs.YtiejhjngcnkimaaGreatR
