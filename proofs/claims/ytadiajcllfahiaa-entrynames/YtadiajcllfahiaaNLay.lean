/- Lay of slab: bytes laid into a block, those that come to lie inside; for every block, place and bytes. -/
import Derived.Test.YtadiajcllfahiaaNPiece
import Derived.StillTailTactics
namespace Go.Proofs.YtadiajcllfahiaaN
open Go.RowKit

/-- f with n bytes of q laid from place a on. -/
def layF (f : Nat → Int) (a : Int) (n : Nat) (q : Nat → Int) : Nat → Int := fun j => if a ≤ (j : Int) ∧ (j : Int) - a < (n : Int) then q ((j : Int) - a).toNat else f j

theorem lay_none (f : Nat → Int) (k : Int) (n : Nat) (q : Nat → Int) (h : ¬ insLo k n < insHi k n) : blk f = blk (layF f k n q) := blk_congr fun i hi => by
  unfold layF
  have := ins_iff k n i hi
  rw [if_neg (by omega)]
theorem lay_some (f : Nat → Int) (k : Int) (n : Nat) (q : Nat → Int) (h : insLo k n < insHi k n) :
    rowA (over f (insLo k n) (insHi k n - insLo k n) (from' q ((insLo k n : Int) - k).toNat)) 1024 = blk (layF f k n q) := rowA_congr fun i hi => by
  unfold over layF from'
  have h1 := ins_iff k n i hi
  have h2 := ins_lo k n h
  by_cases h3 : insLo k n ≤ i ∧ i < insHi k n
  · rw [if_pos (by omega), if_pos (h1.1 h3)]
    congr 1
    omega
  · rw [if_neg (by omega), if_neg (by omega)]

set_option maxRecDepth 20000 in
set_option maxHeartbeats 400000 in
theorem lay_skip (f : Nat → Int) (k : Int) (a : Option Addr) (n cap : Nat) (q : Nat → Int) (w : World) (ha : -9223372036854775808 ≤ k ∧ k ≤ 9223372036854775807) (hn : n ≤ 9223372036854775807) (h : ¬ insLo k n < insHi k n) :
    Calls Try.prog 17 #[.agg (blk f), .int .i64 k, .slice a n cap] w fun e w' => e = .returned (.agg (blk (layF f k n q))) ∧ Below w.heap.size w w' := by
  have HF : Hid (blk f = blk (layF f k n q)) := lay_none f k n q h
  have hcl := slabInside_any k n
  have z25 := zero25
  generalize insLo k n = lo at *
  generalize insHi k n = hi at *
  have h' : ¬ ((lo : Int) < (hi : Int)) := by omega
  clear h
  go_enter Try.func17, Try.ntmps17
  go_wp2_with fail
  refine (hcl _ ha (by omega)).mono ?_
  rintro e w1 ⟨rfl, rfl⟩
  clear hcl
  go_wp2_with (first | refine wpList_load25 rfl _ rfl _ rfl _ (heap_alloc2_old _ _ _) ?_ | refine wpList_store25 rfl _ _ rfl _ _ rfl rfl _ (heap_alloc2_new _ _ _) ?_)
  exact ret25 rfl (w.heap.size + 1) _ rfl (setRow_heap _ _ _ _ _ _ (heap_alloc2_new _ _ _)) rfl ⟨by rw [HF.out], below2 _ _ _ _ (by omega) _⟩

set_option maxRecDepth 20000 in
set_option maxHeartbeats 400000 in
theorem lay_copy (f : Nat → Int) (k : Int) (b off n cap : Nat) (q : Nat → Int) (w : World) (ha : -9223372036854775808 ≤ k ∧ k ≤ 9223372036854775807) (hn : n ≤ 9223372036854775807) (hcap : n ≤ cap)
    (hb : b < w.heap.size) (hc : ∀ i, i < n → w.cell? ⟨b, off + i, none⟩ = some (.int .u8 (q i))) (h : insLo k n < insHi k n) :
    Calls Try.prog 17 #[.agg (blk f), .int .i64 k, .slice (some ⟨b, off, none⟩) n cap] w fun e w' => e = .returned (.agg (blk (layF f k n q))) ∧ Below w.heap.size w w' := by
  have hle := ins_le k n
  have hlo := ins_lo_lt k n
  have hlk := ins_lo k n h
  have HF : Hid (rowA (over f (insLo k n) (insHi k n - insLo k n) (from' q ((insLo k n : Int) - k).toNat)) 1024 = blk (layF f k n q)) := lay_some f k n q h
  have hcl := slabInside_any k n
  have z25 := zero25
  generalize insLo k n = lo at *
  generalize insHi k n = hi at *
  obtain ⟨l, hl⟩ : ∃ l : Nat, (lo : Int) - k = (l : Int) := ⟨((lo : Int) - k).toNat, by omega⟩
  have hlt : ((lo : Int) - k).toNat = l := by omega
  rw [hlt] at HF
  have h' : ((lo : Int) < (hi : Int)) := by omega
  have hsl := slice25 w.heap.size lo hi hle.1 hle.2 hlo
  have hln : l < n := by omega
  have hwr : IntKind.i64.wrap ((lo : Int) - k) = (l : Int) := by rw [IntKind.wrap_i64]; omega
  have hln' : (l : Int) ≤ (n : Int) := by omega
  have hcp : ¬ cap = l := by omega
  have hsrc : ∀ j, j < hi - lo → ((w.alloc (.cells (blk f) 43)).alloc (.cells (blk nought) 43)).drew.cell? ⟨b, off + l + j, none⟩ = some (.int .u8 (from' q l j)) := fun j hj => by
    have h1 := hc (l + j) (by omega)
    rw [← Nat.add_assoc] at h1
    exact ((((Below.refl w.heap.size w).alloc (Nat.le_refl _) (.cells (blk f) 43)).alloc (by simp) (.cells (blk nought) 43)).cell (p := ⟨b, off + l + j, none⟩) hb).trans h1
  have HS : Hid (∀ j, j < hi - lo → ((w.alloc (.cells (blk f) 43)).alloc (.cells (blk nought) 43)).drew.cell? ⟨b, off + l + j, none⟩ = some (.int .u8 (from' q l j))) := hsrc
  have HB : Hid (((w.alloc (.cells (blk f) 43)).alloc (.cells (blk nought) 43)).drew.heap[w.heap.size]? = some (.cells (rowA f 1024) 43)) := heap_alloc2_old _ _ _
  have hE : lo + (hi - lo) ≤ 1024 := by omega
  have HE : Hid (lo + (hi - lo) ≤ 1024) := hE
  clear hE
  have HN : Hid (hi - lo = Nat.min (n - l) (hi - lo)) := show _ = _ from (Nat.min_eq_right (by omega)).symm
  clear hc hsrc hlt h hlo hln
  clear hl
  go_enter Try.func17, Try.ntmps17
  go_wp2_with fail
  refine (hcl _ ha (by omega)).mono ?_
  rintro e w1 ⟨rfl, rfl⟩
  clear hcl
  go_wp2
  go_still_tail 8, (by kernel_rfl)
  change wpList _ _ _ _ _ (World.drew _)
  refine wpList_copy5 rfl (.tmp 21) (.tmp 26) rfl w.heap.size lo (hi - lo) (1024 - lo) b (off + l) (n - l) (cap - l) rfl rfl f 1024 43 HB.out (from' q l) (hi - lo) HN.out HS.out HE.out ?_
  rw [HF.out]
  have h1 := setRow_heap _ w.heap.size (rowA f 1024) (blk (layF f k n q)) 43 (0, 0) HB.out
  have h2 : (((w.alloc (.cells (blk f) 43)).alloc (.cells (blk nought) 43)).drew.setRow w.heap.size (blk (layF f k n q))).heap[w.heap.size + 1]? = some (.cells (blk nought) 43) :=
    (setRow_other _ _ _ _ (by omega)).trans (heap_alloc2_new _ _ _)
  have h3 : Below w.heap.size w (((w.alloc (.cells (blk f) 43)).alloc (.cells (blk nought) 43)).drew.setRow w.heap.size (blk (layF f k n q))) :=
    below_setRow (((Below.refl _ _).alloc (Nat.le_refl _) _).alloc (by simp) _).drew (Nat.le_refl _) _
  generalize ((w.alloc (.cells (blk f) 43)).alloc (.cells (blk nought) 43)).drew.setRow w.heap.size (blk (layF f k n q)) = W at h1 h2 h3 ⊢
  clear HB HS HF hsl
  simp only [Act.put, List.setIfInBounds_toArray, List.set_cons_succ, List.set_cons_zero]
  go_wp2_with (first | refine wpList_load25 rfl _ rfl _ rfl _ h1 ?_ | refine wpList_store25 rfl _ _ rfl _ _ rfl rfl _ h2 ?_)
  exact ret25 rfl (w.heap.size + 1) _ rfl (setRow_heap _ _ _ _ _ _ h2) rfl ⟨rfl, below_setRow h3 (by omega) _⟩

theorem lay_any (f : Nat → Int) (k : Int) (p : Value) (n : Nat) (q : Nat → Int) (w : World) (ha : -9223372036854775808 ≤ k ∧ k ≤ 9223372036854775807) (hp : Lies w p n q) :
    Calls Try.prog 17 #[.agg (blk f), .int .i64 k, p] w fun e w' => e = .returned (.agg (blk (layF f k n q))) ∧ Below w.heap.size w w' := by
  rcases hp with ⟨a, cap, rfl, rfl, _⟩ | ⟨b, off, cap, rfl, hn, hcap, hb, hc⟩
  · refine lay_skip f k a 0 cap q w ha (by omega) ?_
    unfold insLo insHi; rw [if_pos (.inl (by omega)), if_pos (.inl (by omega))]; omega
  · unfold maxLen at hn
    by_cases h : insLo k n < insHi k n
    · exact lay_copy f k b off n cap q w ha (by omega) hcap hb hc h
    · exact lay_skip f k _ n cap q w ha (by omega) h
end Go.Proofs.YtadiajcllfahiaaN
