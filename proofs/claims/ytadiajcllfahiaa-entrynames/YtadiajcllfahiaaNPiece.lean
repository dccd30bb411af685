/- Piece of slab: some bytes of a block, those that are inside, in memory of their own; for every block, place and number. -/
import Derived.Test.YtadiajcllfahiaaNBytes
namespace Go.Proofs.YtadiajcllfahiaaN
open Go.RowKit

theorem ins_lo_lt (a n : Int) : insLo a n < 1024 := by unfold insLo; split <;> omega
theorem slice25 (g lo hi : Nat) (h1 : lo ≤ hi) (h2 : hi ≤ 1024) (h3 : lo < 1024) (u : World) :
    (Instr.sliceAt 43 (.pointer (some ⟨g, 0, none⟩)) (some (.int .i64 (lo : Int))) (some (.int .i64 (hi : Int))) none).run Try.prog u = .ok (.slice (some ⟨g, lo, none⟩) (hi - lo) (1024 - lo)) u := by
  have hn : ¬ ((1024 : Nat) = lo) := by omega
  have ea : Try.prog.arrayLen 43 = 1024 := by kernel_rfl
  have ee : Try.prog.elem 43 = 5 := by kernel_rfl
  have h := run_sliceAt_array_lh (P := Try.prog) u 43 ⟨g, 0, none⟩ (by rw [ea, ee]; exact Try.underlying43) .i64 .i64 (lo : Int) (hi : Int) (by omega) (by omega) (by rw [ea]; omega)
  rw [h, ea, ee]
  simp [Try.sizeOf5, slicedAt, hn, Addr.add]
  intro h0; exact h0.symm

/-- f from lo on. -/
def from' (f : Nat → Int) (lo : Nat) : Nat → Int := fun i => f (lo + i)

set_option maxRecDepth 20000 in
set_option maxHeartbeats 400000 in
theorem piece_any (f : Nat → Int) (k n : Int) (w : World) (ha : -9223372036854775808 ≤ k ∧ k ≤ 9223372036854775807) (hn : -9223372036854775808 ≤ n ∧ n ≤ 9223372036854775807) :
    Calls Try.prog 18 #[.agg (blk f), .int .i64 k, .int .i64 n] w fun e w' => e = .returned (.slice (some ⟨w.heap.size + 1, 0, none⟩) (insHi k n - insLo k n) (insHi k n - insLo k n)) ∧
      w'.heap[w.heap.size + 1]? = some (.cells (rowA (from' f (insLo k n)) (insHi k n - insLo k n)) 5) ∧ w'.heap.size = w.heap.size + 2 ∧ Below w.heap.size w w' := by
  obtain ⟨i0, hi0, hz0, hz1, hz2⟩ := info_parts info5
  have hle := ins_le k n
  have hlo := ins_lo_lt k n
  have hcl := slabInside_any k n
  generalize insLo k n = lo at *
  generalize insHi k n = hi at *
  obtain ⟨hl1, hl2⟩ := hle
  have hmk : ∀ u : World, (Instr.makeSlice 46 (.int .i64 ((hi : Int) - (lo : Int))) (.int .i64 ((hi : Int) - (lo : Int)))).run Try.prog u =
      .ok (.slice (some ⟨u.heap.size, 0, none⟩) (hi - lo) (hi - lo)) (u.alloc (.cells (rowA nought (hi - lo)) 5)) := fun u => by
    have h := run_make (P := Try.prog) u 46 5 i0 (.int .u8 0) Try.underlying46 hi0 hz0 .i64 .i64 ((hi : Int) - (lo : Int)) ((hi : Int) - (lo : Int)) (by omega) (Int.le_refl _) (by rw [hz2]; omega) (by omega)
    rw [show ((hi : Int) - (lo : Int)).toNat = hi - lo by omega] at h
    simpa [hz1, Value.cells, made_row] using h
  clear hi0 hz0 hz1 hz2
  have hsl := slice25 w.heap.size lo hi hl1 hl2 hlo
  have hsrc : ∀ j, j < hi - lo → ((w.alloc (.cells (blk f) 43)).alloc (.cells (rowA nought (hi - lo)) 5)).cell? ⟨w.heap.size, lo + j, none⟩ = some (.int .u8 (from' f lo j)) := fun j hj =>
    cell_row (f := f) (m := 1024) (heap_alloc2_old _ _ _) (lo + j) (by omega)
  have HS : Hid (∀ j, j < hi - lo → ((w.alloc (.cells (blk f) 43)).alloc (.cells (rowA nought (hi - lo)) 5)).cell? ⟨w.heap.size, lo + j, none⟩ = some (.int .u8 (from' f lo j))) := hsrc
  have hov : rowA (over nought 0 (hi - lo) (from' f lo)) (hi - lo) = rowA (from' f lo) (hi - lo) := rowA_congr fun i hi => by unfold over; rw [if_pos (by omega), Nat.sub_zero]
  have HO : Hid (rowA (over nought 0 (hi - lo) (from' f lo)) (hi - lo) = rowA (from' f lo) (hi - lo)) := hov
  clear hsrc hov
  go_enter Try.func18, Try.ntmps18
  go_wp2_with fail
  refine (hcl _ ha hn).mono ?_
  rintro e w1 ⟨rfl, rfl⟩
  clear hcl
  go_wp2_with (first | refine wpList_copy5 rfl _ _ rfl _ _ _ _ _ _ _ _ rfl rfl nought (hi - lo) 5 (heap_alloc2_new _ _ _) (from' f lo) (hi - lo) (Nat.min_self _).symm HS.out (by omega) ?_)
  go_ret
  refine ⟨rfl, ?_, by simp, below2 _ _ _ _ (by omega) _⟩
  rw [← HO.out]
  exact setRow_heap _ _ _ _ _ _ (heap_alloc2_new _ _ _)
end Go.Proofs.YtadiajcllfahiaaN
