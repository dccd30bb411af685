/- Piece of slab: some bytes of a block, those that are inside, in memory of their own; for every block, place and number. -/
import Derived.Test.YtmblppgmfgjbpabBytes
namespace Go.Proofs.Ytmblppgmfgjbpab
open Go.RowKit

theorem ins_lo_lt (a n : Int) : insLo a n < 1024 := by unfold insLo; split <;> omega
theorem slice25 (g lo hi : Nat) (h1 : lo ≤ hi) (h2 : hi ≤ 1024) (h3 : lo < 1024) (u : World) :
    (Instr.sliceAt 23 (.pointer (some ⟨g, 0, none⟩)) (some (.int .i64 (lo : Int))) (some (.int .i64 (hi : Int))) none).run Try.prog u = .ok (.slice (some ⟨g, lo, none⟩) (hi - lo) (1024 - lo)) u := by
  have hn : ¬ ((1024 : Nat) = lo) := by omega
  have ea : Try.prog.arrayLen 23 = 1024 := by kernel_rfl
  have ee : Try.prog.elem 23 = 5 := by kernel_rfl
  have h := run_sliceAt_array_lh (P := Try.prog) u 23 ⟨g, 0, none⟩ (by rw [ea, ee]; exact Try.underlying23) .i64 .i64 (lo : Int) (hi : Int) (by omega) (by omega) (by rw [ea]; omega)
  rw [h, ea, ee]
  simp [Try.sizeOf5, slicedAt, hn, Addr.add]
  intro h0; exact h0.symm

/-- f from lo on. -/
def from' (f : Nat → Int) (lo : Nat) : Nat → Int := fun i => f (lo + i)

end Go.Proofs.Ytmblppgmfgjbpab
