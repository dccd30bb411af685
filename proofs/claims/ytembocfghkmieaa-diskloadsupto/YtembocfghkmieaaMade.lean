/- A disk is made: of noughts, if its number of blocks may be; no condition. -/
import Derived.Test.YtembocfghkmieaaTurn
namespace Go.Proofs.Ytembocfghkmieaa
open Go.RowKit
variable {w : World} {L : Loc} {s : St}

def bndB (n : Int) : Bool := decide (1 ≤ n ∧ n ≤ 1048576)
theorem bounded_any (n : Int) (w : World) : Calls Try.prog 70 #[.int .i64 n] w fun e w' => e = .returned (.bool (bndB n)) ∧ w' = w := by
  by_cases h1 : 1 ≤ n
  · by_cases h2 : n ≤ 1048576
    · have e : bndB n = true := by unfold bndB; simp [h1, h2]
      rw [e]
      go_enter Try.func70, Try.ntmps70
      go_wp2
      go_ret
      exact ⟨rfl, rfl⟩
    · have e : bndB n = false := by unfold bndB; simp [h2]
      rw [e]
      go_enter Try.func70, Try.ntmps70
      go_wp2
      go_ret
      exact ⟨rfl, rfl⟩
  · have e : bndB n = false := by unfold bndB; simp [h1]
    rw [e]
    go_enter Try.func70, Try.ntmps70
    go_wp2
    go_ret
    exact ⟨rfl, rfl⟩
def newV (n : Int) : St := ⟨n, fun _ => none, [], [], -1, false, 0, 0, 0, false⟩
theorem newV_ok {n : Int} (h : bndB n = true) : Ok (newV n) := by
  have h' : 1 ≤ n ∧ n ≤ 1048576 := by simpa [bndB] using h
  exact ⟨h', fun k f hk => by simp [newV] at hk, fun c hc => by simp [newV] at hc, ⟨by show (-1 : Int) ≤ -1; omega, by show (-1 : Int) ≤ _; omega⟩, by show (0 : Int) ≤ 0; omega, by show (0 : Int) ≤ 0; omega, by show (0 : Int) ≤ 0; omega⟩
/-- All of the disk lies in memory from b on. -/
def Loc.from (L : Loc) (b : Nat) : Prop := ∀ k, L.has k → b ≤ k
def newL (w : World) : Loc := ⟨w.heap.size + 2, w.heap.size, w.heap.size + 1, .slice none 0 0⟩
theorem newL_from (w : World) : (newL w).from w.heap.size := by
  intro k hk
  rcases hk with h | h | h | h
  · have : k = w.heap.size + 2 := h
    omega
  · have : k = w.heap.size := h
    omega
  · have : k = w.heap.size + 1 := h
    omega
  · simp [newL, Value.ownBlock] at h
theorem new_at {n : Int} (h : bndB n = true) (w : World) :
    DiskAt (((w.alloc (.map #[] 0)).alloc (.map #[] 0)).alloc (.cells (dkRow (newL w) (newV n)) 74)) (newL w) (newV n) := by
  have s1 : (w.alloc (.map #[] 0)).heap.size = w.heap.size + 1 := by simp
  have s2 : ((w.alloc (.map #[] 0)).alloc (.map #[] 0)).heap.size = w.heap.size + 2 := by simp
  have m1 : MapIs Try.prog 3 (w.alloc (.map #[] 0)) w.heap.size (fun _ => none) := MapIs.made w
  have m2 : MapIs Try.prog 3 ((w.alloc (.map #[] 0)).alloc (.map #[] 0)) (w.heap.size + 1) (fun _ => none) := by
    have := MapIs.made (P := Try.prog) (k := 3) (w.alloc (.map #[] 0))
    rwa [s1] at this
  refine ⟨?_, ?_, ?_, ?_, ?_, newV_ok h⟩
  · have := heap_alloc_new ((w.alloc (.map #[] 0)).alloc (.map #[] 0)) (.cells (dkRow (newL w) (newV n)) 74)
    rw [s2] at this
    exact this
  · refine m1.kept ?_
    have b1 : Below (w.heap.size + 1) (w.alloc (.map #[] 0)) (((w.alloc (.map #[] 0)).alloc (.map #[] 0)).alloc (.cells (dkRow (newL w) (newV n)) 74)) :=
      ((Below.refl _ _).alloc (by omega) _).alloc (by omega) _
    exact b1.block _ (by show w.heap.size < _; omega)
  · have e : lateV (newV n) = fun _ => none := by funext k; simp [lateV, newV, lastAt]
    rw [e]
    refine m2.kept ?_
    have b1 : Below (w.heap.size + 2) ((w.alloc (.map #[] 0)).alloc (.map #[] 0)) (((w.alloc (.map #[] 0)).alloc (.map #[] 0)).alloc (.cells (dkRow (newL w) (newV n)) 74)) :=
      ((Below.refl _ _).alloc (by omega) _)
    exact b1.block _ (by show w.heap.size + 1 < _; omega)
  · exact World.ownsRow_nil _ 0 108 1026
  · show w.heap.size ≠ w.heap.size + 1
    omega
theorem new_bad {n : Int} (h : bndB n = false) (w : World) : Calls Try.prog 30 #[.int .i64 n] w fun e w' => e = .returned (.tuple #[.pointer none, .int .i64 2]) ∧ w' = w := by
  go_enter Try.func30, Try.ntmps30
  go_wp2_with (first | (go_at_call 70; refine (bounded_any n w).mono ?_; rw [h]; rintro e W ⟨rfl, rfl⟩))
  go_ret2
  exact ⟨rfl, rfl⟩
theorem new_ok {n : Int} (h : bndB n = true) (w : World) :
    Calls Try.prog 30 #[.int .i64 n] w fun e w' => ∃ L : Loc, e = .returned (.tuple #[.pointer (some ⟨L.d, 0, none⟩), .int .i64 0]) ∧ DiskAt w' L (newV n) ∧ L.from w.heap.size ∧ Below w.heap.size w w' := by
  have hA : Hid (DiskAt (((w.alloc (.map #[] 0)).alloc (.map #[] 0)).alloc (.cells (dkRow (newL w) (newV n)) 74)) (newL w) (newV n)) := new_at h w
  have hmm := @run_makeMap Try.prog
  go_enter Try.func30, Try.ntmps30
  go_wp2_with (first | (go_at_call 70; refine (bounded_any n w).mono ?_; rw [h]; rintro e W ⟨rfl, rfl⟩))
  go_ret2
  refine ⟨newL _, rfl, hA.out, newL_from _, ?_⟩
  exact (((Below.refl _ _).alloc (Nat.le_refl _) _).alloc (by simp) _).alloc (by simp; omega) _
end Go.Proofs.Ytembocfghkmieaa
