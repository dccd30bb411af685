/- What is no Files: every call of it is refused; for any numbers, any bytes; no other memory turns. -/
import Derived.Test.YtanmfagghhijaaaGreatBase
namespace Go.Proofs.YtanmfagghhijaaaGreat
open Go.RowKit
theorem neqFl (w : World) (a : Addr) : (binOp .neq 26 (.pointer none) (.pointer (some a))).run Tryz.prog w = .ok (.bool true) w := by
  have h : ∀ d : Nat, (Op.equalIn (d + 1) 26 (.pointer none) (.pointer (some a))).run Tryz.prog w = .ok false w := fun d => by
    simp [Op.equalIn, run_underlying Tryz.underlying26]
  simp only [binOp]
  simp [Op.equal, Op.maxDepth, h 9999]
theorem neqVl (w : World) (a : Addr) : (binOp .neq 28 (.pointer none) (.pointer (some a))).run Tryz.prog w = .ok (.bool true) w := by
  have h : ∀ d : Nat, (Op.equalIn (d + 1) 28 (.pointer none) (.pointer (some a))).run Tryz.prog w = .ok false w := fun d => by
    simp [Op.equalIn, run_underlying Tryz.underlying28]
  simp only [binOp]
  simp [Op.equal, Op.maxDepth, h 9999]
/-- What is none: nothing, or a row whose first cell is nothing. -/
def NoRow (w : World) (v : Value) : Prop := v = .pointer none ∨ ∃ g, v = .pointer (some ⟨g, 0, none⟩) ∧ w.cell? ⟨g, 0, none⟩ = some (.pointer none)
theorem NoRow.later {W W' : World} {v : Value} (h : NoRow W v) (hb : Below W.heap.size W W') : NoRow W' v := by
  rcases h with rfl | ⟨g, rfl, c⟩
  · exact .inl rfl
  · exact .inr ⟨g, rfl, (hb.cell (p := ⟨g, 0, none⟩) (block_lt_of_cell c)).trans c⟩
theorem flnone {W : World} {v : Value} (h : NoRow W v) : Calls Tryz.prog 34 #[v] W fun e W' => e = .returned (.bool true) ∧ W' = W := by
  have hn := neqFl
  rcases h with rfl | ⟨g, rfl, c0⟩
  · go_enter Tryz.func34, Tryz.ntmps34
    go_wp2
    go_ret
    exact ⟨rfl, rfl⟩
  · go_enter Tryz.func34, Tryz.ntmps34
    go_wp2
    go_ret
    exact ⟨rfl, rfl⟩
theorem vonone {W : World} {v : Value} (h : NoRow W v) : Calls Tryz.prog 18 #[v] W fun e W' => e = .returned (.bool true) ∧ W' = W := by
  have hn := neqVl
  rcases h with rfl | ⟨g, rfl, c0⟩
  · go_enter Tryz.func18, Tryz.ntmps18
    go_wp2
    go_ret
    exact ⟨rfl, rfl⟩
  · go_enter Tryz.func18, Tryz.ntmps18
    go_wp2
    go_ret
    exact ⟨rfl, rfl⟩
theorem volog {W : World} {v : Value} (h : NoRow W v) : Calls Tryz.prog 6 #[v] W fun e W' => e = .returned (.pointer none) ∧ W' = W := by
  go_enter Tryz.func6, Tryz.ntmps6
  go_wp2_with (first | (go_at_call 18; refine (vonone h).mono ?_; rintro e W ⟨rfl, rfl⟩))
  go_ret
  exact ⟨rfl, rfl⟩
theorem flnew {W : World} {v : Value} (h : NoRow W v) : Calls Tryz.prog 4 #[v] W fun e W' => e = .returned (.pointer none) ∧ W' = W := by
  go_enter Tryz.func4, Tryz.ntmps4
  go_wp2_with (first | (go_at_call 6; refine (volog h).mono ?_; rintro e W ⟨rfl, rfl⟩))
  go_ret
  exact ⟨rfl, rfl⟩
theorem flcheck {W : World} {v : Value} (h : NoRow W v) : Calls Tryz.prog 39 #[v] W fun e W' => e = .returned (.int .i64 1) ∧ W' = W := by
  go_enter Tryz.func39, Tryz.ntmps39
  go_wp2_with (first | (go_at_call 34; refine (flnone h).mono ?_; rintro e W ⟨rfl, rfl⟩))
  go_ret
  exact ⟨rfl, rfl⟩
theorem flother {W : World} {v : Value} (h : NoRow W v) : Calls Tryz.prog 38 #[v] W fun e W' => e = .returned (.int .i64 1) ∧ W' = W := by
  go_enter Tryz.func38, Tryz.ntmps38
  go_wp2_with (first | (go_at_call 39; refine (flcheck h).mono ?_; rintro e W ⟨rfl, rfl⟩))
  go_ret
  exact ⟨rfl, rfl⟩
theorem flrefuses {W : World} {v : Value} (h : NoRow W v) (i k : Int) : Calls Tryz.prog 25 #[v, .int .i64 i, .int .i64 k] W fun e W' => e = .returned (.int .i64 1) ∧ W' = W := by
  go_enter Tryz.func25, Tryz.ntmps25
  go_wp2_with (first | (go_at_call 39; refine (flcheck h).mono ?_; rintro e W ⟨rfl, rfl⟩))
  go_ret
  exact ⟨rfl, rfl⟩
theorem flfull {W : World} {v : Value} (h : NoRow W v) : Calls Tryz.prog 15 #[v] W fun e W' => e = .returned (.bool false) ∧ W' = W := by
  go_enter Tryz.func15, Tryz.ntmps15
  go_wp2_with (first | (go_at_call 34; refine (flnone h).mono ?_; rintro e W ⟨rfl, rfl⟩))
  go_ret
  exact ⟨rfl, rfl⟩
theorem flopen {W : World} {v : Value} (h : NoRow W v) (i k : Int) : Calls Tryz.prog 12 #[v, .int .i64 i, .int .i64 k] W fun e W' => e = .returned (.tuple #[.int .i64 0, .int .i64 1]) ∧ W' = W := by
  go_enter Tryz.func12, Tryz.ntmps12
  go_wp2_with (first | (go_at_call 25; refine (flrefuses h i k).mono ?_; rintro e W ⟨rfl, rfl⟩))
  go_ret2
  exact ⟨rfl, rfl⟩
end Go.Proofs.YtanmfagghhijaaaGreat
