/- What a disk tells of itself, its fuse and its claims; of a disk that was made, and of one that is none; no condition but that numbers do not pass the greatest int. -/
import Derived.Test.YtembocfghkmieaaState
import Derived.LaidEqlPtr
namespace Go.Proofs.Ytembocfghkmieaa
open Go.RowKit

theorem neq_same {P : Program} {tp te : TypeId} {j : TypeInfo} (w : World) (a : Addr) (hp : P.underlying tp = some (.pointer te)) (hte : P.info? te = some j) :
    (binOp .neq tp (.pointer (some a)) (.pointer (some a))).run P w = .ok (.bool false) w := by
  have h : ∀ d : Nat, (Op.equalIn (d + 1) tp (.pointer (some a)) (.pointer (some a))).run P w = .ok true w := fun d => by
    simp [Op.equalIn, run_underlying hp, sizeOf, typeInfo, hte, run_sameAddr_same]
  simp only [binOp]
  simp [Op.equal, Op.maxDepth, h 9999]
theorem neq_nil {P : Program} {tp te : TypeId} (w : World) (a : Addr) (hp : P.underlying tp = some (.pointer te)) :
    (binOp .neq tp (.pointer none) (.pointer (some a))).run P w = .ok (.bool true) w := by
  have h : ∀ d : Nat, (Op.equalIn (d + 1) tp (.pointer none) (.pointer (some a))).run P w = .ok false w := fun d => by
    simp [Op.equalIn, run_underlying hp]
  simp only [binOp]
  simp [Op.equal, Op.maxDepth, h 9999]
theorem info74 : ∃ j, Try.prog.info? 74 = some j := Option.isSome_iff_exists.1 (by kernel_rfl)
theorem neq24 (w : World) (a : Addr) : (binOp .neq 24 (.pointer (some a)) (.pointer (some a))).run Try.prog w = .ok (.bool false) w := by
  obtain ⟨j, hj⟩ := info74
  exact neq_same w a Try.underlying24 hj
theorem neq24n (w : World) (a : Addr) : (binOp .neq 24 (.pointer none) (.pointer (some a))).run Try.prog w = .ok (.bool true) w := by
  exact neq_nil w a Try.underlying24

/-- v is a disk that is nil, or that nobody made. -/
def NoneAt (w : World) (v : Value) : Prop := v = .pointer none ∨ ∃ g, v = .pointer (some ⟨g, 0, none⟩) ∧ w.cell? ⟨g, 0, none⟩ = some (.pointer none)
theorem none_yes {w : World} {v : Value} (h : NoneAt w v) : Calls Try.prog 64 #[v] w fun e w' => e = .returned (.bool true) ∧ w' = w := by
  have hn := neq24n
  rcases h with rfl | ⟨g, rfl, c0⟩
  · go_enter Try.func64, Try.ntmps64
    go_wp2
    go_ret
    exact ⟨rfl, rfl⟩
  · go_enter Try.func64, Try.ntmps64
    go_wp2
    go_ret
    exact ⟨rfl, rfl⟩
theorem none_no {w : World} {d : Nat} (c0 : w.cell? ⟨d, 0, none⟩ = some (.pointer (some ⟨d, 0, none⟩))) :
    Calls Try.prog 64 #[.pointer (some ⟨d, 0, none⟩)] w fun e w' => e = .returned (.bool false) ∧ w' = w := by
  have hn := neq24
  go_enter Try.func64, Try.ntmps64
  go_wp2
  go_ret
  exact ⟨rfl, rfl⟩

variable {w : World} {L : Loc} {s : St}
theorem DiskAt.c0 (h : DiskAt w L s) : w.cell? ⟨L.d, 0, none⟩ = some (.pointer (some ⟨L.d, 0, none⟩)) := h.cell 0
theorem DiskAt.c1 (h : DiskAt w L s) : w.cell? ⟨L.d, 1, none⟩ = some (.int .i64 s.n) := h.cell 1
theorem DiskAt.c2 (h : DiskAt w L s) : w.cell? ⟨L.d, 2, none⟩ = some (.map (some L.hb)) := h.cell 2
theorem DiskAt.c3 (h : DiskAt w L s) : w.cell? ⟨L.d, 3, none⟩ = some L.hv := h.cell 3
theorem DiskAt.c4 (h : DiskAt w L s) : w.cell? ⟨L.d, 4, none⟩ = some (.int .i64 (s.done.length : Int)) := h.cell 4
theorem DiskAt.c5 (h : DiskAt w L s) : w.cell? ⟨L.d, 5, none⟩ = some (.map (some L.lb)) := h.cell 5
theorem DiskAt.c6 (h : DiskAt w L s) : w.cell? ⟨L.d, 6, none⟩ = some (.int .i64 s.fuse) := h.cell 6
theorem DiskAt.c7 (h : DiskAt w L s) : w.cell? ⟨L.d, 7, none⟩ = some (.bool s.stopped) := h.cell 7
theorem DiskAt.c8 (h : DiskAt w L s) : w.cell? ⟨L.d, 8, none⟩ = some (.int .i64 s.made) := h.cell 8
theorem DiskAt.c9 (h : DiskAt w L s) : w.cell? ⟨L.d, 9, none⟩ = some (.int .i64 s.reads) := h.cell 9
theorem DiskAt.c10 (h : DiskAt w L s) : w.cell? ⟨L.d, 10, none⟩ = some (.int .i64 s.claims) := h.cell 10
theorem DiskAt.c11 (h : DiskAt w L s) : w.cell? ⟨L.d, 11, none⟩ = some (.bool s.claimed) := h.cell 11

theorem len_of (h : DiskAt w L s) : Calls Try.prog 18 #[.pointer (some ⟨L.d, 0, none⟩)] w fun e w' => e = .returned (.int .i64 s.n) ∧ w' = w := by
  have c1 := h.c1
  have h0 := h.c0
  clear h
  go_enter Try.func18, Try.ntmps18
  go_wp2_with (first | (go_at_call 64; refine (none_no h0).mono ?_; rintro e W ⟨rfl, rfl⟩))
  go_ret
  exact ⟨rfl, rfl⟩
theorem len_none {v : Value} (h : NoneAt w v) : Calls Try.prog 18 #[v] w fun e w' => e = .returned (.int .i64 0) ∧ w' = w := by
  go_enter Try.func18, Try.ntmps18
  go_wp2_with (first | (go_at_call 64; refine (none_yes h).mono ?_; rintro e W ⟨rfl, rfl⟩))
  go_ret
  exact ⟨rfl, rfl⟩
theorem made_of (h : DiskAt w L s) : Calls Try.prog 23 #[.pointer (some ⟨L.d, 0, none⟩)] w fun e w' => e = .returned (.int .i64 s.made) ∧ w' = w := by
  have c8 := h.c8
  have h0 := h.c0
  clear h
  go_enter Try.func23, Try.ntmps23
  go_wp2_with (first | (go_at_call 64; refine (none_no h0).mono ?_; rintro e W ⟨rfl, rfl⟩))
  go_ret
  exact ⟨rfl, rfl⟩
theorem made_none {v : Value} (h : NoneAt w v) : Calls Try.prog 23 #[v] w fun e w' => e = .returned (.int .i64 0) ∧ w' = w := by
  go_enter Try.func23, Try.ntmps23
  go_wp2_with (first | (go_at_call 64; refine (none_yes h).mono ?_; rintro e W ⟨rfl, rfl⟩))
  go_ret
  exact ⟨rfl, rfl⟩
theorem reads_of (h : DiskAt w L s) : Calls Try.prog 24 #[.pointer (some ⟨L.d, 0, none⟩)] w fun e w' => e = .returned (.int .i64 s.reads) ∧ w' = w := by
  have c9 := h.c9
  have h0 := h.c0
  clear h
  go_enter Try.func24, Try.ntmps24
  go_wp2_with (first | (go_at_call 64; refine (none_no h0).mono ?_; rintro e W ⟨rfl, rfl⟩))
  go_ret
  exact ⟨rfl, rfl⟩
theorem reads_none {v : Value} (h : NoneAt w v) : Calls Try.prog 24 #[v] w fun e w' => e = .returned (.int .i64 0) ∧ w' = w := by
  go_enter Try.func24, Try.ntmps24
  go_wp2_with (first | (go_at_call 64; refine (none_yes h).mono ?_; rintro e W ⟨rfl, rfl⟩))
  go_ret
  exact ⟨rfl, rfl⟩
theorem stopped_of (h : DiskAt w L s) : Calls Try.prog 34 #[.pointer (some ⟨L.d, 0, none⟩)] w fun e w' => e = .returned (.bool s.stopped) ∧ w' = w := by
  have c7 := h.c7
  have h0 := h.c0
  clear h
  go_enter Try.func34, Try.ntmps34
  go_wp2_with (first | (go_at_call 64; refine (none_no h0).mono ?_; rintro e W ⟨rfl, rfl⟩))
  go_ret
  exact ⟨rfl, rfl⟩
theorem stopped_none {v : Value} (h : NoneAt w v) : Calls Try.prog 34 #[v] w fun e w' => e = .returned (.bool false) ∧ w' = w := by
  go_enter Try.func34, Try.ntmps34
  go_wp2_with (first | (go_at_call 64; refine (none_yes h).mono ?_; rintro e W ⟨rfl, rfl⟩))
  go_ret
  exact ⟨rfl, rfl⟩
/-- Why a block may be neither read nor written; 0: it may. -/
def refV (s : St) (k : Int) : Int := if s.stopped then 3 else if 0 ≤ k ∧ k < s.n then 0 else 2
theorem refuses_of (h : DiskAt w L s) (k : Int) : Calls Try.prog 66 #[.pointer (some ⟨L.d, 0, none⟩), .int .i64 k] w fun e w' => e = .returned (.int .i64 (refV s k)) ∧ w' = w := by
  have c7 := h.c7
  have c1 := h.c1
  have h0 := h.c0
  clear h
  unfold refV
  cases hs : s.stopped
  · rw [hs] at c7
    by_cases h1 : k < 0
    · have e : ¬ (0 ≤ k ∧ k < s.n) := by omega
      simp only [e, if_false, Bool.false_eq_true]
      go_enter Try.func66, Try.ntmps66
      go_wp2_with (first | (go_at_call 64; refine (none_no h0).mono ?_; rintro e W ⟨rfl, rfl⟩))
      go_ret
      exact ⟨rfl, rfl⟩
    · by_cases h2 : k < s.n
      · have e : (0 ≤ k ∧ k < s.n) := by omega
        have h3 : ¬ k ≥ s.n := by omega
        simp only [e, if_true, if_false, Bool.false_eq_true, and_self]
        go_enter Try.func66, Try.ntmps66
        go_wp2_with (first | (go_at_call 64; refine (none_no h0).mono ?_; rintro e W ⟨rfl, rfl⟩))
        go_ret
        exact ⟨rfl, rfl⟩
      · have e : ¬ (0 ≤ k ∧ k < s.n) := by omega
        have h3 : k ≥ s.n := by omega
        simp only [e, if_false, Bool.false_eq_true]
        go_enter Try.func66, Try.ntmps66
        go_wp2_with (first | (go_at_call 64; refine (none_no h0).mono ?_; rintro e W ⟨rfl, rfl⟩))
        go_ret
        exact ⟨rfl, rfl⟩
  · rw [hs] at c7
    simp only [if_true]
    go_enter Try.func66, Try.ntmps66
    go_wp2_with (first | (go_at_call 64; refine (none_no h0).mono ?_; rintro e W ⟨rfl, rfl⟩))
    go_ret
    exact ⟨rfl, rfl⟩
theorem refuses_none {v : Value} (h : NoneAt w v) (k : Int) : Calls Try.prog 66 #[v, .int .i64 k] w fun e w' => e = .returned (.int .i64 1) ∧ w' = w := by
  go_enter Try.func66, Try.ntmps66
  go_wp2_with (first | (go_at_call 64; refine (none_yes h).mono ?_; rintro e W ⟨rfl, rfl⟩))
  go_ret
  exact ⟨rfl, rfl⟩
def claimedV (s : St) (k : Int) : Bool := !s.stopped && s.claimed && k == s.claims
theorem claimed_of (h : DiskAt w L s) (k : Int) : Calls Try.prog 37 #[.pointer (some ⟨L.d, 0, none⟩), .int .i64 k] w fun e w' => e = .returned (.bool (claimedV s k)) ∧ w' = w := by
  have c7 := h.c7
  have c10 := h.c10
  have c11 := h.c11
  have h0 := h.c0
  clear h
  unfold claimedV
  cases hs : s.stopped
  · cases hc : s.claimed
    · rw [hs] at c7
      rw [hc] at c11
      go_enter Try.func37, Try.ntmps37
      go_wp2_with (first | (go_at_call 64; refine (none_no h0).mono ?_; rintro e W ⟨rfl, rfl⟩))
      go_ret
      exact ⟨rfl, rfl⟩
    · rw [hs] at c7
      rw [hc] at c11
      go_enter Try.func37, Try.ntmps37
      go_wp2_with (first | (go_at_call 64; refine (none_no h0).mono ?_; rintro e W ⟨rfl, rfl⟩))
      go_ret
      exact ⟨by simp, rfl⟩
  · rw [hs] at c7
    go_enter Try.func37, Try.ntmps37
    go_wp2_with (first | (go_at_call 64; refine (none_no h0).mono ?_; rintro e W ⟨rfl, rfl⟩))
    go_ret
    exact ⟨rfl, rfl⟩
theorem claimed_none {v : Value} (h : NoneAt w v) (k : Int) : Calls Try.prog 37 #[v, .int .i64 k] w fun e w' => e = .returned (.bool false) ∧ w' = w := by
  go_enter Try.func37, Try.ntmps37
  go_wp2_with (first | (go_at_call 64; refine (none_yes h).mono ?_; rintro e W ⟨rfl, rfl⟩))
  go_ret
  exact ⟨rfl, rfl⟩
end Go.Proofs.Ytembocfghkmieaa
