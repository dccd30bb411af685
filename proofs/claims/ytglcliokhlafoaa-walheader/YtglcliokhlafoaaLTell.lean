/- What a log tells of itself, and whom it refuses; no condition. -/
import Derived.Test.YtglcliokhlafoaaLog
namespace Go.Proofs.Ytglcliokhlafoaa
open Go.RowKit Go.Maps
variable {w W : World} {g d c mb : Nat} {v : Value} {x : LSt} {s : CSt} {t : St} {os ks : List (Nat × Obj)} {base : Nat}

theorem LogAt.c0 (h : LogAt W base g d c mb v x) : W.cell? ⟨g, 0, none⟩ = some (ptr g) := h.cell 0
theorem LogAt.c1 (h : LogAt W base g d c mb v x) : W.cell? ⟨g, 1, none⟩ = some (ptr d) := h.cell 1
theorem LogAt.c2 (h : LogAt W base g d c mb v x) : W.cell? ⟨g, 2, none⟩ = some (.int .i64 x.claim) := h.cell 2
theorem LogAt.c3 (h : LogAt W base g d c mb v x) : W.cell? ⟨g, 3, none⟩ = some (.int .i64 x.b) := h.cell 3
theorem LogAt.c4 (h : LogAt W base g d c mb v x) : W.cell? ⟨g, 4, none⟩ = some (.int .i64 x.l) := h.cell 4
theorem LogAt.c6 (h : LogAt W base g d c mb v x) : W.cell? ⟨g, 6, none⟩ = some (.int .i64 1) := h.cell 6
theorem LogAt.c7 (h : LogAt W base g d c mb v x) : W.cell? ⟨g, 7, none⟩ = some (.int .i64 (1 + x.l)) := h.cell 7
theorem LogAt.c12 (h : LogAt W base g d c mb v x) : W.cell? ⟨g, 12, none⟩ = some (ptr c) := h.cell 12
theorem LogAt.c13 (h : LogAt W base g d c mb v x) : W.cell? ⟨g, 13, none⟩ = some v := h.cell 13
theorem LogAt.c14 (h : LogAt W base g d c mb v x) : W.cell? ⟨g, 14, none⟩ = some (.map (some mb)) := h.cell 14
theorem LogAt.c15 (h : LogAt W base g d c mb v x) : W.cell? ⟨g, 15, none⟩ = some (.bool x.opn) := h.cell 15
theorem LogAt.c16 (h : LogAt W base g d c mb v x) : W.cell? ⟨g, 16, none⟩ = some (.int .i64 x.room) := h.cell 16
theorem LogAt.c17 (h : LogAt W base g d c mb v x) : W.cell? ⟨g, 17, none⟩ = some (.int .i64 x.commits) := h.cell 17
theorem LogAt.c18 (h : LogAt W base g d c mb v x) : W.cell? ⟨g, 18, none⟩ = some (.int .i64 x.steps) := h.cell 18
theorem LogAt.free (h : LogAt W base g d c mb v x) (i : Nat) : W.frozen? ⟨g, i, none⟩ = false := Joins.unfrozen_of_block h.row i
theorem LogAt.later {W' : World} (h : LogAt W base g d c mb v x) (hb : Below W.heap.size W W') : LogAt W' base g d c mb v x := h.kept fun k hk => hb.block k (h.lt k hk)
theorem info48 : ∃ j, Try.prog.info? 86 = some j := Option.isSome_iff_exists.1 (by kernel_rfl)
theorem neq26 (w : World) (a : Addr) : (binOp .neq 48 (.pointer (some a)) (.pointer (some a))).run Try.prog w = .ok (.bool false) w := by
  obtain ⟨j, hj⟩ := info48
  exact neq_same w a Try.underlying48 hj
theorem neq26n (w : World) (a : Addr) : (binOp .neq 48 (.pointer none) (.pointer (some a))).run Try.prog w = .ok (.bool true) w := neq_nil w a Try.underlying48
/-- What Check tells. -/
def chkE (x : LSt) (t : St) : Int := if claimedV t x.claim then 0 else 3
theorem sit_claimed (h : Sit w W c d s t ks) (k : Int) : Calls Try.prog 71 #[ptr d, .int .i64 k] W fun e W' => e = .returned (.bool (claimedV t k)) ∧ W' = W := by
  obtain ⟨K, L, rfl, rfl, h⟩ := h
  exact claimed_of h.cd.disk k
theorem below_drewN (W : World) (n : Nat) : Below W.heap.size W (W.drewN n) := H.belowN (Below.refl _ _) n
theorem check_none {v : Value} (h : NoneAt W v) : Calls Try.prog 56 #[v] W fun e W' => e = .returned (.int .i64 1) ∧ W' = W := by
  have hn := neq26n
  rcases h with rfl | ⟨g, rfl, c0⟩
  · go_enter Try.func56, Try.ntmps56
    go_wp2
    go_ret
    exact ⟨rfl, rfl⟩
  · go_enter Try.func56, Try.ntmps56
    go_wp2
    go_ret
    exact ⟨rfl, rfl⟩
theorem LS.check (h : LS w W g d c mb v x s t os ks) : Calls Try.prog 56 #[ptr g] W fun e W' => e = .returned (.int .i64 (chkE x t)) ∧ ∃ m, W' = W.drewN m := by
  have hn := neq26
  have hq : ∀ n, Calls Try.prog 71 #[ptr d, .int .i64 x.claim] (W.drewN n) fun e W' => e = .returned (.bool (claimedV t x.claim)) ∧ W' = W.drewN n := fun n => sit_claimed (h.sit.later (below_drewN W n)) _
  have c0 := h.log.c0
  have c1 := h.log.c1
  have c2 := h.log.c2
  clear h
  unfold ptr at *
  unfold chkE
  cases hc : claimedV t x.claim
  · rw [hc] at hq
    go_enter Try.func56, Try.ntmps56
    go_wp2
    go_quiet (first | (go_at_call 71; refine Calls.quiet_of_same (hq _)))
    go_wp2
    go_ret
    exact ⟨rfl, _, rfl⟩
  · rw [hc] at hq
    go_enter Try.func56, Try.ntmps56
    go_wp2
    go_quiet (first | (go_at_call 71; refine Calls.quiet_of_same (hq _)))
    go_wp2
    go_ret
    exact ⟨rfl, _, rfl⟩
/-- Why nothing may be done that wants a step to be open, or none to be. -/
def refL (x : LSt) (t : St) (o : Bool) : Int := if claimedV t x.claim then (if x.opn = o then 0 else 180) else 3
theorem refusesL_none {v : Value} (h : NoneAt W v) (o : Bool) : Calls Try.prog 49 #[v, .bool o] W fun e W' => e = .returned (.int .i64 1) ∧ W' = W := by
  have h0 := check_none h
  go_enter Try.func49, Try.ntmps49
  go_wp2_with (first | (go_at_call 56; refine h0.mono ?_; rintro e W ⟨rfl, rfl⟩))
  go_ret
  exact ⟨rfl, rfl⟩
theorem LS.refuses (h : LS w W g d c mb v x s t os ks) (o : Bool) : Calls Try.prog 49 #[ptr g, .bool o] W fun e W' => e = .returned (.int .i64 (refL x t o)) ∧ ∃ m, W' = W.drewN m := by
  have h0 := h.check
  have c15 : ∀ m, (W.drewN m).cell? ⟨g, 15, none⟩ = some (.bool x.opn) := fun m => (h.log.later (below_drewN W m)).c15
  clear h
  unfold ptr at *
  unfold chkE at h0
  unfold refL
  cases hc : claimedV t x.claim
  · rw [hc] at h0
    go_enter Try.func49, Try.ntmps49
    go_wp2_with (first | (go_at_call 56; refine h0.mono ?_; rintro e W1 ⟨rfl, m, rfl⟩))
    go_ret
    exact ⟨rfl, _, rfl⟩
  · rw [hc] at h0
    by_cases ho : x.opn = o
    · subst ho
      rw [if_pos rfl, if_pos rfl]
      cases hx : x.opn
      · rw [hx] at c15
        go_enter Try.func49, Try.ntmps49
        go_wp2_with (first | (go_at_call 56; refine h0.mono ?_; rintro e W1 ⟨rfl, m, rfl⟩; have c15 := c15 m))
        go_ret
        exact ⟨rfl, _, rfl⟩
      · rw [hx] at c15
        go_enter Try.func49, Try.ntmps49
        go_wp2_with (first | (go_at_call 56; refine h0.mono ?_; rintro e W1 ⟨rfl, m, rfl⟩; have c15 := c15 m))
        go_ret
        exact ⟨rfl, _, rfl⟩
    · rw [if_pos rfl, if_neg ho]
      cases hx : x.opn <;> cases o
      · exact absurd hx ho
      · rw [hx] at c15
        go_enter Try.func49, Try.ntmps49
        go_wp2_with (first | (go_at_call 56; refine h0.mono ?_; rintro e W1 ⟨rfl, m, rfl⟩; have c15 := c15 m))
        go_ret
        exact ⟨rfl, _, rfl⟩
      · rw [hx] at c15
        go_enter Try.func49, Try.ntmps49
        go_wp2_with (first | (go_at_call 56; refine h0.mono ?_; rintro e W1 ⟨rfl, m, rfl⟩; have c15 := c15 m))
        go_ret
        exact ⟨rfl, _, rfl⟩
      · exact absurd hx ho
theorem LS.most (h : LS w W g d c mb v x s t os ks) (hl : 32 ≤ x.l ∧ x.l ≤ 256) : Calls Try.prog 50 #[ptr g] W fun e W' => e = .returned (.int .i64 (x.l - 1)) ∧ W' = W := by
  have c4 := h.log.c4
  clear h
  unfold ptr at *
  have hw : (x.l - 1 + 9223372036854775808) % 18446744073709551616 - 9223372036854775808 = x.l - 1 := by omega
  go_enter Try.func50, Try.ntmps50
  go_wp2
  go_ret
  exact ⟨by first | rfl | simp [hw], rfl⟩
def ofL (x : LSt) (k : Int) : Bool := decide (1 ≤ k ∧ k < 1 + x.l)
theorem LS.ofLog (h : LS w W g d c mb v x s t os ks) (k : Int) : Calls Try.prog 52 #[ptr g, .int .i64 k] W fun e W' => e = .returned (.bool (ofL x k)) ∧ W' = W := by
  have c6 := h.log.c6
  have c7 := h.log.c7
  clear h
  unfold ptr at *
  unfold ofL
  by_cases h1 : 1 ≤ k
  · by_cases h2 : k < 1 + x.l
    · rw [decide_eq_true ⟨h1, h2⟩]
      go_enter Try.func52, Try.ntmps52
      go_wp2
      go_ret
      exact ⟨rfl, rfl⟩
    · rw [decide_eq_false fun q => h2 q.2]
      go_enter Try.func52, Try.ntmps52
      go_wp2
      go_ret
      exact ⟨rfl, rfl⟩
  · rw [decide_eq_false fun q => h1 q.1]
    go_enter Try.func52, Try.ntmps52
    go_wp2
    go_ret
    exact ⟨rfl, rfl⟩
theorem used_none {v : Value} (h : NoneAt W v) : Calls Try.prog 26 #[v] W fun e W' => e = .returned (.int .i64 0) ∧ W' = W := by
  have h0 := check_none h
  go_enter Try.func26, Try.ntmps26
  go_wp2_with (first | (go_at_call 56; refine h0.mono ?_; rintro e W ⟨rfl, rfl⟩))
  go_ret
  exact ⟨rfl, rfl⟩
theorem LS.used (h : LS w W g d c mb v x s t os ks) : Calls Try.prog 26 #[ptr g] W fun e W' => e = .returned (if chkE x t = 0 then (.int .i64 (x.blocks.length : Int)) else .int .i64 0) ∧ ∃ m, W' = W.drewN m := by
  have h0 := h.check
  have c1 : ∀ m, (W.drewN m).cell? ⟨g, 13, none⟩ = some (v) := fun m => (h.log.later (below_drewN W m)).c13
  obtain ⟨p, cp, hv, _, _, _⟩ := h.log.own.ints
  subst hv
  clear h
  unfold ptr at *
  by_cases hc : chkE x t = 0
  · rw [if_pos hc]
    rw [hc] at h0
    go_enter Try.func26, Try.ntmps26
    go_wp2_with (first | (go_at_call 56; refine h0.mono ?_; rintro e W1 ⟨rfl, m, rfl⟩; have c1 := c1 m))
    go_ret
    exact ⟨rfl, _, rfl⟩
  · rw [if_neg hc]
    have hc3 : chkE x t = 3 := by unfold chkE at hc ⊢; split at hc <;> simp_all
    rw [hc3] at h0
    go_enter Try.func26, Try.ntmps26
    go_wp2_with (first | (go_at_call 56; refine h0.mono ?_; rintro e W1 ⟨rfl, m, rfl⟩))
    go_ret
    exact ⟨rfl, _, rfl⟩
theorem commits_none {v : Value} (h : NoneAt W v) : Calls Try.prog 29 #[v] W fun e W' => e = .returned (.int .i64 0) ∧ W' = W := by
  have h0 := check_none h
  go_enter Try.func29, Try.ntmps29
  go_wp2_with (first | (go_at_call 56; refine h0.mono ?_; rintro e W ⟨rfl, rfl⟩))
  go_ret
  exact ⟨rfl, rfl⟩
theorem LS.commits (h : LS w W g d c mb v x s t os ks) : Calls Try.prog 29 #[ptr g] W fun e W' => e = .returned (if chkE x t = 0 then (.int .i64 x.commits) else .int .i64 0) ∧ ∃ m, W' = W.drewN m := by
  have h0 := h.check
  have c1 : ∀ m, (W.drewN m).cell? ⟨g, 17, none⟩ = some ((.int .i64 x.commits)) := fun m => (h.log.later (below_drewN W m)).c17
  clear h
  unfold ptr at *
  by_cases hc : chkE x t = 0
  · rw [if_pos hc]
    rw [hc] at h0
    go_enter Try.func29, Try.ntmps29
    go_wp2_with (first | (go_at_call 56; refine h0.mono ?_; rintro e W1 ⟨rfl, m, rfl⟩; have c1 := c1 m))
    go_ret
    exact ⟨rfl, _, rfl⟩
  · rw [if_neg hc]
    have hc3 : chkE x t = 3 := by unfold chkE at hc ⊢; split at hc <;> simp_all
    rw [hc3] at h0
    go_enter Try.func29, Try.ntmps29
    go_wp2_with (first | (go_at_call 56; refine h0.mono ?_; rintro e W1 ⟨rfl, m, rfl⟩))
    go_ret
    exact ⟨rfl, _, rfl⟩
theorem stepsOver_none {v : Value} (h : NoneAt W v) : Calls Try.prog 27 #[v] W fun e W' => e = .returned (.int .i64 0) ∧ W' = W := by
  have h0 := check_none h
  go_enter Try.func27, Try.ntmps27
  go_wp2_with (first | (go_at_call 56; refine h0.mono ?_; rintro e W ⟨rfl, rfl⟩))
  go_ret
  exact ⟨rfl, rfl⟩
theorem LS.stepsOver (h : LS w W g d c mb v x s t os ks) : Calls Try.prog 27 #[ptr g] W fun e W' => e = .returned (if chkE x t = 0 then (.int .i64 x.steps) else .int .i64 0) ∧ ∃ m, W' = W.drewN m := by
  have h0 := h.check
  have c1 : ∀ m, (W.drewN m).cell? ⟨g, 18, none⟩ = some ((.int .i64 x.steps)) := fun m => (h.log.later (below_drewN W m)).c18
  clear h
  unfold ptr at *
  by_cases hc : chkE x t = 0
  · rw [if_pos hc]
    rw [hc] at h0
    go_enter Try.func27, Try.ntmps27
    go_wp2_with (first | (go_at_call 56; refine h0.mono ?_; rintro e W1 ⟨rfl, m, rfl⟩; have c1 := c1 m))
    go_ret
    exact ⟨rfl, _, rfl⟩
  · rw [if_neg hc]
    have hc3 : chkE x t = 3 := by unfold chkE at hc ⊢; split at hc <;> simp_all
    rw [hc3] at h0
    go_enter Try.func27, Try.ntmps27
    go_wp2_with (first | (go_at_call 56; refine h0.mono ?_; rintro e W1 ⟨rfl, m, rfl⟩))
    go_ret
    exact ⟨rfl, _, rfl⟩
end Go.Proofs.Ytglcliokhlafoaa
