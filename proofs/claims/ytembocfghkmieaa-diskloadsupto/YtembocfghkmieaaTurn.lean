/- What turns a disk's own cells: its fuse, its claims, a write or barrier that is let through or not; no condition but that numbers do not pass the greatest int. -/
import Derived.Test.YtembocfghkmieaaMeth
namespace Go.Proofs.Ytembocfghkmieaa
open Go.RowKit
variable {w : World} {L : Loc} {s : St}

/-- One cell of the row is written: what it stands for is s'. -/
theorem DiskAt.put {s' : St} (h : DiskAt w L s) (i : Nat) (v : Value) (hr : (dkRow L s).setIfInBounds i v = dkRow L s') (hh : s'.held = s.held) (hw : s'.wait = s.wait) (hd : s'.done = s.done) (hok : Ok s') :
    DiskAt (w.setCell ⟨L.d, i, none⟩ v) L s' := by
  have hne : ∀ k, k ≠ L.d → (w.setCell ⟨L.d, i, none⟩ v).heap[k]? = w.heap[k]? := fun k hk => Below.heap_setCell w _ v k hk
  obtain ⟨es, ck, hm⟩ := h.held.isMap
  obtain ⟨es2, ck2, hm2⟩ := h.late.isMap
  refine ⟨?_, ?_, ?_, ?_, h.ne, hok⟩
  · rw [Joins.block_setCell h.row, hr]
  · have : heldV s' = heldV s := by unfold heldV; rw [hh]
    rw [this]
    exact h.held.kept (hne _ fun e => by rw [e, h.row] at hm; cases hm)
  · have : lateV s' = lateV s := by unfold lateV; rw [hw, hd]
    rw [this]
    exact h.late.kept (hne _ fun e => by rw [e, h.row] at hm2; cases hm2)
  · have : s'.ops = s.ops := by unfold St.ops; rw [hw, hd]
    rw [this]
    refine ownsRow_kept0 h.hist fun k hk => hne _ fun e => ?_
    rcases h.hist.2 with ⟨h1, _⟩ | ⟨g, cap, cur, h1, _, h2, _⟩
    · rw [h1] at hk; cases hk
    · rw [h1] at hk
      injection hk with hk
      rw [← hk] at e
      simp only at e
      rw [e, h.row] at h2
      cases h2
theorem Goes.put (w : World) (L : Loc) (i : Nat) (v : Value) : Goes w (w.setCell ⟨L.d, i, none⟩ v) L L :=
  ⟨rfl, fun _ h => .inl h, (Fr.setCell w L.d i v).mono fun _ _ h => .inl h⟩

/-- The fuse is asked: s, if it is none, lets through. -/
def lets (s : St) : Bool := s.fuse != 0
def letV (s : St) : St := if s.fuse = 0 then { s with stopped := true } else { s with fuse := (if s.fuse = -1 then -1 else s.fuse - 1), made := s.made + 1 }
theorem letV_ok (h : Ok s) : Ok (letV s) := by
  unfold letV
  split
  · exact ⟨h.n, h.held, h.wait, h.fuse, h.made, h.reads, h.claims⟩
  · rename_i h0
    have := h.fuse
    have := h.made
    refine ⟨h.n, h.held, h.wait, ?_, ?_, h.reads, h.claims⟩
    · show -1 ≤ (if s.fuse = -1 then -1 else s.fuse - 1) ∧ (if s.fuse = -1 then -1 else s.fuse - 1) ≤ 9223372036854775807
      split <;> omega
    · show 0 ≤ s.made + 1
      omega
theorem letThrough_of (h : DiskAt w L s) (hr : Room s) : Calls Try.prog 71 #[.pointer (some ⟨L.d, 0, none⟩)] w fun e w' => e = .returned (.bool (lets s)) ∧ DiskAt w' L (letV s) ∧ Goes w w' L L := by
  have c6 := h.c6
  have c8 := h.c8
  have c7 := h.c7
  have f6 := h.free 6
  have f7 := h.free 7
  have f8 := h.free 8
  have hf := h.ok.fuse
  have hm := h.ok.made
  have hm2 := hr.made
  by_cases h0 : s.fuse = 0
  · rw [h0] at c6
    have e1 : letV s = { s with stopped := true } := by unfold letV; rw [if_pos h0]
    have hA := h.put (s' := letV s) 7 (.bool true) (by rw [e1]; rfl) (by rw [e1]) (by rw [e1]) (by rw [e1]) (letV_ok h.ok)
    have hA' : Hid (DiskAt (w.setCell ⟨L.d, 7, none⟩ (.bool true)) L (letV s)) := hA
    have hl : lets s = false := by unfold lets; simp [h0]
    rw [hl]
    clear hA h hr e1
    go_enter Try.func71, Try.ntmps71
    go_wp2
    go_ret
    exact ⟨rfl, hA'.out, Goes.put _ _ _ _⟩
  · have hl : lets s = true := by unfold lets; simp [h0]
    rw [hl]
    have hw8 : IntKind.i64.wrap (s.made + 1) = s.made + 1 := by rw [IntKind.wrap_i64]; omega
    by_cases h1 : s.fuse = -1
    · rw [h1] at c6
      have e1 : letV s = { s with made := s.made + 1 } := by unfold letV; rw [if_neg h0, if_pos h1, ← h1]
      have hA : Hid (DiskAt (w.setCell ⟨L.d, 8, none⟩ (.int .i64 (s.made + 1))) L (letV s)) := h.put (s' := letV s) 8 _ (by rw [e1]; rfl) (by rw [e1]) (by rw [e1]) (by rw [e1]) (letV_ok h.ok)
      clear h hr e1
      go_enter Try.func71, Try.ntmps71
      go_wp2
      go_ret
      exact ⟨rfl, hA.out, Goes.put _ _ _ _⟩
    · have hw6 : IntKind.i64.wrap (s.fuse - 1) = s.fuse - 1 := by rw [IntKind.wrap_i64]; omega
      let s1 : St := { s with fuse := s.fuse - 1 }
      have ok1 : Ok s1 := ⟨h.ok.n, h.ok.held, h.ok.wait, ⟨by show -1 ≤ s.fuse - 1; omega, by show s.fuse - 1 ≤ _; omega⟩, h.ok.made, h.ok.reads, h.ok.claims⟩
      have h1' : DiskAt (w.setCell ⟨L.d, 6, none⟩ (.int .i64 (s.fuse - 1))) L s1 := h.put (s' := s1) 6 _ rfl rfl rfl rfl ok1
      have e1 : letV s = { s with fuse := s.fuse - 1, made := s.made + 1 } := by unfold letV; rw [if_neg h0, if_neg h1]
      have hA : Hid (DiskAt ((w.setCell ⟨L.d, 6, none⟩ (.int .i64 (s.fuse - 1))).setCell ⟨L.d, 8, none⟩ (.int .i64 (s.made + 1))) L (letV s)) := h1'.put (s' := letV s) 8 _ (by rw [e1]; rfl) (by rw [e1]) (by rw [e1]) (by rw [e1]) (letV_ok h.ok)
      have hG : Hid (Goes w ((w.setCell ⟨L.d, 6, none⟩ (.int .i64 (s.fuse - 1))).setCell ⟨L.d, 8, none⟩ (.int .i64 (s.made + 1))) L L) := (Goes.put _ _ _ _).trans (Goes.put _ _ _ _)
      clear h hr e1 h1' ok1
      clear s1
      go_enter Try.func71, Try.ntmps71
      go_wp2
      go_ret
      exact ⟨rfl, hA.out, hG.out⟩

/-- A fuse of n. -/
def fuseV (s : St) (n : Int) : St := if s.stopped then s else { s with fuse := max n (-1) }
theorem fuse_of (h : DiskAt w L s) (n : Int) (hn : n ≤ 9223372036854775807) : Calls Try.prog 31 #[.pointer (some ⟨L.d, 0, none⟩), .int .i64 n] w fun e w' => e = .returned (.tuple #[]) ∧ DiskAt w' L (fuseV s n) ∧ Goes w w' L L := by
  have c7 := h.c7
  have f6 := h.free 6
  have c6 := h.c6
  have h0 := h.c0
  unfold fuseV
  cases hs : s.stopped
  · rw [hs] at c7
    have hA : Hid (DiskAt (w.setCell ⟨L.d, 6, none⟩ (.int .i64 (max n (-1)))) L { s with fuse := max n (-1) }) :=
      h.put (s' := { s with fuse := max n (-1) }) 6 _ rfl rfl rfl rfl ⟨h.ok.n, h.ok.held, h.ok.wait, ⟨by show -1 ≤ max n (-1); omega, by show max n (-1) ≤ _; omega⟩, h.ok.made, h.ok.reads, h.ok.claims⟩
    rw [hs] at hA
    clear h
    by_cases hn1 : -1 ≤ n
    · have e : max n (-1) = n := by omega
      rw [e] at hA ⊢
      go_enter Try.func31, Try.ntmps31
      go_wp2_with (first | (go_at_call 64; refine (none_no h0).mono ?_; rintro e W ⟨rfl, rfl⟩))
      go_end0
      exact ⟨rfl, hA.out, Goes.put _ _ _ _⟩
    · have e : max n (-1) = -1 := by omega
      rw [e] at hA ⊢
      go_enter Try.func31, Try.ntmps31
      go_wp2_with (first | (go_at_call 64; refine (none_no h0).mono ?_; rintro e W ⟨rfl, rfl⟩))
      go_end0
      exact ⟨rfl, hA.out, Goes.put _ _ _ _⟩
  · rw [hs] at c7
    have hA : Hid (DiskAt w L s) := h
    clear h
    go_enter Try.func31, Try.ntmps31
    go_wp2_with (first | (go_at_call 64; refine (none_no h0).mono ?_; rintro e W ⟨rfl, rfl⟩))
    refine bodyPost_ret (results_none rfl _ _ _) rfl ?_
    exact ⟨rfl, hA.out, Goes.refl _ _⟩
theorem fuse_none {v : Value} (h : NoneAt w v) (n : Int) : Calls Try.prog 31 #[v, .int .i64 n] w fun e w' => e = .returned (.tuple #[]) ∧ w' = w := by
  go_enter Try.func31, Try.ntmps31
  go_wp2_with (first | (go_at_call 64; refine (none_yes h).mono ?_; rintro e W ⟨rfl, rfl⟩))
  refine bodyPost_ret (results_none rfl _ _ _) rfl ?_
  exact ⟨rfl, rfl⟩
/-- A claim. -/
def claimV (s : St) : St := if s.stopped then s else { s with claims := s.claims + 1, claimed := true }
def claimN (s : St) : Int := if s.stopped then 0 else s.claims + 1
theorem claim_of (h : DiskAt w L s) (hr : Room s) : Calls Try.prog 36 #[.pointer (some ⟨L.d, 0, none⟩)] w fun e w' => e = .returned (.int .i64 (claimN s)) ∧ DiskAt w' L (claimV s) ∧ Goes w w' L L := by
  have c7 := h.c7
  have c10 := h.c10
  have c11 := h.c11
  have f10 := h.free 10
  have f11 := h.free 11
  have h0 := h.c0
  have hc := h.ok.claims
  have hc2 := hr.claims
  unfold claimV claimN
  cases hs : s.stopped
  · rw [hs] at c7
    have hw : IntKind.i64.wrap (s.claims + 1) = s.claims + 1 := by rw [IntKind.wrap_i64]; omega
    let s1 : St := { s with claims := s.claims + 1 }
    have ok1 : Ok s1 := ⟨h.ok.n, h.ok.held, h.ok.wait, h.ok.fuse, h.ok.made, h.ok.reads, by show 0 ≤ s.claims + 1; omega⟩
    have h1 : DiskAt (w.setCell ⟨L.d, 10, none⟩ (.int .i64 (s.claims + 1))) L s1 := h.put (s' := s1) 10 _ rfl rfl rfl rfl ok1
    have hA : Hid (DiskAt ((w.setCell ⟨L.d, 10, none⟩ (.int .i64 (s.claims + 1))).setCell ⟨L.d, 11, none⟩ (.bool true)) L { s1 with claimed := true }) :=
      h1.put (s' := { s1 with claimed := true }) 11 _ rfl rfl rfl rfl ⟨ok1.n, ok1.held, ok1.wait, ok1.fuse, ok1.made, ok1.reads, ok1.claims⟩
    have hG : Hid (Goes w ((w.setCell ⟨L.d, 10, none⟩ (.int .i64 (s.claims + 1))).setCell ⟨L.d, 11, none⟩ (.bool true)) L L) := (Goes.put _ _ _ _).trans (Goes.put _ _ _ _)
    have e1 : ({ s1 with claimed := true } : St) = { s with claims := s.claims + 1, claimed := true } := rfl
    rw [e1] at hA
    clear h hr ok1 h1 e1
    clear s1
    rw [hs] at hA
    simp only [Bool.false_eq_true, if_false]
    go_enter Try.func36, Try.ntmps36
    go_wp2_with (first | (go_at_call 64; refine (none_no h0).mono ?_; rintro e W ⟨rfl, rfl⟩))
    go_ret
    exact ⟨rfl, hA.out, hG.out⟩
  · rw [hs] at c7
    have hA : Hid (DiskAt w L s) := h
    clear h
    simp only [if_true]
    go_enter Try.func36, Try.ntmps36
    go_wp2_with (first | (go_at_call 64; refine (none_no h0).mono ?_; rintro e W ⟨rfl, rfl⟩))
    go_ret
    exact ⟨rfl, hA.out, Goes.refl _ _⟩
theorem claim_none {v : Value} (h : NoneAt w v) : Calls Try.prog 36 #[v] w fun e w' => e = .returned (.int .i64 0) ∧ w' = w := by
  go_enter Try.func36, Try.ntmps36
  go_wp2_with (first | (go_at_call 64; refine (none_yes h).mono ?_; rintro e W ⟨rfl, rfl⟩))
  go_ret
  exact ⟨rfl, rfl⟩
end Go.Proofs.Ytembocfghkmieaa
