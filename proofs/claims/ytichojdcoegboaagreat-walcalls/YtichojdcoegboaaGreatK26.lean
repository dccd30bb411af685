/- The document's log: Write, where its Check answers nought, walked; groups of at most a million. -/
import Derived.Test.YtichojdcoegboaaGreatK25
namespace Go.Proofs.YtichojdcoegboaaGreatW
open Go.RowKit Go.Maps
section
variable {w W W' V : World} {q r : Nat} {y y' : RL} {u u' : RSt} {l : List Part} {B : Nat} {gv wv : Value} {k : Int} {f : Nat → Int}
theorem DL.write_no (h : DL w W q r y u l) (hc : rchE y u = 0) (hs : y.step = false) : Calls Tryz.prog 38 #[.pointer (some ⟨q, 0, none⟩), .int .i64 k, .agg (blk f)] W fun e W' => e = .returned (.int .i64 180) ∧ DL w W' q r y u l := by
 have H0 := Hid.mk' ((h.later (below_new W (.cells (blk f) 64))).live hc)
 clear h
 generalize blk f = F at *
 go_enter Tryz.func38, Tryz.ntmps38
 go_wp2_with (first | (go_at_call 51; fail))
 refine H0.out.mono ?_
 rintro e W1 ⟨rfl, _, h1⟩
 obtain ⟨Y, hl⟩ := h1.at
 have c13 := hl.c13
 rw [hs] at c13
 have H1 := Hid.mk' h1
 clear h1 hl H0
 go_wp2
 go_ret
 exact ⟨rfl, H1.out⟩
def outB (y : RL) (k : Int) : Prop := k ≤ 0 ∨ y.b ≤ k ∨ 1 ≤ k ∧ k < 1 + y.l
theorem DL.write_arg (h : DL w W q r y u l) (hc : rchE y u = 0) (hs : y.step = true) (hl2 : 32 ≤ y.l ∧ y.l ≤ 256) (hk : outB y k) : Calls Tryz.prog 38 #[.pointer (some ⟨q, 0, none⟩), .int .i64 k, .agg (blk f)] W fun e W' => e = .returned (.int .i64 2) ∧ DL w W' q r y u l := by
 have H0 := Hid.mk' ((h.later (below_new W (.cells (blk f) 64))).live hc)
 have hw : IntKind.i64.wrap (1 + y.l) = 1 + y.l := by rw [IntKind.wrap_i64]; omega
 clear h
 generalize blk f = F at *
 have hcs : decide (k ≤ 0) = true ∨ (decide (k ≤ 0) = false ∧ decide (y.b ≤ k) = true) ∨ (decide (k ≤ 0) = false ∧ decide (y.b ≤ k) = false ∧ decide (1 ≤ k) = true ∧ decide (k < 1 + y.l) = true) := by
  unfold outB at hk
  by_cases a1 : k ≤ 0
  ·exact .inl (decide_eq_true a1)
  ·by_cases a2 : y.b ≤ k
   ·exact .inr (.inl ⟨decide_eq_false a1, decide_eq_true a2⟩)
   ·exact .inr (.inr ⟨decide_eq_false a1, decide_eq_false a2, decide_eq_true (by omega), decide_eq_true (by omega)⟩)
 clear hk hl2
 rcases hcs with g1 | ⟨g1, g2⟩ | ⟨g1, g2, g3, g4⟩
 all_goals
  go_enter Tryz.func38, Tryz.ntmps38
  go_wp2_with (first | (go_at_call 51; fail))
  refine H0.out.mono ?_
  rintro e W1 ⟨rfl, _, h1⟩
  obtain ⟨Y, hl⟩ := h1.at
  have c13 := hl.c13
  have c1 := hl.c1
  have c2 := hl.c2
  have c4 := hl.c4
  rw [hs] at c13
  have H1 := Hid.mk' h1
  clear h1 hl H0
  go_wp2
  go_quiet (fail)
  go_wp2
  go_ret
  exact ⟨rfl, H1.out.later (below_drewN _ _)⟩
theorem DL.write_tight (h : DL w W q r y u l) (hc : rchE y u = 0) (hs : y.step = true) (hl2 : 32 ≤ y.l ∧ y.l ≤ 256) (hk : ¬ outB y k) (hwl : y.wrote.length ≤ 1000000) (hn : k ∉ y.wrote) (hr : y.room ≤ y.wrote.length) : Calls Tryz.prog 38 #[.pointer (some ⟨q, 0, none⟩), .int .i64 k, .agg (blk f)] W fun e W' => e = .returned (.int .i64 181) ∧ DL w W' q r y u l := by
 have H0 := Hid.mk' ((h.later (below_new W (.cells (blk f) 64))).live hc)
 have hw : IntKind.i64.wrap (1 + y.l) = 1 + y.l := by rw [IntKind.wrap_i64]; omega
 clear h
 generalize blk f = F at *
 unfold outB at hk
 have g1 : decide (k ≤ 0) = false := decide_eq_false (by omega)
 have g2 : decide (y.b ≤ k) = false := decide_eq_false (by omega)
 have g3 : decide (1 ≤ k) = true := decide_eq_true (by omega)
 have g4 : decide (k < 1 + y.l) = false := decide_eq_false (by omega)
 obtain ⟨N, hN⟩ : ∃ N, y.wrote.length = N := ⟨_, rfl⟩
 have g5 : decide (y.room ≤ (N : Int)) = true := decide_eq_true (by omega)
 have HN := Hid.mk' hN
 clear hk hl2 hr
 go_enter Tryz.func38, Tryz.ntmps38
 go_wp2_with (first | (go_at_call 51; fail))
 refine H0.out.mono ?_
 rintro e W1 ⟨rfl, _, h1⟩
 obtain ⟨Y, hl⟩ := h1.at
 have c13 := hl.c13
 have c1 := hl.c1
 have c2 := hl.c2
 have c4 := hl.c4
 have c14 := hl.c14
 have c15 := hl.c15
 obtain ⟨p, c, hv, _⟩ := H.OwnZ.ints hl.wrote
 rw [hv, HN.out] at c15
 rw [hs] at c13
 have HW : Hid (∀ m, Calls Tryz.prog 86 #[.pointer (some ⟨q, 0, none⟩), .int .i64 k] (W1.drewN m) fun e W' => e = .returned (.bool false) ∧ W' = W1.drewN m) := fun m => by
  have := wrote_at (hl.later (below_drewN W1 m)) hwl k
  rw [decide_eq_false hn] at this
  exact this
 have H1 := Hid.mk' h1
 clear h1 hl H0 hv hwl hn hN
 go_wp2
 go_quiet (fail)
 go_wp2_with (first | (go_at_call 86; refine (HW.out _).mono ?_; rintro e W2 ⟨rfl, rfl⟩))
 go_quiet (fail)
 go_wp2
 go_ret
 exact ⟨rfl, by simpa using H1.out.later (H.belowN (below_drewN _ _) _)⟩
end
end Go.Proofs.YtichojdcoegboaaGreatW
