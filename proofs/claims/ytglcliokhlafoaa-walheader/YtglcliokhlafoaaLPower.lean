/- Begin that commits; the disk's fuse under a log; what is left of a log whose power went; no condition but that numbers do not pass their greatest. -/
import Derived.Test.YtglcliokhlafoaaLFresh
namespace Go.Proofs.Ytglcliokhlafoaa
open Go.RowKit Go.Maps
variable {w W : World} {g d c mb : Nat} {v : Value} {x : LSt} {s : CSt} {t : St} {os ks : List (Nat × Obj)} {base : Nat} {book : Int → Nat → Int}
/-- What a Begin leaves that commits first. -/
def BgPost (w : World) (g d : Nat) (x : LSt) (r : Int) (t : St) (book : Int → Nat → Int) (ks : List (Nat × Obj)) (e : Ending) (W' : World) : Prop :=
  e = .returned (.int .i64 (runE (cmtOps x book) t)) ∧ (∃ x' s', LogSit w W' g d x' s' (runV (cmtOps x book) t) ks ∧ x'.claim = x.claim) ∧ (runE (cmtOps x book) t = 0 → LogI w W' g d { forgotL x with commits := x.commits + 1, opn := true, room := r } (runV (cmtOps x book) t) book ks)
set_option maxHeartbeats 1600000 in
theorem LogI.beginOver (h : LogI w W g d x t book ks) {r : Int} (hr : refL x t false = 0) (hr1 : 1 ≤ r) (hr2 : r ≤ x.l - 1) (hr3 : x.l - 1 < (x.blocks.length : Int) + r) (hrm : Rm t (2 * x.blocks.length + 12)) (hcm : x.commits < 1099511627776) : Calls Try.prog 22 #[ptr g, .int .i64 r] W (BgPost w g d x r t book ks) := by
  obtain ⟨s, ⟨c, mb, v, os, h⟩, hI⟩ := h
  have hl : 32 ≤ x.l ∧ x.l ≤ 256 := ⟨hI.fine.1, hI.fine.2.1⟩
  have hlen := hI.len
  have hc : Calls Try.prog 49 #[ptr g, .bool false] W fun e W' => e = .returned (.int .i64 0) ∧ Bg1 W' g (x.l - 1) x.blocks.length ∧ Hid (∀ k, Calls Try.prog 51 #[ptr g] (W'.drewN k) (CmtPost w g d x t book ks)) := by
    refine (h.refuses2 false).mono ?_
    rintro e W' ⟨rfl, h1⟩
    exact ⟨by rw [hr], h1.bg1 hl, fun k => (h1.later (below_drewN _ k)).commit hI (claimed_live (refL_live hr).1) hrm hcm⟩
  have HO : Hid (∀ W', LogI w W' g d { forgotL x with commits := x.commits + 1 } (runV (cmtOps x book) t) book ks → LogI w ((W'.setCell ⟨g, 15, none⟩ (.bool true)).setCell ⟨g, 16, none⟩ (.int .i64 r)) g d { forgotL x with commits := x.commits + 1, opn := true, room := r } (runV (cmtOps x book) t) book ks) := fun W' h1 => h1.opened ⟨hr1, by show ((0 : Nat) : Int) + r ≤ x.l - 1; omega⟩
  clear h hr hI hrm
  unfold ptr at *
  generalize hm : x.l - 1 = m at *
  generalize hn : x.blocks.length = n at *
  have hn2 : n ≤ 256 := by omega
  have h1 : ¬ r < 1 := by omega
  have h2 : ¬ m < r := by omega
  have h3 : m < (n : Int) + r := by omega
  go_enter Try.func22, Try.ntmps22
  go_wp2_with (go_at_call 49; fail)
  refine hc.mono ?_
  rintro e W1 ⟨rfl, ⟨⟨p, cp, c13⟩, hmo, hm0⟩, HC⟩
  go_wp2_with (first | (go_at_call 50; refine hm0.mono ?_; rintro e W2 ⟨rfl, rfl⟩))
  go_quiet (first | (go_at_call 50; refine Calls.quiet_of_same (hmo _)))
  have HC2 := Hid.mk' (HC.out nq)
  clear hmo hm0 HC c13 hc
  go_wp2_with (go_at_call 51; fail)
  refine HC2.out.mono ?_
  rintro e W3 ⟨rfl, h4, h5⟩
  have H4 := Hid.mk' h4
  have H5 := Hid.mk' h5
  clear h4 h5 HC2
  by_cases hE : runE (cmtOps x book) t = 0
  · obtain ⟨s, h6, _⟩ := H5.out hE
    obtain ⟨c15, f15, c16, f16⟩ := h6.c1516
    have H6 := Hid.mk' (HO.out W3 (H5.out hE))
    have HE := Hid.mk' hE
    rw [hE]
    clear h6 hE H4 H5
    go_wp2
    go_ret
    refine ⟨congrArg (fun z => Ending.returned (.int .i64 z)) HE.out.symm, ?_, fun _ => H6.out⟩
    obtain ⟨s', q, _⟩ := H6.out
    exact ⟨_, s', q, rfl⟩
  · have HE := Hid.mk' hE
    generalize hGE : runE (cmtOps x book) t = E at *
    have HG := Hid.mk' hGE
    clear hGE
    go_wp2
    go_ret
    exact ⟨congrArg (fun z => Ending.returned (.int .i64 z)) HG.out.symm, H4.out, fun q => absurd (HG.out.symm.trans q) HE.out⟩
theorem cur_fuse (n : Int) : curV (fuseV t n) = curV t ∧ (fuseV t n).n = t.n := by
  unfold fuseV
  split <;> exact ⟨rfl, rfl⟩
/-- The log's row beside its disk. -/
theorem LogSit.toSits (h : LogSit w W g d x s t ks) : ∃ c mb v, Sits w W d t ((g, .cells (lgRow g d c mb v x) 86) :: ks) := by
  obtain ⟨c, mb, v, os, h⟩ := h
  obtain ⟨K, L, hc, hd, h0⟩ := h.sit
  refine ⟨c, mb, v, L, hd, h0.cd.disk, h0.newL, h0.below, fun p hp => ?_⟩
  rcases List.mem_cons.1 hp with rfl | hp
  · refine ⟨h.log.row, fun q => ?_⟩
    obtain ⟨_, o, ho⟩ := h.own g (.inl rfl)
    exact (h0.keep _ (List.mem_append.2 (.inl ho))).2.2 q
  · obtain ⟨a1, _, a3⟩ := h0.keep p (List.mem_append.2 (.inr hp))
    exact ⟨a1, a3⟩
theorem sits_claimed2 (h : Sits w W d t ks) (k : Int) : Calls Try.prog 71 #[.pointer (some ⟨d, 0, none⟩), .int .i64 k] W fun e W' => e = .returned (.bool (claimedV t k)) ∧ W' = W := by
  obtain ⟨L, rfl, hS⟩ := h
  exact claimed_of hS.disk k
/-- A dead log, beside its disk. -/
theorem dead_check (h : Sits w W d t ks) (hm : (g, .cells (lgRow g d c mb v x) 86) ∈ ks) (hd : claimedV t x.claim = false) : Calls Try.prog 56 #[ptr g] W fun e W' => e = .returned (.int .i64 3) ∧ ∃ m, W' = W.drewN m := by
  have hn := neq26
  have hrow := h.blk hm
  have c0 : W.cell? ⟨g, 0, none⟩ = some (ptr g) := Joins.cell_of_block hrow 0
  have c1 : W.cell? ⟨g, 1, none⟩ = some (ptr d) := Joins.cell_of_block hrow 1
  have c2 : W.cell? ⟨g, 2, none⟩ = some (.int .i64 x.claim) := Joins.cell_of_block hrow 2
  have hq : ∀ n, Calls Try.prog 71 #[ptr d, .int .i64 x.claim] (W.drewN n) fun e W' => e = .returned (.bool false) ∧ W' = W.drewN n := fun n => by
    have := sits_claimed2 (h.later (below_drewN W n)) x.claim
    rw [hd] at this
    exact this
  clear h hrow hd
  unfold ptr at *
  go_enter Try.func56, Try.ntmps56
  go_wp2
  go_quiet (first | (go_at_call 71; refine Calls.quiet_of_same (hq _)))
  go_wp2
  go_ret
  exact ⟨rfl, _, rfl⟩
theorem dead_used (h : Sits w W d t ks) (hm : (g, .cells (lgRow g d c mb v x) 86) ∈ ks) (hd : claimedV t x.claim = false) : Calls Try.prog 26 #[ptr g] W fun e W' => e = .returned (.int .i64 0) ∧ ∃ m, W' = W.drewN m := by
  have h0 := dead_check h hm hd
  clear h
  unfold ptr at *
  go_enter Try.func26, Try.ntmps26
  go_wp2_with (first | (go_at_call 56; refine h0.mono ?_; rintro e W1 ⟨rfl, m, rfl⟩))
  go_ret
  exact ⟨rfl, _, rfl⟩
end Go.Proofs.Ytglcliokhlafoaa
