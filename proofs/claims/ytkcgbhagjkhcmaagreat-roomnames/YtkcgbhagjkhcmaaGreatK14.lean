/- Sync and Begin; no condition but that numbers do not pass their greatest. -/
import Derived.Test.YtkcgbhagjkhcmaaGreatK13
namespace Go.Proofs.YtkcgbhagjkhcmaaGreatW
open Go.RowKit Go.Maps
variable {w W : World} {g d c mb : Nat} {v : Value} {x : LSt} {s : CSt} {t : St} {os ks : List (Nat × Obj)} {base : Nat} {book : Int → Nat → Int}
theorem LS.refuses2 (h : LS w W g d c mb v x s t os ks) (o : Bool) : Calls Tryz.prog 30 #[ptr g, .bool o] W fun e W' => e = .returned (.int .i64 (refL x t o)) ∧ LS w W' g d c mb v x s t os ks := by
  refine (h.refuses o).mono ?_
  rintro e W' ⟨rfl, m, rfl⟩
  exact ⟨rfl, h.later (below_drewN _ m)⟩
theorem LogI.syncNone (h : LogI w W g d x t book ks) (hr : refL x t false = 0) (hb : x.blocks = []) : Calls Tryz.prog 37 #[ptr g] W fun e W' => e = .returned (.int .i64 0) ∧ LogI w W' g d x t book ks := by
  obtain ⟨s, ⟨c, mb, v, os, h⟩, hI⟩ := h
  have hc : Calls Tryz.prog 30 #[ptr g, .bool false] W fun e W' => e = .returned (.int .i64 0) ∧ (∃ p cp, W'.cell? ⟨g, 13, none⟩ = some (.slice p 0 cp)) ∧ Hid (LogI w W' g d x t book ks) := by
    refine (h.refuses2 false).mono ?_
    rintro e W' ⟨rfl, h1⟩
    obtain ⟨p, cp, hv, _⟩ := h1.log.own.ints
    rw [hb] at hv
    refine ⟨by rw [hr], ⟨p, cp, ?_⟩, s, ⟨c, mb, v, os, h1⟩, hI⟩
    rw [h1.log.c13, hv]
    rfl
  clear h hr hI
  unfold ptr at *
  go_enter Tryz.func37, Tryz.ntmps37
  go_wp2_with (first | (go_at_call 30; refine hc.mono ?_; rintro e W1 ⟨rfl, ⟨p, cp, c13⟩, h1⟩))
  go_ret
  exact ⟨rfl, h1.out⟩
/-- What is ready behind Begin's first questions. -/
structure Bg1 (W' : World) (g : Nat) (m : Int) (n : Nat) : Prop where
  sl : ∃ p cp, W'.cell? ⟨g, 13, none⟩ = some (.slice p n cp)
  most : ∀ k, Calls Tryz.prog 31 #[.pointer (some ⟨g, 0, none⟩)] (W'.drewN k) fun e W'' => e = .returned (.int .i64 m) ∧ W'' = W'.drewN k
  m0 : Calls Tryz.prog 31 #[.pointer (some ⟨g, 0, none⟩)] W' fun e W'' => e = .returned (.int .i64 m) ∧ W'' = W'
theorem LS.bg1 (h : LS w W g d c mb v x s t os ks) (hl : 32 ≤ x.l ∧ x.l ≤ 256) : Bg1 W g (x.l - 1) x.blocks.length := by
  obtain ⟨p, cp, hv, _⟩ := h.log.own.ints
  exact ⟨⟨p, cp, by rw [h.log.c13, hv]⟩, fun k => (h.later (below_drewN W k)).most hl, h.most hl⟩
theorem LogSit.c1516 (h : LogSit w W g d x s t ks) : W.cell? ⟨g, 15, none⟩ = some (.bool x.opn) ∧ W.frozen? ⟨g, 15, none⟩ = false ∧ W.cell? ⟨g, 16, none⟩ = some (.int .i64 x.room) ∧ W.frozen? ⟨g, 16, none⟩ = false := by
  obtain ⟨c, mb, v, os, h⟩ := h
  exact ⟨h.log.c15, h.log.free 15, h.log.c16, h.log.free 16⟩
theorem LogI.opened (h : LogI w W g d x t book ks) {r : Int} (hr : 1 ≤ r ∧ (x.blocks.length : Int) + r ≤ x.l - 1) : LogI w ((W.setCell ⟨g, 15, none⟩ (.bool true)).setCell ⟨g, 16, none⟩ (.int .i64 r)) g d { x with opn := true, room := r } t book ks := by
  obtain ⟨s, h1, hI⟩ := h
  refine ⟨s, (h1.setOpn true).setRoom r, hI.fine, hI.c, hI.nd, hI.rng, hI.fast, hI.last, hI.len, hI.steps, hI.commits, ⟨by show 0 ≤ r; omega, ?_⟩, fun _ => hr.2⟩
  have := hI.fine.2.1
  show r ≤ 256
  omega
set_option maxHeartbeats 800000 in
theorem LogI.begin (h : LogI w W g d x t book ks) {r : Int} (hr : refL x t false = 0) (hr1 : 1 ≤ r) (hr2 : (x.blocks.length : Int) + r ≤ x.l - 1) : Calls Tryz.prog 10 #[ptr g, .int .i64 r] W fun e W' => e = .returned (.int .i64 0) ∧ LogI w W' g d { x with opn := true, room := r } t book ks := by
  obtain ⟨s, ⟨c, mb, v, os, h⟩, hI⟩ := h
  have hl : 32 ≤ x.l ∧ x.l ≤ 256 := ⟨hI.fine.1, hI.fine.2.1⟩
  have hc : Calls Tryz.prog 30 #[ptr g, .bool false] W fun e W' => e = .returned (.int .i64 0) ∧ Bg1 W' g (x.l - 1) x.blocks.length ∧ Hid (LogI w W' g d x t book ks) := by
    refine (h.refuses2 false).mono ?_
    rintro e W' ⟨rfl, h1⟩
    exact ⟨by rw [hr], h1.bg1 hl, s, ⟨c, mb, v, os, h1⟩, hI⟩
  have HO : Hid (∀ W', LogI w W' g d x t book ks → LogI w ((W'.setCell ⟨g, 15, none⟩ (.bool true)).setCell ⟨g, 16, none⟩ (.int .i64 r)) g d { x with opn := true, room := r } t book ks) := fun W' h1 => h1.opened ⟨hr1, hr2⟩
  clear h hr hI
  unfold ptr at *
  generalize hm : x.l - 1 = m at *
  generalize hn : x.blocks.length = n at *
  have hn2 : n ≤ 256 := by omega
  have h1 : ¬ r < 1 := by omega
  have h2 : ¬ m < r := by omega
  have h3 : ¬ m < (n : Int) + r := by omega
  go_enter Tryz.func10, Tryz.ntmps10
  go_wp2_with (go_at_call 30; fail)
  refine hc.mono ?_
  rintro e W1 ⟨rfl, ⟨⟨p, cp, c13⟩, hmo, hm0⟩, H1⟩
  go_wp2_with (first | (go_at_call 31; refine hm0.mono ?_; rintro e W2 ⟨rfl, rfl⟩))
  go_quiet (first | (go_at_call 31; refine Calls.quiet_of_same (hmo _)))
  have H2 := Hid.mk' (H1.out.later (below_drewN _ nq))
  clear hmo hm0 H1 c13 hc
  generalize W2.drewN nq = W3 at H2 ⊢
  obtain ⟨s, h4, _⟩ := H2.out
  obtain ⟨c15, f15, c16, f16⟩ := h4.c1516
  clear h4
  go_wp2
  go_ret
  exact ⟨rfl, HO.out W3 H2.out⟩
end Go.Proofs.YtkcgbhagjkhcmaaGreatW
