/- A block is written by a log: refused, or in the group; no condition but that the block's bytes are such. -/
import Derived.Test.YtichojdcoegboaaGreatK20
namespace Go.Proofs.YtichojdcoegboaaGreatW
open Go.RowKit Go.Maps
variable {w W : World} {g d c mb : Nat} {v : Value} {x : LSt} {s : CSt} {t : St} {os ks : List (Nat × Obj)} {base : Nat} {book : Int → Nat → Int}
theorem writeL_ref (h : LogSit w W g d x s t ks) {k : Int} {f : Nat → Int} {e0 : Int} (hr : refL x t true = e0) (h0 : e0 ≠ 0) : Calls Tryz.prog 20 #[ptr g, .int .i64 k, .agg (blk f)] W fun e W' => e = .returned (.int .i64 e0) ∧ LogSit w W' g d x s t ks := by
 obtain ⟨c, mb, v, os, h⟩ := h
 have hA := h.add (.cells (blk f) 64)
 have hc : Calls Tryz.prog 74 #[ptr g, .bool true] (W.alloc (.cells (blk f) 64)) fun e W' => e = .returned (.int .i64 e0) ∧ LogSit w W' g d x s t ks := by
  refine (hA.refuses true).mono ?_
  rintro e W' ⟨rfl, m, rfl⟩
  exact ⟨by rw [hr], c, mb, v, os, (hA.later (below_drewN _ m)).drop fun p hp => List.mem_cons_of_mem _ hp⟩
 clear h hA hr
 unfold ptr at *
 generalize blk f = F at *
 go_enter Tryz.func20, Tryz.ntmps20
 go_wp2_with (first | (go_at_call 74; refine hc.mono ?_; rintro e W1 ⟨rfl, h1⟩))
 go_ret
 exact ⟨rfl, h1⟩
theorem writeL_arg (h : LogSit w W g d x s t ks) {k : Int} {f : Nat → Int} (hr : refL x t true = 0) (hk : k < 1 ∨ x.b ≤ k ∨ ofL x k = true) : Calls Tryz.prog 20 #[ptr g, .int .i64 k, .agg (blk f)] W fun e W' => e = .returned (.int .i64 2) ∧ LogSit w W' g d x s t ks := by
 obtain ⟨c, mb, v, os, h⟩ := h
 have hA := h.add (.cells (blk f) 64)
 have hc : Calls Tryz.prog 74 #[ptr g, .bool true] (W.alloc (.cells (blk f) 64)) fun e W' => e = .returned (.int .i64 0) ∧ W'.cell? ⟨g, 3, none⟩ = some (.int .i64 x.b) ∧ Calls Tryz.prog 77 #[ptr g, .int .i64 k] W' (fun e W'' => e = .returned (.bool (ofL x k)) ∧ W'' = W') ∧ Hid (LogSit w W' g d x s t ks) := by
  refine (hA.refuses true).mono ?_
  rintro e W' ⟨rfl, m, rfl⟩
  have hB := hA.later (below_drewN _ m)
  exact ⟨by rw [hr], hB.log.c3, hB.ofLog k, c, mb, v, os, hB.drop fun p hp => List.mem_cons_of_mem _ hp⟩
 clear h hA hr
 unfold ptr at *
 generalize blk f = F at *
 by_cases h1 : k < 1
 ·go_enter Tryz.func20, Tryz.ntmps20
  go_wp2_with (first | (go_at_call 74; refine hc.mono ?_; rintro e W1 ⟨rfl, c3, hol, HL⟩))
  go_ret
  exact ⟨rfl, HL.out⟩
 ·by_cases h2 : x.b ≤ k
  ·go_enter Tryz.func20, Tryz.ntmps20
   go_wp2_with (first | (go_at_call 74; refine hc.mono ?_; rintro e W1 ⟨rfl, c3, hol, HL⟩))
   go_ret
   exact ⟨rfl, HL.out⟩
  ·have h3 : ofL x k = true := by
    rcases hk with h | h | h
    ·exact absurd h h1
    ·exact absurd h h2
    ·exact h
   rw [h3] at hc
   go_enter Tryz.func20, Tryz.ntmps20
   go_wp2_with (first | (go_at_call 74; refine hc.mono ?_; rintro e W1 ⟨rfl, c3, hol, HL⟩) | (go_at_call 77; refine hol.mono ?_; rintro e W2 ⟨rfl, rfl⟩))
   go_ret
   exact ⟨rfl, HL.out⟩
structure Wr1 (w W' : World) (g d : Nat) (x : LSt) (s : CSt) (t : St) (k : Int) (by' : Bool) (kk : List (Nat × Obj)) : Prop where
 c3 : W'.cell? ⟨g, 3, none⟩ = some (.int .i64 x.b)
 c16 : W'.cell? ⟨g, 16, none⟩ = some (.int .i64 x.room)
 f16 : W'.frozen? ⟨g, 16, none⟩ = false
 c18 : W'.cell? ⟨g, 18, none⟩ = some (.int .i64 x.steps)
 ofl : Calls Tryz.prog 77 #[ptr g, .int .i64 k] W' fun e W'' => e = .returned (.bool false) ∧ W'' = W'
 byl : ∀ n, Calls Tryz.prog 78 #[.pointer (some ⟨g, 13, none⟩), .int .i64 k, .int .i64 x.steps] (W'.drewN n) fun e W'' => e = .returned (.bool by') ∧ W'' = W'.drewN n
 ls : Hid (LogSit w W' g d x s t kk)
theorem wr1 (h : LogSit w W g d x s t ks) {k : Int} {f : Nat → Int} (hr : refL x t true = 0) (hk : 1 + x.l ≤ k ∧ k < x.b) (hl : 32 ≤ x.l) (hb : x.b ≤ 1048576) : Calls Tryz.prog 74 #[ptr g, .bool true] (W.alloc (.cells (blk f) 64)) fun e W' => e = .returned (.int .i64 0) ∧ Wr1 w W' g d x s t k (byB x k x.steps) ((W.heap.size, .cells (blk f) 64) :: ks) := by
 obtain ⟨c, mb, v, os, h⟩ := h
 have hA := h.add (.cells (blk f) 64)
 refine (hA.refuses true).mono ?_
 rintro e W' ⟨rfl, m, rfl⟩
 have hB := hA.later (below_drewN _ m)
 have ho : ofL x k = false := by unfold ofL; exact decide_eq_false fun q => by omega
 have ho2 := hB.ofLog k
 rw [ho] at ho2
 exact ⟨by rw [hr], hB.log.c3, hB.log.c16, hB.log.free 16, hB.log.c18, ho2, fun n => (hB.later (below_drewN _ n)).changedBy ⟨by omega, by omega⟩, c, mb, v, os, hB⟩
theorem writeL_tight (h : LogSit w W g d x s t ks) {k : Int} {f : Nat → Int} (hr : refL x t true = 0) (hk : 1 + x.l ≤ k ∧ k < x.b) (hl : 32 ≤ x.l) (hb : x.b ≤ 1048576) (hby : byB x k x.steps = false) (hz : x.room = 0) : Calls Tryz.prog 20 #[ptr g, .int .i64 k, .agg (blk f)] W fun e W' => e = .returned (.int .i64 181) ∧ LogSit w W' g d x s t ks := by
 have hc := wr1 (f := f) h hr hk hl hb
 rw [hby] at hc
 have hk1 : ¬ k < 1 := by omega
 have hk2 : ¬ x.b ≤ k := by omega
 clear h hr
 generalize blk f = F at *
 unfold ptr at hc ⊢
 go_enter Tryz.func20, Tryz.ntmps20
 go_wp2_with (go_at_call 74; fail)
 refine hc.mono ?_
 rintro e W1 ⟨rfl, c3, c16, f16, c18, ofl, byl, HL⟩
 rw [hz] at c16
 unfold ptr at ofl
 go_wp2_with (first | (go_at_call 77; refine ofl.mono ?_; rintro e W2 ⟨rfl, rfl⟩))
 go_quiet (first | (go_at_call 78; refine Calls.quiet_of_same (byl _)))
 go_wp2
 go_ret
 exact ⟨rfl, (HL.out.later (below_drewN _ _)).drop fun p hp => List.mem_cons_of_mem _ hp⟩
theorem LogSit.put (h : LogSit w W g d x s t ks) (k : Int) {f : Nat → Int} (hf : Can f) : ∃ c, W.cell? ⟨g, 12, none⟩ = some (ptr c) ∧ Calls Tryz.prog 80 #[ptr c, .int .i64 k, .agg (blk f)] W fun e W' => e = .returned (.int .i64 (usedE s t k)) ∧ LogSit w W' g d x (putC s t k f) t ks := by
 obtain ⟨c, mb, v, os, h⟩ := h
 exact ⟨c, h.log.c12, (sit_put h.sit k hf).mono fun e W' ⟨h1, h2⟩ => ⟨h1, c, mb, v, os, h.step h2⟩⟩
theorem Hid.mk' {p : Prop} (h : p) : Hid p := h
theorem LogSit.drew (h : LogSit w W g d x s t ks) : LogSit w W.drew g d x s t ks := h.later ⟨rfl, rfl, rfl, Nat.le_refl _, fun _ _ => rfl⟩
set_option maxRecDepth 20000 in
set_option maxHeartbeats 1600000 in
theorem writeL_again (h : LogSit w W g d x s t ks) {k : Int} {f : Nat → Int} (hf : Can f) (hr : refL x t true = 0) (hk : 1 + x.l ≤ k ∧ k < x.b) (hl : 32 ≤ x.l) (hb : x.b ≤ 1048576) (hby : byB x k x.steps = true) (hu : usedE s t k = 0) : Calls Tryz.prog 20 #[ptr g, .int .i64 k, .agg (blk f)] W fun e W' => e = .returned (.int .i64 0) ∧ LogSit w W' g d x (putC s t k f) t ks := by
 have hc := wr1 (f := f) h hr hk hl hb
 rw [hby] at hc
 have hk1 : ¬ k < 1 := by omega
 have hk2 : ¬ x.b ≤ k := by omega
 have HP : Hid (∀ W', LogSit w W' g d x s t ((W.heap.size, .cells (blk f) 64) :: ks) → BlkAt W' W.heap.size 0 f ∧ ∃ c, W'.cell? ⟨g, 12, none⟩ = some (ptr c) ∧ Calls Tryz.prog 80 #[ptr c, .int .i64 k, .agg (blk f)] W'.drew fun e W'' => e = .returned (.int .i64 0) ∧ LogSit w W'' g d x (putC s t k f) t ks) := fun W' h1 => by
  refine ⟨BlkAt.of (h1.obj (List.mem_cons_self ..)), ?_⟩
  obtain ⟨c, hc, h2⟩ := h1.drew.put k hf
  exact ⟨c, by simpa using hc, h2.mono fun e W'' ⟨a1, a2⟩ => ⟨by rw [a1, hu], a2.drop fun p hp => List.mem_cons_of_mem _ hp⟩⟩
 clear h hr
 unfold ptr at hc ⊢
 generalize hF : blk f = F at hc ⊢
 go_enter Tryz.func20, Tryz.ntmps20
 go_wp2_with (go_at_call 74; fail)
 refine hc.mono ?_
 rintro e W1 ⟨rfl, c3, c16, f16, c18, ofl, byl, HL⟩
 subst hF
 unfold ptr at ofl
 go_wp2_with (first | (go_at_call 77; refine ofl.mono ?_; rintro e W2 ⟨rfl, rfl⟩))
 go_quiet (first | (go_at_call 78; refine Calls.quiet_of_same (byl _)))
 go_wp2
 have HL3 : Hid (LogSit w (W2.drewN nq) g d x s t ((W.heap.size, .cells (blk f) 64) :: ks)) := HL.out.later (below_drewN _ _)
 clear HL byl ofl hc c16 f16 c18 c3
 generalize W2.drewN nq = W3 at HL3 ⊢
 obtain ⟨hB, c', c12, hput⟩ := HP.out W3 HL3.out
 unfold ptr at c12 hput
 clear HP HL3
 go_still_tail 6, (by kernel_rfl)
 refine wpStill_loadM rfl (.tmp 5) rfl W.heap.size 0 rfl f hB ?_
 repeat still_step
 refine wpStill_nil ?_
 change wpList _ _ _ _ _ (World.drew _)
 go_wp2_with (go_at_call 80; fail)
 refine hput.mono ?_
 rintro e W4 ⟨rfl, h4⟩
 have H4 := Hid.mk' h4
 clear h4
 go_wp2
 go_ret
 exact ⟨rfl, H4.out⟩
theorem LogSit.setRoom (h : LogSit w W g d x s t ks) (r : Int) : LogSit w (W.setCell ⟨g, 16, none⟩ (.int .i64 r)) g d { x with room := r } s t ks := by
 obtain ⟨c, mb, v, os, h⟩ := h
 exact h.setCell 16 _ rfl rfl rfl
theorem LogSit.setOpn (h : LogSit w W g d x s t ks) (r : Bool) : LogSit w (W.setCell ⟨g, 15, none⟩ (.bool r)) g d { x with opn := r } s t ks := by
 obtain ⟨c, mb, v, os, h⟩ := h
 exact h.setCell 15 _ rfl rfl rfl
theorem LogSit.setCommits (h : LogSit w W g d x s t ks) (r : Int) : LogSit w (W.setCell ⟨g, 17, none⟩ (.int .i64 r)) g d { x with commits := r } s t ks := by
 obtain ⟨c, mb, v, os, h⟩ := h
 exact h.setCell 17 _ rfl rfl rfl
theorem LogSit.setSteps (h : LogSit w W g d x s t ks) (r : Int) : LogSit w (W.setCell ⟨g, 18, none⟩ (.int .i64 r)) g d { x with steps := r } s t ks := by
 obtain ⟨c, mb, v, os, h⟩ := h
 exact h.setCell 18 _ rfl rfl rfl
theorem LogSit.change (h : LogSit w W g d x s t ks) {k : Int} (n : Int) (hk : inTop k) (hn : x.blocks.length ≤ 1048576) : Calls Tryz.prog 79 #[.pointer (some ⟨g, 13, none⟩), .int .i64 k, .int .i64 n] W fun e W' => e = .returned (.tuple #[]) ∧ LogSit w W' g d (changeL x k n) s t ks := by
 obtain ⟨c, mb, v, os, h⟩ := h
 by_cases hl : x.last k = none
 ·exact h.changeNew hk hl hn
 ·exact h.changeOld hk hl
theorem LogSit.c18 (h : LogSit w W g d x s t ks) : W.cell? ⟨g, 18, none⟩ = some (.int .i64 x.steps) := by
 obtain ⟨c, mb, v, os, h⟩ := h
 exact h.log.c18
set_option maxRecDepth 20000 in
set_option maxHeartbeats 1600000 in
theorem writeL_first (h : LogSit w W g d x s t ks) {k : Int} {f : Nat → Int} (hf : Can f) (hr : refL x t true = 0) (hk : 1 + x.l ≤ k ∧ k < x.b) (hl : 32 ≤ x.l) (hb : x.b ≤ 1048576) (hby : byB x k x.steps = false) (hu : usedE s t k = 0) (hrm : 1 ≤ x.room ∧ x.room ≤ 256) (hn : x.blocks.length ≤ 1048576) :
  Calls Tryz.prog 20 #[ptr g, .int .i64 k, .agg (blk f)] W fun e W' => e = .returned (.int .i64 0) ∧ LogSit w W' g d { changeL x k x.steps with room := x.room - 1 } (putC s t k f) t ks := by
 have hc := wr1 (f := f) h hr hk hl hb
 rw [hby] at hc
 have hk1 : ¬ k < 1 := by omega
 have hk2 : ¬ x.b ≤ k := by omega
 have hz : ¬ x.room = 0 := by omega
 have HP : Hid (∀ W', LogSit w W' g d { changeL x k x.steps with room := x.room - 1 } s t ((W.heap.size, .cells (blk f) 64) :: ks) → BlkAt W' W.heap.size 0 f ∧ ∃ c, W'.cell? ⟨g, 12, none⟩ = some (ptr c) ∧ Calls Tryz.prog 80 #[ptr c, .int .i64 k, .agg (blk f)] W'.drew fun e W'' => e = .returned (.int .i64 0) ∧ LogSit w W'' g d { changeL x k x.steps with room := x.room - 1 } (putC s t k f) t ks) := fun W' h1 => by
  refine ⟨BlkAt.of (h1.obj (List.mem_cons_self ..)), ?_⟩
  obtain ⟨c, hc, h2⟩ := h1.drew.put k hf
  exact ⟨c, by simpa using hc, h2.mono fun e W'' ⟨a1, a2⟩ => ⟨by rw [a1, hu], a2.drop fun p hp => List.mem_cons_of_mem _ hp⟩⟩
 have HC : Hid (∀ W', LogSit w W' g d x s t ((W.heap.size, .cells (blk f) 64) :: ks) → (W'.setCell ⟨g, 16, none⟩ (.int .i64 (x.room - 1))).cell? ⟨g, 18, none⟩ = some (.int .i64 x.steps) ∧ Calls Tryz.prog 79 #[.pointer (some ⟨g, 13, none⟩), .int .i64 k, .int .i64 x.steps] (W'.setCell ⟨g, 16, none⟩ (.int .i64 (x.room - 1))).drew fun e W'' => e = .returned (.tuple #[]) ∧ LogSit w W'' g d { changeL x k x.steps with room := x.room - 1 } s t ((W.heap.size, .cells (blk f) 64) :: ks)) := fun W' h1 => by
  have h2 := h1.setRoom (x.room - 1)
  exact ⟨h2.c18, h2.drew.change x.steps ⟨by omega, by omega⟩ hn⟩
 clear h hr
 unfold ptr at hc ⊢
 generalize hF : blk f = F at hc ⊢
 go_enter Tryz.func20, Tryz.ntmps20
 go_wp2_with (go_at_call 74; fail)
 refine hc.mono ?_
 rintro e W1 ⟨rfl, c3, c16, f16, c18, ofl, byl, HL⟩
 subst hF
 unfold ptr at ofl
 go_wp2_with (first | (go_at_call 77; refine ofl.mono ?_; rintro e W2 ⟨rfl, rfl⟩))
 go_quiet (first | (go_at_call 78; refine Calls.quiet_of_same (byl _)))
 go_wp2
 have HC2 := HC.out (W2.drewN nq) (HL.out.later (below_drewN _ _))
 clear HC HL byl ofl hc c16 f16 c18 c3
 generalize (W2.drewN nq).setCell ⟨g, 16, none⟩ (.int .i64 (x.room - 1)) = W3 at HC2 ⊢
 obtain ⟨c18, hch⟩ := HC2
 have HCh := Hid.mk' hch
 clear hch
 go_still_tail 8, (by kernel_rfl)
 change wpList _ _ _ _ _ (World.drew _)
 go_wp2_with (go_at_call 79; fail)
 refine HCh.out.mono ?_
 rintro e W4 ⟨rfl, h4⟩
 obtain ⟨hB, c', c12, hput⟩ := HP.out W4 h4
 unfold ptr at c12 hput
 have HB := Hid.mk' hB
 have HPut := Hid.mk' hput
 clear HP h4 HCh c18 hB hput
 go_wp2
 go_still_tail 6, (by kernel_rfl)
 refine wpStill_loadM rfl (.tmp 5) rfl W.heap.size 0 rfl f HB.out ?_
 repeat still_step
 refine wpStill_nil ?_
 change wpList _ _ _ _ _ (World.drew _)
 go_wp2_with (go_at_call 80; fail)
 refine HPut.out.mono ?_
 rintro e W5 ⟨rfl, h5⟩
 have H5 := Hid.mk' h5
 clear h5 HPut HB
 go_wp2
 go_ret
 exact ⟨rfl, H5.out⟩
theorem LogI.write (h : LogI w W g d x t book ks) {k : Int} {f : Nat → Int} (hf : Can f) (hr : refL x t true = 0) (hk : 1 + x.l ≤ k ∧ k < x.b) (hby : byB x k x.steps = false) (hz : x.room ≠ 0) :
  Calls Tryz.prog 20 #[ptr g, .int .i64 k, .agg (blk f)] W fun e W' => e = .returned (.int .i64 0) ∧ LogI w W' g d { changeL x k x.steps with room := x.room - 1 } t (fun j => if j = k then f else book j) ks := by
 obtain ⟨s, h1, h2⟩ := h
 have hs := claimed_live (refL_live hr).1
 have hlen := h2.len
 have hrm := h2.room
 have hfi := h2.fine
 refine (writeL_first h1 hf hr hk hfi.1 hfi.2.2.2.2.1 hby (h2.used hs (h2.dat hk)) ⟨by omega, by omega⟩ (by have := hfi.2.1; omega)).mono ?_
 rintro e W' ⟨rfl, h3⟩
 refine ⟨rfl, _, h3, h2.change hs hk (fun _ => ?_) ⟨by omega, by omega⟩ h3.ok.1⟩
 have := h2.more (refL_live hr).2
 omega
theorem change_same (x : LSt) (k : Int) (h : byB x k x.steps = true) : { changeL x k x.steps with room := x.room } = x := by
 unfold byB at h
 have hl : x.last k = some x.steps := by simpa using h
 unfold changeL
 have h2 : (fun y => if y = k then some x.steps else x.last y) = x.last := by
  funext y
  by_cases e : y = k
  ·rw [if_pos e, e, hl]
  ·rw [if_neg e]
 simp only [h2]
 rw [if_neg (by rw [hl]; simp)]
theorem LogI.rewrite (h : LogI w W g d x t book ks) {k : Int} {f : Nat → Int} (hf : Can f) (hr : refL x t true = 0) (hk : 1 + x.l ≤ k ∧ k < x.b) (hby : byB x k x.steps = true) :
  Calls Tryz.prog 20 #[ptr g, .int .i64 k, .agg (blk f)] W fun e W' => e = .returned (.int .i64 0) ∧ LogI w W' g d x t (fun j => if j = k then f else book j) ks := by
 obtain ⟨s, h1, h2⟩ := h
 have hs := claimed_live (refL_live hr).1
 have hfi := h2.fine
 refine (writeL_again h1 hf hr hk hfi.1 hfi.2.2.2.2.1 hby (h2.used hs (h2.dat hk))).mono ?_
 rintro e W' ⟨rfl, h3⟩
 have h4 := h2.change (n := x.steps) (r := x.room) hs hk (fun hn => by
  have : x.last k = some x.steps := by unfold byB at hby; simpa using hby
  rw [(h2.last k).2 hn] at this
  cases this) ⟨h2.room.1, Int.le_refl _⟩ h3.ok.1
 rw [change_same x k hby] at h4
 exact ⟨rfl, _, h3, h4⟩
end Go.Proofs.YtichojdcoegboaaGreatW
