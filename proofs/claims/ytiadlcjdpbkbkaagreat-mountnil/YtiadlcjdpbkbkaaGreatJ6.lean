/- Several texts joined, each with its own remark; no condition. -/
import Derived.Test.YtiadlcjdpbkbkaaGreatJ4
import Derived.Test.YtiadlcjdpbkbkaaGreatJ5
import Derived.Defers
/- A log in memory, beside its cache and its disk: its row of nineteen cells, the list of its group, the map of last steps; how it stays, how it turns; no condition. -/
namespace Go.Proofs.YtiadlcjdpbkbkaaGreatD
open Go.RowKit Go.Maps

/-- What a log stands for. -/
structure LSt where
  b : Int
  l : Int
  i : Int
  claim : Int
  blocks : List Int
  last : Int → Option Int
  opn : Bool
  room : Int
  commits : Int
  steps : Int
def layA (b l i : Int) : Array Value := H.lay9 b l i 1 (1 + l) (H.nodeB i) (H.bitsAt l i) (H.bitsB b) (H.dataAt b l i)
def lgRow (g d c mb : Nat) (v : Value) (x : LSt) : Array Value :=
  #[ptr g, ptr d, .int .i64 x.claim, .int .i64 x.b, .int .i64 x.l, .int .i64 x.i, .int .i64 1, .int .i64 (1 + x.l), .int .i64 (H.nodeB x.i), .int .i64 (H.bitsAt x.l x.i), .int .i64 (H.bitsB x.b), .int .i64 (H.dataAt x.b x.l x.i), ptr c, v, .map (some mb), .bool x.opn, .int .i64 x.room, .int .i64 x.commits, .int .i64 x.steps]
def lastM (x : LSt) : Int → Option Value := fun k => (x.last k).map (Value.int .i64)
def LHas (g mb : Nat) (v : Value) (k : Nat) : Prop := k = g ∨ k = mb ∨ v.ownBlock = some k
/-- The log's own blocks. -/
structure LogAt (W : World) (base : Nat) (g d c mb : Nat) (v : Value) (x : LSt) : Prop where
  row : W.heap[g]? = some (.cells (lgRow g d c mb v x) 85)
  map : MapIs Tryz.prog 3 W mb (lastM x)
  own : H.OwnZ W base v x.blocks
variable {w W : World} {g d c mb : Nat} {v : Value} {x : LSt} {s : CSt} {t : St} {ks : List (Nat × Obj)} {base : Nat}
theorem LogAt.lt (h : LogAt W base g d c mb v x) (k : Nat) (hk : LHas g mb v k) : k < W.heap.size := by
  rcases hk with rfl | rfl | hk
  · exact (Array.getElem?_eq_some_iff.1 h.row).1
  · exact h.map.lt
  · exact (World.ownsRow.lt h.own k hk).2
theorem LogAt.kept {W' : World} (h : LogAt W base g d c mb v x) (hb : ∀ k, LHas g mb v k → W'.heap[k]? = W.heap[k]?) : LogAt W' base g d c mb v x :=
  ⟨(hb _ (.inl rfl)).trans h.row, h.map.kept (hb _ (.inr (.inl rfl))), ownsRow_kept0 h.own fun k hk => hb k (.inr (.inr hk))⟩
theorem LogAt.cell (h : LogAt W base g d c mb v x) (i : Nat) : W.cell? ⟨g, i, none⟩ = (lgRow g d c mb v x)[i]? := Joins.cell_of_block h.row i
theorem LogAt.gm (h : LogAt W base g d c mb v x) : g ≠ mb := by
  intro e
  have h1 := h.row
  obtain ⟨es, cl, h2⟩ := h.map.isMap
  rw [e, h2] at h1
  cases h1
theorem LogAt.gv (h : LogAt W base g d c mb v x) : v.ownBlock ≠ some g := by
  intro e
  have h1 := h.row
  rcases h.own.2 with q | ⟨g', cap, cur, rfl, hB, hg, rest⟩
  · rw [q.1] at e; cases e
  · cases e
    rw [hg] at h1
    injection h1 with h1
    injection h1 with _ h1
    cases h1
theorem LogAt.mv (h : LogAt W base g d c mb v x) : v.ownBlock ≠ some mb := by
  intro e
  obtain ⟨es, cl, h1⟩ := h.map.isMap
  rcases h.own.2 with q | ⟨g', cap, cur, rfl, hB, hg, rest⟩
  · rw [q.1] at e; cases e
  · cases e
    rw [hg] at h1
    cases h1
theorem Sit.turn {W' : World} {ks' : List (Nat × Obj)} {T : Nat → Prop} (h : Sit w W c d s t ks) (hf : Fr T W W') (hT : ∀ k, T k → w.heap.size ≤ k ∧ ∃ o, (k, o) ∈ ks)
    (hks : ∀ p ∈ ks', W'.heap[p.1]? = some p.2 ∧ ((∃ o, (p.1, o) ∈ ks) ∨ W.heap.size ≤ p.1)) : Sit w W' c d s t ks' := by
  obtain ⟨K, L, hc, hd, h⟩ := h
  have hTK : ∀ k, K.has k → ¬ T k := fun k hk q => by
    obtain ⟨o, ho⟩ := (hT k q).2
    exact (h.keep _ ho).2.1 hk
  have hTL : ∀ k, L.has k → ¬ T k := fun k hk q => by
    obtain ⟨o, ho⟩ := (hT k q).2
    exact (h.keep _ ho).2.2 hk
  refine ⟨K, L, hc, hd, ⟨h.cd.cache.fr hf hTK, h.cd.disk.fr hf hTL, h.cd.d, h.cd.apart⟩, h.newK, h.newL, h.below.trans (hf.below (fun i q => (hT i q).1) h.below.size), fun p hp => ?_⟩
  obtain ⟨h1, h2⟩ := hks p hp
  refine ⟨h1, fun q => ?_, fun q => ?_⟩
  · rcases h2 with ⟨o, ho⟩ | h2
    · exact (h.keep _ ho).2.1 q
    · have := h.cd.cache.lt _ q; omega
  · rcases h2 with ⟨o, ho⟩ | h2
    · exact (h.keep _ ho).2.2 q
    · have := h.cd.disk.lt _ q; omega
/-- In W, which has come of w, the log at g over the disk at d stands for x, its cache for s, the disk for t; the blocks of ks stay. -/
structure LS (w W : World) (g d c mb : Nat) (v : Value) (x : LSt) (s : CSt) (t : St) (os ks : List (Nat × Obj)) : Prop where
  sit : Sit w W c d s t (os ++ ks)
  log : LogAt W w.heap.size g d c mb v x
  own : ∀ k, LHas g mb v k → w.heap.size ≤ k ∧ ∃ o, (k, o) ∈ os
  ap : ∀ p ∈ ks, ¬ LHas g mb v p.1
def LogSit (w W : World) (g d : Nat) (x : LSt) (s : CSt) (t : St) (ks : List (Nat × Obj)) : Prop := ∃ c mb v os, LS w W g d c mb v x s t os ks
variable {os : List (Nat × Obj)}
/-- The cache or the disk has turned. -/
theorem LS.step {W' : World} {s' : CSt} {t' : St} (h : LS w W g d c mb v x s t os ks) (hs : Sit w W' c d s' t' (os ++ ks)) : LS w W' g d c mb v x s' t' os ks := by
  refine ⟨hs, h.log.kept fun k hk => ?_, h.own, h.ap⟩
  obtain ⟨_, o, ho⟩ := h.own k hk
  rw [hs.blk (List.mem_append.2 (.inl ho)), h.sit.blk (List.mem_append.2 (.inl ho))]
theorem LS.later {W' : World} (h : LS w W g d c mb v x s t os ks) (hb : Below W.heap.size W W') : LS w W' g d c mb v x s t os ks := h.step (h.sit.later hb)
/-- The log itself has turned. -/
theorem LS.turn {W' : World} {mb' : Nat} {v' : Value} {x' : LSt} {T : Nat → Prop} (h : LS w W g d c mb v x s t os ks) (hf : Fr T W W') (hT : ∀ k, T k → LHas g mb v k)
    (hl : LogAt W' w.heap.size g d c mb' v' x') (hn : ∀ k, LHas g mb' v' k → LHas g mb v k ∨ W.heap.size ≤ k) : LogSit w W' g d x' s t ks := by
  have hobj : ∀ k, LHas g mb' v' k → ∃ o, W'.heap[k]? = some o := fun k hk => by
    have := hl.lt k hk
    exact ⟨W'.heap[k], Array.getElem?_eq_getElem this⟩
  have hbase := h.sit.below.size
  have hown : ∀ k, LHas g mb' v' k → w.heap.size ≤ k ∧ ((∃ o, (k, o) ∈ os ++ ks) ∨ W.heap.size ≤ k) := fun k hk => by
    rcases hn k hk with q | q
    · obtain ⟨h1, o, ho⟩ := h.own k q
      exact ⟨h1, .inl ⟨o, List.mem_append.2 (.inl ho)⟩⟩
    · exact ⟨by omega, .inr q⟩
  obtain ⟨og, hog⟩ := hobj g (.inl rfl)
  obtain ⟨om, hom⟩ := hobj mb' (.inr (.inl rfl))
  have hks : ∀ p ∈ ks, W'.heap[p.1]? = some p.2 ∧ ((∃ o, (p.1, o) ∈ os ++ ks) ∨ W.heap.size ≤ p.1) ∧ ¬ LHas g mb' v' p.1 := fun p hp => by
    have h1 := h.sit.blk (List.mem_append.2 (.inr hp) : (p.1, p.2) ∈ os ++ ks)
    have hlt := (Array.getElem?_eq_some_iff.1 h1).1
    refine ⟨(hf.block p.1 hlt fun q => h.ap p hp (hT _ q)).trans h1, .inl ⟨p.2, List.mem_append.2 (.inr hp)⟩, fun q => ?_⟩
    rcases hn _ q with q | q
    · exact h.ap p hp q
    · omega
  have hTo : ∀ k, T k → w.heap.size ≤ k ∧ ∃ o, (k, o) ∈ os ++ ks := fun k hk => by
    obtain ⟨h1, o, ho⟩ := h.own k (hT k hk)
    exact ⟨h1, o, List.mem_append.2 (.inl ho)⟩
  cases hv : v'.ownBlock with
  | none =>
    refine ⟨c, mb', v', [(g, og), (mb', om)], h.sit.turn hf hTo fun p hp => ?_, hl, fun k hk => ⟨(hown k hk).1, ?_⟩, fun p hp => (hks p hp).2.2⟩
    · rcases List.mem_append.1 hp with hp | hp
      · simp only [List.mem_cons, List.not_mem_nil, or_false] at hp
        rcases hp with rfl | rfl
        · exact ⟨hog, (hown g (.inl rfl)).2⟩
        · exact ⟨hom, (hown mb' (.inr (.inl rfl))).2⟩
      · exact ⟨(hks p hp).1, (hks p hp).2.1⟩
    · rcases hk with rfl | rfl | hk
      · exact ⟨og, by simp⟩
      · exact ⟨om, by simp⟩
      · rw [hv] at hk; cases hk
  | some q =>
    obtain ⟨oq, hoq⟩ := hobj q (.inr (.inr hv))
    refine ⟨c, mb', v', [(g, og), (mb', om), (q, oq)], h.sit.turn hf hTo fun p hp => ?_, hl, fun k hk => ⟨(hown k hk).1, ?_⟩, fun p hp => (hks p hp).2.2⟩
    · rcases List.mem_append.1 hp with hp | hp
      · simp only [List.mem_cons, List.not_mem_nil, or_false] at hp
        rcases hp with rfl | rfl | rfl
        · exact ⟨hog, (hown g (.inl rfl)).2⟩
        · exact ⟨hom, (hown mb' (.inr (.inl rfl))).2⟩
        · exact ⟨hoq, (hown _ (.inr (.inr hv))).2⟩
      · exact ⟨(hks p hp).1, (hks p hp).2.1⟩
    · rcases hk with rfl | rfl | hk
      · exact ⟨og, by simp⟩
      · exact ⟨om, by simp⟩
      · rw [hv] at hk; cases hk; exact ⟨oq, by simp⟩
/-- A cell of the log's row is written. -/
theorem LogAt.setCell {x' : LSt} (h : LogAt W base g d c mb v x) (i : Nat) (u : Value) (hr : (lgRow g d c mb v x).setIfInBounds i u = lgRow g d c mb v x') (hb : x'.blocks = x.blocks) (hl : x'.last = x.last) : LogAt (W.setCell ⟨g, i, none⟩ u) base g d c mb v x' := by
  have hf := Fr.setCell W g i u
  refine ⟨?_, ?_, ?_⟩
  · rw [← hr]
    exact Joins.block_setCell h.row u
  · unfold lastM
    rw [hl]
    exact h.map.kept (hf.block mb h.map.lt fun q => h.gm q.symm)
  · rw [hb]
    exact ownsRow_kept0 h.own fun k hk => hf.block k (World.ownsRow.lt h.own k hk).2 fun q => h.gv (by rw [← q]; exact hk)
theorem LS.setCell {x' : LSt} (h : LS w W g d c mb v x s t os ks) (i : Nat) (u : Value) (hr : (lgRow g d c mb v x).setIfInBounds i u = lgRow g d c mb v x') (hb : x'.blocks = x.blocks) (hl : x'.last = x.last) : LogSit w (W.setCell ⟨g, i, none⟩ u) g d x' s t ks :=
  h.turn (Fr.setCell W g i u) (fun _ hk => .inl hk) (h.log.setCell i u hr hb hl) fun _ hk => .inl hk
end Go.Proofs.YtiadlcjdpbkbkaaGreatD
/- What a log tells of itself, and whom it refuses; no condition. -/
namespace Go.Proofs.YtiadlcjdpbkbkaaGreatD
open Go.RowKit Go.Maps
variable {w W : World} {g d c mb : Nat} {v : Value} {x : LSt} {s : CSt} {t : St} {os ks : List (Nat × Obj)} {base : Nat}

theorem LogAt.c0 (h : LogAt W base g d c mb v x) : W.cell? ⟨g, 0, none⟩ = some (ptr g) := h.cell 0
theorem LogAt.c1 (h : LogAt W base g d c mb v x) : W.cell? ⟨g, 1, none⟩ = some (ptr d) := h.cell 1
theorem LogAt.c2 (h : LogAt W base g d c mb v x) : W.cell? ⟨g, 2, none⟩ = some (.int .i64 x.claim) := h.cell 2
theorem LogAt.c3 (h : LogAt W base g d c mb v x) : W.cell? ⟨g, 3, none⟩ = some (.int .i64 x.b) := h.cell 3
theorem LogAt.c4 (h : LogAt W base g d c mb v x) : W.cell? ⟨g, 4, none⟩ = some (.int .i64 x.l) := h.cell 4
theorem LogAt.c6 (h : LogAt W base g d c mb v x) : W.cell? ⟨g, 6, none⟩ = some (.int .i64 1) := h.cell 6
theorem LogAt.c7 (h : LogAt W base g d c mb v x) : W.cell? ⟨g, 7, none⟩ = some (.int .i64 (1 + x.l)) := h.cell 7
theorem LogAt.c12 (h : LogAt W base g d c mb v x) : W.cell? ⟨g, 12, none⟩ = some (ptr c) := h.cell 12
theorem LogAt.c13 (h : LogAt W base g d c mb v x) : W.cell? ⟨g, 13, none⟩ = some v := h.cell 13
theorem LogAt.c14 (h : LogAt W base g d c mb v x) : W.cell? ⟨g, 14, none⟩ = some (.map (some mb)) := h.cell 14
theorem LogAt.c15 (h : LogAt W base g d c mb v x) : W.cell? ⟨g, 15, none⟩ = some (.bool x.opn) := h.cell 15
theorem LogAt.c16 (h : LogAt W base g d c mb v x) : W.cell? ⟨g, 16, none⟩ = some (.int .i64 x.room) := h.cell 16
theorem LogAt.c17 (h : LogAt W base g d c mb v x) : W.cell? ⟨g, 17, none⟩ = some (.int .i64 x.commits) := h.cell 17
theorem LogAt.c18 (h : LogAt W base g d c mb v x) : W.cell? ⟨g, 18, none⟩ = some (.int .i64 x.steps) := h.cell 18
theorem LogAt.free (h : LogAt W base g d c mb v x) (i : Nat) : W.frozen? ⟨g, i, none⟩ = false := Joins.unfrozen_of_block h.row i
theorem LogAt.later {W' : World} (h : LogAt W base g d c mb v x) (hb : Below W.heap.size W W') : LogAt W' base g d c mb v x := h.kept fun k hk => hb.block k (h.lt k hk)
theorem info48 : ∃ j, Tryz.prog.info? 85 = some j := Option.isSome_iff_exists.1 (by kernel_rfl)
theorem neq26 (w : World) (a : Addr) : (binOp .neq 35 (.pointer (some a)) (.pointer (some a))).run Tryz.prog w = .ok (.bool false) w := by
  obtain ⟨j, hj⟩ := info48
  exact neq_same w a Tryz.underlying35 hj
theorem neq26n (w : World) (a : Addr) : (binOp .neq 35 (.pointer none) (.pointer (some a))).run Tryz.prog w = .ok (.bool true) w := neq_nil w a Tryz.underlying35
/-- What Check tells. -/
def chkE (x : LSt) (t : St) : Int := if claimedV t x.claim then 0 else 3
theorem sit_claimed (h : Sit w W c d s t ks) (k : Int) : Calls Tryz.prog 43 #[ptr d, .int .i64 k] W fun e W' => e = .returned (.bool (claimedV t k)) ∧ W' = W := by
  obtain ⟨K, L, rfl, rfl, h⟩ := h
  exact claimed_of h.cd.disk k
theorem below_drewN (W : World) (n : Nat) : Below W.heap.size W (W.drewN n) := H.belowN (Below.refl _ _) n
theorem check_none {v : Value} (h : NoneAt W v) : Calls Tryz.prog 20 #[v] W fun e W' => e = .returned (.int .i64 1) ∧ W' = W := by
  have hn := neq26n
  rcases h with rfl | ⟨g, rfl, c0⟩
  · go_enter Tryz.func20, Tryz.ntmps20
    go_wp2
    go_ret
    exact ⟨rfl, rfl⟩
  · go_enter Tryz.func20, Tryz.ntmps20
    go_wp2
    go_ret
    exact ⟨rfl, rfl⟩
theorem LS.check (h : LS w W g d c mb v x s t os ks) : Calls Tryz.prog 20 #[ptr g] W fun e W' => e = .returned (.int .i64 (chkE x t)) ∧ ∃ m, W' = W.drewN m := by
  have hn := neq26
  have hq : ∀ n, Calls Tryz.prog 43 #[ptr d, .int .i64 x.claim] (W.drewN n) fun e W' => e = .returned (.bool (claimedV t x.claim)) ∧ W' = W.drewN n := fun n => sit_claimed (h.sit.later (below_drewN W n)) _
  have c0 := h.log.c0
  have c1 := h.log.c1
  have c2 := h.log.c2
  clear h
  unfold ptr at *
  unfold chkE
  cases hc : claimedV t x.claim
  · rw [hc] at hq
    go_enter Tryz.func20, Tryz.ntmps20
    go_wp2
    go_quiet (first | (go_at_call 43; refine Calls.quiet_of_same (hq _)))
    go_wp2
    go_ret
    exact ⟨rfl, _, rfl⟩
  · rw [hc] at hq
    go_enter Tryz.func20, Tryz.ntmps20
    go_wp2
    go_quiet (first | (go_at_call 43; refine Calls.quiet_of_same (hq _)))
    go_wp2
    go_ret
    exact ⟨rfl, _, rfl⟩
/-- Why nothing may be done that wants a step to be open, or none to be. -/
def refL (x : LSt) (t : St) (o : Bool) : Int := if claimedV t x.claim then (if x.opn = o then 0 else 180) else 3
theorem refusesL_none {v : Value} (h : NoneAt W v) (o : Bool) : Calls Tryz.prog 40 #[v, .bool o] W fun e W' => e = .returned (.int .i64 1) ∧ W' = W := by
  have h0 := check_none h
  go_enter Tryz.func40, Tryz.ntmps40
  go_wp2_with (first | (go_at_call 20; refine h0.mono ?_; rintro e W ⟨rfl, rfl⟩))
  go_ret
  exact ⟨rfl, rfl⟩
theorem LS.refuses (h : LS w W g d c mb v x s t os ks) (o : Bool) : Calls Tryz.prog 40 #[ptr g, .bool o] W fun e W' => e = .returned (.int .i64 (refL x t o)) ∧ ∃ m, W' = W.drewN m := by
  have h0 := h.check
  have c15 : ∀ m, (W.drewN m).cell? ⟨g, 15, none⟩ = some (.bool x.opn) := fun m => (h.log.later (below_drewN W m)).c15
  clear h
  unfold ptr at *
  unfold chkE at h0
  unfold refL
  cases hc : claimedV t x.claim
  · rw [hc] at h0
    go_enter Tryz.func40, Tryz.ntmps40
    go_wp2_with (first | (go_at_call 20; refine h0.mono ?_; rintro e W1 ⟨rfl, m, rfl⟩))
    go_ret
    exact ⟨rfl, _, rfl⟩
  · rw [hc] at h0
    by_cases ho : x.opn = o
    · subst ho
      rw [if_pos rfl, if_pos rfl]
      cases hx : x.opn
      · rw [hx] at c15
        go_enter Tryz.func40, Tryz.ntmps40
        go_wp2_with (first | (go_at_call 20; refine h0.mono ?_; rintro e W1 ⟨rfl, m, rfl⟩; have c15 := c15 m))
        go_ret
        exact ⟨rfl, _, rfl⟩
      · rw [hx] at c15
        go_enter Tryz.func40, Tryz.ntmps40
        go_wp2_with (first | (go_at_call 20; refine h0.mono ?_; rintro e W1 ⟨rfl, m, rfl⟩; have c15 := c15 m))
        go_ret
        exact ⟨rfl, _, rfl⟩
    · rw [if_pos rfl, if_neg ho]
      cases hx : x.opn <;> cases o
      · exact absurd hx ho
      · rw [hx] at c15
        go_enter Tryz.func40, Tryz.ntmps40
        go_wp2_with (first | (go_at_call 20; refine h0.mono ?_; rintro e W1 ⟨rfl, m, rfl⟩; have c15 := c15 m))
        go_ret
        exact ⟨rfl, _, rfl⟩
      · rw [hx] at c15
        go_enter Tryz.func40, Tryz.ntmps40
        go_wp2_with (first | (go_at_call 20; refine h0.mono ?_; rintro e W1 ⟨rfl, m, rfl⟩; have c15 := c15 m))
        go_ret
        exact ⟨rfl, _, rfl⟩
      · exact absurd hx ho
theorem LS.most (h : LS w W g d c mb v x s t os ks) (hl : 32 ≤ x.l ∧ x.l ≤ 256) : Calls Tryz.prog 41 #[ptr g] W fun e W' => e = .returned (.int .i64 (x.l - 1)) ∧ W' = W := by
  have c4 := h.log.c4
  clear h
  unfold ptr at *
  have hw : (x.l - 1 + 9223372036854775808) % 18446744073709551616 - 9223372036854775808 = x.l - 1 := by omega
  go_enter Tryz.func41, Tryz.ntmps41
  go_wp2
  go_ret
  exact ⟨by first | rfl | simp [hw], rfl⟩
def ofL (x : LSt) (k : Int) : Bool := decide (1 ≤ k ∧ k < 1 + x.l)
theorem LS.ofLog (h : LS w W g d c mb v x s t os ks) (k : Int) : Calls Tryz.prog 128 #[ptr g, .int .i64 k] W fun e W' => e = .returned (.bool (ofL x k)) ∧ W' = W := by
  have c6 := h.log.c6
  have c7 := h.log.c7
  clear h
  unfold ptr at *
  unfold ofL
  by_cases h1 : 1 ≤ k
  · by_cases h2 : k < 1 + x.l
    · rw [decide_eq_true ⟨h1, h2⟩]
      go_enter Tryz.func128, Tryz.ntmps128
      go_wp2
      go_ret
      exact ⟨rfl, rfl⟩
    · rw [decide_eq_false fun q => h2 q.2]
      go_enter Tryz.func128, Tryz.ntmps128
      go_wp2
      go_ret
      exact ⟨rfl, rfl⟩
  · rw [decide_eq_false fun q => h1 q.1]
    go_enter Tryz.func128, Tryz.ntmps128
    go_wp2
    go_ret
    exact ⟨rfl, rfl⟩
end Go.Proofs.YtiadlcjdpbkbkaaGreatD
/- A group is forgotten, by a call and by a call that was deferred; no condition. -/
namespace Go.Proofs.YtiadlcjdpbkbkaaGreatD
open Go.RowKit Go.Maps
variable {w W : World} {g d c mb : Nat} {v : Value} {x : LSt} {s : CSt} {t : St} {os ks : List (Nat × Obj)} {base : Nat}
theorem makeMap38 (w : World) : (Instr.makeMap 57 none).run Tryz.prog w = .ok (.map (some w.heap.size)) (w.alloc (.map #[] 0)) := by
  simp [Instr.makeMap, go_sem]
def forgotW (W : World) (g : Nat) : World := ((W.setCell ⟨g, 13, none⟩ (.slice none 0 0)).setCell ⟨g, 14, none⟩ (.map (some W.heap.size))).alloc (.map #[] 0)
theorem forget_raw {cs : Array Value} (h : W.heap[g]? = some (.cells cs 85)) (hs : cs.size = 19) : Calls Tryz.prog 63 #[.pointer (some ⟨g, 13, none⟩)] W fun e W' => e = .returned (.tuple #[]) ∧ W' = forgotW W g := by
  have c13 : W.cell? ⟨g, 13, none⟩ = some cs[13] := by rw [Joins.cell_of_block h 13]; simp
  have c14 : W.cell? ⟨g, 14, none⟩ = some cs[14] := by rw [Joins.cell_of_block h 14]; simp
  have f13 := Joins.unfrozen_of_block h 13
  have f14 := Joins.unfrozen_of_block h 14
  have hm := makeMap38 W
  have hlt := (Array.getElem?_eq_some_iff.1 h).1
  clear h
  go_enter Tryz.func63, Tryz.ntmps63
  go_wp2
  go_end0
  exact ⟨rfl, rfl⟩
theorem forget_rawD {cs : Array Value} (h : W.heap[g]? = some (.cells cs 85)) (hs : cs.size = 19) (u : FrameMode) : CallsD Tryz.prog 63 #[.pointer (some ⟨g, 13, none⟩)] u W fun e u' W' => u' = u ∧ (e = .returned (.tuple #[]) ∧ W' = forgotW W g) := by
  have c13 : W.cell? ⟨g, 13, none⟩ = some cs[13] := by rw [Joins.cell_of_block h 13]; simp
  have c14 : W.cell? ⟨g, 14, none⟩ = some cs[14] := by rw [Joins.cell_of_block h 14]; simp
  have f13 := Joins.unfrozen_of_block h 13
  have f14 := Joins.unfrozen_of_block h 14
  have hm := makeMap38 W
  have hlt := (Array.getElem?_eq_some_iff.1 h).1
  clear h
  go_enter_d Tryz.func63, Tryz.ntmps63
  go_wp2
  go_end0
  exact ⟨rfl, rfl⟩
def forgotL (x : LSt) : LSt := { x with blocks := [], last := fun _ => none }
theorem LS.forgot (h : LS w W g d c mb v x s t os ks) : LogSit w (forgotW W g) g d (forgotL x) s t ks := by
  have hlt := h.log.lt g (.inl rfl)
  have hb : (((W.setCell ⟨g, 13, none⟩ (.slice none 0 0)).setCell ⟨g, 14, none⟩ (.map (some W.heap.size)))).heap.size = W.heap.size := by simp
  have hrow : (((W.setCell ⟨g, 13, none⟩ (.slice none 0 0)).setCell ⟨g, 14, none⟩ (.map (some W.heap.size)))).heap[g]? = some (.cells (lgRow g d c W.heap.size (.slice none 0 0) (forgotL x)) 85) := by
    have h1 := Joins.block_setCell (i := 13) h.log.row (.slice none 0 0)
    exact Joins.block_setCell (i := 14) h1 (.map (some W.heap.size))
  refine h.turn (mb' := W.heap.size) (v' := .slice none 0 0) (T := fun k => k = g) ?_ (fun k hk => .inl hk) ⟨?_, ?_, ?_⟩ fun k hk => ?_
  · exact ((Fr.setCell W g 13 _).trans (Fr.setCell _ g 14 _) fun _ _ q => q).trans (Fr.alloc (fun _ => False) _ _) fun _ _ q => q.elim
  · first | exact (heap_alloc_old _ (.map #[] 0) _ (Nat.lt_of_lt_of_eq hlt hb.symm)).trans hrow | exact (heap_alloc_old _ (.map #[] 0) (Nat.lt_of_lt_of_eq hlt hb.symm)).trans hrow
  · have h1 := MapIs.made (P := Tryz.prog) (k := 3) ((W.setCell ⟨g, 13, none⟩ (.slice none 0 0)).setCell ⟨g, 14, none⟩ (.map (some W.heap.size)))
    rw [hb] at h1
    exact h1
  · exact H.OwnZ.nil _ _
  · rcases hk with rfl | rfl | hk
    · exact .inl (.inl rfl)
    · exact .inr (Nat.le_refl _)
    · cases hk
theorem LS.forget (h : LS w W g d c mb v x s t os ks) : Calls Tryz.prog 63 #[.pointer (some ⟨g, 13, none⟩)] W fun e W' => e = .returned (.tuple #[]) ∧ LogSit w W' g d (forgotL x) s t ks :=
  (forget_raw h.log.row rfl).mono fun _ _ ⟨h1, h2⟩ => ⟨h1, h2 ▸ h.forgot⟩
end Go.Proofs.YtiadlcjdpbkbkaaGreatD
/- A block is changed by a step, and whether it was; blocks have numbers below 2 to the 20th, and there are at most as many. -/
namespace Go.Proofs.YtiadlcjdpbkbkaaGreatD
open Go.RowKit Go.Maps
variable {w W : World} {g d c mb : Nat} {v : Value} {x : LSt} {s : CSt} {t : St} {os ks : List (Nat × Obj)} {base : Nat}
def byB (x : LSt) (k n : Int) : Bool := x.last k == some n
theorem z3i (w : World) : (zeroValue 3).run Tryz.prog w = .ok (.int .i64 0) w := zero3 w
theorem LS.changedBy (h : LS w W g d c mb v x s t os ks) {k n : Int} (hk : inTop k) : Calls Tryz.prog 148 #[.pointer (some ⟨g, 13, none⟩), .int .i64 k, .int .i64 n] W fun e W' => e = .returned (.bool (byB x k n)) ∧ W' = W := by
  have c14 := h.log.c14
  have hM := h.log.map
  have z3 := z3i
  have hW := hk.wf
  clear h hk
  unfold byB
  cases hl : x.last k with
  | none =>
    have hv : lastM x k = none := by unfold lastM; rw [hl]; rfl
    go_enter Tryz.func148, Tryz.ntmps148
    go_wp2_with (first | refine wpList_lookM_none rfl (.tmp 13) (.tmp 14) 57 rfl 3 Tryz.underlying3 keyed3 Tryz.underlying57 rfl hM (z3 _) k hW rfl hv ?_)
    go_ret
    exact ⟨rfl, rfl⟩
  | some m =>
    have hv : lastM x k = some (.int .i64 m) := by unfold lastM; rw [hl]; rfl
    by_cases hm : m = n
    · subst hm
      go_enter Tryz.func148, Tryz.ntmps148
      go_wp2_with (first | refine wpList_lookM_some rfl (.tmp 13) (.tmp 14) 57 rfl 3 Tryz.underlying3 keyed3 Tryz.underlying57 rfl hM (z3 _) k hW rfl _ hv ?_)
      go_ret
      exact ⟨by simp, rfl⟩
    · go_enter Tryz.func148, Tryz.ntmps148
      go_wp2_with (first | refine wpList_lookM_some rfl (.tmp 13) (.tmp 14) 57 rfl 3 Tryz.underlying3 keyed3 Tryz.underlying57 rfl hM (z3 _) k hW rfl _ hv ?_)
      go_ret
      exact ⟨by simp, rfl⟩
def changeL (x : LSt) (k n : Int) : LSt := { x with blocks := if x.last k = none then x.blocks ++ [k] else x.blocks, last := fun y => if y = k then some n else x.last y }
theorem lastM_change (x : LSt) (k n : Int) : lastM (changeL x k n) = fun y => if y = k then some (.int .i64 n) else lastM x y := by
  funext y
  unfold lastM changeL
  simp only
  by_cases e : y = k
  · rw [if_pos e, if_pos e]; rfl
  · rw [if_neg e, if_neg e]
theorem LS.changeOld (h : LS w W g d c mb v x s t os ks) {k n : Int} (hk : inTop k) (hl : x.last k ≠ none) : Calls Tryz.prog 149 #[.pointer (some ⟨g, 13, none⟩), .int .i64 k, .int .i64 n] W fun e W' => e = .returned (.tuple #[]) ∧ LogSit w W' g d (changeL x k n) s t ks := by
  have c14 := h.log.c14
  have hM := h.log.map
  have z3 := z3i
  have hW := hk.wf
  have HH : Hid (∀ W', MapIs Tryz.prog 3 W' mb (fun y => if y = k then some (.int .i64 n) else lastM x y) → W.grownBy W' (some mb) → LogSit w W' g d (changeL x k n) s t ks) := fun W' h1 h2 => by
    have hf := Fr.ofGrown h2
    refine h.turn (mb' := mb) (v' := v) hf (fun j hj => .inr (.inl (by injection hj with hj; exact hj.symm))) ⟨?_, by rw [lastM_change]; exact h1, ?_⟩ fun _ q => .inl q
    · refine (hf.block g (h.log.lt g (.inl rfl)) fun q => h.log.gm ?_).trans ?_
      · injection q with q; exact q.symm
      · exact h.log.row
    · unfold changeL
      simp only
      rw [if_neg hl]
      exact ownsRow_kept0 h.log.own fun j hj => hf.block j (World.ownsRow.lt h.log.own j hj).2 fun q => h.log.mv (by injection q with q; rw [q]; exact hj)
  have HI : Hid (inTop k) := hk
  clear h hk
  obtain ⟨m, hm⟩ := Option.ne_none_iff_exists'.1 hl
  have hv : lastM x k = some (.int .i64 m) := by unfold lastM; rw [hm]; rfl
  go_enter Tryz.func149, Tryz.ntmps149
  go_wp2_with (first | refine wpList_lookM_some rfl (.tmp 12) (.tmp 13) 57 rfl 3 Tryz.underlying3 keyed3 Tryz.underlying57 rfl hM (z3 _) k hW rfl _ hv ?_ | (refine wpList_putM rfl (.tmp 32) (.tmp 33) (.tmp 34) 57 rfl 3 Tryz.underlying3 keyed3 Tryz.underlying57 mb _ rfl hM k HI.out rfl _ rfl ?_; intro W3 hm3 hg3; have HR : Hid (LogSit w W3 g d (changeL x k n) s t ks) := HH.out W3 hm3 hg3; clear hm3 hg3))
  go_end0
  exact ⟨rfl, HR.out⟩
section
variable {ops : Array Oper} {rest : List Oper} {o : Oper} {a : Act} {Q : Exit → Act → World → Prop}
theorem wpList_pushAt {W : World} (hgd : o.guard = none) (s x : Operand)
    (ho : o.op = .call { callee := .builtin .append, args := #[s, x], argTypes := #[50, 50] }) (base : Nat) (v : Value) (xs : List Int) (y : Int) (hs : a.eval s = v)
    (hx : a.eval x = .slice (some ⟨W.heap.size, 0, none⟩) 1 1) (hown : H.OwnZ W base v xs) (hn : xs.length ≤ 1048576) (hbase : base ≤ W.heap.size)
    (h : ∀ v' w', H.OwnZ w' base v' (xs ++ [y]) → (W.alloc (.cells #[.int .i64 y] 3)).grownBy w' v.ownBlock → (v'.ownBlock = v.ownBlock ∨ v'.ownBlock = some (W.heap.size + 1)) → wpList Tryz.prog ops Q rest (a.put o.dst v') w') :
    wpList Tryz.prog ops Q (o :: rest) a (W.alloc (.cells #[.int .i64 y] 3)) := by
  obtain ⟨i0, hi0, hz0, hz1, hz2⟩ := info_parts H.info3
  refine wpList_append_own_at _ hgd s x 50 ho base 3 i0 (.int .i64 0) 1 8 Tryz.underlying50 hi0 hz0 hz1 hz2 rfl (by decide) v xs.length (xs.map (Value.int .i64)) hs (World.ownsRow.alloc hown _) ⟨W.heap.size, 0, none⟩ 1 1 [.int .i64 y] hx rfl (cell_one_new _ _ _)
    (fun u hu => by simp at hu; subst hu; rfl) (by unfold maxLen; omega) (by omega) (by simp; omega) ?_
  intro v' w' hown' hg _ hat
  refine h v' w' ?_ hg (by simpa using hat)
  unfold H.OwnZ
  rw [List.length_append, List.map_append]
  exact hown'
end
theorem ownL_ne {v' : Value} {zs : List Int} {cs : Array Value} (h : H.OwnZ W base v' zs) (hr : W.heap[g]? = some (.cells cs 85)) : v'.ownBlock ≠ some g := by
  intro e
  rcases h.2 with q | ⟨g', cap, cur, rfl, hB, hg, rest⟩
  · rw [q.1] at e; cases e
  · cases e
    rw [hg] at hr
    injection hr with hr
    injection hr with _ hr
    cases hr
theorem own_nm {v' : Value} {zs : List Int} {m : Int → Option Value} (h : H.OwnZ W base v' zs) (hm : MapIs Tryz.prog 3 W mb m) : v'.ownBlock ≠ some mb := by
  intro e
  obtain ⟨es, cl, h1⟩ := hm.isMap
  rcases h.2 with q | ⟨g', cap, cur, rfl, hB, hg, rest⟩
  · rw [q.1] at e; cases e
  · cases e
    rw [hg] at h1
    cases h1
theorem LS.changed (h : LS w W g d c mb v x s t os ks) {k n : Int} (hl : x.last k = none) {v' : Value} {W1 W3 : World} (hO : H.OwnZ W1 w.heap.size v' (x.blocks ++ [k])) (hg1 : (W.alloc (.cells #[.int .i64 k] 3)).grownBy W1 v.ownBlock)
    (hat : v'.ownBlock = v.ownBlock ∨ v'.ownBlock = some (W.heap.size + 1)) (hr1 : W1.heap[g]? = some (.cells (lgRow g d c mb v x) 85)) (hm2 : MapIs Tryz.prog 3 (W1.setCell ⟨g, 13, none⟩ v') mb (lastM x))
    (hm3 : MapIs Tryz.prog 3 W3 mb (fun y => if y = k then some (.int .i64 n) else lastM x y)) (hg3 : (W1.setCell ⟨g, 13, none⟩ v').grownBy W3 (some mb)) : LogSit w W3 g d (changeL x k n) s t ks := by
  have hgm := h.log.gm
  have hlt1 := (Array.getElem?_eq_some_iff.1 hr1).1
  have hr2 := Joins.block_setCell (i := 13) hr1 v'
  have f2 := Fr.setCell W1 g 13 v'
  have f3 := Fr.ofGrown hg3
  have hgv' := ownL_ne hO hr1
  have hO2 : H.OwnZ (W1.setCell ⟨g, 13, none⟩ v') w.heap.size v' (x.blocks ++ [k]) := ownsRow_kept0 hO fun j hj => f2.block j (World.ownsRow.lt hO j hj).2 fun q => hgv' (by rw [← q]; exact hj)
  have hmv' := own_nm hO2 hm2
  refine h.turn (mb' := mb) (v' := v') (T := LHas g mb v) ?_ (fun _ q => q) ⟨?_, by rw [lastM_change]; exact hm3, ?_⟩ fun j hj => ?_
  · refine (((Fr.alloc (LHas g mb v) W _).trans (Fr.ofGrown hg1) fun _ _ q => .inr (.inr q)).trans f2 fun _ _ q => .inl q).trans f3 fun j _ q => .inr (.inl ?_)
    injection q with q
    exact q.symm
  · refine (f3.block g (Nat.lt_of_lt_of_le hlt1 f2.size) fun q => hgm (by injection q with q; exact q.symm)).trans (hr2.trans ?_)
    rfl
  · unfold changeL
    simp only
    rw [if_pos hl]
    exact ownsRow_kept0 hO2 fun j hj => f3.block j (World.ownsRow.lt hO2 j hj).2 fun q => hmv' (by injection q with q; rw [q]; exact hj)
  · rcases hj with q | q | q
    · exact .inl (.inl q)
    · exact .inl (.inr (.inl q))
    · rcases hat with e | e
      · exact .inl (.inr (.inr (by rw [← e]; exact q)))
      · rw [e] at q; injection q with q; exact .inr (by omega)
set_option maxRecDepth 20000 in
theorem LS.changeNew (h : LS w W g d c mb v x s t os ks) {k n : Int} (hk : inTop k) (hl : x.last k = none) (hn : x.blocks.length ≤ 1048576) : Calls Tryz.prog 149 #[.pointer (some ⟨g, 13, none⟩), .int .i64 k, .int .i64 n] W fun e W' => e = .returned (.tuple #[]) ∧ LogSit w W' g d (changeL x k n) s t ks := by
  have c13 := h.log.c13
  have c14 := h.log.c14
  have hM := h.log.map
  have z3 := z3i
  have hW := hk.wf
  have hsz := h.sit.below.size
  have hOwn := h.log.own
  have HA : Hid (∀ v' W1, (W.alloc (.cells #[.int .i64 k] 3)).grownBy W1 v.ownBlock → W1.heap[g]? = some (.cells (lgRow g d c mb v x) 85) ∧ MapIs Tryz.prog 3 (W1.setCell ⟨g, 13, none⟩ v') mb (lastM x)) := fun v' W1 hg1 => by
    have hgv := h.log.gv
    have hgm := h.log.gm
    have hmv := h.log.mv
    have h1 := H.pushed_kept hg1 (fun j hj q => hgv (by rw [← q]; exact hj)) h.log.row
    refine ⟨h1, hM.kept ?_⟩
    have hmlt := hM.lt
    rw [(Fr.setCell W1 g 13 v').block mb (Nat.lt_of_lt_of_le hmlt (Nat.le_trans (by simp) hg1.size)) fun q => hgm q.symm]
    obtain ⟨es, cl, h2⟩ := hM.isMap
    rw [H.pushed_kept hg1 (fun j hj q => hmv (by rw [← q]; exact hj)) h2, h2]
  have HB : Hid (∀ v' W1 W3, H.OwnZ W1 w.heap.size v' (x.blocks ++ [k]) → (W.alloc (.cells #[.int .i64 k] 3)).grownBy W1 v.ownBlock → (v'.ownBlock = v.ownBlock ∨ v'.ownBlock = some (W.heap.size + 1)) → MapIs Tryz.prog 3 W3 mb (fun y => if y = k then some (.int .i64 n) else lastM x y) → (W1.setCell ⟨g, 13, none⟩ v').grownBy W3 (some mb) → LogSit w W3 g d (changeL x k n) s t ks) := fun v' W1 W3 hO hg1 hat hm3 hg3 =>
    h.changed hl hO hg1 hat (HA.out v' W1 hg1).1 (HA.out v' W1 hg1).2 hm3 hg3
  have HI : Hid (inTop k) := hk
  have hv : lastM x k = none := by unfold lastM; rw [hl]; rfl
  clear h hk
  go_enter Tryz.func149, Tryz.ntmps149
  go_wp2_with (first | refine wpList_lookM_none rfl (.tmp 12) (.tmp 13) 57 rfl 3 Tryz.underlying3 keyed3 Tryz.underlying57 rfl hM (z3 _) k hW rfl hv ?_ | (refine wpList_pushAt rfl (.tmp 23) (.tmp 25) rfl w.heap.size v x.blocks k rfl rfl hOwn hn hsz ?_))
  intro v' W1 hO1 hg1 hat
  obtain ⟨hr1, hm1⟩ := HA.out v' W1 hg1
  have HB1 : Hid (∀ W3, MapIs Tryz.prog 3 W3 mb (fun y => if y = k then some (.int .i64 n) else lastM x y) → (W1.setCell ⟨g, 13, none⟩ v').grownBy W3 (some mb) → LogSit w W3 g d (changeL x k n) s t ks) := fun W3 => HB.out v' W1 W3 hO1 hg1 hat
  obtain ⟨p', cp', hv', _, _, _⟩ := hO1.ints
  have c13' : W1.cell? ⟨g, 13, none⟩ = some v := Joins.cell_of_block hr1 13
  have c14' : W1.cell? ⟨g, 14, none⟩ = some (.map (some mb)) := Joins.cell_of_block hr1 14
  have f13 := Joins.unfrozen_of_block hr1 13
  clear hr1 hg1 hO1 hat HA HB hM c13 c14 hOwn hsz
  simp only [List.length_append, List.length_cons, List.length_nil, Nat.zero_add] at hv'
  subst hv'
  go_wp2_with (first | (refine wpList_putM rfl (.tmp 32) (.tmp 33) (.tmp 34) 57 rfl 3 Tryz.underlying3 keyed3 Tryz.underlying57 mb _ rfl hm1 k HI.out rfl _ rfl ?_))
  intro W3 hm3 hg3
  have HR : Hid (LogSit w W3 g d (changeL x k n) s t ks) := HB1.out W3 hm3 hg3
  clear hm3 hg3 HB1 hm1
  go_wp2
  go_end0
  exact ⟨rfl, HR.out⟩
end Go.Proofs.YtiadlcjdpbkbkaaGreatD
/- What holds of every log that lives, told by its book; no condition. -/
namespace Go.Proofs.YtiadlcjdpbkbkaaGreatD
open Go.RowKit Go.Maps
variable {w W : World} {g d c mb : Nat} {v : Value} {x : LSt} {s : CSt} {t : St} {os ks : List (Nat × Obj)} {base : Nat} {book : Int → Nat → Int}
def inB (x : LSt) : Int → Bool := fun k => decide (k ∈ x.blocks)
structure Inv (x : LSt) (s : CSt) (t : St) (book : Int → Nat → Int) : Prop where
  fine : H.Fine x.b x.l x.i
  c : CInv x.b x.l s t book (inB x)
  nd : x.blocks.Nodup
  rng : ∀ k ∈ x.blocks, 1 + x.l ≤ k ∧ k < x.b
  fast : (fastN s.row : Int) = x.blocks.length
  last : ∀ k, x.last k = none ↔ k ∉ x.blocks
  len : (x.blocks.length : Int) ≤ x.l - 1
  steps : 0 ≤ x.steps ∧ x.steps ≤ 1099511627776
  commits : 0 ≤ x.commits ∧ x.commits ≤ 1099511627776
  room : 0 ≤ x.room ∧ x.room ≤ 256
  more : x.opn = true → (x.blocks.length : Int) + x.room ≤ x.l - 1
/-- A log that lives, with its book. -/
def LogI (w W : World) (g d : Nat) (x : LSt) (t : St) (book : Int → Nat → Int) (ks : List (Nat × Obj)) : Prop := ∃ s, LogSit w W g d x s t ks ∧ Inv x s t book
theorem LS.add (h : LS w W g d c mb v x s t os ks) (o : Obj) : LS w (W.alloc o) g d c mb v x s t os ((W.heap.size, o) :: ks) := by
  refine ⟨(h.sit.add o).drop fun p hp => ?_, h.log.later (below_new W o), h.own, fun p hp => ?_⟩
  · rcases List.mem_append.1 hp with hp | hp
    · exact List.mem_cons_of_mem _ (List.mem_append.2 (.inl hp))
    · rcases List.mem_cons.1 hp with rfl | hp
      · exact List.mem_cons_self ..
      · exact List.mem_cons_of_mem _ (List.mem_append.2 (.inr hp))
  · rcases List.mem_cons.1 hp with rfl | hp
    · intro q
      have := h.log.lt _ q
      simp only at this
      omega
    · exact h.ap p hp
theorem LS.drop (h : LS w W g d c mb v x s t os ks) {ks' : List (Nat × Obj)} (hs : ∀ p ∈ ks', p ∈ ks) : LS w W g d c mb v x s t os ks' :=
  ⟨h.sit.drop fun p hp => by
    rcases List.mem_append.1 hp with hp | hp
    · exact List.mem_append.2 (.inl hp)
    · exact List.mem_append.2 (.inr (hs p hp)), h.log, h.own, fun p hp => h.ap p (hs p hp)⟩
theorem LogSit.later {W' : World} (h : LogSit w W g d x s t ks) (hb : Below W.heap.size W W') : LogSit w W' g d x s t ks := by
  obtain ⟨c, mb, v, os, h⟩ := h
  exact ⟨c, mb, v, os, h.later hb⟩
theorem LogSit.add (h : LogSit w W g d x s t ks) (o : Obj) : LogSit w (W.alloc o) g d x s t ((W.heap.size, o) :: ks) := by
  obtain ⟨c, mb, v, os, h⟩ := h
  exact ⟨c, mb, v, os, h.add o⟩
theorem LogSit.drop (h : LogSit w W g d x s t ks) {ks' : List (Nat × Obj)} (hs : ∀ p ∈ ks', p ∈ ks) : LogSit w W g d x s t ks' := by
  obtain ⟨c, mb, v, os, h⟩ := h
  exact ⟨c, mb, v, os, h.drop hs⟩
theorem LogSit.obj (h : LogSit w W g d x s t ks) {q : Nat} {o : Obj} (hm : (q, o) ∈ ks) : W.heap[q]? = some o := by
  obtain ⟨c, mb, v, os, h⟩ := h
  exact h.sit.blk (List.mem_append.2 (.inr hm))
theorem LogSit.below (h : LogSit w W g d x s t ks) : Below w.heap.size w W := by
  obtain ⟨c, mb, v, os, h⟩ := h
  exact h.sit.below
theorem LogSit.ok (h : LogSit w W g d x s t ks) : COk s ∧ Ok t := by
  obtain ⟨c, mb, v, os, h⟩ := h
  exact h.sit.ok
theorem LogI.later {W' : World} (h : LogI w W g d x t book ks) (hb : Below W.heap.size W W') : LogI w W' g d x t book ks := by
  obtain ⟨s, h1, h2⟩ := h
  exact ⟨s, h1.later hb, h2⟩
theorem LogI.add (h : LogI w W g d x t book ks) (o : Obj) : LogI w (W.alloc o) g d x t book ((W.heap.size, o) :: ks) := by
  obtain ⟨s, h1, h2⟩ := h
  exact ⟨s, h1.add o, h2⟩
theorem LogI.drop (h : LogI w W g d x t book ks) {ks' : List (Nat × Obj)} (hs : ∀ p ∈ ks', p ∈ ks) : LogI w W g d x t book ks' := by
  obtain ⟨s, h1, h2⟩ := h
  exact ⟨s, h1.drop hs, h2⟩
theorem LogI.obj (h : LogI w W g d x t book ks) {q : Nat} {o : Obj} (hm : (q, o) ∈ ks) : W.heap[q]? = some o := by
  obtain ⟨s, h1, h2⟩ := h
  exact h1.obj hm
theorem LogI.below (h : LogI w W g d x t book ks) : Below w.heap.size w W := by
  obtain ⟨s, h1, h2⟩ := h
  exact h1.below
theorem claimed_live {k : Int} (h : claimedV t k = true) : t.stopped = false := by
  unfold claimedV at h
  cases hs : t.stopped
  · rfl
  · rw [hs] at h; simp at h
theorem refL_live {o : Bool} (h : refL x t o = 0) : claimedV t x.claim = true ∧ x.opn = o := by
  unfold refL at h
  split at h
  · rename_i hc
    split at h
    · rename_i ho
      exact ⟨hc, ho⟩
    · omega
  · omega
theorem Inv.dat (h : Inv x s t book) {k : Int} (hk : 1 + x.l ≤ k ∧ k < x.b) : Dat x.b x.l k := by
  have := h.fine.1
  exact ⟨⟨by omega, hk.2⟩, fun q => by omega⟩
theorem Inv.used (h : Inv x s t book) (hs : t.stopped = false) {k : Int} (hk : Dat x.b x.l k) : usedE s t k = 0 := h.c.used hs hk (by have := h.fast; have := h.len; omega)
/-- Another block is changed, or one again. -/
theorem Inv.change (h : Inv x s t book) {k n r : Int} {f : Nat → Int} (hs : t.stopped = false) (hk : 1 + x.l ≤ k ∧ k < x.b) (hn : k ∉ x.blocks → (x.blocks.length : Int) + 1 + r ≤ x.l - 1) (hr : 0 ≤ r ∧ r ≤ x.room) (hok : COk (putC s t k f)) :
    Inv { changeL x k n with room := r } (putC s t k f) t (fun j => if j = k then f else book j) := by
  have hD := h.dat hk
  obtain ⟨h1, h2⟩ := h.c.put hD (h.used hs hD) f hok
  have hr2 := h.room
  by_cases hm : k ∈ x.blocks
  · have hl : x.last k ≠ none := fun q => ((h.last k).1 q) hm
    have hbl : (changeL x k n).blocks = x.blocks := by unfold changeL; simp only; rw [if_neg hl]
    have hin : inB { changeL x k n with room := r } = fun j => if j = k then true else inB x j := by
      funext j
      unfold inB
      show decide (j ∈ (changeL x k n).blocks) = _
      rw [hbl]
      by_cases e : j = k
      · rw [if_pos e, e]; simpa using hm
      · rw [if_neg e]
    refine ⟨h.fine, ?_, ?_, ?_, ?_, ?_, ?_, h.steps, h.commits, ⟨hr.1, by show r ≤ 256; omega⟩, ?_⟩
    · rw [hin]; exact h1
    · show (changeL x k n).blocks.Nodup; rw [hbl]; exact h.nd
    · show ∀ j ∈ (changeL x k n).blocks, _; rw [hbl]; exact h.rng
    · show _ = ((changeL x k n).blocks.length : Int); rw [hbl, h2, if_pos (by unfold inB; simpa using hm)]; have := h.fast; omega
    · intro j
      show (if j = k then some n else x.last j) = none ↔ j ∉ (changeL x k n).blocks
      rw [hbl]
      by_cases e : j = k
      · rw [if_pos e, e]; simp [hm]
      · rw [if_neg e]; exact h.last j
    · show ((changeL x k n).blocks.length : Int) ≤ _; rw [hbl]; exact h.len
    · intro ho
      show ((changeL x k n).blocks.length : Int) + r ≤ _
      rw [hbl]
      have := h.more ho
      show (x.blocks.length : Int) + r ≤ x.l - 1
      omega
  · have hl : x.last k = none := (h.last k).2 hm
    have hbl : (changeL x k n).blocks = x.blocks ++ [k] := by unfold changeL; simp only; rw [if_pos hl]
    have hlen : ((changeL x k n).blocks.length : Int) = x.blocks.length + 1 := by rw [hbl]; simp
    have hn' := hn hm
    have hin : inB { changeL x k n with room := r } = fun j => if j = k then true else inB x j := by
      funext j
      unfold inB
      show decide (j ∈ (changeL x k n).blocks) = _
      rw [hbl]
      by_cases e : j = k
      · rw [if_pos e, e]; simp
      · rw [if_neg e]; simp [e]
    refine ⟨h.fine, ?_, ?_, ?_, ?_, ?_, ?_, h.steps, h.commits, ⟨hr.1, by show r ≤ 256; omega⟩, ?_⟩
    · rw [hin]; exact h1
    · show (changeL x k n).blocks.Nodup
      rw [hbl, List.nodup_append]
      refine ⟨h.nd, by simp, fun a ha b hb => ?_⟩
      simp only [List.mem_cons, List.not_mem_nil, or_false] at hb
      subst hb
      exact fun q => hm (q ▸ ha)
    · show ∀ j ∈ (changeL x k n).blocks, _
      rw [hbl]
      intro j hj
      rcases List.mem_append.1 hj with hj | hj
      · exact h.rng j hj
      · simp only [List.mem_cons, List.not_mem_nil, or_false] at hj
        subst hj
        exact hk
    · show _ = ((changeL x k n).blocks.length : Int)
      rw [hlen, h2, if_neg (by unfold inB; simpa using hm)]
      have := h.fast
      omega
    · intro j
      show (if j = k then some n else x.last j) = none ↔ j ∉ (changeL x k n).blocks
      rw [hbl]
      by_cases e : j = k
      · rw [if_pos e, e]; simp
      · rw [if_neg e, h.last j]; simp [e]
    · show ((changeL x k n).blocks.length : Int) ≤ x.l - 1
      omega
    · intro _
      show ((changeL x k n).blocks.length : Int) + r ≤ x.l - 1
      omega
end Go.Proofs.YtiadlcjdpbkbkaaGreatD
/- A block is written by a log: refused, or in the group; no condition but that the block's bytes are such. -/
namespace Go.Proofs.YtiadlcjdpbkbkaaGreatD
open Go.RowKit Go.Maps
variable {w W : World} {g d c mb : Nat} {v : Value} {x : LSt} {s : CSt} {t : St} {os ks : List (Nat × Obj)} {base : Nat} {book : Int → Nat → Int}
theorem NoneAt.later {W' : World} {v : Value} (h : NoneAt W v) (hb : Below W.heap.size W W') : NoneAt W' v := by
  rcases h with h | ⟨g, h1, h2⟩
  · exact .inl h
  · refine .inr ⟨g, h1, ?_⟩
    have hlt : g < W.heap.size := by
      cases hq : W.heap[g]? with
      | none => simp [World.cell?, hq] at h2
      | some o => exact (Array.getElem?_eq_some_iff.1 hq).1
    have he := hb.block g hlt
    unfold World.cell? at h2 ⊢
    simp only at h2 ⊢
    rw [he]
    exact h2
theorem writeL_none {v : Value} (h : NoneAt W v) (k : Int) (f : Nat → Int) : Calls Tryz.prog 136 #[v, .int .i64 k, .agg (blk f)] W fun e W' => e = .returned (.int .i64 1) ∧ Below W.heap.size W W' := by
  have h0 : Calls Tryz.prog 40 #[v, .bool true] (W.alloc (.cells (blk f) 47)) fun e W' => e = .returned (.int .i64 1) ∧ W' = W.alloc (.cells (blk f) 47) := refusesL_none (h.later (below_new _ _)) true
  have hb := below_new W (.cells (blk f) 47)
  generalize blk f = F at *
  go_enter Tryz.func136, Tryz.ntmps136
  go_wp2_with (first | (go_at_call 40; refine h0.mono ?_; rintro e W1 ⟨rfl, rfl⟩))
  go_ret
  exact ⟨rfl, hb⟩
theorem writeL_ref (h : LogSit w W g d x s t ks) {k : Int} {f : Nat → Int} {e0 : Int} (hr : refL x t true = e0) (h0 : e0 ≠ 0) : Calls Tryz.prog 136 #[ptr g, .int .i64 k, .agg (blk f)] W fun e W' => e = .returned (.int .i64 e0) ∧ LogSit w W' g d x s t ks := by
  obtain ⟨c, mb, v, os, h⟩ := h
  have hA := h.add (.cells (blk f) 47)
  have hc : Calls Tryz.prog 40 #[ptr g, .bool true] (W.alloc (.cells (blk f) 47)) fun e W' => e = .returned (.int .i64 e0) ∧ LogSit w W' g d x s t ks := by
    refine (hA.refuses true).mono ?_
    rintro e W' ⟨rfl, m, rfl⟩
    exact ⟨by rw [hr], c, mb, v, os, (hA.later (below_drewN _ m)).drop fun p hp => List.mem_cons_of_mem _ hp⟩
  clear h hA hr
  unfold ptr at *
  generalize blk f = F at *
  go_enter Tryz.func136, Tryz.ntmps136
  go_wp2_with (first | (go_at_call 40; refine hc.mono ?_; rintro e W1 ⟨rfl, h1⟩))
  go_ret
  exact ⟨rfl, h1⟩
theorem writeL_arg (h : LogSit w W g d x s t ks) {k : Int} {f : Nat → Int} (hr : refL x t true = 0) (hk : k < 1 ∨ x.b ≤ k ∨ ofL x k = true) : Calls Tryz.prog 136 #[ptr g, .int .i64 k, .agg (blk f)] W fun e W' => e = .returned (.int .i64 2) ∧ LogSit w W' g d x s t ks := by
  obtain ⟨c, mb, v, os, h⟩ := h
  have hA := h.add (.cells (blk f) 47)
  have hc : Calls Tryz.prog 40 #[ptr g, .bool true] (W.alloc (.cells (blk f) 47)) fun e W' => e = .returned (.int .i64 0) ∧ W'.cell? ⟨g, 3, none⟩ = some (.int .i64 x.b) ∧ Calls Tryz.prog 128 #[ptr g, .int .i64 k] W' (fun e W'' => e = .returned (.bool (ofL x k)) ∧ W'' = W') ∧ Hid (LogSit w W' g d x s t ks) := by
    refine (hA.refuses true).mono ?_
    rintro e W' ⟨rfl, m, rfl⟩
    have hB := hA.later (below_drewN _ m)
    exact ⟨by rw [hr], hB.log.c3, hB.ofLog k, c, mb, v, os, hB.drop fun p hp => List.mem_cons_of_mem _ hp⟩
  clear h hA hr
  unfold ptr at *
  generalize blk f = F at *
  by_cases h1 : k < 1
  · go_enter Tryz.func136, Tryz.ntmps136
    go_wp2_with (first | (go_at_call 40; refine hc.mono ?_; rintro e W1 ⟨rfl, c3, hol, HL⟩))
    go_ret
    exact ⟨rfl, HL.out⟩
  · by_cases h2 : x.b ≤ k
    · go_enter Tryz.func136, Tryz.ntmps136
      go_wp2_with (first | (go_at_call 40; refine hc.mono ?_; rintro e W1 ⟨rfl, c3, hol, HL⟩))
      go_ret
      exact ⟨rfl, HL.out⟩
    · have h3 : ofL x k = true := by
        rcases hk with h | h | h
        · exact absurd h h1
        · exact absurd h h2
        · exact h
      rw [h3] at hc
      go_enter Tryz.func136, Tryz.ntmps136
      go_wp2_with (first | (go_at_call 40; refine hc.mono ?_; rintro e W1 ⟨rfl, c3, hol, HL⟩) | (go_at_call 128; refine hol.mono ?_; rintro e W2 ⟨rfl, rfl⟩))
      go_ret
      exact ⟨rfl, HL.out⟩
/-- What a log has ready, at the world behind Write's first questions. -/
structure Wr1 (w W' : World) (g d : Nat) (x : LSt) (s : CSt) (t : St) (k : Int) (by' : Bool) (kk : List (Nat × Obj)) : Prop where
  c3 : W'.cell? ⟨g, 3, none⟩ = some (.int .i64 x.b)
  c16 : W'.cell? ⟨g, 16, none⟩ = some (.int .i64 x.room)
  f16 : W'.frozen? ⟨g, 16, none⟩ = false
  c18 : W'.cell? ⟨g, 18, none⟩ = some (.int .i64 x.steps)
  ofl : Calls Tryz.prog 128 #[ptr g, .int .i64 k] W' fun e W'' => e = .returned (.bool false) ∧ W'' = W'
  byl : ∀ n, Calls Tryz.prog 148 #[.pointer (some ⟨g, 13, none⟩), .int .i64 k, .int .i64 x.steps] (W'.drewN n) fun e W'' => e = .returned (.bool by') ∧ W'' = W'.drewN n
  ls : Hid (LogSit w W' g d x s t kk)
theorem wr1 (h : LogSit w W g d x s t ks) {k : Int} {f : Nat → Int} (hr : refL x t true = 0) (hk : 1 + x.l ≤ k ∧ k < x.b) (hl : 32 ≤ x.l) (hb : x.b ≤ 1048576) : Calls Tryz.prog 40 #[ptr g, .bool true] (W.alloc (.cells (blk f) 47)) fun e W' => e = .returned (.int .i64 0) ∧ Wr1 w W' g d x s t k (byB x k x.steps) ((W.heap.size, .cells (blk f) 47) :: ks) := by
  obtain ⟨c, mb, v, os, h⟩ := h
  have hA := h.add (.cells (blk f) 47)
  refine (hA.refuses true).mono ?_
  rintro e W' ⟨rfl, m, rfl⟩
  have hB := hA.later (below_drewN _ m)
  have ho : ofL x k = false := by unfold ofL; exact decide_eq_false fun q => by omega
  have ho2 := hB.ofLog k
  rw [ho] at ho2
  exact ⟨by rw [hr], hB.log.c3, hB.log.c16, hB.log.free 16, hB.log.c18, ho2, fun n => (hB.later (below_drewN _ n)).changedBy ⟨by omega, by omega⟩, c, mb, v, os, hB⟩
theorem writeL_tight (h : LogSit w W g d x s t ks) {k : Int} {f : Nat → Int} (hr : refL x t true = 0) (hk : 1 + x.l ≤ k ∧ k < x.b) (hl : 32 ≤ x.l) (hb : x.b ≤ 1048576) (hby : byB x k x.steps = false) (hz : x.room = 0) : Calls Tryz.prog 136 #[ptr g, .int .i64 k, .agg (blk f)] W fun e W' => e = .returned (.int .i64 181) ∧ LogSit w W' g d x s t ks := by
  have hc := wr1 (f := f) h hr hk hl hb
  rw [hby] at hc
  have hk1 : ¬ k < 1 := by omega
  have hk2 : ¬ x.b ≤ k := by omega
  clear h hr
  generalize blk f = F at *
  unfold ptr at hc ⊢
  go_enter Tryz.func136, Tryz.ntmps136
  go_wp2_with (go_at_call 40; fail)
  refine hc.mono ?_
  rintro e W1 ⟨rfl, c3, c16, f16, c18, ofl, byl, HL⟩
  rw [hz] at c16
  unfold ptr at ofl
  go_wp2_with (first | (go_at_call 128; refine ofl.mono ?_; rintro e W2 ⟨rfl, rfl⟩))
  go_quiet (first | (go_at_call 148; refine Calls.quiet_of_same (byl _)))
  go_wp2
  go_ret
  exact ⟨rfl, (HL.out.later (below_drewN _ _)).drop fun p hp => List.mem_cons_of_mem _ hp⟩
/-- The cache has a block put; the log stays. -/
theorem LogSit.put (h : LogSit w W g d x s t ks) (k : Int) {f : Nat → Int} (hf : Can f) : ∃ c, W.cell? ⟨g, 12, none⟩ = some (ptr c) ∧ Calls Tryz.prog 150 #[ptr c, .int .i64 k, .agg (blk f)] W fun e W' => e = .returned (.int .i64 (usedE s t k)) ∧ LogSit w W' g d x (putC s t k f) t ks := by
  obtain ⟨c, mb, v, os, h⟩ := h
  exact ⟨c, h.log.c12, (sit_put h.sit k hf).mono fun e W' ⟨h1, h2⟩ => ⟨h1, c, mb, v, os, h.step h2⟩⟩
theorem Hid.mk' {p : Prop} (h : p) : Hid p := h
theorem LogSit.drew (h : LogSit w W g d x s t ks) : LogSit w W.drew g d x s t ks := h.later ⟨rfl, rfl, rfl, Nat.le_refl _, fun _ _ => rfl⟩
set_option maxRecDepth 20000 in
set_option maxHeartbeats 1600000 in
/-- A block that the step had changed already. -/
theorem writeL_again (h : LogSit w W g d x s t ks) {k : Int} {f : Nat → Int} (hf : Can f) (hr : refL x t true = 0) (hk : 1 + x.l ≤ k ∧ k < x.b) (hl : 32 ≤ x.l) (hb : x.b ≤ 1048576) (hby : byB x k x.steps = true) (hu : usedE s t k = 0) : Calls Tryz.prog 136 #[ptr g, .int .i64 k, .agg (blk f)] W fun e W' => e = .returned (.int .i64 0) ∧ LogSit w W' g d x (putC s t k f) t ks := by
  have hc := wr1 (f := f) h hr hk hl hb
  rw [hby] at hc
  have hk1 : ¬ k < 1 := by omega
  have hk2 : ¬ x.b ≤ k := by omega
  have HP : Hid (∀ W', LogSit w W' g d x s t ((W.heap.size, .cells (blk f) 47) :: ks) → BlkAt W' W.heap.size 0 f ∧ ∃ c, W'.cell? ⟨g, 12, none⟩ = some (ptr c) ∧ Calls Tryz.prog 150 #[ptr c, .int .i64 k, .agg (blk f)] W'.drew fun e W'' => e = .returned (.int .i64 0) ∧ LogSit w W'' g d x (putC s t k f) t ks) := fun W' h1 => by
    refine ⟨BlkAt.of (h1.obj (List.mem_cons_self ..)), ?_⟩
    obtain ⟨c, hc, h2⟩ := h1.drew.put k hf
    exact ⟨c, by simpa using hc, h2.mono fun e W'' ⟨a1, a2⟩ => ⟨by rw [a1, hu], a2.drop fun p hp => List.mem_cons_of_mem _ hp⟩⟩
  clear h hr
  unfold ptr at hc ⊢
  generalize hF : blk f = F at hc ⊢
  go_enter Tryz.func136, Tryz.ntmps136
  go_wp2_with (go_at_call 40; fail)
  refine hc.mono ?_
  rintro e W1 ⟨rfl, c3, c16, f16, c18, ofl, byl, HL⟩
  subst hF
  unfold ptr at ofl
  go_wp2_with (first | (go_at_call 128; refine ofl.mono ?_; rintro e W2 ⟨rfl, rfl⟩))
  go_quiet (first | (go_at_call 148; refine Calls.quiet_of_same (byl _)))
  go_wp2
  have HL3 : Hid (LogSit w (W2.drewN nq) g d x s t ((W.heap.size, .cells (blk f) 47) :: ks)) := HL.out.later (below_drewN _ _)
  clear HL byl ofl hc c16 f16 c18 c3
  generalize W2.drewN nq = W3 at HL3 ⊢
  obtain ⟨hB, c', c12, hput⟩ := HP.out W3 HL3.out
  unfold ptr at c12 hput
  clear HP HL3
  go_still_tail 6, (by kernel_rfl)
  refine wpStill_loadM rfl (.tmp 5) rfl W.heap.size 0 rfl f hB ?_
  repeat still_step
  refine wpStill_nil ?_
  change wpList _ _ _ _ _ (World.drew _)
  go_wp2_with (go_at_call 150; fail)
  refine hput.mono ?_
  rintro e W4 ⟨rfl, h4⟩
  have H4 := Hid.mk' h4
  clear h4
  go_wp2
  go_ret
  exact ⟨rfl, H4.out⟩
theorem LogSit.setRoom (h : LogSit w W g d x s t ks) (r : Int) : LogSit w (W.setCell ⟨g, 16, none⟩ (.int .i64 r)) g d { x with room := r } s t ks := by
  obtain ⟨c, mb, v, os, h⟩ := h
  exact h.setCell 16 _ rfl rfl rfl
theorem LogSit.setOpn (h : LogSit w W g d x s t ks) (r : Bool) : LogSit w (W.setCell ⟨g, 15, none⟩ (.bool r)) g d { x with opn := r } s t ks := by
  obtain ⟨c, mb, v, os, h⟩ := h
  exact h.setCell 15 _ rfl rfl rfl
theorem LogSit.setCommits (h : LogSit w W g d x s t ks) (r : Int) : LogSit w (W.setCell ⟨g, 17, none⟩ (.int .i64 r)) g d { x with commits := r } s t ks := by
  obtain ⟨c, mb, v, os, h⟩ := h
  exact h.setCell 17 _ rfl rfl rfl
theorem LogSit.setSteps (h : LogSit w W g d x s t ks) (r : Int) : LogSit w (W.setCell ⟨g, 18, none⟩ (.int .i64 r)) g d { x with steps := r } s t ks := by
  obtain ⟨c, mb, v, os, h⟩ := h
  exact h.setCell 18 _ rfl rfl rfl
theorem LogSit.change (h : LogSit w W g d x s t ks) {k : Int} (n : Int) (hk : inTop k) (hn : x.blocks.length ≤ 1048576) : Calls Tryz.prog 149 #[.pointer (some ⟨g, 13, none⟩), .int .i64 k, .int .i64 n] W fun e W' => e = .returned (.tuple #[]) ∧ LogSit w W' g d (changeL x k n) s t ks := by
  obtain ⟨c, mb, v, os, h⟩ := h
  by_cases hl : x.last k = none
  · exact h.changeNew hk hl hn
  · exact h.changeOld hk hl
theorem LogSit.c18 (h : LogSit w W g d x s t ks) : W.cell? ⟨g, 18, none⟩ = some (.int .i64 x.steps) := by
  obtain ⟨c, mb, v, os, h⟩ := h
  exact h.log.c18
set_option maxRecDepth 20000 in
set_option maxHeartbeats 1600000 in
/-- A block that the step changes first. -/
theorem writeL_first (h : LogSit w W g d x s t ks) {k : Int} {f : Nat → Int} (hf : Can f) (hr : refL x t true = 0) (hk : 1 + x.l ≤ k ∧ k < x.b) (hl : 32 ≤ x.l) (hb : x.b ≤ 1048576) (hby : byB x k x.steps = false) (hu : usedE s t k = 0) (hrm : 1 ≤ x.room ∧ x.room ≤ 256) (hn : x.blocks.length ≤ 1048576) :
    Calls Tryz.prog 136 #[ptr g, .int .i64 k, .agg (blk f)] W fun e W' => e = .returned (.int .i64 0) ∧ LogSit w W' g d { changeL x k x.steps with room := x.room - 1 } (putC s t k f) t ks := by
  have hc := wr1 (f := f) h hr hk hl hb
  rw [hby] at hc
  have hk1 : ¬ k < 1 := by omega
  have hk2 : ¬ x.b ≤ k := by omega
  have hz : ¬ x.room = 0 := by omega
  have HP : Hid (∀ W', LogSit w W' g d { changeL x k x.steps with room := x.room - 1 } s t ((W.heap.size, .cells (blk f) 47) :: ks) → BlkAt W' W.heap.size 0 f ∧ ∃ c, W'.cell? ⟨g, 12, none⟩ = some (ptr c) ∧ Calls Tryz.prog 150 #[ptr c, .int .i64 k, .agg (blk f)] W'.drew fun e W'' => e = .returned (.int .i64 0) ∧ LogSit w W'' g d { changeL x k x.steps with room := x.room - 1 } (putC s t k f) t ks) := fun W' h1 => by
    refine ⟨BlkAt.of (h1.obj (List.mem_cons_self ..)), ?_⟩
    obtain ⟨c, hc, h2⟩ := h1.drew.put k hf
    exact ⟨c, by simpa using hc, h2.mono fun e W'' ⟨a1, a2⟩ => ⟨by rw [a1, hu], a2.drop fun p hp => List.mem_cons_of_mem _ hp⟩⟩
  have HC : Hid (∀ W', LogSit w W' g d x s t ((W.heap.size, .cells (blk f) 47) :: ks) → (W'.setCell ⟨g, 16, none⟩ (.int .i64 (x.room - 1))).cell? ⟨g, 18, none⟩ = some (.int .i64 x.steps) ∧ Calls Tryz.prog 149 #[.pointer (some ⟨g, 13, none⟩), .int .i64 k, .int .i64 x.steps] (W'.setCell ⟨g, 16, none⟩ (.int .i64 (x.room - 1))).drew fun e W'' => e = .returned (.tuple #[]) ∧ LogSit w W'' g d { changeL x k x.steps with room := x.room - 1 } s t ((W.heap.size, .cells (blk f) 47) :: ks)) := fun W' h1 => by
    have h2 := h1.setRoom (x.room - 1)
    exact ⟨h2.c18, h2.drew.change x.steps ⟨by omega, by omega⟩ hn⟩
  clear h hr
  unfold ptr at hc ⊢
  generalize hF : blk f = F at hc ⊢
  go_enter Tryz.func136, Tryz.ntmps136
  go_wp2_with (go_at_call 40; fail)
  refine hc.mono ?_
  rintro e W1 ⟨rfl, c3, c16, f16, c18, ofl, byl, HL⟩
  subst hF
  unfold ptr at ofl
  go_wp2_with (first | (go_at_call 128; refine ofl.mono ?_; rintro e W2 ⟨rfl, rfl⟩))
  go_quiet (first | (go_at_call 148; refine Calls.quiet_of_same (byl _)))
  go_wp2
  have HC2 := HC.out (W2.drewN nq) (HL.out.later (below_drewN _ _))
  clear HC HL byl ofl hc c16 f16 c18 c3
  generalize (W2.drewN nq).setCell ⟨g, 16, none⟩ (.int .i64 (x.room - 1)) = W3 at HC2 ⊢
  obtain ⟨c18, hch⟩ := HC2
  have HCh := Hid.mk' hch
  clear hch
  go_still_tail 8, (by kernel_rfl)
  change wpList _ _ _ _ _ (World.drew _)
  go_wp2_with (go_at_call 149; fail)
  refine HCh.out.mono ?_
  rintro e W4 ⟨rfl, h4⟩
  obtain ⟨hB, c', c12, hput⟩ := HP.out W4 h4
  unfold ptr at c12 hput
  have HB := Hid.mk' hB
  have HPut := Hid.mk' hput
  clear HP h4 HCh c18 hB hput
  go_wp2
  go_still_tail 6, (by kernel_rfl)
  refine wpStill_loadM rfl (.tmp 5) rfl W.heap.size 0 rfl f HB.out ?_
  repeat still_step
  refine wpStill_nil ?_
  change wpList _ _ _ _ _ (World.drew _)
  go_wp2_with (go_at_call 150; fail)
  refine HPut.out.mono ?_
  rintro e W5 ⟨rfl, h5⟩
  have H5 := Hid.mk' h5
  clear h5 HPut HB
  go_wp2
  go_ret
  exact ⟨rfl, H5.out⟩
/-- A block is written by a log that lives. -/
theorem LogI.write (h : LogI w W g d x t book ks) {k : Int} {f : Nat → Int} (hf : Can f) (hr : refL x t true = 0) (hk : 1 + x.l ≤ k ∧ k < x.b) (hby : byB x k x.steps = false) (hz : x.room ≠ 0) :
    Calls Tryz.prog 136 #[ptr g, .int .i64 k, .agg (blk f)] W fun e W' => e = .returned (.int .i64 0) ∧ LogI w W' g d { changeL x k x.steps with room := x.room - 1 } t (fun j => if j = k then f else book j) ks := by
  obtain ⟨s, h1, h2⟩ := h
  have hs := claimed_live (refL_live hr).1
  have hlen := h2.len
  have hrm := h2.room
  have hfi := h2.fine
  refine (writeL_first h1 hf hr hk hfi.1 hfi.2.2.2.2.1 hby (h2.used hs (h2.dat hk)) ⟨by omega, by omega⟩ (by have := hfi.2.1; omega)).mono ?_
  rintro e W' ⟨rfl, h3⟩
  refine ⟨rfl, _, h3, h2.change hs hk (fun _ => ?_) ⟨by omega, by omega⟩ h3.ok.1⟩
  have := h2.more (refL_live hr).2
  omega
theorem change_same (x : LSt) (k : Int) (h : byB x k x.steps = true) : { changeL x k x.steps with room := x.room } = x := by
  unfold byB at h
  have hl : x.last k = some x.steps := by simpa using h
  unfold changeL
  have h2 : (fun y => if y = k then some x.steps else x.last y) = x.last := by
    funext y
    by_cases e : y = k
    · rw [if_pos e, e, hl]
    · rw [if_neg e]
  simp only [h2]
  rw [if_neg (by rw [hl]; simp)]
theorem LogI.rewrite (h : LogI w W g d x t book ks) {k : Int} {f : Nat → Int} (hf : Can f) (hr : refL x t true = 0) (hk : 1 + x.l ≤ k ∧ k < x.b) (hby : byB x k x.steps = true) :
    Calls Tryz.prog 136 #[ptr g, .int .i64 k, .agg (blk f)] W fun e W' => e = .returned (.int .i64 0) ∧ LogI w W' g d x t (fun j => if j = k then f else book j) ks := by
  obtain ⟨s, h1, h2⟩ := h
  have hs := claimed_live (refL_live hr).1
  have hfi := h2.fine
  refine (writeL_again h1 hf hr hk hfi.1 hfi.2.2.2.2.1 hby (h2.used hs (h2.dat hk))).mono ?_
  rintro e W' ⟨rfl, h3⟩
  have h4 := h2.change (n := x.steps) (r := x.room) hs hk (fun hn => by
    have : x.last k = some x.steps := by unfold byB at hby; simpa using hby
    rw [(h2.last k).2 hn] at this
    cases this) ⟨h2.room.1, Int.le_refl _⟩ h3.ok.1
  rw [change_same x k hby] at h4
  exact ⟨rfl, _, h3, h4⟩
end Go.Proofs.YtiadlcjdpbkbkaaGreatD
/- What is no log is refused by every call; a step ends; no condition. -/
namespace Go.Proofs.YtiadlcjdpbkbkaaGreatD
open Go.RowKit Go.Maps
variable {w W : World} {g d c mb : Nat} {v : Value} {x : LSt} {s : CSt} {t : St} {os ks : List (Nat × Obj)} {base : Nat} {book : Int → Nat → Int}
theorem beginL_none {v : Value} (h : NoneAt W v) (r : Int) : Calls Tryz.prog 16 #[v, .int .i64 r] W fun e W' => e = .returned (.int .i64 1) ∧ W' = W := by
  have h0 := refusesL_none h false
  go_enter Tryz.func16, Tryz.ntmps16
  go_wp2_with (first | (go_at_call 40; refine h0.mono ?_; rintro e W ⟨rfl, rfl⟩))
  go_ret
  exact ⟨rfl, rfl⟩
theorem endL_none {v : Value} (h : NoneAt W v) : Calls Tryz.prog 19 #[v] W fun e W' => e = .returned (.int .i64 1) ∧ W' = W := by
  have h0 := refusesL_none h true
  go_enter Tryz.func19, Tryz.ntmps19
  go_wp2_with (first | (go_at_call 40; refine h0.mono ?_; rintro e W ⟨rfl, rfl⟩))
  go_ret
  exact ⟨rfl, rfl⟩
theorem syncL_none {v : Value} (h : NoneAt W v) : Calls Tryz.prog 191 #[v] W fun e W' => e = .returned (.int .i64 1) ∧ W' = W := by
  have h0 := refusesL_none h false
  go_enter Tryz.func191, Tryz.ntmps191
  go_wp2_with (first | (go_at_call 40; refine h0.mono ?_; rintro e W ⟨rfl, rfl⟩))
  go_ret
  exact ⟨rfl, rfl⟩
theorem retL {fn : Func} {p : Tmp} {R : Ending → World → Prop} {a : Act} {w : World} (h : fn.results = #[.cell p 43]) (g : Nat) (cs : Array Value) (hs : cs.size = 9)
    (hp : a.tmps.getD p undef = .pointer (some ⟨g, 0, none⟩)) (hg : w.heap[g]? = some (.cells cs 43)) (hd : a.defers = []) (hR : R (.returned (.agg cs)) w) : bodyPost Tryz.prog fn R .ret a w :=
  bodyPost_ret (results_cell_row h a.tmps w g 43 cs (0, 0) _ hp hg Tryz.underlying43 rfl (by rw [hs]; exact H.size25L)) hd hR
theorem endL_ref (h : LogSit w W g d x s t ks) {e0 : Int} (hr : refL x t true = e0) (h0 : e0 ≠ 0) : Calls Tryz.prog 19 #[ptr g] W fun e W' => e = .returned (.int .i64 e0) ∧ LogSit w W' g d x s t ks := by
  obtain ⟨c, mb, v, os, h⟩ := h
  have hc : Calls Tryz.prog 40 #[ptr g, .bool true] W fun e W' => e = .returned (.int .i64 e0) ∧ LogSit w W' g d x s t ks := by
    refine (h.refuses true).mono ?_
    rintro e W' ⟨rfl, m, rfl⟩
    exact ⟨by rw [hr], c, mb, v, os, h.later (below_drewN _ m)⟩
  clear h hr
  unfold ptr at *
  go_enter Tryz.func19, Tryz.ntmps19
  go_wp2_with (first | (go_at_call 40; refine hc.mono ?_; rintro e W1 ⟨rfl, h1⟩))
  go_ret
  exact ⟨rfl, h1⟩
def endX (x : LSt) : LSt := { x with opn := false, steps := x.steps + 1 }
theorem endL_ok (h : LogSit w W g d x s t ks) (hr : refL x t true = 0) (hst : 0 ≤ x.steps ∧ x.steps ≤ 1099511627776) : Calls Tryz.prog 19 #[ptr g] W fun e W' => e = .returned (.int .i64 0) ∧ LogSit w W' g d (endX x) s t ks := by
  obtain ⟨c, mb, v, os, h⟩ := h
  have hc : Calls Tryz.prog 40 #[ptr g, .bool true] W fun e W' => e = .returned (.int .i64 0) ∧ W'.cell? ⟨g, 15, none⟩ = some (.bool x.opn) ∧ W'.cell? ⟨g, 18, none⟩ = some (.int .i64 x.steps) ∧ W'.frozen? ⟨g, 15, none⟩ = false ∧ W'.frozen? ⟨g, 18, none⟩ = false ∧ Hid (LogSit w W' g d x s t ks) := by
    refine (h.refuses true).mono ?_
    rintro e W' ⟨rfl, m, rfl⟩
    have h1 := h.later (below_drewN _ m)
    exact ⟨by rw [hr], h1.log.c15, h1.log.c18, h1.log.free 15, h1.log.free 18, c, mb, v, os, h1⟩
  clear h hr
  unfold ptr at *
  go_enter Tryz.func19, Tryz.ntmps19
  go_wp2_with (first | (go_at_call 40; refine hc.mono ?_; rintro e W1 ⟨rfl, c15, c18, f15, f18, h1⟩))
  go_ret
  exact ⟨rfl, (h1.out.setOpn false).setSteps (x.steps + 1)⟩
theorem LogI.ends (h : LogI w W g d x t book ks) (hr : refL x t true = 0) (hst : x.steps < 1099511627776) : Calls Tryz.prog 19 #[ptr g] W fun e W' => e = .returned (.int .i64 0) ∧ LogI w W' g d (endX x) t book ks := by
  obtain ⟨s, h1, h2⟩ := h
  refine (endL_ok h1 hr h2.steps).mono ?_
  rintro e W' ⟨rfl, h3⟩
  exact ⟨rfl, s, h3, h2.fine, h2.c, h2.nd, h2.rng, h2.fast, h2.last, h2.len, ⟨by have := h2.steps; show 0 ≤ x.steps + 1; omega, by show x.steps + 1 ≤ _; omega⟩, h2.commits, h2.room, fun q => by cases q⟩
end Go.Proofs.YtiadlcjdpbkbkaaGreatD
