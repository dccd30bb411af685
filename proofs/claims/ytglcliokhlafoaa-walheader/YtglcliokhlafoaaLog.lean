/- A log in memory, beside its cache and its disk: its row of nineteen cells, the list of its group, the map of last steps; how it stays, how it turns; no condition. -/
import Derived.Test.YtglcliokhlafoaaBooks
import Derived.Test.YtglcliokhlafoaaHDec
import Derived.Defers
namespace Go.Proofs.Ytglcliokhlafoaa
open Go.RowKit Go.Maps

/-- What a log stands for. -/
structure LSt where
  b : Int
  l : Int
  i : Int
  claim : Int
  blocks : List Int
  last : Int → Option Int
  opn : Bool
  room : Int
  commits : Int
  steps : Int
def layA (b l i : Int) : Array Value := H.lay9 b l i 1 (1 + l) (H.nodeB i) (H.bitsAt l i) (H.bitsB b) (H.dataAt b l i)
def lgRow (g d c mb : Nat) (v : Value) (x : LSt) : Array Value :=
  #[ptr g, ptr d, .int .i64 x.claim, .int .i64 x.b, .int .i64 x.l, .int .i64 x.i, .int .i64 1, .int .i64 (1 + x.l), .int .i64 (H.nodeB x.i), .int .i64 (H.bitsAt x.l x.i), .int .i64 (H.bitsB x.b), .int .i64 (H.dataAt x.b x.l x.i), ptr c, v, .map (some mb), .bool x.opn, .int .i64 x.room, .int .i64 x.commits, .int .i64 x.steps]
def lastM (x : LSt) : Int → Option Value := fun k => (x.last k).map (Value.int .i64)
def LHas (g mb : Nat) (v : Value) (k : Nat) : Prop := k = g ∨ k = mb ∨ v.ownBlock = some k
/-- The log's own blocks. -/
structure LogAt (W : World) (base : Nat) (g d c mb : Nat) (v : Value) (x : LSt) : Prop where
  row : W.heap[g]? = some (.cells (lgRow g d c mb v x) 86)
  map : MapIs Try.prog 3 W mb (lastM x)
  own : H.OwnZ W base v x.blocks
variable {w W : World} {g d c mb : Nat} {v : Value} {x : LSt} {s : CSt} {t : St} {ks : List (Nat × Obj)} {base : Nat}
theorem LogAt.lt (h : LogAt W base g d c mb v x) (k : Nat) (hk : LHas g mb v k) : k < W.heap.size := by
  rcases hk with rfl | rfl | hk
  · exact (Array.getElem?_eq_some_iff.1 h.row).1
  · exact h.map.lt
  · exact (World.ownsRow.lt h.own k hk).2
theorem LogAt.kept {W' : World} (h : LogAt W base g d c mb v x) (hb : ∀ k, LHas g mb v k → W'.heap[k]? = W.heap[k]?) : LogAt W' base g d c mb v x :=
  ⟨(hb _ (.inl rfl)).trans h.row, h.map.kept (hb _ (.inr (.inl rfl))), ownsRow_kept0 h.own fun k hk => hb k (.inr (.inr hk))⟩
theorem LogAt.cell (h : LogAt W base g d c mb v x) (i : Nat) : W.cell? ⟨g, i, none⟩ = (lgRow g d c mb v x)[i]? := Joins.cell_of_block h.row i
theorem LogAt.gm (h : LogAt W base g d c mb v x) : g ≠ mb := by
  intro e
  have h1 := h.row
  obtain ⟨es, cl, h2⟩ := h.map.isMap
  rw [e, h2] at h1
  cases h1
theorem LogAt.gv (h : LogAt W base g d c mb v x) : v.ownBlock ≠ some g := by
  intro e
  have h1 := h.row
  rcases h.own.2 with q | ⟨g', cap, cur, rfl, hB, hg, rest⟩
  · rw [q.1] at e; cases e
  · cases e
    rw [hg] at h1
    injection h1 with h1
    injection h1 with _ h1
    cases h1
theorem LogAt.mv (h : LogAt W base g d c mb v x) : v.ownBlock ≠ some mb := by
  intro e
  obtain ⟨es, cl, h1⟩ := h.map.isMap
  rcases h.own.2 with q | ⟨g', cap, cur, rfl, hB, hg, rest⟩
  · rw [q.1] at e; cases e
  · cases e
    rw [hg] at h1
    cases h1
theorem Sit.turn {W' : World} {ks' : List (Nat × Obj)} {T : Nat → Prop} (h : Sit w W c d s t ks) (hf : Fr T W W') (hT : ∀ k, T k → w.heap.size ≤ k ∧ ∃ o, (k, o) ∈ ks)
    (hks : ∀ p ∈ ks', W'.heap[p.1]? = some p.2 ∧ ((∃ o, (p.1, o) ∈ ks) ∨ W.heap.size ≤ p.1)) : Sit w W' c d s t ks' := by
  obtain ⟨K, L, hc, hd, h⟩ := h
  have hTK : ∀ k, K.has k → ¬ T k := fun k hk q => by
    obtain ⟨o, ho⟩ := (hT k q).2
    exact (h.keep _ ho).2.1 hk
  have hTL : ∀ k, L.has k → ¬ T k := fun k hk q => by
    obtain ⟨o, ho⟩ := (hT k q).2
    exact (h.keep _ ho).2.2 hk
  refine ⟨K, L, hc, hd, ⟨h.cd.cache.fr hf hTK, h.cd.disk.fr hf hTL, h.cd.d, h.cd.apart⟩, h.newK, h.newL, h.below.trans (hf.below (fun i q => (hT i q).1) h.below.size), fun p hp => ?_⟩
  obtain ⟨h1, h2⟩ := hks p hp
  refine ⟨h1, fun q => ?_, fun q => ?_⟩
  · rcases h2 with ⟨o, ho⟩ | h2
    · exact (h.keep _ ho).2.1 q
    · have := h.cd.cache.lt _ q; omega
  · rcases h2 with ⟨o, ho⟩ | h2
    · exact (h.keep _ ho).2.2 q
    · have := h.cd.disk.lt _ q; omega
/-- In W, which has come of w, the log at g over the disk at d stands for x, its cache for s, the disk for t; the blocks of ks stay. -/
structure LS (w W : World) (g d c mb : Nat) (v : Value) (x : LSt) (s : CSt) (t : St) (os ks : List (Nat × Obj)) : Prop where
  sit : Sit w W c d s t (os ++ ks)
  log : LogAt W w.heap.size g d c mb v x
  own : ∀ k, LHas g mb v k → w.heap.size ≤ k ∧ ∃ o, (k, o) ∈ os
  ap : ∀ p ∈ ks, ¬ LHas g mb v p.1
def LogSit (w W : World) (g d : Nat) (x : LSt) (s : CSt) (t : St) (ks : List (Nat × Obj)) : Prop := ∃ c mb v os, LS w W g d c mb v x s t os ks
variable {os : List (Nat × Obj)}
/-- The cache or the disk has turned. -/
theorem LS.step {W' : World} {s' : CSt} {t' : St} (h : LS w W g d c mb v x s t os ks) (hs : Sit w W' c d s' t' (os ++ ks)) : LS w W' g d c mb v x s' t' os ks := by
  refine ⟨hs, h.log.kept fun k hk => ?_, h.own, h.ap⟩
  obtain ⟨_, o, ho⟩ := h.own k hk
  rw [hs.blk (List.mem_append.2 (.inl ho)), h.sit.blk (List.mem_append.2 (.inl ho))]
theorem LS.later {W' : World} (h : LS w W g d c mb v x s t os ks) (hb : Below W.heap.size W W') : LS w W' g d c mb v x s t os ks := h.step (h.sit.later hb)
/-- The log itself has turned. -/
theorem LS.turn {W' : World} {mb' : Nat} {v' : Value} {x' : LSt} {T : Nat → Prop} (h : LS w W g d c mb v x s t os ks) (hf : Fr T W W') (hT : ∀ k, T k → LHas g mb v k)
    (hl : LogAt W' w.heap.size g d c mb' v' x') (hn : ∀ k, LHas g mb' v' k → LHas g mb v k ∨ W.heap.size ≤ k) : LogSit w W' g d x' s t ks := by
  have hobj : ∀ k, LHas g mb' v' k → ∃ o, W'.heap[k]? = some o := fun k hk => by
    have := hl.lt k hk
    exact ⟨W'.heap[k], Array.getElem?_eq_getElem this⟩
  have hbase := h.sit.below.size
  have hown : ∀ k, LHas g mb' v' k → w.heap.size ≤ k ∧ ((∃ o, (k, o) ∈ os ++ ks) ∨ W.heap.size ≤ k) := fun k hk => by
    rcases hn k hk with q | q
    · obtain ⟨h1, o, ho⟩ := h.own k q
      exact ⟨h1, .inl ⟨o, List.mem_append.2 (.inl ho)⟩⟩
    · exact ⟨by omega, .inr q⟩
  obtain ⟨og, hog⟩ := hobj g (.inl rfl)
  obtain ⟨om, hom⟩ := hobj mb' (.inr (.inl rfl))
  have hks : ∀ p ∈ ks, W'.heap[p.1]? = some p.2 ∧ ((∃ o, (p.1, o) ∈ os ++ ks) ∨ W.heap.size ≤ p.1) ∧ ¬ LHas g mb' v' p.1 := fun p hp => by
    have h1 := h.sit.blk (List.mem_append.2 (.inr hp) : (p.1, p.2) ∈ os ++ ks)
    have hlt := (Array.getElem?_eq_some_iff.1 h1).1
    refine ⟨(hf.block p.1 hlt fun q => h.ap p hp (hT _ q)).trans h1, .inl ⟨p.2, List.mem_append.2 (.inr hp)⟩, fun q => ?_⟩
    rcases hn _ q with q | q
    · exact h.ap p hp q
    · omega
  have hTo : ∀ k, T k → w.heap.size ≤ k ∧ ∃ o, (k, o) ∈ os ++ ks := fun k hk => by
    obtain ⟨h1, o, ho⟩ := h.own k (hT k hk)
    exact ⟨h1, o, List.mem_append.2 (.inl ho)⟩
  cases hv : v'.ownBlock with
  | none =>
    refine ⟨c, mb', v', [(g, og), (mb', om)], h.sit.turn hf hTo fun p hp => ?_, hl, fun k hk => ⟨(hown k hk).1, ?_⟩, fun p hp => (hks p hp).2.2⟩
    · rcases List.mem_append.1 hp with hp | hp
      · simp only [List.mem_cons, List.not_mem_nil, or_false] at hp
        rcases hp with rfl | rfl
        · exact ⟨hog, (hown g (.inl rfl)).2⟩
        · exact ⟨hom, (hown mb' (.inr (.inl rfl))).2⟩
      · exact ⟨(hks p hp).1, (hks p hp).2.1⟩
    · rcases hk with rfl | rfl | hk
      · exact ⟨og, by simp⟩
      · exact ⟨om, by simp⟩
      · rw [hv] at hk; cases hk
  | some q =>
    obtain ⟨oq, hoq⟩ := hobj q (.inr (.inr hv))
    refine ⟨c, mb', v', [(g, og), (mb', om), (q, oq)], h.sit.turn hf hTo fun p hp => ?_, hl, fun k hk => ⟨(hown k hk).1, ?_⟩, fun p hp => (hks p hp).2.2⟩
    · rcases List.mem_append.1 hp with hp | hp
      · simp only [List.mem_cons, List.not_mem_nil, or_false] at hp
        rcases hp with rfl | rfl | rfl
        · exact ⟨hog, (hown g (.inl rfl)).2⟩
        · exact ⟨hom, (hown mb' (.inr (.inl rfl))).2⟩
        · exact ⟨hoq, (hown _ (.inr (.inr hv))).2⟩
      · exact ⟨(hks p hp).1, (hks p hp).2.1⟩
    · rcases hk with rfl | rfl | hk
      · exact ⟨og, by simp⟩
      · exact ⟨om, by simp⟩
      · rw [hv] at hk; cases hk; exact ⟨oq, by simp⟩
/-- A cell of the log's row is written. -/
theorem LogAt.setCell {x' : LSt} (h : LogAt W base g d c mb v x) (i : Nat) (u : Value) (hr : (lgRow g d c mb v x).setIfInBounds i u = lgRow g d c mb v x') (hb : x'.blocks = x.blocks) (hl : x'.last = x.last) : LogAt (W.setCell ⟨g, i, none⟩ u) base g d c mb v x' := by
  have hf := Fr.setCell W g i u
  refine ⟨?_, ?_, ?_⟩
  · rw [← hr]
    exact Joins.block_setCell h.row u
  · unfold lastM
    rw [hl]
    exact h.map.kept (hf.block mb h.map.lt fun q => h.gm q.symm)
  · rw [hb]
    exact ownsRow_kept0 h.own fun k hk => hf.block k (World.ownsRow.lt h.own k hk).2 fun q => h.gv (by rw [← q]; exact hk)
theorem LS.setCell {x' : LSt} (h : LS w W g d c mb v x s t os ks) (i : Nat) (u : Value) (hr : (lgRow g d c mb v x).setIfInBounds i u = lgRow g d c mb v x') (hb : x'.blocks = x.blocks) (hl : x'.last = x.last) : LogSit w (W.setCell ⟨g, i, none⟩ u) g d x' s t ks :=
  h.turn (Fr.setCell W g i u) (fun _ hk => .inl hk) (h.log.setCell i u hr hb hl) fun _ hk => .inl hk
end Go.Proofs.Ytglcliokhlafoaa
