/- A disk with whatever stays beside it while the disk alone turns: each call in one form; no condition but that numbers do not pass their greatest. -/
import Derived.Test.YtembocfghkmieaaPuts
namespace Go.Proofs.Ytembocfghkmieaa
open Go.RowKit

/-- P stays while nothing turns but the disk's own blocks and new ones. -/
def Stays (P : World → Loc → Prop) : Prop := ∀ W W' L L', (∀ k, L.has k → k < W.heap.size) → P W L → Goes W W' L L' → P W' L'
/-- The disk at d stands for s, and P. -/
def Has (P : World → Loc → Prop) (W : World) (d : Nat) (s : St) : Prop := ∃ L : Loc, L.d = d ∧ DiskAt W L s ∧ P W L
variable {P : World → Loc → Prop} {W : World} {d : Nat} {s : St}
theorem Has.ok (h : Has P W d s) : Ok s := by
  obtain ⟨L, _, hD, _⟩ := h
  exact hD.ok
theorem Has.later (hP : Stays P) {W' : World} (h : Has P W d s) (hb : Below W.heap.size W W') : Has P W' d s := by
  obtain ⟨L, hd, hD, hp⟩ := h
  exact ⟨L, hd, hD.later hb, hP W W' L L hD.lt hp (Goes.ofBelow L hb)⟩
theorem Has.goes (hP : Stays P) {W' : World} {L L' : Loc} {s' : St} (hd : L.d = d) (hD : DiskAt W L s) (hp : P W L) (hD' : DiskAt W' L' s') (hG : Goes W W' L L') : Has P W' d s' := ⟨L', hG.d.trans hd, hD', hP W W' L L' hD.lt hp hG⟩
theorem has_stopped (h : Has P W d s) : Calls Try.prog 34 #[.pointer (some ⟨d, 0, none⟩)] W fun e W' => e = .returned (.bool s.stopped) ∧ W' = W := by
  obtain ⟨L, rfl, hD, _⟩ := h
  exact stopped_of hD
theorem has_made (h : Has P W d s) : Calls Try.prog 23 #[.pointer (some ⟨d, 0, none⟩)] W fun e W' => e = .returned (.int .i64 s.made) ∧ W' = W := by
  obtain ⟨L, rfl, hD, _⟩ := h
  exact made_of hD
theorem has_fuse (hP : Stays P) (h : Has P W d s) (n : Int) (hn : n ≤ 9223372036854775807) : Calls Try.prog 31 #[.pointer (some ⟨d, 0, none⟩), .int .i64 n] W fun e W' => e = .returned (.tuple #[]) ∧ Has P W' d (fuseV s n) := by
  obtain ⟨L, rfl, hD, hp⟩ := h
  exact (fuse_of hD n hn).mono fun e W' ⟨h1, h2, h3⟩ => ⟨h1, Has.goes hP rfl hD hp h2 h3⟩
theorem has_read (hP : Stays P) (h : Has P W d s) (hr : Room s) (k : Int) :
    Calls Try.prog 20 #[.pointer (some ⟨d, 0, none⟩), .int .i64 k] W fun e W' => e = .returned (.tuple #[.agg (blk (readB s k)), .int .i64 (refV s k)]) ∧ Has P W' d (readV s k) := by
  obtain ⟨L, rfl, hD, hp⟩ := h
  unfold readB readV
  by_cases hb : refV s k = 0
  · rw [if_pos hb, if_pos hb, hb]
    exact (read_ok hD hr hb).mono fun e W' ⟨h1, h2, h3⟩ => ⟨h1, Has.goes hP rfl hD hp h2 h3⟩
  · rw [if_neg hb, if_neg hb]
    exact (read_bad hD hb).mono fun e W' ⟨h1, h2⟩ => ⟨h1, Has.goes hP rfl hD hp (hD.later h2) (Goes.ofBelow L h2)⟩
theorem has_write (hP : Stays P) (h : Has P W d s) (hr : Room s) (k : Int) {f : Nat → Int} (hf : Can f) :
    Calls Try.prog 33 #[.pointer (some ⟨d, 0, none⟩), .int .i64 k, .agg (blk f)] W fun e W' => e = .returned (.int .i64 (writeE s k)) ∧ Has P W' d (writeV s k f) := by
  obtain ⟨L, rfl, hD, hp⟩ := h
  unfold writeE writeV
  by_cases hb : refV s k = 0
  · rw [if_pos hb, if_pos hb]
    cases hl : lets s
    · exact (write_dead hD hr hb hl f).mono fun e W' ⟨h1, h2, h3⟩ => ⟨h1, Has.goes hP rfl hD hp h2 h3⟩
    · exact (write_ok hD hr hb hl hf).mono fun e W' ⟨h1, L', h2, h3⟩ => ⟨h1, Has.goes hP rfl hD hp h2 h3⟩
  · rw [if_neg hb, if_neg hb]
    exact (write_bad hD hb f).mono fun e W' ⟨h1, h2⟩ => ⟨h1, Has.goes hP rfl hD hp (hD.later h2) (Goes.ofBelow L h2)⟩
theorem has_barrier (hP : Stays P) (h : Has P W d s) (hr : Room s) :
    Calls Try.prog 32 #[.pointer (some ⟨d, 0, none⟩)] W fun e W' => e = .returned (.int .i64 (barE s)) ∧ Has P W' d (barV s) := by
  obtain ⟨L, rfl, hD, hp⟩ := h
  unfold barE barV
  cases hs : s.stopped
  · cases hl : lets s
    · exact (barrier_dead hD hr hs hl).mono fun e W' ⟨h1, h2, h3⟩ => ⟨h1, Has.goes hP rfl hD hp h2 h3⟩
    · exact (barrier_ok hD hr hs hl).mono fun e W' ⟨h1, L', h2, h3⟩ => ⟨h1, Has.goes hP rfl hD hp h2 h3⟩
  · exact (barrier_stopped hD hs).mono fun e W' ⟨h1, h2⟩ => ⟨h1, by rw [h2]; exact ⟨L, rfl, hD, hp⟩⟩
theorem has_crash (hP : Stays P) (h : Has P W d s) {kv : Value} {kl : List Bool} (hkv : BoolsAt W kv kl) (hwl : s.wait.length < 68719476736) (hkl : kl.length < 9223372036854775807) :
    Calls Try.prog 35 #[.pointer (some ⟨d, 0, none⟩), kv] W fun e W' => e = .returned (.int .i64 0) ∧ Has P W' d (crashS s kl) := by
  obtain ⟨L, rfl, hD, hp⟩ := h
  exact (crash_of hD hkv hwl hkl).mono fun e W' ⟨h1, L', h2, h3⟩ => ⟨h1, Has.goes hP rfl hD hp h2 h3⟩
theorem has_pending (hP : Stays P) (h : Has P W d s) (hwl : s.wait.length < 68719476736) :
    Calls Try.prog 25 #[.pointer (some ⟨d, 0, none⟩)] W fun e W' => e = .returned (.slice (some ⟨W.heap.size, 0, none⟩) s.wait.length s.wait.length) ∧ Below W.heap.size W W' ∧ Has P W' d s := by
  have h' := h
  obtain ⟨L, rfl, hD, hp⟩ := h
  exact (pend_of hD hwl).mono fun e W' ⟨h1, _, h3⟩ => ⟨h1, h3, h'.later hP h3⟩
theorem has_history (hP : Stays P) (h : Has P W d s) (hol : s.ops.length < 68719476736) :
    Calls Try.prog 26 #[.pointer (some ⟨d, 0, none⟩)] W fun e W' => e = .returned (.slice (some ⟨W.heap.size, 0, none⟩) s.ops.length s.ops.length) ∧ Below W.heap.size W W' ∧ Has P W' d s := by
  have h' := h
  obtain ⟨L, rfl, hD, hp⟩ := h
  exact (history_of hD hol).mono fun e W' ⟨h1, _, h3⟩ => ⟨h1, h3, h'.later hP h3⟩

/-- Beside the disk: the law's own blocks (a row of blocks at g) and the writes that it waits for (a list at v); all of it new since w. -/
structure Side (w : World) (g : Nat) (hs : List (Nat → Int)) (v : Value) (wl : List Cel) (W : World) (L : Loc) : Prop where
  new : L.from w.heap.size
  below : Below w.heap.size w W
  row : W.heap[g]? = some (.cells (blkCells hs).toArray 58)
  apart : ¬ L.has g
  own : W.ownsRow (g + 1) 85 1025 v wl.length (celCells wl)
  far : ∀ k, v.ownBlock = some k → ¬ L.has k
  gnew : w.heap.size ≤ g
variable {w : World} {g : Nat} {hs : List (Nat → Int)} {v : Value} {wl : List Cel}
theorem side_stays (w : World) (g : Nat) (hs : List (Nat → Int)) (v : Value) (wl : List Cel) : Stays (Side w g hs v wl) := by
  intro W W' L L' hlt h hG
  have hgl : g < W.heap.size := (Array.getElem?_eq_some_iff.1 h.row).1
  have hne : ∀ k, k < W.heap.size → ¬ L.has k → ¬ L'.has k := fun k hk hn q => by
    rcases hG.own k q with q | q
    · exact hn q
    · omega
  refine ⟨fun k hk => ?_, h.below.trans (hG.fr.below h.new h.below.size), (hG.fr.block g hgl h.apart).trans h.row, hne g hgl h.apart, ownsRow_kept0 h.own fun k hk => hG.fr.block k (h.own.lt k hk).2 (h.far k hk), fun k hk => hne k (h.own.lt k hk).2 (h.far k hk), h.gnew⟩
  rcases hG.own k hk with q | q
  · exact h.new k q
  · have := h.below.size
    omega
/-- The law's own blocks turn. -/
theorem Has.setH (h : Has (Side w g hs v wl) W d s) (hs' : List (Nat → Int)) : Has (Side w g hs' v wl) (W.setRow g (blkCells hs').toArray) d s := by
  obtain ⟨L, hd, hD, h⟩ := h
  have hF := Fr.setRow W g (blkCells hs').toArray
  refine ⟨L, hd, hD.fr hF fun k hk e => h.apart (e ▸ hk), h.new, below_setRow h.below h.gnew _, setRow_heap _ _ _ _ _ _ h.row, h.apart, ownsRow_kept0 h.own fun k hk => ?_, h.far, h.gnew⟩
  exact setRow_other W g k _ (by have := (h.own.lt k hk).1; omega)
theorem Has.noWait (h : Has (Side w g hs v wl) W d s) : Has (Side w g hs (.slice none 0 0) []) W d s := by
  obtain ⟨L, hd, hD, h⟩ := h
  exact ⟨L, hd, hD, h.new, h.below, h.row, h.apart, World.ownsRow_nil W _ 85 1025, fun k hk => by simp [Value.ownBlock] at hk, h.gnew⟩
theorem Has.below (h : Has (Side w g hs v wl) W d s) : Below w.heap.size w W := by
  obtain ⟨L, hd, hD, h⟩ := h
  exact h.below
theorem Has.row (h : Has (Side w g hs v wl) W d s) : W.heap[g]? = some (.cells (blkCells hs).toArray 58) := by
  obtain ⟨L, hd, hD, h⟩ := h
  exact h.row
theorem Has.own (h : Has (Side w g hs v wl) W d s) : W.ownsRow (g + 1) 85 1025 v wl.length (celCells wl) := by
  obtain ⟨L, hd, hD, h⟩ := h
  exact h.own
/-- A write more is waited for. -/
theorem Has.push {W' : World} {v' : Value} {c : Cel} {o : Obj} (h : Has (Side w g hs v wl) W d s) (ho : W'.ownsRow (g + 1) 85 1025 v' (wl.length + 1) (celCells wl ++ celRow c)) (hg : (W.alloc o).grownBy W' v.ownBlock)
    (hl : v'.ownBlock = v.ownBlock ∨ v'.ownBlock = some (W.alloc o).heap.size) : Has (Side w g hs v' (wl ++ [c])) W' d s := by
  obtain ⟨L, hd, hD, h⟩ := h
  have hF : Fr (fun i => v.ownBlock = some i) W W' := (Fr.alloc _ W o).trans (Fr.ofGrown hg) fun _ _ q => q
  have hgl : g < W.heap.size := (Array.getElem?_eq_some_iff.1 h.row).1
  have hgv : v.ownBlock ≠ some g := fun q => by have := (h.own.lt g q).1; omega
  refine ⟨L, hd, hD.fr hF fun k hk q => h.far k q hk, h.new, ?_, (hF.block g hgl hgv).trans h.row, h.apart, ?_, fun k hk => ?_, h.gnew⟩
  · exact ⟨hF.os.trans h.below.os, hF.tape.trans h.below.tape, hF.output.trans h.below.output, Nat.le_trans h.below.size hF.size, fun k hk => (hF.block k (by have := h.below.size; omega) fun q => by have := (h.own.lt k q).1; have := h.gnew; omega).trans (h.below.block k hk)⟩
  · rw [List.length_append, List.length_singleton, celCells_append, celCells_one]
    exact ho
  · rcases hl with q | q
    · exact h.far k (q ▸ hk)
    · rw [q] at hk
      injection hk with hk
      simp at hk
      exact fun r => by have := hD.lt k r; omega
end Go.Proofs.Ytembocfghkmieaa
