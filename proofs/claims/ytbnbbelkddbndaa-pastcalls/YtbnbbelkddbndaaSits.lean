/- A disk that a function made itself, with blocks beside it that stay: each call once more, in one form; no condition but that numbers do not pass their greatest. -/
import Derived.Test.YtbnbbelkddbndaaImages
namespace Go.Proofs.Ytbnbbelkddbndaa
open Go.RowKit

/-- In W, which has come of w, the disk at d stands for s; all of it is new since w; so nothing that w had has turned; the blocks of ks hold what is told, and are none of the disk's. -/
structure SitsL (w W : World) (L : Loc) (s : St) (ks : List (Nat × Obj)) : Prop where
  disk : DiskAt W L s
  new : L.from w.heap.size
  below : Below w.heap.size w W
  keep : ∀ p ∈ ks, W.heap[p.1]? = some p.2 ∧ ¬ L.has p.1
def Sits (w W : World) (d : Nat) (s : St) (ks : List (Nat × Obj)) : Prop := ∃ L : Loc, L.d = d ∧ SitsL w W L s ks
theorem SitsL.goes {w W W' : World} {L L' : Loc} {s s' : St} {ks : List (Nat × Obj)} (h : SitsL w W L s ks) (hD : DiskAt W' L' s') (hG : Goes W W' L L') : SitsL w W' L' s' ks := by
  refine ⟨hD, fun k hk => ?_, h.below.trans (hG.fr.below h.new h.below.size), fun p hp => ?_⟩
  · rcases hG.own k hk with q | q
    · exact h.new k q
    · have := h.below.size
      omega
  · obtain ⟨h1, h2⟩ := h.keep p hp
    have hlt := (Array.getElem?_eq_some_iff.1 h1).1
    refine ⟨(hG.fr.block p.1 hlt h2).trans h1, fun q => ?_⟩
    rcases hG.own p.1 q with q | q
    · exact h2 q
    · omega
variable {w W : World} {d : Nat} {s : St} {ks : List (Nat × Obj)}
theorem Sits.later {W' : World} (h : Sits w W d s ks) (hb : Below W.heap.size W W') : Sits w W' d s ks := by
  obtain ⟨L, hd, h⟩ := h
  exact ⟨L, hd, h.goes (h.disk.later hb) (Goes.ofBelow L hb)⟩
/-- Another block is told. -/
theorem Sits.add (h : Sits w W d s ks) (o : Obj) : Sits w (W.alloc o) d s ((W.heap.size, o) :: ks) := by
  obtain ⟨L, hd, h⟩ := h
  have h2 := h.goes (h.disk.later (below_new W o)) (Goes.ofBelow L (below_new W o))
  refine ⟨L, hd, h2.disk, h2.new, h2.below, fun p hp => ?_⟩
  rcases List.mem_cons.1 hp with rfl | hp
  · exact ⟨heap_alloc_new W o, fun q => by have := h.disk.lt _ q; simp only at this; omega⟩
  · exact h2.keep p hp
theorem Sits.blk (h : Sits w W d s ks) {g : Nat} {o : Obj} (hm : (g, o) ∈ ks) : W.heap[g]? = some o := by
  obtain ⟨L, hd, h⟩ := h
  exact (h.keep _ hm).1
theorem Sits.below (h : Sits w W d s ks) : Below w.heap.size w W := by
  obtain ⟨L, hd, h⟩ := h
  exact h.below
theorem Sits.ok (h : Sits w W d s ks) : Ok s := by
  obtain ⟨L, hd, h⟩ := h
  exact h.disk.ok
theorem Sits.drop (h : Sits w W d s ks) {ks' : List (Nat × Obj)} (hs : ∀ p ∈ ks', p ∈ ks) : Sits w W d s ks' := by
  obtain ⟨L, hd, h⟩ := h
  exact ⟨L, hd, h.disk, h.new, h.below, fun p hp => h.keep p (hs p hp)⟩
/-- A disk is made, with blocks that are there. -/
theorem sits_new {n : Int} (hn : bndB n = true) (hB : Below w.heap.size w W) (hk : ∀ p ∈ ks, W.heap[p.1]? = some p.2) :
    Calls Try.prog 66 #[.int .i64 n] W fun e W' => ∃ d, e = .returned (.tuple #[.pointer (some ⟨d, 0, none⟩), .int .i64 0]) ∧ Sits w W' d (newV n) ks := by
  refine (new_ok hn W).mono ?_
  rintro e W' ⟨L, rfl, hD, hL, hb⟩
  refine ⟨L.d, rfl, L, rfl, hD, fun k hk => by have := hL k hk; have := hB.size; omega, below_next hB hb, fun p hp => ?_⟩
  have h1 := hk p hp
  have hlt := (Array.getElem?_eq_some_iff.1 h1).1
  exact ⟨heap_kept h1 hb, fun q => by have := hL _ q; omega⟩
def writeV (s : St) (k : Int) (f : Nat → Int) : St := if refV s k = 0 then (if lets s then writeS s k f else letV s) else s
def writeE (s : St) (k : Int) : Int := if refV s k = 0 then (if lets s then 0 else 3) else refV s k
theorem sits_write (h : Sits w W d s ks) (hr : Room s) (k : Int) {f : Nat → Int} (hf : Can f) :
    Calls Try.prog 33 #[.pointer (some ⟨d, 0, none⟩), .int .i64 k, .agg (blk f)] W fun e W' => e = .returned (.int .i64 (writeE s k)) ∧ Sits w W' d (writeV s k f) ks := by
  obtain ⟨L, rfl, hS⟩ := h
  unfold writeE writeV
  by_cases hb : refV s k = 0
  · rw [if_pos hb, if_pos hb]
    cases hl : lets s
    · exact (write_dead hS.disk hr hb hl f).mono fun e W' ⟨h1, h2, h3⟩ => ⟨h1, L, rfl, hS.goes h2 h3⟩
    · exact (write_ok hS.disk hr hb hl hf).mono fun e W' ⟨h1, L', h2, h3⟩ => ⟨h1, L', h3.d, hS.goes h2 h3⟩
  · rw [if_neg hb, if_neg hb]
    exact (write_bad hS.disk hb f).mono fun e W' ⟨h1, h2⟩ => ⟨h1, L, rfl, hS.goes (hS.disk.later h2) (Goes.ofBelow L h2)⟩
def barV (s : St) : St := if s.stopped then s else (if lets s then barS s else letV s)
def barE (s : St) : Int := if s.stopped then 3 else (if lets s then 0 else 3)
theorem sits_barrier (h : Sits w W d s ks) (hr : Room s) :
    Calls Try.prog 32 #[.pointer (some ⟨d, 0, none⟩)] W fun e W' => e = .returned (.int .i64 (barE s)) ∧ Sits w W' d (barV s) ks := by
  obtain ⟨L, rfl, hS⟩ := h
  unfold barE barV
  cases hs : s.stopped
  · cases hl : lets s
    · exact (barrier_dead hS.disk hr hs hl).mono fun e W' ⟨h1, h2, h3⟩ => ⟨h1, L, rfl, hS.goes h2 h3⟩
    · exact (barrier_ok hS.disk hr hs hl).mono fun e W' ⟨h1, L', h2, h3⟩ => ⟨h1, L', h3.d, hS.goes h2 h3⟩
  · exact (barrier_stopped hS.disk hs).mono fun e W' ⟨h1, h2⟩ => ⟨h1, by rw [h2]; exact ⟨L, rfl, hS⟩⟩
theorem sits_crash (h : Sits w W d s ks) {kv : Value} {kl : List Bool} (hkv : BoolsAt W kv kl) (hwl : s.wait.length < 68719476736) (hkl : kl.length < 9223372036854775807) :
    Calls Try.prog 36 #[.pointer (some ⟨d, 0, none⟩), kv] W fun e W' => e = .returned (.int .i64 0) ∧ Sits w W' d (crashS s kl) ks := by
  obtain ⟨L, rfl, hS⟩ := h
  exact (crash_of hS.disk hkv hwl hkl).mono fun e W' ⟨h1, L', h2, h3⟩ => ⟨h1, L', h3.d, hS.goes h2 h3⟩
theorem sits_pending (h : Sits w W d s ks) (hwl : s.wait.length < 68719476736) :
    Calls Try.prog 35 #[.pointer (some ⟨d, 0, none⟩)] W fun e W' => e = .returned (.slice (some ⟨W.heap.size, 0, none⟩) s.wait.length s.wait.length) ∧ W'.heap[W.heap.size]? = some (.cells (iRow (posF s.wait) s.wait.length) 3) ∧ Sits w W' d s ks := by
  have h' := h
  obtain ⟨L, rfl, hS⟩ := h
  exact (pend_of hS.disk hwl).mono fun e W' ⟨h1, h2, h3⟩ => ⟨h1, h2, h'.later h3⟩
theorem sits_history (h : Sits w W d s ks) (hol : s.ops.length < 68719476736) :
    Calls Try.prog 34 #[.pointer (some ⟨d, 0, none⟩)] W fun e W' => e = .returned (.slice (some ⟨W.heap.size, 0, none⟩) s.ops.length s.ops.length) ∧ W'.heap[W.heap.size]? = some (.cells (opCells s.ops).toArray 42) ∧ Sits w W' d s ks := by
  have h' := h
  obtain ⟨L, rfl, hS⟩ := h
  exact (history_of hS.disk hol).mono fun e W' ⟨h1, h2, h3⟩ => ⟨h1, h2, h'.later h3⟩
theorem sits_image (h : Sits w W d s ks) :
    Calls Try.prog 37 #[.pointer (some ⟨d, 0, none⟩)] W fun e W' => ∃ (g : Nat) (l : List Cel), e = .returned (.agg #[.int .i64 s.n, .slice (some ⟨g, 0, none⟩) l.length l.length]) ∧ IsImage s l ∧ W'.heap[g]? = some (.cells (celCells l).toArray 44) ∧ W.heap.size ≤ g ∧ Sits w W' d s ks := by
  have h' := h
  obtain ⟨L, rfl, hS⟩ := h
  exact (image_walk hS.disk).mono fun e W' ⟨g, l, h1, h2, h3, h4, h5⟩ => ⟨g, l, h1, h2, h3, h4, h'.later h5⟩
/-- Of what is held alone an image knows. -/
theorem IsImage.one {s : St} {l m : List Cel} (h : IsImage s l) (hr : Rise (-1) m) (hs : Sound m) (ha : ∀ k, atL m k = (s.held k).getD nought) : l = m := rise_ext h.rise hr h.sound hs fun k => (h.at_ k).trans (ha k).symm
theorem IsImage.none {s : St} {l : List Cel} (h : IsImage s l) (hn : ∀ k, s.held k = none) : l = [] := h.one (m := []) trivial (fun c hc => by simp at hc) fun k => by rw [hn k]; rfl
end Go.Proofs.Ytbnbbelkddbndaa
