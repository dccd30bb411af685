/- A disk of 400 blocks that lives, beside rows: each call; mounted with a header of one block, and with one that may not be. -/
import Derived.Test.YtiadlcjdpbkbkaaGreatJ15
namespace Go.Proofs.YtiadlcjdpbkbkaaGreatD
open Go.RowKit Go.Maps
/-- The disk at d, made since w, lives, has no fuse, has let M through, holds bk; the rows of ks stand beside it. -/
def Dk (w W : World) (d : Nat) (ks : List (Nat × Obj)) (M : Int) (bk : Int → Nat → Int) (r : Nat) : Prop := ∃ t, Sits w W d t ks ∧ Li M bk r t
variable {w W W' : World} {d r : Nat} {ks ks' : List (Nat × Obj)} {M : Int} {bk : Int → Nat → Int}
theorem Dk.later (h : Dk w W d ks M bk r) (hb : Below W.heap.size W W') : Dk w W' d ks M bk r := by
  obtain ⟨t, h, hl⟩ := h
  exact ⟨t, h.later hb, hl⟩
theorem Dk.add (h : Dk w W d ks M bk r) (o : Obj) : Dk w (W.alloc o) d ((W.heap.size, o) :: ks) M bk r := by
  obtain ⟨t, h, hl⟩ := h
  exact ⟨t, h.add o, hl⟩
theorem Dk.drop (h : Dk w W d ks M bk r) (hs : ∀ p ∈ ks', p ∈ ks) : Dk w W d ks' M bk r := by
  obtain ⟨t, h, hl⟩ := h
  exact ⟨t, h.drop hs, hl⟩
theorem Dk.blk (h : Dk w W d ks M bk r) {g : Nat} {o : Obj} (hm : (g, o) ∈ ks) : W.heap[g]? = some o := by
  obtain ⟨t, h, hl⟩ := h
  exact h.blk hm
theorem Dk.below (h : Dk w W d ks M bk r) : Below w.heap.size w W := by
  obtain ⟨t, h, hl⟩ := h
  exact h.below
theorem Dk.ksLt (h : Dk w W d ks M bk r) : ∀ p ∈ ks, p.1 ≠ W.heap.size := by
  obtain ⟨t, h, hl⟩ := h
  exact h.ksLt
theorem Dk.le {q : Nat} (h : Dk w W d ks M bk r) (hq : q ≤ r) : Dk w W d ks M bk q := by
  obtain ⟨t, h, hl⟩ := h
  exact ⟨t, h, hl.le hq⟩
/-- A row beside it is turned. -/
theorem Dk.swap {q : Nat} {o o' : Obj} (h : Dk w W d ((q, o) :: ks) M bk r) (hf : Fr (fun k => k = q) W W') (hq : w.heap.size ≤ q) (hks : ∀ p ∈ ks, p.1 ≠ q) (ho : W'.heap[q]? = some o') : Dk w W' d ((q, o') :: ks) M bk r := by
  obtain ⟨t, ⟨L, hd, hS⟩, hl⟩ := h
  have hnq : ¬ L.has q := (hS.keep (q, o) (List.mem_cons_self ..)).2
  refine ⟨t, ⟨L, hd, hS.disk.fr hf (fun k hk e => hnq (e ▸ hk)), hS.new, hS.below.trans (hf.below (fun i e => by omega) hS.below.size), fun p hp => ?_⟩, hl⟩
  rcases List.mem_cons.1 hp with rfl | hp
  · exact ⟨ho, hnq⟩
  · obtain ⟨h1, h2⟩ := hS.keep p (List.mem_cons_of_mem _ hp)
    exact ⟨(hf.block p.1 (Array.getElem?_eq_some_iff.1 h1).1 (hks p hp)).trans h1, h2⟩
theorem Dk.write (h : Dk w W d ks M bk (r + 1)) {k : Int} (hk : 0 ≤ k ∧ k < 400) {f : Nat → Int} (hf : Can f) :
    Calls Tryz.prog 23 #[.pointer (some ⟨d, 0, none⟩), .int .i64 k, .agg (Go.Proofs.YtiadlcjdpbkbkaaGreat.blk f)] W fun e W' => e = .returned (.int .i64 0) ∧ Dk w W' d ks (M + 1) (fun j => if k = j then f else bk j) r := by
  obtain ⟨t, h, hl⟩ := h
  obtain ⟨h1, h2⟩ := hl.write hk hf
  have h3 := sits_write h hl.room k hf
  rw [h1, Go.Proofs.YtiadlcjdpbkbkaaGreat.blkW] at h3
  refine h3.mono ?_
  rintro e W' ⟨rfl, h4⟩
  exact ⟨rfl, _, h4, h2⟩
theorem Dk.bar (h : Dk w W d ks M bk (r + 1)) :
    Calls Tryz.prog 11 #[.pointer (some ⟨d, 0, none⟩)] W fun e W' => e = .returned (.int .i64 0) ∧ Dk w W' d ks (M + 1) bk r := by
  obtain ⟨t, h, hl⟩ := h
  obtain ⟨h1, h2⟩ := hl.bar
  have h3 := sits_barrier h hl.room
  rw [h1] at h3
  refine h3.mono ?_
  rintro e W' ⟨rfl, h4⟩
  exact ⟨rfl, _, h4, h2⟩
theorem Dk.made (h : Dk w W d ks M bk r) : Calls Tryz.prog 12 #[.pointer (some ⟨d, 0, none⟩)] W fun e W' => e = .returned (.int .i64 M) ∧ W' = W := by
  obtain ⟨t, h, hl⟩ := h
  rw [← hl.made]
  exact sits_made2 h
theorem Dk.read (h : Dk w W d ks M bk (r + 1)) {k : Int} (hk : 0 ≤ k ∧ k < 400) :
    Calls Tryz.prog 24 #[.pointer (some ⟨d, 0, none⟩), .int .i64 k] W fun e W' => e = .returned (.tuple #[.agg (Go.Proofs.YtiadlcjdpbkbkaaGreat.blk (bk k)), .int .i64 0]) ∧ Dk w W' d ks M bk r := by
  obtain ⟨t, h, hl⟩ := h
  have hr := hl.ref hk
  have h3 := sits_read h hl.room k
  unfold readB readV at h3
  rw [hr, if_pos rfl, if_pos rfl, hl.cur, Go.Proofs.YtiadlcjdpbkbkaaGreat.blkW] at h3
  refine h3.mono ?_
  rintro e W' ⟨rfl, h4⟩
  exact ⟨rfl, _, h4, hl.read⟩
/-- The example's file system, but for the log and the data. -/
structure Fk (bk : Int → Nat → Int) : Prop where
  sup : bk 0 = Go.Proofs.YtiadlcjdpbkbkaaGreatP.superF 400 32 60
  sh : ∀ q : Nat, q ≤ 3 → bk (33 + (q : Int)) = Go.Proofs.YtiadlcjdpbkbkaaGreat.coF 400 32 60 (33 + (q : Int))
theorem Fk.set (h : Fk bk) {k : Int} (hk : k = 1 ∨ k = 2) (f : Nat → Int) : Fk (fun j => if k = j then f else bk j) := ⟨(if_neg (by omega)).trans h.sup, fun q hq => (if_neg (by omega)).trans (h.sh q hq)⟩
theorem Dk.put (h : Dk w W d ks M bk 3000) (hf : Fk bk) (h1 : bk 1 = hF) :
    Calls Tryz.prog 9 #[.pointer (some ⟨d, 0, none⟩)] W fun e W' => ∃ gv book, e = .returned (.tuple #[.pointer (some ⟨gv, 0, none⟩), .int .i64 0]) ∧ Dk w W' d ks (M + 4) book 901 ∧ Fk book ∧ book 39 = bk 2 := by
  obtain ⟨t, h, hl⟩ := h
  refine (mount_put h hl hf.sup h1 hf.sh).mono ?_
  rintro e W' ⟨gv, g, gk, b2, x, book, rfl, hv, hb⟩
  obtain ⟨t2, s1, s2, s3, s4, s5, s6, s7⟩ := hv.disk
  refine ⟨gv, book, rfl, ⟨t2, s1, Li.of s1 s2 s3 s4 s5 s6 s7⟩, ⟨?_, fun q hq => ?_⟩, ?_⟩
  · rw [hb, if_neg (by omega), if_neg (by omega)]; exact hf.sup
  · rw [hb, if_neg (by omega), if_neg (by omega)]; exact hf.sh q hq
  · rw [hb, if_neg (by omega), if_pos rfl]
theorem Dk.refuse (h : Dk w W d ks M bk 100) (hf : Fk bk) (h1 : bk 1 = cF) :
    Calls Tryz.prog 9 #[.pointer (some ⟨d, 0, none⟩)] W fun e W' => e = .returned (.tuple #[.pointer none, .int .i64 4]) ∧ Dk w W' d ks M bk 98 := by
  obtain ⟨t, h, hl⟩ := h
  refine (mount_head h hl hf.sup h1).mono ?_
  rintro e W' ⟨rfl, h2⟩
  exact ⟨rfl, _, h2, (hl.read (r := 99)).read (r := 98)⟩
theorem dk_new (h : Sits w W d tE ks) : Dk w W d ks 12 (curV tE) 10000 ∧ Fk (curV tE) := ⟨⟨tE, h, tE_li h.ok⟩, tE_mos.sup, tE_mos.sh⟩
/-- The header with 5 for 39, as far as k. -/
def cK (k : Nat) : Nat → Int := fun j => if j < k ∧ hF j = 39 then 5 else hF j
theorem cK_zero : cK 0 = hF := by
  funext j
  unfold cK
  rw [if_neg (by omega)]
theorem cK_all : cK 1023 = cF := rfl
theorem cK_at (k : Nat) : cK k k = hF k := by
  unfold cK
  rw [if_neg (by omega)]
theorem cK_skip {k : Nat} (h : hF k ≠ 39) : cK (k + 1) = cK k := by
  funext j
  unfold cK
  by_cases e : j = k
  · subst e
    rw [if_neg (fun q => h q.2), if_neg (fun q => h q.2)]
  · by_cases q : hF j = 39
    · by_cases z : j < k
      · rw [if_pos ⟨by omega, q⟩, if_pos ⟨z, q⟩]
      · rw [if_neg (by omega), if_neg (by omega)]
    · rw [if_neg (fun z => q z.2), if_neg (fun z => q z.2)]
theorem cK_put {k : Nat} (h : hF k = 39) : cK (k + 1) = upd (cK k) k 5 := by
  funext j
  unfold upd cK
  by_cases e : j = k
  · subst e
    rw [if_pos ⟨by omega, h⟩, if_pos rfl]
  · rw [if_neg e]
    by_cases q : hF j = 39
    · by_cases z : j < k
      · rw [if_pos ⟨by omega, q⟩, if_pos ⟨z, q⟩]
      · rw [if_neg (by omega), if_neg (by omega)]
    · rw [if_neg (fun z => q z.2), if_neg (fun z => q z.2)]
end Go.Proofs.YtiadlcjdpbkbkaaGreatD
