/- A cache and its disk that a function made itself, with blocks beside them that stay: each call once more, in one form; no condition but that numbers do not pass their greatest. -/
import Derived.Test.YtencclpcebpgmaaFill
import Derived.Test.YtencclpcebpgmaaSteps
namespace Go.Proofs.Ytencclpcebpgmaa
open Go.RowKit Go.Maps

structure CS (w W : World) (K : KLoc) (L : Loc) (s : CSt) (t : St) (ks : List (Nat × Obj)) : Prop where
  cd : CD W K L s t
  newK : ∀ k, K.has k → w.heap.size ≤ k
  newL : ∀ k, L.has k → w.heap.size ≤ k
  below : Below w.heap.size w W
  keep : ∀ p ∈ ks, W.heap[p.1]? = some p.2 ∧ ¬ K.has p.1 ∧ ¬ L.has p.1
def Sit (w W : World) (c d : Nat) (s : CSt) (t : St) (ks : List (Nat × Obj)) : Prop := ∃ K L, K.c = c ∧ L.d = d ∧ CS w W K L s t ks
variable {w W : World} {c d : Nat} {s : CSt} {t : St} {ks : List (Nat × Obj)} {K : KLoc} {L : Loc}
theorem CS.goes {W' : World} {K' : KLoc} {L' : Loc} {s' : CSt} {t' : St} (h : CS w W K L s t ks) (hD : CD W' K' L' s' t') (hG : GoesC W W' K L K' L') : CS w W' K' L' s' t' ks := by
  have hsz := h.below.size
  refine ⟨hD, fun k hk => ?_, fun k hk => ?_, h.below.trans (hG.fr.below (fun i q => q.elim (h.newK i) (h.newL i)) hsz), fun p hp => ?_⟩
  · rcases hG.ownK k hk with q | q
    · exact h.newK k q
    · omega
  · rcases hG.ownL k hk with q | q
    · exact h.newL k q
    · omega
  · obtain ⟨h1, h2, h3⟩ := h.keep p hp
    have hlt := (Array.getElem?_eq_some_iff.1 h1).1
    refine ⟨(hG.fr.block p.1 hlt fun q => q.elim h2 h3).trans h1, fun q => ?_, fun q => ?_⟩
    · rcases hG.ownK p.1 q with q | q
      · exact h2 q
      · omega
    · rcases hG.ownL p.1 q with q | q
      · exact h3 q
      · omega
theorem Sit.goes {W' : World} {K' : KLoc} {L' : Loc} {s' : CSt} {t' : St} (hc : K.c = c) (hd : L.d = d) (h : CS w W K L s t ks) (hD : CD W' K' L' s' t') (hG : GoesC W W' K L K' L') : Sit w W' c d s' t' ks := ⟨K', L', hG.c.trans hc, hG.d.trans hd, h.goes hD hG⟩
theorem Sit.later {W' : World} (h : Sit w W c d s t ks) (hb : Below W.heap.size W W') : Sit w W' c d s t ks := by
  obtain ⟨K, L, hc, hd, h⟩ := h
  exact Sit.goes hc hd h (h.cd.later hb) (GoesC.ofBelow K L hb)
theorem Sit.drew (h : Sit w W c d s t ks) : Sit w W.drew c d s t ks := h.later ⟨rfl, rfl, rfl, Nat.le_refl _, fun _ _ => rfl⟩
theorem Sit.add (h : Sit w W c d s t ks) (o : Obj) : Sit w (W.alloc o) c d s t ((W.heap.size, o) :: ks) := by
  obtain ⟨K, L, hc, hd, h⟩ := h
  have h2 := h.goes (h.cd.later (below_new W o)) (GoesC.ofBelow K L (below_new W o))
  refine ⟨K, L, hc, hd, h2.cd, h2.newK, h2.newL, h2.below, fun p hp => ?_⟩
  rcases List.mem_cons.1 hp with rfl | hp
  · exact ⟨heap_alloc_new W o, fun q => by have := h.cd.cache.lt _ q; simp only at this; omega, fun q => by have := h.cd.disk.lt _ q; simp only at this; omega⟩
  · exact h2.keep p hp
/-- A block beside is written. -/
theorem Sit.setRow {g : Nat} {cs cs' : Array Value} {ty : TypeId} (h : Sit w W c d s t ((g, .cells cs ty) :: ks)) (hg : w.heap.size ≤ g) (hks : ∀ p ∈ ks, p.1 ≠ g) : Sit w (W.setRow g cs') c d s t ((g, .cells cs' ty) :: ks) := by
  obtain ⟨K, L, hc, hd, h⟩ := h
  obtain ⟨h1, h2, h3⟩ := h.keep _ (List.mem_cons_self ..)
  refine ⟨K, L, hc, hd, h.cd.setRow h2 h3 _, h.newK, h.newL, h.below.trans ⟨rfl, rfl, rfl, by simp, fun k hk => setRow_other W g k _ (by omega)⟩, fun p hp => ?_⟩
  rcases List.mem_cons.1 hp with rfl | hp
  · exact ⟨setRow_heap _ _ _ _ _ _ h1, h2, h3⟩
  · obtain ⟨a1, a2, a3⟩ := h.keep p (List.mem_cons_of_mem _ hp)
    exact ⟨(setRow_other W g p.1 _ (hks p hp)).trans a1, a2, a3⟩
theorem Sit.blk (h : Sit w W c d s t ks) {g : Nat} {o : Obj} (hm : (g, o) ∈ ks) : W.heap[g]? = some o := by
  obtain ⟨K, L, hc, hd, h⟩ := h
  exact (h.keep _ hm).1
theorem Sit.below (h : Sit w W c d s t ks) : Below w.heap.size w W := by
  obtain ⟨K, L, hc, hd, h⟩ := h
  exact h.below
theorem Sit.ok (h : Sit w W c d s t ks) : COk s ∧ Ok t := by
  obtain ⟨K, L, hc, hd, h⟩ := h
  exact ⟨h.cd.cache.ok, h.cd.disk.ok⟩
theorem Sit.drop (h : Sit w W c d s t ks) {ks' : List (Nat × Obj)} (hs : ∀ p ∈ ks', p ∈ ks) : Sit w W c d s t ks' := by
  obtain ⟨K, L, hc, hd, h⟩ := h
  exact ⟨K, L, hc, hd, h.cd, h.newK, h.newL, h.below, fun p hp => h.keep p (hs p hp)⟩
/-- A cache of a disk. -/
theorem sit_new {n : Int} (h : Sits w W d t ks) (hs : 1 ≤ n ∧ n ≤ 4096) :
    Calls Try.prog 11 #[ptr d, .int .i64 n] W fun e W' => ∃ c, e = .returned (.tuple #[ptr c, .int .i64 0]) ∧ Sit w W' c d (newC n) t ks := by
  obtain ⟨L, rfl, h⟩ := h
  refine (newC_ok h.disk hs).mono ?_
  rintro e W' ⟨rfl, h1, h2⟩
  have hsz := h.below.size
  refine ⟨_, rfl, newK W L.d, L, rfl, rfl, ⟨h1, h.disk.later h2, rfl, ?_⟩, ?_, h.new, below_next h.below h2, fun p hp => ?_⟩
  · rintro k hk hl
    have := h.disk.lt k hl
    rcases hk with q | q | q | q
    · simp only [newK] at q; omega
    · simp only [newK] at q; omega
    · simp only [newK] at q; omega
    · simp [newK] at q
  · rintro k (q | q | q | q)
    · simp only [newK] at q; omega
    · simp only [newK] at q; omega
    · simp only [newK] at q; omega
    · simp [newK] at q
  · obtain ⟨a1, a2⟩ := h.keep p hp
    have hlt := (Array.getElem?_eq_some_iff.1 a1).1
    refine ⟨heap_kept a1 h2, ?_, a2⟩
    rintro (q | q | q | q)
    · simp only [newK] at q; omega
    · simp only [newK] at q; omega
    · simp only [newK] at q; omega
    · simp [newK] at q
theorem sit_read (h : Sit w W c d s t ks) (hr : Room t) (k : Int) : Calls Try.prog 24 #[ptr c, .int .i64 k] W fun e W' => e = .returned (.tuple #[.agg (blk (rdB s t k)), .int .i64 (usedE s t k)]) ∧ Sit w W' c d (rdC s t k) (rdD s t k) ks := by
  obtain ⟨K, L, rfl, rfl, h⟩ := h
  exact (readC_of h.cd hr k).mono fun e W' ⟨h1, K', L', h2, h3⟩ => ⟨h1, Sit.goes rfl rfl h h2 h3⟩
theorem sit_put (h : Sit w W c d s t ks) (k : Int) {f : Nat → Int} (hf : Can f) : Calls Try.prog 25 #[ptr c, .int .i64 k, .agg (Go.Proofs.Ytencclpcebpgmaa.blk f)] W fun e W' => e = .returned (.int .i64 (usedE s t k)) ∧ Sit w W' c d (putC s t k f) t ks := by
  obtain ⟨K, L, rfl, rfl, h⟩ := h
  exact (putC_of h.cd k hf).mono fun e W' ⟨h1, K', L', h2, h3⟩ => ⟨h1, Sit.goes rfl rfl h h2 h3⟩
theorem sit_flush (h : Sit w W c d s t ks) (hr : Room t) (k : Int) : Calls Try.prog 26 #[ptr c, .int .i64 k] W fun e W' => e = .returned (.int .i64 (flushE s t k)) ∧ Sit w W' c d (flushC s t k) (flushD s t k) ks := by
  obtain ⟨K, L, rfl, rfl, h⟩ := h
  exact (flushC_of h.cd hr k).mono fun e W' ⟨h1, K', L', h2, h3⟩ => ⟨h1, Sit.goes rfl rfl h h2 h3⟩
theorem sit_fast (h : Sit w W c d s t ks) : Calls Try.prog 27 #[ptr c] W fun e W' => e = .returned (.int .i64 (fastN s.row : Int)) ∧ W' = W := by
  obtain ⟨K, L, rfl, rfl, h⟩ := h
  exact fast_of h.cd.cache
theorem sit_len (h : Sit w W c d s t ks) : Calls Try.prog 29 #[ptr c] W fun e W' => e = .returned (.int .i64 (s.row.length : Int)) ∧ W' = W := by
  obtain ⟨K, L, rfl, rfl, h⟩ := h
  exact len_of_cache h.cd.cache
theorem sit_order (h : Sit w W c d s t ks) : Calls Try.prog 31 #[ptr c] W fun e W' => ∃ p cap, e = .returned (.slice p (ordV s.row).length cap) ∧ IntsAt W' p (ordV s.row) ∧ (ordV s.row).length ≤ cap ∧ Below W.heap.size W W' ∧ (∀ b off, p = some ⟨b, off, none⟩ → W.heap.size ≤ b) := by
  obtain ⟨K, L, rfl, rfl, h⟩ := h
  refine (order_of h.cd.cache).mono ?_
  rintro e W' ⟨v, rfl, h1, h2⟩
  obtain ⟨p, cp, rfl, h3, h4, h5⟩ := ints_of_row h1
  exact ⟨p, cp, rfl, h3, h4, h2, h5⟩
theorem dsit_read (h : Sit w W c d s t ks) (hr : Room t) (k : Int) : Calls Try.prog 37 #[ptr d, .int .i64 k] W fun e W' => e = .returned (.tuple #[.agg (Go.Proofs.Ytencclpcebpgmaa.blk (readB t k)), .int .i64 (refV t k)]) ∧ Sit w W' c d s (readV t k) ks := by
  obtain ⟨K, L, rfl, rfl, h⟩ := h
  unfold readB readV
  by_cases hb : refV t k = 0
  · rw [if_pos hb, if_pos hb, hb]
    refine (read_ok h.cd.disk hr hb).mono ?_
    rintro e W' ⟨rfl, h2, h3⟩
    obtain ⟨a1, a2⟩ := h.cd.disks h2 h3
    exact ⟨rfl, Sit.goes rfl rfl h a1 a2⟩
  · rw [if_neg hb, if_neg hb]
    refine (read_bad h.cd.disk hb).mono ?_
    rintro e W' ⟨rfl, h2⟩
    exact ⟨rfl, Sit.later ⟨K, L, rfl, rfl, h⟩ h2⟩
theorem dsit_made (h : Sit w W c d s t ks) : Calls Try.prog 16 #[ptr d] W fun e W' => e = .returned (.int .i64 t.made) ∧ W' = W := by
  obtain ⟨K, L, rfl, rfl, h⟩ := h
  exact made_of h.cd.disk
theorem dsit_reads (h : Sit w W c d s t ks) : Calls Try.prog 15 #[ptr d] W fun e W' => e = .returned (.int .i64 t.reads) ∧ W' = W := by
  obtain ⟨K, L, rfl, rfl, h⟩ := h
  exact reads_of h.cd.disk
/-- New of a size that is none. -/
theorem newC_bad (hD : DiskAt W L t) {n : Int} (hs : n < 1 ∨ 4096 < n) : Calls Try.prog 11 #[ptr L.d, .int .i64 n] W fun e W' => e = .returned (.tuple #[nilp, .int .i64 2]) ∧ W' = W := by
  have hl := len_of hD
  have hn := hD.ok.n
  have hz0 : ¬ t.n = 0 := by omega
  clear hD
  unfold ptr nilp
  rcases hs with hs | hs
  · go_enter Try.func11, Try.ntmps11
    go_wp2_with (first | (go_at_call 41; refine hl.mono ?_; rintro e W ⟨rfl, rfl⟩))
    go_ret2
    exact ⟨rfl, rfl⟩
  · have hs' : ¬ n < 1 := by omega
    go_enter Try.func11, Try.ntmps11
    go_wp2_with (first | (go_at_call 41; refine hl.mono ?_; rintro e W ⟨rfl, rfl⟩))
    go_ret2
    exact ⟨rfl, rfl⟩
theorem newC_none {v : Value} (h : NoneAt W v) (n : Int) : Calls Try.prog 11 #[v, .int .i64 n] W fun e W' => e = .returned (.tuple #[nilp, .int .i64 1]) ∧ W' = W := by
  have hl := len_none h
  clear h
  unfold nilp
  go_enter Try.func11, Try.ntmps11
  go_wp2_with (first | (go_at_call 41; refine hl.mono ?_; rintro e W ⟨rfl, rfl⟩))
  go_ret2
  exact ⟨rfl, rfl⟩
theorem sit_bad (h : Sit w W c d s t ks) {n : Int} (hs : n < 1 ∨ 4096 < n) : Calls Try.prog 11 #[ptr d, .int .i64 n] W fun e W' => e = .returned (.tuple #[nilp, .int .i64 2]) ∧ W' = W := by
  obtain ⟨K, L, rfl, rfl, h⟩ := h
  exact newC_bad h.cd.disk hs
end Go.Proofs.Ytencclpcebpgmaa
