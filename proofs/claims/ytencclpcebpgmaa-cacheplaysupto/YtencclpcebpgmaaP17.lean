/- Several texts joined, each with its own remark; no condition. -/
import Derived.Test.YtencclpcebpgmaaP16
import Derived.Test.YtencclpcebpgmaaP5
import Derived.Test.YtencclpcebpgmaaP15
import Derived.Test.YtencclpcebpgmaaP7
import Derived.Test.YtencclpcebpgmaaP12
/- Both sides as they are made, lit, brought to a barrier, asked while they are dead, and crashed: each call beside whatever lies apart; no condition but the counts' bounds. -/
namespace Go.Proofs.Ytencclpcebpgmaa
open Go.RowKit Go.Maps
/-- Both sides, with no word of how their disks stand to each other. -/
def AskN (w W : World) (gx d dr c g n : Nat) (c1 w1 : Value) (s : CSt) (t : St) (u : RD) (i : Nat) (l : List Part) : Prop :=
  ∃ K L R v vl vk T1 T2, K.c = c ∧ L.d = d ∧ RL.g R = dr ∧ Cn t i ∧ Told T1 T2 i ∧ Sep w W (pcP K L s t :: rcP g R v n s u :: bxP gx (xRow d dr c g c1 w1 vl vk) 36 :: bkP enW 3 54 1 vl T1 :: bkP enW 3 54 1 vk T2 :: l)
section
variable {w W W' : World} {gx d dr c g n : Nat} {c1 w1 : Value} {s : CSt} {t : St} {u : RD} {i : Nat} {l : List Part}
theorem AskS.toN (h : AskS w W gx d dr c g n c1 w1 s t u i l) : Mate t n u ∧ AskN w W gx d dr c g n c1 w1 s t u i l := by
  obtain ⟨K, L, R, v, vl, vk, T1, T2, h1, h2, h3, hM, h4, h5, h6⟩ := h
  exact ⟨hM, K, L, R, v, vl, vk, T1, T2, h1, h2, h3, h4, h5, h6⟩
theorem AskN.toS (h : AskN w W gx d dr c g n c1 w1 s t u i l) (hM : Mate t n u) : AskS w W gx d dr c g n c1 w1 s t u i l := by
  obtain ⟨K, L, R, v, vl, vk, T1, T2, h1, h2, h3, h4, h5, h6⟩ := h
  exact ⟨K, L, R, v, vl, vk, T1, T2, h1, h2, h3, hM, h4, h5, h6⟩
theorem AskN.later (h : AskN w W gx d dr c g n c1 w1 s t u i l) (hb : Below W.heap.size W W') : AskN w W' gx d dr c g n c1 w1 s t u i l := by
  obtain ⟨K, L, R, v, vl, vk, T1, T2, h1, h2, h3, h4, h5, h6⟩ := h
  exact ⟨K, L, R, v, vl, vk, T1, T2, h1, h2, h3, h4, h5, h6.later hb⟩
theorem AskN.below (h : AskN w W gx d dr c g n c1 w1 s t u i l) : Below w.heap.size w W := by
  obtain ⟨K, L, R, v, vl, vk, T1, T2, h1, h2, h3, h4, h5, h6⟩ := h
  exact h6.below
theorem AskN.cn (h : AskN w W gx d dr c g n c1 w1 s t u i l) : Cn t i := by
  obtain ⟨K, L, R, v, vl, vk, T1, T2, h1, h2, h3, h4, h5, h6⟩ := h
  exact h4
theorem AskN.ok (h : AskN w W gx d dr c g n c1 w1 s t u i l) : Ok t := by
  obtain ⟨K, L, R, v, vl, vk, T1, T2, h1, h2, h3, h4, h5, h6⟩ := h
  exact h6.head.disk.ok
theorem AskN.len (h : AskN w W gx d dr c g n c1 w1 s t u i l) : s.row.length ≤ 4096 := by
  obtain ⟨K, L, R, v, vl, vk, T1, T2, h1, h2, h3, h4, h5, h6⟩ := h
  have := h6.head.cache.ok
  have h8 := this.len
  have h9 := this.size
  omega
theorem AskN.disk (h : AskN w W gx d dr c g n c1 w1 s t u i l) {t' : St} {i' : Nat} (hi : i ≤ i') (hc : Cn t' i') {f : Nat} {av : Array Value} {E : Ending}
    (hq : ∀ L, Loc.d L = d → DiskAt W L t → Calls Try.prog f av W fun e W' => e = E ∧ ∃ L', DiskAt W' L' t' ∧ Goes W W' L L') : Calls Try.prog f av W fun e W' => e = E ∧ AskN w W' gx d dr c g n c1 w1 s t' u i' l := by
  obtain ⟨K, L, R, v, vl, vk, T1, T2, h1, h2, h3, h4, h5, h6⟩ := h
  refine (hq L h2 h6.head.disk).mono ?_
  rintro e W' ⟨he, L', hD, hG⟩
  obtain ⟨q1, q2⟩ := h6.head.disks hD hG
  exact ⟨he, K, L', R, v, vl, vk, T1, T2, h1, hG.d.trans h2, h3, hc, ⟨h5.same, by have := h5.len; omega, h5.each⟩, sep_goP h6 q1 q2⟩
theorem AskN.rdisk (h : AskN w W gx d dr c g n c1 w1 s t u i l) {u' : RD} {f : Nat} {av : Array Value} {E : Ending}
    (hq : ∀ R, RL.g R = dr → RDk W R n u → Calls Try.prog f av W fun e W' => e = E ∧ RDk W' R n u' ∧ Fr R.has W W') : Calls Try.prog f av W fun e W' => e = E ∧ AskN w W' gx d dr c g n c1 w1 s t u' i l := by
  obtain ⟨K, L, R, v, vl, vk, T1, T2, h1, h2, h3, h4, h5, h6⟩ := h
  have h7 := h6.swap
  refine (hq R h3 h7.head.d).mono ?_
  rintro e W' ⟨he, hD, hF⟩
  have hp := h7.head.ofD hD hF
  exact ⟨he, K, L, R, v, vl, vk, T1, T2, h1, h2, h3, h4, h5, (sep_goR h7 hp (hF.mono fun _ _ q => .inr q) fun _ q => .inl q).swap⟩
theorem an_fuse (h : AskN w W gx d dr c g n c1 w1 s t u i l) : Calls Try.prog 20 #[.pointer (some ⟨d, 0, none⟩), .int .i64 0] W fun e W' => e = .returned (.tuple #[]) ∧ AskN w W' gx d dr c g n c1 w1 s (fuseV t 0) u i l := by
  have hc := h.cn
  refine h.disk (Nat.le_refl _) ?_ fun L hL hD => ?_
  · unfold fuseV
    split
    · exact hc
    · exact ⟨hc.ops, hc.made, hc.reads, hc.claims⟩
  · rw [← hL]
    exact (fuse_of hD 0 (by omega)).mono fun e W' ⟨h1, h2, h3⟩ => ⟨h1, L, h2, h3⟩
theorem an_light (h : AskN w W gx d dr c g n c1 w1 s t u i l) : Calls Try.prog 21 #[.pointer (some ⟨dr, 0, none⟩), .int .i64 0] W fun e W' => e = .returned (.tuple #[]) ∧ AskN w W' gx d dr c g n c1 w1 s t (lgV u 0) i l := by
  refine h.rdisk fun R hR hD => ?_
  rw [← hR]
  exact (light6 hD 0).mono fun e W' ⟨h1, h2, h3⟩ => ⟨h1, h2, h3.mono fun _ _ q => .inl q⟩
theorem fused (t : St) : (fuseV t 0).stopped = true ∨ ((fuseV t 0).stopped = false ∧ lets (fuseV t 0) = false) := by
  unfold fuseV
  cases hs : t.stopped
  · exact .inr ⟨by simp, by simp [lets]; omega⟩
  · exact .inl (by simpa using hs)
theorem dead_bar (t : St) : barE (fuseV t 0) = 3 ∧ (barV (fuseV t 0)).stopped = true := by
  unfold barE barV
  rcases fused t with h | ⟨h1, h2⟩
  · rw [if_pos h, if_pos h]
    exact ⟨rfl, h⟩
  · have hz : (fuseV t 0).fuse = 0 := by simpa [lets] using h2
    rw [h1, h2]
    simp [letV, hz]
theorem an_bar (h : AskN w W gx d dr c g n c1 w1 s (fuseV t 0) u i l) (hi : i ≤ 1048576) : Calls Try.prog 22 #[.pointer (some ⟨d, 0, none⟩)] W fun e W' => e = .returned (.int .i64 3) ∧ AskN w W' gx d dr c g n c1 w1 s (barV (fuseV t 0)) u i l := by
  have hc := h.cn
  have key : barV (fuseV t 0) = fuseV t 0 ∨ barV (fuseV t 0) = letV (fuseV t 0) ∧ letV (fuseV t 0) = { fuseV t 0 with stopped := true } := by
    unfold barV
    rcases fused t with h | ⟨h1, h2⟩
    · exact .inl (by rw [if_pos h])
    · have hz : (fuseV t 0).fuse = 0 := by simpa [lets] using h2
      refine .inr ⟨by rw [h1, h2]; simp, by simp [letV, hz]⟩
  refine h.disk (Nat.le_refl _) ?_ fun L hL hD => ?_
  · rcases key with q | ⟨q1, q2⟩
    · rw [q]; exact hc
    · rw [q1, q2]; exact ⟨hc.ops, hc.made, hc.reads, hc.claims⟩
  · rw [← hL]
    rcases fused t with h | ⟨h1, h2⟩
    · refine (barrier_stopped hD h).mono fun e W' ⟨q1, q2⟩ => ⟨q1, L, ?_, ?_⟩
      · unfold barV; rw [if_pos h, q2]; exact hD
      · rw [q2]; exact Goes.refl _ _
    · refine (barrier_dead hD (hc.room hi) h1 h2).mono fun e W' ⟨q1, q2, q3⟩ => ⟨q1, L, ?_, q3⟩
      unfold barV
      rw [h1, h2]
      exact q2
theorem an_rbar (h : AskN w W gx d dr c g n c1 w1 s t u i l) (hs : Small u) (hn : n ≤ 1000000) : Calls Try.prog 23 #[.pointer (some ⟨dr, 0, none⟩)] W fun e W' => e = .returned (.int .i64 (brE u)) ∧ AskN w W' gx d dr c g n c1 w1 s t (brV u) i l := by
  refine h.rdisk fun R hR hD => ?_
  rw [← hR]
  exact barrier6 hD hs hn
theorem an_crash (h : AskN w W gx d dr c g n c1 w1 s t u i l) (hi : i ≤ 1048576) : Calls Try.prog 32 #[.pointer (some ⟨d, 0, none⟩), .slice none 0 0] W fun e W' => e = .returned (.int .i64 0) ∧ AskN w W' gx d dr c g n c1 w1 s (crashS t []) u i l := by
  have hc := h.cn
  refine h.disk (Nat.le_refl _) ?_ fun L hL hD => ?_
  · unfold crashS
    rw [keptL_nil]
    exact ⟨by simp [St.ops], hc.made, hc.reads, hc.claims⟩
  · rw [← hL]
    refine crash_of hD (kl := []) ⟨none, 0, rfl, fun q => absurd q (by simp)⟩ ?_ (by simp)
    have := ops_len t
    have := hc.ops
    omega
theorem an_rcrash (h : AskN w W gx d dr c g n c1 w1 s t u i l) (hn : n ≤ 1000000) : Calls Try.prog 33 #[.pointer (some ⟨dr, 0, none⟩)] W fun e W' => e = .returned (.tuple #[]) ∧ AskN w W' gx d dr c g n c1 w1 s t (crV u) i l := by
  refine h.rdisk fun R hR hD => ?_
  rw [← hR]
  exact crash6 hD hn
theorem stop_used (ht : t.stopped = true) (k : Int) : usedE s t k = 3 ∧ refV t k = 3 := by
  have h1 : refV t k = 3 := by unfold refV; rw [if_pos ht]
  exact ⟨by unfold usedE; rw [h1, if_pos (by decide)], h1⟩
theorem an_read (h : AskN w W gx d dr c g n c1 w1 s t u i l) (ht : t.stopped = true) (hi : i ≤ 1048576) (k : Int) : Calls Try.prog 24 #[.pointer (some ⟨c, 0, none⟩), .int .i64 k] W fun e W' => (∃ f, e = .returned (.tuple #[.agg (blk f), .int .i64 3])) ∧ AskN w W' gx d dr c g n c1 w1 s t u i l := by
  obtain ⟨K, L, R, v, vl, vk, T1, T2, h1, h2, h3, h4, h5, h6⟩ := h
  obtain ⟨e1, e2⟩ := stop_used (s := s) ht k
  have hq := sep_pread h6 (h4.room hi) k
  rw [show rdC s t k = s by unfold rdC; rw [e1, if_neg (by decide)], show rdD s t k = t by unfold rdD; rw [e1, if_neg (by decide)], e1] at hq
  subst h1
  exact hq.mono fun e W' ⟨q1, K', L', q2, q3, q4⟩ => ⟨⟨_, q1⟩, K', L', R, v, vl, vk, T1, T2, q2, q3.trans h2, h3, h4, h5, q4⟩
theorem an_put (h : AskN w W gx d dr c g n c1 w1 s t u i l) (ht : t.stopped = true) (k : Int) : Calls Try.prog 25 #[.pointer (some ⟨c, 0, none⟩), .int .i64 k, .agg (blk nought)] W fun e W' => e = .returned (.int .i64 3) ∧ AskN w W' gx d dr c g n c1 w1 s t u i l := by
  obtain ⟨K, L, R, v, vl, vk, T1, T2, h1, h2, h3, h4, h5, h6⟩ := h
  obtain ⟨e1, e2⟩ := stop_used (s := s) ht k
  have hq := sep_pput h6 k (f := nought) can_nought
  rw [show putC s t k nought = s by unfold putC; rw [e1, if_neg (by decide)], e1] at hq
  subst h1
  exact hq.mono fun e W' ⟨q1, K', L', q2, q3, q4⟩ => ⟨q1, K', L', R, v, vl, vk, T1, T2, q2, q3.trans h2, h3, h4, h5, q4⟩
theorem an_flush (h : AskN w W gx d dr c g n c1 w1 s t u i l) (ht : t.stopped = true) (hi : i ≤ 1048576) (k : Int) : Calls Try.prog 26 #[.pointer (some ⟨c, 0, none⟩), .int .i64 k] W fun e W' => e = .returned (.int .i64 3) ∧ AskN w W' gx d dr c g n c1 w1 s t u i l := by
  obtain ⟨K, L, R, v, vl, vk, T1, T2, h1, h2, h3, h4, h5, h6⟩ := h
  obtain ⟨e1, e2⟩ := stop_used (s := s) ht k
  have hq := sep_pflush h6 (h4.room hi) k
  rw [show flushC s t k = s by unfold flushC; rw [e2, if_neg (by decide)], show flushD s t k = t by unfold flushD; rw [e2, if_neg (by decide)], show flushE s t k = 3 by unfold flushE; rw [e2, if_neg (by decide)]] at hq
  subst h1
  exact hq.mono fun e W' ⟨q1, K', L', q2, q3, q4⟩ => ⟨q1, K', L', R, v, vl, vk, T1, T2, q2, q3.trans h2, h3, h4, h5, q4⟩
theorem an_fast (h : AskN w W gx d dr c g n c1 w1 s t u i l) : Calls Try.prog 27 #[.pointer (some ⟨c, 0, none⟩)] W fun e W' => e = .returned (.int .i64 (fastN s.row : Int)) ∧ W' = W := by
  obtain ⟨K, L, R, v, vl, vk, T1, T2, rfl, h2, h3, h4, h5, h6⟩ := h
  exact fast_of h6.head.cache
theorem an_rfast (h : AskN w W gx d dr c g n c1 w1 s t u i l) : Calls Try.prog 28 #[.pointer (some ⟨g, 0, none⟩)] W fun e W' => e = .returned (.int .i64 (fastN s.row : Int)) ∧ W' = W := by
  have hl := h.len
  obtain ⟨K, L, R, v, vl, vk, T1, T2, rfl, h2, h3, h4, h5, h6⟩ := h
  exact fast6 h6.swap.head.c (by omega)
theorem an_len (h : AskN w W gx d dr c g n c1 w1 s t u i l) : Calls Try.prog 29 #[.pointer (some ⟨c, 0, none⟩)] W fun e W' => e = .returned (.int .i64 (s.row.length : Int)) ∧ W' = W := by
  obtain ⟨K, L, R, v, vl, vk, T1, T2, rfl, h2, h3, h4, h5, h6⟩ := h
  exact len_of_cache h6.head.cache
theorem an_order (h : AskN w W gx d dr c g n c1 w1 s t u i l) : Calls Try.prog 31 #[.pointer (some ⟨c, 0, none⟩)] W fun e W' => ∃ v, e = .returned v ∧ W'.ownsRow W.heap.size 3 1 v (ordV s.row).length ((ordV s.row).map (Value.int .i64)) ∧ Below W.heap.size W W' := by
  obtain ⟨K, L, R, v, vl, vk, T1, T2, rfl, h2, h3, h4, h5, h6⟩ := h
  exact order_of h6.head.cache
theorem an_rorder (h : AskN w W gx d dr c g n c1 w1 s t u i l) : Calls Try.prog 19 #[.pointer (some ⟨g, 0, none⟩)] W fun e W' => ∃ v, e = .returned v ∧ W'.ownsRow W.heap.size 3 1 v (ordV s.row).length ((ordV s.row).map (Value.int .i64)) ∧ Below W.heap.size W W' := by
  have hl := h.len
  obtain ⟨K, L, R, v, vl, vk, T1, T2, rfl, h2, h3, h4, h5, h6⟩ := h
  exact order6 h6.swap.head.c (by omega)
end
/-- Both sides as they are made. -/
theorem sep_fresh {w W0 W1 W2 W3 : World} {L : Loc} {R : RL} {t : St} {u : RD} {n : Nat} {m : Int} (hD : DiskAt W0 L t) (hR : RDk W0 R n u) (hL : L.from w.heap.size) (hRL : ∀ k, R.has k → w.heap.size ≤ k ∧ ¬ L.has k) (hb0 : Below w.heap.size w W0)
    (hb1 : Below W0.heap.size W0 W1) (hC : CacheAt W2 (newK W1 L.d) (newC m)) (hb2 : Below W1.heap.size W1 W2) (hK : RCk W3 W2.heap.size R.g (.slice none 0 0) ⟨m, []⟩) (hb3 : Below W2.heap.size W2 W3) :
    Sep w W3 [pcP (newK W1 L.d) L (newC m) t, rcP W2.heap.size R (.slice none 0 0) n (newC m) u] := by
  have s0 := hb0.size
  have s1 := hb1.size
  have s2 := hb2.size
  have s3 := hb3.size
  have hb12 : Below W0.heap.size W0 W2 := hb1.trans (hb2.mono s1)
  have hb13 : Below W0.heap.size W0 W3 := hb12.trans (hb3.mono (by omega))
  have hKh : ∀ k, (newK W1 L.d).has k → W1.heap.size ≤ k := fun k hk => by
    rcases hk with q | q | q | q
    · have : k = W1.heap.size + 2 := q; omega
    · have : k = W1.heap.size + 1 := q; omega
    · have : k = W1.heap.size := q; omega
    · simp [newK] at q
  have hLt : ∀ k, L.has k → k < W0.heap.size := hD.lt
  have hRt : ∀ k, R.has k → k < W0.heap.size := fun k hk => hR.lt hk
  have hKt : ∀ k, (newK W1 L.d).has k → k < W2.heap.size := hC.lt
  have hG : ∀ k, rcHas W2.heap.size (.slice none 0 0) k → k = W2.heap.size := fun k hk => by
    rcases hk with q | q
    · exact q
    · simp [Value.ownBlock] at q
  have hgt : W2.heap.size < W3.heap.size := hK.lt (.inl rfl)
  refine ⟨?_, ?_, ?_, ?_, (hb0.trans (hb13.mono s0))⟩
  · intro p hp
    rcases List.mem_cons.1 hp with rfl | hp
    · exact pcP_good _ _ _ _
    · rcases List.mem_cons.1 hp with rfl | hp
      · exact rcP_good _ _ _ _ _ _
      · simp at hp
  · intro p hp
    rcases List.mem_cons.1 hp with rfl | hp
    · exact ⟨hC.kept fun k hk => hb3.block k (hKt k hk), hD.kept fun k hk => hb13.block k (hLt k hk), rfl, fun k hk q => by have := hKh k hk; have := hLt k q; omega⟩
    · rcases List.mem_cons.1 hp with rfl | hp
      · exact ⟨hK, hR.kept fun k hk => hb13.block k (hRt k hk)⟩
      · simp at hp
  · intro p hp k hk
    rcases List.mem_cons.1 hp with rfl | hp
    · rcases hk with q | q
      · have := hKh k q; have := hKt k q; omega
      · have := hL k q; have := hLt k q; omega
    · rcases List.mem_cons.1 hp with rfl | hp
      · rcases hk with q | q
        · have := hG k q; omega
        · have := (hRL k q).1; have := hRt k q; omega
      · simp at hp
  · refine List.pairwise_cons.2 ⟨fun p hp k hk hk2 => ?_, List.pairwise_singleton _ _⟩
    rcases List.mem_cons.1 hp with rfl | hp
    · rcases hk with q | q <;> rcases hk2 with r | r
      · have := hKt k q; have := hG k r; omega
      · have := hKh k q; have := hRt k r; omega
      · have := hLt k q; have := hG k r; omega
      · exact (hRL k r).2 q
    · simp at hp
end Go.Proofs.Ytencclpcebpgmaa
/- Two caches of one disk, and the document's beside them, as parts of memory; no condition. -/
namespace Go.Proofs.Ytencclpcebpgmaa
open Go.RowKit Go.Maps
def kP (K : KLoc) (s : CSt) : Part := ⟨K.has, fun W => CacheAt W K s⟩
def dP (L : Loc) (t : St) : Part := ⟨L.has, fun W => DiskAt W L t⟩
def rkP (g d : Nat) (v : Value) (s : CSt) : Part := ⟨rcHas g v, fun W => RCk W g d v s⟩
def rdP (R : RL) (n : Nat) (u : RD) : Part := ⟨R.has, fun W => RDk W R n u⟩
theorem kP_good (K : KLoc) (s : CSt) : (kP K s).Good := fun _ _ hs _ h => CacheAt.kept hs h
theorem dP_good (L : Loc) (t : St) : (dP L t).Good := fun _ _ hs _ h => DiskAt.kept hs h
theorem rkP_good (g d : Nat) (v : Value) (s : CSt) : (rkP g d v s).Good := fun _ _ hs _ h => RCk.kept hs h
theorem rdP_good (R : RL) (n : Nat) (u : RD) : (rdP R n u).Good := fun _ _ hs _ h => RDk.kept hs h
section
variable {w W W' : World} {l : List Part}
theorem Sep.join2 {a b p : Part} (h : Sep w W (a :: b :: l)) (ho : ∀ k, p.own k → a.own k ∨ b.own k) (hg : p.Good) (hs : p.say W) : Sep w W (p :: l) := by
  obtain ⟨ha, hl⟩ := List.pairwise_cons.1 h.apart
  obtain ⟨hb, hl⟩ := List.pairwise_cons.1 hl
  refine ⟨fun q hq => ?_, fun q hq => ?_, fun q hq k hk => ?_, List.pairwise_cons.2 ⟨fun q hq k hk hk2 => ?_, hl⟩, h.below⟩
  · rcases List.mem_cons.1 hq with rfl | hq
    · exact hg
    · exact h.good q (List.mem_cons_of_mem _ (List.mem_cons_of_mem _ hq))
  · rcases List.mem_cons.1 hq with rfl | hq
    · exact hs
    · exact h.say q (List.mem_cons_of_mem _ (List.mem_cons_of_mem _ hq))
  · rcases List.mem_cons.1 hq with rfl | hq
    · rcases ho k hk with r | r
      · exact h.lt a (by simp) k r
      · exact h.lt b (by simp) k r
    · exact h.lt q (List.mem_cons_of_mem _ (List.mem_cons_of_mem _ hq)) k hk
  · rcases ho k hk with r | r
    · exact ha q (List.mem_cons_of_mem _ hq) k r hk2
    · exact hb q hq k r hk2
theorem Sep.split2 {a b p : Part} (h : Sep w W (p :: l)) (ho : ∀ k, a.own k ∨ b.own k → p.own k) (hab : ∀ k, a.own k → ¬ b.own k) (hga : a.Good) (hgb : b.Good) (hsa : a.say W) (hsb : b.say W) : Sep w W (a :: b :: l) := by
  obtain ⟨hp, hl⟩ := List.pairwise_cons.1 h.apart
  refine ⟨fun q hq => ?_, fun q hq => ?_, fun q hq k hk => ?_, List.pairwise_cons.2 ⟨fun q hq k hk hk2 => ?_, List.pairwise_cons.2 ⟨fun q hq k hk hk2 => ?_, hl⟩⟩, h.below⟩
  · rcases List.mem_cons.1 hq with rfl | hq
    · exact hga
    · rcases List.mem_cons.1 hq with rfl | hq
      · exact hgb
      · exact h.good q (List.mem_cons_of_mem _ hq)
  · rcases List.mem_cons.1 hq with rfl | hq
    · exact hsa
    · rcases List.mem_cons.1 hq with rfl | hq
      · exact hsb
      · exact h.say q (List.mem_cons_of_mem _ hq)
  · rcases List.mem_cons.1 hq with rfl | hq
    · exact h.lt p (by simp) k (ho k (.inl hk))
    · rcases List.mem_cons.1 hq with rfl | hq
      · exact h.lt p (by simp) k (ho k (.inr hk))
      · exact h.lt q (List.mem_cons_of_mem _ hq) k hk
  · rcases List.mem_cons.1 hq with rfl | hq
    · exact hab k hk hk2
    · exact hp q hq k (ho k (.inl hk)) hk2
  · exact hp q hq k (ho k (.inr hk)) hk2
theorem Sep.two {a b : Part} (h : Sep w W (a :: b :: l)) (k : Nat) (ha : a.own k) : ¬ b.own k := (List.pairwise_cons.1 h.apart).1 b (by simp) k ha
theorem sep_joinP {K : KLoc} {L : Loc} {s : CSt} {t : St} (h : Sep w W (kP K s :: dP L t :: l)) (hd : K.d = L.d) : Sep w W (pcP K L s t :: l) :=
  h.join2 (fun _ q => q) (pcP_good _ _ _ _) ⟨h.head, h.swap.head, hd, h.two⟩
theorem sep_splitP {K : KLoc} {L : Loc} {s : CSt} {t : St} (h : Sep w W (pcP K L s t :: l)) : Sep w W (kP K s :: dP L t :: l) ∧ K.d = L.d :=
  ⟨h.split2 (fun _ q => q) h.head.apart (kP_good _ _) (dP_good _ _) h.head.cache h.head.disk, h.head.d⟩
theorem sep_joinR {g n : Nat} {R : RL} {v : Value} {s : CSt} {u : RD} (h : Sep w W (rkP g R.g v s :: rdP R n u :: l)) : Sep w W (rcP g R v n s u :: l) :=
  h.join2 (fun _ q => q) (rcP_good _ _ _ _ _ _) ⟨h.head, h.swap.head⟩
theorem sep_splitR {g n : Nat} {R : RL} {v : Value} {s : CSt} {u : RD} (h : Sep w W (rcP g R v n s u :: l)) : Sep w W (rkP g R.g v s :: rdP R n u :: l) :=
  h.split2 (fun _ q => q) (fun _ hk q => cd_apart h.head.c h.head.d q hk) (rkP_good _ _ _ _) (rdP_good _ _ _) h.head.c h.head.d
end
/-- A cache of each side. -/
structure Ch where
  K : KLoc
  g : Nat
  v : Value
  s : CSt
def cps (dr : Nat) : Option Ch → List Part
  | none => []
  | some x => [kP x.K x.s, rkP x.g dr x.v x.s]
def cc : Option Ch → Value
  | none => .pointer none
  | some x => ptr x.K.c
def cg : Option Ch → Value
  | none => .pointer none
  | some x => ptr x.g
def okc (d : Nat) : Option Ch → Prop
  | none => True
  | some x => x.K.d = d
/-- The law's row. -/
def xRo (d dr : Nat) (ca cb ga gb vl vk : Value) : Array Value := #[ptr d, ptr dr, ca, cb, ga, gb, vl, vk]
/-- Both sides, with no word of how their disks stand to each other. -/
def PlN (w W : World) (gx d dr n : Nat) (ca ga cb gb : Value) (t : St) (u : RD) (i : Nat) (l : List Part) : Prop :=
  ∃ L R a b vl vk T1 T2, Loc.d L = d ∧ RL.g R = dr ∧ (cc a = ca ∧ cg a = ga) ∧ (cc b = cb ∧ cg b = gb) ∧ okc d a ∧ okc d b ∧ Cn t i ∧ Told T1 T2 i ∧ Sep w W (dP L t :: rdP R n u :: bxP gx (xRo d dr ca cb ga gb vl vk) 36 :: bkP enW 3 54 1 vl T1 :: bkP enW 3 54 1 vk T2 :: (cps dr a ++ (cps dr b ++ l)))
section
variable {w W W' : World} {gx d dr n : Nat} {ca ga cb gb : Value} {t : St} {u : RD} {i : Nat} {l : List Part}
theorem PlN.later (h : PlN w W gx d dr n ca ga cb gb t u i l) (hb : Below W.heap.size W W') : PlN w W' gx d dr n ca ga cb gb t u i l := by
  obtain ⟨L, R, a, b, vl, vk, T1, T2, h1, h2, h3, h4, h5, h6, h7, h8, h9⟩ := h
  exact ⟨L, R, a, b, vl, vk, T1, T2, h1, h2, h3, h4, h5, h6, h7, h8, h9.later hb⟩
theorem PlN.below (h : PlN w W gx d dr n ca ga cb gb t u i l) : Below w.heap.size w W := by
  obtain ⟨L, R, a, b, vl, vk, T1, T2, h1, h2, h3, h4, h5, h6, h7, h8, h9⟩ := h
  exact h9.below
theorem PlN.cn (h : PlN w W gx d dr n ca ga cb gb t u i l) : Cn t i := by
  obtain ⟨L, R, a, b, vl, vk, T1, T2, h1, h2, h3, h4, h5, h6, h7, h8, h9⟩ := h
  exact h7
theorem PlN.ok (h : PlN w W gx d dr n ca ga cb gb t u i l) : Ok t := by
  obtain ⟨L, R, a, b, vl, vk, T1, T2, h1, h2, h3, h4, h5, h6, h7, h8, h9⟩ := h
  exact DiskAt.ok h9.head
theorem PlN.row (h : PlN w W gx d dr n ca ga cb gb t u i l) : ∃ vl vk, W.heap[gx]? = some (.cells (xRo d dr ca cb ga gb vl vk) 36) := by
  obtain ⟨L, R, a, b, vl, vk, T1, T2, h1, h2, h3, h4, h5, h6, h7, h8, h9⟩ := h
  exact ⟨vl, vk, h9.say (bxP gx (xRo d dr ca cb ga gb vl vk) 36) (by simp)⟩
theorem PlN.disk (h : PlN w W gx d dr n ca ga cb gb t u i l) {t' : St} {i' : Nat} (hi : i ≤ i') (hc : Cn t' i') {f : Nat} {av : Array Value} {E : Ending}
    (hq : ∀ L, Loc.d L = d → DiskAt W L t → Calls Try.prog f av W fun e W' => e = E ∧ ∃ L', DiskAt W' L' t' ∧ Goes W W' L L') : Calls Try.prog f av W fun e W' => e = E ∧ PlN w W' gx d dr n ca ga cb gb t' u i' l := by
  obtain ⟨L, R, a, b, vl, vk, T1, T2, h1, h2, h3, h4, h5, h6, h7, h8, h9⟩ := h
  refine (hq L h1 h9.head).mono ?_
  rintro e W' ⟨he, L', hD, hG⟩
  refine ⟨he, L', R, a, b, vl, vk, T1, T2, hG.d.trans h1, h2, h3, h4, h5, h6, hc, ⟨h8.same, by have := h8.len; omega, h8.each⟩, ?_⟩
  exact h9.turn hG.fr (fun _ _ q => q) (dP_good _ _) hD fun k hk => ⟨hG.own k hk, hD.lt k hk⟩
theorem PlN.rdisk (h : PlN w W gx d dr n ca ga cb gb t u i l) {u' : RD} {f : Nat} {av : Array Value} {E : Ending}
    (hq : ∀ R, RL.g R = dr → RDk W R n u → Calls Try.prog f av W fun e W' => e = E ∧ RDk W' R n u' ∧ Fr R.has W W') : Calls Try.prog f av W fun e W' => e = E ∧ PlN w W' gx d dr n ca ga cb gb t u' i l := by
  obtain ⟨L, R, a, b, vl, vk, T1, T2, h1, h2, h3, h4, h5, h6, h7, h8, h9⟩ := h
  have h10 := h9.swap
  refine (hq R h2 h10.head).mono ?_
  rintro e W' ⟨he, hD, hF⟩
  refine ⟨he, L, R, a, b, vl, vk, T1, T2, h1, h2, h3, h4, h5, h6, h7, h8, ?_⟩
  exact (h10.turn hF (fun _ _ q => q) (rdP_good _ _ _) hD fun k hk => ⟨.inl hk, hD.lt hk⟩).swap
theorem PlN.more (h : PlN w W gx d dr n ca ga cb gb t u i l) : PlN w W gx d dr n ca ga cb gb t u (i + 1) l := by
  obtain ⟨L, R, a, b, vl, vk, T1, T2, h1, h2, h3, h4, h5, h6, h7, h8, h9⟩ := h
  exact ⟨L, R, a, b, vl, vk, T1, T2, h1, h2, h3, h4, h5, h6, h7.more, h8.more, h9⟩
/-- The first cache is asked. -/
theorem PlN.ask (h : PlN w W gx d dr n ca ga cb gb t u i l) (hM : Mate t n u) (hc : ¬ ca = .pointer none) (hi : i < 1000000) (sc : Value) (o A F : Int) (hF : 0 ≤ F ∧ F < 65536) :
    Calls Try.prog 14 #[.pointer (some ⟨gx, 0, none⟩), .agg #[.int .u8 o, sc, .int .i64 A, .int .u16 F], .int .i64 0] W fun e W' => e = .returned (.bool true) ∧ ∃ t' u', Mate t' n u' ∧ PlN w W' gx d dr n ca ga cb gb t' u' (i + 1) l := by
  obtain ⟨L, R, a, b, vl, vk, T1, T2, rfl, rfl, ⟨rfl, rfl⟩, h4, h5, h6, h7, h8, h9⟩ := h
  cases a with
  | none => exact absurd rfl hc
  | some x =>
    have y1 : Sep w W (kP x.K x.s :: dP L t :: rkP x.g R.g x.v x.s :: rdP R n u :: bxP gx (xRo L.d R.g (cc (some x)) cb (cg (some x)) gb vl vk) 36 :: bkP enW 3 54 1 vl T1 :: bkP enW 3 54 1 vk T2 :: (cps R.g b ++ l)) := by
      have g1 := h9.perm (List.perm_middle (l₁ := [dP L t, rdP R n u, bxP gx (xRo L.d R.g (cc (some x)) cb (cg (some x)) gb vl vk) 36, bkP enW 3 54 1 vl T1, bkP enW 3 54 1 vk T2]) (a := kP x.K x.s) (l₂ := rkP x.g R.g x.v x.s :: (cps R.g b ++ l)))
      have g2 := g1.perm (List.perm_middle (l₁ := [kP x.K x.s, dP L t, rdP R n u, bxP gx (xRo L.d R.g (cc (some x)) cb (cg (some x)) gb vl vk) 36, bkP enW 3 54 1 vl T1, bkP enW 3 54 1 vk T2]) (a := rkP x.g R.g x.v x.s) (l₂ := cps R.g b ++ l))
      exact g2.back
    have y2 := (sep_joinP y1 h5).swap
    have y3 : Sep w W (rcP x.g R x.v n x.s u :: pcP x.K L x.s t :: bxP gx (xRo L.d R.g (cc (some x)) cb (cg (some x)) gb vl vk) 36 :: bkP enW 3 54 1 vl T1 :: bkP enW 3 54 1 vk T2 :: (cps R.g b ++ l)) := sep_joinR (Sep.perm y2 (List.Perm.cons _ (List.Perm.swap _ _ _)))
    have hA : AskS w W gx L.d R.g x.K.c x.g n cb gb x.s t u i (cps R.g b ++ l) := ⟨x.K, L, R, x.v, vl, vk, T1, T2, rfl, rfl, rfl, hM, h7, h8, y3.swap⟩
    refine (ask_ok hA hi sc o A F hF).mono ?_
    rintro e W' ⟨he, s', t', u', K, L', R', v, vl', vk', T1', T2', q1, q2, q3, q4, q5, q6, q7⟩
    obtain ⟨z1, z2⟩ := sep_splitP q7
    have z3 : Sep w W' (rkP x.g R'.g v s' :: rdP R' n u' :: kP K s' :: dP L' t' :: bxP gx (xRow L.d R.g x.K.c x.g cb gb vl' vk') 36 :: bkP enW 3 54 1 vl' T1' :: bkP enW 3 54 1 vk' T2' :: (cps R.g b ++ l)) := sep_splitR z1.third
    rw [q3] at z3
    refine ⟨he, t', u', q4, L', R', some ⟨K, x.g, v, s'⟩, b, vl', vk', T1', T2', q2, q3, ⟨by show ptr K.c = ptr x.K.c; rw [q1], rfl⟩, h4, by show K.d = L.d; rw [z2, q2], h6, q5, q6, ?_⟩
    have g1 := z3.perm (List.perm_middle (l₁ := [rkP x.g R.g v s', rdP R' n u', kP K s']) (a := dP L' t') (l₂ := bxP gx (xRow L.d R.g x.K.c x.g cb gb vl' vk') 36 :: bkP enW 3 54 1 vl' T1' :: bkP enW 3 54 1 vk' T2' :: (cps R.g b ++ l)))
    have g2 : Sep w W' (dP L' t' :: rdP R' n u' :: rkP x.g R.g v s' :: kP K s' :: bxP gx (xRow L.d R.g x.K.c x.g cb gb vl' vk') 36 :: bkP enW 3 54 1 vl' T1' :: bkP enW 3 54 1 vk' T2' :: (cps R.g b ++ l)) := g1.perm (List.Perm.cons _ (List.Perm.swap _ _ _))
    have g3 := g2.perm ((List.perm_middle (l₁ := [dP L' t', rdP R' n u', rkP x.g R.g v s', kP K s', bxP gx (xRow L.d R.g x.K.c x.g cb gb vl' vk') 36, bkP enW 3 54 1 vl' T1']) (a := bkP enW 3 54 1 vk' T2') (l₂ := cps R.g b ++ l)))
    have g4 := g3.perm ((List.perm_middle (l₁ := [bkP enW 3 54 1 vk' T2', dP L' t', rdP R' n u', rkP x.g R.g v s', kP K s', bxP gx (xRow L.d R.g x.K.c x.g cb gb vl' vk') 36]) (a := bkP enW 3 54 1 vl' T1') (l₂ := cps R.g b ++ l)))
    have g5 := g4.perm ((List.perm_middle (l₁ := [bkP enW 3 54 1 vl' T1', bkP enW 3 54 1 vk' T2', dP L' t', rdP R' n u', rkP x.g R.g v s', kP K s']) (a := bxP gx (xRow L.d R.g x.K.c x.g cb gb vl' vk') 36) (l₂ := cps R.g b ++ l)))
    have g6 := g5.perm ((List.perm_middle (l₁ := [bxP gx (xRow L.d R.g x.K.c x.g cb gb vl' vk') 36, bkP enW 3 54 1 vl' T1', bkP enW 3 54 1 vk' T2', dP L' t']) (a := rdP R' n u') (l₂ := rkP x.g R.g v s' :: kP K s' :: (cps R.g b ++ l))))
    have g7 := g6.perm ((List.perm_middle (l₁ := [rdP R' n u', bxP gx (xRow L.d R.g x.K.c x.g cb gb vl' vk') 36, bkP enW 3 54 1 vl' T1', bkP enW 3 54 1 vk' T2']) (a := dP L' t') (l₂ := rkP x.g R.g v s' :: kP K s' :: (cps R.g b ++ l))))
    exact g7.perm (List.Perm.cons _ (List.Perm.cons _ (List.Perm.cons _ (List.Perm.cons _ (List.Perm.cons _ (List.Perm.swap _ _ _))))))
end
end Go.Proofs.Ytencclpcebpgmaa
/- What a step with the second cache keeps: both sides alike. -/
namespace Go.Proofs.Ytencclpcebpgmaa
open Go.RowKit Go.Maps
/-- The law's row, where the second cache is asked. -/
def xRo2 (d dr c g : Nat) (c1 w1 vl vk : Value) : Array Value := #[ptr d, ptr dr, c1, ptr c, w1, ptr g, vl, vk]
/-- Both sides stand alike; i steps were made at most. -/
def AskT (w W : World) (gx d dr c g n : Nat) (c1 w1 : Value) (s : CSt) (t : St) (u : RD) (i : Nat) (l : List Part) : Prop :=
  ∃ K L R v vl vk T1 T2, K.c = c ∧ L.d = d ∧ RL.g R = dr ∧ Mate t n u ∧ Cn t i ∧ Told T1 T2 i ∧ Sep w W (pcP K L s t :: rcP g R v n s u :: bxP gx (xRo2 d dr c g c1 w1 vl vk) 36 :: bkP enW 3 54 1 vl T1 :: bkP enW 3 54 1 vk T2 :: l)
end Go.Proofs.Ytencclpcebpgmaa
