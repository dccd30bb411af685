/- Several texts joined, each with its own remark; no condition. -/
import Derived.Test.YtencclpcebpgmaaK16
import Derived.Test.YtencclpcebpgmaaK5
import Derived.Test.YtencclpcebpgmaaK15
import Derived.Test.YtencclpcebpgmaaK7
import Derived.Deep.Cut
import Derived.Test.YtencclpcebpgmaaK1
import Derived.Test.YtencclpcebpgmaaK10
/- Both sides as they are made, lit, brought to a barrier, asked while they are dead, and crashed: each call beside whatever lies apart; no condition but the counts' bounds. -/
namespace Go.Proofs.Ytencclpcebpgmaa
open Go.RowKit Go.Maps
/-- Both sides, with no word of how their disks stand to each other. -/
def AskN (w W : World) (gx d dr c g n : Nat) (c1 w1 : Value) (s : CSt) (t : St) (u : RD) (i : Nat) (l : List Part) : Prop :=
  ∃ K L R v vl vk T1 T2, K.c = c ∧ L.d = d ∧ RL.g R = dr ∧ Cn t i ∧ Told T1 T2 i ∧ Sep w W (pcP K L s t :: rcP g R v n s u :: bxP gx (xRow d dr c g c1 w1 vl vk) 36 :: bkP enW 3 54 1 vl T1 :: bkP enW 3 54 1 vk T2 :: l)
section
variable {w W W' : World} {gx d dr c g n : Nat} {c1 w1 : Value} {s : CSt} {t : St} {u : RD} {i : Nat} {l : List Part}
theorem AskS.toN (h : AskS w W gx d dr c g n c1 w1 s t u i l) : Mate t n u ∧ AskN w W gx d dr c g n c1 w1 s t u i l := by
  obtain ⟨K, L, R, v, vl, vk, T1, T2, h1, h2, h3, hM, h4, h5, h6⟩ := h
  exact ⟨hM, K, L, R, v, vl, vk, T1, T2, h1, h2, h3, h4, h5, h6⟩
theorem AskN.toS (h : AskN w W gx d dr c g n c1 w1 s t u i l) (hM : Mate t n u) : AskS w W gx d dr c g n c1 w1 s t u i l := by
  obtain ⟨K, L, R, v, vl, vk, T1, T2, h1, h2, h3, h4, h5, h6⟩ := h
  exact ⟨K, L, R, v, vl, vk, T1, T2, h1, h2, h3, hM, h4, h5, h6⟩
theorem AskN.later (h : AskN w W gx d dr c g n c1 w1 s t u i l) (hb : Below W.heap.size W W') : AskN w W' gx d dr c g n c1 w1 s t u i l := by
  obtain ⟨K, L, R, v, vl, vk, T1, T2, h1, h2, h3, h4, h5, h6⟩ := h
  exact ⟨K, L, R, v, vl, vk, T1, T2, h1, h2, h3, h4, h5, h6.later hb⟩
theorem AskN.below (h : AskN w W gx d dr c g n c1 w1 s t u i l) : Below w.heap.size w W := by
  obtain ⟨K, L, R, v, vl, vk, T1, T2, h1, h2, h3, h4, h5, h6⟩ := h
  exact h6.below
theorem AskN.cn (h : AskN w W gx d dr c g n c1 w1 s t u i l) : Cn t i := by
  obtain ⟨K, L, R, v, vl, vk, T1, T2, h1, h2, h3, h4, h5, h6⟩ := h
  exact h4
theorem AskN.ok (h : AskN w W gx d dr c g n c1 w1 s t u i l) : Ok t := by
  obtain ⟨K, L, R, v, vl, vk, T1, T2, h1, h2, h3, h4, h5, h6⟩ := h
  exact h6.head.disk.ok
theorem AskN.len (h : AskN w W gx d dr c g n c1 w1 s t u i l) : s.row.length ≤ 4096 := by
  obtain ⟨K, L, R, v, vl, vk, T1, T2, h1, h2, h3, h4, h5, h6⟩ := h
  have := h6.head.cache.ok
  have h8 := this.len
  have h9 := this.size
  omega
theorem AskN.disk (h : AskN w W gx d dr c g n c1 w1 s t u i l) {t' : St} {i' : Nat} (hi : i ≤ i') (hc : Cn t' i') {f : Nat} {av : Array Value} {E : Ending}
    (hq : ∀ L, Loc.d L = d → DiskAt W L t → Calls Try.prog f av W fun e W' => e = E ∧ ∃ L', DiskAt W' L' t' ∧ Goes W W' L L') : Calls Try.prog f av W fun e W' => e = E ∧ AskN w W' gx d dr c g n c1 w1 s t' u i' l := by
  obtain ⟨K, L, R, v, vl, vk, T1, T2, h1, h2, h3, h4, h5, h6⟩ := h
  refine (hq L h2 h6.head.disk).mono ?_
  rintro e W' ⟨he, L', hD, hG⟩
  obtain ⟨q1, q2⟩ := h6.head.disks hD hG
  exact ⟨he, K, L', R, v, vl, vk, T1, T2, h1, hG.d.trans h2, h3, hc, ⟨h5.same, by have := h5.len; omega, h5.each⟩, sep_goP h6 q1 q2⟩
theorem AskN.rdisk (h : AskN w W gx d dr c g n c1 w1 s t u i l) {u' : RD} {f : Nat} {av : Array Value} {E : Ending}
    (hq : ∀ R, RL.g R = dr → RDk W R n u → Calls Try.prog f av W fun e W' => e = E ∧ RDk W' R n u' ∧ Fr R.has W W') : Calls Try.prog f av W fun e W' => e = E ∧ AskN w W' gx d dr c g n c1 w1 s t u' i l := by
  obtain ⟨K, L, R, v, vl, vk, T1, T2, h1, h2, h3, h4, h5, h6⟩ := h
  have h7 := h6.swap
  refine (hq R h3 h7.head.d).mono ?_
  rintro e W' ⟨he, hD, hF⟩
  have hp := h7.head.ofD hD hF
  exact ⟨he, K, L, R, v, vl, vk, T1, T2, h1, h2, h3, h4, h5, (sep_goR h7 hp (hF.mono fun _ _ q => .inr q) fun _ q => .inl q).swap⟩
theorem an_fuse (h : AskN w W gx d dr c g n c1 w1 s t u i l) : Calls Try.prog 20 #[.pointer (some ⟨d, 0, none⟩), .int .i64 0] W fun e W' => e = .returned (.tuple #[]) ∧ AskN w W' gx d dr c g n c1 w1 s (fuseV t 0) u i l := by
  have hc := h.cn
  refine h.disk (Nat.le_refl _) ?_ fun L hL hD => ?_
  · unfold fuseV
    split
    · exact hc
    · exact ⟨hc.ops, hc.made, hc.reads, hc.claims⟩
  · rw [← hL]
    exact (fuse_of hD 0 (by omega)).mono fun e W' ⟨h1, h2, h3⟩ => ⟨h1, L, h2, h3⟩
theorem an_light (h : AskN w W gx d dr c g n c1 w1 s t u i l) : Calls Try.prog 21 #[.pointer (some ⟨dr, 0, none⟩), .int .i64 0] W fun e W' => e = .returned (.tuple #[]) ∧ AskN w W' gx d dr c g n c1 w1 s t (lgV u 0) i l := by
  refine h.rdisk fun R hR hD => ?_
  rw [← hR]
  exact (light6 hD 0).mono fun e W' ⟨h1, h2, h3⟩ => ⟨h1, h2, h3.mono fun _ _ q => .inl q⟩
theorem fused (t : St) : (fuseV t 0).stopped = true ∨ ((fuseV t 0).stopped = false ∧ lets (fuseV t 0) = false) := by
  unfold fuseV
  cases hs : t.stopped
  · exact .inr ⟨by simp, by simp [lets]; omega⟩
  · exact .inl (by simpa using hs)
theorem dead_bar (t : St) : barE (fuseV t 0) = 3 ∧ (barV (fuseV t 0)).stopped = true := by
  unfold barE barV
  rcases fused t with h | ⟨h1, h2⟩
  · rw [if_pos h, if_pos h]
    exact ⟨rfl, h⟩
  · have hz : (fuseV t 0).fuse = 0 := by simpa [lets] using h2
    rw [h1, h2]
    simp [letV, hz]
theorem an_bar (h : AskN w W gx d dr c g n c1 w1 s (fuseV t 0) u i l) (hi : i ≤ 1048576) : Calls Try.prog 22 #[.pointer (some ⟨d, 0, none⟩)] W fun e W' => e = .returned (.int .i64 3) ∧ AskN w W' gx d dr c g n c1 w1 s (barV (fuseV t 0)) u i l := by
  have hc := h.cn
  have key : barV (fuseV t 0) = fuseV t 0 ∨ barV (fuseV t 0) = letV (fuseV t 0) ∧ letV (fuseV t 0) = { fuseV t 0 with stopped := true } := by
    unfold barV
    rcases fused t with h | ⟨h1, h2⟩
    · exact .inl (by rw [if_pos h])
    · have hz : (fuseV t 0).fuse = 0 := by simpa [lets] using h2
      refine .inr ⟨by rw [h1, h2]; simp, by simp [letV, hz]⟩
  refine h.disk (Nat.le_refl _) ?_ fun L hL hD => ?_
  · rcases key with q | ⟨q1, q2⟩
    · rw [q]; exact hc
    · rw [q1, q2]; exact ⟨hc.ops, hc.made, hc.reads, hc.claims⟩
  · rw [← hL]
    rcases fused t with h | ⟨h1, h2⟩
    · refine (barrier_stopped hD h).mono fun e W' ⟨q1, q2⟩ => ⟨q1, L, ?_, ?_⟩
      · unfold barV; rw [if_pos h, q2]; exact hD
      · rw [q2]; exact Goes.refl _ _
    · refine (barrier_dead hD (hc.room hi) h1 h2).mono fun e W' ⟨q1, q2, q3⟩ => ⟨q1, L, ?_, q3⟩
      unfold barV
      rw [h1, h2]
      exact q2
theorem an_rbar (h : AskN w W gx d dr c g n c1 w1 s t u i l) (hs : Small u) (hn : n ≤ 1000000) : Calls Try.prog 23 #[.pointer (some ⟨dr, 0, none⟩)] W fun e W' => e = .returned (.int .i64 (brE u)) ∧ AskN w W' gx d dr c g n c1 w1 s t (brV u) i l := by
  refine h.rdisk fun R hR hD => ?_
  rw [← hR]
  exact barrier6 hD hs hn
theorem an_crash (h : AskN w W gx d dr c g n c1 w1 s t u i l) (hi : i ≤ 1048576) : Calls Try.prog 32 #[.pointer (some ⟨d, 0, none⟩), .slice none 0 0] W fun e W' => e = .returned (.int .i64 0) ∧ AskN w W' gx d dr c g n c1 w1 s (crashS t []) u i l := by
  have hc := h.cn
  refine h.disk (Nat.le_refl _) ?_ fun L hL hD => ?_
  · unfold crashS
    rw [keptL_nil]
    exact ⟨by simp [St.ops], hc.made, hc.reads, hc.claims⟩
  · rw [← hL]
    refine crash_of hD (kl := []) ⟨none, 0, rfl, fun q => absurd q (by simp)⟩ ?_ (by simp)
    have := ops_len t
    have := hc.ops
    omega
theorem an_rcrash (h : AskN w W gx d dr c g n c1 w1 s t u i l) (hn : n ≤ 1000000) : Calls Try.prog 33 #[.pointer (some ⟨dr, 0, none⟩)] W fun e W' => e = .returned (.tuple #[]) ∧ AskN w W' gx d dr c g n c1 w1 s t (crV u) i l := by
  refine h.rdisk fun R hR hD => ?_
  rw [← hR]
  exact crash6 hD hn
theorem stop_used (ht : t.stopped = true) (k : Int) : usedE s t k = 3 ∧ refV t k = 3 := by
  have h1 : refV t k = 3 := by unfold refV; rw [if_pos ht]
  exact ⟨by unfold usedE; rw [h1, if_pos (by decide)], h1⟩
theorem an_read (h : AskN w W gx d dr c g n c1 w1 s t u i l) (ht : t.stopped = true) (hi : i ≤ 1048576) (k : Int) : Calls Try.prog 24 #[.pointer (some ⟨c, 0, none⟩), .int .i64 k] W fun e W' => (∃ f, e = .returned (.tuple #[.agg (blk f), .int .i64 3])) ∧ AskN w W' gx d dr c g n c1 w1 s t u i l := by
  obtain ⟨K, L, R, v, vl, vk, T1, T2, h1, h2, h3, h4, h5, h6⟩ := h
  obtain ⟨e1, e2⟩ := stop_used (s := s) ht k
  have hq := sep_pread h6 (h4.room hi) k
  rw [show rdC s t k = s by unfold rdC; rw [e1, if_neg (by decide)], show rdD s t k = t by unfold rdD; rw [e1, if_neg (by decide)], e1] at hq
  subst h1
  exact hq.mono fun e W' ⟨q1, K', L', q2, q3, q4⟩ => ⟨⟨_, q1⟩, K', L', R, v, vl, vk, T1, T2, q2, q3.trans h2, h3, h4, h5, q4⟩
theorem an_put (h : AskN w W gx d dr c g n c1 w1 s t u i l) (ht : t.stopped = true) (k : Int) : Calls Try.prog 25 #[.pointer (some ⟨c, 0, none⟩), .int .i64 k, .agg (blk nought)] W fun e W' => e = .returned (.int .i64 3) ∧ AskN w W' gx d dr c g n c1 w1 s t u i l := by
  obtain ⟨K, L, R, v, vl, vk, T1, T2, h1, h2, h3, h4, h5, h6⟩ := h
  obtain ⟨e1, e2⟩ := stop_used (s := s) ht k
  have hq := sep_pput h6 k (f := nought) can_nought
  rw [show putC s t k nought = s by unfold putC; rw [e1, if_neg (by decide)], e1] at hq
  subst h1
  exact hq.mono fun e W' ⟨q1, K', L', q2, q3, q4⟩ => ⟨q1, K', L', R, v, vl, vk, T1, T2, q2, q3.trans h2, h3, h4, h5, q4⟩
theorem an_flush (h : AskN w W gx d dr c g n c1 w1 s t u i l) (ht : t.stopped = true) (hi : i ≤ 1048576) (k : Int) : Calls Try.prog 26 #[.pointer (some ⟨c, 0, none⟩), .int .i64 k] W fun e W' => e = .returned (.int .i64 3) ∧ AskN w W' gx d dr c g n c1 w1 s t u i l := by
  obtain ⟨K, L, R, v, vl, vk, T1, T2, h1, h2, h3, h4, h5, h6⟩ := h
  obtain ⟨e1, e2⟩ := stop_used (s := s) ht k
  have hq := sep_pflush h6 (h4.room hi) k
  rw [show flushC s t k = s by unfold flushC; rw [e2, if_neg (by decide)], show flushD s t k = t by unfold flushD; rw [e2, if_neg (by decide)], show flushE s t k = 3 by unfold flushE; rw [e2, if_neg (by decide)]] at hq
  subst h1
  exact hq.mono fun e W' ⟨q1, K', L', q2, q3, q4⟩ => ⟨q1, K', L', R, v, vl, vk, T1, T2, q2, q3.trans h2, h3, h4, h5, q4⟩
theorem an_fast (h : AskN w W gx d dr c g n c1 w1 s t u i l) : Calls Try.prog 27 #[.pointer (some ⟨c, 0, none⟩)] W fun e W' => e = .returned (.int .i64 (fastN s.row : Int)) ∧ W' = W := by
  obtain ⟨K, L, R, v, vl, vk, T1, T2, rfl, h2, h3, h4, h5, h6⟩ := h
  exact fast_of h6.head.cache
theorem an_rfast (h : AskN w W gx d dr c g n c1 w1 s t u i l) : Calls Try.prog 28 #[.pointer (some ⟨g, 0, none⟩)] W fun e W' => e = .returned (.int .i64 (fastN s.row : Int)) ∧ W' = W := by
  have hl := h.len
  obtain ⟨K, L, R, v, vl, vk, T1, T2, rfl, h2, h3, h4, h5, h6⟩ := h
  exact fast6 h6.swap.head.c (by omega)
theorem an_len (h : AskN w W gx d dr c g n c1 w1 s t u i l) : Calls Try.prog 29 #[.pointer (some ⟨c, 0, none⟩)] W fun e W' => e = .returned (.int .i64 (s.row.length : Int)) ∧ W' = W := by
  obtain ⟨K, L, R, v, vl, vk, T1, T2, rfl, h2, h3, h4, h5, h6⟩ := h
  exact len_of_cache h6.head.cache
theorem an_order (h : AskN w W gx d dr c g n c1 w1 s t u i l) : Calls Try.prog 31 #[.pointer (some ⟨c, 0, none⟩)] W fun e W' => ∃ v, e = .returned v ∧ W'.ownsRow W.heap.size 3 1 v (ordV s.row).length ((ordV s.row).map (Value.int .i64)) ∧ Below W.heap.size W W' := by
  obtain ⟨K, L, R, v, vl, vk, T1, T2, rfl, h2, h3, h4, h5, h6⟩ := h
  exact order_of h6.head.cache
theorem an_rorder (h : AskN w W gx d dr c g n c1 w1 s t u i l) : Calls Try.prog 19 #[.pointer (some ⟨g, 0, none⟩)] W fun e W' => ∃ v, e = .returned v ∧ W'.ownsRow W.heap.size 3 1 v (ordV s.row).length ((ordV s.row).map (Value.int .i64)) ∧ Below W.heap.size W W' := by
  have hl := h.len
  obtain ⟨K, L, R, v, vl, vk, T1, T2, rfl, h2, h3, h4, h5, h6⟩ := h
  exact order6 h6.swap.head.c (by omega)
end
/-- Both sides as they are made. -/
theorem sep_fresh {w W0 W1 W2 W3 : World} {L : Loc} {R : RL} {t : St} {u : RD} {n : Nat} {m : Int} (hD : DiskAt W0 L t) (hR : RDk W0 R n u) (hL : L.from w.heap.size) (hRL : ∀ k, R.has k → w.heap.size ≤ k ∧ ¬ L.has k) (hb0 : Below w.heap.size w W0)
    (hb1 : Below W0.heap.size W0 W1) (hC : CacheAt W2 (newK W1 L.d) (newC m)) (hb2 : Below W1.heap.size W1 W2) (hK : RCk W3 W2.heap.size R.g (.slice none 0 0) ⟨m, []⟩) (hb3 : Below W2.heap.size W2 W3) :
    Sep w W3 [pcP (newK W1 L.d) L (newC m) t, rcP W2.heap.size R (.slice none 0 0) n (newC m) u] := by
  have s0 := hb0.size
  have s1 := hb1.size
  have s2 := hb2.size
  have s3 := hb3.size
  have hb12 : Below W0.heap.size W0 W2 := hb1.trans (hb2.mono s1)
  have hb13 : Below W0.heap.size W0 W3 := hb12.trans (hb3.mono (by omega))
  have hKh : ∀ k, (newK W1 L.d).has k → W1.heap.size ≤ k := fun k hk => by
    rcases hk with q | q | q | q
    · have : k = W1.heap.size + 2 := q; omega
    · have : k = W1.heap.size + 1 := q; omega
    · have : k = W1.heap.size := q; omega
    · simp [newK] at q
  have hLt : ∀ k, L.has k → k < W0.heap.size := hD.lt
  have hRt : ∀ k, R.has k → k < W0.heap.size := fun k hk => hR.lt hk
  have hKt : ∀ k, (newK W1 L.d).has k → k < W2.heap.size := hC.lt
  have hG : ∀ k, rcHas W2.heap.size (.slice none 0 0) k → k = W2.heap.size := fun k hk => by
    rcases hk with q | q
    · exact q
    · simp [Value.ownBlock] at q
  have hgt : W2.heap.size < W3.heap.size := hK.lt (.inl rfl)
  refine ⟨?_, ?_, ?_, ?_, (hb0.trans (hb13.mono s0))⟩
  · intro p hp
    rcases List.mem_cons.1 hp with rfl | hp
    · exact pcP_good _ _ _ _
    · rcases List.mem_cons.1 hp with rfl | hp
      · exact rcP_good _ _ _ _ _ _
      · simp at hp
  · intro p hp
    rcases List.mem_cons.1 hp with rfl | hp
    · exact ⟨hC.kept fun k hk => hb3.block k (hKt k hk), hD.kept fun k hk => hb13.block k (hLt k hk), rfl, fun k hk q => by have := hKh k hk; have := hLt k q; omega⟩
    · rcases List.mem_cons.1 hp with rfl | hp
      · exact ⟨hK, hR.kept fun k hk => hb13.block k (hRt k hk)⟩
      · simp at hp
  · intro p hp k hk
    rcases List.mem_cons.1 hp with rfl | hp
    · rcases hk with q | q
      · have := hKh k q; have := hKt k q; omega
      · have := hL k q; have := hLt k q; omega
    · rcases List.mem_cons.1 hp with rfl | hp
      · rcases hk with q | q
        · have := hG k q; omega
        · have := (hRL k q).1; have := hRt k q; omega
      · simp at hp
  · refine List.pairwise_cons.2 ⟨fun p hp k hk hk2 => ?_, List.pairwise_singleton _ _⟩
    rcases List.mem_cons.1 hp with rfl | hp
    · rcases hk with q | q <;> rcases hk2 with r | r
      · have := hKt k q; have := hG k r; omega
      · have := hKh k q; have := hRt k r; omega
      · have := hLt k q; have := hG k r; omega
      · exact (hRL k r).2 q
    · simp at hp
end Go.Proofs.Ytencclpcebpgmaa
/- A number modulo another; rows of blocks that are only read; no condition. -/
namespace Go.Proofs.Ytencclpcebpgmaa
open Go.RowKit Go.Maps

abbrev I64 (x : Int) : Prop := -9223372036854775808 ≤ x ∧ x ≤ 9223372036854775807
theorem place_any (x n : Int) (hx : I64 x) (hn : 0 < n ∧ n ≤ 4096) (w : World) : Calls Try.prog 36 #[.int .i64 x, .int .i64 n] w fun e w' => e = .returned (.int .i64 (x % n)) ∧ w' = w := by
  have hne : n ≠ 0 := by omega
  have h1 := Int.emod_nonneg x hne
  have h2 := Int.emod_lt_of_pos x hn.1
  have hd := Int.tmod_add_mul_tdiv x n
  have hT : (x.tmod n < 0 → x % n = x.tmod n + n) ∧ (¬ x.tmod n < 0 → x % n = x.tmod n) ∧ -4096 ≤ x.tmod n ∧ x.tmod n ≤ 4096 := by
    by_cases hx0 : 0 ≤ x
    · rw [Int.tmod_eq_emod_of_nonneg hx0]
      exact ⟨fun h => by omega, fun _ => rfl, by omega, by omega⟩
    · have e1 : x.tmod n = -((-x) % n) := by
        rw [← Int.tmod_eq_emod_of_nonneg (by omega : 0 ≤ -x), Int.neg_tmod]
        omega
      have e2 := Int.emod_nonneg (-x) hne
      have e3 := Int.emod_lt_of_pos (-x) hn.1
      have e4 : x % n = if (-x) % n = 0 then 0 else n - (-x) % n := by
        have h5 := Int.emod_add_mul_ediv (-x) n
        split
        · next h =>
          rw [h] at h5
          have : x = n * (-((-x) / n)) := by
            rw [Int.mul_neg]
            omega
          rw [this, Int.mul_emod_right]
        · next h =>
          have : x = (n - (-x) % n) + n * (-((-x) / n) - 1) := by
            rw [Int.mul_sub, Int.mul_neg, Int.mul_one]
            omega
          rw [this, Int.add_mul_emod_self_left]
          rw [Int.emod_eq_of_lt (by omega) (by omega)]
          rw [← this]
      rw [e1, e4]
      refine ⟨fun h => ?_, fun h => ?_, by omega, by omega⟩
      · rw [if_neg (by omega)]; omega
      · rw [if_pos (by omega)]; omega
  obtain ⟨t1, t2, t3, t4⟩ := hT
  have hw : IntKind.i64.wrap (x.tmod n) = x.tmod n := by rw [IntKind.wrap_i64]; omega
  have hw2 : IntKind.i64.wrap (x.tmod n + n) = x.tmod n + n := by rw [IntKind.wrap_i64]; omega
  clear hd
  by_cases h0 : x.tmod n < 0
  · rw [t1 h0]
    clear t1 t2
    go_enter Try.func36, Try.ntmps36
    go_wp2
    go_ret
    exact ⟨rfl, rfl⟩
  · rw [t2 h0]
    clear t1 t2
    go_enter Try.func36, Try.ntmps36
    go_wp2
    go_ret
    exact ⟨rfl, rfl⟩
def rowP (ps : List Int) : List Hld := ps.map fun p => ⟨p, false, nought⟩
theorem rowP_fast (ps : List Int) : fastN (rowP ps) = 0 := by
  unfold fastN rowP
  rw [List.countP_eq_zero]
  intro x hx
  obtain ⟨p, _, rfl⟩ := List.mem_map.1 hx
  simp
theorem rowP_ord (ps : List Int) : ordV (rowP ps) = ps := by
  unfold ordV rowP
  rw [List.map_map]
  exact List.map_id' _
theorem rowP_len (ps : List Int) : (rowP ps).length = ps.length := by simp [rowP]
theorem rowP_snoc (ps : List Int) (k : Int) : rowP ps ++ [⟨k, false, nought⟩] = rowP (ps ++ [k]) := by simp [rowP]
theorem rowP_none {k : Int} : ∀ {ps : List Int}, k ∉ ps → atR (rowP ps) k = none := by
  intro ps h
  unfold atR
  rw [List.find?_eq_none]
  intro x hx
  obtain ⟨p, hp, rfl⟩ := List.mem_map.1 hx
  intro e
  have : p = k := by simpa using e
  exact h (this ▸ hp)
theorem rowP_some {k : Int} : ∀ {ps : List Int}, k ∈ ps → atR (rowP ps) k = some ⟨k, false, nought⟩
  | [], h => by simp at h
  | p :: t, h => by
    by_cases e : p = k
    · subst e
      simp [atR, rowP]
    · have h' : k ∈ t := by
        rcases List.mem_cons.1 h with h | h
        · exact absurd h.symm e
        · exact h
      have := rowP_some h'
      unfold atR rowP at this ⊢
      rw [List.map_cons, List.find?_cons]
      have e2 : ((⟨p, false, nought⟩ : Hld).pos == k) = false := by simp [e]
      rw [e2]
      exact this
theorem rowP_gone {k : Int} : ∀ (ps : List Int), goneR (rowP ps) k = rowP (ps.erase k)
  | [] => rfl
  | p :: t => by
    have ih := rowP_gone (k := k) t
    unfold goneR rowP at *
    rw [List.map_cons]
    by_cases e : p = k
    · subst e
      simp
    · rw [List.erase_cons_tail (by simp [e]), List.map_cons, ← ih]
      simp [e]
def tr (r : Int) : St := { newV 20 with reads := r }
theorem tr_cur (r k : Int) : curV (tr r) k = nought := rfl
theorem tr_ref {r k : Int} (h : 0 ≤ k ∧ k < 20) : refV (tr r) k = 0 := by
  unfold refV
  rw [if_neg (by simp [tr, newV]), if_pos (by simpa [tr, newV] using h)]
theorem tr_room {r : Int} (h : r < 1000) : Room (tr r) := ⟨by simp [tr, newV, St.ops], by simp [tr, newV], by simp [tr]; omega, by simp [tr, newV]⟩
variable {n : Int} {ps : List Int} {r k : Int}
theorem few_used (hn : 1 ≤ n) (h : 0 ≤ k ∧ k < 20) : usedE ⟨n, rowP ps⟩ (tr r) k = 0 := by
  unfold usedE
  rw [tr_ref h, if_neg (by simp), if_neg]
  rintro ⟨_, q⟩
  rw [rowP_fast] at q
  simp only at q
  omega
theorem few_new (hn : 1 ≤ n) (h : 0 ≤ k ∧ k < 20) (hk : k ∉ ps) (hl : (ps.length : Int) < n) : rdC ⟨n, rowP ps⟩ (tr r) k = ⟨n, rowP (ps ++ [k])⟩ ∧ rdD ⟨n, rowP ps⟩ (tr r) k = tr (r + 1) := by
  unfold rdC rdD
  rw [few_used hn h, if_pos rfl, if_pos rfl, rowP_none hk]
  refine ⟨?_, rfl⟩
  simp only
  unfold placeR
  rw [rowP_len, if_pos hl, tr_cur, rowP_snoc]
theorem few_held (hn : 1 ≤ n) (h : 0 ≤ k ∧ k < 20) (hk : k ∈ ps) : rdC ⟨n, rowP ps⟩ (tr r) k = ⟨n, rowP (ps.erase k ++ [k])⟩ ∧ rdD ⟨n, rowP ps⟩ (tr r) k = tr r := by
  unfold rdC rdD
  rw [few_used hn h, if_pos rfl, if_pos rfl, rowP_some hk]
  refine ⟨?_, rfl⟩
  simp only
  rw [rowP_gone, rowP_snoc]
theorem few_over {p : Int} (hn : 1 ≤ n) (h : 0 ≤ k ∧ k < 20) (hk : k ∉ p :: ps) (hl : ¬ (((p :: ps).length : Nat) : Int) < n) : rdC ⟨n, rowP (p :: ps)⟩ (tr r) k = ⟨n, rowP (ps ++ [k])⟩ ∧ rdD ⟨n, rowP (p :: ps)⟩ (tr r) k = tr (r + 1) := by
  unfold rdC rdD
  rw [few_used hn h, if_pos rfl, if_pos rfl, rowP_none hk]
  refine ⟨?_, rfl⟩
  simp only
  unfold placeR
  rw [rowP_len, if_neg hl, tr_cur, ← rowP_snoc]
  simp [rowP]
/-- A block that is new since W is told. -/
theorem Sit.keepNew {w W W' : World} {c d : Nat} {s : CSt} {t : St} {ks : List (Nat × Obj)} (h : Sit w W c d s t ks) (hb : Below W.heap.size W W') {g : Nat} {o : Obj} (hg : W.heap.size ≤ g) (ho : W'.heap[g]? = some o) : Sit w W' c d s t ((g, o) :: ks) := by
  obtain ⟨K, L, hc, hd, h⟩ := h
  have h2 := h.goes (h.cd.later hb) (GoesC.ofBelow K L hb)
  refine ⟨K, L, hc, hd, h2.cd, h2.newK, h2.newL, h2.below, fun p hp => ?_⟩
  rcases List.mem_cons.1 hp with rfl | hp
  · exact ⟨ho, fun q => by have := h.cd.cache.lt _ q; simp only at this; omega, fun q => by have := h.cd.disk.lt _ q; simp only at this; omega⟩
  · exact h2.keep p hp
theorem Sit.setCell {w W : World} {c d : Nat} {s : CSt} {t : St} {ks : List (Nat × Obj)} {g i : Nat} {cs : Array Value} {ty : TypeId} {v : Value} (h : Sit w W c d s t ((g, .cells cs ty) :: ks)) (hg : w.heap.size ≤ g) (hks : ∀ p ∈ ks, p.1 ≠ g) :
    Sit w (W.setCell ⟨g, i, none⟩ v) c d s t ((g, .cells (cs.setIfInBounds i v) ty) :: ks) := by
  rw [setCell_eq_setRow W g i cs ty (0, 0) v (h.blk (List.mem_cons_self ..))]
  exact h.setRow hg hks
theorem sit_orderB {w W : World} {c d : Nat} {s : CSt} {t : St} {ks : List (Nat × Obj)} (h : Sit w W c d s t ks) (hne : 0 < s.row.length) : Calls Try.prog 31 #[ptr c] W fun e W' => ∃ g cap cur, e = .returned (.slice (some ⟨g, 0, none⟩) s.row.length cap) ∧
    (∀ (j : Nat) (x : Int), (ordV s.row)[j]? = some x → (cur : Array Value)[j]? = some (.int .i64 x)) ∧ s.row.length ≤ cap ∧ Sit w W' c d s t ((g, .cells cur 3) :: ks) := by
  have h' := h
  obtain ⟨K, L, rfl, rfl, h⟩ := h
  refine (order_of h.cd.cache).mono ?_
  rintro e W' ⟨v, rfl, h1, h2⟩
  have hl : (ordV s.row).length = s.row.length := by simp [ordV]
  rcases h1.2 with ⟨_, q⟩ | ⟨g, cap, cur, hv, hg, hh, hc, h6, h7, h8⟩
  · rw [hl] at q; omega
  · rw [hl] at hv hc
    refine ⟨g, cap, cur, by rw [hv], fun j x hx => ?_, hc, h'.keepNew h2 hg hh⟩
    have q := h1.cells (g := g) (by rw [hv]; rfl) j (.int .i64 x) (by rw [List.getElem?_map, hx]; rfl)
    rw [Go.WideShapes.add_plain, Joins.cell_of_block hh, Nat.zero_add] at q
    exact q
/-- The row is rising in the time of use. -/
structure Rec20 (ps : List Int) (n : Nat) (u : Nat → Int) (m : Int) : Prop where
  len : ps.length = n
  nodup : ps.Nodup
  bnd : ∀ p ∈ ps, 0 ≤ p ∧ p < n
  rise : ps.Pairwise (fun p q => u p.toNat < u q.toNat)
  top : ∀ p ∈ ps, u p.toNat < m
theorem mem_all {n : Nat} {ps : List Int} {u : Nat → Int} {m : Int} (h : Rec20 ps n u m) {k : Int} (hk : 0 ≤ k ∧ k < n) : k ∈ ps := by
  apply Classical.byContradiction
  intro hn
  have h1 : (k :: ps).Nodup := List.nodup_cons.2 ⟨hn, h.nodup⟩
  have h2 := nodup_le n (k :: ps) h1 (fun x hx => by
    rcases List.mem_cons.1 hx with rfl | hx
    · exact hk
    · exact h.bnd x hx)
  rw [List.length_cons, h.len] at h2
  omega
theorem Rec20.touch {n : Nat} {ps : List Int} {u : Nat → Int} {m : Int} (h : Rec20 ps n u m) {k : Int} (hk : k ∈ ps) : Rec20 (ps.erase k ++ [k]) n (upd u k.toNat m) (m + 1) := by
  have hsub : (ps.erase k).Sublist ps := List.erase_sublist
  have hkb := h.bnd k hk
  have hne : ∀ x ∈ ps.erase k, x ≠ k := fun x hx => ((h.nodup.mem_erase_iff).1 hx).1
  have hnn : ∀ x ∈ ps.erase k, x.toNat ≠ k.toNat := fun x hx e => by
    have h1 := h.bnd x (hsub.subset hx)
    exact hne x hx (by omega)
  have hu : ∀ x ∈ ps.erase k, upd u k.toNat m x.toNat = u x.toNat := fun x hx => by unfold upd; rw [if_neg (hnn x hx)]
  have huk : upd u k.toNat m k.toNat = m := by unfold upd; rw [if_pos rfl]
  refine ⟨?_, ?_, ?_, ?_, ?_⟩
  · rw [List.length_append, List.length_erase_of_mem hk, h.len]
    have := List.length_pos_of_mem hk
    rw [h.len] at this
    simp
    omega
  · rw [List.nodup_append]
    refine ⟨h.nodup.sublist hsub, by simp, ?_⟩
    intro a ha b hb e
    simp at hb
    exact hne a ha (e.trans hb)
  · intro p hp
    rcases List.mem_append.1 hp with hp | hp
    · exact h.bnd p (hsub.subset hp)
    · simp at hp; subst hp; exact hkb
  · rw [List.pairwise_append]
    refine ⟨(h.rise.sublist hsub).imp_of_mem fun {p q} hp hq hl => by rw [hu p hp, hu q hq]; exact hl, by simp, ?_⟩
    intro a ha b hb
    simp at hb
    subst hb
    rw [hu a ha, huk]
    exact h.top a (hsub.subset ha)
  · intro p hp
    rcases List.mem_append.1 hp with hp | hp
    · rw [hu p hp]; have := h.top p (hsub.subset hp); omega
    · simp at hp; subst hp; rw [huk]; omega
def rangeI (k : Nat) : List Int := (List.range k).map fun (i : Nat) => (i : Int)
theorem rangeI_succ (k : Nat) : rangeI (k + 1) = rangeI k ++ [(k : Int)] := by simp [rangeI, List.range_succ]
theorem rangeI_mem {k : Nat} {x : Int} : x ∈ rangeI k ↔ 0 ≤ x ∧ x < k := by
  unfold rangeI
  rw [List.mem_map]
  constructor
  · rintro ⟨i, hi, rfl⟩
    have := List.mem_range.1 hi
    omega
  · rintro ⟨h1, h2⟩
    exact ⟨x.toNat, List.mem_range.2 (by omega), by omega⟩
theorem rangeI_len (k : Nat) : (rangeI k).length = k := by simp [rangeI]
theorem Rec20.start {n : Nat} (hn : n ≤ 12) : ∀ (u : Nat → Int), (∀ i, i < n → u i = i) → Rec20 (rangeI n) n u 100 := by
  intro u hu
  have hpu : ∀ p ∈ rangeI n, u p.toNat = p := fun p hp => by
    have := rangeI_mem.1 hp
    rw [hu p.toNat (by omega)]
    omega
  have hlt : (rangeI n).Pairwise (fun p q => p < q) := by
    unfold rangeI
    rw [List.pairwise_map]
    exact List.pairwise_lt_range.imp fun {a b} h => by omega
  refine ⟨rangeI_len n, hlt.imp fun {a b} h => by omega, fun p hp => rangeI_mem.1 hp, hlt.imp_of_mem fun {p q} hp hq h => by rw [hpu p hp, hpu q hq]; exact h, fun p hp => ?_⟩
  rw [hpu p hp]
  have := rangeI_mem.1 hp
  omega
end Go.Proofs.Ytencclpcebpgmaa
/- The law of what is put: under way; no condition but that fewer than a million steps came in. -/
namespace Go.Proofs.Ytencclpcebpgmaa
open Go.RowKit Go.Maps

/-- Sixteen numbers of 16 bits as cells. -/
def uRow (f : Int → Int) : Array Value := ((List.range 16).map fun (i : Nat) => Value.int .u16 (f i)).toArray
def bRow (f : Int → Bool) : Array Value := ((List.range 16).map fun (i : Nat) => Value.bool (f i)).toArray
theorem uRow_size (f : Int → Int) : (uRow f).size = 16 := by simp [uRow]
theorem bRow_size (f : Int → Bool) : (bRow f).size = 16 := by simp [bRow]
theorem uRow_get (f : Int → Int) (i : Nat) (h : i < 16) : (uRow f)[i]? = some (.int .u16 (f i)) := by simp [uRow, h]
theorem bRow_get (f : Int → Bool) (i : Nat) (h : i < 16) : (bRow f)[i]? = some (.bool (f i)) := by simp [bRow, h]
theorem uRow_set (f : Int → Int) (i : Nat) (x : Int) : (uRow f).setIfInBounds i (.int .u16 x) = uRow (fun j => if j = i then x else f j) := by
  apply Array.ext_getElem?
  intro j
  by_cases hj : j < 16
  · rw [Array.getElem?_setIfInBounds, uRow_size, uRow_get f j hj, uRow_get (fun j => if j = (i : Int) then x else f j) j hj]
    by_cases e : i = j
    · subst e; simp [hj]
    · have e' : ¬ (j : Int) = i := fun q => e (by omega)
      simp [e, e']
  · rw [Array.getElem?_eq_none (by rw [Array.size_setIfInBounds, uRow_size]; omega), Array.getElem?_eq_none (by rw [uRow_size]; omega)]
theorem bRow_set (f : Int → Bool) (i : Nat) (x : Bool) : (bRow f).setIfInBounds i (.bool x) = bRow (fun j => if j = i then x else f j) := by
  apply Array.ext_getElem?
  intro j
  by_cases hj : j < 16
  · rw [Array.getElem?_setIfInBounds, bRow_size, bRow_get f j hj, bRow_get (fun j => if j = (i : Int) then x else f j) j hj]
    by_cases e : i = j
    · subst e; simp [hj]
    · have e' : ¬ (j : Int) = i := fun q => e (by omega)
      simp [e, e']
  · rw [Array.getElem?_eq_none (by rw [Array.size_setIfInBounds, bRow_size]; omega), Array.getElem?_eq_none (by rw [bRow_size]; omega)]
/-- A step that came in: four cells at a place. -/
structure StepAt (w : World) (b off : Nat) where
  o : Int
  second : Bool
  pos : Int
  fill : Int
  hb : b < w.heap.size
  c0 : w.cell? ⟨b, off, none⟩ = some (.int .u8 o)
  c1 : w.cell? ⟨b, off + 1, none⟩ = some (.bool second)
  c2 : w.cell? ⟨b, off + 2, none⟩ = some (.int .i64 pos)
  c3 : w.cell? ⟨b, off + 3, none⟩ = some (.int .u16 fill)
  ho : 0 ≤ o ∧ o ≤ 255
  hp : I64 pos
  hf : 0 ≤ fill ∧ fill < 65536
def StepsAt (w : World) (p : Option Addr) (m : Nat) : Prop := ∀ r, r < m → ∃ b off, p = some ⟨b, off, none⟩ ∧ Nonempty (StepAt w b (off + r * 4))
theorem zero83 (u : World) : (zeroValue 83).run Try.prog u = .ok (.agg (bRow fun _ => false)) u := by
  have h : (Try.prog.info? 83).map (fun i => (i.zero, i.size)) = some (some (.agg (bRow fun _ => false)), 16) := by kernel_rfl
  exact (zero_of_info h).1 u
theorem zero81 (u : World) : (zeroValue 81).run Try.prog u = .ok (.agg (uRow fun _ => 0)) u := by
  have h : (Try.prog.info? 81).map (fun i => (i.zero, i.size)) = some (some (.agg (uRow fun _ => 0)), 16) := by kernel_rfl
  exact (zero_of_info h).1 u
theorem size81 : (Try.prog.info? 81).map (·.size) = some 16 := by
  have h : (Try.prog.info? 81).map (fun i => (i.zero, i.size)) = some (some (.agg (uRow fun _ => 0)), 16) := by kernel_rfl
  exact (zero_of_info h).2
theorem uRow_one (f : Int → Int) : (uRow f).all (·.oneCell') = true := by
  rw [Array.all_eq_true_iff_forall_mem]
  intro v hv
  simp [uRow] at hv
  obtain ⟨i, _, rfl⟩ := hv
  rfl
end Go.Proofs.Ytencclpcebpgmaa
/- Regions whose order is drawn, walked in one order that is told, where the condition that holds all along is told anew behind each call; no condition. -/
namespace Go.Proofs.Ytencclpcebpgmaa
open Go.RowKit
section
variable {P : Program} {ops : Array Oper} {Q : Exit → Act → World → Prop} {S : World → Prop}
theorem wpAnyH_sub {md : Region.Mode} {S S' : World → Prop} (hs : ∀ u, S' u → S u) : ∀ (fuel : Nat) (listed : Array Bool) (a : Act) (w : World), wpAnyH P md ops Q S' fuel listed a w → wpAnyH P md ops Q S fuel listed a w
  | 0, _, _, _, h => h
  | fuel + 1, _, _, _, h => ⟨h.1, fun i hi => wpOp_mono (fun a' w' h' => ⟨hs _ h'.1, wpAnyH_sub hs fuel _ a' w' h'.2⟩) (h.2 i hi)⟩
def wpOrdT (P : Program) (ops : Array Oper) (Q : Exit → Act → World → Prop) : List (Bool × Oper) → (World → Prop) → Act → World → Prop
  | [], _, a, w => Q .normal a w
  | (true, o) :: r, S, a, w => ∃ v, YieldsIf P ops S o v a ∧ wpOrdT P ops Q r S (a.put o.dst v) w
  | (false, o) :: r, S, a, w => if Region.wanted o (yielded ops a.tmps) then o.wp P a w (fun a' w' => ∃ S' : World → Prop, (∀ u, S' u → S u) ∧ S' w' ∧ wpOrdT P ops Q r S' a' w') Q else S w ∧ wpOrdT P ops Q r S (a.put o.dst undef) w
theorem wpOrdT_any {ol : List Oper} (hs : Region.noSelect ol.toArray = true) (hQ : ∀ d v c a w, Q (.panic c) (a.put d v) w → Q (.panic c) a w) : ∀ (l : List (Nat × Bool)) (S : World → Prop) (listed : Array Bool) (a : Act) (w : World), S w →
    ordB ol.toArray l listed = true → wpOrdT P ol.toArray Q (inOrd ol l) S a w → wpAnyH P .any ol.toArray Q S l.length listed a w
  | [], S, listed, a, w, _, hB, h => wpAnyH_done (by simpa [ordB] using hB) h _
  | (i, true) :: r, S, listed, a, w, hS, hB, h => by
    simp only [ordB, Bool.and_eq_true] at hB
    obtain ⟨⟨⟨h1, h2⟩, h3⟩, h4⟩ := hB
    obtain ⟨o, hi⟩ := Option.isSome_iff_exists.1 h3
    have hi' : ol[i]? = some o := by simpa using hi
    simp only [inOrd, hi', wpOrdT] at h
    obtain ⟨v, hy, hr⟩ := h
    exact wpAnyH_take hi hs h2 h1 (fun c a w => hQ _ _ c a w) hy hS (wpOrdT_any hs hQ r S _ _ w hS h4 hr)
  | (i, false) :: r, S, listed, a, w, hS, hB, h => by
    simp only [ordB, Bool.and_eq_true, beq_iff_eq] at hB
    obtain ⟨⟨h1, h3⟩, h2⟩ := hB
    obtain ⟨o, hi⟩ := Option.isSome_iff_exists.1 h3
    have hi' : ol[i]? = some o := by simpa using hi
    simp only [inOrd, hi', wpOrdT] at h
    refine wpAnyH_all h1 (by simp) fun j hj => ?_
    obtain rfl : j = i := by simpa using hj
    unfold wpOp
    rw [hi]
    simp only
    split
    · rename_i hw
      rw [if_pos hw] at h
      exact .inl (Oper.wp_mono (fun a' w' ⟨S', g1, g2, g3⟩ => ⟨g1 _ g2, wpAnyH_sub g1 _ _ _ _ (wpOrdT_any hs hQ r S' _ a' w' g2 h2 g3)⟩) h)
    · rename_i hw
      rw [if_neg hw] at h
      exact ⟨h.1, wpOrdT_any hs hQ r S _ _ w h.1 h2 h.2⟩
/-- A region that draws its order, walked in the order l. -/
theorem wp_region_ordT {id : Nat} {a : Act} {w : World} {ol : List Oper} (l : List (Nat × Bool)) (hm : P.follows .mixedOrders = true) (hl : l.length = ol.length)
    (hB : (Region.noSelect ol.toArray && ordB ol.toArray l (Array.replicate ol.toArray.size false)) = true) (hQ : ∀ d v c a w, Q (.panic c) (a.put d v) w → Q (.panic c) a w)
    (hS : S w.drew) (h : wpOrdT P ol.toArray Q (inOrd ol l) S a w.drew) : (Code.region id ol.toArray true).wp P Q a w := by
  simp only [Bool.and_eq_true] at hB
  have h1 := wpOrdT_any hB.1 hQ l S _ a w.drew hS hB.2 h
  rw [hl] at h1
  exact wp_region_held hm (by simpa using h1)
theorem wpOrdT_nil {a : Act} {w : World} (h : Q .normal a w) : wpOrdT P ops Q [] S a w := h
theorem wpOrdT_yield {r : List (Bool × Oper)} {a : Act} {w : World} {o : Oper} {v : Value} (hw : Region.wanted o (yielded ops a.tmps) = true)
    (hr : ∀ u, S u → (execOp a.eval o).run P u = .ok (.value v) u) (h : wpOrdT P ops Q r S (a.put o.dst v) w) : wpOrdT P ops Q ((true, o) :: r) S a w :=
  ⟨v, .inl ⟨hw, hr⟩, h⟩
theorem wpOrdT_call {r : List (Bool × Oper)} {a : Act} {w : World} {o : Oper} (hw : Region.wanted o (yielded ops a.tmps) = true) (f : FuncId) (xs : List Operand) (ts : Array TypeId)
    (ho : o.op = .call { callee := .value (.func f), args := xs.toArray, argTypes := ts }) (hc : ∀ args u, (callFunc f args).run P u = .ok (.enter f args) u) (args : List Value) (hx : xs.map a.eval = args)
    (h : Calls P f args.toArray w fun e w' => ∃ v, e = .returned v ∧ ∃ S' : World → Prop, (∀ u, S' u → S u) ∧ S' w' ∧ wpOrdT P ops Q r S' (a.put o.dst v) w') : wpOrdT P ops Q ((false, o) :: r) S a w := by
  simp only [wpOrdT, hw, if_true]
  unfold Oper.wp execOp
  have e : (do let d ← resolve a.eval { callee := .value (.func f), args := xs.toArray, argTypes := ts } o.type; invoke d.target d.args : Sem Next).run P w = .ok (.enter f args.toArray) w := by
    have hx' : xs.toArray.map a.eval = args.toArray := by rw [← hx]; simp
    simp only [resolve, hx']
    simp [Act.eval, Deferred.ofValue, invoke, hc]
  simp only [ho]
  rw [e]
  unfold Oper.upon
  exact h.mono fun e w' ⟨v, he, h1⟩ => by subst he; exact h1
end
end Go.Proofs.Ytencclpcebpgmaa
/- The lists that were told are looked at: what lies beside them stays; no condition. -/
namespace Go.Proofs.Ytencclpcebpgmaa
open Go.RowKit Go.Maps
/-- The lists that were told are looked at. -/
theorem sep_stillK {w W : World} {l : List Part} {v v2 : Value} {T T2 : List (Tl Int)} (h : Sep w W (bkP enW 3 54 1 v T :: bkP enW 3 54 1 v2 T2 :: l)) (hT : T.map (·.l) = T2.map (·.l)) (hn : T.length ≤ 8000000) (he : ∀ x ∈ T, x.l.length ≤ 10000000) :
    Calls Try.prog 18 #[v, v2] W fun e W' => e = .returned (.bool true) ∧ Below w.heap.size w W' ∧ ∀ k, k < W.heap.size → ¬ bkO v T k → W'.heap[k]? = W.heap[k]? := by
  have hB : Bk enW 3 54 1 v T W := h.head
  have hB2 : Bk enW 3 54 1 v2 T2 W := h.drop.head
  have hl2 : T2.length = T.length := by have := congrArg List.length hT; simpa using this.symm
  by_cases h0 : 0 < T.length
  · obtain ⟨gl, c, ps, ns, cs, fs, rfl, h1, h2, h3, h4, h5⟩ := bk_lsts (by decide) hB h0 he
    obtain ⟨gw, c2, hv2, _, _⟩ := bk_row hB2 (List.getElem?_eq_getElem (show 0 < T2.length by omega))
    have key : ∀ k, ∃ x : Tl Int, k < T.length → T2[k]? = some x ∧ fs k = x.l := fun k => by
      by_cases hk : k < T.length
      · have e2 : T2[k]? = some T2[k] := List.getElem?_eq_getElem (by omega)
        have e1 : T[k]? = some T[k] := List.getElem?_eq_getElem hk
        refine ⟨T2[k], fun _ => ⟨e2, (h5 k _ e1).trans ?_⟩⟩
        have := congrArg (·[k]?) hT
        simp only [List.getElem?_map, e1, e2, Option.map_some] at this
        injection this
      · exact ⟨⟨none, 0, []⟩, fun q => absurd q hk⟩
    obtain ⟨f2, hf2⟩ := Classical.skolem.1 key
    have hw : ∀ k, k < T.length → W.cell? ⟨gw, k, none⟩ = some (.slice (f2 k).p (ns k) (f2 k).c) ∧ IntsAt W (f2 k).p (fs k) := fun k hk => by
      obtain ⟨e1, e2⟩ := hf2 k hk
      obtain ⟨gw', c2', q, _, hc⟩ := bk_row hB2 e1
      rw [hv2] at q
      injection q with q1
      injection q1 with q1
      injection q1 with q1
      subst q1
      have hlen : (f2 k).l.length = ns k := by rw [← e2]; exact (h1 k hk).1
      refine ⟨by rw [hc]; show some (Value.slice (f2 k).p (f2 k).l.length (f2 k).c) = _; rw [hlen], ?_⟩
      have ho := hB2.own _ (List.mem_of_getElem? e1)
      rw [flat_int] at ho
      obtain ⟨p', c', q, h6, _⟩ := ints_of_row ho
      injection q with q1 q2 q3
      rw [e2, show (f2 k).p = p' from q1]
      exact h6
    rw [hv2, hl2]
    refine (still_any T.length gl gw ps (fun k => (f2 k).p) ns cs (fun k => (f2 k).c) W fs h0 (by omega) c c2 h1 h2 h3 hw).mono ?_
    rintro e W' ⟨he, hF⟩
    exact ⟨he, h.below.trans (hF.below (fun i hi => (h.headLt (k := i) (h4 i hi)).1) h.below.size), fun k hk hn => hF.block k hk fun q => hn (h4 k q)⟩
  · obtain ⟨p, c, hv, _⟩ := own_slice hB.row
    obtain ⟨p2, c2, hv2, _⟩ := own_slice hB2.row
    rw [show T.length = 0 by omega] at hv
    rw [show T2.length = 0 by omega] at hv2
    rw [hv, hv2]
    refine (still_none c c2 p p2 W).mono ?_
    rintro e W' ⟨he, rfl⟩
    exact ⟨he, h.below, fun _ _ _ => rfl⟩
end Go.Proofs.Ytencclpcebpgmaa
