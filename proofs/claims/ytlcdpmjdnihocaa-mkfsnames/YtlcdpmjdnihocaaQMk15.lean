/- What every block of a disk is behind mkfs; the plain side; no condition but that the geometry may be, and the disk is large enough. -/
import Derived.Test.YtlcdpmjdnihocaaJ9
namespace Go.Proofs.YtlcdpmjdnihocaaD
open Go.RowKit
/-- A block as a disk holds it. -/
def gt (s : St) (k : Int) : Nat → Int := (s.held k).getD nought
/-- What is held behind mkfs, block by block. -/
theorem mk_get {b l i : Int} (hf : YtlcdpmjdnihocaaP.Fine b l i) (s : St) (hw : s.wait = []) : (allV s (mkL b l i 0)).wait = [] ∧ ∀ k, gt (allV s (mkL b l i 0)) k = if k = 0 then YtlcdpmjdnihocaaP.superF b l i else lastV (gt s k) (mkBs b l i) k := by
  obtain ⟨cs, hcs⟩ : ∃ cs, mkBs b l i = cs := ⟨_, rfl⟩
  obtain ⟨F, hF⟩ : ∃ F, YtlcdpmjdnihocaaP.superF b l i = F := ⟨_, rfl⟩
  have hcF : Can F := hF ▸ can_super b l i
  have hpos : ∀ c ∈ cs, c.1 ≠ 0 := fun c hc => by have := (mkBs_pos hf c (hcs ▸ hc)).1.1; omega
  have hcan : ∀ c ∈ cs, Can c.2 := fun c hc => (mkBs_pos hf c (hcs ▸ hc)).2
  have hL : mkL b l i 0 = [some (0, nought), none] ++ ((cs.map some ++ [none]) ++ [some (0, F), none]) := by
    unfold mkL mkA mkC
    rw [mkB_eq, hcs, hF]
    simp
  rw [hL, hF, hcs, allV_append, allV_append]
  have w2 : (allV s [some (0, nought), none]).wait = [] ∧ (allV s [some (0, nought), none]).held = (holdAll s [(0, nought)]).held := by
    obtain ⟨h1, h2⟩ := allV_writes [(0, nought)] s
    rw [hw] at h2
    have h := allV_bar (allV s [some (0, nought)])
    rw [← allV_append] at h
    refine ⟨h.2, ?_⟩
    have e : (allV s [some ((0, nought) : Cel)]).wait = [(0, nought)] := h2
    rw [show [some ((0, nought) : Cel)] ++ [none] = [some (0, nought), none] from rfl, e] at h
    rw [h.1]
    exact holdAll_held h1 _
  generalize allV s [some (0, nought), none] = s1 at *
  have w4 : (allV s1 (cs.map some ++ [none])).wait = [] ∧ (allV s1 (cs.map some ++ [none])).held = (holdAll s1 cs).held := by
    obtain ⟨h1, h2⟩ := allV_writes cs s1
    rw [w2.1] at h2
    have h := allV_bar (allV s1 (cs.map some))
    rw [← allV_append, h2] at h
    refine ⟨h.2, ?_⟩
    rw [h.1]
    exact holdAll_held h1 _
  generalize allV s1 (cs.map some ++ [none]) = s2 at *
  have w6 : (allV s2 [some (0, F), none]).wait = [] ∧ (allV s2 [some (0, F), none]).held = (holdAll s2 [(0, F)]).held := by
    obtain ⟨h1, h2⟩ := allV_writes [(0, F)] s2
    rw [w4.1] at h2
    have h := allV_bar (allV s2 [some (0, F)])
    rw [← allV_append] at h
    refine ⟨h.2, ?_⟩
    have e : (allV s2 [some ((0, F) : Cel)]).wait = [(0, F)] := h2
    rw [show [some ((0, F) : Cel)] ++ [none] = [some (0, F), none] from rfl, e] at h
    rw [h.1]
    exact holdAll_held h1 _
  refine ⟨w6.1, fun k => ?_⟩
  have g1 : gt s1 k = if k = 0 then nought else gt s k := by
    unfold gt
    rw [w2.2]
    exact holdV_get s 0 can_nought k
  have g2 : gt s2 k = lastV (gt s1 k) cs k := by
    unfold gt
    rw [w4.2]
    exact holdAll_get cs s1 hcan
  have g3 : gt (allV s2 [some (0, F), none]) k = if k = 0 then F else gt s2 k := by
    unfold gt
    rw [w6.2]
    exact holdV_get s2 0 hcF k
  rw [g3]
  by_cases hk : k = 0
  · rw [if_pos hk, if_pos hk]
  · rw [if_neg hk, if_neg hk, g2, g1, if_neg hk]
theorem lastV_some {k : Int} : ∀ (l : List Cel) (x y : Nat → Int), (∃ c ∈ l, c.1 = k) → lastV x l k = lastV y l k
  | [], _, _, h => by obtain ⟨c, hc, _⟩ := h; simp at hc
  | c :: t, x, y, h => by
    unfold lastV
    by_cases e : c.1 = k
    · rw [if_pos e, if_pos e]
    · rw [if_neg e, if_neg e]
      obtain ⟨d, hd, hk⟩ := h
      rcases List.mem_cons.1 hd with rfl | hd
      · exact absurd hk e
      · exact lastV_some t x y ⟨d, hd, hk⟩
theorem mkBs_mem {b l i k : Int} (hf : YtlcdpmjdnihocaaP.Fine b l i) : (∃ c ∈ mkBs b l i, c.1 = k) ↔ (k = 1 ∨ (1 + l ≤ k ∧ k ≤ YtlcdpmjdnihocaaP.dataAt b l i)) := by
  obtain ⟨b1, b2, b3, b4, b5, b6, b7, b8⟩ := Ytlcdpmjdnihocaa.fine_bd hf
  constructor
  · rintro ⟨c, hc, rfl⟩
    unfold mkBs at hc
    rcases List.mem_cons.1 hc with rfl | hc
    · exact .inl rfl
    · obtain ⟨q, hq, rfl⟩ := List.mem_map.1 hc
      have hq := List.mem_range.1 hq
      unfold mkN at hq
      exact .inr ⟨by show 1 + l ≤ 1 + l + (q : Int); omega, by show 1 + l + (q : Int) ≤ _; omega⟩
  · rintro (rfl | ⟨h1, h2⟩)
    · exact ⟨(1, nought), by unfold mkBs; simp, rfl⟩
    · refine ⟨(k, Ytlcdpmjdnihocaa.coF b l i k), ?_, rfl⟩
      unfold mkBs
      refine List.mem_cons_of_mem _ (List.mem_map.2 ⟨(k - 1 - l).toNat, List.mem_range.2 (by unfold mkN; omega), ?_⟩)
      rw [show 1 + l + (((k - 1 - l).toNat : Nat) : Int) = k by omega]
theorem lastV_co {b l i k : Int} (hf : YtlcdpmjdnihocaaP.Fine b l i) (hk : 1 + l ≤ k ∧ k ≤ YtlcdpmjdnihocaaP.dataAt b l i) (x : Nat → Int) : lastV x (mkBs b l i) k = Ytlcdpmjdnihocaa.coF b l i k := by
  obtain ⟨b1, b2, b3, b4, b5, b6, b7, b8⟩ := Ytlcdpmjdnihocaa.fine_bd hf
  have key : ∀ (m : Nat) (f : Nat → Nat → Int) (x : Nat → Int) (j : Nat), j < m → lastV x ((List.range m).map fun (q : Nat) => ((1 + l + (q : Int), f q) : Cel)) (1 + l + (j : Int)) = f j := fun m f => by
    induction m with
    | zero => intro x j hj; omega
    | succ m ih =>
      intro x j hj
      rw [List.range_succ, List.map_append, lastV_append]
      show (if 1 + l + (m : Int) = 1 + l + (j : Int) then f m else _) = f j
      by_cases e : j = m
      · subst e; rw [if_pos rfl]
      · rw [if_neg (by omega)]; exact ih x j (by omega)
  unfold mkBs
  show lastV (if (1 : Int) = k then nought else x) _ k = _
  rw [if_neg (by omega)]
  have := key (mkN b l i) (fun q => Ytlcdpmjdnihocaa.coF b l i (1 + l + (q : Int))) x (k - 1 - l).toNat (by unfold mkN; omega)
  rw [show 1 + l + (((k - 1 - l).toNat : Nat) : Int) = k by omega] at this
  exact this
/-- Where nothing is written it stays, all else is the same. -/
theorem mk_stay {b l i k : Int} (hf : YtlcdpmjdnihocaaP.Fine b l i) (x : Nat → Int) (h : (1 < k ∧ k < 1 + l) ∨ YtlcdpmjdnihocaaP.dataAt b l i < k) : k ≠ 0 ∧ lastV x (mkBs b l i) k = x := by
  obtain ⟨b1, b2, b3, b4, b5, b6, b7, b8⟩ := Ytlcdpmjdnihocaa.fine_bd hf
  refine ⟨by omega, lastV_none _ _ fun c hc e => ?_⟩
  have := (mkBs_mem (k := k) hf).1 ⟨c, hc, e⟩
  omega
theorem mk_same {b l i k : Int} (hf : YtlcdpmjdnihocaaP.Fine b l i) (hk : 0 ≤ k) (x y : Nat → Int) (h : ¬ ((1 < k ∧ k < 1 + l) ∨ YtlcdpmjdnihocaaP.dataAt b l i < k)) (h0 : k ≠ 0) : lastV x (mkBs b l i) k = lastV y (mkBs b l i) k :=
  lastV_some _ _ _ ((mkBs_mem hf).2 (by omega))
/-- A disk behind mkfs, read so often. -/
structure Dn (b l i n : Int) (s : St) (s0 : Int → Nat → Int) (j : Nat) (N : Nat) : Prop where
  n : s.n = n
  live : s.stopped = false
  fuse : s.fuse = -1
  wait : s.wait = []
  made : s.made = N
  reads : s.reads = j
  claims : s.claims ≤ 5
  ops : s.ops.length ≤ 5000
  get : ∀ k, gt s k = if k = 0 then YtlcdpmjdnihocaaP.superF b l i else lastV (s0 k) (mkBs b l i) k
theorem allV_ops : ∀ (l : List MOp) (s : St), (allV s l).ops.length = s.ops.length + l.length
  | [], s => rfl
  | o :: t, s => by
    rw [allV_cons, allV_ops t]
    have : (goV s o).ops.length = s.ops.length + 1 := by
      cases o with
      | none => show (barS s).ops.length = _; rw [barS_ops]; simp
      | some c => show (writeS s c.1 c.2).ops.length = _; rw [writeS_ops]; simp
    rw [this, List.length_cons]
    omega
theorem claimV_ops (s : St) : (claimV s).ops = s.ops := by
  unfold claimV
  split
  · rfl
  · rfl
theorem dn_of {b l i n : Int} {s : St} (hf : YtlcdpmjdnihocaaP.Fine b l i) (hn : s.n = n) (hb : b ≤ n) (hs : s.stopped = false) (hfu : s.fuse = -1) (hw : s.wait = []) (hc : s.claims ≤ 4) (ho : s.ops.length ≤ 600) (r m : Nat) (hr : s.reads = r) (hm : s.made = m) :
    mkE b l i s = 0 ∧ Dn b l i n (mkV b l i s) (gt s) r (m + (mkN b l i + 6)) := by
  obtain ⟨q1, q2, q3, q4, q5, q6, q7, q8⟩ := mk_done (s := s) hf (by rw [hn]; exact hb) hs (.inl hfu)
  have hcl := claimV_hw s
  obtain ⟨g1, g2⟩ := mk_get hf (claimV s) (by rw [hcl.2, hw])
  have hlen := mkN_le hf
  refine ⟨q1, by rw [q4, hn], q5, by rw [q8, if_pos hfu], by rw [q2]; exact g1, by rw [q3, hm]; omega, by rw [q6, hr], by rw [q7]; omega, ?_, fun k => ?_⟩
  · rw [q2, allV_ops, claimV_ops, mkL_len]
    omega
  · rw [q2, g2 k]
    show _ = if k = 0 then _ else lastV (gt s k) _ k
    have : gt (claimV s) k = gt s k := by unfold gt; rw [hcl.1]
    rw [this]
theorem Dn.read {b l i n : Int} {s : St} {s0 : Int → Nat → Int} {j N : Nat} (h : Dn b l i n s s0 j N) {k : Int} (hk : 0 ≤ k ∧ k < n) :
    refV s k = 0 ∧ readB s k = gt s k ∧ Dn b l i n (readV s k) s0 (j + 1) N ∧ gt (readV s k) = gt s := by
  have hr : refV s k = 0 := by unfold refV; rw [h.live, if_neg (by simp), if_pos (by rw [h.n]; exact hk)]
  have hv : readV s k = readS s := by unfold readV; rw [if_pos hr]
  refine ⟨hr, ?_, ?_, by rw [hv]; rfl⟩
  · unfold readB
    rw [if_pos hr, curV_last, h.wait]
    rfl
  · rw [hv]
    refine ⟨h.n, h.live, h.fuse, h.wait, h.made, ?_, h.claims, h.ops, h.get⟩
    show s.reads + 1 = ((j + 1 : Nat) : Int)
    rw [h.reads]
    omega
theorem Dn.room {b l i n : Int} {s : St} {s0 : Int → Nat → Int} {j N : Nat} (h : Dn b l i n s s0 j N) (hj : j ≤ 100000) (hN : N ≤ 100000) : Room s ∧ Wide s 10000 ∧ s.claims < 1000000000 := by
  have h1 := h.ops
  have h2 := h.made
  have h3 := h.reads
  have h4 := h.claims
  exact ⟨⟨by omega, by omega, by omega, by omega⟩, ⟨by omega, by omega, by omega, by omega⟩, by omega⟩
/-- Made again it holds the same. -/
theorem Dn.again {b l i n : Int} {s : St} {s0 : Int → Nat → Int} {j N : Nat} (hf : YtlcdpmjdnihocaaP.Fine b l i) (h : Dn b l i n s s0 j N) (hb : b ≤ n) :
    mkE b l i s = 0 ∧ (mkV b l i s).made = ((N + (mkN b l i + 6) : Nat) : Int) ∧ (mkV b l i s).n = n ∧ ∀ k, gt (mkV b l i s) k = gt s k := by
  obtain ⟨q1, q2, q3, q4, q5, q6, q7, q8⟩ := mk_done (s := s) hf (by rw [h.n]; exact hb) h.live (.inl h.fuse)
  have hcl := claimV_hw s
  obtain ⟨g1, g2⟩ := mk_get hf (claimV s) (by rw [hcl.2, h.wait])
  have hg : gt (claimV s) = gt s := by unfold gt; rw [hcl.1]
  refine ⟨q1, by rw [q3, h.made]; omega, by rw [q4, h.n], fun k => ?_⟩
  rw [q2, g2 k, hg, h.get k]
  by_cases hk : k = 0
  · rw [if_pos hk, if_pos hk]
  · rw [if_neg hk, if_neg hk]
    by_cases hm : ∃ c ∈ mkBs b l i, c.1 = k
    · exact lastV_some _ _ _ hm
    · exact lastV_none _ _ fun c hc e => hm ⟨c, hc, e⟩
theorem exec_neB {o : Oper} {a : Act} {W : World} {x y : Operand} {f g : Nat → Int} {r : Bool} (ho : o.op = .binOp .neq 46 x y 46) (hx : a.eval x = .agg (blk f)) (hy : a.eval y = .agg (blk g)) (hr : sameB f g = r) : (execOp a.eval o).run Try.prog W = .ok (.value (.bool (!r))) W := by
  have e : (binOp .neq 46 (.agg (blk f)) (.agg (blk g))).run Try.prog W = .ok (.bool (!r)) W := by
    have h := eq25 f g W
    rw [hr] at h
    generalize blk f = F at *
    generalize blk g = G at *
    simp only [binOp, Op.equal, Op.maxDepth, Sem.run_bind, h, Result.andThen_ok, Sem.run_pure]
  have eg : (eqGuard .neq 46 x y (.agg (blk f)) (.agg (blk g))).run Try.prog W = .ok () W := by
    generalize blk f = F at *
    generalize blk g = G at *
    unfold eqGuard
    simp
  generalize blk f = F at *
  generalize blk g = G at *
  unfold execOp
  simp only [ho, hx, hy, Sem.run_bind, eg, e, Result.andThen_ok, Sem.run_pure]
end Go.Proofs.YtlcdpmjdnihocaaD
