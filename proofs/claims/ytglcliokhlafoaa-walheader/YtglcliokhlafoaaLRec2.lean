import Derived.Test.YtglcliokhlafoaaLives
/- The law's own function fresh: a log on a disk of noughts; for every geometry that may be. -/
namespace Go.Proofs.Ytglcliokhlafoaa
open Go.RowKit Go.Maps
theorem ret4 {fn : Func} {p q r u : Tmp} {ty : TypeId} {R : Ending → World → Prop} {a : Act} {w : World} (h : fn.results = #[.tmp p, .tmp q, .cell r ty, .tmp u]) (g : Nat) (cs : Array Value)
    (hp : a.tmps.getD r undef = .pointer (some ⟨g, 0, none⟩)) (hl : (loadVar ty ⟨g, 0, none⟩).run Try.prog w = .ok (.agg cs) w)
    (hdf : a.defers = []) (hR : R (.returned (.tuple #[a.tmps.getD p undef, a.tmps.getD q undef, .agg cs, a.tmps.getD u undef])) w) : bodyPost Try.prog fn R .ret a w := by
  refine bodyPost_ret ?_ hdf hR
  generalize a.tmps = T at *
  simp only [Array.getD_eq_getD_getElem?] at hp
  simp [results, h, hp, asAddr, hl]
theorem exec_storeL {a : Act} {o : Oper} {u : World} {x y : Operand} (ho : o.op = .store 30 x y) (g : Nat) (cs c0 : Array Value) (hs : cs.size = 9) (hs0 : c0.size = 9) (h1 : cs.all (·.oneCell') = true) (hx : a.eval x = .pointer (some ⟨g, 0, none⟩)) (hy : a.eval y = .agg cs) (hg : u.heap[g]? = some (.cells c0 30)) :
    (execOp a.eval o).run Try.prog u = .ok .skip (u.setRow g cs) := by
  have hz : (Try.prog.info? 30).map (·.size) = some cs.size := by rw [hs]; exact H.size25L
  unfold execOp
  simp only [ho, hx, hy, Instr.storeAt, Instr.sureAddr, Sem.run_bind, Sem.run_pure, Result.andThen_ok, run_storeVar_row u g 30 30 c0 cs hg hz (by rw [hs, hs0]) h1]
theorem newV_ops (n : Int) : (newV n).ops = [] := rfl
theorem rm_new (n : Int) : Rm (newV n) 3 := by
  refine ⟨?_, ?_, ?_, ?_⟩
  · rw [newV_ops]; decide
  · show (0 : Int) + 3 < _; omega
  · show (0 : Int) + 3 < _; omega
  · show (0 : Int) + 3 < _; omega
theorem layA_one (b l i : Int) : (layA b l i).all (·.oneCell') = true := H.lay_one _ _ _ _ _ _ _ _ _
/-- A block beside is written, and let go. -/
theorem LS.outside {w W W' : World} {g d c mb : Nat} {v : Value} {x : LSt} {s : CSt} {t : St} {os ks : List (Nat × Obj)} {q : Nat} (h : LS w W g d c mb v x s t os ks) (hf : Fr (fun k => k = q) W W') (hq : w.heap.size ≤ q) (hm : ∃ o, (q, o) ∈ ks) : LogSit w W' g d x s t [] := by
  obtain ⟨o, ho⟩ := hm
  have hne : ∀ k, LHas g mb v k → k ≠ q := fun k hk e => h.ap _ ho (by rw [← e]; exact hk)
  have hk : ∀ k, LHas g mb v k → W'.heap[k]? = W.heap[k]? := fun k hk => hf.block k (h.log.lt k hk) (hne k hk)
  have hne2 : ∀ p ∈ os, LHas g mb v p.1 → W'.heap[p.1]? = some p.2 := fun p hp hl => by
    rw [hk p.1 hl]
    exact h.sit.blk (List.mem_append.2 (.inl hp))
  refine ⟨c, mb, v, os.filter (fun p => decide (p.1 ≠ q)), h.sit.turn hf (fun k e => by subst e; exact ⟨hq, o, List.mem_append.2 (.inr ho)⟩) fun p hp => ?_, h.log.kept hk, fun k hk2 => ?_, fun p hp => by simp at hp⟩
  · rw [List.append_nil] at hp
    obtain ⟨hp1, hp2⟩ := List.mem_filter.1 hp
    have hp3 : p.1 ≠ q := by simpa using hp2
    have hb := h.sit.blk (List.mem_append.2 (.inl hp1) : (p.1, p.2) ∈ os ++ ks)
    exact ⟨(hf.block p.1 (Array.getElem?_eq_some_iff.1 hb).1 hp3).trans hb, .inl ⟨p.2, List.mem_append.2 (.inl hp1)⟩⟩
  · obtain ⟨h1, o2, ho2⟩ := h.own k hk2
    exact ⟨h1, o2, List.mem_filter.2 ⟨ho2, by simpa using hne k hk2⟩⟩
/-- The disk that a fresh log stands on. -/
def freshT (b : Int) : St := claimV (readS (newV b))
end Go.Proofs.Ytglcliokhlafoaa
/- Begin that commits; the disk's fuse under a log; what is left of a log whose power went; no condition but that numbers do not pass their greatest. -/
namespace Go.Proofs.Ytglcliokhlafoaa
open Go.RowKit Go.Maps
variable {w W : World} {g d c mb : Nat} {v : Value} {x : LSt} {s : CSt} {t : St} {os ks : List (Nat × Obj)} {base : Nat} {book : Int → Nat → Int}
/-- What a Begin leaves that commits first. -/
def BgPost (w : World) (g d : Nat) (x : LSt) (r : Int) (t : St) (book : Int → Nat → Int) (ks : List (Nat × Obj)) (e : Ending) (W' : World) : Prop :=
  e = .returned (.int .i64 (runE (cmtOps x book) t)) ∧ (∃ x' s', LogSit w W' g d x' s' (runV (cmtOps x book) t) ks ∧ x'.claim = x.claim) ∧ (runE (cmtOps x book) t = 0 → LogI w W' g d { forgotL x with commits := x.commits + 1, opn := true, room := r } (runV (cmtOps x book) t) book ks)
set_option maxHeartbeats 1600000 in
theorem LogI.beginOver (h : LogI w W g d x t book ks) {r : Int} (hr : refL x t false = 0) (hr1 : 1 ≤ r) (hr2 : r ≤ x.l - 1) (hr3 : x.l - 1 < (x.blocks.length : Int) + r) (hrm : Rm t (2 * x.blocks.length + 12)) (hcm : x.commits < 1099511627776) : Calls Try.prog 22 #[ptr g, .int .i64 r] W (BgPost w g d x r t book ks) := by
  obtain ⟨s, ⟨c, mb, v, os, h⟩, hI⟩ := h
  have hl : 32 ≤ x.l ∧ x.l ≤ 256 := ⟨hI.fine.1, hI.fine.2.1⟩
  have hlen := hI.len
  have hc : Calls Try.prog 49 #[ptr g, .bool false] W fun e W' => e = .returned (.int .i64 0) ∧ Bg1 W' g (x.l - 1) x.blocks.length ∧ Hid (∀ k, Calls Try.prog 51 #[ptr g] (W'.drewN k) (CmtPost w g d x t book ks)) := by
    refine (h.refuses2 false).mono ?_
    rintro e W' ⟨rfl, h1⟩
    exact ⟨by rw [hr], h1.bg1 hl, fun k => (h1.later (below_drewN _ k)).commit hI (claimed_live (refL_live hr).1) hrm hcm⟩
  have HO : Hid (∀ W', LogI w W' g d { forgotL x with commits := x.commits + 1 } (runV (cmtOps x book) t) book ks → LogI w ((W'.setCell ⟨g, 15, none⟩ (.bool true)).setCell ⟨g, 16, none⟩ (.int .i64 r)) g d { forgotL x with commits := x.commits + 1, opn := true, room := r } (runV (cmtOps x book) t) book ks) := fun W' h1 => h1.opened ⟨hr1, by show ((0 : Nat) : Int) + r ≤ x.l - 1; omega⟩
  clear h hr hI hrm
  unfold ptr at *
  generalize hm : x.l - 1 = m at *
  generalize hn : x.blocks.length = n at *
  have hn2 : n ≤ 256 := by omega
  have h1 : ¬ r < 1 := by omega
  have h2 : ¬ m < r := by omega
  have h3 : m < (n : Int) + r := by omega
  go_enter Try.func22, Try.ntmps22
  go_wp2_with (go_at_call 49; fail)
  refine hc.mono ?_
  rintro e W1 ⟨rfl, ⟨⟨p, cp, c13⟩, hmo, hm0⟩, HC⟩
  go_wp2_with (first | (go_at_call 50; refine hm0.mono ?_; rintro e W2 ⟨rfl, rfl⟩))
  go_quiet (first | (go_at_call 50; refine Calls.quiet_of_same (hmo _)))
  have HC2 := Hid.mk' (HC.out nq)
  clear hmo hm0 HC c13 hc
  go_wp2_with (go_at_call 51; fail)
  refine HC2.out.mono ?_
  rintro e W3 ⟨rfl, h4, h5⟩
  have H4 := Hid.mk' h4
  have H5 := Hid.mk' h5
  clear h4 h5 HC2
  by_cases hE : runE (cmtOps x book) t = 0
  · obtain ⟨s, h6, _⟩ := H5.out hE
    obtain ⟨c15, f15, c16, f16⟩ := h6.c1516
    have H6 := Hid.mk' (HO.out W3 (H5.out hE))
    have HE := Hid.mk' hE
    rw [hE]
    clear h6 hE H4 H5
    go_wp2
    go_ret
    refine ⟨congrArg (fun z => Ending.returned (.int .i64 z)) HE.out.symm, ?_, fun _ => H6.out⟩
    obtain ⟨s', q, _⟩ := H6.out
    exact ⟨_, s', q, rfl⟩
  · have HE := Hid.mk' hE
    generalize hGE : runE (cmtOps x book) t = E at *
    have HG := Hid.mk' hGE
    clear hGE
    go_wp2
    go_ret
    exact ⟨congrArg (fun z => Ending.returned (.int .i64 z)) HG.out.symm, H4.out, fun q => absurd (HG.out.symm.trans q) HE.out⟩
theorem cur_fuse (n : Int) : curV (fuseV t n) = curV t ∧ (fuseV t n).n = t.n := by
  unfold fuseV
  split <;> exact ⟨rfl, rfl⟩
/-- The log's row beside its disk. -/
theorem LogSit.toSits (h : LogSit w W g d x s t ks) : ∃ c mb v, Sits w W d t ((g, .cells (lgRow g d c mb v x) 86) :: ks) := by
  obtain ⟨c, mb, v, os, h⟩ := h
  obtain ⟨K, L, hc, hd, h0⟩ := h.sit
  refine ⟨c, mb, v, L, hd, h0.cd.disk, h0.newL, h0.below, fun p hp => ?_⟩
  rcases List.mem_cons.1 hp with rfl | hp
  · refine ⟨h.log.row, fun q => ?_⟩
    obtain ⟨_, o, ho⟩ := h.own g (.inl rfl)
    exact (h0.keep _ (List.mem_append.2 (.inl ho))).2.2 q
  · obtain ⟨a1, _, a3⟩ := h0.keep p (List.mem_append.2 (.inr hp))
    exact ⟨a1, a3⟩
theorem sits_claimed2 (h : Sits w W d t ks) (k : Int) : Calls Try.prog 71 #[.pointer (some ⟨d, 0, none⟩), .int .i64 k] W fun e W' => e = .returned (.bool (claimedV t k)) ∧ W' = W := by
  obtain ⟨L, rfl, hS⟩ := h
  exact claimed_of hS.disk k
/-- A dead log, beside its disk. -/
theorem dead_check (h : Sits w W d t ks) (hm : (g, .cells (lgRow g d c mb v x) 86) ∈ ks) (hd : claimedV t x.claim = false) : Calls Try.prog 56 #[ptr g] W fun e W' => e = .returned (.int .i64 3) ∧ ∃ m, W' = W.drewN m := by
  have hn := neq26
  have hrow := h.blk hm
  have c0 : W.cell? ⟨g, 0, none⟩ = some (ptr g) := Joins.cell_of_block hrow 0
  have c1 : W.cell? ⟨g, 1, none⟩ = some (ptr d) := Joins.cell_of_block hrow 1
  have c2 : W.cell? ⟨g, 2, none⟩ = some (.int .i64 x.claim) := Joins.cell_of_block hrow 2
  have hq : ∀ n, Calls Try.prog 71 #[ptr d, .int .i64 x.claim] (W.drewN n) fun e W' => e = .returned (.bool false) ∧ W' = W.drewN n := fun n => by
    have := sits_claimed2 (h.later (below_drewN W n)) x.claim
    rw [hd] at this
    exact this
  clear h hrow hd
  unfold ptr at *
  go_enter Try.func56, Try.ntmps56
  go_wp2
  go_quiet (first | (go_at_call 71; refine Calls.quiet_of_same (hq _)))
  go_wp2
  go_ret
  exact ⟨rfl, _, rfl⟩
theorem dead_used (h : Sits w W d t ks) (hm : (g, .cells (lgRow g d c mb v x) 86) ∈ ks) (hd : claimedV t x.claim = false) : Calls Try.prog 26 #[ptr g] W fun e W' => e = .returned (.int .i64 0) ∧ ∃ m, W' = W.drewN m := by
  have h0 := dead_check h hm hd
  clear h
  unfold ptr at *
  go_enter Try.func26, Try.ntmps26
  go_wp2_with (first | (go_at_call 56; refine h0.mono ?_; rintro e W1 ⟨rfl, m, rfl⟩))
  go_ret
  exact ⟨rfl, _, rfl⟩
end Go.Proofs.Ytglcliokhlafoaa
/- Recovery: blocks moved out of the log; no condition but that numbers do not pass their greatest. -/
namespace Go.Proofs.Ytglcliokhlafoaa
open Go.RowKit Go.Maps
variable {w W : World} {g d c mb : Nat} {v : Value} {x : LSt} {s : CSt} {t : St} {os ks : List (Nat × Obj)} {base : Nat} {book : Int → Nat → Int}
theorem Sits.addNew {W' : World} {q : Nat} {o : Obj} (h : Sits w W d t ks) (hb : Below W.heap.size W W') (hq : W.heap.size ≤ q) (ho : W'.heap[q]? = some o) : Sits w W' d t ((q, o) :: ks) := by
  obtain ⟨L, hd, h⟩ := h
  have h2 := h.goes (h.disk.later hb) (Goes.ofBelow L hb)
  refine ⟨L, hd, h2.disk, h2.new, h2.below, fun p hp => ?_⟩
  rcases List.mem_cons.1 hp with rfl | hp
  · exact ⟨ho, fun q2 => by have := h.disk.lt _ q2; simp only at this; omega⟩
  · exact h2.keep p hp
set_option maxRecDepth 20000 in
set_option maxHeartbeats 1600000 in
theorem committed_at {b l i : Int} (h : Sits w W d t ks) (hf : H.Fine b l i) (hn : b ≤ t.n) (hs : t.stopped = false) (hr : Room t) : Calls Try.prog 36 #[ptr d, .agg (layA b l i)] W fun e W' => ∃ p, e = .returned (.tuple #[.slice p (tgT b l t).length (tgT b l t).length, .int .i64 (tgE b l t)]) ∧ ((p = none ∧ tgT b l t = []) ∧ Sits w W' d (readS t) ks ∨ ∃ q, p = some ⟨q, 0, none⟩ ∧ Sits w W' d (readS t) ((q, .cells (H.listRow (tgT b l t)) 3) :: ks)) := by
  have hA := h.add (.cells (layA b l i) 30)
  have hrow := heap_alloc_new W (.cells (layA b l i) 30)
  have hsz : (layA b l i).size = 9 := rfl
  have hlen := sits_len2 hA
  have hpos := H.Fine.pos hf
  have hnn : ¬ t.n = 0 := by omega
  have hbn : ¬ t.n < b := by omega
  have hok := h.ok
  have HE : Hid (∀ V, Calls Try.prog 62 #[.agg (layA b l i), .agg #[.slice none 0 0]] V fun e W' => e = .returned (.tuple #[.agg (blk (H.headF [])), .int .i64 0]) ∧ Below V.heap.size V W') := fun V =>
    H.enc_ok b l i 1 (1 + l) (H.nodeB i) (H.bitsAt l i) (H.bitsB b) (H.dataAt b l i) [] none 0 V (fine_i64 hf) (lay_fine hf) ⟨hf.1, hf.2.1⟩ (fun q => by simp at q) (fun q hq => by simp at hq) (by simp) (decide_eq_true ⟨by have := hf.1; simp; omega, fun q hq => by simp at hq, List.nodup_nil⟩)
  have hcan := curV_can hok 1
  have HD : Hid (∀ V, Calls Try.prog 9 #[.agg (layA b l i), .agg (blk (curV t 1))] V fun e' w' => ∃ p, e' = .returned (.tuple #[.agg #[.slice p (tgT b l t).length (tgT b l t).length], .int .i64 (tgE b l t)]) ∧ (p = none ∧ tgT b l t = [] ∨ ∃ q, p = some ⟨q, 0, none⟩ ∧ V.heap.size ≤ q ∧ w'.heap[q]? = some (.cells (H.listRow (tgT b l t)) 3)) ∧ Below V.heap.size V w') := fun V =>
    H.dec_all b l i 1 (1 + l) (H.nodeB i) (H.bitsAt l i) (H.bitsB b) (H.dataAt b l i) (curV t 1) V (fine_i64 hf) (lay_fine hf) ⟨hf.1, hf.2.1⟩ hcan.1
  have href : refV t 1 = 0 := by unfold refV; rw [hs, if_neg (by simp), if_pos ⟨by omega, by omega⟩]
  have HR : Hid (∀ V, Below (W.alloc (.cells (layA b l i) 30)).heap.size (W.alloc (.cells (layA b l i) 30)) V → V.heap[W.heap.size]? = some (.cells (layA b l i) 30) ∧ V.cell? ⟨W.heap.size, 0, none⟩ = some (.int .i64 b) ∧ V.cell? ⟨W.heap.size, 3, none⟩ = some (.int .i64 1) ∧ (∀ k, Calls Try.prog 61 #[.pointer (some ⟨d, 0, none⟩)] (V.drewN k) fun e W' => e = .returned (.int .i64 t.n) ∧ W' = V.drewN k) ∧ Hid (∀ k, Calls Try.prog 30 #[.pointer (some ⟨d, 0, none⟩), .int .i64 1] (V.drewN k) fun e W' => e = .returned (.tuple #[.agg (blk (curV t 1)), .int .i64 0]) ∧ Sits w W' d (readS t) ((W.heap.size, .cells (layA b l i) 30) :: ks))) := fun V hb => by
    have h1 := hA.later hb
    have h2 := heap_kept hrow hb
    refine ⟨h2, Joins.cell_of_block h2 0, Joins.cell_of_block h2 3, fun k => sits_len2 (h1.later (below_drewN _ k)), fun k => ?_⟩
    have h3 := sits_read (h1.later (below_drewN _ k)) hr 1
    unfold readB readV at h3
    rw [href, if_pos rfl, if_pos rfl] at h3
    exact h3
  have HB0 := Hid.mk' (below_new W (.cells (layA b l i) 30))
  clear h hA hf hn hs hr hok hcan href hpos
  unfold ptr at *
  generalize layA b l i = L at *
  generalize curV t 1 = Fc at *
  generalize hTL : tgT b l t = T at *
  generalize tgE b l t = E at *
  have z25 := zero25
  go_enter Try.func36, Try.ntmps36
  go_wp2_with (first | (go_at_call 61; refine hlen.mono ?_; rintro e W1 ⟨rfl, rfl⟩) | refine wpList_load_row rfl 30 (.tmp 3) rfl W.heap.size rfl 30 L (0, 0) _ hrow Try.underlying30 rfl (by rw [hsz]; exact H.size25L) ?_ | (go_at_call 62; fail))
  refine (HE.out _).mono ?_
  rintro e W1 ⟨rfl, hb1⟩
  obtain ⟨hrow2, c0, c3, hlen2, hrd⟩ := HR.out _ (below_next hb1 (below_new W1 (.cells (blk (H.headF [])) 46)))
  have HB1 := Hid.mk' (below_next (below_next HB0.out hb1) (below_new W1 (.cells (blk (H.headF [])) 46)))
  clear hb1 hlen HE HR hrow HB0
  go_wp2_with (first | refine wpList_store25_new rfl (.tmp 6) (.tmp 18) rfl (H.headF []) _ rfl rfl ?_)
  generalize W1.alloc (.cells (blk (H.headF [])) 46) = W2 at *
  go_quiet (first | (go_at_call 61; refine Calls.quiet_of_same (hlen2 _)))
  have hrd2 := hrd.out nq
  have hrow3 : (W2.drewN nq).heap[W.heap.size]? = some (.cells L 30) := hrow2
  clear hlen2 hrd hrow2
  go_wp2_with (go_at_call 30; fail)
  refine hrd2.mono ?_
  rintro e W3 ⟨rfl, h3⟩
  have H3 := Hid.mk' (h3.add (.cells (blk Fc) 46))
  have hrow4 := H3.out.blk (List.mem_cons_of_mem _ (List.mem_cons_self ..))
  have hblk4 := H3.out.blk (List.mem_cons_self ..)
  clear hrd2 h3 hrow3 c0 c3
  go_wp2_with (first | refine wpList_store25_new rfl (.tmp 8) (.tmp 35) rfl Fc _ rfl rfl ?_ | refine wpList_load_row rfl 30 (.tmp 3) rfl W.heap.size rfl 30 L (0, 0) _ hrow4 Try.underlying30 rfl (by rw [hsz]; exact H.size25L) ?_ | refine wpList_load25 rfl (.tmp 8) rfl W3.heap.size rfl Fc hblk4 ?_ | (go_at_call 9; fail))
  refine (HD.out _).mono ?_
  rintro e W4 ⟨p, rfl, hp, hb4⟩
  have H4 : Hid ((p = none ∧ T = []) ∧ Sits w W4 d (readS t) ks ∨ ∃ q, p = some ⟨q, 0, none⟩ ∧ Sits w W4 d (readS t) ((q, .cells (H.listRow T) 3) :: ks)) := by
    have hd : ∀ q ∈ ks, q ∈ (W3.heap.size, Obj.cells (blk Fc) 46) :: (W.heap.size, .cells L 30) :: ks := fun q hq => List.mem_cons_of_mem _ (List.mem_cons_of_mem _ hq)
    rcases hp with hp | ⟨q, hq1, hq2, hq3⟩
    · exact .inl ⟨hp, (H3.out.later hb4).drop hd⟩
    · exact .inr ⟨q, hq1, (H3.out.drop hd).addNew hb4 hq2 hq3⟩
  clear hp hb4 H3 hrow4 hblk4 HD hTL
  go_wp2
  go_ret2
  refine ⟨p, rfl, ?_⟩
  rcases H4.out with ⟨q1, q2⟩ | ⟨q, q1, q2⟩
  · exact .inl ⟨q1, q2.later (below_new _ _)⟩
  · exact .inr ⟨q, q1, q2.later (below_new _ _)⟩
set_option maxRecDepth 20000 in
set_option maxHeartbeats 800000 in
/-- The header is set. -/
theorem sits_setHeader (h : Sits w W d t ks) (b l i : Int) {f : Nat → Int} (hf : Can f) (hr : Rm t 3) : Calls Try.prog 44 #[ptr d, .agg (layA b l i), .agg (blk f)] W fun e W' => e = .returned (.int .i64 (runE [some (1, f), none] t)) ∧ Sits w W' d (runV [some (1, f), none] t) ks := by
  have hA := ((h.add (.cells (layA b l i) 30)).add (.cells (blk f) 46))
  have hw := sits_write hA hr.room 1 hf
  have h31 : ((W.alloc (.cells (layA b l i) 30)).alloc (.cells (blk f) 46)).cell? ⟨W.heap.size, 3, none⟩ = some (.int .i64 1) := Joins.cell_of_block (hA.blk (List.mem_cons_of_mem _ (List.mem_cons_self ..))) 3
  have hblk := hA.blk (List.mem_cons_self ..)
  have hszA : (W.alloc (.cells (layA b l i) 30)).heap.size = W.heap.size + 1 := by simp
  rw [hszA] at hblk
  have hb2 : ∀ W', Sits w W' d (writeV t 1 f) ((((W.alloc (.cells (layA b l i) 30)).heap.size, Obj.cells (blk f) 46)) :: (W.heap.size, .cells (layA b l i) 30) :: ks) → Calls Try.prog 43 #[ptr d] W' fun e W'' => e = .returned (.int .i64 (barE (writeV t 1 f))) ∧ Sits w W'' d (barV (writeV t 1 f)) ks := fun W' h1 =>
    (sits_barrier h1 (Rm.room (n := 1) (hr.dop (some (1, f))))).mono fun e W'' ⟨a1, a2⟩ => ⟨a1, a2.drop fun p hp => List.mem_cons_of_mem _ (List.mem_cons_of_mem _ hp)⟩
  have hsz : (layA b l i).size = 9 := rfl
  by_cases he : writeE t 1 = 0
  · have e1 : runE [some (1, f), none] t = barE (writeV t 1 f) := by
      show (if writeE t 1 = 0 then (if barE (writeV t 1 f) = 0 then 0 else barE (writeV t 1 f)) else writeE t 1) = _
      rw [if_pos he]
      split
      · rename_i q; exact q.symm
      · rfl
    have e2 : runV [some (1, f), none] t = barV (writeV t 1 f) := by
      show (if writeE t 1 = 0 then (if barE (writeV t 1 f) = 0 then barV (writeV t 1 f) else barV (writeV t 1 f)) else writeV t 1 f) = _
      rw [if_pos he]
      split <;> rfl
    rw [e1, e2]
    rw [he] at hw
    have HW := Hid.mk' hw
    have HB2 := Hid.mk' hb2
    clear hw hb2 h hA hr hszA
    unfold ptr at HW ⊢
    generalize hF : blk f = F at *
    generalize hL : layA b l i = L at *
    go_enter Try.func44, Try.ntmps44
    go_wp2_with (first | (go_at_call 63; fail) | refine wpList_load_row rfl 46 (.tmp 5) rfl (W.heap.size + 1) rfl 46 F (0, 0) _ hblk Try.underlying46 rfl (by subst hF; rw [blk_size]; exact size25) ?_)
    refine HW.out.mono ?_
    rintro e W1 ⟨rfl, h1⟩
    have HB3 := Hid.mk' (HB2.out W1 h1)
    unfold ptr at HB3
    clear h1 HB2 HW
    go_wp2_with (go_at_call 43; fail)
    refine HB3.out.mono ?_
    rintro e W2 ⟨rfl, h2⟩
    have H2 := Hid.mk' h2
    clear h2 HB3
    go_wp2
    go_ret
    exact ⟨rfl, H2.out⟩
  · have e1 : runE [some (1, f), none] t = writeE t 1 := by
      show (if writeE t 1 = 0 then (if barE (writeV t 1 f) = 0 then 0 else barE (writeV t 1 f)) else writeE t 1) = _
      rw [if_neg he]
    have e2 : runV [some (1, f), none] t = writeV t 1 f := by
      show (if writeE t 1 = 0 then (if barE (writeV t 1 f) = 0 then barV (writeV t 1 f) else barV (writeV t 1 f)) else writeV t 1 f) = _
      rw [if_neg he]
    rw [e1, e2]
    have HW := Hid.mk' hw
    clear hw hb2 h hA hr hszA
    unfold ptr at HW ⊢
    generalize writeE t 1 = E at *
    generalize hF : blk f = F at *
    generalize hL : layA b l i = L at *
    go_enter Try.func44, Try.ntmps44
    go_wp2_with (first | (go_at_call 63; fail) | refine wpList_load_row rfl 46 (.tmp 5) rfl (W.heap.size + 1) rfl 46 F (0, 0) _ hblk Try.underlying46 rfl (by subst hF; rw [blk_size]; exact size25) ?_)
    refine HW.out.mono ?_
    rintro e W1 ⟨rfl, h1⟩
    have H1 := Hid.mk' (h1.drop (ks' := ks) fun p hp => List.mem_cons_of_mem _ (List.mem_cons_of_mem _ hp))
    clear h1 HW
    go_wp2
    go_ret
    exact ⟨rfl, H1.out⟩
/-- What stands in one block goes to another one. -/
def moE (t : St) (c : Int × Int) : Int := if refV t c.1 = 0 then writeE (readS t) c.2 else refV t c.1
def moV (t : St) (c : Int × Int) : St := if refV t c.1 = 0 then writeV (readS t) c.2 (curV t c.1) else t
def mE : List (Int × Int) → St → Int
  | [], _ => 0
  | o :: r, t => if moE t o = 0 then mE r (moV t o) else moE t o
def mV : List (Int × Int) → St → St
  | [], t => t
  | o :: r, t => if moE t o = 0 then mV r (moV t o) else moV t o
theorem mE_append : ∀ (a b : List (Int × Int)) (t : St), mE (a ++ b) t = if mE a t = 0 then mE b (mV a t) else mE a t
  | [], b, t => by simp [mE, mV]
  | o :: r, b, t => by
    show (if moE t o = 0 then mE (r ++ b) (moV t o) else moE t o) = if (if moE t o = 0 then mE r (moV t o) else moE t o) = 0 then mE b (if moE t o = 0 then mV r (moV t o) else moV t o) else (if moE t o = 0 then mE r (moV t o) else moE t o)
    by_cases h : moE t o = 0
    · simp only [if_pos h]
      exact mE_append r b _
    · simp only [if_neg h]
theorem mV_append : ∀ (a b : List (Int × Int)) (t : St), mV (a ++ b) t = if mE a t = 0 then mV b (mV a t) else mV a t
  | [], b, t => by simp [mE, mV]
  | o :: r, b, t => by
    show (if moE t o = 0 then mV (r ++ b) (moV t o) else moV t o) = if (if moE t o = 0 then mE r (moV t o) else moE t o) = 0 then mV b (if moE t o = 0 then mV r (moV t o) else moV t o) else (if moE t o = 0 then mV r (moV t o) else moV t o)
    by_cases h : moE t o = 0
    · simp only [if_pos h]
      exact mV_append r b _
    · simp only [if_neg h]
def mvs (T : List Int) (i : Nat) : List (Int × Int) := (List.range i).map fun (j : Nat) => (2 + (j : Int), T.getD j 0)
theorem mvs_len (T : List Int) (i : Nat) : (mvs T i).length = i := by simp [mvs]
theorem mvs_succ {T : List Int} {i : Nat} {y : Int} (h : T[i]? = some y) : mvs T (i + 1) = mvs T i ++ [(2 + (i : Int), y)] := by
  unfold mvs
  rw [List.range_succ, List.map_append]
  simp [List.getD, h]
theorem mvs_more (T : List Int) (i : Nat) : ∀ n, i ≤ n → ∃ r, mvs T n = mvs T i ++ r
  | 0, h => ⟨[], by obtain rfl : i = 0 := by omega
                    simp⟩
  | n + 1, h => by
    by_cases e : i = n + 1
    · exact ⟨[], by rw [e]; simp⟩
    · obtain ⟨r, hr⟩ := mvs_more T i n (by omega)
      refine ⟨r ++ [(2 + (n : Int), T.getD n 0)], ?_⟩
      rw [← List.append_assoc, ← hr]
      unfold mvs
      rw [List.range_succ, List.map_append]
      rfl
theorem mv_snoc {a : List (Int × Int)} {o : Int × Int} (h : mE a t = 0) : mE (a ++ [o]) t = moE (mV a t) o ∧ mV (a ++ [o]) t = moV (mV a t) o := by
  rw [mE_append, mV_append, if_pos h, if_pos h]
  constructor
  · show (if moE (mV a t) o = 0 then 0 else moE (mV a t) o) = _
    split
    · rename_i q; exact q.symm
    · rfl
  · show (if moE (mV a t) o = 0 then moV (mV a t) o else moV (mV a t) o) = _
    split <;> rfl
theorem mv_ended {a b : List (Int × Int)} (h : mE a t ≠ 0) : mE (a ++ b) t = mE a t ∧ mV (a ++ b) t = mV a t := by
  rw [mE_append, mV_append, if_neg h, if_neg h]
  exact ⟨rfl, rfl⟩
theorem mo_nums (t : St) (o : Int × Int) : (moV t o).made ≤ t.made + 1 ∧ (moV t o).reads ≤ t.reads + 1 ∧ (moV t o).claims = t.claims ∧ (moV t o).claimed = t.claimed ∧ (moV t o).n = t.n ∧ (moV t o).ops.length ≤ t.ops.length + 1 := by
  unfold moV
  split
  · obtain ⟨a1, a2, a3, a4, a5, a6⟩ := dop_nums (readS t) (some (o.2, curV t o.1))
    exact ⟨a1, by show (writeV (readS t) o.2 (curV t o.1)).reads ≤ _; rw [show (writeV (readS t) o.2 (curV t o.1)).reads = (readS t).reads from a2]; exact Int.le_refl _, a3, a4, a5, a6⟩
  · exact ⟨by omega, by omega, rfl, rfl, rfl, by omega⟩
theorem mv_nums : ∀ (l : List (Int × Int)) (t : St), (mV l t).made ≤ t.made + l.length ∧ (mV l t).reads ≤ t.reads + l.length ∧ (mV l t).claims = t.claims ∧ (mV l t).claimed = t.claimed ∧ (mV l t).n = t.n ∧ (mV l t).ops.length ≤ t.ops.length + l.length
  | [], t => by simp [mV]
  | o :: r, t => by
    obtain ⟨a1, a2, a3, a4, a5, a6⟩ := mo_nums t o
    obtain ⟨b1, b2, b3, b4, b5, b6⟩ := mv_nums r (moV t o)
    unfold mV
    split
    · exact ⟨by simp only [List.length_cons]; omega, by simp only [List.length_cons]; omega, b3.trans a3, b4.trans a4, b5.trans a5, by simp only [List.length_cons]; omega⟩
    · exact ⟨by simp only [List.length_cons]; omega, by simp only [List.length_cons]; omega, a3, a4, a5, by simp only [List.length_cons]; omega⟩
theorem Rm.moves {n : Nat} {l : List (Int × Int)} (h : Rm t (n + l.length)) : Rm (mV l t) n := by
  obtain ⟨h1, h2, h3, h4⟩ := h
  obtain ⟨b1, b2, b3, b4, b5, b6⟩ := mv_nums l t
  exact ⟨by omega, by omega, by omega, by omega⟩
theorem Rm.readS {n : Nat} (h : Rm t (n + 1)) : Rm (readS t) n := by
  obtain ⟨h1, h2, h3, h4⟩ := h
  refine ⟨?_, ?_, ?_, ?_⟩
  · show t.ops.length + n < _; omega
  · show t.made + n < _; omega
  · show t.reads + 1 + n < _; omega
  · show t.claims + n < _; omega
set_option maxRecDepth 20000 in
set_option maxHeartbeats 800000 in
theorem sits_move (h : Sits w W d t ks) (hr : Rm t 2) (a b : Int) : Calls Try.prog 41 #[ptr d, .int .i64 a, .int .i64 b] W fun e W' => e = .returned (.int .i64 (moE t (a, b))) ∧ Sits w W' d (moV t (a, b)) ks := by
  have hrd := sits_read h (Rm.room hr) a
  have hok := h.ok
  have z25 := zero25
  unfold ptr
  unfold moE moV
  unfold readB readV at hrd
  by_cases href : refV t a = 0
  · simp only [href, if_true] at hrd ⊢
    have HWr : Hid (∀ V, Sits w V d (readS t) ks → Calls Try.prog 63 #[.pointer (some ⟨d, 0, none⟩), .int .i64 b, .agg (blk (curV t a))] (V.alloc (.cells (blk (curV t a)) 46)) fun e W' => e = .returned (.int .i64 (writeE (readS t) b)) ∧ Sits w W' d (writeV (readS t) b (curV t a)) ks) := fun V h1 => sits_write (h1.later (below_new _ _)) (Rm.room hr.readS) b (curV_can hok a)
    clear h hok
    generalize curV t a = F at *
    go_enter Try.func41, Try.ntmps41
    go_wp2_with (go_at_call 30; fail)
    refine hrd.mono ?_
    rintro e W1 ⟨rfl, h1⟩
    have H1 := Hid.mk' (HWr.out W1 h1)
    clear h1 HWr hrd
    go_wp2_with (first | refine wpList_store25_new rfl (.tmp 7) (.tmp 13) rfl F _ rfl rfl ?_ | refine wpList_load25 rfl (.tmp 7) rfl W1.heap.size rfl F (heap_alloc_new _ _) ?_ | (go_at_call 63; fail))
    refine H1.out.mono ?_
    rintro e W2 ⟨rfl, h2⟩
    have H2 := Hid.mk' h2
    clear h2 H1
    go_wp2
    go_ret
    exact ⟨rfl, H2.out⟩
  · simp only [href, if_false] at hrd ⊢
    clear h hok
    generalize refV t a = E at *
    go_enter Try.func41, Try.ntmps41
    go_wp2_with (go_at_call 30; fail)
    refine hrd.mono ?_
    rintro e W1 ⟨rfl, h1⟩
    have H1 := Hid.mk' (h1.later (below_new W1 (.cells (blk nought) 46)))
    clear h1 hrd
    go_wp2_with (first | refine wpList_store25_new rfl (.tmp 7) (.tmp 13) rfl nought _ rfl rfl ?_)
    go_ret
    exact ⟨rfl, H1.out⟩
end Go.Proofs.Ytglcliokhlafoaa
/- Recovery: the walk; New where a header names blocks; no condition but that numbers do not pass their greatest. -/
namespace Go.Proofs.Ytglcliokhlafoaa
open Go.RowKit Go.Maps
variable {w W : World} {g d c mb : Nat} {v : Value} {x : LSt} {s : CSt} {t : St} {os ks : List (Nat × Obj)} {base : Nat} {book : Int → Nat → Int}
def rcE (T : List Int) (t : St) : Int := if mE (mvs T T.length) t = 0 then runE [none, some (1, nought), none] (mV (mvs T T.length) t) else mE (mvs T T.length) t
def rcV (T : List Int) (t : St) : St := if mE (mvs T T.length) t = 0 then runV [none, some (1, nought), none] (mV (mvs T T.length) t) else mV (mvs T T.length) t
set_option maxRecDepth 20000 in
set_option maxHeartbeats 800000 in
theorem recover_empty {b l i : Int} (h : Sits w W d t ks) (hf : H.Fine b l i) (hn : b ≤ t.n) (hs : t.stopped = false) (hr : Rm t 2) (hT : tgT b l t = []) : Calls Try.prog 13 #[ptr d, .agg (layA b l i)] W fun e W' => e = .returned (.tuple #[.int .i64 0, .int .i64 (tgE b l t)]) ∧ Sits w W' d (readS t) ks := by
  have hA := h.add (.cells (layA b l i) 30)
  have hrow := heap_alloc_new W (.cells (layA b l i) 30)
  have hsz : (layA b l i).size = 9 := rfl
  have hc := Hid.mk' (committed_ok hA hf hn hs (Rm.room hr))
  rw [hT] at hc
  clear h hA hf hn hs hr hT
  unfold ptr at *
  generalize layA b l i = L at *
  generalize tgE b l t = E at *
  go_enter Try.func13, Try.ntmps13
  go_wp2_with (first | refine wpList_load_row rfl 30 (.tmp 3) rfl W.heap.size rfl 30 L (0, 0) _ hrow Try.underlying30 rfl (by rw [hsz]; exact H.size25L) ?_ | (go_at_call 36; fail))
  refine hc.out.mono ?_
  rintro e W1 ⟨p, rfl, _, h1⟩
  have H1 := Hid.mk' (h1.drop (ks' := ks) fun q hq => List.mem_cons_of_mem _ hq)
  clear h1 hc hrow
  by_cases hE : E = 0
  · subst hE
    go_wp2
    go_ret2
    exact ⟨rfl, H1.out⟩
  · go_wp2
    go_ret2
    exact ⟨rfl, H1.out⟩
/-- Behind the first k moves. -/
def RcI (w : World) (d : Nat) (T : List Int) (t : St) (ks : List (Nat × Obj)) (k : Nat) (wx : World) : Prop := Sits w wx d (mV (mvs T k) t) ks ∧ mE (mvs T k) t = 0
theorem RcI.move {T : List Int} {k : Nat} {wx : World} {y : Int} (h : RcI w d T t ks k wx) (hy : T[k]? = some y) (hr : Rm t (T.length + 2)) :
    Calls Try.prog 41 #[ptr d, .int .i64 (2 + (k : Int)), .int .i64 y] wx fun e W' => (e = .returned (.int .i64 0) ∧ RcI w d T t ks (k + 1) W') ∨ (∃ E, E ≠ 0 ∧ e = .returned (.int .i64 E) ∧ rcE T t = E ∧ Sits w W' d (rcV T t) ks) := by
  obtain ⟨h1, h2⟩ := h
  have hk := (List.getElem?_eq_some_iff.1 hy).1
  have hRm : Rm (mV (mvs T k) t) 2 := Rm.moves (hr.le (by rw [mvs_len]; omega))
  refine (sits_move h1 hRm (2 + (k : Int)) y).mono ?_
  rintro e W' ⟨rfl, h3⟩
  obtain ⟨r1, r2⟩ := mv_snoc (o := (2 + (k : Int), y)) h2
  rw [← mvs_succ hy] at r1 r2
  by_cases he : moE (mV (mvs T k) t) (2 + (k : Int), y) = 0
  · exact .inl ⟨by rw [he], by rw [r2]; exact h3, by rw [r1]; exact he⟩
  · obtain ⟨r, hr2⟩ := mvs_more T (k + 1) T.length (by omega)
    have h6 : mE (mvs T (k + 1)) t ≠ 0 := by rw [r1]; exact he
    obtain ⟨q1, q2⟩ := mv_ended (b := r) h6
    rw [← hr2] at q1 q2
    have h7 : mE (mvs T T.length) t ≠ 0 := by rw [q1]; exact h6
    refine .inr ⟨_, he, rfl, ?_, ?_⟩
    · unfold rcE
      rw [if_neg h7, q1, r1]
    · unfold rcV
      rw [if_neg h7, q2, r2]
      exact h3
/-- What a recovery leaves. -/
def RcPost (w : World) (d : Nat) (T : List Int) (t : St) (ks : List (Nat × Obj)) (e : Ending) (W' : World) : Prop := e = .returned (.tuple #[.int .i64 (if rcE T t = 0 then (T.length : Int) else 0), .int .i64 (rcE T t)]) ∧ Sits w W' d (rcV T t) ks
theorem rc_bad {T : List Int} {E : Int} (h : rcE T t = E) (h0 : E ≠ 0) (hs : Sits w W d (rcV T t) ks) : RcPost w d T t ks (.returned (.tuple #[.int .i64 0, .int .i64 E])) W := by
  refine ⟨?_, hs⟩
  rw [h, if_neg h0]
theorem rc_fine {T : List Int} (h : rcE T t = 0) (hs : Sits w W d (rcV T t) ks) : RcPost w d T t ks (.returned (.tuple #[.int .i64 (T.length : Int), .int .i64 0])) W := by
  refine ⟨?_, hs⟩
  rw [h, if_pos rfl]
set_option maxRecDepth 20000 in
set_option maxHeartbeats 4000000 in
theorem recover_some {b l i : Int} (h : Sits w W d t ks) (hf : H.Fine b l i) (hn : b ≤ t.n) (hs : t.stopped = false) (hT : tgT b l t ≠ []) (hE : tgE b l t = 0) (hlen : (tgT b l t).length ≤ 255) (hr : Rm t ((tgT b l t).length + 8)) : Calls Try.prog 13 #[ptr d, .agg (layA b l i)] W (RcPost w d (tgT b l t) (readS t) ks) := by
  have hA := h.add (.cells (layA b l i) 30)
  have hrow := heap_alloc_new W (.cells (layA b l i) 30)
  have hsz : (layA b l i).size = 9 := rfl
  have hc := Hid.mk' (committed_at hA hf hn hs (Rm.room (n := (tgT b l t).length + 7) hr))
  rw [hE] at hc
  have hr1 : Rm (readS t) ((tgT b l t).length + 7) := hr.readS
  have hpos : 0 < (tgT b l t).length := List.length_pos_iff.2 hT
  generalize tgT b l t = T at *
  generalize readS t = t1 at *
  have HM : Hid (∀ k wx ks' y, RcI w d T t1 ks' k wx → T[k]? = some y → Calls Try.prog 41 #[ptr d, .int .i64 (2 + (k : Int)), .int .i64 y] wx fun e W' => (e = .returned (.int .i64 0) ∧ RcI w d T t1 ks' (k + 1) W') ∨ (∃ E, E ≠ 0 ∧ e = .returned (.int .i64 E) ∧ rcE T t1 = E ∧ Sits w W' d (rcV T t1) ks')) := fun k wx ks' y h1 hy => h1.move hy (hr1.le (by omega))
  have HB : Hid (∀ wx ks', RcI w d T t1 ks' T.length wx → Calls Try.prog 43 #[ptr d] wx fun e W' => e = .returned (.int .i64 (barE (mV (mvs T T.length) t1))) ∧ Sits w W' d (barV (mV (mvs T T.length) t1)) ks' ∧ rcE T t1 = runE [none, some (1, nought), none] (mV (mvs T T.length) t1) ∧ rcV T t1 = runV [none, some (1, nought), none] (mV (mvs T T.length) t1) ∧ Rm (barV (mV (mvs T T.length) t1)) 4) := fun wx ks' h1 => by
    obtain ⟨h1, h2⟩ := h1
    have hRm : Rm (mV (mvs T T.length) t1) 5 := Rm.moves (hr1.le (by rw [mvs_len]; omega))
    refine (sits_barrier h1 (Rm.room (n := 4) hRm)).mono ?_
    rintro e W' ⟨rfl, h3⟩
    exact ⟨rfl, h3, by unfold rcE; rw [if_pos h2], by unfold rcV; rw [if_pos h2], hRm.dop none⟩
  have HH : Hid (∀ wx ks' t2, Sits w wx d t2 ks' → Rm t2 4 → Calls Try.prog 44 #[ptr d, .agg (layA b l i), .agg (blk nought)] wx fun e W' => e = .returned (.int .i64 (runE [some (1, nought), none] t2)) ∧ Sits w W' d (runV [some (1, nought), none] t2) ks') := fun wx ks' t2 h1 h2 => sits_setHeader h1 b l i can_nought (h2.le (by omega))
  have HI : Hid (∀ (j : Int) V, (0 ≤ j ∧ j ≤ 1048576) → Calls Try.prog 42 #[.agg (layA b l i), .int .i64 j] V fun e W' => e = .returned (.int .i64 (2 + j)) ∧ W' = V.alloc (.cells (layA b l i) 30)) := fun j V hj => inLog_any b l i j hj V
  clear h hA hf hn hs hr hr1 hE hT
  unfold ptr at *
  generalize layA b l i = L at *
  have z25 := zero25
  go_enter Try.func13, Try.ntmps13
  go_wp2_with (first | refine wpList_load_row rfl 30 (.tmp 3) rfl W.heap.size rfl 30 L (0, 0) _ hrow Try.underlying30 rfl (by rw [hsz]; exact H.size25L) ?_ | (go_at_call 36; fail))
  refine hc.out.mono ?_
  rintro e W1 ⟨p, rfl, hp⟩
  have hp2 : ∃ q, p = some ⟨q, 0, none⟩ ∧ Sits w W1 d t1 ((q, .cells (H.listRow T) 3) :: (W.heap.size, .cells L 30) :: ks) := by
    rcases hp with ⟨⟨_, q⟩, _⟩ | q
    · rw [q] at hpos; simp at hpos
    · exact q
  clear hp hc hrow
  obtain ⟨q, rfl, h1⟩ := hp2
  have H1 : Hid (RcI w d T t1 ((q, .cells (H.listRow T) 3) :: (W.heap.size, .cells L 30) :: ks) 0 W1) := ⟨h1, rfl⟩
  clear h1
  have HT : Hid (∀ k, k < T.length → ∃ y, T[k]? = some y ∧ (H.listRow T)[k]? = some (.int .i64 y)) := fun k hk => ⟨T[k], List.getElem?_eq_getElem hk, by unfold H.listRow; simp [hk]⟩
  generalize hTn : T.length = n at *
  have hn0 : ¬ (n : Int) = 0 := by omega
  have hnb : ((n : Int) == 0) = false := by simpa using hn0
  go_wp2
  go_loopw [29] (fun s29 wx => ∃ k : Nat, k ≤ n ∧ s29 = .int .i64 k ∧ Hid (RcI w d T t1 ((q, .cells (H.listRow T) 3) :: (W.heap.size, .cells L 30) :: ks) k wx)) (fun s29 _ => n - (intOf s29).toNat)
  case atStart => exact ⟨0, by omega, rfl, H1.out⟩
  case round =>
    obtain ⟨k, hk, rfl, HP⟩ := hrel
    by_cases hk2 : (k : Int) < n
    · have hkl : k < n := by omega
      obtain ⟨y, hy, hyr⟩ := HT.out k hkl
      have hcl : wr.cell? ⟨q, k, none⟩ = some (.int .i64 y) := (Joins.cell_of_block (HP.out.1.blk (List.mem_cons_self ..)) k).trans hyr
      have hlr := HP.out.1.blk (List.mem_cons_of_mem _ (List.mem_cons_self ..))
      have HMk : Hid (∀ V, Below wr.heap.size wr V → Calls Try.prog 41 #[.pointer (some ⟨d, 0, none⟩), .int .i64 (2 + (k : Int)), .int .i64 y] V fun e W' => (e = .returned (.int .i64 0) ∧ RcI w d T t1 ((q, .cells (H.listRow T) 3) :: (W.heap.size, .cells L 30) :: ks) (k + 1) W') ∨ (∃ E, E ≠ 0 ∧ e = .returned (.int .i64 E) ∧ rcE T t1 = E ∧ Sits w W' d (rcV T t1) ((q, .cells (H.listRow T) 3) :: (W.heap.size, .cells L 30) :: ks))) := fun V hb => HM.out k V _ y ⟨HP.out.1.later hb, HP.out.2⟩ hy
      clear HP hy hyr HT H1 HB HH
      go_wp2_with (first | refine wpList_load_row rfl 30 (.tmp 3) rfl W.heap.size rfl 30 L (0, 0) _ hlr Try.underlying30 rfl (by rw [hsz]; exact H.size25L) ?_ | (go_at_call 42; refine (HI.out (k : Int) _ ⟨by omega, by omega⟩).mono ?_; rintro e V1 ⟨rfl, rfl⟩) | (go_at_call 41; fail))
      refine (HMk.out _ (below_new _ _)).mono ?_
      rintro e W2 (⟨rfl, h2⟩ | ⟨E, hE, rfl, hE2, h2⟩)
      · have H2 := Hid.mk' h2
        clear h2 HMk hcl hlr
        go_wp2
        exact ⟨⟨k + 1, by omega, by go_num, H2.out⟩, by simp [intOf]; omega⟩
      · have H2 := Hid.mk' (h2.drop (ks' := ks) fun p hp => List.mem_cons_of_mem _ (List.mem_cons_of_mem _ hp))
        have H3 := Hid.mk' hE2
        clear h2 HMk hcl hlr hE2
        go_wp2
        go_ret2
        exact rc_bad H3.out hE H2.out
    · obtain rfl : k = n := by omega
      subst hTn
      have HB2 := Hid.mk' (HB.out wr _ HP.out)
      clear HB HP H1 HM HT
      go_wp2_with (go_at_call 43; fail)
      refine HB2.out.mono ?_
      rintro e W2 ⟨rfl, h2, e1, e2, hrm⟩
      have HE : Hid (rcE T t1 = (if barE (mV (mvs T T.length) t1) = 0 then runE [some (1, nought), none] (barV (mV (mvs T T.length) t1)) else barE (mV (mvs T T.length) t1)) ∧ rcV T t1 = (if barE (mV (mvs T T.length) t1) = 0 then runV [some (1, nought), none] (barV (mV (mvs T T.length) t1)) else barV (mV (mvs T T.length) t1))) := ⟨e1, e2⟩
      have hlr := h2.blk (List.mem_cons_of_mem _ (List.mem_cons_self ..))
      have H2 := Hid.mk' h2
      have HH2 := Hid.mk' (HH.out W2 _ _ h2 hrm)
      clear e1 e2 h2 HB2 HH hrm
      generalize mV (mvs T T.length) t1 = t2 at *
      by_cases hB : barE t2 = 0
      · rw [hB] at HE ⊢
        rw [if_pos rfl, if_pos rfl] at HE
        go_wp2_with (first | refine wpList_load_row rfl 30 (.tmp 3) rfl W.heap.size rfl 30 L (0, 0) _ hlr Try.underlying30 rfl (by rw [hsz]; exact H.size25L) ?_ | refine H.wpList_build30w rfl rfl ?_ | (go_at_call 44; fail))
        refine HH2.out.mono ?_
        rintro e W3 ⟨rfl, h3⟩
        have H3 := Hid.mk' (h3.drop (ks' := ks) fun p hp => List.mem_cons_of_mem _ (List.mem_cons_of_mem _ hp))
        clear h3 HH2 hlr H2
        rw [← HE.out.1]
        rw [← HE.out.2] at H3
        by_cases hR : rcE T t1 = 0
        · have HR0 := Hid.mk' hR
          rw [hR]
          clear hR
          go_wp2
          go_ret2
          exact rc_fine HR0.out H3.out
        · generalize hGE : rcE T t1 = E at *
          have HG := Hid.mk' hGE
          clear hGE
          go_wp2
          go_ret2
          exact rc_bad HG.out hR H3.out
      · rw [if_neg hB, if_neg hB] at HE
        have H3 := Hid.mk' (H2.out.drop (ks' := ks) fun p hp => List.mem_cons_of_mem _ (List.mem_cons_of_mem _ hp))
        clear HH2 hlr H2
        rw [← HE.out.2] at H3
        rw [← HE.out.1] at hB ⊢
        generalize hGE : rcE T t1 = E at *
        have HG := Hid.mk' hGE
        clear hGE
        go_wp2
        go_ret2
        exact rc_bad HG.out hB H3.out
end Go.Proofs.Ytglcliokhlafoaa
