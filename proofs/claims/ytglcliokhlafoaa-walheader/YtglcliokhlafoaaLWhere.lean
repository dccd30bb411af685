/- The law's own functions where (nothing turned) and block; for every geometry, every byte. -/
import Derived.Test.YtglcliokhlafoaaLNew
namespace Go.Proofs.Ytglcliokhlafoaa
open Go.RowKit Go.Maps
variable {w W : World} {g d c mb : Nat} {v : Value} {x : LSt} {s : CSt} {t : St} {os ks : List (Nat × Obj)} {base : Nat} {book : Int → Nat → Int}
theorem ofV_nine (b l i : Int) : ∃ x0 x1 x2 x3 x4 x5 x6 x7 x8, H.ofV b l i = .agg (H.lay9 x0 x1 x2 x3 x4 x5 x6 x7 x8) := by
  unfold H.ofV
  by_cases h : H.Fine b l i
  · rw [if_pos h]
    exact ⟨_, _, _, _, _, _, _, _, _, rfl⟩
  · rw [if_neg h]
    exact ⟨_, _, _, _, _, _, _, _, _, rfl⟩
theorem wpList_storeL {ops : Array Oper} {rest : List Oper} {o : Oper} {a : Act} {w : World} {Q : Exit → Act → World → Prop} (hgd : o.guard = none) (x y : Operand) (ho : o.op = .store 30 x y)
    (g : Nat) (cs c0 : Array Value) (hx : a.eval x = .pointer (some ⟨g, 0, none⟩)) (hy : a.eval y = .agg cs) (hg : w.heap[g]? = some (.cells c0 30)) (hs : cs.size = 9) (hs0 : c0.size = 9) (h1 : cs.all (·.oneCell') = true)
    (h : wpList Try.prog ops Q rest (a.put o.dst undef) (w.setRow g cs)) : wpList Try.prog ops Q (o :: rest) a w :=
  wpList_plain hgd fun _ hK => by
    have hz : (Try.prog.info? 30).map (·.size) = some cs.size := by rw [hs]; exact H.size25L
    unfold Oper.wp execOp
    simp only [ho, hx, hy, Instr.storeAt, Instr.sureAddr, Sem.run_bind, Sem.run_pure, Result.andThen_ok, run_storeVar_row w g 30 30 c0 cs hg hz (by rw [hs, hs0]) h1]
    exact hK _ _ h
set_option maxRecDepth 20000 in
set_option maxHeartbeats 2000000 in
theorem where0 (b l i : Int) (w : World) : Calls Try.prog 21 #[H.geoV b l i, .int .i64 0] w fun e w' => e = .returned (H.ofV b l i) ∧ Below w.heap.size w w' := by
  have hc := fun w => H.refOf_any b l i w
  obtain ⟨x0, x1, x2, x3, x4, x5, x6, x7, x8, hv⟩ := ofV_nine b l i
  rw [hv] at hc ⊢
  generalize H.ofE b l i = E at *
  clear hv
  unfold H.geoV H.lay9 at *
  go_enter Try.func21, Try.ntmps21
  go_wp2_with (first | (go_at_call 4; fail))
  refine (hc _).mono ?_
  rintro e' W1 ⟨rfl, hb1⟩
  have h4 := heap_kept (heap_alloc2_new w _ _) hb1
  have HB1 : Hid (Below w.heap.size w W1) := below_next (H.bel_al (below_new _ _) _) hb1
  clear hb1 hc
  have h4' := fun (cs : Array Value) => heap_kept h4 (below_new W1 (.cells cs 30))
  go_wp2_with (first | (with_reducible refine H.isLoad 30 ?_; refine H.wpList_loadL rfl _ rfl _ rfl _ rfl (heap_alloc_new _ _) ?_) | (with_reducible refine H.isStore 30 ?_; refine H.wpList_storeL_new rfl _ _ rfl _ _ rfl rfl (by simp [Value.oneCell']) _ rfl rfl rfl ?_) | (with_reducible refine H.isStore 30 ?_; refine wpList_storeL rfl _ _ rfl _ _ _ rfl rfl (h4' _) rfl rfl (by simp [Value.oneCell']) ?_))
  exact retL rfl (w.heap.size + 1) _ rfl rfl (setRow_heap _ _ _ _ _ _ (h4' _)) rfl ⟨rfl, below_setRow (H.bel_al HB1.out _) (by omega) _⟩
def blkF (v : Int) : Nat → Int := upd (upd nought 0 v) 1023 (v / 2)
set_option maxRecDepth 20000 in
set_option maxHeartbeats 1000000 in
theorem block_any (v : Int) (hv : 0 ≤ v ∧ v ≤ 255) (w : World) : Calls Try.prog 24 #[.int .u8 v] w fun e w' => e = .returned (.agg (blk (blkF v))) ∧ Below w.heap.size w w' := by
  have z25 := zero25
  have hset := blk_set
  have hg0 := fun f => blk_get f 0 (by omega)
  have hg1 := fun f => blk_get f 1023 (by omega)
  have HF : Hid (blk (blkF v) = blk (upd (upd nought 0 v) 1023 (v / 2))) := rfl
  have hq : IntKind.u8.wrap (v.tdiv 2) = v / 2 := by
    rw [IntKind.wrap_u8, Int.tdiv_eq_ediv_of_nonneg hv.1]
    omega
  generalize blk (blkF v) = R at *
  go_enter Try.func24, Try.ntmps24
  go_wp2_with (first | refine wpList_load25 rfl _ rfl _ rfl _ (heap_alloc2_new _ _ _) ?_ | refine wpList_store25 rfl _ _ rfl _ _ rfl rfl _ (heap_alloc2_old _ _ _) ?_)
  exact ret25 rfl w.heap.size _ rfl (setRow_heap _ _ _ _ _ _ (heap_alloc2_old _ _ _)) rfl ⟨by rw [HF.out], below_setRow (((Below.refl _ _).alloc (Nat.le_refl _) _).alloc (by simp) _) (Nat.le_refl _) _⟩
theorem blkF_can {v : Int} (hv : 0 ≤ v ∧ v ≤ 255) : Can (blkF v) := by
  refine ⟨fun i => ?_, fun i hi => ?_⟩
  · unfold blkF upd nought
    (repeat' split) <;> omega
  · unfold blkF upd nought
    rw [if_neg (by omega), if_neg (by omega)]
/-- A disk that has no fuse lets all through. -/
theorem dop_free {o : Option Cel} (hs : t.stopped = false) (hf : t.fuse = -1) (hk : ∀ c, o = some c → 0 ≤ c.1 ∧ c.1 < t.n) : dopE t o = 0 ∧ (dopV t o).made = t.made + 1 ∧ (dopV t o).fuse = -1 ∧ (dopV t o).stopped = false := by
  have hl : lets t = true := by unfold lets; rw [hf]; rfl
  have e1 : letV t = { t with fuse := -1, made := t.made + 1 } := by
    unfold letV
    rw [hf, if_neg (by omega), if_pos rfl]
  cases o with
  | none =>
    have hb := barS_nums t
    have hv : dopV t none = barS t := by show barV t = _; unfold barV; rw [hs, hl]; rfl
    refine ⟨by show barE t = 0; unfold barE; rw [hs, hl]; rfl, ?_, ?_, ?_⟩
    · rw [hv, hb.1, e1]
    · rw [hv, hb.2.2.2.2.2.2, e1]
    · rw [hv, hb.2.2.2.2.2.1, e1]; exact hs
  | some c =>
    obtain ⟨h1, h2⟩ := hk c rfl
    have hr : refV t c.1 = 0 := by unfold refV; rw [hs, if_neg (by simp), if_pos ⟨h1, h2⟩]
    have hv : dopV t (some c) = writeS t c.1 c.2 := by show writeV t c.1 c.2 = _; unfold writeV; rw [if_pos hr, hl]; rfl
    refine ⟨by show writeE t c.1 = 0; unfold writeE; rw [if_pos hr, hl]; rfl, ?_, ?_, ?_⟩
    · rw [hv]; show (letV t).made = _; rw [e1]
    · rw [hv]; show (letV t).fuse = _; rw [e1]
    · rw [hv]; show (letV t).stopped = _; rw [e1]; exact hs
theorem run_free : ∀ (l : List (Option Cel)) (t : St), t.stopped = false → t.fuse = -1 → (∀ c, some c ∈ l → 0 ≤ c.1 ∧ c.1 < t.n) → runE l t = 0 ∧ (runV l t).made = t.made + l.length ∧ (runV l t).fuse = -1 ∧ (runV l t).stopped = false
  | [], t, hs, hf, _ => ⟨rfl, by simp [runV], hf, hs⟩
  | o :: r, t, hs, hf, hk => by
    obtain ⟨h1, h2, h3, h4⟩ := dop_free (o := o) hs hf fun c hc => hk c (by rw [← hc]; exact List.mem_cons_self ..)
    have hn := (dop_nums t o).2.2.2.2.1
    obtain ⟨a1, a2, a3, a4⟩ := run_free r (dopV t o) h4 h3 fun c hc => by rw [hn]; exact hk c (List.mem_cons_of_mem _ hc)
    unfold runE runV
    rw [if_pos h1, if_pos h1]
    exact ⟨a1, by rw [a2, h2]; simp only [List.length_cons]; omega, a3, a4⟩
theorem cmt_len : (cmtOps x book).length = 2 * x.blocks.length + 6 := by
  unfold cmtOps
  simp only [List.length_append, opsA_len, opsC_len]
  show x.blocks.length + 1 + (2 + (x.blocks.length + 1 + 2)) = _
  omega
theorem cmt_in {n : Int} (hI : Inv x s t book) (hn : x.b ≤ n) : ∀ c, some c ∈ cmtOps x book → 0 ≤ c.1 ∧ c.1 < n := by
  intro c hc
  have hlen := hI.len
  have hf := hI.fine
  have hp := H.Fine.pos hf
  have hlb : 1 + x.l < x.b := by
    have h1 := hf.2.2.2.2.2
    have h2 := hf.2.2.1
    unfold H.dataAt H.bitsAt H.nodeB H.bitsB at h1
    omega
  unfold cmtOps opsA opsB opsC opsD lgOps putOps at hc
  simp only [List.mem_append, List.mem_map, List.mem_range, List.mem_cons, List.not_mem_nil, or_false, reduceCtorEq, Option.some.injEq] at hc
  rcases hc with ⟨j, hj, rfl⟩ | rfl | ⟨k, hk, rfl⟩ | rfl
  · exact ⟨by show 0 ≤ 2 + (j : Int); omega, by show 2 + (j : Int) < n; omega⟩
  · exact ⟨by show (0 : Int) ≤ 1; omega, by show (1 : Int) < n; omega⟩
  · have := hI.rng k hk
    exact ⟨by show 0 ≤ k; omega, by show k < n; omega⟩
  · exact ⟨by show (0 : Int) ≤ 1; omega, by show (1 : Int) < n; omega⟩
/-- A commit on a disk that has no fuse. -/
theorem cmt_free {W' : World} {e : Ending} (h : CmtPost w g d x t book ks e W') (hI : Inv x s t book) (hs : t.stopped = false) (hf : t.fuse = -1) : e = .returned (.int .i64 0) ∧ ∃ t', LogI w W' g d { forgotL x with commits := x.commits + 1 } t' book ks ∧ t'.made = t.made + (2 * x.blocks.length + 6 : Nat) ∧ t'.fuse = -1 ∧ t'.stopped = false ∧ t'.claims = t.claims ∧ t'.claimed = t.claimed ∧ t'.n = t.n ∧ t'.reads = t.reads ∧ t'.ops.length ≤ t.ops.length + (2 * x.blocks.length + 6) := by
  obtain ⟨h1, h2, h3⟩ := h
  obtain ⟨a1, a2, a3, a4⟩ := run_free (cmtOps x book) t hs hf (cmt_in hI hI.c.n)
  obtain ⟨_, b2, b3, b4, b5, b6⟩ := run_nums (cmtOps x book) t
  rw [cmt_len] at a2 b6
  exact ⟨by rw [h1, a1], _, h3 a1, a2, a3, a4, b3, b4, b5, b2, b6⟩
theorem LogI.chk (h : LogI w W g d x t book ks) (hc : chkE x t = 0) : Calls Try.prog 56 #[ptr g] W fun e W' => e = .returned (.int .i64 0) ∧ LogI w W' g d x t book ks := by
  obtain ⟨s, ⟨c, mb, v, os, h⟩, hI⟩ := h
  refine h.check.mono ?_
  rintro e W' ⟨rfl, m, rfl⟩
  exact ⟨by rw [hc], s, ⟨c, mb, v, os, h.later (below_drewN _ m)⟩, hI⟩
theorem LogI.used (h : LogI w W g d x t book ks) (hc : chkE x t = 0) : Calls Try.prog 26 #[ptr g] W fun e W' => e = .returned (.int .i64 (x.blocks.length : Int)) ∧ LogI w W' g d x t book ks := by
  obtain ⟨s, ⟨c, mb, v, os, h⟩, hI⟩ := h
  refine h.used.mono ?_
  rintro e W' ⟨rfl, m, rfl⟩
  exact ⟨by rw [if_pos hc], s, ⟨c, mb, v, os, h.later (below_drewN _ m)⟩, hI⟩
theorem LogI.steps (h : LogI w W g d x t book ks) (hc : chkE x t = 0) : Calls Try.prog 27 #[ptr g] W fun e W' => e = .returned (.int .i64 x.steps) ∧ LogI w W' g d x t book ks := by
  obtain ⟨s, ⟨c, mb, v, os, h⟩, hI⟩ := h
  refine h.stepsOver.mono ?_
  rintro e W' ⟨rfl, m, rfl⟩
  exact ⟨by rw [if_pos hc], s, ⟨c, mb, v, os, h.later (below_drewN _ m)⟩, hI⟩
theorem LogI.commits (h : LogI w W g d x t book ks) (hc : chkE x t = 0) : Calls Try.prog 29 #[ptr g] W fun e W' => e = .returned (.int .i64 x.commits) ∧ LogI w W' g d x t book ks := by
  obtain ⟨s, ⟨c, mb, v, os, h⟩, hI⟩ := h
  refine h.commits.mono ?_
  rintro e W' ⟨rfl, m, rfl⟩
  exact ⟨by rw [if_pos hc], s, ⟨c, mb, v, os, h.later (below_drewN _ m)⟩, hI⟩
theorem LogI.made (h : LogI w W g d x t book ks) : Calls Try.prog 12 #[ptr d] W fun e W' => e = .returned (.int .i64 t.made) ∧ LogI w W' g d x t book ks := by
  obtain ⟨s, ⟨c, mb, v, os, h⟩, hI⟩ := h
  refine (dsit_made h.sit).mono ?_
  rintro e W' ⟨rfl, rfl⟩
  exact ⟨rfl, s, ⟨c, mb, v, os, h⟩, hI⟩
theorem LogI.dread (h : LogI w W g d x t book ks) (hs : t.stopped = false) (hr : Room t) {k : Int} (hk : 0 ≤ k ∧ k < t.n) : Calls Try.prog 30 #[ptr d, .int .i64 k] W fun e W' => e = .returned (.tuple #[.agg (blk (curV t k)), .int .i64 0]) ∧ LogI w W' g d x (readS t) book ks := by
  obtain ⟨s, ⟨c, mb, v, os, h⟩, hI⟩ := h
  have href : refV t k = 0 := by unfold refV; rw [hs, if_neg (by simp), if_pos hk]
  refine (dsit_read h.sit hr k).mono ?_
  rintro e W' ⟨rfl, h1⟩
  unfold readV at h1
  rw [if_pos href] at h1
  refine ⟨by unfold readB; rw [if_pos href, href], s, ⟨c, mb, v, os, h.step h1⟩, hI.fine, hI.c.disk rfl fun _ _ => rfl, hI.nd, hI.rng, hI.fast, hI.last, hI.len, hI.steps, hI.commits, hI.room, hI.more⟩
theorem LogI.cur (h : LogI w W g d x t book ks) {k : Int} (hk : Dat x.b x.l k) (hn : k ∉ x.blocks) : curV t k = book k := by
  obtain ⟨s, _, hI⟩ := h
  exact (hI.c.same k hk (decide_eq_false hn)).symm
theorem LogI.syncFree (h : LogI w W g d x t book ks) (hr : refL x t false = 0) (hb : x.blocks ≠ []) (hrm : Rm t (2 * x.blocks.length + 12)) (hcm : x.commits < 1099511627776) (hf : t.fuse = -1) : Calls Try.prog 28 #[ptr g] W fun e W' => e = .returned (.int .i64 0) ∧ ∃ t', LogI w W' g d { forgotL x with commits := x.commits + 1 } t' book ks ∧ t'.made = t.made + (2 * x.blocks.length + 6 : Nat) ∧ t'.fuse = -1 ∧ t'.stopped = false ∧ t'.claims = t.claims ∧ t'.claimed = t.claimed ∧ t'.n = t.n ∧ t'.reads = t.reads ∧ t'.ops.length ≤ t.ops.length + (2 * x.blocks.length + 6) := by
  have hs := claimed_live (refL_live hr).1
  refine (h.sync hr hb hrm hcm).mono ?_
  obtain ⟨s, _, hI⟩ := h
  rintro e W' h1
  exact cmt_free h1 hI hs hf
end Go.Proofs.Ytglcliokhlafoaa
