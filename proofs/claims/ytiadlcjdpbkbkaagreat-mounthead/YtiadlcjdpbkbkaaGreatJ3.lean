/- Several texts joined, each with its own remark; no condition. -/
import Derived.Test.YtiadlcjdpbkbkaaGreatJ2
import Derived.Test.YtiadlcjdpbkbkaaGreatJ1
import Derived.LaidEqlPtr
import Derived.BigRegion
import Derived.Deep.LoopGhost

/- Write: a block is pending behind all that is, or the error; for every disk, number and block. -/
namespace Go.Proofs.YtiadlcjdpbkbkaaGreatD
open Go.RowKit
variable {w : World} {L : Loc} {s : St}

section
variable {P : Program} {ops : Array Oper} {Q : Exit → Act → World → Prop} {S : World → Prop} {r : List (Bool × Oper)} {a : Act} {w w' : World} {o : Oper} {v : Value}
theorem wpOrd_run (hw : Region.wanted o (yielded ops a.tmps) = true) (hr : (execOp a.eval o).run P w = .ok (.value v) w') (hS : S w') (h : wpOrd P ops Q S r (a.put o.dst v) w') : wpOrd P ops Q S ((false, o) :: r) a w := by
  simp only [wpOrd, hw, if_true]
  unfold Oper.wp
  rw [hr]
  exact ⟨hS, h⟩
theorem wpOrd_do (hw : Region.wanted o (yielded ops a.tmps) = true) (hr : (execOp a.eval o).run P w = .ok .skip w') (hS : S w') (h : wpOrd P ops Q S r (a.put o.dst undef) w') : wpOrd P ops Q S ((false, o) :: r) a w := by
  simp only [wpOrd, hw, if_true]
  unfold Oper.wp
  rw [hr]
  exact ⟨hS, h⟩
end
def writeS (s : St) (k : Int) (f : Nat → Int) : St := { letV s with wait := s.wait ++ [(k, f)] }
theorem letV_wait (s : St) : (letV s).wait = s.wait := by unfold letV; split <;> rfl
theorem letV_done (s : St) : (letV s).done = s.done := by unfold letV; split <;> rfl
theorem letV_held (s : St) : (letV s).held = s.held := by unfold letV; split <;> rfl
theorem letV_n (s : St) : (letV s).n = s.n := by unfold letV; split <;> rfl
theorem letV_ops (s : St) : (letV s).ops = s.ops := by unfold St.ops; rw [letV_wait, letV_done]
theorem writeS_ok (h : Ok s) {k : Int} (hk : 0 ≤ k ∧ k < s.n) {f : Nat → Int} (hf : Can f) : Ok (writeS s k f) := by
  have h1 := letV_ok h
  refine ⟨h1.n, h1.held, fun c hc => ?_, h1.fuse, h1.made, h1.reads, h1.claims⟩
  have hc' : c ∈ s.wait ∨ c = (k, f) := by simpa [writeS] using hc
  show (0 ≤ c.1 ∧ c.1 < (letV s).n) ∧ Can c.2
  rw [letV_n]
  rcases hc' with h2 | rfl
  · exact h.wait c h2
  · exact ⟨hk, hf⟩
theorem writeS_ops (s : St) (k : Int) (f : Nat → Int) : (writeS s k f).ops = s.ops ++ [⟨1, k, f⟩] := by
  show (letV s).done ++ (s.wait ++ [(k, f)]).map wrec = _
  rw [letV_done]
  unfold St.ops
  simp [wrec]
theorem writeS_late (s : St) (k : Int) (f : Nat → Int) : lateV (writeS s k f) = fun y => if y = k then some (.int .i64 ((s.ops.length : Nat) : Int)) else lateV (letV s) y := by
  funext y
  show (lastAt (s.wait ++ [(k, f)]) y).map (fun i => Value.int .i64 (((letV s).done.length + i : Nat) : Int)) = _
  rw [lastAt_snoc, letV_done, ops_len]
  by_cases e : y = k
  · rw [if_pos e, if_pos (by exact e.symm)]
    rfl
  · rw [if_neg e, if_neg (fun q => e q.symm)]
    unfold lateV
    rw [letV_done, letV_wait]

set_option maxRecDepth 20000 in
theorem write_bad (h : DiskAt w L s) {k : Int} (hb : refV s k ≠ 0) (f : Nat → Int) :
    Calls Tryz.prog 23 #[.pointer (some ⟨L.d, 0, none⟩), .int .i64 k, .agg (blk f)] w fun e w' => e = .returned (.int .i64 (refV s k)) ∧ Below w.heap.size w w' := by
  have hR := refuses_of (h.later (below_new w (.cells (blk f) 47))) k
  have hne : (refV s k != 0) = true := by simp [hb]
  clear h hb
  generalize refV s k = r at *
  go_enter Tryz.func23, Tryz.ntmps23
  go_wp2_with (first | (go_at_call 49; refine hR.mono ?_; rintro e W ⟨rfl, rfl⟩))
  go_ret
  exact ⟨rfl, below_new _ _⟩
set_option maxRecDepth 20000 in
theorem write_dead (h : DiskAt w L s) (hr : Room s) {k : Int} (hb : refV s k = 0) (hl : lets s = false) (f : Nat → Int) :
    Calls Tryz.prog 23 #[.pointer (some ⟨L.d, 0, none⟩), .int .i64 k, .agg (blk f)] w fun e w' => e = .returned (.int .i64 3) ∧ DiskAt w' L (letV s) ∧ Goes w w' L L := by
  have D1 := h.later (below_new w (.cells (blk f) 47))
  have hR := refuses_of D1 k
  rw [hb] at hR
  have hT := letThrough_of D1 hr
  rw [hl] at hT
  have HG : Hid (Goes w (w.alloc (.cells (blk f) 47)) L L) := Goes.ofBelow L (below_new _ _)
  clear h hb D1
  go_enter Tryz.func23, Tryz.ntmps23
  go_wp2_with (first | (go_at_call 49; refine hR.mono ?_; rintro e W ⟨rfl, rfl⟩) | (go_at_call 33; fail))
  refine hT.mono ?_
  rintro e W ⟨rfl, hD, hG⟩
  have HD : Hid (DiskAt W L (letV s)) := hD
  have HG2 : Hid (Goes _ W L L) := hG
  clear hD hG
  go_wp2
  go_ret
  exact ⟨rfl, HD.out, HG.out.trans HG2.out⟩
set_option maxRecDepth 20000 in
set_option maxHeartbeats 2000000 in
theorem write_ok (h : DiskAt w L s) (hr : Room s) {k : Int} (hb : refV s k = 0) (hl : lets s = true) {f : Nat → Int} (hf : Can f) :
    Calls Tryz.prog 23 #[.pointer (some ⟨L.d, 0, none⟩), .int .i64 k, .agg (blk f)] w fun e w' => e = .returned (.int .i64 0) ∧ ∃ L', DiskAt w' L' (writeS s k f) ∧ Goes w w' L L' := by
  have D1 := h.later (below_new w (.cells (blk f) 47))
  have hR := refuses_of D1 k
  rw [hb] at hR
  have hT := letThrough_of D1 hr
  rw [hl] at hT
  obtain ⟨_, hk⟩ := refV_ok hb
  have hin := inTop_of h.ok hk
  have hok := writeS_ok h.ok hk hf
  have HG : Hid (Goes w (w.alloc (.cells (blk f) 47)) L L) := Goes.ofBelow L (below_new _ _)
  have hL : ∀ i, L.has i → i < w.heap.size := h.lt
  have hro := hr.ops
  have hB0 := heap_alloc_new w (.cells (blk f) 47)
  have hsz : w.heap.size < (w.alloc (.cells (blk f) 47)).heap.size := by simp
  clear h hb D1 hr
  go_enter Tryz.func23, Tryz.ntmps23
  go_wp2_with (first | (go_at_call 49; refine hR.mono ?_; rintro e W ⟨rfl, rfl⟩) | (go_at_call 33; fail))
  refine hT.mono ?_
  rintro e W ⟨rfl, hD, hG⟩
  have hB : W.heap[w.heap.size]? = some (.cells (blk f) 47) := (hG.fr.block w.heap.size hsz fun q => by have := hL _ q; omega).trans hB0
  have HG2 : Hid (Goes w W L L) := HG.out.trans hG
  clear hG HG hR hT hsz hB0
  generalize hg0 : w.heap.size = g0 at *
  obtain ⟨p, c, h1, h2, h3, h4⟩ := hD.shape
  rw [letV_ops] at h1 h2
  have c3 := hD.c3
  have c5 := hD.c5
  rw [h1] at c3
  have hLate := hD.late
  have HR : Hid (RawAt W L (dkRow L (letV s)) (heldV (letV s)) (lateV (letV s)) (letV s).ops) := hD.raw
  clear hD h4
  go_wp2
  go_still_tail 10, (by kernel_rfl)
  change wpList _ _ _ _ _ (World.drew _)
  refine wpList_putM rfl (.tmp 20) (.tmp 21) (.tmp 26) 57 rfl 3 Tryz.underlying3 keyed3 Tryz.underlying57 L.lb _ rfl (hLate.kept (w' := W.drew) rfl) k hin rfl (.int .i64 ((s.ops.length : Nat) : Int)) rfl ?_
  intro W3 hm3 hg3
  have hF3 : Fr (fun i => i = L.lb) W W3 := (Fr.drew W).trans ((Fr.ofGrown hg3).mono fun i _ q => by injection q with q; exact q.symm) fun _ _ q => q
  rw [← writeS_late s k f] at hm3
  have hR3 := HR.out.lateTo hm3 hF3
  have hB3 : W3.heap[g0]? = some (.cells (blk f) 47) := (hF3.block g0 (Array.getElem?_eq_some_iff.1 hB).1 fun q => by have := hL L.lb (.inr (.inr (.inl rfl))); omega).trans hB
  have hG3 : Goes w W3 L L := HG2.out.trans (Goes.of rfl (fun _ q => .inl q) hF3 fun i _ q => .inr (.inr (.inl q)))
  clear HR HG2 hm3 hg3 hF3 hLate c3 c5 hB
  have hR4 : RawAt W3.drew L (dkRow L (letV s)) (heldV (letV s)) (lateV (writeS s k f)) (letV s).ops := hR3.fr (Fr.drew (T := fun _ => False) W3) fun _ _ q => q
  have hG4 : Goes w W3.drew L L := hG3.trans ⟨rfl, fun _ q => .inl q, Fr.drew W3⟩
  have hB4 : W3.drew.heap[g0]? = some (.cells (blk f) 47) := hB3
  clear hR3 hG3 hB3
  go_wp2
  refine wp_region_fork (S := fun u => u.heap[g0]? = some (.cells (blk f) 47)) [0, 1, 2, 3, 5, 6, 7] 4 8 [(9, false), (10, true), (11, true), (12, false)] (by kernel_rfl) rfl (by kernel_rfl) (fun d _ _ _ _ h => by cases d <;> exact h) hB4 ?_
  simp only [Act.put]
  generalize W3.drew = V at *
  have hlt : g0 < V.heap.size := (Array.getElem?_eq_some_iff.1 hB4).1
  have c3 : V.cell? ⟨L.d, 3, none⟩ = some L.hv := Joins.cell_of_block hR4.row 3
  rw [h1] at c3
  refine wpFork_yield (v := .pointer (some ⟨L.d, 0, none⟩)) rfl rfl (fun u _ => by simp [execOp, Act.eval]) ?_
  simp only [Act.put, List.setIfInBounds_toArray, List.set_cons_succ, List.set_cons_zero]
  refine wpFork_yield (v := .pointer (some ⟨L.d, 0, none⟩)) rfl rfl (fun u _ => by simp [execOp, Act.eval]) ?_
  simp only [Act.put, List.setIfInBounds_toArray, List.set_cons_succ, List.set_cons_zero]
  refine wpFork_yield (v := .pointer (some ⟨L.d, 0, none⟩)) rfl rfl (fun u _ => by go_simp) ?_
  simp only [Act.put, List.setIfInBounds_toArray, List.set_cons_succ, List.set_cons_zero]
  refine wpFork_yield (v := .pointer (some ⟨L.d, 3, none⟩)) rfl rfl (fun u _ => by go_simp) ?_
  simp only [Act.put, List.setIfInBounds_toArray, List.set_cons_succ, List.set_cons_zero]
  refine wpFork_yield (v := .int .i64 k) rfl rfl (fun u _ => by simp [execOp, Act.eval]) ?_
  simp only [Act.put, List.setIfInBounds_toArray, List.set_cons_succ, List.set_cons_zero]
  refine wpFork_yield (v := .agg (blk f)) rfl rfl (fun u hu => by
    unfold execOp
    simp only [Act.eval]
    have e := loadM (BlkAt.of hu)
    change Sem.run Tryz.prog (Instr.loadAt 47 (.pointer (some ⟨g0, 0, none⟩)) >>= fun v => pure (Next.value v)) u = _
    simp only [Sem.run_bind, e, Result.andThen_ok, Sem.run_pure]) ?_
  simp only [Act.put, List.setIfInBounds_toArray, List.set_cons_succ, List.set_cons_zero]
  refine wpFork_yield (v := .agg (recCells ⟨1, k, f⟩).toArray) rfl rfl (fun u hu => by
    have e := build108 1 k f u
    simp [execOp, Act.eval, e]) ?_
  simp only [Act.put, List.setIfInBounds_toArray, List.set_cons_succ, List.set_cons_zero]
  have hro' : (letV s).ops.length < 68719476736 := by rw [letV_ops]; exact hro
  obtain ⟨v', W5, hrun, ho5, hF5, hw5⟩ := push_run (W := V) (v := L.hv) ⟨1, k, f⟩ 56 hR4.hist hro'
  obtain ⟨g5, cap5, rfl⟩ : ∃ g5 cap5, v' = Value.slice (some ⟨g5, 0, none⟩) (s.ops ++ [(⟨1, k, f⟩ : Rec)]).length cap5 := by
    rw [letV_ops] at ho5
    rcases ho5.2 with ⟨_, h⟩ | ⟨g, cap', _, h, _⟩
    · simp at h
    · exact ⟨g, cap', h⟩
  have hR5 := hR4.histTo ho5 hF5
  have hD6 : Hid (DiskAt (W5.setCell ⟨L.d, 3, none⟩ (Value.slice (some ⟨g5, 0, none⟩) (s.ops ++ [(⟨1, k, f⟩ : Rec)]).length cap5)) ⟨L.d, L.hb, L.lb, Value.slice (some ⟨g5, 0, none⟩) (s.ops ++ [(⟨1, k, f⟩ : Rec)]).length cap5⟩ (writeS s k f)) := by
    refine RawAt.disk ?_ hok
    have h6 := hR5.cell 3 (Value.slice (some ⟨g5, 0, none⟩) (s.ops ++ [(⟨1, k, f⟩ : Rec)]).length cap5)
    rw [letV_ops] at h6
    rw [writeS_ops]
    exact h6
  have hG6 : Hid (Goes w (W5.setCell ⟨L.d, 3, none⟩ (Value.slice (some ⟨g5, 0, none⟩) (s.ops ++ [(⟨1, k, f⟩ : Rec)]).length cap5)) L ⟨L.d, L.hb, L.lb, Value.slice (some ⟨g5, 0, none⟩) (s.ops ++ [(⟨1, k, f⟩ : Rec)]).length cap5⟩) := by
    refine hG4.trans (Goes.of (T := fun i => L.hv.ownBlock = some i ∨ i = L.d) rfl (fun i hi => ?_) ((hF5.mono fun i _ q => .inl q).trans ((Fr.setCell W5 L.d 3 _).mono fun i _ q => .inr q) fun i _ q => q) fun i _ q => ?_)
    · rcases hi with q | q | q | q
      · exact .inl (.inl q)
      · exact .inl (.inr (.inl q))
      · exact .inl (.inr (.inr (.inl q)))
      · rcases hw5 i q with q | q
        · exact .inl (.inr (.inr (.inr q)))
        · exact .inr q
    · rcases q with q | q
      · exact .inr (.inr (.inr q))
      · exact .inl q
  have S1 := heap_kept hB4 (below_new V (.cells (recCells ⟨1, k, f⟩).toArray 76))
  have S5 : W5.heap[g0]? = some (.cells (blk f) 47) := (hF5.block g0 hlt fun q => by have := hL g0 (.inr (.inr (.inr q))); omega).trans hB4
  have S6 : (W5.setCell ⟨L.d, 3, none⟩ (Value.slice (some ⟨g5, 0, none⟩) (s.ops ++ [(⟨1, k, f⟩ : Rec)]).length cap5)).heap[g0]? = some (.cells (blk f) 47) :=
    (Below.heap_setCell _ _ _ _ (by show g0 ≠ L.d; have := hL L.d (.inl rfl); omega)).trans S5
  have k3 : W5.cell? ⟨L.d, 3, none⟩ = some L.hv := Joins.cell_of_block hR5.row 3
  have f3 : W5.frozen? ⟨L.d, 3, none⟩ = false := Joins.unfrozen_of_block hR5.row 3
  have hdl : L.d < V.heap.size := hR4.lt L.d (.inl rfl)
  have c3' : (V.alloc (.cells (recCells ⟨1, k, f⟩).toArray 76)).cell? ⟨L.d, 3, none⟩ = some (.slice p s.ops.length c) := by rw [World.cell?_alloc_past _ _ _ hdl]; exact c3
  have hbs := build67 ⟨1, k, f⟩ V
  rw [h1] at hrun k3
  clear hR5 hR4 hF5 hw5 ho5 hG4 hok hro'
  generalize hrl : (s.ops ++ [(⟨1, k, f⟩ : Rec)]).length = m5 at *
  generalize hrc : (recCells ⟨1, k, f⟩).toArray = RC at *
  refine wpFork_nil rfl rfl ?_ ?_
  · simp only [inOrd, List.getElem?_cons_zero, List.getElem?_cons_succ]
    refine wpOrd_run (v := .slice p s.ops.length c) (w' := V) rfl (by go_simp) hB4 ?_
    simp only [Act.put, List.setIfInBounds_toArray, List.set_cons_succ, List.set_cons_zero]
    refine wpOrd_run (v := .slice (some ⟨V.heap.size, 0, none⟩) 1 1) (w' := V.alloc (.cells RC 76)) rfl (by simp [execOp, Act.eval, hbs]) S1 ?_
    simp only [Act.put, List.setIfInBounds_toArray, List.set_cons_succ, List.set_cons_zero]
    refine wpOrd_run (v := .slice (some ⟨g5, 0, none⟩) m5 cap5) (w' := W5) rfl (by simp [execOp, Act.eval, resolve, invoke, builtin, hrun, Result.andThen]) S5 ?_
    simp only [Act.put, List.setIfInBounds_toArray, List.set_cons_succ, List.set_cons_zero]
    refine wpOrd_yield (v := .pointer (some ⟨L.d, 0, none⟩)) rfl (fun u _ => by go_simp) ?_
    simp only [Act.put, List.setIfInBounds_toArray, List.set_cons_succ, List.set_cons_zero]
    refine wpOrd_yield (v := .pointer (some ⟨L.d, 3, none⟩)) rfl (fun u _ => by go_simp) ?_
    simp only [Act.put, List.setIfInBounds_toArray, List.set_cons_succ, List.set_cons_zero]
    refine wpOrd_do (w' := W5.setCell ⟨L.d, 3, none⟩ (.slice (some ⟨g5, 0, none⟩) m5 cap5)) rfl (by go_simp) S6 ?_
    refine wpOrd_nil ?_
    simp only [Act.put]
    generalize W5.setCell ⟨L.d, 3, none⟩ (.slice (some ⟨g5, 0, none⟩) m5 cap5) = Y at *
    clear hrun S1 S5 S6 k3 f3 c3' hbs c3
    go_wp2
    go_ret
    exact ⟨rfl, _, hD6.out, hG6.out⟩
  · simp only [inOrd, List.getElem?_cons_zero, List.getElem?_cons_succ]
    refine wpOrd_run (v := .slice (some ⟨V.heap.size, 0, none⟩) 1 1) (w' := V.alloc (.cells RC 76)) rfl (by simp [execOp, Act.eval, hbs]) S1 ?_
    simp only [Act.put, List.setIfInBounds_toArray, List.set_cons_succ, List.set_cons_zero]
    refine wpOrd_run (v := .slice p s.ops.length c) (w' := V.alloc (.cells RC 76)) rfl (by go_simp) S1 ?_
    simp only [Act.put, List.setIfInBounds_toArray, List.set_cons_succ, List.set_cons_zero]
    refine wpOrd_run (v := .slice (some ⟨g5, 0, none⟩) m5 cap5) (w' := W5) rfl (by simp [execOp, Act.eval, resolve, invoke, builtin, hrun, Result.andThen]) S5 ?_
    simp only [Act.put, List.setIfInBounds_toArray, List.set_cons_succ, List.set_cons_zero]
    refine wpOrd_yield (v := .pointer (some ⟨L.d, 0, none⟩)) rfl (fun u _ => by go_simp) ?_
    simp only [Act.put, List.setIfInBounds_toArray, List.set_cons_succ, List.set_cons_zero]
    refine wpOrd_yield (v := .pointer (some ⟨L.d, 3, none⟩)) rfl (fun u _ => by go_simp) ?_
    simp only [Act.put, List.setIfInBounds_toArray, List.set_cons_succ, List.set_cons_zero]
    refine wpOrd_do (w' := W5.setCell ⟨L.d, 3, none⟩ (.slice (some ⟨g5, 0, none⟩) m5 cap5)) rfl (by go_simp) S6 ?_
    refine wpOrd_nil ?_
    simp only [Act.put]
    generalize W5.setCell ⟨L.d, 3, none⟩ (.slice (some ⟨g5, 0, none⟩) m5 cap5) = Y at *
    clear hrun S1 S5 S6 k3 f3 c3' hbs c3
    go_wp2
    go_ret
    exact ⟨rfl, _, hD6.out, hG6.out⟩
end Go.Proofs.YtiadlcjdpbkbkaaGreatD
/- Barrier: all that is pending is held, in order, and nothing is pending any more, or the error; for every disk. -/
namespace Go.Proofs.YtiadlcjdpbkbkaaGreatD
open Go.RowKit
variable {w : World} {L : Loc} {s : St}

/-- Blocks are held one behind the other. -/
def holdAll (s : St) (l : List Cel) : St := l.foldl (fun s c => holdV s c.1 c.2) s
theorem holdAll_snoc (s : St) (l : List Cel) (c : Cel) : holdAll s (l ++ [c]) = holdV (holdAll s l) c.1 c.2 := by simp [holdAll]
theorem holdAll_same (l : List Cel) : ∀ s : St, ∃ h, holdAll s l = { s with held := h } := by
  induction l with
  | nil => exact fun s => ⟨s.held, rfl⟩
  | cons c t ih =>
    intro s
    obtain ⟨h, e⟩ := ih (holdV s c.1 c.2)
    exact ⟨h, by show holdAll (holdV s c.1 c.2) t = _; rw [e]; rfl⟩
theorem holdAll_wait (s : St) (l : List Cel) : (holdAll s l).wait = s.wait := by obtain ⟨h, e⟩ := holdAll_same l s; rw [e]
theorem holdAll_done (s : St) (l : List Cel) : (holdAll s l).done = s.done := by obtain ⟨h, e⟩ := holdAll_same l s; rw [e]
theorem holdAll_n (s : St) (l : List Cel) : (holdAll s l).n = s.n := by obtain ⟨h, e⟩ := holdAll_same l s; rw [e]
theorem holdAll_ops (s : St) (l : List Cel) : (holdAll s l).ops = s.ops := by unfold St.ops; rw [holdAll_wait, holdAll_done]
theorem take_snoc {l : List Cel} {k : Nat} {c : Cel} (h : l[k]? = some c) : l.take (k + 1) = l.take k ++ [c] := by
  rw [List.take_add_one, h]
  rfl
/-- Behind a barrier. -/
def barS (s : St) : St := { holdAll (letV s) s.wait with done := s.ops ++ [⟨2, 0, nought⟩], wait := [] }
theorem barS_ops (s : St) : (barS s).ops = s.ops ++ [⟨2, 0, nought⟩] := by
  show (s.ops ++ [⟨2, 0, nought⟩]) ++ List.map wrec [] = _
  simp
theorem barS_ok (h : Ok (holdAll (letV s) s.wait)) : Ok (barS s) := ⟨h.n, h.held, fun c hc => by simp [barS] at hc, h.fuse, h.made, h.reads, h.claims⟩
theorem Goes.hold {a b : World} {L : Loc} (h : Fr (fun i => i = L.hb) a b) : Goes a b L L := Goes.of rfl (fun _ q => .inl q) h fun _ _ q => .inr (.inl q)

theorem slice_of {w : World} {v : Value} {n : Nat} {xs : List Value} (h : w.ownsRow 0 76 1026 v n xs) (hn : 0 < n) : ∃ g cap, v = .slice (some ⟨g, 0, none⟩) n cap := by
  rcases h.2 with ⟨_, h⟩ | ⟨g, cap', _, h, _⟩
  · omega
  · exact ⟨g, cap', h⟩
theorem wpList_bar {ops : Array Oper} {rest : List Oper} {o : Oper} {a : Act} {w : World} {Q : Exit → Act → World → Prop} (hgd : o.guard = none) (ho : o.op = .build 76 #[(0, .const (.int .u8 2))])
    (h : wpList Tryz.prog ops Q rest (a.put o.dst (.agg (recCells ⟨2, 0, nought⟩).toArray)) w) : wpList Tryz.prog ops Q (o :: rest) a w :=
  wpList_plain hgd fun _ hK => by
    have e := build108b 2 w
    generalize (recCells ⟨2, 0, nought⟩).toArray = Z at *
    have e' : (execOp a.eval o).run Tryz.prog w = .ok (.value (.agg Z)) w := by simp [execOp, ho, Act.eval, e]
    unfold Oper.wp
    rw [e']
    exact hK _ _ h

set_option maxRecDepth 20000 in
theorem barrier_none {v : Value} (h : NoneAt w v) : Calls Tryz.prog 11 #[v] w fun e w' => e = .returned (.int .i64 1) ∧ w' = w := by
  go_enter Tryz.func11, Tryz.ntmps11
  go_wp2_with (first | (go_at_call 32; refine (none_yes h).mono ?_; rintro e W ⟨rfl, rfl⟩))
  go_ret
  exact ⟨rfl, rfl⟩
set_option maxRecDepth 20000 in
theorem barrier_stopped (h : DiskAt w L s) (hs : s.stopped = true) : Calls Tryz.prog 11 #[.pointer (some ⟨L.d, 0, none⟩)] w fun e w' => e = .returned (.int .i64 3) ∧ w' = w := by
  have c7 := h.c7
  have h0 := h.c0
  rw [hs] at c7
  clear h
  go_enter Tryz.func11, Tryz.ntmps11
  go_wp2_with (first | (go_at_call 32; refine (none_no h0).mono ?_; rintro e W ⟨rfl, rfl⟩))
  go_ret
  exact ⟨rfl, rfl⟩
set_option maxRecDepth 20000 in
theorem barrier_dead (h : DiskAt w L s) (hr : Room s) (hs : s.stopped = false) (hl : lets s = false) : Calls Tryz.prog 11 #[.pointer (some ⟨L.d, 0, none⟩)] w fun e w' => e = .returned (.int .i64 3) ∧ DiskAt w' L (letV s) ∧ Goes w w' L L := by
  have c7 := h.c7
  have h0 := h.c0
  rw [hs] at c7
  have hT := letThrough_of h hr
  rw [hl] at hT
  clear h
  go_enter Tryz.func11, Tryz.ntmps11
  go_wp2_with (first | (go_at_call 32; refine (none_no h0).mono ?_; rintro e W ⟨rfl, rfl⟩) | (go_at_call 33; fail))
  refine hT.mono ?_
  rintro e W ⟨rfl, hD, hG⟩
  have HD : Hid (DiskAt W L (letV s)) := hD
  have HG2 : Hid (Goes _ W L L) := hG
  clear hD hG
  go_wp2
  go_ret
  exact ⟨rfl, HD.out, HG2.out⟩
set_option maxRecDepth 20000 in
set_option maxHeartbeats 2000000 in
theorem barrier_ok (h : DiskAt w L s) (hr : Room s) (hs : s.stopped = false) (hl : lets s = true) :
    Calls Tryz.prog 11 #[.pointer (some ⟨L.d, 0, none⟩)] w fun e w' => e = .returned (.int .i64 0) ∧ ∃ L', DiskAt w' L' (barS s) ∧ Goes w w' L L' := by
  have c7 := h.c7
  have h0 := h.c0
  rw [hs] at c7
  have hT := letThrough_of h hr
  rw [hl] at hT
  have hro := hr.ops
  clear h
  go_enter Tryz.func11, Tryz.ntmps11
  go_wp2_with (first | (go_at_call 32; refine (none_no h0).mono ?_; rintro e W ⟨rfl, he⟩; obtain rfl := he.symm) | (go_at_call 33; fail))
  refine hT.mono ?_
  rintro e W ⟨rfl, hD, hG⟩
  have hP := pending_of hD
  obtain ⟨p, cp, hp1, hp2, hp3⟩ := hD.pend
  rw [hp1, letV_wait] at hP
  rw [letV_wait] at hp2 hp3
  rw [letV_done] at hp3
  have HD : Hid (DiskAt W.drew L (letV s)) := hD.fr (Fr.drew (T := fun _ => False) W) fun _ _ q => q
  have HG2 : Hid (Goes w W.drew L L) := hG.trans ⟨rfl, fun _ q => .inl q, Fr.drew W⟩
  clear hD hG hT hp1 c7
  have HP : Hid (0 < s.wait.length → ∃ g, L.hv.ownBlock = some g ∧ p = some ⟨g, s.done.length * 1026, none⟩) := hp3
  clear hp3
  have hwl : s.wait.length < 68719476736 := by have := ops_len s; omega
  go_wp2_with (go_at_call 34; refine hP.mono ?_; rintro e W1 ⟨rfl, rfl⟩)
  clear hP
  generalize W.drew = V at *
  generalize hm : s.wait.length = m at *
  go_loopw [20] (fun s20 wx => ∃ k : Nat, k ≤ m ∧ s20 = .int .i64 k ∧ Hid (DiskAt wx L (holdAll (letV s) (s.wait.take k))) ∧ Hid (Goes w wx L L)) (fun s20 _ => m - (intOf s20).toNat)
  case atStart => exact ⟨0, by omega, rfl, HD.out, HG2.out⟩
  case round =>
    obtain ⟨k, hk, rfl, HDk, HGk⟩ := hrel
    by_cases hk2 : (k : Int) < m
    · have hkl : k < s.wait.length := by omega
      obtain ⟨g, hg, rfl⟩ := HP.out (by omega)
      have hc : s.wait[k]? = some s.wait[k] := List.getElem?_eq_getElem hkl
      generalize s.wait[k] = c at hc
      have hop : (holdAll (letV s) (s.wait.take k)).ops[s.done.length + k]? = some (wrec c) := by rw [holdAll_ops, letV_ops]; exact ops_wait s hc
      have HDd : DiskAt wr.drew L (holdAll (letV s) (s.wait.take k)) := HDk.out.fr (Fr.drew (T := fun _ => False) wr) fun _ _ q => q
      have hpos := HDk.out.histPos hg hop
      have hblk := HDd.histBlk hg hop
      have hcw := HDd.ok.wait c (by rw [holdAll_wait, letV_wait]; exact List.mem_of_getElem? hc)
      rw [holdAll_n] at hcw
      have HH := hold_of HDd (by rw [holdAll_n]; exact hcw.1) hcw.2 hblk
      rw [← holdAll_snoc, ← take_snoc hc] at HH
      have e1 : (s.done.length + k) * 1026 = s.done.length * 1026 + k * 1026 := Nat.add_mul _ _ _
      rw [e1] at hpos HH
      have hpos' : wr.cell? ⟨g, s.done.length * 1026 + k * 1026 + 1, none⟩ = some (.int .i64 c.1) := hpos
      have HH2 : Hid (Calls Tryz.prog 35 #[.pointer (some ⟨L.d, 0, none⟩), .int .i64 c.1, .pointer (some ⟨g, s.done.length * 1026 + k * 1026 + 2, none⟩)] wr.drew fun e w' => e = .returned (.tuple #[]) ∧ DiskAt w' L (holdAll (letV s) (s.wait.take (k + 1))) ∧ Goes w w' L L) :=
        Calls.mono HH fun e w' ⟨h1, h2, h3⟩ => ⟨h1, h2, (HGk.out.trans ⟨rfl, fun _ q => .inl q, Fr.drew wr⟩).trans (Goes.hold h3)⟩
      generalize s.done.length * 1026 = D at *
      clear HH hpos hblk hop hc e1 HDk hcw HDd HGk
      go_wp2
      go_still_tail 10, (by kernel_rfl)
      change wpList _ _ _ _ _ (World.drew _)
      go_wp2_with (go_at_call 35; fail)
      refine HH2.out.mono ?_
      rintro e W2 ⟨rfl, hD2, hG2⟩
      have HD2 : Hid (DiskAt W2 L (holdAll (letV s) (s.wait.take (k + 1)))) := hD2
      have HG3 : Hid (Goes w W2 L L) := hG2
      clear hD2 hG2 HH2
      go_wp2
      exact ⟨⟨k + 1, by omega, by go_num, HD2.out, HG3.out⟩, by simp [intOf]; omega⟩
    · obtain rfl : k = m := by omega
      have hD := HDk.out
      rw [← hm, List.take_length] at hD
      have hG := HGk.out
      clear HDk HGk HP
      have hRaw := hD.raw
      rw [holdAll_ops, letV_ops] at hRaw
      have c3 := hD.c3
      obtain ⟨p', c', h1, h2, h3, h4⟩ := hD.shape
      rw [holdAll_ops, letV_ops] at h1
      rw [h1] at c3
      have hbl := fun u => build67 ⟨2, 0, nought⟩ u
      have hh := hRaw.hist
      rw [h1] at hh
      have hl0 : 0 < (s.ops ++ [(⟨2, 0, nought⟩ : Rec)]).length := by simp
      go_wp2_with (first | refine wpList_bar rfl rfl ?_ | refine wpList_build1 rfl 56 76 (.tmp 40) rfl _ rfl (hbl _) ?_ | (at_builtin; refine wpList_pushR rfl (.tmp 39) (.tmp 41) rfl (.slice p' s.ops.length c') s.ops ⟨2, 0, nought⟩ rfl rfl hh hro ?_; intro v' W5 ho5 hF5 hw5; obtain ⟨g5, cap5, rfl⟩ := slice_of ho5 hl0; rw [← h1] at hF5 hw5; have hR5 := hRaw.histTo ho5 hF5; have k3 : W5.cell? ⟨L.d, 3, none⟩ = some L.hv := Joins.cell_of_block hR5.row 3; rw [h1] at k3; have f3 : W5.frozen? ⟨L.d, 3, none⟩ = false := Joins.unfrozen_of_block hR5.row 3) | (go_at_call 36; fail))
      have hn1 : (s.ops ++ [(⟨2, 0, nought⟩ : Rec)]).length = s.ops.length + 1 := by simp
      have hR5' : RawAt W5 ⟨L.d, L.hb, L.lb, .slice (some ⟨g5, 0, none⟩) (s.ops.length + 1) cap5⟩ (dkRow L (holdAll (letV s) s.wait)) (heldV (holdAll (letV s) s.wait)) (lateV (holdAll (letV s) s.wait)) (s.ops ++ [⟨2, 0, nought⟩]) := hn1 ▸ hR5
      have hw5' : ∀ k, (Value.slice (some ⟨g5, 0, none⟩) (s.ops.length + 1) cap5).ownBlock = some k → L.hv.ownBlock = some k ∨ wr.heap.size ≤ k := hw5
      have hR6 := hR5'.cell 3 (.slice (some ⟨g5, 0, none⟩) (s.ops.length + 1) cap5)
      have hok := barS_ok hD.ok
      clear hR5 hR5' hRaw hw5 ho5 hh hbl c3 k3 f3
      have hF6 : Fr (fun i => L.hv.ownBlock = some i ∨ i = L.d) wr (W5.setCell ⟨L.d, 3, none⟩ (.slice (some ⟨g5, 0, none⟩) (s.ops.length + 1) cap5)) :=
        (hF5.mono fun i _ q => .inl q).trans ((Fr.setCell W5 L.d 3 _).mono fun i _ q => .inr q) fun i _ q => q
      generalize W5.setCell ⟨L.d, 3, none⟩ (.slice (some ⟨g5, 0, none⟩) (s.ops.length + 1) cap5) = W6 at *
      refine (nothing_of (d := L.d) (n := (holdAll (letV s) s.wait).n) (hb := L.hb) (p := some ⟨g5, 0, none⟩) (m := s.ops.length + 1) (c := cap5) (bh := ((holdAll (letV s) s.wait).done.length : Int)) (lb := L.lb) (fu := (holdAll (letV s) s.wait).fuse) (st := (holdAll (letV s) s.wait).stopped) (ma := (holdAll (letV s) s.wait).made) (re := (holdAll (letV s) s.wait).reads) (cl := (holdAll (letV s) s.wait).claims) (cd := (holdAll (letV s) s.wait).claimed) hR6.row).mono ?_
      rintro e W7 ⟨rfl, hrow7, hM7, hF7⟩
      have hlb : L.hb < W6.heap.size := hR6.held.lt
      have hR7 := (hR6.rowTo hrow7 hF7).lateNew (b := W6.heap.size) (by show L.hb ≠ _; omega) hM7
      have hD7 : Hid (DiskAt W7 ⟨L.d, L.hb, W6.heap.size, .slice (some ⟨g5, 0, none⟩) (s.ops.length + 1) cap5⟩ (barS s)) := by
        refine RawAt.disk ?_ hok
        rw [barS_ops]
        have e1 : lateV (barS s) = fun _ => none := by funext y; rfl
        have e2 : dkRow ⟨L.d, L.hb, W6.heap.size, .slice (some ⟨g5, 0, none⟩) (s.ops.length + 1) cap5⟩ (barS s) = row12 L.d (holdAll (letV s) s.wait).n L.hb (.slice (some ⟨g5, 0, none⟩) (s.ops.length + 1) cap5) ((s.ops.length + 1 : Nat) : Int) W6.heap.size (holdAll (letV s) s.wait).fuse (holdAll (letV s) s.wait).stopped (holdAll (letV s) s.wait).made (holdAll (letV s) s.wait).reads (holdAll (letV s) s.wait).claims (holdAll (letV s) s.wait).claimed := by
          rw [← hn1]
          rfl
        rw [e1, e2]
        exact hR7
      have hG7 : Hid (Goes w W7 L ⟨L.d, L.hb, W6.heap.size, .slice (some ⟨g5, 0, none⟩) (s.ops.length + 1) cap5⟩) := by
        refine hG.trans (Goes.of (T := fun i => L.hv.ownBlock = some i ∨ i = L.d) rfl (fun i hi => ?_) (hF6.trans (hF7.mono fun i _ q => .inr q) fun i _ q => q) fun i _ q => ?_)
        · rcases hi with q | q | q | q
          · exact .inl (.inl q)
          · exact .inl (.inr (.inl q))
          · have q' : i = W6.heap.size := q
            have := hF6.size
            exact .inr (by omega)
          · rcases hw5' i q with q | q
            · exact .inl (.inr (.inr (.inr q)))
            · exact .inr q
        · rcases q with q | q
          · exact .inr (.inr (.inr q))
          · exact .inl q
      clear hR7 hrow7 hM7 hF7 hR6 hF6 hF5 hD hG hw5' hok hn1
      go_wp2
      go_ret
      exact ⟨rfl, _, hD7.out, hG7.out⟩
end Go.Proofs.YtiadlcjdpbkbkaaGreatD
/- What a disk tells of itself, its fuse and its claims; of a disk that was made, and of one that is none; no condition but that numbers do not pass the greatest int. -/
namespace Go.Proofs.YtiadlcjdpbkbkaaGreatD
open Go.RowKit

variable {w : World} {L : Loc} {s : St}
theorem made_of (h : DiskAt w L s) : Calls Tryz.prog 12 #[.pointer (some ⟨L.d, 0, none⟩)] w fun e w' => e = .returned (.int .i64 s.made) ∧ w' = w := by
  have c8 := h.c8
  have h0 := h.c0
  clear h
  go_enter Tryz.func12, Tryz.ntmps12
  go_wp2_with (first | (go_at_call 32; refine (none_no h0).mono ?_; rintro e W ⟨rfl, rfl⟩))
  go_ret
  exact ⟨rfl, rfl⟩
theorem made_none {v : Value} (h : NoneAt w v) : Calls Tryz.prog 12 #[v] w fun e w' => e = .returned (.int .i64 0) ∧ w' = w := by
  go_enter Tryz.func12, Tryz.ntmps12
  go_wp2_with (first | (go_at_call 32; refine (none_yes h).mono ?_; rintro e W ⟨rfl, rfl⟩))
  go_ret
  exact ⟨rfl, rfl⟩
end Go.Proofs.YtiadlcjdpbkbkaaGreatD
/- What a disk's fuse does, where it is lit by a number. -/
namespace Go.Proofs.YtiadlcjdpbkbkaaGreatD
open Go.RowKit
variable {w : World} {L : Loc} {s : St}

theorem fuse_of (h : DiskAt w L s) (n : Int) (hn : n ≤ 9223372036854775807) : Calls Tryz.prog 10 #[.pointer (some ⟨L.d, 0, none⟩), .int .i64 n] w fun e w' => e = .returned (.tuple #[]) ∧ DiskAt w' L (fuseV s n) ∧ Goes w w' L L := by
  have c7 := h.c7
  have f6 := h.free 6
  have c6 := h.c6
  have h0 := h.c0
  unfold fuseV
  cases hs : s.stopped
  · rw [hs] at c7
    have hA : Hid (DiskAt (w.setCell ⟨L.d, 6, none⟩ (.int .i64 (max n (-1)))) L { s with fuse := max n (-1) }) :=
      h.put (s' := { s with fuse := max n (-1) }) 6 _ rfl rfl rfl rfl ⟨h.ok.n, h.ok.held, h.ok.wait, ⟨by show -1 ≤ max n (-1); omega, by show max n (-1) ≤ _; omega⟩, h.ok.made, h.ok.reads, h.ok.claims⟩
    rw [hs] at hA
    clear h
    by_cases hn1 : -1 ≤ n
    · have e : max n (-1) = n := by omega
      rw [e] at hA ⊢
      go_enter Tryz.func10, Tryz.ntmps10
      go_wp2_with (first | (go_at_call 32; refine (none_no h0).mono ?_; rintro e W ⟨rfl, rfl⟩))
      go_end0
      exact ⟨rfl, hA.out, Goes.put _ _ _ _⟩
    · have e : max n (-1) = -1 := by omega
      rw [e] at hA ⊢
      go_enter Tryz.func10, Tryz.ntmps10
      go_wp2_with (first | (go_at_call 32; refine (none_no h0).mono ?_; rintro e W ⟨rfl, rfl⟩))
      go_end0
      exact ⟨rfl, hA.out, Goes.put _ _ _ _⟩
  · rw [hs] at c7
    have hA : Hid (DiskAt w L s) := h
    clear h
    go_enter Tryz.func10, Tryz.ntmps10
    go_wp2_with (first | (go_at_call 32; refine (none_no h0).mono ?_; rintro e W ⟨rfl, rfl⟩))
    refine bodyPost_ret (results_none rfl _ _ _) rfl ?_
    exact ⟨rfl, hA.out, Goes.refl _ _⟩
theorem fuse_none {v : Value} (h : NoneAt w v) (n : Int) : Calls Tryz.prog 10 #[v, .int .i64 n] w fun e w' => e = .returned (.tuple #[]) ∧ w' = w := by
  go_enter Tryz.func10, Tryz.ntmps10
  go_wp2_with (first | (go_at_call 32; refine (none_yes h).mono ?_; rintro e W ⟨rfl, rfl⟩))
  refine bodyPost_ret (results_none rfl _ _ _) rfl ?_
  exact ⟨rfl, rfl⟩

end Go.Proofs.YtiadlcjdpbkbkaaGreatD
/- A disk that a function made itself, with blocks beside it that stay: each call once more, in one form; no condition but that numbers do not pass their greatest. -/
namespace Go.Proofs.YtiadlcjdpbkbkaaGreatD
open Go.RowKit

/-- In W, which has come of w, the disk at d stands for s; all of it is new since w; so nothing that w had has turned; the blocks of ks hold what is told, and are none of the disk's. -/
structure SitsL (w W : World) (L : Loc) (s : St) (ks : List (Nat × Obj)) : Prop where
  disk : DiskAt W L s
  new : L.from w.heap.size
  below : Below w.heap.size w W
  keep : ∀ p ∈ ks, W.heap[p.1]? = some p.2 ∧ ¬ L.has p.1
def Sits (w W : World) (d : Nat) (s : St) (ks : List (Nat × Obj)) : Prop := ∃ L : Loc, L.d = d ∧ SitsL w W L s ks
theorem SitsL.goes {w W W' : World} {L L' : Loc} {s s' : St} {ks : List (Nat × Obj)} (h : SitsL w W L s ks) (hD : DiskAt W' L' s') (hG : Goes W W' L L') : SitsL w W' L' s' ks := by
  refine ⟨hD, fun k hk => ?_, h.below.trans (hG.fr.below h.new h.below.size), fun p hp => ?_⟩
  · rcases hG.own k hk with q | q
    · exact h.new k q
    · have := h.below.size
      omega
  · obtain ⟨h1, h2⟩ := h.keep p hp
    have hlt := (Array.getElem?_eq_some_iff.1 h1).1
    refine ⟨(hG.fr.block p.1 hlt h2).trans h1, fun q => ?_⟩
    rcases hG.own p.1 q with q | q
    · exact h2 q
    · omega
variable {w W : World} {d : Nat} {s : St} {ks : List (Nat × Obj)}
theorem Sits.later {W' : World} (h : Sits w W d s ks) (hb : Below W.heap.size W W') : Sits w W' d s ks := by
  obtain ⟨L, hd, h⟩ := h
  exact ⟨L, hd, h.goes (h.disk.later hb) (Goes.ofBelow L hb)⟩
/-- Another block is told. -/
theorem Sits.add (h : Sits w W d s ks) (o : Obj) : Sits w (W.alloc o) d s ((W.heap.size, o) :: ks) := by
  obtain ⟨L, hd, h⟩ := h
  have h2 := h.goes (h.disk.later (below_new W o)) (Goes.ofBelow L (below_new W o))
  refine ⟨L, hd, h2.disk, h2.new, h2.below, fun p hp => ?_⟩
  rcases List.mem_cons.1 hp with rfl | hp
  · exact ⟨heap_alloc_new W o, fun q => by have := h.disk.lt _ q; simp only at this; omega⟩
  · exact h2.keep p hp
theorem Sits.blk (h : Sits w W d s ks) {g : Nat} {o : Obj} (hm : (g, o) ∈ ks) : W.heap[g]? = some o := by
  obtain ⟨L, hd, h⟩ := h
  exact (h.keep _ hm).1
theorem Sits.below (h : Sits w W d s ks) : Below w.heap.size w W := by
  obtain ⟨L, hd, h⟩ := h
  exact h.below
theorem Sits.ok (h : Sits w W d s ks) : Ok s := by
  obtain ⟨L, hd, h⟩ := h
  exact h.disk.ok
theorem Sits.drop (h : Sits w W d s ks) {ks' : List (Nat × Obj)} (hs : ∀ p ∈ ks', p ∈ ks) : Sits w W d s ks' := by
  obtain ⟨L, hd, h⟩ := h
  exact ⟨L, hd, h.disk, h.new, h.below, fun p hp => h.keep p (hs p hp)⟩
/-- A disk is made, with blocks that are there. -/
theorem sits_new {n : Int} (hn : bndB n = true) (hB : Below w.heap.size w W) (hk : ∀ p ∈ ks, W.heap[p.1]? = some p.2) :
    Calls Tryz.prog 7 #[.int .i64 n] W fun e W' => ∃ d, e = .returned (.tuple #[.pointer (some ⟨d, 0, none⟩), .int .i64 0]) ∧ Sits w W' d (newV n) ks := by
  refine (new_ok hn W).mono ?_
  rintro e W' ⟨L, rfl, hD, hL, hb⟩
  refine ⟨L.d, rfl, L, rfl, hD, fun k hk => by have := hL k hk; have := hB.size; omega, below_next hB hb, fun p hp => ?_⟩
  have h1 := hk p hp
  have hlt := (Array.getElem?_eq_some_iff.1 h1).1
  exact ⟨heap_kept h1 hb, fun q => by have := hL _ q; omega⟩
theorem sits_len (h : Sits w W d s ks) : Calls Tryz.prog 56 #[.pointer (some ⟨d, 0, none⟩)] W fun e W' => e = .returned (.int .i64 s.n) ∧ Sits w W' d s ks := by
  obtain ⟨L, rfl, hS⟩ := h
  exact (len_of hS.disk).mono fun e W' ⟨h1, h2⟩ => ⟨h1, by rw [h2]; exact ⟨L, rfl, hS⟩⟩
theorem sits_made (h : Sits w W d s ks) : Calls Tryz.prog 12 #[.pointer (some ⟨d, 0, none⟩)] W fun e W' => e = .returned (.int .i64 s.made) ∧ Sits w W' d s ks := by
  obtain ⟨L, rfl, hS⟩ := h
  exact (made_of hS.disk).mono fun e W' ⟨h1, h2⟩ => ⟨h1, by rw [h2]; exact ⟨L, rfl, hS⟩⟩
theorem sits_stopped (h : Sits w W d s ks) : Calls Tryz.prog 69 #[.pointer (some ⟨d, 0, none⟩)] W fun e W' => e = .returned (.bool s.stopped) ∧ Sits w W' d s ks := by
  obtain ⟨L, rfl, hS⟩ := h
  exact (stopped_of hS.disk).mono fun e W' ⟨h1, h2⟩ => ⟨h1, by rw [h2]; exact ⟨L, rfl, hS⟩⟩
theorem sits_claimed (h : Sits w W d s ks) (k : Int) : Calls Tryz.prog 43 #[.pointer (some ⟨d, 0, none⟩), .int .i64 k] W fun e W' => e = .returned (.bool (claimedV s k)) ∧ Sits w W' d s ks := by
  obtain ⟨L, rfl, hS⟩ := h
  exact (claimed_of hS.disk k).mono fun e W' ⟨h1, h2⟩ => ⟨h1, by rw [h2]; exact ⟨L, rfl, hS⟩⟩
theorem sits_fuse (h : Sits w W d s ks) (n : Int) (hn : n ≤ 9223372036854775807) : Calls Tryz.prog 10 #[.pointer (some ⟨d, 0, none⟩), .int .i64 n] W fun e W' => e = .returned (.tuple #[]) ∧ Sits w W' d (fuseV s n) ks := by
  obtain ⟨L, rfl, hS⟩ := h
  exact (fuse_of hS.disk n hn).mono fun e W' ⟨h1, h2, h3⟩ => ⟨h1, L, rfl, hS.goes h2 h3⟩
theorem sits_claim (h : Sits w W d s ks) (hr : Room s) : Calls Tryz.prog 51 #[.pointer (some ⟨d, 0, none⟩)] W fun e W' => e = .returned (.int .i64 (claimN s)) ∧ Sits w W' d (claimV s) ks := by
  obtain ⟨L, rfl, hS⟩ := h
  exact (claim_of hS.disk hr).mono fun e W' ⟨h1, h2, h3⟩ => ⟨h1, L, rfl, hS.goes h2 h3⟩
theorem sits_read (h : Sits w W d s ks) (hr : Room s) (k : Int) :
    Calls Tryz.prog 24 #[.pointer (some ⟨d, 0, none⟩), .int .i64 k] W fun e W' => e = .returned (.tuple #[.agg (blk (readB s k)), .int .i64 (refV s k)]) ∧ Sits w W' d (readV s k) ks := by
  obtain ⟨L, rfl, hS⟩ := h
  unfold readB readV
  by_cases hb : refV s k = 0
  · rw [if_pos hb, if_pos hb, hb]
    exact (read_ok hS.disk hr hb).mono fun e W' ⟨h1, h2, h3⟩ => ⟨h1, L, rfl, hS.goes h2 h3⟩
  · rw [if_neg hb, if_neg hb]
    exact (read_bad hS.disk hb).mono fun e W' ⟨h1, h2⟩ => ⟨h1, L, rfl, hS.goes (hS.disk.later h2) (Goes.ofBelow L h2)⟩
def writeV (s : St) (k : Int) (f : Nat → Int) : St := if refV s k = 0 then (if lets s then writeS s k f else letV s) else s
def writeE (s : St) (k : Int) : Int := if refV s k = 0 then (if lets s then 0 else 3) else refV s k
theorem sits_write (h : Sits w W d s ks) (hr : Room s) (k : Int) {f : Nat → Int} (hf : Can f) :
    Calls Tryz.prog 23 #[.pointer (some ⟨d, 0, none⟩), .int .i64 k, .agg (blk f)] W fun e W' => e = .returned (.int .i64 (writeE s k)) ∧ Sits w W' d (writeV s k f) ks := by
  obtain ⟨L, rfl, hS⟩ := h
  unfold writeE writeV
  by_cases hb : refV s k = 0
  · rw [if_pos hb, if_pos hb]
    cases hl : lets s
    · exact (write_dead hS.disk hr hb hl f).mono fun e W' ⟨h1, h2, h3⟩ => ⟨h1, L, rfl, hS.goes h2 h3⟩
    · exact (write_ok hS.disk hr hb hl hf).mono fun e W' ⟨h1, L', h2, h3⟩ => ⟨h1, L', h3.d, hS.goes h2 h3⟩
  · rw [if_neg hb, if_neg hb]
    exact (write_bad hS.disk hb f).mono fun e W' ⟨h1, h2⟩ => ⟨h1, L, rfl, hS.goes (hS.disk.later h2) (Goes.ofBelow L h2)⟩
def barV (s : St) : St := if s.stopped then s else (if lets s then barS s else letV s)
def barE (s : St) : Int := if s.stopped then 3 else (if lets s then 0 else 3)
theorem sits_barrier (h : Sits w W d s ks) (hr : Room s) :
    Calls Tryz.prog 11 #[.pointer (some ⟨d, 0, none⟩)] W fun e W' => e = .returned (.int .i64 (barE s)) ∧ Sits w W' d (barV s) ks := by
  obtain ⟨L, rfl, hS⟩ := h
  unfold barE barV
  cases hs : s.stopped
  · cases hl : lets s
    · exact (barrier_dead hS.disk hr hs hl).mono fun e W' ⟨h1, h2, h3⟩ => ⟨h1, L, rfl, hS.goes h2 h3⟩
    · exact (barrier_ok hS.disk hr hs hl).mono fun e W' ⟨h1, L', h2, h3⟩ => ⟨h1, L', h3.d, hS.goes h2 h3⟩
  · exact (barrier_stopped hS.disk hs).mono fun e W' ⟨h1, h2⟩ => ⟨h1, by rw [h2]; exact ⟨L, rfl, hS⟩⟩
end Go.Proofs.YtiadlcjdpbkbkaaGreatD

/- A row of holdings linked both ways and closed to a ring, as plain functions: what leaving it and standing last in it do; no condition. -/
namespace Go.Proofs.YtiadlcjdpbkbkaaGreatD
open Go.RowKit
/-- A holding's numbers. -/
structure Nd where
  pos : Int
  fast : Bool
  pv : Nat
  nx : Nat
  dat : Nat → Int
def setM (M : Nat → Nd) (g : Nat) (n : Nd) : Nat → Nd := fun k => if k = g then n else M k
def Lnk (M : Nat → Nd) (x y : Nat) : Prop := (M x).nx = y ∧ (M y).pv = x
def seg (R : Nat → Nat → Prop) : Nat → List Nat → Nat → Prop
  | a, [], b => R a b
  | a, x :: t, b => R a x ∧ seg R x t b
theorem seg_append (R : Nat → Nat → Prop) (x b : Nat) (q : List Nat) : ∀ (a : Nat) (p : List Nat), seg R a (p ++ x :: q) b ↔ seg R a p x ∧ seg R x q b
  | a, [] => Iff.rfl
  | a, c :: t => by
    show R a c ∧ seg R c (t ++ x :: q) b ↔ (R a c ∧ seg R c t x) ∧ seg R x q b
    rw [seg_append R x b q c t, and_assoc]
theorem seg_mono {R R' : Nat → Nat → Prop} (b : Nat) : ∀ (a : Nat) (l : List Nat), seg R a l b → (∀ x y, x ∈ a :: l → y ∈ l ++ [b] → R x y → R' x y) → seg R' a l b
  | a, [], h, hm => hm a b (by simp) (by simp) h
  | a, c :: t, h, hm => ⟨hm a c (by simp) (by simp) h.1, seg_mono b c t h.2 fun x y hx hy => hm x y (List.mem_cons_of_mem _ hx) (by simp only [List.cons_append]; exact List.mem_cons_of_mem _ hy)⟩
def setPv (M : Nat → Nd) (g z : Nat) : Nat → Nd := setM M g { M g with pv := z }
def setNx (M : Nat → Nd) (g z : Nat) : Nat → Nd := setM M g { M g with nx := z }
theorem setPv_pv (M : Nat → Nd) (g z k : Nat) : (setPv M g z k).pv = if k = g then z else (M k).pv := by unfold setPv setM; split <;> rfl
theorem setPv_nx (M : Nat → Nd) (g z k : Nat) : (setPv M g z k).nx = (M k).nx := by
  unfold setPv setM
  split
  · next h => rw [h]
  · rfl
theorem setPv_rest (M : Nat → Nd) (g z k : Nat) : (setPv M g z k).pos = (M k).pos ∧ (setPv M g z k).fast = (M k).fast ∧ (setPv M g z k).dat = (M k).dat := by
  unfold setPv setM
  split
  · next h => rw [h]; exact ⟨rfl, rfl, rfl⟩
  · exact ⟨rfl, rfl, rfl⟩
theorem setNx_nx (M : Nat → Nd) (g z k : Nat) : (setNx M g z k).nx = if k = g then z else (M k).nx := by unfold setNx setM; split <;> rfl
theorem setNx_pv (M : Nat → Nd) (g z k : Nat) : (setNx M g z k).pv = (M k).pv := by
  unfold setNx setM
  split
  · next h => rw [h]
  · rfl
theorem setNx_rest (M : Nat → Nd) (g z k : Nat) : (setNx M g z k).pos = (M k).pos ∧ (setNx M g z k).fast = (M k).fast ∧ (setNx M g z k).dat = (M k).dat := by
  unfold setNx setM
  split
  · next h => rw [h]; exact ⟨rfl, rfl, rfl⟩
  · exact ⟨rfl, rfl, rfl⟩
/-- A holding leaves its row. -/
def leaveM (M : Nat → Nd) (h : Nat) : Nat → Nd := setPv (setNx M (M h).pv (M h).nx) (M h).nx (M h).pv
theorem leave_nx (M : Nat → Nd) (h k : Nat) : (leaveM M h k).nx = if k = (M h).pv then (M h).nx else (M k).nx := by
  unfold leaveM
  rw [setPv_nx, setNx_nx]
theorem leave_pv (M : Nat → Nd) (h k : Nat) : (leaveM M h k).pv = if k = (M h).nx then (M h).pv else (M k).pv := by
  unfold leaveM
  rw [setPv_pv, setNx_pv]
theorem leave_rest (M : Nat → Nd) (h k : Nat) : (leaveM M h k).pos = (M k).pos ∧ (leaveM M h k).fast = (M k).fast ∧ (leaveM M h k).dat = (M k).dat := by
  unfold leaveM
  obtain ⟨a1, a2, a3⟩ := setPv_rest (setNx M (M h).pv (M h).nx) (M h).nx (M h).pv k
  obtain ⟨b1, b2, b3⟩ := setNx_rest M (M h).pv (M h).nx k
  exact ⟨a1.trans b1, a2.trans b2, a3.trans b3⟩
theorem snoc_cases (p : List Nat) : p = [] ∨ ∃ p0 z, p = p0 ++ [z] := by
  rcases List.eq_nil_or_concat p with h | ⟨a, b, h⟩
  · exact .inl h
  · exact .inr ⟨a, b, by simpa using h⟩
/-- Where h stands in the row, its neighbours are of the row, or the end. -/
theorem seg_near {M : Nat → Nd} {e h : Nat} {p q : List Nat} (hs : seg (Lnk M) e (p ++ h :: q) e) : (M h).pv ∈ e :: p ∧ (M h).nx ∈ q ++ [e] := by
  obtain ⟨h1, h2⟩ := (seg_append _ _ _ _ _ _).1 hs
  constructor
  · rcases snoc_cases p with rfl | ⟨p0, z, rfl⟩
    · simp [h1.2]
    · have := ((seg_append _ _ _ _ _ _).1 h1).2.2
      simp [this]
  · cases q with
    | nil => simp [h2.1]
    | cons y t => simp [h2.1.1]
theorem leave_seg {M : Nat → Nd} {e h : Nat} {p q : List Nat} (hn : (e :: (p ++ h :: q)).Nodup) (hs : seg (Lnk M) e (p ++ h :: q) e) : seg (Lnk (leaveM M h)) e (p ++ q) e := by
  obtain ⟨h1, h2⟩ := (seg_append _ _ _ _ _ _).1 hs
  have hL : ∀ x y, x ≠ (M h).pv → y ≠ (M h).nx → Lnk M x y → Lnk (leaveM M h) x y := by
    intro x y hx hy hl
    unfold Lnk
    rw [leave_nx, leave_pv, if_neg hx, if_neg hy]
    exact hl
  have hJ : Lnk (leaveM M h) (M h).pv (M h).nx := by
    unfold Lnk
    rw [leave_nx, leave_pv, if_pos rfl, if_pos rfl]
    exact ⟨rfl, rfl⟩
  rcases snoc_cases p with rfl | ⟨p0, z, rfl⟩
  · have hz : (M h).pv = e := h1.2
    cases q with
    | nil =>
      have hy : (M h).nx = e := h2.1
      rw [hz, hy] at hJ
      exact hJ
    | cons y t =>
      have hy : (M h).nx = y := h2.1.1
      rw [hz, hy] at hJ
      refine ⟨hJ, seg_mono e y t h2.2 fun a b ha hb => hL a b ?_ ?_⟩
      · rw [hz]; rintro rfl; simp at hn; simp at ha; rcases ha with rfl | ha
        · exact hn.1.2.1 rfl
        · exact hn.1.2.2 ha
      · rw [hy]; rintro rfl; simp at hn; simp at hb; rcases hb with hb | rfl
        · exact hn.2.2.1 hb
        · exact hn.1.2.1 rfl
  · obtain ⟨h3, h4⟩ := (seg_append _ _ _ _ _ _).1 h1
    have hz : (M h).pv = z := h4.2
    have hne : ∀ a, a ∈ e :: p0 → a ≠ z := by
      rintro a ha rfl
      simp at hn ha
      rcases ha with rfl | ha
      · simp at hn
      · have := hn.2
        rw [List.nodup_append] at this
        exact this.2.2 a ha a (by simp) rfl
    have hyz : ∀ b, b ∈ p0 ++ [z] → b ∉ h :: q := by
      intro b hb hb'
      have := (List.nodup_cons.1 hn).2
      rw [List.nodup_append] at this
      exact this.2.2 b hb b hb' rfl
    have hnq : (e :: (h :: q)).Nodup := by
      rw [List.nodup_cons] at hn ⊢
      refine ⟨fun q' => hn.1 (List.mem_append.2 (.inr q')), (List.nodup_append.1 hn.2).2.1⟩
    rw [List.append_assoc]
    show seg _ e (p0 ++ z :: q) e
    refine (seg_append _ _ _ _ _ _).2 ⟨seg_mono z e p0 h3 fun a b ha hb => hL a b (by rw [hz]; exact hne a ha) ?_, ?_⟩
    · rintro rfl
      cases q with
      | nil =>
        have hy : (M h).nx = e := h2.1
        rw [hy] at hb
        exact (List.nodup_cons.1 hn).1 (List.mem_append.2 (.inl hb))
      | cons y t =>
        have hy : (M h).nx = y := h2.1.1
        rw [hy] at hb
        exact hyz y hb (by simp)
    · cases q with
      | nil =>
        have hy : (M h).nx = e := h2.1
        rw [hz, hy] at hJ
        exact hJ
      | cons y t =>
        have hy : (M h).nx = y := h2.1.1
        rw [hz, hy] at hJ
        refine ⟨hJ, seg_mono e y t h2.2 fun a b ha hb => hL a b ?_ ?_⟩
        · rw [hz]; rintro rfl
          exact hyz a (by simp) (List.mem_cons_of_mem _ ha)
        · rw [hy]; rintro rfl; simp at hnq; simp at hb; rcases hb with hb | rfl
          · exact hnq.2.2.1 hb
          · exact hnq.1.2.1 rfl
/-- A holding is put ahead of the end. -/
def standM (M : Nat → Nd) (h e : Nat) : Nat → Nd := setPv (setNx (setNx (setPv M h (M e).pv) h e) (M e).pv h) e h
theorem stand_nx (M : Nat → Nd) (h e k : Nat) : (standM M h e k).nx = if k = (M e).pv then h else if k = h then e else (M k).nx := by
  unfold standM
  rw [setPv_nx, setNx_nx, setNx_nx, setPv_nx]
theorem stand_pv (M : Nat → Nd) (h e k : Nat) : (standM M h e k).pv = if k = e then h else if k = h then (M e).pv else (M k).pv := by
  unfold standM
  rw [setPv_pv, setNx_pv, setNx_pv, setPv_pv]
theorem stand_rest (M : Nat → Nd) (h e k : Nat) : (standM M h e k).pos = (M k).pos ∧ (standM M h e k).fast = (M k).fast ∧ (standM M h e k).dat = (M k).dat := by
  unfold standM
  obtain ⟨a1, a2, a3⟩ := setPv_rest (setNx (setNx (setPv M h (M e).pv) h e) (M e).pv h) e h k
  obtain ⟨b1, b2, b3⟩ := setNx_rest (setNx (setPv M h (M e).pv) h e) (M e).pv h k
  obtain ⟨c1, c2, c3⟩ := setNx_rest (setPv M h (M e).pv) h e k
  obtain ⟨d1, d2, d3⟩ := setPv_rest M h (M e).pv k
  exact ⟨a1.trans (b1.trans (c1.trans d1)), a2.trans (b2.trans (c2.trans d2)), a3.trans (b3.trans (c3.trans d3))⟩
/-- The last of the row, or the end. -/
theorem seg_last {M : Nat → Nd} {e : Nat} {l : List Nat} (hs : seg (Lnk M) e l e) : (M e).pv ∈ e :: l := by
  rcases snoc_cases l with rfl | ⟨p0, z, rfl⟩
  · simp [hs.2]
  · have := ((seg_append _ _ _ _ _ _).1 hs).2.2
    simp [this]
theorem seg_first {M : Nat → Nd} {e : Nat} {l : List Nat} (hs : seg (Lnk M) e l e) : (M e).nx = (l ++ [e]).headD 0 := by
  cases l with
  | nil => exact hs.1
  | cons y t => exact hs.1.1
theorem stand_seg {M : Nat → Nd} {e h : Nat} {l : List Nat} (hn : (h :: e :: l).Nodup) (hs : seg (Lnk M) e l e) : seg (Lnk (standM M h e)) e (l ++ [h]) e := by
  have hhe : h ≠ e := by rintro rfl; simp at hn
  have hlast := seg_last hs
  have hz : h ≠ (M e).pv := by
    intro q
    rw [← q] at hlast
    exact (List.nodup_cons.1 hn).1 hlast
  have hN := fun k => stand_nx M h e k
  have hP := fun k => stand_pv M h e k
  have hfin : seg (Lnk (standM M h e)) h [] e := by
    show Lnk _ h e
    unfold Lnk
    rw [hN, hP, if_neg hz, if_pos rfl, if_pos rfl]
    exact ⟨rfl, rfl⟩
  refine (seg_append _ _ _ _ _ _).2 ⟨?_, hfin⟩
  have hJ : Lnk (standM M h e) (M e).pv h := by
    unfold Lnk
    rw [hN, hP, if_pos rfl, if_neg hhe, if_pos rfl]
    exact ⟨rfl, rfl⟩
  rcases snoc_cases l with rfl | ⟨p0, z, rfl⟩
  · have : (M e).pv = e := hs.2
    rw [this] at hJ
    exact hJ
  · obtain ⟨h3, h4⟩ := (seg_append _ _ _ _ _ _).1 hs
    have hez : (M e).pv = z := h4.2
    rw [hez] at hJ
    refine (seg_append _ _ _ _ _ _).2 ⟨seg_mono z e p0 h3 fun a b ha hb hl => ?_, hJ⟩
    have hae : a ≠ z := by
      rintro rfl
      simp at hn ha
      rcases ha with rfl | ha
      · simp at hn
      · have := hn.2.2
        rw [List.nodup_append] at this
        exact this.2.2 a ha a (by simp) rfl
    have hah : a ≠ h := by
      rintro rfl
      refine (List.nodup_cons.1 hn).1 ?_
      simp at ha ⊢
      rcases ha with rfl | ha
      · exact .inl rfl
      · exact .inr (.inl ha)
    have hbe : b ≠ e := by
      rintro rfl
      exact (List.nodup_cons.1 (List.nodup_cons.1 hn).2).1 hb
    have hbh : b ≠ h := by
      rintro rfl
      exact (List.nodup_cons.1 hn).1 (List.mem_cons_of_mem _ hb)
    unfold Lnk
    rw [hN, hP, if_neg (by rw [hez]; exact hae), if_neg hah, if_neg hbe, if_neg hbh]
    exact hl
end Go.Proofs.YtiadlcjdpbkbkaaGreatD
/- A holding in memory: its row of 1028 cells; what a store of one of its fields turns; no condition. -/
namespace Go.Proofs.YtiadlcjdpbkbkaaGreatD
open Go.RowKit

def ptr (g : Nat) : Value := .pointer (some ⟨g, 0, none⟩)
/-- A holding's cells, whatever stands where its neighbours do. -/
def rowV (k : Int) (b : Bool) (p q : Value) (f : Nat → Int) : Array Value := (.int .i64 k :: .bool b :: p :: q :: (blk f).toList).toArray
def ndRow (n : Nd) : Array Value := rowV n.pos n.fast (ptr n.pv) (ptr n.nx) n.dat
theorem rowV_size (k : Int) (b : Bool) (p q : Value) (f : Nat → Int) : (rowV k b p q f).size = 1028 := by simp [rowV, blk_size]
theorem rowV_set1 (k : Int) (b c : Bool) (p q : Value) (f : Nat → Int) : (rowV k b p q f).setIfInBounds 1 (.bool c) = rowV k c p q f := by unfold rowV; rw [List.setIfInBounds_toArray]; rfl
theorem rowV_set2 (k : Int) (b : Bool) (p q r : Value) (f : Nat → Int) : (rowV k b p q f).setIfInBounds 2 r = rowV k b r q f := by unfold rowV; rw [List.setIfInBounds_toArray]; rfl
theorem rowV_set3 (k : Int) (b : Bool) (p q r : Value) (f : Nat → Int) : (rowV k b p q f).setIfInBounds 3 r = rowV k b p r f := by unfold rowV; rw [List.setIfInBounds_toArray]; rfl
variable {w : World} {g : Nat} {k : Int} {b : Bool} {p q : Value} {f : Nat → Int}
/-- A row at g. -/
def RowAt (w : World) (g : Nat) (k : Int) (b : Bool) (p q : Value) (f : Nat → Int) : Prop := w.heap[g]? = some (.cells (rowV k b p q f) 143)
theorem RowAt.c0 (h : RowAt w g k b p q f) : w.cell? ⟨g, 0, none⟩ = some (.int .i64 k) := Joins.cell_of_block h 0
theorem RowAt.c1 (h : RowAt w g k b p q f) : w.cell? ⟨g, 1, none⟩ = some (.bool b) := Joins.cell_of_block h 1
theorem RowAt.c2 (h : RowAt w g k b p q f) : w.cell? ⟨g, 2, none⟩ = some p := Joins.cell_of_block h 2
theorem RowAt.c3 (h : RowAt w g k b p q f) : w.cell? ⟨g, 3, none⟩ = some q := Joins.cell_of_block h 3
theorem RowAt.free (h : RowAt w g k b p q f) (i : Nat) : w.frozen? ⟨g, i, none⟩ = false := Joins.unfrozen_of_block h i
theorem RowAt.bytes (h : RowAt w g k b p q f) : BlkAt w g 4 f := fun j v hv => by
  rw [Joins.cell_of_block h]
  unfold rowV
  generalize (blk f).toList = l at *
  rw [List.getElem?_toArray, show 4 + j = j + 4 by omega]
  exact hv
theorem RowAt.set1 (h : RowAt w g k b p q f) (c : Bool) : RowAt (w.setCell ⟨g, 1, none⟩ (.bool c)) g k c p q f := (Joins.block_setCell h _).trans (by rw [rowV_set1])
theorem RowAt.set2 (h : RowAt w g k b p q f) (r : Value) : RowAt (w.setCell ⟨g, 2, none⟩ r) g k b r q f := (Joins.block_setCell h _).trans (by rw [rowV_set2])
theorem RowAt.set3 (h : RowAt w g k b p q f) (r : Value) : RowAt (w.setCell ⟨g, 3, none⟩ r) g k b p r f := (Joins.block_setCell h _).trans (by rw [rowV_set3])
theorem RowAt.other (h : RowAt w g k b p q f) {j : Nat} (i : Nat) (v : Value) (hne : g ≠ j) : RowAt (w.setCell ⟨j, i, none⟩ v) g k b p q f := (Below.heap_setCell w _ v g hne).trans h
/-- Some cells of a block stored one behind the other. -/
theorem block_setCells (g : Nat) (t : TypeId) (post : List Value) : ∀ (vs mid pre : List Value) (w : World), mid.length = vs.length → w.heap[g]? = some (.cells (pre ++ (mid ++ post)).toArray t) →
    (w.setCells g pre.length vs).heap[g]? = some (.cells (pre ++ (vs ++ post)).toArray t)
  | [], mid, pre, w, hl, h => by
    have : mid = [] := List.eq_nil_of_length_eq_zero hl
    subst this
    exact h
  | v :: r, [], pre, w, hl, h => by simp at hl
  | v :: r, m :: mid, pre, w, hl, h => by
    have h1 := Joins.block_setCell (i := pre.length) h v
    have e : (pre ++ (m :: mid ++ post)).toArray.setIfInBounds pre.length v = ((pre ++ [v]) ++ (mid ++ post)).toArray := by
      rw [List.setIfInBounds_toArray, List.set_append_right _ _ (Nat.le_refl _)]
      simp
    rw [e] at h1
    have h2 := block_setCells g t post r mid (pre ++ [v]) _ (by simpa using hl) h1
    simp only [List.length_append, List.length_cons, List.length_nil] at h2
    show ((w.setCell ⟨g, pre.length, none⟩ v).setCells g (pre.length + 1) r).heap[g]? = _
    rw [h2]
    simp
theorem heap_setCells (b : Nat) : ∀ (vs : List Value) (o : Nat) (w : World) (k : Nat), k ≠ b → (w.setCells b o vs).heap[k]? = w.heap[k]?
  | [], _, _, _, _ => rfl
  | v :: r, o, w, k, h => (heap_setCells b r (o + 1) _ k h).trans (Below.heap_setCell w _ v k h)
theorem size_setCells (b : Nat) : ∀ (vs : List Value) (o : Nat) (w : World), (w.setCells b o vs).heap.size = w.heap.size
  | [], _, _ => rfl
  | v :: r, o, w => (size_setCells b r (o + 1) _).trans (by simp)
theorem rest_setCells (b : Nat) : ∀ (vs : List Value) (o : Nat) (w : World), (w.setCells b o vs).os = w.os ∧ (w.setCells b o vs).tape = w.tape ∧ (w.setCells b o vs).output = w.output
  | [], _, _ => ⟨rfl, rfl, rfl⟩
  | v :: r, o, w => rest_setCells b r (o + 1) (w.setCell ⟨b, o, none⟩ v)
theorem Fr.setCells (w : World) (g o : Nat) (vs : List Value) : Fr (fun k => k = g) w (w.setCells g o vs) :=
  have h := rest_setCells g vs o w
  ⟨h.1, h.2.1, h.2.2, Nat.le_of_eq (size_setCells g vs o w).symm, fun k _ hn => heap_setCells g vs o w k hn⟩
theorem RowAt.setD (h : RowAt w g k b p q f) (f' : Nat → Int) : RowAt (w.setCells g 4 (blk f').toList) g k b p q f' := by
  have hl : (blk f).toList.length = (blk f').toList.length := by rw [blk_list_len, blk_list_len]
  unfold RowAt rowV at *
  generalize (blk f).toList = l at *
  generalize (blk f').toList = l' at *
  have := block_setCells g 143 [] l' l [.int .i64 k, .bool b, p, q] w hl (by simpa using h)
  simpa using this
theorem RowAt.there (h : RowAt w g k b p q f) : w.there g 4 1024 := fun j hj => by
  refine ⟨?_, h.free _⟩
  rw [Joins.cell_of_block h, Array.getElem?_eq_getElem (by rw [rowV_size]; omega)]
  rfl
theorem wpList_storeM {ops : Array Oper} {rest : List Oper} {o : Oper} {a : Act} {Q : Exit → Act → World → Prop} (hgd : o.guard = none) (x y : Operand) (ho : o.op = .store 47 x y)
    (hx : a.eval x = .pointer (some ⟨g, 4, none⟩)) (f' : Nat → Int) (hy : a.eval y = .agg (blk f')) (h : w.there g 4 1024)
    (hK : wpList Tryz.prog ops Q rest (a.put o.dst undef) (w.setCells g 4 (blk f').toList)) : wpList Tryz.prog ops Q (o :: rest) a w :=
  wpList_store_mid hgd 47 x y ho g 4 (blk f') hx hy (by rw [blk_size]; exact h) (by rw [blk_size]; exact size25) (blk_one f') hK
end Go.Proofs.YtiadlcjdpbkbkaaGreatD
/- Leaving the row and standing last in it, as the program does; no condition. -/
namespace Go.Proofs.YtiadlcjdpbkbkaaGreatD
open Go.RowKit

/-- The holdings of S lie in memory as M says. -/
def Nodes (w : World) (M : Nat → Nd) (S : Nat → Prop) : Prop := ∀ g, S g → RowAt w g (M g).pos (M g).fast (ptr (M g).pv) (ptr (M g).nx) (M g).dat
variable {w : World} {M : Nat → Nd} {S : Nat → Prop}
theorem Nodes.setNx (h : Nodes w M S) {g : Nat} (hg : S g) (z : Nat) : Nodes (w.setCell ⟨g, 3, none⟩ (ptr z)) (setNx M g z) S := fun k hk => by
  unfold Go.Proofs.YtiadlcjdpbkbkaaGreatD.setNx setM
  by_cases e : k = g
  · subst e
    rw [if_pos rfl]
    exact (h k hk).set3 (ptr z)
  · rw [if_neg e]
    exact (h k hk).other 3 _ e
theorem Nodes.setPv (h : Nodes w M S) {g : Nat} (hg : S g) (z : Nat) : Nodes (w.setCell ⟨g, 2, none⟩ (ptr z)) (setPv M g z) S := fun k hk => by
  unfold Go.Proofs.YtiadlcjdpbkbkaaGreatD.setPv setM
  by_cases e : k = g
  · subst e
    rw [if_pos rfl]
    exact (h k hk).set2 (ptr z)
  · rw [if_neg e]
    exact (h k hk).other 2 _ e
theorem Nodes.kept {w' : World} (h : Nodes w M S) (hb : ∀ g, S g → w'.heap[g]? = w.heap[g]?) : Nodes w' M S := fun g hg => (hb g hg).trans (h g hg)
theorem Nodes.mono {S' : Nat → Prop} (h : Nodes w M S) (hs : ∀ g, S' g → S g) : Nodes w M S' := fun g hg => h g (hs g hg)
set_option maxHeartbeats 1000000 in
theorem leave_of (hN : Nodes w M S) {h : Nat} (hh : S h) (hp : S (M h).pv) (hn : S (M h).nx) :
    Calls Tryz.prog 119 #[ptr h] w fun e w' => e = .returned (.tuple #[]) ∧ Nodes w' (leaveM M h) S ∧ Fr (fun k => k = (M h).pv ∨ k = (M h).nx) w w' := by
  have k2 := (hN h hh).c2
  have k3 := (hN h hh).c3
  have p3 := (hN _ hp).c3
  have fp := (hN _ hp).free 3
  have n2 := (hN _ hn).c2
  have fn := (hN _ hn).free 2
  have N1 : Nodes ((w.setCell ⟨(M h).pv, 3, none⟩ (ptr (M h).nx)).setCell ⟨(M h).nx, 2, none⟩ (ptr (M h).pv)) (leaveM M h) S := (hN.setNx hp _).setPv hn _
  have F1 : Fr (fun k => k = (M h).pv ∨ k = (M h).nx) w ((w.setCell ⟨(M h).pv, 3, none⟩ (ptr (M h).nx)).setCell ⟨(M h).nx, 2, none⟩ (ptr (M h).pv)) := by
    refine ((Fr.setCell w (M h).pv 3 (ptr (M h).nx)).mono (T' := fun k => k = (M h).pv ∨ k = (M h).nx) fun _ _ q => .inl q).trans (Fr.setCell _ (M h).nx 2 (ptr (M h).pv)) fun _ _ q => .inr q
  have HN : Hid (Nodes _ (leaveM M h) S) := N1
  have HF : Hid (Fr _ w _) := F1
  clear N1 F1 hN
  generalize leaveM M h = M' at *
  generalize (M h).pv = P at *
  generalize (M h).nx = X at *
  unfold ptr at *
  go_enter Tryz.func119, Tryz.ntmps119
  go_wp2_with (fail)
  go_region
  go_end0
  exact ⟨rfl, HN.out, HF.out.trans (Fr.drew (T := fun _ => False) _) fun _ _ q => q.elim⟩
set_option maxHeartbeats 1000000 in
/-- h stands with anything where its neighbours do. -/
theorem stand_of (hN : Nodes w M S) {h e : Nat} {n : Nd} {p q : Value} (hS : ¬ S h) (he : S e) (hz : S (M e).pv) (hh : RowAt w h n.pos n.fast p q n.dat) :
    Calls Tryz.prog 121 #[ptr h, ptr e] w fun x w' => x = .returned (.tuple #[]) ∧ Nodes w' (standM (setM M h n) h e) (fun k => k = h ∨ S k) ∧ Fr (fun k => k = h ∨ k = e ∨ k = (M e).pv) w w' := by
  have hhe : h ≠ e := fun q => hS (q ▸ he)
  have hhz : h ≠ (M e).pv := fun q => hS (q ▸ hz)
  have e2 := (hN e he).c2
  have fe := (hN e he).free 2
  have z3 := (hN _ hz).c3
  have fz := (hN _ hz).free 3
  have h2 := hh.c2
  have h3 := hh.c3
  have f2 := hh.free 2
  have f3 := hh.free 3
  have eM : (setM M h n e) = M e := by unfold setM; rw [if_neg (Ne.symm hhe)]
  have e1 : ∀ k, k ≠ h → setM M h n k = M k := fun k hk => by unfold setM; rw [if_neg hk]
  have N1 : Nodes ((((w.setCell ⟨h, 2, none⟩ (ptr (M e).pv)).setCell ⟨h, 3, none⟩ (ptr e)).setCell ⟨(M e).pv, 3, none⟩ (ptr h)).setCell ⟨e, 2, none⟩ (ptr h)) (standM (setM M h n) h e) (fun k => k = h ∨ S k) := by
    unfold standM
    rw [eM]
    refine Nodes.setPv (Nodes.setNx ?_ (.inr hz) _) (.inr he) _
    rintro k (rfl | hk)
    · have := (hh.set2 (ptr (M e).pv)).set3 (ptr e)
      have e3 : setNx (setPv (setM M k n) k (M e).pv) k e k = { n with pv := (M e).pv, nx := e } := by unfold setNx setPv setM; simp
      rw [e3]
      exact this
    · have hk' : k ≠ h := fun q => hS (q ▸ hk)
      have e3 : setNx (setPv (setM M h n) h (M e).pv) h e k = M k := by unfold setNx setPv setM; simp [hk']
      rw [e3]
      exact ((hN k hk).other 2 _ hk').other 3 _ hk'
  have F1 : Fr (fun k => k = h ∨ k = e ∨ k = (M e).pv) w ((((w.setCell ⟨h, 2, none⟩ (ptr (M e).pv)).setCell ⟨h, 3, none⟩ (ptr e)).setCell ⟨(M e).pv, 3, none⟩ (ptr h)).setCell ⟨e, 2, none⟩ (ptr h)) := by
    have a1 := (Fr.setCell w h 2 (ptr (M e).pv)).mono (T' := fun k => k = h ∨ k = e ∨ k = (M e).pv) fun _ _ q => .inl q
    have a2 := a1.trans (Fr.setCell _ h 3 (ptr e)) fun _ _ q => .inl q
    have a3 := a2.trans (Fr.setCell _ (M e).pv 3 (ptr h)) fun _ _ q => .inr (.inr q)
    exact a3.trans (Fr.setCell _ e 2 (ptr h)) fun _ _ q => .inr (.inl q)
  have HN : Hid (Nodes _ _ _) := N1
  have HF : Hid (Fr _ w _) := F1
  clear N1 F1 hN eM e1 hh
  generalize standM (setM M h n) h e = M' at *
  generalize (M e).pv = Z at *
  unfold ptr at *
  go_enter Tryz.func121, Tryz.ntmps121
  go_wp2
  go_end0
  exact ⟨rfl, HN.out, HF.out⟩
end Go.Proofs.YtiadlcjdpbkbkaaGreatD
/- A cache in memory: its row of six cells, its map, its holdings in a ring; what it stands for; no condition. -/
namespace Go.Proofs.YtiadlcjdpbkbkaaGreatD
open Go.RowKit Go.Maps

theorem nodup_sub_len {α : Type} [DecidableEq α] : ∀ (l m : List α), l.Nodup → (∀ x ∈ l, x ∈ m) → l.length ≤ m.length
  | [], _, _, _ => by simp
  | a :: t, m, hn, hs => by
    have h1 := nodup_sub_len t (m.erase a) (List.nodup_cons.1 hn).2 fun x hx => by
      have hne : x ≠ a := fun q => (List.nodup_cons.1 hn).1 (q ▸ hx)
      exact (List.mem_erase_of_ne hne).2 (hs x (List.mem_cons_of_mem _ hx))
    have h2 := hs a (List.mem_cons_self ..)
    rw [List.length_erase_of_mem h2] at h1
    have := List.length_pos_of_mem h2
    rw [List.length_cons]
    omega
theorem nodup_map_inj {α β : Type} {f : α → β} : ∀ (l : List α), (l.map f).Nodup → ∀ x y, x ∈ l → y ∈ l → f x = f y → x = y
  | [], _, x, _, hx, _, _ => by simp at hx
  | a :: t, hn, x, y, hx, hy, e => by
    rw [List.map_cons, List.nodup_cons] at hn
    rcases List.mem_cons.1 hx with hx1 | hx1
    · rcases List.mem_cons.1 hy with hy1 | hy1
      · exact hx1.trans hy1.symm
      · exact absurd (List.mem_map.2 ⟨y, hy1, by rw [← e, hx1]⟩) hn.1
    · rcases List.mem_cons.1 hy with hy1 | hy1
      · exact absurd (List.mem_map.2 ⟨x, hx1, by rw [e, hy1]⟩) hn.1
      · exact nodup_map_inj t hn.2 x y hx1 hy1 e
/-- A block that is held. -/
structure Hld where
  pos : Int
  fast : Bool
  dat : Nat → Int
def hld (M : Nat → Nd) (g : Nat) : Hld := ⟨(M g).pos, (M g).fast, (M g).dat⟩
/-- Where a cache lies. -/
structure KLoc where
  c : Nat
  d : Nat
  e : Nat
  mb : Nat
  ns : List Nat
  M : Nat → Nd
def KLoc.has (K : KLoc) (k : Nat) : Prop := k = K.c ∨ k = K.mb ∨ k = K.e ∨ k ∈ K.ns
/-- What a cache stands for. -/
structure CSt where
  size : Int
  row : List Hld
def fastN (r : List Hld) : Nat := r.countP (·.fast)
def posOf (M : Nat → Nd) (g : Nat) : Int := (M g).pos
def mapV (M : Nat → Nd) (ns : List Nat) : Int → Option Value := fun k => (ns.find? fun g => posOf M g == k).map ptr
theorem mapV_none {M : Nat → Nd} {ns : List Nat} {k : Int} (h : ∀ g ∈ ns, posOf M g ≠ k) : mapV M ns k = none := by
  unfold mapV
  rw [List.find?_eq_none.2 (fun x hx => by simpa using h x hx)]
  rfl
theorem mapV_some {M : Nat → Nd} {ns : List Nat} (hn : (ns.map (posOf M)).Nodup) {g : Nat} (hg : g ∈ ns) : mapV M ns (posOf M g) = some (ptr g) := by
  unfold mapV
  cases hf : ns.find? fun x => posOf M x == posOf M g with
  | none => exact absurd (List.find?_eq_none.1 hf g hg) (by simp)
  | some x =>
    have h1 := List.find?_some hf
    have h2 := List.mem_of_find?_eq_some hf
    have h3 : posOf M x = posOf M g := by simpa using h1
    have h4 : x = g := nodup_map_inj _ hn x g h2 hg h3
    rw [h4]
    rfl
theorem mapV_ext {M M' : Nat → Nd} {ns ns' : List Nat} (h1 : (ns.map (posOf M)).Nodup) (h2 : (ns'.map (posOf M')).Nodup) (hm : ∀ g, g ∈ ns ↔ g ∈ ns') (hp : ∀ g ∈ ns, posOf M' g = posOf M g) : mapV M ns = mapV M' ns' := by
  funext k
  by_cases hk : ∃ g ∈ ns, posOf M g = k
  · obtain ⟨g, hg, rfl⟩ := hk
    rw [mapV_some h1 hg, ← hp g hg, mapV_some h2 ((hm g).1 hg)]
  · rw [mapV_none fun g hg q => hk ⟨g, hg, q⟩, mapV_none fun g hg q => hk ⟨g, (hm g).2 hg, by rw [← hp g ((hm g).2 hg)]; exact q⟩]
theorem mapV_add {M M' : Nat → Nd} {ns : List Nat} {g : Nat} (h2 : ((ns ++ [g]).map (posOf M')).Nodup) (hp : ∀ x ∈ ns, posOf M' x = posOf M x) :
    (fun y => if y = posOf M' g then some (ptr g) else mapV M ns y) = mapV M' (ns ++ [g]) := by
  have h1 : (ns.map (posOf M)).Nodup := by
    rw [List.map_append] at h2
    have := (List.nodup_append.1 h2).1
    rwa [List.map_congr_left hp] at this
  funext k
  by_cases hk : k = posOf M' g
  · subst hk
    rw [if_pos rfl, mapV_some h2 (by simp)]
  · rw [if_neg hk]
    by_cases hx : ∃ x ∈ ns, posOf M x = k
    · obtain ⟨x, hx, rfl⟩ := hx
      rw [mapV_some h1 hx, ← hp x hx, mapV_some h2 (by simp [hx])]
    · rw [mapV_none fun x hx' q => hx ⟨x, hx', q⟩, mapV_none]
      intro x hx' q
      rcases List.mem_append.1 hx' with h | h
      · exact hx ⟨x, h, by rw [← hp x h]; exact q⟩
      · obtain rfl : x = g := by simpa using h
        exact hk q.symm
theorem mapV_del {M M' : Nat → Nd} {p q : List Nat} {g : Nat} (h1 : ((p ++ g :: q).map (posOf M)).Nodup) (hp : ∀ x ∈ p ++ q, posOf M' x = posOf M x) :
    (fun y => if y = posOf M g then none else mapV M (p ++ g :: q) y) = mapV M' (p ++ q) := by
  have hsub : ((p ++ q).map (posOf M)).Nodup := by
    rw [List.map_append, List.map_cons] at h1
    rw [List.map_append]
    exact (h1.sublist (List.Sublist.append_left (List.sublist_cons_self ..) _))
  have h2 : ((p ++ q).map (posOf M')).Nodup := by rwa [List.map_congr_left hp]
  have hg : ∀ x ∈ p ++ q, posOf M x ≠ posOf M g := by
    intro x hx e
    have h3 : (p ++ g :: q).Perm (g :: (p ++ q)) := List.perm_middle
    have h4 := ((h3.map (posOf M)).nodup_iff).1 h1
    rw [List.map_cons, List.nodup_cons] at h4
    exact h4.1 (List.mem_map.2 ⟨x, hx, e⟩)
  funext k
  by_cases hk : k = posOf M g
  · subst hk
    rw [if_pos rfl, mapV_none]
    intro x hx
    rw [hp x hx]
    exact hg x hx
  · rw [if_neg hk]
    by_cases hx : ∃ x ∈ p ++ q, posOf M x = k
    · obtain ⟨x, hx, rfl⟩ := hx
      rw [mapV_some h1 (by simp at hx ⊢; rcases hx with h | h <;> simp [h]), ← hp x hx, mapV_some h2 hx]
    · rw [mapV_none, mapV_none fun x hx' q => hx ⟨x, hx', by rw [← hp x hx']; exact q⟩]
      intro x hx' e
      simp at hx'
      rcases hx' with h | rfl | h
      · exact hx ⟨x, by simp [h], e⟩
      · exact hk e.symm
      · exact hx ⟨x, by simp [h], e⟩
/-- How many a map has. -/
theorem map_size {w : World} {b : Nat} {M : Nat → Nd} {ns : List Nat} (hn : (ns.map (posOf M)).Nodup) {D : DataW Value} {n : Nat} (h : w.ownsMap Tryz.prog 3 valElem b n D) (hv : Views D (mapV M ns)) : Maps.size D = ns.length := by
  obtain ⟨es, rfl, hp, _⟩ := h.entries keyed3
  have hko : ∀ p ∈ es, ∃ x, p.1 = .int .i64 x := by
    obtain ⟨es', clock, _, F, _, hD⟩ := h
    intro p hp
    have e : es = (es'.toList.map (Go.WideElems.rg Tryz.prog 3 valElem)).foldr DataW.insert [] := by simpa using hD
    rw [e] at hp
    obtain ⟨y, hy, rfl⟩ := List.mem_map.1 (mem_sorted.1 hp)
    obtain ⟨z, hz⟩ := F.reads y hy
    obtain ⟨x, _, hx, _⟩ := Maps.keyOf_int_inv Tryz.underlying3 (Go.WideElems.rd_key hz)
    exact ⟨x, by rw [Go.WideElems.rg_of hz]; exact hx⟩
  let f : Lit × DataW Value → Int := fun p => match p.1 with | .int _ x => x | _ => 0
  have hf : ∀ p ∈ es, p.1 = .int .i64 (f p) := fun p hp' => by
    obtain ⟨a, ha⟩ := hko p hp'
    simp only [f, ha]
  have hnd : (es.map f).Nodup := by
    refine List.pairwise_map.2 (hp.imp_of_mem fun {p q} hp' hq' hne e => hne ?_)
    rw [hf p hp', hf q hq', e]
  have hsz : Maps.size (DataW.map es) = (es.map f).length := by simp [Maps.size]
  have hmem : ∀ x, x ∈ es.map f ↔ x ∈ ns.map (posOf M) := by
    intro x
    constructor
    · intro hx
      obtain ⟨p, hp', rfl⟩ := List.mem_map.1 hx
      have hh : has (.map es) (.int .i64 (f p)) = true := List.any_eq_true.2 ⟨p, hp', by rw [hf p hp']; simp [Lit.sameKey]⟩
      apply Classical.byContradiction
      intro hx'
      rw [hv.none (f p) (mapV_none fun g hg q => hx' (List.mem_map.2 ⟨g, hg, q⟩))] at hh
      cases hh
    · intro hx
      obtain ⟨g, hg, rfl⟩ := List.mem_map.1 hx
      obtain ⟨_, hh, _⟩ := hv.some _ _ (mapV_some hn hg)
      obtain ⟨p, hp', hs⟩ := List.any_eq_true.1 hh
      refine List.mem_map.2 ⟨p, hp', ?_⟩
      rw [hf p hp'] at hs
      simpa [Lit.sameKey] using hs
  have hns : ns.length = (ns.map (posOf M)).length := by simp
  rw [hsz, hns]
  exact Nat.le_antisymm (nodup_sub_len _ _ hnd fun x hx => (hmem x).1 hx) (nodup_sub_len _ _ hn fun x hx => (hmem x).2 hx)
end Go.Proofs.YtiadlcjdpbkbkaaGreatD
/- A cache beside its disk; what it tells of itself, and whom it refuses; no condition. -/
namespace Go.Proofs.YtiadlcjdpbkbkaaGreatD
open Go.RowKit Go.Maps

/-- What holds of every cache. -/
structure COk (s : CSt) : Prop where
  size : 1 ≤ s.size ∧ s.size ≤ 4096
  len : (s.row.length : Int) ≤ s.size
  pos : ∀ h ∈ s.row, inTop h.pos ∧ Can h.dat
  nodup : (s.row.map (·.pos)).Nodup
def ckRow (K : KLoc) (s : CSt) : Array Value := #[ptr K.c, ptr K.d, .int .i64 s.size, .map (some K.mb), ptr K.e, .int .i64 (fastN s.row : Int)]
structure CacheAt (w : World) (K : KLoc) (s : CSt) : Prop where
  row : w.heap[K.c]? = some (.cells (ckRow K s) 146)
  map : MapIs Tryz.prog 3 w K.mb (mapV K.M K.ns)
  nodes : Nodes w K.M (fun g => g = K.e ∨ g ∈ K.ns)
  ring : seg (Lnk K.M) K.e K.ns K.e
  nd : (K.e :: K.ns).Nodup
  holds : s.row = K.ns.map (hld K.M)
  ok : COk s
variable {w : World} {K : KLoc} {s : CSt}
theorem CacheAt.len (h : CacheAt w K s) : s.row.length = K.ns.length := by rw [h.holds]; simp
theorem CacheAt.posNd (h : CacheAt w K s) : (K.ns.map (posOf K.M)).Nodup := by
  have := h.ok.nodup
  rw [h.holds, List.map_map] at this
  exact this
theorem CacheAt.lt (h : CacheAt w K s) (k : Nat) (hk : K.has k) : k < w.heap.size := by
  rcases hk with rfl | rfl | hk
  · exact (Array.getElem?_eq_some_iff.1 h.row).1
  · exact h.map.lt
  · exact (Array.getElem?_eq_some_iff.1 (h.nodes k hk)).1
theorem CacheAt.kept {w' : World} (h : CacheAt w K s) (hb : ∀ k, K.has k → w'.heap[k]? = w.heap[k]?) : CacheAt w' K s :=
  ⟨(hb _ (.inl rfl)).trans h.row, h.map.kept (hb _ (.inr (.inl rfl))), h.nodes.kept fun g hg => hb g (.inr (.inr hg)), h.ring, h.nd, h.holds, h.ok⟩
theorem CacheAt.fr {w' : World} {T : Nat → Prop} (h : CacheAt w K s) (hf : Fr T w w') (hT : ∀ k, K.has k → ¬ T k) : CacheAt w' K s :=
  h.kept fun k hk => hf.block k (h.lt k hk) (hT k hk)
theorem CacheAt.cell (h : CacheAt w K s) (i : Nat) : w.cell? ⟨K.c, i, none⟩ = (ckRow K s)[i]? := Joins.cell_of_block h.row i
theorem CacheAt.free (h : CacheAt w K s) (i : Nat) : w.frozen? ⟨K.c, i, none⟩ = false := Joins.unfrozen_of_block h.row i
theorem CacheAt.c0 (h : CacheAt w K s) : w.cell? ⟨K.c, 0, none⟩ = some (ptr K.c) := h.cell 0
theorem CacheAt.c1 (h : CacheAt w K s) : w.cell? ⟨K.c, 1, none⟩ = some (ptr K.d) := h.cell 1
theorem CacheAt.c2 (h : CacheAt w K s) : w.cell? ⟨K.c, 2, none⟩ = some (.int .i64 s.size) := h.cell 2
theorem CacheAt.c3 (h : CacheAt w K s) : w.cell? ⟨K.c, 3, none⟩ = some (.map (some K.mb)) := h.cell 3
theorem CacheAt.c4 (h : CacheAt w K s) : w.cell? ⟨K.c, 4, none⟩ = some (ptr K.e) := h.cell 4
theorem CacheAt.c5 (h : CacheAt w K s) : w.cell? ⟨K.c, 5, none⟩ = some (.int .i64 (fastN s.row : Int)) := h.cell 5
theorem CacheAt.cne (h : CacheAt w K s) {g : Nat} (hg : g = K.e ∨ g ∈ K.ns) : g ≠ K.c := by
  rintro rfl
  have h1 := h.nodes _ hg
  have h2 := h.row
  unfold RowAt at h1
  rw [h2] at h1
  injection h1 with h1
  injection h1 with _ h1
  cases h1
theorem CacheAt.mne (h : CacheAt w K s) {g : Nat} (hg : g = K.e ∨ g ∈ K.ns) : g ≠ K.mb := by
  rintro rfl
  have h1 := h.nodes _ hg
  obtain ⟨es, cl, h2⟩ := h.map.isMap
  unfold RowAt at h1
  rw [h2] at h1
  cases h1
theorem CacheAt.cm (h : CacheAt w K s) : K.c ≠ K.mb := by
  intro e
  have h1 := h.row
  obtain ⟨es, cl, h2⟩ := h.map.isMap
  rw [e, h2] at h1
  cases h1
/-- A cache beside its disk. -/
structure CD (w : World) (K : KLoc) (L : Loc) (s : CSt) (t : St) : Prop where
  cache : CacheAt w K s
  disk : DiskAt w L t
  d : K.d = L.d
  apart : ∀ k, K.has k → ¬ L.has k
structure GoesC (w w' : World) (K : KLoc) (L : Loc) (K' : KLoc) (L' : Loc) : Prop where
  c : K'.c = K.c
  d : L'.d = L.d
  ownK : ∀ k, K'.has k → K.has k ∨ w.heap.size ≤ k
  ownL : ∀ k, L'.has k → L.has k ∨ w.heap.size ≤ k
  fr : Fr (fun k => K.has k ∨ L.has k) w w'
theorem GoesC.refl (w : World) (K : KLoc) (L : Loc) : GoesC w w K L K L := ⟨rfl, rfl, fun _ h => .inl h, fun _ h => .inl h, Fr.refl _ _⟩
theorem GoesC.ofBelow {w w' : World} (K : KLoc) (L : Loc) (h : Below w.heap.size w w') : GoesC w w' K L K L := ⟨rfl, rfl, fun _ h => .inl h, fun _ h => .inl h, Fr.ofBelow h⟩
theorem GoesC.trans {a b c : World} {K K' K'' : KLoc} {L L' L'' : Loc} (h : GoesC a b K L K' L') (k : GoesC b c K' L' K'' L'') : GoesC a c K L K'' L'' := by
  have hs := h.fr.size
  refine ⟨k.c.trans h.c, k.d.trans h.d, fun i hi => ?_, fun i hi => ?_, h.fr.trans k.fr fun i hi hk => ?_⟩
  · rcases k.ownK i hi with h1 | h1
    · exact h.ownK i h1
    · exact .inr (by omega)
  · rcases k.ownL i hi with h1 | h1
    · exact h.ownL i h1
    · exact .inr (by omega)
  · rcases hk with hk | hk
    · rcases h.ownK i hk with h1 | h1
      · exact .inl h1
      · omega
    · rcases h.ownL i hk with h1 | h1
      · exact .inr h1
      · omega
theorem CD.later {L : Loc} {t : St} {w' : World} (h : CD w K L s t) (hb : Below w.heap.size w w') : CD w' K L s t :=
  ⟨h.cache.kept fun k hk => hb.block k (h.cache.lt k hk), h.disk.later hb, h.d, h.apart⟩
/-- The disk alone has turned. -/
theorem CD.disks {L L' : Loc} {t t' : St} {w' : World} (h : CD w K L s t) (hD : DiskAt w' L' t') (hG : Goes w w' L L') : CD w' K L' s t' ∧ GoesC w w' K L K L' := by
  refine ⟨⟨h.cache.fr hG.fr h.apart, hD, h.d.trans hG.d.symm, fun k hk hl => ?_⟩, ⟨rfl, hG.d, fun _ q => .inl q, hG.own, hG.fr.mono fun _ _ q => .inr q⟩⟩
  rcases hG.own k hl with q | q
  · exact h.apart k hk q
  · have := h.cache.lt k hk; omega
/-- The cache alone has turned. -/
theorem CD.caches {K' : KLoc} {L : Loc} {t : St} {s' : CSt} {w' : World} (h : CD w K L s t) (hC : CacheAt w' K' s') (hc : K'.c = K.c) (hd : K'.d = K.d) (ho : ∀ k, K'.has k → K.has k ∨ w.heap.size ≤ k) (hf : Fr K.has w w') :
    CD w' K' L s' t ∧ GoesC w w' K L K' L := by
  refine ⟨⟨hC, h.disk.fr hf fun k hk hl => h.apart k hl hk, hd.trans h.d, fun k hk hl => ?_⟩, ⟨hc, rfl, ho, fun _ q => .inl q, hf.mono fun _ _ q => .inl q⟩⟩
  rcases ho k hk with q | q
  · exact h.apart k q hl
  · have := h.disk.lt k hl; omega
theorem info73 : ∃ j, Tryz.prog.info? 146 = some j := Option.isSome_iff_exists.1 (by kernel_rfl)
theorem neq30 (w : World) (a : Addr) : (binOp .neq 81 (.pointer (some a)) (.pointer (some a))).run Tryz.prog w = .ok (.bool false) w := by
  obtain ⟨j, hj⟩ := info73
  exact neq_same w a Tryz.underlying81 hj
theorem neq30n (w : World) (a : Addr) : (binOp .neq 81 (.pointer none) (.pointer (some a))).run Tryz.prog w = .ok (.bool true) w := neq_nil w a Tryz.underlying81
theorem noneC_yes {v : Value} (h : NoneAt w v) : Calls Tryz.prog 122 #[v] w fun e w' => e = .returned (.bool true) ∧ w' = w := by
  have hn := neq30n
  rcases h with rfl | ⟨g, rfl, c0⟩
  · go_enter Tryz.func122, Tryz.ntmps122
    go_wp2
    go_ret
    exact ⟨rfl, rfl⟩
  · go_enter Tryz.func122, Tryz.ntmps122
    go_wp2
    go_ret
    exact ⟨rfl, rfl⟩
theorem noneC_no {c : Nat} (c0 : w.cell? ⟨c, 0, none⟩ = some (ptr c)) : Calls Tryz.prog 122 #[ptr c] w fun e w' => e = .returned (.bool false) ∧ w' = w := by
  have hn := neq30
  unfold ptr at *
  go_enter Tryz.func122, Tryz.ntmps122
  go_wp2
  go_ret
  exact ⟨rfl, rfl⟩
theorem CacheAt.size_is (h : CacheAt w K s) : ∃ D, w.ownsMap Tryz.prog 3 valElem K.mb top D ∧ Views D (mapV K.M K.ns) ∧ Maps.size D = s.row.length := by
  obtain ⟨D, h1, h2⟩ := h.map
  exact ⟨D, h1, h2, by rw [h.len]; exact map_size h.posNd h1 h2⟩
/-- Whom a cache refuses. -/
theorem refusesC_of {L : Loc} {t : St} (h : CD w K L s t) (k : Int) : Calls Tryz.prog 101 #[ptr K.c, .int .i64 k] w fun e w' => e = .returned (.int .i64 (refV t k)) ∧ w' = w := by
  have h0 := noneC_no h.cache.c0
  have c1 := h.cache.c1
  have hs := stopped_of h.disk
  have hl := len_of h.disk
  rw [h.d] at c1
  clear h
  unfold ptr at *
  unfold refV
  cases hst : t.stopped
  · rw [hst] at hs
    by_cases h1 : k < 0
    · rw [if_neg (by simp), if_neg (by omega)]
      go_enter Tryz.func101, Tryz.ntmps101
      go_wp2_with (first | (go_at_call 122; refine h0.mono ?_; rintro e W ⟨rfl, rfl⟩) | (go_at_call 69; refine hs.mono ?_; rintro e W ⟨rfl, rfl⟩) | (go_at_call 56; refine hl.mono ?_; rintro e W ⟨rfl, rfl⟩))
      go_ret
      exact ⟨rfl, rfl⟩
    · by_cases h2 : t.n ≤ k
      · rw [if_neg (by simp), if_neg (by omega)]
        go_enter Tryz.func101, Tryz.ntmps101
        go_wp2_with (first | (go_at_call 122; refine h0.mono ?_; rintro e W ⟨rfl, rfl⟩) | (go_at_call 69; refine hs.mono ?_; rintro e W ⟨rfl, rfl⟩) | (go_at_call 56; refine hl.mono ?_; rintro e W ⟨rfl, rfl⟩))
        go_ret
        exact ⟨rfl, rfl⟩
      · rw [if_neg (by simp), if_pos (by omega)]
        go_enter Tryz.func101, Tryz.ntmps101
        go_wp2_with (first | (go_at_call 122; refine h0.mono ?_; rintro e W ⟨rfl, rfl⟩) | (go_at_call 69; refine hs.mono ?_; rintro e W ⟨rfl, rfl⟩) | (go_at_call 56; refine hl.mono ?_; rintro e W ⟨rfl, rfl⟩))
        go_ret
        exact ⟨rfl, rfl⟩
  · rw [hst] at hs
    rw [if_pos rfl]
    go_enter Tryz.func101, Tryz.ntmps101
    go_wp2_with (first | (go_at_call 122; refine h0.mono ?_; rintro e W ⟨rfl, rfl⟩) | (go_at_call 69; refine hs.mono ?_; rintro e W ⟨rfl, rfl⟩))
    go_ret
    exact ⟨rfl, rfl⟩
theorem refusesC_none {v : Value} (h : NoneAt w v) (k : Int) : Calls Tryz.prog 101 #[v, .int .i64 k] w fun e w' => e = .returned (.int .i64 1) ∧ w' = w := by
  have h0 := noneC_yes h
  go_enter Tryz.func101, Tryz.ntmps101
  go_wp2_with (first | (go_at_call 122; refine h0.mono ?_; rintro e W ⟨rfl, rfl⟩))
  go_ret
  exact ⟨rfl, rfl⟩
end Go.Proofs.YtiadlcjdpbkbkaaGreatD
/- A holding as it is made, and a cache as New makes it; no condition. -/
namespace Go.Proofs.YtiadlcjdpbkbkaaGreatD
open Go.RowKit Go.Maps

def nilp : Value := .pointer none
theorem info98 : (Tryz.prog.info? 143).map (fun i => (i.zero, i.size)) = some (some (.agg (rowV 0 false nilp nilp nought)), 1028) := by kernel_rfl
theorem zero98 : ∀ w, (zeroValue 143).run Tryz.prog w = .ok (.agg (rowV 0 false nilp nilp nought)) w := (zero_of_info info98).1
theorem size98 : (Tryz.prog.info? 143).map (·.size) = some 1028 := (zero_of_info info98).2
theorem built98 (u : World) : (Instr.build 143 #[]).run Tryz.prog u = .ok (.agg (rowV 0 false nilp nilp nought)) u := by
  have z := zero98
  generalize rowV 0 false nilp nilp nought = Z at *
  simp [Instr.build, z, run_underlying Tryz.underlying143, Instr.fill, Value.cells]
theorem rowV_set0 (k k' : Int) (b : Bool) (p q : Value) (f : Nat → Int) : (rowV k b p q f).setIfInBounds 0 (.int .i64 k') = rowV k' b p q f := by unfold rowV; rw [List.setIfInBounds_toArray]; rfl
theorem rowV_get2 (k : Int) (b : Bool) (p q : Value) (f : Nat → Int) : (rowV k b p q f)[2]? = some p := by
  unfold rowV
  generalize (blk f).toList = l
  rfl
theorem rowV_get3 (k : Int) (b : Bool) (p q : Value) (f : Nat → Int) : (rowV k b p q f)[3]? = some q := by
  unfold rowV
  generalize (blk f).toList = l
  rfl
theorem built98k (k : Int) (u : World) : (Instr.build 143 #[(0, .int .i64 k)]).run Tryz.prog u = .ok (.agg (rowV k false nilp nilp nought)) u := by
  have z := zero98
  have hs := rowV_set0 0 k false nilp nilp nought
  have hz := rowV_size 0 false nilp nilp nought
  have hne : rowV 0 false nilp nilp nought ≠ #[] := fun q => by rw [q] at hz; simp at hz
  generalize rowV 0 false nilp nilp nought = Z at *
  generalize rowV k false nilp nilp nought = Y at *
  simp [Instr.build, z, run_underlying Tryz.underlying143, Instr.fill, Value.cells, hs, hne]
section
variable {ops : Array Oper} {rest : List Oper} {o : Oper} {a : Act} {w : World} {Q : Exit → Act → World → Prop}
theorem wpList_build98 (hgd : o.guard = none) (ho : o.op = .build 143 #[]) {Z : Array Value}
    (hb : ∀ u, (Instr.build 143 #[]).run Tryz.prog u = .ok (.agg Z) u) (h : wpList Tryz.prog ops Q rest (a.put o.dst (.agg Z)) w) : wpList Tryz.prog ops Q (o :: rest) a w :=
  wpList_plain hgd fun _ hK => by
    have e : (execOp a.eval o).run Tryz.prog w = .ok (.value (.agg Z)) w := by
      unfold execOp
      simp only [ho, Array.map_empty, Sem.run_bind]
      simp only [hb, Result.andThen_ok, Sem.run_pure]
    unfold Oper.wp
    rw [e]
    exact hK _ _ h
theorem wpList_build98k (hgd : o.guard = none) (x : Operand) (ho : o.op = .build 143 #[(0, x)]) (k : Int) (hx : a.eval x = .int .i64 k) {Z : Array Value}
    (hb : ∀ u, (Instr.build 143 #[(0, .int .i64 k)]).run Tryz.prog u = .ok (.agg Z) u) (h : wpList Tryz.prog ops Q rest (a.put o.dst (.agg Z)) w) : wpList Tryz.prog ops Q (o :: rest) a w :=
  wpList_plain hgd fun _ hK => by
    have e : (execOp a.eval o).run Tryz.prog w = .ok (.value (.agg Z)) w := by simp [execOp, ho, hx, hb]
    unfold Oper.wp
    rw [e]
    exact hK _ _ h
end
variable {w : World} {L : Loc} {t : St}
def newK (w : World) (d : Nat) : KLoc := ⟨w.heap.size + 2, d, w.heap.size, w.heap.size + 1, [], fun _ => ⟨0, false, w.heap.size, w.heap.size, nought⟩⟩
def newC (size : Int) : CSt := ⟨size, []⟩
theorem newC_at {size : Int} (hs : 1 ≤ size ∧ size ≤ 4096) {Z : Array Value} (hZ : Z = rowV 0 false (ptr w.heap.size) (ptr w.heap.size) nought) :
    CacheAt (((w.alloc (.cells Z 143)).alloc (.map #[] 0)).alloc (.cells #[ptr (w.heap.size + 2), ptr L.d, .int .i64 size, .map (some (w.heap.size + 1)), ptr w.heap.size, .int .i64 0] 146)) (newK w L.d) (newC size) := by
  subst hZ
  have h1 := heap_alloc_new w (.cells (rowV 0 false (ptr w.heap.size) (ptr w.heap.size) nought) 143)
  have h2 := heap_alloc_new ((w.alloc (.cells (rowV 0 false (ptr w.heap.size) (ptr w.heap.size) nought) 143)).alloc (.map #[] 0)) (.cells #[ptr (w.heap.size + 2), ptr L.d, .int .i64 size, .map (some (w.heap.size + 1)), ptr w.heap.size, .int .i64 0] 146)
  have hm := MapIs.made (P := Tryz.prog) (k := 3) (w.alloc (.cells (rowV 0 false (ptr w.heap.size) (ptr w.heap.size) nought) 143))
  have e1 : ∀ (u : World) (x : Obj), (u.alloc x).heap.size = u.heap.size + 1 := fun u x => by simp
  rw [e1, e1] at h2
  rw [e1] at hm
  refine ⟨h2, ?_, ?_, ⟨rfl, rfl⟩, by simp [newK], rfl, ⟨hs, by simp [newC]; omega, by simp [newC], by simp [newC]⟩⟩
  · exact hm.kept ((below_new _ _).block _ (by simp))
  · rintro g (rfl | hg)
    · exact heap_kept (heap_kept h1 (below_new _ _)) (below_new _ _)
    · simp [newK] at hg
set_option maxHeartbeats 1000000 in
theorem newC_ok (hD : DiskAt w L t) {size : Int} (hs : 1 ≤ size ∧ size ≤ 4096) :
    Calls Tryz.prog 76 #[ptr L.d, .int .i64 size] w fun e w' => e = .returned (.tuple #[ptr (newK w L.d).c, .int .i64 0]) ∧ CacheAt w' (newK w L.d) (newC size) ∧ Below w.heap.size w w' := by
  have hl := len_of hD
  have hn := hD.ok.n
  have hb := built98
  have hmm := @run_makeMap Tryz.prog
  have hz0 : ¬ t.n = 0 := by omega
  have s2 := rowV_set2 0 false nilp nilp (ptr w.heap.size) nought
  have s3 := rowV_set3 0 false (ptr w.heap.size) nilp (ptr w.heap.size) nought
  have g2 := rowV_get2 0 false nilp nilp nought
  have g3 := rowV_get3 0 false (ptr w.heap.size) nilp nought
  have HA : Hid (∀ Z, Z = rowV 0 false (ptr w.heap.size) (ptr w.heap.size) nought → CacheAt (((w.alloc (.cells Z 143)).alloc (.map #[] 0)).alloc (.cells #[ptr (w.heap.size + 2), ptr L.d, .int .i64 size, .map (some (w.heap.size + 1)), ptr w.heap.size, .int .i64 0] 146)) (newK w L.d) (newC size)) := fun Z hZ => newC_at hs hZ
  clear hD
  generalize h0 : rowV 0 false nilp nilp nought = Z at *
  generalize h1 : rowV 0 false (ptr w.heap.size) nilp nought = Z1 at *
  generalize h2 : rowV 0 false (ptr w.heap.size) (ptr w.heap.size) nought = Z2 at *
  have HZ := HA.out Z2 rfl
  have HB : Hid (CacheAt _ _ _) := HZ
  clear HZ HA h0 h1 h2
  unfold ptr nilp at *
  go_enter Tryz.func76, Tryz.ntmps76
  go_wp2_with (first | (go_at_call 56; refine hl.mono ?_; rintro e W ⟨rfl, rfl⟩) | refine wpList_build98 rfl rfl hb ?_)
  go_ret2
  refine ⟨rfl, HB.out, ?_⟩
  exact (((Below.refl _ _).alloc (Nat.le_refl _) _).alloc (by simp) _).alloc (by simp; omega) _
end Go.Proofs.YtiadlcjdpbkbkaaGreatD

/- A place is made in a cache: the first that is not held fast leaves; no condition. -/
namespace Go.Proofs.YtiadlcjdpbkbkaaGreatD
open Go.RowKit Go.Maps

def placeR (n : Int) (r : List Hld) : List Hld := if (r.length : Int) < n then r else r.eraseP (fun h => !h.fast)
theorem split_fast (M : Nat → Nd) : ∀ ns : List Nat, fastN (ns.map (hld M)) < ns.length → ∃ p g q, ns = p ++ g :: q ∧ (∀ a ∈ p, (M a).fast = true) ∧ (M g).fast = false
  | [], h => by simp [fastN] at h
  | a :: t, h => by
    cases ha : (M a).fast
    · exact ⟨[], a, t, rfl, by simp, ha⟩
    · have h' : fastN (t.map (hld M)) < t.length := by
        simp only [fastN, List.map_cons, List.countP_cons, List.length_cons, hld, ha, if_pos] at h ⊢
        omega
      obtain ⟨p, g, q, h1, h2, h3⟩ := split_fast M t h'
      refine ⟨a :: p, g, q, by rw [h1]; rfl, ?_, h3⟩
      intro x hx
      rcases List.mem_cons.1 hx with rfl | hx
      · exact ha
      · exact h2 x hx
theorem eraseP_split {α : Type} {f : α → Bool} {p q : List α} {x : α} (hp : ∀ a ∈ p, f a = false) (hx : f x = true) : (p ++ x :: q).eraseP f = p ++ q := by
  induction p with
  | nil => simp [hx]
  | cons a t ih =>
    have ha := hp a (by simp)
    simp only [List.cons_append, List.eraseP, ha]
    rw [ih fun b hb => hp b (List.mem_cons_of_mem _ hb)]
    rfl
/-- A holding is out of the row and out of the map. -/
theorem CacheAt.out {w w' : World} {K : KLoc} {s : CSt} (h : CacheAt w K s) {p q : List Nat} {g : Nat} (hns : K.ns = p ++ g :: q) {s' : CSt} (hsz : s'.size = s.size) (hrow : s'.row = (p ++ q).map (hld K.M))
    (hc : w'.heap[K.c]? = some (.cells (ckRow K s') 146)) (hm : MapIs Tryz.prog 3 w' K.mb (fun y => if y = posOf K.M g then none else mapV K.M K.ns y))
    (hN : Nodes w' (leaveM K.M g) (fun k => k = K.e ∨ k ∈ K.ns)) : CacheAt w' { K with ns := p ++ q, M := leaveM K.M g } s' := by
  have hpos : ∀ x, posOf (leaveM K.M g) x = posOf K.M x := fun x => (leave_rest K.M g x).1
  have hh : ∀ x, hld (leaveM K.M g) x = hld K.M x := fun x => by
    obtain ⟨a1, a2, a3⟩ := leave_rest K.M g x
    unfold hld
    rw [a1, a2, a3]
  have hsub : ∀ x, x ∈ p ++ q → x ∈ K.ns := fun x hx => by rw [hns]; simp at hx ⊢; rcases hx with h | h <;> simp [h]
  have hnd := h.nd
  rw [hns] at hnd
  have hsubl : (p ++ q).Sublist (p ++ g :: q) := List.Sublist.append_left (List.sublist_cons_self ..) _
  refine ⟨hc, ?_, hN.mono fun x hx => hx.imp id (hsub x), ?_, ?_, ?_, ?_⟩
  · rw [hns] at hm
    have := mapV_del (M := K.M) (M' := leaveM K.M g) (p := p) (q := q) (g := g) (by rw [← hns]; exact h.posNd) fun x _ => hpos x
    rw [this] at hm
    exact hm
  · exact leave_seg hnd (by rw [← hns]; exact h.ring)
  · exact hnd.sublist (hsubl.cons_cons K.e)
  · rw [hrow]
    exact List.map_congr_left fun x _ => (hh x).symm
  · have hrs : s'.row.Sublist s.row := by rw [hrow, h.holds, hns]; exact hsubl.map _
    refine ⟨by rw [hsz]; exact h.ok.size, ?_, fun x hx => h.ok.pos x (hrs.subset hx), h.ok.nodup.sublist (hrs.map _)⟩
    have := hrs.length_le
    have := h.ok.len
    rw [hsz]
    omega
variable {w : World} {K : KLoc} {s : CSt}
set_option maxRecDepth 20000 in
set_option maxHeartbeats 2000000 in
theorem place_of (h : CacheAt w K s) (hf : (s.row.length : Int) < s.size ∨ fastN s.row < s.row.length) :
    Calls Tryz.prog 120 #[ptr K.c] w fun e w' => e = .returned (.tuple #[]) ∧ ∃ K', CacheAt w' K' { s with row := placeR s.size s.row } ∧ K'.c = K.c ∧ K'.d = K.d ∧ K'.e = K.e ∧ K'.mb = K.mb ∧ (∀ k ∈ K'.ns, k ∈ K.ns) ∧ Fr K.has w w' := by
  obtain ⟨D, hown, hV, hsz⟩ := h.size_is
  have c2 := h.c2
  have c3 := h.c3
  have c4 := h.c4
  have hD : w.drew.ownsMap Tryz.prog 3 valElem K.mb top D := hown
  unfold placeR
  by_cases hlt : (s.row.length : Int) < s.size
  · rw [if_pos hlt]
    have H : Hid (CacheAt w.drew K s) := h.fr (Fr.drew (T := fun _ => False) w) fun _ _ q => q
    have hlen := fun ty => hD.len Tryz.underlying144 ty
    rw [hsz] at hlen
    clear h hf hD hown
    unfold ptr at *
    go_enter Tryz.func120, Tryz.ntmps120
    go_wp2_with (fail)
    go_region
    go_wp2
    refine bodyPost_ret (results_none rfl _ _ _) rfl ?_
    exact ⟨rfl, K, H.out, rfl, rfl, rfl, rfl, fun _ q => q, Fr.drew w⟩
  · rw [if_neg hlt]
    have hfr : fastN s.row < s.row.length := hf.resolve_left hlt
    rw [h.holds] at hfr
    obtain ⟨p, g, q, hns, hp, hg⟩ := split_fast K.M K.ns (by simpa using hfr)
    have hgm : g ∈ K.ns := by rw [hns]; simp
    have hlen := fun ty => hD.len Tryz.underlying144 ty
    rw [hsz] at hlen
    have hring := h.ring
    have e3 : w.drew.cell? ⟨K.e, 3, none⟩ = some (ptr (K.M K.e).nx) := (h.nodes K.e (.inl rfl)).c3
    rw [seg_first hring] at e3
    have c4' : w.drew.cell? ⟨K.c, 4, none⟩ = some (ptr K.e) := c4
    have hfx : ∀ x ∈ K.ns, w.drew.cell? ⟨x, 1, none⟩ = some (.bool (K.M x).fast) ∧ w.drew.cell? ⟨x, 3, none⟩ = some (ptr (K.M x).nx) := fun x hx => ⟨(h.nodes x (.inr hx)).c1, (h.nodes x (.inr hx)).c3⟩
    have hnx : ∀ a x y b, K.ns = a ++ x :: y :: b → (K.M x).nx = y := fun a x y b e => by
      rw [e] at hring
      exact ((seg_append _ _ _ _ _ _).1 hring).2.1.1
    have HX : Hid (∀ x ∈ K.ns, w.drew.cell? ⟨x, 1, none⟩ = some (.bool (K.M x).fast) ∧ w.drew.cell? ⟨x, 3, none⟩ = some (ptr (K.M x).nx)) := hfx
    have HNX : Hid (∀ a x y b, K.ns = a ++ x :: y :: b → (K.M x).nx = y) := hnx
    have HP : Hid (∀ a ∈ p, (K.M a).fast = true) := hp
    have HNS : Hid (K.ns = p ++ g :: q) := hns
    have hstart : ∃ a x b, p ++ [g] = a ++ x :: b ∧ (K.ns ++ [K.e]).headD 0 = x ∧ b.length = p.length := by
      rw [hns]
      cases p with
      | nil => exact ⟨[], g, [], rfl, rfl, rfl⟩
      | cons a t => exact ⟨[], a, t ++ [g], rfl, rfl, by simp⟩
    have HST : Hid (∃ a x b, p ++ [g] = a ++ x :: b ∧ (K.ns ++ [K.e]).headD 0 = x ∧ b.length = p.length) := hstart
    have near := seg_near (p := p) (q := q) (h := g) (e := K.e) (M := K.M) (by rw [← hns]; exact hring)
    have HC : Hid (CacheAt w.drew K s) := h.fr (Fr.drew (T := fun _ => False) w) fun _ _ q => q
    have hnp : (K.M g).pv = K.e ∨ (K.M g).pv ∈ K.ns := by
      rw [hns]
      rcases List.mem_cons.1 near.1 with q | q
      · exact .inl q
      · exact .inr (by simp [q])
    have hnn : (K.M g).nx = K.e ∨ (K.M g).nx ∈ K.ns := by
      rw [hns]
      rcases List.mem_append.1 near.2 with q | q
      · exact .inr (by simp [q])
      · exact .inl (by simpa using q)
    have HL : Hid (Calls Tryz.prog 119 #[ptr g] w.drew fun e w' => e = .returned (.tuple #[]) ∧ Nodes w' (leaveM K.M g) (fun k => k = K.e ∨ k ∈ K.ns) ∧ Fr (fun k => k = (K.M g).pv ∨ k = (K.M g).nx) w.drew w') :=
      leave_of HC.out.nodes (.inr hgm) hnp hnn
    clear h hf hD hown hfr hfx hnx hp hns hstart near hring hsz hV
    generalize (K.ns ++ [K.e]).headD 0 = x0 at *
    unfold ptr at c2 c3 c4 c4' e3
    have hlt' : ¬ (s.row.length : Int) < s.size := hlt
    unfold ptr
    go_enter Tryz.func120, Tryz.ntmps120
    go_wp2_with (fail)
    go_region
    clear hlen
    generalize hV : w.drew = V at *
    go_wp2_with (fail)
    go_loopg [2] p.length (fun k s2 wx => ∃ a x b, p ++ [g] = a ++ x :: b ∧ s2 = .pointer (some ⟨x, 0, none⟩) ∧ k = b.length ∧ wx = V)
    case atStart =>
      obtain ⟨a, x, b, h1, h2, h3⟩ := HST.out
      exact ⟨a, x, b, h1, by rw [h2], h3.symm, rfl⟩
    case round =>
      obtain ⟨a, x, b, hab, rfl, rfl, rfl⟩ := hrel
      cases b with
      | cons y b' =>
        have e1 : p = a ++ x :: (y :: b').dropLast := by
          have := congrArg List.dropLast hab
          simpa [List.dropLast_append_of_ne_nil] using this
        have hxp : x ∈ p := by rw [e1]; simp
        have hxn : x ∈ K.ns := by rw [HNS.out]; simp [hxp]
        obtain ⟨x1, x3⟩ := HX.out x hxn
        rw [HP.out x hxp] at x1
        have e2 : K.ns = a ++ x :: y :: (b' ++ q) := by
          rw [HNS.out, show p ++ g :: q = (p ++ [g]) ++ q by simp, hab]
          simp
        rw [HNX.out a x y _ e2] at x3
        unfold ptr at x3
        clear e1 e2 hxp hxn
        go_wp2
        go_roundg b'.length
        case measure => simp
        case rel => exact ⟨a ++ [x], y, b', by rw [hab]; simp, rfl, rfl, rfl⟩
      | nil =>
        have hxg : x = g := by
          have := congrArg (fun l => l.getLast?) hab
          simpa using this.symm
        subst hxg
        obtain ⟨x1, _⟩ := HX.out x hgm
        rw [hg] at x1
        clear hab
        go_wp2_with (go_at_call 119; fail)
        refine HL.out.mono ?_
        rintro e W1 ⟨rfl, hN1, hF1⟩
        have hC := HC.out
        have hcn : K.c ≠ (K.M x).pv ∧ K.c ≠ (K.M x).nx := ⟨(hC.cne hnp).symm, (hC.cne hnn).symm⟩
        have hmn : K.mb ≠ (K.M x).pv ∧ K.mb ≠ (K.M x).nx := ⟨(hC.mne hnp).symm, (hC.mne hnn).symm⟩
        have d3 : W1.cell? ⟨K.c, 3, none⟩ = some (.map (some K.mb)) := by
          rw [Joins.cell_of_block ((hF1.block K.c (hC.lt _ (.inl rfl)) (by rintro (q | q); exact hcn.1 q; exact hcn.2 q)).trans hC.row)]
          rfl
        have x0' : W1.cell? ⟨x, 0, none⟩ = some (.int .i64 (posOf K.M x)) := by
          have := (hN1 x (.inr hgm)).c0
          rw [(leave_rest K.M x x).1] at this
          exact this
        have hmW : MapIs Tryz.prog 3 W1.drew K.mb (mapV K.M K.ns) := hC.map.kept (hF1.block K.mb (hC.lt _ (.inr (.inl rfl))) (by rintro (q | q); exact hmn.1 q; exact hmn.2 q))
        have hposW : (Lit.int .i64 (posOf K.M x)).wf = true := inTop.wf (hC.ok.pos (hld K.M x) (by rw [hC.holds]; exact List.mem_map.2 ⟨x, hgm, rfl⟩)).1
        have HF : Hid (∀ w', MapIs Tryz.prog 3 w' K.mb (fun y => if y = posOf K.M x then none else mapV K.M K.ns y) → W1.drew.grownBy w' (some K.mb) →
            ∃ K', CacheAt w' K' { s with row := List.eraseP (fun h => !h.fast) s.row } ∧ K'.c = K.c ∧ K'.d = K.d ∧ K'.e = K.e ∧ K'.mb = K.mb ∧ (∀ k ∈ K'.ns, k ∈ K.ns) ∧ Fr K.has w w') := by
          intro w' hm' hg'
          have f2 : Fr (fun i => i = K.mb) W1 w' := (Fr.drew W1).trans ((Fr.ofGrown hg').mono fun i _ q => by injection q with q; exact q.symm) fun _ _ q => q
          have f3 : Fr K.has wr w' := (hF1.mono (T' := K.has) fun i _ q => by
            rcases q with rfl | rfl
            · exact .inr (.inr hnp)
            · exact .inr (.inr hnn)).trans f2 fun i _ q => by rw [q]; exact .inr (.inl rfl)
          have f4 : Fr K.has w w' := by
            have := (Fr.drew (T := K.has) w)
            rw [hV] at this
            exact this.trans f3 fun _ _ q => q
          have hN2 : Nodes w' (leaveM K.M x) (fun k => k = K.e ∨ k ∈ K.ns) := hN1.kept fun k hk => f2.block k (by have := hC.lt k (.inr (.inr hk)); have := hF1.size; omega) (hC.mne hk)
          have hrow : s.row = p.map (hld K.M) ++ hld K.M x :: q.map (hld K.M) := by rw [hC.holds, HNS.out]; simp
          have her : List.eraseP (fun h => !h.fast) s.row = (p ++ q).map (hld K.M) := by
            rw [hrow, eraseP_split (x := hld K.M x) (fun a ha => by
              obtain ⟨y, hy, rfl⟩ := List.mem_map.1 ha
              show (!(K.M y).fast) = false
              rw [HP.out y hy]; rfl) (by show (!(K.M x).fast) = true; rw [hg]; rfl), List.map_append]
          have hfn : fastN (List.eraseP (fun h => !h.fast) s.row) = fastN s.row := by
            rw [her, hrow]
            have : (hld K.M x).fast = false := hg
            simp [fastN, List.countP_append, this]
          refine ⟨_, hC.out HNS.out (s' := { s with row := List.eraseP (fun h => !h.fast) s.row }) rfl her ?_ hm' hN2, rfl, rfl, rfl, rfl, ?_, f4⟩
          · have e1 : ckRow K { s with row := List.eraseP (fun h => !h.fast) s.row } = ckRow K s := by unfold ckRow; simp only [hfn]
            rw [e1]
            refine (f2.block K.c (by have := hC.lt _ (.inl rfl); have := hF1.size; omega) hC.cm).trans ?_
            exact (hF1.block K.c (hC.lt _ (.inl rfl)) (by rintro (q | q); exact hcn.1 q; exact hcn.2 q)).trans hC.row
          · intro k hk
            rw [HNS.out]
            have hk' : k ∈ p ++ q := hk
            simp at hk' ⊢
            rcases hk' with h | h <;> simp [h]
        clear hN1 hF1 HL HC hC HX HNX HST HP HNS hV e3 c4' hcn hmn
        go_wp2_with (fail)
        go_still_tail 8, (by kernel_rfl)
        change wpList _ _ _ _ _ (World.drew _)
        refine wpList_delM rfl (.tmp 33) (.tmp 37) 144 rfl 141 Tryz.underlying3 keyed3 Tryz.underlying144 K.mb _ rfl hmW (posOf K.M x) hposW rfl ?_
        intro w' hm' hg'
        have HR := HF.out w' hm' hg'
        have HR' : Hid _ := HR
        clear HF HR hm' hg' hmW
        go_wp2
        go_end0
        exact ⟨rfl, HR'.out⟩
end Go.Proofs.YtiadlcjdpbkbkaaGreatD
/- A block of a cache is used: it is the last of the row from then on; no condition. -/
namespace Go.Proofs.YtiadlcjdpbkbkaaGreatD
open Go.RowKit Go.Maps

theorem setM_self (M : Nat → Nd) (g : Nat) : setM M g (M g) = M := by
  funext k
  unfold setM
  split
  · next h => rw [h]
  · rfl
theorem setM_other (M : Nat → Nd) (g : Nat) (n : Nd) {k : Nat} (h : k ≠ g) : setM M g n k = M k := by unfold setM; rw [if_neg h]
theorem setM_same (M : Nat → Nd) (g : Nat) (n : Nd) : setM M g n g = n := by unfold setM; rw [if_pos rfl]
/-- A cache whose row has got one more, the last. -/
theorem cache_stood {w : World} {K : KLoc} {s : CSt} {M : Nat → Nd} {ns : List Nat} {g : Nat} {n : Nd} (hnd : (g :: K.e :: ns).Nodup) (hseg : seg (Lnk M) K.e ns K.e)
    (hc : w.heap[K.c]? = some (.cells (ckRow K s) 146)) (hm : MapIs Tryz.prog 3 w K.mb (mapV (standM (setM M g n) g K.e) (ns ++ [g])))
    (hN : Nodes w (standM (setM M g n) g K.e) (fun k => k = g ∨ k = K.e ∨ k ∈ ns)) (hrow : s.row = ns.map (hld M) ++ [⟨n.pos, n.fast, n.dat⟩]) (hok : COk s) :
    CacheAt w { K with ns := ns ++ [g], M := standM (setM M g n) g K.e } s := by
  have hgn : ∀ x, x ∈ K.e :: ns → x ≠ g := fun x hx e => (List.nodup_cons.1 hnd).1 (e ▸ hx)
  have hh : ∀ x, hld (standM (setM M g n) g K.e) x = hld (setM M g n) x := fun x => by
    obtain ⟨a1, a2, a3⟩ := stand_rest (setM M g n) g K.e x
    unfold hld
    rw [a1, a2, a3]
  refine ⟨hc, hm, hN.mono fun x hx => ?_, stand_seg hnd ?_, ?_, ?_, hok⟩
  · rcases hx with h | h
    · exact .inr (.inl h)
    · have h : x ∈ ns ++ [g] := h
      simp at h
      rcases h with h | h
      · exact .inr (.inr h)
      · exact .inl h
  · refine seg_mono _ _ _ hseg fun x y hx hy hl => ?_
    have hy' : y ∈ K.e :: ns := by simp at hy ⊢; rcases hy with h | h <;> simp [h]
    unfold Lnk
    rw [setM_other _ _ _ (hgn x hx), setM_other _ _ _ (hgn y hy')]
    exact hl
  · have : (ns ++ [g]).Perm (g :: ns) := List.perm_append_comm (l₁ := ns) (l₂ := [g])
    have h2 : (K.e :: (ns ++ [g])).Perm (K.e :: g :: ns) := this.cons _
    exact ((h2.trans (List.Perm.swap ..)).nodup_iff).2 hnd
  · rw [hrow, List.map_append]
    congr 1
    · refine List.map_congr_left fun x hx => ?_
      rw [hh x]
      unfold hld
      rw [setM_other _ _ _ (hgn x (List.mem_cons_of_mem _ hx))]
    · show _ = [hld (standM (setM M g n) g K.e) g]
      rw [hh g]
      unfold hld
      rw [setM_same]
variable {w : World} {K : KLoc} {L : Loc} {s : CSt} {t : St}
theorem use_bad (h : CD w K L s t) {k : Int} (hb : refV t k ≠ 0) : Calls Tryz.prog 100 #[ptr K.c, .int .i64 k] w fun e w' => e = .returned (.tuple #[nilp, .bool false, .int .i64 (refV t k)]) ∧ w' = w := by
  have hR := refusesC_of h k
  have hne : (refV t k != 0) = true := by simp [hb]
  clear h hb
  generalize refV t k = r at *
  unfold ptr nilp at *
  go_enter Tryz.func100, Tryz.ntmps100
  go_wp2_with (first | (go_at_call 101; refine hR.mono ?_; rintro e W ⟨rfl, rfl⟩))
  go_ret3
  exact ⟨rfl, rfl⟩
theorem use_none {v : Value} (h : NoneAt w v) (k : Int) : Calls Tryz.prog 100 #[v, .int .i64 k] w fun e w' => e = .returned (.tuple #[nilp, .bool false, .int .i64 1]) ∧ w' = w := by
  have hR := refusesC_none h k
  clear h
  unfold nilp at *
  go_enter Tryz.func100, Tryz.ntmps100
  go_wp2_with (first | (go_at_call 101; refine hR.mono ?_; rintro e W ⟨rfl, rfl⟩))
  go_ret3
  exact ⟨rfl, rfl⟩
theorem zero71 (u : World) : (zeroValue 141).run Tryz.prog u = .ok nilp u := by
  have h : (Tryz.prog.info? 141).map (fun i => (i.zero, i.size)) = some (some nilp, 1) := by kernel_rfl
  exact (zero_of_info h).1 u
set_option maxRecDepth 20000 in
set_option maxHeartbeats 2000000 in
/-- The block is held. -/
theorem use_held (h : CD w K L s t) {k : Int} (hb : refV t k = 0) {p q : List Nat} {g : Nat} (hns : K.ns = p ++ g :: q) (hg : posOf K.M g = k) :
    Calls Tryz.prog 100 #[ptr K.c, .int .i64 k] w fun e w' => e = .returned (.tuple #[ptr g, .bool false, .int .i64 0]) ∧
      ∃ M', CacheAt w' { K with ns := (p ++ q) ++ [g], M := M' } { s with row := (p ++ q).map (hld K.M) ++ [hld K.M g] } ∧ hld M' g = hld K.M g ∧ Fr K.has w w' := by
  have hR := refusesC_of h k
  rw [hb] at hR
  have hC := h.cache
  have hgm : g ∈ K.ns := by rw [hns]; simp
  have hwf : (Lit.int .i64 k).wf = true := inTop.wf (inTop_of h.disk.ok (refV_ok hb).2)
  have hmv : mapV K.M K.ns k = some (ptr g) := by rw [← hg]; exact mapV_some hC.posNd hgm
  have hmap := hC.map
  have c3 := hC.c3
  have c4 := hC.c4
  have near := seg_near (p := p) (q := q) (h := g) (e := K.e) (M := K.M) (by rw [← hns]; exact hC.ring)
  have hnp : (K.M g).pv = K.e ∨ (K.M g).pv ∈ K.ns := by
    rw [hns]
    rcases List.mem_cons.1 near.1 with q | q
    · exact .inl q
    · exact .inr (by simp [q])
  have hnn : (K.M g).nx = K.e ∨ (K.M g).nx ∈ K.ns := by
    rw [hns]
    rcases List.mem_append.1 near.2 with q | q
    · exact .inr (by simp [q])
    · exact .inl (by simpa using q)
  have hL := leave_of hC.nodes (.inr hgm) hnp hnn
  have hnd := hC.nd
  rw [hns] at hnd
  have hnd2 : (g :: K.e :: (p ++ q)).Nodup := by
    have e1 : (K.e :: (p ++ g :: q)).Perm (g :: K.e :: (p ++ q)) := (List.perm_middle.cons K.e).trans (List.Perm.swap ..)
    exact (e1.nodup_iff).1 hnd
  have hseg := leave_seg hnd (by rw [← hns]; exact hC.ring)
  have z71 := zero71
  have HS : Hid (∀ W, Nodes W (leaveM K.M g) (fun k => k = K.e ∨ k ∈ K.ns) → Fr (fun k => k = (K.M g).pv ∨ k = (K.M g).nx) w W →
      W.cell? ⟨K.c, 4, none⟩ = some (ptr K.e) ∧ Calls Tryz.prog 121 #[ptr g, ptr K.e] W fun x w' => x = .returned (.tuple #[]) ∧
      ∃ M', CacheAt w' { K with ns := (p ++ q) ++ [g], M := M' } { s with row := (p ++ q).map (hld K.M) ++ [hld K.M g] } ∧ hld M' g = hld K.M g ∧ Fr K.has w w') := by
    intro W hN hF
    have hcn : K.c ≠ (K.M g).pv ∧ K.c ≠ (K.M g).nx := ⟨(hC.cne hnp).symm, (hC.cne hnn).symm⟩
    have hmn : K.mb ≠ (K.M g).pv ∧ K.mb ≠ (K.M g).nx := ⟨(hC.mne hnp).symm, (hC.mne hnn).symm⟩
    have hcW : W.heap[K.c]? = some (.cells (ckRow K s) 146) := (hF.block K.c (hC.lt _ (.inl rfl)) (by rintro (q | q); exact hcn.1 q; exact hcn.2 q)).trans hC.row
    have hmW : MapIs Tryz.prog 3 W K.mb (mapV K.M K.ns) := hC.map.kept (hF.block K.mb (hC.lt _ (.inr (.inl rfl))) (by rintro (q | q); exact hmn.1 q; exact hmn.2 q))
    refine ⟨by rw [Joins.cell_of_block hcW]; rfl, ?_⟩
    have hsub : ∀ x, x ∈ p ++ q → x ∈ K.ns := fun x hx => by rw [hns]; simp at hx ⊢; rcases hx with h | h <;> simp [h]
    have hgS : ¬ (g = K.e ∨ g ∈ p ++ q) := by
      rintro (e | e)
      · exact (List.nodup_cons.1 hnd2).1 (by rw [e]; simp)
      · exact (List.nodup_cons.1 hnd2).1 (List.mem_cons_of_mem _ e)
    have hlast : (leaveM K.M g K.e).pv = K.e ∨ (leaveM K.M g K.e).pv ∈ p ++ q := by
      rcases List.mem_cons.1 (seg_last hseg) with h | h
      · exact .inl h
      · exact .inr h
    have hst := stand_of (S := fun x => x = K.e ∨ x ∈ p ++ q) (hN.mono fun x hx => hx.imp id (hsub x)) (h := g) (e := K.e) (n := leaveM K.M g g) hgS (.inl rfl) hlast (hN g (.inr hgm))
    refine hst.mono ?_
    rintro e w' ⟨rfl, hN2, hF2⟩
    have hF3 : Fr K.has w w' := (hF.mono (T' := K.has) fun i _ q => by
        rcases q with rfl | rfl
        · exact .inr (.inr hnp)
        · exact .inr (.inr hnn)).trans hF2 fun i _ q => by
      rcases q with rfl | rfl | rfl
      · exact .inr (.inr (.inr hgm))
      · exact .inr (.inr (.inl rfl))
      · exact .inr (.inr (hlast.imp id (hsub _)))
    have hT : ∀ x, (x = K.c ∨ x = K.mb) → ¬ (x = g ∨ x = K.e ∨ x = (leaveM K.M g K.e).pv) := by
      rintro x hx (e | e | e)
      · rcases hx with rfl | rfl
        · exact hC.cne (.inr hgm) e.symm
        · exact hC.mne (.inr hgm) e.symm
      · rcases hx with rfl | rfl
        · exact hC.cne (.inl rfl) e.symm
        · exact hC.mne (.inl rfl) e.symm
      · rcases hx with rfl | rfl
        · exact hC.cne (hlast.imp id (hsub _)) e.symm
        · exact hC.mne (hlast.imp id (hsub _)) e.symm
    have hsz := hF.size
    have hlr : ∀ x, hld (leaveM K.M g) x = hld K.M x := fun x => by
      obtain ⟨a1, a2, a3⟩ := leave_rest K.M g x
      unfold hld
      rw [a1, a2, a3]
    have hrow : s.row = p.map (hld K.M) ++ hld K.M g :: q.map (hld K.M) := by rw [hC.holds, hns]; simp
    have hperm : ((p ++ q).map (hld K.M) ++ [hld K.M g]).Perm s.row := by
      rw [hrow, List.map_append]
      refine (List.perm_append_comm).trans ?_
      exact (List.perm_middle (l₁ := p.map (hld K.M)) (l₂ := q.map (hld K.M)) (a := hld K.M g)).symm
    have hfn : fastN ((p ++ q).map (hld K.M) ++ [hld K.M g]) = fastN s.row := hperm.countP_eq _
    have hok : COk { s with row := (p ++ q).map (hld K.M) ++ [hld K.M g] } :=
      ⟨hC.ok.size, by show (((p ++ q).map (hld K.M) ++ [hld K.M g]).length : Int) ≤ s.size; rw [hperm.length_eq]; exact hC.ok.len, fun x hx => hC.ok.pos x (hperm.subset hx), ((hperm.map _).nodup_iff).2 hC.ok.nodup⟩
    have hpM : ∀ x, posOf (standM (setM (leaveM K.M g) g (leaveM K.M g g)) g K.e) x = posOf K.M x := fun x => by
      rw [setM_self]
      exact ((stand_rest (leaveM K.M g) g K.e x).1).trans (leave_rest K.M g x).1
    have hnsp : ((p ++ q) ++ [g]).Perm K.ns := by
      rw [hns]
      exact (List.perm_append_comm).trans (List.perm_middle (l₁ := p) (l₂ := q) (a := g)).symm
    refine ⟨rfl, standM (setM (leaveM K.M g) g (leaveM K.M g g)) g K.e, ?_, ?_, hF3⟩
    · refine cache_stood (K := K) (s := { s with row := (p ++ q).map (hld K.M) ++ [hld K.M g] }) hnd2 hseg ?_ ?_ hN2 ?_ hok
      · have e1 : ckRow K { s with row := (p ++ q).map (hld K.M) ++ [hld K.M g] } = ckRow K s := by unfold ckRow; simp only [hfn]
        rw [e1]
        exact (hF2.block K.c (by have := hC.lt _ (.inl rfl); omega) (hT _ (.inl rfl))).trans hcW
      · have e1 := mapV_ext (M := K.M) (M' := standM (setM (leaveM K.M g) g (leaveM K.M g g)) g K.e) (ns := K.ns) (ns' := (p ++ q) ++ [g]) hC.posNd
          (by rw [List.map_congr_left fun x _ => hpM x]; exact ((hnsp.map _).nodup_iff).2 hC.posNd) (fun x => (hnsp.mem_iff).symm) fun x _ => hpM x
        rw [← e1]
        exact hmW.kept (hF2.block K.mb (by have := hC.lt _ (.inr (.inl rfl)); omega) (hT _ (.inr rfl)))
      · show (p ++ q).map (hld K.M) ++ [hld K.M g] = _
        congr 1
        · exact List.map_congr_left fun x _ => (hlr x).symm
        · rw [← hlr g]
          rfl
    · rw [setM_self]
      obtain ⟨a1, a2, a3⟩ := stand_rest (leaveM K.M g) g K.e g
      rw [← hlr g]
      unfold hld
      rw [a1, a2, a3]
  clear hb h hC hns hg hgm near hnp hnn hnd hnd2 hseg
  generalize (p ++ q).map (hld K.M) ++ [hld K.M g] = R at *
  have HL : Hid (Calls Tryz.prog 119 #[ptr g] w fun e w' => e = .returned (.tuple #[]) ∧ Nodes w' (leaveM K.M g) (fun k => k = K.e ∨ k ∈ K.ns) ∧ Fr (fun k => k = (K.M g).pv ∨ k = (K.M g).nx) w w') := hL
  clear hL
  unfold nilp at z71
  unfold ptr at c3 c4 hmv hR ⊢
  go_enter Tryz.func100, Tryz.ntmps100
  go_wp2_with (first | (go_at_call 101; refine hR.mono ?_; rintro e W ⟨rfl, rfl⟩) | (refine wpList_lookM_some rfl (.tmp 18) (.tmp 19) 144 rfl 141 Tryz.underlying3 keyed3 Tryz.underlying144 rfl hmap (z71 _) k hwf rfl _ hmv ?_) | (go_at_call 119; fail))
  refine HL.out.mono ?_
  rintro e W1 ⟨rfl, hN1, hF1⟩
  obtain ⟨d4, hst⟩ := HS.out W1 hN1 hF1
  unfold ptr at d4 hst
  have HST : Hid (Calls Tryz.prog 121 _ W1 _) := hst
  clear HS HL hN1 hF1 hst hmap
  go_wp2_with (go_at_call 121; fail)
  refine HST.out.mono ?_
  rintro e W2 ⟨rfl, M', h1, h2, h3⟩
  have H1 : Hid (CacheAt W2 _ _) := h1
  have H2 : Hid (hld M' g = hld K.M g) := h2
  have H3 : Hid (Fr K.has _ W2) := h3
  clear h1 h2 h3 HST
  go_wp2
  go_ret3
  exact ⟨rfl, M', H1.out, H2.out, H3.out⟩
end Go.Proofs.YtiadlcjdpbkbkaaGreatD
/- A block that a cache does not hold is used: where all are held fast, refused; else a place is made; no condition. -/
namespace Go.Proofs.YtiadlcjdpbkbkaaGreatD
open Go.RowKit Go.Maps
variable {w : World} {K : KLoc} {L : Loc} {s : CSt} {t : St}

theorem fastN_le (r : List Hld) : fastN r ≤ r.length := List.countP_le_length
theorem placeR_sub (n : Int) (r : List Hld) : (placeR n r).Sublist r := by
  unfold placeR
  split
  · exact List.Sublist.refl _
  · exact List.eraseP_sublist
theorem placeR_len (ok : COk s) (hf : (fastN s.row : Int) ≠ s.size) : ((placeR s.size s.row).length : Int) + 1 ≤ s.size := by
  have h1 := fastN_le s.row
  have h2 := ok.len
  unfold placeR
  split
  · omega
  · have hlt : fastN s.row < s.row.length := by omega
    have hex : ∃ a ∈ s.row, (!a.fast) = true := by
      apply Classical.byContradiction
      intro hn
      have : fastN s.row = s.row.length := List.countP_eq_length.2 fun a ha => by
        cases hq : a.fast
        · exact absurd ⟨a, ha, by rw [hq]; rfl⟩ hn
        · rfl
      omega
    obtain ⟨a, ha, hp⟩ := hex
    rw [List.length_eraseP_of_mem ha hp]
    omega
set_option maxRecDepth 20000 in
set_option maxHeartbeats 2000000 in
theorem use_full (h : CD w K L s t) {k : Int} (hb : refV t k = 0) (hno : ∀ g ∈ K.ns, posOf K.M g ≠ k) (hf : (fastN s.row : Int) = s.size) :
    Calls Tryz.prog 100 #[ptr K.c, .int .i64 k] w fun e w' => e = .returned (.tuple #[nilp, .bool false, .int .i64 160]) ∧ w' = w.drew := by
  have hR := refusesC_of h k
  rw [hb] at hR
  have hwf : (Lit.int .i64 k).wf = true := inTop.wf (inTop_of h.disk.ok (refV_ok hb).2)
  have hmv := mapV_none hno
  have hmap := h.cache.map
  have c2 := h.cache.c2
  have c3 := h.cache.c3
  have c5 := h.cache.c5
  rw [hf] at c5
  have z71 := zero71
  clear h hb hno hf
  unfold nilp at z71 ⊢
  unfold ptr at c3 hR ⊢
  go_enter Tryz.func100, Tryz.ntmps100
  go_wp2_with (first | (go_at_call 101; refine hR.mono ?_; rintro e W ⟨rfl, rfl⟩) | (refine wpList_lookM_none rfl (.tmp 18) (.tmp 19) 144 rfl 141 Tryz.underlying3 keyed3 Tryz.underlying144 rfl hmap (z71 _) k hwf rfl hmv ?_))
  go_region
  go_wp2
  go_ret3
  exact ⟨rfl, rfl⟩
set_option maxRecDepth 20000 in
set_option maxHeartbeats 2000000 in
theorem use_new (h : CD w K L s t) {k : Int} (hb : refV t k = 0) (hno : ∀ g ∈ K.ns, posOf K.M g ≠ k) (hf : (fastN s.row : Int) ≠ s.size) :
    Calls Tryz.prog 100 #[ptr K.c, .int .i64 k] w fun e w' => ∃ K' g l, e = .returned (.tuple #[ptr g, .bool true, .int .i64 0]) ∧ K'.ns = l ++ [g] ∧
      CacheAt w' K' { s with row := placeR s.size s.row ++ [⟨k, false, nought⟩] } ∧ hld K'.M g = ⟨k, false, nought⟩ ∧ K'.c = K.c ∧ K'.d = K.d ∧ (∀ i, K'.has i → K.has i ∨ w.heap.size ≤ i) ∧ Fr K.has w w' := by
  have hR := refusesC_of h k
  rw [hb] at hR
  have hin := inTop_of h.disk.ok (refV_ok hb).2
  have hwf : (Lit.int .i64 k).wf = true := inTop.wf hin
  have hmv := mapV_none hno
  have hC := h.cache
  have hmap := hC.map
  have c2 := hC.c2
  have c3 := hC.c3
  have c5 := hC.c5
  have z71 := zero71
  have hle := fastN_le s.row
  have hlen := hC.ok.len
  have hne : ((fastN s.row : Int) == s.size) = false := by simp [hf]
  have HD : CacheAt w.drew K s := hC.fr (Fr.drew (T := fun _ => False) w) fun _ _ q => q
  have HPl : Hid (Calls Tryz.prog 120 #[ptr K.c] w.drew fun e w' => e = .returned (.tuple #[]) ∧ ∃ K', CacheAt w' K' { s with row := placeR s.size s.row } ∧ K'.c = K.c ∧ K'.d = K.d ∧ K'.e = K.e ∧ K'.mb = K.mb ∧ (∀ k ∈ K'.ns, k ∈ K.ns) ∧ Fr K.has w.drew w') :=
    place_of HD (by omega)
  have hpl := placeR_len hC.ok hf
  have hps := placeR_sub s.size s.row
  have hposR : ∀ x ∈ placeR s.size s.row, x.pos ≠ k := by
    intro x hx
    have hx' := hps.subset hx
    rw [hC.holds] at hx'
    obtain ⟨g, hg, rfl⟩ := List.mem_map.1 hx'
    exact hno g hg
  have hnodR : ((placeR s.size s.row).map (·.pos)).Nodup := hC.ok.nodup.sublist (hps.map _)
  have hsize := hC.ok.size
  have hb98 := built98k k
  have HS : Hid (∀ W1 K1, CacheAt W1 K1 { s with row := placeR s.size s.row } → K1.c = K.c → K1.d = K.d → K1.e = K.e → K1.mb = K.mb → (∀ k ∈ K1.ns, k ∈ K.ns) → Fr K.has w.drew W1 →
      MapIs Tryz.prog 3 (W1.alloc (.cells (rowV k false nilp nilp nought) 143)) K.mb (mapV K1.M K1.ns) ∧
      (W1.alloc (.cells (rowV k false nilp nilp nought) 143)).cell? ⟨K.c, 3, none⟩ = some (.map (some K.mb)) ∧
      ∀ W3, MapIs Tryz.prog 3 W3 K.mb (fun y => if y = k then some (ptr W1.heap.size) else mapV K1.M K1.ns y) → (W1.alloc (.cells (rowV k false nilp nilp nought) 143)).grownBy W3 (some K.mb) →
        W3.cell? ⟨K.c, 4, none⟩ = some (ptr K.e) ∧
        Calls Tryz.prog 121 #[ptr W1.heap.size, ptr K.e] W3 fun x w' => x = .returned (.tuple #[]) ∧
          ∃ K' l, K'.ns = l ++ [W1.heap.size] ∧ CacheAt w' K' { s with row := placeR s.size s.row ++ [⟨k, false, nought⟩] } ∧ hld K'.M W1.heap.size = ⟨k, false, nought⟩ ∧ K'.c = K.c ∧ K'.d = K.d ∧ (∀ i, K'.has i → K.has i ∨ w.heap.size ≤ i) ∧ Fr K.has w w') := by
    intro W1 K1 h1 hc1 hd1 he1 hm1 hn1 hF1
    have hb1 := below_new W1 (.cells (rowV k false nilp nilp nought) 143)
    have ht1 := heap_alloc_new W1 (.cells (rowV k false nilp nilp nought) 143)
    have hd3 : (W1.alloc (.cells (rowV k false nilp nilp nought) 143)).cell? ⟨K.c, 3, none⟩ = some (.map (some K.mb)) := by
      rw [← hc1, Joins.cell_of_block ((hb1.block _ (h1.lt _ (.inl rfl))).trans h1.row), ← hm1]
      rfl
    refine ⟨by rw [← hm1]; exact h1.map.kept (hb1.block _ (h1.lt _ (.inr (.inl rfl)))), hd3, ?_⟩
    intro W3 hm3 hg3
    have f2 : Fr (fun i => i = K.mb) (W1.alloc (.cells (rowV k false nilp nilp nought) 143)) W3 := (Fr.ofGrown hg3).mono fun i _ q => by injection q with q; exact q.symm
    have f1 : Fr (fun _ => False) W1 (W1.alloc (.cells (rowV k false nilp nilp nought) 143)) := Fr.alloc _ _ _
    have f12 : Fr (fun i => i = K.mb) W1 W3 := (f1.mono (T' := fun i => i = K.mb) fun _ _ q => q.elim).trans f2 fun _ _ q => q
    have hN3 : Nodes W3 K1.M (fun x => x = K1.e ∨ x ∈ K1.ns) := h1.nodes.kept fun x hx => f12.block x (h1.lt x (.inr (.inr hx))) (by rw [← hm1]; exact h1.mne hx)
    have hgm : W1.heap.size ≠ K.mb := by have := h1.lt K1.mb (.inr (.inl rfl)); rw [hm1] at this; omega
    have hr3 : RowAt W3 W1.heap.size k false nilp nilp nought := (f2.block W1.heap.size (by simp) hgm).trans ht1
    have hc3 : W3.heap[K1.c]? = some (.cells (ckRow K1 { s with row := placeR s.size s.row }) 146) := (f12.block K1.c (h1.lt _ (.inl rfl)) (by rw [← hm1]; exact h1.cm)).trans h1.row
    refine ⟨?_, ?_⟩
    · rw [← hc1, Joins.cell_of_block hc3, ← he1]
      rfl
    have hgS : ¬ (W1.heap.size = K1.e ∨ W1.heap.size ∈ K1.ns) := fun hx => by have := h1.lt _ (.inr (.inr hx)); omega
    have hlast : (K1.M K1.e).pv = K1.e ∨ (K1.M K1.e).pv ∈ K1.ns := List.mem_cons.1 (seg_last h1.ring)
    have hst := stand_of (S := fun x => x = K1.e ∨ x ∈ K1.ns) hN3 (h := W1.heap.size) (e := K1.e) (n := ⟨k, false, 0, 0, nought⟩) hgS (.inl rfl) hlast hr3
    rw [he1] at hst
    refine hst.mono ?_
    rintro e w' ⟨rfl, hN4, hF4⟩
    rw [← he1] at hN4 hF4
    have hnd2 : (W1.heap.size :: K1.e :: K1.ns).Nodup := List.nodup_cons.2 ⟨fun hx => hgS (List.mem_cons.1 hx), h1.nd⟩
    have hT : ∀ x, (x = K1.c ∨ x = K1.mb) → ¬ (x = W1.heap.size ∨ x = K1.e ∨ x = (K1.M K1.e).pv) := by
      rintro x hx (e | e | e)
      · have : x < W1.heap.size := by
          rcases hx with rfl | rfl
          · exact h1.lt _ (.inl rfl)
          · exact h1.lt _ (.inr (.inl rfl))
        omega
      · rcases hx with rfl | rfl
        · exact h1.cne (.inl rfl) e.symm
        · exact h1.mne (.inl rfl) e.symm
      · rcases hx with rfl | rfl
        · exact h1.cne hlast e.symm
        · exact h1.mne hlast e.symm
    have hsz13 := f12.size
    have hlt1 : ∀ x, K1.has x → x < W3.heap.size := fun x hx => by have := h1.lt x hx; omega
    have hK1 : ∀ x, K1.has x → K.has x := by
      rintro x (q | q | q | q)
      · exact .inl (by rw [q, hc1])
      · exact .inr (.inl (by rw [q, hm1]))
      · exact .inr (.inr (.inl (by rw [q, he1])))
      · exact .inr (.inr (.inr (hn1 x q)))
    have hpM : ∀ x, x ≠ W1.heap.size → posOf (standM (setM K1.M W1.heap.size ⟨k, false, 0, 0, nought⟩) W1.heap.size K1.e) x = posOf K1.M x := fun x hx => by
      refine ((stand_rest _ _ _ x).1).trans ?_
      unfold posOf
      rw [setM_other _ _ _ hx]
    have hpG : posOf (standM (setM K1.M W1.heap.size ⟨k, false, 0, 0, nought⟩) W1.heap.size K1.e) W1.heap.size = k := by
      refine ((stand_rest _ _ _ _).1).trans ?_
      rw [setM_same]
    have hne1 : ∀ x ∈ K1.ns, x ≠ W1.heap.size := fun x hx e => hgS (.inr (e ▸ hx))
    have hrow1 : placeR s.size s.row = K1.ns.map (hld K1.M) := h1.holds
    have hfn : fastN (placeR s.size s.row ++ [⟨k, false, nought⟩]) = fastN (placeR s.size s.row) := by simp [fastN, List.countP_append]
    have hok : COk { s with row := placeR s.size s.row ++ [⟨k, false, nought⟩] } := by
      refine ⟨hsize, ?_, ?_, ?_⟩
      · show ((placeR s.size s.row ++ [(⟨k, false, nought⟩ : Hld)]).length : Int) ≤ s.size
        rw [List.length_append]
        simpa using hpl
      · intro x hx
        rcases List.mem_append.1 hx with hx | hx
        · exact h1.ok.pos x hx
        · obtain rfl : x = ⟨k, false, nought⟩ := by simpa using hx
          exact ⟨hin, can_nought⟩
      · show ((placeR s.size s.row ++ [(⟨k, false, nought⟩ : Hld)]).map (·.pos)).Nodup
        rw [List.map_append, List.nodup_append]
        refine ⟨hnodR, by simp, ?_⟩
        intro a ha b hb e
        obtain ⟨x, hx, rfl⟩ := List.mem_map.1 ha
        simp at hb
        exact hposR x hx (e.trans hb)
    have hndm : ((K1.ns ++ [W1.heap.size]).map (posOf (standM (setM K1.M W1.heap.size ⟨k, false, 0, 0, nought⟩) W1.heap.size K1.e))).Nodup := by
      rw [List.map_append, List.map_congr_left fun x hx => hpM x (hne1 x hx)]
      have := hok.nodup
      rw [List.map_append] at this
      have e1 : (placeR s.size s.row).map (·.pos) = K1.ns.map (posOf K1.M) := by rw [hrow1, List.map_map]; rfl
      rw [e1] at this
      simpa [hpG] using this
    refine ⟨rfl, { K1 with ns := K1.ns ++ [W1.heap.size], M := standM (setM K1.M W1.heap.size ⟨k, false, 0, 0, nought⟩) W1.heap.size K1.e }, K1.ns, rfl, ?_, ?_, hc1, hd1, ?_, ?_⟩
    · refine cache_stood (K := K1) (n := ⟨k, false, 0, 0, nought⟩) hnd2 h1.ring ?_ ?_ hN4 ?_ hok
      · have e1 : ckRow K1 { s with row := placeR s.size s.row ++ [⟨k, false, nought⟩] } = ckRow K1 { s with row := placeR s.size s.row } := by unfold ckRow; simp only [hfn]
        rw [e1]
        exact (hF4.block K1.c (hlt1 _ (.inl rfl)) (hT _ (.inl rfl))).trans hc3
      · have e1 := mapV_add (M := K1.M) (ns := K1.ns) (g := W1.heap.size) hndm fun x hx => hpM x (hne1 x hx)
        rw [hpG] at e1
        rw [← e1]
        rw [← hm1] at hm3
        exact hm3.kept (hF4.block K1.mb (hlt1 _ (.inr (.inl rfl))) (hT _ (.inr rfl)))
      · show placeR s.size s.row ++ [(⟨k, false, nought⟩ : Hld)] = _
        rw [hrow1]
    · obtain ⟨a1, a2, a3⟩ := stand_rest (setM K1.M W1.heap.size ⟨k, false, 0, 0, nought⟩) W1.heap.size K1.e W1.heap.size
      unfold hld
      rw [a1, a2, a3, setM_same]
    · have hsw : w.heap.size ≤ W1.heap.size := hF1.size
      rintro i (q | q | q | q)
      · exact .inl (hK1 i (.inl q))
      · exact .inl (hK1 i (.inr (.inl q)))
      · exact .inl (hK1 i (.inr (.inr (.inl q))))
      · have q : i ∈ K1.ns ++ [W1.heap.size] := q
        rcases List.mem_append.1 q with q | q
        · exact .inl (hK1 i (.inr (.inr (.inr q))))
        · simp at q
          exact .inr (by omega)
    · have g1 : Fr K.has w W1 := (Fr.drew (T := K.has) w).trans hF1 fun _ _ q => q
      have g2 : Fr K.has w W3 := g1.trans f12 fun i _ q => by rw [q]; exact .inr (.inl rfl)
      refine g2.trans hF4 fun i hi q => ?_
      rcases q with q | q | q
      · have := hF1.size
        have e1 : w.drew.heap.size = w.heap.size := rfl
        omega
      · exact .inr (.inr (.inl (by rw [q, he1])))
      · exact hK1 i (by rw [q]; exact .inr (.inr hlast))
  clear hb h hC hno hf HD hpl hps hposR hnodR hsize
  generalize placeR s.size s.row ++ [(⟨k, false, nought⟩ : Hld)] = R at *
  generalize placeR s.size s.row = R1 at *
  generalize rowV k false nilp nilp nought = Z at *
  unfold nilp at z71
  unfold ptr at c3 hR ⊢
  go_enter Tryz.func100, Tryz.ntmps100
  go_wp2_with (first | (go_at_call 101; refine hR.mono ?_; rintro e W ⟨rfl, rfl⟩) | (refine wpList_lookM_none rfl (.tmp 18) (.tmp 19) 144 rfl 141 Tryz.underlying3 keyed3 Tryz.underlying144 rfl hmap (z71 _) k hwf rfl hmv ?_))
  go_region
  go_wp2_with (go_at_call 120; fail)
  refine HPl.out.mono ?_
  rintro e W1 ⟨rfl, K1, h1, hc1, hd1, he1, hm1, hn1, hF1⟩
  obtain ⟨hm2, d3, hst⟩ := HS.out W1 K1 h1 hc1 hd1 he1 hm1 hn1 hF1
  have HST : Hid (∀ W3, MapIs Tryz.prog 3 W3 K.mb (fun y => if y = k then some (ptr W1.heap.size) else mapV K1.M K1.ns y) → (W1.alloc (.cells Z 143)).grownBy W3 (some K.mb) →
        W3.cell? ⟨K.c, 4, none⟩ = some (ptr K.e) ∧ Calls Tryz.prog 121 #[ptr W1.heap.size, ptr K.e] W3 _) := hst
  clear HS HPl h1 hc1 hd1 he1 hm1 hn1 hF1 hst hmap hmv c3 c5 c2
  go_wp2_with (first | (refine wpList_build98k rfl _ rfl k rfl hb98 ?_) | (refine wpList_putM rfl (.tmp 31) (.tmp 32) (.tmp 33) 144 rfl 141 Tryz.underlying3 keyed3 Tryz.underlying144 K.mb _ rfl hm2 k hin rfl _ rfl ?_; intro W3 hm3 hg3; obtain ⟨d4, hcall⟩ := HST.out W3 hm3 hg3; have HCall : Hid (Calls Tryz.prog 121 _ W3 _) := hcall; clear HST hcall hm2 hg3 hm3; unfold ptr at d4) | (go_at_call 121; fail))
  refine HCall.out.mono ?_
  rintro e W4 ⟨rfl, K', l, a1, a2, a3, a4, a5, a6, a7⟩
  have HR : Hid _ := (⟨K', W1.heap.size, l, rfl, a1, a2, a3, a4, a5, a6, a7⟩ : ∃ K' g l, (Ending.returned (.tuple #[ptr W1.heap.size, .bool true, .int .i64 0])) = .returned (.tuple #[ptr g, .bool true, .int .i64 0]) ∧ K'.ns = l ++ [g] ∧
      CacheAt W4 K' { s with row := R } ∧ hld K'.M g = ⟨k, false, nought⟩ ∧ K'.c = K.c ∧ K'.d = K.d ∧ (∀ i, K'.has i → K.has i ∨ _ ≤ i) ∧ Fr K.has _ W4)
  clear a1 a2 a3 a4 a5 a6 a7
  go_wp2
  go_ret3
  exact HR.out
end Go.Proofs.YtiadlcjdpbkbkaaGreatD
/- What a cache is behind a use of a block, as plain functions; the contract of use in one form; a holding's bytes and its flag turned; no condition. -/
namespace Go.Proofs.YtiadlcjdpbkbkaaGreatD
open Go.RowKit Go.Maps
variable {w : World} {K : KLoc} {L : Loc} {s : CSt} {t : St}

def atR (r : List Hld) (k : Int) : Option Hld := r.find? (fun h => h.pos == k)
def goneR (r : List Hld) (k : Int) : List Hld := r.eraseP (fun h => h.pos == k)
def usedE (s : CSt) (t : St) (k : Int) : Int := if refV t k ≠ 0 then refV t k else if atR s.row k = none ∧ (fastN s.row : Int) = s.size then 160 else 0
def useP (s : CSt) (k : Int) : List Hld × Hld × Bool := match atR s.row k with
  | some h => (goneR s.row k, h, false)
  | none => (placeR s.size s.row, ⟨k, false, nought⟩, true)
theorem atR_none (h : CacheAt w K s) {k : Int} (ha : atR s.row k = none) : ∀ g ∈ K.ns, posOf K.M g ≠ k := by
  intro g hg e
  unfold atR at ha
  rw [h.holds] at ha
  have := List.find?_eq_none.1 ha (hld K.M g) (List.mem_map.2 ⟨g, hg, rfl⟩)
  exact this (by show ((K.M g).pos == k) = true; rw [show (K.M g).pos = k from e]; simp)
theorem find_map {f : Nat → Hld} {P : Hld → Bool} : ∀ (l : List Nat) (x : Hld), (l.map f).find? P = some x → ∃ p g q, l = p ++ g :: q ∧ f g = x ∧ P x = true ∧ ∀ a ∈ p, P (f a) = false
  | [], x, h => by simp at h
  | a :: t, x, h => by
    rw [List.map_cons, List.find?_cons] at h
    cases hp : P (f a) with
    | true =>
      rw [hp] at h
      injection h with h
      exact ⟨[], a, t, rfl, h, by rw [← h]; exact hp, by simp⟩
    | false =>
      rw [hp] at h
      obtain ⟨p, g, q, h1, h2, h3, h4⟩ := find_map t x h
      refine ⟨a :: p, g, q, by rw [h1]; rfl, h2, h3, fun b hb => ?_⟩
      rcases List.mem_cons.1 hb with rfl | hb
      · exact hp
      · exact h4 b hb
theorem atR_some (h : CacheAt w K s) {k : Int} {x : Hld} (ha : atR s.row k = some x) : ∃ p g q, K.ns = p ++ g :: q ∧ hld K.M g = x ∧ posOf K.M g = k ∧ goneR s.row k = (p ++ q).map (hld K.M) ∧ x.pos = k := by
  unfold atR at ha
  rw [h.holds] at ha
  obtain ⟨p, g, q, h1, h2, h3, h4⟩ := find_map K.ns x ha
  have hk : x.pos = k := by simpa using h3
  refine ⟨p, g, q, h1, h2, by rw [← hk, ← h2]; rfl, ?_, hk⟩
  unfold goneR
  rw [h.holds, h1, List.map_append, List.map_cons, eraseP_split (fun a ha => by
    obtain ⟨y, hy, rfl⟩ := List.mem_map.1 ha
    exact h4 y hy) (by rw [h2]; exact h3), List.map_append]
/-- A block is used. -/
theorem use_ok (h : CD w K L s t) {k : Int} (hu : usedE s t k = 0) :
    Calls Tryz.prog 100 #[ptr K.c, .int .i64 k] w fun e w' => ∃ K' g l, e = .returned (.tuple #[ptr g, .bool (useP s k).2.2, .int .i64 0]) ∧ K'.ns = l ++ [g] ∧
      hld K'.M g = (useP s k).2.1 ∧ CD w' K' L { s with row := (useP s k).1 ++ [(useP s k).2.1] } t ∧ GoesC w w' K L K' L := by
  have hb : refV t k = 0 := by
    apply Classical.byContradiction
    intro hb
    unfold usedE at hu
    rw [if_pos hb] at hu
    exact hb hu
  unfold useP
  cases ha : atR s.row k with
  | some x =>
    obtain ⟨p, g, q, h1, h2, h3, h4, _⟩ := atR_some h.cache ha
    refine (use_held h hb h1 h3).mono ?_
    rintro e w' ⟨rfl, M', a1, a2, a3⟩
    rw [← h4, h2] at a1
    obtain ⟨b1, b2⟩ := h.caches a1 rfl rfl (by
      rintro i (r | r | r | r)
      · exact .inl (.inl r)
      · exact .inl (.inr (.inl r))
      · exact .inl (.inr (.inr (.inl r)))
      · refine .inl (.inr (.inr (.inr ?_)))
        have r : i ∈ (p ++ q) ++ [g] := r
        rw [h1]
        simp at r ⊢
        rcases r with r | r | r <;> simp [r]) a3
    exact ⟨_, g, p ++ q, rfl, rfl, a2.trans h2, b1, b2⟩
  | none =>
    have hf : (fastN s.row : Int) ≠ s.size := by
      intro e
      unfold usedE at hu
      rw [if_neg (by simp [hb]), if_pos ⟨ha, e⟩] at hu
      cases hu
    refine (use_new h hb (atR_none h.cache ha) hf).mono ?_
    rintro e w' ⟨K', g, l, rfl, a1, a2, a3, a4, a5, a6, a7⟩
    obtain ⟨b1, b2⟩ := h.caches a2 a4 a5 a6 a7
    exact ⟨K', g, l, rfl, a1, a3, b1, b2⟩
theorem use_err (h : CD w K L s t) {k : Int} (hu : usedE s t k ≠ 0) :
    Calls Tryz.prog 100 #[ptr K.c, .int .i64 k] w fun e w' => e = .returned (.tuple #[nilp, .bool false, .int .i64 (usedE s t k)]) ∧ Below w.heap.size w w' := by
  unfold usedE at hu ⊢
  by_cases hb : refV t k = 0
  · rw [if_neg (by simp [hb])] at hu ⊢
    by_cases hf : atR s.row k = none ∧ (fastN s.row : Int) = s.size
    · rw [if_pos hf]
      refine (use_full h hb (atR_none h.cache hf.1) hf.2).mono ?_
      rintro e w' ⟨rfl, rfl⟩
      exact ⟨rfl, ⟨rfl, rfl, rfl, Nat.le_refl _, fun _ _ => rfl⟩⟩
    · rw [if_neg hf] at hu
      exact absurd rfl hu
  · rw [if_pos hb]
    refine (use_bad h hb).mono ?_
    rintro e w' ⟨rfl, rfl⟩
    exact ⟨rfl, Below.refl _ _⟩
/-- A holding's bytes or flag have turned. -/
theorem CacheAt.turn {w' : World} (h : CacheAt w K s) {g : Nat} (hg : g ∈ K.ns) (n : Nd) (hl : n.pv = (K.M g).pv ∧ n.nx = (K.M g).nx ∧ n.pos = (K.M g).pos) {s' : CSt} (hsz : s'.size = s.size)
    (hrow : s'.row = K.ns.map (hld (setM K.M g n))) (hcan : Can n.dat) (hc : w'.heap[K.c]? = some (.cells (ckRow K s') 146)) (hm : w'.heap[K.mb]? = w.heap[K.mb]?)
    (hN : Nodes w' (setM K.M g n) (fun x => x = K.e ∨ x ∈ K.ns)) : CacheAt w' { K with M := setM K.M g n } s' := by
  have e1 : ∀ x, (setM K.M g n x).pv = (K.M x).pv ∧ (setM K.M g n x).nx = (K.M x).nx ∧ (setM K.M g n x).pos = (K.M x).pos := fun x => by
    unfold setM
    split
    · next q => rw [q]; exact hl
    · exact ⟨rfl, rfl, rfl⟩
  have hpos : s'.row.map (·.pos) = s.row.map (·.pos) := by
    rw [hrow, h.holds, List.map_map, List.map_map]
    exact List.map_congr_left fun x _ => (e1 x).2.2
  refine ⟨hc, ?_, hN, ?_, h.nd, hrow, ?_⟩
  · have e2 : mapV (setM K.M g n) K.ns = mapV K.M K.ns := by
      unfold mapV posOf
      funext k
      have : (fun x => (setM K.M g n x).pos == k) = fun x => (K.M x).pos == k := by funext x; rw [(e1 x).2.2]
      rw [this]
    show MapIs Tryz.prog 3 w' K.mb (mapV (setM K.M g n) K.ns)
    rw [e2]
    exact h.map.kept hm
  · refine seg_mono _ _ _ h.ring fun x y _ _ hxy => ?_
    unfold Lnk
    rw [(e1 x).2.1, (e1 y).1]
    exact hxy
  · refine ⟨by rw [hsz]; exact h.ok.size, ?_, ?_, by rw [hpos]; exact h.ok.nodup⟩
    · have : s'.row.length = s.row.length := by rw [hrow, h.holds]; simp
      rw [this, hsz]
      exact h.ok.len
    · intro x hx
      rw [hrow] at hx
      obtain ⟨y, hy, rfl⟩ := List.mem_map.1 hx
      have h1 := h.ok.pos (hld K.M y) (by rw [h.holds]; exact List.mem_map.2 ⟨y, hy, rfl⟩)
      by_cases e : y = g
      · subst e
        refine ⟨?_, ?_⟩
        · show inTop (setM K.M y n y).pos
          rw [(e1 y).2.2]
          exact h1.1
        · show Can (setM K.M y n y).dat
          rw [setM_same]
          exact hcan
      · unfold hld
        rw [setM_other _ _ _ e]
        exact h1
theorem hld_set {K : KLoc} (hn : K.ns.Nodup) {p q : List Nat} {g : Nat} (hns : K.ns = p ++ g :: q) (n : Nd) : K.ns.map (hld (setM K.M g n)) = p.map (hld K.M) ++ ⟨n.pos, n.fast, n.dat⟩ :: q.map (hld K.M) := by
  rw [hns] at hn ⊢
  have hg : ∀ x ∈ p ++ q, x ≠ g := by
    rintro x hx rfl
    have := (List.perm_middle.nodup_iff).1 hn
    exact (List.nodup_cons.1 this).1 hx
  rw [List.map_append, List.map_cons]
  congr 1
  · refine List.map_congr_left fun x hx => ?_
    unfold hld
    rw [setM_other _ _ _ (hg x (by simp [hx]))]
  · congr 1
    · unfold hld
      rw [setM_same]
    · refine List.map_congr_left fun x hx => ?_
      unfold hld
      rw [setM_other _ _ _ (hg x (by simp [hx]))]
/-- The bytes of a holding are stored. -/
theorem CacheAt.bytes (h : CacheAt w K s) {p q : List Nat} {g : Nat} (hns : K.ns = p ++ g :: q) {f : Nat → Int} (hf : Can f) :
    CacheAt (w.setCells g 4 (blk f).toList) { K with M := setM K.M g { K.M g with dat := f } } { s with row := p.map (hld K.M) ++ ⟨(K.M g).pos, (K.M g).fast, f⟩ :: q.map (hld K.M) } ∧ Fr (fun i => i = g) w (w.setCells g 4 (blk f).toList) := by
  have hgm : g ∈ K.ns := by rw [hns]; simp
  have hF := Fr.setCells w g 4 (blk f).toList
  have hset := hld_set (List.nodup_cons.1 h.nd).2 hns { K.M g with dat := f }
  refine ⟨h.turn hgm { K.M g with dat := f } ⟨rfl, rfl, rfl⟩ rfl hset.symm hf ?_ ?_ ?_, hF⟩
  · refine (heap_setCells g _ _ w K.c (h.cne (.inr hgm)).symm).trans ?_
    rw [h.row]
    have e1 : fastN (p.map (hld K.M) ++ ⟨(K.M g).pos, (K.M g).fast, f⟩ :: q.map (hld K.M)) = fastN s.row := by
      rw [h.holds, hns]
      simp [fastN, List.countP_append, List.countP_cons, hld]
    unfold ckRow
    simp only [e1]
  · exact heap_setCells g _ _ w K.mb (h.mne (.inr hgm)).symm
  · intro x hx
    by_cases e : x = g
    · subst e
      rw [setM_same]
      exact (h.nodes x hx).setD f
    · rw [setM_other _ _ _ e]
      exact (heap_setCells g _ _ w x e).trans (h.nodes x hx)
/-- The flag of a holding is stored, and the count. -/
theorem CacheAt.flag (h : CacheAt w K s) {p q : List Nat} {g : Nat} (hns : K.ns = p ++ g :: q) (b : Bool) {m : Int}
    (hm : m = (fastN (p.map (hld K.M) ++ ⟨(K.M g).pos, b, (K.M g).dat⟩ :: q.map (hld K.M)) : Nat)) {w' : World} (hw : w' = (w.setCell ⟨g, 1, none⟩ (.bool b)).setCell ⟨K.c, 5, none⟩ (.int .i64 m)) :
    CacheAt w' { K with M := setM K.M g { K.M g with fast := b } } { s with row := p.map (hld K.M) ++ ⟨(K.M g).pos, b, (K.M g).dat⟩ :: q.map (hld K.M) } ∧ Fr K.has w w' := by
  subst hw
  have hgm : g ∈ K.ns := by rw [hns]; simp
  have hF : Fr K.has w ((w.setCell ⟨g, 1, none⟩ (.bool b)).setCell ⟨K.c, 5, none⟩ (.int .i64 m)) :=
    ((Fr.setCell w g 1 (.bool b)).mono (T' := K.has) fun i _ q => by rw [q]; exact .inr (.inr (.inr hgm))).trans (Fr.setCell _ K.c 5 _) fun i _ q => .inl q
  have hset := hld_set (List.nodup_cons.1 h.nd).2 hns { K.M g with fast := b }
  have hcan : Can (K.M g).dat := (h.ok.pos (hld K.M g) (by rw [h.holds]; exact List.mem_map.2 ⟨g, hgm, rfl⟩)).2
  refine ⟨h.turn hgm { K.M g with fast := b } ⟨rfl, rfl, rfl⟩ rfl hset.symm hcan ?_ ?_ ?_, hF⟩
  · have h1 : (w.setCell ⟨g, 1, none⟩ (.bool b)).heap[K.c]? = some (.cells (ckRow K s) 146) := (Below.heap_setCell w _ _ K.c (h.cne (.inr hgm)).symm).trans h.row
    rw [Joins.block_setCell h1, hm]
    rfl
  · refine (Below.heap_setCell _ _ _ K.mb h.cm.symm).trans (Below.heap_setCell w _ _ K.mb (h.mne (.inr hgm)).symm)
  · intro x hx
    refine (Below.heap_setCell _ _ _ x (h.cne hx)).trans ?_
    by_cases e : x = g
    · subst e
      rw [setM_same]
      exact (h.nodes x hx).set1 b
    · rw [setM_other _ _ _ e]
      exact (Below.heap_setCell w _ _ x e).trans (h.nodes x hx)
end Go.Proofs.YtiadlcjdpbkbkaaGreatD
