/- Several texts joined: the log, its cache and its disk, of the program and of the document; no condition. -/
import Derived.Test.YtichojdcoegboaaGreatK3
import Derived.Test.YtichojdcoegboaaGreatK2
import Derived.Test.YtichojdcoegboaaGreatK1
import Derived.Laws.CopyRow
namespace Go.Proofs.YtichojdcoegboaaGreatW
open Go.RowKit
variable {w : World} {L : Loc} {s : St}
section
variable {P : Program} {ops : Array Oper} {Q : Exit → Act → World → Prop} {S : World → Prop} {r : List (Bool × Oper)} {a : Act} {w w' : World} {o : Oper} {v : Value}
theorem wpOrd_run (hw : Region.wanted o (yielded ops a.tmps) = true) (hr : (execOp a.eval o).run P w = .ok (.value v) w') (hS : S w') (h : wpOrd P ops Q S r (a.put o.dst v) w') : wpOrd P ops Q S ((false, o) :: r) a w := by
 simp only [wpOrd, hw, if_true]
 unfold Oper.wp
 rw [hr]
 exact ⟨hS, h⟩
theorem wpOrd_do (hw : Region.wanted o (yielded ops a.tmps) = true) (hr : (execOp a.eval o).run P w = .ok .skip w') (hS : S w') (h : wpOrd P ops Q S r (a.put o.dst undef) w') : wpOrd P ops Q S ((false, o) :: r) a w := by
 simp only [wpOrd, hw, if_true]
 unfold Oper.wp
 rw [hr]
 exact ⟨hS, h⟩
end
def writeS (s : St) (k : Int) (f : Nat → Int) : St := { letV s with wait := s.wait ++ [(k, f)] }
theorem letV_wait (s : St) : (letV s).wait = s.wait := by unfold letV; split <;> rfl
theorem letV_done (s : St) : (letV s).done = s.done := by unfold letV; split <;> rfl
theorem letV_held (s : St) : (letV s).held = s.held := by unfold letV; split <;> rfl
theorem letV_n (s : St) : (letV s).n = s.n := by unfold letV; split <;> rfl
theorem letV_ops (s : St) : (letV s).ops = s.ops := by unfold St.ops; rw [letV_wait, letV_done]
theorem writeS_ok (h : Ok s) {k : Int} (hk : 0 ≤ k ∧ k < s.n) {f : Nat → Int} (hf : Can f) : Ok (writeS s k f) := by
 have h1 := letV_ok h
 refine ⟨h1.n, h1.held, fun c hc => ?_, h1.fuse, h1.made, h1.reads, h1.claims⟩
 have hc' : c ∈ s.wait ∨ c = (k, f) := by simpa [writeS] using hc
 show (0 ≤ c.1 ∧ c.1 < (letV s).n) ∧ Can c.2
 rw [letV_n]
 rcases hc' with h2 | rfl
 ·exact h.wait c h2
 ·exact ⟨hk, hf⟩
theorem writeS_ops (s : St) (k : Int) (f : Nat → Int) : (writeS s k f).ops = s.ops ++ [⟨1, k, f⟩] := by
 show (letV s).done ++ (s.wait ++ [(k, f)]).map wrec = _
 rw [letV_done]
 unfold St.ops
 simp [wrec]
theorem writeS_late (s : St) (k : Int) (f : Nat → Int) : lateV (writeS s k f) = fun y => if y = k then some (.int .i64 ((s.ops.length : Nat) : Int)) else lateV (letV s) y := by
 funext y
 show (lastAt (s.wait ++ [(k, f)]) y).map (fun i => Value.int .i64 (((letV s).done.length + i : Nat) : Int)) = _
 rw [lastAt_snoc, letV_done, ops_len]
 by_cases e : y = k
 ·rw [if_pos e, if_pos (by exact e.symm)]
  rfl
 ·rw [if_neg e, if_neg (fun q => e q.symm)]
  unfold lateV
  rw [letV_done, letV_wait]
set_option maxRecDepth 20000 in
theorem write_bad (h : DiskAt w L s) {k : Int} (hb : refV s k ≠ 0) (f : Nat → Int) :
  Calls Tryz.prog 110 #[.pointer (some ⟨L.d, 0, none⟩), .int .i64 k, .agg (blk f)] w fun e w' => e = .returned (.int .i64 (refV s k)) ∧ Below w.heap.size w w' := by
 have hR := refuses_of (h.later (below_new w (.cells (blk f) 64))) k
 have hne : (refV s k != 0) = true := by simp [hb]
 clear h hb
 generalize refV s k = r at *
 go_enter Tryz.func110, Tryz.ntmps110
 go_wp2_with (first | (go_at_call 81; refine hR.mono ?_; rintro e W ⟨rfl, rfl⟩))
 go_ret
 exact ⟨rfl, below_new _ _⟩
set_option maxRecDepth 20000 in
theorem write_dead (h : DiskAt w L s) (hr : Room s) {k : Int} (hb : refV s k = 0) (hl : lets s = false) (f : Nat → Int) :
  Calls Tryz.prog 110 #[.pointer (some ⟨L.d, 0, none⟩), .int .i64 k, .agg (blk f)] w fun e w' => e = .returned (.int .i64 3) ∧ DiskAt w' L (letV s) ∧ Goes w w' L L := by
 have D1 := h.later (below_new w (.cells (blk f) 64))
 have hR := refuses_of D1 k
 rw [hb] at hR
 have hT := letThrough_of D1 hr
 rw [hl] at hT
 have HG : Hid (Goes w (w.alloc (.cells (blk f) 64)) L L) := Goes.ofBelow L (below_new _ _)
 clear h hb D1
 go_enter Tryz.func110, Tryz.ntmps110
 go_wp2_with (first | (go_at_call 81; refine hR.mono ?_; rintro e W ⟨rfl, rfl⟩) | (go_at_call 111; fail))
 refine hT.mono ?_
 rintro e W ⟨rfl, hD, hG⟩
 have HD : Hid (DiskAt W L (letV s)) := hD
 have HG2 : Hid (Goes _ W L L) := hG
 clear hD hG
 go_wp2
 go_ret
 exact ⟨rfl, HD.out, HG.out.trans HG2.out⟩
set_option maxRecDepth 20000 in
set_option maxHeartbeats 2000000 in
theorem write_ok (h : DiskAt w L s) (hr : Room s) {k : Int} (hb : refV s k = 0) (hl : lets s = true) {f : Nat → Int} (hf : Can f) :
  Calls Tryz.prog 110 #[.pointer (some ⟨L.d, 0, none⟩), .int .i64 k, .agg (blk f)] w fun e w' => e = .returned (.int .i64 0) ∧ ∃ L', DiskAt w' L' (writeS s k f) ∧ Goes w w' L L' := by
 have D1 := h.later (below_new w (.cells (blk f) 64))
 have hR := refuses_of D1 k
 rw [hb] at hR
 have hT := letThrough_of D1 hr
 rw [hl] at hT
 obtain ⟨_, hk⟩ := refV_ok hb
 have hin := inTop_of h.ok hk
 have hok := writeS_ok h.ok hk hf
 have HG : Hid (Goes w (w.alloc (.cells (blk f) 64)) L L) := Goes.ofBelow L (below_new _ _)
 have hL : ∀ i, L.has i → i < w.heap.size := h.lt
 have hro := hr.ops
 have hB0 := heap_alloc_new w (.cells (blk f) 64)
 have hsz : w.heap.size < (w.alloc (.cells (blk f) 64)).heap.size := by simp
 clear h hb D1 hr
 go_enter Tryz.func110, Tryz.ntmps110
 go_wp2_with (first | (go_at_call 81; refine hR.mono ?_; rintro e W ⟨rfl, rfl⟩) | (go_at_call 111; fail))
 refine hT.mono ?_
 rintro e W ⟨rfl, hD, hG⟩
 have hB : W.heap[w.heap.size]? = some (.cells (blk f) 64) := (hG.fr.block w.heap.size hsz fun q => by have := hL _ q; omega).trans hB0
 have HG2 : Hid (Goes w W L L) := HG.out.trans hG
 clear hG HG hR hT hsz hB0
 generalize hg0 : w.heap.size = g0 at *
 obtain ⟨p, c, h1, h2, h3, h4⟩ := hD.shape
 rw [letV_ops] at h1 h2
 have c3 := hD.c3
 have c5 := hD.c5
 rw [h1] at c3
 have hLate := hD.late
 have HR : Hid (RawAt W L (dkRow L (letV s)) (heldV (letV s)) (lateV (letV s)) (letV s).ops) := hD.raw
 clear hD h4
 go_wp2
 go_still_tail 10, (by kernel_rfl)
 change wpList _ _ _ _ _ (World.drew _)
 refine wpList_putM rfl (.tmp 20) (.tmp 21) (.tmp 26) 93 rfl 3 Tryz.underlying3 keyed3 Tryz.underlying93 L.lb _ rfl (hLate.kept (w' := W.drew) rfl) k hin rfl (.int .i64 ((s.ops.length : Nat) : Int)) rfl ?_
 intro W3 hm3 hg3
 have hF3 : Fr (fun i => i = L.lb) W W3 := (Fr.drew W).trans ((Fr.ofGrown hg3).mono fun i _ q => by injection q with q; exact q.symm) fun _ _ q => q
 rw [← writeS_late s k f] at hm3
 have hR3 := HR.out.lateTo hm3 hF3
 have hB3 : W3.heap[g0]? = some (.cells (blk f) 64) := (hF3.block g0 (Array.getElem?_eq_some_iff.1 hB).1 fun q => by have := hL L.lb (.inr (.inr (.inl rfl))); omega).trans hB
 have hG3 : Goes w W3 L L := HG2.out.trans (Goes.of rfl (fun _ q => .inl q) hF3 fun i _ q => .inr (.inr (.inl q)))
 clear HR HG2 hm3 hg3 hF3 hLate c3 c5 hB
 have hR4 : RawAt W3.drew L (dkRow L (letV s)) (heldV (letV s)) (lateV (writeS s k f)) (letV s).ops := hR3.fr (Fr.drew (T := fun _ => False) W3) fun _ _ q => q
 have hG4 : Goes w W3.drew L L := hG3.trans ⟨rfl, fun _ q => .inl q, Fr.drew W3⟩
 have hB4 : W3.drew.heap[g0]? = some (.cells (blk f) 64) := hB3
 clear hR3 hG3 hB3
 go_wp2
 refine wp_region_fork (S := fun u => u.heap[g0]? = some (.cells (blk f) 64)) [0, 1, 2, 3, 5, 6, 7] 4 8 [(9, false), (10, true), (11, true), (12, false)] (by kernel_rfl) rfl (by kernel_rfl) (fun d _ _ _ _ h => by cases d <;> exact h) hB4 ?_
 simp only [Act.put]
 generalize W3.drew = V at *
 have hlt : g0 < V.heap.size := (Array.getElem?_eq_some_iff.1 hB4).1
 have c3 : V.cell? ⟨L.d, 3, none⟩ = some L.hv := Joins.cell_of_block hR4.row 3
 rw [h1] at c3
 refine wpFork_yield (v := .pointer (some ⟨L.d, 0, none⟩)) rfl rfl (fun u _ => by simp [execOp, Act.eval]) ?_
 simp only [Act.put, pA, pB, pC]
 refine wpFork_yield (v := .pointer (some ⟨L.d, 0, none⟩)) rfl rfl (fun u _ => by simp [execOp, Act.eval]) ?_
 simp only [Act.put, pA, pB, pC]
 refine wpFork_yield (v := .pointer (some ⟨L.d, 0, none⟩)) rfl rfl (fun u _ => by go_simp) ?_
 simp only [Act.put, pA, pB, pC]
 refine wpFork_yield (v := .pointer (some ⟨L.d, 3, none⟩)) rfl rfl (fun u _ => by go_simp) ?_
 simp only [Act.put, pA, pB, pC]
 refine wpFork_yield (v := .int .i64 k) rfl rfl (fun u _ => by simp [execOp, Act.eval]) ?_
 simp only [Act.put, pA, pB, pC]
 refine wpFork_yield (v := .agg (blk f)) rfl rfl (fun u hu => by
  unfold execOp
  simp only [Act.eval]
  have e := loadM (BlkAt.of hu)
  change Sem.run Tryz.prog (Instr.loadAt 64 (.pointer (some ⟨g0, 0, none⟩)) >>= fun v => pure (Next.value v)) u = _
  simp only [Sem.run_bind, e, Result.andThen_ok, Sem.run_pure]) ?_
 simp only [Act.put, pA, pB, pC]
 refine wpFork_yield (v := .agg (recCells ⟨1, k, f⟩).toArray) rfl rfl (fun u hu => by
  have e := build108 1 k f u
  simp [execOp, Act.eval, e]) ?_
 simp only [Act.put, pA, pB, pC]
 have hro' : (letV s).ops.length < 68719476736 := by rw [letV_ops]; exact hro
 obtain ⟨v', W5, hrun, ho5, hF5, hw5⟩ := push_run (W := V) (v := L.hv) ⟨1, k, f⟩ 49 hR4.hist hro'
 obtain ⟨g5, cap5, rfl⟩ : ∃ g5 cap5, v' = Value.slice (some ⟨g5, 0, none⟩) (s.ops ++ [(⟨1, k, f⟩ : Rec)]).length cap5 := by
  rw [letV_ops] at ho5
  rcases ho5.2 with ⟨_, h⟩ | ⟨g, cap', _, h, _⟩
  ·simp at h
  ·exact ⟨g, cap', h⟩
 have hR5 := hR4.histTo ho5 hF5
 have hD6 : Hid (DiskAt (W5.setCell ⟨L.d, 3, none⟩ (Value.slice (some ⟨g5, 0, none⟩) (s.ops ++ [(⟨1, k, f⟩ : Rec)]).length cap5)) ⟨L.d, L.hb, L.lb, Value.slice (some ⟨g5, 0, none⟩) (s.ops ++ [(⟨1, k, f⟩ : Rec)]).length cap5⟩ (writeS s k f)) := by
  refine RawAt.disk ?_ hok
  have h6 := hR5.cell 3 (Value.slice (some ⟨g5, 0, none⟩) (s.ops ++ [(⟨1, k, f⟩ : Rec)]).length cap5)
  rw [letV_ops] at h6
  rw [writeS_ops]
  exact h6
 have hG6 : Hid (Goes w (W5.setCell ⟨L.d, 3, none⟩ (Value.slice (some ⟨g5, 0, none⟩) (s.ops ++ [(⟨1, k, f⟩ : Rec)]).length cap5)) L ⟨L.d, L.hb, L.lb, Value.slice (some ⟨g5, 0, none⟩) (s.ops ++ [(⟨1, k, f⟩ : Rec)]).length cap5⟩) := by
  refine hG4.trans (Goes.of (T := fun i => L.hv.ownBlock = some i ∨ i = L.d) rfl (fun i hi => ?_) ((hF5.mono fun i _ q => .inl q).trans ((Fr.setCell W5 L.d 3 _).mono fun i _ q => .inr q) fun i _ q => q) fun i _ q => ?_)
  ·rcases hi with q | q | q | q
   ·exact .inl (.inl q)
   ·exact .inl (.inr (.inl q))
   ·exact .inl (.inr (.inr (.inl q)))
   ·rcases hw5 i q with q | q
    ·exact .inl (.inr (.inr (.inr q)))
    ·exact .inr q
  ·rcases q with q | q
   ·exact .inr (.inr (.inr q))
   ·exact .inl q
 have S1 := heap_kept hB4 (below_new V (.cells (recCells ⟨1, k, f⟩).toArray 98))
 have S5 : W5.heap[g0]? = some (.cells (blk f) 64) := (hF5.block g0 hlt fun q => by have := hL g0 (.inr (.inr (.inr q))); omega).trans hB4
 have S6 : (W5.setCell ⟨L.d, 3, none⟩ (Value.slice (some ⟨g5, 0, none⟩) (s.ops ++ [(⟨1, k, f⟩ : Rec)]).length cap5)).heap[g0]? = some (.cells (blk f) 64) :=
  (Below.heap_setCell _ _ _ _ (by show g0 ≠ L.d; have := hL L.d (.inl rfl); omega)).trans S5
 have k3 : W5.cell? ⟨L.d, 3, none⟩ = some L.hv := Joins.cell_of_block hR5.row 3
 have f3 : W5.frozen? ⟨L.d, 3, none⟩ = false := Joins.unfrozen_of_block hR5.row 3
 have hdl : L.d < V.heap.size := hR4.lt L.d (.inl rfl)
 have c3' : (V.alloc (.cells (recCells ⟨1, k, f⟩).toArray 98)).cell? ⟨L.d, 3, none⟩ = some (.slice p s.ops.length c) := by rw [World.cell?_alloc_past _ _ _ hdl]; exact c3
 have hbs := build67 ⟨1, k, f⟩ V
 rw [h1] at hrun k3
 clear hR5 hR4 hF5 hw5 ho5 hG4 hok hro'
 generalize hrl : (s.ops ++ [(⟨1, k, f⟩ : Rec)]).length = m5 at *
 generalize hrc : (recCells ⟨1, k, f⟩).toArray = RC at *
 refine wpFork_nil rfl rfl ?_ ?_
 ·simp only [inOrd, List.getElem?_cons_zero, List.getElem?_cons_succ]
  refine wpOrd_run (v := .slice p s.ops.length c) (w' := V) rfl (by go_simp) hB4 ?_
  simp only [Act.put, pA, pB, pC]
  refine wpOrd_run (v := .slice (some ⟨V.heap.size, 0, none⟩) 1 1) (w' := V.alloc (.cells RC 98)) rfl (by simp [execOp, Act.eval, hbs]) S1 ?_
  simp only [Act.put, pA, pB, pC]
  refine wpOrd_run (v := .slice (some ⟨g5, 0, none⟩) m5 cap5) (w' := W5) rfl (by simp [execOp, Act.eval, resolve, invoke, builtin, hrun, Result.andThen]) S5 ?_
  simp only [Act.put, pA, pB, pC]
  refine wpOrd_yield (v := .pointer (some ⟨L.d, 0, none⟩)) rfl (fun u _ => by go_simp) ?_
  simp only [Act.put, pA, pB, pC]
  refine wpOrd_yield (v := .pointer (some ⟨L.d, 3, none⟩)) rfl (fun u _ => by go_simp) ?_
  simp only [Act.put, pA, pB, pC]
  refine wpOrd_do (w' := W5.setCell ⟨L.d, 3, none⟩ (.slice (some ⟨g5, 0, none⟩) m5 cap5)) rfl (by go_simp) S6 ?_
  refine wpOrd_nil ?_
  simp only [Act.put]
  generalize W5.setCell ⟨L.d, 3, none⟩ (.slice (some ⟨g5, 0, none⟩) m5 cap5) = Y at *
  clear hrun S1 S5 S6 k3 f3 c3' hbs c3
  go_wp2
  go_ret
  exact ⟨rfl, _, hD6.out, hG6.out⟩
 ·simp only [inOrd, List.getElem?_cons_zero, List.getElem?_cons_succ]
  refine wpOrd_run (v := .slice (some ⟨V.heap.size, 0, none⟩) 1 1) (w' := V.alloc (.cells RC 98)) rfl (by simp [execOp, Act.eval, hbs]) S1 ?_
  simp only [Act.put, pA, pB, pC]
  refine wpOrd_run (v := .slice p s.ops.length c) (w' := V.alloc (.cells RC 98)) rfl (by go_simp) S1 ?_
  simp only [Act.put, pA, pB, pC]
  refine wpOrd_run (v := .slice (some ⟨g5, 0, none⟩) m5 cap5) (w' := W5) rfl (by simp [execOp, Act.eval, resolve, invoke, builtin, hrun, Result.andThen]) S5 ?_
  simp only [Act.put, pA, pB, pC]
  refine wpOrd_yield (v := .pointer (some ⟨L.d, 0, none⟩)) rfl (fun u _ => by go_simp) ?_
  simp only [Act.put, pA, pB, pC]
  refine wpOrd_yield (v := .pointer (some ⟨L.d, 3, none⟩)) rfl (fun u _ => by go_simp) ?_
  simp only [Act.put, pA, pB, pC]
  refine wpOrd_do (w' := W5.setCell ⟨L.d, 3, none⟩ (.slice (some ⟨g5, 0, none⟩) m5 cap5)) rfl (by go_simp) S6 ?_
  refine wpOrd_nil ?_
  simp only [Act.put]
  generalize W5.setCell ⟨L.d, 3, none⟩ (.slice (some ⟨g5, 0, none⟩) m5 cap5) = Y at *
  clear hrun S1 S5 S6 k3 f3 c3' hbs c3
  go_wp2
  go_ret
  exact ⟨rfl, _, hD6.out, hG6.out⟩
end Go.Proofs.YtichojdcoegboaaGreatW
namespace Go.Proofs.YtichojdcoegboaaGreatW
open Go.RowKit
variable {w : World} {L : Loc} {s : St}
def holdAll (s : St) (l : List Cel) : St := l.foldl (fun s c => holdV s c.1 c.2) s
theorem holdAll_snoc (s : St) (l : List Cel) (c : Cel) : holdAll s (l ++ [c]) = holdV (holdAll s l) c.1 c.2 := by simp [holdAll]
theorem holdAll_same (l : List Cel) : ∀ s : St, ∃ h, holdAll s l = { s with held := h } := by
 induction l with
 | nil => exact fun s => ⟨s.held, rfl⟩
 | cons c t ih =>
  intro s
  obtain ⟨h, e⟩ := ih (holdV s c.1 c.2)
  exact ⟨h, by show holdAll (holdV s c.1 c.2) t = _; rw [e]; rfl⟩
theorem holdAll_wait (s : St) (l : List Cel) : (holdAll s l).wait = s.wait := by obtain ⟨h, e⟩ := holdAll_same l s; rw [e]
theorem holdAll_done (s : St) (l : List Cel) : (holdAll s l).done = s.done := by obtain ⟨h, e⟩ := holdAll_same l s; rw [e]
theorem holdAll_n (s : St) (l : List Cel) : (holdAll s l).n = s.n := by obtain ⟨h, e⟩ := holdAll_same l s; rw [e]
theorem holdAll_ops (s : St) (l : List Cel) : (holdAll s l).ops = s.ops := by unfold St.ops; rw [holdAll_wait, holdAll_done]
theorem take_snoc {l : List Cel} {k : Nat} {c : Cel} (h : l[k]? = some c) : l.take (k + 1) = l.take k ++ [c] := by
 rw [List.take_add_one, h]
 rfl
def barS (s : St) : St := { holdAll (letV s) s.wait with done := s.ops ++ [⟨2, 0, nought⟩], wait := [] }
theorem barS_ops (s : St) : (barS s).ops = s.ops ++ [⟨2, 0, nought⟩] := by
 show (s.ops ++ [⟨2, 0, nought⟩]) ++ List.map wrec [] = _
 simp
theorem barS_ok (h : Ok (holdAll (letV s) s.wait)) : Ok (barS s) := ⟨h.n, h.held, fun c hc => by simp [barS] at hc, h.fuse, h.made, h.reads, h.claims⟩
theorem Goes.hold {a b : World} {L : Loc} (h : Fr (fun i => i = L.hb) a b) : Goes a b L L := Goes.of rfl (fun _ q => .inl q) h fun _ _ q => .inr (.inl q)
theorem slice_of {w : World} {v : Value} {n : Nat} {xs : List Value} (h : w.ownsRow 0 98 1026 v n xs) (hn : 0 < n) : ∃ g cap, v = .slice (some ⟨g, 0, none⟩) n cap := by
 rcases h.2 with ⟨_, h⟩ | ⟨g, cap', _, h, _⟩
 ·omega
 ·exact ⟨g, cap', h⟩
theorem wpList_bar {ops : Array Oper} {rest : List Oper} {o : Oper} {a : Act} {w : World} {Q : Exit → Act → World → Prop} (hgd : o.guard = none) (ho : o.op = .build 98 #[(0, .const (.int .u8 2))])
  (h : wpList Tryz.prog ops Q rest (a.put o.dst (.agg (recCells ⟨2, 0, nought⟩).toArray)) w) : wpList Tryz.prog ops Q (o :: rest) a w :=
 wpList_plain hgd fun _ hK => by
  have e := build108b 2 w
  generalize (recCells ⟨2, 0, nought⟩).toArray = Z at *
  have e' : (execOp a.eval o).run Tryz.prog w = .ok (.value (.agg Z)) w := by simp [execOp, ho, Act.eval, e]
  unfold Oper.wp
  rw [e']
  exact hK _ _ h
set_option maxRecDepth 20000 in
theorem barrier_stopped (h : DiskAt w L s) (hs : s.stopped = true) : Calls Tryz.prog 92 #[.pointer (some ⟨L.d, 0, none⟩)] w fun e w' => e = .returned (.int .i64 3) ∧ w' = w := by
 have c7 := h.c7
 have h0 := h.c0
 rw [hs] at c7
 clear h
 go_enter Tryz.func92, Tryz.ntmps92
 go_wp2_with (first | (go_at_call 65; refine (none_no h0).mono ?_; rintro e W ⟨rfl, rfl⟩))
 go_ret
 exact ⟨rfl, rfl⟩
set_option maxRecDepth 20000 in
theorem barrier_dead (h : DiskAt w L s) (hr : Room s) (hs : s.stopped = false) (hl : lets s = false) : Calls Tryz.prog 92 #[.pointer (some ⟨L.d, 0, none⟩)] w fun e w' => e = .returned (.int .i64 3) ∧ DiskAt w' L (letV s) ∧ Goes w w' L L := by
 have c7 := h.c7
 have h0 := h.c0
 rw [hs] at c7
 have hT := letThrough_of h hr
 rw [hl] at hT
 clear h
 go_enter Tryz.func92, Tryz.ntmps92
 go_wp2_with (first | (go_at_call 65; refine (none_no h0).mono ?_; rintro e W ⟨rfl, rfl⟩) | (go_at_call 111; fail))
 refine hT.mono ?_
 rintro e W ⟨rfl, hD, hG⟩
 have HD : Hid (DiskAt W L (letV s)) := hD
 have HG2 : Hid (Goes _ W L L) := hG
 clear hD hG
 go_wp2
 go_ret
 exact ⟨rfl, HD.out, HG2.out⟩
set_option maxRecDepth 20000 in
set_option maxHeartbeats 2000000 in
theorem barrier_ok (h : DiskAt w L s) (hr : Room s) (hs : s.stopped = false) (hl : lets s = true) :
  Calls Tryz.prog 92 #[.pointer (some ⟨L.d, 0, none⟩)] w fun e w' => e = .returned (.int .i64 0) ∧ ∃ L', DiskAt w' L' (barS s) ∧ Goes w w' L L' := by
 have c7 := h.c7
 have h0 := h.c0
 rw [hs] at c7
 have hT := letThrough_of h hr
 rw [hl] at hT
 have hro := hr.ops
 clear h
 go_enter Tryz.func92, Tryz.ntmps92
 go_wp2_with (first | (go_at_call 65; refine (none_no h0).mono ?_; rintro e W ⟨rfl, he⟩; obtain rfl := he.symm) | (go_at_call 111; fail))
 refine hT.mono ?_
 rintro e W ⟨rfl, hD, hG⟩
 have hP := pending_of hD
 obtain ⟨p, cp, hp1, hp2, hp3⟩ := hD.pend
 rw [hp1, letV_wait] at hP
 rw [letV_wait] at hp2 hp3
 rw [letV_done] at hp3
 have HD : Hid (DiskAt W.drew L (letV s)) := hD.fr (Fr.drew (T := fun _ => False) W) fun _ _ q => q
 have HG2 : Hid (Goes w W.drew L L) := hG.trans ⟨rfl, fun _ q => .inl q, Fr.drew W⟩
 clear hD hG hT hp1 c7
 have HP : Hid (0 < s.wait.length → ∃ g, L.hv.ownBlock = some g ∧ p = some ⟨g, s.done.length * 1026, none⟩) := hp3
 clear hp3
 have hwl : s.wait.length < 68719476736 := by have := ops_len s; omega
 go_wp2_with (go_at_call 87; refine hP.mono ?_; rintro e W1 ⟨rfl, rfl⟩)
 clear hP
 generalize W.drew = V at *
 generalize hm : s.wait.length = m at *
 go_loopw [20] (fun s20 wx => ∃ k : Nat, k ≤ m ∧ s20 = .int .i64 k ∧ Hid (DiskAt wx L (holdAll (letV s) (s.wait.take k))) ∧ Hid (Goes w wx L L)) (fun s20 _ => m - (intOf s20).toNat)
 case atStart => exact ⟨0, by omega, rfl, HD.out, HG2.out⟩
 case round =>
  obtain ⟨k, hk, rfl, HDk, HGk⟩ := hrel
  by_cases hk2 : (k : Int) < m
  ·have hkl : k < s.wait.length := by omega
   obtain ⟨g, hg, rfl⟩ := HP.out (by omega)
   have hc : s.wait[k]? = some s.wait[k] := List.getElem?_eq_getElem hkl
   generalize s.wait[k] = c at hc
   have hop : (holdAll (letV s) (s.wait.take k)).ops[s.done.length + k]? = some (wrec c) := by rw [holdAll_ops, letV_ops]; exact ops_wait s hc
   have HDd : DiskAt wr.drew L (holdAll (letV s) (s.wait.take k)) := HDk.out.fr (Fr.drew (T := fun _ => False) wr) fun _ _ q => q
   have hpos := HDk.out.histPos hg hop
   have hblk := HDd.histBlk hg hop
   have hcw := HDd.ok.wait c (by rw [holdAll_wait, letV_wait]; exact List.mem_of_getElem? hc)
   rw [holdAll_n] at hcw
   have HH := hold_of HDd (by rw [holdAll_n]; exact hcw.1) hcw.2 hblk
   rw [← holdAll_snoc, ← take_snoc hc] at HH
   have e1 : (s.done.length + k) * 1026 = s.done.length * 1026 + k * 1026 := Nat.add_mul _ _ _
   rw [e1] at hpos HH
   have hpos' : wr.cell? ⟨g, s.done.length * 1026 + k * 1026 + 1, none⟩ = some (.int .i64 c.1) := hpos
   have HH2 : Hid (Calls Tryz.prog 32 #[.pointer (some ⟨L.d, 0, none⟩), .int .i64 c.1, .pointer (some ⟨g, s.done.length * 1026 + k * 1026 + 2, none⟩)] wr.drew fun e w' => e = .returned (.tuple #[]) ∧ DiskAt w' L (holdAll (letV s) (s.wait.take (k + 1))) ∧ Goes w w' L L) :=
    Calls.mono HH fun e w' ⟨h1, h2, h3⟩ => ⟨h1, h2, (HGk.out.trans ⟨rfl, fun _ q => .inl q, Fr.drew wr⟩).trans (Goes.hold h3)⟩
   generalize s.done.length * 1026 = D at *
   clear HH hpos hblk hop hc e1 HDk hcw HDd HGk
   go_wp2
   go_still_tail 10, (by kernel_rfl)
   change wpList _ _ _ _ _ (World.drew _)
   go_wp2_with (go_at_call 32; fail)
   refine HH2.out.mono ?_
   rintro e W2 ⟨rfl, hD2, hG2⟩
   have HD2 : Hid (DiskAt W2 L (holdAll (letV s) (s.wait.take (k + 1)))) := hD2
   have HG3 : Hid (Goes w W2 L L) := hG2
   clear hD2 hG2 HH2
   go_wp2
   exact ⟨⟨k + 1, by omega, by go_num, HD2.out, HG3.out⟩, by simp [intOf]; omega⟩
  ·obtain rfl : k = m := by omega
   have hD := HDk.out
   rw [← hm, List.take_length] at hD
   have hG := HGk.out
   clear HDk HGk HP
   have hRaw := hD.raw
   rw [holdAll_ops, letV_ops] at hRaw
   have c3 := hD.c3
   obtain ⟨p', c', h1, h2, h3, h4⟩ := hD.shape
   rw [holdAll_ops, letV_ops] at h1
   rw [h1] at c3
   have hbl := fun u => build67 ⟨2, 0, nought⟩ u
   have hh := hRaw.hist
   rw [h1] at hh
   have hl0 : 0 < (s.ops ++ [(⟨2, 0, nought⟩ : Rec)]).length := by simp
   go_wp2_with (first | refine wpList_bar rfl rfl ?_ | refine wpList_build1 rfl 49 98 (.tmp 40) rfl _ rfl (hbl _) ?_ | (at_builtin; refine wpList_pushR rfl (.tmp 39) (.tmp 41) rfl (.slice p' s.ops.length c') s.ops ⟨2, 0, nought⟩ rfl rfl hh hro ?_; intro v' W5 ho5 hF5 hw5; obtain ⟨g5, cap5, rfl⟩ := slice_of ho5 hl0; rw [← h1] at hF5 hw5; have hR5 := hRaw.histTo ho5 hF5; have k3 : W5.cell? ⟨L.d, 3, none⟩ = some L.hv := Joins.cell_of_block hR5.row 3; rw [h1] at k3; have f3 : W5.frozen? ⟨L.d, 3, none⟩ = false := Joins.unfrozen_of_block hR5.row 3) | (go_at_call 88; fail))
   have hn1 : (s.ops ++ [(⟨2, 0, nought⟩ : Rec)]).length = s.ops.length + 1 := by simp
   have hR5' : RawAt W5 ⟨L.d, L.hb, L.lb, .slice (some ⟨g5, 0, none⟩) (s.ops.length + 1) cap5⟩ (dkRow L (holdAll (letV s) s.wait)) (heldV (holdAll (letV s) s.wait)) (lateV (holdAll (letV s) s.wait)) (s.ops ++ [⟨2, 0, nought⟩]) := hn1 ▸ hR5
   have hw5' : ∀ k, (Value.slice (some ⟨g5, 0, none⟩) (s.ops.length + 1) cap5).ownBlock = some k → L.hv.ownBlock = some k ∨ wr.heap.size ≤ k := hw5
   have hR6 := hR5'.cell 3 (.slice (some ⟨g5, 0, none⟩) (s.ops.length + 1) cap5)
   have hok := barS_ok hD.ok
   clear hR5 hR5' hRaw hw5 ho5 hh hbl c3 k3 f3
   have hF6 : Fr (fun i => L.hv.ownBlock = some i ∨ i = L.d) wr (W5.setCell ⟨L.d, 3, none⟩ (.slice (some ⟨g5, 0, none⟩) (s.ops.length + 1) cap5)) :=
    (hF5.mono fun i _ q => .inl q).trans ((Fr.setCell W5 L.d 3 _).mono fun i _ q => .inr q) fun i _ q => q
   generalize W5.setCell ⟨L.d, 3, none⟩ (.slice (some ⟨g5, 0, none⟩) (s.ops.length + 1) cap5) = W6 at *
   refine (nothing_of (d := L.d) (n := (holdAll (letV s) s.wait).n) (hb := L.hb) (p := some ⟨g5, 0, none⟩) (m := s.ops.length + 1) (c := cap5) (bh := ((holdAll (letV s) s.wait).done.length : Int)) (lb := L.lb) (fu := (holdAll (letV s) s.wait).fuse) (st := (holdAll (letV s) s.wait).stopped) (ma := (holdAll (letV s) s.wait).made) (re := (holdAll (letV s) s.wait).reads) (cl := (holdAll (letV s) s.wait).claims) (cd := (holdAll (letV s) s.wait).claimed) hR6.row).mono ?_
   rintro e W7 ⟨rfl, hrow7, hM7, hF7⟩
   have hlb : L.hb < W6.heap.size := hR6.held.lt
   have hR7 := (hR6.rowTo hrow7 hF7).lateNew (b := W6.heap.size) (by show L.hb ≠ _; omega) hM7
   have hD7 : Hid (DiskAt W7 ⟨L.d, L.hb, W6.heap.size, .slice (some ⟨g5, 0, none⟩) (s.ops.length + 1) cap5⟩ (barS s)) := by
    refine RawAt.disk ?_ hok
    rw [barS_ops]
    have e1 : lateV (barS s) = fun _ => none := by funext y; rfl
    have e2 : dkRow ⟨L.d, L.hb, W6.heap.size, .slice (some ⟨g5, 0, none⟩) (s.ops.length + 1) cap5⟩ (barS s) = row12 L.d (holdAll (letV s) s.wait).n L.hb (.slice (some ⟨g5, 0, none⟩) (s.ops.length + 1) cap5) ((s.ops.length + 1 : Nat) : Int) W6.heap.size (holdAll (letV s) s.wait).fuse (holdAll (letV s) s.wait).stopped (holdAll (letV s) s.wait).made (holdAll (letV s) s.wait).reads (holdAll (letV s) s.wait).claims (holdAll (letV s) s.wait).claimed := by
     rw [← hn1]
     rfl
    rw [e1, e2]
    exact hR7
   have hG7 : Hid (Goes w W7 L ⟨L.d, L.hb, W6.heap.size, .slice (some ⟨g5, 0, none⟩) (s.ops.length + 1) cap5⟩) := by
    refine hG.trans (Goes.of (T := fun i => L.hv.ownBlock = some i ∨ i = L.d) rfl (fun i hi => ?_) (hF6.trans (hF7.mono fun i _ q => .inr q) fun i _ q => q) fun i _ q => ?_)
    ·rcases hi with q | q | q | q
     ·exact .inl (.inl q)
     ·exact .inl (.inr (.inl q))
     ·have q' : i = W6.heap.size := q
      have := hF6.size
      exact .inr (by omega)
     ·rcases hw5' i q with q | q
      ·exact .inl (.inr (.inr (.inr q)))
      ·exact .inr q
    ·rcases q with q | q
     ·exact .inr (.inr (.inr q))
     ·exact .inl q
   clear hR7 hrow7 hM7 hF7 hR6 hF6 hF5 hD hG hw5' hok hn1
   go_wp2
   go_ret
   exact ⟨rfl, _, hD7.out, hG7.out⟩
end Go.Proofs.YtichojdcoegboaaGreatW
namespace Go.Proofs.YtichojdcoegboaaGreatW
open Go.RowKit
variable {w : World} {L : Loc} {s : St}
def BoolsAt (w : World) (v : Value) (l : List Bool) : Prop := ∃ p c, v = .slice p l.length c ∧ (0 < l.length → ∃ b off, p = some ⟨b, off, none⟩ ∧ ∀ i x, l[i]? = some x → w.cell? ⟨b, off + i, none⟩ = some (.bool x))
def keptL : List Cel → List Bool → List Cel
 | c :: t, true :: k => c :: keptL t k
 | _ :: t, false :: k => keptL t k
 | _, _ => []
theorem keptL_snoc (c : Cel) (b : Bool) : ∀ (l : List Cel) (k : List Bool), l.length = k.length → keptL (l ++ [c]) (k ++ [b]) = keptL l k ++ (if b then [c] else [])
 | [], [], _ => by cases b <;> rfl
 | x :: l, y :: k, h => by
  have ih := keptL_snoc c b l k (by simpa using h)
  cases y
  ·exact ih
  ·show x :: keptL (l ++ [c]) (k ++ [b]) = _
   rw [ih]; rfl
 | [], _ :: _, h => by simp at h
 | _ :: _, [], h => by simp at h
theorem keptL_take : ∀ (l : List Cel) (k : List Bool) (n : Nat), l.length ≤ n ∨ k.length ≤ n → keptL (l.take n) (k.take n) = keptL l k
 | [], k, n, _ => by simp [keptL]
 | x :: l, [], n, _ => by cases n <;> simp [keptL]
 | x :: l, y :: k, 0, h => by simp at h
 | x :: l, y :: k, n + 1, h => by
  have ih := keptL_take l k n (by simpa using h)
  cases y
  ·exact ih
  ·show x :: keptL (l.take n) (k.take n) = x :: keptL l k
   rw [ih]
def crashS (s : St) (k : List Bool) : St := { holdAll s (keptL s.wait k) with done := [], wait := [], fuse := -1, stopped := false, claimed := false }
theorem crashS_ok {k : List Bool} (h : Ok (holdAll s (keptL s.wait k))) : Ok (crashS s k) :=
 ⟨h.n, h.held, fun c hc => by simp [crashS] at hc, ⟨by show (-1 : Int) ≤ -1; omega, by show (-1 : Int) ≤ _; omega⟩, h.made, h.reads, h.claims⟩
theorem bool_no_map {w : World} {b hb off : Nat} {m : Int → Option Value} {x : Bool} (h : w.cell? ⟨b, off, none⟩ = some (.bool x)) (hm : MapIs Tryz.prog 3 w hb m) : b ≠ hb := fun e => by
 obtain ⟨es, ck, hh⟩ := hm.isMap
 rw [e] at h
 unfold World.cell? at h
 simp only [hh] at h
 simp at h
set_option maxRecDepth 20000 in
set_option maxHeartbeats 2000000 in
theorem crash_of (h : DiskAt w L s) {kv : Value} {kl : List Bool} (hkv : BoolsAt w kv kl) (hwl : s.wait.length < 68719476736) (hkl : kl.length < 9223372036854775807) :
  Calls Tryz.prog 43 #[.pointer (some ⟨L.d, 0, none⟩), kv] w fun e w' => e = .returned (.int .i64 0) ∧ ∃ L', DiskAt w' L' (crashS s kl) ∧ Goes w w' L L' := by
 have h0 := h.c0
 have hP := pending_of h
 obtain ⟨p, cp, hp1, hp2, hp3⟩ := h.pend
 rw [hp1] at hP
 obtain ⟨q, cq, rfl, hq⟩ := hkv
 have HD : Hid (DiskAt w.drew L s) := h.fr (Fr.drew (T := fun _ => False) w) fun _ _ q => q
 have HG2 : Hid (Goes w w.drew L L) := ⟨rfl, fun _ q => .inl q, Fr.drew w⟩
 have HP : Hid (0 < s.wait.length → ∃ g, L.hv.ownBlock = some g ∧ p = some ⟨g, s.done.length * 1026, none⟩) := hp3
 have HK : Hid (0 < kl.length → ∃ b off, q = some ⟨b, off, none⟩ ∧ ∀ i x, kl[i]? = some x → w.cell? ⟨b, off + i, none⟩ = some (.bool x)) := hq
 have hM := h.held
 clear h hp1 hp3 hq
 generalize hm : s.wait.length = m at *
 generalize hn : kl.length = n at *
 rcases Nat.lt_or_ge n m with hmn | hmn
 ·have hmn' : (n : Int) < m := by omega
  go_enter Tryz.func43, Tryz.ntmps43
  go_wp2_with (first | (go_at_call 65; refine (none_no h0).mono ?_; rintro e W ⟨rfl, he⟩; obtain rfl := he.symm) | (go_at_call 87; refine hP.mono ?_; rintro e W1 ⟨rfl, rfl⟩))
  clear hP
  generalize hV : w.drew = V at *
  go_loopw [16] (fun s16 wx => ∃ k : Nat, k ≤ n ∧ s16 = .int .i64 k ∧ Hid (DiskAt wx L (holdAll s (keptL (s.wait.take k) (kl.take k)))) ∧ Hid (Goes w wx L L) ∧ Hid (Fr (fun i => i = L.hb) w wx)) (fun s16 _ => n - (intOf s16).toNat)
  case atStart => exact ⟨0, by omega, rfl, HD.out, HG2.out, by rw [← hV]; exact Fr.drew w⟩
  case round =>
   obtain ⟨k, hk, rfl, HDk, HGk, HFk⟩ := hrel
   by_cases hk2 : (k : Int) < n
   ·have hkw : k < s.wait.length := by omega
    have hkk : k < kl.length := by omega
    have hkm : (k : Int) < (m : Int) := by omega
    have hkn : (k : Int) < (n : Int) := by omega
    obtain ⟨g, hg, rfl⟩ := HP.out (by omega)
    obtain ⟨b, off, rfl, hcell⟩ := HK.out (by omega)
    have hc : s.wait[k]? = some s.wait[k] := List.getElem?_eq_getElem hkw
    have hx : kl[k]? = some kl[k] := List.getElem?_eq_getElem hkk
    generalize s.wait[k] = c at hc
    generalize kl[k] = x at hx
    have hcx := hcell k x hx
    have hbl : b ≠ L.hb := bool_no_map hcx hM
    have hblt : b < w.heap.size := by
     by_cases q : b < w.heap.size
     ·exact q
     ·unfold World.cell? at hcx
      simp only [Array.getElem?_eq_none (show w.heap.size ≤ b by omega)] at hcx
      simp at hcx
    have hcx' : wr.cell? ⟨b, off + k, none⟩ = some (.bool x) := (World.cell?_of_block (HFk.out.block b hblt hbl)).trans hcx
    have hks := keptL_snoc c x (s.wait.take k) (kl.take k) (by rw [List.length_take, List.length_take]; omega)
    rw [← take_snoc hc, ← show kl.take (k + 1) = kl.take k ++ [x] by rw [List.take_add_one, hx]; rfl] at hks
    have hop : (holdAll s (keptL (s.wait.take k) (kl.take k))).ops[s.done.length + k]? = some (wrec c) := by rw [holdAll_ops]; exact ops_wait s hc
    have HDd : DiskAt wr.drew L (holdAll s (keptL (s.wait.take k) (kl.take k))) := HDk.out.fr (Fr.drew (T := fun _ => False) wr) fun _ _ q => q
    have hpos := HDk.out.histPos hg hop
    have hblk := HDd.histBlk hg hop
    have hcw := HDd.ok.wait c (by rw [holdAll_wait]; exact List.mem_of_getElem? hc)
    rw [holdAll_n] at hcw
    have HH := hold_of HDd (by rw [holdAll_n]; exact hcw.1) hcw.2 hblk
    have e1 : (s.done.length + k) * 1026 = s.done.length * 1026 + k * 1026 := Nat.add_mul _ _ _
    rw [e1] at hpos HH
    have hpos' : wr.cell? ⟨g, s.done.length * 1026 + k * 1026 + 1, none⟩ = some (.int .i64 c.1) := hpos
    cases x
    ·rw [if_neg (by simp), List.append_nil] at hks
     have HD2 : Hid (DiskAt wr L (holdAll s (keptL (s.wait.take (k + 1)) (kl.take (k + 1))))) := hks ▸ HDk.out
     clear HH hpos hblk hop hc hx e1 HDk hcw HDd hks hcx hcell
     go_wp2
     exact ⟨⟨k + 1, by omega, by go_num, HD2.out, HGk.out, HFk.out⟩, by simp [intOf]; omega⟩
    ·rw [if_pos rfl] at hks
     rw [← holdAll_snoc, ← hks] at HH
     have HH2 : Hid (Calls Tryz.prog 32 #[.pointer (some ⟨L.d, 0, none⟩), .int .i64 c.1, .pointer (some ⟨g, s.done.length * 1026 + k * 1026 + 2, none⟩)] wr.drew fun e w' => e = .returned (.tuple #[]) ∧ DiskAt w' L (holdAll s (keptL (s.wait.take (k + 1)) (kl.take (k + 1)))) ∧ Goes w w' L L ∧ Fr (fun i => i = L.hb) w w') :=
      Calls.mono HH fun e w' ⟨h1, h2, h3⟩ => ⟨h1, h2, (HGk.out.trans ⟨rfl, fun _ q => .inl q, Fr.drew wr⟩).trans (Goes.hold h3), (HFk.out.trans (Fr.drew wr) fun _ _ q => q).trans h3 fun _ _ q => q⟩
     generalize s.done.length * 1026 = D at *
     clear HH hpos hblk hop hc hx e1 HDk hcw HDd HGk hks hcx hcell HFk
     go_wp2
     go_still_tail 10, (by kernel_rfl)
     change wpList _ _ _ _ _ (World.drew _)
     go_wp2_with (go_at_call 32; fail)
     refine HH2.out.mono ?_
     rintro e W2 ⟨rfl, hD2, hG2, hF2⟩
     have HD2 : Hid (DiskAt W2 L (holdAll s (keptL (s.wait.take (k + 1)) (kl.take (k + 1))))) := hD2
     have HG3 : Hid (Goes w W2 L L) := hG2
     have HF3 : Hid (Fr (fun i => i = L.hb) w W2) := hF2
     clear hD2 hG2 HH2 hF2
     go_wp2
     exact ⟨⟨k + 1, by omega, by go_num, HD2.out, HG3.out, HF3.out⟩, by simp [intOf]; omega⟩
   ·obtain rfl : k = n := by omega
    have hD := HDk.out
    rw [keptL_take _ _ _ (by omega)] at hD
    have hG := HGk.out
    clear HDk HGk HP HK HFk
    have hok := crashS_ok (k := kl) hD.ok
    have k3 := hD.c3
    have f3 := hD.free 3
    obtain ⟨p', c', h1, _⟩ := hD.shape
    rw [h1] at k3
    have hR6 : RawAt (wr.setCell ⟨L.d, 3, none⟩ (.slice none 0 0)) ⟨L.d, L.hb, L.lb, .slice none 0 0⟩ ((dkRow L (holdAll s (keptL s.wait kl))).setIfInBounds 3 (.slice none 0 0)) (heldV (holdAll s (keptL s.wait kl))) (lateV (holdAll s (keptL s.wait kl))) [] := by
     have hr := hD.raw.cell 3 (.slice none 0 0)
     exact ⟨hr.row, hr.held, hr.late, World.ownsRow_nil _ 0 98 1026, hr.ne⟩
    have hF6 : Fr (fun i => i = L.d) wr (wr.setCell ⟨L.d, 3, none⟩ (.slice none 0 0)) := Fr.setCell wr L.d 3 _
    clear hD
    go_wp2_with (go_at_call 88; fail)
    generalize wr.setCell ⟨L.d, 3, none⟩ (.slice none 0 0) = W6 at *
    refine (nothing_of (d := L.d) (n := (holdAll s (keptL s.wait kl)).n) (hb := L.hb) (p := none) (m := 0) (c := 0) (bh := ((holdAll s (keptL s.wait kl)).done.length : Int)) (lb := L.lb) (fu := (holdAll s (keptL s.wait kl)).fuse) (st := (holdAll s (keptL s.wait kl)).stopped) (ma := (holdAll s (keptL s.wait kl)).made) (re := (holdAll s (keptL s.wait kl)).reads) (cl := (holdAll s (keptL s.wait kl)).claims) (cd := (holdAll s (keptL s.wait kl)).claimed) hR6.row).mono ?_
    rintro e W7 ⟨rfl, hrow7, hM7, hF7⟩
    have hlb : L.hb < W6.heap.size := hR6.held.lt
    have hR7 := (hR6.rowTo hrow7 hF7).lateNew (b := W6.heap.size) (by show L.hb ≠ _; omega) hM7
    have c6 : W7.cell? ⟨L.d, 6, none⟩ = some (.int .i64 (holdAll s (keptL s.wait kl)).fuse) := Joins.cell_of_block hrow7 6
    have c7 : W7.cell? ⟨L.d, 7, none⟩ = some (.bool (holdAll s (keptL s.wait kl)).stopped) := Joins.cell_of_block hrow7 7
    have c11 : W7.cell? ⟨L.d, 11, none⟩ = some (.bool (holdAll s (keptL s.wait kl)).claimed) := Joins.cell_of_block hrow7 11
    have f6 : W7.frozen? ⟨L.d, 6, none⟩ = false := Joins.unfrozen_of_block hrow7 6
    have f7 : W7.frozen? ⟨L.d, 7, none⟩ = false := Joins.unfrozen_of_block hrow7 7
    have f11 : W7.frozen? ⟨L.d, 11, none⟩ = false := Joins.unfrozen_of_block hrow7 11
    have hD8 : Hid (DiskAt (((W7.setCell ⟨L.d, 6, none⟩ (.int .i64 (-1))).setCell ⟨L.d, 7, none⟩ (.bool false)).setCell ⟨L.d, 11, none⟩ (.bool false)) ⟨L.d, L.hb, W6.heap.size, .slice none 0 0⟩ (crashS s kl)) :=
     RawAt.disk (((hR7.cell 6 (.int .i64 (-1))).cell 7 (.bool false)).cell 11 (.bool false)) hok
    have hF8 : Fr (fun i => i = L.d) wr (((W7.setCell ⟨L.d, 6, none⟩ (.int .i64 (-1))).setCell ⟨L.d, 7, none⟩ (.bool false)).setCell ⟨L.d, 11, none⟩ (.bool false)) :=
     (hF6.trans hF7 fun _ _ q => q).trans (((Fr.setCell _ L.d 6 _).trans (Fr.setCell _ L.d 7 _) fun _ _ q => q).trans (Fr.setCell _ L.d 11 _) fun _ _ q => q) fun _ _ q => q
    have hG8 : Hid (Goes w (((W7.setCell ⟨L.d, 6, none⟩ (.int .i64 (-1))).setCell ⟨L.d, 7, none⟩ (.bool false)).setCell ⟨L.d, 11, none⟩ (.bool false)) L ⟨L.d, L.hb, W6.heap.size, .slice none 0 0⟩) := by
     refine hG.trans (Goes.of (T := fun i => i = L.d) rfl (fun i hi => ?_) hF8 fun i _ q => .inl q)
     rcases hi with q | q | q | q
     ·exact .inl (.inl q)
     ·exact .inl (.inr (.inl q))
     ·have q' : i = W6.heap.size := q
      have := hF6.size
      exact .inr (by omega)
     ·simp [Value.ownBlock] at q
    clear hR7 hrow7 hM7 hF7 hR6 hF6 hG hok hF8
    go_wp2
    go_ret
    exact ⟨rfl, _, hD8.out, hG8.out⟩
 ·have hmn' : (m : Int) ≤ n := by omega
  go_enter Tryz.func43, Tryz.ntmps43
  go_wp2_with (first | (go_at_call 65; refine (none_no h0).mono ?_; rintro e W ⟨rfl, he⟩; obtain rfl := he.symm) | (go_at_call 87; refine hP.mono ?_; rintro e W1 ⟨rfl, rfl⟩))
  clear hP
  generalize hV : w.drew = V at *
  go_loopw [16] (fun s16 wx => ∃ k : Nat, k ≤ m ∧ s16 = .int .i64 k ∧ Hid (DiskAt wx L (holdAll s (keptL (s.wait.take k) (kl.take k)))) ∧ Hid (Goes w wx L L) ∧ Hid (Fr (fun i => i = L.hb) w wx)) (fun s16 _ => m - (intOf s16).toNat)
  case atStart => exact ⟨0, by omega, rfl, HD.out, HG2.out, by rw [← hV]; exact Fr.drew w⟩
  case round =>
   obtain ⟨k, hk, rfl, HDk, HGk, HFk⟩ := hrel
   by_cases hk2 : (k : Int) < m
   ·have hkw : k < s.wait.length := by omega
    have hkk : k < kl.length := by omega
    have hkm : (k : Int) < (m : Int) := by omega
    have hkn : (k : Int) < (n : Int) := by omega
    obtain ⟨g, hg, rfl⟩ := HP.out (by omega)
    obtain ⟨b, off, rfl, hcell⟩ := HK.out (by omega)
    have hc : s.wait[k]? = some s.wait[k] := List.getElem?_eq_getElem hkw
    have hx : kl[k]? = some kl[k] := List.getElem?_eq_getElem hkk
    generalize s.wait[k] = c at hc
    generalize kl[k] = x at hx
    have hcx := hcell k x hx
    have hbl : b ≠ L.hb := bool_no_map hcx hM
    have hblt : b < w.heap.size := by
     by_cases q : b < w.heap.size
     ·exact q
     ·unfold World.cell? at hcx
      simp only [Array.getElem?_eq_none (show w.heap.size ≤ b by omega)] at hcx
      simp at hcx
    have hcx' : wr.cell? ⟨b, off + k, none⟩ = some (.bool x) := (World.cell?_of_block (HFk.out.block b hblt hbl)).trans hcx
    have hks := keptL_snoc c x (s.wait.take k) (kl.take k) (by rw [List.length_take, List.length_take]; omega)
    rw [← take_snoc hc, ← show kl.take (k + 1) = kl.take k ++ [x] by rw [List.take_add_one, hx]; rfl] at hks
    have hop : (holdAll s (keptL (s.wait.take k) (kl.take k))).ops[s.done.length + k]? = some (wrec c) := by rw [holdAll_ops]; exact ops_wait s hc
    have HDd : DiskAt wr.drew L (holdAll s (keptL (s.wait.take k) (kl.take k))) := HDk.out.fr (Fr.drew (T := fun _ => False) wr) fun _ _ q => q
    have hpos := HDk.out.histPos hg hop
    have hblk := HDd.histBlk hg hop
    have hcw := HDd.ok.wait c (by rw [holdAll_wait]; exact List.mem_of_getElem? hc)
    rw [holdAll_n] at hcw
    have HH := hold_of HDd (by rw [holdAll_n]; exact hcw.1) hcw.2 hblk
    have e1 : (s.done.length + k) * 1026 = s.done.length * 1026 + k * 1026 := Nat.add_mul _ _ _
    rw [e1] at hpos HH
    have hpos' : wr.cell? ⟨g, s.done.length * 1026 + k * 1026 + 1, none⟩ = some (.int .i64 c.1) := hpos
    cases x
    ·rw [if_neg (by simp), List.append_nil] at hks
     have HD2 : Hid (DiskAt wr L (holdAll s (keptL (s.wait.take (k + 1)) (kl.take (k + 1))))) := hks ▸ HDk.out
     clear HH hpos hblk hop hc hx e1 HDk hcw HDd hks hcx hcell
     go_wp2
     exact ⟨⟨k + 1, by omega, by go_num, HD2.out, HGk.out, HFk.out⟩, by simp [intOf]; omega⟩
    ·rw [if_pos rfl] at hks
     rw [← holdAll_snoc, ← hks] at HH
     have HH2 : Hid (Calls Tryz.prog 32 #[.pointer (some ⟨L.d, 0, none⟩), .int .i64 c.1, .pointer (some ⟨g, s.done.length * 1026 + k * 1026 + 2, none⟩)] wr.drew fun e w' => e = .returned (.tuple #[]) ∧ DiskAt w' L (holdAll s (keptL (s.wait.take (k + 1)) (kl.take (k + 1)))) ∧ Goes w w' L L ∧ Fr (fun i => i = L.hb) w w') :=
      Calls.mono HH fun e w' ⟨h1, h2, h3⟩ => ⟨h1, h2, (HGk.out.trans ⟨rfl, fun _ q => .inl q, Fr.drew wr⟩).trans (Goes.hold h3), (HFk.out.trans (Fr.drew wr) fun _ _ q => q).trans h3 fun _ _ q => q⟩
     generalize s.done.length * 1026 = D at *
     clear HH hpos hblk hop hc hx e1 HDk hcw HDd HGk hks hcx hcell HFk
     go_wp2
     go_still_tail 10, (by kernel_rfl)
     change wpList _ _ _ _ _ (World.drew _)
     go_wp2_with (go_at_call 32; fail)
     refine HH2.out.mono ?_
     rintro e W2 ⟨rfl, hD2, hG2, hF2⟩
     have HD2 : Hid (DiskAt W2 L (holdAll s (keptL (s.wait.take (k + 1)) (kl.take (k + 1))))) := hD2
     have HG3 : Hid (Goes w W2 L L) := hG2
     have HF3 : Hid (Fr (fun i => i = L.hb) w W2) := hF2
     clear hD2 hG2 HH2 hF2
     go_wp2
     exact ⟨⟨k + 1, by omega, by go_num, HD2.out, HG3.out, HF3.out⟩, by simp [intOf]; omega⟩
   ·obtain rfl : k = m := by omega
    have hD := HDk.out
    rw [keptL_take _ _ _ (by omega)] at hD
    have hG := HGk.out
    clear HDk HGk HP HK HFk
    have hok := crashS_ok (k := kl) hD.ok
    have k3 := hD.c3
    have f3 := hD.free 3
    obtain ⟨p', c', h1, _⟩ := hD.shape
    rw [h1] at k3
    have hR6 : RawAt (wr.setCell ⟨L.d, 3, none⟩ (.slice none 0 0)) ⟨L.d, L.hb, L.lb, .slice none 0 0⟩ ((dkRow L (holdAll s (keptL s.wait kl))).setIfInBounds 3 (.slice none 0 0)) (heldV (holdAll s (keptL s.wait kl))) (lateV (holdAll s (keptL s.wait kl))) [] := by
     have hr := hD.raw.cell 3 (.slice none 0 0)
     exact ⟨hr.row, hr.held, hr.late, World.ownsRow_nil _ 0 98 1026, hr.ne⟩
    have hF6 : Fr (fun i => i = L.d) wr (wr.setCell ⟨L.d, 3, none⟩ (.slice none 0 0)) := Fr.setCell wr L.d 3 _
    clear hD
    go_wp2_with (go_at_call 88; fail)
    generalize wr.setCell ⟨L.d, 3, none⟩ (.slice none 0 0) = W6 at *
    refine (nothing_of (d := L.d) (n := (holdAll s (keptL s.wait kl)).n) (hb := L.hb) (p := none) (m := 0) (c := 0) (bh := ((holdAll s (keptL s.wait kl)).done.length : Int)) (lb := L.lb) (fu := (holdAll s (keptL s.wait kl)).fuse) (st := (holdAll s (keptL s.wait kl)).stopped) (ma := (holdAll s (keptL s.wait kl)).made) (re := (holdAll s (keptL s.wait kl)).reads) (cl := (holdAll s (keptL s.wait kl)).claims) (cd := (holdAll s (keptL s.wait kl)).claimed) hR6.row).mono ?_
    rintro e W7 ⟨rfl, hrow7, hM7, hF7⟩
    have hlb : L.hb < W6.heap.size := hR6.held.lt
    have hR7 := (hR6.rowTo hrow7 hF7).lateNew (b := W6.heap.size) (by show L.hb ≠ _; omega) hM7
    have c6 : W7.cell? ⟨L.d, 6, none⟩ = some (.int .i64 (holdAll s (keptL s.wait kl)).fuse) := Joins.cell_of_block hrow7 6
    have c7 : W7.cell? ⟨L.d, 7, none⟩ = some (.bool (holdAll s (keptL s.wait kl)).stopped) := Joins.cell_of_block hrow7 7
    have c11 : W7.cell? ⟨L.d, 11, none⟩ = some (.bool (holdAll s (keptL s.wait kl)).claimed) := Joins.cell_of_block hrow7 11
    have f6 : W7.frozen? ⟨L.d, 6, none⟩ = false := Joins.unfrozen_of_block hrow7 6
    have f7 : W7.frozen? ⟨L.d, 7, none⟩ = false := Joins.unfrozen_of_block hrow7 7
    have f11 : W7.frozen? ⟨L.d, 11, none⟩ = false := Joins.unfrozen_of_block hrow7 11
    have hD8 : Hid (DiskAt (((W7.setCell ⟨L.d, 6, none⟩ (.int .i64 (-1))).setCell ⟨L.d, 7, none⟩ (.bool false)).setCell ⟨L.d, 11, none⟩ (.bool false)) ⟨L.d, L.hb, W6.heap.size, .slice none 0 0⟩ (crashS s kl)) :=
     RawAt.disk (((hR7.cell 6 (.int .i64 (-1))).cell 7 (.bool false)).cell 11 (.bool false)) hok
    have hF8 : Fr (fun i => i = L.d) wr (((W7.setCell ⟨L.d, 6, none⟩ (.int .i64 (-1))).setCell ⟨L.d, 7, none⟩ (.bool false)).setCell ⟨L.d, 11, none⟩ (.bool false)) :=
     (hF6.trans hF7 fun _ _ q => q).trans (((Fr.setCell _ L.d 6 _).trans (Fr.setCell _ L.d 7 _) fun _ _ q => q).trans (Fr.setCell _ L.d 11 _) fun _ _ q => q) fun _ _ q => q
    have hG8 : Hid (Goes w (((W7.setCell ⟨L.d, 6, none⟩ (.int .i64 (-1))).setCell ⟨L.d, 7, none⟩ (.bool false)).setCell ⟨L.d, 11, none⟩ (.bool false)) L ⟨L.d, L.hb, W6.heap.size, .slice none 0 0⟩) := by
     refine hG.trans (Goes.of (T := fun i => i = L.d) rfl (fun i hi => ?_) hF8 fun i _ q => .inl q)
     rcases hi with q | q | q | q
     ·exact .inl (.inl q)
     ·exact .inl (.inr (.inl q))
     ·have q' : i = W6.heap.size := q
      have := hF6.size
      exact .inr (by omega)
     ·simp [Value.ownBlock] at q
    clear hR7 hrow7 hM7 hF7 hR6 hF6 hG hok hF8
    go_wp2
    go_ret
    exact ⟨rfl, _, hD8.out, hG8.out⟩
end Go.Proofs.YtichojdcoegboaaGreatW
namespace Go.Proofs.YtichojdcoegboaaGreatW
open Go.RowKit
variable {w : World} {L : Loc} {s : St}
def iRow (f : Nat → Int) (n : Nat) : Array Value := ((List.range n).map fun i => Value.int .i64 (f i)).toArray
theorem iRow_size (f : Nat → Int) (n : Nat) : (iRow f n).size = n := by simp [iRow]
theorem iRow_get (f : Nat → Int) (n i : Nat) (h : i < n) : (iRow f n)[i]? = some (.int .i64 (f i)) := by simp [iRow, h]
theorem iRow_set (f : Nat → Int) (n i : Nat) (x : Int) : (iRow f n).setIfInBounds i (.int .i64 x) = iRow (upd f i x) n := by
 apply Array.ext_getElem?
 intro j
 by_cases hj : j < n
 ·rw [iRow_get _ _ _ hj, Array.getElem?_setIfInBounds]
  by_cases e : i = j
  ·subst e; simp [iRow_size, hj, upd]
  ·have e' : ¬ j = i := fun q => e q.symm
   simp [e, e', iRow_get _ _ _ hj, upd]
 ·rw [Array.getElem?_eq_none (by rw [Array.size_setIfInBounds, iRow_size]; omega), Array.getElem?_eq_none (by rw [iRow_size]; omega)]
theorem info3b : (Tryz.prog.info? 3).map (fun i => (i.zero, i.size, i.bytes)) = some (some (.int .i64 0), 1, 8) := by kernel_rfl
theorem made_ints (n : Nat) : madeCells #[.int .i64 0] n = iRow nought n := by
 apply Array.ext_getElem?
 intro j
 by_cases hj : j < n
 ·rw [iRow_get _ _ _ hj]
  simp [madeCells, hj, nought, Nat.mod_one]
 ·rw [Array.getElem?_eq_none (by simp [madeCells]; omega), Array.getElem?_eq_none (by rw [iRow_size]; omega)]
theorem run_make65 (u : World) (n : Nat) (hn : n * 8 ≤ 281474976710656) :
  (Instr.makeSlice 90 (.int .i64 (n : Int)) (.int .i64 (n : Int))).run Tryz.prog u = .ok (.slice (some ⟨u.heap.size, 0, none⟩) n n) (u.alloc (.cells (iRow nought n) 3)) := by
 obtain ⟨i0, hi0, hz0, hz1, hz2⟩ := info_parts info3b
 have h := run_make (P := Tryz.prog) u 90 3 i0 (.int .i64 0) Tryz.underlying90 hi0 hz0 .i64 .i64 n n (by omega) (Int.le_refl _) (by rw [hz2]; omega) (by omega)
 rw [Int.toNat_natCast, hz1] at h
 rw [h]
 simp [Value.cells, made_ints]
def posF (l : List Cel) (i : Nat) : Int := match l[i]? with
 | some c => c.1
 | none => 0
def firstI (f : Nat → Int) (k : Nat) : Nat → Int := fun i => if i < k then f i else 0
theorem firstI_next (f : Nat → Int) (k : Nat) : upd (firstI f k) k (f k) = firstI f (k + 1) := firsts_next f k
theorem iRow_congr {f g : Nat → Int} {n : Nat} (h : ∀ i, i < n → f i = g i) : iRow f n = iRow g n := by
 apply Array.ext_getElem?
 intro j
 by_cases hj : j < n
 ·rw [iRow_get _ _ _ hj, iRow_get _ _ _ hj, h j hj]
 ·rw [Array.getElem?_eq_none (by rw [iRow_size]; omega), Array.getElem?_eq_none (by rw [iRow_size]; omega)]
set_option maxRecDepth 20000 in
set_option maxHeartbeats 1000000 in
theorem pend_of (h : DiskAt w L s) (hwl : s.wait.length < 68719476736) :
  Calls Tryz.prog 63 #[.pointer (some ⟨L.d, 0, none⟩)] w fun e w' => e = .returned (.slice (some ⟨w.heap.size, 0, none⟩) s.wait.length s.wait.length) ∧ w'.heap[w.heap.size]? = some (.cells (iRow (posF s.wait) s.wait.length) 3) ∧ Below w.heap.size w w' := by
 have h0 := h.c0
 have hP := pending_of h
 obtain ⟨p, cp, hp1, hp2, hp3⟩ := h.pend
 rw [hp1] at hP
 have HP : Hid (0 < s.wait.length → ∃ g, L.hv.ownBlock = some g ∧ p = some ⟨g, s.done.length * 1026, none⟩) := hp3
 have HD : Hid (DiskAt w L s) := h
 clear h hp1 hp3
 generalize hm : s.wait.length = m at *
 have hmk := fun u => run_make65 u m (by omega)
 go_enter Tryz.func63, Tryz.ntmps63
 go_wp2_with (first | (go_at_call 65; refine (none_no h0).mono ?_; rintro e W ⟨rfl, he⟩; obtain rfl := he.symm) | (go_at_call 87; refine hP.mono ?_; rintro e W1 ⟨rfl, rfl⟩))
 have hS : Hid ((w.alloc (.cells (iRow nought m) 3)).drew.heap[w.heap.size]? = some (.cells (iRow (firstI (posF s.wait) 0) m) 3)) := by
  rw [show iRow (firstI (posF s.wait) 0) m = iRow nought m from iRow_congr fun i _ => by simp [firstI, nought]]
  exact heap_alloc_new w _
 have hB : Hid (Below w.heap.size w (w.alloc (.cells (iRow nought m) 3)).drew) := (below_new w _).drew
 clear hP hmk
 generalize (w.alloc (.cells (iRow nought m) 3)).drew = V at *
 go_loopw [15] (fun s15 wx => ∃ k : Nat, k ≤ m ∧ s15 = .int .i64 k ∧ Hid (wx.heap[w.heap.size]? = some (.cells (iRow (firstI (posF s.wait) k) m) 3)) ∧ Hid (Below w.heap.size w wx)) (fun s15 _ => m - (intOf s15).toNat)
 case atStart => exact ⟨0, by omega, rfl, hS.out, hB.out⟩
 case round =>
  obtain ⟨k, hk, rfl, HS, HB⟩ := hrel
  clear hS hB
  by_cases hk2 : (k : Int) < m
  ·have hkl : k < s.wait.length := by omega
   obtain ⟨g, hg, rfl⟩ := HP.out (by omega)
   have hc : s.wait[k]? = some s.wait[k] := List.getElem?_eq_getElem hkl
   generalize s.wait[k] = c at hc
   have hpos := (HD.out.later HB.out).histPos hg (ops_wait s hc)
   have e1 : (s.done.length + k) * 1026 = s.done.length * 1026 + k * 1026 := Nat.add_mul _ _ _
   rw [e1] at hpos
   have hpf : posF s.wait k = c.1 := by unfold posF; rw [hc]
   have hpos' : wr.cell? ⟨g, s.done.length * 1026 + k * 1026 + 1, none⟩ = some (.int .i64 c.1) := hpos
   have ck : wr.cell? ⟨w.heap.size, k, none⟩ = some (.int .i64 (firstI (posF s.wait) k k)) := (Joins.cell_of_block HS.out k).trans (iRow_get _ _ _ (by omega))
   have fk : wr.frozen? ⟨w.heap.size, k, none⟩ = false := Joins.unfrozen_of_block HS.out k
   have HS2 : Hid ((wr.setCell ⟨w.heap.size, k, none⟩ (.int .i64 c.1)).heap[w.heap.size]? = some (.cells (iRow (firstI (posF s.wait) (k + 1)) m) 3)) := by
    have q := Joins.block_setCell HS.out (i := k) (.int .i64 c.1)
    rw [iRow_set, ← hpf, firstI_next] at q
    rw [← hpf]
    exact q
   have HB2 : Hid (Below w.heap.size w (wr.setCell ⟨w.heap.size, k, none⟩ (.int .i64 c.1))) := HB.out.setCell (Nat.le_refl _) _
   generalize s.done.length * 1026 = D at *
   generalize firstI (posF s.wait) k k = X at ck
   clear HS HB hpos hc e1 hpf
   go_wp2
   exact ⟨⟨k + 1, by omega, by go_num, HS2.out, HB2.out⟩, by simp [intOf]; omega⟩
  ·obtain rfl : k = m := by omega
   have HS2 : Hid (wr.heap[w.heap.size]? = some (.cells (iRow (posF s.wait) k) 3)) := by
    have q := HS.out
    rw [show iRow (firstI (posF s.wait) k) k = iRow (posF s.wait) k from iRow_congr fun i hi => by simp [firstI, hi]] at q
    exact q
   clear HS
   go_wp2
   go_ret
   exact ⟨rfl, HS2.out, HB.out⟩
theorem run_copy_wide {P : Program} (w : World) (dT sT ty elem : TypeId) (sz : Nat) (g o dLen dCap : Nat) (a : Addr) (sLen sCap : Nat) (cur : Array Value) (t : TypeId) (cs : List Value)
  (hu : P.underlying dT = some (.slice elem)) (hs : (P.info? elem).map (·.size) = some sz)
  (hg : w.heap[g]? = some (.cells cur t (0, 0))) (hn : cs.length = Nat.min sLen dLen * sz)
  (hsrc : ∀ j v, cs[j]? = some v → w.cell? (a.add j) = some v) (hfit : o + cs.length ≤ cur.size) (h1 : ∀ v ∈ cs, v.oneCell' = true) :
  (Builtin.copy_ #[dT, sT] ty #[.slice (some ⟨g, o, none⟩) dLen dCap, .slice (some a) sLen sCap]).run P w =
   .ok (goInt (Nat.min sLen dLen)) (w.setRow g (cur.toList.take o ++ cs ++ cur.toList.drop (o + cs.length)).toArray) := by
 have hl := run_loadCells_list (P := P) w a cs hsrc
 have hst := run_storeCells_at P g o t cs 0 cur w hg (by simpa using hfit) h1
 cases hq : P.info? elem with
 | none => simp [hq] at hs
 | some i =>
  have hi : i.size = sz := by simpa [hq] using hs
  simp [Builtin.copy_, run_underlying hu, Builtin.lenOf, Builtin.firstCells, sizeOf, typeInfo, hq, hi, ← hn, hl, hst]
theorem size108 : (Tryz.prog.info? 98).map (·.size) = some 1026 := by
 obtain ⟨i0, hi0, hz0, hz1, hz2⟩ := info_parts info108
 rw [hi0]
 exact congrArg some hz1
theorem run_make67 (u : World) (n : Nat) (hn : n * 1040 ≤ 281474976710656) :
  ∃ cur, cur.size = n * 1026 ∧ (Instr.makeSlice 49 (.int .i64 (n : Int)) (.int .i64 (n : Int))).run Tryz.prog u = .ok (.slice (some ⟨u.heap.size, 0, none⟩) n n) (u.alloc (.cells cur 98)) := by
 obtain ⟨i0, hi0, hz0, hz1, hz2⟩ := info_parts info108
 have h := run_make (P := Tryz.prog) u 49 98 i0 _ Tryz.underlying49 hi0 hz0 .i64 .i64 n n (by omega) (Int.le_refl _) (by rw [hz2]; omega) (by omega)
 rw [Int.toNat_natCast, hz1] at h
 exact ⟨_, by simp [madeCells], h⟩
theorem wpList_copyH {ops : Array Oper} {rest : List Oper} {o : Oper} {a : Act} {W W' : World} {Q : Exit → Act → World → Prop} (hgd : o.guard = none) (s x : Operand)
  (ho : o.op = .call { callee := .builtin .copy, args := #[s, x], argTypes := #[49, 49] }) (v v' : Value) (hs : a.eval s = v) (hx : a.eval x = v') (n : Nat)
  (hr : ∀ ty, (Builtin.copy_ #[49, 49] ty #[v, v']).run Tryz.prog W = .ok (goInt n) W') (h : wpList Tryz.prog ops Q rest (a.put o.dst (goInt n)) W') : wpList Tryz.prog ops Q (o :: rest) a W := by
 refine wpList_plain hgd fun K' hK' => ?_
 unfold Oper.wp
 simp [execOp, ho, resolve, invoke, builtin, hs, hx, hr, Result.andThen]
 exact hK' _ _ h
set_option maxRecDepth 20000 in
set_option maxHeartbeats 1000000 in
theorem history_of (h : DiskAt w L s) (hol : s.ops.length < 68719476736) :
  Calls Tryz.prog 10 #[.pointer (some ⟨L.d, 0, none⟩)] w fun e w' => e = .returned (.slice (some ⟨w.heap.size, 0, none⟩) s.ops.length s.ops.length) ∧ w'.heap[w.heap.size]? = some (.cells (opCells s.ops).toArray 98) ∧ Below w.heap.size w w' := by
 have h0 := h.c0
 have c3 := h.c3
 obtain ⟨p, c, h1, h2, h3, h4⟩ := h.shape
 rw [h1] at c3
 obtain ⟨cur, hcs, hmk⟩ := run_make67 w s.ops.length (by omega)
 have hnew := heap_alloc_new w (.cells cur 98)
 have hcl := opCells_len s.ops
 have hcopy : ∃ W', (∀ ty, (Builtin.copy_ #[49, 49] ty #[.slice (some ⟨w.heap.size, 0, none⟩) s.ops.length s.ops.length, .slice p s.ops.length c]).run Tryz.prog (w.alloc (.cells cur 98)) = .ok (goInt s.ops.length) W') ∧ W'.heap[w.heap.size]? = some (.cells (opCells s.ops).toArray 98) ∧ Below w.heap.size w W' := by
  rcases h4 with ⟨rfl, h5⟩ | ⟨g, rfl, h6, hlt⟩
  ·have hn0 : s.ops.length = 0 := by omega
   refine ⟨w.alloc (.cells cur 98), fun ty => ?_, ?_, below_new w _⟩
   ·have q := run_copy_nil (P := Tryz.prog) (w.alloc (.cells cur 98)) 49 49 ty 98 ⟨w.heap.size, 0, none⟩ s.ops.length s.ops.length Tryz.underlying49 (by rw [size108]; rfl)
    rw [hn0, h5] at *
    exact q
   ·rw [hnew]
    have e1 : s.ops = [] := List.length_eq_zero_iff.1 hn0
    have e2 : cur = #[] := Array.size_eq_zero_iff.1 (by rw [hcs, hn0])
    rw [e1, e2]
    rfl
  ·have hsrc : ∀ j v, (opCells s.ops)[j]? = some v → (w.alloc (.cells cur 98)).cell? ((⟨g, 0, none⟩ : Addr).add j) = some v := fun j v hv => by
    have q := h.hist.cells (g := g) (by rw [h1]; rfl) j v hv
    rw [Go.WideShapes.add_plain] at q ⊢
    rw [World.cell?_alloc_past _ _ _ hlt]
    exact q
   have h1c : ∀ v ∈ opCells s.ops, v.oneCell' = true := fun v hv => by
    obtain ⟨r, _, hr⟩ := List.mem_flatMap.1 hv
    exact recCells_one r v hr
   have q := fun ty => run_copy_wide (P := Tryz.prog) (w.alloc (.cells cur 98)) 49 49 ty 98 1026 w.heap.size 0 s.ops.length s.ops.length ⟨g, 0, none⟩ s.ops.length c cur 98 (opCells s.ops) Tryz.underlying49 size108 hnew (by rw [hcl]; exact congrArg (· * 1026) (Nat.min_self _).symm) hsrc (by rw [hcl, hcs]; omega) h1c
   have e3 : (cur.toList.take 0 ++ opCells s.ops ++ cur.toList.drop (0 + (opCells s.ops).length)).toArray = (opCells s.ops).toArray := by
    rw [List.take_zero, List.nil_append, List.drop_eq_nil_of_le (by rw [Array.length_toList, hcs, hcl]; omega), List.append_nil]
   rw [e3] at q
   refine ⟨_, fun ty => (q ty).trans (by rw [show Nat.min s.ops.length s.ops.length = s.ops.length from Nat.min_self _]), setRow_heap _ _ _ _ _ _ hnew, below_setRow (below_new w _) (Nat.le_refl _) _⟩
 obtain ⟨W', hr, hh, hb⟩ := hcopy
 have HH : Hid (W'.heap[w.heap.size]? = some (.cells (opCells s.ops).toArray 98)) := hh
 have HB : Hid (Below w.heap.size w W') := hb
 have hlt : L.d < w.heap.size := h.lt L.d (.inl rfl)
 have c3' : (w.alloc (.cells cur 98)).cell? ⟨L.d, 3, none⟩ = some (.slice p s.ops.length c) := by rw [World.cell?_alloc_past _ _ _ hlt]; exact c3
 clear h hh hb hnew hcl h4 h2 h3 hcs h1
 generalize s.ops.length = m at *
 go_enter Tryz.func10, Tryz.ntmps10
 go_wp2_with (first | (go_at_call 65; refine (none_no h0).mono ?_; rintro e W ⟨rfl, he⟩; obtain rfl := he.symm) | refine wpList_copyH rfl (.tmp 12) (.tmp 16) rfl _ _ rfl rfl m hr ?_)
 go_ret
 exact ⟨rfl, HH.out, HB.out⟩
end Go.Proofs.YtichojdcoegboaaGreatW
