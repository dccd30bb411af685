/- Write: a block is pending behind all that is, or the error; for every disk, number and block. -/
import Derived.Test.YtbnbbelkddbndaaRead
import Derived.Test.YtbnbbelkddbndaaRaw
import Derived.Test.YtbnbbelkddbndaaFork
namespace Go.Proofs.Ytbnbbelkddbndaa
open Go.RowKit
variable {w : World} {L : Loc} {s : St}

section
variable {P : Program} {ops : Array Oper} {Q : Exit → Act → World → Prop} {S : World → Prop} {r : List (Bool × Oper)} {a : Act} {w w' : World} {o : Oper} {v : Value}
theorem wpOrd_run (hw : Region.wanted o (yielded ops a.tmps) = true) (hr : (execOp a.eval o).run P w = .ok (.value v) w') (hS : S w') (h : wpOrd P ops Q S r (a.put o.dst v) w') : wpOrd P ops Q S ((false, o) :: r) a w := by
  simp only [wpOrd, hw, if_true]
  unfold Oper.wp
  rw [hr]
  exact ⟨hS, h⟩
theorem wpOrd_do (hw : Region.wanted o (yielded ops a.tmps) = true) (hr : (execOp a.eval o).run P w = .ok .skip w') (hS : S w') (h : wpOrd P ops Q S r (a.put o.dst undef) w') : wpOrd P ops Q S ((false, o) :: r) a w := by
  simp only [wpOrd, hw, if_true]
  unfold Oper.wp
  rw [hr]
  exact ⟨hS, h⟩
end
def writeS (s : St) (k : Int) (f : Nat → Int) : St := { letV s with wait := s.wait ++ [(k, f)] }
theorem letV_wait (s : St) : (letV s).wait = s.wait := by unfold letV; split <;> rfl
theorem letV_done (s : St) : (letV s).done = s.done := by unfold letV; split <;> rfl
theorem letV_held (s : St) : (letV s).held = s.held := by unfold letV; split <;> rfl
theorem letV_n (s : St) : (letV s).n = s.n := by unfold letV; split <;> rfl
theorem letV_ops (s : St) : (letV s).ops = s.ops := by unfold St.ops; rw [letV_wait, letV_done]
theorem writeS_ok (h : Ok s) {k : Int} (hk : 0 ≤ k ∧ k < s.n) {f : Nat → Int} (hf : Can f) : Ok (writeS s k f) := by
  have h1 := letV_ok h
  refine ⟨h1.n, h1.held, fun c hc => ?_, h1.fuse, h1.made, h1.reads, h1.claims⟩
  have hc' : c ∈ s.wait ∨ c = (k, f) := by simpa [writeS] using hc
  show (0 ≤ c.1 ∧ c.1 < (letV s).n) ∧ Can c.2
  rw [letV_n]
  rcases hc' with h2 | rfl
  · exact h.wait c h2
  · exact ⟨hk, hf⟩
theorem writeS_ops (s : St) (k : Int) (f : Nat → Int) : (writeS s k f).ops = s.ops ++ [⟨1, k, f⟩] := by
  show (letV s).done ++ (s.wait ++ [(k, f)]).map wrec = _
  rw [letV_done]
  unfold St.ops
  simp [wrec]
theorem writeS_late (s : St) (k : Int) (f : Nat → Int) : lateV (writeS s k f) = fun y => if y = k then some (.int .i64 ((s.ops.length : Nat) : Int)) else lateV (letV s) y := by
  funext y
  show (lastAt (s.wait ++ [(k, f)]) y).map (fun i => Value.int .i64 (((letV s).done.length + i : Nat) : Int)) = _
  rw [lastAt_snoc, letV_done, ops_len]
  by_cases e : y = k
  · rw [if_pos e, if_pos (by exact e.symm)]
    rfl
  · rw [if_neg e, if_neg (fun q => e q.symm)]
    unfold lateV
    rw [letV_done, letV_wait]

set_option maxRecDepth 20000 in
theorem write_bad (h : DiskAt w L s) {k : Int} (hb : refV s k ≠ 0) (f : Nat → Int) :
    Calls Try.prog 33 #[.pointer (some ⟨L.d, 0, none⟩), .int .i64 k, .agg (blk f)] w fun e w' => e = .returned (.int .i64 (refV s k)) ∧ Below w.heap.size w w' := by
  have hR := refuses_of (h.later (below_new w (.cells (blk f) 40))) k
  have hne : (refV s k != 0) = true := by simp [hb]
  clear h hb
  generalize refV s k = r at *
  go_enter Try.func33, Try.ntmps33
  go_wp2_with (first | (go_at_call 72; refine hR.mono ?_; rintro e W ⟨rfl, rfl⟩))
  go_ret
  exact ⟨rfl, below_new _ _⟩
set_option maxRecDepth 20000 in
theorem write_dead (h : DiskAt w L s) (hr : Room s) {k : Int} (hb : refV s k = 0) (hl : lets s = false) (f : Nat → Int) :
    Calls Try.prog 33 #[.pointer (some ⟨L.d, 0, none⟩), .int .i64 k, .agg (blk f)] w fun e w' => e = .returned (.int .i64 3) ∧ DiskAt w' L (letV s) ∧ Goes w w' L L := by
  have D1 := h.later (below_new w (.cells (blk f) 40))
  have hR := refuses_of D1 k
  rw [hb] at hR
  have hT := letThrough_of D1 hr
  rw [hl] at hT
  have HG : Hid (Goes w (w.alloc (.cells (blk f) 40)) L L) := Goes.ofBelow L (below_new _ _)
  clear h hb D1
  go_enter Try.func33, Try.ntmps33
  go_wp2_with (first | (go_at_call 72; refine hR.mono ?_; rintro e W ⟨rfl, rfl⟩) | (go_at_call 69; fail))
  refine hT.mono ?_
  rintro e W ⟨rfl, hD, hG⟩
  have HD : Hid (DiskAt W L (letV s)) := hD
  have HG2 : Hid (Goes _ W L L) := hG
  clear hD hG
  go_wp2
  go_ret
  exact ⟨rfl, HD.out, HG.out.trans HG2.out⟩
set_option maxRecDepth 20000 in
set_option maxHeartbeats 2000000 in
theorem write_ok (h : DiskAt w L s) (hr : Room s) {k : Int} (hb : refV s k = 0) (hl : lets s = true) {f : Nat → Int} (hf : Can f) :
    Calls Try.prog 33 #[.pointer (some ⟨L.d, 0, none⟩), .int .i64 k, .agg (blk f)] w fun e w' => e = .returned (.int .i64 0) ∧ ∃ L', DiskAt w' L' (writeS s k f) ∧ Goes w w' L L' := by
  have D1 := h.later (below_new w (.cells (blk f) 40))
  have hR := refuses_of D1 k
  rw [hb] at hR
  have hT := letThrough_of D1 hr
  rw [hl] at hT
  obtain ⟨_, hk⟩ := refV_ok hb
  have hin := inTop_of h.ok hk
  have hok := writeS_ok h.ok hk hf
  have HG : Hid (Goes w (w.alloc (.cells (blk f) 40)) L L) := Goes.ofBelow L (below_new _ _)
  have hL : ∀ i, L.has i → i < w.heap.size := h.lt
  have hro := hr.ops
  have hB0 := heap_alloc_new w (.cells (blk f) 40)
  have hsz : w.heap.size < (w.alloc (.cells (blk f) 40)).heap.size := by simp
  clear h hb D1 hr
  go_enter Try.func33, Try.ntmps33
  go_wp2_with (first | (go_at_call 72; refine hR.mono ?_; rintro e W ⟨rfl, rfl⟩) | (go_at_call 69; fail))
  refine hT.mono ?_
  rintro e W ⟨rfl, hD, hG⟩
  have hB : W.heap[w.heap.size]? = some (.cells (blk f) 40) := (hG.fr.block w.heap.size hsz fun q => by have := hL _ q; omega).trans hB0
  have HG2 : Hid (Goes w W L L) := HG.out.trans hG
  clear hG HG hR hT hsz hB0
  generalize hg0 : w.heap.size = g0 at *
  obtain ⟨p, c, h1, h2, h3, h4⟩ := hD.shape
  rw [letV_ops] at h1 h2
  have c3 := hD.c3
  have c5 := hD.c5
  rw [h1] at c3
  have hLate := hD.late
  have HR : Hid (RawAt W L (dkRow L (letV s)) (heldV (letV s)) (lateV (letV s)) (letV s).ops) := hD.raw
  clear hD h4
  go_wp2
  go_still_tail 10, (by kernel_rfl)
  change wpList _ _ _ _ _ (World.drew _)
  refine wpList_putM rfl (.tmp 20) (.tmp 21) (.tmp 26) 105 rfl 3 Try.underlying3 keyed3 Try.underlying105 L.lb _ rfl (hLate.kept (w' := W.drew) rfl) k hin rfl (.int .i64 ((s.ops.length : Nat) : Int)) rfl ?_
  intro W3 hm3 hg3
  have hF3 : Fr (fun i => i = L.lb) W W3 := (Fr.drew W).trans ((Fr.ofGrown hg3).mono fun i _ q => by injection q with q; exact q.symm) fun _ _ q => q
  rw [← writeS_late s k f] at hm3
  have hR3 := HR.out.lateTo hm3 hF3
  have hB3 : W3.heap[g0]? = some (.cells (blk f) 40) := (hF3.block g0 (Array.getElem?_eq_some_iff.1 hB).1 fun q => by have := hL L.lb (.inr (.inr (.inl rfl))); omega).trans hB
  have hG3 : Goes w W3 L L := HG2.out.trans (Goes.of rfl (fun _ q => .inl q) hF3 fun i _ q => .inr (.inr (.inl q)))
  clear HR HG2 hm3 hg3 hF3 hLate c3 c5 hB
  have hR4 : RawAt W3.drew L (dkRow L (letV s)) (heldV (letV s)) (lateV (writeS s k f)) (letV s).ops := hR3.fr (Fr.drew (T := fun _ => False) W3) fun _ _ q => q
  have hG4 : Goes w W3.drew L L := hG3.trans ⟨rfl, fun _ q => .inl q, Fr.drew W3⟩
  have hB4 : W3.drew.heap[g0]? = some (.cells (blk f) 40) := hB3
  clear hR3 hG3 hB3
  go_wp2
  refine wp_region_fork (S := fun u => u.heap[g0]? = some (.cells (blk f) 40)) [0, 1, 2, 3, 5, 6, 7] 4 8 [(9, false), (10, true), (11, true), (12, false)] (by kernel_rfl) rfl (by kernel_rfl) (fun d _ _ _ _ h => by cases d <;> exact h) hB4 ?_
  simp only [Act.put]
  generalize W3.drew = V at *
  have hlt : g0 < V.heap.size := (Array.getElem?_eq_some_iff.1 hB4).1
  have c3 : V.cell? ⟨L.d, 3, none⟩ = some L.hv := Joins.cell_of_block hR4.row 3
  rw [h1] at c3
  refine wpFork_yield (v := .pointer (some ⟨L.d, 0, none⟩)) rfl rfl (fun u _ => by simp [execOp, Act.eval]) ?_
  simp only [Act.put, List.setIfInBounds_toArray, List.set_cons_succ, List.set_cons_zero]
  refine wpFork_yield (v := .pointer (some ⟨L.d, 0, none⟩)) rfl rfl (fun u _ => by simp [execOp, Act.eval]) ?_
  simp only [Act.put, List.setIfInBounds_toArray, List.set_cons_succ, List.set_cons_zero]
  refine wpFork_yield (v := .pointer (some ⟨L.d, 0, none⟩)) rfl rfl (fun u _ => by go_simp) ?_
  simp only [Act.put, List.setIfInBounds_toArray, List.set_cons_succ, List.set_cons_zero]
  refine wpFork_yield (v := .pointer (some ⟨L.d, 3, none⟩)) rfl rfl (fun u _ => by go_simp) ?_
  simp only [Act.put, List.setIfInBounds_toArray, List.set_cons_succ, List.set_cons_zero]
  refine wpFork_yield (v := .int .i64 k) rfl rfl (fun u _ => by simp [execOp, Act.eval]) ?_
  simp only [Act.put, List.setIfInBounds_toArray, List.set_cons_succ, List.set_cons_zero]
  refine wpFork_yield (v := .agg (blk f)) rfl rfl (fun u hu => by
    unfold execOp
    simp only [Act.eval]
    have e := loadM (BlkAt.of hu)
    change Sem.run Try.prog (Instr.loadAt 40 (.pointer (some ⟨g0, 0, none⟩)) >>= fun v => pure (Next.value v)) u = _
    simp only [Sem.run_bind, e, Result.andThen_ok, Sem.run_pure]) ?_
  simp only [Act.put, List.setIfInBounds_toArray, List.set_cons_succ, List.set_cons_zero]
  refine wpFork_yield (v := .agg (recCells ⟨1, k, f⟩).toArray) rfl rfl (fun u hu => by
    have e := build108 1 k f u
    simp [execOp, Act.eval, e]) ?_
  simp only [Act.put, List.setIfInBounds_toArray, List.set_cons_succ, List.set_cons_zero]
  have hro' : (letV s).ops.length < 68719476736 := by rw [letV_ops]; exact hro
  obtain ⟨v', W5, hrun, ho5, hF5, hw5⟩ := push_run (W := V) (v := L.hv) ⟨1, k, f⟩ 25 hR4.hist hro'
  obtain ⟨g5, cap5, rfl⟩ : ∃ g5 cap5, v' = Value.slice (some ⟨g5, 0, none⟩) (s.ops ++ [(⟨1, k, f⟩ : Rec)]).length cap5 := by
    rw [letV_ops] at ho5
    rcases ho5.2 with ⟨_, h⟩ | ⟨g, cap', _, h, _⟩
    · simp at h
    · exact ⟨g, cap', h⟩
  have hR5 := hR4.histTo ho5 hF5
  have hD6 : Hid (DiskAt (W5.setCell ⟨L.d, 3, none⟩ (Value.slice (some ⟨g5, 0, none⟩) (s.ops ++ [(⟨1, k, f⟩ : Rec)]).length cap5)) ⟨L.d, L.hb, L.lb, Value.slice (some ⟨g5, 0, none⟩) (s.ops ++ [(⟨1, k, f⟩ : Rec)]).length cap5⟩ (writeS s k f)) := by
    refine RawAt.disk ?_ hok
    have h6 := hR5.cell 3 (Value.slice (some ⟨g5, 0, none⟩) (s.ops ++ [(⟨1, k, f⟩ : Rec)]).length cap5)
    rw [letV_ops] at h6
    rw [writeS_ops]
    exact h6
  have hG6 : Hid (Goes w (W5.setCell ⟨L.d, 3, none⟩ (Value.slice (some ⟨g5, 0, none⟩) (s.ops ++ [(⟨1, k, f⟩ : Rec)]).length cap5)) L ⟨L.d, L.hb, L.lb, Value.slice (some ⟨g5, 0, none⟩) (s.ops ++ [(⟨1, k, f⟩ : Rec)]).length cap5⟩) := by
    refine hG4.trans (Goes.of (T := fun i => L.hv.ownBlock = some i ∨ i = L.d) rfl (fun i hi => ?_) ((hF5.mono fun i _ q => .inl q).trans ((Fr.setCell W5 L.d 3 _).mono fun i _ q => .inr q) fun i _ q => q) fun i _ q => ?_)
    · rcases hi with q | q | q | q
      · exact .inl (.inl q)
      · exact .inl (.inr (.inl q))
      · exact .inl (.inr (.inr (.inl q)))
      · rcases hw5 i q with q | q
        · exact .inl (.inr (.inr (.inr q)))
        · exact .inr q
    · rcases q with q | q
      · exact .inr (.inr (.inr q))
      · exact .inl q
  have S1 := heap_kept hB4 (below_new V (.cells (recCells ⟨1, k, f⟩).toArray 42))
  have S5 : W5.heap[g0]? = some (.cells (blk f) 40) := (hF5.block g0 hlt fun q => by have := hL g0 (.inr (.inr (.inr q))); omega).trans hB4
  have S6 : (W5.setCell ⟨L.d, 3, none⟩ (Value.slice (some ⟨g5, 0, none⟩) (s.ops ++ [(⟨1, k, f⟩ : Rec)]).length cap5)).heap[g0]? = some (.cells (blk f) 40) :=
    (Below.heap_setCell _ _ _ _ (by show g0 ≠ L.d; have := hL L.d (.inl rfl); omega)).trans S5
  have k3 : W5.cell? ⟨L.d, 3, none⟩ = some L.hv := Joins.cell_of_block hR5.row 3
  have f3 : W5.frozen? ⟨L.d, 3, none⟩ = false := Joins.unfrozen_of_block hR5.row 3
  have hdl : L.d < V.heap.size := hR4.lt L.d (.inl rfl)
  have c3' : (V.alloc (.cells (recCells ⟨1, k, f⟩).toArray 42)).cell? ⟨L.d, 3, none⟩ = some (.slice p s.ops.length c) := by rw [World.cell?_alloc_past _ _ _ hdl]; exact c3
  have hbs := build67 ⟨1, k, f⟩ V
  rw [h1] at hrun k3
  clear hR5 hR4 hF5 hw5 ho5 hG4 hok hro'
  generalize hrl : (s.ops ++ [(⟨1, k, f⟩ : Rec)]).length = m5 at *
  generalize hrc : (recCells ⟨1, k, f⟩).toArray = RC at *
  refine wpFork_nil rfl rfl ?_ ?_
  · simp only [inOrd, List.getElem?_cons_zero, List.getElem?_cons_succ]
    refine wpOrd_run (v := .slice p s.ops.length c) (w' := V) rfl (by go_simp) hB4 ?_
    simp only [Act.put, List.setIfInBounds_toArray, List.set_cons_succ, List.set_cons_zero]
    refine wpOrd_run (v := .slice (some ⟨V.heap.size, 0, none⟩) 1 1) (w' := V.alloc (.cells RC 42)) rfl (by simp [execOp, Act.eval, hbs]) S1 ?_
    simp only [Act.put, List.setIfInBounds_toArray, List.set_cons_succ, List.set_cons_zero]
    refine wpOrd_run (v := .slice (some ⟨g5, 0, none⟩) m5 cap5) (w' := W5) rfl (by simp [execOp, Act.eval, resolve, invoke, builtin, hrun, Result.andThen]) S5 ?_
    simp only [Act.put, List.setIfInBounds_toArray, List.set_cons_succ, List.set_cons_zero]
    refine wpOrd_yield (v := .pointer (some ⟨L.d, 0, none⟩)) rfl (fun u _ => by go_simp) ?_
    simp only [Act.put, List.setIfInBounds_toArray, List.set_cons_succ, List.set_cons_zero]
    refine wpOrd_yield (v := .pointer (some ⟨L.d, 3, none⟩)) rfl (fun u _ => by go_simp) ?_
    simp only [Act.put, List.setIfInBounds_toArray, List.set_cons_succ, List.set_cons_zero]
    refine wpOrd_do (w' := W5.setCell ⟨L.d, 3, none⟩ (.slice (some ⟨g5, 0, none⟩) m5 cap5)) rfl (by go_simp) S6 ?_
    refine wpOrd_nil ?_
    simp only [Act.put]
    generalize W5.setCell ⟨L.d, 3, none⟩ (.slice (some ⟨g5, 0, none⟩) m5 cap5) = Y at *
    clear hrun S1 S5 S6 k3 f3 c3' hbs c3
    go_wp2
    go_ret
    exact ⟨rfl, _, hD6.out, hG6.out⟩
  · simp only [inOrd, List.getElem?_cons_zero, List.getElem?_cons_succ]
    refine wpOrd_run (v := .slice (some ⟨V.heap.size, 0, none⟩) 1 1) (w' := V.alloc (.cells RC 42)) rfl (by simp [execOp, Act.eval, hbs]) S1 ?_
    simp only [Act.put, List.setIfInBounds_toArray, List.set_cons_succ, List.set_cons_zero]
    refine wpOrd_run (v := .slice p s.ops.length c) (w' := V.alloc (.cells RC 42)) rfl (by go_simp) S1 ?_
    simp only [Act.put, List.setIfInBounds_toArray, List.set_cons_succ, List.set_cons_zero]
    refine wpOrd_run (v := .slice (some ⟨g5, 0, none⟩) m5 cap5) (w' := W5) rfl (by simp [execOp, Act.eval, resolve, invoke, builtin, hrun, Result.andThen]) S5 ?_
    simp only [Act.put, List.setIfInBounds_toArray, List.set_cons_succ, List.set_cons_zero]
    refine wpOrd_yield (v := .pointer (some ⟨L.d, 0, none⟩)) rfl (fun u _ => by go_simp) ?_
    simp only [Act.put, List.setIfInBounds_toArray, List.set_cons_succ, List.set_cons_zero]
    refine wpOrd_yield (v := .pointer (some ⟨L.d, 3, none⟩)) rfl (fun u _ => by go_simp) ?_
    simp only [Act.put, List.setIfInBounds_toArray, List.set_cons_succ, List.set_cons_zero]
    refine wpOrd_do (w' := W5.setCell ⟨L.d, 3, none⟩ (.slice (some ⟨g5, 0, none⟩) m5 cap5)) rfl (by go_simp) S6 ?_
    refine wpOrd_nil ?_
    simp only [Act.put]
    generalize W5.setCell ⟨L.d, 3, none⟩ (.slice (some ⟨g5, 0, none⟩) m5 cap5) = Y at *
    clear hrun S1 S5 S6 k3 f3 c3' hbs c3
    go_wp2
    go_ret
    exact ⟨rfl, _, hD6.out, hG6.out⟩
end Go.Proofs.Ytbnbbelkddbndaa
