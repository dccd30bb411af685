/- What is no desk: the law's look at it answers true; DeskNil; no condition. -/
import Derived.Test.YtpghalekcgnefaaDk8
import Derived.Test.YtpghalekcgnefaaDk4
namespace Go.Proofs.Ytpghalekcgnefaa
open Go.RowKit Go.Maps
attribute [local go_sem] Oper.semAt_some
attribute [local simp, local go_sem] wide_fn wide_depth
theorem NoDesk.later {w w' : World} {v : Value} (h : NoDesk w v) (hb : Below w.heap.size w w') : NoDesk w' v := by
  rcases h with h | ⟨g, h1, h2⟩
  · exact .inl h
  · exact .inr ⟨g, h1, (hb.cell (p := ⟨g, 0, none⟩) (World.block_lt_of_cell? w _ h2)).trans h2⟩
set_option maxRecDepth 20000 in
theorem full_none {w : World} {v : Value} (h : NoDesk w v) : Calls Try.prog 14 #[v] w fun e w' => e = .returned (.bool false) ∧ Below w.heap.size w w' := by
  have hn := fun q => none_yes (w := w.drewN q) (h.later (belowN (Below.refl _ _) q))
  go_enter Try.func14, Try.ntmps14
  go_wp2
  go_quiet (first | (go_at_call 26; exact Calls.quiet_of_same (hn _)))
  go_wp2
  go_ret
  exact ⟨rfl, belowN (Below.refl _ _) _⟩
theorem all1_nil {w : World} {g : Nat} {y : Value} (c0 : w.cell? ⟨g, 0, none⟩ = some (.slice none 0 0)) : Calls Try.prog 28 #[y, .pointer (some ⟨g, 0, none⟩)] w fun e w' => e = .returned (.tuple #[]) ∧ w' = w := by
  go_enter Try.func28, Try.ntmps28
  go_wp2
  refine wp_loop_once ?_
  go_wp2
  exact bodyPost_end (results_none rfl _ _ _) rfl ⟨rfl, rfl⟩
/-- A range over a function that calls nothing: no round. -/
theorem rangeNone {P : Program} {n : Nat} {g : Operand} {ps : Array Tmp} {assign body : Code} {Q : Exit → Act → World → Prop} {a : Act} {w : World} {gf : Nat} {lb : Array Value} (hg : a.eval g = .func (.func gf) #[] lb) (eg : ∀ args w, (callFunc gf args).run P w = .ok (.enter gf args) w)
    (hcall : ∀ l W1, Below w.heap.size w W1 → Calls P gf (#[.func (.yield l) #[] #[]] ++ lb) W1 fun e w' => (∃ v, e = .returned v) ∧ w' = W1)
    (hdone : ∀ W, Below w.heap.size w W → W.heap[w.heap.size]? = some (.deferred (some [])) → Q .normal { a with defers := { target := .collected w.heap.size, args := #[] } :: a.defers } W) :
    (Code.rangeFunc g ps assign body).wpIn Fence.wide n P Q a w := by
  refine wpIn_rangeFunc ?_
  intro fn hfn
  obtain ⟨rec, hrec⟩ : ∃ rec : LoopState → Loop, rec = fun st => { state := st, pending := none, fn, tmps := a.tmps, params := ps, assign, body, defers := w.heap.size } := ⟨_, rfl⟩
  obtain ⟨W1, hW1⟩ : ∃ W1, (w.alloc (.deferred (some []))).alloc (.loop (rec .ready)) = W1 := ⟨_, rfl⟩
  have hL1 : W1.heap[w.heap.size + 1]? = some (.loop (rec .ready)) := by
    rw [← hW1]; have := World.alloc_heap_new (w.alloc (.deferred (some []))) (.loop (rec .ready)); rwa [World.size_alloc] at this
  have hK1 : W1.heap[w.heap.size]? = some (.deferred (some [])) := by
    rw [← hW1]; exact (Below.heap_alloc _ _ _ (by simp)).trans (World.alloc_heap_new w _)
  have hb1 : Below w.heap.size w W1 := by
    rw [← hW1]; exact ((Below.refl _ w).alloc (Nat.le_refl _) _).alloc (by simp) _
  refine ⟨w.heap.size + 1, [{ target := .collected w.heap.size, args := #[] }], W1, { target := .fn (.func gf) lb, args := #[.func (.yield (w.heap.size + 1)) #[] #[]] }, W1, gf, #[.func (.yield (w.heap.size + 1)) #[] #[]] ++ lb, W1, ?_, ?_, ?_, ?_, ?_, ?_⟩
  · rw [← hW1, hrec]; exact run_enterLoop_outer _ _ _ _ _
  · simp only [resolve, hg]
    simp [go_sem]
  · intro f' hf'; trivial
  · simp [invoke, go_sem, eg]
  · intro h; simp [Fence.wide] at h
  · refine callsIn_wide.2 ((hcall _ W1 hb1).mono ?_)
    rintro e w' ⟨⟨v, rfl⟩, rfl⟩
    refine ⟨none, _, by have := run_endLoop (P := P) hL1 (by rw [hrec]; simp); rw [hrec] at this; exact this, hdone _ ?_ ?_⟩
    · exact hb1.trans (belowK_b (w := w) (Nat.le_refl _) w' (w.heap.size + 1) _ _ (by omega) hL1 rfl rfl)
    · rw [World.putObj_heap_other (by omega)]; exact hK1
theorem eqlSeq (lb : Array Value) (w : World) : (binOp BinOp.eql 50 (.func (.func 28) #[] lb) .nilFunc).run Try.prog w = .ok (.bool false) w := by kernel_rfl
set_option maxRecDepth 100000 in
set_option maxHeartbeats 4000000 in
theorem empty_in {w : World} {v : Value} (h : NoDesk w v) (k : Int) : CallsIn Fence.wide 3 Try.prog 18 #[v, .int .i64 k] w fun e w' => e = .returned (.bool true) ∧ Below w.heap.size w w' := by
  have heq := eqlSeq
  have HV : Hid (NoDesk w v) := h
  refine callsIn_of_wp_marks Try.func18 rfl trivial ?_ rfl
  simp only [Try.ntmps18, List.size_toArray, List.length_cons, List.length_nil, Nat.reduceAdd, Nat.reduceSub, Array.replicate_succ, Array.replicate_zero, List.push_toArray, List.append_toArray, List.nil_append, List.cons_append]
  clear h
  gi_wp2_with (first | (gi_at_call 15; refine (callsIn_wide.2 (drop_none HV.out k)).mono ?_; rintro e W ⟨rfl, hW⟩; obtain rfl := hW.symm) | (gi_at_call 19; refine (callsIn_wide.2 (all_none HV.out)).mono ?_; rintro e W1 ⟨q, rfl, hq1, hq2, hb1⟩))
  have HQ : Hid (W1.cell? ⟨q, 0, none⟩ = some (.slice none 0 0)) := hq1
  have HB1 : Hid (Below w.heap.size w W1) := hb1
  have hq3 : q < W1.heap.size := World.block_lt_of_cell? W1 _ hq1
  clear hq1 hb1
  have hr : (W1.alloc (.cells #[.int .i64 0] 3)).heap[W1.heap.size]? = some (.cells #[.int .i64 0] 3) := heap_alloc_new _ _
  have HB2 : Hid (Below w.heap.size w (W1.alloc (.cells #[.int .i64 0] 3))) := below_next HB1.out (below_new _ _)
  have HQ2 : Hid ((W1.alloc (.cells #[.int .i64 0] 3)).cell? ⟨q, 0, none⟩ = some (.slice none 0 0)) := ((below_new W1 _).cell (p := ⟨q, 0, none⟩) hq3).trans HQ.out
  have hq4 : q < (W1.alloc (.cells #[.int .i64 0] 3)).heap.size := World.block_lt_of_cell? _ _ HQ2.out
  have HR : Hid ((W1.alloc (.cells #[.int .i64 0] 3)).heap[W1.heap.size]? = some (.cells #[.int .i64 0] 3)) := hr
  clear hr HQ
  generalize W1.alloc (.cells #[.int .i64 0] 3) = V at *
  refine rangeNone rfl (enters_of Try.func28 (by kernel_rfl) rfl) (fun l X hX => (all1_nil ((hX.cell (p := ⟨q, 0, none⟩) hq4).trans HQ2.out)).mono (fun e w' h => ⟨⟨_, h.1⟩, h.2⟩)) ?_
  intro W2 hB2 hD
  have c8 : W2.cell? ⟨W1.heap.size, 0, none⟩ = some (.int .i64 0) := Joins.cell_of_block (heap_kept HR.out hB2) 0
  have HBB : Hid (Below w.heap.size w W2) := below_next HB2.out hB2
  have HC8 : Hid (W2.heap[W1.heap.size]? = some (.cells #[.int .i64 0] 3)) := heap_kept HR.out hB2
  have HV2 : Hid (NoDesk W2 v) := HV.out.later HBB.out
  have HD : Hid (W2.heap[V.heap.size]? = some (.deferred (some []))) := hD
  have hfl := full_none HV2.out
  clear hD hB2 HR HQ2
  gi_wp2_with (first | (gi_at_call 13; refine (callsIn_wide.2 (hold_none HV2.out k)).mono ?_; rintro e W ⟨rfl, hW⟩; obtain rfl := hW.symm) | (gi_at_call 16; refine (callsIn_wide.2 (holds_none HV2.out k)).mono ?_; rintro e W ⟨rfl, hW⟩; obtain rfl := hW.symm) | (gi_at_call 17; refine (callsIn_wide.2 (len_none HV2.out)).mono ?_; rintro e W ⟨rfl, hW⟩; obtain rfl := hW.symm) | (gi_at_call 14; fail))
  refine (callsIn_wide.2 hfl).mono ?_
  rintro e W3 ⟨rfl, hb3⟩
  have c9 : W3.cell? ⟨W1.heap.size, 0, none⟩ = some (.int .i64 0) := Joins.cell_of_block (heap_kept HC8.out hb3) 0
  have hD3 : W3.heap[V.heap.size]? = some (.deferred (some [])) := heap_kept HD.out hb3
  have HB3 : Hid (Below w.heap.size w W3) := below_next HBB.out hb3
  have HD3 : Hid (W3.heap[V.heap.size]? = some (.deferred (some []))) := hD3
  clear hfl hb3 c8 HD hD3
  gi_wp2
  refine ⟨by simp, .inl ⟨_, _, rfl, run_takeDeferred HD3.out, ?_⟩⟩
  refine ⟨.bool true, ?_, rfl, HB3.out.trans (belowK_b (w := w) (Nat.le_refl _) W3 V.heap.size _ _ (by have := HB2.out.size; omega) HD3.out rfl rfl)⟩
  simp [results]
theorem empty_ok {w : World} {v : Value} (h : NoDesk w v) (k : Int) : Calls Try.prog 18 #[v, .int .i64 k] w fun e w' => e = .returned (.bool true) ∧ Below w.heap.size w w' := callsIn_wide.1 (empty_in h k)
set_option maxRecDepth 20000 in
theorem deskNil_walk (k : Int) (w : World) : Calls Try.prog 5 #[.int .i64 k] w fun e w' => e = .returned (.bool true) ∧ Below w.heap.size w w' := by
  have h1 := empty_ok (w := w) (v := .pointer none) (.inl rfl) k
  go_enter Try.func5, Try.ntmps5
  go_wp2_with (first | (go_at_call 18; fail))
  refine h1.mono ?_
  rintro e W1 ⟨rfl, hb1⟩
  have HB1 : Hid (Below w.heap.size w W1) := hb1
  clear hb1 h1
  go_wp2_with (first | (go_at_call 18; fail))
  have hr : (W1.alloc (.cells #[.pointer none, .int .i64 0, .map none] 47)).heap[W1.heap.size]? = some (.cells #[.pointer none, .int .i64 0, .map none] 47) := heap_alloc_new _ _
  have hd : NoDesk (W1.alloc (.cells #[.pointer none, .int .i64 0, .map none] 47)) (.pointer (some ⟨W1.heap.size, 0, none⟩)) := .inr ⟨_, rfl, Joins.cell_of_block hr 0⟩
  refine (empty_ok hd k).mono ?_
  rintro e W2 ⟨rfl, hb2⟩
  have HB2 : Hid (Below w.heap.size w W2) := below_next (below_next HB1.out (below_new _ _)) hb2
  clear hb2 hr hd
  go_wp2_with (first | (go_at_call 10; fail))
  refine (dlives_ok _).mono ?_
  rintro e W3 ⟨rfl, hb3⟩
  have HB3 : Hid (Below w.heap.size w W3) := below_next HB2.out hb3
  clear hb3
  go_wp2
  go_ret
  exact ⟨rfl, HB3.out⟩
end Go.Proofs.Ytpghalekcgnefaa
