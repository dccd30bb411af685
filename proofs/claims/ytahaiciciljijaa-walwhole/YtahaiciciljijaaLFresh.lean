/- The law's own function fresh: a log on a disk of noughts; for every geometry that may be. -/
import Derived.Test.YtahaiciciljijaaLives
namespace Go.Proofs.Ytahaiciciljijaa
open Go.RowKit Go.Maps
theorem ret4 {fn : Func} {p q r u : Tmp} {ty : TypeId} {R : Ending → World → Prop} {a : Act} {w : World} (h : fn.results = #[.tmp p, .tmp q, .cell r ty, .tmp u]) (g : Nat) (cs : Array Value)
    (hp : a.tmps.getD r undef = .pointer (some ⟨g, 0, none⟩)) (hl : (loadVar ty ⟨g, 0, none⟩).run Try.prog w = .ok (.agg cs) w)
    (hdf : a.defers = []) (hR : R (.returned (.tuple #[a.tmps.getD p undef, a.tmps.getD q undef, .agg cs, a.tmps.getD u undef])) w) : bodyPost Try.prog fn R .ret a w := by
  refine bodyPost_ret ?_ hdf hR
  generalize a.tmps = T at *
  simp only [Array.getD_eq_getD_getElem?] at hp
  simp [results, h, hp, asAddr, hl]
theorem exec_storeL {a : Act} {o : Oper} {u : World} {x y : Operand} (ho : o.op = .store 31 x y) (g : Nat) (cs c0 : Array Value) (hs : cs.size = 9) (hs0 : c0.size = 9) (h1 : cs.all (·.oneCell') = true) (hx : a.eval x = .pointer (some ⟨g, 0, none⟩)) (hy : a.eval y = .agg cs) (hg : u.heap[g]? = some (.cells c0 31)) :
    (execOp a.eval o).run Try.prog u = .ok .skip (u.setRow g cs) := by
  have hz : (Try.prog.info? 31).map (·.size) = some cs.size := by rw [hs]; exact H.size25L
  unfold execOp
  simp only [ho, hx, hy, Instr.storeAt, Instr.sureAddr, Sem.run_bind, Sem.run_pure, Result.andThen_ok, run_storeVar_row u g 31 31 c0 cs hg hz (by rw [hs, hs0]) h1]
theorem newV_ops (n : Int) : (newV n).ops = [] := rfl
theorem rm_new (n : Int) : Rm (newV n) 3 := by
  refine ⟨?_, ?_, ?_, ?_⟩
  · rw [newV_ops]; decide
  · show (0 : Int) + 3 < _; omega
  · show (0 : Int) + 3 < _; omega
  · show (0 : Int) + 3 < _; omega
theorem layA_one (b l i : Int) : (layA b l i).all (·.oneCell') = true := H.lay_one _ _ _ _ _ _ _ _ _
/-- A block beside is written, and let go. -/
theorem LS.outside {w W W' : World} {g d c mb : Nat} {v : Value} {x : LSt} {s : CSt} {t : St} {os ks : List (Nat × Obj)} {q : Nat} (h : LS w W g d c mb v x s t os ks) (hf : Fr (fun k => k = q) W W') (hq : w.heap.size ≤ q) (hm : ∃ o, (q, o) ∈ ks) : LogSit w W' g d x s t [] := by
  obtain ⟨o, ho⟩ := hm
  have hne : ∀ k, LHas g mb v k → k ≠ q := fun k hk e => h.ap _ ho (by rw [← e]; exact hk)
  have hk : ∀ k, LHas g mb v k → W'.heap[k]? = W.heap[k]? := fun k hk => hf.block k (h.log.lt k hk) (hne k hk)
  have hne2 : ∀ p ∈ os, LHas g mb v p.1 → W'.heap[p.1]? = some p.2 := fun p hp hl => by
    rw [hk p.1 hl]
    exact h.sit.blk (List.mem_append.2 (.inl hp))
  refine ⟨c, mb, v, os.filter (fun p => decide (p.1 ≠ q)), h.sit.turn hf (fun k e => by subst e; exact ⟨hq, o, List.mem_append.2 (.inr ho)⟩) fun p hp => ?_, h.log.kept hk, fun k hk2 => ?_, fun p hp => by simp at hp⟩
  · rw [List.append_nil] at hp
    obtain ⟨hp1, hp2⟩ := List.mem_filter.1 hp
    have hp3 : p.1 ≠ q := by simpa using hp2
    have hb := h.sit.blk (List.mem_append.2 (.inl hp1) : (p.1, p.2) ∈ os ++ ks)
    exact ⟨(hf.block p.1 (Array.getElem?_eq_some_iff.1 hb).1 hp3).trans hb, .inl ⟨p.2, List.mem_append.2 (.inl hp1)⟩⟩
  · obtain ⟨h1, o2, ho2⟩ := h.own k hk2
    exact ⟨h1, o2, List.mem_filter.2 ⟨ho2, by simpa using hne k hk2⟩⟩
/-- The disk that a fresh log stands on. -/
def freshT (b : Int) : St := claimV (readS (newV b))
set_option maxRecDepth 20000 in
set_option maxHeartbeats 4000000 in
theorem fresh_ok {b l i : Int} (hf : H.Fine b l i) (w : World) : Calls Try.prog 28 #[H.geoV b l i] w fun e w' => ∃ d g, e = .returned (.tuple #[ptr d, ptr g, .agg (layA b l i), .bool true]) ∧ LogI w w' g d (newX b l i 1) (freshT b) (curV (newV b)) [] := by
  have hof : H.ofV b l i = .agg (layA b l i) := by unfold H.ofV; rw [if_pos hf]; rfl
  have hc := fun w => H.refOf_any b l i w
  rw [hof] at hc
  have hoe : H.ofE b l i = 0 := by unfold H.ofE; rw [if_pos hf]
  rw [hoe] at hc
  have hbnd : bndB b = true := by have := H.Fine.pos hf; have := hf.2.2.2.2.1; unfold bndB; exact decide_eq_true ⟨by omega, by omega⟩
  have HD : Hid (∀ V ks, Below w.heap.size w V → (∀ p ∈ ks, V.heap[p.1]? = some p.2) → Calls Try.prog 15 #[.int .i64 b] V fun e W' => ∃ d, e = .returned (.tuple #[.pointer (some ⟨d, 0, none⟩), .int .i64 0]) ∧ Sits w W' d (newV b) ks) := fun V ks h1 h2 => sits_new hbnd h1 h2
  have HN : Hid (∀ V d ks, Sits w V d (newV b) ks → Calls Try.prog 8 #[.pointer (some ⟨d, 0, none⟩), .agg (layA b l i)] V fun e W' => ∃ g, e = .returned (.tuple #[.pointer (some ⟨g, 0, none⟩), .int .i64 0]) ∧ LogI w W' g d (newX b l i 1) (freshT b) (curV (newV b)) ks) := fun V d ks h1 => newL_ok h1 hf (by show b ≤ b; omega) rfl (rm_new b) (tg_new hf.1).1 (tg_new hf.1).2
  have hsz : (layA b l i).size = 9 := rfl
  have hone := layA_one b l i
  have z31 : ∀ u, (zeroValue 31).run Try.prog u = .ok (.agg (H.lay9 0 0 0 0 0 0 0 0 0)) u := fun u => by kernel_rfl
  clear hof hoe hbnd
  unfold ptr H.geoV at *
  generalize layA b l i = L at *
  go_enter Try.func28, Try.ntmps28
  go_wp2_with (go_at_call 14; fail)
  refine (hc _).mono ?_
  rintro e W1 ⟨rfl, hb1⟩
  have h4 := heap_kept (heap_alloc2_new w _ _) hb1
  have h0 := heap_kept (heap_alloc2_old w _ _) hb1
  have HB1 : Hid (Below w.heap.size w (W1.alloc (.cells L 31))) := H.bel_al (below_next (H.bel_al (below_new _ _) _) hb1) _
  have h4a := heap_kept h4 (below_new W1 (.cells L 31))
  have c0 : (W1.alloc (.cells L 31)).cell? ⟨w.heap.size, 0, none⟩ = some (.int .i64 b) := Joins.cell_of_block (heap_kept h0 (below_new W1 (.cells L 31))) 0
  have h6 := heap_alloc_new W1 (.cells L 31)
  have HB0 : Hid (((w.alloc (.cells #[.int .i64 b, .int .i64 l, .int .i64 i] 25)).alloc (.cells (H.lay9 0 0 0 0 0 0 0 0 0) 31)).heap.size ≤ W1.heap.size) := hb1.size
  clear hb1 hc h4 h0
  go_wp2_with (first | (with_reducible refine H.isStore 31 ?_; refine H.wpList_storeL_new rfl _ _ rfl L _ hsz rfl hone _ rfl rfl rfl ?_) | (go_at_call 15; fail))
  have HG6 : Hid (w.heap.size + 2 ≤ W1.heap.size) := by show w.heap.size + 2 ≤ W1.heap.size; have := HB0.out; simp only [World.alloc, Array.size_push] at this; omega
  generalize hg6 : W1.heap.size = g6 at *
  generalize W1.alloc (.cells L 31) = W2 at *
  have HK : ∀ p ∈ [(w.heap.size + 1, Obj.cells (H.lay9 0 0 0 0 0 0 0 0 0) 31), (g6, .cells L 31)], W2.heap[p.1]? = some p.2 := fun p hp => by
    simp only [List.mem_cons, List.not_mem_nil, or_false] at hp
    rcases hp with rfl | rfl
    · exact h4a
    · exact h6
  refine (HD.out W2 [(w.heap.size + 1, .cells (H.lay9 0 0 0 0 0 0 0 0 0) 31), (g6, .cells L 31)] HB1.out HK).mono ?_
  rintro e W3 ⟨d, rfl, h3⟩
  have h63 := h3.blk (List.mem_cons_of_mem _ (List.mem_cons_self ..))
  have HN3 := Hid.mk' (HN.out W3 d _ h3)
  clear HD HN h4a h6 c0 h3 HK
  go_wp2_with (first | (with_reducible refine H.isLoad 31 ?_; refine H.wpList_loadL rfl _ rfl g6 rfl L hsz h63 ?_) | (go_at_call 8; fail))
  refine HN3.out.mono ?_
  rintro e W4 ⟨g, rfl, h4⟩
  have H4 := Hid.mk' h4
  clear h4 HN3 h63
  go_wp2
  have h64 := H4.out.obj (List.mem_cons_of_mem _ (List.mem_cons_self ..))
  have h44 := H4.out.obj (List.mem_cons_self ..)
  refine wp_region_ord (S := fun u => u.heap[g6]? = some (.cells L 31)) [(0, true), (1, true), (2, true), (3, true), (4, true), (5, true), (6, true), (7, true), (8, true), (9, true), (10, true), (11, false), (12, true)]
    (by kernel_rfl) rfl (by kernel_rfl) (fun d _ _ _ _ h => by cases d <;> exact h) h64 ?_
  simp only [inOrd, List.getElem?_cons_zero, List.getElem?_cons_succ]
  refine wpOrd_move rfl _ rfl ?_
  simp only [Act.put, List.setIfInBounds_toArray, List.set_cons_succ, List.set_cons_zero]
  refine wpOrd_move rfl _ rfl ?_
  simp only [Act.put, List.setIfInBounds_toArray, List.set_cons_succ, List.set_cons_zero]
  refine wpOrd_yield (v := .agg L) rfl (fun u hu => H.exec_loadL rfl rfl hsz hu) ?_
  simp only [Act.put, List.setIfInBounds_toArray, List.set_cons_succ, List.set_cons_zero]
  refine wpOrd_move rfl _ rfl ?_
  simp only [Act.put, List.setIfInBounds_toArray, List.set_cons_succ, List.set_cons_zero]
  refine wpOrd_yield (v := .bool true) rfl (fun u _ => by go_simp) ?_
  simp only [Act.put, List.setIfInBounds_toArray, List.set_cons_succ, List.set_cons_zero]
  refine wpOrd_move rfl _ rfl ?_
  simp only [Act.put, List.setIfInBounds_toArray, List.set_cons_succ, List.set_cons_zero]
  refine wpOrd_move rfl _ rfl ?_
  simp only [Act.put, List.setIfInBounds_toArray, List.set_cons_succ, List.set_cons_zero]
  refine wpOrd_yield (v := .bool true) rfl (fun u _ => by go_simp) ?_
  simp only [Act.put, List.setIfInBounds_toArray, List.set_cons_succ, List.set_cons_zero]
  refine wpOrd_yield (v := .bool true) rfl (fun u _ => by go_simp) ?_
  simp only [Act.put, List.setIfInBounds_toArray, List.set_cons_succ, List.set_cons_zero]
  refine wpOrd_yield (v := .pointer (some ⟨d, 0, none⟩)) rfl (fun u _ => by go_simp) ?_
  simp only [Act.put, List.setIfInBounds_toArray, List.set_cons_succ, List.set_cons_zero]
  refine wpOrd_yield (v := .pointer (some ⟨g, 0, none⟩)) rfl (fun u _ => by go_simp) ?_
  simp only [Act.put, List.setIfInBounds_toArray, List.set_cons_succ, List.set_cons_zero]
  have h44d : W4.drew.heap[w.heap.size + 1]? = some (.cells (H.lay9 0 0 0 0 0 0 0 0 0) 31) := h44
  have hne : g6 ≠ w.heap.size + 1 := by
    intro q
    have := HG6.out
    omega
  have h64d : (W4.drew.setRow (w.heap.size + 1) L).heap[g6]? = some (.cells L 31) := (setRow_other W4.drew (w.heap.size + 1) g6 L hne).trans h64
  refine wpOrd_do rfl (exec_storeL rfl (w.heap.size + 1) L _ hsz rfl hone rfl rfl h44d) h64d ?_
  simp only [Act.put]
  refine wpOrd_yield (v := .bool true) rfl (fun u _ => by go_simp) ?_
  refine wpOrd_nil ?_
  simp only [Act.put, List.setIfInBounds_toArray, List.set_cons_succ, List.set_cons_zero]
  have hr44 := setRow_heap _ _ _ L _ _ h44d
  have H5 : Hid (LogI w (W4.drew.setRow (w.heap.size + 1) L) g d (newX b l i 1) (freshT b) (curV (newV b)) []) := by
    obtain ⟨s, ⟨c, mb, v, os, q1⟩, q2⟩ := H4.out.later (H.drew_below W4)
    refine ⟨s, q1.outside (Fr.setRow W4.drew (w.heap.size + 1) L) (by omega) ⟨_, List.mem_cons_self ..⟩, q2⟩
  clear H4 h64 h44 h44d h64d
  generalize W4.drew.setRow (w.heap.size + 1) L = W5 at *
  go_wp2
  exact ret4 rfl (w.heap.size + 1) L rfl (H.load25L W5 _ L hr44 hsz) rfl ⟨d, g, rfl, H5.out⟩
end Go.Proofs.Ytahaiciciljijaa
