/- A geometry's layout, one field turned: some layout; for every geometry. -/
import Derived.Test.YtgkhheblmknedaaRight
namespace Go.Proofs.Ytgkhheblmknedaa
open Go.RowKit
theorem ofV_nine (b l i : Int) (hb : I64 b) : ∃ x0 x1 x2 x3 x4 x5 x6 x7 x8, ofV b l i = .agg (lay9 x0 x1 x2 x3 x4 x5 x6 x7 x8) ∧ I64 x0 := by
  unfold ofV
  by_cases h : Fine b l i
  · rw [if_pos h]
    exact ⟨_, _, _, _, _, _, _, _, _, rfl, hb⟩
  · rw [if_neg h]
    exact ⟨_, _, _, _, _, _, _, _, _, rfl, by unfold I64; omega⟩
theorem ret26 {fn : Func} {p : Tmp} {R : Ending → World → Prop} {a : Act} {w : World} (h : fn.results = #[.cell p 26]) (g : Nat) (cs : Array Value) (hs : cs.size = 9)
    (hp : a.tmps.getD p undef = .pointer (some ⟨g, 0, none⟩)) (hg : w.heap[g]? = some (.cells cs 26)) (hd : a.defers = []) (hR : R (.returned (.agg cs)) w) : bodyPost Try.prog fn R .ret a w :=
  bodyPost_ret (results_cell_row h a.tmps w g 26 cs (0, 0) _ hp hg Try.underlying26 rfl (by rw [hs]; exact size25L)) hd hR
theorem wpList_storeL {ops : Array Oper} {rest : List Oper} {o : Oper} {a : Act} {w : World} {Q : Exit → Act → World → Prop} (hgd : o.guard = none) (x y : Operand) (ho : o.op = .store 26 x y)
    (g : Nat) (cs c0 : Array Value) (hx : a.eval x = .pointer (some ⟨g, 0, none⟩)) (hy : a.eval y = .agg cs) (hg : w.heap[g]? = some (.cells c0 26)) (hs : cs.size = 9) (hs0 : c0.size = 9) (h1 : cs.all (·.oneCell') = true)
    (h : wpList Try.prog ops Q rest (a.put o.dst undef) (w.setRow g cs)) : wpList Try.prog ops Q (o :: rest) a w :=
  wpList_plain hgd fun _ hK => by
    have hz : (Try.prog.info? 26).map (·.size) = some cs.size := by rw [hs]; exact size25L
    unfold Oper.wp execOp
    simp only [ho, hx, hy, Instr.storeAt, Instr.sureAddr, Sem.run_bind, Sem.run_pure, Result.andThen_ok, run_storeVar_row w g 26 26 c0 cs hg hz (by rw [hs, hs0]) h1]
    exact hK _ _ h
set_option maxRecDepth 20000 in
set_option maxHeartbeats 2000000 in
theorem layout_any (b l i turn : Int) (w : World) (hb : I64 b) :
    Calls Try.prog 8 #[geoV b l i, .int .i64 turn] w fun e w' => ∃ x0 x1 x2 x3 x4 x5 x6 x7 x8, e = .returned (.agg (lay9 x0 x1 x2 x3 x4 x5 x6 x7 x8)) ∧ I64 x0 ∧ Below w.heap.size w w' := by
  have hc := fun w => refOf_any b l i w
  obtain ⟨x0, x1, x2, x3, x4, x5, x6, x7, x8, hv, hx0⟩ := ofV_nine b l i hb
  rw [hv] at hc
  generalize ofE b l i = E at *
  have hpk := fun W => pick_any turn 9 ⟨by omega, by omega⟩ W
  have hm0 : 0 ≤ turn % 9 := Int.emod_nonneg _ (by omega)
  have hm1 : turn % 9 < 9 := Int.emod_lt_of_pos _ (by omega)
  generalize turn % 9 = m at *
  have HX : Hid (I64 x0) := hx0
  clear hv hx0 hb
  unfold geoV lay9 at *
  go_enter Try.func8, Try.ntmps8
  go_wp2_with (first | (go_at_call 27; fail))
  refine (hc _).mono ?_
  rintro e' W1 ⟨rfl, hb1⟩
  have h4 := heap_kept (heap_alloc2_new w _ _) hb1
  have HB1 : Hid (Below w.heap.size w W1) := below_next (bel_al (below_new _ _) _) hb1
  clear hb1 hc
  go_wp2_with (first | (go_at_call 28; fail))
  refine (hpk _).mono ?_
  rintro e' W2 ⟨rfl, rfl⟩
  clear hpk
  have h4' := fun (cs : Array Value) => heap_kept h4 (below_new W1 (.cells cs 26))
  have : m = 0 ∨ m = 1 ∨ m = 2 ∨ m = 3 ∨ m = 4 ∨ m = 5 ∨ m = 6 ∨ m = 7 ∨ m = 8 := by omega
  clear hm0 hm1
  rcases this with rfl | rfl | rfl | rfl | rfl | rfl | rfl | rfl | rfl
  all_goals
    go_wp2_with (first | (with_reducible refine isLoad 26 ?_; refine wpList_loadL rfl _ rfl _ rfl _ rfl (heap_alloc_new _ _) ?_) | (with_reducible refine isStore 26 ?_; refine wpList_storeL rfl _ _ rfl _ _ _ rfl rfl (h4' _) rfl rfl (by simp [Value.oneCell']) ?_))
    refine ret26 rfl (w.heap.size + 1) _ rfl rfl (setRow_heap _ _ _ _ _ _ (h4' _)) rfl ⟨_, _, _, _, _, _, _, _, _, rfl, HX.out, below_setRow (bel_al HB1.out _) (by omega) _⟩
end Go.Proofs.Ytgkhheblmknedaa
