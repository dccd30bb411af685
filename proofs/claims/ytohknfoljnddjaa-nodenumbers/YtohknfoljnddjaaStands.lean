/- stands of shape, and the document's Fits: is a layout just what its geometry says? For every layout. -/
import Derived.Test.YtohknfoljnddjaaRefOf
namespace Go.Proofs.Ytohknfoljnddjaa
open Go.RowKit

/-- Is a layout just what its geometry says? -/
def standsB (b l i a c d e f g : Int) : Bool := decide (Fine b l i ∧ a = 1 ∧ c = 1 + l ∧ d = nodeB i ∧ e = bitsAt l i ∧ f = bitsB b ∧ g = dataAt b l i)
theorem heap_kept {w w' : World} {g : Nat} {o : Obj} (h : w.heap[g]? = some o) (hb : Below w.heap.size w w') : w'.heap[g]? = some o :=
  (hb.block g (Array.getElem?_eq_some_iff.1 h).1).trans h
theorem below_next {w w1 w2 : World} (h : Below w.heap.size w w1) (hb : Below w1.heap.size w1 w2) : Below w.heap.size w w2 := h.trans (hb.mono h.size)
theorem below_new (w : World) (o : Obj) : Below w.heap.size w (w.alloc o) := (Below.refl _ _).alloc (Nat.le_refl _) _

theorem wpList_loadL {ops : Array Oper} {rest : List Oper} {o : Oper} {a : Act} {w : World} {Q : Exit → Act → World → Prop} (hgd : o.guard = none) (x : Operand) (ho : o.op = .load 43 x)
    (g : Nat) (hx : a.eval x = .pointer (some ⟨g, 0, none⟩)) (cs : Array Value) (hs : cs.size = 9) (hg : w.heap[g]? = some (.cells cs 43))
    (h : wpList Try.prog ops Q rest (a.put o.dst (.agg cs)) w) : wpList Try.prog ops Q (o :: rest) a w :=
  wpList_load_row hgd 43 x ho g hx 43 cs (0, 0) _ hg Try.underlying43 rfl (by rw [hs]; exact size25L) h

theorem lay_cells {w : World} {h0 : Nat} {b l i a c d e f g : Int} (h : w.heap[h0]? = some (.cells (lay9 b l i a c d e f g) 43)) :
    w.cell? ⟨h0, 0, none⟩ = some (.int .i64 b) ∧ w.cell? ⟨h0, 1, none⟩ = some (.int .i64 l) ∧ w.cell? ⟨h0, 2, none⟩ = some (.int .i64 i) ∧ w.cell? ⟨h0, 3, none⟩ = some (.int .i64 a) ∧ w.cell? ⟨h0, 4, none⟩ = some (.int .i64 c) ∧ w.cell? ⟨h0, 5, none⟩ = some (.int .i64 d) ∧ w.cell? ⟨h0, 6, none⟩ = some (.int .i64 e) ∧ w.cell? ⟨h0, 7, none⟩ = some (.int .i64 f) ∧ w.cell? ⟨h0, 8, none⟩ = some (.int .i64 g) ∧ h0 < w.heap.size := by
  refine ⟨?_, ?_, ?_, ?_, ?_, ?_, ?_, ?_, ?_, (Array.getElem?_eq_some_iff.1 h).1⟩ <;> (rw [cell_of_row w h0 _ _ 43 _ h]; rfl)
set_option maxRecDepth 20000 in
set_option maxHeartbeats 400000 in
theorem stands_fine (b l i a c d e f g : Int) (w : World) (hb : I64 b) (hf : Fine b l i) :
    Calls Try.prog 41 #[.agg (lay9 b l i a c d e f g)] w fun e' w' => e' = .returned (.bool (standsB b l i a c d e f g)) ∧ Below w.heap.size w w' := by
  have hc := fun w => of_any b l i w hb
  rw [show ofV b l i = layV b l i from if_pos hf, show ofE b l i = 0 from if_pos hf] at hc
  have HF : Hid (Fine b l i) := hf
  clear hf
  unfold layV at hc
  have e1 : ∀ (w : World), (w.alloc (.cells (lay9 b l i a c d e f g) 43)).heap[w.heap.size]? = some (.cells (lay9 b l i a c d e f g) 43) := fun w => heap_alloc_new _ _
  have e2 := fun (W1 : World) (h : W1.heap[w.heap.size]? = some (.cells (lay9 b l i a c d e f g) 43)) => lay_cells h
  unfold lay9 at *
  go_enter Try.func41, Try.ntmps41
  go_wp2_with (first | (go_at_call 19; fail))
  refine (hc _).mono ?_
  rintro e' W1 ⟨rfl, hb1⟩
  have h1 := heap_kept (e1 w) hb1
  have HB : Hid (Below w.heap.size w W1) := below_next (below_new _ _) hb1
  obtain ⟨c0, c1, c2, c3, c4, c5, c6, c7, c8, hlt⟩ := e2 W1 h1
  clear hb1 hc e1 h1 e2
  go_wp2
  all_goals
    go_ret
    refine ⟨ret_bool ?_, bel_al HB.out _⟩
    clear c0 c1 c2 c3 c4 c5 c6 c7 c8
    first
      | exact (show true = standsB b l i a c d e f g from (decide_eq_true ⟨HF.out, by omega, by omega, by omega, by omega, by omega, by omega⟩).symm)
      | exact (show false = standsB b l i a c d e f g from (decide_eq_false fun ⟨_, q1, q2, q3, q4, q5, q6⟩ => by omega).symm)

set_option maxRecDepth 20000 in
set_option maxHeartbeats 400000 in
theorem stands_not (b l i a c d e f g : Int) (w : World) (hb : I64 b) (hf : ¬ Fine b l i) :
    Calls Try.prog 41 #[.agg (lay9 b l i a c d e f g)] w fun e' w' => e' = .returned (.bool (standsB b l i a c d e f g)) ∧ Below w.heap.size w w' := by
  have hc := fun w => of_any b l i w hb
  rw [show ofV b l i = layZ from if_neg hf, show ofE b l i = 2 from if_neg hf] at hc
  have HF : Hid (¬ Fine b l i) := hf
  clear hf
  unfold layZ at hc
  unfold lay9 at *
  go_enter Try.func41, Try.ntmps41
  go_wp2_with (first | (go_at_call 19; fail))
  refine (hc _).mono ?_
  rintro e' W1 ⟨rfl, hb1⟩
  have HB : Hid (Below w.heap.size w W1) := below_next (below_new _ _) hb1
  clear hb1 hc
  go_wp2
  go_ret
  exact ⟨ret_bool (show false = standsB b l i a c d e f g from (decide_eq_false fun q => HF.out q.1).symm), bel_al HB.out _⟩
theorem stands_any (b l i a c d e f g : Int) (w : World) (hb : I64 b) :
    Calls Try.prog 41 #[.agg (lay9 b l i a c d e f g)] w fun e' w' => e' = .returned (.bool (standsB b l i a c d e f g)) ∧ Below w.heap.size w w' := by
  by_cases hf : Fine b l i
  · exact stands_fine b l i a c d e f g w hb hf
  · exact stands_not b l i a c d e f g w hb hf
set_option maxRecDepth 20000 in
set_option maxHeartbeats 400000 in
theorem fits3_fine (b l i a c d e f g : Int) (w : World) (hf : Fine b l i) :
    Calls Try.prog 38 #[.agg (lay9 b l i a c d e f g)] w fun e' w' => e' = .returned (.bool (standsB b l i a c d e f g)) ∧ Below w.heap.size w w' := by
  have hc := fun w => refOf_any b l i w
  rw [show ofV b l i = layV b l i from if_pos hf, show ofE b l i = 0 from if_pos hf] at hc
  have HF : Hid (Fine b l i) := hf
  clear hf
  unfold layV at hc
  have e1 : ∀ (w : World), (w.alloc (.cells (lay9 b l i a c d e f g) 43)).heap[w.heap.size]? = some (.cells (lay9 b l i a c d e f g) 43) := fun w => heap_alloc_new _ _
  have e2 := fun (W1 : World) (h : W1.heap[w.heap.size]? = some (.cells (lay9 b l i a c d e f g) 43)) => lay_cells h
  unfold lay9 at *
  go_enter Try.func38, Try.ntmps38
  go_wp2_with (first | (go_at_call 34; fail))
  refine (hc _).mono ?_
  rintro e' W1 ⟨rfl, hb1⟩
  have h1 := heap_kept (e1 w) hb1
  have HB : Hid (Below w.heap.size w W1) := below_next (below_new _ _) hb1
  obtain ⟨c0, c1, c2, c3, c4, c5, c6, c7, c8, hlt⟩ := e2 W1 h1
  clear hb1 hc e1 h1 e2
  go_wp2
  all_goals
    go_ret
    refine ⟨ret_bool ?_, bel_al HB.out _⟩
    clear c0 c1 c2 c3 c4 c5 c6 c7 c8
    first
      | exact (show true = standsB b l i a c d e f g from (decide_eq_true ⟨HF.out, by omega, by omega, by omega, by omega, by omega, by omega⟩).symm)
      | exact (show false = standsB b l i a c d e f g from (decide_eq_false fun ⟨_, q1, q2, q3, q4, q5, q6⟩ => by omega).symm)

set_option maxRecDepth 20000 in
set_option maxHeartbeats 400000 in
theorem fits3_not (b l i a c d e f g : Int) (w : World) (hf : ¬ Fine b l i) :
    Calls Try.prog 38 #[.agg (lay9 b l i a c d e f g)] w fun e' w' => e' = .returned (.bool (standsB b l i a c d e f g)) ∧ Below w.heap.size w w' := by
  have hc := fun w => refOf_any b l i w
  rw [show ofV b l i = layZ from if_neg hf, show ofE b l i = 2 from if_neg hf] at hc
  have HF : Hid (¬ Fine b l i) := hf
  clear hf
  unfold layZ at hc
  unfold lay9 at *
  go_enter Try.func38, Try.ntmps38
  go_wp2_with (first | (go_at_call 34; fail))
  refine (hc _).mono ?_
  rintro e' W1 ⟨rfl, hb1⟩
  have HB : Hid (Below w.heap.size w W1) := below_next (below_new _ _) hb1
  clear hb1 hc
  go_wp2
  go_ret
  exact ⟨ret_bool (show false = standsB b l i a c d e f g from (decide_eq_false fun q => HF.out q.1).symm), bel_al HB.out _⟩
theorem fits3_any (b l i a c d e f g : Int) (w : World) :
    Calls Try.prog 38 #[.agg (lay9 b l i a c d e f g)] w fun e' w' => e' = .returned (.bool (standsB b l i a c d e f g)) ∧ Below w.heap.size w w' := by
  by_cases hf : Fine b l i
  · exact fits3_fine b l i a c d e f g w hf
  · exact fits3_not b l i a c d e f g w hf
end Go.Proofs.Ytohknfoljnddjaa
