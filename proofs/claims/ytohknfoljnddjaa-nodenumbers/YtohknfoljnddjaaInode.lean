/- An inode, its twelve numbers and its sixty-four bytes as values: loads, stores and results of them; no condition. -/
import Derived.Test.YtohknfoljnddjaaLay
import Derived.Test.YtohknfoljnddjaaSets
import Derived.Test.YtohknfoljnddjaaOf
import Derived.Test.YtohknfoljnddjaaFork
import Derived.Deep.MidRow
namespace Go.Proofs.Ytohknfoljnddjaa
open Go.RowKit

/-- An inode: its kind, links, size, blocks, and its twelve numbers. -/
def node16 (k l s b : Int) (d : Nat → Int) : Array Value :=
  #[.int .u16 k, .int .u16 l, .int .u32 s, .int .u32 b, .int .u32 (d 0), .int .u32 (d 1), .int .u32 (d 2), .int .u32 (d 3), .int .u32 (d 4), .int .u32 (d 5), .int .u32 (d 6), .int .u32 (d 7), .int .u32 (d 8), .int .u32 (d 9), .int .u32 (d 10), .int .u32 (d 11)]
def w12 (d : Nat → Int) : Array Value :=
  #[.int .u32 (d 0), .int .u32 (d 1), .int .u32 (d 2), .int .u32 (d 3), .int .u32 (d 4), .int .u32 (d 5), .int .u32 (d 6), .int .u32 (d 7), .int .u32 (d 8), .int .u32 (d 9), .int .u32 (d 10), .int .u32 (d 11)]
/-- Its fields are within their bounds. -/
structure NodeOk (k l s b : Int) (d : Nat → Int) : Prop where
  k : 0 ≤ k ∧ k < 65536
  l : 0 ≤ l ∧ l < 65536
  s : 0 ≤ s ∧ s < 4294967296
  b : 0 ≤ b ∧ b < 4294967296
  d : ∀ i, 0 ≤ d i ∧ d i < 4294967296

theorem w12_size (d : Nat → Int) : (w12 d).size = 12 := rfl
theorem node_size (k l s b : Int) (d : Nat → Int) : (node16 k l s b d).size = 16 := rfl
theorem w12_get (d : Nat → Int) (i : Nat) (h : i < 12) : (w12 d)[i]? = some (.int .u32 (d i)) :=
  match i, h with
  | 0, _ => rfl | 1, _ => rfl | 2, _ => rfl | 3, _ => rfl | 4, _ => rfl | 5, _ => rfl | 6, _ => rfl | 7, _ => rfl | 8, _ => rfl | 9, _ => rfl | 10, _ => rfl | 11, _ => rfl
theorem w12_ext {d : Nat → Int} {cs : Array Value} (hs : cs.size = 12) (h : ∀ i, i < 12 → cs[i]? = some (.int .u32 (d i))) : cs = w12 d := by
  apply Array.ext_getElem?
  intro i
  by_cases hi : i < 12
  · rw [h i hi, w12_get d i hi]
  · rw [Array.getElem?_eq_none (by omega), Array.getElem?_eq_none (by rw [w12_size]; omega)]
theorem w12_set (d : Nat → Int) (i : Nat) (x : Int) : (w12 d).setIfInBounds i (.int .u32 x) = w12 (upd d i x) := by
  refine w12_ext (by rw [Array.size_setIfInBounds, w12_size]) fun j hj => ?_
  rw [Array.getElem?_setIfInBounds]
  by_cases e : i = j
  · subst e; simp [w12_size, hj, upd]
  · have e' : ¬ j = i := fun q => e q.symm
    simp [e, e', w12_get _ _ hj, upd]
theorem w12_congr {d e : Nat → Int} (h : ∀ i, i < 12 → d i = e i) : w12 d = w12 e := w12_ext (w12_size d) fun i hi => by rw [w12_get d i hi, h i hi]
theorem w12_one (d : Nat → Int) : (w12 d).all (·.oneCell') = true := by simp [w12, Value.oneCell']
theorem node_one (k l s b : Int) (d : Nat → Int) : (node16 k l s b d).all (·.oneCell') = true := by simp [node16, Value.oneCell']
theorem node_congr {k l s b k' l' s' b' : Int} {d e : Nat → Int} (hk : k = k') (hl : l = l') (hs : s = s') (hb : b = b') (h : ∀ i, i < 12 → d i = e i) : node16 k l s b d = node16 k' l' s' b' e := by
  subst hk hl hs hb
  unfold node16
  rw [h 0 (by omega), h 1 (by omega), h 2 (by omega), h 3 (by omega), h 4 (by omega), h 5 (by omega), h 6 (by omega), h 7 (by omega), h 8 (by omega), h 9 (by omega), h 10 (by omega), h 11 (by omega)]
theorem row64_one (f : Nat → Int) : (rowA f 64).all (·.oneCell') = true := by
  rw [Array.all_eq_true_iff_forall_mem]
  intro v hv
  exact rowA_one f 64 v (by simpa using hv)

theorem size27 : (Try.prog.info? 27).map (·.size) = some 16 := by kernel_rfl
theorem size62 : (Try.prog.info? 62).map (·.size) = some 12 := by kernel_rfl
theorem size29 : (Try.prog.info? 29).map (·.size) = some 64 := by kernel_rfl
theorem size31 : (Try.prog.info? 31).map (·.size) = some 64 := by kernel_rfl
theorem size43 : (Try.prog.info? 43).map (·.size) = some 9 := by kernel_rfl
theorem size41 : (Try.prog.info? 41).map (·.size) = some 3 := by kernel_rfl
theorem size37 : (Try.prog.info? 37).map (·.size) = some 5 := by kernel_rfl
theorem zero29 : ∀ w, (zeroValue 29).run Try.prog w = .ok (.agg (rowA nought 64)) w := (zero_of_info (show (Try.prog.info? 29).map (fun i => (i.zero, i.size)) = some (some (.agg (rowA nought 64)), 64) by kernel_rfl)).1
theorem zero31 : ∀ w, (zeroValue 31).run Try.prog w = .ok (.agg (rowA nought 64)) w := (zero_of_info (show (Try.prog.info? 31).map (fun i => (i.zero, i.size)) = some (some (.agg (rowA nought 64)), 64) by kernel_rfl)).1
theorem zero62 : ∀ w, (zeroValue 62).run Try.prog w = .ok (.agg (w12 nought)) w := (zero_of_info (show (Try.prog.info? 62).map (fun i => (i.zero, i.size)) = some (some (.agg (w12 nought)), 12) by kernel_rfl)).1
theorem zero27 : ∀ w, (zeroValue 27).run Try.prog w = .ok (.agg (node16 0 0 0 0 nought)) w := (zero_of_info (show (Try.prog.info? 27).map (fun i => (i.zero, i.size)) = some (some (.agg (node16 0 0 0 0 nought)), 16) by kernel_rfl)).1

section
variable {ops : Array Oper} {rest : List Oper} {o : Oper} {a : Act} {w : World} {Q : Exit → Act → World → Prop}
/-- A whole row is loaded, of any type that is a row. -/
theorem wpList_ldR (ty : TypeId) {d : TypeDesc} (hu : Try.prog.underlying ty = some d) (hd : d.isRow = true) (hw : Region.wanted o (yielded ops a.tmps) = true) (x : Operand) (ho : o.op = .load ty x)
    (g : Nat) (hx : a.eval x = .pointer (some ⟨g, 0, none⟩)) (cs : Array Value) (t : TypeId) (fr : Nat × Nat) (hi : (Try.prog.info? ty).map (·.size) = some cs.size) (hg : w.heap[g]? = some (.cells cs t fr))
    (h : wpList Try.prog ops Q rest (a.put o.dst (.agg cs)) w) : wpList Try.prog ops Q (o :: rest) a w := by
  unfold wpList
  rw [if_pos hw]
  refine .inl ?_
  unfold Oper.wp execOp
  simp only [ho, hx, Instr.loadAt, Instr.sureAddr, Sem.run_bind, Sem.run_pure, Result.andThen_ok, run_loadVar_row w g t ty cs fr d hg hu (by cases d <;> first | rfl | cases hd) hi]
  exact h
theorem wpList_stR (ty : TypeId) (hgd : o.guard = none) (x y : Operand) (ho : o.op = .store ty x y)
    (g : Nat) (cs c0 : Array Value) (t : TypeId) (hi : (Try.prog.info? ty).map (·.size) = some cs.size) (hs : c0.size = cs.size) (h1 : cs.all (·.oneCell') = true)
    (hx : a.eval x = .pointer (some ⟨g, 0, none⟩)) (hy : a.eval y = .agg cs) (hg : w.heap[g]? = some (.cells c0 t))
    (h : wpList Try.prog ops Q rest (a.put o.dst undef) (w.setRow g cs)) : wpList Try.prog ops Q (o :: rest) a w :=
  wpList_plain hgd fun _ hK => by
    unfold Oper.wp execOp
    simp only [ho, hx, hy, Instr.storeAt, Instr.sureAddr, Sem.run_bind, Sem.run_pure, Result.andThen_ok, run_storeVar_row w g t ty c0 cs hg hi hs h1]
    exact hK _ _ h
theorem wpList_stNew (ty : TypeId) (hgd : o.guard = none) (x y : Operand) (ho : o.op = .store ty x y)
    (g : Nat) (cs c0 : Array Value) (t : TypeId) (hi : (Try.prog.info? ty).map (·.size) = some cs.size) (hs : c0.size = cs.size) (h1 : cs.all (·.oneCell') = true)
    (hx : a.eval x = .pointer (some ⟨g, 0, none⟩)) (hgw : g = w.heap.size) (hy : a.eval y = .agg cs)
    (h : wpList Try.prog ops Q rest (a.put o.dst undef) (w.alloc (.cells cs t))) : wpList Try.prog ops Q (o :: rest) a (w.alloc (.cells c0 t)) := by
  subst hgw
  exact wpList_stR ty hgd x y ho w.heap.size cs c0 t hi hs h1 hx hy (heap_alloc_new _ _) (by rw [World.setRow_alloc_new]; exact h)
end
theorem retR {fn : Func} {p : Tmp} {ty : TypeId} {R : Ending → World → Prop} {a : Act} {w : World} {d : TypeDesc} (hu : Try.prog.underlying ty = some d) (hd : d.isRow = true)
    (h : fn.results = #[.cell p ty]) (g : Nat) (cs : Array Value) (t : TypeId) (hi : (Try.prog.info? ty).map (·.size) = some cs.size)
    (hp : a.tmps.getD p undef = .pointer (some ⟨g, 0, none⟩)) (hg : w.heap[g]? = some (.cells cs t)) (hdf : a.defers = []) (hR : R (.returned (.agg cs)) w) : bodyPost Try.prog fn R .ret a w :=
  bodyPost_ret (results_cell_row h a.tmps w g t cs (0, 0) _ hp hg hu (by cases d <;> first | rfl | cases hd) hi) hdf hR

theorem idx62 (d : Nat → Int) (k : Nat) (hk : k < 12) (w : World) : (Instr.index 62 (.agg (w12 d)) (.int .i64 k)).run Try.prog w = .ok (.int .u32 (d k)) w := by
  have h := w12_get d k hk
  simp [Instr.index, run_underlying Try.underlying62, asIntOf, part, Try.isAgg24, h, go_sem]
  intro h9; omega
theorem arrayAt31 (a : Option Addr) (n c : Nat) (h : 64 ≤ n) (w : World) : (Instr.arrayAt 31 (.slice a n c)).run Try.prog w = .ok (.pointer a) w := by
  have : ¬ n < 64 := by omega
  simp [Instr.arrayAt, run_underlying Try.underlying31, this]
theorem arrayAt25 (a : Option Addr) (n c : Nat) (h : 10 ≤ n) (w : World) : (Instr.arrayAt 25 (.slice a n c)).run Try.prog w = .ok (.pointer a) w := by
  have : ¬ n < 10 := by omega
  simp [Instr.arrayAt, run_underlying Try.underlying25, this]
end Go.Proofs.Ytohknfoljnddjaa
