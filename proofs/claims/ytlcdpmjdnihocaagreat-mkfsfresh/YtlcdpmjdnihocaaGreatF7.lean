/- Several texts joined, each with its own remark; no condition. -/
import Derived.Test.YtlcdpmjdnihocaaGreatF6
import Derived.Laws.ResultCell
import Derived.OrdersHeld
import Derived.WalkKit
import Derived.Deep.MidRow
import Derived.WalkSpells
import Derived.WalkLawsBesides
import Derived.Deep.WholeRow
import Derived.Laws.StructEq
import Derived.Laws.BitsLemmas
import Derived.Test.YtlcdpmjdnihocaaGreatRows
/- Of of shape: the layout of a geometry, or none; for every geometry. -/
namespace Go.Proofs.YtlcdpmjdnihocaaGreatK
open Go.RowKit

theorem bel_al {w u : World} (h : Below w.heap.size w u) (o : Obj) : Below w.heap.size w (u.alloc o) := h.alloc h.size o
theorem heap3 (w : World) (A B C : Obj) : (((w.alloc A).alloc B).alloc C).heap[w.heap.size + 1]? = some B := by
  rw [heap_alloc_old _ _ (by simp)]; exact heap_alloc2_new _ _ _
end Go.Proofs.YtlcdpmjdnihocaaGreatK
/- Regions whose order is drawn, walked in one order that is told: what only reads may come at any time, what acts comes where nothing else may; S holds all along. -/
namespace Go.Proofs.YtlcdpmjdnihocaaGreatK
open Go.RowKit

section
variable {P : Program} {ops : Array Oper} {Q : Exit → Act → World → Prop} {S : World → Prop}

/-- May the operations be taken in this order? true: it is taken first; false: nothing else may come up. -/
def ordB (ops : Array Oper) : List (Nat × Bool) → Array Bool → Bool
  | [], listed => (Region.ready .any ops listed).isEmpty
  | (i, true) :: r, listed => (Region.ready .any ops listed).contains i && Region.free .any ops listed i && (ops[i]?).isSome && ordB ops r (listed.setIfInBounds i true)
  | (i, false) :: r, listed => (Region.ready .any ops listed == [i]) && (ops[i]?).isSome && ordB ops r (listed.setIfInBounds i true)

/-- The operations themselves, in that order. -/
def inOrd (ol : List Oper) : List (Nat × Bool) → List (Bool × Oper)
  | [] => []
  | (i, b) :: r => match ol[i]? with
    | some o => (b, o) :: inOrd ol r
    | none => inOrd ol r

def wpOrd (P : Program) (ops : Array Oper) (Q : Exit → Act → World → Prop) (S : World → Prop) : List (Bool × Oper) → Act → World → Prop
  | [], a, w => Q .normal a w
  | (true, o) :: r, a, w => ∃ v, YieldsIf P ops S o v a ∧ wpOrd P ops Q S r (a.put o.dst v) w
  | (false, o) :: r, a, w => if Region.wanted o (yielded ops a.tmps) then o.wp P a w (fun a' w' => S w' ∧ wpOrd P ops Q S r a' w') Q else S w ∧ wpOrd P ops Q S r (a.put o.dst undef) w

theorem wpOrd_any {ol : List Oper} (hs : Region.noSelect ol.toArray = true) (hQ : ∀ d v c a w, Q (.panic c) (a.put d v) w → Q (.panic c) a w) : ∀ (l : List (Nat × Bool)) (listed : Array Bool) (a : Act) (w : World), S w →
    ordB ol.toArray l listed = true → wpOrd P ol.toArray Q S (inOrd ol l) a w → wpAnyH P .any ol.toArray Q S l.length listed a w
  | [], listed, a, w, _, hB, h => wpAnyH_done (by simpa [ordB] using hB) h _
  | (i, true) :: r, listed, a, w, hS, hB, h => by
    simp only [ordB, Bool.and_eq_true] at hB
    obtain ⟨⟨⟨h1, h2⟩, h3⟩, h4⟩ := hB
    obtain ⟨o, hi⟩ := Option.isSome_iff_exists.1 h3
    have hi' : ol[i]? = some o := by simpa using hi
    simp only [inOrd, hi', wpOrd] at h
    obtain ⟨v, hy, hr⟩ := h
    exact wpAnyH_take hi hs h2 h1 (fun c a w => hQ _ _ c a w) hy hS (wpOrd_any hs hQ r _ _ w hS h4 hr)
  | (i, false) :: r, listed, a, w, hS, hB, h => by
    simp only [ordB, Bool.and_eq_true, beq_iff_eq] at hB
    obtain ⟨⟨h1, h3⟩, h2⟩ := hB
    obtain ⟨o, hi⟩ := Option.isSome_iff_exists.1 h3
    have hi' : ol[i]? = some o := by simpa using hi
    simp only [inOrd, hi', wpOrd] at h
    refine wpAnyH_all h1 (by simp) fun j hj => ?_
    obtain rfl : j = i := by simpa using hj
    unfold wpOp
    rw [hi]
    simp only
    split
    · rename_i hw
      rw [if_pos hw] at h
      exact .inl (Oper.wp_mono (fun a' w' h' => ⟨h'.1, wpOrd_any hs hQ r _ a' w' h'.1 h2 h'.2⟩) h)
    · rename_i hw
      rw [if_neg hw] at h
      exact ⟨h.1, wpOrd_any hs hQ r _ _ w h.1 h2 h.2⟩

theorem wpOrd_nil {a : Act} {w : World} (h : Q .normal a w) : wpOrd P ops Q S [] a w := h
theorem wpOrd_call {r : List (Bool × Oper)} {a : Act} {w : World} {o : Oper} (hw : Region.wanted o (yielded ops a.tmps) = true) (f : FuncId) (xs : List Operand) (ts : Array TypeId)
    (ho : o.op = .call { callee := .value (.func f), args := xs.toArray, argTypes := ts }) (hc : ∀ args u, (callFunc f args).run P u = .ok (.enter f args) u) (args : List Value) (hx : xs.map a.eval = args)
    (h : Calls P f args.toArray w fun e w' => ∃ v, e = .returned v ∧ S w' ∧ wpOrd P ops Q S r (a.put o.dst v) w') : wpOrd P ops Q S ((false, o) :: r) a w := by
  simp only [wpOrd, hw, if_true]
  unfold Oper.wp execOp
  have e : (do let d ← resolve a.eval { callee := .value (.func f), args := xs.toArray, argTypes := ts } o.type; invoke d.target d.args : Sem Next).run P w = .ok (.enter f args.toArray) w := by
    have hx' : xs.toArray.map a.eval = args.toArray := by rw [← hx]; simp
    simp only [resolve, hx']
    simp [Act.eval, Deferred.ofValue, invoke, hc]
  simp only [ho]
  rw [e]
  unfold Oper.upon
  exact h.mono fun e w' ⟨v, he, h1, h2⟩ => by subst he; exact ⟨h1, h2⟩
end
end Go.Proofs.YtlcdpmjdnihocaaGreatK
/- Regions whose order is drawn, where two operations may come up in either order: both orders are walked. -/
namespace Go.Proofs.YtlcdpmjdnihocaaGreatK
open Go.RowKit

section
variable {P : Program} {ops : Array Oper} {Q : Exit → Act → World → Prop} {S : World → Prop}

/-- First the operations of a list that only read, then i and j in either order, then l. -/
def forkB (ops : Array Oper) (i j : Nat) (l : List (Nat × Bool)) : List Nat → Array Bool → Bool
  | [], listed => (Region.ready .any ops listed == [i, j]) && (ops[i]?).isSome && (ops[j]?).isSome && ordB ops ((j, false) :: l) (listed.setIfInBounds i true) && ordB ops ((i, false) :: l) (listed.setIfInBounds j true)
  | k :: r, listed => (Region.ready .any ops listed).contains k && Region.free .any ops listed k && (ops[k]?).isSome && forkB ops i j l r (listed.setIfInBounds k true)

/-- One operation that acts, and what follows. -/
def wpAct (P : Program) (ops : Array Oper) (Q : Exit → Act → World → Prop) (S : World → Prop) (o : Oper) (K : Act → World → Prop) (a : Act) (w : World) : Prop :=
  if Region.wanted o (yielded ops a.tmps) then o.wp P a w (fun a' w' => S w' ∧ K a' w') Q else S w ∧ K (a.put o.dst undef) w

theorem wpOp_act {i : Nat} {o : Oper} (hi : ops[i]? = some o) {K K' : Act → World → Prop} (hK : ∀ a w, S w → K a w → K' a w) {a : Act} {w : World} (h : wpAct P ops Q S o K a w) : wpOp P ops Q i (fun a' w' => S w' ∧ K' a' w') a w := by
  unfold wpOp
  rw [hi]
  simp only
  unfold wpAct at h
  split
  · rename_i hw
    rw [if_pos hw] at h
    exact .inl (Oper.wp_mono (fun a' w' h' => ⟨h'.1, hK a' w' h'.1 h'.2⟩) h)
  · rename_i hw
    rw [if_neg hw] at h
    exact ⟨h.1, hK _ w h.1 h.2⟩

def wpFork (P : Program) (ops : Array Oper) (Q : Exit → Act → World → Prop) (S : World → Prop) (ol : List Oper) (i j : Nat) (l : List (Nat × Bool)) : List Nat → Act → World → Prop
  | [], a, w => (∀ o, ol[i]? = some o → wpAct P ops Q S o (wpOrd P ops Q S (inOrd ol ((j, false) :: l))) a w) ∧ (∀ o, ol[j]? = some o → wpAct P ops Q S o (wpOrd P ops Q S (inOrd ol ((i, false) :: l))) a w)
  | k :: r, a, w => ∀ o, ol[k]? = some o → ∃ v, YieldsIf P ops S o v a ∧ wpFork P ops Q S ol i j l r (a.put o.dst v) w

theorem wpFork_any {ol : List Oper} (hs : Region.noSelect ol.toArray = true) (hQ : ∀ d v c a w, Q (.panic c) (a.put d v) w → Q (.panic c) a w) (i j : Nat) (l : List (Nat × Bool)) : ∀ (r : List Nat) (listed : Array Bool) (a : Act) (w : World), S w →
    forkB ol.toArray i j l r listed = true → wpFork P ol.toArray Q S ol i j l r a w → wpAnyH P .any ol.toArray Q S (r.length + (l.length + 2)) listed a w
  | [], listed, a, w, hS, hB, h => by
    simp only [forkB, Bool.and_eq_true, beq_iff_eq] at hB
    obtain ⟨⟨⟨⟨h1, h2⟩, h3⟩, h4⟩, h5⟩ := hB
    obtain ⟨oi, hoi⟩ := Option.isSome_iff_exists.1 h2
    obtain ⟨oj, hoj⟩ := Option.isSome_iff_exists.1 h3
    have hoi' : ol[i]? = some oi := by simpa using hoi
    have hoj' : ol[j]? = some oj := by simpa using hoj
    rw [show ([] : List Nat).length + (l.length + 2) = (l.length + 1) + 1 by simp]
    refine wpAnyH_all h1 (by simp) fun k hk => ?_
    simp only [List.mem_cons, List.not_mem_nil, or_false] at hk
    rcases hk with rfl | rfl
    · exact wpOp_act hoi (fun a' w' hS' hK => wpOrd_any hs hQ ((j, false) :: l) _ a' w' hS' h4 hK) (h.1 oi hoi')
    · exact wpOp_act hoj (fun a' w' hS' hK => wpOrd_any hs hQ ((i, false) :: l) _ a' w' hS' h5 hK) (h.2 oj hoj')
  | k :: r, listed, a, w, hS, hB, h => by
    simp only [forkB, Bool.and_eq_true] at hB
    obtain ⟨⟨⟨h1, h2⟩, h3⟩, h4⟩ := hB
    obtain ⟨o, hi⟩ := Option.isSome_iff_exists.1 h3
    have hi' : ol[k]? = some o := by simpa using hi
    obtain ⟨v, hy, hr⟩ := h o hi'
    rw [show (k :: r).length + (l.length + 2) = r.length + (l.length + 2) + 1 by simp; omega]
    exact wpAnyH_take hi hs h2 h1 (fun c a w => hQ _ _ c a w) hy hS (wpFork_any hs hQ i j l r _ _ w hS h4 hr)

/-- A region that draws its order, walked so. -/
theorem wp_region_fork {id : Nat} {a : Act} {w : World} {ol : List Oper} (r : List Nat) (i j : Nat) (l : List (Nat × Bool)) (hm : P.follows .mixedOrders = true) (hl : r.length + (l.length + 2) = ol.length)
    (hB : (Region.noSelect ol.toArray && forkB ol.toArray i j l r (Array.replicate ol.toArray.size false)) = true) (hQ : ∀ d v c a w, Q (.panic c) (a.put d v) w → Q (.panic c) a w)
    (hS : S w.drew) (h : wpFork P ol.toArray Q S ol i j l r a w.drew) : (Code.region id ol.toArray true).wp P Q a w := by
  simp only [Bool.and_eq_true] at hB
  have h1 := wpFork_any hB.1 hQ i j l r _ a w.drew hS hB.2 h
  rw [hl] at h1
  exact wp_region_held hm (by simpa using h1)

theorem wpFork_yield {ol : List Oper} {i j : Nat} {l : List (Nat × Bool)} {k : Nat} {r : List Nat} {a : Act} {w : World} {o : Oper} {v : Value} (ho : ol[k]? = some o) (hw : Region.wanted o (yielded ops a.tmps) = true)
    (hr : ∀ u, S u → (execOp a.eval o).run P u = .ok (.value v) u) (h : wpFork P ops Q S ol i j l r (a.put o.dst v) w) : wpFork P ops Q S ol i j l (k :: r) a w := by
  intro o' ho'
  obtain rfl : o = o' := by rw [ho] at ho'; exact Option.some.inj ho'
  exact ⟨v, .inl ⟨hw, hr⟩, h⟩
theorem wpFork_nil {ol : List Oper} {i j : Nat} {l : List (Nat × Bool)} {a : Act} {w : World} {oi oj : Oper} (hi : ol[i]? = some oi) (hj : ol[j]? = some oj)
    (h1 : wpOrd P ops Q S (inOrd ol ((i, false) :: (j, false) :: l)) a w) (h2 : wpOrd P ops Q S (inOrd ol ((j, false) :: (i, false) :: l)) a w) : wpFork P ops Q S ol i j l [] a w := by
  refine ⟨fun o ho => ?_, fun o ho => ?_⟩
  · obtain rfl : oi = o := by rw [hi] at ho; exact Option.some.inj ho
    simp only [inOrd, hi, hj, wpOrd] at h1 ⊢
    exact h1
  · obtain rfl : oj = o := by rw [hj] at ho; exact Option.some.inj ho
    simp only [inOrd, hi, hj, wpOrd] at h2 ⊢
    exact h2
end
end Go.Proofs.YtlcdpmjdnihocaaGreatK
/- An inode, its twelve numbers and its sixty-four bytes as values: loads, stores and results of them; no condition. -/
namespace Go.Proofs.YtlcdpmjdnihocaaGreatK
open Go.RowKit

/-- An inode: its kind, links, size, blocks, and its twelve numbers. -/
def node16 (k l s b : Int) (d : Nat → Int) : Array Value :=
  #[.int .u16 k, .int .u16 l, .int .u32 s, .int .u32 b, .int .u32 (d 0), .int .u32 (d 1), .int .u32 (d 2), .int .u32 (d 3), .int .u32 (d 4), .int .u32 (d 5), .int .u32 (d 6), .int .u32 (d 7), .int .u32 (d 8), .int .u32 (d 9), .int .u32 (d 10), .int .u32 (d 11)]
def w12 (d : Nat → Int) : Array Value :=
  #[.int .u32 (d 0), .int .u32 (d 1), .int .u32 (d 2), .int .u32 (d 3), .int .u32 (d 4), .int .u32 (d 5), .int .u32 (d 6), .int .u32 (d 7), .int .u32 (d 8), .int .u32 (d 9), .int .u32 (d 10), .int .u32 (d 11)]
/-- Its fields are within their bounds. -/
structure NodeOk (k l s b : Int) (d : Nat → Int) : Prop where
  k : 0 ≤ k ∧ k < 65536
  l : 0 ≤ l ∧ l < 65536
  s : 0 ≤ s ∧ s < 4294967296
  b : 0 ≤ b ∧ b < 4294967296
  d : ∀ i, 0 ≤ d i ∧ d i < 4294967296

theorem w12_size (d : Nat → Int) : (w12 d).size = 12 := rfl
theorem w12_get (d : Nat → Int) (i : Nat) (h : i < 12) : (w12 d)[i]? = some (.int .u32 (d i)) :=
  match i, h with
  | 0, _ => rfl | 1, _ => rfl | 2, _ => rfl | 3, _ => rfl | 4, _ => rfl | 5, _ => rfl | 6, _ => rfl | 7, _ => rfl | 8, _ => rfl | 9, _ => rfl | 10, _ => rfl | 11, _ => rfl
theorem w12_one (d : Nat → Int) : (w12 d).all (·.oneCell') = true := by simp [w12, Value.oneCell']
theorem row64_one (f : Nat → Int) : (rowA f 64).all (·.oneCell') = true := by
  rw [Array.all_eq_true_iff_forall_mem]
  intro v hv
  exact rowA_one f 64 v (by simpa using hv)

theorem size27 : (Tryz.prog.info? 111).map (·.size) = some 16 := by kernel_rfl
theorem size62 : (Tryz.prog.info? 215).map (·.size) = some 12 := by kernel_rfl
theorem size31 : (Tryz.prog.info? 204).map (·.size) = some 64 := by kernel_rfl
theorem zero31 : ∀ w, (zeroValue 204).run Tryz.prog w = .ok (.agg (rowA nought 64)) w := (zero_of_info (show (Tryz.prog.info? 204).map (fun i => (i.zero, i.size)) = some (some (.agg (rowA nought 64)), 64) by kernel_rfl)).1
theorem zero62 : ∀ w, (zeroValue 215).run Tryz.prog w = .ok (.agg (w12 nought)) w := (zero_of_info (show (Tryz.prog.info? 215).map (fun i => (i.zero, i.size)) = some (some (.agg (w12 nought)), 12) by kernel_rfl)).1
section
variable {ops : Array Oper} {rest : List Oper} {o : Oper} {a : Act} {w : World} {Q : Exit → Act → World → Prop}
/-- A whole row is loaded, of any type that is a row. -/
theorem wpList_ldR (ty : TypeId) {d : TypeDesc} (hu : Tryz.prog.underlying ty = some d) (hd : d.isRow = true) (hw : Region.wanted o (yielded ops a.tmps) = true) (x : Operand) (ho : o.op = .load ty x)
    (g : Nat) (hx : a.eval x = .pointer (some ⟨g, 0, none⟩)) (cs : Array Value) (t : TypeId) (fr : Nat × Nat) (hi : (Tryz.prog.info? ty).map (·.size) = some cs.size) (hg : w.heap[g]? = some (.cells cs t fr))
    (h : wpList Tryz.prog ops Q rest (a.put o.dst (.agg cs)) w) : wpList Tryz.prog ops Q (o :: rest) a w := by
  unfold wpList
  rw [if_pos hw]
  refine .inl ?_
  unfold Oper.wp execOp
  simp only [ho, hx, Instr.loadAt, Instr.sureAddr, Sem.run_bind, Sem.run_pure, Result.andThen_ok, run_loadVar_row w g t ty cs fr d hg hu (by cases d <;> first | rfl | cases hd) hi]
  exact h
theorem wpList_stR (ty : TypeId) (hgd : o.guard = none) (x y : Operand) (ho : o.op = .store ty x y)
    (g : Nat) (cs c0 : Array Value) (t : TypeId) (hi : (Tryz.prog.info? ty).map (·.size) = some cs.size) (hs : c0.size = cs.size) (h1 : cs.all (·.oneCell') = true)
    (hx : a.eval x = .pointer (some ⟨g, 0, none⟩)) (hy : a.eval y = .agg cs) (hg : w.heap[g]? = some (.cells c0 t))
    (h : wpList Tryz.prog ops Q rest (a.put o.dst undef) (w.setRow g cs)) : wpList Tryz.prog ops Q (o :: rest) a w :=
  wpList_plain hgd fun _ hK => by
    unfold Oper.wp execOp
    simp only [ho, hx, hy, Instr.storeAt, Instr.sureAddr, Sem.run_bind, Sem.run_pure, Result.andThen_ok, run_storeVar_row w g t ty c0 cs hg hi hs h1]
    exact hK _ _ h
end
theorem retR {fn : Func} {p : Tmp} {ty : TypeId} {R : Ending → World → Prop} {a : Act} {w : World} {d : TypeDesc} (hu : Tryz.prog.underlying ty = some d) (hd : d.isRow = true)
    (h : fn.results = #[.cell p ty]) (g : Nat) (cs : Array Value) (t : TypeId) (hi : (Tryz.prog.info? ty).map (·.size) = some cs.size)
    (hp : a.tmps.getD p undef = .pointer (some ⟨g, 0, none⟩)) (hg : w.heap[g]? = some (.cells cs t)) (hdf : a.defers = []) (hR : R (.returned (.agg cs)) w) : bodyPost Tryz.prog fn R .ret a w :=
  bodyPost_ret (results_cell_row h a.tmps w g t cs (0, 0) _ hp hg hu (by cases d <;> first | rfl | cases hd) hi) hdf hR

theorem idx62 (d : Nat → Int) (k : Nat) (hk : k < 12) (w : World) : (Instr.index 215 (.agg (w12 d)) (.int .i64 k)).run Tryz.prog w = .ok (.int .u32 (d k)) w := by
  have h := w12_get d k hk
  simp [Instr.index, run_underlying Tryz.underlying215, asIntOf, part, Tryz.isAgg108, h, go_sem]
  intro h9; omega
theorem arrayAt31 (a : Option Addr) (n c : Nat) (h : 64 ≤ n) (w : World) : (Instr.arrayAt 204 (.slice a n c)).run Tryz.prog w = .ok (.pointer a) w := by
  have : ¬ n < 64 := by omega
  simp [Instr.arrayAt, run_underlying Tryz.underlying204, this]
end Go.Proofs.YtlcdpmjdnihocaaGreatK
/- The document's Of: the layout of a geometry, or none; for every geometry. -/
namespace Go.Proofs.YtlcdpmjdnihocaaGreatK
open Go.RowKit

end Go.Proofs.YtlcdpmjdnihocaaGreatK
/- stands of shape, and the document's Fits: is a layout just what its geometry says? For every layout. -/
namespace Go.Proofs.YtlcdpmjdnihocaaGreatK
open Go.RowKit

/-- Is a layout just what its geometry says? -/
def standsB (b l i a c d e f g : Int) : Bool := decide (Fine b l i ∧ a = 1 ∧ c = 1 + l ∧ d = nodeB i ∧ e = bitsAt l i ∧ f = bitsB b ∧ g = dataAt b l i)
theorem heap_kept {w w' : World} {g : Nat} {o : Obj} (h : w.heap[g]? = some o) (hb : Below w.heap.size w w') : w'.heap[g]? = some o :=
  (hb.block g (Array.getElem?_eq_some_iff.1 h).1).trans h
theorem below_next {w w1 w2 : World} (h : Below w.heap.size w w1) (hb : Below w1.heap.size w1 w2) : Below w.heap.size w w2 := h.trans (hb.mono h.size)
theorem below_new (w : World) (o : Obj) : Below w.heap.size w (w.alloc o) := (Below.refl _ _).alloc (Nat.le_refl _) _

end Go.Proofs.YtlcdpmjdnihocaaGreatK
/- The twelve numbers of an inode, the program's and the document's; what is told of an inode; sixty-four bytes of a slice; no condition. -/
namespace Go.Proofs.YtlcdpmjdnihocaaGreatK
open Go.RowKit

def w10 (d e : Nat → Int) : Array Value :=
  #[.int .u32 (d 0), .int .u32 (d 1), .int .u32 (d 2), .int .u32 (d 3), .int .u32 (d 4), .int .u32 (d 5), .int .u32 (d 6), .int .u32 (d 7), .int .u32 (d 8), .int .u32 (d 9), .int .u32 (e 10), .int .u32 (e 11)]
theorem run_copyN (W : World) (ty : TypeId) (g gs : Nat) (k l s b : Int) (d : Nat → Int) (t t' : TypeId) (hF : W.heap[g]? = some (.cells (w12 nought) t)) (hG : W.heap[gs]? = some (.cells (node16 k l s b d) t')) :
    (Builtin.copy_ #[231, 231] ty #[.slice (some ⟨g, 0, none⟩) 12 12, .slice (some ⟨gs, 4, none⟩) 10 10]).run Tryz.prog W = .ok (goInt 10) (W.setRow g (w10 d nought)) := by
  have hi : (Tryz.prog.info? 108).map (·.size) = some 1 := by kernel_rfl
  have key := run_copy_row (P := Tryz.prog) W 231 231 ty 108 g 0 12 12 ⟨gs, 4, none⟩ 10 10 (w12 nought) t
    [.int .u32 (d 0), .int .u32 (d 1), .int .u32 (d 2), .int .u32 (d 3), .int .u32 (d 4), .int .u32 (d 5), .int .u32 (d 6), .int .u32 (d 7), .int .u32 (d 8), .int .u32 (d 9)] Tryz.underlying231 hi hF rfl (fun j v hv => by
      rw [Go.WideShapes.add_plain, cell_of_row W gs _ _ t' _ hG]
      match j, hv with
      | 0, hv | 1, hv | 2, hv | 3, hv | 4, hv | 5, hv | 6, hv | 7, hv | 8, hv | 9, hv => exact hv
      | j + 10, hv => simp at hv) (by rw [w12_size]; simp) (by simp [Value.oneCell'])
  exact key
theorem wpList_copyN {ops : Array Oper} {rest : List Oper} {o : Oper} {a : Act} {w : World} {Q : Exit → Act → World → Prop} (hgd : o.guard = none) (x y : Operand)
    (ho : o.op = .call { callee := .builtin .copy, args := #[x, y], argTypes := #[231, 231] }) (g gs : Nat) (k l s b : Int) (d : Nat → Int) (t t' : TypeId)
    (hd : a.eval x = .slice (some ⟨g, 0, none⟩) 12 12) (hs : a.eval y = .slice (some ⟨gs, 4, none⟩) 10 10)
    (hF : w.heap[g]? = some (.cells (w12 nought) t)) (hG : w.heap[gs]? = some (.cells (node16 k l s b d) t'))
    (h : wpList Tryz.prog ops Q rest (a.put o.dst (goInt 10)) (w.setRow g (w10 d nought))) : wpList Tryz.prog ops Q (o :: rest) a w :=
  wpList_plain hgd fun _ hK => by
    have hrun := run_copyN w o.type g gs k l s b d t t' hF hG
    unfold Oper.wp
    simp [execOp, ho, resolve, invoke, builtin, hd, hs, hrun, Result.andThen]
    exact hK _ _ h

theorem heap_new3 (w : World) (A B C : Obj) : (((w.alloc A).alloc B).alloc C).heap[w.heap.size + 2]? = some C := by
  have h := heap_alloc_new ((w.alloc A).alloc B) C
  rwa [World.size_alloc, World.size_alloc] at h
set_option maxRecDepth 20000 in
set_option maxHeartbeats 400000 in
theorem numbers_any (k l s b : Int) (d : Nat → Int) (w : World) :
    Calls Tryz.prog 156 #[.agg (node16 k l s b d)] w fun e w' => e = .returned (.agg (w12 d)) ∧ Below w.heap.size w w' := by
  have z62 := zero62
  go_enter Tryz.func156, Tryz.ntmps156
  go_wp2
  go_still_tail 3, (by kernel_rfl)
  change wpList _ _ _ _ _ (World.drew _)
  have hF : (((w.alloc (.cells (node16 k l s b d) 111)).alloc (.cells (w12 nought) 215)).alloc (.cells (w12 nought) 215)).drew.heap[w.heap.size + 2]? = some (.cells (w12 nought) 215) := by
    show (((w.alloc (.cells (node16 k l s b d) 111)).alloc (.cells (w12 nought) 215)).alloc (.cells (w12 nought) 215)).heap[w.heap.size + 2]? = _
    exact heap_new3 _ _ _ _
  have hG : (((w.alloc (.cells (node16 k l s b d) 111)).alloc (.cells (w12 nought) 215)).alloc (.cells (w12 nought) 215)).drew.heap[w.heap.size]? = some (.cells (node16 k l s b d) 111) := by
    show (((w.alloc (.cells (node16 k l s b d) 111)).alloc (.cells (w12 nought) 215)).alloc (.cells (w12 nought) 215)).heap[w.heap.size]? = _
    rw [heap_alloc_old _ _ (by simp; omega)]
    exact heap_alloc2_old _ _ _
  refine wpList_copyN rfl _ _ rfl (w.heap.size + 2) w.heap.size k l s b d 215 111 rfl rfl hF hG ?_
  have hW : (((w.alloc (.cells (node16 k l s b d) 111)).alloc (.cells (w12 nought) 215)).alloc (.cells (w12 nought) 215)).drew.setRow (w.heap.size + 2) (w10 d nought) = (((w.alloc (.cells (node16 k l s b d) 111)).alloc (.cells (w12 nought) 215)).alloc (.cells (w10 d nought) 215)).drew := by
    have h := World.setRow_alloc_new ((w.alloc (.cells (node16 k l s b d) 111)).alloc (.cells (w12 nought) 215)) (w12 nought) (w10 d nought) 215
    rw [World.size_alloc, World.size_alloc] at h
    exact congrArg World.drew h
  rw [hW]
  clear hF hG hW
  simp only [Act.put, List.setIfInBounds_toArray, List.set_cons_succ, List.set_cons_zero]
  unfold node16 w10
  go_wp2_with (first | refine wpList_stR 215 rfl _ _ rfl _ (w12 d) _ 215 (by rw [w12_size]; exact size62) (by rfl) (w12_one d) rfl rfl (heap3 _ _ _ _) ?_)
  refine retR Tryz.underlying215 rfl rfl (w.heap.size + 1) (w12 d) 215 (by rw [w12_size]; exact size62) rfl (setRow_heap _ _ _ _ _ _ (heap3 _ _ _ _)) rfl ⟨rfl, ?_⟩
  exact below_setRow (bel_al (bel_al (below_new _ _) _) _).drew (by omega) _

end Go.Proofs.YtlcdpmjdnihocaaGreatK
/- The document's put and get over sixty-four bytes, and where a number of an inode stands; places inside. -/
namespace Go.Proofs.YtlcdpmjdnihocaaGreatK
open Go.RowKit

theorem nplace_any (k : Int) (w : World) (h : 0 ≤ k ∧ k ≤ 100) : Calls Tryz.prog 157 #[.int .i64 k] w fun e w' => e = .returned (.int .i64 (12 + 4 * k)) ∧ w' = w := by
  obtain ⟨h0, h1⟩ := h
  go_enter Tryz.func157, Tryz.ntmps157
  go_wp2
  go_ret
  exact ⟨rfl, rfl⟩

end Go.Proofs.YtlcdpmjdnihocaaGreatK
/- Encode of node: the sixty-four bytes of an inode; for every inode. -/
namespace Go.Proofs.YtlcdpmjdnihocaaGreatK
open Go.RowKit

/-- The bytes of an inode with its first m numbers. -/
def encN (k l s b : Int) (d : Nat → Int) : Nat → Nat → Int
  | 0 => putN (putN (putN (putN nought 0 k 2) 2 l 2) 4 s 4) 8 b 4
  | m + 1 => putN (encN k l s b d m) (12 + 4 * m) (d m) 4

theorem wpList_ldC {ops : Array Oper} {rest : List Oper} {o : Oper} {a : Act} {w : World} {Q : Exit → Act → World → Prop} (ty : TypeId) (hagg : ∀ w, (isAgg ty).run Tryz.prog w = .ok false w) (hw : Region.wanted o (yielded ops a.tmps) = true) (x : Operand) (ho : o.op = .load ty x)
    (g j : Nat) (hx : a.eval x = .pointer (some ⟨g, j, none⟩)) (v : Value) (hc : w.cell? ⟨g, j, none⟩ = some v)
    (h : wpList Tryz.prog ops Q rest (a.put o.dst v) w) : wpList Tryz.prog ops Q (o :: rest) a w := by
  unfold wpList
  rw [if_pos hw]
  refine .inl ?_
  unfold Oper.wp execOp
  simp only [ho, hx]
  simp [Instr.loadAt, Instr.sureAddr, loadVar, hagg, hc, go_sem]
  exact h

theorem load59 (w : World) (g : Nat) (f : Nat → Int) (h : w.heap[g]? = some (.cells (blk f) 79)) : (loadVar 79 ⟨g, 0, none⟩).run Tryz.prog w = .ok (.agg (blk f)) w :=
  run_loadVar_row w g 79 79 (blk f) (0, 0) _ h Tryz.underlying79 rfl (by rw [blk_size]; exact size25)
theorem wpOrd_loadF {ops : Array Oper} {Q : Exit → Act → World → Prop} {S : World → Prop} {r : List (Bool × Oper)} {a : Act} {w : World} {o : Oper} (hw : Region.wanted o (yielded ops a.tmps) = true)
    (x : Operand) (ho : o.op = .load 79 x) (g : Nat) (hx : a.eval x = .pointer (some ⟨g, 0, none⟩)) (f : Nat → Int) (hg : w.heap[g]? = some (.cells (blk f) 79))
    (h : S w ∧ wpOrd Tryz.prog ops Q S r (a.put o.dst (.agg (blk f))) w) : wpOrd Tryz.prog ops Q S ((false, o) :: r) a w := by
  simp only [wpOrd, hw, if_true]
  unfold Oper.wp execOp
  simp only [ho, hx, Instr.loadAt, Instr.sureAddr, Sem.run_bind, Sem.run_pure, Result.andThen_ok, load59 w g f hg]
  exact h
theorem wpOrd_storeB {ops : Array Oper} {Q : Exit → Act → World → Prop} {S : World → Prop} {r : List (Bool × Oper)} {a : Act} {w : World} {o : Oper} (hw : Region.wanted o (yielded ops a.tmps) = true)
    (x y : Operand) (ho : o.op = .store 79 x y) (g : Nat) (f f0 : Nat → Int) (hx : a.eval x = .pointer (some ⟨g, 0, none⟩)) (hy : a.eval y = .agg (blk f)) (hg : w.heap[g]? = some (.cells (blk f0) 79))
    (h : S (w.setRow g (blk f)) ∧ wpOrd Tryz.prog ops Q S r (a.put o.dst undef) (w.setRow g (blk f))) : wpOrd Tryz.prog ops Q S ((false, o) :: r) a w := by
  simp only [wpOrd, hw, if_true]
  unfold Oper.wp execOp
  simp only [ho, hx, hy, Instr.storeAt, Instr.sureAddr, Sem.run_bind, Sem.run_pure, Result.andThen_ok, run_storeVar_row w g 79 79 (blk f0) (blk f) hg (by rw [blk_size]; exact size25) (by rw [blk_size, blk_size]) (blk_one f)]
  exact h

/-- An inode's row, a row for the result and a block beside them, made since w. -/
structure EncS (w W : World) (N : Array Value) (g : Nat) (f : Nat → Int) : Prop where
  node : W.heap[w.heap.size]? = some (.cells N 111)
  res : W.heap[w.heap.size + 1]? = some (.cells (rowA nought 64) 204)
  blk : W.heap[g]? = some (.cells (blk f) 79)
  far : w.heap.size + 2 ≤ g
  bel : Below w.heap.size w W
theorem EncS.call {w W W' : World} {N : Array Value} {g : Nat} {f : Nat → Int} (h : EncS w W N g f) (hb : Below W.heap.size W W') : EncS w W' N g f :=
  ⟨heap_kept h.node hb, heap_kept h.res hb, heap_kept h.blk hb, h.far, below_next h.bel hb⟩
theorem EncS.store {w W : World} {N : Array Value} {g : Nat} {f : Nat → Int} (h : EncS w W N g f) (f' : Nat → Int) : EncS w (W.setRow g (Proofs.YtlcdpmjdnihocaaGreatK.blk f')) N g f' :=
  ⟨(setRow_other _ _ _ _ (by have := h.far; omega)).trans h.node, (setRow_other _ _ _ _ (by have := h.far; omega)).trans h.res, setRow_heap _ _ _ _ _ _ h.blk, h.far, below_setRow h.bel (by have := h.far; omega) _⟩
theorem EncS.drew {w W : World} {N : Array Value} {g : Nat} {f : Nat → Int} (h : EncS w W N g f) : EncS w W.drew N g f := ⟨h.node, h.res, h.blk, h.far, h.bel.drew⟩
theorem EncS.cell {w W : World} {N : Array Value} {g : Nat} {f : Nat → Int} (h : EncS w W N g f) (j : Nat) (v : Value) (hv : N[j]? = some v) : W.cell? ⟨w.heap.size, j, none⟩ = some v :=
  (cell_of_row W _ j N 111 _ h.node).trans hv

set_option maxRecDepth 20000 in
set_option maxHeartbeats 1000000 in
theorem encode_any (k l s b : Int) (d : Nat → Int) (w : World) (h : NodeOk k l s b d) :
    Calls Tryz.prog 138 #[.agg (node16 k l s b d)] w fun e w' => e = .returned (.agg (rowA (encN k l s b d 12) 64)) ∧ Below w.heap.size w w' := by
  have z31 := zero31
  have z25 := zero25
  have c0 : ∀ W : World, Calls Tryz.prog 155 #[.agg (blk nought), .int .i64 0, .int .u16 k] W fun e w' => e = .returned (.agg (blk (putN nought 0 k 2))) ∧ Below W.heap.size W w' := fun W => set16_in _ 0 k W (by omega) h.k
  have c1 : ∀ W : World, Calls Tryz.prog 155 #[.agg (blk (putN nought 0 k 2)), .int .i64 2, .int .u16 l] W fun e w' => e = .returned (.agg (blk (putN (putN nought 0 k 2) 2 l 2))) ∧ Below W.heap.size W w' := fun W => set16_in _ 2 l W (by omega) h.l
  have c2 : ∀ W : World, Calls Tryz.prog 95 #[.agg (blk (putN (putN nought 0 k 2) 2 l 2)), .int .i64 4, .int .u32 s] W fun e w' => e = .returned (.agg (blk (putN (putN (putN nought 0 k 2) 2 l 2) 4 s 4))) ∧ Below W.heap.size W w' := fun W => set32_in _ 4 s W (by omega) h.s
  have c3 : ∀ W : World, Calls Tryz.prog 95 #[.agg (blk (putN (putN (putN nought 0 k 2) 2 l 2) 4 s 4)), .int .i64 8, .int .u32 b] W fun e w' => e = .returned (.agg (blk (encN k l s b d 0))) ∧ Below W.heap.size W w' := fun W => set32_in _ 8 b W (by omega) h.b
  have H4 : Hid (∀ i, 0 ≤ d i ∧ d i < 4294967296) := h.d
  have HS : Hid (∀ (m : Nat) (W : World), m < 12 → Calls Tryz.prog 95 #[.agg (blk (encN k l s b d m)), .int .i64 (12 + 4 * (m : Int)), .int .u32 (d m)] W fun e w' => e = .returned (.agg (blk (encN k l s b d (m + 1)))) ∧ Below W.heap.size W w') := fun m W hm => by
    have := set32_in (encN k l s b d m) (12 + 4 * m) (d m) W (by omega) (h.d m)
    rwa [show ((12 + 4 * m : Nat) : Int) = 12 + 4 * (m : Int) by omega] at this
  have HF : Hid (∀ f : Nat → Int, rowA (from' f 0) 64 = rowA f 64) := fun f => rowA_congr fun i _ => by simp [from']
  have hnum := fun W => numbers_any k l s b d W
  have n0 : (node16 k l s b d)[0]? = some (.int .u16 k) := rfl
  have n1 : (node16 k l s b d)[1]? = some (.int .u16 l) := rfl
  have n2 : (node16 k l s b d)[2]? = some (.int .u32 s) := rfl
  have n3 : (node16 k l s b d)[3]? = some (.int .u32 b) := rfl
  have hsz : (Tryz.prog.info? 111).map (·.size) = some (node16 k l s b d).size := size27
  have N1 : Hid _ := n1
  have N2 : Hid _ := n2
  have N3 : Hid _ := n3
  have HZ : Hid _ := hsz
  clear h n1 n2 n3 hsz
  generalize node16 k l s b d = N at *
  generalize encN k l s b d = E at *
  generalize putN (putN (putN nought 0 k 2) 2 l 2) 4 s 4 = f3 at *
  generalize putN (putN nought 0 k 2) 2 l 2 = f2 at *
  generalize putN nought 0 k 2 = f1 at *
  go_enter Tryz.func138, Tryz.ntmps138
  go_wp2_with (first | (go_at_call 155; fail))
  refine (c0 _).mono ?_
  rintro e W1 ⟨rfl, hb1⟩
  have S1 : EncS w (W1.alloc (.cells (blk f1) 79)) N W1.heap.size f1 :=
    ⟨heap_kept (heap_kept (heap_alloc2_old w _ _) hb1) (below_new _ _), heap_kept (heap_kept (heap_alloc2_new w _ _) hb1) (below_new _ _), heap_alloc_new _ _, by have := hb1.size; simpa using this, below_next (below_next (bel_al (below_new _ _) _) hb1) (below_new _ _)⟩
  have HS1 : Hid _ := S1
  clear c0 S1 hb1 n0
  go_wp2_with (first | refine wpList_store25_new rfl _ _ rfl _ _ rfl rfl ?_ | refine wpList_load25 rfl _ rfl _ rfl _ HS1.out.blk ?_ | refine wpList_ldC 62 (fun w => Tryz.isAgg62 w) rfl _ rfl _ _ rfl _ (HS1.out.cell 1 _ N1.out) ?_ | (go_at_call 155; fail))
  refine (c1 _).mono ?_
  rintro e W2 ⟨rfl, hb⟩
  have HS2 : Hid _ := HS1.out.call hb
  clear hb HS1 c1 N1
  go_wp2_with (first | refine wpList_store25 rfl _ _ rfl _ _ rfl rfl _ HS2.out.blk ?_ | refine wpList_load25 rfl _ rfl _ rfl _ (HS2.out.store f2).blk ?_ | refine wpList_ldC 108 (fun w => Tryz.isAgg108 w) rfl _ rfl _ _ rfl _ ((HS2.out.store f2).cell 2 _ N2.out) ?_ | (go_at_call 95; fail))
  refine (c2 _).mono ?_
  rintro e W3 ⟨rfl, hb⟩
  have HS3 : Hid _ := (HS2.out.store f2).call hb
  clear hb HS2 c2 N2
  go_wp2_with (first | refine wpList_store25 rfl _ _ rfl _ _ rfl rfl _ HS3.out.blk ?_ | refine wpList_load25 rfl _ rfl _ rfl _ (HS3.out.store f3).blk ?_ | refine wpList_ldC 108 (fun w => Tryz.isAgg108 w) rfl _ rfl _ _ rfl _ ((HS3.out.store f3).cell 3 _ N3.out) ?_ | (go_at_call 95; fail))
  refine (c3 _).mono ?_
  rintro e W4 ⟨rfl, hb⟩
  have HS4 : Hid _ := (HS3.out.store f3).call hb
  clear hb HS3 c3 N3
  go_wp2_with (first | refine wpList_store25 rfl _ _ rfl _ _ rfl rfl _ HS4.out.blk ?_ | refine wpList_ldR 111 Tryz.underlying111 rfl rfl _ rfl _ rfl _ 111 (0, 0) HZ.out (HS4.out.store (E 0)).node ?_ | (go_at_call 156; fail))
  refine (hnum _).mono ?_
  rintro e W5 ⟨rfl, hb⟩
  have HS5 : Hid _ := (HS4.out.store (E 0)).call hb
  clear hb HS4 hnum HZ
  go_wp2
  go_loopw [24] (fun s24 wx => ∃ m : Nat, m ≤ 12 ∧ s24 = .int .i64 m ∧ EncS w wx N W1.heap.size (E m)) (fun s24 _ => 12 - (intOf s24).toNat)
  case atStart => exact ⟨0, by omega, rfl, HS5.out⟩
  case round =>
    obtain ⟨m, hm, rfl, hst⟩ := hrel
    have HT : Hid _ := hst
    clear hst HS5
    by_cases h12 : (m : Int) < 12
    · have hidx := idx62 d m (by omega)
      have hst := fun W => HS.out m W (by omega)
      have hx := H4.out m
      generalize d m = x at *
      have HST : Hid _ := hst
      have HX : Hid _ := hx
      have HPL : Hid _ := fun (W : World) => nplace_any m W (by omega)
      clear hst hx HS H4
      go_wp2
      refine wp_region_fork (S := fun _ => True) [1, 3] 0 2 [(4, false), (5, false)] (by kernel_rfl) rfl (by kernel_rfl) (fun d _ _ _ _ h => by cases d <;> exact h) trivial ?_
      refine wpFork_yield (v := .int .i64 (m : Int)) rfl rfl (fun u _ => by simp [execOp, Act.eval]) ?_
      simp only [Act.put, List.setIfInBounds_toArray, List.set_cons_succ, List.set_cons_zero]
      refine wpFork_yield (v := .int .u32 x) rfl rfl (fun u _ => by simp [execOp, Act.eval]) ?_
      simp only [Act.put, List.setIfInBounds_toArray, List.set_cons_succ, List.set_cons_zero]
      have HD : Hid _ := HT.out.drew
      clear HT
      generalize wr.drew = wd at *
      refine wpFork_nil rfl rfl ?_ ?_
      · simp only [inOrd, List.getElem?_cons_zero, List.getElem?_cons_succ]
        refine wpOrd_loadF rfl _ rfl _ rfl _ HD.out.blk ⟨trivial, ?_⟩
        simp only [Act.put, List.setIfInBounds_toArray, List.set_cons_succ, List.set_cons_zero]
        refine wpOrd_call rfl 157 _ _ rfl Tryz.call157 [.int .i64 (m : Int)] rfl ?_
        refine (HPL.out _).mono ?_
        rintro e' X ⟨rfl, rfl⟩
        refine ⟨_, rfl, trivial, ?_⟩
        simp only [Act.put, List.setIfInBounds_toArray, List.set_cons_succ, List.set_cons_zero]
        refine wpOrd_call rfl 95 _ _ rfl Tryz.call95 [.agg (blk (E m)), .int .i64 (12 + 4 * (m : Int)), .int .u32 x] rfl ?_
        refine (HST.out _).mono ?_
        rintro e' X ⟨rfl, hbx⟩
        refine ⟨_, rfl, trivial, ?_⟩
        simp only [Act.put, List.setIfInBounds_toArray, List.set_cons_succ, List.set_cons_zero]
        have HX1 : Hid _ := HD.out.call hbx
        refine wpOrd_storeB rfl _ _ rfl W1.heap.size (E (m + 1)) _ rfl rfl HX1.out.blk ⟨trivial, ?_⟩
        refine wpOrd_nil ?_
        have HX2 : Hid _ := HX1.out.store (E (m + 1))
        simp only [Act.put]
        generalize X.setRow W1.heap.size (blk (E (m + 1))) = Y at HX2 ⊢
        clear HX1 HD hbx HST HPL
        go_wp2
        exact ⟨⟨m + 1, by omega, by go_num, HX2.out⟩, by simp [intOf]; omega⟩
      · simp only [inOrd, List.getElem?_cons_zero, List.getElem?_cons_succ]
        refine wpOrd_call rfl 157 _ _ rfl Tryz.call157 [.int .i64 (m : Int)] rfl ?_
        refine (HPL.out _).mono ?_
        rintro e' X ⟨rfl, rfl⟩
        refine ⟨_, rfl, trivial, ?_⟩
        simp only [Act.put, List.setIfInBounds_toArray, List.set_cons_succ, List.set_cons_zero]
        refine wpOrd_loadF rfl _ rfl _ rfl _ HD.out.blk ⟨trivial, ?_⟩
        simp only [Act.put, List.setIfInBounds_toArray, List.set_cons_succ, List.set_cons_zero]
        refine wpOrd_call rfl 95 _ _ rfl Tryz.call95 [.agg (blk (E m)), .int .i64 (12 + 4 * (m : Int)), .int .u32 x] rfl ?_
        refine (HST.out _).mono ?_
        rintro e' X ⟨rfl, hbx⟩
        refine ⟨_, rfl, trivial, ?_⟩
        simp only [Act.put, List.setIfInBounds_toArray, List.set_cons_succ, List.set_cons_zero]
        have HX1 : Hid _ := HD.out.call hbx
        refine wpOrd_storeB rfl _ _ rfl W1.heap.size (E (m + 1)) _ rfl rfl HX1.out.blk ⟨trivial, ?_⟩
        refine wpOrd_nil ?_
        have HX2 : Hid _ := HX1.out.store (E (m + 1))
        simp only [Act.put]
        generalize X.setRow W1.heap.size (blk (E (m + 1))) = Y at HX2 ⊢
        clear HX1 HD hbx HST HPL
        go_wp2
        exact ⟨⟨m + 1, by omega, by go_num, HX2.out⟩, by simp [intOf]; omega⟩
    · obtain rfl : m = 12 := by omega
      clear hm HS H4
      have hpc := fun W => piece_any (E 12) 0 64 W (by omega) (by omega)
      have e1 : insLo 0 64 = 0 := by decide
      have e2 : insHi 0 64 = 64 := by decide
      rw [e1, e2] at hpc
      simp only [Nat.sub_zero] at hpc
      rw [HF.out] at hpc
      clear HF e1 e2
      go_wp2_with (first | refine wpList_load25 rfl _ rfl _ rfl _ HT.out.blk ?_ | (go_at_call 158; fail))
      refine (hpc _).mono ?_
      rintro e' X ⟨rfl, hX, hXs, hbx⟩
      have HX1 : Hid _ := HT.out.call hbx
      have HR : Hid _ := hX
      clear hpc hX hXs hbx HT
      have ha := fun u => arrayAt31 (some ⟨wr.heap.size + 1, 0, none⟩) 64 64 (by omega) u
      go_wp2_with (first | refine wpList_ldR 204 Tryz.underlying204 rfl rfl _ rfl _ rfl _ 5 (0, 0) (by rw [rowA_size]; exact size31) HR.out ?_ | refine wpList_stR 204 rfl _ _ rfl _ _ _ 204 (by rw [rowA_size]; exact size31) (by simp only [rowA_size]) (row64_one _) rfl rfl HX1.out.res ?_)
      exact retR Tryz.underlying204 rfl rfl (w.heap.size + 1) _ 204 (by rw [rowA_size]; exact size31) rfl (setRow_heap _ _ _ _ _ _ HX1.out.res) rfl ⟨rfl, below_setRow HX1.out.bel (by omega) _⟩
end Go.Proofs.YtlcdpmjdnihocaaGreatK
/- What a block of 1024 bytes is as cells: a plain function from places to numbers, laid as cells; no condition. -/
namespace Go.Proofs.YtlcdpmjdnihocaaGreatP
open Go.RowKit

/-- The cells of a block whose byte at place i is f i. -/
def blk (f : Nat → Int) : Array Value := ((List.range 1024).map fun i => Value.int .u8 (f i)).toArray
/-- f, but for x at place i. -/
def upd (f : Nat → Int) (i : Nat) (x : Int) : Nat → Int := fun j => if j = i then x else f j
def nought : Nat → Int := fun _ => 0

theorem blk_size (f : Nat → Int) : (blk f).size = 1024 := by simp [blk]
theorem blk_get (f : Nat → Int) (i : Nat) (h : i < 1024) : (blk f)[i]? = some (.int .u8 (f i)) := by
  simp [blk, h]
theorem blk_set (f : Nat → Int) (i : Nat) (x : Int) : (blk f).setIfInBounds i (.int .u8 x) = blk (upd f i x) := by
  apply Array.ext_getElem?
  intro j
  by_cases hj : j < 1024
  · rw [blk_get _ _ hj, Array.getElem?_setIfInBounds]
    by_cases e : i = j
    · subst e; simp [blk_size, hj, upd]
    · have e' : ¬ j = i := fun q => e q.symm
      simp [e, e', blk_get _ _ hj, upd]
  · rw [Array.getElem?_eq_none (by rw [Array.size_setIfInBounds, blk_size]; omega), Array.getElem?_eq_none (by rw [blk_size]; omega)]
theorem blk_congr {f g : Nat → Int} (h : ∀ i, i < 1024 → f i = g i) : blk f = blk g := by
  apply Array.ext_getElem?
  intro j
  by_cases hj : j < 1024
  · rw [blk_get _ _ hj, blk_get _ _ hj, h j hj]
  · rw [Array.getElem?_eq_none (by rw [blk_size]; omega), Array.getElem?_eq_none (by rw [blk_size]; omega)]
theorem blk_one (f : Nat → Int) : (blk f).all (·.oneCell') = true := by
  rw [Array.all_eq_true_iff_forall_mem]
  intro v hv
  simp [blk] at hv
  obtain ⟨i, _, rfl⟩ := hv
  rfl
end Go.Proofs.YtlcdpmjdnihocaaGreatP
/- Numbers of some bytes, the lowest first: read and laid, as plain functions; the bytes are 0 to 255. -/
namespace Go.Proofs.YtlcdpmjdnihocaaGreatP
open Go.RowKit

/-- f with m bytes of v laid from place k on. -/
def putN (f : Nat → Int) (k : Nat) (v : Int) : Nat → Nat → Int
  | 0 => f
  | m + 1 => putN (upd f k (v % 256)) (k + 1) (v / 256) m
def put (f : Nat → Int) (at' : Int) (n : Nat) (v : Int) : Nat → Int := if 0 ≤ at' ∧ at' ≤ 1024 - (n : Int) then putN f at'.toNat v n else f

theorem put_in (f : Nat → Int) (k n : Nat) (v : Int) (h : k + n ≤ 1024) : put f (k : Int) n v = putN f k v n := by
  unfold put; rw [if_pos (by omega), Int.toNat_natCast]
theorem put_out (f : Nat → Int) (a : Int) (n : Nat) (v : Int) (h : a < 0 ∨ 1024 - (n : Int) < a) : put f a n v = f := by
  unfold put; rw [if_neg (by omega)]
theorem put4 (f : Nat → Int) (k : Nat) (v : Int) (hv : 0 ≤ v ∧ v < 4294967296) : putN f k v 4 = upd (upd (upd (upd f k (v % 256)) (k + 1) (v / 256 % 256)) (k + 2) (v / 65536 % 256)) (k + 3) (v / 16777216) := by
  simp only [putN, Nat.add_assoc, Nat.reduceAdd]
  rw [show v / 256 / 256 % 256 = v / 65536 % 256 by omega, show v / 256 / 256 / 256 % 256 = v / 16777216 by omega]
theorem wrap_u32 (n : Int) : IntKind.u32.wrap n = n % 4294967296 := by simp [IntKind.wrap, IntKind.bits, IntKind.signed]

end Go.Proofs.YtlcdpmjdnihocaaGreatP
/- Where the regions of a geometry lie, as plain numbers, and the values that stand for them; no condition. -/
namespace Go.Proofs.YtlcdpmjdnihocaaGreatP
open Go.RowKit

def nodeB (i : Int) : Int := (i + 16) / 16
def bitsB (b : Int) : Int := (b + 8191) / 8192
def bitsAt (l i : Int) : Int := 1 + l + nodeB i
def dataAt (b l i : Int) : Int := bitsAt l i + bitsB b
/-- Is there a layout of the geometry b, l, i? -/
abbrev Fine (b l i : Int) : Prop := 32 ≤ l ∧ l ≤ 256 ∧ 1 ≤ i ∧ i ≤ 65535 ∧ b ≤ 1048576 ∧ dataAt b l i < b
theorem Fine.pos {b l i : Int} (h : Fine b l i) : 35 ≤ b := by
  unfold Fine dataAt bitsAt nodeB bitsB at h; omega

/-- Is a geometry within its bounds? -/
def bndB (b l i : Int) : Bool := decide (32 ≤ l ∧ l ≤ 256 ∧ 1 ≤ i ∧ i ≤ 65535 ∧ b ≤ 1048576)

def geoV (b l i : Int) : Value := .agg #[.int .i64 b, .int .i64 l, .int .i64 i]
def lay9 (b l i a c d e f g : Int) : Array Value := #[.int .i64 b, .int .i64 l, .int .i64 i, .int .i64 a, .int .i64 c, .int .i64 d, .int .i64 e, .int .i64 f, .int .i64 g]
def layV (b l i : Int) : Value := .agg (lay9 b l i 1 (1 + l) (nodeB i) (bitsAt l i) (bitsB b) (dataAt b l i))
def layZ : Value := .agg (lay9 0 0 0 0 0 0 0 0 0)
/-- What Of answers. -/
def ofV (b l i : Int) : Value := if Fine b l i then layV b l i else layZ
def ofE (b l i : Int) : Int := if Fine b l i then 0 else 2
def I64 (x : Int) : Prop := -9223372036854775808 ≤ x ∧ x ≤ 9223372036854775807
end Go.Proofs.YtlcdpmjdnihocaaGreatP
/- The block type of this program over its translation: loads, stores and results of whole blocks; fits; no condition. -/
namespace Go.Proofs.YtlcdpmjdnihocaaGreatP
open Go.RowKit

theorem info25 : (Tryz.prog.info? 79).map (fun i => (i.zero, i.size)) = some (some (.agg (blk nought)), 1024) := by kernel_rfl
theorem zero25 : ∀ w, (zeroValue 79).run Tryz.prog w = .ok (.agg (blk nought)) w := (zero_of_info info25).1
theorem size25 : (Tryz.prog.info? 79).map (·.size) = some 1024 := (zero_of_info info25).2

set_option maxHeartbeats 400000 in
theorem fits_any (a n : Int) (w : World) (hn : 0 ≤ n ∧ n ≤ 1024) :
    Calls Tryz.prog 137 #[.int .i64 a, .int .i64 n] w fun e w' => e = .returned (.bool (decide (0 ≤ a ∧ a ≤ 1024 - n))) ∧ w' = w := by
  by_cases h0 : 0 ≤ a
  · by_cases h1 : a ≤ 1024 - n
    · go_enter Tryz.func137, Tryz.ntmps137
      go_wp2
      go_ret
      exact ⟨by simp [h0, h1], rfl⟩
    · go_enter Tryz.func137, Tryz.ntmps137
      go_wp2
      go_ret
      exact ⟨by simp [h1], rfl⟩
  · go_enter Tryz.func137, Tryz.ntmps137
    go_wp2
    go_ret
    exact ⟨by simp; omega, rfl⟩

theorem fits_yes (a n : Int) (w : World) (hn : 0 ≤ n ∧ n ≤ 1024) (h : 0 ≤ a ∧ a ≤ 1024 - n) :
    Calls Tryz.prog 137 #[.int .i64 a, .int .i64 n] w fun e w' => e = .returned (.bool true) ∧ w' = w := by
  have := fits_any a n w hn
  rwa [decide_eq_true h] at this
theorem fits_no (a n : Int) (w : World) (hn : 0 ≤ n ∧ n ≤ 1024) (h : ¬ (0 ≤ a ∧ a ≤ 1024 - n)) :
    Calls Tryz.prog 137 #[.int .i64 a, .int .i64 n] w fun e w' => e = .returned (.bool false) ∧ w' = w := by
  have := fits_any a n w hn
  rwa [decide_eq_false h] at this

theorem wpList_load25 {ops : Array Oper} {rest : List Oper} {o : Oper} {a : Act} {w : World} {Q : Exit → Act → World → Prop} (hgd : o.guard = none) (x : Operand) (ho : o.op = .load 79 x)
    (g : Nat) (hx : a.eval x = .pointer (some ⟨g, 0, none⟩)) (f : Nat → Int) (hg : w.heap[g]? = some (.cells (blk f) 79))
    (h : wpList Tryz.prog ops Q rest (a.put o.dst (.agg (blk f))) w) : wpList Tryz.prog ops Q (o :: rest) a w :=
  wpList_load_row hgd 79 x ho g hx 79 (blk f) (0, 0) _ hg Tryz.underlying79 rfl (by rw [blk_size]; exact size25) h
theorem wpList_store25 {ops : Array Oper} {rest : List Oper} {o : Oper} {a : Act} {w : World} {Q : Exit → Act → World → Prop} (hgd : o.guard = none) (x y : Operand) (ho : o.op = .store 79 x y)
    (g : Nat) (f : Nat → Int) (hx : a.eval x = .pointer (some ⟨g, 0, none⟩)) (hy : a.eval y = .agg (blk f)) (f0 : Nat → Int) (hg : w.heap[g]? = some (.cells (blk f0) 79))
    (h : wpList Tryz.prog ops Q rest (a.put o.dst undef) (w.setRow g (blk f))) : wpList Tryz.prog ops Q (o :: rest) a w :=
  wpList_plain hgd fun _ hK => by
    unfold Oper.wp execOp
    simp only [ho, hx, hy, Instr.storeAt, Instr.sureAddr, Sem.run_bind, Sem.run_pure, Result.andThen_ok, run_storeVar_row w g 79 79 (blk f0) (blk f) hg (by rw [blk_size]; exact size25) (by rw [blk_size, blk_size]) (blk_one f)]
    exact hK _ _ h

/-- A result that is a whole block in a cell. -/
theorem ret25 {fn : Func} {p : Tmp} {R : Ending → World → Prop} {a : Act} {w : World} (h : fn.results = #[.cell p 79]) (g : Nat) (f : Nat → Int)
    (hp : a.tmps.getD p undef = .pointer (some ⟨g, 0, none⟩)) (hg : w.heap[g]? = some (.cells (blk f) 79)) (hd : a.defers = []) (hR : R (.returned (.agg (blk f))) w) : bodyPost Tryz.prog fn R .ret a w :=
  bodyPost_ret (results_cell_row h a.tmps w g 79 (blk f) (0, 0) _ hp hg Tryz.underlying79 rfl (by rw [blk_size]; exact size25)) hd hR
theorem below_setRow {B : Nat} {a w : World} (h : Below B a w) {g : Nat} (hg : B ≤ g) (cs : Array Value) : Below B a (w.setRow g cs) :=
  h.trans ⟨rfl, rfl, rfl, by simp, fun k hk => setRow_other w g k cs (by omega)⟩
theorem below2 (w : World) (a b : Obj) (g : Nat) (hg : w.heap.size ≤ g) (cs : Array Value) : Below w.heap.size w (((w.alloc a).alloc b).setRow g cs) :=
  below_setRow (((Below.refl _ _).alloc (Nat.le_refl _) _).alloc (by simp) _) hg _
end Go.Proofs.YtlcdpmjdnihocaaGreatP
