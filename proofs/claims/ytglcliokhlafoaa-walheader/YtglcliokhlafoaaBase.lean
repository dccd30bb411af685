import Derived.WalkKit
import Derived.WalkSpells
import Derived.WalkLawsBesides
import Derived.Deep.WholeRow
import Derived.Laws.StructEq
import Derived.Test.YtglcliokhlafoaaRows
import Derived.BigQuiet
import Derived.OrdersHeld
/- What a block of 1024 bytes is as cells: a plain function from places to numbers, laid as cells; no condition. -/
namespace Go.Proofs.Ytglcliokhlafoaa
open Go.RowKit

/-- The cells of a block whose byte at place i is f i. -/
def blk (f : Nat → Int) : Array Value := ((List.range 1024).map fun i => Value.int .u8 (f i)).toArray
/-- f, but for x at place i. -/
def upd (f : Nat → Int) (i : Nat) (x : Int) : Nat → Int := fun j => if j = i then x else f j
def nought : Nat → Int := fun _ => 0

theorem blk_size (f : Nat → Int) : (blk f).size = 1024 := by simp [blk]
theorem blk_get (f : Nat → Int) (i : Nat) (h : i < 1024) : (blk f)[i]? = some (.int .u8 (f i)) := by
  simp [blk, h]
theorem blk_set (f : Nat → Int) (i : Nat) (x : Int) : (blk f).setIfInBounds i (.int .u8 x) = blk (upd f i x) := by
  apply Array.ext_getElem?
  intro j
  by_cases hj : j < 1024
  · rw [blk_get _ _ hj, Array.getElem?_setIfInBounds]
    by_cases e : i = j
    · subst e; simp [blk_size, hj, upd]
    · have e' : ¬ j = i := fun q => e q.symm
      simp [e, e', blk_get _ _ hj, upd]
  · rw [Array.getElem?_eq_none (by rw [Array.size_setIfInBounds, blk_size]; omega), Array.getElem?_eq_none (by rw [blk_size]; omega)]
theorem blk_congr {f g : Nat → Int} (h : ∀ i, i < 1024 → f i = g i) : blk f = blk g := by
  apply Array.ext_getElem?
  intro j
  by_cases hj : j < 1024
  · rw [blk_get _ _ hj, blk_get _ _ hj, h j hj]
  · rw [Array.getElem?_eq_none (by rw [blk_size]; omega), Array.getElem?_eq_none (by rw [blk_size]; omega)]
theorem blk_one (f : Nat → Int) : (blk f).all (·.oneCell') = true := by
  rw [Array.all_eq_true_iff_forall_mem]
  intro v hv
  simp [blk] at hv
  obtain ⟨i, _, rfl⟩ := hv
  rfl
end Go.Proofs.Ytglcliokhlafoaa
/- The block type of this program over its translation: loads, stores and results of whole blocks; fits; no condition. -/
namespace Go.Proofs.Ytglcliokhlafoaa
open Go.RowKit

theorem info25 : (Try.prog.info? 46).map (fun i => (i.zero, i.size)) = some (some (.agg (blk nought)), 1024) := by kernel_rfl
theorem zero25 : ∀ w, (zeroValue 46).run Try.prog w = .ok (.agg (blk nought)) w := (zero_of_info info25).1
theorem size25 : (Try.prog.info? 46).map (·.size) = some 1024 := (zero_of_info info25).2

def firsts (f : Nat → Int) (k : Nat) : Nat → Int := fun i => if i < k then f i else 0
theorem firsts_next (f : Nat → Int) (k : Nat) : upd (firsts f k) k (f k) = firsts f (k + 1) := by
  funext j
  unfold upd firsts
  by_cases h : j = k
  · subst h; simp
  · by_cases h2 : j < k
    · simp [h, h2, show j < k + 1 by omega]
    · simp [h, h2, show ¬ j < k + 1 by omega]

theorem wpList_load25 {ops : Array Oper} {rest : List Oper} {o : Oper} {a : Act} {w : World} {Q : Exit → Act → World → Prop} (hgd : o.guard = none) (x : Operand) (ho : o.op = .load 46 x)
    (g : Nat) (hx : a.eval x = .pointer (some ⟨g, 0, none⟩)) (f : Nat → Int) (hg : w.heap[g]? = some (.cells (blk f) 46))
    (h : wpList Try.prog ops Q rest (a.put o.dst (.agg (blk f))) w) : wpList Try.prog ops Q (o :: rest) a w :=
  wpList_load_row hgd 46 x ho g hx 46 (blk f) (0, 0) _ hg Try.underlying46 rfl (by rw [blk_size]; exact size25) h
theorem wpList_store25 {ops : Array Oper} {rest : List Oper} {o : Oper} {a : Act} {w : World} {Q : Exit → Act → World → Prop} (hgd : o.guard = none) (x y : Operand) (ho : o.op = .store 46 x y)
    (g : Nat) (f : Nat → Int) (hx : a.eval x = .pointer (some ⟨g, 0, none⟩)) (hy : a.eval y = .agg (blk f)) (f0 : Nat → Int) (hg : w.heap[g]? = some (.cells (blk f0) 46))
    (h : wpList Try.prog ops Q rest (a.put o.dst undef) (w.setRow g (blk f))) : wpList Try.prog ops Q (o :: rest) a w :=
  wpList_plain hgd fun _ hK => by
    unfold Oper.wp execOp
    simp only [ho, hx, hy, Instr.storeAt, Instr.sureAddr, Sem.run_bind, Sem.run_pure, Result.andThen_ok, run_storeVar_row w g 46 46 (blk f0) (blk f) hg (by rw [blk_size]; exact size25) (by rw [blk_size, blk_size]) (blk_one f)]
    exact hK _ _ h

/-- A result that is a whole block in a cell. -/
theorem ret25 {fn : Func} {p : Tmp} {R : Ending → World → Prop} {a : Act} {w : World} (h : fn.results = #[.cell p 46]) (g : Nat) (f : Nat → Int)
    (hp : a.tmps.getD p undef = .pointer (some ⟨g, 0, none⟩)) (hg : w.heap[g]? = some (.cells (blk f) 46)) (hd : a.defers = []) (hR : R (.returned (.agg (blk f))) w) : bodyPost Try.prog fn R .ret a w :=
  bodyPost_ret (results_cell_row h a.tmps w g 46 (blk f) (0, 0) _ hp hg Try.underlying46 rfl (by rw [blk_size]; exact size25)) hd hR
theorem below_setRow {B : Nat} {a w : World} (h : Below B a w) {g : Nat} (hg : B ≤ g) (cs : Array Value) : Below B a (w.setRow g cs) :=
  h.trans ⟨rfl, rfl, rfl, by simp, fun k hk => setRow_other w g k cs (by omega)⟩
theorem below2 (w : World) (a b : Obj) (g : Nat) (hg : w.heap.size ≤ g) (cs : Array Value) : Below w.heap.size w (((w.alloc a).alloc b).setRow g cs) :=
  below_setRow (((Below.refl _ _).alloc (Nat.le_refl _) _).alloc (by simp) _) hg _
end Go.Proofs.Ytglcliokhlafoaa
/- Two blocks held against each other: equal just where every byte is; for every two blocks. -/
namespace Go.Proofs.Ytglcliokhlafoaa
open Go.RowKit

def sameB (f g : Nat → Int) : Bool := (List.range 1024).all fun i => f i == g i
theorem sameB_iff (f g : Nat → Int) : sameB f g = true ↔ ∀ i, i < 1024 → f i = g i := by
  simp [sameB, List.all_eq_true, List.mem_range]
theorem sameB_self (f : Nat → Int) : sameB f f = true := (sameB_iff f f).2 fun _ _ => rfl

theorem part5 (f : Nat → Int) (i : Nat) (hi : i < 1024) (w : World) : (part 5 (blk f) (i * 1)).run Try.prog w = .ok (.int .u8 (f i)) w := by
  have hb := blk_get f i hi
  simp [part, Try.isAgg5, hb]
theorem each25 (d : Nat) (f g : Nat → Int) (w : World) : ∀ l : List Nat, (∀ i, i ∈ l → i < 1024) →
    (forIn (m := Sem) l ((none : Option Bool), ()) fun i _ => do
            let x ← part 5 (blk f) (i * 1)
            let y ← part 5 (blk g) (i * 1)
            let b ← Op.equalIn (d + 1) 5 x y
            if (!b) = true then pure (ForInStep.done (some false, ())) else pure (ForInStep.yield (none, ()))).run Try.prog w
      = .ok ((if l.all (fun i => f i == g i) then none else some false), ()) w
  | [], _ => by simp
  | i :: l, h => by
    have h1 := part5 f i (h i (by simp)) w
    have h2 := part5 g i (h i (by simp)) w
    have ih := each25 d f g w l fun j hj => h j (by simp [hj])
    have he := run_equalIn_int (P := Try.prog) w d 5 .u8 .u8 (f i) (g i) Try.underlying5
    simp only [List.forIn_cons, Sem.run_bind, h1, h2, he, Result.andThen_ok, List.all_cons]
    by_cases e : f i = g i
    · simp only [e, beq_self_eq_true, Bool.not_true, Bool.false_eq_true, if_false, Sem.run_pure, Result.andThen_ok, Bool.true_and]
      exact ih
    · have e' : (f i == g i) = false := by simp [e]
      simp [e']
theorem eq25 (f g : Nat → Int) (w : World) : (Op.equalIn 10000 46 (.agg (blk f)) (.agg (blk g))).run Try.prog w = .ok (sameB f g) w := by
  have key := each25 9998 f g w (List.range' 0 [:1024].size) (fun i hi => by simpa [Std.Legacy.Range.size] using hi)
  show (Op.equalIn (9998 + 1 + 1) 46 (.agg (blk f)) (.agg (blk g))).run Try.prog w = _
  rw [Op.equalIn]
  simp only [Sem.run_bind, run_underlying Try.underlying46, Result.andThen_ok]
  rw [show (sizeOf 5).run Try.prog w = .ok 1 w by simp [go_sem]]
  simp only [Result.andThen_ok, Std.Legacy.Range.forIn_eq_forIn_range']
  refine (congrArg (fun r => Result.andThen r _) key).trans ?_
  have hr : List.range' 0 [:1024].size = List.range 1024 := by simp [Std.Legacy.Range.size, List.range_eq_range']
  rw [hr]
  show Result.andThen (Result.ok ((if sameB f g = true then none else some false), ()) w) _ = _
  cases sameB f g <;> simp
end Go.Proofs.Ytglcliokhlafoaa
/- Regions whose order is drawn and whose calls make memory but turn none that was there: one walk in the text's order serves every order. -/
namespace Go.Proofs.Ytglcliokhlafoaa
open Go.RowKit

/-- A world that has all that W has, and perhaps more behind it. -/
structure Later (W : World) where
  val : World
  below : Below W.heap.size W val

theorem later_some (W : World) : Nonempty (Later W) := ⟨⟨W, Below.refl _ _⟩⟩
theorem Later.cell {W : World} (x : Later W) (p : Addr) (h : p.block < W.heap.size) : x.val.cell? p = W.cell? p := x.below.cell h
theorem Later.heap {W : World} (x : Later W) (g : Nat) (h : g < W.heap.size) : x.val.heap[g]? = W.heap[g]? := x.below.block g h

theorem wp_region_later {id : Nat} {Q : Exit → Act → World → Prop} {a : Act} {w : World} {l : List Oper} (hm : Try.prog.follows .mixedOrders = true) (hB : Region.lexB .any l.toArray = true)
    (W : World) (hW : Below W.heap.size W w)
    (h : wpQuiet Try.prog l.toArray (fun w' => ∃ x : Later W, w' = x.val) (fun a' => ∀ w', (∃ x : Later W, w' = x.val) → Q .normal a' w') l a) : (Code.region id l.toArray true).wp Try.prog Q a w :=
  wp_region_quiet (C := fun w' => ∃ x : Later W, w' = x.val) hm hB ⟨⟨_, hW.drew⟩, rfl⟩ (by simpa using h)

theorem Later.call {W : World} (x : Later W) {f : FuncId} {args : Array Value} {v : Value}
    (h : Calls Try.prog f args x.val fun e w' => e = .returned v ∧ Below x.val.heap.size x.val w') : Calls Try.prog f args x.val fun e w'' => e = .returned v ∧ ∃ y : Later W, w'' = y.val :=
  h.mono fun _ w' ⟨he, hb⟩ => ⟨he, ⟨w', x.below.trans (hb.mono x.below.size)⟩, rfl⟩

theorem quiet_load25 {W : World} {o : Oper} {a : Act} {K : Act → Prop} (x : Operand) (ho : o.op = .load 46 x) (g : Nat) (hx : a.eval x = .pointer (some ⟨g, 0, none⟩)) (f : Nat → Int)
    (hg : W.heap[g]? = some (.cells (blk f) 46)) (hk : K (a.put o.dst (.agg (blk f)))) : o.quiet Try.prog a (fun w' => ∃ x : Later W, w' = x.val) K := by
  refine ⟨.agg (blk f), ?_, hk⟩
  rintro _ ⟨y, rfl⟩
  have hlt : g < W.heap.size := (Array.getElem?_eq_some_iff.1 hg).1
  have hh := (y.heap g hlt).trans hg
  unfold Oper.quietAt execOp
  simp only [ho, hx, Instr.loadAt, Instr.sureAddr, Sem.run_bind, Sem.run_pure, Result.andThen_ok, run_loadVar_row y.val g 46 46 (blk f) (0, 0) _ hh Try.underlying46 rfl (by rw [blk_size]; exact size25)]
  exact ⟨rfl, rfl⟩

theorem wpList_store25_new {ops : Array Oper} {rest : List Oper} {o : Oper} {a : Act} {w : World} {Q : Exit → Act → World → Prop} (hgd : o.guard = none) (x y : Operand) (ho : o.op = .store 46 x y)
    (f f0 : Nat → Int) (hx : a.eval x = .pointer (some ⟨w.heap.size, 0, none⟩)) (hy : a.eval y = .agg (blk f))
    (h : wpList Try.prog ops Q rest (a.put o.dst undef) (w.alloc (.cells (blk f) 46))) : wpList Try.prog ops Q (o :: rest) a (w.alloc (.cells (blk f0) 46)) :=
  wpList_store25 hgd x y ho w.heap.size f hx hy f0 (heap_alloc_new _ _) (by rw [World.setRow_alloc_new]; exact h)
end Go.Proofs.Ytglcliokhlafoaa
/- Regions whose order is drawn, walked in one order that is told: what only reads may come at any time, what acts comes where nothing else may; S holds all along. -/
namespace Go.Proofs.Ytglcliokhlafoaa
open Go.RowKit

section
variable {P : Program} {ops : Array Oper} {Q : Exit → Act → World → Prop} {S : World → Prop}

/-- May the operations be taken in this order? true: it is taken first; false: nothing else may come up. -/
def ordB (ops : Array Oper) : List (Nat × Bool) → Array Bool → Bool
  | [], listed => (Region.ready .any ops listed).isEmpty
  | (i, true) :: r, listed => (Region.ready .any ops listed).contains i && Region.free .any ops listed i && (ops[i]?).isSome && ordB ops r (listed.setIfInBounds i true)
  | (i, false) :: r, listed => (Region.ready .any ops listed == [i]) && (ops[i]?).isSome && ordB ops r (listed.setIfInBounds i true)

/-- The operations themselves, in that order. -/
def inOrd (ol : List Oper) : List (Nat × Bool) → List (Bool × Oper)
  | [] => []
  | (i, b) :: r => match ol[i]? with
    | some o => (b, o) :: inOrd ol r
    | none => inOrd ol r

def wpOrd (P : Program) (ops : Array Oper) (Q : Exit → Act → World → Prop) (S : World → Prop) : List (Bool × Oper) → Act → World → Prop
  | [], a, w => Q .normal a w
  | (true, o) :: r, a, w => ∃ v, YieldsIf P ops S o v a ∧ wpOrd P ops Q S r (a.put o.dst v) w
  | (false, o) :: r, a, w => if Region.wanted o (yielded ops a.tmps) then o.wp P a w (fun a' w' => S w' ∧ wpOrd P ops Q S r a' w') Q else S w ∧ wpOrd P ops Q S r (a.put o.dst undef) w

theorem wpOrd_any {ol : List Oper} (hs : Region.noSelect ol.toArray = true) (hQ : ∀ d v c a w, Q (.panic c) (a.put d v) w → Q (.panic c) a w) : ∀ (l : List (Nat × Bool)) (listed : Array Bool) (a : Act) (w : World), S w →
    ordB ol.toArray l listed = true → wpOrd P ol.toArray Q S (inOrd ol l) a w → wpAnyH P .any ol.toArray Q S l.length listed a w
  | [], listed, a, w, _, hB, h => wpAnyH_done (by simpa [ordB] using hB) h _
  | (i, true) :: r, listed, a, w, hS, hB, h => by
    simp only [ordB, Bool.and_eq_true] at hB
    obtain ⟨⟨⟨h1, h2⟩, h3⟩, h4⟩ := hB
    obtain ⟨o, hi⟩ := Option.isSome_iff_exists.1 h3
    have hi' : ol[i]? = some o := by simpa using hi
    simp only [inOrd, hi', wpOrd] at h
    obtain ⟨v, hy, hr⟩ := h
    exact wpAnyH_take hi hs h2 h1 (fun c a w => hQ _ _ c a w) hy hS (wpOrd_any hs hQ r _ _ w hS h4 hr)
  | (i, false) :: r, listed, a, w, hS, hB, h => by
    simp only [ordB, Bool.and_eq_true, beq_iff_eq] at hB
    obtain ⟨⟨h1, h3⟩, h2⟩ := hB
    obtain ⟨o, hi⟩ := Option.isSome_iff_exists.1 h3
    have hi' : ol[i]? = some o := by simpa using hi
    simp only [inOrd, hi', wpOrd] at h
    refine wpAnyH_all h1 (by simp) fun j hj => ?_
    obtain rfl : j = i := by simpa using hj
    unfold wpOp
    rw [hi]
    simp only
    split
    · rename_i hw
      rw [if_pos hw] at h
      exact .inl (Oper.wp_mono (fun a' w' h' => ⟨h'.1, wpOrd_any hs hQ r _ a' w' h'.1 h2 h'.2⟩) h)
    · rename_i hw
      rw [if_neg hw] at h
      exact ⟨h.1, wpOrd_any hs hQ r _ _ w h.1 h2 h.2⟩

/-- A region that draws its order, walked in the order l. -/
theorem wp_region_ord {id : Nat} {a : Act} {w : World} {ol : List Oper} (l : List (Nat × Bool)) (hm : P.follows .mixedOrders = true) (hl : l.length = ol.length)
    (hB : (Region.noSelect ol.toArray && ordB ol.toArray l (Array.replicate ol.toArray.size false)) = true) (hQ : ∀ d v c a w, Q (.panic c) (a.put d v) w → Q (.panic c) a w)
    (hS : S w.drew) (h : wpOrd P ol.toArray Q S (inOrd ol l) a w.drew) : (Code.region id ol.toArray true).wp P Q a w := by
  simp only [Bool.and_eq_true] at hB
  have h1 := wpOrd_any hB.1 hQ l _ a w.drew hS hB.2 h
  rw [hl] at h1
  exact wp_region_held hm (by simpa using h1)

theorem wpOrd_nil {a : Act} {w : World} (h : Q .normal a w) : wpOrd P ops Q S [] a w := h
theorem wpOrd_skip {r : List (Bool × Oper)} {b : Bool} {a : Act} {w : World} {o : Oper} (hS : S w) (hw : Region.wanted o (yielded ops a.tmps) = false) (h : wpOrd P ops Q S r (a.put o.dst undef) w) :
    wpOrd P ops Q S ((b, o) :: r) a w := by
  cases b
  · simp only [wpOrd, hw, Bool.false_eq_true, if_false]
    exact ⟨hS, h⟩
  · exact ⟨undef, .inr ⟨hw, rfl⟩, h⟩
theorem wpOrd_yield {r : List (Bool × Oper)} {a : Act} {w : World} {o : Oper} {v : Value} (hw : Region.wanted o (yielded ops a.tmps) = true)
    (hr : ∀ u, S u → (execOp a.eval o).run P u = .ok (.value v) u) (h : wpOrd P ops Q S r (a.put o.dst v) w) : wpOrd P ops Q S ((true, o) :: r) a w :=
  ⟨v, .inl ⟨hw, hr⟩, h⟩
theorem wpOrd_move {r : List (Bool × Oper)} {a : Act} {w : World} {o : Oper} (hw : Region.wanted o (yielded ops a.tmps) = true) (x : Operand) (ho : o.op = .move x)
    (h : wpOrd P ops Q S r (a.put o.dst (a.eval x)) w) : wpOrd P ops Q S ((true, o) :: r) a w :=
  wpOrd_yield hw (fun u _ => by simp [execOp, ho]) h
theorem wpOrd_call {r : List (Bool × Oper)} {a : Act} {w : World} {o : Oper} (hw : Region.wanted o (yielded ops a.tmps) = true) (f : FuncId) (xs : List Operand) (ts : Array TypeId)
    (ho : o.op = .call { callee := .value (.func f), args := xs.toArray, argTypes := ts }) (hc : ∀ args u, (callFunc f args).run P u = .ok (.enter f args) u) (args : List Value) (hx : xs.map a.eval = args)
    (h : Calls P f args.toArray w fun e w' => ∃ v, e = .returned v ∧ S w' ∧ wpOrd P ops Q S r (a.put o.dst v) w') : wpOrd P ops Q S ((false, o) :: r) a w := by
  simp only [wpOrd, hw, if_true]
  unfold Oper.wp execOp
  have e : (do let d ← resolve a.eval { callee := .value (.func f), args := xs.toArray, argTypes := ts } o.type; invoke d.target d.args : Sem Next).run P w = .ok (.enter f args.toArray) w := by
    have hx' : xs.toArray.map a.eval = args.toArray := by rw [← hx]; simp
    simp only [resolve, hx']
    simp [Act.eval, Deferred.ofValue, invoke, hc]
  simp only [ho]
  rw [e]
  unfold Oper.upon
  exact h.mono fun e w' ⟨v, he, h1, h2⟩ => by subst he; exact ⟨h1, h2⟩
end
end Go.Proofs.Ytglcliokhlafoaa
/- Regions whose order is drawn, where two operations may come up in either order: both orders are walked. -/
namespace Go.Proofs.Ytglcliokhlafoaa
open Go.RowKit

section
variable {P : Program} {ops : Array Oper} {Q : Exit → Act → World → Prop} {S : World → Prop}

/-- First the operations of a list that only read, then i and j in either order, then l. -/
def forkB (ops : Array Oper) (i j : Nat) (l : List (Nat × Bool)) : List Nat → Array Bool → Bool
  | [], listed => (Region.ready .any ops listed == [i, j]) && (ops[i]?).isSome && (ops[j]?).isSome && ordB ops ((j, false) :: l) (listed.setIfInBounds i true) && ordB ops ((i, false) :: l) (listed.setIfInBounds j true)
  | k :: r, listed => (Region.ready .any ops listed).contains k && Region.free .any ops listed k && (ops[k]?).isSome && forkB ops i j l r (listed.setIfInBounds k true)

/-- One operation that acts, and what follows. -/
def wpAct (P : Program) (ops : Array Oper) (Q : Exit → Act → World → Prop) (S : World → Prop) (o : Oper) (K : Act → World → Prop) (a : Act) (w : World) : Prop :=
  if Region.wanted o (yielded ops a.tmps) then o.wp P a w (fun a' w' => S w' ∧ K a' w') Q else S w ∧ K (a.put o.dst undef) w

theorem wpOp_act {i : Nat} {o : Oper} (hi : ops[i]? = some o) {K K' : Act → World → Prop} (hK : ∀ a w, S w → K a w → K' a w) {a : Act} {w : World} (h : wpAct P ops Q S o K a w) : wpOp P ops Q i (fun a' w' => S w' ∧ K' a' w') a w := by
  unfold wpOp
  rw [hi]
  simp only
  unfold wpAct at h
  split
  · rename_i hw
    rw [if_pos hw] at h
    exact .inl (Oper.wp_mono (fun a' w' h' => ⟨h'.1, hK a' w' h'.1 h'.2⟩) h)
  · rename_i hw
    rw [if_neg hw] at h
    exact ⟨h.1, hK _ w h.1 h.2⟩

def wpFork (P : Program) (ops : Array Oper) (Q : Exit → Act → World → Prop) (S : World → Prop) (ol : List Oper) (i j : Nat) (l : List (Nat × Bool)) : List Nat → Act → World → Prop
  | [], a, w => (∀ o, ol[i]? = some o → wpAct P ops Q S o (wpOrd P ops Q S (inOrd ol ((j, false) :: l))) a w) ∧ (∀ o, ol[j]? = some o → wpAct P ops Q S o (wpOrd P ops Q S (inOrd ol ((i, false) :: l))) a w)
  | k :: r, a, w => ∀ o, ol[k]? = some o → ∃ v, YieldsIf P ops S o v a ∧ wpFork P ops Q S ol i j l r (a.put o.dst v) w

theorem wpFork_any {ol : List Oper} (hs : Region.noSelect ol.toArray = true) (hQ : ∀ d v c a w, Q (.panic c) (a.put d v) w → Q (.panic c) a w) (i j : Nat) (l : List (Nat × Bool)) : ∀ (r : List Nat) (listed : Array Bool) (a : Act) (w : World), S w →
    forkB ol.toArray i j l r listed = true → wpFork P ol.toArray Q S ol i j l r a w → wpAnyH P .any ol.toArray Q S (r.length + (l.length + 2)) listed a w
  | [], listed, a, w, hS, hB, h => by
    simp only [forkB, Bool.and_eq_true, beq_iff_eq] at hB
    obtain ⟨⟨⟨⟨h1, h2⟩, h3⟩, h4⟩, h5⟩ := hB
    obtain ⟨oi, hoi⟩ := Option.isSome_iff_exists.1 h2
    obtain ⟨oj, hoj⟩ := Option.isSome_iff_exists.1 h3
    have hoi' : ol[i]? = some oi := by simpa using hoi
    have hoj' : ol[j]? = some oj := by simpa using hoj
    rw [show ([] : List Nat).length + (l.length + 2) = (l.length + 1) + 1 by simp]
    refine wpAnyH_all h1 (by simp) fun k hk => ?_
    simp only [List.mem_cons, List.not_mem_nil, or_false] at hk
    rcases hk with rfl | rfl
    · exact wpOp_act hoi (fun a' w' hS' hK => wpOrd_any hs hQ ((j, false) :: l) _ a' w' hS' h4 hK) (h.1 oi hoi')
    · exact wpOp_act hoj (fun a' w' hS' hK => wpOrd_any hs hQ ((i, false) :: l) _ a' w' hS' h5 hK) (h.2 oj hoj')
  | k :: r, listed, a, w, hS, hB, h => by
    simp only [forkB, Bool.and_eq_true] at hB
    obtain ⟨⟨⟨h1, h2⟩, h3⟩, h4⟩ := hB
    obtain ⟨o, hi⟩ := Option.isSome_iff_exists.1 h3
    have hi' : ol[k]? = some o := by simpa using hi
    obtain ⟨v, hy, hr⟩ := h o hi'
    rw [show (k :: r).length + (l.length + 2) = r.length + (l.length + 2) + 1 by simp; omega]
    exact wpAnyH_take hi hs h2 h1 (fun c a w => hQ _ _ c a w) hy hS (wpFork_any hs hQ i j l r _ _ w hS h4 hr)

/-- A region that draws its order, walked so. -/
theorem wp_region_fork {id : Nat} {a : Act} {w : World} {ol : List Oper} (r : List Nat) (i j : Nat) (l : List (Nat × Bool)) (hm : P.follows .mixedOrders = true) (hl : r.length + (l.length + 2) = ol.length)
    (hB : (Region.noSelect ol.toArray && forkB ol.toArray i j l r (Array.replicate ol.toArray.size false)) = true) (hQ : ∀ d v c a w, Q (.panic c) (a.put d v) w → Q (.panic c) a w)
    (hS : S w.drew) (h : wpFork P ol.toArray Q S ol i j l r a w.drew) : (Code.region id ol.toArray true).wp P Q a w := by
  simp only [Bool.and_eq_true] at hB
  have h1 := wpFork_any hB.1 hQ i j l r _ a w.drew hS hB.2 h
  rw [hl] at h1
  exact wp_region_held hm (by simpa using h1)

theorem wpFork_yield {ol : List Oper} {i j : Nat} {l : List (Nat × Bool)} {k : Nat} {r : List Nat} {a : Act} {w : World} {o : Oper} {v : Value} (ho : ol[k]? = some o) (hw : Region.wanted o (yielded ops a.tmps) = true)
    (hr : ∀ u, S u → (execOp a.eval o).run P u = .ok (.value v) u) (h : wpFork P ops Q S ol i j l r (a.put o.dst v) w) : wpFork P ops Q S ol i j l (k :: r) a w := by
  intro o' ho'
  obtain rfl : o = o' := by rw [ho] at ho'; exact Option.some.inj ho'
  exact ⟨v, .inl ⟨hw, hr⟩, h⟩
theorem wpFork_nil {ol : List Oper} {i j : Nat} {l : List (Nat × Bool)} {a : Act} {w : World} {oi oj : Oper} (hi : ol[i]? = some oi) (hj : ol[j]? = some oj)
    (h1 : wpOrd P ops Q S (inOrd ol ((i, false) :: (j, false) :: l)) a w) (h2 : wpOrd P ops Q S (inOrd ol ((j, false) :: (i, false) :: l)) a w) : wpFork P ops Q S ol i j l [] a w := by
  refine ⟨fun o ho => ?_, fun o ho => ?_⟩
  · obtain rfl : oi = o := by rw [hi] at ho; exact Option.some.inj ho
    simp only [inOrd, hi, hj, wpOrd] at h1 ⊢
    exact h1
  · obtain rfl : oj = o := by rw [hj] at ho; exact Option.some.inj ho
    simp only [inOrd, hi, hj, wpOrd] at h2 ⊢
    exact h2
end
end Go.Proofs.Ytglcliokhlafoaa
/- Regions whose order is drawn, walked step by step: what only reads may come at any time, what acts comes where nothing else may, two that act come in either order; S holds all along. -/
namespace Go.Proofs.Ytglcliokhlafoaa
open Go.RowKit

/-- A step: what only reads (.inl i), what acts alone (.inr (.inl i)), two that act in either order (.inr (.inr (i, j))). -/
abbrev Stp : Type := Nat ⊕ (Nat ⊕ (Nat × Nat))
abbrev StO : Type := Oper ⊕ (Oper ⊕ (Oper × Oper))
def Stp.many : Stp → Nat
  | .inl _ => 1
  | .inr (.inl _) => 1
  | .inr (.inr _) => 2
def manyOf : List Stp → Nat
  | [] => 0
  | s :: r => Stp.many s + manyOf r
section
variable {P : Program} {ops : Array Oper} {Q : Exit → Act → World → Prop} {S : World → Prop}
def stB (ops : Array Oper) : List Stp → Array Bool → Bool
  | [], listed => (Region.ready .any ops listed).isEmpty
  | .inl i :: r, listed => (Region.ready .any ops listed).contains i && Region.free .any ops listed i && (ops[i]?).isSome && stB ops r (listed.setIfInBounds i true)
  | .inr (.inl i) :: r, listed => (Region.ready .any ops listed == [i]) && (ops[i]?).isSome && stB ops r (listed.setIfInBounds i true)
  | .inr (.inr (i, j)) :: r, listed => (Region.ready .any ops listed == [i, j]) && (ops[i]?).isSome && (ops[j]?).isSome && (Region.ready .any ops (listed.setIfInBounds i true) == [j]) && (Region.ready .any ops (listed.setIfInBounds j true) == [i]) &&
      stB ops r ((listed.setIfInBounds i true).setIfInBounds j true) && stB ops r ((listed.setIfInBounds j true).setIfInBounds i true)
def inSt (ol : List Oper) : List Stp → List StO
  | [] => []
  | .inl i :: r => match ol[i]? with
    | some o => .inl o :: inSt ol r
    | none => inSt ol r
  | .inr (.inl i) :: r => match ol[i]? with
    | some o => .inr (.inl o) :: inSt ol r
    | none => inSt ol r
  | .inr (.inr (i, j)) :: r => match ol[i]?, ol[j]? with
    | some x, some y => .inr (.inr (x, y)) :: inSt ol r
    | _, _ => inSt ol r
def wpSt (P : Program) (ops : Array Oper) (Q : Exit → Act → World → Prop) (S : World → Prop) : List StO → Act → World → Prop
  | [], a, w => Q .normal a w
  | .inl o :: r, a, w => ∃ v, YieldsIf P ops S o v a ∧ wpSt P ops Q S r (a.put o.dst v) w
  | .inr (.inl o) :: r, a, w => wpAct P ops Q S o (wpSt P ops Q S r) a w
  | .inr (.inr (x, y)) :: r, a, w => wpAct P ops Q S x (wpAct P ops Q S y (wpSt P ops Q S r)) a w ∧ wpAct P ops Q S y (wpAct P ops Q S x (wpSt P ops Q S r)) a w
theorem wpSt_any {ol : List Oper} (hs : Region.noSelect ol.toArray = true) (hQ : ∀ d v c a w, Q (.panic c) (a.put d v) w → Q (.panic c) a w) : ∀ (l : List Stp) (listed : Array Bool) (a : Act) (w : World), S w →
    stB ol.toArray l listed = true → wpSt P ol.toArray Q S (inSt ol l) a w → wpAnyH P .any ol.toArray Q S (manyOf l) listed a w
  | [], listed, a, w, _, hB, h => wpAnyH_done (by simpa [stB] using hB) h _
  | .inl i :: r, listed, a, w, hS, hB, h => by
    simp only [stB, Bool.and_eq_true] at hB
    obtain ⟨⟨⟨h1, h2⟩, h3⟩, h4⟩ := hB
    obtain ⟨o, hi⟩ := Option.isSome_iff_exists.1 h3
    have hi' : ol[i]? = some o := by simpa using hi
    simp only [inSt, hi', wpSt] at h
    obtain ⟨v, hy, hr⟩ := h
    rw [show manyOf (.inl i :: r) = manyOf r + 1 by simp [manyOf, Stp.many]; omega]
    exact wpAnyH_take hi hs h2 h1 (fun c a w => hQ _ _ c a w) hy hS (wpSt_any hs hQ r _ _ w hS h4 hr)
  | .inr (.inl i) :: r, listed, a, w, hS, hB, h => by
    simp only [stB, Bool.and_eq_true, beq_iff_eq] at hB
    obtain ⟨⟨h1, h3⟩, h2⟩ := hB
    obtain ⟨o, hi⟩ := Option.isSome_iff_exists.1 h3
    have hi' : ol[i]? = some o := by simpa using hi
    simp only [inSt, hi', wpSt] at h
    rw [show manyOf (.inr (.inl i) :: r) = manyOf r + 1 by simp [manyOf, Stp.many]; omega]
    refine wpAnyH_all h1 (by simp) fun j hj => ?_
    obtain rfl : j = i := by simpa using hj
    exact wpOp_act hi (fun a' w' hS' hK => wpSt_any hs hQ r _ a' w' hS' h2 hK) h
  | .inr (.inr (i, j)) :: r, listed, a, w, hS, hB, h => by
    simp only [stB, Bool.and_eq_true, beq_iff_eq] at hB
    obtain ⟨⟨⟨⟨⟨⟨h1, h2⟩, h3⟩, h4⟩, h5⟩, h6⟩, h7⟩ := hB
    obtain ⟨x, hx⟩ := Option.isSome_iff_exists.1 h2
    obtain ⟨y, hy⟩ := Option.isSome_iff_exists.1 h3
    have hx' : ol[i]? = some x := by simpa using hx
    have hy' : ol[j]? = some y := by simpa using hy
    simp only [inSt, hx', hy', wpSt] at h
    rw [show manyOf (.inr (.inr (i, j)) :: r) = (manyOf r + 1) + 1 by simp [manyOf, Stp.many]; omega]
    refine wpAnyH_all h1 (by simp) fun k hk => ?_
    simp only [List.mem_cons, List.not_mem_nil, or_false] at hk
    rcases hk with rfl | rfl
    · refine wpOp_act hx (fun a' w' hS' hK => ?_) h.1
      refine wpAnyH_all h4 (by simp) fun k hk => ?_
      obtain rfl : k = j := by simpa using hk
      exact wpOp_act hy (fun a' w' hS' hK => wpSt_any hs hQ r _ a' w' hS' h6 hK) hK
    · refine wpOp_act hy (fun a' w' hS' hK => ?_) h.2
      refine wpAnyH_all h5 (by simp) fun k hk => ?_
      obtain rfl : k = i := by simpa using hk
      exact wpOp_act hx (fun a' w' hS' hK => wpSt_any hs hQ r _ a' w' hS' h7 hK) hK
/-- A region that draws its order, walked by these steps. -/
theorem wp_region_steps {id : Nat} {a : Act} {w : World} {ol : List Oper} (l : List Stp) (hm : P.follows .mixedOrders = true) (hl : manyOf l = ol.length)
    (hB : (Region.noSelect ol.toArray && stB ol.toArray l (Array.replicate ol.toArray.size false)) = true) (hQ : ∀ d v c a w, Q (.panic c) (a.put d v) w → Q (.panic c) a w)
    (hS : S w.drew) (h : wpSt P ol.toArray Q S (inSt ol l) a w.drew) : (Code.region id ol.toArray true).wp P Q a w := by
  simp only [Bool.and_eq_true] at hB
  have h1 := wpSt_any hB.1 hQ l _ a w.drew hS hB.2 h
  rw [hl] at h1
  exact wp_region_held hm (by simpa using h1)
variable {r : List StO} {a : Act} {w : World} {o x y : Oper} {K : Act → World → Prop}
theorem wpSt_nil (h : Q .normal a w) : wpSt P ops Q S [] a w := h
theorem wpSt_yield {v : Value} (hw : Region.wanted o (yielded ops a.tmps) = true) (hr : ∀ u, S u → (execOp a.eval o).run P u = .ok (.value v) u) (h : wpSt P ops Q S r (a.put o.dst v) w) : wpSt P ops Q S (.inl o :: r) a w :=
  ⟨v, .inl ⟨hw, hr⟩, h⟩
theorem wpSt_move (hw : Region.wanted o (yielded ops a.tmps) = true) (x : Operand) (ho : o.op = .move x) (h : wpSt P ops Q S r (a.put o.dst (a.eval x)) w) : wpSt P ops Q S (.inl o :: r) a w :=
  wpSt_yield hw (fun u _ => by simp [execOp, ho]) h
theorem wpSt_skip (hw : Region.wanted o (yielded ops a.tmps) = false) (h : wpSt P ops Q S r (a.put o.dst undef) w) : wpSt P ops Q S (.inl o :: r) a w := ⟨undef, .inr ⟨hw, rfl⟩, h⟩
theorem wpSt_act (h : wpAct P ops Q S o (wpSt P ops Q S r) a w) : wpSt P ops Q S (.inr (.inl o) :: r) a w := h
theorem wpSt_fork (h1 : wpAct P ops Q S x (wpAct P ops Q S y (wpSt P ops Q S r)) a w) (h2 : wpAct P ops Q S y (wpAct P ops Q S x (wpSt P ops Q S r)) a w) : wpSt P ops Q S (.inr (.inr (x, y)) :: r) a w := ⟨h1, h2⟩
theorem act_skip (hS : S w) (hw : Region.wanted o (yielded ops a.tmps) = false) (h : K (a.put o.dst undef) w) : wpAct P ops Q S o K a w := by
  unfold wpAct
  rw [hw]
  exact ⟨hS, h⟩
theorem act_makes {w' : World} {v : Value} (hw : Region.wanted o (yielded ops a.tmps) = true) (hr : (execOp a.eval o).run P w = .ok (.value v) w') (hS : S w') (h : K (a.put o.dst v) w') : wpAct P ops Q S o K a w := by
  unfold wpAct
  rw [if_pos hw]
  unfold Oper.wp
  rw [hr]
  exact ⟨hS, h⟩
theorem act_call (hw : Region.wanted o (yielded ops a.tmps) = true) (f : FuncId) (xs : List Operand) (ts : Array TypeId)
    (ho : o.op = .call { callee := .value (.func f), args := xs.toArray, argTypes := ts }) (hc : ∀ args u, (callFunc f args).run P u = .ok (.enter f args) u) (args : List Value) (hx : xs.map a.eval = args)
    (h : Calls P f args.toArray w fun e w' => ∃ v, e = .returned v ∧ S w' ∧ K (a.put o.dst v) w') : wpAct P ops Q S o K a w := by
  unfold wpAct
  rw [if_pos hw]
  unfold Oper.wp execOp
  have e : (do let d ← resolve a.eval { callee := .value (.func f), args := xs.toArray, argTypes := ts } o.type; invoke d.target d.args : Sem Next).run P w = .ok (.enter f args.toArray) w := by
    have hx' : xs.toArray.map a.eval = args.toArray := by rw [← hx]; simp
    simp only [resolve, hx']
    simp [Act.eval, Deferred.ofValue, invoke, hc]
  simp only [ho]
  rw [e]
  unfold Oper.upon
  exact h.mono fun e w' ⟨v, he, h1, h2⟩ => by subst he; exact ⟨h1, h2⟩
/-- Reads, then one of two that act, each with its own steps behind it. -/
def twoB (ops : Array Oper) (i j : Nat) (l1 l2 : List Stp) : List Nat → Array Bool → Bool
  | [], listed => (Region.ready .any ops listed == [i, j]) && (ops[i]?).isSome && (ops[j]?).isSome && stB ops l1 (listed.setIfInBounds i true) && stB ops l2 (listed.setIfInBounds j true)
  | k :: r, listed => (Region.ready .any ops listed).contains k && Region.free .any ops listed k && (ops[k]?).isSome && twoB ops i j l1 l2 r (listed.setIfInBounds k true)
def wpTwo (P : Program) (ops : Array Oper) (Q : Exit → Act → World → Prop) (S : World → Prop) (ol : List Oper) (i j : Nat) (l1 l2 : List Stp) : List Nat → Act → World → Prop
  | [], a, w => ∀ x y, ol[i]? = some x → ol[j]? = some y → wpAct P ops Q S x (wpSt P ops Q S (inSt ol l1)) a w ∧ wpAct P ops Q S y (wpSt P ops Q S (inSt ol l2)) a w
  | k :: r, a, w => ∀ o, ol[k]? = some o → ∃ v, YieldsIf P ops S o v a ∧ wpTwo P ops Q S ol i j l1 l2 r (a.put o.dst v) w
theorem wpTwo_any {ol : List Oper} (hs : Region.noSelect ol.toArray = true) (hQ : ∀ d v c a w, Q (.panic c) (a.put d v) w → Q (.panic c) a w) (i j : Nat) (l1 l2 : List Stp) (hl : manyOf l1 = manyOf l2) : ∀ (r : List Nat) (listed : Array Bool) (a : Act) (w : World), S w →
    twoB ol.toArray i j l1 l2 r listed = true → wpTwo P ol.toArray Q S ol i j l1 l2 r a w → wpAnyH P .any ol.toArray Q S (r.length + (manyOf l1 + 1)) listed a w
  | [], listed, a, w, hS, hB, h => by
    simp only [twoB, Bool.and_eq_true, beq_iff_eq] at hB
    obtain ⟨⟨⟨⟨h1, h2⟩, h3⟩, h4⟩, h5⟩ := hB
    obtain ⟨x, hx⟩ := Option.isSome_iff_exists.1 h2
    obtain ⟨y, hy⟩ := Option.isSome_iff_exists.1 h3
    obtain ⟨hA, hC⟩ := h x y (by simpa using hx) (by simpa using hy)
    rw [List.length_nil, Nat.zero_add]
    refine wpAnyH_all h1 (by simp) fun k hk => ?_
    simp only [List.mem_cons, List.not_mem_nil, or_false] at hk
    rcases hk with rfl | rfl
    · exact wpOp_act hx (fun a' w' hS' hK => wpSt_any hs hQ l1 _ a' w' hS' h4 hK) hA
    · rw [hl]
      exact wpOp_act hy (fun a' w' hS' hK => wpSt_any hs hQ l2 _ a' w' hS' h5 hK) hC
  | k :: r, listed, a, w, hS, hB, h => by
    simp only [twoB, Bool.and_eq_true] at hB
    obtain ⟨⟨⟨h1, h2⟩, h3⟩, h4⟩ := hB
    obtain ⟨o, hi⟩ := Option.isSome_iff_exists.1 h3
    obtain ⟨v, hy, hr⟩ := h o (by simpa using hi)
    rw [show (k :: r).length + (manyOf l1 + 1) = (r.length + (manyOf l1 + 1)) + 1 by simp; omega]
    exact wpAnyH_take hi hs h2 h1 (fun c a w => hQ _ _ c a w) hy hS (wpTwo_any hs hQ i j l1 l2 hl r _ _ w hS h4 hr)
theorem wp_region_two {id : Nat} {a : Act} {w : World} {ol : List Oper} (r : List Nat) (i j : Nat) (l1 l2 : List Stp) (hm : P.follows .mixedOrders = true) (hl : manyOf l1 = manyOf l2) (hn : r.length + (manyOf l1 + 1) = ol.length)
    (hB : (Region.noSelect ol.toArray && twoB ol.toArray i j l1 l2 r (Array.replicate ol.toArray.size false)) = true) (hQ : ∀ d v c a w, Q (.panic c) (a.put d v) w → Q (.panic c) a w)
    (hS : S w.drew) (h : wpTwo P ol.toArray Q S ol i j l1 l2 r a w.drew) : (Code.region id ol.toArray true).wp P Q a w := by
  simp only [Bool.and_eq_true] at hB
  have h1 := wpTwo_any hB.1 hQ i j l1 l2 hl r _ a w.drew hS hB.2 h
  rw [hn] at h1
  exact wp_region_held hm (by simpa using h1)
theorem wpTwo_yield {ol : List Oper} {i j : Nat} {l1 l2 : List Stp} {k : Nat} {r : List Nat} {v : Value} (ho : ol[k]? = some o) (hw : Region.wanted o (yielded ops a.tmps) = true) (hr : ∀ u, S u → (execOp a.eval o).run P u = .ok (.value v) u)
    (h : wpTwo P ops Q S ol i j l1 l2 r (a.put o.dst v) w) : wpTwo P ops Q S ol i j l1 l2 (k :: r) a w := fun o' ho' => by
  obtain rfl : o = o' := by rw [ho] at ho'; exact Option.some.inj ho'
  exact ⟨v, .inl ⟨hw, hr⟩, h⟩
theorem wpTwo_nil {ol : List Oper} {i j : Nat} {l1 l2 : List Stp} (hi : ol[i]? = some x) (hj : ol[j]? = some y) (h1 : wpAct P ops Q S x (wpSt P ops Q S (inSt ol l1)) a w) (h2 : wpAct P ops Q S y (wpSt P ops Q S (inSt ol l2)) a w) :
    wpTwo P ops Q S ol i j l1 l2 [] a w := fun x' y' hx hy => by
  obtain rfl : x = x' := by rw [hi] at hx; exact Option.some.inj hx
  obtain rfl : y = y' := by rw [hj] at hy; exact Option.some.inj hy
  exact ⟨h1, h2⟩
end
end Go.Proofs.Ytglcliokhlafoaa
/- Regions whose order is drawn, walked by a plan: reads, what acts alone, and one of two that act, each with its own plan behind it; S holds all along. -/
namespace Go.Proofs.Ytglcliokhlafoaa
open Go.RowKit
/-- A step of a plan: what only reads (.inl i), what acts alone (.inr (.inl i)), one of two that act (.inr (.inr (i, j, k))): the first one's plan is the next k steps, the other's is what is left behind them. -/
abbrev Ins : Type := Nat ⊕ (Nat ⊕ (Nat × Nat × Nat))
def plMany : Nat → List Ins → Nat
  | _, [] => 0
  | 0, _ :: _ => 0
  | f + 1, .inl _ :: r => plMany f r + 1
  | f + 1, .inr (.inl _) :: r => plMany f r + 1
  | f + 1, .inr (.inr (_, _, k)) :: r => plMany f (r.take k) + 1
section
variable {P : Program} {ops : Array Oper} {Q : Exit → Act → World → Prop} {S : World → Prop}
def plB (ops : Array Oper) : Nat → List Ins → Array Bool → Bool
  | _, [], listed => (Region.ready .any ops listed).isEmpty
  | 0, _ :: _, _ => false
  | f + 1, .inl i :: r, listed => (Region.ready .any ops listed).contains i && Region.free .any ops listed i && (ops[i]?).isSome && plB ops f r (listed.setIfInBounds i true)
  | f + 1, .inr (.inl i) :: r, listed => (Region.ready .any ops listed == [i]) && (ops[i]?).isSome && plB ops f r (listed.setIfInBounds i true)
  | f + 1, .inr (.inr (i, j, k)) :: r, listed => (Region.ready .any ops listed == [i, j]) && (ops[i]?).isSome && (ops[j]?).isSome && (plMany f (r.take k) == plMany f (r.drop k)) && plB ops f (r.take k) (listed.setIfInBounds i true) && plB ops f (r.drop k) (listed.setIfInBounds j true)
def wpPl (P : Program) (ops : Array Oper) (Q : Exit → Act → World → Prop) (S : World → Prop) (ol : List Oper) : Nat → List Ins → Act → World → Prop
  | _, [], a, w => Q .normal a w
  | 0, _ :: _, _, _ => False
  | f + 1, .inl i :: r, a, w => ∀ o, ol[i]? = some o → ∃ v, YieldsIf P ops S o v a ∧ wpPl P ops Q S ol f r (a.put o.dst v) w
  | f + 1, .inr (.inl i) :: r, a, w => ∀ o, ol[i]? = some o → wpAct P ops Q S o (wpPl P ops Q S ol f r) a w
  | f + 1, .inr (.inr (i, j, k)) :: r, a, w => ∀ x y, ol[i]? = some x → ol[j]? = some y → wpAct P ops Q S x (wpPl P ops Q S ol f (r.take k)) a w ∧ wpAct P ops Q S y (wpPl P ops Q S ol f (r.drop k)) a w
theorem wpPl_any {ol : List Oper} (hs : Region.noSelect ol.toArray = true) (hQ : ∀ d v c a w, Q (.panic c) (a.put d v) w → Q (.panic c) a w) : ∀ (f : Nat) (l : List Ins) (listed : Array Bool) (a : Act) (w : World), S w →
    plB ol.toArray f l listed = true → wpPl P ol.toArray Q S ol f l a w → wpAnyH P .any ol.toArray Q S (plMany f l) listed a w
  | f, [], listed, a, w, _, hB, h => by
    have hB' : (Region.ready .any ol.toArray listed).isEmpty = true := by cases f <;> exact hB
    have h' : Q .normal a w := by cases f <;> exact h
    exact wpAnyH_done (by simpa using hB') h' _
  | 0, _ :: _, _, _, _, _, hB, _ => by cases hB
  | f + 1, .inl i :: r, listed, a, w, hS, hB, h => by
    simp only [plB, Bool.and_eq_true] at hB
    obtain ⟨⟨⟨h1, h2⟩, h3⟩, h4⟩ := hB
    obtain ⟨o, hi⟩ := Option.isSome_iff_exists.1 h3
    obtain ⟨v, hy, hr⟩ := h o (by simpa using hi)
    exact wpAnyH_take hi hs h2 h1 (fun c a w => hQ _ _ c a w) hy hS (wpPl_any hs hQ f r _ _ w hS h4 hr)
  | f + 1, .inr (.inl i) :: r, listed, a, w, hS, hB, h => by
    simp only [plB, Bool.and_eq_true, beq_iff_eq] at hB
    obtain ⟨⟨h1, h3⟩, h2⟩ := hB
    obtain ⟨o, hi⟩ := Option.isSome_iff_exists.1 h3
    refine wpAnyH_all h1 (by simp) fun j hj => ?_
    obtain rfl : j = i := by simpa using hj
    exact wpOp_act hi (fun a' w' hS' hK => wpPl_any hs hQ f r _ a' w' hS' h2 hK) (h o (by simpa using hi))
  | f + 1, .inr (.inr (i, j, k)) :: r, listed, a, w, hS, hB, h => by
    simp only [plB, Bool.and_eq_true, beq_iff_eq] at hB
    obtain ⟨⟨⟨⟨⟨h1, h2⟩, h3⟩, hm⟩, h4⟩, h5⟩ := hB
    obtain ⟨x, hx⟩ := Option.isSome_iff_exists.1 h2
    obtain ⟨y, hy⟩ := Option.isSome_iff_exists.1 h3
    obtain ⟨hA, hC⟩ := h x y (by simpa using hx) (by simpa using hy)
    refine wpAnyH_all h1 (by simp) fun m hk => ?_
    simp only [List.mem_cons, List.not_mem_nil, or_false] at hk
    rcases hk with rfl | rfl
    · exact wpOp_act hx (fun a' w' hS' hK => wpPl_any hs hQ f (r.take k) _ a' w' hS' h4 hK) hA
    · show wpOp P ol.toArray Q m (fun a' w' => S w' ∧ wpAnyH P .any ol.toArray Q S (plMany f (r.take k)) _ a' w') a w
      rw [hm]
      exact wpOp_act hy (fun a' w' hS' hK => wpPl_any hs hQ f (r.drop k) _ a' w' hS' h5 hK) hC
theorem wp_region_plan {id : Nat} {a : Act} {w : World} {ol : List Oper} (f : Nat) (l : List Ins) (hm : P.follows .mixedOrders = true) (hl : plMany f l = ol.length)
    (hB : (Region.noSelect ol.toArray && plB ol.toArray f l (Array.replicate ol.toArray.size false)) = true) (hQ : ∀ d v c a w, Q (.panic c) (a.put d v) w → Q (.panic c) a w)
    (hS : S w.drew) (h : wpPl P ol.toArray Q S ol f l a w.drew) : (Code.region id ol.toArray true).wp P Q a w := by
  simp only [Bool.and_eq_true] at hB
  have h1 := wpPl_any hB.1 hQ f l _ a w.drew hS hB.2 h
  rw [hl] at h1
  exact wp_region_held hm (by simpa using h1)
variable {a : Act} {w : World} {o x y : Oper} {ol : List Oper} {i j k f : Nat} {r : List Ins}
theorem wpPl_done (h : Q .normal a w) : wpPl P ops Q S ol f [] a w := by cases f <;> exact h
theorem wpPl_yield {v : Value} (ho : ol[i]? = some o) (hw : Region.wanted o (yielded ops a.tmps) = true) (hr : ∀ u, S u → (execOp a.eval o).run P u = .ok (.value v) u) (h : wpPl P ops Q S ol f r (a.put o.dst v) w) : wpPl P ops Q S ol (f + 1) (.inl i :: r) a w := fun o' ho' => by
  obtain rfl : o = o' := by rw [ho] at ho'; exact Option.some.inj ho'
  exact ⟨v, .inl ⟨hw, hr⟩, h⟩
theorem wpPl_skip (ho : ol[i]? = some o) (hw : Region.wanted o (yielded ops a.tmps) = false) (h : wpPl P ops Q S ol f r (a.put o.dst undef) w) : wpPl P ops Q S ol (f + 1) (.inl i :: r) a w := fun o' ho' => by
  obtain rfl : o = o' := by rw [ho] at ho'; exact Option.some.inj ho'
  exact ⟨undef, .inr ⟨hw, rfl⟩, h⟩
theorem wpPl_act (ho : ol[i]? = some o) (h : wpAct P ops Q S o (wpPl P ops Q S ol f r) a w) : wpPl P ops Q S ol (f + 1) (.inr (.inl i) :: r) a w := fun o' ho' => by
  obtain rfl : o = o' := by rw [ho] at ho'; exact Option.some.inj ho'
  exact h
theorem wpPl_two {r1 r2 : List Ins} (hi : ol[i]? = some x) (hj : ol[j]? = some y) (h1 : wpAct P ops Q S x (wpPl P ops Q S ol f r1) a w) (h2 : wpAct P ops Q S y (wpPl P ops Q S ol f r2) a w) (e1 : r.take k = r1) (e2 : r.drop k = r2) : wpPl P ops Q S ol (f + 1) (.inr (.inr (i, j, k)) :: r) a w := fun x' y' hx hy => by
  obtain rfl : x = x' := by rw [hi] at hx; exact Option.some.inj hx
  obtain rfl : y = y' := by rw [hj] at hy; exact Option.some.inj hy
  subst e1 e2
  exact ⟨h1, h2⟩
end
end Go.Proofs.Ytglcliokhlafoaa
