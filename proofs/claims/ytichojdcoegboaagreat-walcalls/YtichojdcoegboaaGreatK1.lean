/- Several texts joined: the log, its cache and its disk, of the program and of the document; no condition. -/
import Derived.WalkKit
import Derived.WalkSpells
import Derived.WalkLawsBesides
import Derived.Deep.WholeRow
import Derived.Laws.StructEq
import Derived.Test.YtichojdcoegboaaGreatRows
import Derived.BigQuiet
import Derived.OrdersHeld
import Derived.Maps.RangeWalk
import Derived.Lib.SmallJoins
import Derived.Deep.MidRow
import Derived.LaidEqlPtr
namespace Go.Proofs.YtichojdcoegboaaGreatW
open Go.RowKit
theorem pA {α : Type} (l : List α) (i : Nat) (a : α) : l.toArray.setIfInBounds i a = (l.set i a).toArray := List.setIfInBounds_toArray ..
theorem pB {α : Type} (x : α) (l : List α) (n : Nat) (a : α) : (x :: l).set (n + 1) a = x :: l.set n a := List.set_cons_succ ..
theorem pC {α : Type} (x : α) (l : List α) (a : α) : (x :: l).set 0 a = a :: l := List.set_cons_zero ..
def blk (f : Nat → Int) : Array Value := ((List.range 1024).map fun i => Value.int .u8 (f i)).toArray
def upd (f : Nat → Int) (i : Nat) (x : Int) : Nat → Int := fun j => if j = i then x else f j
def nought : Nat → Int := fun _ => 0
theorem blk_size (f : Nat → Int) : (blk f).size = 1024 := by simp [blk]
theorem blk_get (f : Nat → Int) (i : Nat) (h : i < 1024) : (blk f)[i]? = some (.int .u8 (f i)) := by
 simp [blk, h]
theorem blk_set (f : Nat → Int) (i : Nat) (x : Int) : (blk f).setIfInBounds i (.int .u8 x) = blk (upd f i x) := by
 apply Array.ext_getElem?
 intro j
 by_cases hj : j < 1024
 ·rw [blk_get _ _ hj, Array.getElem?_setIfInBounds]
  by_cases e : i = j
  ·subst e; simp [blk_size, hj, upd]
  ·have e' : ¬ j = i := fun q => e q.symm
   simp [e, e', blk_get _ _ hj, upd]
 ·rw [Array.getElem?_eq_none (by rw [Array.size_setIfInBounds, blk_size]; omega), Array.getElem?_eq_none (by rw [blk_size]; omega)]
theorem blk_one (f : Nat → Int) : (blk f).all (·.oneCell') = true := by
 rw [Array.all_eq_true_iff_forall_mem]
 intro v hv
 simp [blk] at hv
 obtain ⟨i, _, rfl⟩ := hv
 rfl
end Go.Proofs.YtichojdcoegboaaGreatW
namespace Go.Proofs.YtichojdcoegboaaGreatW
open Go.RowKit
theorem info25 : (Tryz.prog.info? 64).map (fun i => (i.zero, i.size)) = some (some (.agg (blk nought)), 1024) := by kernel_rfl
theorem zero25 : ∀ w, (zeroValue 64).run Tryz.prog w = .ok (.agg (blk nought)) w := (zero_of_info info25).1
theorem size25 : (Tryz.prog.info? 64).map (·.size) = some 1024 := (zero_of_info info25).2
def firsts (f : Nat → Int) (k : Nat) : Nat → Int := fun i => if i < k then f i else 0
theorem firsts_next (f : Nat → Int) (k : Nat) : upd (firsts f k) k (f k) = firsts f (k + 1) := by
 funext j
 unfold upd firsts
 by_cases h : j = k
 ·subst h; simp
 ·by_cases h2 : j < k
  ·simp [h, h2, show j < k + 1 by omega]
  ·simp [h, h2, show ¬ j < k + 1 by omega]
theorem wpList_load25 {ops : Array Oper} {rest : List Oper} {o : Oper} {a : Act} {w : World} {Q : Exit → Act → World → Prop} (hgd : o.guard = none) (x : Operand) (ho : o.op = .load 64 x)
  (g : Nat) (hx : a.eval x = .pointer (some ⟨g, 0, none⟩)) (f : Nat → Int) (hg : w.heap[g]? = some (.cells (blk f) 64))
  (h : wpList Tryz.prog ops Q rest (a.put o.dst (.agg (blk f))) w) : wpList Tryz.prog ops Q (o :: rest) a w :=
 wpList_load_row hgd 64 x ho g hx 64 (blk f) (0, 0) _ hg Tryz.underlying64 rfl (by rw [blk_size]; exact size25) h
theorem wpList_store25 {ops : Array Oper} {rest : List Oper} {o : Oper} {a : Act} {w : World} {Q : Exit → Act → World → Prop} (hgd : o.guard = none) (x y : Operand) (ho : o.op = .store 64 x y)
  (g : Nat) (f : Nat → Int) (hx : a.eval x = .pointer (some ⟨g, 0, none⟩)) (hy : a.eval y = .agg (blk f)) (f0 : Nat → Int) (hg : w.heap[g]? = some (.cells (blk f0) 64))
  (h : wpList Tryz.prog ops Q rest (a.put o.dst undef) (w.setRow g (blk f))) : wpList Tryz.prog ops Q (o :: rest) a w :=
 wpList_plain hgd fun _ hK => by
  unfold Oper.wp execOp
  simp only [ho, hx, hy, Instr.storeAt, Instr.sureAddr, Sem.run_bind, Sem.run_pure, Result.andThen_ok, run_storeVar_row w g 64 64 (blk f0) (blk f) hg (by rw [blk_size]; exact size25) (by rw [blk_size, blk_size]) (blk_one f)]
  exact hK _ _ h
theorem ret25 {fn : Func} {p : Tmp} {R : Ending → World → Prop} {a : Act} {w : World} (h : fn.results = #[.cell p 64]) (g : Nat) (f : Nat → Int)
  (hp : a.tmps.getD p undef = .pointer (some ⟨g, 0, none⟩)) (hg : w.heap[g]? = some (.cells (blk f) 64)) (hd : a.defers = []) (hR : R (.returned (.agg (blk f))) w) : bodyPost Tryz.prog fn R .ret a w :=
 bodyPost_ret (results_cell_row h a.tmps w g 64 (blk f) (0, 0) _ hp hg Tryz.underlying64 rfl (by rw [blk_size]; exact size25)) hd hR
theorem below_setRow {B : Nat} {a w : World} (h : Below B a w) {g : Nat} (hg : B ≤ g) (cs : Array Value) : Below B a (w.setRow g cs) :=
 h.trans ⟨rfl, rfl, rfl, by simp, fun k hk => setRow_other w g k cs (by omega)⟩
theorem below2 (w : World) (a b : Obj) (g : Nat) (hg : w.heap.size ≤ g) (cs : Array Value) : Below w.heap.size w (((w.alloc a).alloc b).setRow g cs) :=
 below_setRow (((Below.refl _ _).alloc (Nat.le_refl _) _).alloc (by simp) _) hg _
end Go.Proofs.YtichojdcoegboaaGreatW
namespace Go.Proofs.YtichojdcoegboaaGreatW
open Go.RowKit
def sameB (f g : Nat → Int) : Bool := (List.range 1024).all fun i => f i == g i
theorem sameB_iff (f g : Nat → Int) : sameB f g = true ↔ ∀ i, i < 1024 → f i = g i := by
 simp [sameB, List.all_eq_true, List.mem_range]
theorem sameB_self (f : Nat → Int) : sameB f f = true := (sameB_iff f f).2 fun _ _ => rfl
theorem part5 (f : Nat → Int) (i : Nat) (hi : i < 1024) (w : World) : (part 5 (blk f) (i * 1)).run Tryz.prog w = .ok (.int .u8 (f i)) w := by
 have hb := blk_get f i hi
 simp [part, Tryz.isAgg5, hb]
theorem each25 (d : Nat) (f g : Nat → Int) (w : World) : ∀ l : List Nat, (∀ i, i ∈ l → i < 1024) →
  (forIn (m := Sem) l ((none : Option Bool), ()) fun i _ => do
      let x ← part 5 (blk f) (i * 1)
      let y ← part 5 (blk g) (i * 1)
      let b ← Op.equalIn (d + 1) 5 x y
      if (!b) = true then pure (ForInStep.done (some false, ())) else pure (ForInStep.yield (none, ()))).run Tryz.prog w
   = .ok ((if l.all (fun i => f i == g i) then none else some false), ()) w
 | [], _ => by simp
 | i :: l, h => by
  have h1 := part5 f i (h i (by simp)) w
  have h2 := part5 g i (h i (by simp)) w
  have ih := each25 d f g w l fun j hj => h j (by simp [hj])
  have he := run_equalIn_int (P := Tryz.prog) w d 5 .u8 .u8 (f i) (g i) Tryz.underlying5
  simp only [List.forIn_cons, Sem.run_bind, h1, h2, he, Result.andThen_ok, List.all_cons]
  by_cases e : f i = g i
  ·simp only [e, beq_self_eq_true, Bool.not_true, Bool.false_eq_true, if_false, Sem.run_pure, Result.andThen_ok, Bool.true_and]
   exact ih
  ·have e' : (f i == g i) = false := by simp [e]
   simp [e']
theorem eq25 (f g : Nat → Int) (w : World) : (Op.equalIn 10000 64 (.agg (blk f)) (.agg (blk g))).run Tryz.prog w = .ok (sameB f g) w := by
 have key := each25 9998 f g w (List.range' 0 [:1024].size) (fun i hi => by simpa [Std.Legacy.Range.size] using hi)
 show (Op.equalIn (9998 + 1 + 1) 64 (.agg (blk f)) (.agg (blk g))).run Tryz.prog w = _
 rw [Op.equalIn]
 simp only [Sem.run_bind, run_underlying Tryz.underlying64, Result.andThen_ok]
 rw [show (sizeOf 5).run Tryz.prog w = .ok 1 w by simp [go_sem]]
 simp only [Result.andThen_ok, Std.Legacy.Range.forIn_eq_forIn_range']
 refine (congrArg (fun r => Result.andThen r _) key).trans ?_
 have hr : List.range' 0 [:1024].size = List.range 1024 := by simp [Std.Legacy.Range.size, List.range_eq_range']
 rw [hr]
 show Result.andThen (Result.ok ((if sameB f g = true then none else some false), ()) w) _ = _
 cases sameB f g <;> simp
end Go.Proofs.YtichojdcoegboaaGreatW
namespace Go.Proofs.YtichojdcoegboaaGreatW
open Go.RowKit
theorem wpList_store25_new {ops : Array Oper} {rest : List Oper} {o : Oper} {a : Act} {w : World} {Q : Exit → Act → World → Prop} (hgd : o.guard = none) (x y : Operand) (ho : o.op = .store 64 x y)
  (f f0 : Nat → Int) (hx : a.eval x = .pointer (some ⟨w.heap.size, 0, none⟩)) (hy : a.eval y = .agg (blk f))
  (h : wpList Tryz.prog ops Q rest (a.put o.dst undef) (w.alloc (.cells (blk f) 64))) : wpList Tryz.prog ops Q (o :: rest) a (w.alloc (.cells (blk f0) 64)) :=
 wpList_store25 hgd x y ho w.heap.size f hx hy f0 (heap_alloc_new _ _) (by rw [World.setRow_alloc_new]; exact h)
end Go.Proofs.YtichojdcoegboaaGreatW
namespace Go.Proofs.YtichojdcoegboaaGreatW
open Go.RowKit
section
variable {P : Program} {ops : Array Oper} {Q : Exit → Act → World → Prop} {S : World → Prop}
def ordB (ops : Array Oper) : List (Nat × Bool) → Array Bool → Bool
 | [], listed => (Region.ready .any ops listed).isEmpty
 | (i, true) :: r, listed => (Region.ready .any ops listed).contains i && Region.free .any ops listed i && (ops[i]?).isSome && ordB ops r (listed.setIfInBounds i true)
 | (i, false) :: r, listed => (Region.ready .any ops listed == [i]) && (ops[i]?).isSome && ordB ops r (listed.setIfInBounds i true)
def inOrd (ol : List Oper) : List (Nat × Bool) → List (Bool × Oper)
 | [] => []
 | (i, b) :: r => match ol[i]? with
  | some o => (b, o) :: inOrd ol r
  | none => inOrd ol r
def wpOrd (P : Program) (ops : Array Oper) (Q : Exit → Act → World → Prop) (S : World → Prop) : List (Bool × Oper) → Act → World → Prop
 | [], a, w => Q .normal a w
 | (true, o) :: r, a, w => ∃ v, YieldsIf P ops S o v a ∧ wpOrd P ops Q S r (a.put o.dst v) w
 | (false, o) :: r, a, w => if Region.wanted o (yielded ops a.tmps) then o.wp P a w (fun a' w' => S w' ∧ wpOrd P ops Q S r a' w') Q else S w ∧ wpOrd P ops Q S r (a.put o.dst undef) w
theorem wpOrd_any {ol : List Oper} (hs : Region.noSelect ol.toArray = true) (hQ : ∀ d v c a w, Q (.panic c) (a.put d v) w → Q (.panic c) a w) : ∀ (l : List (Nat × Bool)) (listed : Array Bool) (a : Act) (w : World), S w →
  ordB ol.toArray l listed = true → wpOrd P ol.toArray Q S (inOrd ol l) a w → wpAnyH P .any ol.toArray Q S l.length listed a w
 | [], listed, a, w, _, hB, h => wpAnyH_done (by simpa [ordB] using hB) h _
 | (i, true) :: r, listed, a, w, hS, hB, h => by
  simp only [ordB, Bool.and_eq_true] at hB
  obtain ⟨⟨⟨h1, h2⟩, h3⟩, h4⟩ := hB
  obtain ⟨o, hi⟩ := Option.isSome_iff_exists.1 h3
  have hi' : ol[i]? = some o := by simpa using hi
  simp only [inOrd, hi', wpOrd] at h
  obtain ⟨v, hy, hr⟩ := h
  exact wpAnyH_take hi hs h2 h1 (fun c a w => hQ _ _ c a w) hy hS (wpOrd_any hs hQ r _ _ w hS h4 hr)
 | (i, false) :: r, listed, a, w, hS, hB, h => by
  simp only [ordB, Bool.and_eq_true, beq_iff_eq] at hB
  obtain ⟨⟨h1, h3⟩, h2⟩ := hB
  obtain ⟨o, hi⟩ := Option.isSome_iff_exists.1 h3
  have hi' : ol[i]? = some o := by simpa using hi
  simp only [inOrd, hi', wpOrd] at h
  refine wpAnyH_all h1 (by simp) fun j hj => ?_
  obtain rfl : j = i := by simpa using hj
  unfold wpOp
  rw [hi]
  simp only
  split
  ·rename_i hw
   rw [if_pos hw] at h
   exact .inl (Oper.wp_mono (fun a' w' h' => ⟨h'.1, wpOrd_any hs hQ r _ a' w' h'.1 h2 h'.2⟩) h)
  ·rename_i hw
   rw [if_neg hw] at h
   exact ⟨h.1, wpOrd_any hs hQ r _ _ w h.1 h2 h.2⟩
theorem wp_region_ord {id : Nat} {a : Act} {w : World} {ol : List Oper} (l : List (Nat × Bool)) (hm : P.follows .mixedOrders = true) (hl : l.length = ol.length)
  (hB : (Region.noSelect ol.toArray && ordB ol.toArray l (Array.replicate ol.toArray.size false)) = true) (hQ : ∀ d v c a w, Q (.panic c) (a.put d v) w → Q (.panic c) a w)
  (hS : S w.drew) (h : wpOrd P ol.toArray Q S (inOrd ol l) a w.drew) : (Code.region id ol.toArray true).wp P Q a w := by
 simp only [Bool.and_eq_true] at hB
 have h1 := wpOrd_any hB.1 hQ l _ a w.drew hS hB.2 h
 rw [hl] at h1
 exact wp_region_held hm (by simpa using h1)
theorem wpOrd_nil {a : Act} {w : World} (h : Q .normal a w) : wpOrd P ops Q S [] a w := h
theorem wpOrd_skip {r : List (Bool × Oper)} {b : Bool} {a : Act} {w : World} {o : Oper} (hS : S w) (hw : Region.wanted o (yielded ops a.tmps) = false) (h : wpOrd P ops Q S r (a.put o.dst undef) w) :
  wpOrd P ops Q S ((b, o) :: r) a w := by
 cases b
 ·simp only [wpOrd, hw, Bool.false_eq_true, if_false]
  exact ⟨hS, h⟩
 ·exact ⟨undef, .inr ⟨hw, rfl⟩, h⟩
theorem wpOrd_yield {r : List (Bool × Oper)} {a : Act} {w : World} {o : Oper} {v : Value} (hw : Region.wanted o (yielded ops a.tmps) = true)
  (hr : ∀ u, S u → (execOp a.eval o).run P u = .ok (.value v) u) (h : wpOrd P ops Q S r (a.put o.dst v) w) : wpOrd P ops Q S ((true, o) :: r) a w :=
 ⟨v, .inl ⟨hw, hr⟩, h⟩
theorem wpOrd_move {r : List (Bool × Oper)} {a : Act} {w : World} {o : Oper} (hw : Region.wanted o (yielded ops a.tmps) = true) (x : Operand) (ho : o.op = .move x)
  (h : wpOrd P ops Q S r (a.put o.dst (a.eval x)) w) : wpOrd P ops Q S ((true, o) :: r) a w :=
 wpOrd_yield hw (fun u _ => by simp [execOp, ho]) h
theorem wpOrd_call {r : List (Bool × Oper)} {a : Act} {w : World} {o : Oper} (hw : Region.wanted o (yielded ops a.tmps) = true) (f : FuncId) (xs : List Operand) (ts : Array TypeId)
  (ho : o.op = .call { callee := .value (.func f), args := xs.toArray, argTypes := ts }) (hc : ∀ args u, (callFunc f args).run P u = .ok (.enter f args) u) (args : List Value) (hx : xs.map a.eval = args)
  (h : Calls P f args.toArray w fun e w' => ∃ v, e = .returned v ∧ S w' ∧ wpOrd P ops Q S r (a.put o.dst v) w') : wpOrd P ops Q S ((false, o) :: r) a w := by
 simp only [wpOrd, hw, if_true]
 unfold Oper.wp execOp
 have e : (do let d ← resolve a.eval { callee := .value (.func f), args := xs.toArray, argTypes := ts } o.type; invoke d.target d.args : Sem Next).run P w = .ok (.enter f args.toArray) w := by
  have hx' : xs.toArray.map a.eval = args.toArray := by rw [← hx]; simp
  simp only [resolve, hx']
  simp [Act.eval, Deferred.ofValue, invoke, hc]
 simp only [ho]
 rw [e]
 unfold Oper.upon
 exact h.mono fun e w' ⟨v, he, h1, h2⟩ => by subst he; exact ⟨h1, h2⟩
end
end Go.Proofs.YtichojdcoegboaaGreatW
namespace Go.Proofs.YtichojdcoegboaaGreatW
open Go.RowKit
section
variable {P : Program} {ops : Array Oper} {Q : Exit → Act → World → Prop} {S : World → Prop}
def forkB (ops : Array Oper) (i j : Nat) (l : List (Nat × Bool)) : List Nat → Array Bool → Bool
 | [], listed => (Region.ready .any ops listed == [i, j]) && (ops[i]?).isSome && (ops[j]?).isSome && ordB ops ((j, false) :: l) (listed.setIfInBounds i true) && ordB ops ((i, false) :: l) (listed.setIfInBounds j true)
 | k :: r, listed => (Region.ready .any ops listed).contains k && Region.free .any ops listed k && (ops[k]?).isSome && forkB ops i j l r (listed.setIfInBounds k true)
def wpAct (P : Program) (ops : Array Oper) (Q : Exit → Act → World → Prop) (S : World → Prop) (o : Oper) (K : Act → World → Prop) (a : Act) (w : World) : Prop :=
 if Region.wanted o (yielded ops a.tmps) then o.wp P a w (fun a' w' => S w' ∧ K a' w') Q else S w ∧ K (a.put o.dst undef) w
theorem wpOp_act {i : Nat} {o : Oper} (hi : ops[i]? = some o) {K K' : Act → World → Prop} (hK : ∀ a w, S w → K a w → K' a w) {a : Act} {w : World} (h : wpAct P ops Q S o K a w) : wpOp P ops Q i (fun a' w' => S w' ∧ K' a' w') a w := by
 unfold wpOp
 rw [hi]
 simp only
 unfold wpAct at h
 split
 ·rename_i hw
  rw [if_pos hw] at h
  exact .inl (Oper.wp_mono (fun a' w' h' => ⟨h'.1, hK a' w' h'.1 h'.2⟩) h)
 ·rename_i hw
  rw [if_neg hw] at h
  exact ⟨h.1, hK _ w h.1 h.2⟩
def wpFork (P : Program) (ops : Array Oper) (Q : Exit → Act → World → Prop) (S : World → Prop) (ol : List Oper) (i j : Nat) (l : List (Nat × Bool)) : List Nat → Act → World → Prop
 | [], a, w => (∀ o, ol[i]? = some o → wpAct P ops Q S o (wpOrd P ops Q S (inOrd ol ((j, false) :: l))) a w) ∧ (∀ o, ol[j]? = some o → wpAct P ops Q S o (wpOrd P ops Q S (inOrd ol ((i, false) :: l))) a w)
 | k :: r, a, w => ∀ o, ol[k]? = some o → ∃ v, YieldsIf P ops S o v a ∧ wpFork P ops Q S ol i j l r (a.put o.dst v) w
theorem wpFork_any {ol : List Oper} (hs : Region.noSelect ol.toArray = true) (hQ : ∀ d v c a w, Q (.panic c) (a.put d v) w → Q (.panic c) a w) (i j : Nat) (l : List (Nat × Bool)) : ∀ (r : List Nat) (listed : Array Bool) (a : Act) (w : World), S w →
  forkB ol.toArray i j l r listed = true → wpFork P ol.toArray Q S ol i j l r a w → wpAnyH P .any ol.toArray Q S (r.length + (l.length + 2)) listed a w
 | [], listed, a, w, hS, hB, h => by
  simp only [forkB, Bool.and_eq_true, beq_iff_eq] at hB
  obtain ⟨⟨⟨⟨h1, h2⟩, h3⟩, h4⟩, h5⟩ := hB
  obtain ⟨oi, hoi⟩ := Option.isSome_iff_exists.1 h2
  obtain ⟨oj, hoj⟩ := Option.isSome_iff_exists.1 h3
  have hoi' : ol[i]? = some oi := by simpa using hoi
  have hoj' : ol[j]? = some oj := by simpa using hoj
  rw [show ([] : List Nat).length + (l.length + 2) = (l.length + 1) + 1 by simp]
  refine wpAnyH_all h1 (by simp) fun k hk => ?_
  simp only [List.mem_cons, List.not_mem_nil, or_false] at hk
  rcases hk with rfl | rfl
  ·exact wpOp_act hoi (fun a' w' hS' hK => wpOrd_any hs hQ ((j, false) :: l) _ a' w' hS' h4 hK) (h.1 oi hoi')
  ·exact wpOp_act hoj (fun a' w' hS' hK => wpOrd_any hs hQ ((i, false) :: l) _ a' w' hS' h5 hK) (h.2 oj hoj')
 | k :: r, listed, a, w, hS, hB, h => by
  simp only [forkB, Bool.and_eq_true] at hB
  obtain ⟨⟨⟨h1, h2⟩, h3⟩, h4⟩ := hB
  obtain ⟨o, hi⟩ := Option.isSome_iff_exists.1 h3
  have hi' : ol[k]? = some o := by simpa using hi
  obtain ⟨v, hy, hr⟩ := h o hi'
  rw [show (k :: r).length + (l.length + 2) = r.length + (l.length + 2) + 1 by simp; omega]
  exact wpAnyH_take hi hs h2 h1 (fun c a w => hQ _ _ c a w) hy hS (wpFork_any hs hQ i j l r _ _ w hS h4 hr)
theorem wp_region_fork {id : Nat} {a : Act} {w : World} {ol : List Oper} (r : List Nat) (i j : Nat) (l : List (Nat × Bool)) (hm : P.follows .mixedOrders = true) (hl : r.length + (l.length + 2) = ol.length)
  (hB : (Region.noSelect ol.toArray && forkB ol.toArray i j l r (Array.replicate ol.toArray.size false)) = true) (hQ : ∀ d v c a w, Q (.panic c) (a.put d v) w → Q (.panic c) a w)
  (hS : S w.drew) (h : wpFork P ol.toArray Q S ol i j l r a w.drew) : (Code.region id ol.toArray true).wp P Q a w := by
 simp only [Bool.and_eq_true] at hB
 have h1 := wpFork_any hB.1 hQ i j l r _ a w.drew hS hB.2 h
 rw [hl] at h1
 exact wp_region_held hm (by simpa using h1)
theorem wpFork_yield {ol : List Oper} {i j : Nat} {l : List (Nat × Bool)} {k : Nat} {r : List Nat} {a : Act} {w : World} {o : Oper} {v : Value} (ho : ol[k]? = some o) (hw : Region.wanted o (yielded ops a.tmps) = true)
  (hr : ∀ u, S u → (execOp a.eval o).run P u = .ok (.value v) u) (h : wpFork P ops Q S ol i j l r (a.put o.dst v) w) : wpFork P ops Q S ol i j l (k :: r) a w := by
 intro o' ho'
 obtain rfl : o = o' := by rw [ho] at ho'; exact Option.some.inj ho'
 exact ⟨v, .inl ⟨hw, hr⟩, h⟩
theorem wpFork_nil {ol : List Oper} {i j : Nat} {l : List (Nat × Bool)} {a : Act} {w : World} {oi oj : Oper} (hi : ol[i]? = some oi) (hj : ol[j]? = some oj)
  (h1 : wpOrd P ops Q S (inOrd ol ((i, false) :: (j, false) :: l)) a w) (h2 : wpOrd P ops Q S (inOrd ol ((j, false) :: (i, false) :: l)) a w) : wpFork P ops Q S ol i j l [] a w := by
 refine ⟨fun o ho => ?_, fun o ho => ?_⟩
 ·obtain rfl : oi = o := by rw [hi] at ho; exact Option.some.inj ho
  simp only [inOrd, hi, hj, wpOrd] at h1 ⊢
  exact h1
 ·obtain rfl : oj = o := by rw [hj] at ho; exact Option.some.inj ho
  simp only [inOrd, hi, hj, wpOrd] at h2 ⊢
  exact h2
end
end Go.Proofs.YtichojdcoegboaaGreatW
namespace Go.Proofs.YtichojdcoegboaaGreatW
open Go.RowKit
abbrev StO : Type := Oper ⊕ (Oper ⊕ (Oper × Oper))
section
variable {P : Program} {ops : Array Oper} {Q : Exit → Act → World → Prop} {S : World → Prop}
variable {r : List StO} {a : Act} {w : World} {o x y : Oper} {K : Act → World → Prop}
theorem act_makes {w' : World} {v : Value} (hw : Region.wanted o (yielded ops a.tmps) = true) (hr : (execOp a.eval o).run P w = .ok (.value v) w') (hS : S w') (h : K (a.put o.dst v) w') : wpAct P ops Q S o K a w := by
 unfold wpAct
 rw [if_pos hw]
 unfold Oper.wp
 rw [hr]
 exact ⟨hS, h⟩
theorem act_call (hw : Region.wanted o (yielded ops a.tmps) = true) (f : FuncId) (xs : List Operand) (ts : Array TypeId)
  (ho : o.op = .call { callee := .value (.func f), args := xs.toArray, argTypes := ts }) (hc : ∀ args u, (callFunc f args).run P u = .ok (.enter f args) u) (args : List Value) (hx : xs.map a.eval = args)
  (h : Calls P f args.toArray w fun e w' => ∃ v, e = .returned v ∧ S w' ∧ K (a.put o.dst v) w') : wpAct P ops Q S o K a w := by
 unfold wpAct
 rw [if_pos hw]
 unfold Oper.wp execOp
 have e : (do let d ← resolve a.eval { callee := .value (.func f), args := xs.toArray, argTypes := ts } o.type; invoke d.target d.args : Sem Next).run P w = .ok (.enter f args.toArray) w := by
  have hx' : xs.toArray.map a.eval = args.toArray := by rw [← hx]; simp
  simp only [resolve, hx']
  simp [Act.eval, Deferred.ofValue, invoke, hc]
 simp only [ho]
 rw [e]
 unfold Oper.upon
 exact h.mono fun e w' ⟨v, he, h1, h2⟩ => by subst he; exact ⟨h1, h2⟩
end
end Go.Proofs.YtichojdcoegboaaGreatW
namespace Go.Proofs.YtichojdcoegboaaGreatW
open Go.RowKit
abbrev Ins : Type := Nat ⊕ (Nat ⊕ (Nat × Nat × Nat))
def plMany : Nat → List Ins → Nat
 | _, [] => 0
 | 0, _ :: _ => 0
 | f + 1, .inl _ :: r => plMany f r + 1
 | f + 1, .inr (.inl _) :: r => plMany f r + 1
 | f + 1, .inr (.inr (_, _, k)) :: r => plMany f (r.take k) + 1
section
variable {P : Program} {ops : Array Oper} {Q : Exit → Act → World → Prop} {S : World → Prop}
def plB (ops : Array Oper) : Nat → List Ins → Array Bool → Bool
 | _, [], listed => (Region.ready .any ops listed).isEmpty
 | 0, _ :: _, _ => false
 | f + 1, .inl i :: r, listed => (Region.ready .any ops listed).contains i && Region.free .any ops listed i && (ops[i]?).isSome && plB ops f r (listed.setIfInBounds i true)
 | f + 1, .inr (.inl i) :: r, listed => (Region.ready .any ops listed == [i]) && (ops[i]?).isSome && plB ops f r (listed.setIfInBounds i true)
 | f + 1, .inr (.inr (i, j, k)) :: r, listed => (Region.ready .any ops listed == [i, j]) && (ops[i]?).isSome && (ops[j]?).isSome && (plMany f (r.take k) == plMany f (r.drop k)) && plB ops f (r.take k) (listed.setIfInBounds i true) && plB ops f (r.drop k) (listed.setIfInBounds j true)
def wpPl (P : Program) (ops : Array Oper) (Q : Exit → Act → World → Prop) (S : World → Prop) (ol : List Oper) : Nat → List Ins → Act → World → Prop
 | _, [], a, w => Q .normal a w
 | 0, _ :: _, _, _ => False
 | f + 1, .inl i :: r, a, w => ∀ o, ol[i]? = some o → ∃ v, YieldsIf P ops S o v a ∧ wpPl P ops Q S ol f r (a.put o.dst v) w
 | f + 1, .inr (.inl i) :: r, a, w => ∀ o, ol[i]? = some o → wpAct P ops Q S o (wpPl P ops Q S ol f r) a w
 | f + 1, .inr (.inr (i, j, k)) :: r, a, w => ∀ x y, ol[i]? = some x → ol[j]? = some y → wpAct P ops Q S x (wpPl P ops Q S ol f (r.take k)) a w ∧ wpAct P ops Q S y (wpPl P ops Q S ol f (r.drop k)) a w
theorem wpPl_any {ol : List Oper} (hs : Region.noSelect ol.toArray = true) (hQ : ∀ d v c a w, Q (.panic c) (a.put d v) w → Q (.panic c) a w) : ∀ (f : Nat) (l : List Ins) (listed : Array Bool) (a : Act) (w : World), S w →
  plB ol.toArray f l listed = true → wpPl P ol.toArray Q S ol f l a w → wpAnyH P .any ol.toArray Q S (plMany f l) listed a w
 | f, [], listed, a, w, _, hB, h => by
  have hB' : (Region.ready .any ol.toArray listed).isEmpty = true := by cases f <;> exact hB
  have h' : Q .normal a w := by cases f <;> exact h
  exact wpAnyH_done (by simpa using hB') h' _
 | 0, _ :: _, _, _, _, _, hB, _ => by cases hB
 | f + 1, .inl i :: r, listed, a, w, hS, hB, h => by
  simp only [plB, Bool.and_eq_true] at hB
  obtain ⟨⟨⟨h1, h2⟩, h3⟩, h4⟩ := hB
  obtain ⟨o, hi⟩ := Option.isSome_iff_exists.1 h3
  obtain ⟨v, hy, hr⟩ := h o (by simpa using hi)
  exact wpAnyH_take hi hs h2 h1 (fun c a w => hQ _ _ c a w) hy hS (wpPl_any hs hQ f r _ _ w hS h4 hr)
 | f + 1, .inr (.inl i) :: r, listed, a, w, hS, hB, h => by
  simp only [plB, Bool.and_eq_true, beq_iff_eq] at hB
  obtain ⟨⟨h1, h3⟩, h2⟩ := hB
  obtain ⟨o, hi⟩ := Option.isSome_iff_exists.1 h3
  refine wpAnyH_all h1 (by simp) fun j hj => ?_
  obtain rfl : j = i := by simpa using hj
  exact wpOp_act hi (fun a' w' hS' hK => wpPl_any hs hQ f r _ a' w' hS' h2 hK) (h o (by simpa using hi))
 | f + 1, .inr (.inr (i, j, k)) :: r, listed, a, w, hS, hB, h => by
  simp only [plB, Bool.and_eq_true, beq_iff_eq] at hB
  obtain ⟨⟨⟨⟨⟨h1, h2⟩, h3⟩, hm⟩, h4⟩, h5⟩ := hB
  obtain ⟨x, hx⟩ := Option.isSome_iff_exists.1 h2
  obtain ⟨y, hy⟩ := Option.isSome_iff_exists.1 h3
  obtain ⟨hA, hC⟩ := h x y (by simpa using hx) (by simpa using hy)
  refine wpAnyH_all h1 (by simp) fun m hk => ?_
  simp only [List.mem_cons, List.not_mem_nil, or_false] at hk
  rcases hk with rfl | rfl
  ·exact wpOp_act hx (fun a' w' hS' hK => wpPl_any hs hQ f (r.take k) _ a' w' hS' h4 hK) hA
  ·show wpOp P ol.toArray Q m (fun a' w' => S w' ∧ wpAnyH P .any ol.toArray Q S (plMany f (r.take k)) _ a' w') a w
   rw [hm]
   exact wpOp_act hy (fun a' w' hS' hK => wpPl_any hs hQ f (r.drop k) _ a' w' hS' h5 hK) hC
theorem wp_region_plan {id : Nat} {a : Act} {w : World} {ol : List Oper} (f : Nat) (l : List Ins) (hm : P.follows .mixedOrders = true) (hl : plMany f l = ol.length)
  (hB : (Region.noSelect ol.toArray && plB ol.toArray f l (Array.replicate ol.toArray.size false)) = true) (hQ : ∀ d v c a w, Q (.panic c) (a.put d v) w → Q (.panic c) a w)
  (hS : S w.drew) (h : wpPl P ol.toArray Q S ol f l a w.drew) : (Code.region id ol.toArray true).wp P Q a w := by
 simp only [Bool.and_eq_true] at hB
 have h1 := wpPl_any hB.1 hQ f l _ a w.drew hS hB.2 h
 rw [hl] at h1
 exact wp_region_held hm (by simpa using h1)
variable {a : Act} {w : World} {o x y : Oper} {ol : List Oper} {i j k f : Nat} {r : List Ins}
theorem wpPl_done (h : Q .normal a w) : wpPl P ops Q S ol f [] a w := by cases f <;> exact h
theorem wpPl_yield {v : Value} (ho : ol[i]? = some o) (hw : Region.wanted o (yielded ops a.tmps) = true) (hr : ∀ u, S u → (execOp a.eval o).run P u = .ok (.value v) u) (h : wpPl P ops Q S ol f r (a.put o.dst v) w) : wpPl P ops Q S ol (f + 1) (.inl i :: r) a w := fun o' ho' => by
 obtain rfl : o = o' := by rw [ho] at ho'; exact Option.some.inj ho'
 exact ⟨v, .inl ⟨hw, hr⟩, h⟩
theorem wpPl_act (ho : ol[i]? = some o) (h : wpAct P ops Q S o (wpPl P ops Q S ol f r) a w) : wpPl P ops Q S ol (f + 1) (.inr (.inl i) :: r) a w := fun o' ho' => by
 obtain rfl : o = o' := by rw [ho] at ho'; exact Option.some.inj ho'
 exact h
theorem wpPl_two {r1 r2 : List Ins} (hi : ol[i]? = some x) (hj : ol[j]? = some y) (h1 : wpAct P ops Q S x (wpPl P ops Q S ol f r1) a w) (h2 : wpAct P ops Q S y (wpPl P ops Q S ol f r2) a w) (e1 : r.take k = r1) (e2 : r.drop k = r2) : wpPl P ops Q S ol (f + 1) (.inr (.inr (i, j, k)) :: r) a w := fun x' y' hx hy => by
 obtain rfl : x = x' := by rw [hi] at hx; exact Option.some.inj hx
 obtain rfl : y = y' := by rw [hj] at hy; exact Option.some.inj hy
 subst e1 e2
 exact ⟨h1, h2⟩
end
end Go.Proofs.YtichojdcoegboaaGreatW
namespace Go.Proofs.YtichojdcoegboaaGreatW
open Go.Maps
def valElem (v : Value) : Option (DataW Value × List MemPlace) := some (.held v, [])
theorem nodup_le : ∀ (N : Nat) (l : List Int), l.Nodup → (∀ x ∈ l, 0 ≤ x ∧ x < (N : Int)) → l.length ≤ N
 | 0, l, _, h => by
  cases l with
  | nil => simp
  | cons a t => have := h a (by simp); omega
 | N + 1, l, hn, h => by
  by_cases hm : (N : Int) ∈ l
  ·have h1 := nodup_le N (l.erase (N : Int)) (hn.erase _) (fun x hx => by
    have hx' := (hn.mem_erase_iff).1 hx
    have := h x hx'.2
    have hne := hx'.1
    omega)
   rw [List.length_erase_of_mem hm] at h1
   omega
  ·have h1 := nodup_le N l hn (fun x hx => by
    have := h x hx
    have hne : x ≠ (N : Int) := fun e => hm (e ▸ hx)
    omega)
   omega
abbrev top : Nat := 1048576
def inTop (x : Int) : Prop := 0 ≤ x ∧ x < 1048576
theorem inTop.wf {x : Int} (h : inTop x) : (Lit.int .i64 x).wf = true := by
 obtain ⟨h1, h2⟩ := h
 exact WalkArith.wf_i64 (by omega)
structure Views (D : DataW Value) (m : Int → Option Value) : Prop where
 some : ∀ x v, m x = .some v → inTop x ∧ has D (.int .i64 x) = true ∧ ∀ z, D.atKey (.int .i64 x) z = .held v
 none : ∀ x, m x = .none → has D (.int .i64 x) = false
def MapIs (P : Program) (k : TypeId) (w : World) (b : Nat) (m : Int → Option Value) : Prop :=
 ∃ D, w.ownsMap P k valElem b top D ∧ Views D m
variable {P : Program} {k : TypeId} {w : World} {b : Nat} {m : Int → Option Value}
theorem MapIs.lt (h : MapIs P k w b m) : b < w.heap.size := by obtain ⟨D, h, _⟩ := h; exact h.lt
theorem MapIs.kept {w' : World} (h : MapIs P k w b m) (hb : w'.heap[b]? = w.heap[b]?) : MapIs P k w' b m := by
 obtain ⟨D, ⟨es, clock, h1, h2⟩, hv⟩ := h
 exact ⟨D, ⟨es, clock, hb.trans h1, h2⟩, hv⟩
theorem MapIs.isMap (h : MapIs P k w b m) : ∃ es clock, w.heap[b]? = some (.map es clock) := by
 obtain ⟨D, ⟨es, clock, h1, _⟩, _⟩ := h
 exact ⟨es, clock, h1⟩
theorem MapIs.made (w : World) : MapIs P k (w.alloc (.map #[] 0)) w.heap.size (fun _ => none) := by
 refine ⟨.map [], (World.ownsMap_made w P k valElem).mono (by unfold top; omega), ⟨fun x v h => by simp at h, fun x _ => rfl⟩⟩
theorem size_top (hk : P.underlying k = some (.int .i64)) {n : Nat} {D : DataW Value} (h : w.ownsMap P k valElem b n D) (K : Keyed P k) (hv : Views D m) : Maps.size D ≤ top := by
 obtain ⟨es, rfl, hp, _⟩ := h.entries K
 have hko : ∀ p ∈ es, ∃ x, p.1 = .int .i64 x := by
  obtain ⟨es', clock, _, F, _, hD⟩ := h
  intro p hp
  have e : es = (es'.toList.map (Go.WideElems.rg P k valElem)).foldr DataW.insert [] := by simpa using hD
  rw [e] at hp
  obtain ⟨y, hy, rfl⟩ := List.mem_map.1 (mem_sorted.1 hp)
  obtain ⟨z, hz⟩ := F.reads y hy
  obtain ⟨x, _, hx, _⟩ := Maps.keyOf_int_inv hk (Go.WideElems.rd_key hz)
  exact ⟨x, by rw [Go.WideElems.rg_of hz]; exact hx⟩
 let f : Lit × DataW Value → Int := fun p => match p.1 with | .int _ x => x | _ => 0
 have h1 := nodup_le top (es.map f) ?_ ?_
 ·simpa [Maps.size] using h1
 ·refine List.pairwise_map.2 (hp.imp_of_mem fun {p q} hp' hq' hne e => hne ?_)
  obtain ⟨a, ha⟩ := hko p hp'
  obtain ⟨c, hc⟩ := hko q hq'
  simp only [f, ha, hc] at e
  rw [ha, hc, e]
 ·intro x hx
  obtain ⟨p, hp', rfl⟩ := List.mem_map.1 hx
  obtain ⟨a, ha⟩ := hko p hp'
  have hh : has (.map es) (.int .i64 a) = true := List.any_eq_true.2 ⟨p, hp', by rw [ha]; simp [Lit.sameKey]⟩
  have hfa : f p = a := by simp only [f, ha]
  rw [hfa]
  cases hm : m a with
  | none => rw [hv.none a hm] at hh; cases hh
  | some v => exact (hv.some a v hm).1
theorem owns_top (hk : P.underlying k = some (.int .i64)) {n : Nat} {D : DataW Value} (h : w.ownsMap P k valElem b n D) (K : Keyed P k) (hv : Views D m) : w.ownsMap P k valElem b top D := by
 have h1 := size_top hk h K hv
 obtain ⟨es, clock, hb, F, _, rfl⟩ := h
 exact ⟨es, clock, hb, F, by simpa [Maps.size, length_sorted] using h1, rfl⟩
theorem views_put {D : DataW Value} (hD : IsMap D) (hv : Views D m) {x : Int} (hx : inTop x) (v : Value) : Views (D.put (.int .i64 x) (.held v)) (fun y => if y = x then some v else m y) := by
 have hkl : WideAt.IsKeyLit (.int .i64 x) := by first | trivial | simp [WideAt.IsKeyLit]
 constructor
 ·intro y u hy
  by_cases e : y = x
  ·subst e
   simp only [if_pos] at hy
   cases hy
   exact ⟨hx, has_put_same hD hkl _, fun z => atKey_put_same hD hkl _ z⟩
  ·simp only [if_neg e] at hy
   obtain ⟨h1, h2, h3⟩ := hv.some y u hy
   have hne : (Lit.int .i64 y) ≠ .int .i64 x := fun q => e (by injection q)
   exact ⟨h1, by rw [has_put_other hne]; exact h2, fun z => by rw [atKey_put_other hne]; exact h3 z⟩
 ·intro y hy
  by_cases e : y = x
  ·subst e; simp at hy
  ·simp only [if_neg e] at hy
   have hne : (Lit.int .i64 y) ≠ .int .i64 x := fun q => e (by injection q)
   rw [has_put_other hne]; exact hv.none y hy
theorem views_del {D : DataW Value} (hv : Views D m) (x : Int) : Views (D.del (.int .i64 x)) (fun y => if y = x then none else m y) := by
 constructor
 ·intro y u hy
  by_cases e : y = x
  ·subst e; simp at hy
  ·simp only [if_neg e] at hy
   obtain ⟨h1, h2, h3⟩ := hv.some y u hy
   have hne : (Lit.int .i64 y) ≠ .int .i64 x := fun q => e (by injection q)
   exact ⟨h1, by rw [has_del_other hne]; exact h2, fun z => by rw [atKey_del_other hne]; exact h3 z⟩
 ·intro y hy
  by_cases e : y = x
  ·subst e; exact has_del_same
  ·simp only [if_neg e] at hy
   have hne : (Lit.int .i64 y) ≠ .int .i64 x := fun q => e (by injection q)
   rw [has_del_other hne]; exact hv.none y hy
section
variable {ops : Array Oper} {rest : List Oper} {o : Oper} {a : Act} {Q : Exit → Act → World → Prop}
theorem key_int (hk : P.underlying k = some (.int .i64)) {x : Int} (hx : (Lit.int .i64 x).wf = true) : keyOf P k (.int .i64 x) = some (.int .i64 x) := keyOf_int_mk hk hx
theorem look_ok {t e : TypeId} (hk : P.underlying k = some (.int .i64)) (K : Keyed P k) (ht : P.underlying t = some (.map k e)) (h : MapIs P k w b m) {z : Value} (hz : (zeroValue e).run P w = .ok z w) {x : Int} (hx : (Lit.int .i64 x).wf = true) :
  (Instr.lookup t (.map (some b)) (.int .i64 x) true).run P w = .ok (.tuple #[(m x).getD z, .bool (m x).isSome]) w := by
 obtain ⟨D, hown, hv⟩ := h
 obtain ⟨v, ps, hrun, hR⟩ := hown.look_ok K ht hz (zd := .held z) (zp := []) rfl (key_int hk hx)
 rw [hrun]
 cases hm : m x with
 | none =>
  have h1 := hv.none x hm
  rw [atKey_of_not_has h1] at hR
  unfold valElem at hR
  simp at hR
  rw [h1, hR.1]; rfl
 | some u =>
  obtain ⟨_, h1, h2⟩ := hv.some x u hm
  rw [h2] at hR
  unfold valElem at hR
  simp at hR
  rw [h1, hR.1]; rfl
theorem wpList_lookM_ok (hg : o.guard = none) (mo xo : Operand) (t : TypeId) (hop : o.op = Op.lookup t mo xo true) (e : TypeId) (hk : P.underlying k = some (.int .i64)) (K : Keyed P k) (ht : P.underlying t = some (.map k e))
  (hm : a.eval mo = .map (some b)) (h : MapIs P k w b m) {z : Value} (hz : (zeroValue e).run P w = .ok z w) (x : Int) (hx : (Lit.int .i64 x).wf = true) (hxo : a.eval xo = .int .i64 x)
  (hK : wpList P ops Q rest (a.put o.dst (.tuple #[(m x).getD z, .bool (m x).isSome])) w) : wpList P ops Q (o :: rest) a w := by
 refine wpList_plain hg fun K' hK' => ?_
 unfold Oper.wp
 simp [execOp, hop, hm, hxo, look_ok hk K ht h hz hx, Result.andThen]
 exact hK' _ _ hK
theorem look_at {t e : TypeId} (hk : P.underlying k = some (.int .i64)) (K : Keyed P k) (ht : P.underlying t = some (.map k e)) (h : MapIs P k w b m) {z : Value} (hz : (zeroValue e).run P w = .ok z w) {x : Int} (hx : (Lit.int .i64 x).wf = true) :
  (Instr.lookup t (.map (some b)) (.int .i64 x) false).run P w = .ok ((m x).getD z) w := by
 obtain ⟨D, hown, hv⟩ := h
 obtain ⟨v, ps, hrun, hR⟩ := hown.lookup K ht hz (zd := .held z) (zp := []) rfl (key_int hk hx)
 rw [hrun]
 cases hm : m x with
 | none =>
  have h1 := hv.none x hm
  rw [atKey_of_not_has h1] at hR
  unfold valElem at hR
  simp at hR
  rw [hR.1]; rfl
 | some u =>
  obtain ⟨_, h1, h2⟩ := hv.some x u hm
  rw [h2] at hR
  unfold valElem at hR
  simp at hR
  rw [hR.1]; rfl
theorem wpList_putM (hg : o.guard = none) (mo xo vo : Operand) (t : TypeId) (hop : o.op = Op.mapUpdate t mo xo vo) (e : TypeId) (hk : P.underlying k = some (.int .i64)) (K : Keyed P k) (ht : P.underlying t = some (.map k e))
  (b : Nat) (m : Int → Option Value) (hm : a.eval mo = .map (some b)) (h : MapIs P k w b m) (x : Int) (hx : inTop x) (hxo : a.eval xo = .int .i64 x) (v : Value) (hvo : a.eval vo = v)
  (hK : ∀ w', MapIs P k w' b (fun y => if y = x then some v else m y) → w.grownBy w' (some b) → wpList P ops Q rest (a.put o.dst undef) w') : wpList P ops Q (o :: rest) a w := by
 obtain ⟨D, hown, hv⟩ := h
 refine wpList_mapUpdate_own w hg mo xo vo t hop k e K ht valElem b top D hm hown (by unfold top maxLen; omega) _ _ (.int .i64 x) hxo hvo (key_int hk hx.wf) (.held v) [] rfl fun w' h1 h2 => ?_
 have hv' := views_put hown.isMap hv hx v
 exact hK w' ⟨_, owns_top hk h1 K hv', hv'⟩ h2
theorem wpList_delM (hg : o.guard = none) (mo xo : Operand) (t : TypeId) (hop : o.op = Op.call { callee := Callee.builtin Builtin.delete, args := #[mo, xo], argTypes := #[t, k] }) (e : TypeId) (hk : P.underlying k = some (.int .i64)) (K : Keyed P k) (ht : P.underlying t = some (.map k e))
  (b : Nat) (m : Int → Option Value) (hm : a.eval mo = .map (some b)) (h : MapIs P k w b m) (x : Int) (hx : (Lit.int .i64 x).wf = true) (hxo : a.eval xo = .int .i64 x)
  (hK : ∀ w', MapIs P k w' b (fun y => if y = x then none else m y) → w.grownBy w' (some b) → wpList P ops Q rest (a.put o.dst (.tuple #[])) w') : wpList P ops Q (o :: rest) a w := by
 obtain ⟨D, hown, hv⟩ := h
 refine wpList_delete_own w hg mo xo t k hop e K ht valElem b top D hm hown _ (.int .i64 x) hxo (key_int hk hx) fun w' h1 h2 => ?_
 exact hK w' ⟨_, h1, views_del hv x⟩ h2.grown
end
end Go.Proofs.YtichojdcoegboaaGreatW
namespace Go.Proofs.YtichojdcoegboaaGreatW
abbrev Cel := Int × (Nat → Int)
def Can (f : Nat → Int) : Prop := (∀ i, 0 ≤ f i ∧ f i ≤ 255) ∧ ∀ i, 1024 ≤ i → f i = 0
theorem can_nought : Can nought := ⟨fun _ => by unfold nought; omega, fun _ _ => rfl⟩
theorem Can.ext {f g : Nat → Int} (hf : Can f) (hg : Can g) (h : ∀ i, i < 1024 → f i = g i) : f = g := by
 funext i
 by_cases hi : i < 1024
 ·exact h i hi
 ·rw [hf.2 i (by omega), hg.2 i (by omega)]
theorem Can.same {f g : Nat → Int} (hf : Can f) (hg : Can g) : sameB f g = true ↔ f = g :=
 ⟨fun h => hf.ext hg ((sameB_iff f g).1 h), fun h => by subst h; exact sameB_self f⟩
def blankB (f : Nat → Int) : Bool := sameB f nought
theorem Can.blank {f : Nat → Int} (hf : Can f) : blankB f = true ↔ f = nought := hf.same can_nought
def atL : List Cel → Int → Nat → Int
 | [], _ => nought
 | (i, x) :: t, k => if i = k then x else atL t k
def Rise : Int → List Cel → Prop
 | _, [] => True
 | m, (i, _) :: t => m < i ∧ Rise i t
def Sound (l : List Cel) : Prop := ∀ c ∈ l, Can c.2 ∧ c.2 ≠ nought
def laidGo (k : Int) (b : Nat → Int) : Bool → List Cel → List Cel
 | done, [] => if done then [] else [(k, b)]
 | done, (i, x) :: t => (if !done && decide (k ≤ i) then [(k, b)] else []) ++ ((if i = k then [] else [(i, x)]) ++ laidGo k b (done || decide (k ≤ i)) t)
def laidL (l : List Cel) (k : Int) (b : Nat → Int) : List Cel := laidGo k b (blankB b) l
theorem Rise.mono {m m' : Int} (h : m' ≤ m) : ∀ {l : List Cel}, Rise m l → Rise m' l
 | [], _ => trivial
 | (_, _) :: _, hl => ⟨by have := hl.1; omega, hl.2⟩
theorem at_above {m : Int} : ∀ {l : List Cel}, Rise m l → ∀ k, k ≤ m → atL l k = nought
 | [], _, _, _ => rfl
 | (i, x) :: t, hl, k, hk => by
  have h1 := hl.1
  unfold atL
  rw [if_neg (by omega)]
  exact at_above hl.2 k (by omega)
theorem rise_ext : ∀ {m m' : Int} {l l' : List Cel}, Rise m l → Rise m' l' → Sound l → Sound l' → (∀ k, atL l k = atL l' k) → l = l'
 | _, _, [], [], _, _, _, _, _ => rfl
 | _, _, [], (i, x) :: t, _, _, _, s', h => by
  have := h i
  simp only [atL, if_pos] at this
  exact absurd this.symm (s' (i, x) (by simp)).2
 | _, _, (i, x) :: t, [], _, _, s, _, h => by
  have := h i
  simp only [atL, if_pos] at this
  exact absurd this (s (i, x) (by simp)).2
 | _, _, (i, x) :: t, (j, y) :: t', r, r', s, s', h => by
  have hij : i = j := by
   by_cases h1 : i < j
   ·have := h i
    rw [show atL ((j, y) :: t') i = nought from at_above (show Rise i ((j, y) :: t') from ⟨h1, r'.2⟩) i (Int.le_refl _)] at this
    simp only [atL, if_pos] at this
    exact absurd this (s (i, x) (by simp)).2
   ·by_cases h2 : j < i
    ·have := h j
     rw [show atL ((i, x) :: t) j = nought from at_above (show Rise j ((i, x) :: t) from ⟨h2, r.2⟩) j (Int.le_refl _)] at this
     simp only [atL, if_pos] at this
     exact absurd this.symm (s' (j, y) (by simp)).2
    ·omega
  subst hij
  have hxy : x = y := by
   have := h i
   simpa only [atL, if_pos] using this
  subst hxy
  have ht : t = t' := by
   refine rise_ext r.2 r'.2 (fun c hc => s c (by simp [hc])) (fun c hc => s' c (by simp [hc])) fun k => ?_
   by_cases hk : i = k
   ·subst hk
    rw [at_above r.2 i (Int.le_refl _), at_above r'.2 i (Int.le_refl _)]
   ·have := h k
    simpa only [atL, if_neg hk] using this
  rw [ht]
theorem laid_done (k : Int) (b : Nat → Int) : ∀ {m : Int} {l : List Cel}, k ≤ m → Rise m l → laidGo k b true l = l
 | _, [], _, _ => rfl
 | m, (i, x) :: t, hk, hl => by
  have h1 := hl.1
  unfold laidGo
  simp only [Bool.not_true, Bool.false_and, Bool.false_eq_true, if_false, List.nil_append, Bool.true_or]
  rw [if_neg (by omega), laid_done k b (m := i) (by omega) hl.2]
  rfl
theorem laid_spec (k : Int) (b : Nat → Int) (hb : Can b) : ∀ {m : Int} {l : List Cel}, m < k → Rise m l → Sound l →
  Rise m (laidL l k b) ∧ Sound (laidL l k b) ∧ ∀ j, atL (laidL l k b) j = if j = k then b else atL l j := by
 unfold laidL
 cases hbl : blankB b
 ·have hne : b ≠ nought := fun h => by rw [hb.blank.2 h] at hbl; cases hbl
  intro m l
  induction l generalizing m with
  | nil =>
   intro hk _ _
   refine ⟨⟨hk, trivial⟩, fun c hc => ?_, fun j => ?_⟩
   ·have : c = (k, b) := by simpa [laidGo] using hc
    subst this
    exact ⟨hb, hne⟩
   ·simp only [laidGo, Bool.false_eq_true, if_false, atL]
    by_cases hj : j = k
    ·rw [if_pos hj.symm, if_pos hj]
    ·rw [if_neg (fun h => hj h.symm), if_neg hj]
  | cons c t ih =>
   obtain ⟨i, x⟩ := c
   intro hk hl hs
   have h1 := hl.1
   have hst : Sound t := fun c hc => hs c (by simp [hc])
   unfold laidGo
   simp only [Bool.not_false, Bool.true_and, Bool.false_or]
   by_cases hki : k ≤ i
   ·rw [if_pos (by simpa using hki), decide_eq_true hki, laid_done k b hki hl.2]
    by_cases hik : i = k
    ·subst hik
     rw [if_pos rfl]
     refine ⟨⟨hk, hl.2⟩, fun c hc => ?_, fun j => ?_⟩
     ·have : c = (i, b) ∨ c ∈ t := by simpa using hc
      rcases this with rfl | h
      ·exact ⟨hb, hne⟩
      ·exact hst c h
     ·simp only [List.singleton_append, List.nil_append, atL]
      by_cases hj : j = i
      ·rw [if_pos hj.symm, if_pos hj]
      ·rw [if_neg (fun h => hj h.symm), if_neg hj, if_neg (fun h => hj h.symm)]
    ·rw [if_neg hik]
     refine ⟨⟨hk, by omega, hl.2⟩, fun c hc => ?_, fun j => ?_⟩
     ·have : c = (k, b) ∨ c = (i, x) ∨ c ∈ t := by simpa using hc
      rcases this with rfl | rfl | h
      ·exact ⟨hb, hne⟩
      ·exact hs _ (by simp)
      ·exact hst c h
     ·simp only [List.singleton_append, atL]
      by_cases hj : j = k
      ·rw [if_pos hj.symm, if_pos hj]
      ·rw [if_neg (fun h => hj h.symm), if_neg hj]
   ·rw [if_neg (by simpa using hki), if_neg (by omega), decide_eq_false hki]
    obtain ⟨r1, r2, r3⟩ := ih (m := i) (by omega) hl.2 hst
    refine ⟨⟨h1, r1⟩, fun c hc => ?_, fun j => ?_⟩
    ·have : c = (i, x) ∨ c ∈ laidGo k b false t := by simpa using hc
     rcases this with rfl | h
     ·exact hs _ (by simp)
     ·exact r2 c h
    ·simp only [List.nil_append, List.singleton_append, atL]
     rw [r3 j]
     by_cases hj : i = j
     ·rw [if_pos hj, if_pos hj, if_neg (by omega)]
     ·rw [if_neg hj, if_neg hj]
 ·have hb0 : b = nought := hb.blank.1 hbl
  subst hb0
  intro m l
  induction l generalizing m with
  | nil =>
   intro _ _ _
   refine ⟨trivial, fun c hc => by simp [laidGo] at hc, fun j => ?_⟩
   simp [laidGo, atL]
  | cons c t ih =>
   obtain ⟨i, x⟩ := c
   intro hk hl hs
   have h1 := hl.1
   have hst : Sound t := fun c hc => hs c (by simp [hc])
   unfold laidGo
   simp only [Bool.not_true, Bool.false_and, Bool.false_eq_true, if_false, List.nil_append, Bool.true_or]
   by_cases hik : i = k
   ·subst hik
    rw [if_pos rfl, laid_done i nought (Int.le_refl _) hl.2, List.nil_append]
    refine ⟨hl.2.mono (by omega), hst, fun j => ?_⟩
    simp only [atL]
    by_cases hj : j = i
    ·rw [if_pos hj, hj]; exact at_above hl.2 i (Int.le_refl _)
    ·rw [if_neg hj, if_neg (fun h => hj h.symm)]
   ·rw [if_neg hik]
    by_cases hlt : i < k
    ·obtain ⟨r1, r2, r3⟩ := ih (m := i) hlt hl.2 hst
     refine ⟨⟨h1, r1⟩, fun c hc => ?_, fun j => ?_⟩
     ·have : c = (i, x) ∨ c ∈ laidGo k nought true t := by simpa using hc
      rcases this with rfl | h
      ·exact hs _ (by simp)
      ·exact r2 c h
     ·simp only [List.singleton_append, atL]
      rw [r3 j]
      by_cases hj : i = j
      ·rw [if_pos hj, if_pos hj, if_neg (by omega)]
      ·rw [if_neg hj, if_neg hj]
    ·rw [laid_done k nought (m := i) (by omega) hl.2]
     refine ⟨⟨h1, hl.2⟩, hs, fun j => ?_⟩
     simp only [List.singleton_append]
     by_cases hj : j = k
     ·rw [if_pos hj, hj]
      exact at_above (show Rise k ((i, x) :: t) from ⟨by omega, hl.2⟩) k (Int.le_refl _)
     ·rw [if_neg hj]
end Go.Proofs.YtichojdcoegboaaGreatW
namespace Go.Proofs.YtichojdcoegboaaGreatW
open Go.RowKit
structure Fr (T : Nat → Prop) (w w' : World) : Prop where
 os : w'.os = w.os
 tape : w'.tape = w.tape
 output : w'.output = w.output
 size : w.heap.size ≤ w'.heap.size
 block : ∀ k, k < w.heap.size → ¬ T k → w'.heap[k]? = w.heap[k]?
theorem Fr.refl (T : Nat → Prop) (w : World) : Fr T w w := ⟨rfl, rfl, rfl, Nat.le_refl _, fun _ _ _ => rfl⟩
theorem Fr.trans {T T' : Nat → Prop} {a b c : World} (h : Fr T a b) (k : Fr T' b c) (hT : ∀ i, i < a.heap.size → T' i → T i) : Fr T a c :=
 ⟨k.os.trans h.os, k.tape.trans h.tape, k.output.trans h.output, Nat.le_trans h.size k.size, fun i hi hn => (k.block i (Nat.lt_of_lt_of_le hi h.size) (fun q => hn (hT i hi q))).trans (h.block i hi hn)⟩
theorem Fr.mono {T T' : Nat → Prop} {a b : World} (h : Fr T a b) (hT : ∀ i, i < a.heap.size → T i → T' i) : Fr T' a b :=
 ⟨h.os, h.tape, h.output, h.size, fun i hi hn => h.block i hi fun q => hn (hT i hi q)⟩
theorem Fr.ofBelow {T : Nat → Prop} {a b : World} (h : Below a.heap.size a b) : Fr T a b := ⟨h.os, h.tape, h.output, h.size, fun i hi _ => h.block i hi⟩
theorem Fr.below {T : Nat → Prop} {B : Nat} {a b : World} (h : Fr T a b) (hT : ∀ i, T i → B ≤ i) (hB : B ≤ a.heap.size) : Below B a b :=
 ⟨h.os, h.tape, h.output, h.size, fun i hi => h.block i (by omega) fun q => by have := hT i q; omega⟩
theorem Fr.ofGrown {a b : World} {r : Option Nat} (h : a.grownBy b r) : Fr (fun i => r = some i) a b := ⟨h.os, h.tape, h.output, h.size, fun i hi hn => h.block i hi fun q => hn q.symm⟩
theorem Fr.setCell (w : World) (g i : Nat) (v : Value) : Fr (fun k => k = g) w (w.setCell ⟨g, i, none⟩ v) :=
 ⟨rfl, rfl, rfl, by simp, fun k _ hn => Below.heap_setCell w _ v k hn⟩
theorem Fr.alloc (T : Nat → Prop) (w : World) (o : Obj) : Fr T w (w.alloc o) := Fr.ofBelow ((Below.refl _ _).alloc (Nat.le_refl _) o)
structure Rec where
 kind : Int
 pos : Int
 dat : Nat → Int
def recCells (r : Rec) : List Value := .int .u8 r.kind :: .int .i64 r.pos :: (blk r.dat).toList
def opCells (l : List Rec) : List Value := l.flatMap recCells
theorem blk_list_len (f : Nat → Int) : (blk f).toList.length = 1024 := by rw [Array.length_toList, blk_size]
theorem recCells_len (r : Rec) : (recCells r).length = 1026 := by simp [recCells, blk_size]
theorem opCells_len : ∀ l : List Rec, (opCells l).length = l.length * 1026
 | [] => rfl
 | r :: t => by
  have ih := opCells_len t
  have h1 := recCells_len r
  show (recCells r ++ opCells t).length = _
  rw [List.length_append, ih, h1, List.length_cons]
  omega
theorem opCells_append (a b : List Rec) : opCells (a ++ b) = opCells a ++ opCells b := by simp [opCells]
theorem recCells_one (r : Rec) : ∀ v ∈ recCells r, v.oneCell' = true := by
 intro v hv
 simp only [recCells, List.mem_cons] at hv
 rcases hv with rfl | rfl | h
 ·rfl
 ·rfl
 ·have := blk_one r.dat
  rw [Array.all_eq_true_iff_forall_mem] at this
  exact this v (by simpa using h)
structure St where
 n : Int
 held : Int → Option (Nat → Int)
 done : List Rec
 wait : List Cel
 fuse : Int
 stopped : Bool
 made : Int
 reads : Int
 claims : Int
 claimed : Bool
def wrec (c : Cel) : Rec := ⟨1, c.1, c.2⟩
def St.ops (s : St) : List Rec := s.done ++ s.wait.map wrec
def lastAt : List Cel → Int → Option Nat
 | [], _ => none
 | c :: t, k => match lastAt t k with
  | some i => some (i + 1)
  | none => if c.1 = k then some 0 else none
theorem lastAt_snoc (c : Cel) (k : Int) : ∀ l : List Cel, lastAt (l ++ [c]) k = if c.1 = k then some l.length else lastAt l k
 | [] => by simp [lastAt]
 | x :: t => by
  show (match lastAt (t ++ [c]) k with | some i => some (i + 1) | none => if x.1 = k then some 0 else none) = _
  rw [lastAt_snoc c k t]
  by_cases h : c.1 = k
  ·simp [h]
  ·simp [h, lastAt]
theorem lastAt_spec (k : Int) : ∀ (l : List Cel) (i : Nat), lastAt l k = some i → ∃ c, l[i]? = some c ∧ c.1 = k
 | [], i, h => by simp [lastAt] at h
 | x :: t, i, h => by
  unfold lastAt at h
  cases ht : lastAt t k with
  | none =>
   rw [ht] at h
   by_cases hx : x.1 = k
   ·simp [hx] at h; subst h; exact ⟨x, rfl, hx⟩
   ·simp [hx] at h
  | some j =>
   rw [ht] at h
   simp at h
   subst h
   obtain ⟨c, h1, h2⟩ := lastAt_spec k t j ht
   exact ⟨c, by simpa using h1, h2⟩
def heldV (s : St) : Int → Option Value := fun k => (s.held k).map fun f => .agg (blk f)
def lateV (s : St) : Int → Option Value := fun k => (lastAt s.wait k).map fun i => .int .i64 ((s.done.length + i : Nat) : Int)
structure Ok (s : St) : Prop where
 n : 1 ≤ s.n ∧ s.n ≤ 1048576
 held : ∀ k f, s.held k = some f → (0 ≤ k ∧ k < s.n) ∧ Can f ∧ f ≠ nought
 wait : ∀ c ∈ s.wait, (0 ≤ c.1 ∧ c.1 < s.n) ∧ Can c.2
 fuse : -1 ≤ s.fuse ∧ s.fuse ≤ 9223372036854775807
 made : 0 ≤ s.made
 reads : 0 ≤ s.reads
 claims : 0 ≤ s.claims
structure Room (s : St) : Prop where
 ops : s.ops.length < 68719476736
 made : s.made < 1099511627776
 reads : s.reads < 1099511627776
 claims : s.claims < 1099511627776
structure Loc where
 d : Nat
 hb : Nat
 lb : Nat
 hv : Value
def Loc.has (L : Loc) (k : Nat) : Prop := k = L.d ∨ k = L.hb ∨ k = L.lb ∨ L.hv.ownBlock = some k
def dkRow (L : Loc) (s : St) : Array Value :=
 #[.pointer (some ⟨L.d, 0, none⟩), .int .i64 s.n, .map (some L.hb), L.hv, .int .i64 (s.done.length : Int), .map (some L.lb), .int .i64 s.fuse, .bool s.stopped, .int .i64 s.made, .int .i64 s.reads, .int .i64 s.claims, .bool s.claimed]
structure DiskAt (w : World) (L : Loc) (s : St) : Prop where
 row : w.heap[L.d]? = some (.cells (dkRow L s) 95)
 held : MapIs Tryz.prog 3 w L.hb (heldV s)
 late : MapIs Tryz.prog 3 w L.lb (lateV s)
 hist : w.ownsRow 0 98 1026 L.hv s.ops.length (opCells s.ops)
 ne : L.hb ≠ L.lb
 ok : Ok s
theorem ownsRow_kept0 {w w' : World} {base e size n : Nat} {v : Value} {xs : List Value} (h : w.ownsRow base e size v n xs) (hb : ∀ k, v.ownBlock = some k → w'.heap[k]? = w.heap[k]?) : w'.ownsRow base e size v n xs := by
 refine ⟨h.1, ?_⟩
 rcases h.2 with h | ⟨g, cap, cur, rfl, h1, h2, h3⟩
 ·exact .inl h
 ·exact .inr ⟨g, cap, cur, rfl, h1, (hb g rfl).trans h2, h3⟩
theorem DiskAt.lt {w : World} {L : Loc} {s : St} (h : DiskAt w L s) (k : Nat) (hk : L.has k) : k < w.heap.size := by
 rcases hk with rfl | rfl | rfl | hk
 ·exact (Array.getElem?_eq_some_iff.1 h.row).1
 ·exact h.held.lt
 ·exact h.late.lt
 ·exact (h.hist.lt k hk).2
theorem DiskAt.kept {w w' : World} {L : Loc} {s : St} (h : DiskAt w L s) (hb : ∀ k, L.has k → w'.heap[k]? = w.heap[k]?) : DiskAt w' L s :=
 ⟨(hb _ (.inl rfl)).trans h.row, h.held.kept (hb _ (.inr (.inl rfl))), h.late.kept (hb _ (.inr (.inr (.inl rfl)))), ownsRow_kept0 h.hist fun k hk => hb k (.inr (.inr (.inr hk))), h.ne, h.ok⟩
theorem DiskAt.fr {w w' : World} {L : Loc} {s : St} {T : Nat → Prop} (h : DiskAt w L s) (hf : Fr T w w') (hT : ∀ k, L.has k → ¬ T k) : DiskAt w' L s :=
 h.kept fun k hk => hf.block k (h.lt k hk) (hT k hk)
theorem DiskAt.later {w w' : World} {L : Loc} {s : St} (h : DiskAt w L s) (hb : Below w.heap.size w w') : DiskAt w' L s := h.kept fun k hk => hb.block k (h.lt k hk)
structure Goes (w w' : World) (L L' : Loc) : Prop where
 d : L'.d = L.d
 own : ∀ k, L'.has k → L.has k ∨ w.heap.size ≤ k
 fr : Fr L.has w w'
theorem Goes.trans {a b c : World} {L L' L'' : Loc} (h : Goes a b L L') (k : Goes b c L' L'') : Goes a c L L'' := by
 refine ⟨k.d.trans h.d, fun i hi => ?_, h.fr.trans k.fr fun i hi hk => ?_⟩
 ·rcases k.own i hi with h1 | h1
  ·exact h.own i h1
  ·have := h.fr.size; exact .inr (by omega)
 ·rcases h.own i hk with h1 | h1
  ·exact h1
  ·omega
theorem Goes.refl (w : World) (L : Loc) : Goes w w L L := ⟨rfl, fun _ h => .inl h, Fr.refl _ _⟩
theorem Goes.ofBelow {w w' : World} (L : Loc) (h : Below w.heap.size w w') : Goes w w' L L := ⟨rfl, fun _ h => .inl h, Fr.ofBelow h⟩
theorem DiskAt.cell {w : World} {L : Loc} {s : St} (h : DiskAt w L s) (i : Nat) : w.cell? ⟨L.d, i, none⟩ = (dkRow L s)[i]? := Joins.cell_of_block h.row i
theorem DiskAt.free {w : World} {L : Loc} {s : St} (h : DiskAt w L s) (i : Nat) : w.frozen? ⟨L.d, i, none⟩ = false := Joins.unfrozen_of_block h.row i
end Go.Proofs.YtichojdcoegboaaGreatW
namespace Go.Proofs.YtichojdcoegboaaGreatW
open Go.RowKit
theorem neq_same {P : Program} {tp te : TypeId} {j : TypeInfo} (w : World) (a : Addr) (hp : P.underlying tp = some (.pointer te)) (hte : P.info? te = some j) :
  (binOp .neq tp (.pointer (some a)) (.pointer (some a))).run P w = .ok (.bool false) w := by
 have h : ∀ d : Nat, (Op.equalIn (d + 1) tp (.pointer (some a)) (.pointer (some a))).run P w = .ok true w := fun d => by
  simp [Op.equalIn, run_underlying hp, sizeOf, typeInfo, hte, run_sameAddr_same]
 simp only [binOp]
 simp [Op.equal, Op.maxDepth, h 9999]
theorem neq_nil {P : Program} {tp te : TypeId} (w : World) (a : Addr) (hp : P.underlying tp = some (.pointer te)) :
  (binOp .neq tp (.pointer none) (.pointer (some a))).run P w = .ok (.bool true) w := by
 have h : ∀ d : Nat, (Op.equalIn (d + 1) tp (.pointer none) (.pointer (some a))).run P w = .ok false w := fun d => by
  simp [Op.equalIn, run_underlying hp]
 simp only [binOp]
 simp [Op.equal, Op.maxDepth, h 9999]
theorem info74 : ∃ j, Tryz.prog.info? 95 = some j := Option.isSome_iff_exists.1 (by kernel_rfl)
theorem neq24 (w : World) (a : Addr) : (binOp .neq 36 (.pointer (some a)) (.pointer (some a))).run Tryz.prog w = .ok (.bool false) w := by
 obtain ⟨j, hj⟩ := info74
 exact neq_same w a Tryz.underlying36 hj
def NoneAt (w : World) (v : Value) : Prop := v = .pointer none ∨ ∃ g, v = .pointer (some ⟨g, 0, none⟩) ∧ w.cell? ⟨g, 0, none⟩ = some (.pointer none)
theorem none_no {w : World} {d : Nat} (c0 : w.cell? ⟨d, 0, none⟩ = some (.pointer (some ⟨d, 0, none⟩))) :
  Calls Tryz.prog 65 #[.pointer (some ⟨d, 0, none⟩)] w fun e w' => e = .returned (.bool false) ∧ w' = w := by
 have hn := neq24
 go_enter Tryz.func65, Tryz.ntmps65
 go_wp2
 go_ret
 exact ⟨rfl, rfl⟩
variable {w : World} {L : Loc} {s : St}
theorem DiskAt.c0 (h : DiskAt w L s) : w.cell? ⟨L.d, 0, none⟩ = some (.pointer (some ⟨L.d, 0, none⟩)) := h.cell 0
theorem DiskAt.c1 (h : DiskAt w L s) : w.cell? ⟨L.d, 1, none⟩ = some (.int .i64 s.n) := h.cell 1
theorem DiskAt.c2 (h : DiskAt w L s) : w.cell? ⟨L.d, 2, none⟩ = some (.map (some L.hb)) := h.cell 2
theorem DiskAt.c3 (h : DiskAt w L s) : w.cell? ⟨L.d, 3, none⟩ = some L.hv := h.cell 3
theorem DiskAt.c4 (h : DiskAt w L s) : w.cell? ⟨L.d, 4, none⟩ = some (.int .i64 (s.done.length : Int)) := h.cell 4
theorem DiskAt.c5 (h : DiskAt w L s) : w.cell? ⟨L.d, 5, none⟩ = some (.map (some L.lb)) := h.cell 5
theorem DiskAt.c6 (h : DiskAt w L s) : w.cell? ⟨L.d, 6, none⟩ = some (.int .i64 s.fuse) := h.cell 6
theorem DiskAt.c7 (h : DiskAt w L s) : w.cell? ⟨L.d, 7, none⟩ = some (.bool s.stopped) := h.cell 7
theorem DiskAt.c8 (h : DiskAt w L s) : w.cell? ⟨L.d, 8, none⟩ = some (.int .i64 s.made) := h.cell 8
theorem DiskAt.c9 (h : DiskAt w L s) : w.cell? ⟨L.d, 9, none⟩ = some (.int .i64 s.reads) := h.cell 9
theorem DiskAt.c10 (h : DiskAt w L s) : w.cell? ⟨L.d, 10, none⟩ = some (.int .i64 s.claims) := h.cell 10
theorem DiskAt.c11 (h : DiskAt w L s) : w.cell? ⟨L.d, 11, none⟩ = some (.bool s.claimed) := h.cell 11
theorem len_of (h : DiskAt w L s) : Calls Tryz.prog 102 #[.pointer (some ⟨L.d, 0, none⟩)] w fun e w' => e = .returned (.int .i64 s.n) ∧ w' = w := by
 have c1 := h.c1
 have h0 := h.c0
 clear h
 go_enter Tryz.func102, Tryz.ntmps102
 go_wp2_with (first | (go_at_call 65; refine (none_no h0).mono ?_; rintro e W ⟨rfl, rfl⟩))
 go_ret
 exact ⟨rfl, rfl⟩
theorem stopped_of (h : DiskAt w L s) : Calls Tryz.prog 60 #[.pointer (some ⟨L.d, 0, none⟩)] w fun e w' => e = .returned (.bool s.stopped) ∧ w' = w := by
 have c7 := h.c7
 have h0 := h.c0
 clear h
 go_enter Tryz.func60, Tryz.ntmps60
 go_wp2_with (first | (go_at_call 65; refine (none_no h0).mono ?_; rintro e W ⟨rfl, rfl⟩))
 go_ret
 exact ⟨rfl, rfl⟩
def refV (s : St) (k : Int) : Int := if s.stopped then 3 else if 0 ≤ k ∧ k < s.n then 0 else 2
theorem refuses_of (h : DiskAt w L s) (k : Int) : Calls Tryz.prog 81 #[.pointer (some ⟨L.d, 0, none⟩), .int .i64 k] w fun e w' => e = .returned (.int .i64 (refV s k)) ∧ w' = w := by
 have c7 := h.c7
 have c1 := h.c1
 have h0 := h.c0
 clear h
 unfold refV
 cases hs : s.stopped
 ·rw [hs] at c7
  by_cases h1 : k < 0
  ·have e : ¬ (0 ≤ k ∧ k < s.n) := by omega
   simp only [e, if_false, Bool.false_eq_true]
   go_enter Tryz.func81, Tryz.ntmps81
   go_wp2_with (first | (go_at_call 65; refine (none_no h0).mono ?_; rintro e W ⟨rfl, rfl⟩))
   go_ret
   exact ⟨rfl, rfl⟩
  ·by_cases h2 : k < s.n
   ·have e : (0 ≤ k ∧ k < s.n) := by omega
    have h3 : ¬ k ≥ s.n := by omega
    simp only [e, if_true, if_false, Bool.false_eq_true, and_self]
    go_enter Tryz.func81, Tryz.ntmps81
    go_wp2_with (first | (go_at_call 65; refine (none_no h0).mono ?_; rintro e W ⟨rfl, rfl⟩))
    go_ret
    exact ⟨rfl, rfl⟩
   ·have e : ¬ (0 ≤ k ∧ k < s.n) := by omega
    have h3 : k ≥ s.n := by omega
    simp only [e, if_false, Bool.false_eq_true]
    go_enter Tryz.func81, Tryz.ntmps81
    go_wp2_with (first | (go_at_call 65; refine (none_no h0).mono ?_; rintro e W ⟨rfl, rfl⟩))
    go_ret
    exact ⟨rfl, rfl⟩
 ·rw [hs] at c7
  simp only [if_true]
  go_enter Tryz.func81, Tryz.ntmps81
  go_wp2_with (first | (go_at_call 65; refine (none_no h0).mono ?_; rintro e W ⟨rfl, rfl⟩))
  go_ret
  exact ⟨rfl, rfl⟩
def claimedV (s : St) (k : Int) : Bool := !s.stopped && s.claimed && k == s.claims
theorem claimed_of (h : DiskAt w L s) (k : Int) : Calls Tryz.prog 98 #[.pointer (some ⟨L.d, 0, none⟩), .int .i64 k] w fun e w' => e = .returned (.bool (claimedV s k)) ∧ w' = w := by
 have c7 := h.c7
 have c10 := h.c10
 have c11 := h.c11
 have h0 := h.c0
 clear h
 unfold claimedV
 cases hs : s.stopped
 ·cases hc : s.claimed
  ·rw [hs] at c7
   rw [hc] at c11
   go_enter Tryz.func98, Tryz.ntmps98
   go_wp2_with (first | (go_at_call 65; refine (none_no h0).mono ?_; rintro e W ⟨rfl, rfl⟩))
   go_ret
   exact ⟨rfl, rfl⟩
  ·rw [hs] at c7
   rw [hc] at c11
   go_enter Tryz.func98, Tryz.ntmps98
   go_wp2_with (first | (go_at_call 65; refine (none_no h0).mono ?_; rintro e W ⟨rfl, rfl⟩))
   go_ret
   exact ⟨by simp, rfl⟩
 ·rw [hs] at c7
  go_enter Tryz.func98, Tryz.ntmps98
  go_wp2_with (first | (go_at_call 65; refine (none_no h0).mono ?_; rintro e W ⟨rfl, rfl⟩))
  go_ret
  exact ⟨rfl, rfl⟩
end Go.Proofs.YtichojdcoegboaaGreatW
namespace Go.Proofs.YtichojdcoegboaaGreatW
open Go.RowKit
variable {w : World} {L : Loc} {s : St}
theorem DiskAt.put {s' : St} (h : DiskAt w L s) (i : Nat) (v : Value) (hr : (dkRow L s).setIfInBounds i v = dkRow L s') (hh : s'.held = s.held) (hw : s'.wait = s.wait) (hd : s'.done = s.done) (hok : Ok s') :
  DiskAt (w.setCell ⟨L.d, i, none⟩ v) L s' := by
 have hne : ∀ k, k ≠ L.d → (w.setCell ⟨L.d, i, none⟩ v).heap[k]? = w.heap[k]? := fun k hk => Below.heap_setCell w _ v k hk
 obtain ⟨es, ck, hm⟩ := h.held.isMap
 obtain ⟨es2, ck2, hm2⟩ := h.late.isMap
 refine ⟨?_, ?_, ?_, ?_, h.ne, hok⟩
 ·rw [Joins.block_setCell h.row, hr]
 ·have : heldV s' = heldV s := by unfold heldV; rw [hh]
  rw [this]
  exact h.held.kept (hne _ fun e => by rw [e, h.row] at hm; cases hm)
 ·have : lateV s' = lateV s := by unfold lateV; rw [hw, hd]
  rw [this]
  exact h.late.kept (hne _ fun e => by rw [e, h.row] at hm2; cases hm2)
 ·have : s'.ops = s.ops := by unfold St.ops; rw [hw, hd]
  rw [this]
  refine ownsRow_kept0 h.hist fun k hk => hne _ fun e => ?_
  rcases h.hist.2 with ⟨h1, _⟩ | ⟨g, cap, cur, h1, _, h2, _⟩
  ·rw [h1] at hk; cases hk
  ·rw [h1] at hk
   injection hk with hk
   rw [← hk] at e
   simp only at e
   rw [e, h.row] at h2
   cases h2
theorem Goes.put (w : World) (L : Loc) (i : Nat) (v : Value) : Goes w (w.setCell ⟨L.d, i, none⟩ v) L L :=
 ⟨rfl, fun _ h => .inl h, (Fr.setCell w L.d i v).mono fun _ _ h => .inl h⟩
def lets (s : St) : Bool := s.fuse != 0
def letV (s : St) : St := if s.fuse = 0 then { s with stopped := true } else { s with fuse := (if s.fuse = -1 then -1 else s.fuse - 1), made := s.made + 1 }
theorem letV_ok (h : Ok s) : Ok (letV s) := by
 unfold letV
 split
 ·exact ⟨h.n, h.held, h.wait, h.fuse, h.made, h.reads, h.claims⟩
 ·rename_i h0
  have := h.fuse
  have := h.made
  refine ⟨h.n, h.held, h.wait, ?_, ?_, h.reads, h.claims⟩
  ·show -1 ≤ (if s.fuse = -1 then -1 else s.fuse - 1) ∧ (if s.fuse = -1 then -1 else s.fuse - 1) ≤ 9223372036854775807
   split <;> omega
  ·show 0 ≤ s.made + 1
   omega
theorem letThrough_of (h : DiskAt w L s) (hr : Room s) : Calls Tryz.prog 111 #[.pointer (some ⟨L.d, 0, none⟩)] w fun e w' => e = .returned (.bool (lets s)) ∧ DiskAt w' L (letV s) ∧ Goes w w' L L := by
 have c6 := h.c6
 have c8 := h.c8
 have c7 := h.c7
 have f6 := h.free 6
 have f7 := h.free 7
 have f8 := h.free 8
 have hf := h.ok.fuse
 have hm := h.ok.made
 have hm2 := hr.made
 by_cases h0 : s.fuse = 0
 ·rw [h0] at c6
  have e1 : letV s = { s with stopped := true } := by unfold letV; rw [if_pos h0]
  have hA := h.put (s' := letV s) 7 (.bool true) (by rw [e1]; rfl) (by rw [e1]) (by rw [e1]) (by rw [e1]) (letV_ok h.ok)
  have hA' : Hid (DiskAt (w.setCell ⟨L.d, 7, none⟩ (.bool true)) L (letV s)) := hA
  have hl : lets s = false := by unfold lets; simp [h0]
  rw [hl]
  clear hA h hr e1
  go_enter Tryz.func111, Tryz.ntmps111
  go_wp2
  go_ret
  exact ⟨rfl, hA'.out, Goes.put _ _ _ _⟩
 ·have hl : lets s = true := by unfold lets; simp [h0]
  rw [hl]
  have hw8 : IntKind.i64.wrap (s.made + 1) = s.made + 1 := by rw [IntKind.wrap_i64]; omega
  by_cases h1 : s.fuse = -1
  ·rw [h1] at c6
   have e1 : letV s = { s with made := s.made + 1 } := by unfold letV; rw [if_neg h0, if_pos h1, ← h1]
   have hA : Hid (DiskAt (w.setCell ⟨L.d, 8, none⟩ (.int .i64 (s.made + 1))) L (letV s)) := h.put (s' := letV s) 8 _ (by rw [e1]; rfl) (by rw [e1]) (by rw [e1]) (by rw [e1]) (letV_ok h.ok)
   clear h hr e1
   go_enter Tryz.func111, Tryz.ntmps111
   go_wp2
   go_ret
   exact ⟨rfl, hA.out, Goes.put _ _ _ _⟩
  ·have hw6 : IntKind.i64.wrap (s.fuse - 1) = s.fuse - 1 := by rw [IntKind.wrap_i64]; omega
   let s1 : St := { s with fuse := s.fuse - 1 }
   have ok1 : Ok s1 := ⟨h.ok.n, h.ok.held, h.ok.wait, ⟨by show -1 ≤ s.fuse - 1; omega, by show s.fuse - 1 ≤ _; omega⟩, h.ok.made, h.ok.reads, h.ok.claims⟩
   have h1' : DiskAt (w.setCell ⟨L.d, 6, none⟩ (.int .i64 (s.fuse - 1))) L s1 := h.put (s' := s1) 6 _ rfl rfl rfl rfl ok1
   have e1 : letV s = { s with fuse := s.fuse - 1, made := s.made + 1 } := by unfold letV; rw [if_neg h0, if_neg h1]
   have hA : Hid (DiskAt ((w.setCell ⟨L.d, 6, none⟩ (.int .i64 (s.fuse - 1))).setCell ⟨L.d, 8, none⟩ (.int .i64 (s.made + 1))) L (letV s)) := h1'.put (s' := letV s) 8 _ (by rw [e1]; rfl) (by rw [e1]) (by rw [e1]) (by rw [e1]) (letV_ok h.ok)
   have hG : Hid (Goes w ((w.setCell ⟨L.d, 6, none⟩ (.int .i64 (s.fuse - 1))).setCell ⟨L.d, 8, none⟩ (.int .i64 (s.made + 1))) L L) := (Goes.put _ _ _ _).trans (Goes.put _ _ _ _)
   clear h hr e1 h1' ok1
   clear s1
   go_enter Tryz.func111, Tryz.ntmps111
   go_wp2
   go_ret
   exact ⟨rfl, hA.out, hG.out⟩
def fuseV (s : St) (n : Int) : St := if s.stopped then s else { s with fuse := max n (-1) }
def claimV (s : St) : St := if s.stopped then s else { s with claims := s.claims + 1, claimed := true }
def claimN (s : St) : Int := if s.stopped then 0 else s.claims + 1
theorem claim_of (h : DiskAt w L s) (hr : Room s) : Calls Tryz.prog 71 #[.pointer (some ⟨L.d, 0, none⟩)] w fun e w' => e = .returned (.int .i64 (claimN s)) ∧ DiskAt w' L (claimV s) ∧ Goes w w' L L := by
 have c7 := h.c7
 have c10 := h.c10
 have c11 := h.c11
 have f10 := h.free 10
 have f11 := h.free 11
 have h0 := h.c0
 have hc := h.ok.claims
 have hc2 := hr.claims
 unfold claimV claimN
 cases hs : s.stopped
 ·rw [hs] at c7
  have hw : IntKind.i64.wrap (s.claims + 1) = s.claims + 1 := by rw [IntKind.wrap_i64]; omega
  let s1 : St := { s with claims := s.claims + 1 }
  have ok1 : Ok s1 := ⟨h.ok.n, h.ok.held, h.ok.wait, h.ok.fuse, h.ok.made, h.ok.reads, by show 0 ≤ s.claims + 1; omega⟩
  have h1 : DiskAt (w.setCell ⟨L.d, 10, none⟩ (.int .i64 (s.claims + 1))) L s1 := h.put (s' := s1) 10 _ rfl rfl rfl rfl ok1
  have hA : Hid (DiskAt ((w.setCell ⟨L.d, 10, none⟩ (.int .i64 (s.claims + 1))).setCell ⟨L.d, 11, none⟩ (.bool true)) L { s1 with claimed := true }) :=
   h1.put (s' := { s1 with claimed := true }) 11 _ rfl rfl rfl rfl ⟨ok1.n, ok1.held, ok1.wait, ok1.fuse, ok1.made, ok1.reads, ok1.claims⟩
  have hG : Hid (Goes w ((w.setCell ⟨L.d, 10, none⟩ (.int .i64 (s.claims + 1))).setCell ⟨L.d, 11, none⟩ (.bool true)) L L) := (Goes.put _ _ _ _).trans (Goes.put _ _ _ _)
  have e1 : ({ s1 with claimed := true } : St) = { s with claims := s.claims + 1, claimed := true } := rfl
  rw [e1] at hA
  clear h hr ok1 h1 e1
  clear s1
  rw [hs] at hA
  simp only [Bool.false_eq_true, if_false]
  go_enter Tryz.func71, Tryz.ntmps71
  go_wp2_with (first | (go_at_call 65; refine (none_no h0).mono ?_; rintro e W ⟨rfl, rfl⟩))
  go_ret
  exact ⟨rfl, hA.out, hG.out⟩
 ·rw [hs] at c7
  have hA : Hid (DiskAt w L s) := h
  clear h
  simp only [if_true]
  go_enter Tryz.func71, Tryz.ntmps71
  go_wp2_with (first | (go_at_call 65; refine (none_no h0).mono ?_; rintro e W ⟨rfl, rfl⟩))
  go_ret
  exact ⟨rfl, hA.out, Goes.refl _ _⟩
end Go.Proofs.YtichojdcoegboaaGreatW
namespace Go.Proofs.YtichojdcoegboaaGreatW
open Go.RowKit
variable {w : World} {L : Loc} {s : St}
def bndB (n : Int) : Bool := decide (1 ≤ n ∧ n ≤ 1048576)
theorem bounded_any (n : Int) (w : World) : Calls Tryz.prog 68 #[.int .i64 n] w fun e w' => e = .returned (.bool (bndB n)) ∧ w' = w := by
 by_cases h1 : 1 ≤ n
 ·by_cases h2 : n ≤ 1048576
  ·have e : bndB n = true := by unfold bndB; simp [h1, h2]
   rw [e]
   go_enter Tryz.func68, Tryz.ntmps68
   go_wp2
   go_ret
   exact ⟨rfl, rfl⟩
  ·have e : bndB n = false := by unfold bndB; simp [h2]
   rw [e]
   go_enter Tryz.func68, Tryz.ntmps68
   go_wp2
   go_ret
   exact ⟨rfl, rfl⟩
 ·have e : bndB n = false := by unfold bndB; simp [h1]
  rw [e]
  go_enter Tryz.func68, Tryz.ntmps68
  go_wp2
  go_ret
  exact ⟨rfl, rfl⟩
def newV (n : Int) : St := ⟨n, fun _ => none, [], [], -1, false, 0, 0, 0, false⟩
theorem newV_ok {n : Int} (h : bndB n = true) : Ok (newV n) := by
 have h' : 1 ≤ n ∧ n ≤ 1048576 := by simpa [bndB] using h
 exact ⟨h', fun k f hk => by simp [newV] at hk, fun c hc => by simp [newV] at hc, ⟨by show (-1 : Int) ≤ -1; omega, by show (-1 : Int) ≤ _; omega⟩, by show (0 : Int) ≤ 0; omega, by show (0 : Int) ≤ 0; omega, by show (0 : Int) ≤ 0; omega⟩
def Loc.from (L : Loc) (b : Nat) : Prop := ∀ k, L.has k → b ≤ k
def newL (w : World) : Loc := ⟨w.heap.size + 2, w.heap.size, w.heap.size + 1, .slice none 0 0⟩
theorem newL_from (w : World) : (newL w).from w.heap.size := by
 intro k hk
 rcases hk with h | h | h | h
 ·have : k = w.heap.size + 2 := h
  omega
 ·have : k = w.heap.size := h
  omega
 ·have : k = w.heap.size + 1 := h
  omega
 ·simp [newL, Value.ownBlock] at h
theorem new_at {n : Int} (h : bndB n = true) (w : World) :
  DiskAt (((w.alloc (.map #[] 0)).alloc (.map #[] 0)).alloc (.cells (dkRow (newL w) (newV n)) 95)) (newL w) (newV n) := by
 have s1 : (w.alloc (.map #[] 0)).heap.size = w.heap.size + 1 := by simp
 have s2 : ((w.alloc (.map #[] 0)).alloc (.map #[] 0)).heap.size = w.heap.size + 2 := by simp
 have m1 : MapIs Tryz.prog 3 (w.alloc (.map #[] 0)) w.heap.size (fun _ => none) := MapIs.made w
 have m2 : MapIs Tryz.prog 3 ((w.alloc (.map #[] 0)).alloc (.map #[] 0)) (w.heap.size + 1) (fun _ => none) := by
  have := MapIs.made (P := Tryz.prog) (k := 3) (w.alloc (.map #[] 0))
  rwa [s1] at this
 refine ⟨?_, ?_, ?_, ?_, ?_, newV_ok h⟩
 ·have := heap_alloc_new ((w.alloc (.map #[] 0)).alloc (.map #[] 0)) (.cells (dkRow (newL w) (newV n)) 95)
  rw [s2] at this
  exact this
 ·refine m1.kept ?_
  have b1 : Below (w.heap.size + 1) (w.alloc (.map #[] 0)) (((w.alloc (.map #[] 0)).alloc (.map #[] 0)).alloc (.cells (dkRow (newL w) (newV n)) 95)) :=
   ((Below.refl _ _).alloc (by omega) _).alloc (by omega) _
  exact b1.block _ (by show w.heap.size < _; omega)
 ·have e : lateV (newV n) = fun _ => none := by funext k; simp [lateV, newV, lastAt]
  rw [e]
  refine m2.kept ?_
  have b1 : Below (w.heap.size + 2) ((w.alloc (.map #[] 0)).alloc (.map #[] 0)) (((w.alloc (.map #[] 0)).alloc (.map #[] 0)).alloc (.cells (dkRow (newL w) (newV n)) 95)) :=
   ((Below.refl _ _).alloc (by omega) _)
  exact b1.block _ (by show w.heap.size + 1 < _; omega)
 ·exact World.ownsRow_nil _ 0 98 1026
 ·show w.heap.size ≠ w.heap.size + 1
  omega
theorem new_ok {n : Int} (h : bndB n = true) (w : World) :
  Calls Tryz.prog 16 #[.int .i64 n] w fun e w' => ∃ L : Loc, e = .returned (.tuple #[.pointer (some ⟨L.d, 0, none⟩), .int .i64 0]) ∧ DiskAt w' L (newV n) ∧ L.from w.heap.size ∧ Below w.heap.size w w' := by
 have hA : Hid (DiskAt (((w.alloc (.map #[] 0)).alloc (.map #[] 0)).alloc (.cells (dkRow (newL w) (newV n)) 95)) (newL w) (newV n)) := new_at h w
 have hmm := @run_makeMap Tryz.prog
 go_enter Tryz.func16, Tryz.ntmps16
 go_wp2_with (first | (go_at_call 68; refine (bounded_any n w).mono ?_; rw [h]; rintro e W ⟨rfl, rfl⟩))
 go_ret2
 refine ⟨newL _, rfl, hA.out, newL_from _, ?_⟩
 exact (((Below.refl _ _).alloc (Nat.le_refl _) _).alloc (by simp) _).alloc (by simp; omega) _
end Go.Proofs.YtichojdcoegboaaGreatW
namespace Go.Proofs.YtichojdcoegboaaGreatW
open Go.RowKit
theorem Fr.below' {T : Nat → Prop} {B : Nat} {a b : World} (h : Fr T a b) (hT : ∀ k, T k → k < a.heap.size → B ≤ k) (hB : B ≤ a.heap.size) : Below B a b :=
 ⟨h.os, h.tape, h.output, h.size, fun i hi => h.block i (by omega) fun q => by have := hT i q (by omega); omega⟩
structure Part where
 own : Nat → Prop
 say : World → Prop
def Part.Good (p : Part) : Prop := ∀ W W' : World, p.say W → (∀ k, p.own k → k < W.heap.size) → (∀ k, p.own k → W'.heap[k]? = W.heap[k]?) → p.say W'
structure Sep (w W : World) (l : List Part) : Prop where
 good : ∀ p ∈ l, p.Good
 say : ∀ p ∈ l, p.say W
 lt : ∀ p ∈ l, ∀ k, p.own k → w.heap.size ≤ k ∧ k < W.heap.size
 apart : l.Pairwise fun p q => ∀ k, p.own k → ¬ q.own k
 below : Below w.heap.size w W
variable {w W W' : World} {p p' q : Part} {l : List Part}
theorem Sep.head (h : Sep w W (p :: l)) : p.say W := h.say p (by simp)
theorem Sep.headLt (h : Sep w W (p :: l)) {k : Nat} (hk : p.own k) : w.heap.size ≤ k ∧ k < W.heap.size := h.lt p (by simp) k hk
theorem Sep.turn (h : Sep w W (p :: l)) {T : Nat → Prop} (hF : Fr T W W') (hT : ∀ k, k < W.heap.size → T k → p.own k) (hg : p'.Good) (hs : p'.say W') (ho : ∀ k, p'.own k → (p.own k ∨ W.heap.size ≤ k) ∧ k < W'.heap.size) : Sep w W' (p' :: l) := by
 obtain ⟨ha, hl⟩ := List.pairwise_cons.1 h.apart
 refine ⟨fun q hq => ?_, fun q hq => ?_, fun q hq k hk => ?_, List.pairwise_cons.2 ⟨fun q hq k hk hk2 => ?_, hl⟩, ?_⟩
 ·rcases List.mem_cons.1 hq with rfl | hq
  ·exact hg
  ·exact h.good q (List.mem_cons_of_mem _ hq)
 ·rcases List.mem_cons.1 hq with rfl | hq
  ·exact hs
  ·have hm : q ∈ p :: l := List.mem_cons_of_mem _ hq
   exact h.good q hm W W' (h.say q hm) (fun k hk => (h.lt q hm k hk).2) fun k hk => hF.block k (h.lt q hm k hk).2 fun hp => ha q hq k (hT k (h.lt q hm k hk).2 hp) hk
 ·rcases List.mem_cons.1 hq with rfl | hq
  ·refine ⟨?_, (ho k hk).2⟩
   rcases (ho k hk).1 with r | r
   ·exact (h.lt p (by simp) k r).1
   ·have := h.below.size; omega
  ·have := h.lt q (List.mem_cons_of_mem _ hq) k hk
   exact ⟨this.1, Nat.lt_of_lt_of_le this.2 hF.size⟩
 ·rcases (ho k hk).1 with r | r
  ·exact ha q hq k r hk2
  ·have := (h.lt q (List.mem_cons_of_mem _ hq) k hk2).2
   omega
 ·exact h.below.trans (hF.below' (fun k hk hlt => (h.lt p (by simp) k (hT k hlt hk)).1) h.below.size)
theorem Sep.later (h : Sep w W l) (hb : Below W.heap.size W W') : Sep w W' l :=
 ⟨h.good, fun q hq => h.good q hq W W' (h.say q hq) (fun k hk => (h.lt q hq k hk).2) fun k hk => hb.block k (h.lt q hq k hk).2, fun q hq k hk => ⟨(h.lt q hq k hk).1, Nat.lt_of_lt_of_le (h.lt q hq k hk).2 hb.size⟩, h.apart, h.below.trans (hb.mono h.below.size)⟩
theorem Sep.add (h : Sep w W l) (hb : Below W.heap.size W W') (hg : p.Good) (hs : p.say W') (ho : ∀ k, p.own k → W.heap.size ≤ k ∧ k < W'.heap.size) : Sep w W' (p :: l) := by
 have h2 := h.later hb
 refine ⟨fun q hq => ?_, fun q hq => ?_, fun q hq k hk => ?_, List.pairwise_cons.2 ⟨fun q hq k hk hk2 => ?_, h2.apart⟩, h2.below⟩
 ·rcases List.mem_cons.1 hq with rfl | hq
  ·exact hg
  ·exact h2.good q hq
 ·rcases List.mem_cons.1 hq with rfl | hq
  ·exact hs
  ·exact h2.say q hq
 ·rcases List.mem_cons.1 hq with rfl | hq
  ·have := h.below.size
   have := ho k hk
   omega
  ·exact h2.lt q hq k hk
 ·have := (h.lt q hq k hk2).2
  have := (ho k hk).1
  omega
theorem Sep.perm {l' : List Part} (h : Sep w W l) (hp : l.Perm l') : Sep w W l' :=
 ⟨fun q hq => h.good q (hp.mem_iff.2 hq), fun q hq => h.say q (hp.mem_iff.2 hq), fun q hq => h.lt q (hp.mem_iff.2 hq), (hp.pairwise_iff fun h k hk hk2 => h k hk2 hk).1 h.apart, h.below⟩
theorem Sep.swap (h : Sep w W (p :: q :: l)) : Sep w W (q :: p :: l) := h.perm (List.Perm.swap _ _ _)
theorem Sep.third {r : Part} (h : Sep w W (p :: q :: r :: l)) : Sep w W (r :: p :: q :: l) := h.perm ((List.Perm.cons _ (List.Perm.swap _ _ _)).trans (List.Perm.swap _ _ _))
theorem Sep.back {r : Part} (h : Sep w W (r :: p :: q :: l)) : Sep w W (p :: q :: r :: l) := h.perm ((List.Perm.swap _ _ _).trans (List.Perm.cons _ (List.Perm.swap _ _ _)))
theorem Sep.drop (h : Sep w W (p :: l)) : Sep w W l :=
 ⟨fun q hq => h.good q (List.mem_cons_of_mem _ hq), fun q hq => h.say q (List.mem_cons_of_mem _ hq), fun q hq => h.lt q (List.mem_cons_of_mem _ hq), (List.pairwise_cons.1 h.apart).2, h.below⟩
theorem Sep.nil (hb : Below w.heap.size w W) : Sep w W [] := ⟨by simp, by simp, by simp, List.Pairwise.nil, hb⟩
def noPart : Part := ⟨fun _ => False, fun _ => True⟩
theorem noPart_good : noPart.Good := fun _ _ _ _ _ => trivial
end Go.Proofs.YtichojdcoegboaaGreatW
