/- Several texts joined, each with its own remark; no condition. -/
import Derived.OrdersHeld
import Derived.WalkKit
import Derived.Test.YtlcdpmjdnihocaaJ1
import Derived.Laws.CopyRow
import Derived.Shelf.Sort.Plain
import Derived.Test.YtlcdpmjdnihocaaProg
import Derived.Lib.SortBridge
import Derived.Maps.AppendAt
import Derived.Maps.OwnOps
import Derived.Maps.OwnSet
/- Regions whose order is drawn, walked in one order that is told: what only reads may come at any time, what acts comes where nothing else may; S holds all along. -/
namespace Go.Proofs.YtlcdpmjdnihocaaD
open Go.RowKit

section
variable {P : Program} {ops : Array Oper} {Q : Exit → Act → World → Prop} {S : World → Prop}

/-- May the operations be taken in this order? true: it is taken first; false: nothing else may come up. -/
def ordB (ops : Array Oper) : List (Nat × Bool) → Array Bool → Bool
  | [], listed => (Region.ready .any ops listed).isEmpty
  | (i, true) :: r, listed => (Region.ready .any ops listed).contains i && Region.free .any ops listed i && (ops[i]?).isSome && ordB ops r (listed.setIfInBounds i true)
  | (i, false) :: r, listed => (Region.ready .any ops listed == [i]) && (ops[i]?).isSome && ordB ops r (listed.setIfInBounds i true)

/-- The operations themselves, in that order. -/
def inOrd (ol : List Oper) : List (Nat × Bool) → List (Bool × Oper)
  | [] => []
  | (i, b) :: r => match ol[i]? with
    | some o => (b, o) :: inOrd ol r
    | none => inOrd ol r

def wpOrd (P : Program) (ops : Array Oper) (Q : Exit → Act → World → Prop) (S : World → Prop) : List (Bool × Oper) → Act → World → Prop
  | [], a, w => Q .normal a w
  | (true, o) :: r, a, w => ∃ v, YieldsIf P ops S o v a ∧ wpOrd P ops Q S r (a.put o.dst v) w
  | (false, o) :: r, a, w => if Region.wanted o (yielded ops a.tmps) then o.wp P a w (fun a' w' => S w' ∧ wpOrd P ops Q S r a' w') Q else S w ∧ wpOrd P ops Q S r (a.put o.dst undef) w

theorem wpOrd_any {ol : List Oper} (hs : Region.noSelect ol.toArray = true) (hQ : ∀ d v c a w, Q (.panic c) (a.put d v) w → Q (.panic c) a w) : ∀ (l : List (Nat × Bool)) (listed : Array Bool) (a : Act) (w : World), S w →
    ordB ol.toArray l listed = true → wpOrd P ol.toArray Q S (inOrd ol l) a w → wpAnyH P .any ol.toArray Q S l.length listed a w
  | [], listed, a, w, _, hB, h => wpAnyH_done (by simpa [ordB] using hB) h _
  | (i, true) :: r, listed, a, w, hS, hB, h => by
    simp only [ordB, Bool.and_eq_true] at hB
    obtain ⟨⟨⟨h1, h2⟩, h3⟩, h4⟩ := hB
    obtain ⟨o, hi⟩ := Option.isSome_iff_exists.1 h3
    have hi' : ol[i]? = some o := by simpa using hi
    simp only [inOrd, hi', wpOrd] at h
    obtain ⟨v, hy, hr⟩ := h
    exact wpAnyH_take hi hs h2 h1 (fun c a w => hQ _ _ c a w) hy hS (wpOrd_any hs hQ r _ _ w hS h4 hr)
  | (i, false) :: r, listed, a, w, hS, hB, h => by
    simp only [ordB, Bool.and_eq_true, beq_iff_eq] at hB
    obtain ⟨⟨h1, h3⟩, h2⟩ := hB
    obtain ⟨o, hi⟩ := Option.isSome_iff_exists.1 h3
    have hi' : ol[i]? = some o := by simpa using hi
    simp only [inOrd, hi', wpOrd] at h
    refine wpAnyH_all h1 (by simp) fun j hj => ?_
    obtain rfl : j = i := by simpa using hj
    unfold wpOp
    rw [hi]
    simp only
    split
    · rename_i hw
      rw [if_pos hw] at h
      exact .inl (Oper.wp_mono (fun a' w' h' => ⟨h'.1, wpOrd_any hs hQ r _ a' w' h'.1 h2 h'.2⟩) h)
    · rename_i hw
      rw [if_neg hw] at h
      exact ⟨h.1, wpOrd_any hs hQ r _ _ w h.1 h2 h.2⟩

/-- A region that draws its order, walked in the order l. -/
theorem wp_region_ord {id : Nat} {a : Act} {w : World} {ol : List Oper} (l : List (Nat × Bool)) (hm : P.follows .mixedOrders = true) (hl : l.length = ol.length)
    (hB : (Region.noSelect ol.toArray && ordB ol.toArray l (Array.replicate ol.toArray.size false)) = true) (hQ : ∀ d v c a w, Q (.panic c) (a.put d v) w → Q (.panic c) a w)
    (hS : S w.drew) (h : wpOrd P ol.toArray Q S (inOrd ol l) a w.drew) : (Code.region id ol.toArray true).wp P Q a w := by
  simp only [Bool.and_eq_true] at hB
  have h1 := wpOrd_any hB.1 hQ l _ a w.drew hS hB.2 h
  rw [hl] at h1
  exact wp_region_held hm (by simpa using h1)

theorem wpOrd_nil {a : Act} {w : World} (h : Q .normal a w) : wpOrd P ops Q S [] a w := h
theorem wpOrd_skip {r : List (Bool × Oper)} {b : Bool} {a : Act} {w : World} {o : Oper} (hS : S w) (hw : Region.wanted o (yielded ops a.tmps) = false) (h : wpOrd P ops Q S r (a.put o.dst undef) w) :
    wpOrd P ops Q S ((b, o) :: r) a w := by
  cases b
  · simp only [wpOrd, hw, Bool.false_eq_true, if_false]
    exact ⟨hS, h⟩
  · exact ⟨undef, .inr ⟨hw, rfl⟩, h⟩
theorem wpOrd_yield {r : List (Bool × Oper)} {a : Act} {w : World} {o : Oper} {v : Value} (hw : Region.wanted o (yielded ops a.tmps) = true)
    (hr : ∀ u, S u → (execOp a.eval o).run P u = .ok (.value v) u) (h : wpOrd P ops Q S r (a.put o.dst v) w) : wpOrd P ops Q S ((true, o) :: r) a w :=
  ⟨v, .inl ⟨hw, hr⟩, h⟩
theorem wpOrd_move {r : List (Bool × Oper)} {a : Act} {w : World} {o : Oper} (hw : Region.wanted o (yielded ops a.tmps) = true) (x : Operand) (ho : o.op = .move x)
    (h : wpOrd P ops Q S r (a.put o.dst (a.eval x)) w) : wpOrd P ops Q S ((true, o) :: r) a w :=
  wpOrd_yield hw (fun u _ => by simp [execOp, ho]) h
theorem wpOrd_call {r : List (Bool × Oper)} {a : Act} {w : World} {o : Oper} (hw : Region.wanted o (yielded ops a.tmps) = true) (f : FuncId) (xs : List Operand) (ts : Array TypeId)
    (ho : o.op = .call { callee := .value (.func f), args := xs.toArray, argTypes := ts }) (hc : ∀ args u, (callFunc f args).run P u = .ok (.enter f args) u) (args : List Value) (hx : xs.map a.eval = args)
    (h : Calls P f args.toArray w fun e w' => ∃ v, e = .returned v ∧ S w' ∧ wpOrd P ops Q S r (a.put o.dst v) w') : wpOrd P ops Q S ((false, o) :: r) a w := by
  simp only [wpOrd, hw, if_true]
  unfold Oper.wp execOp
  have e : (do let d ← resolve a.eval { callee := .value (.func f), args := xs.toArray, argTypes := ts } o.type; invoke d.target d.args : Sem Next).run P w = .ok (.enter f args.toArray) w := by
    have hx' : xs.toArray.map a.eval = args.toArray := by rw [← hx]; simp
    simp only [resolve, hx']
    simp [Act.eval, Deferred.ofValue, invoke, hc]
  simp only [ho]
  rw [e]
  unfold Oper.upon
  exact h.mono fun e w' ⟨v, he, h1, h2⟩ => by subst he; exact ⟨h1, h2⟩
end
end Go.Proofs.YtlcdpmjdnihocaaD
/- Regions whose order is drawn, where two operations may come up in either order: both orders are walked. -/
namespace Go.Proofs.YtlcdpmjdnihocaaD
open Go.RowKit

section
variable {P : Program} {ops : Array Oper} {Q : Exit → Act → World → Prop} {S : World → Prop}

/-- First the operations of a list that only read, then i and j in either order, then l. -/
def forkB (ops : Array Oper) (i j : Nat) (l : List (Nat × Bool)) : List Nat → Array Bool → Bool
  | [], listed => (Region.ready .any ops listed == [i, j]) && (ops[i]?).isSome && (ops[j]?).isSome && ordB ops ((j, false) :: l) (listed.setIfInBounds i true) && ordB ops ((i, false) :: l) (listed.setIfInBounds j true)
  | k :: r, listed => (Region.ready .any ops listed).contains k && Region.free .any ops listed k && (ops[k]?).isSome && forkB ops i j l r (listed.setIfInBounds k true)

/-- One operation that acts, and what follows. -/
def wpAct (P : Program) (ops : Array Oper) (Q : Exit → Act → World → Prop) (S : World → Prop) (o : Oper) (K : Act → World → Prop) (a : Act) (w : World) : Prop :=
  if Region.wanted o (yielded ops a.tmps) then o.wp P a w (fun a' w' => S w' ∧ K a' w') Q else S w ∧ K (a.put o.dst undef) w

theorem wpOp_act {i : Nat} {o : Oper} (hi : ops[i]? = some o) {K K' : Act → World → Prop} (hK : ∀ a w, S w → K a w → K' a w) {a : Act} {w : World} (h : wpAct P ops Q S o K a w) : wpOp P ops Q i (fun a' w' => S w' ∧ K' a' w') a w := by
  unfold wpOp
  rw [hi]
  simp only
  unfold wpAct at h
  split
  · rename_i hw
    rw [if_pos hw] at h
    exact .inl (Oper.wp_mono (fun a' w' h' => ⟨h'.1, hK a' w' h'.1 h'.2⟩) h)
  · rename_i hw
    rw [if_neg hw] at h
    exact ⟨h.1, hK _ w h.1 h.2⟩

def wpFork (P : Program) (ops : Array Oper) (Q : Exit → Act → World → Prop) (S : World → Prop) (ol : List Oper) (i j : Nat) (l : List (Nat × Bool)) : List Nat → Act → World → Prop
  | [], a, w => (∀ o, ol[i]? = some o → wpAct P ops Q S o (wpOrd P ops Q S (inOrd ol ((j, false) :: l))) a w) ∧ (∀ o, ol[j]? = some o → wpAct P ops Q S o (wpOrd P ops Q S (inOrd ol ((i, false) :: l))) a w)
  | k :: r, a, w => ∀ o, ol[k]? = some o → ∃ v, YieldsIf P ops S o v a ∧ wpFork P ops Q S ol i j l r (a.put o.dst v) w

theorem wpFork_any {ol : List Oper} (hs : Region.noSelect ol.toArray = true) (hQ : ∀ d v c a w, Q (.panic c) (a.put d v) w → Q (.panic c) a w) (i j : Nat) (l : List (Nat × Bool)) : ∀ (r : List Nat) (listed : Array Bool) (a : Act) (w : World), S w →
    forkB ol.toArray i j l r listed = true → wpFork P ol.toArray Q S ol i j l r a w → wpAnyH P .any ol.toArray Q S (r.length + (l.length + 2)) listed a w
  | [], listed, a, w, hS, hB, h => by
    simp only [forkB, Bool.and_eq_true, beq_iff_eq] at hB
    obtain ⟨⟨⟨⟨h1, h2⟩, h3⟩, h4⟩, h5⟩ := hB
    obtain ⟨oi, hoi⟩ := Option.isSome_iff_exists.1 h2
    obtain ⟨oj, hoj⟩ := Option.isSome_iff_exists.1 h3
    have hoi' : ol[i]? = some oi := by simpa using hoi
    have hoj' : ol[j]? = some oj := by simpa using hoj
    rw [show ([] : List Nat).length + (l.length + 2) = (l.length + 1) + 1 by simp]
    refine wpAnyH_all h1 (by simp) fun k hk => ?_
    simp only [List.mem_cons, List.not_mem_nil, or_false] at hk
    rcases hk with rfl | rfl
    · exact wpOp_act hoi (fun a' w' hS' hK => wpOrd_any hs hQ ((j, false) :: l) _ a' w' hS' h4 hK) (h.1 oi hoi')
    · exact wpOp_act hoj (fun a' w' hS' hK => wpOrd_any hs hQ ((i, false) :: l) _ a' w' hS' h5 hK) (h.2 oj hoj')
  | k :: r, listed, a, w, hS, hB, h => by
    simp only [forkB, Bool.and_eq_true] at hB
    obtain ⟨⟨⟨h1, h2⟩, h3⟩, h4⟩ := hB
    obtain ⟨o, hi⟩ := Option.isSome_iff_exists.1 h3
    have hi' : ol[k]? = some o := by simpa using hi
    obtain ⟨v, hy, hr⟩ := h o hi'
    rw [show (k :: r).length + (l.length + 2) = r.length + (l.length + 2) + 1 by simp; omega]
    exact wpAnyH_take hi hs h2 h1 (fun c a w => hQ _ _ c a w) hy hS (wpFork_any hs hQ i j l r _ _ w hS h4 hr)

/-- A region that draws its order, walked so. -/
theorem wp_region_fork {id : Nat} {a : Act} {w : World} {ol : List Oper} (r : List Nat) (i j : Nat) (l : List (Nat × Bool)) (hm : P.follows .mixedOrders = true) (hl : r.length + (l.length + 2) = ol.length)
    (hB : (Region.noSelect ol.toArray && forkB ol.toArray i j l r (Array.replicate ol.toArray.size false)) = true) (hQ : ∀ d v c a w, Q (.panic c) (a.put d v) w → Q (.panic c) a w)
    (hS : S w.drew) (h : wpFork P ol.toArray Q S ol i j l r a w.drew) : (Code.region id ol.toArray true).wp P Q a w := by
  simp only [Bool.and_eq_true] at hB
  have h1 := wpFork_any hB.1 hQ i j l r _ a w.drew hS hB.2 h
  rw [hl] at h1
  exact wp_region_held hm (by simpa using h1)

theorem wpFork_yield {ol : List Oper} {i j : Nat} {l : List (Nat × Bool)} {k : Nat} {r : List Nat} {a : Act} {w : World} {o : Oper} {v : Value} (ho : ol[k]? = some o) (hw : Region.wanted o (yielded ops a.tmps) = true)
    (hr : ∀ u, S u → (execOp a.eval o).run P u = .ok (.value v) u) (h : wpFork P ops Q S ol i j l r (a.put o.dst v) w) : wpFork P ops Q S ol i j l (k :: r) a w := by
  intro o' ho'
  obtain rfl : o = o' := by rw [ho] at ho'; exact Option.some.inj ho'
  exact ⟨v, .inl ⟨hw, hr⟩, h⟩
theorem wpFork_nil {ol : List Oper} {i j : Nat} {l : List (Nat × Bool)} {a : Act} {w : World} {oi oj : Oper} (hi : ol[i]? = some oi) (hj : ol[j]? = some oj)
    (h1 : wpOrd P ops Q S (inOrd ol ((i, false) :: (j, false) :: l)) a w) (h2 : wpOrd P ops Q S (inOrd ol ((j, false) :: (i, false) :: l)) a w) : wpFork P ops Q S ol i j l [] a w := by
  refine ⟨fun o ho => ?_, fun o ho => ?_⟩
  · obtain rfl : oi = o := by rw [hi] at ho; exact Option.some.inj ho
    simp only [inOrd, hi, hj, wpOrd] at h1 ⊢
    exact h1
  · obtain rfl : oj = o := by rw [hj] at ho; exact Option.some.inj ho
    simp only [inOrd, hi, hj, wpOrd] at h2 ⊢
    exact h2
end
end Go.Proofs.YtlcdpmjdnihocaaD
/- Write: a block is pending behind all that is, or the error; for every disk, number and block. -/
namespace Go.Proofs.YtlcdpmjdnihocaaD
open Go.RowKit
variable {w : World} {L : Loc} {s : St}

section
variable {P : Program} {ops : Array Oper} {Q : Exit → Act → World → Prop} {S : World → Prop} {r : List (Bool × Oper)} {a : Act} {w w' : World} {o : Oper} {v : Value}
theorem wpOrd_run (hw : Region.wanted o (yielded ops a.tmps) = true) (hr : (execOp a.eval o).run P w = .ok (.value v) w') (hS : S w') (h : wpOrd P ops Q S r (a.put o.dst v) w') : wpOrd P ops Q S ((false, o) :: r) a w := by
  simp only [wpOrd, hw, if_true]
  unfold Oper.wp
  rw [hr]
  exact ⟨hS, h⟩
theorem wpOrd_do (hw : Region.wanted o (yielded ops a.tmps) = true) (hr : (execOp a.eval o).run P w = .ok .skip w') (hS : S w') (h : wpOrd P ops Q S r (a.put o.dst undef) w') : wpOrd P ops Q S ((false, o) :: r) a w := by
  simp only [wpOrd, hw, if_true]
  unfold Oper.wp
  rw [hr]
  exact ⟨hS, h⟩
end
def writeS (s : St) (k : Int) (f : Nat → Int) : St := { letV s with wait := s.wait ++ [(k, f)] }
theorem letV_wait (s : St) : (letV s).wait = s.wait := by unfold letV; split <;> rfl
theorem letV_done (s : St) : (letV s).done = s.done := by unfold letV; split <;> rfl
theorem letV_held (s : St) : (letV s).held = s.held := by unfold letV; split <;> rfl
theorem letV_n (s : St) : (letV s).n = s.n := by unfold letV; split <;> rfl
theorem letV_ops (s : St) : (letV s).ops = s.ops := by unfold St.ops; rw [letV_wait, letV_done]
theorem writeS_ok (h : Ok s) {k : Int} (hk : 0 ≤ k ∧ k < s.n) {f : Nat → Int} (hf : Can f) : Ok (writeS s k f) := by
  have h1 := letV_ok h
  refine ⟨h1.n, h1.held, fun c hc => ?_, h1.fuse, h1.made, h1.reads, h1.claims⟩
  have hc' : c ∈ s.wait ∨ c = (k, f) := by simpa [writeS] using hc
  show (0 ≤ c.1 ∧ c.1 < (letV s).n) ∧ Can c.2
  rw [letV_n]
  rcases hc' with h2 | rfl
  · exact h.wait c h2
  · exact ⟨hk, hf⟩
theorem writeS_ops (s : St) (k : Int) (f : Nat → Int) : (writeS s k f).ops = s.ops ++ [⟨1, k, f⟩] := by
  show (letV s).done ++ (s.wait ++ [(k, f)]).map wrec = _
  rw [letV_done]
  unfold St.ops
  simp [wrec]
theorem writeS_late (s : St) (k : Int) (f : Nat → Int) : lateV (writeS s k f) = fun y => if y = k then some (.int .i64 ((s.ops.length : Nat) : Int)) else lateV (letV s) y := by
  funext y
  show (lastAt (s.wait ++ [(k, f)]) y).map (fun i => Value.int .i64 (((letV s).done.length + i : Nat) : Int)) = _
  rw [lastAt_snoc, letV_done, ops_len]
  by_cases e : y = k
  · rw [if_pos e, if_pos (by exact e.symm)]
    rfl
  · rw [if_neg e, if_neg (fun q => e q.symm)]
    unfold lateV
    rw [letV_done, letV_wait]

set_option maxRecDepth 20000 in
theorem write_bad (h : DiskAt w L s) {k : Int} (hb : refV s k ≠ 0) (f : Nat → Int) :
    Calls Try.prog 39 #[.pointer (some ⟨L.d, 0, none⟩), .int .i64 k, .agg (blk f)] w fun e w' => e = .returned (.int .i64 (refV s k)) ∧ Below w.heap.size w w' := by
  have hR := refuses_of (h.later (below_new w (.cells (blk f) 46))) k
  have hne : (refV s k != 0) = true := by simp [hb]
  clear h hb
  generalize refV s k = r at *
  go_enter Try.func39, Try.ntmps39
  go_wp2_with (first | (go_at_call 35; refine hR.mono ?_; rintro e W ⟨rfl, rfl⟩))
  go_ret
  exact ⟨rfl, below_new _ _⟩
set_option maxRecDepth 20000 in
theorem write_dead (h : DiskAt w L s) (hr : Room s) {k : Int} (hb : refV s k = 0) (hl : lets s = false) (f : Nat → Int) :
    Calls Try.prog 39 #[.pointer (some ⟨L.d, 0, none⟩), .int .i64 k, .agg (blk f)] w fun e w' => e = .returned (.int .i64 3) ∧ DiskAt w' L (letV s) ∧ Goes w w' L L := by
  have D1 := h.later (below_new w (.cells (blk f) 46))
  have hR := refuses_of D1 k
  rw [hb] at hR
  have hT := letThrough_of D1 hr
  rw [hl] at hT
  have HG : Hid (Goes w (w.alloc (.cells (blk f) 46)) L L) := Goes.ofBelow L (below_new _ _)
  clear h hb D1
  go_enter Try.func39, Try.ntmps39
  go_wp2_with (first | (go_at_call 35; refine hR.mono ?_; rintro e W ⟨rfl, rfl⟩) | (go_at_call 43; fail))
  refine hT.mono ?_
  rintro e W ⟨rfl, hD, hG⟩
  have HD : Hid (DiskAt W L (letV s)) := hD
  have HG2 : Hid (Goes _ W L L) := hG
  clear hD hG
  go_wp2
  go_ret
  exact ⟨rfl, HD.out, HG.out.trans HG2.out⟩
set_option maxRecDepth 20000 in
set_option maxHeartbeats 2000000 in
theorem write_ok (h : DiskAt w L s) (hr : Room s) {k : Int} (hb : refV s k = 0) (hl : lets s = true) {f : Nat → Int} (hf : Can f) :
    Calls Try.prog 39 #[.pointer (some ⟨L.d, 0, none⟩), .int .i64 k, .agg (blk f)] w fun e w' => e = .returned (.int .i64 0) ∧ ∃ L', DiskAt w' L' (writeS s k f) ∧ Goes w w' L L' := by
  have D1 := h.later (below_new w (.cells (blk f) 46))
  have hR := refuses_of D1 k
  rw [hb] at hR
  have hT := letThrough_of D1 hr
  rw [hl] at hT
  obtain ⟨_, hk⟩ := refV_ok hb
  have hin := inTop_of h.ok hk
  have hok := writeS_ok h.ok hk hf
  have HG : Hid (Goes w (w.alloc (.cells (blk f) 46)) L L) := Goes.ofBelow L (below_new _ _)
  have hL : ∀ i, L.has i → i < w.heap.size := h.lt
  have hro := hr.ops
  have hB0 := heap_alloc_new w (.cells (blk f) 46)
  have hsz : w.heap.size < (w.alloc (.cells (blk f) 46)).heap.size := by simp
  clear h hb D1 hr
  go_enter Try.func39, Try.ntmps39
  go_wp2_with (first | (go_at_call 35; refine hR.mono ?_; rintro e W ⟨rfl, rfl⟩) | (go_at_call 43; fail))
  refine hT.mono ?_
  rintro e W ⟨rfl, hD, hG⟩
  have hB : W.heap[w.heap.size]? = some (.cells (blk f) 46) := (hG.fr.block w.heap.size hsz fun q => by have := hL _ q; omega).trans hB0
  have HG2 : Hid (Goes w W L L) := HG.out.trans hG
  clear hG HG hR hT hsz hB0
  generalize hg0 : w.heap.size = g0 at *
  obtain ⟨p, c, h1, h2, h3, h4⟩ := hD.shape
  rw [letV_ops] at h1 h2
  have c3 := hD.c3
  have c5 := hD.c5
  rw [h1] at c3
  have hLate := hD.late
  have HR : Hid (RawAt W L (dkRow L (letV s)) (heldV (letV s)) (lateV (letV s)) (letV s).ops) := hD.raw
  clear hD h4
  go_wp2
  go_still_tail 10, (by kernel_rfl)
  change wpList _ _ _ _ _ (World.drew _)
  refine wpList_putM rfl (.tmp 20) (.tmp 21) (.tmp 26) 65 rfl 3 Try.underlying3 keyed3 Try.underlying65 L.lb _ rfl (hLate.kept (w' := W.drew) rfl) k hin rfl (.int .i64 ((s.ops.length : Nat) : Int)) rfl ?_
  intro W3 hm3 hg3
  have hF3 : Fr (fun i => i = L.lb) W W3 := (Fr.drew W).trans ((Fr.ofGrown hg3).mono fun i _ q => by injection q with q; exact q.symm) fun _ _ q => q
  rw [← writeS_late s k f] at hm3
  have hR3 := HR.out.lateTo hm3 hF3
  have hB3 : W3.heap[g0]? = some (.cells (blk f) 46) := (hF3.block g0 (Array.getElem?_eq_some_iff.1 hB).1 fun q => by have := hL L.lb (.inr (.inr (.inl rfl))); omega).trans hB
  have hG3 : Goes w W3 L L := HG2.out.trans (Goes.of rfl (fun _ q => .inl q) hF3 fun i _ q => .inr (.inr (.inl q)))
  clear HR HG2 hm3 hg3 hF3 hLate c3 c5 hB
  have hR4 : RawAt W3.drew L (dkRow L (letV s)) (heldV (letV s)) (lateV (writeS s k f)) (letV s).ops := hR3.fr (Fr.drew (T := fun _ => False) W3) fun _ _ q => q
  have hG4 : Goes w W3.drew L L := hG3.trans ⟨rfl, fun _ q => .inl q, Fr.drew W3⟩
  have hB4 : W3.drew.heap[g0]? = some (.cells (blk f) 46) := hB3
  clear hR3 hG3 hB3
  go_wp2
  refine wp_region_fork (S := fun u => u.heap[g0]? = some (.cells (blk f) 46)) [0, 1, 2, 3, 5, 6, 7] 4 8 [(9, false), (10, true), (11, true), (12, false)] (by kernel_rfl) rfl (by kernel_rfl) (fun d _ _ _ _ h => by cases d <;> exact h) hB4 ?_
  simp only [Act.put]
  generalize W3.drew = V at *
  have hlt : g0 < V.heap.size := (Array.getElem?_eq_some_iff.1 hB4).1
  have c3 : V.cell? ⟨L.d, 3, none⟩ = some L.hv := Joins.cell_of_block hR4.row 3
  rw [h1] at c3
  refine wpFork_yield (v := .pointer (some ⟨L.d, 0, none⟩)) rfl rfl (fun u _ => by simp [execOp, Act.eval]) ?_
  simp only [Act.put, List.setIfInBounds_toArray, List.set_cons_succ, List.set_cons_zero]
  refine wpFork_yield (v := .pointer (some ⟨L.d, 0, none⟩)) rfl rfl (fun u _ => by simp [execOp, Act.eval]) ?_
  simp only [Act.put, List.setIfInBounds_toArray, List.set_cons_succ, List.set_cons_zero]
  refine wpFork_yield (v := .pointer (some ⟨L.d, 0, none⟩)) rfl rfl (fun u _ => by go_simp) ?_
  simp only [Act.put, List.setIfInBounds_toArray, List.set_cons_succ, List.set_cons_zero]
  refine wpFork_yield (v := .pointer (some ⟨L.d, 3, none⟩)) rfl rfl (fun u _ => by go_simp) ?_
  simp only [Act.put, List.setIfInBounds_toArray, List.set_cons_succ, List.set_cons_zero]
  refine wpFork_yield (v := .int .i64 k) rfl rfl (fun u _ => by simp [execOp, Act.eval]) ?_
  simp only [Act.put, List.setIfInBounds_toArray, List.set_cons_succ, List.set_cons_zero]
  refine wpFork_yield (v := .agg (blk f)) rfl rfl (fun u hu => by
    unfold execOp
    simp only [Act.eval]
    have e := loadM (BlkAt.of hu)
    change Sem.run Try.prog (Instr.loadAt 46 (.pointer (some ⟨g0, 0, none⟩)) >>= fun v => pure (Next.value v)) u = _
    simp only [Sem.run_bind, e, Result.andThen_ok, Sem.run_pure]) ?_
  simp only [Act.put, List.setIfInBounds_toArray, List.set_cons_succ, List.set_cons_zero]
  refine wpFork_yield (v := .agg (recCells ⟨1, k, f⟩).toArray) rfl rfl (fun u hu => by
    have e := build108 1 k f u
    simp [execOp, Act.eval, e]) ?_
  simp only [Act.put, List.setIfInBounds_toArray, List.set_cons_succ, List.set_cons_zero]
  have hro' : (letV s).ops.length < 68719476736 := by rw [letV_ops]; exact hro
  obtain ⟨v', W5, hrun, ho5, hF5, hw5⟩ := push_run (W := V) (v := L.hv) ⟨1, k, f⟩ 64 hR4.hist hro'
  obtain ⟨g5, cap5, rfl⟩ : ∃ g5 cap5, v' = Value.slice (some ⟨g5, 0, none⟩) (s.ops ++ [(⟨1, k, f⟩ : Rec)]).length cap5 := by
    rw [letV_ops] at ho5
    rcases ho5.2 with ⟨_, h⟩ | ⟨g, cap', _, h, _⟩
    · simp at h
    · exact ⟨g, cap', h⟩
  have hR5 := hR4.histTo ho5 hF5
  have hD6 : Hid (DiskAt (W5.setCell ⟨L.d, 3, none⟩ (Value.slice (some ⟨g5, 0, none⟩) (s.ops ++ [(⟨1, k, f⟩ : Rec)]).length cap5)) ⟨L.d, L.hb, L.lb, Value.slice (some ⟨g5, 0, none⟩) (s.ops ++ [(⟨1, k, f⟩ : Rec)]).length cap5⟩ (writeS s k f)) := by
    refine RawAt.disk ?_ hok
    have h6 := hR5.cell 3 (Value.slice (some ⟨g5, 0, none⟩) (s.ops ++ [(⟨1, k, f⟩ : Rec)]).length cap5)
    rw [letV_ops] at h6
    rw [writeS_ops]
    exact h6
  have hG6 : Hid (Goes w (W5.setCell ⟨L.d, 3, none⟩ (Value.slice (some ⟨g5, 0, none⟩) (s.ops ++ [(⟨1, k, f⟩ : Rec)]).length cap5)) L ⟨L.d, L.hb, L.lb, Value.slice (some ⟨g5, 0, none⟩) (s.ops ++ [(⟨1, k, f⟩ : Rec)]).length cap5⟩) := by
    refine hG4.trans (Goes.of (T := fun i => L.hv.ownBlock = some i ∨ i = L.d) rfl (fun i hi => ?_) ((hF5.mono fun i _ q => .inl q).trans ((Fr.setCell W5 L.d 3 _).mono fun i _ q => .inr q) fun i _ q => q) fun i _ q => ?_)
    · rcases hi with q | q | q | q
      · exact .inl (.inl q)
      · exact .inl (.inr (.inl q))
      · exact .inl (.inr (.inr (.inl q)))
      · rcases hw5 i q with q | q
        · exact .inl (.inr (.inr (.inr q)))
        · exact .inr q
    · rcases q with q | q
      · exact .inr (.inr (.inr q))
      · exact .inl q
  have S1 := heap_kept hB4 (below_new V (.cells (recCells ⟨1, k, f⟩).toArray 71))
  have S5 : W5.heap[g0]? = some (.cells (blk f) 46) := (hF5.block g0 hlt fun q => by have := hL g0 (.inr (.inr (.inr q))); omega).trans hB4
  have S6 : (W5.setCell ⟨L.d, 3, none⟩ (Value.slice (some ⟨g5, 0, none⟩) (s.ops ++ [(⟨1, k, f⟩ : Rec)]).length cap5)).heap[g0]? = some (.cells (blk f) 46) :=
    (Below.heap_setCell _ _ _ _ (by show g0 ≠ L.d; have := hL L.d (.inl rfl); omega)).trans S5
  have k3 : W5.cell? ⟨L.d, 3, none⟩ = some L.hv := Joins.cell_of_block hR5.row 3
  have f3 : W5.frozen? ⟨L.d, 3, none⟩ = false := Joins.unfrozen_of_block hR5.row 3
  have hdl : L.d < V.heap.size := hR4.lt L.d (.inl rfl)
  have c3' : (V.alloc (.cells (recCells ⟨1, k, f⟩).toArray 71)).cell? ⟨L.d, 3, none⟩ = some (.slice p s.ops.length c) := by rw [World.cell?_alloc_past _ _ _ hdl]; exact c3
  have hbs := build67 ⟨1, k, f⟩ V
  rw [h1] at hrun k3
  clear hR5 hR4 hF5 hw5 ho5 hG4 hok hro'
  generalize hrl : (s.ops ++ [(⟨1, k, f⟩ : Rec)]).length = m5 at *
  generalize hrc : (recCells ⟨1, k, f⟩).toArray = RC at *
  refine wpFork_nil rfl rfl ?_ ?_
  · simp only [inOrd, List.getElem?_cons_zero, List.getElem?_cons_succ]
    refine wpOrd_run (v := .slice p s.ops.length c) (w' := V) rfl (by go_simp) hB4 ?_
    simp only [Act.put, List.setIfInBounds_toArray, List.set_cons_succ, List.set_cons_zero]
    refine wpOrd_run (v := .slice (some ⟨V.heap.size, 0, none⟩) 1 1) (w' := V.alloc (.cells RC 71)) rfl (by simp [execOp, Act.eval, hbs]) S1 ?_
    simp only [Act.put, List.setIfInBounds_toArray, List.set_cons_succ, List.set_cons_zero]
    refine wpOrd_run (v := .slice (some ⟨g5, 0, none⟩) m5 cap5) (w' := W5) rfl (by simp [execOp, Act.eval, resolve, invoke, builtin, hrun, Result.andThen]) S5 ?_
    simp only [Act.put, List.setIfInBounds_toArray, List.set_cons_succ, List.set_cons_zero]
    refine wpOrd_yield (v := .pointer (some ⟨L.d, 0, none⟩)) rfl (fun u _ => by go_simp) ?_
    simp only [Act.put, List.setIfInBounds_toArray, List.set_cons_succ, List.set_cons_zero]
    refine wpOrd_yield (v := .pointer (some ⟨L.d, 3, none⟩)) rfl (fun u _ => by go_simp) ?_
    simp only [Act.put, List.setIfInBounds_toArray, List.set_cons_succ, List.set_cons_zero]
    refine wpOrd_do (w' := W5.setCell ⟨L.d, 3, none⟩ (.slice (some ⟨g5, 0, none⟩) m5 cap5)) rfl (by go_simp) S6 ?_
    refine wpOrd_nil ?_
    simp only [Act.put]
    generalize W5.setCell ⟨L.d, 3, none⟩ (.slice (some ⟨g5, 0, none⟩) m5 cap5) = Y at *
    clear hrun S1 S5 S6 k3 f3 c3' hbs c3
    go_wp2
    go_ret
    exact ⟨rfl, _, hD6.out, hG6.out⟩
  · simp only [inOrd, List.getElem?_cons_zero, List.getElem?_cons_succ]
    refine wpOrd_run (v := .slice (some ⟨V.heap.size, 0, none⟩) 1 1) (w' := V.alloc (.cells RC 71)) rfl (by simp [execOp, Act.eval, hbs]) S1 ?_
    simp only [Act.put, List.setIfInBounds_toArray, List.set_cons_succ, List.set_cons_zero]
    refine wpOrd_run (v := .slice p s.ops.length c) (w' := V.alloc (.cells RC 71)) rfl (by go_simp) S1 ?_
    simp only [Act.put, List.setIfInBounds_toArray, List.set_cons_succ, List.set_cons_zero]
    refine wpOrd_run (v := .slice (some ⟨g5, 0, none⟩) m5 cap5) (w' := W5) rfl (by simp [execOp, Act.eval, resolve, invoke, builtin, hrun, Result.andThen]) S5 ?_
    simp only [Act.put, List.setIfInBounds_toArray, List.set_cons_succ, List.set_cons_zero]
    refine wpOrd_yield (v := .pointer (some ⟨L.d, 0, none⟩)) rfl (fun u _ => by go_simp) ?_
    simp only [Act.put, List.setIfInBounds_toArray, List.set_cons_succ, List.set_cons_zero]
    refine wpOrd_yield (v := .pointer (some ⟨L.d, 3, none⟩)) rfl (fun u _ => by go_simp) ?_
    simp only [Act.put, List.setIfInBounds_toArray, List.set_cons_succ, List.set_cons_zero]
    refine wpOrd_do (w' := W5.setCell ⟨L.d, 3, none⟩ (.slice (some ⟨g5, 0, none⟩) m5 cap5)) rfl (by go_simp) S6 ?_
    refine wpOrd_nil ?_
    simp only [Act.put]
    generalize W5.setCell ⟨L.d, 3, none⟩ (.slice (some ⟨g5, 0, none⟩) m5 cap5) = Y at *
    clear hrun S1 S5 S6 k3 f3 c3' hbs c3
    go_wp2
    go_ret
    exact ⟨rfl, _, hD6.out, hG6.out⟩
end Go.Proofs.YtlcdpmjdnihocaaD
/- Barrier: all that is pending is held, in order, and nothing is pending any more, or the error; for every disk. -/
namespace Go.Proofs.YtlcdpmjdnihocaaD
open Go.RowKit
variable {w : World} {L : Loc} {s : St}

/-- Blocks are held one behind the other. -/
def holdAll (s : St) (l : List Cel) : St := l.foldl (fun s c => holdV s c.1 c.2) s
theorem holdAll_snoc (s : St) (l : List Cel) (c : Cel) : holdAll s (l ++ [c]) = holdV (holdAll s l) c.1 c.2 := by simp [holdAll]
theorem holdAll_same (l : List Cel) : ∀ s : St, ∃ h, holdAll s l = { s with held := h } := by
  induction l with
  | nil => exact fun s => ⟨s.held, rfl⟩
  | cons c t ih =>
    intro s
    obtain ⟨h, e⟩ := ih (holdV s c.1 c.2)
    exact ⟨h, by show holdAll (holdV s c.1 c.2) t = _; rw [e]; rfl⟩
theorem holdAll_wait (s : St) (l : List Cel) : (holdAll s l).wait = s.wait := by obtain ⟨h, e⟩ := holdAll_same l s; rw [e]
theorem holdAll_done (s : St) (l : List Cel) : (holdAll s l).done = s.done := by obtain ⟨h, e⟩ := holdAll_same l s; rw [e]
theorem holdAll_n (s : St) (l : List Cel) : (holdAll s l).n = s.n := by obtain ⟨h, e⟩ := holdAll_same l s; rw [e]
theorem holdAll_ops (s : St) (l : List Cel) : (holdAll s l).ops = s.ops := by unfold St.ops; rw [holdAll_wait, holdAll_done]
theorem take_snoc {l : List Cel} {k : Nat} {c : Cel} (h : l[k]? = some c) : l.take (k + 1) = l.take k ++ [c] := by
  rw [List.take_add_one, h]
  rfl
/-- Behind a barrier. -/
def barS (s : St) : St := { holdAll (letV s) s.wait with done := s.ops ++ [⟨2, 0, nought⟩], wait := [] }
theorem barS_ops (s : St) : (barS s).ops = s.ops ++ [⟨2, 0, nought⟩] := by
  show (s.ops ++ [⟨2, 0, nought⟩]) ++ List.map wrec [] = _
  simp
theorem barS_ok (h : Ok (holdAll (letV s) s.wait)) : Ok (barS s) := ⟨h.n, h.held, fun c hc => by simp [barS] at hc, h.fuse, h.made, h.reads, h.claims⟩
theorem Goes.hold {a b : World} {L : Loc} (h : Fr (fun i => i = L.hb) a b) : Goes a b L L := Goes.of rfl (fun _ q => .inl q) h fun _ _ q => .inr (.inl q)

theorem slice_of {w : World} {v : Value} {n : Nat} {xs : List Value} (h : w.ownsRow 0 71 1026 v n xs) (hn : 0 < n) : ∃ g cap, v = .slice (some ⟨g, 0, none⟩) n cap := by
  rcases h.2 with ⟨_, h⟩ | ⟨g, cap', _, h, _⟩
  · omega
  · exact ⟨g, cap', h⟩
theorem wpList_bar {ops : Array Oper} {rest : List Oper} {o : Oper} {a : Act} {w : World} {Q : Exit → Act → World → Prop} (hgd : o.guard = none) (ho : o.op = .build 71 #[(0, .const (.int .u8 2))])
    (h : wpList Try.prog ops Q rest (a.put o.dst (.agg (recCells ⟨2, 0, nought⟩).toArray)) w) : wpList Try.prog ops Q (o :: rest) a w :=
  wpList_plain hgd fun _ hK => by
    have e := build108b 2 w
    generalize (recCells ⟨2, 0, nought⟩).toArray = Z at *
    have e' : (execOp a.eval o).run Try.prog w = .ok (.value (.agg Z)) w := by simp [execOp, ho, Act.eval, e]
    unfold Oper.wp
    rw [e']
    exact hK _ _ h

set_option maxRecDepth 20000 in
theorem barrier_none {v : Value} (h : NoneAt w v) : Calls Try.prog 28 #[v] w fun e w' => e = .returned (.int .i64 1) ∧ w' = w := by
  go_enter Try.func28, Try.ntmps28
  go_wp2_with (first | (go_at_call 29; refine (none_yes h).mono ?_; rintro e W ⟨rfl, rfl⟩))
  go_ret
  exact ⟨rfl, rfl⟩
set_option maxRecDepth 20000 in
theorem barrier_stopped (h : DiskAt w L s) (hs : s.stopped = true) : Calls Try.prog 28 #[.pointer (some ⟨L.d, 0, none⟩)] w fun e w' => e = .returned (.int .i64 3) ∧ w' = w := by
  have c7 := h.c7
  have h0 := h.c0
  rw [hs] at c7
  clear h
  go_enter Try.func28, Try.ntmps28
  go_wp2_with (first | (go_at_call 29; refine (none_no h0).mono ?_; rintro e W ⟨rfl, rfl⟩))
  go_ret
  exact ⟨rfl, rfl⟩
set_option maxRecDepth 20000 in
theorem barrier_dead (h : DiskAt w L s) (hr : Room s) (hs : s.stopped = false) (hl : lets s = false) : Calls Try.prog 28 #[.pointer (some ⟨L.d, 0, none⟩)] w fun e w' => e = .returned (.int .i64 3) ∧ DiskAt w' L (letV s) ∧ Goes w w' L L := by
  have c7 := h.c7
  have h0 := h.c0
  rw [hs] at c7
  have hT := letThrough_of h hr
  rw [hl] at hT
  clear h
  go_enter Try.func28, Try.ntmps28
  go_wp2_with (first | (go_at_call 29; refine (none_no h0).mono ?_; rintro e W ⟨rfl, rfl⟩) | (go_at_call 43; fail))
  refine hT.mono ?_
  rintro e W ⟨rfl, hD, hG⟩
  have HD : Hid (DiskAt W L (letV s)) := hD
  have HG2 : Hid (Goes _ W L L) := hG
  clear hD hG
  go_wp2
  go_ret
  exact ⟨rfl, HD.out, HG2.out⟩
set_option maxRecDepth 20000 in
set_option maxHeartbeats 2000000 in
theorem barrier_ok (h : DiskAt w L s) (hr : Room s) (hs : s.stopped = false) (hl : lets s = true) :
    Calls Try.prog 28 #[.pointer (some ⟨L.d, 0, none⟩)] w fun e w' => e = .returned (.int .i64 0) ∧ ∃ L', DiskAt w' L' (barS s) ∧ Goes w w' L L' := by
  have c7 := h.c7
  have h0 := h.c0
  rw [hs] at c7
  have hT := letThrough_of h hr
  rw [hl] at hT
  have hro := hr.ops
  clear h
  go_enter Try.func28, Try.ntmps28
  go_wp2_with (first | (go_at_call 29; refine (none_no h0).mono ?_; rintro e W ⟨rfl, he⟩; obtain rfl := he.symm) | (go_at_call 43; fail))
  refine hT.mono ?_
  rintro e W ⟨rfl, hD, hG⟩
  have hP := pending_of hD
  obtain ⟨p, cp, hp1, hp2, hp3⟩ := hD.pend
  rw [hp1, letV_wait] at hP
  rw [letV_wait] at hp2 hp3
  rw [letV_done] at hp3
  have HD : Hid (DiskAt W.drew L (letV s)) := hD.fr (Fr.drew (T := fun _ => False) W) fun _ _ q => q
  have HG2 : Hid (Goes w W.drew L L) := hG.trans ⟨rfl, fun _ q => .inl q, Fr.drew W⟩
  clear hD hG hT hp1 c7
  have HP : Hid (0 < s.wait.length → ∃ g, L.hv.ownBlock = some g ∧ p = some ⟨g, s.done.length * 1026, none⟩) := hp3
  clear hp3
  have hwl : s.wait.length < 68719476736 := by have := ops_len s; omega
  go_wp2_with (go_at_call 30; refine hP.mono ?_; rintro e W1 ⟨rfl, rfl⟩)
  clear hP
  generalize W.drew = V at *
  generalize hm : s.wait.length = m at *
  go_loopw [20] (fun s20 wx => ∃ k : Nat, k ≤ m ∧ s20 = .int .i64 k ∧ Hid (DiskAt wx L (holdAll (letV s) (s.wait.take k))) ∧ Hid (Goes w wx L L)) (fun s20 _ => m - (intOf s20).toNat)
  case atStart => exact ⟨0, by omega, rfl, HD.out, HG2.out⟩
  case round =>
    obtain ⟨k, hk, rfl, HDk, HGk⟩ := hrel
    by_cases hk2 : (k : Int) < m
    · have hkl : k < s.wait.length := by omega
      obtain ⟨g, hg, rfl⟩ := HP.out (by omega)
      have hc : s.wait[k]? = some s.wait[k] := List.getElem?_eq_getElem hkl
      generalize s.wait[k] = c at hc
      have hop : (holdAll (letV s) (s.wait.take k)).ops[s.done.length + k]? = some (wrec c) := by rw [holdAll_ops, letV_ops]; exact ops_wait s hc
      have HDd : DiskAt wr.drew L (holdAll (letV s) (s.wait.take k)) := HDk.out.fr (Fr.drew (T := fun _ => False) wr) fun _ _ q => q
      have hpos := HDk.out.histPos hg hop
      have hblk := HDd.histBlk hg hop
      have hcw := HDd.ok.wait c (by rw [holdAll_wait, letV_wait]; exact List.mem_of_getElem? hc)
      rw [holdAll_n] at hcw
      have HH := hold_of HDd (by rw [holdAll_n]; exact hcw.1) hcw.2 hblk
      rw [← holdAll_snoc, ← take_snoc hc] at HH
      have e1 : (s.done.length + k) * 1026 = s.done.length * 1026 + k * 1026 := Nat.add_mul _ _ _
      rw [e1] at hpos HH
      have hpos' : wr.cell? ⟨g, s.done.length * 1026 + k * 1026 + 1, none⟩ = some (.int .i64 c.1) := hpos
      have HH2 : Hid (Calls Try.prog 22 #[.pointer (some ⟨L.d, 0, none⟩), .int .i64 c.1, .pointer (some ⟨g, s.done.length * 1026 + k * 1026 + 2, none⟩)] wr.drew fun e w' => e = .returned (.tuple #[]) ∧ DiskAt w' L (holdAll (letV s) (s.wait.take (k + 1))) ∧ Goes w w' L L) :=
        Calls.mono HH fun e w' ⟨h1, h2, h3⟩ => ⟨h1, h2, (HGk.out.trans ⟨rfl, fun _ q => .inl q, Fr.drew wr⟩).trans (Goes.hold h3)⟩
      generalize s.done.length * 1026 = D at *
      clear HH hpos hblk hop hc e1 HDk hcw HDd HGk
      go_wp2
      go_still_tail 10, (by kernel_rfl)
      change wpList _ _ _ _ _ (World.drew _)
      go_wp2_with (go_at_call 22; fail)
      refine HH2.out.mono ?_
      rintro e W2 ⟨rfl, hD2, hG2⟩
      have HD2 : Hid (DiskAt W2 L (holdAll (letV s) (s.wait.take (k + 1)))) := hD2
      have HG3 : Hid (Goes w W2 L L) := hG2
      clear hD2 hG2 HH2
      go_wp2
      exact ⟨⟨k + 1, by omega, by go_num, HD2.out, HG3.out⟩, by simp [intOf]; omega⟩
    · obtain rfl : k = m := by omega
      have hD := HDk.out
      rw [← hm, List.take_length] at hD
      have hG := HGk.out
      clear HDk HGk HP
      have hRaw := hD.raw
      rw [holdAll_ops, letV_ops] at hRaw
      have c3 := hD.c3
      obtain ⟨p', c', h1, h2, h3, h4⟩ := hD.shape
      rw [holdAll_ops, letV_ops] at h1
      rw [h1] at c3
      have hbl := fun u => build67 ⟨2, 0, nought⟩ u
      have hh := hRaw.hist
      rw [h1] at hh
      have hl0 : 0 < (s.ops ++ [(⟨2, 0, nought⟩ : Rec)]).length := by simp
      go_wp2_with (first | refine wpList_bar rfl rfl ?_ | refine wpList_build1 rfl 64 71 (.tmp 40) rfl _ rfl (hbl _) ?_ | (at_builtin; refine wpList_pushR rfl (.tmp 39) (.tmp 41) rfl (.slice p' s.ops.length c') s.ops ⟨2, 0, nought⟩ rfl rfl hh hro ?_; intro v' W5 ho5 hF5 hw5; obtain ⟨g5, cap5, rfl⟩ := slice_of ho5 hl0; rw [← h1] at hF5 hw5; have hR5 := hRaw.histTo ho5 hF5; have k3 : W5.cell? ⟨L.d, 3, none⟩ = some L.hv := Joins.cell_of_block hR5.row 3; rw [h1] at k3; have f3 : W5.frozen? ⟨L.d, 3, none⟩ = false := Joins.unfrozen_of_block hR5.row 3) | (go_at_call 31; fail))
      have hn1 : (s.ops ++ [(⟨2, 0, nought⟩ : Rec)]).length = s.ops.length + 1 := by simp
      have hR5' : RawAt W5 ⟨L.d, L.hb, L.lb, .slice (some ⟨g5, 0, none⟩) (s.ops.length + 1) cap5⟩ (dkRow L (holdAll (letV s) s.wait)) (heldV (holdAll (letV s) s.wait)) (lateV (holdAll (letV s) s.wait)) (s.ops ++ [⟨2, 0, nought⟩]) := hn1 ▸ hR5
      have hw5' : ∀ k, (Value.slice (some ⟨g5, 0, none⟩) (s.ops.length + 1) cap5).ownBlock = some k → L.hv.ownBlock = some k ∨ wr.heap.size ≤ k := hw5
      have hR6 := hR5'.cell 3 (.slice (some ⟨g5, 0, none⟩) (s.ops.length + 1) cap5)
      have hok := barS_ok hD.ok
      clear hR5 hR5' hRaw hw5 ho5 hh hbl c3 k3 f3
      have hF6 : Fr (fun i => L.hv.ownBlock = some i ∨ i = L.d) wr (W5.setCell ⟨L.d, 3, none⟩ (.slice (some ⟨g5, 0, none⟩) (s.ops.length + 1) cap5)) :=
        (hF5.mono fun i _ q => .inl q).trans ((Fr.setCell W5 L.d 3 _).mono fun i _ q => .inr q) fun i _ q => q
      generalize W5.setCell ⟨L.d, 3, none⟩ (.slice (some ⟨g5, 0, none⟩) (s.ops.length + 1) cap5) = W6 at *
      refine (nothing_of (d := L.d) (n := (holdAll (letV s) s.wait).n) (hb := L.hb) (p := some ⟨g5, 0, none⟩) (m := s.ops.length + 1) (c := cap5) (bh := ((holdAll (letV s) s.wait).done.length : Int)) (lb := L.lb) (fu := (holdAll (letV s) s.wait).fuse) (st := (holdAll (letV s) s.wait).stopped) (ma := (holdAll (letV s) s.wait).made) (re := (holdAll (letV s) s.wait).reads) (cl := (holdAll (letV s) s.wait).claims) (cd := (holdAll (letV s) s.wait).claimed) hR6.row).mono ?_
      rintro e W7 ⟨rfl, hrow7, hM7, hF7⟩
      have hlb : L.hb < W6.heap.size := hR6.held.lt
      have hR7 := (hR6.rowTo hrow7 hF7).lateNew (b := W6.heap.size) (by show L.hb ≠ _; omega) hM7
      have hD7 : Hid (DiskAt W7 ⟨L.d, L.hb, W6.heap.size, .slice (some ⟨g5, 0, none⟩) (s.ops.length + 1) cap5⟩ (barS s)) := by
        refine RawAt.disk ?_ hok
        rw [barS_ops]
        have e1 : lateV (barS s) = fun _ => none := by funext y; rfl
        have e2 : dkRow ⟨L.d, L.hb, W6.heap.size, .slice (some ⟨g5, 0, none⟩) (s.ops.length + 1) cap5⟩ (barS s) = row12 L.d (holdAll (letV s) s.wait).n L.hb (.slice (some ⟨g5, 0, none⟩) (s.ops.length + 1) cap5) ((s.ops.length + 1 : Nat) : Int) W6.heap.size (holdAll (letV s) s.wait).fuse (holdAll (letV s) s.wait).stopped (holdAll (letV s) s.wait).made (holdAll (letV s) s.wait).reads (holdAll (letV s) s.wait).claims (holdAll (letV s) s.wait).claimed := by
          rw [← hn1]
          rfl
        rw [e1, e2]
        exact hR7
      have hG7 : Hid (Goes w W7 L ⟨L.d, L.hb, W6.heap.size, .slice (some ⟨g5, 0, none⟩) (s.ops.length + 1) cap5⟩) := by
        refine hG.trans (Goes.of (T := fun i => L.hv.ownBlock = some i ∨ i = L.d) rfl (fun i hi => ?_) (hF6.trans (hF7.mono fun i _ q => .inr q) fun i _ q => q) fun i _ q => ?_)
        · rcases hi with q | q | q | q
          · exact .inl (.inl q)
          · exact .inl (.inr (.inl q))
          · have q' : i = W6.heap.size := q
            have := hF6.size
            exact .inr (by omega)
          · rcases hw5' i q with q | q
            · exact .inl (.inr (.inr (.inr q)))
            · exact .inr q
        · rcases q with q | q
          · exact .inr (.inr (.inr q))
          · exact .inl q
      clear hR7 hrow7 hM7 hF7 hR6 hF6 hF5 hD hG hw5' hok hn1
      go_wp2
      go_ret
      exact ⟨rfl, _, hD7.out, hG7.out⟩
end Go.Proofs.YtlcdpmjdnihocaaD
/- Crash: of what is pending that is held which is kept, in order; nothing is pending then, there is no fuse, nobody's claim; for every disk and every choice. -/
namespace Go.Proofs.YtlcdpmjdnihocaaD
open Go.RowKit
variable {w : World} {L : Loc} {s : St}

/-- v is a list of bools in memory. -/
def BoolsAt (w : World) (v : Value) (l : List Bool) : Prop := ∃ p c, v = .slice p l.length c ∧ (0 < l.length → ∃ b off, p = some ⟨b, off, none⟩ ∧ ∀ i x, l[i]? = some x → w.cell? ⟨b, off + i, none⟩ = some (.bool x))
theorem BoolsAt.kept {w w' : World} {v : Value} {l : List Bool} {T : Nat → Prop} (h : BoolsAt w v l) (hf : Fr T w w') (hT : ∀ b x off, w.cell? ⟨b, off, none⟩ = some (.bool x) → ¬ T b) : BoolsAt w' v l := by
  obtain ⟨p, c, h1, h2⟩ := h
  refine ⟨p, c, h1, fun hl => ?_⟩
  obtain ⟨b, off, h3, h4⟩ := h2 hl
  refine ⟨b, off, h3, fun i x hx => ?_⟩
  have h5 := h4 i x hx
  have hlt : b < w.heap.size := by
    by_cases q : b < w.heap.size
    · exact q
    · unfold World.cell? at h5
      simp only [Array.getElem?_eq_none (show w.heap.size ≤ b by omega)] at h5
      simp at h5
  rw [← h5]
  exact World.cell?_of_block (hf.block b hlt (hT b x _ h5))
/-- Those that are kept. -/
def keptL : List Cel → List Bool → List Cel
  | c :: t, true :: k => c :: keptL t k
  | _ :: t, false :: k => keptL t k
  | _, _ => []
theorem keptL_snoc (c : Cel) (b : Bool) : ∀ (l : List Cel) (k : List Bool), l.length = k.length → keptL (l ++ [c]) (k ++ [b]) = keptL l k ++ (if b then [c] else [])
  | [], [], _ => by cases b <;> rfl
  | x :: l, y :: k, h => by
    have ih := keptL_snoc c b l k (by simpa using h)
    cases y
    · exact ih
    · show x :: keptL (l ++ [c]) (k ++ [b]) = _
      rw [ih]; rfl
  | [], _ :: _, h => by simp at h
  | _ :: _, [], h => by simp at h
theorem keptL_take : ∀ (l : List Cel) (k : List Bool) (n : Nat), l.length ≤ n ∨ k.length ≤ n → keptL (l.take n) (k.take n) = keptL l k
  | [], k, n, _ => by simp [keptL]
  | x :: l, [], n, _ => by cases n <;> simp [keptL]
  | x :: l, y :: k, 0, h => by simp at h
  | x :: l, y :: k, n + 1, h => by
    have ih := keptL_take l k n (by simpa using h)
    cases y
    · exact ih
    · show x :: keptL (l.take n) (k.take n) = x :: keptL l k
      rw [ih]
/-- Behind the power's going. -/
def crashS (s : St) (k : List Bool) : St := { holdAll s (keptL s.wait k) with done := [], wait := [], fuse := -1, stopped := false, claimed := false }
theorem crashS_ok {k : List Bool} (h : Ok (holdAll s (keptL s.wait k))) : Ok (crashS s k) :=
  ⟨h.n, h.held, fun c hc => by simp [crashS] at hc, ⟨by show (-1 : Int) ≤ -1; omega, by show (-1 : Int) ≤ _; omega⟩, h.made, h.reads, h.claims⟩
set_option maxRecDepth 20000 in
theorem crash_none {v : Value} (h : NoneAt w v) (kv : Value) : Calls Try.prog 15 #[v, kv] w fun e w' => e = .returned (.int .i64 1) ∧ w' = w := by
  go_enter Try.func15, Try.ntmps15
  go_wp2_with (first | (go_at_call 29; refine (none_yes h).mono ?_; rintro e W ⟨rfl, rfl⟩))
  go_ret
  exact ⟨rfl, rfl⟩
theorem bool_no_map {w : World} {b hb off : Nat} {m : Int → Option Value} {x : Bool} (h : w.cell? ⟨b, off, none⟩ = some (.bool x)) (hm : MapIs Try.prog 3 w hb m) : b ≠ hb := fun e => by
  obtain ⟨es, ck, hh⟩ := hm.isMap
  rw [e] at h
  unfold World.cell? at h
  simp only [hh] at h
  simp at h
set_option maxRecDepth 20000 in
set_option maxHeartbeats 2000000 in
theorem crash_of (h : DiskAt w L s) {kv : Value} {kl : List Bool} (hkv : BoolsAt w kv kl) (hwl : s.wait.length < 68719476736) (hkl : kl.length < 9223372036854775807) :
    Calls Try.prog 15 #[.pointer (some ⟨L.d, 0, none⟩), kv] w fun e w' => e = .returned (.int .i64 0) ∧ ∃ L', DiskAt w' L' (crashS s kl) ∧ Goes w w' L L' := by
  have h0 := h.c0
  have hP := pending_of h
  obtain ⟨p, cp, hp1, hp2, hp3⟩ := h.pend
  rw [hp1] at hP
  obtain ⟨q, cq, rfl, hq⟩ := hkv
  have HD : Hid (DiskAt w.drew L s) := h.fr (Fr.drew (T := fun _ => False) w) fun _ _ q => q
  have HG2 : Hid (Goes w w.drew L L) := ⟨rfl, fun _ q => .inl q, Fr.drew w⟩
  have HP : Hid (0 < s.wait.length → ∃ g, L.hv.ownBlock = some g ∧ p = some ⟨g, s.done.length * 1026, none⟩) := hp3
  have HK : Hid (0 < kl.length → ∃ b off, q = some ⟨b, off, none⟩ ∧ ∀ i x, kl[i]? = some x → w.cell? ⟨b, off + i, none⟩ = some (.bool x)) := hq
  have hM := h.held
  clear h hp1 hp3 hq
  generalize hm : s.wait.length = m at *
  generalize hn : kl.length = n at *
  rcases Nat.lt_or_ge n m with hmn | hmn
  · have hmn' : (n : Int) < m := by omega
    go_enter Try.func15, Try.ntmps15
    go_wp2_with (first | (go_at_call 29; refine (none_no h0).mono ?_; rintro e W ⟨rfl, he⟩; obtain rfl := he.symm) | (go_at_call 30; refine hP.mono ?_; rintro e W1 ⟨rfl, rfl⟩))
    clear hP
    generalize hV : w.drew = V at *
    go_loopw [16] (fun s16 wx => ∃ k : Nat, k ≤ n ∧ s16 = .int .i64 k ∧ Hid (DiskAt wx L (holdAll s (keptL (s.wait.take k) (kl.take k)))) ∧ Hid (Goes w wx L L) ∧ Hid (Fr (fun i => i = L.hb) w wx)) (fun s16 _ => n - (intOf s16).toNat)
    case atStart => exact ⟨0, by omega, rfl, HD.out, HG2.out, by rw [← hV]; exact Fr.drew w⟩
    case round =>
      obtain ⟨k, hk, rfl, HDk, HGk, HFk⟩ := hrel
      by_cases hk2 : (k : Int) < n
      · have hkw : k < s.wait.length := by omega
        have hkk : k < kl.length := by omega
        have hkm : (k : Int) < (m : Int) := by omega
        have hkn : (k : Int) < (n : Int) := by omega
        obtain ⟨g, hg, rfl⟩ := HP.out (by omega)
        obtain ⟨b, off, rfl, hcell⟩ := HK.out (by omega)
        have hc : s.wait[k]? = some s.wait[k] := List.getElem?_eq_getElem hkw
        have hx : kl[k]? = some kl[k] := List.getElem?_eq_getElem hkk
        generalize s.wait[k] = c at hc
        generalize kl[k] = x at hx
        have hcx := hcell k x hx
        have hbl : b ≠ L.hb := bool_no_map hcx hM
        have hblt : b < w.heap.size := by
          by_cases q : b < w.heap.size
          · exact q
          · unfold World.cell? at hcx
            simp only [Array.getElem?_eq_none (show w.heap.size ≤ b by omega)] at hcx
            simp at hcx
        have hcx' : wr.cell? ⟨b, off + k, none⟩ = some (.bool x) := (World.cell?_of_block (HFk.out.block b hblt hbl)).trans hcx
        have hks := keptL_snoc c x (s.wait.take k) (kl.take k) (by rw [List.length_take, List.length_take]; omega)
        rw [← take_snoc hc, ← show kl.take (k + 1) = kl.take k ++ [x] by rw [List.take_add_one, hx]; rfl] at hks
        have hop : (holdAll s (keptL (s.wait.take k) (kl.take k))).ops[s.done.length + k]? = some (wrec c) := by rw [holdAll_ops]; exact ops_wait s hc
        have HDd : DiskAt wr.drew L (holdAll s (keptL (s.wait.take k) (kl.take k))) := HDk.out.fr (Fr.drew (T := fun _ => False) wr) fun _ _ q => q
        have hpos := HDk.out.histPos hg hop
        have hblk := HDd.histBlk hg hop
        have hcw := HDd.ok.wait c (by rw [holdAll_wait]; exact List.mem_of_getElem? hc)
        rw [holdAll_n] at hcw
        have HH := hold_of HDd (by rw [holdAll_n]; exact hcw.1) hcw.2 hblk
        have e1 : (s.done.length + k) * 1026 = s.done.length * 1026 + k * 1026 := Nat.add_mul _ _ _
        rw [e1] at hpos HH
        have hpos' : wr.cell? ⟨g, s.done.length * 1026 + k * 1026 + 1, none⟩ = some (.int .i64 c.1) := hpos
        cases x
        · rw [if_neg (by simp), List.append_nil] at hks
          have HD2 : Hid (DiskAt wr L (holdAll s (keptL (s.wait.take (k + 1)) (kl.take (k + 1))))) := hks ▸ HDk.out
          clear HH hpos hblk hop hc hx e1 HDk hcw HDd hks hcx hcell
          go_wp2
          exact ⟨⟨k + 1, by omega, by go_num, HD2.out, HGk.out, HFk.out⟩, by simp [intOf]; omega⟩
        · rw [if_pos rfl] at hks
          rw [← holdAll_snoc, ← hks] at HH
          have HH2 : Hid (Calls Try.prog 22 #[.pointer (some ⟨L.d, 0, none⟩), .int .i64 c.1, .pointer (some ⟨g, s.done.length * 1026 + k * 1026 + 2, none⟩)] wr.drew fun e w' => e = .returned (.tuple #[]) ∧ DiskAt w' L (holdAll s (keptL (s.wait.take (k + 1)) (kl.take (k + 1)))) ∧ Goes w w' L L ∧ Fr (fun i => i = L.hb) w w') :=
            Calls.mono HH fun e w' ⟨h1, h2, h3⟩ => ⟨h1, h2, (HGk.out.trans ⟨rfl, fun _ q => .inl q, Fr.drew wr⟩).trans (Goes.hold h3), (HFk.out.trans (Fr.drew wr) fun _ _ q => q).trans h3 fun _ _ q => q⟩
          generalize s.done.length * 1026 = D at *
          clear HH hpos hblk hop hc hx e1 HDk hcw HDd HGk hks hcx hcell HFk
          go_wp2
          go_still_tail 10, (by kernel_rfl)
          change wpList _ _ _ _ _ (World.drew _)
          go_wp2_with (go_at_call 22; fail)
          refine HH2.out.mono ?_
          rintro e W2 ⟨rfl, hD2, hG2, hF2⟩
          have HD2 : Hid (DiskAt W2 L (holdAll s (keptL (s.wait.take (k + 1)) (kl.take (k + 1))))) := hD2
          have HG3 : Hid (Goes w W2 L L) := hG2
          have HF3 : Hid (Fr (fun i => i = L.hb) w W2) := hF2
          clear hD2 hG2 HH2 hF2
          go_wp2
          exact ⟨⟨k + 1, by omega, by go_num, HD2.out, HG3.out, HF3.out⟩, by simp [intOf]; omega⟩
      · obtain rfl : k = n := by omega
        have hD := HDk.out
        rw [keptL_take _ _ _ (by omega)] at hD
        have hG := HGk.out
        clear HDk HGk HP HK HFk
        have hok := crashS_ok (k := kl) hD.ok
        have k3 := hD.c3
        have f3 := hD.free 3
        obtain ⟨p', c', h1, _⟩ := hD.shape
        rw [h1] at k3
        have hR6 : RawAt (wr.setCell ⟨L.d, 3, none⟩ (.slice none 0 0)) ⟨L.d, L.hb, L.lb, .slice none 0 0⟩ ((dkRow L (holdAll s (keptL s.wait kl))).setIfInBounds 3 (.slice none 0 0)) (heldV (holdAll s (keptL s.wait kl))) (lateV (holdAll s (keptL s.wait kl))) [] := by
          have hr := hD.raw.cell 3 (.slice none 0 0)
          exact ⟨hr.row, hr.held, hr.late, World.ownsRow_nil _ 0 71 1026, hr.ne⟩
        have hF6 : Fr (fun i => i = L.d) wr (wr.setCell ⟨L.d, 3, none⟩ (.slice none 0 0)) := Fr.setCell wr L.d 3 _
        clear hD
        go_wp2_with (go_at_call 31; fail)
        generalize wr.setCell ⟨L.d, 3, none⟩ (.slice none 0 0) = W6 at *
        refine (nothing_of (d := L.d) (n := (holdAll s (keptL s.wait kl)).n) (hb := L.hb) (p := none) (m := 0) (c := 0) (bh := ((holdAll s (keptL s.wait kl)).done.length : Int)) (lb := L.lb) (fu := (holdAll s (keptL s.wait kl)).fuse) (st := (holdAll s (keptL s.wait kl)).stopped) (ma := (holdAll s (keptL s.wait kl)).made) (re := (holdAll s (keptL s.wait kl)).reads) (cl := (holdAll s (keptL s.wait kl)).claims) (cd := (holdAll s (keptL s.wait kl)).claimed) hR6.row).mono ?_
        rintro e W7 ⟨rfl, hrow7, hM7, hF7⟩
        have hlb : L.hb < W6.heap.size := hR6.held.lt
        have hR7 := (hR6.rowTo hrow7 hF7).lateNew (b := W6.heap.size) (by show L.hb ≠ _; omega) hM7
        have c6 : W7.cell? ⟨L.d, 6, none⟩ = some (.int .i64 (holdAll s (keptL s.wait kl)).fuse) := Joins.cell_of_block hrow7 6
        have c7 : W7.cell? ⟨L.d, 7, none⟩ = some (.bool (holdAll s (keptL s.wait kl)).stopped) := Joins.cell_of_block hrow7 7
        have c11 : W7.cell? ⟨L.d, 11, none⟩ = some (.bool (holdAll s (keptL s.wait kl)).claimed) := Joins.cell_of_block hrow7 11
        have f6 : W7.frozen? ⟨L.d, 6, none⟩ = false := Joins.unfrozen_of_block hrow7 6
        have f7 : W7.frozen? ⟨L.d, 7, none⟩ = false := Joins.unfrozen_of_block hrow7 7
        have f11 : W7.frozen? ⟨L.d, 11, none⟩ = false := Joins.unfrozen_of_block hrow7 11
        have hD8 : Hid (DiskAt (((W7.setCell ⟨L.d, 6, none⟩ (.int .i64 (-1))).setCell ⟨L.d, 7, none⟩ (.bool false)).setCell ⟨L.d, 11, none⟩ (.bool false)) ⟨L.d, L.hb, W6.heap.size, .slice none 0 0⟩ (crashS s kl)) :=
          RawAt.disk (((hR7.cell 6 (.int .i64 (-1))).cell 7 (.bool false)).cell 11 (.bool false)) hok
        have hF8 : Fr (fun i => i = L.d) wr (((W7.setCell ⟨L.d, 6, none⟩ (.int .i64 (-1))).setCell ⟨L.d, 7, none⟩ (.bool false)).setCell ⟨L.d, 11, none⟩ (.bool false)) :=
          (hF6.trans hF7 fun _ _ q => q).trans (((Fr.setCell _ L.d 6 _).trans (Fr.setCell _ L.d 7 _) fun _ _ q => q).trans (Fr.setCell _ L.d 11 _) fun _ _ q => q) fun _ _ q => q
        have hG8 : Hid (Goes w (((W7.setCell ⟨L.d, 6, none⟩ (.int .i64 (-1))).setCell ⟨L.d, 7, none⟩ (.bool false)).setCell ⟨L.d, 11, none⟩ (.bool false)) L ⟨L.d, L.hb, W6.heap.size, .slice none 0 0⟩) := by
          refine hG.trans (Goes.of (T := fun i => i = L.d) rfl (fun i hi => ?_) hF8 fun i _ q => .inl q)
          rcases hi with q | q | q | q
          · exact .inl (.inl q)
          · exact .inl (.inr (.inl q))
          · have q' : i = W6.heap.size := q
            have := hF6.size
            exact .inr (by omega)
          · simp [Value.ownBlock] at q
        clear hR7 hrow7 hM7 hF7 hR6 hF6 hG hok hF8
        go_wp2
        go_ret
        exact ⟨rfl, _, hD8.out, hG8.out⟩
  · have hmn' : (m : Int) ≤ n := by omega
    go_enter Try.func15, Try.ntmps15
    go_wp2_with (first | (go_at_call 29; refine (none_no h0).mono ?_; rintro e W ⟨rfl, he⟩; obtain rfl := he.symm) | (go_at_call 30; refine hP.mono ?_; rintro e W1 ⟨rfl, rfl⟩))
    clear hP
    generalize hV : w.drew = V at *
    go_loopw [16] (fun s16 wx => ∃ k : Nat, k ≤ m ∧ s16 = .int .i64 k ∧ Hid (DiskAt wx L (holdAll s (keptL (s.wait.take k) (kl.take k)))) ∧ Hid (Goes w wx L L) ∧ Hid (Fr (fun i => i = L.hb) w wx)) (fun s16 _ => m - (intOf s16).toNat)
    case atStart => exact ⟨0, by omega, rfl, HD.out, HG2.out, by rw [← hV]; exact Fr.drew w⟩
    case round =>
      obtain ⟨k, hk, rfl, HDk, HGk, HFk⟩ := hrel
      by_cases hk2 : (k : Int) < m
      · have hkw : k < s.wait.length := by omega
        have hkk : k < kl.length := by omega
        have hkm : (k : Int) < (m : Int) := by omega
        have hkn : (k : Int) < (n : Int) := by omega
        obtain ⟨g, hg, rfl⟩ := HP.out (by omega)
        obtain ⟨b, off, rfl, hcell⟩ := HK.out (by omega)
        have hc : s.wait[k]? = some s.wait[k] := List.getElem?_eq_getElem hkw
        have hx : kl[k]? = some kl[k] := List.getElem?_eq_getElem hkk
        generalize s.wait[k] = c at hc
        generalize kl[k] = x at hx
        have hcx := hcell k x hx
        have hbl : b ≠ L.hb := bool_no_map hcx hM
        have hblt : b < w.heap.size := by
          by_cases q : b < w.heap.size
          · exact q
          · unfold World.cell? at hcx
            simp only [Array.getElem?_eq_none (show w.heap.size ≤ b by omega)] at hcx
            simp at hcx
        have hcx' : wr.cell? ⟨b, off + k, none⟩ = some (.bool x) := (World.cell?_of_block (HFk.out.block b hblt hbl)).trans hcx
        have hks := keptL_snoc c x (s.wait.take k) (kl.take k) (by rw [List.length_take, List.length_take]; omega)
        rw [← take_snoc hc, ← show kl.take (k + 1) = kl.take k ++ [x] by rw [List.take_add_one, hx]; rfl] at hks
        have hop : (holdAll s (keptL (s.wait.take k) (kl.take k))).ops[s.done.length + k]? = some (wrec c) := by rw [holdAll_ops]; exact ops_wait s hc
        have HDd : DiskAt wr.drew L (holdAll s (keptL (s.wait.take k) (kl.take k))) := HDk.out.fr (Fr.drew (T := fun _ => False) wr) fun _ _ q => q
        have hpos := HDk.out.histPos hg hop
        have hblk := HDd.histBlk hg hop
        have hcw := HDd.ok.wait c (by rw [holdAll_wait]; exact List.mem_of_getElem? hc)
        rw [holdAll_n] at hcw
        have HH := hold_of HDd (by rw [holdAll_n]; exact hcw.1) hcw.2 hblk
        have e1 : (s.done.length + k) * 1026 = s.done.length * 1026 + k * 1026 := Nat.add_mul _ _ _
        rw [e1] at hpos HH
        have hpos' : wr.cell? ⟨g, s.done.length * 1026 + k * 1026 + 1, none⟩ = some (.int .i64 c.1) := hpos
        cases x
        · rw [if_neg (by simp), List.append_nil] at hks
          have HD2 : Hid (DiskAt wr L (holdAll s (keptL (s.wait.take (k + 1)) (kl.take (k + 1))))) := hks ▸ HDk.out
          clear HH hpos hblk hop hc hx e1 HDk hcw HDd hks hcx hcell
          go_wp2
          exact ⟨⟨k + 1, by omega, by go_num, HD2.out, HGk.out, HFk.out⟩, by simp [intOf]; omega⟩
        · rw [if_pos rfl] at hks
          rw [← holdAll_snoc, ← hks] at HH
          have HH2 : Hid (Calls Try.prog 22 #[.pointer (some ⟨L.d, 0, none⟩), .int .i64 c.1, .pointer (some ⟨g, s.done.length * 1026 + k * 1026 + 2, none⟩)] wr.drew fun e w' => e = .returned (.tuple #[]) ∧ DiskAt w' L (holdAll s (keptL (s.wait.take (k + 1)) (kl.take (k + 1)))) ∧ Goes w w' L L ∧ Fr (fun i => i = L.hb) w w') :=
            Calls.mono HH fun e w' ⟨h1, h2, h3⟩ => ⟨h1, h2, (HGk.out.trans ⟨rfl, fun _ q => .inl q, Fr.drew wr⟩).trans (Goes.hold h3), (HFk.out.trans (Fr.drew wr) fun _ _ q => q).trans h3 fun _ _ q => q⟩
          generalize s.done.length * 1026 = D at *
          clear HH hpos hblk hop hc hx e1 HDk hcw HDd HGk hks hcx hcell HFk
          go_wp2
          go_still_tail 10, (by kernel_rfl)
          change wpList _ _ _ _ _ (World.drew _)
          go_wp2_with (go_at_call 22; fail)
          refine HH2.out.mono ?_
          rintro e W2 ⟨rfl, hD2, hG2, hF2⟩
          have HD2 : Hid (DiskAt W2 L (holdAll s (keptL (s.wait.take (k + 1)) (kl.take (k + 1))))) := hD2
          have HG3 : Hid (Goes w W2 L L) := hG2
          have HF3 : Hid (Fr (fun i => i = L.hb) w W2) := hF2
          clear hD2 hG2 HH2 hF2
          go_wp2
          exact ⟨⟨k + 1, by omega, by go_num, HD2.out, HG3.out, HF3.out⟩, by simp [intOf]; omega⟩
      · obtain rfl : k = m := by omega
        have hD := HDk.out
        rw [keptL_take _ _ _ (by omega)] at hD
        have hG := HGk.out
        clear HDk HGk HP HK HFk
        have hok := crashS_ok (k := kl) hD.ok
        have k3 := hD.c3
        have f3 := hD.free 3
        obtain ⟨p', c', h1, _⟩ := hD.shape
        rw [h1] at k3
        have hR6 : RawAt (wr.setCell ⟨L.d, 3, none⟩ (.slice none 0 0)) ⟨L.d, L.hb, L.lb, .slice none 0 0⟩ ((dkRow L (holdAll s (keptL s.wait kl))).setIfInBounds 3 (.slice none 0 0)) (heldV (holdAll s (keptL s.wait kl))) (lateV (holdAll s (keptL s.wait kl))) [] := by
          have hr := hD.raw.cell 3 (.slice none 0 0)
          exact ⟨hr.row, hr.held, hr.late, World.ownsRow_nil _ 0 71 1026, hr.ne⟩
        have hF6 : Fr (fun i => i = L.d) wr (wr.setCell ⟨L.d, 3, none⟩ (.slice none 0 0)) := Fr.setCell wr L.d 3 _
        clear hD
        go_wp2_with (go_at_call 31; fail)
        generalize wr.setCell ⟨L.d, 3, none⟩ (.slice none 0 0) = W6 at *
        refine (nothing_of (d := L.d) (n := (holdAll s (keptL s.wait kl)).n) (hb := L.hb) (p := none) (m := 0) (c := 0) (bh := ((holdAll s (keptL s.wait kl)).done.length : Int)) (lb := L.lb) (fu := (holdAll s (keptL s.wait kl)).fuse) (st := (holdAll s (keptL s.wait kl)).stopped) (ma := (holdAll s (keptL s.wait kl)).made) (re := (holdAll s (keptL s.wait kl)).reads) (cl := (holdAll s (keptL s.wait kl)).claims) (cd := (holdAll s (keptL s.wait kl)).claimed) hR6.row).mono ?_
        rintro e W7 ⟨rfl, hrow7, hM7, hF7⟩
        have hlb : L.hb < W6.heap.size := hR6.held.lt
        have hR7 := (hR6.rowTo hrow7 hF7).lateNew (b := W6.heap.size) (by show L.hb ≠ _; omega) hM7
        have c6 : W7.cell? ⟨L.d, 6, none⟩ = some (.int .i64 (holdAll s (keptL s.wait kl)).fuse) := Joins.cell_of_block hrow7 6
        have c7 : W7.cell? ⟨L.d, 7, none⟩ = some (.bool (holdAll s (keptL s.wait kl)).stopped) := Joins.cell_of_block hrow7 7
        have c11 : W7.cell? ⟨L.d, 11, none⟩ = some (.bool (holdAll s (keptL s.wait kl)).claimed) := Joins.cell_of_block hrow7 11
        have f6 : W7.frozen? ⟨L.d, 6, none⟩ = false := Joins.unfrozen_of_block hrow7 6
        have f7 : W7.frozen? ⟨L.d, 7, none⟩ = false := Joins.unfrozen_of_block hrow7 7
        have f11 : W7.frozen? ⟨L.d, 11, none⟩ = false := Joins.unfrozen_of_block hrow7 11
        have hD8 : Hid (DiskAt (((W7.setCell ⟨L.d, 6, none⟩ (.int .i64 (-1))).setCell ⟨L.d, 7, none⟩ (.bool false)).setCell ⟨L.d, 11, none⟩ (.bool false)) ⟨L.d, L.hb, W6.heap.size, .slice none 0 0⟩ (crashS s kl)) :=
          RawAt.disk (((hR7.cell 6 (.int .i64 (-1))).cell 7 (.bool false)).cell 11 (.bool false)) hok
        have hF8 : Fr (fun i => i = L.d) wr (((W7.setCell ⟨L.d, 6, none⟩ (.int .i64 (-1))).setCell ⟨L.d, 7, none⟩ (.bool false)).setCell ⟨L.d, 11, none⟩ (.bool false)) :=
          (hF6.trans hF7 fun _ _ q => q).trans (((Fr.setCell _ L.d 6 _).trans (Fr.setCell _ L.d 7 _) fun _ _ q => q).trans (Fr.setCell _ L.d 11 _) fun _ _ q => q) fun _ _ q => q
        have hG8 : Hid (Goes w (((W7.setCell ⟨L.d, 6, none⟩ (.int .i64 (-1))).setCell ⟨L.d, 7, none⟩ (.bool false)).setCell ⟨L.d, 11, none⟩ (.bool false)) L ⟨L.d, L.hb, W6.heap.size, .slice none 0 0⟩) := by
          refine hG.trans (Goes.of (T := fun i => i = L.d) rfl (fun i hi => ?_) hF8 fun i _ q => .inl q)
          rcases hi with q | q | q | q
          · exact .inl (.inl q)
          · exact .inl (.inr (.inl q))
          · have q' : i = W6.heap.size := q
            have := hF6.size
            exact .inr (by omega)
          · simp [Value.ownBlock] at q
        clear hR7 hrow7 hM7 hF7 hR6 hF6 hG hok hF8
        go_wp2
        go_ret
        exact ⟨rfl, _, hD8.out, hG8.out⟩
end Go.Proofs.YtlcdpmjdnihocaaD
/- Pending and History: what is pending, and all that was done, in new memory; for every disk. -/
namespace Go.Proofs.YtlcdpmjdnihocaaD
open Go.RowKit
variable {w : World} {L : Loc} {s : St}

/-- n numbers in a row. -/
def iRow (f : Nat → Int) (n : Nat) : Array Value := ((List.range n).map fun i => Value.int .i64 (f i)).toArray
theorem iRow_size (f : Nat → Int) (n : Nat) : (iRow f n).size = n := by simp [iRow]
theorem iRow_get (f : Nat → Int) (n i : Nat) (h : i < n) : (iRow f n)[i]? = some (.int .i64 (f i)) := by simp [iRow, h]
theorem iRow_set (f : Nat → Int) (n i : Nat) (x : Int) : (iRow f n).setIfInBounds i (.int .i64 x) = iRow (upd f i x) n := by
  apply Array.ext_getElem?
  intro j
  by_cases hj : j < n
  · rw [iRow_get _ _ _ hj, Array.getElem?_setIfInBounds]
    by_cases e : i = j
    · subst e; simp [iRow_size, hj, upd]
    · have e' : ¬ j = i := fun q => e q.symm
      simp [e, e', iRow_get _ _ _ hj, upd]
  · rw [Array.getElem?_eq_none (by rw [Array.size_setIfInBounds, iRow_size]; omega), Array.getElem?_eq_none (by rw [iRow_size]; omega)]
theorem info3b : (Try.prog.info? 3).map (fun i => (i.zero, i.size, i.bytes)) = some (some (.int .i64 0), 1, 8) := by kernel_rfl
theorem made_ints (n : Nat) : madeCells #[.int .i64 0] n = iRow nought n := by
  apply Array.ext_getElem?
  intro j
  by_cases hj : j < n
  · rw [iRow_get _ _ _ hj]
    simp [madeCells, hj, nought, Nat.mod_one]
  · rw [Array.getElem?_eq_none (by simp [madeCells]; omega), Array.getElem?_eq_none (by rw [iRow_size]; omega)]
theorem run_make65 (u : World) (n : Nat) (hn : n * 8 ≤ 281474976710656) :
    (Instr.makeSlice 72 (.int .i64 (n : Int)) (.int .i64 (n : Int))).run Try.prog u = .ok (.slice (some ⟨u.heap.size, 0, none⟩) n n) (u.alloc (.cells (iRow nought n) 3)) := by
  obtain ⟨i0, hi0, hz0, hz1, hz2⟩ := info_parts info3b
  have h := run_make (P := Try.prog) u 72 3 i0 (.int .i64 0) Try.underlying72 hi0 hz0 .i64 .i64 n n (by omega) (Int.le_refl _) (by rw [hz2]; omega) (by omega)
  rw [Int.toNat_natCast, hz1] at h
  rw [h]
  simp [Value.cells, made_ints]
def posF (l : List Cel) (i : Nat) : Int := match l[i]? with
  | some c => c.1
  | none => 0
def firstI (f : Nat → Int) (k : Nat) : Nat → Int := fun i => if i < k then f i else 0
theorem firstI_next (f : Nat → Int) (k : Nat) : upd (firstI f k) k (f k) = firstI f (k + 1) := firsts_next f k
theorem iRow_congr {f g : Nat → Int} {n : Nat} (h : ∀ i, i < n → f i = g i) : iRow f n = iRow g n := by
  apply Array.ext_getElem?
  intro j
  by_cases hj : j < n
  · rw [iRow_get _ _ _ hj, iRow_get _ _ _ hj, h j hj]
  · rw [Array.getElem?_eq_none (by rw [iRow_size]; omega), Array.getElem?_eq_none (by rw [iRow_size]; omega)]
theorem run_copy_wide {P : Program} (w : World) (dT sT ty elem : TypeId) (sz : Nat) (g o dLen dCap : Nat) (a : Addr) (sLen sCap : Nat) (cur : Array Value) (t : TypeId) (cs : List Value)
    (hu : P.underlying dT = some (.slice elem)) (hs : (P.info? elem).map (·.size) = some sz)
    (hg : w.heap[g]? = some (.cells cur t (0, 0))) (hn : cs.length = Nat.min sLen dLen * sz)
    (hsrc : ∀ j v, cs[j]? = some v → w.cell? (a.add j) = some v) (hfit : o + cs.length ≤ cur.size) (h1 : ∀ v ∈ cs, v.oneCell' = true) :
    (Builtin.copy_ #[dT, sT] ty #[.slice (some ⟨g, o, none⟩) dLen dCap, .slice (some a) sLen sCap]).run P w =
      .ok (goInt (Nat.min sLen dLen)) (w.setRow g (cur.toList.take o ++ cs ++ cur.toList.drop (o + cs.length)).toArray) := by
  have hl := run_loadCells_list (P := P) w a cs hsrc
  have hst := run_storeCells_at P g o t cs 0 cur w hg (by simpa using hfit) h1
  cases hq : P.info? elem with
  | none => simp [hq] at hs
  | some i =>
    have hi : i.size = sz := by simpa [hq] using hs
    simp [Builtin.copy_, run_underlying hu, Builtin.lenOf, Builtin.firstCells, sizeOf, typeInfo, hq, hi, ← hn, hl, hst]
theorem size108 : (Try.prog.info? 71).map (·.size) = some 1026 := by
  obtain ⟨i0, hi0, hz0, hz1, hz2⟩ := info_parts info108
  rw [hi0]
  exact congrArg some hz1
theorem run_make67 (u : World) (n : Nat) (hn : n * 1040 ≤ 281474976710656) :
    ∃ cur, cur.size = n * 1026 ∧ (Instr.makeSlice 64 (.int .i64 (n : Int)) (.int .i64 (n : Int))).run Try.prog u = .ok (.slice (some ⟨u.heap.size, 0, none⟩) n n) (u.alloc (.cells cur 71)) := by
  obtain ⟨i0, hi0, hz0, hz1, hz2⟩ := info_parts info108
  have h := run_make (P := Try.prog) u 64 71 i0 _ Try.underlying64 hi0 hz0 .i64 .i64 n n (by omega) (Int.le_refl _) (by rw [hz2]; omega) (by omega)
  rw [Int.toNat_natCast, hz1] at h
  exact ⟨_, by simp [madeCells], h⟩
theorem wpList_copyH {ops : Array Oper} {rest : List Oper} {o : Oper} {a : Act} {W W' : World} {Q : Exit → Act → World → Prop} (hgd : o.guard = none) (s x : Operand)
    (ho : o.op = .call { callee := .builtin .copy, args := #[s, x], argTypes := #[64, 64] }) (v v' : Value) (hs : a.eval s = v) (hx : a.eval x = v') (n : Nat)
    (hr : ∀ ty, (Builtin.copy_ #[64, 64] ty #[v, v']).run Try.prog W = .ok (goInt n) W') (h : wpList Try.prog ops Q rest (a.put o.dst (goInt n)) W') : wpList Try.prog ops Q (o :: rest) a W := by
  refine wpList_plain hgd fun K' hK' => ?_
  unfold Oper.wp
  simp [execOp, ho, resolve, invoke, builtin, hs, hx, hr, Result.andThen]
  exact hK' _ _ h
end Go.Proofs.YtlcdpmjdnihocaaD
/- slices.Sort at lists of int over this program: the list's numbers lie there rising, behind it; laid by the shelf's own table; no condition but the list's length. -/
namespace Go.Proofs
open Go.Shelf
def Try.lays189_ren : Go.Shelf.Ren := ⟨fun | 189 => 32 | 125 => 45 | 257 => 44 | 128 => 68 | 129 => 69 | 294 => 59 | 295 => 60 | 296 => 61 | 297 => 62 | 298 => 63 | 299 => 64 | 216 => 65 | 300 => 66 | 301 => 67 | 328 => 76 | 329 => 77 | 330 => 78 | 331 => 79 | 332 => 80 | 215 => 81 | 343 => 87 | n => n, fun | 28 => 72 | 3 => 3 | 46 => 87 | 0 => 0 | 51 => 92 | 53 => 111 | 4 => 4 | 183 => 103 | 182 => 102 | 131 => 77 | 5 => 5 | 9 => 9 | 218 => 136 | 222 => 140 | 228 => 147 | 229 => 134 | n => n, fun | n => n⟩
theorem Try.lays189 : Go.Proofs.Lays.n189 Try.prog Try.lays189_ren := {
  mixed := by kernel_rfl
  f125 := Try.func45.trans (congrArg some (by kernel_rfl))
  f128 := Try.func68.trans (congrArg some (by kernel_rfl))
  f129 := Try.func69.trans (congrArg some (by kernel_rfl))
  f189 := Try.func32.trans (congrArg some (by kernel_rfl))
  f215 := Try.func81.trans (congrArg some (by kernel_rfl))
  f216 := Try.func65.trans (congrArg some (by kernel_rfl))
  f257 := Try.func44.trans (congrArg some (by kernel_rfl))
  f294 := Try.func59.trans (congrArg some (by kernel_rfl))
  f295 := Try.func60.trans (congrArg some (by kernel_rfl))
  f296 := Try.func61.trans (congrArg some (by kernel_rfl))
  f297 := Try.func62.trans (congrArg some (by kernel_rfl))
  f298 := Try.func63.trans (congrArg some (by kernel_rfl))
  f299 := Try.func64.trans (congrArg some (by kernel_rfl))
  f300 := Try.func66.trans (congrArg some (by kernel_rfl))
  f301 := Try.func67.trans (congrArg some (by kernel_rfl))
  f328 := Try.func76.trans (congrArg some (by kernel_rfl))
  f329 := Try.func77.trans (congrArg some (by kernel_rfl))
  f330 := Try.func78.trans (congrArg some (by kernel_rfl))
  f331 := Try.func79.trans (congrArg some (by kernel_rfl))
  f332 := Try.func80.trans (congrArg some (by kernel_rfl))
  f343 := Try.func87.trans (congrArg some (by kernel_rfl))
  t0 := Try.underlying0
  a0 := Try.isAgg0
  z0 := Try.sizeOf0
  v0 := Try.zeroValue0
  t3 := Try.underlying3
  a3 := Try.isAgg3
  z3 := Try.sizeOf3
  v3 := Try.zeroValue3
  t4 := Try.underlying4
  a4 := Try.isAgg4
  z4 := Try.sizeOf4
  v4 := Try.zeroValue4
  t5 := Try.underlying5
  a5 := Try.isAgg5
  z5 := Try.sizeOf5
  v5 := Try.zeroValue5
  t9 := Try.underlying9
  a9 := Try.isAgg9
  z9 := Try.sizeOf9
  v9 := Try.zeroValue9
  t28 := Try.underlying72
  a28 := Try.isAgg72
  z28 := Try.sizeOf72
  v28 := Try.zeroValue72
  t46 := Try.underlying87
  a46 := Try.isAgg87
  z46 := Try.sizeOf87
  v46 := Try.zeroValue87
  t51 := Try.underlying92
  a51 := Try.isAgg92
  z51 := Try.sizeOf92
  v51 := Try.zeroValue92
  t53 := Try.underlying111
  a53 := Try.isAgg111
  z53 := Try.sizeOf111
  v53 := Try.zeroValue111
  t131 := Try.underlying77
  a131 := Try.isAgg77
  z131 := Try.sizeOf77
  v131 := Try.zeroValue77
  t182 := Try.underlying102
  a182 := Try.isAgg102
  z182 := Try.sizeOf102
  v182 := Try.zeroValue102
  t183 := Try.underlying103
  a183 := Try.isAgg103
  z183 := Try.sizeOf103
  v183 := Try.zeroValue103
  t218 := Try.underlying136
  a218 := Try.isAgg136
  z218 := Try.sizeOf136
  v218 := Try.zeroValue136
  t222 := Try.underlying140
  a222 := Try.isAgg140
  z222 := Try.sizeOf140
  v222 := Try.zeroValue140
  t228 := Try.underlying147
  a228 := Try.isAgg147
  z228 := Try.sizeOf147
  v228 := Try.zeroValue147
  t229 := Try.underlying134
  a229 := Try.isAgg134
  z229 := Try.sizeOf134
  v229 := Try.zeroValue134 }
open Go.Sort Go.RowKit in
theorem Try.slices_Sort_int (blk off cap : Nat) (zs : List Int) (w : World) (hH : Holds (Value.int .i64) w blk off zs.toArray) (hblk : blk < w.heap.size) (hsz : zs.length < 4611686018427387904) :
    Calls Try.prog 32 #[.slice (some ⟨blk, off, none⟩) zs.length cap] w fun e w' =>
      e = .returned (.tuple #[]) ∧ ∃ n os, w' = grow (putRow (Value.int .i64) (Sort.ahead w n) blk off (zs.mergeSort fun x y => decide (x ≤ y)).toArray) os := Any.slices_Sort_int Try.lays189 blk off cap zs w hH hblk hsz
end Go.Proofs
/- Numbers sorted in memory; the blocks that are held, as a rising list; no condition but the list's length. -/
namespace Go.Proofs.YtlcdpmjdnihocaaD
open Go.RowKit Go.Sort
variable {w : World} {L : Loc} {s : St}

theorem heap_setCells (b : Nat) : ∀ (vs : List Value) (o : Nat) (w : World) (k : Nat), k ≠ b → (w.setCells b o vs).heap[k]? = w.heap[k]?
  | [], _, _, _, _ => rfl
  | v :: r, o, w, k, h => (heap_setCells b r (o + 1) _ k h).trans (Below.heap_setCell w _ v k h)
theorem size_setCells (b : Nat) : ∀ (vs : List Value) (o : Nat) (w : World), (w.setCells b o vs).heap.size = w.heap.size
  | [], _, _ => rfl
  | v :: r, o, w => (size_setCells b r (o + 1) _).trans (by simp)
theorem rest_setCells (b : Nat) : ∀ (vs : List Value) (o : Nat) (w : World), (w.setCells b o vs).os = w.os ∧ (w.setCells b o vs).tape = w.tape ∧ (w.setCells b o vs).output = w.output
  | [], _, _ => ⟨rfl, rfl, rfl⟩
  | v :: r, o, w => rest_setCells b r (o + 1) (w.setCell ⟨b, o, none⟩ v)
def sortL (zs : List Int) : List Int := zs.mergeSort fun x y => decide (x ≤ y)
theorem sort_ints {g cap : Nat} (zs : List Int) (hc : ∀ j, j < zs.length → w.cell? ⟨g, 0 + j, none⟩ = some (.int .i64 (zs.getD j 0))) (hf : ∀ j, j < zs.length → w.frozen? ⟨g, 0 + j, none⟩ = false) (hg : g < w.heap.size) (hn : zs.length < 4611686018427387904) :
    Calls Try.prog 32 #[.slice (some ⟨g, 0, none⟩) zs.length cap] w fun e w' => e = .returned (.tuple #[]) ∧ (∀ j, j < zs.length → w'.cell? ⟨g, j, none⟩ = some (.int .i64 ((sortL zs).getD j 0))) ∧ Fr (fun i => i = g) w w' := by
  have hH : Holds (Value.int .i64) w g 0 zs.toArray := by
    have := Lib.holds_of_ints (n := zs.length) (Nat.le_refl _) hc hf
    rwa [List.take_length] at this
  refine (Try.slices_Sort_int g 0 cap zs w hH hg hn).mono ?_
  rintro e w' ⟨rfl, q, os, hw⟩
  have hl : (sortL zs).length = zs.length := (List.mergeSort_perm _ _).length_eq
  rw [Lib.sorted_world _ w g 0 q _ _ os hH (by simp)] at hw
  refine ⟨rfl, fun j hj => ?_, ?_⟩
  · have h1 := Lib.cells_sorted_ints (W := w) (b := g) (off := 0) (q := q) (os := os) (zs := zs) (ys := sortL zs) (n := zs.length) (Nat.le_refl _) hl hc j (by rw [List.drop_length, List.append_nil, hl]; exact hj)
    rw [List.drop_length, List.append_nil, Nat.zero_add] at h1
    rw [hw]
    exact h1
  · rw [hw]
    have hr := rest_setCells g ((sortL zs).map (Value.int .i64)) 0 (w.drewN q)
    have hs := size_setCells g ((sortL zs).map (Value.int .i64)) 0 (w.drewN q)
    have hs' : ((w.drewN q).setCells g 0 ((sortL zs).map (Value.int .i64))).heap.size = w.heap.size := hs.trans (by simp)
    refine ⟨hr.1.trans rfl, hr.2.1.trans rfl, hr.2.2.trans rfl, by rw [size_grow]; show w.heap.size ≤ ((w.drewN q).setCells g 0 ((sortL zs).map (Value.int .i64))).heap.size + _; omega, fun k hk hn => ?_⟩
    rw [heap_grow_old _ _ (by show k < ((w.drewN q).setCells g 0 ((sortL zs).map (Value.int .i64))).heap.size; omega)]
    exact (heap_setCells g _ 0 _ k hn).trans (by simp)

/-- The cells of a block with its number. -/
def celRow (c : Cel) : List Value := .int .i64 c.1 :: (blk c.2).toList
def celCells (l : List Cel) : List Value := l.flatMap celRow
theorem celRow_len (c : Cel) : (celRow c).length = 1025 := by simp [celRow, blk_size]
theorem celCells_len : ∀ l : List Cel, (celCells l).length = l.length * 1025
  | [] => rfl
  | r :: t => by
    have ih := celCells_len t
    have h1 := celRow_len r
    show (celRow r ++ celCells t).length = _
    rw [List.length_append, ih, h1, List.length_cons]
    omega
theorem celCells_append (a b : List Cel) : celCells (a ++ b) = celCells a ++ celCells b := by simp [celCells]
theorem celCells_one (c : Cel) : celCells [c] = celRow c := by simp [celCells]
theorem celRow_one (c : Cel) : ∀ v ∈ celRow c, v.oneCell' = true := by
  intro v hv
  simp only [celRow, List.mem_cons] at hv
  rcases hv with rfl | h
  · rfl
  · have := blk_one c.2
    rw [Array.all_eq_true_iff_forall_mem] at this
    exact this v (by simpa using h)

/-- Numbers with what is held there. -/
def withHeld (s : St) (l : List Int) : List Cel := l.map fun x => (x, (s.held x).getD nought)
theorem rise_of (s : St) : ∀ (l : List Int) (m : Int), (∀ x ∈ l, m < x) → l.Pairwise (fun a b => a < b) → Rise m (withHeld s l)
  | [], _, _, _ => trivial
  | x :: t, m, h, hp => by
    have h2 := List.pairwise_cons.1 hp
    exact ⟨h x (by simp), rise_of s t x h2.1 h2.2⟩
theorem atL_in (s : St) : ∀ (l : List Int) (k : Int), (k ∈ l → atL (withHeld s l) k = (s.held k).getD nought) ∧ (k ∉ l → atL (withHeld s l) k = nought)
  | [], k => ⟨fun h => by simp at h, fun _ => rfl⟩
  | x :: t, k => by
    have ih := atL_in s t k
    show (k ∈ x :: t → (if x = k then _ else atL (withHeld s t) k) = _) ∧ (k ∉ x :: t → (if x = k then _ else atL (withHeld s t) k) = _)
    by_cases e : x = k
    · subst e
      exact ⟨fun _ => by rw [if_pos rfl], fun h => absurd (List.mem_cons_self) h⟩
    · rw [if_neg e]
      refine ⟨fun h => ih.1 ?_, fun h => ih.2 fun q => h (List.mem_cons_of_mem _ q)⟩
      rcases List.mem_cons.1 h with q | q
      · exact absurd q.symm e
      · exact q
/-- The blocks that are held, as a list: it rises, none of them is blank. -/
structure IsImage (s : St) (l : List Cel) : Prop where
  rise : Rise (-1) l
  sound : Sound l
  top : ∀ c ∈ l, c.1 < s.n
  at_ : ∀ k, atL l k = (s.held k).getD nought
theorem image_of (h : Ok s) (zs : List Int) (hn : zs.Nodup) (hm : ∀ x, x ∈ zs ↔ (s.held x).isSome = true) : IsImage s (withHeld s (sortL zs)) := by
  have hp : (sortL zs).Perm zs := List.mergeSort_perm _ _
  have hm' : ∀ x, x ∈ sortL zs ↔ (s.held x).isSome = true := fun x => hp.mem_iff.trans (hm x)
  have hb : ∀ x ∈ sortL zs, ∃ f, s.held x = some f ∧ (0 ≤ x ∧ x < s.n) ∧ Can f ∧ f ≠ nought := fun x hx => by
    obtain ⟨f, hf⟩ := Option.isSome_iff_exists.1 ((hm' x).1 hx)
    exact ⟨f, hf, h.held x f hf⟩
  refine ⟨rise_of s _ _ (fun x hx => by obtain ⟨f, _, h1, _⟩ := hb x hx; omega) ?_, fun c hc => ?_, fun c hc => ?_, fun k => ?_⟩
  · have h1 : (sortL zs).Pairwise (fun a b => decide (a ≤ b) = true) := List.pairwise_mergeSort (fun a b c h1 h2 => by simp at *; omega) (fun a b => by simp; omega) zs
    have h2 : (sortL zs).Nodup := hp.nodup_iff.2 hn
    exact (h1.and h2).imp fun {a b} q => by
      have q1 : a ≤ b := by simpa using q.1
      have q2 : a ≠ b := q.2
      omega
  · obtain ⟨x, hx, rfl⟩ := List.mem_map.1 hc
    obtain ⟨f, hf, _, h2, h3⟩ := hb x hx
    simp only [hf, Option.getD_some]
    exact ⟨h2, h3⟩
  · obtain ⟨x, hx, rfl⟩ := List.mem_map.1 hc
    obtain ⟨f, hf, h1, _⟩ := hb x hx
    exact h1.2
  · by_cases hk : k ∈ sortL zs
    · exact (atL_in s _ k).1 hk
    · rw [(atL_in s _ k).2 hk]
      cases hh : s.held k with
      | none => rfl
      | some f => exact absurd ((hm' k).2 (by rw [hh]; rfl)) hk
end Go.Proofs.YtlcdpmjdnihocaaD
/- Image: what is held, as a rising list in new memory; for every disk. -/
namespace Go.Proofs.YtlcdpmjdnihocaaD
open Go.RowKit Go.Maps
variable {w : World} {L : Loc} {s : St}

theorem info85 : (Try.prog.info? 54).map (fun i => (i.zero, i.size, i.bytes)) = some (some (.agg (celRow (0, nought)).toArray), 1025, 1032) := by kernel_rfl
theorem zero85 : ∀ w, (zeroValue 54).run Try.prog w = .ok (.agg (celRow (0, nought)).toArray) w := by
  obtain ⟨i0, hi0, hz0, hz1, hz2⟩ := info_parts info85
  exact (zero_of_info (t := 54) (P := Try.prog) (by rw [hi0]; exact congrArg some (Prod.ext hz0 hz1))).1
theorem size85 : (Try.prog.info? 54).map (·.size) = some 1025 := by
  obtain ⟨i0, hi0, hz0, hz1, hz2⟩ := info_parts info85
  rw [hi0]
  exact congrArg some hz1
theorem cel_size (c : Cel) : (celRow c).toArray.size = 1025 := by rw [List.size_toArray, celRow_len]
theorem fill_cel (p : Int) (f : Nat → Int) (Z : Array Value) (hZ : Z.size = 1025) (place : Nat → Option (Nat × Nat)) (h0 : place 0 = some (0, 1)) (h1 : place 1 = some (1, 1024)) :
    Instr.fill place Z [(0, .int .i64 p), (1, .agg (blk f))] = some (celRow (p, f)).toArray := by
  have hb := blk_size f
  unfold Instr.fill
  rw [h0]
  simp only [Value.cells, List.size_toArray, List.length_cons, List.length_nil, hZ]
  rw [if_neg (by simp)]
  unfold Instr.fill
  rw [h1]
  simp only [Value.cells, hb]
  rw [fold_over 0 #[.int .i64 p] Z (by rw [hZ]; simp)]
  rw [if_neg (by simp [hZ])]
  rw [fold_over 1 (blk f) _ (by simp [hZ, hb])]
  have hl : Z.toList.length = 1025 := by rw [Array.length_toList, hZ]
  obtain ⟨z0, r, hz, hr⟩ : ∃ z0 r, Z.toList = z0 :: r ∧ r.length = 1024 := by
    cases hz : Z.toList with
    | nil => rw [hz, List.length_nil] at hl; omega
    | cons z0 r => exact ⟨z0, r, rfl, by rw [hz, List.length_cons] at hl; omega⟩
  rw [hz]
  simp only [List.take_zero, List.nil_append, List.take_succ_cons, List.drop_succ_cons, List.drop_zero, List.singleton_append, List.size_toArray, List.length_cons, List.length_nil, hb, Nat.zero_add, Nat.reduceAdd]
  unfold Instr.fill
  rw [List.drop_eq_nil_of_le (by omega), List.append_nil]
  rfl
theorem build85 (p : Int) (f : Nat → Int) (u : World) : (Instr.build 54 #[(0, .int .i64 p), (1, .agg (blk f))]).run Try.prog u = .ok (.agg (celRow (p, f)).toArray) u := by
  have z := zero85
  have hZ : (celRow (0, nought)).toArray.size = 1025 := cel_size _
  generalize (celRow (0, nought)).toArray = Z at *
  have hf := fill_cel p f Z hZ
  simp [Instr.build, z, run_underlying Try.underlying54, Value.cells]
  rw [hf _ rfl rfl]
  simp only [Sem.run_pure]
theorem wpList_build85 {ops : Array Oper} {rest : List Oper} {o : Oper} {a : Act} {w : World} {Q : Exit → Act → World → Prop} (hgd : o.guard = none) (x y : Operand) (ho : o.op = .build 54 #[(0, x), (1, y)])
    (p : Int) (f : Nat → Int) (hx : a.eval x = .int .i64 p) (hy : a.eval y = .agg (blk f)) (h : wpList Try.prog ops Q rest (a.put o.dst (.agg (celRow (p, f)).toArray)) w) : wpList Try.prog ops Q (o :: rest) a w :=
  wpList_plain hgd fun _ hK => by
    have e := build85 p f w
    generalize (celRow (p, f)).toArray = Z at *
    have e' : (execOp a.eval o).run Try.prog w = .ok (.value (.agg Z)) w := by simp [execOp, ho, hx, hy, e]
    unfold Oper.wp
    rw [e']
    exact hK _ _ h
theorem run_make30 (u : World) (n : Nat) (hn : n * 1032 ≤ 281474976710656) :
    ∃ cur, cur.size = n * 1025 ∧ (Instr.makeSlice 22 (.int .i64 (n : Int)) (.int .i64 (n : Int))).run Try.prog u = .ok (.slice (some ⟨u.heap.size, 0, none⟩) n n) (u.alloc (.cells cur 54)) := by
  obtain ⟨i0, hi0, hz0, hz1, hz2⟩ := info_parts info85
  have h := run_make (P := Try.prog) u 22 54 i0 _ Try.underlying22 hi0 hz0 .i64 .i64 n n (by omega) (Int.le_refl _) (by rw [hz2]; omega) (by omega)
  rw [Int.toNat_natCast, hz1] at h
  exact ⟨_, by simp [madeCells], h⟩
theorem run_make65c (u : World) (n : Nat) (hn : n * 8 ≤ 281474976710656) :
    (Instr.makeSlice 72 (.int .i64 0) (.int .i64 (n : Int))).run Try.prog u = .ok (.slice (some ⟨u.heap.size, 0, none⟩) 0 n) (u.alloc (.cells (iRow nought n) 3)) := by
  obtain ⟨i0, hi0, hz0, hz1, hz2⟩ := info_parts info3b
  have h := run_make (P := Try.prog) u 72 3 i0 (.int .i64 0) Try.underlying72 hi0 hz0 .i64 .i64 0 n (by omega) (by omega) (by rw [hz2]; omega) (by omega)
  rw [Int.toNat_natCast, hz1] at h
  rw [h]
  simp [Value.cells, made_ints]
/-- A row with a whole element written at a place. -/
def putCel (cur : Array Value) (off : Nat) (c : Cel) : Array Value := (cur.toList.take off ++ celRow c ++ cur.toList.drop (off + 1025)).toArray
/-- A whole element is written into the middle of a row. -/
theorem wpList_store85 {ops : Array Oper} {rest : List Oper} {o : Oper} {a : Act} {w : World} {Q : Exit → Act → World → Prop} (hgd : o.guard = none) (x y : Operand) (ho : o.op = .store 54 x y)
    (g off : Nat) (c : Cel) (hx : a.eval x = .pointer (some ⟨g, off, none⟩)) (hy : a.eval y = .agg (celRow c).toArray) (cur : Array Value) (hg : w.heap[g]? = some (.cells cur 54)) (hfit : off + 1025 ≤ cur.size)
    (h : wpList Try.prog ops Q rest (a.put o.dst undef) (w.setRow g (putCel cur off c))) : wpList Try.prog ops Q (o :: rest) a w :=
  wpList_plain hgd fun _ hK => by
    have hs := cel_size c
    have hl := celRow_len c
    have hst := run_storeCells_at Try.prog g off 54 (celRow c) 0 cur w hg (by rw [hl]; omega) (celRow_one c)
    rw [hl] at hst
    have hr : (Instr.storeAt 54 (.pointer (some ⟨g, off, none⟩)) (.agg (celRow c).toArray)).run Try.prog w = .ok () (w.setRow g (cur.toList.take off ++ celRow c ++ cur.toList.drop (off + 1025)).toArray) := by
      obtain ⟨i0, hi0, hz0, hz1, hz2⟩ := info_parts info85
      simp only [Nat.add_zero] at hst
      generalize celRow c = R at *
      simp [Instr.storeAt, Instr.sureAddr, storeVar, sizeOf, typeInfo, hi0, Value.cells, hl, hz1, hst]
    unfold Oper.wp execOp
    simp only [ho, hx, hy, Sem.run_bind, hr, Result.andThen_ok, Sem.run_pure]
    exact hK _ _ h
theorem wpList_lookM1 {P : Program} {k : TypeId} {b : Nat} {m : Int → Option Value} {ops : Array Oper} {rest : List Oper} {o : Oper} {a : Act} {w : World} {Q : Exit → Act → World → Prop} (hg : o.guard = none) (mo xo : Operand) (t : TypeId) (hop : o.op = Op.lookup t mo xo false) (e : TypeId) (hk : P.underlying k = some (.int .i64)) (K : Keyed P k) (ht : P.underlying t = some (.map k e))
    (hm : a.eval mo = .map (some b)) (h : MapIs P k w b m) {z : Value} (hz : (zeroValue e).run P w = .ok z w) (x : Int) (hx : (Lit.int .i64 x).wf = true) (hxo : a.eval xo = .int .i64 x) (v : Value) (hv : m x = some v)
    (hK : wpList P ops Q rest (a.put o.dst v) w) : wpList P ops Q (o :: rest) a w := by
  refine wpList_plain hg fun K' hK' => ?_
  have hr := look_at hk K ht h hz hx
  rw [hv] at hr
  unfold Oper.wp
  simp [execOp, hop, hm, hxo, hr, Result.andThen]
  exact hK' _ _ hK
/-- The numbers that were met: each once, those that are held and no longer to come. -/
structure Col (m : Int → Option Value) (left : Lit → Bool) (zs : List Int) : Prop where
  nodup : zs.Nodup
  mem : ∀ x, x ∈ zs ↔ ((m x).isSome = true ∧ left (.int .i64 x) = false)
theorem Col.start {D : DataW Value} {m : Int → Option Value} (hv : Views D m) : Col m (Maps.has D) [] := by
  refine ⟨List.nodup_nil, fun x => ⟨fun h => by simp at h, fun h => ?_⟩⟩
  cases hm : m x with
  | none => rw [hm] at h; simp at h
  | some v => rw [(hv.some x v hm).2.1] at h; simp at h
theorem Col.step {D : DataW Value} {m : Int → Option Value} {left : Lit → Bool} {zs : List Int} (h : Col m left zs) (hv : Views D m) {x : Int} {y : DataW Value} (hl : left (.int .i64 x) = true) (hat : ∀ zd, D.atKey (.int .i64 x) zd = y) :
    Col m (fun z => left z && !z.sameKey (.int .i64 x)) (zs ++ [x]) ∧ (m x).isSome = true := by
  have hsome : (m x).isSome = true := by
    cases hm : m x with
    | some v => rfl
    | none =>
      have h1 := hv.none x hm
      have e1 := hat (.held (.bool true))
      have e2 := hat (.held (.bool false))
      rw [atKey_of_not_has h1] at e1 e2
      rw [← e2] at e1
      cases e1
  refine ⟨⟨?_, fun z => ?_⟩, hsome⟩
  · rw [List.nodup_append]
    refine ⟨h.nodup, by simp, fun a ha b hb e => ?_⟩
    have hb' : b = x := by simpa using hb
    subst hb'
    subst e
    rw [((h.mem a).1 ha).2] at hl
    cases hl
  · rw [List.mem_append, h.mem z]
    by_cases e : z = x
    · subst e
      simp [hsome, Lit.sameKey]
    · have hne : (Lit.int .i64 z).sameKey (.int .i64 x) = false := by simp [Lit.sameKey, e]
      simp [hne, e]
theorem Col.done {m : Int → Option Value} {left : Lit → Bool} {zs : List Int} (h : Col m left zs) (hl : ∀ kl, left kl = false) : ∀ x, x ∈ zs ↔ (m x).isSome = true := fun x => by
  rw [h.mem x]
  simp [hl]
end Go.Proofs.YtlcdpmjdnihocaaD
/- Image: the walk. -/
namespace Go.Proofs.YtlcdpmjdnihocaaD
open Go.RowKit Go.Maps
variable {w : World} {L : Loc} {s : St}

theorem size32 : (Try.prog.info? 24).map (·.size) = some 2 := by kernel_rfl
theorem ret32 {fn : Func} {p : Tmp} {R : Ending → World → Prop} {a : Act} {w : World} (h : fn.results = #[.cell p 24]) (g : Nat) (cs : Array Value)
    (hp : a.tmps.getD p undef = .pointer (some ⟨g, 0, none⟩)) (hg : w.heap[g]? = some (.cells cs 24)) (hs : cs.size = 2) (hd : a.defers = []) (hR : R (.returned (.agg cs)) w) : bodyPost Try.prog fn R .ret a w :=
  bodyPost_ret (results_cell_row h a.tmps w g 24 cs (0, 0) _ hp hg Try.underlying24 rfl (by rw [hs]; exact size32)) hd hR
theorem take_cel {l : List Cel} {k : Nat} {c : Cel} {cur : Array Value} (hc : l[k]? = some c) (ht : cur.toList.take (k * 1025) = celCells (l.take k)) (hs : (k + 1) * 1025 ≤ cur.size) :
    (putCel cur (k * 1025) c).toList.take ((k + 1) * 1025) = celCells (l.take (k + 1)) := by
  have h0 : k * 1025 ≤ cur.size := Nat.le_trans (Nat.mul_le_mul_right _ (Nat.le_succ k)) hs
  have h1 : (cur.toList.take (k * 1025) ++ celRow c).length = (k + 1) * 1025 := by
    rw [List.length_append, List.length_take, celRow_len, Array.length_toList, Nat.min_eq_left h0, Nat.succ_mul]
  unfold putCel
  rw [List.toList_toArray, ← h1, List.take_left, ht, take_snoc hc, celCells_append, celCells_one]
theorem size_cel {off n : Nat} {c : Cel} {cur : Array Value} (hn : cur.size = n) (hs : off + 1025 ≤ n) : (putCel cur off c).size = n := by
  unfold putCel
  rw [List.size_toArray, List.length_append, List.length_append, List.length_take, List.length_drop, celRow_len, Array.length_toList, hn]
  omega
set_option maxRecDepth 20000 in
theorem image_none {v : Value} (h : NoneAt w v) : Calls Try.prog 16 #[v] w fun e w' => e = .returned (.agg #[.int .i64 0, .slice none 0 0]) ∧ Below w.heap.size w w' := by
  go_enter Try.func16, Try.ntmps16
  go_wp2_with (go_at_call 29; fail)
  have h' : NoneAt (w.alloc (.cells #[.int .i64 0, .slice none 0 0] 24)) v := by
    rcases h with h | ⟨g, h1, h2⟩
    · exact .inl h
    · refine .inr ⟨g, h1, ?_⟩
      have hlt : g < w.heap.size := by
        by_cases q : g < w.heap.size
        · exact q
        · unfold World.cell? at h2
          simp only [Array.getElem?_eq_none (show w.heap.size ≤ g by omega)] at h2
          simp at h2
      rw [World.cell?_alloc_past _ _ _ hlt]
      exact h2
  refine (none_yes h').mono ?_
  rintro e W ⟨rfl, rfl⟩
  go_wp2
  exact ret32 rfl w.heap.size _ rfl (heap_alloc_new _ _) rfl rfl ⟨rfl, below_new _ _⟩
set_option maxRecDepth 20000 in
set_option maxHeartbeats 1000000 in
theorem image_walk (h : DiskAt w L s) : Calls Try.prog 16 #[.pointer (some ⟨L.d, 0, none⟩)] w fun e w' => ∃ (g : Nat) (l : List Cel), e = .returned (.agg #[.int .i64 s.n, .slice (some ⟨g, 0, none⟩) l.length l.length]) ∧ IsImage s l ∧ w'.heap[g]? = some (.cells (celCells l).toArray 54) ∧ w.heap.size ≤ g ∧ Below w.heap.size w w' := by
  have h1 := h.later (below_new w (.cells #[.int .i64 0, .slice none 0 0] 24))
  have h0 := h1.c0
  have c2 := h1.c2
  have hlt := h.lt L.d (.inl rfl)
  obtain ⟨D, hown, hv⟩ := h1.held
  have hbl : L.hb < w.heap.size := h.lt L.hb (.inr (.inl rfl))
  have hsz : Maps.size D ≤ 1048576 := size_top Try.underlying3 hown keyed3 hv
  have hmk := fun u => run_make65c u (Maps.size D) (by omega)
  have HD : Hid (DiskAt w L s) := h
  clear h h1
  go_enter Try.func16, Try.ntmps16
  go_wp2_with (first | (go_at_call 29; refine (none_no h0).mono ?_; rintro e W ⟨rfl, he⟩; obtain rfl := he.symm) | (at_len; refine wpList_len_own _ rfl (.tmp 14) 63 rfl 3 46 Try.underlying63 valElem L.hb top D rfl hown ?_) | (at_range; refine wpList_range_own _ rfl (.tmp 20) 63 rfl 3 46 keyed3 Try.underlying63 _ L.hb top D rfl (hown.alloc _) ?_; intro w0 hrg0 hg0 hs0))
  have e1 : ((w.alloc (.cells #[.int .i64 0, .slice none 0 0] 24)).alloc (.cells (iRow nought (Maps.size D)) 3)).heap.size = w.heap.size + 2 := by simp
  rw [e1] at hrg0 hs0 ⊢
  go_frame
  have hB0 : Below w.heap.size w w0 := (((Below.refl _ _).alloc (Nat.le_refl _) _).alloc (by simp) _).grown hg0 (by simp; omega) (fun j hj => by cases hj)
  have hR0 : w0.heap[w.heap.size]? = some (.cells #[.int .i64 0, .slice none 0 0] 24) := by
    rw [hg0.block w.heap.size (by simp; omega) (by simp)]
    exact heap_kept (heap_alloc_new w _) (below_new _ _)
  have hO0 : w0.ownsRow (w.heap.size + 1) 3 1 (.slice (some ⟨w.heap.size + 1, 0, none⟩) 0 (Maps.size D)) 0 [] := by
    refine ⟨rfl, .inr ⟨w.heap.size + 1, Maps.size D, iRow nought (Maps.size D), rfl, Nat.le_refl _, ?_, Nat.zero_le _, by unfold maxLen; omega, by rw [iRow_size]; omega, by simp⟩⟩
    rw [hg0.block (w.heap.size + 1) (by simp) (by simp)]
    have q := heap_alloc_new (w.alloc (.cells #[.int .i64 0, .slice none 0 0] 24)) (.cells (iRow nought (Maps.size D)) 3)
    rw [show (w.alloc (.cells #[.int .i64 0, .slice none 0 0] 24)).heap.size = w.heap.size + 1 by simp] at q
    exact q
  have HB0 : Hid (Below w.heap.size w w0) := hB0
  have HR0 : Hid (w0.heap[w.heap.size]? = some (.cells #[.int .i64 0, .slice none 0 0] 24)) := hR0
  have HO0 : Hid (w0.ownsRow (w.heap.size + 1) 3 1 (.slice (some ⟨w.heap.size + 1, 0, none⟩) 0 (Maps.size D)) 0 []) := hO0
  have HV : Hid (Views D (heldV s)) := hv
  clear hB0 hR0 hO0 hg0 hs0 hmk hown h0 c2 hv e1
  obtain ⟨i0, hi0, hz0, hz1, hz2⟩ := info_parts info3b
  generalize hBB : w.heap.size = B at *
  go_loopw [3] (fun s3 wx => ∃ (left : Lit → Bool) (cnt : Nat) (zs : List Int) (g cap : Nat), wx.ranges Try.prog 3 valElem L.hb (B + 2) top D left cnt ∧ Hid (Col (heldV s) left zs) ∧ s3 = .slice (some ⟨g, 0, none⟩) zs.length cap ∧
      Hid (wx.ownsRow (B + 1) 3 1 (.slice (some ⟨g, 0, none⟩) zs.length cap) zs.length (zs.map (Value.int .i64))) ∧ g ≠ B + 2 ∧ Hid (wx.heap[B]? = some (.cells #[.int .i64 0, .slice none 0 0] 24)) ∧ Hid (Below B w wx)) (fun _ wx => wx.rangeLeft L.hb (B + 2))
  case atStart => exact ⟨_, _, [], B + 1, Maps.size D, hrg0, Col.start HV.out, rfl, HO0.out, by omega, HR0.out, HB0.out⟩
  case round =>
    obtain ⟨left, cnt, zs, g, cap, hrg, HC, rfl, HO, hgne, HR, HB⟩ := hrel
    clear HB0 HR0 HO0 hrg0
    go_wp2_with (at_next; refine wpList_next_ranges _ rfl (.tmp 21) rfl 3 keyed3 valElem (Value.int .i64) (fun v : Value => v) (fun key kl hk => by obtain ⟨x, hx, _⟩ := Maps.keyOf_int_inv Try.underlying3 hk; exact ⟨x, hx⟩) (fun v _ _ => ⟨v, rfl⟩) L.hb (B + 2) top _ _ _ rfl hrg ?_ ?_)
    · intro hc0 hl0
      have hmem := HC.out.done hl0
      have hmem' : ∀ x, x ∈ zs ↔ (s.held x).isSome = true := fun x => (hmem x).trans (by unfold heldV; cases s.held x <;> simp)
      have hI := image_of HD.out.ok zs HC.out.nodup hmem'
      have hzl : zs.length ≤ 1048576 := nodup_le 1048576 zs HC.out.nodup fun y hy => by
        cases hm : heldV s y with
        | none => have := (hmem y).1 hy; rw [hm] at this; cases this
        | some v => exact (HV.out.some y v hm).1
      have hgl := HO.out.lt g rfl
      have hcells : ∀ j, j < zs.length → wr.cell? ⟨g, 0 + j, none⟩ = some (.int .i64 (zs.getD j 0)) := fun j hj => by
        have q := HO.out.cells (g := g) rfl j (.int .i64 (zs.getD j 0)) (by rw [List.getElem?_map, List.getElem?_eq_getElem hj]; simp [List.getD, hj])
        rw [Go.WideShapes.add_plain] at q
        exact q
      have hfroz : ∀ j, j < zs.length → wr.frozen? ⟨g, 0 + j, none⟩ = false := fun j hj => by
        rcases HO.out.2 with ⟨h, _⟩ | ⟨g'', cap'', cur, h, _, hh, _⟩
        · cases h
        · injection h with h1 h2 h3
          injection h1 with h1
          injection h1 with h1
          rw [← h1] at hh
          exact Joins.unfrozen_of_block hh _
      have hS := sort_ints (cap := cap) zs hcells hfroz hgl.2 (by omega)
      have HI : Hid (IsImage s (withHeld s (sortL zs))) := hI
      have hsl : (sortL zs).length = zs.length := (List.mergeSort_perm _ _).length_eq
      have hsm : ∀ x, x ∈ sortL zs ↔ (s.held x).isSome = true := fun x => (List.mergeSort_perm zs _).mem_iff.trans (hmem' x)
      have HSM : Hid (∀ x, x ∈ sortL zs ↔ (s.held x).isSome = true) := hsm
      clear HC HO hrg hmem hmem' hI hcells hfroz hl0 hc0 hsm HV
      go_wp2_with (go_at_call 32; fail)
      refine hS.mono ?_
      rintro e W2 ⟨rfl, hcs, hF2⟩
      have hD2 : DiskAt W2 L s := HD.out.kept fun k hk => by
        have hk2 := HD.out.lt k hk
        rw [hBB] at hk2
        have q := HB.out.block k hk2
        exact (hF2.block k (by have := HB.out.size; omega) (by omega)).trans q
      have hB2 : Below B w W2 := ⟨hF2.os.trans HB.out.os, hF2.tape.trans HB.out.tape, hF2.output.trans HB.out.output, Nat.le_trans HB.out.size hF2.size, fun k hk => (hF2.block k (by have := HB.out.size; omega) (by omega)).trans (HB.out.block k hk)⟩
      have hR2 : W2.heap[B]? = some (.cells #[.int .i64 0, .slice none 0 0] 24) := (hF2.block B (Array.getElem?_eq_some_iff.1 HR.out).1 (by omega)).trans HR.out
      have hg2 : g < W2.heap.size := Nat.lt_of_lt_of_le hgl.2 hF2.size
      clear hS HB HR hF2 HD
      obtain ⟨cur, hcz, hmk⟩ := run_make30 W2 zs.length (by omega)
      have HC0 : Hid (∀ j, j < zs.length → W2.cell? ⟨g, j, none⟩ = some (.int .i64 ((sortL zs).getD j 0))) := hcs
      have HD2 : Hid (DiskAt W2 L s) := hD2
      have HB2 : Hid (Below B w W2) := hB2
      have HR2 : Hid (W2.heap[B]? = some (.cells #[.int .i64 0, .slice none 0 0] 24)) := hR2
      have hdlt : L.d < W2.heap.size := hD2.lt L.d (.inl rfl)
      have hBlt : B < W2.heap.size := (Array.getElem?_eq_some_iff.1 hR2).1
      clear hcs hD2 hB2 hR2
      go_wp2
      have HN : Hid ((W2.alloc (.cells cur 54)).heap[W2.heap.size]? = some (.cells cur 54)) := heap_alloc_new W2 _
      have HBn : Hid (Below W2.heap.size W2 (W2.alloc (.cells cur 54))) := below_new W2 _
      clear hmk
      generalize W2.alloc (.cells cur 54) = W3 at *
      generalize hG : W2.heap.size = G at *
      generalize hm : zs.length = m at *
      generalize hys : sortL zs = ys at *
      go_loopw [37] (fun s37 wx => ∃ (k : Nat) (cur : Array Value), k ≤ m ∧ s37 = .int .i64 k ∧ Hid (wx.heap[G]? = some (.cells cur 54) ∧ cur.size = m * 1025 ∧ cur.toList.take (k * 1025) = celCells ((withHeld s ys).take k)) ∧ Hid (Below G W2 wx)) (fun s37 _ => m - (intOf s37).toNat)
      case atStart => exact ⟨0, cur, by omega, rfl, ⟨HN.out, hcz, by rw [Nat.zero_mul, List.take_zero, List.take_zero]; rfl⟩, HBn.out⟩
      case round =>
        obtain ⟨k, cu, hk, rfl, HC, HB⟩ := hrel
        clear HN HBn
        by_cases hk2 : (k : Int) < m
        · have hky : k < ys.length := by omega
          have hy : ys[k]? = some ys[k] := List.getElem?_eq_getElem hky
          have hyd : ys.getD k 0 = ys[k] := by simp [List.getD, hky]
          have hca := HC0.out k (by omega)
          rw [hyd] at hca
          have hmy : ys[k] ∈ ys := List.getElem_mem hky
          generalize ys[k] = y at *
          have hsome := (HSM.out y).1 hmy
          obtain ⟨f, hf⟩ := Option.isSome_iff_exists.1 hsome
          have hin := inTop_of HD2.out.ok (HD2.out.ok.held y f hf).1
          have hW := inTop.wf hin
          have hcl : (withHeld s ys)[k]? = some (y, f) := by unfold withHeld; rw [List.getElem?_map, hy]; simp [hf]
          have hca' : wr.cell? ⟨g, k, none⟩ = some (.int .i64 y) := (HB.out.cell (p := ⟨g, k, none⟩) (by show g < G; omega)).trans hca
          have hDr := HD2.out.kept (w' := wr) fun k hk => HB.out.block k (by have := HD2.out.lt k hk; omega)
          have c2 := hDr.c2
          have hHeld := hDr.held
          have hhv : heldV s y = some (.agg (blk f)) := by unfold heldV; simp only [hf, Option.map]
          obtain ⟨hn1, hn2, hn3⟩ := HC.out
          have hfit : (k + 1) * 1025 ≤ m * 1025 := Nat.mul_le_mul_right _ (by omega)
          have hfit2 : k * 1025 + 1025 ≤ cu.size := by rw [hn2, ← Nat.succ_mul]; exact hfit
          have HC2 : Hid ((wr.setRow G (putCel cu (k * 1025) (y, f))).heap[G]? = some (.cells (putCel cu (k * 1025) (y, f)) 54) ∧ (putCel cu (k * 1025) (y, f)).size = m * 1025 ∧ (putCel cu (k * 1025) (y, f)).toList.take ((k + 1) * 1025) = celCells ((withHeld s ys).take (k + 1))) :=
            ⟨setRow_heap _ _ _ _ _ _ hn1, size_cel hn2 (by rw [← hn2]; exact hfit2), take_cel hcl hn3 (by rw [hn2]; exact hfit)⟩
          have HB3 : Hid (Below G W2 (wr.setRow G (putCel cu (k * 1025) (y, f)))) := below_setRow HB.out (Nat.le_refl _) _
          have z25 := zero25
          clear hn2 hn3 HC HB hfit hDr hcl hca hmy hsome hf hy hyd
          generalize nought = N at *
          go_wp2_with (first | refine wpList_lookM1 rfl (.tmp 48) (.tmp 49) 63 rfl 46 Try.underlying3 keyed3 Try.underlying63 rfl hHeld (z25 _) y hW rfl _ hhv ?_ | refine wpList_build85 rfl (.tmp 44) (.tmp 50) rfl y f rfl rfl ?_ | refine wpList_store85 rfl (.tmp 52) (.tmp 51) rfl G (k * 1025) (y, f) rfl rfl cu hn1 hfit2 ?_)
          exact ⟨⟨k + 1, _, by omega, by go_num, HC2.out, HB3.out⟩, by simp [intOf]; omega⟩
        · obtain rfl : k = m := by omega
          have hfin : (wr.heap[G]? = some (.cells (celCells (withHeld s ys)).toArray 54)) := by
            obtain ⟨hn1, hn2, hn3⟩ := HC.out
            have hl : (withHeld s ys).length = k := by unfold withHeld; rw [List.length_map]; omega
            rw [← hn2, ← Array.length_toList, List.take_length, ← hl, List.take_length] at hn3
            rw [hn1, ← hn3, Array.toArray_toList]
          have hDr := HD2.out.kept (w' := wr) fun k hk => HB.out.block k (by have := HD2.out.lt k hk; omega)
          have c1 := hDr.c1
          have hRr : wr.heap[B]? = some (.cells #[.int .i64 0, .slice none 0 0] 24) := (HB.out.block B hBlt).trans HR2.out
          have cB0 : wr.cell? ⟨B, 0, none⟩ = some (.int .i64 0) := Joins.cell_of_block hRr 0
          have cB1 : wr.cell? ⟨B, 1, none⟩ = some (.slice none 0 0) := Joins.cell_of_block hRr 1
          have fB0 : wr.frozen? ⟨B, 0, none⟩ = false := Joins.unfrozen_of_block hRr 0
          have fB1 : wr.frozen? ⟨B, 1, none⟩ = false := Joins.unfrozen_of_block hRr 1
          have hl : (withHeld s ys).length = k := by unfold withHeld; rw [List.length_map]; omega
          have HFin : Hid (wr.heap[G]? = some (.cells (celCells (withHeld s ys)).toArray 54)) := hfin
          have HRr : Hid (wr.heap[B]? = some (.cells #[.int .i64 0, .slice none 0 0] 24)) := hRr
          clear hfin hDr HC hRr
          go_wp2
          have hrow := Joins.block_setCell (Joins.block_setCell HRr.out (i := 0) (.int .i64 s.n)) (i := 1) (.slice (some ⟨G, 0, none⟩) k k)
          refine ret32 rfl B _ rfl hrow rfl rfl ⟨G, withHeld s ys, by rw [hl]; rfl, HI.out, ?_, by omega, ?_⟩
          · rw [Below.heap_setCell _ _ _ _ (by show G ≠ B; omega), Below.heap_setCell _ _ _ _ (by show G ≠ B; omega)]
            exact HFin.out
          · exact ((HB2.out.trans (HB.out.mono (by omega))).setCell (Nat.le_refl _) _).setCell (Nat.le_refl _) _
    · intro x c kl yd yp w1 cnt1 hkey hlk hval hat hrg1 hlt1 hg1 hs1 hen
      obtain ⟨x', ex, rfl, hwx⟩ := Maps.keyOf_int_inv Try.underlying3 hkey
      obtain rfl : x = x' := by injection ex
      obtain ⟨hC1, hsome⟩ := HC.out.step HV.out hlk hat
      have hlen : zs.length + 1 ≤ 1048576 := by
        have q := nodup_le 1048576 (zs ++ [x]) hC1.nodup fun y hy => by
          have q1 := ((hC1.mem y).1 hy).1
          cases hm : heldV s y with
          | none => rw [hm] at q1; cases q1
          | some v => exact (HV.out.some y v hm).1
        simpa using q
      have HC1 : Hid (Col (heldV s) (fun z => left z && !z.sameKey (.int .i64 x)) (zs ++ [x])) := hC1
      have hgl := (HO.out.lt g rfl).1
      have hown1 := HO.out.kept hg1 (.inr (by simp only [Value.ownBlock]; exact fun q => hgne (by injection q)))
      have hR1 : w1.heap[B]? = some (.cells #[.int .i64 0, .slice none 0 0] 24) := (hg1.block B (Array.getElem?_eq_some_iff.1 HR.out).1 (fun q => by injection q with q; omega)).trans HR.out
      have hB1 : Below B w w1 := HB.out.grown hg1 (by rw [← hBB]; exact HB.out.size |> fun q => by rw [← hBB] at *; exact q) (fun j hj => by cases hj; omega)
      have hBs : B ≤ wr.heap.size := by have := HB.out.size; omega
      have hBs1 : B + 2 < w1.heap.size := hrg1.lt
      clear hs1 hC1 HC HO HR HB hkey hval hat hsome
      have HRG : Hid (w1.ranges Try.prog 3 valElem L.hb (B + 2) top D (fun z => left z && !z.sameKey (.int .i64 x)) cnt1) := hrg1
      have HLE : Hid (wr.rangeLeft L.hb (B + 2) = cnt) := hrg.left_eq
      clear hrg1 hrg hg1
      go_wp2_with (at_builtin; refine wpList_append_own_at _ rfl (.tmp 26) (.tmp 28) 72 rfl (B + 1) 3 i0 (.int .i64 0) 1 8 Try.underlying72 hi0 hz0 hz1 hz2 rfl (by decide) (.slice (some ⟨g, 0, none⟩) zs.length cap) zs.length _ rfl (hown1.alloc _) ⟨w1.heap.size, 0, none⟩ 1 1 [.int .i64 x] rfl rfl (cell_one_new _ _ _) (ints_oneCell .i64 [x]) (by unfold maxLen; omega) (by omega) (by simp; omega) ?_; intro v' w2 hown2 hg2 hnil hloc)
      obtain ⟨g', cap', rfl⟩ : ∃ g' cap', v' = .slice (some ⟨g', 0, none⟩) (zs.length + 1) cap' := by
        rcases hown2.2 with ⟨_, h⟩ | ⟨g', cap', _, h, _⟩
        · omega
        · exact ⟨g', cap', h⟩
      have hg2' : (w1.alloc (.cells #[.int .i64 x] 3)).grownBy w2 (some g) := hg2
      have hrg2 := (HRG.out.alloc (.cells #[.int .i64 x] 3)).kept hg2' (fun q => by injection q with q; omega) (fun q => by injection q with q; omega)
      have hg'ne : g' ≠ B + 2 := by
        rcases hloc with q | q
        · have q' : some g' = some g := q
          injection q' with q'
          omega
        · have q' : some g' = some (w1.alloc (.cells #[.int .i64 x] 3)).heap.size := q
          injection q' with q'
          simp at q'
          omega
      have hl1 : (zs ++ [x]).length = zs.length + 1 := by simp
      refine ⟨⟨_, cnt1, zs ++ [x], g', cap', hrg2, HC1.out, by rw [hl1], ?_, hg'ne, ?_, ?_⟩, ?_⟩
      · rw [hl1, List.map_append]
        exact hown2
      · exact (hg2'.block B (by simp; omega) (fun q => by injection q with q; omega)).trans (heap_kept hR1 (below_new _ _))
      · exact ((hB1.alloc (by have := hB1.size; omega) _).grown hg2' (by simp; omega) (fun j hj => by cases hj; omega))
      · rw [hrg2.left_eq, HLE.out]
        exact hlt1
end Go.Proofs.YtlcdpmjdnihocaaD
/- A disk that a function made itself, with blocks beside it that stay: each call once more, in one form; no condition but that numbers do not pass their greatest. -/
namespace Go.Proofs.YtlcdpmjdnihocaaD
open Go.RowKit

/-- In W, which has come of w, the disk at d stands for s; all of it is new since w; so nothing that w had has turned; the blocks of ks hold what is told, and are none of the disk's. -/
structure SitsL (w W : World) (L : Loc) (s : St) (ks : List (Nat × Obj)) : Prop where
  disk : DiskAt W L s
  new : L.from w.heap.size
  below : Below w.heap.size w W
  keep : ∀ p ∈ ks, W.heap[p.1]? = some p.2 ∧ ¬ L.has p.1
def Sits (w W : World) (d : Nat) (s : St) (ks : List (Nat × Obj)) : Prop := ∃ L : Loc, L.d = d ∧ SitsL w W L s ks
theorem SitsL.goes {w W W' : World} {L L' : Loc} {s s' : St} {ks : List (Nat × Obj)} (h : SitsL w W L s ks) (hD : DiskAt W' L' s') (hG : Goes W W' L L') : SitsL w W' L' s' ks := by
  refine ⟨hD, fun k hk => ?_, h.below.trans (hG.fr.below h.new h.below.size), fun p hp => ?_⟩
  · rcases hG.own k hk with q | q
    · exact h.new k q
    · have := h.below.size
      omega
  · obtain ⟨h1, h2⟩ := h.keep p hp
    have hlt := (Array.getElem?_eq_some_iff.1 h1).1
    refine ⟨(hG.fr.block p.1 hlt h2).trans h1, fun q => ?_⟩
    rcases hG.own p.1 q with q | q
    · exact h2 q
    · omega
variable {w W : World} {d : Nat} {s : St} {ks : List (Nat × Obj)}
theorem Sits.later {W' : World} (h : Sits w W d s ks) (hb : Below W.heap.size W W') : Sits w W' d s ks := by
  obtain ⟨L, hd, h⟩ := h
  exact ⟨L, hd, h.goes (h.disk.later hb) (Goes.ofBelow L hb)⟩
/-- Another block is told. -/
theorem Sits.add (h : Sits w W d s ks) (o : Obj) : Sits w (W.alloc o) d s ((W.heap.size, o) :: ks) := by
  obtain ⟨L, hd, h⟩ := h
  have h2 := h.goes (h.disk.later (below_new W o)) (Goes.ofBelow L (below_new W o))
  refine ⟨L, hd, h2.disk, h2.new, h2.below, fun p hp => ?_⟩
  rcases List.mem_cons.1 hp with rfl | hp
  · exact ⟨heap_alloc_new W o, fun q => by have := h.disk.lt _ q; simp only at this; omega⟩
  · exact h2.keep p hp
theorem Sits.blk (h : Sits w W d s ks) {g : Nat} {o : Obj} (hm : (g, o) ∈ ks) : W.heap[g]? = some o := by
  obtain ⟨L, hd, h⟩ := h
  exact (h.keep _ hm).1
theorem Sits.below (h : Sits w W d s ks) : Below w.heap.size w W := by
  obtain ⟨L, hd, h⟩ := h
  exact h.below
theorem Sits.ok (h : Sits w W d s ks) : Ok s := by
  obtain ⟨L, hd, h⟩ := h
  exact h.disk.ok
theorem Sits.drop (h : Sits w W d s ks) {ks' : List (Nat × Obj)} (hs : ∀ p ∈ ks', p ∈ ks) : Sits w W d s ks' := by
  obtain ⟨L, hd, h⟩ := h
  exact ⟨L, hd, h.disk, h.new, h.below, fun p hp => h.keep p (hs p hp)⟩
/-- A disk is made, with blocks that are there. -/
theorem sits_new {n : Int} (hn : bndB n = true) (hB : Below w.heap.size w W) (hk : ∀ p ∈ ks, W.heap[p.1]? = some p.2) :
    Calls Try.prog 19 #[.int .i64 n] W fun e W' => ∃ d, e = .returned (.tuple #[.pointer (some ⟨d, 0, none⟩), .int .i64 0]) ∧ Sits w W' d (newV n) ks := by
  refine (new_ok hn W).mono ?_
  rintro e W' ⟨L, rfl, hD, hL, hb⟩
  refine ⟨L.d, rfl, L, rfl, hD, fun k hk => by have := hL k hk; have := hB.size; omega, below_next hB hb, fun p hp => ?_⟩
  have h1 := hk p hp
  have hlt := (Array.getElem?_eq_some_iff.1 h1).1
  exact ⟨heap_kept h1 hb, fun q => by have := hL _ q; omega⟩
theorem sits_len (h : Sits w W d s ks) : Calls Try.prog 36 #[.pointer (some ⟨d, 0, none⟩)] W fun e W' => e = .returned (.int .i64 s.n) ∧ Sits w W' d s ks := by
  obtain ⟨L, rfl, hS⟩ := h
  exact (len_of hS.disk).mono fun e W' ⟨h1, h2⟩ => ⟨h1, by rw [h2]; exact ⟨L, rfl, hS⟩⟩
theorem sits_made (h : Sits w W d s ks) : Calls Try.prog 13 #[.pointer (some ⟨d, 0, none⟩)] W fun e W' => e = .returned (.int .i64 s.made) ∧ Sits w W' d s ks := by
  obtain ⟨L, rfl, hS⟩ := h
  exact (made_of hS.disk).mono fun e W' ⟨h1, h2⟩ => ⟨h1, by rw [h2]; exact ⟨L, rfl, hS⟩⟩
theorem sits_stopped (h : Sits w W d s ks) : Calls Try.prog 38 #[.pointer (some ⟨d, 0, none⟩)] W fun e W' => e = .returned (.bool s.stopped) ∧ Sits w W' d s ks := by
  obtain ⟨L, rfl, hS⟩ := h
  exact (stopped_of hS.disk).mono fun e W' ⟨h1, h2⟩ => ⟨h1, by rw [h2]; exact ⟨L, rfl, hS⟩⟩
theorem sits_fuse (h : Sits w W d s ks) (n : Int) (hn : n ≤ 9223372036854775807) : Calls Try.prog 14 #[.pointer (some ⟨d, 0, none⟩), .int .i64 n] W fun e W' => e = .returned (.tuple #[]) ∧ Sits w W' d (fuseV s n) ks := by
  obtain ⟨L, rfl, hS⟩ := h
  exact (fuse_of hS.disk n hn).mono fun e W' ⟨h1, h2, h3⟩ => ⟨h1, L, rfl, hS.goes h2 h3⟩
theorem sits_claim (h : Sits w W d s ks) (hr : Room s) : Calls Try.prog 24 #[.pointer (some ⟨d, 0, none⟩)] W fun e W' => e = .returned (.int .i64 (claimN s)) ∧ Sits w W' d (claimV s) ks := by
  obtain ⟨L, rfl, hS⟩ := h
  exact (claim_of hS.disk hr).mono fun e W' ⟨h1, h2, h3⟩ => ⟨h1, L, rfl, hS.goes h2 h3⟩
theorem sits_read (h : Sits w W d s ks) (hr : Room s) (k : Int) :
    Calls Try.prog 20 #[.pointer (some ⟨d, 0, none⟩), .int .i64 k] W fun e W' => e = .returned (.tuple #[.agg (blk (readB s k)), .int .i64 (refV s k)]) ∧ Sits w W' d (readV s k) ks := by
  obtain ⟨L, rfl, hS⟩ := h
  unfold readB readV
  by_cases hb : refV s k = 0
  · rw [if_pos hb, if_pos hb, hb]
    exact (read_ok hS.disk hr hb).mono fun e W' ⟨h1, h2, h3⟩ => ⟨h1, L, rfl, hS.goes h2 h3⟩
  · rw [if_neg hb, if_neg hb]
    exact (read_bad hS.disk hb).mono fun e W' ⟨h1, h2⟩ => ⟨h1, L, rfl, hS.goes (hS.disk.later h2) (Goes.ofBelow L h2)⟩
def writeV (s : St) (k : Int) (f : Nat → Int) : St := if refV s k = 0 then (if lets s then writeS s k f else letV s) else s
def writeE (s : St) (k : Int) : Int := if refV s k = 0 then (if lets s then 0 else 3) else refV s k
theorem sits_write (h : Sits w W d s ks) (hr : Room s) (k : Int) {f : Nat → Int} (hf : Can f) :
    Calls Try.prog 39 #[.pointer (some ⟨d, 0, none⟩), .int .i64 k, .agg (blk f)] W fun e W' => e = .returned (.int .i64 (writeE s k)) ∧ Sits w W' d (writeV s k f) ks := by
  obtain ⟨L, rfl, hS⟩ := h
  unfold writeE writeV
  by_cases hb : refV s k = 0
  · rw [if_pos hb, if_pos hb]
    cases hl : lets s
    · exact (write_dead hS.disk hr hb hl f).mono fun e W' ⟨h1, h2, h3⟩ => ⟨h1, L, rfl, hS.goes h2 h3⟩
    · exact (write_ok hS.disk hr hb hl hf).mono fun e W' ⟨h1, L', h2, h3⟩ => ⟨h1, L', h3.d, hS.goes h2 h3⟩
  · rw [if_neg hb, if_neg hb]
    exact (write_bad hS.disk hb f).mono fun e W' ⟨h1, h2⟩ => ⟨h1, L, rfl, hS.goes (hS.disk.later h2) (Goes.ofBelow L h2)⟩
def barV (s : St) : St := if s.stopped then s else (if lets s then barS s else letV s)
def barE (s : St) : Int := if s.stopped then 3 else (if lets s then 0 else 3)
theorem sits_barrier (h : Sits w W d s ks) (hr : Room s) :
    Calls Try.prog 28 #[.pointer (some ⟨d, 0, none⟩)] W fun e W' => e = .returned (.int .i64 (barE s)) ∧ Sits w W' d (barV s) ks := by
  obtain ⟨L, rfl, hS⟩ := h
  unfold barE barV
  cases hs : s.stopped
  · cases hl : lets s
    · exact (barrier_dead hS.disk hr hs hl).mono fun e W' ⟨h1, h2, h3⟩ => ⟨h1, L, rfl, hS.goes h2 h3⟩
    · exact (barrier_ok hS.disk hr hs hl).mono fun e W' ⟨h1, L', h2, h3⟩ => ⟨h1, L', h3.d, hS.goes h2 h3⟩
  · exact (barrier_stopped hS.disk hs).mono fun e W' ⟨h1, h2⟩ => ⟨h1, by rw [h2]; exact ⟨L, rfl, hS⟩⟩
theorem sits_crash (h : Sits w W d s ks) {kv : Value} {kl : List Bool} (hkv : BoolsAt W kv kl) (hwl : s.wait.length < 68719476736) (hkl : kl.length < 9223372036854775807) :
    Calls Try.prog 15 #[.pointer (some ⟨d, 0, none⟩), kv] W fun e W' => e = .returned (.int .i64 0) ∧ Sits w W' d (crashS s kl) ks := by
  obtain ⟨L, rfl, hS⟩ := h
  exact (crash_of hS.disk hkv hwl hkl).mono fun e W' ⟨h1, L', h2, h3⟩ => ⟨h1, L', h3.d, hS.goes h2 h3⟩
theorem sits_image (h : Sits w W d s ks) :
    Calls Try.prog 16 #[.pointer (some ⟨d, 0, none⟩)] W fun e W' => ∃ (g : Nat) (l : List Cel), e = .returned (.agg #[.int .i64 s.n, .slice (some ⟨g, 0, none⟩) l.length l.length]) ∧ IsImage s l ∧ W'.heap[g]? = some (.cells (celCells l).toArray 54) ∧ W.heap.size ≤ g ∧ Sits w W' d s ks := by
  have h' := h
  obtain ⟨L, rfl, hS⟩ := h
  exact (image_walk hS.disk).mono fun e W' ⟨g, l, h1, h2, h3, h4, h5⟩ => ⟨g, l, h1, h2, h3, h4, h'.later h5⟩
/-- Of what is held alone an image knows. -/
theorem IsImage.one {s : St} {l m : List Cel} (h : IsImage s l) (hr : Rise (-1) m) (hs : Sound m) (ha : ∀ k, atL m k = (s.held k).getD nought) : l = m := rise_ext h.rise hr h.sound hs fun k => (h.at_ k).trans (ha k).symm
theorem IsImage.none {s : St} {l : List Cel} (h : IsImage s l) (hn : ∀ k, s.held k = none) : l = [] := h.one (m := []) trivial (fun c hc => by simp at hc) fun k => by rw [hn k]; rfl
end Go.Proofs.YtlcdpmjdnihocaaD
/- Rows of elements of several cells; lists of puts that came in; a number taken into bounds; no condition. -/
namespace Go.Proofs.YtlcdpmjdnihocaaD
open Go.RowKit

section
variable {α : Type} (row : α → List Value) (n : Nat)
theorem fm_len (hr : ∀ x, (row x).length = n) : ∀ l : List α, (l.flatMap row).length = l.length * n
  | [] => by simp
  | x :: t => by rw [List.flatMap_cons, List.length_append, hr x, fm_len hr t, List.length_cons, Nat.add_mul]; omega
theorem fm_get (hr : ∀ x, (row x).length = n) : ∀ (l : List α) (i j : Nat) (r : α), l[i]? = some r → j < n → (l.flatMap row)[i * n + j]? = (row r)[j]?
  | [], i, j, r, h, _ => by simp at h
  | x :: t, 0, j, r, h, hj => by
    have h' : x = r := by simpa using h
    subst h'
    rw [List.flatMap_cons, Nat.zero_mul, Nat.zero_add, List.getElem?_append_left (by rw [hr]; exact hj)]
  | x :: t, i + 1, j, r, h, hj => by
    have h' : t[i]? = some r := by simpa using h
    rw [List.flatMap_cons, List.getElem?_append_right (by rw [hr, Nat.add_mul]; omega), hr, show (i + 1) * n + j - n = i * n + j by rw [Nat.add_mul]; omega]
    exact fm_get hr t i j r h' hj
theorem fm_set (hr : ∀ x, (row x).length = n) : ∀ (l : List α) (i : Nat) (r : α), i < l.length → (l.flatMap row).take (i * n) ++ row r ++ (l.flatMap row).drop (i * n + n) = (l.set i r).flatMap row
  | [], i, r, h => by simp at h
  | x :: t, 0, r, _ => by
    rw [List.set_cons_zero, List.flatMap_cons, List.flatMap_cons, Nat.zero_mul, Nat.zero_add, List.take_zero, List.nil_append, ← hr x, List.drop_left]
  | x :: t, i + 1, r, h => by
    have ih := fm_set hr t i r (by simpa using h)
    have e1 : (i + 1) * n = (row x).length + i * n := by rw [hr, Nat.add_mul]; omega
    rw [List.set_cons_succ, List.flatMap_cons, List.flatMap_cons, ← ih, e1, List.take_length_add_append, Nat.add_assoc, List.drop_length_add_append]
    simp only [List.append_assoc]
end
/-- Blocks one behind the other. -/
def blkCells (l : List (Nat → Int)) : List Value := l.flatMap fun f => (blk f).toList
theorem blkCells_len (l : List (Nat → Int)) : (blkCells l).length = l.length * 1024 := fm_len _ 1024 blk_list_len l
theorem blkCells_set {l : List (Nat → Int)} {i : Nat} {f : Nat → Int} (h : i < l.length) : (blkCells l).take (i * 1024) ++ (blk f).toList ++ (blkCells l).drop (i * 1024 + 1024) = blkCells (l.set i f) := fm_set _ 1024 blk_list_len l i f h
theorem blkCells_at {w : World} {g i : Nat} {t : TypeId} {l : List (Nat → Int)} {f : Nat → Int} (h : w.heap[g]? = some (.cells (blkCells l).toArray t)) (hi : l[i]? = some f) : BlkAt w g (i * 1024) f := fun j v hv => by
  have hj : j < 1024 := by have := (List.getElem?_eq_some_iff.1 hv).1; rwa [blk_list_len] at this
  rw [cell_of_row w g _ _ t _ h, List.getElem?_toArray]
  exact (fm_get _ 1024 blk_list_len l i j f hi hj).trans hv
/-- A block is written into the middle of a row of blocks. -/
theorem wpList_storeB {ops : Array Oper} {rest : List Oper} {o : Oper} {a : Act} {w : World} {Q : Exit → Act → World → Prop} (hgd : o.guard = none) (x y : Operand) (ho : o.op = .store 46 x y)
    (g i off : Nat) (hoff : off = i * 1024) (f : Nat → Int) (hx : a.eval x = .pointer (some ⟨g, off, none⟩)) (hy : a.eval y = .agg (blk f)) (t : TypeId) (l : List (Nat → Int)) (hg : w.heap[g]? = some (.cells (blkCells l).toArray t)) (hi : i < l.length)
    (h : wpList Try.prog ops Q rest (a.put o.dst undef) (w.setRow g (blkCells (l.set i f)).toArray)) : wpList Try.prog ops Q (o :: rest) a w :=
  wpList_plain hgd fun _ hK => by
    have hl := blk_list_len f
    have hfit : off + 1024 ≤ (blkCells l).toArray.size := by
      rw [List.size_toArray, blkCells_len l, hoff, ← Nat.succ_mul]
      exact Nat.mul_le_mul_right _ hi
    have key : (blkCells l).take off ++ (blk f).toList ++ (blkCells l).drop (off + 1024) = blkCells (l.set i f) := by
      rw [hoff]
      exact blkCells_set hi
    clear hoff
    have hst := run_storeCells_at Try.prog g off t (blk f).toList 0 (blkCells l).toArray w hg (by rw [hl, Nat.add_zero]; exact hfit) (fun v hv => by
      have := blk_one f
      rw [Array.all_eq_true_iff_forall_mem] at this
      exact this v (by simpa using hv))
    rw [Nat.add_zero, hl] at hst
    have e1 : (blkCells l).toArray.toList = blkCells l := List.toList_toArray ..
    rw [e1, key] at hst
    have hr : (Instr.storeAt 46 (.pointer (some ⟨g, off, none⟩)) (.agg (blk f))).run Try.prog w = .ok () (w.setRow g (blkCells (l.set i f)).toArray) := by
      obtain ⟨i0, hi0⟩ := Option.isSome_iff_exists.1 (show (Try.prog.info? 46).isSome = true by kernel_rfl)
      have hz : i0.size = 1024 := by have := size25; rw [hi0] at this; simpa using this
      have hs := blk_size f
      generalize blk f = F at *
      simp [Instr.storeAt, Instr.sureAddr, storeVar, sizeOf, typeInfo, hi0, Value.cells, hs, hz, hst]
    unfold Oper.wp execOp
    simp only [ho, hx, hy, Sem.run_bind, hr, Result.andThen_ok, Sem.run_pure]
    exact hK _ _ h
theorem info58b : (Try.prog.info? 46).map (fun i => (i.zero, i.size, i.bytes)) = some (some (.agg (blk nought)), 1024, 1024) := by kernel_rfl
theorem blkCells_rep (n i : Nat) (hi : i < n * 1024) : (blkCells (List.replicate n nought))[i]? = some (.int .u8 0) := by
  have h1 : i / 1024 < n := Nat.div_lt_of_lt_mul (by rw [Nat.mul_comm]; exact hi)
  have h2 : i % 1024 < 1024 := Nat.mod_lt _ (by omega)
  have h3 := fm_get (fun f => (blk f).toList) 1024 blk_list_len (List.replicate n nought) (i / 1024) (i % 1024) nought (by rw [List.getElem?_replicate, if_pos h1]) h2
  have h4 : i / 1024 * 1024 + i % 1024 = i := Nat.div_add_mod' i 1024
  rw [h4] at h3
  unfold blkCells
  rw [h3, Array.getElem?_toList, blk_get nought _ h2]
  rfl
theorem made_blocks (n : Nat) : madeCells (blk nought) (n * 1024) = (blkCells (List.replicate n nought)).toArray := by
  apply Array.ext_getElem?
  intro i
  by_cases hi : i < n * 1024
  · have h : i % 1024 < 1024 := Nat.mod_lt _ (by decide)
    have hb := blk_get nought (i % 1024) h
    have hb' : (blk nought)[i % 1024]! = .int .u8 0 := by
      rw [Array.getElem!_eq_getD, Array.getD_eq_getD_getElem?, hb]; rfl
    rw [show ((blkCells (List.replicate n nought)).toArray)[i]? = (blkCells (List.replicate n nought))[i]? from List.getElem?_toArray, blkCells_rep n i hi]
    simp [madeCells, hi, blk_size, hb']
  · rw [Array.getElem?_eq_none (by simp [madeCells]; omega), show ((blkCells (List.replicate n nought)).toArray)[i]? = (blkCells (List.replicate n nought))[i]? from List.getElem?_toArray, List.getElem?_eq_none (by rw [blkCells_len, List.length_replicate]; omega)]
/-- An element of a list of blocks with numbers in memory. -/
theorem cel_at {w : World} {base g n cap : Nat} {l : List Cel} (h : w.ownsRow base 54 1025 (.slice (some ⟨g, 0, none⟩) n cap) n (celCells l)) {k K : Nat} {c : Cel} (hK : K = k * 1025) (hk : l[k]? = some c) :
    w.cell? ⟨g, K, none⟩ = some (.int .i64 c.1) ∧ BlkAt w g (K + 1) c.2 := by
  have hc := h.cells (g := g) rfl
  have key : ∀ j, j < 1025 → ∀ v, (celRow c)[j]? = some v → w.cell? ⟨g, K + j, none⟩ = some v := fun j hj v hv => by
    have q0 := (fm_get celRow 1025 celRow_len l k j c hk hj).trans hv
    rw [← hK] at q0
    have q := hc (K + j) v q0
    rwa [Go.WideShapes.add_plain, Nat.zero_add] at q
  clear hK hk hc h
  refine ⟨key 0 (by omega) _ rfl, fun j v hv => ?_⟩
  have hj : j < 1024 := by have := (List.getElem?_eq_some_iff.1 hv).1; rwa [blk_list_len] at this
  rw [Nat.add_assoc, Nat.add_comm 1 j]
  refine key (j + 1) (by omega) v ?_
  rw [show (celRow c)[j + 1]? = (blk c.2).toList[j]? by simp only [celRow, List.getElem?_cons_succ]]
  exact hv

/-- i taken into n. -/
theorem pick_any (i n : Int) (hn : 1 ≤ n ∧ n ≤ 1048576) (w : World) : Calls Try.prog 12 #[.int .i64 i, .int .i64 n] w fun e w' => e = .returned (.int .i64 (i % n)) ∧ w' = w := by
  have h0 : n ≠ 0 := by omega
  have hb : -n < Int.tmod i n ∧ Int.tmod i n < n := by
    have h1 := Int.natAbs_tmod i n
    have h2 : (Int.tmod i n).natAbs < n.natAbs := by
      rw [Int.natAbs_tmod]
      exact Nat.mod_lt _ (by omega)
    omega
  have hw : IntKind.i64.wrap (Int.tmod i n) = Int.tmod i n := by rw [IntKind.wrap_i64]; omega
  have hm : Int.tmod i n % n = i % n := by
    have h1 := Int.tmod_add_mul_tdiv i n
    have h2 : i % n = (Int.tmod i n + n * Int.tdiv i n) % n := by rw [h1]
    rw [h2, Int.add_mul_emod_self_left]
  by_cases hneg : Int.tmod i n < 0
  · have he : Int.tmod i n + n = i % n := by
      rw [← hm, ← Int.add_emod_right, Int.emod_eq_of_lt (by omega) (by omega)]
    have hw2 : IntKind.i64.wrap (Int.tmod i n + n) = Int.tmod i n + n := by rw [IntKind.wrap_i64]; omega
    rw [← he]
    clear hm he
    go_enter Try.func12, Try.ntmps12
    go_wp2
    go_ret
    exact ⟨rfl, rfl⟩
  · have he : Int.tmod i n = i % n := by rw [← hm, Int.emod_eq_of_lt (by omega) (by omega)]
    rw [← he]
    clear hm he
    go_enter Try.func12, Try.ntmps12
    go_wp2
    go_ret
    exact ⟨rfl, rfl⟩
end Go.Proofs.YtlcdpmjdnihocaaD
/- A disk with whatever stays beside it while the disk alone turns: each call in one form; no condition but that numbers do not pass their greatest. -/
namespace Go.Proofs.YtlcdpmjdnihocaaD
open Go.RowKit

/-- P stays while nothing turns but the disk's own blocks and new ones. -/
def Stays (P : World → Loc → Prop) : Prop := ∀ W W' L L', (∀ k, L.has k → k < W.heap.size) → P W L → Goes W W' L L' → P W' L'
/-- The disk at d stands for s, and P. -/
def Has (P : World → Loc → Prop) (W : World) (d : Nat) (s : St) : Prop := ∃ L : Loc, L.d = d ∧ DiskAt W L s ∧ P W L
variable {P : World → Loc → Prop} {W : World} {d : Nat} {s : St}
theorem Has.ok (h : Has P W d s) : Ok s := by
  obtain ⟨L, _, hD, _⟩ := h
  exact hD.ok
theorem Has.later (hP : Stays P) {W' : World} (h : Has P W d s) (hb : Below W.heap.size W W') : Has P W' d s := by
  obtain ⟨L, hd, hD, hp⟩ := h
  exact ⟨L, hd, hD.later hb, hP W W' L L hD.lt hp (Goes.ofBelow L hb)⟩
theorem Has.goes (hP : Stays P) {W' : World} {L L' : Loc} {s' : St} (hd : L.d = d) (hD : DiskAt W L s) (hp : P W L) (hD' : DiskAt W' L' s') (hG : Goes W W' L L') : Has P W' d s' := ⟨L', hG.d.trans hd, hD', hP W W' L L' hD.lt hp hG⟩
theorem has_stopped (h : Has P W d s) : Calls Try.prog 38 #[.pointer (some ⟨d, 0, none⟩)] W fun e W' => e = .returned (.bool s.stopped) ∧ W' = W := by
  obtain ⟨L, rfl, hD, _⟩ := h
  exact stopped_of hD
theorem has_made (h : Has P W d s) : Calls Try.prog 13 #[.pointer (some ⟨d, 0, none⟩)] W fun e W' => e = .returned (.int .i64 s.made) ∧ W' = W := by
  obtain ⟨L, rfl, hD, _⟩ := h
  exact made_of hD
theorem has_fuse (hP : Stays P) (h : Has P W d s) (n : Int) (hn : n ≤ 9223372036854775807) : Calls Try.prog 14 #[.pointer (some ⟨d, 0, none⟩), .int .i64 n] W fun e W' => e = .returned (.tuple #[]) ∧ Has P W' d (fuseV s n) := by
  obtain ⟨L, rfl, hD, hp⟩ := h
  exact (fuse_of hD n hn).mono fun e W' ⟨h1, h2, h3⟩ => ⟨h1, Has.goes hP rfl hD hp h2 h3⟩
theorem has_read (hP : Stays P) (h : Has P W d s) (hr : Room s) (k : Int) :
    Calls Try.prog 20 #[.pointer (some ⟨d, 0, none⟩), .int .i64 k] W fun e W' => e = .returned (.tuple #[.agg (blk (readB s k)), .int .i64 (refV s k)]) ∧ Has P W' d (readV s k) := by
  obtain ⟨L, rfl, hD, hp⟩ := h
  unfold readB readV
  by_cases hb : refV s k = 0
  · rw [if_pos hb, if_pos hb, hb]
    exact (read_ok hD hr hb).mono fun e W' ⟨h1, h2, h3⟩ => ⟨h1, Has.goes hP rfl hD hp h2 h3⟩
  · rw [if_neg hb, if_neg hb]
    exact (read_bad hD hb).mono fun e W' ⟨h1, h2⟩ => ⟨h1, Has.goes hP rfl hD hp (hD.later h2) (Goes.ofBelow L h2)⟩
theorem has_write (hP : Stays P) (h : Has P W d s) (hr : Room s) (k : Int) {f : Nat → Int} (hf : Can f) :
    Calls Try.prog 39 #[.pointer (some ⟨d, 0, none⟩), .int .i64 k, .agg (blk f)] W fun e W' => e = .returned (.int .i64 (writeE s k)) ∧ Has P W' d (writeV s k f) := by
  obtain ⟨L, rfl, hD, hp⟩ := h
  unfold writeE writeV
  by_cases hb : refV s k = 0
  · rw [if_pos hb, if_pos hb]
    cases hl : lets s
    · exact (write_dead hD hr hb hl f).mono fun e W' ⟨h1, h2, h3⟩ => ⟨h1, Has.goes hP rfl hD hp h2 h3⟩
    · exact (write_ok hD hr hb hl hf).mono fun e W' ⟨h1, L', h2, h3⟩ => ⟨h1, Has.goes hP rfl hD hp h2 h3⟩
  · rw [if_neg hb, if_neg hb]
    exact (write_bad hD hb f).mono fun e W' ⟨h1, h2⟩ => ⟨h1, Has.goes hP rfl hD hp (hD.later h2) (Goes.ofBelow L h2)⟩
theorem has_barrier (hP : Stays P) (h : Has P W d s) (hr : Room s) :
    Calls Try.prog 28 #[.pointer (some ⟨d, 0, none⟩)] W fun e W' => e = .returned (.int .i64 (barE s)) ∧ Has P W' d (barV s) := by
  obtain ⟨L, rfl, hD, hp⟩ := h
  unfold barE barV
  cases hs : s.stopped
  · cases hl : lets s
    · exact (barrier_dead hD hr hs hl).mono fun e W' ⟨h1, h2, h3⟩ => ⟨h1, Has.goes hP rfl hD hp h2 h3⟩
    · exact (barrier_ok hD hr hs hl).mono fun e W' ⟨h1, L', h2, h3⟩ => ⟨h1, Has.goes hP rfl hD hp h2 h3⟩
  · exact (barrier_stopped hD hs).mono fun e W' ⟨h1, h2⟩ => ⟨h1, by rw [h2]; exact ⟨L, rfl, hD, hp⟩⟩
theorem has_crash (hP : Stays P) (h : Has P W d s) {kv : Value} {kl : List Bool} (hkv : BoolsAt W kv kl) (hwl : s.wait.length < 68719476736) (hkl : kl.length < 9223372036854775807) :
    Calls Try.prog 15 #[.pointer (some ⟨d, 0, none⟩), kv] W fun e W' => e = .returned (.int .i64 0) ∧ Has P W' d (crashS s kl) := by
  obtain ⟨L, rfl, hD, hp⟩ := h
  exact (crash_of hD hkv hwl hkl).mono fun e W' ⟨h1, L', h2, h3⟩ => ⟨h1, Has.goes hP rfl hD hp h2 h3⟩
/-- Beside the disk: the law's own blocks (a row of blocks at g) and the writes that it waits for (a list at v); all of it new since w. -/
structure Side (w : World) (g : Nat) (hs : List (Nat → Int)) (v : Value) (wl : List Cel) (W : World) (L : Loc) : Prop where
  new : L.from w.heap.size
  below : Below w.heap.size w W
  row : W.heap[g]? = some (.cells (blkCells hs).toArray 46)
  apart : ¬ L.has g
  own : W.ownsRow (g + 1) 54 1025 v wl.length (celCells wl)
  far : ∀ k, v.ownBlock = some k → ¬ L.has k
  gnew : w.heap.size ≤ g
variable {w : World} {g : Nat} {hs : List (Nat → Int)} {v : Value} {wl : List Cel}
theorem side_stays (w : World) (g : Nat) (hs : List (Nat → Int)) (v : Value) (wl : List Cel) : Stays (Side w g hs v wl) := by
  intro W W' L L' hlt h hG
  have hgl : g < W.heap.size := (Array.getElem?_eq_some_iff.1 h.row).1
  have hne : ∀ k, k < W.heap.size → ¬ L.has k → ¬ L'.has k := fun k hk hn q => by
    rcases hG.own k q with q | q
    · exact hn q
    · omega
  refine ⟨fun k hk => ?_, h.below.trans (hG.fr.below h.new h.below.size), (hG.fr.block g hgl h.apart).trans h.row, hne g hgl h.apart, ownsRow_kept0 h.own fun k hk => hG.fr.block k (h.own.lt k hk).2 (h.far k hk), fun k hk => hne k (h.own.lt k hk).2 (h.far k hk), h.gnew⟩
  rcases hG.own k hk with q | q
  · exact h.new k q
  · have := h.below.size
    omega
/-- The law's own blocks turn. -/
theorem Has.setH (h : Has (Side w g hs v wl) W d s) (hs' : List (Nat → Int)) : Has (Side w g hs' v wl) (W.setRow g (blkCells hs').toArray) d s := by
  obtain ⟨L, hd, hD, h⟩ := h
  have hF := Fr.setRow W g (blkCells hs').toArray
  refine ⟨L, hd, hD.fr hF fun k hk e => h.apart (e ▸ hk), h.new, below_setRow h.below h.gnew _, setRow_heap _ _ _ _ _ _ h.row, h.apart, ownsRow_kept0 h.own fun k hk => ?_, h.far, h.gnew⟩
  exact setRow_other W g k _ (by have := (h.own.lt k hk).1; omega)
theorem Has.noWait (h : Has (Side w g hs v wl) W d s) : Has (Side w g hs (.slice none 0 0) []) W d s := by
  obtain ⟨L, hd, hD, h⟩ := h
  exact ⟨L, hd, hD, h.new, h.below, h.row, h.apart, World.ownsRow_nil W _ 54 1025, fun k hk => by simp [Value.ownBlock] at hk, h.gnew⟩
theorem Has.below (h : Has (Side w g hs v wl) W d s) : Below w.heap.size w W := by
  obtain ⟨L, hd, hD, h⟩ := h
  exact h.below
theorem Has.row (h : Has (Side w g hs v wl) W d s) : W.heap[g]? = some (.cells (blkCells hs).toArray 46) := by
  obtain ⟨L, hd, hD, h⟩ := h
  exact h.row
theorem Has.own (h : Has (Side w g hs v wl) W d s) : W.ownsRow (g + 1) 54 1025 v wl.length (celCells wl) := by
  obtain ⟨L, hd, hD, h⟩ := h
  exact h.own
/-- A write more is waited for. -/
theorem Has.push {W' : World} {v' : Value} {c : Cel} {o : Obj} (h : Has (Side w g hs v wl) W d s) (ho : W'.ownsRow (g + 1) 54 1025 v' (wl.length + 1) (celCells wl ++ celRow c)) (hg : (W.alloc o).grownBy W' v.ownBlock)
    (hl : v'.ownBlock = v.ownBlock ∨ v'.ownBlock = some (W.alloc o).heap.size) : Has (Side w g hs v' (wl ++ [c])) W' d s := by
  obtain ⟨L, hd, hD, h⟩ := h
  have hF : Fr (fun i => v.ownBlock = some i) W W' := (Fr.alloc _ W o).trans (Fr.ofGrown hg) fun _ _ q => q
  have hgl : g < W.heap.size := (Array.getElem?_eq_some_iff.1 h.row).1
  have hgv : v.ownBlock ≠ some g := fun q => by have := (h.own.lt g q).1; omega
  refine ⟨L, hd, hD.fr hF fun k hk q => h.far k q hk, h.new, ?_, (hF.block g hgl hgv).trans h.row, h.apart, ?_, fun k hk => ?_, h.gnew⟩
  · exact ⟨hF.os.trans h.below.os, hF.tape.trans h.below.tape, hF.output.trans h.below.output, Nat.le_trans h.below.size hF.size, fun k hk => (hF.block k (by have := h.below.size; omega) fun q => by have := (h.own.lt k q).1; have := h.gnew; omega).trans (h.below.block k hk)⟩
  · rw [List.length_append, List.length_singleton, celCells_append, celCells_one]
    exact ho
  · rcases hl with q | q
    · exact h.far k (q ▸ hk)
    · rw [q] at hk
      injection hk with hk
      simp at hk
      exact fun r => by have := hD.lt k r; omega
end Go.Proofs.YtlcdpmjdnihocaaD
/- What a disk and the law's own book of it have to do with each other, write by write; no condition. -/
namespace Go.Proofs.YtlcdpmjdnihocaaD
open Go.RowKit

/-- hs are the blocks that s holds. -/
def Rel (s : St) (hs : List (Nat → Int)) : Prop := (hs.length : Int) = s.n ∧ ∀ k : Nat, k < hs.length → hs[k]? = some ((s.held k).getD nought)
theorem Rel.same {s s' : St} {hs : List (Nat → Int)} (h : Rel s hs) (h1 : s'.n = s.n) (h2 : s'.held = s.held) : Rel s' hs := by
  unfold Rel
  rw [h1, h2]
  exact h
theorem holdV_get (s : St) (k : Int) {f : Nat → Int} (hf : Can f) (j : Int) : ((holdV s k f).held j).getD nought = if j = k then f else (s.held j).getD nought := by
  show (if j = k then (if blankB f then none else some f) else s.held j).getD nought = _
  by_cases e : j = k
  · rw [if_pos e, if_pos e]
    cases hb : blankB f
    · rfl
    · rw [hf.blank.1 hb]; rfl
  · rw [if_neg e, if_neg e]
theorem Rel.hold {s : St} {hs : List (Nat → Int)} (h : Rel s hs) {c : Cel} (hc : 0 ≤ c.1 ∧ c.1 < s.n) (hf : Can c.2) : Rel (holdV s c.1 c.2) (hs.set c.1.toNat c.2) := by
  refine ⟨by rw [List.length_set]; exact h.1, fun k hk => ?_⟩
  rw [List.length_set] at hk
  rw [holdV_get s c.1 hf, List.getElem?_set]
  have h1 := h.1
  by_cases e : (k : Int) = c.1
  · rw [if_pos (by omega), if_pos (by omega), if_pos e]
  · rw [if_neg (by omega), if_neg e]
    exact h.2 k hk
theorem rel_new (n : Nat) : Rel (newV n) (List.replicate n nought) := by
  refine ⟨by rw [List.length_replicate]; rfl, fun k hk => ?_⟩
  rw [List.length_replicate] at hk
  rw [List.getElem?_replicate, if_pos hk]
  rfl
/-- A disk behind i writes and barriers under a fuse. -/
structure Left (s : St) (blocks fuse : Int) (i : Nat) : Prop where
  n : s.n = blocks
  live : s.stopped = false → (fuse < 0 → s.fuse = -1) ∧ (0 ≤ fuse → s.fuse = fuse - i ∧ (i : Int) ≤ fuse)
  ops : s.ops.length ≤ i
  made : s.made ≤ i
  reads : s.reads = 0
  claims : s.claims = 0
theorem Left.room {s : St} {b f : Int} {i : Nat} (h : Left s b f i) (hi : i ≤ 300) : Room s := ⟨by have := h.ops; omega, by have := h.made; omega, by have := h.reads; omega, by have := h.claims; omega⟩
theorem Left.lets {s : St} {b f : Int} {i : Nat} (h : Left s b f i) (hs : s.stopped = false) : lets s = decide (f < 0 ∨ (i : Int) < f) := by
  obtain ⟨h1, h2⟩ := h.live hs
  unfold YtlcdpmjdnihocaaD.lets
  by_cases hf : f < 0
  · rw [h1 hf, decide_eq_true (.inl hf)]; rfl
  · obtain ⟨h3, h4⟩ := h2 (by omega)
    by_cases h5 : (i : Int) < f
    · rw [decide_eq_true (.inr h5)]
      have : s.fuse ≠ 0 := by omega
      simpa using this
    · rw [decide_eq_false (by omega)]
      have : s.fuse = 0 := by omega
      simp [this]
/-- Does the next one go through? -/
def goesB (s : St) (f : Int) (i : Nat) : Bool := !s.stopped && decide (f < 0 ∨ (i : Int) < f)
/-- Stopped. -/
def deadV (s : St) : St := if s.stopped then s else letV s
theorem letV_dead {s : St} (hl : lets s = false) : letV s = { s with stopped := true } := by
  have h0 : s.fuse = 0 := by unfold lets at hl; simpa using hl
  unfold letV
  rw [if_pos h0]
theorem deadV_is {s : St} (h : s.stopped = true ∨ lets s = false) : (deadV s).stopped = true ∧ (deadV s).n = s.n ∧ (deadV s).held = s.held ∧ (deadV s).wait = s.wait ∧ (deadV s).ops = s.ops ∧ (deadV s).made = s.made ∧ (deadV s).reads = s.reads ∧ (deadV s).claims = s.claims := by
  unfold deadV
  cases hs : s.stopped
  · have hl : lets s = false := by
      rcases h with h | h
      · rw [hs] at h; cases h
      · exact h
    rw [if_neg (by simp), letV_dead hl]
    exact ⟨rfl, rfl, rfl, rfl, rfl, rfl, rfl, rfl⟩
  · rw [if_pos rfl]
    exact ⟨hs, rfl, rfl, rfl, rfl, rfl, rfl, rfl⟩
theorem not_goes {s : St} {b f : Int} {i : Nat} (h : Left s b f i) (hg : goesB s f i = false) : s.stopped = true ∨ lets s = false := by
  cases hs : s.stopped
  · right
    rw [h.lets hs]
    unfold goesB at hg
    rw [hs] at hg
    simpa using hg
  · exact .inl rfl
theorem Left.dead {s : St} {b f : Int} {i : Nat} (h : Left s b f i) (hg : goesB s f i = false) : Left (deadV s) b f (i + 1) := by
  obtain ⟨h1, h2, h3, h4, h5, h6, h7, h8⟩ := deadV_is (not_goes h hg)
  have := h.ops
  have := h.made
  exact ⟨h2.trans h.n, fun q => (by rw [h1] at q; cases q), by rw [h5]; omega, by rw [h6]; omega, h7.trans h.reads, h8.trans h.claims⟩
theorem goes_live {s : St} {b f : Int} {i : Nat} (h : Left s b f i) (hg : goesB s f i = true) : s.stopped = false ∧ lets s = true := by
  unfold goesB at hg
  cases hs : s.stopped
  · rw [hs] at hg
    exact ⟨rfl, by rw [h.lets hs]; simpa using hg⟩
  · rw [hs] at hg; simp at hg
theorem letV_live {s : St} (hl : lets s = true) : (letV s).stopped = s.stopped ∧ (letV s).made = s.made + 1 ∧ (letV s).reads = s.reads ∧ (letV s).claims = s.claims ∧ (letV s).fuse = (if s.fuse = -1 then -1 else s.fuse - 1) := by
  have h0 : s.fuse ≠ 0 := by unfold lets at hl; simpa using hl
  unfold letV
  rw [if_neg h0]
  exact ⟨rfl, rfl, rfl, rfl, rfl⟩
/-- A state of which all but what is held and pending is that of a disk that let one through. -/
theorem Left.next {s s' : St} {b f : Int} {i : Nat} (h : Left s b f i) (hg : goesB s f i = true) (h1 : s'.n = s.n) (h2 : s'.stopped = (letV s).stopped) (h3 : s'.made = (letV s).made) (h4 : s'.reads = (letV s).reads) (h5 : s'.claims = (letV s).claims) (h6 : s'.fuse = (letV s).fuse) (h7 : s'.ops.length = s.ops.length + 1) : Left s' b f (i + 1) ∧ s'.stopped = false := by
  obtain ⟨hs, hl⟩ := goes_live h hg
  obtain ⟨k1, k2, k3, k4, k5⟩ := letV_live hl
  obtain ⟨l1, l2⟩ := h.live hs
  have := h.ops
  have := h.made
  refine ⟨⟨h1.trans h.n, fun _ => ⟨fun q => ?_, fun q => ?_⟩, by omega, by omega, h4.trans (k3.trans h.reads), h5.trans (k4.trans h.claims)⟩, h2.trans (k1.trans hs)⟩
  · rw [h6, k5, if_pos (l1 q)]
  · obtain ⟨m1, m2⟩ := l2 q
    have m3 : s.fuse ≠ 0 := by unfold YtlcdpmjdnihocaaD.lets at hl; simpa using hl
    rw [h6, k5, if_neg (by omega)]
    omega
theorem write_goes {s : St} {b f : Int} {i : Nat} (h : Left s b f i) (hg : goesB s f i = true) {k : Int} (hk : 0 ≤ k ∧ k < b) (F : Nat → Int) : writeE s k = 0 ∧ writeV s k F = writeS s k F ∧ Left (writeS s k F) b f (i + 1) ∧ (writeS s k F).stopped = false ∧ (writeS s k F).wait = s.wait ++ [(k, F)] ∧ (writeS s k F).held = s.held ∧ (writeS s k F).n = s.n := by
  obtain ⟨hs, hl⟩ := goes_live h hg
  have hr : refV s k = 0 := by unfold refV; rw [hs, if_neg (by simp), if_pos (by rw [h.n]; exact hk)]
  have hN := h.next (s' := writeS s k F) hg (letV_n s) rfl rfl rfl rfl rfl (by rw [writeS_ops]; simp)
  refine ⟨?_, ?_, hN.1, hN.2, rfl, letV_held s, letV_n s⟩
  · unfold writeE; rw [if_pos hr, if_pos hl]
  · unfold writeV; rw [if_pos hr, if_pos hl]
theorem write_stays {s : St} {b f : Int} {i : Nat} (h : Left s b f i) (hg : goesB s f i = false) {k : Int} (hk : 0 ≤ k ∧ k < b) (F : Nat → Int) : writeE s k = 3 ∧ writeV s k F = deadV s := by
  have hn := not_goes h hg
  unfold writeE writeV deadV
  cases hs : s.stopped
  · have hl : lets s = false := by
      rcases hn with q | q
      · rw [hs] at q; cases q
      · exact q
    have hr : refV s k = 0 := by unfold refV; rw [hs, if_neg (by simp), if_pos (by rw [h.n]; exact hk)]
    rw [if_pos hr, if_pos hr, hl]
    simp
  · have hr : refV s k = 3 := by unfold refV; rw [hs, if_pos rfl]
    rw [if_neg (by omega), if_neg (by omega), hr]
    simp
theorem bar_goes {s : St} {b f : Int} {i : Nat} (h : Left s b f i) (hg : goesB s f i = true) : barE s = 0 ∧ barV s = barS s ∧ Left (barS s) b f (i + 1) ∧ (barS s).stopped = false ∧ (barS s).wait = [] ∧ (barS s).held = (holdAll s s.wait).held ∧ (barS s).n = s.n := by
  obtain ⟨hs, hl⟩ := goes_live h hg
  obtain ⟨hh, he⟩ := holdAll_same s.wait (letV s)
  have e1 : barS s = { letV s with held := hh, done := s.ops ++ [⟨2, 0, nought⟩], wait := [] } := by unfold barS; rw [he]
  have hN := h.next (s' := barS s) hg (by rw [e1]; exact letV_n s) (by rw [e1]) (by rw [e1]) (by rw [e1]) (by rw [e1]) (by rw [e1]) (by rw [barS_ops]; simp)
  refine ⟨?_, ?_, hN.1, hN.2, rfl, ?_, by rw [e1]; exact letV_n s⟩
  · unfold barE; rw [hs, hl]; rfl
  · unfold barV; rw [hs, hl]; rfl
  · show (holdAll (letV s) s.wait).held = _
    have key : ∀ (l : List Cel) (a b : St), a.held = b.held → (holdAll a l).held = (holdAll b l).held := fun l => by
      induction l with
      | nil => exact fun a b q => q
      | cons c t ih =>
        intro a b q
        exact ih (holdV a c.1 c.2) (holdV b c.1 c.2) (by unfold holdV; rw [q])
    exact key _ _ _ (letV_held s)
theorem bar_stays {s : St} {b f : Int} {i : Nat} (h : Left s b f i) (hg : goesB s f i = false) : barE s = 3 ∧ barV s = deadV s := by
  have hn := not_goes h hg
  unfold barE barV deadV
  cases hs : s.stopped
  · have hl : lets s = false := by
      rcases hn with q | q
      · rw [hs] at q; cases q
      · exact q
    rw [hl]
    simp
  · simp
end Go.Proofs.YtlcdpmjdnihocaaD
/- Parts of memory that lie apart: one of them turns, the others stay; no condition. -/
namespace Go.Proofs.YtlcdpmjdnihocaaD
open Go.RowKit

theorem Fr.below' {T : Nat → Prop} {B : Nat} {a b : World} (h : Fr T a b) (hT : ∀ k, T k → k < a.heap.size → B ≤ k) (hB : B ≤ a.heap.size) : Below B a b :=
  ⟨h.os, h.tape, h.output, h.size, fun i hi => h.block i (by omega) fun q => by have := hT i q (by omega); omega⟩
/-- A part of memory: its blocks, and what it says. -/
structure Part where
  own : Nat → Prop
  say : World → Prop
/-- What a part says goes by its own blocks alone. -/
def Part.Good (p : Part) : Prop := ∀ W W' : World, p.say W → (∀ k, p.own k → k < W.heap.size) → (∀ k, p.own k → W'.heap[k]? = W.heap[k]?) → p.say W'
/-- Parts that were made since w, and lie apart. -/
structure Sep (w W : World) (l : List Part) : Prop where
  good : ∀ p ∈ l, p.Good
  say : ∀ p ∈ l, p.say W
  lt : ∀ p ∈ l, ∀ k, p.own k → w.heap.size ≤ k ∧ k < W.heap.size
  apart : l.Pairwise fun p q => ∀ k, p.own k → ¬ q.own k
  below : Below w.heap.size w W
variable {w W W' : World} {p p' q : Part} {l : List Part}
theorem Sep.head (h : Sep w W (p :: l)) : p.say W := h.say p (by simp)
theorem Sep.headLt (h : Sep w W (p :: l)) {k : Nat} (hk : p.own k) : w.heap.size ≤ k ∧ k < W.heap.size := h.lt p (by simp) k hk
/-- The first one turns. -/
theorem Sep.turn (h : Sep w W (p :: l)) {T : Nat → Prop} (hF : Fr T W W') (hT : ∀ k, k < W.heap.size → T k → p.own k) (hg : p'.Good) (hs : p'.say W') (ho : ∀ k, p'.own k → (p.own k ∨ W.heap.size ≤ k) ∧ k < W'.heap.size) : Sep w W' (p' :: l) := by
  obtain ⟨ha, hl⟩ := List.pairwise_cons.1 h.apart
  refine ⟨fun q hq => ?_, fun q hq => ?_, fun q hq k hk => ?_, List.pairwise_cons.2 ⟨fun q hq k hk hk2 => ?_, hl⟩, ?_⟩
  · rcases List.mem_cons.1 hq with rfl | hq
    · exact hg
    · exact h.good q (List.mem_cons_of_mem _ hq)
  · rcases List.mem_cons.1 hq with rfl | hq
    · exact hs
    · have hm : q ∈ p :: l := List.mem_cons_of_mem _ hq
      exact h.good q hm W W' (h.say q hm) (fun k hk => (h.lt q hm k hk).2) fun k hk => hF.block k (h.lt q hm k hk).2 fun hp => ha q hq k (hT k (h.lt q hm k hk).2 hp) hk
  · rcases List.mem_cons.1 hq with rfl | hq
    · refine ⟨?_, (ho k hk).2⟩
      rcases (ho k hk).1 with r | r
      · exact (h.lt p (by simp) k r).1
      · have := h.below.size; omega
    · have := h.lt q (List.mem_cons_of_mem _ hq) k hk
      exact ⟨this.1, Nat.lt_of_lt_of_le this.2 hF.size⟩
  · rcases (ho k hk).1 with r | r
    · exact ha q hq k r hk2
    · have := (h.lt q (List.mem_cons_of_mem _ hq) k hk2).2
      omega
  · exact h.below.trans (hF.below' (fun k hk hlt => (h.lt p (by simp) k (hT k hlt hk)).1) h.below.size)
theorem Sep.later (h : Sep w W l) (hb : Below W.heap.size W W') : Sep w W' l :=
  ⟨h.good, fun q hq => h.good q hq W W' (h.say q hq) (fun k hk => (h.lt q hq k hk).2) fun k hk => hb.block k (h.lt q hq k hk).2, fun q hq k hk => ⟨(h.lt q hq k hk).1, Nat.lt_of_lt_of_le (h.lt q hq k hk).2 hb.size⟩, h.apart, h.below.trans (hb.mono h.below.size)⟩
/-- One more, made just now. -/
theorem Sep.add (h : Sep w W l) (hb : Below W.heap.size W W') (hg : p.Good) (hs : p.say W') (ho : ∀ k, p.own k → W.heap.size ≤ k ∧ k < W'.heap.size) : Sep w W' (p :: l) := by
  have h2 := h.later hb
  refine ⟨fun q hq => ?_, fun q hq => ?_, fun q hq k hk => ?_, List.pairwise_cons.2 ⟨fun q hq k hk hk2 => ?_, h2.apart⟩, h2.below⟩
  · rcases List.mem_cons.1 hq with rfl | hq
    · exact hg
    · exact h2.good q hq
  · rcases List.mem_cons.1 hq with rfl | hq
    · exact hs
    · exact h2.say q hq
  · rcases List.mem_cons.1 hq with rfl | hq
    · have := h.below.size
      have := ho k hk
      omega
    · exact h2.lt q hq k hk
  · have := (h.lt q hq k hk2).2
    have := (ho k hk).1
    omega
theorem Sep.perm {l' : List Part} (h : Sep w W l) (hp : l.Perm l') : Sep w W l' :=
  ⟨fun q hq => h.good q (hp.mem_iff.2 hq), fun q hq => h.say q (hp.mem_iff.2 hq), fun q hq => h.lt q (hp.mem_iff.2 hq), (hp.pairwise_iff fun h k hk hk2 => h k hk2 hk).1 h.apart, h.below⟩
theorem Sep.swap (h : Sep w W (p :: q :: l)) : Sep w W (q :: p :: l) := h.perm (List.Perm.swap _ _ _)
/-- The third one comes to the front. -/
theorem Sep.third {r : Part} (h : Sep w W (p :: q :: r :: l)) : Sep w W (r :: p :: q :: l) := h.perm ((List.Perm.cons _ (List.Perm.swap _ _ _)).trans (List.Perm.swap _ _ _))
theorem Sep.back {r : Part} (h : Sep w W (r :: p :: q :: l)) : Sep w W (p :: q :: r :: l) := h.perm ((List.Perm.swap _ _ _).trans (List.Perm.cons _ (List.Perm.swap _ _ _)))
/-- The first one is let go. -/
theorem Sep.drop (h : Sep w W (p :: l)) : Sep w W l :=
  ⟨fun q hq => h.good q (List.mem_cons_of_mem _ hq), fun q hq => h.say q (List.mem_cons_of_mem _ hq), fun q hq => h.lt q (List.mem_cons_of_mem _ hq), (List.pairwise_cons.1 h.apart).2, h.below⟩
theorem Sep.nil (hb : Below w.heap.size w W) : Sep w W [] := ⟨by simp, by simp, by simp, List.Pairwise.nil, hb⟩
/-- Nothing. -/
def noPart : Part := ⟨fun _ => False, fun _ => True⟩
theorem noPart_good : noPart.Good := fun _ _ _ _ _ => trivial
theorem Sep.none (h : Sep w W l) : Sep w W (noPart :: l) := h.add (Below.refl _ _) noPart_good trivial fun _ q => q.elim
end Go.Proofs.YtlcdpmjdnihocaaD
