/- Regions whose order is drawn, walked in one order that is told: what only reads may come at any time, what acts comes where nothing else may; S holds all along. -/
import Derived.OrdersHeld
import Derived.WalkKit
namespace Go.Proofs.Ytcimehjcajdfiaa
open Go.RowKit

section
variable {P : Program} {ops : Array Oper} {Q : Exit → Act → World → Prop} {S : World → Prop}

/-- May the operations be taken in this order? true: it is taken first; false: nothing else may come up. -/
def ordB (ops : Array Oper) : List (Nat × Bool) → Array Bool → Bool
  | [], listed => (Region.ready .any ops listed).isEmpty
  | (i, true) :: r, listed => (Region.ready .any ops listed).contains i && Region.free .any ops listed i && (ops[i]?).isSome && ordB ops r (listed.setIfInBounds i true)
  | (i, false) :: r, listed => (Region.ready .any ops listed == [i]) && (ops[i]?).isSome && ordB ops r (listed.setIfInBounds i true)

/-- The operations themselves, in that order. -/
def inOrd (ol : List Oper) : List (Nat × Bool) → List (Bool × Oper)
  | [] => []
  | (i, b) :: r => match ol[i]? with
    | some o => (b, o) :: inOrd ol r
    | none => inOrd ol r

def wpOrd (P : Program) (ops : Array Oper) (Q : Exit → Act → World → Prop) (S : World → Prop) : List (Bool × Oper) → Act → World → Prop
  | [], a, w => Q .normal a w
  | (true, o) :: r, a, w => ∃ v, YieldsIf P ops S o v a ∧ wpOrd P ops Q S r (a.put o.dst v) w
  | (false, o) :: r, a, w => if Region.wanted o (yielded ops a.tmps) then o.wp P a w (fun a' w' => S w' ∧ wpOrd P ops Q S r a' w') Q else S w ∧ wpOrd P ops Q S r (a.put o.dst undef) w

theorem wpOrd_any {ol : List Oper} (hs : Region.noSelect ol.toArray = true) (hQ : ∀ d v c a w, Q (.panic c) (a.put d v) w → Q (.panic c) a w) : ∀ (l : List (Nat × Bool)) (listed : Array Bool) (a : Act) (w : World), S w →
    ordB ol.toArray l listed = true → wpOrd P ol.toArray Q S (inOrd ol l) a w → wpAnyH P .any ol.toArray Q S l.length listed a w
  | [], listed, a, w, _, hB, h => wpAnyH_done (by simpa [ordB] using hB) h _
  | (i, true) :: r, listed, a, w, hS, hB, h => by
    simp only [ordB, Bool.and_eq_true] at hB
    obtain ⟨⟨⟨h1, h2⟩, h3⟩, h4⟩ := hB
    obtain ⟨o, hi⟩ := Option.isSome_iff_exists.1 h3
    have hi' : ol[i]? = some o := by simpa using hi
    simp only [inOrd, hi', wpOrd] at h
    obtain ⟨v, hy, hr⟩ := h
    exact wpAnyH_take hi hs h2 h1 (fun c a w => hQ _ _ c a w) hy hS (wpOrd_any hs hQ r _ _ w hS h4 hr)
  | (i, false) :: r, listed, a, w, hS, hB, h => by
    simp only [ordB, Bool.and_eq_true, beq_iff_eq] at hB
    obtain ⟨⟨h1, h3⟩, h2⟩ := hB
    obtain ⟨o, hi⟩ := Option.isSome_iff_exists.1 h3
    have hi' : ol[i]? = some o := by simpa using hi
    simp only [inOrd, hi', wpOrd] at h
    refine wpAnyH_all h1 (by simp) fun j hj => ?_
    obtain rfl : j = i := by simpa using hj
    unfold wpOp
    rw [hi]
    simp only
    split
    · rename_i hw
      rw [if_pos hw] at h
      exact .inl (Oper.wp_mono (fun a' w' h' => ⟨h'.1, wpOrd_any hs hQ r _ a' w' h'.1 h2 h'.2⟩) h)
    · rename_i hw
      rw [if_neg hw] at h
      exact ⟨h.1, wpOrd_any hs hQ r _ _ w h.1 h2 h.2⟩

/-- A region that draws its order, walked in the order l. -/
theorem wp_region_ord {id : Nat} {a : Act} {w : World} {ol : List Oper} (l : List (Nat × Bool)) (hm : P.follows .mixedOrders = true) (hl : l.length = ol.length)
    (hB : (Region.noSelect ol.toArray && ordB ol.toArray l (Array.replicate ol.toArray.size false)) = true) (hQ : ∀ d v c a w, Q (.panic c) (a.put d v) w → Q (.panic c) a w)
    (hS : S w.drew) (h : wpOrd P ol.toArray Q S (inOrd ol l) a w.drew) : (Code.region id ol.toArray true).wp P Q a w := by
  simp only [Bool.and_eq_true] at hB
  have h1 := wpOrd_any hB.1 hQ l _ a w.drew hS hB.2 h
  rw [hl] at h1
  exact wp_region_held hm (by simpa using h1)

theorem wpOrd_nil {a : Act} {w : World} (h : Q .normal a w) : wpOrd P ops Q S [] a w := h
theorem wpOrd_skip {r : List (Bool × Oper)} {b : Bool} {a : Act} {w : World} {o : Oper} (hS : S w) (hw : Region.wanted o (yielded ops a.tmps) = false) (h : wpOrd P ops Q S r (a.put o.dst undef) w) :
    wpOrd P ops Q S ((b, o) :: r) a w := by
  cases b
  · simp only [wpOrd, hw, Bool.false_eq_true, if_false]
    exact ⟨hS, h⟩
  · exact ⟨undef, .inr ⟨hw, rfl⟩, h⟩
theorem wpOrd_yield {r : List (Bool × Oper)} {a : Act} {w : World} {o : Oper} {v : Value} (hw : Region.wanted o (yielded ops a.tmps) = true)
    (hr : ∀ u, S u → (execOp a.eval o).run P u = .ok (.value v) u) (h : wpOrd P ops Q S r (a.put o.dst v) w) : wpOrd P ops Q S ((true, o) :: r) a w :=
  ⟨v, .inl ⟨hw, hr⟩, h⟩
theorem wpOrd_move {r : List (Bool × Oper)} {a : Act} {w : World} {o : Oper} (hw : Region.wanted o (yielded ops a.tmps) = true) (x : Operand) (ho : o.op = .move x)
    (h : wpOrd P ops Q S r (a.put o.dst (a.eval x)) w) : wpOrd P ops Q S ((true, o) :: r) a w :=
  wpOrd_yield hw (fun u _ => by simp [execOp, ho]) h
theorem wpOrd_call {r : List (Bool × Oper)} {a : Act} {w : World} {o : Oper} (hw : Region.wanted o (yielded ops a.tmps) = true) (f : FuncId) (xs : List Operand) (ts : Array TypeId)
    (ho : o.op = .call { callee := .value (.func f), args := xs.toArray, argTypes := ts }) (hc : ∀ args u, (callFunc f args).run P u = .ok (.enter f args) u) (args : List Value) (hx : xs.map a.eval = args)
    (h : Calls P f args.toArray w fun e w' => ∃ v, e = .returned v ∧ S w' ∧ wpOrd P ops Q S r (a.put o.dst v) w') : wpOrd P ops Q S ((false, o) :: r) a w := by
  simp only [wpOrd, hw, if_true]
  unfold Oper.wp execOp
  have e : (do let d ← resolve a.eval { callee := .value (.func f), args := xs.toArray, argTypes := ts } o.type; invoke d.target d.args : Sem Next).run P w = .ok (.enter f args.toArray) w := by
    have hx' : xs.toArray.map a.eval = args.toArray := by rw [← hx]; simp
    simp only [resolve, hx']
    simp [Act.eval, Deferred.ofValue, invoke, hc]
  simp only [ho]
  rw [e]
  unfold Oper.upon
  exact h.mono fun e w' ⟨v, he, h1, h2⟩ => by subst he; exact ⟨h1, h2⟩
end
end Go.Proofs.Ytcimehjcajdfiaa
