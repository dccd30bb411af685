/- Regions whose order is drawn, walked step by step: what only reads may come at any time, what acts comes where nothing else may, two that act come in either order; S holds all along. -/
import Derived.Test.YtencclpcebpgmaaOrd
namespace Go.Proofs.Ytencclpcebpgmaa
open Go.RowKit

/-- A step: what only reads (.inl i), what acts alone (.inr (.inl i)), two that act in either order (.inr (.inr (i, j))). -/
abbrev Stp : Type := Nat ⊕ (Nat ⊕ (Nat × Nat))
abbrev StO : Type := Oper ⊕ (Oper ⊕ (Oper × Oper))
def Stp.many : Stp → Nat
  | .inl _ => 1
  | .inr (.inl _) => 1
  | .inr (.inr _) => 2
def manyOf : List Stp → Nat
  | [] => 0
  | s :: r => Stp.many s + manyOf r
section
variable {P : Program} {ops : Array Oper} {Q : Exit → Act → World → Prop} {S : World → Prop}
def stB (ops : Array Oper) : List Stp → Array Bool → Bool
  | [], listed => (Region.ready .any ops listed).isEmpty
  | .inl i :: r, listed => (Region.ready .any ops listed).contains i && Region.free .any ops listed i && (ops[i]?).isSome && stB ops r (listed.setIfInBounds i true)
  | .inr (.inl i) :: r, listed => (Region.ready .any ops listed == [i]) && (ops[i]?).isSome && stB ops r (listed.setIfInBounds i true)
  | .inr (.inr (i, j)) :: r, listed => (Region.ready .any ops listed == [i, j]) && (ops[i]?).isSome && (ops[j]?).isSome && (Region.ready .any ops (listed.setIfInBounds i true) == [j]) && (Region.ready .any ops (listed.setIfInBounds j true) == [i]) &&
      stB ops r ((listed.setIfInBounds i true).setIfInBounds j true) && stB ops r ((listed.setIfInBounds j true).setIfInBounds i true)
def inSt (ol : List Oper) : List Stp → List StO
  | [] => []
  | .inl i :: r => match ol[i]? with
    | some o => .inl o :: inSt ol r
    | none => inSt ol r
  | .inr (.inl i) :: r => match ol[i]? with
    | some o => .inr (.inl o) :: inSt ol r
    | none => inSt ol r
  | .inr (.inr (i, j)) :: r => match ol[i]?, ol[j]? with
    | some x, some y => .inr (.inr (x, y)) :: inSt ol r
    | _, _ => inSt ol r
def wpSt (P : Program) (ops : Array Oper) (Q : Exit → Act → World → Prop) (S : World → Prop) : List StO → Act → World → Prop
  | [], a, w => Q .normal a w
  | .inl o :: r, a, w => ∃ v, YieldsIf P ops S o v a ∧ wpSt P ops Q S r (a.put o.dst v) w
  | .inr (.inl o) :: r, a, w => wpAct P ops Q S o (wpSt P ops Q S r) a w
  | .inr (.inr (x, y)) :: r, a, w => wpAct P ops Q S x (wpAct P ops Q S y (wpSt P ops Q S r)) a w ∧ wpAct P ops Q S y (wpAct P ops Q S x (wpSt P ops Q S r)) a w
theorem wpSt_any {ol : List Oper} (hs : Region.noSelect ol.toArray = true) (hQ : ∀ d v c a w, Q (.panic c) (a.put d v) w → Q (.panic c) a w) : ∀ (l : List Stp) (listed : Array Bool) (a : Act) (w : World), S w →
    stB ol.toArray l listed = true → wpSt P ol.toArray Q S (inSt ol l) a w → wpAnyH P .any ol.toArray Q S (manyOf l) listed a w
  | [], listed, a, w, _, hB, h => wpAnyH_done (by simpa [stB] using hB) h _
  | .inl i :: r, listed, a, w, hS, hB, h => by
    simp only [stB, Bool.and_eq_true] at hB
    obtain ⟨⟨⟨h1, h2⟩, h3⟩, h4⟩ := hB
    obtain ⟨o, hi⟩ := Option.isSome_iff_exists.1 h3
    have hi' : ol[i]? = some o := by simpa using hi
    simp only [inSt, hi', wpSt] at h
    obtain ⟨v, hy, hr⟩ := h
    rw [show manyOf (.inl i :: r) = manyOf r + 1 by simp [manyOf, Stp.many]; omega]
    exact wpAnyH_take hi hs h2 h1 (fun c a w => hQ _ _ c a w) hy hS (wpSt_any hs hQ r _ _ w hS h4 hr)
  | .inr (.inl i) :: r, listed, a, w, hS, hB, h => by
    simp only [stB, Bool.and_eq_true, beq_iff_eq] at hB
    obtain ⟨⟨h1, h3⟩, h2⟩ := hB
    obtain ⟨o, hi⟩ := Option.isSome_iff_exists.1 h3
    have hi' : ol[i]? = some o := by simpa using hi
    simp only [inSt, hi', wpSt] at h
    rw [show manyOf (.inr (.inl i) :: r) = manyOf r + 1 by simp [manyOf, Stp.many]; omega]
    refine wpAnyH_all h1 (by simp) fun j hj => ?_
    obtain rfl : j = i := by simpa using hj
    exact wpOp_act hi (fun a' w' hS' hK => wpSt_any hs hQ r _ a' w' hS' h2 hK) h
  | .inr (.inr (i, j)) :: r, listed, a, w, hS, hB, h => by
    simp only [stB, Bool.and_eq_true, beq_iff_eq] at hB
    obtain ⟨⟨⟨⟨⟨⟨h1, h2⟩, h3⟩, h4⟩, h5⟩, h6⟩, h7⟩ := hB
    obtain ⟨x, hx⟩ := Option.isSome_iff_exists.1 h2
    obtain ⟨y, hy⟩ := Option.isSome_iff_exists.1 h3
    have hx' : ol[i]? = some x := by simpa using hx
    have hy' : ol[j]? = some y := by simpa using hy
    simp only [inSt, hx', hy', wpSt] at h
    rw [show manyOf (.inr (.inr (i, j)) :: r) = (manyOf r + 1) + 1 by simp [manyOf, Stp.many]; omega]
    refine wpAnyH_all h1 (by simp) fun k hk => ?_
    simp only [List.mem_cons, List.not_mem_nil, or_false] at hk
    rcases hk with rfl | rfl
    · refine wpOp_act hx (fun a' w' hS' hK => ?_) h.1
      refine wpAnyH_all h4 (by simp) fun k hk => ?_
      obtain rfl : k = j := by simpa using hk
      exact wpOp_act hy (fun a' w' hS' hK => wpSt_any hs hQ r _ a' w' hS' h6 hK) hK
    · refine wpOp_act hy (fun a' w' hS' hK => ?_) h.2
      refine wpAnyH_all h5 (by simp) fun k hk => ?_
      obtain rfl : k = i := by simpa using hk
      exact wpOp_act hx (fun a' w' hS' hK => wpSt_any hs hQ r _ a' w' hS' h7 hK) hK
/-- A region that draws its order, walked by these steps. -/
theorem wp_region_steps {id : Nat} {a : Act} {w : World} {ol : List Oper} (l : List Stp) (hm : P.follows .mixedOrders = true) (hl : manyOf l = ol.length)
    (hB : (Region.noSelect ol.toArray && stB ol.toArray l (Array.replicate ol.toArray.size false)) = true) (hQ : ∀ d v c a w, Q (.panic c) (a.put d v) w → Q (.panic c) a w)
    (hS : S w.drew) (h : wpSt P ol.toArray Q S (inSt ol l) a w.drew) : (Code.region id ol.toArray true).wp P Q a w := by
  simp only [Bool.and_eq_true] at hB
  have h1 := wpSt_any hB.1 hQ l _ a w.drew hS hB.2 h
  rw [hl] at h1
  exact wp_region_held hm (by simpa using h1)
variable {r : List StO} {a : Act} {w : World} {o x y : Oper} {K : Act → World → Prop}
theorem wpSt_nil (h : Q .normal a w) : wpSt P ops Q S [] a w := h
theorem wpSt_yield {v : Value} (hw : Region.wanted o (yielded ops a.tmps) = true) (hr : ∀ u, S u → (execOp a.eval o).run P u = .ok (.value v) u) (h : wpSt P ops Q S r (a.put o.dst v) w) : wpSt P ops Q S (.inl o :: r) a w :=
  ⟨v, .inl ⟨hw, hr⟩, h⟩
theorem wpSt_move (hw : Region.wanted o (yielded ops a.tmps) = true) (x : Operand) (ho : o.op = .move x) (h : wpSt P ops Q S r (a.put o.dst (a.eval x)) w) : wpSt P ops Q S (.inl o :: r) a w :=
  wpSt_yield hw (fun u _ => by simp [execOp, ho]) h
theorem wpSt_skip (hw : Region.wanted o (yielded ops a.tmps) = false) (h : wpSt P ops Q S r (a.put o.dst undef) w) : wpSt P ops Q S (.inl o :: r) a w := ⟨undef, .inr ⟨hw, rfl⟩, h⟩
theorem wpSt_act (h : wpAct P ops Q S o (wpSt P ops Q S r) a w) : wpSt P ops Q S (.inr (.inl o) :: r) a w := h
theorem wpSt_fork (h1 : wpAct P ops Q S x (wpAct P ops Q S y (wpSt P ops Q S r)) a w) (h2 : wpAct P ops Q S y (wpAct P ops Q S x (wpSt P ops Q S r)) a w) : wpSt P ops Q S (.inr (.inr (x, y)) :: r) a w := ⟨h1, h2⟩
theorem act_skip (hS : S w) (hw : Region.wanted o (yielded ops a.tmps) = false) (h : K (a.put o.dst undef) w) : wpAct P ops Q S o K a w := by
  unfold wpAct
  rw [hw]
  exact ⟨hS, h⟩
theorem act_makes {w' : World} {v : Value} (hw : Region.wanted o (yielded ops a.tmps) = true) (hr : (execOp a.eval o).run P w = .ok (.value v) w') (hS : S w') (h : K (a.put o.dst v) w') : wpAct P ops Q S o K a w := by
  unfold wpAct
  rw [if_pos hw]
  unfold Oper.wp
  rw [hr]
  exact ⟨hS, h⟩
theorem act_call (hw : Region.wanted o (yielded ops a.tmps) = true) (f : FuncId) (xs : List Operand) (ts : Array TypeId)
    (ho : o.op = .call { callee := .value (.func f), args := xs.toArray, argTypes := ts }) (hc : ∀ args u, (callFunc f args).run P u = .ok (.enter f args) u) (args : List Value) (hx : xs.map a.eval = args)
    (h : Calls P f args.toArray w fun e w' => ∃ v, e = .returned v ∧ S w' ∧ K (a.put o.dst v) w') : wpAct P ops Q S o K a w := by
  unfold wpAct
  rw [if_pos hw]
  unfold Oper.wp execOp
  have e : (do let d ← resolve a.eval { callee := .value (.func f), args := xs.toArray, argTypes := ts } o.type; invoke d.target d.args : Sem Next).run P w = .ok (.enter f args.toArray) w := by
    have hx' : xs.toArray.map a.eval = args.toArray := by rw [← hx]; simp
    simp only [resolve, hx']
    simp [Act.eval, Deferred.ofValue, invoke, hc]
  simp only [ho]
  rw [e]
  unfold Oper.upon
  exact h.mono fun e w' ⟨v, he, h1, h2⟩ => by subst he; exact ⟨h1, h2⟩
end
end Go.Proofs.Ytencclpcebpgmaa
