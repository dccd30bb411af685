/- Regions whose order is drawn, walked by a plan: reads, what acts alone, and one of two that act, each with its own plan behind it; S holds all along. -/
import Derived.Test.YtgkhheblmknedaaSteps
namespace Go.Proofs.Ytgkhheblmknedaa
open Go.RowKit
/-- A step of a plan: what only reads (.inl i), what acts alone (.inr (.inl i)), one of two that act (.inr (.inr (i, j, k))): the first one's plan is the next k steps, the other's is what is left behind them. -/
abbrev Ins : Type := Nat ⊕ (Nat ⊕ (Nat × Nat × Nat))
def plMany : Nat → List Ins → Nat
  | _, [] => 0
  | 0, _ :: _ => 0
  | f + 1, .inl _ :: r => plMany f r + 1
  | f + 1, .inr (.inl _) :: r => plMany f r + 1
  | f + 1, .inr (.inr (_, _, k)) :: r => plMany f (r.take k) + 1
section
variable {P : Program} {ops : Array Oper} {Q : Exit → Act → World → Prop} {S : World → Prop}
def plB (ops : Array Oper) : Nat → List Ins → Array Bool → Bool
  | _, [], listed => (Region.ready .any ops listed).isEmpty
  | 0, _ :: _, _ => false
  | f + 1, .inl i :: r, listed => (Region.ready .any ops listed).contains i && Region.free .any ops listed i && (ops[i]?).isSome && plB ops f r (listed.setIfInBounds i true)
  | f + 1, .inr (.inl i) :: r, listed => (Region.ready .any ops listed == [i]) && (ops[i]?).isSome && plB ops f r (listed.setIfInBounds i true)
  | f + 1, .inr (.inr (i, j, k)) :: r, listed => (Region.ready .any ops listed == [i, j]) && (ops[i]?).isSome && (ops[j]?).isSome && (plMany f (r.take k) == plMany f (r.drop k)) && plB ops f (r.take k) (listed.setIfInBounds i true) && plB ops f (r.drop k) (listed.setIfInBounds j true)
def wpPl (P : Program) (ops : Array Oper) (Q : Exit → Act → World → Prop) (S : World → Prop) (ol : List Oper) : Nat → List Ins → Act → World → Prop
  | _, [], a, w => Q .normal a w
  | 0, _ :: _, _, _ => False
  | f + 1, .inl i :: r, a, w => ∀ o, ol[i]? = some o → ∃ v, YieldsIf P ops S o v a ∧ wpPl P ops Q S ol f r (a.put o.dst v) w
  | f + 1, .inr (.inl i) :: r, a, w => ∀ o, ol[i]? = some o → wpAct P ops Q S o (wpPl P ops Q S ol f r) a w
  | f + 1, .inr (.inr (i, j, k)) :: r, a, w => ∀ x y, ol[i]? = some x → ol[j]? = some y → wpAct P ops Q S x (wpPl P ops Q S ol f (r.take k)) a w ∧ wpAct P ops Q S y (wpPl P ops Q S ol f (r.drop k)) a w
theorem wpPl_any {ol : List Oper} (hs : Region.noSelect ol.toArray = true) (hQ : ∀ d v c a w, Q (.panic c) (a.put d v) w → Q (.panic c) a w) : ∀ (f : Nat) (l : List Ins) (listed : Array Bool) (a : Act) (w : World), S w →
    plB ol.toArray f l listed = true → wpPl P ol.toArray Q S ol f l a w → wpAnyH P .any ol.toArray Q S (plMany f l) listed a w
  | f, [], listed, a, w, _, hB, h => by
    have hB' : (Region.ready .any ol.toArray listed).isEmpty = true := by cases f <;> exact hB
    have h' : Q .normal a w := by cases f <;> exact h
    exact wpAnyH_done (by simpa using hB') h' _
  | 0, _ :: _, _, _, _, _, hB, _ => by cases hB
  | f + 1, .inl i :: r, listed, a, w, hS, hB, h => by
    simp only [plB, Bool.and_eq_true] at hB
    obtain ⟨⟨⟨h1, h2⟩, h3⟩, h4⟩ := hB
    obtain ⟨o, hi⟩ := Option.isSome_iff_exists.1 h3
    obtain ⟨v, hy, hr⟩ := h o (by simpa using hi)
    exact wpAnyH_take hi hs h2 h1 (fun c a w => hQ _ _ c a w) hy hS (wpPl_any hs hQ f r _ _ w hS h4 hr)
  | f + 1, .inr (.inl i) :: r, listed, a, w, hS, hB, h => by
    simp only [plB, Bool.and_eq_true, beq_iff_eq] at hB
    obtain ⟨⟨h1, h3⟩, h2⟩ := hB
    obtain ⟨o, hi⟩ := Option.isSome_iff_exists.1 h3
    refine wpAnyH_all h1 (by simp) fun j hj => ?_
    obtain rfl : j = i := by simpa using hj
    exact wpOp_act hi (fun a' w' hS' hK => wpPl_any hs hQ f r _ a' w' hS' h2 hK) (h o (by simpa using hi))
  | f + 1, .inr (.inr (i, j, k)) :: r, listed, a, w, hS, hB, h => by
    simp only [plB, Bool.and_eq_true, beq_iff_eq] at hB
    obtain ⟨⟨⟨⟨⟨h1, h2⟩, h3⟩, hm⟩, h4⟩, h5⟩ := hB
    obtain ⟨x, hx⟩ := Option.isSome_iff_exists.1 h2
    obtain ⟨y, hy⟩ := Option.isSome_iff_exists.1 h3
    obtain ⟨hA, hC⟩ := h x y (by simpa using hx) (by simpa using hy)
    refine wpAnyH_all h1 (by simp) fun m hk => ?_
    simp only [List.mem_cons, List.not_mem_nil, or_false] at hk
    rcases hk with rfl | rfl
    · exact wpOp_act hx (fun a' w' hS' hK => wpPl_any hs hQ f (r.take k) _ a' w' hS' h4 hK) hA
    · show wpOp P ol.toArray Q m (fun a' w' => S w' ∧ wpAnyH P .any ol.toArray Q S (plMany f (r.take k)) _ a' w') a w
      rw [hm]
      exact wpOp_act hy (fun a' w' hS' hK => wpPl_any hs hQ f (r.drop k) _ a' w' hS' h5 hK) hC
theorem wp_region_plan {id : Nat} {a : Act} {w : World} {ol : List Oper} (f : Nat) (l : List Ins) (hm : P.follows .mixedOrders = true) (hl : plMany f l = ol.length)
    (hB : (Region.noSelect ol.toArray && plB ol.toArray f l (Array.replicate ol.toArray.size false)) = true) (hQ : ∀ d v c a w, Q (.panic c) (a.put d v) w → Q (.panic c) a w)
    (hS : S w.drew) (h : wpPl P ol.toArray Q S ol f l a w.drew) : (Code.region id ol.toArray true).wp P Q a w := by
  simp only [Bool.and_eq_true] at hB
  have h1 := wpPl_any hB.1 hQ f l _ a w.drew hS hB.2 h
  rw [hl] at h1
  exact wp_region_held hm (by simpa using h1)
variable {a : Act} {w : World} {o x y : Oper} {ol : List Oper} {i j k f : Nat} {r : List Ins}
theorem wpPl_done (h : Q .normal a w) : wpPl P ops Q S ol f [] a w := by cases f <;> exact h
theorem wpPl_yield {v : Value} (ho : ol[i]? = some o) (hw : Region.wanted o (yielded ops a.tmps) = true) (hr : ∀ u, S u → (execOp a.eval o).run P u = .ok (.value v) u) (h : wpPl P ops Q S ol f r (a.put o.dst v) w) : wpPl P ops Q S ol (f + 1) (.inl i :: r) a w := fun o' ho' => by
  obtain rfl : o = o' := by rw [ho] at ho'; exact Option.some.inj ho'
  exact ⟨v, .inl ⟨hw, hr⟩, h⟩
theorem wpPl_skip (ho : ol[i]? = some o) (hw : Region.wanted o (yielded ops a.tmps) = false) (h : wpPl P ops Q S ol f r (a.put o.dst undef) w) : wpPl P ops Q S ol (f + 1) (.inl i :: r) a w := fun o' ho' => by
  obtain rfl : o = o' := by rw [ho] at ho'; exact Option.some.inj ho'
  exact ⟨undef, .inr ⟨hw, rfl⟩, h⟩
theorem wpPl_act (ho : ol[i]? = some o) (h : wpAct P ops Q S o (wpPl P ops Q S ol f r) a w) : wpPl P ops Q S ol (f + 1) (.inr (.inl i) :: r) a w := fun o' ho' => by
  obtain rfl : o = o' := by rw [ho] at ho'; exact Option.some.inj ho'
  exact h
theorem wpPl_two {r1 r2 : List Ins} (hi : ol[i]? = some x) (hj : ol[j]? = some y) (h1 : wpAct P ops Q S x (wpPl P ops Q S ol f r1) a w) (h2 : wpAct P ops Q S y (wpPl P ops Q S ol f r2) a w) (e1 : r.take k = r1) (e2 : r.drop k = r2) : wpPl P ops Q S ol (f + 1) (.inr (.inr (i, j, k)) :: r) a w := fun x' y' hx hy => by
  obtain rfl : x = x' := by rw [hi] at hx; exact Option.some.inj hx
  obtain rfl : y = y' := by rw [hj] at hy; exact Option.some.inj hy
  subst e1 e2
  exact ⟨h1, h2⟩
end
end Go.Proofs.Ytgkhheblmknedaa
