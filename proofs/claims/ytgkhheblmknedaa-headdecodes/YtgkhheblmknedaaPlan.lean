/- Regions whose order is drawn, walked by a plan: reads, what acts alone, and one of two that act, each with its own plan behind it; S holds all along. -/
import Derived.Test.YtgkhheblmknedaaSteps
namespace Go.Proofs.Ytgkhheblmknedaa
open Go.RowKit
inductive Pl where
  | done
  | rd (i : Nat) (r : Pl)
  | act (i : Nat) (r : Pl)
  | two (i j : Nat) (r1 r2 : Pl)
def Pl.many : Pl → Nat
  | .done => 0
  | .rd _ r => r.many + 1
  | .act _ r => r.many + 1
  | .two _ _ r1 _ => r1.many + 1
section
variable {P : Program} {ops : Array Oper} {Q : Exit → Act → World → Prop} {S : World → Prop}
def plB (ops : Array Oper) : Pl → Array Bool → Bool
  | .done, listed => (Region.ready .any ops listed).isEmpty
  | .rd i r, listed => (Region.ready .any ops listed).contains i && Region.free .any ops listed i && (ops[i]?).isSome && plB ops r (listed.setIfInBounds i true)
  | .act i r, listed => (Region.ready .any ops listed == [i]) && (ops[i]?).isSome && plB ops r (listed.setIfInBounds i true)
  | .two i j r1 r2, listed => (Region.ready .any ops listed == [i, j]) && (ops[i]?).isSome && (ops[j]?).isSome && (r1.many == r2.many) && plB ops r1 (listed.setIfInBounds i true) && plB ops r2 (listed.setIfInBounds j true)
def wpPl (P : Program) (ops : Array Oper) (Q : Exit → Act → World → Prop) (S : World → Prop) (ol : List Oper) : Pl → Act → World → Prop
  | .done, a, w => Q .normal a w
  | .rd i r, a, w => ∀ o, ol[i]? = some o → ∃ v, YieldsIf P ops S o v a ∧ wpPl P ops Q S ol r (a.put o.dst v) w
  | .act i r, a, w => ∀ o, ol[i]? = some o → wpAct P ops Q S o (wpPl P ops Q S ol r) a w
  | .two i j r1 r2, a, w => ∀ x y, ol[i]? = some x → ol[j]? = some y → wpAct P ops Q S x (wpPl P ops Q S ol r1) a w ∧ wpAct P ops Q S y (wpPl P ops Q S ol r2) a w
theorem wpPl_any {ol : List Oper} (hs : Region.noSelect ol.toArray = true) (hQ : ∀ d v c a w, Q (.panic c) (a.put d v) w → Q (.panic c) a w) : ∀ (l : Pl) (listed : Array Bool) (a : Act) (w : World), S w →
    plB ol.toArray l listed = true → wpPl P ol.toArray Q S ol l a w → wpAnyH P .any ol.toArray Q S l.many listed a w
  | .done, listed, a, w, _, hB, h => wpAnyH_done (by simpa [plB] using hB) h _
  | .rd i r, listed, a, w, hS, hB, h => by
    simp only [plB, Bool.and_eq_true] at hB
    obtain ⟨⟨⟨h1, h2⟩, h3⟩, h4⟩ := hB
    obtain ⟨o, hi⟩ := Option.isSome_iff_exists.1 h3
    obtain ⟨v, hy, hr⟩ := h o (by simpa using hi)
    exact wpAnyH_take hi hs h2 h1 (fun c a w => hQ _ _ c a w) hy hS (wpPl_any hs hQ r _ _ w hS h4 hr)
  | .act i r, listed, a, w, hS, hB, h => by
    simp only [plB, Bool.and_eq_true, beq_iff_eq] at hB
    obtain ⟨⟨h1, h3⟩, h2⟩ := hB
    obtain ⟨o, hi⟩ := Option.isSome_iff_exists.1 h3
    refine wpAnyH_all h1 (by simp) fun j hj => ?_
    obtain rfl : j = i := by simpa using hj
    exact wpOp_act hi (fun a' w' hS' hK => wpPl_any hs hQ r _ a' w' hS' h2 hK) (h o (by simpa using hi))
  | .two i j r1 r2, listed, a, w, hS, hB, h => by
    simp only [plB, Bool.and_eq_true, beq_iff_eq] at hB
    obtain ⟨⟨⟨⟨⟨h1, h2⟩, h3⟩, hm⟩, h4⟩, h5⟩ := hB
    obtain ⟨x, hx⟩ := Option.isSome_iff_exists.1 h2
    obtain ⟨y, hy⟩ := Option.isSome_iff_exists.1 h3
    obtain ⟨hA, hC⟩ := h x y (by simpa using hx) (by simpa using hy)
    refine wpAnyH_all h1 (by simp) fun k hk => ?_
    simp only [List.mem_cons, List.not_mem_nil, or_false] at hk
    rcases hk with rfl | rfl
    · exact wpOp_act hx (fun a' w' hS' hK => wpPl_any hs hQ r1 _ a' w' hS' h4 hK) hA
    · show wpOp P ol.toArray Q k (fun a' w' => S w' ∧ wpAnyH P .any ol.toArray Q S r1.many _ a' w') a w
      rw [hm]
      exact wpOp_act hy (fun a' w' hS' hK => wpPl_any hs hQ r2 _ a' w' hS' h5 hK) hC
theorem wp_region_plan {id : Nat} {a : Act} {w : World} {ol : List Oper} (l : Pl) (hm : P.follows .mixedOrders = true) (hl : l.many = ol.length)
    (hB : (Region.noSelect ol.toArray && plB ol.toArray l (Array.replicate ol.toArray.size false)) = true) (hQ : ∀ d v c a w, Q (.panic c) (a.put d v) w → Q (.panic c) a w)
    (hS : S w.drew) (h : wpPl P ol.toArray Q S ol l a w.drew) : (Code.region id ol.toArray true).wp P Q a w := by
  simp only [Bool.and_eq_true] at hB
  have h1 := wpPl_any hB.1 hQ l _ a w.drew hS hB.2 h
  rw [hl] at h1
  exact wp_region_held hm (by simpa using h1)
variable {a : Act} {w : World} {o x y : Oper} {ol : List Oper} {i j : Nat} {r r1 r2 : Pl}
theorem wpPl_done (h : Q .normal a w) : wpPl P ops Q S ol .done a w := h
theorem wpPl_yield {v : Value} (ho : ol[i]? = some o) (hw : Region.wanted o (yielded ops a.tmps) = true) (hr : ∀ u, S u → (execOp a.eval o).run P u = .ok (.value v) u) (h : wpPl P ops Q S ol r (a.put o.dst v) w) : wpPl P ops Q S ol (.rd i r) a w := fun o' ho' => by
  obtain rfl : o = o' := by rw [ho] at ho'; exact Option.some.inj ho'
  exact ⟨v, .inl ⟨hw, hr⟩, h⟩
theorem wpPl_skip (ho : ol[i]? = some o) (hw : Region.wanted o (yielded ops a.tmps) = false) (h : wpPl P ops Q S ol r (a.put o.dst undef) w) : wpPl P ops Q S ol (.rd i r) a w := fun o' ho' => by
  obtain rfl : o = o' := by rw [ho] at ho'; exact Option.some.inj ho'
  exact ⟨undef, .inr ⟨hw, rfl⟩, h⟩
theorem wpPl_act (ho : ol[i]? = some o) (h : wpAct P ops Q S o (wpPl P ops Q S ol r) a w) : wpPl P ops Q S ol (.act i r) a w := fun o' ho' => by
  obtain rfl : o = o' := by rw [ho] at ho'; exact Option.some.inj ho'
  exact h
theorem wpPl_two (hi : ol[i]? = some x) (hj : ol[j]? = some y) (h1 : wpAct P ops Q S x (wpPl P ops Q S ol r1) a w) (h2 : wpAct P ops Q S y (wpPl P ops Q S ol r2) a w) : wpPl P ops Q S ol (.two i j r1 r2) a w := fun x' y' hx hy => by
  obtain rfl : x = x' := by rw [hi] at hx; exact Option.some.inj hx
  obtain rfl : y = y' := by rw [hj] at hy; exact Option.some.inj hy
  exact ⟨h1, h2⟩
end
end Go.Proofs.Ytgkhheblmknedaa
