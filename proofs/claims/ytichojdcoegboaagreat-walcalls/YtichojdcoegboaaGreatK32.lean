/- Regions whose order is drawn, where several operations that act may come up in any order: a tree of them is walked; no condition. -/
import Derived.Test.YtichojdcoegboaaGreatK1
namespace Go.Proofs.YtichojdcoegboaaGreatW
open Go.RowKit
def OT : Nat → Type
 | 0 => Unit
 | n + 1 => Sum (Nat × OT n) (List (Nat × OT n))
def finT : OT 0 := ()
def rdT {n : Nat} (i : Nat) (r : OT n) : OT (n + 1) := Sum.inl (i, r)
def altT {n : Nat} (l : List (Nat × OT n)) : OT (n + 1) := Sum.inr l
section
variable {P : Program} {Q : Exit → Act → World → Prop} {S : World → Prop}
def okT (ops : Array Oper) : (n : Nat) → OT n → Array Bool → Bool
 | 0, _, L => (Region.ready .any ops L).isEmpty
 | n + 1, .inl (i, r), L => (Region.ready .any ops L).contains i && Region.free .any ops L i && (ops[i]?).isSome && okT ops n r (L.setIfInBounds i true)
 | n + 1, .inr l, L => (Region.ready .any ops L == l.map (·.1)) && !l.isEmpty && l.all fun p => (ops[p.1]?).isSome && okT ops n p.2 (L.setIfInBounds p.1 true)
def wpT (P : Program) (ops : Array Oper) (Q : Exit → Act → World → Prop) (S : World → Prop) (ol : List Oper) : (n : Nat) → OT n → Act → World → Prop
 | 0, _, a, w => Q .normal a w
 | n + 1, .inl (i, r), a, w => ∀ o, ol[i]? = some o → ∃ v, YieldsIf P ops S o v a ∧ wpT P ops Q S ol n r (a.put o.dst v) w
 | n + 1, .inr l, a, w => ∀ p ∈ l, ∀ o, ol[p.1]? = some o → wpAct P ops Q S o (wpT P ops Q S ol n p.2) a w
theorem wpT_any {ol : List Oper} (hs : Region.noSelect ol.toArray = true) (hQ : ∀ d v c a w, Q (.panic c) (a.put d v) w → Q (.panic c) a w) : ∀ (n : Nat) (t : OT n) (L : Array Bool) (a : Act) (w : World), S w →
  okT ol.toArray n t L = true → wpT P ol.toArray Q S ol n t a w → wpAnyH P .any ol.toArray Q S n L a w
 | 0, _, L, a, w, _, hB, h => wpAnyH_done (by simpa [okT] using hB) h _
 | n + 1, .inl (i, r), L, a, w, hS, hB, h => by
  simp only [okT, Bool.and_eq_true] at hB
  obtain ⟨⟨⟨h1, h2⟩, h3⟩, h4⟩ := hB
  obtain ⟨o, hi⟩ := Option.isSome_iff_exists.1 h3
  have hi' : ol[i]? = some o := by simpa using hi
  obtain ⟨v, hy, hr⟩ := h o hi'
  exact wpAnyH_take hi hs h2 h1 (fun c a w => hQ _ _ c a w) hy hS (wpT_any hs hQ n r _ _ w hS h4 hr)
 | n + 1, .inr l, L, a, w, hS, hB, h => by
  simp only [okT, Bool.and_eq_true, beq_iff_eq, List.all_eq_true, Bool.not_eq_true', List.isEmpty_eq_false_iff] at hB
  obtain ⟨⟨h1, hl⟩, h2⟩ := hB
  refine wpAnyH_all h1 (by simpa using hl) fun j hj => ?_
  obtain ⟨p, hp, rfl⟩ := List.mem_map.1 hj
  obtain ⟨h3, h4⟩ := h2 p hp
  obtain ⟨o, hi⟩ := Option.isSome_iff_exists.1 h3
  have hi' : ol[p.1]? = some o := by simpa using hi
  exact wpOp_act hi (fun a' w' hS' hK => wpT_any hs hQ n p.2 _ a' w' hS' h4 hK) (h p hp o hi')
theorem wp_region_tree {id : Nat} {a : Act} {w : World} {ol : List Oper} {n : Nat} (t : OT n) (hm : P.follows .mixedOrders = true) (hn : n = ol.length)
  (hB : (Region.noSelect ol.toArray && okT ol.toArray n t (Array.replicate ol.toArray.size false)) = true) (hQ : ∀ d v c a w, Q (.panic c) (a.put d v) w → Q (.panic c) a w)
  (hS : S w.drew) (h : wpT P ol.toArray Q S ol n t a w.drew) : (Code.region id ol.toArray true).wp P Q a w := by
 simp only [Bool.and_eq_true] at hB
 have h1 := wpT_any hB.1 hQ n t _ a w.drew hS hB.2 h
 rw [hn] at h1
 exact wp_region_held hm (by simpa using h1)
section
variable {ops : Array Oper} {ol : List Oper} {i n : Nat} {r : OT n} {more : List (Nat × OT n)} {a : Act} {w w' : World} {o : Oper} {v : Value}
theorem wpT_fin (h : Q .normal a w) : wpT P ops Q S ol 0 finT a w := h
theorem wpT_stop : wpT P ops Q S ol (n + 1) (altT []) a w := by
 intro p hp
 cases hp
theorem wpT_cons (h : ∀ o, ol[i]? = some o → wpAct P ops Q S o (wpT P ops Q S ol n r) a w) (hm : wpT P ops Q S ol (n + 1) (altT more) a w) : wpT P ops Q S ol (n + 1) (altT ((i, r) :: more)) a w := by
 intro p hp
 rcases List.mem_cons.1 hp with rfl | hp
 ·exact h
 ·exact hm p hp
theorem wpT_yield (ho : ol[i]? = some o) (hw : Region.wanted o (yielded ops a.tmps) = true) (hr : ∀ u, S u → (execOp a.eval o).run P u = .ok (.value v) u) (h : wpT P ops Q S ol n r (a.put o.dst v) w) : wpT P ops Q S ol (n + 1) (rdT i r) a w := by
 intro o' ho'
 obtain rfl : o = o' := by rw [ho] at ho'; exact Option.some.inj ho'
 exact ⟨v, .inl ⟨hw, hr⟩, h⟩
theorem wpT_make (ho : ol[i]? = some o) (hw : Region.wanted o (yielded ops a.tmps) = true) (hr : (execOp a.eval o).run P w = .ok (.value v) w') (hS : S w') (h : wpT P ops Q S ol n r (a.put o.dst v) w') (hm : wpT P ops Q S ol (n + 1) (altT more) a w) : wpT P ops Q S ol (n + 1) (altT ((i, r) :: more)) a w := by
 refine wpT_cons (fun o' ho' => ?_) hm
 obtain rfl : o = o' := by rw [ho] at ho'; exact Option.some.inj ho'
 unfold wpAct
 rw [if_pos hw]
 unfold Oper.wp
 rw [hr]
 exact ⟨hS, h⟩
theorem wpT_do (ho : ol[i]? = some o) (hw : Region.wanted o (yielded ops a.tmps) = true) (hr : (execOp a.eval o).run P w = .ok .skip w') (hS : S w') (h : wpT P ops Q S ol n r (a.put o.dst undef) w') (hm : wpT P ops Q S ol (n + 1) (altT more) a w) : wpT P ops Q S ol (n + 1) (altT ((i, r) :: more)) a w := by
 refine wpT_cons (fun o' ho' => ?_) hm
 obtain rfl : o = o' := by rw [ho] at ho'; exact Option.some.inj ho'
 unfold wpAct
 rw [if_pos hw]
 unfold Oper.wp
 rw [hr]
 exact ⟨hS, h⟩
theorem wpT_call (ho' : ol[i]? = some o) (hw : Region.wanted o (yielded ops a.tmps) = true) (f : FuncId) (xs : List Operand) (ts : Array TypeId) (ho : o.op = .call { callee := .value (.func f), args := xs.toArray, argTypes := ts }) (hc : ∀ args u, (callFunc f args).run P u = .ok (.enter f args) u) (args : List Value) (hx : xs.map a.eval = args)
  (h : Calls P f args.toArray w fun e w' => ∃ v, e = .returned v ∧ S w' ∧ wpT P ops Q S ol n r (a.put o.dst v) w') (hm : wpT P ops Q S ol (n + 1) (altT more) a w) : wpT P ops Q S ol (n + 1) (altT ((i, r) :: more)) a w := by
 refine wpT_cons (fun o'' ho'' => ?_) hm
 obtain rfl : o = o'' := by rw [ho'] at ho''; exact Option.some.inj ho''
 unfold wpAct
 rw [if_pos hw]
 unfold Oper.wp execOp
 have e : (do let d ← resolve a.eval { callee := .value (.func f), args := xs.toArray, argTypes := ts } o.type; invoke d.target d.args : Sem Next).run P w = .ok (.enter f args.toArray) w := by
  have hx' : xs.toArray.map a.eval = args.toArray := by rw [← hx]; simp
  simp only [resolve, hx']
  simp [Act.eval, Deferred.ofValue, invoke, hc]
 simp only [ho]
 rw [e]
 unfold Oper.upon
 exact h.mono fun e w' ⟨v, he, h1, h2⟩ => by subst he; exact ⟨h1, h2⟩
end
end
theorem wp_mono_at {P : Program} {Q : Exit → Act → World → Prop} {c : Code} {a : Act} {w : World} (A : Nat → Act) (S : Nat → World → Prop) (h : c.wp P (fun e a' w' => e = .normal ∧ ∃ g, a' = A g ∧ S g w') a w) (hr : ∀ g w', S g w' → Q .normal (A g) w') : c.wp P Q a w := by
 refine Code.wp_mono (fun e a' w' q => ?_) h
 obtain ⟨rfl, g, rfl, hs⟩ := q
 exact hr g w' hs
end Go.Proofs.YtichojdcoegboaaGreatW
