/- Regions whose order is drawn, where several operations that act may come up in any order: each is walked; S holds all along. -/
import Derived.Test.YtohknfoljnddjaaFork
namespace Go.Proofs.Ytohknfoljnddjaa
open Go.RowKit

/-- How such a region is walked: rd: this one only reads, and is taken first; alt: this one may come up, and what then, and the others that may. -/
inductive OT where
  | fin : OT
  | rd : Nat → OT → OT
  | alt : Nat → OT → OT → OT
  | stop : OT
section
variable {P : Program} {Q : Exit → Act → World → Prop} {S : World → Prop}
def okT (ops : Array Oper) : OT → Nat → Array Bool → Option (List Nat) → Bool
  | .fin, 0, L, none => (Region.ready .any ops L).isEmpty
  | .rd i r, n + 1, L, none => (Region.ready .any ops L).contains i && Region.free .any ops L i && (ops[i]?).isSome && okT ops r n (L.setIfInBounds i true) none
  | .alt i r more, n + 1, L, none => match Region.ready .any ops L with
    | j :: js => (j == i) && (ops[i]?).isSome && okT ops r n (L.setIfInBounds i true) none && okT ops more (n + 1) L (some js)
    | [] => false
  | .alt i r more, n + 1, L, some (j :: js) => (j == i) && (ops[i]?).isSome && okT ops r n (L.setIfInBounds i true) none && okT ops more (n + 1) L (some js)
  | .stop, _ + 1, _, some [] => true
  | _, _, _, _ => false
def wpT (P : Program) (ops : Array Oper) (Q : Exit → Act → World → Prop) (S : World → Prop) (ol : List Oper) : OT → Act → World → Prop
  | .fin, a, w => Q .normal a w
  | .rd i r, a, w => ∀ o, ol[i]? = some o → ∃ v, YieldsIf P ops S o v a ∧ wpT P ops Q S ol r (a.put o.dst v) w
  | .alt i r more, a, w => (∀ o, ol[i]? = some o → wpAct P ops Q S o (wpT P ops Q S ol r) a w) ∧ wpT P ops Q S ol more a w
  | .stop, _, _ => True
theorem wpT_any {ol : List Oper} (hs : Region.noSelect ol.toArray = true) (hQ : ∀ d v c a w, Q (.panic c) (a.put d v) w → Q (.panic c) a w) : ∀ (t : OT) (n : Nat) (L : Array Bool) (a : Act) (w : World), S w →
    (okT ol.toArray t n L none = true → wpT P ol.toArray Q S ol t a w → wpAnyH P .any ol.toArray Q S n L a w) ∧
    (∀ js m, n = m + 1 → okT ol.toArray t n L (some js) = true → wpT P ol.toArray Q S ol t a w → ∀ j ∈ js, wpOp P ol.toArray Q j (fun a' w' => S w' ∧ wpAnyH P .any ol.toArray Q S m (L.setIfInBounds j true) a' w') a w)
  | .fin, 0, L, a, w, hS => ⟨fun hB h => wpAnyH_done (by simpa [okT] using hB) h _, fun js m hm => by cases hm⟩
  | .fin, n + 1, L, a, w, hS => ⟨fun hB => by simp [okT] at hB, fun js m _ hB => by cases js <;> simp [okT] at hB⟩
  | .rd i r, 0, L, a, w, hS => ⟨fun hB => by simp [okT] at hB, fun js m hm => by cases hm⟩
  | .rd i r, n + 1, L, a, w, hS => by
    refine ⟨fun hB h => ?_, fun js m _ hB => by cases js <;> simp [okT] at hB⟩
    simp only [okT, Bool.and_eq_true] at hB
    obtain ⟨⟨⟨h1, h2⟩, h3⟩, h4⟩ := hB
    obtain ⟨o, hi⟩ := Option.isSome_iff_exists.1 h3
    have hi' : ol[i]? = some o := by simpa using hi
    obtain ⟨v, hy, hr⟩ := h o hi'
    exact wpAnyH_take hi hs h2 h1 (fun c a w => hQ _ _ c a w) hy hS ((wpT_any hs hQ r n _ _ w hS).1 h4 hr)
  | .alt i r more, 0, L, a, w, hS => ⟨fun hB => by simp [okT] at hB, fun js m hm => by cases hm⟩
  | .alt i r more, n + 1, L, a, w, hS => by
    have key : ∀ j js, ((j == i) && (ol.toArray[i]?).isSome && okT ol.toArray r n (L.setIfInBounds i true) none && okT ol.toArray more (n + 1) L (some js)) = true → wpT P ol.toArray Q S ol (.alt i r more) a w →
        ∀ j' ∈ j :: js, wpOp P ol.toArray Q j' (fun a' w' => S w' ∧ wpAnyH P .any ol.toArray Q S n (L.setIfInBounds j' true) a' w') a w := by
      intro j js hB h j' hj'
      simp only [Bool.and_eq_true, beq_iff_eq] at hB
      obtain ⟨⟨⟨rfl, h3⟩, h4⟩, h5⟩ := hB
      obtain ⟨o, hi⟩ := Option.isSome_iff_exists.1 h3
      have hi' : ol[j]? = some o := by simpa using hi
      rcases List.mem_cons.1 hj' with rfl | hm
      · exact wpOp_act hi (fun a' w' hS' hK => (wpT_any hs hQ r n _ a' w' hS').1 h4 hK) (h.1 o hi')
      · exact (wpT_any hs hQ more (n + 1) L a w hS).2 js n rfl h5 h.2 j' hm
    refine ⟨fun hB h => ?_, fun js m hm hB h => ?_⟩
    · simp only [okT] at hB
      split at hB
      · rename_i j js hr
        refine wpAnyH_all hr (by simp) fun j' hj' => key j js hB h j' hj'
      · cases hB
    · obtain rfl : n = m := by omega
      cases js with
      | nil => simp [okT] at hB
      | cons j js => exact key j js (by simpa only [okT] using hB) h
  | .stop, 0, L, a, w, hS => ⟨fun hB => by simp [okT] at hB, fun js m hm => by cases hm⟩
  | .stop, n + 1, L, a, w, hS => by
    refine ⟨fun hB => by simp [okT] at hB, fun js m _ hB _ j hj => ?_⟩
    cases js with
    | nil => cases hj
    | cons j js => simp [okT] at hB
/-- A region that draws its order, walked so. -/
theorem wp_region_tree {id : Nat} {a : Act} {w : World} {ol : List Oper} (t : OT) (hm : P.follows .mixedOrders = true)
    (hB : (Region.noSelect ol.toArray && okT ol.toArray t ol.length (Array.replicate ol.toArray.size false) none) = true) (hQ : ∀ d v c a w, Q (.panic c) (a.put d v) w → Q (.panic c) a w)
    (hS : S w.drew) (h : wpT P ol.toArray Q S ol t a w.drew) : (Code.region id ol.toArray true).wp P Q a w := by
  simp only [Bool.and_eq_true] at hB
  have h1 := (wpT_any hB.1 hQ t _ _ a w.drew hS).1 hB.2 h
  exact wp_region_held hm (by simpa using h1)
section
variable {ops : Array Oper} {ol : List Oper} {i : Nat} {r more : OT} {a : Act} {w w' : World} {o : Oper} {v : Value}
theorem wpT_yield (ho : ol[i]? = some o) (hw : Region.wanted o (yielded ops a.tmps) = true) (hr : ∀ u, S u → (execOp a.eval o).run P u = .ok (.value v) u) (h : wpT P ops Q S ol r (a.put o.dst v) w) : wpT P ops Q S ol (.rd i r) a w := by
  intro o' ho'
  obtain rfl : o = o' := by rw [ho] at ho'; exact Option.some.inj ho'
  exact ⟨v, .inl ⟨hw, hr⟩, h⟩
/-- Something is made, or done. -/
theorem wpT_make (ho : ol[i]? = some o) (hw : Region.wanted o (yielded ops a.tmps) = true) (hr : (execOp a.eval o).run P w = .ok (.value v) w') (hS : S w') (h : wpT P ops Q S ol r (a.put o.dst v) w') (hm : wpT P ops Q S ol more a w) : wpT P ops Q S ol (.alt i r more) a w := by
  refine ⟨fun o' ho' => ?_, hm⟩
  obtain rfl : o = o' := by rw [ho] at ho'; exact Option.some.inj ho'
  unfold wpAct
  rw [if_pos hw]
  unfold Oper.wp
  rw [hr]
  exact ⟨hS, h⟩
theorem wpT_do (ho : ol[i]? = some o) (hw : Region.wanted o (yielded ops a.tmps) = true) (hr : (execOp a.eval o).run P w = .ok .skip w') (hS : S w') (h : wpT P ops Q S ol r (a.put o.dst undef) w') (hm : wpT P ops Q S ol more a w) : wpT P ops Q S ol (.alt i r more) a w := by
  refine ⟨fun o' ho' => ?_, hm⟩
  obtain rfl : o = o' := by rw [ho] at ho'; exact Option.some.inj ho'
  unfold wpAct
  rw [if_pos hw]
  unfold Oper.wp
  rw [hr]
  exact ⟨hS, h⟩
theorem wpT_call (ho' : ol[i]? = some o) (hw : Region.wanted o (yielded ops a.tmps) = true) (f : FuncId) (xs : List Operand) (ts : Array TypeId) (ho : o.op = .call { callee := .value (.func f), args := xs.toArray, argTypes := ts }) (hc : ∀ args u, (callFunc f args).run P u = .ok (.enter f args) u) (args : List Value) (hx : xs.map a.eval = args)
    (h : Calls P f args.toArray w fun e w' => ∃ v, e = .returned v ∧ S w' ∧ wpT P ops Q S ol r (a.put o.dst v) w') (hm : wpT P ops Q S ol more a w) : wpT P ops Q S ol (.alt i r more) a w := by
  refine ⟨fun o'' ho'' => ?_, hm⟩
  obtain rfl : o = o'' := by rw [ho'] at ho''; exact Option.some.inj ho''
  unfold wpAct
  rw [if_pos hw]
  unfold Oper.wp execOp
  have e : (do let d ← resolve a.eval { callee := .value (.func f), args := xs.toArray, argTypes := ts } o.type; invoke d.target d.args : Sem Next).run P w = .ok (.enter f args.toArray) w := by
    have hx' : xs.toArray.map a.eval = args.toArray := by rw [← hx]; simp
    simp only [resolve, hx']
    simp [Act.eval, Deferred.ofValue, invoke, hc]
  simp only [ho]
  rw [e]
  unfold Oper.upon
  exact h.mono fun e w' ⟨v, he, h1, h2⟩ => by subst he; exact ⟨h1, h2⟩
end
end
end Go.Proofs.Ytohknfoljnddjaa
