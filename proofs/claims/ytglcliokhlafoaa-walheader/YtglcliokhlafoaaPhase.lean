/- Regions whose order is drawn, where what was read is written over at the end: A holds all along, B until the operation m has come up; what m waits for may be read under B. -/
import Derived.Test.YtglcliokhlafoaaSameH
namespace Go.Proofs.Ytglcliokhlafoaa
open Go.RowKit
section
variable {P : Program} {ops : Array Oper} {Q : Exit → Act → World → Prop} {A B : World → Prop} {m : Nat}
/-- What is asked behind an operation: A, and B as long as m is to come. -/
def PhS (A B : World → Prop) (m : Nat) (L : Array Bool) (w : World) : Prop := A w ∧ (L.getD m true = false → B w)
/-- Whatever order comes up from here on. -/
def anyPh (P : Program) (ops : Array Oper) (Q : Exit → Act → World → Prop) (A B : World → Prop) (m : Nat) : Nat → Array Bool → Act → World → Prop
  | 0, L, a, w => Region.ready .any ops L = [] ∧ Q .normal a w
  | n + 1, L, a, w => (Region.ready .any ops L = [] → Q .normal a w) ∧ ∀ i ∈ Region.ready .any ops L, wpOp P ops Q i (fun a' w' => PhS A B m (L.setIfInBounds i true) w' ∧ anyPh P ops Q A B m n (L.setIfInBounds i true) a' w') a w
theorem anyPh_any : ∀ (n : Nat) (L : Array Bool) (a : Act) (w : World), anyPh P ops Q A B m n L a w → wpAny P .any ops Q n L a w
  | 0, _, _, _, h => h
  | n + 1, _, _, _, h => ⟨h.1, fun i hi => wpOp_mono (fun a' w' h' => anyPh_any n _ a' w' h'.2) (h.2 i hi)⟩
theorem unlisted_of_ready {i j : Nat} {L : Array Bool} {oj : Oper} (hi : i ∈ Region.ready .any ops L) (hj : j ∈ Region.ready .any ops L) (hoj : ops[j]? = some oj) : ∀ e ∈ oj.after, Region.binds .any e = true → e.on ≠ i := fun e he hb heq => by
  obtain ⟨_, o, ho, hall⟩ := mem_ready.1 hj
  rw [hoj] at ho
  cases ho
  have h1 := hall e he hb
  have h0 := (mem_ready.1 hi).1
  rw [heq] at h1
  rcases Nat.lt_or_ge i L.size with h' | h'
  · simp [h'] at h0 h1
    rw [h0] at h1
    cases h1
  · simp [Array.getElem?_eq_none h'] at h1
/-- An operation is taken first: V is what it reads under; V holds as long as it is to come. -/
theorem anyPh_first {V : World → Prop} {i : Nat} {oi : Oper} {v : Value} (hi : ops[i]? = some oi) (hsel : ∀ (j : Nat) (o : Oper) cs b, ops[j]? = some o → o.op ≠ .select cs b) (hQ : ∀ c a w, Q (.panic c) (a.put oi.dst v) w → Q (.panic c) a w) (him : i ≠ m)
    (hV : (∀ w, A w → V w) ∨ ((∀ w, A w → B w → V w) ∧ ∀ om, ops[m]? = some om → ∃ e ∈ om.after, Region.binds .any e = true ∧ e.on = i)) :
    ∀ (n : Nat) (L : Array Bool) (a : Act) (w : World), (∀ j oj, ops[j]? = some oj → j ≠ i → L.getD j true = false → (∀ e ∈ oj.after, Region.binds .any e = true → e.on ≠ i) → oi.apart ops oj = true) →
      ((∀ w, A w → V w) ∨ L.getD m true = false) → i ∈ Region.ready .any ops L → YieldsIf P ops V oi v a → PhS A B m L w → anyPh P ops Q A B m n (L.setIfInBounds i true) (a.put oi.dst v) w → anyPh P ops Q A B m (n + 1) L a w := by
  have same : ∀ (L : Array Bool) (w : World), PhS A B m (L.setIfInBounds i true) w ↔ PhS A B m L w := fun L w => by
    unfold PhS
    rw [getD_set_ne true him]
  have reads : ∀ (L : Array Bool) (w : World), ((∀ w, A w → V w) ∨ L.getD m true = false) → PhS A B m L w → V w := fun L w hL h => by
    rcases hV with q | ⟨q, _⟩
    · exact q w h.1
    · rcases hL with q2 | q2
      · exact q2 w h.1
      · exact q w h.1 (h.2 q2)
  intro n
  induction n with
  | zero =>
    intro L a w _ hL hr hy hS H
    refine ⟨fun h => (by rw [h] at hr; cases hr), fun j hj => ?_⟩
    by_cases hji : j = i
    · subst hji
      exact hy.wpOp hi (reads L w hL hS) ⟨(same L w).2 hS, H⟩
    · have := ready_mono hj hji
      rw [H.1] at this
      cases this
  | succ n ih =>
    intro L a w hfree hL hr hy hS H
    refine ⟨fun h => (by rw [h] at hr; cases hr), fun j hj => ?_⟩
    by_cases hji : j = i
    · subst hji
      exact hy.wpOp hi (reads L w hL hS) ⟨(same L w).2 hS, H⟩
    · obtain ⟨hjun, oj, hoj, _⟩ := mem_ready.1 hj
      have hnot := unlisted_of_ready hr hj hoj
      have h2 := wpOp_putIf hoj (hfree j oj hoj hji hjun hnot) (fun cs b => hsel i oi cs b hi) (fun cs b => hsel j oj cs b hoj) hQ hy (H.2 j (ready_mono hj hji))
      have hL' : (∀ w, A w → V w) ∨ (L.setIfInBounds j true).getD m true = false := by
        rcases hV with q | ⟨_, q⟩
        · exact .inl q
        · rcases hL with q2 | q2
          · exact .inl q2
          · refine .inr ?_
            have hjm : j ≠ m := fun e => by
              subst e
              obtain ⟨e, h1, h2, h3⟩ := q oj hoj
              exact hnot e h1 h2 h3
            rw [getD_set_ne true hjm]
            exact q2
      refine wpOp_mono (fun a' w' h3 => ?_) h2
      have h4 : PhS A B m (L.setIfInBounds j true) w' := by
        refine (same _ w').1 ?_
        rw [Array.setIfInBounds_comm _ _ hji]
        exact h3.2.1
      refine ⟨h4, ih (L.setIfInBounds j true) a' w' (fun k ok hk hki hun hno => hfree k ok hk hki ?_ hno) hL' (ready_mono hr (Ne.symm hji)) h3.1 h4 ?_⟩
      · by_cases hjk : j = k
        · subst hjk
          exact hjun
        · rw [getD_set_ne true hjk] at hun
          exact hun
      · rw [Array.setIfInBounds_comm _ _ hji]
        exact h3.2.2
/-- May the operations be taken in this order? 0: a read under A; 1: a read under B, that m waits for; else: nothing else may come up. -/
def ordC (ops : Array Oper) (m : Nat) : List (Nat × Nat) → Array Bool → Bool
  | [], L => (Region.ready .any ops L).isEmpty
  | (i, 0) :: r, L => (Region.ready .any ops L).contains i && Region.free .any ops L i && (ops[i]?).isSome && (i != m) && ordC ops m r (L.setIfInBounds i true)
  | (i, 1) :: r, L => (Region.ready .any ops L).contains i && Region.free .any ops L i && (ops[i]?).isSome && (i != m) && (!(L.getD m true)) && (match ops[m]? with | some om => om.after.any fun e => Region.binds .any e && (e.on == i) | none => false) && ordC ops m r (L.setIfInBounds i true)
  | (i, _) :: r, L => (Region.ready .any ops L == [i]) && (ops[i]?).isSome && ordC ops m r (L.setIfInBounds i true)
/-- The operations themselves, in that order. -/
def inOrdC (ol : List Oper) (m : Nat) : List (Nat × Nat) → List (Nat × Bool × Oper)
  | [] => []
  | (i, k) :: r => match ol[i]? with
    | some o => (k, i == m, o) :: inOrdC ol m r
    | none => inOrdC ol m r
def wpPh (P : Program) (ops : Array Oper) (Q : Exit → Act → World → Prop) (A B : World → Prop) : List (Nat × Bool × Oper) → Bool → Act → World → Prop
  | [], _, a, w => Q .normal a w
  | (0, _, o) :: r, f, a, w => ∃ v, YieldsIf P ops A o v a ∧ wpPh P ops Q A B r f (a.put o.dst v) w
  | (1, _, o) :: r, f, a, w => ∃ v, YieldsIf P ops (fun w => A w ∧ B w) o v a ∧ wpPh P ops Q A B r f (a.put o.dst v) w
  | (_, mm, o) :: r, f, a, w => if Region.wanted o (yielded ops a.tmps) then o.wp P a w (fun a' w' => (A w' ∧ ((f || mm) = false → B w')) ∧ wpPh P ops Q A B r (f || mm) a' w') Q else (A w ∧ ((f || mm) = false → B w)) ∧ wpPh P ops Q A B r (f || mm) (a.put o.dst undef) w
theorem listed_next {L : Array Bool} {f : Bool} {i : Nat} (hf : L.getD m true = f) : (L.setIfInBounds i true).getD m true = (f || (i == m)) := by
  by_cases e : i = m
  · subst e
    rw [beq_self_eq_true, Bool.or_true]
    rcases Nat.lt_or_ge i L.size with h | h
    · simp [h]
    · simp [h]
  · rw [getD_set_ne true e, hf, beq_false_of_ne e, Bool.or_false]
theorem wpPh_any {ol : List Oper} (hs : Region.noSelect ol.toArray = true) (hQ : ∀ d v c a w, Q (.panic c) (a.put d v) w → Q (.panic c) a w) : ∀ (l : List (Nat × Nat)) (L : Array Bool) (f : Bool) (a : Act) (w : World), L.getD m true = f → PhS A B m L w →
    ordC ol.toArray m l L = true → wpPh P ol.toArray Q A B (inOrdC ol m l) f a w → anyPh P ol.toArray Q A B m l.length L a w
  | [], L, f, a, w, _, _, hB, h => ⟨by simpa [ordC] using hB, h⟩
  | (i, 0) :: r, L, f, a, w, hf, hS, hB, h => by
    simp only [ordC, Bool.and_eq_true, bne_iff_ne, ne_eq] at hB
    obtain ⟨⟨⟨⟨h1, h2⟩, h3⟩, h4⟩, h5⟩ := hB
    obtain ⟨o, hi⟩ := Option.isSome_iff_exists.1 h3
    have hi' : ol[i]? = some o := by simpa using hi
    simp only [inOrdC, hi', wpPh] at h
    obtain ⟨v, hy, hr⟩ := h
    have hn := listed_next (i := i) hf
    rw [beq_false_of_ne h4, Bool.or_false] at hn
    exact anyPh_first (V := A) hi (Region.noSelect_spec hs) (fun c a w => hQ _ _ c a w) h4 (.inl fun _ q => q) _ _ a w (Region.free_spec hi h2) (.inl fun _ q => q) (by simpa using h1) hy hS (wpPh_any hs hQ r _ f _ w hn (by unfold PhS at hS ⊢; rw [getD_set_ne true h4]; exact hS) h5 hr)
  | (i, 1) :: r, L, f, a, w, hf, hS, hB, h => by
    simp only [ordC, Bool.and_eq_true, bne_iff_ne, ne_eq, Bool.not_eq_true'] at hB
    obtain ⟨⟨⟨⟨⟨⟨h1, h2⟩, h3⟩, h4⟩, h6⟩, h7⟩, h5⟩ := hB
    obtain ⟨o, hi⟩ := Option.isSome_iff_exists.1 h3
    have hi' : ol[i]? = some o := by simpa using hi
    simp only [inOrdC, hi', wpPh] at h
    obtain ⟨v, hy, hr⟩ := h
    have hn := listed_next (i := i) hf
    rw [beq_false_of_ne h4, Bool.or_false] at hn
    refine anyPh_first (V := fun w => A w ∧ B w) hi (Region.noSelect_spec hs) (fun c a w => hQ _ _ c a w) h4 (.inr ⟨fun _ q1 q2 => ⟨q1, q2⟩, fun om hom => ?_⟩) _ _ a w (Region.free_spec hi h2) (.inr h6) (by simpa using h1) hy hS (wpPh_any hs hQ r _ f _ w hn (by unfold PhS at hS ⊢; rw [getD_set_ne true h4]; exact hS) h5 hr)
    rw [hom] at h7
    simp only [Array.any_eq_true, Bool.and_eq_true, beq_iff_eq] at h7
    obtain ⟨k, hk, q1, q2⟩ := h7
    exact ⟨_, Array.getElem_mem hk, q1, q2⟩
  | (i, k + 2) :: r, L, f, a, w, hf, hS, hB, h => by
    simp only [ordC, Bool.and_eq_true, beq_iff_eq] at hB
    obtain ⟨⟨h1, h3⟩, h2⟩ := hB
    obtain ⟨o, hi⟩ := Option.isSome_iff_exists.1 h3
    have hi' : ol[i]? = some o := by simpa using hi
    simp only [inOrdC, hi', wpPh] at h
    have hn := listed_next (i := i) hf
    have ph : ∀ w', (A w' ∧ ((f || (i == m)) = false → B w')) → PhS A B m (L.setIfInBounds i true) w' := fun w' q => by
      unfold PhS
      rw [hn]
      exact q
    refine ⟨fun q => (by rw [h1] at q; cases q), fun j hj => ?_⟩
    rw [h1] at hj
    obtain rfl : j = i := by simpa using hj
    unfold wpOp
    rw [hi]
    simp only
    split
    · rename_i hw
      rw [if_pos hw] at h
      exact .inl (Oper.wp_mono (fun a' w' h' => ⟨ph w' h'.1, wpPh_any hs hQ r _ _ a' w' hn (ph w' h'.1) h2 h'.2⟩) h)
    · rename_i hw
      rw [if_neg hw] at h
      exact ⟨ph w h.1, wpPh_any hs hQ r _ _ _ w hn (ph w h.1) h2 h.2⟩
/-- A region that draws its order, walked in the order l. -/
theorem wp_region_ph {id : Nat} {a : Act} {w : World} {ol : List Oper} (m : Nat) (l : List (Nat × Nat)) (hm : P.follows .mixedOrders = true) (hl : l.length = ol.length)
    (hB : (Region.noSelect ol.toArray && (!((Array.replicate ol.toArray.size false).getD m true)) && ordC ol.toArray m l (Array.replicate ol.toArray.size false)) = true) (hQ : ∀ d v c a w, Q (.panic c) (a.put d v) w → Q (.panic c) a w)
    (hA : A w.drew) (hB0 : B w.drew) (h : wpPh P ol.toArray Q A B (inOrdC ol m l) false a w.drew) : (Code.region id ol.toArray true).wp P Q a w := by
  simp only [Bool.and_eq_true, Bool.not_eq_true'] at hB
  have h1 := wpPh_any hB.1.1 hQ l _ false a w.drew hB.1.2 ⟨hA, fun _ => hB0⟩ hB.2 h
  rw [hl] at h1
  exact wp_region_any hm (anyPh_any _ _ _ _ (by simpa using h1))
section
variable {r : List (Nat × Bool × Oper)} {mm f : Bool} {a : Act} {w w' : World} {o : Oper} {v : Value}
/-- The steps of such a walk: a read under A, a read under B, something that is made, something that is done, a call. -/
theorem wpPh_yield (hw : Region.wanted o (yielded ops a.tmps) = true) (hr : ∀ u, A u → (execOp a.eval o).run P u = .ok (.value v) u) (h : wpPh P ops Q A B r f (a.put o.dst v) w) : wpPh P ops Q A B ((0, mm, o) :: r) f a w := ⟨v, .inl ⟨hw, hr⟩, h⟩
theorem wpPh_read (hw : Region.wanted o (yielded ops a.tmps) = true) (hr : ∀ u, A u → B u → (execOp a.eval o).run P u = .ok (.value v) u) (h : wpPh P ops Q A B r f (a.put o.dst v) w) : wpPh P ops Q A B ((1, mm, o) :: r) f a w := ⟨v, .inl ⟨hw, fun u q => hr u q.1 q.2⟩, h⟩
theorem wpPh_make (hw : Region.wanted o (yielded ops a.tmps) = true) (hr : (execOp a.eval o).run P w = .ok (.value v) w') (hS : A w' ∧ ((f || mm) = false → B w')) (h : wpPh P ops Q A B r (f || mm) (a.put o.dst v) w') : wpPh P ops Q A B ((2, mm, o) :: r) f a w := by
  simp only [wpPh, hw, if_true]
  unfold Oper.wp
  rw [hr]
  exact ⟨hS, h⟩
theorem wpPh_do (hw : Region.wanted o (yielded ops a.tmps) = true) (hr : (execOp a.eval o).run P w = .ok .skip w') (hS : A w' ∧ ((f || mm) = false → B w')) (h : wpPh P ops Q A B r (f || mm) (a.put o.dst undef) w') : wpPh P ops Q A B ((2, mm, o) :: r) f a w := by
  simp only [wpPh, hw, if_true]
  unfold Oper.wp
  rw [hr]
  exact ⟨hS, h⟩
theorem wpPh_call (hw : Region.wanted o (yielded ops a.tmps) = true) (fn : FuncId) (xs : List Operand) (ts : Array TypeId) (ho : o.op = .call { callee := .value (.func fn), args := xs.toArray, argTypes := ts }) (hc : ∀ args u, (callFunc fn args).run P u = .ok (.enter fn args) u) (args : List Value) (hx : xs.map a.eval = args)
    (h : Calls P fn args.toArray w fun e w' => ∃ v, e = .returned v ∧ (A w' ∧ ((f || mm) = false → B w')) ∧ wpPh P ops Q A B r (f || mm) (a.put o.dst v) w') : wpPh P ops Q A B ((2, mm, o) :: r) f a w := by
  simp only [wpPh, hw, if_true]
  unfold Oper.wp execOp
  have e : (do let d ← resolve a.eval { callee := .value (.func fn), args := xs.toArray, argTypes := ts } o.type; invoke d.target d.args : Sem Next).run P w = .ok (.enter fn args.toArray) w := by
    have hx' : xs.toArray.map a.eval = args.toArray := by rw [← hx]; simp
    simp only [resolve, hx']
    simp [Act.eval, Deferred.ofValue, invoke, hc]
  simp only [ho]
  rw [e]
  unfold Oper.upon
  exact h.mono fun e w' ⟨v, he, h1, h2⟩ => by subst he; exact ⟨h1, h2⟩
end
end
end Go.Proofs.Ytglcliokhlafoaa
