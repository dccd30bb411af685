/- Regions whose order is drawn, walked in an order or a tree of orders that is told; no condition. -/
import Derived.OrdersHeld
import Derived.WalkKit
namespace Go.Proofs.Ytbchbappdpbkiaa
open Go.RowKit

section
variable {P : Program} {ops : Array Oper} {Q : Exit → Act → World → Prop} {S : World → Prop}

/-- May the operations be taken in this order? true: it is taken first; false: nothing else may come up. -/
def ordB (ops : Array Oper) : List (Nat × Bool) → Array Bool → Bool
  | [], listed => (Region.ready .any ops listed).isEmpty
  | (i, true) :: r, listed => (Region.ready .any ops listed).contains i && Region.free .any ops listed i && (ops[i]?).isSome && ordB ops r (listed.setIfInBounds i true)
  | (i, false) :: r, listed => (Region.ready .any ops listed == [i]) && (ops[i]?).isSome && ordB ops r (listed.setIfInBounds i true)

/-- The operations themselves, in that order. -/
def inOrd (ol : List Oper) : List (Nat × Bool) → List (Bool × Oper)
  | [] => []
  | (i, b) :: r => match ol[i]? with
    | some o => (b, o) :: inOrd ol r
    | none => inOrd ol r

def wpOrd (P : Program) (ops : Array Oper) (Q : Exit → Act → World → Prop) (S : World → Prop) : List (Bool × Oper) → Act → World → Prop
  | [], a, w => Q .normal a w
  | (true, o) :: r, a, w => ∃ v, YieldsIf P ops S o v a ∧ wpOrd P ops Q S r (a.put o.dst v) w
  | (false, o) :: r, a, w => if Region.wanted o (yielded ops a.tmps) then o.wp P a w (fun a' w' => S w' ∧ wpOrd P ops Q S r a' w') Q else S w ∧ wpOrd P ops Q S r (a.put o.dst undef) w

theorem wpOrd_any {ol : List Oper} (hs : Region.noSelect ol.toArray = true) (hQ : ∀ d v c a w, Q (.panic c) (a.put d v) w → Q (.panic c) a w) : ∀ (l : List (Nat × Bool)) (listed : Array Bool) (a : Act) (w : World), S w →
    ordB ol.toArray l listed = true → wpOrd P ol.toArray Q S (inOrd ol l) a w → wpAnyH P .any ol.toArray Q S l.length listed a w
  | [], listed, a, w, _, hB, h => wpAnyH_done (by simpa [ordB] using hB) h _
  | (i, true) :: r, listed, a, w, hS, hB, h => by
    simp only [ordB, Bool.and_eq_true] at hB
    obtain ⟨⟨⟨h1, h2⟩, h3⟩, h4⟩ := hB
    obtain ⟨o, hi⟩ := Option.isSome_iff_exists.1 h3
    have hi' : ol[i]? = some o := by simpa using hi
    simp only [inOrd, hi', wpOrd] at h
    obtain ⟨v, hy, hr⟩ := h
    exact wpAnyH_take hi hs h2 h1 (fun c a w => hQ _ _ c a w) hy hS (wpOrd_any hs hQ r _ _ w hS h4 hr)
  | (i, false) :: r, listed, a, w, hS, hB, h => by
    simp only [ordB, Bool.and_eq_true, beq_iff_eq] at hB
    obtain ⟨⟨h1, h3⟩, h2⟩ := hB
    obtain ⟨o, hi⟩ := Option.isSome_iff_exists.1 h3
    have hi' : ol[i]? = some o := by simpa using hi
    simp only [inOrd, hi', wpOrd] at h
    refine wpAnyH_all h1 (by simp) fun j hj => ?_
    obtain rfl : j = i := by simpa using hj
    unfold wpOp
    rw [hi]
    simp only
    split
    · rename_i hw
      rw [if_pos hw] at h
      exact .inl (Oper.wp_mono (fun a' w' h' => ⟨h'.1, wpOrd_any hs hQ r _ a' w' h'.1 h2 h'.2⟩) h)
    · rename_i hw
      rw [if_neg hw] at h
      exact ⟨h.1, wpOrd_any hs hQ r _ _ w h.1 h2 h.2⟩

/-- A region that draws its order, walked in the order l. -/
theorem wp_region_ord {id : Nat} {a : Act} {w : World} {ol : List Oper} (l : List (Nat × Bool)) (hm : P.follows .mixedOrders = true) (hl : l.length = ol.length)
    (hB : (Region.noSelect ol.toArray && ordB ol.toArray l (Array.replicate ol.toArray.size false)) = true) (hQ : ∀ d v c a w, Q (.panic c) (a.put d v) w → Q (.panic c) a w)
    (hS : S w.drew) (h : wpOrd P ol.toArray Q S (inOrd ol l) a w.drew) : (Code.region id ol.toArray true).wp P Q a w := by
  simp only [Bool.and_eq_true] at hB
  have h1 := wpOrd_any hB.1 hQ l _ a w.drew hS hB.2 h
  rw [hl] at h1
  exact wp_region_held hm (by simpa using h1)

theorem wpOrd_nil {a : Act} {w : World} (h : Q .normal a w) : wpOrd P ops Q S [] a w := h
theorem wpOrd_skip {r : List (Bool × Oper)} {b : Bool} {a : Act} {w : World} {o : Oper} (hS : S w) (hw : Region.wanted o (yielded ops a.tmps) = false) (h : wpOrd P ops Q S r (a.put o.dst undef) w) :
    wpOrd P ops Q S ((b, o) :: r) a w := by
  cases b
  · simp only [wpOrd, hw, Bool.false_eq_true, if_false]
    exact ⟨hS, h⟩
  · exact ⟨undef, .inr ⟨hw, rfl⟩, h⟩
theorem wpOrd_yield {r : List (Bool × Oper)} {a : Act} {w : World} {o : Oper} {v : Value} (hw : Region.wanted o (yielded ops a.tmps) = true)
    (hr : ∀ u, S u → (execOp a.eval o).run P u = .ok (.value v) u) (h : wpOrd P ops Q S r (a.put o.dst v) w) : wpOrd P ops Q S ((true, o) :: r) a w :=
  ⟨v, .inl ⟨hw, hr⟩, h⟩
theorem wpOrd_move {r : List (Bool × Oper)} {a : Act} {w : World} {o : Oper} (hw : Region.wanted o (yielded ops a.tmps) = true) (x : Operand) (ho : o.op = .move x)
    (h : wpOrd P ops Q S r (a.put o.dst (a.eval x)) w) : wpOrd P ops Q S ((true, o) :: r) a w :=
  wpOrd_yield hw (fun u _ => by simp [execOp, ho]) h
theorem wpOrd_call {r : List (Bool × Oper)} {a : Act} {w : World} {o : Oper} (hw : Region.wanted o (yielded ops a.tmps) = true) (f : FuncId) (xs : List Operand) (ts : Array TypeId)
    (ho : o.op = .call { callee := .value (.func f), args := xs.toArray, argTypes := ts }) (hc : ∀ args u, (callFunc f args).run P u = .ok (.enter f args) u) (args : List Value) (hx : xs.map a.eval = args)
    (h : Calls P f args.toArray w fun e w' => ∃ v, e = .returned v ∧ S w' ∧ wpOrd P ops Q S r (a.put o.dst v) w') : wpOrd P ops Q S ((false, o) :: r) a w := by
  simp only [wpOrd, hw, if_true]
  unfold Oper.wp execOp
  have e : (do let d ← resolve a.eval { callee := .value (.func f), args := xs.toArray, argTypes := ts } o.type; invoke d.target d.args : Sem Next).run P w = .ok (.enter f args.toArray) w := by
    have hx' : xs.toArray.map a.eval = args.toArray := by rw [← hx]; simp
    simp only [resolve, hx']
    simp [Act.eval, Deferred.ofValue, invoke, hc]
  simp only [ho]
  rw [e]
  unfold Oper.upon
  exact h.mono fun e w' ⟨v, he, h1, h2⟩ => by subst he; exact ⟨h1, h2⟩
end

section
variable {P : Program} {ops : Array Oper} {Q : Exit → Act → World → Prop} {S : World → Prop}

/-- First the operations of a list that only read, then i and j in either order, then l. -/
def forkB (ops : Array Oper) (i j : Nat) (l : List (Nat × Bool)) : List Nat → Array Bool → Bool
  | [], listed => (Region.ready .any ops listed == [i, j]) && (ops[i]?).isSome && (ops[j]?).isSome && ordB ops ((j, false) :: l) (listed.setIfInBounds i true) && ordB ops ((i, false) :: l) (listed.setIfInBounds j true)
  | k :: r, listed => (Region.ready .any ops listed).contains k && Region.free .any ops listed k && (ops[k]?).isSome && forkB ops i j l r (listed.setIfInBounds k true)

/-- One operation that acts, and what follows. -/
def wpAct (P : Program) (ops : Array Oper) (Q : Exit → Act → World → Prop) (S : World → Prop) (o : Oper) (K : Act → World → Prop) (a : Act) (w : World) : Prop :=
  if Region.wanted o (yielded ops a.tmps) then o.wp P a w (fun a' w' => S w' ∧ K a' w') Q else S w ∧ K (a.put o.dst undef) w

theorem wpOp_act {i : Nat} {o : Oper} (hi : ops[i]? = some o) {K K' : Act → World → Prop} (hK : ∀ a w, S w → K a w → K' a w) {a : Act} {w : World} (h : wpAct P ops Q S o K a w) : wpOp P ops Q i (fun a' w' => S w' ∧ K' a' w') a w := by
  unfold wpOp
  rw [hi]
  simp only
  unfold wpAct at h
  split
  · rename_i hw
    rw [if_pos hw] at h
    exact .inl (Oper.wp_mono (fun a' w' h' => ⟨h'.1, hK a' w' h'.1 h'.2⟩) h)
  · rename_i hw
    rw [if_neg hw] at h
    exact ⟨h.1, hK _ w h.1 h.2⟩

def wpFork (P : Program) (ops : Array Oper) (Q : Exit → Act → World → Prop) (S : World → Prop) (ol : List Oper) (i j : Nat) (l : List (Nat × Bool)) : List Nat → Act → World → Prop
  | [], a, w => (∀ o, ol[i]? = some o → wpAct P ops Q S o (wpOrd P ops Q S (inOrd ol ((j, false) :: l))) a w) ∧ (∀ o, ol[j]? = some o → wpAct P ops Q S o (wpOrd P ops Q S (inOrd ol ((i, false) :: l))) a w)
  | k :: r, a, w => ∀ o, ol[k]? = some o → ∃ v, YieldsIf P ops S o v a ∧ wpFork P ops Q S ol i j l r (a.put o.dst v) w

theorem wpFork_any {ol : List Oper} (hs : Region.noSelect ol.toArray = true) (hQ : ∀ d v c a w, Q (.panic c) (a.put d v) w → Q (.panic c) a w) (i j : Nat) (l : List (Nat × Bool)) : ∀ (r : List Nat) (listed : Array Bool) (a : Act) (w : World), S w →
    forkB ol.toArray i j l r listed = true → wpFork P ol.toArray Q S ol i j l r a w → wpAnyH P .any ol.toArray Q S (r.length + (l.length + 2)) listed a w
  | [], listed, a, w, hS, hB, h => by
    simp only [forkB, Bool.and_eq_true, beq_iff_eq] at hB
    obtain ⟨⟨⟨⟨h1, h2⟩, h3⟩, h4⟩, h5⟩ := hB
    obtain ⟨oi, hoi⟩ := Option.isSome_iff_exists.1 h2
    obtain ⟨oj, hoj⟩ := Option.isSome_iff_exists.1 h3
    have hoi' : ol[i]? = some oi := by simpa using hoi
    have hoj' : ol[j]? = some oj := by simpa using hoj
    rw [show ([] : List Nat).length + (l.length + 2) = (l.length + 1) + 1 by simp]
    refine wpAnyH_all h1 (by simp) fun k hk => ?_
    simp only [List.mem_cons, List.not_mem_nil, or_false] at hk
    rcases hk with rfl | rfl
    · exact wpOp_act hoi (fun a' w' hS' hK => wpOrd_any hs hQ ((j, false) :: l) _ a' w' hS' h4 hK) (h.1 oi hoi')
    · exact wpOp_act hoj (fun a' w' hS' hK => wpOrd_any hs hQ ((i, false) :: l) _ a' w' hS' h5 hK) (h.2 oj hoj')
  | k :: r, listed, a, w, hS, hB, h => by
    simp only [forkB, Bool.and_eq_true] at hB
    obtain ⟨⟨⟨h1, h2⟩, h3⟩, h4⟩ := hB
    obtain ⟨o, hi⟩ := Option.isSome_iff_exists.1 h3
    have hi' : ol[k]? = some o := by simpa using hi
    obtain ⟨v, hy, hr⟩ := h o hi'
    rw [show (k :: r).length + (l.length + 2) = r.length + (l.length + 2) + 1 by simp; omega]
    exact wpAnyH_take hi hs h2 h1 (fun c a w => hQ _ _ c a w) hy hS (wpFork_any hs hQ i j l r _ _ w hS h4 hr)

/-- A region that draws its order, walked so. -/
theorem wp_region_fork {id : Nat} {a : Act} {w : World} {ol : List Oper} (r : List Nat) (i j : Nat) (l : List (Nat × Bool)) (hm : P.follows .mixedOrders = true) (hl : r.length + (l.length + 2) = ol.length)
    (hB : (Region.noSelect ol.toArray && forkB ol.toArray i j l r (Array.replicate ol.toArray.size false)) = true) (hQ : ∀ d v c a w, Q (.panic c) (a.put d v) w → Q (.panic c) a w)
    (hS : S w.drew) (h : wpFork P ol.toArray Q S ol i j l r a w.drew) : (Code.region id ol.toArray true).wp P Q a w := by
  simp only [Bool.and_eq_true] at hB
  have h1 := wpFork_any hB.1 hQ i j l r _ a w.drew hS hB.2 h
  rw [hl] at h1
  exact wp_region_held hm (by simpa using h1)

theorem wpFork_yield {ol : List Oper} {i j : Nat} {l : List (Nat × Bool)} {k : Nat} {r : List Nat} {a : Act} {w : World} {o : Oper} {v : Value} (ho : ol[k]? = some o) (hw : Region.wanted o (yielded ops a.tmps) = true)
    (hr : ∀ u, S u → (execOp a.eval o).run P u = .ok (.value v) u) (h : wpFork P ops Q S ol i j l r (a.put o.dst v) w) : wpFork P ops Q S ol i j l (k :: r) a w := by
  intro o' ho'
  obtain rfl : o = o' := by rw [ho] at ho'; exact Option.some.inj ho'
  exact ⟨v, .inl ⟨hw, hr⟩, h⟩
theorem wpFork_nil {ol : List Oper} {i j : Nat} {l : List (Nat × Bool)} {a : Act} {w : World} {oi oj : Oper} (hi : ol[i]? = some oi) (hj : ol[j]? = some oj)
    (h1 : wpOrd P ops Q S (inOrd ol ((i, false) :: (j, false) :: l)) a w) (h2 : wpOrd P ops Q S (inOrd ol ((j, false) :: (i, false) :: l)) a w) : wpFork P ops Q S ol i j l [] a w := by
  refine ⟨fun o ho => ?_, fun o ho => ?_⟩
  · obtain rfl : oi = o := by rw [hi] at ho; exact Option.some.inj ho
    simp only [inOrd, hi, hj, wpOrd] at h1 ⊢
    exact h1
  · obtain rfl : oj = o := by rw [hj] at ho; exact Option.some.inj ho
    simp only [inOrd, hi, hj, wpOrd] at h2 ⊢
    exact h2
end

/-- How such a region of n operations is walked: this one only reads, and is taken first; or: those that may come up, and what then. -/
def OT : Nat → Type
  | 0 => Unit
  | n + 1 => Sum (Nat × OT n) (List (Nat × OT n))
def finT : OT 0 := ()
def rdT {n : Nat} (i : Nat) (r : OT n) : OT (n + 1) := Sum.inl (i, r)
def altT {n : Nat} (l : List (Nat × OT n)) : OT (n + 1) := Sum.inr l
section
variable {P : Program} {Q : Exit → Act → World → Prop} {S : World → Prop}
def okT (ops : Array Oper) : (n : Nat) → OT n → Array Bool → Bool
  | 0, _, L => (Region.ready .any ops L).isEmpty
  | n + 1, .inl (i, r), L => (Region.ready .any ops L).contains i && Region.free .any ops L i && (ops[i]?).isSome && okT ops n r (L.setIfInBounds i true)
  | n + 1, .inr l, L => (Region.ready .any ops L == l.map (·.1)) && !l.isEmpty && l.all fun p => (ops[p.1]?).isSome && okT ops n p.2 (L.setIfInBounds p.1 true)
def wpT (P : Program) (ops : Array Oper) (Q : Exit → Act → World → Prop) (S : World → Prop) (ol : List Oper) : (n : Nat) → OT n → Act → World → Prop
  | 0, _, a, w => Q .normal a w
  | n + 1, .inl (i, r), a, w => ∀ o, ol[i]? = some o → ∃ v, YieldsIf P ops S o v a ∧ wpT P ops Q S ol n r (a.put o.dst v) w
  | n + 1, .inr l, a, w => ∀ p ∈ l, ∀ o, ol[p.1]? = some o → wpAct P ops Q S o (wpT P ops Q S ol n p.2) a w
theorem wpT_any {ol : List Oper} (hs : Region.noSelect ol.toArray = true) (hQ : ∀ d v c a w, Q (.panic c) (a.put d v) w → Q (.panic c) a w) : ∀ (n : Nat) (t : OT n) (L : Array Bool) (a : Act) (w : World), S w →
    okT ol.toArray n t L = true → wpT P ol.toArray Q S ol n t a w → wpAnyH P .any ol.toArray Q S n L a w
  | 0, _, L, a, w, _, hB, h => wpAnyH_done (by simpa [okT] using hB) h _
  | n + 1, .inl (i, r), L, a, w, hS, hB, h => by
    simp only [okT, Bool.and_eq_true] at hB
    obtain ⟨⟨⟨h1, h2⟩, h3⟩, h4⟩ := hB
    obtain ⟨o, hi⟩ := Option.isSome_iff_exists.1 h3
    have hi' : ol[i]? = some o := by simpa using hi
    obtain ⟨v, hy, hr⟩ := h o hi'
    exact wpAnyH_take hi hs h2 h1 (fun c a w => hQ _ _ c a w) hy hS (wpT_any hs hQ n r _ _ w hS h4 hr)
  | n + 1, .inr l, L, a, w, hS, hB, h => by
    simp only [okT, Bool.and_eq_true, beq_iff_eq, List.all_eq_true, Bool.not_eq_true', List.isEmpty_eq_false_iff] at hB
    obtain ⟨⟨h1, hl⟩, h2⟩ := hB
    refine wpAnyH_all h1 (by simpa using hl) fun j hj => ?_
    obtain ⟨p, hp, rfl⟩ := List.mem_map.1 hj
    obtain ⟨h3, h4⟩ := h2 p hp
    obtain ⟨o, hi⟩ := Option.isSome_iff_exists.1 h3
    have hi' : ol[p.1]? = some o := by simpa using hi
    exact wpOp_act hi (fun a' w' hS' hK => wpT_any hs hQ n p.2 _ a' w' hS' h4 hK) (h p hp o hi')
/-- A region that draws its order, walked so. -/
theorem wp_region_tree {id : Nat} {a : Act} {w : World} {ol : List Oper} {n : Nat} (t : OT n) (hm : P.follows .mixedOrders = true) (hn : n = ol.length)
    (hB : (Region.noSelect ol.toArray && okT ol.toArray n t (Array.replicate ol.toArray.size false)) = true) (hQ : ∀ d v c a w, Q (.panic c) (a.put d v) w → Q (.panic c) a w)
    (hS : S w.drew) (h : wpT P ol.toArray Q S ol n t a w.drew) : (Code.region id ol.toArray true).wp P Q a w := by
  simp only [Bool.and_eq_true] at hB
  have h1 := wpT_any hB.1 hQ n t _ a w.drew hS hB.2 h
  rw [hn] at h1
  exact wp_region_held hm (by simpa using h1)
section
variable {ops : Array Oper} {ol : List Oper} {i n : Nat} {r : OT n} {more : List (Nat × OT n)} {a : Act} {w w' : World} {o : Oper} {v : Value}
theorem wpT_fin (h : Q .normal a w) : wpT P ops Q S ol 0 finT a w := h
theorem wpT_stop : wpT P ops Q S ol (n + 1) (altT []) a w := by
  intro p hp
  cases hp
theorem wpT_cons (h : ∀ o, ol[i]? = some o → wpAct P ops Q S o (wpT P ops Q S ol n r) a w) (hm : wpT P ops Q S ol (n + 1) (altT more) a w) : wpT P ops Q S ol (n + 1) (altT ((i, r) :: more)) a w := by
  intro p hp
  rcases List.mem_cons.1 hp with rfl | hp
  · exact h
  · exact hm p hp
theorem wpT_yield (ho : ol[i]? = some o) (hw : Region.wanted o (yielded ops a.tmps) = true) (hr : ∀ u, S u → (execOp a.eval o).run P u = .ok (.value v) u) (h : wpT P ops Q S ol n r (a.put o.dst v) w) : wpT P ops Q S ol (n + 1) (rdT i r) a w := by
  intro o' ho'
  obtain rfl : o = o' := by rw [ho] at ho'; exact Option.some.inj ho'
  exact ⟨v, .inl ⟨hw, hr⟩, h⟩
/-- Something is made, or done. -/
theorem wpT_make (ho : ol[i]? = some o) (hw : Region.wanted o (yielded ops a.tmps) = true) (hr : (execOp a.eval o).run P w = .ok (.value v) w') (hS : S w') (h : wpT P ops Q S ol n r (a.put o.dst v) w') (hm : wpT P ops Q S ol (n + 1) (altT more) a w) : wpT P ops Q S ol (n + 1) (altT ((i, r) :: more)) a w := by
  refine wpT_cons (fun o' ho' => ?_) hm
  obtain rfl : o = o' := by rw [ho] at ho'; exact Option.some.inj ho'
  unfold wpAct
  rw [if_pos hw]
  unfold Oper.wp
  rw [hr]
  exact ⟨hS, h⟩
theorem wpT_do (ho : ol[i]? = some o) (hw : Region.wanted o (yielded ops a.tmps) = true) (hr : (execOp a.eval o).run P w = .ok .skip w') (hS : S w') (h : wpT P ops Q S ol n r (a.put o.dst undef) w') (hm : wpT P ops Q S ol (n + 1) (altT more) a w) : wpT P ops Q S ol (n + 1) (altT ((i, r) :: more)) a w := by
  refine wpT_cons (fun o' ho' => ?_) hm
  obtain rfl : o = o' := by rw [ho] at ho'; exact Option.some.inj ho'
  unfold wpAct
  rw [if_pos hw]
  unfold Oper.wp
  rw [hr]
  exact ⟨hS, h⟩
theorem wpT_call (ho' : ol[i]? = some o) (hw : Region.wanted o (yielded ops a.tmps) = true) (f : FuncId) (xs : List Operand) (ts : Array TypeId) (ho : o.op = .call { callee := .value (.func f), args := xs.toArray, argTypes := ts }) (hc : ∀ args u, (callFunc f args).run P u = .ok (.enter f args) u) (args : List Value) (hx : xs.map a.eval = args)
    (h : Calls P f args.toArray w fun e w' => ∃ v, e = .returned v ∧ S w' ∧ wpT P ops Q S ol n r (a.put o.dst v) w') (hm : wpT P ops Q S ol (n + 1) (altT more) a w) : wpT P ops Q S ol (n + 1) (altT ((i, r) :: more)) a w := by
  refine wpT_cons (fun o'' ho'' => ?_) hm
  obtain rfl : o = o'' := by rw [ho'] at ho''; exact Option.some.inj ho''
  unfold wpAct
  rw [if_pos hw]
  unfold Oper.wp execOp
  have e : (do let d ← resolve a.eval { callee := .value (.func f), args := xs.toArray, argTypes := ts } o.type; invoke d.target d.args : Sem Next).run P w = .ok (.enter f args.toArray) w := by
    have hx' : xs.toArray.map a.eval = args.toArray := by rw [← hx]; simp
    simp only [resolve, hx']
    simp [Act.eval, Deferred.ofValue, invoke, hc]
  simp only [ho]
  rw [e]
  unfold Oper.upon
  exact h.mono fun e w' ⟨v, he, h1, h2⟩ => by subst he; exact ⟨h1, h2⟩
end
end
end Go.Proofs.Ytbchbappdpbkiaa
