/- Several texts joined, each with its own remark; no condition. -/
import Derived.Test.YtlcdpmjdnihocaaGreatF4
import Derived.OrdersHeld
import Derived.WalkKit
import Derived.Laws.ResultCell
import Derived.WalkSpells
import Derived.WalkLawsBesides
import Derived.Deep.WholeRow
import Derived.Laws.StructEq
import Derived.Test.YtlcdpmjdnihocaaGreatProg
import Derived.BigQuiet
import Derived.Laws.CopyOwn
import Derived.StillTailTactics
import Derived.Laws.BitsLemmas
/- Rows of bytes held against each other: equal just where every byte is; of any length. -/
namespace Go.Proofs.YtlcdpmjdnihocaaGreat
open Go.RowKit Go.Maps
def sameN (m : Nat) (f g : Nat → Int) : Bool := (List.range m).all fun i => f i == g i
theorem sameN_iff (m : Nat) (f g : Nat → Int) : sameN m f g = true ↔ ∀ i, i < m → f i = g i := by
  simp [sameN, List.all_eq_true, List.mem_range]
theorem sameN_self (m : Nat) (f : Nat → Int) : sameN m f f = true := (sameN_iff m f f).2 fun _ _ => rfl
theorem part5 (f : Nat → Int) (m i : Nat) (hi : i < m) (w : World) : (part 5 (rowN .u8 f m) (i * 1)).run Tryz.prog w = .ok (.int .u8 (f i)) w := by
  have hb := rowN_get .u8 f m i hi
  simp [part, Tryz.isAgg5, hb]
theorem eachN (d m : Nat) (f g : Nat → Int) (w : World) : ∀ l : List Nat, (∀ i, i ∈ l → i < m) →
    (forIn (m := Sem) l ((none : Option Bool), ()) fun i _ => do
            let x ← part 5 (rowN .u8 f m) (i * 1)
            let y ← part 5 (rowN .u8 g m) (i * 1)
            let b ← Op.equalIn (d + 1) 5 x y
            if (!b) = true then pure (ForInStep.done (some false, ())) else pure (ForInStep.yield (none, ()))).run Tryz.prog w
      = .ok ((if l.all (fun i => f i == g i) then none else some false), ()) w
  | [], _ => by simp
  | i :: l, h => by
    have h1 := part5 f m i (h i (by simp)) w
    have h2 := part5 g m i (h i (by simp)) w
    have ih := eachN d m f g w l fun j hj => h j (by simp [hj])
    have he := run_equalIn_int (P := Tryz.prog) w d 5 .u8 .u8 (f i) (g i) Tryz.underlying5
    simp only [List.forIn_cons, Sem.run_bind, h1, h2, he, Result.andThen_ok, List.all_cons]
    by_cases e : f i = g i
    · simp only [e, beq_self_eq_true, Bool.not_true, Bool.false_eq_true, if_false, Sem.run_pure, Result.andThen_ok, Bool.true_and]
      exact ih
    · have e' : (f i == g i) = false := by simp [e]
      simp [e']
theorem eqIn (d : Nat) {t : TypeId} {m : Nat} (hu : Tryz.prog.underlying t = some (.array m 5)) (f g : Nat → Int) (w : World) : (Op.equalIn (d + 1 + 1) t (.agg (rowN .u8 f m)) (.agg (rowN .u8 g m))).run Tryz.prog w = .ok (sameN m f g) w := by
  have key := eachN d m f g w (List.range' 0 [:m].size) (fun i hi => by simpa [Std.Legacy.Range.size] using hi)
  rw [Op.equalIn]
  simp only [Sem.run_bind, run_underlying hu, Result.andThen_ok]
  rw [show (sizeOf 5).run Tryz.prog w = .ok 1 w by simp [go_sem]]
  simp only [Result.andThen_ok, Std.Legacy.Range.forIn_eq_forIn_range']
  refine (congrArg (fun r => Result.andThen r _) key).trans ?_
  have hr : List.range' 0 [:m].size = List.range m := by simp [Std.Legacy.Range.size, List.range_eq_range']
  rw [hr]
  show Result.andThen (Result.ok ((if sameN m f g = true then none else some false), ()) w) _ = _
  cases sameN m f g <;> simp
section
variable {ops : Array Oper} {rest : List Oper} {o : Oper} {a : Act} {w : World} {Q : Exit → Act → World → Prop}
theorem exec_mv {x : Operand} {v : Value} {W : World} (ho : o.op = .move x) (hx : a.eval x = v) : (execOp a.eval o).run Tryz.prog W = .ok (.value v) W := by simp [execOp, ho, hx]
theorem exec_neN {t t' : TypeId} {m : Nat} {W : World} (hu : Tryz.prog.underlying t = some (.array m 5)) (hG : Tryz.prog.eqGuardType Tryz.prog.depth t = false) (x y : Operand) (ho : o.op = .binOp .neq t x y t') (f g : Nat → Int) (b : Bool) (hx : a.eval x = .agg (rowN .u8 f m)) (hy : a.eval y = .agg (rowN .u8 g m)) (hb : sameN m f g = b) : (execOp a.eval o).run Tryz.prog W = .ok (.value (.bool (!b))) W := by
  have e : (binOp .neq t (.agg (rowN .u8 f m)) (.agg (rowN .u8 g m))).run Tryz.prog W = .ok (.bool (!b)) W := by
    have h := eqIn 9998 hu f g W
    rw [hb] at h
    generalize rowN .u8 f m = F at *
    generalize rowN .u8 g m = G at *
    simp only [binOp, Op.equal, Op.maxDepth, Sem.run_bind, h, Result.andThen_ok, Sem.run_pure]
  unfold execOp
  simp only [ho, hx, hy, Sem.run_bind, run_eqGuard_agg W _ t _ _ _ _ hG, e, Result.andThen_ok, Sem.run_pure]
theorem wpList_eqN {t t' : TypeId} {m : Nat} (hu : Tryz.prog.underlying t = some (.array m 5)) (hG : Tryz.prog.eqGuardType Tryz.prog.depth t = false) (hw : Region.wanted o (yielded ops a.tmps) = true) (x y : Operand) (ho : o.op = .binOp .eql t x y t') (f g : Nat → Int) (b : Bool) (hx : a.eval x = .agg (rowN .u8 f m)) (hy : a.eval y = .agg (rowN .u8 g m)) (hb : sameN m f g = b)
    (h : wpList Tryz.prog ops Q rest (a.put o.dst (.bool b)) w) : wpList Tryz.prog ops Q (o :: rest) a w :=
  BigFrame.wpList_want hw fun _ hK => by
    have e : (binOp .eql t (.agg (rowN .u8 f m)) (.agg (rowN .u8 g m))).run Tryz.prog w = .ok (.bool b) w := by
      have h := eqIn 9998 hu f g w
      rw [hb] at h
      generalize rowN .u8 f m = F at *
      generalize rowN .u8 g m = G at *
      simp only [binOp, Op.equal, Op.maxDepth, Sem.run_bind, h, Result.andThen_ok, Sem.run_pure]
    unfold Oper.wp execOp
    simp only [ho, hx, hy, Sem.run_bind, run_eqGuard_agg w _ t _ _ _ _ hG, e, Result.andThen_ok, Sem.run_pure]
    exact hK _ _ h
theorem wpList_neN {t t' : TypeId} {m : Nat} (hu : Tryz.prog.underlying t = some (.array m 5)) (hG : Tryz.prog.eqGuardType Tryz.prog.depth t = false) (hw : Region.wanted o (yielded ops a.tmps) = true) (x y : Operand) (ho : o.op = .binOp .neq t x y t') (f g : Nat → Int) (b : Bool) (hx : a.eval x = .agg (rowN .u8 f m)) (hy : a.eval y = .agg (rowN .u8 g m)) (hb : sameN m f g = b)
    (h : wpList Tryz.prog ops Q rest (a.put o.dst (.bool (!b))) w) : wpList Tryz.prog ops Q (o :: rest) a w :=
  BigFrame.wpList_want hw fun _ hK => by
    have e : (binOp .neq t (.agg (rowN .u8 f m)) (.agg (rowN .u8 g m))).run Tryz.prog w = .ok (.bool (!b)) w := by
      have h := eqIn 9998 hu f g w
      rw [hb] at h
      generalize rowN .u8 f m = F at *
      generalize rowN .u8 g m = G at *
      simp only [binOp, Op.equal, Op.maxDepth, Sem.run_bind, h, Result.andThen_ok, Sem.run_pure]
    unfold Oper.wp execOp
    simp only [ho, hx, hy, Sem.run_bind, run_eqGuard_agg w _ t _ _ _ _ hG, e, Result.andThen_ok, Sem.run_pure]
    exact hK _ _ h
/-- The row of noughts is made. -/
theorem wpList_zeroN {t : TypeId} {m : Nat} (hu : Tryz.prog.underlying t = some (.array m 5)) (hz : ∀ w, (zeroValue t).run Tryz.prog w = .ok (.agg (rowN .u8 nought m)) w) (hw : Region.wanted o (yielded ops a.tmps) = true) (ho : o.op = .build t #[])
    (h : wpList Tryz.prog ops Q rest (a.put o.dst (.agg (rowN .u8 nought m))) w) : wpList Tryz.prog ops Q (o :: rest) a w :=
  BigFrame.wpList_want hw fun _ hK => by
    unfold Oper.wp
    rw [show (execOp a.eval o).run Tryz.prog w = .ok (.value (.agg (rowN .u8 nought m))) w by
      generalize rowN .u8 nought m = Z at *
      simp [execOp, ho, Instr.build, hz, run_underlying hu, Instr.fill, Value.cells]]
    exact hK _ _ h
end
end Go.Proofs.YtlcdpmjdnihocaaGreat
/- Regions whose order is drawn, walked in an order or a tree of orders that is told; no condition. -/
namespace Go.Proofs.YtlcdpmjdnihocaaGreat
open Go.RowKit

section
variable {P : Program} {ops : Array Oper} {Q : Exit → Act → World → Prop} {S : World → Prop}

/-- May the operations be taken in this order? true: it is taken first; false: nothing else may come up. -/
def ordB (ops : Array Oper) : List (Nat × Bool) → Array Bool → Bool
  | [], listed => (Region.ready .any ops listed).isEmpty
  | (i, true) :: r, listed => (Region.ready .any ops listed).contains i && Region.free .any ops listed i && (ops[i]?).isSome && ordB ops r (listed.setIfInBounds i true)
  | (i, false) :: r, listed => (Region.ready .any ops listed == [i]) && (ops[i]?).isSome && ordB ops r (listed.setIfInBounds i true)

/-- The operations themselves, in that order. -/
def inOrd (ol : List Oper) : List (Nat × Bool) → List (Bool × Oper)
  | [] => []
  | (i, b) :: r => match ol[i]? with
    | some o => (b, o) :: inOrd ol r
    | none => inOrd ol r

def wpOrd (P : Program) (ops : Array Oper) (Q : Exit → Act → World → Prop) (S : World → Prop) : List (Bool × Oper) → Act → World → Prop
  | [], a, w => Q .normal a w
  | (true, o) :: r, a, w => ∃ v, YieldsIf P ops S o v a ∧ wpOrd P ops Q S r (a.put o.dst v) w
  | (false, o) :: r, a, w => if Region.wanted o (yielded ops a.tmps) then o.wp P a w (fun a' w' => S w' ∧ wpOrd P ops Q S r a' w') Q else S w ∧ wpOrd P ops Q S r (a.put o.dst undef) w

theorem wpOrd_any {ol : List Oper} (hs : Region.noSelect ol.toArray = true) (hQ : ∀ d v c a w, Q (.panic c) (a.put d v) w → Q (.panic c) a w) : ∀ (l : List (Nat × Bool)) (listed : Array Bool) (a : Act) (w : World), S w →
    ordB ol.toArray l listed = true → wpOrd P ol.toArray Q S (inOrd ol l) a w → wpAnyH P .any ol.toArray Q S l.length listed a w
  | [], listed, a, w, _, hB, h => wpAnyH_done (by simpa [ordB] using hB) h _
  | (i, true) :: r, listed, a, w, hS, hB, h => by
    simp only [ordB, Bool.and_eq_true] at hB
    obtain ⟨⟨⟨h1, h2⟩, h3⟩, h4⟩ := hB
    obtain ⟨o, hi⟩ := Option.isSome_iff_exists.1 h3
    have hi' : ol[i]? = some o := by simpa using hi
    simp only [inOrd, hi', wpOrd] at h
    obtain ⟨v, hy, hr⟩ := h
    exact wpAnyH_take hi hs h2 h1 (fun c a w => hQ _ _ c a w) hy hS (wpOrd_any hs hQ r _ _ w hS h4 hr)
  | (i, false) :: r, listed, a, w, hS, hB, h => by
    simp only [ordB, Bool.and_eq_true, beq_iff_eq] at hB
    obtain ⟨⟨h1, h3⟩, h2⟩ := hB
    obtain ⟨o, hi⟩ := Option.isSome_iff_exists.1 h3
    have hi' : ol[i]? = some o := by simpa using hi
    simp only [inOrd, hi', wpOrd] at h
    refine wpAnyH_all h1 (by simp) fun j hj => ?_
    obtain rfl : j = i := by simpa using hj
    unfold wpOp
    rw [hi]
    simp only
    split
    · rename_i hw
      rw [if_pos hw] at h
      exact .inl (Oper.wp_mono (fun a' w' h' => ⟨h'.1, wpOrd_any hs hQ r _ a' w' h'.1 h2 h'.2⟩) h)
    · rename_i hw
      rw [if_neg hw] at h
      exact ⟨h.1, wpOrd_any hs hQ r _ _ w h.1 h2 h.2⟩

/-- A region that draws its order, walked in the order l. -/
theorem wp_region_ord {id : Nat} {a : Act} {w : World} {ol : List Oper} (l : List (Nat × Bool)) (hm : P.follows .mixedOrders = true) (hl : l.length = ol.length)
    (hB : (Region.noSelect ol.toArray && ordB ol.toArray l (Array.replicate ol.toArray.size false)) = true) (hQ : ∀ d v c a w, Q (.panic c) (a.put d v) w → Q (.panic c) a w)
    (hS : S w.drew) (h : wpOrd P ol.toArray Q S (inOrd ol l) a w.drew) : (Code.region id ol.toArray true).wp P Q a w := by
  simp only [Bool.and_eq_true] at hB
  have h1 := wpOrd_any hB.1 hQ l _ a w.drew hS hB.2 h
  rw [hl] at h1
  exact wp_region_held hm (by simpa using h1)

theorem wpOrd_nil {a : Act} {w : World} (h : Q .normal a w) : wpOrd P ops Q S [] a w := h
theorem wpOrd_yield {r : List (Bool × Oper)} {a : Act} {w : World} {o : Oper} {v : Value} (hw : Region.wanted o (yielded ops a.tmps) = true)
    (hr : ∀ u, S u → (execOp a.eval o).run P u = .ok (.value v) u) (h : wpOrd P ops Q S r (a.put o.dst v) w) : wpOrd P ops Q S ((true, o) :: r) a w :=
  ⟨v, .inl ⟨hw, hr⟩, h⟩
theorem wpOrd_call {r : List (Bool × Oper)} {a : Act} {w : World} {o : Oper} (hw : Region.wanted o (yielded ops a.tmps) = true) (f : FuncId) (xs : List Operand) (ts : Array TypeId)
    (ho : o.op = .call { callee := .value (.func f), args := xs.toArray, argTypes := ts }) (hc : ∀ args u, (callFunc f args).run P u = .ok (.enter f args) u) (args : List Value) (hx : xs.map a.eval = args)
    (h : Calls P f args.toArray w fun e w' => ∃ v, e = .returned v ∧ S w' ∧ wpOrd P ops Q S r (a.put o.dst v) w') : wpOrd P ops Q S ((false, o) :: r) a w := by
  simp only [wpOrd, hw, if_true]
  unfold Oper.wp execOp
  have e : (do let d ← resolve a.eval { callee := .value (.func f), args := xs.toArray, argTypes := ts } o.type; invoke d.target d.args : Sem Next).run P w = .ok (.enter f args.toArray) w := by
    have hx' : xs.toArray.map a.eval = args.toArray := by rw [← hx]; simp
    simp only [resolve, hx']
    simp [Act.eval, Deferred.ofValue, invoke, hc]
  simp only [ho]
  rw [e]
  unfold Oper.upon
  exact h.mono fun e w' ⟨v, he, h1, h2⟩ => by subst he; exact ⟨h1, h2⟩
end

section
variable {P : Program} {ops : Array Oper} {Q : Exit → Act → World → Prop} {S : World → Prop}

/-- One operation that acts, and what follows. -/
def wpAct (P : Program) (ops : Array Oper) (Q : Exit → Act → World → Prop) (S : World → Prop) (o : Oper) (K : Act → World → Prop) (a : Act) (w : World) : Prop :=
  if Region.wanted o (yielded ops a.tmps) then o.wp P a w (fun a' w' => S w' ∧ K a' w') Q else S w ∧ K (a.put o.dst undef) w

theorem wpOp_act {i : Nat} {o : Oper} (hi : ops[i]? = some o) {K K' : Act → World → Prop} (hK : ∀ a w, S w → K a w → K' a w) {a : Act} {w : World} (h : wpAct P ops Q S o K a w) : wpOp P ops Q i (fun a' w' => S w' ∧ K' a' w') a w := by
  unfold wpOp
  rw [hi]
  simp only
  unfold wpAct at h
  split
  · rename_i hw
    rw [if_pos hw] at h
    exact .inl (Oper.wp_mono (fun a' w' h' => ⟨h'.1, hK a' w' h'.1 h'.2⟩) h)
  · rename_i hw
    rw [if_neg hw] at h
    exact ⟨h.1, hK _ w h.1 h.2⟩

end

/-- How such a region of n operations is walked: this one only reads, and is taken first; or: those that may come up, and what then. -/
def OT : Nat → Type
  | 0 => Unit
  | n + 1 => Sum (Nat × OT n) (List (Nat × OT n))
def finT : OT 0 := ()
def rdT {n : Nat} (i : Nat) (r : OT n) : OT (n + 1) := Sum.inl (i, r)
def altT {n : Nat} (l : List (Nat × OT n)) : OT (n + 1) := Sum.inr l
section
variable {P : Program} {Q : Exit → Act → World → Prop} {S : World → Prop}
def okT (ops : Array Oper) : (n : Nat) → OT n → Array Bool → Bool
  | 0, _, L => (Region.ready .any ops L).isEmpty
  | n + 1, .inl (i, r), L => (Region.ready .any ops L).contains i && Region.free .any ops L i && (ops[i]?).isSome && okT ops n r (L.setIfInBounds i true)
  | n + 1, .inr l, L => (Region.ready .any ops L == l.map (·.1)) && !l.isEmpty && l.all fun p => (ops[p.1]?).isSome && okT ops n p.2 (L.setIfInBounds p.1 true)
def wpT (P : Program) (ops : Array Oper) (Q : Exit → Act → World → Prop) (S : World → Prop) (ol : List Oper) : (n : Nat) → OT n → Act → World → Prop
  | 0, _, a, w => Q .normal a w
  | n + 1, .inl (i, r), a, w => ∀ o, ol[i]? = some o → ∃ v, YieldsIf P ops S o v a ∧ wpT P ops Q S ol n r (a.put o.dst v) w
  | n + 1, .inr l, a, w => ∀ p ∈ l, ∀ o, ol[p.1]? = some o → wpAct P ops Q S o (wpT P ops Q S ol n p.2) a w
theorem wpT_any {ol : List Oper} (hs : Region.noSelect ol.toArray = true) (hQ : ∀ d v c a w, Q (.panic c) (a.put d v) w → Q (.panic c) a w) : ∀ (n : Nat) (t : OT n) (L : Array Bool) (a : Act) (w : World), S w →
    okT ol.toArray n t L = true → wpT P ol.toArray Q S ol n t a w → wpAnyH P .any ol.toArray Q S n L a w
  | 0, _, L, a, w, _, hB, h => wpAnyH_done (by simpa [okT] using hB) h _
  | n + 1, .inl (i, r), L, a, w, hS, hB, h => by
    simp only [okT, Bool.and_eq_true] at hB
    obtain ⟨⟨⟨h1, h2⟩, h3⟩, h4⟩ := hB
    obtain ⟨o, hi⟩ := Option.isSome_iff_exists.1 h3
    have hi' : ol[i]? = some o := by simpa using hi
    obtain ⟨v, hy, hr⟩ := h o hi'
    exact wpAnyH_take hi hs h2 h1 (fun c a w => hQ _ _ c a w) hy hS (wpT_any hs hQ n r _ _ w hS h4 hr)
  | n + 1, .inr l, L, a, w, hS, hB, h => by
    simp only [okT, Bool.and_eq_true, beq_iff_eq, List.all_eq_true, Bool.not_eq_true', List.isEmpty_eq_false_iff] at hB
    obtain ⟨⟨h1, hl⟩, h2⟩ := hB
    refine wpAnyH_all h1 (by simpa using hl) fun j hj => ?_
    obtain ⟨p, hp, rfl⟩ := List.mem_map.1 hj
    obtain ⟨h3, h4⟩ := h2 p hp
    obtain ⟨o, hi⟩ := Option.isSome_iff_exists.1 h3
    have hi' : ol[p.1]? = some o := by simpa using hi
    exact wpOp_act hi (fun a' w' hS' hK => wpT_any hs hQ n p.2 _ a' w' hS' h4 hK) (h p hp o hi')
/-- A region that draws its order, walked so. -/
theorem wp_region_tree {id : Nat} {a : Act} {w : World} {ol : List Oper} {n : Nat} (t : OT n) (hm : P.follows .mixedOrders = true) (hn : n = ol.length)
    (hB : (Region.noSelect ol.toArray && okT ol.toArray n t (Array.replicate ol.toArray.size false)) = true) (hQ : ∀ d v c a w, Q (.panic c) (a.put d v) w → Q (.panic c) a w)
    (hS : S w.drew) (h : wpT P ol.toArray Q S ol n t a w.drew) : (Code.region id ol.toArray true).wp P Q a w := by
  simp only [Bool.and_eq_true] at hB
  have h1 := wpT_any hB.1 hQ n t _ a w.drew hS hB.2 h
  rw [hn] at h1
  exact wp_region_held hm (by simpa using h1)
section
variable {ops : Array Oper} {ol : List Oper} {i n : Nat} {r : OT n} {more : List (Nat × OT n)} {a : Act} {w w' : World} {o : Oper} {v : Value}
theorem wpT_fin (h : Q .normal a w) : wpT P ops Q S ol 0 finT a w := h
theorem wpT_stop : wpT P ops Q S ol (n + 1) (altT []) a w := by
  intro p hp
  cases hp
theorem wpT_cons (h : ∀ o, ol[i]? = some o → wpAct P ops Q S o (wpT P ops Q S ol n r) a w) (hm : wpT P ops Q S ol (n + 1) (altT more) a w) : wpT P ops Q S ol (n + 1) (altT ((i, r) :: more)) a w := by
  intro p hp
  rcases List.mem_cons.1 hp with rfl | hp
  · exact h
  · exact hm p hp
theorem wpT_yield (ho : ol[i]? = some o) (hw : Region.wanted o (yielded ops a.tmps) = true) (hr : ∀ u, S u → (execOp a.eval o).run P u = .ok (.value v) u) (h : wpT P ops Q S ol n r (a.put o.dst v) w) : wpT P ops Q S ol (n + 1) (rdT i r) a w := by
  intro o' ho'
  obtain rfl : o = o' := by rw [ho] at ho'; exact Option.some.inj ho'
  exact ⟨v, .inl ⟨hw, hr⟩, h⟩
/-- Something is made, or done. -/
theorem wpT_make (ho : ol[i]? = some o) (hw : Region.wanted o (yielded ops a.tmps) = true) (hr : (execOp a.eval o).run P w = .ok (.value v) w') (hS : S w') (h : wpT P ops Q S ol n r (a.put o.dst v) w') (hm : wpT P ops Q S ol (n + 1) (altT more) a w) : wpT P ops Q S ol (n + 1) (altT ((i, r) :: more)) a w := by
  refine wpT_cons (fun o' ho' => ?_) hm
  obtain rfl : o = o' := by rw [ho] at ho'; exact Option.some.inj ho'
  unfold wpAct
  rw [if_pos hw]
  unfold Oper.wp
  rw [hr]
  exact ⟨hS, h⟩
theorem wpT_do (ho : ol[i]? = some o) (hw : Region.wanted o (yielded ops a.tmps) = true) (hr : (execOp a.eval o).run P w = .ok .skip w') (hS : S w') (h : wpT P ops Q S ol n r (a.put o.dst undef) w') (hm : wpT P ops Q S ol (n + 1) (altT more) a w) : wpT P ops Q S ol (n + 1) (altT ((i, r) :: more)) a w := by
  refine wpT_cons (fun o' ho' => ?_) hm
  obtain rfl : o = o' := by rw [ho] at ho'; exact Option.some.inj ho'
  unfold wpAct
  rw [if_pos hw]
  unfold Oper.wp
  rw [hr]
  exact ⟨hS, h⟩
theorem wpT_call (ho' : ol[i]? = some o) (hw : Region.wanted o (yielded ops a.tmps) = true) (f : FuncId) (xs : List Operand) (ts : Array TypeId) (ho : o.op = .call { callee := .value (.func f), args := xs.toArray, argTypes := ts }) (hc : ∀ args u, (callFunc f args).run P u = .ok (.enter f args) u) (args : List Value) (hx : xs.map a.eval = args)
    (h : Calls P f args.toArray w fun e w' => ∃ v, e = .returned v ∧ S w' ∧ wpT P ops Q S ol n r (a.put o.dst v) w') (hm : wpT P ops Q S ol (n + 1) (altT more) a w) : wpT P ops Q S ol (n + 1) (altT ((i, r) :: more)) a w := by
  refine wpT_cons (fun o'' ho'' => ?_) hm
  obtain rfl : o = o'' := by rw [ho'] at ho''; exact Option.some.inj ho''
  unfold wpAct
  rw [if_pos hw]
  unfold Oper.wp execOp
  have e : (do let d ← resolve a.eval { callee := .value (.func f), args := xs.toArray, argTypes := ts } o.type; invoke d.target d.args : Sem Next).run P w = .ok (.enter f args.toArray) w := by
    have hx' : xs.toArray.map a.eval = args.toArray := by rw [← hx]; simp
    simp only [resolve, hx']
    simp [Act.eval, Deferred.ofValue, invoke, hc]
  simp only [ho]
  rw [e]
  unfold Oper.upon
  exact h.mono fun e w' ⟨v, he, h1, h2⟩ => by subst he; exact ⟨h1, h2⟩
end
end
end Go.Proofs.YtlcdpmjdnihocaaGreat
/- Names of entries: what may be one, by the program and by the document; any text. -/
namespace Go.Proofs.YtlcdpmjdnihocaaGreat
open Go.RowKit Go.Maps
theorem bel_al {w u : World} (h : Below w.heap.size w u) (o : Obj) : Below w.heap.size w (u.alloc o) := h.alloc h.size o
theorem below_setRow {B : Nat} {a w : World} (h : Below B a w) {g : Nat} (hg : B ≤ g) (cs : Array Value) : Below B a (w.setRow g cs) :=
  h.trans ⟨rfl, rfl, rfl, by simp, fun k hk => setRow_other w g k cs (by omega)⟩
/-- The byte at a place. -/
def byt (s : ByteArray) (i : Nat) : Int := if h : i < s.size then ((s[i].toNat : Nat) : Int) else 0
theorem byt_bd (s : ByteArray) (i : Nat) : 0 ≤ byt s i ∧ byt s i ≤ 255 := by
  unfold byt
  split
  · rename_i h
    have := s[i].toNat_lt
    omega
  · omega
/-- A byte that no name has, among the first k. -/
def oddB (s : ByteArray) (k : Nat) : Bool := (List.range k).any fun i => byt s i == 0 || byt s i == 47
theorem oddB_succ (s : ByteArray) (k : Nat) : oddB s (k + 1) = (oddB s k || (byt s k == 0 || byt s k == 47)) := by simp [oddB, List.range_succ]
theorem oddB_later {s : ByteArray} {k n : Nat} (h : oddB s k = true) (hk : k ≤ n) : oddB s n = true := by
  unfold oddB at *
  rw [List.any_eq_true] at *
  obtain ⟨i, hi, hb⟩ := h
  exact ⟨i, List.mem_range.2 (by have := List.mem_range.1 hi; omega), hb⟩
/-- What Name answers. -/
def nmV (s : ByteArray) : Int := if s.size = 0 then 4 else if oddB s s.size then 4 else if 14 < s.size then 12 else 0
theorem nm_empty {s : ByteArray} (h : s.size = 0) : s = ⟨#[]⟩ := by
  apply ByteArray.ext
  exact Array.eq_empty_of_size_eq_zero h
theorem nm_list {s : ByteArray} (h : 0 < s.size) : s.toList.isEmpty = false := by
  rw [ByteArray.toList_eq]
  have : s.data.toList.length = s.size := by cases s; rfl
  cases hq : s.data.toList with
  | nil => rw [hq] at this; simp at this; omega
  | cons a t => rfl
theorem idx_str (s : ByteArray) (i : Nat) (h : i < s.size) (u : World) : (Instr.index 9 (.string s) (.int .i64 (i : Int))).run Tryz.prog u = .ok (.int .u8 (byt s i)) u := by
  rw [run_index_string (P := Tryz.prog) u 9 s .i64 (i : Int) Tryz.underlying9, dif_pos (by omega)]
  simp [byt, h]
set_option maxRecDepth 20000 in
set_option maxHeartbeats 1000000 in
theorem name_any (s : ByteArray) (w : World) (hs : s.size ≤ 9223372036854775807) :
    Calls Tryz.prog 162 #[.string s] w fun e w' => e = .returned (.int .i64 (nmV s)) ∧ w' = w := by
  by_cases h0 : s.size = 0
  · rw [show nmV s = 4 by unfold nmV; rw [if_pos h0]]
    rw [nm_empty h0]
    go_enter Tryz.func162, Tryz.ntmps162
    go_wp2
    go_ret
    exact ⟨rfl, rfl⟩
  have h3 := nm_list (s := s) (by omega)
  have HV : Hid (nmV s = if oddB s s.size then 4 else if 14 < s.size then 12 else 0) := by show nmV s = _; unfold nmV; rw [if_neg h0]
  go_enter Tryz.func162, Tryz.ntmps162
  go_wp2
  go_loopw [8] (fun s3 wx => wx = w ∧ ∃ i : Nat, i ≤ s.size ∧ Hid (oddB s i = false) ∧ s3 = .int .i64 i) (fun s3 _ => s.size - (intOf s3).toNat)
  case atStart => exact ⟨rfl, 0, by omega, rfl, rfl⟩
  case round =>
    obtain ⟨rfl, i, hi, HO, rfl⟩ := hrel
    by_cases hi2 : (i : Int) < (s.size : Int)
    · have hr := idx_str s i (by omega)
      have HS : Hid _ := oddB_succ s i
      have HL : Hid (oddB s (i + 1) = true → oddB s s.size = true) := fun h => oddB_later h (by omega)
      generalize byt s i = q at *
      by_cases b0 : q = 0
      · subst b0
        have H4 : Hid (nmV s = 4) := by show nmV s = 4; rw [HV.out, if_pos (HL.out (by rw [HS.out]; simp))]
        clear HS
        go_wp2
        go_ret
        exact ⟨by rw [H4.out]; rfl, rfl⟩
      by_cases b1 : q = 47
      · subst b1
        have H4 : Hid (nmV s = 4) := by show nmV s = 4; rw [HV.out, if_pos (HL.out (by rw [HS.out]; simp))]
        clear HS
        go_wp2
        go_ret
        exact ⟨by rw [H4.out]; rfl, rfl⟩
      have g1 : ((q : Int) == 0) = false := beq_eq_false_iff_ne.2 b0
      have g2 : ((q : Int) == 47) = false := beq_eq_false_iff_ne.2 b1
      have HO2 : Hid (oddB s (i + 1) = false) := by show oddB s (i + 1) = false; rw [HS.out, HO.out, g1, g2]; rfl
      clear HS HL
      go_wp2
      exact ⟨⟨trivial, i + 1, by omega, HO2, by go_num⟩, by simp [intOf]; omega⟩
    · obtain rfl : i = s.size := by omega
      have hv : nmV s = if 14 < s.size then 12 else 0 := by rw [HV.out, HO.out]; rfl
      by_cases h14 : 14 < s.size
      · have g1 : decide ((14 : Int) < (s.size : Int)) = true := decide_eq_true (by omega)
        rw [if_pos h14] at hv
        have HV2 : Hid _ := hv
        clear hv
        go_wp2
        go_ret
        exact ⟨by rw [HV2.out]; rfl, rfl⟩
      · have g1 : decide ((14 : Int) < (s.size : Int)) = false := decide_eq_false (by omega)
        rw [if_neg h14] at hv
        have HV2 : Hid _ := hv
        clear hv
        go_wp2
        go_ret
        exact ⟨by rw [HV2.out]; rfl, rfl⟩
end Go.Proofs.YtlcdpmjdnihocaaGreat
/- An entry's sixteen bytes, by the document; whatever the entry. -/
namespace Go.Proofs.YtlcdpmjdnihocaaGreat
open Go.RowKit Go.Maps
theorem retCT {fn : Func} {p u : Tmp} {ty : TypeId} {R : Ending → World → Prop} {a : Act} {w : World} {d : TypeDesc} (hu : Tryz.prog.underlying ty = some d) (hd : d.isRow = true) (h : fn.results = #[.cell p ty, .tmp u]) (g : Nat) (cs : Array Value) (t : TypeId) (hi : (Tryz.prog.info? ty).map (·.size) = some cs.size)
    (hp : a.tmps.getD p undef = .pointer (some ⟨g, 0, none⟩)) (hg : w.heap[g]? = some (.cells cs t))
    (hdf : a.defers = []) (hR : R (.returned (.tuple #[.agg cs, a.tmps.getD u undef])) w) : bodyPost Tryz.prog fn R .ret a w := by
  have hl : (loadVar ty ⟨g, 0, none⟩).run Tryz.prog w = .ok (.agg cs) w := run_loadVar_row w g t ty cs (0, 0) d hg hu (by cases d <;> first | rfl | cases hd) hi
  refine bodyPost_ret ?_ hdf hR
  rw [results_cell_tmp h]
  rw [hp]
  simp [asAddr, hl]
/-- The bytes of an entry. -/
def encP (i : Int) (s : ByteArray) : Nat → Int := fun j => if j = 0 then i % 256 else if j = 1 then i / 256 else byt s (j - 2)
/-- Whether an entry may be. -/
def chV (i : Int) (s : ByteArray) : Int := if i = 0 then (if s.size = 0 then 0 else 4) else nmV s
/-- What is written. -/
def encF (i : Int) (s : ByteArray) : Nat → Int := if chV i s = 0 then encP i s else nought
theorem encF_ok {i : Int} {s : ByteArray} (h : chV i s = 0) : encF i s = encP i s := if_pos h
theorem encF_bad {i : Int} {s : ByteArray} (h : ¬ chV i s = 0) : encF i s = nought := if_neg h
theorem byt_none (i : Nat) : byt ⟨#[]⟩ i = 0 := by unfold byt; rw [dif_neg]; exact Nat.not_lt_zero i
theorem nmV_size {s : ByteArray} (h : nmV s = 0) : 0 < s.size ∧ s.size ≤ 14 ∧ oddB s s.size = false := by
  unfold nmV at h
  split at h
  · cases h
  · split at h
    · cases h
    · split at h
      · cases h
      · rename_i h1 h2 h3
        exact ⟨by omega, by omega, by simpa using h2⟩
theorem chV_ok {i : Int} {s : ByteArray} (h : chV i s = 0) : (i = 0 ∧ s = ⟨#[]⟩) ∨ (¬ i = 0 ∧ nmV s = 0) := by
  unfold chV at h
  split at h
  · rename_i h0
    split at h
    · rename_i h1; exact .inl ⟨h0, nm_empty h1⟩
    · cases h
  · rename_i h0; exact .inr ⟨h0, h⟩
end Go.Proofs.YtlcdpmjdnihocaaGreat
/- What a block of 1024 bytes is as cells: a plain function from places to numbers, laid as cells; no condition. -/
namespace Go.Proofs.YtlcdpmjdnihocaaGreatN
open Go.RowKit

/-- The cells of a block whose byte at place i is f i. -/
def blk (f : Nat → Int) : Array Value := ((List.range 1024).map fun i => Value.int .u8 (f i)).toArray
/-- f, but for x at place i. -/
def upd (f : Nat → Int) (i : Nat) (x : Int) : Nat → Int := fun j => if j = i then x else f j
def nought : Nat → Int := fun _ => 0

theorem blk_size (f : Nat → Int) : (blk f).size = 1024 := by simp [blk]
theorem blk_get (f : Nat → Int) (i : Nat) (h : i < 1024) : (blk f)[i]? = some (.int .u8 (f i)) := by
  simp [blk, h]
theorem blk_set (f : Nat → Int) (i : Nat) (x : Int) : (blk f).setIfInBounds i (.int .u8 x) = blk (upd f i x) := by
  apply Array.ext_getElem?
  intro j
  by_cases hj : j < 1024
  · rw [blk_get _ _ hj, Array.getElem?_setIfInBounds]
    by_cases e : i = j
    · subst e; simp [blk_size, hj, upd]
    · have e' : ¬ j = i := fun q => e q.symm
      simp [e, e', blk_get _ _ hj, upd]
  · rw [Array.getElem?_eq_none (by rw [Array.size_setIfInBounds, blk_size]; omega), Array.getElem?_eq_none (by rw [blk_size]; omega)]
theorem blk_congr {f g : Nat → Int} (h : ∀ i, i < 1024 → f i = g i) : blk f = blk g := by
  apply Array.ext_getElem?
  intro j
  by_cases hj : j < 1024
  · rw [blk_get _ _ hj, blk_get _ _ hj, h j hj]
  · rw [Array.getElem?_eq_none (by rw [blk_size]; omega), Array.getElem?_eq_none (by rw [blk_size]; omega)]
theorem blk_one (f : Nat → Int) : (blk f).all (·.oneCell') = true := by
  rw [Array.all_eq_true_iff_forall_mem]
  intro v hv
  simp [blk] at hv
  obtain ⟨i, _, rfl⟩ := hv
  rfl
end Go.Proofs.YtlcdpmjdnihocaaGreatN
/- The block type of this program over its translation: loads, stores and results of whole blocks; fits; no condition. -/
namespace Go.Proofs.YtlcdpmjdnihocaaGreatN
open Go.RowKit

theorem info25 : (Tryz.prog.info? 79).map (fun i => (i.zero, i.size)) = some (some (.agg (blk nought)), 1024) := by kernel_rfl
theorem zero25 : ∀ w, (zeroValue 79).run Tryz.prog w = .ok (.agg (blk nought)) w := (zero_of_info info25).1
theorem size25 : (Tryz.prog.info? 79).map (·.size) = some 1024 := (zero_of_info info25).2

set_option maxHeartbeats 400000 in
theorem fits_any (a n : Int) (w : World) (hn : 0 ≤ n ∧ n ≤ 1024) :
    Calls Tryz.prog 137 #[.int .i64 a, .int .i64 n] w fun e w' => e = .returned (.bool (decide (0 ≤ a ∧ a ≤ 1024 - n))) ∧ w' = w := by
  by_cases h0 : 0 ≤ a
  · by_cases h1 : a ≤ 1024 - n
    · go_enter Tryz.func137, Tryz.ntmps137
      go_wp2
      go_ret
      exact ⟨by simp [h0, h1], rfl⟩
    · go_enter Tryz.func137, Tryz.ntmps137
      go_wp2
      go_ret
      exact ⟨by simp [h1], rfl⟩
  · go_enter Tryz.func137, Tryz.ntmps137
    go_wp2
    go_ret
    exact ⟨by simp; omega, rfl⟩

theorem fits_yes (a n : Int) (w : World) (hn : 0 ≤ n ∧ n ≤ 1024) (h : 0 ≤ a ∧ a ≤ 1024 - n) :
    Calls Tryz.prog 137 #[.int .i64 a, .int .i64 n] w fun e w' => e = .returned (.bool true) ∧ w' = w := by
  have := fits_any a n w hn
  rwa [decide_eq_true h] at this
theorem fits_no (a n : Int) (w : World) (hn : 0 ≤ n ∧ n ≤ 1024) (h : ¬ (0 ≤ a ∧ a ≤ 1024 - n)) :
    Calls Tryz.prog 137 #[.int .i64 a, .int .i64 n] w fun e w' => e = .returned (.bool false) ∧ w' = w := by
  have := fits_any a n w hn
  rwa [decide_eq_false h] at this

theorem wpList_load25 {ops : Array Oper} {rest : List Oper} {o : Oper} {a : Act} {w : World} {Q : Exit → Act → World → Prop} (hgd : o.guard = none) (x : Operand) (ho : o.op = .load 79 x)
    (g : Nat) (hx : a.eval x = .pointer (some ⟨g, 0, none⟩)) (f : Nat → Int) (hg : w.heap[g]? = some (.cells (blk f) 79))
    (h : wpList Tryz.prog ops Q rest (a.put o.dst (.agg (blk f))) w) : wpList Tryz.prog ops Q (o :: rest) a w :=
  wpList_load_row hgd 79 x ho g hx 79 (blk f) (0, 0) _ hg Tryz.underlying79 rfl (by rw [blk_size]; exact size25) h
theorem wpList_store25 {ops : Array Oper} {rest : List Oper} {o : Oper} {a : Act} {w : World} {Q : Exit → Act → World → Prop} (hgd : o.guard = none) (x y : Operand) (ho : o.op = .store 79 x y)
    (g : Nat) (f : Nat → Int) (hx : a.eval x = .pointer (some ⟨g, 0, none⟩)) (hy : a.eval y = .agg (blk f)) (f0 : Nat → Int) (hg : w.heap[g]? = some (.cells (blk f0) 79))
    (h : wpList Tryz.prog ops Q rest (a.put o.dst undef) (w.setRow g (blk f))) : wpList Tryz.prog ops Q (o :: rest) a w :=
  wpList_plain hgd fun _ hK => by
    unfold Oper.wp execOp
    simp only [ho, hx, hy, Instr.storeAt, Instr.sureAddr, Sem.run_bind, Sem.run_pure, Result.andThen_ok, run_storeVar_row w g 79 79 (blk f0) (blk f) hg (by rw [blk_size]; exact size25) (by rw [blk_size, blk_size]) (blk_one f)]
    exact hK _ _ h

/-- A result that is a whole block in a cell. -/
theorem ret25 {fn : Func} {p : Tmp} {R : Ending → World → Prop} {a : Act} {w : World} (h : fn.results = #[.cell p 79]) (g : Nat) (f : Nat → Int)
    (hp : a.tmps.getD p undef = .pointer (some ⟨g, 0, none⟩)) (hg : w.heap[g]? = some (.cells (blk f) 79)) (hd : a.defers = []) (hR : R (.returned (.agg (blk f))) w) : bodyPost Tryz.prog fn R .ret a w :=
  bodyPost_ret (results_cell_row h a.tmps w g 79 (blk f) (0, 0) _ hp hg Tryz.underlying79 rfl (by rw [blk_size]; exact size25)) hd hR
theorem below_setRow {B : Nat} {a w : World} (h : Below B a w) {g : Nat} (hg : B ≤ g) (cs : Array Value) : Below B a (w.setRow g cs) :=
  h.trans ⟨rfl, rfl, rfl, by simp, fun k hk => setRow_other w g k cs (by omega)⟩
theorem below2 (w : World) (a b : Obj) (g : Nat) (hg : w.heap.size ≤ g) (cs : Array Value) : Below w.heap.size w (((w.alloc a).alloc b).setRow g cs) :=
  below_setRow (((Below.refl _ _).alloc (Nat.le_refl _) _).alloc (by simp) _) hg _
end Go.Proofs.YtlcdpmjdnihocaaGreatN
/- Two blocks held against each other: equal just where every byte is; for every two blocks. -/
namespace Go.Proofs.YtlcdpmjdnihocaaGreatN
open Go.RowKit

end Go.Proofs.YtlcdpmjdnihocaaGreatN
/- Regions whose order is drawn and whose calls make memory but turn none that was there: one walk in the text's order serves every order. -/
namespace Go.Proofs.YtlcdpmjdnihocaaGreatN
open Go.RowKit

end Go.Proofs.YtlcdpmjdnihocaaGreatN
/- slab's inside: which of some places lie in a block; for every place and number. -/
namespace Go.Proofs.YtlcdpmjdnihocaaGreatN
open Go.RowKit

/-- The first of the n places from a on that are inside, and the one behind the last; 0 and 0 if there are none. -/
def insLo (a n : Int) : Nat := if n < 1 ∨ 1024 ≤ a then 0 else a.toNat
def insHi (a n : Int) : Nat := if n < 1 ∨ 1024 ≤ a then 0 else (min (a + n) 1024).toNat
theorem ins_le (a n : Int) : insLo a n ≤ insHi a n ∧ insHi a n ≤ 1024 := by
  unfold insLo insHi; split
  · omega
  · omega
theorem ins_iff (a n : Int) (j : Nat) (hj : j < 1024) : (insLo a n ≤ j ∧ j < insHi a n) ↔ (a ≤ (j : Int) ∧ (j : Int) - a < n) := by
  unfold insLo insHi; split <;> omega
theorem ins_lo (a n : Int) (h : insLo a n < insHi a n) : a ≤ (insLo a n : Int) ∧ (insHi a n : Int) - a ≤ n := by
  unfold insLo insHi at *; split at h <;> split <;> omega
theorem ret_two {a b c d : Int} (h : a = c) (h' : b = d) : Ending.returned (.tuple #[.int .i64 a, .int .i64 b]) = .returned (.tuple #[.int .i64 c, .int .i64 d]) := by rw [h, h']

set_option maxHeartbeats 400000 in
theorem slabInside_any (a n : Int) (w : World) (ha : -9223372036854775808 ≤ a ∧ a ≤ 9223372036854775807) (hn : -9223372036854775808 ≤ n ∧ n ≤ 9223372036854775807) :
    Calls Tryz.prog 141 #[.int .i64 a, .int .i64 n] w fun e w' => e = .returned (.tuple #[.int .i64 (insLo a n), .int .i64 (insHi a n)]) ∧ w' = w := by
  have hlo : ((insLo a n : Nat) : Int) = if n < 1 ∨ 1024 ≤ a then 0 else if a < 0 then 0 else a := by unfold insLo; split <;> (try split) <;> omega
  have hhi : ((insHi a n : Nat) : Int) = if n < 1 ∨ 1024 ≤ a then 0 else if a + n < 0 then 0 else if a + n < 1024 then a + n else 1024 := by
    unfold insHi; split <;> (try split) <;> (try split) <;> omega
  generalize ((insLo a n : Nat) : Int) = lo at *
  generalize ((insHi a n : Nat) : Int) = hi at *
  have HLO : Hid (lo = if n < 1 ∨ 1024 ≤ a then 0 else if a < 0 then 0 else a) := hlo
  have HHI : Hid (hi = if n < 1 ∨ 1024 ≤ a then 0 else if a + n < 0 then 0 else if a + n < 1024 then a + n else 1024) := hhi
  clear hlo hhi
  by_cases h1 : n < 1
  · go_enter Tryz.func141, Tryz.ntmps141
    go_wp2
    go_ret2
    exact ⟨ret_two (by rw [HLO.out, if_pos (.inl h1)]) (by rw [HHI.out, if_pos (.inl h1)]), rfl⟩
  · by_cases h2 : 1024 ≤ a
    · go_enter Tryz.func141, Tryz.ntmps141
      go_wp2
      go_ret2
      exact ⟨ret_two (by rw [HLO.out, if_pos (.inr h2)]) (by rw [HHI.out, if_pos (.inr h2)]), rfl⟩
    · by_cases h3 : a < 0
      · by_cases h4 : a + n < 0
        all_goals by_cases h5 : a + n < 1024
        all_goals
          go_enter Tryz.func141, Tryz.ntmps141
          go_wp2
        all_goals
          go_ret2
          refine ⟨ret_two ?_ ?_, rfl⟩
          · have := HLO.out; rw [if_neg (by omega), if_pos (by omega)] at this; omega
          · have := HHI.out; rw [if_neg (by omega)] at this; split at this <;> (try split at this) <;> omega
      · by_cases h5 : n < 1024 - a
        all_goals
          go_enter Tryz.func141, Tryz.ntmps141
          go_wp2
        all_goals
          go_ret2
          refine ⟨ret_two ?_ ?_, rfl⟩
          · have := HLO.out; rw [if_neg (by omega), if_neg (by omega)] at this; omega
          · have := HHI.out; rw [if_neg (by omega)] at this; split at this <;> (try split at this) <;> omega
end Go.Proofs.YtlcdpmjdnihocaaGreatN
/- The law's own function block: a block that begins with the bytes of a slice; its bytes lie in memory below. -/
namespace Go.Proofs.YtlcdpmjdnihocaaGreatN
open Go.RowKit

/-- The slice v holds n bytes, f 0, f 1 .. -/
def Lies (w : World) (v : Value) (n : Nat) (f : Nat → Int) : Prop :=
  (∃ a cap, v = .slice a 0 cap ∧ n = 0 ∧ (a = none → cap = 0)) ∨ ∃ b off cap, v = .slice (some ⟨b, off, none⟩) n cap ∧ n ≤ maxLen ∧ n ≤ cap ∧ b < w.heap.size ∧ ∀ i, i < n → w.cell? ⟨b, off + i, none⟩ = some (.int .u8 (f i))
end Go.Proofs.YtlcdpmjdnihocaaGreatN
/- Rows of bytes in memory: read, written, copied; whatever their number. -/
namespace Go.Proofs.YtlcdpmjdnihocaaGreatN
open Go.RowKit

theorem info5 : (Tryz.prog.info? 5).map (fun i => (i.zero, i.size, i.bytes)) = some (some (.int .u8 0), 1, 1) := by kernel_rfl
/-- m bytes as cells. -/
def rowA (f : Nat → Int) (m : Nat) : Array Value := ((List.range m).map fun i => Value.int .u8 (f i)).toArray
theorem rowA_size (f : Nat → Int) (m : Nat) : (rowA f m).size = m := by simp [rowA]
theorem rowA_get (f : Nat → Int) (m i : Nat) (h : i < m) : (rowA f m)[i]? = some (.int .u8 (f i)) := by simp [rowA, h]
theorem rowA_ext {f : Nat → Int} {m : Nat} {cs : Array Value} (hs : cs.size = m) (h : ∀ i, i < m → cs[i]? = some (.int .u8 (f i))) : cs = rowA f m := by
  apply Array.ext_getElem?
  intro i
  by_cases hi : i < m
  · rw [h i hi, rowA_get f m i hi]
  · rw [Array.getElem?_eq_none (by omega), Array.getElem?_eq_none (by rw [rowA_size]; omega)]
theorem rowA_congr {f g : Nat → Int} {m : Nat} (h : ∀ i, i < m → f i = g i) : rowA f m = rowA g m :=
  rowA_ext (rowA_size f m) fun i hi => by rw [rowA_get f m i hi, h i hi]
theorem made_row (m : Nat) : madeCells #[Value.int .u8 0] m = rowA nought m :=
  rowA_ext (by simp [madeCells]) fun i hi => by simp [madeCells, hi, nought, Nat.mod_one]
theorem cell_row {w : World} {g m : Nat} {f : Nat → Int} {t : TypeId} (h : w.heap[g]? = some (.cells (rowA f m) t)) (i : Nat) (hi : i < m) : w.cell? ⟨g, i, none⟩ = some (.int .u8 (f i)) := by
  rw [cell_of_row w g i _ t _ h]; exact rowA_get f m i hi
theorem rowA_one (f : Nat → Int) (m : Nat) : ∀ v ∈ (rowA f m).toList, v.oneCell' = true := by
  intro v hv
  simp [rowA] at hv
  obtain ⟨i, _, rfl⟩ := hv
  rfl

/-- F, but for n bytes of G from off on. -/
def over (F : Nat → Int) (off n : Nat) (G : Nat → Int) : Nat → Int := fun i => if off ≤ i ∧ i < off + n then G (i - off) else F i
theorem run_copy5 (w : World) (ty : TypeId) (g off dLen dCap gs so sLen sCap : Nat)
    (F : Nat → Int) (m : Nat) (t : TypeId) (hF : w.heap[g]? = some (.cells (rowA F m) t)) (G : Nat → Int) (n : Nat) (hn : n = Nat.min sLen dLen)
    (hsrc : ∀ j, j < n → w.cell? ⟨gs, so + j, none⟩ = some (.int .u8 (G j))) (hfit : off + n ≤ m) :
    (Builtin.copy_ #[157, 157] ty #[.slice (some ⟨g, off, none⟩) dLen dCap, .slice (some ⟨gs, so, none⟩) sLen sCap]).run Tryz.prog w = .ok (goInt n) (w.setRow g (rowA (over F off n G) m)) := by
  have hlen : (rowA G n).toList.length = n := by simp [rowA_size]
  have hi5 : (Tryz.prog.info? 5).map (·.size) = some 1 := by
    obtain ⟨i0, hi0, _, hz1, _⟩ := info_parts info5
    rw [hi0]; simp [hz1]
  have key := run_copy_row (P := Tryz.prog) w 157 157 ty 5 g off dLen dCap ⟨gs, so, none⟩ sLen sCap (rowA F m) t (rowA G n).toList Tryz.underlying157 hi5 hF (by rw [hlen]; exact hn) (fun j v hv => by
    have hj : j < n := by rw [← hlen]; exact (List.getElem?_eq_some_iff.1 hv).1
    have e : v = .int .u8 (G j) := by
      have := rowA_get G n j hj
      simp at hv
      rw [hv] at this
      exact Option.some.inj this
    rw [e, Go.WideShapes.add_plain]
    exact hsrc j hj) (by rw [hlen, rowA_size]; exact hfit) (rowA_one G n)
  have e : ((rowA F m).toList.take off ++ ((rowA G n).toList ++ (rowA F m).toList.drop (off + n))).toArray = rowA (over F off n G) m := by
    refine rowA_ext ?_ fun i hi => ?_
    · simp [rowA_size]; omega
    · simp only [List.getElem?_toArray]
      by_cases h1 : i < off
      · rw [List.getElem?_append_left (by simp [rowA_size]; omega), List.getElem?_take_of_lt h1]
        simp only [Array.getElem?_toList, rowA_get F m i hi, over]
        rw [if_neg (by omega)]
      · rw [List.getElem?_append_right (by simp [rowA_size]; omega)]
        have e0 : (List.take off (rowA F m).toList).length = off := by simp [rowA_size]; omega
        rw [e0]
        by_cases h2 : i < off + n
        · rw [List.getElem?_append_left (by simp [rowA_size]; omega)]
          simp only [Array.getElem?_toList, rowA_get G n (i - off) (by omega), over]
          rw [if_pos (by omega)]
        · rw [List.getElem?_append_right (by simp [rowA_size]; omega), hlen, List.getElem?_drop, show off + n + (i - off - n) = i by omega]
          simp only [Array.getElem?_toList, rowA_get F m i hi, over]
          rw [if_neg (by omega)]
  rw [hlen, List.append_assoc, e] at key
  exact key
theorem wp_copy5 {o : Oper} {a : Act} {w : World} {K : Act → World → Prop} {Q : Exit → Act → World → Prop} (d s : Operand)
    (ho : o.op = .call { callee := .builtin .copy, args := #[d, s], argTypes := #[157, 157] }) (g off dLen dCap gs so sLen sCap : Nat)
    (hd : a.eval d = .slice (some ⟨g, off, none⟩) dLen dCap) (hs : a.eval s = .slice (some ⟨gs, so, none⟩) sLen sCap)
    (F : Nat → Int) (m : Nat) (t : TypeId) (hF : w.heap[g]? = some (.cells (rowA F m) t)) (G : Nat → Int) (n : Nat) (hn : n = Nat.min sLen dLen)
    (hsrc : ∀ j, j < n → w.cell? ⟨gs, so + j, none⟩ = some (.int .u8 (G j))) (hfit : off + n ≤ m)
    (h : K (a.put o.dst (goInt n)) (w.setRow g (rowA (over F off n G) m))) : o.wp Tryz.prog a w K Q := by
  have hrun := run_copy5 w o.type g off dLen dCap gs so sLen sCap F m t hF G n hn hsrc hfit
  unfold Oper.wp
  simp [execOp, ho, resolve, invoke, builtin, hd, hs, hrun, Result.andThen]
  exact h
theorem wpList_copy5 {ops : Array Oper} {rest : List Oper} {o : Oper} {a : Act} {w : World} {Q : Exit → Act → World → Prop} (hgd : o.guard = none) (d s : Operand)
    (ho : o.op = .call { callee := .builtin .copy, args := #[d, s], argTypes := #[157, 157] }) (g off dLen dCap gs so sLen sCap : Nat)
    (hd : a.eval d = .slice (some ⟨g, off, none⟩) dLen dCap) (hs : a.eval s = .slice (some ⟨gs, so, none⟩) sLen sCap)
    (F : Nat → Int) (m : Nat) (t : TypeId) (hF : w.heap[g]? = some (.cells (rowA F m) t)) (G : Nat → Int) (n : Nat) (hn : n = Nat.min sLen dLen)
    (hsrc : ∀ j, j < n → w.cell? ⟨gs, so + j, none⟩ = some (.int .u8 (G j))) (hfit : off + n ≤ m)
    (h : wpList Tryz.prog ops Q rest (a.put o.dst (goInt n)) (w.setRow g (rowA (over F off n G) m))) : wpList Tryz.prog ops Q (o :: rest) a w :=
  wpList_plain hgd fun _ hK => wp_copy5 d s ho g off dLen dCap gs so sLen sCap hd hs F m t hF G n hn hsrc hfit (hK _ _ h)
end Go.Proofs.YtlcdpmjdnihocaaGreatN
/- Piece of slab: some bytes of a block, those that are inside, in memory of their own; for every block, place and number. -/
namespace Go.Proofs.YtlcdpmjdnihocaaGreatN
open Go.RowKit

theorem ins_lo_lt (a n : Int) : insLo a n < 1024 := by unfold insLo; split <;> omega
theorem slice25 (g lo hi : Nat) (h1 : lo ≤ hi) (h2 : hi ≤ 1024) (h3 : lo < 1024) (u : World) :
    (Instr.sliceAt 79 (.pointer (some ⟨g, 0, none⟩)) (some (.int .i64 (lo : Int))) (some (.int .i64 (hi : Int))) none).run Tryz.prog u = .ok (.slice (some ⟨g, lo, none⟩) (hi - lo) (1024 - lo)) u := by
  have hn : ¬ ((1024 : Nat) = lo) := by omega
  have ea : Tryz.prog.arrayLen 79 = 1024 := by kernel_rfl
  have ee : Tryz.prog.elem 79 = 5 := by kernel_rfl
  have h := run_sliceAt_array_lh (P := Tryz.prog) u 79 ⟨g, 0, none⟩ (by rw [ea, ee]; exact Tryz.underlying79) .i64 .i64 (lo : Int) (hi : Int) (by omega) (by omega) (by rw [ea]; omega)
  rw [h, ea, ee]
  simp [Tryz.sizeOf5, slicedAt, hn, Addr.add]
  intro h0; exact h0.symm

/-- f from lo on. -/
def from' (f : Nat → Int) (lo : Nat) : Nat → Int := fun i => f (lo + i)

set_option maxRecDepth 20000 in
set_option maxHeartbeats 400000 in
theorem piece_any (f : Nat → Int) (k n : Int) (w : World) (ha : -9223372036854775808 ≤ k ∧ k ≤ 9223372036854775807) (hn : -9223372036854775808 ≤ n ∧ n ≤ 9223372036854775807) :
    Calls Tryz.prog 158 #[.agg (blk f), .int .i64 k, .int .i64 n] w fun e w' => e = .returned (.slice (some ⟨w.heap.size + 1, 0, none⟩) (insHi k n - insLo k n) (insHi k n - insLo k n)) ∧
      w'.heap[w.heap.size + 1]? = some (.cells (rowA (from' f (insLo k n)) (insHi k n - insLo k n)) 5) ∧ w'.heap.size = w.heap.size + 2 ∧ Below w.heap.size w w' := by
  obtain ⟨i0, hi0, hz0, hz1, hz2⟩ := info_parts info5
  have hle := ins_le k n
  have hlo := ins_lo_lt k n
  have hcl := slabInside_any k n
  generalize insLo k n = lo at *
  generalize insHi k n = hi at *
  obtain ⟨hl1, hl2⟩ := hle
  have hmk : ∀ u : World, (Instr.makeSlice 157 (.int .i64 ((hi : Int) - (lo : Int))) (.int .i64 ((hi : Int) - (lo : Int)))).run Tryz.prog u =
      .ok (.slice (some ⟨u.heap.size, 0, none⟩) (hi - lo) (hi - lo)) (u.alloc (.cells (rowA nought (hi - lo)) 5)) := fun u => by
    have h := run_make (P := Tryz.prog) u 157 5 i0 (.int .u8 0) Tryz.underlying157 hi0 hz0 .i64 .i64 ((hi : Int) - (lo : Int)) ((hi : Int) - (lo : Int)) (by omega) (Int.le_refl _) (by rw [hz2]; omega) (by omega)
    rw [show ((hi : Int) - (lo : Int)).toNat = hi - lo by omega] at h
    simpa [hz1, Value.cells, made_row] using h
  clear hi0 hz0 hz1 hz2
  have hsl := slice25 w.heap.size lo hi hl1 hl2 hlo
  have hsrc : ∀ j, j < hi - lo → ((w.alloc (.cells (blk f) 79)).alloc (.cells (rowA nought (hi - lo)) 5)).cell? ⟨w.heap.size, lo + j, none⟩ = some (.int .u8 (from' f lo j)) := fun j hj =>
    cell_row (f := f) (m := 1024) (heap_alloc2_old _ _ _) (lo + j) (by omega)
  have HS : Hid (∀ j, j < hi - lo → ((w.alloc (.cells (blk f) 79)).alloc (.cells (rowA nought (hi - lo)) 5)).cell? ⟨w.heap.size, lo + j, none⟩ = some (.int .u8 (from' f lo j))) := hsrc
  have hov : rowA (over nought 0 (hi - lo) (from' f lo)) (hi - lo) = rowA (from' f lo) (hi - lo) := rowA_congr fun i hi => by unfold over; rw [if_pos (by omega), Nat.sub_zero]
  have HO : Hid (rowA (over nought 0 (hi - lo) (from' f lo)) (hi - lo) = rowA (from' f lo) (hi - lo)) := hov
  clear hsrc hov
  go_enter Tryz.func158, Tryz.ntmps158
  go_wp2_with fail
  refine (hcl _ ha hn).mono ?_
  rintro e w1 ⟨rfl, rfl⟩
  clear hcl
  go_wp2_with (first | refine wpList_copy5 rfl _ _ rfl _ _ _ _ _ _ _ _ rfl rfl nought (hi - lo) 5 (heap_alloc2_new _ _ _) (from' f lo) (hi - lo) (Nat.min_self _).symm HS.out (by omega) ?_)
  go_ret
  refine ⟨rfl, ?_, by simp, below2 _ _ _ _ (by omega) _⟩
  rw [← HO.out]
  exact setRow_heap _ _ _ _ _ _ (heap_alloc2_new _ _ _)
end Go.Proofs.YtlcdpmjdnihocaaGreatN
/- Lay of slab: bytes laid into a block, those that come to lie inside; for every block, place and bytes. -/
namespace Go.Proofs.YtlcdpmjdnihocaaGreatN
open Go.RowKit

/-- f with n bytes of q laid from place a on. -/
def layF (f : Nat → Int) (a : Int) (n : Nat) (q : Nat → Int) : Nat → Int := fun j => if a ≤ (j : Int) ∧ (j : Int) - a < (n : Int) then q ((j : Int) - a).toNat else f j

theorem lay_none (f : Nat → Int) (k : Int) (n : Nat) (q : Nat → Int) (h : ¬ insLo k n < insHi k n) : blk f = blk (layF f k n q) := blk_congr fun i hi => by
  unfold layF
  have := ins_iff k n i hi
  rw [if_neg (by omega)]
theorem lay_some (f : Nat → Int) (k : Int) (n : Nat) (q : Nat → Int) (h : insLo k n < insHi k n) :
    rowA (over f (insLo k n) (insHi k n - insLo k n) (from' q ((insLo k n : Int) - k).toNat)) 1024 = blk (layF f k n q) := rowA_congr fun i hi => by
  unfold over layF from'
  have h1 := ins_iff k n i hi
  have h2 := ins_lo k n h
  by_cases h3 : insLo k n ≤ i ∧ i < insHi k n
  · rw [if_pos (by omega), if_pos (h1.1 h3)]
    congr 1
    omega
  · rw [if_neg (by omega), if_neg (by omega)]

set_option maxRecDepth 20000 in
set_option maxHeartbeats 400000 in
theorem lay_skip (f : Nat → Int) (k : Int) (a : Option Addr) (n cap : Nat) (q : Nat → Int) (w : World) (ha : -9223372036854775808 ≤ k ∧ k ≤ 9223372036854775807) (hn : n ≤ 9223372036854775807) (h : ¬ insLo k n < insHi k n) :
    Calls Tryz.prog 102 #[.agg (blk f), .int .i64 k, .slice a n cap] w fun e w' => e = .returned (.agg (blk (layF f k n q))) ∧ Below w.heap.size w w' := by
  have HF : Hid (blk f = blk (layF f k n q)) := lay_none f k n q h
  have hcl := slabInside_any k n
  have z25 := zero25
  generalize insLo k n = lo at *
  generalize insHi k n = hi at *
  have h' : ¬ ((lo : Int) < (hi : Int)) := by omega
  clear h
  go_enter Tryz.func102, Tryz.ntmps102
  go_wp2_with fail
  refine (hcl _ ha (by omega)).mono ?_
  rintro e w1 ⟨rfl, rfl⟩
  clear hcl
  go_wp2_with (first | refine wpList_load25 rfl _ rfl _ rfl _ (heap_alloc2_old _ _ _) ?_ | refine wpList_store25 rfl _ _ rfl _ _ rfl rfl _ (heap_alloc2_new _ _ _) ?_)
  exact ret25 rfl (w.heap.size + 1) _ rfl (setRow_heap _ _ _ _ _ _ (heap_alloc2_new _ _ _)) rfl ⟨by rw [HF.out], below2 _ _ _ _ (by omega) _⟩

set_option maxRecDepth 20000 in
set_option maxHeartbeats 400000 in
theorem lay_copy (f : Nat → Int) (k : Int) (b off n cap : Nat) (q : Nat → Int) (w : World) (ha : -9223372036854775808 ≤ k ∧ k ≤ 9223372036854775807) (hn : n ≤ 9223372036854775807) (hcap : n ≤ cap)
    (hb : b < w.heap.size) (hc : ∀ i, i < n → w.cell? ⟨b, off + i, none⟩ = some (.int .u8 (q i))) (h : insLo k n < insHi k n) :
    Calls Tryz.prog 102 #[.agg (blk f), .int .i64 k, .slice (some ⟨b, off, none⟩) n cap] w fun e w' => e = .returned (.agg (blk (layF f k n q))) ∧ Below w.heap.size w w' := by
  have hle := ins_le k n
  have hlo := ins_lo_lt k n
  have hlk := ins_lo k n h
  have HF : Hid (rowA (over f (insLo k n) (insHi k n - insLo k n) (from' q ((insLo k n : Int) - k).toNat)) 1024 = blk (layF f k n q)) := lay_some f k n q h
  have hcl := slabInside_any k n
  have z25 := zero25
  generalize insLo k n = lo at *
  generalize insHi k n = hi at *
  obtain ⟨l, hl⟩ : ∃ l : Nat, (lo : Int) - k = (l : Int) := ⟨((lo : Int) - k).toNat, by omega⟩
  have hlt : ((lo : Int) - k).toNat = l := by omega
  rw [hlt] at HF
  have h' : ((lo : Int) < (hi : Int)) := by omega
  have hsl := slice25 w.heap.size lo hi hle.1 hle.2 hlo
  have hln : l < n := by omega
  have hwr : IntKind.i64.wrap ((lo : Int) - k) = (l : Int) := by rw [IntKind.wrap_i64]; omega
  have hln' : (l : Int) ≤ (n : Int) := by omega
  have hcp : ¬ cap = l := by omega
  have hsrc : ∀ j, j < hi - lo → ((w.alloc (.cells (blk f) 79)).alloc (.cells (blk nought) 79)).drew.cell? ⟨b, off + l + j, none⟩ = some (.int .u8 (from' q l j)) := fun j hj => by
    have h1 := hc (l + j) (by omega)
    rw [← Nat.add_assoc] at h1
    exact ((((Below.refl w.heap.size w).alloc (Nat.le_refl _) (.cells (blk f) 79)).alloc (by simp) (.cells (blk nought) 79)).cell (p := ⟨b, off + l + j, none⟩) hb).trans h1
  have HS : Hid (∀ j, j < hi - lo → ((w.alloc (.cells (blk f) 79)).alloc (.cells (blk nought) 79)).drew.cell? ⟨b, off + l + j, none⟩ = some (.int .u8 (from' q l j))) := hsrc
  have HB : Hid (((w.alloc (.cells (blk f) 79)).alloc (.cells (blk nought) 79)).drew.heap[w.heap.size]? = some (.cells (rowA f 1024) 79)) := heap_alloc2_old _ _ _
  have hE : lo + (hi - lo) ≤ 1024 := by omega
  have HE : Hid (lo + (hi - lo) ≤ 1024) := hE
  clear hE
  have HN : Hid (hi - lo = Nat.min (n - l) (hi - lo)) := show _ = _ from (Nat.min_eq_right (by omega)).symm
  clear hc hsrc hlt h hlo hln
  clear hl
  go_enter Tryz.func102, Tryz.ntmps102
  go_wp2_with fail
  refine (hcl _ ha (by omega)).mono ?_
  rintro e w1 ⟨rfl, rfl⟩
  clear hcl
  go_wp2
  go_still_tail 8, (by kernel_rfl)
  change wpList _ _ _ _ _ (World.drew _)
  refine wpList_copy5 rfl (.tmp 21) (.tmp 26) rfl w.heap.size lo (hi - lo) (1024 - lo) b (off + l) (n - l) (cap - l) rfl rfl f 1024 79 HB.out (from' q l) (hi - lo) HN.out HS.out HE.out ?_
  rw [HF.out]
  have h1 := setRow_heap _ w.heap.size (rowA f 1024) (blk (layF f k n q)) 79 (0, 0) HB.out
  have h2 : (((w.alloc (.cells (blk f) 79)).alloc (.cells (blk nought) 79)).drew.setRow w.heap.size (blk (layF f k n q))).heap[w.heap.size + 1]? = some (.cells (blk nought) 79) :=
    (setRow_other _ _ _ _ (by omega)).trans (heap_alloc2_new _ _ _)
  have h3 : Below w.heap.size w (((w.alloc (.cells (blk f) 79)).alloc (.cells (blk nought) 79)).drew.setRow w.heap.size (blk (layF f k n q))) :=
    below_setRow (((Below.refl _ _).alloc (Nat.le_refl _) _).alloc (by simp) _).drew (Nat.le_refl _) _
  generalize ((w.alloc (.cells (blk f) 79)).alloc (.cells (blk nought) 79)).drew.setRow w.heap.size (blk (layF f k n q)) = W at h1 h2 h3 ⊢
  clear HB HS HF hsl
  simp only [Act.put, List.setIfInBounds_toArray, List.set_cons_succ, List.set_cons_zero]
  go_wp2_with (first | refine wpList_load25 rfl _ rfl _ rfl _ h1 ?_ | refine wpList_store25 rfl _ _ rfl _ _ rfl rfl _ h2 ?_)
  exact ret25 rfl (w.heap.size + 1) _ rfl (setRow_heap _ _ _ _ _ _ h2) rfl ⟨rfl, below_setRow h3 (by omega) _⟩

theorem lay_any (f : Nat → Int) (k : Int) (p : Value) (n : Nat) (q : Nat → Int) (w : World) (ha : -9223372036854775808 ≤ k ∧ k ≤ 9223372036854775807) (hp : Lies w p n q) :
    Calls Tryz.prog 102 #[.agg (blk f), .int .i64 k, p] w fun e w' => e = .returned (.agg (blk (layF f k n q))) ∧ Below w.heap.size w w' := by
  rcases hp with ⟨a, cap, rfl, rfl, _⟩ | ⟨b, off, cap, rfl, hn, hcap, hb, hc⟩
  · refine lay_skip f k a 0 cap q w ha (by omega) ?_
    unfold insLo insHi; rw [if_pos (.inl (by omega)), if_pos (.inl (by omega))]; omega
  · unfold maxLen at hn
    by_cases h : insLo k n < insHi k n
    · exact lay_copy f k b off n cap q w ha (by omega) hcap hb hc h
    · exact lay_skip f k _ n cap q w ha (by omega) h
end Go.Proofs.YtlcdpmjdnihocaaGreatN
/- Numbers of some bytes, the lowest first: read and laid, as plain functions; the bytes are 0 to 255. -/
namespace Go.Proofs.YtlcdpmjdnihocaaGreatN
open Go.RowKit

/-- f with m bytes of v laid from place k on. -/
def putN (f : Nat → Int) (k : Nat) (v : Int) : Nat → Nat → Int
  | 0 => f
  | m + 1 => putN (upd f k (v % 256)) (k + 1) (v / 256) m
def put (f : Nat → Int) (at' : Int) (n : Nat) (v : Int) : Nat → Int := if 0 ≤ at' ∧ at' ≤ 1024 - (n : Int) then putN f at'.toNat v n else f

theorem put_in (f : Nat → Int) (k n : Nat) (v : Int) (h : k + n ≤ 1024) : put f (k : Int) n v = putN f k v n := by
  unfold put; rw [if_pos (by omega), Int.toNat_natCast]
theorem put_out (f : Nat → Int) (a : Int) (n : Nat) (v : Int) (h : a < 0 ∨ 1024 - (n : Int) < a) : put f a n v = f := by
  unfold put; rw [if_neg (by omega)]
theorem put2 (f : Nat → Int) (k : Nat) (v : Int) (hv : 0 ≤ v ∧ v < 65536) : putN f k v 2 = upd (upd f k (v % 256)) (k + 1) (v / 256) := by
  simp only [putN]
  rw [show v / 256 % 256 = v / 256 by omega]
end Go.Proofs.YtlcdpmjdnihocaaGreatN
/- U16 and U32 of slab: the number of the bytes at a place, or nought; for every block of bytes and every place. -/
namespace Go.Proofs.YtlcdpmjdnihocaaGreatN
open Go.RowKit

end Go.Proofs.YtlcdpmjdnihocaaGreatN
/- SetU16 and SetU32 of slab: the block in which a number is laid; for every block, place and number. -/
namespace Go.Proofs.YtlcdpmjdnihocaaGreatN
open Go.RowKit

theorem ret_blk {f g : Nat → Int} (h : f = g) : Ending.returned (.agg (blk f)) = .returned (.agg (blk g)) := by rw [h]
set_option maxRecDepth 20000 in
set_option maxHeartbeats 400000 in
theorem set16_in (f : Nat → Int) (k : Nat) (v : Int) (w : World) (hk : (k : Int) ≤ 1022) (hv : 0 ≤ v ∧ v < 65536) :
    Calls Tryz.prog 155 #[.agg (blk f), .int .i64 k, .int .u16 v] w fun e w' => e = .returned (.agg (blk (putN f k v 2))) ∧ Below w.heap.size w w' := by
  have z25 := zero25
  have hb0 := fun g => blk_get g (k) (by omega)
  have hb1 := fun g => blk_get g (k + 1) (by omega)
  have hset := blk_set
  go_enter Tryz.func155, Tryz.ntmps155
  go_wp2_with (first | (go_at_call 137; refine (fits_yes _ _ _ (by omega) (by omega)).mono ?_; rintro e w' ⟨rfl, rfl⟩) | refine wpList_load25 rfl _ rfl _ rfl _ (heap_alloc2_old _ _ _) ?_ | refine wpList_store25 rfl _ _ rfl _ _ rfl rfl _ (heap_alloc2_new _ _ _) ?_)
  exact ret25 rfl (w.heap.size + 1) _ rfl (setRow_heap _ _ _ _ _ _ (heap_alloc2_new _ _ _)) rfl ⟨ret_blk (put2 f k v hv).symm, below2 _ _ _ _ (by omega) _⟩
set_option maxRecDepth 20000 in
set_option maxHeartbeats 400000 in
theorem set16_out (f : Nat → Int) (k : Int) (v : Int) (w : World) (hk : ¬ (0 ≤ k ∧ k ≤ 1024 - 2)) :
    Calls Tryz.prog 155 #[.agg (blk f), .int .i64 k, .int .u16 v] w fun e w' => e = .returned (.agg (blk f)) ∧ Below w.heap.size w w' := by
  have z25 := zero25
  have HK : Hid (¬ (0 ≤ k ∧ k ≤ 1024 - 2)) := hk
  clear hk
  go_enter Tryz.func155, Tryz.ntmps155
  go_wp2_with (first | (go_at_call 137; refine (fits_no _ _ _ (by omega) HK.out).mono ?_; rintro e w' ⟨rfl, rfl⟩) | refine wpList_load25 rfl _ rfl _ rfl _ (heap_alloc2_old _ _ _) ?_ | refine wpList_store25 rfl _ _ rfl _ _ rfl rfl _ (heap_alloc2_new _ _ _) ?_)
  exact ret25 rfl (w.heap.size + 1) _ rfl (setRow_heap _ _ _ _ _ _ (heap_alloc2_new _ _ _)) rfl ⟨rfl, below2 _ _ _ _ (by omega) _⟩
theorem set16_any (f : Nat → Int) (k : Int) (v : Int) (w : World) (hv : 0 ≤ v ∧ v < 65536) :
    Calls Tryz.prog 155 #[.agg (blk f), .int .i64 k, .int .u16 v] w fun e w' => e = .returned (.agg (blk (put f k 2 v))) ∧ Below w.heap.size w w' := by
  by_cases h : 0 ≤ k ∧ k ≤ 1024 - 2
  · obtain ⟨m, rfl⟩ := Int.eq_ofNat_of_zero_le h.1
    rw [put_in f m 2 v (by omega)]; exact set16_in f m v w (by omega) hv
  · rw [put_out f k 2 v (by omega)]; exact set16_out f k v w h

end Go.Proofs.YtlcdpmjdnihocaaGreatN
