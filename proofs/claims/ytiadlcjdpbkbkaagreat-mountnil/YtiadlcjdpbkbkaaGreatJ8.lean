/- Several texts joined, each with its own remark; no condition. -/
import Derived.Test.YtiadlcjdpbkbkaaGreatJ7
import Derived.OrdersHeld
import Derived.WalkKit
import Derived.Test.YtiadlcjdpbkbkaaGreatProg
import Derived.WalkSpells
import Derived.WalkLawsBesides
import Derived.Deep.WholeRow
import Derived.Deep.DeepAppendWide
import Derived.Deep.Onto
import Derived.Deep.MidRow
import Derived.Laws.StructEq
import Derived.Lib.SmallJoins
import Derived.Maps.AppendAt
import Derived.Maps.OwnOps
import Derived.Maps.OwnSet
import Derived.Laws.CopyOwn
import Derived.Laws.AppendOwnNone
import Derived.Laws.OwnMore
import Derived.BigQuiet
import Derived.Laws.ResultCell
import Derived.Test.YtiadlcjdpbkbkaaGreatRows
import Derived.StillTailTactics
import Derived.Laws.BitsLemmas
/- Read of a log that lives; no condition but that numbers do not pass their greatest. -/
namespace Go.Proofs.YtiadlcjdpbkbkaaGreatD
open Go.RowKit Go.Maps
variable {w W : World} {g d c mb : Nat} {v : Value} {x : LSt} {s : CSt} {t : St} {os ks : List (Nat × Obj)} {base : Nat} {book : Int → Nat → Int}
/-- A block beside is written, and let go; the others stay. -/
theorem LS.beside {W' : World} {q : Nat} {o : Obj} (h : LS w W g d c mb v x s t os ((q, o) :: ks)) (hf : Fr (fun k => k = q) W W') (hq : w.heap.size ≤ q) (hks : ∀ p ∈ ks, p.1 ≠ q) : LogSit w W' g d x s t ks := by
  have hne : ∀ k, LHas g mb v k → k ≠ q := fun k hk e => h.ap (q, o) (List.mem_cons_self ..) (by rw [← e]; exact hk)
  have hk : ∀ k, LHas g mb v k → W'.heap[k]? = W.heap[k]? := fun k hk => hf.block k (h.log.lt k hk) (hne k hk)
  refine ⟨c, mb, v, os.filter (fun p => decide (p.1 ≠ q)), h.sit.turn hf (fun k e => by subst e; exact ⟨hq, o, List.mem_append.2 (.inr (List.mem_cons_self ..))⟩) fun p hp => ?_, h.log.kept hk, fun k hk2 => ?_, fun p hp => h.ap p (List.mem_cons_of_mem _ hp)⟩
  · rcases List.mem_append.1 hp with hp | hp
    · obtain ⟨hp1, hp2⟩ := List.mem_filter.1 hp
      have hp3 : p.1 ≠ q := by simpa using hp2
      have hb := h.sit.blk (List.mem_append.2 (.inl hp1) : (p.1, p.2) ∈ os ++ (q, o) :: ks)
      exact ⟨(hf.block p.1 (Array.getElem?_eq_some_iff.1 hb).1 hp3).trans hb, .inl ⟨p.2, List.mem_append.2 (.inl hp1)⟩⟩
    · have hb := h.sit.blk (List.mem_append.2 (.inr (List.mem_cons_of_mem _ hp)) : (p.1, p.2) ∈ os ++ (q, o) :: ks)
      exact ⟨(hf.block p.1 (Array.getElem?_eq_some_iff.1 hb).1 (hks p hp)).trans hb, .inl ⟨p.2, List.mem_append.2 (.inr (List.mem_cons_of_mem _ hp))⟩⟩
  · obtain ⟨h1, o2, ho2⟩ := h.own k hk2
    exact ⟨h1, o2, List.mem_filter.2 ⟨ho2, by simpa using hne k hk2⟩⟩
theorem LS.ksLt (h : LS w W g d c mb v x s t os ks) : ∀ p ∈ ks, p.1 ≠ W.heap.size := fun p hp e => by
  have := (Array.getElem?_eq_some_iff.1 (h.sit.blk (List.mem_append.2 (.inr hp) : (p.1, p.2) ∈ os ++ ks))).1
  omega
/-- What a Read leaves. -/
def RdPost (w : World) (g d : Nat) (x : LSt) (t : St) (book : Int → Nat → Int) (ks : List (Nat × Obj)) (F : Nat → Int) (e : Ending) (W' : World) : Prop :=
  e = .returned (.tuple #[.agg (blk F), .int .i64 0]) ∧ ∃ t', (t' = t ∨ t' = readS t) ∧ LogI w W' g d x t' book ks
set_option maxRecDepth 20000 in
set_option maxHeartbeats 1600000 in
theorem LogI.read (h : LogI w W g d x t book ks) (hc : chkE x t = 0) {k : Int} (hk : Dat x.b x.l k) (hs : t.stopped = false) (hr : Room t) : Calls Tryz.prog 108 #[ptr g, .int .i64 k] W (RdPost w g d x t book ks (book k)) := by
  obtain ⟨s, ⟨c, mb, v, os, h⟩, hI⟩ := h
  have hksz := h.ksLt
  have hbase := h.sit.below.size
  have hA := h.add (.cells (blk nought) 47)
  have hu := hI.used hs hk
  have hck : Calls Tryz.prog 20 #[ptr g] (W.alloc (.cells (blk nought) 47)) fun e W' => e = .returned (.int .i64 0) ∧ W'.cell? ⟨g, 3, none⟩ = some (.int .i64 x.b) ∧ W'.cell? ⟨g, 12, none⟩ = some (.pointer (some ⟨c, 0, none⟩)) ∧ Calls Tryz.prog 128 #[ptr g, .int .i64 k] W' (fun e W'' => e = .returned (.bool false) ∧ W'' = W') ∧ Hid (Calls Tryz.prog 82 #[ptr c, .int .i64 k] W' fun e W'' => e = .returned (.tuple #[.agg (blk (book k)), .int .i64 0]) ∧ W''.heap[W.heap.size]? = some (.cells (blk nought) 47) ∧ Hid (RdPost w g d x t book ks (book k) (.returned (.tuple #[.agg (blk (book k)), .int .i64 0])) (W''.setRow W.heap.size (blk (book k))))) := by
    refine hA.check.mono ?_
    rintro e W' ⟨rfl, m, rfl⟩
    have hB := hA.later (below_drewN _ m)
    have ho : ofL x k = false := by unfold ofL; exact decide_eq_false fun q => hk.2 q
    have ho2 := hB.ofLog k
    rw [ho] at ho2
    refine ⟨by rw [hc], hB.log.c3, hB.log.c12, ho2, ?_⟩
    refine (hB.cread hr k).mono ?_
    rintro e W2 ⟨rfl, h2⟩
    obtain ⟨a1, a2, _, a4⟩ := hI.c.read hk hu h2.sit.ok.1
    refine ⟨by rw [hI.c.reads hk hu, hu], h2.sit.blk (List.mem_append.2 (.inr (List.mem_cons_self ..))), rfl, rdD s t k, a4, rdC s t k, h2.beside (Fr.setRow W2 W.heap.size _) hbase hksz, ?_⟩
    exact ⟨hI.fine, a1, hI.nd, hI.rng, by rw [a2]; exact hI.fast, hI.last, hI.len, hI.steps, hI.commits, hI.room, hI.more⟩
  have hk1 : ¬ k < 0 := by have := hk.1; omega
  have hk2 : ¬ x.b ≤ k := by have := hk.1; omega
  clear h hA hI hu hksz hbase
  unfold ptr at *
  generalize book k = F at *
  have z25 := zero25
  go_enter Tryz.func108, Tryz.ntmps108
  go_wp2_with (go_at_call 20; fail)
  refine hck.mono ?_
  rintro e W1 ⟨rfl, c3, c12, ofl, HR⟩
  clear hck
  go_wp2_with (first | (go_at_call 128; refine ofl.mono ?_; rintro e W2 ⟨rfl, rfl⟩) | (go_at_call 82; fail))
  refine HR.out.mono ?_
  rintro e W3 ⟨rfl, hg, HP⟩
  clear HR ofl c3 c12
  go_wp2_with (first | refine wpList_store25 rfl (.tmp 4) (.tmp 45) rfl W.heap.size F rfl rfl _ hg ?_)
  exact retBT rfl W.heap.size F rfl (setRow_heap _ _ _ _ _ _ hg) rfl HP.out
end Go.Proofs.YtiadlcjdpbkbkaaGreatD
/- Regions whose order is drawn, walked in an order or a tree of orders that is told; no condition. -/
namespace Go.Proofs.YtiadlcjdpbkbkaaGreat
open Go.RowKit

section
variable {P : Program} {ops : Array Oper} {Q : Exit → Act → World → Prop} {S : World → Prop}

/-- May the operations be taken in this order? true: it is taken first; false: nothing else may come up. -/
def ordB (ops : Array Oper) : List (Nat × Bool) → Array Bool → Bool
  | [], listed => (Region.ready .any ops listed).isEmpty
  | (i, true) :: r, listed => (Region.ready .any ops listed).contains i && Region.free .any ops listed i && (ops[i]?).isSome && ordB ops r (listed.setIfInBounds i true)
  | (i, false) :: r, listed => (Region.ready .any ops listed == [i]) && (ops[i]?).isSome && ordB ops r (listed.setIfInBounds i true)

/-- The operations themselves, in that order. -/
def inOrd (ol : List Oper) : List (Nat × Bool) → List (Bool × Oper)
  | [] => []
  | (i, b) :: r => match ol[i]? with
    | some o => (b, o) :: inOrd ol r
    | none => inOrd ol r

def wpOrd (P : Program) (ops : Array Oper) (Q : Exit → Act → World → Prop) (S : World → Prop) : List (Bool × Oper) → Act → World → Prop
  | [], a, w => Q .normal a w
  | (true, o) :: r, a, w => ∃ v, YieldsIf P ops S o v a ∧ wpOrd P ops Q S r (a.put o.dst v) w
  | (false, o) :: r, a, w => if Region.wanted o (yielded ops a.tmps) then o.wp P a w (fun a' w' => S w' ∧ wpOrd P ops Q S r a' w') Q else S w ∧ wpOrd P ops Q S r (a.put o.dst undef) w

theorem wpOrd_any {ol : List Oper} (hs : Region.noSelect ol.toArray = true) (hQ : ∀ d v c a w, Q (.panic c) (a.put d v) w → Q (.panic c) a w) : ∀ (l : List (Nat × Bool)) (listed : Array Bool) (a : Act) (w : World), S w →
    ordB ol.toArray l listed = true → wpOrd P ol.toArray Q S (inOrd ol l) a w → wpAnyH P .any ol.toArray Q S l.length listed a w
  | [], listed, a, w, _, hB, h => wpAnyH_done (by simpa [ordB] using hB) h _
  | (i, true) :: r, listed, a, w, hS, hB, h => by
    simp only [ordB, Bool.and_eq_true] at hB
    obtain ⟨⟨⟨h1, h2⟩, h3⟩, h4⟩ := hB
    obtain ⟨o, hi⟩ := Option.isSome_iff_exists.1 h3
    have hi' : ol[i]? = some o := by simpa using hi
    simp only [inOrd, hi', wpOrd] at h
    obtain ⟨v, hy, hr⟩ := h
    exact wpAnyH_take hi hs h2 h1 (fun c a w => hQ _ _ c a w) hy hS (wpOrd_any hs hQ r _ _ w hS h4 hr)
  | (i, false) :: r, listed, a, w, hS, hB, h => by
    simp only [ordB, Bool.and_eq_true, beq_iff_eq] at hB
    obtain ⟨⟨h1, h3⟩, h2⟩ := hB
    obtain ⟨o, hi⟩ := Option.isSome_iff_exists.1 h3
    have hi' : ol[i]? = some o := by simpa using hi
    simp only [inOrd, hi', wpOrd] at h
    refine wpAnyH_all h1 (by simp) fun j hj => ?_
    obtain rfl : j = i := by simpa using hj
    unfold wpOp
    rw [hi]
    simp only
    split
    · rename_i hw
      rw [if_pos hw] at h
      exact .inl (Oper.wp_mono (fun a' w' h' => ⟨h'.1, wpOrd_any hs hQ r _ a' w' h'.1 h2 h'.2⟩) h)
    · rename_i hw
      rw [if_neg hw] at h
      exact ⟨h.1, wpOrd_any hs hQ r _ _ w h.1 h2 h.2⟩

/-- A region that draws its order, walked in the order l. -/
theorem wp_region_ord {id : Nat} {a : Act} {w : World} {ol : List Oper} (l : List (Nat × Bool)) (hm : P.follows .mixedOrders = true) (hl : l.length = ol.length)
    (hB : (Region.noSelect ol.toArray && ordB ol.toArray l (Array.replicate ol.toArray.size false)) = true) (hQ : ∀ d v c a w, Q (.panic c) (a.put d v) w → Q (.panic c) a w)
    (hS : S w.drew) (h : wpOrd P ol.toArray Q S (inOrd ol l) a w.drew) : (Code.region id ol.toArray true).wp P Q a w := by
  simp only [Bool.and_eq_true] at hB
  have h1 := wpOrd_any hB.1 hQ l _ a w.drew hS hB.2 h
  rw [hl] at h1
  exact wp_region_held hm (by simpa using h1)

theorem wpOrd_nil {a : Act} {w : World} (h : Q .normal a w) : wpOrd P ops Q S [] a w := h
theorem wpOrd_skip {r : List (Bool × Oper)} {b : Bool} {a : Act} {w : World} {o : Oper} (hS : S w) (hw : Region.wanted o (yielded ops a.tmps) = false) (h : wpOrd P ops Q S r (a.put o.dst undef) w) :
    wpOrd P ops Q S ((b, o) :: r) a w := by
  cases b
  · simp only [wpOrd, hw, Bool.false_eq_true, if_false]
    exact ⟨hS, h⟩
  · exact ⟨undef, .inr ⟨hw, rfl⟩, h⟩
theorem wpOrd_yield {r : List (Bool × Oper)} {a : Act} {w : World} {o : Oper} {v : Value} (hw : Region.wanted o (yielded ops a.tmps) = true)
    (hr : ∀ u, S u → (execOp a.eval o).run P u = .ok (.value v) u) (h : wpOrd P ops Q S r (a.put o.dst v) w) : wpOrd P ops Q S ((true, o) :: r) a w :=
  ⟨v, .inl ⟨hw, hr⟩, h⟩
theorem wpOrd_move {r : List (Bool × Oper)} {a : Act} {w : World} {o : Oper} (hw : Region.wanted o (yielded ops a.tmps) = true) (x : Operand) (ho : o.op = .move x)
    (h : wpOrd P ops Q S r (a.put o.dst (a.eval x)) w) : wpOrd P ops Q S ((true, o) :: r) a w :=
  wpOrd_yield hw (fun u _ => by simp [execOp, ho]) h
theorem wpOrd_call {r : List (Bool × Oper)} {a : Act} {w : World} {o : Oper} (hw : Region.wanted o (yielded ops a.tmps) = true) (f : FuncId) (xs : List Operand) (ts : Array TypeId)
    (ho : o.op = .call { callee := .value (.func f), args := xs.toArray, argTypes := ts }) (hc : ∀ args u, (callFunc f args).run P u = .ok (.enter f args) u) (args : List Value) (hx : xs.map a.eval = args)
    (h : Calls P f args.toArray w fun e w' => ∃ v, e = .returned v ∧ S w' ∧ wpOrd P ops Q S r (a.put o.dst v) w') : wpOrd P ops Q S ((false, o) :: r) a w := by
  simp only [wpOrd, hw, if_true]
  unfold Oper.wp execOp
  have e : (do let d ← resolve a.eval { callee := .value (.func f), args := xs.toArray, argTypes := ts } o.type; invoke d.target d.args : Sem Next).run P w = .ok (.enter f args.toArray) w := by
    have hx' : xs.toArray.map a.eval = args.toArray := by rw [← hx]; simp
    simp only [resolve, hx']
    simp [Act.eval, Deferred.ofValue, invoke, hc]
  simp only [ho]
  rw [e]
  unfold Oper.upon
  exact h.mono fun e w' ⟨v, he, h1, h2⟩ => by subst he; exact ⟨h1, h2⟩
end

section
variable {P : Program} {ops : Array Oper} {Q : Exit → Act → World → Prop} {S : World → Prop}

/-- First the operations of a list that only read, then i and j in either order, then l. -/
def forkB (ops : Array Oper) (i j : Nat) (l : List (Nat × Bool)) : List Nat → Array Bool → Bool
  | [], listed => (Region.ready .any ops listed == [i, j]) && (ops[i]?).isSome && (ops[j]?).isSome && ordB ops ((j, false) :: l) (listed.setIfInBounds i true) && ordB ops ((i, false) :: l) (listed.setIfInBounds j true)
  | k :: r, listed => (Region.ready .any ops listed).contains k && Region.free .any ops listed k && (ops[k]?).isSome && forkB ops i j l r (listed.setIfInBounds k true)

/-- One operation that acts, and what follows. -/
def wpAct (P : Program) (ops : Array Oper) (Q : Exit → Act → World → Prop) (S : World → Prop) (o : Oper) (K : Act → World → Prop) (a : Act) (w : World) : Prop :=
  if Region.wanted o (yielded ops a.tmps) then o.wp P a w (fun a' w' => S w' ∧ K a' w') Q else S w ∧ K (a.put o.dst undef) w

theorem wpOp_act {i : Nat} {o : Oper} (hi : ops[i]? = some o) {K K' : Act → World → Prop} (hK : ∀ a w, S w → K a w → K' a w) {a : Act} {w : World} (h : wpAct P ops Q S o K a w) : wpOp P ops Q i (fun a' w' => S w' ∧ K' a' w') a w := by
  unfold wpOp
  rw [hi]
  simp only
  unfold wpAct at h
  split
  · rename_i hw
    rw [if_pos hw] at h
    exact .inl (Oper.wp_mono (fun a' w' h' => ⟨h'.1, hK a' w' h'.1 h'.2⟩) h)
  · rename_i hw
    rw [if_neg hw] at h
    exact ⟨h.1, hK _ w h.1 h.2⟩

def wpFork (P : Program) (ops : Array Oper) (Q : Exit → Act → World → Prop) (S : World → Prop) (ol : List Oper) (i j : Nat) (l : List (Nat × Bool)) : List Nat → Act → World → Prop
  | [], a, w => (∀ o, ol[i]? = some o → wpAct P ops Q S o (wpOrd P ops Q S (inOrd ol ((j, false) :: l))) a w) ∧ (∀ o, ol[j]? = some o → wpAct P ops Q S o (wpOrd P ops Q S (inOrd ol ((i, false) :: l))) a w)
  | k :: r, a, w => ∀ o, ol[k]? = some o → ∃ v, YieldsIf P ops S o v a ∧ wpFork P ops Q S ol i j l r (a.put o.dst v) w

theorem wpFork_any {ol : List Oper} (hs : Region.noSelect ol.toArray = true) (hQ : ∀ d v c a w, Q (.panic c) (a.put d v) w → Q (.panic c) a w) (i j : Nat) (l : List (Nat × Bool)) : ∀ (r : List Nat) (listed : Array Bool) (a : Act) (w : World), S w →
    forkB ol.toArray i j l r listed = true → wpFork P ol.toArray Q S ol i j l r a w → wpAnyH P .any ol.toArray Q S (r.length + (l.length + 2)) listed a w
  | [], listed, a, w, hS, hB, h => by
    simp only [forkB, Bool.and_eq_true, beq_iff_eq] at hB
    obtain ⟨⟨⟨⟨h1, h2⟩, h3⟩, h4⟩, h5⟩ := hB
    obtain ⟨oi, hoi⟩ := Option.isSome_iff_exists.1 h2
    obtain ⟨oj, hoj⟩ := Option.isSome_iff_exists.1 h3
    have hoi' : ol[i]? = some oi := by simpa using hoi
    have hoj' : ol[j]? = some oj := by simpa using hoj
    rw [show ([] : List Nat).length + (l.length + 2) = (l.length + 1) + 1 by simp]
    refine wpAnyH_all h1 (by simp) fun k hk => ?_
    simp only [List.mem_cons, List.not_mem_nil, or_false] at hk
    rcases hk with rfl | rfl
    · exact wpOp_act hoi (fun a' w' hS' hK => wpOrd_any hs hQ ((j, false) :: l) _ a' w' hS' h4 hK) (h.1 oi hoi')
    · exact wpOp_act hoj (fun a' w' hS' hK => wpOrd_any hs hQ ((i, false) :: l) _ a' w' hS' h5 hK) (h.2 oj hoj')
  | k :: r, listed, a, w, hS, hB, h => by
    simp only [forkB, Bool.and_eq_true] at hB
    obtain ⟨⟨⟨h1, h2⟩, h3⟩, h4⟩ := hB
    obtain ⟨o, hi⟩ := Option.isSome_iff_exists.1 h3
    have hi' : ol[k]? = some o := by simpa using hi
    obtain ⟨v, hy, hr⟩ := h o hi'
    rw [show (k :: r).length + (l.length + 2) = r.length + (l.length + 2) + 1 by simp; omega]
    exact wpAnyH_take hi hs h2 h1 (fun c a w => hQ _ _ c a w) hy hS (wpFork_any hs hQ i j l r _ _ w hS h4 hr)

/-- A region that draws its order, walked so. -/
theorem wp_region_fork {id : Nat} {a : Act} {w : World} {ol : List Oper} (r : List Nat) (i j : Nat) (l : List (Nat × Bool)) (hm : P.follows .mixedOrders = true) (hl : r.length + (l.length + 2) = ol.length)
    (hB : (Region.noSelect ol.toArray && forkB ol.toArray i j l r (Array.replicate ol.toArray.size false)) = true) (hQ : ∀ d v c a w, Q (.panic c) (a.put d v) w → Q (.panic c) a w)
    (hS : S w.drew) (h : wpFork P ol.toArray Q S ol i j l r a w.drew) : (Code.region id ol.toArray true).wp P Q a w := by
  simp only [Bool.and_eq_true] at hB
  have h1 := wpFork_any hB.1 hQ i j l r _ a w.drew hS hB.2 h
  rw [hl] at h1
  exact wp_region_held hm (by simpa using h1)

theorem wpFork_yield {ol : List Oper} {i j : Nat} {l : List (Nat × Bool)} {k : Nat} {r : List Nat} {a : Act} {w : World} {o : Oper} {v : Value} (ho : ol[k]? = some o) (hw : Region.wanted o (yielded ops a.tmps) = true)
    (hr : ∀ u, S u → (execOp a.eval o).run P u = .ok (.value v) u) (h : wpFork P ops Q S ol i j l r (a.put o.dst v) w) : wpFork P ops Q S ol i j l (k :: r) a w := by
  intro o' ho'
  obtain rfl : o = o' := by rw [ho] at ho'; exact Option.some.inj ho'
  exact ⟨v, .inl ⟨hw, hr⟩, h⟩
theorem wpFork_nil {ol : List Oper} {i j : Nat} {l : List (Nat × Bool)} {a : Act} {w : World} {oi oj : Oper} (hi : ol[i]? = some oi) (hj : ol[j]? = some oj)
    (h1 : wpOrd P ops Q S (inOrd ol ((i, false) :: (j, false) :: l)) a w) (h2 : wpOrd P ops Q S (inOrd ol ((j, false) :: (i, false) :: l)) a w) : wpFork P ops Q S ol i j l [] a w := by
  refine ⟨fun o ho => ?_, fun o ho => ?_⟩
  · obtain rfl : oi = o := by rw [hi] at ho; exact Option.some.inj ho
    simp only [inOrd, hi, hj, wpOrd] at h1 ⊢
    exact h1
  · obtain rfl : oj = o := by rw [hj] at ho; exact Option.some.inj ho
    simp only [inOrd, hi, hj, wpOrd] at h2 ⊢
    exact h2
end

/-- How such a region of n operations is walked: this one only reads, and is taken first; or: those that may come up, and what then. -/
def OT : Nat → Type
  | 0 => Unit
  | n + 1 => Sum (Nat × OT n) (List (Nat × OT n))
def finT : OT 0 := ()
def rdT {n : Nat} (i : Nat) (r : OT n) : OT (n + 1) := Sum.inl (i, r)
def altT {n : Nat} (l : List (Nat × OT n)) : OT (n + 1) := Sum.inr l
section
variable {P : Program} {Q : Exit → Act → World → Prop} {S : World → Prop}
def okT (ops : Array Oper) : (n : Nat) → OT n → Array Bool → Bool
  | 0, _, L => (Region.ready .any ops L).isEmpty
  | n + 1, .inl (i, r), L => (Region.ready .any ops L).contains i && Region.free .any ops L i && (ops[i]?).isSome && okT ops n r (L.setIfInBounds i true)
  | n + 1, .inr l, L => (Region.ready .any ops L == l.map (·.1)) && !l.isEmpty && l.all fun p => (ops[p.1]?).isSome && okT ops n p.2 (L.setIfInBounds p.1 true)
def wpT (P : Program) (ops : Array Oper) (Q : Exit → Act → World → Prop) (S : World → Prop) (ol : List Oper) : (n : Nat) → OT n → Act → World → Prop
  | 0, _, a, w => Q .normal a w
  | n + 1, .inl (i, r), a, w => ∀ o, ol[i]? = some o → ∃ v, YieldsIf P ops S o v a ∧ wpT P ops Q S ol n r (a.put o.dst v) w
  | n + 1, .inr l, a, w => ∀ p ∈ l, ∀ o, ol[p.1]? = some o → wpAct P ops Q S o (wpT P ops Q S ol n p.2) a w
theorem wpT_any {ol : List Oper} (hs : Region.noSelect ol.toArray = true) (hQ : ∀ d v c a w, Q (.panic c) (a.put d v) w → Q (.panic c) a w) : ∀ (n : Nat) (t : OT n) (L : Array Bool) (a : Act) (w : World), S w →
    okT ol.toArray n t L = true → wpT P ol.toArray Q S ol n t a w → wpAnyH P .any ol.toArray Q S n L a w
  | 0, _, L, a, w, _, hB, h => wpAnyH_done (by simpa [okT] using hB) h _
  | n + 1, .inl (i, r), L, a, w, hS, hB, h => by
    simp only [okT, Bool.and_eq_true] at hB
    obtain ⟨⟨⟨h1, h2⟩, h3⟩, h4⟩ := hB
    obtain ⟨o, hi⟩ := Option.isSome_iff_exists.1 h3
    have hi' : ol[i]? = some o := by simpa using hi
    obtain ⟨v, hy, hr⟩ := h o hi'
    exact wpAnyH_take hi hs h2 h1 (fun c a w => hQ _ _ c a w) hy hS (wpT_any hs hQ n r _ _ w hS h4 hr)
  | n + 1, .inr l, L, a, w, hS, hB, h => by
    simp only [okT, Bool.and_eq_true, beq_iff_eq, List.all_eq_true, Bool.not_eq_true', List.isEmpty_eq_false_iff] at hB
    obtain ⟨⟨h1, hl⟩, h2⟩ := hB
    refine wpAnyH_all h1 (by simpa using hl) fun j hj => ?_
    obtain ⟨p, hp, rfl⟩ := List.mem_map.1 hj
    obtain ⟨h3, h4⟩ := h2 p hp
    obtain ⟨o, hi⟩ := Option.isSome_iff_exists.1 h3
    have hi' : ol[p.1]? = some o := by simpa using hi
    exact wpOp_act hi (fun a' w' hS' hK => wpT_any hs hQ n p.2 _ a' w' hS' h4 hK) (h p hp o hi')
/-- A region that draws its order, walked so. -/
theorem wp_region_tree {id : Nat} {a : Act} {w : World} {ol : List Oper} {n : Nat} (t : OT n) (hm : P.follows .mixedOrders = true) (hn : n = ol.length)
    (hB : (Region.noSelect ol.toArray && okT ol.toArray n t (Array.replicate ol.toArray.size false)) = true) (hQ : ∀ d v c a w, Q (.panic c) (a.put d v) w → Q (.panic c) a w)
    (hS : S w.drew) (h : wpT P ol.toArray Q S ol n t a w.drew) : (Code.region id ol.toArray true).wp P Q a w := by
  simp only [Bool.and_eq_true] at hB
  have h1 := wpT_any hB.1 hQ n t _ a w.drew hS hB.2 h
  rw [hn] at h1
  exact wp_region_held hm (by simpa using h1)
section
variable {ops : Array Oper} {ol : List Oper} {i n : Nat} {r : OT n} {more : List (Nat × OT n)} {a : Act} {w w' : World} {o : Oper} {v : Value}
theorem wpT_fin (h : Q .normal a w) : wpT P ops Q S ol 0 finT a w := h
theorem wpT_stop : wpT P ops Q S ol (n + 1) (altT []) a w := by
  intro p hp
  cases hp
theorem wpT_cons (h : ∀ o, ol[i]? = some o → wpAct P ops Q S o (wpT P ops Q S ol n r) a w) (hm : wpT P ops Q S ol (n + 1) (altT more) a w) : wpT P ops Q S ol (n + 1) (altT ((i, r) :: more)) a w := by
  intro p hp
  rcases List.mem_cons.1 hp with rfl | hp
  · exact h
  · exact hm p hp
theorem wpT_yield (ho : ol[i]? = some o) (hw : Region.wanted o (yielded ops a.tmps) = true) (hr : ∀ u, S u → (execOp a.eval o).run P u = .ok (.value v) u) (h : wpT P ops Q S ol n r (a.put o.dst v) w) : wpT P ops Q S ol (n + 1) (rdT i r) a w := by
  intro o' ho'
  obtain rfl : o = o' := by rw [ho] at ho'; exact Option.some.inj ho'
  exact ⟨v, .inl ⟨hw, hr⟩, h⟩
/-- Something is made, or done. -/
theorem wpT_make (ho : ol[i]? = some o) (hw : Region.wanted o (yielded ops a.tmps) = true) (hr : (execOp a.eval o).run P w = .ok (.value v) w') (hS : S w') (h : wpT P ops Q S ol n r (a.put o.dst v) w') (hm : wpT P ops Q S ol (n + 1) (altT more) a w) : wpT P ops Q S ol (n + 1) (altT ((i, r) :: more)) a w := by
  refine wpT_cons (fun o' ho' => ?_) hm
  obtain rfl : o = o' := by rw [ho] at ho'; exact Option.some.inj ho'
  unfold wpAct
  rw [if_pos hw]
  unfold Oper.wp
  rw [hr]
  exact ⟨hS, h⟩
theorem wpT_do (ho : ol[i]? = some o) (hw : Region.wanted o (yielded ops a.tmps) = true) (hr : (execOp a.eval o).run P w = .ok .skip w') (hS : S w') (h : wpT P ops Q S ol n r (a.put o.dst undef) w') (hm : wpT P ops Q S ol (n + 1) (altT more) a w) : wpT P ops Q S ol (n + 1) (altT ((i, r) :: more)) a w := by
  refine wpT_cons (fun o' ho' => ?_) hm
  obtain rfl : o = o' := by rw [ho] at ho'; exact Option.some.inj ho'
  unfold wpAct
  rw [if_pos hw]
  unfold Oper.wp
  rw [hr]
  exact ⟨hS, h⟩
theorem wpT_call (ho' : ol[i]? = some o) (hw : Region.wanted o (yielded ops a.tmps) = true) (f : FuncId) (xs : List Operand) (ts : Array TypeId) (ho : o.op = .call { callee := .value (.func f), args := xs.toArray, argTypes := ts }) (hc : ∀ args u, (callFunc f args).run P u = .ok (.enter f args) u) (args : List Value) (hx : xs.map a.eval = args)
    (h : Calls P f args.toArray w fun e w' => ∃ v, e = .returned v ∧ S w' ∧ wpT P ops Q S ol n r (a.put o.dst v) w') (hm : wpT P ops Q S ol (n + 1) (altT more) a w) : wpT P ops Q S ol (n + 1) (altT ((i, r) :: more)) a w := by
  refine wpT_cons (fun o'' ho'' => ?_) hm
  obtain rfl : o = o'' := by rw [ho'] at ho''; exact Option.some.inj ho''
  unfold wpAct
  rw [if_pos hw]
  unfold Oper.wp execOp
  have e : (do let d ← resolve a.eval { callee := .value (.func f), args := xs.toArray, argTypes := ts } o.type; invoke d.target d.args : Sem Next).run P w = .ok (.enter f args.toArray) w := by
    have hx' : xs.toArray.map a.eval = args.toArray := by rw [← hx]; simp
    simp only [resolve, hx']
    simp [Act.eval, Deferred.ofValue, invoke, hc]
  simp only [ho]
  rw [e]
  unfold Oper.upon
  exact h.mono fun e w' ⟨v, he, h1, h2⟩ => by subst he; exact ⟨h1, h2⟩
end
end
end Go.Proofs.YtiadlcjdpbkbkaaGreat
/- Rows of any type loaded, stored and returned; what turns and what stays; lists of anything in memory of their own, appended to and written over; no condition. -/
namespace Go.Proofs.YtiadlcjdpbkbkaaGreat
open Go.RowKit Go.Maps
theorem below_new (w : World) (o : Obj) : Below w.heap.size w (w.alloc o) := (Below.refl _ _).alloc (Nat.le_refl _) _
theorem below_next {w w1 w2 : World} (h : Below w.heap.size w w1) (hb : Below w1.heap.size w1 w2) : Below w.heap.size w w2 := h.trans (hb.mono h.size)
theorem heap_kept {w w' : World} {g : Nat} {o : Obj} (h : w.heap[g]? = some o) (hb : Below w.heap.size w w') : w'.heap[g]? = some o :=
  (hb.block g (Array.getElem?_eq_some_iff.1 h).1).trans h
theorem belowN {B : Nat} {w W : World} (h : Below B w W) (q : Nat) : Below B w (W.drewN q) := h.trans ⟨rfl, rfl, rfl, Nat.le_refl _, fun _ _ => rfl⟩
section
variable {ops : Array Oper} {rest : List Oper} {Q : Exit → Act → World → Prop} {a : Act} {w : World} {dst : Option Tmp} {x y : Operand} {ty : TypeId} {pos : String} {aft : Array Edge} {gd : Option (Nat × Bool)}
theorem isLoadR (t : TypeId) (h : wpList Tryz.prog ops Q (⟨dst, .load t x, ty, pos, aft, gd⟩ :: rest) a w) : wpList Tryz.prog ops Q (⟨dst, .load t x, ty, pos, aft, gd⟩ :: rest) a w := h
theorem isStoreR (t : TypeId) (h : wpList Tryz.prog ops Q (⟨dst, .store t x y, ty, pos, aft, gd⟩ :: rest) a w) : wpList Tryz.prog ops Q (⟨dst, .store t x y, ty, pos, aft, gd⟩ :: rest) a w := h
theorem isEqR (t t' : TypeId) {bo : BinOp} (h : wpList Tryz.prog ops Q (⟨dst, .binOp bo t x y t', ty, pos, aft, gd⟩ :: rest) a w) : wpList Tryz.prog ops Q (⟨dst, .binOp bo t x y t', ty, pos, aft, gd⟩ :: rest) a w := h
theorem isBuildR (t : TypeId) {ps : Array (Nat × Operand)} (h : wpList Tryz.prog ops Q (⟨dst, .build t ps, ty, pos, aft, gd⟩ :: rest) a w) : wpList Tryz.prog ops Q (⟨dst, .build t ps, ty, pos, aft, gd⟩ :: rest) a w := h
end
section
variable {ops : Array Oper} {rest : List Oper} {o : Oper} {a : Act} {w : World} {Q : Exit → Act → World → Prop}
/-- A whole row is loaded, of any type that is a row. -/
theorem wpList_ldR (ty : TypeId) {d : TypeDesc} (hu : Tryz.prog.underlying ty = some d) (hd : d.isRow = true) (hw : Region.wanted o (yielded ops a.tmps) = true) (x : Operand) (ho : o.op = .load ty x)
    (g : Nat) (hx : a.eval x = .pointer (some ⟨g, 0, none⟩)) (cs : Array Value) (t : TypeId) (fr : Nat × Nat) (hi : (Tryz.prog.info? ty).map (·.size) = some cs.size) (hg : w.heap[g]? = some (.cells cs t fr))
    (h : wpList Tryz.prog ops Q rest (a.put o.dst (.agg cs)) w) : wpList Tryz.prog ops Q (o :: rest) a w := by
  unfold wpList
  rw [if_pos hw]
  refine .inl ?_
  unfold Oper.wp execOp
  simp only [ho, hx, Instr.loadAt, Instr.sureAddr, Sem.run_bind, Sem.run_pure, Result.andThen_ok, run_loadVar_row w g t ty cs fr d hg hu (by cases d <;> first | rfl | cases hd) hi]
  exact h
theorem wpList_stR (ty : TypeId) (hgd : o.guard = none) (x y : Operand) (ho : o.op = .store ty x y)
    (g : Nat) (cs c0 : Array Value) (t : TypeId) (hi : (Tryz.prog.info? ty).map (·.size) = some cs.size) (hs : c0.size = cs.size) (h1 : cs.all (·.oneCell') = true)
    (hx : a.eval x = .pointer (some ⟨g, 0, none⟩)) (hy : a.eval y = .agg cs) (hg : w.heap[g]? = some (.cells c0 t))
    (h : wpList Tryz.prog ops Q rest (a.put o.dst undef) (w.setRow g cs)) : wpList Tryz.prog ops Q (o :: rest) a w :=
  wpList_plain hgd fun _ hK => by
    unfold Oper.wp execOp
    simp only [ho, hx, hy, Instr.storeAt, Instr.sureAddr, Sem.run_bind, Sem.run_pure, Result.andThen_ok, run_storeVar_row w g t ty c0 cs hg hi hs h1]
    exact hK _ _ h
theorem wpList_stNew (ty : TypeId) (hgd : o.guard = none) (x y : Operand) (ho : o.op = .store ty x y)
    (g : Nat) (cs c0 : Array Value) (t : TypeId) (hi : (Tryz.prog.info? ty).map (·.size) = some cs.size) (hs : c0.size = cs.size) (h1 : cs.all (·.oneCell') = true)
    (hx : a.eval x = .pointer (some ⟨g, 0, none⟩)) (hgw : g = w.heap.size) (hy : a.eval y = .agg cs)
    (h : wpList Tryz.prog ops Q rest (a.put o.dst undef) (w.alloc (.cells cs t))) : wpList Tryz.prog ops Q (o :: rest) a (w.alloc (.cells c0 t)) := by
  subst hgw
  exact wpList_stR ty hgd x y ho w.heap.size cs c0 t hi hs h1 hx hy (heap_alloc_new _ _) (by rw [World.setRow_alloc_new]; exact h)
end
theorem retR {fn : Func} {p : Tmp} {ty : TypeId} {R : Ending → World → Prop} {a : Act} {w : World} {d : TypeDesc} (hu : Tryz.prog.underlying ty = some d) (hd : d.isRow = true)
    (h : fn.results = #[.cell p ty]) (g : Nat) (cs : Array Value) (t : TypeId) (hi : (Tryz.prog.info? ty).map (·.size) = some cs.size)
    (hp : a.tmps.getD p undef = .pointer (some ⟨g, 0, none⟩)) (hg : w.heap[g]? = some (.cells cs t)) (hdf : a.defers = []) (hR : R (.returned (.agg cs)) w) : bodyPost Tryz.prog fn R .ret a w :=
  bodyPost_ret (results_cell_row h a.tmps w g t cs (0, 0) _ hp hg hu (by cases d <;> first | rfl | cases hd) hi) hdf hR

/-- Nothing has turned but blocks of T and new ones. -/
structure Fr (T : Nat → Prop) (w w' : World) : Prop where
  os : w'.os = w.os
  tape : w'.tape = w.tape
  output : w'.output = w.output
  size : w.heap.size ≤ w'.heap.size
  block : ∀ k, k < w.heap.size → ¬ T k → w'.heap[k]? = w.heap[k]?
theorem Fr.refl (T : Nat → Prop) (w : World) : Fr T w w := ⟨rfl, rfl, rfl, Nat.le_refl _, fun _ _ _ => rfl⟩
theorem Fr.trans {T T' : Nat → Prop} {a b c : World} (h : Fr T a b) (k : Fr T' b c) (hT : ∀ i, i < a.heap.size → T' i → T i) : Fr T a c :=
  ⟨k.os.trans h.os, k.tape.trans h.tape, k.output.trans h.output, Nat.le_trans h.size k.size, fun i hi hn => (k.block i (Nat.lt_of_lt_of_le hi h.size) (fun q => hn (hT i hi q))).trans (h.block i hi hn)⟩
theorem Fr.mono {T T' : Nat → Prop} {a b : World} (h : Fr T a b) (hT : ∀ i, i < a.heap.size → T i → T' i) : Fr T' a b :=
  ⟨h.os, h.tape, h.output, h.size, fun i hi hn => h.block i hi fun q => hn (hT i hi q)⟩
theorem Fr.ofBelow {T : Nat → Prop} {a b : World} (h : Below a.heap.size a b) : Fr T a b := ⟨h.os, h.tape, h.output, h.size, fun i hi _ => h.block i hi⟩
theorem Fr.below {T : Nat → Prop} {B : Nat} {a b : World} (h : Fr T a b) (hT : ∀ i, T i → B ≤ i) (hB : B ≤ a.heap.size) : Below B a b :=
  ⟨h.os, h.tape, h.output, h.size, fun i hi => h.block i (by omega) fun q => by have := hT i q; omega⟩
theorem Fr.ofGrown {a b : World} {r : Option Nat} (h : a.grownBy b r) : Fr (fun i => r = some i) a b := ⟨h.os, h.tape, h.output, h.size, fun i hi hn => h.block i hi fun q => hn q.symm⟩
theorem Fr.setCell (w : World) (g i : Nat) (v : Value) : Fr (fun k => k = g) w (w.setCell ⟨g, i, none⟩ v) :=
  ⟨rfl, rfl, rfl, by simp, fun k _ hn => Below.heap_setCell w _ v k hn⟩
theorem Fr.alloc (T : Nat → Prop) (w : World) (o : Obj) : Fr T w (w.alloc o) := Fr.ofBelow ((Below.refl _ _).alloc (Nat.le_refl _) o)

theorem Fr.setRow (w : World) (g : Nat) (cs : Array Value) : Fr (fun k => k = g) w (w.setRow g cs) :=
  ⟨rfl, rfl, rfl, by simp, fun k _ hn => setRow_other w g k cs hn⟩
section
variable {α : Type} (row : α → List Value) (n : Nat)
theorem fm_len (hr : ∀ x, (row x).length = n) : ∀ l : List α, (l.flatMap row).length = l.length * n
  | [] => by simp
  | x :: t => by rw [List.flatMap_cons, List.length_append, hr x, fm_len hr t, List.length_cons, Nat.add_mul]; omega
theorem fm_get (hr : ∀ x, (row x).length = n) : ∀ (l : List α) (i j : Nat) (r : α), l[i]? = some r → j < n → (l.flatMap row)[i * n + j]? = (row r)[j]?
  | [], i, j, r, h, _ => by simp at h
  | x :: t, 0, j, r, h, hj => by
    have h' : x = r := by simpa using h
    subst h'
    rw [List.flatMap_cons, Nat.zero_mul, Nat.zero_add, List.getElem?_append_left (by rw [hr]; exact hj)]
  | x :: t, i + 1, j, r, h, hj => by
    have h' : t[i]? = some r := by simpa using h
    rw [List.flatMap_cons, List.getElem?_append_right (by rw [hr, Nat.add_mul]; omega), hr, show (i + 1) * n + j - n = i * n + j by rw [Nat.add_mul]; omega]
    exact fm_get hr t i j r h' hj
theorem fm_set (hr : ∀ x, (row x).length = n) : ∀ (l : List α) (i : Nat) (r : α), i < l.length → (l.flatMap row).take (i * n) ++ row r ++ (l.flatMap row).drop (i * n + n) = (l.set i r).flatMap row
  | [], i, r, h => by simp at h
  | x :: t, 0, r, _ => by
    rw [List.set_cons_zero, List.flatMap_cons, List.flatMap_cons, Nat.zero_mul, Nat.zero_add, List.take_zero, List.nil_append, ← hr x, List.drop_left]
  | x :: t, i + 1, r, h => by
    have ih := fm_set hr t i r (by simpa using h)
    have e1 : (i + 1) * n = (row x).length + i * n := by rw [hr, Nat.add_mul]; omega
    rw [List.set_cons_succ, List.flatMap_cons, List.flatMap_cons, ← ih, e1, List.take_length_add_append, Nat.add_assoc, List.drop_length_add_append]
    simp only [List.append_assoc]
end
section
variable {w W W' : World} {v v' : Value}
theorem append_gen {st e : TypeId} {i : TypeInfo} {z : Value} {size bytes : Nat} (ht : Tryz.prog.underlying st = some (.slice e)) (hi : Tryz.prog.info? e = some i) (hz : i.zero = some z) (hsize : i.size = size) (hby : i.bytes = bytes) (hzs : z.cells.size = size) (hsz : 0 < size)
    {B : Nat} {n : Nat} {xs : List Value} (hown : W.ownsRow B e size v n xs) {ad : Addr} {m c : Nat} {news : List Value} (hm : 0 < m) (hl : news.length = m * size)
    (hnews : ∀ j u, news[j]? = some u → W.cell? (ad.add j) = some u) (h1 : ∀ u ∈ news, u.oneCell' = true) (h63 : n + m ≤ maxLen) (hbytes : ((n + m) + (n + m) / 4 + 192) * bytes ≤ 281474976710656) (hB : B ≤ W.heap.size) (ty : TypeId) :
    ∃ v' w', (Builtin.append_ #[st, st] ty #[v, .slice (some ad) m c]).run Tryz.prog W = .ok v' w' ∧ w'.ownsRow B e size v' (n + m) (xs ++ news) ∧ Fr (fun k => v.ownBlock = some k) W w' ∧ ∀ k, v'.ownBlock = some k → v.ownBlock = some k ∨ W.heap.size ≤ k := by
  obtain ⟨v', w', hr, h2, hg, _⟩ := run_append_own_wide (P := Tryz.prog) W B st ty e i z size bytes ht hi hz hsize hby hzs hsz v n xs hown ad m c news hl hnews h1 h63 hbytes hB
  refine ⟨v', w', hr, h2, Fr.ofGrown hg, fun k hk => ?_⟩
  have hmx : n + m ≤ 9223372036854775807 := by simp only [maxLen] at h63; omega
  have hmb : m * i.bytes ≤ 281474976710656 := by
    rw [hby]
    exact Nat.le_trans (Nat.mul_le_mul_right _ (by omega)) hbytes
  subst hsize
  subst hby
  rcases hown.2 with ⟨rfl, rfl⟩ | ⟨g, cap, cur, rfl, _, hg', hnc, hcm, hcs, htake⟩
  · rw [run_append_nil (P := Tryz.prog) W st ty e i _ ht hi hz ad m c news hl hnews hm (by omega) hmb] at hr
    injection hr with q1 q2
    rw [← q1] at hk
    injection hk with hk
    exact .inr (by rw [← hk]; exact Nat.le_refl _)
  · by_cases hroom : n + m ≤ cap
    · have hfit : n * i.size + news.length ≤ cur.size := by rw [hl, hcs, ← Nat.add_mul]; exact Nat.mul_le_mul_right _ hroom
      rw [run_append_room (P := Tryz.prog) W st ty e i ht hi g n cap cur hg' ad m c news hl hnews h1 hroom hfit] at hr
      injection hr with q1 q2
      rw [← q1] at hk
      exact .inl hk
    · rw [run_append_grow (P := Tryz.prog) W st ty e i _ ht hi hz ⟨g, 0, none⟩ n cap xs hown.1 (hown.cells (g := g) rfl) ad m c news hl hnews (by omega) (by omega) (growslice_fits_wide (by omega) hbytes)] at hr
      injection hr with q1 q2
      rw [← q1] at hk
      injection hk with hk
      exact .inr (by rw [← hk]; exact Nat.le_refl _)
theorem exec_push {o : Oper} {a : Act} {s y : Operand} {st : TypeId} {ad : Addr} {m c : Nat} (ho : o.op = .call { callee := .builtin .append, args := #[s, y], argTypes := #[st, st] }) (hs : a.eval s = v) (hx : a.eval y = .slice (some ad) m c)
    (hr : (Builtin.append_ #[st, st] o.type #[v, .slice (some ad) m c]).run Tryz.prog W = .ok v' W') : (execOp a.eval o).run Tryz.prog W = .ok (.value v') W' := by
  simp [execOp, ho, resolve, invoke, builtin, hs, hx, hr, Result.andThen]
end
section
variable {α : Type} {en : α → List Value} {sz : Nat}
theorem fml (hr : ∀ x, (en x).length = sz) : ∀ l : List α, (l.flatMap en).length = l.length * sz
  | [] => by simp
  | x :: t => by rw [List.flatMap_cons, List.length_append, hr, fml hr t, List.length_cons, Nat.add_mul, Nat.one_mul, Nat.add_comm]
/-- A row with some cells written over. -/
def putE (cur : Array Value) (off : Nat) (r : List Value) : Array Value := (cur.toList.take off ++ r ++ cur.toList.drop (off + r.length)).toArray
theorem own_set (hr : ∀ x, (en x).length = sz) {B e g n c i : Nat} {w : World} {l : List α} {x : α} (h : w.ownsRow B e sz (.slice (some ⟨g, 0, none⟩) n c) n (l.flatMap en)) (hl : l.length = n) (hi : i < n) :
    ∃ cur, w.heap[g]? = some (.cells cur e) ∧ i * sz + sz ≤ cur.size ∧ (w.setRow g (putE cur (i * sz) (en x))).ownsRow B e sz (.slice (some ⟨g, 0, none⟩) n c) n ((l.set i x).flatMap en) := by
  obtain ⟨_, h2⟩ := h
  rcases h2 with ⟨q, _⟩ | ⟨g', cap, cur, hv, hB, hg, hnc, hcm, hcs, ht⟩
  · simp at q
  · injection hv with q1 q2 q3
    injection q1 with q1
    injection q1 with q1
    subst q1; subst q3
    have el : l = l.take i ++ l[i] :: l.drop (i + 1) := by rw [← List.drop_eq_getElem_cons (by omega), List.take_append_drop]
    have es : l.set i x = l.take i ++ x :: l.drop (i + 1) := List.set_eq_take_append_cons_drop.trans (if_pos (by omega))
    have hA : ((l.take i).flatMap en).length = i * sz := by rw [fml hr, List.length_take, Nat.min_eq_left (by omega)]
    have hC : ((l.drop (i + 1)).flatMap en).length = (n - (i + 1)) * sz := by rw [fml hr, List.length_drop, hl]
    have hF : l.flatMap en = (l.take i).flatMap en ++ (en l[i] ++ (l.drop (i + 1)).flatMap en) := by
      conv => lhs; rw [el]
      rw [List.flatMap_append, List.flatMap_cons]
    have hcur : cur.toList = (l.take i).flatMap en ++ (en l[i] ++ ((l.drop (i + 1)).flatMap en ++ cur.toList.drop (n * sz))) := by
      conv => lhs; rw [← List.take_append_drop (n * sz) cur.toList]
      rw [ht, hF, List.append_assoc, List.append_assoc]
    have hmul : i * sz + (sz + (n - (i + 1)) * sz) = n * sz := by
      rw [← Nat.add_assoc, show i * sz + sz = (i + 1) * sz by rw [Nat.add_mul, Nat.one_mul], ← Nat.add_mul]
      congr 1
      omega
    have hle : n * sz ≤ cur.size := by rw [hcs]; exact Nat.mul_le_mul_right _ hnc
    have hne : (l.set i x).flatMap en = (l.take i).flatMap en ++ (en x ++ (l.drop (i + 1)).flatMap en) := by rw [es, List.flatMap_append, List.flatMap_cons]
    generalize (l.take i).flatMap en = A at *
    generalize (l.drop (i + 1)).flatMap en = C at *
    generalize cur.toList.drop (n * sz) = R at *
    have hp : putE cur (i * sz) (en x) = (A ++ (en x ++ (C ++ R))).toArray := by
      unfold putE
      rw [hr, hcur, ← hA, List.take_left, show A.length + sz = (A ++ en l[i]).length by rw [List.length_append, hr], ← List.append_assoc, List.drop_left, List.append_assoc]
    have hcl : cur.size = A.length + (sz + (C.length + R.length)) := by
      rw [← Array.length_toList, hcur, List.length_append, List.length_append, List.length_append, hr]
    refine ⟨cur, hg, by omega, ?_⟩
    rw [hp, hne]
    refine ⟨by rw [List.length_append, List.length_append, hr, hA, hC]; exact hmul, .inr ⟨g, c, _, rfl, hB, setRow_heap _ _ _ _ _ _ hg, hnc, hcm, ?_, ?_⟩⟩
    · rw [List.size_toArray, List.length_append, List.length_append, List.length_append, hr, ← hcl, hcs]
    · rw [List.toList_toArray, show n * sz = (A ++ (en x ++ C)).length by rw [List.length_append, List.length_append, hr, hA, hC]; exact hmul.symm, ← List.append_assoc, ← List.append_assoc, ← List.append_assoc, List.take_left]
theorem own_other {B e n g : Nat} {w : World} {v : Value} {xs : List Value} (h : w.ownsRow B e sz v n xs) (hg : v.ownBlock ≠ some g) (cs : Array Value) : (w.setRow g cs).ownsRow B e sz v n xs := by
  obtain ⟨h1, h2⟩ := h
  refine ⟨h1, ?_⟩
  rcases h2 with h2 | ⟨g', cap, cur, rfl, hB, hh, r⟩
  · exact .inl h2
  · refine .inr ⟨g', cap, cur, rfl, hB, ?_, r⟩
    rw [setRow_other w g g' cs fun q => hg (by rw [q]; rfl)]
    exact hh
theorem own_later {w w' : World} {base e size : Nat} {v : Value} {n : Nat} {xs : List Value} (h : w.ownsRow base e size v n xs) (hb : Below w.heap.size w w') : w'.ownsRow base e size v n xs := by
  obtain ⟨h1, h2⟩ := h
  refine ⟨h1, ?_⟩
  rcases h2 with h2 | ⟨g, cap, cur, hv, hg, hh, r⟩
  · exact .inl h2
  · exact .inr ⟨g, cap, cur, hv, hg, (hb.block g (Array.getElem?_eq_some_iff.1 hh).1).trans hh, r⟩
theorem own_frame {w w' : World} {base e size : Nat} {v : Value} {n : Nat} {xs : List Value} {T : Nat → Prop} (h : w.ownsRow base e size v n xs) (hf : Fr T w w') (hT : ∀ i, v.ownBlock = some i → ¬ T i) : w'.ownsRow base e size v n xs := by
  obtain ⟨h1, h2⟩ := h
  refine ⟨h1, ?_⟩
  rcases h2 with h2 | ⟨g, cap, cur, rfl, hg, hh, r⟩
  · exact .inl h2
  · exact .inr ⟨g, cap, cur, rfl, hg, (hf.block g (Array.getElem?_eq_some_iff.1 hh).1 (hT g rfl)).trans hh, r⟩
theorem own_get (hr : ∀ x, (en x).length = sz) {B e g n c i : Nat} {w : World} {l : List α} {x : α} (h : w.ownsRow B e sz (.slice (some ⟨g, 0, none⟩) n c) n (l.flatMap en)) (hx : l[i]? = some x) : ∀ j v, (en x)[j]? = some v → w.cell? ⟨g, i * sz + j, none⟩ = some v := fun j v hv => by
  have hj : j < sz := by have := (List.getElem?_eq_some_iff.1 hv).1; rwa [hr] at this
  have hln := h.1
  rw [fml hr] at hln
  have hi : i < l.length := (List.getElem?_eq_some_iff.1 hx).1
  have hlt : i * sz + j < n * sz := by
    rw [← hln]
    have : (i + 1) * sz ≤ l.length * sz := Nat.mul_le_mul_right _ hi
    rw [Nat.add_mul, Nat.one_mul] at this
    omega
  rw [World.ownsRow.cellAt h _ hlt, fm_get (row := en) (n := sz) hr l i j x hx hj]
  exact hv
theorem own_form {w : World} {B e n : Nat} {v : Value} {xs : List Value} (h : w.ownsRow B e sz v n xs) : (v = .slice none 0 0 ∧ n = 0) ∨ ∃ g c, v = .slice (some ⟨g, 0, none⟩) n c ∧ g < w.heap.size := by
  rcases h.2 with q | ⟨g, c, cur, hv, _, hh, _⟩
  · exact .inl q
  · exact .inr ⟨g, c, hv, (Array.getElem?_eq_some_iff.1 hh).1⟩
/-- Append onto a list: the longer one, what stays, and that the shorter one is as it was. -/
theorem append_keep {st e : TypeId} {i : TypeInfo} {z : Value} {bytes : Nat} (ht : Tryz.prog.underlying st = some (.slice e)) (hi : Tryz.prog.info? e = some i) (hz : i.zero = some z) (hsize : i.size = sz) (hby : i.bytes = bytes) (hzs : z.cells.size = sz) (hsz : 0 < sz)
    {W : World} {v : Value} {B : Nat} {n : Nat} {xs : List Value} (hown : W.ownsRow B e sz v n xs) {ad : Addr} {m c : Nat} {news : List Value} (hm : 0 < m) (hl : news.length = m * sz)
    (hnews : ∀ j u, news[j]? = some u → W.cell? (ad.add j) = some u) (h1 : ∀ u ∈ news, u.oneCell' = true) (h63 : n + m ≤ maxLen) (hbytes : ((n + m) + (n + m) / 4 + 192) * bytes ≤ 281474976710656) (hB : B ≤ W.heap.size) (ty : TypeId) :
    ∃ v' w', (Builtin.append_ #[st, st] ty #[v, .slice (some ad) m c]).run Tryz.prog W = .ok v' w' ∧ w'.ownsRow B e sz v' (n + m) (xs ++ news) ∧ w'.ownsRow B e sz v n xs ∧ Fr (fun k => v.ownBlock = some k) W w' ∧ ∀ k, v'.ownBlock = some k → v.ownBlock = some k ∨ W.heap.size ≤ k := by
  obtain ⟨v', w', hr, h2, hg, h4⟩ := append_gen (W := W) (v := v) ht hi hz hsize hby hzs hsz hown (ad := ad) (m := m) (c := c) hm hl hnews h1 h63 hbytes hB ty
  refine ⟨v', w', hr, h2, ?_, hg, h4⟩
  have hmx : n + m ≤ 9223372036854775807 := by simp only [maxLen] at h63; omega
  subst hsize
  subst hby
  have hown' := hown
  rcases hown.2 with ⟨rfl, rfl⟩ | ⟨g, cap, cur, rfl, hBg, hg', hnc, hcm, hcs, htake⟩
  · exact ⟨hown.1, .inl ⟨rfl, rfl⟩⟩
  · by_cases hroom : n + m ≤ cap
    · have hfit : n * i.size + news.length ≤ cur.size := by rw [hl, hcs, ← Nat.add_mul]; exact Nat.mul_le_mul_right _ hroom
      rw [run_append_room (P := Tryz.prog) W st ty e i ht hi g n cap cur hg' ad m c news hl hnews h1 hroom hfit] at hr
      injection hr with q1 q2
      subst q1
      rcases h2.2 with ⟨q, _⟩ | ⟨g2, cap2, cur2, q, _, hh2, _, _, hcs2, ht2⟩
      · simp at q
      · injection q with q1 q2' q3
        injection q1 with q1
        injection q1 with q1
        subst q1; subst q3
        refine ⟨hown.1, .inr ⟨g, cap, cur2, rfl, hBg, hh2, hnc, hcm, hcs2, ?_⟩⟩
        have hx := hown.1
        rw [show cur2.toList.take (n * i.size) = (cur2.toList.take ((n + m) * i.size)).take (n * i.size) by rw [List.take_take, Nat.min_eq_left (Nat.mul_le_mul_right _ (by omega))], ht2, ← hx, List.take_left]
    · rw [run_append_grow (P := Tryz.prog) W st ty e i _ ht hi hz ⟨g, 0, none⟩ n cap xs hown.1 (hown.cells (g := g) rfl) ad m c news hl hnews (by omega) (by omega) (growslice_fits_wide (by omega) hbytes)] at hr
      injection hr with q1 q2
      rw [← q2]
      exact World.ownsRow.alloc (show W.drew.ownsRow B e i.size _ n xs from hown') _
/-- Marks in a list. -/
def mks (mk : Nat → α) (n : Nat) : List α := (List.range n).map mk
theorem mks_len (mk : Nat → α) (n : Nat) : (mks mk n).length = n := by simp [mks]
theorem mks_succ (mk : Nat → α) (n : Nat) : mks mk (n + 1) = mks mk n ++ [mk n] := by simp [mks, List.range_succ]
theorem mks_get (mk : Nat → α) (n i : Nat) (h : i < n) : (mks mk n)[i]? = some (mk i) := by simp [mks, h]
/-- l, its first i as marks. -/
def asM (mk : Nat → α) (l : List α) (i : Nat) : List α := mks mk i ++ l.drop i
theorem asM_len (mk : Nat → α) (l : List α) (i : Nat) (h : i ≤ l.length) : (asM mk l i).length = l.length := by
  unfold asM
  rw [List.length_append, mks_len, List.length_drop]
  omega
theorem asM_set (mk : Nat → α) (l : List α) (i : Nat) (h : i < l.length) : (asM mk l i).set i (mk i) = asM mk l (i + 1) := by
  unfold asM
  rw [mks_succ, List.set_append_right _ _ (by rw [mks_len]; omega), mks_len, Nat.sub_self, List.drop_eq_getElem_cons h, List.set_cons_zero, List.append_assoc]
  rfl
theorem asM_full (mk : Nat → α) (l : List α) : asM mk l l.length = mks mk l.length := by unfold asM; rw [List.drop_length, List.append_nil]
theorem asM_zero (mk : Nat → α) (l : List α) : asM mk l 0 = l := by unfold asM mks; simp
end
end Go.Proofs.YtiadlcjdpbkbkaaGreat
/- Rows of numbers of one kind as functions of their places; compared, loaded from the middle of rows; no condition. -/
namespace Go.Proofs.YtiadlcjdpbkbkaaGreat
open Go.RowKit Go.Maps
/-- A row of n numbers of a kind, f of each place. -/
def rowN (kd : IntKind) (f : Nat → Int) (n : Nat) : Array Value := ((List.range n).map fun i => Value.int kd (f i)).toArray
def updN (f : Nat → Int) (i : Nat) (x : Int) : Nat → Int := fun j => if j = i then x else f j
def nought : Nat → Int := fun _ => 0
/-- A block's cells. -/
def blk (f : Nat → Int) : Array Value := rowN .u8 f 1024
theorem rowN_size (kd : IntKind) (f : Nat → Int) (n : Nat) : (rowN kd f n).size = n := by simp [rowN]
theorem rowN_get (kd : IntKind) (f : Nat → Int) (n i : Nat) (h : i < n) : (rowN kd f n)[i]? = some (.int kd (f i)) := by simp [rowN, h]
theorem rowN_ext {kd : IntKind} {cs : Array Value} {f : Nat → Int} {n : Nat} (hs : cs.size = n) (h : ∀ i, i < n → cs[i]? = some (.int kd (f i))) : cs = rowN kd f n := by
  apply Array.ext_getElem?
  intro j
  by_cases hj : j < n
  · rw [h j hj, rowN_get _ _ _ _ hj]
  · rw [Array.getElem?_eq_none (by omega), Array.getElem?_eq_none (by rw [rowN_size]; omega)]
theorem rowN_congr {kd : IntKind} {f g : Nat → Int} {n : Nat} (h : ∀ i, i < n → f i = g i) : rowN kd f n = rowN kd g n :=
  rowN_ext (rowN_size kd f n) fun i hi => by rw [rowN_get _ _ _ _ hi, h i hi]
theorem rowN_set (kd : IntKind) (f : Nat → Int) (n i : Nat) (x : Int) : (rowN kd f n).setIfInBounds i (.int kd x) = rowN kd (updN f i x) n := by
  refine rowN_ext (by rw [Array.size_setIfInBounds, rowN_size]) fun j hj => ?_
  rw [Array.getElem?_setIfInBounds]
  by_cases e : i = j
  · subst e; simp [rowN_size, hj, updN]
  · have e' : ¬ j = i := fun q => e q.symm
    simp [e, e', rowN_get _ _ _ _ hj, updN]
theorem rowN_one (kd : IntKind) (f : Nat → Int) (n : Nat) : (rowN kd f n).all (·.oneCell') = true := by
  rw [Array.all_eq_true_iff_forall_mem]
  intro v hv
  simp [rowN] at hv
  obtain ⟨i, _, rfl⟩ := hv
  rfl
theorem setCell_rowN {w : World} {g m : Nat} {kd : IntKind} {f : Nat → Int} {t : TypeId} (h : w.heap[g]? = some (.cells (rowN kd f m) t)) (i : Nat) (x : Int) : (w.setCell ⟨g, i, none⟩ (.int kd x)).heap[g]? = some (.cells (rowN kd (updN f i x) m) t) := by
  rw [heap_setCell_same _ _ _ _ _ _ h, rowN_set]
theorem cell_rowN {w : World} {g m : Nat} {kd : IntKind} {f : Nat → Int} {t : TypeId} (h : w.heap[g]? = some (.cells (rowN kd f m) t)) {i : Nat} (hi : i < m) : w.cell? ⟨g, i, none⟩ = some (.int kd (f i)) := by
  rw [cell_of_row _ _ i _ t _ h, rowN_get _ _ _ _ hi]
theorem frozen_row {w : World} {g : Nat} {cs : Array Value} {t : TypeId} (h : w.heap[g]? = some (.cells cs t)) (i : Nat) : w.frozen? ⟨g, i, none⟩ = false := by simp [World.frozen?, h]
theorem heap_two (w : World) (a b : Obj) : ((w.alloc a).alloc b).heap[w.heap.size + 1]? = some b := by
  have := heap_alloc_new (w.alloc a) b
  simpa using this
/-- A row of numbers that lies in a larger row. -/
def NumsAt (w : World) (kd : IntKind) (b off : Nat) (f : Nat → Int) (n : Nat) : Prop := ∀ i, i < n → w.cell? ⟨b, off + i, none⟩ = some (.int kd (f i))
theorem NumsAt.later {w W : World} {kd : IntKind} {b off n : Nat} {f : Nat → Int} (h : NumsAt w kd b off f n) (hb : Below w.heap.size w W) (hlt : b < w.heap.size) : NumsAt W kd b off f n := fun i hi => (hb.cell (p := ⟨b, off + i, none⟩) hlt).trans (h i hi)
theorem NumsAt.of {w : World} {kd : IntKind} {g n : Nat} {f : Nat → Int} {t : TypeId} (h : w.heap[g]? = some (.cells (rowN kd f n) t)) : NumsAt w kd g 0 f n := fun i hi => by rw [Nat.zero_add]; exact cell_rowN h hi
theorem blk_at {w : World} {g : Nat} {f : Nat → Int} {t : TypeId} (h : w.heap[g]? = some (.cells (blk f) t)) : NumsAt w .u8 g 0 f 1024 := NumsAt.of (n := 1024) h
theorem size77 : (Tryz.prog.info? 47).map (·.size) = some 1024 := by kernel_rfl
theorem zero77 : ∀ w, (zeroValue 47).run Tryz.prog w = .ok (.agg (blk nought)) w := (zero_of_info (show (Tryz.prog.info? 47).map (fun i => (i.zero, i.size)) = some (some (.agg (blk nought)), 1024) by kernel_rfl)).1
theorem blk_size (f : Nat → Int) : (blk f).size = 1024 := rowN_size _ _ _
/-- A block is loaded from the middle of a row. -/
theorem loadB {w : World} {b off : Nat} {f : Nat → Int} (h : NumsAt w .u8 b off f 1024) : (Instr.loadAt 47 (.pointer (some ⟨b, off, none⟩))).run Tryz.prog w = .ok (.agg (blk f)) w := by
  have hr : w.rangeAt b off (blk f).toList := fun j v hv => by
    have hj : j < 1024 := by
      have := (List.getElem?_eq_some_iff.1 hv).1
      rw [Array.length_toList, blk_size] at this
      exact this
    rw [Array.getElem?_toList, show (blk f)[j]? = some (.int .u8 (f j)) from rowN_get _ _ _ _ hj] at hv
    injection hv with hv
    rw [← hv]
    exact h j hj
  have := run_loadAt_mid (P := Tryz.prog) w b off 47 (blk f).toList _ hr Tryz.underlying47 rfl (by rw [Array.length_toList, blk_size]; exact size77)
  rwa [Array.toArray_toList] at this
section
variable {ops : Array Oper} {rest : List Oper} {o : Oper} {a : Act} {w : World} {Q : Exit → Act → World → Prop}
theorem wpList_ldB (hw : Region.wanted o (yielded ops a.tmps) = true) (x : Operand) (ho : o.op = .load 47 x) (b off : Nat) (f : Nat → Int) (hx : a.eval x = .pointer (some ⟨b, off, none⟩)) (hg : NumsAt w .u8 b off f 1024)
    (h : wpList Tryz.prog ops Q rest (a.put o.dst (.agg (blk f))) w) : wpList Tryz.prog ops Q (o :: rest) a w := by
  unfold wpList
  rw [if_pos hw]
  refine .inl ?_
  unfold Oper.wp execOp
  simp only [ho, hx, loadB hg, Sem.run_bind, Result.andThen_ok, Sem.run_pure]
  exact h
theorem wpList_stB (hgd : o.guard = none) (x y : Operand) (ho : o.op = .store 47 x y) (g : Nat) (f f0 : Nat → Int) (t : TypeId) (hx : a.eval x = .pointer (some ⟨g, 0, none⟩)) (hy : a.eval y = .agg (blk f)) (hg : w.heap[g]? = some (.cells (blk f0) t))
    (h : wpList Tryz.prog ops Q rest (a.put o.dst undef) (w.setRow g (blk f))) : wpList Tryz.prog ops Q (o :: rest) a w :=
  wpList_stR 47 hgd x y ho g (blk f) (blk f0) t (by rw [blk_size]; exact size77) (by rw [blk_size, blk_size]) (rowN_one _ _ _) hx hy hg h
/-- A block is stored into a new row of its own. -/
theorem wpList_stBn (hgd : o.guard = none) (x y : Operand) (ho : o.op = .store 47 x y) (g : Nat) (f f0 : Nat → Int) (t : TypeId) (hx : a.eval x = .pointer (some ⟨g, 0, none⟩)) (hgw : g = w.heap.size) (hy : a.eval y = .agg (blk f))
    (h : wpList Tryz.prog ops Q rest (a.put o.dst undef) (w.alloc (.cells (blk f) t))) : wpList Tryz.prog ops Q (o :: rest) a (w.alloc (.cells (blk f0) t)) :=
  wpList_stNew 47 hgd x y ho g (blk f) (blk f0) t (by rw [blk_size]; exact size77) (by rw [blk_size, blk_size]) (rowN_one _ _ _) hx hgw hy h
end
theorem retB {fn : Func} {p : Tmp} {R : Ending → World → Prop} {a : Act} {w : World} (h : fn.results = #[.cell p 47]) (g : Nat) (f : Nat → Int) (t : TypeId) (hp : a.tmps.getD p undef = .pointer (some ⟨g, 0, none⟩)) (hg : w.heap[g]? = some (.cells (blk f) t)) (hdf : a.defers = []) (hR : R (.returned (.agg (blk f))) w) : bodyPost Tryz.prog fn R .ret a w :=
  retR Tryz.underlying47 rfl h g (blk f) t (by rw [blk_size]; exact size77) hp hg hdf hR
end Go.Proofs.YtiadlcjdpbkbkaaGreat
/- Rows of bytes held against each other: equal just where every byte is; of any length. -/
namespace Go.Proofs.YtiadlcjdpbkbkaaGreat
open Go.RowKit Go.Maps
def sameN (m : Nat) (f g : Nat → Int) : Bool := (List.range m).all fun i => f i == g i
theorem sameN_iff (m : Nat) (f g : Nat → Int) : sameN m f g = true ↔ ∀ i, i < m → f i = g i := by
  simp [sameN, List.all_eq_true, List.mem_range]
theorem sameN_self (m : Nat) (f : Nat → Int) : sameN m f f = true := (sameN_iff m f f).2 fun _ _ => rfl
theorem part5 (f : Nat → Int) (m i : Nat) (hi : i < m) (w : World) : (part 5 (rowN .u8 f m) (i * 1)).run Tryz.prog w = .ok (.int .u8 (f i)) w := by
  have hb := rowN_get .u8 f m i hi
  simp [part, Tryz.isAgg5, hb]
theorem eachN (d m : Nat) (f g : Nat → Int) (w : World) : ∀ l : List Nat, (∀ i, i ∈ l → i < m) →
    (forIn (m := Sem) l ((none : Option Bool), ()) fun i _ => do
            let x ← part 5 (rowN .u8 f m) (i * 1)
            let y ← part 5 (rowN .u8 g m) (i * 1)
            let b ← Op.equalIn (d + 1) 5 x y
            if (!b) = true then pure (ForInStep.done (some false, ())) else pure (ForInStep.yield (none, ()))).run Tryz.prog w
      = .ok ((if l.all (fun i => f i == g i) then none else some false), ()) w
  | [], _ => by simp
  | i :: l, h => by
    have h1 := part5 f m i (h i (by simp)) w
    have h2 := part5 g m i (h i (by simp)) w
    have ih := eachN d m f g w l fun j hj => h j (by simp [hj])
    have he := run_equalIn_int (P := Tryz.prog) w d 5 .u8 .u8 (f i) (g i) Tryz.underlying5
    simp only [List.forIn_cons, Sem.run_bind, h1, h2, he, Result.andThen_ok, List.all_cons]
    by_cases e : f i = g i
    · simp only [e, beq_self_eq_true, Bool.not_true, Bool.false_eq_true, if_false, Sem.run_pure, Result.andThen_ok, Bool.true_and]
      exact ih
    · have e' : (f i == g i) = false := by simp [e]
      simp [e']
theorem eqIn (d : Nat) {t : TypeId} {m : Nat} (hu : Tryz.prog.underlying t = some (.array m 5)) (f g : Nat → Int) (w : World) : (Op.equalIn (d + 1 + 1) t (.agg (rowN .u8 f m)) (.agg (rowN .u8 g m))).run Tryz.prog w = .ok (sameN m f g) w := by
  have key := eachN d m f g w (List.range' 0 [:m].size) (fun i hi => by simpa [Std.Legacy.Range.size] using hi)
  rw [Op.equalIn]
  simp only [Sem.run_bind, run_underlying hu, Result.andThen_ok]
  rw [show (sizeOf 5).run Tryz.prog w = .ok 1 w by simp [go_sem]]
  simp only [Result.andThen_ok, Std.Legacy.Range.forIn_eq_forIn_range']
  refine (congrArg (fun r => Result.andThen r _) key).trans ?_
  have hr : List.range' 0 [:m].size = List.range m := by simp [Std.Legacy.Range.size, List.range_eq_range']
  rw [hr]
  show Result.andThen (Result.ok ((if sameN m f g = true then none else some false), ()) w) _ = _
  cases sameN m f g <;> simp
section
variable {ops : Array Oper} {rest : List Oper} {o : Oper} {a : Act} {w : World} {Q : Exit → Act → World → Prop}
theorem exec_mv {x : Operand} {v : Value} {W : World} (ho : o.op = .move x) (hx : a.eval x = v) : (execOp a.eval o).run Tryz.prog W = .ok (.value v) W := by simp [execOp, ho, hx]
theorem exec_eqN {t t' : TypeId} {m : Nat} {W : World} (hu : Tryz.prog.underlying t = some (.array m 5)) (hG : Tryz.prog.eqGuardType Tryz.prog.depth t = false) (x y : Operand) (ho : o.op = .binOp .eql t x y t') (f g : Nat → Int) (b : Bool) (hx : a.eval x = .agg (rowN .u8 f m)) (hy : a.eval y = .agg (rowN .u8 g m)) (hb : sameN m f g = b) : (execOp a.eval o).run Tryz.prog W = .ok (.value (.bool b)) W := by
  have e : (binOp .eql t (.agg (rowN .u8 f m)) (.agg (rowN .u8 g m))).run Tryz.prog W = .ok (.bool b) W := by
    have h := eqIn 9998 hu f g W
    rw [hb] at h
    generalize rowN .u8 f m = F at *
    generalize rowN .u8 g m = G at *
    simp only [binOp, Op.equal, Op.maxDepth, Sem.run_bind, h, Result.andThen_ok, Sem.run_pure]
  unfold execOp
  simp only [ho, hx, hy, Sem.run_bind, run_eqGuard_agg W _ t _ _ _ _ hG, e, Result.andThen_ok, Sem.run_pure]
theorem exec_neN {t t' : TypeId} {m : Nat} {W : World} (hu : Tryz.prog.underlying t = some (.array m 5)) (hG : Tryz.prog.eqGuardType Tryz.prog.depth t = false) (x y : Operand) (ho : o.op = .binOp .neq t x y t') (f g : Nat → Int) (b : Bool) (hx : a.eval x = .agg (rowN .u8 f m)) (hy : a.eval y = .agg (rowN .u8 g m)) (hb : sameN m f g = b) : (execOp a.eval o).run Tryz.prog W = .ok (.value (.bool (!b))) W := by
  have e : (binOp .neq t (.agg (rowN .u8 f m)) (.agg (rowN .u8 g m))).run Tryz.prog W = .ok (.bool (!b)) W := by
    have h := eqIn 9998 hu f g W
    rw [hb] at h
    generalize rowN .u8 f m = F at *
    generalize rowN .u8 g m = G at *
    simp only [binOp, Op.equal, Op.maxDepth, Sem.run_bind, h, Result.andThen_ok, Sem.run_pure]
  unfold execOp
  simp only [ho, hx, hy, Sem.run_bind, run_eqGuard_agg W _ t _ _ _ _ hG, e, Result.andThen_ok, Sem.run_pure]
theorem wpList_eqN {t t' : TypeId} {m : Nat} (hu : Tryz.prog.underlying t = some (.array m 5)) (hG : Tryz.prog.eqGuardType Tryz.prog.depth t = false) (hw : Region.wanted o (yielded ops a.tmps) = true) (x y : Operand) (ho : o.op = .binOp .eql t x y t') (f g : Nat → Int) (b : Bool) (hx : a.eval x = .agg (rowN .u8 f m)) (hy : a.eval y = .agg (rowN .u8 g m)) (hb : sameN m f g = b)
    (h : wpList Tryz.prog ops Q rest (a.put o.dst (.bool b)) w) : wpList Tryz.prog ops Q (o :: rest) a w :=
  BigFrame.wpList_want hw fun _ hK => by
    have e : (binOp .eql t (.agg (rowN .u8 f m)) (.agg (rowN .u8 g m))).run Tryz.prog w = .ok (.bool b) w := by
      have h := eqIn 9998 hu f g w
      rw [hb] at h
      generalize rowN .u8 f m = F at *
      generalize rowN .u8 g m = G at *
      simp only [binOp, Op.equal, Op.maxDepth, Sem.run_bind, h, Result.andThen_ok, Sem.run_pure]
    unfold Oper.wp execOp
    simp only [ho, hx, hy, Sem.run_bind, run_eqGuard_agg w _ t _ _ _ _ hG, e, Result.andThen_ok, Sem.run_pure]
    exact hK _ _ h
theorem wpList_neN {t t' : TypeId} {m : Nat} (hu : Tryz.prog.underlying t = some (.array m 5)) (hG : Tryz.prog.eqGuardType Tryz.prog.depth t = false) (hw : Region.wanted o (yielded ops a.tmps) = true) (x y : Operand) (ho : o.op = .binOp .neq t x y t') (f g : Nat → Int) (b : Bool) (hx : a.eval x = .agg (rowN .u8 f m)) (hy : a.eval y = .agg (rowN .u8 g m)) (hb : sameN m f g = b)
    (h : wpList Tryz.prog ops Q rest (a.put o.dst (.bool (!b))) w) : wpList Tryz.prog ops Q (o :: rest) a w :=
  BigFrame.wpList_want hw fun _ hK => by
    have e : (binOp .neq t (.agg (rowN .u8 f m)) (.agg (rowN .u8 g m))).run Tryz.prog w = .ok (.bool (!b)) w := by
      have h := eqIn 9998 hu f g w
      rw [hb] at h
      generalize rowN .u8 f m = F at *
      generalize rowN .u8 g m = G at *
      simp only [binOp, Op.equal, Op.maxDepth, Sem.run_bind, h, Result.andThen_ok, Sem.run_pure]
    unfold Oper.wp execOp
    simp only [ho, hx, hy, Sem.run_bind, run_eqGuard_agg w _ t _ _ _ _ hG, e, Result.andThen_ok, Sem.run_pure]
    exact hK _ _ h
/-- The row of noughts is made. -/
theorem wpList_zeroN {t : TypeId} {m : Nat} (hu : Tryz.prog.underlying t = some (.array m 5)) (hz : ∀ w, (zeroValue t).run Tryz.prog w = .ok (.agg (rowN .u8 nought m)) w) (hw : Region.wanted o (yielded ops a.tmps) = true) (ho : o.op = .build t #[])
    (h : wpList Tryz.prog ops Q rest (a.put o.dst (.agg (rowN .u8 nought m))) w) : wpList Tryz.prog ops Q (o :: rest) a w :=
  BigFrame.wpList_want hw fun _ hK => by
    unfold Oper.wp
    rw [show (execOp a.eval o).run Tryz.prog w = .ok (.value (.agg (rowN .u8 nought m))) w by
      generalize rowN .u8 nought m = Z at *
      simp [execOp, ho, Instr.build, hz, run_underlying hu, Instr.fill, Value.cells]]
    exact hK _ _ h
end
end Go.Proofs.YtiadlcjdpbkbkaaGreat
/- Names of entries: what may be one, by the program and by the document; any text. -/
namespace Go.Proofs.YtiadlcjdpbkbkaaGreat
open Go.RowKit Go.Maps
theorem bel_al {w u : World} (h : Below w.heap.size w u) (o : Obj) : Below w.heap.size w (u.alloc o) := h.alloc h.size o
theorem below_setRow {B : Nat} {a w : World} (h : Below B a w) {g : Nat} (hg : B ≤ g) (cs : Array Value) : Below B a (w.setRow g cs) :=
  h.trans ⟨rfl, rfl, rfl, by simp, fun k hk => setRow_other w g k cs (by omega)⟩
theorem wrap_u16 (n : Int) : IntKind.u16.wrap n = n % 65536 := by simp [IntKind.wrap, IntKind.bits, IntKind.signed]
/-- The byte at a place. -/
def byt (s : ByteArray) (i : Nat) : Int := if h : i < s.size then ((s[i].toNat : Nat) : Int) else 0
theorem byt_bd (s : ByteArray) (i : Nat) : 0 ≤ byt s i ∧ byt s i ≤ 255 := by
  unfold byt
  split
  · rename_i h
    have := s[i].toNat_lt
    omega
  · omega
/-- A byte that no name has, among the first k. -/
def oddB (s : ByteArray) (k : Nat) : Bool := (List.range k).any fun i => byt s i == 0 || byt s i == 47
theorem oddB_succ (s : ByteArray) (k : Nat) : oddB s (k + 1) = (oddB s k || (byt s k == 0 || byt s k == 47)) := by simp [oddB, List.range_succ]
theorem oddB_later {s : ByteArray} {k n : Nat} (h : oddB s k = true) (hk : k ≤ n) : oddB s n = true := by
  unfold oddB at *
  rw [List.any_eq_true] at *
  obtain ⟨i, hi, hb⟩ := h
  exact ⟨i, List.mem_range.2 (by have := List.mem_range.1 hi; omega), hb⟩
theorem oddB_false {s : ByteArray} {k : Nat} (h : oddB s k = false) (i : Nat) (hi : i < k) : ¬ byt s i = 0 ∧ ¬ byt s i = 47 := by
  unfold oddB at h
  rw [List.any_eq_false] at h
  have := h i (List.mem_range.2 hi)
  simp at this
  exact this
/-- What Name answers. -/
def nmV (s : ByteArray) : Int := if s.size = 0 then 4 else if oddB s s.size then 4 else if 14 < s.size then 12 else 0
theorem nm_empty {s : ByteArray} (h : s.size = 0) : s = ⟨#[]⟩ := by
  apply ByteArray.ext
  exact Array.eq_empty_of_size_eq_zero h
theorem nm_list {s : ByteArray} (h : 0 < s.size) : s.toList.isEmpty = false := by
  rw [ByteArray.toList_eq]
  have : s.data.toList.length = s.size := by cases s; rfl
  cases hq : s.data.toList with
  | nil => rw [hq] at this; simp at this; omega
  | cons a t => rfl
theorem idx_str (s : ByteArray) (i : Nat) (h : i < s.size) (u : World) : (Instr.index 9 (.string s) (.int .i64 (i : Int))).run Tryz.prog u = .ok (.int .u8 (byt s i)) u := by
  rw [run_index_string (P := Tryz.prog) u 9 s .i64 (i : Int) Tryz.underlying9, dif_pos (by omega)]
  simp [byt, h]
set_option maxRecDepth 20000 in
set_option maxHeartbeats 1000000 in
theorem name_any (s : ByteArray) (w : World) (hs : s.size ≤ 9223372036854775807) :
    Calls Tryz.prog 138 #[.string s] w fun e w' => e = .returned (.int .i64 (nmV s)) ∧ w' = w := by
  by_cases h0 : s.size = 0
  · rw [show nmV s = 4 by unfold nmV; rw [if_pos h0]]
    rw [nm_empty h0]
    go_enter Tryz.func138, Tryz.ntmps138
    go_wp2
    go_ret
    exact ⟨rfl, rfl⟩
  have h3 := nm_list (s := s) (by omega)
  have HV : Hid (nmV s = if oddB s s.size then 4 else if 14 < s.size then 12 else 0) := by show nmV s = _; unfold nmV; rw [if_neg h0]
  go_enter Tryz.func138, Tryz.ntmps138
  go_wp2
  go_loopw [8] (fun s3 wx => wx = w ∧ ∃ i : Nat, i ≤ s.size ∧ Hid (oddB s i = false) ∧ s3 = .int .i64 i) (fun s3 _ => s.size - (intOf s3).toNat)
  case atStart => exact ⟨rfl, 0, by omega, rfl, rfl⟩
  case round =>
    obtain ⟨rfl, i, hi, HO, rfl⟩ := hrel
    by_cases hi2 : (i : Int) < (s.size : Int)
    · have hr := idx_str s i (by omega)
      have HS : Hid _ := oddB_succ s i
      have HL : Hid (oddB s (i + 1) = true → oddB s s.size = true) := fun h => oddB_later h (by omega)
      generalize byt s i = q at *
      by_cases b0 : q = 0
      · subst b0
        have H4 : Hid (nmV s = 4) := by show nmV s = 4; rw [HV.out, if_pos (HL.out (by rw [HS.out]; simp))]
        clear HS
        go_wp2
        go_ret
        exact ⟨by rw [H4.out]; rfl, rfl⟩
      by_cases b1 : q = 47
      · subst b1
        have H4 : Hid (nmV s = 4) := by show nmV s = 4; rw [HV.out, if_pos (HL.out (by rw [HS.out]; simp))]
        clear HS
        go_wp2
        go_ret
        exact ⟨by rw [H4.out]; rfl, rfl⟩
      have g1 : ((q : Int) == 0) = false := beq_eq_false_iff_ne.2 b0
      have g2 : ((q : Int) == 47) = false := beq_eq_false_iff_ne.2 b1
      have HO2 : Hid (oddB s (i + 1) = false) := by show oddB s (i + 1) = false; rw [HS.out, HO.out, g1, g2]; rfl
      clear HS HL
      go_wp2
      exact ⟨⟨trivial, i + 1, by omega, HO2, by go_num⟩, by simp [intOf]; omega⟩
    · obtain rfl : i = s.size := by omega
      have hv : nmV s = if 14 < s.size then 12 else 0 := by rw [HV.out, HO.out]; rfl
      by_cases h14 : 14 < s.size
      · have g1 : decide ((14 : Int) < (s.size : Int)) = true := decide_eq_true (by omega)
        rw [if_pos h14] at hv
        have HV2 : Hid _ := hv
        clear hv
        go_wp2
        go_ret
        exact ⟨by rw [HV2.out]; rfl, rfl⟩
      · have g1 : decide ((14 : Int) < (s.size : Int)) = false := decide_eq_false (by omega)
        rw [if_neg h14] at hv
        have HV2 : Hid _ := hv
        clear hv
        go_wp2
        go_ret
        exact ⟨by rw [HV2.out]; rfl, rfl⟩
end Go.Proofs.YtiadlcjdpbkbkaaGreat
/- An entry's sixteen bytes, by the document; whatever the entry. -/
namespace Go.Proofs.YtiadlcjdpbkbkaaGreat
open Go.RowKit Go.Maps
theorem size204 : (Tryz.prog.info? 171).map (·.size) = some 16 := by kernel_rfl
theorem zero204 : ∀ w, (zeroValue 171).run Tryz.prog w = .ok (.agg (rowN .u8 nought 16)) w := (zero_of_info (show (Tryz.prog.info? 171).map (fun i => (i.zero, i.size)) = some (some (.agg (rowN .u8 nought 16)), 16) by kernel_rfl)).1
theorem retCT {fn : Func} {p u : Tmp} {ty : TypeId} {R : Ending → World → Prop} {a : Act} {w : World} {d : TypeDesc} (hu : Tryz.prog.underlying ty = some d) (hd : d.isRow = true) (h : fn.results = #[.cell p ty, .tmp u]) (g : Nat) (cs : Array Value) (t : TypeId) (hi : (Tryz.prog.info? ty).map (·.size) = some cs.size)
    (hp : a.tmps.getD p undef = .pointer (some ⟨g, 0, none⟩)) (hg : w.heap[g]? = some (.cells cs t))
    (hdf : a.defers = []) (hR : R (.returned (.tuple #[.agg cs, a.tmps.getD u undef])) w) : bodyPost Tryz.prog fn R .ret a w := by
  have hl : (loadVar ty ⟨g, 0, none⟩).run Tryz.prog w = .ok (.agg cs) w := run_loadVar_row w g t ty cs (0, 0) d hg hu (by cases d <;> first | rfl | cases hd) hi
  refine bodyPost_ret ?_ hdf hR
  rw [results_cell_tmp h]
  rw [hp]
  simp [asAddr, hl]
/-- The bytes of an entry. -/
def encP (i : Int) (s : ByteArray) : Nat → Int := fun j => if j = 0 then i % 256 else if j = 1 then i / 256 else byt s (j - 2)
/-- Whether an entry may be. -/
def chV (i : Int) (s : ByteArray) : Int := if i = 0 then (if s.size = 0 then 0 else 4) else nmV s
/-- What is written. -/
def encF (i : Int) (s : ByteArray) : Nat → Int := if chV i s = 0 then encP i s else nought
theorem encF_ok {i : Int} {s : ByteArray} (h : chV i s = 0) : encF i s = encP i s := if_pos h
theorem encF_bad {i : Int} {s : ByteArray} (h : ¬ chV i s = 0) : encF i s = nought := if_neg h
theorem byt_none (i : Nat) : byt ⟨#[]⟩ i = 0 := by unfold byt; rw [dif_neg]; exact Nat.not_lt_zero i
theorem encP_free : encP 0 ⟨#[]⟩ = nought := by
  funext j
  unfold encP nought
  split
  · rfl
  · split
    · rfl
    · exact byt_none _
theorem nmV_size {s : ByteArray} (h : nmV s = 0) : 0 < s.size ∧ s.size ≤ 14 ∧ oddB s s.size = false := by
  unfold nmV at h
  split at h
  · cases h
  · split at h
    · cases h
    · split at h
      · cases h
      · rename_i h1 h2 h3
        exact ⟨by omega, by omega, by simpa using h2⟩
structure En3 (w W : World) (i : Int) (s : ByteArray) (e : Nat → Int) : Prop where
  ent : W.heap[w.heap.size]? = some (.cells #[.int .u16 i, .string s] 178)
  res : W.heap[w.heap.size + 1]? = some (.cells (rowN .u8 nought 16) 171)
  row : W.heap[w.heap.size + 2]? = some (.cells (rowN .u8 e 16) 171)
  bel : Below w.heap.size w W
theorem En3.set {w W : World} {i : Int} {s : ByteArray} {e : Nat → Int} (h : En3 w W i s e) (j : Nat) (x : Int) : En3 w (W.setCell ⟨w.heap.size + 2, j, none⟩ (.int .u8 x)) i s (updN e j x) := by
  have hF := Fr.setCell W (w.heap.size + 2) j (.int .u8 x)
  exact ⟨(hF.block _ (Array.getElem?_eq_some_iff.1 h.ent).1 (by omega)).trans h.ent, (hF.block _ (Array.getElem?_eq_some_iff.1 h.res).1 (by omega)).trans h.res, setCell_rowN h.row j x, h.bel.trans (hF.below (fun j q => by omega) h.bel.size)⟩
theorem En3.start (w : World) (i : Int) (s : ByteArray) : En3 w (((w.alloc (.cells #[.int .u16 i, .string s] 178)).alloc (.cells (rowN .u8 nought 16) 171)).alloc (.cells (rowN .u8 nought 16) 171)) i s nought := by
  refine ⟨heap_kept (heap_kept (heap_alloc_new _ _) (below_new _ _)) (below_new _ _), heap_kept (heap_two _ _ _) (below_new _ _), ?_, bel_al (bel_al (below_new _ _) _) _⟩
  have := heap_alloc_new ((w.alloc (.cells #[.int .u16 i, .string s] 178)).alloc (.cells (rowN .u8 nought 16) 171)) (.cells (rowN .u8 nought 16) 171)
  simpa using this
theorem En3.start2 (w : World) (i : Int) (s : ByteArray) (x y : Int) : En3 w (((w.alloc (.cells #[.int .u16 i, .string s] 178)).alloc (.cells (rowN .u8 nought 16) 171)).alloc (.cells (((rowN .u8 nought 16).setIfInBounds 0 (.int .u8 x)).setIfInBounds 1 (.int .u8 y)) 171)) i s (updN (updN nought 0 x) 1 y) := by
  rw [rowN_set, rowN_set]
  refine ⟨heap_kept (heap_kept (heap_alloc_new _ _) (below_new _ _)) (below_new _ _), heap_kept (heap_two _ _ _) (below_new _ _), ?_, bel_al (bel_al (below_new _ _) _) _⟩
  have := heap_alloc_new ((w.alloc (.cells #[.int .u16 i, .string s] 178)).alloc (.cells (rowN .u8 nought 16) 171)) (.cells (rowN .u8 (updN (updN nought 0 x) 1 y) 16) 171)
  simpa using this
theorem chV_ok {i : Int} {s : ByteArray} (h : chV i s = 0) : (i = 0 ∧ s = ⟨#[]⟩) ∨ (¬ i = 0 ∧ nmV s = 0) := by
  unfold chV at h
  split at h
  · rename_i h0
    split at h
    · rename_i h1; exact .inl ⟨h0, nm_empty h1⟩
    · cases h
  · rename_i h0; exact .inr ⟨h0, h⟩
end Go.Proofs.YtiadlcjdpbkbkaaGreat
/- A log that lives and may go on, its disk's state hidden but for how much was done to it; the example's geometry; a shelf as a row. -/
namespace Go.Proofs.YtiadlcjdpbkbkaaGreat
open Go.RowKit Go.Maps
theorem Hid.mk' {p : Prop} (h : p) : Hid p := h
structure Lay where
  b : Int
  l : Int
  i : Int
  logAt : Int
  nodeAt : Int
  nodeBlocks : Int
  bitsAt : Int
  bitsBlocks : Int
  dataAt : Int
def layRow (y : Lay) : Array Value := #[.int .i64 y.b, .int .i64 y.l, .int .i64 y.i, .int .i64 y.logAt, .int .i64 y.nodeAt, .int .i64 y.nodeBlocks, .int .i64 y.bitsAt, .int .i64 y.bitsBlocks, .int .i64 y.dataAt]
def Byt (f : Nat → Int) : Prop := ∀ i, 0 ≤ f i ∧ f i ≤ 255
def lay0 : Lay := ⟨0, 0, 0, 0, 0, 0, 0, 0, 0⟩
theorem lay_info (y : Lay) : (Tryz.prog.info? 43).map (·.size) = some (layRow y).size := (by show _ = some 9; kernel_rfl)
theorem lay_two (y z : Lay) : (layRow y).size = (layRow z).size := rfl
theorem lay_one (y : Lay) : (layRow y).all (·.oneCell') = true := by simp [layRow, Value.oneCell']
theorem zeroLay : ∀ w, (zeroValue 43).run Tryz.prog w = .ok (.agg (layRow lay0)) w := (zero_of_info (show (Tryz.prog.info? 43).map (fun i => (i.zero, i.size)) = some (some (.agg (layRow lay0)), 9) by kernel_rfl)).1
def geoRow (b l i : Int) : Array Value := #[.int .i64 b, .int .i64 l, .int .i64 i]
theorem geo_info (b l i : Int) : (Tryz.prog.info? 41).map (·.size) = some (geoRow b l i).size := by show _ = some 3; kernel_rfl
theorem blkW (f : Nat → Int) : Go.Proofs.YtiadlcjdpbkbkaaGreatD.blk f = blk f := by unfold Go.Proofs.YtiadlcjdpbkbkaaGreatD.blk blk rowN; simp
theorem wpList_ex {ops : Array Oper} {rest : List Oper} {o : Oper} {a : Act} {w w' : World} {v : Value} {Q : Exit → Act → World → Prop} (hw : Region.wanted o (yielded ops a.tmps) = true) (hr : (execOp a.eval o).run Tryz.prog w = .ok (.value v) w') (h : wpList Tryz.prog ops Q rest (a.put o.dst v) w') : wpList Tryz.prog ops Q (o :: rest) a w := by
  unfold wpList
  rw [if_pos hw]
  refine .inl ?_
  unfold Oper.wp
  rw [hr]
  exact h
theorem fold_set (b : Nat) : ∀ (l : List Value) (k : Nat) (cs : Array Value), b + k + l.length ≤ cs.size → ∀ j,
    ((l.zipIdx k).foldl (fun (cs : Array Value) (p : Value × Nat) => cs.setIfInBounds (b + p.2) p.1) cs)[j]? = if b + k ≤ j ∧ j < b + k + l.length then l[j - (b + k)]? else cs[j]?
  | [], k, cs, _, j => by simp; intro h1 h2; omega
  | v :: l, k, cs, h, j => by
    simp only [List.length_cons] at h
    rw [List.zipIdx_cons, List.foldl_cons, fold_set b l (k + 1) _ (by simp; omega) j]
    by_cases h1 : b + (k + 1) ≤ j ∧ j < b + (k + 1) + l.length
    · rw [if_pos h1, if_pos (by simp only [List.length_cons]; omega), show j - (b + k) = (j - (b + (k + 1))) + 1 by omega, List.getElem?_cons_succ]
    · rw [if_neg h1, Array.getElem?_setIfInBounds]
      by_cases h2 : b + k = j
      · subst h2; rw [if_pos rfl, if_pos (by omega), if_pos (by simp only [List.length_cons]; omega), Nat.sub_self]; rfl
      · rw [if_neg h2, if_neg (by simp only [List.length_cons]; omega)]
theorem fold_over (b : Nat) (c cs : Array Value) (h : b + c.size ≤ cs.size) :
    Array.foldl (fun (cs : Array Value) (p : Value × Nat) => cs.setIfInBounds (b + p.2) p.1) cs c.zipIdx = (cs.toList.take b ++ (c.toList ++ cs.toList.drop (b + c.size))).toArray := by
  apply Array.ext_getElem?
  intro j
  rw [← Array.foldl_toList, Array.toList_zipIdx, fold_set b c.toList 0 _ (by rw [Array.length_toList]; omega), Array.length_toList]
  rw [show ((cs.toList.take b ++ (c.toList ++ cs.toList.drop (b + c.size))).toArray)[j]? = (cs.toList.take b ++ (c.toList ++ cs.toList.drop (b + c.size)))[j]? from List.getElem?_toArray]
  by_cases h1 : j < b
  · rw [if_neg (by omega), List.getElem?_append_left (by rw [List.length_take, Array.length_toList]; omega), List.getElem?_take_of_lt h1, Array.getElem?_toList]
  · rw [List.getElem?_append_right (by rw [List.length_take, Array.length_toList]; omega), List.length_take, Array.length_toList, Nat.min_eq_left (by omega)]
    by_cases h2 : j < b + c.size
    · rw [if_pos (by omega), List.getElem?_append_left (by rw [Array.length_toList]; omega), Nat.add_zero]
    · rw [if_neg (by omega), List.getElem?_append_right (by rw [Array.length_toList]; omega), Array.length_toList, List.getElem?_drop, Array.getElem?_toList, show b + c.size + (j - b - c.size) = j by omega]
theorem blk_info (f : Nat → Int) : (Tryz.prog.info? 47).map (·.size) = some (blk f).size := by rw [blk_size]; exact size77
theorem blk_one (f : Nat → Int) : (blk f).all (·.oneCell') = true := rowN_one _ _ _
theorem blk_two (f g : Nat → Int) : (blk f).size = (blk g).size := by rw [blk_size, blk_size]
theorem blk_got (f : Nat → Int) (j : Nat) (h : j < 1024) : (blk f)[j]? = some (.int .u8 (f j)) := rowN_get _ _ _ _ h
section
variable {ops : Array Oper} {rest : List Oper} {o : Oper} {a : Act} {w W W' : World} {Q : Exit → Act → World → Prop}
theorem exec_stR (ty : TypeId) (x y : Operand) (ho : o.op = .store ty x y) (g : Nat) {cs c0 : Array Value} (hx : a.eval x = .pointer (some ⟨g, 0, none⟩)) (hy : a.eval y = .agg cs) {t : TypeId} (hg : w.heap[g]? = some (.cells c0 t)) (hi : (Tryz.prog.info? ty).map (·.size) = some cs.size) (hs : c0.size = cs.size) (h1 : cs.all (·.oneCell') = true) : (execOp a.eval o).run Tryz.prog w = .ok .skip (w.setRow g cs) := by
  unfold execOp
  simp only [ho, hx, hy, Instr.storeAt, Instr.sureAddr, Sem.run_bind, Sem.run_pure, Result.andThen_ok, run_storeVar_row w g t ty c0 cs hg hi hs h1]
theorem wpOrd_do {ops : Array Oper} {Q : Exit → Act → World → Prop} {S : World → Prop} {r : List (Bool × Oper)} (hw : Region.wanted o (yielded ops a.tmps) = true) (hr : (execOp a.eval o).run Tryz.prog W = .ok .skip W') (hS : S W') (h : wpOrd Tryz.prog ops Q S r (a.put o.dst undef) W') : wpOrd Tryz.prog ops Q S ((false, o) :: r) a W := by
  simp only [wpOrd, hw, if_true]
  unfold Oper.wp
  rw [hr]
  exact ⟨hS, h⟩
end
section
variable {ops : Array Oper} {rest : List Oper} {a : Act} {w : World} {Q : Exit → Act → World → Prop} {dst : Option Tmp} {ty : TypeId} {pos : String} {aft : Array Edge} {gd : Option (Nat × Bool)} {x : Operand}
theorem isFdR (t : TypeId) {n : Nat} (h : wpList Tryz.prog ops Q (⟨dst, .field t x n, ty, pos, aft, gd⟩ :: rest) a w) : wpList Tryz.prog ops Q (⟨dst, .field t x n, ty, pos, aft, gd⟩ :: rest) a w := h
end
def shL (a b : Int) (f : Nat → Int) : List Value := .int .i64 a :: .int .i64 b :: (blk f).toList
def shRow (a b : Int) (f : Nat → Int) : Array Value := (shL a b f).toArray
theorem shRow_size (a b : Int) (f : Nat → Int) : (shRow a b f).size = 1026 := by unfold shRow shL; rw [List.size_toArray, List.length_cons, List.length_cons, Array.length_toList, blk_size]
theorem sh_two (a b a' b' : Int) (f f' : Nat → Int) : (shRow a b f).size = (shRow a' b' f').size := by rw [shRow_size, shRow_size]
theorem sh_one (a b : Int) (f : Nat → Int) : (shRow a b f).all (·.oneCell') = true := by
  rw [Array.all_eq_true_iff_forall_mem]
  intro v hv
  unfold shRow shL at hv
  simp only [List.mem_toArray, List.mem_cons, Array.mem_toList_iff] at hv
  rcases hv with rfl | rfl | hv
  · rfl
  · rfl
  · exact Array.all_eq_true_iff_forall_mem.1 (rowN_one _ _ _) v hv
theorem fill_sh (a b : Int) (f : Nat → Int) (Z : Array Value) (hZ : Z.size = 1026) (place : Nat → Option (Nat × Nat)) (h0 : place 0 = some (0, 1)) (h1 : place 1 = some (1, 1)) (h2 : place 2 = some (2, 1024)) :
    Instr.fill place Z [(0, .int .i64 a), (1, .int .i64 b), (2, .agg (blk f))] = some (shRow a b f) := by
  have hb := blk_size f
  have hl : Z.toList.length = 1026 := by rw [Array.length_toList, hZ]
  obtain ⟨z0, z1, r, hz, hr⟩ : ∃ z0 z1 r, Z.toList = z0 :: z1 :: r ∧ r.length = 1024 := by
    match hz : Z.toList with
    | [] => rw [hz, List.length_nil] at hl; omega
    | [z0] => rw [hz] at hl; simp at hl
    | z0 :: z1 :: r => exact ⟨z0, z1, r, rfl, by rw [hz] at hl; simp at hl; omega⟩
  unfold Instr.fill
  rw [h0]
  simp only [Value.cells, List.size_toArray, List.length_cons, List.length_nil, hZ]
  rw [if_neg (by simp)]
  rw [fold_over 0 #[.int .i64 a] Z (by rw [hZ]; simp), hz]
  unfold Instr.fill
  rw [h1]
  simp only [Value.cells, List.size_toArray, List.length_cons, List.length_nil, List.take_zero, List.nil_append, List.drop_succ_cons, List.drop_zero, List.singleton_append, Nat.zero_add]
  rw [if_neg (by simp [hr])]
  rw [fold_over 1 #[.int .i64 b] _ (by simp [hr])]
  unfold Instr.fill
  rw [h2]
  simp only [Value.cells, hb, List.size_toArray, List.length_cons, List.length_nil, List.take_succ_cons, List.take_zero, List.drop_succ_cons, List.drop_zero, List.cons_append, List.nil_append, Nat.reduceAdd]
  rw [if_neg (by simp [hr])]
  rw [fold_over 2 (blk f) _ (by simp [hr, hb])]
  unfold Instr.fill
  simp only [List.take_succ_cons, List.take_zero, hb, Nat.reduceAdd]
  rw [List.drop_eq_nil_of_le (by simp [hr]), List.append_nil]
  rfl
section
variable {ops : Array Oper} {rest : List Oper} {dst : Tmp} {x : Operand} {ty : TypeId} {Q : Exit → Act → World → Prop} {a : Act} {w : World}
theorem wpList_ldMid {ops : Array Oper} {rest : List Oper} {o : Oper} {a : Act} {w : World} {Q : Exit → Act → World → Prop} (t : TypeId) {d : TypeDesc} (hu : Tryz.prog.underlying t = some d) (hd : d.isRow = true) (hw : Region.wanted o (yielded ops a.tmps) = true) (x : Operand) (ho : o.op = .load t x) (b off : Nat) (cs : List Value) (R : Array Value) (hR : cs.toArray = R) (hsz : (Tryz.prog.info? t).map (·.size) = some cs.length) (hx : a.eval x = .pointer (some ⟨b, off, none⟩)) (hg : ∀ j u, cs[j]? = some u → w.cell? ⟨b, off + j, none⟩ = some u)
    (h : wpList Tryz.prog ops Q rest (a.put o.dst (.agg R)) w) : wpList Tryz.prog ops Q (o :: rest) a w := by
  subst hR
  have e : (Instr.loadAt t (.pointer (some ⟨b, off, none⟩))).run Tryz.prog w = .ok (.agg cs.toArray) w := run_loadAt_mid (P := Tryz.prog) w b off t cs _ (fun j v hv => hg j v hv) hu (by cases d <;> first | rfl | cases hd) hsz
  refine wpList_ex hw ?_ h
  unfold execOp
  simp only [ho, hx, e, Sem.run_bind, Result.andThen_ok, Sem.run_pure]
end
section
variable {M : Int} {w W W' : World} {g d n : Nat} {x x1 : Go.Proofs.YtiadlcjdpbkbkaaGreatD.LSt} {t : Go.Proofs.YtiadlcjdpbkbkaaGreatD.St} {book book1 : Int → Nat → Int} {ks ks' : List (Nat × Obj)}
def layL (x : Go.Proofs.YtiadlcjdpbkbkaaGreatD.LSt) : Lay := ⟨x.b, x.l, x.i, 1, 1 + x.l, Go.Proofs.YtiadlcjdpbkbkaaGreatD.H.nodeB x.i, Go.Proofs.YtiadlcjdpbkbkaaGreatD.H.bitsAt x.l x.i, Go.Proofs.YtiadlcjdpbkbkaaGreatD.H.bitsB x.b, Go.Proofs.YtiadlcjdpbkbkaaGreatD.H.dataAt x.b x.l x.i⟩
def layC (y : Lay) : List Value := [.int .i64 y.b, .int .i64 y.l, .int .i64 y.i, .int .i64 y.logAt, .int .i64 y.nodeAt, .int .i64 y.nodeBlocks, .int .i64 y.bitsAt, .int .i64 y.bitsBlocks, .int .i64 y.dataAt]
theorem layC_row (y : Lay) : (layC y).toArray = layRow y := rfl
theorem layC_info (y : Lay) : (Tryz.prog.info? 43).map (·.size) = some (layC y).length := lay_info y
theorem log_lay {c mb base : Nat} {v : Value} (h : Go.Proofs.YtiadlcjdpbkbkaaGreatD.LogAt W base g d c mb v x) : ∀ j u, (layC (layL x))[j]? = some u → W.cell? ⟨g, 3 + j, none⟩ = some u := fun j u hu => by
  rw [Joins.cell_of_block h.row]
  match j, hu with
  | 0, hu | 1, hu | 2, hu | 3, hu | 4, hu | 5, hu | 6, hu | 7, hu | 8, hu => exact hu
  | j + 9, hu => simp [layC] at hu
set_option maxRecDepth 20000 in
set_option maxHeartbeats 1600000 in
theorem layoutL_ok (h : Go.Proofs.YtiadlcjdpbkbkaaGreatD.LogI w W g d x t book ks) (hc : Go.Proofs.YtiadlcjdpbkbkaaGreatD.chkE x t = 0) : Calls Tryz.prog 94 #[.pointer (some ⟨g, 0, none⟩)] W fun e W' => e = .returned (.agg (layRow (layL x))) ∧ Go.Proofs.YtiadlcjdpbkbkaaGreatD.LogI w W' g d x t book ks := by
  obtain ⟨s, ⟨c, mb, v, os, h⟩, hI⟩ := h
  have zl := zeroLay
  have hksz := h.ksLt
  have hbase := h.sit.below.size
  have hA := h.add (.cells (layRow lay0) 43)
  have hck : Calls Tryz.prog 20 #[.pointer (some ⟨g, 0, none⟩)] (W.alloc (.cells (layRow lay0) 43)) fun e W' => e = .returned (.int .i64 0) ∧ (∀ j u, (layC (layL x))[j]? = some u → W'.cell? ⟨g, 3 + j, none⟩ = some u) ∧ W'.heap[W.heap.size]? = some (.cells (layRow lay0) 43) ∧ Hid (Go.Proofs.YtiadlcjdpbkbkaaGreatD.LogI w (W'.setRow W.heap.size (layRow (layL x))) g d x t book ks) := by
    refine hA.check.mono ?_
    rintro e W' ⟨rfl, m, rfl⟩
    have hB := hA.later (Go.Proofs.YtiadlcjdpbkbkaaGreatD.below_drewN _ m)
    exact ⟨by rw [hc], log_lay hB.log, hB.sit.blk (List.mem_append.2 (.inr (List.mem_cons_self ..))), s, hB.beside (Go.Proofs.YtiadlcjdpbkbkaaGreatD.Fr.setRow _ W.heap.size _) hbase hksz, hI⟩
  clear h hA hI hksz hbase
  generalize layL x = y at *
  go_enter Tryz.func94, Tryz.ntmps94
  go_wp2_with (go_at_call 20; fail)
  refine hck.mono ?_
  rintro e W1 ⟨rfl, hl, hg, HP⟩
  clear hck
  go_wp2_with (first | (with_reducible refine isLoadR 43 ?_; refine wpList_ldMid 43 Tryz.underlying43 rfl rfl (.tmp 9) rfl g 3 (layC y) (layRow y) (layC_row y) (layC_info y) rfl hl ?_) | (with_reducible refine isStoreR 43 ?_; refine wpList_stR 43 rfl (.tmp 2) (.tmp 10) rfl W.heap.size (layRow y) (layRow lay0) 43 (lay_info _) (lay_two _ _) (lay_one _) rfl rfl hg ?_))
  exact retR Tryz.underlying43 rfl rfl W.heap.size _ 43 (lay_info _) rfl (setRow_heap _ _ _ _ _ _ hg) rfl ⟨rfl, HP.out⟩
theorem logI_beside {W' : World} {q : Nat} {o : Obj} (h : Go.Proofs.YtiadlcjdpbkbkaaGreatD.LogI w W g d x t book ((q, o) :: ks)) (hf : Go.Proofs.YtiadlcjdpbkbkaaGreatD.Fr (fun k => k = q) W W') (hq : w.heap.size ≤ q) (hks : ∀ p ∈ ks, p.1 ≠ q) : Go.Proofs.YtiadlcjdpbkbkaaGreatD.LogI w W' g d x t book ks := by
  obtain ⟨s, ⟨c, mb, v, os, h⟩, hI⟩ := h
  exact ⟨s, h.beside hf hq hks, hI⟩
theorem logI_ks (h : Go.Proofs.YtiadlcjdpbkbkaaGreatD.LogI w W g d x t book ks) : ∀ p ∈ ks, p.1 ≠ W.heap.size := by
  obtain ⟨s, ⟨c, mb, v, os, h⟩, hI⟩ := h
  exact h.ksLt
theorem logI_chk (h : Go.Proofs.YtiadlcjdpbkbkaaGreatD.LogI w W g d x t book ks) (hc : Go.Proofs.YtiadlcjdpbkbkaaGreatD.chkE x t = 0) : Calls Tryz.prog 20 #[.pointer (some ⟨g, 0, none⟩)] W fun e W' => e = .returned (.int .i64 0) ∧ Go.Proofs.YtiadlcjdpbkbkaaGreatD.LogI w W' g d x t book ks := by
  obtain ⟨s, ⟨c, mb, v, os, h⟩, hI⟩ := h
  refine h.check.mono ?_
  rintro e W' ⟨rfl, m, rfl⟩
  exact ⟨by rw [hc], s, ⟨c, mb, v, os, h.later (Go.Proofs.YtiadlcjdpbkbkaaGreatD.below_drewN _ m)⟩, hI⟩
structure Ge (x : Go.Proofs.YtiadlcjdpbkbkaaGreatD.LSt) : Prop where
  b : x.b = 400
  l : x.l = 32
  i : x.i = 60
theorem chk_of (h : Go.Proofs.YtiadlcjdpbkbkaaGreatD.claimedV t x.claim = true) : Go.Proofs.YtiadlcjdpbkbkaaGreatD.chkE x t = 0 := by unfold Go.Proofs.YtiadlcjdpbkbkaaGreatD.chkE; rw [if_pos h]
theorem ref_of {o : Bool} (h : Go.Proofs.YtiadlcjdpbkbkaaGreatD.claimedV t x.claim = true) (ho : x.opn = o) : Go.Proofs.YtiadlcjdpbkbkaaGreatD.refL x t o = 0 := by unfold Go.Proofs.YtiadlcjdpbkbkaaGreatD.refL; rw [if_pos h, if_pos ho]
theorem claimed_read (c : Int) : Go.Proofs.YtiadlcjdpbkbkaaGreatD.claimedV (Go.Proofs.YtiadlcjdpbkbkaaGreatD.readS t) c = Go.Proofs.YtiadlcjdpbkbkaaGreatD.claimedV t c := rfl
theorem rm_read (h : Go.Proofs.YtiadlcjdpbkbkaaGreatD.Rm t (n + 1)) : Go.Proofs.YtiadlcjdpbkbkaaGreatD.Rm (Go.Proofs.YtiadlcjdpbkbkaaGreatD.readS t) n := by
  obtain ⟨h1, h2, h3, h4⟩ := h
  refine ⟨?_, ?_, ?_, ?_⟩
  · show t.ops.length + n < _; omega
  · show t.made + n < _; omega
  · show t.reads + 1 + n < _; omega
  · show t.claims + n < _; omega
theorem Ge.dat (h : Ge x) {k : Int} (hk : 33 ≤ k ∧ k < 400) : Go.Proofs.YtiadlcjdpbkbkaaGreatD.Dat x.b x.l k := by
  unfold Go.Proofs.YtiadlcjdpbkbkaaGreatD.Dat
  rw [h.b, h.l]
  omega
structure RLog (M : Int) (w W : World) (g d : Nat) (x : Go.Proofs.YtiadlcjdpbkbkaaGreatD.LSt) (book : Int → Nat → Int) (n : Nat) (ks : List (Nat × Obj)) : Prop where
  ex : ∃ t, Go.Proofs.YtiadlcjdpbkbkaaGreatD.LogI w W g d x t book ks ∧ (Go.Proofs.YtiadlcjdpbkbkaaGreatD.claimedV t x.claim = true ∧ t.made = M ∧ Go.Proofs.YtiadlcjdpbkbkaaGreatD.curV t = book ∧ t.n = 400 ∧ t.fuse = -1) ∧ Go.Proofs.YtiadlcjdpbkbkaaGreatD.Rm t (n + 1)
theorem RLog.of {t' : Go.Proofs.YtiadlcjdpbkbkaaGreatD.St} (ht : t' = t ∨ t' = Go.Proofs.YtiadlcjdpbkbkaaGreatD.readS t) (hc : Go.Proofs.YtiadlcjdpbkbkaaGreatD.claimedV t x.claim = true ∧ t.made = M ∧ Go.Proofs.YtiadlcjdpbkbkaaGreatD.curV t = book ∧ t.n = 400 ∧ t.fuse = -1) (hr : Go.Proofs.YtiadlcjdpbkbkaaGreatD.Rm t (n + 1 + 1)) (h : Go.Proofs.YtiadlcjdpbkbkaaGreatD.LogI w W g d x t' book ks) : RLog M w W g d x book n ks := by
  rcases ht with rfl | rfl
  · exact ⟨_, h, hc, hr.le (by omega)⟩
  · exact ⟨_, h, hc, rm_read hr⟩
theorem RLog.later (h : RLog M w W g d x book n ks) (hb : Below W.heap.size W W') : RLog M w W' g d x book n ks := by
  obtain ⟨t, h, h1, h2⟩ := h
  exact ⟨t, h.later hb, h1, h2⟩
theorem RLog.add (h : RLog M w W g d x book n ks) (o : Obj) : RLog M w (W.alloc o) g d x book n ((W.heap.size, o) :: ks) := by
  obtain ⟨t, h, h1, h2⟩ := h
  exact ⟨t, h.add o, h1, h2⟩
theorem RLog.drop (h : RLog M w W g d x book n ks) (hs : ∀ p ∈ ks', p ∈ ks) : RLog M w W g d x book n ks' := by
  obtain ⟨t, h, h1, h2⟩ := h
  exact ⟨t, h.drop hs, h1, h2⟩
theorem RLog.obj (h : RLog M w W g d x book n ks) {q : Nat} {o : Obj} (hm : (q, o) ∈ ks) : W.heap[q]? = some o := by
  obtain ⟨t, h, h1, h2⟩ := h
  exact h.obj hm
theorem RLog.below (h : RLog M w W g d x book n ks) : Below w.heap.size w W := by
  obtain ⟨t, h, h1, h2⟩ := h
  exact h.below
theorem RLog.ksLt (h : RLog M w W g d x book n ks) : ∀ p ∈ ks, p.1 ≠ W.heap.size := by
  obtain ⟨t, h, h1, h2⟩ := h
  exact logI_ks h
theorem RLog.beside {q : Nat} {o : Obj} (h : RLog M w W g d x book n ((q, o) :: ks)) (hf : Fr (fun k => k = q) W W') (hq : w.heap.size ≤ q) (hks : ∀ p ∈ ks, p.1 ≠ q) : RLog M w W' g d x book n ks := by
  obtain ⟨t, h, h1, h2⟩ := h
  exact ⟨t, logI_beside h ⟨hf.os, hf.tape, hf.output, hf.size, hf.block⟩ hq hks, h1, h2⟩
theorem RLog.less {m : Nat} (h : RLog M w W g d x book n ks) (hm : m ≤ n) : RLog M w W g d x book m ks := by
  obtain ⟨t, h, h1, h2⟩ := h
  exact ⟨t, h, h1, h2.le (by omega)⟩
theorem RLog.check (h : RLog M w W g d x book n ks) : Calls Tryz.prog 20 #[.pointer (some ⟨g, 0, none⟩)] W fun e W' => e = .returned (.int .i64 0) ∧ RLog M w W' g d x book n ks := by
  obtain ⟨t, h, h1, h2⟩ := h
  refine (logI_chk h (chk_of h1.1)).mono ?_
  rintro e W' ⟨rfl, h3⟩
  exact ⟨rfl, t, h3, h1, h2⟩
theorem RLog.layout (h : RLog M w W g d x book n ks) : Calls Tryz.prog 94 #[.pointer (some ⟨g, 0, none⟩)] W fun e W' => e = .returned (.agg (layRow (layL x))) ∧ RLog M w W' g d x book n ks := by
  obtain ⟨t, h, h1, h2⟩ := h
  refine (layoutL_ok h (chk_of h1.1)).mono ?_
  rintro e W' ⟨rfl, h3⟩
  exact ⟨rfl, t, h3, h1, h2⟩
theorem RLog.c15 (h : RLog M w W g d x book n ks) : W.cell? ⟨g, 15, none⟩ = some (.bool x.opn) := by
  obtain ⟨t, ⟨s, h3, _⟩, h1, h2⟩ := h
  exact h3.c1516.1
set_option maxHeartbeats 800000 in
theorem RLog.open (h : RLog M w W g d x book n ks) : Calls Tryz.prog 77 #[.pointer (some ⟨g, 0, none⟩)] W fun e W' => e = .returned (.bool x.opn) ∧ RLog M w W' g d x book n ks := by
  have hck := h.check
  clear h
  obtain ⟨o, ho⟩ : ∃ o, x.opn = o := ⟨_, rfl⟩
  have HO : Hid (x.opn = o) := ho
  rw [ho]
  clear ho
  go_enter Tryz.func77, Tryz.ntmps77
  go_wp2_with (go_at_call 20; fail)
  refine hck.mono ?_
  rintro e V1 ⟨rfl, hL1⟩
  have c15 := hL1.c15
  rw [HO.out] at c15
  have HL : Hid _ := hL1
  clear hck hL1
  go_wp2
  go_ret
  exact ⟨rfl, HL.out⟩
end
end Go.Proofs.YtiadlcjdpbkbkaaGreat
/- A row beside a log that lives is turned, and stays beside it. -/
namespace Go.Proofs.YtiadlcjdpbkbkaaGreatD
open Go.RowKit Go.Maps
theorem LS.swap {w W W' : World} {g d c mb : Nat} {v : Value} {x : LSt} {s : CSt} {t : St} {os ks : List (Nat × Obj)} {q : Nat} {o o' : Obj} (h : LS w W g d c mb v x s t os ((q, o) :: ks)) (hf : Fr (fun k => k = q) W W') (hq : w.heap.size ≤ q) (hks : ∀ p ∈ ks, p.1 ≠ q) (ho : W'.heap[q]? = some o') : LogSit w W' g d x s t ((q, o') :: ks) := by
  have hne : ∀ k, LHas g mb v k → k ≠ q := fun k hk e => h.ap (q, o) (List.mem_cons_self ..) (by rw [← e]; exact hk)
  have hk : ∀ k, LHas g mb v k → W'.heap[k]? = W.heap[k]? := fun k hk => hf.block k (h.log.lt k hk) (hne k hk)
  refine ⟨c, mb, v, os.filter (fun p => decide (p.1 ≠ q)), h.sit.turn hf (fun k e => by subst e; exact ⟨hq, o, List.mem_append.2 (.inr (List.mem_cons_self ..))⟩) fun p hp => ?_, h.log.kept hk, fun k hk2 => ?_, fun p hp => ?_⟩
  · rcases List.mem_append.1 hp with hp | hp
    · obtain ⟨hp1, hp2⟩ := List.mem_filter.1 hp
      have hp3 : p.1 ≠ q := by simpa using hp2
      have hb := h.sit.blk (List.mem_append.2 (.inl hp1) : (p.1, p.2) ∈ os ++ (q, o) :: ks)
      exact ⟨(hf.block p.1 (Array.getElem?_eq_some_iff.1 hb).1 hp3).trans hb, .inl ⟨p.2, List.mem_append.2 (.inl hp1)⟩⟩
    · rcases List.mem_cons.1 hp with rfl | hp
      · exact ⟨ho, .inl ⟨o, List.mem_append.2 (.inr (List.mem_cons_self ..))⟩⟩
      · have hb := h.sit.blk (List.mem_append.2 (.inr (List.mem_cons_of_mem _ hp)) : (p.1, p.2) ∈ os ++ (q, o) :: ks)
        exact ⟨(hf.block p.1 (Array.getElem?_eq_some_iff.1 hb).1 (hks p hp)).trans hb, .inl ⟨p.2, List.mem_append.2 (.inr (List.mem_cons_of_mem _ hp))⟩⟩
  · obtain ⟨h1, o2, ho2⟩ := h.own k hk2
    exact ⟨h1, o2, List.mem_filter.2 ⟨ho2, by simpa using hne k hk2⟩⟩
  · rcases List.mem_cons.1 hp with rfl | hp
    · exact h.ap (q, o) (List.mem_cons_self ..)
    · exact h.ap p (List.mem_cons_of_mem _ hp)
/-- A row made since is kept beside the log. -/
theorem LS.fresh {w W W' : World} {g d c mb : Nat} {v : Value} {x : LSt} {s : CSt} {t : St} {os ks : List (Nat × Obj)} {q : Nat} {o : Obj} (h : LS w W g d c mb v x s t os ks) (hf : Below W.heap.size W W') (hq : W.heap.size ≤ q) (ho : W'.heap[q]? = some o) : LogSit w W' g d x s t ((q, o) :: ks) := by
  have hlt : ∀ k, LHas g mb v k → k < W.heap.size := fun k hk => h.log.lt k hk
  have hk : ∀ k, LHas g mb v k → W'.heap[k]? = W.heap[k]? := fun k hk => hf.block k (hlt k hk)
  refine ⟨c, mb, v, os, h.sit.turn (T := fun _ => False) ⟨hf.os, hf.tape, hf.output, hf.size, fun i hi _ => hf.block i hi⟩ (fun k e => e.elim) fun p hp => ?_, h.log.kept hk, h.own, fun p hp => ?_⟩
  · rcases List.mem_append.1 hp with hp | hp
    · have hb := h.sit.blk (List.mem_append.2 (.inl hp) : (p.1, p.2) ∈ os ++ ks)
      exact ⟨(hf.block p.1 (Array.getElem?_eq_some_iff.1 hb).1).trans hb, .inl ⟨p.2, List.mem_append.2 (.inl hp)⟩⟩
    · rcases List.mem_cons.1 hp with rfl | hp
      · exact ⟨ho, .inr hq⟩
      · have hb := h.sit.blk (List.mem_append.2 (.inr hp) : (p.1, p.2) ∈ os ++ ks)
        exact ⟨(hf.block p.1 (Array.getElem?_eq_some_iff.1 hb).1).trans hb, .inl ⟨p.2, List.mem_append.2 (.inr hp)⟩⟩
  · rcases List.mem_cons.1 hp with rfl | hp
    · intro e
      have := hlt _ e
      simp only at this
      omega
    · exact h.ap p hp
end Go.Proofs.YtiadlcjdpbkbkaaGreatD
namespace Go.Proofs.YtiadlcjdpbkbkaaGreat
open Go.RowKit Go.Maps
theorem RLog.swap {M : Int} {w W W' : World} {g d n : Nat} {x : Go.Proofs.YtiadlcjdpbkbkaaGreatD.LSt} {book : Int → Nat → Int} {ks : List (Nat × Obj)} {q : Nat} {o o' : Obj} (h : RLog M w W g d x book n ((q, o) :: ks)) (hf : Fr (fun k => k = q) W W') (hq : w.heap.size ≤ q) (hks : ∀ p ∈ ks, p.1 ≠ q) (ho : W'.heap[q]? = some o') : RLog M w W' g d x book n ((q, o') :: ks) := by
  obtain ⟨t, ⟨s, ⟨c, mb, v, os, h⟩, hI⟩, h1, h2⟩ := h
  exact ⟨t, ⟨s, Go.Proofs.YtiadlcjdpbkbkaaGreatD.LS.swap h ⟨hf.os, hf.tape, hf.output, hf.size, hf.block⟩ hq hks ho, hI⟩, h1, h2⟩
theorem RLog.fresh {M : Int} {w W W' : World} {g d n : Nat} {x : Go.Proofs.YtiadlcjdpbkbkaaGreatD.LSt} {book : Int → Nat → Int} {ks : List (Nat × Obj)} {q : Nat} {o : Obj} (h : RLog M w W g d x book n ks) (hf : Below W.heap.size W W') (hq : W.heap.size ≤ q) (ho : W'.heap[q]? = some o) : RLog M w W' g d x book n ((q, o) :: ks) := by
  obtain ⟨t, ⟨s, ⟨c, mb, v, os, h⟩, hI⟩, h1, h2⟩ := h
  exact ⟨t, ⟨s, Go.Proofs.YtiadlcjdpbkbkaaGreatD.LS.fresh h hf hq ho, hI⟩, h1, h2⟩
end Go.Proofs.YtiadlcjdpbkbkaaGreat
/- A shelf of the inodes' region as a row; the rack's shelfOf. -/
namespace Go.Proofs.YtiadlcjdpbkbkaaGreat
open Go.RowKit Go.Maps
theorem sf_info (a b : Int) (f : Nat → Int) : (Tryz.prog.info? 149).map (·.size) = some (shRow a b f).size := by rw [shRow_size]; kernel_rfl
theorem zeroSf : ∀ w, (zeroValue 149).run Tryz.prog w = .ok (.agg (shRow 0 0 nought)) w := (zero_of_info (show (Tryz.prog.info? 149).map (fun i => (i.zero, i.size)) = some (some (.agg (shRow 0 0 nought)), 1026) by kernel_rfl)).1
theorem buildSf (a b : Int) (f : Nat → Int) (u : World) : (Instr.build 149 #[(0, .int .i64 a), (1, .int .i64 b), (2, .agg (blk f))]).run Tryz.prog u = .ok (.agg (shRow a b f)) u := by
  have z := zeroSf
  have hZ : (shRow 0 0 nought).size = 1026 := shRow_size _ _ _
  generalize shRow 0 0 nought = Z at *
  have hf := fill_sh a b f Z hZ
  simp [Instr.build, z, run_underlying Tryz.underlying149, Value.cells]
  rw [hf _ rfl rfl rfl]
  simp only [Sem.run_pure]
theorem exec_buildSf {o : Oper} {a : Act} {W : World} {x y u : Operand} {p q : Int} {f : Nat → Int} (ho : o.op = .build 149 #[(0, x), (1, y), (2, u)]) (hx : a.eval x = .int .i64 p) (hy : a.eval y = .int .i64 q) (hu : a.eval u = .agg (blk f)) : (execOp a.eval o).run Tryz.prog W = .ok (.value (.agg (shRow p q f))) W := by
  have e := buildSf p q f W
  generalize shRow p q f = Z at *
  generalize blk f = Y at *
  simp [execOp, ho, hx, hy, hu, e]
theorem build0Sf (u : World) : (Instr.build 149 #[]).run Tryz.prog u = .ok (.agg (shRow 0 0 nought)) u := by
  have z := zeroSf
  generalize shRow 0 0 nought = Z at *
  simp [Instr.build, z, run_underlying Tryz.underlying149, Instr.fill, Value.cells, go_sem]
theorem exec_build0Sf {o : Oper} {a : Act} {W : World} (ho : o.op = .build 149 #[]) : (execOp a.eval o).run Tryz.prog W = .ok (.value (.agg (shRow 0 0 nought))) W := by
  have e := build0Sf W
  generalize shRow 0 0 nought = Z at *
  simp [execOp, ho, e]
section
variable {M : Int} {w W W' : World} {g d n : Nat} {x x1 : Go.Proofs.YtiadlcjdpbkbkaaGreatD.LSt} {t : Go.Proofs.YtiadlcjdpbkbkaaGreatD.St} {book book1 : Int → Nat → Int} {ks ks' : List (Nat × Obj)}
theorem RLog.rd (h : RLog M w W g d x book (n + 1) ks) (hg : Ge x) (k : Int) (hk : 33 ≤ k ∧ k < 400) :
    Calls Tryz.prog 108 #[.pointer (some ⟨g, 0, none⟩), .int .i64 k] W fun e W' => e = .returned (.tuple #[.agg (blk (book k)), .int .i64 0]) ∧ RLog M w W' g d x book n ks := by
  obtain ⟨t, h, h1, h2⟩ := h
  refine (Go.Proofs.YtiadlcjdpbkbkaaGreatD.LogI.read h (chk_of h1.1) (hg.dat hk) (Go.Proofs.YtiadlcjdpbkbkaaGreatD.claimed_live h1.1) h2.room).mono ?_
  rintro e W' ⟨rfl, t', ht, h3⟩
  exact ⟨by rw [blkW], .of ht h1 h2 h3⟩
set_option maxRecDepth 20000 in
set_option maxHeartbeats 1600000 in
theorem RLog.shelfOf (h : RLog M w W g d x book (n + 1) ks) (hg : Ge x) (k q : Nat) (hk : 1 ≤ k ∧ k ≤ 60) (hq : k / 16 = q) :
    Calls Tryz.prog 95 #[.pointer (some ⟨g, 0, none⟩), .int .i64 (k : Int)] W fun e W' => e = .returned (.tuple #[.agg (shRow (33 + (q : Int)) ((q : Int) * 16) (book (33 + (q : Int)))), .int .i64 0]) ∧ RLog M w W' g d x book n ks := by
  have zs := zeroSf
  have zl := zeroLay
  have zb := zero77
  have hqb : q ≤ 3 := by omega
  have HK : Hid _ := h.ksLt
  have HS0 : Hid (w.heap.size ≤ W.heap.size) := h.below.size
  have hlay := (h.add (.cells (shRow 0 0 nought) 149)).layout
  clear h
  have HRd : Hid (∀ V ks0, RLog M w V g d x book (n + 1) ks0 → Calls Tryz.prog 108 #[.pointer (some ⟨g, 0, none⟩), .int .i64 (33 + (q : Int))] V fun e W' => e = .returned (.tuple #[.agg (blk (book (33 + (q : Int)))), .int .i64 0]) ∧ RLog M w W' g d x book n ks0) := fun V ks0 hV => hV.rd hg _ (by omega)
  have HyA : Hid ((layL x).nodeAt = 33) := by show 1 + x.l = 33; rw [hg.l]; rfl
  have HyI : Hid ((layL x).i = 60) := hg.i
  generalize hy : layL x = y at *
  clear hy hg
  have t1 : decide ((k : Int) < 1) = false := decide_eq_false (by omega)
  have t2 : decide (60 < (k : Int)) = false := decide_eq_false (by omega)
  have q1 : (k : Int).tdiv 16 = (q : Int) := by rw [Int.tdiv_eq_ediv_of_nonneg (by omega)]; omega
  have q0 : IntKind.i64.wrap (q : Int) = (q : Int) := by rw [IntKind.wrap_i64]; omega
  have q2 : IntKind.i64.wrap (33 + (q : Int)) = 33 + (q : Int) := by rw [IntKind.wrap_i64]; omega
  have q3 : IntKind.i64.wrap ((q : Int) * 16) = (q : Int) * 16 := by rw [IntKind.wrap_i64]; omega
  clear hk hq hqb
  generalize book (33 + (q : Int)) = F at *
  generalize (k : Int) = K at *
  generalize (q : Int) = Q at *
  go_enter Tryz.func95, Tryz.ntmps95
  go_upto_region 1 with fail
  generalize W.alloc (.cells (shRow 0 0 nought) 149) = V at *
  go_wp2_with (go_at_call 94; fail)
  refine hlay.mono ?_
  rintro e V1 ⟨rfl, hL1⟩
  have HK1 : Hid _ := hL1.ksLt
  have HW1 : Hid _ := hL1.below.size
  have HL2 : Hid _ := hL1.add (.cells (layRow y) 43)
  clear hlay hL1
  go_upto_region 2 with (first | (with_reducible refine isStoreR 43 ?_; refine wpList_stNew 43 rfl (.tmp 6) (.tmp 11) rfl V1.heap.size (layRow y) (layRow lay0) 43 (lay_info _) (lay_two _ _) (lay_one _) rfl rfl rfl ?_))
  generalize V1.alloc (.cells (layRow y) 43) = V2 at *
  generalize V1.heap.size = gy at *
  have hly := HL2.out.obj (List.mem_cons_self ..)
  have c4 : V2.cell? ⟨gy, 4, none⟩ = some (.int .i64 33) := by rw [← HyA.out]; exact Joins.cell_of_block hly 4
  have c2 : V2.cell? ⟨gy, 2, none⟩ = some (.int .i64 60) := by rw [← HyI.out]; exact Joins.cell_of_block hly 2
  have hrd := HRd.out V2 _ HL2.out
  clear HL2 hly
  go_wp2_with (go_at_call 108; fail)
  refine hrd.mono ?_
  rintro e V3 ⟨rfl, hL3⟩
  have HL4 : Hid _ := hL3.add (.cells (blk F) 47)
  clear hrd hL3 c4 c2
  go_upto_region 6 with (first | (with_reducible refine isStoreR 47 ?_; refine wpList_stNew 47 rfl (.tmp 8) (.tmp 31) rfl V3.heap.size (blk F) (blk nought) 47 (blk_info _) (blk_two _ _) (blk_one _) rfl rfl rfl ?_))
  generalize V3.alloc (.cells (blk F) 47) = V4 at *
  generalize V3.heap.size = gb at *
  have hbk := blk_at (HL4.out.obj (List.mem_cons_self ..))
  have hly := HL4.out.obj (List.mem_cons_of_mem _ (List.mem_cons_self ..))
  have hres := HL4.out.obj (List.mem_cons_of_mem _ (List.mem_cons_of_mem _ (List.mem_cons_self ..)))
  have c4 : V4.cell? ⟨gy, 4, none⟩ = some (.int .i64 33) := by rw [← HyA.out]; exact Joins.cell_of_block hly 4
  have HL5 : Hid _ := (HL4.out.drop (ks' := (W.heap.size, .cells (shRow 0 0 nought) 149) :: ks) fun p hp => List.mem_cons_of_mem _ (List.mem_cons_of_mem _ hp)).beside (Fr.setRow V4 W.heap.size (shRow (33 + Q) (Q * 16) F)) HS0.out HK.out
  clear HL4 hly
  go_wp2_with (first | (with_reducible refine isLoadR 47 ?_; refine wpList_ldB rfl (.tmp 8) rfl gb 0 F rfl hbk ?_) | (with_reducible refine isBuildR 149 ?_; refine wpList_ex rfl (exec_buildSf (p := 33 + Q) (q := Q * 16) (f := F) rfl rfl rfl rfl) ?_) | (with_reducible refine isStoreR 149 ?_; refine wpList_stR 149 rfl (.tmp 4) (.tmp 44) rfl W.heap.size (shRow (33 + Q) (Q * 16) F) (shRow 0 0 nought) 149 (sf_info _ _ _) (sh_two _ _ _ _ _ _) (sh_one _ _ _) rfl rfl hres ?_))
  exact retCT Tryz.underlying149 rfl rfl W.heap.size (shRow (33 + Q) (Q * 16) F) 149 (sf_info _ _ _) rfl (setRow_heap _ _ _ _ _ _ hres) rfl ⟨rfl, HL5.out⟩
end
end Go.Proofs.YtiadlcjdpbkbkaaGreat
/- What a block of 1024 bytes is as cells: a plain function from places to numbers, laid as cells; no condition. -/
namespace Go.Proofs.YtiadlcjdpbkbkaaGreatK
open Go.RowKit

/-- The cells of a block whose byte at place i is f i. -/
def blk (f : Nat → Int) : Array Value := ((List.range 1024).map fun i => Value.int .u8 (f i)).toArray
/-- f, but for x at place i. -/
def upd (f : Nat → Int) (i : Nat) (x : Int) : Nat → Int := fun j => if j = i then x else f j
def nought : Nat → Int := fun _ => 0

theorem blk_size (f : Nat → Int) : (blk f).size = 1024 := by simp [blk]
theorem blk_get (f : Nat → Int) (i : Nat) (h : i < 1024) : (blk f)[i]? = some (.int .u8 (f i)) := by
  simp [blk, h]
theorem blk_set (f : Nat → Int) (i : Nat) (x : Int) : (blk f).setIfInBounds i (.int .u8 x) = blk (upd f i x) := by
  apply Array.ext_getElem?
  intro j
  by_cases hj : j < 1024
  · rw [blk_get _ _ hj, Array.getElem?_setIfInBounds]
    by_cases e : i = j
    · subst e; simp [blk_size, hj, upd]
    · have e' : ¬ j = i := fun q => e q.symm
      simp [e, e', blk_get _ _ hj, upd]
  · rw [Array.getElem?_eq_none (by rw [Array.size_setIfInBounds, blk_size]; omega), Array.getElem?_eq_none (by rw [blk_size]; omega)]
theorem blk_congr {f g : Nat → Int} (h : ∀ i, i < 1024 → f i = g i) : blk f = blk g := by
  apply Array.ext_getElem?
  intro j
  by_cases hj : j < 1024
  · rw [blk_get _ _ hj, blk_get _ _ hj, h j hj]
  · rw [Array.getElem?_eq_none (by rw [blk_size]; omega), Array.getElem?_eq_none (by rw [blk_size]; omega)]
theorem blk_one (f : Nat → Int) : (blk f).all (·.oneCell') = true := by
  rw [Array.all_eq_true_iff_forall_mem]
  intro v hv
  simp [blk] at hv
  obtain ⟨i, _, rfl⟩ := hv
  rfl
end Go.Proofs.YtiadlcjdpbkbkaaGreatK
/- The block type of this program over its translation: loads, stores and results of whole blocks; fits; no condition. -/
namespace Go.Proofs.YtiadlcjdpbkbkaaGreatK
open Go.RowKit

theorem info25 : (Tryz.prog.info? 47).map (fun i => (i.zero, i.size)) = some (some (.agg (blk nought)), 1024) := by kernel_rfl
theorem zero25 : ∀ w, (zeroValue 47).run Tryz.prog w = .ok (.agg (blk nought)) w := (zero_of_info info25).1
theorem size25 : (Tryz.prog.info? 47).map (·.size) = some 1024 := (zero_of_info info25).2

set_option maxHeartbeats 400000 in
theorem fits_any (a n : Int) (w : World) (hn : 0 ≤ n ∧ n ≤ 1024) :
    Calls Tryz.prog 68 #[.int .i64 a, .int .i64 n] w fun e w' => e = .returned (.bool (decide (0 ≤ a ∧ a ≤ 1024 - n))) ∧ w' = w := by
  by_cases h0 : 0 ≤ a
  · by_cases h1 : a ≤ 1024 - n
    · go_enter Tryz.func68, Tryz.ntmps68
      go_wp2
      go_ret
      exact ⟨by simp [h0, h1], rfl⟩
    · go_enter Tryz.func68, Tryz.ntmps68
      go_wp2
      go_ret
      exact ⟨by simp [h1], rfl⟩
  · go_enter Tryz.func68, Tryz.ntmps68
    go_wp2
    go_ret
    exact ⟨by simp; omega, rfl⟩

theorem fits_yes (a n : Int) (w : World) (hn : 0 ≤ n ∧ n ≤ 1024) (h : 0 ≤ a ∧ a ≤ 1024 - n) :
    Calls Tryz.prog 68 #[.int .i64 a, .int .i64 n] w fun e w' => e = .returned (.bool true) ∧ w' = w := by
  have := fits_any a n w hn
  rwa [decide_eq_true h] at this
theorem fits_no (a n : Int) (w : World) (hn : 0 ≤ n ∧ n ≤ 1024) (h : ¬ (0 ≤ a ∧ a ≤ 1024 - n)) :
    Calls Tryz.prog 68 #[.int .i64 a, .int .i64 n] w fun e w' => e = .returned (.bool false) ∧ w' = w := by
  have := fits_any a n w hn
  rwa [decide_eq_false h] at this

/-- The first k of f, noughts behind them. -/
def firsts (f : Nat → Int) (k : Nat) : Nat → Int := fun i => if i < k then f i else 0
theorem firsts_next (f : Nat → Int) (k : Nat) : upd (firsts f k) k (f k) = firsts f (k + 1) := by
  funext j
  unfold upd firsts
  by_cases h : j = k
  · subst h; simp
  · by_cases h2 : j < k
    · simp [h, h2, show j < k + 1 by omega]
    · simp [h, h2, show ¬ j < k + 1 by omega]

theorem wpList_load25 {ops : Array Oper} {rest : List Oper} {o : Oper} {a : Act} {w : World} {Q : Exit → Act → World → Prop} (hgd : o.guard = none) (x : Operand) (ho : o.op = .load 47 x)
    (g : Nat) (hx : a.eval x = .pointer (some ⟨g, 0, none⟩)) (f : Nat → Int) (hg : w.heap[g]? = some (.cells (blk f) 47))
    (h : wpList Tryz.prog ops Q rest (a.put o.dst (.agg (blk f))) w) : wpList Tryz.prog ops Q (o :: rest) a w :=
  wpList_load_row hgd 47 x ho g hx 47 (blk f) (0, 0) _ hg Tryz.underlying47 rfl (by rw [blk_size]; exact size25) h
theorem wpList_store25 {ops : Array Oper} {rest : List Oper} {o : Oper} {a : Act} {w : World} {Q : Exit → Act → World → Prop} (hgd : o.guard = none) (x y : Operand) (ho : o.op = .store 47 x y)
    (g : Nat) (f : Nat → Int) (hx : a.eval x = .pointer (some ⟨g, 0, none⟩)) (hy : a.eval y = .agg (blk f)) (f0 : Nat → Int) (hg : w.heap[g]? = some (.cells (blk f0) 47))
    (h : wpList Tryz.prog ops Q rest (a.put o.dst undef) (w.setRow g (blk f))) : wpList Tryz.prog ops Q (o :: rest) a w :=
  wpList_plain hgd fun _ hK => by
    unfold Oper.wp execOp
    simp only [ho, hx, hy, Instr.storeAt, Instr.sureAddr, Sem.run_bind, Sem.run_pure, Result.andThen_ok, run_storeVar_row w g 47 47 (blk f0) (blk f) hg (by rw [blk_size]; exact size25) (by rw [blk_size, blk_size]) (blk_one f)]
    exact hK _ _ h

/-- A result that is a whole block in a cell. -/
theorem ret25 {fn : Func} {p : Tmp} {R : Ending → World → Prop} {a : Act} {w : World} (h : fn.results = #[.cell p 47]) (g : Nat) (f : Nat → Int)
    (hp : a.tmps.getD p undef = .pointer (some ⟨g, 0, none⟩)) (hg : w.heap[g]? = some (.cells (blk f) 47)) (hd : a.defers = []) (hR : R (.returned (.agg (blk f))) w) : bodyPost Tryz.prog fn R .ret a w :=
  bodyPost_ret (results_cell_row h a.tmps w g 47 (blk f) (0, 0) _ hp hg Tryz.underlying47 rfl (by rw [blk_size]; exact size25)) hd hR
theorem below_setRow {B : Nat} {a w : World} (h : Below B a w) {g : Nat} (hg : B ≤ g) (cs : Array Value) : Below B a (w.setRow g cs) :=
  h.trans ⟨rfl, rfl, rfl, by simp, fun k hk => setRow_other w g k cs (by omega)⟩
theorem below2 (w : World) (a b : Obj) (g : Nat) (hg : w.heap.size ≤ g) (cs : Array Value) : Below w.heap.size w (((w.alloc a).alloc b).setRow g cs) :=
  below_setRow (((Below.refl _ _).alloc (Nat.le_refl _) _).alloc (by simp) _) hg _
end Go.Proofs.YtiadlcjdpbkbkaaGreatK
/- Two blocks held against each other: equal just where every byte is; for every two blocks. -/
namespace Go.Proofs.YtiadlcjdpbkbkaaGreatK
open Go.RowKit

def sameB (f g : Nat → Int) : Bool := (List.range 1024).all fun i => f i == g i
theorem sameB_iff (f g : Nat → Int) : sameB f g = true ↔ ∀ i, i < 1024 → f i = g i := by
  simp [sameB, List.all_eq_true, List.mem_range]
theorem sameB_self (f : Nat → Int) : sameB f f = true := (sameB_iff f f).2 fun _ _ => rfl

theorem part5 (f : Nat → Int) (i : Nat) (hi : i < 1024) (w : World) : (part 5 (blk f) (i * 1)).run Tryz.prog w = .ok (.int .u8 (f i)) w := by
  have hb := blk_get f i hi
  simp [part, Tryz.isAgg5, hb]
theorem each25 (d : Nat) (f g : Nat → Int) (w : World) : ∀ l : List Nat, (∀ i, i ∈ l → i < 1024) →
    (forIn (m := Sem) l ((none : Option Bool), ()) fun i _ => do
            let x ← part 5 (blk f) (i * 1)
            let y ← part 5 (blk g) (i * 1)
            let b ← Op.equalIn (d + 1) 5 x y
            if (!b) = true then pure (ForInStep.done (some false, ())) else pure (ForInStep.yield (none, ()))).run Tryz.prog w
      = .ok ((if l.all (fun i => f i == g i) then none else some false), ()) w
  | [], _ => by simp
  | i :: l, h => by
    have h1 := part5 f i (h i (by simp)) w
    have h2 := part5 g i (h i (by simp)) w
    have ih := each25 d f g w l fun j hj => h j (by simp [hj])
    have he := run_equalIn_int (P := Tryz.prog) w d 5 .u8 .u8 (f i) (g i) Tryz.underlying5
    simp only [List.forIn_cons, Sem.run_bind, h1, h2, he, Result.andThen_ok, List.all_cons]
    by_cases e : f i = g i
    · simp only [e, beq_self_eq_true, Bool.not_true, Bool.false_eq_true, if_false, Sem.run_pure, Result.andThen_ok, Bool.true_and]
      exact ih
    · have e' : (f i == g i) = false := by simp [e]
      simp [e']
theorem eq25 (f g : Nat → Int) (w : World) : (Op.equalIn 10000 47 (.agg (blk f)) (.agg (blk g))).run Tryz.prog w = .ok (sameB f g) w := by
  have key := each25 9998 f g w (List.range' 0 [:1024].size) (fun i hi => by simpa [Std.Legacy.Range.size] using hi)
  show (Op.equalIn (9998 + 1 + 1) 47 (.agg (blk f)) (.agg (blk g))).run Tryz.prog w = _
  rw [Op.equalIn]
  simp only [Sem.run_bind, run_underlying Tryz.underlying47, Result.andThen_ok]
  rw [show (sizeOf 5).run Tryz.prog w = .ok 1 w by simp [go_sem]]
  simp only [Result.andThen_ok, Std.Legacy.Range.forIn_eq_forIn_range']
  refine (congrArg (fun r => Result.andThen r _) key).trans ?_
  have hr : List.range' 0 [:1024].size = List.range 1024 := by simp [Std.Legacy.Range.size, List.range_eq_range']
  rw [hr]
  show Result.andThen (Result.ok ((if sameB f g = true then none else some false), ()) w) _ = _
  cases sameB f g <;> simp
end Go.Proofs.YtiadlcjdpbkbkaaGreatK
/- Regions whose order is drawn and whose calls make memory but turn none that was there: one walk in the text's order serves every order. -/
namespace Go.Proofs.YtiadlcjdpbkbkaaGreatK
open Go.RowKit

/-- A world that has all that W has, and perhaps more behind it. -/
structure Later (W : World) where
  val : World
  below : Below W.heap.size W val

theorem later_some (W : World) : Nonempty (Later W) := ⟨⟨W, Below.refl _ _⟩⟩
theorem Later.cell {W : World} (x : Later W) (p : Addr) (h : p.block < W.heap.size) : x.val.cell? p = W.cell? p := x.below.cell h
theorem Later.heap {W : World} (x : Later W) (g : Nat) (h : g < W.heap.size) : x.val.heap[g]? = W.heap[g]? := x.below.block g h

theorem wp_region_later {id : Nat} {Q : Exit → Act → World → Prop} {a : Act} {w : World} {l : List Oper} (hm : Tryz.prog.follows .mixedOrders = true) (hB : Region.lexB .any l.toArray = true)
    (W : World) (hW : Below W.heap.size W w)
    (h : wpQuiet Tryz.prog l.toArray (fun w' => ∃ x : Later W, w' = x.val) (fun a' => ∀ w', (∃ x : Later W, w' = x.val) → Q .normal a' w') l a) : (Code.region id l.toArray true).wp Tryz.prog Q a w :=
  wp_region_quiet (C := fun w' => ∃ x : Later W, w' = x.val) hm hB ⟨⟨_, hW.drew⟩, rfl⟩ (by simpa using h)

theorem Later.call {W : World} (x : Later W) {f : FuncId} {args : Array Value} {v : Value}
    (h : Calls Tryz.prog f args x.val fun e w' => e = .returned v ∧ Below x.val.heap.size x.val w') : Calls Tryz.prog f args x.val fun e w'' => e = .returned v ∧ ∃ y : Later W, w'' = y.val :=
  h.mono fun _ w' ⟨he, hb⟩ => ⟨he, ⟨w', x.below.trans (hb.mono x.below.size)⟩, rfl⟩

theorem quiet_load25 {W : World} {o : Oper} {a : Act} {K : Act → Prop} (x : Operand) (ho : o.op = .load 47 x) (g : Nat) (hx : a.eval x = .pointer (some ⟨g, 0, none⟩)) (f : Nat → Int)
    (hg : W.heap[g]? = some (.cells (blk f) 47)) (hk : K (a.put o.dst (.agg (blk f)))) : o.quiet Tryz.prog a (fun w' => ∃ x : Later W, w' = x.val) K := by
  refine ⟨.agg (blk f), ?_, hk⟩
  rintro _ ⟨y, rfl⟩
  have hlt : g < W.heap.size := (Array.getElem?_eq_some_iff.1 hg).1
  have hh := (y.heap g hlt).trans hg
  unfold Oper.quietAt execOp
  simp only [ho, hx, Instr.loadAt, Instr.sureAddr, Sem.run_bind, Sem.run_pure, Result.andThen_ok, run_loadVar_row y.val g 47 47 (blk f) (0, 0) _ hh Tryz.underlying47 rfl (by rw [blk_size]; exact size25)]
  exact ⟨rfl, rfl⟩

theorem wpList_store25_new {ops : Array Oper} {rest : List Oper} {o : Oper} {a : Act} {w : World} {Q : Exit → Act → World → Prop} (hgd : o.guard = none) (x y : Operand) (ho : o.op = .store 47 x y)
    (f f0 : Nat → Int) (hx : a.eval x = .pointer (some ⟨w.heap.size, 0, none⟩)) (hy : a.eval y = .agg (blk f))
    (h : wpList Tryz.prog ops Q rest (a.put o.dst undef) (w.alloc (.cells (blk f) 47))) : wpList Tryz.prog ops Q (o :: rest) a (w.alloc (.cells (blk f0) 47)) :=
  wpList_store25 hgd x y ho w.heap.size f hx hy f0 (heap_alloc_new _ _) (by rw [World.setRow_alloc_new]; exact h)
end Go.Proofs.YtiadlcjdpbkbkaaGreatK
/- slab's inside: which of some places lie in a block; for every place and number. -/
namespace Go.Proofs.YtiadlcjdpbkbkaaGreatK
open Go.RowKit

/-- The first of the n places from a on that are inside, and the one behind the last; 0 and 0 if there are none. -/
def insLo (a n : Int) : Nat := if n < 1 ∨ 1024 ≤ a then 0 else a.toNat
def insHi (a n : Int) : Nat := if n < 1 ∨ 1024 ≤ a then 0 else (min (a + n) 1024).toNat
theorem ins_le (a n : Int) : insLo a n ≤ insHi a n ∧ insHi a n ≤ 1024 := by
  unfold insLo insHi; split
  · omega
  · omega
theorem ins_iff (a n : Int) (j : Nat) (hj : j < 1024) : (insLo a n ≤ j ∧ j < insHi a n) ↔ (a ≤ (j : Int) ∧ (j : Int) - a < n) := by
  unfold insLo insHi; split <;> omega
theorem ins_lo (a n : Int) (h : insLo a n < insHi a n) : a ≤ (insLo a n : Int) ∧ (insHi a n : Int) - a ≤ n := by
  unfold insLo insHi at *; split at h <;> split <;> omega
theorem ret_two {a b c d : Int} (h : a = c) (h' : b = d) : Ending.returned (.tuple #[.int .i64 a, .int .i64 b]) = .returned (.tuple #[.int .i64 c, .int .i64 d]) := by rw [h, h']

set_option maxHeartbeats 400000 in
theorem slabInside_any (a n : Int) (w : World) (ha : -9223372036854775808 ≤ a ∧ a ≤ 9223372036854775807) (hn : -9223372036854775808 ≤ n ∧ n ≤ 9223372036854775807) :
    Calls Tryz.prog 105 #[.int .i64 a, .int .i64 n] w fun e w' => e = .returned (.tuple #[.int .i64 (insLo a n), .int .i64 (insHi a n)]) ∧ w' = w := by
  have hlo : ((insLo a n : Nat) : Int) = if n < 1 ∨ 1024 ≤ a then 0 else if a < 0 then 0 else a := by unfold insLo; split <;> (try split) <;> omega
  have hhi : ((insHi a n : Nat) : Int) = if n < 1 ∨ 1024 ≤ a then 0 else if a + n < 0 then 0 else if a + n < 1024 then a + n else 1024 := by
    unfold insHi; split <;> (try split) <;> (try split) <;> omega
  generalize ((insLo a n : Nat) : Int) = lo at *
  generalize ((insHi a n : Nat) : Int) = hi at *
  have HLO : Hid (lo = if n < 1 ∨ 1024 ≤ a then 0 else if a < 0 then 0 else a) := hlo
  have HHI : Hid (hi = if n < 1 ∨ 1024 ≤ a then 0 else if a + n < 0 then 0 else if a + n < 1024 then a + n else 1024) := hhi
  clear hlo hhi
  by_cases h1 : n < 1
  · go_enter Tryz.func105, Tryz.ntmps105
    go_wp2
    go_ret2
    exact ⟨ret_two (by rw [HLO.out, if_pos (.inl h1)]) (by rw [HHI.out, if_pos (.inl h1)]), rfl⟩
  · by_cases h2 : 1024 ≤ a
    · go_enter Tryz.func105, Tryz.ntmps105
      go_wp2
      go_ret2
      exact ⟨ret_two (by rw [HLO.out, if_pos (.inr h2)]) (by rw [HHI.out, if_pos (.inr h2)]), rfl⟩
    · by_cases h3 : a < 0
      · by_cases h4 : a + n < 0
        all_goals by_cases h5 : a + n < 1024
        all_goals
          go_enter Tryz.func105, Tryz.ntmps105
          go_wp2
        all_goals
          go_ret2
          refine ⟨ret_two ?_ ?_, rfl⟩
          · have := HLO.out; rw [if_neg (by omega), if_pos (by omega)] at this; omega
          · have := HHI.out; rw [if_neg (by omega)] at this; split at this <;> (try split at this) <;> omega
      · by_cases h5 : n < 1024 - a
        all_goals
          go_enter Tryz.func105, Tryz.ntmps105
          go_wp2
        all_goals
          go_ret2
          refine ⟨ret_two ?_ ?_, rfl⟩
          · have := HLO.out; rw [if_neg (by omega), if_neg (by omega)] at this; omega
          · have := HHI.out; rw [if_neg (by omega)] at this; split at this <;> (try split at this) <;> omega
end Go.Proofs.YtiadlcjdpbkbkaaGreatK
/- The law's own function block: a block that begins with the bytes of a slice; its bytes lie in memory below. -/
namespace Go.Proofs.YtiadlcjdpbkbkaaGreatK
open Go.RowKit

/-- The slice v holds n bytes, f 0, f 1 .. -/
def Lies (w : World) (v : Value) (n : Nat) (f : Nat → Int) : Prop :=
  (∃ a cap, v = .slice a 0 cap ∧ n = 0 ∧ (a = none → cap = 0)) ∨ ∃ b off cap, v = .slice (some ⟨b, off, none⟩) n cap ∧ n ≤ maxLen ∧ n ≤ cap ∧ b < w.heap.size ∧ ∀ i, i < n → w.cell? ⟨b, off + i, none⟩ = some (.int .u8 (f i))
theorem Lies.later {w w' : World} {v : Value} {n : Nat} {f : Nat → Int} (h : Lies w v n f) (hb : Below w.heap.size w w') : Lies w' v n f := by
  rcases h with h | ⟨b, off, cap, hv, hn, hcap, hlt, hc⟩
  · exact .inl h
  · exact .inr ⟨b, off, cap, hv, hn, hcap, Nat.lt_of_lt_of_le hlt hb.size, fun i hi => (hb.cell (p := ⟨b, off + i, none⟩) hlt).trans (hc i hi)⟩
end Go.Proofs.YtiadlcjdpbkbkaaGreatK
/- Rows of bytes in memory: read, written, copied; whatever their number. -/
namespace Go.Proofs.YtiadlcjdpbkbkaaGreatK
open Go.RowKit

theorem info5 : (Tryz.prog.info? 5).map (fun i => (i.zero, i.size, i.bytes)) = some (some (.int .u8 0), 1, 1) := by kernel_rfl
/-- m bytes as cells. -/
def rowA (f : Nat → Int) (m : Nat) : Array Value := ((List.range m).map fun i => Value.int .u8 (f i)).toArray
theorem blk_row (f : Nat → Int) : blk f = rowA f 1024 := rfl
theorem rowA_size (f : Nat → Int) (m : Nat) : (rowA f m).size = m := by simp [rowA]
theorem rowA_get (f : Nat → Int) (m i : Nat) (h : i < m) : (rowA f m)[i]? = some (.int .u8 (f i)) := by simp [rowA, h]
theorem rowA_ext {f : Nat → Int} {m : Nat} {cs : Array Value} (hs : cs.size = m) (h : ∀ i, i < m → cs[i]? = some (.int .u8 (f i))) : cs = rowA f m := by
  apply Array.ext_getElem?
  intro i
  by_cases hi : i < m
  · rw [h i hi, rowA_get f m i hi]
  · rw [Array.getElem?_eq_none (by omega), Array.getElem?_eq_none (by rw [rowA_size]; omega)]
theorem rowA_congr {f g : Nat → Int} {m : Nat} (h : ∀ i, i < m → f i = g i) : rowA f m = rowA g m :=
  rowA_ext (rowA_size f m) fun i hi => by rw [rowA_get f m i hi, h i hi]
theorem rowA_set (f : Nat → Int) (m i : Nat) (x : Int) : (rowA f m).setIfInBounds i (.int .u8 x) = rowA (upd f i x) m := by
  refine rowA_ext (by rw [Array.size_setIfInBounds, rowA_size]) fun j hj => ?_
  rw [Array.getElem?_setIfInBounds]
  by_cases e : i = j
  · subst e; simp [rowA_size, hj, upd]
  · have e' : ¬ j = i := fun q => e q.symm
    simp [e, e', rowA_get _ _ _ hj, upd]
theorem made_row (m : Nat) : madeCells #[Value.int .u8 0] m = rowA nought m :=
  rowA_ext (by simp [madeCells]) fun i hi => by simp [madeCells, hi, nought, Nat.mod_one]
theorem cell_row {w : World} {g m : Nat} {f : Nat → Int} {t : TypeId} (h : w.heap[g]? = some (.cells (rowA f m) t)) (i : Nat) (hi : i < m) : w.cell? ⟨g, i, none⟩ = some (.int .u8 (f i)) := by
  rw [cell_of_row w g i _ t _ h]; exact rowA_get f m i hi
theorem rowA_one (f : Nat → Int) (m : Nat) : ∀ v ∈ (rowA f m).toList, v.oneCell' = true := by
  intro v hv
  simp [rowA] at hv
  obtain ⟨i, _, rfl⟩ := hv
  rfl

/-- F, but for n bytes of G from off on. -/
def over (F : Nat → Int) (off n : Nat) (G : Nat → Int) : Nat → Int := fun i => if off ≤ i ∧ i < off + n then G (i - off) else F i
theorem over_none (F : Nat → Int) (off : Nat) (G : Nat → Int) : over F off 0 G = F := by
  funext i; unfold over; rw [if_neg (by omega)]

theorem run_copy5 (w : World) (ty : TypeId) (g off dLen dCap gs so sLen sCap : Nat)
    (F : Nat → Int) (m : Nat) (t : TypeId) (hF : w.heap[g]? = some (.cells (rowA F m) t)) (G : Nat → Int) (n : Nat) (hn : n = Nat.min sLen dLen)
    (hsrc : ∀ j, j < n → w.cell? ⟨gs, so + j, none⟩ = some (.int .u8 (G j))) (hfit : off + n ≤ m) :
    (Builtin.copy_ #[135, 135] ty #[.slice (some ⟨g, off, none⟩) dLen dCap, .slice (some ⟨gs, so, none⟩) sLen sCap]).run Tryz.prog w = .ok (goInt n) (w.setRow g (rowA (over F off n G) m)) := by
  have hlen : (rowA G n).toList.length = n := by simp [rowA_size]
  have hi5 : (Tryz.prog.info? 5).map (·.size) = some 1 := by
    obtain ⟨i0, hi0, _, hz1, _⟩ := info_parts info5
    rw [hi0]; simp [hz1]
  have key := run_copy_row (P := Tryz.prog) w 135 135 ty 5 g off dLen dCap ⟨gs, so, none⟩ sLen sCap (rowA F m) t (rowA G n).toList Tryz.underlying135 hi5 hF (by rw [hlen]; exact hn) (fun j v hv => by
    have hj : j < n := by rw [← hlen]; exact (List.getElem?_eq_some_iff.1 hv).1
    have e : v = .int .u8 (G j) := by
      have := rowA_get G n j hj
      simp at hv
      rw [hv] at this
      exact Option.some.inj this
    rw [e, Go.WideShapes.add_plain]
    exact hsrc j hj) (by rw [hlen, rowA_size]; exact hfit) (rowA_one G n)
  have e : ((rowA F m).toList.take off ++ ((rowA G n).toList ++ (rowA F m).toList.drop (off + n))).toArray = rowA (over F off n G) m := by
    refine rowA_ext ?_ fun i hi => ?_
    · simp [rowA_size]; omega
    · simp only [List.getElem?_toArray]
      by_cases h1 : i < off
      · rw [List.getElem?_append_left (by simp [rowA_size]; omega), List.getElem?_take_of_lt h1]
        simp only [Array.getElem?_toList, rowA_get F m i hi, over]
        rw [if_neg (by omega)]
      · rw [List.getElem?_append_right (by simp [rowA_size]; omega)]
        have e0 : (List.take off (rowA F m).toList).length = off := by simp [rowA_size]; omega
        rw [e0]
        by_cases h2 : i < off + n
        · rw [List.getElem?_append_left (by simp [rowA_size]; omega)]
          simp only [Array.getElem?_toList, rowA_get G n (i - off) (by omega), over]
          rw [if_pos (by omega)]
        · rw [List.getElem?_append_right (by simp [rowA_size]; omega), hlen, List.getElem?_drop, show off + n + (i - off - n) = i by omega]
          simp only [Array.getElem?_toList, rowA_get F m i hi, over]
          rw [if_neg (by omega)]
  rw [hlen, List.append_assoc, e] at key
  exact key
theorem wp_copy5 {o : Oper} {a : Act} {w : World} {K : Act → World → Prop} {Q : Exit → Act → World → Prop} (d s : Operand)
    (ho : o.op = .call { callee := .builtin .copy, args := #[d, s], argTypes := #[135, 135] }) (g off dLen dCap gs so sLen sCap : Nat)
    (hd : a.eval d = .slice (some ⟨g, off, none⟩) dLen dCap) (hs : a.eval s = .slice (some ⟨gs, so, none⟩) sLen sCap)
    (F : Nat → Int) (m : Nat) (t : TypeId) (hF : w.heap[g]? = some (.cells (rowA F m) t)) (G : Nat → Int) (n : Nat) (hn : n = Nat.min sLen dLen)
    (hsrc : ∀ j, j < n → w.cell? ⟨gs, so + j, none⟩ = some (.int .u8 (G j))) (hfit : off + n ≤ m)
    (h : K (a.put o.dst (goInt n)) (w.setRow g (rowA (over F off n G) m))) : o.wp Tryz.prog a w K Q := by
  have hrun := run_copy5 w o.type g off dLen dCap gs so sLen sCap F m t hF G n hn hsrc hfit
  unfold Oper.wp
  simp [execOp, ho, resolve, invoke, builtin, hd, hs, hrun, Result.andThen]
  exact h
theorem wpList_copy5 {ops : Array Oper} {rest : List Oper} {o : Oper} {a : Act} {w : World} {Q : Exit → Act → World → Prop} (hgd : o.guard = none) (d s : Operand)
    (ho : o.op = .call { callee := .builtin .copy, args := #[d, s], argTypes := #[135, 135] }) (g off dLen dCap gs so sLen sCap : Nat)
    (hd : a.eval d = .slice (some ⟨g, off, none⟩) dLen dCap) (hs : a.eval s = .slice (some ⟨gs, so, none⟩) sLen sCap)
    (F : Nat → Int) (m : Nat) (t : TypeId) (hF : w.heap[g]? = some (.cells (rowA F m) t)) (G : Nat → Int) (n : Nat) (hn : n = Nat.min sLen dLen)
    (hsrc : ∀ j, j < n → w.cell? ⟨gs, so + j, none⟩ = some (.int .u8 (G j))) (hfit : off + n ≤ m)
    (h : wpList Tryz.prog ops Q rest (a.put o.dst (goInt n)) (w.setRow g (rowA (over F off n G) m))) : wpList Tryz.prog ops Q (o :: rest) a w :=
  wpList_plain hgd fun _ hK => wp_copy5 d s ho g off dLen dCap gs so sLen sCap hd hs F m t hF G n hn hsrc hfit (hK _ _ h)
theorem step_copy5 {ops : Array Oper} {o : Oper} {a : Act} {w : World} {K : Act → World → Prop} {Q : Exit → Act → World → Prop} {E : Prop} (hgd : o.guard = none) (d s : Operand)
    (ho : o.op = .call { callee := .builtin .copy, args := #[d, s], argTypes := #[135, 135] }) (g off dLen dCap gs so sLen sCap : Nat)
    (hd : a.eval d = .slice (some ⟨g, off, none⟩) dLen dCap) (hs : a.eval s = .slice (some ⟨gs, so, none⟩) sLen sCap)
    (F : Nat → Int) (m : Nat) (t : TypeId) (hF : w.heap[g]? = some (.cells (rowA F m) t)) (G : Nat → Int) (n : Nat) (hn : n = Nat.min sLen dLen)
    (hsrc : ∀ j, j < n → w.cell? ⟨gs, so + j, none⟩ = some (.int .u8 (G j))) (hfit : off + n ≤ m)
    (h : K (a.put o.dst (goInt n)) (w.setRow g (rowA (over F off n G) m))) : if Region.wanted o (yielded ops a.tmps) = true then Oper.wp Tryz.prog o a w K Q else E := by
  have hw : Region.wanted o (yielded ops a.tmps) = true := by simp [Region.wanted, hgd]
  rw [if_pos hw]
  exact wp_copy5 d s ho g off dLen dCap gs so sLen sCap hd hs F m t hF G n hn hsrc hfit h
end Go.Proofs.YtiadlcjdpbkbkaaGreatK
/- Piece of slab: some bytes of a block, those that are inside, in memory of their own; for every block, place and number. -/
namespace Go.Proofs.YtiadlcjdpbkbkaaGreatK
open Go.RowKit

theorem ins_lo_lt (a n : Int) : insLo a n < 1024 := by unfold insLo; split <;> omega
theorem slice25 (g lo hi : Nat) (h1 : lo ≤ hi) (h2 : hi ≤ 1024) (h3 : lo < 1024) (u : World) :
    (Instr.sliceAt 47 (.pointer (some ⟨g, 0, none⟩)) (some (.int .i64 (lo : Int))) (some (.int .i64 (hi : Int))) none).run Tryz.prog u = .ok (.slice (some ⟨g, lo, none⟩) (hi - lo) (1024 - lo)) u := by
  have hn : ¬ ((1024 : Nat) = lo) := by omega
  have ea : Tryz.prog.arrayLen 47 = 1024 := by kernel_rfl
  have ee : Tryz.prog.elem 47 = 5 := by kernel_rfl
  have h := run_sliceAt_array_lh (P := Tryz.prog) u 47 ⟨g, 0, none⟩ (by rw [ea, ee]; exact Tryz.underlying47) .i64 .i64 (lo : Int) (hi : Int) (by omega) (by omega) (by rw [ea]; omega)
  rw [h, ea, ee]
  simp [Tryz.sizeOf5, slicedAt, hn, Addr.add]
  intro h0; exact h0.symm

/-- f from lo on. -/
def from' (f : Nat → Int) (lo : Nat) : Nat → Int := fun i => f (lo + i)

set_option maxRecDepth 20000 in
set_option maxHeartbeats 400000 in
theorem piece_any (f : Nat → Int) (k n : Int) (w : World) (ha : -9223372036854775808 ≤ k ∧ k ≤ 9223372036854775807) (hn : -9223372036854775808 ≤ n ∧ n ≤ 9223372036854775807) :
    Calls Tryz.prog 126 #[.agg (blk f), .int .i64 k, .int .i64 n] w fun e w' => e = .returned (.slice (some ⟨w.heap.size + 1, 0, none⟩) (insHi k n - insLo k n) (insHi k n - insLo k n)) ∧
      w'.heap[w.heap.size + 1]? = some (.cells (rowA (from' f (insLo k n)) (insHi k n - insLo k n)) 5) ∧ w'.heap.size = w.heap.size + 2 ∧ Below w.heap.size w w' := by
  obtain ⟨i0, hi0, hz0, hz1, hz2⟩ := info_parts info5
  have hle := ins_le k n
  have hlo := ins_lo_lt k n
  have hcl := slabInside_any k n
  generalize insLo k n = lo at *
  generalize insHi k n = hi at *
  obtain ⟨hl1, hl2⟩ := hle
  have hmk : ∀ u : World, (Instr.makeSlice 135 (.int .i64 ((hi : Int) - (lo : Int))) (.int .i64 ((hi : Int) - (lo : Int)))).run Tryz.prog u =
      .ok (.slice (some ⟨u.heap.size, 0, none⟩) (hi - lo) (hi - lo)) (u.alloc (.cells (rowA nought (hi - lo)) 5)) := fun u => by
    have h := run_make (P := Tryz.prog) u 135 5 i0 (.int .u8 0) Tryz.underlying135 hi0 hz0 .i64 .i64 ((hi : Int) - (lo : Int)) ((hi : Int) - (lo : Int)) (by omega) (Int.le_refl _) (by rw [hz2]; omega) (by omega)
    rw [show ((hi : Int) - (lo : Int)).toNat = hi - lo by omega] at h
    simpa [hz1, Value.cells, made_row] using h
  clear hi0 hz0 hz1 hz2
  have hsl := slice25 w.heap.size lo hi hl1 hl2 hlo
  have hsrc : ∀ j, j < hi - lo → ((w.alloc (.cells (blk f) 47)).alloc (.cells (rowA nought (hi - lo)) 5)).cell? ⟨w.heap.size, lo + j, none⟩ = some (.int .u8 (from' f lo j)) := fun j hj =>
    cell_row (f := f) (m := 1024) (heap_alloc2_old _ _ _) (lo + j) (by omega)
  have HS : Hid (∀ j, j < hi - lo → ((w.alloc (.cells (blk f) 47)).alloc (.cells (rowA nought (hi - lo)) 5)).cell? ⟨w.heap.size, lo + j, none⟩ = some (.int .u8 (from' f lo j))) := hsrc
  have hov : rowA (over nought 0 (hi - lo) (from' f lo)) (hi - lo) = rowA (from' f lo) (hi - lo) := rowA_congr fun i hi => by unfold over; rw [if_pos (by omega), Nat.sub_zero]
  have HO : Hid (rowA (over nought 0 (hi - lo) (from' f lo)) (hi - lo) = rowA (from' f lo) (hi - lo)) := hov
  clear hsrc hov
  go_enter Tryz.func126, Tryz.ntmps126
  go_wp2_with fail
  refine (hcl _ ha hn).mono ?_
  rintro e w1 ⟨rfl, rfl⟩
  clear hcl
  go_wp2_with (first | refine wpList_copy5 rfl _ _ rfl _ _ _ _ _ _ _ _ rfl rfl nought (hi - lo) 5 (heap_alloc2_new _ _ _) (from' f lo) (hi - lo) (Nat.min_self _).symm HS.out (by omega) ?_)
  go_ret
  refine ⟨rfl, ?_, by simp, below2 _ _ _ _ (by omega) _⟩
  rw [← HO.out]
  exact setRow_heap _ _ _ _ _ _ (heap_alloc2_new _ _ _)
end Go.Proofs.YtiadlcjdpbkbkaaGreatK
/- Lay of slab: bytes laid into a block, those that come to lie inside; for every block, place and bytes. -/
namespace Go.Proofs.YtiadlcjdpbkbkaaGreatK
open Go.RowKit

/-- f with n bytes of q laid from place a on. -/
def layF (f : Nat → Int) (a : Int) (n : Nat) (q : Nat → Int) : Nat → Int := fun j => if a ≤ (j : Int) ∧ (j : Int) - a < (n : Int) then q ((j : Int) - a).toNat else f j

theorem lay_none (f : Nat → Int) (k : Int) (n : Nat) (q : Nat → Int) (h : ¬ insLo k n < insHi k n) : blk f = blk (layF f k n q) := blk_congr fun i hi => by
  unfold layF
  have := ins_iff k n i hi
  rw [if_neg (by omega)]
theorem lay_some (f : Nat → Int) (k : Int) (n : Nat) (q : Nat → Int) (h : insLo k n < insHi k n) :
    rowA (over f (insLo k n) (insHi k n - insLo k n) (from' q ((insLo k n : Int) - k).toNat)) 1024 = blk (layF f k n q) := rowA_congr fun i hi => by
  unfold over layF from'
  have h1 := ins_iff k n i hi
  have h2 := ins_lo k n h
  by_cases h3 : insLo k n ≤ i ∧ i < insHi k n
  · rw [if_pos (by omega), if_pos (h1.1 h3)]
    congr 1
    omega
  · rw [if_neg (by omega), if_neg (by omega)]

set_option maxRecDepth 20000 in
set_option maxHeartbeats 400000 in
theorem lay_skip (f : Nat → Int) (k : Int) (a : Option Addr) (n cap : Nat) (q : Nat → Int) (w : World) (ha : -9223372036854775808 ≤ k ∧ k ≤ 9223372036854775807) (hn : n ≤ 9223372036854775807) (h : ¬ insLo k n < insHi k n) :
    Calls Tryz.prog 89 #[.agg (blk f), .int .i64 k, .slice a n cap] w fun e w' => e = .returned (.agg (blk (layF f k n q))) ∧ Below w.heap.size w w' := by
  have HF : Hid (blk f = blk (layF f k n q)) := lay_none f k n q h
  have hcl := slabInside_any k n
  have z25 := zero25
  generalize insLo k n = lo at *
  generalize insHi k n = hi at *
  have h' : ¬ ((lo : Int) < (hi : Int)) := by omega
  clear h
  go_enter Tryz.func89, Tryz.ntmps89
  go_wp2_with fail
  refine (hcl _ ha (by omega)).mono ?_
  rintro e w1 ⟨rfl, rfl⟩
  clear hcl
  go_wp2_with (first | refine wpList_load25 rfl _ rfl _ rfl _ (heap_alloc2_old _ _ _) ?_ | refine wpList_store25 rfl _ _ rfl _ _ rfl rfl _ (heap_alloc2_new _ _ _) ?_)
  exact ret25 rfl (w.heap.size + 1) _ rfl (setRow_heap _ _ _ _ _ _ (heap_alloc2_new _ _ _)) rfl ⟨by rw [HF.out], below2 _ _ _ _ (by omega) _⟩

set_option maxRecDepth 20000 in
set_option maxHeartbeats 400000 in
theorem lay_copy (f : Nat → Int) (k : Int) (b off n cap : Nat) (q : Nat → Int) (w : World) (ha : -9223372036854775808 ≤ k ∧ k ≤ 9223372036854775807) (hn : n ≤ 9223372036854775807) (hcap : n ≤ cap)
    (hb : b < w.heap.size) (hc : ∀ i, i < n → w.cell? ⟨b, off + i, none⟩ = some (.int .u8 (q i))) (h : insLo k n < insHi k n) :
    Calls Tryz.prog 89 #[.agg (blk f), .int .i64 k, .slice (some ⟨b, off, none⟩) n cap] w fun e w' => e = .returned (.agg (blk (layF f k n q))) ∧ Below w.heap.size w w' := by
  have hle := ins_le k n
  have hlo := ins_lo_lt k n
  have hlk := ins_lo k n h
  have HF : Hid (rowA (over f (insLo k n) (insHi k n - insLo k n) (from' q ((insLo k n : Int) - k).toNat)) 1024 = blk (layF f k n q)) := lay_some f k n q h
  have hcl := slabInside_any k n
  have z25 := zero25
  generalize insLo k n = lo at *
  generalize insHi k n = hi at *
  obtain ⟨l, hl⟩ : ∃ l : Nat, (lo : Int) - k = (l : Int) := ⟨((lo : Int) - k).toNat, by omega⟩
  have hlt : ((lo : Int) - k).toNat = l := by omega
  rw [hlt] at HF
  have h' : ((lo : Int) < (hi : Int)) := by omega
  have hsl := slice25 w.heap.size lo hi hle.1 hle.2 hlo
  have hln : l < n := by omega
  have hwr : IntKind.i64.wrap ((lo : Int) - k) = (l : Int) := by rw [IntKind.wrap_i64]; omega
  have hln' : (l : Int) ≤ (n : Int) := by omega
  have hcp : ¬ cap = l := by omega
  have hsrc : ∀ j, j < hi - lo → ((w.alloc (.cells (blk f) 47)).alloc (.cells (blk nought) 47)).drew.cell? ⟨b, off + l + j, none⟩ = some (.int .u8 (from' q l j)) := fun j hj => by
    have h1 := hc (l + j) (by omega)
    rw [← Nat.add_assoc] at h1
    exact ((((Below.refl w.heap.size w).alloc (Nat.le_refl _) (.cells (blk f) 47)).alloc (by simp) (.cells (blk nought) 47)).cell (p := ⟨b, off + l + j, none⟩) hb).trans h1
  have HS : Hid (∀ j, j < hi - lo → ((w.alloc (.cells (blk f) 47)).alloc (.cells (blk nought) 47)).drew.cell? ⟨b, off + l + j, none⟩ = some (.int .u8 (from' q l j))) := hsrc
  have HB : Hid (((w.alloc (.cells (blk f) 47)).alloc (.cells (blk nought) 47)).drew.heap[w.heap.size]? = some (.cells (rowA f 1024) 47)) := heap_alloc2_old _ _ _
  have hE : lo + (hi - lo) ≤ 1024 := by omega
  have HE : Hid (lo + (hi - lo) ≤ 1024) := hE
  clear hE
  have HN : Hid (hi - lo = Nat.min (n - l) (hi - lo)) := show _ = _ from (Nat.min_eq_right (by omega)).symm
  clear hc hsrc hlt h hlo hln
  clear hl
  go_enter Tryz.func89, Tryz.ntmps89
  go_wp2_with fail
  refine (hcl _ ha (by omega)).mono ?_
  rintro e w1 ⟨rfl, rfl⟩
  clear hcl
  go_wp2
  go_still_tail 8, (by kernel_rfl)
  change wpList _ _ _ _ _ (World.drew _)
  refine wpList_copy5 rfl (.tmp 21) (.tmp 26) rfl w.heap.size lo (hi - lo) (1024 - lo) b (off + l) (n - l) (cap - l) rfl rfl f 1024 47 HB.out (from' q l) (hi - lo) HN.out HS.out HE.out ?_
  rw [HF.out]
  have h1 := setRow_heap _ w.heap.size (rowA f 1024) (blk (layF f k n q)) 47 (0, 0) HB.out
  have h2 : (((w.alloc (.cells (blk f) 47)).alloc (.cells (blk nought) 47)).drew.setRow w.heap.size (blk (layF f k n q))).heap[w.heap.size + 1]? = some (.cells (blk nought) 47) :=
    (setRow_other _ _ _ _ (by omega)).trans (heap_alloc2_new _ _ _)
  have h3 : Below w.heap.size w (((w.alloc (.cells (blk f) 47)).alloc (.cells (blk nought) 47)).drew.setRow w.heap.size (blk (layF f k n q))) :=
    below_setRow (((Below.refl _ _).alloc (Nat.le_refl _) _).alloc (by simp) _).drew (Nat.le_refl _) _
  generalize ((w.alloc (.cells (blk f) 47)).alloc (.cells (blk nought) 47)).drew.setRow w.heap.size (blk (layF f k n q)) = W at h1 h2 h3 ⊢
  clear HB HS HF hsl
  simp only [Act.put, List.setIfInBounds_toArray, List.set_cons_succ, List.set_cons_zero]
  go_wp2_with (first | refine wpList_load25 rfl _ rfl _ rfl _ h1 ?_ | refine wpList_store25 rfl _ _ rfl _ _ rfl rfl _ h2 ?_)
  exact ret25 rfl (w.heap.size + 1) _ rfl (setRow_heap _ _ _ _ _ _ h2) rfl ⟨rfl, below_setRow h3 (by omega) _⟩

theorem lay_any (f : Nat → Int) (k : Int) (p : Value) (n : Nat) (q : Nat → Int) (w : World) (ha : -9223372036854775808 ≤ k ∧ k ≤ 9223372036854775807) (hp : Lies w p n q) :
    Calls Tryz.prog 89 #[.agg (blk f), .int .i64 k, p] w fun e w' => e = .returned (.agg (blk (layF f k n q))) ∧ Below w.heap.size w w' := by
  rcases hp with ⟨a, cap, rfl, rfl, _⟩ | ⟨b, off, cap, rfl, hn, hcap, hb, hc⟩
  · refine lay_skip f k a 0 cap q w ha (by omega) ?_
    unfold insLo insHi; rw [if_pos (.inl (by omega)), if_pos (.inl (by omega))]; omega
  · unfold maxLen at hn
    by_cases h : insLo k n < insHi k n
    · exact lay_copy f k b off n cap q w ha (by omega) hcap hb hc h
    · exact lay_skip f k _ n cap q w ha (by omega) h
end Go.Proofs.YtiadlcjdpbkbkaaGreatK
/- Numbers of some bytes, the lowest first: read and laid, as plain functions; the bytes are 0 to 255. -/
namespace Go.Proofs.YtiadlcjdpbkbkaaGreatK
open Go.RowKit

/-- The number of m bytes from place k on. -/
def numN (f : Nat → Int) (k : Nat) : Nat → Int
  | 0 => 0
  | m + 1 => f k + 256 * numN f (k + 1) m
/-- The number of n bytes from at on, if all are inside. -/
def num (f : Nat → Int) (at' : Int) (n : Nat) : Int := if 0 ≤ at' ∧ at' ≤ 1024 - (n : Int) then numN f at'.toNat n else 0
/-- f with m bytes of v laid from place k on. -/
def putN (f : Nat → Int) (k : Nat) (v : Int) : Nat → Nat → Int
  | 0 => f
  | m + 1 => putN (upd f k (v % 256)) (k + 1) (v / 256) m
def put (f : Nat → Int) (at' : Int) (n : Nat) (v : Int) : Nat → Int := if 0 ≤ at' ∧ at' ≤ 1024 - (n : Int) then putN f at'.toNat v n else f

theorem numN_bd (f : Nat → Int) (hf : ∀ i, 0 ≤ f i ∧ f i ≤ 255) : ∀ (m k : Nat), 0 ≤ numN f k m ∧ numN f k m < 256 ^ m
  | 0, _ => by simp [numN]
  | m + 1, k => by
    have h1 := numN_bd f hf m (k + 1)
    have h2 := hf k
    simp only [numN, Int.pow_succ]
    omega
theorem num2 (f : Nat → Int) (k : Nat) : numN f k 2 = f k + 256 * f (k + 1) := by simp [numN]
theorem num4 (f : Nat → Int) (k : Nat) : numN f k 4 = f k + 256 * f (k + 1) + 65536 * f (k + 2) + 16777216 * f (k + 3) := by
  simp only [numN, Nat.add_assoc, Nat.reduceAdd]; omega
theorem num_in (f : Nat → Int) (k n : Nat) (h : k + n ≤ 1024) : num f (k : Int) n = numN f k n := by
  unfold num; rw [if_pos (by omega), Int.toNat_natCast]
theorem num_out (f : Nat → Int) (a : Int) (n : Nat) (h : a < 0 ∨ 1024 - (n : Int) < a) : num f a n = 0 := by
  unfold num; rw [if_neg (by omega)]
theorem put_in (f : Nat → Int) (k n : Nat) (v : Int) (h : k + n ≤ 1024) : put f (k : Int) n v = putN f k v n := by
  unfold put; rw [if_pos (by omega), Int.toNat_natCast]
theorem put_out (f : Nat → Int) (a : Int) (n : Nat) (v : Int) (h : a < 0 ∨ 1024 - (n : Int) < a) : put f a n v = f := by
  unfold put; rw [if_neg (by omega)]
theorem put2 (f : Nat → Int) (k : Nat) (v : Int) (hv : 0 ≤ v ∧ v < 65536) : putN f k v 2 = upd (upd f k (v % 256)) (k + 1) (v / 256) := by
  simp only [putN]
  rw [show v / 256 % 256 = v / 256 by omega]
theorem put4 (f : Nat → Int) (k : Nat) (v : Int) (hv : 0 ≤ v ∧ v < 4294967296) : putN f k v 4 = upd (upd (upd (upd f k (v % 256)) (k + 1) (v / 256 % 256)) (k + 2) (v / 65536 % 256)) (k + 3) (v / 16777216) := by
  simp only [putN, Nat.add_assoc, Nat.reduceAdd]
  rw [show v / 256 / 256 % 256 = v / 65536 % 256 by omega, show v / 256 / 256 / 256 % 256 = v / 16777216 by omega]
theorem num_bd (f : Nat → Int) (hf : ∀ i, 0 ≤ f i ∧ f i ≤ 255) (a : Int) (n : Nat) : 0 ≤ num f a n ∧ num f a n < 256 ^ n := by
  unfold num
  split
  · exact numN_bd f hf _ _
  · exact ⟨Int.le_refl _, Int.pow_pos (by decide)⟩

theorem wrap_u8 (n : Int) : IntKind.u8.wrap n = n % 256 := by simp [IntKind.wrap, IntKind.bits, IntKind.signed]
theorem wrap_u16 (n : Int) : IntKind.u16.wrap n = n % 65536 := by simp [IntKind.wrap, IntKind.bits, IntKind.signed]
theorem wrap_u32 (n : Int) : IntKind.u32.wrap n = n % 4294967296 := by simp [IntKind.wrap, IntKind.bits, IntKind.signed]

theorem or_comm' (k : IntKind) (x y : Int) : bits .or k x y = bits .or k y x := by simp only [bits, BitVec.or_comm]
theorem or16 (a b : Int) (ha : 0 ≤ a ∧ a ≤ 255) (hb : 0 ≤ b ∧ b ≤ 255) : bits .or .u16 (IntKind.u16.wrap a) (IntKind.u16.wrap (IntKind.u16.wrap b * 256)) = a + 256 * b := by
  simp only [wrap_u16]
  have h1 : a % 65536 = a := by omega
  have h2 : b % 65536 * 256 % 65536 = 256 * b := by omega
  rw [h1, h2, or_comm', bits_join .u16 16 (by decide) (fun n h0 h1 => by rw [wrap_u16]; omega) 8 (256 * b) a (by omega) (by omega) (by omega) (by omega) (by omega) (by omega)]
  omega
theorem or32 (i : Nat) (x y : Int) (hx0 : 0 ≤ x) (hx : x % 2 ^ i = 0) (hx1 : x < 2 ^ 32) (hy0 : 0 ≤ y) (hy : y < 2 ^ i) (hy1 : y < 2 ^ 32) : bits .or .u32 y x = y + x := by
  rw [or_comm', bits_join .u32 32 (by decide) (fun n h0 h1 => by rw [wrap_u32]; omega) i x y hx0 hx hx1 hy0 hy hy1]
  omega
theorem or32all (a b c d : Int) (ha : 0 ≤ a ∧ a ≤ 255) (hb : 0 ≤ b ∧ b ≤ 255) (hc : 0 ≤ c ∧ c ≤ 255) (hd : 0 ≤ d ∧ d ≤ 255) :
    bits .or .u32 (bits .or .u32 (bits .or .u32 (IntKind.u32.wrap a) (IntKind.u32.wrap (IntKind.u32.wrap b * 256))) (IntKind.u32.wrap (IntKind.u32.wrap c * 65536))) (IntKind.u32.wrap (IntKind.u32.wrap d * 16777216)) = a + 256 * b + 65536 * c + 16777216 * d := by
  simp only [wrap_u32]
  have h1 : a % 4294967296 = a := by omega
  have h2 : b % 4294967296 * 256 % 4294967296 = 256 * b := by omega
  have h3 : c % 4294967296 * 65536 % 4294967296 = 65536 * c := by omega
  have h4 : d % 4294967296 * 16777216 % 4294967296 = 16777216 * d := by omega
  rw [h1, h2, h3, h4, or32 8 (256 * b) a (by omega) (by omega) (by omega) (by omega) (by omega) (by omega),
    or32 16 (65536 * c) (a + 256 * b) (by omega) (by omega) (by omega) (by omega) (by omega) (by omega),
    or32 24 (16777216 * d) (a + 256 * b + 65536 * c) (by omega) (by omega) (by omega) (by omega) (by omega) (by omega)]
end Go.Proofs.YtiadlcjdpbkbkaaGreatK
/- U16 and U32 of slab: the number of the bytes at a place, or nought; for every block of bytes and every place. -/
namespace Go.Proofs.YtiadlcjdpbkbkaaGreatK
open Go.RowKit

theorem ret_int {k : IntKind} {a b : Int} (h : a = b) : Ending.returned (.int k a) = .returned (.int k b) := by rw [h]

set_option maxRecDepth 20000 in
set_option maxHeartbeats 400000 in
theorem u16_in (f : Nat → Int) (k : Nat) (w : World) (hk : (k : Int) ≤ 1022) (hf : ∀ i, 0 ≤ f i ∧ f i ≤ 255) :
    Calls Tryz.prog 129 #[.agg (blk f), .int .i64 k] w fun e w' => e = .returned (.int .u16 (f k + 256 * f (k + 1))) ∧ Below w.heap.size w w' := by
  have hb0 := blk_get f k (by omega)
  have hb1 := blk_get f (k + 1) (by omega)
  go_enter Tryz.func129, Tryz.ntmps129
  go_wp2
  go_quiet (fail)
  go_wp2
  go_ret
  exact ⟨ret_int (or16 _ _ (hf k) (hf (k + 1))), below_drewN ((Below.refl _ _).alloc (Nat.le_refl _) _) _⟩
set_option maxRecDepth 20000 in
set_option maxHeartbeats 400000 in
theorem u16_out (f : Nat → Int) (k : Int) (w : World) (hk : k < 0 ∨ 1022 < k) :
    Calls Tryz.prog 129 #[.agg (blk f), .int .i64 k] w fun e w' => e = .returned (.int .u16 0) ∧ Below w.heap.size w w' := by
  rcases hk with hk | hk
  · have hk' : ¬ (0 ≤ k) := by omega
    go_enter Tryz.func129, Tryz.ntmps129
    go_wp2
    go_ret
    exact ⟨rfl, (Below.refl _ _).alloc (Nat.le_refl _) _⟩
  · have hk' : ¬ (k ≤ 1022) := by omega
    have hk0 : 0 ≤ k := by omega
    go_enter Tryz.func129, Tryz.ntmps129
    go_wp2
    go_ret
    exact ⟨rfl, (Below.refl _ _).alloc (Nat.le_refl _) _⟩
theorem u16_any (f : Nat → Int) (k : Int) (w : World) (hf : ∀ i, 0 ≤ f i ∧ f i ≤ 255) :
    Calls Tryz.prog 129 #[.agg (blk f), .int .i64 k] w fun e w' => e = .returned (.int .u16 (num f k 2)) ∧ Below w.heap.size w w' := by
  by_cases h : k < 0 ∨ 1022 < k
  · rw [num_out f k 2 (by omega)]; exact u16_out f k w h
  · obtain ⟨m, rfl⟩ := Int.eq_ofNat_of_zero_le (show 0 ≤ k by omega)
    rw [num_in f m 2 (by omega), num2]; exact u16_in f m w (by omega) hf

set_option maxRecDepth 20000 in
set_option maxHeartbeats 400000 in
theorem u32_in (f : Nat → Int) (k : Nat) (w : World) (hk : (k : Int) ≤ 1020) (hf : ∀ i, 0 ≤ f i ∧ f i ≤ 255) :
    Calls Tryz.prog 106 #[.agg (blk f), .int .i64 k] w fun e w' => e = .returned (.int .u32 (f k + 256 * f (k + 1) + 65536 * f (k + 2) + 16777216 * f (k + 3))) ∧ Below w.heap.size w w' := by
  have hb0 := blk_get f k (by omega)
  have hb1 := blk_get f (k + 1) (by omega)
  have hb2 := blk_get f (k + 2) (by omega)
  have hb3 := blk_get f (k + 3) (by omega)
  go_enter Tryz.func106, Tryz.ntmps106
  go_wp2
  go_quiet (fail)
  go_wp2
  go_ret
  exact ⟨ret_int (or32all _ _ _ _ (hf k) (hf (k + 1)) (hf (k + 2)) (hf (k + 3))), below_drewN ((Below.refl _ _).alloc (Nat.le_refl _) _) _⟩
set_option maxRecDepth 20000 in
set_option maxHeartbeats 400000 in
theorem u32_out (f : Nat → Int) (k : Int) (w : World) (hk : k < 0 ∨ 1020 < k) :
    Calls Tryz.prog 106 #[.agg (blk f), .int .i64 k] w fun e w' => e = .returned (.int .u32 0) ∧ Below w.heap.size w w' := by
  rcases hk with hk | hk
  · have hk' : ¬ (0 ≤ k) := by omega
    go_enter Tryz.func106, Tryz.ntmps106
    go_wp2
    go_ret
    exact ⟨rfl, (Below.refl _ _).alloc (Nat.le_refl _) _⟩
  · have hk' : ¬ (k ≤ 1020) := by omega
    have hk0 : 0 ≤ k := by omega
    go_enter Tryz.func106, Tryz.ntmps106
    go_wp2
    go_ret
    exact ⟨rfl, (Below.refl _ _).alloc (Nat.le_refl _) _⟩
theorem u32_any (f : Nat → Int) (k : Int) (w : World) (hf : ∀ i, 0 ≤ f i ∧ f i ≤ 255) :
    Calls Tryz.prog 106 #[.agg (blk f), .int .i64 k] w fun e w' => e = .returned (.int .u32 (num f k 4)) ∧ Below w.heap.size w w' := by
  by_cases h : k < 0 ∨ 1020 < k
  · rw [num_out f k 4 (by omega)]; exact u32_out f k w h
  · obtain ⟨m, rfl⟩ := Int.eq_ofNat_of_zero_le (show 0 ≤ k by omega)
    rw [num_in f m 4 (by omega), num4]; exact u32_in f m w (by omega) hf

end Go.Proofs.YtiadlcjdpbkbkaaGreatK
