/- Several texts joined, each with its own remark; no condition. -/
import Derived.Test.YtlcdpmjdnihocaaJ8
import Derived.Test.YtlcdpmjdnihocaaJ3
import Derived.Test.YtlcdpmjdnihocaaJ2
import Derived.Deep.Cut
import Derived.Deep.CutRange
import Derived.Deep.Slices
import Derived.ProofKit
import Derived.OpenShut
/- What an image that may be tells when it is loaded; no condition. -/
namespace Go.Proofs.YtlcdpmjdnihocaaD
open Go.RowKit Go.Maps
theorem rises_rise {n : Int} : ∀ (l : List Cel) (a : Int), risesB n a l = true → Rise a l
  | [], _, _ => trivial
  | (i, x) :: t, a, h => by
    unfold risesB at h
    simp at h
    exact ⟨by omega, rises_rise t i h.2⟩
theorem rises_sound {n : Int} {l : List Cel} {a : Int} (ha : -1 ≤ a) (h : risesB n a l = true) (hc : ∀ c ∈ l, Can c.2) : Sound l := fun c hm => by
  have h1 := (rises_bounds l a ha h c hm).2.2
  refine ⟨hc c hm, fun q => ?_⟩
  rw [((hc c hm).blank).2 q] at h1
  cases h1
theorem may_rises {n : Int} {l : List Cel} (h : mayB n l = true) : bndB n = true ∧ risesB n (-1) l = true := by
  unfold mayB at h
  simpa using h
theorem load_get {n : Int} {l : List Cel} (h : mayB n l = true) (hc : ∀ c ∈ l, Can c.2) (k : Int) : ((loadV n l).held k).getD nought = atL l k := by
  unfold loadV
  rw [holdAll_get l (newV n) hc]
  exact lastV_at l (-1) (rises_rise l _ (may_rises h).2)
theorem load_one {n : Int} {l lx : List Cel} (h : mayB n l = true) (hc : ∀ c ∈ l, Can c.2) {s : St} (hs : s.held = (loadV n l).held) (hi : IsImage s lx) : lx = l :=
  hi.one (rises_rise l _ (may_rises h).2) (rises_sound (by omega) (may_rises h).2 hc) fun k => by rw [hs]; exact (load_get h hc k).symm
theorem rise_at : ∀ {m : Int} {l : List Cel}, Rise m l → ∀ {i : Nat} {c : Cel}, l[i]? = some c → atL l c.1 = c.2
  | _, [], _, i, c, h => by simp at h
  | m, (i0, x) :: t, hr, 0, c, h => by
    have e : (i0, x) = c := by simpa using h
    subst e
    unfold atL
    rw [if_pos rfl]
  | m, (i0, x) :: t, hr, i + 1, c, h => by
    have h' : t[i]? = some c := by simpa using h
    have h2 := rise_ne t i0 hr.2 c (List.mem_of_getElem? h')
    unfold atL
    rw [if_neg (by omega)]
    exact rise_at hr.2 h'
/-- A disk that was read k times. -/
def rdK (s : St) (k : Nat) : St := { s with reads := s.reads + k }
theorem rdK_zero (s : St) : rdK s 0 = s := by unfold rdK; simp
theorem rdK_succ (s : St) (k : Nat) : readS (rdK s k) = rdK s (k + 1) := by
  have e : s.reads + (k : Int) + 1 = s.reads + ((k + 1 : Nat) : Int) := by omega
  show ({ s with reads := s.reads + (k : Int) + 1 } : St) = { s with reads := s.reads + ((k + 1 : Nat) : Int) }
  rw [e]
theorem loadV_same (n : Int) (l : List Cel) : (loadV n l).n = n ∧ (loadV n l).wait = [] ∧ (loadV n l).stopped = false ∧ (loadV n l).reads = 0 ∧ (loadV n l).made = 0 ∧ (loadV n l).claims = 0 ∧ (loadV n l).ops = [] := by
  obtain ⟨h, e⟩ := holdAll_same l (newV n)
  unfold loadV
  rw [e]
  exact ⟨rfl, rfl, rfl, rfl, rfl, rfl, rfl⟩
end Go.Proofs.YtlcdpmjdnihocaaD
/- Regions whose order is drawn, where what was read is written over at the end: A holds all along, B until the operation m has come up; what m waits for may be read under B. -/
namespace Go.Proofs.YtlcdpmjdnihocaaD
open Go.RowKit
section
variable {P : Program} {ops : Array Oper} {Q : Exit → Act → World → Prop} {A B : World → Prop} {m : Nat}
/-- What is asked behind an operation: A, and B as long as m is to come. -/
def PhS (A B : World → Prop) (m : Nat) (L : Array Bool) (w : World) : Prop := A w ∧ (L.getD m true = false → B w)
/-- Whatever order comes up from here on. -/
def anyPh (P : Program) (ops : Array Oper) (Q : Exit → Act → World → Prop) (A B : World → Prop) (m : Nat) : Nat → Array Bool → Act → World → Prop
  | 0, L, a, w => Region.ready .any ops L = [] ∧ Q .normal a w
  | n + 1, L, a, w => (Region.ready .any ops L = [] → Q .normal a w) ∧ ∀ i ∈ Region.ready .any ops L, wpOp P ops Q i (fun a' w' => PhS A B m (L.setIfInBounds i true) w' ∧ anyPh P ops Q A B m n (L.setIfInBounds i true) a' w') a w
theorem anyPh_any : ∀ (n : Nat) (L : Array Bool) (a : Act) (w : World), anyPh P ops Q A B m n L a w → wpAny P .any ops Q n L a w
  | 0, _, _, _, h => h
  | n + 1, _, _, _, h => ⟨h.1, fun i hi => wpOp_mono (fun a' w' h' => anyPh_any n _ a' w' h'.2) (h.2 i hi)⟩
theorem unlisted_of_ready {i j : Nat} {L : Array Bool} {oj : Oper} (hi : i ∈ Region.ready .any ops L) (hj : j ∈ Region.ready .any ops L) (hoj : ops[j]? = some oj) : ∀ e ∈ oj.after, Region.binds .any e = true → e.on ≠ i := fun e he hb heq => by
  obtain ⟨_, o, ho, hall⟩ := mem_ready.1 hj
  rw [hoj] at ho
  cases ho
  have h1 := hall e he hb
  have h0 := (mem_ready.1 hi).1
  rw [heq] at h1
  rcases Nat.lt_or_ge i L.size with h' | h'
  · simp [h'] at h0 h1
    rw [h0] at h1
    cases h1
  · simp [Array.getElem?_eq_none h'] at h1
/-- An operation is taken first: V is what it reads under; V holds as long as it is to come. -/
theorem anyPh_first {V : World → Prop} {i : Nat} {oi : Oper} {v : Value} (hi : ops[i]? = some oi) (hsel : ∀ (j : Nat) (o : Oper) cs b, ops[j]? = some o → o.op ≠ .select cs b) (hQ : ∀ c a w, Q (.panic c) (a.put oi.dst v) w → Q (.panic c) a w) (him : i ≠ m)
    (hV : (∀ w, A w → V w) ∨ ((∀ w, A w → B w → V w) ∧ ∀ om, ops[m]? = some om → ∃ e ∈ om.after, Region.binds .any e = true ∧ e.on = i)) :
    ∀ (n : Nat) (L : Array Bool) (a : Act) (w : World), (∀ j oj, ops[j]? = some oj → j ≠ i → L.getD j true = false → (∀ e ∈ oj.after, Region.binds .any e = true → e.on ≠ i) → oi.apart ops oj = true) →
      ((∀ w, A w → V w) ∨ L.getD m true = false) → i ∈ Region.ready .any ops L → YieldsIf P ops V oi v a → PhS A B m L w → anyPh P ops Q A B m n (L.setIfInBounds i true) (a.put oi.dst v) w → anyPh P ops Q A B m (n + 1) L a w := by
  have same : ∀ (L : Array Bool) (w : World), PhS A B m (L.setIfInBounds i true) w ↔ PhS A B m L w := fun L w => by
    unfold PhS
    rw [getD_set_ne true him]
  have reads : ∀ (L : Array Bool) (w : World), ((∀ w, A w → V w) ∨ L.getD m true = false) → PhS A B m L w → V w := fun L w hL h => by
    rcases hV with q | ⟨q, _⟩
    · exact q w h.1
    · rcases hL with q2 | q2
      · exact q2 w h.1
      · exact q w h.1 (h.2 q2)
  intro n
  induction n with
  | zero =>
    intro L a w _ hL hr hy hS H
    refine ⟨fun h => (by rw [h] at hr; cases hr), fun j hj => ?_⟩
    by_cases hji : j = i
    · subst hji
      exact hy.wpOp hi (reads L w hL hS) ⟨(same L w).2 hS, H⟩
    · have := ready_mono hj hji
      rw [H.1] at this
      cases this
  | succ n ih =>
    intro L a w hfree hL hr hy hS H
    refine ⟨fun h => (by rw [h] at hr; cases hr), fun j hj => ?_⟩
    by_cases hji : j = i
    · subst hji
      exact hy.wpOp hi (reads L w hL hS) ⟨(same L w).2 hS, H⟩
    · obtain ⟨hjun, oj, hoj, _⟩ := mem_ready.1 hj
      have hnot := unlisted_of_ready hr hj hoj
      have h2 := wpOp_putIf hoj (hfree j oj hoj hji hjun hnot) (fun cs b => hsel i oi cs b hi) (fun cs b => hsel j oj cs b hoj) hQ hy (H.2 j (ready_mono hj hji))
      have hL' : (∀ w, A w → V w) ∨ (L.setIfInBounds j true).getD m true = false := by
        rcases hV with q | ⟨_, q⟩
        · exact .inl q
        · rcases hL with q2 | q2
          · exact .inl q2
          · refine .inr ?_
            have hjm : j ≠ m := fun e => by
              subst e
              obtain ⟨e, h1, h2, h3⟩ := q oj hoj
              exact hnot e h1 h2 h3
            rw [getD_set_ne true hjm]
            exact q2
      refine wpOp_mono (fun a' w' h3 => ?_) h2
      have h4 : PhS A B m (L.setIfInBounds j true) w' := by
        refine (same _ w').1 ?_
        rw [Array.setIfInBounds_comm _ _ hji]
        exact h3.2.1
      refine ⟨h4, ih (L.setIfInBounds j true) a' w' (fun k ok hk hki hun hno => hfree k ok hk hki ?_ hno) hL' (ready_mono hr (Ne.symm hji)) h3.1 h4 ?_⟩
      · by_cases hjk : j = k
        · subst hjk
          exact hjun
        · rw [getD_set_ne true hjk] at hun
          exact hun
      · rw [Array.setIfInBounds_comm _ _ hji]
        exact h3.2.2
/-- May the operations be taken in this order? 0: a read under A; 1: a read under B, that m waits for; else: nothing else may come up. -/
def ordC (ops : Array Oper) (m : Nat) : List (Nat × Nat) → Array Bool → Bool
  | [], L => (Region.ready .any ops L).isEmpty
  | (i, 0) :: r, L => (Region.ready .any ops L).contains i && Region.free .any ops L i && (ops[i]?).isSome && (i != m) && ordC ops m r (L.setIfInBounds i true)
  | (i, 1) :: r, L => (Region.ready .any ops L).contains i && Region.free .any ops L i && (ops[i]?).isSome && (i != m) && (!(L.getD m true)) && (match ops[m]? with | some om => om.after.any fun e => Region.binds .any e && (e.on == i) | none => false) && ordC ops m r (L.setIfInBounds i true)
  | (i, _) :: r, L => (Region.ready .any ops L == [i]) && (ops[i]?).isSome && ordC ops m r (L.setIfInBounds i true)
/-- The operations themselves, in that order. -/
def inOrdC (ol : List Oper) (m : Nat) : List (Nat × Nat) → List (Nat × Bool × Oper)
  | [] => []
  | (i, k) :: r => match ol[i]? with
    | some o => (k, i == m, o) :: inOrdC ol m r
    | none => inOrdC ol m r
def wpPh (P : Program) (ops : Array Oper) (Q : Exit → Act → World → Prop) (A B : World → Prop) : List (Nat × Bool × Oper) → Bool → Act → World → Prop
  | [], _, a, w => Q .normal a w
  | (0, _, o) :: r, f, a, w => ∃ v, YieldsIf P ops A o v a ∧ wpPh P ops Q A B r f (a.put o.dst v) w
  | (1, _, o) :: r, f, a, w => ∃ v, YieldsIf P ops (fun w => A w ∧ B w) o v a ∧ wpPh P ops Q A B r f (a.put o.dst v) w
  | (_, mm, o) :: r, f, a, w => if Region.wanted o (yielded ops a.tmps) then o.wp P a w (fun a' w' => (A w' ∧ ((f || mm) = false → B w')) ∧ wpPh P ops Q A B r (f || mm) a' w') Q else (A w ∧ ((f || mm) = false → B w)) ∧ wpPh P ops Q A B r (f || mm) (a.put o.dst undef) w
theorem listed_next {L : Array Bool} {f : Bool} {i : Nat} (hf : L.getD m true = f) : (L.setIfInBounds i true).getD m true = (f || (i == m)) := by
  by_cases e : i = m
  · subst e
    rw [beq_self_eq_true, Bool.or_true]
    rcases Nat.lt_or_ge i L.size with h | h
    · simp [h]
    · simp [h]
  · rw [getD_set_ne true e, hf, beq_false_of_ne e, Bool.or_false]
theorem wpPh_any {ol : List Oper} (hs : Region.noSelect ol.toArray = true) (hQ : ∀ d v c a w, Q (.panic c) (a.put d v) w → Q (.panic c) a w) : ∀ (l : List (Nat × Nat)) (L : Array Bool) (f : Bool) (a : Act) (w : World), L.getD m true = f → PhS A B m L w →
    ordC ol.toArray m l L = true → wpPh P ol.toArray Q A B (inOrdC ol m l) f a w → anyPh P ol.toArray Q A B m l.length L a w
  | [], L, f, a, w, _, _, hB, h => ⟨by simpa [ordC] using hB, h⟩
  | (i, 0) :: r, L, f, a, w, hf, hS, hB, h => by
    simp only [ordC, Bool.and_eq_true, bne_iff_ne, ne_eq] at hB
    obtain ⟨⟨⟨⟨h1, h2⟩, h3⟩, h4⟩, h5⟩ := hB
    obtain ⟨o, hi⟩ := Option.isSome_iff_exists.1 h3
    have hi' : ol[i]? = some o := by simpa using hi
    simp only [inOrdC, hi', wpPh] at h
    obtain ⟨v, hy, hr⟩ := h
    have hn := listed_next (i := i) hf
    rw [beq_false_of_ne h4, Bool.or_false] at hn
    exact anyPh_first (V := A) hi (Region.noSelect_spec hs) (fun c a w => hQ _ _ c a w) h4 (.inl fun _ q => q) _ _ a w (Region.free_spec hi h2) (.inl fun _ q => q) (by simpa using h1) hy hS (wpPh_any hs hQ r _ f _ w hn (by unfold PhS at hS ⊢; rw [getD_set_ne true h4]; exact hS) h5 hr)
  | (i, 1) :: r, L, f, a, w, hf, hS, hB, h => by
    simp only [ordC, Bool.and_eq_true, bne_iff_ne, ne_eq, Bool.not_eq_true'] at hB
    obtain ⟨⟨⟨⟨⟨⟨h1, h2⟩, h3⟩, h4⟩, h6⟩, h7⟩, h5⟩ := hB
    obtain ⟨o, hi⟩ := Option.isSome_iff_exists.1 h3
    have hi' : ol[i]? = some o := by simpa using hi
    simp only [inOrdC, hi', wpPh] at h
    obtain ⟨v, hy, hr⟩ := h
    have hn := listed_next (i := i) hf
    rw [beq_false_of_ne h4, Bool.or_false] at hn
    refine anyPh_first (V := fun w => A w ∧ B w) hi (Region.noSelect_spec hs) (fun c a w => hQ _ _ c a w) h4 (.inr ⟨fun _ q1 q2 => ⟨q1, q2⟩, fun om hom => ?_⟩) _ _ a w (Region.free_spec hi h2) (.inr h6) (by simpa using h1) hy hS (wpPh_any hs hQ r _ f _ w hn (by unfold PhS at hS ⊢; rw [getD_set_ne true h4]; exact hS) h5 hr)
    rw [hom] at h7
    simp only [Array.any_eq_true, Bool.and_eq_true, beq_iff_eq] at h7
    obtain ⟨k, hk, q1, q2⟩ := h7
    exact ⟨_, Array.getElem_mem hk, q1, q2⟩
  | (i, k + 2) :: r, L, f, a, w, hf, hS, hB, h => by
    simp only [ordC, Bool.and_eq_true, beq_iff_eq] at hB
    obtain ⟨⟨h1, h3⟩, h2⟩ := hB
    obtain ⟨o, hi⟩ := Option.isSome_iff_exists.1 h3
    have hi' : ol[i]? = some o := by simpa using hi
    simp only [inOrdC, hi', wpPh] at h
    have hn := listed_next (i := i) hf
    have ph : ∀ w', (A w' ∧ ((f || (i == m)) = false → B w')) → PhS A B m (L.setIfInBounds i true) w' := fun w' q => by
      unfold PhS
      rw [hn]
      exact q
    refine ⟨fun q => (by rw [h1] at q; cases q), fun j hj => ?_⟩
    rw [h1] at hj
    obtain rfl : j = i := by simpa using hj
    unfold wpOp
    rw [hi]
    simp only
    split
    · rename_i hw
      rw [if_pos hw] at h
      exact .inl (Oper.wp_mono (fun a' w' h' => ⟨ph w' h'.1, wpPh_any hs hQ r _ _ a' w' hn (ph w' h'.1) h2 h'.2⟩) h)
    · rename_i hw
      rw [if_neg hw] at h
      exact ⟨ph w h.1, wpPh_any hs hQ r _ _ _ w hn (ph w h.1) h2 h.2⟩
/-- A region that draws its order, walked in the order l. -/
theorem wp_region_ph {id : Nat} {a : Act} {w : World} {ol : List Oper} (m : Nat) (l : List (Nat × Nat)) (hm : P.follows .mixedOrders = true) (hl : l.length = ol.length)
    (hB : (Region.noSelect ol.toArray && (!((Array.replicate ol.toArray.size false).getD m true)) && ordC ol.toArray m l (Array.replicate ol.toArray.size false)) = true) (hQ : ∀ d v c a w, Q (.panic c) (a.put d v) w → Q (.panic c) a w)
    (hA : A w.drew) (hB0 : B w.drew) (h : wpPh P ol.toArray Q A B (inOrdC ol m l) false a w.drew) : (Code.region id ol.toArray true).wp P Q a w := by
  simp only [Bool.and_eq_true, Bool.not_eq_true'] at hB
  have h1 := wpPh_any hB.1.1 hQ l _ false a w.drew hB.1.2 ⟨hA, fun _ => hB0⟩ hB.2 h
  rw [hl] at h1
  exact wp_region_any hm (anyPh_any _ _ _ _ (by simpa using h1))
section
variable {r : List (Nat × Bool × Oper)} {mm f : Bool} {a : Act} {w w' : World} {o : Oper} {v : Value}
/-- The steps of such a walk: a read under A, a read under B, something that is made, something that is done, a call. -/
theorem wpPh_yield (hw : Region.wanted o (yielded ops a.tmps) = true) (hr : ∀ u, A u → (execOp a.eval o).run P u = .ok (.value v) u) (h : wpPh P ops Q A B r f (a.put o.dst v) w) : wpPh P ops Q A B ((0, mm, o) :: r) f a w := ⟨v, .inl ⟨hw, hr⟩, h⟩
theorem wpPh_read (hw : Region.wanted o (yielded ops a.tmps) = true) (hr : ∀ u, A u → B u → (execOp a.eval o).run P u = .ok (.value v) u) (h : wpPh P ops Q A B r f (a.put o.dst v) w) : wpPh P ops Q A B ((1, mm, o) :: r) f a w := ⟨v, .inl ⟨hw, fun u q => hr u q.1 q.2⟩, h⟩
theorem wpPh_make (hw : Region.wanted o (yielded ops a.tmps) = true) (hr : (execOp a.eval o).run P w = .ok (.value v) w') (hS : A w' ∧ ((f || mm) = false → B w')) (h : wpPh P ops Q A B r (f || mm) (a.put o.dst v) w') : wpPh P ops Q A B ((2, mm, o) :: r) f a w := by
  simp only [wpPh, hw, if_true]
  unfold Oper.wp
  rw [hr]
  exact ⟨hS, h⟩
theorem wpPh_do (hw : Region.wanted o (yielded ops a.tmps) = true) (hr : (execOp a.eval o).run P w = .ok .skip w') (hS : A w' ∧ ((f || mm) = false → B w')) (h : wpPh P ops Q A B r (f || mm) (a.put o.dst undef) w') : wpPh P ops Q A B ((2, mm, o) :: r) f a w := by
  simp only [wpPh, hw, if_true]
  unfold Oper.wp
  rw [hr]
  exact ⟨hS, h⟩
theorem wpPh_call (hw : Region.wanted o (yielded ops a.tmps) = true) (fn : FuncId) (xs : List Operand) (ts : Array TypeId) (ho : o.op = .call { callee := .value (.func fn), args := xs.toArray, argTypes := ts }) (hc : ∀ args u, (callFunc fn args).run P u = .ok (.enter fn args) u) (args : List Value) (hx : xs.map a.eval = args)
    (h : Calls P fn args.toArray w fun e w' => ∃ v, e = .returned v ∧ (A w' ∧ ((f || mm) = false → B w')) ∧ wpPh P ops Q A B r (f || mm) (a.put o.dst v) w') : wpPh P ops Q A B ((2, mm, o) :: r) f a w := by
  simp only [wpPh, hw, if_true]
  unfold Oper.wp execOp
  have e : (do let d ← resolve a.eval { callee := .value (.func fn), args := xs.toArray, argTypes := ts } o.type; invoke d.target d.args : Sem Next).run P w = .ok (.enter fn args.toArray) w := by
    have hx' : xs.toArray.map a.eval = args.toArray := by rw [← hx]; simp
    simp only [resolve, hx']
    simp [Act.eval, Deferred.ofValue, invoke, hc]
  simp only [ho]
  rw [e]
  unfold Oper.upon
  exact h.mono fun e w' ⟨v, he, h1, h2⟩ => by subst he; exact ⟨h1, h2⟩
end
end
end Go.Proofs.YtlcdpmjdnihocaaD
/- Lists of blocks with their numbers that grow; copies of them; of fewer bytes than memory has. -/
namespace Go.Proofs.YtlcdpmjdnihocaaD
open Go.RowKit Go.Maps
section
variable {w W W' : World} {v v' : Value}
theorem append_gen {st e : TypeId} {i : TypeInfo} {z : Value} {size bytes : Nat} (ht : Try.prog.underlying st = some (.slice e)) (hi : Try.prog.info? e = some i) (hz : i.zero = some z) (hsize : i.size = size) (hby : i.bytes = bytes) (hzs : z.cells.size = size) (hsz : 0 < size)
    {B : Nat} {n : Nat} {xs : List Value} (hown : W.ownsRow B e size v n xs) {ad : Addr} {m c : Nat} {news : List Value} (hm : 0 < m) (hl : news.length = m * size)
    (hnews : ∀ j u, news[j]? = some u → W.cell? (ad.add j) = some u) (h1 : ∀ u ∈ news, u.oneCell' = true) (h63 : n + m ≤ maxLen) (hbytes : ((n + m) + (n + m) / 4 + 192) * bytes ≤ 281474976710656) (hB : B ≤ W.heap.size) (ty : TypeId) :
    ∃ v' w', (Builtin.append_ #[st, st] ty #[v, .slice (some ad) m c]).run Try.prog W = .ok v' w' ∧ w'.ownsRow B e size v' (n + m) (xs ++ news) ∧ Fr (fun k => v.ownBlock = some k) W w' ∧ ∀ k, v'.ownBlock = some k → v.ownBlock = some k ∨ W.heap.size ≤ k := by
  obtain ⟨v', w', hr, h2, hg, _⟩ := run_append_own_wide (P := Try.prog) W B st ty e i z size bytes ht hi hz hsize hby hzs hsz v n xs hown ad m c news hl hnews h1 h63 hbytes hB
  refine ⟨v', w', hr, h2, Fr.ofGrown hg, fun k hk => ?_⟩
  have hmx : n + m ≤ 9223372036854775807 := by simp only [maxLen] at h63; omega
  have hmb : m * i.bytes ≤ 281474976710656 := by
    rw [hby]
    exact Nat.le_trans (Nat.mul_le_mul_right _ (by omega)) hbytes
  subst hsize
  subst hby
  rcases hown.2 with ⟨rfl, rfl⟩ | ⟨g, cap, cur, rfl, _, hg', hnc, hcm, hcs, htake⟩
  · rw [run_append_nil (P := Try.prog) W st ty e i _ ht hi hz ad m c news hl hnews hm (by omega) hmb] at hr
    injection hr with q1 q2
    rw [← q1] at hk
    injection hk with hk
    exact .inr (by rw [← hk]; exact Nat.le_refl _)
  · by_cases hroom : n + m ≤ cap
    · have hfit : n * i.size + news.length ≤ cur.size := by rw [hl, hcs, ← Nat.add_mul]; exact Nat.mul_le_mul_right _ hroom
      rw [run_append_room (P := Try.prog) W st ty e i ht hi g n cap cur hg' ad m c news hl hnews h1 hroom hfit] at hr
      injection hr with q1 q2
      rw [← q1] at hk
      exact .inl hk
    · rw [run_append_grow (P := Try.prog) W st ty e i _ ht hi hz ⟨g, 0, none⟩ n cap xs hown.1 (hown.cells (g := g) rfl) ad m c news hl hnews (by omega) (by omega) (growslice_fits_wide (by omega) hbytes)] at hr
      injection hr with q1 q2
      rw [← q1] at hk
      injection hk with hk
      exact .inr (by rw [← hk]; exact Nat.le_refl _)
theorem exec_push {o : Oper} {a : Act} {s y : Operand} {st : TypeId} {ad : Addr} {m c : Nat} (ho : o.op = .call { callee := .builtin .append, args := #[s, y], argTypes := #[st, st] }) (hs : a.eval s = v) (hx : a.eval y = .slice (some ad) m c)
    (hr : (Builtin.append_ #[st, st] o.type #[v, .slice (some ad) m c]).run Try.prog W = .ok v' W') : (execOp a.eval o).run Try.prog W = .ok (.value v') W' := by
  simp [execOp, ho, resolve, invoke, builtin, hs, hx, hr, Result.andThen]
section
variable {o : Oper} {a : Act}
theorem exec_mv {x : Operand} {v : Value} (ho : o.op = .move x) (hx : a.eval x = v) : (execOp a.eval o).run Try.prog W = .ok (.value v) W := by
  unfold execOp
  simp [ho, hx]
theorem exec_slice85 {y : Operand} {c : Cel} (ho : o.op = .buildSlice 22 1 #[(0, y)]) (hy : a.eval y = .agg (celRow c).toArray) : (execOp a.eval o).run Try.prog W = .ok (.value (.slice (some ⟨W.heap.size, 0, none⟩) 1 1)) (W.alloc (.cells (celRow c).toArray 54)) := by
  have e := build30 c W
  generalize (celRow c).toArray = Z at *
  simp [execOp, ho, hy, e]
theorem exec_build85 {x y : Operand} {p : Int} {f : Nat → Int} (ho : o.op = .build 54 #[(0, x), (1, y)]) (hx : a.eval x = .int .i64 p) (hy : a.eval y = .agg (blk f)) : (execOp a.eval o).run Try.prog W = .ok (.value (.agg (celRow (p, f)).toArray)) W := by
  have e := build85 p f W
  generalize (celRow (p, f)).toArray = Z at *
  generalize blk f = Y at *
  simp [execOp, ho, hx, hy, e]
theorem exec_load85 {x : Operand} {g off : Nat} {c : Cel} (ho : o.op = .load 54 x) (hx : a.eval x = .pointer (some ⟨g, off, none⟩)) (hc : CelAt W g off c) : (execOp a.eval o).run Try.prog W = .ok (.value (.agg (celRow c).toArray)) W := by
  have e := load85 hc
  generalize (celRow c).toArray = Z at *
  unfold execOp
  simp only [ho, hx, e, Sem.run_bind, Result.andThen_ok, Sem.run_pure]
theorem wpList_exec {ops : Array Oper} {rest : List Oper} {Q : Exit → Act → World → Prop} {v : Value} {W' : World} (hgd : o.guard = none) (hr : (execOp a.eval o).run Try.prog W = .ok (.value v) W') (h : wpList Try.prog ops Q rest (a.put o.dst v) W') : wpList Try.prog ops Q (o :: rest) a W := by
  refine wpList_plain hgd fun K' hK' => ?_
  unfold Oper.wp
  rw [hr]
  exact hK' _ _ h
end
/-- A list of blocks with their numbers, made since B. -/
def HL (B : Nat) (W : World) (v : Value) (l : List Cel) : Prop := W.ownsRow B 54 1025 v l.length (celCells l)
theorem HL.img {B : Nat} {l : List Cel} (h : HL B W v l) : ∃ p c, v = .slice p l.length c ∧ ImgAt W p l ∧ l.length ≤ c ∧ (∀ b off, p = some ⟨b, off, none⟩ → B ≤ b ∧ b < W.heap.size ∧ off = 0) := by
  have h' := h
  rcases h.2 with ⟨h1, h2⟩ | ⟨g, cap, cur, h1, hB, hg, hnc, _, hcs, ht⟩
  · exact ⟨none, 0, by rw [h1, h2], fun q => by omega, by omega, fun _ _ q => by cases q⟩
  · have hlt := (Array.getElem?_eq_some_iff.1 hg).1
    subst h1
    refine ⟨some ⟨g, 0, none⟩, cap, rfl, fun _ => ⟨g, 0, rfl, hlt, fun k c hc => ?_⟩, hnc, fun b off q => ?_⟩
    · have q := cel_at h' (K := 0 + k * 1025) (by omega) hc
      exact q
    · injection q with q
      injection q with q1 q2
      exact ⟨by omega, by omega, by omega⟩
theorem celCells_snoc (l : List Cel) (c : Cel) : celCells (l ++ [c]) = celCells l ++ celRow c := by simp [celCells]
theorem HL.nil (B : Nat) (W : World) : HL B W (.slice none 0 0) [] := ⟨rfl, .inl ⟨rfl, rfl⟩⟩
theorem HL.push {B : Nat} {l : List Cel} (h : HL B W v l) (hB : B ≤ W.heap.size) (hl : l.length ≤ 100000000) (c : Cel) (ty : TypeId) :
    ∃ v' W', (Builtin.append_ #[22, 22] ty #[v, .slice (some ⟨W.heap.size, 0, none⟩) 1 1]).run Try.prog (W.alloc (.cells (celRow c).toArray 54)) = .ok v' W' ∧ HL B W' v' (l ++ [c]) ∧ Below B W W' ∧ Fr (fun k => v.ownBlock = some k) W W' ∧ ∀ k, v'.ownBlock = some k → v.ownBlock = some k ∨ W.heap.size ≤ k := by
  obtain ⟨i0, hi0, hz0, hz1, hz2⟩ := info_parts info85
  have hnews : ∀ j u, (celRow c)[j]? = some u → (W.alloc (.cells (celRow c).toArray 54)).cell? ((⟨W.heap.size, 0, none⟩ : Addr).add j) = some u := fun j u hu => by
    rw [Go.WideShapes.add_plain, Nat.zero_add, cell_of_row _ _ j _ 54 _ (heap_alloc_new W _), List.getElem?_toArray]
    exact hu
  obtain ⟨v', W', hr, h2, h3, h4⟩ := append_gen Try.underlying22 hi0 hz0 hz1 hz2 (cel_size (0, nought)) (by omega) (World.ownsRow.alloc h (.cells (celRow c).toArray 54)) (ad := ⟨W.heap.size, 0, none⟩) (m := 1) (c := 1) (news := celRow c) (by omega) (by rw [celRow_len]) hnews (celRow_one c) (by unfold maxLen; omega) (by omega) (by simp only [World.alloc, Array.size_push]; omega) ty
  have hF : Fr (fun k => v.ownBlock = some k) W W' := (Fr.alloc _ W (.cells (celRow c).toArray 54)).trans h3 fun _ _ q => q
  refine ⟨v', W', hr, ?_, hF.below (fun i q => (h.lt i q).1) hB, hF, fun k hk => ?_⟩
  · unfold HL
    rw [celCells_snoc, List.length_append]
    exact h2
  · rcases h4 k hk with q | q
    · exact .inl q
    · exact .inr (by simp only [World.alloc, Array.size_push] at q; omega)
end
end Go.Proofs.YtlcdpmjdnihocaaD
/- Whole rows loaded and stored, of any type; blocks with their numbers in rows of their own; no condition. -/
namespace Go.Proofs.YtlcdpmjdnihocaaD
open Go.RowKit Go.Maps
section
variable {ops : Array Oper} {rest : List Oper} {Q : Exit → Act → World → Prop} {a : Act} {w : World} {dst : Option Tmp} {x y : Operand} {ty : TypeId} {pos : String} {aft : Array Edge} {gd : Option (Nat × Bool)}
theorem isLoad (t : TypeId) (h : wpList Try.prog ops Q (⟨dst, .load t x, ty, pos, aft, gd⟩ :: rest) a w) : wpList Try.prog ops Q (⟨dst, .load t x, ty, pos, aft, gd⟩ :: rest) a w := h
theorem isStore (t : TypeId) (h : wpList Try.prog ops Q (⟨dst, .store t x y, ty, pos, aft, gd⟩ :: rest) a w) : wpList Try.prog ops Q (⟨dst, .store t x y, ty, pos, aft, gd⟩ :: rest) a w := h
theorem isEq (t t' : TypeId) {bo : BinOp} (h : wpList Try.prog ops Q (⟨dst, .binOp bo t x y t', ty, pos, aft, gd⟩ :: rest) a w) : wpList Try.prog ops Q (⟨dst, .binOp bo t x y t', ty, pos, aft, gd⟩ :: rest) a w := h
theorem isBuild (t : TypeId) {ps : Array (Nat × Operand)} (h : wpList Try.prog ops Q (⟨dst, .build t ps, ty, pos, aft, gd⟩ :: rest) a w) : wpList Try.prog ops Q (⟨dst, .build t ps, ty, pos, aft, gd⟩ :: rest) a w := h
end
section
variable {ops : Array Oper} {rest : List Oper} {o : Oper} {a : Act} {w : World} {Q : Exit → Act → World → Prop}
/-- A whole row is loaded, of any type that is a row. -/
theorem wpList_ldR (ty : TypeId) {d : TypeDesc} (hu : Try.prog.underlying ty = some d) (hd : d.isRow = true) (hw : Region.wanted o (yielded ops a.tmps) = true) (x : Operand) (ho : o.op = .load ty x)
    (g : Nat) (hx : a.eval x = .pointer (some ⟨g, 0, none⟩)) (cs : Array Value) (t : TypeId) (fr : Nat × Nat) (hi : (Try.prog.info? ty).map (·.size) = some cs.size) (hg : w.heap[g]? = some (.cells cs t fr))
    (h : wpList Try.prog ops Q rest (a.put o.dst (.agg cs)) w) : wpList Try.prog ops Q (o :: rest) a w := by
  unfold wpList
  rw [if_pos hw]
  refine .inl ?_
  unfold Oper.wp execOp
  simp only [ho, hx, Instr.loadAt, Instr.sureAddr, Sem.run_bind, Sem.run_pure, Result.andThen_ok, run_loadVar_row w g t ty cs fr d hg hu (by cases d <;> first | rfl | cases hd) hi]
  exact h
theorem wpList_stR (ty : TypeId) (hgd : o.guard = none) (x y : Operand) (ho : o.op = .store ty x y)
    (g : Nat) (cs c0 : Array Value) (t : TypeId) (hi : (Try.prog.info? ty).map (·.size) = some cs.size) (hs : c0.size = cs.size) (h1 : cs.all (·.oneCell') = true)
    (hx : a.eval x = .pointer (some ⟨g, 0, none⟩)) (hy : a.eval y = .agg cs) (hg : w.heap[g]? = some (.cells c0 t))
    (h : wpList Try.prog ops Q rest (a.put o.dst undef) (w.setRow g cs)) : wpList Try.prog ops Q (o :: rest) a w :=
  wpList_plain hgd fun _ hK => by
    unfold Oper.wp execOp
    simp only [ho, hx, hy, Instr.storeAt, Instr.sureAddr, Sem.run_bind, Sem.run_pure, Result.andThen_ok, run_storeVar_row w g t ty c0 cs hg hi hs h1]
    exact hK _ _ h
theorem wpList_stNew (ty : TypeId) (hgd : o.guard = none) (x y : Operand) (ho : o.op = .store ty x y)
    (g : Nat) (cs c0 : Array Value) (t : TypeId) (hi : (Try.prog.info? ty).map (·.size) = some cs.size) (hs : c0.size = cs.size) (h1 : cs.all (·.oneCell') = true)
    (hx : a.eval x = .pointer (some ⟨g, 0, none⟩)) (hgw : g = w.heap.size) (hy : a.eval y = .agg cs)
    (h : wpList Try.prog ops Q rest (a.put o.dst undef) (w.alloc (.cells cs t))) : wpList Try.prog ops Q (o :: rest) a (w.alloc (.cells c0 t)) := by
  subst hgw
  exact wpList_stR ty hgd x y ho w.heap.size cs c0 t hi hs h1 hx hy (heap_alloc_new _ _) (by rw [World.setRow_alloc_new]; exact h)
end
theorem retR {fn : Func} {p : Tmp} {ty : TypeId} {R : Ending → World → Prop} {a : Act} {w : World} {d : TypeDesc} (hu : Try.prog.underlying ty = some d) (hd : d.isRow = true)
    (h : fn.results = #[.cell p ty]) (g : Nat) (cs : Array Value) (t : TypeId) (hi : (Try.prog.info? ty).map (·.size) = some cs.size)
    (hp : a.tmps.getD p undef = .pointer (some ⟨g, 0, none⟩)) (hg : w.heap[g]? = some (.cells cs t)) (hdf : a.defers = []) (hR : R (.returned (.agg cs)) w) : bodyPost Try.prog fn R .ret a w :=
  bodyPost_ret (results_cell_row h a.tmps w g t cs (0, 0) _ hp hg hu (by cases d <;> first | rfl | cases hd) hi) hdf hR

theorem row_cel {W : World} {g : Nat} {l : List Cel} (h : W.heap[g]? = some (.cells (celCells l).toArray 54)) {k : Nat} {c : Cel} (hc : l[k]? = some c) : CelAt W g (k * 1025) c := by
  obtain ⟨K, hK⟩ : ∃ K, K = k * 1025 := ⟨_, rfl⟩
  have key : ∀ j, j < 1025 → ∀ v, (celRow c)[j]? = some v → W.cell? ⟨g, K + j, none⟩ = some v := fun j hj v hv => by
    have q0 := (fm_get celRow 1025 celRow_len l k j c hc hj).trans hv
    rw [← hK] at q0
    rw [cell_of_row W g _ _ 54 _ h, List.getElem?_toArray]
    exact q0
  rw [← hK]
  clear hK hc h
  refine ⟨key 0 (by omega) _ rfl, fun j v hv => ?_⟩
  have hj : j < 1024 := by have := (List.getElem?_eq_some_iff.1 hv).1; rwa [blk_list_len] at this
  rw [Nat.add_assoc, Nat.add_comm 1 j]
  refine key (j + 1) (by omega) v ?_
  rw [show (celRow c)[j + 1]? = (blk c.2).toList[j]? by simp only [celRow, List.getElem?_cons_succ]]
  exact hv
theorem one_cel {W : World} {g : Nat} {c : Cel} (h : W.heap[g]? = some (.cells (celRow c).toArray 54)) : CelAt W g 0 c := by
  have h' : W.heap[g]? = some (.cells (celCells [c]).toArray 54) := by rw [celCells_one]; exact h
  have := row_cel h' (k := 0) (c := c) rfl
  rwa [Nat.zero_mul] at this
theorem cel_all (c : Cel) : (celRow c).toArray.all (·.oneCell') = true := by
  rw [Array.all_eq_true_iff_forall_mem]
  intro v hv
  exact celRow_one c v (by simpa using hv)
section
variable {o : Oper} {a : Act} {W : World}
theorem wpList_execw {ops : Array Oper} {rest : List Oper} {Q : Exit → Act → World → Prop} {v : Value} {W' : World} (hw : Region.wanted o (yielded ops a.tmps) = true) (hr : (execOp a.eval o).run Try.prog W = .ok (.value v) W') (h : wpList Try.prog ops Q rest (a.put o.dst v) W') : wpList Try.prog ops Q (o :: rest) a W :=
  BigFrame.wpList_want hw fun _ hK => by
    unfold Oper.wp
    rw [hr]
    exact hK _ _ h
theorem eqgB (x y : Operand) (F G : Array Value) (u : World) : (eqGuard .eql 46 x y (.agg F) (.agg G)).run Try.prog u = .ok () u := by
  unfold eqGuard
  simp
theorem exec_eqBZ {x y : Operand} {f g : Nat → Int} {r : Bool} (ho : o.op = .binOp .eql 46 x y 46) (hx : a.eval x = .agg (blk f)) (hy : a.eval y = .agg (blk g)) (hr : sameB f g = r) : (execOp a.eval o).run Try.prog W = .ok (.value (.bool r)) W := by
  have e : (binOp .eql 46 (.agg (blk f)) (.agg (blk g))).run Try.prog W = .ok (.bool r) W := by
    have h := eq25 f g W
    rw [hr] at h
    generalize blk f = F at *
    generalize blk g = G at *
    simp only [binOp, Op.equal, Op.maxDepth, Sem.run_bind, h, Result.andThen_ok, Sem.run_pure]
  generalize blk f = F at *
  generalize blk g = G at *
  unfold execOp
  simp only [ho, hx, hy, Sem.run_bind, eqgB, e, Result.andThen_ok, Sem.run_pure]
theorem exec_zeroB (ho : o.op = .build 46 #[]) : (execOp a.eval o).run Try.prog W = .ok (.value (.agg (blk nought))) W := by
  have z := zero25
  generalize blk nought = Z at *
  simp [execOp, ho, Instr.build, z, run_underlying Try.underlying46, Instr.fill, Value.cells]
end
end Go.Proofs.YtlcdpmjdnihocaaD

/- The document's functions of images: Whole, At; the law's own large and sameImage; lists of at most a billion blocks. -/
namespace Go.Proofs.YtlcdpmjdnihocaaD
open Go.RowKit Go.Maps
def wholeE (n : Int) (l : List Cel) : Int := if mayB n l then 0 else 2
set_option maxRecDepth 20000 in
set_option maxHeartbeats 4000000 in
theorem whole_any (n : Int) (l : List Cel) (p : Option Addr) (cap : Nat) (w : World) (hl : l.length ≤ 1000000000) (h : ImgAt w p l) :
    Calls Try.prog 8 #[.agg #[.int .i64 n, .slice p l.length cap]] w fun e w' => e = .returned (.int .i64 (wholeE n l)) ∧ Below w.heap.size w w' := by
  have hB := below_new w (.cells #[.int .i64 n, .slice p l.length cap] 24)
  have hG := heap_alloc_new w (.cells #[.int .i64 n, .slice p l.length cap] 24)
  have HI : Hid (ImgAt w p l) := h
  clear h
  obtain ⟨N, hN⟩ : ∃ N, l.length = N := ⟨_, rfl⟩
  have HN := Hid.mk' hN
  rw [hN] at hl hB hG ⊢
  clear hN
  have h10 : ((1 : Int) ≤ n ∧ n ≤ 1048576) ↔ bndB n = true := by unfold bndB; exact decide_eq_true_iff.symm
  by_cases h1 : n < 1
  · have hres : wholeE n l = 2 := by
      have : bndB n = false := by cases q : bndB n; rfl; exact absurd (h10.2 q).1 (by omega)
      unfold wholeE mayB; rw [this]; rfl
    rw [hres]
    clear hres h10
    go_enter Try.func8, Try.ntmps8
    go_wp2
    go_ret
    exact ⟨rfl, hB⟩
  by_cases h2 : n > 1048576
  · have hres : wholeE n l = 2 := by
      have : bndB n = false := by cases q : bndB n; rfl; exact absurd (h10.2 q).2 (by omega)
      unfold wholeE mayB; rw [this]; rfl
    rw [hres]
    clear hres h10
    go_enter Try.func8, Try.ntmps8
    go_wp2
    go_ret
    exact ⟨rfl, hB⟩
  have HR : Hid (wholeE n l = if risesB n (-1) (l.drop 0) then 0 else 2) := by unfold wholeE mayB; rw [h10.1 ⟨by omega, by omega⟩]; rfl
  generalize wholeE n l = res at *
  clear h10
  have z25 := zero25
  have HBn := Hid.mk' (below_new (w.alloc (.cells #[.int .i64 n, .slice p N cap] 24)) (.cells (blk nought) 46))
  have H0 : Hid (Below w.heap.size w ((w.alloc (.cells #[.int .i64 n, .slice p N cap] 24)).alloc (.cells (blk nought) 46)) ∧ ((w.alloc (.cells #[.int .i64 n, .slice p N cap] 24)).alloc (.cells (blk nought) 46)).heap[w.heap.size]? = some (.cells #[.int .i64 n, .slice p N cap] 24) ∧ ((w.alloc (.cells #[.int .i64 n, .slice p N cap] 24)).alloc (.cells (blk nought) 46)).heap[w.heap.size + 1]? = some (.cells (blk nought) 46)) := by
    refine ⟨below_next hB HBn.out, heap_kept hG HBn.out, ?_⟩
    have := heap_alloc_new (w.alloc (.cells #[.int .i64 n, .slice p N cap] 24)) (.cells (blk nought) 46)
    simpa using this
  clear hB hG HBn
  obtain ⟨NB, eNB⟩ : ∃ NB, NB = nought := ⟨nought, rfl⟩
  have HNB := Hid.mk' eNB
  rw [← eNB] at z25 H0
  clear eNB
  go_enter Try.func8, Try.ntmps8
  go_wp2
  go_loopw [4, 5] (fun s4 s5 wx => ∃ (k : Nat) (x : Int), k ≤ N ∧ s4 = .int .i64 x ∧ s5 = .int .i64 k ∧ Hid (Below w.heap.size w wx ∧ wx.heap[w.heap.size]? = some (.cells #[.int .i64 n, .slice p N cap] 24) ∧ wx.heap[w.heap.size + 1]? = some (.cells (blk NB) 46)) ∧ Hid (res = if risesB n x (l.drop k) then 0 else 2)) (fun _ s5 _ => N - (intOf s5).toNat)
  case atStart => exact ⟨0, -1, by omega, rfl, rfl, H0.out, HR.out⟩
  case round =>
    obtain ⟨k, x, hk, rfl, rfl, H9, HR2⟩ := hrel
    clear HR H0
    have i0 : wr.cell? ⟨w.heap.size, 0, none⟩ = some (.int .i64 n) := Joins.cell_of_block H9.out.2.1 0
    have i1 : wr.cell? ⟨w.heap.size, 1, none⟩ = some (.slice p N cap) := Joins.cell_of_block H9.out.2.1 1
    by_cases hk2 : (k : Int) < N
    · have hlN := HN.out
      have hc : l[k]? = some (l[k]'(by omega)) := List.getElem?_eq_getElem _
      obtain ⟨b, off, rfl, hlt, hC⟩ := HI.out (by omega)
      have hd : l.drop k = l[k]'(by omega) :: l.drop (k + 1) := List.drop_eq_getElem_cons (by omega)
      generalize l[k]'(by omega) = c at hc hd
      have q1 : CelAt wr b (off + k * 1025) c := (hC.later H9.out.1 hlt) k c hc
      have hR := HR2.out
      rw [hd] at hR
      unfold risesB at hR
      have hbA := below_new wr (.cells (celRow c).toArray 54)
      have hA := heap_alloc_new wr (.cells (celRow c).toArray 54)
      have hcA := one_cel hA
      have h9A : Below w.heap.size w (wr.alloc (.cells (celRow c).toArray 54)) ∧ (wr.alloc (.cells (celRow c).toArray 54)).heap[w.heap.size]? = some (.cells #[.int .i64 n, .slice (some ⟨b, off, none⟩) N cap] 24) ∧ (wr.alloc (.cells (celRow c).toArray 54)).heap[w.heap.size + 1]? = some (.cells (blk NB) 46) := ⟨below_next H9.out.1 hbA, heap_kept H9.out.2.1 hbA, heap_kept H9.out.2.2 hbA⟩
      have H10 := Hid.mk' h9A
      have HQ := Hid.mk' q1
      have HSz := Hid.mk' (show (Try.prog.info? 54).map (·.size) = some (celRow c).toArray.size by rw [cel_size]; exact size85)
      have HAll := Hid.mk' (cel_all c)
      have HZs := Hid.mk' (show (celRow (0, nought)).toArray.size = (celRow c).toArray.size by rw [cel_size, cel_size])
      have z85 := zero85
      have j0 : (wr.alloc (.cells (celRow c).toArray 54)).cell? ⟨w.heap.size, 0, none⟩ = some (.int .i64 n) := Joins.cell_of_block h9A.2.1 0
      have j1 : (wr.alloc (.cells (celRow c).toArray 54)).cell? ⟨wr.heap.size, 0, none⟩ = some (.int .i64 c.1) := hcA.1
      have HJB := Hid.mk' (show BlkAt (wr.alloc (.cells (celRow c).toArray 54)) wr.heap.size 1 c.2 by have := hcA.2; rwa [Nat.zero_add] at this)
      have HJN := Hid.mk' h9A.2.2
      obtain ⟨y, f⟩ := c
      simp only at hR j1 HJB
      generalize (celRow (0, nought)).toArray = Z at *
      clear hd hc HR2 hC hbA hA hcA h9A q1 H9
      go_wp2_with (first | (with_reducible refine isLoad 54 ?_; refine wpList_exec rfl (exec_load85 (c := (y, f)) rfl rfl HQ.out) ?_) | (with_reducible refine isStore 54 ?_; refine wpList_stNew 54 rfl _ _ rfl _ (celRow (y, f)).toArray _ 54 HSz.out HZs.out HAll.out rfl rfl rfl ?_; refine Hid.out ?_))
      unfold Hid
      generalize (celRow (y, f)).toArray = C at *
      by_cases h3 : y ≤ x
      · have hr0 : res = 2 := by rw [hR]; simp [h3]
        have HFn := Hid.mk' H10.out.1
        clear hR
        subst hr0
        go_wp2
        go_ret
        exact ⟨rfl, HFn.out⟩
      · by_cases h4 : y ≥ n
        · have hr0 : res = 2 := by rw [hR]; simp [h4]
          have HFn := Hid.mk' H10.out.1
          clear hR
          subst hr0
          go_wp2
          go_ret
          exact ⟨rfl, HFn.out⟩
        · cases h5 : blankB f
          · have HR3 : Hid (res = if risesB n y (l.drop (k + 1)) then 0 else 2) := by
              show res = _
              rw [hR, h5]; simp [h3, h4]
            have h3' : sameB f NB = false := by rw [HNB.out]; exact h5
            clear hR
            go_wp2_with (first | (with_reducible refine isLoad 46 ?_; first | refine wpList_loadMw rfl (.tmp 39) rfl wr.heap.size 1 rfl f HJB.out ?_ | refine wpList_ldR 46 Try.underlying46 rfl rfl _ rfl _ rfl _ 46 (0, 0) (by rw [blk_size]; exact size25) HJN.out ?_) | (with_reducible refine isEq 46 46 ?_; refine wpList_eq58 rfl (.tmp 40) (.tmp 41) rfl f NB false rfl rfl h3' ?_))
            exact ⟨⟨k + 1, y, by omega, rfl, by go_num, H10.out, HR3.out⟩, by simp [intOf]; omega⟩
          · have hr0 : res = 2 := by rw [hR, h5]; simp
            have h3' : sameB f NB = true := by rw [HNB.out]; exact h5
            have HFn := Hid.mk' H10.out.1
            clear hR
            subst hr0
            go_wp2_with (first | (with_reducible refine isLoad 46 ?_; first | refine wpList_loadMw rfl (.tmp 39) rfl wr.heap.size 1 rfl f HJB.out ?_ | refine wpList_ldR 46 Try.underlying46 rfl rfl _ rfl _ rfl _ 46 (0, 0) (by rw [blk_size]; exact size25) HJN.out ?_) | (with_reducible refine isEq 46 46 ?_; refine wpList_eq58 rfl (.tmp 40) (.tmp 41) rfl f NB true rfl rfl h3' ?_))
            go_ret
            exact ⟨rfl, HFn.out⟩
    · have hr0 : res = 0 := by rw [HR2.out, List.drop_of_length_le (by have := HN.out; omega)]; rfl
      have HFn := Hid.mk' H9.out.1
      clear HR2 H9
      subst hr0
      go_wp2
      go_ret
      exact ⟨rfl, HFn.out⟩
set_option maxRecDepth 20000 in
set_option maxHeartbeats 4000000 in
theorem at_any (n : Int) (l : List Cel) (p : Option Addr) (cap : Nat) (at' : Int) (w : World) (hl : l.length ≤ 1000000000) (h : ImgAt w p l) :
    Calls Try.prog 17 #[.agg #[.int .i64 n, .slice p l.length cap], .int .i64 at'] w fun e w' => e = .returned (.agg (blk (atL l at'))) ∧ Below w.heap.size w w' := by
  have z25 := zero25
  have HI : Hid (ImgAt w p l) := h
  clear h
  obtain ⟨N, hN⟩ : ∃ N, l.length = N := ⟨_, rfl⟩
  have HN := Hid.mk' hN
  rw [hN] at hl ⊢
  clear hN
  have hB := below_next (below_new w (.cells #[.int .i64 n, .slice p N cap] 24)) (below_new _ (.cells (blk nought) 46))
  have hG : ((w.alloc (.cells #[.int .i64 n, .slice p N cap] 24)).alloc (.cells (blk nought) 46)).heap[w.heap.size]? = some (.cells #[.int .i64 n, .slice p N cap] 24) := heap_kept (heap_alloc_new w _) (below_new _ _)
  have hG4 : ((w.alloc (.cells #[.int .i64 n, .slice p N cap] 24)).alloc (.cells (blk nought) 46)).heap[w.heap.size + 1]? = some (.cells (blk nought) 46) := by
    have := heap_alloc_new (w.alloc (.cells #[.int .i64 n, .slice p N cap] 24)) (.cells (blk nought) 46)
    simpa using this
  have i1 : ((w.alloc (.cells #[.int .i64 n, .slice p N cap] 24)).alloc (.cells (blk nought) 46)).cell? ⟨w.heap.size, 1, none⟩ = some (.slice p N cap) := Joins.cell_of_block hG 1
  have HB := Hid.mk' hB
  have HG4 := Hid.mk' hG4
  have HR : Hid (atL l at' = atL (l.drop 0) at') := rfl
  generalize atL l at' = res at *
  clear hB hG hG4
  go_enter Try.func17, Try.ntmps17
  go_wp2
  generalize (w.alloc (.cells #[.int .i64 n, .slice p N cap] 24)).alloc (.cells (blk nought) 46) = W0 at *
  go_loopw [5] (fun s5 wx => ∃ k : Nat, k ≤ N ∧ s5 = .int .i64 k ∧ wx = W0 ∧ Hid (res = atL (l.drop k) at')) (fun s5 _ => N - (intOf s5).toNat)
  case atStart => exact ⟨0, by omega, rfl, rfl, HR.out⟩
  case round =>
    obtain ⟨k, hk, rfl, rfl, HR2⟩ := hrel
    clear HR
    by_cases hk2 : (k : Int) < N
    · have hlN := HN.out
      have hc : l[k]? = some (l[k]'(by omega)) := List.getElem?_eq_getElem _
      obtain ⟨b, off, rfl, hlt, hC⟩ := HI.out (by omega)
      have hd : l.drop k = l[k]'(by omega) :: l.drop (k + 1) := List.drop_eq_getElem_cons (by omega)
      generalize l[k]'(by omega) = c at hc hd
      obtain ⟨q1, q2⟩ : CelAt wr b (off + k * 1025) c := (hC.later HB.out hlt) k c hc
      obtain ⟨y, f⟩ := c
      have hR := HR2.out
      rw [hd] at hR
      unfold atL at hR
      simp only at hR q1 q2
      have HQ2 := Hid.mk' q2
      clear hd hc HR2 hC q2
      by_cases hy : y = at'
      · have HRf := Hid.mk' (show res = f by rw [hR, if_pos hy])
        subst hy
        clear hR
        go_wp2_with (first | (with_reducible refine isLoad 46 ?_; refine wpList_loadMw rfl (.tmp 25) rfl b (off + k * 1025 + 1) rfl f HQ2.out ?_) | (with_reducible refine isStore 46 ?_; refine wpList_store25 rfl _ _ rfl (w.heap.size + 1) f rfl rfl _ HG4.out ?_))
        rw [HRf.out]
        exact ret25 rfl (w.heap.size + 1) f rfl (setRow_heap _ _ _ _ _ _ HG4.out) rfl ⟨rfl, below_setRow HB.out (by omega) _⟩
      · have HR3 := Hid.mk' (show res = atL (l.drop (k + 1)) at' by rw [hR, if_neg hy])
        clear hR
        go_wp2
        exact ⟨⟨k + 1, by omega, by go_num, by trivial, HR3.out⟩, by simp [intOf]; omega⟩
    · have HRf := Hid.mk' (show res = nought by rw [HR2.out, List.drop_of_length_le (by have := HN.out; omega)]; rfl)
      clear HR2
      go_wp2_with (first | (with_reducible refine isBuild 46 ?_; refine wpList_exec rfl (exec_zeroB rfl) ?_) | (with_reducible refine isStore 46 ?_; refine wpList_store25 rfl _ _ rfl (w.heap.size + 1) nought rfl rfl _ HG4.out ?_))
      rw [HRf.out]
      exact ret25 rfl (w.heap.size + 1) nought rfl (setRow_heap _ _ _ _ _ _ HG4.out) rfl ⟨rfl, below_setRow HB.out (by omega) _⟩
set_option maxRecDepth 20000 in
set_option maxHeartbeats 1000000 in
theorem sameImage_any (n m : Int) (s t : List Cel) (p q : Option Addr) (cp cq : Nat) (w : World) (hls : s.length < 9223372036854775807) (hlt : t.length < 9223372036854775807) (hs : ImgAt w p s) (ht : ImgAt w q t) :
    Calls Try.prog 18 #[.agg #[.int .i64 n, .slice p s.length cp], .agg #[.int .i64 m, .slice q t.length cq]] w fun e w' => e = .returned (.bool ((n == m) && celsB s t)) ∧ Below w.heap.size w w' := by
  have hB := below_next (below_new w (.cells #[.int .i64 n, .slice p s.length cp] 24)) (below_new _ (.cells #[.int .i64 m, .slice q t.length cq] 24))
  have HC := Hid.mk' (sameHelds_any s t p q cp cq _ hls hlt (hs.later hB) (ht.later hB))
  cases hnm : (n == m)
  · go_enter Try.func18, Try.ntmps18
    go_wp2
    go_ret
    exact ⟨rfl, hB⟩
  · go_enter Try.func18, Try.ntmps18
    go_wp2_with (go_at_call 33; fail)
    refine Calls.mono HC.out ?_
    rintro e W1 ⟨rfl, hb1⟩
    have HB := Hid.mk' (below_next hB hb1)
    clear hb1 HC hB
    go_wp2
    go_ret
    exact ⟨by simp, HB.out⟩
end Go.Proofs.YtlcdpmjdnihocaaD
/- The document's With: an image with a block written; lists of at most a million blocks. -/
namespace Go.Proofs.YtlcdpmjdnihocaaD
open Go.RowKit Go.Maps
/-- The four boxes of the call, and the list that grows. -/
structure WSt (w wx : World) (im : Array Value) (b : Nat → Int) (n : Int) (p : Option Addr) (c : Nat) (acc : List Cel) : Prop where
  hl : HL (w.heap.size + 4) wx (.slice p acc.length c) acc
  bel : Below w.heap.size w wx
  r3 : wx.heap[w.heap.size]? = some (.cells im 24)
  r5 : wx.heap[w.heap.size + 1]? = some (.cells (blk b) 46)
  r6 : wx.heap[w.heap.size + 2]? = some (.cells #[.int .i64 0, .slice none 0 0] 24)
  r7 : wx.heap[w.heap.size + 3]? = some (.cells #[.int .i64 n, .slice p acc.length c] 24)
theorem WSt.later {w wx wy : World} {im : Array Value} {b : Nat → Int} {n : Int} {p : Option Addr} {c : Nat} {acc : List Cel} (h : WSt w wx im b n p c acc) (hb : Below wx.heap.size wx wy) : WSt w wy im b n p c acc := by
  refine ⟨?_, below_next h.bel hb, heap_kept h.r3 hb, heap_kept h.r5 hb, heap_kept h.r6 hb, heap_kept h.r7 hb⟩
  obtain ⟨h1, h2⟩ := h.hl
  refine ⟨h1, ?_⟩
  rcases h2 with h2 | ⟨g, cp, cur, hv, hg, hh, r⟩
  · exact .inl h2
  · exact .inr ⟨g, cp, cur, hv, hg, heap_kept hh hb, r⟩
/-- One more is appended and laid back. -/
theorem WSt.push {w wx : World} {im : Array Value} {b : Nat → Int} {n : Int} {p : Option Addr} {c : Nat} {acc : List Cel} (h : WSt w wx im b n p c acc) (x : Cel) (hl : acc.length ≤ 10000000) (ty : TypeId) :
    ∃ p' c' W', (Builtin.append_ #[22, 22] ty #[.slice p acc.length c, .slice (some ⟨wx.heap.size, 0, none⟩) 1 1]).run Try.prog (wx.alloc (.cells (celRow x).toArray 54)) = .ok (.slice p' (acc.length + 1) c') W' ∧
      W'.cell? ⟨w.heap.size + 3, 1, none⟩ = some (.slice p acc.length c) ∧ W'.frozen? ⟨w.heap.size + 3, 1, none⟩ = false ∧ WSt w (W'.setCell ⟨w.heap.size + 3, 1, none⟩ (.slice p' (acc.length + 1) c')) im b n p' c' (acc ++ [x]) ∧
      (∀ g o, wx.heap[g]? = some o → g ≠ w.heap.size + 3 → (∀ k, (Value.slice p acc.length c).ownBlock = some k → k ≠ g) → (W'.setCell ⟨w.heap.size + 3, 1, none⟩ (.slice p' (acc.length + 1) c')).heap[g]? = some o) ∧
      (∀ k, (Value.slice p' (acc.length + 1) c').ownBlock = some k → (Value.slice p acc.length c).ownBlock = some k ∨ wx.heap.size ≤ k) := by
  have h4 := (Array.getElem?_eq_some_iff.1 h.r7).1
  obtain ⟨v', W', hr, hown, hb, hfr, hob⟩ := h.hl.push (by omega) (by omega) x ty
  obtain ⟨p', c', hv, _⟩ := hown.img
  have hll : (acc ++ [x]).length = acc.length + 1 := by simp
  rw [hll] at hv
  subst hv
  have k3 := (hb.block _ (by omega)).trans h.r3
  have k5 := (hb.block _ (by omega)).trans h.r5
  have k6 := (hb.block _ (by omega)).trans h.r6
  have k7 := (hb.block _ (by omega)).trans h.r7
  have hf : Fr (fun i => i = w.heap.size + 3) W' (W'.setCell ⟨w.heap.size + 3, 1, none⟩ (.slice p' (acc.length + 1) c')) := Fr.setCell W' _ _ _
  refine ⟨p', c', W', hr, Joins.cell_of_block k7 1, Joins.unfrozen_of_block k7 1, ⟨?_, (h.bel.trans (hb.mono (by omega))).setCell (by simp) _, (heap_setCell_other W' _ _ _ (by simp)).trans k3, (heap_setCell_other W' _ _ _ (by simp)).trans k5, (heap_setCell_other W' _ _ _ (by simp)).trans k6, ?_⟩, fun g o ho hg hk => ?_, hob⟩
  · rw [hll]
    refine ⟨hown.1, ?_⟩
    rcases hown.2 with h | ⟨g, cp, cur, h1, h2, h3, h4⟩
    · exact .inl h
    · exact .inr ⟨g, cp, cur, h1, h2, (hf.block g (Array.getElem?_eq_some_iff.1 h3).1 (by omega)).trans h3, h4⟩
  · rw [hll]
    exact heap_setCell_same W' (w.heap.size + 3) 1 _ 24 _ k7
  · exact (heap_setCell_other W' _ _ _ hg).trans ((hfr.block g (Array.getElem?_eq_some_iff.1 ho).1 fun q => hk g q rfl).trans ho)
section
variable {ops : Array Oper} {rest : List Oper} {Q : Exit → Act → World → Prop} {a : Act} {w : World} {dst : Option Tmp} {x y : Operand} {ty : TypeId} {pos : String} {aft : Array Edge} {gd : Option (Nat × Bool)}
theorem isSlice {t : TypeId} {n : Nat} {ps : Array (Nat × Operand)} (h : wpList Try.prog ops Q (⟨dst, .buildSlice t n ps, ty, pos, aft, gd⟩ :: rest) a w) : wpList Try.prog ops Q (⟨dst, .buildSlice t n ps, ty, pos, aft, gd⟩ :: rest) a w := h
theorem isAppend {xs : Array Operand} {ts : Array TypeId} (h : wpList Try.prog ops Q (⟨dst, .call { callee := .builtin .append, args := xs, argTypes := ts }, ty, pos, aft, gd⟩ :: rest) a w) : wpList Try.prog ops Q (⟨dst, .call { callee := .builtin .append, args := xs, argTypes := ts }, ty, pos, aft, gd⟩ :: rest) a w := h
end
theorem laidGo_nil (k : Int) (b : Nat → Int) (d : Bool) : laidGo k b d [] = if d then [] else [(k, b)] := rfl
theorem laidGo_cons (k : Int) (b : Nat → Int) (d : Bool) (i : Int) (x : Nat → Int) (t : List Cel) : laidGo k b d ((i, x) :: t) = (if !d && decide (k ≤ i) then [(k, b)] else []) ++ ((if i = k then [] else [(i, x)]) ++ laidGo k b (d || decide (k ≤ i)) t) := rfl
end Go.Proofs.YtlcdpmjdnihocaaD
/- What the image and the geometry of a scene that came in tell a walk; for all that can be read. -/
namespace Go.Proofs.YtlcdpmjdnihocaaD
open Go.RowKit Go.ChangeShapes Go.WideShapes
theorem cellsO59 : Try.prog.cellsOf 54 = 1025 := by kernel_rfl
theorem cellsO46 : Try.prog.cellsOf 46 = 1024 := by kernel_rfl
theorem cellsO5 : Try.prog.cellsOf 5 = 1 := by kernel_rfl
theorem cellsO3 : Try.prog.cellsOf 3 = 1 := by kernel_rfl
theorem cellsO24 : Try.prog.cellsOf 24 = 2 := by kernel_rfl
theorem cellsO22 : Try.prog.cellsOf 22 = 1 := by kernel_rfl
theorem cellsO26 : Try.prog.cellsOf 26 = 3 := by kernel_rfl
section
variable {H : Type} {enc : TypeId × Value → H} {w : World} {base : Nat} {sp : Nat → Bool} {held : Bool} {v : Value} {x : DataW H × List MemPlace} {fuel : Nat}
theorem cellLt {b off : Nat} {v : Value} (h : w.cell? ⟨b, off, none⟩ = some v) : b < w.heap.size := by
  by_cases q : b < w.heap.size
  · exact q
  · unfold World.cell? at h
    simp only [Array.getElem?_eq_none (show w.heap.size ≤ b by omega)] at h
    simp at h
theorem plain_addr {a : Addr} {v : Value} (h : w.cell? (a.add 0) = some v) : ∃ b off, a = ⟨b, off, none⟩ ∧ b < w.heap.size := by
  obtain ⟨b, off, spot⟩ := a
  have hs : spot = none := by simpa [Addr.add] using World.cell?_spot h
  subst hs
  rw [Go.WideShapes.add_plain] at h
  exact ⟨b, off, rfl, cellLt h⟩
theorem int_of_trod {c : List Value} {n : Nat} {y : Option (DataW H × List MemPlace)} {z : DataW H × List MemPlace} (h : DataW.trod enc Try.prog w base sp held n 3 c = y) (hy : y = some z) : ∃ k, c = [.int .i64 k] ∧ -9223372036854775808 ≤ k ∧ k ≤ 9223372036854775807 := by
  rw [hy] at h
  obtain ⟨k, hk, _, hw⟩ := DataW.trod_int Try.underlying3 h
  have := bounds_i64 hw
  exact ⟨k, hk, this.1, this.2⟩
theorem blk_of_trod {cs : List Value} {n : Nat} {y : Option (DataW H × List MemPlace)} {z : DataW H × List MemPlace} (h : DataW.trod enc Try.prog w base sp held n 46 cs = y) (hy : y = some z) (hsz : cs.length = 1024) : ∃ f, Can f ∧ cs = (blk f).toList := by
  rw [hy] at h
  obtain ⟨xs, m, rfl, _, _, hl, hx⟩ := DataW.trod_array Try.underlying46 h
  have hc : ∀ i, i < 1024 → ∃ z : Int, (0 ≤ z ∧ z ≤ 255) ∧ cs[i]? = some (.int .u8 z) := by
    intro i hi
    have h1 := hx i hi
    rw [cellsO5, Nat.mul_one] at h1
    have hi' : i < xs.length := by omega
    rw [List.getElem?_eq_getElem hi'] at h1
    obtain ⟨z, hz, _, hw⟩ := DataW.trod_int Try.underlying5 h1
    refine ⟨z, bounds_u8 hw, ?_⟩
    have := congrArg (·[0]?) hz
    simpa [List.getElem?_take, List.getElem?_drop, Value.cells] using this
  have key : ∃ f : Nat → Int, ∀ i, i < 1024 → (0 ≤ f i ∧ f i ≤ 255) ∧ cs[i]? = some (.int .u8 (f i)) :=
    ⟨fun i => if h : i < 1024 then (hc i h).choose else 0, fun i hi => by
      simp only [hi, dif_pos]
      exact (hc i hi).choose_spec⟩
  obtain ⟨f, hf⟩ := key
  refine ⟨firsts f 1024, ⟨fun i => ?_, fun i hi => by unfold firsts; rw [if_neg (by omega)]⟩, ?_⟩
  · unfold firsts
    by_cases hi : i < 1024
    · rw [if_pos hi]; exact (hf i hi).1
    · rw [if_neg hi]; omega
  · apply List.ext_getElem?
    intro i
    by_cases hi : i < 1024
    · rw [(hf i hi).2, Array.getElem?_toList, blk_get _ _ hi]
      unfold firsts
      rw [if_pos hi]
    · rw [List.getElem?_eq_none (by omega), List.getElem?_eq_none (by rw [blk_list_len]; omega)]
theorem list2 {α : Type} {l : List α} (h : l.length = 2) : ∃ a b, l = [a, b] := by
  match l, h with
  | [a, b], _ => exact ⟨a, b, rfl⟩
theorem list3 {α : Type} {l : List α} (h : l.length = 3) : ∃ a b c, l = [a, b, c] := by
  match l, h with
  | [a, b, c], _ => exact ⟨a, b, c, rfl⟩
theorem list5 {α : Type} {l : List α} (h : l.length = 5) : ∃ a b c d e, l = [a, b, c, d, e] := by
  match l, h with
  | [a, b, c, d, e], _ => exact ⟨a, b, c, d, e, rfl⟩
theorem add_at {b off i j : Nat} : ((⟨b, off, none⟩ : Addr).add i).add j = ⟨b, off + i + j, none⟩ := by
  rw [Go.WideShapes.add_plain, Go.WideShapes.add_plain]
theorem plain_rows {a : Addr} {k : Nat} {cs : List Value} (h : w.cells? base (a.add (0 * k)) k = some cs) (hk : 0 < k) : ∃ b off, a = ⟨b, off, none⟩ ∧ b < w.heap.size := by
  obtain ⟨_, hlen, hcell⟩ := World.cells?_some h
  have h0 := hcell 0 hk
  rw [Nat.zero_mul, Go.Deep.add_add, Nat.add_zero, List.getElem?_eq_getElem (by omega)] at h0
  exact plain_addr h0
theorem cel_of_trod {cs : List Value} {n : Nat} (h : DataW.trod enc Try.prog w base sp held n 54 cs = some x) (hl : cs.length = 1025) : ∃ c : Cel, Can c.2 ∧ cs = celRow c := by
  obtain ⟨xs, q, _, _, _, hxl, hf⟩ := DataW.trod_struct Try.underlying54 h
  obtain ⟨y0, y1, rfl⟩ := list2 (show xs.length = 2 from hxl)
  have g0 : DataW.trod enc Try.prog w base sp held q 3 ((cs.drop 0).take (Try.prog.cellsOf 3)) = some y0 := hf 0 _ rfl
  have g1 : DataW.trod enc Try.prog w base sp held q 46 ((cs.drop 1).take (Try.prog.cellsOf 46)) = some y1 := hf 1 _ rfl
  rw [cellsO3, List.drop_zero] at g0
  rw [cellsO46] at g1
  obtain ⟨k, hk, _⟩ := int_of_trod g0 rfl
  obtain ⟨f, hcan, hfe⟩ := blk_of_trod g1 rfl (by rw [List.length_take, List.length_drop, hl]; omega)
  refine ⟨(k, f), hcan, ?_⟩
  have e1 : (cs.drop 1).take 1024 = cs.drop 1 := List.take_of_length_le (by rw [List.length_drop, hl]; omega)
  rw [e1] at hfe
  rw [← List.take_append_drop 1 cs, hk, hfe]
  rfl
theorem helds_of_trod (h : DataW.trod enc Try.prog w base sp held fuel 22 [v] = some x) : ∃ a cap l, v = .slice a (List.length l) cap ∧ ImgAt w a l ∧ l.length ≤ maxLen ∧ l.length ≤ cap ∧ ∀ c ∈ l, Can c.2 := by
  rcases Go.Deep.open_slice Try.underlying22 h with ⟨h0, _⟩ | ⟨a, len, cap, m, n, D, Pl, hv, _, hl, hm, hmm, _, hc⟩
  · have hv : v = .slice none 0 0 := by simpa using h0
    subst hv
    exact ⟨none, 0, [], rfl, fun q => by simp at q, by simp, by simp, fun c hc => by simp at hc⟩
  · have hv' : v = .slice (some a) len cap := by simpa using hv
    subst hv'
    have hlm : len ≤ m := by rw [hmm]; split <;> omega
    have key : ∀ i, ∃ c : Cel, Can c.2 ∧ (i < len → w.cells? base (a.add (i * 1025)) 1025 = some (celRow c)) := fun i => by
      by_cases hi : i < len
      · obtain ⟨cs, h1, h2⟩ := hc i (by omega)
        rw [cellsO59] at h1
        obtain ⟨_, hlen, _⟩ := World.cells?_some h1
        obtain ⟨c, hcan, rfl⟩ := cel_of_trod h2 hlen
        exact ⟨c, hcan, fun _ => h1⟩
      · exact ⟨(0, nought), can_nought, fun q => absurd q hi⟩
    obtain ⟨f, hf⟩ := Classical.skolem.1 key
    have hll : ((List.range len).map f).length = len := by simp
    refine ⟨some a, cap, (List.range len).map f, by rw [hll], fun h0 => ?_, by rw [hll]; omega, by rw [hll]; exact hl, fun c hc => ?_⟩
    · rw [hll] at h0
      obtain ⟨b, off, rfl, hb⟩ := plain_rows ((hf 0).2 (by omega)) (by omega)
      refine ⟨b, off, rfl, hb, fun k c hk => ?_⟩
      have hi : k < len := by have := (List.getElem?_eq_some_iff.1 hk).1; rwa [hll] at this
      rw [List.getElem?_map, List.getElem?_range hi] at hk
      have ec : f k = c := by simpa using hk
      obtain ⟨_, _, hcell⟩ := World.cells?_some ((hf k).2 hi)
      rw [ec] at hcell
      refine ⟨?_, fun j u hu => ?_⟩
      · have := hcell 0 (by omega)
        rw [add_at] at this
        rw [Nat.add_zero] at this
        rw [this]
        rfl
      · have hj : j < 1024 := by have := (List.getElem?_eq_some_iff.1 hu).1; rwa [blk_list_len] at this
        have := hcell (j + 1) (by omega)
        rw [add_at, show off + k * 1025 + (j + 1) = off + k * 1025 + 1 + j by omega] at this
        rw [this]
        unfold celRow
        rw [List.getElem?_cons_succ]
        exact hu
    · obtain ⟨i, _, rfl⟩ := List.mem_map.1 hc
      exact (hf i).1
theorem image_of_trod {cs : List Value} (h : DataW.trod enc Try.prog w base sp held fuel 24 cs = some x) (hl : cs.length = 2) : ∃ n p l cp, cs = [.int .i64 n, .slice p (List.length l) cp] ∧ ImgAt w p l ∧ l.length ≤ maxLen ∧ (∀ c ∈ l, Can c.2) := by
  obtain ⟨v0, v1, rfl⟩ := list2 hl
  obtain ⟨us, mm, _, _, _, hul, hg⟩ := DataW.trod_struct Try.underlying24 h
  obtain ⟨z0, z1, rfl⟩ := list2 (show us.length = 2 from hul)
  have i0 := hg 0 _ rfl
  have i1 := hg 1 _ rfl
  simp [cellsO3, cellsO22] at i0 i1
  obtain ⟨n, hn, _⟩ := int_of_trod i0 rfl
  obtain ⟨a, cap, l, rfl, h2, h3, _, h5⟩ := helds_of_trod i1
  have e0 : v0 = .int .i64 n := by simpa using hn
  subst e0
  exact ⟨n, a, l, cap, rfl, h2, h3, h5⟩
theorem geo_of_trod {cs : List Value} (h : DataW.trod enc Try.prog w base sp held fuel 26 cs = some x) (hl : cs.length = 3) : ∃ gb gl gi, cs = [.int .i64 gb, .int .i64 gl, .int .i64 gi] ∧ (-9223372036854775808 ≤ gb ∧ gb ≤ 9223372036854775807) ∧ (-9223372036854775808 ≤ gl ∧ gl ≤ 9223372036854775807) ∧ (-9223372036854775808 ≤ gi ∧ gi ≤ 9223372036854775807) := by
  obtain ⟨v0, v1, v2, rfl⟩ := list3 hl
  obtain ⟨ts, mk, _, _, _, htl, hk⟩ := DataW.trod_struct Try.underlying26 h
  obtain ⟨t0, t1, t2, rfl⟩ := list3 (show ts.length = 3 from htl)
  have j0 := hk 0 _ rfl
  have j1 := hk 1 _ rfl
  have j2 := hk 2 _ rfl
  simp [cellsO3] at j0 j1 j2
  obtain ⟨gb, hgb, hb⟩ := int_of_trod j0 rfl
  obtain ⟨gl, hgl, hc⟩ := int_of_trod j1 rfl
  obtain ⟨gi, hgi, hd⟩ := int_of_trod j2 rfl
  have e0 : v0 = .int .i64 gb := by simpa using hgb
  have e1 : v1 = .int .i64 gl := by simpa using hgl
  have e2 : v2 = .int .i64 gi := by simpa using hgi
  subst e0 e1 e2
  exact ⟨gb, gl, gi, rfl, hb, hc, hd⟩
end
end Go.Proofs.YtlcdpmjdnihocaaD
/- Two disks beside rows of the law's own; the law's first look; how large an image and a geometry are; no condition. -/
namespace Go.Proofs.YtlcdpmjdnihocaaD
open Go.RowKit
/-- Beside a disk: rows that stay. -/
structure SoP (w : World) (ks : List (Nat × Obj)) (W : World) (L : Loc) : Prop where
  new : L.from w.heap.size
  below : Below w.heap.size w W
  keep : ∀ p ∈ ks, W.heap[p.1]? = some p.2 ∧ ¬ L.has p.1
theorem soP_stays (w : World) (ks : List (Nat × Obj)) : Stays (SoP w ks) := fun W W' L L' hlt h hG => by
  refine ⟨fun k hk => ?_, h.below.trans (hG.fr.below h.new h.below.size), fun p hp => ?_⟩
  · rcases hG.own k hk with q | q
    · exact h.new k q
    · have := h.below.size; omega
  · obtain ⟨h1, h2⟩ := h.keep p hp
    have hg := (Array.getElem?_eq_some_iff.1 h1).1
    refine ⟨(hG.fr.block _ hg h2).trans h1, fun q => ?_⟩
    rcases hG.own _ q with r | r
    · exact h2 r
    · omega
/-- Beside a disk: another one, and rows that stay. -/
structure DuP (w : World) (d2 : Nat) (s2 : St) (ks : List (Nat × Obj)) (W : World) (L : Loc) : Prop where
  so : SoP w ks W L
  other : ∃ L2 : Loc, L2.d = d2 ∧ DiskAt W L2 s2 ∧ SoP w ks W L2 ∧ ∀ k, L.has k → ¬ L2.has k
theorem duP_stays (w : World) (d2 : Nat) (s2 : St) (ks : List (Nat × Obj)) : Stays (DuP w d2 s2 ks) := fun W W' L L' hlt h hG => by
  obtain ⟨L2, hd, hD, hS, ha⟩ := h.other
  have hs := soP_stays w ks W W' L L' hlt h.so hG
  have hne : ∀ k, L2.has k → ¬ L.has k := fun k q r => ha k r q
  have hD2 : DiskAt W' L2 s2 := hD.kept fun k hk => hG.fr.block k (hD.lt k hk) (hne k hk)
  refine ⟨hs, L2, hd, hD2, ⟨hS.new, hs.below, fun p hp => ⟨(hs.keep p hp).1, (hS.keep p hp).2⟩⟩, fun k hk hk2 => ?_⟩
  rcases hG.own k hk with q | q
  · exact ha k q hk2
  · have := hD.lt k hk2; omega
variable {w W W' : World} {d d2 : Nat} {s s2 : St} {ks : List (Nat × Obj)}
theorem Has.belowO (h : Has (SoP w ks) W d s) : Below w.heap.size w W := by obtain ⟨L, _, _, h⟩ := h; exact h.below
theorem Has.rowO (h : Has (SoP w ks) W d s) {g : Nat} {o : Obj} (hm : (g, o) ∈ ks) : W.heap[g]? = some o := by obtain ⟨L, _, _, h⟩ := h; exact (h.keep _ hm).1
theorem Has.belowD (h : Has (DuP w d2 s2 ks) W d s) : Below w.heap.size w W := by obtain ⟨L, _, _, h⟩ := h; exact h.so.below
theorem Has.rowD (h : Has (DuP w d2 s2 ks) W d s) {g : Nat} {o : Obj} (hm : (g, o) ∈ ks) : W.heap[g]? = some o := by obtain ⟨L, _, _, h⟩ := h; exact (h.so.keep _ hm).1
theorem Has.swapD (h : Has (DuP w d2 s2 ks) W d s) : Has (DuP w d s ks) W d2 s2 := by
  obtain ⟨L, hd, hD, h⟩ := h
  obtain ⟨L2, hd2, hD2, hS2, ha⟩ := h.other
  exact ⟨L2, hd2, hD2, hS2, L, hd, hD, h.so, fun k q r => ha k r q⟩
theorem Has.okD (h : Has (DuP w d2 s2 ks) W d s) : Ok s2 := by
  obtain ⟨L, hd, hD, h⟩ := h
  obtain ⟨L2, hd2, hD2, hS2, ha⟩ := h.other
  exact hD2.ok
theorem has_solo {L : Loc} (hD : DiskAt W' L s) (hL : L.from W.heap.size) (hb : Below W.heap.size W W') (hB : Below w.heap.size w W) (hk : ∀ p ∈ ks, W.heap[p.1]? = some p.2) : Has (SoP w ks) W' L.d s := by
  refine ⟨L, rfl, hD, fun k hk => by have := hL k hk; have := hB.size; omega, below_next hB hb, fun p hp => ?_⟩
  have h1 := hk p hp
  have hlt := (Array.getElem?_eq_some_iff.1 h1).1
  exact ⟨heap_kept h1 hb, fun q => by have := hL _ q; omega⟩
theorem Has.duo {L2 : Loc} (h : Has (SoP w ks) W d s) (hD : DiskAt W' L2 s2) (hL : L2.from W.heap.size) (hb : Below W.heap.size W W') : Has (DuP w d s ks) W' L2.d s2 := by
  have hB := h.belowO
  have h' := h.later (soP_stays w ks) hb
  obtain ⟨L, hd, hD1, hS⟩ := h
  have hlt := hD1.lt
  have hD1' := hD1.later hb
  have hS' : SoP w ks W' L := soP_stays w ks W W' L L hlt hS (Goes.ofBelow L hb)
  refine ⟨L2, rfl, hD, ⟨fun k hk => by have := hL k hk; have := hB.size; omega, below_next hB hb, fun p hp => ⟨(hS'.keep p hp).1, fun q => ?_⟩⟩, L, hd, hD1', hS', fun k hk q => ?_⟩
  · have := hL _ q
    have := (Array.getElem?_eq_some_iff.1 (hS.keep p hp).1).1
    omega
  · have := hL k hk
    have := hlt k q
    omega
theorem Has.addO (h : Has (SoP w ks) W d s) (o : Obj) : Has (SoP w ((W.heap.size, o) :: ks)) (W.alloc o) d s := by
  have h2 := h.later (soP_stays w ks) (below_new W o)
  obtain ⟨L, hd, hD, hS⟩ := h
  obtain ⟨hn, hb, hk⟩ := soP_stays w ks W _ L L hD.lt hS (Goes.ofBelow L (below_new W o))
  refine ⟨L, hd, hD.later (below_new W o), hn, hb, fun p hp => ?_⟩
  rcases List.mem_cons.1 hp with rfl | hp
  · exact ⟨heap_alloc_new _ _, fun q => by have := hD.lt _ q; simp only at this; omega⟩
  · exact hk p hp
theorem Has.addD (h : Has (DuP w d2 s2 ks) W d s) (o : Obj) : Has (DuP w d2 s2 ((W.heap.size, o) :: ks)) (W.alloc o) d s := by
  obtain ⟨L, hd, hD, hS⟩ := h
  obtain ⟨L2, hd2, hD2, hS2, ha⟩ := hS.other
  have key : ∀ (L0 : Loc) (s0 : St), DiskAt W L0 s0 → SoP w ks W L0 → SoP w ((W.heap.size, o) :: ks) (W.alloc o) L0 := fun L0 s0 hD0 h0 => by
    obtain ⟨hn, hb, hk⟩ := soP_stays w ks W _ L0 L0 hD0.lt h0 (Goes.ofBelow L0 (below_new W o))
    refine ⟨hn, hb, fun p hp => ?_⟩
    rcases List.mem_cons.1 hp with rfl | hp
    · exact ⟨heap_alloc_new _ _, fun q => by have := hD0.lt _ q; simp only at this; omega⟩
    · exact hk p hp
  exact ⟨L, hd, hD.later (below_new W o), key L s hD hS.so, L2, hd2, hD2.later (below_new W o), key L2 s2 hD2 hS2, ha⟩
/-- What mkfs makes of a disk that lets all through. -/
theorem mk_done {b l i : Int} {s : St} (hf : YtlcdpmjdnihocaaP.Fine b l i) (hn : b ≤ s.n) (hs : s.stopped = false) (hfu : s.fuse = -1 ∨ ((mkN b l i + 6 : Nat) : Int) ≤ s.fuse) :
    mkE b l i s = 0 ∧ mkV b l i s = allV (claimV s) (mkL b l i 0) ∧ (mkV b l i s).made = s.made + (mkN b l i + 6 : Nat) ∧ (mkV b l i s).n = s.n ∧ (mkV b l i s).stopped = false ∧ (mkV b l i s).reads = s.reads ∧ (mkV b l i s).claims = s.claims + 1 ∧ (mkV b l i s).fuse = (if s.fuse = -1 then -1 else s.fuse - (mkN b l i + 6 : Nat)) := by
  have hr : rdyE b l i s = 0 := by
    unfold rdyE YtlcdpmjdnihocaaP.ofE
    rw [if_pos hf, if_neg (by rintro (q | q); exact q rfl; omega), hs]
    rfl
  have hc : claimV s = { s with claims := s.claims + 1, claimed := true } := by unfold claimV; rw [hs]; rfl
  have hg := run_goes (mkL b l i 0) (claimV s) (by rw [hc]; exact hs) (by rw [hc]; exact mkL_in hf hn) (by rw [hc, mkL_len]; exact hfu)
  obtain ⟨g1, g2, g3, g4, g5, g6, g7, g8⟩ := hg
  have hE : mkE b l i s = 0 := by unfold mkE; rw [if_pos hr, g1]
  have hV : mkV b l i s = allV (claimV s) (mkL b l i 0) := by unfold mkV; rw [if_pos hr, g1]
  refine ⟨hE, hV, ?_, ?_, ?_, ?_, ?_, ?_⟩
  · rw [hV, g3, hc, mkL_len]
  · rw [hV, g4, hc]
  · rw [hV]; exact g2
  · rw [hV, g5, hc]
  · rw [hV, g6, hc]
  · rw [hV, g7, hc, mkL_len]
/-- What it makes of a disk that stops. -/
theorem mk_stops {b l i : Int} {s : St} (hf : YtlcdpmjdnihocaaP.Fine b l i) (hn : b ≤ s.n) (hs : s.stopped = false) (h0 : 0 ≤ s.fuse) (h1 : s.fuse < ((mkN b l i + 6 : Nat) : Int)) :
    mkE b l i s = 3 ∧ mkV b l i s = { allV (claimV s) ((mkL b l i 0).take s.fuse.toNat) with stopped := true } ∧ (mkV b l i s).made = s.made + s.fuse := by
  have hr : rdyE b l i s = 0 := by
    unfold rdyE YtlcdpmjdnihocaaP.ofE
    rw [if_pos hf, if_neg (by rintro (q | q); exact q rfl; omega), hs]
    rfl
  have hc : claimV s = { s with claims := s.claims + 1, claimed := true } := by unfold claimV; rw [hs]; rfl
  have hg := run_stops (mkL b l i 0) (claimV s) (by rw [hc]; exact hs) (by rw [hc]; exact mkL_in hf hn) (by rw [hc]; exact h0) (by rw [hc, mkL_len]; exact h1)
  obtain ⟨g1, g2⟩ := hg
  have hfc : (claimV s).fuse = s.fuse := by rw [hc]
  have hV : mkV b l i s = { allV (claimV s) ((mkL b l i 0).take s.fuse.toNat) with stopped := true } := by unfold mkV; rw [if_pos hr, g1, hfc]
  refine ⟨by unfold mkE; rw [if_pos hr, g1], hV, ?_⟩
  rw [hV]
  show (allV (claimV s) _).made = _
  rw [← hfc, g2, hc]
theorem fine_small : YtlcdpmjdnihocaaP.Fine 400 32 60 := by
  unfold YtlcdpmjdnihocaaP.Fine YtlcdpmjdnihocaaP.dataAt YtlcdpmjdnihocaaP.bitsAt YtlcdpmjdnihocaaP.nodeB YtlcdpmjdnihocaaP.bitsB
  decide
theorem mkN_small : mkN 400 32 60 = 6 := by
  unfold mkN YtlcdpmjdnihocaaP.dataAt YtlcdpmjdnihocaaP.bitsAt YtlcdpmjdnihocaaP.nodeB YtlcdpmjdnihocaaP.bitsB
  decide
theorem wide_new (n : Int) : Wide (newV n) 10000 := ⟨by show (0 : Nat) + 10000 < _; omega, by show (0 : Int) + _ < _; omega, by show (0 : Int) < _; omega, by show (0 : Int) < _; omega⟩
set_option maxRecDepth 20000 in
set_option maxHeartbeats 2000000 in
theorem lives_ok (w : World) : Calls Try.prog 10 #[] w fun e w' => e = .returned (.bool true) ∧ Below w.heap.size w w' := by
  have hnw := new_ok (n := 400) (by decide) w
  obtain ⟨q1, q2, q3, _⟩ := mk_done (s := newV 400) fine_small (by show (400 : Int) ≤ 400; omega) rfl (.inl rfl)
  rw [mkN_small] at q3
  have HQ1 : Hid _ := q1
  have HQ3 : Hid ((mkV 400 32 60 (newV 400)).made = 12) := q3
  have HMk : Hid (∀ V d, Has (SoP w []) V d (newV 400) → Calls Try.prog 11 #[.pointer (some ⟨d, 0, none⟩), .agg #[.int .i64 400, .int .i64 32, .int .i64 60]] V fun e W' => e = .returned (.int .i64 (mkE 400 32 60 (newV 400))) ∧ Has (SoP w []) W' d (mkV 400 32 60 (newV 400))) := fun V d hV => make_ok (soP_stays w []) hV 400 32 60 (by unfold YtlcdpmjdnihocaaP.I64; omega) (wide_new 400) (by show (0 : Int) < _; omega)
  have HMd : Hid (∀ V d s, Has (SoP w []) V d s → Calls Try.prog 13 #[.pointer (some ⟨d, 0, none⟩)] V fun e W' => e = .returned (.int .i64 s.made) ∧ W' = V) := fun V d s hV => has_made hV
  clear q1 q2 q3
  go_enter Try.func10, Try.ntmps10
  go_wp2_with (go_at_call 19; fail)
  refine hnw.mono ?_
  rintro e W1 ⟨L, rfl, hD, hL, hb⟩
  have HH : Hid (Has (SoP w []) W1 L.d (newV 400)) := has_solo hD hL hb (Below.refl _ _) (fun p hp => by simp at hp)
  clear hD hL hb hnw
  generalize L.d = d at *
  go_wp2_with (go_at_call 11; fail)
  refine (HMk.out _ _ HH.out).mono ?_
  rintro e W2 ⟨rfl, h2⟩
  have HH2 : Hid (Has (SoP w []) W2 d (mkV 400 32 60 (newV 400))) := h2
  rw [HQ1.out]
  clear h2 HH HMk
  go_wp2_with (go_at_call 13; fail)
  refine (HMd.out _ _ _ HH2.out).mono ?_
  rintro e W3 ⟨rfl, he⟩
  obtain rfl := he.symm
  clear he
  rw [HQ3.out]
  have HB : Hid (Below w.heap.size w W2) := HH2.out.belowO
  clear HH2 HMd
  go_wp2
  go_ret
  exact ⟨rfl, HB.out⟩
def largeB (n : Int) (m : Nat) (i : Int) : Bool := decide (n > 9000) || (decide ((m : Int) > 400) || (decide (i > 2000) && decide (i ≤ 65535)))
set_option maxRecDepth 20000 in
set_option maxHeartbeats 2000000 in
theorem large_ok (n : Int) (p : Option Addr) (m cap : Nat) (b l i : Int) (w : World) :
    Calls Try.prog 7 #[.agg #[.int .i64 n, .slice p m cap], YtlcdpmjdnihocaaP.geoV b l i] w fun e w' => e = .returned (.bool (largeB n m i)) ∧ Below w.heap.size w w' := by
  have hB := below_next (below_new w (.cells #[.int .i64 n, .slice p m cap] 24)) (below_new _ (.cells #[.int .i64 b, .int .i64 l, .int .i64 i] 26))
  unfold YtlcdpmjdnihocaaP.geoV largeB
  have HB : Hid _ := hB
  clear hB
  cases h1 : decide (n > 9000)
  · cases h2 : decide ((m : Int) > 400)
    · cases h3 : decide (i > 2000)
      · go_enter Try.func7, Try.ntmps7
        go_wp2
        go_ret
        exact ⟨rfl, HB.out⟩
      · go_enter Try.func7, Try.ntmps7
        go_wp2
        go_ret
        exact ⟨rfl, HB.out⟩
    · go_enter Try.func7, Try.ntmps7
      go_wp2
      go_ret
      exact ⟨rfl, HB.out⟩
  · go_enter Try.func7, Try.ntmps7
    go_wp2
    go_ret
    exact ⟨rfl, HB.out⟩
end Go.Proofs.YtlcdpmjdnihocaaD
/- MkfsMade: what is left, wherever it is stopped, whatever is kept: the law answers true; no condition. -/
namespace Go.Proofs.YtlcdpmjdnihocaaD
open Go.RowKit
theorem fuseV_load {n : Int} {ls : List Cel} (f : Int) (hf : 0 ≤ f) : fuseV (loadV n ls) f = { loadV n ls with fuse := f } := by
  obtain ⟨_, _, h3, _⟩ := loadV_same n ls
  unfold fuseV
  rw [if_neg (by rw [h3]; simp), show max f (-1) = f by omega]
theorem loadV_fuse (n : Int) (ls : List Cel) : (loadV n ls).fuse = -1 ∧ (loadV n ls).claimed = false := by
  obtain ⟨h, e⟩ := holdAll_same ls (newV n)
  unfold loadV
  rw [e]
  exact ⟨rfl, rfl⟩
theorem claimV_hw (s : St) : (claimV s).held = s.held ∧ (claimV s).wait = s.wait := by
  unfold claimV
  split
  · exact ⟨rfl, rfl⟩
  · exact ⟨rfl, rfl⟩
/-- What the second disk is, wherever it stops, and what a crash leaves of it. -/
structure MdF (n : Int) (ls : List Cel) (b l i st : Int) (kl : List Bool) (E : Int) (m2 : St) : Prop where
  e : (E = 0 ∧ st = ((mkN b l i + 6 : Nat) : Int)) ∨ (E = 3 ∧ st < ((mkN b l i + 6 : Nat) : Int))
  made : m2.made = st
  nn : (crashS m2 kl).n = n
  wait : m2.wait.length ≤ 5000
  three : (st < 2 ∧ (crashS m2 kl).held = (loadV n ls).held) ∨ (crashS m2 kl).held 0 = none ∨ (crashS m2 kl).held = (mkV b l i (loadV n ls)).held
theorem wait_le (s : St) : ∀ (ops : List MOp), (allV s ops).wait.length ≤ s.wait.length + ops.length
  | [] => by simp [allV]
  | o :: t => by
    have ih := wait_le (goV s o) t
    rw [allV_cons]
    have : (goV s o).wait.length ≤ s.wait.length + 1 := by
      cases o with
      | none => show (barS s).wait.length ≤ _; simp [barS]
      | some c => show (s.wait ++ [(c.1, c.2)]).length ≤ _; simp
    rw [List.length_cons]
    omega
theorem mdF {n : Int} {ls : List Cel} {b l i st : Int} (hf : YtlcdpmjdnihocaaP.Fine b l i) (hn : b ≤ n) (h0 : 0 ≤ st) (h1 : st ≤ ((mkN b l i + 6 : Nat) : Int)) (kl : List Bool) :
    MdF n ls b l i st kl (mkE b l i (fuseV (loadV n ls) st)) (mkV b l i (fuseV (loadV n ls) st)) := by
  obtain ⟨l1, l2, l3, l4, l5, l6, l7⟩ := loadV_same n ls
  have hfu := loadV_fuse n ls
  obtain ⟨w1, w2, w3, w4, w5, w6, w7, w8⟩ := mk_done (s := loadV n ls) hf (by rw [l1]; exact hn) l3 (.inl hfu.1)
  rw [fuseV_load st h0]
  obtain ⟨s, hs⟩ : ∃ s, ({ loadV n ls with fuse := st } : St) = s := ⟨_, rfl⟩
  have s1 : s.n = n := by rw [← hs]; exact l1
  have s2 : s.wait = [] := by rw [← hs]; exact l2
  have s3 : s.stopped = false := by rw [← hs]; exact l3
  have s5 : s.made = 0 := by rw [← hs]; exact l5
  have s6 : s.held = (loadV n ls).held := by rw [← hs]
  have s7 : s.fuse = st := by rw [← hs]
  rw [hs]
  have hcl := claimV_hw s
  have hcl2 := claimV_hw (loadV n ls)
  have hall : (allV (claimV s) (mkL b l i 0)).held = (mkV b l i (loadV n ls)).held := by
    rw [w2]
    exact (allV_hw _ (by rw [hcl.1, hcl2.1, s6]) (by rw [hcl.2, hcl2.2, s2, l2])).1
  have hlen := mkN_le hf
  have hcn : (claimV s).n = n := by unfold claimV; split <;> exact s1
  have hnall : ∀ ops, (allV (claimV s) ops).n = n := fun ops => by
    have : ∀ (ops : List MOp) (t : St), (allV t ops).n = t.n := fun ops => by
      induction ops with
      | nil => intro t; rfl
      | cons o r ih => intro t; rw [allV_cons, ih, (goV_rest t o).1]
    rw [this, hcn]
  have hcr : ∀ m : St, (crashS m kl).n = m.n := fun m => by show (holdAll m _).n = _; exact holdAll_n _ _
  by_cases hst : st = ((mkN b l i + 6 : Nat) : Int)
  · obtain ⟨q1, q2, q3, q4, q5, q6, q7, q8⟩ := mk_done (s := s) hf (by rw [s1]; exact hn) s3 (.inr (by rw [s7, hst]; exact Int.le_refl _))
    refine ⟨.inl ⟨q1, hst⟩, by rw [q3, s5, hst]; simp, by rw [hcr, q2]; exact hnall _, ?_, ?_⟩
    · rw [q2]
      have := wait_le (claimV s) (mkL b l i 0)
      rw [hcl.2, s2, mkL_len] at this
      simp at this
      omega
    · have h3 := mk_three hf (claimV s) (by rw [hcl.2, s2]) (mkL b l i 0).length (Nat.le_refl _) kl
      rw [List.take_length] at h3
      rw [q2]
      show _ ∨ (holdAll (allV (claimV s) (mkL b l i 0)) _).held 0 = none ∨ (holdAll (allV (claimV s) (mkL b l i 0)) _).held = _
      rcases h3 with ⟨h, _⟩ | h | h
      · rw [mkL_len] at h; omega
      · exact .inr (.inl h)
      · exact .inr (.inr (h.trans hall))
  · obtain ⟨q1, q2, q3⟩ := mk_stops (s := s) hf (by rw [s1]; exact hn) s3 (by rw [s7]; exact h0) (by rw [s7]; omega)
    refine ⟨.inr ⟨q1, by omega⟩, by rw [q3, s5, s7]; simp, by rw [hcr, q2]; exact hnall _, ?_, ?_⟩
    · rw [q2]
      have := wait_le (claimV s) ((mkL b l i 0).take s.fuse.toNat)
      rw [hcl.2, s2, List.length_take, mkL_len] at this
      show (allV (claimV s) ((mkL b l i 0).take s.fuse.toNat)).wait.length ≤ _
      simp at this
      omega
    · have h3 := mk_three hf (claimV s) (by rw [hcl.2, s2]) s.fuse.toNat (by rw [mkL_len]; omega) kl
      rw [q2]
      show (_ ∧ (holdAll ({ allV (claimV s) ((mkL b l i 0).take s.fuse.toNat) with stopped := true } : St) (keptL (allV (claimV s) ((mkL b l i 0).take s.fuse.toNat)).wait kl)).held = _) ∨ (holdAll ({ allV (claimV s) ((mkL b l i 0).take s.fuse.toNat) with stopped := true } : St) (keptL (allV (claimV s) ((mkL b l i 0).take s.fuse.toNat)).wait kl)).held 0 = none ∨ (holdAll ({ allV (claimV s) ((mkL b l i 0).take s.fuse.toNat) with stopped := true } : St) (keptL (allV (claimV s) ((mkL b l i 0).take s.fuse.toNat)).wait kl)).held = _
      rw [holdAll_held (s := ({ allV (claimV s) ((mkL b l i 0).take s.fuse.toNat) with stopped := true } : St)) (t := allV (claimV s) ((mkL b l i 0).take s.fuse.toNat)) rfl]
      rcases h3 with ⟨h, h'⟩ | h | h
      · exact .inl ⟨by omega, by rw [h', hcl.1, s6]⟩
      · exact .inr (.inl h)
      · exact .inr (.inr (h.trans hall))
/-- The law's own verdict. -/
theorem made_final {n : Int} {ls l1 l2 : List Cel} {b l i st : Int} {kl : List Bool} {E : Int} {m2 : St} (h : MdF n ls b l i st kl E m2) (hm : mayB n ls = true) (hc : ∀ c ∈ ls, Can c.2)
    (h1 : IsImage (crashS m2 kl) l1) (h2 : IsImage (mkV b l i (loadV n ls)) l2) : ((decide (st < 2) && celsB l1 ls) || (sameB (atL l1 0) nought || celsB l1 l2)) = true := by
  have hs1 : ∀ c ∈ l1, Can c.2 := fun c q => (h1.sound c q).1
  rcases h.three with ⟨q1, q2⟩ | q | q
  · have e := load_one hm hc q2 h1
    rw [decide_eq_true q1, (celsB_iff hs1 hc).2 e]
    rfl
  · have e : sameB (atL l1 0) nought = true := by
      rw [h1.at_ 0, q]
      exact (can_nought.same can_nought).2 rfl
    rw [e]
    simp
  · have e : l1 = l2 := h1.one h2.rise h2.sound fun k => by rw [h2.at_ k, q]
    rw [(celsB_iff hs1 (fun c r => (h2.sound c r).1)).2 e]
    simp
theorem wide_load (n : Int) (ls : List Cel) : Wide (loadV n ls) 10000 := by
  obtain ⟨l1, l2, l3, l4, l5, l6, l7⟩ := loadV_same n ls
  exact ⟨by rw [l7]; simp, by rw [l5]; omega, by rw [l4]; omega, by rw [l6]; omega⟩
theorem wide_fuse {s : St} {k : Nat} (h : Wide s k) (f : Int) : Wide (fuseV s f) k := by
  unfold fuseV
  split
  · exact h
  · exact ⟨h.ops, h.made, h.reads, h.claims⟩
def imV (n : Int) (p : Option Addr) (m c : Nat) : Value := .agg #[.int .i64 n, .slice p m c]
end Go.Proofs.YtlcdpmjdnihocaaD
/- MkfsMade: the walk; for every image, geometry and choice. -/
namespace Go.Proofs.YtlcdpmjdnihocaaD
open Go.RowKit
/-- The law's own rows: the image and the geometry that came in. -/
structure LwS (w W : World) (im ge : Array Value) : Prop where
  im : W.heap[w.heap.size]? = some (.cells im 24)
  ge : W.heap[w.heap.size + 1]? = some (.cells ge 26)
  bel : Below w.heap.size w W
theorem LwS.later {w W W' : World} {im ge : Array Value} (h : LwS w W im ge) (hb : Below W.heap.size W W') : LwS w W' im ge := ⟨heap_kept h.im hb, heap_kept h.ge hb, below_next h.bel hb⟩
/-- As blocks that stay beside disks. -/
def lwK (w : World) (im ge : Array Value) : List (Nat × Obj) := [(w.heap.size, .cells im 24), (w.heap.size + 1, .cells ge 26)]
theorem LwS.rows {w W : World} {im ge : Array Value} (h : LwS w W im ge) : ∀ p ∈ lwK w im ge, W.heap[p.1]? = some p.2 := fun p hp => by
  unfold lwK at hp
  rcases List.mem_cons.1 hp with rfl | hp
  · exact h.im
  · rcases List.mem_cons.1 hp with rfl | hp
    · exact h.ge
    · simp at hp
theorem lwS_solo {w W : World} {d : Nat} {s : St} {im ge : Array Value} (h : Has (SoP w (lwK w im ge)) W d s) : LwS w W im ge := ⟨h.rowO (by simp [lwK]), h.rowO (by simp [lwK]), h.belowO⟩
theorem lwS_duo {w W : World} {d d2 : Nat} {s s2 : St} {im ge : Array Value} (h : Has (DuP w d2 s2 (lwK w im ge)) W d s) : LwS w W im ge := ⟨h.rowD (by simp [lwK]), h.rowD (by simp [lwK]), h.belowD⟩
theorem zeroIm : ∀ w, (zeroValue 24).run Try.prog w = .ok (.agg #[.int .i64 0, .slice none 0 0]) w := (zero_of_info (show (Try.prog.info? 24).map (fun i => (i.zero, i.size)) = some (some (.agg #[.int .i64 0, .slice none 0 0]), 2) by kernel_rfl)).1
theorem im_info (n : Int) (p : Option Addr) (m c : Nat) : (Try.prog.info? 24).map (·.size) = some (#[Value.int .i64 n, .slice p m c] : Array Value).size := by kernel_rfl
theorem ge_info (b l i : Int) : (Try.prog.info? 26).map (·.size) = some (#[Value.int .i64 b, .int .i64 l, .int .i64 i] : Array Value).size := by kernel_rfl
theorem fuse_claims {s : St} (h : s.claims < 1000000000) (f : Int) : (fuseV s f).claims < 1000000000 := by
  unfold fuseV
  split
  · exact h
  · exact h
theorem run_ldIm {o : Oper} {a : Act} {u : World} {x : Operand} {g : Nat} {n : Int} {p : Option Addr} {m c : Nat} (ho : o.op = .load 24 x) (hx : a.eval x = .pointer (some ⟨g, 0, none⟩)) (hg : u.heap[g]? = some (.cells #[.int .i64 n, .slice p m c] 24)) :
    (execOp a.eval o).run Try.prog u = .ok (.value (.agg #[.int .i64 n, .slice p m c])) u := by
  have h := run_loadVar_row u g 24 24 #[.int .i64 n, .slice p m c] (0, 0) _ hg Try.underlying24 rfl (im_info n p m c)
  simp only [execOp, ho, hx, Instr.loadAt, Instr.sureAddr, Sem.run_bind, Sem.run_pure, Result.andThen_ok, h]
/-- Image makes memory, and turns none. -/
theorem has_imageB {P : World → Loc → Prop} {W : World} {d : Nat} {s : St} (h : Has P W d s) : Calls Try.prog 16 #[.pointer (some ⟨d, 0, none⟩)] W fun e W' => ∃ (g : Nat) (l : List Cel), e = .returned (.agg #[.int .i64 s.n, .slice (some ⟨g, 0, none⟩) l.length l.length]) ∧ IsImage s l ∧ ImgAt W' (some ⟨g, 0, none⟩) l ∧ Below W.heap.size W W' := by
  obtain ⟨L, rfl, hD, hp⟩ := h
  exact (image_walk hD).mono fun e W' ⟨g, l, h1, h2, h3, _, h5⟩ => ⟨g, l, h1, h2, img_cells h3, h5⟩
set_option maxRecDepth 20000 in
set_option maxHeartbeats 8000000 in
theorem law_made (n : Int) (p : Option Addr) (ls : List Cel) (cap : Nat) (gb gl gi : Int) (ka : Option Addr) (kl : List Bool) (kc : Nat) (w : World) (himg : ImgAt w p ls) (hcan : ∀ c ∈ ls, Can c.2) (hgb : YtlcdpmjdnihocaaP.I64 gb)
    (hkl : kl.length ≤ 9223372036854775807) (hkv : BoolsAt w (.slice ka kl.length kc) kl) :
    Calls Try.prog 3 #[.agg #[.int .i64 n, .slice p ls.length cap], YtlcdpmjdnihocaaP.geoV gb gl gi, .slice ka kl.length kc] w fun e w' => e = .returned (.bool true) ∧ Below w.heap.size w w' := by
  have HKv : Hid (BoolsAt w (.slice ka kl.length kc) kl ∧ kl.length ≤ 9223372036854775807) := ⟨hkv, hkl⟩
  clear hkv
  obtain ⟨kn, hkn⟩ : ∃ kn, kl.length = kn := ⟨_, rfl⟩
  rw [hkn] at HKv hkl ⊢
  have HKn : Hid (kl.length = kn) := hkn
  clear hkn
  obtain ⟨m, hm⟩ : ∃ m, ls.length = m := ⟨_, rfl⟩
  have hOf := fun u => YtlcdpmjdnihocaaP.refOf_any gb gl gi u
  have hLg := fun u => large_ok n p m cap gb gl gi u
  have hWh : ∀ u, Below w.heap.size w u → largeB n m gi = false → Calls Try.prog 8 #[.agg #[.int .i64 n, .slice p m cap]] u fun e w' => e = .returned (.int .i64 (wholeE n ls)) ∧ Below u.heap.size u w' := fun u hu hl => by
    have h4 : (m : Int) ≤ 400 := by
      unfold largeB at hl
      simp at hl
      omega
    have := whole_any n ls p cap u (by omega) (himg.later hu)
    rwa [hm] at this
  have HWh : Hid _ := hWh
  have HIm : Hid (ImgAt w p ls) := himg
  have HCn : Hid (∀ c ∈ ls, Can c.2) := hcan
  have HM : Hid (ls.length = m) := hm
  clear himg hcan hWh
  rw [hm]
  clear hm
  obtain ⟨LR, hLR⟩ : ∃ LR, YtlcdpmjdnihocaaP.ofV gb gl gi = .agg LR ∧ Hid ((Try.prog.info? 29).map (·.size) = some LR.size) ∧ Hid ((YtlcdpmjdnihocaaP.lay9 0 0 0 0 0 0 0 0 0).size = LR.size) ∧ Hid (LR.all (·.oneCell') = true) ∧ Hid (YtlcdpmjdnihocaaP.Fine gb gl gi → LR = YtlcdpmjdnihocaaP.lay9 gb gl gi 1 (1 + gl) (YtlcdpmjdnihocaaP.nodeB gi) (YtlcdpmjdnihocaaP.bitsAt gl gi) (YtlcdpmjdnihocaaP.bitsB gb) (YtlcdpmjdnihocaaP.dataAt gb gl gi)) := by
    by_cases hf : YtlcdpmjdnihocaaP.Fine gb gl gi
    · exact ⟨_, if_pos hf, lay9_size _ _ _ _ _ _ _ _ _, (rfl : (YtlcdpmjdnihocaaP.lay9 0 0 0 0 0 0 0 0 0).size = _), lay9_one _ _ _ _ _ _ _ _ _, fun _ => rfl⟩
    · exact ⟨_, if_neg hf, lay9_size _ _ _ _ _ _ _ _ _, (rfl : (YtlcdpmjdnihocaaP.lay9 0 0 0 0 0 0 0 0 0).size = _), lay9_one _ _ _ _ _ _ _ _ _, fun q => absurd q hf⟩
  obtain ⟨hLR, HLi, HLs, HLo, HLF⟩ := hLR
  rw [hLR] at hOf
  clear hLR
  have HOE : Hid (YtlcdpmjdnihocaaP.ofE gb gl gi = if YtlcdpmjdnihocaaP.Fine gb gl gi then 0 else 2) := rfl
  have HWE : Hid (wholeE n ls = if mayB n ls then 0 else 2) := rfl
  have zl := zeroLy
  unfold YtlcdpmjdnihocaaP.geoV at *
  generalize YtlcdpmjdnihocaaP.lay9 0 0 0 0 0 0 0 0 0 = Z at *
  have HIi : Hid _ := im_info n p m cap
  have HGi : Hid _ := ge_info gb gl gi
  have i0 : (#[Value.int .i64 n, .slice p m cap] : Array Value)[0]? = some (.int .i64 n) := rfl
  have g0 : (#[Value.int .i64 gb, .int .i64 gl, .int .i64 gi] : Array Value)[0]? = some (.int .i64 gb) := rfl
  have g2 : (#[Value.int .i64 gb, .int .i64 gl, .int .i64 gi] : Array Value)[2]? = some (.int .i64 gi) := rfl
  have HI0 : Hid _ := i0
  have HG0 : Hid _ := g0
  have HG2 : Hid _ := g2
  clear i0 g0 g2
  have HMk : Hid (∀ (Q : World → Loc → Prop), Stays Q → ∀ V d s, Has Q V d s → Wide s 10000 → s.claims < 1000000000 → Calls Try.prog 11 #[.pointer (some ⟨d, 0, none⟩), .agg #[.int .i64 gb, .int .i64 gl, .int .i64 gi]] V fun e W' => e = .returned (.int .i64 (mkE gb gl gi s)) ∧ Has Q W' d (mkV gb gl gi s)) := fun Q hQ V d s hV hW hC => make_ok hQ hV gb gl gi hgb hW hC
  have HLd : Hid (mayB n ls = true → m ≤ 400 → ∀ V, Below w.heap.size w V → Calls Try.prog 9 #[.agg #[.int .i64 n, .slice p m cap]] V fun e w' => ∃ L : Loc, e = .returned (.tuple #[.pointer (some ⟨L.d, 0, none⟩), .int .i64 0]) ∧ DiskAt w' L (loadV n ls) ∧ L.from V.heap.size ∧ Below V.heap.size V w') := fun hmay h4 V hV => by
    have := load_ok n ls p cap V (by have := HM.out; omega) (HIm.out.later hV) HCn.out hmay
    rwa [HM.out] at this
  generalize him : (#[Value.int .i64 n, .slice p m cap] : Array Value) = im at *
  generalize hge : (#[Value.int .i64 gb, .int .i64 gl, .int .i64 gi] : Array Value) = ge at *
  obtain ⟨A, hA⟩ : ∃ A, A = (w.alloc (.cells im 24)).alloc (.cells ge 26) := ⟨_, rfl⟩
  have HS : Hid (LwS w A im ge) := by rw [hA]; exact ⟨heap_kept (heap_alloc_new _ _) (below_new _ _), Ytlcdpmjdnihocaa.heap_two _ _ _, below_next (below_new _ _) (below_new _ _)⟩
  have HA : Hid (A = _) := hA
  have HIm2 : Hid (im = #[Value.int .i64 n, .slice p m cap]) := him.symm
  have HGe2 : Hid (ge = #[Value.int .i64 gb, .int .i64 gl, .int .i64 gi]) := hge.symm
  clear hA him hge
  obtain ⟨lg, hlg⟩ : ∃ lg, largeB n m gi = lg := ⟨_, rfl⟩
  have HLb : Hid (largeB n m gi = lg) := hlg
  rw [hlg] at hLg
  clear hlg
  obtain ⟨oe, hoe⟩ : ∃ oe, YtlcdpmjdnihocaaP.ofE gb gl gi = oe := ⟨_, rfl⟩
  rw [hoe] at hOf HOE
  clear hoe
  obtain ⟨we, hwe⟩ : ∃ we, wholeE n ls = we := ⟨_, rfl⟩
  rw [hwe] at HWh HWE
  clear hwe
  go_enter Try.func3, Try.ntmps3
  go_upto_region 1 with fail
  rw [← HA.out]
  clear HA
  go_wp2_with (first | (with_reducible refine Ytlcdpmjdnihocaa.isLoadR 26 ?_; refine Ytlcdpmjdnihocaa.wpList_ldR 26 Try.underlying26 rfl rfl _ rfl (w.heap.size + 1) rfl ge 26 (0, 0) HGi.out HS.out.ge ?_) | (go_at_call 6; fail))
  refine (hOf _).mono ?_
  rintro e W1 ⟨rfl, hb1⟩
  have HS1 : Hid (LwS w (W1.alloc (.cells LR 29)) im ge) := (HS.out.later hb1).later (below_new _ _)
  have HLy1 : Hid ((W1.alloc (.cells LR 29)).heap[W1.heap.size]? = some (.cells LR 29)) := heap_alloc_new _ _
  clear HS hb1 hOf
  go_upto_region 2 with (first | (with_reducible refine Ytlcdpmjdnihocaa.isStoreR 29 ?_; refine Ytlcdpmjdnihocaa.wpList_stNew 29 rfl _ _ rfl W1.heap.size LR Z 29 HLi.out HLs.out HLo.out rfl rfl rfl ?_))
  generalize W1.alloc (.cells LR 29) = V1 at *
  generalize W1.heap.size = gy at *
  go_wp2_with (first | (with_reducible refine Ytlcdpmjdnihocaa.isLoadR 24 ?_; refine Ytlcdpmjdnihocaa.wpList_ldR 24 Try.underlying24 rfl rfl _ rfl w.heap.size rfl im 24 (0, 0) HIi.out HS1.out.im ?_) | (with_reducible refine Ytlcdpmjdnihocaa.isLoadR 26 ?_; refine Ytlcdpmjdnihocaa.wpList_ldR 26 Try.underlying26 rfl rfl _ rfl (w.heap.size + 1) rfl ge 26 (0, 0) HGi.out HS1.out.ge ?_) | (go_at_call 7; fail))
  refine (hLg _).mono ?_
  rintro e V2 ⟨rfl, hb2⟩
  have HS2 : Hid (LwS w V2 im ge) := HS1.out.later hb2
  have HLy2 : Hid _ := heap_kept HLy1.out hb2
  clear HS1 HLy1 hb2 hLg
  cases lg
  case true =>
    clear HWh HOE HWE HMk HLd
    go_wp2_with fail
    go_ret
    exact ⟨rfl, HS2.out.bel⟩
  go_wp2_with (first | (with_reducible refine Ytlcdpmjdnihocaa.isLoadR 24 ?_; refine Ytlcdpmjdnihocaa.wpList_ldR 24 Try.underlying24 rfl rfl _ rfl w.heap.size rfl im 24 (0, 0) HIi.out HS2.out.im ?_) | (go_at_call 8; fail))
  refine (HWh.out _ HS2.out.bel HLb.out).mono ?_
  rintro e V3 ⟨rfl, hb3⟩
  have HS3 : Hid (LwS w V3 im ge) := HS2.out.later hb3
  have HLy3 : Hid _ := heap_kept HLy2.out hb3
  clear HS2 HLy2 hb3 HWh
  by_cases hmay : mayB n ls = true
  case neg =>
    have hwe : we = 2 := by rw [HWE.out, if_neg hmay]
    subst hwe
    clear HOE HWE HMk HLd hmay
    go_wp2_with fail
    go_ret
    exact ⟨rfl, HS3.out.bel⟩
  have hwe : we = 0 := by rw [HWE.out, if_pos hmay]
  subst hwe
  by_cases hf : YtlcdpmjdnihocaaP.Fine gb gl gi
  case neg =>
    have hoe : oe = 2 := by rw [HOE.out, if_neg hf]
    subst hoe
    clear HOE HWE HMk HLd hmay hf
    go_wp2_with fail
    go_ret
    exact ⟨rfl, HS3.out.bel⟩
  have hoe : oe = 0 := by rw [HOE.out, if_pos hf]
  subst hoe
  have cg0 : V3.cell? ⟨w.heap.size + 1, 0, none⟩ = some (.int .i64 gb) := (cell_of_row _ _ 0 _ _ _ HS3.out.ge).trans HG0.out
  have ci0 : V3.cell? ⟨w.heap.size, 0, none⟩ = some (.int .i64 n) := (cell_of_row _ _ 0 _ _ _ HS3.out.im).trans HI0.out
  by_cases hbn : gb > n
  case pos =>
    have hgt : decide (n < gb) = true := decide_eq_true hbn
    clear HOE HWE HMk HLd hmay hf
    go_wp2_with fail
    go_ret
    exact ⟨rfl, HS3.out.bel⟩
  have hgt : decide (n < gb) = false := decide_eq_false hbn
  have h400 : m ≤ 400 ∧ n ≤ 9000 := by
    have := HLb.out
    unfold largeB at this
    simp at this
    omega
  have HL9 : Hid (LR = YtlcdpmjdnihocaaP.lay9 gb gl gi 1 (1 + gl) (YtlcdpmjdnihocaaP.nodeB gi) (YtlcdpmjdnihocaaP.bitsAt gl gi) (YtlcdpmjdnihocaaP.bitsB gb) (YtlcdpmjdnihocaaP.dataAt gb gl gi)) := HLF.out hf
  have HLd : Hid _ := HLd.out hmay h400.1
  have HF : Hid (YtlcdpmjdnihocaaP.Fine gb gl gi ∧ gb ≤ n ∧ n ≤ 9000 ∧ m ≤ 400 ∧ mayB n ls = true ∧ 35 ≤ gb) := ⟨hf, by omega, h400.2, h400.1, hmay, (Ytlcdpmjdnihocaa.fine_bd hf).1⟩
  clear HOE HWE hmay hf hbn h400 HLF
  go_upto_region 4 with fail
  clear cg0 ci0 hgt
  go_wp2_with (first | (with_reducible refine Ytlcdpmjdnihocaa.isLoadR 24 ?_; refine Ytlcdpmjdnihocaa.wpList_ldR 24 Try.underlying24 rfl rfl _ rfl w.heap.size rfl im 24 (0, 0) HIi.out HS3.out.im ?_) | (go_at_call 9; fail))
  refine (HLd.out V3 HS3.out.bel).mono ?_
  rintro e V4 ⟨L, rfl, hD, hL, hb4⟩
  have HH1 : Hid (Has (SoP w (lwK w im ge)) V4 L.d (loadV n ls)) := has_solo hD hL hb4 HS3.out.bel HS3.out.rows
  clear hD hL hb4 HS3 HLy3
  generalize L.d = d1 at *
  have hlv := fun u => lives_ok u
  have HSt1 : Hid (Stays (SoP w (lwK w im ge))) := soP_stays _ _
  go_wp2_with (go_at_call 10; fail)
  refine (hlv _).mono ?_
  rintro e V5 ⟨rfl, hb5⟩
  have HH2 : Hid (Has (SoP w (lwK w im ge)) V5 d1 (loadV n ls)) := HH1.out.later HSt1.out hb5
  clear HH1 hb5 hlv
  have HD : Hid (mkE gb gl gi (loadV n ls) = 0 ∧ (mkV gb gl gi (loadV n ls)).made = ((mkN gb gl gi + 6 : Nat) : Int) ∧ (mkV gb gl gi (loadV n ls)).n = n ∧ (mkN gb gl gi + 6 : Nat) ≤ 4306) := by
    obtain ⟨l1, l2, l3, l4, l5, l6, l7⟩ := loadV_same n ls
    obtain ⟨q1, q2, q3, q4, _⟩ := mk_done (s := loadV n ls) HF.out.1 (by rw [l1]; exact HF.out.2.1) l3 (.inl (loadV_fuse n ls).1)
    exact ⟨q1, by rw [q3, l5]; simp, by rw [q4, l1], by have := mkN_le HF.out.1; omega⟩
  have HMF : Hid (∀ st, 0 ≤ st → st ≤ ((mkN gb gl gi + 6 : Nat) : Int) → MdF n ls gb gl gi st kl (mkE gb gl gi (fuseV (loadV n ls) st)) (mkV gb gl gi (fuseV (loadV n ls) st))) := fun st h0 h1 => mdF HF.out.1 HF.out.2.1 h0 h1 kl
  have hcl0 : (loadV n ls).claims < 1000000000 := by rw [(loadV_same n ls).2.2.2.2.2.1]; omega
  have HCl0 : Hid _ := hcl0
  clear hcl0
  go_wp2_with (first | (with_reducible refine Ytlcdpmjdnihocaa.isLoadR 26 ?_; refine Ytlcdpmjdnihocaa.wpList_ldR 26 Try.underlying26 rfl rfl _ rfl (w.heap.size + 1) rfl ge 26 (0, 0) HGi.out (lwS_solo HH2.out).ge ?_) | (go_at_call 11; fail))
  refine (HMk.out _ HSt1.out V5 d1 (loadV n ls) HH2.out (wide_load n ls) HCl0.out).mono ?_
  rintro e V6 ⟨rfl, h6⟩
  have HH3 : Hid (Has (SoP w (lwK w im ge)) V6 d1 (mkV gb gl gi (loadV n ls))) := h6
  rw [HD.out.1]
  clear h6 HH2
  go_wp2_with fail
  obtain ⟨x1, hx1⟩ : ∃ x1, IntKind.i64.wrap ((kn : Int) * 7) = x1 := ⟨_, rfl⟩
  obtain ⟨x2, hx2⟩ : ∃ x2, IntKind.i64.wrap (x1 + gi) = x2 := ⟨_, rfl⟩
  obtain ⟨N, hN⟩ : ∃ N : Nat, mkN gb gl gi + 6 = N := ⟨_, rfl⟩
  rw [hN] at HD HMF
  have HNe : Hid (mkN gb gl gi + 6 = N) := hN
  clear hN
  have hN1 : IntKind.i64.wrap ((N : Int) + 1) = (N : Int) + 1 := by have := HD.out; rw [IntKind.wrap_i64]; omega
  have hpk := fun u => pick_any x2 ((N : Int) + 1) (by have := HD.out; omega) u
  have HSt : Hid (0 ≤ x2 % ((N : Int) + 1) ∧ x2 % ((N : Int) + 1) ≤ (N : Int)) := ⟨Int.emod_nonneg _ (by omega), by have := Int.emod_lt_of_pos x2 (show (0 : Int) < (N : Int) + 1 by omega); omega⟩
  generalize x2 % ((N : Int) + 1) = st at *
  have HH4 : Hid (Has (SoP w (lwK w im ge)) V6.drew d1 (mkV gb gl gi (loadV n ls))) := HH3.out.later HSt1.out (Below.refl _ _).drew
  clear HH3
  have cg2 : V6.drew.cell? ⟨w.heap.size + 1, 2, none⟩ = some (.int .i64 gi) := (cell_of_row _ _ 2 _ _ _ (lwS_solo HH4.out).ge).trans HG2.out
  refine wp_region_ord (S := fun u => u.cell? ⟨w.heap.size + 1, 2, none⟩ = some (.int .i64 gi)) [(0, true), (1, true), (2, true), (3, true), (4, true), (5, true), (6, true), (7, false), (8, true), (9, false), (10, true)] (by kernel_rfl) rfl (by kernel_rfl) (fun d _ _ _ _ h => by cases d <;> exact h) cg2 ?_
  simp only [inOrd, List.getElem?_cons_zero, List.getElem?_cons_succ]
  generalize V6.drew = U at *
  refine wpOrd_yield (v := .slice ka kn kc) rfl (fun u _ => by go_simp) ?_
  simp only [Act.put, List.setIfInBounds_toArray, List.set_cons_succ, List.set_cons_zero]
  refine wpOrd_yield (v := .int .i64 (kn : Int)) rfl (fun u _ => by go_simp) ?_
  simp only [Act.put, List.setIfInBounds_toArray, List.set_cons_succ, List.set_cons_zero]
  refine wpOrd_yield (v := .int .i64 x1) rfl (fun u _ => by go_simp) ?_
  simp only [Act.put, List.setIfInBounds_toArray, List.set_cons_succ, List.set_cons_zero]
  refine wpOrd_yield (v := .pointer (some ⟨w.heap.size + 1, 2, none⟩)) rfl (fun u _ => by go_simp) ?_
  simp only [Act.put, List.setIfInBounds_toArray, List.set_cons_succ, List.set_cons_zero]
  refine wpOrd_yield (v := .int .i64 gi) rfl (fun u hu => by go_simp) ?_
  simp only [Act.put, List.setIfInBounds_toArray, List.set_cons_succ, List.set_cons_zero]
  refine wpOrd_yield (v := .int .i64 x2) rfl (fun u _ => by go_simp) ?_
  simp only [Act.put, List.setIfInBounds_toArray, List.set_cons_succ, List.set_cons_zero]
  refine wpOrd_yield (v := .pointer (some ⟨d1, 0, none⟩)) rfl (fun u _ => by go_simp) ?_
  simp only [Act.put, List.setIfInBounds_toArray, List.set_cons_succ, List.set_cons_zero]
  refine wpOrd_call rfl 13 _ _ rfl Try.call13 [.pointer (some ⟨d1, 0, none⟩)] rfl ?_
  refine (has_made HH4.out).mono ?_
  rintro e U2 ⟨rfl, he⟩
  obtain rfl := he.symm
  clear he
  rw [HD.out.2.1]
  refine ⟨_, rfl, cg2, ?_⟩
  simp only [Act.put, List.setIfInBounds_toArray, List.set_cons_succ, List.set_cons_zero]
  refine wpOrd_yield (v := .int .i64 ((N : Int) + 1)) rfl (fun u _ => by go_simp) ?_
  simp only [Act.put, List.setIfInBounds_toArray, List.set_cons_succ, List.set_cons_zero]
  refine wpOrd_call rfl 12 _ _ rfl Try.call12 [.int .i64 x2, .int .i64 ((N : Int) + 1)] rfl ?_
  refine (hpk U).mono ?_
  rintro e U3 ⟨rfl, he⟩
  obtain rfl := he.symm
  clear he
  refine ⟨_, rfl, cg2, ?_⟩
  simp only [Act.put, List.setIfInBounds_toArray, List.set_cons_succ, List.set_cons_zero]
  refine wpOrd_yield (v := .int .i64 st) rfl (fun u _ => by go_simp) ?_
  simp only [Act.put, List.setIfInBounds_toArray, List.set_cons_succ, List.set_cons_zero]
  refine wpOrd_nil ?_
  have hMF := HMF.out st HSt.out.1 HSt.out.2
  have HMF2 : Hid _ := hMF
  clear cg2 hx1 hx2 hN1 hpk hMF HMF
  go_wp2_with (first | (with_reducible refine Ytlcdpmjdnihocaa.isLoadR 24 ?_; refine Ytlcdpmjdnihocaa.wpList_ldR 24 Try.underlying24 rfl rfl _ rfl w.heap.size rfl im 24 (0, 0) HIi.out (lwS_solo HH4.out).im ?_) | (go_at_call 9; fail))
  refine (HLd.out U (lwS_solo HH4.out).bel).mono ?_
  rintro e V7 ⟨L2, rfl, hD, hL, hb7⟩
  have HJ1 : Hid (Has (DuP w d1 (mkV gb gl gi (loadV n ls)) (lwK w im ge)) V7 L2.d (loadV n ls)) := HH4.out.duo hD hL hb7
  clear hD hL hb7 HH4
  generalize L2.d = d2 at *
  have HStD : Hid (∀ d s, Stays (DuP w d s (lwK w im ge))) := fun d s => duP_stays _ _ _ _
  go_wp2_with (go_at_call 14; fail)
  refine (has_fuse (HStD.out _ _) HJ1.out st (by have := HSt.out; have := HD.out; omega)).mono ?_
  rintro e V8 ⟨rfl, h8⟩
  have HJ2 : Hid (Has (DuP w d1 (mkV gb gl gi (loadV n ls)) (lwK w im ge)) V8 d2 (fuseV (loadV n ls) st)) := h8
  clear h8 HJ1
  go_wp2_with (first | (with_reducible refine Ytlcdpmjdnihocaa.isLoadR 26 ?_; refine Ytlcdpmjdnihocaa.wpList_ldR 26 Try.underlying26 rfl rfl _ rfl (w.heap.size + 1) rfl ge 26 (0, 0) HGi.out (lwS_duo HJ2.out).ge ?_) | (go_at_call 11; fail))
  refine (HMk.out _ (HStD.out _ _) V8 d2 (fuseV (loadV n ls) st) HJ2.out (wide_fuse (wide_load n ls) st) (fuse_claims HCl0.out st)).mono ?_
  rintro e V9 ⟨rfl, h9⟩
  have HJ3 : Hid (Has (DuP w d1 (mkV gb gl gi (loadV n ls)) (lwK w im ge)) V9 d2 (mkV gb gl gi (fuseV (loadV n ls) st))) := h9
  clear h9 HJ2 HMk HLd
  generalize mkE gb gl gi (fuseV (loadV n ls) st) = E at *
  generalize mkV gb gl gi (fuseV (loadV n ls) st) = m2 at *
  have HMa : Hid (∀ V, Has (DuP w d1 (mkV gb gl gi (loadV n ls)) (lwK w im ge)) V d2 m2 → Calls Try.prog 13 #[.pointer (some ⟨d1, 0, none⟩)] V fun e W' => e = .returned (.int .i64 (N : Int)) ∧ W' = V) := fun V hV => by
    have := has_made hV.swapD
    rwa [HD.out.2.1] at this
  have HMb : Hid (∀ V, Has (DuP w d1 (mkV gb gl gi (loadV n ls)) (lwK w im ge)) V d2 m2 → Calls Try.prog 13 #[.pointer (some ⟨d2, 0, none⟩)] V fun e W' => e = .returned (.int .i64 st) ∧ W' = V) := fun V hV => by
    have := has_made hV
    rwa [HMF2.out.made] at this
  have HCr : Hid (∀ V, Has (DuP w d1 (mkV gb gl gi (loadV n ls)) (lwK w im ge)) V d2 m2 → Calls Try.prog 15 #[.pointer (some ⟨d2, 0, none⟩), .slice ka kn kc] V fun e W' => e = .returned (.int .i64 0) ∧ Has (DuP w d1 (mkV gb gl gi (loadV n ls)) (lwK w im ge)) W' d2 (crashS m2 kl)) := fun V hV =>
    has_crash_le (HStD.out _ _) hV (HKv.out.1.later (lwS_duo hV).bel) (by have := HMF2.out.wait; omega) (by have := HKv.out.2; have := HKn.out; omega)
  have HE : Hid _ := HMF2.out.e
  rw [HNe.out] at HE
  have hE := HE.out
  clear HE HNe
  rcases hE with ⟨rfl, hst⟩ | ⟨rfl, hst⟩
  · have hsN : (st == (N : Int)) = true := by simpa using hst
    clear hst
    go_wp2_with (go_at_call 13; fail)
    refine (HMa.out _ HJ3.out).mono ?_
    rintro e X1 ⟨rfl, he⟩
    obtain rfl := he.symm
    clear he
    go_wp2_with (go_at_call 13; fail)
    refine (HMb.out _ HJ3.out).mono ?_
    rintro e X2 ⟨rfl, he⟩
    obtain rfl := he.symm
    clear he
    go_wp2_with (go_at_call 15; fail)
    refine (HCr.out _ HJ3.out).mono ?_
    rintro e X3 ⟨rfl, h3⟩
    have HJ4 : Hid (Has (DuP w d1 (mkV gb gl gi (loadV n ls)) (lwK w im ge)) X3 d2 (crashS m2 kl)) := h3
    clear h3 HJ3 HMa HMb HCr
    have hIm := has_image (HStD.out _ _) HJ4.out
    rw [HMF2.out.nn] at hIm
    go_wp2_with (go_at_call 16; fail)
    refine hIm.mono ?_
    rintro e X4 ⟨g1, l1, rfl, hi1, ha1, hj⟩
    have HI1 : Hid (IsImage (crashS m2 kl) l1) := hi1
    have HN1 : Hid (l1.length ≤ 9000) := by
      have h2 := rise_len (n := n) l1 (-1) hi1.rise (fun c hc => by have := hi1.top c hc; rwa [HMF2.out.nn] at this) (by have := HF.out; omega)
      have := HF.out
      show _ ≤ _
      omega
    clear hi1 hIm HJ4
    obtain ⟨m1, hm1⟩ : ∃ m1, l1.length = m1 := ⟨_, rfl⟩
    rw [hm1]
    have HM1 : Hid (l1.length = m1) := hm1
    clear hm1
    obtain ⟨X5, hX5⟩ : ∃ X5, X4.alloc (.cells #[.int .i64 n, .slice (some ⟨g1, 0, none⟩) m1 m1] 24) = X5 := ⟨_, rfl⟩
    have HR1 : Hid (X5.heap[X4.heap.size]? = some (.cells #[.int .i64 n, .slice (some ⟨g1, 0, none⟩) m1 m1] 24)) := by rw [← hX5]; exact heap_alloc_new _ _
    have HJ5 : Hid (Has (DuP w d1 (mkV gb gl gi (loadV n ls)) (lwK w im ge)) X5 d2 (crashS m2 kl)) := by rw [← hX5]; exact hj.later (HStD.out _ _) (below_new _ _)
    have HA1 : Hid (ImgAt X5 (some ⟨g1, 0, none⟩) l1) := by rw [← hX5]; exact ha1.later (below_new _ _)
    have HX5 : Hid _ := hX5
    have HIi1 : Hid _ := im_info n (some ⟨g1, 0, none⟩) m1 m1
    have zi := zeroIm
    clear hj ha1 hX5
    go_upto_region 16 with (first | (with_reducible refine Ytlcdpmjdnihocaa.isStoreR 24 ?_; refine Ytlcdpmjdnihocaa.wpList_stNew 24 rfl _ _ rfl X4.heap.size #[.int .i64 n, .slice (some ⟨g1, 0, none⟩) m1 m1] #[.int .i64 0, .slice none 0 0] 24 HIi1.out rfl rfl rfl rfl rfl ?_))
    rw [HX5.out]
    clear HX5 zi
    generalize X4.heap.size = g13 at *
    have hat : ∀ V, Below X5.heap.size X5 V → Calls Try.prog 17 #[.agg #[.int .i64 n, .slice (some ⟨g1, 0, none⟩) m1 m1], .int .i64 0] V fun e w' => e = .returned (.agg (blk (atL l1 0))) ∧ Below V.heap.size V w' := fun V hV => by
      have := at_any n l1 (some ⟨g1, 0, none⟩) m1 0 V (by have := HN1.out; omega) (HA1.out.later hV)
      rwa [HM1.out] at this
    have HAt : Hid _ := hat
    have hsi : ∀ V, Below X5.heap.size X5 V → Calls Try.prog 18 #[.agg #[.int .i64 n, .slice (some ⟨g1, 0, none⟩) m1 m1], .agg im] V fun e w' => e = .returned (.bool (celsB l1 ls)) ∧ Below V.heap.size V w' := fun V hV => by
      have := sameImage_any n n l1 ls (some ⟨g1, 0, none⟩) p m1 cap V (by have := HN1.out; omega) (by have := HM.out; have := HF.out; omega) (HA1.out.later hV) (HIm.out.later ((lwS_duo HJ5.out).bel.trans (hV.mono (lwS_duo HJ5.out).bel.size)))
      rw [HM1.out, HM.out] at this
      rw [HIm2.out]
      simpa using this
    have HSi : Hid _ := hsi
    clear hat hsi
    have hbk := buildBk
    obtain ⟨Nt, hNt⟩ : ∃ Nt, nought = Nt := ⟨_, rfl⟩
    rw [hNt] at hbk
    have HNt : Hid _ := hNt
    clear hNt
    go_wp2_with (first | (with_reducible refine Ytlcdpmjdnihocaa.isLoadR 24 ?_; refine Ytlcdpmjdnihocaa.wpList_ldR 24 Try.underlying24 rfl rfl _ rfl g13 rfl #[.int .i64 n, .slice (some ⟨g1, 0, none⟩) m1 m1] 24 (0, 0) HIi1.out HR1.out ?_) | (go_at_call 17; fail))
    refine (HAt.out X5 (Below.refl _ _)).mono ?_
    rintro e X6 ⟨rfl, hb6⟩
    have HB6 : Hid (Below X5.heap.size X5 X6) := hb6
    clear hb6 HAt
    obtain ⟨bF, hbF⟩ : ∃ bF, sameB (atL l1 0) Nt = bF := ⟨_, rfl⟩
    have HBF : Hid (sameB (atL l1 0) Nt = bF) := hbF
    obtain ⟨Q1, hQ1⟩ : ∃ Q1, atL l1 0 = Q1 := ⟨_, rfl⟩
    rw [hQ1] at hbF ⊢
    clear hQ1
    go_upto_region 17 with (first | refine wpList_build58w rfl rfl hbk ?_ | refine wpList_eq58 rfl _ _ rfl Q1 Nt bF rfl rfl hbF ?_)
    clear hbk hbF
    obtain ⟨bW, hbW⟩ : ∃ bW, celsB l1 ls = bW := ⟨_, rfl⟩
    have HBW : Hid (celsB l1 ls = bW) := hbW
    rw [hbW] at HSi
    clear hbW
    have hR6 := heap_kept HR1.out HB6.out
    have hS6 := (lwS_duo HJ5.out).later HB6.out
    have hJ6 := HJ5.out.later (HStD.out _ _) HB6.out
    have HR6 : Hid _ := hR6
    have HS6 : Hid (LwS w X6 im ge) := hS6
    have HJ6 : Hid (Has (DuP w d1 (mkV gb gl gi (loadV n ls)) (lwK w im ge)) X6 d2 (crashS m2 kl)) := hJ6
    clear hR6 hS6 hJ6
    have HFin : Hid (∀ l2, IsImage (mkV gb gl gi (loadV n ls)) l2 → ((decide (st < 2) && bW) || (bF || celsB l1 l2)) = true) := fun l2 h2 => by
      have := made_final HMF2.out HF.out.2.2.2.2.1 HCn.out HI1.out h2
      rwa [HBW.out, HNt.out, HBF.out] at this
    by_cases hs2 : st < 2
    · have hd2 : decide (st < 2) = true := decide_eq_true hs2
      rw [hd2] at HFin
      clear hs2
      go_wp2_with (first | (with_reducible refine Ytlcdpmjdnihocaa.isLoadR 24 ?_; first | refine Ytlcdpmjdnihocaa.wpList_ldR 24 Try.underlying24 rfl rfl _ rfl g13 rfl #[.int .i64 n, .slice (some ⟨g1, 0, none⟩) m1 m1] 24 (0, 0) HIi1.out HR6.out ?_ | refine Ytlcdpmjdnihocaa.wpList_ldR 24 Try.underlying24 rfl rfl _ rfl w.heap.size rfl im 24 (0, 0) HIi.out HS6.out.im ?_) | (go_at_call 18; fail))
      refine (HSi.out X6 HB6.out).mono ?_
      rintro e X7 ⟨rfl, hb7⟩
      have HR7 : Hid _ := heap_kept HR6.out hb7
      have HB7 : Hid (Below X5.heap.size X5 X7) := below_next HB6.out hb7
      have HJ7 : Hid (Has (DuP w d1 (mkV gb gl gi (loadV n ls)) (lwK w im ge)) X7 d2 (crashS m2 kl)) := HJ6.out.later (HStD.out _ _) hb7
      clear HR6 HB6 HJ6 hb7 HS6
      simp only [Bool.true_and] at HFin
      go_upto_region 18 with fail
      have hR8 : X7.drew.heap[g13]? = some (.cells #[.int .i64 n, .slice (some ⟨g1, 0, none⟩) m1 m1] 24) := HR7.out
      have HB8 : Hid (Below X5.heap.size X5 X7.drew) := HB7.out.drew
      have HJ8 : Hid (Has (DuP w d2 (crashS m2 kl) (lwK w im ge)) X7.drew d1 (mkV gb gl gi (loadV n ls))) := (HJ7.out.later (HStD.out _ _) (Below.refl _ _).drew).swapD
      clear HR7 HB7 HJ7
      refine wp_region_ord (S := fun u => u.heap[g13]? = some (.cells #[.int .i64 n, .slice (some ⟨g1, 0, none⟩) m1 m1] 24)) [(0, true), (1, true), (2, false), (3, false), (4, true)] (by kernel_rfl) rfl (by kernel_rfl) (fun d _ _ _ _ h => by cases d <;> exact h) hR8 ?_
      simp only [inOrd, List.getElem?_cons_zero, List.getElem?_cons_succ]
      generalize X7.drew = U8 at *
      refine wpOrd_yield (v := .agg #[.int .i64 n, .slice (some ⟨g1, 0, none⟩) m1 m1]) rfl (fun u hu => run_ldIm rfl rfl hu) ?_
      simp only [Act.put, List.setIfInBounds_toArray, List.set_cons_succ, List.set_cons_zero]
      refine wpOrd_yield (v := .pointer (some ⟨d1, 0, none⟩)) rfl (fun u _ => by go_simp) ?_
      simp only [Act.put, List.setIfInBounds_toArray, List.set_cons_succ, List.set_cons_zero]
      refine wpOrd_call rfl 16 _ _ rfl Try.call16 [.pointer (some ⟨d1, 0, none⟩)] rfl ?_
      have hIm2 := has_imageB HJ8.out
      rw [HD.out.2.2.1] at hIm2
      refine hIm2.mono ?_
      rintro e U9 ⟨g2, l2, rfl, hi2, ha2, hb9⟩
      refine ⟨_, rfl, heap_kept hR8 hb9, ?_⟩
      simp only [Act.put, List.setIfInBounds_toArray, List.set_cons_succ, List.set_cons_zero]
      have hN2 : l2.length ≤ 9000 := by
        have h2 := rise_len (n := n) l2 (-1) hi2.rise (fun c hc => by have := hi2.top c hc; rwa [HD.out.2.2.1] at this) (by have := HF.out; omega)
        have := HF.out
        omega
      have hfin := HFin.out l2 hi2
      have hb10 : Below X5.heap.size X5 U9 := below_next HB8.out hb9
      have hsm := sameImage_any n n l1 l2 (some ⟨g1, 0, none⟩) (some ⟨g2, 0, none⟩) m1 l2.length U9 (by have := HN1.out; omega) (by omega) (HA1.out.later hb10) ha2
      rw [HM1.out] at hsm
      obtain ⟨bA, hbA⟩ : ∃ bA, celsB l1 l2 = bA := ⟨_, rfl⟩
      rw [hbA, show ((n == n) && bA) = bA by simp] at hsm
      rw [hbA] at hfin
      refine wpOrd_call rfl 18 _ _ rfl Try.call18 [.agg #[.int .i64 n, .slice (some ⟨g1, 0, none⟩) m1 m1], .agg #[.int .i64 n, .slice (some ⟨g2, 0, none⟩) l2.length l2.length]] rfl ?_
      refine hsm.mono ?_
      rintro e U10 ⟨rfl, hb11⟩
      refine ⟨_, rfl, heap_kept (heap_kept hR8 hb9) hb11, ?_⟩
      simp only [Act.put, List.setIfInBounds_toArray, List.set_cons_succ, List.set_cons_zero]
      refine wpOrd_yield (v := .bool bA) rfl (fun u _ => by go_simp) ?_
      simp only [Act.put, List.setIfInBounds_toArray, List.set_cons_succ, List.set_cons_zero]
      refine wpOrd_nil ?_
      have HBel : Hid (Below w.heap.size w U10) := (lwS_duo HJ5.out).bel.trans ((below_next hb10 hb11).mono (lwS_duo HJ5.out).bel.size)
      clear hR8 HB8 HJ8 hIm2 hi2 ha2 hb9 hN2 hb10 hsm hb11 hbA HFin HStD HMF2 HJ5 HA1 HI1 HSi HBF HBW HNt
      cases bA <;> cases bF <;> cases bW <;> first
        | (exfalso; simp at hfin; done)
        | (go_wp2; go_ret; exact ⟨rfl, HBel.out⟩)
    · have hd2 : decide (st < 2) = false := decide_eq_false hs2
      rw [hd2] at HFin
      clear hs2
      have HR7 : Hid _ := HR6.out
      have HB7 : Hid (Below X5.heap.size X5 X6) := HB6.out
      have HJ7 : Hid (Has (DuP w d1 (mkV gb gl gi (loadV n ls)) (lwK w im ge)) X6 d2 (crashS m2 kl)) := HJ6.out
      clear HR6 HB6 HJ6 HS6
      simp only [Bool.false_and] at HFin
      go_upto_region 18 with fail
      generalize X6 = X7 at *
      have hR8 : X7.drew.heap[g13]? = some (.cells #[.int .i64 n, .slice (some ⟨g1, 0, none⟩) m1 m1] 24) := HR7.out
      have HB8 : Hid (Below X5.heap.size X5 X7.drew) := HB7.out.drew
      have HJ8 : Hid (Has (DuP w d2 (crashS m2 kl) (lwK w im ge)) X7.drew d1 (mkV gb gl gi (loadV n ls))) := (HJ7.out.later (HStD.out _ _) (Below.refl _ _).drew).swapD
      clear HR7 HB7 HJ7
      refine wp_region_ord (S := fun u => u.heap[g13]? = some (.cells #[.int .i64 n, .slice (some ⟨g1, 0, none⟩) m1 m1] 24)) [(0, true), (1, true), (2, false), (3, false), (4, true)] (by kernel_rfl) rfl (by kernel_rfl) (fun d _ _ _ _ h => by cases d <;> exact h) hR8 ?_
      simp only [inOrd, List.getElem?_cons_zero, List.getElem?_cons_succ]
      generalize X7.drew = U8 at *
      refine wpOrd_yield (v := .agg #[.int .i64 n, .slice (some ⟨g1, 0, none⟩) m1 m1]) rfl (fun u hu => run_ldIm rfl rfl hu) ?_
      simp only [Act.put, List.setIfInBounds_toArray, List.set_cons_succ, List.set_cons_zero]
      refine wpOrd_yield (v := .pointer (some ⟨d1, 0, none⟩)) rfl (fun u _ => by go_simp) ?_
      simp only [Act.put, List.setIfInBounds_toArray, List.set_cons_succ, List.set_cons_zero]
      refine wpOrd_call rfl 16 _ _ rfl Try.call16 [.pointer (some ⟨d1, 0, none⟩)] rfl ?_
      have hIm2 := has_imageB HJ8.out
      rw [HD.out.2.2.1] at hIm2
      refine hIm2.mono ?_
      rintro e U9 ⟨g2, l2, rfl, hi2, ha2, hb9⟩
      refine ⟨_, rfl, heap_kept hR8 hb9, ?_⟩
      simp only [Act.put, List.setIfInBounds_toArray, List.set_cons_succ, List.set_cons_zero]
      have hN2 : l2.length ≤ 9000 := by
        have h2 := rise_len (n := n) l2 (-1) hi2.rise (fun c hc => by have := hi2.top c hc; rwa [HD.out.2.2.1] at this) (by have := HF.out; omega)
        have := HF.out
        omega
      have hfin := HFin.out l2 hi2
      have hb10 : Below X5.heap.size X5 U9 := below_next HB8.out hb9
      have hsm := sameImage_any n n l1 l2 (some ⟨g1, 0, none⟩) (some ⟨g2, 0, none⟩) m1 l2.length U9 (by have := HN1.out; omega) (by omega) (HA1.out.later hb10) ha2
      rw [HM1.out] at hsm
      obtain ⟨bA, hbA⟩ : ∃ bA, celsB l1 l2 = bA := ⟨_, rfl⟩
      rw [hbA, show ((n == n) && bA) = bA by simp] at hsm
      rw [hbA] at hfin
      refine wpOrd_call rfl 18 _ _ rfl Try.call18 [.agg #[.int .i64 n, .slice (some ⟨g1, 0, none⟩) m1 m1], .agg #[.int .i64 n, .slice (some ⟨g2, 0, none⟩) l2.length l2.length]] rfl ?_
      refine hsm.mono ?_
      rintro e U10 ⟨rfl, hb11⟩
      refine ⟨_, rfl, heap_kept (heap_kept hR8 hb9) hb11, ?_⟩
      simp only [Act.put, List.setIfInBounds_toArray, List.set_cons_succ, List.set_cons_zero]
      refine wpOrd_yield (v := .bool bA) rfl (fun u _ => by go_simp) ?_
      simp only [Act.put, List.setIfInBounds_toArray, List.set_cons_succ, List.set_cons_zero]
      refine wpOrd_nil ?_
      have HBel : Hid (Below w.heap.size w U10) := (lwS_duo HJ5.out).bel.trans ((below_next hb10 hb11).mono (lwS_duo HJ5.out).bel.size)
      clear hR8 HB8 HJ8 hIm2 hi2 ha2 hb9 hN2 hb10 hsm hb11 hbA HFin HStD HMF2 HJ5 HA1 HI1 HSi HBF HBW HNt
      cases bA <;> cases bF <;> cases bW <;> first
        | (exfalso; simp at hfin; done)
        | (go_wp2; go_ret; exact ⟨rfl, HBel.out⟩)
  · have hsN : (st == (N : Int)) = false := by simp; omega
    clear hst
    go_wp2_with (go_at_call 13; fail)
    refine (HMa.out _ HJ3.out).mono ?_
    rintro e X1 ⟨rfl, he⟩
    obtain rfl := he.symm
    clear he
    go_wp2_with (go_at_call 13; fail)
    refine (HMb.out _ HJ3.out).mono ?_
    rintro e X2 ⟨rfl, he⟩
    obtain rfl := he.symm
    clear he
    go_wp2_with (go_at_call 15; fail)
    refine (HCr.out _ HJ3.out).mono ?_
    rintro e X3 ⟨rfl, h3⟩
    have HJ4 : Hid (Has (DuP w d1 (mkV gb gl gi (loadV n ls)) (lwK w im ge)) X3 d2 (crashS m2 kl)) := h3
    clear h3 HJ3 HMa HMb HCr
    have hIm := has_image (HStD.out _ _) HJ4.out
    rw [HMF2.out.nn] at hIm
    go_wp2_with (go_at_call 16; fail)
    refine hIm.mono ?_
    rintro e X4 ⟨g1, l1, rfl, hi1, ha1, hj⟩
    have HI1 : Hid (IsImage (crashS m2 kl) l1) := hi1
    have HN1 : Hid (l1.length ≤ 9000) := by
      have h2 := rise_len (n := n) l1 (-1) hi1.rise (fun c hc => by have := hi1.top c hc; rwa [HMF2.out.nn] at this) (by have := HF.out; omega)
      have := HF.out
      show _ ≤ _
      omega
    clear hi1 hIm HJ4
    obtain ⟨m1, hm1⟩ : ∃ m1, l1.length = m1 := ⟨_, rfl⟩
    rw [hm1]
    have HM1 : Hid (l1.length = m1) := hm1
    clear hm1
    obtain ⟨X5, hX5⟩ : ∃ X5, X4.alloc (.cells #[.int .i64 n, .slice (some ⟨g1, 0, none⟩) m1 m1] 24) = X5 := ⟨_, rfl⟩
    have HR1 : Hid (X5.heap[X4.heap.size]? = some (.cells #[.int .i64 n, .slice (some ⟨g1, 0, none⟩) m1 m1] 24)) := by rw [← hX5]; exact heap_alloc_new _ _
    have HJ5 : Hid (Has (DuP w d1 (mkV gb gl gi (loadV n ls)) (lwK w im ge)) X5 d2 (crashS m2 kl)) := by rw [← hX5]; exact hj.later (HStD.out _ _) (below_new _ _)
    have HA1 : Hid (ImgAt X5 (some ⟨g1, 0, none⟩) l1) := by rw [← hX5]; exact ha1.later (below_new _ _)
    have HX5 : Hid _ := hX5
    have HIi1 : Hid _ := im_info n (some ⟨g1, 0, none⟩) m1 m1
    have zi := zeroIm
    clear hj ha1 hX5
    go_upto_region 16 with (first | (with_reducible refine Ytlcdpmjdnihocaa.isStoreR 24 ?_; refine Ytlcdpmjdnihocaa.wpList_stNew 24 rfl _ _ rfl X4.heap.size #[.int .i64 n, .slice (some ⟨g1, 0, none⟩) m1 m1] #[.int .i64 0, .slice none 0 0] 24 HIi1.out rfl rfl rfl rfl rfl ?_))
    rw [HX5.out]
    clear HX5 zi
    generalize X4.heap.size = g13 at *
    have hat : ∀ V, Below X5.heap.size X5 V → Calls Try.prog 17 #[.agg #[.int .i64 n, .slice (some ⟨g1, 0, none⟩) m1 m1], .int .i64 0] V fun e w' => e = .returned (.agg (blk (atL l1 0))) ∧ Below V.heap.size V w' := fun V hV => by
      have := at_any n l1 (some ⟨g1, 0, none⟩) m1 0 V (by have := HN1.out; omega) (HA1.out.later hV)
      rwa [HM1.out] at this
    have HAt : Hid _ := hat
    have hsi : ∀ V, Below X5.heap.size X5 V → Calls Try.prog 18 #[.agg #[.int .i64 n, .slice (some ⟨g1, 0, none⟩) m1 m1], .agg im] V fun e w' => e = .returned (.bool (celsB l1 ls)) ∧ Below V.heap.size V w' := fun V hV => by
      have := sameImage_any n n l1 ls (some ⟨g1, 0, none⟩) p m1 cap V (by have := HN1.out; omega) (by have := HM.out; have := HF.out; omega) (HA1.out.later hV) (HIm.out.later ((lwS_duo HJ5.out).bel.trans (hV.mono (lwS_duo HJ5.out).bel.size)))
      rw [HM1.out, HM.out] at this
      rw [HIm2.out]
      simpa using this
    have HSi : Hid _ := hsi
    clear hat hsi
    have hbk := buildBk
    obtain ⟨Nt, hNt⟩ : ∃ Nt, nought = Nt := ⟨_, rfl⟩
    rw [hNt] at hbk
    have HNt : Hid _ := hNt
    clear hNt
    go_wp2_with (first | (with_reducible refine Ytlcdpmjdnihocaa.isLoadR 24 ?_; refine Ytlcdpmjdnihocaa.wpList_ldR 24 Try.underlying24 rfl rfl _ rfl g13 rfl #[.int .i64 n, .slice (some ⟨g1, 0, none⟩) m1 m1] 24 (0, 0) HIi1.out HR1.out ?_) | (go_at_call 17; fail))
    refine (HAt.out X5 (Below.refl _ _)).mono ?_
    rintro e X6 ⟨rfl, hb6⟩
    have HB6 : Hid (Below X5.heap.size X5 X6) := hb6
    clear hb6 HAt
    obtain ⟨bF, hbF⟩ : ∃ bF, sameB (atL l1 0) Nt = bF := ⟨_, rfl⟩
    have HBF : Hid (sameB (atL l1 0) Nt = bF) := hbF
    obtain ⟨Q1, hQ1⟩ : ∃ Q1, atL l1 0 = Q1 := ⟨_, rfl⟩
    rw [hQ1] at hbF ⊢
    clear hQ1
    go_upto_region 17 with (first | refine wpList_build58w rfl rfl hbk ?_ | refine wpList_eq58 rfl _ _ rfl Q1 Nt bF rfl rfl hbF ?_)
    clear hbk hbF
    obtain ⟨bW, hbW⟩ : ∃ bW, celsB l1 ls = bW := ⟨_, rfl⟩
    have HBW : Hid (celsB l1 ls = bW) := hbW
    rw [hbW] at HSi
    clear hbW
    have hR6 := heap_kept HR1.out HB6.out
    have hS6 := (lwS_duo HJ5.out).later HB6.out
    have hJ6 := HJ5.out.later (HStD.out _ _) HB6.out
    have HR6 : Hid _ := hR6
    have HS6 : Hid (LwS w X6 im ge) := hS6
    have HJ6 : Hid (Has (DuP w d1 (mkV gb gl gi (loadV n ls)) (lwK w im ge)) X6 d2 (crashS m2 kl)) := hJ6
    clear hR6 hS6 hJ6
    have HFin : Hid (∀ l2, IsImage (mkV gb gl gi (loadV n ls)) l2 → ((decide (st < 2) && bW) || (bF || celsB l1 l2)) = true) := fun l2 h2 => by
      have := made_final HMF2.out HF.out.2.2.2.2.1 HCn.out HI1.out h2
      rwa [HBW.out, HNt.out, HBF.out] at this
    by_cases hs2 : st < 2
    · have hd2 : decide (st < 2) = true := decide_eq_true hs2
      rw [hd2] at HFin
      clear hs2
      go_wp2_with (first | (with_reducible refine Ytlcdpmjdnihocaa.isLoadR 24 ?_; first | refine Ytlcdpmjdnihocaa.wpList_ldR 24 Try.underlying24 rfl rfl _ rfl g13 rfl #[.int .i64 n, .slice (some ⟨g1, 0, none⟩) m1 m1] 24 (0, 0) HIi1.out HR6.out ?_ | refine Ytlcdpmjdnihocaa.wpList_ldR 24 Try.underlying24 rfl rfl _ rfl w.heap.size rfl im 24 (0, 0) HIi.out HS6.out.im ?_) | (go_at_call 18; fail))
      refine (HSi.out X6 HB6.out).mono ?_
      rintro e X7 ⟨rfl, hb7⟩
      have HR7 : Hid _ := heap_kept HR6.out hb7
      have HB7 : Hid (Below X5.heap.size X5 X7) := below_next HB6.out hb7
      have HJ7 : Hid (Has (DuP w d1 (mkV gb gl gi (loadV n ls)) (lwK w im ge)) X7 d2 (crashS m2 kl)) := HJ6.out.later (HStD.out _ _) hb7
      clear HR6 HB6 HJ6 hb7 HS6
      simp only [Bool.true_and] at HFin
      go_upto_region 18 with fail
      have hR8 : X7.drew.heap[g13]? = some (.cells #[.int .i64 n, .slice (some ⟨g1, 0, none⟩) m1 m1] 24) := HR7.out
      have HB8 : Hid (Below X5.heap.size X5 X7.drew) := HB7.out.drew
      have HJ8 : Hid (Has (DuP w d2 (crashS m2 kl) (lwK w im ge)) X7.drew d1 (mkV gb gl gi (loadV n ls))) := (HJ7.out.later (HStD.out _ _) (Below.refl _ _).drew).swapD
      clear HR7 HB7 HJ7
      refine wp_region_ord (S := fun u => u.heap[g13]? = some (.cells #[.int .i64 n, .slice (some ⟨g1, 0, none⟩) m1 m1] 24)) [(0, true), (1, true), (2, false), (3, false), (4, true)] (by kernel_rfl) rfl (by kernel_rfl) (fun d _ _ _ _ h => by cases d <;> exact h) hR8 ?_
      simp only [inOrd, List.getElem?_cons_zero, List.getElem?_cons_succ]
      generalize X7.drew = U8 at *
      refine wpOrd_yield (v := .agg #[.int .i64 n, .slice (some ⟨g1, 0, none⟩) m1 m1]) rfl (fun u hu => run_ldIm rfl rfl hu) ?_
      simp only [Act.put, List.setIfInBounds_toArray, List.set_cons_succ, List.set_cons_zero]
      refine wpOrd_yield (v := .pointer (some ⟨d1, 0, none⟩)) rfl (fun u _ => by go_simp) ?_
      simp only [Act.put, List.setIfInBounds_toArray, List.set_cons_succ, List.set_cons_zero]
      refine wpOrd_call rfl 16 _ _ rfl Try.call16 [.pointer (some ⟨d1, 0, none⟩)] rfl ?_
      have hIm2 := has_imageB HJ8.out
      rw [HD.out.2.2.1] at hIm2
      refine hIm2.mono ?_
      rintro e U9 ⟨g2, l2, rfl, hi2, ha2, hb9⟩
      refine ⟨_, rfl, heap_kept hR8 hb9, ?_⟩
      simp only [Act.put, List.setIfInBounds_toArray, List.set_cons_succ, List.set_cons_zero]
      have hN2 : l2.length ≤ 9000 := by
        have h2 := rise_len (n := n) l2 (-1) hi2.rise (fun c hc => by have := hi2.top c hc; rwa [HD.out.2.2.1] at this) (by have := HF.out; omega)
        have := HF.out
        omega
      have hfin := HFin.out l2 hi2
      have hb10 : Below X5.heap.size X5 U9 := below_next HB8.out hb9
      have hsm := sameImage_any n n l1 l2 (some ⟨g1, 0, none⟩) (some ⟨g2, 0, none⟩) m1 l2.length U9 (by have := HN1.out; omega) (by omega) (HA1.out.later hb10) ha2
      rw [HM1.out] at hsm
      obtain ⟨bA, hbA⟩ : ∃ bA, celsB l1 l2 = bA := ⟨_, rfl⟩
      rw [hbA, show ((n == n) && bA) = bA by simp] at hsm
      rw [hbA] at hfin
      refine wpOrd_call rfl 18 _ _ rfl Try.call18 [.agg #[.int .i64 n, .slice (some ⟨g1, 0, none⟩) m1 m1], .agg #[.int .i64 n, .slice (some ⟨g2, 0, none⟩) l2.length l2.length]] rfl ?_
      refine hsm.mono ?_
      rintro e U10 ⟨rfl, hb11⟩
      refine ⟨_, rfl, heap_kept (heap_kept hR8 hb9) hb11, ?_⟩
      simp only [Act.put, List.setIfInBounds_toArray, List.set_cons_succ, List.set_cons_zero]
      refine wpOrd_yield (v := .bool bA) rfl (fun u _ => by go_simp) ?_
      simp only [Act.put, List.setIfInBounds_toArray, List.set_cons_succ, List.set_cons_zero]
      refine wpOrd_nil ?_
      have HBel : Hid (Below w.heap.size w U10) := (lwS_duo HJ5.out).bel.trans ((below_next hb10 hb11).mono (lwS_duo HJ5.out).bel.size)
      clear hR8 HB8 HJ8 hIm2 hi2 ha2 hb9 hN2 hb10 hsm hb11 hbA HFin HStD HMF2 HJ5 HA1 HI1 HSi HBF HBW HNt
      cases bA <;> cases bF <;> cases bW <;> first
        | (exfalso; simp at hfin; done)
        | (go_wp2; go_ret; exact ⟨rfl, HBel.out⟩)
    · have hd2 : decide (st < 2) = false := decide_eq_false hs2
      rw [hd2] at HFin
      clear hs2
      have HR7 : Hid _ := HR6.out
      have HB7 : Hid (Below X5.heap.size X5 X6) := HB6.out
      have HJ7 : Hid (Has (DuP w d1 (mkV gb gl gi (loadV n ls)) (lwK w im ge)) X6 d2 (crashS m2 kl)) := HJ6.out
      clear HR6 HB6 HJ6 HS6
      simp only [Bool.false_and] at HFin
      go_upto_region 18 with fail
      generalize X6 = X7 at *
      have hR8 : X7.drew.heap[g13]? = some (.cells #[.int .i64 n, .slice (some ⟨g1, 0, none⟩) m1 m1] 24) := HR7.out
      have HB8 : Hid (Below X5.heap.size X5 X7.drew) := HB7.out.drew
      have HJ8 : Hid (Has (DuP w d2 (crashS m2 kl) (lwK w im ge)) X7.drew d1 (mkV gb gl gi (loadV n ls))) := (HJ7.out.later (HStD.out _ _) (Below.refl _ _).drew).swapD
      clear HR7 HB7 HJ7
      refine wp_region_ord (S := fun u => u.heap[g13]? = some (.cells #[.int .i64 n, .slice (some ⟨g1, 0, none⟩) m1 m1] 24)) [(0, true), (1, true), (2, false), (3, false), (4, true)] (by kernel_rfl) rfl (by kernel_rfl) (fun d _ _ _ _ h => by cases d <;> exact h) hR8 ?_
      simp only [inOrd, List.getElem?_cons_zero, List.getElem?_cons_succ]
      generalize X7.drew = U8 at *
      refine wpOrd_yield (v := .agg #[.int .i64 n, .slice (some ⟨g1, 0, none⟩) m1 m1]) rfl (fun u hu => run_ldIm rfl rfl hu) ?_
      simp only [Act.put, List.setIfInBounds_toArray, List.set_cons_succ, List.set_cons_zero]
      refine wpOrd_yield (v := .pointer (some ⟨d1, 0, none⟩)) rfl (fun u _ => by go_simp) ?_
      simp only [Act.put, List.setIfInBounds_toArray, List.set_cons_succ, List.set_cons_zero]
      refine wpOrd_call rfl 16 _ _ rfl Try.call16 [.pointer (some ⟨d1, 0, none⟩)] rfl ?_
      have hIm2 := has_imageB HJ8.out
      rw [HD.out.2.2.1] at hIm2
      refine hIm2.mono ?_
      rintro e U9 ⟨g2, l2, rfl, hi2, ha2, hb9⟩
      refine ⟨_, rfl, heap_kept hR8 hb9, ?_⟩
      simp only [Act.put, List.setIfInBounds_toArray, List.set_cons_succ, List.set_cons_zero]
      have hN2 : l2.length ≤ 9000 := by
        have h2 := rise_len (n := n) l2 (-1) hi2.rise (fun c hc => by have := hi2.top c hc; rwa [HD.out.2.2.1] at this) (by have := HF.out; omega)
        have := HF.out
        omega
      have hfin := HFin.out l2 hi2
      have hb10 : Below X5.heap.size X5 U9 := below_next HB8.out hb9
      have hsm := sameImage_any n n l1 l2 (some ⟨g1, 0, none⟩) (some ⟨g2, 0, none⟩) m1 l2.length U9 (by have := HN1.out; omega) (by omega) (HA1.out.later hb10) ha2
      rw [HM1.out] at hsm
      obtain ⟨bA, hbA⟩ : ∃ bA, celsB l1 l2 = bA := ⟨_, rfl⟩
      rw [hbA, show ((n == n) && bA) = bA by simp] at hsm
      rw [hbA] at hfin
      refine wpOrd_call rfl 18 _ _ rfl Try.call18 [.agg #[.int .i64 n, .slice (some ⟨g1, 0, none⟩) m1 m1], .agg #[.int .i64 n, .slice (some ⟨g2, 0, none⟩) l2.length l2.length]] rfl ?_
      refine hsm.mono ?_
      rintro e U10 ⟨rfl, hb11⟩
      refine ⟨_, rfl, heap_kept (heap_kept hR8 hb9) hb11, ?_⟩
      simp only [Act.put, List.setIfInBounds_toArray, List.set_cons_succ, List.set_cons_zero]
      refine wpOrd_yield (v := .bool bA) rfl (fun u _ => by go_simp) ?_
      simp only [Act.put, List.setIfInBounds_toArray, List.set_cons_succ, List.set_cons_zero]
      refine wpOrd_nil ?_
      have HBel : Hid (Below w.heap.size w U10) := (lwS_duo HJ5.out).bel.trans ((below_next hb10 hb11).mono (lwS_duo HJ5.out).bel.size)
      clear hR8 HB8 HJ8 hIm2 hi2 ha2 hb9 hN2 hb10 hsm hb11 hbA HFin HStD HMF2 HJ5 HA1 HI1 HSi HBF HBW HNt
      cases bA <;> cases bF <;> cases bW <;> first
        | (exfalso; simp at hfin; done)
        | (go_wp2; go_ret; exact ⟨rfl, HBel.out⟩)
end Go.Proofs.YtlcdpmjdnihocaaD
/- A list of marks that came in; for all that can be read. -/
namespace Go.Proofs.YtlcdpmjdnihocaaD
open Go.RowKit Go.ChangeShapes Go.WideShapes
section
variable {H : Type} {enc : TypeId × Value → H} {w : World} {base : Nat} {sp : Nat → Bool} {held : Bool} {v : Value} {x : DataW H × List MemPlace} {fuel : Nat}
theorem bools_of_trod (h : DataW.trod enc Try.prog w base sp held fuel 27 [v] = some x) : ∃ a cap l, v = .slice a (List.length l) cap ∧ BoolsAt w v l ∧ l.length ≤ maxLen := by
  rcases Go.Deep.open_slice1 Try.underlying27 (by kernel_rfl) h with ⟨h0, _⟩ | ⟨a, len, cap, m, n, V, D, Pl, hv, _, hl, hm, hmm, _, hc⟩
  · have hv : v = .slice none 0 0 := by simpa using h0
    subst hv
    exact ⟨none, 0, [], rfl, bools_nil w, by unfold maxLen; simp⟩
  · have hv' : v = .slice (some a) len cap := by simpa using hv
    subst hv'
    have hlm : len ≤ m := by rw [hmm]; split <;> omega
    have key : ∀ i, ∃ z : Bool, (i < len → w.cell? (a.add i) = some (.bool z)) := fun i => by
      by_cases hi : i < len
      · obtain ⟨h1, h2⟩ := hc i (by omega)
        obtain ⟨z, hz, _⟩ := DataW.trod_bool Try.underlying4 h2
        have hz' : V i = .bool z := by simpa using hz
        exact ⟨z, fun _ => by rw [h1, hz']⟩
      · exact ⟨false, fun q => absurd q hi⟩
    obtain ⟨f, hf⟩ := Classical.skolem.1 key
    have hll : ((List.range len).map f).length = len := by simp
    refine ⟨some a, cap, (List.range len).map f, by rw [hll], ⟨some a, cap, by rw [hll], fun h0 => ?_⟩, by rw [hll]; omega⟩
    rw [hll] at h0
    obtain ⟨b, off, rfl, hb⟩ := plain_addr (hf 0 (by omega))
    refine ⟨b, off, rfl, fun i x hx => ?_⟩
    have hi : i < len := by have := (List.getElem?_eq_some_iff.1 hx).1; rwa [hll] at this
    have q := hf i hi
    rw [Go.WideShapes.add_plain] at q
    rw [List.getElem?_map, List.getElem?_range hi] at hx
    have e : f i = x := by simpa using hx
    rw [← e]
    exact q
end
end Go.Proofs.YtlcdpmjdnihocaaD
