/- Lists that lie beside a log: they may grow and turn, and the log stays as it is; no condition. -/
import Derived.Test.YtahaiciciljijabLOps
namespace Go.Proofs.Ytahaiciciljijab
open Go.RowKit Go.Maps
variable {w W W' : World} {g d : Nat} {v v' : Value} {x : LSt} {t : St} {ks : List (Nat × Obj)} {book : Int → Nat → Int}
/-- Blocks beside a log turn, others are made: the log stays, and whatever lies beside it now may be told. -/
theorem LogI.side {T : Nat → Prop} {ks' : List (Nat × Obj)} (h : LogI w W g d x t book ks) (hf : Fr T W W') (hT : ∀ k, T k → w.heap.size ≤ k ∧ ∃ o, (k, o) ∈ ks)
    (hks : ∀ p ∈ ks', W'.heap[p.1]? = some p.2 ∧ ((∃ o, (p.1, o) ∈ ks) ∨ W.heap.size ≤ p.1)) : LogI w W' g d x t book ks' := by
  classical
  obtain ⟨s, ⟨c, mb, v, os, h⟩, hI⟩ := h
  refine ⟨s, ?_, hI⟩
  have hne : ∀ k, LHas g mb v k → ¬ T k := fun k hk q => by
    obtain ⟨_, o, ho⟩ := hT k q
    exact h.ap (k, o) ho hk
  have hk : ∀ k, LHas g mb v k → W'.heap[k]? = W.heap[k]? := fun k hk => hf.block k (h.log.lt k hk) (hne k hk)
  refine ⟨c, mb, v, os.filter (fun p => decide (¬ T p.1)), h.sit.turn hf (fun k e => ?_) fun p hp => ?_, h.log.kept hk, fun k hk2 => ?_, fun p hp => ?_⟩
  · obtain ⟨h1, o, ho⟩ := hT k e
    exact ⟨h1, o, List.mem_append.2 (.inr ho)⟩
  · rcases List.mem_append.1 hp with hp | hp
    · obtain ⟨hp1, hp2⟩ := List.mem_filter.1 hp
      have hp3 : ¬ T p.1 := of_decide_eq_true hp2
      have hb := h.sit.blk (List.mem_append.2 (.inl hp1) : (p.1, p.2) ∈ os ++ ks)
      exact ⟨(hf.block p.1 (Array.getElem?_eq_some_iff.1 hb).1 hp3).trans hb, .inl ⟨p.2, List.mem_append.2 (.inl hp1)⟩⟩
    · obtain ⟨h1, h2⟩ := hks p hp
      refine ⟨h1, ?_⟩
      rcases h2 with ⟨o, ho⟩ | h2
      · exact .inl ⟨o, List.mem_append.2 (.inr ho)⟩
      · exact .inr h2
  · obtain ⟨h1, o2, ho2⟩ := h.own k hk2
    exact ⟨h1, o2, List.mem_filter.2 ⟨ho2, decide_eq_true (hne k hk2)⟩⟩
  · intro q
    rcases (hks p hp).2 with ⟨o, ho⟩ | h2
    · exact h.ap (p.1, o) ho q
    · have := h.log.lt p.1 q
      omega
/-- A list that lies in one of these blocks, or in none. -/
def Holds (B : Nat) (ks : List (Nat × Obj)) (ty : TypeId) (sz : Nat) (v : Value) (n : Nat) (xs : List Value) : Prop :=
  (∀ u : World, (∀ p ∈ ks, u.heap[p.1]? = some p.2) → u.ownsRow B ty sz v n xs) ∧ (∀ k, v.ownBlock = some k → ∃ o, (k, o) ∈ ks) ∧ ∀ p ∈ ks, v.ownBlock = some p.1
theorem Holds.nil (B : Nat) (ty : TypeId) (sz : Nat) : Holds B [] ty sz (.slice none 0 0) 0 [] := ⟨fun u _ => World.ownsRow_nil u B ty sz, fun k q => (by cases q), fun p q => absurd q List.not_mem_nil⟩
theorem owns_at {B : Nat} {ty : TypeId} {sz n : Nat} {xs : List Value} {u : World} (h : W.ownsRow B ty sz v n xs) (hk : ∀ k, v.ownBlock = some k → u.heap[k]? = W.heap[k]?) : u.ownsRow B ty sz v n xs := by
  refine ⟨h.1, ?_⟩
  rcases h.2 with hn | ⟨g, cap, cur, rfl, hB, hg, rest⟩
  · exact .inl hn
  · exact .inr ⟨g, cap, cur, rfl, hB, (hk g rfl).trans hg, rest⟩
theorem Holds.of {B : Nat} {ty : TypeId} {sz n : Nat} {xs : List Value} (h : W.ownsRow B ty sz v n xs) (hk : ∀ k, v.ownBlock = some k → ∃ o, (k, o) ∈ ks) (hks : ∀ p ∈ ks, v.ownBlock = some p.1 ∧ W.heap[p.1]? = some p.2) : Holds B ks ty sz v n xs :=
  ⟨fun u hu => owns_at h fun k q => by
    obtain ⟨o, ho⟩ := hk k q
    rw [hu _ ho, (hks _ ho).2], hk, fun p hp => (hks p hp).1⟩
/-- A list beside a log has grown, or turned: it lies beside the log still. -/
theorem LogI.grown {B : Nat} {ty : TypeId} {sz n n' : Nat} {xs xs' : List Value} {own ks : List (Nat × Obj)} (h : LogI w W g d x t book (own ++ ks)) (hv : Holds B own ty sz v n xs) (hB : w.heap.size ≤ B) (hap : ∀ p ∈ ks, v.ownBlock ≠ some p.1)
    (hf : Fr (fun i => v.ownBlock = some i) W W') (ho : W'.ownsRow B ty sz v' n' xs') (hn : ∀ k, v'.ownBlock = some k → v.ownBlock = some k ∨ W.heap.size ≤ k) :
    ∃ own', LogI w W' g d x t book (own' ++ ks) ∧ Holds B own' ty sz v' n' xs' ∧ ∀ p ∈ ks, v'.ownBlock ≠ some p.1 := by
  have hlt : ∀ k, v'.ownBlock = some k → B ≤ k ∧ k < W'.heap.size := fun k hk => ho.lt k hk
  have hold : ∀ k, v.ownBlock = some k → w.heap.size ≤ k ∧ ∃ o, (k, o) ∈ own ++ ks := fun k hk => by
    obtain ⟨o, hm⟩ := hv.2.1 k hk
    have := ((hv.1 W fun p hp => h.obj (List.mem_append.2 (.inl hp))).lt k hk).1
    exact ⟨by omega, o, List.mem_append.2 (.inl hm)⟩
  have hks : ∀ p ∈ ks, W'.heap[p.1]? = some p.2 := fun p hp => by
    have hb := h.obj (List.mem_append.2 (.inr hp) : (p.1, p.2) ∈ own ++ ks)
    exact (hf.block p.1 (Array.getElem?_eq_some_iff.1 hb).1 (hap p hp)).trans hb
  have hap' : ∀ p ∈ ks, v'.ownBlock ≠ some p.1 := fun p hp q => by
    rcases hn p.1 q with h1 | h1
    · exact hap p hp h1
    · have hb := (Array.getElem?_eq_some_iff.1 (h.obj (List.mem_append.2 (.inr hp) : (p.1, p.2) ∈ own ++ ks))).1
      omega
  cases e : v'.ownBlock with
  | none =>
    refine ⟨[], h.side hf hold fun p hp => ⟨hks p hp, .inl ⟨p.2, List.mem_append.2 (.inr hp)⟩⟩, Holds.of ho (fun k q => by rw [e] at q; cases q) fun p hp => absurd hp List.not_mem_nil, fun p hp => by rw [← e]; exact hap' p hp⟩
  | some k =>
    obtain ⟨o, hob⟩ : ∃ o, W'.heap[k]? = some o := ⟨_, Array.getElem?_eq_getElem (hlt k e).2⟩
    refine ⟨[(k, o)], h.side hf hold fun p hp => ?_, Holds.of ho (fun k' q => ?_) fun p hp => ?_, fun p hp => by rw [← e]; exact hap' p hp⟩
    · rcases List.mem_append.1 hp with hp | hp
      · simp only [List.mem_cons, List.not_mem_nil, or_false] at hp
        subst hp
        refine ⟨hob, ?_⟩
        rcases hn k e with h1 | h1
        · obtain ⟨o2, hm⟩ := hv.2.1 k h1
          exact .inl ⟨o2, List.mem_append.2 (.inl hm)⟩
        · exact .inr h1
      · exact ⟨hks p hp, .inl ⟨p.2, List.mem_append.2 (.inr hp)⟩⟩
    · rw [e] at q
      injection q with q
      subst q
      exact ⟨o, List.mem_cons_self ..⟩
    · simp only [List.mem_cons, List.not_mem_nil, or_false] at hp
      subst hp
      exact ⟨e, hob⟩
theorem LogI.owns {B : Nat} {ty : TypeId} {sz n : Nat} {xs : List Value} {own ks : List (Nat × Obj)} (h : LogI w W g d x t book (own ++ ks)) (hv : Holds B own ty sz v n xs) : W.ownsRow B ty sz v n xs := hv.1 W fun _ hp => h.obj (List.mem_append.2 (.inl hp))
end Go.Proofs.Ytahaiciciljijab
