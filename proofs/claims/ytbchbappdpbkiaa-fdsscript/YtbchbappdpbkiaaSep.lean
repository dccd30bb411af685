/- Parts of memory that lie apart: one of them turns, the others stay; no condition. -/
import Derived.Test.YtbchbappdpbkiaaBase
namespace Go.Proofs.Ytbchbappdpbkiaa
open Go.RowKit

theorem Fr.below' {T : Nat → Prop} {B : Nat} {a b : World} (h : Fr T a b) (hT : ∀ k, T k → k < a.heap.size → B ≤ k) (hB : B ≤ a.heap.size) : Below B a b :=
  ⟨h.os, h.tape, h.output, h.size, fun i hi => h.block i (by omega) fun q => by have := hT i q (by omega); omega⟩
/-- A part of memory: its blocks, and what it says. -/
structure Part where
  own : Nat → Prop
  say : World → Prop
/-- What a part says goes by its own blocks alone. -/
def Part.Good (p : Part) : Prop := ∀ W W' : World, p.say W → (∀ k, p.own k → k < W.heap.size) → (∀ k, p.own k → W'.heap[k]? = W.heap[k]?) → p.say W'
/-- Parts that were made since w, and lie apart. -/
structure Sep (w W : World) (l : List Part) : Prop where
  good : ∀ p ∈ l, p.Good
  say : ∀ p ∈ l, p.say W
  lt : ∀ p ∈ l, ∀ k, p.own k → w.heap.size ≤ k ∧ k < W.heap.size
  apart : l.Pairwise fun p q => ∀ k, p.own k → ¬ q.own k
  below : Below w.heap.size w W
variable {w W W' : World} {p p' q : Part} {l : List Part}
theorem Sep.head (h : Sep w W (p :: l)) : p.say W := h.say p (by simp)
theorem Sep.headLt (h : Sep w W (p :: l)) {k : Nat} (hk : p.own k) : w.heap.size ≤ k ∧ k < W.heap.size := h.lt p (by simp) k hk
/-- The first one turns. -/
theorem Sep.turn (h : Sep w W (p :: l)) {T : Nat → Prop} (hF : Fr T W W') (hT : ∀ k, k < W.heap.size → T k → p.own k) (hg : p'.Good) (hs : p'.say W') (ho : ∀ k, p'.own k → (p.own k ∨ W.heap.size ≤ k) ∧ k < W'.heap.size) : Sep w W' (p' :: l) := by
  obtain ⟨ha, hl⟩ := List.pairwise_cons.1 h.apart
  refine ⟨fun q hq => ?_, fun q hq => ?_, fun q hq k hk => ?_, List.pairwise_cons.2 ⟨fun q hq k hk hk2 => ?_, hl⟩, ?_⟩
  · rcases List.mem_cons.1 hq with rfl | hq
    · exact hg
    · exact h.good q (List.mem_cons_of_mem _ hq)
  · rcases List.mem_cons.1 hq with rfl | hq
    · exact hs
    · have hm : q ∈ p :: l := List.mem_cons_of_mem _ hq
      exact h.good q hm W W' (h.say q hm) (fun k hk => (h.lt q hm k hk).2) fun k hk => hF.block k (h.lt q hm k hk).2 fun hp => ha q hq k (hT k (h.lt q hm k hk).2 hp) hk
  · rcases List.mem_cons.1 hq with rfl | hq
    · refine ⟨?_, (ho k hk).2⟩
      rcases (ho k hk).1 with r | r
      · exact (h.lt p (by simp) k r).1
      · have := h.below.size; omega
    · have := h.lt q (List.mem_cons_of_mem _ hq) k hk
      exact ⟨this.1, Nat.lt_of_lt_of_le this.2 hF.size⟩
  · rcases (ho k hk).1 with r | r
    · exact ha q hq k r hk2
    · have := (h.lt q (List.mem_cons_of_mem _ hq) k hk2).2
      omega
  · exact h.below.trans (hF.below' (fun k hk hlt => (h.lt p (by simp) k (hT k hlt hk)).1) h.below.size)
theorem Sep.later (h : Sep w W l) (hb : Below W.heap.size W W') : Sep w W' l :=
  ⟨h.good, fun q hq => h.good q hq W W' (h.say q hq) (fun k hk => (h.lt q hq k hk).2) fun k hk => hb.block k (h.lt q hq k hk).2, fun q hq k hk => ⟨(h.lt q hq k hk).1, Nat.lt_of_lt_of_le (h.lt q hq k hk).2 hb.size⟩, h.apart, h.below.trans (hb.mono h.below.size)⟩
/-- One more, made just now. -/
theorem Sep.add (h : Sep w W l) (hb : Below W.heap.size W W') (hg : p.Good) (hs : p.say W') (ho : ∀ k, p.own k → W.heap.size ≤ k ∧ k < W'.heap.size) : Sep w W' (p :: l) := by
  have h2 := h.later hb
  refine ⟨fun q hq => ?_, fun q hq => ?_, fun q hq k hk => ?_, List.pairwise_cons.2 ⟨fun q hq k hk hk2 => ?_, h2.apart⟩, h2.below⟩
  · rcases List.mem_cons.1 hq with rfl | hq
    · exact hg
    · exact h2.good q hq
  · rcases List.mem_cons.1 hq with rfl | hq
    · exact hs
    · exact h2.say q hq
  · rcases List.mem_cons.1 hq with rfl | hq
    · have := h.below.size
      have := ho k hk
      omega
    · exact h2.lt q hq k hk
  · have := (h.lt q hq k hk2).2
    have := (ho k hk).1
    omega
theorem Sep.perm {l' : List Part} (h : Sep w W l) (hp : l.Perm l') : Sep w W l' :=
  ⟨fun q hq => h.good q (hp.mem_iff.2 hq), fun q hq => h.say q (hp.mem_iff.2 hq), fun q hq => h.lt q (hp.mem_iff.2 hq), (hp.pairwise_iff fun h k hk hk2 => h k hk2 hk).1 h.apart, h.below⟩
theorem Sep.swap (h : Sep w W (p :: q :: l)) : Sep w W (q :: p :: l) := h.perm (List.Perm.swap _ _ _)
/-- The third one comes to the front. -/
theorem Sep.third {r : Part} (h : Sep w W (p :: q :: r :: l)) : Sep w W (r :: p :: q :: l) := h.perm ((List.Perm.cons _ (List.Perm.swap _ _ _)).trans (List.Perm.swap _ _ _))
theorem Sep.back {r : Part} (h : Sep w W (r :: p :: q :: l)) : Sep w W (p :: q :: r :: l) := h.perm ((List.Perm.swap _ _ _).trans (List.Perm.cons _ (List.Perm.swap _ _ _)))
/-- The first one is let go. -/
theorem Sep.drop (h : Sep w W (p :: l)) : Sep w W l :=
  ⟨fun q hq => h.good q (List.mem_cons_of_mem _ hq), fun q hq => h.say q (List.mem_cons_of_mem _ hq), fun q hq => h.lt q (List.mem_cons_of_mem _ hq), (List.pairwise_cons.1 h.apart).2, h.below⟩
theorem Sep.nil (hb : Below w.heap.size w W) : Sep w W [] := ⟨by simp, by simp, by simp, List.Pairwise.nil, hb⟩
end Go.Proofs.Ytbchbappdpbkiaa
