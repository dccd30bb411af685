/- Parts of memory that the law's walk over All holds side by side; both desks' calls beside them; for desks that hold fewer than a million inodes. -/
import Derived.Test.YtpghalekcgnefaaDk13
import Derived.Test.YtpghalekcgnefaaDk8
import Derived.Test.YtpghalekcgnefaaDkN
namespace Go.Proofs.Ytpghalekcgnefaa
open Go.RowKit Go.Maps
theorem Fr.below2 {T : Nat → Prop} {B : Nat} {a b : World} (h : Fr T a b) (hT : ∀ k, k < a.heap.size → T k → B ≤ k) (hB : B ≤ a.heap.size) : Below B a b := h.below' (fun k q hk => hT k hk q) hB
/-- A block told whole. -/
def bxP (B : Nat) (cs : Array Value) (t : TypeId) : Part := ⟨fun k => k = B, fun W => W.heap[B]? = some (.cells cs t)⟩
theorem bxP_good (B : Nat) (cs : Array Value) (t : TypeId) : (bxP B cs t).Good := fun _ _ hs _ q => (q B rfl).trans hs
/-- A cell with a slice, and the list that the slice owns. -/
def clP (B : Nat) (v : Value) (st e : TypeId) (L : List (Int × Int)) : Part := ⟨fun k => k = B ∨ v.ownBlock = some k, fun W => W.heap[B]? = some (.cells #[v] st) ∧ W.ownsRow 0 e 2 v L.length (L.flatMap pc2)⟩
theorem clP_good (B : Nat) (v : Value) (st e : TypeId) (L : List (Int × Int)) : (clP B v st e L).Good := fun W W' hs _ h => by
  refine ⟨(h B (.inl rfl)).trans hs.1, hs.2.1, ?_⟩
  rcases hs.2.2 with q | ⟨g', cap, cur, rfl, hB, hh, r⟩
  · exact .inl q
  · exact .inr ⟨g', cap, cur, rfl, hB, (h g' (.inr rfl)).trans hh, r⟩
section
variable {w W W' : World} {l : List Part}
theorem Sep.box (h : Sep w W l) (cs : Array Value) (t : TypeId) : Sep w (W.alloc (.cells cs t)) (bxP W.heap.size cs t :: l) := by
  refine h.add (below_new _ _) (bxP_good _ _ _) (heap_alloc_new _ _) ?_
  rintro k rfl
  exact ⟨Nat.le_refl _, by simp⟩
theorem Sep.setBox {B : Nat} {cs : Array Value} {t : TypeId} (h : Sep w W (bxP B cs t :: l)) (i : Nat) (v : Value) : Sep w (W.setCell ⟨B, i, none⟩ v) (bxP B (cs.setIfInBounds i v) t :: l) := by
  refine h.turn (Fr.setCell W B i v) (fun k _ q => q) (bxP_good _ _ _) (heap_setCell_same _ _ _ _ _ _ h.head) ?_
  rintro k rfl
  have := (h.headLt (k := k) rfl).2
  exact ⟨.inl rfl, by simpa using this⟩
/-- What is not told grows. -/
theorem Sep.kept {row : Option Nat} (h : Sep w W l) (hg : W.grownBy W' row) (hr : ∀ r, row = some r → w.heap.size ≤ r ∧ ∀ p ∈ l, ¬ p.own r) : Sep w W' l := by
  refine ⟨h.good, fun p hp => h.good p hp W W' (h.say p hp) (fun k hk => (h.lt p hp k hk).2) fun k hk => hg.block k (h.lt p hp k hk).2 fun e => (hr k e.symm).2 p hp hk, fun p hp k hk => ⟨(h.lt p hp k hk).1, Nat.lt_of_lt_of_le (h.lt p hp k hk).2 hg.size⟩, h.apart, h.below.grown hg h.below.size fun j e => (hr j e).1⟩
/-- The block of the calls put off is told too. -/
theorem Sep.withMark {D : Nat} (h : Sep w W l) (hn : ∀ p ∈ l, ∀ k, p.own k → k < D) (hD : W.heap[D]? = some (.deferred (some []))) (hw : w.heap.size ≤ D) : Sep w W (dfP D :: l) := by
  refine ⟨fun p hp => ?_, fun p hp => ?_, fun p hp k hk => ?_, List.pairwise_cons.2 ⟨fun q hq k hk hk2 => ?_, h.apart⟩, h.below⟩
  · rcases List.mem_cons.1 hp with rfl | hp
    · exact dfP_good D
    · exact h.good p hp
  · rcases List.mem_cons.1 hp with rfl | hp
    · exact hD
    · exact h.say p hp
  · rcases List.mem_cons.1 hp with rfl | hp
    · have hk' : k = D := hk
      rw [hk']
      exact ⟨hw, (Array.getElem?_eq_some_iff.1 hD).1⟩
    · exact h.lt p hp k hk
  · have hk' : k = D := hk
    have := hn q hq k hk2
    omega
theorem Sep.away {p q : Part} (h : Sep w W (p :: l)) (hq : q ∈ l) {k : Nat} (hk : p.own k) : ¬ q.own k := (List.pairwise_cons.1 h.apart).1 q hq k hk
theorem Sep.sayOf {q : Part} (h : Sep w W l) (hq : q ∈ l) : q.say W := h.say q hq
section
variable {g : Nat} {m : Int} {v : Value} {L : List (Int × Int)} {c : Nat}
theorem Sep.toRef (h : Sep w W (rfP g m v L :: l)) {L' : List (Int × Int)} (hT : RfTo W g m v L' W') : ∃ v', Sep w W' (rfP g m v' L' :: l) := by
  obtain ⟨v', h1, h2, h3⟩ := hT
  refine ⟨v', h.turn h2 (fun k _ q => q) (rfP_good _ _ _ _) h1 ?_⟩
  rintro k (rfl | q)
  · exact ⟨.inl (.inl rfl), h1.lt⟩
  · refine ⟨?_, (h1.own.lt k q).2⟩
    rcases h3 k q with r | r
    · exact .inl (.inr r)
    · exact .inr r
theorem Sep.rhold (h : Sep w W (rfP g m v L :: l)) (ho : Dok m L c) (hc : c < 1000000) (k : Int) : Calls Try.prog 20 #[.pointer (some ⟨g, 0, none⟩), .int .i64 k] W fun e W' => e = .returned (.int .i64 (holdE m L k)) ∧ ∃ v', Sep w W' (rfP g m v' (holdL m L k) :: l) :=
  (rhold_ok h.ref ho hc k).mono fun _ _ ⟨he, hT⟩ => ⟨he, h.toRef hT⟩
theorem Sep.rdrop (h : Sep w W (rfP g m v L :: l)) (ho : Dok m L c) (hc : c < 1000000) (k : Int) : Calls Try.prog 21 #[.pointer (some ⟨g, 0, none⟩), .int .i64 k] W fun e W' => e = .returned (.tuple #[.bool (dropB L k), .int .i64 (dropE L k)]) ∧ ∃ v', Sep w W' (rfP g m v' (dropL L k) :: l) :=
  (rdrop_ok h.ref ho hc k).mono fun _ _ ⟨he, hT⟩ => ⟨he, h.toRef hT⟩
theorem Sep.rfull (h : Sep w W (rfP g m v L :: l)) (ho : Dok m L c) : Calls Try.prog 24 #[.pointer (some ⟨g, 0, none⟩)] W fun e W' => e = .returned (.bool (fullB m L)) ∧ Sep w W' (rfP g m v L :: l) := by
  have e : decide (m ≤ (L.length : Int)) = fullB m L := by
    unfold fullB
    have := ho.len
    by_cases q : (L.length : Int) = m
    · rw [decide_eq_true q, decide_eq_true (by omega)]
    · rw [decide_eq_false q, decide_eq_false (by omega)]
  have h1 := rfull_ok h.ref
  rw [e] at h1
  exact h1.mono fun _ _ ⟨he, hb⟩ => ⟨he, h.later hb⟩
end
end
end Go.Proofs.Ytpghalekcgnefaa
