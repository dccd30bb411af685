/- Parts put together; lists of one cell an element gone on with; no condition but bounds. -/
import Derived.Test.YtbchbappdpbkiaaFdS5
import Derived.Test.YtbchbappdpbkiaaFdS6
namespace Go.Proofs.Ytbchbappdpbkiaa
open Go.RowKit Go.Maps
section
variable {w W W' : World} {l : List Part}
/-- Some parts are told as one. -/
theorem Sep.joinN {A : List Part} {r : Part} (h : Sep w W (A ++ l)) (hg : r.Good) (hs : r.say W) (ho : ∀ k, r.own k → ∃ p ∈ A, p.own k) : Sep w W (r :: l) := by
  obtain ⟨_, h2, h3⟩ := List.pairwise_append.1 h.apart
  refine ⟨fun q hq => ?_, fun q hq => ?_, fun q hq k hk => ?_, List.pairwise_cons.2 ⟨fun q hq k hk hk2 => ?_, h2⟩, h.below⟩
  · rcases List.mem_cons.1 hq with rfl | hq
    · exact hg
    · exact h.good q (List.mem_append_right _ hq)
  · rcases List.mem_cons.1 hq with rfl | hq
    · exact hs
    · exact h.say q (List.mem_append_right _ hq)
  · rcases List.mem_cons.1 hq with rfl | hq
    · obtain ⟨p, hp, hpk⟩ := ho k hk
      exact h.lt p (List.mem_append_left _ hp) k hpk
    · exact h.lt q (List.mem_append_right _ hq) k hk
  · obtain ⟨p, hp, hpk⟩ := ho k hk
    exact h3 p hp q hq k hpk hk2
/-- What a call has made of its own is one part more. -/
theorem Sep.plus {p : Part} (h : Sep w W l) (s : Sep W W' [p]) : Sep w W' (p :: l) := h.add s.below (s.good p (by simp)) s.head fun _ hk => s.headLt hk
theorem sep_pushX {α : Type} {en : α → List Value} {e st : TypeId} {z : Value} {bytes : Nat} (hr : ∀ x, (en x).length = 1) (h1 : ∀ x, ∀ u ∈ en x, u.oneCell' = true) (ht : Try.prog.underlying st = some (.slice e)) (hi : (Try.prog.info? e).map (fun i => (i.zero, i.size, i.bytes)) = some (some z, 1, bytes)) (hzs : z.cells.size = 1) (hb : bytes ≤ 2000)
    {v : Value} {L : List α} (h : Sep w W (olP v e 1 L.length (L.flatMap en) :: l)) (hn : L.length ≤ 10000000) (x : α) :
    ∃ p c W', (Builtin.append_ #[st, st] st #[v, .slice (some ⟨W.heap.size, 0, none⟩) 1 1]).run Try.prog (W.alloc (.cells (en x).toArray e)) = .ok (.slice p (L ++ [x]).length c) W' ∧ Sep w W' (olP (.slice p (L ++ [x]).length c) e 1 (L ++ [x]).length ((L ++ [x]).flatMap en) :: l) := by
  obtain ⟨i0, hi0, hz0, hz1, hz2⟩ := info_parts hi
  obtain ⟨v', W', q1, q2, q3, q4⟩ := own_pushG hr h1 ht hi0 hz0 hz1 hz2 hzs (by omega) hb h.head (Nat.zero_le _) hn x st
  obtain ⟨p, c, hv⟩ : ∃ p c, v' = .slice p (L ++ [x]).length c := by
    rcases own_form q2 with ⟨e1, h0⟩ | ⟨b, c, e1, _⟩
    · simp at h0
    · exact ⟨_, c, e1⟩
  subst hv
  exact ⟨p, c, W', q1, sep_own h q3 q2 q4⟩
end
theorem info70 : (Try.prog.info? 70).map (fun i => (i.zero, i.size, i.bytes)) = some (some .nilFunc, 1, 8) := by kernel_rfl
theorem info80 : (Try.prog.info? 80).map (fun i => (i.zero, i.size, i.bytes)) = some (some .nilFunc, 1, 8) := by kernel_rfl
theorem info65 : (Try.prog.info? 65).map (fun i => (i.zero, i.size, i.bytes)) = some (some (.slice none 0 0), 1, 24) := by kernel_rfl
theorem info82 : (Try.prog.info? 82).map (fun i => (i.zero, i.size, i.bytes)) = some (some (.slice none 0 0), 1, 24) := by kernel_rfl
end Go.Proofs.Ytbchbappdpbkiaa
