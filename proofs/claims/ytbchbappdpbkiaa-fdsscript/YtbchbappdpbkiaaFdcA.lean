/- The program's table of things of one type: what a row stored in it makes of it; no other condition. -/
import Derived.Test.YtbchbappdpbkiaaFdbA
namespace Go.Proofs.Ytbchbappdpbkiaa
open Go.RowKit Go.Maps
section
variable {w W W' : World} {g le : Nat} {v : Value} {m : Int} {R : List (Option Ac)} {l : List Part}
theorem rowneA {b c n : Nat} {xs : List Value} {Z : Array Value} (hg : w.heap[g]? = some (.cells Z 87)) (ho : w.ownsRow 0 89 5 (.slice (some ⟨b, 0, none⟩) n c) n xs) : g ≠ b := fun e => by
  obtain ⟨_, h2⟩ := ho
  rcases h2 with ⟨q, _⟩ | ⟨b', cap, cur, q, _, hh, _⟩
  · cases q
  · injection q with q1
    injection q1 with q1
    injection q1 with q1
    rw [e, q1, hh] at hg
    injection hg with hg
    injection hg with _ hg
    exact absurd hg (by decide)
theorem putA {b c k : Nat} {r : Option Ac} (h : w.ownsRow 0 89 5 (.slice (some ⟨b, 0, none⟩) R.length c) R.length (R.flatMap enA)) (hk : k < R.length) :
    ∃ cur, w.heap[b]? = some (.cells cur 89) ∧ k * 5 + (enA r).length ≤ cur.size ∧ (w.setRow b (putE cur (k * 5) (enA r))).ownsRow 0 89 5 (.slice (some ⟨b, 0, none⟩) R.length c) (R.set k r).length ((R.set k r).flatMap enA) := by
  obtain ⟨cur, h1, h2, h3⟩ := own_set lenA (x := r) h rfl hk
  exact ⟨cur, h1, by rw [lenA]; exact h2, by rw [List.length_set]; exact h3⟩
theorem ownbA {R : List (Option Ac)} {n : Nat} (h : w.ownsRow 0 89 5 v n (R.flatMap enA)) (hn : R.length = n) (h0 : 0 < R.length) : ∃ b c, v = .slice (some ⟨b, 0, none⟩) R.length c ∧ b < w.heap.size := by
  rcases own_form h with ⟨rfl, q⟩ | ⟨b, c, rfl, hl⟩
  · omega
  · exact ⟨b, c, by rw [hn], hl⟩
set_option maxRecDepth 20000 in
theorem midA (x : Ac) (h : w.heap[g]? = some (.cells (tbA g m (cnt R) le v) 87)) {R1 : List (Option Ac)} (ho : w.ownsRow 0 89 5 v R1.length (R1.flatMap enA)) (hk : lf R < R1.length) (hs : R1.set (lf R) (some x) = openR R x) (hcm : (cnt R : Int) < m) (htop : m ≤ 9223372036854775807) :
    ∃ b c cur i, v = .slice (some ⟨b, 0, none⟩) R1.length c ∧ b < w.heap.size ∧ w.heap[b]? = some (.cells cur 89) ∧ Try.prog.info? 89 = some i ∧ i.size = (enA (some x)).length ∧ lf R * 5 + (enA (some x)).length ≤ cur.size ∧ g ≠ b ∧
      (w.setRow b (putE cur (lf R * 5) (enA (some x)))).cell? ⟨g, 2, none⟩ = some (.int .i64 (cnt R)) ∧ (w.setRow b (putE cur (lf R * 5) (enA (some x)))).cell? ⟨g, 3, none⟩ = some (.int .i64 le) ∧ (w.setRow b (putE cur (lf R * 5) (enA (some x)))).frozen? ⟨g, 2, none⟩ = false ∧ (w.setRow b (putE cur (lf R * 5) (enA (some x)))).frozen? ⟨g, 3, none⟩ = false ∧
      TabA (((w.setRow b (putE cur (lf R * 5) (enA (some x)))).setCell ⟨g, 2, none⟩ (.int .i64 ((cnt R : Int) + 1))).setCell ⟨g, 3, none⟩ (.int .i64 ((lf R : Int) + 1))) g v (lf R + 1) m (openR R x) := by
  obtain ⟨b, c, rfl, hb⟩ := ownbA ho rfl (by omega)
  obtain ⟨cur, h1, h2, h3⟩ := putA (r := some x) ho hk
  obtain ⟨i0, hi0, hz0, hz1, hz2⟩ := info_parts infA
  have hne := rowneA h ho
  have r1 : (w.setRow b (putE cur (lf R * 5) (enA (some x)))).heap[g]? = some (.cells (tbA g m (cnt R) le (.slice (some ⟨b, 0, none⟩) R1.length c)) 87) := (setRow_other _ _ _ _ hne).trans h
  have r2 := heap_setCell_same _ g 2 _ _ (.int .i64 ((cnt R : Int) + 1)) r1
  have r3 := heap_setCell_same _ g 3 _ _ (.int .i64 ((lf R : Int) + 1)) r2
  refine ⟨b, c, cur, i0, rfl, hb, h1, hi0, by rw [hz1, lenA], h2, hne, by rw [cell_of_row _ _ _ _ _ _ r1]; rfl, by rw [cell_of_row _ _ _ _ _ _ r1]; rfl, frozen_row r1 2, frozen_row r1 3, ?_⟩
  have hT : TabA (((w.setRow b (putE cur (lf R * 5) (enA (some x)))).setCell ⟨g, 2, none⟩ (.int .i64 ((cnt R : Int) + 1))).setCell ⟨g, 3, none⟩ (.int .i64 ((lf R : Int) + 1))) g (.slice (some ⟨b, 0, none⟩) R1.length c) (lf R + 1) m (openR R x) := by
    refine ⟨?_, ?_, lf_open R x, by rw [cnt_open]; omega, htop⟩
    · rw [cnt_open]
      refine r3.trans ?_
      rw [show ((cnt R + 1 : Nat) : Int) = (cnt R : Int) + 1 by omega, show ((lf R + 1 : Nat) : Int) = (lf R : Int) + 1 by omega]
      simp only [tbA, List.setIfInBounds_toArray, List.set_cons_succ, List.set_cons_zero]
    · rw [← hs]
      obtain ⟨q1, q2⟩ := h3
      refine ⟨q1, ?_⟩
      rcases q2 with q2 | ⟨b', cap, cur', q, q3, q4, q5⟩
      · exact .inl q2
      · refine .inr ⟨b', cap, cur', q, q3, ?_, q5⟩
        have eb : b' = b := by injection q with e1; injection e1 with e1; injection e1 with e1; exact e1.symm
        subst eb
        exact ((heap_setCell_other _ _ _ _ (by exact hne.symm)).trans (heap_setCell_other _ _ _ _ (by exact hne.symm))).trans q4
  exact hT
set_option maxRecDepth 20000 in
theorem midcA {k : Nat} {x : Ac} (h : TabA w g v le m R) (hk : R[k]? = some (some x)) (j : Nat) (hj : j = min le k) :
    ∃ b c cur i, v = .slice (some ⟨b, 0, none⟩) R.length c ∧ b < w.heap.size ∧ w.heap[b]? = some (.cells cur 89) ∧ Try.prog.info? 89 = some i ∧ i.size = (enA none).length ∧ k * 5 + (enA none).length ≤ cur.size ∧ g ≠ b ∧ 1 ≤ cnt R ∧
      (w.setRow b (putE cur (k * 5) (enA none))).cell? ⟨g, 2, none⟩ = some (.int .i64 (cnt R)) ∧ (w.setRow b (putE cur (k * 5) (enA none))).cell? ⟨g, 3, none⟩ = some (.int .i64 le) ∧ (w.setRow b (putE cur (k * 5) (enA none))).frozen? ⟨g, 2, none⟩ = false ∧ (w.setRow b (putE cur (k * 5) (enA none))).frozen? ⟨g, 3, none⟩ = false ∧
      ToA w g v m (R.set k none) (((w.setRow b (putE cur (k * 5) (enA none))).setCell ⟨g, 2, none⟩ (.int .i64 ((cnt R : Int) - 1))).setCell ⟨g, 3, none⟩ (.int .i64 (j : Int))) := by
  have hkl := (List.getElem?_eq_some_iff.1 hk).1
  have hrow := h.row
  have hcs := cnt_set_none R k x hk
  obtain ⟨b, c, rfl, hb⟩ := ownbA h.own rfl (by omega)
  obtain ⟨cur, h1, h2, h3⟩ := putA (r := none) h.own hkl
  obtain ⟨i0, hi0, hz0, hz1, hz2⟩ := info_parts infA
  have hne := rowneA hrow h.own
  have r1 : (w.setRow b (putE cur (k * 5) (enA none))).heap[g]? = some (.cells (tbA g m (cnt R) le (.slice (some ⟨b, 0, none⟩) R.length c)) 87) := (setRow_other _ _ _ _ hne).trans hrow
  have r2 := heap_setCell_same _ g 2 _ _ (.int .i64 ((cnt R : Int) - 1)) r1
  have r3 := heap_setCell_same _ g 3 _ _ (.int .i64 (j : Int)) r2
  refine ⟨b, c, cur, i0, rfl, hb, h1, hi0, by rw [hz1, lenA], h2, hne, by omega, by rw [cell_of_row _ _ _ _ _ _ r1]; rfl, by rw [cell_of_row _ _ _ _ _ _ r1]; rfl, frozen_row r1 2, frozen_row r1 3, .slice (some ⟨b, 0, none⟩) R.length c, j, ⟨?_, ?_, ?_, ?_, h.top⟩, ?_, fun k hk => .inl hk⟩
  · rw [show ((cnt (R.set k none) : Nat) : Int) = (cnt R : Int) - 1 by omega]
    refine r3.trans ?_
    simp only [tbA, List.setIfInBounds_toArray, List.set_cons_succ, List.set_cons_zero]
  · obtain ⟨q1, q2⟩ := h3
    refine ⟨q1, ?_⟩
    rw [List.length_set] at q2 ⊢
    rcases q2 with q2 | ⟨b', cap, cur', q, q3, q4, q5⟩
    · exact .inl q2
    · refine .inr ⟨b', cap, cur', q, q3, ?_, q5⟩
      have eb : b' = b := by injection q with e1; injection e1 with e1; injection e1 with e1; exact e1.symm
      subst eb
      exact ((heap_setCell_other _ _ _ _ (by exact hne.symm)).trans (heap_setCell_other _ _ _ _ (by exact hne.symm))).trans q4
  · rw [hj]; exact lf_close h.lel hk
  · have := h.cnm; omega
  · have f3 := (Fr.refl (fun k => k = g ∨ (Value.slice (some ⟨b, 0, none⟩) R.length c).ownBlock = some k) w).trans (Fr.setRow w b (putE cur (k * 5) (enA none))) (fun i hi q => .inr (by rw [q]; rfl))
    exact (f3.trans (Fr.setCell _ g 2 _) (fun i _ q => .inl q)).trans (Fr.setCell _ g 3 _) (fun i _ q => .inl q)
end
end Go.Proofs.Ytbchbappdpbkiaa
