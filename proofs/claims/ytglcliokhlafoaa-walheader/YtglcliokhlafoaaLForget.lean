/- A group is forgotten, by a call and by a call that was deferred; no condition. -/
import Derived.Test.YtglcliokhlafoaaLTell
namespace Go.Proofs.Ytglcliokhlafoaa
open Go.RowKit Go.Maps
variable {w W : World} {g d c mb : Nat} {v : Value} {x : LSt} {s : CSt} {t : St} {os ks : List (Nat × Obj)} {base : Nat}
theorem makeMap38 (w : World) : (Instr.makeMap 82 none).run Try.prog w = .ok (.map (some w.heap.size)) (w.alloc (.map #[] 0)) := by
  simp [Instr.makeMap, go_sem]
def forgotW (W : World) (g : Nat) : World := ((W.setCell ⟨g, 13, none⟩ (.slice none 0 0)).setCell ⟨g, 14, none⟩ (.map (some W.heap.size))).alloc (.map #[] 0)
theorem forget_raw {cs : Array Value} (h : W.heap[g]? = some (.cells cs 86)) (hs : cs.size = 19) : Calls Try.prog 39 #[.pointer (some ⟨g, 13, none⟩)] W fun e W' => e = .returned (.tuple #[]) ∧ W' = forgotW W g := by
  have c13 : W.cell? ⟨g, 13, none⟩ = some cs[13] := by rw [Joins.cell_of_block h 13]; simp
  have c14 : W.cell? ⟨g, 14, none⟩ = some cs[14] := by rw [Joins.cell_of_block h 14]; simp
  have f13 := Joins.unfrozen_of_block h 13
  have f14 := Joins.unfrozen_of_block h 14
  have hm := makeMap38 W
  have hlt := (Array.getElem?_eq_some_iff.1 h).1
  clear h
  go_enter Try.func39, Try.ntmps39
  go_wp2
  go_end0
  exact ⟨rfl, rfl⟩
theorem forget_rawD {cs : Array Value} (h : W.heap[g]? = some (.cells cs 86)) (hs : cs.size = 19) (u : FrameMode) : CallsD Try.prog 39 #[.pointer (some ⟨g, 13, none⟩)] u W fun e u' W' => u' = u ∧ (e = .returned (.tuple #[]) ∧ W' = forgotW W g) := by
  have c13 : W.cell? ⟨g, 13, none⟩ = some cs[13] := by rw [Joins.cell_of_block h 13]; simp
  have c14 : W.cell? ⟨g, 14, none⟩ = some cs[14] := by rw [Joins.cell_of_block h 14]; simp
  have f13 := Joins.unfrozen_of_block h 13
  have f14 := Joins.unfrozen_of_block h 14
  have hm := makeMap38 W
  have hlt := (Array.getElem?_eq_some_iff.1 h).1
  clear h
  go_enter_d Try.func39, Try.ntmps39
  go_wp2
  go_end0
  exact ⟨rfl, rfl⟩
def forgotL (x : LSt) : LSt := { x with blocks := [], last := fun _ => none }
theorem LS.forgot (h : LS w W g d c mb v x s t os ks) : LogSit w (forgotW W g) g d (forgotL x) s t ks := by
  have hlt := h.log.lt g (.inl rfl)
  have hb : (((W.setCell ⟨g, 13, none⟩ (.slice none 0 0)).setCell ⟨g, 14, none⟩ (.map (some W.heap.size)))).heap.size = W.heap.size := by simp
  have hrow : (((W.setCell ⟨g, 13, none⟩ (.slice none 0 0)).setCell ⟨g, 14, none⟩ (.map (some W.heap.size)))).heap[g]? = some (.cells (lgRow g d c W.heap.size (.slice none 0 0) (forgotL x)) 86) := by
    have h1 := Joins.block_setCell (i := 13) h.log.row (.slice none 0 0)
    exact Joins.block_setCell (i := 14) h1 (.map (some W.heap.size))
  refine h.turn (mb' := W.heap.size) (v' := .slice none 0 0) (T := fun k => k = g) ?_ (fun k hk => .inl hk) ⟨?_, ?_, ?_⟩ fun k hk => ?_
  · exact ((Fr.setCell W g 13 _).trans (Fr.setCell _ g 14 _) fun _ _ q => q).trans (Fr.alloc (fun _ => False) _ _) fun _ _ q => q.elim
  · exact (heap_alloc_old _ (.map #[] 0) _ (Nat.lt_of_lt_of_eq hlt hb.symm)).trans hrow
  · have h1 := MapIs.made (P := Try.prog) (k := 3) ((W.setCell ⟨g, 13, none⟩ (.slice none 0 0)).setCell ⟨g, 14, none⟩ (.map (some W.heap.size)))
    rw [hb] at h1
    exact h1
  · exact H.OwnZ.nil _ _
  · rcases hk with rfl | rfl | hk
    · exact .inl (.inl rfl)
    · exact .inr (Nat.le_refl _)
    · cases hk
theorem LS.forget (h : LS w W g d c mb v x s t os ks) : Calls Try.prog 39 #[.pointer (some ⟨g, 13, none⟩)] W fun e W' => e = .returned (.tuple #[]) ∧ LogSit w W' g d (forgotL x) s t ks :=
  (forget_raw h.log.row rfl).mono fun _ _ ⟨h1, h2⟩ => ⟨h1, h2 ▸ h.forgot⟩
end Go.Proofs.Ytglcliokhlafoaa
