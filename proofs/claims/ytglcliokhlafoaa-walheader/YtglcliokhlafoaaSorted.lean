/- Numbers sorted in memory; the blocks that are held, as a rising list; no condition but the list's length. -/
import Derived.Test.YtglcliokhlafoaaSits
import Derived.Test.YtglcliokhlafoaaShelf
import Derived.Lib.SortBridge
namespace Go.Proofs.Ytglcliokhlafoaa
open Go.RowKit Go.Sort
variable {w : World} {L : Loc} {s : St}

theorem heap_setCellsZ (b : Nat) : ∀ (vs : List Value) (o : Nat) (w : World) (k : Nat), k ≠ b → (w.setCells b o vs).heap[k]? = w.heap[k]?
  | [], _, _, _, _ => rfl
  | v :: r, o, w, k, h => (heap_setCellsZ b r (o + 1) _ k h).trans (Below.heap_setCell w _ v k h)
theorem size_setCellsZ (b : Nat) : ∀ (vs : List Value) (o : Nat) (w : World), (w.setCells b o vs).heap.size = w.heap.size
  | [], _, _ => rfl
  | v :: r, o, w => (size_setCellsZ b r (o + 1) _).trans (by simp)
theorem rest_setCellsZ (b : Nat) : ∀ (vs : List Value) (o : Nat) (w : World), (w.setCells b o vs).os = w.os ∧ (w.setCells b o vs).tape = w.tape ∧ (w.setCells b o vs).output = w.output
  | [], _, _ => ⟨rfl, rfl, rfl⟩
  | v :: r, o, w => rest_setCellsZ b r (o + 1) (w.setCell ⟨b, o, none⟩ v)
def sortL (zs : List Int) : List Int := zs.mergeSort fun x y => decide (x ≤ y)
theorem sort_ints {g cap : Nat} (zs : List Int) (hc : ∀ j, j < zs.length → w.cell? ⟨g, 0 + j, none⟩ = some (.int .i64 (zs.getD j 0))) (hf : ∀ j, j < zs.length → w.frozen? ⟨g, 0 + j, none⟩ = false) (hg : g < w.heap.size) (hn : zs.length < 4611686018427387904) :
    Calls Try.prog 47 #[.slice (some ⟨g, 0, none⟩) zs.length cap] w fun e w' => e = .returned (.tuple #[]) ∧ (∀ j, j < zs.length → w'.cell? ⟨g, j, none⟩ = some (.int .i64 ((sortL zs).getD j 0))) ∧ Fr (fun i => i = g) w w' := by
  have hH : Holds (Value.int .i64) w g 0 zs.toArray := by
    have := Lib.holds_of_ints (n := zs.length) (Nat.le_refl _) hc hf
    rwa [List.take_length] at this
  refine (Try.slices_Sort_int g 0 cap zs w hH hg hn).mono ?_
  rintro e w' ⟨rfl, q, os, hw⟩
  have hl : (sortL zs).length = zs.length := (List.mergeSort_perm _ _).length_eq
  rw [Lib.sorted_world _ w g 0 q _ _ os hH (by simp)] at hw
  refine ⟨rfl, fun j hj => ?_, ?_⟩
  · have h1 := Lib.cells_sorted_ints (W := w) (b := g) (off := 0) (q := q) (os := os) (zs := zs) (ys := sortL zs) (n := zs.length) (Nat.le_refl _) hl hc j (by rw [List.drop_length, List.append_nil, hl]; exact hj)
    rw [List.drop_length, List.append_nil, Nat.zero_add] at h1
    rw [hw]
    exact h1
  · rw [hw]
    have hr := rest_setCellsZ g ((sortL zs).map (Value.int .i64)) 0 (w.drewN q)
    have hs := size_setCellsZ g ((sortL zs).map (Value.int .i64)) 0 (w.drewN q)
    have hs' : ((w.drewN q).setCells g 0 ((sortL zs).map (Value.int .i64))).heap.size = w.heap.size := hs.trans (by simp)
    refine ⟨hr.1.trans rfl, hr.2.1.trans rfl, hr.2.2.trans rfl, by rw [size_grow]; show w.heap.size ≤ ((w.drewN q).setCells g 0 ((sortL zs).map (Value.int .i64))).heap.size + _; omega, fun k hk hn => ?_⟩
    rw [heap_grow_old _ _ (by show k < ((w.drewN q).setCells g 0 ((sortL zs).map (Value.int .i64))).heap.size; omega)]
    exact (heap_setCellsZ g _ 0 _ k hn).trans (by simp)

/-- The cells of a block with its number. -/
def celRow (c : Cel) : List Value := .int .i64 c.1 :: (blk c.2).toList
def celCells (l : List Cel) : List Value := l.flatMap celRow
theorem celRow_len (c : Cel) : (celRow c).length = 1025 := by simp [celRow, blk_size]
theorem celCells_len : ∀ l : List Cel, (celCells l).length = l.length * 1025
  | [] => rfl
  | r :: t => by
    have ih := celCells_len t
    have h1 := celRow_len r
    show (celRow r ++ celCells t).length = _
    rw [List.length_append, ih, h1, List.length_cons]
    omega
theorem celCells_append (a b : List Cel) : celCells (a ++ b) = celCells a ++ celCells b := by simp [celCells]
theorem celCells_one (c : Cel) : celCells [c] = celRow c := by simp [celCells]
theorem celRow_one (c : Cel) : ∀ v ∈ celRow c, v.oneCell' = true := by
  intro v hv
  simp only [celRow, List.mem_cons] at hv
  rcases hv with rfl | h
  · rfl
  · have := blk_one c.2
    rw [Array.all_eq_true_iff_forall_mem] at this
    exact this v (by simpa using h)

/-- Numbers with what is held there. -/
def withHeld (s : St) (l : List Int) : List Cel := l.map fun x => (x, (s.held x).getD nought)
theorem rise_of (s : St) : ∀ (l : List Int) (m : Int), (∀ x ∈ l, m < x) → l.Pairwise (fun a b => a < b) → Rise m (withHeld s l)
  | [], _, _, _ => trivial
  | x :: t, m, h, hp => by
    have h2 := List.pairwise_cons.1 hp
    exact ⟨h x (by simp), rise_of s t x h2.1 h2.2⟩
theorem atL_in (s : St) : ∀ (l : List Int) (k : Int), (k ∈ l → atL (withHeld s l) k = (s.held k).getD nought) ∧ (k ∉ l → atL (withHeld s l) k = nought)
  | [], k => ⟨fun h => by simp at h, fun _ => rfl⟩
  | x :: t, k => by
    have ih := atL_in s t k
    show (k ∈ x :: t → (if x = k then _ else atL (withHeld s t) k) = _) ∧ (k ∉ x :: t → (if x = k then _ else atL (withHeld s t) k) = _)
    by_cases e : x = k
    · subst e
      exact ⟨fun _ => by rw [if_pos rfl], fun h => absurd (List.mem_cons_self) h⟩
    · rw [if_neg e]
      refine ⟨fun h => ih.1 ?_, fun h => ih.2 fun q => h (List.mem_cons_of_mem _ q)⟩
      rcases List.mem_cons.1 h with q | q
      · exact absurd q.symm e
      · exact q
/-- The blocks that are held, as a list: it rises, none of them is blank. -/
structure IsImage (s : St) (l : List Cel) : Prop where
  rise : Rise (-1) l
  sound : Sound l
  top : ∀ c ∈ l, c.1 < s.n
  at_ : ∀ k, atL l k = (s.held k).getD nought
theorem image_of (h : Ok s) (zs : List Int) (hn : zs.Nodup) (hm : ∀ x, x ∈ zs ↔ (s.held x).isSome = true) : IsImage s (withHeld s (sortL zs)) := by
  have hp : (sortL zs).Perm zs := List.mergeSort_perm _ _
  have hm' : ∀ x, x ∈ sortL zs ↔ (s.held x).isSome = true := fun x => hp.mem_iff.trans (hm x)
  have hb : ∀ x ∈ sortL zs, ∃ f, s.held x = some f ∧ (0 ≤ x ∧ x < s.n) ∧ Can f ∧ f ≠ nought := fun x hx => by
    obtain ⟨f, hf⟩ := Option.isSome_iff_exists.1 ((hm' x).1 hx)
    exact ⟨f, hf, h.held x f hf⟩
  refine ⟨rise_of s _ _ (fun x hx => by obtain ⟨f, _, h1, _⟩ := hb x hx; omega) ?_, fun c hc => ?_, fun c hc => ?_, fun k => ?_⟩
  · have h1 : (sortL zs).Pairwise (fun a b => decide (a ≤ b) = true) := List.pairwise_mergeSort (fun a b c h1 h2 => by simp at *; omega) (fun a b => by simp; omega) zs
    have h2 : (sortL zs).Nodup := hp.nodup_iff.2 hn
    exact (h1.and h2).imp fun {a b} q => by
      have q1 : a ≤ b := by simpa using q.1
      have q2 : a ≠ b := q.2
      omega
  · obtain ⟨x, hx, rfl⟩ := List.mem_map.1 hc
    obtain ⟨f, hf, _, h2, h3⟩ := hb x hx
    simp only [hf, Option.getD_some]
    exact ⟨h2, h3⟩
  · obtain ⟨x, hx, rfl⟩ := List.mem_map.1 hc
    obtain ⟨f, hf, h1, _⟩ := hb x hx
    exact h1.2
  · by_cases hk : k ∈ sortL zs
    · exact (atL_in s _ k).1 hk
    · rw [(atL_in s _ k).2 hk]
      cases hh : s.held k with
      | none => rfl
      | some f => exact absurd ((hm' k).2 (by rw [hh]; rfl)) hk
end Go.Proofs.Ytglcliokhlafoaa
