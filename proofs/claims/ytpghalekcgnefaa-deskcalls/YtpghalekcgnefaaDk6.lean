/- Holdings sorted in memory by their numbers: a list that is owned is owned behind it, the same pairs, rising; no condition but the list's length. -/
import Derived.Test.YtpghalekcgnefaaDk2
namespace Go.Proofs.Ytpghalekcgnefaa
open Go.RowKit Go.Maps Go.Sort Go.Shelf Go.Lib
theorem flat2 (d : List (Int × Int)) : (flatK pc2 2 d.toArray).toList = d.flatMap pc2 := by
  apply List.ext_getElem?
  intro t
  by_cases h : t < d.length * 2
  · have h2 : t / 2 < d.length := by omega
    have hg : d[t / 2]? = some d[t / 2] := List.getElem?_eq_getElem h2
    have h3 := fm_get pc2 2 pc2_len d (t / 2) (t % 2) _ hg (by omega)
    rw [show t / 2 * 2 + t % 2 = t by omega] at h3
    rw [h3, Array.getElem?_toList, Array.getElem?_eq_getElem (by simpa using h)]
    have h4 := get_flatK pc2 2 d.toArray t (by simpa using h)
    rw [getElem!_pos _ t (by simpa using h)] at h4
    rw [h4, getElem!_pos d.toArray (t / 2) (by simpa using h2)]
    simp only [List.getElem_toArray]
    rw [getElem!_pos _ _ (by rw [pc2_len]; omega), ← List.getElem?_eq_getElem]
  · rw [List.getElem?_eq_none (by simp; omega), List.getElem?_eq_none (by rw [fml pc2_len]; omega)]
theorem take_put (F cur : Array Value) (h : F.size ≤ cur.size) : (putCells id 0 F cur).toList.take F.size = F.toList := by
  apply List.ext_getElem?
  intro t
  rw [List.getElem?_take]
  by_cases ht : t < F.size
  · rw [if_pos ht, Array.getElem?_toList, Array.getElem?_toList]
    unfold putCells
    simp only [Array.getElem?_mapIdx, Array.getElem?_eq_getElem (show t < cur.size by omega), Option.map_some, Nat.zero_le, true_and, Nat.zero_add, if_pos ht, Nat.sub_zero, id]
    rw [Array.getElem?_eq_getElem ht, getElem!_pos F t ht]
  · rw [if_neg ht, Array.getElem?_toList, Array.getElem?_eq_none (by omega)]
theorem perm_list {d d' : Array (Int × Int)} (h : PermIn 0 d.size d d') : d'.toList.Perm d.toList := by
  obtain ⟨h1, _, h3⟩ := h
  rw [Array.extract_size] at h3
  rw [show d.size = d'.size from h1.symm, Array.extract_size] at h3
  exact h3
theorem sorted_list {d : Array (Int × Int)} {n : Nat} (hn : d.size = n) (h : SortedIn (ltOf fun x y : Int × Int => cmpI x.1 y.1) 0 n d) : d.toList.Pairwise fun p q => ¬ q.1 < p.1 := by
  rw [List.pairwise_iff_getElem]
  intro i j hi hj hij
  have h1 := h i j (Nat.zero_le _) hij (by simpa [hn] using hj)
  rw [lt_cmp, getElem!_pos d j (by simpa using hj), getElem!_pos d i (by simpa using hi)] at h1
  simpa using h1
theorem heap_grow_at (w : World) (os : Array Obj) {k : Nat} (h : k < w.heap.size) : (grow w os).heap[k]? = w.heap[k]? := by
  unfold grow
  rw [Array.getElem?_append_left h]
theorem sortH_ok {W : World} {B g cap : Nat} (zs : List (Int × Int)) (h : W.ownsRow B 63 2 (.slice (some ⟨g, 0, none⟩) zs.length cap) zs.length (zs.flatMap pc2)) (hn : zs.length < 4611686018427387904) :
    Calls Try.prog 29 #[.slice (some ⟨g, 0, none⟩) zs.length cap, .func (.func 30) #[] #[]] W fun e W' => e = .returned (.tuple #[]) ∧ ∃ ys : List (Int × Int), ys.Perm zs ∧ (ys.Pairwise fun p q => ¬ q.1 < p.1) ∧ W'.ownsRow B 63 2 (.slice (some ⟨g, 0, none⟩) zs.length cap) zs.length (ys.flatMap pc2) ∧ Fr (fun i => i = g) W W' := by
  have hgl := h.lt g rfl
  have hH : HoldsK pc2 2 W g 0 zs.toArray := by
    intro j hj
    have hj' : j < (zs.flatMap pc2).length := by rw [fml pc2_len]; simpa using hj
    have hc := World.ownsRow.cellAt h j (by rw [fml pc2_len] at hj'; exact hj')
    refine ⟨?_, ?_⟩
    · rw [Nat.zero_add, hc, ← flat2, Array.getElem?_toList, Array.getElem?_eq_getElem hj, id, getElem!_pos _ j hj]
    · rcases h.2 with ⟨q, _⟩ | ⟨g', cap', cur, q, _, hh, _⟩
      · cases q
      · injection q with q1
        injection q1 with q1
        injection q1 with q1
        rw [← q1] at hh
        exact Joins.unfrozen_of_block hh _
  have hcmp : CmpLays Try.prog 30 #[] pc2 2 (fun x y : Int × Int => cmpI x.1 y.1) g 0 zs.toArray.size W := fun m os dk _ x y => less_ok x y _
  have hs := AnyQ.slices_SortFunc Try.sortH 2 (fun w => Try.isAgg63 w) (fun w => Try.sizeOf63 w) pc2 pc2_len pc2_one (fun x y : Int × Int => cmpI x.1 y.1) swo_cmp 30 #[] g 0 cap zs.toArray W (enters_of Try.func30 (by kernel_rfl) rfl) hcmp hH hgl.2 (by simpa using hn)
  rw [List.size_toArray] at hs
  refine hs.mono ?_
  rintro e w' ⟨rfl, d', n, os, hp, hso, rfl⟩
  have hd : d'.size = zs.length := by simpa using hp.1
  have hP : d'.toList.Perm zs := by
    have := perm_list (d := zs.toArray) (by simpa using hp)
    simpa using this
  refine ⟨rfl, d'.toList, hP, sorted_list hd hso, ?_, ?_⟩
  · rcases h.2 with ⟨q, _⟩ | ⟨g', cap', cur, q, hB, hh, h1, h2, h3, h4⟩
    · cases q
    · injection q with q1 q2 q3
      injection q1 with q1
      injection q1 with q1
      subst q1
      subst q3
      have hle : (flatK pc2 2 d').size ≤ cur.size := by rw [size_flatK, hd, h3]; exact Nat.mul_le_mul_right _ h1
      refine ⟨by rw [fml pc2_len, Array.length_toList, hd], .inr ⟨g, cap, putCells id 0 (flatK pc2 2 d') cur, rfl, hB, ?_, h1, h2, by rw [← h3]; simp [putCells], ?_⟩⟩
      · unfold sortWorldK putRowK putRow
        rw [heap_grow_at _ _ (by simpa [mapBlock, ahead] using hgl.2)]
        simp [mapBlock, Array.getElem?_modify, hh, onCells]
      · have := take_put (flatK pc2 2 d') cur hle
        rw [size_flatK, hd] at this
        rw [this]
        have := flat2 d'.toList
        simpa using this
  · unfold sortWorldK putRowK putRow
    refine ⟨rfl, rfl, rfl, by simp [grow, mapBlock], fun k hk hne => ?_⟩
    rw [heap_grow_at _ _ (by simpa [mapBlock, ahead] using hk)]
    simp [mapBlock, Array.getElem?_modify, Ne.symm hne]
end Go.Proofs.Ytpghalekcgnefaa
