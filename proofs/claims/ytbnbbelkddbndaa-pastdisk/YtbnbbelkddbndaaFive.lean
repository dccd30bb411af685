/- The chapter's five ops: in memory, and what After, Block and Pending make of them; no condition. -/
import Derived.Test.YtbnbbelkddbndaaLetter
namespace Go.Proofs.Ytbnbbelkddbndaa
open Go.RowKit Go.Maps
def partsFrom : Nat → List (Array Value) → List (Nat × Value)
  | _, [] => []
  | k, c :: t => (k, .agg c) :: partsFrom (k + 1) t
theorem fill_seq (n : Nat) : ∀ (cs : List (Array Value)) (k : Nat) (z : Array Value), (∀ c ∈ cs, c.size = n) → z.size = (k + cs.length) * n → Instr.fill (fun i => some (i * n, n)) z (partsFrom k cs) = some (z.toList.take (k * n) ++ cs.flatMap (·.toList)).toArray
  | [], k, z, _, hz => by
    unfold partsFrom Instr.fill
    simp only [List.length_nil, Nat.add_zero] at hz
    rw [List.flatMap_nil, List.append_nil, List.take_of_length_le (by rw [Array.length_toList, hz]; omega)]
  | c :: t, k, z, hc, hz => by
    have h0 : c.size = n := hc c (by simp)
    have hle : k * n + n ≤ z.size := by
      rw [hz, List.length_cons, show (k + (t.length + 1)) = (k + 1) + t.length by omega, Nat.add_mul (k + 1), Nat.succ_mul]
      omega
    unfold partsFrom Instr.fill
    simp only
    rw [if_neg (by simp [Value.cells, h0]; omega)]
    simp only [Value.cells]
    rw [fold_over (k * n) c z (by omega)]
    have hs : (z.toList.take (k * n) ++ (c.toList ++ z.toList.drop (k * n + c.size))).toArray.size = z.size := by
      rw [List.size_toArray, List.length_append, List.length_append, List.length_take, List.length_drop, Array.length_toList, Array.length_toList]
      omega
    rw [fill_seq n t (k + 1) _ (fun d hd => hc d (by simp [hd])) (by rw [hs, hz, List.length_cons]; congr 1; omega)]
    congr 2
    rw [List.toList_toArray]
    have hl : (z.toList.take (k * n) ++ c.toList).length = (k + 1) * n := by
      rw [List.length_append, List.length_take, Array.length_toList, Array.length_toList, Nat.succ_mul]
      omega
    rw [← List.append_assoc, ← hl, List.take_left, List.flatMap_cons, List.append_assoc]
theorem build5 (rs : List Rec) (h5 : rs.length = 5) (u : World) : (Instr.buildSlice 25 5 (partsFrom 0 (rs.map fun r => (recCells r).toArray)).toArray).run Try.prog u = .ok (.slice (some ⟨u.heap.size, 0, none⟩) 5 5) (u.alloc (.cells (opCells rs).toArray 42)) := by
  refine run_buildSlice_gen u 25 42 5 1026 _ _ _ Try.underlying25 (Try.sizeOf42 u) (by omega) (by omega) (zero108 u) ?_
  rw [List.toList_toArray, fill_seq 1026 _ 0 _ (fun c hc => ?_) (by rw [Array.size_map, Array.size_range, List.length_map, h5])]
  · rw [Nat.zero_mul, List.take_zero, List.nil_append]
    congr 2
    unfold opCells
    rw [List.flatMap_map]
  · obtain ⟨r, _, rfl⟩ := List.mem_map.1 hc
    exact rec_size r
theorem recs_row {w : World} {g : Nat} {rs : List Rec} {t : TypeId} (h : w.heap[g]? = some (.cells (opCells rs).toArray t)) : RecsAt w g 0 rs := fun k r hr => by
  have key : ∀ j, j < 1026 → w.cell? ⟨g, 0 + k * 1026 + j, none⟩ = (recCells r)[j]? := fun j hj => by
    rw [cell_of_row w g _ _ t _ h, List.getElem?_toArray, Nat.zero_add, opCells_get rs k j r hr hj]
  refine ⟨(key 0 (by omega)).trans rfl, (key 1 (by omega)).trans rfl, fun j v hv => ?_⟩
  have hj : j < 1024 := by have := (List.getElem?_eq_some_iff.1 hv).1; rwa [blk_list_len] at this
  have := key (j + 2) (by omega)
  rw [show 0 + k * 1026 + 2 + j = 0 + k * 1026 + (j + 2) by omega, this]
  rw [show (recCells r)[j + 2]? = (blk r.dat).toList[j]? by simp only [recCells, List.getElem?_cons_succ]]
  exact hv
theorem ops_row {w : World} {g : Nat} {rs : List Rec} {t : TypeId} (h : w.heap[g]? = some (.cells (opCells rs).toArray t)) : OpsAt w (some ⟨g, 0, none⟩) rs := fun _ => ⟨g, 0, rfl, (Array.getElem?_eq_some_iff.1 h).1, recs_row h⟩
theorem cels_row {w : World} {g : Nat} {l : List Cel} {t : TypeId} (h : w.heap[g]? = some (.cells (celCells l).toArray t)) : CelsAt w g 0 l := fun k c hc => by
  have key : ∀ j, j < 1025 → w.cell? ⟨g, 0 + k * 1025 + j, none⟩ = (celRow c)[j]? := fun j hj => by
    have hin : k * 1025 + j < (celCells l).length := by
      have := (List.getElem?_eq_some_iff.1 hc).1
      rw [celCells_len]
      simp only [Nat.mul_comm _ 1025] at *
      omega
    rw [cell_of_row w g _ _ t _ h, List.getElem?_toArray, Nat.zero_add]
    have gen : ∀ (l : List Cel) (k : Nat), l[k]? = some c → (celCells l)[k * 1025 + j]? = (celRow c)[j]? := by
      intro l
      induction l with
      | nil => intro k hk; simp at hk
      | cons x t ih =>
        intro k hk
        show (celRow x ++ celCells t)[k * 1025 + j]? = _
        cases k with
        | zero =>
          have e : x = c := by simpa using hk
          subst e
          rw [Nat.zero_mul, Nat.zero_add, List.getElem?_append_left (by rw [celRow_len]; exact hj)]
        | succ k =>
          rw [List.getElem?_append_right (by rw [celRow_len, Nat.succ_mul]; omega), celRow_len, show (k + 1) * 1025 + j - 1025 = k * 1025 + j by rw [Nat.succ_mul]; omega]
          exact ih k (by simpa using hk)
    exact gen l k hc
  refine ⟨(key 0 (by omega)).trans rfl, fun j v hv => ?_⟩
  have hj : j < 1024 := by have := (List.getElem?_eq_some_iff.1 hv).1; rwa [blk_list_len] at this
  rw [show 0 + k * 1025 + 1 + j = 0 + k * 1025 + (j + 1) by omega, key (j + 1) (by omega)]
  unfold celRow
  rw [List.getElem?_cons_succ]
  exact hv
theorem img_row {w : World} {g : Nat} {l : List Cel} {t : TypeId} (h : w.heap[g]? = some (.cells (celCells l).toArray t)) : ImgAt w (some ⟨g, 0, none⟩) l := fun _ => ⟨g, 0, rfl, (Array.getElem?_eq_some_iff.1 h).1, cels_row h⟩
theorem img_unique {n : Int} {c : Con} {l l' : List Cel} (h : IsImg n c l) (hr : Rise (-1) l') (hs : Sound l') (ha : ∀ k, atL l' k = (c k).getD nought) : l = l' :=
  rise_ext h.rise hr h.sound hs fun k => (h.at_ k).trans (ha k).symm
section
variable (A B C : Nat → Int)
/-- The chapter's ops. -/
def fiveR : List Rec := [⟨1, 1, A⟩, ⟨2, 0, nought⟩, ⟨1, 1, B⟩, ⟨1, 2, C⟩, ⟨1, 1, A⟩]
end
variable {A B C : Nat → Int}
theorem five_sure : sureN (fiveR A B C) = 2 := rfl
theorem five_take : (fiveR A B C).take 5 = fiveR A B C := rfl
theorem five_may {n : Int} (h : n = 4) (k : Int) (hk : 0 ≤ k ∧ k ≤ 5) : pmayB n [] (fiveR A B C) k = true := by
  subst h
  unfold pmayB mayB bndB risesB
  simp [fiveR, opOk]
  omega
theorem five_can (hA : Can A) (hB : Can B) (hC : Can C) : ∀ r ∈ fiveR A B C, Can r.dat := fun r hr => by
  simp only [fiveR, List.mem_cons, List.not_mem_nil, or_false] at hr
  rcases hr with rfl | rfl | rfl | rfl | rfl
  · exact hA
  · exact can_nought
  · exact hB
  · exact hC
  · exact hA
theorem five_made : madeL [] (fiveR A B C) = [(1, A)] := rfl
theorem five_made1 : madeL [true] (fiveR A B C) = [(1, A), (1, B)] := rfl
theorem five_made2 : madeL [false, true] (fiveR A B C) = [(1, A), (2, C)] := rfl
theorem five_pend : pendL (fiveR A B C) = [2, 3, 4] := rfl
theorem five_block (hA : Can A) (hB : Can B) (hAB : A ≠ B) : blockL [] (fiveR A B C) 1 = [A, B] := by
  have hl : lastB 1 nought ([] ++ madeL [] (fiveR A B C)) = A := by rw [five_made]; rfl
  have h1 : sameB A B = false := by
    cases q : sameB A B
    · rfl
    · exact absurd ((hA.same hB).1 q) hAB
  unfold blockL
  rw [hl, five_pend]
  have s2 : stepB (fiveR A B C) 1 [A] 2 = [A, B] := by
    have e : (fiveR A B C)[(2 : Int).toNat]? = some ⟨1, 1, B⟩ := rfl
    unfold stepB
    rw [e]
    simp only [if_true]
    unfold tellL inB
    simp [h1]
  have s3 : stepB (fiveR A B C) 1 [A, B] 3 = [A, B] := rfl
  have s4 : stepB (fiveR A B C) 1 [A, B] 4 = [A, B] := by
    have e : (fiveR A B C)[(4 : Int).toNat]? = some ⟨1, 1, A⟩ := rfl
    unfold stepB
    rw [e]
    simp only [if_true]
    unfold tellL inB
    simp [sameB_self]
  simp only [List.foldl_cons, List.foldl_nil, s2, s3, s4]
theorem sound1 {k : Int} {X : Nat → Int} (h : Can X) (hn : X ≠ nought) : Sound [(k, X)] := sound_one h hn
theorem five_img1 {n : Int} {l : List Cel} (hA : Can A) (hB : Can B) (hnB : B ≠ nought) (h : IsImg n (afterC [] ((fiveR A B C).take 5) [true]) l) : l = [(1, B)] := by
  refine img_unique h ⟨by omega, trivial⟩ (sound_one hB hnB) fun k => ?_
  unfold afterC
  rw [five_take, List.nil_append, five_made1, lastB_hold k _ _ (by intro x hx; simp at hx; rcases hx with rfl | rfl; exact hA; exact hB)]
  show (if (1 : Int) = k then B else nought) = if (1 : Int) = k then B else if (1 : Int) = k then A else nought
  split <;> rfl
end Go.Proofs.Ytbnbbelkddbndaa
