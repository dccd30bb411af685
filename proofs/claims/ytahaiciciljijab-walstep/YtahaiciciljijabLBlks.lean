/- Lists of blocks in memory: read at a place, written at a place; no condition. -/
import Derived.Test.YtahaiciciljijabLPush
namespace Go.Proofs.Ytahaiciciljijab
open Go.RowKit Go.Maps
variable {w W W' : World} {g d : Nat} {v v' : Value} {x : LSt} {t : St} {ks : List (Nat × Obj)} {book : Int → Nat → Int}
/-- The cells of blocks one behind the other. -/
def blkCells (l : List (Nat → Int)) : List Value := l.flatMap fun f => (blk f).toList
theorem blkCells_len : ∀ l : List (Nat → Int), (blkCells l).length = l.length * 1024
  | [] => rfl
  | f :: t => by
    have ih := blkCells_len t
    have h1 := blk_list_len f
    show ((blk f).toList ++ blkCells t).length = _
    rw [List.length_append, ih, h1, List.length_cons]
    omega
theorem blkCells_append (a b : List (Nat → Int)) : blkCells (a ++ b) = blkCells a ++ blkCells b := by simp [blkCells]
theorem blkCells_one (f : Nat → Int) : blkCells [f] = (blk f).toList := by simp [blkCells]
theorem blkCells_take : ∀ (l : List (Nat → Int)) (k : Nat), (blkCells l).take (k * 1024) = blkCells (l.take k)
  | [], k => by simp [blkCells]
  | f :: t, 0 => by simp [blkCells]
  | f :: t, k + 1 => by
    have ih := blkCells_take t k
    have h1 := blk_list_len f
    show ((blk f).toList ++ blkCells t).take ((k + 1) * 1024) = (blk f).toList ++ blkCells (t.take k)
    rw [List.take_append, h1, List.take_of_length_le (by rw [h1]; omega), show (k + 1) * 1024 - 1024 = k * 1024 by omega, ih]
theorem blkCells_drop : ∀ (l : List (Nat → Int)) (k : Nat), (blkCells l).drop (k * 1024) = blkCells (l.drop k)
  | [], k => by simp [blkCells]
  | f :: t, 0 => by simp
  | f :: t, k + 1 => by
    have ih := blkCells_drop t k
    have h1 := blk_list_len f
    show ((blk f).toList ++ blkCells t).drop ((k + 1) * 1024) = blkCells (t.drop k)
    rw [List.drop_append, h1, List.drop_of_length_le (by rw [h1]; omega), show (k + 1) * 1024 - 1024 = k * 1024 by omega, ih]
    rfl
theorem blkCells_split (l : List (Nat → Int)) (k : Nat) (f : Nat → Int) (h : l[k]? = some f) : blkCells l = blkCells (l.take k) ++ ((blk f).toList ++ blkCells (l.drop (k + 1))) := by
  obtain ⟨hk, rfl⟩ := List.getElem?_eq_some_iff.1 h
  have e : l = l.take k ++ l[k] :: l.drop (k + 1) := by rw [← List.drop_eq_getElem_cons hk, List.take_append_drop]
  conv => lhs; rw [e]
  rw [blkCells_append]
  rfl
theorem set_split (l : List (Nat → Int)) (k : Nat) (f : Nat → Int) (hk : k < l.length) : blkCells (l.set k f) = blkCells (l.take k) ++ ((blk f).toList ++ blkCells (l.drop (k + 1))) := by
  rw [blkCells_split (l.set k f) k f (by rw [List.getElem?_set_self hk]), List.take_set_of_le (Nat.le_refl _), List.drop_set_of_lt (by omega)]
/-- Where a list of blocks lies, and that each lies there. -/
theorem blks_at {B : Nat} {l : List (Nat → Int)} (h : W.ownsRow B 46 1024 v l.length (blkCells l)) (h0 : 0 < l.length) : ∃ q c, v = .slice (some ⟨q, 0, none⟩) l.length c ∧ v.ownBlock = some q ∧ B ≤ q ∧ q < W.heap.size ∧ l.length ≤ c ∧ ∀ k f, l[k]? = some f → BlkAt W q (k * 1024) f := by
  rcases h.2 with ⟨_, h2⟩ | ⟨q, cap, cur, rfl, hB, hg, hc, hm, hs, ht⟩
  · omega
  · refine ⟨q, cap, rfl, rfl, hB, (Array.getElem?_eq_some_iff.1 hg).1, hc, fun k f hf j u hu => ?_⟩
    have hk := (List.getElem?_eq_some_iff.1 hf).1
    have hj : j < 1024 := by have := (List.getElem?_eq_some_iff.1 hu).1; rwa [blk_list_len] at this
    have hin : k * 1024 + j < l.length * 1024 := by omega
    rw [cell_of_row W q _ cur 46 _ hg, ← Array.getElem?_toList, ← List.getElem?_take_of_lt hin, ht, blkCells_split l k f hf]
    have hl : (blkCells (l.take k)).length = k * 1024 := by rw [blkCells_len, List.length_take]; omega
    rw [List.getElem?_append_right (by omega), hl, show k * 1024 + j - k * 1024 = j by omega, List.getElem?_append_left (by rw [blk_list_len]; exact hj)]
    exact hu
/-- A block of a list is written. -/
theorem blks_set {B q k : Nat} {l : List (Nat → Int)} (h : W.ownsRow B 46 1024 v l.length (blkCells l)) (hq : v.ownBlock = some q) (hk : k < l.length) (f : Nat → Int) :
    W.there q (k * 1024) 1024 ∧ (W.setCells q (k * 1024) (blk f).toList).ownsRow B 46 1024 v l.length (blkCells (l.set k f)) := by
  rcases h.2 with ⟨_, h2⟩ | ⟨q', cap, cur, rfl, hB, hg, hc, hm, hs, ht⟩
  · omega
  · obtain rfl : q' = q := by injection hq
    have e1 : cur.toList = blkCells (l.take k) ++ ((blk l[k]).toList ++ (blkCells (l.drop (k + 1)) ++ cur.toList.drop (l.length * 1024))) := by
      rw [← List.append_assoc (blk l[k]).toList, ← List.append_assoc, ← blkCells_split l k l[k] (List.getElem?_eq_getElem hk), ← ht, List.take_append_drop]
    have hl : (blkCells (l.take k)).length = k * 1024 := by rw [blkCells_len, List.length_take]; omega
    refine ⟨fun j hj => ⟨?_, ?_⟩, ?_⟩
    · rw [cell_of_row W q' _ cur 46 _ hg, Array.getElem?_eq_getElem (by rw [hs]; omega)]
      rfl
    · exact Joins.unfrozen_of_block hg _
    · have hg2 : W.heap[q']? = some (.cells (blkCells (l.take k) ++ ((blk l[k]).toList ++ (blkCells (l.drop (k + 1)) ++ cur.toList.drop (l.length * 1024)))).toArray 46) := by
        rw [hg, ← e1]
      have hg3 := block_setCells q' 46 (blkCells (l.drop (k + 1)) ++ cur.toList.drop (l.length * 1024)) (blk f).toList (blk l[k]).toList (blkCells (l.take k)) W (by rw [blk_list_len, blk_list_len]) hg2
      rw [hl] at hg3
      have e2 : blkCells (l.take k) ++ ((blk f).toList ++ (blkCells (l.drop (k + 1)) ++ cur.toList.drop (l.length * 1024))) = blkCells (l.set k f) ++ cur.toList.drop (l.length * 1024) := by
        rw [set_split l k f hk, List.append_assoc, List.append_assoc]
      have hl2 : (blkCells (l.set k f)).length = l.length * 1024 := by rw [blkCells_len, List.length_set]
      rw [e2] at hg3
      refine ⟨hl2, .inr ⟨q', cap, _, rfl, hB, hg3, hc, hm, ?_, ?_⟩⟩
      · have hcl : cur.toList.length = cap * 1024 := (Array.length_toList ..).trans hs
        rw [List.size_toArray, List.length_append, hl2, List.length_drop, hcl]
        omega
      · rw [List.take_append_of_le_length (by omega), List.take_of_length_le (by omega)]
theorem wpList_storeBlk {ops : Array Oper} {rest : List Oper} {o : Oper} {a : Act} {Q : Exit → Act → World → Prop} (hgd : o.guard = none) (y z : Operand) (ho : o.op = .store 46 y z) (q off : Nat)
    (hx : a.eval y = .pointer (some ⟨q, off, none⟩)) (f : Nat → Int) (hy : a.eval z = .agg (blk f)) (h : W.there q off 1024)
    (hK : wpList Try.prog ops Q rest (a.put o.dst undef) (W.setCells q off (blk f).toList)) : wpList Try.prog ops Q (o :: rest) a W :=
  wpList_store_mid hgd 46 y z ho q off (blk f) hx hy (by rw [blk_size]; exact h) (by rw [blk_size]; exact size25) (blk_one f) hK
/-- A block of a list beside a log is written: the log stays. -/
theorem LogI.setBlk {B q k : Nat} {l : List (Nat → Int)} {own ks : List (Nat × Obj)} (h : LogI w W g d x t book (own ++ ks)) (hv : Holds B own 46 1024 v l.length (blkCells l)) (hB : w.heap.size ≤ B) (hap : ∀ p ∈ ks, v.ownBlock ≠ some p.1) (hq : v.ownBlock = some q) (hk : k < l.length) (f : Nat → Int) :
    ∃ own', LogI w (W.setCells q (k * 1024) (blk f).toList) g d x t book (own' ++ ks) ∧ Holds B own' 46 1024 v l.length (blkCells (l.set k f)) := by
  obtain ⟨own', h1, h2, _⟩ := h.grown hv hB hap ((Fr.setCells W q (k * 1024) (blk f).toList).mono fun i _ e => by rw [e]; exact hq) (blks_set (h.owns hv) hq hk f).2 fun k hk => .inl hk
  exact ⟨own', h1, h2⟩
end Go.Proofs.Ytahaiciciljijab
