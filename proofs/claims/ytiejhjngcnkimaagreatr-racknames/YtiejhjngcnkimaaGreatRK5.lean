/- Several texts joined, each with its own remark; no condition. -/
import Derived.Test.YtiejhjngcnkimaaGreatRK2
import Derived.BigRegion
import Derived.Test.YtiejhjngcnkimaaGreatRK4
import Derived.Deep.LoopGhost

/- A row of holdings linked both ways and closed to a ring, as plain functions: what leaving it and standing last in it do; no condition. -/
namespace Go.Proofs.YtiejhjngcnkimaaGreatRW
open Go.RowKit
structure Nd where
  pos : Int
  fast : Bool
  pv : Nat
  nx : Nat
  dat : Nat → Int
def setM (M : Nat → Nd) (g : Nat) (n : Nd) : Nat → Nd := fun k => if k = g then n else M k
def Lnk (M : Nat → Nd) (x y : Nat) : Prop := (M x).nx = y ∧ (M y).pv = x
def seg (R : Nat → Nat → Prop) : Nat → List Nat → Nat → Prop
  | a, [], b => R a b
  | a, x :: t, b => R a x ∧ seg R x t b
theorem seg_append (R : Nat → Nat → Prop) (x b : Nat) (q : List Nat) : ∀ (a : Nat) (p : List Nat), seg R a (p ++ x :: q) b ↔ seg R a p x ∧ seg R x q b
  | a, [] => Iff.rfl
  | a, c :: t => by
    show R a c ∧ seg R c (t ++ x :: q) b ↔ (R a c ∧ seg R c t x) ∧ seg R x q b
    rw [seg_append R x b q c t, and_assoc]
theorem seg_mono {R R' : Nat → Nat → Prop} (b : Nat) : ∀ (a : Nat) (l : List Nat), seg R a l b → (∀ x y, x ∈ a :: l → y ∈ l ++ [b] → R x y → R' x y) → seg R' a l b
  | a, [], h, hm => hm a b (by simp) (by simp) h
  | a, c :: t, h, hm => ⟨hm a c (by simp) (by simp) h.1, seg_mono b c t h.2 fun x y hx hy => hm x y (List.mem_cons_of_mem _ hx) (by simp only [List.cons_append]; exact List.mem_cons_of_mem _ hy)⟩
def setPv (M : Nat → Nd) (g z : Nat) : Nat → Nd := setM M g { M g with pv := z }
def setNx (M : Nat → Nd) (g z : Nat) : Nat → Nd := setM M g { M g with nx := z }
theorem setPv_pv (M : Nat → Nd) (g z k : Nat) : (setPv M g z k).pv = if k = g then z else (M k).pv := by unfold setPv setM; split <;> rfl
theorem setPv_nx (M : Nat → Nd) (g z k : Nat) : (setPv M g z k).nx = (M k).nx := by
  unfold setPv setM
  split
  · next h => rw [h]
  · rfl
theorem setPv_rest (M : Nat → Nd) (g z k : Nat) : (setPv M g z k).pos = (M k).pos ∧ (setPv M g z k).fast = (M k).fast ∧ (setPv M g z k).dat = (M k).dat := by
  unfold setPv setM
  split
  · next h => rw [h]; exact ⟨rfl, rfl, rfl⟩
  · exact ⟨rfl, rfl, rfl⟩
theorem setNx_nx (M : Nat → Nd) (g z k : Nat) : (setNx M g z k).nx = if k = g then z else (M k).nx := by unfold setNx setM; split <;> rfl
theorem setNx_pv (M : Nat → Nd) (g z k : Nat) : (setNx M g z k).pv = (M k).pv := by
  unfold setNx setM
  split
  · next h => rw [h]
  · rfl
theorem setNx_rest (M : Nat → Nd) (g z k : Nat) : (setNx M g z k).pos = (M k).pos ∧ (setNx M g z k).fast = (M k).fast ∧ (setNx M g z k).dat = (M k).dat := by
  unfold setNx setM
  split
  · next h => rw [h]; exact ⟨rfl, rfl, rfl⟩
  · exact ⟨rfl, rfl, rfl⟩
def leaveM (M : Nat → Nd) (h : Nat) : Nat → Nd := setPv (setNx M (M h).pv (M h).nx) (M h).nx (M h).pv
theorem leave_nx (M : Nat → Nd) (h k : Nat) : (leaveM M h k).nx = if k = (M h).pv then (M h).nx else (M k).nx := by
  unfold leaveM
  rw [setPv_nx, setNx_nx]
theorem leave_pv (M : Nat → Nd) (h k : Nat) : (leaveM M h k).pv = if k = (M h).nx then (M h).pv else (M k).pv := by
  unfold leaveM
  rw [setPv_pv, setNx_pv]
theorem leave_rest (M : Nat → Nd) (h k : Nat) : (leaveM M h k).pos = (M k).pos ∧ (leaveM M h k).fast = (M k).fast ∧ (leaveM M h k).dat = (M k).dat := by
  unfold leaveM
  obtain ⟨a1, a2, a3⟩ := setPv_rest (setNx M (M h).pv (M h).nx) (M h).nx (M h).pv k
  obtain ⟨b1, b2, b3⟩ := setNx_rest M (M h).pv (M h).nx k
  exact ⟨a1.trans b1, a2.trans b2, a3.trans b3⟩
theorem snoc_cases (p : List Nat) : p = [] ∨ ∃ p0 z, p = p0 ++ [z] := by
  rcases List.eq_nil_or_concat p with h | ⟨a, b, h⟩
  · exact .inl h
  · exact .inr ⟨a, b, by simpa using h⟩
theorem seg_near {M : Nat → Nd} {e h : Nat} {p q : List Nat} (hs : seg (Lnk M) e (p ++ h :: q) e) : (M h).pv ∈ e :: p ∧ (M h).nx ∈ q ++ [e] := by
  obtain ⟨h1, h2⟩ := (seg_append _ _ _ _ _ _).1 hs
  constructor
  · rcases snoc_cases p with rfl | ⟨p0, z, rfl⟩
    · simp [h1.2]
    · have := ((seg_append _ _ _ _ _ _).1 h1).2.2
      simp [this]
  · cases q with
    | nil => simp [h2.1]
    | cons y t => simp [h2.1.1]
theorem leave_seg {M : Nat → Nd} {e h : Nat} {p q : List Nat} (hn : (e :: (p ++ h :: q)).Nodup) (hs : seg (Lnk M) e (p ++ h :: q) e) : seg (Lnk (leaveM M h)) e (p ++ q) e := by
  obtain ⟨h1, h2⟩ := (seg_append _ _ _ _ _ _).1 hs
  have hL : ∀ x y, x ≠ (M h).pv → y ≠ (M h).nx → Lnk M x y → Lnk (leaveM M h) x y := by
    intro x y hx hy hl
    unfold Lnk
    rw [leave_nx, leave_pv, if_neg hx, if_neg hy]
    exact hl
  have hJ : Lnk (leaveM M h) (M h).pv (M h).nx := by
    unfold Lnk
    rw [leave_nx, leave_pv, if_pos rfl, if_pos rfl]
    exact ⟨rfl, rfl⟩
  rcases snoc_cases p with rfl | ⟨p0, z, rfl⟩
  · have hz : (M h).pv = e := h1.2
    cases q with
    | nil =>
      have hy : (M h).nx = e := h2.1
      rw [hz, hy] at hJ
      exact hJ
    | cons y t =>
      have hy : (M h).nx = y := h2.1.1
      rw [hz, hy] at hJ
      refine ⟨hJ, seg_mono e y t h2.2 fun a b ha hb => hL a b ?_ ?_⟩
      · rw [hz]; rintro rfl; simp at hn; simp at ha; rcases ha with rfl | ha
        · exact hn.1.2.1 rfl
        · exact hn.1.2.2 ha
      · rw [hy]; rintro rfl; simp at hn; simp at hb; rcases hb with hb | rfl
        · exact hn.2.2.1 hb
        · exact hn.1.2.1 rfl
  · obtain ⟨h3, h4⟩ := (seg_append _ _ _ _ _ _).1 h1
    have hz : (M h).pv = z := h4.2
    have hne : ∀ a, a ∈ e :: p0 → a ≠ z := by
      rintro a ha rfl
      simp at hn ha
      rcases ha with rfl | ha
      · simp at hn
      · have := hn.2
        rw [List.nodup_append] at this
        exact this.2.2 a ha a (by simp) rfl
    have hyz : ∀ b, b ∈ p0 ++ [z] → b ∉ h :: q := by
      intro b hb hb'
      have := (List.nodup_cons.1 hn).2
      rw [List.nodup_append] at this
      exact this.2.2 b hb b hb' rfl
    have hnq : (e :: (h :: q)).Nodup := by
      rw [List.nodup_cons] at hn ⊢
      refine ⟨fun q' => hn.1 (List.mem_append.2 (.inr q')), (List.nodup_append.1 hn.2).2.1⟩
    rw [List.append_assoc]
    show seg _ e (p0 ++ z :: q) e
    refine (seg_append _ _ _ _ _ _).2 ⟨seg_mono z e p0 h3 fun a b ha hb => hL a b (by rw [hz]; exact hne a ha) ?_, ?_⟩
    · rintro rfl
      cases q with
      | nil =>
        have hy : (M h).nx = e := h2.1
        rw [hy] at hb
        exact (List.nodup_cons.1 hn).1 (List.mem_append.2 (.inl hb))
      | cons y t =>
        have hy : (M h).nx = y := h2.1.1
        rw [hy] at hb
        exact hyz y hb (by simp)
    · cases q with
      | nil =>
        have hy : (M h).nx = e := h2.1
        rw [hz, hy] at hJ
        exact hJ
      | cons y t =>
        have hy : (M h).nx = y := h2.1.1
        rw [hz, hy] at hJ
        refine ⟨hJ, seg_mono e y t h2.2 fun a b ha hb => hL a b ?_ ?_⟩
        · rw [hz]; rintro rfl
          exact hyz a (by simp) (List.mem_cons_of_mem _ ha)
        · rw [hy]; rintro rfl; simp at hnq; simp at hb; rcases hb with hb | rfl
          · exact hnq.2.2.1 hb
          · exact hnq.1.2.1 rfl
def standM (M : Nat → Nd) (h e : Nat) : Nat → Nd := setPv (setNx (setNx (setPv M h (M e).pv) h e) (M e).pv h) e h
theorem stand_nx (M : Nat → Nd) (h e k : Nat) : (standM M h e k).nx = if k = (M e).pv then h else if k = h then e else (M k).nx := by
  unfold standM
  rw [setPv_nx, setNx_nx, setNx_nx, setPv_nx]
theorem stand_pv (M : Nat → Nd) (h e k : Nat) : (standM M h e k).pv = if k = e then h else if k = h then (M e).pv else (M k).pv := by
  unfold standM
  rw [setPv_pv, setNx_pv, setNx_pv, setPv_pv]
theorem stand_rest (M : Nat → Nd) (h e k : Nat) : (standM M h e k).pos = (M k).pos ∧ (standM M h e k).fast = (M k).fast ∧ (standM M h e k).dat = (M k).dat := by
  unfold standM
  obtain ⟨a1, a2, a3⟩ := setPv_rest (setNx (setNx (setPv M h (M e).pv) h e) (M e).pv h) e h k
  obtain ⟨b1, b2, b3⟩ := setNx_rest (setNx (setPv M h (M e).pv) h e) (M e).pv h k
  obtain ⟨c1, c2, c3⟩ := setNx_rest (setPv M h (M e).pv) h e k
  obtain ⟨d1, d2, d3⟩ := setPv_rest M h (M e).pv k
  exact ⟨a1.trans (b1.trans (c1.trans d1)), a2.trans (b2.trans (c2.trans d2)), a3.trans (b3.trans (c3.trans d3))⟩
theorem seg_last {M : Nat → Nd} {e : Nat} {l : List Nat} (hs : seg (Lnk M) e l e) : (M e).pv ∈ e :: l := by
  rcases snoc_cases l with rfl | ⟨p0, z, rfl⟩
  · simp [hs.2]
  · have := ((seg_append _ _ _ _ _ _).1 hs).2.2
    simp [this]
theorem seg_first {M : Nat → Nd} {e : Nat} {l : List Nat} (hs : seg (Lnk M) e l e) : (M e).nx = (l ++ [e]).headD 0 := by
  cases l with
  | nil => exact hs.1
  | cons y t => exact hs.1.1
theorem stand_seg {M : Nat → Nd} {e h : Nat} {l : List Nat} (hn : (h :: e :: l).Nodup) (hs : seg (Lnk M) e l e) : seg (Lnk (standM M h e)) e (l ++ [h]) e := by
  have hhe : h ≠ e := by rintro rfl; simp at hn
  have hlast := seg_last hs
  have hz : h ≠ (M e).pv := by
    intro q
    rw [← q] at hlast
    exact (List.nodup_cons.1 hn).1 hlast
  have hN := fun k => stand_nx M h e k
  have hP := fun k => stand_pv M h e k
  have hfin : seg (Lnk (standM M h e)) h [] e := by
    show Lnk _ h e
    unfold Lnk
    rw [hN, hP, if_neg hz, if_pos rfl, if_pos rfl]
    exact ⟨rfl, rfl⟩
  refine (seg_append _ _ _ _ _ _).2 ⟨?_, hfin⟩
  have hJ : Lnk (standM M h e) (M e).pv h := by
    unfold Lnk
    rw [hN, hP, if_pos rfl, if_neg hhe, if_pos rfl]
    exact ⟨rfl, rfl⟩
  rcases snoc_cases l with rfl | ⟨p0, z, rfl⟩
  · have : (M e).pv = e := hs.2
    rw [this] at hJ
    exact hJ
  · obtain ⟨h3, h4⟩ := (seg_append _ _ _ _ _ _).1 hs
    have hez : (M e).pv = z := h4.2
    rw [hez] at hJ
    refine (seg_append _ _ _ _ _ _).2 ⟨seg_mono z e p0 h3 fun a b ha hb hl => ?_, hJ⟩
    have hae : a ≠ z := by
      rintro rfl
      simp at hn ha
      rcases ha with rfl | ha
      · simp at hn
      · have := hn.2.2
        rw [List.nodup_append] at this
        exact this.2.2 a ha a (by simp) rfl
    have hah : a ≠ h := by
      rintro rfl
      refine (List.nodup_cons.1 hn).1 ?_
      simp at ha ⊢
      rcases ha with rfl | ha
      · exact .inl rfl
      · exact .inr (.inl ha)
    have hbe : b ≠ e := by
      rintro rfl
      exact (List.nodup_cons.1 (List.nodup_cons.1 hn).2).1 hb
    have hbh : b ≠ h := by
      rintro rfl
      exact (List.nodup_cons.1 hn).1 (List.mem_cons_of_mem _ hb)
    unfold Lnk
    rw [hN, hP, if_neg (by rw [hez]; exact hae), if_neg hah, if_neg hbe, if_neg hbh]
    exact hl
end Go.Proofs.YtiejhjngcnkimaaGreatRW
/- A holding in memory: its row of 1028 cells; what a store of one of its fields turns; no condition. -/
namespace Go.Proofs.YtiejhjngcnkimaaGreatRW
open Go.RowKit
def ptr (g : Nat) : Value := .pointer (some ⟨g, 0, none⟩)
def rowV (k : Int) (b : Bool) (p q : Value) (f : Nat → Int) : Array Value := (.int .i64 k :: .bool b :: p :: q :: (blk f).toList).toArray
theorem rowV_size (k : Int) (b : Bool) (p q : Value) (f : Nat → Int) : (rowV k b p q f).size = 1028 := by simp [rowV, blk_size]
theorem rowV_set1 (k : Int) (b c : Bool) (p q : Value) (f : Nat → Int) : (rowV k b p q f).setIfInBounds 1 (.bool c) = rowV k c p q f := by unfold rowV; rw [List.setIfInBounds_toArray]; rfl
theorem rowV_set2 (k : Int) (b : Bool) (p q r : Value) (f : Nat → Int) : (rowV k b p q f).setIfInBounds 2 r = rowV k b r q f := by unfold rowV; rw [List.setIfInBounds_toArray]; rfl
theorem rowV_set3 (k : Int) (b : Bool) (p q r : Value) (f : Nat → Int) : (rowV k b p q f).setIfInBounds 3 r = rowV k b p r f := by unfold rowV; rw [List.setIfInBounds_toArray]; rfl
variable {w : World} {g : Nat} {k : Int} {b : Bool} {p q : Value} {f : Nat → Int}
def RowAt (w : World) (g : Nat) (k : Int) (b : Bool) (p q : Value) (f : Nat → Int) : Prop := w.heap[g]? = some (.cells (rowV k b p q f) 238)
theorem RowAt.c0 (h : RowAt w g k b p q f) : w.cell? ⟨g, 0, none⟩ = some (.int .i64 k) := Joins.cell_of_block h 0
theorem RowAt.c1 (h : RowAt w g k b p q f) : w.cell? ⟨g, 1, none⟩ = some (.bool b) := Joins.cell_of_block h 1
theorem RowAt.c2 (h : RowAt w g k b p q f) : w.cell? ⟨g, 2, none⟩ = some p := Joins.cell_of_block h 2
theorem RowAt.c3 (h : RowAt w g k b p q f) : w.cell? ⟨g, 3, none⟩ = some q := Joins.cell_of_block h 3
theorem RowAt.free (h : RowAt w g k b p q f) (i : Nat) : w.frozen? ⟨g, i, none⟩ = false := Joins.unfrozen_of_block h i
theorem RowAt.bytes (h : RowAt w g k b p q f) : BlkAt w g 4 f := fun j v hv => by
  rw [Joins.cell_of_block h]
  unfold rowV
  generalize (blk f).toList = l at *
  rw [List.getElem?_toArray, show 4 + j = j + 4 by omega]
  exact hv
theorem RowAt.set1 (h : RowAt w g k b p q f) (c : Bool) : RowAt (w.setCell ⟨g, 1, none⟩ (.bool c)) g k c p q f := (Joins.block_setCell h _).trans (by rw [rowV_set1])
theorem RowAt.set2 (h : RowAt w g k b p q f) (r : Value) : RowAt (w.setCell ⟨g, 2, none⟩ r) g k b r q f := (Joins.block_setCell h _).trans (by rw [rowV_set2])
theorem RowAt.set3 (h : RowAt w g k b p q f) (r : Value) : RowAt (w.setCell ⟨g, 3, none⟩ r) g k b p r f := (Joins.block_setCell h _).trans (by rw [rowV_set3])
theorem RowAt.other (h : RowAt w g k b p q f) {j : Nat} (i : Nat) (v : Value) (hne : g ≠ j) : RowAt (w.setCell ⟨j, i, none⟩ v) g k b p q f := (Below.heap_setCell w _ v g hne).trans h
theorem block_setCells (g : Nat) (t : TypeId) (post : List Value) : ∀ (vs mid pre : List Value) (w : World), mid.length = vs.length → w.heap[g]? = some (.cells (pre ++ (mid ++ post)).toArray t) →
    (w.setCells g pre.length vs).heap[g]? = some (.cells (pre ++ (vs ++ post)).toArray t)
  | [], mid, pre, w, hl, h => by
    have : mid = [] := List.eq_nil_of_length_eq_zero hl
    subst this
    exact h
  | v :: r, [], pre, w, hl, h => by simp at hl
  | v :: r, m :: mid, pre, w, hl, h => by
    have h1 := Joins.block_setCell (i := pre.length) h v
    have e : (pre ++ (m :: mid ++ post)).toArray.setIfInBounds pre.length v = ((pre ++ [v]) ++ (mid ++ post)).toArray := by
      rw [List.setIfInBounds_toArray, List.set_append_right _ _ (Nat.le_refl _)]
      simp
    rw [e] at h1
    have h2 := block_setCells g t post r mid (pre ++ [v]) _ (by simpa using hl) h1
    simp only [List.length_append, List.length_cons, List.length_nil] at h2
    show ((w.setCell ⟨g, pre.length, none⟩ v).setCells g (pre.length + 1) r).heap[g]? = _
    rw [h2]
    simp
theorem heap_setCells (b : Nat) : ∀ (vs : List Value) (o : Nat) (w : World) (k : Nat), k ≠ b → (w.setCells b o vs).heap[k]? = w.heap[k]?
  | [], _, _, _, _ => rfl
  | v :: r, o, w, k, h => (heap_setCells b r (o + 1) _ k h).trans (Below.heap_setCell w _ v k h)
theorem size_setCells (b : Nat) : ∀ (vs : List Value) (o : Nat) (w : World), (w.setCells b o vs).heap.size = w.heap.size
  | [], _, _ => rfl
  | v :: r, o, w => (size_setCells b r (o + 1) _).trans (by simp)
theorem rest_setCells (b : Nat) : ∀ (vs : List Value) (o : Nat) (w : World), (w.setCells b o vs).os = w.os ∧ (w.setCells b o vs).tape = w.tape ∧ (w.setCells b o vs).output = w.output
  | [], _, _ => ⟨rfl, rfl, rfl⟩
  | v :: r, o, w => rest_setCells b r (o + 1) (w.setCell ⟨b, o, none⟩ v)
theorem Fr.setCells (w : World) (g o : Nat) (vs : List Value) : Fr (fun k => k = g) w (w.setCells g o vs) :=
  have h := rest_setCells g vs o w
  ⟨h.1, h.2.1, h.2.2, Nat.le_of_eq (size_setCells g vs o w).symm, fun k _ hn => heap_setCells g vs o w k hn⟩
theorem RowAt.setD (h : RowAt w g k b p q f) (f' : Nat → Int) : RowAt (w.setCells g 4 (blk f').toList) g k b p q f' := by
  have hl : (blk f).toList.length = (blk f').toList.length := by rw [blk_list_len, blk_list_len]
  unfold RowAt rowV at *
  generalize (blk f).toList = l at *
  generalize (blk f').toList = l' at *
  have := block_setCells g 238 [] l' l [.int .i64 k, .bool b, p, q] w hl (by simpa using h)
  simpa using this
theorem RowAt.there (h : RowAt w g k b p q f) : w.there g 4 1024 := fun j hj => by
  refine ⟨?_, h.free _⟩
  rw [Joins.cell_of_block h, Array.getElem?_eq_getElem (by rw [rowV_size]; omega)]
  rfl
theorem wpList_storeM {ops : Array Oper} {rest : List Oper} {o : Oper} {a : Act} {Q : Exit → Act → World → Prop} (hgd : o.guard = none) (x y : Operand) (ho : o.op = .store 85 x y)
    (hx : a.eval x = .pointer (some ⟨g, 4, none⟩)) (f' : Nat → Int) (hy : a.eval y = .agg (blk f')) (h : w.there g 4 1024)
    (hK : wpList Tryz.prog ops Q rest (a.put o.dst undef) (w.setCells g 4 (blk f').toList)) : wpList Tryz.prog ops Q (o :: rest) a w :=
  wpList_store_mid hgd 85 x y ho g 4 (blk f') hx hy (by rw [blk_size]; exact h) (by rw [blk_size]; exact size25) (blk_one f') hK
end Go.Proofs.YtiejhjngcnkimaaGreatRW
/- Leaving the row and standing last in it, as the program does; no condition. -/
namespace Go.Proofs.YtiejhjngcnkimaaGreatRW
open Go.RowKit
def Nodes (w : World) (M : Nat → Nd) (S : Nat → Prop) : Prop := ∀ g, S g → RowAt w g (M g).pos (M g).fast (ptr (M g).pv) (ptr (M g).nx) (M g).dat
variable {w : World} {M : Nat → Nd} {S : Nat → Prop}
theorem Nodes.setNx (h : Nodes w M S) {g : Nat} (hg : S g) (z : Nat) : Nodes (w.setCell ⟨g, 3, none⟩ (ptr z)) (setNx M g z) S := fun k hk => by
  unfold Go.Proofs.YtiejhjngcnkimaaGreatRW.setNx setM
  by_cases e : k = g
  · subst e
    rw [if_pos rfl]
    exact (h k hk).set3 (ptr z)
  · rw [if_neg e]
    exact (h k hk).other 3 _ e
theorem Nodes.setPv (h : Nodes w M S) {g : Nat} (hg : S g) (z : Nat) : Nodes (w.setCell ⟨g, 2, none⟩ (ptr z)) (setPv M g z) S := fun k hk => by
  unfold Go.Proofs.YtiejhjngcnkimaaGreatRW.setPv setM
  by_cases e : k = g
  · subst e
    rw [if_pos rfl]
    exact (h k hk).set2 (ptr z)
  · rw [if_neg e]
    exact (h k hk).other 2 _ e
theorem Nodes.kept {w' : World} (h : Nodes w M S) (hb : ∀ g, S g → w'.heap[g]? = w.heap[g]?) : Nodes w' M S := fun g hg => (hb g hg).trans (h g hg)
theorem Nodes.mono {S' : Nat → Prop} (h : Nodes w M S) (hs : ∀ g, S' g → S g) : Nodes w M S' := fun g hg => h g (hs g hg)
set_option maxHeartbeats 1000000 in
theorem leave_of (hN : Nodes w M S) {h : Nat} (hh : S h) (hp : S (M h).pv) (hn : S (M h).nx) :
    Calls Tryz.prog 250 #[ptr h] w fun e w' => e = .returned (.tuple #[]) ∧ Nodes w' (leaveM M h) S ∧ Fr (fun k => k = (M h).pv ∨ k = (M h).nx) w w' := by
  have k2 := (hN h hh).c2
  have k3 := (hN h hh).c3
  have p3 := (hN _ hp).c3
  have fp := (hN _ hp).free 3
  have n2 := (hN _ hn).c2
  have fn := (hN _ hn).free 2
  have N1 : Nodes ((w.setCell ⟨(M h).pv, 3, none⟩ (ptr (M h).nx)).setCell ⟨(M h).nx, 2, none⟩ (ptr (M h).pv)) (leaveM M h) S := (hN.setNx hp _).setPv hn _
  have F1 : Fr (fun k => k = (M h).pv ∨ k = (M h).nx) w ((w.setCell ⟨(M h).pv, 3, none⟩ (ptr (M h).nx)).setCell ⟨(M h).nx, 2, none⟩ (ptr (M h).pv)) := by
    refine ((Fr.setCell w (M h).pv 3 (ptr (M h).nx)).mono (T' := fun k => k = (M h).pv ∨ k = (M h).nx) fun _ _ q => .inl q).trans (Fr.setCell _ (M h).nx 2 (ptr (M h).pv)) fun _ _ q => .inr q
  have HN : Hid (Nodes _ (leaveM M h) S) := N1
  have HF : Hid (Fr _ w _) := F1
  clear N1 F1 hN
  generalize leaveM M h = M' at *
  generalize (M h).pv = P at *
  generalize (M h).nx = X at *
  unfold ptr at *
  go_enter Tryz.func250, Tryz.ntmps250
  go_wp2_with (fail)
  go_region
  go_end0
  exact ⟨rfl, HN.out, HF.out.trans (Fr.drew (T := fun _ => False) _) fun _ _ q => q.elim⟩
set_option maxHeartbeats 1000000 in
theorem stand_of (hN : Nodes w M S) {h e : Nat} {n : Nd} {p q : Value} (hS : ¬ S h) (he : S e) (hz : S (M e).pv) (hh : RowAt w h n.pos n.fast p q n.dat) :
    Calls Tryz.prog 252 #[ptr h, ptr e] w fun x w' => x = .returned (.tuple #[]) ∧ Nodes w' (standM (setM M h n) h e) (fun k => k = h ∨ S k) ∧ Fr (fun k => k = h ∨ k = e ∨ k = (M e).pv) w w' := by
  have hhe : h ≠ e := fun q => hS (q ▸ he)
  have hhz : h ≠ (M e).pv := fun q => hS (q ▸ hz)
  have e2 := (hN e he).c2
  have fe := (hN e he).free 2
  have z3 := (hN _ hz).c3
  have fz := (hN _ hz).free 3
  have h2 := hh.c2
  have h3 := hh.c3
  have f2 := hh.free 2
  have f3 := hh.free 3
  have eM : (setM M h n e) = M e := by unfold setM; rw [if_neg (Ne.symm hhe)]
  have e1 : ∀ k, k ≠ h → setM M h n k = M k := fun k hk => by unfold setM; rw [if_neg hk]
  have N1 : Nodes ((((w.setCell ⟨h, 2, none⟩ (ptr (M e).pv)).setCell ⟨h, 3, none⟩ (ptr e)).setCell ⟨(M e).pv, 3, none⟩ (ptr h)).setCell ⟨e, 2, none⟩ (ptr h)) (standM (setM M h n) h e) (fun k => k = h ∨ S k) := by
    unfold standM
    rw [eM]
    refine Nodes.setPv (Nodes.setNx ?_ (.inr hz) _) (.inr he) _
    rintro k (rfl | hk)
    · have := (hh.set2 (ptr (M e).pv)).set3 (ptr e)
      have e3 : setNx (setPv (setM M k n) k (M e).pv) k e k = { n with pv := (M e).pv, nx := e } := by unfold setNx setPv setM; simp
      rw [e3]
      exact this
    · have hk' : k ≠ h := fun q => hS (q ▸ hk)
      have e3 : setNx (setPv (setM M h n) h (M e).pv) h e k = M k := by unfold setNx setPv setM; simp [hk']
      rw [e3]
      exact ((hN k hk).other 2 _ hk').other 3 _ hk'
  have F1 : Fr (fun k => k = h ∨ k = e ∨ k = (M e).pv) w ((((w.setCell ⟨h, 2, none⟩ (ptr (M e).pv)).setCell ⟨h, 3, none⟩ (ptr e)).setCell ⟨(M e).pv, 3, none⟩ (ptr h)).setCell ⟨e, 2, none⟩ (ptr h)) := by
    have a1 := (Fr.setCell w h 2 (ptr (M e).pv)).mono (T' := fun k => k = h ∨ k = e ∨ k = (M e).pv) fun _ _ q => .inl q
    have a2 := a1.trans (Fr.setCell _ h 3 (ptr e)) fun _ _ q => .inl q
    have a3 := a2.trans (Fr.setCell _ (M e).pv 3 (ptr h)) fun _ _ q => .inr (.inr q)
    exact a3.trans (Fr.setCell _ e 2 (ptr h)) fun _ _ q => .inr (.inl q)
  have HN : Hid (Nodes _ _ _) := N1
  have HF : Hid (Fr _ w _) := F1
  clear N1 F1 hN eM e1 hh
  generalize standM (setM M h n) h e = M' at *
  generalize (M e).pv = Z at *
  unfold ptr at *
  go_enter Tryz.func252, Tryz.ntmps252
  go_wp2
  go_end0
  exact ⟨rfl, HN.out, HF.out⟩
end Go.Proofs.YtiejhjngcnkimaaGreatRW
/- A cache in memory: its row of six cells, its map, its holdings in a ring; what it stands for; no condition. -/
namespace Go.Proofs.YtiejhjngcnkimaaGreatRW
open Go.RowKit Go.Maps
theorem nodup_sub_len {α : Type} [DecidableEq α] : ∀ (l m : List α), l.Nodup → (∀ x ∈ l, x ∈ m) → l.length ≤ m.length
  | [], _, _, _ => by simp
  | a :: t, m, hn, hs => by
    have h1 := nodup_sub_len t (m.erase a) (List.nodup_cons.1 hn).2 fun x hx => by
      have hne : x ≠ a := fun q => (List.nodup_cons.1 hn).1 (q ▸ hx)
      exact (List.mem_erase_of_ne hne).2 (hs x (List.mem_cons_of_mem _ hx))
    have h2 := hs a (List.mem_cons_self ..)
    rw [List.length_erase_of_mem h2] at h1
    have := List.length_pos_of_mem h2
    rw [List.length_cons]
    omega
theorem nodup_map_inj {α β : Type} {f : α → β} : ∀ (l : List α), (l.map f).Nodup → ∀ x y, x ∈ l → y ∈ l → f x = f y → x = y
  | [], _, x, _, hx, _, _ => by simp at hx
  | a :: t, hn, x, y, hx, hy, e => by
    rw [List.map_cons, List.nodup_cons] at hn
    rcases List.mem_cons.1 hx with hx1 | hx1
    · rcases List.mem_cons.1 hy with hy1 | hy1
      · exact hx1.trans hy1.symm
      · exact absurd (List.mem_map.2 ⟨y, hy1, by rw [← e, hx1]⟩) hn.1
    · rcases List.mem_cons.1 hy with hy1 | hy1
      · exact absurd (List.mem_map.2 ⟨x, hx1, by rw [e, hy1]⟩) hn.1
      · exact nodup_map_inj t hn.2 x y hx1 hy1 e
structure Hld where
  pos : Int
  fast : Bool
  dat : Nat → Int
def hld (M : Nat → Nd) (g : Nat) : Hld := ⟨(M g).pos, (M g).fast, (M g).dat⟩
structure KLoc where
  c : Nat
  d : Nat
  e : Nat
  mb : Nat
  ns : List Nat
  M : Nat → Nd
def KLoc.has (K : KLoc) (k : Nat) : Prop := k = K.c ∨ k = K.mb ∨ k = K.e ∨ k ∈ K.ns
structure CSt where
  size : Int
  row : List Hld
def fastN (r : List Hld) : Nat := r.countP (·.fast)
def posOf (M : Nat → Nd) (g : Nat) : Int := (M g).pos
def mapV (M : Nat → Nd) (ns : List Nat) : Int → Option Value := fun k => (ns.find? fun g => posOf M g == k).map ptr
theorem mapV_none {M : Nat → Nd} {ns : List Nat} {k : Int} (h : ∀ g ∈ ns, posOf M g ≠ k) : mapV M ns k = none := by
  unfold mapV
  rw [List.find?_eq_none.2 (fun x hx => by simpa using h x hx)]
  rfl
theorem mapV_some {M : Nat → Nd} {ns : List Nat} (hn : (ns.map (posOf M)).Nodup) {g : Nat} (hg : g ∈ ns) : mapV M ns (posOf M g) = some (ptr g) := by
  unfold mapV
  cases hf : ns.find? fun x => posOf M x == posOf M g with
  | none => exact absurd (List.find?_eq_none.1 hf g hg) (by simp)
  | some x =>
    have h1 := List.find?_some hf
    have h2 := List.mem_of_find?_eq_some hf
    have h3 : posOf M x = posOf M g := by simpa using h1
    have h4 : x = g := nodup_map_inj _ hn x g h2 hg h3
    rw [h4]
    rfl
theorem mapV_ext {M M' : Nat → Nd} {ns ns' : List Nat} (h1 : (ns.map (posOf M)).Nodup) (h2 : (ns'.map (posOf M')).Nodup) (hm : ∀ g, g ∈ ns ↔ g ∈ ns') (hp : ∀ g ∈ ns, posOf M' g = posOf M g) : mapV M ns = mapV M' ns' := by
  funext k
  by_cases hk : ∃ g ∈ ns, posOf M g = k
  · obtain ⟨g, hg, rfl⟩ := hk
    rw [mapV_some h1 hg, ← hp g hg, mapV_some h2 ((hm g).1 hg)]
  · rw [mapV_none fun g hg q => hk ⟨g, hg, q⟩, mapV_none fun g hg q => hk ⟨g, (hm g).2 hg, by rw [← hp g ((hm g).2 hg)]; exact q⟩]
theorem mapV_add {M M' : Nat → Nd} {ns : List Nat} {g : Nat} (h2 : ((ns ++ [g]).map (posOf M')).Nodup) (hp : ∀ x ∈ ns, posOf M' x = posOf M x) :
    (fun y => if y = posOf M' g then some (ptr g) else mapV M ns y) = mapV M' (ns ++ [g]) := by
  have h1 : (ns.map (posOf M)).Nodup := by
    rw [List.map_append] at h2
    have := (List.nodup_append.1 h2).1
    rwa [List.map_congr_left hp] at this
  funext k
  by_cases hk : k = posOf M' g
  · subst hk
    rw [if_pos rfl, mapV_some h2 (by simp)]
  · rw [if_neg hk]
    by_cases hx : ∃ x ∈ ns, posOf M x = k
    · obtain ⟨x, hx, rfl⟩ := hx
      rw [mapV_some h1 hx, ← hp x hx, mapV_some h2 (by simp [hx])]
    · rw [mapV_none fun x hx' q => hx ⟨x, hx', q⟩, mapV_none]
      intro x hx' q
      rcases List.mem_append.1 hx' with h | h
      · exact hx ⟨x, h, by rw [← hp x h]; exact q⟩
      · obtain rfl : x = g := by simpa using h
        exact hk q.symm
theorem mapV_del {M M' : Nat → Nd} {p q : List Nat} {g : Nat} (h1 : ((p ++ g :: q).map (posOf M)).Nodup) (hp : ∀ x ∈ p ++ q, posOf M' x = posOf M x) :
    (fun y => if y = posOf M g then none else mapV M (p ++ g :: q) y) = mapV M' (p ++ q) := by
  have hsub : ((p ++ q).map (posOf M)).Nodup := by
    rw [List.map_append, List.map_cons] at h1
    rw [List.map_append]
    exact (h1.sublist (List.Sublist.append_left (List.sublist_cons_self ..) _))
  have h2 : ((p ++ q).map (posOf M')).Nodup := by rwa [List.map_congr_left hp]
  have hg : ∀ x ∈ p ++ q, posOf M x ≠ posOf M g := by
    intro x hx e
    have h3 : (p ++ g :: q).Perm (g :: (p ++ q)) := List.perm_middle
    have h4 := ((h3.map (posOf M)).nodup_iff).1 h1
    rw [List.map_cons, List.nodup_cons] at h4
    exact h4.1 (List.mem_map.2 ⟨x, hx, e⟩)
  funext k
  by_cases hk : k = posOf M g
  · subst hk
    rw [if_pos rfl, mapV_none]
    intro x hx
    rw [hp x hx]
    exact hg x hx
  · rw [if_neg hk]
    by_cases hx : ∃ x ∈ p ++ q, posOf M x = k
    · obtain ⟨x, hx, rfl⟩ := hx
      rw [mapV_some h1 (by simp at hx ⊢; rcases hx with h | h <;> simp [h]), ← hp x hx, mapV_some h2 hx]
    · rw [mapV_none, mapV_none fun x hx' q => hx ⟨x, hx', by rw [← hp x hx']; exact q⟩]
      intro x hx' e
      simp at hx'
      rcases hx' with h | rfl | h
      · exact hx ⟨x, by simp [h], e⟩
      · exact hk e.symm
      · exact hx ⟨x, by simp [h], e⟩
theorem map_size {w : World} {b : Nat} {M : Nat → Nd} {ns : List Nat} (hn : (ns.map (posOf M)).Nodup) {D : DataW Value} {n : Nat} (h : w.ownsMap Tryz.prog 3 valElem b n D) (hv : Views D (mapV M ns)) : Maps.size D = ns.length := by
  obtain ⟨es, rfl, hp, _⟩ := h.entries keyed3
  have hko : ∀ p ∈ es, ∃ x, p.1 = .int .i64 x := by
    obtain ⟨es', clock, _, F, _, hD⟩ := h
    intro p hp
    have e : es = (es'.toList.map (Go.WideElems.rg Tryz.prog 3 valElem)).foldr DataW.insert [] := by simpa using hD
    rw [e] at hp
    obtain ⟨y, hy, rfl⟩ := List.mem_map.1 (mem_sorted.1 hp)
    obtain ⟨z, hz⟩ := F.reads y hy
    obtain ⟨x, _, hx, _⟩ := Maps.keyOf_int_inv Tryz.underlying3 (Go.WideElems.rd_key hz)
    exact ⟨x, by rw [Go.WideElems.rg_of hz]; exact hx⟩
  let f : Lit × DataW Value → Int := fun p => match p.1 with | .int _ x => x | _ => 0
  have hf : ∀ p ∈ es, p.1 = .int .i64 (f p) := fun p hp' => by
    obtain ⟨a, ha⟩ := hko p hp'
    simp only [f, ha]
  have hnd : (es.map f).Nodup := by
    refine List.pairwise_map.2 (hp.imp_of_mem fun {p q} hp' hq' hne e => hne ?_)
    rw [hf p hp', hf q hq', e]
  have hsz : Maps.size (DataW.map es) = (es.map f).length := by simp [Maps.size]
  have hmem : ∀ x, x ∈ es.map f ↔ x ∈ ns.map (posOf M) := by
    intro x
    constructor
    · intro hx
      obtain ⟨p, hp', rfl⟩ := List.mem_map.1 hx
      have hh : has (.map es) (.int .i64 (f p)) = true := List.any_eq_true.2 ⟨p, hp', by rw [hf p hp']; simp [Lit.sameKey]⟩
      apply Classical.byContradiction
      intro hx'
      rw [hv.none (f p) (mapV_none fun g hg q => hx' (List.mem_map.2 ⟨g, hg, q⟩))] at hh
      cases hh
    · intro hx
      obtain ⟨g, hg, rfl⟩ := List.mem_map.1 hx
      obtain ⟨_, hh, _⟩ := hv.some _ _ (mapV_some hn hg)
      obtain ⟨p, hp', hs⟩ := List.any_eq_true.1 hh
      refine List.mem_map.2 ⟨p, hp', ?_⟩
      rw [hf p hp'] at hs
      simpa [Lit.sameKey] using hs
  have hns : ns.length = (ns.map (posOf M)).length := by simp
  rw [hsz, hns]
  exact Nat.le_antisymm (nodup_sub_len _ _ hnd fun x hx => (hmem x).1 hx) (nodup_sub_len _ _ hn fun x hx => (hmem x).2 hx)
end Go.Proofs.YtiejhjngcnkimaaGreatRW
/- A cache beside its disk; what it tells of itself, and whom it refuses; no condition. -/
namespace Go.Proofs.YtiejhjngcnkimaaGreatRW
open Go.RowKit Go.Maps
structure COk (s : CSt) : Prop where
  size : 1 ≤ s.size ∧ s.size ≤ 4096
  len : (s.row.length : Int) ≤ s.size
  pos : ∀ h ∈ s.row, inTop h.pos ∧ Can h.dat
  nodup : (s.row.map (·.pos)).Nodup
def ckRow (K : KLoc) (s : CSt) : Array Value := #[ptr K.c, ptr K.d, .int .i64 s.size, .map (some K.mb), ptr K.e, .int .i64 (fastN s.row : Int)]
structure CacheAt (w : World) (K : KLoc) (s : CSt) : Prop where
  row : w.heap[K.c]? = some (.cells (ckRow K s) 241)
  map : MapIs Tryz.prog 3 w K.mb (mapV K.M K.ns)
  nodes : Nodes w K.M (fun g => g = K.e ∨ g ∈ K.ns)
  ring : seg (Lnk K.M) K.e K.ns K.e
  nd : (K.e :: K.ns).Nodup
  holds : s.row = K.ns.map (hld K.M)
  ok : COk s
variable {w : World} {K : KLoc} {s : CSt}
theorem CacheAt.len (h : CacheAt w K s) : s.row.length = K.ns.length := by rw [h.holds]; simp
theorem CacheAt.posNd (h : CacheAt w K s) : (K.ns.map (posOf K.M)).Nodup := by
  have := h.ok.nodup
  rw [h.holds, List.map_map] at this
  exact this
theorem CacheAt.lt (h : CacheAt w K s) (k : Nat) (hk : K.has k) : k < w.heap.size := by
  rcases hk with rfl | rfl | hk
  · exact (Array.getElem?_eq_some_iff.1 h.row).1
  · exact h.map.lt
  · exact (Array.getElem?_eq_some_iff.1 (h.nodes k hk)).1
theorem CacheAt.kept {w' : World} (h : CacheAt w K s) (hb : ∀ k, K.has k → w'.heap[k]? = w.heap[k]?) : CacheAt w' K s :=
  ⟨(hb _ (.inl rfl)).trans h.row, h.map.kept (hb _ (.inr (.inl rfl))), h.nodes.kept fun g hg => hb g (.inr (.inr hg)), h.ring, h.nd, h.holds, h.ok⟩
theorem CacheAt.fr {w' : World} {T : Nat → Prop} (h : CacheAt w K s) (hf : Fr T w w') (hT : ∀ k, K.has k → ¬ T k) : CacheAt w' K s :=
  h.kept fun k hk => hf.block k (h.lt k hk) (hT k hk)
theorem CacheAt.cell (h : CacheAt w K s) (i : Nat) : w.cell? ⟨K.c, i, none⟩ = (ckRow K s)[i]? := Joins.cell_of_block h.row i
theorem CacheAt.free (h : CacheAt w K s) (i : Nat) : w.frozen? ⟨K.c, i, none⟩ = false := Joins.unfrozen_of_block h.row i
theorem CacheAt.c0 (h : CacheAt w K s) : w.cell? ⟨K.c, 0, none⟩ = some (ptr K.c) := h.cell 0
theorem CacheAt.c1 (h : CacheAt w K s) : w.cell? ⟨K.c, 1, none⟩ = some (ptr K.d) := h.cell 1
theorem CacheAt.c2 (h : CacheAt w K s) : w.cell? ⟨K.c, 2, none⟩ = some (.int .i64 s.size) := h.cell 2
theorem CacheAt.c3 (h : CacheAt w K s) : w.cell? ⟨K.c, 3, none⟩ = some (.map (some K.mb)) := h.cell 3
theorem CacheAt.c4 (h : CacheAt w K s) : w.cell? ⟨K.c, 4, none⟩ = some (ptr K.e) := h.cell 4
theorem CacheAt.c5 (h : CacheAt w K s) : w.cell? ⟨K.c, 5, none⟩ = some (.int .i64 (fastN s.row : Int)) := h.cell 5
theorem CacheAt.cne (h : CacheAt w K s) {g : Nat} (hg : g = K.e ∨ g ∈ K.ns) : g ≠ K.c := by
  rintro rfl
  have h1 := h.nodes _ hg
  have h2 := h.row
  unfold RowAt at h1
  rw [h2] at h1
  injection h1 with h1
  injection h1 with _ h1
  cases h1
theorem CacheAt.mne (h : CacheAt w K s) {g : Nat} (hg : g = K.e ∨ g ∈ K.ns) : g ≠ K.mb := by
  rintro rfl
  have h1 := h.nodes _ hg
  obtain ⟨es, cl, h2⟩ := h.map.isMap
  unfold RowAt at h1
  rw [h2] at h1
  cases h1
theorem CacheAt.cm (h : CacheAt w K s) : K.c ≠ K.mb := by
  intro e
  have h1 := h.row
  obtain ⟨es, cl, h2⟩ := h.map.isMap
  rw [e, h2] at h1
  cases h1
structure CD (w : World) (K : KLoc) (L : Loc) (s : CSt) (t : St) : Prop where
  cache : CacheAt w K s
  disk : DiskAt w L t
  d : K.d = L.d
  apart : ∀ k, K.has k → ¬ L.has k
structure GoesC (w w' : World) (K : KLoc) (L : Loc) (K' : KLoc) (L' : Loc) : Prop where
  c : K'.c = K.c
  d : L'.d = L.d
  ownK : ∀ k, K'.has k → K.has k ∨ w.heap.size ≤ k
  ownL : ∀ k, L'.has k → L.has k ∨ w.heap.size ≤ k
  fr : Fr (fun k => K.has k ∨ L.has k) w w'
theorem GoesC.ofBelow {w w' : World} (K : KLoc) (L : Loc) (h : Below w.heap.size w w') : GoesC w w' K L K L := ⟨rfl, rfl, fun _ h => .inl h, fun _ h => .inl h, Fr.ofBelow h⟩
theorem GoesC.trans {a b c : World} {K K' K'' : KLoc} {L L' L'' : Loc} (h : GoesC a b K L K' L') (k : GoesC b c K' L' K'' L'') : GoesC a c K L K'' L'' := by
  have hs := h.fr.size
  refine ⟨k.c.trans h.c, k.d.trans h.d, fun i hi => ?_, fun i hi => ?_, h.fr.trans k.fr fun i hi hk => ?_⟩
  · rcases k.ownK i hi with h1 | h1
    · exact h.ownK i h1
    · exact .inr (by omega)
  · rcases k.ownL i hi with h1 | h1
    · exact h.ownL i h1
    · exact .inr (by omega)
  · rcases hk with hk | hk
    · rcases h.ownK i hk with h1 | h1
      · exact .inl h1
      · omega
    · rcases h.ownL i hk with h1 | h1
      · exact .inr h1
      · omega
theorem CD.later {L : Loc} {t : St} {w' : World} (h : CD w K L s t) (hb : Below w.heap.size w w') : CD w' K L s t :=
  ⟨h.cache.kept fun k hk => hb.block k (h.cache.lt k hk), h.disk.later hb, h.d, h.apart⟩
theorem CD.disks {L L' : Loc} {t t' : St} {w' : World} (h : CD w K L s t) (hD : DiskAt w' L' t') (hG : Goes w w' L L') : CD w' K L' s t' ∧ GoesC w w' K L K L' := by
  refine ⟨⟨h.cache.fr hG.fr h.apart, hD, h.d.trans hG.d.symm, fun k hk hl => ?_⟩, ⟨rfl, hG.d, fun _ q => .inl q, hG.own, hG.fr.mono fun _ _ q => .inr q⟩⟩
  rcases hG.own k hl with q | q
  · exact h.apart k hk q
  · have := h.cache.lt k hk; omega
theorem CD.caches {K' : KLoc} {L : Loc} {t : St} {s' : CSt} {w' : World} (h : CD w K L s t) (hC : CacheAt w' K' s') (hc : K'.c = K.c) (hd : K'.d = K.d) (ho : ∀ k, K'.has k → K.has k ∨ w.heap.size ≤ k) (hf : Fr K.has w w') :
    CD w' K' L s' t ∧ GoesC w w' K L K' L := by
  refine ⟨⟨hC, h.disk.fr hf fun k hk hl => h.apart k hl hk, hd.trans h.d, fun k hk hl => ?_⟩, ⟨hc, rfl, ho, fun _ q => .inl q, hf.mono fun _ _ q => .inl q⟩⟩
  rcases ho k hk with q | q
  · exact h.apart k q hl
  · have := h.disk.lt k hl; omega
theorem info73 : ∃ j, Tryz.prog.info? 241 = some j := Option.isSome_iff_exists.1 (by kernel_rfl)
theorem neq30 (w : World) (a : Addr) : (binOp .neq 62 (.pointer (some a)) (.pointer (some a))).run Tryz.prog w = .ok (.bool false) w := by
  obtain ⟨j, hj⟩ := info73
  exact neq_same w a Tryz.underlying62 hj
theorem noneC_no {c : Nat} (c0 : w.cell? ⟨c, 0, none⟩ = some (ptr c)) : Calls Tryz.prog 254 #[ptr c] w fun e w' => e = .returned (.bool false) ∧ w' = w := by
  have hn := neq30
  unfold ptr at *
  go_enter Tryz.func254, Tryz.ntmps254
  go_wp2
  go_ret
  exact ⟨rfl, rfl⟩
theorem CacheAt.size_is (h : CacheAt w K s) : ∃ D, w.ownsMap Tryz.prog 3 valElem K.mb top D ∧ Views D (mapV K.M K.ns) ∧ Maps.size D = s.row.length := by
  obtain ⟨D, h1, h2⟩ := h.map
  exact ⟨D, h1, h2, by rw [h.len]; exact map_size h.posNd h1 h2⟩
theorem refusesC_of {L : Loc} {t : St} (h : CD w K L s t) (k : Int) : Calls Tryz.prog 223 #[ptr K.c, .int .i64 k] w fun e w' => e = .returned (.int .i64 (refV t k)) ∧ w' = w := by
  have h0 := noneC_no h.cache.c0
  have c1 := h.cache.c1
  have hs := stopped_of h.disk
  have hl := len_of h.disk
  rw [h.d] at c1
  clear h
  unfold ptr at *
  unfold refV
  cases hst : t.stopped
  · rw [hst] at hs
    by_cases h1 : k < 0
    · rw [if_neg (by simp), if_neg (by omega)]
      go_enter Tryz.func223, Tryz.ntmps223
      go_wp2_with (first | (go_at_call 254; refine h0.mono ?_; rintro e W ⟨rfl, rfl⟩) | (go_at_call 255; refine hs.mono ?_; rintro e W ⟨rfl, rfl⟩) | (go_at_call 139; refine hl.mono ?_; rintro e W ⟨rfl, rfl⟩))
      go_ret
      exact ⟨rfl, rfl⟩
    · by_cases h2 : t.n ≤ k
      · rw [if_neg (by simp), if_neg (by omega)]
        go_enter Tryz.func223, Tryz.ntmps223
        go_wp2_with (first | (go_at_call 254; refine h0.mono ?_; rintro e W ⟨rfl, rfl⟩) | (go_at_call 255; refine hs.mono ?_; rintro e W ⟨rfl, rfl⟩) | (go_at_call 139; refine hl.mono ?_; rintro e W ⟨rfl, rfl⟩))
        go_ret
        exact ⟨rfl, rfl⟩
      · rw [if_neg (by simp), if_pos (by omega)]
        go_enter Tryz.func223, Tryz.ntmps223
        go_wp2_with (first | (go_at_call 254; refine h0.mono ?_; rintro e W ⟨rfl, rfl⟩) | (go_at_call 255; refine hs.mono ?_; rintro e W ⟨rfl, rfl⟩) | (go_at_call 139; refine hl.mono ?_; rintro e W ⟨rfl, rfl⟩))
        go_ret
        exact ⟨rfl, rfl⟩
  · rw [hst] at hs
    rw [if_pos rfl]
    go_enter Tryz.func223, Tryz.ntmps223
    go_wp2_with (first | (go_at_call 254; refine h0.mono ?_; rintro e W ⟨rfl, rfl⟩) | (go_at_call 255; refine hs.mono ?_; rintro e W ⟨rfl, rfl⟩))
    go_ret
    exact ⟨rfl, rfl⟩
end Go.Proofs.YtiejhjngcnkimaaGreatRW
/- A holding as it is made, and a cache as New makes it; no condition. -/
namespace Go.Proofs.YtiejhjngcnkimaaGreatRW
open Go.RowKit Go.Maps
def nilp : Value := .pointer none
theorem info98 : (Tryz.prog.info? 238).map (fun i => (i.zero, i.size)) = some (some (.agg (rowV 0 false nilp nilp nought)), 1028) := by kernel_rfl
theorem zero98 : ∀ w, (zeroValue 238).run Tryz.prog w = .ok (.agg (rowV 0 false nilp nilp nought)) w := (zero_of_info info98).1
theorem built98 (u : World) : (Instr.build 238 #[]).run Tryz.prog u = .ok (.agg (rowV 0 false nilp nilp nought)) u := by
  have z := zero98
  generalize rowV 0 false nilp nilp nought = Z at *
  simp [Instr.build, z, run_underlying Tryz.underlying238, Instr.fill, Value.cells]
theorem rowV_set0 (k k' : Int) (b : Bool) (p q : Value) (f : Nat → Int) : (rowV k b p q f).setIfInBounds 0 (.int .i64 k') = rowV k' b p q f := by unfold rowV; rw [List.setIfInBounds_toArray]; rfl
theorem rowV_get2 (k : Int) (b : Bool) (p q : Value) (f : Nat → Int) : (rowV k b p q f)[2]? = some p := by
  unfold rowV
  generalize (blk f).toList = l
  rfl
theorem rowV_get3 (k : Int) (b : Bool) (p q : Value) (f : Nat → Int) : (rowV k b p q f)[3]? = some q := by
  unfold rowV
  generalize (blk f).toList = l
  rfl
theorem built98k (k : Int) (u : World) : (Instr.build 238 #[(0, .int .i64 k)]).run Tryz.prog u = .ok (.agg (rowV k false nilp nilp nought)) u := by
  have z := zero98
  have hs := rowV_set0 0 k false nilp nilp nought
  have hz := rowV_size 0 false nilp nilp nought
  have hne : rowV 0 false nilp nilp nought ≠ #[] := fun q => by rw [q] at hz; simp at hz
  generalize rowV 0 false nilp nilp nought = Z at *
  generalize rowV k false nilp nilp nought = Y at *
  simp [Instr.build, z, run_underlying Tryz.underlying238, Instr.fill, Value.cells, hs, hne]
section
variable {ops : Array Oper} {rest : List Oper} {o : Oper} {a : Act} {w : World} {Q : Exit → Act → World → Prop}
theorem wpList_build98 (hgd : o.guard = none) (ho : o.op = .build 238 #[]) {Z : Array Value}
    (hb : ∀ u, (Instr.build 238 #[]).run Tryz.prog u = .ok (.agg Z) u) (h : wpList Tryz.prog ops Q rest (a.put o.dst (.agg Z)) w) : wpList Tryz.prog ops Q (o :: rest) a w :=
  wpList_plain hgd fun _ hK => by
    have e : (execOp a.eval o).run Tryz.prog w = .ok (.value (.agg Z)) w := by
      unfold execOp
      simp only [ho, Array.map_empty, Sem.run_bind]
      simp only [hb, Result.andThen_ok, Sem.run_pure]
    unfold Oper.wp
    rw [e]
    exact hK _ _ h
theorem wpList_build98k (hgd : o.guard = none) (x : Operand) (ho : o.op = .build 238 #[(0, x)]) (k : Int) (hx : a.eval x = .int .i64 k) {Z : Array Value}
    (hb : ∀ u, (Instr.build 238 #[(0, .int .i64 k)]).run Tryz.prog u = .ok (.agg Z) u) (h : wpList Tryz.prog ops Q rest (a.put o.dst (.agg Z)) w) : wpList Tryz.prog ops Q (o :: rest) a w :=
  wpList_plain hgd fun _ hK => by
    have e : (execOp a.eval o).run Tryz.prog w = .ok (.value (.agg Z)) w := by simp [execOp, ho, hx, hb]
    unfold Oper.wp
    rw [e]
    exact hK _ _ h
end
variable {w : World} {L : Loc} {t : St}
def newK (w : World) (d : Nat) : KLoc := ⟨w.heap.size + 2, d, w.heap.size, w.heap.size + 1, [], fun _ => ⟨0, false, w.heap.size, w.heap.size, nought⟩⟩
def newC (size : Int) : CSt := ⟨size, []⟩
theorem newC_at {size : Int} (hs : 1 ≤ size ∧ size ≤ 4096) {Z : Array Value} (hZ : Z = rowV 0 false (ptr w.heap.size) (ptr w.heap.size) nought) :
    CacheAt (((w.alloc (.cells Z 238)).alloc (.map #[] 0)).alloc (.cells #[ptr (w.heap.size + 2), ptr L.d, .int .i64 size, .map (some (w.heap.size + 1)), ptr w.heap.size, .int .i64 0] 241)) (newK w L.d) (newC size) := by
  subst hZ
  have h1 := heap_alloc_new w (.cells (rowV 0 false (ptr w.heap.size) (ptr w.heap.size) nought) 238)
  have h2 := heap_alloc_new ((w.alloc (.cells (rowV 0 false (ptr w.heap.size) (ptr w.heap.size) nought) 238)).alloc (.map #[] 0)) (.cells #[ptr (w.heap.size + 2), ptr L.d, .int .i64 size, .map (some (w.heap.size + 1)), ptr w.heap.size, .int .i64 0] 241)
  have hm := MapIs.made (P := Tryz.prog) (k := 3) (w.alloc (.cells (rowV 0 false (ptr w.heap.size) (ptr w.heap.size) nought) 238))
  have e1 : ∀ (u : World) (x : Obj), (u.alloc x).heap.size = u.heap.size + 1 := fun u x => by simp
  rw [e1, e1] at h2
  rw [e1] at hm
  refine ⟨h2, ?_, ?_, ⟨rfl, rfl⟩, by simp [newK], rfl, ⟨hs, by simp [newC]; omega, by simp [newC], by simp [newC]⟩⟩
  · exact hm.kept ((below_new _ _).block _ (by simp))
  · rintro g (rfl | hg)
    · exact heap_kept (heap_kept h1 (below_new _ _)) (below_new _ _)
    · simp [newK] at hg
set_option maxHeartbeats 1000000 in
theorem newC_ok (hD : DiskAt w L t) {size : Int} (hs : 1 ≤ size ∧ size ≤ 4096) :
    Calls Tryz.prog 90 #[ptr L.d, .int .i64 size] w fun e w' => e = .returned (.tuple #[ptr (newK w L.d).c, .int .i64 0]) ∧ CacheAt w' (newK w L.d) (newC size) ∧ Below w.heap.size w w' := by
  have hl := len_of hD
  have hn := hD.ok.n
  have hb := built98
  have hmm := @run_makeMap Tryz.prog
  have hz0 : ¬ t.n = 0 := by omega
  have s2 := rowV_set2 0 false nilp nilp (ptr w.heap.size) nought
  have s3 := rowV_set3 0 false (ptr w.heap.size) nilp (ptr w.heap.size) nought
  have g2 := rowV_get2 0 false nilp nilp nought
  have g3 := rowV_get3 0 false (ptr w.heap.size) nilp nought
  have HA : Hid (∀ Z, Z = rowV 0 false (ptr w.heap.size) (ptr w.heap.size) nought → CacheAt (((w.alloc (.cells Z 238)).alloc (.map #[] 0)).alloc (.cells #[ptr (w.heap.size + 2), ptr L.d, .int .i64 size, .map (some (w.heap.size + 1)), ptr w.heap.size, .int .i64 0] 241)) (newK w L.d) (newC size)) := fun Z hZ => newC_at hs hZ
  clear hD
  generalize h0 : rowV 0 false nilp nilp nought = Z at *
  generalize h1 : rowV 0 false (ptr w.heap.size) nilp nought = Z1 at *
  generalize h2 : rowV 0 false (ptr w.heap.size) (ptr w.heap.size) nought = Z2 at *
  have HZ := HA.out Z2 rfl
  have HB : Hid (CacheAt _ _ _) := HZ
  clear HZ HA h0 h1 h2
  unfold ptr nilp at *
  go_enter Tryz.func90, Tryz.ntmps90
  go_wp2_with (first | (go_at_call 139; refine hl.mono ?_; rintro e W ⟨rfl, rfl⟩) | refine wpList_build98 rfl rfl hb ?_)
  go_ret2
  refine ⟨rfl, HB.out, ?_⟩
  exact (((Below.refl _ _).alloc (Nat.le_refl _) _).alloc (by simp) _).alloc (by simp; omega) _
end Go.Proofs.YtiejhjngcnkimaaGreatRW

/- A place is made in a cache: the first that is not held fast leaves; no condition. -/
namespace Go.Proofs.YtiejhjngcnkimaaGreatRW
open Go.RowKit Go.Maps
def placeR (n : Int) (r : List Hld) : List Hld := if (r.length : Int) < n then r else r.eraseP (fun h => !h.fast)
theorem split_fast (M : Nat → Nd) : ∀ ns : List Nat, fastN (ns.map (hld M)) < ns.length → ∃ p g q, ns = p ++ g :: q ∧ (∀ a ∈ p, (M a).fast = true) ∧ (M g).fast = false
  | [], h => by simp [fastN] at h
  | a :: t, h => by
    cases ha : (M a).fast
    · exact ⟨[], a, t, rfl, by simp, ha⟩
    · have h' : fastN (t.map (hld M)) < t.length := by
        simp only [fastN, List.map_cons, List.countP_cons, List.length_cons, hld, ha, if_pos] at h ⊢
        omega
      obtain ⟨p, g, q, h1, h2, h3⟩ := split_fast M t h'
      refine ⟨a :: p, g, q, by rw [h1]; rfl, ?_, h3⟩
      intro x hx
      rcases List.mem_cons.1 hx with rfl | hx
      · exact ha
      · exact h2 x hx
theorem eraseP_split {α : Type} {f : α → Bool} {p q : List α} {x : α} (hp : ∀ a ∈ p, f a = false) (hx : f x = true) : (p ++ x :: q).eraseP f = p ++ q := by
  induction p with
  | nil => simp [hx]
  | cons a t ih =>
    have ha := hp a (by simp)
    simp only [List.cons_append, List.eraseP, ha]
    rw [ih fun b hb => hp b (List.mem_cons_of_mem _ hb)]
    rfl
theorem CacheAt.out {w w' : World} {K : KLoc} {s : CSt} (h : CacheAt w K s) {p q : List Nat} {g : Nat} (hns : K.ns = p ++ g :: q) {s' : CSt} (hsz : s'.size = s.size) (hrow : s'.row = (p ++ q).map (hld K.M))
    (hc : w'.heap[K.c]? = some (.cells (ckRow K s') 241)) (hm : MapIs Tryz.prog 3 w' K.mb (fun y => if y = posOf K.M g then none else mapV K.M K.ns y))
    (hN : Nodes w' (leaveM K.M g) (fun k => k = K.e ∨ k ∈ K.ns)) : CacheAt w' { K with ns := p ++ q, M := leaveM K.M g } s' := by
  have hpos : ∀ x, posOf (leaveM K.M g) x = posOf K.M x := fun x => (leave_rest K.M g x).1
  have hh : ∀ x, hld (leaveM K.M g) x = hld K.M x := fun x => by
    obtain ⟨a1, a2, a3⟩ := leave_rest K.M g x
    unfold hld
    rw [a1, a2, a3]
  have hsub : ∀ x, x ∈ p ++ q → x ∈ K.ns := fun x hx => by rw [hns]; simp at hx ⊢; rcases hx with h | h <;> simp [h]
  have hnd := h.nd
  rw [hns] at hnd
  have hsubl : (p ++ q).Sublist (p ++ g :: q) := List.Sublist.append_left (List.sublist_cons_self ..) _
  refine ⟨hc, ?_, hN.mono fun x hx => hx.imp id (hsub x), ?_, ?_, ?_, ?_⟩
  · rw [hns] at hm
    have := mapV_del (M := K.M) (M' := leaveM K.M g) (p := p) (q := q) (g := g) (by rw [← hns]; exact h.posNd) fun x _ => hpos x
    rw [this] at hm
    exact hm
  · exact leave_seg hnd (by rw [← hns]; exact h.ring)
  · exact hnd.sublist (hsubl.cons_cons K.e)
  · rw [hrow]
    exact List.map_congr_left fun x _ => (hh x).symm
  · have hrs : s'.row.Sublist s.row := by rw [hrow, h.holds, hns]; exact hsubl.map _
    refine ⟨by rw [hsz]; exact h.ok.size, ?_, fun x hx => h.ok.pos x (hrs.subset hx), h.ok.nodup.sublist (hrs.map _)⟩
    have := hrs.length_le
    have := h.ok.len
    rw [hsz]
    omega
variable {w : World} {K : KLoc} {s : CSt}
set_option maxRecDepth 20000 in
set_option maxHeartbeats 2000000 in
theorem place_of (h : CacheAt w K s) (hf : (s.row.length : Int) < s.size ∨ fastN s.row < s.row.length) :
    Calls Tryz.prog 251 #[ptr K.c] w fun e w' => e = .returned (.tuple #[]) ∧ ∃ K', CacheAt w' K' { s with row := placeR s.size s.row } ∧ K'.c = K.c ∧ K'.d = K.d ∧ K'.e = K.e ∧ K'.mb = K.mb ∧ (∀ k ∈ K'.ns, k ∈ K.ns) ∧ Fr K.has w w' := by
  obtain ⟨D, hown, hV, hsz⟩ := h.size_is
  have c2 := h.c2
  have c3 := h.c3
  have c4 := h.c4
  have hD : w.drew.ownsMap Tryz.prog 3 valElem K.mb top D := hown
  unfold placeR
  by_cases hlt : (s.row.length : Int) < s.size
  · rw [if_pos hlt]
    have H : Hid (CacheAt w.drew K s) := h.fr (Fr.drew (T := fun _ => False) w) fun _ _ q => q
    have hlen := fun ty => hD.len Tryz.underlying239 ty
    rw [hsz] at hlen
    clear h hf hD hown
    unfold ptr at *
    go_enter Tryz.func251, Tryz.ntmps251
    go_wp2_with (fail)
    go_region
    go_wp2
    refine bodyPost_ret (results_none rfl _ _ _) rfl ?_
    exact ⟨rfl, K, H.out, rfl, rfl, rfl, rfl, fun _ q => q, Fr.drew w⟩
  · rw [if_neg hlt]
    have hfr : fastN s.row < s.row.length := hf.resolve_left hlt
    rw [h.holds] at hfr
    obtain ⟨p, g, q, hns, hp, hg⟩ := split_fast K.M K.ns (by simpa using hfr)
    have hgm : g ∈ K.ns := by rw [hns]; simp
    have hlen := fun ty => hD.len Tryz.underlying239 ty
    rw [hsz] at hlen
    have hring := h.ring
    have e3 : w.drew.cell? ⟨K.e, 3, none⟩ = some (ptr (K.M K.e).nx) := (h.nodes K.e (.inl rfl)).c3
    rw [seg_first hring] at e3
    have c4' : w.drew.cell? ⟨K.c, 4, none⟩ = some (ptr K.e) := c4
    have hfx : ∀ x ∈ K.ns, w.drew.cell? ⟨x, 1, none⟩ = some (.bool (K.M x).fast) ∧ w.drew.cell? ⟨x, 3, none⟩ = some (ptr (K.M x).nx) := fun x hx => ⟨(h.nodes x (.inr hx)).c1, (h.nodes x (.inr hx)).c3⟩
    have hnx : ∀ a x y b, K.ns = a ++ x :: y :: b → (K.M x).nx = y := fun a x y b e => by
      rw [e] at hring
      exact ((seg_append _ _ _ _ _ _).1 hring).2.1.1
    have HX : Hid (∀ x ∈ K.ns, w.drew.cell? ⟨x, 1, none⟩ = some (.bool (K.M x).fast) ∧ w.drew.cell? ⟨x, 3, none⟩ = some (ptr (K.M x).nx)) := hfx
    have HNX : Hid (∀ a x y b, K.ns = a ++ x :: y :: b → (K.M x).nx = y) := hnx
    have HP : Hid (∀ a ∈ p, (K.M a).fast = true) := hp
    have HNS : Hid (K.ns = p ++ g :: q) := hns
    have hstart : ∃ a x b, p ++ [g] = a ++ x :: b ∧ (K.ns ++ [K.e]).headD 0 = x ∧ b.length = p.length := by
      rw [hns]
      cases p with
      | nil => exact ⟨[], g, [], rfl, rfl, rfl⟩
      | cons a t => exact ⟨[], a, t ++ [g], rfl, rfl, by simp⟩
    have HST : Hid (∃ a x b, p ++ [g] = a ++ x :: b ∧ (K.ns ++ [K.e]).headD 0 = x ∧ b.length = p.length) := hstart
    have near := seg_near (p := p) (q := q) (h := g) (e := K.e) (M := K.M) (by rw [← hns]; exact hring)
    have HC : Hid (CacheAt w.drew K s) := h.fr (Fr.drew (T := fun _ => False) w) fun _ _ q => q
    have hnp : (K.M g).pv = K.e ∨ (K.M g).pv ∈ K.ns := by
      rw [hns]
      rcases List.mem_cons.1 near.1 with q | q
      · exact .inl q
      · exact .inr (by simp [q])
    have hnn : (K.M g).nx = K.e ∨ (K.M g).nx ∈ K.ns := by
      rw [hns]
      rcases List.mem_append.1 near.2 with q | q
      · exact .inr (by simp [q])
      · exact .inl (by simpa using q)
    have HL : Hid (Calls Tryz.prog 250 #[ptr g] w.drew fun e w' => e = .returned (.tuple #[]) ∧ Nodes w' (leaveM K.M g) (fun k => k = K.e ∨ k ∈ K.ns) ∧ Fr (fun k => k = (K.M g).pv ∨ k = (K.M g).nx) w.drew w') :=
      leave_of HC.out.nodes (.inr hgm) hnp hnn
    clear h hf hD hown hfr hfx hnx hp hns hstart near hring hsz hV
    generalize (K.ns ++ [K.e]).headD 0 = x0 at *
    unfold ptr at c2 c3 c4 c4' e3
    have hlt' : ¬ (s.row.length : Int) < s.size := hlt
    unfold ptr
    go_enter Tryz.func251, Tryz.ntmps251
    go_wp2_with (fail)
    go_region
    clear hlen
    generalize hV : w.drew = V at *
    go_wp2_with (fail)
    go_loopg [2] p.length (fun k s2 wx => ∃ a x b, p ++ [g] = a ++ x :: b ∧ s2 = .pointer (some ⟨x, 0, none⟩) ∧ k = b.length ∧ wx = V)
    case atStart =>
      obtain ⟨a, x, b, h1, h2, h3⟩ := HST.out
      exact ⟨a, x, b, h1, by rw [h2], h3.symm, rfl⟩
    case round =>
      obtain ⟨a, x, b, hab, rfl, rfl, rfl⟩ := hrel
      cases b with
      | cons y b' =>
        have e1 : p = a ++ x :: (y :: b').dropLast := by
          have := congrArg List.dropLast hab
          simpa [List.dropLast_append_of_ne_nil] using this
        have hxp : x ∈ p := by rw [e1]; simp
        have hxn : x ∈ K.ns := by rw [HNS.out]; simp [hxp]
        obtain ⟨x1, x3⟩ := HX.out x hxn
        rw [HP.out x hxp] at x1
        have e2 : K.ns = a ++ x :: y :: (b' ++ q) := by
          rw [HNS.out, show p ++ g :: q = (p ++ [g]) ++ q by simp, hab]
          simp
        rw [HNX.out a x y _ e2] at x3
        unfold ptr at x3
        clear e1 e2 hxp hxn
        go_wp2
        go_roundg b'.length
        case measure => simp
        case rel => exact ⟨a ++ [x], y, b', by rw [hab]; simp, rfl, rfl, rfl⟩
      | nil =>
        have hxg : x = g := by
          have := congrArg (fun l => l.getLast?) hab
          simpa using this.symm
        subst hxg
        obtain ⟨x1, _⟩ := HX.out x hgm
        rw [hg] at x1
        clear hab
        go_wp2_with (go_at_call 250; fail)
        refine HL.out.mono ?_
        rintro e W1 ⟨rfl, hN1, hF1⟩
        have hC := HC.out
        have hcn : K.c ≠ (K.M x).pv ∧ K.c ≠ (K.M x).nx := ⟨(hC.cne hnp).symm, (hC.cne hnn).symm⟩
        have hmn : K.mb ≠ (K.M x).pv ∧ K.mb ≠ (K.M x).nx := ⟨(hC.mne hnp).symm, (hC.mne hnn).symm⟩
        have d3 : W1.cell? ⟨K.c, 3, none⟩ = some (.map (some K.mb)) := by
          rw [Joins.cell_of_block ((hF1.block K.c (hC.lt _ (.inl rfl)) (by rintro (q | q); exact hcn.1 q; exact hcn.2 q)).trans hC.row)]
          rfl
        have x0' : W1.cell? ⟨x, 0, none⟩ = some (.int .i64 (posOf K.M x)) := by
          have := (hN1 x (.inr hgm)).c0
          rw [(leave_rest K.M x x).1] at this
          exact this
        have hmW : MapIs Tryz.prog 3 W1.drew K.mb (mapV K.M K.ns) := hC.map.kept (hF1.block K.mb (hC.lt _ (.inr (.inl rfl))) (by rintro (q | q); exact hmn.1 q; exact hmn.2 q))
        have hposW : (Lit.int .i64 (posOf K.M x)).wf = true := inTop.wf (hC.ok.pos (hld K.M x) (by rw [hC.holds]; exact List.mem_map.2 ⟨x, hgm, rfl⟩)).1
        have HF : Hid (∀ w', MapIs Tryz.prog 3 w' K.mb (fun y => if y = posOf K.M x then none else mapV K.M K.ns y) → W1.drew.grownBy w' (some K.mb) →
            ∃ K', CacheAt w' K' { s with row := List.eraseP (fun h => !h.fast) s.row } ∧ K'.c = K.c ∧ K'.d = K.d ∧ K'.e = K.e ∧ K'.mb = K.mb ∧ (∀ k ∈ K'.ns, k ∈ K.ns) ∧ Fr K.has w w') := by
          intro w' hm' hg'
          have f2 : Fr (fun i => i = K.mb) W1 w' := (Fr.drew W1).trans ((Fr.ofGrown hg').mono fun i _ q => by injection q with q; exact q.symm) fun _ _ q => q
          have f3 : Fr K.has wr w' := (hF1.mono (T' := K.has) fun i _ q => by
            rcases q with rfl | rfl
            · exact .inr (.inr hnp)
            · exact .inr (.inr hnn)).trans f2 fun i _ q => by rw [q]; exact .inr (.inl rfl)
          have f4 : Fr K.has w w' := by
            have := (Fr.drew (T := K.has) w)
            rw [hV] at this
            exact this.trans f3 fun _ _ q => q
          have hN2 : Nodes w' (leaveM K.M x) (fun k => k = K.e ∨ k ∈ K.ns) := hN1.kept fun k hk => f2.block k (by have := hC.lt k (.inr (.inr hk)); have := hF1.size; omega) (hC.mne hk)
          have hrow : s.row = p.map (hld K.M) ++ hld K.M x :: q.map (hld K.M) := by rw [hC.holds, HNS.out]; simp
          have her : List.eraseP (fun h => !h.fast) s.row = (p ++ q).map (hld K.M) := by
            rw [hrow, eraseP_split (x := hld K.M x) (fun a ha => by
              obtain ⟨y, hy, rfl⟩ := List.mem_map.1 ha
              show (!(K.M y).fast) = false
              rw [HP.out y hy]; rfl) (by show (!(K.M x).fast) = true; rw [hg]; rfl), List.map_append]
          have hfn : fastN (List.eraseP (fun h => !h.fast) s.row) = fastN s.row := by
            rw [her, hrow]
            have : (hld K.M x).fast = false := hg
            simp [fastN, List.countP_append, this]
          refine ⟨_, hC.out HNS.out (s' := { s with row := List.eraseP (fun h => !h.fast) s.row }) rfl her ?_ hm' hN2, rfl, rfl, rfl, rfl, ?_, f4⟩
          · have e1 : ckRow K { s with row := List.eraseP (fun h => !h.fast) s.row } = ckRow K s := by unfold ckRow; simp only [hfn]
            rw [e1]
            refine (f2.block K.c (by have := hC.lt _ (.inl rfl); have := hF1.size; omega) hC.cm).trans ?_
            exact (hF1.block K.c (hC.lt _ (.inl rfl)) (by rintro (q | q); exact hcn.1 q; exact hcn.2 q)).trans hC.row
          · intro k hk
            rw [HNS.out]
            have hk' : k ∈ p ++ q := hk
            simp at hk' ⊢
            rcases hk' with h | h <;> simp [h]
        clear hN1 hF1 HL HC hC HX HNX HST HP HNS hV e3 c4' hcn hmn
        go_wp2_with (fail)
        go_still_tail 8, (by kernel_rfl)
        change wpList _ _ _ _ _ (World.drew _)
        refine wpList_delM rfl (.tmp 33) (.tmp 37) 239 rfl 236 Tryz.underlying3 keyed3 Tryz.underlying239 K.mb _ rfl hmW (posOf K.M x) hposW rfl ?_
        intro w' hm' hg'
        have HR := HF.out w' hm' hg'
        have HR' : Hid _ := HR
        clear HF HR hm' hg' hmW
        go_wp2
        go_end0
        exact ⟨rfl, HR'.out⟩
end Go.Proofs.YtiejhjngcnkimaaGreatRW
/- A block of a cache is used: it is the last of the row from then on; no condition. -/
namespace Go.Proofs.YtiejhjngcnkimaaGreatRW
open Go.RowKit Go.Maps
theorem setM_self (M : Nat → Nd) (g : Nat) : setM M g (M g) = M := by
  funext k
  unfold setM
  split
  · next h => rw [h]
  · rfl
theorem setM_other (M : Nat → Nd) (g : Nat) (n : Nd) {k : Nat} (h : k ≠ g) : setM M g n k = M k := by unfold setM; rw [if_neg h]
theorem setM_same (M : Nat → Nd) (g : Nat) (n : Nd) : setM M g n g = n := by unfold setM; rw [if_pos rfl]
theorem cache_stood {w : World} {K : KLoc} {s : CSt} {M : Nat → Nd} {ns : List Nat} {g : Nat} {n : Nd} (hnd : (g :: K.e :: ns).Nodup) (hseg : seg (Lnk M) K.e ns K.e)
    (hc : w.heap[K.c]? = some (.cells (ckRow K s) 241)) (hm : MapIs Tryz.prog 3 w K.mb (mapV (standM (setM M g n) g K.e) (ns ++ [g])))
    (hN : Nodes w (standM (setM M g n) g K.e) (fun k => k = g ∨ k = K.e ∨ k ∈ ns)) (hrow : s.row = ns.map (hld M) ++ [⟨n.pos, n.fast, n.dat⟩]) (hok : COk s) :
    CacheAt w { K with ns := ns ++ [g], M := standM (setM M g n) g K.e } s := by
  have hgn : ∀ x, x ∈ K.e :: ns → x ≠ g := fun x hx e => (List.nodup_cons.1 hnd).1 (e ▸ hx)
  have hh : ∀ x, hld (standM (setM M g n) g K.e) x = hld (setM M g n) x := fun x => by
    obtain ⟨a1, a2, a3⟩ := stand_rest (setM M g n) g K.e x
    unfold hld
    rw [a1, a2, a3]
  refine ⟨hc, hm, hN.mono fun x hx => ?_, stand_seg hnd ?_, ?_, ?_, hok⟩
  · rcases hx with h | h
    · exact .inr (.inl h)
    · have h : x ∈ ns ++ [g] := h
      simp at h
      rcases h with h | h
      · exact .inr (.inr h)
      · exact .inl h
  · refine seg_mono _ _ _ hseg fun x y hx hy hl => ?_
    have hy' : y ∈ K.e :: ns := by simp at hy ⊢; rcases hy with h | h <;> simp [h]
    unfold Lnk
    rw [setM_other _ _ _ (hgn x hx), setM_other _ _ _ (hgn y hy')]
    exact hl
  · have : (ns ++ [g]).Perm (g :: ns) := List.perm_append_comm (l₁ := ns) (l₂ := [g])
    have h2 : (K.e :: (ns ++ [g])).Perm (K.e :: g :: ns) := this.cons _
    exact ((h2.trans (List.Perm.swap ..)).nodup_iff).2 hnd
  · rw [hrow, List.map_append]
    congr 1
    · refine List.map_congr_left fun x hx => ?_
      rw [hh x]
      unfold hld
      rw [setM_other _ _ _ (hgn x (List.mem_cons_of_mem _ hx))]
    · show _ = [hld (standM (setM M g n) g K.e) g]
      rw [hh g]
      unfold hld
      rw [setM_same]
variable {w : World} {K : KLoc} {L : Loc} {s : CSt} {t : St}
theorem use_bad (h : CD w K L s t) {k : Int} (hb : refV t k ≠ 0) : Calls Tryz.prog 213 #[ptr K.c, .int .i64 k] w fun e w' => e = .returned (.tuple #[nilp, .bool false, .int .i64 (refV t k)]) ∧ w' = w := by
  have hR := refusesC_of h k
  have hne : (refV t k != 0) = true := by simp [hb]
  clear h hb
  generalize refV t k = r at *
  unfold ptr nilp at *
  go_enter Tryz.func213, Tryz.ntmps213
  go_wp2_with (first | (go_at_call 223; refine hR.mono ?_; rintro e W ⟨rfl, rfl⟩))
  go_ret3
  exact ⟨rfl, rfl⟩
theorem zero71 (u : World) : (zeroValue 236).run Tryz.prog u = .ok nilp u := by
  have h : (Tryz.prog.info? 236).map (fun i => (i.zero, i.size)) = some (some nilp, 1) := by kernel_rfl
  exact (zero_of_info h).1 u
set_option maxRecDepth 20000 in
set_option maxHeartbeats 2000000 in
theorem use_held (h : CD w K L s t) {k : Int} (hb : refV t k = 0) {p q : List Nat} {g : Nat} (hns : K.ns = p ++ g :: q) (hg : posOf K.M g = k) :
    Calls Tryz.prog 213 #[ptr K.c, .int .i64 k] w fun e w' => e = .returned (.tuple #[ptr g, .bool false, .int .i64 0]) ∧
      ∃ M', CacheAt w' { K with ns := (p ++ q) ++ [g], M := M' } { s with row := (p ++ q).map (hld K.M) ++ [hld K.M g] } ∧ hld M' g = hld K.M g ∧ Fr K.has w w' := by
  have hR := refusesC_of h k
  rw [hb] at hR
  have hC := h.cache
  have hgm : g ∈ K.ns := by rw [hns]; simp
  have hwf : (Lit.int .i64 k).wf = true := inTop.wf (inTop_of h.disk.ok (refV_ok hb).2)
  have hmv : mapV K.M K.ns k = some (ptr g) := by rw [← hg]; exact mapV_some hC.posNd hgm
  have hmap := hC.map
  have c3 := hC.c3
  have c4 := hC.c4
  have near := seg_near (p := p) (q := q) (h := g) (e := K.e) (M := K.M) (by rw [← hns]; exact hC.ring)
  have hnp : (K.M g).pv = K.e ∨ (K.M g).pv ∈ K.ns := by
    rw [hns]
    rcases List.mem_cons.1 near.1 with q | q
    · exact .inl q
    · exact .inr (by simp [q])
  have hnn : (K.M g).nx = K.e ∨ (K.M g).nx ∈ K.ns := by
    rw [hns]
    rcases List.mem_append.1 near.2 with q | q
    · exact .inr (by simp [q])
    · exact .inl (by simpa using q)
  have hL := leave_of hC.nodes (.inr hgm) hnp hnn
  have hnd := hC.nd
  rw [hns] at hnd
  have hnd2 : (g :: K.e :: (p ++ q)).Nodup := by
    have e1 : (K.e :: (p ++ g :: q)).Perm (g :: K.e :: (p ++ q)) := (List.perm_middle.cons K.e).trans (List.Perm.swap ..)
    exact (e1.nodup_iff).1 hnd
  have hseg := leave_seg hnd (by rw [← hns]; exact hC.ring)
  have z71 := zero71
  have HS : Hid (∀ W, Nodes W (leaveM K.M g) (fun k => k = K.e ∨ k ∈ K.ns) → Fr (fun k => k = (K.M g).pv ∨ k = (K.M g).nx) w W →
      W.cell? ⟨K.c, 4, none⟩ = some (ptr K.e) ∧ Calls Tryz.prog 252 #[ptr g, ptr K.e] W fun x w' => x = .returned (.tuple #[]) ∧
      ∃ M', CacheAt w' { K with ns := (p ++ q) ++ [g], M := M' } { s with row := (p ++ q).map (hld K.M) ++ [hld K.M g] } ∧ hld M' g = hld K.M g ∧ Fr K.has w w') := by
    intro W hN hF
    have hcn : K.c ≠ (K.M g).pv ∧ K.c ≠ (K.M g).nx := ⟨(hC.cne hnp).symm, (hC.cne hnn).symm⟩
    have hmn : K.mb ≠ (K.M g).pv ∧ K.mb ≠ (K.M g).nx := ⟨(hC.mne hnp).symm, (hC.mne hnn).symm⟩
    have hcW : W.heap[K.c]? = some (.cells (ckRow K s) 241) := (hF.block K.c (hC.lt _ (.inl rfl)) (by rintro (q | q); exact hcn.1 q; exact hcn.2 q)).trans hC.row
    have hmW : MapIs Tryz.prog 3 W K.mb (mapV K.M K.ns) := hC.map.kept (hF.block K.mb (hC.lt _ (.inr (.inl rfl))) (by rintro (q | q); exact hmn.1 q; exact hmn.2 q))
    refine ⟨by rw [Joins.cell_of_block hcW]; rfl, ?_⟩
    have hsub : ∀ x, x ∈ p ++ q → x ∈ K.ns := fun x hx => by rw [hns]; simp at hx ⊢; rcases hx with h | h <;> simp [h]
    have hgS : ¬ (g = K.e ∨ g ∈ p ++ q) := by
      rintro (e | e)
      · exact (List.nodup_cons.1 hnd2).1 (by rw [e]; simp)
      · exact (List.nodup_cons.1 hnd2).1 (List.mem_cons_of_mem _ e)
    have hlast : (leaveM K.M g K.e).pv = K.e ∨ (leaveM K.M g K.e).pv ∈ p ++ q := by
      rcases List.mem_cons.1 (seg_last hseg) with h | h
      · exact .inl h
      · exact .inr h
    have hst := stand_of (S := fun x => x = K.e ∨ x ∈ p ++ q) (hN.mono fun x hx => hx.imp id (hsub x)) (h := g) (e := K.e) (n := leaveM K.M g g) hgS (.inl rfl) hlast (hN g (.inr hgm))
    refine hst.mono ?_
    rintro e w' ⟨rfl, hN2, hF2⟩
    have hF3 : Fr K.has w w' := (hF.mono (T' := K.has) fun i _ q => by
        rcases q with rfl | rfl
        · exact .inr (.inr hnp)
        · exact .inr (.inr hnn)).trans hF2 fun i _ q => by
      rcases q with rfl | rfl | rfl
      · exact .inr (.inr (.inr hgm))
      · exact .inr (.inr (.inl rfl))
      · exact .inr (.inr (hlast.imp id (hsub _)))
    have hT : ∀ x, (x = K.c ∨ x = K.mb) → ¬ (x = g ∨ x = K.e ∨ x = (leaveM K.M g K.e).pv) := by
      rintro x hx (e | e | e)
      · rcases hx with rfl | rfl
        · exact hC.cne (.inr hgm) e.symm
        · exact hC.mne (.inr hgm) e.symm
      · rcases hx with rfl | rfl
        · exact hC.cne (.inl rfl) e.symm
        · exact hC.mne (.inl rfl) e.symm
      · rcases hx with rfl | rfl
        · exact hC.cne (hlast.imp id (hsub _)) e.symm
        · exact hC.mne (hlast.imp id (hsub _)) e.symm
    have hsz := hF.size
    have hlr : ∀ x, hld (leaveM K.M g) x = hld K.M x := fun x => by
      obtain ⟨a1, a2, a3⟩ := leave_rest K.M g x
      unfold hld
      rw [a1, a2, a3]
    have hrow : s.row = p.map (hld K.M) ++ hld K.M g :: q.map (hld K.M) := by rw [hC.holds, hns]; simp
    have hperm : ((p ++ q).map (hld K.M) ++ [hld K.M g]).Perm s.row := by
      rw [hrow, List.map_append]
      refine (List.perm_append_comm).trans ?_
      exact (List.perm_middle (l₁ := p.map (hld K.M)) (l₂ := q.map (hld K.M)) (a := hld K.M g)).symm
    have hfn : fastN ((p ++ q).map (hld K.M) ++ [hld K.M g]) = fastN s.row := hperm.countP_eq _
    have hok : COk { s with row := (p ++ q).map (hld K.M) ++ [hld K.M g] } :=
      ⟨hC.ok.size, by show (((p ++ q).map (hld K.M) ++ [hld K.M g]).length : Int) ≤ s.size; rw [hperm.length_eq]; exact hC.ok.len, fun x hx => hC.ok.pos x (hperm.subset hx), ((hperm.map _).nodup_iff).2 hC.ok.nodup⟩
    have hpM : ∀ x, posOf (standM (setM (leaveM K.M g) g (leaveM K.M g g)) g K.e) x = posOf K.M x := fun x => by
      rw [setM_self]
      exact ((stand_rest (leaveM K.M g) g K.e x).1).trans (leave_rest K.M g x).1
    have hnsp : ((p ++ q) ++ [g]).Perm K.ns := by
      rw [hns]
      exact (List.perm_append_comm).trans (List.perm_middle (l₁ := p) (l₂ := q) (a := g)).symm
    refine ⟨rfl, standM (setM (leaveM K.M g) g (leaveM K.M g g)) g K.e, ?_, ?_, hF3⟩
    · refine cache_stood (K := K) (s := { s with row := (p ++ q).map (hld K.M) ++ [hld K.M g] }) hnd2 hseg ?_ ?_ hN2 ?_ hok
      · have e1 : ckRow K { s with row := (p ++ q).map (hld K.M) ++ [hld K.M g] } = ckRow K s := by unfold ckRow; simp only [hfn]
        rw [e1]
        exact (hF2.block K.c (by have := hC.lt _ (.inl rfl); omega) (hT _ (.inl rfl))).trans hcW
      · have e1 := mapV_ext (M := K.M) (M' := standM (setM (leaveM K.M g) g (leaveM K.M g g)) g K.e) (ns := K.ns) (ns' := (p ++ q) ++ [g]) hC.posNd
          (by rw [List.map_congr_left fun x _ => hpM x]; exact ((hnsp.map _).nodup_iff).2 hC.posNd) (fun x => (hnsp.mem_iff).symm) fun x _ => hpM x
        rw [← e1]
        exact hmW.kept (hF2.block K.mb (by have := hC.lt _ (.inr (.inl rfl)); omega) (hT _ (.inr rfl)))
      · show (p ++ q).map (hld K.M) ++ [hld K.M g] = _
        congr 1
        · exact List.map_congr_left fun x _ => (hlr x).symm
        · rw [← hlr g]
          rfl
    · rw [setM_self]
      obtain ⟨a1, a2, a3⟩ := stand_rest (leaveM K.M g) g K.e g
      rw [← hlr g]
      unfold hld
      rw [a1, a2, a3]
  clear hb h hC hns hg hgm near hnp hnn hnd hnd2 hseg
  generalize (p ++ q).map (hld K.M) ++ [hld K.M g] = R at *
  have HL : Hid (Calls Tryz.prog 250 #[ptr g] w fun e w' => e = .returned (.tuple #[]) ∧ Nodes w' (leaveM K.M g) (fun k => k = K.e ∨ k ∈ K.ns) ∧ Fr (fun k => k = (K.M g).pv ∨ k = (K.M g).nx) w w') := hL
  clear hL
  unfold nilp at z71
  unfold ptr at c3 c4 hmv hR ⊢
  go_enter Tryz.func213, Tryz.ntmps213
  go_wp2_with (first | (go_at_call 223; refine hR.mono ?_; rintro e W ⟨rfl, rfl⟩) | (refine wpList_lookM_some rfl (.tmp 18) (.tmp 19) 239 rfl 236 Tryz.underlying3 keyed3 Tryz.underlying239 rfl hmap (z71 _) k hwf rfl _ hmv ?_) | (go_at_call 250; fail))
  refine HL.out.mono ?_
  rintro e W1 ⟨rfl, hN1, hF1⟩
  obtain ⟨d4, hst⟩ := HS.out W1 hN1 hF1
  unfold ptr at d4 hst
  have HST : Hid (Calls Tryz.prog 252 _ W1 _) := hst
  clear HS HL hN1 hF1 hst hmap
  go_wp2_with (go_at_call 252; fail)
  refine HST.out.mono ?_
  rintro e W2 ⟨rfl, M', h1, h2, h3⟩
  have H1 : Hid (CacheAt W2 _ _) := h1
  have H2 : Hid (hld M' g = hld K.M g) := h2
  have H3 : Hid (Fr K.has _ W2) := h3
  clear h1 h2 h3 HST
  go_wp2
  go_ret3
  exact ⟨rfl, M', H1.out, H2.out, H3.out⟩
end Go.Proofs.YtiejhjngcnkimaaGreatRW
/- A block that a cache does not hold is used: where all are held fast, refused; else a place is made; no condition. -/
namespace Go.Proofs.YtiejhjngcnkimaaGreatRW
open Go.RowKit Go.Maps
variable {w : World} {K : KLoc} {L : Loc} {s : CSt} {t : St}
theorem fastN_le (r : List Hld) : fastN r ≤ r.length := List.countP_le_length
theorem placeR_sub (n : Int) (r : List Hld) : (placeR n r).Sublist r := by
  unfold placeR
  split
  · exact List.Sublist.refl _
  · exact List.eraseP_sublist
theorem placeR_len (ok : COk s) (hf : (fastN s.row : Int) ≠ s.size) : ((placeR s.size s.row).length : Int) + 1 ≤ s.size := by
  have h1 := fastN_le s.row
  have h2 := ok.len
  unfold placeR
  split
  · omega
  · have hlt : fastN s.row < s.row.length := by omega
    have hex : ∃ a ∈ s.row, (!a.fast) = true := by
      apply Classical.byContradiction
      intro hn
      have : fastN s.row = s.row.length := List.countP_eq_length.2 fun a ha => by
        cases hq : a.fast
        · exact absurd ⟨a, ha, by rw [hq]; rfl⟩ hn
        · rfl
      omega
    obtain ⟨a, ha, hp⟩ := hex
    rw [List.length_eraseP_of_mem ha hp]
    omega
set_option maxRecDepth 20000 in
set_option maxHeartbeats 2000000 in
theorem use_full (h : CD w K L s t) {k : Int} (hb : refV t k = 0) (hno : ∀ g ∈ K.ns, posOf K.M g ≠ k) (hf : (fastN s.row : Int) = s.size) :
    Calls Tryz.prog 213 #[ptr K.c, .int .i64 k] w fun e w' => e = .returned (.tuple #[nilp, .bool false, .int .i64 160]) ∧ w' = w.drew := by
  have hR := refusesC_of h k
  rw [hb] at hR
  have hwf : (Lit.int .i64 k).wf = true := inTop.wf (inTop_of h.disk.ok (refV_ok hb).2)
  have hmv := mapV_none hno
  have hmap := h.cache.map
  have c2 := h.cache.c2
  have c3 := h.cache.c3
  have c5 := h.cache.c5
  rw [hf] at c5
  have z71 := zero71
  clear h hb hno hf
  unfold nilp at z71 ⊢
  unfold ptr at c3 hR ⊢
  go_enter Tryz.func213, Tryz.ntmps213
  go_wp2_with (first | (go_at_call 223; refine hR.mono ?_; rintro e W ⟨rfl, rfl⟩) | (refine wpList_lookM_none rfl (.tmp 18) (.tmp 19) 239 rfl 236 Tryz.underlying3 keyed3 Tryz.underlying239 rfl hmap (z71 _) k hwf rfl hmv ?_))
  go_region
  go_wp2
  go_ret3
  exact ⟨rfl, rfl⟩
set_option maxRecDepth 20000 in
set_option maxHeartbeats 2000000 in
theorem use_new (h : CD w K L s t) {k : Int} (hb : refV t k = 0) (hno : ∀ g ∈ K.ns, posOf K.M g ≠ k) (hf : (fastN s.row : Int) ≠ s.size) :
    Calls Tryz.prog 213 #[ptr K.c, .int .i64 k] w fun e w' => ∃ K' g l, e = .returned (.tuple #[ptr g, .bool true, .int .i64 0]) ∧ K'.ns = l ++ [g] ∧
      CacheAt w' K' { s with row := placeR s.size s.row ++ [⟨k, false, nought⟩] } ∧ hld K'.M g = ⟨k, false, nought⟩ ∧ K'.c = K.c ∧ K'.d = K.d ∧ (∀ i, K'.has i → K.has i ∨ w.heap.size ≤ i) ∧ Fr K.has w w' := by
  have hR := refusesC_of h k
  rw [hb] at hR
  have hin := inTop_of h.disk.ok (refV_ok hb).2
  have hwf : (Lit.int .i64 k).wf = true := inTop.wf hin
  have hmv := mapV_none hno
  have hC := h.cache
  have hmap := hC.map
  have c2 := hC.c2
  have c3 := hC.c3
  have c5 := hC.c5
  have z71 := zero71
  have hle := fastN_le s.row
  have hlen := hC.ok.len
  have hne : ((fastN s.row : Int) == s.size) = false := by simp [hf]
  have HD : CacheAt w.drew K s := hC.fr (Fr.drew (T := fun _ => False) w) fun _ _ q => q
  have HPl : Hid (Calls Tryz.prog 251 #[ptr K.c] w.drew fun e w' => e = .returned (.tuple #[]) ∧ ∃ K', CacheAt w' K' { s with row := placeR s.size s.row } ∧ K'.c = K.c ∧ K'.d = K.d ∧ K'.e = K.e ∧ K'.mb = K.mb ∧ (∀ k ∈ K'.ns, k ∈ K.ns) ∧ Fr K.has w.drew w') :=
    place_of HD (by omega)
  have hpl := placeR_len hC.ok hf
  have hps := placeR_sub s.size s.row
  have hposR : ∀ x ∈ placeR s.size s.row, x.pos ≠ k := by
    intro x hx
    have hx' := hps.subset hx
    rw [hC.holds] at hx'
    obtain ⟨g, hg, rfl⟩ := List.mem_map.1 hx'
    exact hno g hg
  have hnodR : ((placeR s.size s.row).map (·.pos)).Nodup := hC.ok.nodup.sublist (hps.map _)
  have hsize := hC.ok.size
  have hb98 := built98k k
  have HS : Hid (∀ W1 K1, CacheAt W1 K1 { s with row := placeR s.size s.row } → K1.c = K.c → K1.d = K.d → K1.e = K.e → K1.mb = K.mb → (∀ k ∈ K1.ns, k ∈ K.ns) → Fr K.has w.drew W1 →
      MapIs Tryz.prog 3 (W1.alloc (.cells (rowV k false nilp nilp nought) 238)) K.mb (mapV K1.M K1.ns) ∧
      (W1.alloc (.cells (rowV k false nilp nilp nought) 238)).cell? ⟨K.c, 3, none⟩ = some (.map (some K.mb)) ∧
      ∀ W3, MapIs Tryz.prog 3 W3 K.mb (fun y => if y = k then some (ptr W1.heap.size) else mapV K1.M K1.ns y) → (W1.alloc (.cells (rowV k false nilp nilp nought) 238)).grownBy W3 (some K.mb) →
        W3.cell? ⟨K.c, 4, none⟩ = some (ptr K.e) ∧
        Calls Tryz.prog 252 #[ptr W1.heap.size, ptr K.e] W3 fun x w' => x = .returned (.tuple #[]) ∧
          ∃ K' l, K'.ns = l ++ [W1.heap.size] ∧ CacheAt w' K' { s with row := placeR s.size s.row ++ [⟨k, false, nought⟩] } ∧ hld K'.M W1.heap.size = ⟨k, false, nought⟩ ∧ K'.c = K.c ∧ K'.d = K.d ∧ (∀ i, K'.has i → K.has i ∨ w.heap.size ≤ i) ∧ Fr K.has w w') := by
    intro W1 K1 h1 hc1 hd1 he1 hm1 hn1 hF1
    have hb1 := below_new W1 (.cells (rowV k false nilp nilp nought) 238)
    have ht1 := heap_alloc_new W1 (.cells (rowV k false nilp nilp nought) 238)
    have hd3 : (W1.alloc (.cells (rowV k false nilp nilp nought) 238)).cell? ⟨K.c, 3, none⟩ = some (.map (some K.mb)) := by
      rw [← hc1, Joins.cell_of_block ((hb1.block _ (h1.lt _ (.inl rfl))).trans h1.row), ← hm1]
      rfl
    refine ⟨by rw [← hm1]; exact h1.map.kept (hb1.block _ (h1.lt _ (.inr (.inl rfl)))), hd3, ?_⟩
    intro W3 hm3 hg3
    have f2 : Fr (fun i => i = K.mb) (W1.alloc (.cells (rowV k false nilp nilp nought) 238)) W3 := (Fr.ofGrown hg3).mono fun i _ q => by injection q with q; exact q.symm
    have f1 : Fr (fun _ => False) W1 (W1.alloc (.cells (rowV k false nilp nilp nought) 238)) := Fr.alloc _ _ _
    have f12 : Fr (fun i => i = K.mb) W1 W3 := (f1.mono (T' := fun i => i = K.mb) fun _ _ q => q.elim).trans f2 fun _ _ q => q
    have hN3 : Nodes W3 K1.M (fun x => x = K1.e ∨ x ∈ K1.ns) := h1.nodes.kept fun x hx => f12.block x (h1.lt x (.inr (.inr hx))) (by rw [← hm1]; exact h1.mne hx)
    have hgm : W1.heap.size ≠ K.mb := by have := h1.lt K1.mb (.inr (.inl rfl)); rw [hm1] at this; omega
    have hr3 : RowAt W3 W1.heap.size k false nilp nilp nought := (f2.block W1.heap.size (by simp) hgm).trans ht1
    have hc3 : W3.heap[K1.c]? = some (.cells (ckRow K1 { s with row := placeR s.size s.row }) 241) := (f12.block K1.c (h1.lt _ (.inl rfl)) (by rw [← hm1]; exact h1.cm)).trans h1.row
    refine ⟨?_, ?_⟩
    · rw [← hc1, Joins.cell_of_block hc3, ← he1]
      rfl
    have hgS : ¬ (W1.heap.size = K1.e ∨ W1.heap.size ∈ K1.ns) := fun hx => by have := h1.lt _ (.inr (.inr hx)); omega
    have hlast : (K1.M K1.e).pv = K1.e ∨ (K1.M K1.e).pv ∈ K1.ns := List.mem_cons.1 (seg_last h1.ring)
    have hst := stand_of (S := fun x => x = K1.e ∨ x ∈ K1.ns) hN3 (h := W1.heap.size) (e := K1.e) (n := ⟨k, false, 0, 0, nought⟩) hgS (.inl rfl) hlast hr3
    rw [he1] at hst
    refine hst.mono ?_
    rintro e w' ⟨rfl, hN4, hF4⟩
    rw [← he1] at hN4 hF4
    have hnd2 : (W1.heap.size :: K1.e :: K1.ns).Nodup := List.nodup_cons.2 ⟨fun hx => hgS (List.mem_cons.1 hx), h1.nd⟩
    have hT : ∀ x, (x = K1.c ∨ x = K1.mb) → ¬ (x = W1.heap.size ∨ x = K1.e ∨ x = (K1.M K1.e).pv) := by
      rintro x hx (e | e | e)
      · have : x < W1.heap.size := by
          rcases hx with rfl | rfl
          · exact h1.lt _ (.inl rfl)
          · exact h1.lt _ (.inr (.inl rfl))
        omega
      · rcases hx with rfl | rfl
        · exact h1.cne (.inl rfl) e.symm
        · exact h1.mne (.inl rfl) e.symm
      · rcases hx with rfl | rfl
        · exact h1.cne hlast e.symm
        · exact h1.mne hlast e.symm
    have hsz13 := f12.size
    have hlt1 : ∀ x, K1.has x → x < W3.heap.size := fun x hx => by have := h1.lt x hx; omega
    have hK1 : ∀ x, K1.has x → K.has x := by
      rintro x (q | q | q | q)
      · exact .inl (by rw [q, hc1])
      · exact .inr (.inl (by rw [q, hm1]))
      · exact .inr (.inr (.inl (by rw [q, he1])))
      · exact .inr (.inr (.inr (hn1 x q)))
    have hpM : ∀ x, x ≠ W1.heap.size → posOf (standM (setM K1.M W1.heap.size ⟨k, false, 0, 0, nought⟩) W1.heap.size K1.e) x = posOf K1.M x := fun x hx => by
      refine ((stand_rest _ _ _ x).1).trans ?_
      unfold posOf
      rw [setM_other _ _ _ hx]
    have hpG : posOf (standM (setM K1.M W1.heap.size ⟨k, false, 0, 0, nought⟩) W1.heap.size K1.e) W1.heap.size = k := by
      refine ((stand_rest _ _ _ _).1).trans ?_
      rw [setM_same]
    have hne1 : ∀ x ∈ K1.ns, x ≠ W1.heap.size := fun x hx e => hgS (.inr (e ▸ hx))
    have hrow1 : placeR s.size s.row = K1.ns.map (hld K1.M) := h1.holds
    have hfn : fastN (placeR s.size s.row ++ [⟨k, false, nought⟩]) = fastN (placeR s.size s.row) := by simp [fastN, List.countP_append]
    have hok : COk { s with row := placeR s.size s.row ++ [⟨k, false, nought⟩] } := by
      refine ⟨hsize, ?_, ?_, ?_⟩
      · show ((placeR s.size s.row ++ [(⟨k, false, nought⟩ : Hld)]).length : Int) ≤ s.size
        rw [List.length_append]
        simpa using hpl
      · intro x hx
        rcases List.mem_append.1 hx with hx | hx
        · exact h1.ok.pos x hx
        · obtain rfl : x = ⟨k, false, nought⟩ := by simpa using hx
          exact ⟨hin, can_nought⟩
      · show ((placeR s.size s.row ++ [(⟨k, false, nought⟩ : Hld)]).map (·.pos)).Nodup
        rw [List.map_append, List.nodup_append]
        refine ⟨hnodR, by simp, ?_⟩
        intro a ha b hb e
        obtain ⟨x, hx, rfl⟩ := List.mem_map.1 ha
        simp at hb
        exact hposR x hx (e.trans hb)
    have hndm : ((K1.ns ++ [W1.heap.size]).map (posOf (standM (setM K1.M W1.heap.size ⟨k, false, 0, 0, nought⟩) W1.heap.size K1.e))).Nodup := by
      rw [List.map_append, List.map_congr_left fun x hx => hpM x (hne1 x hx)]
      have := hok.nodup
      rw [List.map_append] at this
      have e1 : (placeR s.size s.row).map (·.pos) = K1.ns.map (posOf K1.M) := by rw [hrow1, List.map_map]; rfl
      rw [e1] at this
      simpa [hpG] using this
    refine ⟨rfl, { K1 with ns := K1.ns ++ [W1.heap.size], M := standM (setM K1.M W1.heap.size ⟨k, false, 0, 0, nought⟩) W1.heap.size K1.e }, K1.ns, rfl, ?_, ?_, hc1, hd1, ?_, ?_⟩
    · refine cache_stood (K := K1) (n := ⟨k, false, 0, 0, nought⟩) hnd2 h1.ring ?_ ?_ hN4 ?_ hok
      · have e1 : ckRow K1 { s with row := placeR s.size s.row ++ [⟨k, false, nought⟩] } = ckRow K1 { s with row := placeR s.size s.row } := by unfold ckRow; simp only [hfn]
        rw [e1]
        exact (hF4.block K1.c (hlt1 _ (.inl rfl)) (hT _ (.inl rfl))).trans hc3
      · have e1 := mapV_add (M := K1.M) (ns := K1.ns) (g := W1.heap.size) hndm fun x hx => hpM x (hne1 x hx)
        rw [hpG] at e1
        rw [← e1]
        rw [← hm1] at hm3
        exact hm3.kept (hF4.block K1.mb (hlt1 _ (.inr (.inl rfl))) (hT _ (.inr rfl)))
      · show placeR s.size s.row ++ [(⟨k, false, nought⟩ : Hld)] = _
        rw [hrow1]
    · obtain ⟨a1, a2, a3⟩ := stand_rest (setM K1.M W1.heap.size ⟨k, false, 0, 0, nought⟩) W1.heap.size K1.e W1.heap.size
      unfold hld
      rw [a1, a2, a3, setM_same]
    · have hsw : w.heap.size ≤ W1.heap.size := hF1.size
      rintro i (q | q | q | q)
      · exact .inl (hK1 i (.inl q))
      · exact .inl (hK1 i (.inr (.inl q)))
      · exact .inl (hK1 i (.inr (.inr (.inl q))))
      · have q : i ∈ K1.ns ++ [W1.heap.size] := q
        rcases List.mem_append.1 q with q | q
        · exact .inl (hK1 i (.inr (.inr (.inr q))))
        · simp at q
          exact .inr (by omega)
    · have g1 : Fr K.has w W1 := (Fr.drew (T := K.has) w).trans hF1 fun _ _ q => q
      have g2 : Fr K.has w W3 := g1.trans f12 fun i _ q => by rw [q]; exact .inr (.inl rfl)
      refine g2.trans hF4 fun i hi q => ?_
      rcases q with q | q | q
      · have := hF1.size
        have e1 : w.drew.heap.size = w.heap.size := rfl
        omega
      · exact .inr (.inr (.inl (by rw [q, he1])))
      · exact hK1 i (by rw [q]; exact .inr (.inr hlast))
  clear hb h hC hno hf HD hpl hps hposR hnodR hsize
  generalize placeR s.size s.row ++ [(⟨k, false, nought⟩ : Hld)] = R at *
  generalize placeR s.size s.row = R1 at *
  generalize rowV k false nilp nilp nought = Z at *
  unfold nilp at z71
  unfold ptr at c3 hR ⊢
  go_enter Tryz.func213, Tryz.ntmps213
  go_wp2_with (first | (go_at_call 223; refine hR.mono ?_; rintro e W ⟨rfl, rfl⟩) | (refine wpList_lookM_none rfl (.tmp 18) (.tmp 19) 239 rfl 236 Tryz.underlying3 keyed3 Tryz.underlying239 rfl hmap (z71 _) k hwf rfl hmv ?_))
  go_region
  go_wp2_with (go_at_call 251; fail)
  refine HPl.out.mono ?_
  rintro e W1 ⟨rfl, K1, h1, hc1, hd1, he1, hm1, hn1, hF1⟩
  obtain ⟨hm2, d3, hst⟩ := HS.out W1 K1 h1 hc1 hd1 he1 hm1 hn1 hF1
  have HST : Hid (∀ W3, MapIs Tryz.prog 3 W3 K.mb (fun y => if y = k then some (ptr W1.heap.size) else mapV K1.M K1.ns y) → (W1.alloc (.cells Z 238)).grownBy W3 (some K.mb) →
        W3.cell? ⟨K.c, 4, none⟩ = some (ptr K.e) ∧ Calls Tryz.prog 252 #[ptr W1.heap.size, ptr K.e] W3 _) := hst
  clear HS HPl h1 hc1 hd1 he1 hm1 hn1 hF1 hst hmap hmv c3 c5 c2
  go_wp2_with (first | (refine wpList_build98k rfl _ rfl k rfl hb98 ?_) | (refine wpList_putM rfl (.tmp 31) (.tmp 32) (.tmp 33) 239 rfl 236 Tryz.underlying3 keyed3 Tryz.underlying239 K.mb _ rfl hm2 k hin rfl _ rfl ?_; intro W3 hm3 hg3; obtain ⟨d4, hcall⟩ := HST.out W3 hm3 hg3; have HCall : Hid (Calls Tryz.prog 252 _ W3 _) := hcall; clear HST hcall hm2 hg3 hm3; unfold ptr at d4) | (go_at_call 252; fail))
  refine HCall.out.mono ?_
  rintro e W4 ⟨rfl, K', l, a1, a2, a3, a4, a5, a6, a7⟩
  have HR : Hid _ := (⟨K', W1.heap.size, l, rfl, a1, a2, a3, a4, a5, a6, a7⟩ : ∃ K' g l, (Ending.returned (.tuple #[ptr W1.heap.size, .bool true, .int .i64 0])) = .returned (.tuple #[ptr g, .bool true, .int .i64 0]) ∧ K'.ns = l ++ [g] ∧
      CacheAt W4 K' { s with row := R } ∧ hld K'.M g = ⟨k, false, nought⟩ ∧ K'.c = K.c ∧ K'.d = K.d ∧ (∀ i, K'.has i → K.has i ∨ _ ≤ i) ∧ Fr K.has _ W4)
  clear a1 a2 a3 a4 a5 a6 a7
  go_wp2
  go_ret3
  exact HR.out
end Go.Proofs.YtiejhjngcnkimaaGreatRW
/- What a cache is behind a use of a block, as plain functions; the contract of use in one form; a holding's bytes and its flag turned; no condition. -/
namespace Go.Proofs.YtiejhjngcnkimaaGreatRW
open Go.RowKit Go.Maps
variable {w : World} {K : KLoc} {L : Loc} {s : CSt} {t : St}
def atR (r : List Hld) (k : Int) : Option Hld := r.find? (fun h => h.pos == k)
def goneR (r : List Hld) (k : Int) : List Hld := r.eraseP (fun h => h.pos == k)
def usedE (s : CSt) (t : St) (k : Int) : Int := if refV t k ≠ 0 then refV t k else if atR s.row k = none ∧ (fastN s.row : Int) = s.size then 160 else 0
def useP (s : CSt) (k : Int) : List Hld × Hld × Bool := match atR s.row k with
  | some h => (goneR s.row k, h, false)
  | none => (placeR s.size s.row, ⟨k, false, nought⟩, true)
theorem atR_none (h : CacheAt w K s) {k : Int} (ha : atR s.row k = none) : ∀ g ∈ K.ns, posOf K.M g ≠ k := by
  intro g hg e
  unfold atR at ha
  rw [h.holds] at ha
  have := List.find?_eq_none.1 ha (hld K.M g) (List.mem_map.2 ⟨g, hg, rfl⟩)
  exact this (by show ((K.M g).pos == k) = true; rw [show (K.M g).pos = k from e]; simp)
theorem find_map {f : Nat → Hld} {P : Hld → Bool} : ∀ (l : List Nat) (x : Hld), (l.map f).find? P = some x → ∃ p g q, l = p ++ g :: q ∧ f g = x ∧ P x = true ∧ ∀ a ∈ p, P (f a) = false
  | [], x, h => by simp at h
  | a :: t, x, h => by
    rw [List.map_cons, List.find?_cons] at h
    cases hp : P (f a) with
    | true =>
      rw [hp] at h
      injection h with h
      exact ⟨[], a, t, rfl, h, by rw [← h]; exact hp, by simp⟩
    | false =>
      rw [hp] at h
      obtain ⟨p, g, q, h1, h2, h3, h4⟩ := find_map t x h
      refine ⟨a :: p, g, q, by rw [h1]; rfl, h2, h3, fun b hb => ?_⟩
      rcases List.mem_cons.1 hb with rfl | hb
      · exact hp
      · exact h4 b hb
theorem atR_some (h : CacheAt w K s) {k : Int} {x : Hld} (ha : atR s.row k = some x) : ∃ p g q, K.ns = p ++ g :: q ∧ hld K.M g = x ∧ posOf K.M g = k ∧ goneR s.row k = (p ++ q).map (hld K.M) ∧ x.pos = k := by
  unfold atR at ha
  rw [h.holds] at ha
  obtain ⟨p, g, q, h1, h2, h3, h4⟩ := find_map K.ns x ha
  have hk : x.pos = k := by simpa using h3
  refine ⟨p, g, q, h1, h2, by rw [← hk, ← h2]; rfl, ?_, hk⟩
  unfold goneR
  rw [h.holds, h1, List.map_append, List.map_cons, eraseP_split (fun a ha => by
    obtain ⟨y, hy, rfl⟩ := List.mem_map.1 ha
    exact h4 y hy) (by rw [h2]; exact h3), List.map_append]
theorem use_ok (h : CD w K L s t) {k : Int} (hu : usedE s t k = 0) :
    Calls Tryz.prog 213 #[ptr K.c, .int .i64 k] w fun e w' => ∃ K' g l, e = .returned (.tuple #[ptr g, .bool (useP s k).2.2, .int .i64 0]) ∧ K'.ns = l ++ [g] ∧
      hld K'.M g = (useP s k).2.1 ∧ CD w' K' L { s with row := (useP s k).1 ++ [(useP s k).2.1] } t ∧ GoesC w w' K L K' L := by
  have hb : refV t k = 0 := by
    apply Classical.byContradiction
    intro hb
    unfold usedE at hu
    rw [if_pos hb] at hu
    exact hb hu
  unfold useP
  cases ha : atR s.row k with
  | some x =>
    obtain ⟨p, g, q, h1, h2, h3, h4, _⟩ := atR_some h.cache ha
    refine (use_held h hb h1 h3).mono ?_
    rintro e w' ⟨rfl, M', a1, a2, a3⟩
    rw [← h4, h2] at a1
    obtain ⟨b1, b2⟩ := h.caches a1 rfl rfl (by
      rintro i (r | r | r | r)
      · exact .inl (.inl r)
      · exact .inl (.inr (.inl r))
      · exact .inl (.inr (.inr (.inl r)))
      · refine .inl (.inr (.inr (.inr ?_)))
        have r : i ∈ (p ++ q) ++ [g] := r
        rw [h1]
        simp at r ⊢
        rcases r with r | r | r <;> simp [r]) a3
    exact ⟨_, g, p ++ q, rfl, rfl, a2.trans h2, b1, b2⟩
  | none =>
    have hf : (fastN s.row : Int) ≠ s.size := by
      intro e
      unfold usedE at hu
      rw [if_neg (by simp [hb]), if_pos ⟨ha, e⟩] at hu
      cases hu
    refine (use_new h hb (atR_none h.cache ha) hf).mono ?_
    rintro e w' ⟨K', g, l, rfl, a1, a2, a3, a4, a5, a6, a7⟩
    obtain ⟨b1, b2⟩ := h.caches a2 a4 a5 a6 a7
    exact ⟨K', g, l, rfl, a1, a3, b1, b2⟩
theorem use_err (h : CD w K L s t) {k : Int} (hu : usedE s t k ≠ 0) :
    Calls Tryz.prog 213 #[ptr K.c, .int .i64 k] w fun e w' => e = .returned (.tuple #[nilp, .bool false, .int .i64 (usedE s t k)]) ∧ Below w.heap.size w w' := by
  unfold usedE at hu ⊢
  by_cases hb : refV t k = 0
  · rw [if_neg (by simp [hb])] at hu ⊢
    by_cases hf : atR s.row k = none ∧ (fastN s.row : Int) = s.size
    · rw [if_pos hf]
      refine (use_full h hb (atR_none h.cache hf.1) hf.2).mono ?_
      rintro e w' ⟨rfl, rfl⟩
      exact ⟨rfl, ⟨rfl, rfl, rfl, Nat.le_refl _, fun _ _ => rfl⟩⟩
    · rw [if_neg hf] at hu
      exact absurd rfl hu
  · rw [if_pos hb]
    refine (use_bad h hb).mono ?_
    rintro e w' ⟨rfl, rfl⟩
    exact ⟨rfl, Below.refl _ _⟩
theorem CacheAt.turn {w' : World} (h : CacheAt w K s) {g : Nat} (hg : g ∈ K.ns) (n : Nd) (hl : n.pv = (K.M g).pv ∧ n.nx = (K.M g).nx ∧ n.pos = (K.M g).pos) {s' : CSt} (hsz : s'.size = s.size)
    (hrow : s'.row = K.ns.map (hld (setM K.M g n))) (hcan : Can n.dat) (hc : w'.heap[K.c]? = some (.cells (ckRow K s') 241)) (hm : w'.heap[K.mb]? = w.heap[K.mb]?)
    (hN : Nodes w' (setM K.M g n) (fun x => x = K.e ∨ x ∈ K.ns)) : CacheAt w' { K with M := setM K.M g n } s' := by
  have e1 : ∀ x, (setM K.M g n x).pv = (K.M x).pv ∧ (setM K.M g n x).nx = (K.M x).nx ∧ (setM K.M g n x).pos = (K.M x).pos := fun x => by
    unfold setM
    split
    · next q => rw [q]; exact hl
    · exact ⟨rfl, rfl, rfl⟩
  have hpos : s'.row.map (·.pos) = s.row.map (·.pos) := by
    rw [hrow, h.holds, List.map_map, List.map_map]
    exact List.map_congr_left fun x _ => (e1 x).2.2
  refine ⟨hc, ?_, hN, ?_, h.nd, hrow, ?_⟩
  · have e2 : mapV (setM K.M g n) K.ns = mapV K.M K.ns := by
      unfold mapV posOf
      funext k
      have : (fun x => (setM K.M g n x).pos == k) = fun x => (K.M x).pos == k := by funext x; rw [(e1 x).2.2]
      rw [this]
    show MapIs Tryz.prog 3 w' K.mb (mapV (setM K.M g n) K.ns)
    rw [e2]
    exact h.map.kept hm
  · refine seg_mono _ _ _ h.ring fun x y _ _ hxy => ?_
    unfold Lnk
    rw [(e1 x).2.1, (e1 y).1]
    exact hxy
  · refine ⟨by rw [hsz]; exact h.ok.size, ?_, ?_, by rw [hpos]; exact h.ok.nodup⟩
    · have : s'.row.length = s.row.length := by rw [hrow, h.holds]; simp
      rw [this, hsz]
      exact h.ok.len
    · intro x hx
      rw [hrow] at hx
      obtain ⟨y, hy, rfl⟩ := List.mem_map.1 hx
      have h1 := h.ok.pos (hld K.M y) (by rw [h.holds]; exact List.mem_map.2 ⟨y, hy, rfl⟩)
      by_cases e : y = g
      · subst e
        refine ⟨?_, ?_⟩
        · show inTop (setM K.M y n y).pos
          rw [(e1 y).2.2]
          exact h1.1
        · show Can (setM K.M y n y).dat
          rw [setM_same]
          exact hcan
      · unfold hld
        rw [setM_other _ _ _ e]
        exact h1
theorem hld_set {K : KLoc} (hn : K.ns.Nodup) {p q : List Nat} {g : Nat} (hns : K.ns = p ++ g :: q) (n : Nd) : K.ns.map (hld (setM K.M g n)) = p.map (hld K.M) ++ ⟨n.pos, n.fast, n.dat⟩ :: q.map (hld K.M) := by
  rw [hns] at hn ⊢
  have hg : ∀ x ∈ p ++ q, x ≠ g := by
    rintro x hx rfl
    have := (List.perm_middle.nodup_iff).1 hn
    exact (List.nodup_cons.1 this).1 hx
  rw [List.map_append, List.map_cons]
  congr 1
  · refine List.map_congr_left fun x hx => ?_
    unfold hld
    rw [setM_other _ _ _ (hg x (by simp [hx]))]
  · congr 1
    · unfold hld
      rw [setM_same]
    · refine List.map_congr_left fun x hx => ?_
      unfold hld
      rw [setM_other _ _ _ (hg x (by simp [hx]))]
theorem CacheAt.bytes (h : CacheAt w K s) {p q : List Nat} {g : Nat} (hns : K.ns = p ++ g :: q) {f : Nat → Int} (hf : Can f) :
    CacheAt (w.setCells g 4 (blk f).toList) { K with M := setM K.M g { K.M g with dat := f } } { s with row := p.map (hld K.M) ++ ⟨(K.M g).pos, (K.M g).fast, f⟩ :: q.map (hld K.M) } ∧ Fr (fun i => i = g) w (w.setCells g 4 (blk f).toList) := by
  have hgm : g ∈ K.ns := by rw [hns]; simp
  have hF := Fr.setCells w g 4 (blk f).toList
  have hset := hld_set (List.nodup_cons.1 h.nd).2 hns { K.M g with dat := f }
  refine ⟨h.turn hgm { K.M g with dat := f } ⟨rfl, rfl, rfl⟩ rfl hset.symm hf ?_ ?_ ?_, hF⟩
  · refine (heap_setCells g _ _ w K.c (h.cne (.inr hgm)).symm).trans ?_
    rw [h.row]
    have e1 : fastN (p.map (hld K.M) ++ ⟨(K.M g).pos, (K.M g).fast, f⟩ :: q.map (hld K.M)) = fastN s.row := by
      rw [h.holds, hns]
      simp [fastN, List.countP_append, List.countP_cons, hld]
    unfold ckRow
    simp only [e1]
  · exact heap_setCells g _ _ w K.mb (h.mne (.inr hgm)).symm
  · intro x hx
    by_cases e : x = g
    · subst e
      rw [setM_same]
      exact (h.nodes x hx).setD f
    · rw [setM_other _ _ _ e]
      exact (heap_setCells g _ _ w x e).trans (h.nodes x hx)
theorem CacheAt.flag (h : CacheAt w K s) {p q : List Nat} {g : Nat} (hns : K.ns = p ++ g :: q) (b : Bool) {m : Int}
    (hm : m = (fastN (p.map (hld K.M) ++ ⟨(K.M g).pos, b, (K.M g).dat⟩ :: q.map (hld K.M)) : Nat)) {w' : World} (hw : w' = (w.setCell ⟨g, 1, none⟩ (.bool b)).setCell ⟨K.c, 5, none⟩ (.int .i64 m)) :
    CacheAt w' { K with M := setM K.M g { K.M g with fast := b } } { s with row := p.map (hld K.M) ++ ⟨(K.M g).pos, b, (K.M g).dat⟩ :: q.map (hld K.M) } ∧ Fr K.has w w' := by
  subst hw
  have hgm : g ∈ K.ns := by rw [hns]; simp
  have hF : Fr K.has w ((w.setCell ⟨g, 1, none⟩ (.bool b)).setCell ⟨K.c, 5, none⟩ (.int .i64 m)) :=
    ((Fr.setCell w g 1 (.bool b)).mono (T' := K.has) fun i _ q => by rw [q]; exact .inr (.inr (.inr hgm))).trans (Fr.setCell _ K.c 5 _) fun i _ q => .inl q
  have hset := hld_set (List.nodup_cons.1 h.nd).2 hns { K.M g with fast := b }
  have hcan : Can (K.M g).dat := (h.ok.pos (hld K.M g) (by rw [h.holds]; exact List.mem_map.2 ⟨g, hgm, rfl⟩)).2
  refine ⟨h.turn hgm { K.M g with fast := b } ⟨rfl, rfl, rfl⟩ rfl hset.symm hcan ?_ ?_ ?_, hF⟩
  · have h1 : (w.setCell ⟨g, 1, none⟩ (.bool b)).heap[K.c]? = some (.cells (ckRow K s) 241) := (Below.heap_setCell w _ _ K.c (h.cne (.inr hgm)).symm).trans h.row
    rw [Joins.block_setCell h1, hm]
    rfl
  · refine (Below.heap_setCell _ _ _ K.mb h.cm.symm).trans (Below.heap_setCell w _ _ K.mb (h.mne (.inr hgm)).symm)
  · intro x hx
    refine (Below.heap_setCell _ _ _ x (h.cne hx)).trans ?_
    by_cases e : x = g
    · subst e
      rw [setM_same]
      exact (h.nodes x hx).set1 b
    · rw [setM_other _ _ _ e]
      exact (Below.heap_setCell w _ _ x e).trans (h.nodes x hx)
end Go.Proofs.YtiejhjngcnkimaaGreatRW

/- Read of a cache, in one form; no condition but that numbers do not pass their greatest. -/
namespace Go.Proofs.YtiejhjngcnkimaaGreatRW
open Go.RowKit Go.Maps
variable {w : World} {K : KLoc} {L : Loc} {s : CSt} {t : St}
def rdB (s : CSt) (t : St) (k : Int) : Nat → Int := if usedE s t k = 0 then (match atR s.row k with | some h => h.dat | none => curV t k) else nought
def rdC (s : CSt) (t : St) (k : Int) : CSt := if usedE s t k = 0 then (match atR s.row k with | some h => { s with row := goneR s.row k ++ [h] } | none => { s with row := placeR s.size s.row ++ [⟨k, false, curV t k⟩] }) else s
def rdD (s : CSt) (t : St) (k : Int) : St := if usedE s t k = 0 then (match atR s.row k with | some _ => t | none => readS t) else t
theorem curV_can (ok : Ok t) (k : Int) : Can (curV t k) := by
  cases hl : lastAt t.wait k with
  | some i =>
    obtain ⟨c, hc, _⟩ := lastAt_spec k _ i hl
    rw [curV_wait hl hc]
    exact (ok.wait c (List.mem_of_getElem? hc)).2
  | none =>
    rw [curV_held hl]
    cases hh : t.held k with
    | some f => exact (ok.held k f hh).2.1
    | none => exact can_nought
theorem used_ref {k : Int} (hu : usedE s t k = 0) : refV t k = 0 := by
  apply Classical.byContradiction
  intro hb
  unfold usedE at hu
  rw [if_pos hb] at hu
  exact hb hu
theorem map_snoc {f : Nat → Hld} {l : List Nat} {g : Nat} {r : List Hld} {x : Hld} (h : r ++ [x] = (l ++ [g]).map f) : r = l.map f ∧ x = f g := by
  rw [List.map_append] at h
  exact List.append_inj' h rfl |>.imp id (fun q => by simpa using q)
theorem CD.bytesLast {sz : Int} {r : List Hld} {x : Hld} (h : CD w K L ⟨sz, r ++ [x]⟩ t) {l : List Nat} {g : Nat} (hns : K.ns = l ++ [g]) {f : Nat → Int} (hf : Can f) :
    ∃ K', CD (w.setCells g 4 (blk f).toList) K' L ⟨sz, r ++ [⟨x.pos, x.fast, f⟩]⟩ t ∧ GoesC w (w.setCells g 4 (blk f).toList) K L K' L ∧ K'.ns = K.ns ∧ K'.c = K.c ∧ hld K'.M g = ⟨x.pos, x.fast, f⟩ := by
  have h1 := h.cache.holds
  rw [hns] at h1
  obtain ⟨rfl, rfl⟩ := map_snoc h1
  obtain ⟨a1, a2⟩ := h.cache.bytes (p := l) (q := []) (g := g) hns hf
  have hgm : K.has g := .inr (.inr (.inr (by rw [hns]; simp)))
  obtain ⟨b1, b2⟩ := h.caches a1 rfl rfl (fun _ q => .inl q) (a2.mono fun i _ q => by rw [q]; exact hgm)
  refine ⟨_, b1, b2, rfl, rfl, ?_⟩
  show hld (setM K.M g _) g = _
  unfold hld
  rw [setM_same]
theorem CD.node {g : Nat} {x : Hld} (h : CD w K L s t) (hg : g ∈ K.ns) (hx : hld K.M g = x) : ∃ p q, RowAt w g x.pos x.fast p q x.dat := by
  subst hx
  exact ⟨_, _, h.cache.nodes g (.inr hg)⟩
theorem GoesC.out {a b c : World} {K' : KLoc} {L' : Loc} (h : GoesC a b K L K' L') {g : Nat} (hg : a.heap.size ≤ g) (hf : Fr (fun i => i = g) b c) : GoesC a c K L K' L' :=
  ⟨h.c, h.d, h.ownK, h.ownL, h.fr.trans hf fun i hi q => by omega⟩
theorem CD.setRow {g : Nat} (h : CD w K L s t) (hK : ¬ K.has g) (hL : ¬ L.has g) (cs : Array Value) : CD (w.setRow g cs) K L s t := by
  have hf := Fr.setRow w g cs
  exact ⟨h.cache.fr hf fun k hk e => hK (e ▸ hk), h.disk.fr hf fun k hk e => hL (e ▸ hk), h.d, h.apart⟩
set_option maxRecDepth 20000 in
set_option maxHeartbeats 4000000 in
theorem readC_of (h : CD w K L s t) (hr : Room t) (k : Int) : Calls Tryz.prog 148 #[ptr K.c, .int .i64 k] w fun e w' => e = .returned (.tuple #[.agg (blk (rdB s t k)), .int .i64 (usedE s t k)]) ∧
    ∃ K' L', CD w' K' L' (rdC s t k) (rdD s t k) ∧ GoesC w w' K L K' L' := by
  have hA := h.later (below_new w (.cells (blk nought) 85))
  have hA0 := GoesC.ofBelow K L (below_new w (.cells (blk nought) 85))
  have R0 := heap_alloc_new w (.cells (blk nought) 85)
  have hltK : ∀ i, K.has i → i < w.heap.size := h.cache.lt
  have hltL : ∀ i, L.has i → i < w.heap.size := h.disk.lt
  have hs0 : (w.alloc (.cells (blk nought) 85)).heap.size = w.heap.size + 1 := by simp
  have z25 := zero25
  have hbd := built58
  unfold rdB rdC rdD
  by_cases hu : usedE s t k = 0
  · rw [if_pos hu, if_pos hu, if_pos hu, hu]
    have hb := used_ref hu
    have hU := use_ok hA hu
    cases ha : atR s.row k with
    | some x =>
      have eP : useP s k = (goneR s.row k, x, false) := by unfold useP; rw [ha]
      rw [eP] at hU
      have HF : Hid (∀ W1 K1 g l, K1.ns = l ++ [g] → hld K1.M g = x → CD W1 K1 L { s with row := goneR s.row k ++ [x] } t → GoesC (w.alloc (.cells (blk nought) 85)) W1 K L K1 L →
          BlkAt W1 g 4 x.dat ∧ W1.heap[w.heap.size]? = some (.cells (blk nought) 85) ∧ ∃ K' L', CD (W1.setRow w.heap.size (blk x.dat)) K' L' { s with row := goneR s.row k ++ [x] } t ∧ GoesC w (W1.setRow w.heap.size (blk x.dat)) K L K' L') := by
        intro W1 K1 g l hns hx h1 hG
        obtain ⟨pp, qq, hrow⟩ := h1.node (g := g) (by rw [hns]; simp) hx
        have hnK : ¬ K1.has w.heap.size := fun q => by
          rcases hG.ownK _ q with q | q
          · have := hltK _ q; omega
          · omega
        have hnL : ¬ L.has w.heap.size := fun q => by have := hltL _ q; omega
        refine ⟨hrow.bytes, (hG.fr.block _ (by omega) ?_).trans R0, K1, L, h1.setRow hnK hnL _, ?_⟩
        · rintro (q | q)
          · have := hltK _ q; omega
          · exact hnL q
        · exact (hA0.trans hG).out (Nat.le_refl _) (Fr.setRow _ _ _)
      clear h hA hA0 R0 hltK hltL hs0 hu ha eP hb
      generalize nought = N at *
      have HU : Hid (Calls Tryz.prog 213 _ _ _) := hU
      clear hU
      unfold ptr
      go_enter Tryz.func148, Tryz.ntmps148
      go_wp2_with (go_at_call 213; fail)
      refine HU.out.mono ?_
      rintro e W1 ⟨K1, g, l, rfl, hns, hx, h1, hG⟩
      obtain ⟨hB, hR0, hfin⟩ := HF.out W1 K1 g l hns hx h1 hG
      have HFin : Hid _ := hfin
      clear HU HF hns hx h1 hG hfin
      generalize w.heap.size = g0 at *
      unfold ptr
      go_wp2_with (first | refine wpList_loadM rfl (.tmp 35) rfl g 4 rfl x.dat hB ?_ | refine wpList_store25 rfl (.tmp 4) (.tmp 36) rfl g0 x.dat rfl rfl _ hR0 ?_)
      exact retBT rfl g0 x.dat rfl (setRow_heap _ _ _ _ _ _ hR0) rfl ⟨rfl, HFin.out⟩
    | none =>
      have eP : useP s k = (placeR s.size s.row, ⟨k, false, nought⟩, true) := by unfold useP; rw [ha]
      rw [eP] at hU
      have hcan := curV_can h.disk.ok k
      generalize hF0 : curV t k = f at *
      have HF : Hid (∀ W1 K1 g l, K1.ns = l ++ [g] → CD W1 K1 L { s with row := placeR s.size s.row ++ [⟨k, false, nought⟩] } t → GoesC (w.alloc (.cells (blk nought) 85)) W1 K L K1 L →
          W1.cell? ⟨K.c, 1, none⟩ = some (ptr L.d) ∧ Calls Tryz.prog 140 #[ptr L.d, .int .i64 k] W1 fun e W2 => e = .returned (.tuple #[.agg (blk f), .int .i64 0]) ∧ W2.there g 4 1024 ∧ BlkAt (W2.setCells g 4 (blk f).toList) g 4 f ∧
          (W2.setCells g 4 (blk f).toList).heap[w.heap.size]? = some (.cells (blk nought) 85) ∧ ∃ K' L', CD ((W2.setCells g 4 (blk f).toList).setRow w.heap.size (blk f)) K' L' { s with row := placeR s.size s.row ++ [⟨k, false, f⟩] } (readS t) ∧
            GoesC w ((W2.setCells g 4 (blk f).toList).setRow w.heap.size (blk f)) K L K' L') := by
        intro W1 K1 g l hns h1 hG
        refine ⟨?_, ?_⟩
        · have := h1.cache.c1
          rw [hG.c, h1.d] at this
          exact this
        · have hrd := read_ok h1.disk hr hb
          rw [hF0] at hrd
          refine hrd.mono ?_
          rintro e W2 ⟨rfl, hD2, hG2⟩
          obtain ⟨b1, b2⟩ := h1.disks hD2 hG2
          obtain ⟨K3, c1, c2, c3, c4, c5⟩ := b1.bytesLast hns hcan
          have hgm : g ∈ K1.ns := by rw [hns]; simp
          have hg1 := b1.cache.nodes g (.inr hgm)
          obtain ⟨pp, qq, hrow3⟩ := c1.node (g := g) (by rw [c3]; exact hgm) c5
          have hG3 := hG.trans (b2.trans c2)
          have hnK : ¬ K3.has w.heap.size := fun q => by
            rcases hG3.ownK _ q with q | q
            · have := hltK _ q; omega
            · omega
          have hnL : ¬ L.has w.heap.size := fun q => by have := hltL _ q; omega
          refine ⟨rfl, hg1.there, hrow3.bytes, (hG3.fr.block _ (by omega) ?_).trans R0, K3, L, c1.setRow hnK hnL _, (hA0.trans hG3).out (Nat.le_refl _) (Fr.setRow _ _ _)⟩
          rintro (q | q)
          · have := hltK _ q; omega
          · exact hnL q
      clear h hA hA0 R0 hltK hltL hs0 hu ha eP hb hF0 hcan hr
      have HU : Hid (Calls Tryz.prog 213 _ _ _) := hU
      clear hU
      generalize nought = N at *
      unfold ptr
      go_enter Tryz.func148, Tryz.ntmps148
      go_wp2_with (go_at_call 213; fail)
      refine HU.out.mono ?_
      rintro e W1 ⟨K1, g, l, rfl, hns, hx, h1, hG⟩
      obtain ⟨d1, hcall⟩ := HF.out W1 K1 g l hns h1 hG
      have HC : Hid (Calls Tryz.prog 140 _ _ _) := hcall
      clear HU HF hns hx h1 hG hcall
      generalize w.heap.size = g0 at *
      unfold ptr at d1 ⊢
      go_wp2_with (go_at_call 140; fail)
      refine HC.out.mono ?_
      rintro e W2 ⟨rfl, hth, hB, hR0, hfin⟩
      have HFin : Hid _ := hfin
      clear hfin HC
      generalize hW3 : W2.setCells g 4 (blk f).toList = W3 at *
      go_wp2_with (first | (refine wpList_storeM rfl (.tmp 32) (.tmp 29) rfl rfl f rfl hth ?_; rw [hW3]) | refine wpList_loadM rfl (.tmp 35) rfl g 4 rfl f hB ?_ | refine wpList_store25 rfl (.tmp 4) (.tmp 36) rfl g0 f rfl rfl _ hR0 ?_)
      exact retBT rfl g0 f rfl (setRow_heap _ _ _ _ _ _ hR0) rfl ⟨rfl, HFin.out⟩
  · rw [if_neg hu, if_neg hu, if_neg hu]
    have hU := use_err hA hu
    have hne : (usedE s t k != 0) = true := by simp [hu]
    have HF : Hid (∀ W1, Below (w.alloc (.cells (blk nought) 85)).heap.size (w.alloc (.cells (blk nought) 85)) W1 → W1.heap[w.heap.size]? = some (.cells (blk nought) 85) ∧ ∃ K' L', CD (W1.setRow w.heap.size (blk nought)) K' L' s t ∧ GoesC w (W1.setRow w.heap.size (blk nought)) K L K' L') := by
      intro W1 hB
      have hnK : ¬ K.has w.heap.size := fun q => by have := hltK _ q; omega
      have hnL : ¬ L.has w.heap.size := fun q => by have := hltL _ q; omega
      exact ⟨(hB.block _ (by omega)).trans R0, K, L, (hA.later hB).setRow hnK hnL _, (hA0.trans (GoesC.ofBelow K L hB)).out (Nat.le_refl _) (Fr.setRow _ _ _)⟩
    clear h hA hA0 R0 hltK hltL hs0 hu
    generalize nought = N at *
    generalize usedE s t k = E at *
    have HU : Hid (Calls Tryz.prog 213 _ _ _) := hU
    clear hU
    unfold ptr
    go_enter Tryz.func148, Tryz.ntmps148
    go_wp2_with (go_at_call 213; fail)
    refine HU.out.mono ?_
    rintro e W1 ⟨rfl, hB⟩
    obtain ⟨hR0, hfin⟩ := HF.out W1 hB
    have HFin : Hid _ := hfin
    clear HU HF hB hfin
    generalize w.heap.size = g0 at *
    unfold nilp
    go_wp2_with (first | refine wpList_build58 rfl rfl hbd ?_ | refine wpList_store25 rfl (.tmp 4) (.tmp 18) rfl g0 N rfl rfl _ hR0 ?_)
    exact retBT rfl g0 N rfl (setRow_heap _ _ _ _ _ _ hR0) rfl ⟨rfl, HFin.out⟩
end Go.Proofs.YtiejhjngcnkimaaGreatRW
/- Put of a cache, in one form; no condition. -/
namespace Go.Proofs.YtiejhjngcnkimaaGreatRW
open Go.RowKit Go.Maps
variable {w : World} {K : KLoc} {L : Loc} {s : CSt} {t : St}
def putC (s : CSt) (t : St) (k : Int) (f : Nat → Int) : CSt := if usedE s t k = 0 then { s with row := (useP s k).1 ++ [⟨k, true, f⟩] } else s
theorem useP_pos (s : CSt) (k : Int) : (useP s k).2.1.pos = k := by
  unfold useP
  cases ha : atR s.row k with
  | some x =>
    have := List.find?_some ha
    simpa using this
  | none => rfl
theorem CD.fastLast {sz : Int} {r : List Hld} {x : Hld} (h : CD w K L ⟨sz, r ++ [x]⟩ t) {l : List Nat} {g : Nat} (hns : K.ns = l ++ [g]) (hx : x.fast = false) {m : Int} (hm : m = (fastN (r ++ [x]) : Int) + 1) :
    ∃ K', CD ((w.setCell ⟨g, 1, none⟩ (.bool true)).setCell ⟨K.c, 5, none⟩ (.int .i64 m)) K' L ⟨sz, r ++ [⟨x.pos, true, x.dat⟩]⟩ t ∧ GoesC w ((w.setCell ⟨g, 1, none⟩ (.bool true)).setCell ⟨K.c, 5, none⟩ (.int .i64 m)) K L K' L := by
  have h1 := h.cache.holds
  rw [hns] at h1
  obtain ⟨rfl, rfl⟩ := map_snoc h1
  have hx' : (K.M g).fast = false := hx
  obtain ⟨a1, a2⟩ := h.cache.flag (p := l) (q := []) (g := g) hns true (m := m) (by
    rw [hm]
    simp [fastN, List.countP_append, hld, hx']) rfl
  obtain ⟨b1, b2⟩ := h.caches a1 rfl rfl (fun _ q => .inl q) a2
  exact ⟨_, b1, b2⟩
set_option maxRecDepth 20000 in
set_option maxHeartbeats 4000000 in
theorem putC_of (h : CD w K L s t) (k : Int) {f : Nat → Int} (hf : Can f) : Calls Tryz.prog 155 #[ptr K.c, .int .i64 k, .agg (blk f)] w fun e w' => e = .returned (.int .i64 (usedE s t k)) ∧
    ∃ K' L', CD w' K' L' (putC s t k f) t ∧ GoesC w w' K L K' L' := by
  have hA := h.later (below_new w (.cells (blk f) 85))
  have hA0 := GoesC.ofBelow K L (below_new w (.cells (blk f) 85))
  have R0 := heap_alloc_new w (.cells (blk f) 85)
  have hltK : ∀ i, K.has i → i < w.heap.size := h.cache.lt
  have hltL : ∀ i, L.has i → i < w.heap.size := h.disk.lt
  have hs0 : (w.alloc (.cells (blk f) 85)).heap.size = w.heap.size + 1 := by simp
  unfold putC
  by_cases hu : usedE s t k = 0
  · rw [if_pos hu, hu]
    have hU := use_ok hA hu
    have hpos := useP_pos s k
    generalize (useP s k).1 = r at *
    generalize (useP s k).2.2 = nw at *
    generalize (useP s k).2.1 = x at *
    have HF : Hid (∀ W1 K1 g l, K1.ns = l ++ [g] → hld K1.M g = x → CD W1 K1 L ⟨s.size, r ++ [x]⟩ t → GoesC (w.alloc (.cells (blk f) 85)) W1 K L K1 L →
        W1.heap[w.heap.size]? = some (.cells (blk f) 85) ∧ W1.there g 4 1024 ∧ K.c ≠ g ∧
        (W1.setCells g 4 (blk f).toList).cell? ⟨g, 1, none⟩ = some (.bool x.fast) ∧ (W1.setCells g 4 (blk f).toList).frozen? ⟨g, 1, none⟩ = false ∧
        (W1.setCells g 4 (blk f).toList).cell? ⟨K.c, 5, none⟩ = some (.int .i64 (fastN (r ++ [x]) : Int)) ∧ (W1.setCells g 4 (blk f).toList).frozen? ⟨K.c, 5, none⟩ = false ∧ (fastN (r ++ [x]) : Int) ≤ 4096 ∧
        (x.fast = true → ∃ K' L', CD (W1.setCells g 4 (blk f).toList) K' L' { s with row := r ++ [⟨k, true, f⟩] } t ∧ GoesC w (W1.setCells g 4 (blk f).toList) K L K' L') ∧
        (x.fast = false → ∃ K' L', CD (((W1.setCells g 4 (blk f).toList).setCell ⟨g, 1, none⟩ (.bool true)).setCell ⟨K.c, 5, none⟩ (.int .i64 ((fastN (r ++ [x]) : Int) + 1))) K' L' { s with row := r ++ [⟨k, true, f⟩] } t ∧
          GoesC w (((W1.setCells g 4 (blk f).toList).setCell ⟨g, 1, none⟩ (.bool true)).setCell ⟨K.c, 5, none⟩ (.int .i64 ((fastN (r ++ [x]) : Int) + 1))) K L K' L')) := by
      intro W1 K1 g l hns hx h1 hG
      have hgm : g ∈ K1.ns := by rw [hns]; simp
      have hnd := h1.cache.nodes g (.inr hgm)
      obtain ⟨K3, c1, c2, c3, c4, c5⟩ := h1.bytesLast hns hf
      obtain ⟨pp, qq, hrow3⟩ := c1.node (g := g) (by rw [c3]; exact hgm) c5
      have hfn : fastN (r ++ [⟨x.pos, x.fast, f⟩]) = fastN (r ++ [x]) := by simp [fastN, List.countP_append]
      have hcc : K3.c = K.c := c4.trans hG.c
      have d5 := c1.cache.c5
      have ff := c1.cache.free 5
      rw [hcc] at d5 ff
      rw [show (({ size := s.size, row := r ++ [⟨x.pos, x.fast, f⟩] } : CSt)).row = r ++ [⟨x.pos, x.fast, f⟩] from rfl, hfn] at d5
      have hle : (fastN (r ++ [x]) : Int) ≤ 4096 := by
        have a1 := fastN_le (r ++ [x])
        have a2 := h1.cache.ok.len
        have a3 := h1.cache.ok.size
        simp only at a2 a3
        omega
      refine ⟨(hG.fr.block _ (by omega) ?_).trans R0, hnd.there, ?_, hrow3.c1, hrow3.free 1, d5, ff, hle, ?_, ?_⟩
      · rintro (q | q)
        · have := hltK _ q; omega
        · have := hltL _ q; omega
      · rw [← hG.c]
        exact (h1.cache.cne (.inr hgm)).symm
      · intro hx1
        rw [hpos, hx1] at c1
        exact ⟨K3, L, c1, hA0.trans (hG.trans c2)⟩
      · intro hx0
        obtain ⟨K4, e1, e2⟩ := c1.fastLast (by rw [c3]; exact hns) hx0 (m := (fastN (r ++ [x]) : Int) + 1) (by rw [hfn])
        rw [hcc] at e1 e2
        rw [show (⟨x.pos, x.fast, f⟩ : Hld).pos = x.pos from rfl, hpos] at e1
        exact ⟨K4, L, e1, hA0.trans (hG.trans (c2.trans e2))⟩
    clear h hA hA0 R0 hltK hltL hs0 hu hpos hf
    have HU : Hid (Calls Tryz.prog 213 _ _ _) := hU
    clear hU
    unfold ptr
    go_enter Tryz.func155, Tryz.ntmps155
    go_wp2_with (go_at_call 213; fail)
    refine HU.out.mono ?_
    rintro e W1 ⟨K1, g, l, rfl, hns, hx, h1, hG⟩
    obtain ⟨hR0, hth, hcg, g1, fg, d5, ff, hle, hA1, hA2⟩ := HF.out W1 K1 g l hns hx h1 hG
    have H1 : Hid _ := hA1
    have H2 : Hid _ := hA2
    clear HU HF hns hx h1 hG hA1 hA2
    generalize w.heap.size = g0 at *
    generalize hW3 : W1.setCells g 4 (blk f).toList = W3 at *
    generalize fastN (r ++ [x]) = n at *
    have hw5 : IntKind.i64.wrap ((n : Int) + 1) = (n : Int) + 1 := by rw [IntKind.wrap_i64]; omega
    unfold ptr
    cases hxf : x.fast
    · rw [hxf] at g1
      have H3 := H2.out hxf
      have H4 : Hid _ := H3
      clear H1 H2 H3
      go_wp2_with (first | (refine wpList_load25 rfl (.tmp 5) rfl g0 rfl f hR0 ?_) | (refine wpList_storeM rfl (.tmp 23) (.tmp 21) rfl rfl f rfl hth ?_; rw [hW3]))
      go_ret
      exact ⟨rfl, H4.out⟩
    · rw [hxf] at g1
      have H3 := H1.out hxf
      have H4 : Hid _ := H3
      clear H1 H2 H3
      go_wp2_with (first | (refine wpList_load25 rfl (.tmp 5) rfl g0 rfl f hR0 ?_) | (refine wpList_storeM rfl (.tmp 23) (.tmp 21) rfl rfl f rfl hth ?_; rw [hW3]))
      go_ret
      exact ⟨rfl, H4.out⟩
  · rw [if_neg hu]
    have hU := use_err hA hu
    have hne : (usedE s t k != 0) = true := by simp [hu]
    have HF : Hid (∀ W1, Below (w.alloc (.cells (blk f) 85)).heap.size (w.alloc (.cells (blk f) 85)) W1 → ∃ K' L', CD W1 K' L' s t ∧ GoesC w W1 K L K' L') := fun W1 hB => ⟨K, L, hA.later hB, hA0.trans (GoesC.ofBelow K L hB)⟩
    clear h hA hA0 R0 hltK hltL hs0 hu hf
    generalize usedE s t k = E at *
    have HU : Hid (Calls Tryz.prog 213 _ _ _) := hU
    clear hU
    unfold ptr
    go_enter Tryz.func155, Tryz.ntmps155
    go_wp2_with (go_at_call 213; fail)
    refine HU.out.mono ?_
    rintro e W1 ⟨rfl, hB⟩
    have HFin : Hid _ := HF.out W1 hB
    clear HU HF hB
    unfold nilp
    go_wp2
    go_ret
    exact ⟨rfl, HFin.out⟩
end Go.Proofs.YtiejhjngcnkimaaGreatRW
/- Flush of a cache, in one form; no condition but that numbers do not pass their greatest. -/
namespace Go.Proofs.YtiejhjngcnkimaaGreatRW
open Go.RowKit Go.Maps
variable {w : World} {K : KLoc} {L : Loc} {s : CSt} {t : St}
end Go.Proofs.YtiejhjngcnkimaaGreatRW
/- A cache and its disk that a function made itself, with blocks beside them that stay: each call once more, in one form; no condition but that numbers do not pass their greatest. -/
namespace Go.Proofs.YtiejhjngcnkimaaGreatRW
open Go.RowKit Go.Maps
structure CS (w W : World) (K : KLoc) (L : Loc) (s : CSt) (t : St) (ks : List (Nat × Obj)) : Prop where
  cd : CD W K L s t
  newK : ∀ k, K.has k → w.heap.size ≤ k
  newL : ∀ k, L.has k → w.heap.size ≤ k
  below : Below w.heap.size w W
  keep : ∀ p ∈ ks, W.heap[p.1]? = some p.2 ∧ ¬ K.has p.1 ∧ ¬ L.has p.1
def Sit (w W : World) (c d : Nat) (s : CSt) (t : St) (ks : List (Nat × Obj)) : Prop := ∃ K L, K.c = c ∧ L.d = d ∧ CS w W K L s t ks
variable {w W : World} {c d : Nat} {s : CSt} {t : St} {ks : List (Nat × Obj)} {K : KLoc} {L : Loc}
theorem CS.goes {W' : World} {K' : KLoc} {L' : Loc} {s' : CSt} {t' : St} (h : CS w W K L s t ks) (hD : CD W' K' L' s' t') (hG : GoesC W W' K L K' L') : CS w W' K' L' s' t' ks := by
  have hsz := h.below.size
  refine ⟨hD, fun k hk => ?_, fun k hk => ?_, h.below.trans (hG.fr.below (fun i q => q.elim (h.newK i) (h.newL i)) hsz), fun p hp => ?_⟩
  · rcases hG.ownK k hk with q | q
    · exact h.newK k q
    · omega
  · rcases hG.ownL k hk with q | q
    · exact h.newL k q
    · omega
  · obtain ⟨h1, h2, h3⟩ := h.keep p hp
    have hlt := (Array.getElem?_eq_some_iff.1 h1).1
    refine ⟨(hG.fr.block p.1 hlt fun q => q.elim h2 h3).trans h1, fun q => ?_, fun q => ?_⟩
    · rcases hG.ownK p.1 q with q | q
      · exact h2 q
      · omega
    · rcases hG.ownL p.1 q with q | q
      · exact h3 q
      · omega
theorem Sit.goes {W' : World} {K' : KLoc} {L' : Loc} {s' : CSt} {t' : St} (hc : K.c = c) (hd : L.d = d) (h : CS w W K L s t ks) (hD : CD W' K' L' s' t') (hG : GoesC W W' K L K' L') : Sit w W' c d s' t' ks := ⟨K', L', hG.c.trans hc, hG.d.trans hd, h.goes hD hG⟩
theorem Sit.later {W' : World} (h : Sit w W c d s t ks) (hb : Below W.heap.size W W') : Sit w W' c d s t ks := by
  obtain ⟨K, L, hc, hd, h⟩ := h
  exact Sit.goes hc hd h (h.cd.later hb) (GoesC.ofBelow K L hb)
theorem Sit.drew (h : Sit w W c d s t ks) : Sit w W.drew c d s t ks := h.later ⟨rfl, rfl, rfl, Nat.le_refl _, fun _ _ => rfl⟩
theorem Sit.add (h : Sit w W c d s t ks) (o : Obj) : Sit w (W.alloc o) c d s t ((W.heap.size, o) :: ks) := by
  obtain ⟨K, L, hc, hd, h⟩ := h
  have h2 := h.goes (h.cd.later (below_new W o)) (GoesC.ofBelow K L (below_new W o))
  refine ⟨K, L, hc, hd, h2.cd, h2.newK, h2.newL, h2.below, fun p hp => ?_⟩
  rcases List.mem_cons.1 hp with rfl | hp
  · exact ⟨heap_alloc_new W o, fun q => by have := h.cd.cache.lt _ q; simp only at this; omega, fun q => by have := h.cd.disk.lt _ q; simp only at this; omega⟩
  · exact h2.keep p hp
theorem Sit.blk (h : Sit w W c d s t ks) {g : Nat} {o : Obj} (hm : (g, o) ∈ ks) : W.heap[g]? = some o := by
  obtain ⟨K, L, hc, hd, h⟩ := h
  exact (h.keep _ hm).1
theorem Sit.below (h : Sit w W c d s t ks) : Below w.heap.size w W := by
  obtain ⟨K, L, hc, hd, h⟩ := h
  exact h.below
theorem Sit.ok (h : Sit w W c d s t ks) : COk s ∧ Ok t := by
  obtain ⟨K, L, hc, hd, h⟩ := h
  exact ⟨h.cd.cache.ok, h.cd.disk.ok⟩
theorem Sit.drop (h : Sit w W c d s t ks) {ks' : List (Nat × Obj)} (hs : ∀ p ∈ ks', p ∈ ks) : Sit w W c d s t ks' := by
  obtain ⟨K, L, hc, hd, h⟩ := h
  exact ⟨K, L, hc, hd, h.cd, h.newK, h.newL, h.below, fun p hp => h.keep p (hs p hp)⟩
theorem sit_new {n : Int} (h : Sits w W d t ks) (hs : 1 ≤ n ∧ n ≤ 4096) :
    Calls Tryz.prog 90 #[ptr d, .int .i64 n] W fun e W' => ∃ c, e = .returned (.tuple #[ptr c, .int .i64 0]) ∧ Sit w W' c d (newC n) t ks := by
  obtain ⟨L, rfl, h⟩ := h
  refine (newC_ok h.disk hs).mono ?_
  rintro e W' ⟨rfl, h1, h2⟩
  have hsz := h.below.size
  refine ⟨_, rfl, newK W L.d, L, rfl, rfl, ⟨h1, h.disk.later h2, rfl, ?_⟩, ?_, h.new, below_next h.below h2, fun p hp => ?_⟩
  · rintro k hk hl
    have := h.disk.lt k hl
    rcases hk with q | q | q | q
    · simp only [newK] at q; omega
    · simp only [newK] at q; omega
    · simp only [newK] at q; omega
    · simp [newK] at q
  · rintro k (q | q | q | q)
    · simp only [newK] at q; omega
    · simp only [newK] at q; omega
    · simp only [newK] at q; omega
    · simp [newK] at q
  · obtain ⟨a1, a2⟩ := h.keep p hp
    have hlt := (Array.getElem?_eq_some_iff.1 a1).1
    refine ⟨heap_kept a1 h2, ?_, a2⟩
    rintro (q | q | q | q)
    · simp only [newK] at q; omega
    · simp only [newK] at q; omega
    · simp only [newK] at q; omega
    · simp [newK] at q
theorem sit_read (h : Sit w W c d s t ks) (hr : Room t) (k : Int) : Calls Tryz.prog 148 #[ptr c, .int .i64 k] W fun e W' => e = .returned (.tuple #[.agg (blk (rdB s t k)), .int .i64 (usedE s t k)]) ∧ Sit w W' c d (rdC s t k) (rdD s t k) ks := by
  obtain ⟨K, L, rfl, rfl, h⟩ := h
  exact (readC_of h.cd hr k).mono fun e W' ⟨h1, K', L', h2, h3⟩ => ⟨h1, Sit.goes rfl rfl h h2 h3⟩
theorem sit_put (h : Sit w W c d s t ks) (k : Int) {f : Nat → Int} (hf : Can f) : Calls Tryz.prog 155 #[ptr c, .int .i64 k, .agg (Go.Proofs.YtiejhjngcnkimaaGreatRW.blk f)] W fun e W' => e = .returned (.int .i64 (usedE s t k)) ∧ Sit w W' c d (putC s t k f) t ks := by
  obtain ⟨K, L, rfl, rfl, h⟩ := h
  exact (putC_of h.cd k hf).mono fun e W' ⟨h1, K', L', h2, h3⟩ => ⟨h1, Sit.goes rfl rfl h h2 h3⟩
end Go.Proofs.YtiejhjngcnkimaaGreatRW
/- The plain side of a log: what its cache holds and what the disk has, told by a book; what reads, puts, flushes, writes and barriers make of it; no condition. -/
namespace Go.Proofs.YtiejhjngcnkimaaGreatRW
open Go.RowKit Go.Maps
def Dat (b l k : Int) : Prop := (0 ≤ k ∧ k < b) ∧ ¬ (1 ≤ k ∧ k < 1 + l)
structure CInv (b l : Int) (s : CSt) (t : St) (book : Int → Nat → Int) (F : Int → Bool) : Prop where
  n : b ≤ t.n
  ok : COk s
  size : s.size = l
  row : ∀ h ∈ s.row, Dat b l h.pos ∧ h.dat = book h.pos ∧ h.fast = F h.pos
  held : ∀ k, F k = true → ∃ h ∈ s.row, h.pos = k
  same : ∀ k, Dat b l k → F k = false → book k = curV t k
variable {b l : Int} {s : CSt} {t : St} {book : Int → Nat → Int} {F : Int → Bool} {k : Int}
theorem CInv.ref (h : CInv b l s t book F) (hs : t.stopped = false) (hk : Dat b l k) : refV t k = 0 := by
  have := h.n
  obtain ⟨⟨h1, h2⟩, _⟩ := hk
  unfold refV
  rw [hs, if_neg (by simp), if_pos ⟨h1, by omega⟩]
theorem atR_mem {r : List Hld} {x : Hld} (h : atR r k = some x) : x ∈ r ∧ x.pos = k := ⟨List.mem_of_find?_eq_some h, by have := List.find?_some h; simpa using this⟩
theorem atR_not {r : List Hld} (h : atR r k = none) : ∀ x ∈ r, x.pos ≠ k := fun x hx e => by
  have := List.find?_eq_none.1 h x hx
  exact this (by simp [e])
theorem CInv.used (h : CInv b l s t book F) (hs : t.stopped = false) (hk : Dat b l k) (hf : (fastN s.row : Int) < l) : usedE s t k = 0 := by
  unfold usedE
  have := h.size
  rw [h.ref hs hk, if_neg (by simp), if_neg fun q => by have := q.2; omega]
theorem CInv.notHeld (h : CInv b l s t book F) (ha : atR s.row k = none) : F k = false := by
  cases hq : F k
  · rfl
  · obtain ⟨x, hx, e⟩ := h.held k hq
    exact absurd e (atR_not ha x hx)
theorem CInv.reads (h : CInv b l s t book F) (hk : Dat b l k) (hu : usedE s t k = 0) : rdB s t k = book k := by
  unfold rdB
  rw [if_pos hu]
  cases ha : atR s.row k with
  | some x =>
    obtain ⟨hx, e⟩ := atR_mem ha
    simp only
    rw [(h.row x hx).2.1, e]
  | none =>
    simp only
    exact (h.same k hk (h.notHeld ha)).symm
theorem mem_gone {r : List Hld} {x : Hld} (hx : x ∈ r) (hn : x.pos ≠ k) : x ∈ goneR r k := List.mem_eraseP_of_neg (by simp [hn]) |>.2 hx
theorem fast_gone {r : List Hld} {x : Hld} (h : atR r k = some x) : fastN r = fastN (goneR r k) + (if x.fast then 1 else 0) := by
  induction r with
  | nil => simp [atR] at h
  | cons a l ih =>
    unfold atR at h
    rw [List.find?_cons] at h
    cases hp : a.pos == k with
    | true =>
      rw [hp] at h
      injection h with h
      subst h
      unfold goneR fastN
      rw [List.eraseP_cons_of_pos (by exact hp), List.countP_cons]
    | false =>
      rw [hp] at h
      have := ih h
      unfold goneR fastN at this ⊢
      rw [List.eraseP_cons_of_neg (by simp [hp]), List.countP_cons, List.countP_cons]
      omega
theorem fast_erase : ∀ r : List Hld, fastN (r.eraseP (fun h => !h.fast)) = fastN r
  | [] => rfl
  | a :: l => by
    have ih := fast_erase l
    unfold fastN at ih ⊢
    cases ha : a.fast
    · rw [List.eraseP_cons_of_pos (by simp [ha]), List.countP_cons]
      simp [ha]
    · rw [List.eraseP_cons_of_neg (by simp [ha]), List.countP_cons, List.countP_cons]
      omega
theorem fast_place (n : Int) (r : List Hld) : fastN (placeR n r) = fastN r := by
  unfold placeR
  split
  · rfl
  · exact fast_erase r
theorem place_keeps {n : Int} {r : List Hld} {x : Hld} (hx : x ∈ r) (hf : x.fast = true) : x ∈ placeR n r := by
  unfold placeR
  split
  · exact hx
  · exact (List.mem_eraseP_of_neg (by simp [hf])).2 hx
theorem mem_place {n : Int} {r : List Hld} {x : Hld} (hx : x ∈ placeR n r) : x ∈ r := (placeR_sub n r).subset hx
theorem gone_mem {r : List Hld} {x : Hld} (hx : x ∈ goneR r k) : x ∈ r := List.eraseP_subset hx
theorem CInv.read (h : CInv b l s t book F) (hk : Dat b l k) (hu : usedE s t k = 0) (hok : COk (rdC s t k)) : CInv b l (rdC s t k) (rdD s t k) book F ∧ fastN (rdC s t k).row = fastN s.row ∧ (F k = true → rdD s t k = t) ∧ (rdD s t k = t ∨ rdD s t k = readS t) := by
  have hD : b ≤ (rdD s t k).n ∧ curV (rdD s t k) = curV t ∧ (F k = true → rdD s t k = t) ∧ (rdD s t k = t ∨ rdD s t k = readS t) := by
    unfold rdD
    rw [if_pos hu]
    cases ha : atR s.row k with
    | some x => exact ⟨h.n, rfl, fun _ => rfl, .inl rfl⟩
    | none => exact ⟨h.n, rfl, fun hF => (by rw [h.notHeld ha] at hF; cases hF), .inr rfl⟩
  refine ⟨?_, ?_, hD.2.2⟩
  · unfold rdC at hok ⊢
    rw [if_pos hu] at hok ⊢
    cases ha : atR s.row k with
    | some x =>
      rw [ha] at hok
      simp only at hok ⊢
      obtain ⟨hx, e⟩ := atR_mem ha
      refine ⟨hD.1, hok, h.size, fun y hy => ?_, fun j hf => ?_, fun j hj hf => by rw [hD.2.1]; exact h.same j hj hf⟩
      · rcases List.mem_append.1 hy with hy | hy
        · exact h.row y (gone_mem hy)
        · obtain rfl : y = x := by simpa using hy
          exact h.row y hx
      · obtain ⟨y, hy, ey⟩ := h.held j hf
        by_cases hjk : y.pos = k
        · exact ⟨x, by simp, by rw [e, ← hjk, ey]⟩
        · exact ⟨y, List.mem_append.2 (.inl (mem_gone hy hjk)), ey⟩
    | none =>
      rw [ha] at hok
      simp only at hok ⊢
      have hn := h.notHeld ha
      refine ⟨hD.1, hok, h.size, fun y hy => ?_, fun j hf => ?_, fun j hj hf => by rw [hD.2.1]; exact h.same j hj hf⟩
      · rcases List.mem_append.1 hy with hy | hy
        · exact h.row y (mem_place hy)
        · obtain rfl : y = ⟨k, false, curV t k⟩ := by simpa using hy
          exact ⟨hk, (h.same k hk hn).symm, hn.symm⟩
      · obtain ⟨y, hy, ey⟩ := h.held j hf
        have hyf : y.fast = true := by rw [(h.row y hy).2.2, ey]; exact hf
        exact ⟨y, List.mem_append.2 (.inl (place_keeps hy hyf)), ey⟩
  · unfold rdC
    rw [if_pos hu]
    cases ha : atR s.row k with
    | some x =>
      have := fast_gone ha
      unfold fastN at this ⊢
      simp only
      rw [List.countP_append, this]
      simp
    | none =>
      have := fast_place s.size s.row
      unfold fastN at this ⊢
      simp only
      rw [List.countP_append, this]
      simp
theorem CInv.put (h : CInv b l s t book F) (hk : Dat b l k) (hu : usedE s t k = 0) (f : Nat → Int) (hok : COk (putC s t k f)) :
    CInv b l (putC s t k f) t (fun j => if j = k then f else book j) (fun j => if j = k then true else F j) ∧ (fastN (putC s t k f).row : Int) = fastN s.row + (if F k then 0 else 1) := by
  unfold putC at hok ⊢
  rw [if_pos hu] at hok ⊢
  have hsame : ∀ j, Dat b l j → (if j = k then true else F j) = false → (if j = k then f else book j) = curV t j := by
    intro j hj hf
    by_cases e : j = k
    · rw [if_pos e] at hf; cases hf
    · rw [if_neg e] at hf ⊢
      exact h.same j hj hf
  have hnew : ∀ y : Hld, y ∈ s.row → y.pos ≠ k → Dat b l y.pos ∧ y.dat = (if y.pos = k then f else book y.pos) ∧ y.fast = (if y.pos = k then true else F y.pos) := by
    intro y hy hne
    rw [if_neg hne, if_neg hne]
    exact h.row y hy
  unfold useP at hok ⊢
  cases ha : atR s.row k with
  | some z =>
    rw [ha] at hok
    simp only at hok ⊢
    obtain ⟨hz, e⟩ := atR_mem ha
    have hzf : z.fast = F k := by rw [(h.row z hz).2.2, e]
    have hgn : ∀ y ∈ goneR s.row k, y.pos ≠ k := by
      intro y hy hyk
      have hnd := h.ok.nodup
      obtain ⟨l1, l2, h1, h2⟩ : ∃ l1 l2, s.row = l1 ++ z :: l2 ∧ goneR s.row k = l1 ++ l2 := by
        obtain ⟨a, l1, l2, a1, a2, a3, a4⟩ := List.exists_of_eraseP hz (p := fun h => h.pos == k) (by simp [e])
        have haz : a = z := by
          have hm : a ∈ s.row := by rw [a3]; simp
          exact nodup_map_inj s.row hnd a z hm hz (by have : a.pos = k := by simpa using a2
                                                      rw [this, e])
        subst haz
        exact ⟨l1, l2, a3, a4⟩
      rw [h2] at hy
      rw [h1] at hnd
      have h4 := ((List.perm_middle.map (fun x : Hld => x.pos)).nodup_iff).1 hnd
      rw [List.map_cons, List.nodup_cons] at h4
      exact h4.1 (List.mem_map.2 ⟨y, hy, by rw [hyk, e]⟩)
    refine ⟨⟨h.n, hok, h.size, fun y hy => ?_, fun j hf => ?_, hsame⟩, ?_⟩
    · rcases List.mem_append.1 hy with hy | hy
      · exact hnew y (gone_mem hy) (hgn y hy)
      · obtain rfl : y = ⟨k, true, f⟩ := by simpa using hy
        exact ⟨hk, by simp, by simp⟩
    · by_cases ej : j = k
      · exact ⟨⟨k, true, f⟩, by simp, ej.symm⟩
      · rw [if_neg ej] at hf
        obtain ⟨y, hy, ey⟩ := h.held j hf
        exact ⟨y, List.mem_append.2 (.inl (mem_gone hy (by rw [ey]; exact ej))), ey⟩
    · have := fast_gone ha
      rw [hzf] at this
      unfold fastN at this ⊢
      rw [List.countP_append, this]
      cases F k <;> simp
  | none =>
    rw [ha] at hok
    simp only at hok ⊢
    have hno := atR_not ha
    have hn := h.notHeld ha
    refine ⟨⟨h.n, hok, h.size, fun y hy => ?_, fun j hf => ?_, hsame⟩, ?_⟩
    · rcases List.mem_append.1 hy with hy | hy
      · exact hnew y (mem_place hy) (hno y (mem_place hy))
      · obtain rfl : y = ⟨k, true, f⟩ := by simpa using hy
        exact ⟨hk, by simp, by simp⟩
    · by_cases ej : j = k
      · exact ⟨⟨k, true, f⟩, by simp, ej.symm⟩
      · rw [if_neg ej] at hf
        obtain ⟨y, hy, ey⟩ := h.held j hf
        have hyf : y.fast = true := by rw [(h.row y hy).2.2, ey]; exact hf
        exact ⟨y, List.mem_append.2 (.inl (place_keeps hy hyf)), ey⟩
    · have := fast_place s.size s.row
      unfold fastN at this ⊢
      rw [List.countP_append, this, hn]
      simp
theorem CInv.new (t : St) (hb : b ≤ t.n) (hl : 1 ≤ l ∧ l ≤ 4096) : CInv b l (newC l) t (curV t) (fun _ => false) := by
  refine ⟨hb, ⟨hl, ?_, fun h hh => ?_, ?_⟩, rfl, fun h hh => ?_, fun k hk => (by cases hk), fun _ _ _ => rfl⟩
  · show (([] : List Hld).length : Int) ≤ l
    simp; omega
  · simp [newC] at hh
  · simp [newC]
  · simp [newC] at hh
end Go.Proofs.YtiejhjngcnkimaaGreatRW
