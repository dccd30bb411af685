/- A row of holdings linked both ways and closed to a ring, as plain functions: what leaving it and standing last in it do; no condition. -/
import Derived.Test.YtencclpcebpgmaaState
namespace Go.Proofs.Ytencclpcebpgmaa
open Go.RowKit
/-- A holding's numbers. -/
structure Nd where
  pos : Int
  fast : Bool
  pv : Nat
  nx : Nat
  dat : Nat → Int
def setM (M : Nat → Nd) (g : Nat) (n : Nd) : Nat → Nd := fun k => if k = g then n else M k
def Lnk (M : Nat → Nd) (x y : Nat) : Prop := (M x).nx = y ∧ (M y).pv = x
def seg (R : Nat → Nat → Prop) : Nat → List Nat → Nat → Prop
  | a, [], b => R a b
  | a, x :: t, b => R a x ∧ seg R x t b
theorem seg_append (R : Nat → Nat → Prop) (x b : Nat) (q : List Nat) : ∀ (a : Nat) (p : List Nat), seg R a (p ++ x :: q) b ↔ seg R a p x ∧ seg R x q b
  | a, [] => Iff.rfl
  | a, c :: t => by
    show R a c ∧ seg R c (t ++ x :: q) b ↔ (R a c ∧ seg R c t x) ∧ seg R x q b
    rw [seg_append R x b q c t, and_assoc]
theorem seg_mono {R R' : Nat → Nat → Prop} (b : Nat) : ∀ (a : Nat) (l : List Nat), seg R a l b → (∀ x y, x ∈ a :: l → y ∈ l ++ [b] → R x y → R' x y) → seg R' a l b
  | a, [], h, hm => hm a b (by simp) (by simp) h
  | a, c :: t, h, hm => ⟨hm a c (by simp) (by simp) h.1, seg_mono b c t h.2 fun x y hx hy => hm x y (List.mem_cons_of_mem _ hx) (by simp only [List.cons_append]; exact List.mem_cons_of_mem _ hy)⟩
def setPv (M : Nat → Nd) (g z : Nat) : Nat → Nd := setM M g { M g with pv := z }
def setNx (M : Nat → Nd) (g z : Nat) : Nat → Nd := setM M g { M g with nx := z }
theorem setPv_pv (M : Nat → Nd) (g z k : Nat) : (setPv M g z k).pv = if k = g then z else (M k).pv := by unfold setPv setM; split <;> rfl
theorem setPv_nx (M : Nat → Nd) (g z k : Nat) : (setPv M g z k).nx = (M k).nx := by
  unfold setPv setM
  split
  · next h => rw [h]
  · rfl
theorem setPv_rest (M : Nat → Nd) (g z k : Nat) : (setPv M g z k).pos = (M k).pos ∧ (setPv M g z k).fast = (M k).fast ∧ (setPv M g z k).dat = (M k).dat := by
  unfold setPv setM
  split
  · next h => rw [h]; exact ⟨rfl, rfl, rfl⟩
  · exact ⟨rfl, rfl, rfl⟩
theorem setNx_nx (M : Nat → Nd) (g z k : Nat) : (setNx M g z k).nx = if k = g then z else (M k).nx := by unfold setNx setM; split <;> rfl
theorem setNx_pv (M : Nat → Nd) (g z k : Nat) : (setNx M g z k).pv = (M k).pv := by
  unfold setNx setM
  split
  · next h => rw [h]
  · rfl
theorem setNx_rest (M : Nat → Nd) (g z k : Nat) : (setNx M g z k).pos = (M k).pos ∧ (setNx M g z k).fast = (M k).fast ∧ (setNx M g z k).dat = (M k).dat := by
  unfold setNx setM
  split
  · next h => rw [h]; exact ⟨rfl, rfl, rfl⟩
  · exact ⟨rfl, rfl, rfl⟩
/-- A holding leaves its row. -/
def leaveM (M : Nat → Nd) (h : Nat) : Nat → Nd := setPv (setNx M (M h).pv (M h).nx) (M h).nx (M h).pv
theorem leave_nx (M : Nat → Nd) (h k : Nat) : (leaveM M h k).nx = if k = (M h).pv then (M h).nx else (M k).nx := by
  unfold leaveM
  rw [setPv_nx, setNx_nx]
theorem leave_pv (M : Nat → Nd) (h k : Nat) : (leaveM M h k).pv = if k = (M h).nx then (M h).pv else (M k).pv := by
  unfold leaveM
  rw [setPv_pv, setNx_pv]
theorem leave_rest (M : Nat → Nd) (h k : Nat) : (leaveM M h k).pos = (M k).pos ∧ (leaveM M h k).fast = (M k).fast ∧ (leaveM M h k).dat = (M k).dat := by
  unfold leaveM
  obtain ⟨a1, a2, a3⟩ := setPv_rest (setNx M (M h).pv (M h).nx) (M h).nx (M h).pv k
  obtain ⟨b1, b2, b3⟩ := setNx_rest M (M h).pv (M h).nx k
  exact ⟨a1.trans b1, a2.trans b2, a3.trans b3⟩
theorem snoc_cases (p : List Nat) : p = [] ∨ ∃ p0 z, p = p0 ++ [z] := by
  rcases List.eq_nil_or_concat p with h | ⟨a, b, h⟩
  · exact .inl h
  · exact .inr ⟨a, b, by simpa using h⟩
/-- Where h stands in the row, its neighbours are of the row, or the end. -/
theorem seg_near {M : Nat → Nd} {e h : Nat} {p q : List Nat} (hs : seg (Lnk M) e (p ++ h :: q) e) : (M h).pv ∈ e :: p ∧ (M h).nx ∈ q ++ [e] := by
  obtain ⟨h1, h2⟩ := (seg_append _ _ _ _ _ _).1 hs
  constructor
  · rcases snoc_cases p with rfl | ⟨p0, z, rfl⟩
    · simp [h1.2]
    · have := ((seg_append _ _ _ _ _ _).1 h1).2.2
      simp [this]
  · cases q with
    | nil => simp [h2.1]
    | cons y t => simp [h2.1.1]
theorem leave_seg {M : Nat → Nd} {e h : Nat} {p q : List Nat} (hn : (e :: (p ++ h :: q)).Nodup) (hs : seg (Lnk M) e (p ++ h :: q) e) : seg (Lnk (leaveM M h)) e (p ++ q) e := by
  obtain ⟨h1, h2⟩ := (seg_append _ _ _ _ _ _).1 hs
  have hL : ∀ x y, x ≠ (M h).pv → y ≠ (M h).nx → Lnk M x y → Lnk (leaveM M h) x y := by
    intro x y hx hy hl
    unfold Lnk
    rw [leave_nx, leave_pv, if_neg hx, if_neg hy]
    exact hl
  have hJ : Lnk (leaveM M h) (M h).pv (M h).nx := by
    unfold Lnk
    rw [leave_nx, leave_pv, if_pos rfl, if_pos rfl]
    exact ⟨rfl, rfl⟩
  rcases snoc_cases p with rfl | ⟨p0, z, rfl⟩
  · have hz : (M h).pv = e := h1.2
    cases q with
    | nil =>
      have hy : (M h).nx = e := h2.1
      rw [hz, hy] at hJ
      exact hJ
    | cons y t =>
      have hy : (M h).nx = y := h2.1.1
      rw [hz, hy] at hJ
      refine ⟨hJ, seg_mono e y t h2.2 fun a b ha hb => hL a b ?_ ?_⟩
      · rw [hz]; rintro rfl; simp at hn; simp at ha; rcases ha with rfl | ha
        · exact hn.1.2.1 rfl
        · exact hn.1.2.2 ha
      · rw [hy]; rintro rfl; simp at hn; simp at hb; rcases hb with hb | rfl
        · exact hn.2.2.1 hb
        · exact hn.1.2.1 rfl
  · obtain ⟨h3, h4⟩ := (seg_append _ _ _ _ _ _).1 h1
    have hz : (M h).pv = z := h4.2
    have hne : ∀ a, a ∈ e :: p0 → a ≠ z := by
      rintro a ha rfl
      simp at hn ha
      rcases ha with rfl | ha
      · simp at hn
      · have := hn.2
        rw [List.nodup_append] at this
        exact this.2.2 a ha a (by simp) rfl
    have hyz : ∀ b, b ∈ p0 ++ [z] → b ∉ h :: q := by
      intro b hb hb'
      have := (List.nodup_cons.1 hn).2
      rw [List.nodup_append] at this
      exact this.2.2 b hb b hb' rfl
    have hnq : (e :: (h :: q)).Nodup := by
      rw [List.nodup_cons] at hn ⊢
      refine ⟨fun q' => hn.1 (List.mem_append.2 (.inr q')), (List.nodup_append.1 hn.2).2.1⟩
    rw [List.append_assoc]
    show seg _ e (p0 ++ z :: q) e
    refine (seg_append _ _ _ _ _ _).2 ⟨seg_mono z e p0 h3 fun a b ha hb => hL a b (by rw [hz]; exact hne a ha) ?_, ?_⟩
    · rintro rfl
      cases q with
      | nil =>
        have hy : (M h).nx = e := h2.1
        rw [hy] at hb
        exact (List.nodup_cons.1 hn).1 (List.mem_append.2 (.inl hb))
      | cons y t =>
        have hy : (M h).nx = y := h2.1.1
        rw [hy] at hb
        exact hyz y hb (by simp)
    · cases q with
      | nil =>
        have hy : (M h).nx = e := h2.1
        rw [hz, hy] at hJ
        exact hJ
      | cons y t =>
        have hy : (M h).nx = y := h2.1.1
        rw [hz, hy] at hJ
        refine ⟨hJ, seg_mono e y t h2.2 fun a b ha hb => hL a b ?_ ?_⟩
        · rw [hz]; rintro rfl
          exact hyz a (by simp) (List.mem_cons_of_mem _ ha)
        · rw [hy]; rintro rfl; simp at hnq; simp at hb; rcases hb with hb | rfl
          · exact hnq.2.2.1 hb
          · exact hnq.1.2.1 rfl
/-- A holding is put ahead of the end. -/
def standM (M : Nat → Nd) (h e : Nat) : Nat → Nd := setPv (setNx (setNx (setPv M h (M e).pv) h e) (M e).pv h) e h
theorem stand_nx (M : Nat → Nd) (h e k : Nat) : (standM M h e k).nx = if k = (M e).pv then h else if k = h then e else (M k).nx := by
  unfold standM
  rw [setPv_nx, setNx_nx, setNx_nx, setPv_nx]
theorem stand_pv (M : Nat → Nd) (h e k : Nat) : (standM M h e k).pv = if k = e then h else if k = h then (M e).pv else (M k).pv := by
  unfold standM
  rw [setPv_pv, setNx_pv, setNx_pv, setPv_pv]
theorem stand_rest (M : Nat → Nd) (h e k : Nat) : (standM M h e k).pos = (M k).pos ∧ (standM M h e k).fast = (M k).fast ∧ (standM M h e k).dat = (M k).dat := by
  unfold standM
  obtain ⟨a1, a2, a3⟩ := setPv_rest (setNx (setNx (setPv M h (M e).pv) h e) (M e).pv h) e h k
  obtain ⟨b1, b2, b3⟩ := setNx_rest (setNx (setPv M h (M e).pv) h e) (M e).pv h k
  obtain ⟨c1, c2, c3⟩ := setNx_rest (setPv M h (M e).pv) h e k
  obtain ⟨d1, d2, d3⟩ := setPv_rest M h (M e).pv k
  exact ⟨a1.trans (b1.trans (c1.trans d1)), a2.trans (b2.trans (c2.trans d2)), a3.trans (b3.trans (c3.trans d3))⟩
/-- The last of the row, or the end. -/
theorem seg_last {M : Nat → Nd} {e : Nat} {l : List Nat} (hs : seg (Lnk M) e l e) : (M e).pv ∈ e :: l := by
  rcases snoc_cases l with rfl | ⟨p0, z, rfl⟩
  · simp [hs.2]
  · have := ((seg_append _ _ _ _ _ _).1 hs).2.2
    simp [this]
theorem seg_first {M : Nat → Nd} {e : Nat} {l : List Nat} (hs : seg (Lnk M) e l e) : (M e).nx = (l ++ [e]).headD 0 := by
  cases l with
  | nil => exact hs.1
  | cons y t => exact hs.1.1
theorem stand_seg {M : Nat → Nd} {e h : Nat} {l : List Nat} (hn : (h :: e :: l).Nodup) (hs : seg (Lnk M) e l e) : seg (Lnk (standM M h e)) e (l ++ [h]) e := by
  have hhe : h ≠ e := by rintro rfl; simp at hn
  have hlast := seg_last hs
  have hz : h ≠ (M e).pv := by
    intro q
    rw [← q] at hlast
    exact (List.nodup_cons.1 hn).1 hlast
  have hN := fun k => stand_nx M h e k
  have hP := fun k => stand_pv M h e k
  have hfin : seg (Lnk (standM M h e)) h [] e := by
    show Lnk _ h e
    unfold Lnk
    rw [hN, hP, if_neg hz, if_pos rfl, if_pos rfl]
    exact ⟨rfl, rfl⟩
  refine (seg_append _ _ _ _ _ _).2 ⟨?_, hfin⟩
  have hJ : Lnk (standM M h e) (M e).pv h := by
    unfold Lnk
    rw [hN, hP, if_pos rfl, if_neg hhe, if_pos rfl]
    exact ⟨rfl, rfl⟩
  rcases snoc_cases l with rfl | ⟨p0, z, rfl⟩
  · have : (M e).pv = e := hs.2
    rw [this] at hJ
    exact hJ
  · obtain ⟨h3, h4⟩ := (seg_append _ _ _ _ _ _).1 hs
    have hez : (M e).pv = z := h4.2
    rw [hez] at hJ
    refine (seg_append _ _ _ _ _ _).2 ⟨seg_mono z e p0 h3 fun a b ha hb hl => ?_, hJ⟩
    have hae : a ≠ z := by
      rintro rfl
      simp at hn ha
      rcases ha with rfl | ha
      · simp at hn
      · have := hn.2.2
        rw [List.nodup_append] at this
        exact this.2.2 a ha a (by simp) rfl
    have hah : a ≠ h := by
      rintro rfl
      refine (List.nodup_cons.1 hn).1 ?_
      simp at ha ⊢
      rcases ha with rfl | ha
      · exact .inl rfl
      · exact .inr (.inl ha)
    have hbe : b ≠ e := by
      rintro rfl
      exact (List.nodup_cons.1 (List.nodup_cons.1 hn).2).1 hb
    have hbh : b ≠ h := by
      rintro rfl
      exact (List.nodup_cons.1 hn).1 (List.mem_cons_of_mem _ hb)
    unfold Lnk
    rw [hN, hP, if_neg (by rw [hez]; exact hae), if_neg hah, if_neg hbe, if_neg hbh]
    exact hl
end Go.Proofs.Ytencclpcebpgmaa
