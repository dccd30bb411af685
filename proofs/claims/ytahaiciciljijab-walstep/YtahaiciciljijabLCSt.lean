/- A log that has begun a step, with two lists beside it: numbers and blocks; what each call and each append leaves. -/
import Derived.Test.YtahaiciciljijabLWant
namespace Go.Proofs.Ytahaiciciljijab
open Go.RowKit Go.Maps
/-- Changes that lie one behind the other. -/
def ChsAt (w : World) (p : Option Addr) (cs : List (Int × Int)) : Prop := 0 < cs.length → ∃ b off, p = some ⟨b, off, none⟩ ∧ b < w.heap.size ∧ ∀ j c, cs[j]? = some c → w.cell? ⟨b, off + j * 2, none⟩ = some (.int .i64 c.1) ∧ w.cell? ⟨b, off + j * 2 + 1, none⟩ = some (.int .u8 c.2)
theorem ChsAt.later {w W : World} {p : Option Addr} {l : List (Int × Int)} (h : ChsAt w p l) (hb : Below w.heap.size w W) : ChsAt W p l := fun h0 => by
  obtain ⟨b, off, h1, h2, h3⟩ := h h0
  exact ⟨b, off, h1, Nat.lt_of_lt_of_le h2 hb.size, fun j x hx => ⟨(hb.cell (p := ⟨b, off + j * 2, none⟩) h2).trans (h3 j x hx).1, (hb.cell (p := ⟨b, off + j * 2 + 1, none⟩) h2).trans (h3 j x hx).2⟩⟩
variable {W1 W W' : World} {g d q8 : Nat} {LA : Array Value} {b l i : Int} {n : Nat} {v10 v11 : Value} {ord zs : List Int} {fs : List (Nat → Int)} {book : Int → Nat → Int}
/-- A log in a step that has changed ord; a list of numbers and a list of blocks beside it. -/
def GSt (W1 W : World) (g d q8 : Nat) (LA : Array Value) (b l i : Int) (n : Nat) (v10 v11 : Value) (ord : List Int) (book : Int → Nat → Int) (zs : List Int) (fs : List (Nat → Int)) : Prop :=
  ∃ o1 o2, LogI W1 W g d (grpX b l i n ord) (freshT b) book (o1 ++ (o2 ++ [(q8, .cells LA 34)])) ∧ Holds W1.heap.size o1 3 1 v10 zs.length (zs.map (Value.int .i64)) ∧ Holds W1.heap.size o2 46 1024 v11 fs.length (blkCells fs) ∧
    (∀ p ∈ o2 ++ [(q8, Obj.cells LA 34)], v10.ownBlock ≠ some p.1) ∧ ∀ p ∈ o1 ++ [(q8, Obj.cells LA 34)], v11.ownBlock ≠ some p.1
theorem GSt.start (h : LogI W1 W g d (grpX b l i n []) (freshT b) book [(q8, .cells LA 34)]) : GSt W1 W g d q8 LA b l i n (.slice none 0 0) (.slice none 0 0) [] book [] [] :=
  ⟨[], [], h, Holds.nil _ _ _, Holds.nil _ _ _, fun _ _ q => (by cases q), fun _ _ q => (by cases q)⟩
theorem GSt.later (h : GSt W1 W g d q8 LA b l i n v10 v11 ord book zs fs) (hb : Below W.heap.size W W') : GSt W1 W' g d q8 LA b l i n v10 v11 ord book zs fs := by
  obtain ⟨o1, o2, h1, h2⟩ := h
  exact ⟨o1, o2, h1.later hb, h2⟩
theorem GSt.below (h : GSt W1 W g d q8 LA b l i n v10 v11 ord book zs fs) : Below W1.heap.size W1 W := by
  obtain ⟨o1, o2, h1, h2⟩ := h
  exact h1.below
theorem GSt.row (h : GSt W1 W g d q8 LA b l i n v10 v11 ord book zs fs) : W.heap[q8]? = some (.cells LA 34) := by
  obtain ⟨o1, o2, h1, h2⟩ := h
  exact h1.obj (List.mem_append.2 (.inr (List.mem_append.2 (.inr (List.mem_cons_self ..)))))
theorem GSt.owns1 (h : GSt W1 W g d q8 LA b l i n v10 v11 ord book zs fs) : W.ownsRow W1.heap.size 3 1 v10 zs.length (zs.map (Value.int .i64)) := by
  obtain ⟨o1, o2, h1, h2, _⟩ := h
  exact h1.owns h2
theorem GSt.swap {o1 o2 : List (Nat × Obj)} {x : LSt} {t : St} (h : LogI W1 W g d x t book (o1 ++ (o2 ++ [(q8, .cells LA 34)]))) : LogI W1 W g d x t book (o2 ++ (o1 ++ [(q8, .cells LA 34)])) := h.drop fun p hp => by
  simp only [List.mem_append] at hp ⊢
  rcases hp with hp | hp | hp
  · exact .inr (.inl hp)
  · exact .inl hp
  · exact .inr (.inr hp)
theorem GSt.owns2 (h : GSt W1 W g d q8 LA b l i n v10 v11 ord book zs fs) : W.ownsRow W1.heap.size 46 1024 v11 fs.length (blkCells fs) := by
  obtain ⟨o1, o2, h1, h2, h3, _⟩ := h
  exact (GSt.swap h1).owns h3
theorem GSt.ints (h : GSt W1 W g d q8 LA b l i n v10 v11 ord book zs fs) : ∃ p c, v10 = .slice p zs.length c ∧ H.IntsAt W p zs := by
  obtain ⟨p, c, h1, h2, _⟩ := H.ints_of_row h.owns1
  exact ⟨p, c, h1, h2⟩
theorem GSt.nd (h : GSt W1 W g d q8 LA b l i n v10 v11 ord book zs fs) : ord.Nodup := by
  obtain ⟨o1, o2, ⟨s, _, h1⟩, h2⟩ := h
  exact h1.nd
theorem GSt.write (h : GSt W1 W g d q8 LA b l i n v10 v11 ord book zs fs) {k : Int} {f : Nat → Int} (hf : Can f) (hk : 1 + l ≤ k ∧ k < b) (hr : ord.length < n) :
    Calls Try.prog 15 #[ptr g, .int .i64 k, .agg (blk f)] W fun e W' => e = .returned (.int .i64 0) ∧ GSt W1 W' g d q8 LA b l i n v10 v11 (ordV ord k) (fun j => if j = k then f else book j) zs fs := by
  obtain ⟨o1, o2, h1, h2⟩ := h
  refine (grp_write h1 (by rfl) hf hk (by omega)).mono ?_
  rintro e W' ⟨rfl, h3⟩
  exact ⟨rfl, o1, o2, h3, h2⟩
theorem GSt.pushZ (h : GSt W1 W g d q8 LA b l i n v10 v11 ord book zs fs) (hl : zs.length ≤ 1000) (y : Int) (ty : TypeId) :
    ∃ v' W', (Builtin.append_ #[25, 25] ty #[v10, .slice (some ⟨W.heap.size, 0, none⟩) 1 1]).run Try.prog (W.alloc (.cells #[.int .i64 y] 3)) = .ok v' W' ∧ GSt W1 W' g d q8 LA b l i n v' v11 ord book (zs ++ [y]) fs := by
  have hW := h.below.size
  obtain ⟨o1, o2, h1, h2, h3, h4, h5⟩ := h
  obtain ⟨i0, hi0, hz0, hz1, hz2⟩ := info_parts H.info3
  obtain ⟨v', W', own', hr, q1, q2, q3⟩ := h1.push Try.underlying25 hi0 hz0 hz1 hz2 rfl (by decide) h2 (Nat.le_refl _) hW h4 (m := 1) (news := [.int .i64 y]) (by omega) rfl (fun u hu => by simp at hu; subst hu; rfl) (by unfold maxLen; omega) (by omega) ty
  refine ⟨v', W', hr, own', o2, q1, ?_, h3, q3, ?_⟩
  · rw [List.length_append, List.map_append]
    exact q2
  · intro p hp
    rcases List.mem_append.1 hp with hp | hp
    · intro e
      obtain ⟨o, ho⟩ := h3.2.1 _ e
      exact q3 _ (List.mem_append.2 (.inl ho)) (q2.2.2 p hp)
    · exact h5 p (List.mem_append.2 (.inr hp))
theorem info23b : (Try.prog.info? 46).map (fun i => (i.zero, i.size, i.bytes)) = some (some (.agg (blk nought)), 1024, 1024) := by kernel_rfl
theorem GSt.pushB (h : GSt W1 W g d q8 LA b l i n v10 v11 ord book zs fs) (hl : fs.length ≤ 1000) (f : Nat → Int) (ty : TypeId) :
    ∃ v' W', (Builtin.append_ #[50, 50] ty #[v11, .slice (some ⟨W.heap.size, 0, none⟩) 1 1]).run Try.prog (W.alloc (.cells (blk f) 46)) = .ok v' W' ∧ GSt W1 W' g d q8 LA b l i n v10 v' ord book zs (fs ++ [f]) := by
  have hW := h.below.size
  obtain ⟨o1, o2, h1, h2, h3, h4, h5⟩ := h
  obtain ⟨i0, hi0, hz0, hz1, hz2⟩ := info_parts info23b
  have ho : ∀ u ∈ (blk f).toList, u.oneCell' = true := fun u hu => by
    have := blk_one f
    rw [Array.all_eq_true'] at this
    exact this u (Array.mem_toList_iff.1 hu)
  obtain ⟨Z, hZ, hZs⟩ : ∃ Z : Value, Value.agg (blk nought) = Z ∧ Z.cells.size = 1024 := ⟨_, rfl, blk_size nought⟩
  rw [hZ] at hz0
  obtain ⟨N, hN, hNl⟩ : ∃ N : List Value, (blk f).toList = N ∧ N.length = 1 * 1024 := ⟨_, rfl, by rw [blk_list_len]⟩
  rw [hN] at ho
  have h1' := GSt.swap h1
  obtain ⟨v', W', own', hr, q1, q2, q3⟩ := LogI.push Try.underlying50 hi0 hz0 hz1 hz2 hZs (by omega) h1' h3 (Nat.le_refl _) hW h5 (m := 1) (by omega) hNl ho (by unfold maxLen; omega) (by omega) ty
  have hNA : N.toArray = blk f := by rw [← hN]
  rw [hNA] at hr
  rw [← hN] at q2
  refine ⟨v', W', hr, o1, own', GSt.swap q1, h2, ?_, ?_, q3⟩
  · rw [List.length_append, blkCells_append, blkCells_one]
    exact q2
  · intro p hp
    rcases List.mem_append.1 hp with hp | hp
    · intro e
      obtain ⟨o, ho⟩ := h2.2.1 _ e
      exact q3 _ (List.mem_append.2 (.inl ho)) (q2.2.2 p hp)
    · exact h4 p (List.mem_append.2 (.inr hp))
theorem GSt.setB (h : GSt W1 W g d q8 LA b l i n v10 v11 ord book zs fs) {q k : Nat} (hq : v11.ownBlock = some q) (hk : k < fs.length) (f : Nat → Int) : GSt W1 (W.setCells q (k * 1024) (blk f).toList) g d q8 LA b l i n v10 v11 ord book zs (fs.set k f) := by
  obtain ⟨o1, o2, h1, h2, h3, h4, h5⟩ := h
  obtain ⟨own', q1, q2⟩ := (GSt.swap h1).setBlk h3 (Nat.le_refl _) h5 hq hk f
  refine ⟨o1, own', GSt.swap q1, h2, by rw [List.length_set]; exact q2, fun p hp => ?_, h5⟩
  rcases List.mem_append.1 hp with hp | hp
  · have e1 := q2.2.2 p hp
    obtain ⟨o, ho⟩ := h3.2.1 _ e1
    exact h4 (p.1, o) (List.mem_append.2 (.inl ho))
  · exact h4 p (List.mem_append.2 (.inr hp))
end Go.Proofs.Ytahaiciciljijab
