import Derived.Test.YtahaiciciljijaaLWant
/- A log that has begun a step, with two lists beside it: numbers and blocks; what each call and each append leaves. -/
namespace Go.Proofs.Ytahaiciciljijaa
open Go.RowKit Go.Maps
/-- Changes that lie one behind the other. -/
def ChsAt (w : World) (p : Option Addr) (cs : List (Int × Int)) : Prop := 0 < cs.length → ∃ b off, p = some ⟨b, off, none⟩ ∧ b < w.heap.size ∧ ∀ j c, cs[j]? = some c → w.cell? ⟨b, off + j * 2, none⟩ = some (.int .i64 c.1) ∧ w.cell? ⟨b, off + j * 2 + 1, none⟩ = some (.int .u8 c.2)
theorem ChsAt.later {w W : World} {p : Option Addr} {l : List (Int × Int)} (h : ChsAt w p l) (hb : Below w.heap.size w W) : ChsAt W p l := fun h0 => by
  obtain ⟨b, off, h1, h2, h3⟩ := h h0
  exact ⟨b, off, h1, Nat.lt_of_lt_of_le h2 hb.size, fun j x hx => ⟨(hb.cell (p := ⟨b, off + j * 2, none⟩) h2).trans (h3 j x hx).1, (hb.cell (p := ⟨b, off + j * 2 + 1, none⟩) h2).trans (h3 j x hx).2⟩⟩
variable {W1 W W' : World} {g d q8 : Nat} {LA : Array Value} {b l i : Int} {n : Nat} {v10 v11 : Value} {ord zs : List Int} {fs : List (Nat → Int)} {book : Int → Nat → Int}
/-- A log in a step that has changed ord; a list of numbers and a list of blocks beside it. -/
def GSt (W1 W : World) (g d q8 : Nat) (LA : Array Value) (b l i : Int) (n : Nat) (v10 v11 : Value) (ord : List Int) (book : Int → Nat → Int) (zs : List Int) (fs : List (Nat → Int)) : Prop :=
  ∃ o1 o2, LogI W1 W g d (grpX b l i n ord) (freshT b) book (o1 ++ (o2 ++ [(q8, .cells LA 31)])) ∧ Holds W1.heap.size o1 3 1 v10 zs.length (zs.map (Value.int .i64)) ∧ Holds W1.heap.size o2 23 1024 v11 fs.length (blkCells fs) ∧
    (∀ p ∈ o2 ++ [(q8, Obj.cells LA 31)], v10.ownBlock ≠ some p.1) ∧ ∀ p ∈ o1 ++ [(q8, Obj.cells LA 31)], v11.ownBlock ≠ some p.1
theorem GSt.start (h : LogI W1 W g d (grpX b l i n []) (freshT b) book [(q8, .cells LA 31)]) : GSt W1 W g d q8 LA b l i n (.slice none 0 0) (.slice none 0 0) [] book [] [] :=
  ⟨[], [], h, Holds.nil _ _ _, Holds.nil _ _ _, fun _ _ q => (by cases q), fun _ _ q => (by cases q)⟩
theorem GSt.later (h : GSt W1 W g d q8 LA b l i n v10 v11 ord book zs fs) (hb : Below W.heap.size W W') : GSt W1 W' g d q8 LA b l i n v10 v11 ord book zs fs := by
  obtain ⟨o1, o2, h1, h2⟩ := h
  exact ⟨o1, o2, h1.later hb, h2⟩
theorem GSt.below (h : GSt W1 W g d q8 LA b l i n v10 v11 ord book zs fs) : Below W1.heap.size W1 W := by
  obtain ⟨o1, o2, h1, h2⟩ := h
  exact h1.below
theorem GSt.row (h : GSt W1 W g d q8 LA b l i n v10 v11 ord book zs fs) : W.heap[q8]? = some (.cells LA 31) := by
  obtain ⟨o1, o2, h1, h2⟩ := h
  exact h1.obj (List.mem_append.2 (.inr (List.mem_append.2 (.inr (List.mem_cons_self ..)))))
theorem GSt.owns1 (h : GSt W1 W g d q8 LA b l i n v10 v11 ord book zs fs) : W.ownsRow W1.heap.size 3 1 v10 zs.length (zs.map (Value.int .i64)) := by
  obtain ⟨o1, o2, h1, h2, _⟩ := h
  exact h1.owns h2
theorem GSt.swap {o1 o2 : List (Nat × Obj)} {x : LSt} {t : St} (h : LogI W1 W g d x t book (o1 ++ (o2 ++ [(q8, .cells LA 31)]))) : LogI W1 W g d x t book (o2 ++ (o1 ++ [(q8, .cells LA 31)])) := h.drop fun p hp => by
  simp only [List.mem_append] at hp ⊢
  rcases hp with hp | hp | hp
  · exact .inr (.inl hp)
  · exact .inl hp
  · exact .inr (.inr hp)
theorem GSt.owns2 (h : GSt W1 W g d q8 LA b l i n v10 v11 ord book zs fs) : W.ownsRow W1.heap.size 23 1024 v11 fs.length (blkCells fs) := by
  obtain ⟨o1, o2, h1, h2, h3, _⟩ := h
  exact (GSt.swap h1).owns h3
theorem GSt.ints (h : GSt W1 W g d q8 LA b l i n v10 v11 ord book zs fs) : ∃ p c, v10 = .slice p zs.length c ∧ H.IntsAt W p zs := by
  obtain ⟨p, c, h1, h2, _⟩ := H.ints_of_row h.owns1
  exact ⟨p, c, h1, h2⟩
theorem GSt.nd (h : GSt W1 W g d q8 LA b l i n v10 v11 ord book zs fs) : ord.Nodup := by
  obtain ⟨o1, o2, ⟨s, _, h1⟩, h2⟩ := h
  exact h1.nd
theorem GSt.write (h : GSt W1 W g d q8 LA b l i n v10 v11 ord book zs fs) {k : Int} {f : Nat → Int} (hf : Can f) (hk : 1 + l ≤ k ∧ k < b) (hr : ord.length < n) :
    Calls Try.prog 30 #[ptr g, .int .i64 k, .agg (blk f)] W fun e W' => e = .returned (.int .i64 0) ∧ GSt W1 W' g d q8 LA b l i n v10 v11 (ordV ord k) (fun j => if j = k then f else book j) zs fs := by
  obtain ⟨o1, o2, h1, h2⟩ := h
  refine (grp_write h1 (by rfl) hf hk (by omega)).mono ?_
  rintro e W' ⟨rfl, h3⟩
  exact ⟨rfl, o1, o2, h3, h2⟩
theorem GSt.pushZ (h : GSt W1 W g d q8 LA b l i n v10 v11 ord book zs fs) (hl : zs.length ≤ 1000) (y : Int) (ty : TypeId) :
    ∃ v' W', (Builtin.append_ #[44, 44] ty #[v10, .slice (some ⟨W.heap.size, 0, none⟩) 1 1]).run Try.prog (W.alloc (.cells #[.int .i64 y] 3)) = .ok v' W' ∧ GSt W1 W' g d q8 LA b l i n v' v11 ord book (zs ++ [y]) fs := by
  have hW := h.below.size
  obtain ⟨o1, o2, h1, h2, h3, h4, h5⟩ := h
  obtain ⟨i0, hi0, hz0, hz1, hz2⟩ := info_parts H.info3
  obtain ⟨v', W', own', hr, q1, q2, q3⟩ := h1.push Try.underlying44 hi0 hz0 hz1 hz2 rfl (by decide) h2 (Nat.le_refl _) hW h4 (m := 1) (news := [.int .i64 y]) (by omega) rfl (fun u hu => by simp at hu; subst hu; rfl) (by unfold maxLen; omega) (by omega) ty
  refine ⟨v', W', hr, own', o2, q1, ?_, h3, q3, ?_⟩
  · rw [List.length_append, List.map_append]
    exact q2
  · intro p hp
    rcases List.mem_append.1 hp with hp | hp
    · intro e
      obtain ⟨o, ho⟩ := h3.2.1 _ e
      exact q3 _ (List.mem_append.2 (.inl ho)) (q2.2.2 p hp)
    · exact h5 p (List.mem_append.2 (.inr hp))
theorem info23b : (Try.prog.info? 23).map (fun i => (i.zero, i.size, i.bytes)) = some (some (.agg (blk nought)), 1024, 1024) := by kernel_rfl
theorem GSt.pushB (h : GSt W1 W g d q8 LA b l i n v10 v11 ord book zs fs) (hl : fs.length ≤ 1000) (f : Nat → Int) (ty : TypeId) :
    ∃ v' W', (Builtin.append_ #[69, 69] ty #[v11, .slice (some ⟨W.heap.size, 0, none⟩) 1 1]).run Try.prog (W.alloc (.cells (blk f) 23)) = .ok v' W' ∧ GSt W1 W' g d q8 LA b l i n v10 v' ord book zs (fs ++ [f]) := by
  have hW := h.below.size
  obtain ⟨o1, o2, h1, h2, h3, h4, h5⟩ := h
  obtain ⟨i0, hi0, hz0, hz1, hz2⟩ := info_parts info23b
  have ho : ∀ u ∈ (blk f).toList, u.oneCell' = true := fun u hu => by
    have := blk_one f
    rw [Array.all_eq_true'] at this
    exact this u (Array.mem_toList_iff.1 hu)
  obtain ⟨Z, hZ, hZs⟩ : ∃ Z : Value, Value.agg (blk nought) = Z ∧ Z.cells.size = 1024 := ⟨_, rfl, blk_size nought⟩
  rw [hZ] at hz0
  obtain ⟨N, hN, hNl⟩ : ∃ N : List Value, (blk f).toList = N ∧ N.length = 1 * 1024 := ⟨_, rfl, by rw [blk_list_len]⟩
  rw [hN] at ho
  have h1' := GSt.swap h1
  obtain ⟨v', W', own', hr, q1, q2, q3⟩ := LogI.push Try.underlying69 hi0 hz0 hz1 hz2 hZs (by omega) h1' h3 (Nat.le_refl _) hW h5 (m := 1) (by omega) hNl ho (by unfold maxLen; omega) (by omega) ty
  have hNA : N.toArray = blk f := by rw [← hN]
  rw [hNA] at hr
  rw [← hN] at q2
  refine ⟨v', W', hr, o1, own', GSt.swap q1, h2, ?_, ?_, q3⟩
  · rw [List.length_append, blkCells_append, blkCells_one]
    exact q2
  · intro p hp
    rcases List.mem_append.1 hp with hp | hp
    · intro e
      obtain ⟨o, ho⟩ := h2.2.1 _ e
      exact q3 _ (List.mem_append.2 (.inl ho)) (q2.2.2 p hp)
    · exact h4 p (List.mem_append.2 (.inr hp))
theorem GSt.setB (h : GSt W1 W g d q8 LA b l i n v10 v11 ord book zs fs) {q k : Nat} (hq : v11.ownBlock = some q) (hk : k < fs.length) (f : Nat → Int) : GSt W1 (W.setCells q (k * 1024) (blk f).toList) g d q8 LA b l i n v10 v11 ord book zs (fs.set k f) := by
  obtain ⟨o1, o2, h1, h2, h3, h4, h5⟩ := h
  obtain ⟨own', q1, q2⟩ := (GSt.swap h1).setBlk h3 (Nat.le_refl _) h5 hq hk f
  refine ⟨o1, own', GSt.swap q1, h2, by rw [List.length_set]; exact q2, fun p hp => ?_, h5⟩
  rcases List.mem_append.1 hp with hp | hp
  · have e1 := q2.2.2 p hp
    obtain ⟨o, ho⟩ := h3.2.1 _ e1
    exact h4 (p.1, o) (List.mem_append.2 (.inl ho))
  · exact h4 p (List.mem_append.2 (.inr hp))
end Go.Proofs.Ytahaiciciljijaa
/- A log with two lists beside it, whatever it stands for; the sync of a group; a list of things done that grows beside a log; the history; no condition. -/
namespace Go.Proofs.Ytahaiciciljijaa
open Go.RowKit Go.Maps
variable {w W1 W W' : World} {g d q8 : Nat} {LA : Array Value} {v10 v11 v18 : Value} {zs : List Int} {fs : List (Nat → Int)} {book : Int → Nat → Int} {x x' : LSt} {t t' : St} {ks : List (Nat × Obj)} {want : List Rec}
def GX (W1 W : World) (g d q8 : Nat) (LA : Array Value) (x : LSt) (t : St) (v10 v11 : Value) (book : Int → Nat → Int) (zs : List Int) (fs : List (Nat → Int)) : Prop :=
  ∃ o1 o2, LogI W1 W g d x t book (o1 ++ (o2 ++ [(q8, .cells LA 31)])) ∧ Holds W1.heap.size o1 3 1 v10 zs.length (zs.map (Value.int .i64)) ∧ Holds W1.heap.size o2 23 1024 v11 fs.length (blkCells fs) ∧
    (∀ p ∈ o2 ++ [(q8, Obj.cells LA 31)], v10.ownBlock ≠ some p.1) ∧ ∀ p ∈ o1 ++ [(q8, Obj.cells LA 31)], v11.ownBlock ≠ some p.1
theorem GSt.gx {b l i : Int} {n : Nat} {ord : List Int} (h : GSt W1 W g d q8 LA b l i n v10 v11 ord book zs fs) : GX W1 W g d q8 LA (grpX b l i n ord) (freshT b) v10 v11 book zs fs := h
theorem GX.call {fn : Nat} {args : Array Value} {E : Ending} (h : GX W1 W g d q8 LA x t v10 v11 book zs fs) (hc : ∀ ks, LogI W1 W g d x t book ks → Calls Try.prog fn args W fun e W' => e = E ∧ LogI W1 W' g d x' t' book ks) :
    Calls Try.prog fn args W fun e W' => e = E ∧ GX W1 W' g d q8 LA x' t' v10 v11 book zs fs := by
  obtain ⟨o1, o2, h1, h2⟩ := h
  exact (hc _ h1).mono fun e W' ⟨he, h3⟩ => ⟨he, o1, o2, h3, h2⟩
/-- A commit on a disk that has no fuse: what it did. -/
theorem LogI.syncAll (h : LogI w W g d x t book ks) (hr : refL x t false = 0) (hb : x.blocks ≠ []) (hrm : Rm t (2 * x.blocks.length + 12)) (hcm : x.commits < 1099511627776) (hf : t.fuse = -1) :
    Calls Try.prog 25 #[ptr g] W fun e W' => e = .returned (.int .i64 0) ∧ LogI w W' g d { forgotL x with commits := x.commits + 1 } (runV (cmtOps x book) t) book ks := by
  have hs := claimed_live (refL_live hr).1
  refine (h.sync hr hb hrm hcm).mono ?_
  obtain ⟨s, _, hI⟩ := h
  rintro e W' ⟨h1, h2, h3⟩
  obtain ⟨a1, _⟩ := run_free (cmtOps x book) t hs hf (cmt_in hI hI.c.n)
  exact ⟨by rw [h1, a1], h3 a1⟩
theorem LogI.runs (h : LogI w W g d x t book ks) (hs : t.stopped = false) (hf : t.fuse = -1) : runE (cmtOps x book) t = 0 := by
  obtain ⟨s, _, hI⟩ := h
  exact (run_free (cmtOps x book) t hs hf (cmt_in hI hI.c.n)).1
/-- A list of things done, beside a log and other blocks. -/
def HX (W1 W : World) (g d : Nat) (x : LSt) (t : St) (book : Int → Nat → Int) (v18 : Value) (want : List Rec) (ks : List (Nat × Obj)) : Prop :=
  ∃ o3, LogI W1 W g d x t book (o3 ++ ks) ∧ Holds W1.heap.size o3 86 1026 v18 want.length (opCells want) ∧ ∀ p ∈ ks, v18.ownBlock ≠ some p.1
theorem HX.start (h : LogI W1 W g d x t book ks) : HX W1 W g d x t book (.slice none 0 0) [] ks := ⟨[], h, Holds.nil _ _ _, fun _ _ q => (by cases q)⟩
theorem HX.later (h : HX W1 W g d x t book v18 want ks) (hb : Below W.heap.size W W') : HX W1 W' g d x t book v18 want ks := by
  obtain ⟨o3, h1, h2⟩ := h
  exact ⟨o3, h1.later hb, h2⟩
theorem HX.below (h : HX W1 W g d x t book v18 want ks) : Below W1.heap.size W1 W := by
  obtain ⟨o3, h1, h2⟩ := h
  exact h1.below
theorem HX.obj (h : HX W1 W g d x t book v18 want ks) {p : Nat × Obj} (hp : p ∈ ks) : W.heap[p.1]? = some p.2 := by
  obtain ⟨o3, h1, h2⟩ := h
  exact h1.obj (List.mem_append.2 (.inr hp))
theorem opCells_ones : ∀ (l : List Rec), ∀ v ∈ opCells l, v.oneCell' = true := fun l v hv => by
  unfold opCells at hv
  obtain ⟨r, _, hr⟩ := List.mem_flatMap.1 hv
  exact recCells_one r v hr
theorem HX.push (h : HX W1 W g d x t book v18 want ks) (rs : List Rec) (hrs : 0 < rs.length ∧ rs.length ≤ 10) (hl : want.length ≤ 1000) (ty : TypeId) :
    ∃ v' W', (Builtin.append_ #[37, 37] ty #[v18, .slice (some ⟨W.heap.size, 0, none⟩) rs.length rs.length]).run Try.prog (W.alloc (.cells (opCells rs).toArray 86)) = .ok v' W' ∧ HX W1 W' g d x t book v' (want ++ rs) ks := by
  have hW := h.below.size
  obtain ⟨o3, h1, h2, h3⟩ := h
  obtain ⟨i0, hi0, hz0, hz1, hz2⟩ := info_parts info108
  obtain ⟨Z, hZ, hZs⟩ : ∃ Z : Value, Value.agg (recCells ⟨0, 0, nought⟩).toArray = Z ∧ Z.cells.size = 1026 := ⟨_, rfl, rec_size _⟩
  rw [hZ] at hz0
  obtain ⟨v', W', own', hr, q1, q2, q3⟩ := LogI.push Try.underlying37 hi0 hz0 hz1 hz2 hZs (by omega) h1 h2 (Nat.le_refl _) hW h3 hrs.1 (opCells_len rs) (opCells_ones rs) (by unfold maxLen; omega) (by omega) ty
  refine ⟨v', W', hr, own', q1, ?_, q3⟩
  rw [List.length_append, opCells_append]
  exact q2
theorem HX.ops (h : HX W1 W g d x t book v18 want ks) : ∃ p c, v18 = .slice p want.length c ∧ OpsAt W p want := by
  obtain ⟨o3, h1, h2, h3⟩ := h
  have ho := h1.owns h2
  rcases ho.2 with ⟨h4, h5⟩ | ⟨q, cap, cur, h4, hB, hg, hc, hm, hs, ht⟩
  · exact ⟨none, 0, by rw [h4, h5], fun q => by omega⟩
  · refine ⟨_, cap, h4, fun _ => ⟨q, 0, rfl, (Array.getElem?_eq_some_iff.1 hg).1, fun k r hr j v hv => ?_⟩⟩
    have hk := (List.getElem?_eq_some_iff.1 hr).1
    have hj : j < 1026 := by have := (List.getElem?_eq_some_iff.1 hv).1; rwa [recCells_len] at this
    rw [cell_of_row W q _ cur 86 _ hg, ← Array.getElem?_toList, Nat.zero_add, ← List.getElem?_take_of_lt (i := k * 1026 + j) (j := want.length * 1026) (by omega), ht, opCells_get want k j r hr hj]
    exact hv
end Go.Proofs.Ytahaiciciljijaa
