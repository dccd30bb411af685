/- A log with two lists beside it, whatever it stands for; the sync of a group; a list of things done that grows beside a log; the history; no condition. -/
import Derived.Test.YtahaiciciljijabLCSt
namespace Go.Proofs.Ytahaiciciljijab
open Go.RowKit Go.Maps
variable {w W1 W W' : World} {g d q8 : Nat} {LA : Array Value} {v10 v11 v18 : Value} {zs : List Int} {fs : List (Nat → Int)} {book : Int → Nat → Int} {x x' : LSt} {t t' : St} {ks : List (Nat × Obj)} {want : List Rec}
def GX (W1 W : World) (g d q8 : Nat) (LA : Array Value) (x : LSt) (t : St) (v10 v11 : Value) (book : Int → Nat → Int) (zs : List Int) (fs : List (Nat → Int)) : Prop :=
  ∃ o1 o2, LogI W1 W g d x t book (o1 ++ (o2 ++ [(q8, .cells LA 34)])) ∧ Holds W1.heap.size o1 3 1 v10 zs.length (zs.map (Value.int .i64)) ∧ Holds W1.heap.size o2 46 1024 v11 fs.length (blkCells fs) ∧
    (∀ p ∈ o2 ++ [(q8, Obj.cells LA 34)], v10.ownBlock ≠ some p.1) ∧ ∀ p ∈ o1 ++ [(q8, Obj.cells LA 34)], v11.ownBlock ≠ some p.1
theorem GSt.gx {b l i : Int} {n : Nat} {ord : List Int} (h : GSt W1 W g d q8 LA b l i n v10 v11 ord book zs fs) : GX W1 W g d q8 LA (grpX b l i n ord) (freshT b) v10 v11 book zs fs := h
theorem GX.call {fn : Nat} {args : Array Value} {E : Ending} (h : GX W1 W g d q8 LA x t v10 v11 book zs fs) (hc : ∀ ks, LogI W1 W g d x t book ks → Calls Try.prog fn args W fun e W' => e = E ∧ LogI W1 W' g d x' t' book ks) :
    Calls Try.prog fn args W fun e W' => e = E ∧ GX W1 W' g d q8 LA x' t' v10 v11 book zs fs := by
  obtain ⟨o1, o2, h1, h2⟩ := h
  exact (hc _ h1).mono fun e W' ⟨he, h3⟩ => ⟨he, o1, o2, h3, h2⟩
/-- A commit on a disk that has no fuse: what it did. -/
theorem LogI.syncAll (h : LogI w W g d x t book ks) (hr : refL x t false = 0) (hb : x.blocks ≠ []) (hrm : Rm t (2 * x.blocks.length + 12)) (hcm : x.commits < 1099511627776) (hf : t.fuse = -1) :
    Calls Try.prog 20 #[ptr g] W fun e W' => e = .returned (.int .i64 0) ∧ LogI w W' g d { forgotL x with commits := x.commits + 1 } (runV (cmtOps x book) t) book ks := by
  have hs := claimed_live (refL_live hr).1
  refine (h.sync hr hb hrm hcm).mono ?_
  obtain ⟨s, _, hI⟩ := h
  rintro e W' ⟨h1, h2, h3⟩
  obtain ⟨a1, _⟩ := run_free (cmtOps x book) t hs hf (cmt_in hI hI.c.n)
  exact ⟨by rw [h1, a1], h3 a1⟩
theorem LogI.runs (h : LogI w W g d x t book ks) (hs : t.stopped = false) (hf : t.fuse = -1) : runE (cmtOps x book) t = 0 := by
  obtain ⟨s, _, hI⟩ := h
  exact (run_free (cmtOps x book) t hs hf (cmt_in hI hI.c.n)).1
/-- A list of things done, beside a log and other blocks. -/
def HX (W1 W : World) (g d : Nat) (x : LSt) (t : St) (book : Int → Nat → Int) (v18 : Value) (want : List Rec) (ks : List (Nat × Obj)) : Prop :=
  ∃ o3, LogI W1 W g d x t book (o3 ++ ks) ∧ Holds W1.heap.size o3 97 1026 v18 want.length (opCells want) ∧ ∀ p ∈ ks, v18.ownBlock ≠ some p.1
theorem HX.start (h : LogI W1 W g d x t book ks) : HX W1 W g d x t book (.slice none 0 0) [] ks := ⟨[], h, Holds.nil _ _ _, fun _ _ q => (by cases q)⟩
theorem HX.later (h : HX W1 W g d x t book v18 want ks) (hb : Below W.heap.size W W') : HX W1 W' g d x t book v18 want ks := by
  obtain ⟨o3, h1, h2⟩ := h
  exact ⟨o3, h1.later hb, h2⟩
theorem HX.below (h : HX W1 W g d x t book v18 want ks) : Below W1.heap.size W1 W := by
  obtain ⟨o3, h1, h2⟩ := h
  exact h1.below
theorem HX.obj (h : HX W1 W g d x t book v18 want ks) {p : Nat × Obj} (hp : p ∈ ks) : W.heap[p.1]? = some p.2 := by
  obtain ⟨o3, h1, h2⟩ := h
  exact h1.obj (List.mem_append.2 (.inr hp))
theorem opCells_ones : ∀ (l : List Rec), ∀ v ∈ opCells l, v.oneCell' = true := fun l v hv => by
  unfold opCells at hv
  obtain ⟨r, _, hr⟩ := List.mem_flatMap.1 hv
  exact recCells_one r v hr
theorem HX.push (h : HX W1 W g d x t book v18 want ks) (rs : List Rec) (hrs : 0 < rs.length ∧ rs.length ≤ 10) (hl : want.length ≤ 1000) (ty : TypeId) :
    ∃ v' W', (Builtin.append_ #[88, 88] ty #[v18, .slice (some ⟨W.heap.size, 0, none⟩) rs.length rs.length]).run Try.prog (W.alloc (.cells (opCells rs).toArray 97)) = .ok v' W' ∧ HX W1 W' g d x t book v' (want ++ rs) ks := by
  have hW := h.below.size
  obtain ⟨o3, h1, h2, h3⟩ := h
  obtain ⟨i0, hi0, hz0, hz1, hz2⟩ := info_parts info108
  obtain ⟨Z, hZ, hZs⟩ : ∃ Z : Value, Value.agg (recCells ⟨0, 0, nought⟩).toArray = Z ∧ Z.cells.size = 1026 := ⟨_, rfl, rec_size _⟩
  rw [hZ] at hz0
  obtain ⟨v', W', own', hr, q1, q2, q3⟩ := LogI.push Try.underlying88 hi0 hz0 hz1 hz2 hZs (by omega) h1 h2 (Nat.le_refl _) hW h3 hrs.1 (opCells_len rs) (opCells_ones rs) (by unfold maxLen; omega) (by omega) ty
  refine ⟨v', W', hr, own', q1, ?_, q3⟩
  rw [List.length_append, opCells_append]
  exact q2
theorem HX.ops (h : HX W1 W g d x t book v18 want ks) : ∃ p c, v18 = .slice p want.length c ∧ OpsAt W p want := by
  obtain ⟨o3, h1, h2, h3⟩ := h
  have ho := h1.owns h2
  rcases ho.2 with ⟨h4, h5⟩ | ⟨q, cap, cur, h4, hB, hg, hc, hm, hs, ht⟩
  · exact ⟨none, 0, by rw [h4, h5], fun q => by omega⟩
  · refine ⟨_, cap, h4, fun _ => ⟨q, 0, rfl, (Array.getElem?_eq_some_iff.1 hg).1, fun k r hr j v hv => ?_⟩⟩
    have hk := (List.getElem?_eq_some_iff.1 hr).1
    have hj : j < 1026 := by have := (List.getElem?_eq_some_iff.1 hv).1; rwa [recCells_len] at this
    rw [cell_of_row W q _ cur 97 _ hg, ← Array.getElem?_toList, Nat.zero_add, ← List.getElem?_take_of_lt (i := k * 1026 + j) (j := want.length * 1026) (by omega), ht, opCells_get want k j r hr hj]
    exact hv
end Go.Proofs.Ytahaiciciljijab
