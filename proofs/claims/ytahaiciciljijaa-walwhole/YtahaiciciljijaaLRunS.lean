/- A story beside a log, as the walk of run keeps it: what was told hidden, the boxes beside it; what it reads, how it turns and grows; no condition. -/
import Derived.Test.YtahaiciciljijaaLStory
namespace Go.Proofs.Ytahaiciciljijaa
open Go.RowKit Go.Maps
/-- A log with a story beside it: the story's row at q, boxes KS beside it, none of the told lists in the row r. -/
def RS (w : World) (g d q r : Nat) (KS : List (Nat × Obj)) (W : World) (X : LSt) (T : St) (bk : Int → Nat → Int) (fss : List (List (Nat → Int))) (lst last : Int) (ok : Bool) : Prop :=
  ∃ vT vs oT ks, SX w (fun W t ks => LogI w W g d X t bk ks) W T q vT vs fss lst last ok oT ks ∧ (∀ p ∈ KS, p ∈ ks) ∧ ∀ v ∈ vs, v.ownBlock ≠ some r
section
variable {w W W' : World} {g d q r : Nat} {KS : List (Nat × Obj)} {X X' : LSt} {T T' : St} {bk bk' : Int → Nat → Int} {fss : List (List (Nat → Int))} {lst last : Int} {ok : Bool}
theorem RS.call {fn : Nat} {args : Array Value} {E : Ending} (h : RS w g d q r KS W X T bk fss lst last ok) (hc : ∀ ks, LogI w W g d X T bk ks → Calls Try.prog fn args W fun e W' => e = E ∧ LogI w W' g d X' T' bk' ks) :
    Calls Try.prog fn args W fun e W' => e = E ∧ RS w g d q r KS W' X' T' bk' fss lst last ok := by
  obtain ⟨vT, vs, oT, ks, h1, h2, h3⟩ := h
  exact (h1.call hc).mono fun e W' ⟨he, h4⟩ => ⟨he, vT, vs, oT, ks, h4, h2, h3⟩
theorem RS.later (h : RS w g d q r KS W X T bk fss lst last ok) (hb : Below W.heap.size W W') : RS w g d q r KS W' X T bk fss lst last ok := by
  obtain ⟨vT, vs, oT, ks, h1, h2, h3⟩ := h
  exact ⟨vT, vs, oT, ks, h1.later (LogI.ctx w g d X bk) hb, h2, h3⟩
theorem RS.below (h : RS w g d q r KS W X T bk fss lst last ok) : Below w.heap.size w W := by
  obtain ⟨vT, vs, oT, ks, h1, h2, h3⟩ := h
  exact h1.below (LogI.ctx w g d X bk)
theorem RS.log (h : RS w g d q r KS W X T bk fss lst last ok) : LogI w W g d X T bk KS := by
  obtain ⟨vT, vs, oT, ks, h1, h2, h3⟩ := h
  exact h1.c.drop fun p hp => List.mem_append.2 (.inr (List.mem_cons_of_mem _ (h2 p hp)))
theorem RS.obj (h : RS w g d q r KS W X T bk fss lst last ok) {k : Nat} {o : Obj} (hm : (k, o) ∈ KS) : W.heap[k]? = some o := h.log.obj hm
theorem RS.row (h : RS w g d q r KS W X T bk fss lst last ok) : ∃ vT, W.heap[q]? = some (.cells (stRow vT lst last ok) 63) := by
  obtain ⟨vT, vs, oT, ks, h1, h2, h3⟩ := h
  exact ⟨vT, h1.row (LogI.ctx w g d X bk)⟩
/-- What a walk reads of a story. -/
theorem RS.cells (h : RS w g d q r KS W X T bk fss lst last ok) : W.cell? ⟨q, 1, none⟩ = some (.int .i64 lst) ∧ W.cell? ⟨q, 2, none⟩ = some (.int .i64 last) ∧ W.cell? ⟨q, 3, none⟩ = some (.bool ok) ∧ ∀ i, W.frozen? ⟨q, i, none⟩ = false := by
  obtain ⟨vT, vs, oT, ks, h1, h2, h3⟩ := h
  obtain ⟨_, c1, c2, c3⟩ := h1.cells (LogI.ctx w g d X bk)
  exact ⟨c1, c2, c3, h1.free (LogI.ctx w g d X bk)⟩
theorem RS.least (h : RS w g d q r KS W X T bk fss lst last ok) (z : Int) : RS w g d q r KS (W.setCell ⟨q, 1, none⟩ (.int .i64 z)) X T bk fss z last ok := by
  obtain ⟨vT, vs, oT, ks, h1, h2, h3⟩ := h
  exact ⟨vT, vs, oT, ks, h1.set (LogI.ctx w g d X bk) 1 _ rfl, h2, h3⟩
theorem RS.setLast (h : RS w g d q r KS W X T bk fss lst last ok) (z : Int) : RS w g d q r KS (W.setCell ⟨q, 2, none⟩ (.int .i64 z)) X T bk fss lst z ok := by
  obtain ⟨vT, vs, oT, ks, h1, h2, h3⟩ := h
  exact ⟨vT, vs, oT, ks, h1.set (LogI.ctx w g d X bk) 2 _ rfl, h2, h3⟩
theorem RS.okay (h : RS w g d q r KS W X T bk fss lst last ok) (z : Bool) : RS w g d q r KS (W.setCell ⟨q, 3, none⟩ (.bool z)) X T bk fss lst last z := by
  obtain ⟨vT, vs, oT, ks, h1, h2, h3⟩ := h
  exact ⟨vT, vs, oT, ks, h1.set (LogI.ctx w g d X bk) 3 _ rfl, h2, h3⟩
/-- A list that was told. -/
theorem RS.at (h : RS w g d q r KS W X T bk fss lst last ok) {j : Nat} {fs : List (Nat → Int)} (hf : fss[j]? = some fs) :
    ∃ k c p c', W.cell? ⟨q, 0, none⟩ = some (.slice (some ⟨k, 0, none⟩) fss.length c) ∧ W.cell? ⟨k, j, none⟩ = some (.slice p fs.length c') ∧ BlksIn W p fs ∧ k < W.heap.size := by
  obtain ⟨vT, vs, oT, ks, h1, h2, h3⟩ := h
  have hC := LogI.ctx w g d X bk
  have hlt := (List.getElem?_eq_some_iff.1 hf).1
  have hv : vs[j]? = some (vs[j]'(by rw [h1.told.1]; exact hlt)) := List.getElem?_eq_getElem _
  obtain ⟨k, c, e1, e2⟩ := h1.at hC hv
  obtain ⟨p, c', e3, e4⟩ := h1.blks hC hv hf
  have e5 := (h1.cells hC).1
  rw [e1, h1.told.1] at e5
  rw [e3] at e2
  refine ⟨k, c, p, c', e5, e2, e4, ?_⟩
  rcases Nat.lt_or_ge k W.heap.size with q | q
  · exact q
  · simp [World.cell?, Array.getElem?_eq_none q] at e2
/-- One more is told: what stands behind a step, and where it is put. -/
theorem RS.next (h : RS w g d q r KS W X T bk fss lst last ok) (hr : ∃ o, (r, o) ∈ KS) {j : Nat} {fs : List (Nat → Int)} (hf : fss[j]? = some fs) (h0 : 0 < fs.length) (hl : fs.length ≤ 1000) (hfl : fss.length ≤ 1000)
    {pc : Option Addr} {cs : List (Int × Int)} (cc : Nat) (hcs : ChsAt w pc cs) (hfill : ∀ c ∈ cs, 0 ≤ c.2 ∧ c.2 ≤ 255) (hcl : cs.length ≤ 31) (ty : TypeId) :
    ∃ k c p c', W.cell? ⟨q, 0, none⟩ = some (.slice (some ⟨k, 0, none⟩) fss.length c) ∧ W.cell? ⟨k, j, none⟩ = some (.slice p fs.length c') ∧ k < W.heap.size ∧
      Calls Try.prog 52 #[.slice p fs.length c', .slice pc cs.length cc] W fun e W' => ∃ v, e = .returned v ∧ (∃ p n c, v = .slice p n c) ∧ (Below w.heap.size w W' ∧ W'.cell? ⟨q, 0, none⟩ = some (.slice (some ⟨k, 0, none⟩) fss.length c) ∧ ∀ p ∈ KS, W'.heap[p.1]? = some p.2) ∧ ∃ vT' W2, (Builtin.append_ #[61, 61] ty #[.slice (some ⟨k, 0, none⟩) fss.length c, .slice (some ⟨W'.heap.size, 0, none⟩) 1 1]).run Try.prog (W'.alloc (.cells #[v] 69)) = .ok vT' W2 ∧
        (∃ p n c, vT' = .slice p n c) ∧ W2.cell? ⟨q, 0, none⟩ = some (.slice (some ⟨k, 0, none⟩) fss.length c) ∧ W2.frozen? ⟨q, 0, none⟩ = false ∧ (Below w.heap.size w W2 ∧ ∀ p ∈ KS, W2.heap[p.1]? = some p.2) ∧ RS w g d q r KS (W2.setCell ⟨q, 0, none⟩ vT') X T bk (fss ++ [nextL fs cs]) lst last ok := by
  obtain ⟨k, c, p, c', e1, e2, e3, e4⟩ := h.at hf
  obtain ⟨vT, vs, oT, ks, h1, h2, h3⟩ := h
  have hC := LogI.ctx w g d X bk
  have e5 := (h1.cells hC).1
  rw [e1] at e5
  injection e5 with e5
  subst e5
  refine ⟨k, c, p, c', e1, e2, e4, (next_any hC h1.c e3 h0 hl c' cc hcs hfill hcl).mono ?_⟩
  rintro e W' ⟨v, rfl, hv⟩
  have hv1 : ∃ p n c, v = .slice p n c := by
    obtain ⟨p, c, e, _⟩ := BlksIn.of (hv.owns hC)
    exact ⟨p, _, c, e⟩
  have hvr : v.ownBlock ≠ some r := by
    obtain ⟨o, ho⟩ := hr
    obtain ⟨_, _, _, q3⟩ := hv
    exact q3 (r, o) (List.mem_append.2 (.inr (List.mem_cons_of_mem _ (h2 _ ho))))
  obtain ⟨vT', W2, oT', ks', a1, a2, a3, a6, a4, a5⟩ := h1.tell hC hv hv1 (by rw [h1.told.1]; exact hfl) ty
  have hsl : ∃ p n c, vT' = .slice p n c := by
    obtain ⟨g9, c9, e9, _⟩ := a5.at hC (j := vs.length) (v := v) (by rw [List.getElem?_append_right (Nat.le_refl _), Nat.sub_self]; rfl)
    exact ⟨_, _, _, e9⟩
  refine ⟨v, rfl, hv1, ⟨hv.below hC, Joins.cell_of_block (hv.obj hC (List.mem_append.2 (.inr (List.mem_cons_self ..)))) 0, fun p hp => hv.obj hC (q := p.1) (o := p.2) (List.mem_append.2 (.inr (List.mem_cons_of_mem _ (h2 p hp))))⟩, vT', W2, a1, hsl, a2, a3, ⟨a6.1, fun p hp => a6.2 p (h2 p hp)⟩, vT', vs ++ [v], oT', ks', a5, fun p hp => a4 p (h2 p hp), fun u hu => ?_⟩
  rcases List.mem_append.1 hu with hu | hu
  · exact h3 u hu
  · rw [List.mem_singleton.1 hu]
    exact hvr
end
end Go.Proofs.Ytahaiciciljijaa
