/- A header of noughts and nothing pending, kept by all that a log does on a disk without a fuse; no condition. -/
import Derived.Test.YtahaiciciljijaaLRecI
import Derived.Test.YtahaiciciljijaaPhase
namespace Go.Proofs.Ytahaiciciljijaa
open Go.RowKit Go.Maps
/-- The header is noughts, nothing is pending. -/
def HdQ (t : St) : Prop := curV t 1 = nought ∧ t.wait = []
section
variable {w W : World} {g d : Nat} {x : LSt} {t : St} {book : Int → Nat → Int} {ks : List (Nat × Obj)} {b l i : Int}
theorem LogI.okT (h : LogI w W g d x t book ks) : Ok t := by
  obtain ⟨s, h1, _⟩ := h
  obtain ⟨c, mb, v, h2⟩ := h1.toSits
  exact h2.ok
theorem LogI.hdRun (h : LogI w W g d x t book ks) (hG : Going b l i x t) : HdQ (runV (cmtOps x book) t) := by
  have ok := h.okT
  obtain ⟨s, _, hI⟩ := h
  obtain ⟨h1, h2, _⟩ := cmt_head hI ok hG.st hG.fu
  exact ⟨h1, h2⟩
theorem LogI.hdBegin (h : LogI w W g d x t book ks) (hG : Going b l i x t) (hq : HdQ t) (r : Int) : HdQ (bgT x book t r) := by
  unfold bgT
  split
  · exact h.hdRun hG
  · exact hq
theorem LogI.hdSync (h : LogI w W g d x t book ks) (hG : Going b l i x t) (hq : HdQ t) : HdQ (syT x book t) := by
  unfold syT
  split
  · exact hq
  · exact h.hdRun hG
theorem bg_reads (r : Int) : (bgT x book t r).reads = t.reads := by
  unfold bgT
  split
  · exact (run_nums _ _).2.1
  · rfl
theorem sy_reads : (syT x book t).reads = t.reads := by
  unfold syT
  split
  · rfl
  · exact (run_nums _ _).2.1
theorem HdQ.reads (hq : HdQ t) (n : Nat) : HdQ (readN n t) := by
  refine ⟨?_, ?_⟩
  · rw [(readN_same n t).2.2.2.2.2.2.2.2]
    exact hq.1
  · have e : ∀ n, (readN n t).wait = t.wait := fun n => by
      induction n with
      | zero => rfl
      | succ n ih => exact ih
    rw [e]
    exact hq.2
theorem HdQ.readS (hq : HdQ t) : HdQ (readS t) := hq.reads 1
/-- Nothing is pending. -/
theorem LogI.pendN (h : LogI w W g d x t book ks) (hw : t.wait = []) : Calls Try.prog 26 #[ptr d] W fun e W' => e = .returned (.slice (some ⟨W.heap.size, 0, none⟩) 0 0) ∧ LogI w W' g d x t book ks := by
  have h0 := h
  obtain ⟨s, h1, _⟩ := h
  obtain ⟨c, mb, v, h2⟩ := h1.toSits
  obtain ⟨L, rfl, hS⟩ := h2
  refine (pend_of hS.disk (by rw [hw]; show (0 : Nat) < _; omega)).mono ?_
  rintro e W' ⟨rfl, _, hb⟩
  rw [hw]
  exact ⟨rfl, (LogI.ctx w g L.d x book).later h0 hb⟩
theorem LogI.nle (h : LogI w W g d x t book ks) (hG : Going b l i x t) : b ≤ t.n := by
  obtain ⟨s, _, hI⟩ := h
  have := hI.c.n
  rw [hG.xb] at this
  exact this
theorem SX.add {C : World → St → List (Nat × Obj) → Prop} {q : Nat} {vT : Value} {vs : List Value} {fss : List (List (Nat → Int))} {lst last : Int} {ok : Bool} {oT : List (Nat × Obj)} (hC : Ctx w d C) (h : SX w C W t q vT vs fss lst last ok oT ks) (o : Obj) :
    SX w C (W.alloc o) t q vT vs fss lst last ok oT ((W.heap.size, o) :: ks) := by
  have hq := (Array.getElem?_eq_some_iff.1 (h.row hC)).1
  refine ⟨hC.drop (hC.add h.c o) fun p hp => ?_, h.list, ⟨h.told.1, fun j v fs hv hf => ?_⟩, fun p hp => ?_, h.apq, h.new, fun p hp => ?_⟩
  · rcases List.mem_append.1 hp with hp | hp
    · exact List.mem_cons_of_mem _ (List.mem_append.2 (.inl hp))
    · rcases List.mem_cons.1 hp with rfl | hp
      · exact List.mem_cons_of_mem _ (List.mem_append.2 (.inr (List.mem_cons_self ..)))
      · rcases List.mem_cons.1 hp with rfl | hp
        · exact List.mem_cons_self ..
        · exact List.mem_cons_of_mem _ (List.mem_append.2 (.inr (List.mem_cons_of_mem _ hp)))
  · obtain ⟨own, h1, h2⟩ := h.told.2 j v fs hv hf
    exact ⟨own, fun p hp => List.mem_cons_of_mem _ (h1 p hp), h2⟩
  · rcases List.mem_cons.1 hp with rfl | hp
    · intro e
      obtain ⟨o2, hm⟩ := h.list.2.1 _ e
      have := (Array.getElem?_eq_some_iff.1 (hC.obj h.c (List.mem_append.2 (.inl hm)))).1
      exact absurd this (Nat.lt_irrefl _)
    · exact h.ap p hp
  · rcases List.mem_cons.1 hp with rfl | hp
    · intro e
      have e' : W.heap.size = q := e
      omega
    · exact h.ne p hp
/-- A block is read of a log with a story beside it. -/
theorem SX.readL {q : Nat} {vT : Value} {vs : List Value} {fss : List (List (Nat → Int))} {lst last : Int} {ok : Bool} {oT : List (Nat × Obj)} (h : SX w (fun W t ks => LogI w W g d x t book ks) W t q vT vs fss lst last ok oT ks) (hG : Going b l i x t) (hq : HdQ t) {k : Int} (hk : Dat x.b x.l k) (hrd : t.reads ≤ 100000) (hmd : t.made ≤ 1000000) :
    Calls Try.prog 24 #[ptr g, .int .i64 k] W fun e W' => e = .returned (.tuple #[.agg (blk (book k)), .int .i64 0]) ∧ ∃ t', Going b l i x t' ∧ HdQ t' ∧ t'.made = t.made ∧ t'.reads ≤ t.reads + 1 ∧ SX w (fun W t ks => LogI w W g d x t book ks) W' t' q vT vs fss lst last ok oT ks := by
  refine (LogI.read h.c hG.chk hk hG.st (Rm.room (hG.rm hmd (n := 2) (by omega)))).mono ?_
  rintro e W' ⟨rfl, t', ht, h1⟩
  refine ⟨rfl, t', ?_⟩
  rcases ht with rfl | rfl
  · exact ⟨hG, hq, rfl, by omega, h.turn h1⟩
  · exact ⟨⟨hG.xb, hG.xl, hG.xi, hG.xc, hG.st, hG.fu, hG.cl, hG.cd, by show t.reads + 1 ≤ _; omega, hG.op⟩, hq.readS, rfl, by show t.reads + 1 ≤ _; omega, h.turn h1⟩
end
end Go.Proofs.Ytahaiciciljijaa
