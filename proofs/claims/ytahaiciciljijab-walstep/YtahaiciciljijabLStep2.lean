/- One step with its lists beside it: what each call leaves, also a refused one; the blocks as they should be read; no condition. -/
import Derived.Test.YtahaiciciljijabLStep
namespace Go.Proofs.Ytahaiciciljijab
open Go.RowKit Go.Maps
variable {w W W1 W' : World} {g d q8 : Nat} {LA : Array Value} {b l i : Int} {n : Nat} {v10 v11 : Value} {ord zs : List Int} {fs : List (Nat → Int)} {x x' : LSt} {t t' : St} {book book' : Int → Nat → Int}
theorem grp_ref (b l i : Int) (n : Int) (ord : List Int) (b' : Int) : refL (grpX b l i n ord) (freshT b') true = 0 := by
  unfold refL
  rw [if_pos (by rfl), if_pos (by rfl)]
theorem GSt.wrOk (h : GSt W1 W g d q8 LA b l i n v10 v11 ord book zs fs) {k : Int} {f : Nat → Int} (hf : Can f) (hk : 1 + l ≤ k ∧ k < b) (hr : k ∈ ord ∨ ord.length < n) :
    Calls Try.prog 15 #[ptr g, .int .i64 k, .agg (blk f)] W fun e W' => e = .returned (.int .i64 0) ∧ GSt W1 W' g d q8 LA b l i n v10 v11 (ordV ord k) (fun j => if j = k then f else book j) zs fs := by
  by_cases hm : k ∈ ord
  · obtain ⟨o1, o2, h1, h2⟩ := h
    have e0 : ordV ord k = ord := by unfold ordV; rw [if_pos hm]
    rw [e0]
    refine (h1.rewrite hf (grp_ref ..) hk (by rw [show (grpX b l i n ord).steps = 0 from rfl, grp_by]; exact decide_eq_true hm)).mono ?_
    rintro e W' ⟨rfl, h3⟩
    exact ⟨rfl, o1, o2, h3, h2⟩
  · rcases hr with q | q
    · exact absurd q hm
    · exact h.write hf hk q
theorem GSt.wrArg (h : GSt W1 W g d q8 LA b l i n v10 v11 ord book zs fs) {k : Int} {f : Nat → Int} (hk : k < 1 ∨ b ≤ k ∨ k < 1 + l) :
    Calls Try.prog 15 #[ptr g, .int .i64 k, .agg (blk f)] W fun e W' => e = .returned (.int .i64 2) ∧ GSt W1 W' g d q8 LA b l i n v10 v11 ord book zs fs := by
  obtain ⟨o1, o2, h1, h2⟩ := h
  exact (h1.wrArg (grp_ref ..) hk).mono fun e W' ⟨he, h3⟩ => ⟨he, o1, o2, h3, h2⟩
theorem GSt.wrTight (h : GSt W1 W g d q8 LA b l i n v10 v11 ord book zs fs) {k : Int} {f : Nat → Int} (hk : 1 + l ≤ k ∧ k < b) (hm : k ∉ ord) (hn : ord.length = n) :
    Calls Try.prog 15 #[ptr g, .int .i64 k, .agg (blk f)] W fun e W' => e = .returned (.int .i64 181) ∧ GSt W1 W' g d q8 LA b l i n v10 v11 ord book zs fs := by
  obtain ⟨o1, o2, h1, h2⟩ := h
  exact (h1.wrTight (grp_ref ..) hk (by rw [show (grpX b l i n ord).steps = 0 from rfl, grp_by]; exact decide_eq_false hm) (by show (n : Int) - (ord.length : Int) = 0; omega)).mono fun e W' ⟨he, h3⟩ => ⟨he, o1, o2, h3, h2⟩
theorem GSt.used (h : GSt W1 W g d q8 LA b l i n v10 v11 ord book zs fs) : Calls Try.prog 12 #[ptr g] W fun e W' => e = .returned (.int .i64 (ord.length : Int)) ∧ GSt W1 W' g d q8 LA b l i n v10 v11 ord book zs fs := by
  obtain ⟨o1, o2, h1, h2⟩ := h
  exact (h1.used (x := grpX b l i n ord) (chk_of (by rfl) rfl)).mono fun e W' ⟨he, h3⟩ => ⟨he, o1, o2, h3, h2⟩
/-- The blocks as they should be read. -/
def nowL (l : Int) (n : Nat) (book : Int → Nat → Int) : List (Nat → Int) := (List.range n).map fun (k : Nat) => if 1 + l ≤ (k : Int) then book k else nought
theorem nowL_len (l : Int) (n : Nat) (book : Int → Nat → Int) : (nowL l n book).length = n := by unfold nowL; rw [List.length_map, List.length_range]
theorem nowL_get {k : Nat} (hk : k < n) : (nowL l n book)[k]? = some (if 1 + l ≤ (k : Int) then book k else nought) := by
  unfold nowL
  rw [List.getElem?_map, List.getElem?_range hk]
  rfl
theorem nowL_start (l b : Int) (n : Nat) : nowL l n (curV (newV b)) = List.replicate n nought := by
  apply List.ext_getElem?
  intro k
  by_cases hk : k < n
  · rw [nowL_get hk, List.getElem?_replicate, if_pos hk, cur_new, ite_self]
  · rw [List.getElem?_eq_none (by rw [nowL_len]; omega), List.getElem?_eq_none (by rw [List.length_replicate]; omega)]
theorem nowL_set {k : Nat} (hk : 1 + l ≤ (k : Int)) (f : Nat → Int) : nowL l n (fun j => if j = (k : Int) then f else book j) = (nowL l n book).set k f := by
  apply List.ext_getElem?
  intro j
  by_cases hj : j < n
  · rw [nowL_get hj]
    by_cases e : j = k
    · subst e
      rw [List.getElem?_set_self (by rw [nowL_len]; exact hj), if_pos hk, if_pos rfl]
    · rw [List.getElem?_set_ne (by omega), nowL_get hj, if_neg (show ¬ (j : Int) = (k : Int) by omega)]
  · rw [List.getElem?_eq_none (by rw [nowL_len]; omega), List.getElem?_eq_none (by rw [List.length_set, nowL_len]; omega)]
/-- A list of blocks is made beside a log. -/
theorem GSt.make (h : GSt W1 W g d q8 LA b l i n v10 (.slice none 0 0) ord book zs []) {m : Nat} (hm : m ≤ 1000) : ∃ v' W', (Instr.makeSlice 50 (.int .i64 (m : Int)) (.int .i64 (m : Int))).run Try.prog W = .ok v' W' ∧ GSt W1 W' g d q8 LA b l i n v10 v' ord book zs (List.replicate m nought) := by
  have hW := h.below.size
  obtain ⟨o1, o2, h1, h2, h3, h4, h5⟩ := h
  obtain ⟨cur, hr, ho⟩ := make50 W m hm W1.heap.size hW
  have hnew : ∀ p ∈ o1 ++ (o2 ++ [(q8, Obj.cells LA 34)]), p.1 < W.heap.size := fun p hp => (Array.getElem?_eq_some_iff.1 (h1.obj (q := p.1) (o := p.2) hp)).1
  refine ⟨_, _, hr, o1, [(W.heap.size, .cells cur 46)], (h1.add (.cells cur 46)).drop fun p hp => ?_, h2, Holds.of ho (fun k hk => ?_) fun p hp => ?_, fun p hp => ?_, fun p hp => ?_⟩
  · rcases List.mem_append.1 hp with hp | hp
    · exact List.mem_cons_of_mem _ (List.mem_append.2 (.inl hp))
    · rcases List.mem_append.1 hp with hp | hp
      · simp only [List.mem_cons, List.not_mem_nil, or_false] at hp
        subst hp
        exact List.mem_cons_self ..
      · exact List.mem_cons_of_mem _ (List.mem_append.2 (.inr (List.mem_append.2 (.inr hp))))
  · injection hk with hk
    subst hk
    exact ⟨_, List.mem_cons_self ..⟩
  · simp only [List.mem_cons, List.not_mem_nil, or_false] at hp
    subst hp
    exact ⟨rfl, heap_alloc_new W _⟩
  · rcases List.mem_append.1 hp with hp | hp
    · simp only [List.mem_cons, List.not_mem_nil, or_false] at hp
      subst hp
      intro e
      obtain ⟨o, ho1⟩ := h2.2.1 _ e
      have := hnew _ (List.mem_append.2 (.inl ho1))
      simp only at this
      omega
    · exact h4 p (List.mem_append.2 (.inr hp))
  · intro e
    injection e with e
    have := hnew p (by
      rcases List.mem_append.1 hp with hp | hp
      · exact List.mem_append.2 (.inl hp)
      · exact List.mem_append.2 (.inr (List.mem_append.2 (.inr hp))))
    simp only at e
    omega
theorem readS_same (t : St) : (readS t).made = t.made ∧ (readS t).reads = t.reads + 1 ∧ (readS t).ops = t.ops ∧ (readS t).claims = t.claims ∧ (readS t).claimed = t.claimed ∧ (readS t).stopped = t.stopped ∧ (readS t).fuse = t.fuse ∧ (readS t).n = t.n ∧ curV (readS t) = curV t := ⟨rfl, rfl, rfl, rfl, rfl, rfl, rfl, rfl, rfl⟩
/-- A disk that was read, and nothing else. -/
structure Quiet (b l i : Int) (x : LSt) (t : St) (m : Nat) : Prop where
  go : Going b l i x t
  made : t.made = 0
  rd : t.reads ≤ m
  n : t.n = b
  cur : ∀ k, curV t k = nought
theorem Quiet.read {m : Nat} (h : Quiet b l i x t m) (hm : m < 1000000) : Quiet b l i x (readS t) (m + 1) := by
  have h1 := h.rd
  exact ⟨⟨h.go.xb, h.go.xl, h.go.xi, h.go.xc, h.go.st, h.go.fu, h.go.cl, h.go.cd, by show t.reads + 1 ≤ _; omega, h.go.op⟩, h.made, by show t.reads + 1 ≤ _; omega, h.n, h.cur⟩
theorem Quiet.more {m m' : Nat} (h : Quiet b l i x t m) (hm : m ≤ m') : Quiet b l i x t m' := ⟨h.go, h.made, by have := h.rd; omega, h.n, h.cur⟩
theorem GX.read {m : Nat} (h : GX W1 W g d q8 LA x t v10 v11 book zs fs) (hQ : Quiet b l i x t m) (hm : m < 1000000) (hlb : l < b) (h0 : book 0 = nought) {k : Nat} (hk : (k : Int) < b) : Calls Try.prog 21 #[ptr g, .int .i64 (k : Int)] W fun e W' => e = .returned (.tuple #[.agg (blk (if 1 + l ≤ (k : Int) then book k else nought)), .int .i64 0]) ∧ ∃ t', GX W1 W' g d q8 LA x t' v10 v11 book zs fs ∧ Quiet b l i x t' (m + 1) := by
  obtain ⟨o1, o2, h1, h2⟩ := h
  have hG := hQ.go
  have hRoom : Room t := (hG.rm (n := 1) (by rw [hQ.made]; omega) (by omega)).room
  have fin : ∀ F e W', RdPost W1 g d x t book (o1 ++ (o2 ++ [(q8, .cells LA 34)])) F e W' → e = .returned (.tuple #[.agg (blk F), .int .i64 0]) ∧ ∃ t', GX W1 W' g d q8 LA x t' v10 v11 book zs fs ∧ Quiet b l i x t' (m + 1) := by
    rintro F e W' ⟨he, t', ht, h3⟩
    refine ⟨he, t', ⟨o1, o2, h3, h2⟩, ?_⟩
    rcases ht with rfl | rfl
    · exact hQ.more (by omega)
    · exact hQ.read hm
  by_cases hl : 1 + l ≤ (k : Int)
  · rw [if_pos hl]
    exact (h1.read hG.chk (k := (k : Int)) ⟨⟨by omega, by rw [hG.xb]; exact hk⟩, fun q => by rw [hG.xl] at q; omega⟩ hG.st hRoom).mono fun e W' q => fin _ e W' q
  · rw [if_neg hl]
    by_cases hz : k = 0
    · subst hz
      have q1 := h1.read hG.chk (k := ((0 : Nat) : Int)) ⟨⟨by omega, by rw [hG.xb]; exact hk⟩, fun q => by omega⟩ hG.st hRoom
      rw [show book ((0 : Nat) : Int) = nought from h0] at q1
      exact q1.mono fun e W' q => fin _ e W' q
    · have q1 := h1.readOwn hG.chk (k := (k : Int)) ⟨by omega, by rw [hG.xl]; omega⟩ (by rw [hG.xl, hG.xb]; exact hlb) (by rw [hG.xb, hQ.n]; omega) hG.st hRoom
      rw [hQ.cur] at q1
      exact q1.mono fun e W' q => fin _ e W' q
theorem GX.dread {m : Nat} (h : GX W1 W g d q8 LA x t v10 v11 book zs fs) (hQ : Quiet b l i x t m) (hm : m < 1000000) {k : Nat} (hk : (k : Int) < b) : Calls Try.prog 22 #[ptr d, .int .i64 (k : Int)] W fun e W' => e = .returned (.tuple #[.agg (blk nought), .int .i64 0]) ∧ ∃ t', GX W1 W' g d q8 LA x t' v10 v11 book zs fs ∧ Quiet b l i x t' (m + 1) := by
  obtain ⟨o1, o2, h1, h2⟩ := h
  have hG := hQ.go
  have q1 := h1.dread hG.st (hG.rm (n := 1) (by rw [hQ.made]; omega) (by omega)).room (k := (k : Int)) ⟨by omega, by rw [hQ.n]; exact hk⟩
  rw [hQ.cur] at q1
  exact q1.mono fun e W' ⟨he, h3⟩ => ⟨he, readS t, ⟨o1, o2, h3, h2⟩, hQ.read hm⟩
theorem GX.dreadAt {m : Nat} (h : GX W1 W g d q8 LA x t v10 v11 book zs fs) (hQ : Quiet b l i x t m) (hm : m < 1000000) (o : Obj) {k : Nat} (hk : (k : Int) < b) : Calls Try.prog 22 #[ptr d, .int .i64 (k : Int)] (W.alloc o) fun e W' => e = .returned (.tuple #[.agg (blk nought), .int .i64 0]) ∧ W'.heap[W.heap.size]? = some o ∧ ∃ t', GX W1 W' g d q8 LA x t' v10 v11 book zs fs ∧ Quiet b l i x t' (m + 1) := by
  obtain ⟨o1, o2, h1, h2⟩ := h
  have hG := hQ.go
  have q1 := (h1.add o).dread hG.st (hG.rm (n := 1) (by rw [hQ.made]; omega) (by omega)).room (k := (k : Int)) ⟨by omega, by rw [hQ.n]; exact hk⟩
  rw [hQ.cur] at q1
  exact q1.mono fun e W' ⟨he, h3⟩ => ⟨he, h3.obj (List.mem_cons_self ..), readS t, ⟨o1, o2, h3.drop fun p hp => List.mem_cons_of_mem _ hp, h2⟩, hQ.read hm⟩
/-- A step over the third list: Begin, Write and End once more. -/
theorem ZX.again {v : Value} {zs : List Int} {ks : List (Nat × Obj)} {c m : Nat} (h : ZX W1 W g d x t book v zs ks) (hG : Going b l i x t) (ho : x.opn = false) (hc : x.commits ≤ c) (hm : t.made ≤ m) (hcm : c < 10000) (hmm : m < 900000) (hl : 32 ≤ l) :
    Calls Try.prog 9 #[ptr g, .int .i64 1] W fun e W' => e = .returned (.int .i64 0) ∧ ∃ x' t', ZX W1 W' g d x' t' book v zs ks ∧ Going b l i x' t' ∧ x'.opn = true ∧ x'.steps = x.steps ∧ x'.room = 1 ∧ x'.commits ≤ ((c + 1 : Nat) : Int) ∧ t'.made ≤ ((m + 600 : Nat) : Int) := by
  have hlen : (x.blocks.length : Int) ≤ 256 := by
    obtain ⟨s, _, hI⟩ := h.log
    have q1 := hI.len
    have q2 := hI.fine.2.1
    omega
  have hb := h.log.begun (r := 1) hG
  refine (h.call fun ks h => h.beginAny (r := 1) hG ho (by omega) (by omega) (by omega) (by omega)).mono ?_
  rintro e W' ⟨he, h1⟩
  obtain ⟨a1, a2, a3, a4, a5, a6, a7⟩ := hb
  refine ⟨he, _, _, h1, a1, a3, a5, a4, ?_, ?_⟩
  · rw [a6]
    split <;> omega
  · rw [a7]
    split <;> omega
theorem GX.later (h : GX W1 W g d q8 LA x t v10 v11 book zs fs) (hb : Below W.heap.size W W') : GX W1 W' g d q8 LA x t v10 v11 book zs fs := by
  obtain ⟨o1, o2, h1, h2⟩ := h
  exact ⟨o1, o2, h1.later hb, h2⟩
theorem GX.below (h : GX W1 W g d q8 LA x t v10 v11 book zs fs) : Below W1.heap.size W1 W := by
  obtain ⟨o1, o2, h1, h2⟩ := h
  exact h1.below
theorem GX.owns2 (h : GX W1 W g d q8 LA x t v10 v11 book zs fs) : W.ownsRow W1.heap.size 46 1024 v11 fs.length (blkCells fs) := by
  obtain ⟨o1, o2, h1, h2, h3, _⟩ := h
  exact (GSt.swap h1).owns h3
/-- What is left for the third loop: the list of numbers. -/
theorem GX.zx (h : GX W1 W g d q8 LA x t v10 v11 book zs fs) : ZX W1 W g d x t book v10 zs [] := by
  obtain ⟨o1, o2, h1, h2, _⟩ := h
  refine ⟨o1, h1.drop fun p hp => ?_, h2, fun p hp => absurd hp List.not_mem_nil⟩
  rw [List.append_nil] at hp
  exact List.mem_append.2 (.inl hp)
theorem exec_neB {a : Act} {o : Oper} {x y : Operand} {f : Nat → Int} (ho : o.op = .binOp .neq 46 x y 46) (hx : a.eval x = .agg (blk f)) (hy : a.eval y = .agg (blk f)) (u : World) : (execOp a.eval o).run Try.prog u = .ok (.value (.bool false)) u := by
  have e := H.neq30 f f true (by unfold sameB; simp) u
  unfold execOp
  simp only [ho, hx, hy, Sem.run_bind, H.neqg30, e, Result.andThen_ok, Sem.run_pure, Bool.not_true]
theorem exec_b30 {a : Act} {o : Oper} (ho : o.op = .build 46 #[]) (u : World) : (execOp a.eval o).run Try.prog u = .ok (.value (.agg (blk nought))) u := by
  have hb := H.build30 u
  generalize blk nought = Z at *
  unfold execOp
  simp only [ho, Array.map_empty, Sem.run_bind]
  simp only [hb, Result.andThen_ok, Sem.run_pure]
end Go.Proofs.Ytahaiciciljijab
