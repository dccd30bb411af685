/- Whatever stands on a disk and lets blocks beside it turn; lists that grow beside it; the blocks behind the log, read from the disk; no condition. -/
import Derived.Test.YtahaiciciljijaaLWr
namespace Go.Proofs.Ytahaiciciljijaa
open Go.RowKit Go.Maps
/-- C tells of something that stands on the disk at d: blocks beside it may turn, and the disk may be read. -/
structure Ctx (w : World) (d : Nat) (C : World → St → List (Nat × Obj) → Prop) : Prop where
  below : ∀ {W t ks}, C W t ks → Below w.heap.size w W
  obj : ∀ {W t ks q o}, C W t ks → (q, o) ∈ ks → W.heap[q]? = some o
  side : ∀ {W W' t ks ks'} {T : Nat → Prop}, C W t ks → Fr T W W' → (∀ k, T k → w.heap.size ≤ k ∧ ∃ o, (k, o) ∈ ks) → (∀ p ∈ ks', W'.heap[p.1]? = some p.2 ∧ ((∃ o, (p.1, o) ∈ ks) ∨ W.heap.size ≤ p.1)) → C W' t ks'
  dread : ∀ {W t ks k}, C W t ks → t.stopped = false → Room t → 0 ≤ k ∧ k < t.n → Calls Try.prog 34 #[ptr d, .int .i64 k] W fun e W' => e = .returned (.tuple #[.agg (blk (curV t k)), .int .i64 0]) ∧ C W' (readS t) ks
theorem LogI.ctx (w : World) (g d : Nat) (x : LSt) (book : Int → Nat → Int) : Ctx w d (fun W t ks => LogI w W g d x t book ks) :=
  ⟨fun h => h.below, fun h hm => h.obj hm, fun h hf hT hks => h.side hf hT hks, fun h hs hr hk => h.dread hs hr hk⟩
theorem Sits.side {w W W' : World} {d : Nat} {s : St} {ks ks' : List (Nat × Obj)} {T : Nat → Prop} (h : Sits w W d s ks) (hf : Fr T W W') (hT : ∀ k, T k → w.heap.size ≤ k ∧ ∃ o, (k, o) ∈ ks)
    (hks : ∀ p ∈ ks', W'.heap[p.1]? = some p.2 ∧ ((∃ o, (p.1, o) ∈ ks) ∨ W.heap.size ≤ p.1)) : Sits w W' d s ks' := by
  obtain ⟨L, hd, h⟩ := h
  have hTL : ∀ k, L.has k → ¬ T k := fun k hk q => by
    obtain ⟨o, ho⟩ := (hT k q).2
    exact (h.keep _ ho).2 hk
  refine ⟨L, hd, h.disk.fr hf hTL, h.new, h.below.trans (hf.below (fun i q => (hT i q).1) h.below.size), fun p hp => ?_⟩
  obtain ⟨h1, h2⟩ := hks p hp
  refine ⟨h1, fun q => ?_⟩
  rcases h2 with ⟨o, ho⟩ | h2
  · exact (h.keep _ ho).2 q
  · have := h.disk.lt _ q
    omega
theorem Sits.ctx (w : World) (d : Nat) : Ctx w d (fun W t ks => Sits w W d t ks) :=
  ⟨fun h => h.below, fun h hm => h.blk hm, fun h hf hT hks => h.side hf hT hks, fun {W t ks k} h hs hr hk => by
    have href : refV t k = 0 := by unfold refV; rw [hs, if_neg (by simp), if_pos hk]
    refine (sits_read h hr k).mono ?_
    rintro e W' ⟨rfl, h1⟩
    unfold readV at h1
    rw [if_pos href] at h1
    exact ⟨by unfold readB; rw [if_pos href, href], h1⟩⟩
section
variable {w W W' : World} {d : Nat} {C : World → St → List (Nat × Obj) → Prop} {t : St} {v v' : Value} {ks : List (Nat × Obj)}
theorem Ctx.later (hC : Ctx w d C) (h : C W t ks) (hb : Below W.heap.size W W') : C W' t ks :=
  hC.side h (Fr.ofBelow (T := fun _ => False) hb) (fun _ q => q.elim) fun p hp => by
    have h1 := hC.obj h (q := p.1) (o := p.2) hp
    exact ⟨(hb.block p.1 (Array.getElem?_eq_some_iff.1 h1).1).trans h1, .inl ⟨p.2, hp⟩⟩
theorem Ctx.drop (hC : Ctx w d C) (h : C W t ks) {ks' : List (Nat × Obj)} (hs : ∀ p ∈ ks', p ∈ ks) : C W t ks' :=
  hC.side h (Fr.ofBelow (T := fun _ => False) (Below.refl _ _)) (fun _ q => q.elim) fun p hp => ⟨hC.obj h (q := p.1) (o := p.2) (hs p hp), .inl ⟨p.2, hs p hp⟩⟩
theorem Ctx.add (hC : Ctx w d C) (h : C W t ks) (o : Obj) : C (W.alloc o) t ((W.heap.size, o) :: ks) :=
  hC.side h (Fr.ofBelow (T := fun _ => False) (below_new W o)) (fun _ q => q.elim) fun p hp => by
    rcases List.mem_cons.1 hp with rfl | hp
    · exact ⟨heap_alloc_new W o, .inr (Nat.le_refl _)⟩
    · have h1 := hC.obj h (q := p.1) (o := p.2) hp
      exact ⟨((below_new W o).block p.1 (Array.getElem?_eq_some_iff.1 h1).1).trans h1, .inl ⟨p.2, hp⟩⟩
theorem Ctx.grown (hC : Ctx w d C) {B : Nat} {ty : TypeId} {sz n n' : Nat} {xs xs' : List Value} {own ks : List (Nat × Obj)} (h : C W t (own ++ ks)) (hv : Holds B own ty sz v n xs) (hB : w.heap.size ≤ B) (hap : ∀ p ∈ ks, v.ownBlock ≠ some p.1)
    (hf : Fr (fun i => v.ownBlock = some i) W W') (ho : W'.ownsRow B ty sz v' n' xs') (hn : ∀ k, v'.ownBlock = some k → v.ownBlock = some k ∨ W.heap.size ≤ k) :
    ∃ own', C W' t (own' ++ ks) ∧ Holds B own' ty sz v' n' xs' ∧ ∀ p ∈ ks, v'.ownBlock ≠ some p.1 := by
  have hlt : ∀ k, v'.ownBlock = some k → B ≤ k ∧ k < W'.heap.size := fun k hk => ho.lt k hk
  have hold : ∀ k, v.ownBlock = some k → w.heap.size ≤ k ∧ ∃ o, (k, o) ∈ own ++ ks := fun k hk => by
    obtain ⟨o, hm⟩ := hv.2.1 k hk
    have := ((hv.1 W fun p hp => hC.obj h (q := p.1) (o := p.2) (List.mem_append.2 (.inl hp))).lt k hk).1
    exact ⟨by omega, o, List.mem_append.2 (.inl hm)⟩
  have hks : ∀ p ∈ ks, W'.heap[p.1]? = some p.2 := fun p hp => by
    have hb := hC.obj h (List.mem_append.2 (.inr hp) : (p.1, p.2) ∈ own ++ ks)
    exact (hf.block p.1 (Array.getElem?_eq_some_iff.1 hb).1 (hap p hp)).trans hb
  have hap' : ∀ p ∈ ks, v'.ownBlock ≠ some p.1 := fun p hp q => by
    rcases hn p.1 q with h1 | h1
    · exact hap p hp h1
    · have hb := (Array.getElem?_eq_some_iff.1 (hC.obj h (List.mem_append.2 (.inr hp) : (p.1, p.2) ∈ own ++ ks))).1
      omega
  cases e : v'.ownBlock with
  | none =>
    refine ⟨[], hC.side h hf hold fun p hp => ⟨hks p hp, .inl ⟨p.2, List.mem_append.2 (.inr hp)⟩⟩, Holds.of ho (fun k q => by rw [e] at q; cases q) fun p hp => absurd hp List.not_mem_nil, fun p hp => by rw [← e]; exact hap' p hp⟩
  | some k =>
    obtain ⟨o, hob⟩ : ∃ o, W'.heap[k]? = some o := ⟨_, Array.getElem?_eq_getElem (hlt k e).2⟩
    refine ⟨[(k, o)], hC.side h hf hold fun p hp => ?_, Holds.of ho (fun k' q => ?_) fun p hp => ?_, fun p hp => by rw [← e]; exact hap' p hp⟩
    · rcases List.mem_append.1 hp with hp | hp
      · simp only [List.mem_cons, List.not_mem_nil, or_false] at hp
        subst hp
        refine ⟨hob, ?_⟩
        rcases hn k e with h1 | h1
        · obtain ⟨o2, hm⟩ := hv.2.1 k h1
          exact .inl ⟨o2, List.mem_append.2 (.inl hm)⟩
        · exact .inr h1
      · exact ⟨hks p hp, .inl ⟨p.2, List.mem_append.2 (.inr hp)⟩⟩
    · rw [e] at q
      injection q with q
      subst q
      exact ⟨o, List.mem_cons_self ..⟩
    · simp only [List.mem_cons, List.not_mem_nil, or_false] at hp
      subst hp
      exact ⟨e, hob⟩
theorem Ctx.owns (hC : Ctx w d C) {B : Nat} {ty : TypeId} {sz n : Nat} {xs : List Value} {own ks : List (Nat × Obj)} (h : C W t (own ++ ks)) (hv : Holds B own ty sz v n xs) : W.ownsRow B ty sz v n xs := hv.1 W fun p hp => hC.obj h (q := p.1) (o := p.2) (List.mem_append.2 (.inl hp))
theorem Ctx.push (hC : Ctx w d C) {st e : TypeId} {i : TypeInfo} {z : Value} {size bytes : Nat} (ht : Try.prog.underlying st = some (.slice e)) (hi : Try.prog.info? e = some i) (hz : i.zero = some z) (hsize : i.size = size) (hby : i.bytes = bytes) (hzs : z.cells.size = size) (hsz : 0 < size)
    {B n : Nat} {xs : List Value} {own ks : List (Nat × Obj)} (h : C W t (own ++ ks)) (hv : Holds B own e size v n xs) (hB : w.heap.size ≤ B) (hB2 : B ≤ W.heap.size) (hap : ∀ p ∈ ks, v.ownBlock ≠ some p.1)
    {m : Nat} {news : List Value} (hm : 0 < m) (hl : news.length = m * size) (h1 : ∀ u ∈ news, u.oneCell' = true) (h63 : n + m ≤ maxLen) (hbytes : ((n + m) + (n + m) / 4 + 192) * bytes ≤ 281474976710656) (ty : TypeId) :
    ∃ v' W' own', (Builtin.append_ #[st, st] ty #[v, .slice (some ⟨W.heap.size, 0, none⟩) m m]).run Try.prog (W.alloc (.cells news.toArray e)) = .ok v' W' ∧ C W' t (own' ++ ks) ∧ Holds B own' e size v' (n + m) (xs ++ news) ∧ ∀ p ∈ ks, v'.ownBlock ≠ some p.1 := by
  have hnews : ∀ j u, news[j]? = some u → (W.alloc (.cells news.toArray e)).cell? ((⟨W.heap.size, 0, none⟩ : Addr).add j) = some u := fun j u hu => by
    rw [Go.WideShapes.add_plain, Nat.zero_add, cell_of_row _ _ j _ e _ (heap_alloc_new W _), List.getElem?_toArray]
    exact hu
  obtain ⟨v', W', hr, h2, h3, h4⟩ := append_gen ht hi hz hsize hby hzs hsz (World.ownsRow.alloc (hC.owns h hv) (.cells news.toArray e)) (c := m) hm hl hnews h1 h63 hbytes (by simp only [World.alloc, Array.size_push]; omega) ty
  obtain ⟨own', q1, q2, q3⟩ := hC.grown h hv hB hap ((Fr.alloc _ W (.cells news.toArray e)).trans h3 fun _ _ q => q) h2 fun k hk => by
    rcases h4 k hk with q | q
    · exact .inl q
    · exact .inr (by simp only [World.alloc, Array.size_push] at q; omega)
  exact ⟨v', W', own', hr, q1, q2, q3⟩
/-- A list of blocks beside it. -/
def CB (w : World) (C : World → St → List (Nat × Obj) → Prop) (W : World) (t : St) (v : Value) (fs : List (Nat → Int)) (ks : List (Nat × Obj)) : Prop :=
  ∃ own, C W t (own ++ ks) ∧ Holds w.heap.size own 23 1024 v fs.length (blkCells fs) ∧ ∀ p ∈ ks, v.ownBlock ≠ some p.1
theorem Ctx.cb (h : C W t ks) : CB w C W t (.slice none 0 0) [] ks := ⟨[], h, Holds.nil _ _ _, fun _ _ q => (by cases q)⟩
theorem CB.later (hC : Ctx w d C) {fs : List (Nat → Int)} (h : CB w C W t v fs ks) (hb : Below W.heap.size W W') : CB w C W' t v fs ks := by
  obtain ⟨own, h1, h2⟩ := h
  exact ⟨own, hC.later h1 hb, h2⟩
theorem CB.push (hC : Ctx w d C) {fs : List (Nat → Int)} (h : CB w C W t v fs ks) (hl : fs.length ≤ 1000) (f : Nat → Int) (ty : TypeId) :
    ∃ v' W', (Builtin.append_ #[69, 69] ty #[v, .slice (some ⟨W.heap.size, 0, none⟩) 1 1]).run Try.prog (W.alloc (.cells (blk f) 23)) = .ok v' W' ∧ CB w C W' t v' (fs ++ [f]) ks := by
  obtain ⟨own, h1, h2, h3⟩ := h
  have hW := (hC.below h1).size
  obtain ⟨i0, hi0, hz0, hz1, hz2⟩ := info_parts info23b
  have ho : ∀ u ∈ (blk f).toList, u.oneCell' = true := fun u hu => by
    have := blk_one f
    rw [Array.all_eq_true'] at this
    exact this u (Array.mem_toList_iff.1 hu)
  obtain ⟨Z, hZ, hZs⟩ : ∃ Z : Value, Value.agg (blk nought) = Z ∧ Z.cells.size = 1024 := ⟨_, rfl, blk_size nought⟩
  rw [hZ] at hz0
  obtain ⟨N, hN, hNl⟩ : ∃ N : List Value, (blk f).toList = N ∧ N.length = 1 * 1024 := ⟨_, rfl, by rw [blk_list_len]⟩
  rw [hN] at ho
  obtain ⟨v', W', own', hr, q1, q2, q3⟩ := hC.push Try.underlying69 hi0 hz0 hz1 hz2 hZs (by omega) h1 h2 (Nat.le_refl _) hW h3 (m := 1) (by omega) hNl ho (by unfold maxLen; omega) (by omega) ty
  have hNA : N.toArray = blk f := by rw [← hN]
  rw [hNA] at hr
  rw [← hN] at q2
  refine ⟨v', W', hr, own', q1, ?_, q3⟩
  rw [List.length_append, blkCells_append, blkCells_one]
  exact q2
theorem CB.obj (hC : Ctx w d C) {fs : List (Nat → Int)} (h : CB w C W t v fs ks) {q : Nat} {o : Obj} (hm : (q, o) ∈ ks) : W.heap[q]? = some o := by
  obtain ⟨own, h1, h2⟩ := h
  exact hC.obj h1 (List.mem_append.2 (.inr hm))
theorem CB.below (hC : Ctx w d C) {fs : List (Nat → Int)} (h : CB w C W t v fs ks) : Below w.heap.size w W := by
  obtain ⟨own, h1, h2⟩ := h
  exact hC.below h1
theorem CB.drop (hC : Ctx w d C) {fs : List (Nat → Int)} (h : CB w C W t v fs ks) {ks' : List (Nat × Obj)} (hs : ∀ p ∈ ks', p ∈ ks) : CB w C W t v fs ks' := by
  obtain ⟨own, h1, h2, h3⟩ := h
  refine ⟨own, hC.drop h1 fun p hp => ?_, h2, fun p hp => h3 p (hs p hp)⟩
  rcases List.mem_append.1 hp with hp | hp
  · exact List.mem_append.2 (.inl hp)
  · exact List.mem_append.2 (.inr (hs p hp))
theorem CB.dread (hC : Ctx w d C) {fs : List (Nat → Int)} (h : CB w C W t v fs ks) {k : Int} (hs : t.stopped = false) (hr : Room t) (hk : 0 ≤ k ∧ k < t.n) : Calls Try.prog 34 #[ptr d, .int .i64 k] W fun e W' => e = .returned (.tuple #[.agg (blk (curV t k)), .int .i64 0]) ∧ CB w C W' (readS t) v fs ks := by
  obtain ⟨own, h1, h2⟩ := h
  exact (hC.dread h1 hs hr hk).mono fun e W' ⟨he, h3⟩ => ⟨he, own, h3, h2⟩
theorem CB.owns (hC : Ctx w d C) {fs : List (Nat → Int)} (h : CB w C W t v fs ks) : W.ownsRow w.heap.size 23 1024 v fs.length (blkCells fs) := by
  obtain ⟨own, h1, h2, _⟩ := h
  exact hC.owns h1 h2
/-- Read so many times. -/
def readN : Nat → St → St
  | 0, t => t
  | n + 1, t => readS (readN n t)
theorem readN_same (n : Nat) (t : St) : (readN n t).made = t.made ∧ (readN n t).reads = t.reads + n ∧ (readN n t).ops = t.ops ∧ (readN n t).claims = t.claims ∧ (readN n t).claimed = t.claimed ∧ (readN n t).stopped = t.stopped ∧ (readN n t).fuse = t.fuse ∧ (readN n t).n = t.n ∧ curV (readN n t) = curV t := by
  induction n with
  | zero => exact ⟨rfl, by show t.reads = t.reads + ((0 : Nat) : Int); omega, rfl, rfl, rfl, rfl, rfl, rfl, rfl⟩
  | succ n ih =>
    obtain ⟨h1, h2, h3, h4, h5, h6, h7, h8, h9⟩ := ih
    exact ⟨h1, by show (readN n t).reads + 1 = _; omega, h3, h4, h5, h6, h7, h8, h9⟩
/-- The blocks behind the log, as a disk holds them. -/
def behL (l : Int) (n : Nat) (t : St) : List (Nat → Int) := (List.range n).map fun (j : Nat) => curV t (1 + l + j)
theorem behL_succ (l : Int) (n : Nat) (t : St) : behL l (n + 1) t = behL l n t ++ [curV t (1 + l + n)] := by
  unfold behL
  rw [List.range_succ, List.map_append]
  rfl
theorem behL_len (l : Int) (n : Nat) (t : St) : (behL l n t).length = n := by unfold behL; rw [List.length_map, List.length_range]
set_option maxRecDepth 20000 in
set_option maxHeartbeats 1600000 in
theorem behind_any (hC : Ctx w d C) {b l i : Int} (h : C W t ks) (hF : H.Fine b l i) (hb3 : b ≤ 300) {m : Nat} (hm : b - (1 + l) = (m : Int)) (hs : t.stopped = false) (hrm : Rm t (m + 1)) (hn : b ≤ t.n) :
    Calls Try.prog 51 #[ptr d, .agg (layA b l i)] W fun e W' => ∃ v, e = .returned (.tuple #[v, .bool true]) ∧ CB w C W' (readN m t) v (behL l m t) ks := by
  have hl := hF.1
  have hl2 := hF.2.1
  obtain ⟨LA, hLA⟩ : ∃ LA, layA b l i = LA := ⟨_, rfl⟩
  have HLA : Hid (layA b l i = LA) := hLA
  rw [hLA]
  have HC := Hid.mk' hC
  have H0 : Hid (CB w C (W.alloc (.cells LA 31)) t (.slice none 0 0) [] ((W.heap.size, .cells LA 31) :: ks)) := Ctx.cb (hC.add h (.cells LA 31))
  have c4 : (W.alloc (.cells LA 31)).cell? ⟨W.heap.size, 4, none⟩ = some (.int .i64 (1 + l)) := by
    have q := Joins.cell_of_block (heap_alloc_new W (.cells LA 31)) 4
    rw [← hLA] at q ⊢
    exact q
  clear h hLA hC
  unfold ptr at *
  have z25 := zero25
  go_enter Try.func51, Try.ntmps51
  go_wp2
  clear c4
  generalize hq : W.heap.size = q3 at *
  clear hq
  generalize W.alloc (.cells LA 31) = V at *
  go_loopw [6, 7] (fun s6 s7 wx => ∃ j : Nat, j ≤ m ∧ s7 = .int .i64 (1 + l + (j : Int)) ∧ Hid (CB w C wx (readN j t) s6 (behL l j t) ((q3, .cells LA 31) :: ks))) (fun _ s7 _ => m - (intOf s7 - (1 + l)).toNat)
  case atStart => exact ⟨0, by omega, by go_num, H0.out⟩
  case round =>
    obtain ⟨j, hj, rfl, HJ⟩ := hrel
    clear H0
    have hrow := HJ.out.obj HC.out (List.mem_cons_self ..)
    rw [← HLA.out] at hrow
    have c0 : wr.cell? ⟨q3, 0, none⟩ = some (.int .i64 b) := Joins.cell_of_block hrow 0
    clear hrow
    by_cases hj2 : 1 + l + (j : Int) < b
    · obtain ⟨e1, e2, e3, e4, _, e6, _, e8, e9⟩ := readN_same j t
      have hrd := HJ.out.dread HC.out (k := 1 + l + (j : Int)) (by rw [e6]; exact hs) (by obtain ⟨r1, r2, r3, r4⟩ := hrm; exact ⟨by rw [e3]; omega, by rw [e1]; omega, by rw [e2]; omega, by rw [e4]; omega⟩) ⟨by omega, by rw [e8]; omega⟩
      rw [e9] at hrd
      have hbs := behL_succ l j t
      generalize hF0 : curV t (1 + l + (j : Int)) = F at *
      have HRd := Hid.mk' hrd
      have HBs := Hid.mk' hbs
      clear hrd hbs e1 e2 e3 e4 e6 e8 e9 hF0 HJ
      go_wp2_with (first | (go_at_call 34; fail))
      refine HRd.out.mono ?_
      rintro e Wa ⟨rfl, h1⟩
      have h2 := CB.later HC.out h1 (below_new Wa (.cells (blk F) 23))
      have hr8 := heap_alloc_new Wa (.cells (blk F) 23)
      obtain ⟨v', W9, hr1, h3⟩ := h2.push HC.out (by rw [behL_len]; omega) F 69
      have H3 : Hid (CB w C W9 (readN (j + 1) t) v' (behL l (j + 1) t) ((q3, .cells LA 31) :: ks)) := by
        rw [HBs.out]
        exact h3
      clear h1 h2 h3 HRd c0
      go_wp2_with (first | (with_reducible refine H.isStore 23 ?_; refine wpList_store25_new rfl _ _ rfl F _ rfl rfl ?_) | (with_reducible refine H.isLoad 23 ?_; refine wpList_load25 rfl (.tmp 8) rfl Wa.heap.size rfl F hr8 ?_) | refine wpList_exec rfl (exec_slice23 (f := F) rfl rfl) ?_ | (at_builtin; refine wpList_push rfl rfl rfl rfl hr1 ?_))
      clear hr1 hr8
      exact ⟨⟨j + 1, by omega, by go_num, H3.out⟩, by simp [intOf]; omega⟩
    · obtain rfl : j = m := by omega
      go_wp2
      go_ret2
      exact ⟨_, rfl, HJ.out.drop HC.out fun p hp => List.mem_cons_of_mem _ hp⟩
end
end Go.Proofs.Ytahaiciciljijaa
