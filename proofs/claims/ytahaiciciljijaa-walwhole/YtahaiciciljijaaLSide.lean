import Derived.Test.YtahaiciciljijaaLOps
/- Lists that lie beside a log: they may grow and turn, and the log stays as it is; no condition. -/
namespace Go.Proofs.Ytahaiciciljijaa
open Go.RowKit Go.Maps
variable {w W W' : World} {g d : Nat} {v v' : Value} {x : LSt} {t : St} {ks : List (Nat × Obj)} {book : Int → Nat → Int}
/-- Blocks beside a log turn, others are made: the log stays, and whatever lies beside it now may be told. -/
theorem LogI.side {T : Nat → Prop} {ks' : List (Nat × Obj)} (h : LogI w W g d x t book ks) (hf : Fr T W W') (hT : ∀ k, T k → w.heap.size ≤ k ∧ ∃ o, (k, o) ∈ ks)
    (hks : ∀ p ∈ ks', W'.heap[p.1]? = some p.2 ∧ ((∃ o, (p.1, o) ∈ ks) ∨ W.heap.size ≤ p.1)) : LogI w W' g d x t book ks' := by
  classical
  obtain ⟨s, ⟨c, mb, v, os, h⟩, hI⟩ := h
  refine ⟨s, ?_, hI⟩
  have hne : ∀ k, LHas g mb v k → ¬ T k := fun k hk q => by
    obtain ⟨_, o, ho⟩ := hT k q
    exact h.ap (k, o) ho hk
  have hk : ∀ k, LHas g mb v k → W'.heap[k]? = W.heap[k]? := fun k hk => hf.block k (h.log.lt k hk) (hne k hk)
  refine ⟨c, mb, v, os.filter (fun p => decide (¬ T p.1)), h.sit.turn hf (fun k e => ?_) fun p hp => ?_, h.log.kept hk, fun k hk2 => ?_, fun p hp => ?_⟩
  · obtain ⟨h1, o, ho⟩ := hT k e
    exact ⟨h1, o, List.mem_append.2 (.inr ho)⟩
  · rcases List.mem_append.1 hp with hp | hp
    · obtain ⟨hp1, hp2⟩ := List.mem_filter.1 hp
      have hp3 : ¬ T p.1 := of_decide_eq_true hp2
      have hb := h.sit.blk (List.mem_append.2 (.inl hp1) : (p.1, p.2) ∈ os ++ ks)
      exact ⟨(hf.block p.1 (Array.getElem?_eq_some_iff.1 hb).1 hp3).trans hb, .inl ⟨p.2, List.mem_append.2 (.inl hp1)⟩⟩
    · obtain ⟨h1, h2⟩ := hks p hp
      refine ⟨h1, ?_⟩
      rcases h2 with ⟨o, ho⟩ | h2
      · exact .inl ⟨o, List.mem_append.2 (.inr ho)⟩
      · exact .inr h2
  · obtain ⟨h1, o2, ho2⟩ := h.own k hk2
    exact ⟨h1, o2, List.mem_filter.2 ⟨ho2, decide_eq_true (hne k hk2)⟩⟩
  · intro q
    rcases (hks p hp).2 with ⟨o, ho⟩ | h2
    · exact h.ap (p.1, o) ho q
    · have := h.log.lt p.1 q
      omega
/-- A list that lies in one of these blocks, or in none. -/
def Holds (B : Nat) (ks : List (Nat × Obj)) (ty : TypeId) (sz : Nat) (v : Value) (n : Nat) (xs : List Value) : Prop :=
  (∀ u : World, (∀ p ∈ ks, u.heap[p.1]? = some p.2) → u.ownsRow B ty sz v n xs) ∧ (∀ k, v.ownBlock = some k → ∃ o, (k, o) ∈ ks) ∧ ∀ p ∈ ks, v.ownBlock = some p.1
theorem Holds.nil (B : Nat) (ty : TypeId) (sz : Nat) : Holds B [] ty sz (.slice none 0 0) 0 [] := ⟨fun u _ => World.ownsRow_nil u B ty sz, fun k q => (by cases q), fun p q => absurd q List.not_mem_nil⟩
theorem owns_at {B : Nat} {ty : TypeId} {sz n : Nat} {xs : List Value} {u : World} (h : W.ownsRow B ty sz v n xs) (hk : ∀ k, v.ownBlock = some k → u.heap[k]? = W.heap[k]?) : u.ownsRow B ty sz v n xs := by
  refine ⟨h.1, ?_⟩
  rcases h.2 with hn | ⟨g, cap, cur, rfl, hB, hg, rest⟩
  · exact .inl hn
  · exact .inr ⟨g, cap, cur, rfl, hB, (hk g rfl).trans hg, rest⟩
theorem Holds.of {B : Nat} {ty : TypeId} {sz n : Nat} {xs : List Value} (h : W.ownsRow B ty sz v n xs) (hk : ∀ k, v.ownBlock = some k → ∃ o, (k, o) ∈ ks) (hks : ∀ p ∈ ks, v.ownBlock = some p.1 ∧ W.heap[p.1]? = some p.2) : Holds B ks ty sz v n xs :=
  ⟨fun u hu => owns_at h fun k q => by
    obtain ⟨o, ho⟩ := hk k q
    rw [hu _ ho, (hks _ ho).2], hk, fun p hp => (hks p hp).1⟩
/-- A list beside a log has grown, or turned: it lies beside the log still. -/
theorem LogI.grown {B : Nat} {ty : TypeId} {sz n n' : Nat} {xs xs' : List Value} {own ks : List (Nat × Obj)} (h : LogI w W g d x t book (own ++ ks)) (hv : Holds B own ty sz v n xs) (hB : w.heap.size ≤ B) (hap : ∀ p ∈ ks, v.ownBlock ≠ some p.1)
    (hf : Fr (fun i => v.ownBlock = some i) W W') (ho : W'.ownsRow B ty sz v' n' xs') (hn : ∀ k, v'.ownBlock = some k → v.ownBlock = some k ∨ W.heap.size ≤ k) :
    ∃ own', LogI w W' g d x t book (own' ++ ks) ∧ Holds B own' ty sz v' n' xs' ∧ ∀ p ∈ ks, v'.ownBlock ≠ some p.1 := by
  have hlt : ∀ k, v'.ownBlock = some k → B ≤ k ∧ k < W'.heap.size := fun k hk => ho.lt k hk
  have hold : ∀ k, v.ownBlock = some k → w.heap.size ≤ k ∧ ∃ o, (k, o) ∈ own ++ ks := fun k hk => by
    obtain ⟨o, hm⟩ := hv.2.1 k hk
    have := ((hv.1 W fun p hp => h.obj (List.mem_append.2 (.inl hp))).lt k hk).1
    exact ⟨by omega, o, List.mem_append.2 (.inl hm)⟩
  have hks : ∀ p ∈ ks, W'.heap[p.1]? = some p.2 := fun p hp => by
    have hb := h.obj (List.mem_append.2 (.inr hp) : (p.1, p.2) ∈ own ++ ks)
    exact (hf.block p.1 (Array.getElem?_eq_some_iff.1 hb).1 (hap p hp)).trans hb
  have hap' : ∀ p ∈ ks, v'.ownBlock ≠ some p.1 := fun p hp q => by
    rcases hn p.1 q with h1 | h1
    · exact hap p hp h1
    · have hb := (Array.getElem?_eq_some_iff.1 (h.obj (List.mem_append.2 (.inr hp) : (p.1, p.2) ∈ own ++ ks))).1
      omega
  cases e : v'.ownBlock with
  | none =>
    refine ⟨[], h.side hf hold fun p hp => ⟨hks p hp, .inl ⟨p.2, List.mem_append.2 (.inr hp)⟩⟩, Holds.of ho (fun k q => by rw [e] at q; cases q) fun p hp => absurd hp List.not_mem_nil, fun p hp => by rw [← e]; exact hap' p hp⟩
  | some k =>
    obtain ⟨o, hob⟩ : ∃ o, W'.heap[k]? = some o := ⟨_, Array.getElem?_eq_getElem (hlt k e).2⟩
    refine ⟨[(k, o)], h.side hf hold fun p hp => ?_, Holds.of ho (fun k' q => ?_) fun p hp => ?_, fun p hp => by rw [← e]; exact hap' p hp⟩
    · rcases List.mem_append.1 hp with hp | hp
      · simp only [List.mem_cons, List.not_mem_nil, or_false] at hp
        subst hp
        refine ⟨hob, ?_⟩
        rcases hn k e with h1 | h1
        · obtain ⟨o2, hm⟩ := hv.2.1 k h1
          exact .inl ⟨o2, List.mem_append.2 (.inl hm)⟩
        · exact .inr h1
      · exact ⟨hks p hp, .inl ⟨p.2, List.mem_append.2 (.inr hp)⟩⟩
    · rw [e] at q
      injection q with q
      subst q
      exact ⟨o, List.mem_cons_self ..⟩
    · simp only [List.mem_cons, List.not_mem_nil, or_false] at hp
      subst hp
      exact ⟨e, hob⟩
theorem LogI.owns {B : Nat} {ty : TypeId} {sz n : Nat} {xs : List Value} {own ks : List (Nat × Obj)} (h : LogI w W g d x t book (own ++ ks)) (hv : Holds B own ty sz v n xs) : W.ownsRow B ty sz v n xs := hv.1 W fun _ hp => h.obj (List.mem_append.2 (.inl hp))
end Go.Proofs.Ytahaiciciljijaa
/- Lists beside a log grow: numbers, blocks, things done; one or several at a time; of fewer bytes than memory has. -/
namespace Go.Proofs.Ytahaiciciljijaa
open Go.RowKit Go.Maps
variable {w W W' : World} {g d : Nat} {v v' : Value} {x : LSt} {t : St} {ks : List (Nat × Obj)} {book : Int → Nat → Int}
theorem append_gen {st e : TypeId} {i : TypeInfo} {z : Value} {size bytes : Nat} (ht : Try.prog.underlying st = some (.slice e)) (hi : Try.prog.info? e = some i) (hz : i.zero = some z) (hsize : i.size = size) (hby : i.bytes = bytes) (hzs : z.cells.size = size) (hsz : 0 < size)
    {B : Nat} {n : Nat} {xs : List Value} (hown : W.ownsRow B e size v n xs) {ad : Addr} {m c : Nat} {news : List Value} (hm : 0 < m) (hl : news.length = m * size)
    (hnews : ∀ j u, news[j]? = some u → W.cell? (ad.add j) = some u) (h1 : ∀ u ∈ news, u.oneCell' = true) (h63 : n + m ≤ maxLen) (hbytes : ((n + m) + (n + m) / 4 + 192) * bytes ≤ 281474976710656) (hB : B ≤ W.heap.size) (ty : TypeId) :
    ∃ v' w', (Builtin.append_ #[st, st] ty #[v, .slice (some ad) m c]).run Try.prog W = .ok v' w' ∧ w'.ownsRow B e size v' (n + m) (xs ++ news) ∧ Fr (fun k => v.ownBlock = some k) W w' ∧ ∀ k, v'.ownBlock = some k → v.ownBlock = some k ∨ W.heap.size ≤ k := by
  obtain ⟨v', w', hr, h2, hg, _⟩ := run_append_own_wide (P := Try.prog) W B st ty e i z size bytes ht hi hz hsize hby hzs hsz v n xs hown ad m c news hl hnews h1 h63 hbytes hB
  refine ⟨v', w', hr, h2, Fr.ofGrown hg, fun k hk => ?_⟩
  have hmx : n + m ≤ 9223372036854775807 := by simp only [maxLen] at h63; omega
  have hmb : m * i.bytes ≤ 281474976710656 := by
    rw [hby]
    exact Nat.le_trans (Nat.mul_le_mul_right _ (by omega)) hbytes
  subst hsize
  subst hby
  rcases hown.2 with ⟨rfl, rfl⟩ | ⟨g, cap, cur, rfl, _, hg', hnc, hcm, hcs, htake⟩
  · rw [run_append_nil (P := Try.prog) W st ty e i _ ht hi hz ad m c news hl hnews hm (by omega) hmb] at hr
    injection hr with q1 q2
    rw [← q1] at hk
    injection hk with hk
    exact .inr (by rw [← hk]; exact Nat.le_refl _)
  · by_cases hroom : n + m ≤ cap
    · have hfit : n * i.size + news.length ≤ cur.size := by rw [hl, hcs, ← Nat.add_mul]; exact Nat.mul_le_mul_right _ hroom
      rw [run_append_room (P := Try.prog) W st ty e i ht hi g n cap cur hg' ad m c news hl hnews h1 hroom hfit] at hr
      injection hr with q1 q2
      rw [← q1] at hk
      exact .inl hk
    · rw [run_append_grow (P := Try.prog) W st ty e i _ ht hi hz ⟨g, 0, none⟩ n cap xs hown.1 (hown.cells (g := g) rfl) ad m c news hl hnews (by omega) (by omega) (growslice_fits_wide (by omega) hbytes)] at hr
      injection hr with q1 q2
      rw [← q1] at hk
      injection hk with hk
      exact .inr (by rw [← hk]; exact Nat.le_refl _)
/-- A list beside a log is appended to; what is appended lies in a block made just now. -/
theorem LogI.push {st e : TypeId} {i : TypeInfo} {z : Value} {size bytes : Nat} (ht : Try.prog.underlying st = some (.slice e)) (hi : Try.prog.info? e = some i) (hz : i.zero = some z) (hsize : i.size = size) (hby : i.bytes = bytes) (hzs : z.cells.size = size) (hsz : 0 < size)
    {B n : Nat} {xs : List Value} {own ks : List (Nat × Obj)} (h : LogI w W g d x t book (own ++ ks)) (hv : Holds B own e size v n xs) (hB : w.heap.size ≤ B) (hB2 : B ≤ W.heap.size) (hap : ∀ p ∈ ks, v.ownBlock ≠ some p.1)
    {m : Nat} {news : List Value} (hm : 0 < m) (hl : news.length = m * size) (h1 : ∀ u ∈ news, u.oneCell' = true) (h63 : n + m ≤ maxLen) (hbytes : ((n + m) + (n + m) / 4 + 192) * bytes ≤ 281474976710656) (ty : TypeId) :
    ∃ v' W' own', (Builtin.append_ #[st, st] ty #[v, .slice (some ⟨W.heap.size, 0, none⟩) m m]).run Try.prog (W.alloc (.cells news.toArray e)) = .ok v' W' ∧ LogI w W' g d x t book (own' ++ ks) ∧ Holds B own' e size v' (n + m) (xs ++ news) ∧ ∀ p ∈ ks, v'.ownBlock ≠ some p.1 := by
  have hnews : ∀ j u, news[j]? = some u → (W.alloc (.cells news.toArray e)).cell? ((⟨W.heap.size, 0, none⟩ : Addr).add j) = some u := fun j u hu => by
    rw [Go.WideShapes.add_plain, Nat.zero_add, cell_of_row _ _ j _ e _ (heap_alloc_new W _), List.getElem?_toArray]
    exact hu
  obtain ⟨v', W', hr, h2, h3, h4⟩ := append_gen ht hi hz hsize hby hzs hsz (World.ownsRow.alloc (h.owns hv) (.cells news.toArray e)) (c := m) hm hl hnews h1 h63 hbytes (by simp only [World.alloc, Array.size_push]; omega) ty
  obtain ⟨own', q1, q2, q3⟩ := h.grown hv hB hap ((Fr.alloc _ W (.cells news.toArray e)).trans h3 fun _ _ q => q) h2 fun k hk => by
    rcases h4 k hk with q | q
    · exact .inl q
    · exact .inr (by simp only [World.alloc, Array.size_push] at q; omega)
  exact ⟨v', W', own', hr, q1, q2, q3⟩
theorem exec_push {o : Oper} {a : Act} {s y : Operand} {st : TypeId} {ad : Addr} {m c : Nat} (ho : o.op = .call { callee := .builtin .append, args := #[s, y], argTypes := #[st, st] }) (hs : a.eval s = v) (hx : a.eval y = .slice (some ad) m c)
    (hr : (Builtin.append_ #[st, st] o.type #[v, .slice (some ad) m c]).run Try.prog W = .ok v' W') : (execOp a.eval o).run Try.prog W = .ok (.value v') W' := by
  simp [execOp, ho, resolve, invoke, builtin, hs, hx, hr, Result.andThen]
theorem wpList_push {ops : Array Oper} {rest : List Oper} {o : Oper} {a : Act} {Q : Exit → Act → World → Prop} {s y : Operand} {st : TypeId} {ad : Addr} {m c : Nat} (hgd : o.guard = none) (ho : o.op = .call { callee := .builtin .append, args := #[s, y], argTypes := #[st, st] }) (hs : a.eval s = v) (hx : a.eval y = .slice (some ad) m c)
    (hr : (Builtin.append_ #[st, st] o.type #[v, .slice (some ad) m c]).run Try.prog W = .ok v' W') (h : wpList Try.prog ops Q rest (a.put o.dst v') W') : wpList Try.prog ops Q (o :: rest) a W := by
  refine wpList_plain hgd fun K' hK' => ?_
  unfold Oper.wp
  simp [execOp, ho, resolve, invoke, builtin, hs, hx, hr, Result.andThen]
  exact hK' _ _ h
end Go.Proofs.Ytahaiciciljijaa
/- Lists of blocks in memory: read at a place, written at a place; no condition. -/
namespace Go.Proofs.Ytahaiciciljijaa
open Go.RowKit Go.Maps
variable {w W W' : World} {g d : Nat} {v v' : Value} {x : LSt} {t : St} {ks : List (Nat × Obj)} {book : Int → Nat → Int}
/-- The cells of blocks one behind the other. -/
def blkCells (l : List (Nat → Int)) : List Value := l.flatMap fun f => (blk f).toList
theorem blkCells_len : ∀ l : List (Nat → Int), (blkCells l).length = l.length * 1024
  | [] => rfl
  | f :: t => by
    have ih := blkCells_len t
    have h1 := blk_list_len f
    show ((blk f).toList ++ blkCells t).length = _
    rw [List.length_append, ih, h1, List.length_cons]
    omega
theorem blkCells_append (a b : List (Nat → Int)) : blkCells (a ++ b) = blkCells a ++ blkCells b := by simp [blkCells]
theorem blkCells_one (f : Nat → Int) : blkCells [f] = (blk f).toList := by simp [blkCells]
theorem blkCells_take : ∀ (l : List (Nat → Int)) (k : Nat), (blkCells l).take (k * 1024) = blkCells (l.take k)
  | [], k => by simp [blkCells]
  | f :: t, 0 => by simp [blkCells]
  | f :: t, k + 1 => by
    have ih := blkCells_take t k
    have h1 := blk_list_len f
    show ((blk f).toList ++ blkCells t).take ((k + 1) * 1024) = (blk f).toList ++ blkCells (t.take k)
    rw [List.take_append, h1, List.take_of_length_le (by rw [h1]; omega), show (k + 1) * 1024 - 1024 = k * 1024 by omega, ih]
theorem blkCells_drop : ∀ (l : List (Nat → Int)) (k : Nat), (blkCells l).drop (k * 1024) = blkCells (l.drop k)
  | [], k => by simp [blkCells]
  | f :: t, 0 => by simp
  | f :: t, k + 1 => by
    have ih := blkCells_drop t k
    have h1 := blk_list_len f
    show ((blk f).toList ++ blkCells t).drop ((k + 1) * 1024) = blkCells (t.drop k)
    rw [List.drop_append, h1, List.drop_of_length_le (by rw [h1]; omega), show (k + 1) * 1024 - 1024 = k * 1024 by omega, ih]
    rfl
theorem blkCells_split (l : List (Nat → Int)) (k : Nat) (f : Nat → Int) (h : l[k]? = some f) : blkCells l = blkCells (l.take k) ++ ((blk f).toList ++ blkCells (l.drop (k + 1))) := by
  obtain ⟨hk, rfl⟩ := List.getElem?_eq_some_iff.1 h
  have e : l = l.take k ++ l[k] :: l.drop (k + 1) := by rw [← List.drop_eq_getElem_cons hk, List.take_append_drop]
  conv => lhs; rw [e]
  rw [blkCells_append]
  rfl
theorem set_split (l : List (Nat → Int)) (k : Nat) (f : Nat → Int) (hk : k < l.length) : blkCells (l.set k f) = blkCells (l.take k) ++ ((blk f).toList ++ blkCells (l.drop (k + 1))) := by
  rw [blkCells_split (l.set k f) k f (by rw [List.getElem?_set_self hk]), List.take_set_of_le (Nat.le_refl _), List.drop_set_of_lt (by omega)]
/-- Where a list of blocks lies, and that each lies there. -/
theorem blks_at {B : Nat} {l : List (Nat → Int)} (h : W.ownsRow B 23 1024 v l.length (blkCells l)) (h0 : 0 < l.length) : ∃ q c, v = .slice (some ⟨q, 0, none⟩) l.length c ∧ v.ownBlock = some q ∧ B ≤ q ∧ q < W.heap.size ∧ l.length ≤ c ∧ ∀ k f, l[k]? = some f → BlkAt W q (k * 1024) f := by
  rcases h.2 with ⟨_, h2⟩ | ⟨q, cap, cur, rfl, hB, hg, hc, hm, hs, ht⟩
  · omega
  · refine ⟨q, cap, rfl, rfl, hB, (Array.getElem?_eq_some_iff.1 hg).1, hc, fun k f hf j u hu => ?_⟩
    have hk := (List.getElem?_eq_some_iff.1 hf).1
    have hj : j < 1024 := by have := (List.getElem?_eq_some_iff.1 hu).1; rwa [blk_list_len] at this
    have hin : k * 1024 + j < l.length * 1024 := by omega
    rw [cell_of_row W q _ cur 23 _ hg, ← Array.getElem?_toList, ← List.getElem?_take_of_lt hin, ht, blkCells_split l k f hf]
    have hl : (blkCells (l.take k)).length = k * 1024 := by rw [blkCells_len, List.length_take]; omega
    rw [List.getElem?_append_right (by omega), hl, show k * 1024 + j - k * 1024 = j by omega, List.getElem?_append_left (by rw [blk_list_len]; exact hj)]
    exact hu
/-- A block of a list is written. -/
theorem blks_set {B q k : Nat} {l : List (Nat → Int)} (h : W.ownsRow B 23 1024 v l.length (blkCells l)) (hq : v.ownBlock = some q) (hk : k < l.length) (f : Nat → Int) :
    W.there q (k * 1024) 1024 ∧ (W.setCells q (k * 1024) (blk f).toList).ownsRow B 23 1024 v l.length (blkCells (l.set k f)) := by
  rcases h.2 with ⟨_, h2⟩ | ⟨q', cap, cur, rfl, hB, hg, hc, hm, hs, ht⟩
  · omega
  · obtain rfl : q' = q := by injection hq
    have e1 : cur.toList = blkCells (l.take k) ++ ((blk l[k]).toList ++ (blkCells (l.drop (k + 1)) ++ cur.toList.drop (l.length * 1024))) := by
      rw [← List.append_assoc (blk l[k]).toList, ← List.append_assoc, ← blkCells_split l k l[k] (List.getElem?_eq_getElem hk), ← ht, List.take_append_drop]
    have hl : (blkCells (l.take k)).length = k * 1024 := by rw [blkCells_len, List.length_take]; omega
    refine ⟨fun j hj => ⟨?_, ?_⟩, ?_⟩
    · rw [cell_of_row W q' _ cur 23 _ hg, Array.getElem?_eq_getElem (by rw [hs]; omega)]
      rfl
    · exact Joins.unfrozen_of_block hg _
    · have hg2 : W.heap[q']? = some (.cells (blkCells (l.take k) ++ ((blk l[k]).toList ++ (blkCells (l.drop (k + 1)) ++ cur.toList.drop (l.length * 1024)))).toArray 23) := by
        rw [hg, ← e1]
      have hg3 := block_setCells q' 23 (blkCells (l.drop (k + 1)) ++ cur.toList.drop (l.length * 1024)) (blk f).toList (blk l[k]).toList (blkCells (l.take k)) W (by rw [blk_list_len, blk_list_len]) hg2
      rw [hl] at hg3
      have e2 : blkCells (l.take k) ++ ((blk f).toList ++ (blkCells (l.drop (k + 1)) ++ cur.toList.drop (l.length * 1024))) = blkCells (l.set k f) ++ cur.toList.drop (l.length * 1024) := by
        rw [set_split l k f hk, List.append_assoc, List.append_assoc]
      have hl2 : (blkCells (l.set k f)).length = l.length * 1024 := by rw [blkCells_len, List.length_set]
      rw [e2] at hg3
      refine ⟨hl2, .inr ⟨q', cap, _, rfl, hB, hg3, hc, hm, ?_, ?_⟩⟩
      · have hcl : cur.toList.length = cap * 1024 := (Array.length_toList ..).trans hs
        rw [List.size_toArray, List.length_append, hl2, List.length_drop, hcl]
        omega
      · rw [List.take_append_of_le_length (by omega), List.take_of_length_le (by omega)]
theorem wpList_storeBlk {ops : Array Oper} {rest : List Oper} {o : Oper} {a : Act} {Q : Exit → Act → World → Prop} (hgd : o.guard = none) (y z : Operand) (ho : o.op = .store 23 y z) (q off : Nat)
    (hx : a.eval y = .pointer (some ⟨q, off, none⟩)) (f : Nat → Int) (hy : a.eval z = .agg (blk f)) (h : W.there q off 1024)
    (hK : wpList Try.prog ops Q rest (a.put o.dst undef) (W.setCells q off (blk f).toList)) : wpList Try.prog ops Q (o :: rest) a W :=
  wpList_store_mid hgd 23 y z ho q off (blk f) hx hy (by rw [blk_size]; exact h) (by rw [blk_size]; exact size25) (blk_one f) hK
/-- A block of a list beside a log is written: the log stays. -/
theorem LogI.setBlk {B q k : Nat} {l : List (Nat → Int)} {own ks : List (Nat × Obj)} (h : LogI w W g d x t book (own ++ ks)) (hv : Holds B own 23 1024 v l.length (blkCells l)) (hB : w.heap.size ≤ B) (hap : ∀ p ∈ ks, v.ownBlock ≠ some p.1) (hq : v.ownBlock = some q) (hk : k < l.length) (f : Nat → Int) :
    ∃ own', LogI w (W.setCells q (k * 1024) (blk f).toList) g d x t book (own' ++ ks) ∧ Holds B own' 23 1024 v l.length (blkCells (l.set k f)) := by
  obtain ⟨own', h1, h2, _⟩ := h.grown hv hB hap ((Fr.setCells W q (k * 1024) (blk f).toList).mono fun i _ e => by rw [e]; exact hq) (blks_set (h.owns hv) hq hk f).2 fun k hk => .inl hk
  exact ⟨own', h1, h2⟩
end Go.Proofs.Ytahaiciciljijaa
/- Things done, built; lists of one and of three of them built; a list of one block built; no condition. -/
namespace Go.Proofs.Ytahaiciciljijaa
open Go.RowKit Go.Maps
theorem fill_step (n i : Nat) (c z : Array Value) (ps : List (Nat × Value)) (hc : c.size = n) (hz : i * n + n ≤ z.size) : Instr.fill (fun i => some (i * n, n)) z ((i, .agg c) :: ps) = Instr.fill (fun i => some (i * n, n)) (z.toList.take (i * n) ++ (c.toList ++ z.toList.drop (i * n + n))).toArray ps := by
  have hcond : ((Value.agg c).cells.size ≠ n || decide (i * n + (Value.agg c).cells.size > z.size)) = false := by
    simp [Value.cells, hc]
    omega
  conv => lhs; unfold Instr.fill
  simp only [hcond, Bool.false_eq_true, if_false]
  exact congrArg (fun q => Instr.fill _ q ps) ((fold_over (i * n) c z (by omega)).trans (by rw [hc]))
theorem fill_three (c0 c1 c2 z : Array Value) (n : Nat) (h0 : c0.size = n) (h1 : c1.size = n) (h2 : c2.size = n) (hz : z.size = 3 * n) : Instr.fill (fun i => some (i * n, n)) z [(0, .agg c0), (1, .agg c1), (2, .agg c2)] = some (c0.toList ++ (c1.toList ++ c2.toList)).toArray := by
  have l0 : c0.toList.length = n := (Array.length_toList ..).trans h0
  have l1 : c1.toList.length = n := (Array.length_toList ..).trans h1
  have lz : z.toList.length = 3 * n := (Array.length_toList ..).trans hz
  rw [fill_step n 0 c0 z _ h0 (by omega), Nat.zero_mul, List.take_zero, List.nil_append, Nat.zero_add]
  generalize hz1 : (c0.toList ++ z.toList.drop n).toArray = z1
  have e1 : z1.toList = c0.toList ++ z.toList.drop n := by rw [← hz1]
  have s1 : z1.size = 3 * n := by rw [← hz1, List.size_toArray, List.length_append, List.length_drop, l0, lz]; omega
  rw [fill_step n 1 c1 z1 _ h1 (by omega), Nat.one_mul]
  have t1 : z1.toList.take n = c0.toList := by rw [e1, List.take_append_of_le_length (by omega), List.take_of_length_le (by omega)]
  rw [t1]
  generalize hz2 : (c0.toList ++ (c1.toList ++ z1.toList.drop (n + n))).toArray = z2
  have e2 : z2.toList = c0.toList ++ (c1.toList ++ z1.toList.drop (n + n)) := by rw [← hz2]
  have s2 : z2.size = 3 * n := by rw [← hz2, List.size_toArray, List.length_append, List.length_append, List.length_drop, l0, l1, Array.length_toList, s1]; omega
  rw [fill_step n 2 c2 z2 _ h2 (by omega)]
  have t2 : z2.toList.take (2 * n) = c0.toList ++ c1.toList := by
    rw [e2, ← List.append_assoc, List.take_append_of_le_length (by rw [List.length_append]; omega), List.take_of_length_le (by rw [List.length_append]; omega)]
  have d2 : z2.toList.drop (2 * n + n) = [] := List.drop_of_length_le (by rw [Array.length_toList, s2]; omega)
  unfold Instr.fill
  rw [t2, d2, List.append_nil, List.append_assoc]
/-- A list of three elements, each a whole row. -/
theorem build3 (t e n : Nat) (zero : Value) (c0 c1 c2 : Array Value) (hu : Try.prog.underlying t = some (.slice e)) (hs : ∀ u, (sizeOf e).run Try.prog u = .ok n u) (hn : 0 < n ∧ n ≤ 1048576) (hz : ∀ u, (zeroValue e).run Try.prog u = .ok zero u) (h0 : c0.size = n) (h1 : c1.size = n) (h2 : c2.size = n) (u : World) :
    (Instr.buildSlice t 3 #[(0, .agg c0), (1, .agg c1), (2, .agg c2)]).run Try.prog u = .ok (.slice (some ⟨u.heap.size, 0, none⟩) 3 3) (u.alloc (.cells (c0.toList ++ (c1.toList ++ c2.toList)).toArray e)) :=
  run_buildSlice_gen u t e 3 n zero #[(0, .agg c0), (1, .agg c1), (2, .agg c2)] _ hu (hs u) (by omega) (by omega) (hz u) (fill_three c0 c1 c2 _ n h0 h1 h2 (by rw [Array.size_map, Array.size_range]))
theorem build86_3 (r0 r1 r2 : Rec) (u : World) : (Instr.buildSlice 37 3 #[(0, .agg (recCells r0).toArray), (1, .agg (recCells r1).toArray), (2, .agg (recCells r2).toArray)]).run Try.prog u = .ok (.slice (some ⟨u.heap.size, 0, none⟩) 3 3) (u.alloc (.cells (opCells [r0, r1, r2]).toArray 86)) := by
  have h := build3 37 86 1026 _ (recCells r0).toArray (recCells r1).toArray (recCells r2).toArray Try.underlying37 Try.sizeOf86 (by omega) zero108 (rec_size r0) (rec_size r1) (rec_size r2) u
  rw [h]
  simp [opCells]
theorem build23_1 (f : Nat → Int) (u : World) : (Instr.buildSlice 69 1 #[(0, .agg (blk f))]).run Try.prog u = .ok (.slice (some ⟨u.heap.size, 0, none⟩) 1 1) (u.alloc (.cells (blk f) 23)) :=
  build1 69 23 1024 _ _ Try.underlying69 Try.sizeOf23 (by omega) zero25 (blk_size f) u
theorem fill_two (k p : Int) (place : Nat → Option (Nat × Nat)) (h0 : place 0 = some (0, 1)) (h1 : place 1 = some (1, 1)) :
    Instr.fill place (recCells ⟨0, 0, nought⟩).toArray [(0, .int .u8 k), (1, .int .i64 p)] = some (recCells ⟨k, p, nought⟩).toArray := by
  have hb := blk_list_len nought
  unfold recCells
  simp only
  generalize (blk nought).toList = B at *
  unfold Instr.fill
  rw [h0]
  simp only [Value.cells, List.size_toArray, List.length_cons, List.length_nil]
  rw [if_neg (by simp), fold_over 0 #[.int .u8 k] _ (by simp)]
  unfold Instr.fill
  rw [h1]
  simp only [Value.cells, List.size_toArray, List.length_cons, List.length_nil, List.take_zero, List.nil_append, Nat.zero_add, List.drop_succ_cons, List.drop_zero, List.singleton_append]
  rw [if_neg (by simp), fold_over 1 #[.int .i64 p] _ (by simp)]
  unfold Instr.fill
  simp
theorem build86w (k p : Int) (u : World) : (Instr.build 86 #[(0, .int .u8 k), (1, .int .i64 p)]).run Try.prog u = .ok (.agg (recCells ⟨k, p, nought⟩).toArray) u := by
  have z := zero108
  have hf := fill_two k p
  generalize (recCells ⟨0, 0, nought⟩).toArray = Z at *
  generalize (recCells ⟨k, p, nought⟩).toArray = Z' at *
  simp [Instr.build, z, run_underlying Try.underlying86, Value.cells]
  rw [hf _ rfl rfl]
  simp only [Sem.run_pure]
section
variable {o : Oper} {a : Act} {W : World}
theorem exec_build86 {y z : Operand} {k p : Int} {f : Nat → Int} (ho : o.op = .build 86 #[(0, .const (.int .u8 k)), (1, y), (2, z)]) (hy : a.eval y = .int .i64 p) (hz : a.eval z = .agg (blk f)) : (execOp a.eval o).run Try.prog W = .ok (.value (.agg (recCells ⟨k, p, f⟩).toArray)) W := by
  have e := build108 k p f W
  have hc : a.eval (.const (.int .u8 k)) = .int .u8 k := rfl
  generalize (recCells ⟨k, p, f⟩).toArray = Z at *
  simp [execOp, ho, hc, hy, hz, e]
theorem exec_build86w {y : Operand} {k p : Int} (ho : o.op = .build 86 #[(0, .const (.int .u8 k)), (1, y)]) (hy : a.eval y = .int .i64 p) : (execOp a.eval o).run Try.prog W = .ok (.value (.agg (recCells ⟨k, p, nought⟩).toArray)) W := by
  have e := build86w k p W
  have hc : a.eval (.const (.int .u8 k)) = .int .u8 k := rfl
  generalize (recCells ⟨k, p, nought⟩).toArray = Z at *
  simp [execOp, ho, hc, hy, e]
theorem exec_slice86 {y : Operand} {r : Rec} (ho : o.op = .buildSlice 37 1 #[(0, y)]) (hy : a.eval y = .agg (recCells r).toArray) : (execOp a.eval o).run Try.prog W = .ok (.value (.slice (some ⟨W.heap.size, 0, none⟩) 1 1)) (W.alloc (.cells (recCells r).toArray 86)) := by
  have e := build67 r W
  generalize (recCells r).toArray = Z at *
  simp [execOp, ho, hy, e]
theorem exec_slice86_3 {y0 y1 y2 : Operand} {r0 r1 r2 : Rec} (ho : o.op = .buildSlice 37 3 #[(0, y0), (1, y1), (2, y2)]) (h0 : a.eval y0 = .agg (recCells r0).toArray) (h1 : a.eval y1 = .agg (recCells r1).toArray) (h2 : a.eval y2 = .agg (recCells r2).toArray) :
    (execOp a.eval o).run Try.prog W = .ok (.value (.slice (some ⟨W.heap.size, 0, none⟩) 3 3)) (W.alloc (.cells (opCells [r0, r1, r2]).toArray 86)) := by
  have e := build86_3 r0 r1 r2 W
  generalize (recCells r0).toArray = Z0 at *
  generalize (recCells r1).toArray = Z1 at *
  generalize (recCells r2).toArray = Z2 at *
  generalize (opCells [r0, r1, r2]).toArray = Z at *
  simp [execOp, ho, h0, h1, h2, e]
theorem exec_slice23 {y : Operand} {f : Nat → Int} (ho : o.op = .buildSlice 69 1 #[(0, y)]) (hy : a.eval y = .agg (blk f)) : (execOp a.eval o).run Try.prog W = .ok (.value (.slice (some ⟨W.heap.size, 0, none⟩) 1 1)) (W.alloc (.cells (blk f) 23)) := by
  have e := build23_1 f W
  generalize blk f = Z at *
  simp [execOp, ho, hy, e]
/-- Any operation by what it comes to. -/
theorem wpList_exec {ops : Array Oper} {rest : List Oper} {Q : Exit → Act → World → Prop} {v : Value} {W' : World} (hgd : o.guard = none) (hr : (execOp a.eval o).run Try.prog W = .ok (.value v) W') (h : wpList Try.prog ops Q rest (a.put o.dst v) W') : wpList Try.prog ops Q (o :: rest) a W := by
  refine wpList_plain hgd fun K' hK' => ?_
  unfold Oper.wp
  rw [hr]
  exact hK' _ _ h
end
end Go.Proofs.Ytahaiciciljijaa
