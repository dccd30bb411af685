import Derived.Test.YtahaiciciljijaaLNext
import Derived.Test.YtahaiciciljijaaLWr
/- A story beside whatever stands on a disk: its row, the list of what was told, and each list of blocks that was told; how it turns and grows; no condition. -/
namespace Go.Proofs.Ytahaiciciljijaa
open Go.RowKit Go.Maps
/-- Lists of blocks that lie in told blocks. -/
def Told (B : Nat) (ks : List (Nat × Obj)) (vs : List Value) (fss : List (List (Nat → Int))) : Prop :=
  vs.length = fss.length ∧ ∀ (j : Nat) (v : Value) (fs : List (Nat → Int)), vs[j]? = some v → fss[j]? = some fs → ∃ own, (∀ p ∈ own, p ∈ ks) ∧ Holds B own 23 1024 v fs.length (blkCells fs)
def stRow (vT : Value) (lst last : Int) (ok : Bool) : Array Value := #[vT, .int .i64 lst, .int .i64 last, .bool ok]
/-- A story beside it. -/
structure SX (w : World) (C : World → St → List (Nat × Obj) → Prop) (W : World) (t : St) (q : Nat) (vT : Value) (vs : List Value) (fss : List (List (Nat → Int))) (lst last : Int) (ok : Bool) (oT ks : List (Nat × Obj)) : Prop where
  c : C W t (oT ++ ((q, .cells (stRow vT lst last ok) 63) :: ks))
  list : Holds w.heap.size oT 69 1 vT vs.length vs
  told : Told w.heap.size ks vs fss
  ap : ∀ p ∈ ks, vT.ownBlock ≠ some p.1
  apq : vT.ownBlock ≠ some q
  new : w.heap.size ≤ q
  ne : ∀ p ∈ ks, p.1 ≠ q
section
variable {w W W' : World} {d q : Nat} {C C' : World → St → List (Nat × Obj) → Prop} {t t' : St} {vT : Value} {vs : List Value} {fss : List (List (Nat → Int))} {lst last : Int} {ok : Bool} {oT ks : List (Nat × Obj)}
theorem SX.later (hC : Ctx w d C) (h : SX w C W t q vT vs fss lst last ok oT ks) (hb : Below W.heap.size W W') : SX w C W' t q vT vs fss lst last ok oT ks := ⟨hC.later h.c hb, h.list, h.told, h.ap, h.apq, h.new, h.ne⟩
theorem SX.below (hC : Ctx w d C) (h : SX w C W t q vT vs fss lst last ok oT ks) : Below w.heap.size w W := hC.below h.c
theorem SX.row (hC : Ctx w d C) (h : SX w C W t q vT vs fss lst last ok oT ks) : W.heap[q]? = some (.cells (stRow vT lst last ok) 63) := hC.obj h.c (List.mem_append.2 (.inr (List.mem_cons_self ..)))
theorem SX.obj (hC : Ctx w d C) (h : SX w C W t q vT vs fss lst last ok oT ks) {g : Nat} {o : Obj} (hm : (g, o) ∈ ks) : W.heap[g]? = some o := hC.obj h.c (List.mem_append.2 (.inr (List.mem_cons_of_mem _ hm)))
theorem SX.cells (hC : Ctx w d C) (h : SX w C W t q vT vs fss lst last ok oT ks) : W.cell? ⟨q, 0, none⟩ = some vT ∧ W.cell? ⟨q, 1, none⟩ = some (.int .i64 lst) ∧ W.cell? ⟨q, 2, none⟩ = some (.int .i64 last) ∧ W.cell? ⟨q, 3, none⟩ = some (.bool ok) :=
  ⟨Joins.cell_of_block (h.row hC) 0, Joins.cell_of_block (h.row hC) 1, Joins.cell_of_block (h.row hC) 2, Joins.cell_of_block (h.row hC) 3⟩
theorem SX.free (hC : Ctx w d C) (h : SX w C W t q vT vs fss lst last ok oT ks) (i : Nat) : W.frozen? ⟨q, i, none⟩ = false := Joins.unfrozen_of_block (h.row hC) i
/-- What it stands on has turned by a call. -/
theorem SX.call {fn : Nat} {args : Array Value} {E : Ending} (h : SX w C W t q vT vs fss lst last ok oT ks) (hc : ∀ ks, C W t ks → Calls Try.prog fn args W fun e W' => e = E ∧ C' W' t' ks) :
    Calls Try.prog fn args W fun e W' => e = E ∧ SX w C' W' t' q vT vs fss lst last ok oT ks :=
  (hc _ h.c).mono fun _ _ ⟨he, h1⟩ => ⟨he, h1, h.list, h.told, h.ap, h.apq, h.new, h.ne⟩
theorem SX.turn (h : SX w C W t q vT vs fss lst last ok oT ks) (hc : C' W' t' (oT ++ ((q, .cells (stRow vT lst last ok) 63) :: ks))) : SX w C' W' t' q vT vs fss lst last ok oT ks := ⟨hc, h.list, h.told, h.ap, h.apq, h.new, h.ne⟩
/-- A cell of the story's row is written; the list of what was told stays. -/
theorem SX.set (hC : Ctx w d C) (h : SX w C W t q vT vs fss lst last ok oT ks) (i : Nat) (v : Value) {lst' last' : Int} {ok' : Bool} (hr : (stRow vT lst last ok).setIfInBounds i v = stRow vT lst' last' ok') : SX w C (W.setCell ⟨q, i, none⟩ v) t q vT vs fss lst' last' ok' oT ks := by
  have hrow := h.row hC
  have hlt := (Array.getElem?_eq_some_iff.1 hrow).1
  have hoT : ∀ p ∈ oT, p.1 ≠ q := fun p hp e => h.apq (by rw [← e]; exact h.list.2.2 p hp)
  have hset := setCell_eq_setRow W q i _ 63 (0, 0) v hrow
  refine ⟨?_, h.list, h.told, h.ap, h.apq, h.new, h.ne⟩
  rw [hset]
  refine hC.side (T := fun k => k = q) h.c (Fr.setRow W q _) (fun k e => by subst e; exact ⟨h.new, _, List.mem_append.2 (.inr (List.mem_cons_self ..))⟩) fun p hp => ?_
  have hkeep : ∀ p : Nat × Obj, p ∈ oT ++ ((q, .cells (stRow vT lst last ok) 63) :: ks) → p.1 ≠ q → (W.setRow q ((stRow vT lst last ok).setIfInBounds i v)).heap[p.1]? = some p.2 := fun p hp e => by
    have h1 := hC.obj h.c (q := p.1) (o := p.2) hp
    exact ((Fr.setRow W q _).block p.1 (Array.getElem?_eq_some_iff.1 h1).1 e).trans h1
  rcases List.mem_append.1 hp with hp | hp
  · exact ⟨hkeep p (List.mem_append.2 (.inl hp)) (hoT p hp), .inl ⟨p.2, List.mem_append.2 (.inl hp)⟩⟩
  · rcases List.mem_cons.1 hp with rfl | hp
    · exact ⟨by rw [← hr]; exact setRow_heap _ _ _ _ _ _ hrow, .inl ⟨_, List.mem_append.2 (.inr (List.mem_cons_self ..))⟩⟩
    · exact ⟨hkeep p (List.mem_append.2 (.inr (List.mem_cons_of_mem _ hp))) (h.ne p hp), .inl ⟨p.2, List.mem_append.2 (.inr (List.mem_cons_of_mem _ hp))⟩⟩
/-- The list of what was told, in memory. -/
theorem SX.at (hC : Ctx w d C) (h : SX w C W t q vT vs fss lst last ok oT ks) {j : Nat} {v : Value} (hj : vs[j]? = some v) : ∃ g c, vT = .slice (some ⟨g, 0, none⟩) vs.length c ∧ W.cell? ⟨g, j, none⟩ = some v := by
  have ho := hC.owns h.c h.list
  rcases ho.2 with ⟨_, h2⟩ | ⟨g, cap, cur, h1, _, hg, _, _, _, ht⟩
  · have := (List.getElem?_eq_some_iff.1 hj).1
    omega
  · refine ⟨g, cap, h1, ?_⟩
    have hlt := (List.getElem?_eq_some_iff.1 hj).1
    rw [cell_of_row W g _ cur 69 _ hg, ← Array.getElem?_toList, ← List.getElem?_take_of_lt (j := vs.length * 1) (by omega), ht]
    exact hj
/-- A list that was told, in memory. -/
theorem SX.blks (hC : Ctx w d C) (h : SX w C W t q vT vs fss lst last ok oT ks) {j : Nat} {v : Value} {fs : List (Nat → Int)} (hj : vs[j]? = some v) (hf : fss[j]? = some fs) : ∃ p c, v = .slice p fs.length c ∧ BlksIn W p fs := by
  obtain ⟨own, h1, h2⟩ := h.told.2 j v fs hj hf
  exact BlksIn.of (h2.1 W fun p hp => h.obj hC (g := p.1) (o := p.2) (h1 p hp))
theorem info69 : (Try.prog.info? 69).map (fun i => (i.zero, i.size, i.bytes)) = some (some (.slice none 0 0), 1, 24) := by kernel_rfl
/-- One more is told: a list of blocks that lies beside it already. -/
theorem SX.tell (hC : Ctx w d C) (h : SX w C W t q vT vs fss lst last ok oT ks) {v : Value} {fs : List (Nat → Int)} (hv : CB w C W' t v fs (oT ++ ((q, .cells (stRow vT lst last ok) 63) :: ks))) (hv1 : ∃ p n c, v = .slice p n c) (hl : vs.length ≤ 1000) (ty : TypeId) :
    ∃ vT' W2 oT' ks', (Builtin.append_ #[61, 61] ty #[vT, .slice (some ⟨W'.heap.size, 0, none⟩) 1 1]).run Try.prog (W'.alloc (.cells #[v] 69)) = .ok vT' W2 ∧ W2.cell? ⟨q, 0, none⟩ = some vT ∧ W2.frozen? ⟨q, 0, none⟩ = false ∧ (Below w.heap.size w W2 ∧ ∀ p ∈ ks, W2.heap[p.1]? = some p.2) ∧ (∀ p ∈ ks, p ∈ ks') ∧
      SX w C (W2.setCell ⟨q, 0, none⟩ vT') t q vT' (vs ++ [v]) (fss ++ [fs]) lst last ok oT' ks' := by
  obtain ⟨own, h1, h2, h3⟩ := hv
  have hW := (hC.below h1).size
  obtain ⟨i0, hi0, hz0, hz1, hz2⟩ := info_parts info69
  have hone : v.oneCell' = true := by obtain ⟨p, n, c, rfl⟩ := hv1; rfl
  have h1' : C W' t (oT ++ ((q, .cells (stRow vT lst last ok) 63) :: (own ++ ks))) := hC.drop h1 fun p hp => by
    rcases List.mem_append.1 hp with hp | hp
    · exact List.mem_append.2 (.inr (List.mem_append.2 (.inl hp)))
    · rcases List.mem_cons.1 hp with rfl | hp
      · exact List.mem_append.2 (.inr (List.mem_append.2 (.inr (List.mem_cons_self ..))))
      · rcases List.mem_append.1 hp with hp | hp
        · exact List.mem_append.2 (.inl hp)
        · exact List.mem_append.2 (.inr (List.mem_append.2 (.inr (List.mem_cons_of_mem _ hp))))
  have hap : ∀ p ∈ ((q, Obj.cells (stRow vT lst last ok) 63) :: (own ++ ks)), vT.ownBlock ≠ some p.1 := fun p hp => by
    rcases List.mem_cons.1 hp with rfl | hp
    · exact h.apq
    · rcases List.mem_append.1 hp with hp | hp
      · intro e
        obtain ⟨o, ho⟩ := h.list.2.1 _ e
        exact h3 (p.1, o) (List.mem_append.2 (.inl ho)) (h2.2.2 p hp)
      · exact h.ap p hp
  obtain ⟨vT', W2, oT', hr, q1, q2, q3⟩ := hC.push Try.underlying61 hi0 hz0 hz1 hz2 rfl (by decide) h1' h.list (Nat.le_refl _) hW hap (m := 1) (news := [v]) (by omega) rfl (fun u hu => by simp at hu; subst hu; exact hone) (by unfold maxLen; omega) (by omega) ty
  have hrow2 := hC.obj q1 (List.mem_append.2 (.inr (List.mem_cons_self ..)))
  refine ⟨vT', W2, oT', own ++ ks, hr, Joins.cell_of_block hrow2 0, Joins.unfrozen_of_block hrow2 0, ⟨hC.below q1, fun p hp => hC.obj q1 (q := p.1) (o := p.2) (List.mem_append.2 (.inr (List.mem_cons_of_mem _ (List.mem_append.2 (.inr hp)))))⟩, fun p hp => List.mem_append.2 (.inr hp), ?_⟩
  have hne : ∀ p ∈ own ++ ks, p.1 ≠ q := fun p hp e => by
    rcases List.mem_append.1 hp with hp | hp
    · exact h3 (q, .cells (stRow vT lst last ok) 63) (List.mem_append.2 (.inr (List.mem_cons_self ..))) (by rw [← e]; exact h2.2.2 p hp)
    · exact h.ne p hp e
  have hoT' : ∀ p ∈ oT', p.1 ≠ q := fun p hp e => q3 (q, .cells (stRow vT lst last ok) 63) (List.mem_cons_self ..) (by rw [← e]; exact q2.2.2 p hp)
  refine ⟨?_, by rw [List.length_append]; exact q2, ⟨by rw [List.length_append, List.length_append, h.told.1]; rfl, fun j u gs hj hg => ?_⟩, fun p hp => q3 p (List.mem_cons_of_mem _ hp), q3 _ (List.mem_cons_self ..), h.new, hne⟩
  · have hset := setCell_eq_setRow W2 q 0 _ 63 (0, 0) vT' hrow2
    have hr0 : (stRow vT lst last ok).setIfInBounds 0 vT' = stRow vT' lst last ok := rfl
    rw [hset, hr0]
    have hkeep : ∀ p : Nat × Obj, p ∈ oT' ++ ((q, .cells (stRow vT lst last ok) 63) :: (own ++ ks)) → p.1 ≠ q → (W2.setRow q (stRow vT' lst last ok)).heap[p.1]? = some p.2 := fun p hp e => by
      have k1 := hC.obj q1 (q := p.1) (o := p.2) hp
      exact ((Fr.setRow W2 q _).block p.1 (Array.getElem?_eq_some_iff.1 k1).1 e).trans k1
    refine hC.side (T := fun k => k = q) q1 (Fr.setRow W2 q _) (fun k e => by subst e; exact ⟨h.new, _, List.mem_append.2 (.inr (List.mem_cons_self ..))⟩) fun p hp => ?_
    rcases List.mem_append.1 hp with hp | hp
    · exact ⟨hkeep p (List.mem_append.2 (.inl hp)) (hoT' p hp), .inl ⟨p.2, List.mem_append.2 (.inl hp)⟩⟩
    · rcases List.mem_cons.1 hp with rfl | hp
      · exact ⟨setRow_heap _ _ _ _ _ _ hrow2, .inl ⟨_, List.mem_append.2 (.inr (List.mem_cons_self ..))⟩⟩
      · exact ⟨hkeep p (List.mem_append.2 (.inr (List.mem_cons_of_mem _ hp))) (hne p hp), .inl ⟨p.2, List.mem_append.2 (.inr (List.mem_cons_of_mem _ hp))⟩⟩
  · by_cases hlt : j < vs.length
    · rw [List.getElem?_append_left hlt] at hj
      rw [List.getElem?_append_left (by rw [← h.told.1]; exact hlt)] at hg
      obtain ⟨o2, k1, k2⟩ := h.told.2 j u gs hj hg
      exact ⟨o2, fun p hp => List.mem_append.2 (.inr (k1 p hp)), k2⟩
    · have hjl : j = vs.length := by
        have := (List.getElem?_eq_some_iff.1 hj).1
        rw [List.length_append] at this
        simp only [List.length_cons, List.length_nil] at this
        omega
      rw [List.getElem?_append_right (by omega), hjl, Nat.sub_self] at hj
      rw [List.getElem?_append_right (by rw [← h.told.1]; omega), hjl, ← h.told.1, Nat.sub_self] at hg
      have e1 : v = u := by simpa using hj
      have e2 : fs = gs := by simpa using hg
      subst e1 e2
      exact ⟨own, fun p hp => List.mem_append.2 (.inl hp), h2⟩
end
end Go.Proofs.Ytahaiciciljijaa
/- What stands behind a log is found among what was told: the blocks are read, and held against the last list and the list that stands; no condition but the room. -/
namespace Go.Proofs.Ytahaiciciljijaa
open Go.RowKit Go.Maps
section
variable {w W W' : World} {d q : Nat} {C : World → St → List (Nat × Obj) → Prop} {t : St} {vT : Value} {vs : List Value} {fss : List (List (Nat → Int))} {lst last : Int} {ok : Bool} {oT ks : List (Nat × Obj)}
set_option maxRecDepth 20000 in
set_option maxHeartbeats 1600000 in
theorem SX.found (hC : Ctx w d C) (h : SX w C W t q vT vs fss lst last ok oT ks) {b l i : Int} (hF : H.Fine b l i) (hb3 : b ≤ 300) {m : Nat} (hm : b - (1 + l) = (m : Int)) (hs : t.stopped = false) (hrm : Rm t (m + 1)) (hn : b ≤ t.n)
    {j1 j2 : Nat} (e1 : lst = (j1 : Int)) (e2 : last = (j2 : Int)) {v1 v2 : Value} {f1 f2 : List (Nat → Int)} (hv1 : vs[j1]? = some v1) (hv2 : vs[j2]? = some v2) (hf1 : fss[j1]? = some f1) (hf2 : fss[j2]? = some f2) (hl1 : f1.length ≤ 1000) (hl2 : f2.length ≤ 1000) :
    Calls Try.prog 22 #[ptr d, .agg (layA b l i), .agg (stRow vT lst last ok)] W fun e W' => ∃ B, e = .returned (.bool B) ∧ (behL l m t = f1 ∨ behL l m t = f2 → B = true) ∧ SX w C W' (readN m t) q vT vs fss lst last ok oT ks := by
  obtain ⟨LA, hLA⟩ : ∃ LA, layA b l i = LA := ⟨_, rfl⟩
  have hsz : LA.size = 9 := by rw [← hLA]; rfl
  have hbe := behind_any hC (hC.add (hC.add h.c (.cells LA 31)) (.cells (stRow vT lst last ok) 63)) hF hb3 hm hs hrm hn
  rw [hLA] at hbe ⊢
  have hbl : (behL l m t).length ≤ 1000 := by rw [behL_len]; have := hF.1; omega
  have HBe := Hid.mk' hbe
  have HC := Hid.mk' hC
  have HH := Hid.mk' h
  have hj1 := (List.getElem?_eq_some_iff.1 hv1).1
  have hj2 := (List.getElem?_eq_some_iff.1 hv2).1
  have HV : Hid (vs[j1]? = some v1 ∧ vs[j2]? = some v2 ∧ fss[j1]? = some f1 ∧ fss[j2]? = some f2 ∧ f1.length ≤ 1000 ∧ f2.length ≤ 1000 ∧ (behL l m t).length ≤ 1000) := ⟨hv1, hv2, hf1, hf2, hl1, hl2, hbl⟩
  have h31 : ((W.alloc (.cells LA 31)).alloc (.cells (stRow vT lst last ok) 63)).heap[W.heap.size]? = some (.cells LA 31) := (hC.add (hC.add h.c (.cells LA 31)) (.cells (stRow vT lst last ok) 63)) |> fun q => hC.obj q (List.mem_cons_of_mem _ (List.mem_cons_self ..))
  subst e1 e2
  clear hbe h hC hLA hl1 hl2 hbl hv1 hv2 hf1 hf2
  unfold stRow at *
  unfold ptr at *
  go_enter Try.func22, Try.ntmps22
  go_wp2_with (first | (with_reducible refine H.isLoad 31 ?_; refine H.wpList_loadL rfl _ rfl W.heap.size rfl LA hsz h31 ?_) | (go_at_call 51; fail))
  refine HBe.out.mono ?_
  rintro e W1 ⟨v, rfl, own, h1, h2, _⟩
  obtain ⟨p, c, rfl, hB⟩ := BlksIn.of (h2.1 W1 fun p hp => HC.out.obj h1 (q := p.1) (o := p.2) (List.mem_append.2 (.inl hp)))
  have hX : SX w C W1 (readN m t) q vT vs fss j1 j2 ok oT ks := HH.out.turn (HC.out.drop h1 fun p hp => List.mem_append.2 (.inr (List.mem_cons_of_mem _ (List.mem_cons_of_mem _ hp))))
  have hrow := HC.out.obj h1 (List.mem_append.2 (.inr (List.mem_cons_self ..)))
  have ea : (W.alloc (Obj.cells LA 31)).heap.size = W.heap.size + 1 := by simp only [World.alloc, Array.size_push]
  rw [ea] at hrow
  have c0 : W1.cell? ⟨W.heap.size + 1, 0, none⟩ = some vT := Joins.cell_of_block hrow 0
  have c1 : W1.cell? ⟨W.heap.size + 1, 1, none⟩ = some (.int .i64 (j1 : Int)) := Joins.cell_of_block hrow 1
  have c2 : W1.cell? ⟨W.heap.size + 1, 2, none⟩ = some (.int .i64 (j2 : Int)) := Joins.cell_of_block hrow 2
  clear ea
  have l0 := (Array.getElem?_eq_some_iff.1 hrow).1
  obtain ⟨hv1, hv2, hf1, hf2, hl1, hl2, hbl⟩ := HV.out
  obtain ⟨g, cT, rfl, ca⟩ := hX.at HC.out hv1
  obtain ⟨g', cT', eT, cb⟩ := hX.at HC.out hv2
  injection eT with eT _ _
  injection eT with eT
  injection eT with eT _ _
  subst eT
  obtain ⟨p1, c1', rfl, hB1⟩ := hX.blks HC.out hv1 hf1
  obtain ⟨p2, c2', rfl, hB2⟩ := hX.blks HC.out hv2 hf2
  have lg : g < W1.heap.size := by
    rcases Nat.lt_or_ge g W1.heap.size with q | q
    · exact q
    · simp [World.cell?, Array.getElem?_eq_none q] at ca
  have hS1 := Hid.mk' (sameBlocks_any _ _ p p1 c c1' W1 hB hB1 hbl hl1)
  have hS2 : ∀ W2, Below W1.heap.size W1 W2 → Calls Try.prog 58 #[.slice p (behL l m t).length c, .slice p2 f2.length c2'] W2 (SbPost W2 (behL l m t) f2) := fun W2 hb => sameBlocks_any _ _ p p2 c c2' W2 (hB.later hb) (hB2.later hb) hbl hl2
  have HS2 := Hid.mk' hS2
  have HX := Hid.mk' hX
  clear HBe hS2 hX h1 h2 hB hB1 hB2 HH HV hrow h31 hv1 hv2 hf1 hf2 hl1 hl2 hbl
  go_wp2_with (first | (go_at_call 58; fail))
  refine hS1.out.mono ?_
  rintro e W2 ⟨B, rfl, hB1, hb1⟩
  have d0 := (hb1.cell (p := ⟨W.heap.size + 1, 0, none⟩) l0).trans c0
  have d2 := (hb1.cell (p := ⟨W.heap.size + 1, 2, none⟩) l0).trans c2
  have db := (hb1.cell (p := ⟨g, j2, none⟩) lg).trans cb
  have hX2 := HX.out.later HC.out hb1
  have HX2 := Hid.mk' hX2
  have HB1 := Hid.mk' hB1
  have HS := Hid.mk' (HS2.out W2 hb1)
  clear hX2 hS1 HS2 c0 c1 c2 ca cb hb1 HX hB1
  cases B
  · go_wp2_with (first | (go_at_call 58; fail))
    refine HS.out.mono ?_
    rintro e W3 ⟨B, rfl, hB2, hb2⟩
    have HX3 := Hid.mk' (HX2.out.later HC.out hb2)
    have HB2 := Hid.mk' hB2
    clear HX2 HS d0 d2 db hb2 hB2
    go_wp2
    go_ret
    exact ⟨B, rfl, fun q => q.elim (fun q => absurd (HB1.out q) (by simp)) HB2.out, HX3.out⟩
  · clear d0 d2 db HS
    go_wp2
    go_ret
    exact ⟨true, rfl, fun _ => rfl, HX2.out⟩
end
end Go.Proofs.Ytahaiciciljijaa
/- The plain side of a play: what is told of a book, the writes of a step, and what is told behind them; no condition. -/
namespace Go.Proofs.Ytahaiciciljijaa
open Go.RowKit Go.Maps
/-- The blocks behind a log, as a book has them. -/
def tellB (l : Int) (m : Nat) (bk : Int → Nat → Int) : List (Nat → Int) := (List.range m).map fun (j : Nat) => bk (1 + l + j)
theorem tellB_len (l : Int) (m : Nat) (bk : Int → Nat → Int) : (tellB l m bk).length = m := by unfold tellB; rw [List.length_map, List.length_range]
theorem tellB_get (l : Int) (m : Nat) (bk : Int → Nat → Int) (j : Nat) (h : j < m) : (tellB l m bk)[j]? = some (bk (1 + l + j)) := by
  unfold tellB
  rw [List.getElem?_map, List.getElem?_range h]
  rfl
theorem tellB_set (l : Int) (m : Nat) (bk : Int → Nat → Int) (an : Nat) (f : Nat → Int) : (tellB l m bk).set an f = tellB l m (fun j => if j = 1 + l + (an : Int) then f else bk j) := by
  refine List.ext_getElem? fun j => ?_
  by_cases hj : j < m
  · rw [List.getElem?_set, tellB_get _ _ _ _ hj, tellB_get _ _ _ _ hj, tellB_len]
    by_cases e : an = j
    · subst e
      rw [if_pos rfl, if_pos hj, if_pos rfl]
    · rw [if_neg e, if_neg (by omega)]
  · rw [List.getElem?_eq_none (by rw [List.length_set, tellB_len]; omega), List.getElem?_eq_none (by rw [tellB_len]; omega)]
/-- Which block a change writes. -/
def atC (l : Int) (m : Nat) (c : Int × Int) : Int := 1 + l + c.1 % (m : Int)
/-- The writes of a step: the log, and the book. -/
def wrsX (l : Int) (m : Nat) (x : LSt) (cs : List (Int × Int)) : LSt := cs.foldl (fun x c => wrX x (atC l m c)) x
def wrsB (l : Int) (m : Nat) (bk : Int → Nat → Int) (cs : List (Int × Int)) : Int → Nat → Int := cs.foldl (fun bk c j => if j = atC l m c then blkF c.2 else bk j) bk
theorem wrsX_snoc (l : Int) (m : Nat) (x : LSt) (cs : List (Int × Int)) (c : Int × Int) : wrsX l m x (cs ++ [c]) = wrX (wrsX l m x cs) (atC l m c) := by
  unfold wrsX
  rw [List.foldl_append]
  rfl
theorem wrsB_snoc (l : Int) (m : Nat) (bk : Int → Nat → Int) (cs : List (Int × Int)) (c : Int × Int) : wrsB l m bk (cs ++ [c]) = fun j => if j = atC l m c then blkF c.2 else wrsB l m bk cs j := by
  unfold wrsB
  rw [List.foldl_append]
  rfl
theorem wrsX_same (l : Int) (m : Nat) : ∀ (cs : List (Int × Int)) (x : LSt), (wrsX l m x cs).b = x.b ∧ (wrsX l m x cs).l = x.l ∧ (wrsX l m x cs).i = x.i ∧ (wrsX l m x cs).claim = x.claim ∧ (wrsX l m x cs).opn = x.opn ∧ (wrsX l m x cs).steps = x.steps ∧ (wrsX l m x cs).commits = x.commits ∧ x.room - cs.length ≤ (wrsX l m x cs).room
  | [], x => ⟨rfl, rfl, rfl, rfl, rfl, rfl, rfl, by show x.room - ((0 : Nat) : Int) ≤ x.room; omega⟩
  | c :: r, x => by
    obtain ⟨a1, a2, a3, a4, a5, a6, a7, a8⟩ := wrX_same x (atC l m c)
    obtain ⟨b1, b2, b3, b4, b5, b6, b7, b8⟩ := wrsX_same l m r (wrX x (atC l m c))
    refine ⟨b1.trans a1, b2.trans a2, b3.trans a3, b4.trans a4, b5.trans a5, b6.trans a6, b7.trans a7, ?_⟩
    show x.room - ((r.length + 1 : Nat) : Int) ≤ (wrsX l m (wrX x (atC l m c)) r).room
    omega
theorem atC_in {l b : Int} {m : Nat} (hm : b - (1 + l) = (m : Int)) (h0 : 0 < m) (c : Int × Int) : 1 + l ≤ atC l m c ∧ atC l m c < b := by
  unfold atC
  have h1 := Int.emod_nonneg c.1 (show (m : Int) ≠ 0 by omega)
  have h2 := Int.emod_lt_of_pos c.1 (show (0 : Int) < m by omega)
  omega
/-- What is told behind a step is what the book says behind its writes. -/
theorem next_tell (l : Int) (m : Nat) (h0 : 0 < m) : ∀ (cs : List (Int × Int)) (bk : Int → Nat → Int), nextL (tellB l m bk) cs = tellB l m (wrsB l m bk cs)
  | [], _ => rfl
  | c :: r, bk => by
    have h1 := Int.emod_nonneg c.1 (show (m : Int) ≠ 0 by omega)
    show nextL ((tellB l m bk).set (c.1 % ((tellB l m bk).length : Int)).toNat (blkF c.2)) r = tellB l m (wrsB l m (fun j => if j = atC l m c then blkF c.2 else bk j) r)
    rw [tellB_len, tellB_set, next_tell l m h0 r, show ((c.1 % (m : Int)).toNat : Int) = c.1 % (m : Int) by omega]
    rfl
theorem behL_tell (l : Int) (m : Nat) (t : St) : behL l m t = tellB l m (curV t) := rfl
end Go.Proofs.Ytahaiciciljijaa
/- A story as it begins: one list is told; a row beside it is written over; no condition. -/
namespace Go.Proofs.Ytahaiciciljijaa
open Go.RowKit Go.Maps
section
variable {w W W' : World} {d q : Nat} {C : World → St → List (Nat × Obj) → Prop} {t : St} {vT : Value} {vs : List Value} {fss : List (List (Nat → Int))} {lst last : Int} {ok : Bool} {oT ks : List (Nat × Obj)}
/-- A story begins. -/
theorem SX.start (hC : Ctx w d C) {v : Value} {fs : List (Nat → Int)} (h : CB w C W t v fs ks) (ok : Bool) :
    ∃ ks', (∀ p ∈ ks, p ∈ ks') ∧ SX w C ((W.alloc (.cells #[v] 69)).alloc (.cells (stRow (.slice (some ⟨W.heap.size, 0, none⟩) 1 1) 0 0 ok) 63)) t (W.heap.size + 1) (.slice (some ⟨W.heap.size, 0, none⟩) 1 1) [v] [fs] 0 0 ok [(W.heap.size, .cells #[v] 69)] ks' := by
  obtain ⟨own, h1, h2, _⟩ := h
  have hW := (hC.below h1).size
  have hA := hC.add (hC.add h1 (.cells #[v] 69)) (.cells (stRow (.slice (some ⟨W.heap.size, 0, none⟩) 1 1) 0 0 ok) 63)
  have ea : (W.alloc (.cells #[v] 69)).heap.size = W.heap.size + 1 := by simp only [World.alloc, Array.size_push]
  have hlt : ∀ p ∈ own ++ ks, p.1 < W.heap.size := fun p hp => (Array.getElem?_eq_some_iff.1 (hC.obj h1 (q := p.1) (o := p.2) hp)).1
  rw [ea] at hA
  refine ⟨own ++ ks, fun p hp => List.mem_append.2 (.inr hp), hC.drop hA fun p hp => ?_, ⟨fun u hu => ⟨rfl, .inr ⟨W.heap.size, 1, #[v], rfl, hW, hu _ (List.mem_cons_self ..), Nat.le_refl _, by unfold maxLen; omega, rfl, rfl⟩⟩, fun k e => ?_, fun p hp => ?_⟩, ⟨rfl, fun j u gs hj hg => ?_⟩, fun p hp e => ?_, fun e => ?_, by omega, fun p hp e => ?_⟩
  · rcases List.mem_append.1 hp with hp | hp
    · rcases List.mem_cons.1 hp with rfl | hp
      · exact List.mem_cons_of_mem _ (List.mem_cons_self ..)
      · cases hp
    · rcases List.mem_cons.1 hp with rfl | hp
      · exact List.mem_cons_self ..
      · exact List.mem_cons_of_mem _ (List.mem_cons_of_mem _ hp)
  · cases e
    exact ⟨_, List.mem_cons_self ..⟩
  · rcases List.mem_cons.1 hp with rfl | hp
    · rfl
    · cases hp
  · cases j with
    | zero =>
      cases hj
      cases hg
      exact ⟨own, fun p hp => List.mem_append.2 (.inl hp), h2⟩
    | succ j => cases hj
  · have := hlt p hp
    injection e with e
    dsimp only at e
    omega
  · injection e with e
    dsimp only at e
    omega
  · have := hlt p hp
    omega
/-- A row beside a story is written over. -/
theorem SX.side (hC : Ctx w d C) (h : SX w C W t q vT vs fss lst last ok oT ks) {r : Nat} {cs : Array Value} {ty : TypeId} (cs' : Array Value) (hr : (r, .cells cs ty) ∈ ks) (hn : w.heap.size ≤ r) (hu : ∀ v ∈ vs, v.ownBlock ≠ some r) :
    ∃ ks', (∀ p ∈ ks, p.1 ≠ r → p ∈ ks') ∧ SX w C (W.setRow r cs') t q vT vs fss lst last ok oT ks' := by
  have hmem : ∀ p : Nat × Obj, p ∈ ks.filter (fun p => decide (p.1 ≠ r)) → p ∈ ks ∧ p.1 ≠ r := fun p hp => by
    rw [List.mem_filter] at hp
    exact ⟨hp.1, of_decide_eq_true hp.2⟩
  have hmem' : ∀ p ∈ ks, p.1 ≠ r → p ∈ ks.filter (fun p => decide (p.1 ≠ r)) := fun p hp e => List.mem_filter.2 ⟨hp, decide_eq_true e⟩
  refine ⟨_, hmem', ?_, h.list, ⟨h.told.1, fun j v fs hj hf => ?_⟩, fun p hp => h.ap p (hmem p hp).1, h.apq, h.new, fun p hp => h.ne p (hmem p hp).1⟩
  · refine hC.side (T := fun k => k = r) h.c (Fr.setRow W r _) (fun k e => by subst e; exact ⟨hn, _, List.mem_append.2 (.inr (List.mem_cons_of_mem _ hr))⟩) fun p hp => ?_
    have hkeep : ∀ p : Nat × Obj, p ∈ oT ++ ((q, .cells (stRow vT lst last ok) 63) :: ks) → p.1 ≠ r → (W.setRow r cs').heap[p.1]? = some p.2 ∧ ((∃ o, (p.1, o) ∈ oT ++ ((q, .cells (stRow vT lst last ok) 63) :: ks)) ∨ W.heap.size ≤ p.1) := fun p hp e => by
      have h1 := hC.obj h.c (q := p.1) (o := p.2) hp
      exact ⟨((Fr.setRow W r _).block p.1 (Array.getElem?_eq_some_iff.1 h1).1 e).trans h1, .inl ⟨p.2, hp⟩⟩
    rcases List.mem_append.1 hp with hp | hp
    · exact hkeep p (List.mem_append.2 (.inl hp)) fun e => h.ap _ hr (by rw [h.list.2.2 p hp, e])
    · rcases List.mem_cons.1 hp with rfl | hp
      · exact hkeep _ (List.mem_append.2 (.inr (List.mem_cons_self ..))) fun e => h.ne _ hr e.symm
      · exact hkeep p (List.mem_append.2 (.inr (List.mem_cons_of_mem _ (hmem p hp).1))) (hmem p hp).2
  · obtain ⟨own, h1, h2⟩ := h.told.2 j v fs hj hf
    exact ⟨own, fun p hp => hmem' p (h1 p hp) fun e => hu v (List.mem_of_getElem? hj) (by rw [h2.2.2 p hp, e]), h2⟩
end
end Go.Proofs.Ytahaiciciljijaa
