import Derived.Test.YtencclpcebpgmaaDisks2
/- What is put is read, and stays off the disk: what holds of a cache and its disk behind any steps, told by books; no condition. -/
namespace Go.Proofs.Ytencclpcebpgmaa
open Go.RowKit Go.Maps

/-- The books agree with the cache and the disk. -/
structure TR (s : CSt) (t : St) (book out : Int → Int) (fast : Int → Bool) (writes : Int) : Prop where
  n : t.n = 16
  run : t.stopped = false ∧ t.fuse = -1
  made : t.made = writes
  ok : COk s
  cur : ∀ k, 0 ≤ k ∧ k < 16 → curV t k = fillF (out k)
  row : ∀ h ∈ s.row, (0 ≤ h.pos ∧ h.pos < 16) ∧ h.dat = fillF (book h.pos) ∧ h.fast = fast h.pos
  held : ∀ k, 0 ≤ k ∧ k < 16 → fast k = true → ∃ h ∈ s.row, h.pos = k
  same : ∀ k, 0 ≤ k ∧ k < 16 → fast k = false → book k = out k
variable {s : CSt} {t : St} {book out : Int → Int} {fast : Int → Bool} {writes : Int} {k : Int}
theorem TR.ref (h : TR s t book out fast writes) (hk : 0 ≤ k ∧ k < 16) : refV t k = 0 := by
  unfold refV
  rw [h.run.1, h.n, if_neg (by simp), if_pos hk]
theorem atR_mem {r : List Hld} {x : Hld} (h : atR r k = some x) : x ∈ r ∧ x.pos = k := ⟨List.mem_of_find?_eq_some h, by have := List.find?_some h; simpa using this⟩
theorem atR_not {r : List Hld} (h : atR r k = none) : ∀ x ∈ r, x.pos ≠ k := fun x hx e => by
  have := List.find?_eq_none.1 h x hx
  exact this (by simp [e])
/-- A refusal comes just where all are held fast, and the block is none of them. -/
theorem TR.full (h : TR s t book out fast writes) (hk : 0 ≤ k ∧ k < 16) : usedE s t k = if (fastN s.row : Int) = s.size ∧ fast k = false then 160 else 0 := by
  unfold usedE
  rw [h.ref hk, if_neg (by simp)]
  have hle := fastN_le s.row
  have hlen := h.ok.len
  by_cases hf : (fastN s.row : Int) = s.size
  · have hall : ∀ x ∈ s.row, x.fast = true := by
      have : s.row.countP (·.fast) = s.row.length := by
        have : fastN s.row = s.row.length := by omega
        exact this
      exact List.countP_eq_length.1 this
    cases ha : atR s.row k with
    | none =>
      have hn : fast k = false := by
        cases hq : fast k
        · rfl
        · obtain ⟨x, hx, e⟩ := h.held k hk hq
          exact absurd e (atR_not ha x hx)
      rw [if_pos ⟨rfl, hf⟩, if_pos ⟨hf, hn⟩]
    | some x =>
      obtain ⟨hx, e⟩ := atR_mem ha
      have h1 := hall x hx
      rw [(h.row x hx).2.2, e] at h1
      rw [if_neg (by simp), if_neg (by simp [h1])]
  · rw [if_neg fun q => hf q.2, if_neg fun q => hf q.1]
theorem TR.reads (h : TR s t book out fast writes) (hk : 0 ≤ k ∧ k < 16) (hu : usedE s t k = 0) : rdB s t k = fillF (book k) := by
  unfold rdB
  rw [if_pos hu]
  cases ha : atR s.row k with
  | some x =>
    obtain ⟨hx, e⟩ := atR_mem ha
    simp only
    rw [(h.row x hx).2.1, e]
  | none =>
    simp only
    have hn : fast k = false := by
      cases hq : fast k
      · rfl
      · obtain ⟨x, hx, e⟩ := h.held k hk hq
        exact absurd e (atR_not ha x hx)
    rw [h.cur k hk, h.same k hk hn]
theorem mem_gone {r : List Hld} {x : Hld} (hx : x ∈ r) (hn : x.pos ≠ k) : x ∈ goneR r k := List.mem_eraseP_of_neg (by simp [hn]) |>.2 hx
theorem fast_gone {r : List Hld} {x : Hld} (h : atR r k = some x) : fastN r = fastN (goneR r k) + (if x.fast then 1 else 0) := by
  induction r with
  | nil => simp [atR] at h
  | cons a l ih =>
    unfold atR at h
    rw [List.find?_cons] at h
    cases hp : a.pos == k with
    | true =>
      rw [hp] at h
      injection h with h
      subst h
      unfold goneR fastN
      rw [List.eraseP_cons_of_pos (by exact hp), List.countP_cons]
    | false =>
      rw [hp] at h
      have := ih h
      unfold goneR fastN at this ⊢
      rw [List.eraseP_cons_of_neg (by simp [hp]), List.countP_cons, List.countP_cons]
      omega
theorem fast_erase : ∀ r : List Hld, fastN (r.eraseP (fun h => !h.fast)) = fastN r
  | [] => rfl
  | a :: l => by
    have ih := fast_erase l
    unfold fastN at ih ⊢
    cases ha : a.fast
    · rw [List.eraseP_cons_of_pos (by simp [ha]), List.countP_cons]
      simp [ha]
    · rw [List.eraseP_cons_of_neg (by simp [ha]), List.countP_cons, List.countP_cons]
      omega
theorem fast_place (n : Int) (r : List Hld) : fastN (placeR n r) = fastN r := by
  unfold placeR
  split
  · rfl
  · exact fast_erase r
theorem place_keeps {n : Int} {r : List Hld} {x : Hld} (hx : x ∈ r) (hf : x.fast = true) : x ∈ placeR n r := by
  unfold placeR
  split
  · exact hx
  · exact (List.mem_eraseP_of_neg (by simp [hf])).2 hx
theorem mem_place {n : Int} {r : List Hld} {x : Hld} (hx : x ∈ placeR n r) : x ∈ r := (placeR_sub n r).subset hx
theorem gone_mem {r : List Hld} {x : Hld} (hx : x ∈ goneR r k) : x ∈ r := List.eraseP_subset hx
/-- A read that is answered. -/
theorem TR.read (h : TR s t book out fast writes) (hk : 0 ≤ k ∧ k < 16) (hu : usedE s t k = 0) (hok : COk (rdC s t k)) : TR (rdC s t k) (rdD s t k) book out fast writes ∧ fastN (rdC s t k).row = fastN s.row ∧ (rdC s t k).size = s.size := by
  have hD : (rdD s t k).n = 16 ∧ ((rdD s t k).stopped = false ∧ (rdD s t k).fuse = -1) ∧ (rdD s t k).made = writes ∧ ∀ j, 0 ≤ j ∧ j < 16 → curV (rdD s t k) j = fillF (out j) := by
    unfold rdD
    rw [if_pos hu]
    cases atR s.row k with
    | some x => exact ⟨h.n, h.run, h.made, h.cur⟩
    | none => exact ⟨h.n, h.run, h.made, h.cur⟩
  have hcd : curV t k = fillF (out k) := h.cur k hk
  unfold rdC at hok ⊢
  rw [if_pos hu] at hok ⊢
  cases ha : atR s.row k with
  | some x =>
    rw [ha] at hok
    simp only at hok ⊢
    obtain ⟨hx, e⟩ := atR_mem ha
    refine ⟨⟨hD.1, hD.2.1, hD.2.2.1, hok, hD.2.2.2, fun y hy => ?_, fun j hj hf => ?_, h.same⟩, ?_, trivial⟩
    · rcases List.mem_append.1 hy with hy | hy
      · exact h.row y (gone_mem hy)
      · obtain rfl : y = x := by simpa using hy
        exact h.row y hx
    · obtain ⟨y, hy, ey⟩ := h.held j hj hf
      by_cases hjk : y.pos = k
      · exact ⟨x, by simp, by rw [e, ← hjk, ey]⟩
      · exact ⟨y, List.mem_append.2 (.inl (mem_gone hy hjk)), ey⟩
    · have := fast_gone ha
      unfold fastN at this ⊢
      rw [List.countP_append, this]
      simp
  | none =>
    rw [ha] at hok
    simp only at hok ⊢
    have hn : fast k = false := by
      cases hq : fast k
      · rfl
      · obtain ⟨x, hx, e⟩ := h.held k hk hq
        exact absurd e (atR_not ha x hx)
    refine ⟨⟨hD.1, hD.2.1, hD.2.2.1, hok, hD.2.2.2, fun y hy => ?_, fun j hj hf => ?_, h.same⟩, ?_, trivial⟩
    · rcases List.mem_append.1 hy with hy | hy
      · exact h.row y (mem_place hy)
      · obtain rfl : y = ⟨k, false, curV t k⟩ := by simpa using hy
        exact ⟨hk, by show curV t k = _; rw [hcd, h.same k hk hn], hn.symm⟩
    · obtain ⟨y, hy, ey⟩ := h.held j hj hf
      have hyf : y.fast = true := by rw [(h.row y hy).2.2, ey]; exact hf
      exact ⟨y, List.mem_append.2 (.inl (place_keeps hy hyf)), ey⟩
    · have := fast_place s.size s.row
      unfold fastN at this ⊢
      rw [List.countP_append, this]
      simp
/-- A put that is answered. -/
theorem TR.put (h : TR s t book out fast writes) (hk : 0 ≤ k ∧ k < 16) (hu : usedE s t k = 0) (x : Int) (hok : COk (putC s t k (fillF x))) :
    TR (putC s t k (fillF x)) t (fun j => if j = k then x else book j) out (fun j => if j = k then true else fast j) writes ∧ (fastN (putC s t k (fillF x)).row : Int) = fastN s.row + (if fast k then 0 else 1) ∧ (putC s t k (fillF x)).size = s.size := by
  unfold putC at hok ⊢
  rw [if_pos hu] at hok ⊢
  have hsame : ∀ j, 0 ≤ j ∧ j < 16 → (if j = k then true else fast j) = false → (if j = k then x else book j) = out j := by
    intro j hj hf
    by_cases e : j = k
    · rw [if_pos e] at hf; cases hf
    · rw [if_neg e] at hf ⊢
      exact h.same j hj hf
  have hnew : ∀ y : Hld, y ∈ s.row → y.pos ≠ k → (0 ≤ y.pos ∧ y.pos < 16) ∧ y.dat = fillF (if y.pos = k then x else book y.pos) ∧ y.fast = (if y.pos = k then true else fast y.pos) := by
    intro y hy hne
    rw [if_neg hne, if_neg hne]
    exact h.row y hy
  unfold useP at hok ⊢
  cases ha : atR s.row k with
  | some z =>
    rw [ha] at hok
    simp only at hok ⊢
    obtain ⟨hz, e⟩ := atR_mem ha
    have hzf : z.fast = fast k := by rw [(h.row z hz).2.2, e]
    have hgn : ∀ y ∈ goneR s.row k, y.pos ≠ k := by
      intro y hy hyk
      have hnd := h.ok.nodup
      obtain ⟨l1, l2, h1, h2⟩ : ∃ l1 l2, s.row = l1 ++ z :: l2 ∧ goneR s.row k = l1 ++ l2 := by
        obtain ⟨a, l1, l2, a1, a2, a3, a4⟩ := List.exists_of_eraseP hz (p := fun h => h.pos == k) (by simp [e])
        have haz : a = z := by
          have hm : a ∈ s.row := by rw [a3]; simp
          exact nodup_map_inj s.row hnd a z hm hz (by have : a.pos = k := by simpa using a2
                                                      rw [this, e])
        subst haz
        exact ⟨l1, l2, a3, a4⟩
      rw [h2] at hy
      rw [h1] at hnd
      have h4 := ((List.perm_middle.map (fun x : Hld => x.pos)).nodup_iff).1 hnd
      rw [List.map_cons, List.nodup_cons] at h4
      exact h4.1 (List.mem_map.2 ⟨y, hy, by rw [hyk, e]⟩)
    refine ⟨⟨h.n, h.run, h.made, hok, h.cur, fun y hy => ?_, fun j hj hf => ?_, hsame⟩, ?_, trivial⟩
    · rcases List.mem_append.1 hy with hy | hy
      · exact hnew y (gone_mem hy) (hgn y hy)
      · obtain rfl : y = ⟨k, true, fillF x⟩ := by simpa using hy
        exact ⟨hk, by simp, by simp⟩
    · by_cases ej : j = k
      · exact ⟨⟨k, true, fillF x⟩, by simp, ej.symm⟩
      · rw [if_neg ej] at hf
        obtain ⟨y, hy, ey⟩ := h.held j hj hf
        exact ⟨y, List.mem_append.2 (.inl (mem_gone hy (by rw [ey]; exact ej))), ey⟩
    · have := fast_gone ha
      rw [hzf] at this
      unfold fastN at this ⊢
      rw [List.countP_append, this]
      cases fast k <;> simp
  | none =>
    rw [ha] at hok
    simp only at hok ⊢
    have hno := atR_not ha
    have hn : fast k = false := by
      cases hq : fast k
      · rfl
      · obtain ⟨z, hz, e⟩ := h.held k hk hq
        exact absurd e (hno z hz)
    refine ⟨⟨h.n, h.run, h.made, hok, h.cur, fun y hy => ?_, fun j hj hf => ?_, hsame⟩, ?_, trivial⟩
    · rcases List.mem_append.1 hy with hy | hy
      · exact hnew y (mem_place hy) (hno y (mem_place hy))
      · obtain rfl : y = ⟨k, true, fillF x⟩ := by simpa using hy
        exact ⟨hk, by simp, by simp⟩
    · by_cases ej : j = k
      · exact ⟨⟨k, true, fillF x⟩, by simp, ej.symm⟩
      · rw [if_neg ej] at hf
        obtain ⟨y, hy, ey⟩ := h.held j hj hf
        have hyf : y.fast = true := by rw [(h.row y hy).2.2, ey]; exact hf
        exact ⟨y, List.mem_append.2 (.inl (place_keeps hy hyf)), ey⟩
    · have := fast_place s.size s.row
      unfold fastN at this ⊢
      rw [List.countP_append, this, hn]
      simp
theorem lastAt_put (l : List Cel) (j : Int) (f : Nat → Int) : lastAt (l ++ [(k, f)]) j = if k = j then some l.length else lastAt l j := lastAt_snoc (k, f) j l
theorem cur_write (hr : t.stopped = false ∧ t.fuse = -1) (hk : refV t k = 0) (f : Nat → Int) (j : Int) : curV (writeV t k f) j = if k = j then f else curV t j := by
  have hl : lets t = true := by unfold lets; rw [hr.2]; rfl
  unfold writeV
  rw [if_pos hk, hl, if_pos rfl]
  have hw : (writeS t k f).wait = t.wait ++ [(k, f)] := rfl
  have hh : (writeS t k f).held = t.held := letV_held t
  by_cases e : k = j
  · rw [if_pos e, curV_wait (i := t.wait.length) (c := (k, f)) (by rw [hw, lastAt_put, if_pos e]) (by rw [hw]; simp)]
  · rw [if_neg e]
    have hla : lastAt (writeS t k f).wait j = lastAt t.wait j := by rw [hw, lastAt_put, if_neg e]
    cases hq : lastAt t.wait j with
    | some i =>
      obtain ⟨c, hc, _⟩ := lastAt_spec j _ i hq
      have hi := (List.getElem?_eq_some_iff.1 hc).1
      rw [curV_wait (hla.trans hq) (c := c) (by rw [hw, List.getElem?_append_left hi]; exact hc), curV_wait hq hc]
    | none => rw [curV_held (hla.trans hq), curV_held hq, hh]
theorem fast_unfast {r : List Hld} {z : Hld} (hnd : (r.map (·.pos)).Nodup) (hz : z ∈ r) (e : z.pos = k) (hf : z.fast = true) : (fastN (unfast r k) : Int) = fastN r - 1 := by
  induction r with
  | nil => simp at hz
  | cons a l ih =>
    rw [List.map_cons, List.nodup_cons] at hnd
    unfold unfast fastN
    rw [List.map_cons, List.countP_cons, List.countP_cons]
    by_cases ha : a.pos = k
    · have hza : z = a := by
        rcases List.mem_cons.1 hz with h | h
        · exact h
        · exact absurd (List.mem_map.2 ⟨z, h, by rw [e, ha]⟩) hnd.1
      subst hza
      have hl : l.map (fun x : Hld => if x.pos = k then (⟨x.pos, false, x.dat⟩ : Hld) else x) = l := by
        have : ∀ x ∈ l, (if x.pos = k then (⟨x.pos, false, x.dat⟩ : Hld) else x) = x := fun x hx => by
          rw [if_neg fun q => hnd.1 (List.mem_map.2 ⟨x, hx, by rw [q, ha]⟩)]
        rw [List.map_congr_left this]
        exact List.map_id' _
      rw [hl, if_pos ha, hf]
      simp
    · have hz' : z ∈ l := by
        rcases List.mem_cons.1 hz with h | h
        · exact absurd (h ▸ e) ha
        · exact h
      have := ih hnd.2 hz'
      unfold unfast fastN at this
      rw [if_neg ha]
      omega
/-- A flush. -/
theorem TR.flush (h : TR s t book out fast writes) (hk : 0 ≤ k ∧ k < 16) (hok : COk (flushC s t k)) :
    flushE s t k = 0 ∧ TR (flushC s t k) (flushD s t k) book (fun j => if j = k ∧ fast k = true then book k else out j) (fun j => if j = k then false else fast j) (writes + if fast k then 1 else 0) ∧
      (fastN (flushC s t k).row : Int) = fastN s.row - (if fast k then 1 else 0) ∧ (flushC s t k).size = s.size := by
  have hr := h.ref hk
  have hl : lets t = true := by unfold lets; rw [h.run.2]; rfl
  have hwE : writeE t k = 0 := by unfold writeE; rw [if_pos hr, hl, if_pos rfl]
  unfold flushE flushC flushD at *
  rw [if_pos hr] at hok ⊢
  rw [if_pos hr, if_pos hr]
  cases ha : atR s.row k with
  | none =>
    have hno := atR_not ha
    have hn : fast k = false := by
      cases hq : fast k
      · rfl
      · obtain ⟨z, hz, e⟩ := h.held k hk hq
        exact absurd e (hno z hz)
    simp only [hn]
    refine ⟨trivial, ⟨h.n, h.run, by simpa using h.made, h.ok, fun j hj => by simpa using h.cur j hj, fun y hy => ?_, fun j hj hf => ?_, fun j hj hf => ?_⟩, by simp, trivial⟩
    · obtain ⟨a1, a2, a3⟩ := h.row y hy
      exact ⟨a1, a2, by rw [if_neg (hno y hy)]; exact a3⟩
    · by_cases e : j = k
      · rw [if_pos e] at hf; cases hf
      · rw [if_neg e] at hf; exact h.held j hj hf
    · by_cases e : j = k
      · subst e; simpa using h.same j hj hn
      · rw [if_neg e] at hf; simpa using h.same j hj hf
  | some z =>
    obtain ⟨hz, e⟩ := atR_mem ha
    obtain ⟨z1, z2, z3⟩ := h.row z hz
    rw [e] at z2 z3
    rw [ha] at hok
    cases hf : fast k with
    | false =>
      rw [hf] at z3
      simp only [z3] at hok ⊢
      refine ⟨by simp, ⟨by simpa using h.n, by simpa using h.run, by simpa using h.made, by simpa using h.ok, fun j hj => by simpa using h.cur j hj, fun y hy => ?_, fun j hj hg => ?_, fun j hj hg => ?_⟩, by simp, by simp⟩
      · have hy' : y ∈ s.row := by simpa using hy
        obtain ⟨a1, a2, a3⟩ := h.row y hy'
        refine ⟨a1, a2, ?_⟩
        by_cases ey : y.pos = k
        · rw [if_pos ey, a3, ey, hf]
        · rw [if_neg ey]; exact a3
      · by_cases ej : j = k
        · rw [if_pos ej] at hg; cases hg
        · rw [if_neg ej] at hg; simpa using h.held j hj hg
      · by_cases ej : j = k
        · subst ej; simpa using h.same j hj hf
        · rw [if_neg ej] at hg; simpa using h.same j hj hg
    | true =>
      rw [hf] at z3
      simp only [z3, hwE, and_self, if_true] at hok ⊢
      have hcw := cur_write h.run hr z.dat
      have hwn : (writeV t k z.dat).n = 16 ∧ ((writeV t k z.dat).stopped = false ∧ (writeV t k z.dat).fuse = -1) ∧ (writeV t k z.dat).made = writes + 1 := by
        unfold writeV
        rw [if_pos hr, hl, if_pos rfl]
        have e1 : letV t = { t with fuse := -1, made := t.made + 1 } := by
          unfold letV
          rw [h.run.2, if_neg (by omega), if_pos rfl]
        unfold writeS
        rw [e1]
        exact ⟨h.n, ⟨h.run.1, rfl⟩, by show t.made + 1 = _; rw [h.made]⟩
      refine ⟨trivial, ⟨hwn.1, hwn.2.1, hwn.2.2, hok, fun j hj => ?_, fun y hy => ?_, fun j hj hg => ?_, fun j hj hg => ?_⟩, fast_unfast h.ok.nodup hz e z3, trivial⟩
      · rw [hcw j]
        by_cases ej : k = j
        · subst ej
          rw [if_pos rfl, z2]
          simp
        · rw [if_neg ej, h.cur j hj]
          have : ¬ j = k := fun q => ej q.symm
          simp [this]
      · obtain ⟨y', hy', rfl⟩ := List.mem_map.1 hy
        obtain ⟨a1, a2, a3⟩ := h.row y' hy'
        by_cases ey : y'.pos = k
        · rw [if_pos ey]
          exact ⟨a1, a2, by show false = _; rw [if_pos ey]⟩
        · rw [if_neg ey]
          exact ⟨a1, a2, by rw [if_neg ey]; exact a3⟩
      · by_cases ej : j = k
        · rw [if_pos ej] at hg; cases hg
        · rw [if_neg ej] at hg
          obtain ⟨y, hy, ey⟩ := h.held j hj hg
          refine ⟨y, List.mem_map.2 ⟨y, hy, ?_⟩, ey⟩
          rw [if_neg (by rw [ey]; exact ej)]
      · by_cases ej : j = k
        · subst ej; simp
        · rw [if_neg ej] at hg
          simpa [ej] using h.same j hj hg
end Go.Proofs.Ytencclpcebpgmaa
/- The books at the start: a disk filled by numbers, a cache that holds nothing; no condition. -/
namespace Go.Proofs.Ytencclpcebpgmaa
open Go.RowKit Go.Maps

theorem holdV_get (s : St) (k : Int) {f : Nat → Int} (hf : Can f) (j : Int) : ((holdV s k f).held j).getD nought = if j = k then f else (s.held j).getD nought := by
  show (if j = k then (if blankB f then none else some f) else s.held j).getD nought = _
  by_cases e : j = k
  · rw [if_pos e, if_pos e]
    cases hb : blankB f
    · rfl
    · rw [hf.blank.1 hb]; rfl
  · rw [if_neg e, if_neg e]
/-- What an image of numbers loads as. -/
theorem img_held (xs : Nat → Int) (hx : ∀ i, 0 ≤ xs i ∧ xs i < 65536) (s : St) (hs : ∀ j, s.held j = none) (j : Int) : ∀ n : Nat, ((holdAll s (imgL xs n)).held j).getD nought = if 0 ≤ j ∧ j < n then fillF (xs j.toNat) else nought
  | 0 => by
    show (s.held j).getD nought = _
    rw [hs j, if_neg (by omega)]
    rfl
  | n + 1 => by
    have ih := img_held xs hx s hs j n
    unfold imgL
    have hc := fill_can (xs n) (hx n)
    cases hb : sameB (fillF (xs n)) nought with
    | true =>
      rw [if_pos rfl, ih]
      by_cases e : j = n
      · subst e
        rw [if_neg (by omega), if_pos (by omega), Int.toNat_natCast]
        exact (hc.blank.1 hb).symm
      · by_cases h : 0 ≤ j ∧ j < n
        · rw [if_pos h, if_pos (by omega)]
        · rw [if_neg h, if_neg (by omega)]
    | false =>
      rw [if_neg (by simp), holdAll_snoc, holdV_get _ _ hc, ih]
      by_cases e : j = n
      · rw [if_pos e, if_pos (by omega), e, Int.toNat_natCast]
      · rw [if_neg e]
        by_cases h : 0 ≤ j ∧ j < n
        · rw [if_pos h, if_pos (by omega)]
        · rw [if_neg h, if_neg (by omega)]
theorem TR.start (xs : Nat → Int) (hx : ∀ i, 0 ≤ xs i ∧ xs i < 65536) {size : Int} (hs : 1 ≤ size ∧ size ≤ 4096) : TR (newC size) (loadV 16 (imgL xs 16)) (fun k => xs k.toNat) (fun k => xs k.toNat) (fun _ => false) 0 := by
  obtain ⟨h, e⟩ := holdAll_same (imgL xs 16) (newV 16)
  have hL : loadV 16 (imgL xs 16) = { newV 16 with held := h } := e
  refine ⟨by rw [hL]; rfl, by rw [hL]; exact ⟨rfl, rfl⟩, by rw [hL]; rfl, ⟨hs, by simp [newC]; omega, by simp [newC], by simp [newC]⟩, fun k hk => ?_, by simp [newC], (fun k _ hf => by cases hf), fun _ _ _ => rfl⟩
  have hw : (loadV 16 (imgL xs 16)).wait = [] := by rw [hL]; rfl
  rw [curV_held (by rw [hw]; rfl)]
  unfold loadV
  rw [img_held xs hx (newV 16) (fun _ => rfl) k 16, if_pos (by omega)]
end Go.Proofs.Ytencclpcebpgmaa
