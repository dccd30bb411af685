/- The plain side of a log: what its cache holds and what the disk has, told by a book; what reads, puts, flushes, writes and barriers make of it; no condition. -/
import Derived.Test.YtglcliokhlafoaaSit
namespace Go.Proofs.Ytglcliokhlafoaa
open Go.RowKit Go.Maps

/-- A block of the layout that is none of the log's own. -/
def Dat (b l k : Int) : Prop := (0 ≤ k ∧ k < b) ∧ ¬ (1 ≤ k ∧ k < 1 + l)
/-- The book agrees with the cache and the disk; F: what is held fast. -/
structure CInv (b l : Int) (s : CSt) (t : St) (book : Int → Nat → Int) (F : Int → Bool) : Prop where
  n : b ≤ t.n
  ok : COk s
  size : s.size = l
  row : ∀ h ∈ s.row, Dat b l h.pos ∧ h.dat = book h.pos ∧ h.fast = F h.pos
  held : ∀ k, F k = true → ∃ h ∈ s.row, h.pos = k
  same : ∀ k, Dat b l k → F k = false → book k = curV t k
variable {b l : Int} {s : CSt} {t : St} {book : Int → Nat → Int} {F : Int → Bool} {k : Int}
theorem CInv.ref (h : CInv b l s t book F) (hs : t.stopped = false) (hk : Dat b l k) : refV t k = 0 := by
  have := h.n
  obtain ⟨⟨h1, h2⟩, _⟩ := hk
  unfold refV
  rw [hs, if_neg (by simp), if_pos ⟨h1, by omega⟩]
theorem atR_mem {r : List Hld} {x : Hld} (h : atR r k = some x) : x ∈ r ∧ x.pos = k := ⟨List.mem_of_find?_eq_some h, by have := List.find?_some h; simpa using this⟩
theorem atR_not {r : List Hld} (h : atR r k = none) : ∀ x ∈ r, x.pos ≠ k := fun x hx e => by
  have := List.find?_eq_none.1 h x hx
  exact this (by simp [e])
theorem CInv.used (h : CInv b l s t book F) (hs : t.stopped = false) (hk : Dat b l k) (hf : (fastN s.row : Int) < l) : usedE s t k = 0 := by
  unfold usedE
  have := h.size
  rw [h.ref hs hk, if_neg (by simp), if_neg fun q => by have := q.2; omega]
theorem CInv.notHeld (h : CInv b l s t book F) (ha : atR s.row k = none) : F k = false := by
  cases hq : F k
  · rfl
  · obtain ⟨x, hx, e⟩ := h.held k hq
    exact absurd e (atR_not ha x hx)
theorem CInv.fastAt (h : CInv b l s t book F) (hF : F k = true) : ∃ x, atR s.row k = some x ∧ x ∈ s.row ∧ x.pos = k ∧ x.fast = true ∧ x.dat = book k := by
  cases ha : atR s.row k with
  | none => rw [h.notHeld ha] at hF; cases hF
  | some x =>
    obtain ⟨hx, e⟩ := atR_mem ha
    obtain ⟨_, h2, h3⟩ := h.row x hx
    exact ⟨x, rfl, hx, e, by rw [h3, e]; exact hF, by rw [h2, e]⟩
theorem CInv.reads (h : CInv b l s t book F) (hk : Dat b l k) (hu : usedE s t k = 0) : rdB s t k = book k := by
  unfold rdB
  rw [if_pos hu]
  cases ha : atR s.row k with
  | some x =>
    obtain ⟨hx, e⟩ := atR_mem ha
    simp only
    rw [(h.row x hx).2.1, e]
  | none =>
    simp only
    exact (h.same k hk (h.notHeld ha)).symm
theorem mem_gone {r : List Hld} {x : Hld} (hx : x ∈ r) (hn : x.pos ≠ k) : x ∈ goneR r k := List.mem_eraseP_of_neg (by simp [hn]) |>.2 hx
theorem fast_gone {r : List Hld} {x : Hld} (h : atR r k = some x) : fastN r = fastN (goneR r k) + (if x.fast then 1 else 0) := by
  induction r with
  | nil => simp [atR] at h
  | cons a l ih =>
    unfold atR at h
    rw [List.find?_cons] at h
    cases hp : a.pos == k with
    | true =>
      rw [hp] at h
      injection h with h
      subst h
      unfold goneR fastN
      rw [List.eraseP_cons_of_pos (by exact hp), List.countP_cons]
    | false =>
      rw [hp] at h
      have := ih h
      unfold goneR fastN at this ⊢
      rw [List.eraseP_cons_of_neg (by simp [hp]), List.countP_cons, List.countP_cons]
      omega
theorem fast_erase : ∀ r : List Hld, fastN (r.eraseP (fun h => !h.fast)) = fastN r
  | [] => rfl
  | a :: l => by
    have ih := fast_erase l
    unfold fastN at ih ⊢
    cases ha : a.fast
    · rw [List.eraseP_cons_of_pos (by simp [ha]), List.countP_cons]
      simp [ha]
    · rw [List.eraseP_cons_of_neg (by simp [ha]), List.countP_cons, List.countP_cons]
      omega
theorem fast_place (n : Int) (r : List Hld) : fastN (placeR n r) = fastN r := by
  unfold placeR
  split
  · rfl
  · exact fast_erase r
theorem place_keeps {n : Int} {r : List Hld} {x : Hld} (hx : x ∈ r) (hf : x.fast = true) : x ∈ placeR n r := by
  unfold placeR
  split
  · exact hx
  · exact (List.mem_eraseP_of_neg (by simp [hf])).2 hx
theorem mem_place {n : Int} {r : List Hld} {x : Hld} (hx : x ∈ placeR n r) : x ∈ r := (placeR_sub n r).subset hx
theorem gone_mem {r : List Hld} {x : Hld} (hx : x ∈ goneR r k) : x ∈ r := List.eraseP_subset hx
theorem curV_readS (t : St) : curV (readS t) = curV t := rfl
/-- A read that is answered. -/
theorem CInv.read (h : CInv b l s t book F) (hk : Dat b l k) (hu : usedE s t k = 0) (hok : COk (rdC s t k)) : CInv b l (rdC s t k) (rdD s t k) book F ∧ fastN (rdC s t k).row = fastN s.row ∧ (F k = true → rdD s t k = t) ∧ (rdD s t k = t ∨ rdD s t k = readS t) := by
  have hD : b ≤ (rdD s t k).n ∧ curV (rdD s t k) = curV t ∧ (F k = true → rdD s t k = t) ∧ (rdD s t k = t ∨ rdD s t k = readS t) := by
    unfold rdD
    rw [if_pos hu]
    cases ha : atR s.row k with
    | some x => exact ⟨h.n, rfl, fun _ => rfl, .inl rfl⟩
    | none => exact ⟨h.n, rfl, fun hF => (by rw [h.notHeld ha] at hF; cases hF), .inr rfl⟩
  refine ⟨?_, ?_, hD.2.2⟩
  · unfold rdC at hok ⊢
    rw [if_pos hu] at hok ⊢
    cases ha : atR s.row k with
    | some x =>
      rw [ha] at hok
      simp only at hok ⊢
      obtain ⟨hx, e⟩ := atR_mem ha
      refine ⟨hD.1, hok, h.size, fun y hy => ?_, fun j hf => ?_, fun j hj hf => by rw [hD.2.1]; exact h.same j hj hf⟩
      · rcases List.mem_append.1 hy with hy | hy
        · exact h.row y (gone_mem hy)
        · obtain rfl : y = x := by simpa using hy
          exact h.row y hx
      · obtain ⟨y, hy, ey⟩ := h.held j hf
        by_cases hjk : y.pos = k
        · exact ⟨x, by simp, by rw [e, ← hjk, ey]⟩
        · exact ⟨y, List.mem_append.2 (.inl (mem_gone hy hjk)), ey⟩
    | none =>
      rw [ha] at hok
      simp only at hok ⊢
      have hn := h.notHeld ha
      refine ⟨hD.1, hok, h.size, fun y hy => ?_, fun j hf => ?_, fun j hj hf => by rw [hD.2.1]; exact h.same j hj hf⟩
      · rcases List.mem_append.1 hy with hy | hy
        · exact h.row y (mem_place hy)
        · obtain rfl : y = ⟨k, false, curV t k⟩ := by simpa using hy
          exact ⟨hk, (h.same k hk hn).symm, hn.symm⟩
      · obtain ⟨y, hy, ey⟩ := h.held j hf
        have hyf : y.fast = true := by rw [(h.row y hy).2.2, ey]; exact hf
        exact ⟨y, List.mem_append.2 (.inl (place_keeps hy hyf)), ey⟩
  · unfold rdC
    rw [if_pos hu]
    cases ha : atR s.row k with
    | some x =>
      have := fast_gone ha
      unfold fastN at this ⊢
      simp only
      rw [List.countP_append, this]
      simp
    | none =>
      have := fast_place s.size s.row
      unfold fastN at this ⊢
      simp only
      rw [List.countP_append, this]
      simp
/-- A put that is answered. -/
theorem CInv.put (h : CInv b l s t book F) (hk : Dat b l k) (hu : usedE s t k = 0) (f : Nat → Int) (hok : COk (putC s t k f)) :
    CInv b l (putC s t k f) t (fun j => if j = k then f else book j) (fun j => if j = k then true else F j) ∧ (fastN (putC s t k f).row : Int) = fastN s.row + (if F k then 0 else 1) := by
  unfold putC at hok ⊢
  rw [if_pos hu] at hok ⊢
  have hsame : ∀ j, Dat b l j → (if j = k then true else F j) = false → (if j = k then f else book j) = curV t j := by
    intro j hj hf
    by_cases e : j = k
    · rw [if_pos e] at hf; cases hf
    · rw [if_neg e] at hf ⊢
      exact h.same j hj hf
  have hnew : ∀ y : Hld, y ∈ s.row → y.pos ≠ k → Dat b l y.pos ∧ y.dat = (if y.pos = k then f else book y.pos) ∧ y.fast = (if y.pos = k then true else F y.pos) := by
    intro y hy hne
    rw [if_neg hne, if_neg hne]
    exact h.row y hy
  unfold useP at hok ⊢
  cases ha : atR s.row k with
  | some z =>
    rw [ha] at hok
    simp only at hok ⊢
    obtain ⟨hz, e⟩ := atR_mem ha
    have hzf : z.fast = F k := by rw [(h.row z hz).2.2, e]
    have hgn : ∀ y ∈ goneR s.row k, y.pos ≠ k := by
      intro y hy hyk
      have hnd := h.ok.nodup
      obtain ⟨l1, l2, h1, h2⟩ : ∃ l1 l2, s.row = l1 ++ z :: l2 ∧ goneR s.row k = l1 ++ l2 := by
        obtain ⟨a, l1, l2, a1, a2, a3, a4⟩ := List.exists_of_eraseP hz (p := fun h => h.pos == k) (by simp [e])
        have haz : a = z := by
          have hm : a ∈ s.row := by rw [a3]; simp
          exact nodup_map_inj s.row hnd a z hm hz (by have : a.pos = k := by simpa using a2
                                                      rw [this, e])
        subst haz
        exact ⟨l1, l2, a3, a4⟩
      rw [h2] at hy
      rw [h1] at hnd
      have h4 := ((List.perm_middle.map (fun x : Hld => x.pos)).nodup_iff).1 hnd
      rw [List.map_cons, List.nodup_cons] at h4
      exact h4.1 (List.mem_map.2 ⟨y, hy, by rw [hyk, e]⟩)
    refine ⟨⟨h.n, hok, h.size, fun y hy => ?_, fun j hf => ?_, hsame⟩, ?_⟩
    · rcases List.mem_append.1 hy with hy | hy
      · exact hnew y (gone_mem hy) (hgn y hy)
      · obtain rfl : y = ⟨k, true, f⟩ := by simpa using hy
        exact ⟨hk, by simp, by simp⟩
    · by_cases ej : j = k
      · exact ⟨⟨k, true, f⟩, by simp, ej.symm⟩
      · rw [if_neg ej] at hf
        obtain ⟨y, hy, ey⟩ := h.held j hf
        exact ⟨y, List.mem_append.2 (.inl (mem_gone hy (by rw [ey]; exact ej))), ey⟩
    · have := fast_gone ha
      rw [hzf] at this
      unfold fastN at this ⊢
      rw [List.countP_append, this]
      cases F k <;> simp
  | none =>
    rw [ha] at hok
    simp only at hok ⊢
    have hno := atR_not ha
    have hn := h.notHeld ha
    refine ⟨⟨h.n, hok, h.size, fun y hy => ?_, fun j hf => ?_, hsame⟩, ?_⟩
    · rcases List.mem_append.1 hy with hy | hy
      · exact hnew y (mem_place hy) (hno y (mem_place hy))
      · obtain rfl : y = ⟨k, true, f⟩ := by simpa using hy
        exact ⟨hk, by simp, by simp⟩
    · by_cases ej : j = k
      · exact ⟨⟨k, true, f⟩, by simp, ej.symm⟩
      · rw [if_neg ej] at hf
        obtain ⟨y, hy, ey⟩ := h.held j hf
        have hyf : y.fast = true := by rw [(h.row y hy).2.2, ey]; exact hf
        exact ⟨y, List.mem_append.2 (.inl (place_keeps hy hyf)), ey⟩
    · have := fast_place s.size s.row
      unfold fastN at this ⊢
      rw [List.countP_append, this, hn]
      simp
theorem lastAt_put (l : List Cel) (j : Int) (f : Nat → Int) : lastAt (l ++ [(k, f)]) j = if k = j then some l.length else lastAt l j := lastAt_snoc (k, f) j l
theorem cur_write (hl : lets t = true) (hk : refV t k = 0) (f : Nat → Int) (j : Int) : curV (writeV t k f) j = if k = j then f else curV t j := by
  unfold writeV
  rw [if_pos hk, hl, if_pos rfl]
  have hw : (writeS t k f).wait = t.wait ++ [(k, f)] := rfl
  have hh : (writeS t k f).held = t.held := letV_held t
  by_cases e : k = j
  · rw [if_pos e, curV_wait (i := t.wait.length) (c := (k, f)) (by rw [hw, lastAt_put, if_pos e]) (by rw [hw]; simp)]
  · rw [if_neg e]
    have hla : lastAt (writeS t k f).wait j = lastAt t.wait j := by rw [hw, lastAt_put, if_neg e]
    cases hq : lastAt t.wait j with
    | some i =>
      obtain ⟨c, hc, _⟩ := lastAt_spec j _ i hq
      have hi := (List.getElem?_eq_some_iff.1 hc).1
      rw [curV_wait (hla.trans hq) (c := c) (by rw [hw, List.getElem?_append_left hi]; exact hc), curV_wait hq hc]
    | none => rw [curV_held (hla.trans hq), curV_held hq, hh]
theorem fast_unfast {r : List Hld} {z : Hld} (hnd : (r.map (·.pos)).Nodup) (hz : z ∈ r) (e : z.pos = k) (hf : z.fast = true) : (fastN (unfast r k) : Int) = fastN r - 1 := by
  induction r with
  | nil => simp at hz
  | cons a l ih =>
    rw [List.map_cons, List.nodup_cons] at hnd
    unfold unfast fastN
    rw [List.map_cons, List.countP_cons, List.countP_cons]
    by_cases ha : a.pos = k
    · have hza : z = a := by
        rcases List.mem_cons.1 hz with h | h
        · exact h
        · exact absurd (List.mem_map.2 ⟨z, h, by rw [e, ha]⟩) hnd.1
      subst hza
      have hl : l.map (fun x : Hld => if x.pos = k then (⟨x.pos, false, x.dat⟩ : Hld) else x) = l := by
        have : ∀ x ∈ l, (if x.pos = k then (⟨x.pos, false, x.dat⟩ : Hld) else x) = x := fun x hx => by
          rw [if_neg fun q => hnd.1 (List.mem_map.2 ⟨x, hx, by rw [q, ha]⟩)]
        rw [List.map_congr_left this]
        exact List.map_id' _
      rw [hl, if_pos ha, hf]
      simp
    · have hz' : z ∈ l := by
        rcases List.mem_cons.1 hz with h | h
        · exact absurd (h ▸ e) ha
        · exact h
      have := ih hnd.2 hz'
      unfold unfast fastN at this
      rw [if_neg ha]
      omega
/-- What is held fast, let go: its write. -/
theorem CInv.flushed (h : CInv b l s t book F) (hs : t.stopped = false) (hk : Dat b l k) (hF : F k = true) : flushE s t k = writeE t k ∧ flushD s t k = writeV t k (book k) := by
  have hr := h.ref hs hk
  obtain ⟨x, ha, _, _, h3, h4⟩ := h.fastAt hF
  unfold flushE flushD
  rw [if_pos hr, if_pos hr, ha]
  simp only [h3, if_true, h4, and_self]
theorem CInv.flush (h : CInv b l s t book F) (hs : t.stopped = false) (hk : Dat b l k) (hF : F k = true) (hl : lets t = true) (hok : COk (flushC s t k)) :
    CInv b l (flushC s t k) (writeV t k (book k)) book (fun j => if j = k then false else F j) ∧ (fastN (flushC s t k).row : Int) = fastN s.row - 1 := by
  have hr := h.ref hs hk
  have hwE : writeE t k = 0 := by unfold writeE; rw [if_pos hr, hl, if_pos rfl]
  obtain ⟨z, ha, hz, e, z3, z2⟩ := h.fastAt hF
  unfold flushC at hok ⊢
  rw [if_pos hr, ha] at hok ⊢
  simp only [z3, hwE, and_self, if_true] at hok ⊢
  have hcw := cur_write hl hr (book k)
  have hwn : (writeV t k (book k)).n = t.n := by
    unfold writeV
    rw [if_pos hr, hl, if_pos rfl]
    exact letV_n t
  refine ⟨⟨by rw [hwn]; exact h.n, hok, h.size, fun y hy => ?_, fun j hg => ?_, fun j hj hg => ?_⟩, fast_unfast h.ok.nodup hz e z3⟩
  · obtain ⟨y', hy', rfl⟩ := List.mem_map.1 hy
    obtain ⟨a1, a2, a3⟩ := h.row y' hy'
    by_cases ey : y'.pos = k
    · rw [if_pos ey]
      exact ⟨a1, a2, by show false = _; rw [if_pos ey]⟩
    · rw [if_neg ey]
      exact ⟨a1, a2, by rw [if_neg ey]; exact a3⟩
  · by_cases ej : j = k
    · rw [if_pos ej] at hg; cases hg
    · rw [if_neg ej] at hg
      obtain ⟨y, hy, ey⟩ := h.held j hg
      refine ⟨y, List.mem_map.2 ⟨y, hy, ?_⟩, ey⟩
      rw [if_neg (by rw [ey]; exact ej)]
  · rw [hcw j]
    by_cases ej : j = k
    · subst ej; rw [if_pos rfl]
    · rw [if_neg ej] at hg
      rw [if_neg fun q => ej q.symm]
      exact h.same j hj hg
/-- The disk alone has turned, and no data with it. -/
theorem CInv.disk {t' : St} (h : CInv b l s t book F) (hn : t'.n = t.n) (hc : ∀ j, Dat b l j → curV t' j = curV t j) : CInv b l s t' book F :=
  ⟨by rw [hn]; exact h.n, h.ok, h.size, h.row, h.held, fun j hj hf => by rw [hc j hj]; exact h.same j hj hf⟩
theorem CInv.new (t : St) (hb : b ≤ t.n) (hl : 1 ≤ l ∧ l ≤ 4096) : CInv b l (newC l) t (curV t) (fun _ => false) := by
  refine ⟨hb, ⟨hl, ?_, fun h hh => ?_, ?_⟩, rfl, fun h hh => ?_, fun k hk => (by cases hk), fun _ _ _ => rfl⟩
  · show (([] : List Hld).length : Int) ≤ l
    simp; omega
  · simp [newC] at hh
  · simp [newC]
  · simp [newC] at hh
/-- The last of writes. -/
def lastV (x : Nat → Int) : List Cel → Int → Nat → Int
  | [], _ => x
  | c :: t, k => lastV (if c.1 = k then c.2 else x) t k
theorem lastV_append {k : Int} : ∀ (l m : List Cel) (x : Nat → Int), lastV x (l ++ m) k = lastV (lastV x l k) m k
  | [], _, _ => rfl
  | c :: t, m, x => by
    show lastV (if c.1 = k then c.2 else x) (t ++ m) k = _
    rw [lastV_append t m]
    rfl
theorem holdV_get (s : St) (k : Int) {f : Nat → Int} (hf : Can f) (j : Int) : ((holdV s k f).held j).getD nought = if j = k then f else (s.held j).getD nought := by
  show (if j = k then (if blankB f then none else some f) else s.held j).getD nought = _
  by_cases e : j = k
  · rw [if_pos e, if_pos e]
    cases hb : blankB f
    · rfl
    · rw [hf.blank.1 hb]; rfl
  · rw [if_neg e, if_neg e]
theorem holdAll_get {k : Int} : ∀ (l : List Cel) (s : St), (∀ c ∈ l, Can c.2) → ((holdAll s l).held k).getD nought = lastV ((s.held k).getD nought) l k
  | [], _, _ => rfl
  | c :: t, s, h => by
    show ((holdAll (holdV s c.1 c.2) t).held k).getD nought = _
    rw [holdAll_get t _ fun c hc => h c (by simp [hc]), holdV_get s c.1 (h c (by simp)) k]
    show _ = lastV (if c.1 = k then c.2 else (s.held k).getD nought) t k
    by_cases e : k = c.1
    · rw [if_pos e, if_pos e.symm]
    · rw [if_neg e, if_neg fun q => e q.symm]
theorem lastAt_last {k : Int} : ∀ (l : List Cel) (x : Nat → Int), (match lastAt l k with | some i => (match l[i]? with | some c => c.2 | none => nought) | none => x) = lastV x l k
  | [], _ => rfl
  | c :: t, x => by
    have ih := lastAt_last (k := k) t (if c.1 = k then c.2 else x)
    unfold lastV
    rw [← ih]
    show (match (match lastAt t k with | some i => some (i + 1) | none => if c.1 = k then some 0 else none) with | some i => (match (c :: t)[i]? with | some c => c.2 | none => nought) | none => x) = _
    cases lastAt t k with
    | some i => rfl
    | none =>
      by_cases e : c.1 = k
      · rw [if_pos e, if_pos e]; rfl
      · rw [if_neg e, if_neg e]
theorem curV_last (s : St) (k : Int) : curV s k = lastV ((s.held k).getD nought) s.wait k := by
  rw [← lastAt_last]
  rfl
theorem cur_bar (ok : Ok t) (j : Int) : curV (barS t) j = curV t j := by
  have h1 : (barS t).held = (holdAll (letV t) t.wait).held := rfl
  rw [curV_last, curV_last, show (barS t).wait = [] from rfl, h1]
  show ((holdAll (letV t) t.wait).held j).getD nought = _
  rw [holdAll_get t.wait (letV t) fun c hc => (ok.wait c hc).2, letV_held]
end Go.Proofs.Ytglcliokhlafoaa
