/- What a disk and the law's own book of it have to do with each other, write by write; no condition. -/
import Derived.Test.YtembocfghkmieaaHas
namespace Go.Proofs.Ytembocfghkmieaa
open Go.RowKit

/-- hs are the blocks that s holds. -/
def Rel (s : St) (hs : List (Nat → Int)) : Prop := (hs.length : Int) = s.n ∧ ∀ k : Nat, k < hs.length → hs[k]? = some ((s.held k).getD nought)
theorem Rel.same {s s' : St} {hs : List (Nat → Int)} (h : Rel s hs) (h1 : s'.n = s.n) (h2 : s'.held = s.held) : Rel s' hs := by
  unfold Rel
  rw [h1, h2]
  exact h
theorem holdV_get (s : St) (k : Int) {f : Nat → Int} (hf : Can f) (j : Int) : ((holdV s k f).held j).getD nought = if j = k then f else (s.held j).getD nought := by
  show (if j = k then (if blankB f then none else some f) else s.held j).getD nought = _
  by_cases e : j = k
  · rw [if_pos e, if_pos e]
    cases hb : blankB f
    · rfl
    · rw [hf.blank.1 hb]; rfl
  · rw [if_neg e, if_neg e]
theorem Rel.hold {s : St} {hs : List (Nat → Int)} (h : Rel s hs) {c : Cel} (hc : 0 ≤ c.1 ∧ c.1 < s.n) (hf : Can c.2) : Rel (holdV s c.1 c.2) (hs.set c.1.toNat c.2) := by
  refine ⟨by rw [List.length_set]; exact h.1, fun k hk => ?_⟩
  rw [List.length_set] at hk
  rw [holdV_get s c.1 hf, List.getElem?_set]
  have h1 := h.1
  by_cases e : (k : Int) = c.1
  · rw [if_pos (by omega), if_pos (by omega), if_pos e]
  · rw [if_neg (by omega), if_neg e]
    exact h.2 k hk
theorem rel_new (n : Nat) : Rel (newV n) (List.replicate n nought) := by
  refine ⟨by rw [List.length_replicate]; rfl, fun k hk => ?_⟩
  rw [List.length_replicate] at hk
  rw [List.getElem?_replicate, if_pos hk]
  rfl
/-- A disk behind i writes and barriers under a fuse. -/
structure Left (s : St) (blocks fuse : Int) (i : Nat) : Prop where
  n : s.n = blocks
  live : s.stopped = false → (fuse < 0 → s.fuse = -1) ∧ (0 ≤ fuse → s.fuse = fuse - i ∧ (i : Int) ≤ fuse)
  ops : s.ops.length ≤ i
  made : s.made ≤ i
  reads : s.reads = 0
  claims : s.claims = 0
theorem Left.room {s : St} {b f : Int} {i : Nat} (h : Left s b f i) (hi : i ≤ 300) : Room s := ⟨by have := h.ops; omega, by have := h.made; omega, by have := h.reads; omega, by have := h.claims; omega⟩
theorem Left.lets {s : St} {b f : Int} {i : Nat} (h : Left s b f i) (hs : s.stopped = false) : lets s = decide (f < 0 ∨ (i : Int) < f) := by
  obtain ⟨h1, h2⟩ := h.live hs
  unfold Ytembocfghkmieaa.lets
  by_cases hf : f < 0
  · rw [h1 hf, decide_eq_true (.inl hf)]; rfl
  · obtain ⟨h3, h4⟩ := h2 (by omega)
    by_cases h5 : (i : Int) < f
    · rw [decide_eq_true (.inr h5)]
      have : s.fuse ≠ 0 := by omega
      simpa using this
    · rw [decide_eq_false (by omega)]
      have : s.fuse = 0 := by omega
      simp [this]
/-- Does the next one go through? -/
def goesB (s : St) (f : Int) (i : Nat) : Bool := !s.stopped && decide (f < 0 ∨ (i : Int) < f)
/-- Stopped. -/
def deadV (s : St) : St := if s.stopped then s else letV s
theorem letV_dead {s : St} (hl : lets s = false) : letV s = { s with stopped := true } := by
  have h0 : s.fuse = 0 := by unfold lets at hl; simpa using hl
  unfold letV
  rw [if_pos h0]
theorem deadV_is {s : St} (h : s.stopped = true ∨ lets s = false) : (deadV s).stopped = true ∧ (deadV s).n = s.n ∧ (deadV s).held = s.held ∧ (deadV s).wait = s.wait ∧ (deadV s).ops = s.ops ∧ (deadV s).made = s.made ∧ (deadV s).reads = s.reads ∧ (deadV s).claims = s.claims := by
  unfold deadV
  cases hs : s.stopped
  · have hl : lets s = false := by
      rcases h with h | h
      · rw [hs] at h; cases h
      · exact h
    rw [if_neg (by simp), letV_dead hl]
    exact ⟨rfl, rfl, rfl, rfl, rfl, rfl, rfl, rfl⟩
  · rw [if_pos rfl]
    exact ⟨hs, rfl, rfl, rfl, rfl, rfl, rfl, rfl⟩
theorem not_goes {s : St} {b f : Int} {i : Nat} (h : Left s b f i) (hg : goesB s f i = false) : s.stopped = true ∨ lets s = false := by
  cases hs : s.stopped
  · right
    rw [h.lets hs]
    unfold goesB at hg
    rw [hs] at hg
    simpa using hg
  · exact .inl rfl
theorem Left.dead {s : St} {b f : Int} {i : Nat} (h : Left s b f i) (hg : goesB s f i = false) : Left (deadV s) b f (i + 1) := by
  obtain ⟨h1, h2, h3, h4, h5, h6, h7, h8⟩ := deadV_is (not_goes h hg)
  have := h.ops
  have := h.made
  exact ⟨h2.trans h.n, fun q => (by rw [h1] at q; cases q), by rw [h5]; omega, by rw [h6]; omega, h7.trans h.reads, h8.trans h.claims⟩
theorem goes_live {s : St} {b f : Int} {i : Nat} (h : Left s b f i) (hg : goesB s f i = true) : s.stopped = false ∧ lets s = true := by
  unfold goesB at hg
  cases hs : s.stopped
  · rw [hs] at hg
    exact ⟨rfl, by rw [h.lets hs]; simpa using hg⟩
  · rw [hs] at hg; simp at hg
theorem letV_live {s : St} (hl : lets s = true) : (letV s).stopped = s.stopped ∧ (letV s).made = s.made + 1 ∧ (letV s).reads = s.reads ∧ (letV s).claims = s.claims ∧ (letV s).fuse = (if s.fuse = -1 then -1 else s.fuse - 1) := by
  have h0 : s.fuse ≠ 0 := by unfold lets at hl; simpa using hl
  unfold letV
  rw [if_neg h0]
  exact ⟨rfl, rfl, rfl, rfl, rfl⟩
/-- A state of which all but what is held and pending is that of a disk that let one through. -/
theorem Left.next {s s' : St} {b f : Int} {i : Nat} (h : Left s b f i) (hg : goesB s f i = true) (h1 : s'.n = s.n) (h2 : s'.stopped = (letV s).stopped) (h3 : s'.made = (letV s).made) (h4 : s'.reads = (letV s).reads) (h5 : s'.claims = (letV s).claims) (h6 : s'.fuse = (letV s).fuse) (h7 : s'.ops.length = s.ops.length + 1) : Left s' b f (i + 1) ∧ s'.stopped = false := by
  obtain ⟨hs, hl⟩ := goes_live h hg
  obtain ⟨k1, k2, k3, k4, k5⟩ := letV_live hl
  obtain ⟨l1, l2⟩ := h.live hs
  have := h.ops
  have := h.made
  refine ⟨⟨h1.trans h.n, fun _ => ⟨fun q => ?_, fun q => ?_⟩, by omega, by omega, h4.trans (k3.trans h.reads), h5.trans (k4.trans h.claims)⟩, h2.trans (k1.trans hs)⟩
  · rw [h6, k5, if_pos (l1 q)]
  · obtain ⟨m1, m2⟩ := l2 q
    have m3 : s.fuse ≠ 0 := by unfold Ytembocfghkmieaa.lets at hl; simpa using hl
    rw [h6, k5, if_neg (by omega)]
    omega
theorem write_goes {s : St} {b f : Int} {i : Nat} (h : Left s b f i) (hg : goesB s f i = true) {k : Int} (hk : 0 ≤ k ∧ k < b) (F : Nat → Int) : writeE s k = 0 ∧ writeV s k F = writeS s k F ∧ Left (writeS s k F) b f (i + 1) ∧ (writeS s k F).stopped = false ∧ (writeS s k F).wait = s.wait ++ [(k, F)] ∧ (writeS s k F).held = s.held ∧ (writeS s k F).n = s.n := by
  obtain ⟨hs, hl⟩ := goes_live h hg
  have hr : refV s k = 0 := by unfold refV; rw [hs, if_neg (by simp), if_pos (by rw [h.n]; exact hk)]
  have hN := h.next (s' := writeS s k F) hg (letV_n s) rfl rfl rfl rfl rfl (by rw [writeS_ops]; simp)
  refine ⟨?_, ?_, hN.1, hN.2, rfl, letV_held s, letV_n s⟩
  · unfold writeE; rw [if_pos hr, if_pos hl]
  · unfold writeV; rw [if_pos hr, if_pos hl]
theorem write_stays {s : St} {b f : Int} {i : Nat} (h : Left s b f i) (hg : goesB s f i = false) {k : Int} (hk : 0 ≤ k ∧ k < b) (F : Nat → Int) : writeE s k = 3 ∧ writeV s k F = deadV s := by
  have hn := not_goes h hg
  unfold writeE writeV deadV
  cases hs : s.stopped
  · have hl : lets s = false := by
      rcases hn with q | q
      · rw [hs] at q; cases q
      · exact q
    have hr : refV s k = 0 := by unfold refV; rw [hs, if_neg (by simp), if_pos (by rw [h.n]; exact hk)]
    rw [if_pos hr, if_pos hr, hl]
    simp
  · have hr : refV s k = 3 := by unfold refV; rw [hs, if_pos rfl]
    rw [if_neg (by omega), if_neg (by omega), hr]
    simp
theorem bar_goes {s : St} {b f : Int} {i : Nat} (h : Left s b f i) (hg : goesB s f i = true) : barE s = 0 ∧ barV s = barS s ∧ Left (barS s) b f (i + 1) ∧ (barS s).stopped = false ∧ (barS s).wait = [] ∧ (barS s).held = (holdAll s s.wait).held ∧ (barS s).n = s.n := by
  obtain ⟨hs, hl⟩ := goes_live h hg
  obtain ⟨hh, he⟩ := holdAll_same s.wait (letV s)
  have e1 : barS s = { letV s with held := hh, done := s.ops ++ [⟨2, 0, nought⟩], wait := [] } := by unfold barS; rw [he]
  have hN := h.next (s' := barS s) hg (by rw [e1]; exact letV_n s) (by rw [e1]) (by rw [e1]) (by rw [e1]) (by rw [e1]) (by rw [e1]) (by rw [barS_ops]; simp)
  refine ⟨?_, ?_, hN.1, hN.2, rfl, ?_, by rw [e1]; exact letV_n s⟩
  · unfold barE; rw [hs, hl]; rfl
  · unfold barV; rw [hs, hl]; rfl
  · show (holdAll (letV s) s.wait).held = _
    have key : ∀ (l : List Cel) (a b : St), a.held = b.held → (holdAll a l).held = (holdAll b l).held := fun l => by
      induction l with
      | nil => exact fun a b q => q
      | cons c t ih =>
        intro a b q
        exact ih (holdV a c.1 c.2) (holdV b c.1 c.2) (by unfold holdV; rw [q])
    exact key _ _ _ (letV_held s)
theorem bar_stays {s : St} {b f : Int} {i : Nat} (h : Left s b f i) (hg : goesB s f i = false) : barE s = 3 ∧ barV s = deadV s := by
  have hn := not_goes h hg
  unfold barE barV deadV
  cases hs : s.stopped
  · have hl : lets s = false := by
      rcases hn with q | q
      · rw [hs] at q; cases q
      · exact q
    rw [hl]
    simp
  · simp
end Go.Proofs.Ytembocfghkmieaa
