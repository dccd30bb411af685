/- What is held behind writes and barriers, and of an image that is loaded again, as plain lists; no condition. -/
import Derived.Test.YtembocfghkmieaaLoad
import Derived.Test.YtembocfghkmieaaLeftOps
namespace Go.Proofs.Ytembocfghkmieaa
open Go.RowKit

theorem rises_of {n : Int} : ∀ (l : List Cel) (m : Int), Rise m l → Sound l → (∀ c ∈ l, c.1 < n) → risesB n m l = true
  | [], _, _, _, _ => rfl
  | (i, x) :: t, m, hr, hs, ht => by
    have h1 := hr.1
    have h2 := ht (i, x) (by simp)
    have h3 := hs (i, x) (by simp)
    have h4 : blankB x = false := by
      cases hb : blankB x
      · rfl
      · exact absurd (h3.1.blank.1 hb) h3.2
    have ih := rises_of t i hr.2 (fun c hc => hs c (by simp [hc])) fun c hc => ht c (by simp [hc])
    unfold risesB
    simp only at h2 ⊢
    rw [ih, h4, decide_eq_false (by omega : ¬ i ≤ m), decide_eq_false (by omega : ¬ i ≥ n)]
    rfl
theorem rise_len {n : Int} : ∀ (l : List Cel) (m : Int), Rise m l → (∀ c ∈ l, c.1 < n) → m < n → (l.length : Int) ≤ n - m - 1
  | [], m, _, _, h => by simp; omega
  | (i, x) :: t, m, hr, ht, h => by
    have h1 := hr.1
    have h2 := ht (i, x) (by simp)
    have ih := rise_len t i hr.2 (fun c hc => ht c (by simp [hc])) h2
    simp only [List.length_cons] at *
    omega
theorem image_may {s : St} {l : List Cel} (h : IsImage s l) (hok : Ok s) : mayB s.n l = true := by
  have hn := hok.n
  unfold mayB
  rw [rises_of l (-1) h.rise h.sound h.top, show bndB s.n = true by unfold bndB; simp; omega]
  rfl
theorem image_len {s : St} {l : List Cel} (h : IsImage s l) (hok : Ok s) : l.length < 9223372036854775807 := by
  have := rise_len l (-1) h.rise h.top (by have := hok.n; omega)
  have := hok.n
  omega
/-- What the last of the writes to k left; x, if there is none. -/
def lastV (x : Nat → Int) : List Cel → Int → Nat → Int
  | [], _ => x
  | c :: t, k => lastV (if c.1 = k then c.2 else x) t k
theorem lastV_none {k : Int} : ∀ (l : List Cel) (x : Nat → Int), (∀ c ∈ l, c.1 ≠ k) → lastV x l k = x
  | [], _, _ => rfl
  | c :: t, x, h => by
    unfold lastV
    rw [if_neg (h c (by simp))]
    exact lastV_none t x fun c hc => h c (by simp [hc])
theorem rise_ne : ∀ (l : List Cel) (m : Int), Rise m l → ∀ c ∈ l, m < c.1
  | [], _, _, c, hc => by simp at hc
  | (i, x) :: t, m, h, c, hc => by
    rcases List.mem_cons.1 hc with rfl | hc
    · exact h.1
    · have := rise_ne t i h.2 c hc
      have := h.1
      omega
theorem lastV_at {k : Int} : ∀ (l : List Cel) (m : Int), Rise m l → lastV nought l k = atL l k
  | [], _, _ => rfl
  | (i, x) :: t, m, h => by
    unfold lastV atL
    simp only
    by_cases e : i = k
    · rw [if_pos e, if_pos e]
      exact lastV_none t x fun c hc q => by have := rise_ne t i h.2 c hc; omega
    · rw [if_neg e, if_neg e]
      exact lastV_at t i h.2
theorem lastV_append {k : Int} : ∀ (l m : List Cel) (x : Nat → Int), lastV x (l ++ m) k = lastV (lastV x l k) m k
  | [], _, _ => rfl
  | c :: t, m, x => by
    show lastV (if c.1 = k then c.2 else x) (t ++ m) k = _
    rw [lastV_append t m]
    rfl
theorem holdAll_get {k : Int} : ∀ (l : List Cel) (s : St), (∀ c ∈ l, Can c.2) → ((holdAll s l).held k).getD nought = lastV ((s.held k).getD nought) l k
  | [], _, _ => rfl
  | c :: t, s, h => by
    show ((holdAll (holdV s c.1 c.2) t).held k).getD nought = _
    rw [holdAll_get t _ fun c hc => h c (by simp [hc]), holdV_get s c.1 (h c (by simp)) k]
    show _ = lastV (if c.1 = k then c.2 else (s.held k).getD nought) t k
    by_cases e : k = c.1
    · rw [if_pos e, if_pos e.symm]
    · rw [if_neg e, if_neg fun q => e q.symm]
theorem image_load {s : St} {l : List Cel} (h : IsImage s l) (k : Int) : ((loadV s.n l).held k).getD nought = (s.held k).getD nought := by
  unfold loadV
  rw [holdAll_get l _ fun c hc => (h.sound c hc).1, ← h.at_ k]
  exact lastV_at l (-1) h.rise
theorem lastAt_last {k : Int} : ∀ (l : List Cel) (x : Nat → Int), (match lastAt l k with | some i => (match l[i]? with | some c => c.2 | none => nought) | none => x) = lastV x l k
  | [], _ => rfl
  | c :: t, x => by
    have ih := lastAt_last (k := k) t (if c.1 = k then c.2 else x)
    unfold lastV
    rw [← ih]
    show (match (match lastAt t k with | some i => some (i + 1) | none => if c.1 = k then some 0 else none) with | some i => (match (c :: t)[i]? with | some c => c.2 | none => nought) | none => x) = _
    cases lastAt t k with
    | some i => rfl
    | none =>
      by_cases e : c.1 = k
      · rw [if_pos e, if_pos e]; rfl
      · rw [if_neg e, if_neg e]
theorem curV_last (s : St) (k : Int) : curV s k = lastV ((s.held k).getD nought) s.wait k := by
  rw [← lastAt_last]
  rfl
theorem mod_in {n : Int} (hn : 1 ≤ n) (x : Int) : 0 ≤ x % n ∧ x % n < n := ⟨Int.emod_nonneg _ (by omega), Int.emod_lt_of_pos _ (by omega)⟩
theorem goes_on {s : St} (hs : s.stopped = false) (i : Nat) : goesB s (-1) i = true := by unfold goesB; rw [hs]; simp
section
variable (n : Int) (q : Nat → Int × (Nat → Int))
/-- The disk behind the first i puts. -/
def putS : Nat → St
  | 0 => newV n
  | i + 1 => if (q i).1 < 0 then barS (putS i) else writeS (putS i) ((q i).1 % n) (q i).2
/-- The writes of the first i puts. -/
def wrL : Nat → List Cel
  | 0 => []
  | i + 1 => if (q i).1 < 0 then wrL i else wrL i ++ [((q i).1 % n, (q i).2)]
/-- The last barrier of the first i puts. -/
def lastI : Nat → Int
  | 0 => -1
  | i + 1 => if (q i).1 < 0 then i else lastI i
/-- A disk to which only writes came. -/
def wrS : Nat → St
  | 0 => newV n
  | i + 1 => if (q i).1 < 0 then wrS i else writeS (wrS i) ((q i).1 % n) (q i).2
theorem putS_succ (i : Nat) : putS n q (i + 1) = if (q i).1 < 0 then barS (putS n q i) else writeS (putS n q i) ((q i).1 % n) (q i).2 := rfl
theorem wrL_succ (i : Nat) : wrL n q (i + 1) = if (q i).1 < 0 then wrL n q i else wrL n q i ++ [((q i).1 % n, (q i).2)] := rfl
theorem wrS_succ (i : Nat) : wrS n q (i + 1) = if (q i).1 < 0 then wrS n q i else writeS (wrS n q i) ((q i).1 % n) (q i).2 := rfl
theorem lastI_succ (i : Nat) : lastI q (i + 1) = if (q i).1 < 0 then (i : Int) else lastI q i := rfl
theorem wrL_can (hq : ∀ i, Can (q i).2) (i : Nat) : ∀ c ∈ wrL n q i, Can c.2 := by
  induction i with
  | zero => intro c hc; simp [wrL] at hc
  | succ i ih =>
    intro c hc
    rw [wrL_succ] at hc
    split at hc
    · exact ih c hc
    · rcases List.mem_append.1 hc with h | h
      · exact ih c h
      · obtain rfl : c = _ := by simpa using h
        exact hq i
theorem putS_is (hn : 1 ≤ n) (hq : ∀ i, Can (q i).2) (i : Nat) : Left (putS n q i) n (-1) i ∧ (putS n q i).stopped = false ∧ (putS n q i).made = i ∧ ∃ fl, fl = wrL n q (lastI q i).toNat ∧ fl ++ (putS n q i).wait = wrL n q i ∧ ∀ k, ((putS n q i).held k).getD nought = lastV nought fl k := by
  induction i with
  | zero => exact ⟨⟨rfl, fun _ => ⟨fun _ => rfl, fun h => by omega⟩, Nat.le_refl _, Int.le_refl _, rfl, rfl⟩, rfl, rfl, [], rfl, rfl, fun k => rfl⟩
  | succ i ih =>
    obtain ⟨hl, hs, hm, fl, h1, h2, h3⟩ := ih
    have hg := goes_on hs i
    have hlt := (goes_live hl hg).2
    have hmade : (letV (putS n q i)).made = i + 1 := by rw [(letV_live hlt).2.1, hm]
    rw [putS_succ, wrL_succ, lastI_succ]
    by_cases hb : (q i).1 < 0
    · rw [if_pos hb, if_pos hb, if_pos hb]
      obtain ⟨_, _, g1, g2, g3, g4, _⟩ := bar_goes hl hg
      obtain ⟨hh, he⟩ := holdAll_same (putS n q i).wait (letV (putS n q i))
      refine ⟨g1, g2, ?_, wrL n q i, by simp, by rw [g3, List.append_nil], fun k => ?_⟩
      · have e1 : (barS (putS n q i)).made = (holdAll (letV (putS n q i)) (putS n q i).wait).made := rfl
        rw [e1, he]
        exact hmade
      · rw [g4, holdAll_get _ _ (fun c hc => wrL_can n q hq i c (by rw [← h2]; exact List.mem_append_right _ hc)), h3, ← lastV_append, h2]
    · rw [if_neg hb, if_neg hb, if_neg hb]
      obtain ⟨_, _, g1, g2, g3, g4, _⟩ := write_goes hl hg (mod_in hn (q i).1) (q i).2
      refine ⟨g1, g2, hmade, fl, h1, by rw [g3, ← List.append_assoc, h2], fun k => by rw [g4]; exact h3 k⟩
theorem wrS_is (hn : 1 ≤ n) (i : Nat) : ∃ j : Nat, j ≤ i ∧ Left (wrS n q i) n (-1) j ∧ (wrS n q i).stopped = false ∧ (wrS n q i).wait = wrL n q i ∧ ∀ k, (wrS n q i).held k = none := by
  induction i with
  | zero => exact ⟨0, Nat.le_refl _, ⟨rfl, fun _ => ⟨fun _ => rfl, fun h => by omega⟩, Nat.le_refl _, Int.le_refl _, rfl, rfl⟩, rfl, rfl, fun k => rfl⟩
  | succ i ih =>
    obtain ⟨j, hj, hl, hs, h1, h2⟩ := ih
    rw [wrS_succ, wrL_succ]
    by_cases hb : (q i).1 < 0
    · rw [if_pos hb, if_pos hb]
      exact ⟨j, by omega, hl, hs, h1, h2⟩
    · rw [if_neg hb, if_neg hb]
      obtain ⟨_, _, g1, g2, g3, g4, _⟩ := write_goes hl (goes_on hs j) (mod_in hn (q i).1) (q i).2
      exact ⟨j + 1, by omega, g1, g2, by rw [g3, h1], fun k => by rw [g4]; exact h2 k⟩
/-- What the loaded one reads is what the one with the writes alone reads. -/
theorem again_same (hn : 1 ≤ n) (hq : ∀ i, Can (q i).2) (m : Nat) {l : List Cel} (h : IsImage (putS n q m) l) (k : Int) : curV (loadV (putS n q m).n l) k = curV (wrS n q (lastI q m).toNat) k := by
  obtain ⟨_, _, _, fl, h1, _, h3⟩ := putS_is n q hn hq m
  obtain ⟨_, _, _, _, h4, h5⟩ := wrS_is n q hn (lastI q m).toNat
  rw [curV_last, curV_last, h4, h5 k, show (loadV (putS n q m).n l).wait = [] from holdAll_wait _ _, ← h1]
  show ((loadV (putS n q m).n l).held k).getD nought = lastV nought fl k
  rw [image_load h k, h3 k]
end
end Go.Proofs.Ytembocfghkmieaa
