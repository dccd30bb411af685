/- New, Recover and the image of a disk without a fuse, by what it holds; no condition but that numbers do not pass their greatest. -/
import Derived.Test.YtglcliokhlafoaaRHead
import Derived.Test.YtglcliokhlafoaaLives
import Derived.Test.YtglcliokhlafoaaTree
namespace Go.Proofs.Ytglcliokhlafoaa
open Go.RowKit Go.Maps
variable {w W : World} {g d : Nat} {t : St} {ks : List (Nat × Obj)} {n : Int} {cur : Int → Nat → Int} {T : List Int} {b l i : Int}
/-- How much was done to a disk, at most. -/
structure Sm (t : St) (k : Nat) : Prop where
  ops : t.ops.length ≤ k
  made : t.made ≤ k
  reads : t.reads ≤ k
  claims : t.claims ≤ k
theorem Sm.rm {k m : Nat} (h : Sm t k) (hm : k + m ≤ 1000000) : Rm t m := by
  obtain ⟨h1, h2, h3, h4⟩ := h
  exact ⟨by omega, by omega, by omega, by omega⟩
theorem Sm.le {k m : Nat} (h : Sm t k) (hm : k ≤ m) : Sm t m := by
  obtain ⟨h1, h2, h3, h4⟩ := h
  exact ⟨by omega, by omega, by omega, by omega⟩
theorem Sm.readS {k : Nat} (h : Sm t k) : Sm (readS t) (k + 1) := by
  obtain ⟨h1, h2, h3, h4⟩ := h
  refine ⟨?_, ?_, ?_, ?_⟩
  · show t.ops.length ≤ _; omega
  · show t.made ≤ _; omega
  · show t.reads + 1 ≤ _; omega
  · show t.claims ≤ _; omega
theorem rc_nums {k : Nat} (h : Sm t k) (hE : mE (mvs T T.length) t = 0) : Sm (rcV T t) (k + T.length + 3) := by
  have h1 := mv_nums (mvs T T.length) t
  have h2 := run_nums [none, some (1, nought), none] (mV (mvs T T.length) t)
  have hv : rcV T t = runV [none, some (1, nought), none] (mV (mvs T T.length) t) := by unfold rcV; rw [if_pos hE]
  rw [mvs_len] at h1
  obtain ⟨a1, a2, a3, a4⟩ := h
  obtain ⟨b1, b2, b3, _, _, b6⟩ := h1
  obtain ⟨c1, c2, c3, _, _, c6⟩ := h2
  simp only [List.length_cons, List.length_nil] at c1 c6
  rw [hv]
  exact ⟨by omega, by omega, by omega, by omega⟩
def decT (b l : Int) (F : Nat → Int) : List Int := H.decL (1 + l) b (l - 1) F
def decE (b l : Int) (F : Nat → Int) : Int := H.decN (1 + l) b (l - 1) F
theorem dec_cases (b l : Int) (F : Nat → Int) : (decE b l F = 4 ∧ decT b l F = []) ∨ (decE b l F = 0 ∧ H.MayP (1 + l) b (l - 1) (decT b l F)) := H.dec_may
theorem newB (h : Sits w W d t ks) (hf : H.Fine b l i) (hn : b ≤ n) (hL : LiveT t n (-1) cur []) {k : Nat} (hk : Sm t k) (hk2 : k ≤ 10000) {f : Int} (hF : f = if decE b l (cur 1) = 0 ∧ decT b l (cur 1) = [] then 0 else 4) :
    Calls Try.prog 11 #[ptr d, .agg (layA b l i)] W fun e W' => ∃ v t', e = .returned (.tuple #[v, .int .i64 f]) ∧ Sits w W' d t' ks ∧ LiveT t' n (-1) cur [] ∧ Sm t' (k + 3) ∧ t'.made = t.made := by
  have hn' : b ≤ t.n := by rw [hL.n]; exact hn
  have eT : tgT b l t = decT b l (cur 1) := by unfold tgT decT; rw [hL.cur]
  have eE : tgE b l t = decE b l (cur 1) := by unfold tgE decE; rw [hL.cur]
  rcases dec_cases b l (cur 1) with ⟨c1, c2⟩ | ⟨c1, c2⟩
  · rw [c1, if_neg (by intro q; exact absurd q.1 (by decide))] at hF
    subst hF
    exact (newL_bad h hf hn' hL.stop (hk.rm (by omega)) (by rw [eE, c1])).mono fun e W' ⟨h1, h2⟩ => ⟨_, _, h1, h2, hL.readS, hk.readS.le (by omega), rfl⟩
  · by_cases h0 : decT b l (cur 1) = []
    · rw [c1, if_pos ⟨rfl, h0⟩] at hF
      subst hF
      refine (newL_ok h hf hn' hL.stop (hk.rm (by omega)) (by rw [eT, h0]) (by rw [eE, c1])).mono ?_
      rintro e W' ⟨g, h1, s, h2, _⟩
      obtain ⟨c, mb, v, h3⟩ := h2.toSits
      obtain ⟨q1, q2, q3, q4, q5, q6, q7⟩ := hL.readS.claim
      have hs := hk.readS
      refine ⟨_, _, h1, h3.drop (fun p hp => List.mem_cons_of_mem _ hp), q1, ⟨?_, ?_, ?_, ?_⟩, ?_⟩
      · rw [q7]; have := hs.ops; omega
      · rw [q5]; have := hs.made; omega
      · rw [q6]; have := hs.reads; omega
      · rw [q2]; have := hs.claims; omega
      · rw [q5]; rfl
    · rw [c1, if_neg (fun q => h0 q.2)] at hF
      subst hF
      have hlen := c2.1
      have hl := hf.2.1
      exact (newL_some h hf hn' hL.stop (hk.rm (by omega)) (by rw [eT]; exact h0) (by rw [eE, c1]) (by rw [eT]; omega)).mono fun e W' ⟨h1, h2⟩ => ⟨_, _, h1, h2, hL.readS, hk.readS.le (by omega), rfl⟩
theorem recNone (h : Sits w W d t ks) (hf : H.Fine b l i) (hn : b ≤ n) (hL : LiveT t n (-1) cur []) {k : Nat} (hk : Sm t k) (hk2 : k ≤ 10000) (h0 : decT b l (cur 1) = []) {E : Int} (hE : decE b l (cur 1) = E) :
    Calls Try.prog 13 #[ptr d, .agg (layA b l i)] W fun e W' => ∃ t', e = .returned (.tuple #[.int .i64 0, .int .i64 E]) ∧ Sits w W' d t' ks ∧ LiveT t' n (-1) cur [] ∧ Sm t' (k + 1) ∧ t'.made = t.made := by
  have eT : tgT b l t = decT b l (cur 1) := by unfold tgT decT; rw [hL.cur]
  have eE : tgE b l t = decE b l (cur 1) := by unfold tgE decE; rw [hL.cur]
  exact (recover_empty h hf (by rw [hL.n]; exact hn) hL.stop (hk.rm (by omega)) (by rw [eT, h0])).mono fun e W' ⟨h1, h2⟩ => ⟨_, by rw [h1, eE, hE], h2, hL.readS, hk.readS, rfl⟩
theorem recSome (h : Sits w W d t ks) (hf : H.Fine b l i) (hn : b ≤ n) (hL : LiveT t n (-1) cur []) {k : Nat} (hk : Sm t k) (hk2 : k ≤ 10000) (hT : decT b l (cur 1) = T) (h0 : T ≠ []) (hE : decE b l (cur 1) = 0) (hM : H.MayP (1 + l) b (l - 1) T) :
    Calls Try.prog 13 #[ptr d, .agg (layA b l i)] W fun e W' => ∃ t', e = .returned (.tuple #[.int .i64 (T.length : Int), .int .i64 0]) ∧ Sits w W' d t' ks ∧ LiveT t' n (-1) (fun j => if 1 = j then nought else curK T cur T.length j) [] ∧ Sm t' (k + 1000) := by
  have eT : tgT b l t = T := by unfold tgT; rw [hL.cur]; exact hT
  have eE : tgE b l t = 0 := by unfold tgE; rw [hL.cur]; exact hE
  have hlen := hM.1
  have hl := hf.2.1
  have hlb : 1 + l ≤ b := by have := hf.2.2.2.2.2; have h3 := hf.2.2.1; unfold H.dataAt H.bitsAt H.nodeB H.bitsB at this; omega
  obtain ⟨r1, r2⟩ := rec_free hL.readS hM hn hf.1 hlb
  have rE := (rec_moves hL.readS hM hn hf.1 hlb T.length (Nat.le_refl _)).1
  have hR := recover_some h hf (by rw [hL.n]; exact hn) hL.stop (by rw [eT]; exact h0) eE (by rw [eT]; omega) (hk.rm (by rw [eT]; omega))
  rw [eT] at hR
  refine hR.mono fun e W' ⟨h1, h2⟩ => ⟨_, ?_, h2, r2, (rc_nums hk.readS rE).le (by omega)⟩
  rw [h1, r1, if_pos rfl]
theorem imageB (h : Sits w W d t ks) (hL : LiveT t n (-1) cur []) {m : List Cel} (hr : Rise (-1) m) (hs : Sound m) (hm : ∀ j, atL m j = cur j) :
    Calls Try.prog 17 #[.pointer (some ⟨d, 0, none⟩)] W fun e W' => ∃ g, e = .returned (.agg #[.int .i64 n, .slice (some ⟨g, 0, none⟩) m.length m.length]) ∧ W'.heap[g]? = some (.cells (celCells m).toArray 59) ∧ Sits w W' d t ks := by
  have h' := h
  obtain ⟨L, rfl, hS⟩ := h
  refine (image_walk hS.disk).mono ?_
  rintro e W' ⟨g, lx, h1, h2, h3, h4, h5⟩
  obtain rfl := image_cur hL hr hs hm h2
  rw [hL.n] at h1
  exact ⟨g, h1, h3, h'.later h5⟩
theorem img_row {W : World} {g : Nat} {m : List Cel} (h : W.heap[g]? = some (.cells (celCells m).toArray 59)) : ImgAt W (some ⟨g, 0, none⟩) m := fun _ => ⟨g, 0, rfl, (Array.getElem?_eq_some_iff.1 h).1, fun k c hc => by have := row_cel h hc; rw [Nat.zero_add]; exact this⟩
theorem rises_rise {n : Int} : ∀ (l : List Cel) (a : Int), risesB n a l = true → Rise a l
  | [], _, _ => trivial
  | (i, x) :: t, a, h => by
    unfold risesB at h
    simp at h
    exact ⟨by omega, rises_rise t i h.2⟩
theorem may_rises {n : Int} {l : List Cel} (h : mayB n l = true) : bndB n = true ∧ risesB n (-1) l = true := by
  unfold mayB at h
  simpa using h
theorem rises_sound {n : Int} {l : List Cel} {a : Int} (ha : -1 ≤ a) (h : risesB n a l = true) (hc : ∀ c ∈ l, Can c.2) : Sound l := fun c hm => by
  have h1 := (rises_bounds l a ha h c hm).2.2
  refine ⟨hc c hm, fun q => ?_⟩
  rw [((hc c hm).blank).2 q] at h1
  cases h1
theorem lastV_none {k : Int} : ∀ (l : List Cel) (x : Nat → Int), (∀ c ∈ l, c.1 ≠ k) → lastV x l k = x
  | [], _, _ => rfl
  | c :: t, x, h => by
    unfold lastV
    rw [if_neg (h c (by simp))]
    exact lastV_none t x fun c hc => h c (by simp [hc])
theorem rise_ne : ∀ (l : List Cel) (m : Int), Rise m l → ∀ c ∈ l, m < c.1
  | [], _, _, c, hc => by simp at hc
  | (i, x) :: t, m, h, c, hc => by
    rcases List.mem_cons.1 hc with rfl | hc
    · exact h.1
    · have := rise_ne t i h.2 c hc
      have := h.1
      omega
theorem lastV_at {k : Int} : ∀ (l : List Cel) (m : Int), Rise m l → lastV nought l k = atL l k
  | [], _, _ => rfl
  | (i, x) :: t, m, h => by
    unfold lastV atL
    simp only
    by_cases e : i = k
    · rw [if_pos e, if_pos e]
      exact lastV_none t x fun c hc q => by have := rise_ne t i h.2 c hc; omega
    · rw [if_neg e, if_neg e]
      exact lastV_at t i h.2
theorem load_live {m : List Cel} (h : mayB n m = true) (hc : ∀ c ∈ m, Can c.2) (hok : Ok (loadV n m)) : LiveT (loadV n m) n (-1) (atL m) [] ∧ Sm (loadV n m) 0 := by
  obtain ⟨hh, e⟩ := holdAll_same m (newV n)
  have hg : ∀ k, ((loadV n m).held k).getD nought = atL m k := fun k => by
    unfold loadV
    rw [holdAll_get m (newV n) hc]
    exact lastV_at m (-1) (rises_rise m _ (may_rises h).2)
  have ew : (loadV n m).wait = [] := by unfold loadV; rw [e]; rfl
  refine ⟨⟨hok, by unfold loadV; rw [e]; rfl, by unfold loadV; rw [e]; rfl, by unfold loadV; rw [e]; rfl, ?_, ew⟩, ?_⟩
  · funext k
    unfold curV
    rw [ew]
    exact hg k
  · unfold loadV
    rw [e]
    exact ⟨Nat.le_refl _, Int.le_refl _, Int.le_refl _, Int.le_refl _⟩
theorem load_made (n : Int) (m : List Cel) : (loadV n m).made = 0 := by
  obtain ⟨hh, e⟩ := holdAll_same m (newV n)
  unfold loadV
  rw [e]
  rfl
theorem loadB {m : List Cel} (p : Option Addr) (cap : Nat) (hl : m.length ≤ 300) (hi : ImgAt W p m) (hc : ∀ c ∈ m, Can c.2) (hm : mayB n m = true) :
    Calls Try.prog 7 #[.agg #[.int .i64 n, .slice p m.length cap]] W fun e W' => ∃ d, e = .returned (.tuple #[.pointer (some ⟨d, 0, none⟩), .int .i64 0]) ∧ Sits W W' d (loadV n m) [] ∧ LiveT (loadV n m) n (-1) (atL m) [] ∧ Sm (loadV n m) 0 := by
  refine (load_ok n m p cap W (by omega) hi hc hm).mono ?_
  rintro e W' ⟨L, rfl, hD, hL, hb⟩
  obtain ⟨q1, q2⟩ := load_live hm hc hD.ok
  exact ⟨L.d, rfl, ⟨L, rfl, hD, hL, hb, fun p hp => by simp at hp⟩, q1, q2⟩
end Go.Proofs.Ytglcliokhlafoaa
