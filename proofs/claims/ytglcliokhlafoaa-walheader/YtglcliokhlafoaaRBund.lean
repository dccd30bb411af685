import Derived.Test.YtglcliokhlafoaaRWith
import Derived.Test.YtglcliokhlafoaaLNames2
import Derived.Test.YtglcliokhlafoaaLives
import Derived.Test.YtglcliokhlafoaaTree
/- What recovery leaves of any header that may be, as plain lists; New at a header that may not be. -/
namespace Go.Proofs.Ytglcliokhlafoaa
open Go.RowKit Go.Maps
variable {w W : World} {g d : Nat} {t : St} {ks : List (Nat × Obj)} {n : Int} {cur : Int → Nat → Int} {T : List Int} {b l i : Int}
/-- What stands where behind k moves. -/
def curK (T : List Int) (cur : Int → Nat → Int) : Nat → Int → Nat → Int
  | 0 => cur
  | k + 1 => fun j => if T.getD k 0 = j then cur (2 + (k : Int)) else curK T cur k j
theorem curK_src (hT : ∀ x ∈ T, 1 + l ≤ x) : ∀ k, k ≤ T.length → ∀ j, j < 1 + l → curK T cur k j = cur j
  | 0, _, _, _ => rfl
  | k + 1, hk, j, hj => by
    unfold curK
    have h1 : T[k]? = some (T[k]'(by omega)) := List.getElem?_eq_getElem _
    have h2 := hT _ (List.mem_of_getElem? h1)
    have h3 : T.getD k 0 = T[k]'(by omega) := by rw [List.getD_eq_getElem?_getD, h1]; rfl
    rw [h3, if_neg (by omega)]
    exact curK_src hT k (by omega) j hj
theorem rec_moves (hL : LiveT t n (-1) cur []) (hT : H.MayP (1 + l) b (l - 1) T) (hb : b ≤ n) (hl : 32 ≤ l) (hlb : 1 + l ≤ b) : ∀ k, k ≤ T.length → mE (mvs T k) t = 0 ∧ ∃ wait, LiveT (mV (mvs T k) t) n (-1) (curK T cur k) wait
  | 0, _ => ⟨rfl, [], hL⟩
  | k + 1, hk => by
    obtain ⟨h1, wait, h2⟩ := rec_moves hL hT hb hl hlb k (by omega)
    have e1 : T[k]? = some (T[k]'(by omega)) := List.getElem?_eq_getElem _
    have e3 : T.getD k 0 = T[k]'(by omega) := by rw [List.getD_eq_getElem?_getD, e1]; rfl
    obtain ⟨t1, t2, _⟩ := hT
    have hy := t2 _ (List.mem_of_getElem? e1)
    generalize T[k]'(by omega) = y at e1 e3 hy
    obtain ⟨m1, m2⟩ := h2.move (by decide) (a := 2 + (k : Int)) (b := y) (by omega) (by omega)
    rw [mvs_succ e1]
    obtain ⟨s1, s2⟩ := mv_snoc (o := (2 + (k : Int), y)) h1
    rw [s1, s2]
    have hc : (fun j => if y = j then curK T cur k (2 + (k : Int)) else curK T cur k j) = curK T cur (k + 1) := by
      funext j
      rw [curK_src (fun x hx => (t2 x hx).1) k (by omega) (2 + (k : Int)) (by omega)]
      show _ = if T.getD k 0 = j then _ else _
      rw [e3]
    rw [hc] at m2
    exact ⟨m1, _, m2⟩
theorem rec_free (hL : LiveT t n (-1) cur []) (hT : H.MayP (1 + l) b (l - 1) T) (hb : b ≤ n) (hl : 32 ≤ l) (hlb : 1 + l ≤ b) : rcE T t = 0 ∧ LiveT (rcV T t) n (-1) (fun j => if 1 = j then nought else curK T cur T.length j) [] := by
  obtain ⟨h1, wait, h2⟩ := rec_moves hL hT hb hl hlb T.length (Nat.le_refl _)
  obtain ⟨w3, l3⟩ := h2.bar (by decide)
  obtain ⟨w4, l4⟩ := l3.write (by decide) (k := 1) (by omega) can_nought
  obtain ⟨w5, l5⟩ := l4.bar (by decide)
  unfold rcE rcV
  rw [h1, if_pos rfl, if_pos rfl, (run_cons w3).1, (run_cons w3).2, (run_cons w4).1, (run_cons w4).2, (run_cons w5).1, (run_cons w5).2]
  exact ⟨rfl, l5⟩
/-- The image that is wanted, behind k blocks. -/
def wantL (l : List Cel) (T : List Int) : Nat → List Cel
  | 0 => l
  | k + 1 => laidL (wantL l T k) (T.getD k 0) (atL l (2 + (k : Int)))
theorem laidGo_len (k : Int) (b : Nat → Int) : ∀ (l : List Cel) (d : Bool), (laidGo k b d l).length ≤ l.length + (if d then 0 else 1)
  | [], d => by cases d <;> simp [laidGo]
  | (i, x) :: s, d => by
    have ih := laidGo_len k b s (d || decide (k ≤ i))
    rw [laidGo_cons, List.length_append, List.length_append]
    cases d
    · by_cases h : k ≤ i
      · simp only [Bool.false_or, h, decide_true, Bool.not_false, Bool.true_and, if_true, List.length_cons, List.length_nil] at ih ⊢
        split <;> simp <;> omega
      · simp only [Bool.false_or, h, decide_false, Bool.not_false, Bool.true_and, Bool.false_eq_true, if_false, List.length_nil, List.length_cons] at ih ⊢
        split <;> simp <;> omega
    · simp only [Bool.true_or, Bool.not_true, Bool.false_and, Bool.false_eq_true, if_false, if_true, List.length_nil, List.length_cons] at ih ⊢
      split <;> simp <;> omega
theorem laidL_len (l : List Cel) (k : Int) (b : Nat → Int) : (laidL l k b).length ≤ l.length + 1 := by
  have := laidGo_len k b l (blankB b)
  unfold laidL
  split at this <;> omega
theorem wantL_len (l : List Cel) (T : List Int) : ∀ k, (wantL l T k).length ≤ l.length + k
  | 0 => Nat.le_refl _
  | k + 1 => by
    have h1 := wantL_len l T k
    have h2 := laidL_len (wantL l T k) (T.getD k 0) (atL l (2 + (k : Int)))
    show (laidL _ _ _).length ≤ _
    omega
theorem wantL_is {m : List Cel} (hr : Rise (-1) m) (hs : Sound m) (hT : ∀ x ∈ T, 0 ≤ x) : ∀ k, k ≤ T.length → Rise (-1) (wantL m T k) ∧ Sound (wantL m T k) ∧ ∀ j, atL (wantL m T k) j = curK T (atL m) k j
  | 0, _ => ⟨hr, hs, fun _ => rfl⟩
  | k + 1, hk => by
    obtain ⟨h1, h2, h3⟩ := wantL_is hr hs hT k (by omega)
    have e1 : T[k]? = some (T[k]'(by omega)) := List.getElem?_eq_getElem _
    have e3 : T.getD k 0 = T[k]'(by omega) := by rw [List.getD_eq_getElem?_getD, e1]; rfl
    have hy := hT _ (List.mem_of_getElem? e1)
    obtain ⟨a1, a2, a3⟩ := laid_spec (T.getD k 0) (atL m (2 + (k : Int))) (at_can hs _) (show (-1 : Int) < T.getD k 0 by rw [e3]; omega) h1 h2
    refine ⟨a1, a2, fun j => ?_⟩
    rw [show wantL m T (k + 1) = laidL (wantL m T k) (T.getD k 0) (atL m (2 + (k : Int))) from rfl, a3 j]
    show _ = if T.getD k 0 = j then _ else _
    by_cases e : j = T.getD k 0
    · rw [if_pos e, if_pos e.symm]
    · rw [if_neg e, if_neg (fun q => e q.symm)]
      exact h3 j
theorem want_is {m : List Cel} (hr : Rise (-1) m) (hs : Sound m) (hT : ∀ x ∈ T, 0 ≤ x) : Rise (-1) (laidL (wantL m T T.length) 1 nought) ∧ Sound (laidL (wantL m T T.length) 1 nought) ∧ ∀ j, atL (laidL (wantL m T T.length) 1 nought) j = if 1 = j then nought else curK T (atL m) T.length j := by
  obtain ⟨h1, h2, h3⟩ := wantL_is hr hs hT T.length (Nat.le_refl _)
  obtain ⟨a1, a2, a3⟩ := laid_spec 1 nought can_nought (show (-1 : Int) < 1 by omega) h1 h2
  refine ⟨a1, a2, fun j => ?_⟩
  rw [a3 j, h3 j]
  by_cases e : j = 1
  · rw [if_pos e, if_pos e.symm]
  · rw [if_neg e, if_neg (fun q => e q.symm)]
/-- The image of a disk on which nothing is pending. -/
theorem image_cur {m : List Cel} {s : St} (hL : LiveT s n (-1) cur []) (hr : Rise (-1) m) (hs : Sound m) (hm : ∀ j, atL m j = cur j) {lx : List Cel} (h : IsImage s lx) : lx = m := by
  refine rise_ext h.rise hr h.sound hs fun k => ?_
  rw [h.at_, hm, ← hL.cur]
  unfold curV
  rw [hL.wait]
  rfl
theorem newL_bad (h : Sits w W d t ks) (hf : H.Fine b l i) (hn : b ≤ t.n) (hs : t.stopped = false) (hr : Rm t 2) (hE : tgE b l t = 4) : Calls Try.prog 11 #[ptr d, .agg (layA b l i)] W fun e W' => e = .returned (.tuple #[.pointer none, .int .i64 4]) ∧ Sits w W' d (readS t) ks := by
  have hA := h.add (.cells (layA b l i) 30)
  have hrow := heap_alloc_new W (.cells (layA b l i) 30)
  have hsz : (layA b l i).size = 9 := rfl
  have hc := Hid.mk' (committed_ok hA hf hn hs (Rm.room hr))
  rw [hE] at hc
  clear h hA hf hn hs hr hE
  unfold ptr at *
  generalize layA b l i = L at *
  generalize tgT b l t = T at *
  go_enter Try.func11, Try.ntmps11
  go_wp2_with (first | refine wpList_load_row rfl 30 (.tmp 3) rfl W.heap.size rfl 30 L (0, 0) _ hrow Try.underlying30 rfl (by rw [hsz]; exact H.size25L) ?_ | (go_at_call 36; fail))
  refine hc.out.mono ?_
  rintro e W1 ⟨p, rfl, _, h1⟩
  have H1 := Hid.mk' (h1.drop (ks' := ks) fun q hq => List.mem_cons_of_mem _ hq)
  clear h1 hc hrow
  go_wp2
  go_ret2
  exact ⟨rfl, H1.out⟩
/-- A box beside the disk is written. -/
theorem Sits.setBox {W' : World} {o o' : Obj} (h : Sits w W d t ((g, o) :: ks)) (hf : Fr (fun i => i = g) W W') (ho : W'.heap[g]? = some o') (hg : w.heap.size ≤ g) (hk : ∀ p ∈ ks, p.1 ≠ g) : Sits w W' d t ((g, o') :: ks) := by
  obtain ⟨L, hd, hS⟩ := h
  have h0 := hS.keep (g, o) (List.mem_cons_self ..)
  refine ⟨L, hd, hS.disk.fr hf (fun k hk' q => h0.2 (q ▸ hk')), hS.new, hS.below.trans (hf.below (fun i q => q ▸ hg) hS.below.size), fun p hp => ?_⟩
  rcases List.mem_cons.1 hp with rfl | hp
  · exact ⟨ho, h0.2⟩
  · obtain ⟨h3, h4⟩ := hS.keep p (List.mem_cons_of_mem _ hp)
    exact ⟨(hf.block p.1 (Array.getElem?_eq_some_iff.1 h3).1 (hk p hp)).trans h3, h4⟩
/-- A list stays where a box of two cells is written. -/
theorem ImgAt.box {W' : World} {p : Option Addr} {m : List Cel} {cs : Array Value} (h : ImgAt W p m) (hc : W.heap[g]? = some (.cells cs 24)) (hs : cs.size = 2) (hf : Fr (fun i => i = g) W W') : ImgAt W' p m := fun h0 => by
  obtain ⟨b1, o1, h1, h2, h3⟩ := h h0
  refine ⟨b1, o1, h1, Nat.lt_of_lt_of_le h2 hf.size, ?_⟩
  have hne : b1 ≠ g := fun q => by
    subst q
    have e1 : m[0]? = some (m[0]'h0) := List.getElem?_eq_getElem _
    obtain ⟨_, y2⟩ := h3 0 _ e1
    have hj : (blk (m[0]'h0).2).toList[1]? = some (.int .u8 ((m[0]'h0).2 1)) := by rw [Array.getElem?_toList]; exact blk_get _ 1 (by omega)
    have y3 := y2 1 _ hj
    rw [cell_of_row W b1 _ cs 24 _ hc, Array.getElem?_eq_none (by omega)] at y3
    cases y3
  intro k c hk
  obtain ⟨y1, y2⟩ := h3 k c hk
  have hblk := hf.block b1 h2 hne
  exact ⟨(World.cell?_of_block (a := ⟨b1, o1 + k * 1025, none⟩) hblk).trans y1, fun i v hv => (World.cell?_of_block (a := ⟨b1, o1 + k * 1025 + 1 + i, none⟩) hblk).trans (y2 i v hv)⟩
end Go.Proofs.Ytglcliokhlafoaa
/- New, Recover and the image of a disk without a fuse, by what it holds; no condition but that numbers do not pass their greatest. -/
namespace Go.Proofs.Ytglcliokhlafoaa
open Go.RowKit Go.Maps
variable {w W : World} {g d : Nat} {t : St} {ks : List (Nat × Obj)} {n : Int} {cur : Int → Nat → Int} {T : List Int} {b l i : Int}
/-- How much was done to a disk, at most. -/
structure Sm (t : St) (k : Nat) : Prop where
  ops : t.ops.length ≤ k
  made : t.made ≤ k
  reads : t.reads ≤ k
  claims : t.claims ≤ k
theorem Sm.rm {k m : Nat} (h : Sm t k) (hm : k + m ≤ 1000000) : Rm t m := by
  obtain ⟨h1, h2, h3, h4⟩ := h
  exact ⟨by omega, by omega, by omega, by omega⟩
theorem Sm.le {k m : Nat} (h : Sm t k) (hm : k ≤ m) : Sm t m := by
  obtain ⟨h1, h2, h3, h4⟩ := h
  exact ⟨by omega, by omega, by omega, by omega⟩
theorem Sm.readS {k : Nat} (h : Sm t k) : Sm (readS t) (k + 1) := by
  obtain ⟨h1, h2, h3, h4⟩ := h
  refine ⟨?_, ?_, ?_, ?_⟩
  · show t.ops.length ≤ _; omega
  · show t.made ≤ _; omega
  · show t.reads + 1 ≤ _; omega
  · show t.claims ≤ _; omega
theorem rc_nums {k : Nat} (h : Sm t k) (hE : mE (mvs T T.length) t = 0) : Sm (rcV T t) (k + T.length + 3) := by
  have h1 := mv_nums (mvs T T.length) t
  have h2 := run_nums [none, some (1, nought), none] (mV (mvs T T.length) t)
  have hv : rcV T t = runV [none, some (1, nought), none] (mV (mvs T T.length) t) := by unfold rcV; rw [if_pos hE]
  rw [mvs_len] at h1
  obtain ⟨a1, a2, a3, a4⟩ := h
  obtain ⟨b1, b2, b3, _, _, b6⟩ := h1
  obtain ⟨c1, c2, c3, _, _, c6⟩ := h2
  simp only [List.length_cons, List.length_nil] at c1 c6
  rw [hv]
  exact ⟨by omega, by omega, by omega, by omega⟩
def decT (b l : Int) (F : Nat → Int) : List Int := H.decL (1 + l) b (l - 1) F
def decE (b l : Int) (F : Nat → Int) : Int := H.decN (1 + l) b (l - 1) F
theorem dec_cases (b l : Int) (F : Nat → Int) : (decE b l F = 4 ∧ decT b l F = []) ∨ (decE b l F = 0 ∧ H.MayP (1 + l) b (l - 1) (decT b l F)) := H.dec_may
theorem newB (h : Sits w W d t ks) (hf : H.Fine b l i) (hn : b ≤ n) (hL : LiveT t n (-1) cur []) {k : Nat} (hk : Sm t k) (hk2 : k ≤ 10000) {f : Int} (hF : f = if decE b l (cur 1) = 0 ∧ decT b l (cur 1) = [] then 0 else 4) :
    Calls Try.prog 11 #[ptr d, .agg (layA b l i)] W fun e W' => ∃ v t', e = .returned (.tuple #[v, .int .i64 f]) ∧ Sits w W' d t' ks ∧ LiveT t' n (-1) cur [] ∧ Sm t' (k + 3) ∧ t'.made = t.made := by
  have hn' : b ≤ t.n := by rw [hL.n]; exact hn
  have eT : tgT b l t = decT b l (cur 1) := by unfold tgT decT; rw [hL.cur]
  have eE : tgE b l t = decE b l (cur 1) := by unfold tgE decE; rw [hL.cur]
  rcases dec_cases b l (cur 1) with ⟨c1, c2⟩ | ⟨c1, c2⟩
  · rw [c1, if_neg (by intro q; exact absurd q.1 (by decide))] at hF
    subst hF
    exact (newL_bad h hf hn' hL.stop (hk.rm (by omega)) (by rw [eE, c1])).mono fun e W' ⟨h1, h2⟩ => ⟨_, _, h1, h2, hL.readS, hk.readS.le (by omega), rfl⟩
  · by_cases h0 : decT b l (cur 1) = []
    · rw [c1, if_pos ⟨rfl, h0⟩] at hF
      subst hF
      refine (newL_ok h hf hn' hL.stop (hk.rm (by omega)) (by rw [eT, h0]) (by rw [eE, c1])).mono ?_
      rintro e W' ⟨g, h1, s, h2, _⟩
      obtain ⟨c, mb, v, h3⟩ := h2.toSits
      obtain ⟨q1, q2, q3, q4, q5, q6, q7⟩ := hL.readS.claim
      have hs := hk.readS
      refine ⟨_, _, h1, h3.drop (fun p hp => List.mem_cons_of_mem _ hp), q1, ⟨?_, ?_, ?_, ?_⟩, ?_⟩
      · rw [q7]; have := hs.ops; omega
      · rw [q5]; have := hs.made; omega
      · rw [q6]; have := hs.reads; omega
      · rw [q2]; have := hs.claims; omega
      · rw [q5]; rfl
    · rw [c1, if_neg (fun q => h0 q.2)] at hF
      subst hF
      have hlen := c2.1
      have hl := hf.2.1
      exact (newL_some h hf hn' hL.stop (hk.rm (by omega)) (by rw [eT]; exact h0) (by rw [eE, c1]) (by rw [eT]; omega)).mono fun e W' ⟨h1, h2⟩ => ⟨_, _, h1, h2, hL.readS, hk.readS.le (by omega), rfl⟩
theorem recNone (h : Sits w W d t ks) (hf : H.Fine b l i) (hn : b ≤ n) (hL : LiveT t n (-1) cur []) {k : Nat} (hk : Sm t k) (hk2 : k ≤ 10000) (h0 : decT b l (cur 1) = []) {E : Int} (hE : decE b l (cur 1) = E) :
    Calls Try.prog 13 #[ptr d, .agg (layA b l i)] W fun e W' => ∃ t', e = .returned (.tuple #[.int .i64 0, .int .i64 E]) ∧ Sits w W' d t' ks ∧ LiveT t' n (-1) cur [] ∧ Sm t' (k + 1) ∧ t'.made = t.made := by
  have eT : tgT b l t = decT b l (cur 1) := by unfold tgT decT; rw [hL.cur]
  have eE : tgE b l t = decE b l (cur 1) := by unfold tgE decE; rw [hL.cur]
  exact (recover_empty h hf (by rw [hL.n]; exact hn) hL.stop (hk.rm (by omega)) (by rw [eT, h0])).mono fun e W' ⟨h1, h2⟩ => ⟨_, by rw [h1, eE, hE], h2, hL.readS, hk.readS, rfl⟩
theorem recSome (h : Sits w W d t ks) (hf : H.Fine b l i) (hn : b ≤ n) (hL : LiveT t n (-1) cur []) {k : Nat} (hk : Sm t k) (hk2 : k ≤ 10000) (hT : decT b l (cur 1) = T) (h0 : T ≠ []) (hE : decE b l (cur 1) = 0) (hM : H.MayP (1 + l) b (l - 1) T) :
    Calls Try.prog 13 #[ptr d, .agg (layA b l i)] W fun e W' => ∃ t', e = .returned (.tuple #[.int .i64 (T.length : Int), .int .i64 0]) ∧ Sits w W' d t' ks ∧ LiveT t' n (-1) (fun j => if 1 = j then nought else curK T cur T.length j) [] ∧ Sm t' (k + 1000) := by
  have eT : tgT b l t = T := by unfold tgT; rw [hL.cur]; exact hT
  have eE : tgE b l t = 0 := by unfold tgE; rw [hL.cur]; exact hE
  have hlen := hM.1
  have hl := hf.2.1
  have hlb : 1 + l ≤ b := by have := hf.2.2.2.2.2; have h3 := hf.2.2.1; unfold H.dataAt H.bitsAt H.nodeB H.bitsB at this; omega
  obtain ⟨r1, r2⟩ := rec_free hL.readS hM hn hf.1 hlb
  have rE := (rec_moves hL.readS hM hn hf.1 hlb T.length (Nat.le_refl _)).1
  have hR := recover_some h hf (by rw [hL.n]; exact hn) hL.stop (by rw [eT]; exact h0) eE (by rw [eT]; omega) (hk.rm (by rw [eT]; omega))
  rw [eT] at hR
  refine hR.mono fun e W' ⟨h1, h2⟩ => ⟨_, ?_, h2, r2, (rc_nums hk.readS rE).le (by omega)⟩
  rw [h1, r1, if_pos rfl]
theorem imageB (h : Sits w W d t ks) (hL : LiveT t n (-1) cur []) {m : List Cel} (hr : Rise (-1) m) (hs : Sound m) (hm : ∀ j, atL m j = cur j) :
    Calls Try.prog 17 #[.pointer (some ⟨d, 0, none⟩)] W fun e W' => ∃ g, e = .returned (.agg #[.int .i64 n, .slice (some ⟨g, 0, none⟩) m.length m.length]) ∧ W'.heap[g]? = some (.cells (celCells m).toArray 59) ∧ Sits w W' d t ks := by
  have h' := h
  obtain ⟨L, rfl, hS⟩ := h
  refine (image_walk hS.disk).mono ?_
  rintro e W' ⟨g, lx, h1, h2, h3, h4, h5⟩
  obtain rfl := image_cur hL hr hs hm h2
  rw [hL.n] at h1
  exact ⟨g, h1, h3, h'.later h5⟩
theorem img_row {W : World} {g : Nat} {m : List Cel} (h : W.heap[g]? = some (.cells (celCells m).toArray 59)) : ImgAt W (some ⟨g, 0, none⟩) m := fun _ => ⟨g, 0, rfl, (Array.getElem?_eq_some_iff.1 h).1, fun k c hc => by have := row_cel h hc; rw [Nat.zero_add]; exact this⟩
theorem rises_rise {n : Int} : ∀ (l : List Cel) (a : Int), risesB n a l = true → Rise a l
  | [], _, _ => trivial
  | (i, x) :: t, a, h => by
    unfold risesB at h
    simp at h
    exact ⟨by omega, rises_rise t i h.2⟩
theorem may_rises {n : Int} {l : List Cel} (h : mayB n l = true) : bndB n = true ∧ risesB n (-1) l = true := by
  unfold mayB at h
  simpa using h
theorem rises_sound {n : Int} {l : List Cel} {a : Int} (ha : -1 ≤ a) (h : risesB n a l = true) (hc : ∀ c ∈ l, Can c.2) : Sound l := fun c hm => by
  have h1 := (rises_bounds l a ha h c hm).2.2
  refine ⟨hc c hm, fun q => ?_⟩
  rw [((hc c hm).blank).2 q] at h1
  cases h1
theorem lastV_none {k : Int} : ∀ (l : List Cel) (x : Nat → Int), (∀ c ∈ l, c.1 ≠ k) → lastV x l k = x
  | [], _, _ => rfl
  | c :: t, x, h => by
    unfold lastV
    rw [if_neg (h c (by simp))]
    exact lastV_none t x fun c hc => h c (by simp [hc])
theorem rise_ne : ∀ (l : List Cel) (m : Int), Rise m l → ∀ c ∈ l, m < c.1
  | [], _, _, c, hc => by simp at hc
  | (i, x) :: t, m, h, c, hc => by
    rcases List.mem_cons.1 hc with rfl | hc
    · exact h.1
    · have := rise_ne t i h.2 c hc
      have := h.1
      omega
theorem lastV_at {k : Int} : ∀ (l : List Cel) (m : Int), Rise m l → lastV nought l k = atL l k
  | [], _, _ => rfl
  | (i, x) :: t, m, h => by
    unfold lastV atL
    simp only
    by_cases e : i = k
    · rw [if_pos e, if_pos e]
      exact lastV_none t x fun c hc q => by have := rise_ne t i h.2 c hc; omega
    · rw [if_neg e, if_neg e]
      exact lastV_at t i h.2
theorem load_live {m : List Cel} (h : mayB n m = true) (hc : ∀ c ∈ m, Can c.2) (hok : Ok (loadV n m)) : LiveT (loadV n m) n (-1) (atL m) [] ∧ Sm (loadV n m) 0 := by
  obtain ⟨hh, e⟩ := holdAll_same m (newV n)
  have hg : ∀ k, ((loadV n m).held k).getD nought = atL m k := fun k => by
    unfold loadV
    rw [holdAll_get m (newV n) hc]
    exact lastV_at m (-1) (rises_rise m _ (may_rises h).2)
  have ew : (loadV n m).wait = [] := by unfold loadV; rw [e]; rfl
  refine ⟨⟨hok, by unfold loadV; rw [e]; rfl, by unfold loadV; rw [e]; rfl, by unfold loadV; rw [e]; rfl, ?_, ew⟩, ?_⟩
  · funext k
    unfold curV
    rw [ew]
    exact hg k
  · unfold loadV
    rw [e]
    exact ⟨Nat.le_refl _, Int.le_refl _, Int.le_refl _, Int.le_refl _⟩
theorem load_made (n : Int) (m : List Cel) : (loadV n m).made = 0 := by
  obtain ⟨hh, e⟩ := holdAll_same m (newV n)
  unfold loadV
  rw [e]
  rfl
theorem loadB {m : List Cel} (p : Option Addr) (cap : Nat) (hl : m.length ≤ 300) (hi : ImgAt W p m) (hc : ∀ c ∈ m, Can c.2) (hm : mayB n m = true) :
    Calls Try.prog 7 #[.agg #[.int .i64 n, .slice p m.length cap]] W fun e W' => ∃ d, e = .returned (.tuple #[.pointer (some ⟨d, 0, none⟩), .int .i64 0]) ∧ Sits W W' d (loadV n m) [] ∧ LiveT (loadV n m) n (-1) (atL m) [] ∧ Sm (loadV n m) 0 := by
  refine (load_ok n m p cap W (by omega) hi hc hm).mono ?_
  rintro e W' ⟨L, rfl, hD, hL, hb⟩
  obtain ⟨q1, q2⟩ := load_live hm hc hD.ok
  exact ⟨L.d, rfl, ⟨L, rfl, hD, hL, hb, fun p hp => by simp at hp⟩, q1, q2⟩
end Go.Proofs.Ytglcliokhlafoaa
