/- Several texts joined: the log, its cache and its disk, of the program and of the document; no condition. -/
import Derived.Test.YtichojdcoegboaaGreatK33
namespace Go.Proofs.YtichojdcoegboaaGreatW
open Go.RowKit Go.Maps
section
variable {w W W' V : World} {q r : Nat} {y y' : RL} {u u' : RSt} {l : List Part}
def rcmE (y : RL) (u : RSt) : Int := if rrunE (rcOps y) u = 0 then 0 else 3
def rcmY (y : RL) (u : RSt) : RL := if rrunE (rcOps y) u = 0 then { y with grp := [], commit := y.commit + 1 } else y
theorem RCmt.eq {e : Ending} (h : RCmt w q r y u l e W') : e = .returned (.int .i64 (rcmE y u)) ∧ DL w W' q r (rcmY y u) (rrunV (rcOps y) u) l := by
 unfold rcmE rcmY
 split
 ·exact h.1 ‹_›
 ·exact h.2 ‹_›
structure RCan (y : RL) (u : RSt) : Prop where
 fine : H.Fine y.b y.l y.i
 len : y.grp.length ≤ 255
 au : H.AllU (y.grp.map (·.1))
 may : H.mayB (1 + y.l) y.b (y.l - 1) (y.grp.map (·.1)) = true
 room : ∀ a b, rcOps y = a ++ b → RRoom (rrunV a u)
 cm : 0 ≤ y.commit ∧ y.commit ≤ 1099511627776
theorem DL.commits_ (h : DL w W q r y u l) (hC : RCan y u) : Calls Tryz.prog 83 #[.pointer (some ⟨q, 0, none⟩)] W fun e W' => e = .returned (.int .i64 (rcmE y u)) ∧ DL w W' q r (rcmY y u) (rrunV (rcOps y) u) l :=
 (h.commit hC.fine hC.len hC.au hC.may hC.room hC.cm).mono fun _ _ h => h.eq
theorem DL.begin_over (h : DL w W q r y u l) (hc : rchE y u = 0) (hs : y.step = false) (hC : RCan y u) {n : Int} (hn : 1 ≤ n ∧ n ≤ y.l - 1 ∧ y.l - 1 < (y.grp.length : Int) + n) : Calls Tryz.prog 34 #[.pointer (some ⟨q, 0, none⟩), .int .i64 n] W fun e W' => e = .returned (.int .i64 (rcmE y u)) ∧ DL w W' q r (if rcmE y u = 0 then rBegin (rcmY y u) n else rcmY y u) (rrunV (rcOps y) u) l := by
 have H0 := Hid.mk' (h.live hc)
 have HC : Hid (∀ V, DL w V q r y u l → Calls Tryz.prog 83 #[.pointer (some ⟨q, 0, none⟩)] V fun e W' => e = .returned (.int .i64 (rcmE y u)) ∧ DL w W' q r (rcmY y u) (rrunV (rcOps y) u) l) := fun V hV => hV.commits_ hC
 have hl2 := fine_log hC.fine
 have hgl := hC.len
 have hw : IntKind.i64.wrap (y.l - 1) = y.l - 1 := by rw [IntKind.wrap_i64]; omega
 obtain ⟨G, hG⟩ : ∃ G, y.grp.length = G := ⟨_, rfl⟩
 have hw2 : IntKind.i64.wrap ((G : Int) + n) = (G : Int) + n := by rw [IntKind.wrap_i64]; omega
 have g1 : decide (n < 1) = false := decide_eq_false (by omega)
 have g2 : decide (y.l - 1 < n) = false := decide_eq_false (by omega)
 have g3 : decide (y.l - 1 < (G : Int) + n) = true := decide_eq_true (by omega)
 have HG := Hid.mk' hG
 clear h hG hC
 generalize rcmE y u = E at *
 generalize rcmY y u = z at *
 generalize rrunV (rcOps y) u = U at *
 go_enter Tryz.func34, Tryz.ntmps34
 go_wp2_with (first | (go_at_call 51; fail))
 refine H0.out.mono ?_
 rintro e W1 ⟨rfl, _, h1⟩
 have H1 := Hid.mk' h1
 obtain ⟨Y, hl⟩ := h1.at
 have c13 := hl.c13
 have c2 := hl.c2
 have c12 := hl.c12
 obtain ⟨p, c, hv, _⟩ := own_slice hl.grp
 rw [hv, HG.out] at c12
 rw [hs] at c13
 clear h1 hl H0 hl2 hn hv hgl
 go_wp2
 go_quiet (fail)
 have HC1 := Hid.mk' (HC.out _ (H1.out.later (below_drewN W1 nq)))
 clear H1 HC c13 c2 c12
 go_wp2_with (first | (go_at_call 83; fail))
 refine HC1.out.mono ?_
 rintro e W2 ⟨rfl, h2⟩
 have H2 := Hid.mk' h2
 by_cases h0 : E = 0
 ·subst h0
  obtain ⟨Y2, hl⟩ := h2.at
  have c13 := hl.c13
  have f13 := hl.free 13
  have f14 := hl.free 14
  have f15 := hl.free 15
  have c14 := hl.c14
  have c15 := hl.c15
  have H3 := Hid.mk' (H2.out.set 13 (.bool true) (y' := { z with step := true }) (fun _ _ => rfl) rfl rfl)
  have H4 := Hid.mk' (H3.out.set 14 (.int .i64 n) (y' := { z with step := true, room := n }) (fun _ _ => rfl) rfl rfl)
  have H5 := Hid.mk' H4.out.noWrote
  clear h2 hl HC1
  go_wp2
  go_ret
  exact ⟨rfl, H5.out⟩
 ·have hb : (E != 0) = true := by simp [h0]
  clear h2 HC1
  go_wp2
  go_ret
  refine ⟨rfl, ?_⟩
  first | exact H2.out | (rw [if_neg h0]; exact H2.out)
theorem DL.sync_no (h : DL w W q r y u l) (hc : rchE y u = 0) (hs : y.step = true) : Calls Tryz.prog 39 #[.pointer (some ⟨q, 0, none⟩)] W fun e W' => e = .returned (.int .i64 180) ∧ DL w W' q r y u l := by
 have H0 := Hid.mk' (h.live hc)
 clear h
 go_enter Tryz.func39, Tryz.ntmps39
 go_wp2_with (first | (go_at_call 51; fail))
 refine H0.out.mono ?_
 rintro e W1 ⟨rfl, _, h1⟩
 obtain ⟨Y, hl⟩ := h1.at
 have c13 := hl.c13
 rw [hs] at c13
 have H1 := Hid.mk' h1
 clear h1 hl H0
 go_wp2
 go_ret
 exact ⟨rfl, H1.out⟩
theorem DL.sync_none (h : DL w W q r y u l) (hc : rchE y u = 0) (hs : y.step = false) (hg : y.grp = []) : Calls Tryz.prog 39 #[.pointer (some ⟨q, 0, none⟩)] W fun e W' => e = .returned (.int .i64 0) ∧ DL w W' q r y u l := by
 have H0 := Hid.mk' (h.live hc)
 have HG := Hid.mk' hg
 clear h
 go_enter Tryz.func39, Tryz.ntmps39
 go_wp2_with (first | (go_at_call 51; fail))
 refine H0.out.mono ?_
 rintro e W1 ⟨rfl, _, h1⟩
 obtain ⟨Y, hl⟩ := h1.at
 have c13 := hl.c13
 rw [hs] at c13
 have c12 := hl.c12
 obtain ⟨p, c, hv, _⟩ := own_slice hl.grp
 rw [hv, HG.out, List.length_nil] at c12
 have H1 := Hid.mk' h1
 clear h1 hl H0 hv
 go_wp2
 go_ret
 exact ⟨rfl, H1.out⟩
theorem DL.sync_ok (h : DL w W q r y u l) (hc : rchE y u = 0) (hs : y.step = false) (hg : y.grp ≠ []) (hC : RCan y u) : Calls Tryz.prog 39 #[.pointer (some ⟨q, 0, none⟩)] W fun e W' => e = .returned (.int .i64 (rcmE y u)) ∧ DL w W' q r (rcmY y u) (rrunV (rcOps y) u) l := by
 have H0 := Hid.mk' (h.live hc)
 have HC : Hid (∀ V, DL w V q r y u l → Calls Tryz.prog 83 #[.pointer (some ⟨q, 0, none⟩)] V fun e W' => e = .returned (.int .i64 (rcmE y u)) ∧ DL w W' q r (rcmY y u) (rrunV (rcOps y) u) l) := fun V hV => hV.commits_ hC
 obtain ⟨G, hG⟩ : ∃ G, y.grp.length = G := ⟨_, rfl⟩
 have hG0 : ((G : Int) == 0) = false := by
  have : 0 < G := by rw [← hG]; exact List.length_pos_iff.2 hg
  simp; omega
 have HG := Hid.mk' hG
 clear h hC hG
 generalize rcmE y u = E at *
 generalize rcmY y u = z at *
 generalize rrunV (rcOps y) u = U at *
 go_enter Tryz.func39, Tryz.ntmps39
 go_wp2_with (first | (go_at_call 51; fail))
 refine H0.out.mono ?_
 rintro e W1 ⟨rfl, _, h1⟩
 obtain ⟨Y, hl⟩ := h1.at
 have c13 := hl.c13
 rw [hs] at c13
 have c12 := hl.c12
 obtain ⟨p, c, hv, _⟩ := own_slice hl.grp
 rw [hv, HG.out] at c12
 have HC1 := Hid.mk' (HC.out _ h1)
 clear h1 hl H0 hv HC
 go_wp2_with (first | (go_at_call 83; fail))
 refine HC1.out.mono ?_
 rintro e W2 ⟨rfl, h2⟩
 have H2 := Hid.mk' h2
 clear h2 HC1
 go_wp2
 go_ret
 exact ⟨rfl, H2.out⟩
theorem rclose_of {E : Int} (hS : Calls Tryz.prog 39 #[.pointer (some ⟨q, 0, none⟩)] W fun e W' => e = .returned (.int .i64 E) ∧ DL w W' q r y u l) : Calls Tryz.prog 49 #[.pointer (some ⟨q, 0, none⟩)] W fun e W' => e = .returned (.int .i64 E) ∧ DL w W' q r (if E = 0 then { y with made := false } else y) u l := by
 have H0 := Hid.mk' hS
 clear hS
 go_enter Tryz.func49, Tryz.ntmps49
 go_wp2_with (first | (go_at_call 39; fail))
 refine H0.out.mono ?_
 rintro e W1 ⟨rfl, h1⟩
 have H1 := Hid.mk' h1
 by_cases h0 : E = 0
 ·subst h0
  obtain ⟨Y, hl⟩ := h1.at
  have c11 : W1.cell? ⟨q, 11, none⟩ = some (.bool y.made) := hl.cell 11
  have f11 := hl.free 11
  have H2 := Hid.mk' (H1.out.set 11 (.bool false) (y' := { y with made := false }) (fun _ _ => rfl) rfl rfl)
  clear h1 hl H0
  go_wp2
  go_ret
  exact ⟨rfl, H2.out⟩
 ·have hb : (E == 0) = false := by simp [h0]
  clear h1 H0
  go_wp2
  go_ret
  refine ⟨rfl, ?_⟩
  first | exact H1.out | (rw [if_neg h0]; exact H1.out)
end
section
variable {w W W' V : World} {r : Nat} {u u' : RSt} {ps : List Part}
theorem refDec_all (b l i a d e f g : Int) (F : Nat → Int) (w : World) (hs : H.standsB b l i a (1 + l) d e f g = true) (hl : 32 ≤ l ∧ l ≤ 256) (hF : ∀ i, 0 ≤ F i ∧ F i ≤ 255) :
  Calls Tryz.prog 113 #[.agg (H.lay9 b l i a (1 + l) d e f g), .agg (blk F)] w fun e' w' => ∃ p k, e' = .returned (.tuple #[.agg #[.slice p (H.decL (1 + l) b (l - 1) F).length k], .int .i64 (H.decN (1 + l) b (l - 1) F)]) ∧ H.IntsAt w' p (H.decL (1 + l) b (l - 1) F) ∧ (∀ b off, p = some ⟨b, off, none⟩ → w.heap.size ≤ b) ∧ Below w.heap.size w w' := by
 have h0 := H.numN_bd F hF 4 0
 by_cases h1 : H.numN F 0 4 ≤ l - 1
 ·have hN : H.numN F 0 4 = ((H.numN F 0 4).toNat : Int) := by omega
  by_cases h2 : H.mayB (1 + l) b (l - 1) (H.tgts F (H.numN F 0 4).toNat) = true
  ·have e1 : H.decL (1 + l) b (l - 1) F = H.tgts F (H.numN F 0 4).toNat := if_pos ⟨h1, h2⟩
   have e2 : H.decN (1 + l) b (l - 1) F = 0 := if_pos ⟨h1, h2⟩
   rw [e1, e2, H.tgts_len]
   refine (H.refDec_in b l i a (1 + l) d e f g F _ w hs hl hF hN (by omega)).mono ?_
   rintro e' W' ⟨p, c, rfl, hI, hp, hB⟩
   rw [if_pos h2, if_pos h2]
   exact ⟨p, c, rfl, hI h2, hp, hB⟩
  ·have e1 : H.decL (1 + l) b (l - 1) F = [] := if_neg fun q => h2 q.2
   have e2 : H.decN (1 + l) b (l - 1) F = 4 := if_neg fun q => h2 q.2
   rw [e1, e2]
   refine (H.refDec_in b l i a (1 + l) d e f g F _ w hs hl hF hN (by omega)).mono ?_
   rintro e' W' ⟨p, c, rfl, hI, hp, hB⟩
   rw [if_neg h2, if_neg h2]
   exact ⟨p, c, rfl, fun q => absurd q (by simp), hp, hB⟩
 ·unfold H.decL H.decN
  rw [if_neg (fun q => h1 q.1), if_neg (fun q => h1 q.1)]
  refine (H.refDec_more b l i a (1 + l) d e f g F w hs hl hF (by omega)).mono ?_
  rintro e' W' ⟨rfl, hB⟩
  exact ⟨none, 0, rfl, fun q => absurd q (by simp), fun _ _ q => (by cases q), hB⟩
set_option maxRecDepth 20000 in
set_option maxHeartbeats 2000000 in
theorem RDs.may (h : RDs w W r u ps) (b l i a c d e f g : Int) : Calls Tryz.prog 112 #[.pointer (some ⟨r, 0, none⟩), .agg (H.lay9 b l i a c d e f g)] W fun e' W' => e' = .returned (.bool (H.standsB b l i a c d e f g && decide (b ≤ u.n))) ∧ Below W.heap.size W W' := by
 have hc := Hid.mk' (fun w => H.fits3_any b l i a c d e f g w)
 have H0 := Hid.mk' (h.later (below_new W (.cells (H.lay9 b l i a c d e f g) 59)))
 have h0 := heap_alloc_new W (.cells (H.lay9 b l i a c d e f g) 59)
 have HB := Hid.mk' (below_new W (.cells (H.lay9 b l i a c d e f g) 59))
 have hsz : (H.lay9 b l i a c d e f g).size = 9 := rfl
 have HL0 : Hid ((H.lay9 b l i a c d e f g)[0]? = some (.int .i64 b)) := rfl
 generalize H.standsB b l i a c d e f g = S at *
 generalize H.lay9 b l i a c d e f g = L at *
 clear h
 obtain ⟨n, hn⟩ : ∃ n, u.n = n := ⟨_, rfl⟩
 have HN := Hid.mk' hn
 rw [hn]
 clear hn
 go_enter Tryz.func112, Tryz.ntmps112
 go_upto_region 1 with fail
 generalize W.alloc (.cells L 59) = V at *
 go_wp2_with (first | (with_reducible refine H.isLoad 59 ?_; refine H.wpList_loadL rfl _ rfl _ rfl _ hsz h0 ?_) | (go_at_call 138; fail))
 refine (hc.out V).mono ?_
 rintro e' X ⟨rfl, hbX⟩
 have c0 : X.drew.cell? ⟨W.heap.size, 0, none⟩ = some (.int .i64 b) := by rw [← HL0.out]; exact Joins.cell_of_block (heap_kept h0 hbX) 0
 have HD := Hid.mk' (((H0.out.later hbX).later (W' := X.drew) ⟨rfl, rfl, rfl, Nat.le_refl _, fun _ _ => rfl⟩).len)
 have HB2 : Hid (Below W.heap.size W X.drew) := (below_next HB.out hbX).drew
 clear hbX H0 h0 HB hc
 go_upto_region 2 with fail
 refine wp_region_ord (S := fun u => u.cell? ⟨W.heap.size, 0, none⟩ = some (.int .i64 b)) [(0, true), (1, true), (2, true), (3, true), (4, true), (5, true), (6, false), (7, true), (8, true), (9, true)] (by kernel_rfl) rfl (by kernel_rfl) (fun d _ _ _ _ h => by cases d <;> exact h) c0 ?_
 simp only [inOrd, List.getElem?_cons_zero, List.getElem?_cons_succ]
 cases S
 ·refine wpOrd_yield (v := .bool false) rfl (fun v hv => by simp [execOp, Act.eval]) ?_
  simp only [Act.put, pA, pB, pC]
  refine wpOrd_yield (v := .bool false) rfl (fun v hv => by simp [execOp, Act.eval]) ?_
  simp only [Act.put, pA, pB, pC]
  refine wpOrd_skip c0 rfl ?_
  refine wpOrd_skip c0 rfl ?_
  refine wpOrd_skip c0 rfl ?_
  refine wpOrd_skip c0 rfl ?_
  refine wpOrd_skip c0 rfl ?_
  refine wpOrd_skip c0 rfl ?_
  simp only [Act.put, pA, pB, pC]
  refine wpOrd_yield (v := .bool false) rfl (fun v hv => by go_simp) ?_
  simp only [Act.put, pA, pB, pC]
  refine wpOrd_yield (v := .bool false) rfl (fun v hv => by go_simp) ?_
  simp only [Act.put, pA, pB, pC]
  refine wpOrd_nil ?_
  clear c0 HD
  generalize X.drew = Z at *
  go_wp2
  go_ret
  exact ⟨rfl, HB2.out⟩
 ·refine wpOrd_yield (v := .bool true) rfl (fun v hv => by simp [execOp, Act.eval]) ?_
  simp only [Act.put, pA, pB, pC]
  refine wpOrd_yield (v := .bool true) rfl (fun v hv => by simp [execOp, Act.eval]) ?_
  simp only [Act.put, pA, pB, pC]
  refine wpOrd_yield (v := .pointer (some ⟨W.heap.size, 0, none⟩)) rfl (fun v hv => by go_simp) ?_
  simp only [Act.put, pA, pB, pC]
  refine wpOrd_yield (v := .pointer (some ⟨W.heap.size, 0, none⟩)) rfl (fun v hv => by go_simp) ?_
  simp only [Act.put, pA, pB, pC]
  refine wpOrd_yield (v := .int .i64 b) rfl (fun v hv => by go_simp) ?_
  simp only [Act.put, pA, pB, pC]
  refine wpOrd_yield (v := .pointer (some ⟨r, 0, none⟩)) rfl (fun v hv => by simp [execOp, Act.eval]) ?_
  simp only [Act.put, pA, pB, pC]
  refine wpOrd_call rfl 141 _ _ rfl Tryz.call141 [.pointer (some ⟨r, 0, none⟩)] rfl ?_
  refine HD.out.mono ?_
  rintro e Y ⟨rfl, rfl⟩
  refine ⟨_, rfl, c0, ?_⟩
  rw [HN.out]
  simp only [Act.put, pA, pB, pC]
  refine wpOrd_yield (v := .bool (decide (b ≤ n))) rfl (fun v hv => by go_simp) ?_
  simp only [Act.put, pA, pB, pC]
  refine wpOrd_yield (v := .bool (decide (b ≤ n))) rfl (fun v hv => by go_simp) ?_
  simp only [Act.put, pA, pB, pC]
  refine wpOrd_yield (v := .bool (decide (b ≤ n))) rfl (fun v hv => by go_simp) ?_
  simp only [Act.put, pA, pB, pC]
  refine wpOrd_nil ?_
  clear c0 HD
  generalize X.drew = Z at *
  generalize hD : decide (b ≤ n) = D at *
  go_wp2
  go_ret
  exact ⟨by simp [hD], HB2.out⟩
end
def oP (g : Nat) (o : Obj) : Part := ⟨fun k => k = g, fun W => W.heap[g]? = some o⟩
theorem oP_good (g : Nat) (o : Obj) : (oP g o).Good := fun _ _ h _ hb => (hb g rfl).trans h
section
variable {w W W' V : World} {r : Nat} {u u' : RSt} {ps : List Part}
theorem RDs.boxO (h : RDs w W r u ps) (o : Obj) : RDs w (W.alloc o) r u (oP W.heap.size o :: ps) := by
 obtain ⟨R, hg, h⟩ := h.out
 refine ⟨R, hg, (h.add (p := oP W.heap.size o) (below_new W _) (oP_good _ _) (heap_alloc_new _ _) fun k hk => ?_).swap⟩
 obtain rfl : k = W.heap.size := hk
 simp
theorem RDs.atO {g : Nat} {o : Obj} (h : RDs w W r u ps) (hm : oP g o ∈ ps) : W.heap[g]? = some o := h.say hm
theorem RDs.reO {g : Nat} {cs : Array Value} {t : TypeId} (h : RDs w W r u (oP g (.cells cs t) :: ps)) (cs' : Array Value) : RDs w (W.setRow g cs') r u (oP g (.cells cs' t) :: ps) := by
 have hb := h.atO (g := g) (o := .cells cs t) (by simp)
 obtain ⟨R, hg, h⟩ := h.out
 refine ⟨R, hg, (h.swap.turn (p' := oP g (.cells cs' t)) (T := fun k => k = g) (Fr.setRow W g _) (fun k _ e => e) (oP_good _ _) (setRow_heap _ _ _ _ _ (0, 0) hb) fun k hk => ⟨.inl hk, ?_⟩).swap⟩
 obtain rfl : k = g := hk
 have := (Array.getElem?_eq_some_iff.1 hb).1
 simpa using this
def lsI (p : Option Addr) (T : List Int) : Part := ⟨fun k => ∃ off, p = some ⟨k, off, none⟩ ∧ 0 < T.length, fun W => H.IntsAt W p T⟩
theorem lsI_good (p : Option Addr) (T : List Int) : (lsI p T).Good := fun W W' h _ hb h0 => by
 obtain ⟨b, off, h1, h2, h3⟩ := h h0
 have e := hb b ⟨off, h1, h0⟩
 refine ⟨b, off, h1, ?_, fun j x hx => by rw [cell_same e]; exact h3 j x hx⟩
 rw [Array.getElem?_eq_getElem h2] at e
 exact (Array.getElem?_eq_some_iff.1 e).1
theorem RDs.perm {qs : List Part} (h : RDs w W r u ps) (hp : ps.Perm qs) : RDs w W r u qs := by
 obtain ⟨R, hg, h⟩ := h.out
 exact ⟨R, hg, h.perm (List.Perm.cons _ hp)⟩
theorem RDs.addL (h : RDs w W r u ps) (hb : Below W.heap.size W W') {p : Option Addr} {T : List Int} (hI : H.IntsAt W' p T) (hp : ∀ b off, p = some ⟨b, off, none⟩ → W.heap.size ≤ b) : RDs w W' r u (lsI p T :: ps) := by
 obtain ⟨R, hg, h⟩ := h.out
 refine ⟨R, hg, (h.add (p := lsI p T) hb (lsI_good _ _) hI fun k hk => ?_).swap⟩
 obtain ⟨off, h1, h0⟩ := hk
 obtain ⟨b, off', e1, h2, _⟩ := hI h0
 rw [h1] at e1
 injection e1 with e1
 injection e1 with e1 _
 subst e1
 exact ⟨hp _ _ h1, h2⟩
theorem RDs.noL (h : RDs w W r u ps) : RDs w W r u (lsI none [] :: ps) := h.addL (Below.refl _ _) (fun q => absurd q (by simp)) fun _ _ q => (by cases q)
def hdT (b l : Int) (u : RSt) : List Int := H.decL (1 + l) b (l - 1) (rCur u 1)
def hdE (b l : Int) (u : RSt) : Int := H.decN (1 + l) b (l - 1) (rCur u 1)
set_option maxRecDepth 20000 in
set_option maxHeartbeats 2000000 in
theorem RDs.header_arg (h : RDs w W r u ps) (b l i a c d e f g : Int) (hn : (H.standsB b l i a c d e f g && decide (b ≤ u.n)) = false) : Calls Tryz.prog 94 #[.pointer (some ⟨r, 0, none⟩), .agg (H.lay9 b l i a c d e f g)] W fun e' W' => e' = .returned (.tuple #[.agg #[.slice none 0 0], .int .i64 2]) ∧ RDs w W' r u (lsI none [] :: ps) := by
 have z129 := H.zero35
 have H0 := Hid.mk' ((h.boxO (.cells (H.lay9 b l i a c d e f g) 59)).boxO (.cells #[.slice none 0 0] 129))
 rw [show (W.alloc (.cells (H.lay9 b l i a c d e f g) 59)).heap.size = W.heap.size + 1 by simp] at H0
 have HM : Hid (∀ V (qs : List Part), RDs w V r u qs → Calls Tryz.prog 112 #[.pointer (some ⟨r, 0, none⟩), .agg (H.lay9 b l i a c d e f g)] V fun e' W' => e' = .returned (.bool false) ∧ Below V.heap.size V W') := fun V qs hV => by have := hV.may b l i a c d e f g; rw [hn] at this; exact this
 have hsz : (H.lay9 b l i a c d e f g).size = 9 := rfl
 generalize H.lay9 b l i a c d e f g = L at *
 clear h hn
 go_enter Tryz.func94, Tryz.ntmps94
 go_upto_region 1 with fail
 generalize (W.alloc (.cells L 59)).alloc (.cells #[.slice none 0 0] 129) = V at *
 have h0 := H0.out.atO (g := W.heap.size) (o := .cells L 59) (by simp)
 go_wp2_with (first | (with_reducible refine H.isLoad 59 ?_; refine H.wpList_loadL rfl _ rfl _ rfl _ hsz h0 ?_) | (go_at_call 112; fail))
 refine (HM.out _ _ H0.out).mono ?_
 rintro e' X ⟨rfl, hb⟩
 have H1 := Hid.mk' (H0.out.later hb)
 have h1 := H1.out.atO (g := W.heap.size + 1) (o := .cells #[.slice none 0 0] 129) (by simp)
 clear hb H0 h0 HM
 go_wp2_with (first | refine H.wpList_store35H rfl _ _ rfl _ _ _ rfl rfl rfl h1 ?_)
 exact H.retCT rfl (W.heap.size + 1) _ rfl (H.load35H _ _ _ (setRow_heap _ _ _ _ _ _ h1)) rfl ⟨rfl, (H1.out.reO #[.slice none 0 0]).drop.drop.noL⟩
set_option maxRecDepth 20000 in
set_option maxHeartbeats 2000000 in
theorem RDs.header_dead (h : RDs w W r u ps) {b l i : Int} (hf : H.Fine b l i) (hn : b ≤ u.n) (hd : u.dead = true) (hr : RRoom u) : Calls Tryz.prog 94 #[.pointer (some ⟨r, 0, none⟩), .agg (layA b l i)] W fun e' W' => e' = .returned (.tuple #[.agg #[.slice none 0 0], .int .i64 3]) ∧ RDs w W' r u (lsI none [] :: ps) := by
 have z129 := H.zero35
 have z64 := zero25
 have H0 := Hid.mk' ((h.boxO (.cells (layA b l i) 59)).boxO (.cells #[.slice none 0 0] 129))
 rw [show (W.alloc (.cells (layA b l i) 59)).heap.size = W.heap.size + 1 by simp] at H0
 have HM : Hid (∀ V (qs : List Part), RDs w V r u qs → Calls Tryz.prog 112 #[.pointer (some ⟨r, 0, none⟩), .agg (layA b l i)] V fun e' W' => e' = .returned (.bool true) ∧ Below V.heap.size V W') := fun V qs hV => by have := hV.may b l i 1 (1 + l) (H.nodeB i) (H.bitsAt l i) (H.bitsB b) (H.dataAt b l i); rw [lay_fine hf, decide_eq_true hn] at this; exact this
 have hv : rRefV u 1 = 3 := by unfold rRefV; rw [hd]; rfl
 have HR : Hid (∀ V (qs : List Part), RDs w V r u qs → Calls Tryz.prog 85 #[.pointer (some ⟨r, 0, none⟩), .int .i64 1] V fun e W' => e = .returned (.tuple #[.agg (blk nought), .int .i64 3]) ∧ RDs w W' r u qs) := fun V qs hV => by
  have := hV.read hr 1
  unfold rReadB rReadV at this
  rw [if_neg (by omega), if_neg (by omega), hv] at this
  exact this
 have hsz : (layA b l i).size = 9 := rfl
 have HL3 : Hid ((layA b l i)[3]? = some (.int .i64 1)) := rfl
 generalize layA b l i = L at *
 clear h hn hf hv
 go_enter Tryz.func94, Tryz.ntmps94
 go_upto_region 1 with fail
 generalize (W.alloc (.cells L 59)).alloc (.cells #[.slice none 0 0] 129) = V at *
 have h0 := H0.out.atO (g := W.heap.size) (o := .cells L 59) (by simp)
 go_wp2_with (first | (with_reducible refine H.isLoad 59 ?_; refine H.wpList_loadL rfl _ rfl _ rfl _ hsz h0 ?_) | (go_at_call 112; fail))
 refine (HM.out _ _ H0.out).mono ?_
 rintro e' X ⟨rfl, hb⟩
 have H1 := Hid.mk' (H0.out.later hb)
 have c3 : X.cell? ⟨W.heap.size, 3, none⟩ = some (.int .i64 1) := by rw [← HL3.out]; exact Joins.cell_of_block (H1.out.atO (g := W.heap.size) (o := .cells L 59) (by simp)) 3
 clear hb H0 h0 HM
 go_wp2_with (first | (go_at_call 85; fail))
 refine (HR.out _ _ H1.out).mono ?_
 rintro e' Y ⟨rfl, h2⟩
 have H2 := Hid.mk' (h2.later (below_new Y (.cells (blk nought) 64)))
 have hx1 := H2.out.atO (g := W.heap.size + 1) (o := .cells #[.slice none 0 0] 129) (by simp)
 clear h2 H1 HR c3
 go_wp2_with (first | refine wpList_store25_new rfl _ _ rfl nought nought rfl rfl ?_ | refine H.wpList_store35H rfl _ _ rfl _ _ _ rfl rfl rfl hx1 ?_)
 exact H.retCT rfl (W.heap.size + 1) _ rfl (H.load35H _ _ _ (setRow_heap _ _ _ _ _ _ hx1)) rfl ⟨rfl, (H2.out.reO #[.slice none 0 0]).drop.drop.noL⟩
set_option maxRecDepth 20000 in
set_option maxHeartbeats 4000000 in
theorem RDs.header_at (h : RDs w W r u ps) {b l i : Int} (hf : H.Fine b l i) (hn : b ≤ u.n) (hd : u.dead = false) (hr : RRoom u) (hF : ∀ k, 0 ≤ rCur u 1 k ∧ rCur u 1 k ≤ 255) : Calls Tryz.prog 94 #[.pointer (some ⟨r, 0, none⟩), .agg (layA b l i)] W fun e' W' => ∃ p k, e' = .returned (.tuple #[.agg #[.slice p (hdT b l u).length k], .int .i64 (hdE b l u)]) ∧ RDs w W' r { u with seen := u.seen + 1 } (lsI p (hdT b l u) :: ps) := by
 have z129 := H.zero35
 have z64 := zero25
 have H0 := Hid.mk' ((h.boxO (.cells (layA b l i) 59)).boxO (.cells #[.slice none 0 0] 129))
 rw [show (W.alloc (.cells (layA b l i) 59)).heap.size = W.heap.size + 1 by simp] at H0
 have HM : Hid (∀ V (qs : List Part), RDs w V r u qs → Calls Tryz.prog 112 #[.pointer (some ⟨r, 0, none⟩), .agg (layA b l i)] V fun e' W' => e' = .returned (.bool true) ∧ Below V.heap.size V W') := fun V qs hV => by have := hV.may b l i 1 (1 + l) (H.nodeB i) (H.bitsAt l i) (H.bitsB b) (H.dataAt b l i); rw [lay_fine hf, decide_eq_true hn] at this; exact this
 have hpos := H.Fine.pos hf
 have hv : rRefV u 1 = 0 := by unfold rRefV; rw [hd]; simp; omega
 have HR : Hid (∀ V (qs : List Part), RDs w V r u qs → Calls Tryz.prog 85 #[.pointer (some ⟨r, 0, none⟩), .int .i64 1] V fun e W' => e = .returned (.tuple #[.agg (blk (rCur u 1)), .int .i64 0]) ∧ RDs w W' r { u with seen := u.seen + 1 } qs) := fun V qs hV => by
  have := hV.read hr 1
  unfold rReadB rReadV at this
  rw [if_pos hv, if_pos hv, hv] at this
  exact this
 have HDc : Hid (∀ V, Calls Tryz.prog 113 #[.agg (layA b l i), .agg (blk (rCur u 1))] V fun e' w' => ∃ p k, e' = .returned (.tuple #[.agg #[.slice p (hdT b l u).length k], .int .i64 (hdE b l u)]) ∧ H.IntsAt w' p (hdT b l u) ∧ (∀ b off, p = some ⟨b, off, none⟩ → V.heap.size ≤ b) ∧ Below V.heap.size V w') := fun V => refDec_all b l i 1 (H.nodeB i) (H.bitsAt l i) (H.bitsB b) (H.dataAt b l i) (rCur u 1) V (lay_fine hf) (fine_log hf) hF
 have hsz : (layA b l i).size = 9 := rfl
 have HL3 : Hid ((layA b l i)[3]? = some (.int .i64 1)) := rfl
 have HT0 : Hid (hdE b l u ≠ 0 → hdT b l u = [] ∧ hdE b l u = 4) := fun h0 => by
  rcases H.dec_may (lo := 1 + l) (hi := b) (m := l - 1) (F := rCur u 1) with q | q
  ·exact ⟨q.2, q.1⟩
  ·exact absurd q.1 h0
 obtain ⟨U, hU⟩ : ∃ U : RSt, { u with seen := u.seen + 1 } = U := ⟨_, rfl⟩
 rw [hU] at HR ⊢
 generalize layA b l i = L at *
 generalize rCur u 1 = F at *
 generalize hdT b l u = T at *
 generalize hdE b l u = E at *
 obtain ⟨N, hN⟩ : ∃ N, T.length = N := ⟨_, rfl⟩
 have HN := Hid.mk' hN
 rw [hN] at HDc ⊢
 clear h hn hf hv hF hN hU hpos
 go_enter Tryz.func94, Tryz.ntmps94
 go_upto_region 1 with fail
 generalize (W.alloc (.cells L 59)).alloc (.cells #[.slice none 0 0] 129) = V at *
 have h0 := H0.out.atO (g := W.heap.size) (o := .cells L 59) (by simp)
 go_wp2_with (first | (with_reducible refine H.isLoad 59 ?_; refine H.wpList_loadL rfl _ rfl _ rfl _ hsz h0 ?_) | (go_at_call 112; fail))
 refine (HM.out _ _ H0.out).mono ?_
 rintro e' X ⟨rfl, hb⟩
 have H1 := Hid.mk' (H0.out.later hb)
 have c3 : X.cell? ⟨W.heap.size, 3, none⟩ = some (.int .i64 1) := by rw [← HL3.out]; exact Joins.cell_of_block (H1.out.atO (g := W.heap.size) (o := .cells L 59) (by simp)) 3
 clear hb H0 h0 HM
 go_wp2_with (first | (go_at_call 85; fail))
 refine (HR.out _ _ H1.out).mono ?_
 rintro e' Y ⟨rfl, h2⟩
 have H2 := Hid.mk' (h2.later (below_new Y (.cells (blk F) 64)))
 have h20 := H2.out.atO (g := W.heap.size) (o := .cells L 59) (by simp)
 have hBx := heap_alloc_new Y (.cells (blk F) 64)
 clear h2 H1 HR c3
 go_wp2_with (first | refine wpList_store25_new rfl _ _ rfl F nought rfl rfl ?_ | (with_reducible refine H.isLoad 59 ?_; refine H.wpList_loadL rfl _ rfl _ rfl _ hsz h20 ?_) | (with_reducible refine H.isLoad 64 ?_; refine wpList_load25 rfl _ rfl Y.heap.size rfl F hBx ?_) | (go_at_call 113; fail))
 refine (HDc.out _).mono ?_
 rintro e' Z ⟨p, k, rfl, hI, hp, hb⟩
 have H4 := Hid.mk' (((H2.out.addL hb hI hp).perm (List.Perm.symm (List.Perm.trans (List.Perm.cons _ (List.Perm.swap _ _ _)) (List.Perm.swap _ _ _)))).later (below_setRow (below_new Z (.cells #[.slice none 0 0] 129)) (Nat.le_refl _) #[.slice p N k]))
 have hz0 := heap_alloc_new Z (.cells #[.slice none 0 0] 129)
 have hz1 := setRow_heap (Z.alloc (.cells #[.slice none 0 0] 129)) Z.heap.size _ #[.slice p N k] 129 (0, 0) hz0
 have h41 := H4.out.atO (g := W.heap.size + 1) (o := .cells #[.slice none 0 0] 129) (by simp)
 clear hI hp hb H2 h20 hBx HDc
 by_cases hE : E = 0
 ·subst hE
  go_wp2_with (first | (with_reducible refine H.isStore 129 ?_; refine H.wpList_store35H rfl (.tmp 9) (.tmp 34) rfl Z.heap.size (.slice p N k) _ rfl rfl rfl hz0 ?_) | (with_reducible refine H.isLoad 129 ?_; refine H.wpList_load35H rfl (.tmp 9) rfl Z.heap.size rfl _ hz1 ?_) | (with_reducible refine H.isStore 129 ?_; refine H.wpList_store35H rfl (.tmp 4) (.tmp 39) rfl (W.heap.size + 1) (.slice p N k) _ rfl rfl rfl h41 ?_))
  exact H.retCT rfl (W.heap.size + 1) _ rfl (H.load35H _ _ _ (setRow_heap _ _ _ _ _ _ h41)) rfl ⟨p, k, rfl, (H4.out.reO #[.slice p N k]).drop.drop⟩
 ·have hb : (E != 0) = true := by simp [hE]
  obtain ⟨rfl, rfl⟩ := HT0.out hE
  obtain rfl : 0 = N := HN.out
  go_wp2_with (first | (with_reducible refine H.isStore 129 ?_; refine H.wpList_store35H rfl (.tmp 9) (.tmp 34) rfl Z.heap.size (.slice p 0 k) _ rfl rfl rfl hz0 ?_) | (with_reducible refine H.isStore 129 ?_; refine H.wpList_store35H rfl (.tmp 4) (.tmp 38) rfl (W.heap.size + 1) (.slice none 0 0) _ rfl rfl rfl h41 ?_))
  exact H.retCT rfl (W.heap.size + 1) _ rfl (H.load35H _ _ _ (setRow_heap _ _ _ _ _ _ h41)) rfl ⟨none, 0, rfl, (H4.out.reO #[.slice none 0 0]).drop.drop.drop.noL⟩
def HdC (w : World) (r : Nat) (u : RSt) (L : Array Value) (T : List Int) (E : Int) (U : RSt) : Prop := ∀ V qs, RDs w V r u qs → Calls Tryz.prog 94 #[.pointer (some ⟨r, 0, none⟩), .agg L] V fun e' W' => ∃ p k, e' = .returned (.tuple #[.agg #[.slice p T.length k], .int .i64 E]) ∧ RDs w W' r U (lsI p T :: qs)
theorem hdc_arg (b l i a c d e f g : Int) (hn : (H.standsB b l i a c d e f g && decide (b ≤ u.n)) = false) : HdC w r u (H.lay9 b l i a c d e f g) [] 2 u := fun _ _ h => (h.header_arg b l i a c d e f g hn).mono fun _ _ ⟨he, h⟩ => ⟨none, 0, he, h⟩
theorem hdc_dead {b l i : Int} (hf : H.Fine b l i) (hn : b ≤ u.n) (hd : u.dead = true) (hr : RRoom u) : HdC w r u (layA b l i) [] 3 u := fun _ _ h => (h.header_dead hf hn hd hr).mono fun _ _ ⟨he, h⟩ => ⟨none, 0, he, h⟩
theorem hdc_at {b l i : Int} (hf : H.Fine b l i) (hn : b ≤ u.n) (hd : u.dead = false) (hr : RRoom u) (hF : ∀ k, 0 ≤ rCur u 1 k ∧ rCur u 1 k ≤ 255) : HdC w r u (layA b l i) (hdT b l u) (hdE b l u) { u with seen := u.seen + 1 } := fun _ _ h => h.header_at hf hn hd hr hF
end
end Go.Proofs.YtichojdcoegboaaGreatW
