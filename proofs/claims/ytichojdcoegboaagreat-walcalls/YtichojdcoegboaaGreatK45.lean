/- Several texts joined: the log, its cache and its disk, of the program and of the document; no condition. -/
import Derived.Test.YtichojdcoegboaaGreatK44
import Derived.BigQuiet
import Derived.Test.YtichojdcoegboaaGreatK43
namespace Go.Proofs.YtichojdcoegboaaGreatW
open Go.RowKit Go.Maps
def IntsAt (w : World) (p : Option Addr) (l : List Int) : Prop := 0 < l.length → ∃ b off, p = some ⟨b, off, none⟩ ∧ b < w.heap.size ∧ ∀ k x, l[k]? = some x → w.cell? ⟨b, off + k, none⟩ = some (.int .i64 x)
theorem belowN {B : Nat} {w W : World} (h : Below B w W) (q : Nat) : Below B w (W.drewN q) := h.trans ⟨rfl, rfl, rfl, Nat.le_refl _, fun _ _ => rfl⟩
set_option maxRecDepth 20000 in
set_option maxHeartbeats 1000000 in
theorem sameInts_any (s t : List Int) (p q : Option Addr) (cp cq : Nat) (w : World) (hls : s.length < 9223372036854775807) (hs : IntsAt w p s) (ht : IntsAt w q t) :
  Calls Tryz.prog 62 #[.slice p s.length cp, .slice q t.length cq] w fun e w' => e = .returned (.bool (decide (s = t))) ∧ Below w.heap.size w w' := by
 by_cases hl : s.length = t.length
 ·have HS : Hid (IntsAt w p s) := hs
  have HT : Hid (IntsAt w q t) := ht
  have HR : Hid (decide (s = t) = decide (s.drop 0 = t.drop 0)) := rfl
  generalize decide (s = t) = res at *
  obtain ⟨n, hn⟩ : ∃ n, s.length = n := ⟨_, rfl⟩
  have hn2 : t.length = n := by omega
  rw [hn, hn2]
  rw [hn] at hls
  have HL : Hid (s.length = n ∧ t.length = n) := ⟨hn, hn2⟩
  clear hs ht hl hn hn2
  go_enter Tryz.func62, Tryz.ntmps62
  go_wp2
  go_loopw [5] (fun s5 wx => ∃ k : Nat, k ≤ n ∧ s5 = .int .i64 k ∧ Hid (Below w.heap.size w wx) ∧ Hid (res = decide (s.drop k = t.drop k))) (fun s5 _ => n - (intOf s5).toNat)
  case atStart => exact ⟨0, by omega, rfl, Below.refl _ _, HR.out⟩
  case round =>
   obtain ⟨k, hk, rfl, HB, HR2⟩ := hrel
   clear HR
   by_cases hk2 : (k : Int) < n
   ·obtain ⟨hn, hn2⟩ := HL.out
    have hc : s[k]? = some s[k] := List.getElem?_eq_getElem (by omega)
    have hd : t[k]? = some t[k] := List.getElem?_eq_getElem (by omega)
    have hcd : s.drop k = s[k] :: s.drop (k + 1) := List.drop_eq_getElem_cons (by omega)
    have hdd : t.drop k = t[k] :: t.drop (k + 1) := List.drop_eq_getElem_cons (by omega)
    obtain ⟨b1, o1, rfl, l1, C1⟩ := HS.out (by omega)
    obtain ⟨b2, o2, rfl, l2, C2⟩ := HT.out (by omega)
    generalize s[k] = c at hc hcd
    generalize t[k] = d at hd hdd
    have q1 : wr.cell? ⟨b1, o1 + k, none⟩ = some (.int .i64 c) := (HB.out.cell (p := ⟨b1, o1 + k, none⟩) l1).trans (C1 k c hc)
    have q2 : wr.cell? ⟨b2, o2 + k, none⟩ = some (.int .i64 d) := (HB.out.cell (p := ⟨b2, o2 + k, none⟩) l2).trans (C2 k d hd)
    have hR := HR2.out
    rw [hcd, hdd] at hR
    clear HR2 C1 C2 hcd hdd hc hd hn hn2
    by_cases hcdd : c = d
    ·subst hcdd
     have HR3 : Hid (res = decide (s.drop (k + 1) = t.drop (k + 1))) := by
      have e : res = decide (s.drop (k + 1) = t.drop (k + 1)) := by rw [hR]; simp
      exact e
     have g0 : decide (c = c) = true := by simp
     clear hR
     go_wp2
     go_quiet (fail)
     go_wp2
     exact ⟨⟨k + 1, by omega, by go_num, belowN HB.out _, HR3.out⟩, by simp [intOf]; omega⟩
    ·have hr0 : res = false := by rw [hR]; simp [hcdd]
     have g0 : decide (c = d) = false := decide_eq_false hcdd
     clear hR
     subst hr0
     go_wp2
     go_quiet (fail)
     go_wp2
     go_ret
     exact ⟨rfl, belowN HB.out _⟩
   ·obtain rfl : k = n := by omega
    have hr0 : res = true := by
     obtain ⟨hn, hn2⟩ := HL.out
     rw [HR2.out, List.drop_of_length_le (by omega), List.drop_of_length_le (by omega)]
     rfl
    subst hr0
    go_wp2
    go_ret
    exact ⟨rfl, HB.out⟩
 ·have e : decide (s = t) = false := decide_eq_false fun q => hl (by rw [q])
  rw [e]
  have hlI : ¬ ((s.length : Int) = t.length) := by omega
  clear e hs ht
  go_enter Tryz.func62, Tryz.ntmps62
  go_wp2
  go_ret
  exact ⟨rfl, Below.refl _ _⟩
set_option maxRecDepth 20000 in
theorem eqLay (x0 x1 x2 x3 x4 x5 x6 x7 x8 : Int) : ∀ w, (Op.equalIn 10000 59 (.agg (H.lay9 x0 x1 x2 x3 x4 x5 x6 x7 x8)) (.agg (H.lay9 x0 x1 x2 x3 x4 x5 x6 x7 x8))).run Tryz.prog w = .ok true w := by
 intro w
 unfold H.lay9
 simp [go_sem]
theorem exec_neqL {o : Oper} {a : Act} {x y : Operand} {R : Array Value} (hR : ∀ w, (Op.equalIn 10000 59 (.agg R) (.agg R)).run Tryz.prog w = .ok true w) (ho : o.op = .binOp .neq 59 x y 59) (hx : a.eval x = .agg R) (hy : a.eval y = .agg R) (u : World) : (execOp a.eval o).run Tryz.prog u = .ok (.value (.bool false)) u := by
 have g : (eqGuard .neq 59 x y (.agg R) (.agg R)).run Tryz.prog u = .ok () u := by
  unfold eqGuard
  simp
 have e : (binOp .neq 59 (.agg R) (.agg R)).run Tryz.prog u = .ok (.bool false) u := by
  simp only [binOp, Op.equal, Op.maxDepth, Sem.run_bind, hR u, Result.andThen_ok, Sem.run_pure]
  rfl
 unfold execOp
 simp only [ho, hx, hy, Sem.run_bind, g, e, Result.andThen_ok, Sem.run_pure]
theorem isNeq59 {ops : Array Oper} {rest : List Oper} {a : Act} {w : World} {Q : Exit → Act → World → Prop} {dst : Option Tmp} {x y : Operand} {ty : TypeId} {pos : String} {aft : Array Edge} {gd : Option (Nat × Bool)} (h : wpList Tryz.prog ops Q (⟨dst, .binOp .neq 59 x y 59, ty, pos, aft, gd⟩ :: rest) a w) : wpList Tryz.prog ops Q (⟨dst, .binOp .neq 59 x y 59, ty, pos, aft, gd⟩ :: rest) a w := h
structure Dsk (I : World → Prop) (d r : Nat) (c : Int) (b : Bool) (T : List Int) : Prop where
 made : ∀ W, I W → Calls Tryz.prog 25 #[.pointer (some ⟨d, 0, none⟩)] W fun e W' => e = .returned (.int .i64 c) ∧ W' = W
 rmade : ∀ W, I W → Calls Tryz.prog 59 #[.pointer (some ⟨r, 0, none⟩)] W fun e W' => e = .returned (.int .i64 c) ∧ W' = W
 stop : ∀ W, I W → Calls Tryz.prog 60 #[.pointer (some ⟨d, 0, none⟩)] W fun e W' => e = .returned (.bool b) ∧ W' = W
 rstop : ∀ W, I W → Calls Tryz.prog 61 #[.pointer (some ⟨r, 0, none⟩)] W fun e W' => e = .returned (.bool b) ∧ W' = W
 pend : ∀ W, I W → Calls Tryz.prog 63 #[.pointer (some ⟨d, 0, none⟩)] W fun e W' => ∃ p c, e = .returned (.slice p T.length c) ∧ IntsAt W' p T ∧ Below W.heap.size W W'
 rpend : ∀ W, I W → Calls Tryz.prog 64 #[.pointer (some ⟨r, 0, none⟩)] W fun e W' => ∃ p c, e = .returned (.slice p T.length c) ∧ IntsAt W' p T ∧ Below W.heap.size W W'
section
variable {w W W' : World} {P g q d r m : Nat} {G : Int × Int × Int} {t : St} {u : RSt} {l : List Part} {x : LSt} {y : RL} {book : Int → Nat → Int} {I : World → Prop} {l0 l1 m0 m1 : Value} {cn : Int} {bs : Bool} {T : List Int}
theorem pend_row {l : List Cel} {k : Nat} {x : Int} (h : (l.map (·.1))[k]? = some x) : (iRow (posF l) l.length)[k]? = some (.int .i64 x) := by
 have hk : k < l.length := by
  have := (List.getElem?_eq_some_iff.1 h).1
  simpa using this
 rw [iRow_get _ _ _ hk]
 rw [List.getElem?_map, List.getElem?_eq_getElem hk] at h
 simp at h
 unfold posF
 rw [List.getElem?_eq_getElem hk, ← h]
theorem IntsAt.later {p : Option Addr} (h : IntsAt W p T) (hb : Below W.heap.size W W') : IntsAt W' p T := fun h0 => by
 obtain ⟨b, off, h1, h2, h3⟩ := h h0
 exact ⟨b, off, h1, Nat.lt_of_lt_of_le h2 hb.size, fun k x hx => (hb.cell (p := ⟨b, off + k, none⟩) h2).trans (h3 k x hx)⟩
theorem dsk_of (hX : SimX u t) (hC : Cap t m) (hm : m ≤ 6000000) (hI : ∀ W, I W → ∃ (L : Loc) (R : RLoc), L.d = d ∧ DiskAt W L t ∧ RDAt W R.B r R.hv R.wv R.ov u) : Dsk I d r t.made t.stopped (t.wait.map (·.1)) := by
 have hw := hC.wait
 have hl : (t.wait.map (·.1)).length = t.wait.length := by simp
 refine ⟨fun W hW => ?_, fun W hW => ?_, fun W hW => ?_, fun W hW => ?_, fun W hW => ?_, fun W hW => ?_⟩
 ·obtain ⟨L, R, rfl, hD, hR⟩ := hI W hW
  exact made_of hD
 ·obtain ⟨L, R, rfl, hD, hR⟩ := hI W hW
  have := rMade_any hR
  rw [hX.count] at this
  exact this
 ·obtain ⟨L, R, rfl, hD, hR⟩ := hI W hW
  exact stopped_of hD
 ·obtain ⟨L, R, rfl, hD, hR⟩ := hI W hW
  have := rStopped_any hR
  rw [hX.dead] at this
  exact this
 ·obtain ⟨L, R, rfl, hD, hR⟩ := hI W hW
  refine (pend_of hD (by omega)).mono ?_
  rintro e W' ⟨rfl, h2, h3⟩
  rw [hl]
  refine ⟨_, _, rfl, fun _ => ⟨W.heap.size, 0, rfl, (Array.getElem?_eq_some_iff.1 h2).1, fun k x hx => ?_⟩, h3⟩
  rw [Nat.zero_add, Joins.cell_of_block h2 k]
  exact pend_row hx
 ·obtain ⟨L, R, rfl, hD, hR⟩ := hI W hW
  refine (rPending_any hR (by rw [hX.wait]; omega)).mono ?_
  rintro e W' ⟨v, rfl, h2, h3⟩
  rw [hX.wait] at h2
  obtain ⟨p, c, rfl, _⟩ := own_slice h2
  rw [hl]
  refine ⟨p, c, rfl, fun h0 => ?_, h3⟩
  rcases own_form h2 with ⟨_, q⟩ | ⟨b, c', hv, hlt⟩
  ·rw [hl] at h0
   omega
  ·injection hv with hv
   subst hv
   refine ⟨b, 0, rfl, hlt, fun k x hx => ?_⟩
   have := own_get intRow_len h2 hx 0 _ rfl
   rw [Nat.mul_one, Nat.add_zero] at this
   rw [Nat.zero_add]
   exact this
structure PC (X : World) (P d r : Nat) (l0 l1 m0 m1 : Value) : Prop where
 p3 : X.cell? ⟨P, 3, none⟩ = some (.pointer (some ⟨d, 0, none⟩))
 p4 : X.cell? ⟨P, 4, none⟩ = some (.pointer (some ⟨r, 0, none⟩))
 p5 : X.cell? ⟨P, 5, none⟩ = some l0
 p6 : X.cell? ⟨P, 6, none⟩ = some l1
 p7 : X.cell? ⟨P, 7, none⟩ = some m0
 p8 : X.cell? ⟨P, 8, none⟩ = some m1
theorem pc_of (hP : oP P (.cells (pairRow G d r l0 l1 m0 m1) 45) ∈ l) (hk : Kl l W) : PC W P d r l0 l1 m0 m1 := by
 have h := hk _ _ hP
 exact ⟨Joins.cell_of_block h 3, Joins.cell_of_block h 4, Joins.cell_of_block h 5, Joins.cell_of_block h 6, Joins.cell_of_block h 7, Joins.cell_of_block h 8⟩
set_option maxRecDepth 20000 in
set_option maxHeartbeats 8000000 in
theorem alike_of (hI : I W) (hl : ∀ W W', I W → Below W.heap.size W W' → I W') (hk : ∀ W, I W → Kl l W) (hP : oP P (.cells (pairRow G d r l0 l1 m0 m1) 45) ∈ l) (h0 : Tls l I l0 m0) (h1 : Tls l I l1 m1) (hD : Dsk I d r cn bs T) (hT : T.length ≤ 100000000) : Calls Tryz.prog 9 #[.pointer (some ⟨P, 0, none⟩)] W fun e W' => e = .returned (.bool true) ∧ I W' := by
 have HL := Hid.mk' hl
 have HK : Hid (∀ X, I X → PC X P d r l0 l1 m0 m1) := fun X hX => pc_of hP (hk X hX)
 have HI : Hid (I W) := hI
 have H0 : Hid (Tls l I l0 m0) := h0
 have H1 : Hid (Tls l I l1 m1) := h1
 have HD : Hid (Dsk I d r cn bs T) := hD
 clear hl hk hP hI h0 h1 hD
 go_enter Tryz.func9, Tryz.ntmps9
 go_wp2
 go_loopw [3] (fun s3 wx => ∃ j : Nat, j ≤ 2 ∧ s3 = .int .i64 j ∧ Hid (I wx)) (fun s3 _ => 2 - (intOf s3).toNat)
 case atStart => exact ⟨0, by omega, rfl, HI.out⟩
 case round =>
  obtain ⟨j, hj, rfl, HI0⟩ := hrel
  clear HI
  have hj3 : j = 0 ∨ j = 1 ∨ j = 2 := by omega
  rcases hj3 with rfl | rfl | rfl
  ·obtain ⟨p3, p4, p5, p6, p7, p8⟩ := HK.out _ HI0.out
   obtain ⟨⟨E1, M1, _, _, a1, b1⟩, ⟨x0, x1, x2, x3, x4, x5, x6, x7, x8, M2, _, _, a2, b2⟩, ⟨E3, M3, _, _, a3, b3⟩, ⟨E4, M4, _, _, a4, b4⟩, ⟨E5, M5, _, _, a5, b5⟩, ⟨E6, M6, _, _, a6, b6⟩⟩ := H0.out
   have Acheck := Hid.mk' a1
   have Bcheck := Hid.mk' b1
   have Alayout := Hid.mk' a2
   have Blayout := Hid.mk' b2
   have Aused := Hid.mk' a3
   have Bused := Hid.mk' b3
   have Aopened := Hid.mk' a4
   have Bopened := Hid.mk' b4
   have Acommits := Hid.mk' a5
   have Bcommits := Hid.mk' b5
   have Asteps := Hid.mk' a6
   have Bsteps := Hid.mk' b6
   have heqL := eqLay x0 x1 x2 x3 x4 x5 x6 x7 x8
   clear a1 b1 a2 b2 a3 b3 a4 b4 a5 b5 a6 b6 H0 H1 HD HK HL hT
   generalize H.lay9 x0 x1 x2 x3 x4 x5 x6 x7 x8 = LA at *
   go_wp2_with (first | (go_at_call 50; fail))
   refine Calls.mono (Acheck.out _ HI0.out) ?_
   rintro e V1 ⟨rfl, q1⟩
   have HMcheck := Hid.mk' q1
   clear q1 HI0 Acheck
   go_wp2_with (go_at_call 51; fail)
   refine Calls.mono (Bcheck.out _ HMcheck.out) ?_
   rintro e V2 ⟨rfl, q1⟩
   have HIcheck := Hid.mk' q1
   clear q1 HMcheck Bcheck
   go_wp2_with (first | (go_at_call 52; fail))
   refine Calls.mono (Alayout.out _ HIcheck.out) ?_
   rintro e V1 ⟨rfl, q1⟩
   have HMlayout := Hid.mk' q1
   clear q1 HIcheck Alayout
   go_wp2_with (go_at_call 53; fail)
   refine Calls.mono (Blayout.out _ HMlayout.out) ?_
   rintro e V2 ⟨rfl, q1⟩
   have HIlayout := Hid.mk' q1
   clear q1 HMlayout Blayout
   go_wp2_with (first | (with_reducible refine isNeq59 ?_; refine wpList_ex8 rfl (exec_neqL heqL rfl rfl rfl _) ?_) | (go_at_call 23; fail))
   refine Calls.mono (Aused.out _ HIlayout.out) ?_
   rintro e V1 ⟨rfl, q1⟩
   have HMused := Hid.mk' q1
   clear q1 HIlayout Aused
   go_wp2_with (go_at_call 54; fail)
   refine Calls.mono (Bused.out _ HMused.out) ?_
   rintro e V2 ⟨rfl, q1⟩
   have HIused := Hid.mk' q1
   clear q1 HMused Bused
   go_wp2_with (first | (go_at_call 55; fail))
   refine Calls.mono (Aopened.out _ HIused.out) ?_
   rintro e V1 ⟨rfl, q1⟩
   have HMopened := Hid.mk' q1
   clear q1 HIused Aopened
   go_wp2_with (go_at_call 56; fail)
   refine Calls.mono (Bopened.out _ HMopened.out) ?_
   rintro e V2 ⟨rfl, q1⟩
   have HIopened := Hid.mk' q1
   clear q1 HMopened Bopened
   go_wp2_with (first | (go_at_call 27; fail))
   refine Calls.mono (Acommits.out _ HIopened.out) ?_
   rintro e V1 ⟨rfl, q1⟩
   have HMcommits := Hid.mk' q1
   clear q1 HIopened Acommits
   go_wp2_with (go_at_call 57; fail)
   refine Calls.mono (Bcommits.out _ HMcommits.out) ?_
   rintro e V2 ⟨rfl, q1⟩
   have HIcommits := Hid.mk' q1
   clear q1 HMcommits Bcommits
   go_wp2_with (first | (go_at_call 24; fail))
   refine Calls.mono (Asteps.out _ HIcommits.out) ?_
   rintro e V1 ⟨rfl, q1⟩
   have HMsteps := Hid.mk' q1
   clear q1 HIcommits Asteps
   go_wp2_with (go_at_call 58; fail)
   refine Calls.mono (Bsteps.out _ HMsteps.out) ?_
   rintro e V2 ⟨rfl, q1⟩
   have HIsteps := Hid.mk' q1
   clear q1 HMsteps Bsteps
   go_wp2
   exact ⟨⟨1, by omega, by go_num, HIsteps.out⟩, by simp [intOf]⟩
  ·obtain ⟨p3, p4, p5, p6, p7, p8⟩ := HK.out _ HI0.out
   obtain ⟨⟨E1, M1, _, _, a1, b1⟩, ⟨x0, x1, x2, x3, x4, x5, x6, x7, x8, M2, _, _, a2, b2⟩, ⟨E3, M3, _, _, a3, b3⟩, ⟨E4, M4, _, _, a4, b4⟩, ⟨E5, M5, _, _, a5, b5⟩, ⟨E6, M6, _, _, a6, b6⟩⟩ := H1.out
   have Acheck := Hid.mk' a1
   have Bcheck := Hid.mk' b1
   have Alayout := Hid.mk' a2
   have Blayout := Hid.mk' b2
   have Aused := Hid.mk' a3
   have Bused := Hid.mk' b3
   have Aopened := Hid.mk' a4
   have Bopened := Hid.mk' b4
   have Acommits := Hid.mk' a5
   have Bcommits := Hid.mk' b5
   have Asteps := Hid.mk' a6
   have Bsteps := Hid.mk' b6
   have heqL := eqLay x0 x1 x2 x3 x4 x5 x6 x7 x8
   clear a1 b1 a2 b2 a3 b3 a4 b4 a5 b5 a6 b6 H0 H1 HD HK HL hT
   generalize H.lay9 x0 x1 x2 x3 x4 x5 x6 x7 x8 = LA at *
   go_wp2_with (first | (go_at_call 50; fail))
   refine Calls.mono (Acheck.out _ HI0.out) ?_
   rintro e V1 ⟨rfl, q1⟩
   have HMcheck := Hid.mk' q1
   clear q1 HI0 Acheck
   go_wp2_with (go_at_call 51; fail)
   refine Calls.mono (Bcheck.out _ HMcheck.out) ?_
   rintro e V2 ⟨rfl, q1⟩
   have HIcheck := Hid.mk' q1
   clear q1 HMcheck Bcheck
   go_wp2_with (first | (go_at_call 52; fail))
   refine Calls.mono (Alayout.out _ HIcheck.out) ?_
   rintro e V1 ⟨rfl, q1⟩
   have HMlayout := Hid.mk' q1
   clear q1 HIcheck Alayout
   go_wp2_with (go_at_call 53; fail)
   refine Calls.mono (Blayout.out _ HMlayout.out) ?_
   rintro e V2 ⟨rfl, q1⟩
   have HIlayout := Hid.mk' q1
   clear q1 HMlayout Blayout
   go_wp2_with (first | (with_reducible refine isNeq59 ?_; refine wpList_ex8 rfl (exec_neqL heqL rfl rfl rfl _) ?_) | (go_at_call 23; fail))
   refine Calls.mono (Aused.out _ HIlayout.out) ?_
   rintro e V1 ⟨rfl, q1⟩
   have HMused := Hid.mk' q1
   clear q1 HIlayout Aused
   go_wp2_with (go_at_call 54; fail)
   refine Calls.mono (Bused.out _ HMused.out) ?_
   rintro e V2 ⟨rfl, q1⟩
   have HIused := Hid.mk' q1
   clear q1 HMused Bused
   go_wp2_with (first | (go_at_call 55; fail))
   refine Calls.mono (Aopened.out _ HIused.out) ?_
   rintro e V1 ⟨rfl, q1⟩
   have HMopened := Hid.mk' q1
   clear q1 HIused Aopened
   go_wp2_with (go_at_call 56; fail)
   refine Calls.mono (Bopened.out _ HMopened.out) ?_
   rintro e V2 ⟨rfl, q1⟩
   have HIopened := Hid.mk' q1
   clear q1 HMopened Bopened
   go_wp2_with (first | (go_at_call 27; fail))
   refine Calls.mono (Acommits.out _ HIopened.out) ?_
   rintro e V1 ⟨rfl, q1⟩
   have HMcommits := Hid.mk' q1
   clear q1 HIopened Acommits
   go_wp2_with (go_at_call 57; fail)
   refine Calls.mono (Bcommits.out _ HMcommits.out) ?_
   rintro e V2 ⟨rfl, q1⟩
   have HIcommits := Hid.mk' q1
   clear q1 HMcommits Bcommits
   go_wp2_with (first | (go_at_call 24; fail))
   refine Calls.mono (Asteps.out _ HIcommits.out) ?_
   rintro e V1 ⟨rfl, q1⟩
   have HMsteps := Hid.mk' q1
   clear q1 HIcommits Asteps
   go_wp2_with (go_at_call 58; fail)
   refine Calls.mono (Bsteps.out _ HMsteps.out) ?_
   rintro e V2 ⟨rfl, q1⟩
   have HIsteps := Hid.mk' q1
   clear q1 HMsteps Bsteps
   go_wp2
   exact ⟨⟨2, by omega, by go_num, HIsteps.out⟩, by simp [intOf]⟩
  ·clear H0 H1
   go_wp2
   have HI2 : Hid (I wr.drew) := HL.out _ _ HI0.out (Below.refl _ _).drew
   have hD := HD.out
   have HS : Hid (PC wr.drew P d r l0 l1 m0 m1) := HK.out _ HI2.out
   refine wp_region_ord (S := fun X => PC X P d r l0 l1 m0 m1) [(0, true), (1, true), (2, true), (3, true), (5, true), (6, true), (7, true), (8, true), (4, false), (9, false), (10, true), (11, true), (12, true), (13, true), (14, true), (15, true), (17, true), (18, true), (19, true), (20, true), (16, false), (21, false), (22, true), (23, true), (24, true), (25, true), (26, true), (27, true), (28, true), (30, true), (31, true), (32, true), (33, true), (29, false), (34, false), (35, false), (36, true), (37, true)] (by kernel_rfl) rfl (by kernel_rfl) (fun d _ _ _ _ h => by cases d <;> exact h) HS.out ?_
   simp only [inOrd, List.getElem?_cons_zero, List.getElem?_cons_succ]
   refine wpOrd_yield (v := .pointer (some ⟨P, 0, none⟩)) rfl (fun u _ => exec_mvP rfl rfl) ?_
   simp only [Act.put, pA, pB, pC]
   refine wpOrd_yield (v := .pointer (some ⟨P, 0, none⟩)) rfl (fun u _ => by go_simp) ?_
   simp only [Act.put, pA, pB, pC]
   refine wpOrd_yield (v := .pointer (some ⟨P, 3, none⟩)) rfl (fun u _ => by go_simp) ?_
   simp only [Act.put, pA, pB, pC]
   refine wpOrd_yield (v := .pointer (some ⟨d, 0, none⟩)) rfl (fun u hu => by have := hu.p3; go_simp) ?_
   simp only [Act.put, pA, pB, pC]
   refine wpOrd_yield (v := .pointer (some ⟨P, 0, none⟩)) rfl (fun u _ => exec_mvP rfl rfl) ?_
   simp only [Act.put, pA, pB, pC]
   refine wpOrd_yield (v := .pointer (some ⟨P, 0, none⟩)) rfl (fun u _ => by go_simp) ?_
   simp only [Act.put, pA, pB, pC]
   refine wpOrd_yield (v := .pointer (some ⟨P, 4, none⟩)) rfl (fun u _ => by go_simp) ?_
   simp only [Act.put, pA, pB, pC]
   refine wpOrd_yield (v := .pointer (some ⟨r, 0, none⟩)) rfl (fun u hu => by have := hu.p4; go_simp) ?_
   simp only [Act.put, pA, pB, pC]
   refine wpOrd_call rfl 25 _ _ rfl Tryz.call25 [.pointer (some ⟨d, 0, none⟩)] rfl ?_
   refine Calls.mono (hD.made _ HI2.out) ?_
   rintro e V ⟨rfl, hV⟩
   obtain rfl := hV.symm
   refine ⟨_, rfl, HK.out _ HI2.out, ?_⟩
   simp only [Act.put, pA, pB, pC]
   refine wpOrd_call rfl 59 _ _ rfl Tryz.call59 [.pointer (some ⟨r, 0, none⟩)] rfl ?_
   refine Calls.mono (hD.rmade _ HI2.out) ?_
   rintro e V ⟨rfl, hV⟩
   obtain rfl := hV.symm
   refine ⟨_, rfl, HK.out _ HI2.out, ?_⟩
   simp only [Act.put, pA, pB, pC]
   refine wpOrd_yield (v := .bool true) rfl (fun u _ => by go_simp) ?_
   simp only [Act.put, pA, pB, pC]
   refine wpOrd_yield (v := .bool true) rfl (fun u _ => exec_mvP rfl rfl) ?_
   simp only [Act.put, pA, pB, pC]
   refine wpOrd_yield (v := .pointer (some ⟨P, 0, none⟩)) rfl (fun u _ => exec_mvP rfl rfl) ?_
   simp only [Act.put, pA, pB, pC]
   refine wpOrd_yield (v := .pointer (some ⟨P, 0, none⟩)) rfl (fun u _ => by go_simp) ?_
   simp only [Act.put, pA, pB, pC]
   refine wpOrd_yield (v := .pointer (some ⟨P, 3, none⟩)) rfl (fun u _ => by go_simp) ?_
   simp only [Act.put, pA, pB, pC]
   refine wpOrd_yield (v := .pointer (some ⟨d, 0, none⟩)) rfl (fun u hu => by have := hu.p3; go_simp) ?_
   simp only [Act.put, pA, pB, pC]
   refine wpOrd_yield (v := .pointer (some ⟨P, 0, none⟩)) rfl (fun u _ => exec_mvP rfl rfl) ?_
   simp only [Act.put, pA, pB, pC]
   refine wpOrd_yield (v := .pointer (some ⟨P, 0, none⟩)) rfl (fun u _ => by go_simp) ?_
   simp only [Act.put, pA, pB, pC]
   refine wpOrd_yield (v := .pointer (some ⟨P, 4, none⟩)) rfl (fun u _ => by go_simp) ?_
   simp only [Act.put, pA, pB, pC]
   refine wpOrd_yield (v := .pointer (some ⟨r, 0, none⟩)) rfl (fun u hu => by have := hu.p4; go_simp) ?_
   simp only [Act.put, pA, pB, pC]
   refine wpOrd_call rfl 60 _ _ rfl Tryz.call60 [.pointer (some ⟨d, 0, none⟩)] rfl ?_
   refine Calls.mono (hD.stop _ HI2.out) ?_
   rintro e V ⟨rfl, hV⟩
   obtain rfl := hV.symm
   refine ⟨_, rfl, HK.out _ HI2.out, ?_⟩
   simp only [Act.put, pA, pB, pC]
   refine wpOrd_call rfl 61 _ _ rfl Tryz.call61 [.pointer (some ⟨r, 0, none⟩)] rfl ?_
   refine Calls.mono (hD.rstop _ HI2.out) ?_
   rintro e V ⟨rfl, hV⟩
   obtain rfl := hV.symm
   refine ⟨_, rfl, HK.out _ HI2.out, ?_⟩
   simp only [Act.put, pA, pB, pC]
   refine wpOrd_yield (v := .bool true) rfl (fun u _ => by go_simp) ?_
   simp only [Act.put, pA, pB, pC]
   refine wpOrd_yield (v := .bool true) rfl (fun u _ => by go_simp) ?_
   simp only [Act.put, pA, pB, pC]
   refine wpOrd_yield (v := .bool true) rfl (fun u _ => exec_mvP rfl rfl) ?_
   simp only [Act.put, pA, pB, pC]
   refine wpOrd_yield (v := .pointer (some ⟨P, 0, none⟩)) rfl (fun u _ => exec_mvP rfl rfl) ?_
   simp only [Act.put, pA, pB, pC]
   refine wpOrd_yield (v := .pointer (some ⟨P, 0, none⟩)) rfl (fun u _ => by go_simp) ?_
   simp only [Act.put, pA, pB, pC]
   refine wpOrd_yield (v := .pointer (some ⟨P, 3, none⟩)) rfl (fun u _ => by go_simp) ?_
   simp only [Act.put, pA, pB, pC]
   refine wpOrd_yield (v := .pointer (some ⟨d, 0, none⟩)) rfl (fun u hu => by have := hu.p3; go_simp) ?_
   simp only [Act.put, pA, pB, pC]
   refine wpOrd_yield (v := .pointer (some ⟨P, 0, none⟩)) rfl (fun u _ => exec_mvP rfl rfl) ?_
   simp only [Act.put, pA, pB, pC]
   refine wpOrd_yield (v := .pointer (some ⟨P, 0, none⟩)) rfl (fun u _ => by go_simp) ?_
   simp only [Act.put, pA, pB, pC]
   refine wpOrd_yield (v := .pointer (some ⟨P, 4, none⟩)) rfl (fun u _ => by go_simp) ?_
   simp only [Act.put, pA, pB, pC]
   refine wpOrd_yield (v := .pointer (some ⟨r, 0, none⟩)) rfl (fun u hu => by have := hu.p4; go_simp) ?_
   simp only [Act.put, pA, pB, pC]
   refine wpOrd_call rfl 63 _ _ rfl Tryz.call63 [.pointer (some ⟨d, 0, none⟩)] rfl ?_
   refine Calls.mono (hD.pend _ HI2.out) ?_
   rintro e V1 ⟨pa, ca, rfl, qa, ba⟩
   have HA1 := Hid.mk' (HL.out _ _ HI2.out ba)
   refine ⟨_, rfl, HK.out _ HA1.out, ?_⟩
   simp only [Act.put, pA, pB, pC]
   refine wpOrd_call rfl 64 _ _ rfl Tryz.call64 [.pointer (some ⟨r, 0, none⟩)] rfl ?_
   refine Calls.mono (hD.rpend _ HA1.out) ?_
   rintro e V2 ⟨pb, cb, rfl, qb, bb⟩
   have HA2 := Hid.mk' (HL.out _ _ HA1.out bb)
   refine ⟨_, rfl, HK.out _ HA2.out, ?_⟩
   simp only [Act.put, pA, pB, pC]
   refine wpOrd_call rfl 62 _ _ rfl Tryz.call62 [.slice pa T.length ca, .slice pb T.length cb] rfl ?_
   refine Calls.mono (sameInts_any T T pa pb ca cb V2 (by omega) (qa.later bb) qb) ?_
   rintro e V3 ⟨he, bc⟩
   have HA3 := Hid.mk' (HL.out _ _ HA2.out bc)
   rw [decide_eq_true rfl] at he
   subst he
   refine ⟨_, rfl, HK.out _ HA3.out, ?_⟩
   simp only [Act.put, pA, pB, pC]
   refine wpOrd_yield (v := .bool true) rfl (fun u _ => by go_simp) ?_
   simp only [Act.put, pA, pB, pC]
   refine wpOrd_yield (v := .bool true) rfl (fun u _ => by go_simp) ?_
   simp only [Act.put, pA, pB, pC]
   refine wpOrd_nil ?_
   clear hD HD HS HI2 HI0 HA1 HA2 qa qb ba bb bc
   go_wp2
   go_ret
   exact ⟨rfl, HA3.out⟩
theorem Pd.ats (h : Pd w W d r t u l) : ∃ (L : Loc) (R : RLoc), L.d = d ∧ DiskAt W L t ∧ RDAt W R.B r R.hv R.wv R.ov u := by
 obtain ⟨L, R, hL, rfl, hS⟩ := h.out
 exact ⟨L, R, hL, hS.head, hS.drop.head⟩
theorem Lv.ats (h : Lv w W g q d r x t book y u l) : ∃ (L : Loc) (R : RLoc), L.d = d ∧ DiskAt W L t ∧ RDAt W R.B r R.hv R.wv R.ov u := by
 obtain ⟨c, mb, v, Y, _, h1⟩ := h.pd
 exact h1.ats
theorem S3.alike {k : Bool} {la lb ma mb : Value} (h : S3 w P d r G m k la lb ma mb W) (hm : m ≤ 1000000) : Calls Tryz.prog 9 #[.pointer (some ⟨P, 0, none⟩)] W fun e W' => e = .returned (.bool true) ∧ S3 w P d r G m k la lb ma mb W' := by
 have key : ∀ la lb ma mb, S3 w P d r G m false la lb ma mb W → Calls Tryz.prog 9 #[.pointer (some ⟨P, 0, none⟩)] W fun e W' => e = .returned (.bool true) ∧ S3 w P d r G m false la lb ma mb W' := fun la lb ma mb h => by
  rcases h with ⟨t, u, pa, pb, h1, h2, h3, h4, h5, h6⟩ | ⟨g, q, x, t, book, y, u, pb, rfl, rfl, h3, h4, h5⟩ | ⟨g, q, x, t, book, y, u, pb, rfl, rfl, h3, h4, h5⟩
  ·obtain ⟨e0, hG0⟩ := GI.ofPd (w := w) (l := oP P (.cells (pairK G d r false la lb ma mb) 45) :: (pa ++ pb)) h1 h3 (fun p hp => by simp [hp])
   obtain ⟨e1, hG1⟩ := GI.ofPd (w := w) (l := oP P (.cells (pairK G d r false la lb ma mb) 45) :: (pa ++ pb)) h2 h3 (fun p hp => by simp [hp])
   have hw := h4.wait
   refine (alike_of (l0 := la) (l1 := lb) (m0 := ma) (m1 := mb) (G := G) h6 hG0.later hG0.kl (by show oP P (.cells (pairRow G d r la lb ma mb) 45) ∈ _; exact List.mem_cons_self ..) hG0.tls hG1.tls (dsk_of h3 h4 (by omega) fun _ h => h.ats) (by simp; omega)).mono ?_
   rintro e W' ⟨he, hp⟩
   exact ⟨he, .inl ⟨t, u, pa, pb, h1, h2, h3, h4, h5, hp⟩⟩
  ·obtain ⟨e1, hG1⟩ := GI.ofLv (w := w) (g := g) (q := q) (x := x) (y := y) (book := book) (l := oP P (.cells (pairK G d r false (.pointer (some ⟨g, 0, none⟩)) lb (.pointer (some ⟨q, 0, none⟩)) mb) 45) :: pb) h3 h4.sim (fun p hp => by simp [hp])
   have hw := h4.cap.wait
   refine (alike_of (l0 := .pointer (some ⟨g, 0, none⟩)) (l1 := lb) (m0 := .pointer (some ⟨q, 0, none⟩)) (m1 := mb) (G := G) h5 hG1.later hG1.kl (by show oP P (.cells (pairRow G d r (.pointer (some ⟨g, 0, none⟩)) lb (.pointer (some ⟨q, 0, none⟩)) mb) 45) ∈ _; exact List.mem_cons_self ..) h4.tls hG1.tls (dsk_of h4.sim h4.cap (by omega) fun _ h => h.ats) (by simp; omega)).mono ?_
   rintro e W' ⟨he, hp⟩
   exact ⟨he, .inr (.inl ⟨g, q, x, t, book, y, u, pb, rfl, rfl, h3, h4, hp⟩)⟩
  ·obtain ⟨e1, hG1⟩ := GI.ofLv (w := w) (g := g) (q := q) (x := x) (y := y) (book := book) (l := oP P (.cells (pairK G d r (!false) (.pointer (some ⟨g, 0, none⟩)) la (.pointer (some ⟨q, 0, none⟩)) ma) 45) :: pb) h3 h4.sim (fun p hp => by simp [hp])
   have hw := h4.cap.wait
   refine (alike_of (l0 := la) (l1 := .pointer (some ⟨g, 0, none⟩)) (m0 := ma) (m1 := .pointer (some ⟨q, 0, none⟩)) (G := G) h5 hG1.later hG1.kl (by show oP P (.cells (pairRow G d r la (.pointer (some ⟨g, 0, none⟩)) ma (.pointer (some ⟨q, 0, none⟩))) 45) ∈ _; exact List.mem_cons_self ..) hG1.tls h4.tls (dsk_of h4.sim h4.cap (by omega) fun _ h => h.ats) (by simp; omega)).mono ?_
   rintro e W' ⟨he, hp⟩
   exact ⟨he, .inr (.inr ⟨g, q, x, t, book, y, u, pb, rfl, rfl, h3, h4, hp⟩)⟩
 cases k
 ·exact key la lb ma mb h
 ·exact (key lb la mb ma h.flip).mono fun _ _ ⟨a, b⟩ => ⟨a, b.flip⟩
end
end Go.Proofs.YtichojdcoegboaaGreatW
