/- CacheHeld: both caches stay alike, are refused alike behind a dead disk, and hold what they held behind a crash; for every disk, size and steps, fewer than 900000. -/
import Derived.Test.YtencclpcebpgmaaK17
namespace Go.Proofs.Ytencclpcebpgmaa
open Go.RowKit Go.Maps
theorem bk_nil (W : World) : Bk enW 3 54 1 (.slice none 0 0) ([] : List (Tl Int)) W := ⟨World.ownsRow_nil _ _ 54 1, by simp, by simp⟩
theorem ask_fresh {w W : World} {K : KLoc} {L : Loc} {R : RL} {g n : Nat} {v : Value} {s : CSt} {t : St} {u : RD} (h : Sep w W [pcP K L s t, rcP g R v n s u]) (hM : Mate t n u) (hC : Cn t 0) :
    AskS w (W.alloc (.cells (xRow L.d R.g K.c g (.pointer none) (.pointer none) (.slice none 0 0) (.slice none 0 0)) 36)) W.heap.size L.d R.g K.c g n (.pointer none) (.pointer none) s t u 0 [] := by
  have h1 := sep_box h.swap (xRow L.d R.g K.c g (.pointer none) (.pointer none) (.slice none 0 0) (.slice none 0 0)) 36
  have ho : ∀ k, bkO (.slice none 0 0) ([] : List (Tl Int)) k → False := fun k hk => by
    rcases hk with q | ⟨x, hx, _⟩
    · simp [Value.ownBlock] at q
    · simp at hx
  have h2 := h1.add (p := bkP enW 3 54 1 (.slice none 0 0) []) (Below.refl _ _) bkP_good (bk_nil _) fun k q => (ho k q).elim
  have h3 := h2.add (p := bkP enW 3 54 1 (.slice none 0 0) []) (Below.refl _ _) bkP_good (bk_nil _) fun k q => (ho k q).elim
  have h4 := h3.perm (List.reverse_perm _).symm
  exact ⟨K, L, R, v, _, _, [], [], rfl, rfl, rfl, hM, hC, ⟨rfl, Nat.le_refl _, by simp⟩, h4⟩
section
variable {w W W1 : World} {gx d dr c g n : Nat} {c1 w1 : Value} {s : CSt} {t : St} {u : RD} {i : Nat} {l : List Part} {p : Option Addr} {cp : Nat} {xs : List Int}
theorem AskN.list (h : AskN w W gx d dr c g n c1 w1 s t u i l) (hb : Below W.heap.size W W1) (o : W1.ownsRow W.heap.size 3 1 (.slice p xs.length cp) xs.length (xs.map (Value.int .i64))) : AskN w W1 gx d dr c g n c1 w1 s t u i (lsP enW 3 1 ⟨p, cp, xs⟩ :: l) := by
  obtain ⟨K, L, R, v, vl, vk, T1, T2, h1, h2, h3, h4, h5, h6⟩ := h
  rw [← flat_int] at o
  have y := sep_list (en := enW) (e := 3) (sz := 1) (x := ⟨p, cp, xs⟩) h6 hb o
  exact ⟨K, L, R, v, vl, vk, T1, T2, h1, h2, h3, h4, h5, y.perm (List.perm_middle (l₁ := [_, _, _, _, _])).symm⟩
theorem AskN.ints (h : AskN w W gx d dr c g n c1 w1 s t u i (lsP enW 3 1 ⟨p, cp, xs⟩ :: l)) : IntsAt W p xs := by
  obtain ⟨K, L, R, v, vl, vk, T1, T2, h1, h2, h3, h4, h5, h6⟩ := h
  have := h6.say (lsP enW 3 1 ⟨p, cp, xs⟩) (by simp)
  exact tl_ints (x := ⟨p, cp, xs⟩) this
theorem AskS.still (h : AskS w W gx d dr c g n c1 w1 s t u i l) (hi : i ≤ 1000000) : ∃ vl vk, W.heap[gx]? = some (.cells (xRow d dr c g c1 w1 vl vk) 36) ∧ Calls Try.prog 18 #[vl, vk] W fun e W' => e = .returned (.bool true) ∧ Below w.heap.size w W' ∧ W'.heap[gx]? = some (.cells (xRow d dr c g c1 w1 vl vk) 36) := by
  obtain ⟨K, L, R, v, vl, vk, T1, T2, h1, h2, h3, hM, h4, h5, h6⟩ := h
  have hx : W.heap[gx]? = some (.cells (xRow d dr c g c1 w1 vl vk) 36) := h6.drop.drop.head
  have hn : ¬ bkO vl T1 gx := (List.pairwise_cons.1 h6.drop.drop.apart).1 (bkP enW 3 54 1 vl T1) (by simp) gx rfl
  refine ⟨vl, vk, hx, (sep_stillK h6.drop.drop.drop h5.same (by have := h5.len; omega) fun x hx => by have := h5.each x hx; omega).mono ?_⟩
  rintro e W' ⟨q1, q2, q3⟩
  exact ⟨q1, q2, (q3 gx (h6.drop.drop.headLt (k := gx) rfl).2 hn).trans hx⟩
end
theorem exec_ld34 {a : Act} {o : Oper} {u : World} {y : Operand} {q k : Nat} {v : Value} (ho : o.op = .load 34 y) (hx : a.eval y = .pointer (some ⟨q, k, none⟩)) (hc : u.cell? ⟨q, k, none⟩ = some v) : (execOp a.eval o).run Try.prog u = .ok (.value v) u := by
  have e : (loadVar 34 ⟨q, k, none⟩).run Try.prog u = .ok v u := by
    simp [go_sem, hc]
  unfold execOp
  simp only [ho, hx, Instr.loadAt, Instr.sureAddr, Sem.run_bind, Sem.run_pure, Result.andThen_ok, e]
theorem exec_mvT {a : Act} {o : Oper} {x : Operand} {v : Value} {u : World} (ho : o.op = .move x) (hx : a.eval x = v) : (execOp a.eval o).run Try.prog u = .ok (.value v) u := by
  unfold execOp
  simp [ho, hx]
set_option maxRecDepth 20000 in
set_option maxHeartbeats 8000000 in
theorem held_none (haw : ∀ u, Calls Try.prog 9 #[] u fun e w' => e = .returned (.bool true) ∧ Below u.heap.size u w') {w : World} (pa : Option Addr) (n cap : Nat) (hn : n = 0 ∨ 64 < n) (v1 v2 v3 : Value) :
    Calls Try.prog 4 #[.slice pa n cap, v1, v2, v3] w fun e w' => e = .returned (.bool true) ∧ Below w.heap.size w w' := by
  rcases hn with rfl | hn
  · go_enter Try.func4, Try.ntmps4
    go_wp2_with (go_at_call 9; fail)
    refine (haw _).mono ?_
    rintro e W1 ⟨rfl, hb⟩
    go_wp2
    go_ret
    exact ⟨rfl, hb⟩
  · have h1 : (64 : Int) < n := by omega
    go_enter Try.func4, Try.ntmps4
    go_wp2_with (go_at_call 9; fail)
    refine (haw _).mono ?_
    rintro e W1 ⟨rfl, hb⟩
    go_wp2
    go_ret
    exact ⟨rfl, hb⟩
set_option maxRecDepth 20000 in
set_option maxHeartbeats 8000000 in
theorem law_held (haw : ∀ u, Calls Try.prog 9 #[] u fun e w' => e = .returned (.bool true) ∧ Below u.heap.size u w') {w : World} (pa : Option Addr) (n cap : Nat) (xs : Nat → Int) (hx : U16At w pa n xs) (hxb : ∀ i, 0 ≤ xs i ∧ xs i < 65536) (size y : Int) (pb : Option Addr) (m cb : Nat) (hm : m ≤ 900000) (hst : StepsAt w pb m) :
    Calls Try.prog 4 #[.slice pa n cap, .int .i64 size, .slice pb m cb, .int .i64 y] w fun e w' => e = .returned (.bool true) ∧ Below w.heap.size w w' := by
  by_cases hn : n = 0 ∨ 64 < n
  · exact held_none haw pa n cap hn _ _ _
  have hn1 : 1 ≤ n ∧ n ≤ 64 := by omega
  have q1 : ¬ (64 : Int) < n := by omega
  have q2 : ¬ (n : Int) = 0 := by omega
  have HST : Hid (StepsAt w pb m) := hst
  have HAW : Hid (∀ u, Calls Try.prog 9 #[] u fun e w' => e = .returned (.bool true) ∧ Below u.heap.size u w') := haw
  have HDk : Hid (Calls Try.prog 10 _ w _) := disks_both pa n cap xs hn1 hx
  have HM := (show Hid _ from mate_fresh xs hxb n)
  have HC := (show Hid _ from cn_fresh xs n)
  generalize loadV (n : Int) (imgL xs n) = t0 at *
  generalize (⟨mks (fun j => fillF (xs j)) n, mks (fun j => fillF (xs j)) n, -1, false, 0, 0⟩ : RD) = u0 at *
  clear hst haw hx hn hxb
  go_enter Try.func4, Try.ntmps4
  go_wp2_with (go_at_call 10; fail)
  refine HDk.out.mono ?_
  rintro e W0 ⟨L, R, rfl, hD, hR, hL, hRL, hb0⟩
  have HD : Hid (DiskAt W0 L t0) := hD
  have HR : Hid (RDk W0 R n u0) := hR
  have HL : Hid (L.from w.heap.size ∧ (∀ k, R.has k → w.heap.size ≤ k ∧ ¬ L.has k) ∧ Below w.heap.size w W0) := ⟨hL, hRL, hb0⟩
  clear HDk hD hR hL hRL hb0
  unfold ptr
  go_wp2_with (go_at_call 9; fail)
  refine (HAW.out _).mono ?_
  rintro e W1 ⟨rfl, hb1⟩
  have HB1 : Hid (Below W0.heap.size W0 W1) := hb1
  have HD1 : Hid (DiskAt W1 L t0) := HD.out.later hb1
  clear hb1 HAW
  by_cases hs : 1 ≤ size ∧ size ≤ 4096
  · have HN : Hid (Calls Try.prog 11 _ W1 _) := newC_ok HD1.out hs
    unfold ptr at HN
    clear HD1
    go_wp2_with (go_at_call 11; fail)
    refine HN.out.mono ?_
    rintro e W2 ⟨rfl, hC2, hb2⟩
    have HC2 := (show Hid _ from hC2)
    have HB2 : Hid (Below W1.heap.size W1 W2) := hb2
    have HN6 : Hid (Calls Try.prog 12 _ W2 _) := new6_ok (w := W2) (d := R.g) size hs
    unfold ptr at HN6
    clear hC2 hb2 HN
    go_wp2_with (go_at_call 12; fail)
    refine HN6.out.mono ?_
    rintro e W3 ⟨rfl, hK3, hb3⟩
    have hf := sep_fresh HD.out HR.out HL.out.1 HL.out.2.1 HL.out.2.2 HB1.out HC2.out HB2.out hK3 hb3
    have HF := (show Hid _ from hf)
    clear hf hK3 hb3 HN6 HC2 HB2 HD HR HL HB1
    generalize hK : newK W1 L.d = K at *
    generalize hg : W2.heap.size = g at *
    go_upto_region 13 with fail
    have HA : Hid (AskS w (W3.alloc (.cells (xRow L.d R.g K.c g (.pointer none) (.pointer none) (.slice none 0 0) (.slice none 0 0)) 36)) W3.heap.size L.d R.g K.c g n (.pointer none) (.pointer none) (newC size) t0 u0 0 []) := ask_fresh HF.out HM.out HC.out
    unfold xRow ptr at HA
    generalize hd : L.d = d at *
    generalize hdr : R.g = dr at *
    generalize hc : K.c = c at *
    clear HF HM HC hd hdr hc hK hg
    generalize W3.alloc (.cells #[.pointer (some ⟨d, 0, none⟩), .pointer (some ⟨dr, 0, none⟩), .pointer (some ⟨c, 0, none⟩), .pointer none, .pointer (some ⟨g, 0, none⟩), .pointer none, .slice none 0 0, .slice none 0 0] 36) = V at *
    generalize W3.heap.size = gx at *
    generalize newC size = s0 at *
    go_wp2
    go_loopw [17] (fun s17 wx => ∃ (i : Nat) (s : CSt) (t : St) (u : RD), i ≤ m ∧ s17 = .int .i64 i ∧ Hid (∃ j, j ≤ i ∧ AskS w wx gx d dr c g n (.pointer none) (.pointer none) s t u j [])) (fun s17 _ => m - (intOf s17).toNat)
    case atStart => exact ⟨0, _, _, _, by omega, rfl, 0, by omega, HA.out⟩
    case round =>
      obtain ⟨i, s, t, u, hi, rfl, HS⟩ := hrel
      clear HA
      by_cases him : (i : Int) < m
      · obtain ⟨b, off, rfl, ⟨A⟩⟩ := HST.out i (by omega)
        obtain ⟨j, hj, hA⟩ := HS.out
        have hbw : Below w.heap.size w wr := hA.toN.2.below
        have hAb := A.hb
        have k0 := (hbw.cell (p := ⟨b, off + i * 4, none⟩) A.hb).trans A.c0
        have k2 := (hbw.cell (p := ⟨b, off + i * 4 + 2, none⟩) A.hb).trans A.c2
        have k3 := (hbw.cell (p := ⟨b, off + i * 4 + 3, none⟩) A.hb).trans A.c3
        have hbr : b < wr.heap.size := Nat.lt_of_lt_of_le hAb hbw.size
        have m0 := ((below_new wr (.cells #[.int .u8 0, .bool false, .int .i64 0, .int .u16 0] 46)).cell (p := ⟨b, off + i * 4, none⟩) hbr).trans k0
        have m2 := ((below_new wr (.cells #[.int .u8 0, .bool false, .int .i64 0, .int .u16 0] 46)).cell (p := ⟨b, off + i * 4 + 2, none⟩) hbr).trans k2
        have m3 := ((below_new wr (.cells #[.int .u8 0, .bool false, .int .i64 0, .int .u16 0] 46)).cell (p := ⟨b, off + i * 4 + 3, none⟩) hbr).trans k3
        have ho := A.ho
        have hfl := A.hf
        generalize A.o = o at *
        generalize A.pos = p at *
        generalize A.fill = f at *
        have hj9 : j < 1000000 := by omega
        clear HST hbw
        by_cases ho4 : o ≤ 4
        · have HA1 : Hid (AskS w (wr.alloc (.cells #[.int .u8 o, .bool false, .int .i64 p, .int .u16 f] 46)) gx d dr c g n (.pointer none) (.pointer none) s t u j []) := (hA.toN.2.later (below_new wr _)).toS hA.toN.1
          clear hA HS A
          go_upto_region 17 with fail
          go_region
          have HA2 : Hid (AskS w (wr.alloc (.cells #[.int .u8 o, .bool false, .int .i64 p, .int .u16 f] 46)).drew gx d dr c g n (.pointer none) (.pointer none) s t u j []) := (HA1.out.toN.2.later ((Below.refl _ _).drew)).toS HA1.out.toN.1
          have hr : (wr.alloc (.cells #[.int .u8 o, .bool false, .int .i64 p, .int .u16 f] 46)).drew.heap[wr.heap.size]? = some (.cells #[.int .u8 o, .bool false, .int .i64 p, .int .u16 f] 46) := heap_alloc_new _ _
          generalize (wr.alloc (.cells #[.int .u8 o, .bool false, .int .i64 p, .int .u16 f] 46)).drew = X at *
          generalize wr.heap.size = G at *
          have e0 : X.cell? ⟨G, 0, none⟩ = some (.int .u8 o) := Joins.cell_of_block hr 0
          have e1 : X.cell? ⟨G, 1, none⟩ = some (.bool false) := Joins.cell_of_block hr 1
          have e2 : X.cell? ⟨G, 2, none⟩ = some (.int .i64 p) := Joins.cell_of_block hr 2
          have e3 : X.cell? ⟨G, 3, none⟩ = some (.int .u16 f) := Joins.cell_of_block hr 3
          clear HA1 k0 k2 k3 m0 m2 m3 hr hbr
          go_wp2_with (first | (go_at_call 13; fail))
          refine (step_ok HA2.out hj9 o p f (by omega) hfl).mono ?_
          rintro e Y ⟨rfl, s', t', u', h'⟩
          have HF' := (show Hid _ from h')
          clear h' HA2
          go_wp2
          exact ⟨⟨i + 1, s', t', u', by omega, by go_num, j + 1, by omega, HF'.out⟩, by simp [intOf]; omega⟩
        · have HA0 := (show Hid _ from hA)
          clear hA HS A
          go_wp2
          exact ⟨⟨i + 1, s, t, u, by omega, by go_num, j, by omega, HA0.out⟩, by simp [intOf]; omega⟩
      · obtain rfl : i = m := by omega
        obtain ⟨j, hj, hA⟩ := HS.out
        have hj9 : j ≤ 900000 := by omega
        have HM : Hid (Mate t n u) := hA.toN.1
        have HN : Hid (AskN w wr gx d dr c g n (.pointer none) (.pointer none) s t u j []) := hA.toN.2
        have HO : Hid (Calls Try.prog 19 _ wr _) := an_rorder hA.toN.2
        have hol : (ordV s.row).length = s.row.length := by simp [ordV]
        have hrl : (ordV s.row).length ≤ 4096 := by rw [hol]; exact hA.toN.2.len
        obtain ⟨ys, hys⟩ : ∃ ys, ordV s.row = ys := ⟨_, rfl⟩
        rw [hys] at HO hol hrl
        have HYS : Hid (ordV s.row = ys) := hys
        have HOL : Hid (ys.length = s.row.length) := hol
        clear hA HS HST hys hol
        go_wp2_with (first | (go_at_call 19; fail))
        refine HO.out.mono ?_
        rintro e Y1 ⟨v1, rfl, o1, hb1⟩
        obtain ⟨p1, cp1, rfl, _, _, _⟩ := ints_of_row o1
        have H1 : Hid (AskN w Y1 gx d dr c g n (.pointer none) (.pointer none) s t u j [lsP enW 3 1 ⟨p1, cp1, ys⟩]) := HN.out.list hb1 o1
        clear HN HO o1 hb1
        go_wp2_with (first | (go_at_call 20; fail))
        refine (an_fuse H1.out).mono ?_
        rintro e Y2 ⟨rfl, h2⟩
        have H2 : Hid (AskN w Y2 gx d dr c g n (.pointer none) (.pointer none) s (fuseV t 0) u j [lsP enW 3 1 ⟨p1, cp1, ys⟩]) := h2
        clear H1 h2
        go_wp2_with (first | (go_at_call 21; fail))
        refine (an_light H2.out).mono ?_
        rintro e Y3 ⟨rfl, h3⟩
        have H3 : Hid (AskN w Y3 gx d dr c g n (.pointer none) (.pointer none) s (fuseV t 0) (lgV u 0) j [lsP enW 3 1 ⟨p1, cp1, ys⟩]) := h3
        clear H2 h3
        go_wp2_with (first | (go_at_call 22; fail))
        have HS3 : Hid (Small (lgV u 0)) := (HM.out.light 0).small H3.out.cn (by omega) H3.out.ok
        have HM4 : Hid (Mate (barV (fuseV t 0)) n (brV (lgV u 0))) := (HM.out.light 0).barrier H3.out.ok
        have hst : (barV (fuseV t 0)).stopped = true := (dead_bar t).2
        have hbe : brE (lgV u 0) = 3 := (HM.out.light 0).brE.trans (dead_bar t).1
        refine (an_bar H3.out (by omega)).mono ?_
        rintro e Y4 ⟨rfl, h4⟩
        have hrb := an_rbar h4 HS3.out (by omega)
        rw [hbe] at hrb
        have HRB : Hid (Calls Try.prog 23 _ Y4 _) := hrb
        clear H3 h4 HM HS3 hbe hrb
        generalize barV (fuseV t 0) = t2 at *
        generalize brV (lgV u 0) = u2 at *
        go_wp2_with (first | (go_at_call 23; fail))
        refine HRB.out.mono ?_
        rintro e Y5 ⟨rfl, h5⟩
        have H5 : Hid (AskN w Y5 gx d dr c g n (.pointer none) (.pointer none) s t2 u2 j [lsP enW 3 1 ⟨p1, cp1, ys⟩]) := h5
        clear HRB h5
        go_wp2_with (first | (go_at_call 24; fail))
        refine (an_read H5.out hst (by omega) y).mono ?_
        rintro e Y6 ⟨⟨f6, rfl⟩, h6⟩
        have H6 : Hid (AskN w Y6 gx d dr c g n (.pointer none) (.pointer none) s t2 u2 j [lsP enW 3 1 ⟨p1, cp1, ys⟩]) := h6
        clear H5 h6
        have hbd := built58
        generalize blk f6 = F6 at *
        go_wp2_with (first | (refine wpList_build58w rfl rfl hbd ?_) | (go_at_call 25; fail))
        refine (an_put H6.out hst y).mono ?_
        rintro e Y7 ⟨rfl, h7⟩
        have H7 : Hid (AskN w Y7 gx d dr c g n (.pointer none) (.pointer none) s t2 u2 j [lsP enW 3 1 ⟨p1, cp1, ys⟩]) := h7
        clear H6 h7 hbd
        generalize blk nought = N at *
        go_wp2_with (first | (go_at_call 26; fail))
        refine (an_flush H7.out hst (by omega) y).mono ?_
        rintro e Y8 ⟨rfl, h8⟩
        have H8 : Hid (AskN w Y8 gx d dr c g n (.pointer none) (.pointer none) s t2 u2 j [lsP enW 3 1 ⟨p1, cp1, ys⟩]) := h8
        have k27 := an_fast h8
        have k28 := an_rfast h8
        have k29 := an_len h8
        rw [← HOL.out] at k29
        have k31 := an_order h8
        rw [HYS.out] at k31
        have K31 : Hid (Calls Try.prog 31 _ Y8 _) := k31
        clear H7 h8 hst k31
        go_wp2_with (first | (go_at_call 27; refine k27.mono ?_; rintro e V1 ⟨rfl, he⟩; obtain rfl := he.symm; clear he) | (go_at_call 28; refine k28.mono ?_; rintro e V2 ⟨rfl, he⟩; obtain rfl := he.symm; clear he) | (go_at_call 29; refine k29.mono ?_; rintro e V3 ⟨rfl, he⟩; obtain rfl := he.symm; clear he) | (go_at_call 31; fail))
        refine K31.out.mono ?_
        rintro e Y9 ⟨v9, rfl, o9, hb9⟩
        obtain ⟨p9, cp9, rfl, i9, _, _⟩ := ints_of_row o9
        have H9 : Hid (AskN w Y9 gx d dr c g n (.pointer none) (.pointer none) s t2 u2 j [lsP enW 3 1 ⟨p1, cp1, ys⟩]) := H8.out.later hb9
        have hsm := sameInts_any ys ys p9 p1 cp9 cp1 Y9 (by omega) i9 H9.out.ints
        rw [show decide (ys = ys) = true by simp] at hsm
        have HSM : Hid (Calls Try.prog 30 _ Y9 _) := hsm
        clear H8 o9 hb9 i9 hsm k27 k28 k29 K31
        go_wp2_with (first | (go_at_call 30; fail))
        refine HSM.out.mono ?_
        rintro e Z1 ⟨rfl, hz⟩
        have HZ1 : Hid (AskN w Z1 gx d dr c g n (.pointer none) (.pointer none) s t2 u2 j [lsP enW 3 1 ⟨p1, cp1, ys⟩]) := H9.out.later hz
        clear H9 hz HSM
        go_wp2_with (first | (go_at_call 32; fail))
        refine (an_crash HZ1.out (by omega)).mono ?_
        rintro e Z2 ⟨rfl, h2⟩
        have HZ2 : Hid (AskN w Z2 gx d dr c g n (.pointer none) (.pointer none) s (crashS t2 []) u2 j [lsP enW 3 1 ⟨p1, cp1, ys⟩]) := h2
        clear HZ1 h2
        go_wp2_with (first | (go_at_call 33; fail))
        refine (an_rcrash HZ2.out (by omega)).mono ?_
        rintro e Z3 ⟨rfl, h3⟩
        have HZ3 : Hid (AskS w Z3.drew gx d dr c g n (.pointer none) (.pointer none) s (crashS t2 []) (crV u2) j [lsP enW 3 1 ⟨p1, cp1, ys⟩]) := (h3.later (Below.refl _ _).drew).toS HM4.out.crash
        clear HZ2 h3 HM4
        go_upto_region 32 with fail
        refine wp_region_ordT (S := fun _ => True) [(0, true), (1, true), (2, true), (3, false), (4, true), (5, true), (6, true), (7, false), (8, true), (9, true), (10, true), (11, true), (12, true), (13, true), (14, true), (15, true), (16, true), (17, true), (18, false), (19, true), (20, true)]
          (by kernel_rfl) rfl (by kernel_rfl) (fun d _ _ _ _ h => by cases d <;> exact h) trivial ?_
        simp only [inOrd, List.getElem?_cons_zero, List.getElem?_cons_succ]
        refine wpOrdT_yield (v := .pointer (some ⟨gx, 0, none⟩)) rfl (fun u _ => exec_mvT rfl rfl) ?_
        simp only [Act.put, List.setIfInBounds_toArray, List.set_cons_succ, List.set_cons_zero]
        refine wpOrdT_yield (v := .int .i64 y) rfl (fun u _ => exec_mvT rfl rfl) ?_
        simp only [Act.put, List.setIfInBounds_toArray, List.set_cons_succ, List.set_cons_zero]
        refine wpOrdT_yield (v := .agg #[.int .u8 0, .bool false, .int .i64 y, .int .u16 0]) rfl (fun u _ => by go_simp) ?_
        simp only [Act.put, List.setIfInBounds_toArray, List.set_cons_succ, List.set_cons_zero]
        refine wpOrdT_call rfl 13 _ _ rfl Try.call13 [.pointer (some ⟨gx, 0, none⟩), .agg #[.int .u8 0, .bool false, .int .i64 y, .int .u16 0]] rfl ?_
        refine (step_ok HZ3.out (by omega) 0 y 0 (by omega) (by omega)).mono ?_
        rintro e X1 ⟨rfl, s1, t1, u1, h1⟩
        have HX1 : Hid (AskS w X1 gx d dr c g n (.pointer none) (.pointer none) s1 t1 u1 (j + 1) [lsP enW 3 1 ⟨p1, cp1, ys⟩]) := h1
        clear HZ3 h1
        refine ⟨_, rfl, fun _ => True, fun _ _ => trivial, trivial, ?_⟩
        simp only [Act.put, List.setIfInBounds_toArray, List.set_cons_succ, List.set_cons_zero]
        refine wpOrdT_yield (v := .bool true) rfl (fun u _ => exec_mvT rfl rfl) ?_
        simp only [Act.put, List.setIfInBounds_toArray, List.set_cons_succ, List.set_cons_zero]
        refine wpOrdT_yield (v := .pointer (some ⟨gx, 0, none⟩)) rfl (fun u _ => exec_mvT rfl rfl) ?_
        simp only [Act.put, List.setIfInBounds_toArray, List.set_cons_succ, List.set_cons_zero]
        refine wpOrdT_yield (v := .agg #[.int .u8 4, .bool false, .int .i64 0, .int .u16 0]) rfl (fun u _ => by go_simp) ?_
        simp only [Act.put, List.setIfInBounds_toArray, List.set_cons_succ, List.set_cons_zero]
        refine wpOrdT_call rfl 13 _ _ rfl Try.call13 [.pointer (some ⟨gx, 0, none⟩), .agg #[.int .u8 4, .bool false, .int .i64 0, .int .u16 0]] rfl ?_
        refine (step_ok HX1.out (by omega) 4 0 0 (by omega) (by omega)).mono ?_
        rintro e X2 ⟨rfl, s2, t2', u2', h2⟩
        obtain ⟨vl, vk, hrow, hst⟩ := h2.still (by omega)
        have HST2 : Hid (Calls Try.prog 18 #[vl, vk] X2 fun e W' => e = .returned (.bool true) ∧ Below w.heap.size w W' ∧ W'.heap[gx]? = some (.cells (xRow d dr c g (.pointer none) (.pointer none) vl vk) 36)) := hst
        clear HX1 h2 hst
        refine ⟨_, rfl, fun u => u.heap[gx]? = some (.cells (xRow d dr c g (.pointer none) (.pointer none) vl vk) 36), fun _ _ => trivial, hrow, ?_⟩
        simp only [Act.put, List.setIfInBounds_toArray, List.set_cons_succ, List.set_cons_zero]
        refine wpOrdT_yield (v := .bool true) rfl (fun u _ => by go_simp) ?_
        simp only [Act.put, List.setIfInBounds_toArray, List.set_cons_succ, List.set_cons_zero]
        refine wpOrdT_yield (v := .bool true) rfl (fun u _ => exec_mvT rfl rfl) ?_
        simp only [Act.put, List.setIfInBounds_toArray, List.set_cons_succ, List.set_cons_zero]
        refine wpOrdT_yield (v := .pointer (some ⟨gx, 0, none⟩)) rfl (fun u _ => exec_mvT rfl rfl) ?_
        simp only [Act.put, List.setIfInBounds_toArray, List.set_cons_succ, List.set_cons_zero]
        refine wpOrdT_yield (v := .pointer (some ⟨gx, 0, none⟩)) rfl (fun u _ => by go_simp) ?_
        simp only [Act.put, List.setIfInBounds_toArray, List.set_cons_succ, List.set_cons_zero]
        refine wpOrdT_yield (v := .pointer (some ⟨gx, 6, none⟩)) rfl (fun u _ => by go_simp) ?_
        simp only [Act.put, List.setIfInBounds_toArray, List.set_cons_succ, List.set_cons_zero]
        refine wpOrdT_yield (v := vl) rfl (fun u hu => exec_ld34 rfl rfl (Joins.cell_of_block hu 6)) ?_
        simp only [Act.put, List.setIfInBounds_toArray, List.set_cons_succ, List.set_cons_zero]
        refine wpOrdT_yield (v := .pointer (some ⟨gx, 0, none⟩)) rfl (fun u _ => exec_mvT rfl rfl) ?_
        simp only [Act.put, List.setIfInBounds_toArray, List.set_cons_succ, List.set_cons_zero]
        refine wpOrdT_yield (v := .pointer (some ⟨gx, 0, none⟩)) rfl (fun u _ => by go_simp) ?_
        simp only [Act.put, List.setIfInBounds_toArray, List.set_cons_succ, List.set_cons_zero]
        refine wpOrdT_yield (v := .pointer (some ⟨gx, 7, none⟩)) rfl (fun u _ => by go_simp) ?_
        simp only [Act.put, List.setIfInBounds_toArray, List.set_cons_succ, List.set_cons_zero]
        refine wpOrdT_yield (v := vk) rfl (fun u hu => exec_ld34 rfl rfl (Joins.cell_of_block hu 7)) ?_
        simp only [Act.put, List.setIfInBounds_toArray, List.set_cons_succ, List.set_cons_zero]
        refine wpOrdT_call rfl 18 _ _ rfl Try.call18 [vl, vk] rfl ?_
        refine HST2.out.mono ?_
        rintro e X3 ⟨rfl, hb3, hrow3⟩
        have HB3 : Hid (Below w.heap.size w X3) := hb3
        clear HST2 hb3
        refine ⟨_, rfl, fun u => u.heap[gx]? = some (.cells (xRow d dr c g (.pointer none) (.pointer none) vl vk) 36), fun _ q => q, hrow3, ?_⟩
        simp only [Act.put, List.setIfInBounds_toArray, List.set_cons_succ, List.set_cons_zero]
        refine wpOrdT_yield (v := .bool true) rfl (fun u _ => by go_simp) ?_
        simp only [Act.put, List.setIfInBounds_toArray, List.set_cons_succ, List.set_cons_zero]
        refine wpOrdT_yield (v := .bool true) rfl (fun u _ => by go_simp) ?_
        simp only [Act.put, List.setIfInBounds_toArray, List.set_cons_succ, List.set_cons_zero]
        refine wpOrdT_nil ?_
        go_wp2
        go_ret
        exact ⟨rfl, HB3.out⟩
  · have hnb := newC_bad HD1.out (n := size) (by omega)
    have hnr := new6_bad (w := W1) size hs (.pointer (some ⟨R.g, 0, none⟩))
    have HBB : Hid (Below w.heap.size w W1) := HL.out.2.2.trans (HB1.out.mono HL.out.2.2.size)
    clear HD HR HL HB1 HD1
    unfold ptr nilp at hnb
    go_wp2_with (first | (go_at_call 11; refine hnb.mono ?_; rintro e V1 ⟨rfl, he⟩; obtain rfl := he.symm; clear he) | (go_at_call 12; refine hnr.mono ?_; rintro e V2 ⟨rfl, he⟩; obtain rfl := he.symm; clear he))
    go_ret
    exact ⟨rfl, HBB.out⟩
end Go.Proofs.Ytencclpcebpgmaa
