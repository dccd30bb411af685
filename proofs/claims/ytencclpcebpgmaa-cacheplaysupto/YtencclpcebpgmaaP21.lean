/- CachePlays: two caches of one disk beside the document's two: every answer alike, whatever the steps; for every disk, sizes and steps, fewer than 900000. -/
import Derived.Test.YtencclpcebpgmaaP20
namespace Go.Proofs.Ytencclpcebpgmaa
open Go.RowKit Go.Maps
set_option maxRecDepth 20000 in
set_option maxHeartbeats 8000000 in
theorem plays_none (haw : ∀ u, Calls Try.prog 9 #[] u fun e w' => e = .returned (.bool true) ∧ Below u.heap.size u w') {w : World} (pa : Option Addr) (n cap : Nat) (hn : n = 0 ∨ 64 < n) (v1 v2 v3 : Value) :
    Calls Try.prog 3 #[.slice pa n cap, v1, v2, v3] w fun e w' => e = .returned (.bool true) ∧ Below w.heap.size w w' := by
  rcases hn with rfl | hn
  · go_enter Try.func3, Try.ntmps3
    go_wp2_with (go_at_call 9; fail)
    refine (haw _).mono ?_
    rintro e W1 ⟨rfl, hb⟩
    go_wp2
    go_ret
    exact ⟨rfl, hb⟩
  · have h1 : (64 : Int) < n := by omega
    go_enter Try.func3, Try.ntmps3
    go_wp2_with (go_at_call 9; fail)
    refine (haw _).mono ?_
    rintro e W1 ⟨rfl, hb⟩
    go_wp2
    go_ret
    exact ⟨rfl, hb⟩
theorem exec_l34 {a : Act} {o : Oper} {u : World} {y : Operand} {q k : Nat} {v : Value} (ho : o.op = .load 34 y) (hx : a.eval y = .pointer (some ⟨q, k, none⟩)) (hc : u.cell? ⟨q, k, none⟩ = some v) : (execOp a.eval o).run Try.prog u = .ok (.value v) u := by
  have e : (loadVar 34 ⟨q, k, none⟩).run Try.prog u = .ok v u := by
    simp [go_sem, hc]
  unfold execOp
  simp only [ho, hx, Instr.loadAt, Instr.sureAddr, Sem.run_bind, Sem.run_pure, Result.andThen_ok, e]
theorem froz {w : World} {g : Nat} {cs : Array Value} {t : TypeId} (h : w.heap[g]? = some (.cells cs t)) (i : Nat) : w.frozen? ⟨g, i, none⟩ = false := by simp [World.frozen?, h]
/-- What the law's first loop keeps. -/
def Mk (w : World) (gx d dr n Bs k : Nat) (one two : Int) (t : St) (u : RD) (ca ga cb gb : Value) (V : World) : Prop :=
  (k ≤ 1 → cb = .pointer none ∧ gb = .pointer none) ∧ (k = 0 → ca = .pointer none ∧ ga = .pointer none) ∧ PlN w V gx d dr n ca ga cb gb t u 0 [bxP Bs #[.int .i64 one, .int .i64 two] 37]
set_option maxRecDepth 20000 in
set_option maxHeartbeats 16000000 in
theorem law_plays (haw : ∀ u, Calls Try.prog 9 #[] u fun e w' => e = .returned (.bool true) ∧ Below u.heap.size u w') {w : World} (pa : Option Addr) (n cap : Nat) (xs : Nat → Int) (hx : U16At w pa n xs) (hxb : ∀ i, 0 ≤ xs i ∧ xs i < 65536) (one two : Int) (pb : Option Addr) (m cb0 : Nat) (hm : m ≤ 900000) (hst : StepsAt w pb m) :
    Calls Try.prog 3 #[.slice pa n cap, .int .i64 one, .int .i64 two, .slice pb m cb0] w fun e w' => e = .returned (.bool true) ∧ Below w.heap.size w w' := by
  by_cases hn : n = 0 ∨ 64 < n
  · exact plays_none haw pa n cap hn _ _ _
  have hn1 : 1 ≤ n ∧ n ≤ 64 := by omega
  have q1 : ¬ (64 : Int) < n := by omega
  have q2 : ¬ (n : Int) = 0 := by omega
  have HST : Hid (StepsAt w pb m) := hst
  have HAW : Hid (∀ u, Calls Try.prog 9 #[] u fun e w' => e = .returned (.bool true) ∧ Below u.heap.size u w') := haw
  have HDk : Hid (Calls Try.prog 10 _ w _) := disks_both pa n cap xs hn1 hx
  have HM := (show Hid _ from mate_fresh xs hxb n)
  have HC := (show Hid _ from cn_fresh xs n)
  generalize loadV (n : Int) (imgL xs n) = t0 at *
  generalize (⟨mks (fun j => fillF (xs j)) n, mks (fun j => fillF (xs j)) n, -1, false, 0, 0⟩ : RD) = u0 at *
  clear hst haw hx hn hxb
  go_enter Try.func3, Try.ntmps3
  go_wp2_with (go_at_call 10; fail)
  refine HDk.out.mono ?_
  rintro e W0 ⟨L, R, rfl, hD, hR, hL, hRL, hb0⟩
  have HS0 : Hid (Sep w W0 [dP L t0, rdP R n u0]) := pl_begin hD hR hL hRL hb0
  clear HDk hD hR hL hRL hb0
  unfold ptr
  go_wp2_with (go_at_call 9; fail)
  refine (HAW.out _).mono ?_
  rintro e W1 ⟨rfl, hb1⟩
  have hz : (W1.alloc (.cells (xRo L.d R.g (.pointer none) (.pointer none) (.pointer none) (.pointer none) (.slice none 0 0) (.slice none 0 0)) 36)).heap.size = W1.heap.size + 1 := by simp
  have HP0 := (pl_fresh (HS0.out.later hb1) HC.out).box #[.int .i64 one, .int .i64 two] 37
  rw [hz] at HP0
  clear hb1 HAW HS0 HC hz
  generalize hd : L.d = d at *
  generalize hdr : R.g = dr at *
  clear hd hdr
  have HP : Hid (PlN w ((W1.alloc (.cells #[.pointer (some ⟨d, 0, none⟩), .pointer (some ⟨dr, 0, none⟩), .pointer none, .pointer none, .pointer none, .pointer none, .slice none 0 0, .slice none 0 0] 36)).alloc (.cells #[.int .i64 one, .int .i64 two] 37)) W1.heap.size d dr n (.pointer none) (.pointer none) (.pointer none) (.pointer none) t0 u0 0 [bxP (W1.heap.size + 1) #[.int .i64 one, .int .i64 two] 37]) := HP0
  clear HP0
  go_wp2
  generalize (W1.alloc (.cells #[.pointer (some ⟨d, 0, none⟩), .pointer (some ⟨dr, 0, none⟩), .pointer none, .pointer none, .pointer none, .pointer none, .slice none 0 0, .slice none 0 0] 36)).alloc (.cells #[.int .i64 one, .int .i64 two] 37) = V at *
  generalize W1.heap.size + 1 = Bs at *
  generalize W1.heap.size = gx at *
  go_loopw [14] (fun s14 wx => ∃ (k : Nat) (ca ga cb gb : Value), k ≤ 2 ∧ s14 = .int .i64 k ∧ Hid (Mk w gx d dr n Bs k one two t0 u0 ca ga cb gb wx)) (fun s14 _ => 2 - (intOf s14).toNat)
  case atStart => exact ⟨0, _, _, _, _, by omega, rfl, fun _ => ⟨rfl, rfl⟩, fun _ => ⟨rfl, rfl⟩, HP.out⟩
  case round =>
    obtain ⟨k, ca, ga, cb, gb, hk, rfl, HK⟩ := hrel
    clear HP
    by_cases k0 : k = 0
    · subst k0
      obtain ⟨rfl, rfl⟩ := HK.out.2.1 rfl
      obtain ⟨rfl, rfl⟩ := HK.out.1 (by omega)
      have HP : Hid (PlN w wr gx d dr n (.pointer none) (.pointer none) (.pointer none) (.pointer none) t0 u0 0 [bxP Bs #[.int .i64 one, .int .i64 two] 37]) := HK.out.2.2
      clear HK HST HM
      have bs : wr.cell? ⟨Bs, 0, none⟩ = some (.int .i64 one) := Joins.cell_of_block (show wr.heap[Bs]? = some (.cells #[.int .i64 one, .int .i64 two] 37) from HP.out.part) 0
      by_cases hs : 1 ≤ one ∧ one ≤ 4096
      · go_wp2_with (go_at_call 11; fail)
        refine (HP.out.newP hs).mono ?_
        rintro e W2 ⟨K, rfl, hKd, h2⟩
        have HP2 : Hid (PlN w W2 gx d dr n (.pointer none) (.pointer none) (.pointer none) (.pointer none) t0 u0 0 (kP K (newC one) :: [bxP Bs #[.int .i64 one, .int .i64 two] 37])) := h2
        have bs2 : W2.cell? ⟨Bs, 0, none⟩ = some (.int .i64 one) := Joins.cell_of_block (show W2.heap[Bs]? = some (.cells #[.int .i64 one, .int .i64 two] 37) from h2.drop.part) 0
        clear HP h2 bs
        go_wp2_with (go_at_call 12; fail)
        refine (HP2.out.newR hs).mono ?_
        rintro e W3 ⟨g, rfl, h3⟩
        obtain ⟨vl, vk, hrow⟩ := h3.row
        have HP3 : Hid (Mk w gx d dr n Bs 1 one two t0 u0 (.pointer (some ⟨K.c, 0, none⟩)) (.pointer (some ⟨g, 0, none⟩)) (.pointer none) (.pointer none) ((W3.setCell ⟨gx, 2, none⟩ (.pointer (some ⟨K.c, 0, none⟩))).setCell ⟨gx, 4, none⟩ (.pointer (some ⟨g, 0, none⟩)))) := ⟨fun _ => ⟨rfl, rfl⟩, fun h => absurd h (by omega), h3.put0 hKd⟩
        have c1 : W3.cell? ⟨gx, 2, none⟩ = some (.pointer none) := Joins.cell_of_block hrow 2
        have f1 := froz hrow 2
        have hrow2 : (W3.setCell ⟨gx, 2, none⟩ (.pointer (some ⟨K.c, 0, none⟩))).heap[gx]? = _ := heap_setCell_same _ _ _ _ _ _ hrow
        have c2 : (W3.setCell ⟨gx, 2, none⟩ (.pointer (some ⟨K.c, 0, none⟩))).cell? ⟨gx, 4, none⟩ = some (.pointer none) := Joins.cell_of_block hrow2 4
        have f2 := froz hrow2 4
        clear HP2 h3 bs2 hrow hrow2 hKd hs
        go_wp2
        exact ⟨⟨1, _, _, _, _, by omega, by go_num, HP3⟩, by simp [intOf]⟩
      · have hnr := new6_bad (w := wr) one hs (.pointer (some ⟨dr, 0, none⟩))
        have hnp := HP.out.newN hs
        obtain ⟨vl, vk, hrow⟩ := HP.out.row
        have HP3 : Hid (Mk w gx d dr n Bs 1 one two t0 u0 (.pointer none) (.pointer none) (.pointer none) (.pointer none) ((wr.setCell ⟨gx, 2, none⟩ (.pointer none)).setCell ⟨gx, 4, none⟩ (.pointer none))) := ⟨fun _ => ⟨rfl, rfl⟩, fun h => absurd h (by omega), HP.out.nil0⟩
        have c1 : wr.cell? ⟨gx, 2, none⟩ = some (.pointer none) := Joins.cell_of_block hrow 2
        have f1 := froz hrow 2
        have hrow2 : (wr.setCell ⟨gx, 2, none⟩ (.pointer none)).heap[gx]? = _ := heap_setCell_same _ _ _ _ _ _ hrow
        have c2 : (wr.setCell ⟨gx, 2, none⟩ (.pointer none)).cell? ⟨gx, 4, none⟩ = some (.pointer none) := Joins.cell_of_block hrow2 4
        have f2 := froz hrow2 4
        clear HP hrow hrow2 hs
        go_wp2_with (first | (go_at_call 11; refine hnp.mono ?_; rintro e V1 ⟨rfl, he⟩; obtain rfl := he.symm; clear he) | (go_at_call 12; refine hnr.mono ?_; rintro e V2 ⟨rfl, he⟩; obtain rfl := he.symm; clear he))
        exact ⟨⟨1, _, _, _, _, by omega, by go_num, HP3⟩, by simp [intOf]⟩
    by_cases k1 : k = 1
    · subst k1
      obtain ⟨rfl, rfl⟩ := HK.out.1 (by omega)
      have HP : Hid (PlN w wr gx d dr n ca ga (.pointer none) (.pointer none) t0 u0 0 [bxP Bs #[.int .i64 one, .int .i64 two] 37]) := HK.out.2.2
      clear HK HST HM
      have bs : wr.cell? ⟨Bs, 1, none⟩ = some (.int .i64 two) := Joins.cell_of_block (show wr.heap[Bs]? = some (.cells #[.int .i64 one, .int .i64 two] 37) from HP.out.part) 1
      by_cases hs : 1 ≤ two ∧ two ≤ 4096
      · go_wp2_with (go_at_call 11; fail)
        refine (HP.out.newP hs).mono ?_
        rintro e W2 ⟨K, rfl, hKd, h2⟩
        have HP2 : Hid (PlN w W2 gx d dr n ca ga (.pointer none) (.pointer none) t0 u0 0 (kP K (newC two) :: [bxP Bs #[.int .i64 one, .int .i64 two] 37])) := h2
        have bs2 : W2.cell? ⟨Bs, 1, none⟩ = some (.int .i64 two) := Joins.cell_of_block (show W2.heap[Bs]? = some (.cells #[.int .i64 one, .int .i64 two] 37) from h2.drop.part) 1
        clear HP h2 bs
        go_wp2_with (go_at_call 12; fail)
        refine (HP2.out.newR hs).mono ?_
        rintro e W3 ⟨g, rfl, h3⟩
        obtain ⟨vl, vk, hrow⟩ := h3.row
        have HP3 : Hid (Mk w gx d dr n Bs 2 one two t0 u0 ca ga (.pointer (some ⟨K.c, 0, none⟩)) (.pointer (some ⟨g, 0, none⟩)) ((W3.setCell ⟨gx, 3, none⟩ (.pointer (some ⟨K.c, 0, none⟩))).setCell ⟨gx, 5, none⟩ (.pointer (some ⟨g, 0, none⟩)))) := ⟨fun h => absurd h (by omega), fun h => absurd h (by omega), h3.put1 hKd⟩
        have c1 : W3.cell? ⟨gx, 3, none⟩ = some (.pointer none) := Joins.cell_of_block hrow 3
        have f1 := froz hrow 3
        have hrow2 : (W3.setCell ⟨gx, 3, none⟩ (.pointer (some ⟨K.c, 0, none⟩))).heap[gx]? = _ := heap_setCell_same _ _ _ _ _ _ hrow
        have c2 : (W3.setCell ⟨gx, 3, none⟩ (.pointer (some ⟨K.c, 0, none⟩))).cell? ⟨gx, 5, none⟩ = some (.pointer none) := Joins.cell_of_block hrow2 5
        have f2 := froz hrow2 5
        clear HP2 h3 bs2 hrow hrow2 hKd hs
        go_wp2
        exact ⟨⟨2, _, _, _, _, by omega, by go_num, HP3⟩, by simp [intOf]⟩
      · have hnr := new6_bad (w := wr) two hs (.pointer (some ⟨dr, 0, none⟩))
        have hnp := HP.out.newN hs
        obtain ⟨vl, vk, hrow⟩ := HP.out.row
        have HP3 : Hid (Mk w gx d dr n Bs 2 one two t0 u0 ca ga (.pointer none) (.pointer none) ((wr.setCell ⟨gx, 3, none⟩ (.pointer none)).setCell ⟨gx, 5, none⟩ (.pointer none))) := ⟨fun _ => ⟨rfl, rfl⟩, fun h => absurd h (by omega), HP.out.nil1⟩
        have c1 : wr.cell? ⟨gx, 3, none⟩ = some (.pointer none) := Joins.cell_of_block hrow 3
        have f1 := froz hrow 3
        have hrow2 : (wr.setCell ⟨gx, 3, none⟩ (.pointer none)).heap[gx]? = _ := heap_setCell_same _ _ _ _ _ _ hrow
        have c2 : (wr.setCell ⟨gx, 3, none⟩ (.pointer none)).cell? ⟨gx, 5, none⟩ = some (.pointer none) := Joins.cell_of_block hrow2 5
        have f2 := froz hrow2 5
        clear HP hrow hrow2 hs
        go_wp2_with (first | (go_at_call 11; refine hnp.mono ?_; rintro e V1 ⟨rfl, he⟩; obtain rfl := he.symm; clear he) | (go_at_call 12; refine hnr.mono ?_; rintro e V2 ⟨rfl, he⟩; obtain rfl := he.symm; clear he))
        exact ⟨⟨2, _, _, _, _, by omega, by go_num, HP3⟩, by simp [intOf]⟩
    obtain rfl : k = 2 := by omega
    have HP : Hid (PlN w wr gx d dr n ca ga cb gb t0 u0 0 []) := HK.out.2.2.drop
    clear HK hk k0 k1
    rw [show ((2 : Nat) : Int) = 2 from rfl]
    go_wp2
    go_loopw [19] (fun s19 wx => ∃ i : Nat, i ≤ m ∧ s19 = .int .i64 i ∧ Hid (∃ t u j, j ≤ i ∧ Mate t n u ∧ PlN w wx gx d dr n ca ga cb gb t u j [])) (fun s19 _ => m - (intOf s19).toNat)
    case atStart => exact ⟨0, by omega, rfl, t0, u0, 0, by omega, HM.out, HP.out⟩
    obtain ⟨i, hi, rfl, HS⟩ := hrel
    clear HP HM
    obtain ⟨t, u, j, hj, hMt, hA⟩ := HS.out
    clear HS
    by_cases him : (i : Int) < m
    · obtain ⟨b, off, rfl, ⟨A⟩⟩ := HST.out i (by omega)
      have hbw : Below w.heap.size w wr := hA.below
      have k0 := (hbw.cell (p := ⟨b, off + i * 4, none⟩) A.hb).trans A.c0
      have k1 := (hbw.cell (p := ⟨b, off + i * 4 + 1, none⟩) A.hb).trans A.c1
      have k2 := (hbw.cell (p := ⟨b, off + i * 4 + 2, none⟩) A.hb).trans A.c2
      have k3 := (hbw.cell (p := ⟨b, off + i * 4 + 3, none⟩) A.hb).trans A.c3
      have hfl := A.hf
      have hps := A.hp
      generalize A.o = o at *
      generalize A.second = sc at *
      generalize A.pos = p at *
      generalize A.fill = f at *
      have hc := play_step hA hMt (by omega) (by omega) o p f sc hps.2 hfl
      clear HST hbw hA hMt
      go_wp2_with (first | (go_at_call 13; fail))
      refine hc.mono ?_
      rintro e Y ⟨rfl, t', u', hM', h'⟩
      have HF : Hid (∃ t u j, j ≤ i + 1 ∧ Mate t n u ∧ PlN w Y gx d dr n ca ga cb gb t u j []) := ⟨t', u', j + 1, by omega, hM', h'⟩
      clear hc hM' h'
      go_wp2
      exact ⟨⟨i + 1, by omega, by go_num, HF.out⟩, by simp [intOf]; omega⟩
    obtain rfl : i = m := by omega
    have HQ : Hid (∃ t u j, j ≤ i + 2 * 0 ∧ Mate t n u ∧ PlN w wr gx d dr n ca ga cb gb t u j []) := ⟨t, u, j, by omega, hMt, hA⟩
    clear hA hMt HST
    go_wp2
    go_loopw [21] (fun s21 wx => ∃ k : Nat, k ≤ 2 ∧ s21 = .int .i64 k ∧ Hid (∃ t u j, j ≤ i + 2 * k ∧ Mate t n u ∧ PlN w wx gx d dr n ca ga cb gb t u j [])) (fun s21 _ => 2 - (intOf s21).toNat)
    case atStart => exact ⟨0, by omega, rfl, HQ.out⟩
    obtain ⟨k, hk, rfl, HK⟩ := hrel
    clear HQ
    obtain ⟨t, u, j, hj, hMt, hA⟩ := HK.out
    by_cases z0 : k = 0
    · subst z0
      have x2 := hA.c0.2.2.1
      rcases hA.first with hq | ⟨cp, hq⟩
      · rw [hq] at x2
        have HA0 : Hid (PlN w wr gx d dr n ca ga cb gb t u j []) := hA
        have HM0 : Hid (Mate t n u) := hMt
        clear hA hMt HK hq
        go_wp2
        exact ⟨⟨1, by omega, by go_num, t, u, j, by omega, HM0.out, HA0.out⟩, by simp [intOf]⟩
      · have hne : ¬ ca = .pointer none := by rw [hq]; intro q; injection q with q; cases q
        rw [hq] at x2
        have hc1 := hA.ask hMt hne (by omega) (.bool false) 4 0 0 (by omega)
        clear hA hMt HK
        go_wp2_with (go_at_call 14; fail)
        refine hc1.mono ?_
        rintro e Y1 ⟨rfl, t1, u1, hM1, h1⟩
        have hc2 := h1.ask hM1 hne (by omega) (.bool false) 3 0 0 (by omega)
        clear hM1 h1 hc1 x2
        go_wp2_with (go_at_call 14; fail)
        refine hc2.mono ?_
        rintro e Y2 ⟨rfl, t2, u2, hM2, h2⟩
        have HF : Hid (∃ t u j, j ≤ i + 2 * 1 ∧ Mate t n u ∧ PlN w Y2 gx d dr n ca ga cb gb t u j []) := ⟨t2, u2, j + 1 + 1, by omega, hM2, h2⟩
        clear hM2 h2 hc2
        go_wp2
        exact ⟨⟨1, by omega, by go_num, HF.out⟩, by simp [intOf]⟩
    by_cases z1 : k = 1
    · subst z1
      have x2 := hA.c0.2.2.2
      rcases hA.second with hq | ⟨cp, hq⟩
      · rw [hq] at x2
        have HA0 : Hid (PlN w wr gx d dr n ca ga cb gb t u j []) := hA
        have HM0 : Hid (Mate t n u) := hMt
        clear hA hMt HK hq
        go_wp2
        exact ⟨⟨2, by omega, by go_num, t, u, j, by omega, HM0.out, HA0.out⟩, by simp [intOf]⟩
      · have hne : ¬ cb = .pointer none := by rw [hq]; intro q; injection q with q; cases q
        rw [hq] at x2
        have hc1 := hA.ask1 hMt hne (by omega) (.bool false) 4 0 0 (by omega)
        clear hA hMt HK
        go_wp2_with (go_at_call 14; fail)
        refine hc1.mono ?_
        rintro e Y1 ⟨rfl, t1, u1, hM1, h1⟩
        have hc2 := h1.ask1 hM1 hne (by omega) (.bool false) 3 0 0 (by omega)
        clear hM1 h1 hc1 x2
        go_wp2_with (go_at_call 14; fail)
        refine hc2.mono ?_
        rintro e Y2 ⟨rfl, t2, u2, hM2, h2⟩
        have HF : Hid (∃ t u j, j ≤ i + 2 * 2 ∧ Mate t n u ∧ PlN w Y2 gx d dr n ca ga cb gb t u j []) := ⟨t2, u2, j + 1 + 1, by omega, hM2, h2⟩
        clear hM2 h2 hc2
        go_wp2
        exact ⟨⟨2, by omega, by go_num, HF.out⟩, by simp [intOf]⟩
    obtain rfl : k = 2 := by omega
    obtain ⟨vl, vk, hE, hS⟩ := PlN.last (hA.later (Below.refl _ _).drew) (by omega)
    have c15 := PlN.reads (hA.later (Below.refl _ _).drew)
    have c16 := PlN.made (hA.later (Below.refl _ _).drew)
    have c17 := PlN.stopped (hA.later (Below.refl _ _).drew)
    have HE : Hid (EnS gx dr u vl vk wr.drew) := hE
    have HS : Hid (Calls Try.prog 18 #[vl, vk] wr.drew fun e W' => e = .returned (.bool true) ∧ Below w.heap.size w W' ∧ EnS gx dr u vl vk W') := hS
    have r1 := hMt.reads
    have r2 := hMt.made
    have r3 := hMt.stop
    have HR1 : Hid _ := r1
    have HR2 : Hid _ := r2
    have HR3 : Hid _ := r3
    clear hA hMt HK hE hS r1 r2 r3
    go_wp2
    refine wp_region_ord (S := EnS gx dr u vl vk) [(0, true), (2, true), (3, true), (4, true), (5, true), (1, false), (6, true), (7, true), (8, true), (10, true), (11, true), (12, true), (13, true), (9, false), (14, true), (15, true), (16, true), (17, true), (19, true), (20, true), (21, true), (22, true), (18, false), (23, true), (24, true), (25, true), (26, true), (27, true), (28, true), (29, true), (30, true), (31, true), (32, true), (33, true), (34, false), (35, true), (36, true)] (by kernel_rfl) rfl (by kernel_rfl) (fun d _ _ _ _ h => by cases d <;> exact h) HE.out ?_
    generalize wr.drew = X at *
    simp only [inOrd, List.getElem?_cons_zero, List.getElem?_cons_succ]
    refine wpOrd_yield (v := .pointer (some ⟨d, 0, none⟩)) rfl (fun V _ => exec_mvP rfl rfl) ?_
    simp only [Act.put, List.setIfInBounds_toArray, List.set_cons_succ, List.set_cons_zero]
    refine wpOrd_yield (v := .pointer (some ⟨dr, 0, none⟩)) rfl (fun V _ => exec_mvP rfl rfl) ?_
    simp only [Act.put, List.setIfInBounds_toArray, List.set_cons_succ, List.set_cons_zero]
    refine wpOrd_yield (v := .pointer (some ⟨dr, 0, none⟩)) rfl (fun V _ => by go_simp) ?_
    simp only [Act.put, List.setIfInBounds_toArray, List.set_cons_succ, List.set_cons_zero]
    refine wpOrd_yield (v := .pointer (some ⟨dr, 4, none⟩)) rfl (fun V _ => by go_simp) ?_
    simp only [Act.put, List.setIfInBounds_toArray, List.set_cons_succ, List.set_cons_zero]
    refine wpOrd_yield (v := .int .i64 u.reads) rfl (fun V hu => by have := hu.2.2.2.1; go_simp) ?_
    simp only [Act.put, List.setIfInBounds_toArray, List.set_cons_succ, List.set_cons_zero]
    refine wpOrd_call rfl 15 _ _ rfl Try.call15 [.pointer (some ⟨d, 0, none⟩)] rfl ?_
    refine (c15).mono ?_
    rintro e V1 ⟨rfl, he⟩
    obtain rfl := he.symm
    clear he
    refine ⟨_, rfl, HE.out, ?_⟩
    simp only [Act.put, List.setIfInBounds_toArray, List.set_cons_succ, List.set_cons_zero]
    rw [← HR1.out]
    refine wpOrd_yield (v := .bool true) rfl (fun V _ => by go_simp) ?_
    simp only [Act.put, List.setIfInBounds_toArray, List.set_cons_succ, List.set_cons_zero]
    refine wpOrd_yield (v := .bool true) rfl (fun V _ => exec_mvP rfl rfl) ?_
    simp only [Act.put, List.setIfInBounds_toArray, List.set_cons_succ, List.set_cons_zero]
    refine wpOrd_yield (v := .pointer (some ⟨d, 0, none⟩)) rfl (fun V _ => exec_mvP rfl rfl) ?_
    simp only [Act.put, List.setIfInBounds_toArray, List.set_cons_succ, List.set_cons_zero]
    refine wpOrd_yield (v := .pointer (some ⟨dr, 0, none⟩)) rfl (fun V _ => exec_mvP rfl rfl) ?_
    simp only [Act.put, List.setIfInBounds_toArray, List.set_cons_succ, List.set_cons_zero]
    refine wpOrd_yield (v := .pointer (some ⟨dr, 0, none⟩)) rfl (fun V _ => by go_simp) ?_
    simp only [Act.put, List.setIfInBounds_toArray, List.set_cons_succ, List.set_cons_zero]
    refine wpOrd_yield (v := .pointer (some ⟨dr, 5, none⟩)) rfl (fun V _ => by go_simp) ?_
    simp only [Act.put, List.setIfInBounds_toArray, List.set_cons_succ, List.set_cons_zero]
    refine wpOrd_yield (v := .int .i64 u.made) rfl (fun V hu => by have := hu.2.2.2.2; go_simp) ?_
    simp only [Act.put, List.setIfInBounds_toArray, List.set_cons_succ, List.set_cons_zero]
    refine wpOrd_call rfl 16 _ _ rfl Try.call16 [.pointer (some ⟨d, 0, none⟩)] rfl ?_
    refine (c16).mono ?_
    rintro e V2 ⟨rfl, he⟩
    obtain rfl := he.symm
    clear he
    refine ⟨_, rfl, HE.out, ?_⟩
    simp only [Act.put, List.setIfInBounds_toArray, List.set_cons_succ, List.set_cons_zero]
    rw [← HR2.out]
    refine wpOrd_yield (v := .bool true) rfl (fun V _ => by go_simp) ?_
    simp only [Act.put, List.setIfInBounds_toArray, List.set_cons_succ, List.set_cons_zero]
    refine wpOrd_yield (v := .bool true) rfl (fun V _ => by go_simp) ?_
    simp only [Act.put, List.setIfInBounds_toArray, List.set_cons_succ, List.set_cons_zero]
    refine wpOrd_yield (v := .bool true) rfl (fun V _ => exec_mvP rfl rfl) ?_
    simp only [Act.put, List.setIfInBounds_toArray, List.set_cons_succ, List.set_cons_zero]
    refine wpOrd_yield (v := .pointer (some ⟨d, 0, none⟩)) rfl (fun V _ => exec_mvP rfl rfl) ?_
    simp only [Act.put, List.setIfInBounds_toArray, List.set_cons_succ, List.set_cons_zero]
    refine wpOrd_yield (v := .pointer (some ⟨dr, 0, none⟩)) rfl (fun V _ => exec_mvP rfl rfl) ?_
    simp only [Act.put, List.setIfInBounds_toArray, List.set_cons_succ, List.set_cons_zero]
    refine wpOrd_yield (v := .pointer (some ⟨dr, 0, none⟩)) rfl (fun V _ => by go_simp) ?_
    simp only [Act.put, List.setIfInBounds_toArray, List.set_cons_succ, List.set_cons_zero]
    refine wpOrd_yield (v := .pointer (some ⟨dr, 3, none⟩)) rfl (fun V _ => by go_simp) ?_
    simp only [Act.put, List.setIfInBounds_toArray, List.set_cons_succ, List.set_cons_zero]
    refine wpOrd_yield (v := .bool u.stopped) rfl (fun V hu => by have := hu.2.2.1; go_simp) ?_
    simp only [Act.put, List.setIfInBounds_toArray, List.set_cons_succ, List.set_cons_zero]
    refine wpOrd_call rfl 17 _ _ rfl Try.call17 [.pointer (some ⟨d, 0, none⟩)] rfl ?_
    refine (c17).mono ?_
    rintro e V3 ⟨rfl, he⟩
    obtain rfl := he.symm
    clear he
    refine ⟨_, rfl, HE.out, ?_⟩
    simp only [Act.put, List.setIfInBounds_toArray, List.set_cons_succ, List.set_cons_zero]
    rw [← HR3.out]
    refine wpOrd_yield (v := .bool true) rfl (fun V _ => by go_simp) ?_
    simp only [Act.put, List.setIfInBounds_toArray, List.set_cons_succ, List.set_cons_zero]
    refine wpOrd_yield (v := .bool true) rfl (fun V _ => by go_simp) ?_
    simp only [Act.put, List.setIfInBounds_toArray, List.set_cons_succ, List.set_cons_zero]
    refine wpOrd_yield (v := .bool true) rfl (fun V _ => exec_mvP rfl rfl) ?_
    simp only [Act.put, List.setIfInBounds_toArray, List.set_cons_succ, List.set_cons_zero]
    refine wpOrd_yield (v := .pointer (some ⟨gx, 0, none⟩)) rfl (fun V _ => exec_mvP rfl rfl) ?_
    simp only [Act.put, List.setIfInBounds_toArray, List.set_cons_succ, List.set_cons_zero]
    refine wpOrd_yield (v := .pointer (some ⟨gx, 0, none⟩)) rfl (fun V _ => by go_simp) ?_
    simp only [Act.put, List.setIfInBounds_toArray, List.set_cons_succ, List.set_cons_zero]
    refine wpOrd_yield (v := .pointer (some ⟨gx, 6, none⟩)) rfl (fun V _ => by go_simp) ?_
    simp only [Act.put, List.setIfInBounds_toArray, List.set_cons_succ, List.set_cons_zero]
    refine wpOrd_yield (v := vl) rfl (fun V hu => exec_l34 rfl rfl hu.1) ?_
    simp only [Act.put, List.setIfInBounds_toArray, List.set_cons_succ, List.set_cons_zero]
    refine wpOrd_yield (v := .pointer (some ⟨gx, 0, none⟩)) rfl (fun V _ => exec_mvP rfl rfl) ?_
    simp only [Act.put, List.setIfInBounds_toArray, List.set_cons_succ, List.set_cons_zero]
    refine wpOrd_yield (v := .pointer (some ⟨gx, 0, none⟩)) rfl (fun V _ => by go_simp) ?_
    simp only [Act.put, List.setIfInBounds_toArray, List.set_cons_succ, List.set_cons_zero]
    refine wpOrd_yield (v := .pointer (some ⟨gx, 7, none⟩)) rfl (fun V _ => by go_simp) ?_
    simp only [Act.put, List.setIfInBounds_toArray, List.set_cons_succ, List.set_cons_zero]
    refine wpOrd_yield (v := vk) rfl (fun V hu => exec_l34 rfl rfl hu.2.1) ?_
    simp only [Act.put, List.setIfInBounds_toArray, List.set_cons_succ, List.set_cons_zero]
    refine wpOrd_call rfl 18 _ _ rfl Try.call18 [vl, vk] rfl ?_
    refine HS.out.mono ?_
    rintro e V4 ⟨rfl, hb4, hE4⟩
    refine ⟨_, rfl, hE4, ?_⟩
    simp only [Act.put, List.setIfInBounds_toArray, List.set_cons_succ, List.set_cons_zero]
    have HB4 : Hid (Below w.heap.size w V4) := hb4
    clear hb4 hE4 HS HE
    refine wpOrd_yield (v := .bool true) rfl (fun u _ => by go_simp) ?_
    simp only [Act.put, List.setIfInBounds_toArray, List.set_cons_succ, List.set_cons_zero]
    refine wpOrd_yield (v := .bool true) rfl (fun u _ => by go_simp) ?_
    simp only [Act.put, List.setIfInBounds_toArray, List.set_cons_succ, List.set_cons_zero]
    refine wpOrd_nil ?_
    go_wp2
    go_ret
    exact ⟨rfl, HB4.out⟩
end Go.Proofs.Ytencclpcebpgmaa
