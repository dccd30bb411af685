/- The document's Changed: the walk; lists of at most a hundred million blocks. -/
import Derived.Test.YtbnbbelkddbndaaRChgM
import Derived.Test.YtbnbbelkddbndaaRSame
import Derived.Test.YtbnbbelkddbndaaRPend
import Derived.Deep.QuietTactic
import Derived.BigQuiet
import Derived.Deep.Onto
import Derived.Lib.SmallJoins
namespace Go.Proofs.Ytbnbbelkddbndaa
open Go.RowKit Go.Maps
theorem wpStill_neqB {ops : Array Oper} {Q : Act → Prop} {a : Act} {o : Oper} {rest : List Oper} {w : World} (hw : Region.wanted o (yielded ops a.tmps) = true) (x y : Operand) (ho : o.op = .binOp .neq 40 x y 40)
    (f g : Nat → Int) (r : Bool) (hx : a.eval x = .agg (blk f)) (hy : a.eval y = .agg (blk g)) (hr : sameB f g = r)
    (h : wpStill Try.prog ops w Q rest (a.put o.dst (.bool (!r)))) : wpStill Try.prog ops w Q (o :: rest) a := by
  have e := eq25 f g w
  rw [hr] at e
  generalize blk f = F at *
  generalize blk g = G at *
  have e' : (binOp .neq 40 (.agg F) (.agg G)).run Try.prog w = .ok (.bool (!r)) w := by simp only [binOp, Op.equal, Op.maxDepth, Sem.run_bind, e, Result.andThen_ok, Sem.run_pure]
  have eg : (eqGuard .neq 40 x y (.agg F) (.agg G)).run Try.prog w = .ok () w := by unfold eqGuard; simp
  unfold wpStill
  rw [if_pos hw]
  unfold Oper.still execOp
  simp only [ho, hx, hy, Sem.run_bind, eg, e', Result.andThen_ok, Sem.run_pure, Oper.stillUpon]
  exact ⟨trivial, h⟩
/-- What it tells. -/
def rChgL (n m : Int) (s t : List Cel) : List Int := if mayB n s && mayB m t && decide (n = m) then chgM (s.length + t.length) s t else []
set_option maxRecDepth 20000 in
set_option maxHeartbeats 4000000 in
theorem refChanged_any (n m : Int) (s t : List Cel) (p q : Option Addr) (cp cq : Nat) (w : World) (hls : s.length ≤ 100000000) (hlt : t.length ≤ 100000000) (hs : ImgAt w p s) (ht : ImgAt w q t) :
    Calls Try.prog 46 #[.agg #[.int .i64 n, .slice p s.length cp], .agg #[.int .i64 m, .slice q t.length cq]] w fun e w' => ∃ v : Value, e = .returned v ∧ w'.ownsRow w.heap.size 3 1 v (rChgL n m s t).length ((rChgL n m s t).map (Value.int .i64)) ∧ Below w.heap.size w w' := by
  have HS := Hid.mk' hs
  have HT := Hid.mk' ht
  have HWa := Hid.mk' (fun (W : World) (hW : Below w.heap.size w W) => rWhole_any n s p cp W (by omega) (hs.later hW))
  have HWb := Hid.mk' (fun (W : World) (hW : Below w.heap.size w W) => rWhole_any m t q cq W (by omega) (ht.later hW))
  unfold wholeE at HWa HWb
  obtain ⟨i0, hi0, hz0, hz1, hz2⟩ := info_parts info3b
  have HV := Hid.mk' (show rChgL n m s t = if mayB n s && mayB m t && decide (n = m) then chgM (s.length + t.length) s t else [] from rfl)
  have HZ := Hid.mk' (chgM_len (s.length + t.length) s t)
  generalize rChgL n m s t = res at *
  generalize mayB n s = m1 at *
  generalize mayB m t = m2 at *
  obtain ⟨N, hN⟩ : ∃ N, s.length = N := ⟨_, rfl⟩
  obtain ⟨M, hM⟩ : ∃ M, t.length = M := ⟨_, rfl⟩
  have HN := Hid.mk' hN
  have HM := Hid.mk' hM
  rw [hN] at hls HWa ⊢
  rw [hM] at hlt HWb ⊢
  clear hN hM hs ht
  have HB0 := Hid.mk' (below_next (below_new w (.cells #[.int .i64 n, .slice p N cp] 24)) (below_new (w.alloc (.cells #[.int .i64 n, .slice p N cp] 24)) (.cells #[.int .i64 m, .slice q M cq] 24)))
  have HG2 := Hid.mk' (heap_kept (heap_alloc_new w (.cells #[.int .i64 n, .slice p N cp] 24)) (below_new (w.alloc (.cells #[.int .i64 n, .slice p N cp] 24)) (.cells #[.int .i64 m, .slice q M cq] 24)))
  have hG3 := heap_alloc_new (w.alloc (.cells #[.int .i64 n, .slice p N cp] 24)) (.cells #[.int .i64 m, .slice q M cq] 24)
  rw [show (w.alloc (.cells #[.int .i64 n, .slice p N cp] 24)).heap.size = w.heap.size + 1 by simp] at hG3
  have HG3 := Hid.mk' hG3
  clear hG3
  go_enter Try.func46, Try.ntmps46
  go_wp2_with (go_at_call 42; fail)
  refine Calls.mono (HWa.out _ HB0.out) ?_
  rintro e W1 ⟨rfl, hb1⟩
  have HB1 := Hid.mk' (below_next HB0.out hb1)
  have HG21 := Hid.mk' (heap_kept HG2.out hb1)
  have HG31 := Hid.mk' (heap_kept HG3.out hb1)
  clear hb1 HB0 HG2 HG3 HWa
  cases m1
  · have e : res = [] := by rw [HV.out]; simp
    clear HV
    subst e
    go_wp2
    go_ret
    exact ⟨_, rfl, World.ownsRow_nil _ _ _ _, HB1.out⟩
  have a0 : W1.cell? ⟨w.heap.size + 1, 0, none⟩ = some (.int .i64 m) := Joins.cell_of_block HG31.out 0
  have a1 : W1.cell? ⟨w.heap.size + 1, 1, none⟩ = some (.slice q M cq) := Joins.cell_of_block HG31.out 1
  go_wp2_with (go_at_call 42; fail)
  refine Calls.mono (HWb.out _ HB1.out) ?_
  rintro e W2 ⟨rfl, hb2⟩
  have HB2 := Hid.mk' (below_next HB1.out hb2)
  have HG22 := Hid.mk' (heap_kept HG21.out hb2)
  have HG32 := Hid.mk' (heap_kept HG31.out hb2)
  clear hb2 HB1 HG21 HG31 HWb a0 a1
  cases m2
  · have e : res = [] := by rw [HV.out]; simp
    clear HV
    subst e
    go_wp2
    go_ret
    exact ⟨_, rfl, World.ownsRow_nil _ _ _ _, HB2.out⟩
  have a0 : W2.cell? ⟨w.heap.size, 0, none⟩ = some (.int .i64 n) := Joins.cell_of_block HG22.out 0
  have a1 : W2.cell? ⟨w.heap.size, 1, none⟩ = some (.slice p N cp) := Joins.cell_of_block HG22.out 1
  have b0 : W2.cell? ⟨w.heap.size + 1, 0, none⟩ = some (.int .i64 m) := Joins.cell_of_block HG32.out 0
  have b1 : W2.cell? ⟨w.heap.size + 1, 1, none⟩ = some (.slice q M cq) := Joins.cell_of_block HG32.out 1
  by_cases hnm : n = m
  · subst hnm
    have HR := Hid.mk' (show res = [] ++ chgM (N + M) (s.drop 0) (t.drop 0) by rw [HV.out, HN.out, HM.out]; simp)
    clear HV
    go_wp2
    clear a0 a1 b0 b1
    go_loopw [5, 6, 7] (fun s5 s6 s7 wx => ∃ (i k : Nat) (v : Value) (dn : List Int), i ≤ N ∧ k ≤ M ∧ s5 = v ∧ s6 = .int .i64 i ∧ s7 = .int .i64 k ∧ Hid (dn.length ≤ i + k) ∧ Hid (wx.ownsRow W2.heap.size 3 1 v dn.length (dn.map (Value.int .i64))) ∧ Hid (Below W2.heap.size W2 wx) ∧ Hid (res = dn ++ chgM (N - i + (M - k)) (s.drop i) (t.drop k))) (fun _ s6 s7 _ => (N - (intOf s6).toNat) + (M - (intOf s7).toNat))
    case atStart => exact ⟨0, 0, .slice none 0 0, [], by omega, by omega, rfl, rfl, rfl, Nat.zero_le _, World.ownsRow_nil _ _ _ _, Below.refl _ _, HR.out⟩
    case round =>
      obtain ⟨i, k, v, dn, hi, hk, hv, rfl, rfl, HL, HW, HB, HRr⟩ := hrel
      have hv2 := hv.symm
      subst hv2
      clear HR
      have a1 : wr.cell? ⟨w.heap.size, 1, none⟩ = some (.slice p N cp) := Joins.cell_of_block (heap_kept HG22.out HB.out) 1
      have b1 : wr.cell? ⟨w.heap.size + 1, 1, none⟩ = some (.slice q M cq) := Joins.cell_of_block (heap_kept HG32.out HB.out) 1
      have HBw := Hid.mk' (below_next HB2.out HB.out)
      clear HG22 HG32
      by_cases hi1 : (i : Int) < N
      · obtain ⟨g1, o1, rfl, l1, C1⟩ := HS.out (by have := HN.out; omega)
        have hsi : i < s.length := by have := HN.out; omega
        have hc : s[i]? = some (s[i]'hsi) := List.getElem?_eq_getElem hsi
        have hcd : s.drop i = s[i]'hsi :: s.drop (i + 1) := List.drop_eq_getElem_cons hsi
        generalize s[i]'hsi = c at hc hcd
        clear hsi
        have q1 : CelAt wr g1 (o1 + i * 1025) c := (C1.later HBw.out l1) i c hc
        have c1 := q1.1
        have HQ1 := Hid.mk' q1.2
        clear q1 C1 hc
        by_cases hk1 : (k : Int) < M
        · obtain ⟨g2, o2, rfl, l2, C2⟩ := HT.out (by have := HM.out; omega)
          have htk : k < t.length := by have := HM.out; omega
          have hd : t[k]? = some (t[k]'htk) := List.getElem?_eq_getElem htk
          have hdd : t.drop k = t[k]'htk :: t.drop (k + 1) := List.drop_eq_getElem_cons htk
          generalize t[k]'htk = d at hd hdd
          clear htk
          have q2 : CelAt wr g2 (o2 + k * 1025) d := (C2.later HBw.out l2) k d hd
          have c2 := q2.1
          have HQ2 := Hid.mk' q2.2
          clear q2 C2 hd
          have hdk : decide (M ≤ k) = false := decide_eq_false (by omega)
          have hdi : decide (N ≤ i) = false := decide_eq_false (by omega)
          obtain ⟨n', hn'⟩ : ∃ n', N - i + (M - k) = n' + 1 := ⟨N - i + (M - k) - 1, by omega⟩
          have HE : Hid (chgM (N - i + (M - k)) (s.drop i) (t.drop k) = if c.1 < d.1 then c.1 :: chgM n' (s.drop (i + 1)) (t.drop k) else if d.1 < c.1 then d.1 :: chgM n' (s.drop i) (t.drop (k + 1)) else if sameB c.2 d.2 then chgM n' (s.drop (i + 1)) (t.drop (k + 1)) else c.1 :: chgM n' (s.drop (i + 1)) (t.drop (k + 1))) := by
            have e : chgM (N - i + (M - k)) (s.drop i) (t.drop k) = if c.1 < d.1 then c.1 :: chgM n' (s.drop (i + 1)) (t.drop k) else if d.1 < c.1 then d.1 :: chgM n' (s.drop i) (t.drop (k + 1)) else if sameB c.2 d.2 then chgM n' (s.drop (i + 1)) (t.drop (k + 1)) else c.1 :: chgM n' (s.drop (i + 1)) (t.drop (k + 1)) := by
              rw [hn', hcd, hdd]; rfl
            exact e
          clear hcd hdd
          have HMo := Hid.mk' (fun (x y : Nat) (hx : x ≤ N) (hy : y ≤ M) (hxy : N - x + (M - y) ≤ n') => chgM_more n' (s.drop x) (t.drop y) (by rw [List.length_drop, List.length_drop, HN.out, HM.out]; omega) (N - x + (M - y)) (by rw [List.length_drop, List.length_drop, HN.out, HM.out]; exact Nat.le_refl _))
          obtain ⟨cx, cf⟩ := c
          obtain ⟨dx, df⟩ := d
          dsimp only at *
          by_cases x1 : cx < dx
          · skip
            have HF : Hid (res = (dn ++ [cx]) ++ chgM (N - (i + 1) + (M - (k))) (s.drop (i + 1)) (t.drop (k))) := by
              have e : res = (dn ++ [cx]) ++ chgM (N - (i + 1) + (M - (k))) (s.drop (i + 1)) (t.drop (k)) := by
                rw [HRr.out, HE.out, if_pos x1, HMo.out (i + 1) k (by omega) (by omega) (by omega)]; simp
              exact e
            have hlen := HL.out
            clear HL HRr HBw
            clear HE HMo HQ1 HQ2 hn'
            have hx1 : decide (cx < dx) = true := decide_eq_true x1
            go_upto_region 11 with fail
            go_quiet (fail)
            have a1q : (World.drewN wr nq).cell? ⟨w.heap.size, 1, none⟩ = some (.slice (some ⟨g1, o1, none⟩) N cp) := a1
            have b1q : (World.drewN wr nq).cell? ⟨w.heap.size + 1, 1, none⟩ = some (.slice (some ⟨g2, o2, none⟩) M cq) := b1
            have c1q : (World.drewN wr nq).cell? ⟨g1, o1 + i * 1025, none⟩ = some (.int .i64 cx) := c1
            have c2q : (World.drewN wr nq).cell? ⟨g2, o2 + k * 1025, none⟩ = some (.int .i64 dx) := c2
            have HBq : Hid (Below W2.heap.size W2 (World.drewN wr nq)) := HB.out.trans ⟨rfl, rfl, rfl, Nat.le_refl _, fun _ _ => rfl⟩
            have HWq : Hid (World.ownsRow (World.drewN wr nq) W2.heap.size 3 1 v dn.length (dn.map (Value.int .i64))) := HW.out
            clear a1 b1 c1 c2 HB HW
            have a1 := a1q
            have b1 := b1q
            have c1 := c1q
            have c2 := c2q
            have HB := HBq
            have HW := HWq
            clear a1q b1q c1q c2q HBq HWq
            generalize World.drewN wr nq = wq0 at *
            have hown := HW.out
            have hbase := HW.out.lt
            clear HW
            go_wp2_with (at_builtin; refine wpList_append_own_at _ rfl _ _ 57 rfl W2.heap.size 3 i0 (.int .i64 0) 1 8 Try.underlying57 hi0 hz0 hz1 hz2 rfl (by decide) v dn.length (dn.map (Value.int .i64)) rfl (hown.alloc _) ⟨_, 0, none⟩ 1 1 [.int .i64 cx] rfl rfl (cell_one_new _ _ _) (ints_oneCell .i64 [cx]) (by unfold maxLen; omega) (by omega) (by have := HB.out.size; simp; omega) ?_; intro v' w2 hown2 hg2 hnil hloc)
            exact ⟨⟨i + 1, k, v', dn ++ [cx], by omega, by omega, rfl, by first | rfl | go_num, by first | rfl | go_num, (show (dn ++ [cx]).length ≤ i + 1 + (k) by rw [List.length_append, List.length_singleton]; omega), by rw [List.length_append, List.map_append]; exact hown2, Below.grown (by first | exact Below.alloc HB.out HB.out.size _ | exact (Below.alloc HB.out HB.out.size _).drew) hg2 (by have := HB.out.size; simp; omega) (fun j hj => (hbase j hj).1), HF.out⟩, by simp [intOf]; omega⟩
          · have hx1 : decide (cx < dx) = false := decide_eq_false x1
            by_cases x2 : dx < cx
            · skip
              have HF : Hid (res = (dn ++ [dx]) ++ chgM (N - (i) + (M - (k + 1))) (s.drop (i)) (t.drop (k + 1))) := by
                have e : res = (dn ++ [dx]) ++ chgM (N - (i) + (M - (k + 1))) (s.drop (i)) (t.drop (k + 1)) := by
                  rw [HRr.out, HE.out, if_neg x1, if_pos x2, HMo.out i (k + 1) (by omega) (by omega) (by omega)]; simp
                exact e
              have hlen := HL.out
              clear HL HRr HBw
              clear HE HMo HQ1 HQ2 hn'
              have hx2 : decide (dx < cx) = true := decide_eq_true x2
              go_upto_region 11 with fail
              go_quiet (fail)
              have a1q : (World.drewN wr nq).cell? ⟨w.heap.size, 1, none⟩ = some (.slice (some ⟨g1, o1, none⟩) N cp) := a1
              have b1q : (World.drewN wr nq).cell? ⟨w.heap.size + 1, 1, none⟩ = some (.slice (some ⟨g2, o2, none⟩) M cq) := b1
              have c1q : (World.drewN wr nq).cell? ⟨g1, o1 + i * 1025, none⟩ = some (.int .i64 cx) := c1
              have c2q : (World.drewN wr nq).cell? ⟨g2, o2 + k * 1025, none⟩ = some (.int .i64 dx) := c2
              have HBq : Hid (Below W2.heap.size W2 (World.drewN wr nq)) := HB.out.trans ⟨rfl, rfl, rfl, Nat.le_refl _, fun _ _ => rfl⟩
              have HWq : Hid (World.ownsRow (World.drewN wr nq) W2.heap.size 3 1 v dn.length (dn.map (Value.int .i64))) := HW.out
              clear a1 b1 c1 c2 HB HW
              have a1 := a1q
              have b1 := b1q
              have c1 := c1q
              have c2 := c2q
              have HB := HBq
              have HW := HWq
              clear a1q b1q c1q c2q HBq HWq
              generalize World.drewN wr nq = wq0 at *
              go_upto_region 14 with fail
              go_quiet (fail)
              have a1q : (World.drewN wq0 nq).cell? ⟨w.heap.size, 1, none⟩ = some (.slice (some ⟨g1, o1, none⟩) N cp) := a1
              have b1q : (World.drewN wq0 nq).cell? ⟨w.heap.size + 1, 1, none⟩ = some (.slice (some ⟨g2, o2, none⟩) M cq) := b1
              have c1q : (World.drewN wq0 nq).cell? ⟨g1, o1 + i * 1025, none⟩ = some (.int .i64 cx) := c1
              have c2q : (World.drewN wq0 nq).cell? ⟨g2, o2 + k * 1025, none⟩ = some (.int .i64 dx) := c2
              have HBq : Hid (Below W2.heap.size W2 (World.drewN wq0 nq)) := HB.out.trans ⟨rfl, rfl, rfl, Nat.le_refl _, fun _ _ => rfl⟩
              have HWq : Hid (World.ownsRow (World.drewN wq0 nq) W2.heap.size 3 1 v dn.length (dn.map (Value.int .i64))) := HW.out
              clear a1 b1 c1 c2 HB HW
              have a1 := a1q
              have b1 := b1q
              have c1 := c1q
              have c2 := c2q
              have HB := HBq
              have HW := HWq
              clear a1q b1q c1q c2q HBq HWq
              generalize World.drewN wq0 nq = wq1 at *
              have hown := HW.out
              have hbase := HW.out.lt
              clear HW
              go_wp2_with (at_builtin; refine wpList_append_own_at _ rfl _ _ 57 rfl W2.heap.size 3 i0 (.int .i64 0) 1 8 Try.underlying57 hi0 hz0 hz1 hz2 rfl (by decide) v dn.length (dn.map (Value.int .i64)) rfl (hown.alloc _) ⟨_, 0, none⟩ 1 1 [.int .i64 dx] rfl rfl (cell_one_new _ _ _) (ints_oneCell .i64 [dx]) (by unfold maxLen; omega) (by omega) (by have := HB.out.size; simp; omega) ?_; intro v' w2 hown2 hg2 hnil hloc)
              exact ⟨⟨i, k + 1, v', dn ++ [dx], by omega, by omega, rfl, by first | rfl | go_num, by first | rfl | go_num, (show (dn ++ [dx]).length ≤ i + (k + 1) by rw [List.length_append, List.length_singleton]; omega), by rw [List.length_append, List.map_append]; exact hown2, Below.grown (by first | exact Below.alloc HB.out HB.out.size _ | exact (Below.alloc HB.out HB.out.size _).drew) hg2 (by have := HB.out.size; simp; omega) (fun j hj => (hbase j hj).1), HF.out⟩, by simp [intOf]; omega⟩
            · have hx2 : decide (dx < cx) = false := decide_eq_false x2
              cases hb : sameB cf df
              · skip
                have HF : Hid (res = (dn ++ [cx]) ++ chgM (N - (i + 1) + (M - (k + 1))) (s.drop (i + 1)) (t.drop (k + 1))) := by
                  have e : res = (dn ++ [cx]) ++ chgM (N - (i + 1) + (M - (k + 1))) (s.drop (i + 1)) (t.drop (k + 1)) := by
                    rw [HRr.out, HE.out, if_neg x1, if_neg x2, hb, HMo.out (i + 1) (k + 1) (by omega) (by omega) (by omega)]; simp
                  exact e
                have hlen := HL.out
                clear HL HRr HBw
                clear HE HMo hn'
                go_upto_region 11 with fail
                go_quiet (fail)
                have a1q : (World.drewN wr nq).cell? ⟨w.heap.size, 1, none⟩ = some (.slice (some ⟨g1, o1, none⟩) N cp) := a1
                have b1q : (World.drewN wr nq).cell? ⟨w.heap.size + 1, 1, none⟩ = some (.slice (some ⟨g2, o2, none⟩) M cq) := b1
                have c1q : (World.drewN wr nq).cell? ⟨g1, o1 + i * 1025, none⟩ = some (.int .i64 cx) := c1
                have c2q : (World.drewN wr nq).cell? ⟨g2, o2 + k * 1025, none⟩ = some (.int .i64 dx) := c2
                have HBq : Hid (Below W2.heap.size W2 (World.drewN wr nq)) := HB.out.trans ⟨rfl, rfl, rfl, Nat.le_refl _, fun _ _ => rfl⟩
                have HWq : Hid (World.ownsRow (World.drewN wr nq) W2.heap.size 3 1 v dn.length (dn.map (Value.int .i64))) := HW.out
                have HQ1q : Hid (BlkAt (World.drewN wr nq) g1 (o1 + i * 1025 + 1) cf) := HQ1.out
                have HQ2q : Hid (BlkAt (World.drewN wr nq) g2 (o2 + k * 1025 + 1) df) := HQ2.out
                clear a1 b1 c1 c2 HB HW HQ1 HQ2
                have a1 := a1q
                have b1 := b1q
                have c1 := c1q
                have c2 := c2q
                have HB := HBq
                have HW := HWq
                have HQ1 := HQ1q
                have HQ2 := HQ2q
                clear a1q b1q c1q c2q HBq HWq HQ1q HQ2q
                generalize World.drewN wr nq = wq0 at *
                go_upto_region 14 with fail
                go_quiet (fail)
                have a1q : (World.drewN wq0 nq).cell? ⟨w.heap.size, 1, none⟩ = some (.slice (some ⟨g1, o1, none⟩) N cp) := a1
                have b1q : (World.drewN wq0 nq).cell? ⟨w.heap.size + 1, 1, none⟩ = some (.slice (some ⟨g2, o2, none⟩) M cq) := b1
                have c1q : (World.drewN wq0 nq).cell? ⟨g1, o1 + i * 1025, none⟩ = some (.int .i64 cx) := c1
                have c2q : (World.drewN wq0 nq).cell? ⟨g2, o2 + k * 1025, none⟩ = some (.int .i64 dx) := c2
                have HBq : Hid (Below W2.heap.size W2 (World.drewN wq0 nq)) := HB.out.trans ⟨rfl, rfl, rfl, Nat.le_refl _, fun _ _ => rfl⟩
                have HWq : Hid (World.ownsRow (World.drewN wq0 nq) W2.heap.size 3 1 v dn.length (dn.map (Value.int .i64))) := HW.out
                have HQ1q : Hid (BlkAt (World.drewN wq0 nq) g1 (o1 + i * 1025 + 1) cf) := HQ1.out
                have HQ2q : Hid (BlkAt (World.drewN wq0 nq) g2 (o2 + k * 1025 + 1) df) := HQ2.out
                clear a1 b1 c1 c2 HB HW HQ1 HQ2
                have a1 := a1q
                have b1 := b1q
                have c1 := c1q
                have c2 := c2q
                have HB := HBq
                have HW := HWq
                have HQ1 := HQ1q
                have HQ2 := HQ2q
                clear a1q b1q c1q c2q HBq HWq HQ1q HQ2q
                generalize World.drewN wq0 nq = wq1 at *
                go_upto_region 7 with fail
                refine wp_region_still_lit (by kernel_rfl) (by kernel_rfl) ?_
                repeat still_step
                refine wpStill_loadM rfl (.tmp 39) rfl g1 (o1 + i * 1025 + 1) rfl cf HQ1.out ?_
                repeat still_step
                refine wpStill_loadM rfl (.tmp 45) rfl g2 (o2 + k * 1025 + 1) rfl df HQ2.out ?_
                repeat still_step
                refine wpStill_neqB rfl (.tmp 40) (.tmp 46) rfl cf df false rfl rfl hb ?_
                simp only [Act.put, List.setIfInBounds_toArray, List.set_cons_succ, List.set_cons_zero, Bool.not_false]
                refine wpStill_nil ?_
                have hown := HW.out
                have hbase := HW.out.lt
                clear HW
                go_wp2_with (at_builtin; refine wpList_append_own_at _ rfl _ _ 57 rfl W2.heap.size 3 i0 (.int .i64 0) 1 8 Try.underlying57 hi0 hz0 hz1 hz2 rfl (by decide) v dn.length (dn.map (Value.int .i64)) rfl (hown.alloc _) ⟨_, 0, none⟩ 1 1 [.int .i64 cx] rfl rfl (cell_one_new _ _ _) (ints_oneCell .i64 [cx]) (by unfold maxLen; omega) (by omega) (by have := HB.out.size; simp; omega) ?_; intro v' w2 hown2 hg2 hnil hloc)
                exact ⟨⟨i + 1, k + 1, v', dn ++ [cx], by omega, by omega, rfl, by first | rfl | go_num, by first | rfl | go_num, (show (dn ++ [cx]).length ≤ i + 1 + (k + 1) by rw [List.length_append, List.length_singleton]; omega), by rw [List.length_append, List.map_append]; exact hown2, Below.grown (by first | exact Below.alloc HB.out HB.out.size _ | exact (Below.alloc HB.out HB.out.size _).drew) hg2 (by have := HB.out.size; simp; omega) (fun j hj => (hbase j hj).1), HF.out⟩, by simp [intOf]; omega⟩
              · skip
                have HF : Hid (res = dn ++ chgM (N - (i + 1) + (M - (k + 1))) (s.drop (i + 1)) (t.drop (k + 1))) := by
                  have e : res = dn ++ chgM (N - (i + 1) + (M - (k + 1))) (s.drop (i + 1)) (t.drop (k + 1)) := by
                    rw [HRr.out, HE.out, if_neg x1, if_neg x2, hb, HMo.out (i + 1) (k + 1) (by omega) (by omega) (by omega)]; simp
                  exact e
                clear HE HMo hn' HRr
                go_upto_region 11 with fail
                go_quiet (fail)
                have a1q : (World.drewN wr nq).cell? ⟨w.heap.size, 1, none⟩ = some (.slice (some ⟨g1, o1, none⟩) N cp) := a1
                have b1q : (World.drewN wr nq).cell? ⟨w.heap.size + 1, 1, none⟩ = some (.slice (some ⟨g2, o2, none⟩) M cq) := b1
                have c1q : (World.drewN wr nq).cell? ⟨g1, o1 + i * 1025, none⟩ = some (.int .i64 cx) := c1
                have c2q : (World.drewN wr nq).cell? ⟨g2, o2 + k * 1025, none⟩ = some (.int .i64 dx) := c2
                have HBq : Hid (Below W2.heap.size W2 (World.drewN wr nq)) := HB.out.trans ⟨rfl, rfl, rfl, Nat.le_refl _, fun _ _ => rfl⟩
                have HWq : Hid (World.ownsRow (World.drewN wr nq) W2.heap.size 3 1 v dn.length (dn.map (Value.int .i64))) := HW.out
                have HQ1q : Hid (BlkAt (World.drewN wr nq) g1 (o1 + i * 1025 + 1) cf) := HQ1.out
                have HQ2q : Hid (BlkAt (World.drewN wr nq) g2 (o2 + k * 1025 + 1) df) := HQ2.out
                clear a1 b1 c1 c2 HB HW HQ1 HQ2
                have a1 := a1q
                have b1 := b1q
                have c1 := c1q
                have c2 := c2q
                have HB := HBq
                have HW := HWq
                have HQ1 := HQ1q
                have HQ2 := HQ2q
                clear a1q b1q c1q c2q HBq HWq HQ1q HQ2q
                generalize World.drewN wr nq = wq0 at *
                go_upto_region 14 with fail
                go_quiet (fail)
                have a1q : (World.drewN wq0 nq).cell? ⟨w.heap.size, 1, none⟩ = some (.slice (some ⟨g1, o1, none⟩) N cp) := a1
                have b1q : (World.drewN wq0 nq).cell? ⟨w.heap.size + 1, 1, none⟩ = some (.slice (some ⟨g2, o2, none⟩) M cq) := b1
                have c1q : (World.drewN wq0 nq).cell? ⟨g1, o1 + i * 1025, none⟩ = some (.int .i64 cx) := c1
                have c2q : (World.drewN wq0 nq).cell? ⟨g2, o2 + k * 1025, none⟩ = some (.int .i64 dx) := c2
                have HBq : Hid (Below W2.heap.size W2 (World.drewN wq0 nq)) := HB.out.trans ⟨rfl, rfl, rfl, Nat.le_refl _, fun _ _ => rfl⟩
                have HWq : Hid (World.ownsRow (World.drewN wq0 nq) W2.heap.size 3 1 v dn.length (dn.map (Value.int .i64))) := HW.out
                have HQ1q : Hid (BlkAt (World.drewN wq0 nq) g1 (o1 + i * 1025 + 1) cf) := HQ1.out
                have HQ2q : Hid (BlkAt (World.drewN wq0 nq) g2 (o2 + k * 1025 + 1) df) := HQ2.out
                clear a1 b1 c1 c2 HB HW HQ1 HQ2
                have a1 := a1q
                have b1 := b1q
                have c1 := c1q
                have c2 := c2q
                have HB := HBq
                have HW := HWq
                have HQ1 := HQ1q
                have HQ2 := HQ2q
                clear a1q b1q c1q c2q HBq HWq HQ1q HQ2q
                generalize World.drewN wq0 nq = wq1 at *
                go_upto_region 7 with fail
                refine wp_region_still_lit (by kernel_rfl) (by kernel_rfl) ?_
                repeat still_step
                refine wpStill_loadM rfl (.tmp 39) rfl g1 (o1 + i * 1025 + 1) rfl cf HQ1.out ?_
                repeat still_step
                refine wpStill_loadM rfl (.tmp 45) rfl g2 (o2 + k * 1025 + 1) rfl df HQ2.out ?_
                repeat still_step
                refine wpStill_neqB rfl (.tmp 40) (.tmp 46) rfl cf df true rfl rfl hb ?_
                simp only [Act.put, List.setIfInBounds_toArray, List.set_cons_succ, List.set_cons_zero, Bool.not_true]
                refine wpStill_nil ?_
                go_wp2
                exact ⟨⟨i + 1, k + 1, v, dn, by omega, by omega, rfl, by go_num, by go_num, (show dn.length ≤ i + 1 + (k + 1) by have := HL.out; omega), HW.out, HB.out.trans ⟨rfl, rfl, rfl, Nat.le_refl _, fun _ _ => rfl⟩, HF.out⟩, by simp [intOf]; omega⟩
        · have hkM : k = M := by omega
          subst hkM
          obtain ⟨n', hn'⟩ : ∃ n', N - i = n' + 1 := ⟨N - i - 1, by omega⟩
          have hte : t.drop k = [] := List.drop_of_length_le (by have := HM.out; omega)
          have hdk : decide (k ≤ k) = true := decide_eq_true (Nat.le_refl _)
          have HF : Hid (res = (dn ++ [c.1]) ++ chgM (N - (i + 1) + (k - (k))) (s.drop (i + 1)) (t.drop (k))) := by
            have e : res = (dn ++ [c.1]) ++ chgM (N - (i + 1) + (k - (k))) (s.drop (i + 1)) (t.drop (k)) := by
              rw [HRr.out, hcd, hte, Nat.sub_self, Nat.add_zero, hn', show N - (i + 1) + 0 = n' by omega, List.append_assoc]; rfl
            exact e
          have hlen := HL.out
          clear HL HRr HBw
          clear hn' hte hcd HQ1
          go_upto_region 11 with fail
          go_quiet (fail)
          have a1q : (World.drewN wr nq).cell? ⟨w.heap.size, 1, none⟩ = some (.slice (some ⟨g1, o1, none⟩) N cp) := a1
          have b1q : (World.drewN wr nq).cell? ⟨w.heap.size + 1, 1, none⟩ = some (.slice (q) k cq) := b1
          have c1q : (World.drewN wr nq).cell? ⟨g1, o1 + i * 1025, none⟩ = some (.int .i64 c.1) := c1
          have HBq : Hid (Below W2.heap.size W2 (World.drewN wr nq)) := HB.out.trans ⟨rfl, rfl, rfl, Nat.le_refl _, fun _ _ => rfl⟩
          have HWq : Hid (World.ownsRow (World.drewN wr nq) W2.heap.size 3 1 v dn.length (dn.map (Value.int .i64))) := HW.out
          clear a1 b1 c1 HB HW
          have a1 := a1q
          have b1 := b1q
          have c1 := c1q
          have HB := HBq
          have HW := HWq
          clear a1q b1q c1q HBq HWq
          generalize World.drewN wr nq = wq0 at *
          have hown := HW.out
          have hbase := HW.out.lt
          clear HW
          go_wp2_with (at_builtin; refine wpList_append_own_at _ rfl _ _ 57 rfl W2.heap.size 3 i0 (.int .i64 0) 1 8 Try.underlying57 hi0 hz0 hz1 hz2 rfl (by decide) v dn.length (dn.map (Value.int .i64)) rfl (hown.alloc _) ⟨_, 0, none⟩ 1 1 [.int .i64 c.1] rfl rfl (cell_one_new _ _ _) (ints_oneCell .i64 [c.1]) (by unfold maxLen; omega) (by omega) (by have := HB.out.size; simp; omega) ?_; intro v' w2 hown2 hg2 hnil hloc)
          exact ⟨⟨i + 1, k, v', dn ++ [c.1], by omega, by omega, rfl, by first | rfl | go_num, by first | rfl | go_num, (show (dn ++ [c.1]).length ≤ i + 1 + (k) by rw [List.length_append, List.length_singleton]; omega), by rw [List.length_append, List.map_append]; exact hown2, Below.grown (by first | exact Below.alloc HB.out HB.out.size _ | exact (Below.alloc HB.out HB.out.size _).drew) hg2 (by have := HB.out.size; simp; omega) (fun j hj => (hbase j hj).1), HF.out⟩, by simp [intOf]; omega⟩
      · have hiN : i = N := by omega
        subst hiN
        by_cases hk1 : (k : Int) < M
        · obtain ⟨g2, o2, rfl, l2, C2⟩ := HT.out (by have := HM.out; omega)
          have htk : k < t.length := by have := HM.out; omega
          have hd : t[k]? = some (t[k]'htk) := List.getElem?_eq_getElem htk
          have hdd : t.drop k = t[k]'htk :: t.drop (k + 1) := List.drop_eq_getElem_cons htk
          generalize t[k]'htk = d at hd hdd
          clear htk
          have q2 : CelAt wr g2 (o2 + k * 1025) d := (C2.later HBw.out l2) k d hd
          have c2 := q2.1
          have HQ2 := Hid.mk' q2.2
          clear q2 C2 hd
          obtain ⟨n', hn'⟩ : ∃ n', M - k = n' + 1 := ⟨M - k - 1, by omega⟩
          have hse : s.drop i = [] := List.drop_of_length_le (by have := HN.out; omega)
          have hdk : decide (M ≤ k) = false := decide_eq_false (by omega)
          have hdi : decide (i < i) = false := decide_eq_false (by omega)
          have hdj : decide (i ≤ i) = true := decide_eq_true (Nat.le_refl _)
          have HF : Hid (res = (dn ++ [d.1]) ++ chgM (i - (i) + (M - (k + 1))) (s.drop (i)) (t.drop (k + 1))) := by
            have e : res = (dn ++ [d.1]) ++ chgM (i - (i) + (M - (k + 1))) (s.drop (i)) (t.drop (k + 1)) := by
              rw [HRr.out, hdd, hse, Nat.sub_self, Nat.zero_add, hn', show 0 + (M - (k + 1)) = n' by omega, List.append_assoc]; rfl
            exact e
          have hlen := HL.out
          clear HL HRr HBw
          clear hn' hse hdd HQ2
          go_upto_region 11 with fail
          go_quiet (fail)
          have a1q : (World.drewN wr nq).cell? ⟨w.heap.size, 1, none⟩ = some (.slice (p) i cp) := a1
          have b1q : (World.drewN wr nq).cell? ⟨w.heap.size + 1, 1, none⟩ = some (.slice (some ⟨g2, o2, none⟩) M cq) := b1
          have c2q : (World.drewN wr nq).cell? ⟨g2, o2 + k * 1025, none⟩ = some (.int .i64 d.1) := c2
          have HBq : Hid (Below W2.heap.size W2 (World.drewN wr nq)) := HB.out.trans ⟨rfl, rfl, rfl, Nat.le_refl _, fun _ _ => rfl⟩
          have HWq : Hid (World.ownsRow (World.drewN wr nq) W2.heap.size 3 1 v dn.length (dn.map (Value.int .i64))) := HW.out
          clear a1 b1 c2 HB HW
          have a1 := a1q
          have b1 := b1q
          have c2 := c2q
          have HB := HBq
          have HW := HWq
          clear a1q b1q c2q HBq HWq
          generalize World.drewN wr nq = wq0 at *
          go_upto_region 14 with fail
          go_quiet (fail)
          have a1q : (World.drewN wq0 nq).cell? ⟨w.heap.size, 1, none⟩ = some (.slice (p) i cp) := a1
          have b1q : (World.drewN wq0 nq).cell? ⟨w.heap.size + 1, 1, none⟩ = some (.slice (some ⟨g2, o2, none⟩) M cq) := b1
          have c2q : (World.drewN wq0 nq).cell? ⟨g2, o2 + k * 1025, none⟩ = some (.int .i64 d.1) := c2
          have HBq : Hid (Below W2.heap.size W2 (World.drewN wq0 nq)) := HB.out.trans ⟨rfl, rfl, rfl, Nat.le_refl _, fun _ _ => rfl⟩
          have HWq : Hid (World.ownsRow (World.drewN wq0 nq) W2.heap.size 3 1 v dn.length (dn.map (Value.int .i64))) := HW.out
          clear a1 b1 c2 HB HW
          have a1 := a1q
          have b1 := b1q
          have c2 := c2q
          have HB := HBq
          have HW := HWq
          clear a1q b1q c2q HBq HWq
          generalize World.drewN wq0 nq = wq1 at *
          have hown := HW.out
          have hbase := HW.out.lt
          clear HW
          go_wp2_with (at_builtin; refine wpList_append_own_at _ rfl _ _ 57 rfl W2.heap.size 3 i0 (.int .i64 0) 1 8 Try.underlying57 hi0 hz0 hz1 hz2 rfl (by decide) v dn.length (dn.map (Value.int .i64)) rfl (hown.alloc _) ⟨_, 0, none⟩ 1 1 [.int .i64 d.1] rfl rfl (cell_one_new _ _ _) (ints_oneCell .i64 [d.1]) (by unfold maxLen; omega) (by omega) (by have := HB.out.size; simp; omega) ?_; intro v' w2 hown2 hg2 hnil hloc)
          exact ⟨⟨i, k + 1, v', dn ++ [d.1], by omega, by omega, rfl, by first | rfl | go_num, by first | rfl | go_num, (show (dn ++ [d.1]).length ≤ i + (k + 1) by rw [List.length_append, List.length_singleton]; omega), by rw [List.length_append, List.map_append]; exact hown2, Below.grown (by first | exact Below.alloc HB.out HB.out.size _ | exact (Below.alloc HB.out HB.out.size _).drew) hg2 (by have := HB.out.size; simp; omega) (fun j hj => (hbase j hj).1), HF.out⟩, by simp [intOf]; omega⟩
        · have hkM : k = M := by omega
          subst hkM
          have hR : res = dn := by
            rw [HRr.out, List.drop_of_length_le (by have := HN.out; omega), List.drop_of_length_le (by have := HM.out; omega), chgM_nil]
            simp
          have HR1 := Hid.mk' hR
          clear hR HRr
          go_wp2
          go_ret
          refine ⟨v, rfl, ?_, HBw.out⟩
          rw [HR1.out]
          exact World.ownsRow.mono HW.out HB2.out.size
  · have e : res = [] := by rw [HV.out]; simp [hnm]
    clear HV
    subst e
    go_wp2
    go_ret
    exact ⟨_, rfl, World.ownsRow_nil _ _ _ _, HB2.out⟩
end Go.Proofs.Ytbnbbelkddbndaa
