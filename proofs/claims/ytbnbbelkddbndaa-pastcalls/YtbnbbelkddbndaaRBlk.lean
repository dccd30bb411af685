/- The document's Block: the walk, and that it tells what the program's tells; lists of at most 400,000. -/
import Derived.Test.YtbnbbelkddbndaaRAfterB
import Derived.Test.YtbnbbelkddbndaaApB
import Derived.Test.YtbnbbelkddbndaaLnt
namespace Go.Proofs.Ytbnbbelkddbndaa
open Go.RowKit Go.Maps
theorem own_pushF {α : Type} {en : α → List Value} {sz e : Nat} {st : TypeId} {i : TypeInfo} {z : Value} {bytes : Nat} (hr : ∀ x, (en x).length = sz) (h1 : ∀ x, ∀ u ∈ en x, u.oneCell' = true) (ht : Try.prog.underlying st = some (.slice e)) (hi : Try.prog.info? e = some i) (hz : i.zero = some z) (hsize : i.size = sz) (hby : i.bytes = bytes) (hzs : z.cells.size = sz) (hsz : 0 < sz) (hbb : bytes ≤ 2000)
    {B : Nat} {w : World} {v : Value} {l : List α} (h : w.ownsRow B e sz v l.length (l.flatMap en)) (hB : B ≤ w.heap.size) (hn : l.length ≤ 10000000) (x : α) (ty : TypeId) :
    ∃ v' w', (Builtin.append_ #[st, st] ty #[v, .slice (some ⟨w.heap.size, 0, none⟩) 1 1]).run Try.prog (w.alloc (.cells (en x).toArray e)) = .ok v' w' ∧ w'.ownsRow B e sz v' (l ++ [x]).length ((l ++ [x]).flatMap en) ∧ Below B w w' ∧ Fr (fun b => v.ownBlock = some b) w w' := by
  have hnews : ∀ j v, (en x)[j]? = some v → (w.alloc (.cells (en x).toArray e)).cell? ((⟨w.heap.size, 0, none⟩ : Addr).add j) = some v := fun j v hv => by
    rw [Go.WideShapes.add_plain, Nat.zero_add, cell_of_row _ _ j _ e _ (heap_alloc_new w _), List.getElem?_toArray]
    exact hv
  have hbt : ((l.length + 1) + (l.length + 1) / 4 + 192) * bytes ≤ 281474976710656 := by
    have : ((l.length + 1) + (l.length + 1) / 4 + 192) * bytes ≤ 12500194 * 2000 := Nat.mul_le_mul (by omega) hbb
    omega
  obtain ⟨v', w', hrun, ho', hf, _⟩ := append_gen (W := w.alloc (.cells (en x).toArray e)) (v := v) ht hi hz hsize hby hzs hsz (World.ownsRow.alloc h (.cells (en x).toArray e)) (ad := ⟨w.heap.size, 0, none⟩) (m := 1) (c := 1) (news := en x) (by omega) (by rw [hr, Nat.one_mul]) hnews (h1 x) (by unfold maxLen; omega) hbt (by simp only [World.alloc, Array.size_push]; omega) ty
  have hF : Fr (fun b => v.ownBlock = some b) w w' := (Fr.alloc _ w (.cells (en x).toArray e)).trans hf fun _ _ q => q
  refine ⟨v', w', hrun, ?_, hF.below (fun j q => (h.lt j q).1) hB, hF⟩
  rw [List.length_append, List.flatMap_append]
  simpa using ho'
theorem rows_apart {W : World} {B B' e e' sz sz' n n' b : Nat} {x v : Value} {xs ys : List Value} (hne : e' ≠ e) (hx : W.ownsRow B e sz x n xs) (hb : x.ownBlock = some b) (hv : W.ownsRow B' e' sz' v n' ys) : v.ownBlock ≠ some b := fun q => by
  obtain ⟨_, hx⟩ := hx
  obtain ⟨_, hv⟩ := hv
  rcases hx with ⟨rfl, _⟩ | ⟨g1, c1, r1, rfl, _, hg1, _⟩
  · cases hb
  · rcases hv with ⟨rfl, _⟩ | ⟨g2, c2, r2, rfl, _, hg2, _⟩
    · cases q
    · injection hb with hb
      injection q with q
      have e1 : g1 = g2 := by rw [show g1 = b from hb, show g2 = b from q]
      subst e1
      rw [hg1] at hg2
      injection hg2 with hg2
      injection hg2 with _ hg2
      exact hne hg2.symm
/-- All that the document's Block tells of block q. -/
def rBlkL (l : List Cel) (ops : List Rec) (k : Nat) (q : Int) : List (Nat → Int) := (rpUpto ops k).foldl (stepB ops q) [atL (refK l ops [] (rpUpto ops k) k) q]
theorem stepB_take {ops : List Rec} {k : Nat} {q : Int} : ∀ {ps : List Int} {s : List (Nat → Int)}, (∀ x ∈ ps, ∃ i : Nat, x = (i : Int) ∧ i < k) → ps.foldl (stepB ops q) s = ps.foldl (stepB (ops.take k) q) s
  | [], _, _ => rfl
  | x :: ps, s, h => by
    obtain ⟨i, hx, hi⟩ := h x (by simp)
    have e : stepB ops q s x = stepB (ops.take k) q s x := by
      subst hx
      unfold stepB
      rw [Int.toNat_natCast, List.getElem?_take, if_pos hi]
    rw [List.foldl_cons, List.foldl_cons, e]
    exact stepB_take fun y hy => h y (by simp [hy])
theorem rBlk_is {n : Int} {l : List Cel} {ops : List Rec} {k : Nat} {q : Int} (hkl : k ≤ ops.length) (hr : Rise (-1) l) (hs : Sound l) (ho : ∀ r ∈ ops.take k, opOk n r = true) (hc : ∀ r ∈ ops, Can r.dat) : rBlkL l ops k q = blockL l (ops.take k) q := by
  unfold rBlkL blockL
  rw [rp_eq ops k hkl]
  obtain ⟨_, _, a3⟩ := refK_is (keep := []) hkl hr hs ho hc k (Nat.le_refl _)
  rw [a3 q, List.take_take, Nat.min_self]
  refine stepB_take fun x hx => ?_
  obtain ⟨j, hj⟩ := List.mem_iff_getElem?.1 hx
  obtain ⟨i, h1, h2, _⟩ := pendL_spec hj
  rw [List.length_take] at h2
  exact ⟨i, h1, by omega⟩
theorem rBlk_len (ops : List Rec) (q : Int) (b : Nat → Int) (ps : List Int) (j : Nat) : ((ps.take j).foldl (stepB ops q) [b]).length ≤ 1 + j := by
  have h := foldB_len ops q (ps.take j) [b]
  rw [List.length_take] at h
  simp at h
  omega
theorem rp_in {ops : List Rec} {k : Nat} (hk : k ≤ ops.length) {j : Nat} {x : Int} (h : (rpUpto ops k)[j]? = some x) : ∃ i : Nat, x = (i : Int) ∧ i < ops.length := by
  rw [rp_eq ops k hk] at h
  obtain ⟨i, h1, h2, _⟩ := pendL_spec h
  rw [List.length_take] at h2
  exact ⟨i, h1, by omega⟩
theorem wpStill_ldW {ops : Array Oper} {Q : Act → Prop} {a : Act} {o : Oper} {rest : List Oper} {w : World} (hw : Region.wanted o (yielded ops a.tmps) = true) (x : Operand) (ho : o.op = .load 40 x)
    (g off : Nat) (hx : a.eval x = .pointer (some ⟨g, off, none⟩)) (f : Nat → Int) (hg : BlkAt w g off f)
    (h : wpStill Try.prog ops w Q rest (a.put o.dst (.agg (blk f)))) : wpStill Try.prog ops w Q (o :: rest) a := by
  have e := loadM hg
  generalize blk f = F at *
  unfold wpStill
  rw [if_pos hw]
  unfold Oper.still execOp
  simp only [ho, hx, e, Sem.run_bind, Result.andThen_ok, Sem.run_pure, Oper.stillUpon]
  exact ⟨trivial, h⟩
theorem wpStill_eqlB {ops : Array Oper} {Q : Act → Prop} {a : Act} {o : Oper} {rest : List Oper} {w : World} (hw : Region.wanted o (yielded ops a.tmps) = true) (x y : Operand) (ho : o.op = .binOp .eql 40 x y 40)
    (f g : Nat → Int) (r : Bool) (hx : a.eval x = .agg (blk f)) (hy : a.eval y = .agg (blk g)) (hr : sameB f g = r)
    (h : wpStill Try.prog ops w Q rest (a.put o.dst (.bool r))) : wpStill Try.prog ops w Q (o :: rest) a := by
  have e := eq25 f g w
  rw [hr] at e
  generalize blk f = F at *
  generalize blk g = G at *
  have e' : (binOp .eql 40 (.agg F) (.agg G)).run Try.prog w = .ok (.bool r) w := by simp only [binOp, Op.equal, Op.maxDepth, Sem.run_bind, e, Result.andThen_ok, Sem.run_pure]
  have eg : (eqGuard .eql 40 x y (.agg F) (.agg G)).run Try.prog w = .ok () w := by unfold eqGuard; simp
  unfold wpStill
  rw [if_pos hw]
  unfold Oper.still execOp
  simp only [ho, hx, hy, Sem.run_bind, eg, e', Result.andThen_ok, Sem.run_pure, Oper.stillUpon]
  exact ⟨trivial, h⟩
theorem rec_at1 (r : Rec) : (recCells r).toArray[1]? = some (.int .i64 r.pos) := by
  unfold recCells
  simp
theorem rec_blk {w : World} {g : Nat} {r : Rec} (h : w.heap[g]? = some (.cells (recCells r).toArray 42)) : BlkAt w g 2 r.dat := fun j v hv => by
  rw [cell_of_row w g _ _ 42 _ h, List.getElem?_toArray, show 2 + j = j + 1 + 1 by omega]
  unfold recCells
  rw [List.getElem?_cons_succ, List.getElem?_cons_succ]
  exact hv
theorem any_snoc (L : List (Nat → Int)) (d f : Nat → Int) (m : Nat) (h : L[m]? = some f) : (L.take (m + 1)).any (fun g => sameB g d) = ((L.take m).any (fun g => sameB g d) || sameB f d) := by
  rw [List.take_add_one, h, Option.toList_some, List.any_append]
  simp
set_option maxRecDepth 20000 in
set_option maxHeartbeats 4000000 in
theorem refBlock_bad (n : Int) (l : List Cel) (p : Option Addr) (cap : Nat) (ops : List Rec) (po : Option Addr) (co : Nat) (k : Int) (q : Int) (w : World) (hl : l.length ≤ 400000) (h : ImgAt w p l) (hlo : ops.length ≤ 400000) (ho : OpsAt w po ops) (hm : pmayB n l ops k = false) :
    Calls Try.prog 43 #[.agg #[.int .i64 n, .slice p l.length cap], .slice po ops.length co, .int .i64 k, .int .i64 q] w fun e w' => e = .returned (.tuple #[.slice none 0 0, .int .i64 2]) ∧ Below w.heap.size w w' := by
  have HA := Hid.mk' (fun (W : World) (hW : Below w.heap.size w W) => refAfter_bad n l p cap ops po co k none 0 0 W hl (h.later hW) hlo (ho.later hW) hm)
  have HB0 := Hid.mk' (below_new w (.cells #[.int .i64 n, .slice p l.length cap] 24))
  clear h ho hm
  go_enter Try.func43, Try.ntmps43
  go_wp2_with (go_at_call 40; fail)
  refine Calls.mono (HA.out _ HB0.out) ?_
  rintro e W1 ⟨rfl, hb1⟩
  have HB1 := Hid.mk' (below_next HB0.out hb1)
  clear hb1 HB0 HA
  go_wp2
  go_ret2
  exact ⟨rfl, below_next HB1.out (below_new _ _)⟩
set_option maxRecDepth 20000 in
set_option maxHeartbeats 4000000 in
theorem refBlock_out (n : Int) (l : List Cel) (p : Option Addr) (cap : Nat) (ops : List Rec) (po : Option Addr) (co k : Nat) (q : Int) (w : World) (hl : l.length ≤ 400000) (h : ImgAt w p l) (hlo : ops.length ≤ 400000) (ho : OpsAt w po ops) (hm : pmayB n l ops k = true) (hq : q < 0 ∨ n ≤ q) :
    Calls Try.prog 43 #[.agg #[.int .i64 n, .slice p l.length cap], .slice po ops.length co, .int .i64 k, .int .i64 q] w fun e w' => e = .returned (.tuple #[.slice none 0 0, .int .i64 2]) ∧ Below w.heap.size w w' := by
  have HA := Hid.mk' (fun (W : World) (hW : Below w.heap.size w W) => refAfter_ok n l p cap ops po co k [] none 0 W hl (h.later hW) hlo (ho.later hW) (by simp) ⟨none, 0, rfl, fun q => absurd q (by simp)⟩ hm)
  have HB0 := Hid.mk' (below_new w (.cells #[.int .i64 n, .slice p l.length cap] 24))
  have HG2 := Hid.mk' (heap_alloc_new w (.cells #[.int .i64 n, .slice p l.length cap] 24))
  clear h ho hm
  go_enter Try.func43, Try.ntmps43
  go_wp2_with (go_at_call 40; fail)
  refine Calls.mono (HA.out _ HB0.out) ?_
  rintro e W1 ⟨p', c', rfl, _, hb1⟩
  have HB1 := Hid.mk' (below_next HB0.out hb1)
  have a0 : W1.cell? ⟨w.heap.size, 0, none⟩ = some (.int .i64 n) := Joins.cell_of_block (heap_kept HG2.out hb1) 0
  have a00 : ∀ o, (W1.alloc o).cell? ⟨w.heap.size, 0, none⟩ = some (.int .i64 n) := fun o => ((below_new W1 o).cell (p := ⟨w.heap.size, 0, none⟩) (block_lt_of_cell a0)).trans a0
  clear hb1 HB0 HA HG2
  by_cases hq1 : q < 0
  · go_wp2
    go_ret2
    exact ⟨rfl, below_next HB1.out (below_new _ _)⟩
  · have hq2 : n ≤ q := by omega
    have hd1 : decide (q < 0) = false := decide_eq_false hq1
    have hd2 : decide (n ≤ q) = true := decide_eq_true hq2
    clear hq hq1 hq2
    go_wp2
    go_ret2
    exact ⟨rfl, below_next HB1.out (below_new _ _)⟩
set_option maxRecDepth 20000 in
set_option maxHeartbeats 4000000 in
theorem refBlock_ok (n : Int) (l : List Cel) (p : Option Addr) (cap : Nat) (ops : List Rec) (po : Option Addr) (co k : Nat) (q : Int) (w : World) (hl : l.length ≤ 400000) (h : ImgAt w p l) (hlo : ops.length ≤ 400000) (ho : OpsAt w po ops) (hm : pmayB n l ops k = true) (hq : 0 ≤ q ∧ q < n) (hkl : k ≤ ops.length) (hlk : (refK l ops [] (rpUpto ops k) k).length ≤ 1000000000) :
    Calls Try.prog 43 #[.agg #[.int .i64 n, .slice p l.length cap], .slice po ops.length co, .int .i64 k, .int .i64 q] w fun e w' => ∃ v, e = .returned (.tuple #[v, .int .i64 0]) ∧ w'.ownsRow w.heap.size 40 1024 v (rBlkL l ops k q).length ((rBlkL l ops k q).flatMap enB) ∧ Below w.heap.size w w' := by
  have HA := Hid.mk' (fun (W : World) (hW : Below w.heap.size w W) => refAfter_ok n l p cap ops po co k [] none 0 W hl (h.later hW) hlo (ho.later hW) (by simp) ⟨none, 0, rfl, fun q => absurd q (by simp)⟩ hm)
  have HPe := Hid.mk' (fun (W : World) (hW : Below w.heap.size w W) => refPending_any ops po co k W (by omega) (ho.later hW))
  have HB0 := Hid.mk' (below_new w (.cells #[.int .i64 n, .slice p l.length cap] 24))
  have HG2 := Hid.mk' (heap_alloc_new w (.cells #[.int .i64 n, .slice p l.length cap] 24))
  have HO := Hid.mk' ho
  have hup : upTo ops.length k = k := by unfold upTo; omega
  rw [hup] at HPe
  have HRl := Hid.mk' (show rBlkL l ops k q = (rpUpto ops k).foldl (stepB ops q) [atL (refK l ops [] (rpUpto ops k) k) q] from rfl)
  have HRp := Hid.mk' (fun (j : Nat) (x : Int) (h : (rpUpto ops k)[j]? = some x) => rp_in hkl h)
  have HPl := Hid.mk' (rpUpto_len ops k)
  obtain ⟨i0, hi0, hz0, hz1, hz2⟩ := info_parts info40
  have HPu := Hid.mk' (fun (w1 : World) (v : Value) (l1 : List (Nat → Int)) (h : w1.ownsRow w.heap.size 40 1024 v l1.length (l1.flatMap enB)) (hB : w.heap.size ≤ w1.heap.size) (hn : l1.length ≤ 10000000) (x : Nat → Int) => own_pushF lenB oneB' Try.underlying52 hi0 hz0 hz1 hz2 (blk_size nought) (by omega) (by omega) h hB hn x 52)
  generalize rBlkL l ops k q = res at *
  generalize refK l ops [] (rpUpto ops k) k = la at *
  generalize rpUpto ops k = ps at *
  clear h ho hm hup hi0 hz0 hz1 hz2
  obtain ⟨N, hN⟩ : ∃ N, ops.length = N := ⟨_, rfl⟩
  have HN := Hid.mk' hN
  rw [hN] at hlo hkl HPe HA ⊢
  clear hN
  go_enter Try.func43, Try.ntmps43
  go_wp2_with (go_at_call 40; fail)
  refine Calls.mono (HA.out _ HB0.out) ?_
  rintro e W1 ⟨p', c', rfl, hia, hb1⟩
  have a0 : W1.cell? ⟨w.heap.size, 0, none⟩ = some (.int .i64 n) := Joins.cell_of_block (heap_kept HG2.out hb1) 0
  have a00 : (W1.alloc (.cells #[.int .i64 n, .slice p' la.length c'] 24)).cell? ⟨w.heap.size, 0, none⟩ = some (.int .i64 n) := ((below_new W1 _).cell (p := ⟨w.heap.size, 0, none⟩) (block_lt_of_cell a0)).trans a0
  have HB1 := Hid.mk' (below_next HB0.out (below_next hb1 (below_new W1 (.cells #[.int .i64 n, .slice p' la.length c'] 24))))
  have HAt := Hid.mk' (rAt_any n la p' c' q (W1.alloc (.cells #[.int .i64 n, .slice p' la.length c'] 24)) hlk (hia.later (below_new W1 _)))
  clear hb1 HB0 HA HG2 hia
  have hd1 : decide (q < 0) = false := decide_eq_false (by omega)
  have hd2 : decide (n ≤ q) = false := decide_eq_false (by omega)
  go_wp2_with (go_at_call 77; fail)
  refine Calls.mono HAt.out ?_
  rintro e W2 ⟨rfl, hb2⟩
  have HB2 := Hid.mk' (below_next HB1.out hb2)
  clear hb2 HB1 HAt a0 a00 hd1 hd2
  generalize hb : atL la q = b0 at *
  have HO2 := Hid.mk' (World.ownsRow_lit (base := w.heap.size) (e := 40) (size := 1024) W2 (blk b0) 1 HB2.out.size (by unfold maxLen; omega) (blk_size b0))
  have HB3 := Hid.mk' (below_next HB2.out (below_new W2 (.cells (blk b0) 40)))
  have HE1 := Hid.mk' (fun (o : Oper) (a : Act) (W : World) (y : Operand) (ho : o.op = .buildSlice 52 1 #[(0, y)]) (hy : a.eval y = .agg (blk b0)) => sliceXB (W := W) (x := b0) ho hy)
  go_wp2_with (first | (with_reducible refine isList 52 ?_; refine wpList_exec rfl (HE1.out _ _ _ _ rfl rfl) ?_) | (go_at_call 45; fail))
  refine Calls.mono (HPe.out _ HB3.out) ?_
  rintro e W3 ⟨vo, rfl, hvo, hb3⟩
  obtain ⟨pv, cv, rfl, _, _, _⟩ := ints_of_row hvo
  have HB4 := Hid.mk' (below_next HB3.out hb3)
  have HO4 : Hid (W3.ownsRow w.heap.size 40 1024 (.slice (some ⟨W2.heap.size, 0, none⟩) 1 1) ((ps.take 0).foldl (stepB ops q) [b0]).length (((ps.take 0).foldl (stepB ops q) [b0]).flatMap enB)) := by
    have e := own_later HO2.out hb3
    have e2 : (ps.take 0).foldl (stepB ops q) [b0] = [b0] := by simp
    rw [e2]
    have e3 : [b0].flatMap enB = (blk b0).toList := by simp [enB]
    rw [e3]
    exact Hid.mk' e
  have HPv := Hid.mk' (World.ownsRow.mono hvo (Nat.zero_le _))
  clear hb3 HB3 HO2 hvo HPe HE1 HB2
  obtain ⟨P, hP⟩ : ∃ P, ps.length = P := ⟨_, rfl⟩
  have HP := Hid.mk' hP
  have hPk : P ≤ k := by have := HPl.out; omega
  rw [hP]
  clear hP HPl
  go_wp2
  go_loopw [12, 14] (fun s12 s14 wx => ∃ j : Nat, (j : Int) ≤ P ∧ s14 = .int .i64 j ∧ Hid (wx.ownsRow w.heap.size 40 1024 s12 ((ps.take j).foldl (stepB ops q) [b0]).length (((ps.take j).foldl (stepB ops q) [b0]).flatMap enB)) ∧ Hid (Below W3.heap.size W3 wx ∨ True) ∧ Hid (Below w.heap.size w wx) ∧ Hid (wx.ownsRow 0 3 1 (.slice pv ps.length cv) ps.length (ps.map (Value.int .i64)))) (fun _ s14 _ => P - (intOf s14).toNat)
  case atStart => exact ⟨0, by omega, rfl, HO4.out, .inr trivial, HB4.out, HPv.out⟩
  case round =>
    clear HO4 HB4 HPv
    obtain ⟨j, hj, rfl, HW, HX, HB, HPv⟩ := hrel
    clear HX
    by_cases hj2 : (j : Int) < P
    · have hjl : j < ps.length := by have := HP.out; omega
      have hx : ps[j]? = some (ps[j]'hjl) := List.getElem?_eq_getElem hjl
      generalize ps[j]'hjl = x at hx
      obtain ⟨i, hxi, hil⟩ := HRp.out _ _ hx
      subst hxi
      have hiN : (i : Int) < N := by have := HN.out; omega
      have hc : ops[i]? = some (ops[i]'hil) := List.getElem?_eq_getElem hil
      generalize ops[i]'hil = r at hc
      obtain ⟨pv2, cv2, epv, hpv, _, _⟩ := ints_of_row HPv.out
      injection epv with epv1 epv2 epv3
      subst epv1
      obtain ⟨bp, op, rfl, lp, Cp⟩ := hpv (by omega)
      clear epv2 epv3
      have c1 : wr.cell? ⟨bp, op + j, none⟩ = some (.int .i64 (i : Int)) := Cp j _ hx
      obtain ⟨bo, oo, rfl, lo, Co⟩ := HO.out (by omega)
      have HLd := Hid.mk' (load42 (Co.later HB.out lo) hc)
      have HF : Hid (((ps.take (j + 1)).foldl (stepB ops q) [b0]) = if r.pos = q then tellL ((ps.take j).foldl (stepB ops q) [b0]) r.dat else (ps.take j).foldl (stepB ops q) [b0]) := by
        have e : ((ps.take (j + 1)).foldl (stepB ops q) [b0]) = if r.pos = q then tellL ((ps.take j).foldl (stepB ops q) [b0]) r.dat else (ps.take j).foldl (stepB ops q) [b0] := by
          rw [foldB_snoc ops q ps [b0] hx]
          show (match ops[(i : Int).toNat]? with | some r => if r.pos = q then tellL _ r.dat else _ | none => _) = _
          rw [Int.toNat_natCast, hc]
        exact e
      have HLen := Hid.mk' (rBlk_len ops q b0 ps j)
      have HRb := Hid.mk' (rec_blk (heap_alloc_new wr (.cells (recCells r).toArray 42)))
      have hR1 := rec_at1 r
      have HRz := Hid.mk' (rec_size r)
      have HRo : Hid ((recCells r).toArray.all (·.oneCell') = true) := by
        rw [Array.all_eq_true_iff_forall_mem]
        intro v hv
        exact recCells_one _ v (by simpa using hv)
      have z := zero108
      have HZz := Hid.mk' (rec_size ⟨0, 0, nought⟩)
      obtain ⟨L2, hL2⟩ : ∃ L2, (ps.take (j + 1)).foldl (stepB ops q) [b0] = L2 := ⟨_, rfl⟩
      rw [hL2] at HF
      have HL2 := Hid.mk' hL2
      clear hL2
      generalize (ps.take j).foldl (stepB ops q) [b0] = L at *
      generalize (recCells r).toArray = R at *
      generalize (recCells ⟨0, 0, nought⟩).toArray = Z at *
      have c2 : (wr.alloc (.cells R 42)).cell? ⟨wr.heap.size, 1, none⟩ = some (.int .i64 r.pos) := by rw [cell_of_row _ _ 1 _ 42 _ (heap_alloc_new wr _)]; exact hR1
      have HNb := Hid.mk' (below_new wr (.cells R 42))
      clear hx hjl hc hil Co Cp hR1
      by_cases hpos : r.pos = q
      · subst hpos
        have HF2 : Hid (L2 = tellL L r.dat) := by rw [HF.out, if_pos rfl]; exact Hid.mk' rfl
        clear HF
        obtain ⟨pl, cl, hu12, _⟩ := own_slice HW.out
        subst hu12
        obtain ⟨M, hM⟩ : ∃ M, L.length = M := ⟨_, rfl⟩
        have HLM := Hid.mk' hM
        have hMb : M ≤ 500000 := by have := HLen.out; omega
        rw [hM]
        clear hM
        go_wp2_with (first | (with_reducible refine isLoad 42 ?_; refine wpList_load42A rfl (.tmp 55) rfl (.pointer (some ⟨bo, oo + i * 1026, none⟩)) R rfl HLd.out ?_) | (with_reducible refine isStore 42 ?_; refine wpList_storeNew 42 1026 size108 rfl (.tmp 15) (.tmp 56) rfl Z R HZz.out HRz.out HRo.out wr.heap.size rfl rfl rfl ?_))
        have HWA : Hid ((wr.alloc (.cells R 42)).ownsRow w.heap.size 40 1024 (.slice pl L.length cl) L.length (L.flatMap enB)) := own_later HW.out HNb.out
        have HBA := Hid.mk' (below_next HB.out HNb.out)
        have HPA := Hid.mk' (own_later HPv.out HNb.out)
        clear HW HB HPv HNb
        generalize wr.alloc (.cells R 42) = wA at *
        generalize wr.heap.size = A at *
        go_loopw [16, 17] (fun s16 s17 wx => ∃ m : Nat, (m : Int) ≤ M ∧ s17 = .int .i64 m ∧ s16 = .bool ((L.take m).any (fun g => sameB g r.dat)) ∧ Hid (Below wA.heap.size wA wx)) (fun _ s17 _ => M - (intOf s17).toNat)
        case atStart => exact ⟨0, by omega, rfl, by simp, Below.refl _ _⟩
        case round =>
          obtain ⟨m, hm, rfl, rfl, HBm⟩ := hrel
          have hAlt : A < wA.heap.size := block_lt_of_cell c2
          have qd : BlkAt wr A 2 r.dat := (HRb.out).kept (HBm.out.block A hAlt)
          by_cases hm2 : (m : Int) < M
          · have hml : m < L.length := by have := HLM.out; omega
            have hf : L[m]? = some (L[m]'hml) := List.getElem?_eq_getElem hml
            generalize L[m]'hml = f at hf
            have HAny := Hid.mk' (any_snoc L r.dat f m hf)
            obtain ⟨g, hpl, hglt⟩ : ∃ g, pl = some ⟨g, 0, none⟩ ∧ g < wA.heap.size := by
              rcases own_form HWA.out with ⟨q, q2⟩ | ⟨g, c, q, q2⟩
              · omega
              · injection q with q1 q3 q4
                exact ⟨g, q1, q2⟩
            subst hpl
            have qf : BlkAt wr g (m * 1024) f := BlkAt.kept (w := wA) (fun j v hv => own_get lenB HWA.out hf j v hv) (HBm.out.block g hglt)
            have HBd := Hid.mk' (HBm.out.trans (Below.drew (Below.refl wA.heap.size wr)))
            clear hf hml
            cases hag : (L.take m).any (fun g => sameB g r.dat)
            · cases hs : sameB f r.dat
              · have HAn : Hid ((L.take (m + 1)).any (fun g => sameB g r.dat) = false) := by rw [HAny.out, hag, hs]; exact Hid.mk' rfl
                clear HAny hag
                go_wp2
                refine wp_region_still_lit (by kernel_rfl) (by kernel_rfl) ?_
                repeat still_step
                refine wpStill_ldW rfl (.tmp 71) rfl g (m * 1024) rfl f qf ?_
                repeat still_step
                refine wpStill_ldW rfl (.tmp 73) rfl A 2 rfl r.dat qd ?_
                repeat still_step
                refine wpStill_eqlB rfl (.tmp 72) (.tmp 74) rfl f r.dat false rfl rfl hs ?_
                simp only [Act.put, List.setIfInBounds_toArray, List.set_cons_succ, List.set_cons_zero]
                repeat still_step
                refine wpStill_nil ?_
                go_wp2
                exact ⟨⟨m + 1, by omega, by go_num, by rw [HAn.out], HBd.out⟩, by simp [intOf]; omega⟩
              · have HAn : Hid ((L.take (m + 1)).any (fun g => sameB g r.dat) = true) := by rw [HAny.out, hag, hs]; exact Hid.mk' rfl
                clear HAny hag
                go_wp2
                refine wp_region_still_lit (by kernel_rfl) (by kernel_rfl) ?_
                repeat still_step
                refine wpStill_ldW rfl (.tmp 71) rfl g (m * 1024) rfl f qf ?_
                repeat still_step
                refine wpStill_ldW rfl (.tmp 73) rfl A 2 rfl r.dat qd ?_
                repeat still_step
                refine wpStill_eqlB rfl (.tmp 72) (.tmp 74) rfl f r.dat true rfl rfl hs ?_
                simp only [Act.put, List.setIfInBounds_toArray, List.set_cons_succ, List.set_cons_zero]
                repeat still_step
                refine wpStill_nil ?_
                go_wp2
                exact ⟨⟨m + 1, by omega, by go_num, by rw [HAn.out], HBd.out⟩, by simp [intOf]; omega⟩
            · have HAn : Hid ((L.take (m + 1)).any (fun g => sameB g r.dat) = true) := by rw [HAny.out, hag]; exact Hid.mk' rfl
              clear HAny hag
              clear qf qd
              have HBq : Hid (∀ nq, Below wA.heap.size wA (wr.drewN nq)) := fun nq => HBm.out.trans ⟨rfl, rfl, rfl, Nat.le_refl _, fun _ _ => rfl⟩
              go_upto_region 15 with fail
              go_quiet (fail)
              go_wp2
              exact ⟨⟨m + 1, by omega, by go_num, by rw [HAn.out], HBq.out _⟩, by simp [intOf]; omega⟩
          · have hmM : m = M := by omega
            subst hmM
            have hin : (L.take m).any (fun g => sameB g r.dat) = inB L r.dat := by rw [List.take_of_length_le (by have := HLM.out; omega)]; rfl
            rw [hin]
            clear hin
            cases hib : inB L r.dat
            · have HF3 : Hid (L2 = L ++ [r.dat]) := by rw [HF2.out]; unfold tellL; rw [hib]; exact Hid.mk' rfl
              clear HF2 hib
              obtain ⟨v', w3, hr, ho3, hb3, hf3⟩ := HPu.out wr _ L (own_later HWA.out HBm.out) (below_next HBA.out HBm.out).size (by have := HLM.out; omega) r.dat
              have HLM2 := HLM.out
              rw [HLM2] at hr
              have HRR := Hid.mk' hr
              have HO3 := Hid.mk' ho3
              have HB3 := Hid.mk' ((below_next HBA.out HBm.out).trans hb3)
              have HP3 : Hid (w3.ownsRow 0 3 1 (.slice (some ⟨bp, op, none⟩) ps.length cv) ps.length (ps.map (Value.int .i64))) := own_frame (own_later HPA.out HBm.out) hf3 fun b hb => rows_apart (by omega) (own_later HPA.out HBm.out) hb (own_later HWA.out HBm.out)
              clear hr ho3 hb3 HLM2
              have HX1 := Hid.mk' (fun (o : Oper) (a : Act) (x : Operand) (ho : o.op = .load 40 x) (hx : a.eval x = .pointer (some ⟨A, 2, none⟩)) => exec_ldBlk ho hx qd)
              have HX2 := Hid.mk' (fun (o : Oper) (a : Act) (W : World) (y : Operand) (ho : o.op = .buildSlice 52 1 #[(0, y)]) (hy : a.eval y = .agg (blk r.dat)) => sliceXB (W := W) (x := r.dat) ho hy)
              clear qd HRb HRz HRo HZz HLd z HLen
              generalize blk r.dat = Y at *
              generalize (enB r.dat).toArray = X at *
              go_wp2_with (first | (with_reducible refine isLoad 40 ?_; refine wpList_exec rfl (HX1.out _ _ _ rfl rfl) ?_) | (with_reducible refine isList 52 ?_; refine wpList_exec rfl (HX2.out _ _ _ _ rfl rfl) ?_) | (at_builtin; refine wpList_exec rfl (exec_pushY rfl rfl rfl HRR.out) ?_))
              refine ⟨⟨j + 1, by omega, by go_num, ?_, .inr trivial, HB3.out, HP3.out⟩, by simp [intOf]; omega⟩
              rw [HL2.out, HF3.out]
              exact HO3.out
            · have HF3 : Hid (L2 = L) := by rw [HF2.out]; unfold tellL; rw [hib]; exact Hid.mk' rfl
              clear HF2 hib
              have HLM2 := HLM.out
              go_wp2
              refine ⟨⟨j + 1, by omega, by go_num, ?_, .inr trivial, below_next HBA.out HBm.out, own_later HPA.out HBm.out⟩, by simp [intOf]; omega⟩
              rw [HL2.out, HF3.out]
              have e := own_later HWA.out HBm.out
              rw [HLM.out] at e ⊢
              exact e
      · have HF2 : Hid (L2 = L) := by rw [HF.out, if_neg hpos]; exact Hid.mk' rfl
        clear HF
        have hpd : decide (r.pos = q) = false := decide_eq_false hpos
        go_wp2_with (first | (with_reducible refine isLoad 42 ?_; refine wpList_load42A rfl (.tmp 55) rfl (.pointer (some ⟨bo, oo + i * 1026, none⟩)) R rfl HLd.out ?_) | (with_reducible refine isStore 42 ?_; refine wpList_storeNew 42 1026 size108 rfl (.tmp 15) (.tmp 56) rfl Z R HZz.out HRz.out HRo.out wr.heap.size rfl rfl rfl ?_))
        refine ⟨⟨j + 1, by omega, by go_num, ?_, .inr trivial, below_next HB.out HNb.out, own_later HPv.out HNb.out⟩, by simp [intOf]; omega⟩
        rw [HL2.out, HF2.out]
        exact own_later HW.out HNb.out
    · have hjP : j = P := by omega
      subst hjP
      have hR : res = (ps.take j).foldl (stepB ops q) [b0] := by rw [HRl.out, List.take_of_length_le (by have := HP.out; omega)]
      have HR := Hid.mk' hR
      clear hR
      go_wp2
      go_ret2
      refine ⟨_, rfl, ?_, HB.out⟩
      rw [HR.out]
      exact HW.out
end Go.Proofs.Ytbnbbelkddbndaa
