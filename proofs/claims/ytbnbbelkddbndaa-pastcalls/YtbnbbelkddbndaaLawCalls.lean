/- PastCalls: the walk of the whole law; no condition but that lists are not longer than lists can be, and that blocks are blocks. -/
import Derived.Test.YtbnbbelkddbndaaOverL
namespace Go.Proofs.Ytbnbbelkddbndaa
open Go.RowKit Go.Maps
theorem lent_head {α : Type} {en : α → List Value} {sz e B : Nat} {w : World} {v : Value} {l r : List α} (h : w.ownsRow B e sz v (l ++ r).length ((l ++ r).flatMap en)) (hr : 0 < r.length) : ∃ g c, v = .slice (some ⟨g, 0, none⟩) (l ++ r).length c ∧ l.length ≤ c := by
  rcases h.2 with ⟨_, q⟩ | ⟨g, c, cur, q, _, _, hn, _⟩
  · rw [List.length_append] at q; omega
  · exact ⟨g, c, q, by rw [List.length_append] at hn; omega⟩
theorem own_ne {W : World} {B e sz n g t : Nat} {v : Value} {xs : List Value} {Z : Array Value} (h : W.ownsRow B e sz v n xs) (hg : W.heap[g]? = some (.cells Z t)) (hne : e ≠ t) : v.ownBlock ≠ some g := fun q => by
  obtain ⟨_, h⟩ := h
  rcases h with ⟨rfl, _⟩ | ⟨g1, c1, r1, rfl, _, hg1, _⟩
  · cases q
  · injection q with q
    have q' : g1 = g := q
    subst q'
    rw [hg1] at hg
    injection hg with hg
    injection hg with _ hg
    exact hne hg
theorem size28 : (Try.prog.info? 28).map (·.size) = some 6 := by kernel_rfl
theorem store_now {W : World} {g : Nat} {Z R : Array Value} (hg : W.heap[g]? = some (.cells Z 28)) (hZ : Z.size = 6) (hR : R.size = 6) (h1 : R.all (·.oneCell') = true) : (Instr.storeAt 28 (.pointer (some ⟨g, 0, none⟩)) (.agg R)).run Try.prog W = .ok () (W.setRow g R) := by
  have e := run_storeVar_row (P := Try.prog) W g 28 28 Z R hg (by rw [hR]; exact size28) (by rw [hZ, hR]) h1
  simp only [Instr.storeAt, Instr.sureAddr, Sem.run_bind, Sem.run_pure, Result.andThen_ok, e]
theorem exec_st28 {o : Oper} {a : Act} {x y : Operand} {g : Nat} {R : Array Value} {W W' : World} (ho : o.op = .store 28 x y) (hx : a.eval x = .pointer (some ⟨g, 0, none⟩)) (hy : a.eval y = .agg R) (hr : (Instr.storeAt 28 (.pointer (some ⟨g, 0, none⟩)) (.agg R)).run Try.prog W = .ok () W') : (execOp a.eval o).run Try.prog W = .ok .skip W' := by
  unfold execOp
  simp only [ho, hx, hy, hr, Sem.run_bind, Result.andThen_ok, Sem.run_pure]
theorem wpList_st26 {ops : Array Oper} {rest : List Oper} {o : Oper} {a : Act} {w : World} {Q : Exit → Act → World → Prop} (hgd : o.guard = none) (x y : Operand) (ho : o.op = .store 26 x y) (g i : Nat) (p : Option Addr) (n c : Nat) (old : Value) (hx : a.eval x = .pointer (some ⟨g, i, none⟩)) (hy : a.eval y = .slice p n c) (hc : w.cell? ⟨g, i, none⟩ = some old) (hf : w.frozen? ⟨g, i, none⟩ = false)
    (h : wpList Try.prog ops Q rest (a.put o.dst undef) (w.setCell ⟨g, i, none⟩ (.slice p n c))) : wpList Try.prog ops Q (o :: rest) a w :=
  wpList_plain hgd fun _ hK => by
    unfold Oper.wp execOp
    simp only [ho, hx, hy]
    simp [go_sem, hc, hf]
    exact hK _ _ h
theorem PC.setBox28 {w wx : World} {g5 c5 g6 c6 g7 c7 g8 g9 g13 : Nat} {xs ys zs os Z R : Array Value} {D : List Cel} {E : List Rec} {F : List Bool} (h : PC w g5 c5 g6 c6 g7 c7 g8 g9 xs ys zs os D E F wx) (hg : wx.heap[g13]? = some (.cells Z 28)) (h2 : g13 ≠ w.heap.size) (h9 : g13 ≠ g9) (hB : w.heap.size ≤ g13) : PC w g5 c5 g6 c6 g7 c7 g8 g9 xs ys zs os D E F (wx.setRow g13 R) :=
  ⟨below_setRow h.bel hB R, by rw [setRow_other wx g13 _ _ (fun q => h2 q.symm)]; exact h.b2, by rw [setRow_other wx g13 _ _ (box_ne h.b3 hg (by decide))]; exact h.b3, by rw [setRow_other wx g13 _ _ (box_ne h.b8 hg (by decide))]; exact h.b8, by rw [setRow_other wx g13 _ _ (fun q => h9 q.symm)]; exact h.b9, own_other h.r5 (own_ne h.r5 hg (by decide)) R, own_other h.r6 (own_ne h.r6 hg (by decide)) R, own_other h.r7 (own_ne h.r7 hg (by decide)) R⟩
theorem PC.setCell28 {w wx : World} {g5 c5 g6 c6 g7 c7 g8 g9 g13 : Nat} {xs ys zs os Z : Array Value} {D : List Cel} {E : List Rec} {F : List Bool} (h : PC w g5 c5 g6 c6 g7 c7 g8 g9 xs ys zs os D E F wx) {j : Nat} {u : Value} (hg : wx.heap[g13]? = some (.cells Z 28)) (h2 : g13 ≠ w.heap.size) (h9 : g13 ≠ g9) (hB : w.heap.size ≤ g13) : PC w g5 c5 g6 c6 g7 c7 g8 g9 xs ys zs os D E F (wx.setCell ⟨g13, j, none⟩ u) :=
  ⟨h.bel.setCell (p := ⟨g13, j, none⟩) hB u, by rw [Below.heap_setCell wx _ u _ (fun q => h2 q.symm)]; exact h.b2, by rw [Below.heap_setCell wx _ u _ (box_ne h.b3 hg (by decide))]; exact h.b3, by rw [Below.heap_setCell wx _ u _ (box_ne h.b8 hg (by decide))]; exact h.b8, by rw [Below.heap_setCell wx _ u _ (fun q => h9 q.symm)]; exact h.b9, ownsRow_setCell_other h.r5 (a := ⟨g13, j, none⟩) (own_ne h.r5 hg (by decide)) u, ownsRow_setCell_other h.r6 (a := ⟨g13, j, none⟩) (own_ne h.r6 hg (by decide)) u, ownsRow_setCell_other h.r7 (a := ⟨g13, j, none⟩) (own_ne h.r7 hg (by decide)) u⟩
theorem blk_get7 (f : Nat → Int) : (blk f).toList[7]? = some (.int .u8 (f 7)) := by
  rw [Array.getElem?_toList]
  unfold blk
  simp
theorem wpList_st3 {ops : Array Oper} {rest : List Oper} {o : Oper} {a : Act} {w : World} {Q : Exit → Act → World → Prop} (hgd : o.guard = none) (x y : Operand) (ho : o.op = .store 3 x y) (g i : Nat) (v : Int) (old : Value) (hx : a.eval x = .pointer (some ⟨g, i, none⟩)) (hy : a.eval y = .int .i64 v) (hc : w.cell? ⟨g, i, none⟩ = some old) (hf : w.frozen? ⟨g, i, none⟩ = false)
    (h : wpList Try.prog ops Q rest (a.put o.dst undef) (w.setCell ⟨g, i, none⟩ (.int .i64 v))) : wpList Try.prog ops Q (o :: rest) a w :=
  wpList_plain hgd fun _ hK => by
    unfold Oper.wp execOp
    simp only [ho, hx, hy]
    simp [go_sem, hc, hf]
    exact hK _ _ h
theorem wpList_st38 {ops : Array Oper} {rest : List Oper} {o : Oper} {a : Act} {w : World} {Q : Exit → Act → World → Prop} (hgd : o.guard = none) (x y : Operand) (ho : o.op = .store 38 x y) (g i : Nat) (v : Int) (old : Value) (hx : a.eval x = .pointer (some ⟨g, i, none⟩)) (hy : a.eval y = .int .u8 v) (hc : w.cell? ⟨g, i, none⟩ = some old) (hf : w.frozen? ⟨g, i, none⟩ = false)
    (h : wpList Try.prog ops Q rest (a.put o.dst undef) (w.setCell ⟨g, i, none⟩ (.int .u8 v))) : wpList Try.prog ops Q (o :: rest) a w :=
  wpList_plain hgd fun _ hK => by
    unfold Oper.wp execOp
    simp only [ho, hx, hy]
    simp [go_sem, hc, hf]
    exact hK _ _ h
theorem wpList_st5 {ops : Array Oper} {rest : List Oper} {o : Oper} {a : Act} {w : World} {Q : Exit → Act → World → Prop} (hgd : o.guard = none) (x y : Operand) (ho : o.op = .store 5 x y) (g i : Nat) (v : Int) (old : Value) (hx : a.eval x = .pointer (some ⟨g, i, none⟩)) (hy : a.eval y = .int .u8 v) (hc : w.cell? ⟨g, i, none⟩ = some old) (hf : w.frozen? ⟨g, i, none⟩ = false)
    (h : wpList Try.prog ops Q rest (a.put o.dst undef) (w.setCell ⟨g, i, none⟩ (.int .u8 v))) : wpList Try.prog ops Q (o :: rest) a w :=
  wpList_plain hgd fun _ hK => by
    unfold Oper.wp execOp
    simp only [ho, hx, hy]
    simp [go_sem, hc, hf]
    exact hK _ _ h
theorem wpList_st4 {ops : Array Oper} {rest : List Oper} {o : Oper} {a : Act} {w : World} {Q : Exit → Act → World → Prop} (hgd : o.guard = none) (x y : Operand) (ho : o.op = .store 4 x y) (g i : Nat) (v : Bool) (old : Value) (hx : a.eval x = .pointer (some ⟨g, i, none⟩)) (hy : a.eval y = .bool v) (hc : w.cell? ⟨g, i, none⟩ = some old) (hf : w.frozen? ⟨g, i, none⟩ = false)
    (h : wpList Try.prog ops Q rest (a.put o.dst undef) (w.setCell ⟨g, i, none⟩ (.bool v))) : wpList Try.prog ops Q (o :: rest) a w :=
  wpList_plain hgd fun _ hK => by
    unfold Oper.wp execOp
    simp only [ho, hx, hy]
    simp [go_sem, hc, hf]
    exact hK _ _ h
set_option maxRecDepth 20000 in
set_option maxHeartbeats 4000000 in
theorem pastCalls_walk (n k q m : Int) (l t : List Cel) (ops : List Rec) (keep : List Bool) (p po ka pt : Option Addr) (cp co kc ct : Nat) (w : World) (hl : l.length ≤ maxLen) (hlo : ops.length ≤ maxLen) (hlk : keep.length ≤ maxLen) (_hlt : t.length ≤ maxLen)
    (hi : ImgAt w p l) (ho : OpsAt w po ops) (hb : BoolsAt w (.slice ka keep.length kc) keep) (ht : ImgAt w pt t) (hcl : ∀ c ∈ l, Can c.2) (hcr : ∀ r ∈ ops, Can r.dat) (hct : ∀ c ∈ t, Can c.2) :
    Calls Try.prog 3 #[.agg (sceneV n p l.length cp po ops.length co k ka keep.length kc q), .agg #[.int .i64 m, .slice pt t.length ct]] w fun e w' => e = .returned (.bool true) ∧ Below w.heap.size w w' := by
  unfold maxLen at hl hlo hlk
  obtain ⟨j0, hj0, hk0, hk1, hk2⟩ := info_parts inf4
  have HI4 := Hid.mk' (show _ ∧ _ ∧ _ ∧ _ from ⟨hj0, hk0, hk1, hk2⟩)
  clear hj0 hk0 hk1 hk2
  have HLg := Hid.mk' (fun (W : World) => large_any n p l.length cp po ops.length co k ka keep.length kc q W (by omega) (by omega) (by omega))
  obtain ⟨w0, hw0⟩ : ∃ w0, w0 = (w.alloc (.cells (sceneV n p l.length cp po ops.length co k ka keep.length kc q) 28)).alloc (.cells #[.int .i64 m, .slice pt t.length ct] 24) := ⟨_, rfl⟩
  have hG2 : w0.heap[w.heap.size]? = some (.cells (sceneV n p l.length cp po ops.length co k ka keep.length kc q) 28) := by rw [hw0]; exact heap_kept (heap_alloc_new w _) (below_new _ _)
  have hG3 : w0.heap[w.heap.size + 1]? = some (.cells #[.int .i64 m, .slice pt t.length ct] 24) := by
    rw [hw0]
    have := heap_alloc_new (w.alloc (.cells (sceneV n p l.length cp po ops.length co k ka keep.length kc q) 28)) (.cells #[.int .i64 m, .slice pt t.length ct] 24)
    rwa [show (w.alloc (.cells (sceneV n p l.length cp po ops.length co k ka keep.length kc q) 28)).heap.size = w.heap.size + 1 by simp] at this
  have hB0 : Below w.heap.size w w0 := by rw [hw0]; exact below_next (below_new _ _) (below_new _ _)
  have HG2 := Hid.mk' hG2
  have HG3 := Hid.mk' hG3
  have HB0 := Hid.mk' hB0
  clear hG2 hG3 hB0
  have HI := Hid.mk' (img_lies hi)
  have HO := Hid.mk' (ops_lies ho)
  have HK := Hid.mk' (bools_lies hb)
  have HT := Hid.mk' (img_lies ht)
  clear hi ho hb ht
  have HLl : Hid (l.length = l.length) := rfl
  obtain ⟨L, hL⟩ : ∃ L, l.length = L := ⟨_, rfl⟩
  obtain ⟨O, hO⟩ : ∃ O, ops.length = O := ⟨_, rfl⟩
  obtain ⟨KL, hK⟩ : ∃ KL, keep.length = KL := ⟨_, rfl⟩
  obtain ⟨T, hT⟩ : ∃ T, t.length = T := ⟨_, rfl⟩
  have HL := Hid.mk' hL
  have HOl := Hid.mk' hO
  have HKl := Hid.mk' hK
  have HTl := Hid.mk' hT
  rw [hL] at hl HLg HG2 hw0 ⊢
  rw [hO] at hlo HLg HG2 hw0 ⊢
  rw [hK] at hlk HLg HG2 hw0 ⊢
  rw [hT] at HG3 hw0 ⊢
  clear hL hO hK hT HLl
  unfold sceneV at hw0 HLg ⊢
  go_enter Try.func3, Try.ntmps3
  go_upto_region 1 with fail
  rw [← hw0]
  clear hw0
  obtain ⟨a0, a1, a2, a3, a4, a5⟩ := scene_cells HG2.out
  have y0 := Joins.cell_of_block HG3.out 0
  have y1 := Joins.cell_of_block HG3.out 1
  go_wp2_with (go_at_call 9; fail)
  clear a0 a1 a2 a3 a4 a5 y0 y1
  refine Calls.mono (HLg.out _) ?_
  rintro e W1 ⟨rfl, hb⟩
  have HG2 := Hid.mk' (heap_kept HG2.out hb)
  have HG3 := Hid.mk' (heap_kept HG3.out hb)
  have HB1 := Hid.mk' (below_next HB0.out hb)
  clear hb HB0 HLg
  obtain ⟨a0, a1, a2, a3, a4, a5⟩ := scene_cells HG2.out
  have y0 := Joins.cell_of_block HG3.out 0
  have y1 := Joins.cell_of_block HG3.out 1
  cases hlg : largeB L O KL
  rotate_left
  · go_wp2
    go_ret
    exact ⟨rfl, HB1.out⟩
  by_cases hT2 : (120 : Int) < T
  · go_wp2
    go_ret
    exact ⟨rfl, HB1.out⟩
  have hsm : L ≤ 120 ∧ O ≤ 120 ∧ KL ≤ 120 := by
    unfold largeB at hlg
    simp at hlg
    omega
  clear hlg hl hlo hlk
  have hT3 : decide ((120 : Int) < (T : Int)) = false := decide_eq_false hT2
  have hT4 : T ≤ 120 := by omega
  clear hT2
  go_wp2_with (go_at_call 10; fail)
  clear a0 a1 a2 a3 a4 a5 y0 y1 hT3
  have hc := lentH_any l p cp W1 (by have := HL.out; omega) (HI.out.later HB1.out)
  rw [HL.out] at hc
  refine Calls.mono hc ?_
  clear hc
  rintro e W2 ⟨v, rfl, hv, hb⟩
  unfold lentH at hv
  obtain ⟨g5, c5, rfl, hc5⟩ := lent_head hv (by first | (rw [mks_len]; omega) | simp)
  have HR5 := Hid.mk' (World.ownsRow.mono hv HB1.out.size)
  have HC5 := Hid.mk' hc5
  clear hv hc5
  have HG2 := Hid.mk' (heap_kept HG2.out hb)
  have HG3 := Hid.mk' (heap_kept HG3.out hb)
  have HB2 := Hid.mk' (below_next HB1.out hb)
  clear hb HB1
  rw [show (l ++ mks mk7H 6).length = L + 6 by rw [List.length_append, mks_len, HL.out]]
  rw [HL.out] at HC5
  obtain ⟨a0, a1, a2, a3, a4, a5⟩ := scene_cells HG2.out
  have y0 := Joins.cell_of_block HG3.out 0
  have y1 := Joins.cell_of_block HG3.out 1
  go_wp2_with (go_at_call 11; fail)
  clear a0 a1 a2 a3 a4 a5 y0 y1
  have hc := lentO_any ops po co W2 (by have := HOl.out; omega) (HO.out.later HB2.out)
  rw [HOl.out] at hc
  refine Calls.mono hc ?_
  clear hc
  rintro e W3 ⟨v, rfl, hv, hb⟩
  unfold lentO at hv
  obtain ⟨g6, c6, rfl, hc6⟩ := lent_head hv (by first | (rw [mks_len]; omega) | simp)
  have HR6 := Hid.mk' (World.ownsRow.mono hv HB2.out.size)
  have HC6 := Hid.mk' hc6
  clear hv hc6
  have HG2 := Hid.mk' (heap_kept HG2.out hb)
  have HG3 := Hid.mk' (heap_kept HG3.out hb)
  have HR5 := Hid.mk' (own_later HR5.out hb)
  have HB3 := Hid.mk' (below_next HB2.out hb)
  clear hb HB2
  rw [show (ops ++ mks mk7O 6).length = O + 6 by rw [List.length_append, mks_len, HOl.out]]
  rw [HOl.out] at HC6
  obtain ⟨a0, a1, a2, a3, a4, a5⟩ := scene_cells HG2.out
  have y0 := Joins.cell_of_block HG3.out 0
  have y1 := Joins.cell_of_block HG3.out 1
  go_wp2_with (go_at_call 12; fail)
  clear a0 a1 a2 a3 a4 a5 y0 y1
  have hc := bools_any keep ka kc W3 (by have := HKl.out; omega) (HK.out.later HB3.out)
  rw [HKl.out] at hc
  refine Calls.mono hc ?_
  clear hc
  rintro e W4 ⟨v, rfl, hv, hb⟩
  unfold lentT at hv
  obtain ⟨g7, c7, rfl, hc7⟩ := lent_head hv (by first | (rw [mks_len]; omega) | simp)
  have HR7 := Hid.mk' (World.ownsRow.mono hv HB3.out.size)
  have HC7 := Hid.mk' hc7
  clear hv hc7
  have HG2 := Hid.mk' (heap_kept HG2.out hb)
  have HG3 := Hid.mk' (heap_kept HG3.out hb)
  have HR5 := Hid.mk' (own_later HR5.out hb)
  have HR6 := Hid.mk' (own_later HR6.out hb)
  have HB4 := Hid.mk' (below_next HB3.out hb)
  clear hb HB3
  rw [show (keep ++ [true, false, true]).length = KL + 3 by rw [List.length_append, HKl.out]; rfl]
  rw [HKl.out] at HC7
  go_upto_region 6 with fail
  obtain ⟨a0, a1, a2, a3, a4, a5⟩ := scene_cells HG2.out
  have hc5 := HC5.out
  have hc6 := HC6.out
  have hc7 := HC7.out
  have h05 : (L : Int) ≤ (c5 : Int) := by omega
  have h06 : (O : Int) ≤ (c6 : Int) := by omega
  have h07 : (KL : Int) ≤ (c7 : Int) := by omega
  refine wp_region_ord (S := fun u => u.cell? ⟨w.heap.size, 0, none⟩ = some (.int .i64 n) ∧ u.cell? ⟨w.heap.size, 1, none⟩ = some (.slice p L cp)) [(0, true), (1, true), (2, true), (3, true), (4, true), (5, true), (6, true), (7, true), (8, true), (9, true), (10, false), (11, false)]
    (by kernel_rfl) rfl (by kernel_rfl) (fun d _ _ _ _ h => by cases d <;> exact h) ⟨a0, a1⟩ ?_
  simp only [inOrd, List.getElem?_cons_zero, List.getElem?_cons_succ]
  refine wpOrd_yield (v := .pointer (some ⟨w.heap.size, 0, none⟩)) rfl (fun u hu => by go_simp) ?_
  simp only [Act.put, List.setIfInBounds_toArray, List.set_cons_succ, List.set_cons_zero]
  refine wpOrd_yield (v := .pointer (some ⟨w.heap.size, 0, none⟩)) rfl (fun u hu => by go_simp) ?_
  simp only [Act.put, List.setIfInBounds_toArray, List.set_cons_succ, List.set_cons_zero]
  refine wpOrd_yield (v := .int .i64 n) rfl (fun u hu => by obtain ⟨h0, h1⟩ := hu; go_simp) ?_
  simp only [Act.put, List.setIfInBounds_toArray, List.set_cons_succ, List.set_cons_zero]
  refine wpOrd_yield (v := .slice (some ⟨g5, 0, none⟩) (L + 6) c5) rfl (fun u hu => exec_mvR rfl rfl) ?_
  simp only [Act.put, List.setIfInBounds_toArray, List.set_cons_succ, List.set_cons_zero]
  refine wpOrd_yield (v := .pointer (some ⟨w.heap.size, 0, none⟩)) rfl (fun u hu => by go_simp) ?_
  simp only [Act.put, List.setIfInBounds_toArray, List.set_cons_succ, List.set_cons_zero]
  refine wpOrd_yield (v := .pointer (some ⟨w.heap.size, 1, none⟩)) rfl (fun u hu => by go_simp) ?_
  simp only [Act.put, List.setIfInBounds_toArray, List.set_cons_succ, List.set_cons_zero]
  refine wpOrd_yield (v := .slice p L cp) rfl (fun u hu => by obtain ⟨h0, h1⟩ := hu; go_simp) ?_
  simp only [Act.put, List.setIfInBounds_toArray, List.set_cons_succ, List.set_cons_zero]
  refine wpOrd_yield (v := .int .i64 (L : Int)) rfl (fun u hu => by go_simp) ?_
  simp only [Act.put, List.setIfInBounds_toArray, List.set_cons_succ, List.set_cons_zero]
  refine wpOrd_yield (v := .slice (some ⟨g5, 0, none⟩) L c5) rfl (fun u hu => by go_simp) ?_
  simp only [Act.put, List.setIfInBounds_toArray, List.set_cons_succ, List.set_cons_zero]
  refine wpOrd_yield (v := .agg #[.int .i64 n, .slice (some ⟨g5, 0, none⟩) L c5]) rfl (fun u hu => by go_simp) ?_
  simp only [Act.put, List.setIfInBounds_toArray, List.set_cons_succ, List.set_cons_zero]
  refine wpOrd_makes (v := .pointer (some ⟨W4.heap.size, 0, none⟩)) (w' := W4.drew.alloc (.cells #[.int .i64 0, .slice none 0 0] 24)) rfl (by go_simp) ⟨((below_new W4.drew _).cell (p := ⟨w.heap.size, 0, none⟩) (block_lt_of_cell a0)).trans a0, ((below_new W4.drew _).cell (p := ⟨w.heap.size, 1, none⟩) (block_lt_of_cell a1)).trans a1⟩ ?_
  simp only [Act.put, List.setIfInBounds_toArray, List.set_cons_succ, List.set_cons_zero]
  refine wpOrd_do (w' := W4.drew.alloc (.cells #[.int .i64 n, .slice (some ⟨g5, 0, none⟩) L c5] 24)) rfl (by go_simp) ⟨((below_new W4.drew _).cell (p := ⟨w.heap.size, 0, none⟩) (block_lt_of_cell a0)).trans a0, ((below_new W4.drew _).cell (p := ⟨w.heap.size, 1, none⟩) (block_lt_of_cell a1)).trans a1⟩ ?_
  simp only [Act.put]
  refine wpOrd_nil ?_
  have hbV : Below W4.heap.size W4 (W4.drew.alloc (.cells #[.int .i64 n, .slice (some ⟨g5, 0, none⟩) L c5] 24)) := Below.alloc (Below.drew (Below.refl _ W4)) (Nat.le_refl _) _
  have H8 := Hid.mk' (heap_alloc_new W4.drew (.cells #[.int .i64 n, .slice (some ⟨g5, 0, none⟩) L c5] 24))
  have HG2 := Hid.mk' (heap_kept HG2.out hbV)
  have HG3 := Hid.mk' (heap_kept HG3.out hbV)
  have HR5 := Hid.mk' (own_later HR5.out hbV)
  have HR6 := Hid.mk' (own_later HR6.out hbV)
  have HR7 := Hid.mk' (own_later HR7.out hbV)
  have HBV := Hid.mk' (below_next HB4.out hbV)
  clear hbV HB4 a0 a1 a2 a3 a4 a5
  have e8 : W4.drew.heap.size = W4.heap.size := rfl
  rw [e8] at H8
  clear e8
  generalize W4.drew.alloc (.cells #[.int .i64 n, .slice (some ⟨g5, 0, none⟩) L c5] 24) = V8 at *
  generalize W4.heap.size = g8 at *
  go_upto_region 7 with fail
  obtain ⟨a0, a1, a2, a3, a4, a5⟩ := scene_cells HG2.out
  have i0 := Joins.cell_of_block H8.out 0
  have i1 := Joins.cell_of_block H8.out 1
  have hS7 : ∀ (X : Obj), (fun u : World => u.cell? ⟨w.heap.size, 2, none⟩ = some (.slice po O co) ∧ u.cell? ⟨w.heap.size, 3, none⟩ = some (.int .i64 k) ∧ u.cell? ⟨w.heap.size, 4, none⟩ = some (.slice ka KL kc) ∧ u.cell? ⟨w.heap.size, 5, none⟩ = some (.int .i64 q) ∧ u.cell? ⟨g8, 0, none⟩ = some (.int .i64 n) ∧ u.cell? ⟨g8, 1, none⟩ = some (.slice (some ⟨g5, 0, none⟩) L c5)) (V8.drew.alloc X) := fun X => by
    have hb := below_new V8.drew X
    exact ⟨(hb.cell (p := ⟨w.heap.size, 2, none⟩) (block_lt_of_cell a2)).trans a2, (hb.cell (p := ⟨w.heap.size, 3, none⟩) (block_lt_of_cell a3)).trans a3, (hb.cell (p := ⟨w.heap.size, 4, none⟩) (block_lt_of_cell a4)).trans a4, (hb.cell (p := ⟨w.heap.size, 5, none⟩) (block_lt_of_cell a5)).trans a5, (hb.cell (p := ⟨g8, 0, none⟩) (block_lt_of_cell i0)).trans i0, (hb.cell (p := ⟨g8, 1, none⟩) (block_lt_of_cell i1)).trans i1⟩
  refine wp_region_ord (S := fun u => u.cell? ⟨w.heap.size, 2, none⟩ = some (.slice po O co) ∧ u.cell? ⟨w.heap.size, 3, none⟩ = some (.int .i64 k) ∧ u.cell? ⟨w.heap.size, 4, none⟩ = some (.slice ka KL kc) ∧ u.cell? ⟨w.heap.size, 5, none⟩ = some (.int .i64 q) ∧ u.cell? ⟨g8, 0, none⟩ = some (.int .i64 n) ∧ u.cell? ⟨g8, 1, none⟩ = some (.slice (some ⟨g5, 0, none⟩) L c5)) [(0, true), (1, true), (2, true), (3, true), (4, true), (5, true), (6, true), (7, true), (8, true), (9, true), (10, true), (11, true), (12, true), (13, true), (14, true), (15, true), (16, false), (17, false)]
    (by kernel_rfl) rfl (by kernel_rfl) (fun d _ _ _ _ h => by cases d <;> exact h) ⟨a2, a3, a4, a5, i0, i1⟩ ?_
  simp only [inOrd, List.getElem?_cons_zero, List.getElem?_cons_succ]
  refine wpOrd_yield (v := .agg #[.int .i64 n, .slice (some ⟨g5, 0, none⟩) L c5]) rfl (fun u hu => by obtain ⟨h0, h1, h2, h3, h4, h5⟩ := hu; go_simp) ?_
  simp only [Act.put, List.setIfInBounds_toArray, List.set_cons_succ, List.set_cons_zero]
  refine wpOrd_yield (v := .slice (some ⟨g6, 0, none⟩) (O + 6) c6) rfl (fun u hu => exec_mvR rfl rfl) ?_
  simp only [Act.put, List.setIfInBounds_toArray, List.set_cons_succ, List.set_cons_zero]
  refine wpOrd_yield (v := .pointer (some ⟨w.heap.size, 2, none⟩)) rfl (fun u hu => by go_simp) ?_
  simp only [Act.put, List.setIfInBounds_toArray, List.set_cons_succ, List.set_cons_zero]
  refine wpOrd_yield (v := .slice po O co) rfl (fun u hu => by obtain ⟨h0, h1, h2, h3, h4, h5⟩ := hu; go_simp) ?_
  simp only [Act.put, List.setIfInBounds_toArray, List.set_cons_succ, List.set_cons_zero]
  refine wpOrd_yield (v := .int .i64 (O : Int)) rfl (fun u hu => by go_simp) ?_
  simp only [Act.put, List.setIfInBounds_toArray, List.set_cons_succ, List.set_cons_zero]
  refine wpOrd_yield (v := .slice (some ⟨g6, 0, none⟩) O c6) rfl (fun u hu => by go_simp) ?_
  simp only [Act.put, List.setIfInBounds_toArray, List.set_cons_succ, List.set_cons_zero]
  refine wpOrd_yield (v := .pointer (some ⟨w.heap.size, 3, none⟩)) rfl (fun u hu => by go_simp) ?_
  simp only [Act.put, List.setIfInBounds_toArray, List.set_cons_succ, List.set_cons_zero]
  refine wpOrd_yield (v := .int .i64 k) rfl (fun u hu => by obtain ⟨h0, h1, h2, h3, h4, h5⟩ := hu; go_simp) ?_
  simp only [Act.put, List.setIfInBounds_toArray, List.set_cons_succ, List.set_cons_zero]
  refine wpOrd_yield (v := .slice (some ⟨g7, 0, none⟩) (KL + 3) c7) rfl (fun u hu => exec_mvR rfl rfl) ?_
  simp only [Act.put, List.setIfInBounds_toArray, List.set_cons_succ, List.set_cons_zero]
  refine wpOrd_yield (v := .pointer (some ⟨w.heap.size, 4, none⟩)) rfl (fun u hu => by go_simp) ?_
  simp only [Act.put, List.setIfInBounds_toArray, List.set_cons_succ, List.set_cons_zero]
  refine wpOrd_yield (v := .slice ka KL kc) rfl (fun u hu => by obtain ⟨h0, h1, h2, h3, h4, h5⟩ := hu; go_simp) ?_
  simp only [Act.put, List.setIfInBounds_toArray, List.set_cons_succ, List.set_cons_zero]
  refine wpOrd_yield (v := .int .i64 (KL : Int)) rfl (fun u hu => by go_simp) ?_
  simp only [Act.put, List.setIfInBounds_toArray, List.set_cons_succ, List.set_cons_zero]
  refine wpOrd_yield (v := .slice (some ⟨g7, 0, none⟩) KL c7) rfl (fun u hu => by go_simp) ?_
  simp only [Act.put, List.setIfInBounds_toArray, List.set_cons_succ, List.set_cons_zero]
  refine wpOrd_yield (v := .pointer (some ⟨w.heap.size, 5, none⟩)) rfl (fun u hu => by go_simp) ?_
  simp only [Act.put, List.setIfInBounds_toArray, List.set_cons_succ, List.set_cons_zero]
  refine wpOrd_yield (v := .int .i64 q) rfl (fun u hu => by obtain ⟨h0, h1, h2, h3, h4, h5⟩ := hu; go_simp) ?_
  simp only [Act.put, List.setIfInBounds_toArray, List.set_cons_succ, List.set_cons_zero]
  refine wpOrd_yield (v := .agg #[.int .i64 n, .slice (some ⟨g5, 0, none⟩) L c5, .slice (some ⟨g6, 0, none⟩) O c6, .int .i64 k, .slice (some ⟨g7, 0, none⟩) KL c7, .int .i64 q]) rfl (fun u hu => by go_simp) ?_
  simp only [Act.put, List.setIfInBounds_toArray, List.set_cons_succ, List.set_cons_zero]
  refine wpOrd_makes (v := .pointer (some ⟨V8.heap.size, 0, none⟩)) (w' := V8.drew.alloc (.cells #[.int .i64 0, .slice none 0 0, .slice none 0 0, .int .i64 0, .slice none 0 0, .int .i64 0] 28)) rfl (by go_simp) (hS7 _) ?_
  simp only [Act.put, List.setIfInBounds_toArray, List.set_cons_succ, List.set_cons_zero]
  refine wpOrd_do (w' := V8.drew.alloc (.cells #[.int .i64 n, .slice (some ⟨g5, 0, none⟩) L c5, .slice (some ⟨g6, 0, none⟩) O c6, .int .i64 k, .slice (some ⟨g7, 0, none⟩) KL c7, .int .i64 q] 28)) rfl (by go_simp) (hS7 _) ?_
  simp only [Act.put]
  refine wpOrd_nil ?_
  have hbV : Below V8.heap.size V8 (V8.drew.alloc (.cells #[.int .i64 n, .slice (some ⟨g5, 0, none⟩) L c5, .slice (some ⟨g6, 0, none⟩) O c6, .int .i64 k, .slice (some ⟨g7, 0, none⟩) KL c7, .int .i64 q] 28)) := Below.alloc (Below.drew (Below.refl _ V8)) (Nat.le_refl _) _
  have H9 := Hid.mk' (heap_alloc_new V8.drew (.cells #[.int .i64 n, .slice (some ⟨g5, 0, none⟩) L c5, .slice (some ⟨g6, 0, none⟩) O c6, .int .i64 k, .slice (some ⟨g7, 0, none⟩) KL c7, .int .i64 q] 28))
  have HG2 := Hid.mk' (heap_kept HG2.out hbV)
  have HG3 := Hid.mk' (heap_kept HG3.out hbV)
  have H8 := Hid.mk' (heap_kept H8.out hbV)
  have HR5 := Hid.mk' (own_later HR5.out hbV)
  have HR6 := Hid.mk' (own_later HR6.out hbV)
  have HR7 := Hid.mk' (own_later HR7.out hbV)
  have HBW := Hid.mk' (below_next HBV.out hbV)
  clear hbV HBV a0 a1 a2 a3 a4 a5 i0 i1 hS7 h05 h06 h07 hc5 hc6 hc7
  have e9 : V8.drew.heap.size = V8.heap.size := rfl
  rw [e9] at H9
  clear e9
  generalize V8.drew.alloc (.cells #[.int .i64 n, .slice (some ⟨g5, 0, none⟩) L c5, .slice (some ⟨g6, 0, none⟩) O c6, .int .i64 k, .slice (some ⟨g7, 0, none⟩) KL c7, .int .i64 q] 28) = V9 at *
  generalize V8.heap.size = g9 at *
  have HP : Hid (PC w g5 c5 g6 c6 g7 c7 g8 g9 (sceneV n p L cp po O co k ka KL kc q) #[.int .i64 m, .slice pt T ct] #[.int .i64 n, .slice (some ⟨g5, 0, none⟩) L c5] #[.int .i64 n, .slice (some ⟨g5, 0, none⟩) L c5, .slice (some ⟨g6, 0, none⟩) O c6, .int .i64 k, .slice (some ⟨g7, 0, none⟩) KL c7, .int .i64 q] (lentH l) (lentO ops) (lentT keep) V9) := ⟨HBW.out, HG2.out, HG3.out, H8.out, H9.out, HR5.out, HR6.out, HR7.out⟩
  clear HBW HG2 HG3 H8 H9 HR5 HR6 HR7
  obtain ⟨a0, a1, a2, a3, a4, a5⟩ := scene_cells HP.out.b2
  have y0 := Joins.cell_of_block HP.out.b3 0
  have y1 := Joins.cell_of_block HP.out.b3 1
  obtain ⟨o0, o1, o2, o3, o4, o5⟩ := scene_cells (n := n) (p := some ⟨g5, 0, none⟩) (a := L) (cp := c5) (po := some ⟨g6, 0, none⟩) (b := O) (co := c6) (k := k) (ka := some ⟨g7, 0, none⟩) (c := KL) (kc := c7) (q := q) HP.out.b9
  have hA := asked_any n k q m l t ops keep (some ⟨g5, 0, none⟩) (some ⟨g6, 0, none⟩) (some ⟨g7, 0, none⟩) p po ka pt c5 c6 c7 cp co kc ct V9 (by have := HL.out; omega) (by have := HOl.out; omega) (by have := HKl.out; omega) (by have := HTl.out; omega)
    (lies_img (lies_prefix (own_lies celRow_len HP.out.r5))) (lies_img (HI.out.later HP.out.bel)) (lies_ops (lies_prefix (own_lies recCells_len HP.out.r6))) (lies_ops (HO.out.later HP.out.bel)) (by have := HOl.out; have := HC6.out; omega) (lies_bools (lies_prefix (own_lies lenT HP.out.r7))) (lies_bools (HK.out.later HP.out.bel)) (lies_img (HT.out.later HP.out.bel)) hcl hcr hct
  rw [HL.out, HOl.out, HKl.out, HTl.out] at hA
  unfold sceneV at hA
  have HA := Hid.mk' hA
  clear hA
  go_wp2_with (go_at_call 13; fail)
  clear a0 a1 a2 a3 a4 a5 y0 y1 o0 o1 o2 o3 o4 o5
  refine Calls.mono HA.out ?_
  rintro e X1 ⟨rfl, hb⟩
  have HP := Hid.mk' (HP.out.later hb)
  clear hb HA
  have hLH : (lentH l).length = L + 6 := by unfold lentH; rw [List.length_append, mks_len, HL.out]
  have hLO : (lentO ops).length = O + 6 := by unfold lentO; rw [List.length_append, mks_len, HOl.out]
  have hLT : (lentT keep).length = KL + 3 := by unfold lentT; rw [List.length_append, HKl.out]; rfl
  have hA := keptH_any l (some ⟨g5, 0, none⟩) p c5 cp X1 (by have := HL.out; omega) (own_lies celRow_len HP.out.r5) (HI.out.later HP.out.bel)
  rw [hLH, HL.out] at hA
  have HA := Hid.mk' hA
  clear hA
  obtain ⟨a0, a1, a2, a3, a4, a5⟩ := scene_cells HP.out.b2
  go_wp2_with (go_at_call 14; fail)
  clear a0 a1 a2 a3 a4 a5
  refine Calls.mono HA.out ?_
  rintro e X2 ⟨rfl, hb⟩
  have HP := Hid.mk' (HP.out.later hb)
  clear hb HA
  have hA := keptO_any ops (some ⟨g6, 0, none⟩) po c6 co X2 (by have := HOl.out; omega) (own_lies recCells_len HP.out.r6) (HO.out.later HP.out.bel)
  rw [hLO, HOl.out] at hA
  have HA := Hid.mk' hA
  clear hA
  obtain ⟨a0, a1, a2, a3, a4, a5⟩ := scene_cells HP.out.b2
  go_wp2_with (go_at_call 15; fail)
  clear a0 a1 a2 a3 a4 a5
  refine Calls.mono HA.out ?_
  rintro e X3 ⟨rfl, hb⟩
  have HP := Hid.mk' (HP.out.later hb)
  clear hb HA
  have hA := bools_any keep ka kc X3 (by have := HKl.out; omega) (HK.out.later HP.out.bel)
  rw [HKl.out] at hA
  have HA := Hid.mk' hA
  clear hA
  obtain ⟨a0, a1, a2, a3, a4, a5⟩ := scene_cells HP.out.b2
  go_wp2_with (go_at_call 12; fail)
  clear a0 a1 a2 a3 a4 a5
  refine Calls.mono HA.out ?_
  rintro e X4 ⟨v, rfl, hv, hb⟩
  obtain ⟨pv, cv, rfl, _⟩ := own_slice hv
  have HP := Hid.mk' (HP.out.later hb)
  have hA := sameBools_one (lentT keep) (some ⟨g7, 0, none⟩) pv c7 cv X4 (by rw [hLT]; omega) (own_lies lenT HP.out.r7) (own_lies lenT hv)
  rw [hLT] at hA
  have HA2 := Hid.mk' hA
  clear hA hv hb HA
  rw [hLT]
  go_wp2_with (go_at_call 16; fail)
  refine Calls.mono HA2.out ?_
  rintro e X5 ⟨rfl, hb⟩
  have HP : Hid (PC w g5 c5 g6 c6 g7 c7 g8 g9 (sceneV n p L cp po O co k ka KL kc q) #[.int .i64 m, .slice pt T ct] #[.int .i64 n, .slice (some ⟨g5, 0, none⟩) L c5] #[.int .i64 n, .slice (some ⟨g5, 0, none⟩) L c5, .slice (some ⟨g6, 0, none⟩) O c6, .int .i64 k, .slice (some ⟨g7, 0, none⟩) KL c7, .int .i64 q] (lentH l) (ovO q ops 0 ++ mks mk7O 6) (lentT keep) X5) := HP.out.later hb
  clear hb HA2
  have o1 := (scene_cells (n := n) (p := some ⟨g5, 0, none⟩) (a := L) (cp := c5) (po := some ⟨g6, 0, none⟩) (b := O) (co := c6) (k := k) (ka := some ⟨g7, 0, none⟩) (c := KL) (kc := c7) (q := q) HP.out.b9).2.2.1
  go_wp2
  clear o1
  go_loopw [10] (fun s10 wx => ∃ i : Nat, (i : Int) ≤ O ∧ s10 = .int .i64 i ∧ Hid (PC w g5 c5 g6 c6 g7 c7 g8 g9 (sceneV n p L cp po O co k ka KL kc q) #[.int .i64 m, .slice pt T ct] #[.int .i64 n, .slice (some ⟨g5, 0, none⟩) L c5] #[.int .i64 n, .slice (some ⟨g5, 0, none⟩) L c5, .slice (some ⟨g6, 0, none⟩) O c6, .int .i64 k, .slice (some ⟨g7, 0, none⟩) KL c7, .int .i64 q] (lentH l) (ovO q ops i ++ mks mk7O 6) (lentT keep) wx)) (fun s10 _ => O - (intOf s10).toNat)
  case atStart => exact ⟨0, by omega, rfl, HP.out⟩
  case round =>
    clear HP
    obtain ⟨i, hi, rfl, HP⟩ := hrel
    obtain ⟨o0, o1, o2, o3, o4, o5⟩ := scene_cells (n := n) (p := some ⟨g5, 0, none⟩) (a := L) (cp := c5) (po := some ⟨g6, 0, none⟩) (b := O) (co := c6) (k := k) (ka := some ⟨g7, 0, none⟩) (c := KL) (kc := c7) (q := q) HP.out.b9
    obtain ⟨a0, a1, a2, a3, a4, a5⟩ := scene_cells HP.out.b2
    by_cases hi2 : (i : Int) < O
    · have hil : i < (ovO q ops i).length := by rw [ovO_len]; have := HOl.out; omega
      have hr : (ovO q ops i)[i]? = some ((ovO q ops i)[i]'hil) := List.getElem?_eq_getElem hil
      generalize (ovO q ops i)[i]'hil = r at hr
      have hrE : (ovO q ops i ++ mks mk7O 6)[i]? = some r := by rw [List.getElem?_append_left hil]; exact hr
      have HN := Hid.mk' (ovO_at hr)
      have hpk := pick_any (IntKind.i64.wrap (q + (i : Int))) 3 (by omega)
      have f1 := HP.out.r6.frozenAt (i * 1026 + 1)
      have c1 := own_get recCells_len HP.out.r6 hrE 1 (.int .i64 r.pos) rfl
      have HrE := Hid.mk' hrE
      have HIl := Hid.mk' hil
      clear hr hrE hil
      go_upto_region 13 with fail
      refine wp_region_still_tail 10 (by kernel_rfl) (by kernel_rfl) ?_
      simp only [List.take_succ_cons, List.take_zero, List.drop_succ_cons, List.drop_zero]
      have HPd := Hid.mk' (HP.out.later (Below.drew (Below.refl _ wr)))
      change wpStill _ _ (World.drew wr) (fun a' => wpList _ _ _ _ a' (World.drew wr)) _ _
      replace o2 : (World.drew wr).cell? _ = _ := o2
      replace a5 : (World.drew wr).cell? _ = _ := a5
      replace c1 : (World.drew wr).cell? _ = _ := c1
      replace f1 : (World.drew wr).frozen? _ = _ := f1
      clear o0 o1 o3 o4 o5 a0 a1 a2 a3 a4 HP
      generalize World.drew wr = Y at *
      repeat (first | still_step | still_call (hpk _))
      refine wpStill_nil ?_
      refine wpList_st3 rfl (.tmp 102) (.tmp 100) rfl g6 (i * 1026 + 1) (IntKind.i64.wrap (q + (i : Int)) % 3) _ rfl rfl c1 f1 ?_
      simp only [Act.put]
      have HP2 := Hid.mk' (HPd.out.set6 (j := 1) HrE.out (by omega) (rec_pos r (IntKind.i64.wrap (q + (i : Int)) % 3)))
      clear HPd o2 a5 c1 f1 hpk
      generalize Y.setCell ⟨g6, i * 1026 + 1, none⟩ (.int .i64 (IntKind.i64.wrap (q + (i : Int)) % 3)) = Y2 at *
      have hrE2 : ((ovO q ops i ++ mks mk7O 6).set i ⟨r.kind, IntKind.i64.wrap (q + (i : Int)) % 3, r.dat⟩)[i]? = some ⟨r.kind, IntKind.i64.wrap (q + (i : Int)) % 3, r.dat⟩ := by rw [List.getElem?_set_self (by rw [List.length_append]; have := HIl.out; omega)]
      have f1 := HP2.out.r6.frozenAt (i * 1026 + 0)
      have c1 := own_get recCells_len HP2.out.r6 hrE2 0 (.int .u8 r.kind) rfl
      rw [Nat.add_zero] at f1 c1
      have HrE2 := Hid.mk' hrE2
      clear hrE2
      have o2 := (scene_cells (n := n) (p := some ⟨g5, 0, none⟩) (a := L) (cp := c5) (po := some ⟨g6, 0, none⟩) (b := O) (co := c6) (k := k) (ka := some ⟨g7, 0, none⟩) (c := KL) (kc := c7) (q := q) HP2.out.b9).2.2.1
      have hm1 : (i : Int).tmod 3 = (i : Int) % 3 := Int.tmod_eq_emod_of_nonneg (by omega)
      have hm2 : ((i : Int) % 3).tdiv 2 = (i : Int) % 3 / 2 := Int.tdiv_eq_ediv_of_nonneg (by omega)
      have hm3 : IntKind.i64.wrap ((i : Int) % 3 / 2) = (i : Int) % 3 / 2 := by rw [IntKind.wrap_i64]; omega
      have hm4 : IntKind.i64.wrap (1 + (i : Int) % 3 / 2) = 1 + (i : Int) % 3 / 2 := by rw [IntKind.wrap_i64]; omega
      have hm5 : IntKind.u8.wrap (1 + (i : Int) % 3 / 2) = 1 + (i : Int) % 3 / 2 := by rw [IntKind.wrap_u8]; omega
      go_wp2_with (with_reducible refine isStore 38 ?_; refine wpList_st38 rfl (.tmp 112) (.tmp 110) rfl g6 (i * 1026) (1 + (i : Int) % 3 / 2) _ rfl rfl c1 f1 ?_; refine Hid.out ?_)
      unfold Hid
      have HP3 := Hid.mk' (HP2.out.set6 (j := 0) (u := .int .u8 (1 + (i : Int) % 3 / 2)) HrE2.out (by omega) (rec_kind ⟨r.kind, IntKind.i64.wrap (q + (i : Int)) % 3, r.dat⟩ (1 + (i : Int) % 3 / 2)))
      rw [Nat.add_zero] at HP3
      clear HP2 o2 c1 f1 hm1 hm2 hm3 hm4 hm5
      generalize Y2.setCell ⟨g6, i * 1026, none⟩ (.int .u8 (1 + (i : Int) % 3 / 2)) = Y3 at *
      go_wp2
      refine ⟨⟨i + 1, by omega, by go_num, ?_⟩, by simp [intOf]; omega⟩
      have e : ovO q ops (i + 1) ++ mks mk7O 6 = ((ovO q ops i ++ mks mk7O 6).set i ⟨r.kind, IntKind.i64.wrap (q + (i : Int)) % 3, r.dat⟩).set i ⟨1 + (i : Int) % 3 / 2, IntKind.i64.wrap (q + (i : Int)) % 3, r.dat⟩ := by
        rw [HN.out, List.set_set, List.set_append_left _ _ HIl.out]
        rfl
      rw [e]
      exact HP3.out
    · obtain rfl : O = i := by omega
      have HP2 : Hid (PC w g5 c5 g6 c6 g7 c7 g8 g9 (sceneV n p L cp po O co k ka KL kc q) #[.int .i64 m, .slice pt T ct] #[.int .i64 n, .slice (some ⟨g5, 0, none⟩) L c5] #[.int .i64 n, .slice (some ⟨g5, 0, none⟩) L c5, .slice (some ⟨g6, 0, none⟩) O c6, .int .i64 k, .slice (some ⟨g7, 0, none⟩) KL c7, .int .i64 q] (lentH l) (ovO q ops O ++ mks mk7O 6) (ovT keep 0 ++ [true, false, true]) wr) := HP.out
      clear HP a0 a1 a2 a3 a4 a5
      go_wp2
      clear o0 o1 o2 o3 o4 o5
      go_loopw [11] (fun s11 wx => ∃ i : Nat, (i : Int) ≤ KL ∧ s11 = .int .i64 i ∧ Hid (PC w g5 c5 g6 c6 g7 c7 g8 g9 (sceneV n p L cp po O co k ka KL kc q) #[.int .i64 m, .slice pt T ct] #[.int .i64 n, .slice (some ⟨g5, 0, none⟩) L c5] #[.int .i64 n, .slice (some ⟨g5, 0, none⟩) L c5, .slice (some ⟨g6, 0, none⟩) O c6, .int .i64 k, .slice (some ⟨g7, 0, none⟩) KL c7, .int .i64 q] (lentH l) (ovO q ops O ++ mks mk7O 6) (ovT keep i ++ [true, false, true]) wx)) (fun s11 _ => KL - (intOf s11).toNat)
      case atStart => exact ⟨0, by omega, rfl, HP2.out⟩
      case round =>
        clear HP2
        obtain ⟨i, hi, rfl, HP⟩ := hrel
        obtain ⟨o0, o1, o2, o3, o4, o5⟩ := scene_cells (n := n) (p := some ⟨g5, 0, none⟩) (a := L) (cp := c5) (po := some ⟨g6, 0, none⟩) (b := O) (co := c6) (k := k) (ka := some ⟨g7, 0, none⟩) (c := KL) (kc := c7) (q := q) HP.out.b9
        by_cases hi2 : (i : Int) < KL
        · have hil : i < (ovT keep i).length := by rw [ovT_len]; have := HKl.out; omega
          have hr : (ovT keep i)[i]? = some ((ovT keep i)[i]'hil) := List.getElem?_eq_getElem hil
          generalize (ovT keep i)[i]'hil = r at hr
          have hrE : (ovT keep i ++ [true, false, true])[i]? = some r := by rw [List.getElem?_append_left hil]; exact hr
          have HN := Hid.mk' (ovT_at hr)
          have f1 := HP.out.r7.frozenAt i
          have c1 := own_get lenT HP.out.r7 hrE 0 (.bool r) rfl
          rw [Nat.mul_one, Nat.add_zero] at c1
          have HrE := Hid.mk' hrE
          have HIl := Hid.mk' hil
          clear hr hrE hil
          go_upto_region 18 with fail
          refine wp_region_still_tail 10 (by kernel_rfl) (by kernel_rfl) ?_
          simp only [List.take_succ_cons, List.take_zero, List.drop_succ_cons, List.drop_zero]
          have HPd := Hid.mk' (HP.out.later (Below.drew (Below.refl _ wr)))
          change wpStill _ _ (World.drew wr) (fun a' => wpList _ _ _ _ a' (World.drew wr)) _ _
          replace o4 : (World.drew wr).cell? _ = _ := o4
          replace c1 : (World.drew wr).cell? _ = _ := c1
          replace f1 : (World.drew wr).frozen? _ = _ := f1
          clear o0 o1 o2 o3 o5 HP
          generalize World.drew wr = Y at *
          repeat still_step
          refine wpStill_nil ?_
          refine wpList_st4 rfl (.tmp 129) (.tmp 128) rfl g7 i (!r) _ rfl rfl c1 f1 ?_
          simp only [Act.put]
          have HP2 := Hid.mk' (HPd.out.set7 (!r) HrE.out)
          clear HPd o4 c1 f1
          generalize Y.setCell ⟨g7, i, none⟩ (.bool (!r)) = Y2 at *
          go_wp2
          refine ⟨⟨i + 1, by omega, by go_num, ?_⟩, by simp [intOf]; omega⟩
          have e : ovT keep (i + 1) ++ [true, false, true] = (ovT keep i ++ [true, false, true]).set i (!r) := by rw [HN.out, List.set_append_left _ _ HIl.out]
          rw [e]
          exact HP2.out
        · obtain rfl : KL = i := by omega
          have HP2 : Hid (PC w g5 c5 g6 c6 g7 c7 g8 g9 (sceneV n p L cp po O co k ka KL kc q) #[.int .i64 m, .slice pt T ct] #[.int .i64 n, .slice (some ⟨g5, 0, none⟩) L c5] #[.int .i64 n, .slice (some ⟨g5, 0, none⟩) L c5, .slice (some ⟨g6, 0, none⟩) O c6, .int .i64 k, .slice (some ⟨g7, 0, none⟩) KL c7, .int .i64 q] (ovH l 0 ++ mks mk7H 6) (ovO q ops O ++ mks mk7O 6) (ovT keep KL ++ [true, false, true]) wr) := HP.out
          clear HP
          go_wp2
          clear o0 o1 o2 o3 o4 o5
          go_loopw [12] (fun s12 wx => ∃ i : Nat, (i : Int) ≤ L ∧ s12 = .int .i64 i ∧ Hid (PC w g5 c5 g6 c6 g7 c7 g8 g9 (sceneV n p L cp po O co k ka KL kc q) #[.int .i64 m, .slice pt T ct] #[.int .i64 n, .slice (some ⟨g5, 0, none⟩) L c5] #[.int .i64 n, .slice (some ⟨g5, 0, none⟩) L c5, .slice (some ⟨g6, 0, none⟩) O c6, .int .i64 k, .slice (some ⟨g7, 0, none⟩) KL c7, .int .i64 q] (ovH l i ++ mks mk7H 6) (ovO q ops O ++ mks mk7O 6) (ovT keep KL ++ [true, false, true]) wx)) (fun s12 _ => L - (intOf s12).toNat)
          case atStart => exact ⟨0, by omega, rfl, HP2.out⟩
          case round =>
            clear HP2
            obtain ⟨i, hi, rfl, HP⟩ := hrel
            obtain ⟨o0, o1, o2, o3, o4, o5⟩ := scene_cells (n := n) (p := some ⟨g5, 0, none⟩) (a := L) (cp := c5) (po := some ⟨g6, 0, none⟩) (b := O) (co := c6) (k := k) (ka := some ⟨g7, 0, none⟩) (c := KL) (kc := c7) (q := q) HP.out.b9
            by_cases hi2 : (i : Int) < L
            · have hil : i < (ovH l i).length := by rw [ovH_len]; have := HL.out; omega
              have hr : (ovH l i)[i]? = some ((ovH l i)[i]'hil) := List.getElem?_eq_getElem hil
              have hcan := ovH_can hcl i ((ovH l i)[i]'hil) (List.getElem_mem _)
              generalize (ovH l i)[i]'hil = r at hr hcan
              have hv7 := hcan.1 7
              have hrE : (ovH l i ++ mks mk7H 6)[i]? = some r := by rw [List.getElem?_append_left hil]; exact hr
              have HN := Hid.mk' (ovH_at hr)
              have f1 := HP.out.r5.frozenAt (i * 1025 + 8)
              have c1 := own_get celRow_len HP.out.r5 hrE 8 (.int .u8 (r.2 7)) (by unfold celRow; rw [List.getElem?_cons_succ]; exact blk_get7 r.2)
              have HrE := Hid.mk' hrE
              have HIl := Hid.mk' hil
              clear hr hrE hil hcan
              have hw8 : IntKind.u8.wrap (r.2 7 + 1) = (r.2 7 + 1) % 256 := by rw [IntKind.wrap_u8]
              go_upto_region 22 with fail
              refine wp_region_still_tail 12 (by kernel_rfl) (by kernel_rfl) ?_
              simp only [List.take_succ_cons, List.take_zero, List.drop_succ_cons, List.drop_zero]
              have HPd := Hid.mk' (HP.out.later (Below.drew (Below.refl _ wr)))
              change wpStill _ _ (World.drew wr) (fun a' => wpList _ _ _ _ a' (World.drew wr)) _ _
              replace o1 : (World.drew wr).cell? _ = _ := o1
              replace c1 : (World.drew wr).cell? _ = _ := c1
              replace f1 : (World.drew wr).frozen? _ = _ := f1
              clear o0 o2 o3 o4 o5 HP
              generalize World.drew wr = Y at *
              have HS7 := Hid.mk' (cel_seven r)
              generalize r.2 7 = v7 at *
              repeat still_step
              refine wpStill_nil ?_
              refine wpList_st5 rfl (.tmp 149) (.tmp 146) rfl g5 (i * 1025 + 8) ((v7 + 1) % 256) _ rfl rfl c1 f1 ?_
              simp only [Act.put]
              have HP2 := Hid.mk' (HPd.out.set5 (j := 8) HrE.out (by omega) HS7.out)
              clear HPd o1 c1 f1
              generalize Y.setCell ⟨g5, i * 1025 + 8, none⟩ (.int .u8 ((v7 + 1) % 256)) = Y2 at *
              go_wp2
              refine ⟨⟨i + 1, by omega, by go_num, ?_⟩, by simp [intOf]; omega⟩
              have e : ovH l (i + 1) ++ mks mk7H 6 = (ovH l i ++ mks mk7H 6).set i (newC r) := by rw [HN.out, List.set_append_left _ _ HIl.out]
              rw [e]
              exact HP2.out
            · obtain rfl : L = i := by omega
              have HPd : Hid (PC w g5 c5 g6 c6 g7 c7 g8 g9 (sceneV n p L cp po O co k ka KL kc q) #[.int .i64 m, .slice pt T ct] #[.int .i64 n, .slice (some ⟨g5, 0, none⟩) L c5] #[.int .i64 n, .slice (some ⟨g5, 0, none⟩) L c5, .slice (some ⟨g6, 0, none⟩) O c6, .int .i64 k, .slice (some ⟨g7, 0, none⟩) KL c7, .int .i64 q] (ovH l L ++ mks mk7H 6) (ovO q ops O ++ mks mk7O 6) (ovT keep KL ++ [true, false, true]) wr.drew) := HP.out.later (Below.drew (Below.refl _ wr))
              have lH : (ovH l L).length = L := by rw [ovH_len]; exact HL.out
              have lO : (ovO q ops O).length = O := by rw [ovO_len]; exact HOl.out
              have lT : (ovT keep KL).length = KL := by rw [ovT_len]; exact HKl.out
              have HcH := Hid.mk' (fun (W : World) (h : LiesE celRow 1025 W (some ⟨g5, 0, none⟩) (ovH l L)) => copyH_any (ovH l L) (some ⟨g5, 0, none⟩) c5 W (by omega) h)
              have HcO := Hid.mk' (fun (W : World) (h : LiesE recCells 1026 W (some ⟨g6, 0, none⟩) (ovO q ops O)) => copyO_any (ovO q ops O) (some ⟨g6, 0, none⟩) c6 W (by omega) h)
              rw [lH] at HcH
              rw [lO] at HcO
              have HlH := Hid.mk' lH
              have HlO := Hid.mk' lO
              have HlT := Hid.mk' lT
              clear lH lO lT
              have HCH := Hid.mk' (ovH_can hcl L)
              have HCO := Hid.mk' (ovO_can (q := q) hcr O)
              go_upto_region 23 with fail
              clear o0 o1 o2 o3 o4 o5 HP
              refine wp_region_tree (S := fun u => u.heap[g9]? = some (.cells #[.int .i64 n, .slice (some ⟨g5, 0, none⟩) L c5, .slice (some ⟨g6, 0, none⟩) O c6, .int .i64 k, .slice (some ⟨g7, 0, none⟩) KL c7, .int .i64 q] 28) ∧ u.heap[g8]? = some (.cells #[.int .i64 n, .slice (some ⟨g5, 0, none⟩) L c5] 24) ∧ u.heap[w.heap.size]? = some (.cells (sceneV n p L cp po O co k ka KL kc q) 28))
                (rdT 0 (rdT 1 (rdT 2 (rdT 3 (rdT 4 (rdT 7 (rdT 8 (rdT 10 (rdT 11 (rdT 12 (rdT 13 (altT [(5, rdT 6 (altT [(9, rdT 14 (altT [(15, altT [(16, finT)])])), (15, altT [(9, rdT 14 (altT [(16, finT)]))])])), (15, altT [(5, rdT 6 (altT [(9, rdT 14 (altT [(16, finT)]))]))])]))))))))))))
                (by kernel_rfl) rfl (by kernel_rfl) (fun d _ _ _ _ h => by cases d <;> exact h) ⟨HPd.out.b9, HPd.out.b8, HPd.out.b2⟩ ?_
              generalize World.drew wr = Y at *
              generalize ovH l L = lh at *
              generalize ovO q ops O = lo at *
              generalize ovT keep KL = lt at *
              refine wpT_yield (v := .pointer (some ⟨g8, 0, none⟩)) rfl rfl (fun u hu => by go_simp) ?_
              simp only [Act.put, List.setIfInBounds_toArray, List.set_cons_succ, List.set_cons_zero]
              refine wpT_yield (v := .int .i64 n) rfl rfl (fun u hu => by have h9 := Joins.cell_of_block hu.2.1 0; go_simp) ?_
              simp only [Act.put, List.setIfInBounds_toArray, List.set_cons_succ, List.set_cons_zero]
              refine wpT_yield (v := .pointer (some ⟨g9, 0, none⟩)) rfl rfl (fun u hu => by go_simp) ?_
              simp only [Act.put, List.setIfInBounds_toArray, List.set_cons_succ, List.set_cons_zero]
              refine wpT_yield (v := .pointer (some ⟨g9, 1, none⟩)) rfl rfl (fun u hu => by go_simp) ?_
              simp only [Act.put, List.setIfInBounds_toArray, List.set_cons_succ, List.set_cons_zero]
              refine wpT_yield (v := .slice (some ⟨g5, 0, none⟩) L c5) rfl rfl (fun u hu => by have h9 := Joins.cell_of_block hu.1 1; go_simp) ?_
              simp only [Act.put, List.setIfInBounds_toArray, List.set_cons_succ, List.set_cons_zero]
              refine wpT_yield (v := .pointer (some ⟨g9, 2, none⟩)) rfl rfl (fun u hu => by go_simp) ?_
              simp only [Act.put, List.setIfInBounds_toArray, List.set_cons_succ, List.set_cons_zero]
              refine wpT_yield (v := .slice (some ⟨g6, 0, none⟩) O c6) rfl rfl (fun u hu => by have h9 := Joins.cell_of_block hu.1 2; go_simp) ?_
              simp only [Act.put, List.setIfInBounds_toArray, List.set_cons_succ, List.set_cons_zero]
              refine wpT_yield (v := .pointer (some ⟨w.heap.size, 3, none⟩)) rfl rfl (fun u hu => by go_simp) ?_
              simp only [Act.put, List.setIfInBounds_toArray, List.set_cons_succ, List.set_cons_zero]
              refine wpT_yield (v := .int .i64 k) rfl rfl (fun u hu => by have h9 := Joins.cell_of_block hu.2.2 3; unfold sceneV at h9; go_simp) ?_
              simp only [Act.put, List.setIfInBounds_toArray, List.set_cons_succ, List.set_cons_zero]
              refine wpT_yield (v := .pointer (some ⟨w.heap.size, 5, none⟩)) rfl rfl (fun u hu => by go_simp) ?_
              simp only [Act.put, List.setIfInBounds_toArray, List.set_cons_succ, List.set_cons_zero]
              refine wpT_yield (v := .int .i64 q) rfl rfl (fun u hu => by have h9 := Joins.cell_of_block hu.2.2 5; unfold sceneV at h9; go_simp) ?_
              simp only [Act.put, List.setIfInBounds_toArray, List.set_cons_succ, List.set_cons_zero]
              refine wpT_call rfl rfl 18 _ _ rfl Try.call18 [.slice (some ⟨g5, 0, none⟩) L c5] rfl ?_ ?_
              · refine Calls.mono (HcH.out _ (lies_prefix (own_lies celRow_len HPd.out.r5))) ?_
                rintro e' X1 ⟨v, rfl, hv, hb⟩
                obtain ⟨pv, cv, rfl, _⟩ := own_slice hv
                have HV1 := Hid.mk' (World.ownsRow.mono hv HPd.out.bel.size)
                have HPX1 := Hid.mk' (HPd.out.later hb)
                clear hv hb
                refine ⟨_, rfl, ⟨HPX1.out.b9, HPX1.out.b8, HPX1.out.b2⟩, ?_⟩
                simp only [Act.put, List.setIfInBounds_toArray, List.set_cons_succ, List.set_cons_zero]
                refine wpT_yield (v := .agg #[.int .i64 n, .slice pv L cv]) rfl rfl (fun u hu => by go_simp) ?_
                simp only [Act.put, List.setIfInBounds_toArray, List.set_cons_succ, List.set_cons_zero]
                refine wpT_call rfl rfl 19 _ _ rfl Try.call19 [.slice (some ⟨g6, 0, none⟩) O c6] rfl ?_ ?_
                · refine Calls.mono (HcO.out _ (lies_prefix (own_lies recCells_len HPX1.out.r6))) ?_
                  rintro e' X2 ⟨v, rfl, hv, hb⟩
                  obtain ⟨pu, cu, rfl, _⟩ := own_slice hv
                  have HV2 := Hid.mk' (World.ownsRow.mono hv HPX1.out.bel.size)
                  have HPX2 := Hid.mk' (HPX1.out.later hb)
                  have HV1 := Hid.mk' (own_later HV1.out hb)
                  clear hv hb
                  refine ⟨_, rfl, ⟨HPX2.out.b9, HPX2.out.b8, HPX2.out.b2⟩, ?_⟩
                  simp only [Act.put, List.setIfInBounds_toArray, List.set_cons_succ, List.set_cons_zero]
                  refine wpT_yield (v := .agg #[.int .i64 n, .slice pv L cv, .slice pu O cu, .int .i64 k, .slice none 0 0, .int .i64 q]) rfl rfl (fun u hu => by go_simp) ?_
                  simp only [Act.put, List.setIfInBounds_toArray, List.set_cons_succ, List.set_cons_zero]
                  refine wpT_make (v := .pointer (some ⟨X2.heap.size, 0, none⟩)) (w' := X2.alloc (.cells #[.int .i64 0, .slice none 0 0, .slice none 0 0, .int .i64 0, .slice none 0 0, .int .i64 0] 28)) rfl rfl (by go_simp) ⟨heap_kept HPX2.out.b9 (below_new _ _), heap_kept HPX2.out.b8 (below_new _ _), heap_kept HPX2.out.b2 (below_new _ _)⟩ ?_ ?_
                  · simp only [Act.put, List.setIfInBounds_toArray, List.set_cons_succ, List.set_cons_zero]
                    have HPX3 := Hid.mk' (HPX2.out.later (below_new X2 (.cells #[.int .i64 0, .slice none 0 0, .slice none 0 0, .int .i64 0, .slice none 0 0, .int .i64 0] 28)))
                    have H13 := Hid.mk' (heap_alloc_new X2 (.cells #[.int .i64 0, .slice none 0 0, .slice none 0 0, .int .i64 0, .slice none 0 0, .int .i64 0] 28))
                    have HV1 := Hid.mk' (own_later HV1.out (below_new X2 (.cells #[.int .i64 0, .slice none 0 0, .slice none 0 0, .int .i64 0, .slice none 0 0, .int .i64 0] 28)))
                    have HV2 := Hid.mk' (own_later HV2.out (below_new X2 (.cells #[.int .i64 0, .slice none 0 0, .slice none 0 0, .int .i64 0, .slice none 0 0, .int .i64 0] 28)))
                    have h13 : X2.heap.size ≠ w.heap.size ∧ X2.heap.size ≠ g9 ∧ w.heap.size ≤ X2.heap.size := by
                      have h1 := (Array.getElem?_eq_some_iff.1 HPX2.out.b2).1
                      have h2 := (Array.getElem?_eq_some_iff.1 HPX2.out.b9).1
                      omega
                    obtain ⟨g13, hg13⟩ : ∃ g, X2.heap.size = g := ⟨_, rfl⟩
                    rw [hg13] at H13 h13 ⊢
                    generalize X2.alloc (.cells #[.int .i64 0, .slice none 0 0, .slice none 0 0, .int .i64 0, .slice none 0 0, .int .i64 0] 28) = X3 at *
                    clear hg13
                    have HST := Hid.mk' (store_now (R := #[.int .i64 n, .slice pv L cv, .slice pu O cu, .int .i64 k, .slice none 0 0, .int .i64 q]) H13.out rfl rfl (by simp [Value.oneCell']))
                    have HPz := Hid.mk' (HPX3.out.setBox28 (R := #[.int .i64 n, .slice pv L cv, .slice pu O cu, .int .i64 k, .slice none 0 0, .int .i64 q]) H13.out h13.1 h13.2.1 h13.2.2)
                    have HV1 := Hid.mk' (own_other HV1.out (own_ne HV1.out H13.out (by decide)) #[.int .i64 n, .slice pv L cv, .slice pu O cu, .int .i64 k, .slice none 0 0, .int .i64 q])
                    have HV2 := Hid.mk' (own_other HV2.out (own_ne HV2.out H13.out (by decide)) #[.int .i64 n, .slice pv L cv, .slice pu O cu, .int .i64 k, .slice none 0 0, .int .i64 q])
                    have H13n : Hid ((X3.setRow g13 #[.int .i64 n, .slice pv L cv, .slice pu O cu, .int .i64 k, .slice none 0 0, .int .i64 q]).heap[g13]? = some (.cells #[.int .i64 n, .slice pv L cv, .slice pu O cu, .int .i64 k, .slice none 0 0, .int .i64 q] 28)) := setRow_heap _ _ _ _ _ _ H13.out
                    refine wpT_do (w' := X3.setRow g13 #[.int .i64 n, .slice pv L cv, .slice pu O cu, .int .i64 k, .slice none 0 0, .int .i64 q]) rfl rfl (exec_st28 rfl rfl rfl HST.out) ⟨HPz.out.b9, HPz.out.b8, HPz.out.b2⟩ ?_ wpT_stop
                    simp only [Act.put]
                    refine wpT_fin ?_
                    clear HST H13
                    generalize X3.setRow g13 #[.int .i64 n, .slice pv L cv, .slice pu O cu, .int .i64 k, .slice none 0 0, .int .i64 q] = Z at *
                    have n4 := Joins.cell_of_block H13n.out 4
                    have o4 := (scene_cells (n := n) (p := some ⟨g5, 0, none⟩) (a := L) (cp := c5) (po := some ⟨g6, 0, none⟩) (b := O) (co := c6) (k := k) (ka := some ⟨g7, 0, none⟩) (c := KL) (kc := c7) (q := q) HPz.out.b9).2.2.2.2.1
                    obtain ⟨v3, Z2, hr3, hv3, hb3⟩ := append_copy (st := 26) (c := c7) lenT oneT Try.underlying26 HI4.out.1 HI4.out.2.1 HI4.out.2.2.1 HI4.out.2.2.2 rfl (by omega) (by omega) (lies_prefix (own_lies lenT HPz.out.r7)) (by rw [HlT.out]; omega) 26
                    rw [HlT.out] at hr3
                    obtain ⟨pw, cw, rfl, _⟩ := own_slice hv3
                    rw [HlT.out] at hr3
                    have HV3 := Hid.mk' (World.ownsRow.mono hv3 HPz.out.bel.size)
                    have HR3 := Hid.mk' hr3
                    have HV1 := Hid.mk' (own_later HV1.out hb3)
                    have HV2 := Hid.mk' (own_later HV2.out hb3)
                    have H13n := Hid.mk' (heap_kept H13n.out hb3)
                    have HPz := Hid.mk' (HPz.out.later hb3)
                    have c4 := Joins.cell_of_block H13n.out 4
                    have f4 : Z2.frozen? ⟨g13, 4, none⟩ = false := Joins.unfrozen_of_block H13n.out _
                    clear hr3 hv3 hb3
                    go_upto_region 24 with fail
                    go_upto_region 25 with (first | (at_builtin; refine wpList_exec rfl (exec_pushY rfl rfl rfl HR3.out) ?_))
                    clear n4 o4 c4 f4 HR3
                    have HPq := Hid.mk' (HPz.out.setCell28 (j := 4) (u := .slice pw KL cw) H13n.out h13.1 h13.2.1 h13.2.2)
                    have HV1 := Hid.mk' (ownsRow_setCell_other HV1.out (a := ⟨g13, 4, none⟩) (own_ne HV1.out H13n.out (by decide)) (.slice pw KL cw))
                    have HV2 := Hid.mk' (ownsRow_setCell_other HV2.out (a := ⟨g13, 4, none⟩) (own_ne HV2.out H13n.out (by decide)) (.slice pw KL cw))
                    have HV3 := Hid.mk' (ownsRow_setCell_other HV3.out (a := ⟨g13, 4, none⟩) (own_ne HV3.out H13n.out (by decide)) (.slice pw KL cw))
                    have H13q : Hid ((Z2.setCell ⟨g13, 4, none⟩ (.slice pw KL cw)).heap[g13]? = some (.cells (sceneV n pv L cv pu O cu k pw KL cw q) 28)) := heap_setCell_same Z2 g13 4 _ 28 _ H13n.out
                    clear HPz H13n h13
                    generalize Z2.setCell ⟨g13, 4, none⟩ (.slice pw KL cw) = Z3 at *
                    obtain ⟨n0, n1, n2, n3, n4, n5⟩ := scene_cells H13q.out
                    obtain ⟨o0, o1, o2, o3, o4, o5⟩ := scene_cells (n := n) (p := some ⟨g5, 0, none⟩) (a := L) (cp := c5) (po := some ⟨g6, 0, none⟩) (b := O) (co := c6) (k := k) (ka := some ⟨g7, 0, none⟩) (c := KL) (kc := c7) (q := q) HPq.out.b9
                    have y0 := Joins.cell_of_block HPq.out.b3 0
                    have y1 := Joins.cell_of_block HPq.out.b3 1
                    have e1 := HV1.out
                    rw [← HlH.out] at e1
                    have e2 := HV2.out
                    rw [← HlO.out] at e2
                    have e3 := HV3.out
                    have i1 := lies_img (own_lies celRow_len e1)
                    have i2 := lies_ops (own_lies recCells_len e2)
                    have i3 : BoolsAt Z3 (.slice pw lt.length cw) lt := lies_bools (own_lies lenT e3)
                    clear e1 e2 e3
                    have hA := asked_any n k q m lh t lo lt (some ⟨g5, 0, none⟩) (some ⟨g6, 0, none⟩) (some ⟨g7, 0, none⟩) pv pu pw pt c5 c6 c7 cv cu cw ct Z3 (by rw [HlH.out]; omega) (by rw [HlO.out]; omega) (by rw [HlT.out]; omega) (by have := HTl.out; omega)
                      (lies_img (lies_prefix (own_lies celRow_len HPq.out.r5))) i1 (lies_ops (lies_prefix (own_lies recCells_len HPq.out.r6))) i2 (by rw [HlO.out]; exact HC6.out) (lies_bools (lies_prefix (own_lies lenT HPq.out.r7))) i3 (lies_img (HT.out.later HPq.out.bel)) HCH.out HCO.out hct
                    rw [HlH.out, HlO.out, HlT.out, HTl.out] at hA
                    unfold sceneV at hA
                    have HA := Hid.mk' hA
                    clear hA i1 i2 i3
                    go_wp2_with (go_at_call 13; fail)
                    refine Calls.mono HA.out ?_
                    rintro e'' ZZ ⟨rfl, hb⟩
                    have HE := Hid.mk' (below_next HPq.out.bel hb)
                    clear hb n0 n1 n2 n3 n4 n5 o0 o1 o2 o3 o4 o5 y0 y1
                    go_wp2
                    go_ret
                    exact ⟨rfl, HE.out⟩
                  · exact wpT_stop
                refine wpT_make (v := .pointer (some ⟨X1.heap.size, 0, none⟩)) (w' := X1.alloc (.cells #[.int .i64 0, .slice none 0 0, .slice none 0 0, .int .i64 0, .slice none 0 0, .int .i64 0] 28)) rfl rfl (by go_simp) ⟨heap_kept HPX1.out.b9 (below_new _ _), heap_kept HPX1.out.b8 (below_new _ _), heap_kept HPX1.out.b2 (below_new _ _)⟩ ?_ ?_
                · simp only [Act.put, List.setIfInBounds_toArray, List.set_cons_succ, List.set_cons_zero]
                  have HPX4 := Hid.mk' (HPX1.out.later (below_new X1 (.cells #[.int .i64 0, .slice none 0 0, .slice none 0 0, .int .i64 0, .slice none 0 0, .int .i64 0] 28)))
                  have H13 := Hid.mk' (heap_alloc_new X1 (.cells #[.int .i64 0, .slice none 0 0, .slice none 0 0, .int .i64 0, .slice none 0 0, .int .i64 0] 28))
                  have HV1 := Hid.mk' (own_later HV1.out (below_new X1 (.cells #[.int .i64 0, .slice none 0 0, .slice none 0 0, .int .i64 0, .slice none 0 0, .int .i64 0] 28)))
                  have h13 : X1.heap.size ≠ w.heap.size ∧ X1.heap.size ≠ g9 ∧ w.heap.size ≤ X1.heap.size := by
                    have h1 := (Array.getElem?_eq_some_iff.1 HPX1.out.b2).1
                    have h2 := (Array.getElem?_eq_some_iff.1 HPX1.out.b9).1
                    omega
                  obtain ⟨g13, hg13⟩ : ∃ g, X1.heap.size = g := ⟨_, rfl⟩
                  rw [hg13] at H13 h13 ⊢
                  generalize X1.alloc (.cells #[.int .i64 0, .slice none 0 0, .slice none 0 0, .int .i64 0, .slice none 0 0, .int .i64 0] 28) = X4 at *
                  clear hg13
                  refine wpT_call rfl rfl 19 _ _ rfl Try.call19 [.slice (some ⟨g6, 0, none⟩) O c6] rfl ?_ ?_
                  · refine Calls.mono (HcO.out _ (lies_prefix (own_lies recCells_len HPX4.out.r6))) ?_
                    rintro e' X5 ⟨v, rfl, hv, hb⟩
                    obtain ⟨pu, cu, rfl, _⟩ := own_slice hv
                    have HV2 := Hid.mk' (World.ownsRow.mono hv HPX4.out.bel.size)
                    have HPX5 := Hid.mk' (HPX4.out.later hb)
                    have HV1 := Hid.mk' (own_later HV1.out hb)
                    have H13 := Hid.mk' (heap_kept H13.out hb)
                    clear hv hb
                    refine ⟨_, rfl, ⟨HPX5.out.b9, HPX5.out.b8, HPX5.out.b2⟩, ?_⟩
                    simp only [Act.put, List.setIfInBounds_toArray, List.set_cons_succ, List.set_cons_zero]
                    refine wpT_yield (v := .agg #[.int .i64 n, .slice pv L cv, .slice pu O cu, .int .i64 k, .slice none 0 0, .int .i64 q]) rfl rfl (fun u hu => by go_simp) ?_
                    simp only [Act.put, List.setIfInBounds_toArray, List.set_cons_succ, List.set_cons_zero]
                    have HST := Hid.mk' (store_now (R := #[.int .i64 n, .slice pv L cv, .slice pu O cu, .int .i64 k, .slice none 0 0, .int .i64 q]) H13.out rfl rfl (by simp [Value.oneCell']))
                    have HPz := Hid.mk' (HPX5.out.setBox28 (R := #[.int .i64 n, .slice pv L cv, .slice pu O cu, .int .i64 k, .slice none 0 0, .int .i64 q]) H13.out h13.1 h13.2.1 h13.2.2)
                    have HV1 := Hid.mk' (own_other HV1.out (own_ne HV1.out H13.out (by decide)) #[.int .i64 n, .slice pv L cv, .slice pu O cu, .int .i64 k, .slice none 0 0, .int .i64 q])
                    have HV2 := Hid.mk' (own_other HV2.out (own_ne HV2.out H13.out (by decide)) #[.int .i64 n, .slice pv L cv, .slice pu O cu, .int .i64 k, .slice none 0 0, .int .i64 q])
                    have H13n : Hid ((X5.setRow g13 #[.int .i64 n, .slice pv L cv, .slice pu O cu, .int .i64 k, .slice none 0 0, .int .i64 q]).heap[g13]? = some (.cells #[.int .i64 n, .slice pv L cv, .slice pu O cu, .int .i64 k, .slice none 0 0, .int .i64 q] 28)) := setRow_heap _ _ _ _ _ _ H13.out
                    refine wpT_do (w' := X5.setRow g13 #[.int .i64 n, .slice pv L cv, .slice pu O cu, .int .i64 k, .slice none 0 0, .int .i64 q]) rfl rfl (exec_st28 rfl rfl rfl HST.out) ⟨HPz.out.b9, HPz.out.b8, HPz.out.b2⟩ ?_ wpT_stop
                    simp only [Act.put]
                    refine wpT_fin ?_
                    clear HST H13
                    generalize X5.setRow g13 #[.int .i64 n, .slice pv L cv, .slice pu O cu, .int .i64 k, .slice none 0 0, .int .i64 q] = Z at *
                    have n4 := Joins.cell_of_block H13n.out 4
                    have o4 := (scene_cells (n := n) (p := some ⟨g5, 0, none⟩) (a := L) (cp := c5) (po := some ⟨g6, 0, none⟩) (b := O) (co := c6) (k := k) (ka := some ⟨g7, 0, none⟩) (c := KL) (kc := c7) (q := q) HPz.out.b9).2.2.2.2.1
                    obtain ⟨v3, Z2, hr3, hv3, hb3⟩ := append_copy (st := 26) (c := c7) lenT oneT Try.underlying26 HI4.out.1 HI4.out.2.1 HI4.out.2.2.1 HI4.out.2.2.2 rfl (by omega) (by omega) (lies_prefix (own_lies lenT HPz.out.r7)) (by rw [HlT.out]; omega) 26
                    rw [HlT.out] at hr3
                    obtain ⟨pw, cw, rfl, _⟩ := own_slice hv3
                    rw [HlT.out] at hr3
                    have HV3 := Hid.mk' (World.ownsRow.mono hv3 HPz.out.bel.size)
                    have HR3 := Hid.mk' hr3
                    have HV1 := Hid.mk' (own_later HV1.out hb3)
                    have HV2 := Hid.mk' (own_later HV2.out hb3)
                    have H13n := Hid.mk' (heap_kept H13n.out hb3)
                    have HPz := Hid.mk' (HPz.out.later hb3)
                    have c4 := Joins.cell_of_block H13n.out 4
                    have f4 : Z2.frozen? ⟨g13, 4, none⟩ = false := Joins.unfrozen_of_block H13n.out _
                    clear hr3 hv3 hb3
                    go_upto_region 24 with fail
                    go_upto_region 25 with (first | (at_builtin; refine wpList_exec rfl (exec_pushY rfl rfl rfl HR3.out) ?_))
                    clear n4 o4 c4 f4 HR3
                    have HPq := Hid.mk' (HPz.out.setCell28 (j := 4) (u := .slice pw KL cw) H13n.out h13.1 h13.2.1 h13.2.2)
                    have HV1 := Hid.mk' (ownsRow_setCell_other HV1.out (a := ⟨g13, 4, none⟩) (own_ne HV1.out H13n.out (by decide)) (.slice pw KL cw))
                    have HV2 := Hid.mk' (ownsRow_setCell_other HV2.out (a := ⟨g13, 4, none⟩) (own_ne HV2.out H13n.out (by decide)) (.slice pw KL cw))
                    have HV3 := Hid.mk' (ownsRow_setCell_other HV3.out (a := ⟨g13, 4, none⟩) (own_ne HV3.out H13n.out (by decide)) (.slice pw KL cw))
                    have H13q : Hid ((Z2.setCell ⟨g13, 4, none⟩ (.slice pw KL cw)).heap[g13]? = some (.cells (sceneV n pv L cv pu O cu k pw KL cw q) 28)) := heap_setCell_same Z2 g13 4 _ 28 _ H13n.out
                    clear HPz H13n h13
                    generalize Z2.setCell ⟨g13, 4, none⟩ (.slice pw KL cw) = Z3 at *
                    obtain ⟨n0, n1, n2, n3, n4, n5⟩ := scene_cells H13q.out
                    obtain ⟨o0, o1, o2, o3, o4, o5⟩ := scene_cells (n := n) (p := some ⟨g5, 0, none⟩) (a := L) (cp := c5) (po := some ⟨g6, 0, none⟩) (b := O) (co := c6) (k := k) (ka := some ⟨g7, 0, none⟩) (c := KL) (kc := c7) (q := q) HPq.out.b9
                    have y0 := Joins.cell_of_block HPq.out.b3 0
                    have y1 := Joins.cell_of_block HPq.out.b3 1
                    have e1 := HV1.out
                    rw [← HlH.out] at e1
                    have e2 := HV2.out
                    rw [← HlO.out] at e2
                    have e3 := HV3.out
                    have i1 := lies_img (own_lies celRow_len e1)
                    have i2 := lies_ops (own_lies recCells_len e2)
                    have i3 : BoolsAt Z3 (.slice pw lt.length cw) lt := lies_bools (own_lies lenT e3)
                    clear e1 e2 e3
                    have hA := asked_any n k q m lh t lo lt (some ⟨g5, 0, none⟩) (some ⟨g6, 0, none⟩) (some ⟨g7, 0, none⟩) pv pu pw pt c5 c6 c7 cv cu cw ct Z3 (by rw [HlH.out]; omega) (by rw [HlO.out]; omega) (by rw [HlT.out]; omega) (by have := HTl.out; omega)
                      (lies_img (lies_prefix (own_lies celRow_len HPq.out.r5))) i1 (lies_ops (lies_prefix (own_lies recCells_len HPq.out.r6))) i2 (by rw [HlO.out]; exact HC6.out) (lies_bools (lies_prefix (own_lies lenT HPq.out.r7))) i3 (lies_img (HT.out.later HPq.out.bel)) HCH.out HCO.out hct
                    rw [HlH.out, HlO.out, HlT.out, HTl.out] at hA
                    unfold sceneV at hA
                    have HA := Hid.mk' hA
                    clear hA i1 i2 i3
                    go_wp2_with (go_at_call 13; fail)
                    refine Calls.mono HA.out ?_
                    rintro e'' ZZ ⟨rfl, hb⟩
                    have HE := Hid.mk' (below_next HPq.out.bel hb)
                    clear hb n0 n1 n2 n3 n4 n5 o0 o1 o2 o3 o4 o5 y0 y1
                    go_wp2
                    go_ret
                    exact ⟨rfl, HE.out⟩
                  · exact wpT_stop
                · exact wpT_stop
              refine wpT_make (v := .pointer (some ⟨Y.heap.size, 0, none⟩)) (w' := Y.alloc (.cells #[.int .i64 0, .slice none 0 0, .slice none 0 0, .int .i64 0, .slice none 0 0, .int .i64 0] 28)) rfl rfl (by go_simp) ⟨heap_kept HPd.out.b9 (below_new _ _), heap_kept HPd.out.b8 (below_new _ _), heap_kept HPd.out.b2 (below_new _ _)⟩ ?_ ?_
              · simp only [Act.put, List.setIfInBounds_toArray, List.set_cons_succ, List.set_cons_zero]
                have HPX6 := Hid.mk' (HPd.out.later (below_new Y (.cells #[.int .i64 0, .slice none 0 0, .slice none 0 0, .int .i64 0, .slice none 0 0, .int .i64 0] 28)))
                have H13 := Hid.mk' (heap_alloc_new Y (.cells #[.int .i64 0, .slice none 0 0, .slice none 0 0, .int .i64 0, .slice none 0 0, .int .i64 0] 28))
                have h13 : Y.heap.size ≠ w.heap.size ∧ Y.heap.size ≠ g9 ∧ w.heap.size ≤ Y.heap.size := by
                  have h1 := (Array.getElem?_eq_some_iff.1 HPd.out.b2).1
                  have h2 := (Array.getElem?_eq_some_iff.1 HPd.out.b9).1
                  omega
                obtain ⟨g13, hg13⟩ : ∃ g, Y.heap.size = g := ⟨_, rfl⟩
                rw [hg13] at H13 h13 ⊢
                generalize Y.alloc (.cells #[.int .i64 0, .slice none 0 0, .slice none 0 0, .int .i64 0, .slice none 0 0, .int .i64 0] 28) = X6 at *
                clear hg13
                refine wpT_call rfl rfl 18 _ _ rfl Try.call18 [.slice (some ⟨g5, 0, none⟩) L c5] rfl ?_ ?_
                · refine Calls.mono (HcH.out _ (lies_prefix (own_lies celRow_len HPX6.out.r5))) ?_
                  rintro e' X7 ⟨v, rfl, hv, hb⟩
                  obtain ⟨pv, cv, rfl, _⟩ := own_slice hv
                  have HV1 := Hid.mk' (World.ownsRow.mono hv HPX6.out.bel.size)
                  have HPX7 := Hid.mk' (HPX6.out.later hb)
                  have H13 := Hid.mk' (heap_kept H13.out hb)
                  clear hv hb
                  refine ⟨_, rfl, ⟨HPX7.out.b9, HPX7.out.b8, HPX7.out.b2⟩, ?_⟩
                  simp only [Act.put, List.setIfInBounds_toArray, List.set_cons_succ, List.set_cons_zero]
                  refine wpT_yield (v := .agg #[.int .i64 n, .slice pv L cv]) rfl rfl (fun u hu => by go_simp) ?_
                  simp only [Act.put, List.setIfInBounds_toArray, List.set_cons_succ, List.set_cons_zero]
                  refine wpT_call rfl rfl 19 _ _ rfl Try.call19 [.slice (some ⟨g6, 0, none⟩) O c6] rfl ?_ ?_
                  · refine Calls.mono (HcO.out _ (lies_prefix (own_lies recCells_len HPX7.out.r6))) ?_
                    rintro e' X8 ⟨v, rfl, hv, hb⟩
                    obtain ⟨pu, cu, rfl, _⟩ := own_slice hv
                    have HV2 := Hid.mk' (World.ownsRow.mono hv HPX7.out.bel.size)
                    have HPX8 := Hid.mk' (HPX7.out.later hb)
                    have HV1 := Hid.mk' (own_later HV1.out hb)
                    have H13 := Hid.mk' (heap_kept H13.out hb)
                    clear hv hb
                    refine ⟨_, rfl, ⟨HPX8.out.b9, HPX8.out.b8, HPX8.out.b2⟩, ?_⟩
                    simp only [Act.put, List.setIfInBounds_toArray, List.set_cons_succ, List.set_cons_zero]
                    refine wpT_yield (v := .agg #[.int .i64 n, .slice pv L cv, .slice pu O cu, .int .i64 k, .slice none 0 0, .int .i64 q]) rfl rfl (fun u hu => by go_simp) ?_
                    simp only [Act.put, List.setIfInBounds_toArray, List.set_cons_succ, List.set_cons_zero]
                    have HST := Hid.mk' (store_now (R := #[.int .i64 n, .slice pv L cv, .slice pu O cu, .int .i64 k, .slice none 0 0, .int .i64 q]) H13.out rfl rfl (by simp [Value.oneCell']))
                    have HPz := Hid.mk' (HPX8.out.setBox28 (R := #[.int .i64 n, .slice pv L cv, .slice pu O cu, .int .i64 k, .slice none 0 0, .int .i64 q]) H13.out h13.1 h13.2.1 h13.2.2)
                    have HV1 := Hid.mk' (own_other HV1.out (own_ne HV1.out H13.out (by decide)) #[.int .i64 n, .slice pv L cv, .slice pu O cu, .int .i64 k, .slice none 0 0, .int .i64 q])
                    have HV2 := Hid.mk' (own_other HV2.out (own_ne HV2.out H13.out (by decide)) #[.int .i64 n, .slice pv L cv, .slice pu O cu, .int .i64 k, .slice none 0 0, .int .i64 q])
                    have H13n : Hid ((X8.setRow g13 #[.int .i64 n, .slice pv L cv, .slice pu O cu, .int .i64 k, .slice none 0 0, .int .i64 q]).heap[g13]? = some (.cells #[.int .i64 n, .slice pv L cv, .slice pu O cu, .int .i64 k, .slice none 0 0, .int .i64 q] 28)) := setRow_heap _ _ _ _ _ _ H13.out
                    refine wpT_do (w' := X8.setRow g13 #[.int .i64 n, .slice pv L cv, .slice pu O cu, .int .i64 k, .slice none 0 0, .int .i64 q]) rfl rfl (exec_st28 rfl rfl rfl HST.out) ⟨HPz.out.b9, HPz.out.b8, HPz.out.b2⟩ ?_ wpT_stop
                    simp only [Act.put]
                    refine wpT_fin ?_
                    clear HST H13
                    generalize X8.setRow g13 #[.int .i64 n, .slice pv L cv, .slice pu O cu, .int .i64 k, .slice none 0 0, .int .i64 q] = Z at *
                    have n4 := Joins.cell_of_block H13n.out 4
                    have o4 := (scene_cells (n := n) (p := some ⟨g5, 0, none⟩) (a := L) (cp := c5) (po := some ⟨g6, 0, none⟩) (b := O) (co := c6) (k := k) (ka := some ⟨g7, 0, none⟩) (c := KL) (kc := c7) (q := q) HPz.out.b9).2.2.2.2.1
                    obtain ⟨v3, Z2, hr3, hv3, hb3⟩ := append_copy (st := 26) (c := c7) lenT oneT Try.underlying26 HI4.out.1 HI4.out.2.1 HI4.out.2.2.1 HI4.out.2.2.2 rfl (by omega) (by omega) (lies_prefix (own_lies lenT HPz.out.r7)) (by rw [HlT.out]; omega) 26
                    rw [HlT.out] at hr3
                    obtain ⟨pw, cw, rfl, _⟩ := own_slice hv3
                    rw [HlT.out] at hr3
                    have HV3 := Hid.mk' (World.ownsRow.mono hv3 HPz.out.bel.size)
                    have HR3 := Hid.mk' hr3
                    have HV1 := Hid.mk' (own_later HV1.out hb3)
                    have HV2 := Hid.mk' (own_later HV2.out hb3)
                    have H13n := Hid.mk' (heap_kept H13n.out hb3)
                    have HPz := Hid.mk' (HPz.out.later hb3)
                    have c4 := Joins.cell_of_block H13n.out 4
                    have f4 : Z2.frozen? ⟨g13, 4, none⟩ = false := Joins.unfrozen_of_block H13n.out _
                    clear hr3 hv3 hb3
                    go_upto_region 24 with fail
                    go_upto_region 25 with (first | (at_builtin; refine wpList_exec rfl (exec_pushY rfl rfl rfl HR3.out) ?_))
                    clear n4 o4 c4 f4 HR3
                    have HPq := Hid.mk' (HPz.out.setCell28 (j := 4) (u := .slice pw KL cw) H13n.out h13.1 h13.2.1 h13.2.2)
                    have HV1 := Hid.mk' (ownsRow_setCell_other HV1.out (a := ⟨g13, 4, none⟩) (own_ne HV1.out H13n.out (by decide)) (.slice pw KL cw))
                    have HV2 := Hid.mk' (ownsRow_setCell_other HV2.out (a := ⟨g13, 4, none⟩) (own_ne HV2.out H13n.out (by decide)) (.slice pw KL cw))
                    have HV3 := Hid.mk' (ownsRow_setCell_other HV3.out (a := ⟨g13, 4, none⟩) (own_ne HV3.out H13n.out (by decide)) (.slice pw KL cw))
                    have H13q : Hid ((Z2.setCell ⟨g13, 4, none⟩ (.slice pw KL cw)).heap[g13]? = some (.cells (sceneV n pv L cv pu O cu k pw KL cw q) 28)) := heap_setCell_same Z2 g13 4 _ 28 _ H13n.out
                    clear HPz H13n h13
                    generalize Z2.setCell ⟨g13, 4, none⟩ (.slice pw KL cw) = Z3 at *
                    obtain ⟨n0, n1, n2, n3, n4, n5⟩ := scene_cells H13q.out
                    obtain ⟨o0, o1, o2, o3, o4, o5⟩ := scene_cells (n := n) (p := some ⟨g5, 0, none⟩) (a := L) (cp := c5) (po := some ⟨g6, 0, none⟩) (b := O) (co := c6) (k := k) (ka := some ⟨g7, 0, none⟩) (c := KL) (kc := c7) (q := q) HPq.out.b9
                    have y0 := Joins.cell_of_block HPq.out.b3 0
                    have y1 := Joins.cell_of_block HPq.out.b3 1
                    have e1 := HV1.out
                    rw [← HlH.out] at e1
                    have e2 := HV2.out
                    rw [← HlO.out] at e2
                    have e3 := HV3.out
                    have i1 := lies_img (own_lies celRow_len e1)
                    have i2 := lies_ops (own_lies recCells_len e2)
                    have i3 : BoolsAt Z3 (.slice pw lt.length cw) lt := lies_bools (own_lies lenT e3)
                    clear e1 e2 e3
                    have hA := asked_any n k q m lh t lo lt (some ⟨g5, 0, none⟩) (some ⟨g6, 0, none⟩) (some ⟨g7, 0, none⟩) pv pu pw pt c5 c6 c7 cv cu cw ct Z3 (by rw [HlH.out]; omega) (by rw [HlO.out]; omega) (by rw [HlT.out]; omega) (by have := HTl.out; omega)
                      (lies_img (lies_prefix (own_lies celRow_len HPq.out.r5))) i1 (lies_ops (lies_prefix (own_lies recCells_len HPq.out.r6))) i2 (by rw [HlO.out]; exact HC6.out) (lies_bools (lies_prefix (own_lies lenT HPq.out.r7))) i3 (lies_img (HT.out.later HPq.out.bel)) HCH.out HCO.out hct
                    rw [HlH.out, HlO.out, HlT.out, HTl.out] at hA
                    unfold sceneV at hA
                    have HA := Hid.mk' hA
                    clear hA i1 i2 i3
                    go_wp2_with (go_at_call 13; fail)
                    refine Calls.mono HA.out ?_
                    rintro e'' ZZ ⟨rfl, hb⟩
                    have HE := Hid.mk' (below_next HPq.out.bel hb)
                    clear hb n0 n1 n2 n3 n4 n5 o0 o1 o2 o3 o4 o5 y0 y1
                    go_wp2
                    go_ret
                    exact ⟨rfl, HE.out⟩
                  · exact wpT_stop
                · exact wpT_stop
              · exact wpT_stop
end Go.Proofs.Ytbnbbelkddbndaa
