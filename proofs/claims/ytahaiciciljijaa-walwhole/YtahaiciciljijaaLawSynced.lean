/- WalSynced: without the power going a log tells what it was told, and behind Sync the disk holds it; for every play. -/
import Derived.Test.YtahaiciciljijaaLRunA
namespace Go.Proofs.Ytahaiciciljijaa
open Go.RowKit Go.Maps
section
variable {w W : World} {g d q : Nat} {C : World → St → List (Nat × Obj) → Prop} {t : St} {vT : Value} {vs : List Value} {fss : List (List (Nat → Int))} {lst last : Int} {ok : Bool} {oT ks : List (Nat × Obj)}
/-- The story's row is copied, and the copy is the story from then on. -/
theorem SX.copy (hC : Ctx w d C) (h : SX w C W t q vT vs fss lst last ok oT ks) : SX w C (W.alloc (.cells (stRow vT lst last ok) 63)) t W.heap.size vT vs fss lst last ok oT ks := by
  refine ⟨hC.drop (hC.add h.c (.cells (stRow vT lst last ok) 63)) fun p hp => ?_, h.list, h.told, h.ap, fun e => ?_, (hC.below h.c).size, fun p hp e => ?_⟩
  · rcases List.mem_append.1 hp with hp | hp
    · exact List.mem_cons_of_mem _ (List.mem_append.2 (.inl hp))
    · rcases List.mem_cons.1 hp with rfl | hp
      · exact List.mem_cons_self ..
      · exact List.mem_cons_of_mem _ (List.mem_append.2 (.inr (List.mem_cons_of_mem _ hp)))
  · obtain ⟨o2, hm⟩ := h.list.2.1 _ e
    have := (Array.getElem?_eq_some_iff.1 (hC.obj h.c (List.mem_append.2 (.inl hm)))).1
    exact absurd this (Nat.lt_irrefl _)
  · have := (Array.getElem?_eq_some_iff.1 (h.obj hC (g := p.1) (o := p.2) hp)).1
    omega
theorem SX.atn (hC : Ctx w d C) (h : SX w C W t q vT vs fss lst last ok oT ks) {j : Nat} {v : Value} (hj : vs[j]? = some v) {gT N cT : Nat} (e : vT = .slice (some ⟨gT, 0, none⟩) N cT) : W.cell? ⟨gT, j, none⟩ = some v := by
  obtain ⟨g', c', e', h'⟩ := h.at hC hj
  rw [e] at e'
  injection e' with e1
  injection e1 with e1
  injection e1 with e1
  rw [e1]
  exact h'
theorem SX.blkn (hC : Ctx w d C) (h : SX w C W t q vT vs fss lst last ok oT ks) {j : Nat} {v : Value} {fs : List (Nat → Int)} (hj : vs[j]? = some v) (hf : fss[j]? = some fs) {qM oM N cM : Nat} (e : v = .slice (some ⟨qM, oM, none⟩) N cM) {k : Nat} {f : Nat → Int} (hk : fs[k]? = some f) : BlkAt W qM (oM + k * 1024) f := by
  obtain ⟨p, c, e', hb⟩ := h.blks hC hj hf
  rw [e] at e'
  injection e' with e1
  obtain ⟨q', off, e2, _, h3⟩ := hb (by have := (List.getElem?_eq_some_iff.1 hk).1; omega)
  rw [← e1] at e2
  injection e2 with e2
  injection e2 with e3 e4
  rw [e3, e4]
  exact h3 k f hk
theorem tell_cur {b l i : Int} {x : LSt} {book : Int → Nat → Int} (h : LogI w W g d x t book ks) (hG : Going b l i x t) (hb : x.blocks = []) {m : Nat} (hm : b - (1 + l) = (m : Int)) (hl : 32 ≤ l) : behL l m t = tellB l m book := by
  rw [behL_tell]
  unfold tellB
  refine List.map_congr_left fun j hj => ?_
  have hj := List.mem_range.1 hj
  exact h.cur (by rw [hG.xb, hG.xl]; exact ⟨⟨by omega, by omega⟩, by omega⟩) (by rw [hb]; exact List.not_mem_nil)
end
theorem wpList_execW {ops : Array Oper} {rest : List Oper} {o : Oper} {a : Act} {W W' : World} {Q : Exit → Act → World → Prop} {v : Value} (hw : Region.wanted o (yielded ops a.tmps) = true) (hr : (execOp a.eval o).run Try.prog W = .ok (.value v) W') (h : wpList Try.prog ops Q rest (a.put o.dst v) W') : wpList Try.prog ops Q (o :: rest) a W := by
  unfold wpList
  rw [if_pos hw]
  refine .inl ?_
  unfold Oper.wp
  rw [hr]
  exact h
theorem exec_row {o : Oper} {a : Act} {W : World} {x : Operand} {g : Nat} {ty : TypeId} {cs : Array Value} (ho : o.op = .load ty x) (hx : a.eval x = .pointer (some ⟨g, 0, none⟩)) (hl : (loadVar ty ⟨g, 0, none⟩).run Try.prog W = .ok (.agg cs) W) : (execOp a.eval o).run Try.prog W = .ok (.value (.agg cs)) W := by
  unfold execOp
  simp only [ho, hx, Instr.loadAt, Instr.sureAddr, Sem.run_bind, Sem.run_pure, Result.andThen_ok, hl]
theorem load31 {W : World} {g : Nat} {L : Array Value} (hs : L.size = 9) (h : W.heap[g]? = some (.cells L 31)) : (loadVar 31 ⟨g, 0, none⟩).run Try.prog W = .ok (.agg L) W := run_loadVar_row W g 31 31 L (0, 0) _ h Try.underlying31 rfl (by rw [hs]; exact H.size25L)
theorem Going.reads {b l i : Int} {x : LSt} {t : St} (h : Going b l i x t) (n : Nat) (hr : t.reads + n ≤ 1000000) : Going b l i x (readN n t) := by
  obtain ⟨a1, a2, a3, a4, a5, a6, a7, a8, a9⟩ := readN_same n t
  exact ⟨h.xb, h.xl, h.xi, h.xc, a6.trans h.st, a7.trans h.fu, a4.trans h.cl, a5.trans h.cd, by rw [a2]; omega, by rw [a3, a1]; exact h.op⟩
theorem wpList_store63_new {ops : Array Oper} {rest : List Oper} {o : Oper} {a : Act} {w : World} {Q : Exit → Act → World → Prop} {x y : Operand} {cs c0 : Array Value} (hgd : o.guard = none) (ho : o.op = .store 63 x y) (hx : a.eval x = .pointer (some ⟨w.heap.size, 0, none⟩)) (hy : a.eval y = .agg cs) (hs : cs.size = 4) (h1 : cs.all (·.oneCell') = true) (hs0 : c0.size = 4)
    (h : wpList Try.prog ops Q rest (a.put o.dst undef) (w.alloc (.cells cs 63))) : wpList Try.prog ops Q (o :: rest) a (w.alloc (.cells c0 63)) :=
  wpList_store63 hgd ho hx hy hs (heap_alloc_new _ _) hs0 h1 (by rw [World.setRow_alloc_new]; exact h)
set_option maxRecDepth 100000 in
set_option maxHeartbeats 8000000 in
theorem synced_any (b l i : Int) (p : Option Addr) (ss : List (Option Addr × Nat × Nat)) (c : Nat) (p2 : Option Addr) (sy : List Int) (c2 : Nat) (st : Int) (p3 : Option Addr) (n3 c3 : Nat) (ag : Int) (p4 : Option Addr) (n4 c4 : Nat) (w : World) (h : PlayAt w p ss p2 sy) (hl : ss.length ≤ 9223372036854775807) (hl2 : sy.length ≤ 9223372036854775807) :
    Calls Try.prog 5 #[.agg (playA b l i p ss.length c p2 sy.length c2 st p3 n3 c3 ag p4 n4 c4)] w fun e w' => e = .returned (.bool true) ∧ Below w.heap.size w w' := by
  obtain ⟨n, hn⟩ : ∃ n, ss.length = n := ⟨_, rfl⟩
  obtain ⟨m2, hm2⟩ : ∃ m2, sy.length = m2 := ⟨_, rfl⟩
  have HFit : Hid (∀ W, Below w.heap.size w W → Calls Try.prog 13 #[.agg (playA b l i p n c p2 m2 c2 st p3 n3 c3 ag p4 n4 c4)] W fun e W' => e = .returned (.bool (fitsB b l i ss)) ∧ Below W.heap.size W W') := fun W hb => by
    have q := fits_any b l i p ss c p2 m2 c2 st p3 n3 c3 ag p4 n4 c4 W (h.1.later hb) hl
    rw [hn] at q
    exact q
  have HT : Hid (PlayAt w p ss p2 sy ∧ ss.length = n ∧ sy.length = m2) := ⟨h, hn, hm2⟩
  rw [hn] at hl ⊢
  rw [hm2] at hl2 ⊢
  clear h hn hm2
  have hz53 : (Try.prog.info? 53).map (·.size) = some (playA b l i p n c p2 m2 c2 st p3 n3 c3 ag p4 n4 c4).size := size53
  generalize hPA : playA b l i p n c p2 m2 c2 st p3 n3 c3 ag p4 n4 c4 = PA at *
  have HPA := Hid.mk' hPA
  clear hPA
  go_enter Try.func5, Try.ntmps5
  go_wp2_with (first | (go_at_call 11; fail))
  refine (lives_any _).mono ?_
  rintro e W0 ⟨rfl, hb0⟩
  have h0 := heap_kept (heap_alloc_new w (.cells PA 53)) hb0
  have HB0 : Hid (Below w.heap.size w W0) := below_next (below_new _ _) hb0
  clear hb0
  go_wp2_with (first | refine wpList_load_row rfl 53 (.tmp 1) rfl w.heap.size rfl 53 PA (0, 0) _ h0 Try.underlying53 rfl hz53 ?_ | (go_at_call 13; fail))
  refine (HFit.out _ HB0.out).mono ?_
  rintro e W1 ⟨rfl, hb1⟩
  have h1 := heap_kept h0 hb1
  have HB1 : Hid (Below w.heap.size w W1) := below_next HB0.out hb1
  clear HFit hb1 h0 HB0
  cases hfit : fitsB b l i ss
  · go_wp2
    go_ret
    exact ⟨rfl, HB1.out⟩
  obtain ⟨hF, hb300, hn40, hn31⟩ := of_decide_eq_true hfit
  have hn40 : n ≤ 40 := by rw [HT.out.2.1] at hn40; exact hn40
  have hl32 : 32 ≤ l ∧ l ≤ 256 := ⟨hF.1, hF.2.1⟩
  have H31 := Hid.mk' hn31
  have hof : H.ofV b l i = .agg (layA b l i) := by unfold H.ofV; rw [if_pos hF]; rfl
  have hoe : H.ofE b l i = 0 := by unfold H.ofE; rw [if_pos hF]
  have hc := fun w => H.refOf_any b l i w
  rw [hof, hoe] at hc
  have HOf := Hid.mk' hc
  have hbnd : bndB b = true := by have := H.Fine.pos hF; have := hF.2.2.2.2.1; unfold bndB; exact decide_eq_true ⟨by omega, by omega⟩
  have HF : Hid (H.Fine b l i) := hF
  clear hF hfit hn31 hc hof hoe
  have h1' := h1
  rw [← HPA.out] at h1'
  unfold H.geoV at HOf
  have hsz : (layA b l i).size = 9 := rfl
  have hone := layA_one b l i
  generalize hLA : layA b l i = LA at *
  have HLA := Hid.mk' hLA
  clear hLA
  go_wp2_with (first | (with_reducible refine H.isLoad 25 ?_; refine wpList_exec rfl (exec_loadG rfl rfl h1') ?_) | (go_at_call 14; fail))
  refine (HOf.out _).mono ?_
  rintro e W2 ⟨rfl, hb2⟩
  have h2 := heap_kept (heap_kept h1 hb2) (below_new W2 (.cells LA 31))
  have HB2 : Hid (Below w.heap.size w (W2.alloc (.cells LA 31))) := below_next (below_next HB1.out hb2) (below_new _ _)
  have hrow := h2
  rw [← HPA.out] at hrow
  have r0 := (play_cells hrow).1
  have h4 := heap_alloc_new W2 (.cells LA 31)
  clear h1 h1' hb2 HB1 HOf hrow
  go_wp2_with (first | (with_reducible refine H.isStore 31 ?_; refine H.wpList_storeL_new rfl _ _ rfl LA _ hsz rfl hone _ rfl rfl rfl ?_) | (go_at_call 15; fail))
  generalize W2.heap.size = q4 at *
  generalize W2.alloc (.cells LA 31) = W3 at *
  refine (sits_new (w := W3) (ks := []) hbnd (Below.refl _ _) (fun p hp => by cases hp)).mono ?_
  rintro e W4 ⟨d, rfl, h5⟩
  have hl4 := heap_kept h4 h5.below
  have hl2' := heap_kept h2 h5.below
  have HNew : Hid (Calls Try.prog 8 #[.pointer (some ⟨d, 0, none⟩), .agg LA] W4 fun e W' => ∃ g, e = .returned (.tuple #[.pointer (some ⟨g, 0, none⟩), .int .i64 0]) ∧ LogI W3 W' g d (newX b l i 1) (freshT b) (curV (newV b)) []) := by
    rw [← HLA.out]
    obtain ⟨e1, e2⟩ := tg_nought (b := b) (l := l) (t := newV b) rfl hl32.1
    exact newL_ok h5 HF.out (Int.le_refl _) rfl (rm_new b) e1 e2
  clear h5 r0
  go_wp2_with (first | refine wpList_load_row rfl 31 (.tmp 4) rfl q4 rfl 31 LA (0, 0) _ hl4 Try.underlying31 rfl (by rw [hsz]; exact H.size25L) ?_ | (go_at_call 8; fail))
  refine HNew.out.mono ?_
  rintro e W5 ⟨g, rfl, h6⟩
  clear HNew hl4 hl2'
  have hl5 := heap_kept h4 h6.below
  have hl6 := heap_kept h2 h6.below
  have hbl : 1 ≤ b - (1 + l) := by have := HF.out.2.2.2.2.2; have := HF.out.pos; unfold H.dataAt H.bitsAt H.nodeB H.bitsB at *; have := HF.out.2.2.1; omega
  obtain ⟨m, hm⟩ : ∃ m : Nat, b - (1 + l) = (m : Int) := ⟨(b - (1 + l)).toNat, by omega⟩
  have HRun : Hid (Calls Try.prog 18 #[.pointer (some ⟨d, 0, none⟩), .pointer (some ⟨g, 0, none⟩), .agg LA, .agg PA] W5 (RunPost W3 g d b l i m n)) := by
    have hG : Going b l i (newX b l i 1) (freshT b) := ⟨rfl, rfl, rfl, rfl, rfl, rfl, rfl, rfl, by show (1 : Int) ≤ 1000000; omega, by show ((0 : Nat) : Int) ≤ 0; omega⟩
    have q := run_any (st := st) (p3 := p3) (n3 := n3) (c3 := c3) (ag := ag) (p4 := p4) (n4 := n4) (c4 := c4) h6 hG rfl HF.out hb300 hm (by omega) (Int.le_refl _) (hG.rm (by show (0 : Int) ≤ _; omega) (by omega)) rfl (by show (0 : Int) ≤ 0; omega) (by show (0 : Int) ≤ 0; omega) (by show (0 : Int) ≤ 0; omega) (by show (1 : Int) ≤ 1000; omega) ⟨rfl, rfl⟩ (HT.out.1.later HB2.out) (by rw [HT.out.2.1]; exact hn40) H31.out (by rw [HT.out.2.2]; exact hl2) c c2
    rw [HT.out.2.1, HT.out.2.2, HPA.out, HLA.out] at q
    exact q
  clear h6
  go_wp2_with (first | refine wpList_load_row rfl 31 (.tmp 4) rfl q4 rfl 31 LA (0, 0) _ hl5 Try.underlying31 rfl (by rw [hsz]; exact H.size25L) ?_ | refine wpList_load_row rfl 53 (.tmp 1) rfl w.heap.size rfl 53 PA (0, 0) _ hl6 Try.underlying53 rfl hz53 ?_ | (go_at_call 18; fail))
  refine HRun.out.mono ?_
  rintro e W6 ⟨q, vT, vs, fss, lst, oT, X, T, bk, ks', rfl, hSX, hRN⟩
  clear HRun hl5 hl6
  have hC := LogI.ctx W3 g d X bk
  have hvn : vs[n]? = some (vs[n]'(by rw [hSX.told.1, hRN.len]; omega)) := List.getElem?_eq_getElem _
  generalize vs[n]'(by rw [hSX.told.1, hRN.len]; omega) = vN at hvn
  obtain ⟨gT, cT, hvT, _⟩ := hSX.at hC hvn
  obtain ⟨pM, cM, hvM, hbM⟩ := hSX.blks hC hvn hRN.at'
  rw [tellB_len] at hvM
  obtain ⟨qM, oM, rfl, _, _⟩ := hbM (by rw [tellB_len]; omega)
  rw [hSX.told.1, hRN.len] at hvT
  subst hvT hvM
  have HVN := Hid.mk' hvn
  have HRN := Hid.mk' hRN
  have H7 := Hid.mk' (hSX.copy hC)
  have hone63 : (stRow (.slice (some ⟨gT, 0, none⟩) (n + 1) cT) lst n true).all (·.oneCell') = true := by simp [stRow, Value.oneCell']
  have hz4 : (stRow (.slice (some ⟨gT, 0, none⟩) (n + 1) cT) lst n true).size = 4 := rfl
  obtain ⟨c0, c1, c2', c3'⟩ := H7.out.cells hC
  have hrow7 := heap_kept h2 (H7.out.below hC)
  rw [← HPA.out] at hrow7
  have r3 := (play_cells hrow7).2.2.1
  clear hSX hRN hvn hbM hC hrow7
  have z63 : ∀ u, (zeroValue 63).run Try.prog u = .ok (.agg (stRow (.slice none 0 0) 0 0 false)) u := fun u => by kernel_rfl
  unfold stRow at *
  go_wp2_with (first | (with_reducible refine H.isStore 63 ?_; refine wpList_store63_new rfl rfl rfl rfl hz4 hone63 rfl ?_))
  generalize W6.heap.size = q9 at *
  generalize W6.alloc (.cells #[.slice (some ⟨gT, 0, none⟩) (n + 1) cT, .int .i64 lst, .int .i64 n, .bool true] 63) = W7 at *
  clear c0 c1 c2' c3' r3 z63 hone63 hz4
  have hn1 : ¬ ((n : Int) + 1 ≤ (n : Int)) := by omega
  have z25 := zero25
  go_loopw [10] (fun s10 wx => ∃ (k : Nat) (T' : St), k ≤ m ∧ s10 = .int .i64 k ∧ Hid (SX W3 (fun W t ks => LogI W3 W g d X t bk ks) wx T' q9 (.slice (some ⟨gT, 0, none⟩) (n + 1) cT) vs fss lst n true oT ks') ∧ Hid (Going b l i X T' ∧ HdQ T' ∧ T'.made = T.made ∧ T'.reads ≤ 2000 + (k : Int))) (fun s10 _ => m - (intOf s10).toNat)
  case atStart => exact ⟨0, T, by omega, rfl, H7.out, HRN.out.going, HRN.out.hd, rfl, by have := HRN.out.rd; omega⟩
  case round =>
    obtain ⟨k, T', hk, rfl, HS, HG⟩ := hrel
    clear H7
    have hC := LogI.ctx W3 g d X bk
    obtain ⟨c0, _, c2', _⟩ := HS.out.cells hC
    have cN := HS.out.atn hC HVN.out rfl
    have c4' : wr.cell? ⟨q4, 4, none⟩ = some (.int .i64 (1 + l)) := by
      have q := Joins.cell_of_block (heap_kept h4 (HS.out.below hC)) 4
      rw [← HLA.out] at q
      exact q
    by_cases hk2 : (k : Int) < m
    · have hwz : IntKind.i64.wrap (1 + l + (k : Int)) = 1 + l + (k : Int) := by rw [IntKind.wrap_i64]; omega
      have hrd := HS.out.readL HG.out.1 HG.out.2.1 (k := 1 + l + (k : Int)) (by rw [HG.out.1.xb, HG.out.1.xl]; exact ⟨⟨by omega, by omega⟩, by omega⟩) (by have := HG.out.2.2.2; omega) (by have := HG.out.2.2.1; have := HRN.out.made; omega)
      have HRd := Hid.mk' hrd
      unfold ptr at HRd
      clear hrd hC HS
      go_wp2_with (first | (go_at_call 24; fail))
      refine HRd.out.mono ?_
      rintro e W8 ⟨rfl, T8, g1, g2, g3, g4, hS8⟩
      have HG8 : Hid (Going b l i X T8 ∧ HdQ T8 ∧ T8.made = T.made ∧ T8.reads ≤ 2000 + ((k + 1 : Nat) : Int)) := ⟨g1, g2, g3.trans HG.out.2.2.1, by have := HG.out.2.2.2; omega⟩
      have H9 := Hid.mk' (hS8.later (LogI.ctx W3 g d X bk) (below_next (below_new W8 (.cells (blk (bk (1 + l + (k : Int)))) 23)) (H.drew_below _)))
      have hb8 := heap_kept (heap_alloc_new W8 (.cells (blk (bk (1 + l + (k : Int)))) 23)) (H.drew_below _)
      clear HRd g1 g2 g3 g4 hS8 c0 c2' cN c4' HG
      obtain ⟨Fk, hFk⟩ : ∃ Fk, bk (1 + l + (k : Int)) = Fk := ⟨_, rfl⟩
      rw [hFk] at hb8 H9 ⊢
      go_upto_region 20 with (refine wpList_store25_new rfl (.tmp 11) (.tmp 87) rfl Fk _ rfl rfl ?_)
      have hC := LogI.ctx W3 g d X bk
      generalize hV : (W8.alloc (.cells (blk Fk) 23)).drew = V at *
      obtain ⟨c0, _, c2', _⟩ := H9.out.cells hC
      have cN := H9.out.atn hC HVN.out rfl
      have cM' := H9.out.blkn hC HVN.out HRN.out.at' rfl (tellB_get l m bk k (by omega))
      rw [hFk] at cM'
      have s0 : ∀ u, u = V → u.cell? ⟨q9, 0, none⟩ = some (.slice (some ⟨gT, 0, none⟩) (n + 1) cT) := fun u e => by rw [e]; exact c0
      have s2 : ∀ u, u = V → u.cell? ⟨q9, 2, none⟩ = some (.int .i64 (n : Int)) := fun u e => by rw [e]; exact c2'
      have sT : ∀ u, u = V → u.cell? ⟨gT, n, none⟩ = some (.slice (some ⟨qM, oM, none⟩) m cM) := fun u e => by rw [e]; exact cN
      have sB : ∀ u, u = V → u.heap[W8.heap.size]? = some (.cells (blk Fk) 23) := fun u e => by rw [e]; exact hb8
      have sM : ∀ u, u = V → BlkAt u qM (oM + k * 1024) Fk := fun u e => by rw [e]; exact cM'
      have hn1x : ∀ u : World, u = V → ¬ ((n : Int) + 1 ≤ (n : Int)) := fun _ _ => by omega
      clear c0 c2' cN cM' hb8 hC
      refine wp_region_ord (S := fun u => u = V) [(0, true), (1, true), (2, true), (3, true), (4, true), (5, true), (6, true), (7, true), (8, true), (9, true), (10, true), (11, true), (12, true), (13, true), (14, true)] (by kernel_rfl) rfl (by kernel_rfl) (fun d _ _ _ _ h => by cases d <;> exact h) hV ?_
      simp only [inOrd, List.getElem?_cons_zero, List.getElem?_cons_succ]
      refine wpOrd_yield (v := .int .i64 0) rfl (fun u _ => exec_mv rfl rfl) ?_
      simp only [Act.put, List.setIfInBounds_toArray, List.set_cons_succ, List.set_cons_zero]
      refine wpOrd_yield (v := .bool false) rfl (fun u hu => by go_simp) ?_
      simp only [Act.put, List.setIfInBounds_toArray, List.set_cons_succ, List.set_cons_zero]
      refine wpOrd_yield (v := .bool false) rfl (fun u _ => exec_mv rfl rfl) ?_
      simp only [Act.put, List.setIfInBounds_toArray, List.set_cons_succ, List.set_cons_zero]
      refine wpOrd_yield (v := .agg (blk Fk)) rfl (fun u hu => H.exec_loadB rfl _ _ rfl (sB u hu)) ?_
      simp only [Act.put, List.setIfInBounds_toArray, List.set_cons_succ, List.set_cons_zero]
      refine wpOrd_yield (v := .pointer (some ⟨q9, 0, none⟩)) rfl (fun u hu => by go_simp) ?_
      simp only [Act.put, List.setIfInBounds_toArray, List.set_cons_succ, List.set_cons_zero]
      refine wpOrd_yield (v := .slice (some ⟨gT, 0, none⟩) (n + 1) cT) rfl (fun u hu => by have := s0 u hu; go_simp) ?_
      simp only [Act.put, List.setIfInBounds_toArray, List.set_cons_succ, List.set_cons_zero]
      refine wpOrd_yield (v := .pointer (some ⟨q9, 2, none⟩)) rfl (fun u hu => by go_simp) ?_
      simp only [Act.put, List.setIfInBounds_toArray, List.set_cons_succ, List.set_cons_zero]
      refine wpOrd_yield (v := .int .i64 (n : Int)) rfl (fun u hu => by have := s2 u hu; go_simp) ?_
      simp only [Act.put, List.setIfInBounds_toArray, List.set_cons_succ, List.set_cons_zero]
      refine wpOrd_yield (v := .pointer (some ⟨gT, n, none⟩)) rfl (fun u hu => by have := hn1x u hu; go_simp) ?_
      simp only [Act.put, List.setIfInBounds_toArray, List.set_cons_succ, List.set_cons_zero]
      refine wpOrd_yield (v := .slice (some ⟨qM, oM, none⟩) m cM) rfl (fun u hu => by have := sT u hu; go_simp) ?_
      simp only [Act.put, List.setIfInBounds_toArray, List.set_cons_succ, List.set_cons_zero]
      refine wpOrd_yield (v := .int .i64 (k : Int)) rfl (fun u _ => exec_mv rfl rfl) ?_
      simp only [Act.put, List.setIfInBounds_toArray, List.set_cons_succ, List.set_cons_zero]
      refine wpOrd_yield (v := .pointer (some ⟨qM, oM + k * 1024, none⟩)) rfl (fun u hu => exec_ix69o rfl rfl rfl (by omega)) ?_
      simp only [Act.put, List.setIfInBounds_toArray, List.set_cons_succ, List.set_cons_zero]
      refine wpOrd_yield (v := .agg (blk Fk)) rfl (fun u hu => exec_ldM rfl rfl (sM u hu)) ?_
      simp only [Act.put, List.setIfInBounds_toArray, List.set_cons_succ, List.set_cons_zero]
      refine wpOrd_yield (v := .bool (!true)) rfl (fun u hu => exec_neS rfl rfl rfl (sameB_self _)) ?_
      simp only [Act.put, List.setIfInBounds_toArray, List.set_cons_succ, List.set_cons_zero]
      refine wpOrd_yield (v := .bool false) rfl (fun u hu => by go_simp) ?_
      simp only [Act.put, List.setIfInBounds_toArray, List.set_cons_succ, List.set_cons_zero]
      refine wpOrd_nil ?_
      rw [hV]
      clear s0 s2 sT sB sM hV hFk
      go_wp2
      exact ⟨⟨k + 1, T8, by omega, by go_num, H9.out, HG8.out⟩, by simp [intOf]; omega⟩
    · have hC := LogI.ctx W3 g d X bk
      have hL : LogI W3 wr g d X T' bk _ := HS.out.c
      have hsd := hL.synced HG.out.1
      have hqs := hL.hdSync HG.out.1 HG.out.2.1
      have hrs : (syT X bk T').reads ≤ 3000 := by rw [sy_reads]; have := HG.out.2.2.2; omega
      have hc := HS.out.call (C' := fun W t ks => LogI W3 W g d (syX X) t bk ks) (t' := syT X bk T') fun ks h => h.syncAny HG.out.1 HRN.out.op (by have := HG.out.2.2.1; have := HRN.out.made; omega) (by have := HRN.out.cm; omega)
      have HG5' : Hid (Going b l i (syX X) (syT X bk T') ∧ (syX X).blocks = [] ∧ (syX X).opn = false ∧ HdQ (syT X bk T') ∧ (syT X bk T').made ≤ 100000 ∧ (syT X bk T').reads ≤ 3000) := ⟨hsd.1, hsd.2.1, hsd.2.2.1.trans HRN.out.op, hqs, by have := hsd.2.2.2.2.2; have := HG.out.2.2.1; have := HRN.out.made; omega, hrs⟩
      have HC := Hid.mk' hc
      unfold ptr at HC
      clear hc hsd hqs hrs hL hC HG
      go_wp2_with (first | (go_at_call 25; fail))
      refine HC.out.mono ?_
      rintro e W8 ⟨rfl, hzz⟩
      have H8 := Hid.mk' hzz
      clear HC HS hzz c0 c2' cN c4'
      obtain ⟨X5, hX5⟩ : ∃ X5, syX X = X5 := ⟨_, rfl⟩
      obtain ⟨T5, hT5⟩ : ∃ T5, syT X bk T' = T5 := ⟨_, rfl⟩
      rw [hX5, hT5] at H8 HG5'
      clear hX5 hT5
      obtain ⟨M, hM⟩ : ∃ M, T5.made = M := ⟨_, rfl⟩
      have HM := Hid.mk' hM
      clear hM
      have hc := H8.out.call (C' := fun W t ks => LogI W3 W g d X5 t bk ks) (t' := T5) fun ks h => h.made
      rw [HM.out] at hc
      have HC := Hid.mk' hc
      unfold ptr at HC
      clear hc
      go_wp2_with (first | (go_at_call 23; fail))
      refine HC.out.mono ?_
      rintro e W9 ⟨rfl, hzz⟩
      have H9 := Hid.mk' hzz
      clear HC H8 hzz
      have hc := H9.out.call (C' := fun W t ks => LogI W3 W g d X5 t bk ks) (t' := T5) fun ks h => h.syncNone (HG5'.out.1.ref HG5'.out.2.2.1) HG5'.out.2.1
      have HC := Hid.mk' hc
      unfold ptr at HC
      clear hc
      go_wp2_with (first | (go_at_call 25; fail))
      refine HC.out.mono ?_
      rintro e W10 ⟨rfl, hzz⟩
      have H10 := Hid.mk' hzz
      clear HC H9 hzz
      have hc := H10.out.call (C' := fun W t ks => LogI W3 W g d X5 t bk ks) (t' := T5) fun ks h => h.made
      rw [HM.out] at hc
      have HC := Hid.mk' hc
      unfold ptr at HC
      clear hc
      go_wp2_with (first | (go_at_call 23; fail))
      refine HC.out.mono ?_
      rintro e W11 ⟨rfl, hzz⟩
      have H11 := Hid.mk' hzz
      clear HC H10 hzz
      have hc := H11.out.call (C' := fun W t ks => LogI W3 W g d X5 t bk ks) (t' := T5) fun ks h => h.pendN HG5'.out.2.2.2.1.2
      have HC := Hid.mk' hc
      unfold ptr at HC
      clear hc
      go_wp2_with (first | (go_at_call 26; fail))
      refine HC.out.mono ?_
      rintro e W12 ⟨rfl, hzz⟩
      have H12 := Hid.mk' hzz
      clear HC H11 hzz
      have hl12 := heap_kept h4 (H12.out.below (LogI.ctx W3 g d X5 bk))
      have hc := H12.out.call (C' := fun W t ks => LogI W3 W g d X5 t bk ks) (t' := (readS T5)) fun ks h => h.recover HF.out (h.nle HG5'.out.1) HG5'.out.1.st (HG5'.out.1.rm (by have := HG5'.out.2.2.2.2.1; omega) (by omega)) HG5'.out.2.2.2.1.1
      rw [HLA.out] at hc
      have HC := Hid.mk' hc
      unfold ptr at HC
      clear hc
      go_wp2_with (first | refine wpList_load_row rfl 31 (.tmp 4) rfl q4 rfl 31 LA (0, 0) _ hl12 Try.underlying31 rfl (by rw [hsz]; exact H.size25L) ?_ | (go_at_call 10; fail))
      refine HC.out.mono ?_
      rintro e W13 ⟨rfl, hzz⟩
      have H13 := Hid.mk' hzz
      clear HC H12 hzz
      have HG6 : Hid (Going b l i X5 (readS T5) ∧ Going b l i X5 (readN m (readS T5)) ∧ (readN m (readS T5)).made = M ∧ Rm (readS T5) (m + 1)) := by
        have g6 : Going b l i X5 (readS T5) := HG5'.out.1.reads 1 (by have := HG5'.out.2.2.2.2.2; omega)
        have hmm : (readS T5).made ≤ 1000000 := by have := HG5'.out.2.2.2.2.1; show T5.made ≤ _; omega
        exact ⟨g6, g6.reads m (by show T5.reads + 1 + (m : Int) ≤ _; have := HG5'.out.2.2.2.2.2; omega), (readN_same m (readS T5)).1.trans HM.out, g6.rm hmm (by omega)⟩
      have hC := LogI.ctx W3 g d X5 bk
      obtain ⟨_, d1, d2, _⟩ := H13.out.cells hC
      have df := H13.out.free hC 1
      have H14 := Hid.mk' (H13.out.set hC 1 (.int .i64 (n : Int)) (lst' := n) (last' := n) (ok' := true) rfl)
      generalize hW14 : W13.setCell ⟨q9, 1, none⟩ (.int .i64 (n : Int)) = W14 at H14
      clear H13 hl12
      have hc := H14.out.call (C' := fun W t ks => LogI W3 W g d X5 t bk ks) (t' := readS T5) fun ks h => h.made
      rw [show (readS T5).made = M from HM.out] at hc
      have HC := Hid.mk' hc
      unfold ptr at HC
      clear hc
      go_wp2_with (first | (go_at_call 23; fail))
      refine HC.out.mono ?_
      rintro e W15 ⟨rfl, hzz⟩
      have H15 := Hid.mk' hzz
      clear HC hzz H14 d1 d2 df hW14
      have hl15 := heap_kept h4 (H15.out.below hC)
      have hr15 := H15.out.row hC
      have hL15 : LogI W3 W15 g d X5 (readS T5) bk _ := H15.out.c
      have hfd := H15.out.found hC HF.out hb300 hm HG6.out.1.st HG6.out.2.2.2 (hL15.nle HG6.out.1) rfl rfl HVN.out HVN.out HRN.out.at' HRN.out.at' (by rw [tellB_len]; omega) (by rw [tellB_len]; omega)
      rw [HLA.out] at hfd
      have hbeh : behL l m (readS T5) = tellB l m bk := tell_cur hL15 HG6.out.1 HG5'.out.2.1 hm hl32.1
      have HFd := Hid.mk' hfd
      have HBh := Hid.mk' hbeh
      have hz63 : (Try.prog.info? 63).map (·.size) = some (stRow (.slice (some ⟨gT, 0, none⟩) (n + 1) cT) n n true).size := size63
      have hld63 := load63 hz63 hr15
      have hld31 := load31 hsz hl15
      unfold ptr at HFd
      clear hfd hbeh hL15 H15 hz63 hl15 hr15
      unfold stRow at HFd hld63
      go_wp2_with (first | (with_reducible refine H.isLoad 31 ?_; refine wpList_execW rfl (exec_row rfl rfl hld31) ?_) | (with_reducible refine H.isLoad 63 ?_; refine wpList_execW rfl (exec_row rfl rfl hld63) ?_) | (go_at_call 22; fail))
      refine HFd.out.mono ?_
      rintro e W16 ⟨B, rfl, hB, hzz⟩
      obtain rfl := hB (.inl HBh.out)
      have hL16 : LogI W3 W16 g d X5 (readN m (readS T5)) bk _ := hzz.c
      have hcl := hL16.close (HG6.out.2.1.ref HG5'.out.2.2.1) HG5'.out.2.1
      have HCl := Hid.mk' hcl
      unfold ptr at HCl
      clear HFd hB hzz hL16 hcl hld63 hld31 HBh
      go_wp2_with (first | (go_at_call 27; fail))
      refine HCl.out.mono ?_
      rintro e W17 ⟨rfl, hN17, hS17⟩
      have hck := check_none hN17
      have HCk := Hid.mk' hck
      have HS17 := Hid.mk' hS17
      clear HCl hN17 hck hS17
      go_wp2_with (first | (go_at_call 20; fail))
      refine HCk.out.mono ?_
      rintro e W18 ⟨rfl, rfl⟩
      have hmd := sits_made HS17.out
      rw [HG6.out.2.2.1] at hmd
      have HMd := Hid.mk' hmd
      clear HCk hmd
      go_wp2_with (first | (go_at_call 23; fail))
      refine HMd.out.mono ?_
      rintro e W19 ⟨rfl, hS19⟩
      have HBf : Hid (Below w.heap.size w W19) := below_next HB2.out hS19.below
      clear HMd hS19
      go_wp2
      go_ret
      exact ⟨rfl, HBf.out⟩
end Go.Proofs.Ytahaiciciljijaa
