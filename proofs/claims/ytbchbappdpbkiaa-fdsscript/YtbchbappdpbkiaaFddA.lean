/- The program's table of acts: Get, Set, Open, Close, beside whatever lies apart; fewer than ten million rows; no other condition. -/
import Derived.Test.YtbchbappdpbkiaaFdcA
import Derived.Laws.ResultCell
namespace Go.Proofs.Ytbchbappdpbkiaa
open Go.RowKit Go.Maps
theorem retCT {fn : Func} {p u : Tmp} {ty : TypeId} {R : Ending → World → Prop} {a : Act} {w : World} {d : TypeDesc} (hu : Try.prog.underlying ty = some d) (hd : d.isRow = true) (h : fn.results = #[.cell p ty, .tmp u]) (g : Nat) (cs : Array Value) (t : TypeId) (hi : (Try.prog.info? ty).map (·.size) = some cs.size)
    (hp : a.tmps.getD p undef = .pointer (some ⟨g, 0, none⟩)) (hg : w.heap[g]? = some (.cells cs t))
    (hdf : a.defers = []) (hR : R (.returned (.tuple #[.agg cs, a.tmps.getD u undef])) w) : bodyPost Try.prog fn R .ret a w := by
  have hl : (loadVar ty ⟨g, 0, none⟩).run Try.prog w = .ok (.agg cs) w := run_loadVar_row w g t ty cs (0, 0) d hg hu (by cases d <;> first | rfl | cases hd) hi
  refine bodyPost_ret ?_ hdf hR
  rw [results_cell_tmp h]
  rw [hp]
  simp [asAddr, hl]
theorem wpOrd_do {ops : Array Oper} {Q : Exit → Act → World → Prop} {S : World → Prop} {r : List (Bool × Oper)} {o : Oper} {a : Act} {W W' : World} (hw : Region.wanted o (yielded ops a.tmps) = true) (hr : (execOp a.eval o).run Try.prog W = .ok .skip W') (hS : S W') (h : wpOrd Try.prog ops Q S r (a.put o.dst undef) W') : wpOrd Try.prog ops Q S ((false, o) :: r) a W := by
  simp only [wpOrd, hw, if_true]
  unfold Oper.wp
  rw [hr]
  exact ⟨hS, h⟩
theorem exec_ldR {o : Oper} {a : Act} {W : World} (ty : TypeId) {d : TypeDesc} (hu : Try.prog.underlying ty = some d) (hd : d.isRow = true) (x : Operand) (ho : o.op = .load ty x) (g : Nat) (hx : a.eval x = .pointer (some ⟨g, 0, none⟩)) (cs : Array Value) (t : TypeId) (fr : Nat × Nat) (hi : (Try.prog.info? ty).map (·.size) = some cs.size) (hg : W.heap[g]? = some (.cells cs t fr)) : (execOp a.eval o).run Try.prog W = .ok (.value (.agg cs)) W := by
  unfold execOp
  simp only [ho, hx, Instr.loadAt, Instr.sureAddr, Sem.run_bind, Sem.run_pure, Result.andThen_ok, run_loadVar_row W g t ty cs fr d hg hu (by cases d <;> first | rfl | cases hd) hi]
theorem exec_mv {o : Oper} {a : Act} {x : Operand} {v : Value} {W : World} (ho : o.op = .move x) (hx : a.eval x = v) : (execOp a.eval o).run Try.prog W = .ok (.value v) W := by simp [execOp, ho, hx]
def noPanic (Q : Exit → Act → World → Prop) : Exit → Act → World → Prop := fun e a w => match e with
  | .panic _ => False
  | e' => Q e' a w
theorem noPanic_normal {Q : Exit → Act → World → Prop} {a : Act} {u : World} (h : Q .normal a u) : noPanic Q .normal a u := h
theorem wp_calm {P : Program} {c : Code} {Q : Exit → Act → World → Prop} {a : Act} {u : World} (h : c.wp P (noPanic Q) a u) : c.wp P Q a u := Code.wp_mono (fun e a w q => by
  cases e
  case panic => exact q.elim
  all_goals exact q) h
theorem infAct : (Try.prog.info? 38).map (·.size) = some 4 := by kernel_rfl
section
variable {w W W' : World} {g le : Nat} {v : Value} {m : Int} {R : List (Option Ac)} {l : List Part}
theorem get_okA (h : TabA w g v le m R) (fd : Int) : Calls Try.prog 22 #[.pointer (some ⟨g, 0, none⟩), .int .i64 fd] w fun e w' => e = .returned (.tuple #[thA (getO R fd), .int .i64 (refV R fd)]) ∧ Below w.heap.size w w' := by
  have hb0 := below_new w (.cells #[.int .i64 0, .int .i64 0, .int .i64 0, .int .i64 0] 38)
  have h2 := h.later hb0
  have hr := refused_okA h2 fd
  obtain ⟨c0, c1, c2, c3, c4⟩ := h2.cells
  obtain ⟨p, c, rfl, hf⟩ := h2.form
  rcases fd_cases R fd with ⟨k, x, rfl, hk, h1, h2, _, _⟩ | ⟨h1, h2, _, _⟩
  · rw [h2]
    rw [h1] at hr ⊢
    obtain ⟨b, rfl, hb, hc⟩ := hf k _ hk
    have b1 := hc 1 _ rfl
    have b2 := hc 2 _ rfl
    have b3 := hc 3 _ rfl
    have b4 := hc 4 _ rfl
    have hkN := (List.getElem?_eq_some_iff.1 hk).1
    generalize R.length = N at *
    unfold thA
    obtain ⟨x1, x2, x3, x4⟩ := x
    simp only at b1 b2 b3 b4 ⊢
    clear h hf hc hk h1 h2
    go_enter Try.func22, Try.ntmps22
    go_wp2_with (first | (go_at_call 52; refine hr.mono ?_; rintro e W ⟨rfl, rfl⟩))
    exact retCT Try.underlying38 rfl rfl w.heap.size #[.int .i64 x1, .int .i64 x2, .int .i64 x3, .int .i64 x4] 38 infAct rfl (heap_alloc_new _ _) rfl ⟨rfl, below_new _ _⟩
  · rw [h2]
    rw [h1] at hr ⊢
    unfold thA
    have HB : Hid (Below w.heap.size w ((w.alloc (.cells #[.int .i64 0, .int .i64 0, .int .i64 0, .int .i64 0] 38)).alloc (.cells #[.int .i64 0, .int .i64 0, .int .i64 0, .int .i64 0] 38))) := below_next hb0 (below_new _ _)
    have r0 : ((w.alloc (.cells #[.int .i64 0, .int .i64 0, .int .i64 0, .int .i64 0] 38)).alloc (.cells #[.int .i64 0, .int .i64 0, .int .i64 0, .int .i64 0] 38)).heap[w.heap.size]? = some (.cells #[.int .i64 0, .int .i64 0, .int .i64 0, .int .i64 0] 38) := heap_kept (heap_alloc_new _ _) (below_new _ _)
    clear h hf h1 h2
    go_enter Try.func22, Try.ntmps22
    go_wp2_with (first | (go_at_call 52; refine hr.mono ?_; rintro e W ⟨rfl, rfl⟩))
    exact retCT Try.underlying38 rfl rfl w.heap.size #[.int .i64 0, .int .i64 0, .int .i64 0, .int .i64 0] 38 infAct rfl r0 rfl ⟨rfl, HB.out⟩
theorem set_rowA {k : Nat} {x y : Ac} (hk : R[k]? = some (some x)) : (R.flatMap enA).take (k * 5 + 1) ++ [.int .i64 y.1, .int .i64 y.2.1, .int .i64 y.2.2.1, .int .i64 y.2.2.2] ++ (R.flatMap enA).drop (k * 5 + 1 + 4) = (R.set k (some y)).flatMap enA := by
  have hkl := (List.getElem?_eq_some_iff.1 hk).1
  have h0 : (R.flatMap enA)[k * 5]? = some (.bool true) := by
    have := fm_get enA 5 lenA R k 0 _ hk (by omega)
    rw [Nat.add_zero] at this
    rw [this]
    rfl
  rw [← fm_set enA 5 lenA R k (some y) hkl, List.take_add_one, h0]
  simp [enA]
theorem tab_drewA (h : TabA w g v le m R) (n : Nat) : TabA (w.drewN n) g v le m R := h.later (belowN (Below.refl _ _) n)
set_option maxRecDepth 20000 in
theorem set_okA (h : TabA w g v le m R) (fd : Int) (y : Ac) : Calls Try.prog 21 #[.pointer (some ⟨g, 0, none⟩), .int .i64 fd, thA (some y)] w fun e w' => e = .returned (.int .i64 (refV R fd)) ∧ ToA w g v m (setR R fd y) w' := by
  obtain ⟨y1, y2, y3, y4⟩ := y
  have hb0 := below_new w (.cells #[.int .i64 y1, .int .i64 y2, .int .i64 y3, .int .i64 y4] 38)
  have hB0 : (w.alloc (.cells #[.int .i64 y1, .int .i64 y2, .int .i64 y3, .int .i64 y4] 38)).heap[w.heap.size]? = some (.cells #[.int .i64 y1, .int .i64 y2, .int .i64 y3, .int .i64 y4] 38) := heap_alloc_new _ _
  have h2 := h.later hb0
  have hgl := h.lt
  have hvl : ∀ k, v.ownBlock = some k → k < w.heap.size := fun k hk => h.vlt hk
  have HB : Hid (Below w.heap.size w (w.alloc (.cells #[.int .i64 y1, .int .i64 y2, .int .i64 y3, .int .i64 y4] 38))) := hb0
  unfold thA
  simp only
  obtain ⟨W0, hW0⟩ : ∃ W0, w.alloc (.cells #[.int .i64 y1, .int .i64 y2, .int .i64 y3, .int .i64 y4] 38) = W0 := ⟨_, rfl⟩
  rw [hW0] at hb0 hB0 h2 HB
  have hr := refused_okA h2 fd
  have HT : Hid (TabA W0 g v le m R) := h2
  clear h hb0 h2
  rcases fd_cases R fd with ⟨k, x, rfl, hk, h1, _, _, h3⟩ | ⟨h1, _, _, h3⟩
  · rw [h1] at hr ⊢
    rw [h3]
    obtain ⟨p, c, hv, hf⟩ := HT.out.form
    obtain ⟨b, rfl, hb, hc⟩ := hf k _ hk
    have hkN := (List.getElem?_eq_some_iff.1 hk).1
    have hne : g ≠ b := rowneA HT.out.row (by have := HT.out.own; rw [hv] at this; exact this)
    have hTo : ∃ cur i, W0.drew.heap[b]? = some (.cells cur 89) ∧ Try.prog.info? 38 = some i ∧ i.size = 4 ∧ k * 5 + 1 + 4 ≤ cur.size ∧ ToA w g v m (R.set k (some (y1, y2, y3, y4))) (W0.drew.setRow b (putE cur (k * 5 + 1) [.int .i64 y1, .int .i64 y2, .int .i64 y3, .int .i64 y4])) := by
      obtain ⟨i, hi, hs⟩ : ∃ i, Try.prog.info? 38 = some i ∧ i.size = 4 := by
        have := infAct
        cases e : Try.prog.info? 38 with
        | none => rw [e] at this; cases this
        | some i => rw [e] at this; exact ⟨i, rfl, by simpa using this⟩
      have hT1 : TabA W0.drew g v le m R := tab_drewA HT.out 1
      have ho := hT1.own
      rw [hv] at ho
      obtain ⟨cur, q1, q2, q3⟩ := own_put (off := k * 5 + 1) (cs := [.int .i64 y1, .int .i64 y2, .int .i64 y3, .int .i64 y4]) ho (by simp only [List.length_cons, List.length_nil]; omega)
      refine ⟨cur, i, q1, hi, hs, q2, v, le, ⟨?_, ?_, lf_set HT.out.lel hk, by rw [cnt_set_same R k _ x hk]; exact HT.out.cnm, HT.out.top⟩, ?_, fun k hk => .inl hk⟩
      · rw [cnt_set_same R k _ x hk]
        exact (setRow_other _ _ _ _ hne).trans hT1.row
      · rw [hv, List.length_set, ← set_rowA (y := (y1, y2, y3, y4)) hk]
        exact q3
      · have f1 : Fr (fun k => k = g ∨ v.ownBlock = some k) w W0.drew := Fr.ofBelow (HB.out.trans ((belowN (Below.refl _ _) 1).mono HB.out.size))
        exact f1.trans (Fr.setRow _ b _) (fun i _ q => .inr (by rw [q, hv]; rfl))
    obtain ⟨cur, i, hgb, hi, hs, hfit, hT⟩ := hTo
    have HTo := (show Hid _ from hT)
    obtain ⟨c0, c1, c2, c3, c4⟩ := HT.out.cells
    rw [hv] at c4
    have hbB : b ≠ w.heap.size := fun e => by have := hvl b (by rw [hv]; rfl); omega
    have hS : W0.drew.cell? ⟨g, 4, none⟩ = some (.slice (some ⟨b, 0, none⟩) R.length c) ∧ W0.drew.heap[w.heap.size]? = some (.cells #[.int .i64 y1, .int .i64 y2, .int .i64 y3, .int .i64 y4] 38) := ⟨c4, hB0⟩
    clear hT hc hf hv hk h1 h3
    generalize R.length = N at *
    subst hW0
    go_enter Try.func21, Try.ntmps21
    go_wp2_with (first | (go_at_call 52; refine hr.mono ?_; rintro e W ⟨rfl, rfl⟩))
    refine wp_calm ?_
    refine wp_region_ord (S := fun u => u.cell? ⟨g, 4, none⟩ = some (.slice (some ⟨b, 0, none⟩) N c) ∧ u.heap[w.heap.size]? = some (.cells #[.int .i64 y1, .int .i64 y2, .int .i64 y3, .int .i64 y4] 38)) [(0, true), (1, true), (2, true), (3, true), (4, true), (5, true), (6, true), (7, true), (8, false)] (by kernel_rfl) rfl (by kernel_rfl) (fun _ _ _ _ _ h => h) hS ?_
    simp only [inOrd, List.getElem?_cons_zero, List.getElem?_cons_succ]
    refine wpOrd_yield (v := .pointer (some ⟨g, 0, none⟩)) rfl (fun u _ => exec_mv rfl rfl) ?_
    simp only [Act.put, List.setIfInBounds_toArray, List.set_cons_succ, List.set_cons_zero]
    refine wpOrd_yield (v := .pointer (some ⟨g, 0, none⟩)) rfl (fun u _ => by go_simp) ?_
    simp only [Act.put, List.setIfInBounds_toArray, List.set_cons_succ, List.set_cons_zero]
    refine wpOrd_yield (v := .pointer (some ⟨g, 4, none⟩)) rfl (fun u _ => by go_simp) ?_
    simp only [Act.put, List.setIfInBounds_toArray, List.set_cons_succ, List.set_cons_zero]
    refine wpOrd_yield (v := .slice (some ⟨b, 0, none⟩) N c) rfl (fun u hu => (by have h1 := hu.1; go_simp)) ?_
    simp only [Act.put, List.setIfInBounds_toArray, List.set_cons_succ, List.set_cons_zero]
    refine wpOrd_yield (v := .int .i64 (k : Nat)) rfl (fun u _ => exec_mv rfl rfl) ?_
    simp only [Act.put, List.setIfInBounds_toArray, List.set_cons_succ, List.set_cons_zero]
    refine wpOrd_yield (v := .agg #[.int .i64 y1, .int .i64 y2, .int .i64 y3, .int .i64 y4]) rfl (fun u hu => (exec_ldR 38 Try.underlying38 rfl (.tmp 5) rfl w.heap.size rfl _ _ _ infAct hu.2)) ?_
    simp only [Act.put, List.setIfInBounds_toArray, List.set_cons_succ, List.set_cons_zero]
    refine wpOrd_yield (v := .pointer (some ⟨b, k * 5, none⟩)) rfl (fun u _ => by go_simp) ?_
    simp only [Act.put, List.setIfInBounds_toArray, List.set_cons_succ, List.set_cons_zero]
    refine wpOrd_yield (v := .pointer (some ⟨b, k * 5 + 1, none⟩)) rfl (fun u _ => by go_simp) ?_
    simp only [Act.put, List.setIfInBounds_toArray, List.set_cons_succ, List.set_cons_zero]
    refine wpOrd_do rfl (exec_stAt (cs := [.int .i64 y1, .int .i64 y2, .int .i64 y3, .int .i64 y4]) rfl hi hs rfl rfl hgb hfit (by simp [Value.oneCell'])) ⟨(World.cell?_of_block (setRow_other _ _ _ _ hne)).trans hS.1, (setRow_other _ _ _ _ (Ne.symm hbB)).trans hS.2⟩ ?_
    refine wpOrd_nil ?_
    refine noPanic_normal ?_
    go_wp2
    go_ret
    exact ⟨rfl, HTo.out⟩
  · rw [h1] at hr ⊢
    rw [h3]
    clear h1 h3
    subst hW0
    go_enter Try.func21, Try.ntmps21
    go_wp2_with (first | (go_at_call 52; refine hr.mono ?_; rintro e W ⟨rfl, rfl⟩))
    go_ret
    exact ⟨rfl, _, _, HT.out, Fr.ofBelow HB.out, fun k q => .inl q⟩
set_option maxRecDepth 20000 in
set_option maxHeartbeats 2000000 in
theorem open_okA (h : TabA w g v le m R) (hl : R.length ≤ 10000000) (y : Ac) : Calls Try.prog 17 #[.pointer (some ⟨g, 0, none⟩), thA (some y)] w fun e w' => e = .returned (.tuple #[.int .i64 (openN R m), .int .i64 (openE R m)]) ∧ ToA w g v m (openT R m y) w' := by
  obtain ⟨y1, y2, y3, y4⟩ := y
  have hgl := h.lt
  have hvl : ∀ k, v.ownBlock = some k → k < w.heap.size := fun k hk => h.vlt hk
  have HB0 : Hid (Below w.heap.size w (w.alloc (.cells #[.int .i64 y1, .int .i64 y2, .int .i64 y3, .int .i64 y4] 38))) := below_new w _
  have HT : Hid (TabA (w.alloc (.cells #[.int .i64 y1, .int .i64 y2, .int .i64 y3, .int .i64 y4] 38)) g v le m R) := h.later (below_new w _)
  have HX : Hid ((w.alloc (.cells #[.int .i64 y1, .int .i64 y2, .int .i64 y3, .int .i64 y4] 38)).heap[w.heap.size]? = some (.cells #[.int .i64 y1, .int .i64 y2, .int .i64 y3, .int .i64 y4] 38)) := heap_alloc_new _ _
  have hsz0 : (w.alloc (.cells #[.int .i64 y1, .int .i64 y2, .int .i64 y3, .int .i64 y4] 38)).heap.size = w.heap.size + 1 := by simp
  have hful := full_okA HT.out
  have hcm := h.cnm
  have htop := h.top
  obtain ⟨c0, c1, c2, c3, c4⟩ := HT.out.cells
  unfold thA openN openE openT
  by_cases hfu : (cnt R : Int) = m
  · rw [if_pos hfu, if_pos hfu, if_pos hfu]
    rw [show decide ((cnt R : Int) = m) = true from decide_eq_true hfu] at hful
    clear h hcm
    go_enter Try.func17, Try.ntmps17
    go_wp2_with (first | (go_at_call 50; refine (none_noA c0).mono ?_; rintro e W ⟨rfl, rfl⟩) | (go_at_call 24; fail))
    refine hful.mono ?_
    rintro e W1 ⟨rfl, hb⟩
    have HT1 : Hid (TabA W1 g v le m R) := HT.out.later hb
    have HB : Hid (Below w.heap.size w W1) := below_next HB0.out hb
    clear hb hful
    go_wp2
    go_ret2
    exact ⟨rfl, _, _, HT1.out, Fr.ofBelow HB.out, fun k q => .inl q⟩
  · rw [if_neg hfu, if_neg hfu, if_neg hfu]
    rw [show decide ((cnt R : Int) = m) = false from decide_eq_false hfu] at hful
    have hlt : (cnt R : Int) < m := by omega
    clear h hcm
    go_enter Try.func17, Try.ntmps17
    go_wp2_with (first | (go_at_call 50; refine (none_noA c0).mono ?_; rintro e W ⟨rfl, rfl⟩) | (go_at_call 24; fail))
    refine hful.mono ?_
    rintro e W1 ⟨rfl, hb⟩
    have HB : Hid (Below w.heap.size w W1) := below_next HB0.out hb
    have HU : Hid (TabA W1 g v le m R) := HT.out.later hb
    have hX1 : W1.heap[w.heap.size]? = some (.cells #[.int .i64 y1, .int .i64 y2, .int .i64 y3, .int .i64 y4] 38) := heap_kept HX.out hb
    have hszB : w.heap.size < W1.heap.size := by have := hb.size; omega
    clear hb hful c0 c1 c2 c3 c4 HT HX HB0 hsz0
    obtain ⟨c0, c1, c2, c3, c4⟩ := HU.out.cells
    have hfr := free_okA HU.out (by omega)
    have hll := lf_le R
    have hcl := cnt_le R
    have hq0 : cnt R ≤ 10000000 := by omega
    have hes := openR_set R (y1, y2, y3, y4)
    obtain ⟨p, c, hv, _⟩ := HU.out.form
    have HV : Hid (v = .slice p R.length c) := hv
    rw [hv] at c4
    by_cases hlen : lf R = R.length
    · have hq : ((lf R : Int) == (R.length : Int)) = true := by simp [hlen]
      rw [if_pos hlen] at hes
      obtain ⟨v1, Wa, hrun, hown, hfr1, hob⟩ := pushA HU.out.own hl 85
      have rowa := (hfr1.block g HU.out.lt (fun q => own_ne HU.out.own HU.out.row (by decide) q)).trans HU.out.row
      have hXa : Wa.heap[w.heap.size]? = some (.cells #[.int .i64 y1, .int .i64 y2, .int .i64 y3, .int .i64 y4] 38) := (hfr1.block w.heap.size hszB (fun q => by have := hvl _ q; omega)).trans hX1
      obtain ⟨b1, kc, rfl, _⟩ := ownbA hown rfl (by simp)
      have hne1 := rowneA rowa hown
      have rowb := heap_setCell_same Wa g 4 _ _ (.slice (some ⟨b1, 0, none⟩) (R ++ [none]).length kc) rowa
      have hownb := own_frame hown (Fr.setCell Wa g 4 (.slice (some ⟨b1, 0, none⟩) (R ++ [none]).length kc)) (fun i q e => by injection q with q; exact hne1 (e.symm.trans q.symm))
      have hXb : (Wa.setCell ⟨g, 4, none⟩ (.slice (some ⟨b1, 0, none⟩) (R ++ [none]).length kc)).heap[w.heap.size]? = some (.cells #[.int .i64 y1, .int .i64 y2, .int .i64 y3, .int .i64 y4] 38) := (heap_setCell_other _ _ _ _ (by show w.heap.size ≠ g; omega)).trans hXa
      have rowd : (Wa.setCell ⟨g, 4, none⟩ (.slice (some ⟨b1, 0, none⟩) (R ++ [none]).length kc)).drew.heap[g]? = some (.cells (tbA g m (cnt R) le (.slice (some ⟨b1, 0, none⟩) (R ++ [none]).length kc)) 87) := rowb
      have hownd : (Wa.setCell ⟨g, 4, none⟩ (.slice (some ⟨b1, 0, none⟩) (R ++ [none]).length kc)).drew.ownsRow 0 89 5 (.slice (some ⟨b1, 0, none⟩) (R ++ [none]).length kc) (R ++ [none]).length ((R ++ [none]).flatMap enA) := own_later hownb (belowN (Below.refl _ _) 1)
      have hk1 : lf R < (R ++ [none]).length := by rw [List.length_append]; simp; omega
      obtain ⟨b, c', cur, i, hv, hb, hbc, hi, hsz, hfit, hne, e2, e3, y2', y3', hT⟩ := midA (y1, y2, y3, y4) rowd hownd hk1 hes.symm hlt htop
      obtain ⟨rfl, rfl⟩ : b1 = b ∧ kc = c' := by injection hv with q1 q2 q3; injection q1 with q1; injection q1 with q1; exact ⟨q1, q3⟩
      have d0 : Wa.cell? ⟨g, 0, none⟩ = some (.pointer (some ⟨g, 0, none⟩)) := by rw [cell_of_row _ _ _ _ _ _ rowa]; rfl
      have d2 : Wa.cell? ⟨g, 2, none⟩ = some (.int .i64 (cnt R)) := by rw [cell_of_row _ _ _ _ _ _ rowa]; rfl
      have d4 : Wa.cell? ⟨g, 4, none⟩ = some v := by rw [cell_of_row _ _ _ _ _ _ rowa]; rfl
      have z4 := frozen_row rowa 4
      rw [HV.out] at d4 hrun
      have hbB : b1 ≠ w.heap.size := fun e => by
        rcases hob b1 rfl with q | q
        · have := hvl _ q; omega
        · omega
      have hTo : Hid (ToA w g v m (openR R (y1, y2, y3, y4)) ((((Wa.setCell ⟨g, 4, none⟩ (.slice (some ⟨b1, 0, none⟩) (R ++ [none]).length kc)).drew.setRow b1 (putE cur (lf R * 5) (enA (some (y1, y2, y3, y4))))).setCell ⟨g, 2, none⟩ (.int .i64 ((cnt R : Int) + 1))).setCell ⟨g, 3, none⟩ (.int .i64 ((lf R : Int) + 1)))) := by
        have hsz := HB.out.size
        refine ⟨_, _, hT, ?_, fun k hk => ?_⟩
        · have f1 := (Fr.ofBelow (T := fun k => k = g ∨ v.ownBlock = some k) HB.out).trans hfr1 (fun i _ q => .inr q)
          have f2 := f1.trans (Fr.setCell Wa g 4 (.slice (some ⟨b1, 0, none⟩) (R ++ [none]).length kc)) (fun i _ q => .inl q)
          have f2d : Fr (fun k => k = g ∨ v.ownBlock = some k) w (Wa.setCell ⟨g, 4, none⟩ (.slice (some ⟨b1, 0, none⟩) (R ++ [none]).length kc)).drew := ⟨f2.os, f2.tape, f2.output, f2.size, f2.block⟩
          have f3 := f2d.trans (Fr.setRow _ b1 (putE cur (lf R * 5) (enA (some (y1, y2, y3, y4))))) (fun i hi q => by
            subst q
            rcases hob i rfl with q | q
            · exact .inr q
            · omega)
          exact (f3.trans (Fr.setCell _ g 2 _) (fun i _ q => .inl q)).trans (Fr.setCell _ g 3 _) (fun i _ q => .inl q)
        · have hk' : b1 = k := by injection hk
          subst hk'
          rcases hob b1 rfl with q | q
          · exact .inl q
          · exact .inr (by omega)
      have hN1 : lf R < (R ++ [none]).length := by rw [List.length_append]; simp; omega
      have hn0 : lf R ≤ 10000000 := by omega
      have hS : (Wa.setCell ⟨g, 4, none⟩ (.slice (some ⟨b1, 0, none⟩) (R ++ [none]).length kc)).drew.cell? ⟨g, 4, none⟩ = some (.slice (some ⟨b1, 0, none⟩) (R ++ [none]).length kc) ∧ (Wa.setCell ⟨g, 4, none⟩ (.slice (some ⟨b1, 0, none⟩) (R ++ [none]).length kc)).drew.heap[w.heap.size]? = some (.cells #[.int .i64 y1, .int .i64 y2, .int .i64 y3, .int .i64 y4] 38) := ⟨(cell_of_row _ g 4 _ _ _ rowb).trans rfl, hXb⟩
      clear hT hob hfr1 hown hownb hownd rowd hk1 hes hll hl rowa rowb hcl hv hXb hXa hX1
      generalize (R ++ [none]).length = N1 at *
      generalize R.length = N at *
      obtain ⟨n, hn⟩ : ∃ n, lf R = n := ⟨_, rfl⟩
      have HN : Hid (lf R = n) := hn
      rw [hn] at hfr hq hTo hN1 hn0 hlen hfit e2 e3 y2' y3'
      generalize cnt R = q at *
      clear hn
      subst hlen
      go_wp2_with (first | (go_at_call 51; refine hfr.mono ?_; rintro e W2 ⟨rfl, rfl⟩) | (at_builtin; refine wpList_app rfl (.tmp 26) (.tmp 28) rfl rfl rfl hrun ?_))
      refine wp_calm ?_
      refine wp_region_ord (S := fun u => u.cell? ⟨g, 4, none⟩ = some (.slice (some ⟨b1, 0, none⟩) N1 kc) ∧ u.heap[w.heap.size]? = some (.cells #[.int .i64 y1, .int .i64 y2, .int .i64 y3, .int .i64 y4] 38)) [(0, true), (1, true), (2, true), (3, true), (4, true), (5, true), (6, true), (7, true), (8, false)] (by kernel_rfl) rfl (by kernel_rfl) (fun _ _ _ _ _ h => h) hS ?_
      simp only [inOrd, List.getElem?_cons_zero, List.getElem?_cons_succ]
      refine wpOrd_yield (v := .pointer (some ⟨g, 0, none⟩)) rfl (fun u _ => exec_mv rfl rfl) ?_
      simp only [Act.put, List.setIfInBounds_toArray, List.set_cons_succ, List.set_cons_zero]
      refine wpOrd_yield (v := .pointer (some ⟨g, 0, none⟩)) rfl (fun u _ => by go_simp) ?_
      simp only [Act.put, List.setIfInBounds_toArray, List.set_cons_succ, List.set_cons_zero]
      refine wpOrd_yield (v := .pointer (some ⟨g, 4, none⟩)) rfl (fun u _ => by go_simp) ?_
      simp only [Act.put, List.setIfInBounds_toArray, List.set_cons_succ, List.set_cons_zero]
      refine wpOrd_yield (v := .slice (some ⟨b1, 0, none⟩) N1 kc) rfl (fun u hu => (by have h1 := hu.1; go_simp)) ?_
      simp only [Act.put, List.setIfInBounds_toArray, List.set_cons_succ, List.set_cons_zero]
      refine wpOrd_yield (v := .int .i64 (n : Nat)) rfl (fun u _ => exec_mv rfl rfl) ?_
      simp only [Act.put, List.setIfInBounds_toArray, List.set_cons_succ, List.set_cons_zero]
      refine wpOrd_yield (v := .agg #[.int .i64 y1, .int .i64 y2, .int .i64 y3, .int .i64 y4]) rfl (fun u hu => (exec_ldR 38 Try.underlying38 rfl (.tmp 3) rfl w.heap.size rfl _ _ _ infAct hu.2)) ?_
      simp only [Act.put, List.setIfInBounds_toArray, List.set_cons_succ, List.set_cons_zero]
      refine wpOrd_yield (v := .agg #[.bool true, .int .i64 y1, .int .i64 y2, .int .i64 y3, .int .i64 y4]) rfl (fun u _ => by go_simp) ?_
      simp only [Act.put, List.setIfInBounds_toArray, List.set_cons_succ, List.set_cons_zero]
      refine wpOrd_yield (v := .pointer (some ⟨b1, n * 5, none⟩)) rfl (fun u _ => by go_simp) ?_
      simp only [Act.put, List.setIfInBounds_toArray, List.set_cons_succ, List.set_cons_zero]
      refine wpOrd_do rfl (exec_stAt (cs := enA (some (y1, y2, y3, y4))) rfl hi hsz rfl rfl hbc hfit (oneA _)) ⟨(World.cell?_of_block (setRow_other _ _ _ _ hne)).trans hS.1, (setRow_other _ _ _ _ (Ne.symm hbB)).trans hS.2⟩ ?_
      refine wpOrd_nil ?_
      refine noPanic_normal ?_
      go_wp2
      go_ret2
      exact ⟨by rw [HN.out]; rfl, hTo.out⟩
    · have hq : ((lf R : Int) == (R.length : Int)) = false := by simp; omega
      rw [if_neg hlen] at hes
      have rowd : W1.drew.heap[g]? = some (.cells (tbA g m (cnt R) le v) 87) := HU.out.row
      have hownd : W1.drew.ownsRow 0 89 5 v R.length (R.flatMap enA) := own_later HU.out.own (belowN (Below.refl _ _) 1)
      obtain ⟨b, c', cur, i, hvb, hb, hbc, hi, hsz, hfit, hne, e2, e3, y2', y3', hT⟩ := midA (y1, y2, y3, y4) rowd hownd (by omega) hes.symm hlt htop
      obtain ⟨rfl, rfl⟩ : p = some ⟨b, 0, none⟩ ∧ c = c' := by rw [hv] at hvb; injection hvb with q1 q2 q3; exact ⟨q1, q3⟩
      have hnN : lf R < R.length := by omega
      have hn0 : lf R ≤ 10000000 := by omega
      have hbB : b ≠ w.heap.size := fun e => by have := hvl b (by rw [hv]; rfl); omega
      have hTo : Hid (ToA w g v m (openR R (y1, y2, y3, y4)) (((W1.drew.setRow b (putE cur (lf R * 5) (enA (some (y1, y2, y3, y4))))).setCell ⟨g, 2, none⟩ (.int .i64 ((cnt R : Int) + 1))).setCell ⟨g, 3, none⟩ (.int .i64 ((lf R : Int) + 1)))) := by
        refine ⟨_, _, hT, ?_, fun k hk => .inl hk⟩
        have f1 : Fr (fun k => k = g ∨ v.ownBlock = some k) w W1.drew := Fr.ofBelow (belowN HB.out 1)
        have f3 := f1.trans (Fr.setRow _ b (putE cur (lf R * 5) (enA (some (y1, y2, y3, y4))))) (fun i hi q => .inr (by rw [q, hv]; rfl))
        exact (f3.trans (Fr.setCell _ g 2 _) (fun i _ q => .inl q)).trans (Fr.setCell _ g 3 _) (fun i _ q => .inl q)
      have hS : W1.drew.cell? ⟨g, 4, none⟩ = some (.slice (some ⟨b, 0, none⟩) R.length c) ∧ W1.drew.heap[w.heap.size]? = some (.cells #[.int .i64 y1, .int .i64 y2, .int .i64 y3, .int .i64 y4] 38) := ⟨c4, hX1⟩
      clear hT hcl hv hvb hes hll hl hownd rowd hX1
      generalize R.length = N at *
      obtain ⟨n, hn⟩ : ∃ n, lf R = n := ⟨_, rfl⟩
      have HN : Hid (lf R = n) := hn
      rw [hn] at hfr hq hTo hnN hn0 hlen hfit e2 e3 y2' y3'
      generalize cnt R = q at *
      clear hn
      go_wp2_with (first | (go_at_call 51; refine hfr.mono ?_; rintro e W2 ⟨rfl, rfl⟩))
      refine wp_calm ?_
      refine wp_region_ord (S := fun u => u.cell? ⟨g, 4, none⟩ = some (.slice (some ⟨b, 0, none⟩) N c) ∧ u.heap[w.heap.size]? = some (.cells #[.int .i64 y1, .int .i64 y2, .int .i64 y3, .int .i64 y4] 38)) [(0, true), (1, true), (2, true), (3, true), (4, true), (5, true), (6, true), (7, true), (8, false)] (by kernel_rfl) rfl (by kernel_rfl) (fun _ _ _ _ _ h => h) hS ?_
      simp only [inOrd, List.getElem?_cons_zero, List.getElem?_cons_succ]
      refine wpOrd_yield (v := .pointer (some ⟨g, 0, none⟩)) rfl (fun u _ => exec_mv rfl rfl) ?_
      simp only [Act.put, List.setIfInBounds_toArray, List.set_cons_succ, List.set_cons_zero]
      refine wpOrd_yield (v := .pointer (some ⟨g, 0, none⟩)) rfl (fun u _ => by go_simp) ?_
      simp only [Act.put, List.setIfInBounds_toArray, List.set_cons_succ, List.set_cons_zero]
      refine wpOrd_yield (v := .pointer (some ⟨g, 4, none⟩)) rfl (fun u _ => by go_simp) ?_
      simp only [Act.put, List.setIfInBounds_toArray, List.set_cons_succ, List.set_cons_zero]
      refine wpOrd_yield (v := .slice (some ⟨b, 0, none⟩) N c) rfl (fun u hu => (by have h1 := hu.1; go_simp)) ?_
      simp only [Act.put, List.setIfInBounds_toArray, List.set_cons_succ, List.set_cons_zero]
      refine wpOrd_yield (v := .int .i64 (n : Nat)) rfl (fun u _ => exec_mv rfl rfl) ?_
      simp only [Act.put, List.setIfInBounds_toArray, List.set_cons_succ, List.set_cons_zero]
      refine wpOrd_yield (v := .agg #[.int .i64 y1, .int .i64 y2, .int .i64 y3, .int .i64 y4]) rfl (fun u hu => (exec_ldR 38 Try.underlying38 rfl (.tmp 3) rfl w.heap.size rfl _ _ _ infAct hu.2)) ?_
      simp only [Act.put, List.setIfInBounds_toArray, List.set_cons_succ, List.set_cons_zero]
      refine wpOrd_yield (v := .agg #[.bool true, .int .i64 y1, .int .i64 y2, .int .i64 y3, .int .i64 y4]) rfl (fun u _ => by go_simp) ?_
      simp only [Act.put, List.setIfInBounds_toArray, List.set_cons_succ, List.set_cons_zero]
      refine wpOrd_yield (v := .pointer (some ⟨b, n * 5, none⟩)) rfl (fun u _ => by go_simp) ?_
      simp only [Act.put, List.setIfInBounds_toArray, List.set_cons_succ, List.set_cons_zero]
      refine wpOrd_do rfl (exec_stAt (cs := enA (some (y1, y2, y3, y4))) rfl hi hsz rfl rfl hbc hfit (oneA _)) ⟨(World.cell?_of_block (setRow_other _ _ _ _ hne)).trans hS.1, (setRow_other _ _ _ _ (Ne.symm hbB)).trans hS.2⟩ ?_
      refine wpOrd_nil ?_
      refine noPanic_normal ?_
      go_wp2
      go_ret2
      exact ⟨by rw [HN.out]; rfl, hTo.out⟩
set_option maxRecDepth 20000 in
set_option maxHeartbeats 2000000 in
theorem close_okA (h : TabA w g v le m R) (hl : R.length ≤ 10000000) (fd : Int) : Calls Try.prog 19 #[.pointer (some ⟨g, 0, none⟩), .int .i64 fd] w fun e w' => e = .returned (.tuple #[thA (getO R fd), .int .i64 (refV R fd)]) ∧ ToA w g v m (closeR R fd) w' := by
  have HB0 : Hid (Below w.heap.size w (w.alloc (.cells #[.int .i64 0, .int .i64 0, .int .i64 0, .int .i64 0] 38))) := below_new w _
  have HT : Hid (TabA (w.alloc (.cells #[.int .i64 0, .int .i64 0, .int .i64 0, .int .i64 0] 38)) g v le m R) := h.later (below_new w _)
  have HX : Hid ((w.alloc (.cells #[.int .i64 0, .int .i64 0, .int .i64 0, .int .i64 0] 38)).heap[w.heap.size]? = some (.cells #[.int .i64 0, .int .i64 0, .int .i64 0, .int .i64 0] 38)) := heap_alloc_new _ _
  have hgl := h.lt
  have hvl : ∀ k, v.ownBlock = some k → k < w.heap.size := fun k hk => h.vlt hk
  have hr := get_okA HT.out fd
  clear h
  obtain ⟨y1, y2, y3, y4, hy⟩ : ∃ y1 y2 y3 y4 : Int, thA (getO R fd) = .agg #[.int .i64 y1, .int .i64 y2, .int .i64 y3, .int .i64 y4] := by
    cases getO R fd with
    | none => exact ⟨0, 0, 0, 0, rfl⟩
    | some x => exact ⟨_, _, _, _, rfl⟩
  rw [hy] at hr ⊢
  clear hy
  have iA : (Try.prog.info? 38).map (·.size) = some (#[.int .i64 y1, .int .i64 y2, .int .i64 y3, .int .i64 y4] : Array Value).size := infAct
  have iB : (#[.int .i64 0, .int .i64 0, .int .i64 0, .int .i64 0] : Array Value).size = (#[.int .i64 y1, .int .i64 y2, .int .i64 y3, .int .i64 y4] : Array Value).size := rfl
  have iC : (#[.int .i64 y1, .int .i64 y2, .int .i64 y3, .int .i64 y4] : Array Value).all (·.oneCell') = true := by simp [Value.oneCell']
  rcases fd_cases R fd with ⟨k, x, rfl, hk, h1, _, h3, _⟩ | ⟨h1, _, h3, _⟩
  · rw [h3]
    rw [h1] at hr ⊢
    go_enter Try.func19, Try.ntmps19
    go_wp2_with (first | (go_at_call 22; fail))
    refine hr.mono ?_
    rintro e W1 ⟨rfl, hb⟩
    have HT1 : Hid (TabA (W1.alloc (.cells #[.int .i64 y1, .int .i64 y2, .int .i64 y3, .int .i64 y4] 38)) g v le m R) := (HT.out.later hb).later (below_new _ _)
    have HB1 : Hid (Below w.heap.size w (W1.alloc (.cells #[.int .i64 y1, .int .i64 y2, .int .i64 y3, .int .i64 y4] 38))) := below_next (below_next HB0.out hb) (below_new _ _)
    have hszB : w.heap.size < W1.heap.size := by
      have h9 := hb.size
      rw [World.size_alloc] at h9
      omega
    have hX1 : (W1.alloc (.cells #[.int .i64 y1, .int .i64 y2, .int .i64 y3, .int .i64 y4] 38)).heap[w.heap.size]? = some (.cells #[.int .i64 0, .int .i64 0, .int .i64 0, .int .i64 0] 38) := heap_kept (heap_kept HX.out hb) (below_new _ _)
    have hX6 : (W1.alloc (.cells #[.int .i64 y1, .int .i64 y2, .int .i64 y3, .int .i64 y4] 38)).heap[W1.heap.size]? = some (.cells #[.int .i64 y1, .int .i64 y2, .int .i64 y3, .int .i64 y4] 38) := heap_alloc_new _ _
    have hsz2 : (W1.alloc (.cells #[.int .i64 y1, .int .i64 y2, .int .i64 y3, .int .i64 y4] 38)).heap.size = W1.heap.size + 1 := by simp
    clear hb hr HT HB0 HX
    have hkN := (List.getElem?_eq_some_iff.1 hk).1
    have hll := lf_le R
    have hlel := HT1.out.lel
    have hcl := cnt_le R
    obtain ⟨j, hj⟩ : ∃ j, j = min le k := ⟨_, rfl⟩
    obtain ⟨b, c, cur, i, hv, hb, hbc, hi, hsz, hfit, hne, hc1, e2, e3, y2', y3', hT⟩ := midcA HT1.out hk j hj
    have hbl := hvl b (by rw [hv]; rfl)
    have hB0 : ∀ z : Value, ((((W1.alloc (.cells #[.int .i64 y1, .int .i64 y2, .int .i64 y3, .int .i64 y4] 38)).setRow b (putE cur (k * 5) (enA none))).setCell ⟨g, 2, none⟩ (.int .i64 ((cnt R : Int) - 1))).setCell ⟨g, 3, none⟩ z).heap[w.heap.size]? = some (.cells #[.int .i64 0, .int .i64 0, .int .i64 0, .int .i64 0] 38) := fun z => (heap_setCell_other _ _ _ _ (by show w.heap.size ≠ g; omega)).trans ((heap_setCell_other _ _ _ _ (by show w.heap.size ≠ g; omega)).trans ((setRow_other _ _ _ _ (by omega)).trans hX1))
    have hB6 : ∀ z : Value, ((((W1.alloc (.cells #[.int .i64 y1, .int .i64 y2, .int .i64 y3, .int .i64 y4] 38)).setRow b (putE cur (k * 5) (enA none))).setCell ⟨g, 2, none⟩ (.int .i64 ((cnt R : Int) - 1))).setCell ⟨g, 3, none⟩ z).heap[W1.heap.size]? = some (.cells #[.int .i64 y1, .int .i64 y2, .int .i64 y3, .int .i64 y4] 38) := fun z => (heap_setCell_other _ _ _ _ (by show W1.heap.size ≠ g; omega)).trans ((heap_setCell_other _ _ _ _ (by show W1.heap.size ≠ g; omega)).trans ((setRow_other _ _ _ _ (by omega)).trans hX6))
    have hTo : Hid (ToA w g v m (R.set k none) (((((W1.alloc (.cells #[.int .i64 y1, .int .i64 y2, .int .i64 y3, .int .i64 y4] 38)).setRow b (putE cur (k * 5) (enA none))).setCell ⟨g, 2, none⟩ (.int .i64 ((cnt R : Int) - 1))).setCell ⟨g, 3, none⟩ (.int .i64 (j : Int))).setRow w.heap.size #[.int .i64 y1, .int .i64 y2, .int .i64 y3, .int .i64 y4])) := by
      obtain ⟨v', le', t1, t2, t3⟩ := hT
      have hsB := HB1.out.size
      refine ⟨v', le', t1.frame (setRow_other _ _ _ _ (by omega)) fun k hk => setRow_other _ _ _ _ (fun e => ?_), ?_, fun k hk => ?_⟩
      · rcases t3 k hk with q | q
        · have := hvl k q; omega
        · omega
      · exact ((Fr.ofBelow HB1.out).trans t2 (fun _ _ q => q)).trans (Fr.setRow _ w.heap.size _) (fun i hi q => by omega)
      · rcases t3 k hk with q | q
        · exact .inl q
        · exact .inr (by omega)
    obtain ⟨c0, c1, c2, c3, c4⟩ := HT1.out.cells
    have hle0 : le ≤ 10000000 := by omega
    have hc0 : cnt R ≤ 10000000 := by omega
    rw [hv] at c4
    have HJ : Hid (j = min le k) := hj
    clear hk h1 h3 hT hj hcl hlel hll hv hl hX1 hX6 hsz2
    generalize cnt R = q at *
    generalize R.length = N at *
    go_wp2_with (first | (with_reducible refine isStoreR 89 ?_; refine wpList_stAt 89 89 rfl (.tmp 24) (.tmp 23) rfl b (k * 5) (enA none) cur i hi hsz rfl rfl hbc hfit (oneA _) ?_) | (with_reducible refine isLoadR 38 ?_; refine wpList_ldR 38 Try.underlying38 rfl rfl (.tmp 6) rfl W1.heap.size rfl #[.int .i64 y1, .int .i64 y2, .int .i64 y3, .int .i64 y4] 38 (0, 0) iA (hB6 _) ?_) | (with_reducible refine isStoreR 38 ?_; refine wpList_stR 38 rfl (.tmp 4) (.tmp 41) rfl w.heap.size #[.int .i64 y1, .int .i64 y2, .int .i64 y3, .int .i64 y4] #[.int .i64 0, .int .i64 0, .int .i64 0, .int .i64 0] 38 iA iB iC rfl rfl (hB0 _) ?_))
    all_goals refine retCT Try.underlying38 rfl rfl w.heap.size #[.int .i64 y1, .int .i64 y2, .int .i64 y3, .int .i64 y4] 38 infAct rfl (setRow_heap _ _ _ _ _ _ (hB0 _)) rfl ⟨rfl, ?_⟩
    all_goals first | (rw [show j = k by have := HJ.out; omega] at hTo; exact hTo.out) | (rw [show j = le by have := HJ.out; omega] at hTo; exact hTo.out)
  · rw [h3]
    rw [h1] at hr ⊢
    go_enter Try.func19, Try.ntmps19
    go_wp2_with (first | (go_at_call 22; fail))
    refine hr.mono ?_
    rintro e W1 ⟨rfl, hb⟩
    have HT1 : Hid (TabA W1 g v le m R) := HT.out.later hb
    have HB1 : Hid (Below w.heap.size w W1) := below_next HB0.out hb
    have hX1 : W1.heap[w.heap.size]? = some (.cells #[.int .i64 0, .int .i64 0, .int .i64 0, .int .i64 0] 38) := heap_kept HX.out hb
    have hX2 : (W1.alloc (.cells #[.int .i64 y1, .int .i64 y2, .int .i64 y3, .int .i64 y4] 38)).heap[w.heap.size]? = some (.cells #[.int .i64 0, .int .i64 0, .int .i64 0, .int .i64 0] 38) := heap_kept hX1 (below_new _ _)
    clear hb hr HT HB0 HX h1 h3
    have HL : Hid (w.heap.size ≤ W1.heap.size) := HB1.out.size
    have hne : g ≠ w.heap.size ∧ ∀ k, v.ownBlock = some k → k ≠ w.heap.size := ⟨by omega, fun k hk => by have := hvl k hk; omega⟩
    have HNE : Hid (g ≠ w.heap.size ∧ ∀ k, v.ownBlock = some k → k ≠ w.heap.size) := hne
    clear hne hgl hvl
    go_wp2_with (first | (with_reducible refine isStoreR 38 ?_; refine wpList_stR 38 rfl (.tmp 4) (.tmp 16) rfl w.heap.size #[.int .i64 y1, .int .i64 y2, .int .i64 y3, .int .i64 y4] #[.int .i64 0, .int .i64 0, .int .i64 0, .int .i64 0] 38 iA iB iC rfl rfl hX2 ?_))
    refine retCT Try.underlying38 rfl rfl w.heap.size #[.int .i64 y1, .int .i64 y2, .int .i64 y3, .int .i64 y4] 38 infAct rfl (setRow_heap _ _ _ _ _ _ hX2) rfl ⟨rfl, ?_⟩
    refine ⟨v, le, ((HT1.out.later (below_new _ _)).frame (setRow_other _ _ _ _ HNE.out.1) fun k hk => setRow_other _ _ _ _ (HNE.out.2 k hk)), ?_, fun k q => .inl q⟩
    exact (Fr.ofBelow (below_next HB1.out (below_new _ _))).trans (Fr.setRow _ w.heap.size _) (fun i hi q => by omega)
end
end Go.Proofs.Ytbchbappdpbkiaa
