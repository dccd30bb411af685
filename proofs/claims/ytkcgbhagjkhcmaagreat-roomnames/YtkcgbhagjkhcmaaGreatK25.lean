/- Several texts joined, each with its own remark; no condition. -/
import Derived.Test.YtkcgbhagjkhcmaaGreatK23
import Derived.Test.YtkcgbhagjkhcmaaGreatK24
/- Two states that are the same: the document's Same says so. -/
namespace Go.Proofs.YtkcgbhagjkhcmaaGreat
open Go.RowKit Go.Maps
set_option maxRecDepth 20000 in
set_option maxHeartbeats 1000000 in
theorem sameHeld28_none (w : World) (p q : Option Addr) (c d : Nat) : Calls Tryz.prog 127 #[.slice p 0 c, .slice q 0 d] w fun e w' => e = .returned (.bool true) ∧ w' = w := by
  go_enter Tryz.func127, Tryz.ntmps127
  go_wp2
  go_loopw [5] (fun s5 wx => s5 = .int .i64 0 ∧ wx = w) (fun _ _ => 0)
  case atStart => exact ⟨rfl, rfl⟩
  case round =>
    obtain ⟨rfl, rfl⟩ := hrel
    go_wp2
    go_ret
    exact ⟨rfl, rfl⟩
set_option maxRecDepth 20000 in
set_option maxHeartbeats 1000000 in
theorem sameEntries28_eq {w : World} {p q : Option Addr} {es : List (Int × ByteArray)} (c d : Nat) (h1 : LieG enE 2 w p es) (h2 : LieG enE 2 w q es) (hl : es.length ≤ 1000000) : Calls Tryz.prog 128 #[.slice p es.length c, .slice q es.length d] w fun e w' => e = .returned (.bool true) ∧ Below w.heap.size w w' := by
  have H1 : Hid (LieG enE 2 w p es) := h1
  have H2 : Hid (LieG enE 2 w q es) := h2
  clear h1 h2
  generalize hM : es.length = M at *
  have HM : Hid (es.length = M) := hM
  clear hM
  go_enter Tryz.func128, Tryz.ntmps128
  go_wp2
  go_loopw [5] (fun s5 wx => ∃ i : Nat, i ≤ M ∧ s5 = .int .i64 i ∧ Hid (Below w.heap.size w wx)) (fun s5 _ => M - (intOf s5).toNat)
  case atStart => exact ⟨0, by omega, rfl, Below.refl _ _⟩
  case round =>
    obtain ⟨i, hi, rfl, HW⟩ := hrel
    by_cases hi2 : (i : Int) < (M : Int)
    · have hil : i < es.length := by rw [HM.out]; omega
      obtain ⟨g1, rfl, hg1, hc1⟩ := (H1.out.later HW.out) (by omega)
      obtain ⟨g2, rfl, hg2, hc2⟩ := (H2.out.later HW.out) (by omega)
      have he : es[i]? = some es[i] := List.getElem?_eq_getElem hil
      have a0 : wr.cell? ⟨g1, i * 2, none⟩ = some (.int .u16 (es[i]).1) := hc1 i _ he 0 _ rfl
      have a1 : wr.cell? ⟨g1, i * 2 + 1, none⟩ = some (.string (es[i]).2) := hc1 i _ he 1 _ rfl
      have b0 : wr.cell? ⟨g2, i * 2, none⟩ = some (.int .u16 (es[i]).1) := hc2 i _ he 0 _ rfl
      have b1 : wr.cell? ⟨g2, i * 2 + 1, none⟩ = some (.string (es[i]).2) := hc2 i _ he 1 _ rfl
      have hiM : i < M := by omega
      have HW2 : Hid (∀ q, Below w.heap.size w (wr.drewN q)) := fun q => belowN HW.out q
      generalize (es[i]).1 = x at *
      generalize (es[i]).2 = s at *
      clear hc1 hc2 he hil hg1 hg2 HW
      go_upto_region 6 with fail
      go_quiet (fail)
      go_wp2
      exact ⟨⟨i + 1, by omega, by go_num, HW2.out _⟩, by simp [intOf]; omega⟩
    · obtain rfl : i = M := by omega
      go_wp2
      go_ret
      exact ⟨rfl, HW.out⟩
/-- What an item's row says is what another one's says. -/
structure SameIt (w : World) (t u : It) (es : List (Int × ByteArray)) : Prop where
  i : t.i = u.i
  k : t.k = u.k
  lk : t.lk = u.lk
  s : t.s = u.s
  b : t.b = u.b
  d1 : t.m = 0
  d2 : u.m = 0
  n1 : t.n = es.length
  n2 : u.n = es.length
  e1 : LieG enE 2 w t.q es
  e2 : LieG enE 2 w u.q es
  len : es.length ≤ 1000000
theorem SameIt.later {w W : World} {t u : It} {es : List (Int × ByteArray)} (h : SameIt w t u es) (hb : Below w.heap.size w W) : SameIt W t u es := ⟨h.i, h.k, h.lk, h.s, h.b, h.d1, h.d2, h.n1, h.n2, h.e1.later hb, h.e2.later hb, h.len⟩
theorem itC_info (t : It) : (Tryz.prog.info? 105).map (·.size) = some (itCells t).toArray.size := sizeIt
theorem loadI {w : World} {b off : Nat} {t : It} (h : ∀ j u, (itCells t)[j]? = some u → w.cell? ⟨b, off + j, none⟩ = some u) : (Instr.loadAt 105 (.pointer (some ⟨b, off, none⟩))).run Tryz.prog w = .ok (.agg (itCells t).toArray) w :=
  run_loadAt_mid (P := Tryz.prog) w b off 105 (itCells t) _ (fun j v hv => h j v hv) Tryz.underlying105 rfl (by rw [itCells_len]; exact sizeIt)
theorem exec_ldI {o : Oper} {a : Act} {W : World} {x : Operand} {b off : Nat} {t : It} (ho : o.op = .load 105 x) (hx : a.eval x = .pointer (some ⟨b, off, none⟩)) (hg : ∀ j u, (itCells t)[j]? = some u → W.cell? ⟨b, off + j, none⟩ = some u) : (execOp a.eval o).run Tryz.prog W = .ok (.value (.agg (itCells t).toArray)) W := by
  unfold execOp
  simp only [ho, hx, loadI hg, Sem.run_bind, Result.andThen_ok, Sem.run_pure]
set_option maxRecDepth 20000 in
set_option maxHeartbeats 4000000 in
theorem sameItem28_eq {w : World} {t u : It} {es : List (Int × ByteArray)} (h : SameIt w t u es) : Calls Tryz.prog 80 #[.agg (itCells t).toArray, .agg (itCells u).toArray] w fun e w' => e = .returned (.bool true) ∧ Below w.heap.size w w' := by
  obtain ⟨ti, tk, tlk, ts, tb, tp, tm, tc, tq, tn, td⟩ := t
  obtain ⟨ui, uk, ulk, us, ub, up, um, uc, uq, un, ud⟩ := u
  obtain ⟨h1, h2, h3, h4, h5, h6, h7, h8, h9, h10, h11, h12⟩ := h
  simp only at h1 h2 h3 h4 h5 h6 h7 h8 h9 h10 h11
  subst h1 h2 h3 h4 h5 h6 h7 h8 h9
  obtain ⟨A, hA⟩ : ∃ A, A = (w.alloc (.cells (itCells ⟨ti, tk, tlk, ts, tb, tp, 0, tc, tq, es.length, td⟩).toArray 105)).alloc (.cells (itCells ⟨ti, tk, tlk, ts, tb, up, 0, uc, uq, es.length, ud⟩).toArray 105) := ⟨_, rfl⟩
  have hx : A.heap[w.heap.size]? = some (.cells (itCells ⟨ti, tk, tlk, ts, tb, tp, 0, tc, tq, es.length, td⟩).toArray 105) := by rw [hA]; exact heap_kept (heap_alloc_new _ _) (below_new _ _)
  have hy : A.heap[w.heap.size + 1]? = some (.cells (itCells ⟨ti, tk, tlk, ts, tb, up, 0, uc, uq, es.length, ud⟩).toArray 105) := by rw [hA]; exact heap_two _ _ _
  have hb : Below w.heap.size w A := by rw [hA]; exact below_next (below_new _ _) (below_new _ _)
  have HB : Hid _ := hb
  have hse := sameEntries28_eq td ud (h10.later hb) (h11.later hb) h12
  have hsh := sameHeld28_none A tp up tc uc
  have HA : Hid (A = _) := hA
  clear hA h10 h11 h12 hb
  generalize es.length = M at *
  have a0 : A.cell? ⟨w.heap.size, 0, none⟩ = some (.int .i64 ti) := Joins.cell_of_block hx 0
  have a1 : A.cell? ⟨w.heap.size, 1, none⟩ = some (.int .u16 tk) := Joins.cell_of_block hx 1
  have a2 : A.cell? ⟨w.heap.size, 2, none⟩ = some (.int .i64 tlk) := Joins.cell_of_block hx 2
  have a3 : A.cell? ⟨w.heap.size, 3, none⟩ = some (.int .i64 ts) := Joins.cell_of_block hx 3
  have a4 : A.cell? ⟨w.heap.size, 4, none⟩ = some (.int .i64 tb) := Joins.cell_of_block hx 4
  have a5 : A.cell? ⟨w.heap.size, 5, none⟩ = some (.slice tp 0 tc) := Joins.cell_of_block hx 5
  have a6 : A.cell? ⟨w.heap.size, 6, none⟩ = some (.slice tq M td) := Joins.cell_of_block hx 6
  have b0 : A.cell? ⟨w.heap.size + 1, 0, none⟩ = some (.int .i64 ti) := Joins.cell_of_block hy 0
  have b1 : A.cell? ⟨w.heap.size + 1, 1, none⟩ = some (.int .u16 tk) := Joins.cell_of_block hy 1
  have b2 : A.cell? ⟨w.heap.size + 1, 2, none⟩ = some (.int .i64 tlk) := Joins.cell_of_block hy 2
  have b3 : A.cell? ⟨w.heap.size + 1, 3, none⟩ = some (.int .i64 ts) := Joins.cell_of_block hy 3
  have b4 : A.cell? ⟨w.heap.size + 1, 4, none⟩ = some (.int .i64 tb) := Joins.cell_of_block hy 4
  have b5 : A.cell? ⟨w.heap.size + 1, 5, none⟩ = some (.slice up 0 uc) := Joins.cell_of_block hy 5
  have b6 : A.cell? ⟨w.heap.size + 1, 6, none⟩ = some (.slice uq M ud) := Joins.cell_of_block hy 6
  clear hx hy
  go_enter Tryz.func80, Tryz.ntmps80
  go_upto_region 1 with fail
  rw [← HA.out]
  clear HA
  go_wp2_with (first | (go_at_call 127; fail))
  refine hsh.mono ?_
  rintro e W1 ⟨rfl, rfl⟩
  go_wp2_with (first | (go_at_call 128; fail))
  refine hse.mono ?_
  rintro e W2 ⟨rfl, hb⟩
  have HB2 : Hid (Below w.heap.size w W2) := below_next HB.out hb
  clear hse hb hsh a0 a1 a2 a3 a4 a5 a6 b0 b1 b2 b3 b4 b5 b6
  go_wp2
  go_ret
  exact ⟨rfl, HB2.out⟩
structure SameSt (w : World) (p q : Option Addr) (ts us : List It) (E : Nat → List (Int × ByteArray)) : Prop where
  len : us.length = ts.length
  max : ts.length ≤ 1000000
  l1 : LieG itCells 7 w p ts
  l2 : LieG itCells 7 w q us
  eq : ∀ (j : Nat) t u, ts[j]? = some t → us[j]? = some u → SameIt w t u (E j)
set_option maxRecDepth 20000 in
set_option maxHeartbeats 4000000 in
theorem same28_eq {w : World} {p q : Option Addr} {ts us : List It} {E : Nat → List (Int × ByteArray)} (c d : Nat) (fr sp : Int) (h : SameSt w p q ts us E) : Calls Tryz.prog 39 #[.agg (stRow (.slice p ts.length c) fr sp), .agg (stRow (.slice q us.length d) fr sp)] w fun e w' => e = .returned (.bool true) ∧ Below w.heap.size w w' := by
  have HS : Hid _ := h
  have hlen := h.len
  have hmax := h.max
  clear h
  rw [hlen]
  clear hlen
  obtain ⟨M, hM⟩ : ∃ M, ts.length = M := ⟨_, rfl⟩
  have HM : Hid (ts.length = M) := hM
  rw [hM] at hmax ⊢
  clear hM
  obtain ⟨A, hA⟩ : ∃ A, A = (w.alloc (.cells (stRow (.slice p M c) fr sp) 29)).alloc (.cells (stRow (.slice q M d) fr sp) 29) := ⟨_, rfl⟩
  have hx : A.heap[w.heap.size]? = some (.cells (stRow (.slice p M c) fr sp) 29) := by rw [hA]; exact heap_kept (heap_alloc_new _ _) (below_new _ _)
  have hy : A.heap[w.heap.size + 1]? = some (.cells (stRow (.slice q M d) fr sp) 29) := by rw [hA]; exact heap_two _ _ _
  have HB : Hid (Below w.heap.size w A) := by rw [hA]; exact below_next (below_new _ _) (below_new _ _)
  have HX : Hid _ := hx
  have HY : Hid _ := hy
  have HA : Hid (A = _) := hA
  clear hA
  have a0 : A.cell? ⟨w.heap.size, 0, none⟩ = some (.slice p M c) := Joins.cell_of_block hx 0
  have a1 : A.cell? ⟨w.heap.size, 1, none⟩ = some (.int .i64 fr) := Joins.cell_of_block hx 1
  have a2 : A.cell? ⟨w.heap.size, 2, none⟩ = some (.int .i64 sp) := Joins.cell_of_block hx 2
  have b0 : A.cell? ⟨w.heap.size + 1, 0, none⟩ = some (.slice q M d) := Joins.cell_of_block hy 0
  have b1 : A.cell? ⟨w.heap.size + 1, 1, none⟩ = some (.int .i64 fr) := Joins.cell_of_block hy 1
  have b2 : A.cell? ⟨w.heap.size + 1, 2, none⟩ = some (.int .i64 sp) := Joins.cell_of_block hy 2
  clear hx hy
  go_enter Tryz.func39, Tryz.ntmps39
  go_upto_region 1 with fail
  rw [← HA.out]
  clear HA
  go_wp2
  clear a0 a1 a2 b0 b1 b2
  go_loopw [5] (fun s5 wx => ∃ i : Nat, i ≤ M ∧ s5 = .int .i64 i ∧ Hid (Below A.heap.size A wx)) (fun s5 _ => M - (intOf s5).toNat)
  case atStart => exact ⟨0, by omega, rfl, Below.refl _ _⟩
  case round =>
    obtain ⟨i, hi, rfl, HW⟩ := hrel
    have a0 : wr.cell? ⟨w.heap.size, 0, none⟩ = some (.slice p M c) := Joins.cell_of_block (heap_kept HX.out HW.out) 0
    by_cases hi2 : (i : Int) < (M : Int)
    · have hbw := below_next HB.out HW.out
      have hil : i < ts.length := by rw [HM.out]; omega
      have hiu : i < us.length := by rw [HS.out.len]; exact hil
      have ht : ts[i]? = some ts[i] := List.getElem?_eq_getElem hil
      have hu : us[i]? = some us[i] := List.getElem?_eq_getElem hiu
      have hsi := HS.out.eq i _ _ ht hu
      obtain ⟨g1, rfl, hg1, hc1⟩ := HS.out.l1 (by omega)
      obtain ⟨g2, rfl, hg2, hc2⟩ := HS.out.l2 (by omega)
      generalize ts[i] = t at *
      generalize us[i] = u0 at *
      have b0 : wr.cell? ⟨w.heap.size + 1, 0, none⟩ = some (.slice (some ⟨g2, 0, none⟩) M d) := Joins.cell_of_block (heap_kept HY.out HW.out) 0
      have HTc : Hid (∀ x, Below wr.heap.size wr x → (∀ j v, (itCells t)[j]? = some v → x.cell? ⟨g1, i * 7 + j, none⟩ = some v) ∧ (∀ j v, (itCells u0)[j]? = some v → x.cell? ⟨g2, i * 7 + j, none⟩ = some v) ∧ x.cell? ⟨w.heap.size, 0, none⟩ = some (.slice (some ⟨g1, 0, none⟩) M c) ∧ x.cell? ⟨w.heap.size + 1, 0, none⟩ = some (.slice (some ⟨g2, 0, none⟩) M d)) := fun x hx =>
        ⟨fun j v hv => ((below_next hbw hx).cell (p := ⟨g1, i * 7 + j, none⟩) hg1).trans (hc1 i _ ht j v hv), fun j v hv => ((below_next hbw hx).cell (p := ⟨g2, i * 7 + j, none⟩) hg2).trans (hc2 i _ hu j v hv), (hx.cell (p := ⟨w.heap.size, 0, none⟩) (block_lt_of_cell a0)).trans a0, (hx.cell (p := ⟨w.heap.size + 1, 0, none⟩) (block_lt_of_cell b0)).trans b0⟩
      have HSi : Hid (∀ x, Below wr.heap.size wr x → SameIt x t u0 (E i)) := fun x hx => hsi.later (below_next hbw hx)
      have HWx : Hid (∀ x, Below wr.heap.size wr x → Below A.heap.size A x) := fun x hx => below_next HW.out hx
      have hiM : i < M := by omega
      clear hbw ht hu hsi hc1 hc2 hil hiu b0 HW hg1 hg2
      go_upto_region 6 with fail
      clear a0
      refine wp_region_ord (S := fun x => Below wr.heap.size wr x) [(0, true), (1, true), (2, true), (3, true), (4, true), (5, true), (6, true), (7, true), (8, true), (9, true), (10, false), (11, true)] (by kernel_rfl) rfl (by kernel_rfl) (fun d _ _ _ _ h => by cases d <;> exact h) (Below.refl _ _).drew ?_
      have hbd : Below wr.heap.size wr wr.drew := (Below.refl _ _).drew
      generalize wr.drew = X at *
      simp only [inOrd, List.getElem?_cons_zero, List.getElem?_cons_succ]
      refine wpOrd_yield (v := .pointer (some ⟨w.heap.size, 0, none⟩)) rfl (fun u _ => by go_simp) ?_
      simp only [Act.put, List.setIfInBounds_toArray, List.set_cons_succ, List.set_cons_zero]
      refine wpOrd_yield (v := .slice (some ⟨g1, 0, none⟩) M c) rfl (fun u hu => by have := (HTc.out u hu).2.2.1; go_simp) ?_
      simp only [Act.put, List.setIfInBounds_toArray, List.set_cons_succ, List.set_cons_zero]
      refine wpOrd_yield (v := .int .i64 (i : Int)) rfl (fun u _ => exec_mv rfl rfl) ?_
      simp only [Act.put, List.setIfInBounds_toArray, List.set_cons_succ, List.set_cons_zero]
      refine wpOrd_yield (v := .pointer (some ⟨g1, i * 7, none⟩)) rfl (fun u _ => by go_simp) ?_
      simp only [Act.put, List.setIfInBounds_toArray, List.set_cons_succ, List.set_cons_zero]
      refine wpOrd_yield (v := .agg (itCells t).toArray) rfl (fun u hu => exec_ldI rfl rfl (HTc.out u hu).1) ?_
      simp only [Act.put, List.setIfInBounds_toArray, List.set_cons_succ, List.set_cons_zero]
      refine wpOrd_yield (v := .pointer (some ⟨w.heap.size + 1, 0, none⟩)) rfl (fun u _ => by go_simp) ?_
      simp only [Act.put, List.setIfInBounds_toArray, List.set_cons_succ, List.set_cons_zero]
      refine wpOrd_yield (v := .slice (some ⟨g2, 0, none⟩) M d) rfl (fun u hu => by have := (HTc.out u hu).2.2.2; go_simp) ?_
      simp only [Act.put, List.setIfInBounds_toArray, List.set_cons_succ, List.set_cons_zero]
      refine wpOrd_yield (v := .int .i64 (i : Int)) rfl (fun u _ => exec_mv rfl rfl) ?_
      simp only [Act.put, List.setIfInBounds_toArray, List.set_cons_succ, List.set_cons_zero]
      refine wpOrd_yield (v := .pointer (some ⟨g2, i * 7, none⟩)) rfl (fun u _ => by go_simp) ?_
      simp only [Act.put, List.setIfInBounds_toArray, List.set_cons_succ, List.set_cons_zero]
      refine wpOrd_yield (v := .agg (itCells u0).toArray) rfl (fun u hu => exec_ldI rfl rfl (HTc.out u hu).2.1) ?_
      simp only [Act.put, List.setIfInBounds_toArray, List.set_cons_succ, List.set_cons_zero]
      refine wpOrd_call rfl 80 _ _ rfl Tryz.call80 [.agg (itCells t).toArray, .agg (itCells u0).toArray] rfl ?_
      refine (sameItem28_eq (HSi.out X hbd)).mono ?_
      rintro e X2 ⟨rfl, hb2⟩
      refine ⟨_, rfl, below_next hbd hb2, ?_⟩
      simp only [Act.put, List.setIfInBounds_toArray, List.set_cons_succ, List.set_cons_zero]
      refine wpOrd_yield (v := .bool false) rfl (fun u _ => by go_simp) ?_
      simp only [Act.put, List.setIfInBounds_toArray, List.set_cons_succ, List.set_cons_zero]
      refine wpOrd_nil ?_
      have HW2 : Hid (Below A.heap.size A X2) := HWx.out _ (below_next hbd hb2)
      clear hb2 hbd HWx HSi HTc
      go_wp2
      exact ⟨⟨i + 1, by omega, by go_num, HW2.out⟩, by simp [intOf]; omega⟩
    · obtain rfl : i = M := by omega
      have HR : Hid (Below w.heap.size w wr) := below_next HB.out HW.out
      clear HW HX HY HS
      go_wp2
      go_ret
      exact ⟨rfl, HR.out⟩
end Go.Proofs.YtkcgbhagjkhcmaaGreat
/- A disk's image that holds a state, laid without a seed: the document's Laid, over what is said of each item. -/
namespace Go.Proofs.YtkcgbhagjkhcmaaGreat
open Go.RowKit Go.Maps
section
variable {o : Oper} {a : Act} {W W' : World}
theorem exec_mk {ty : TypeId} {x y : Operand} {p q : Value} {v : Value} (ho : o.op = .makeSlice ty x y) (hx : a.eval x = p) (hy : a.eval y = q) (hr : (Instr.makeSlice ty p q).run Tryz.prog W = .ok v W') : (execOp a.eval o).run Tryz.prog W = .ok (.value v) W' := by
  unfold execOp
  simp only [ho, hx, hy, hr, Sem.run_bind, Result.andThen_ok, Sem.run_pure]
theorem exec_box {ty : TypeId} {x : Operand} {cs : Array Value} (ho : o.op = .box ty x) (hx : a.eval x = .agg cs) : (execOp a.eval o).run Tryz.prog W = .ok (.value (.pointer (some ⟨W.heap.size, 0, none⟩))) (W.alloc (.cells cs ty)) := by
  generalize a.eval = E at *
  unfold execOp
  simp only [ho]
  simp [go_sem, hx]
end
theorem wpList_ldI {ops : Array Oper} {rest : List Oper} {o : Oper} {a : Act} {w : World} {Q : Exit → Act → World → Prop} (hw : Region.wanted o (yielded ops a.tmps) = true) (x : Operand) (ho : o.op = .load 105 x) (b off : Nat) (t : It) (hx : a.eval x = .pointer (some ⟨b, off, none⟩)) (hg : ∀ j u, (itCells t)[j]? = some u → w.cell? ⟨b, off + j, none⟩ = some u)
    (h : wpList Tryz.prog ops Q rest (a.put o.dst (.agg (itCells t).toArray)) w) : wpList Tryz.prog ops Q (o :: rest) a w := by
  unfold wpList
  rw [if_pos hw]
  refine .inl ?_
  unfold Oper.wp execOp
  simp only [ho, hx, loadI hg, Sem.run_bind, Result.andThen_ok, Sem.run_pure]
  exact h
def daOf (b l i : Nat) : Nat := 1 + l + (i + 16) / 16 + (b + 8191) / 8192
def baOf (l i : Nat) : Nat := 1 + l + (i + 16) / 16
/-- What is laid of the items, one behind the other. -/
structure Steps (w : World) (n : Nat) (y : Lay) (ts : List It) (Fk : Nat → Nat → Nat → Int) (Uk : Nat → Nat → Bool) (nk : Nat → Nat) : Prop where
  f0 : Fk 0 = noF
  u0 : Uk 0 = allNo
  n0 : nk 0 = 0
  go : ∀ (k : Nat) t, ts[k]? = some t → ∀ W gp gl gu, Below w.heap.size w W → w.heap.size ≤ gp → w.heap.size ≤ gl → w.heap.size ≤ gu → PgAt W gp gl gu n y (Fk k) (Uk k) 1 (nk k) → Calls Tryz.prog 42 #[.pointer (some ⟨gp, 0, none⟩), .agg (itCells t).toArray] W fun e w' => e = .returned (.tuple #[]) ∧ PgAt w' gp gl gu n y (Fk (k + 1)) (Uk (k + 1)) 1 (nk (k + 1)) ∧ PgFr gp gl gu W w'
/-- The page with its superblock. -/
def supF (F : Nat → Nat → Int) (y : Lay) : Nat → Nat → Int := updF F 0 (supP y)
def wantL (da : Nat) (U : Nat → Bool) : Nat → Bool := fun k => decide (k < da) || U k
/-- The whole page. -/
def finF (F : Nat → Nat → Int) (U : Nat → Bool) (y : Lay) (da ba : Nat) (k : Nat) : Nat → Nat → Int := updF (supF F y) ba (bitsR (supF F y ba) (wantL da U) k)
theorem exec_ext0 {o : Oper} {a : Act} {W : World} {x : Operand} {p q : Value} (ho : o.op = .extract x 0) (hx : a.eval x = .tuple #[p, q]) : (execOp a.eval o).run Tryz.prog W = .ok (.value p) W := by
  generalize a.eval = E at *
  unfold execOp
  simp only [ho]
  simp [go_sem, hx]
theorem exec_ext1 {o : Oper} {a : Act} {W : World} {x : Operand} {p q : Value} (ho : o.op = .extract x 1) (hx : a.eval x = .tuple #[p, q]) : (execOp a.eval o).run Tryz.prog W = .ok (.value q) W := by
  generalize a.eval = E at *
  unfold execOp
  simp only [ho]
  simp [go_sem, hx]
theorem finF_zero (F : Nat → Nat → Int) (U : Nat → Bool) (y : Lay) (da ba : Nat) : finF F U y da ba 0 = supF F y := by
  unfold finF bitsR
  funext k
  unfold updF
  split
  · rename_i h; rw [h]
  · rfl
theorem finF_at (F : Nat → Nat → Int) (U : Nat → Bool) (y : Lay) (da ba k : Nat) : finF F U y da ba k ba = bitsR (supF F y ba) (wantL da U) k := by unfold finF; exact updF_at _ _ _
theorem finF_no {F : Nat → Nat → Int} {U : Nat → Bool} {y : Lay} {da ba k : Nat} (h : wantL da U k = false) : finF F U y da ba (k + 1) = finF F U y da ba k := by
  unfold finF
  rw [show bitsR (supF F y ba) (wantL da U) (k + 1) = bitsR (supF F y ba) (wantL da U) k by rw [bitsR, if_neg (by rw [h]; decide)]]
theorem finF_yes {F : Nat → Nat → Int} {U : Nat → Bool} {y : Lay} {da ba k : Nat} (h : wantL da U k = true) : finF F U y da ba (k + 1) = updF (finF F U y da ba k) ba (setP (finF F U y da ba k ba) k) := by
  rw [finF_at]
  unfold finF
  rw [updF_two, show bitsR (supF F y ba) (wantL da U) (k + 1) = setP (bitsR (supF F y ba) (wantL da U) k) k by rw [bitsR, if_pos h]]
theorem finF_byt {F : Nat → Nat → Int} {U : Nat → Bool} {y : Lay} {da ba : Nat} (h : Byt (supF F y ba)) (k : Nat) : Byt (finF F U y da ba k ba) := by rw [finF_at]; exact bitsR_byt h _ k
set_option maxRecDepth 40000 in
set_option maxHeartbeats 16000000 in
theorem laid_zero {w : World} {b l i : Nat} (hg : GeoOk b l i) (hb8 : b ≤ 8192) (hm1 : daOf b l i + 1 < b) {ts : List It} {pi : Option Addr} (ci : Nat) (hts : LieG itCells 7 w pi ts) (hM : ts.length ≤ 1000000) (fr sp : Int) {Fk : Nat → Nat → Nat → Int} {Uk : Nat → Nat → Bool} {nk : Nat → Nat} (hst : Steps w b (layOf b l i) ts Fk Uk nk) (hby : Byt (supF (Fk ts.length) (layOf b l i) (baOf l i))) :
    Calls Tryz.prog 16 #[.agg (geoRow b l i), .agg (stRow (.slice pi ts.length ci) fr sp), .int .i64 0] w fun e w' => ∃ v, e = .returned (.agg (imRow b v)) ∧ OwnH w' w.heap.size v (imgL (finF (Fk ts.length) (Uk ts.length) (layOf b l i) (daOf b l i) (baOf l i) b) b) ∧ Below w.heap.size w w' := by
  have zl := zeroLay
  have zi := zeroIm
  have hg0 := hg
  obtain ⟨g1, g2, g3, g4, g5, g6, g7⟩ := hg0
  have hdaD : daOf b l i = 1 + l + (i + 16) / 16 + (b + 8191) / 8192 := rfl
  have hbaD : baOf l i = 1 + l + (i + 16) / 16 := rfl
  have HyD : Hid ((layOf b l i).dataAt = ((daOf b l i : Nat) : Int)) := rfl
  have HyB : Hid ((layOf b l i).bitsAt = ((baOf l i : Nat) : Int)) := rfl
  have hba : baOf l i < b := by omega
  obtain ⟨da, hda⟩ : ∃ da, daOf b l i = da := ⟨_, rfl⟩
  obtain ⟨ba, hbb⟩ : ∃ ba, baOf l i = ba := ⟨_, rfl⟩
  rw [hda] at HyD hm1 ⊢
  rw [hbb] at HyB hba hby ⊢
  clear hda hbb hdaD hbaD
  obtain ⟨A, hA⟩ : ∃ A, A = ((w.alloc (.cells (geoRow b l i) 26)).alloc (.cells (stRow (.slice pi ts.length ci) fr sp) 29)).alloc (.cells (imRow 0 (.slice none 0 0)) 62) := ⟨_, rfl⟩
  have HgA : Hid (A.heap[w.heap.size]? = some (.cells (geoRow b l i) 26)) := by rw [hA]; exact heap_kept (heap_kept (heap_alloc_new _ _) (below_new _ _)) (below_new _ _)
  have HsA : Hid (A.heap[w.heap.size + 1]? = some (.cells (stRow (.slice pi ts.length ci) fr sp) 29)) := by rw [hA]; exact heap_kept (heap_two _ _ _) (below_new _ _)
  have HrA : Hid (A.heap[w.heap.size + 2]? = some (.cells (imRow 0 (.slice none 0 0)) 62)) := by
    rw [hA]
    have := heap_alloc_new ((w.alloc (.cells (geoRow b l i) 26)).alloc (.cells (stRow (.slice pi ts.length ci) fr sp) 29)) (.cells (imRow 0 (.slice none 0 0)) 62)
    rwa [show ((w.alloc (.cells (geoRow b l i) 26)).alloc (.cells (stRow (.slice pi ts.length ci) fr sp) 29)).heap.size = w.heap.size + 2 by simp] at this
  have HbA : Hid (Below w.heap.size w A) := by rw [hA]; exact below_next (below_next (below_new _ _) (below_new _ _)) (below_new _ _)
  have hof := of03_ok hg A
  have henc := fun W => enc03_ok hg W
  obtain ⟨y, hy⟩ : ∃ y, layOf b l i = y := ⟨_, rfl⟩
  rw [hy] at hof HyD HyB hst hby
  simp only [hy] at henc ⊢
  have HEnc : Hid _ := henc
  have HSt : Hid _ := hst
  have HBy : Hid _ := hby
  have HTs : Hid (LieG itCells 7 w pi ts) := hts
  have HA : Hid (A = _) := hA
  clear hA hy hst hby hts hg henc
  obtain ⟨M, hMM⟩ : ∃ M, ts.length = M := ⟨_, rfl⟩
  have HM : Hid (ts.length = M) := hMM
  rw [hMM] at HsA HA HBy hM ⊢
  clear hMM
  go_enter Tryz.func16, Tryz.ntmps16
  go_upto_region 1 with fail
  rw [← HA.out]
  clear HA
  go_wp2_with (first | (with_reducible refine isLoadR 26 ?_; refine wpList_ldR 26 Tryz.underlying26 rfl rfl (.tmp 3) rfl w.heap.size rfl (geoRow b l i) 26 (0, 0) (geo_info _ _ _) HgA.out ?_) | (go_at_call 17; fail))
  refine hof.mono ?_
  rintro e X ⟨rfl, hbX⟩
  have HgX : Hid _ := heap_kept (heap_kept HgA.out hbX) (below_new X (.cells (layRow y) 49))
  have HsX : Hid _ := heap_kept (heap_kept HsA.out hbX) (below_new X (.cells (layRow y) 49))
  have HrX : Hid _ := heap_kept (heap_kept HrA.out hbX) (below_new X (.cells (layRow y) 49))
  have HbX : Hid (Below w.heap.size w (X.alloc (.cells (layRow y) 49))) := below_next (below_next HbA.out hbX) (below_new _ _)
  have HlX : Hid ((X.alloc (.cells (layRow y) 49)).heap[X.heap.size]? = some (.cells (layRow y) 49)) := heap_alloc_new _ _
  have hgw : w.heap.size + 2 < X.heap.size := Nat.lt_of_lt_of_le (Array.getElem?_eq_some_iff.1 HrA.out).1 hbX.size
  have hszV : (X.alloc (.cells (layRow y) 49)).heap.size = X.heap.size + 1 := by simp
  clear hof hbX HgA HsA HrA HbA
  go_upto_region 4 with (first | (with_reducible refine isStoreR 49 ?_; refine wpList_stNew 49 rfl (.tmp 7) (.tmp 16) rfl X.heap.size (layRow y) (layRow lay0) 49 (lay_info _) (lay_two _ _) (lay_one _) rfl rfl rfl ?_))
  have HsV : Hid _ := hszV
  clear hszV
  generalize X.alloc (.cells (layRow y) 49) = V at *
  generalize X.heap.size = gw at *
  go_cut [9] from 21 to 29 (fun s9 wc => ∃ gp gl gu, s9 = .pointer (some ⟨gp, 0, none⟩) ∧ Hid (LaS w wc gw gp gl gu b y noF allNo 0 0 b l i (.slice pi M ci) fr sp))
  case first =>
    have hq : Below V.heap.size V V.drew := (Below.refl _ _).drew
    refine wp_region_tree (S := fun u => Below V.heap.size V u) (rdT 0 (rdT 1 (rdT 2 (rdT 4 (rdT 5 (altT [(3, altT [(6, rdT 7 (altT [(8, rdT 9 finT)]))]), (6, altT [(3, rdT 7 (altT [(8, rdT 9 finT)]))])])))))) (by kernel_rfl) rfl (by kernel_rfl) (fun d _ _ _ _ h => by cases d <;> exact h) hq ?_
    generalize V.drew = D at *
    have HC : Hid (∀ u : World, Below V.heap.size V u → u.cell? ⟨w.heap.size, 0, none⟩ = some (.int .i64 (b : Int))) := fun u hu => Joins.cell_of_block (heap_kept HgX.out hu) 0
    have hgb := run_makeBlk D b (by omega)
    have hub := run_makeB D b (by omega)
    refine wpT_yield (v := .agg (layRow y)) rfl rfl (fun u hu => run_ldR 49 Tryz.underlying49 rfl (.tmp 7) rfl gw rfl (heap_kept HlX.out hu) (lay_info _)) ?_
    simp only [Act.put, List.setIfInBounds_toArray, List.set_cons_succ, List.set_cons_zero]
    refine wpT_yield (v := .pointer (some ⟨w.heap.size, 0, none⟩)) rfl rfl (fun u _ => by go_simp) ?_
    simp only [Act.put, List.setIfInBounds_toArray, List.set_cons_succ, List.set_cons_zero]
    refine wpT_yield (v := .int .i64 (b : Int)) rfl rfl (fun u hu => by have := HC.out u hu; go_simp) ?_
    simp only [Act.put, List.setIfInBounds_toArray, List.set_cons_succ, List.set_cons_zero]
    refine wpT_yield (v := .pointer (some ⟨w.heap.size, 0, none⟩)) rfl rfl (fun u _ => by go_simp) ?_
    simp only [Act.put, List.setIfInBounds_toArray, List.set_cons_succ, List.set_cons_zero]
    refine wpT_yield (v := .int .i64 (b : Int)) rfl rfl (fun u hu => by have := HC.out u hu; go_simp) ?_
    simp only [Act.put, List.setIfInBounds_toArray, List.set_cons_succ, List.set_cons_zero]
    have hq1 : Below V.heap.size V (D.alloc (.cells (pgCells noF b) 76)) := below_next hq (below_new _ _)
    have hq2 : Below V.heap.size V ((D.alloc (.cells (pgCells noF b) 76)).alloc (.cells (rowB allNo b) 4)) := below_next hq1 (below_new _ _)
    refine wpT_make (v := .slice (some ⟨D.heap.size, 0, none⟩) b b) (w' := D.alloc (.cells (pgCells noF b) 76)) rfl rfl (exec_mk rfl rfl rfl (run_makeBlk D b (by omega))) hq1 ?_ ?_
    · simp only [Act.put, List.setIfInBounds_toArray, List.set_cons_succ, List.set_cons_zero]
      have hs1 : (D.alloc (.cells (pgCells noF b) 76)).heap.size = D.heap.size + 1 := by simp
      have hr2 := run_makeB (D.alloc (.cells (pgCells noF b) 76)) b (by omega)
      rw [hs1] at hr2
      refine wpT_make (v := .slice (some ⟨D.heap.size + 1, 0, none⟩) b b) (w' := (D.alloc (.cells (pgCells noF b) 76)).alloc (.cells (rowB allNo b) 4)) rfl rfl (exec_mk rfl rfl rfl hr2) hq2 ?_ wpT_stop
      simp only [Act.put, List.setIfInBounds_toArray, List.set_cons_succ, List.set_cons_zero]
      refine wpT_yield (v := .agg (pgRow y D.heap.size (D.heap.size + 1) b 0 0 false)) rfl rfl (fun u _ => exec_buildPg rfl rfl rfl rfl) ?_
      simp only [Act.put, List.setIfInBounds_toArray, List.set_cons_succ, List.set_cons_zero]
      have hs2 : ((D.alloc (.cells (pgCells noF b) 76)).alloc (.cells (rowB allNo b) 4)).heap.size = D.heap.size + 2 := by simp
      have hex : ∀ {o : Oper} {a : Act} {x : Operand}, o.op = .box 98 x → a.eval x = .agg (pgRow y D.heap.size (D.heap.size + 1) b 0 0 false) → (execOp a.eval o).run Tryz.prog ((D.alloc (.cells (pgCells noF b) 76)).alloc (.cells (rowB allNo b) 4)) = .ok (.value (.pointer (some ⟨D.heap.size + 2, 0, none⟩))) (((D.alloc (.cells (pgCells noF b) 76)).alloc (.cells (rowB allNo b) 4)).alloc (.cells (pgRow y D.heap.size (D.heap.size + 1) b 0 0 false) 98)) := fun ho hx => by rw [← hs2]; exact exec_box ho hx
      have hq3 : Below V.heap.size V (((D.alloc (.cells (pgCells noF b) 76)).alloc (.cells (rowB allNo b) 4)).alloc (.cells (pgRow y D.heap.size (D.heap.size + 1) b 0 0 false) 98)) := below_next hq2 (below_new _ _)
      refine wpT_make (v := .pointer (some ⟨D.heap.size + 2, 0, none⟩)) (w' := ((D.alloc (.cells (pgCells noF b) 76)).alloc (.cells (rowB allNo b) 4)).alloc (.cells (pgRow y D.heap.size (D.heap.size + 1) b 0 0 false) 98)) rfl rfl (hex rfl rfl) hq3 ?_ wpT_stop
      simp only [Act.put, List.setIfInBounds_toArray, List.set_cons_succ, List.set_cons_zero]
      refine wpT_yield (v := .pointer (some ⟨D.heap.size + 2, 0, none⟩)) rfl rfl (fun u _ => by go_simp) ?_
      simp only [Act.put, List.setIfInBounds_toArray, List.set_cons_succ, List.set_cons_zero]
      refine wpT_fin ?_
      have hgwD : gw < D.heap.size := Nat.lt_of_lt_of_le (Array.getElem?_eq_some_iff.1 HlX.out).1 hq.size
      have HRel : Hid (LaS w (((D.alloc (.cells (pgCells noF b) 76)).alloc (.cells (rowB allNo b) 4)).alloc (.cells (pgRow y D.heap.size (D.heap.size + 1) b 0 0 false) 98)) gw (D.heap.size + 2) D.heap.size (D.heap.size + 1) b y noF allNo 0 0 b l i (.slice pi M ci) fr sp) := by
        refine ⟨heap_kept HgX.out hq3, heap_kept HsX.out hq3, heap_kept HrX.out hq3, heap_kept HlX.out hq3, ⟨?_, heap_kept (heap_kept (heap_alloc_new _ _) (below_new _ _)) (below_new _ _), heap_kept (heap_two _ _ _) (below_new _ _), by omega, by omega, by omega⟩, ⟨hgw, by omega, by omega, by omega⟩, below_next HbX.out hq3⟩
        have := heap_alloc_new ((D.alloc (.cells (pgCells noF b) 76)).alloc (.cells (rowB allNo b) 4)) (.cells (pgRow y D.heap.size (D.heap.size + 1) b 0 0 false) 98)
        rwa [hs2] at this
      clear hq1 hq2 hq3 hex hs1 hs2 hr2
      generalize ((D.alloc (.cells (pgCells noF b) 76)).alloc (.cells (rowB allNo b) 4)).alloc (.cells (pgRow y D.heap.size (D.heap.size + 1) b 0 0 false) 98) = ZZ at HRel ⊢
      go_wp2_with fail
      go_meet
      case rel => exact ⟨_, _, _, rfl, HRel.out⟩
    have hq1 : Below V.heap.size V (D.alloc (.cells (rowB allNo b) 4)) := below_next hq (below_new _ _)
    have hq2 : Below V.heap.size V ((D.alloc (.cells (rowB allNo b) 4)).alloc (.cells (pgCells noF b) 76)) := below_next hq1 (below_new _ _)
    refine wpT_make (v := .slice (some ⟨D.heap.size, 0, none⟩) b b) (w' := D.alloc (.cells (rowB allNo b) 4)) rfl rfl (exec_mk rfl rfl rfl (run_makeB D b (by omega))) hq1 ?_ ?_
    · simp only [Act.put, List.setIfInBounds_toArray, List.set_cons_succ, List.set_cons_zero]
      have hs1 : (D.alloc (.cells (rowB allNo b) 4)).heap.size = D.heap.size + 1 := by simp
      have hr2 := run_makeBlk (D.alloc (.cells (rowB allNo b) 4)) b (by omega)
      rw [hs1] at hr2
      refine wpT_make (v := .slice (some ⟨D.heap.size + 1, 0, none⟩) b b) (w' := (D.alloc (.cells (rowB allNo b) 4)).alloc (.cells (pgCells noF b) 76)) rfl rfl (exec_mk rfl rfl rfl hr2) hq2 ?_ wpT_stop
      simp only [Act.put, List.setIfInBounds_toArray, List.set_cons_succ, List.set_cons_zero]
      refine wpT_yield (v := .agg (pgRow y (D.heap.size + 1) D.heap.size b 0 0 false)) rfl rfl (fun u _ => exec_buildPg rfl rfl rfl rfl) ?_
      simp only [Act.put, List.setIfInBounds_toArray, List.set_cons_succ, List.set_cons_zero]
      have hs2 : ((D.alloc (.cells (rowB allNo b) 4)).alloc (.cells (pgCells noF b) 76)).heap.size = D.heap.size + 2 := by simp
      have hex : ∀ {o : Oper} {a : Act} {x : Operand}, o.op = .box 98 x → a.eval x = .agg (pgRow y (D.heap.size + 1) D.heap.size b 0 0 false) → (execOp a.eval o).run Tryz.prog ((D.alloc (.cells (rowB allNo b) 4)).alloc (.cells (pgCells noF b) 76)) = .ok (.value (.pointer (some ⟨D.heap.size + 2, 0, none⟩))) (((D.alloc (.cells (rowB allNo b) 4)).alloc (.cells (pgCells noF b) 76)).alloc (.cells (pgRow y (D.heap.size + 1) D.heap.size b 0 0 false) 98)) := fun ho hx => by rw [← hs2]; exact exec_box ho hx
      have hq3 : Below V.heap.size V (((D.alloc (.cells (rowB allNo b) 4)).alloc (.cells (pgCells noF b) 76)).alloc (.cells (pgRow y (D.heap.size + 1) D.heap.size b 0 0 false) 98)) := below_next hq2 (below_new _ _)
      refine wpT_make (v := .pointer (some ⟨D.heap.size + 2, 0, none⟩)) (w' := ((D.alloc (.cells (rowB allNo b) 4)).alloc (.cells (pgCells noF b) 76)).alloc (.cells (pgRow y (D.heap.size + 1) D.heap.size b 0 0 false) 98)) rfl rfl (hex rfl rfl) hq3 ?_ wpT_stop
      simp only [Act.put, List.setIfInBounds_toArray, List.set_cons_succ, List.set_cons_zero]
      refine wpT_yield (v := .pointer (some ⟨D.heap.size + 2, 0, none⟩)) rfl rfl (fun u _ => by go_simp) ?_
      simp only [Act.put, List.setIfInBounds_toArray, List.set_cons_succ, List.set_cons_zero]
      refine wpT_fin ?_
      have hgwD : gw < D.heap.size := Nat.lt_of_lt_of_le (Array.getElem?_eq_some_iff.1 HlX.out).1 hq.size
      have HRel : Hid (LaS w (((D.alloc (.cells (rowB allNo b) 4)).alloc (.cells (pgCells noF b) 76)).alloc (.cells (pgRow y (D.heap.size + 1) D.heap.size b 0 0 false) 98)) gw (D.heap.size + 2) (D.heap.size + 1) D.heap.size b y noF allNo 0 0 b l i (.slice pi M ci) fr sp) := by
        refine ⟨heap_kept HgX.out hq3, heap_kept HsX.out hq3, heap_kept HrX.out hq3, heap_kept HlX.out hq3, ⟨?_, heap_kept (heap_two _ _ _) (below_new _ _), heap_kept (heap_kept (heap_alloc_new _ _) (below_new _ _)) (below_new _ _), by omega, by omega, by omega⟩, ⟨hgw, by omega, by omega, by omega⟩, below_next HbX.out hq3⟩
        have := heap_alloc_new ((D.alloc (.cells (rowB allNo b) 4)).alloc (.cells (pgCells noF b) 76)) (.cells (pgRow y (D.heap.size + 1) D.heap.size b 0 0 false) 98)
        rwa [hs2] at this
      clear hq1 hq2 hq3 hex hs1 hs2 hr2
      generalize ((D.alloc (.cells (rowB allNo b) 4)).alloc (.cells (pgCells noF b) 76)).alloc (.cells (pgRow y (D.heap.size + 1) D.heap.size b 0 0 false) 98) = ZZ at HRel ⊢
      go_wp2_with fail
      go_meet
      case rel => exact ⟨_, _, _, rfl, HRel.out⟩
    exact wpT_stop
  case rest =>
    obtain ⟨gp, gl, gu, rfl, HS⟩ := hcut
    clear HgX HsX HrX HbX HlX HsV hgw
    have c0 : wc.cell? ⟨w.heap.size, 0, none⟩ = some (.int .i64 (b : Int)) := Joins.cell_of_block HS.out.geo 0
    have c8 : wc.cell? ⟨gw, 8, none⟩ = some (.int .i64 (da : Int)) := by rw [← HyD.out]; exact Joins.cell_of_block HS.out.lay 8
    obtain ⟨m, hm⟩ : ∃ m, b = da + m := ⟨b - da, by omega⟩
    have e1 : IntKind.i64.wrap ((b : Int) - (da : Int)) = (m : Int) := by rw [IntKind.wrap_i64]; omega
    have e1' : (b : Int) - (da : Int) = (m : Int) := by omega
    have HMm : Hid (b = da + m) := hm
    have hm2 : 1 < m := by omega
    have hm3 : m ≤ 8192 := by omega
    clear hm
    have hpk := pick_zero wc
    go_wp2_with (first | (go_at_call 40; fail))
    refine hpk.mono ?_
    rintro e X1 ⟨rfl, rfl⟩
    clear hpk c0 c8 e1 e1'
    have f12 := frozen_row HS.out.pg.row 12
    have c12 : X1.cell? ⟨gp, 12, none⟩ = some (.int .i64 0) := Joins.cell_of_block HS.out.pg.row 12
    have z1 : (0 : Int).tmod (m : Int) = 0 := by simp
    have hmz : ((m : Int) == 0) = false := by simp; omega
    have hmz' : ¬ (m : Int) = 0 := by omega
    have hmz'' : ¬ m = 0 := by omega
    have HS1 : Hid (LaS w (X1.setCell ⟨gp, 12, none⟩ (.int .i64 0)) gw gp gl gu b y noF allNo 0 0 b l i (.slice pi M ci) fr sp) := HS.out.page (HS.out.pg.setNext 0) ((Fr.setCell _ _ _ _).mono fun _ _ q => .inl q)
    clear HS
    go_upto_region 8 with fail
    generalize X1.setCell ⟨gp, 12, none⟩ (.int .i64 0) = X2 at *
    clear f12 c12
    have f11 := frozen_row HS1.out.pg.row 11
    have c11 : X2.cell? ⟨gp, 11, none⟩ = some (.int .i64 0) := Joins.cell_of_block HS1.out.pg.row 11
    have HS2 : Hid (LaS w (X2.setCell ⟨gp, 11, none⟩ (.int .i64 1)) gw gp gl gu b y noF allNo 1 0 b l i (.slice pi M ci) fr sp) := HS1.out.page (HS1.out.pg.setTurn 1) ((Fr.setCell _ _ _ _).mono fun _ _ q => .inl q)
    clear HS1
    go_wp2
    generalize X2.setCell ⟨gp, 11, none⟩ (.int .i64 1) = X3 at *
    clear f11 c11
    go_loopw [57] (fun _ wx => Hid (LaS w wx gw gp gl gu b y noF allNo 1 0 b l i (.slice pi M ci) fr sp)) (fun _ _ => 0)
    case atStart => exact HS2.out
    case round =>
      have HS : Hid _ := hrel.out
      clear HS2 hrel
      have c11 : wr.cell? ⟨gp, 11, none⟩ = some (.int .i64 1) := Joins.cell_of_block HS.out.pg.row 11
      have hdv := divisor_one m hm2 (by omega) wr
      go_wp2_with (first | (go_at_call 41; fail))
      refine hdv.mono ?_
      rintro e X4 ⟨rfl, hb4⟩
      have HS4 : Hid (LaS w X4 gw gp gl gu b y (Fk 0) (Uk 0) 1 (nk 0) b l i (.slice pi M ci) fr sp) := by
        rw [HSt.out.f0, HSt.out.u0, HSt.out.n0]
        exact HS.out.call hb4
      clear hdv hb4 c11 HS
      go_wp2
      go_loopw [11] (fun s11 wx => ∃ k : Nat, k ≤ M ∧ s11 = .int .i64 k ∧ Hid (LaS w wx gw gp gl gu b y (Fk k) (Uk k) 1 (nk k) b l i (.slice pi M ci) fr sp)) (fun s11 _ => M - (intOf s11).toNat)
      case atStart => exact ⟨0, by omega, rfl, HS4.out⟩
      case round =>
        clear HS4
        obtain ⟨k, hk, rfl, HS⟩ := hrel
        have cs : wr.cell? ⟨w.heap.size + 1, 0, none⟩ = some (.slice pi M ci) := Joins.cell_of_block HS.out.st 0
        have c13 : wr.cell? ⟨gp, 13, none⟩ = some (.bool false) := Joins.cell_of_block HS.out.pg.row 13
        by_cases hk2 : (k : Int) < (M : Int)
        · have hkl : k < ts.length := by rw [HM.out]; omega
          have htk : ts[k]? = some ts[k] := List.getElem?_eq_getElem hkl
          obtain ⟨gi, rfl, hgi, hci⟩ := (HTs.out.later HS.out.bel) (by omega)
          have hct := hci k _ htk
          have hfar := HS.out.far
          have hgo := HSt.out.go k _ htk wr gp gl gu HS.out.bel (by omega) (by omega) (by omega) HS.out.pg
          generalize ts[k] = t at *
          have hkM : k < M := by omega
          clear hci htk hkl hgi hfar
          go_wp2_with (first | (with_reducible refine isLoadR 105 ?_; refine wpList_ldI rfl (.tmp 83) rfl gi (k * 7) t rfl hct ?_) | (go_at_call 42; fail))
          refine hgo.mono ?_
          rintro e X5 ⟨rfl, hp5, hf5⟩
          have HS5 : Hid (LaS w X5 gw gp gl gu b y (Fk (k + 1)) (Uk (k + 1)) 1 (nk (k + 1)) b l i (.slice (some ⟨gi, 0, none⟩) M ci) fr sp) := HS.out.page hp5 hf5
          clear hgo hp5 hf5 HS hct cs c13
          go_wp2
          exact ⟨⟨k + 1, by omega, by go_num, HS5.out⟩, by simp [intOf]; omega⟩
        · obtain rfl : k = M := by omega
          obtain ⟨FM, hFM⟩ : ∃ FM, Fk k = FM := ⟨_, rfl⟩
          obtain ⟨UM, hUM⟩ : ∃ UM, Uk k = UM := ⟨_, rfl⟩
          obtain ⟨nM, hnM⟩ : ∃ nM, nk k = nM := ⟨_, rfl⟩
          rw [hFM, hUM, hnM] at HS
          rw [hFM] at HBy
          have HFM : Hid (Fk k = FM) := hFM
          have HUM : Hid (Uk k = UM) := hUM
          clear hFM hUM hnM HTs HM HSt hk
          go_upto_region 17 with fail
          clear cs c13 hk2
          have HSd : Hid (LaS w wr.drew gw gp gl gu b y FM UM 1 nM b l i (.slice pi k ci) fr sp) := HS.out.call (Below.refl _ _).drew
          have henc := HEnc.out wr.drew
          have p9 : wr.drew.cell? ⟨gp, 9, none⟩ = some (.slice (some ⟨gl, 0, none⟩) b b) := Joins.cell_of_block HSd.out.pg.row 9
          have HLd : Hid (wr.drew.heap[gw]? = some (.cells (layRow y) 49)) := HSd.out.lay
          have hb0 : (0 : Int) < (b : Int) := by omega
          have hb0' : 0 < b := by omega
          clear HEnc HS
          refine wp_region_ord (S := fun u => u.cell? ⟨gp, 9, none⟩ = some (.slice (some ⟨gl, 0, none⟩) b b) ∧ u.heap[gw]? = some (.cells (layRow y) 49)) [(0, true), (1, true), (2, true), (3, true), (4, true), (5, false), (6, true), (7, true), (8, true), (9, true), (10, false)] (by kernel_rfl) rfl (by kernel_rfl) (fun d _ _ _ _ h => by cases d <;> exact h) ⟨p9, HLd.out⟩ ?_
          simp only [inOrd, List.getElem?_cons_zero, List.getElem?_cons_succ]
          refine wpOrd_yield (v := .pointer (some ⟨gp, 0, none⟩)) rfl (fun u _ => exec_mv rfl rfl) ?_
          simp only [Act.put, List.setIfInBounds_toArray, List.set_cons_succ, List.set_cons_zero]
          refine wpOrd_yield (v := .pointer (some ⟨gp, 0, none⟩)) rfl (fun u _ => by go_simp) ?_
          simp only [Act.put, List.setIfInBounds_toArray, List.set_cons_succ, List.set_cons_zero]
          refine wpOrd_yield (v := .pointer (some ⟨gp, 9, none⟩)) rfl (fun u _ => by go_simp) ?_
          simp only [Act.put, List.setIfInBounds_toArray, List.set_cons_succ, List.set_cons_zero]
          refine wpOrd_yield (v := .slice (some ⟨gl, 0, none⟩) b b) rfl (fun u hu => by have := hu.1; go_simp) ?_
          simp only [Act.put, List.setIfInBounds_toArray, List.set_cons_succ, List.set_cons_zero]
          refine wpOrd_yield (v := .agg (layRow y)) rfl (fun u hu => run_ldR 49 Tryz.underlying49 rfl (.tmp 7) rfl gw rfl hu.2 (lay_info _)) ?_
          simp only [Act.put, List.setIfInBounds_toArray, List.set_cons_succ, List.set_cons_zero]
          refine wpOrd_call rfl 43 _ _ rfl Tryz.call43 [.agg (layRow y)] rfl ?_
          refine henc.mono ?_
          rintro e X5 ⟨rfl, hb5⟩
          have HS5 : Hid (LaS w X5 gw gp gl gu b y FM UM 1 nM b l i (.slice pi k ci) fr sp) := HSd.out.call hb5
          refine ⟨_, rfl, ⟨Joins.cell_of_block HS5.out.pg.row 9, HS5.out.lay⟩, ?_⟩
          simp only [Act.put, List.setIfInBounds_toArray, List.set_cons_succ, List.set_cons_zero]
          refine wpOrd_yield (v := .tuple #[.agg (blk (supP y)), .int .i64 0]) rfl (fun u _ => exec_mv rfl rfl) ?_
          simp only [Act.put, List.setIfInBounds_toArray, List.set_cons_succ, List.set_cons_zero]
          refine wpOrd_yield (v := .agg (blk (supP y))) rfl (fun u _ => exec_ext0 rfl rfl) ?_
          simp only [Act.put, List.setIfInBounds_toArray, List.set_cons_succ, List.set_cons_zero]
          refine wpOrd_yield (v := .int .i64 0) rfl (fun u _ => exec_ext1 rfl rfl) ?_
          simp only [Act.put, List.setIfInBounds_toArray, List.set_cons_succ, List.set_cons_zero]
          refine wpOrd_yield (v := .pointer (some ⟨gl, 0, none⟩)) rfl (fun u _ => by go_simp) ?_
          simp only [Act.put, List.setIfInBounds_toArray, List.set_cons_succ, List.set_cons_zero]
          have hth : X5.there gl 0 1024 := by have := HS5.out.pg.there (k := 0) hb0'; rwa [Nat.zero_mul] at this
          have HS6 : Hid (LaS w (X5.setCells gl 0 (blk (supP y)).toList) gw gp gl gu b y (supF FM y) UM 1 nM b l i (.slice pi k ci) fr sp) := by
            have := HS5.out.page (HS5.out.pg.setBlk 0 (supP y)) ((Fr.setCells X5 gl (0 * 1024) (blk (supP y)).toList).mono fun _ _ e => .inr (.inl e))
            rwa [Nat.zero_mul] at this
          refine wpOrd_do rfl (exec_stB rfl rfl rfl hth) ⟨Joins.cell_of_block HS6.out.pg.row 9, HS6.out.lay⟩ ?_
          simp only [Act.put]
          refine wpOrd_nil ?_
          clear hth HS5 hb5 henc HSd HLd p9
          generalize X5.setCells gl 0 (blk (supP y)).toList = X6 at *
          go_wp2
          go_loopw [12] (fun s12 wx => ∃ q : Nat, q ≤ b ∧ s12 = .int .i64 q ∧ Hid (LaS w wx gw gp gl gu b y (finF FM UM y da ba q) UM 1 nM b l i (.slice pi k ci) fr sp)) (fun s12 _ => b - (intOf s12).toNat)
          case atStart => exact ⟨0, by omega, rfl, by rw [finF_zero]; exact HS6.out⟩
          case round =>
            clear HS6
            obtain ⟨q, hq, rfl, HS⟩ := hrel
            have c0 : wr.cell? ⟨w.heap.size, 0, none⟩ = some (.int .i64 (b : Int)) := Joins.cell_of_block HS.out.geo 0
            by_cases hq2 : (q : Int) < (b : Int)
            · have hqb : q < b := by omega
              have c8 : wr.cell? ⟨gw, 8, none⟩ = some (.int .i64 (da : Int)) := by rw [← HyD.out]; exact Joins.cell_of_block HS.out.lay 8
              have c10 : wr.cell? ⟨gp, 10, none⟩ = some (.slice (some ⟨gu, 0, none⟩) b b) := Joins.cell_of_block HS.out.pg.row 10
              have cu := cell_rowB (i := q) HS.out.pg.used hqb
              go_upto_region 21 with fail
              go_cut [119] from 107 to 119 (fun s wc => wc = wr ∧ s = .bool (wantL da UM q))
              case first =>
                have HWl : Hid (wantL da UM q = (decide (q < da) || UM q)) := rfl
                generalize wantL da UM q = wv at *
                generalize UM q = uv at *
                by_cases hqd : (q : Int) < (da : Int)
                · have hw1 : wv = true := by rw [HWl.out, decide_eq_true (show q < da by omega)]; rfl
                  clear HWl
                  subst hw1
                  go_wp2_with fail
                  go_meet
                  case rel => exact ⟨rfl, rfl⟩
                · have hw1 : wv = uv := by rw [HWl.out, decide_eq_false (show ¬ q < da by omega)]; rfl
                  clear HWl
                  subst hw1
                  go_wp2_with fail
                  go_meet
                  case rel => exact ⟨rfl, rfl⟩
              case rest =>
                obtain ⟨rfl, rfl⟩ := hcut
                clear c0 c8 c10 cu
                cases hwv : wantL da UM q with
                | false =>
                  have HF : Hid (LaS w wc gw gp gl gu b y (finF FM UM y da ba (q + 1)) UM 1 nM b l i (.slice pi k ci) fr sp) := by rw [finF_no hwv]; exact HS.out
                  clear HS
                  go_wp2
                  exact ⟨⟨q + 1, by omega, by go_num, HF.out⟩, by simp [intOf]; omega⟩
                | true =>
                  have HSd : Hid (LaS w wc.drew gw gp gl gu b y (finF FM UM y da ba q) UM 1 nM b l i (.slice pi k ci) fr sp) := HS.out.call (Below.refl _ _).drew
                  have HFn : Hid (finF FM UM y da ba (q + 1) = updF (finF FM UM y da ba q) ba (setP ((finF FM UM y da ba q) ba) q)) := finF_yes hwv
                  have HBf : Hid (Byt ((finF FM UM y da ba q) ba)) := finF_byt HBy.out q
                  clear HS hwv
                  obtain ⟨FQ, hFQ⟩ : ∃ FQ, finF FM UM y da ba q = FQ := ⟨_, rfl⟩
                  obtain ⟨FN, hFN⟩ : ∃ FN, finF FM UM y da ba (q + 1) = FN := ⟨_, rfl⟩
                  have HFN : Hid (finF FM UM y da ba (q + 1) = FN) := hFN
                  rw [hFQ] at HSd HBf
                  rw [hFQ, hFN] at HFn
                  clear hFQ hFN
                  have p9 : wc.drew.cell? ⟨gp, 9, none⟩ = some (.slice (some ⟨gl, 0, none⟩) b b) := Joins.cell_of_block HSd.out.pg.row 9
                  have p6 : wc.drew.cell? ⟨gw, 6, none⟩ = some (.int .i64 (ba : Int)) := by rw [← HyB.out]; exact Joins.cell_of_block HSd.out.lay 6
                  have q1 : (q : Int).tdiv 8192 = 0 := Int.tdiv_eq_zero_of_lt (by omega) (by omega)
                  have q2 : (q : Int).tmod 8192 = (q : Int) := Int.tmod_eq_of_lt (by omega) (by omega)
                  have q3 : IntKind.i64.wrap (q : Int) = (q : Int) := by rw [IntKind.wrap_i64]; omega
                  have q0 : IntKind.i64.wrap (0 : Int) = 0 := by decide
                  have q4 : IntKind.i64.wrap (ba : Int) = (ba : Int) := by rw [IntKind.wrap_i64]; omega
                  have q5 : (ba : Int) < (b : Int) := by omega
                  have hset := set02_any (FQ ba) q wc.drew HBf.out (by omega)
                  have hnum := HSd.out.pg.blkAt hba
                  go_upto_region 22 with fail
                  refine wp_region_ord (S := fun u => u.cell? ⟨gp, 9, none⟩ = some (.slice (some ⟨gl, 0, none⟩) b b) ∧ u.cell? ⟨gw, 6, none⟩ = some (.int .i64 (ba : Int))) [(0, true), (1, true), (2, true), (3, true), (4, true), (5, true), (6, true), (7, true), (8, true), (9, true), (10, true), (11, true), (12, true), (13, true), (14, true), (15, true), (16, true), (17, true), (18, true), (20, true), (21, true), (19, false), (22, false), (23, true), (24, false)] (by kernel_rfl) rfl (by kernel_rfl) (fun d _ _ _ _ h => by cases d <;> exact h) ⟨p9, p6⟩ ?_
                  simp only [inOrd, List.getElem?_cons_zero, List.getElem?_cons_succ]
                  refine wpOrd_yield (v := .pointer (some ⟨gp, 0, none⟩)) rfl (fun u _ => exec_mv rfl rfl) ?_
                  simp only [Act.put, List.setIfInBounds_toArray, List.set_cons_succ, List.set_cons_zero]
                  refine wpOrd_yield (v := .pointer (some ⟨gp, 0, none⟩)) rfl (fun u _ => by go_simp) ?_
                  simp only [Act.put, List.setIfInBounds_toArray, List.set_cons_succ, List.set_cons_zero]
                  refine wpOrd_yield (v := .pointer (some ⟨gp, 9, none⟩)) rfl (fun u _ => by go_simp) ?_
                  simp only [Act.put, List.setIfInBounds_toArray, List.set_cons_succ, List.set_cons_zero]
                  refine wpOrd_yield (v := .slice (some ⟨gl, 0, none⟩) b b) rfl (fun u hu => by have := hu.1; go_simp) ?_
                  simp only [Act.put, List.setIfInBounds_toArray, List.set_cons_succ, List.set_cons_zero]
                  refine wpOrd_yield (v := .pointer (some ⟨gw, 6, none⟩)) rfl (fun u _ => by go_simp) ?_
                  simp only [Act.put, List.setIfInBounds_toArray, List.set_cons_succ, List.set_cons_zero]
                  refine wpOrd_yield (v := .int .i64 (ba : Int)) rfl (fun u hu => by have := hu.2; go_simp) ?_
                  simp only [Act.put, List.setIfInBounds_toArray, List.set_cons_succ, List.set_cons_zero]
                  refine wpOrd_yield (v := .int .i64 (q : Int)) rfl (fun u _ => exec_mv rfl rfl) ?_
                  simp only [Act.put, List.setIfInBounds_toArray, List.set_cons_succ, List.set_cons_zero]
                  refine wpOrd_yield (v := .int .i64 0) rfl (fun u _ => by go_simp) ?_
                  simp only [Act.put, List.setIfInBounds_toArray, List.set_cons_succ, List.set_cons_zero]
                  refine wpOrd_yield (v := .int .i64 (ba : Int)) rfl (fun u _ => by go_simp) ?_
                  simp only [Act.put, List.setIfInBounds_toArray, List.set_cons_succ, List.set_cons_zero]
                  refine wpOrd_yield (v := .pointer (some ⟨gp, 0, none⟩)) rfl (fun u _ => exec_mv rfl rfl) ?_
                  simp only [Act.put, List.setIfInBounds_toArray, List.set_cons_succ, List.set_cons_zero]
                  refine wpOrd_yield (v := .pointer (some ⟨gp, 0, none⟩)) rfl (fun u _ => by go_simp) ?_
                  simp only [Act.put, List.setIfInBounds_toArray, List.set_cons_succ, List.set_cons_zero]
                  refine wpOrd_yield (v := .pointer (some ⟨gp, 9, none⟩)) rfl (fun u _ => by go_simp) ?_
                  simp only [Act.put, List.setIfInBounds_toArray, List.set_cons_succ, List.set_cons_zero]
                  refine wpOrd_yield (v := .slice (some ⟨gl, 0, none⟩) b b) rfl (fun u hu => by have := hu.1; go_simp) ?_
                  simp only [Act.put, List.setIfInBounds_toArray, List.set_cons_succ, List.set_cons_zero]
                  refine wpOrd_yield (v := .pointer (some ⟨gw, 6, none⟩)) rfl (fun u _ => by go_simp) ?_
                  simp only [Act.put, List.setIfInBounds_toArray, List.set_cons_succ, List.set_cons_zero]
                  refine wpOrd_yield (v := .int .i64 (ba : Int)) rfl (fun u hu => by have := hu.2; go_simp) ?_
                  simp only [Act.put, List.setIfInBounds_toArray, List.set_cons_succ, List.set_cons_zero]
                  refine wpOrd_yield (v := .int .i64 (q : Int)) rfl (fun u _ => exec_mv rfl rfl) ?_
                  simp only [Act.put, List.setIfInBounds_toArray, List.set_cons_succ, List.set_cons_zero]
                  refine wpOrd_yield (v := .int .i64 0) rfl (fun u _ => by go_simp) ?_
                  simp only [Act.put, List.setIfInBounds_toArray, List.set_cons_succ, List.set_cons_zero]
                  refine wpOrd_yield (v := .int .i64 (ba : Int)) rfl (fun u _ => by go_simp) ?_
                  simp only [Act.put, List.setIfInBounds_toArray, List.set_cons_succ, List.set_cons_zero]
                  refine wpOrd_yield (v := .pointer (some ⟨gl, ba * 1024, none⟩)) rfl (fun u _ => by go_simp) ?_
                  simp only [Act.put, List.setIfInBounds_toArray, List.set_cons_succ, List.set_cons_zero]
                  refine wpOrd_yield (v := .int .i64 (q : Int)) rfl (fun u _ => exec_mv rfl rfl) ?_
                  simp only [Act.put, List.setIfInBounds_toArray, List.set_cons_succ, List.set_cons_zero]
                  refine wpOrd_yield (v := .int .i64 (q : Int)) rfl (fun u _ => by go_simp) ?_
                  simp only [Act.put, List.setIfInBounds_toArray, List.set_cons_succ, List.set_cons_zero]
                  refine wpOrd_act (W' := wc.drew) rfl (exec_ldB (f := FQ ba) rfl rfl hnum) ⟨p9, p6⟩ ?_
                  simp only [Act.put, List.setIfInBounds_toArray, List.set_cons_succ, List.set_cons_zero]
                  refine wpOrd_call rfl 44 _ _ rfl Tryz.call44 [.agg (blk (FQ ba)), .int .i64 (q : Int), .bool true] rfl ?_
                  refine hset.mono ?_
                  rintro e X5 ⟨rfl, hb5⟩
                  have HS5 : Hid (LaS w X5 gw gp gl gu b y FQ UM 1 nM b l i (.slice pi k ci) fr sp) := HSd.out.call hb5
                  have r6 : X5.cell? ⟨gw, 6, none⟩ = some (.int .i64 (ba : Int)) := by rw [← HyB.out]; exact Joins.cell_of_block HS5.out.lay 6
                  refine ⟨_, rfl, ⟨Joins.cell_of_block HS5.out.pg.row 9, r6⟩, ?_⟩
                  simp only [Act.put, List.setIfInBounds_toArray, List.set_cons_succ, List.set_cons_zero]
                  refine wpOrd_yield (v := .pointer (some ⟨gl, ba * 1024, none⟩)) rfl (fun u _ => by go_simp) ?_
                  simp only [Act.put, List.setIfInBounds_toArray, List.set_cons_succ, List.set_cons_zero]
                  have hth : X5.there gl (ba * 1024) 1024 := HS5.out.pg.there hba
                  have HS6 : Hid (LaS w (X5.setCells gl (ba * 1024) (blk (setP (FQ ba) q)).toList) gw gp gl gu b y FN UM 1 nM b l i (.slice pi k ci) fr sp) := by
                    have := HS5.out.page (HS5.out.pg.setBlk ba (setP (FQ ba) q)) ((Fr.setCells X5 gl (ba * 1024) (blk (setP (FQ ba) q)).toList).mono fun _ _ e => .inr (.inl e))
                    rwa [← HFn.out] at this
                  have r6' : (X5.setCells gl (ba * 1024) (blk (setP (FQ ba) q)).toList).cell? ⟨gw, 6, none⟩ = some (.int .i64 (ba : Int)) := by rw [← HyB.out]; exact Joins.cell_of_block HS6.out.lay 6
                  refine wpOrd_do rfl (exec_stB rfl rfl rfl hth) ⟨Joins.cell_of_block HS6.out.pg.row 9, r6'⟩ ?_
                  simp only [Act.put]
                  refine wpOrd_nil ?_
                  clear hth HS5 hb5 hset hnum HSd p9 p6 r6 r6'
                  generalize X5.setCells gl (ba * 1024) (blk (setP (FQ ba) q)).toList = X6 at *
                  go_wp2
                  exact ⟨⟨q + 1, by omega, by go_num, by rw [HFN.out]; exact HS6.out⟩, by simp [intOf]; omega⟩
            · obtain rfl : q = b := by omega
              have p9 : wr.cell? ⟨gp, 9, none⟩ = some (.slice (some ⟨gl, 0, none⟩) q q) := Joins.cell_of_block HS.out.pg.row 9
              have him := image_any HS.out.pg.blks (by omega)
              obtain ⟨FZ, hFZ⟩ : ∃ FZ, finF FM UM y da ba q = FZ := ⟨_, rfl⟩
              have HFZ : Hid (finF FM UM y da ba q = FZ) := hFZ
              rw [hFZ] at him
              clear hFZ
              go_wp2_with (first | (go_at_call 46; fail))
              refine him.mono ?_
              rintro e X8 ⟨v, rfl, ho, hb8'⟩
              obtain ⟨pv, cv, rfl, _⟩ := OwnG.lie celRow_len ho
              have hr8 := heap_kept HS.out.res hb8'
              have HO : Hid (OwnH X8 wr.heap.size (.slice pv _ cv) (imgL FZ q)) := ho
              have HB8 : Hid (Below w.heap.size w X8) := below_next HS.out.bel hb8'
              have hwsz := HS.out.far
              have hgpl := (Array.getElem?_eq_some_iff.1 HS.out.lay).1
              clear him ho hb8' HS p9 c0
              generalize (imgL FZ q).length = LL at *
              go_wp2_with (first | (with_reducible refine isStoreR 62 ?_; refine wpList_stR 62 rfl (.tmp 6) (.tmp 184) rfl (w.heap.size + 2) (imRow q (.slice pv LL cv)) (imRow 0 (.slice none 0 0)) 62 (imr_info _ _) (imr_two _ _ _ _) (imr_one _ _ _ _) rfl rfl hr8 ?_))
              have hF := Fr.setRow X8 (w.heap.size + 2) (imRow q (.slice pv LL cv))
              exact retR Tryz.underlying62 rfl rfl (w.heap.size + 2) _ 62 (imr_info _ _) rfl (setRow_heap _ _ _ _ _ _ hr8) rfl ⟨_, rfl, by rw [HFM.out, HUM.out, HFZ.out]; exact OwnG.mono (own_frame HO.out hF fun b hb hT => own_ne HO.out hr8 (by decide) (hT ▸ hb)) (by omega), HB8.out.trans (hF.below (fun j q => by omega) HB8.out.size)⟩
end Go.Proofs.YtkcgbhagjkhcmaaGreat
/- May a state be: the document's Laid, Look and Same in a row. -/
namespace Go.Proofs.YtkcgbhagjkhcmaaGreat
open Go.RowKit Go.Maps
theorem Steps.later {w A : World} {n : Nat} {y : Lay} {ts : List It} {Fk : Nat → Nat → Nat → Int} {Uk : Nat → Nat → Bool} {nk : Nat → Nat} (h : Steps w n y ts Fk Uk nk) (hb : Below w.heap.size w A) : Steps A n y ts Fk Uk nk :=
  ⟨h.f0, h.u0, h.n0, fun k t ht W gp gl gu hW h1 h2 h3 hP => h.go k t ht W gp gl gu (below_next hb hW) (Nat.le_trans hb.size h1) (Nat.le_trans hb.size h2) (Nat.le_trans hb.size h3) hP⟩
theorem SameSt.later {w W : World} {p q : Option Addr} {ts us : List It} {E : Nat → List (Int × ByteArray)} (h : SameSt w p q ts us E) (hb : Below w.heap.size w W) : SameSt W p q ts us E := ⟨h.len, h.max, h.l1.later hb, h.l2.later hb, fun j t u h1 h2 => (h.eq j t u h1 h2).later hb⟩
/-- The image of a state laid without a seed. -/
def laidL (b l i : Nat) (F : Nat → Nat → Int) (U : Nat → Bool) : List Cel := imgL (finF F U (layOf b l i) (daOf b l i) (baOf l i) b) b
set_option maxRecDepth 40000 in
set_option maxHeartbeats 4000000 in
theorem may_ok {w : World} {b l i nN bB : Nat} (hg : GeoOk b l i) (hb8 : b ≤ 8192) (hm1 : daOf b l i + 1 < b) {ts : List It} {pi : Option Addr} (ci : Nat) (hts : LieG itCells 7 w pi ts) (hM : ts.length ≤ 1000000) (fr sp : Int) {Fk : Nat → Nat → Nat → Int} {Uk : Nat → Nat → Bool} {nk : Nat → Nat} (hst : Steps w b (layOf b l i) ts Fk Uk nk) (hby : Byt (supF (Fk ts.length) (layOf b l i) (baOf l i)))
    {im : List Cel} (him : laidL b l i (Fk ts.length) (Uk ts.length) = im) {ent : Fl → List (Int × ByteArray)} (hw : WholeOk (b : Int) im) (hs : SupOk b l i im) (hbyt : ∀ c ∈ im, ∀ i, 0 ≤ c.2 i ∧ c.2 i ≤ 255) (hf : FineA (layOf b l i) im i nN b bB ent) (R : World → Fl → It → Prop)
    (hR : ∀ g A L, L.map Fl.core = filesK (layOf b l i) im i → Aud A g (b : Int) im (layOf b l i) → (∀ x ∈ L, FlOk A x) → Tells R g A L)
    (hsame : ∀ W B L v us, L.map Fl.core = filesK (layOf b l i) im i → LkR W B R L v us → Below w.heap.size w W → freeK (layOf b l i) L L.length = fr ∧ (i : Int) - (L.length : Int) = sp ∧ ∃ pv cv E, v = .slice pv us.length cv ∧ SameSt W pv pi us ts E ∧ us.length = ts.length) :
    Calls Tryz.prog 15 #[.agg (geoRow b l i), .agg (stRow (.slice pi ts.length ci) fr sp)] w fun e w' => e = .returned (.bool true) ∧ Below w.heap.size w w' := by
  have zi := zeroIm
  have zs := zeroSt
  have hb0 : ¬ (b : Int) = 0 := by omega
  have hb0' : ¬ b = 0 := by omega
  have hb0'' : ((b : Int) == 0) = false := by simp; omega
  obtain ⟨A, hA⟩ : ∃ A, A = (w.alloc (.cells (geoRow b l i) 26)).alloc (.cells (stRow (.slice pi ts.length ci) fr sp) 29) := ⟨_, rfl⟩
  have HgA : Hid (A.heap[w.heap.size]? = some (.cells (geoRow b l i) 26)) := by rw [hA]; exact heap_kept (heap_alloc_new _ _) (below_new _ _)
  have HsA : Hid (A.heap[w.heap.size + 1]? = some (.cells (stRow (.slice pi ts.length ci) fr sp) 29)) := by rw [hA]; exact heap_two _ _ _
  have HbA : Hid (Below w.heap.size w A) := by rw [hA]; exact below_next (below_new _ _) (below_new _ _)
  have hlaid := laid_zero hg hb8 hm1 ci (hts.later HbA.out) hM fr sp (hst.later HbA.out) hby
  rw [show imgL (finF (Fk ts.length) (Uk ts.length) (layOf b l i) (daOf b l i) (baOf l i) b) b = im from him] at hlaid
  have HLook : Hid (∀ W p cap, ImgAt W p im → Calls Tryz.prog 38 #[.agg #[.int .i64 (b : Int), .slice p im.length cap]] W fun e w' => ∃ L v ts, e = .returned (.tuple #[.agg (stRow v (freeK (layOf b l i) L L.length) ((i : Int) - (L.length : Int))), .slice none 0 0]) ∧ L.map Fl.core = filesK (layOf b l i) im i ∧ LkR w' W.heap.size R L v ts ∧ Below W.heap.size W w') := fun W p cap hi => look29_ok hi hw hs (Int.le_refl _) hbyt hf R hR
  have HSame : Hid _ := hsame
  have HA : Hid (A = _) := hA
  clear hA hst hby hts hf hs hw hR hbyt hsame him
  obtain ⟨M, hMM⟩ : ∃ M, ts.length = M := ⟨_, rfl⟩
  have HM : Hid (ts.length = M) := hMM
  rw [hMM] at HsA HA hM hlaid ⊢
  clear hMM
  go_enter Tryz.func15, Tryz.ntmps15
  go_upto_region 1 with fail
  rw [← HA.out]
  clear HA
  go_wp2_with (first | (with_reducible refine isLoadR 26 ?_; refine wpList_ldR 26 Tryz.underlying26 rfl rfl (.tmp 2) rfl w.heap.size rfl (geoRow b l i) 26 (0, 0) (geo_info _ _ _) HgA.out ?_) | (with_reducible refine isLoadR 29 ?_; refine wpList_ldR 29 Tryz.underlying29 rfl rfl (.tmp 3) rfl (w.heap.size + 1) rfl (stRow (.slice pi M ci) fr sp) 29 (0, 0) (st_info _ _ _) HsA.out ?_) | (go_at_call 16; fail))
  refine hlaid.mono ?_
  rintro e X ⟨v, rfl, hown, hbX⟩
  obtain ⟨p, c, rfl, himg⟩ := OwnH.img hown
  have HsX : Hid _ := heap_kept (heap_kept HsA.out hbX) (below_new X (.cells (imRow b (.slice p im.length c)) 62))
  have HiX : Hid (ImgAt (X.alloc (.cells (imRow b (.slice p im.length c)) 62)) p im) := himg.later (below_new _ _)
  have HrX : Hid ((X.alloc (.cells (imRow b (.slice p im.length c)) 62)).heap[X.heap.size]? = some (.cells (imRow b (.slice p im.length c)) 62)) := heap_alloc_new _ _
  have HbX : Hid (Below w.heap.size w (X.alloc (.cells (imRow b (.slice p im.length c)) 62))) := below_next (below_next HbA.out hbX) (below_new _ _)
  clear hlaid hown himg hbX HgA HsA HbA
  obtain ⟨N, hN⟩ : ∃ N, im.length = N := ⟨_, rfl⟩
  rw [hN] at HsX HiX HrX HbX HLook ⊢
  clear hN
  go_upto_region 2 with (first | (with_reducible refine isStoreR 62 ?_; refine wpList_stNew 62 rfl (.tmp 5) (.tmp 10) rfl X.heap.size (imRow b (.slice p N c)) (imRow 0 (.slice none 0 0)) 62 (imr_info _ _) (imr_two _ _ _ _) (imr_one _ _ _ _) rfl rfl rfl ?_))
  generalize X.alloc (.cells (imRow b (.slice p N c)) 62) = V at *
  generalize X.heap.size = gi at *
  have c0 : V.cell? ⟨gi, 0, none⟩ = some (.int .i64 (b : Int)) := Joins.cell_of_block HrX.out 0
  have hlook := HLook.out V p c HiX.out
  go_wp2_with (first | (with_reducible refine isLoadR 62 ?_; refine wpList_ldR 62 Tryz.underlying62 rfl rfl (.tmp 5) rfl gi rfl (imRow b (.slice p N c)) 62 (0, 0) (imr_info _ _) HrX.out ?_) | (go_at_call 38; fail))
  refine hlook.mono ?_
  rintro e Y ⟨L, v, us, rfl, hcore, hlk, hbY⟩
  obtain ⟨hfr, hsp, pv, cv, E, rfl, hss, hul⟩ := HSame.out Y _ L v us hcore hlk (below_next HbX.out hbY)
  rw [hfr, hsp]
  have HsY : Hid _ := heap_kept (heap_kept HsX.out hbY) (below_new Y (.cells (stRow (.slice pv us.length cv) fr sp) 29))
  have HnY : Hid ((Y.alloc (.cells (stRow (.slice pv us.length cv) fr sp) 29)).heap[Y.heap.size]? = some (.cells (stRow (.slice pv us.length cv) fr sp) 29)) := heap_alloc_new _ _
  have HbY : Hid (Below w.heap.size w (Y.alloc (.cells (stRow (.slice pv us.length cv) fr sp) 29))) := below_next (below_next HbX.out hbY) (below_new _ _)
  have hsm := same28_eq cv ci fr sp (hss.later (below_new Y (.cells (stRow (.slice pv us.length cv) fr sp) 29)))
  rw [hul, HM.out] at hsm HsY HnY HbY ⊢
  clear hlook hcore hlk hbY HSame hss HsX HrX HiX HbX c0 HLook
  go_upto_region 5 with (first | (with_reducible refine isStoreR 29 ?_; refine wpList_stNew 29 rfl (.tmp 6) (.tmp 17) rfl Y.heap.size (stRow (.slice pv M cv) fr sp) (stRow (.slice none 0 0) 0 0) 29 (st_info _ _ _) (st_two _ _ _ _ _ _) (st_one _ _ _ _ _) rfl rfl rfl ?_))
  generalize Y.alloc (.cells (stRow (.slice pv M cv) fr sp) 29) = Z at *
  generalize Y.heap.size = gs at *
  go_wp2_with (first | (with_reducible refine isLoadR 29 ?_; refine wpList_ldR 29 Tryz.underlying29 rfl rfl (.tmp 6) rfl gs rfl (stRow (.slice pv M cv) fr sp) 29 (0, 0) (st_info _ _ _) HnY.out ?_) | (with_reducible refine isLoadR 29 ?_; refine wpList_ldR 29 Tryz.underlying29 rfl rfl (.tmp 3) rfl (w.heap.size + 1) rfl (stRow (.slice pi M ci) fr sp) 29 (0, 0) (st_info _ _ _) HsY.out ?_) | (go_at_call 39; fail))
  refine hsm.mono ?_
  rintro e Z2 ⟨rfl, hb2⟩
  have HZ : Hid _ := below_next HbY.out hb2
  clear hsm hb2
  go_wp2
  go_ret
  exact ⟨rfl, HZ.out⟩
end Go.Proofs.YtkcgbhagjkhcmaaGreat
/- The empty file system of the document's examples: its image, and what is said of it. -/
namespace Go.Proofs.YtkcgbhagjkhcmaaGreat
open Go.RowKit Go.Maps
theorem imgL_skip {F : Nat → Nat → Int} {a : Nat} : ∀ d, (∀ k, a ≤ k → k < a + d → F k = nought) → imgL F (a + d) = imgL F a
  | 0, _ => rfl
  | d + 1, h => by
    rw [show a + (d + 1) = (a + d) + 1 by omega, imgL_zero (by rw [h (a + d) (by omega) (by omega)]; exact sameN_self _ _)]
    exact imgL_skip d fun k h1 h2 => h k h1 (by omega)
theorem same_no {f : Nat → Int} (j : Nat) (hj : j < 1024) (h : ¬ f j = 0) : sameN 1024 f nought = false := by
  cases hs : sameN 1024 f nought with
  | false => rfl
  | true => exact absurd ((sameN_iff _ _ _).1 hs j hj) h
theorem filesK_skip {y : Lay} {l : List Cel} {a : Nat} : ∀ d, (∀ k, a ≤ k → k < a + d → numN (rawP y l (k + 1)) 0 2 = 0) → filesK y l (a + d) = filesK y l a
  | 0, _ => rfl
  | d + 1, h => by
    rw [show a + (d + 1) = (a + d) + 1 by omega, filesK_zero (h (a + d) (by omega) (by omega))]
    exact filesK_skip d fun k h1 h2 => h k h1 (by omega)
theorem nought_byt : Byt nought := fun _ => by unfold nought; omega
theorem encD_byt {f : Nat → Int} (hf : Byt f) (d : Nat → Int) : ∀ m, Byt (encD f d m)
  | 0 => hf
  | m + 1 => putP_byt (encD_byt hf d m) _ _ _
theorem encN_byt (k l s b : Int) (d : Nat → Int) : Byt (encN k l s b d) := encD_byt (putP_byt (putP_byt (putP_byt (putP_byt nought_byt _ _ _) _ _ _) _ _ _) _ _ _) _ _
theorem overN_byt {F f : Nat → Int} (h1 : Byt F) (h2 : Byt f) (o n : Nat) : Byt (overN F o n f) := fun j => by unfold overN; split; exact h2 _; exact h1 _
theorem encP_byt {i : Int} (hi : 0 ≤ i ∧ i < 65536) (s : ByteArray) : Byt (encP i s) := fun j => by
  unfold encP
  split
  · omega
  · split
    · omega
    · split
      · rename_i h
        have := (s[j - 2]).toNat_lt
        omega
      · omega
theorem encE_byt {e : Int × ByteArray} (hi : 0 ≤ e.1 ∧ e.1 < 65536) : Byt (encE e) := by
  unfold encE
  split
  · exact nought_byt
  · exact encP_byt hi _
theorem dirP_byt {es : List (Int × ByteArray)} (h : ∀ e ∈ es, 0 ≤ e.1 ∧ e.1 < 65536) (m : Nat) : Byt (dirP es m) := fun j => by
  unfold dirP
  split
  · refine encE_byt ?_ _
    rw [List.getD_eq_getElem?_getD]
    cases hq : es[j / 16]? with
    | none => show (0 : Int) ≤ 0 ∧ (0 : Int) < 65536; omega
    | some e => exact h e (List.mem_of_getElem? hq)
  · omega
theorem magicB_byt : ∀ j, 0 ≤ magicB j ∧ magicB j ≤ 255 := fun j => by unfold magicB; split <;> omega
theorem supP_byt (y : Lay) : Byt (supP y) := fun j => by
  unfold supP
  split
  · exact magicB_byt j
  · split
    · have := Int.emod_nonneg (numL y ((j - 8) / 4) / 256 ^ ((j - 8) % 4)) (show (256 : Int) ≠ 0 by decide)
      have := Int.emod_lt_of_pos (numL y ((j - 8) / 4) / 256 ^ ((j - 8) % 4)) (show (0 : Int) < 256 by decide)
      omega
    · omega
def y0 : Lay := layOf 400 32 60
def esR : List (Int × ByteArray) := [(1, bDot), (1, bDots)]
def FR : Nat → Nat → Int := pgDir noF 38 33 64 esR 2 32
def UR : Nat → Bool := updB allNo 38 true
def FF : Nat → Nat → Int := finF FR UR y0 38 37 400
def N0 : Nat → Int := overN nought 64 64 (encN 2 2 32 1 (updN nought 0 38))
def D0 : Nat → Int := dirP esR 32
def B0 : Nat → Int := bitsR nought (wantL 38 UR) 400
def imE : List Cel := [(0, supP y0), (33, N0), (37, B0), (38, D0)]
theorem ff_0 : FF 0 = supP y0 := rfl
theorem ff_33 : FF 33 = N0 := rfl
theorem ff_37 : FF 37 = B0 := by
  unfold FF B0
  rw [finF_at, show supF FR y0 37 = nought from rfl]
theorem ff_38 : FF 38 = D0 := rfl
theorem ff_no (k : Nat) (h0 : ¬ k = 0) (h1 : ¬ k = 33) (h2 : ¬ k = 37) (h3 : ¬ k = 38) : FF k = nought := by
  unfold FF finF updF
  rw [if_neg h2]
  unfold supF updF
  rw [if_neg h0]
  unfold FR pgDir updF
  rw [if_neg h1, if_neg h3]
  rfl
theorem wantR (k : Nat) : wantL 38 UR k = (decide (k < 38) || decide (k = 38)) := by
  unfold wantL UR updB allNo
  by_cases h : k = 38
  · subst h; rfl
  · simp [h]
theorem b0_has (j : Nat) : hasP B0 j = decide (j < 39) := by
  unfold B0
  rw [bitsR_has nought_byt, wantR]
  have : hasP nought j = false := by unfold hasP nought; simp
  rw [this]
  by_cases h : j < 39
  · simp [h]; omega
  · simp [h]; omega
theorem b0_zero : ¬ B0 0 = 0 := fun h => by
  have := b0_has 0
  unfold hasP at this
  rw [show (0 : Nat) / 8 = 0 from rfl, h] at this
  exact absurd this (by decide)
theorem im_eq : laidL 400 32 60 FR UR = imE := by
  show imgL FF 400 = imE
  rw [show (400 : Nat) = 39 + 361 from rfl, imgL_skip 361 fun k h1 h2 => ff_no k (by omega) (by omega) (by omega) (by omega)]
  rw [imgL_some (k := 38) (by rw [ff_38]; exact same_no 0 (by decide) (by decide +kernel))]
  rw [imgL_some (k := 37) (by rw [ff_37]; exact same_no 0 (by decide) b0_zero)]
  rw [show (37 : Nat) = 34 + 3 from rfl, imgL_skip 3 fun k h1 h2 => ff_no k (by omega) (by omega) (by omega) (by omega)]
  rw [imgL_some (k := 33) (by rw [ff_33]; exact same_no 64 (by decide) (by decide +kernel))]
  rw [show (33 : Nat) = 1 + 32 from rfl, imgL_skip 32 fun k h1 h2 => ff_no k (by omega) (by omega) (by omega) (by omega)]
  rw [imgL_some (k := 0) (by rw [ff_0]; exact same_no 0 (by decide) (by decide +kernel)), show imgL FF 0 = [] from rfl]
  have h33 := ff_33
  have h37 := ff_37
  have h38 := ff_38
  have h0 := ff_0
  unfold imE
  generalize supP y0 = a at *
  generalize N0 = b at *
  generalize B0 = c at *
  generalize D0 = d at *
  generalize FF = F at *
  subst h0 h33 h37 h38
  rfl
attribute [irreducible] B0
end Go.Proofs.YtkcgbhagjkhcmaaGreat
