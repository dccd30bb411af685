/- Several texts joined, each with its own remark; no condition. -/
import Derived.Test.YtiejhjngcnkimaaGreatRK22
/- A disk's image that holds a state, laid without a seed: the document's Laid, over what is said of each item. -/
namespace Go.Proofs.YtiejhjngcnkimaaGreatR
open Go.RowKit Go.Maps
section
variable {o : Oper} {a : Act} {W W' : World}
theorem exec_mk {ty : TypeId} {x y : Operand} {p q : Value} {v : Value} (ho : o.op = .makeSlice ty x y) (hx : a.eval x = p) (hy : a.eval y = q) (hr : (Instr.makeSlice ty p q).run Tryz.prog W = .ok v W') : (execOp a.eval o).run Tryz.prog W = .ok (.value v) W' := by
  unfold execOp
  simp only [ho, hx, hy, hr, Sem.run_bind, Result.andThen_ok, Sem.run_pure]
theorem exec_box {ty : TypeId} {x : Operand} {cs : Array Value} (ho : o.op = .box ty x) (hx : a.eval x = .agg cs) : (execOp a.eval o).run Tryz.prog W = .ok (.value (.pointer (some ⟨W.heap.size, 0, none⟩))) (W.alloc (.cells cs ty)) := by
  generalize a.eval = E at *
  unfold execOp
  simp only [ho]
  simp [go_sem, hx]
end
theorem wpList_ldI {ops : Array Oper} {rest : List Oper} {o : Oper} {a : Act} {w : World} {Q : Exit → Act → World → Prop} (hw : Region.wanted o (yielded ops a.tmps) = true) (x : Operand) (ho : o.op = .load 81 x) (b off : Nat) (t : It) (hx : a.eval x = .pointer (some ⟨b, off, none⟩)) (hg : ∀ j u, (itCells t)[j]? = some u → w.cell? ⟨b, off + j, none⟩ = some u)
    (h : wpList Tryz.prog ops Q rest (a.put o.dst (.agg (itCells t).toArray)) w) : wpList Tryz.prog ops Q (o :: rest) a w := by
  unfold wpList
  rw [if_pos hw]
  refine .inl ?_
  unfold Oper.wp execOp
  simp only [ho, hx, loadI hg, Sem.run_bind, Result.andThen_ok, Sem.run_pure]
  exact h
def daOf (b l i : Nat) : Nat := 1 + l + (i + 16) / 16 + (b + 8191) / 8192
def baOf (l i : Nat) : Nat := 1 + l + (i + 16) / 16
structure Steps (w : World) (n : Nat) (y : Lay) (ts : List It) (Fk : Nat → Nat → Nat → Int) (Uk : Nat → Nat → Bool) (nk : Nat → Nat) : Prop where
  f0 : Fk 0 = noF
  u0 : Uk 0 = allNo
  n0 : nk 0 = 0
  go : ∀ (k : Nat) t, ts[k]? = some t → ∀ W gp gl gu, Below w.heap.size w W → w.heap.size ≤ gp → w.heap.size ≤ gl → w.heap.size ≤ gu → PgAt W gp gl gu n y (Fk k) (Uk k) 1 (nk k) → Calls Tryz.prog 81 #[.pointer (some ⟨gp, 0, none⟩), .agg (itCells t).toArray] W fun e w' => e = .returned (.tuple #[]) ∧ PgAt w' gp gl gu n y (Fk (k + 1)) (Uk (k + 1)) 1 (nk (k + 1)) ∧ PgFr gp gl gu W w'
def supF (F : Nat → Nat → Int) (y : Lay) : Nat → Nat → Int := updF F 0 (supP y)
def wantL (da : Nat) (U : Nat → Bool) : Nat → Bool := fun k => decide (k < da) || U k
def finF (F : Nat → Nat → Int) (U : Nat → Bool) (y : Lay) (da ba : Nat) (k : Nat) : Nat → Nat → Int := updF (supF F y) ba (bitsR (supF F y ba) (wantL da U) k)
theorem exec_ext0 {o : Oper} {a : Act} {W : World} {x : Operand} {p q : Value} (ho : o.op = .extract x 0) (hx : a.eval x = .tuple #[p, q]) : (execOp a.eval o).run Tryz.prog W = .ok (.value p) W := by
  generalize a.eval = E at *
  unfold execOp
  simp only [ho]
  simp [go_sem, hx]
theorem exec_ext1 {o : Oper} {a : Act} {W : World} {x : Operand} {p q : Value} (ho : o.op = .extract x 1) (hx : a.eval x = .tuple #[p, q]) : (execOp a.eval o).run Tryz.prog W = .ok (.value q) W := by
  generalize a.eval = E at *
  unfold execOp
  simp only [ho]
  simp [go_sem, hx]
theorem finF_zero (F : Nat → Nat → Int) (U : Nat → Bool) (y : Lay) (da ba : Nat) : finF F U y da ba 0 = supF F y := by
  unfold finF bitsR
  funext k
  unfold updF
  split
  · rename_i h; rw [h]
  · rfl
theorem finF_at (F : Nat → Nat → Int) (U : Nat → Bool) (y : Lay) (da ba k : Nat) : finF F U y da ba k ba = bitsR (supF F y ba) (wantL da U) k := by unfold finF; exact updF_at _ _ _
theorem finF_no {F : Nat → Nat → Int} {U : Nat → Bool} {y : Lay} {da ba k : Nat} (h : wantL da U k = false) : finF F U y da ba (k + 1) = finF F U y da ba k := by
  unfold finF
  rw [show bitsR (supF F y ba) (wantL da U) (k + 1) = bitsR (supF F y ba) (wantL da U) k by rw [bitsR, if_neg (by rw [h]; decide)]]
theorem finF_yes {F : Nat → Nat → Int} {U : Nat → Bool} {y : Lay} {da ba k : Nat} (h : wantL da U k = true) : finF F U y da ba (k + 1) = updF (finF F U y da ba k) ba (setP (finF F U y da ba k ba) k) := by
  rw [finF_at]
  unfold finF
  rw [updF_two, show bitsR (supF F y ba) (wantL da U) (k + 1) = setP (bitsR (supF F y ba) (wantL da U) k) k by rw [bitsR, if_pos h]]
theorem finF_byt {F : Nat → Nat → Int} {U : Nat → Bool} {y : Lay} {da ba : Nat} (h : Byt (supF F y ba)) (k : Nat) : Byt (finF F U y da ba k ba) := by rw [finF_at]; exact bitsR_byt h _ k
set_option maxRecDepth 40000 in
set_option maxHeartbeats 16000000 in
theorem laid_zero {w : World} {b l i : Nat} (hg : GeoOk b l i) (hb8 : b ≤ 8192) (hm1 : daOf b l i + 1 < b) {ts : List It} {pi : Option Addr} (ci : Nat) (hts : LieG itCells 7 w pi ts) (hM : ts.length ≤ 1000000) (fr sp : Int) {Fk : Nat → Nat → Nat → Int} {Uk : Nat → Nat → Bool} {nk : Nat → Nat} (hst : Steps w b (layOf b l i) ts Fk Uk nk) (hby : Byt (supF (Fk ts.length) (layOf b l i) (baOf l i))) :
    Calls Tryz.prog 38 #[.agg (geoRow b l i), .agg (stRow (.slice pi ts.length ci) fr sp), .int .i64 0] w fun e w' => ∃ v, e = .returned (.agg (imRow b v)) ∧ OwnH w' w.heap.size v (imgL (finF (Fk ts.length) (Uk ts.length) (layOf b l i) (daOf b l i) (baOf l i) b) b) ∧ Below w.heap.size w w' := by
  have zl := zeroLay
  have zi := zeroIm
  have hg0 := hg
  obtain ⟨g1, g2, g3, g4, g5, g6, g7⟩ := hg0
  have hdaD : daOf b l i = 1 + l + (i + 16) / 16 + (b + 8191) / 8192 := rfl
  have hbaD : baOf l i = 1 + l + (i + 16) / 16 := rfl
  have HyD : Hid ((layOf b l i).dataAt = ((daOf b l i : Nat) : Int)) := rfl
  have HyB : Hid ((layOf b l i).bitsAt = ((baOf l i : Nat) : Int)) := rfl
  have hba : baOf l i < b := by omega
  obtain ⟨da, hda⟩ : ∃ da, daOf b l i = da := ⟨_, rfl⟩
  obtain ⟨ba, hbb⟩ : ∃ ba, baOf l i = ba := ⟨_, rfl⟩
  rw [hda] at HyD hm1 ⊢
  rw [hbb] at HyB hba hby ⊢
  clear hda hbb hdaD hbaD
  obtain ⟨A, hA⟩ : ∃ A, A = ((w.alloc (.cells (geoRow b l i) 26)).alloc (.cells (stRow (.slice pi ts.length ci) fr sp) 29)).alloc (.cells (imRow 0 (.slice none 0 0)) 97) := ⟨_, rfl⟩
  have HgA : Hid (A.heap[w.heap.size]? = some (.cells (geoRow b l i) 26)) := by rw [hA]; exact heap_kept (heap_kept (heap_alloc_new _ _) (below_new _ _)) (below_new _ _)
  have HsA : Hid (A.heap[w.heap.size + 1]? = some (.cells (stRow (.slice pi ts.length ci) fr sp) 29)) := by rw [hA]; exact heap_kept (heap_two _ _ _) (below_new _ _)
  have HrA : Hid (A.heap[w.heap.size + 2]? = some (.cells (imRow 0 (.slice none 0 0)) 97)) := by
    rw [hA]
    have := heap_alloc_new ((w.alloc (.cells (geoRow b l i) 26)).alloc (.cells (stRow (.slice pi ts.length ci) fr sp) 29)) (.cells (imRow 0 (.slice none 0 0)) 97)
    rwa [show ((w.alloc (.cells (geoRow b l i) 26)).alloc (.cells (stRow (.slice pi ts.length ci) fr sp) 29)).heap.size = w.heap.size + 2 by simp] at this
  have HbA : Hid (Below w.heap.size w A) := by rw [hA]; exact below_next (below_next (below_new _ _) (below_new _ _)) (below_new _ _)
  have hof := of03_ok hg A
  have henc := fun W => enc03_ok hg W
  obtain ⟨y, hy⟩ : ∃ y, layOf b l i = y := ⟨_, rfl⟩
  rw [hy] at hof HyD HyB hst hby
  simp only [hy] at henc ⊢
  have HEnc : Hid _ := henc
  have HSt : Hid _ := hst
  have HBy : Hid _ := hby
  have HTs : Hid (LieG itCells 7 w pi ts) := hts
  have HA : Hid (A = _) := hA
  clear hA hy hst hby hts hg henc
  obtain ⟨M, hMM⟩ : ∃ M, ts.length = M := ⟨_, rfl⟩
  have HM : Hid (ts.length = M) := hMM
  rw [hMM] at HsA HA HBy hM ⊢
  clear hMM
  go_enter Tryz.func38, Tryz.ntmps38
  go_upto_region 1 with fail
  rw [← HA.out]
  clear HA
  go_wp2_with (first | (with_reducible refine isLoadR 26 ?_; refine wpList_ldR 26 Tryz.underlying26 rfl rfl (.tmp 3) rfl w.heap.size rfl (geoRow b l i) 26 (0, 0) (geo_info _ _ _) HgA.out ?_) | (go_at_call 39; fail))
  refine hof.mono ?_
  rintro e X ⟨rfl, hbX⟩
  have HgX : Hid _ := heap_kept (heap_kept HgA.out hbX) (below_new X (.cells (layRow y) 61))
  have HsX : Hid _ := heap_kept (heap_kept HsA.out hbX) (below_new X (.cells (layRow y) 61))
  have HrX : Hid _ := heap_kept (heap_kept HrA.out hbX) (below_new X (.cells (layRow y) 61))
  have HbX : Hid (Below w.heap.size w (X.alloc (.cells (layRow y) 61))) := below_next (below_next HbA.out hbX) (below_new _ _)
  have HlX : Hid ((X.alloc (.cells (layRow y) 61)).heap[X.heap.size]? = some (.cells (layRow y) 61)) := heap_alloc_new _ _
  have hgw : w.heap.size + 2 < X.heap.size := Nat.lt_of_lt_of_le (Array.getElem?_eq_some_iff.1 HrA.out).1 hbX.size
  have hszV : (X.alloc (.cells (layRow y) 61)).heap.size = X.heap.size + 1 := by simp
  clear hof hbX HgA HsA HrA HbA
  go_upto_region 4 with (first | (with_reducible refine isStoreR 61 ?_; refine wpList_stNew 61 rfl (.tmp 7) (.tmp 16) rfl X.heap.size (layRow y) (layRow lay0) 61 (lay_info _) (lay_two _ _) (lay_one _) rfl rfl rfl ?_))
  have HsV : Hid _ := hszV
  clear hszV
  generalize X.alloc (.cells (layRow y) 61) = V at *
  generalize X.heap.size = gw at *
  go_cut [9] from 21 to 29 (fun s9 wc => ∃ gp gl gu, s9 = .pointer (some ⟨gp, 0, none⟩) ∧ Hid (LaS w wc gw gp gl gu b y noF allNo 0 0 b l i (.slice pi M ci) fr sp))
  case first =>
    have hq : Below V.heap.size V V.drew := (Below.refl _ _).drew
    refine wp_region_tree (S := fun u => Below V.heap.size V u) (rdT 0 (rdT 1 (rdT 2 (rdT 4 (rdT 5 (altT [(3, altT [(6, rdT 7 (altT [(8, rdT 9 finT)]))]), (6, altT [(3, rdT 7 (altT [(8, rdT 9 finT)]))])])))))) (by kernel_rfl) rfl (by kernel_rfl) (fun d _ _ _ _ h => by cases d <;> exact h) hq ?_
    generalize V.drew = D at *
    have HC : Hid (∀ u : World, Below V.heap.size V u → u.cell? ⟨w.heap.size, 0, none⟩ = some (.int .i64 (b : Int))) := fun u hu => Joins.cell_of_block (heap_kept HgX.out hu) 0
    have hgb := run_makeBlk D b (by omega)
    have hub := run_makeB D b (by omega)
    refine wpT_yield (v := .agg (layRow y)) rfl rfl (fun u hu => run_ldR 61 Tryz.underlying61 rfl (.tmp 7) rfl gw rfl (heap_kept HlX.out hu) (lay_info _)) ?_
    simp only [Act.put, pA, pB, pC]
    refine wpT_yield (v := .pointer (some ⟨w.heap.size, 0, none⟩)) rfl rfl (fun u _ => by go_simp) ?_
    simp only [Act.put, pA, pB, pC]
    refine wpT_yield (v := .int .i64 (b : Int)) rfl rfl (fun u hu => by have := HC.out u hu; go_simp) ?_
    simp only [Act.put, pA, pB, pC]
    refine wpT_yield (v := .pointer (some ⟨w.heap.size, 0, none⟩)) rfl rfl (fun u _ => by go_simp) ?_
    simp only [Act.put, pA, pB, pC]
    refine wpT_yield (v := .int .i64 (b : Int)) rfl rfl (fun u hu => by have := HC.out u hu; go_simp) ?_
    simp only [Act.put, pA, pB, pC]
    have hq1 : Below V.heap.size V (D.alloc (.cells (pgCells noF b) 85)) := below_next hq (below_new _ _)
    have hq2 : Below V.heap.size V ((D.alloc (.cells (pgCells noF b) 85)).alloc (.cells (rowB allNo b) 4)) := below_next hq1 (below_new _ _)
    refine wpT_make (v := .slice (some ⟨D.heap.size, 0, none⟩) b b) (w' := D.alloc (.cells (pgCells noF b) 85)) rfl rfl (exec_mk rfl rfl rfl (run_makeBlk D b (by omega))) hq1 ?_ ?_
    · simp only [Act.put, pA, pB, pC]
      have hs1 : (D.alloc (.cells (pgCells noF b) 85)).heap.size = D.heap.size + 1 := by simp
      have hr2 := run_makeB (D.alloc (.cells (pgCells noF b) 85)) b (by omega)
      rw [hs1] at hr2
      refine wpT_make (v := .slice (some ⟨D.heap.size + 1, 0, none⟩) b b) (w' := (D.alloc (.cells (pgCells noF b) 85)).alloc (.cells (rowB allNo b) 4)) rfl rfl (exec_mk rfl rfl rfl hr2) hq2 ?_ wpT_stop
      simp only [Act.put, pA, pB, pC]
      refine wpT_yield (v := .agg (pgRow y D.heap.size (D.heap.size + 1) b 0 0 false)) rfl rfl (fun u _ => exec_buildPg rfl rfl rfl rfl) ?_
      simp only [Act.put, pA, pB, pC]
      have hs2 : ((D.alloc (.cells (pgCells noF b) 85)).alloc (.cells (rowB allNo b) 4)).heap.size = D.heap.size + 2 := by simp
      have hex : ∀ {o : Oper} {a : Act} {x : Operand}, o.op = .box 149 x → a.eval x = .agg (pgRow y D.heap.size (D.heap.size + 1) b 0 0 false) → (execOp a.eval o).run Tryz.prog ((D.alloc (.cells (pgCells noF b) 85)).alloc (.cells (rowB allNo b) 4)) = .ok (.value (.pointer (some ⟨D.heap.size + 2, 0, none⟩))) (((D.alloc (.cells (pgCells noF b) 85)).alloc (.cells (rowB allNo b) 4)).alloc (.cells (pgRow y D.heap.size (D.heap.size + 1) b 0 0 false) 149)) := fun ho hx => by rw [← hs2]; exact exec_box ho hx
      have hq3 : Below V.heap.size V (((D.alloc (.cells (pgCells noF b) 85)).alloc (.cells (rowB allNo b) 4)).alloc (.cells (pgRow y D.heap.size (D.heap.size + 1) b 0 0 false) 149)) := below_next hq2 (below_new _ _)
      refine wpT_make (v := .pointer (some ⟨D.heap.size + 2, 0, none⟩)) (w' := ((D.alloc (.cells (pgCells noF b) 85)).alloc (.cells (rowB allNo b) 4)).alloc (.cells (pgRow y D.heap.size (D.heap.size + 1) b 0 0 false) 149)) rfl rfl (hex rfl rfl) hq3 ?_ wpT_stop
      simp only [Act.put, pA, pB, pC]
      refine wpT_yield (v := .pointer (some ⟨D.heap.size + 2, 0, none⟩)) rfl rfl (fun u _ => by go_simp) ?_
      simp only [Act.put, pA, pB, pC]
      refine wpT_fin ?_
      have hgwD : gw < D.heap.size := Nat.lt_of_lt_of_le (Array.getElem?_eq_some_iff.1 HlX.out).1 hq.size
      have HRel : Hid (LaS w (((D.alloc (.cells (pgCells noF b) 85)).alloc (.cells (rowB allNo b) 4)).alloc (.cells (pgRow y D.heap.size (D.heap.size + 1) b 0 0 false) 149)) gw (D.heap.size + 2) D.heap.size (D.heap.size + 1) b y noF allNo 0 0 b l i (.slice pi M ci) fr sp) := by
        refine ⟨heap_kept HgX.out hq3, heap_kept HsX.out hq3, heap_kept HrX.out hq3, heap_kept HlX.out hq3, ⟨?_, heap_kept (heap_kept (heap_alloc_new _ _) (below_new _ _)) (below_new _ _), heap_kept (heap_two _ _ _) (below_new _ _), by omega, by omega, by omega⟩, ⟨hgw, by omega, by omega, by omega⟩, below_next HbX.out hq3⟩
        have := heap_alloc_new ((D.alloc (.cells (pgCells noF b) 85)).alloc (.cells (rowB allNo b) 4)) (.cells (pgRow y D.heap.size (D.heap.size + 1) b 0 0 false) 149)
        rwa [hs2] at this
      clear hq1 hq2 hq3 hex hs1 hs2 hr2
      generalize ((D.alloc (.cells (pgCells noF b) 85)).alloc (.cells (rowB allNo b) 4)).alloc (.cells (pgRow y D.heap.size (D.heap.size + 1) b 0 0 false) 149) = ZZ at HRel ⊢
      go_wp2_with fail
      go_meet
      case rel => exact ⟨_, _, _, rfl, HRel.out⟩
    have hq1 : Below V.heap.size V (D.alloc (.cells (rowB allNo b) 4)) := below_next hq (below_new _ _)
    have hq2 : Below V.heap.size V ((D.alloc (.cells (rowB allNo b) 4)).alloc (.cells (pgCells noF b) 85)) := below_next hq1 (below_new _ _)
    refine wpT_make (v := .slice (some ⟨D.heap.size, 0, none⟩) b b) (w' := D.alloc (.cells (rowB allNo b) 4)) rfl rfl (exec_mk rfl rfl rfl (run_makeB D b (by omega))) hq1 ?_ ?_
    · simp only [Act.put, pA, pB, pC]
      have hs1 : (D.alloc (.cells (rowB allNo b) 4)).heap.size = D.heap.size + 1 := by simp
      have hr2 := run_makeBlk (D.alloc (.cells (rowB allNo b) 4)) b (by omega)
      rw [hs1] at hr2
      refine wpT_make (v := .slice (some ⟨D.heap.size + 1, 0, none⟩) b b) (w' := (D.alloc (.cells (rowB allNo b) 4)).alloc (.cells (pgCells noF b) 85)) rfl rfl (exec_mk rfl rfl rfl hr2) hq2 ?_ wpT_stop
      simp only [Act.put, pA, pB, pC]
      refine wpT_yield (v := .agg (pgRow y (D.heap.size + 1) D.heap.size b 0 0 false)) rfl rfl (fun u _ => exec_buildPg rfl rfl rfl rfl) ?_
      simp only [Act.put, pA, pB, pC]
      have hs2 : ((D.alloc (.cells (rowB allNo b) 4)).alloc (.cells (pgCells noF b) 85)).heap.size = D.heap.size + 2 := by simp
      have hex : ∀ {o : Oper} {a : Act} {x : Operand}, o.op = .box 149 x → a.eval x = .agg (pgRow y (D.heap.size + 1) D.heap.size b 0 0 false) → (execOp a.eval o).run Tryz.prog ((D.alloc (.cells (rowB allNo b) 4)).alloc (.cells (pgCells noF b) 85)) = .ok (.value (.pointer (some ⟨D.heap.size + 2, 0, none⟩))) (((D.alloc (.cells (rowB allNo b) 4)).alloc (.cells (pgCells noF b) 85)).alloc (.cells (pgRow y (D.heap.size + 1) D.heap.size b 0 0 false) 149)) := fun ho hx => by rw [← hs2]; exact exec_box ho hx
      have hq3 : Below V.heap.size V (((D.alloc (.cells (rowB allNo b) 4)).alloc (.cells (pgCells noF b) 85)).alloc (.cells (pgRow y (D.heap.size + 1) D.heap.size b 0 0 false) 149)) := below_next hq2 (below_new _ _)
      refine wpT_make (v := .pointer (some ⟨D.heap.size + 2, 0, none⟩)) (w' := ((D.alloc (.cells (rowB allNo b) 4)).alloc (.cells (pgCells noF b) 85)).alloc (.cells (pgRow y (D.heap.size + 1) D.heap.size b 0 0 false) 149)) rfl rfl (hex rfl rfl) hq3 ?_ wpT_stop
      simp only [Act.put, pA, pB, pC]
      refine wpT_yield (v := .pointer (some ⟨D.heap.size + 2, 0, none⟩)) rfl rfl (fun u _ => by go_simp) ?_
      simp only [Act.put, pA, pB, pC]
      refine wpT_fin ?_
      have hgwD : gw < D.heap.size := Nat.lt_of_lt_of_le (Array.getElem?_eq_some_iff.1 HlX.out).1 hq.size
      have HRel : Hid (LaS w (((D.alloc (.cells (rowB allNo b) 4)).alloc (.cells (pgCells noF b) 85)).alloc (.cells (pgRow y (D.heap.size + 1) D.heap.size b 0 0 false) 149)) gw (D.heap.size + 2) (D.heap.size + 1) D.heap.size b y noF allNo 0 0 b l i (.slice pi M ci) fr sp) := by
        refine ⟨heap_kept HgX.out hq3, heap_kept HsX.out hq3, heap_kept HrX.out hq3, heap_kept HlX.out hq3, ⟨?_, heap_kept (heap_two _ _ _) (below_new _ _), heap_kept (heap_kept (heap_alloc_new _ _) (below_new _ _)) (below_new _ _), by omega, by omega, by omega⟩, ⟨hgw, by omega, by omega, by omega⟩, below_next HbX.out hq3⟩
        have := heap_alloc_new ((D.alloc (.cells (rowB allNo b) 4)).alloc (.cells (pgCells noF b) 85)) (.cells (pgRow y (D.heap.size + 1) D.heap.size b 0 0 false) 149)
        rwa [hs2] at this
      clear hq1 hq2 hq3 hex hs1 hs2 hr2
      generalize ((D.alloc (.cells (rowB allNo b) 4)).alloc (.cells (pgCells noF b) 85)).alloc (.cells (pgRow y (D.heap.size + 1) D.heap.size b 0 0 false) 149) = ZZ at HRel ⊢
      go_wp2_with fail
      go_meet
      case rel => exact ⟨_, _, _, rfl, HRel.out⟩
    exact wpT_stop
  case rest =>
    obtain ⟨gp, gl, gu, rfl, HS⟩ := hcut
    clear HgX HsX HrX HbX HlX HsV hgw
    have c0 : wc.cell? ⟨w.heap.size, 0, none⟩ = some (.int .i64 (b : Int)) := Joins.cell_of_block HS.out.geo 0
    have c8 : wc.cell? ⟨gw, 8, none⟩ = some (.int .i64 (da : Int)) := by rw [← HyD.out]; exact Joins.cell_of_block HS.out.lay 8
    obtain ⟨m, hm⟩ : ∃ m, b = da + m := ⟨b - da, by omega⟩
    have e1 : IntKind.i64.wrap ((b : Int) - (da : Int)) = (m : Int) := by rw [IntKind.wrap_i64]; omega
    have e1' : (b : Int) - (da : Int) = (m : Int) := by omega
    have HMm : Hid (b = da + m) := hm
    have hm2 : 1 < m := by omega
    have hm3 : m ≤ 8192 := by omega
    clear hm
    have hpk := pick_zero wc
    go_wp2_with (first | (go_at_call 79; fail))
    refine hpk.mono ?_
    rintro e X1 ⟨rfl, rfl⟩
    clear hpk c0 c8 e1 e1'
    have f12 := frozen_row HS.out.pg.row 12
    have c12 : X1.cell? ⟨gp, 12, none⟩ = some (.int .i64 0) := Joins.cell_of_block HS.out.pg.row 12
    have z1 : (0 : Int).tmod (m : Int) = 0 := by simp
    have hmz : ((m : Int) == 0) = false := by simp; omega
    have hmz' : ¬ (m : Int) = 0 := by omega
    have hmz'' : ¬ m = 0 := by omega
    have HS1 : Hid (LaS w (X1.setCell ⟨gp, 12, none⟩ (.int .i64 0)) gw gp gl gu b y noF allNo 0 0 b l i (.slice pi M ci) fr sp) := HS.out.page (HS.out.pg.setNext 0) ((Fr.setCell _ _ _ _).mono fun _ _ q => .inl q)
    clear HS
    go_upto_region 8 with fail
    generalize X1.setCell ⟨gp, 12, none⟩ (.int .i64 0) = X2 at *
    clear f12 c12
    have f11 := frozen_row HS1.out.pg.row 11
    have c11 : X2.cell? ⟨gp, 11, none⟩ = some (.int .i64 0) := Joins.cell_of_block HS1.out.pg.row 11
    have HS2 : Hid (LaS w (X2.setCell ⟨gp, 11, none⟩ (.int .i64 1)) gw gp gl gu b y noF allNo 1 0 b l i (.slice pi M ci) fr sp) := HS1.out.page (HS1.out.pg.setTurn 1) ((Fr.setCell _ _ _ _).mono fun _ _ q => .inl q)
    clear HS1
    go_wp2
    generalize X2.setCell ⟨gp, 11, none⟩ (.int .i64 1) = X3 at *
    clear f11 c11
    go_loopw [57] (fun _ wx => Hid (LaS w wx gw gp gl gu b y noF allNo 1 0 b l i (.slice pi M ci) fr sp)) (fun _ _ => 0)
    case atStart => exact HS2.out
    case round =>
      have HS : Hid _ := hrel.out
      clear HS2 hrel
      have c11 : wr.cell? ⟨gp, 11, none⟩ = some (.int .i64 1) := Joins.cell_of_block HS.out.pg.row 11
      have hdv := divisor_one m hm2 (by omega) wr
      go_wp2_with (first | (go_at_call 80; fail))
      refine hdv.mono ?_
      rintro e X4 ⟨rfl, hb4⟩
      have HS4 : Hid (LaS w X4 gw gp gl gu b y (Fk 0) (Uk 0) 1 (nk 0) b l i (.slice pi M ci) fr sp) := by
        rw [HSt.out.f0, HSt.out.u0, HSt.out.n0]
        exact HS.out.call hb4
      clear hdv hb4 c11 HS
      go_wp2
      go_loopw [11] (fun s11 wx => ∃ k : Nat, k ≤ M ∧ s11 = .int .i64 k ∧ Hid (LaS w wx gw gp gl gu b y (Fk k) (Uk k) 1 (nk k) b l i (.slice pi M ci) fr sp)) (fun s11 _ => M - (intOf s11).toNat)
      case atStart => exact ⟨0, by omega, rfl, HS4.out⟩
      case round =>
        clear HS4
        obtain ⟨k, hk, rfl, HS⟩ := hrel
        have cs : wr.cell? ⟨w.heap.size + 1, 0, none⟩ = some (.slice pi M ci) := Joins.cell_of_block HS.out.st 0
        have c13 : wr.cell? ⟨gp, 13, none⟩ = some (.bool false) := Joins.cell_of_block HS.out.pg.row 13
        by_cases hk2 : (k : Int) < (M : Int)
        · have hkl : k < ts.length := by rw [HM.out]; omega
          have htk : ts[k]? = some ts[k] := List.getElem?_eq_getElem hkl
          obtain ⟨gi, rfl, hgi, hci⟩ := (HTs.out.later HS.out.bel) (by omega)
          have hct := hci k _ htk
          have hfar := HS.out.far
          have hgo := HSt.out.go k _ htk wr gp gl gu HS.out.bel (by omega) (by omega) (by omega) HS.out.pg
          generalize ts[k] = t at *
          have hkM : k < M := by omega
          clear hci htk hkl hgi hfar
          go_wp2_with (first | (with_reducible refine isLoadR 81 ?_; refine wpList_ldI rfl (.tmp 83) rfl gi (k * 7) t rfl hct ?_) | (go_at_call 81; fail))
          refine hgo.mono ?_
          rintro e X5 ⟨rfl, hp5, hf5⟩
          have HS5 : Hid (LaS w X5 gw gp gl gu b y (Fk (k + 1)) (Uk (k + 1)) 1 (nk (k + 1)) b l i (.slice (some ⟨gi, 0, none⟩) M ci) fr sp) := HS.out.page hp5 hf5
          clear hgo hp5 hf5 HS hct cs c13
          go_wp2
          exact ⟨⟨k + 1, by omega, by go_num, HS5.out⟩, by simp [intOf]; omega⟩
        · obtain rfl : k = M := by omega
          obtain ⟨FM, hFM⟩ : ∃ FM, Fk k = FM := ⟨_, rfl⟩
          obtain ⟨UM, hUM⟩ : ∃ UM, Uk k = UM := ⟨_, rfl⟩
          obtain ⟨nM, hnM⟩ : ∃ nM, nk k = nM := ⟨_, rfl⟩
          rw [hFM, hUM, hnM] at HS
          rw [hFM] at HBy
          have HFM : Hid (Fk k = FM) := hFM
          have HUM : Hid (Uk k = UM) := hUM
          clear hFM hUM hnM HTs HM HSt hk
          go_upto_region 17 with fail
          clear cs c13 hk2
          have HSd : Hid (LaS w wr.drew gw gp gl gu b y FM UM 1 nM b l i (.slice pi k ci) fr sp) := HS.out.call (Below.refl _ _).drew
          have henc := HEnc.out wr.drew
          have p9 : wr.drew.cell? ⟨gp, 9, none⟩ = some (.slice (some ⟨gl, 0, none⟩) b b) := Joins.cell_of_block HSd.out.pg.row 9
          have HLd : Hid (wr.drew.heap[gw]? = some (.cells (layRow y) 61)) := HSd.out.lay
          have hb0 : (0 : Int) < (b : Int) := by omega
          have hb0' : 0 < b := by omega
          clear HEnc HS
          refine wp_region_ord (S := fun u => u.cell? ⟨gp, 9, none⟩ = some (.slice (some ⟨gl, 0, none⟩) b b) ∧ u.heap[gw]? = some (.cells (layRow y) 61)) [(0, true), (1, true), (2, true), (3, true), (4, true), (5, false), (6, true), (7, true), (8, true), (9, true), (10, false)] (by kernel_rfl) rfl (by kernel_rfl) (fun d _ _ _ _ h => by cases d <;> exact h) ⟨p9, HLd.out⟩ ?_
          simp only [inOrd, List.getElem?_cons_zero, List.getElem?_cons_succ]
          refine wpOrd_yield (v := .pointer (some ⟨gp, 0, none⟩)) rfl (fun u _ => exec_mv rfl rfl) ?_
          simp only [Act.put, pA, pB, pC]
          refine wpOrd_yield (v := .pointer (some ⟨gp, 0, none⟩)) rfl (fun u _ => by go_simp) ?_
          simp only [Act.put, pA, pB, pC]
          refine wpOrd_yield (v := .pointer (some ⟨gp, 9, none⟩)) rfl (fun u _ => by go_simp) ?_
          simp only [Act.put, pA, pB, pC]
          refine wpOrd_yield (v := .slice (some ⟨gl, 0, none⟩) b b) rfl (fun u hu => by have := hu.1; go_simp) ?_
          simp only [Act.put, pA, pB, pC]
          refine wpOrd_yield (v := .agg (layRow y)) rfl (fun u hu => run_ldR 61 Tryz.underlying61 rfl (.tmp 7) rfl gw rfl hu.2 (lay_info _)) ?_
          simp only [Act.put, pA, pB, pC]
          refine wpOrd_call rfl 82 _ _ rfl Tryz.call82 [.agg (layRow y)] rfl ?_
          refine henc.mono ?_
          rintro e X5 ⟨rfl, hb5⟩
          have HS5 : Hid (LaS w X5 gw gp gl gu b y FM UM 1 nM b l i (.slice pi k ci) fr sp) := HSd.out.call hb5
          refine ⟨_, rfl, ⟨Joins.cell_of_block HS5.out.pg.row 9, HS5.out.lay⟩, ?_⟩
          simp only [Act.put, pA, pB, pC]
          refine wpOrd_yield (v := .tuple #[.agg (blk (supP y)), .int .i64 0]) rfl (fun u _ => exec_mv rfl rfl) ?_
          simp only [Act.put, pA, pB, pC]
          refine wpOrd_yield (v := .agg (blk (supP y))) rfl (fun u _ => exec_ext0 rfl rfl) ?_
          simp only [Act.put, pA, pB, pC]
          refine wpOrd_yield (v := .int .i64 0) rfl (fun u _ => exec_ext1 rfl rfl) ?_
          simp only [Act.put, pA, pB, pC]
          refine wpOrd_yield (v := .pointer (some ⟨gl, 0, none⟩)) rfl (fun u _ => by go_simp) ?_
          simp only [Act.put, pA, pB, pC]
          have hth : X5.there gl 0 1024 := by have := HS5.out.pg.there (k := 0) hb0'; rwa [Nat.zero_mul] at this
          have HS6 : Hid (LaS w (X5.setCells gl 0 (blk (supP y)).toList) gw gp gl gu b y (supF FM y) UM 1 nM b l i (.slice pi k ci) fr sp) := by
            have := HS5.out.page (HS5.out.pg.setBlk 0 (supP y)) ((Fr.setCells X5 gl (0 * 1024) (blk (supP y)).toList).mono fun _ _ e => .inr (.inl e))
            rwa [Nat.zero_mul] at this
          refine wpOrd_do rfl (exec_stB rfl rfl rfl hth) ⟨Joins.cell_of_block HS6.out.pg.row 9, HS6.out.lay⟩ ?_
          simp only [Act.put]
          refine wpOrd_nil ?_
          clear hth HS5 hb5 henc HSd HLd p9
          generalize X5.setCells gl 0 (blk (supP y)).toList = X6 at *
          go_wp2
          go_loopw [12] (fun s12 wx => ∃ q : Nat, q ≤ b ∧ s12 = .int .i64 q ∧ Hid (LaS w wx gw gp gl gu b y (finF FM UM y da ba q) UM 1 nM b l i (.slice pi k ci) fr sp)) (fun s12 _ => b - (intOf s12).toNat)
          case atStart => exact ⟨0, by omega, rfl, by rw [finF_zero]; exact HS6.out⟩
          case round =>
            clear HS6
            obtain ⟨q, hq, rfl, HS⟩ := hrel
            have c0 : wr.cell? ⟨w.heap.size, 0, none⟩ = some (.int .i64 (b : Int)) := Joins.cell_of_block HS.out.geo 0
            by_cases hq2 : (q : Int) < (b : Int)
            · have hqb : q < b := by omega
              have c8 : wr.cell? ⟨gw, 8, none⟩ = some (.int .i64 (da : Int)) := by rw [← HyD.out]; exact Joins.cell_of_block HS.out.lay 8
              have c10 : wr.cell? ⟨gp, 10, none⟩ = some (.slice (some ⟨gu, 0, none⟩) b b) := Joins.cell_of_block HS.out.pg.row 10
              have cu := cell_rowB (i := q) HS.out.pg.used hqb
              go_upto_region 21 with fail
              go_cut [119] from 107 to 119 (fun s wc => wc = wr ∧ s = .bool (wantL da UM q))
              case first =>
                have HWl : Hid (wantL da UM q = (decide (q < da) || UM q)) := rfl
                generalize wantL da UM q = wv at *
                generalize UM q = uv at *
                by_cases hqd : (q : Int) < (da : Int)
                · have hw1 : wv = true := by rw [HWl.out, decide_eq_true (show q < da by omega)]; rfl
                  clear HWl
                  subst hw1
                  go_wp2_with fail
                  go_meet
                  case rel => exact ⟨rfl, rfl⟩
                · have hw1 : wv = uv := by rw [HWl.out, decide_eq_false (show ¬ q < da by omega)]; rfl
                  clear HWl
                  subst hw1
                  go_wp2_with fail
                  go_meet
                  case rel => exact ⟨rfl, rfl⟩
              case rest =>
                obtain ⟨rfl, rfl⟩ := hcut
                clear c0 c8 c10 cu
                cases hwv : wantL da UM q with
                | false =>
                  have HF : Hid (LaS w wc gw gp gl gu b y (finF FM UM y da ba (q + 1)) UM 1 nM b l i (.slice pi k ci) fr sp) := by rw [finF_no hwv]; exact HS.out
                  clear HS
                  go_wp2
                  exact ⟨⟨q + 1, by omega, by go_num, HF.out⟩, by simp [intOf]; omega⟩
                | true =>
                  have HSd : Hid (LaS w wc.drew gw gp gl gu b y (finF FM UM y da ba q) UM 1 nM b l i (.slice pi k ci) fr sp) := HS.out.call (Below.refl _ _).drew
                  have HFn : Hid (finF FM UM y da ba (q + 1) = updF (finF FM UM y da ba q) ba (setP ((finF FM UM y da ba q) ba) q)) := finF_yes hwv
                  have HBf : Hid (Byt ((finF FM UM y da ba q) ba)) := finF_byt HBy.out q
                  clear HS hwv
                  obtain ⟨FQ, hFQ⟩ : ∃ FQ, finF FM UM y da ba q = FQ := ⟨_, rfl⟩
                  obtain ⟨FN, hFN⟩ : ∃ FN, finF FM UM y da ba (q + 1) = FN := ⟨_, rfl⟩
                  have HFN : Hid (finF FM UM y da ba (q + 1) = FN) := hFN
                  rw [hFQ] at HSd HBf
                  rw [hFQ, hFN] at HFn
                  clear hFQ hFN
                  have p9 : wc.drew.cell? ⟨gp, 9, none⟩ = some (.slice (some ⟨gl, 0, none⟩) b b) := Joins.cell_of_block HSd.out.pg.row 9
                  have p6 : wc.drew.cell? ⟨gw, 6, none⟩ = some (.int .i64 (ba : Int)) := by rw [← HyB.out]; exact Joins.cell_of_block HSd.out.lay 6
                  have q1 : (q : Int).tdiv 8192 = 0 := Int.tdiv_eq_zero_of_lt (by omega) (by omega)
                  have q2 : (q : Int).tmod 8192 = (q : Int) := Int.tmod_eq_of_lt (by omega) (by omega)
                  have q3 : IntKind.i64.wrap (q : Int) = (q : Int) := by rw [IntKind.wrap_i64]; omega
                  have q0 : IntKind.i64.wrap (0 : Int) = 0 := by decide
                  have q4 : IntKind.i64.wrap (ba : Int) = (ba : Int) := by rw [IntKind.wrap_i64]; omega
                  have q5 : (ba : Int) < (b : Int) := by omega
                  have hset := set02_any (FQ ba) q wc.drew HBf.out (by omega)
                  have hnum := HSd.out.pg.blkAt hba
                  go_upto_region 22 with fail
                  refine wp_region_ord (S := fun u => u.cell? ⟨gp, 9, none⟩ = some (.slice (some ⟨gl, 0, none⟩) b b) ∧ u.cell? ⟨gw, 6, none⟩ = some (.int .i64 (ba : Int))) [(0, true), (1, true), (2, true), (3, true), (4, true), (5, true), (6, true), (7, true), (8, true), (9, true), (10, true), (11, true), (12, true), (13, true), (14, true), (15, true), (16, true), (17, true), (18, true), (20, true), (21, true), (19, false), (22, false), (23, true), (24, false)] (by kernel_rfl) rfl (by kernel_rfl) (fun d _ _ _ _ h => by cases d <;> exact h) ⟨p9, p6⟩ ?_
                  simp only [inOrd, List.getElem?_cons_zero, List.getElem?_cons_succ]
                  refine wpOrd_yield (v := .pointer (some ⟨gp, 0, none⟩)) rfl (fun u _ => exec_mv rfl rfl) ?_
                  simp only [Act.put, pA, pB, pC]
                  refine wpOrd_yield (v := .pointer (some ⟨gp, 0, none⟩)) rfl (fun u _ => by go_simp) ?_
                  simp only [Act.put, pA, pB, pC]
                  refine wpOrd_yield (v := .pointer (some ⟨gp, 9, none⟩)) rfl (fun u _ => by go_simp) ?_
                  simp only [Act.put, pA, pB, pC]
                  refine wpOrd_yield (v := .slice (some ⟨gl, 0, none⟩) b b) rfl (fun u hu => by have := hu.1; go_simp) ?_
                  simp only [Act.put, pA, pB, pC]
                  refine wpOrd_yield (v := .pointer (some ⟨gw, 6, none⟩)) rfl (fun u _ => by go_simp) ?_
                  simp only [Act.put, pA, pB, pC]
                  refine wpOrd_yield (v := .int .i64 (ba : Int)) rfl (fun u hu => by have := hu.2; go_simp) ?_
                  simp only [Act.put, pA, pB, pC]
                  refine wpOrd_yield (v := .int .i64 (q : Int)) rfl (fun u _ => exec_mv rfl rfl) ?_
                  simp only [Act.put, pA, pB, pC]
                  refine wpOrd_yield (v := .int .i64 0) rfl (fun u _ => by go_simp) ?_
                  simp only [Act.put, pA, pB, pC]
                  refine wpOrd_yield (v := .int .i64 (ba : Int)) rfl (fun u _ => by go_simp) ?_
                  simp only [Act.put, pA, pB, pC]
                  refine wpOrd_yield (v := .pointer (some ⟨gp, 0, none⟩)) rfl (fun u _ => exec_mv rfl rfl) ?_
                  simp only [Act.put, pA, pB, pC]
                  refine wpOrd_yield (v := .pointer (some ⟨gp, 0, none⟩)) rfl (fun u _ => by go_simp) ?_
                  simp only [Act.put, pA, pB, pC]
                  refine wpOrd_yield (v := .pointer (some ⟨gp, 9, none⟩)) rfl (fun u _ => by go_simp) ?_
                  simp only [Act.put, pA, pB, pC]
                  refine wpOrd_yield (v := .slice (some ⟨gl, 0, none⟩) b b) rfl (fun u hu => by have := hu.1; go_simp) ?_
                  simp only [Act.put, pA, pB, pC]
                  refine wpOrd_yield (v := .pointer (some ⟨gw, 6, none⟩)) rfl (fun u _ => by go_simp) ?_
                  simp only [Act.put, pA, pB, pC]
                  refine wpOrd_yield (v := .int .i64 (ba : Int)) rfl (fun u hu => by have := hu.2; go_simp) ?_
                  simp only [Act.put, pA, pB, pC]
                  refine wpOrd_yield (v := .int .i64 (q : Int)) rfl (fun u _ => exec_mv rfl rfl) ?_
                  simp only [Act.put, pA, pB, pC]
                  refine wpOrd_yield (v := .int .i64 0) rfl (fun u _ => by go_simp) ?_
                  simp only [Act.put, pA, pB, pC]
                  refine wpOrd_yield (v := .int .i64 (ba : Int)) rfl (fun u _ => by go_simp) ?_
                  simp only [Act.put, pA, pB, pC]
                  refine wpOrd_yield (v := .pointer (some ⟨gl, ba * 1024, none⟩)) rfl (fun u _ => by go_simp) ?_
                  simp only [Act.put, pA, pB, pC]
                  refine wpOrd_yield (v := .int .i64 (q : Int)) rfl (fun u _ => exec_mv rfl rfl) ?_
                  simp only [Act.put, pA, pB, pC]
                  refine wpOrd_yield (v := .int .i64 (q : Int)) rfl (fun u _ => by go_simp) ?_
                  simp only [Act.put, pA, pB, pC]
                  refine wpOrd_act (W' := wc.drew) rfl (exec_ldB (f := FQ ba) rfl rfl hnum) ⟨p9, p6⟩ ?_
                  simp only [Act.put, pA, pB, pC]
                  refine wpOrd_call rfl 83 _ _ rfl Tryz.call83 [.agg (blk (FQ ba)), .int .i64 (q : Int), .bool true] rfl ?_
                  refine hset.mono ?_
                  rintro e X5 ⟨rfl, hb5⟩
                  have HS5 : Hid (LaS w X5 gw gp gl gu b y FQ UM 1 nM b l i (.slice pi k ci) fr sp) := HSd.out.call hb5
                  have r6 : X5.cell? ⟨gw, 6, none⟩ = some (.int .i64 (ba : Int)) := by rw [← HyB.out]; exact Joins.cell_of_block HS5.out.lay 6
                  refine ⟨_, rfl, ⟨Joins.cell_of_block HS5.out.pg.row 9, r6⟩, ?_⟩
                  simp only [Act.put, pA, pB, pC]
                  refine wpOrd_yield (v := .pointer (some ⟨gl, ba * 1024, none⟩)) rfl (fun u _ => by go_simp) ?_
                  simp only [Act.put, pA, pB, pC]
                  have hth : X5.there gl (ba * 1024) 1024 := HS5.out.pg.there hba
                  have HS6 : Hid (LaS w (X5.setCells gl (ba * 1024) (blk (setP (FQ ba) q)).toList) gw gp gl gu b y FN UM 1 nM b l i (.slice pi k ci) fr sp) := by
                    have := HS5.out.page (HS5.out.pg.setBlk ba (setP (FQ ba) q)) ((Fr.setCells X5 gl (ba * 1024) (blk (setP (FQ ba) q)).toList).mono fun _ _ e => .inr (.inl e))
                    rwa [← HFn.out] at this
                  have r6' : (X5.setCells gl (ba * 1024) (blk (setP (FQ ba) q)).toList).cell? ⟨gw, 6, none⟩ = some (.int .i64 (ba : Int)) := by rw [← HyB.out]; exact Joins.cell_of_block HS6.out.lay 6
                  refine wpOrd_do rfl (exec_stB rfl rfl rfl hth) ⟨Joins.cell_of_block HS6.out.pg.row 9, r6'⟩ ?_
                  simp only [Act.put]
                  refine wpOrd_nil ?_
                  clear hth HS5 hb5 hset hnum HSd p9 p6 r6 r6'
                  generalize X5.setCells gl (ba * 1024) (blk (setP (FQ ba) q)).toList = X6 at *
                  go_wp2
                  exact ⟨⟨q + 1, by omega, by go_num, by rw [HFN.out]; exact HS6.out⟩, by simp [intOf]; omega⟩
            · obtain rfl : q = b := by omega
              have p9 : wr.cell? ⟨gp, 9, none⟩ = some (.slice (some ⟨gl, 0, none⟩) q q) := Joins.cell_of_block HS.out.pg.row 9
              have him := image_any HS.out.pg.blks (by omega)
              obtain ⟨FZ, hFZ⟩ : ∃ FZ, finF FM UM y da ba q = FZ := ⟨_, rfl⟩
              have HFZ : Hid (finF FM UM y da ba q = FZ) := hFZ
              rw [hFZ] at him
              clear hFZ
              go_wp2_with (first | (go_at_call 85; fail))
              refine him.mono ?_
              rintro e X8 ⟨v, rfl, ho, hb8'⟩
              obtain ⟨pv, cv, rfl, _⟩ := OwnG.lie celRow_len ho
              have hr8 := heap_kept HS.out.res hb8'
              have HO : Hid (OwnH X8 wr.heap.size (.slice pv _ cv) (imgL FZ q)) := ho
              have HB8 : Hid (Below w.heap.size w X8) := below_next HS.out.bel hb8'
              have hwsz := HS.out.far
              have hgpl := (Array.getElem?_eq_some_iff.1 HS.out.lay).1
              clear him ho hb8' HS p9 c0
              generalize (imgL FZ q).length = LL at *
              go_wp2_with (first | (with_reducible refine isStoreR 97 ?_; refine wpList_stR 97 rfl (.tmp 6) (.tmp 184) rfl (w.heap.size + 2) (imRow q (.slice pv LL cv)) (imRow 0 (.slice none 0 0)) 97 (imr_info _ _) (imr_two _ _ _ _) (imr_one _ _ _ _) rfl rfl hr8 ?_))
              have hF := Fr.setRow X8 (w.heap.size + 2) (imRow q (.slice pv LL cv))
              exact retR Tryz.underlying97 rfl rfl (w.heap.size + 2) _ 97 (imr_info _ _) rfl (setRow_heap _ _ _ _ _ _ hr8) rfl ⟨_, rfl, by rw [HFM.out, HUM.out, HFZ.out]; exact OwnG.mono (own_frame HO.out hF fun b hb hT => own_ne HO.out hr8 (by decide) (hT ▸ hb)) (by omega), HB8.out.trans (hF.below (fun j q => by omega) HB8.out.size)⟩
end Go.Proofs.YtiejhjngcnkimaaGreatR
/- May a state be: the document's Laid, Look and Same in a row. -/
namespace Go.Proofs.YtiejhjngcnkimaaGreatR
open Go.RowKit Go.Maps
theorem Steps.later {w A : World} {n : Nat} {y : Lay} {ts : List It} {Fk : Nat → Nat → Nat → Int} {Uk : Nat → Nat → Bool} {nk : Nat → Nat} (h : Steps w n y ts Fk Uk nk) (hb : Below w.heap.size w A) : Steps A n y ts Fk Uk nk :=
  ⟨h.f0, h.u0, h.n0, fun k t ht W gp gl gu hW h1 h2 h3 hP => h.go k t ht W gp gl gu (below_next hb hW) (Nat.le_trans hb.size h1) (Nat.le_trans hb.size h2) (Nat.le_trans hb.size h3) hP⟩
theorem SameSt.later {w W : World} {p q : Option Addr} {ts us : List It} {E : Nat → List (Int × ByteArray)} (h : SameSt w p q ts us E) (hb : Below w.heap.size w W) : SameSt W p q ts us E := ⟨h.len, h.max, h.l1.later hb, h.l2.later hb, fun j t u h1 h2 => (h.eq j t u h1 h2).later hb⟩
def laidL (b l i : Nat) (F : Nat → Nat → Int) (U : Nat → Bool) : List Cel := imgL (finF F U (layOf b l i) (daOf b l i) (baOf l i) b) b
set_option maxRecDepth 40000 in
set_option maxHeartbeats 4000000 in
theorem may_ok {w : World} {b l i nN bB : Nat} (hg : GeoOk b l i) (hb8 : b ≤ 8192) (hm1 : daOf b l i + 1 < b) {ts : List It} {pi : Option Addr} (ci : Nat) (hts : LieG itCells 7 w pi ts) (hM : ts.length ≤ 1000000) (fr sp : Int) {Fk : Nat → Nat → Nat → Int} {Uk : Nat → Nat → Bool} {nk : Nat → Nat} (hst : Steps w b (layOf b l i) ts Fk Uk nk) (hby : Byt (supF (Fk ts.length) (layOf b l i) (baOf l i)))
    {im : List Cel} (him : laidL b l i (Fk ts.length) (Uk ts.length) = im) {ent : Fl → List (Int × ByteArray)} (hw : WholeOk (b : Int) im) (hs : SupOk b l i im) (hbyt : ∀ c ∈ im, ∀ i, 0 ≤ c.2 i ∧ c.2 i ≤ 255) (hf : FineA (layOf b l i) im i nN b bB ent) (R : World → Fl → It → Prop)
    (hR : ∀ g A L, L.map Fl.core = filesK (layOf b l i) im i → Aud A g (b : Int) im (layOf b l i) → (∀ x ∈ L, FlOk A x) → Tells R g A L)
    (hsame : ∀ W B L v us, L.map Fl.core = filesK (layOf b l i) im i → LkR W B R L v us → Below w.heap.size w W → freeK (layOf b l i) L L.length = fr ∧ (i : Int) - (L.length : Int) = sp ∧ ∃ pv cv E, v = .slice pv us.length cv ∧ SameSt W pv pi us ts E ∧ us.length = ts.length) :
    Calls Tryz.prog 37 #[.agg (geoRow b l i), .agg (stRow (.slice pi ts.length ci) fr sp)] w fun e w' => e = .returned (.bool true) ∧ Below w.heap.size w w' := by
  have zi := zeroIm
  have zs := zeroSt
  have hb0 : ¬ (b : Int) = 0 := by omega
  have hb0' : ¬ b = 0 := by omega
  have hb0'' : ((b : Int) == 0) = false := by simp; omega
  obtain ⟨A, hA⟩ : ∃ A, A = (w.alloc (.cells (geoRow b l i) 26)).alloc (.cells (stRow (.slice pi ts.length ci) fr sp) 29) := ⟨_, rfl⟩
  have HgA : Hid (A.heap[w.heap.size]? = some (.cells (geoRow b l i) 26)) := by rw [hA]; exact heap_kept (heap_alloc_new _ _) (below_new _ _)
  have HsA : Hid (A.heap[w.heap.size + 1]? = some (.cells (stRow (.slice pi ts.length ci) fr sp) 29)) := by rw [hA]; exact heap_two _ _ _
  have HbA : Hid (Below w.heap.size w A) := by rw [hA]; exact below_next (below_new _ _) (below_new _ _)
  have hlaid := laid_zero hg hb8 hm1 ci (hts.later HbA.out) hM fr sp (hst.later HbA.out) hby
  rw [show imgL (finF (Fk ts.length) (Uk ts.length) (layOf b l i) (daOf b l i) (baOf l i) b) b = im from him] at hlaid
  have HLook : Hid (∀ W p cap, ImgAt W p im → Calls Tryz.prog 77 #[.agg #[.int .i64 (b : Int), .slice p im.length cap]] W fun e w' => ∃ L v ts, e = .returned (.tuple #[.agg (stRow v (freeK (layOf b l i) L L.length) ((i : Int) - (L.length : Int))), .slice none 0 0]) ∧ L.map Fl.core = filesK (layOf b l i) im i ∧ LkR w' W.heap.size R L v ts ∧ Below W.heap.size W w') := fun W p cap hi => look29_ok hi hw hs (Int.le_refl _) hbyt hf R hR
  have HSame : Hid _ := hsame
  have HA : Hid (A = _) := hA
  clear hA hst hby hts hf hs hw hR hbyt hsame him
  obtain ⟨M, hMM⟩ : ∃ M, ts.length = M := ⟨_, rfl⟩
  have HM : Hid (ts.length = M) := hMM
  rw [hMM] at HsA HA hM hlaid ⊢
  clear hMM
  go_enter Tryz.func37, Tryz.ntmps37
  go_upto_region 1 with fail
  rw [← HA.out]
  clear HA
  go_wp2_with (first | (with_reducible refine isLoadR 26 ?_; refine wpList_ldR 26 Tryz.underlying26 rfl rfl (.tmp 2) rfl w.heap.size rfl (geoRow b l i) 26 (0, 0) (geo_info _ _ _) HgA.out ?_) | (with_reducible refine isLoadR 29 ?_; refine wpList_ldR 29 Tryz.underlying29 rfl rfl (.tmp 3) rfl (w.heap.size + 1) rfl (stRow (.slice pi M ci) fr sp) 29 (0, 0) (st_info _ _ _) HsA.out ?_) | (go_at_call 38; fail))
  refine hlaid.mono ?_
  rintro e X ⟨v, rfl, hown, hbX⟩
  obtain ⟨p, c, rfl, himg⟩ := OwnH.img hown
  have HsX : Hid _ := heap_kept (heap_kept HsA.out hbX) (below_new X (.cells (imRow b (.slice p im.length c)) 97))
  have HiX : Hid (ImgAt (X.alloc (.cells (imRow b (.slice p im.length c)) 97)) p im) := himg.later (below_new _ _)
  have HrX : Hid ((X.alloc (.cells (imRow b (.slice p im.length c)) 97)).heap[X.heap.size]? = some (.cells (imRow b (.slice p im.length c)) 97)) := heap_alloc_new _ _
  have HbX : Hid (Below w.heap.size w (X.alloc (.cells (imRow b (.slice p im.length c)) 97))) := below_next (below_next HbA.out hbX) (below_new _ _)
  clear hlaid hown himg hbX HgA HsA HbA
  obtain ⟨N, hN⟩ : ∃ N, im.length = N := ⟨_, rfl⟩
  rw [hN] at HsX HiX HrX HbX HLook ⊢
  clear hN
  go_upto_region 2 with (first | (with_reducible refine isStoreR 97 ?_; refine wpList_stNew 97 rfl (.tmp 5) (.tmp 10) rfl X.heap.size (imRow b (.slice p N c)) (imRow 0 (.slice none 0 0)) 97 (imr_info _ _) (imr_two _ _ _ _) (imr_one _ _ _ _) rfl rfl rfl ?_))
  generalize X.alloc (.cells (imRow b (.slice p N c)) 97) = V at *
  generalize X.heap.size = gi at *
  have c0 : V.cell? ⟨gi, 0, none⟩ = some (.int .i64 (b : Int)) := Joins.cell_of_block HrX.out 0
  have hlook := HLook.out V p c HiX.out
  go_wp2_with (first | (with_reducible refine isLoadR 97 ?_; refine wpList_ldR 97 Tryz.underlying97 rfl rfl (.tmp 5) rfl gi rfl (imRow b (.slice p N c)) 97 (0, 0) (imr_info _ _) HrX.out ?_) | (go_at_call 77; fail))
  refine hlook.mono ?_
  rintro e Y ⟨L, v, us, rfl, hcore, hlk, hbY⟩
  obtain ⟨hfr, hsp, pv, cv, E, rfl, hss, hul⟩ := HSame.out Y _ L v us hcore hlk (below_next HbX.out hbY)
  rw [hfr, hsp]
  have HsY : Hid _ := heap_kept (heap_kept HsX.out hbY) (below_new Y (.cells (stRow (.slice pv us.length cv) fr sp) 29))
  have HnY : Hid ((Y.alloc (.cells (stRow (.slice pv us.length cv) fr sp) 29)).heap[Y.heap.size]? = some (.cells (stRow (.slice pv us.length cv) fr sp) 29)) := heap_alloc_new _ _
  have HbY : Hid (Below w.heap.size w (Y.alloc (.cells (stRow (.slice pv us.length cv) fr sp) 29))) := below_next (below_next HbX.out hbY) (below_new _ _)
  have hsm := same28_eq cv ci fr sp (hss.later (below_new Y (.cells (stRow (.slice pv us.length cv) fr sp) 29)))
  rw [hul, HM.out] at hsm HsY HnY HbY ⊢
  clear hlook hcore hlk hbY HSame hss HsX HrX HiX HbX c0 HLook
  go_upto_region 5 with (first | (with_reducible refine isStoreR 29 ?_; refine wpList_stNew 29 rfl (.tmp 6) (.tmp 17) rfl Y.heap.size (stRow (.slice pv M cv) fr sp) (stRow (.slice none 0 0) 0 0) 29 (st_info _ _ _) (st_two _ _ _ _ _ _) (st_one _ _ _ _ _) rfl rfl rfl ?_))
  generalize Y.alloc (.cells (stRow (.slice pv M cv) fr sp) 29) = Z at *
  generalize Y.heap.size = gs at *
  go_wp2_with (first | (with_reducible refine isLoadR 29 ?_; refine wpList_ldR 29 Tryz.underlying29 rfl rfl (.tmp 6) rfl gs rfl (stRow (.slice pv M cv) fr sp) 29 (0, 0) (st_info _ _ _) HnY.out ?_) | (with_reducible refine isLoadR 29 ?_; refine wpList_ldR 29 Tryz.underlying29 rfl rfl (.tmp 3) rfl (w.heap.size + 1) rfl (stRow (.slice pi M ci) fr sp) 29 (0, 0) (st_info _ _ _) HsY.out ?_) | (go_at_call 78; fail))
  refine hsm.mono ?_
  rintro e Z2 ⟨rfl, hb2⟩
  have HZ : Hid _ := below_next HbY.out hb2
  clear hsm hb2
  go_wp2
  go_ret
  exact ⟨rfl, HZ.out⟩
end Go.Proofs.YtiejhjngcnkimaaGreatR
/- The empty file system of the document's examples: its image, and what is said of it. -/
namespace Go.Proofs.YtiejhjngcnkimaaGreatR
open Go.RowKit Go.Maps
theorem imgL_skip {F : Nat → Nat → Int} {a : Nat} : ∀ d, (∀ k, a ≤ k → k < a + d → F k = nought) → imgL F (a + d) = imgL F a
  | 0, _ => rfl
  | d + 1, h => by
    rw [show a + (d + 1) = (a + d) + 1 by omega, imgL_zero (by rw [h (a + d) (by omega) (by omega)]; exact sameN_self _ _)]
    exact imgL_skip d fun k h1 h2 => h k h1 (by omega)
theorem same_no {f : Nat → Int} (j : Nat) (hj : j < 1024) (h : ¬ f j = 0) : sameN 1024 f nought = false := by
  cases hs : sameN 1024 f nought with
  | false => rfl
  | true => exact absurd ((sameN_iff _ _ _).1 hs j hj) h
theorem filesK_skip {y : Lay} {l : List Cel} {a : Nat} : ∀ d, (∀ k, a ≤ k → k < a + d → numN (rawP y l (k + 1)) 0 2 = 0) → filesK y l (a + d) = filesK y l a
  | 0, _ => rfl
  | d + 1, h => by
    rw [show a + (d + 1) = (a + d) + 1 by omega, filesK_zero (h (a + d) (by omega) (by omega))]
    exact filesK_skip d fun k h1 h2 => h k h1 (by omega)
theorem nought_byt : Byt nought := fun _ => by unfold nought; omega
theorem encD_byt {f : Nat → Int} (hf : Byt f) (d : Nat → Int) : ∀ m, Byt (encD f d m)
  | 0 => hf
  | m + 1 => putP_byt (encD_byt hf d m) _ _ _
theorem encN_byt (k l s b : Int) (d : Nat → Int) : Byt (encN k l s b d) := encD_byt (putP_byt (putP_byt (putP_byt (putP_byt nought_byt _ _ _) _ _ _) _ _ _) _ _ _) _ _
theorem overN_byt {F f : Nat → Int} (h1 : Byt F) (h2 : Byt f) (o n : Nat) : Byt (overN F o n f) := fun j => by unfold overN; split; exact h2 _; exact h1 _
theorem encP_byt {i : Int} (hi : 0 ≤ i ∧ i < 65536) (s : ByteArray) : Byt (encP i s) := fun j => by
  unfold encP
  split
  · omega
  · split
    · omega
    · split
      · rename_i h
        have := (s[j - 2]).toNat_lt
        omega
      · omega
theorem encE_byt {e : Int × ByteArray} (hi : 0 ≤ e.1 ∧ e.1 < 65536) : Byt (encE e) := by
  unfold encE
  split
  · exact nought_byt
  · exact encP_byt hi _
theorem dirP_byt {es : List (Int × ByteArray)} (h : ∀ e ∈ es, 0 ≤ e.1 ∧ e.1 < 65536) (m : Nat) : Byt (dirP es m) := fun j => by
  unfold dirP
  split
  · refine encE_byt ?_ _
    rw [List.getD_eq_getElem?_getD]
    cases hq : es[j / 16]? with
    | none => show (0 : Int) ≤ 0 ∧ (0 : Int) < 65536; omega
    | some e => exact h e (List.mem_of_getElem? hq)
  · omega
theorem magicB_byt : ∀ j, 0 ≤ magicB j ∧ magicB j ≤ 255 := fun j => by unfold magicB; split <;> omega
theorem supP_byt (y : Lay) : Byt (supP y) := fun j => by
  unfold supP
  split
  · exact magicB_byt j
  · split
    · have := Int.emod_nonneg (numL y ((j - 8) / 4) / 256 ^ ((j - 8) % 4)) (show (256 : Int) ≠ 0 by decide)
      have := Int.emod_lt_of_pos (numL y ((j - 8) / 4) / 256 ^ ((j - 8) % 4)) (show (0 : Int) < 256 by decide)
      omega
    · omega
def y0 : Lay := layOf 400 32 60
def esR : List (Int × ByteArray) := [(1, bDot), (1, bDots)]
def FR : Nat → Nat → Int := pgDir noF 38 33 64 esR 2 32
def UR : Nat → Bool := updB allNo 38 true
def FF : Nat → Nat → Int := finF FR UR y0 38 37 400
def N0 : Nat → Int := overN nought 64 64 (encN 2 2 32 1 (updN nought 0 38))
def D0 : Nat → Int := dirP esR 32
def B0 : Nat → Int := bitsR nought (wantL 38 UR) 400
def imE : List Cel := [(0, supP y0), (33, N0), (37, B0), (38, D0)]
theorem ff_0 : FF 0 = supP y0 := rfl
theorem ff_33 : FF 33 = N0 := rfl
theorem ff_37 : FF 37 = B0 := by
  unfold FF B0
  rw [finF_at, show supF FR y0 37 = nought from rfl]
theorem ff_38 : FF 38 = D0 := rfl
theorem ff_no (k : Nat) (h0 : ¬ k = 0) (h1 : ¬ k = 33) (h2 : ¬ k = 37) (h3 : ¬ k = 38) : FF k = nought := by
  unfold FF finF updF
  rw [if_neg h2]
  unfold supF updF
  rw [if_neg h0]
  unfold FR pgDir updF
  rw [if_neg h1, if_neg h3]
  rfl
theorem wantR (k : Nat) : wantL 38 UR k = (decide (k < 38) || decide (k = 38)) := by
  unfold wantL UR updB allNo
  by_cases h : k = 38
  · subst h; rfl
  · simp [h]
theorem b0_has (j : Nat) : hasP B0 j = decide (j < 39) := by
  unfold B0
  rw [bitsR_has nought_byt, wantR]
  have : hasP nought j = false := by unfold hasP nought; simp
  rw [this]
  by_cases h : j < 39
  · simp [h]; omega
  · simp [h]; omega
theorem b0_zero : ¬ B0 0 = 0 := fun h => by
  have := b0_has 0
  unfold hasP at this
  rw [show (0 : Nat) / 8 = 0 from rfl, h] at this
  exact absurd this (by decide)
theorem im_eq : laidL 400 32 60 FR UR = imE := by
  show imgL FF 400 = imE
  rw [show (400 : Nat) = 39 + 361 from rfl, imgL_skip 361 fun k h1 h2 => ff_no k (by omega) (by omega) (by omega) (by omega)]
  rw [imgL_some (k := 38) (by rw [ff_38]; exact same_no 0 (by decide) (by decide +kernel))]
  rw [imgL_some (k := 37) (by rw [ff_37]; exact same_no 0 (by decide) b0_zero)]
  rw [show (37 : Nat) = 34 + 3 from rfl, imgL_skip 3 fun k h1 h2 => ff_no k (by omega) (by omega) (by omega) (by omega)]
  rw [imgL_some (k := 33) (by rw [ff_33]; exact same_no 64 (by decide) (by decide +kernel))]
  rw [show (33 : Nat) = 1 + 32 from rfl, imgL_skip 32 fun k h1 h2 => ff_no k (by omega) (by omega) (by omega) (by omega)]
  rw [imgL_some (k := 0) (by rw [ff_0]; exact same_no 0 (by decide) (by decide +kernel)), show imgL FF 0 = [] from rfl]
  have h33 := ff_33
  have h37 := ff_37
  have h38 := ff_38
  have h0 := ff_0
  unfold imE
  generalize supP y0 = a at *
  generalize N0 = b at *
  generalize B0 = c at *
  generalize D0 = d at *
  generalize FF = F at *
  subst h0 h33 h37 h38
  rfl
attribute [irreducible] B0
end Go.Proofs.YtiejhjngcnkimaaGreatR
/- The empty file system of the document's examples: nothing of it is wrong. -/
namespace Go.Proofs.YtiejhjngcnkimaaGreatR
open Go.RowKit Go.Maps
theorem esR_in : ∀ e ∈ esR, 0 ≤ e.1 ∧ e.1 < 65536 := fun e he => by
  unfold esR at he
  simp only [List.mem_cons, List.not_mem_nil, or_false] at he
  rcases he with rfl | rfl <;> (constructor <;> decide)
theorem n0_byt : Byt N0 := overN_byt nought_byt (encN_byt _ _ _ _ _) _ _
theorem d0_byt : Byt D0 := dirP_byt esR_in _
theorem b0_byt : Byt B0 := by unfold B0; exact bitsR_byt nought_byt _ _
theorem imE_byt : ∀ c ∈ imE, ∀ i, 0 ≤ c.2 i ∧ c.2 i ≤ 255 := fun c hc => by
  unfold imE at hc
  simp only [List.mem_cons, List.not_mem_nil, or_false] at hc
  rcases hc with rfl | rfl | rfl | rfl
  · exact supP_byt _
  · exact n0_byt
  · exact b0_byt
  · exact d0_byt
theorem imE_at : ∀ (i : Nat) c, imE[i]? = some c → (i = 0 ∧ c = (0, supP y0)) ∨ (i = 1 ∧ c = (33, N0)) ∨ (i = 2 ∧ c = (37, B0)) ∨ (i = 3 ∧ c = (38, D0))
  | 0, c, h => .inl ⟨rfl, by unfold imE at h; simpa using h.symm⟩
  | 1, c, h => .inr (.inl ⟨rfl, by unfold imE at h; simpa using h.symm⟩)
  | 2, c, h => .inr (.inr (.inl ⟨rfl, by unfold imE at h; simpa using h.symm⟩))
  | 3, c, h => .inr (.inr (.inr ⟨rfl, by unfold imE at h; simpa using h.symm⟩))
  | n + 4, c, h => by unfold imE at h; simp at h
theorem imE_whole : WholeOk ((400 : Nat) : Int) imE := by
  refine ⟨by decide, by decide, by show (4 : Nat) ≤ 1048576; decide, fun i c h => ?_, fun i c h => ?_, fun i c h => ?_⟩
  · rcases imE_at i c h with ⟨rfl, rfl⟩ | ⟨rfl, rfl⟩ | ⟨rfl, rfl⟩ | ⟨rfl, rfl⟩
    · show (-1 : Int) < 0; decide
    · show (0 : Int) < 33; decide
    · show (33 : Int) < 37; decide
    · show (37 : Int) < 38; decide
  · rcases imE_at i c h with ⟨rfl, rfl⟩ | ⟨rfl, rfl⟩ | ⟨rfl, rfl⟩ | ⟨rfl, rfl⟩
    · show (0 : Int) < 400; decide
    · show (33 : Int) < 400; decide
    · show (37 : Int) < 400; decide
    · show (38 : Int) < 400; decide
  · rcases imE_at i c h with ⟨rfl, rfl⟩ | ⟨rfl, rfl⟩ | ⟨rfl, rfl⟩ | ⟨rfl, rfl⟩
    · exact same_no 0 (by decide) (by decide +kernel)
    · exact same_no 64 (by decide) (by decide +kernel)
    · exact same_no 0 (by decide) b0_zero
    · exact same_no 0 (by decide) (by decide +kernel)
theorem geoE : GeoOk 400 32 60 := ⟨by decide, by decide, by decide, by decide, by decide, by decide, by decide⟩
theorem at_0 : atL imE 0 = supP y0 := by unfold imE atL; rw [if_pos rfl]
theorem at_33 : atL imE 33 = N0 := by unfold imE; rw [atL, if_neg (by decide), atL, if_pos rfl]
theorem at_37 : atL imE 37 = B0 := by unfold imE; rw [atL, if_neg (by decide), atL, if_neg (by decide), atL, if_pos rfl]
theorem at_38 : atL imE 38 = D0 := by unfold imE; rw [atL, if_neg (by decide), atL, if_neg (by decide), atL, if_neg (by decide), atL, if_pos rfl]
theorem at_no (k : Int) (h0 : ¬ k = 0) (h1 : ¬ k = 33) (h2 : ¬ k = 37) (h3 : ¬ k = 38) : atL imE k = nought := by
  unfold imE
  rw [atL, if_neg (by omega), atL, if_neg (by omega), atL, if_neg (by omega), atL, if_neg (by omega), atL]
theorem imE_sup : SupOk 400 32 60 imE := ⟨geoE, fun j _ => by rw [at_0]; rfl, fun j _ => by rw [at_no 1 (by decide) (by decide) (by decide) (by decide)]; rfl⟩
theorem raw_no (i : Nat) (h1 : ¬ i = 1) (hi : i < 64) (j : Nat) (hj : j < 64) : rawP y0 imE i j = 0 := by
  show atL imE (33 + ((i / 16 : Nat) : Int)) (64 * (i % 16) + j) = 0
  by_cases h : i < 16
  · rw [show (33 : Int) + ((i / 16 : Nat) : Int) = 33 by omega, at_33]
    unfold N0 overN
    rw [if_neg (by omega)]
    rfl
  · rw [at_no _ (by omega) (by omega) (by omega) (by omega)]
    rfl
theorem raw_1 (j : Nat) (hj : j < 64) : rawP y0 imE 1 j = encN 2 2 32 1 (updN nought 0 38) j := by
  show atL imE 33 (64 + j) = _
  rw [at_33]
  unfold N0 overN
  rw [if_pos (by omega), show 64 + j - 64 = j by omega]
theorem num_congr {f g : Nat → Int} : ∀ (m k : Nat), (∀ j, k ≤ j → j < k + m → f j = g j) → numN f k m = numN g k m
  | 0, _, _ => rfl
  | m + 1, k, h => by rw [numN, numN, h k (by omega) (by omega), num_congr m (k + 1) fun j h1 h2 => h j (by omega) (by omega)]
theorem r1_k : numN (rawP y0 imE 1) 0 2 = 2 := (num_congr 2 0 fun j _ h => raw_1 j (by omega)).trans (by decide +kernel)
theorem r1_l : numN (rawP y0 imE 1) 2 2 = 2 := (num_congr 2 2 fun j _ h => raw_1 j (by omega)).trans (by decide +kernel)
theorem r1_s : numN (rawP y0 imE 1) 4 4 = 32 := (num_congr 4 4 fun j _ h => raw_1 j (by omega)).trans (by decide +kernel)
theorem r1_b : numN (rawP y0 imE 1) 8 4 = 1 := (num_congr 4 8 fun j _ h => raw_1 j (by omega)).trans (by decide +kernel)
theorem r1_d (i : Nat) (hi : i < 12) : decD (rawP y0 imE 1) i = if i = 0 then 38 else 0 := by
  unfold decD
  rw [num_congr 4 (12 + 4 * i) fun j _ h => raw_1 j (by omega)]
  have : ∀ i : Fin 12, numN (encN 2 2 32 1 (updN nought 0 38)) (12 + 4 * i.val) 4 = if i.val = 0 then 38 else 0 := by decide +kernel
  exact this ⟨i, hi⟩
theorem spD_skip {d : Nat → Int} {a : Nat} : ∀ m, (∀ k, a ≤ k → k < a + m → d k = 0) → spD d (a + m) = spD d a
  | 0, _ => rfl
  | m + 1, h => by
    rw [show a + (m + 1) = (a + m) + 1 by omega, spD_zero (h (a + m) (by omega) (by omega))]
    exact spD_skip m fun k h1 h2 => h k h1 (by omega)
theorem r1_sp : spotsP y0 imE (decD (rawP y0 imE 1)) = [(0, 38)] := by
  unfold spotsP
  rw [r1_d 10 (by decide), r1_d 11 (by decide), if_neg (by decide), if_neg (by decide)]
  rw [show (10 : Nat) = 1 + 9 from rfl, spD_skip 9 fun k h1 h2 => by rw [r1_d k (by omega), if_neg (by omega)]]
  rw [spD_some (k := 0) (by rw [r1_d 0 (by decide)]; decide), r1_d 0 (by decide)]
  rfl
def FcE : FC := ⟨1, 2, 2, 32, 1, decD (rawP y0 imE 1), [(0, 38)]⟩
theorem filesE : filesK y0 imE 60 = [FcE] := by
  have hz : ∀ k, ¬ k = 1 → k < 64 → numN (rawP y0 imE k) 0 2 = 0 := fun k h1 h2 => by
    rw [num_congr (g := nought) 2 0 fun j _ h => raw_no k h1 h2 j (by omega)]
    rfl
  rw [show (60 : Nat) = 1 + 59 from rfl, filesK_skip 59 fun k h1 h2 => hz (k + 1) (by omega) (by omega)]
  rw [filesK_some (k := 0) (by rw [show 0 + 1 = 1 from rfl, r1_k]; decide), show 0 + 1 = 1 from rfl]
  unfold flP FcE
  rw [r1_k, r1_l, r1_s, r1_b, r1_sp]
  rfl
end Go.Proofs.YtiejhjngcnkimaaGreatR
/- The empty file system of the document's examples is sound. -/
namespace Go.Proofs.YtiejhjngcnkimaaGreatR
open Go.RowKit Go.Maps
def entE : Fl → List (Int × ByteArray) := fun _ => esR
theorem nodesE : NodesOk y0 imE 60 4 := by
  refine ⟨rfl, by decide, rfl, by decide, by decide, fun i hi => ?_, fun i h1 h2 j hj => raw_no i (by omega) (by omega) j hj⟩
  by_cases h : i = 1
  · subst h
    refine .inr ⟨by decide, by rw [r1_k]; decide, ?_, fun _ => ⟨r1_k, by rw [r1_l]; decide⟩⟩
    rw [r1_k, r1_l, r1_s]
    refine ⟨fun j h1 h2 => ?_, by decide, by decide, by decide, fun _ => by decide⟩
    rw [raw_1 j h2]
    have : ∀ q : Fin 4, encN 2 2 32 1 (updN nought 0 38) (60 + q.val) = 0 := by decide +kernel
    have := this ⟨j - 60, by omega⟩
    rwa [show 60 + (j - 60) = j by omega] at this
  · exact .inl ⟨h, fun j hj => raw_no i h (by omega) j hj⟩
theorem nm_dot : NmOk bDot := ⟨by decide, by decide, fun i h => by
  have : i = 0 := by have : bDot.size = 1 := rfl; omega
  subst this
  exact ⟨by show ¬ ((46 : Nat) : Int) = 0; decide, by show ¬ ((46 : Nat) : Int) = 47; decide⟩⟩
theorem nm_dots : NmOk bDots := ⟨by decide, by decide, fun i h => by
  have h2 : i = 0 ∨ i = 1 := by have : bDots.size = 2 := rfl; omega
  rcases h2 with rfl | rfl <;> exact ⟨by show ¬ ((46 : Nat) : Int) = 0; decide, by show ¬ ((46 : Nat) : Int) = 47; decide⟩⟩
theorem esR_at : ∀ (i : Nat) e, esR[i]? = some e → (i = 0 ∧ e = (1, bDot)) ∨ (i = 1 ∧ e = (1, bDots))
  | 0, e, h => .inl ⟨rfl, by unfold esR at h; simpa using h.symm⟩
  | 1, e, h => .inr ⟨rfl, by unfold esR at h; simpa using h.symm⟩
  | n + 2, e, h => by unfold esR at h; simp at h
theorem esR_ok : ∀ e ∈ esR, EntOk e := fun e he => by
  unfold esR at he
  simp only [List.mem_cons, List.not_mem_nil, or_false] at he
  rcases he with rfl | rfl
  · exact .inr ⟨by constructor <;> decide, nm_dot⟩
  · exact .inr ⟨by constructor <;> decide, nm_dots⟩
theorem dot_ne : ¬ bDot = bDots := fun h => absurd (congrArg ByteArray.size h) (by decide)
theorem sloE (k : Nat) (e : Int × ByteArray) (h : esR[k]? = some e) : EntB (sloP imE [(0, 38)] k) e := by
  have hs : ∀ q j, q < 2 → j < 16 → sloP imE [(0, 38)] q j = encE (esR.getD q (0, ⟨#[]⟩)) j := fun q j hq hj => by
    unfold sloP
    rw [show ((q * 16 / 1024 : Nat) : Int) = 0 by omega, show mapP [(0, 38)] 0 = 38 from rfl, at_38]
    unfold D0 dirP
    rw [if_pos (by omega), show (q * 16 % 1024 + j) / 16 = q by omega, show (q * 16 % 1024 + j) % 16 = j by omega]
  rcases esR_at k e h with ⟨rfl, rfl⟩ | ⟨rfl, rfl⟩
  · exact .inr ⟨by constructor <;> decide, nm_dot, fun j hj => hs 0 j (by decide) hj⟩
  · exact .inr ⟨by constructor <;> decide, nm_dots, fun j hj => hs 1 j (by decide) hj⟩
theorem oneE {L : List Fl} (h : L.map Fl.core = filesK y0 imE 60) : ∃ p c, L = [⟨1, 2, 2, 32, 1, decD (rawP y0 imE 1), p, c, [(0, 38)]⟩] := by
  rw [filesE] at h
  match L, h with
  | [x], h =>
    obtain ⟨inum, k, lk, s, b, d, p, c, sp⟩ := x
    unfold FcE Fl.core at h
    simp only [List.map_cons, List.map_nil, List.cons.injEq, and_true, FC.mk.injEq] at h
    obtain ⟨rfl, rfl, rfl, rfl, rfl, rfl, rfl⟩ := h
    exact ⟨p, c, rfl⟩
  | [], h => simp at h
  | _ :: _ :: _, h => simp at h
theorem fineE : FineA y0 imE 60 4 400 1 entE := by
  refine ⟨nodesE, by decide, rfl, by decide, rfl, by decide, by decide, fun L hL => ?_⟩
  obtain ⟨p, c, rfl⟩ := oneE hL
  generalize decD (rawP y0 imE 1) = d at *
  have h1 : ∀ {P : Fl → Prop}, P ⟨1, 2, 2, 32, 1, d, p, c, [(0, 38)]⟩ → ∀ x ∈ [(⟨1, 2, 2, 32, 1, d, p, c, [(0, 38)]⟩ : Fl)], P x := fun h x hx => by rw [List.mem_singleton.1 hx]; exact h
  have hs1 : ∀ {P : Int × Int → Prop}, P (0, 38) → ∀ s ∈ [((0 : Int), (38 : Int))], P s := fun h s hs => by rw [List.mem_singleton.1 hs]; exact h
  have hall : allS [(⟨1, 2, 2, 32, 1, d, p, c, [(0, 38)]⟩ : Fl)] = [(0, 38)] := rfl
  have hnm : namesP entE [(⟨1, 2, 2, 32, 1, d, p, c, [(0, 38)]⟩ : Fl)] = [] := rfl
  refine ⟨h1 (by show (1 : Nat) ≤ 1000000; decide), h1 ⟨by show (0 : Int) ≤ 32 ∧ (32 : Int) ≤ 4294967295; decide, by show (0 : Int) ≤ 1 ∧ (1 : Int) ≤ 4294967295; decide⟩, h1 (by show (0 : Int) ≤ 2 ∧ (2 : Int) < 65536; decide), h1 (hs1 (by decide)), h1 (hs1 (by show (0 : Int) ≤ 38 ∧ (38 : Int) < 400; decide)), by rw [hall]; decide, fun b hb => ?_, h1 ⟨?_, ?_, ?_, ?_, ?_⟩, fun k i hk hi => ?_, h1 fun _ => ⟨by show (1 : Nat) ≤ 65535; decide, ⟨rfl, by show (2 : Nat) ≤ 100000; decide, fun k e h => sloE k e h⟩, fun _ => ⟨rfl, ⟨1, rfl⟩, fun i e h _ => ?_, fun i e h hi _ => ?_, fun i k e f he hf hk _ => ?_⟩⟩, by rw [hnm]; decide, (by rw [hnm]; intro s hs; cases hs), h1 fun _ _ => ⟨by show (1 : Nat) ≤ 60; decide, fun _ => ⟨by rw [hnm]; rfl, _, rfl⟩, fun q => absurd rfl q⟩, h1 ?_⟩
  · rw [hall]
    unfold cntS
    have := List.length_filter_le (fun s : Int × Int => s.2 == (b : Int)) [(0, 38)]
    simp only [List.length_cons, List.length_nil] at this
    omega
  · exact .inr (.inr (.inr (.inr ⟨rfl, hs1 fun q => absurd q (by decide)⟩)))
  · exact .inr (.inr (.inr (.inl ⟨rfl, hs1 (by show (0 : Int) < (32 + 1023) / 1024; decide)⟩)))
  · refine .inr (.inr (.inl ⟨rfl, .inr (.inr fun j h1 h2 => ?_)⟩))
    show atL imE (mapP [(0, 38)] (32 / 1024)) j = 0
    have h1' : (32 : Int) % 1024 ≤ j := h1
    rw [show mapP [(0, 38)] (32 / 1024) = 38 from rfl, at_38]
    unfold D0 dirP
    rw [if_neg (by omega)]
  · exact .inl ⟨rfl, rfl⟩
  · refine .inr (.inl ⟨rfl, fun _ i hi => ?_⟩)
    have hi' : (i : Int) < (32 + 1023) / 1024 := hi
    rw [show (i : Int) = 0 by omega]
    show ¬ (38 : Int) = 0
    decide
  · rw [hall, show k = 0 by omega, show y0.bitsAt + ((0 : Nat) : Int) = 37 from rfl, at_37, b0_has, show 8192 * 0 + i = i by omega]
    unfold wantB cntS
    rw [show y0.dataAt = 38 from rfl]
    by_cases h : i = 38
    · subst h; decide
    · have e1 : (List.filter (fun s : Int × Int => s.2 == (i : Int)) [(0, 38)]) = [] := by
        simp; omega
      rw [e1]
      by_cases h2 : i < 38
      · rw [decide_eq_true (show i < 39 by omega), decide_eq_true (show (i : Int) < 38 by omega)]; rfl
      · rw [decide_eq_false (show ¬ i < 39 by omega), decide_eq_false (show ¬ (i : Int) < 38 by omega)]; simp
  · rcases esR_at i e h with ⟨rfl, rfl⟩ | ⟨rfl, rfl⟩ <;> rfl
  · rcases esR_at i e h with ⟨rfl, rfl⟩ | ⟨rfl, rfl⟩ <;> omega
  · rcases esR_at i e he with ⟨rfl, rfl⟩ | ⟨rfl, rfl⟩
    · omega
    · rcases esR_at k f hf with ⟨rfl, rfl⟩ | ⟨rfl, rfl⟩
      · exact dot_ne
      · omega
  · rw [hnm]; rfl
end Go.Proofs.YtiejhjngcnkimaaGreatR
/- The empty file system of the document's examples may be. -/
namespace Go.Proofs.YtiejhjngcnkimaaGreatR
open Go.RowKit Go.Maps
def tE (pe : Option Addr) (ce : Nat) : It := ⟨1, 2, 2, 32, 1, none, 0, 0, pe, 2, ce⟩
structure ExAt (w : World) (pi pe : Option Addr) (ce : Nat) : Prop where
  its : LieG itCells 7 w pi [tE pe ce]
  ent : LieG enE 2 w pe esR
theorem ExAt.later {w W : World} {pi pe : Option Addr} {ce : Nat} (h : ExAt w pi pe ce) (hb : Below w.heap.size w W) : ExAt W pi pe ce := ⟨h.its.later hb, h.ent.later hb⟩
def FkE : Nat → Nat → Nat → Int
  | 0 => noF
  | _ + 1 => FR
def UkE : Nat → Nat → Bool
  | 0 => allNo
  | _ + 1 => UR
def nkE : Nat → Nat
  | 0 => 0
  | _ + 1 => 1
theorem stepsE {w : World} {pi pe : Option Addr} {ce : Nat} (h : ExAt w pi pe ce) : Steps w 400 y0 [tE pe ce] FkE UkE nkE := by
  refine ⟨rfl, rfl, rfl, fun k t ht W gp gl gu hW h1 h2 h3 hP => ?_⟩
  match k, ht with
  | 0, ht =>
    have ht' : tE pe ce = t := by simpa using ht
    subst ht'
    have hpn : ∀ g, pe = some ⟨g, 0, none⟩ → g ≠ gp ∧ g ≠ gl ∧ g ≠ gu := fun g hg => by
      obtain ⟨g', h4, h5, _⟩ := h.ent (by decide)
      rw [h4] at hg
      injection hg with hg
      injection hg with hg
      omega
    have hd := item_dir (w := W) (gp := gp) (gl := gl) (gu := gu) (n := 400) (y := y0) (F := noF) (U := allNo) (turn := 1) (next := 0) (da := 38) (m := 362) (na := 33) (nI := 60) (inum := 1) hP rfl rfl (by decide) (by decide) (by decide) rfl rfl rfl (by decide) (by decide) (by decide) 2 32 (by decide) (by decide) 1 none 0 ce (h.ent.later hW) hpn (by decide) esR_ok
    refine hd.mono ?_
    rintro e w' ⟨rfl, hp, hf⟩
    exact ⟨rfl, hp, hf⟩
  | k + 1, ht => simp at ht
def RE (W : World) (_ : Fl) (t : It) : Prop := t.m = 0 ∧ t.n = 2 ∧ OwnE W 0 (.slice t.q t.n t.d) esR
theorem tellsE {g : Nat} {A : World} {L : List Fl} (hL : L.map Fl.core = filesK y0 imE 60) (ha : Aud A g ((400 : Nat) : Int) imE y0) (hf : ∀ x ∈ L, FlOk A x) : Tells RE g A L := by
  refine ⟨fun W W' x t hk h => ⟨h.1, h.2.1, own_keep h.2.2 hk (by decide) (by decide)⟩, fun W x hx hb => ?_⟩
  have hfl := hf x hx
  obtain ⟨p, c, rfl⟩ := oneE hL
  have hx' := List.mem_singleton.1 hx
  subst hx'
  generalize decD (rawP y0 imE 1) = d at *
  have hfW : FlOk W ⟨1, 2, 2, 32, 1, d, p, c, [(0, 38)]⟩ := ⟨hfl.lie.later hb, hfl.len, hfl.s, hfl.b⟩
  refine (item29_dir (ha.later hb) _ hfW rfl (by show (0 : Int) ≤ 2 ∧ (2 : Int) < 65536; decide) esR rfl (by decide) sloE).mono ?_
  rintro r w' ⟨v, rfl, hs⟩
  obtain ⟨q, dd, rfl, _⟩ := OwnG.lie enE_len hs.own
  exact ⟨⟨1, 2, 2, 32, 1, none, 0, 0, q, 2, dd⟩, rfl, ⟨rfl, rfl, rfl, rfl, rfl⟩, ⟨rfl, rfl, OwnG.mono hs.own (Nat.zero_le _)⟩, hs.bel⟩
theorem sameE {w W : World} {pi pe : Option Addr} {ce B : Nat} {L : List Fl} {v : Value} {us : List It} (h : ExAt w pi pe ce) (hL : L.map Fl.core = filesK y0 imE 60) (hk : LkR W B RE L v us) (hb : Below w.heap.size w W) :
    freeK y0 L L.length = 361 ∧ ((60 : Nat) : Int) - (L.length : Int) = 59 ∧ ∃ pv cv E, v = .slice pv us.length cv ∧ SameSt W pv pi us [tE pe ce] E ∧ us.length = [tE pe ce].length := by
  obtain ⟨p, c, rfl⟩ := oneE hL
  obtain ⟨pv, cv, rfl, hl⟩ := OwnG.lie itCells_len hk.own
  have hlen : us.length = 1 := hk.len
  refine ⟨rfl, rfl, pv, cv, fun _ => esR, rfl, ⟨hlen.symm, by omega, hl, h.its.later hb, fun j t u ht hu => ?_⟩, hlen⟩
  match j, hu with
  | 0, hu =>
    have hu' : tE pe ce = u := by simpa using hu
    subst hu'
    obtain ⟨x, h1, h2, h3⟩ := hk.its 0 t ht
    have hx := (Option.some.inj h1).symm
    subst hx
    obtain ⟨q1, q2, q3, q4, q5⟩ := h2
    obtain ⟨r1, r2, r3⟩ := h3
    obtain ⟨p', c', h4, h5⟩ := OwnG.lie enE_len r3
    injection h4 with h4
    exact ⟨q1, q2, q3, q4, q5, r1, rfl, r2, rfl, by rw [h4]; exact h5, h.ent.later hb, by decide⟩
  | j + 1, hu => simp at hu
theorem bytE : Byt (supF FR y0 37) := nought_byt
theorem mayE {w : World} {pi pe : Option Addr} {ce : Nat} (ci : Nat) (h : ExAt w pi pe ce) :
    Calls Tryz.prog 37 #[.agg (geoRow 400 32 60), .agg (stRow (.slice pi 1 ci) 361 59)] w fun e w' => e = .returned (.bool true) ∧ Below w.heap.size w w' :=
  may_ok (w := w) (b := 400) (l := 32) (i := 60) geoE (by decide) (by decide) (ts := [tE pe ce]) ci h.its (show (1 : Nat) ≤ 1000000 by decide) 361 59 (stepsE h) bytE im_eq imE_whole imE_sup imE_byt fineE RE (fun g A L h1 h2 h3 => tellsE h1 h2 h3) (fun W B L v us h1 h2 h3 => sameE h h1 h2 h3)
theorem laidE {w : World} {pi pe : Option Addr} {ce : Nat} (ci : Nat) (h : ExAt w pi pe ce) :
    Calls Tryz.prog 38 #[.agg (geoRow 400 32 60), .agg (stRow (.slice pi 1 ci) 361 59), .int .i64 0] w fun e w' => ∃ v, e = .returned (.agg (imRow 400 v)) ∧ OwnH w' w.heap.size v imE ∧ Below w.heap.size w w' := by
  have := laid_zero (w := w) (b := 400) (l := 32) (i := 60) geoE (by decide) (by decide) (ts := [tE pe ce]) ci h.its (show (1 : Nat) ≤ 1000000 by decide) 361 59 (stepsE h) bytE
  rw [show imgL (finF (FkE [tE pe ce].length) (UkE [tE pe ce].length) (layOf 400 32 60) (daOf 400 32 60) (baOf 32 60) 400) 400 = imE from im_eq] at this
  exact this
end Go.Proofs.YtiejhjngcnkimaaGreatR
