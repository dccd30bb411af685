/- Several texts joined, each with its own remark; no condition. -/
import Derived.Test.YtiejhjngcnkimaaGreatRK23
/- The empty file system of the document's examples, made. -/
namespace Go.Proofs.YtiejhjngcnkimaaGreatR
open Go.RowKit Go.Maps
theorem LieG.frame {α : Type} {en : α → List Value} {sz : Nat} {w W : World} {p : Option Addr} {l : List α} {T : Nat → Prop} (h : LieG en sz w p l) (hF : Fr T w W) (hp : ∀ g, p = some ⟨g, 0, none⟩ → ¬ T g) : LieG en sz W p l := fun h0 => by
  obtain ⟨g, h1, h2, h3⟩ := h h0
  exact ⟨g, h1, Nat.lt_of_lt_of_le h2 hF.size, fun i x hx j u hu => (World.cell?_of_block (w := w) (a := ⟨g, i * sz + j, none⟩) (hF.block g h2 (hp g h1))).trans (h3 i x hx j u hu)⟩
theorem ExAt.frame {w W : World} {pi pe : Option Addr} {ce : Nat} {T : Nat → Prop} (h : ExAt w pi pe ce) (hF : Fr T w W) (h1 : ∀ g, pi = some ⟨g, 0, none⟩ → ¬ T g) (h2 : ∀ g, pe = some ⟨g, 0, none⟩ → ¬ T g) : ExAt W pi pe ce := ⟨h.its.frame hF h1, h.ent.frame hF h2⟩
def wdRow (b l i : Int) (v : Value) (fr sp sd : Int) : Array Value := #[.int .i64 b, .int .i64 l, .int .i64 i, v, .int .i64 fr, .int .i64 sp, .int .i64 sd]
theorem zeroWd : ∀ w, (zeroValue 31).run Tryz.prog w = .ok (.agg (wdRow 0 0 0 (.slice none 0 0) 0 0 0)) w := (zero_of_info (show (Tryz.prog.info? 31).map (fun i => (i.zero, i.size)) = some (some (.agg (wdRow 0 0 0 (.slice none 0 0) 0 0 0)), 7) by kernel_rfl)).1
theorem wd_info (b l i : Int) (v : Value) (fr sp sd : Int) : (Tryz.prog.info? 31).map (·.size) = some (wdRow b l i v fr sp sd).size := by show _ = some 7; kernel_rfl
theorem wd_one (b l i : Int) (p : Option Addr) (n c : Nat) (fr sp sd : Int) : (wdRow b l i (.slice p n c) fr sp sd).all (·.oneCell') = true := by simp [wdRow, Value.oneCell']
section
variable {ops : Array Oper} {rest : List Oper} {a : Act} {w : World} {Q : Exit → Act → World → Prop} {dst : Option Tmp} {ty : TypeId} {pos : String} {aft : Array Edge} {gd : Option (Nat × Bool)}
theorem isSlR (t : TypeId) {n : Nat} {ps : Array (Nat × Operand)} (h : wpList Tryz.prog ops Q (⟨dst, .buildSlice t n ps, ty, pos, aft, gd⟩ :: rest) a w) : wpList Tryz.prog ops Q (⟨dst, .buildSlice t n ps, ty, pos, aft, gd⟩ :: rest) a w := h
end
theorem wpList_ex {ops : Array Oper} {rest : List Oper} {o : Oper} {a : Act} {w w' : World} {v : Value} {Q : Exit → Act → World → Prop} (hw : Region.wanted o (yielded ops a.tmps) = true) (hr : (execOp a.eval o).run Tryz.prog w = .ok (.value v) w') (h : wpList Tryz.prog ops Q rest (a.put o.dst v) w') : wpList Tryz.prog ops Q (o :: rest) a w := by
  unfold wpList
  rw [if_pos hw]
  refine .inl ?_
  unfold Oper.wp
  rw [hr]
  exact h
theorem zeroGeo : ∀ w, (zeroValue 26).run Tryz.prog w = .ok (.agg (geoRow 0 0 0)) w := (zero_of_info (show (Tryz.prog.info? 26).map (fun i => (i.zero, i.size)) = some (some (.agg (geoRow 0 0 0)), 3) by kernel_rfl)).1
section
variable {o : Oper} {a : Act} {W : World}
theorem exec_buildGeo (ho : o.op = .build 26 #[(0, .const (.int .i64 400)), (1, .const (.int .i64 32)), (2, .const (.int .i64 60))]) : (execOp a.eval o).run Tryz.prog W = .ok (.value (.agg (geoRow 400 32 60))) W := by
  have z := zeroGeo W
  unfold geoRow at *
  have hc : ∀ v, a.eval (.const v) = v := fun _ => rfl
  generalize a.eval = E at *
  unfold execOp
  simp only [ho]
  simp [go_sem, hc, z]
theorem exec_buildItE {x : Operand} {q : Option Addr} {n d : Nat} (ho : o.op = .build 81 #[(0, .const (.int .i64 1)), (1, .const (.int .u16 2)), (2, .const (.int .i64 2)), (3, .const (.int .i64 32)), (4, .const (.int .i64 1)), (6, x)]) (hx : a.eval x = .slice q n d) : (execOp a.eval o).run Tryz.prog W = .ok (.value (.agg (itCells ⟨1, 2, 2, 32, 1, none, 0, 0, q, n, d⟩).toArray)) W := by
  have z := zeroIt W
  unfold itRow at z
  have hc : ∀ v, a.eval (.const v) = v := fun _ => rfl
  generalize a.eval = E at *
  unfold execOp
  simp only [ho]
  simp [go_sem, hx, hc, z, itCells]
theorem exec_buildSt3 {x y t : Operand} {p : Option Addr} {n c : Nat} {fr sp : Int} (ho : o.op = .build 29 #[(0, t), (1, x), (2, y)]) (ht : a.eval t = .slice p n c) (hx : a.eval x = .int .i64 fr) (hy : a.eval y = .int .i64 sp) : (execOp a.eval o).run Tryz.prog W = .ok (.value (.agg (stRow (.slice p n c) fr sp))) W := by
  have z := zeroSt W
  unfold stRow at *
  generalize a.eval = E at *
  unfold execOp
  simp only [ho]
  simp [go_sem, ht, hx, hy, z]
theorem exec_buildWd {x y : Operand} {v : Value} {b l i fr sp : Int} (ho : o.op = .build 31 #[(0, x), (1, y)]) (hx : a.eval x = .agg (geoRow b l i)) (hy : a.eval y = .agg (stRow v fr sp)) : (execOp a.eval o).run Tryz.prog W = .ok (.value (.agg (wdRow b l i v fr sp 0))) W := by
  have z := zeroWd W
  unfold stRow geoRow wdRow at *
  generalize a.eval = E at *
  unfold execOp
  simp only [ho]
  simp [go_sem, hx, hy, z]
end
theorem itC_one (t : It) : (itCells t).toArray.all (·.oneCell') = true := by simp [itCells, Value.oneCell']
set_option maxRecDepth 40000 in
set_option maxHeartbeats 4000000 in
theorem fresh_ok (w : World) : Calls Tryz.prog 44 #[.agg (geoRow 400 32 60)] w fun e w' => ∃ pi pe ce ci, e = .returned (.agg (wdRow 400 32 60 (.slice pi 1 ci) 361 59 0)) ∧ ExAt w' pi pe ce ∧ (∀ g, pi = some ⟨g, 0, none⟩ → w.heap.size ≤ g) ∧ (∀ g, pe = some ⟨g, 0, none⟩ → w.heap.size ≤ g) ∧ Below w.heap.size w w' := by
  have zl := zeroLay
  have zw := zeroWd
  have ze := zero132
  have zi := zeroIt
  have zs := zeroSt
  obtain ⟨A, hA⟩ : ∃ A, A = (w.alloc (.cells (geoRow 400 32 60) 26)).alloc (.cells (wdRow 0 0 0 (.slice none 0 0) 0 0 0) 31) := ⟨_, rfl⟩
  have HgA : Hid (A.heap[w.heap.size]? = some (.cells (geoRow 400 32 60) 26)) := by rw [hA]; exact heap_kept (heap_alloc_new _ _) (below_new _ _)
  have HsA : Hid (A.heap[w.heap.size + 1]? = some (.cells (wdRow 0 0 0 (.slice none 0 0) 0 0 0) 31)) := by rw [hA]; exact heap_two _ _ _
  have HbA : Hid (Below w.heap.size w A) := by rw [hA]; exact below_next (below_new _ _) (below_new _ _)
  have hof := of03_ok geoE A
  have HA : Hid (A = _) := hA
  clear hA
  have HyD : Hid ((layOf 400 32 60).dataAt = 38) := rfl
  generalize layOf 400 32 60 = y at *
  go_enter Tryz.func44, Tryz.ntmps44
  go_upto_region 1 with fail
  rw [← HA.out]
  clear HA
  go_wp2_with (first | (with_reducible refine isLoadR 26 ?_; refine wpList_ldR 26 Tryz.underlying26 rfl rfl (.tmp 1) rfl w.heap.size rfl (geoRow 400 32 60) 26 (0, 0) (geo_info _ _ _) HgA.out ?_) | (go_at_call 39; fail))
  refine hof.mono ?_
  rintro e X ⟨rfl, hbX⟩
  have HgX : Hid _ := heap_kept (heap_kept HgA.out hbX) (below_new X (.cells (layRow y) 61))
  have HsX : Hid _ := heap_kept (heap_kept HsA.out hbX) (below_new X (.cells (layRow y) 61))
  have HbX : Hid (Below w.heap.size w (X.alloc (.cells (layRow y) 61))) := below_next (below_next HbA.out hbX) (below_new _ _)
  have HlX : Hid ((X.alloc (.cells (layRow y) 61)).heap[X.heap.size]? = some (.cells (layRow y) 61)) := heap_alloc_new _ _
  clear hof hbX HgA HsA HbA
  go_upto_region 2 with (first | (with_reducible refine isStoreR 61 ?_; refine wpList_stNew 61 rfl (.tmp 3) (.tmp 9) rfl X.heap.size (layRow y) (layRow lay0) 61 (lay_info _) (lay_two _ _) (lay_one _) rfl rfl rfl ?_))
  generalize X.alloc (.cells (layRow y) 61) = V at *
  generalize X.heap.size = gw at *
  go_upto_region 3 with (first | (with_reducible refine isBuildR 81 ?_; refine wpList_ex rfl (exec_buildItE rfl rfl) ?_) | (with_reducible refine isStoreR 81 ?_; refine wpList_stR 81 rfl (.tmp 5) (.tmp 14) rfl (V.heap.size + 1) (itCells (tE (some ⟨V.heap.size, 0, none⟩) 2)).toArray (itRow 0 0 0 0 0 (.slice none 0 0) (.slice none 0 0)) 81 (itC_info _) rfl (itC_one _) rfl rfl (heap_two _ _ _) ?_))
  obtain ⟨ES, hES⟩ : ∃ ES : Array Value, ES = #[.int .u16 1, .string ⟨#[46]⟩, .int .u16 1, .string ⟨#[46, 46]⟩] := ⟨_, rfl⟩
  rw [← hES]
  have hV1 := below_new V (.cells ES 83)
  have hV2 := below_new (V.alloc (.cells ES 83)) (.cells (itRow 0 0 0 0 0 (.slice none 0 0) (.slice none 0 0)) 81)
  have hF := Fr.setRow ((V.alloc (.cells ES 83)).alloc (.cells (itRow 0 0 0 0 0 (.slice none 0 0) (.slice none 0 0)) 81)) (V.heap.size + 1) (itCells (tE (some ⟨V.heap.size, 0, none⟩) 2)).toArray
  have hV3 : Below V.heap.size V _ := (below_next hV1 hV2).trans (hF.below (fun j q => by omega) (below_next hV1 hV2).size)
  have HeZ : Hid _ := (hF.block _ (Array.getElem?_eq_some_iff.1 (heap_kept (heap_alloc_new V (.cells ES 83)) hV2)).1 (by omega)).trans (heap_kept (heap_alloc_new V (.cells ES 83)) hV2)
  have HiZ : Hid _ := setRow_heap ((V.alloc (.cells ES 83)).alloc (.cells (itRow 0 0 0 0 0 (.slice none 0 0) (.slice none 0 0)) 81)) (V.heap.size + 1) _ (itCells (tE (some ⟨V.heap.size, 0, none⟩) 2)).toArray _ _ (heap_two _ _ _)
  have HgZ : Hid _ := heap_kept HgX.out hV3
  have HsZ : Hid _ := heap_kept HsX.out hV3
  have HlZ : Hid _ := heap_kept HlX.out hV3
  have HbZ : Hid _ := below_next HbX.out hV3
  have hge0 : w.heap.size ≤ V.heap.size := HbX.out.size
  clear hF hV1 hV2 hV3 HgX HsX HlX HbX
  generalize ((V.alloc (.cells ES 83)).alloc (.cells (itRow 0 0 0 0 0 (.slice none 0 0) (.slice none 0 0)) 81)).setRow (V.heap.size + 1) (itCells (tE (some ⟨V.heap.size, 0, none⟩) 2)).toArray = Z at *
  generalize V.heap.size = ge at *
  have HES : Hid _ := hES
  clear hES
  have cg0 : Z.cell? ⟨w.heap.size, 0, none⟩ = some (.int .i64 400) := Joins.cell_of_block HgZ.out 0
  have cg2 : Z.cell? ⟨w.heap.size, 2, none⟩ = some (.int .i64 60) := Joins.cell_of_block HgZ.out 2
  have cl8 : Z.cell? ⟨gw, 8, none⟩ = some (.int .i64 38) := by rw [← HyD.out]; exact Joins.cell_of_block HlZ.out 8
  go_wp2_with (first | (with_reducible refine isLoadR 26 ?_; refine wpList_ldR 26 Tryz.underlying26 rfl rfl (.tmp 1) rfl w.heap.size rfl (geoRow 400 32 60) 26 (0, 0) (geo_info _ _ _) HgZ.out ?_) | (with_reducible refine isLoadR 81 ?_; refine wpList_ldR 81 Tryz.underlying81 rfl rfl (.tmp 5) rfl (ge + 1) rfl (itCells (tE (some ⟨ge, 0, none⟩) 2)).toArray 81 (0, 0) (itC_info _) HiZ.out ?_) | (with_reducible refine isSlR 27 ?_; refine wpList_ex rfl (exec_sliceIt rfl rfl) ?_; refine Hid.out ?_))
  unfold Hid
  have hY := below_new Z (.cells (itCells (tE (some ⟨ge, 0, none⟩) 2)).toArray 81)
  have HsY : Hid _ := heap_kept HsZ.out hY
  have HeY : Hid _ := heap_kept HeZ.out hY
  have HnY : Hid ((Z.alloc (.cells (itCells (tE (some ⟨ge, 0, none⟩) 2)).toArray 81)).heap[Z.heap.size]? = some (.cells (itCells (tE (some ⟨ge, 0, none⟩) 2)).toArray 81)) := heap_alloc_new _ _
  have HbY : Hid _ := below_next HbZ.out hY
  have dg0 := (hY.cell (p := ⟨w.heap.size, 0, none⟩) (Array.getElem?_eq_some_iff.1 HgZ.out).1).trans cg0
  have dg2 := (hY.cell (p := ⟨w.heap.size, 2, none⟩) (Array.getElem?_eq_some_iff.1 HgZ.out).1).trans cg2
  have dl8 := (hY.cell (p := ⟨gw, 8, none⟩) (Array.getElem?_eq_some_iff.1 HlZ.out).1).trans cl8
  have hgeZ : ge < Z.heap.size := (Array.getElem?_eq_some_iff.1 HeZ.out).1
  have hwZ : w.heap.size ≤ Z.heap.size := HbZ.out.size
  have hge : ¬ ge = w.heap.size + 1 := fun q => by
    have h1 := HeZ.out
    rw [q, HsZ.out] at h1
    injection h1 with h1
    injection h1 with _ h2
    exact absurd h2 (by decide)
  have hzz : w.heap.size + 1 < Z.heap.size := (Array.getElem?_eq_some_iff.1 HsZ.out).1
  clear hY HgZ HsZ HlZ HbZ HeZ HiZ cg0 cg2 cl8
  generalize Z.alloc (.cells (itCells (tE (some ⟨ge, 0, none⟩) 2)).toArray 81) = Y at *
  generalize Z.heap.size = gi at *
  go_wp2_with (first | (with_reducible refine isBuildR 29 ?_; refine wpList_ex rfl (exec_buildSt3 (fr := 361) (sp := 59) rfl rfl rfl rfl) ?_) | (with_reducible refine isBuildR 31 ?_; refine wpList_ex rfl (exec_buildWd (v := .slice (some ⟨gi, 0, none⟩) 1 1) (b := 400) (l := 32) (i := 60) (fr := 361) (sp := 59) rfl rfl rfl) ?_) | (with_reducible refine isStoreR 31 ?_; refine wpList_stR 31 rfl (.tmp 2) (.tmp 28) rfl (w.heap.size + 1) (wdRow 400 32 60 (.slice (some ⟨gi, 0, none⟩) 1 1) 361 59 0) (wdRow 0 0 0 (.slice none 0 0) 0 0 0) 31 (wd_info _ _ _ _ _ _ _) rfl (wd_one _ _ _ _ _ _ _ _ _) rfl rfl HsY.out ?_))
  have hF := Fr.setRow Y (w.heap.size + 1) (wdRow 400 32 60 (.slice (some ⟨gi, 0, none⟩) 1 1) 361 59 0)
  have hn2 : (Y.setRow (w.heap.size + 1) (wdRow 400 32 60 (.slice (some ⟨gi, 0, none⟩) 1 1) 361 59 0)).heap[gi]? = some (.cells (itCells (tE (some ⟨ge, 0, none⟩) 2)).toArray 81) := (hF.block _ (Array.getElem?_eq_some_iff.1 HnY.out).1 (by omega)).trans HnY.out
  have he2 : (Y.setRow (w.heap.size + 1) (wdRow 400 32 60 (.slice (some ⟨gi, 0, none⟩) 1 1) 361 59 0)).heap[ge]? = some (.cells ES 83) := (hF.block _ (Array.getElem?_eq_some_iff.1 HeY.out).1 hge).trans HeY.out
  rw [HES.out] at he2
  refine retR Tryz.underlying31 rfl rfl (w.heap.size + 1) _ 31 (wd_info _ _ _ _ _ _ _) rfl (setRow_heap _ _ _ _ _ _ HsY.out) rfl ⟨some ⟨gi, 0, none⟩, some ⟨ge, 0, none⟩, 2, 1, rfl, ⟨fun _ => ⟨gi, rfl, (Array.getElem?_eq_some_iff.1 hn2).1, ?_⟩, fun _ => ⟨ge, rfl, (Array.getElem?_eq_some_iff.1 he2).1, ?_⟩⟩, fun g hg => by injection hg with hg; injection hg with hg; omega, fun g hg => by injection hg with hg; injection hg with hg; omega, HbY.out.trans (hF.below (fun j q => by omega) HbY.out.size)⟩
  · intro i x hx j u hu
    match i, hx with
    | 0, hx =>
      have hx' : tE (some ⟨ge, 0, none⟩) 2 = x := by simpa using hx
      subst hx'
      have := Joins.cell_of_block hn2 j
      rw [Nat.zero_mul, Nat.zero_add, this, List.getElem?_toArray]
      exact hu
    | i + 1, hx => simp at hx
  · intro i x hx j u hu
    rw [Joins.cell_of_block he2]
    rcases esR_at i x hx with ⟨rfl, rfl⟩ | ⟨rfl, rfl⟩
    · match j, hu with
      | 0, hu => exact hu
      | 1, hu => exact hu
      | j + 2, hu => simp [enE] at hu
    · match j, hu with
      | 0, hu => exact hu
      | 1, hu => exact hu
      | j + 2, hu => simp [enE] at hu
set_option maxRecDepth 40000 in
set_option maxHeartbeats 4000000 in
theorem example_ok (w : World) : Calls Tryz.prog 9 #[] w fun e w' => ∃ pi pe ce ci, e = .returned (.agg (wdRow 400 32 60 (.slice pi 1 ci) 361 59 0)) ∧ ExAt w' pi pe ce ∧ (∀ g, pi = some ⟨g, 0, none⟩ → w.heap.size ≤ g) ∧ (∀ g, pe = some ⟨g, 0, none⟩ → w.heap.size ≤ g) ∧ Below w.heap.size w w' := by
  have zw := zeroWd
  have zg := zeroGeo
  have hX := heap_alloc_new w (.cells (wdRow 0 0 0 (.slice none 0 0) 0 0 0) 31)
  have HbX : Hid _ := below_new w (.cells (wdRow 0 0 0 (.slice none 0 0) 0 0 0) 31)
  have HX : Hid _ := hX
  clear hX
  go_enter Tryz.func9, Tryz.ntmps9
  go_upto_region 1 with fail
  generalize w.alloc (.cells (wdRow 0 0 0 (.slice none 0 0) 0 0 0) 31) = V at *
  have hfr := fresh_ok V
  go_wp2_with (first | (with_reducible refine isBuildR 26 ?_; refine wpList_ex rfl (exec_buildGeo rfl) ?_) | (go_at_call 44; fail))
  refine hfr.mono ?_
  rintro e Y ⟨pi, pe, ce, ci, rfl, hE, hpi, hpe, hb⟩
  have hVs : w.heap.size < V.heap.size := (Array.getElem?_eq_some_iff.1 HX.out).1
  have HPi : Hid _ := hpi
  have HPe : Hid _ := hpe
  have hsY := heap_kept HX.out hb
  have HbY : Hid _ := below_next HbX.out hb
  have HE : Hid _ := hE
  clear hfr hE hb HX HbX hpi hpe
  go_wp2_with (first | (with_reducible refine isStoreR 31 ?_; refine wpList_stR 31 rfl (.tmp 0) (.tmp 2) rfl w.heap.size (wdRow 400 32 60 (.slice pi 1 ci) 361 59 0) (wdRow 0 0 0 (.slice none 0 0) 0 0 0) 31 (wd_info _ _ _ _ _ _ _) rfl (wd_one _ _ _ _ _ _ _ _ _) rfl rfl hsY ?_))
  have hF := Fr.setRow Y w.heap.size (wdRow 400 32 60 (.slice pi 1 ci) 361 59 0)
  exact retR Tryz.underlying31 rfl rfl w.heap.size _ 31 (wd_info _ _ _ _ _ _ _) rfl (setRow_heap _ _ _ _ _ _ hsY) rfl ⟨pi, pe, ce, ci, rfl, HE.out.frame hF (fun g hg q => by have := HPi.out g hg; omega) (fun g hg q => by have := HPe.out g hg; omega), fun g hg => by have := HPi.out g hg; omega, fun g hg => by have := HPe.out g hg; omega, HbY.out.trans (hF.below (fun j q => by omega) HbY.out.size)⟩
end Go.Proofs.YtiejhjngcnkimaaGreatR
/- The document's disk made of an image: Blank, May, CopyHeld. -/
namespace Go.Proofs.YtiejhjngcnkimaaGreatR
open Go.RowKit Go.Maps
set_option maxRecDepth 20000 in
set_option maxHeartbeats 1000000 in
theorem blank01_no (f : Nat → Int) (w : World) (h : sameN 1024 f nought = false) : Calls Tryz.prog 143 #[.agg (blk f)] w fun e w' => e = .returned (.bool false) ∧ Below w.heap.size w w' := by
  have HX : Hid (∀ i, i < 1024 → (w.alloc (.cells (blk f) 85)).cell? ⟨w.heap.size, i, none⟩ = some (.int .u8 (f i))) := fun i hi => cell_rowN (heap_alloc_new w (.cells (blk f) 85)) hi
  have HB : Hid _ := below_new w (.cells (blk f) 85)
  have HN : Hid (¬ ∀ i, i < 1024 → f i = 0) := fun q => by
    have := (sameN_iff 1024 f nought).2 q
    rw [h] at this
    cases this
  clear h
  go_enter Tryz.func143, Tryz.ntmps143
  go_wp2
  generalize w.alloc (.cells (blk f) 85) = V at *
  go_loopw [3] (fun s3 wx => ∃ i : Nat, i ≤ 1024 ∧ s3 = .int .i64 i ∧ wx = V ∧ Hid (∀ j, j < i → f j = 0)) (fun s3 _ => 1024 - (intOf s3).toNat)
  case atStart => exact ⟨0, by omega, rfl, rfl, fun j hj => by omega⟩
  case round =>
    obtain ⟨i, hi, rfl, rfl, HZ⟩ := hrel
    by_cases hi2 : (i : Int) < 1024
    · have hi3 : i < 1024 := by omega
      have hc := HX.out i hi3
      by_cases hz : f i = 0
      · have HZ2 : Hid (∀ j, j < i + 1 → f j = 0) := fun j hj => by
          rcases Nat.lt_or_ge j i with q | q
          · exact HZ.out j q
          · rw [show j = i by omega]; exact hz
        rw [hz] at hc
        clear HZ hz
        go_wp2
        exact ⟨⟨i + 1, by omega, by go_num, trivial, HZ2.out⟩, by simp [intOf]; omega⟩
      · generalize f i = fi at *
        go_wp2
        go_ret
        exact ⟨rfl, HB.out⟩
    · exact absurd (fun j hj => HZ.out j (by omega)) HN.out
theorem WholeOk.pos {n : Int} {l : List Cel} (h : WholeOk n l) : ∀ (i : Nat) c, l[i]? = some c → 0 ≤ c.1
  | 0, c, hc => by have : (-1 : Int) < c.1 := h.rise 0 c hc; omega
  | i + 1, c, hc => by
    have h1 := h.rise (i + 1) c hc
    have hlt : i + 1 < l.length := (List.getElem?_eq_some_iff.1 hc).1
    have hq : l[i]? = some l[i] := List.getElem?_eq_getElem (by omega)
    have h2 := h.pos i _ hq
    have h3 : ((l[i]?).map (·.1)).getD 0 < c.1 := h1
    rw [hq] at h3
    simp only [Option.map_some, Option.getD_some] at h3
    omega
set_option maxRecDepth 20000 in
set_option maxHeartbeats 4000000 in
theorem may04_ok (n : Int) (l : List Cel) (p : Option Addr) (cap : Nat) (w : World) (hi : ImgAt w p l) (h : WholeOk n l) :
    Calls Tryz.prog 93 #[.agg #[.int .i64 n, .slice p l.length cap]] w fun e w' => e = .returned (.bool true) ∧ Below w.heap.size w w' := by
  have HI : Hid (ImgAt w p l) := hi
  have HP : Hid _ := h.pos
  obtain ⟨n1, n2, hl, hr, ht, hf⟩ := h
  have HR : Hid _ := hr
  have HT : Hid _ := ht
  have HF : Hid _ := hf
  clear hi hr ht hf
  generalize hN : l.length = N at *
  have hX0 := heap_alloc_new w (.cells #[.int .i64 n, .slice p N cap] 97)
  have t1 : decide (n < 1) = false := decide_eq_false (by omega)
  have t2 : decide (1048576 < n) = false := decide_eq_false (by omega)
  have HB : Hid _ := below_new w (.cells #[.int .i64 n, .slice p N cap] 97)
  have HX1 : Hid _ := hX0
  have c0 : (w.alloc (.cells #[.int .i64 n, .slice p N cap] 97)).cell? ⟨w.heap.size, 0, none⟩ = some (.int .i64 n) := Joins.cell_of_block hX0 0
  clear hX0
  go_enter Tryz.func93, Tryz.ntmps93
  go_wp2
  generalize w.alloc (.cells #[.int .i64 n, .slice p N cap] 97) = V at *
  clear c0 t1 t2
  go_loopw [3, 4] (fun s3 _ wx => ∃ i : Nat, i ≤ N ∧ s3 = .int .i64 i ∧ Hid (Below V.heap.size V wx)) (fun s3 _ _ => N - (intOf s3).toNat)
  case atStart => exact ⟨0, by omega, rfl, Below.refl _ _⟩
  case round =>
    obtain ⟨i, hi, rfl, HW⟩ := hrel
    have hx1 := heap_kept HX1.out HW.out
    have c0 : wr.cell? ⟨w.heap.size, 0, none⟩ = some (.int .i64 n) := Joins.cell_of_block hx1 0
    have c1 : wr.cell? ⟨w.heap.size, 1, none⟩ = some (.slice p N cap) := Joins.cell_of_block hx1 1
    by_cases hi2 : (i : Int) < (N : Int)
    · have hc : l[i]? = some l[i] := List.getElem?_eq_getElem (by omega)
      obtain ⟨b, off, rfl, hlt, hC⟩ := HI.out (by omega)
      obtain ⟨a0, a1⟩ := hC i _ hc
      have hr := HR.out i _ hc
      have ht := HT.out i _ hc
      have hp := HP.out i _ hc
      have hbw := below_next HB.out HW.out
      have hbl := blank01_no (l[i]).2 wr (HF.out i _ hc)
      have q0 : wr.cell? ⟨b, off + i * 1025, none⟩ = some (.int .i64 (l[i]).1) := (hbw.cell (p := ⟨b, off + i * 1025, none⟩) hlt).trans a0
      have q1 : NumsAt wr .u8 b (off + i * 1025 + 1) (l[i]).2 1024 := a1.later hbw hlt
      have hiN : i < N := by omega
      generalize hcl : l[i] = cl at *
      clear hcl a0 a1
      have g0 : decide (cl.1 < 0) = false := decide_eq_false (by omega)
      have g2 : decide (n ≤ cl.1) = false := decide_eq_false (by omega)
      rcases Nat.eq_zero_or_pos i with rfl | hpos
      · clear hr HR HT HF HP hC hc hlt hbw hx1 HX1
        rw [Nat.zero_mul, Nat.add_zero] at q0 q1
        generalize cl.2 = f at *
        generalize cl.1 = q at *
        go_wp2_with (first | (with_reducible refine isLoadR 85 ?_; refine wpList_ldB rfl (.tmp 54) rfl b (off + 1) f rfl q1 ?_) | (go_at_call 143; fail))
        refine hbl.mono ?_
        rintro e X ⟨rfl, hbX⟩
        have HX : Hid _ := below_next HW.out hbX
        clear hbl hbX
        go_wp2
        exact ⟨⟨1, by omega, by go_num, HX.out⟩, by simp [intOf]; omega⟩
      · obtain ⟨k, rfl⟩ : ∃ k, i = k + 1 := ⟨i - 1, by omega⟩
        have hk : l[k]? = some l[k] := List.getElem?_eq_getElem (by omega)
        obtain ⟨b0, _⟩ := hC k _ hk
        have s0 : wr.cell? ⟨b, off + k * 1025, none⟩ = some (.int .i64 (l[k]).1) := (hbw.cell (p := ⟨b, off + k * 1025, none⟩) hlt).trans b0
        have hr' : (l[k]).1 < cl.1 := by have h3 : ((l[k]?).map (·.1)).getD 0 < cl.1 := hr; rw [hk] at h3; simpa using h3
        have g1 : decide (cl.1 ≤ (l[k]).1) = false := decide_eq_false (by omega)
        generalize (l[k]).1 = pr at *
        clear hr HR HT HF HP hC hc hlt hbw hx1 HX1 hk b0 hr'
        generalize cl.2 = f at *
        generalize cl.1 = q at *
        have e1 : IntKind.i64.wrap (((k + 1 : Nat) : Int) - 1) = (k : Int) := by rw [IntKind.wrap_i64]; omega
        have e2 : (0 : Int) < ((k + 1 : Nat) : Int) := by omega
        have e3 : ((k + 1 : Nat) : Int) - 1 = (k : Int) := by omega
        have e4 : (k : Int) < (N : Int) := by omega
        have e5 : k < N := by omega
        go_wp2_with (first | (with_reducible refine isLoadR 85 ?_; refine wpList_ldB rfl (.tmp 54) rfl b (off + (k + 1) * 1025 + 1) f rfl q1 ?_) | (go_at_call 143; fail))
        refine hbl.mono ?_
        rintro e X ⟨rfl, hbX⟩
        have HX : Hid _ := below_next HW.out hbX
        clear hbl hbX
        go_wp2
        exact ⟨⟨k + 1 + 1, by omega, by go_num, HX.out⟩, by simp [intOf]; omega⟩
    · have HR2 : Hid (Below w.heap.size w wr) := below_next HB.out HW.out
      clear hx1 HW
      go_wp2
      go_ret
      exact ⟨rfl, HR2.out⟩
end Go.Proofs.YtiejhjngcnkimaaGreatR
/- The document's disk made of an image: CopyHeld, Load. -/
namespace Go.Proofs.YtiejhjngcnkimaaGreatR
open Go.RowKit Go.Maps
set_option maxRecDepth 20000 in
set_option maxHeartbeats 2000000 in
theorem copyHeld_ok (l : List Cel) (p : Option Addr) (cap : Nat) (w : World) (hi : ImgAt w p l) (hl : l.length ≤ 1048576) :
    Calls Tryz.prog 94 #[.slice p l.length cap] w fun e w' => ∃ v, e = .returned v ∧ OwnH w' w.heap.size v l ∧ Below w.heap.size w w' := by
  have HI : Hid (ImgAt w p l) := hi
  clear hi
  have HT : Hid (l.take l.length = l) := List.take_length
  generalize hN : l.length = N at *
  go_enter Tryz.func94, Tryz.ntmps94
  go_wp2
  go_loopw [3, 4] (fun s3 s4 wx => ∃ k : Nat, k ≤ N ∧ s4 = .int .i64 k ∧ Hid (OwnH wx w.heap.size s3 (l.take k)) ∧ Hid (Below w.heap.size w wx)) (fun _ s4 _ => N - (intOf s4).toNat)
  case atStart => exact ⟨0, by omega, rfl, OwnG.nil _ _, Below.refl _ _⟩
  case round =>
    obtain ⟨k, hk, rfl, HO, HW⟩ := hrel
    by_cases hk2 : (k : Int) < (N : Int)
    · have hkN : k < N := by omega
      have hc : l[k]? = some l[k] := List.getElem?_eq_getElem (by omega)
      obtain ⟨b, off, rfl, hlt, hC⟩ := HI.out (by omega)
      obtain ⟨a0, a1⟩ := hC k _ hc
      have q0 : wr.cell? ⟨b, off + k * 1025, none⟩ = some (.int .i64 (l[k]).1) := (HW.out.cell (p := ⟨b, off + k * 1025, none⟩) hlt).trans a0
      have q1 : NumsAt wr .u8 b (off + k * 1025 + 1) (l[k]).2 1024 := a1.later HW.out hlt
      have HTk : Hid (l.take (k + 1) = l.take k ++ [l[k]]) := by rw [List.take_add_one, hc]; rfl
      have hlen : (l.take k).length ≤ 10000000 := by rw [List.length_take]; omega
      generalize hcl : l[k] = cl at *
      clear hcl a0 a1 hC hc hlt
      obtain ⟨i0, hi0, hz0, hz1, hz2⟩ := info_parts infoHeld
      obtain ⟨v', W3, R1, ho3, hb3, _⟩ := own_pushF celRow_len celRow_one Tryz.underlying78 hi0 hz0 hz1 hz2 (cel_size _) (by omega) (by omega) HO.out HW.out.size hlen cl 78
      have HO3 : Hid (OwnH W3 w.heap.size v' (l.take (k + 1))) := by rw [HTk.out]; exact ho3
      have HW3 : Hid (Below w.heap.size w W3) := HW.out.trans hb3
      clear HO HW ho3 hb3 hi0 hz0 hz1 hz2 HTk
      go_wp2_with (first | (with_reducible refine isLoadR 87 ?_; refine wpList_ldH rfl (.tmp 14) rfl b (off + k * 1025) cl rfl q0 q1 ?_) | (with_reducible refine isSlR 78 ?_; refine wpList_ex rfl (exec_sliceHeld (c := cl) rfl rfl) ?_) | (at_builtin; refine wpList_app rfl (.tmp 11) (.tmp 16) rfl rfl rfl R1 ?_))
      exact ⟨⟨k + 1, by omega, by go_num, HO3.out, HW3.out⟩, by simp [intOf]; omega⟩
    · obtain rfl : k = N := by omega
      rw [HT.out] at HO
      go_wp2
      go_ret
      exact ⟨_, rfl, HO.out, HW.out⟩
def d4Row (n : Int) (v : Value) (seen claims owner : Int) : Array Value := #[.int .i64 n, v, .slice none 0 0, .bool false, .int .i64 0, .bool false, .slice none 0 0, .int .i64 0, .int .i64 seen, .int .i64 claims, .int .i64 owner]
theorem zeroD4 : ∀ w, (zeroValue 167).run Tryz.prog w = .ok (.agg (d4Row 0 (.slice none 0 0) 0 0 0)) w := (zero_of_info (show (Tryz.prog.info? 167).map (fun i => (i.zero, i.size)) = some (some (.agg (d4Row 0 (.slice none 0 0) 0 0 0)), 11) by kernel_rfl)).1
theorem exec_buildD4 {o : Oper} {a : Act} {W : World} {x y : Operand} {n : Int} {p : Option Addr} {m c : Nat} (ho : o.op = .build 167 #[(0, x), (1, y)]) (hx : a.eval x = .int .i64 n) (hy : a.eval y = .slice p m c) : (execOp a.eval o).run Tryz.prog W = .ok (.value (.agg (d4Row n (.slice p m c) 0 0 0))) W := by
  have z := zeroD4 W
  unfold d4Row at *
  generalize a.eval = E at *
  unfold execOp
  simp only [ho]
  simp [go_sem, hx, hy, z]
structure D4At (w : World) (B g : Nat) (n : Int) (l : List Cel) (seen claims owner : Int) : Prop where
  row : ∃ v, w.heap[g]? = some (.cells (d4Row n v seen claims owner) 167) ∧ OwnH w B v l
set_option maxRecDepth 20000 in
set_option maxHeartbeats 2000000 in
theorem load04_ok (n : Int) (l : List Cel) (p : Option Addr) (cap : Nat) (w : World) (hi : ImgAt w p l) (h : WholeOk n l) :
    Calls Tryz.prog 42 #[.agg #[.int .i64 n, .slice p l.length cap]] w fun e w' => ∃ g, e = .returned (.tuple #[.pointer (some ⟨g, 0, none⟩), .int .i64 0]) ∧ D4At w' w.heap.size g n l 0 0 0 ∧ w.heap.size ≤ g ∧ Below w.heap.size w w' := by
  have hX := heap_alloc_new w (.cells #[.int .i64 n, .slice p l.length cap] 97)
  have HB : Hid _ := below_new w (.cells #[.int .i64 n, .slice p l.length cap] 97)
  have hmay := may04_ok n l p cap _ (hi.later HB.out) h
  have hll := h.len
  have HI : Hid (ImgAt (w.alloc (.cells #[.int .i64 n, .slice p l.length cap] 97)) p l) := hi.later HB.out
  have HX : Hid _ := hX
  clear hi h hX
  have HCp : Hid (∀ W, ImgAt W p l → Calls Tryz.prog 94 #[.slice p l.length cap] W fun e w' => ∃ v, e = .returned v ∧ OwnH w' W.heap.size v l ∧ Below W.heap.size W w') := fun W hW => copyHeld_ok l p cap W hW hll
  generalize hN : l.length = N at *
  have him : (Tryz.prog.info? 97).map (·.size) = some (#[Value.int .i64 n, .slice p N cap]).size := imr_info _ _
  go_enter Tryz.func42, Tryz.ntmps42
  go_upto_region 1 with fail
  generalize w.alloc (.cells #[.int .i64 n, .slice p N cap] 97) = V at *
  go_wp2_with (first | (with_reducible refine isLoadR 97 ?_; refine wpList_ldR 97 Tryz.underlying97 rfl rfl (.tmp 1) rfl w.heap.size rfl #[.int .i64 n, .slice p N cap] 97 (0, 0) him HX.out ?_) | (go_at_call 93; fail))
  refine hmay.mono ?_
  rintro e X ⟨rfl, hbX⟩
  have HXX : Hid _ := heap_kept HX.out hbX
  have HIX : Hid (ImgAt X p l) := ImgAt.later HI.out hbX
  have HBX : Hid _ := below_next HB.out hbX
  clear hmay hbX HX HI HB
  go_upto_region 3 with fail
  have HXd : Hid (X.drew.heap[w.heap.size]? = _) := HXX.out
  have hcp := HCp.out X.drew (ImgAt.later HIX.out (Below.refl _ _).drew)
  have HBd : Hid (Below w.heap.size w X.drew) := HBX.out.drew
  have hS : X.drew.cell? ⟨w.heap.size, 0, none⟩ = some (.int .i64 n) ∧ X.drew.cell? ⟨w.heap.size, 1, none⟩ = some (.slice p N cap) := ⟨Joins.cell_of_block HXd.out 0, Joins.cell_of_block HXd.out 1⟩
  clear HXX HIX HBX HCp
  refine wp_region_ord (S := fun u => u.cell? ⟨w.heap.size, 0, none⟩ = some (.int .i64 n) ∧ u.cell? ⟨w.heap.size, 1, none⟩ = some (.slice p N cap)) [(0, true), (1, true), (2, true), (3, true), (4, false), (5, true), (6, false), (7, true), (8, true)] (by kernel_rfl) rfl (by kernel_rfl) (fun d _ _ _ _ h => by cases d <;> exact h) hS ?_
  simp only [inOrd, List.getElem?_cons_zero, List.getElem?_cons_succ]
  refine wpOrd_yield (v := .pointer (some ⟨w.heap.size, 0, none⟩)) rfl (fun u _ => by go_simp) ?_
  simp only [Act.put, pA, pB, pC]
  refine wpOrd_yield (v := .int .i64 n) rfl (fun u hu => by have := hu.1; go_simp) ?_
  simp only [Act.put, pA, pB, pC]
  refine wpOrd_yield (v := .pointer (some ⟨w.heap.size, 1, none⟩)) rfl (fun u _ => by go_simp) ?_
  simp only [Act.put, pA, pB, pC]
  refine wpOrd_yield (v := .slice p N cap) rfl (fun u hu => by have := hu.2; go_simp) ?_
  simp only [Act.put, pA, pB, pC]
  refine wpOrd_call rfl 94 _ _ rfl Tryz.call94 [.slice p N cap] rfl ?_
  refine hcp.mono ?_
  rintro e Y ⟨v, rfl, hown, hbY⟩
  obtain ⟨pv, cv, rfl, _⟩ := OwnG.lie celRow_len hown
  have hxY := heap_kept HXd.out hbY
  refine ⟨_, rfl, ⟨Joins.cell_of_block hxY 0, Joins.cell_of_block hxY 1⟩, ?_⟩
  simp only [Act.put, pA, pB, pC]
  refine wpOrd_yield (v := .agg (d4Row n (.slice pv l.length cv) 0 0 0)) rfl (fun u _ => exec_buildD4 rfl rfl rfl) ?_
  simp only [Act.put, pA, pB, pC]
  have hxZ := heap_kept hxY (below_new Y (.cells (d4Row n (.slice pv l.length cv) 0 0 0) 167))
  refine wpOrd_act (v := .pointer (some ⟨Y.heap.size, 0, none⟩)) rfl (exec_box rfl rfl) ⟨Joins.cell_of_block hxZ 0, Joins.cell_of_block hxZ 1⟩ ?_
  simp only [Act.put, pA, pB, pC]
  refine wpOrd_yield (v := .pointer (some ⟨Y.heap.size, 0, none⟩)) rfl (fun u _ => by go_simp) ?_
  simp only [Act.put, pA, pB, pC]
  refine wpOrd_yield (v := .int .i64 0) rfl (fun u _ => by go_simp) ?_
  simp only [Act.put, pA, pB, pC]
  refine wpOrd_nil ?_
  have HD : Hid (D4At (Y.alloc (.cells (d4Row n (.slice pv l.length cv) 0 0 0) 167)) w.heap.size Y.heap.size n l 0 0 0) := ⟨⟨_, heap_alloc_new _ _, (OwnG.mono hown HBd.out.size).later (below_new _ _)⟩⟩
  have HZ : Hid (Below w.heap.size w (Y.alloc (.cells (d4Row n (.slice pv l.length cv) 0 0 0) 167))) := below_next (below_next HBd.out hbY) (below_new _ _)
  have hYs : w.heap.size ≤ Y.heap.size := Nat.le_trans HBd.out.size hbY.size
  clear hxZ hxY hown hbY hcp hS HXd HBd
  generalize Y.alloc (.cells (d4Row n (.slice pv l.length cv) 0 0 0) 167) = Z at *
  generalize Y.heap.size = g at *
  go_wp2
  exact bodyPost_ret (results_tmp2 rfl _ _ _) rfl ⟨g, rfl, HD.out, hYs, HZ.out⟩
end Go.Proofs.YtiejhjngcnkimaaGreatR
/- The document's disk read and claimed. -/
namespace Go.Proofs.YtiejhjngcnkimaaGreatR
open Go.RowKit Go.Maps
set_option maxRecDepth 20000 in
set_option maxHeartbeats 1000000 in
theorem at04_any (l : List Cel) (p : Option Addr) (cap : Nat) (k : Int) (w : World) (hl : l.length < 4611686018427387904) (h : ImgAt w p l) :
    Calls Tryz.prog 210 #[.slice p l.length cap, .int .i64 k] w fun e w' => e = .returned (.agg (blk (atL l k))) ∧ Below w.heap.size w w' := by
  have z := zero77
  have HI : Hid (ImgAt w p l) := h
  obtain ⟨N, hN⟩ : ∃ N, l.length = N := ⟨_, rfl⟩
  have HN : Hid (l.length = N) := hN
  rw [hN] at hl ⊢
  clear h hN
  generalize hR : atL l k = R
  have HR : Hid (atL (l.drop 0) k = R) := hR
  clear hR
  have HX : Hid ((w.alloc (.cells (blk nought) 85)).heap[w.heap.size]? = some (.cells (blk nought) 85)) := heap_alloc_new _ _
  have HB1 : Hid (Below w.heap.size w (w.alloc (.cells (blk nought) 85))) := below_new _ _
  go_enter Tryz.func210, Tryz.ntmps210
  go_wp2
  generalize w.alloc (.cells (blk nought) 85) = V at *
  go_loopw [5] (fun s5 wx => ∃ j : Nat, j ≤ N ∧ s5 = .int .i64 j ∧ wx = V ∧ Hid (atL (l.drop j) k = R)) (fun s5 _ => N - (intOf s5).toNat)
  case atStart => exact ⟨0, by omega, rfl, rfl, HR.out⟩
  case round =>
    clear HR
    obtain ⟨j, hj, rfl, rfl, HR⟩ := hrel
    by_cases hj2 : (j : Int) < N
    · have hnn := HN.out
      have hc : l[j]? = some l[j] := List.getElem?_eq_getElem (by omega)
      have hd : l.drop j = l[j] :: l.drop (j + 1) := List.drop_eq_getElem_cons (by omega)
      obtain ⟨b, off, rfl, hlt, hC⟩ := HI.out (by omega)
      obtain ⟨a0, a1⟩ := hC j _ hc
      generalize l[j] = c at *
      obtain ⟨y, f⟩ := c
      have q0 : wr.cell? ⟨b, off + j * 1025, none⟩ = some (.int .i64 y) := (HB1.out.cell (p := ⟨b, off + j * 1025, none⟩) hlt).trans a0
      have q1 : NumsAt wr .u8 b (off + j * 1025 + 1) f 1024 := a1.later HB1.out hlt
      have hr := HR.out
      rw [hd, atL] at hr
      clear hC a0 a1 hc hd hnn HR
      by_cases hy : y = k
      · rw [if_pos hy] at hr
        have g0 : (y == k) = true := by simp [hy]
        subst hr
        clear hy
        have hx := HX.out
        go_wp2_with (first | (with_reducible refine isLoadR 85 ?_; refine wpList_ldB rfl (.tmp 22) rfl b (off + j * 1025 + 1) f rfl q1 ?_) | (with_reducible refine isStoreR 85 ?_; refine wpList_stB rfl (.tmp 4) (.tmp 23) rfl w.heap.size f nought 85 rfl rfl hx ?_))
        exact retB rfl w.heap.size f 85 rfl (setRow_heap _ _ _ _ _ _ hx) rfl ⟨rfl, HB1.out.trans ((Fr.setRow wr w.heap.size (blk f)).below (fun i hi => by omega) HB1.out.size)⟩
      · rw [if_neg hy] at hr
        have g0 : (y == k) = false := by simp [hy]
        have HR2 : Hid (atL (l.drop (j + 1)) k = R) := hr
        clear hy hr q1
        go_wp2
        exact ⟨⟨j + 1, by omega, by go_num, trivial, HR2.out⟩, by simp [intOf]; omega⟩
    · have hr := HR.out
      rw [List.drop_of_length_le (by rw [HN.out]; omega), atL] at hr
      have HR2 : Hid (nought = R) := hr
      clear hr HR
      have hx := HX.out
      go_wp2_with (first | (with_reducible refine isBuildR 85 ?_; refine wpList_buildB rfl rfl ?_) | (with_reducible refine isStoreR 85 ?_; refine wpList_stB rfl (.tmp 4) (.tmp 24) rfl w.heap.size nought nought 85 rfl rfl hx ?_))
      exact retB rfl w.heap.size nought 85 rfl (setRow_heap _ _ _ _ _ _ hx) rfl ⟨by rw [HR2.out], HB1.out.trans ((Fr.setRow wr w.heap.size (blk nought)).below (fun i hi => by omega) HB1.out.size)⟩
set_option maxHeartbeats 400000 in
theorem len04_any {w : World} {g : Nat} {n : Int} {v : Value} {a b c : Int} (h : w.heap[g]? = some (.cells (d4Row n v a b c) 167)) : Calls Tryz.prog 209 #[.pointer (some ⟨g, 0, none⟩)] w fun e w' => e = .returned (.int .i64 n) ∧ w' = w := by
  have c0 : w.cell? ⟨g, 0, none⟩ = some (.int .i64 n) := Joins.cell_of_block h 0
  clear h
  go_enter Tryz.func209, Tryz.ntmps209
  go_wp2
  go_ret
  exact ⟨rfl, rfl⟩
set_option maxHeartbeats 1000000 in
theorem claim04_ok {w : World} {g : Nat} {n : Int} {v : Value} {a b c : Int} (h : w.heap[g]? = some (.cells (d4Row n v a b c) 167)) (hb : 0 ≤ b ∧ b ≤ 1000000) : Calls Tryz.prog 96 #[.pointer (some ⟨g, 0, none⟩)] w fun e w' => e = .returned (.int .i64 (b + 1)) ∧ w'.heap[g]? = some (.cells (d4Row n v a (b + 1) (b + 1)) 167) ∧ Fr (fun k => k = g) w w' := by
  have c5 : w.cell? ⟨g, 5, none⟩ = some (.bool false) := Joins.cell_of_block h 5
  have c9 : w.cell? ⟨g, 9, none⟩ = some (.int .i64 b) := Joins.cell_of_block h 9
  have f9 := frozen_row h 9
  have e1 : IntKind.i64.wrap (b + 1) = b + 1 := by rw [IntKind.wrap_i64]; omega
  have h1 : (w.setCell ⟨g, 9, none⟩ (.int .i64 (b + 1))).heap[g]? = some (.cells (d4Row n v a (b + 1) c) 167) := by rw [heap_setCell_same _ _ _ _ _ _ h]; rfl
  have HF1 : Hid _ := Fr.setCell w g 9 (.int .i64 (b + 1))
  have H1 : Hid _ := h1
  clear h h1
  go_enter Tryz.func96, Tryz.ntmps96
  go_upto_region 4 with fail
  generalize w.setCell ⟨g, 9, none⟩ (.int .i64 (b + 1)) = X at *
  clear c5 c9 f9
  have c9 : X.cell? ⟨g, 9, none⟩ = some (.int .i64 (b + 1)) := Joins.cell_of_block H1.out 9
  have c10 : X.cell? ⟨g, 10, none⟩ = some (.int .i64 c) := Joins.cell_of_block H1.out 10
  have f10 := frozen_row H1.out 10
  have h2 : (X.setCell ⟨g, 10, none⟩ (.int .i64 (b + 1))).heap[g]? = some (.cells (d4Row n v a (b + 1) (b + 1)) 167) := by rw [heap_setCell_same _ _ _ _ _ _ H1.out]; rfl
  have H2 : Hid _ := h2
  have HF2 : Hid _ := Fr.trans HF1.out (Fr.setCell X g 10 (.int .i64 (b + 1))) (fun _ _ q => q)
  clear h2 H1 HF1
  go_upto_region 5 with fail
  generalize X.setCell ⟨g, 10, none⟩ (.int .i64 (b + 1)) = Y at *
  clear c9 c10 f10
  have c9 : Y.cell? ⟨g, 9, none⟩ = some (.int .i64 (b + 1)) := Joins.cell_of_block H2.out 9
  go_wp2
  go_ret
  exact ⟨rfl, H2.out, HF2.out⟩
end Go.Proofs.YtiejhjngcnkimaaGreatR
/- The document's disk read at a block; its log's header. -/
namespace Go.Proofs.YtiejhjngcnkimaaGreatR
open Go.RowKit Go.Maps
set_option maxRecDepth 20000 in
set_option maxHeartbeats 2000000 in
theorem read04_ok {w : World} {g B : Nat} {n : Int} {v : Value} {l : List Cel} {a b c : Int} (h : w.heap[g]? = some (.cells (d4Row n v a b c) 167)) (ho : OwnH w B v l) (hl : l.length ≤ 1048576) (ha : 0 ≤ a ∧ a ≤ 1000000) (k : Int) (hk : 0 ≤ k ∧ k < n) :
    Calls Tryz.prog 145 #[.pointer (some ⟨g, 0, none⟩), .int .i64 k] w fun e w' => e = .returned (.tuple #[.agg (blk (atL l k)), .int .i64 0]) ∧ w'.heap[g]? = some (.cells (d4Row n v (a + 1) b c) 167) ∧ OwnH w' B v l ∧ Fr (fun q => q = g) w w' := by
  have z := zero77
  have hgw : g < w.heap.size := (Array.getElem?_eq_some_iff.1 h).1
  have hA1 := heap_kept h (below_new w (.cells (blk nought) 85))
  have hA2 := heap_alloc_new w (.cells (blk nought) 85)
  have hoA : OwnH (w.alloc (.cells (blk nought) 85)) B v l := OwnG.later ho (below_new _ _)
  have HFA : Hid (Fr (fun q => q = g) w (w.alloc (.cells (blk nought) 85))) := Fr.ofBelow (below_new _ _)
  clear h ho
  have HgV : Hid (g < w.heap.size) := hgw
  go_enter Tryz.func145, Tryz.ntmps145
  go_upto_region 1 with fail
  generalize w.alloc (.cells (blk nought) 85) = V at *
  have c5 : V.cell? ⟨g, 5, none⟩ = some (.bool false) := Joins.cell_of_block hA1 5
  have c0 : V.cell? ⟨g, 0, none⟩ = some (.int .i64 n) := Joins.cell_of_block hA1 0
  have c8 : V.cell? ⟨g, 8, none⟩ = some (.int .i64 a) := Joins.cell_of_block hA1 8
  have f8 := frozen_row hA1 8
  have e1 : IntKind.i64.wrap (a + 1) = a + 1 := by rw [IntKind.wrap_i64]; omega
  have t1 : decide (k < 0) = false := decide_eq_false (by omega)
  have t2 : decide (n ≤ k) = false := decide_eq_false (by omega)
  have hS := Fr.setCell V g 8 (.int .i64 (a + 1))
  have H1 : Hid ((V.setCell ⟨g, 8, none⟩ (.int .i64 (a + 1))).heap[g]? = some (.cells (d4Row n v (a + 1) b c) 167)) := by rw [heap_setCell_same _ _ _ _ _ _ hA1]; rfl
  have H2 : Hid ((V.setCell ⟨g, 8, none⟩ (.int .i64 (a + 1))).heap[w.heap.size]? = some (.cells (blk nought) 85)) := (hS.block _ (Array.getElem?_eq_some_iff.1 hA2).1 (by omega)).trans hA2
  have H3 : Hid (OwnH (V.setCell ⟨g, 8, none⟩ (.int .i64 (a + 1))) B v l) := own_frame hoA hS fun q hq hT => own_ne hoA hA1 (by decide) (hT ▸ hq)
  have H4 : Hid (Fr (fun q => q = g) w (V.setCell ⟨g, 8, none⟩ (.int .i64 (a + 1)))) := Fr.trans HFA.out hS fun _ _ q => q
  clear hS hA1 hA2 hoA HFA
  go_upto_region 8 with fail
  generalize V.setCell ⟨g, 8, none⟩ (.int .i64 (a + 1)) = X at *
  clear c5 c0 c8 f8 t1 t2
  obtain ⟨pv, cv, rfl, himg⟩ := OwnH.img H3.out
  have d2 : X.cell? ⟨g, 2, none⟩ = some (.slice none 0 0) := Joins.cell_of_block H1.out 2
  have d1 : X.cell? ⟨g, 1, none⟩ = some (.slice pv l.length cv) := Joins.cell_of_block H1.out 1
  have hat := at04_any l pv cv k X (by omega) himg
  clear himg
  obtain ⟨F, hFF⟩ : ∃ F, atL l k = F := ⟨_, rfl⟩
  obtain ⟨LL, hLL⟩ : ∃ LL, l.length = LL := ⟨_, rfl⟩
  have HFF : Hid (atL l k = F) := hFF
  have HLL : Hid (l.length = LL) := hLL
  rw [hFF, hLL] at hat
  rw [hLL] at d1 H1 H3 hl
  clear hFF hLL
  go_wp2
  go_loopw [6] (fun s6 wx => s6 = .int .i64 (-1) ∧ wx = X) (fun _ _ => 0)
  case atStart => exact ⟨by go_num, rfl⟩
  case round =>
    obtain ⟨rfl, rfl⟩ := hrel
    go_wp2_with (first | (go_at_call 210; fail))
    refine hat.mono ?_
    rintro e Y ⟨rfl, hbY⟩
    have K1 : Hid _ := heap_kept H1.out hbY
    have k2 := heap_kept H2.out hbY
    have K3 : Hid (OwnH Y B (.slice pv LL cv) l) := OwnG.later H3.out hbY
    have K4 : Hid (Fr (fun q => q = g) w Y) := Fr.trans H4.out (Fr.ofBelow (T := fun q => q = g) hbY) fun _ _ q => q
    clear hat hbY H1 H2 H3 H4 d1 d2
    go_wp2_with (first | (with_reducible refine isStoreR 85 ?_; refine wpList_stB rfl (.tmp 4) (.tmp 67) rfl w.heap.size F nought 85 rfl rfl k2 ?_))
    have hF := Fr.setRow Y w.heap.size (blk F)
    exact retCT Tryz.underlying85 rfl rfl w.heap.size (blk F) 85 (by rw [blk_size]; exact size77) rfl (setRow_heap _ _ _ _ _ _ k2) rfl (by rw [HFF.out, HLL.out]; exact ⟨rfl, (hF.block _ (Array.getElem?_eq_some_iff.1 K1.out).1 (by have := HgV.out; omega)).trans K1.out, own_frame K3.out hF fun q hq hT => own_ne K3.out k2 (by decide) (hT ▸ hq), Fr.trans K4.out hF fun q hq hT => by omega⟩)
end Go.Proofs.YtiejhjngcnkimaaGreatR
/- The document's log on a disk whose header is empty. -/
namespace Go.Proofs.YtiejhjngcnkimaaGreatR
open Go.RowKit Go.Maps
set_option maxRecDepth 20000 in
set_option maxHeartbeats 2000000 in
theorem may08_ok {w : World} {g b l i : Nat} {n : Int} {v : Value} {a' b' c' : Int} (hg : GeoOk b l i) (hn : (b : Int) ≤ n) (h : w.heap[g]? = some (.cells (d4Row n v a' b' c') 167)) :
    Calls Tryz.prog 144 #[.pointer (some ⟨g, 0, none⟩), .agg (layRow (layOf b l i))] w fun e w' => e = .returned (.bool true) ∧ Below w.heap.size w w' := by
  have hfit := fun W => fits03_ok hg W
  have HFit : Hid _ := hfit
  clear hfit
  have Hyb : Hid ((layOf b l i).b = (b : Int)) := rfl
  generalize layOf b l i = y at *
  have HX : Hid _ := heap_alloc_new w (.cells (layRow y) 61)
  have HB : Hid _ := below_new w (.cells (layRow y) 61)
  have HD : Hid _ := heap_kept h (below_new w (.cells (layRow y) 61))
  clear h
  go_enter Tryz.func144, Tryz.ntmps144
  go_upto_region 1 with fail
  generalize w.alloc (.cells (layRow y) 61) = V at *
  have hf := HFit.out V
  go_wp2_with (first | (with_reducible refine isLoadR 61 ?_; refine wpList_ldR 61 Tryz.underlying61 rfl rfl (.tmp 3) rfl w.heap.size rfl (layRow y) 61 (0, 0) (lay_info _) HX.out ?_) | (go_at_call 135; fail))
  refine hf.mono ?_
  rintro e X ⟨rfl, hbX⟩
  have HX2 : Hid _ := heap_kept HX.out hbX
  have HD2 : Hid _ := heap_kept HD.out hbX
  have HB2 : Hid _ := below_next HB.out hbX
  clear hf hbX HX HD HB
  go_upto_region 2 with fail
  have c0 : X.drew.cell? ⟨w.heap.size, 0, none⟩ = some (.int .i64 (b : Int)) := by rw [← Hyb.out]; exact Joins.cell_of_block HX2.out 0
  have HDd : Hid (X.drew.heap[g]? = _) := HD2.out
  have hlen := len04_any HDd.out
  have HBd : Hid (Below w.heap.size w X.drew) := HB2.out.drew
  have t1 : decide ((b : Int) ≤ n) = true := decide_eq_true hn
  refine wp_region_ord (S := fun u => u.cell? ⟨w.heap.size, 0, none⟩ = some (.int .i64 (b : Int))) [(0, true), (1, true), (2, true), (3, true), (4, true), (5, true), (6, false), (7, true), (8, true), (9, true)] (by kernel_rfl) rfl (by kernel_rfl) (fun d _ _ _ _ h => by cases d <;> exact h) c0 ?_
  simp only [inOrd, List.getElem?_cons_zero, List.getElem?_cons_succ]
  refine wpOrd_yield (v := .bool true) rfl (fun u _ => exec_mv rfl rfl) ?_
  simp only [Act.put, pA, pB, pC]
  refine wpOrd_yield (v := .bool true) rfl (fun u _ => exec_mv rfl rfl) ?_
  simp only [Act.put, pA, pB, pC]
  refine wpOrd_yield (v := .pointer (some ⟨w.heap.size, 0, none⟩)) rfl (fun u _ => by go_simp) ?_
  simp only [Act.put, pA, pB, pC]
  refine wpOrd_yield (v := .pointer (some ⟨w.heap.size, 0, none⟩)) rfl (fun u _ => by go_simp) ?_
  simp only [Act.put, pA, pB, pC]
  refine wpOrd_yield (v := .int .i64 (b : Int)) rfl (fun u hu => by have := hu; go_simp) ?_
  simp only [Act.put, pA, pB, pC]
  refine wpOrd_yield (v := .pointer (some ⟨g, 0, none⟩)) rfl (fun u _ => exec_mv rfl rfl) ?_
  simp only [Act.put, pA, pB, pC]
  refine wpOrd_call rfl 209 _ _ rfl Tryz.call209 [.pointer (some ⟨g, 0, none⟩)] rfl ?_
  refine hlen.mono ?_
  rintro e Y ⟨rfl, rfl⟩
  refine ⟨_, rfl, c0, ?_⟩
  simp only [Act.put, pA, pB, pC]
  refine wpOrd_yield (v := .bool true) rfl (fun u _ => by go_simp) ?_
  simp only [Act.put, pA, pB, pC]
  refine wpOrd_yield (v := .bool true) rfl (fun u _ => by go_simp) ?_
  simp only [Act.put, pA, pB, pC]
  refine wpOrd_yield (v := .bool true) rfl (fun u _ => by go_simp) ?_
  simp only [Act.put, pA, pB, pC]
  refine wpOrd_nil ?_
  clear c0 hlen HDd HX2 HD2 HB2
  generalize X.drew = Z at *
  go_wp2
  go_ret
  exact ⟨rfl, HBd.out⟩
theorem blk_info (f : Nat → Int) : (Tryz.prog.info? 85).map (·.size) = some (blk f).size := by rw [blk_size]; exact size77
theorem blk_one (f : Nat → Int) : (blk f).all (·.oneCell') = true := rowN_one _ _ _
theorem blk_two (f g : Nat → Int) : (blk f).size = (blk g).size := by rw [blk_size, blk_size]
structure HdL (w w' : World) (g B : Nat) (n : Int) (v : Value) (l : List Cel) (a b c : Int) : Prop where
  row : w'.heap[g]? = some (.cells (d4Row n v a b c) 167)
  own : OwnH w' B v l
  fr : Fr (fun q => q = g) w w'
theorem HdL.call {w W W' : World} {g B : Nat} {n : Int} {v : Value} {l : List Cel} {a b c : Int} (h : HdL w W g B n v l a b c) (hb : Below W.heap.size W W') : HdL w W' g B n v l a b c := ⟨heap_kept h.row hb, OwnG.later h.own hb, Fr.trans h.fr (Fr.ofBelow (T := fun q => q = g) hb) fun _ _ q => q⟩
set_option maxRecDepth 20000 in
set_option maxHeartbeats 4000000 in
theorem header08_ok {w : World} {g B b l i : Nat} {n : Int} {v : Value} {im : List Cel} {a' b' c' : Int} (hs : SupOk b l i im) (hn : (b : Int) ≤ n) (h : HdL w w g B n v im a' b' c') (hl : im.length ≤ 1048576) (ha : 0 ≤ a' ∧ a' ≤ 1000000) :
    Calls Tryz.prog 95 #[.pointer (some ⟨g, 0, none⟩), .agg (layRow (layOf b l i))] w fun e w' => e = .returned (.tuple #[.agg hd0, .int .i64 0]) ∧ HdL w w' g B n v im (a' + 1) b' c' := by
  have zh := zeroHd
  have zb := zero77
  have hgw : g < w.heap.size := (Array.getElem?_eq_some_iff.1 h.row).1
  have hb1 := hs.geo.b1
  have hfit := hs.geo.fit
  have HMay : Hid (∀ W, W.heap[g]? = some (.cells (d4Row n v a' b' c') 167) → Calls Tryz.prog 144 #[.pointer (some ⟨g, 0, none⟩), .agg (layRow (layOf b l i))] W fun e w' => e = .returned (.bool true) ∧ Below W.heap.size W w') := fun W hW => may08_ok hs.geo hn hW
  have HDec : Hid _ := fun W => dec07_none hs.geo (atL im 1) hs.head W
  have HyL : Hid ((layOf b l i).logAt = 1) := rfl
  clear hs
  generalize layOf b l i = y at *
  obtain ⟨A, hA⟩ : ∃ A, A = (w.alloc (.cells (layRow y) 61)).alloc (.cells hd0 169) := ⟨_, rfl⟩
  have HL : Hid (A.heap[w.heap.size]? = some (.cells (layRow y) 61)) := by rw [hA]; exact heap_kept (heap_alloc_new _ _) (below_new _ _)
  have HR : Hid (A.heap[w.heap.size + 1]? = some (.cells hd0 169)) := by rw [hA]; exact heap_two _ _ _
  have HD : Hid (HdL w A g B n v im a' b' c') := by rw [hA]; exact (h.call (below_new _ _)).call (below_new _ _)
  have HA : Hid (A = _) := hA
  clear hA h
  go_enter Tryz.func95, Tryz.ntmps95
  go_upto_region 1 with fail
  rw [← HA.out]
  clear HA
  have hmay := HMay.out A HD.out.row
  go_wp2_with (first | (with_reducible refine isLoadR 61 ?_; refine wpList_ldR 61 Tryz.underlying61 rfl rfl (.tmp 3) rfl w.heap.size rfl (layRow y) 61 (0, 0) (lay_info _) HL.out ?_) | (go_at_call 144; fail))
  refine hmay.mono ?_
  rintro e X ⟨rfl, hbX⟩
  have HL2 : Hid _ := heap_kept HL.out hbX
  have HR2 : Hid _ := heap_kept HR.out hbX
  have HD2 : Hid (HdL w X g B n v im a' b' c') := HD.out.call hbX
  clear hmay hbX HL HR HD HMay
  have c3 : X.cell? ⟨w.heap.size, 3, none⟩ = some (.int .i64 1) := by rw [← HyL.out]; exact Joins.cell_of_block HL2.out 3
  have hrd := read04_ok HD2.out.row HD2.out.own hl ha 1 (by omega)
  go_wp2_with (first | (go_at_call 145; fail))
  refine hrd.mono ?_
  rintro e Y ⟨rfl, hr1, hr2, hr3⟩
  have HL3 : Hid (Y.heap[w.heap.size]? = _) := (hr3.block _ (Array.getElem?_eq_some_iff.1 HL2.out).1 (by omega)).trans HL2.out
  have HR3 : Hid (Y.heap[w.heap.size + 1]? = _) := (hr3.block _ (Array.getElem?_eq_some_iff.1 HR2.out).1 (by omega)).trans HR2.out
  have HD3 : Hid (HdL w Y g B n v im (a' + 1) b' c') := ⟨hr1, hr2, Fr.trans HD2.out.fr hr3 fun _ _ q => q⟩
  clear hrd hr1 hr2 hr3 HL2 HR2 HD2 c3
  have HL4 : Hid _ := heap_kept HL3.out (below_new Y (.cells (blk (atL im 1)) 85))
  have HR4 : Hid _ := heap_kept HR3.out (below_new Y (.cells (blk (atL im 1)) 85))
  have HD4 : Hid (HdL w (Y.alloc (.cells (blk (atL im 1)) 85)) g B n v im (a' + 1) b' c') := HD3.out.call (below_new _ _)
  have hbk := blk_at (heap_alloc_new Y (.cells (blk (atL im 1)) 85))
  clear HL3 HR3 HD3
  generalize atL im 1 = F at *
  go_upto_region 9 with (first | (with_reducible refine isStoreR 85 ?_; refine wpList_stNew 85 rfl (.tmp 7) (.tmp 25) rfl Y.heap.size (blk F) (blk nought) 85 (blk_info _) (blk_two _ _) (blk_one _) rfl rfl rfl ?_))
  generalize Y.alloc (.cells (blk F) 85) = Z at *
  generalize Y.heap.size = gb at *
  have hdec := HDec.out Z
  go_wp2_with (first | (with_reducible refine isLoadR 61 ?_; refine wpList_ldR 61 Tryz.underlying61 rfl rfl (.tmp 3) rfl w.heap.size rfl (layRow y) 61 (0, 0) (lay_info _) HL4.out ?_) | (with_reducible refine isLoadR 85 ?_; refine wpList_ldB rfl (.tmp 7) rfl gb 0 F rfl hbk ?_) | (go_at_call 146; fail))
  refine hdec.mono ?_
  rintro e U ⟨rfl, hbU⟩
  have HR5 : Hid _ := heap_kept (heap_kept HR4.out hbU) (below_new U (.cells hd0 169))
  have HN5 : Hid ((U.alloc (.cells hd0 169)).heap[U.heap.size]? = some (.cells hd0 169)) := heap_alloc_new _ _
  have HD5 : Hid (HdL w (U.alloc (.cells hd0 169)) g B n v im (a' + 1) b' c') := (HD4.out.call hbU).call (below_new _ _)
  clear hdec hbU hbk HL4 HR4 HD4 HDec
  go_upto_region 10 with (first | (with_reducible refine isStoreR 169 ?_; refine wpList_stNew 169 rfl (.tmp 9) (.tmp 34) rfl U.heap.size hd0 hd0 169 hd_info rfl hd_one rfl rfl rfl ?_))
  generalize U.alloc (.cells hd0 169) = T at *
  generalize U.heap.size = gh at *
  go_wp2_with (first | (with_reducible refine isLoadR 169 ?_; refine wpList_ldR 169 Tryz.underlying169 rfl rfl (.tmp 9) rfl gh rfl hd0 169 (0, 0) hd_info HN5.out ?_) | (with_reducible refine isStoreR 169 ?_; refine wpList_stR 169 rfl (.tmp 4) (.tmp 39) rfl (w.heap.size + 1) hd0 hd0 169 hd_info rfl hd_one rfl rfl HR5.out ?_))
  have hF := Fr.setRow T (w.heap.size + 1) hd0
  exact retCT Tryz.underlying169 rfl rfl (w.heap.size + 1) hd0 169 hd_info rfl (setRow_heap _ _ _ _ _ _ HR5.out) rfl ⟨rfl, (hF.block _ (Array.getElem?_eq_some_iff.1 HD5.out.row).1 (by omega)).trans HD5.out.row, own_frame HD5.out.own hF fun q hq hT => own_ne HD5.out.own HR5.out (by decide) (hT ▸ hq), Fr.trans HD5.out.fr hF fun q hq hT => by omega⟩
end Go.Proofs.YtiejhjngcnkimaaGreatR
/- The document's log made. -/
namespace Go.Proofs.YtiejhjngcnkimaaGreatR
open Go.RowKit Go.Maps
def lgRow (d : Value) (y : Lay) (mine : Int) (made : Bool) : Array Value := #[d, .int .i64 y.b, .int .i64 y.l, .int .i64 y.i, .int .i64 y.logAt, .int .i64 y.nodeAt, .int .i64 y.nodeBlocks, .int .i64 y.bitsAt, .int .i64 y.bitsBlocks, .int .i64 y.dataAt, .int .i64 mine, .bool made, .slice none 0 0, .bool false, .int .i64 0, .slice none 0 0, .int .i64 0, .int .i64 0]
theorem zeroLg : ∀ w, (zeroValue 174).run Tryz.prog w = .ok (.agg (lgRow (.pointer none) lay0 0 false)) w := (zero_of_info (show (Tryz.prog.info? 174).map (fun i => (i.zero, i.size)) = some (some (.agg (lgRow (.pointer none) lay0 0 false)), 18) by kernel_rfl)).1
theorem exec_buildLg {o : Oper} {a : Act} {W : World} {x0 x1 x2 : Operand} {p : Option Addr} {y : Lay} {m : Int} (ho : o.op = .build 174 #[(0, x0), (1, x1), (2, x2), (3, .const (.bool true))]) (h0 : a.eval x0 = .pointer p) (h1 : a.eval x1 = .agg (layRow y)) (h2 : a.eval x2 = .int .i64 m) : (execOp a.eval o).run Tryz.prog W = .ok (.value (.agg (lgRow (.pointer p) y m true))) W := by
  have z := zeroLg W
  have hc : ∀ v, a.eval (.const v) = v := fun _ => rfl
  unfold lgRow layRow at *
  generalize a.eval = E at *
  unfold execOp
  simp only [ho]
  simp [go_sem, h0, h1, h2, hc, z, lay0]
set_option maxRecDepth 20000 in
set_option maxHeartbeats 4000000 in
theorem new08_ok {w : World} {g B b l i : Nat} {n : Int} {v : Value} {im : List Cel} {a' : Int} (hs : SupOk b l i im) (hn : (b : Int) ≤ n) (h : HdL w w g B n v im a' 0 0) (hl : im.length ≤ 1048576) (ha : 0 ≤ a' ∧ a' ≤ 1000000) :
    Calls Tryz.prog 43 #[.pointer (some ⟨g, 0, none⟩), .agg (layRow (layOf b l i))] w fun e w' => ∃ gm, e = .returned (.tuple #[.pointer (some ⟨gm, 0, none⟩), .int .i64 0]) ∧ w'.heap[gm]? = some (.cells (lgRow (.pointer (some ⟨g, 0, none⟩)) (layOf b l i) 1 true) 174) ∧ HdL w w' g B n v im (a' + 1) 1 1 := by
  have zh := zeroHd
  have hgw : g < w.heap.size := (Array.getElem?_eq_some_iff.1 h.row).1
  have hx1 := below_new w (.cells (layRow (layOf b l i)) 61)
  have hhd := header08_ok (w := w.alloc (.cells (layRow (layOf b l i)) 61)) hs hn ⟨heap_kept h.row hx1, OwnG.later h.own hx1, Fr.refl _ _⟩ hl ha
  have HL : Hid _ := heap_alloc_new w (.cells (layRow (layOf b l i)) 61)
  have HB : Hid _ := hx1
  clear hs hx1 h
  generalize layOf b l i = y at *
  go_enter Tryz.func43, Tryz.ntmps43
  go_upto_region 1 with fail
  generalize w.alloc (.cells (layRow y) 61) = V at *
  go_wp2_with (first | (with_reducible refine isLoadR 61 ?_; refine wpList_ldR 61 Tryz.underlying61 rfl rfl (.tmp 3) rfl w.heap.size rfl (layRow y) 61 (0, 0) (lay_info _) HL.out ?_) | (go_at_call 95; fail))
  refine hhd.mono ?_
  rintro e X ⟨rfl, hX⟩
  have HL2 : Hid (X.heap[w.heap.size]? = _) := (hX.fr.block _ (Array.getElem?_eq_some_iff.1 HL.out).1 (by omega)).trans HL.out
  have HD2 : Hid (HdL w X g B n v im (a' + 1) 0 0) := ⟨hX.row, hX.own, Fr.trans (Fr.ofBelow (T := fun q => q = g) HB.out) hX.fr fun _ _ q => q⟩
  clear hhd hX HL HB
  have HL3 : Hid _ := heap_kept HL2.out (below_new X (.cells hd0 169))
  have HD3 : Hid (HdL w (X.alloc (.cells hd0 169)) g B n v im (a' + 1) 0 0) := HD2.out.call (below_new _ _)
  have ht : (X.alloc (.cells hd0 169)).cell? ⟨X.heap.size, 0, none⟩ = some (.slice none 0 0) := Joins.cell_of_block (heap_alloc_new X (.cells hd0 169)) 0
  clear HL2 HD2
  go_upto_region 2 with (first | (with_reducible refine isStoreR 169 ?_; refine wpList_stNew 169 rfl (.tmp 6) (.tmp 12) rfl X.heap.size hd0 hd0 169 hd_info rfl hd_one rfl rfl rfl ?_))
  generalize X.alloc (.cells hd0 169) = Y at *
  generalize X.heap.size = gh at *
  go_upto_region 6 with fail
  have HLd : Hid (Y.drew.heap[w.heap.size]? = some (.cells (layRow y) 61)) := HL3.out
  have HDd : Hid (HdL w Y.drew g B n v im (a' + 1) 0 0) := HD3.out.call (Below.refl _ _).drew
  have hcl := claim04_ok HDd.out.row (by omega)
  clear HL3 HD3 ht
  refine wp_region_ord (S := fun u => u.heap[w.heap.size]? = some (.cells (layRow y) 61)) [(0, true), (1, true), (2, true), (3, false), (4, true), (5, false), (6, true), (7, true)] (by kernel_rfl) rfl (by kernel_rfl) (fun d _ _ _ _ h => by cases d <;> exact h) HLd.out ?_
  simp only [inOrd, List.getElem?_cons_zero, List.getElem?_cons_succ]
  refine wpOrd_yield (v := .pointer (some ⟨g, 0, none⟩)) rfl (fun u _ => exec_mv rfl rfl) ?_
  simp only [Act.put, pA, pB, pC]
  refine wpOrd_yield (v := .agg (layRow y)) rfl (fun u hu => run_ldR 61 Tryz.underlying61 rfl (.tmp 3) rfl w.heap.size rfl hu (lay_info _)) ?_
  simp only [Act.put, pA, pB, pC]
  refine wpOrd_yield (v := .pointer (some ⟨g, 0, none⟩)) rfl (fun u _ => exec_mv rfl rfl) ?_
  simp only [Act.put, pA, pB, pC]
  refine wpOrd_call rfl 96 _ _ rfl Tryz.call96 [.pointer (some ⟨g, 0, none⟩)] rfl ?_
  refine hcl.mono ?_
  rintro e Z ⟨rfl, hz1, hz2⟩
  have hLZ : Z.heap[w.heap.size]? = some (.cells (layRow y) 61) := (hz2.block _ (Array.getElem?_eq_some_iff.1 HLd.out).1 (by omega)).trans HLd.out
  refine ⟨_, rfl, hLZ, ?_⟩
  simp only [Act.put, pA, pB, pC]
  refine wpOrd_yield (v := .agg (lgRow (.pointer (some ⟨g, 0, none⟩)) y (0 + 1) true)) rfl (fun u _ => exec_buildLg rfl rfl rfl rfl) ?_
  simp only [Act.put, pA, pB, pC]
  refine wpOrd_act (v := .pointer (some ⟨Z.heap.size, 0, none⟩)) rfl (exec_box rfl rfl) (heap_kept hLZ (below_new _ _)) ?_
  simp only [Act.put, pA, pB, pC]
  refine wpOrd_yield (v := .pointer (some ⟨Z.heap.size, 0, none⟩)) rfl (fun u _ => by go_simp) ?_
  simp only [Act.put, pA, pB, pC]
  refine wpOrd_yield (v := .int .i64 0) rfl (fun u _ => by go_simp) ?_
  simp only [Act.put, pA, pB, pC]
  refine wpOrd_nil ?_
  have HD5 : Hid (HdL w (Z.alloc (.cells (lgRow (.pointer (some ⟨g, 0, none⟩)) y (0 + 1) true) 174)) g B n v im (a' + 1) 1 1) := HdL.call ⟨hz1, own_frame HDd.out.own hz2 fun q hq hT => own_ne HDd.out.own HDd.out.row (by decide) (hT ▸ hq), Fr.trans HDd.out.fr hz2 fun _ _ q => q⟩ (below_new _ _)
  have HN5 : Hid ((Z.alloc (.cells (lgRow (.pointer (some ⟨g, 0, none⟩)) y (0 + 1) true) 174)).heap[Z.heap.size]? = _) := heap_alloc_new _ _
  clear hcl hLZ hz1 hz2 HLd HDd
  generalize Z.alloc (.cells (lgRow (.pointer (some ⟨g, 0, none⟩)) y (0 + 1) true) 174) = U at *
  generalize Z.heap.size = gm at *
  go_wp2
  exact bodyPost_ret (results_tmp2 rfl _ _ _) rfl ⟨gm, rfl, HN5.out, HD5.out⟩
end Go.Proofs.YtiejhjngcnkimaaGreatR
