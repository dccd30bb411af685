/- Several texts joined, each with its own remark; no condition. -/
import Derived.Test.YtlcdpmjdnihocaaGreatF15
import Derived.Test.YtlcdpmjdnihocaaGreatF5
import Derived.Test.YtlcdpmjdnihocaaGreatF18
import Derived.Test.YtlcdpmjdnihocaaGreatF21
import Derived.Deep.CutRange
/- Blocks with their numbers as rows; an image that may be: the document's Whole. -/
namespace Go.Proofs.YtlcdpmjdnihocaaGreat
open Go.RowKit Go.Maps
def celRow (c : Cel) : List Value := .int .i64 c.1 :: (blk c.2).toList
theorem celRow_len (c : Cel) : (celRow c).length = 1025 := by
  show (blk c.2).toList.length + 1 = 1025
  rw [Array.length_toList, blk_size]
theorem celRow_one (c : Cel) : ∀ u ∈ celRow c, u.oneCell' = true := fun u hu => by
  rcases List.mem_cons.1 hu with rfl | h
  · rfl
  · have := rowN_one .u8 c.2 1024
    rw [Array.all_eq_true_iff_forall_mem] at this
    exact this u (by simpa [blk] using h)
theorem celRow_get (c : Cel) (j : Nat) (h : j < 1024) : (celRow c)[j + 1]? = some (.int .u8 (c.2 j)) := by
  unfold celRow
  rw [List.getElem?_cons_succ, Array.getElem?_toList]
  exact rowN_get _ _ _ _ h
theorem celRow_zero (c : Cel) : (celRow c)[0]? = some (.int .i64 c.1) := by unfold celRow; rw [List.getElem?_cons_zero]
theorem celRow_all (c : Cel) : (celRow c).toArray.all (·.oneCell') = true := by
  rw [Array.all_eq_true_iff_forall_mem]
  intro v hv
  exact celRow_one c v (by simpa using hv)
theorem sizeHeld : (Tryz.prog.info? 81).map (·.size) = some 1025 := by kernel_rfl
theorem cel_info (c : Cel) : (Tryz.prog.info? 81).map (·.size) = some (celRow c).toArray.size := by rw [List.size_toArray, celRow_len]; exact sizeHeld
theorem cel_two (c d : Cel) : (celRow c).toArray.size = (celRow d).toArray.size := by rw [List.size_toArray, List.size_toArray, celRow_len, celRow_len]
theorem zeroHeld : ∀ w, (zeroValue 81).run Tryz.prog w = .ok (.agg (celRow (0, nought)).toArray) w := (zero_of_info (show (Tryz.prog.info? 81).map (fun i => (i.zero, i.size)) = some (some (.agg (celRow (0, nought)).toArray), 1025) by kernel_rfl)).1
/-- A block with its number is loaded from the middle of a row. -/
theorem loadH {w : World} {b off : Nat} {c : Cel} (h0 : w.cell? ⟨b, off, none⟩ = some (.int .i64 c.1)) (h1 : NumsAt w .u8 b (off + 1) c.2 1024) : (Instr.loadAt 81 (.pointer (some ⟨b, off, none⟩))).run Tryz.prog w = .ok (.agg (celRow c).toArray) w :=
  run_loadAt_mid (P := Tryz.prog) w b off 81 (celRow c) _ (fun j v hv => by
    have hj : j < 1025 := by have := (List.getElem?_eq_some_iff.1 hv).1; rwa [celRow_len] at this
    cases j with
    | zero =>
      rw [celRow_zero] at hv
      injection hv with hv
      rw [← hv]
      exact h0
    | succ j =>
      rw [celRow_get c j (by omega)] at hv
      injection hv with hv
      rw [← hv]
      have := h1 j (by omega)
      rwa [show off + 1 + j = off + (j + 1) by omega] at this) Tryz.underlying81 rfl (by rw [celRow_len]; exact sizeHeld)
theorem wpList_ldH {ops : Array Oper} {rest : List Oper} {o : Oper} {a : Act} {w : World} {Q : Exit → Act → World → Prop} (hw : Region.wanted o (yielded ops a.tmps) = true) (x : Operand) (ho : o.op = .load 81 x) (b off : Nat) (c : Cel) (hx : a.eval x = .pointer (some ⟨b, off, none⟩)) (h0 : w.cell? ⟨b, off, none⟩ = some (.int .i64 c.1)) (h1 : NumsAt w .u8 b (off + 1) c.2 1024)
    (h : wpList Tryz.prog ops Q rest (a.put o.dst (.agg (celRow c).toArray)) w) : wpList Tryz.prog ops Q (o :: rest) a w := by
  unfold wpList
  rw [if_pos hw]
  refine .inl ?_
  unfold Oper.wp execOp
  simp only [ho, hx, loadH h0 h1, Sem.run_bind, Result.andThen_ok, Sem.run_pure]
  exact h
theorem cel_num {w : World} {g : Nat} {c : Cel} {t : TypeId} (h : w.heap[g]? = some (.cells (celRow c).toArray t)) : w.cell? ⟨g, 0, none⟩ = some (.int .i64 c.1) := by rw [cell_of_row w g 0 _ t _ h, List.getElem?_toArray]; exact celRow_zero c
theorem cel_blk {w : World} {g : Nat} {c : Cel} {t : TypeId} (h : w.heap[g]? = some (.cells (celRow c).toArray t)) : NumsAt w .u8 g 1 c.2 1024 := fun j hj => by
  rw [cell_of_row w g (1 + j) _ t _ h, List.getElem?_toArray, show 1 + j = j + 1 by omega]
  exact celRow_get c j hj
/-- The number ahead of place i; -1, if there is none. -/
def lastK (l : List Cel) : Nat → Int
  | 0 => -1
  | i + 1 => ((l[i]?).map (·.1)).getD 0
structure WholeOk (n : Int) (l : List Cel) : Prop where
  n1 : 1 ≤ n
  n2 : n ≤ 1048576
  len : l.length ≤ 1048576
  rise : ∀ (i : Nat) c, l[i]? = some c → lastK l i < c.1
  top : ∀ (i : Nat) c, l[i]? = some c → c.1 < n
  full : ∀ (i : Nat) c, l[i]? = some c → sameN 1024 c.2 nought = false
set_option maxRecDepth 20000 in
set_option maxHeartbeats 4000000 in
theorem whole05_ok (n : Int) (l : List Cel) (p : Option Addr) (cap : Nat) (w : World) (hi : ImgAt w p l) (h : WholeOk n l) :
    Calls Tryz.prog 28 #[.agg #[.int .i64 n, .slice p l.length cap]] w fun e w' => e = .returned (.int .i64 0) ∧ Below w.heap.size w w' := by
  have z := zero77
  have zh := zeroHeld
  have HI : Hid (ImgAt w p l) := hi
  obtain ⟨n1, n2, hl, hr, ht, hf⟩ := h
  have HR : Hid _ := hr
  have HT : Hid _ := ht
  have HF : Hid _ := hf
  clear hi hr ht hf
  generalize hN : l.length = N at *
  have hX0 := heap_alloc_new w (.cells #[.int .i64 n, .slice p N cap] 24)
  have t1 : decide (n < 1) = false := decide_eq_false (by omega)
  have t2 : decide (1048576 < n) = false := decide_eq_false (by omega)
  have HX : Hid (((w.alloc (.cells #[.int .i64 n, .slice p N cap] 24)).alloc (.cells (blk nought) 79)).heap[w.heap.size + 1]? = some (.cells (blk nought) 79)) := heap_two _ _ _
  have HB : Hid (Below w.heap.size w ((w.alloc (.cells #[.int .i64 n, .slice p N cap] 24)).alloc (.cells (blk nought) 79))) := below_next (below_new _ _) (below_new _ _)
  have HX1 : Hid _ := heap_kept hX0 (below_new _ (.cells (blk nought) 79))
  have c0 : (w.alloc (.cells #[.int .i64 n, .slice p N cap] 24)).cell? ⟨w.heap.size, 0, none⟩ = some (.int .i64 n) := Joins.cell_of_block hX0 0
  clear hX0
  go_enter Tryz.func28, Tryz.ntmps28
  go_wp2
  generalize ((w.alloc (.cells #[.int .i64 n, .slice p N cap] 24)).alloc (.cells (blk nought) 79)) = V at *
  clear c0 t1 t2
  go_loopw [4, 5, 6] (fun s4 s5 _ wx => ∃ i : Nat, i ≤ N ∧ s5 = .int .i64 i ∧ s4 = .int .i64 (lastK l i) ∧ Hid (Below V.heap.size V wx)) (fun _ s5 _ _ => N - (intOf s5).toNat)
  case atStart => exact ⟨0, by omega, rfl, rfl, Below.refl _ _⟩
  case round =>
    obtain ⟨i, hi, rfl, rfl, HW⟩ := hrel
    have hx1 := heap_kept HX1.out HW.out
    have c0 : wr.cell? ⟨w.heap.size, 0, none⟩ = some (.int .i64 n) := Joins.cell_of_block hx1 0
    have c1 : wr.cell? ⟨w.heap.size, 1, none⟩ = some (.slice p N cap) := Joins.cell_of_block hx1 1
    by_cases hi2 : (i : Int) < (N : Int)
    · have hc : l[i]? = some l[i] := List.getElem?_eq_getElem (by omega)
      obtain ⟨b, off, rfl, hlt, hC⟩ := HI.out (by omega)
      obtain ⟨a0, a1⟩ := hC i _ hc
      have hlt0 : b < w.heap.size := hlt
      have hr := HR.out i _ hc
      have ht := HT.out i _ hc
      have hf := HF.out i _ hc
      have HL : Hid (lastK l (i + 1) = (l[i]).1) := by show ((l[i]?).map (·.1)).getD 0 = _; rw [hc]; rfl
      generalize l[i] = cl at *
      have hbw := below_next HB.out HW.out
      have q0 : wr.cell? ⟨b, off + i * 1025, none⟩ = some (.int .i64 cl.1) := (hbw.cell (p := ⟨b, off + i * 1025, none⟩) hlt).trans a0
      have q1 : NumsAt wr .u8 b (off + i * 1025 + 1) cl.2 1024 := a1.later hbw hlt
      have hiN : i < N := by omega
      have HW2 : Hid (Below V.heap.size V (wr.alloc (.cells (celRow cl).toArray 81))) := below_next HW.out (below_new _ _)
      have hH : (wr.alloc (.cells (celRow cl).toArray 81)).heap[wr.heap.size]? = some (.cells (celRow cl).toArray 81) := heap_alloc_new _ _
      have hx2 := heap_kept hx1 (below_new wr (.cells (celRow cl).toArray 81))
      have hz := heap_kept (heap_kept HX.out HW.out) (below_new wr (.cells (celRow cl).toArray 81))
      clear a0 a1 hC hc hlt hbw hx1 HW
      generalize lastK l i = la at *
      go_upto_region 9 with (first | (with_reducible refine isLoadR 81 ?_; refine wpList_ldH rfl (.tmp 25) rfl b (off + i * 1025) cl rfl q0 q1 ?_) | (with_reducible refine isStoreR 81 ?_; refine wpList_stNew 81 rfl (.tmp 6) (.tmp 26) rfl wr.heap.size (celRow cl).toArray (celRow (0, nought)).toArray 81 (cel_info _) (cel_two _ _) (celRow_all _) rfl rfl rfl ?_))
      clear q0 q1 c0 c1
      generalize wr.alloc (.cells (celRow cl).toArray 81) = X at *
      generalize wr.heap.size = gx at *
      have d0 := cel_num hH
      have d1 := cel_blk hH
      have dz := blk_at hz
      have c0 : X.cell? ⟨w.heap.size, 0, none⟩ = some (.int .i64 n) := Joins.cell_of_block hx2 0
      have g1 : decide (cl.1 ≤ la) = false := decide_eq_false (by omega)
      have g2 : decide (n ≤ cl.1) = false := decide_eq_false (by omega)
      clear hH hz hx2 hr ht
      generalize cl.2 = f at *
      generalize cl.1 = q at *
      go_wp2_with (first | (with_reducible refine isLoadR 79 ?_; refine wpList_ldB rfl (.tmp 39) rfl gx 1 f rfl d1 ?_) | (with_reducible refine isLoadR 79 ?_; refine wpList_ldB rfl (.tmp 3) rfl (w.heap.size + 1) 0 nought rfl dz ?_) | (with_reducible refine isEqR 79 79 ?_; refine wpList_eqN Tryz.underlying79 eg77 rfl (.tmp 40) (.tmp 41) rfl f nought false rfl rfl hf ?_))
      exact ⟨⟨i + 1, by omega, by go_num, by rw [HL.out], HW2.out⟩, by simp [intOf]; omega⟩
    · obtain rfl : i = N := by omega
      have HR2 : Hid (Below w.heap.size w wr) := below_next HB.out HW.out
      clear hx1 HW
      generalize lastK l i = la at *
      go_wp2
      go_ret
      exact ⟨rfl, HR2.out⟩
end Go.Proofs.YtlcdpmjdnihocaaGreat
/- An image, read so far that its inodes can be looked at: the document's Open, where the superblock and the log's header are as they must be. -/
namespace Go.Proofs.YtlcdpmjdnihocaaGreat
open Go.RowKit Go.Maps
section
variable {o : Oper} {a : Act} {w : World}
theorem exec_allocR {ty : TypeId} {z : Array Value} (hz : ∀ w, (zeroValue ty).run Tryz.prog w = .ok (.agg z) w) (ho : o.op = .alloc ty) : (execOp a.eval o).run Tryz.prog w = .ok (.value (.pointer (some ⟨w.heap.size, 0, none⟩))) (w.alloc (.cells z ty)) := by
  have z1 := hz w
  unfold execOp
  simp only [ho]
  simp [go_sem, z1]
theorem exec_stR (ty : TypeId) (x y : Operand) (ho : o.op = .store ty x y) (g : Nat) {cs c0 : Array Value} (hx : a.eval x = .pointer (some ⟨g, 0, none⟩)) (hy : a.eval y = .agg cs) {t : TypeId} (hg : w.heap[g]? = some (.cells c0 t)) (hi : (Tryz.prog.info? ty).map (·.size) = some cs.size) (hs : c0.size = cs.size) (h1 : cs.all (·.oneCell') = true) : (execOp a.eval o).run Tryz.prog w = .ok .skip (w.setRow g cs) := by
  unfold execOp
  simp only [ho, hx, hy, Instr.storeAt, Instr.sureAddr, Sem.run_bind, Sem.run_pure, Result.andThen_ok, run_storeVar_row w g t ty c0 cs hg hi hs h1]
end
theorem im_info (n : Int) (p : Option Addr) (N cap : Nat) : (Tryz.prog.info? 24).map (·.size) = some (#[Value.int .i64 n, .slice p N cap] : Array Value).size := by show _ = some 2; kernel_rfl
structure SupOk (b l i : Nat) (im : List Cel) : Prop where
  geo : GeoOk b l i
  sup : ∀ j, j < 1024 → atL im 0 j = supP (layOf b l i) j
  head : ∀ j, j < 4 → atL im 1 j = 0
theorem SupOk.blk {b l i : Nat} {im : List Cel} (h : SupOk b l i im) : blk (atL im 0) = blk (supP (layOf b l i)) := rowN_congr h.sup
theorem wpList_buildDk {ops : Array Oper} {rest : List Oper} {o : Oper} {a : Act} {w : World} {Q : Exit → Act → World → Prop} (hw : Region.wanted o (yielded ops a.tmps) = true) (x0 x1 x2 : Operand) (ho : o.op = .build 106 #[(0, x0), (1, x1), (2, x2)]) (n : Int) (p : Option Addr) (N cap : Nat) (y : Lay)
    (h0 : a.eval x0 = .agg #[.int .i64 n, .slice p N cap]) (h1 : a.eval x1 = .agg (layRow y)) (h2 : a.eval x2 = .agg hd0)
    (h : wpList Tryz.prog ops Q rest (a.put o.dst (.agg (dkRow n p N cap y (.slice none 0 0)))) w) : wpList Tryz.prog ops Q (o :: rest) a w := by
  unfold wpList
  rw [if_pos hw]
  refine .inl ?_
  have z := (zero_of_info (show (Tryz.prog.info? 106).map (fun i => (i.zero, i.size)) = some (some (.agg (dkRow 0 none 0 0 lay0 (.slice none 0 0))), 12) by kernel_rfl)).1 w
  have e : (execOp a.eval o).run Tryz.prog w = .ok (.value (.agg (dkRow n p N cap y (.slice none 0 0)))) w := by
    unfold layRow at h1
    unfold hd0 at h2
    unfold dkRow lay0 at *
    generalize a.eval = E at *
    unfold execOp
    simp only [ho]
    simp [go_sem, h0, h1, h2, z]
  unfold Oper.wp
  rw [e]
  exact h
set_option maxRecDepth 20000 in
set_option maxHeartbeats 8000000 in
theorem open29_ok {b l i : Nat} {n : Int} {im : List Cel} {p : Option Addr} {cap : Nat} {w : World} (hi : ImgAt w p im) (hw : WholeOk n im) (hs : SupOk b l i im) (hbn : (b : Int) ≤ n) (hbyt : ∀ c ∈ im, ∀ i, 0 ≤ c.2 i ∧ c.2 i ≤ 255) :
    Calls Tryz.prog 50 #[.agg #[.int .i64 n, .slice p im.length cap]] w fun e w' => ∃ g, e = .returned (.tuple #[.pointer (some ⟨g, 0, none⟩), .slice none 0 0]) ∧ Aud w' g n im (layOf b l i) ∧ Below w.heap.size w w' := by
  have zl := zeroLay
  have zh := zeroHd
  have HBy : Hid _ := hbyt
  have hlen : im.length < 4611686018427387904 := by have := hw.len; omega
  have HLen : Hid _ := hlen
  have HI : Hid (ImgAt w p im) := hi
  have hX := heap_alloc_new w (.cells #[.int .i64 n, .slice p im.length cap] 24)
  have hbX := below_new w (.cells #[.int .i64 n, .slice p im.length cap] 24)
  have hwh := whole05_ok n im p cap (w.alloc (.cells #[.int .i64 n, .slice p im.length cap] 24)) (hi.later hbX) hw
  have HBk : Hid _ := hs.blk
  have HG : Hid _ := hs.geo
  have HH : Hid _ := hs.head
  have HX : Hid _ := hX
  have HB : Hid _ := hbX
  clear hi hw hs hbyt hX hbX hlen
  obtain ⟨y, hy⟩ : ∃ y, layOf b l i = y := ⟨_, rfl⟩
  have HY : Hid (layOf b l i = y) := hy
  rw [hy] at HBk ⊢
  clear hy
  obtain ⟨N, hN⟩ : ∃ N, im.length = N := ⟨_, rfl⟩
  have HN : Hid (im.length = N) := hN
  rw [hN] at hwh HX HB ⊢
  clear hN
  go_enter Tryz.func50, Tryz.ntmps50
  go_upto_region 1 with fail
  generalize w.alloc (.cells #[.int .i64 n, .slice p N cap] 24) = V0 at *
  go_wp2_with (first | (with_reducible refine isLoadR 24 ?_; refine wpList_ldR 24 Tryz.underlying24 rfl rfl (.tmp 1) rfl w.heap.size rfl #[.int .i64 n, .slice p N cap] 24 (0, 0) (im_info _ _ _ _) HX.out ?_) | (go_at_call 28; fail))
  refine hwh.mono ?_
  rintro e A ⟨rfl, hb⟩
  have HXA : Hid (A.heap[w.heap.size]? = some (.cells #[.int .i64 n, .slice p N cap] 24)) := heap_kept HX.out hb
  have HBA : Hid (Below w.heap.size w A) := below_next HB.out hb
  clear hwh hb HX HB
  have HAt : Hid (∀ (k : Int) (W : World), Below A.heap.size A W → Calls Tryz.prog 76 #[.agg #[.int .i64 n, .slice p N cap], .int .i64 k] W fun e w' => e = .returned (.agg (blk (atL im k))) ∧ Below W.heap.size W w') := fun k W hW => by
    have := at05_any n im p cap k W HLen.out (HI.out.later (below_next HBA.out hW))
    rwa [HN.out] at this
  have HD3 : Hid (∀ W, Calls Tryz.prog 75 #[.agg (blk (supP y)), .int .i64 n] W fun e w' => e = .returned (.tuple #[.agg (layRow y), .int .i64 0]) ∧ Below W.heap.size W w') := fun W => by
    have := dec03_ok HG.out n hbn W
    rwa [HY.out] at this
  have HD7 : Hid (∀ W, Calls Tryz.prog 77 #[.agg (layRow y), .agg (blk (atL im 1))] W fun e w' => e = .returned (.tuple #[.agg hd0, .int .i64 0]) ∧ Below W.heap.size W w') := fun W => by
    have := dec07_none HG.out (atL im 1) HH.out W
    rwa [HY.out] at this
  have HAt0 : Hid (∀ (W : World), Below A.heap.size A W → Calls Tryz.prog 76 #[.agg #[.int .i64 n, .slice p N cap], .int .i64 0] W fun e w' => e = .returned (.agg (blk (supP y))) ∧ Below W.heap.size W w') := fun W hW => by
    have := HAt.out 0 W hW
    rwa [HBk.out] at this
  have hLg : y.logAt = 1 := by rw [← HY.out]; rfl
  go_upto_region 3 with fail
  go_cut [4, 5] from 11 to 18 (fun sp se wc => ∃ gH : Nat, sp = .pointer (some ⟨gH, 0, none⟩) ∧ se = .int .i64 0 ∧ Hid (Below A.heap.size A wc ∧ A.heap.size ≤ gH ∧ wc.heap[gH]? = some (.cells (layRow y) 52)))
  case first =>
    refine wp_region_tree (S := fun u => Below A.heap.size A u) (rdT 0 (rdT 2 (rdT 3 (altT [(1, (altT [(4, (rdT 5 (rdT 6 (rdT 7 (altT [(8, (altT [(9, (rdT 10 finT))]))]))))), (8, (altT [(4, (rdT 5 (rdT 6 (rdT 7 (altT [(9, (rdT 10 finT))])))))]))])), (8, (altT [(1, (altT [(4, (rdT 5 (rdT 6 (rdT 7 (altT [(9, (rdT 10 finT))])))))]))]))])))) (by kernel_rfl) rfl (by kernel_rfl) (fun d _ _ _ _ h => by cases d <;> exact h) (Below.refl _ _).drew ?_
    have hq : Below A.heap.size A A.drew := (Below.refl _ _).drew
    generalize A.drew = V at *
    refine wpT_yield (v := .agg #[.int .i64 n, .slice p N cap]) rfl rfl (fun u hu => run_ldR 24 Tryz.underlying24 rfl (.tmp 1) rfl w.heap.size rfl (heap_kept HXA.out hu) (im_info _ _ _ _)) ?_
    simp only [Act.put, List.setIfInBounds_toArray, List.set_cons_succ, List.set_cons_zero]
    refine wpT_yield (v := .pointer (some ⟨w.heap.size, 0, none⟩)) rfl rfl (fun u _ => by go_simp) ?_
    simp only [Act.put, List.setIfInBounds_toArray, List.set_cons_succ, List.set_cons_zero]
    refine wpT_yield (v := .int .i64 n) rfl rfl (fun u hu => by have c0 : u.cell? ⟨w.heap.size, 0, none⟩ = some (.int .i64 n) := Joins.cell_of_block (heap_kept HXA.out hu) 0; go_simp) ?_
    simp only [Act.put, List.setIfInBounds_toArray, List.set_cons_succ, List.set_cons_zero]
    refine wpT_call rfl rfl 76 _ _ rfl Tryz.call76 [.agg #[.int .i64 n, .slice p N cap], .int .i64 0] rfl ?_ ?_
    · refine Calls.mono (HAt0.out _ hq) ?_
      rintro e1 X ⟨rfl, hbX⟩
      have hqX := below_next hq hbX
      refine ⟨_, rfl, hqX, ?_⟩
      simp only [Act.put, List.setIfInBounds_toArray, List.set_cons_succ, List.set_cons_zero]
      refine wpT_call rfl rfl 75 _ _ rfl Tryz.call75 [.agg (blk (supP y)), .int .i64 n] rfl ?_ ?_
      · refine Calls.mono (HD3.out _) ?_
        rintro e2 Y ⟨rfl, hbY⟩
        have hqY := below_next hqX hbY
        refine ⟨_, rfl, hqY, ?_⟩
        simp only [Act.put, List.setIfInBounds_toArray, List.set_cons_succ, List.set_cons_zero]
        refine wpT_yield (v := .tuple #[.agg (layRow y), .int .i64 0]) rfl rfl (fun u _ => exec_mv rfl rfl) ?_
        simp only [Act.put, List.setIfInBounds_toArray, List.set_cons_succ, List.set_cons_zero]
        refine wpT_yield (v := .agg (layRow y)) rfl rfl (fun u _ => by go_simp) ?_
        simp only [Act.put, List.setIfInBounds_toArray, List.set_cons_succ, List.set_cons_zero]
        refine wpT_yield (v := .int .i64 0) rfl rfl (fun u _ => by go_simp) ?_
        simp only [Act.put, List.setIfInBounds_toArray, List.set_cons_succ, List.set_cons_zero]
        refine wpT_make (v := .pointer (some ⟨Y.heap.size, 0, none⟩)) (w' := Y.alloc (.cells (layRow lay0) 52)) rfl rfl (exec_allocR zeroLay rfl) (hqY.alloc hqY.size _) ?_ ?_
        · simp only [Act.put, List.setIfInBounds_toArray, List.set_cons_succ, List.set_cons_zero]
          have hgA : (Y.alloc (.cells (layRow lay0) 52)).heap[Y.heap.size]? = some (.cells (layRow lay0) 52) := heap_alloc_new _ _
          have hqA : Below A.heap.size A (Y.alloc (.cells (layRow lay0) 52)) := hqY.alloc hqY.size _
          refine wpT_do (w' := (Y.alloc (.cells (layRow lay0) 52)).setRow Y.heap.size (layRow y)) rfl rfl (exec_stR 52 (.tmp 4) (.tmp 17) rfl Y.heap.size rfl rfl hgA (lay_info _) (lay_two _ _) (lay_one _)) (hqA.trans ((Fr.setRow (Y.alloc (.cells (layRow lay0) 52)) Y.heap.size _).below (fun j q => by have := hqY.size; omega) hqA.size)) ?_ wpT_stop
          simp only [Act.put]
          refine wpT_yield (v := .int .i64 0) rfl rfl (fun u _ => by go_simp) ?_
          simp only [Act.put, List.setIfInBounds_toArray, List.set_cons_succ, List.set_cons_zero]
          refine wpT_fin ?_
          have HRel : Hid (Below A.heap.size A ((Y.alloc (.cells (layRow lay0) 52)).setRow Y.heap.size (layRow y)) ∧ A.heap.size ≤ Y.heap.size ∧ ((Y.alloc (.cells (layRow lay0) 52)).setRow Y.heap.size (layRow y)).heap[Y.heap.size]? = some (.cells (layRow y) 52)) := ⟨hqA.trans ((Fr.setRow (Y.alloc (.cells (layRow lay0) 52)) Y.heap.size _).below (fun j q => by have := hqY.size; omega) hqA.size), hqY.size, setRow_heap _ _ _ _ _ _ hgA⟩
          generalize (Y.alloc (.cells (layRow lay0) 52)).setRow Y.heap.size (layRow y) = ZZ at HRel ⊢
          go_wp2_with fail
          go_meet
          case rel => exact ⟨_, rfl, rfl, HRel.out⟩
        · exact wpT_stop
      refine wpT_make (v := .pointer (some ⟨X.heap.size, 0, none⟩)) (w' := X.alloc (.cells (layRow lay0) 52)) rfl rfl (exec_allocR zeroLay rfl) (hqX.alloc hqX.size _) ?_ ?_
      · simp only [Act.put, List.setIfInBounds_toArray, List.set_cons_succ, List.set_cons_zero]
        have hqA : Below A.heap.size A (X.alloc (.cells (layRow lay0) 52)) := hqX.alloc hqX.size _
        refine wpT_call rfl rfl 75 _ _ rfl Tryz.call75 [.agg (blk (supP y)), .int .i64 n] rfl ?_ ?_
        · refine Calls.mono (HD3.out _) ?_
          rintro e2 Y ⟨rfl, hbY⟩
          have hqY := below_next hqA hbY
          refine ⟨_, rfl, hqY, ?_⟩
          simp only [Act.put, List.setIfInBounds_toArray, List.set_cons_succ, List.set_cons_zero]
          refine wpT_yield (v := .tuple #[.agg (layRow y), .int .i64 0]) rfl rfl (fun u _ => exec_mv rfl rfl) ?_
          simp only [Act.put, List.setIfInBounds_toArray, List.set_cons_succ, List.set_cons_zero]
          refine wpT_yield (v := .agg (layRow y)) rfl rfl (fun u _ => by go_simp) ?_
          simp only [Act.put, List.setIfInBounds_toArray, List.set_cons_succ, List.set_cons_zero]
          refine wpT_yield (v := .int .i64 0) rfl rfl (fun u _ => by go_simp) ?_
          simp only [Act.put, List.setIfInBounds_toArray, List.set_cons_succ, List.set_cons_zero]
          have hgA : Y.heap[X.heap.size]? = some (.cells (layRow lay0) 52) := heap_kept (heap_alloc_new _ _) hbY
          refine wpT_do (w' := Y.setRow X.heap.size (layRow y)) rfl rfl (exec_stR 52 (.tmp 4) (.tmp 17) rfl X.heap.size rfl rfl hgA (lay_info _) (lay_two _ _) (lay_one _)) (hqY.trans ((Fr.setRow Y X.heap.size _).below (fun j q => by have := hqX.size; omega) hqY.size)) ?_ wpT_stop
          simp only [Act.put]
          refine wpT_yield (v := .int .i64 0) rfl rfl (fun u _ => by go_simp) ?_
          simp only [Act.put, List.setIfInBounds_toArray, List.set_cons_succ, List.set_cons_zero]
          refine wpT_fin ?_
          have HRel : Hid (Below A.heap.size A (Y.setRow X.heap.size (layRow y)) ∧ A.heap.size ≤ X.heap.size ∧ (Y.setRow X.heap.size (layRow y)).heap[X.heap.size]? = some (.cells (layRow y) 52)) := ⟨hqY.trans ((Fr.setRow Y X.heap.size _).below (fun j q => by have := hqX.size; omega) hqY.size), hqX.size, setRow_heap _ _ _ _ _ _ hgA⟩
          generalize Y.setRow X.heap.size (layRow y) = ZZ at HRel ⊢
          go_wp2_with fail
          go_meet
          case rel => exact ⟨_, rfl, rfl, HRel.out⟩
        · exact wpT_stop
      · exact wpT_stop
    refine wpT_make (v := .pointer (some ⟨V.heap.size, 0, none⟩)) (w' := V.alloc (.cells (layRow lay0) 52)) rfl rfl (exec_allocR zeroLay rfl) (hq.alloc hq.size _) ?_ ?_
    · simp only [Act.put, List.setIfInBounds_toArray, List.set_cons_succ, List.set_cons_zero]
      have hqA : Below A.heap.size A (V.alloc (.cells (layRow lay0) 52)) := hq.alloc hq.size _
      refine wpT_call rfl rfl 76 _ _ rfl Tryz.call76 [.agg #[.int .i64 n, .slice p N cap], .int .i64 0] rfl ?_ ?_
      · refine Calls.mono (HAt0.out _ hqA) ?_
        rintro e1 X ⟨rfl, hbX⟩
        have hqX := below_next hqA hbX
        refine ⟨_, rfl, hqX, ?_⟩
        simp only [Act.put, List.setIfInBounds_toArray, List.set_cons_succ, List.set_cons_zero]
        refine wpT_call rfl rfl 75 _ _ rfl Tryz.call75 [.agg (blk (supP y)), .int .i64 n] rfl ?_ ?_
        · refine Calls.mono (HD3.out _) ?_
          rintro e2 Y ⟨rfl, hbY⟩
          have hqY := below_next hqX hbY
          refine ⟨_, rfl, hqY, ?_⟩
          simp only [Act.put, List.setIfInBounds_toArray, List.set_cons_succ, List.set_cons_zero]
          refine wpT_yield (v := .tuple #[.agg (layRow y), .int .i64 0]) rfl rfl (fun u _ => exec_mv rfl rfl) ?_
          simp only [Act.put, List.setIfInBounds_toArray, List.set_cons_succ, List.set_cons_zero]
          refine wpT_yield (v := .agg (layRow y)) rfl rfl (fun u _ => by go_simp) ?_
          simp only [Act.put, List.setIfInBounds_toArray, List.set_cons_succ, List.set_cons_zero]
          refine wpT_yield (v := .int .i64 0) rfl rfl (fun u _ => by go_simp) ?_
          simp only [Act.put, List.setIfInBounds_toArray, List.set_cons_succ, List.set_cons_zero]
          have hgA : Y.heap[V.heap.size]? = some (.cells (layRow lay0) 52) := heap_kept (heap_kept (heap_alloc_new _ _) hbX) hbY
          refine wpT_do (w' := Y.setRow V.heap.size (layRow y)) rfl rfl (exec_stR 52 (.tmp 4) (.tmp 17) rfl V.heap.size rfl rfl hgA (lay_info _) (lay_two _ _) (lay_one _)) (hqY.trans ((Fr.setRow Y V.heap.size _).below (fun j q => by have := hq.size; omega) hqY.size)) ?_ wpT_stop
          simp only [Act.put]
          refine wpT_yield (v := .int .i64 0) rfl rfl (fun u _ => by go_simp) ?_
          simp only [Act.put, List.setIfInBounds_toArray, List.set_cons_succ, List.set_cons_zero]
          refine wpT_fin ?_
          have HRel : Hid (Below A.heap.size A (Y.setRow V.heap.size (layRow y)) ∧ A.heap.size ≤ V.heap.size ∧ (Y.setRow V.heap.size (layRow y)).heap[V.heap.size]? = some (.cells (layRow y) 52)) := ⟨hqY.trans ((Fr.setRow Y V.heap.size _).below (fun j q => by have := hq.size; omega) hqY.size), hq.size, setRow_heap _ _ _ _ _ _ hgA⟩
          generalize Y.setRow V.heap.size (layRow y) = ZZ at HRel ⊢
          go_wp2_with fail
          go_meet
          case rel => exact ⟨_, rfl, rfl, HRel.out⟩
        · exact wpT_stop
      · exact wpT_stop
    · exact wpT_stop
  case rest =>
    obtain ⟨gy, rfl, rfl, HR⟩ := hcut
    have HXB : Hid (wc.heap[w.heap.size]? = some (.cells #[.int .i64 n, .slice p N cap] 24)) := heap_kept HXA.out HR.out.1
    have HYB : Hid (wc.heap[gy]? = some (.cells (layRow y) 52)) := HR.out.2.2
    have HBB : Hid (Below w.heap.size w wc) := below_next HBA.out HR.out.1
    have HAt1 : Hid (∀ (W : World), Below wc.heap.size wc W → Calls Tryz.prog 76 #[.agg #[.int .i64 n, .slice p N cap], .int .i64 1] W fun e w' => e = .returned (.agg (blk (atL im 1))) ∧ Below W.heap.size W w') := fun W hW => HAt.out 1 W (below_next HR.out.1 hW)
    have HL3 : Hid (∀ u : World, Below wc.heap.size wc u → u.cell? ⟨gy, 3, none⟩ = some (.int .i64 1)) := fun u hu => by rw [← hLg]; exact Joins.cell_of_block (heap_kept HYB.out hu) 3
    clear HAt HAt0 HD3 HR HXA HBA
    generalize wc = A2 at *
    go_upto_region 6 with fail
    go_cut [6, 5] from 22 to 30 (fun sp se wc => ∃ gH : Nat, sp = .pointer (some ⟨gH, 0, none⟩) ∧ se = .int .i64 0 ∧ Hid (Below A2.heap.size A2 wc ∧ A2.heap.size ≤ gH ∧ wc.heap[gH]? = some (.cells hd0 104)))
    case first =>
      refine wp_region_tree (S := fun u => Below A2.heap.size A2 u) (rdT 0 (rdT 1 (rdT 2 (rdT 3 (altT [(4, (altT [(5, (rdT 6 (rdT 7 (rdT 8 (altT [(9, (altT [(10, (rdT 11 finT))]))]))))), (9, (altT [(5, (rdT 6 (rdT 7 (rdT 8 (altT [(10, (rdT 11 finT))])))))]))])), (9, (altT [(4, (altT [(5, (rdT 6 (rdT 7 (rdT 8 (altT [(10, (rdT 11 finT))])))))]))]))]))))) (by kernel_rfl) rfl (by kernel_rfl) (fun d _ _ _ _ h => by cases d <;> exact h) (Below.refl _ _).drew ?_
      have hq : Below A2.heap.size A2 A2.drew := (Below.refl _ _).drew
      generalize A2.drew = V at *
      refine wpT_yield (v := .agg (layRow y)) rfl rfl (fun u hu => run_ldR 52 Tryz.underlying52 rfl (.tmp 4) rfl gy rfl (heap_kept HYB.out hu) (lay_info _)) ?_
      simp only [Act.put, List.setIfInBounds_toArray, List.set_cons_succ, List.set_cons_zero]
      refine wpT_yield (v := .agg #[.int .i64 n, .slice p N cap]) rfl rfl (fun u hu => run_ldR 24 Tryz.underlying24 rfl (.tmp 1) rfl w.heap.size rfl (heap_kept HXB.out hu) (im_info _ _ _ _)) ?_
      simp only [Act.put, List.setIfInBounds_toArray, List.set_cons_succ, List.set_cons_zero]
      refine wpT_yield (v := .pointer (some ⟨gy, 3, none⟩)) rfl rfl (fun u _ => by go_simp) ?_
      simp only [Act.put, List.setIfInBounds_toArray, List.set_cons_succ, List.set_cons_zero]
      refine wpT_yield (v := .int .i64 1) rfl rfl (fun u hu => by have := HL3.out u hu; go_simp) ?_
      simp only [Act.put, List.setIfInBounds_toArray, List.set_cons_succ, List.set_cons_zero]
      refine wpT_call rfl rfl 76 _ _ rfl Tryz.call76 [.agg #[.int .i64 n, .slice p N cap], .int .i64 1] rfl ?_ ?_
      · refine Calls.mono (HAt1.out _ hq) ?_
        rintro e1 X ⟨rfl, hbX⟩
        have hqX := below_next hq hbX
        refine ⟨_, rfl, hqX, ?_⟩
        simp only [Act.put, List.setIfInBounds_toArray, List.set_cons_succ, List.set_cons_zero]
        refine wpT_call rfl rfl 77 _ _ rfl Tryz.call77 [.agg (layRow y), .agg (blk (atL im 1))] rfl ?_ ?_
        · refine Calls.mono (HD7.out _) ?_
          rintro e2 Y ⟨rfl, hbY⟩
          have hqY := below_next hqX hbY
          refine ⟨_, rfl, hqY, ?_⟩
          simp only [Act.put, List.setIfInBounds_toArray, List.set_cons_succ, List.set_cons_zero]
          refine wpT_yield (v := .tuple #[.agg hd0, .int .i64 0]) rfl rfl (fun u _ => exec_mv rfl rfl) ?_
          simp only [Act.put, List.setIfInBounds_toArray, List.set_cons_succ, List.set_cons_zero]
          refine wpT_yield (v := .agg hd0) rfl rfl (fun u _ => by go_simp) ?_
          simp only [Act.put, List.setIfInBounds_toArray, List.set_cons_succ, List.set_cons_zero]
          refine wpT_yield (v := .int .i64 0) rfl rfl (fun u _ => by go_simp) ?_
          simp only [Act.put, List.setIfInBounds_toArray, List.set_cons_succ, List.set_cons_zero]
          refine wpT_make (v := .pointer (some ⟨Y.heap.size, 0, none⟩)) (w' := Y.alloc (.cells hd0 104)) rfl rfl (exec_allocR zeroHd rfl) (hqY.alloc hqY.size _) ?_ ?_
          · simp only [Act.put, List.setIfInBounds_toArray, List.set_cons_succ, List.set_cons_zero]
            have hgA : (Y.alloc (.cells hd0 104)).heap[Y.heap.size]? = some (.cells hd0 104) := heap_alloc_new _ _
            have hqA : Below A2.heap.size A2 (Y.alloc (.cells hd0 104)) := hqY.alloc hqY.size _
            refine wpT_do (w' := (Y.alloc (.cells hd0 104)).setRow Y.heap.size hd0) rfl rfl (exec_stR 104 (.tmp 6) (.tmp 29) rfl Y.heap.size rfl rfl hgA hd_info rfl hd_one) (hqA.trans ((Fr.setRow (Y.alloc (.cells hd0 104)) Y.heap.size _).below (fun j q => by have := hqY.size; omega) hqA.size)) ?_ wpT_stop
            simp only [Act.put]
            refine wpT_yield (v := .int .i64 0) rfl rfl (fun u _ => by go_simp) ?_
            simp only [Act.put, List.setIfInBounds_toArray, List.set_cons_succ, List.set_cons_zero]
            refine wpT_fin ?_
            have HRel : Hid (Below A2.heap.size A2 ((Y.alloc (.cells hd0 104)).setRow Y.heap.size hd0) ∧ A2.heap.size ≤ Y.heap.size ∧ ((Y.alloc (.cells hd0 104)).setRow Y.heap.size hd0).heap[Y.heap.size]? = some (.cells hd0 104)) := ⟨hqA.trans ((Fr.setRow (Y.alloc (.cells hd0 104)) Y.heap.size _).below (fun j q => by have := hqY.size; omega) hqA.size), hqY.size, setRow_heap _ _ _ _ _ _ hgA⟩
            generalize (Y.alloc (.cells hd0 104)).setRow Y.heap.size hd0 = ZZ at HRel ⊢
            go_wp2_with fail
            go_meet
            case rel => exact ⟨_, rfl, rfl, HRel.out⟩
          · exact wpT_stop
        refine wpT_make (v := .pointer (some ⟨X.heap.size, 0, none⟩)) (w' := X.alloc (.cells hd0 104)) rfl rfl (exec_allocR zeroHd rfl) (hqX.alloc hqX.size _) ?_ ?_
        · simp only [Act.put, List.setIfInBounds_toArray, List.set_cons_succ, List.set_cons_zero]
          have hqA : Below A2.heap.size A2 (X.alloc (.cells hd0 104)) := hqX.alloc hqX.size _
          refine wpT_call rfl rfl 77 _ _ rfl Tryz.call77 [.agg (layRow y), .agg (blk (atL im 1))] rfl ?_ ?_
          · refine Calls.mono (HD7.out _) ?_
            rintro e2 Y ⟨rfl, hbY⟩
            have hqY := below_next hqA hbY
            refine ⟨_, rfl, hqY, ?_⟩
            simp only [Act.put, List.setIfInBounds_toArray, List.set_cons_succ, List.set_cons_zero]
            refine wpT_yield (v := .tuple #[.agg hd0, .int .i64 0]) rfl rfl (fun u _ => exec_mv rfl rfl) ?_
            simp only [Act.put, List.setIfInBounds_toArray, List.set_cons_succ, List.set_cons_zero]
            refine wpT_yield (v := .agg hd0) rfl rfl (fun u _ => by go_simp) ?_
            simp only [Act.put, List.setIfInBounds_toArray, List.set_cons_succ, List.set_cons_zero]
            refine wpT_yield (v := .int .i64 0) rfl rfl (fun u _ => by go_simp) ?_
            simp only [Act.put, List.setIfInBounds_toArray, List.set_cons_succ, List.set_cons_zero]
            have hgA : Y.heap[X.heap.size]? = some (.cells hd0 104) := heap_kept (heap_alloc_new _ _) hbY
            refine wpT_do (w' := Y.setRow X.heap.size hd0) rfl rfl (exec_stR 104 (.tmp 6) (.tmp 29) rfl X.heap.size rfl rfl hgA hd_info rfl hd_one) (hqY.trans ((Fr.setRow Y X.heap.size _).below (fun j q => by have := hqX.size; omega) hqY.size)) ?_ wpT_stop
            simp only [Act.put]
            refine wpT_yield (v := .int .i64 0) rfl rfl (fun u _ => by go_simp) ?_
            simp only [Act.put, List.setIfInBounds_toArray, List.set_cons_succ, List.set_cons_zero]
            refine wpT_fin ?_
            have HRel : Hid (Below A2.heap.size A2 (Y.setRow X.heap.size hd0) ∧ A2.heap.size ≤ X.heap.size ∧ (Y.setRow X.heap.size hd0).heap[X.heap.size]? = some (.cells hd0 104)) := ⟨hqY.trans ((Fr.setRow Y X.heap.size _).below (fun j q => by have := hqX.size; omega) hqY.size), hqX.size, setRow_heap _ _ _ _ _ _ hgA⟩
            generalize Y.setRow X.heap.size hd0 = ZZ at HRel ⊢
            go_wp2_with fail
            go_meet
            case rel => exact ⟨_, rfl, rfl, HRel.out⟩
          · exact wpT_stop
        · exact wpT_stop
      refine wpT_make (v := .pointer (some ⟨V.heap.size, 0, none⟩)) (w' := V.alloc (.cells hd0 104)) rfl rfl (exec_allocR zeroHd rfl) (hq.alloc hq.size _) ?_ ?_
      · simp only [Act.put, List.setIfInBounds_toArray, List.set_cons_succ, List.set_cons_zero]
        have hqA : Below A2.heap.size A2 (V.alloc (.cells hd0 104)) := hq.alloc hq.size _
        refine wpT_call rfl rfl 76 _ _ rfl Tryz.call76 [.agg #[.int .i64 n, .slice p N cap], .int .i64 1] rfl ?_ ?_
        · refine Calls.mono (HAt1.out _ hqA) ?_
          rintro e1 X ⟨rfl, hbX⟩
          have hqX := below_next hqA hbX
          refine ⟨_, rfl, hqX, ?_⟩
          simp only [Act.put, List.setIfInBounds_toArray, List.set_cons_succ, List.set_cons_zero]
          refine wpT_call rfl rfl 77 _ _ rfl Tryz.call77 [.agg (layRow y), .agg (blk (atL im 1))] rfl ?_ ?_
          · refine Calls.mono (HD7.out _) ?_
            rintro e2 Y ⟨rfl, hbY⟩
            have hqY := below_next hqX hbY
            refine ⟨_, rfl, hqY, ?_⟩
            simp only [Act.put, List.setIfInBounds_toArray, List.set_cons_succ, List.set_cons_zero]
            refine wpT_yield (v := .tuple #[.agg hd0, .int .i64 0]) rfl rfl (fun u _ => exec_mv rfl rfl) ?_
            simp only [Act.put, List.setIfInBounds_toArray, List.set_cons_succ, List.set_cons_zero]
            refine wpT_yield (v := .agg hd0) rfl rfl (fun u _ => by go_simp) ?_
            simp only [Act.put, List.setIfInBounds_toArray, List.set_cons_succ, List.set_cons_zero]
            refine wpT_yield (v := .int .i64 0) rfl rfl (fun u _ => by go_simp) ?_
            simp only [Act.put, List.setIfInBounds_toArray, List.set_cons_succ, List.set_cons_zero]
            have hgA : Y.heap[V.heap.size]? = some (.cells hd0 104) := heap_kept (heap_kept (heap_alloc_new _ _) hbX) hbY
            refine wpT_do (w' := Y.setRow V.heap.size hd0) rfl rfl (exec_stR 104 (.tmp 6) (.tmp 29) rfl V.heap.size rfl rfl hgA hd_info rfl hd_one) (hqY.trans ((Fr.setRow Y V.heap.size _).below (fun j q => by have := hq.size; omega) hqY.size)) ?_ wpT_stop
            simp only [Act.put]
            refine wpT_yield (v := .int .i64 0) rfl rfl (fun u _ => by go_simp) ?_
            simp only [Act.put, List.setIfInBounds_toArray, List.set_cons_succ, List.set_cons_zero]
            refine wpT_fin ?_
            have HRel : Hid (Below A2.heap.size A2 (Y.setRow V.heap.size hd0) ∧ A2.heap.size ≤ V.heap.size ∧ (Y.setRow V.heap.size hd0).heap[V.heap.size]? = some (.cells hd0 104)) := ⟨hqY.trans ((Fr.setRow Y V.heap.size _).below (fun j q => by have := hq.size; omega) hqY.size), hq.size, setRow_heap _ _ _ _ _ _ hgA⟩
            generalize Y.setRow V.heap.size hd0 = ZZ at HRel ⊢
            go_wp2_with fail
            go_meet
            case rel => exact ⟨_, rfl, rfl, HRel.out⟩
          · exact wpT_stop
        · exact wpT_stop
      · exact wpT_stop
    case rest =>
      obtain ⟨gh, rfl, rfl, HR⟩ := hcut
      have hxc := heap_kept HXB.out HR.out.1
      have hyc := heap_kept HYB.out HR.out.1
      have hhc := HR.out.2.2
      have HBC : Hid (Below w.heap.size w wc) := below_next HBB.out HR.out.1
      have HF : Hid (Aud (wc.alloc (.cells (dkRow n p N cap y (.slice none 0 0)) 106)) wc.heap.size n im y) := by
        refine ⟨⟨p, cap, none, 0, ?_, HI.out.later (below_next HBC.out (below_new _ _))⟩, HLen.out, HBy.out⟩
        rw [HN.out]
        exact heap_alloc_new _ _
      have HBF : Hid (Below w.heap.size w (wc.alloc (.cells (dkRow n p N cap y (.slice none 0 0)) 106))) := below_next HBC.out (below_new _ _)
      clear HR HXB HYB HBB HAt1 HD7 HBC
      go_wp2_with (first | (with_reducible refine isLoadR 24 ?_; refine wpList_ldR 24 Tryz.underlying24 rfl rfl (.tmp 1) rfl w.heap.size rfl #[.int .i64 n, .slice p N cap] 24 (0, 0) (im_info _ _ _ _) hxc ?_) | (with_reducible refine isLoadR 52 ?_; refine wpList_ldR 52 Tryz.underlying52 rfl rfl (.tmp 4) rfl gy rfl (layRow y) 52 (0, 0) (lay_info _) hyc ?_) | (with_reducible refine isLoadR 104 ?_; refine wpList_ldR 104 Tryz.underlying104 rfl rfl (.tmp 6) rfl gh rfl hd0 104 (0, 0) hd_info hhc ?_) | (with_reducible refine isBuildR 106 ?_; refine wpList_buildDk rfl (.tmp 34) (.tmp 35) (.tmp 36) rfl n p N cap y rfl rfl rfl ?_))
      go_ret2
      exact ⟨_, rfl, HF.out, HBF.out⟩
end Go.Proofs.YtlcdpmjdnihocaaGreat
/- A disk looked at, where nothing is wrong with it: its state; the document's Look, over what is said of each inode's own contents. -/
namespace Go.Proofs.YtlcdpmjdnihocaaGreat
open Go.RowKit Go.Maps
structure It where
  i : Int
  k : Int
  lk : Int
  s : Int
  b : Int
  p : Option Addr
  m : Nat
  c : Nat
  q : Option Addr
  n : Nat
  d : Nat
def itCells (t : It) : List Value := [.int .i64 t.i, .int .u16 t.k, .int .i64 t.lk, .int .i64 t.s, .int .i64 t.b, .slice t.p t.m t.c, .slice t.q t.n t.d]
theorem itCells_len (t : It) : (itCells t).length = 7 := rfl
theorem itCells_one (t : It) : ∀ u ∈ itCells t, u.oneCell' = true := fun u hu => by
  simp only [itCells, List.mem_cons, List.not_mem_nil, or_false] at hu
  rcases hu with rfl | rfl | rfl | rfl | rfl | rfl | rfl <;> rfl
theorem infoIt : (Tryz.prog.info? 66).map (fun i => (i.zero, i.size, i.bytes)) = some (some (.agg (itRow 0 0 0 0 0 (.slice none 0 0) (.slice none 0 0))), 7, 88) := by kernel_rfl
theorem sizeIs : (Tryz.prog.info? 56).map (·.size) = some 1 := by kernel_rfl
/-- All blocks but those of items and of states are as they were. -/
def Keep (w w' : World) : Prop := ∀ (g : Nat) cs t fr, w.heap[g]? = some (.cells cs t fr) → t ≠ 66 → t ≠ 58 → w'.heap[g]? = some (.cells cs t fr)
theorem Keep.trans {a b c : World} (h : Keep a b) (k : Keep b c) : Keep a c := fun g cs t fr h1 h2 h3 => k g cs t fr (h g cs t fr h1 h2 h3) h2 h3
theorem Keep.below {w w' : World} (h : Below w.heap.size w w') : Keep w w' := fun g _ _ _ h1 _ _ => (h.block g (Array.getElem?_eq_some_iff.1 h1).1).trans h1
theorem Keep.fr {w w' : World} {T : Nat → Prop} (h : Fr T w w') (hT : ∀ (g : Nat) (cs : Array Value) (t : TypeId) (fr : Nat × Nat), T g → w.heap[g]? = some (.cells cs t fr) → t = 66 ∨ t = 58) : Keep w w' := fun g cs t fr h1 h2 h3 => (h.block g (Array.getElem?_eq_some_iff.1 h1).1 fun q => by rcases hT g cs t fr q h1 with e | e; exact h2 e; exact h3 e).trans h1
theorem own_keep {w w' : World} {base e size : Nat} {v : Value} {n : Nat} {xs : List Value} (h : w.ownsRow base e size v n xs) (hk : Keep w w') (h1 : e ≠ 66) (h2 : e ≠ 58) : w'.ownsRow base e size v n xs := by
  obtain ⟨ha, hb⟩ := h
  refine ⟨ha, ?_⟩
  rcases hb with hb | ⟨g, cap, cur, hv, hg, hh, r⟩
  · exact .inl hb
  · exact .inr ⟨g, cap, cur, hv, hg, hk g _ _ _ hh h1 h2, r⟩
def ofFl (t : It) (x : Fl) : Prop := t.i = x.inum ∧ t.k = x.k ∧ t.lk = x.lk ∧ t.s = x.s ∧ t.b = x.b
/-- The items so far. -/
structure LkS (A W : World) (R : World → Fl → It → Prop) (L : List Fl) (gs k : Nat) (v : Value) (fr sp : Int) (ts : List It) : Prop where
  row : W.heap[gs]? = some (.cells #[v, .int .i64 fr, .int .i64 sp] 58)
  own : OwnG itCells 66 7 W A.heap.size v ts
  len : ts.length = k
  its : ∀ (j : Nat) t, ts[j]? = some t → ∃ x, L[j]? = some x ∧ ofFl t x ∧ R W x t
  far : A.heap.size ≤ gs
  bel : Below A.heap.size A W
def KeepR (R : World → Fl → It → Prop) : Prop := ∀ W W' x t, Keep W W' → R W x t → R W' x t
theorem LkS.call {A W W' : World} {R : World → Fl → It → Prop} {L : List Fl} {gs k : Nat} {v : Value} {fr sp : Int} {ts : List It} (h : LkS A W R L gs k v fr sp ts) (hk : KeepR R) (hb : Below W.heap.size W W') : LkS A W' R L gs k v fr sp ts :=
  ⟨heap_kept h.row hb, h.own.later hb, h.len, fun j t ht => by obtain ⟨x, h1, h2, h3⟩ := h.its j t ht; exact ⟨x, h1, h2, hk _ _ _ _ (Keep.below hb) h3⟩, h.far, below_next h.bel hb⟩
theorem LkS.cell {A W : World} {R : World → Fl → It → Prop} {L : List Fl} {gs k : Nat} {v : Value} {fr sp : Int} {ts : List It} (h : LkS A W R L gs k v fr sp ts) (hk : KeepR R) (j : Nat) (u : Value) (v' : Value) (fr' : Int) (hr : (#[v, .int .i64 fr, .int .i64 sp] : Array Value).setIfInBounds j u = #[v', .int .i64 fr', .int .i64 sp]) {ts' : List It} {k' : Nat} (ho : OwnG itCells 66 7 W A.heap.size v' ts') (hl : ts'.length = k') (hi : ∀ (j : Nat) t, ts'[j]? = some t → ∃ x, L[j]? = some x ∧ ofFl t x ∧ R W x t) : LkS A (W.setCell ⟨gs, j, none⟩ u) R L gs k' v' fr' sp ts' := by
  have hF := Fr.setCell W gs j u
  have hK : Keep W (W.setCell ⟨gs, j, none⟩ u) := Keep.fr hF fun g cs t f q hg => by
    subst q
    rw [h.row] at hg
    injection hg with hg
    injection hg with _ h2
    exact .inr h2.symm
  refine ⟨?_, own_frame ho hF fun b hb hT => own_ne ho h.row (by decide) (hT ▸ hb), hl, fun j t ht => ?_, h.far, h.bel.trans (hF.below (fun j q => by have := h.far; omega) h.bel.size)⟩
  · rw [heap_setCell_same _ _ _ _ _ _ h.row, hr]
  · obtain ⟨x, h1, h2, h3⟩ := hi j t ht
    exact ⟨x, h1, h2, hk _ _ _ _ hK h3⟩
theorem LkS.push {A W : World} {R : World → Fl → It → Prop} {L : List Fl} {gs k : Nat} {v : Value} {fr sp : Int} {ts : List It} (h : LkS A W R L gs k v fr sp ts) (hk : KeepR R) (hn : k ≤ 1000000) (t : It) (x : Fl) (hx : L[k]? = some x) (ht : ofFl t x) (hr : R W x t) (ty : TypeId) :
    ∃ p n c w', (Builtin.append_ #[56, 56] ty #[v, .slice (some ⟨W.heap.size, 0, none⟩) 1 1]).run Tryz.prog (W.alloc (.cells (itCells t).toArray 66)) = .ok (.slice p n c) w' ∧ w'.cell? ⟨gs, 0, none⟩ = some v ∧ w'.frozen? ⟨gs, 0, none⟩ = false ∧ Below A.heap.size A w' ∧ LkS A (w'.setCell ⟨gs, 0, none⟩ (.slice p n c)) R L gs (k + 1) (.slice p n c) fr sp (ts ++ [t]) := by
  obtain ⟨i0, hi0, hz0, hz1, hz2⟩ := info_parts infoIt
  obtain ⟨v', w', h1, h2, h3, h4⟩ := own_pushF itCells_len itCells_one Tryz.underlying56 hi0 hz0 hz1 hz2 rfl (by omega) (by omega) h.own h.bel.size (by rw [h.len]; omega) t ty
  obtain ⟨p, c, rfl, _⟩ := OwnG.lie itCells_len (show OwnG itCells 66 7 w' A.heap.size v' (ts ++ [t]) from h2)
  have hrow : w'.heap[gs]? = some (.cells #[v, .int .i64 fr, .int .i64 sp] 58) := (h4.block gs (Array.getElem?_eq_some_iff.1 h.row).1 (own_ne h.own h.row (by decide))).trans h.row
  have hbel := h.bel.trans h3
  have hK : Keep W w' := Keep.fr h4 fun g cs tt f q hg => by
    have hq := h.own
    rcases hq.2 with ⟨rfl, _⟩ | ⟨g', cap, cur, rfl, _, hh, _⟩
    · cases q
    · injection q with q
      subst q
      rw [hg] at hh
      injection hh with hh
      injection hh with _ h2
      exact .inl h2
  have hL' : LkS A w' R L gs k v fr sp ts ∨ True := .inr trivial
  clear hL'
  refine ⟨p, _, c, w', h1, Joins.cell_of_block hrow 0, frozen_row hrow 0, hbel, ?_⟩
  have hF := Fr.setCell w' gs 0 (.slice p (ts ++ [t]).length c)
  have hK2 : Keep w' (w'.setCell ⟨gs, 0, none⟩ (.slice p (ts ++ [t]).length c)) := Keep.fr hF fun g cs tt f q hg => by
    subst q
    rw [hrow] at hg
    injection hg with hg
    injection hg with _ h2
    exact .inr h2.symm
  refine ⟨?_, own_frame h2 hF fun b hb hT => own_ne h2 hrow (by decide) (hT ▸ hb), by rw [List.length_append, h.len]; rfl, fun j u hu => ?_, h.far, hbel.trans (hF.below (fun j q => by have := h.far; omega) hbel.size)⟩
  · rw [heap_setCell_same _ _ _ _ _ _ hrow]; rfl
  · by_cases hj : j < ts.length
    · rw [List.getElem?_append_left hj] at hu
      obtain ⟨x', q1, q2, q3⟩ := h.its j u hu
      exact ⟨x', q1, q2, hk _ _ _ _ (hK.trans hK2) q3⟩
    · have hj2 : j = ts.length := by
        have := (List.getElem?_eq_some_iff.1 hu).1
        rw [List.length_append] at this
        simp at this
        omega
      subst hj2
      rw [List.getElem?_append_right (Nat.le_refl _), Nat.sub_self] at hu
      injection hu with hu
      subst hu
      rw [h.len]
      exact ⟨x, hx, ht, hk _ _ _ _ (hK.trans hK2) hr⟩
section
variable {o : Oper} {a : Act} {W : World}
theorem exec_sliceIt {y : Operand} {t : It} (ho : o.op = .buildSlice 56 1 #[(0, y)]) (hy : a.eval y = .agg (itCells t).toArray) : (execOp a.eval o).run Tryz.prog W = .ok (.value (.slice (some ⟨W.heap.size, 0, none⟩) 1 1)) (W.alloc (.cells (itCells t).toArray 66)) := by
  have z := zeroIt
  unfold itRow at z
  unfold itCells at *
  generalize a.eval = E at *
  unfold execOp
  simp only [ho]
  simp [go_sem, hy, z]
theorem exec_st1 {ty : TypeId} (hi : (Tryz.prog.info? ty).map (·.size) = some 1) {x y : Operand} {g i n c : Nat} {p : Option Addr} {old : Value} (ho : o.op = .store ty x y) (hx : a.eval x = .pointer (some ⟨g, i, none⟩)) (hy : a.eval y = .slice p n c) (hc : W.cell? ⟨g, i, none⟩ = some old) (hf : W.frozen? ⟨g, i, none⟩ = false) : (execOp a.eval o).run Tryz.prog W = .ok .skip (W.setCell ⟨g, i, none⟩ (.slice p n c)) := by
  obtain ⟨i0, hi0, hz1⟩ : ∃ i0, Tryz.prog.info? ty = some i0 ∧ i0.size = 1 := by
    cases hq : Tryz.prog.info? ty with
    | none => rw [hq] at hi; cases hi
    | some i => rw [hq] at hi; exact ⟨i, rfl, by simpa using hi⟩
  generalize a.eval = E at *
  unfold execOp
  simp only [ho]
  simp [hx, hy, Instr.storeAt, Instr.sureAddr, storeVar, sizeOf, typeInfo, hi0, hz1, storeCells, go_sem, hc, hf]
theorem exec_ldF {x : Operand} {b off : Nat} {f : Fl} (ho : o.op = .load 114 x) (hx : a.eval x = .pointer (some ⟨b, off, none⟩)) (hg : ∀ j u, (flCells f)[j]? = some u → W.cell? ⟨b, off + j, none⟩ = some u) : (execOp a.eval o).run Tryz.prog W = .ok (.value (.agg (flCells f).toArray)) W := by
  unfold execOp
  simp only [ho, hx, loadF hg, Sem.run_bind, Result.andThen_ok, Sem.run_pure]
end
structure LkR (W : World) (B : Nat) (R : World → Fl → It → Prop) (L : List Fl) (v : Value) (ts : List It) : Prop where
  own : OwnG itCells 66 7 W B v ts
  len : ts.length = L.length
  its : ∀ (j : Nat) t, ts[j]? = some t → ∃ x, L[j]? = some x ∧ ofFl t x ∧ R W x t
def freeK (y : Lay) (L : List Fl) (k : Nat) : Int := y.b - y.dataAt - ((allS (L.take k)).length : Nat)
theorem sizeSt : (Tryz.prog.info? 58).map (·.size) = some 3 := by kernel_rfl
def stRow (v : Value) (fr sp : Int) : Array Value := #[v, .int .i64 fr, .int .i64 sp]
theorem st_info (v : Value) (fr sp : Int) : (Tryz.prog.info? 58).map (·.size) = some (stRow v fr sp).size := sizeSt
theorem st_two (v v' : Value) (fr sp fr' sp' : Int) : (stRow v fr sp).size = (stRow v' fr' sp').size := rfl
theorem st_one (p : Option Addr) (n c : Nat) (fr sp : Int) : (stRow (.slice p n c) fr sp).all (·.oneCell') = true := by simp [stRow, Value.oneCell']
theorem zeroSt : ∀ w, (zeroValue 58).run Tryz.prog w = .ok (.agg (stRow (.slice none 0 0) 0 0)) w := (zero_of_info (show (Tryz.prog.info? 58).map (fun i => (i.zero, i.size)) = some (some (.agg (stRow (.slice none 0 0) 0 0)), 3) by kernel_rfl)).1
theorem exec_buildSt {o : Oper} {a : Act} {W : World} {x y : Operand} {fr sp : Int} (ho : o.op = .build 58 #[(1, x), (2, y)]) (hx : a.eval x = .int .i64 fr) (hy : a.eval y = .int .i64 sp) : (execOp a.eval o).run Tryz.prog W = .ok (.value (.agg (stRow (.slice none 0 0) fr sp))) W := by
  have z := zeroSt W
  unfold stRow at *
  generalize a.eval = E at *
  unfold execOp
  simp only [ho]
  simp [go_sem, hx, hy, z]
/-- What is asked of each inode's own contents. -/
structure Tells (R : World → Fl → It → Prop) (g : Nat) (A : World) (L : List Fl) : Prop where
  keep : KeepR R
  item : ∀ W x, x ∈ L → Below A.heap.size A W → Calls Tryz.prog 53 #[.pointer (some ⟨g, 0, none⟩), .agg (flCells x).toArray] W fun r w' => ∃ t, r = .returned (.agg (itCells t).toArray) ∧ ofFl t x ∧ R w' x t ∧ Below W.heap.size W w'
set_option maxRecDepth 20000 in
set_option maxHeartbeats 8000000 in
theorem look29_ok {b l i nN bB : Nat} {n : Int} {im : List Cel} {p : Option Addr} {cap : Nat} {w : World} {ent : Fl → List (Int × ByteArray)} (hi : ImgAt w p im) (hw : WholeOk n im) (hs : SupOk b l i im) (hbn : (b : Int) ≤ n) (hbyt : ∀ c ∈ im, ∀ i, 0 ≤ c.2 i ∧ c.2 i ≤ 255) (hf : FineA (layOf b l i) im i nN b bB ent) (R : World → Fl → It → Prop)
    (hR : ∀ g A L, L.map Fl.core = filesK (layOf b l i) im i → Aud A g n im (layOf b l i) → (∀ x ∈ L, FlOk A x) → Tells R g A L) :
    Calls Tryz.prog 29 #[.agg #[.int .i64 n, .slice p im.length cap]] w fun e w' => ∃ L v ts, e = .returned (.tuple #[.agg (stRow v (freeK (layOf b l i) L L.length) ((i : Int) - (L.length : Int))), .slice none 0 0]) ∧ L.map Fl.core = filesK (layOf b l i) im i ∧ LkR w' w.heap.size R L v ts ∧ Below w.heap.size w w' := by
  have zst := zeroSt
  obtain ⟨W0, hW0⟩ : ∃ W0, W0 = (w.alloc (.cells #[.int .i64 n, .slice p im.length cap] 24)).alloc (.cells (stRow (.slice none 0 0) 0 0) 58) := ⟨_, rfl⟩
  have HX : Hid (W0.heap[w.heap.size]? = some (.cells #[.int .i64 n, .slice p im.length cap] 24)) := by rw [hW0]; exact heap_kept (heap_alloc_new _ _) (below_new _ _)
  have HRs : Hid (W0.heap[w.heap.size + 1]? = some (.cells (stRow (.slice none 0 0) 0 0) 58)) := by rw [hW0]; exact heap_two _ _ _
  have hb0 : Below w.heap.size w W0 := by rw [hW0]; exact below_next (below_new _ _) (below_new _ _)
  have hop := open29_ok (cap := cap) (hi.later hb0) hw hs hbn hbyt
  have HB0 : Hid _ := hb0
  have HF : Hid _ := hf
  have HR : Hid _ := hR
  obtain ⟨g1, g2, g3, g4, g5, g6, g7⟩ := hs.geo
  have HyI : Hid ((layOf b l i).i = (i : Int)) := rfl
  have HyB : Hid ((layOf b l i).b = (b : Int)) := rfl
  have HyD : Hid (0 ≤ (layOf b l i).dataAt ∧ (layOf b l i).dataAt < (b : Int)) := by
    show 0 ≤ ((1 + l + (i + 16) / 16 + (b + 8191) / 8192 : Nat) : Int) ∧ ((1 + l + (i + 16) / 16 + (b + 8191) / 8192 : Nat) : Int) < (b : Int)
    omega
  clear hi hw hs hbyt hf hR hb0
  obtain ⟨y, hy⟩ : ∃ y, layOf b l i = y := ⟨_, rfl⟩
  rw [hy] at hop HF HR HyI HyB HyD
  simp only [hy]
  clear hy
  obtain ⟨N, hN⟩ : ∃ N, im.length = N := ⟨_, rfl⟩
  rw [hN] at hop HX hW0 ⊢
  clear hN
  have HW0 : Hid (W0 = _) := hW0
  clear hW0
  go_enter Tryz.func29, Tryz.ntmps29
  go_upto_region 1 with fail
  rw [← HW0.out]
  clear HW0
  go_wp2_with (first | (with_reducible refine isLoadR 24 ?_; refine wpList_ldR 24 Tryz.underlying24 rfl rfl (.tmp 1) rfl w.heap.size rfl #[.int .i64 n, .slice p N cap] 24 (0, 0) (im_info _ _ _ _) HX.out ?_) | (go_at_call 50; fail))
  refine hop.mono ?_
  rintro e W1 ⟨g, rfl, ha, hb⟩
  have HA1 : Hid _ := ha
  have HB1 : Hid (Below w.heap.size w W1) := below_next HB0.out hb
  have HRs1 : Hid _ := heap_kept HRs.out hb
  have hwr := wrong29_all ha HF.out
  clear hop ha hb HRs HB0 HX
  go_wp2_with (first | (go_at_call 51; fail))
  refine hwr.mono ?_
  rintro e W2 ⟨rfl, hb⟩
  have HA2 : Hid (Aud W2 g n im y) := HA1.out.later hb
  have HB2 : Hid (Below w.heap.size w W2) := below_next HB1.out hb
  have HRs2 : Hid _ := heap_kept HRs1.out hb
  have hfi := files29_any HA2.out HF.out.nodes.i HF.out.nodes.i1 HF.out.nodes.at'
  clear hwr hb HA1 HB1 HRs1
  go_wp2_with (first | (go_at_call 52; fail))
  refine hfi.mono ?_
  rintro e A ⟨v, rfl, ⟨L, hfa, hco⟩, hb⟩
  have hfl := HF.out.all L hco
  have hll : L.length ≤ 1000000 := by
    have h1 : L.length = (filesK y im i).length := by rw [← hco, List.length_map]
    have h2 := filesK_len y im i
    omega
  obtain ⟨pl, c, rfl, hls⟩ := hfa.fls hll hfl.len2
  have HA : Hid (Aud A g n im y) := HA2.out.later hb
  have HB : Hid (Below w.heap.size w A) := below_next HB2.out hb
  have HRsA : Hid _ := heap_kept HRs2.out hb
  have HL : Hid (FlsAt A pl L) := hls
  have HCo : Hid _ := hco
  have HTe : Hid (Tells R g A L) := HR.out g A L hco HA.out fun x hx => hls.get hx (hfl.sb x hx).1 (hfl.sb x hx).2
  have htot := hfl.tot
  have hx0 := HA.out.row
  obtain ⟨p', cap', q', c', hdk, _⟩ := hx0
  unfold dkRow at hdk
  have d2 : A.cell? ⟨g, 2, none⟩ = some (.int .i64 (b : Int)) := by rw [← HyB.out]; exact Joins.cell_of_block hdk 2
  have d10 : A.cell? ⟨g, 10, none⟩ = some (.int .i64 y.dataAt) := Joins.cell_of_block hdk 10
  have d4 : A.cell? ⟨g, 4, none⟩ = some (.int .i64 (i : Int)) := by rw [← HyI.out]; exact Joins.cell_of_block hdk 4
  clear hfi hb hfl hls hfa hco HA2 HB2 HRs2 hdk HR
  have hda := HyD.out
  generalize hdv : y.dataAt = da at *
  have e1 : IntKind.i64.wrap ((b : Int) - da) = (b : Int) - da := by rw [IntKind.wrap_i64]; omega
  have e2 : IntKind.i64.wrap ((i : Int) - (L.length : Int)) = (i : Int) - (L.length : Int) := by rw [IntKind.wrap_i64]; omega
  obtain ⟨M, hM⟩ : ∃ M, L.length = M := ⟨_, rfl⟩
  have HM : Hid (L.length = M) := hM
  rw [hM] at e2 hll ⊢
  clear hM
  go_upto_region 8 with fail
  refine wp_region_ord (S := fun u => u.cell? ⟨g, 2, none⟩ = some (.int .i64 (b : Int)) ∧ u.cell? ⟨g, 10, none⟩ = some (.int .i64 da) ∧ u.cell? ⟨g, 4, none⟩ = some (.int .i64 (i : Int))) [(0, true), (1, true), (2, true), (3, true), (4, true), (5, true), (6, true), (7, true), (8, true), (9, true), (10, true), (11, true), (12, true), (13, true), (14, true), (15, true), (16, true), (17, true), (18, true), (19, true), (20, true), (21, true), (22, false), (23, false)] (by kernel_rfl) rfl (by kernel_rfl) (fun d _ _ _ _ h => by cases d <;> exact h) ⟨d2, d10, d4⟩ ?_
  simp only [inOrd, List.getElem?_cons_zero, List.getElem?_cons_succ]
  refine wpOrd_yield (v := .pointer (some ⟨g, 0, none⟩)) rfl (fun u _ => exec_mv rfl rfl) ?_
  simp only [Act.put, List.setIfInBounds_toArray, List.set_cons_succ, List.set_cons_zero]
  refine wpOrd_yield (v := .pointer (some ⟨g, 0, none⟩)) rfl (fun u _ => by go_simp) ?_
  simp only [Act.put, List.setIfInBounds_toArray, List.set_cons_succ, List.set_cons_zero]
  refine wpOrd_yield (v := .pointer (some ⟨g, 2, none⟩)) rfl (fun u _ => by go_simp) ?_
  simp only [Act.put, List.setIfInBounds_toArray, List.set_cons_succ, List.set_cons_zero]
  refine wpOrd_yield (v := .pointer (some ⟨g, 2, none⟩)) rfl (fun u _ => by go_simp) ?_
  simp only [Act.put, List.setIfInBounds_toArray, List.set_cons_succ, List.set_cons_zero]
  refine wpOrd_yield (v := .pointer (some ⟨g, 2, none⟩)) rfl (fun u _ => by go_simp) ?_
  simp only [Act.put, List.setIfInBounds_toArray, List.set_cons_succ, List.set_cons_zero]
  refine wpOrd_yield (v := .int .i64 (b : Int)) rfl (fun u hu => by have := hu.1; go_simp) ?_
  simp only [Act.put, List.setIfInBounds_toArray, List.set_cons_succ, List.set_cons_zero]
  refine wpOrd_yield (v := .pointer (some ⟨g, 0, none⟩)) rfl (fun u _ => exec_mv rfl rfl) ?_
  simp only [Act.put, List.setIfInBounds_toArray, List.set_cons_succ, List.set_cons_zero]
  refine wpOrd_yield (v := .pointer (some ⟨g, 0, none⟩)) rfl (fun u _ => by go_simp) ?_
  simp only [Act.put, List.setIfInBounds_toArray, List.set_cons_succ, List.set_cons_zero]
  refine wpOrd_yield (v := .pointer (some ⟨g, 2, none⟩)) rfl (fun u _ => by go_simp) ?_
  simp only [Act.put, List.setIfInBounds_toArray, List.set_cons_succ, List.set_cons_zero]
  refine wpOrd_yield (v := .pointer (some ⟨g, 10, none⟩)) rfl (fun u _ => by go_simp) ?_
  simp only [Act.put, List.setIfInBounds_toArray, List.set_cons_succ, List.set_cons_zero]
  refine wpOrd_yield (v := .int .i64 da) rfl (fun u hu => by have := hu.2.1; go_simp) ?_
  simp only [Act.put, List.setIfInBounds_toArray, List.set_cons_succ, List.set_cons_zero]
  refine wpOrd_yield (v := .int .i64 ((b : Int) - da)) rfl (fun u _ => by go_simp) ?_
  simp only [Act.put, List.setIfInBounds_toArray, List.set_cons_succ, List.set_cons_zero]
  refine wpOrd_yield (v := .pointer (some ⟨g, 0, none⟩)) rfl (fun u _ => exec_mv rfl rfl) ?_
  simp only [Act.put, List.setIfInBounds_toArray, List.set_cons_succ, List.set_cons_zero]
  refine wpOrd_yield (v := .pointer (some ⟨g, 0, none⟩)) rfl (fun u _ => by go_simp) ?_
  simp only [Act.put, List.setIfInBounds_toArray, List.set_cons_succ, List.set_cons_zero]
  refine wpOrd_yield (v := .pointer (some ⟨g, 2, none⟩)) rfl (fun u _ => by go_simp) ?_
  simp only [Act.put, List.setIfInBounds_toArray, List.set_cons_succ, List.set_cons_zero]
  refine wpOrd_yield (v := .pointer (some ⟨g, 2, none⟩)) rfl (fun u _ => by go_simp) ?_
  simp only [Act.put, List.setIfInBounds_toArray, List.set_cons_succ, List.set_cons_zero]
  refine wpOrd_yield (v := .pointer (some ⟨g, 4, none⟩)) rfl (fun u _ => by go_simp) ?_
  simp only [Act.put, List.setIfInBounds_toArray, List.set_cons_succ, List.set_cons_zero]
  refine wpOrd_yield (v := .int .i64 (i : Int)) rfl (fun u hu => by have := hu.2.2; go_simp) ?_
  simp only [Act.put, List.setIfInBounds_toArray, List.set_cons_succ, List.set_cons_zero]
  refine wpOrd_yield (v := .slice pl M c) rfl (fun u _ => exec_mv rfl rfl) ?_
  simp only [Act.put, List.setIfInBounds_toArray, List.set_cons_succ, List.set_cons_zero]
  refine wpOrd_yield (v := .int .i64 (M : Int)) rfl (fun u _ => by go_simp) ?_
  simp only [Act.put, List.setIfInBounds_toArray, List.set_cons_succ, List.set_cons_zero]
  refine wpOrd_yield (v := .int .i64 ((i : Int) - (M : Int))) rfl (fun u _ => by go_simp) ?_
  simp only [Act.put, List.setIfInBounds_toArray, List.set_cons_succ, List.set_cons_zero]
  refine wpOrd_yield (v := .agg (stRow (.slice none 0 0) ((b : Int) - da) ((i : Int) - (M : Int)))) rfl (fun u _ => exec_buildSt rfl rfl rfl) ?_
  simp only [Act.put, List.setIfInBounds_toArray, List.set_cons_succ, List.set_cons_zero]
  have HSd : Hid (∀ u, Below A.heap.size A u → u.cell? ⟨g, 2, none⟩ = some (.int .i64 (b : Int)) ∧ u.cell? ⟨g, 10, none⟩ = some (.int .i64 da) ∧ u.cell? ⟨g, 4, none⟩ = some (.int .i64 (i : Int))) := fun u hu => ⟨(hu.cell (p := ⟨g, 2, none⟩) (block_lt_of_cell d2)).trans d2, (hu.cell (p := ⟨g, 10, none⟩) (block_lt_of_cell d10)).trans d10, (hu.cell (p := ⟨g, 4, none⟩) (block_lt_of_cell d4)).trans d4⟩
  have hbA : Below A.heap.size A (A.drew.alloc (.cells (stRow (.slice none 0 0) 0 0) 58)) := (Below.refl _ _).drew.alloc (Nat.le_refl _) _
  have hgA : (A.drew.alloc (.cells (stRow (.slice none 0 0) 0 0) 58)).heap[A.heap.size]? = some (.cells (stRow (.slice none 0 0) 0 0) 58) := heap_alloc_new A.drew _
  refine wpOrd_act (W' := A.drew.alloc (.cells (stRow (.slice none 0 0) 0 0) 58)) rfl (exec_allocR zeroSt rfl) (HSd.out _ hbA) ?_
  simp only [Act.put, List.setIfInBounds_toArray, List.set_cons_succ, List.set_cons_zero]
  have hbS : Below A.heap.size A ((A.drew.alloc (.cells (stRow (.slice none 0 0) 0 0) 58)).setRow A.heap.size (stRow (.slice none 0 0) ((b : Int) - da) ((i : Int) - (M : Int)))) := hbA.trans ((Fr.setRow _ _ _).below (fun j q => by omega) hbA.size)
  refine wpOrd_do rfl (exec_stR 58 (.tmp 7) (.tmp 48) rfl A.heap.size rfl rfl hgA (st_info _ _ _) (st_two _ _ _ _ _ _) (st_one _ _ _ _ _)) (HSd.out _ hbS) ?_
  simp only [Act.put]
  refine wpOrd_nil ?_
  have HK0 : Hid (LkS A ((A.drew.alloc (.cells (stRow (.slice none 0 0) 0 0) 58)).setRow A.heap.size (stRow (.slice none 0 0) ((b : Int) - da) ((i : Int) - (M : Int)))) R L A.heap.size 0 (.slice none 0 0) (freeK y L 0) ((i : Int) - (M : Int)) []) := by
    refine ⟨?_, OwnG.nil _ _, rfl, fun j t ht => by simp at ht, Nat.le_refl _, hbS⟩
    rw [show freeK y L 0 = (b : Int) - da by unfold freeK; rw [List.take_zero, HyB.out, hdv]; show (b : Int) - da - ((0 : Nat) : Int) = _; omega]
    exact setRow_heap _ _ _ _ _ _ hgA
  clear hgA hbA hbS d2 d4 d10 HSd e1 e2
  generalize (A.drew.alloc (.cells (stRow (.slice none 0 0) 0 0) 58)).setRow A.heap.size (stRow (.slice none 0 0) ((b : Int) - da) ((i : Int) - (M : Int))) = V at *
  rw [show A.drew.heap.size = A.heap.size from rfl]
  generalize hgs : A.heap.size = gs at *
  have HGs : Hid (A.heap.size = gs) := hgs
  clear hgs
  have HTk := HTe.out.keep
  go_wp2
  go_loopw [8] (fun s8 wx => ∃ (k : Nat) (v : Value) (ts : List It), k ≤ M ∧ s8 = .int .i64 k ∧ Hid (LkS A wx R L gs k v (freeK y L k) ((i : Int) - (M : Int)) ts)) (fun s8 _ => M - (intOf s8).toNat)
  case atStart => exact ⟨0, _, _, by omega, rfl, HK0.out⟩
  case round =>
    clear HK0
    obtain ⟨k, v, ts, hk, rfl, HK⟩ := hrel
    by_cases hk2 : (k : Int) < (M : Int)
    · have hkL : k < L.length := by rw [HM.out]; omega
      obtain ⟨gf, x, rfl, hLk, hxL, hcx⟩ := (HL.out.later HK.out.bel).at (i := k) hkL
      have HCx : Hid (∀ u, Below A.heap.size A u → ∀ j v, (flCells x)[j]? = some v → u.cell? ⟨gf, k * 18 + j, none⟩ = some v) := fun u hu => by
        obtain ⟨g', x', hp, hx', _, hc'⟩ := (HL.out.later hu).at (i := k) hkL
        injection hp with hp
        injection hp with hp
        subst hp
        rw [hLk] at hx'
        injection hx' with hx'
        subst hx'
        exact hc'
      have HIt : Hid (∀ W, Below A.heap.size A W → Calls Tryz.prog 53 #[.pointer (some ⟨g, 0, none⟩), .agg (flCells x).toArray] W fun r w' => ∃ t, r = .returned (.agg (itCells t).toArray) ∧ ofFl t x ∧ R w' x t ∧ Below W.heap.size W w') := fun W hW => HTe.out.item W x hxL hW
      have hkM : k < M := by omega
      have HLk : Hid (L[k]? = some x) := hLk
      have HFr : Hid (freeK y L (k + 1) = freeK y L k - (x.sp.length : Int)) := by
        show _ = _
        unfold freeK
        rw [allS_snoc hLk, List.length_append]
        omega
      have HFb : Hid (-200000000 ≤ freeK y L k ∧ freeK y L k ≤ 200000000 ∧ x.sp.length ≤ 1000000) := by
        have h1 := allS_le L k
        refine ⟨?_, ?_, (HL.out.len2 x hxL)⟩
        · unfold freeK; rw [HyB.out, hdv]; omega
        · unfold freeK; rw [HyB.out, hdv]; omega
      clear hcx hLk hkL hxL
      generalize freeK y L k = fk at *
      have HKd : Hid (LkS A wr.drew R L gs k v fk ((i : Int) - (M : Int)) ts) := HK.out.call HTk (Below.refl _ _).drew
      have HCu : Hid (∀ u, Below wr.heap.size wr u → u.cell? ⟨gs, 0, none⟩ = some v) := fun u hu => Joins.cell_of_block (heap_kept HK.out.row hu) 0
      go_upto_region 12 with fail
      go_cut [] from 55 to 65 (fun wc => ∃ (v' : Value) (ts' : List It), Hid (LkS A wc R L gs (k + 1) v' fk ((i : Int) - (M : Int)) ts'))
      case first =>
        refine wp_region_tree (S := fun u => Below A.heap.size A u) (rdT 0 (rdT 2 (rdT 3 (rdT 4 (rdT 5 (rdT 6 (altT [(1, altT [(7, altT [(8, altT [(9, rdT 10 (altT [(11, finT)]))])])]), (7, altT [(1, altT [(8, altT [(9, rdT 10 (altT [(11, finT)]))])]), (8, altT [(1, altT [(9, rdT 10 (altT [(11, finT)]))])])])]))))))) (by kernel_rfl) rfl (by kernel_rfl) (fun d _ _ _ _ h => by cases d <;> exact h) HKd.out.bel ?_
        have hbd : Below wr.heap.size wr wr.drew := (Below.refl _ _).drew
        have cvd := HCu.out _ hbd
        generalize wr.drew = X0 at *
        refine wpT_yield (v := .pointer (some ⟨gs, 0, none⟩)) rfl rfl (fun u _ => by go_simp) ?_
        simp only [Act.put, List.setIfInBounds_toArray, List.set_cons_succ, List.set_cons_zero]
        refine wpT_yield (v := .pointer (some ⟨g, 0, none⟩)) rfl rfl (fun u _ => exec_mv rfl rfl) ?_
        simp only [Act.put, List.setIfInBounds_toArray, List.set_cons_succ, List.set_cons_zero]
        refine wpT_yield (v := .slice (some ⟨gf, 0, none⟩) M c) rfl rfl (fun u _ => exec_mv rfl rfl) ?_
        simp only [Act.put, List.setIfInBounds_toArray, List.set_cons_succ, List.set_cons_zero]
        refine wpT_yield (v := .int .i64 (k : Int)) rfl rfl (fun u _ => exec_mv rfl rfl) ?_
        simp only [Act.put, List.setIfInBounds_toArray, List.set_cons_succ, List.set_cons_zero]
        refine wpT_yield (v := .pointer (some ⟨gf, k * 18, none⟩)) rfl rfl (fun u _ => by go_simp) ?_
        simp only [Act.put, List.setIfInBounds_toArray, List.set_cons_succ, List.set_cons_zero]
        refine wpT_yield (v := .agg (flCells x).toArray) rfl rfl (fun u hu => exec_ldF rfl rfl (HCx.out u hu)) ?_
        simp only [Act.put, List.setIfInBounds_toArray, List.set_cons_succ, List.set_cons_zero]
        refine wpT_make (v := v) (w' := X0) rfl rfl (by have := cvd; go_simp) HKd.out.bel ?_ ?_
        · simp only [Act.put, List.setIfInBounds_toArray, List.set_cons_succ, List.set_cons_zero]
          refine wpT_call rfl rfl 53 _ _ rfl Tryz.call53 [.pointer (some ⟨g, 0, none⟩), .agg (flCells x).toArray] rfl ?_ ?_
          · refine Calls.mono (HIt.out _ HKd.out.bel) ?_
            rintro e1 Xc ⟨t, rfl, hof, hrt, hbc⟩
            have hKc : LkS A Xc R L gs k v fk ((i : Int) - (M : Int)) ts := HKd.out.call HTk hbc
            have hbwc := below_next hbd hbc
            refine ⟨_, rfl, hKc.bel, ?_⟩
            simp only [Act.put, List.setIfInBounds_toArray, List.set_cons_succ, List.set_cons_zero]
            refine wpT_make rfl rfl (exec_sliceIt rfl rfl) (hKc.bel.alloc hKc.bel.size _) ?_ ?_
            · simp only [Act.put, List.setIfInBounds_toArray, List.set_cons_succ, List.set_cons_zero]
              obtain ⟨p', n', c', w', hR1, hc1, hf1, hb1, hK1⟩ := hKc.push HTk (by omega) t x HLk.out hof hrt 56
              refine wpT_make rfl rfl (exec_push rfl rfl rfl hR1) hb1 ?_ wpT_stop
              simp only [Act.put, List.setIfInBounds_toArray, List.set_cons_succ, List.set_cons_zero]
              refine wpT_yield (v := .pointer (some ⟨gs, 0, none⟩)) rfl rfl (fun u _ => by go_simp) ?_
              simp only [Act.put, List.setIfInBounds_toArray, List.set_cons_succ, List.set_cons_zero]
              refine wpT_do rfl rfl (exec_st1 sizeIs rfl rfl rfl hc1 hf1) hK1.bel ?_ wpT_stop
              simp only [Act.put]
              refine wpT_fin ?_
              have HK1 : Hid _ := hK1
              generalize w'.setCell ⟨gs, 0, none⟩ (.slice p' n' c') = ZZ at HK1 ⊢
              clear hK1 hb1 hc1 hf1 hR1 hKc
              go_wp2_with fail
              go_meet
              case rel => exact ⟨_, _, HK1.out⟩
            · exact wpT_stop
          · exact wpT_stop
        refine wpT_call rfl rfl 53 _ _ rfl Tryz.call53 [.pointer (some ⟨g, 0, none⟩), .agg (flCells x).toArray] rfl ?_ ?_
        · refine Calls.mono (HIt.out _ HKd.out.bel) ?_
          rintro e1 Xc ⟨t, rfl, hof, hrt, hbc⟩
          have hKc : LkS A Xc R L gs k v fk ((i : Int) - (M : Int)) ts := HKd.out.call HTk hbc
          have hbwc := below_next hbd hbc
          refine ⟨_, rfl, hKc.bel, ?_⟩
          simp only [Act.put, List.setIfInBounds_toArray, List.set_cons_succ, List.set_cons_zero]
          have cvc := HCu.out _ hbwc
          refine wpT_make (v := v) (w' := Xc) rfl rfl (by have := cvc; go_simp) hKc.bel ?_ ?_
          · simp only [Act.put, List.setIfInBounds_toArray, List.set_cons_succ, List.set_cons_zero]
            refine wpT_make rfl rfl (exec_sliceIt rfl rfl) (hKc.bel.alloc hKc.bel.size _) ?_ ?_
            · simp only [Act.put, List.setIfInBounds_toArray, List.set_cons_succ, List.set_cons_zero]
              obtain ⟨p', n', c', w', hR1, hc1, hf1, hb1, hK1⟩ := hKc.push HTk (by omega) t x HLk.out hof hrt 56
              refine wpT_make rfl rfl (exec_push rfl rfl rfl hR1) hb1 ?_ wpT_stop
              simp only [Act.put, List.setIfInBounds_toArray, List.set_cons_succ, List.set_cons_zero]
              refine wpT_yield (v := .pointer (some ⟨gs, 0, none⟩)) rfl rfl (fun u _ => by go_simp) ?_
              simp only [Act.put, List.setIfInBounds_toArray, List.set_cons_succ, List.set_cons_zero]
              refine wpT_do rfl rfl (exec_st1 sizeIs rfl rfl rfl hc1 hf1) hK1.bel ?_ wpT_stop
              simp only [Act.put]
              refine wpT_fin ?_
              have HK1 : Hid _ := hK1
              generalize w'.setCell ⟨gs, 0, none⟩ (.slice p' n' c') = ZZ at HK1 ⊢
              clear hK1 hb1 hc1 hf1 hR1 hKc
              go_wp2_with fail
              go_meet
              case rel => exact ⟨_, _, HK1.out⟩
            · exact wpT_stop
          refine wpT_make rfl rfl (exec_sliceIt rfl rfl) (hKc.bel.alloc hKc.bel.size _) ?_ ?_
          · simp only [Act.put, List.setIfInBounds_toArray, List.set_cons_succ, List.set_cons_zero]
            have cva : (Xc.alloc (.cells (itCells t).toArray 66)).cell? ⟨gs, 0, none⟩ = some v := HCu.out _ (below_next hbwc (below_new _ _))
            refine wpT_make (v := v) (w' := Xc.alloc (.cells (itCells t).toArray 66)) rfl rfl (by have := cva; go_simp) (hKc.bel.alloc hKc.bel.size _) ?_ ?_
            · simp only [Act.put, List.setIfInBounds_toArray, List.set_cons_succ, List.set_cons_zero]
              obtain ⟨p', n', c', w', hR1, hc1, hf1, hb1, hK1⟩ := hKc.push HTk (by omega) t x HLk.out hof hrt 56
              refine wpT_make rfl rfl (exec_push rfl rfl rfl hR1) hb1 ?_ wpT_stop
              simp only [Act.put, List.setIfInBounds_toArray, List.set_cons_succ, List.set_cons_zero]
              refine wpT_yield (v := .pointer (some ⟨gs, 0, none⟩)) rfl rfl (fun u _ => by go_simp) ?_
              simp only [Act.put, List.setIfInBounds_toArray, List.set_cons_succ, List.set_cons_zero]
              refine wpT_do rfl rfl (exec_st1 sizeIs rfl rfl rfl hc1 hf1) hK1.bel ?_ wpT_stop
              simp only [Act.put]
              refine wpT_fin ?_
              have HK1 : Hid _ := hK1
              generalize w'.setCell ⟨gs, 0, none⟩ (.slice p' n' c') = ZZ at HK1 ⊢
              clear hK1 hb1 hc1 hf1 hR1 hKc
              go_wp2_with fail
              go_meet
              case rel => exact ⟨_, _, HK1.out⟩
            · exact wpT_stop
          · exact wpT_stop
        · exact wpT_stop
      case rest =>
        obtain ⟨v1, ts1, HK1⟩ := hcut
        have HKe : Hid (LkS A wc.drew R L gs (k + 1) v1 fk ((i : Int) - (M : Int)) ts1) := HK1.out.call HTk (Below.refl _ _).drew
        have c17 : wc.drew.cell? ⟨gf, k * 18 + 17, none⟩ = some (.slice x.p x.sp.length x.c) := HCx.out _ HKe.out.bel 17 _ rfl
        have cf : wc.drew.cell? ⟨gs, 1, none⟩ = some (.int .i64 fk) := Joins.cell_of_block HKe.out.row 1
        have ff := frozen_row HKe.out.row 1
        obtain ⟨hf1, hf2, hf3⟩ := HFb.out
        have e1 : IntKind.i64.wrap (fk - (x.sp.length : Int)) = fk - (x.sp.length : Int) := by rw [IntKind.wrap_i64]; omega
        have HK2 : Hid (LkS A (wc.drew.setCell ⟨gs, 1, none⟩ (.int .i64 (fk - (x.sp.length : Int)))) R L gs (k + 1) v1 (freeK y L (k + 1)) ((i : Int) - (M : Int)) ts1) := by
          rw [HFr.out]
          exact HKe.out.cell HTk 1 _ v1 _ rfl HKe.out.own HKe.out.len HKe.out.its
        have c17' : (wc.drew.setCell ⟨gs, 1, none⟩ (.int .i64 (fk - (x.sp.length : Int)))).cell? ⟨gf, k * 18 + 17, none⟩ = some (.slice x.p x.sp.length x.c) := HCx.out _ HK2.out.bel 17 _ rfl
        clear HK1 HKe HFr HFb HKd HCu HK hf1 hf2
        go_upto_region 13 with fail
        generalize x.sp.length = sl at *
        refine wp_region_ord (S := fun u => u.cell? ⟨gf, k * 18 + 17, none⟩ = some (.slice x.p sl x.c)) [(0, true), (2, true), (3, true), (4, true), (5, true), (6, true), (7, true), (1, false), (8, true), (9, true), (10, false)] (by kernel_rfl) rfl (by kernel_rfl) (fun d _ _ _ _ h => by cases d <;> exact h) c17 ?_
        simp only [inOrd, List.getElem?_cons_zero, List.getElem?_cons_succ]
        refine wpOrd_yield (v := .pointer (some ⟨gs, 1, none⟩)) rfl (fun u _ => by go_simp) ?_
        simp only [Act.put, List.setIfInBounds_toArray, List.set_cons_succ, List.set_cons_zero]
        refine wpOrd_yield (v := .slice (some ⟨gf, 0, none⟩) M c) rfl (fun u _ => exec_mv rfl rfl) ?_
        simp only [Act.put, List.setIfInBounds_toArray, List.set_cons_succ, List.set_cons_zero]
        refine wpOrd_yield (v := .int .i64 (k : Int)) rfl (fun u _ => exec_mv rfl rfl) ?_
        simp only [Act.put, List.setIfInBounds_toArray, List.set_cons_succ, List.set_cons_zero]
        refine wpOrd_yield (v := .pointer (some ⟨gf, k * 18, none⟩)) rfl (fun u _ => by go_simp) ?_
        simp only [Act.put, List.setIfInBounds_toArray, List.set_cons_succ, List.set_cons_zero]
        refine wpOrd_yield (v := .pointer (some ⟨gf, k * 18 + 17, none⟩)) rfl (fun u _ => by go_simp) ?_
        simp only [Act.put, List.setIfInBounds_toArray, List.set_cons_succ, List.set_cons_zero]
        refine wpOrd_yield (v := .slice x.p sl x.c) rfl (fun u hu => by have := hu; go_simp) ?_
        simp only [Act.put, List.setIfInBounds_toArray, List.set_cons_succ, List.set_cons_zero]
        refine wpOrd_yield (v := .int .i64 (sl : Int)) rfl (fun u _ => by go_simp) ?_
        simp only [Act.put, List.setIfInBounds_toArray, List.set_cons_succ, List.set_cons_zero]
        refine wpOrd_act (W' := wc.drew) (v := .int .i64 fk) rfl (by go_simp) c17 ?_
        simp only [Act.put, List.setIfInBounds_toArray, List.set_cons_succ, List.set_cons_zero]
        refine wpOrd_yield (v := .int .i64 (fk - (sl : Int))) rfl (fun u _ => by go_simp) ?_
        simp only [Act.put, List.setIfInBounds_toArray, List.set_cons_succ, List.set_cons_zero]
        refine wpOrd_yield (v := .pointer (some ⟨gs, 1, none⟩)) rfl (fun u _ => by go_simp) ?_
        simp only [Act.put, List.setIfInBounds_toArray, List.set_cons_succ, List.set_cons_zero]
        refine wpOrd_do rfl (exec_st3 rfl rfl rfl cf ff) c17' ?_
        simp only [Act.put]
        refine wpOrd_nil ?_
        clear c17 c17' cf ff e1
        generalize wc.drew.setCell ⟨gs, 1, none⟩ (.int .i64 (fk - (sl : Int))) = X at *
        go_wp2
        exact ⟨⟨k + 1, _, _, by omega, by go_num, HK2.out⟩, by simp [intOf]; omega⟩
    · obtain rfl : k = M := by omega
      have hrow := HK.out.row
      obtain ⟨pv, cv, rfl, _⟩ := OwnG.lie itCells_len HK.out.own
      have hrs := heap_kept HRsA.out HK.out.bel
      have hwA : w.heap.size + 1 < A.heap.size := (Array.getElem?_eq_some_iff.1 HRsA.out).1
      have HRow : Hid (wr.heap[gs]? = some (.cells (stRow (.slice pv ts.length cv) (freeK y L k) ((i : Int) - (k : Int))) 58)) := hrow
      have hF := Fr.setRow wr (w.heap.size + 1) (stRow (.slice pv ts.length cv) (freeK y L k) ((i : Int) - (k : Int)))
      have hKp : Keep wr (wr.setRow (w.heap.size + 1) (stRow (.slice pv ts.length cv) (freeK y L k) ((i : Int) - (k : Int)))) := Keep.fr hF fun g cs tt f q hg => by
        subst q
        rw [hrs] at hg
        injection hg with hg
        injection hg with _ h2
        exact .inr h2.symm
      have HRes : Hid (LkR (wr.setRow (w.heap.size + 1) (stRow (.slice pv ts.length cv) (freeK y L k) ((i : Int) - (k : Int)))) w.heap.size R L (.slice pv ts.length cv) ts) := by
        refine ⟨own_frame (HK.out.own.mono (by omega)) hF fun b hb hT => ?_, by rw [HK.out.len, HM.out], fun j t ht => ?_⟩
        · have := World.ownsRow.lt HK.out.own b hb
          omega
        · obtain ⟨x, q1, q2, q3⟩ := HK.out.its j t ht
          exact ⟨x, q1, q2, HTk _ _ _ _ hKp q3⟩
      have HBe : Hid (Below w.heap.size w (wr.setRow (w.heap.size + 1) (stRow (.slice pv ts.length cv) (freeK y L k) ((i : Int) - (k : Int))))) := (below_next HB.out HK.out.bel).trans (hF.below (fun j q => by omega) (below_next HB.out HK.out.bel).size)
      clear hrow hF hKp HK
      obtain ⟨fk, hfk⟩ : ∃ fk, freeK y L k = fk := ⟨_, rfl⟩
      have HFk : Hid (freeK y L k = fk) := hfk
      rw [hfk] at HRow HRes HBe
      clear hfk
      generalize ts.length = tl at *
      go_wp2_with (first | (with_reducible refine isLoadR 58 ?_; refine wpList_ldR 58 Tryz.underlying58 rfl rfl (.tmp 7) rfl gs rfl (stRow (.slice pv tl cv) fk ((i : Int) - (k : Int))) 58 (0, 0) (st_info _ _ _) HRow.out ?_) | (with_reducible refine isStoreR 58 ?_; refine wpList_stR 58 rfl (.tmp 2) (.tmp 76) rfl (w.heap.size + 1) (stRow (.slice pv tl cv) fk ((i : Int) - (k : Int))) (stRow (.slice none 0 0) 0 0) 58 (st_info _ _ _) (st_two _ _ _ _ _ _) (st_one _ _ _ _ _) rfl rfl hrs ?_))
      refine retCTA Tryz.underlying58 rfl rfl (w.heap.size + 1) _ 58 (st_info _ _ _) rfl (setRow_heap _ _ _ _ _ _ hrs) rfl ⟨L, _, ?_, HCo.out, ⟨ts, HRes.out⟩, HBe.out⟩
      rw [HM.out, HFk.out]
      rfl
end Go.Proofs.YtlcdpmjdnihocaaGreat
/- MkfsFresh: where the blocks are what mkfs writes, nothing is wrong; for every geometry that may be, whatever stands in the other blocks. -/
namespace Go.Proofs.YtlcdpmjdnihocaaGreat
open Go.RowKit Go.Maps
/-- The blocks that mkfs writes are as it writes them. -/
structure MadeA (b l i : Nat) (im : List Cel) : Prop where
  geo : GeoOk b l i
  at0 : atL im 0 = YtlcdpmjdnihocaaGreatP.superF (b : Int) l i
  at1 : atL im 1 = nought
  co : ∀ k : Int, 1 + (l : Int) ≤ k → k ≤ YtlcdpmjdnihocaaGreatP.dataAt (b : Int) l i → atL im k = coF (b : Int) l i k
/-- The root's block. -/
def rbk (b l i : Nat) : Nat := 1 + l + (i + 16) / 16 + (b + 8191) / 8192
variable {b l i : Nat} {im : List Cel}
theorem MadeA.sup (h : MadeA b l i im) : SupOk b l i im := ⟨h.geo, fun j _ => by rw [h.at0, super_same], fun j _ => by rw [h.at1]; rfl⟩
theorem MadeA.raw (h : MadeA b l i im) (q j : Nat) (hq : q < 16 * ((i + 16) / 16)) (hj : j < 64) : rawP (layOf b l i) im q j = if q = 1 then ndE (rbk b l i) j else 0 := by
  obtain ⟨e1, e2, e3, e4⟩ := lay_nums b l i
  show atL im (((1 + l : Nat) : Int) + ((q / 16 : Nat) : Int)) (64 * (q % 16) + j) = _
  rw [h.co _ (by omega) (by rw [e4]; omega)]
  unfold coF
  rw [if_pos (by rw [e2]; omega)]
  unfold ndF
  by_cases h16 : q < 16
  · rw [show ((((1 + l : Nat) : Int) + ((q / 16 : Nat) : Int)) == 1 + (l : Int)) = true from beq_iff_eq.2 (by omega), if_pos rfl]
    unfold YtlcdpmjdnihocaaGreatN.over
    by_cases h1 : q = 1
    · subst h1
      rw [if_pos (by omega), if_pos rfl, e4, show 64 * (1 % 16) + j - 64 = j by omega]
      rfl
    · rw [if_neg (by omega), if_neg h1]
      rfl
  · rw [show ((((1 + l : Nat) : Int) + ((q / 16 : Nat) : Int)) == 1 + (l : Int)) = false from beq_eq_false_iff_ne.2 (by omega), if_neg Bool.false_ne_true, if_neg (by omega)]
    rfl
theorem MadeA.rbk_bd (h : MadeA b l i im) : 35 ≤ rbk b l i ∧ rbk b l i < b ∧ b ≤ 1048576 ∧ l ≤ 256 ∧ i ≤ 65535 ∧ 1 ≤ i := by
  obtain ⟨g1, g2, g3, g4, g5, g6, g7⟩ := h.geo
  unfold rbk
  omega
theorem MadeA.raw1 (h : MadeA b l i im) (j : Nat) (hj : j < 64) : rawP (layOf b l i) im 1 j = ndE (rbk b l i) j := by
  rw [h.raw 1 j (by have := h.rbk_bd; omega) hj, if_pos rfl]
theorem MadeA.raw0 (h : MadeA b l i im) (q : Nat) (h1 : ¬ q = 1) (hq : q < 16 * ((i + 16) / 16)) (j : Nat) (hj : j < 64) : rawP (layOf b l i) im q j = 0 := by rw [h.raw q j hq hj, if_neg h1]
theorem MadeA.nums (h : MadeA b l i im) : numN (rawP (layOf b l i) im 1) 0 2 = 2 ∧ numN (rawP (layOf b l i) im 1) 2 2 = 2 ∧ numN (rawP (layOf b l i) im 1) 4 4 = 32 ∧ numN (rawP (layOf b l i) im 1) 8 4 = 1 := by
  obtain ⟨e1, e2, e3, e4⟩ := nd_num (rbk b l i)
  exact ⟨(num_congrA 2 0 fun j _ q => h.raw1 j (by omega)).trans e1, (num_congrA 2 2 fun j _ q => h.raw1 j (by omega)).trans e2, (num_congrA 4 4 fun j _ q => h.raw1 j (by omega)).trans e3, (num_congrA 4 8 fun j _ q => h.raw1 j (by omega)).trans e4⟩
theorem MadeA.dir (h : MadeA b l i im) (q : Nat) (hq : q < 12) : decD (rawP (layOf b l i) im 1) q = if q = 0 then (rbk b l i : Int) else 0 := by
  have hb := h.rbk_bd
  rw [← nd_dir (rbk b l i) (by omega) q hq]
  unfold decD
  exact num_congrA 4 (12 + 4 * q) fun j _ q' => h.raw1 j (by omega)
theorem spD_skipA {d : Nat → Int} {a : Nat} : ∀ m, (∀ k, a ≤ k → k < a + m → d k = 0) → spD d (a + m) = spD d a
  | 0, _ => rfl
  | m + 1, h => by
    rw [show a + (m + 1) = (a + m) + 1 by omega, spD_zero (h (a + m) (by omega) (by omega))]
    exact spD_skipA m fun k h1 h2 => h k h1 (by omega)
theorem filesK_skipA {y : Lay} {l : List Cel} {a : Nat} : ∀ d, (∀ k, a ≤ k → k < a + d → numN (rawP y l (k + 1)) 0 2 = 0) → filesK y l (a + d) = filesK y l a
  | 0, _ => rfl
  | d + 1, h => by
    rw [show a + (d + 1) = (a + d) + 1 by omega, filesK_zero (h (a + d) (by omega) (by omega))]
    exact filesK_skipA d fun k h1 h2 => h k h1 (by omega)
theorem MadeA.no0 (h : MadeA b l i im) : dataB (layOf b l i) 0 = false := by
  have hb := h.rbk_bd
  unfold dataB
  rw [decide_eq_false (show ¬ (layOf b l i).dataAt ≤ 0 by show ¬ ((rbk b l i : Nat) : Int) ≤ 0; omega)]
  rfl
theorem MadeA.spots (h : MadeA b l i im) : spotsP (layOf b l i) im (decD (rawP (layOf b l i) im 1)) = [(0, (rbk b l i : Int))] := by
  have hb := h.rbk_bd
  have h0 := h.no0
  have hd := h.dir
  generalize decD (rawP (layOf b l i) im 1) = d at *
  unfold spotsP
  rw [hd 10 (by decide), hd 11 (by decide), if_neg (by decide), if_neg (by decide), h0, if_neg Bool.false_ne_true]
  rw [show (10 : Nat) = 1 + 9 from rfl, spD_skipA 9 fun k h1 h2 => by rw [hd k (by omega), if_neg (by omega)]]
  rw [spD_some (k := 0) (by rw [hd 0 (by decide), if_pos rfl]; omega), hd 0 (by decide), if_pos rfl]
  unfold spIn
  rw [h0]
  rfl
theorem MadeA.files (h : MadeA b l i im) : filesK (layOf b l i) im i = [⟨1, 2, 2, 32, 1, decD (rawP (layOf b l i) im 1), [(0, (rbk b l i : Int))]⟩] := by
  have hb := h.rbk_bd
  obtain ⟨n1, n2, n3, n4⟩ := h.nums
  have hz : ∀ k, ¬ k = 1 → k < 16 * ((i + 16) / 16) → numN (rawP (layOf b l i) im k) 0 2 = 0 := fun k h1 h2 => by
    rw [num_congrA (g := nought) 2 0 fun j _ hj => h.raw0 k h1 h2 j (by omega)]
    rfl
  obtain ⟨m, rfl⟩ : ∃ m, i = 1 + m := ⟨i - 1, by omega⟩
  rw [filesK_skipA m fun k h1 h2 => hz (k + 1) (by omega) (by omega)]
  rw [filesK_some (k := 0) (by rw [show 0 + 1 = 1 from rfl, n1]; decide), show 0 + 1 = 1 from rfl]
  unfold flP
  rw [n1, n2, n3, n4, h.spots]
  rfl
def esA : List (Int × ByteArray) := [(1, bDot), (1, bDots)]
def entA : Fl → List (Int × ByteArray) := fun _ => esA
theorem nmA_dot : NmOk bDot := ⟨by decide, by decide, fun i h => by
  have : i = 0 := by have : bDot.size = 1 := rfl; omega
  subst this
  exact ⟨by show ¬ ((46 : Nat) : Int) = 0; decide, by show ¬ ((46 : Nat) : Int) = 47; decide⟩⟩
theorem nmA_dots : NmOk bDots := ⟨by decide, by decide, fun i h => by
  have h2 : i = 0 ∨ i = 1 := by have : bDots.size = 2 := rfl; omega
  rcases h2 with rfl | rfl <;> exact ⟨by show ¬ ((46 : Nat) : Int) = 0; decide, by show ¬ ((46 : Nat) : Int) = 47; decide⟩⟩
theorem esA_at : ∀ (i : Nat) e, esA[i]? = some e → (i = 0 ∧ e = (1, bDot)) ∨ (i = 1 ∧ e = (1, bDots))
  | 0, e, h => .inl ⟨rfl, by unfold esA at h; simpa using h.symm⟩
  | 1, e, h => .inr ⟨rfl, by unfold esA at h; simpa using h.symm⟩
  | n + 2, e, h => by unfold esA at h; simp at h
theorem dotA_ne : ¬ bDot = bDots := fun h => absurd (congrArg ByteArray.size h) (by decide)
theorem MadeA.atD (h : MadeA b l i im) : atL im (rbk b l i) = slF := by
  obtain ⟨e1, e2, e3, e4⟩ := lay_nums b l i
  have hb := h.rbk_bd
  rw [h.co _ (by unfold rbk; omega) (by rw [e4]; exact Int.le_refl _)]
  unfold coF
  rw [if_neg (by rw [e2]; unfold rbk; omega), if_neg (by rw [e4]; unfold rbk; omega)]
theorem sl_near : ∀ q : Fin 16, slF q.val = encPA 1 bDot q.val ∧ slF (16 + q.val) = encPA 1 bDots q.val := by decide +kernel
theorem sl_far (j : Nat) (h : 32 ≤ j) : slF j = 0 := by
  unfold slF
  rw [slK_two, slK_one]
  unfold YtlcdpmjdnihocaaGreatN.over
  rw [if_neg (by omega), if_neg (by omega)]
  rfl
theorem MadeA.slots (h : MadeA b l i im) (k : Nat) (e : Int × ByteArray) (hk : esA[k]? = some e) : EntB (sloP im [(0, (rbk b l i : Int))] k) e := by
  have hs : ∀ q j, q < 2 → j < 16 → sloP im [(0, (rbk b l i : Int))] q j = slF (16 * q + j) := fun q j hq hj => by
    unfold sloP
    rw [show ((q * 16 / 1024 : Nat) : Int) = 0 by omega, show mapP [(0, (rbk b l i : Int))] 0 = (rbk b l i : Int) from rfl, h.atD, show q * 16 % 1024 + j = 16 * q + j by omega]
  rcases esA_at k e hk with ⟨rfl, rfl⟩ | ⟨rfl, rfl⟩
  · exact .inr ⟨by constructor <;> decide, nmA_dot, fun j hj => by rw [hs 0 j (by decide) hj, show 16 * 0 + j = j by omega]; exact (sl_near ⟨j, hj⟩).1⟩
  · exact .inr ⟨by constructor <;> decide, nmA_dots, fun j hj => by rw [hs 1 j (by decide) hj]; exact (sl_near ⟨j, hj⟩).2⟩
theorem MadeA.one (h : MadeA b l i im) {L : List Fl} (hL : L.map Fl.core = filesK (layOf b l i) im i) : ∃ p c, L = [⟨1, 2, 2, 32, 1, decD (rawP (layOf b l i) im 1), p, c, [(0, (rbk b l i : Int))]⟩] := by
  rw [h.files] at hL
  match L, hL with
  | [x], hL =>
    obtain ⟨inum, k, lk, s, bb, d, p, c, sp⟩ := x
    unfold Fl.core at hL
    simp only [List.map_cons, List.map_nil, List.cons.injEq, and_true, FC.mk.injEq] at hL
    obtain ⟨rfl, rfl, rfl, rfl, rfl, rfl, rfl⟩ := hL
    exact ⟨p, c, rfl⟩
  | [], hL => simp at hL
  | _ :: _ :: _, hL => simp at hL
theorem MadeA.nodes (h : MadeA b l i im) : NodesOk (layOf b l i) im i ((i + 16) / 16) := by
  have hb := h.rbk_bd
  obtain ⟨n1, n2, n3, n4⟩ := h.nums
  refine ⟨rfl, by omega, rfl, by omega, ⟨by show 0 ≤ ((1 + l : Nat) : Int); omega, by show ((1 + l : Nat) : Int) ≤ _; omega⟩, fun q hq => ?_, fun q h1 h2 j hj => h.raw0 q (by omega) h2 j hj⟩
  by_cases hq1 : q = 1
  · subst hq1
    refine .inr ⟨by decide, by rw [n1]; decide, ?_, fun _ => ⟨n1, by rw [n2]; decide⟩⟩
    rw [n1, n2, n3]
    refine ⟨fun j h1 h2 => ?_, by decide, by decide, by decide, fun _ => by decide⟩
    rw [h.raw1 j h2, nd_at, if_neg (by omega), if_neg (by omega)]
  · exact .inl ⟨hq1, fun j hj => h.raw0 q hq1 (by omega) j hj⟩
theorem MadeA.fine (h : MadeA b l i im) : FineA (layOf b l i) im i ((i + 16) / 16) b ((b + 8191) / 8192) entA := by
  have hb := h.rbk_bd
  obtain ⟨e1, e2, e3, e4⟩ := lay_nums b l i
  have hbits : ∀ k q : Nat, k < (b + 8191) / 8192 → q < 8192 → hasP (atL im ((layOf b l i).bitsAt + (k : Int))) q = decide (8192 * k + q < rbk b l i + 1) := fun k q hk hq => by
    rw [h.co _ (by show 1 + (l : Int) ≤ ((1 + l + (i + 16) / 16 : Nat) : Int) + _; omega) (by rw [e4]; show ((1 + l + (i + 16) / 16 : Nat) : Int) + (k : Int) ≤ _; omega)]
    unfold coF
    rw [if_neg (by rw [e2]; show ¬ ((1 + l + (i + 16) / 16 : Nat) : Int) + (k : Int) < _; omega), if_pos (by rw [e4]; show ((1 + l + (i + 16) / 16 : Nat) : Int) + (k : Int) < _; omega), bt_has]
    have ek : (((layOf b l i).bitsAt + (k : Int)) - YtlcdpmjdnihocaaGreatP.bitsAt (l : Int) i).toNat = k := by rw [e2]; show ((((1 + l + (i + 16) / 16 : Nat) : Int) + (k : Int)) - _).toNat = k; omega
    have ed : (YtlcdpmjdnihocaaGreatP.dataAt (b : Int) l i).toNat = rbk b l i := by rw [e4]; unfold rbk; omega
    rw [ek, ed]
    by_cases hx : 8192 * k + q < rbk b l i + 1
    · rw [decide_eq_true hx, decide_eq_true (by omega)]
    · rw [decide_eq_false hx, decide_eq_false (by omega)]
  have hslo := h.slots
  have hat := h.atD
  refine ⟨h.nodes, by omega, rfl, by omega, rfl, by omega, ⟨by show 0 ≤ ((1 + l + (i + 16) / 16 : Nat) : Int); omega, by show ((1 + l + (i + 16) / 16 : Nat) : Int) ≤ _; omega⟩, fun L hL => ?_⟩
  obtain ⟨p, c, rfl⟩ := h.one hL
  have hdD : (layOf b l i).dataAt = (rbk b l i : Int) := rfl
  have hdb : dataB (layOf b l i) (rbk b l i : Int) = true := by
    unfold dataB
    rw [hdD, decide_eq_true (Int.le_refl _), decide_eq_true (show (rbk b l i : Int) < (layOf b l i).b by show (rbk b l i : Int) < (b : Int); omega)]
    rfl
  generalize decD (rawP (layOf b l i) im 1) = d at *
  generalize rbk b l i = D at *
  generalize layOf b l i = y at *
  have h1 : ∀ {P : Fl → Prop}, P ⟨1, 2, 2, 32, 1, d, p, c, [(0, (D : Int))]⟩ → ∀ x ∈ [(⟨1, 2, 2, 32, 1, d, p, c, [(0, (D : Int))]⟩ : Fl)], P x := fun h x hx => by rw [List.mem_singleton.1 hx]; exact h
  have hs1 : ∀ {P : Int × Int → Prop}, P (0, (D : Int)) → ∀ s ∈ [((0 : Int), (D : Int))], P s := fun h s hs => by rw [List.mem_singleton.1 hs]; exact h
  have hall : allS [(⟨1, 2, 2, 32, 1, d, p, c, [(0, (D : Int))]⟩ : Fl)] = [(0, (D : Int))] := rfl
  have hnm : namesP entA [(⟨1, 2, 2, 32, 1, d, p, c, [(0, (D : Int))]⟩ : Fl)] = [] := rfl
  refine ⟨h1 (by show (1 : Nat) ≤ 1000000; decide), h1 ⟨by show (0 : Int) ≤ 32 ∧ (32 : Int) ≤ 4294967295; decide, by show (0 : Int) ≤ 1 ∧ (1 : Int) ≤ 4294967295; decide⟩, h1 (by show (0 : Int) ≤ 2 ∧ (2 : Int) < 65536; decide), h1 (hs1 hdb), h1 (hs1 (by show (0 : Int) ≤ (D : Int) ∧ (D : Int) < (b : Int); omega)), by rw [hall]; show (1 : Nat) ≤ 100000000; decide, fun q hq => ?_, h1 ⟨?_, ?_, ?_, ?_, ?_⟩, fun k q hk hq => ?_, h1 fun _ => ⟨by show (1 : Nat) ≤ 65535; decide, ⟨rfl, by show (2 : Nat) ≤ 100000; decide, fun k e h => hslo k e h⟩, fun _ => ⟨rfl, ⟨1, rfl⟩, fun q e h _ => ?_, fun q e h hi _ => ?_, fun q k e f he hf hk _ => ?_⟩⟩, by rw [hnm]; decide, (by rw [hnm]; intro s hs; cases hs), h1 fun _ _ => ⟨by show (1 : Nat) ≤ i; omega, fun _ => ⟨by rw [hnm]; rfl, ⟨_, rfl⟩⟩, fun q => absurd rfl q⟩, h1 ?_⟩
  · rw [hall]
    unfold cntS
    have := List.length_filter_le (fun s : Int × Int => s.2 == (q : Int)) [(0, (D : Int))]
    simp only [List.length_cons, List.length_nil] at this
    omega
  · exact .inr (.inr (.inr (.inr ⟨rfl, hs1 fun q => absurd q (by show ¬ (0 : Int) < 0; decide)⟩)))
  · exact .inr (.inr (.inr (.inl ⟨rfl, hs1 (by show (0 : Int) < (32 + 1023) / 1024; decide)⟩)))
  · refine .inr (.inr (.inl ⟨rfl, .inr (.inr fun j h1 h2 => ?_)⟩))
    show atL im (mapP [(0, (D : Int))] (32 / 1024)) j = 0
    have h1' : (32 : Int) % 1024 ≤ j := h1
    rw [show mapP [(0, (D : Int))] (32 / 1024) = (D : Int) from rfl, hat]
    exact sl_far j (by omega)
  · exact .inl ⟨rfl, rfl⟩
  · refine .inr (.inl ⟨rfl, fun _ q hi => ?_⟩)
    have hi' : (q : Int) < (32 + 1023) / 1024 := hi
    rw [show (q : Int) = 0 by omega]
    show ¬ (D : Int) = 0
    omega
  · rw [hall, hbits k q hk hq]
    unfold wantB cntS
    rw [hdD]
    generalize 8192 * k + q = x at *
    by_cases hx : x = D
    · subst hx
      have e1 : (List.filter (fun s : Int × Int => s.2 == (x : Int)) [(0, (x : Int))]) = [(0, (x : Int))] := by simp
      rw [e1, decide_eq_true (show x < x + 1 by omega), decide_eq_true (show x < b by omega)]
      simp
    · have e1 : (List.filter (fun s : Int × Int => s.2 == (x : Int)) [(0, (D : Int))]) = [] := by
        simp; omega
      rw [e1]
      by_cases h2 : x < D
      · rw [decide_eq_true (show x < D + 1 by omega), decide_eq_true (show (x : Int) < (D : Int) by omega)]; rfl
      · rw [decide_eq_false (show ¬ x < D + 1 by omega), decide_eq_false (show ¬ (x : Int) < (D : Int) by omega)]; simp
  · rcases esA_at q e h with ⟨rfl, rfl⟩ | ⟨rfl, rfl⟩ <;> rfl
  · rcases esA_at q e h with ⟨rfl, rfl⟩ | ⟨rfl, rfl⟩ <;> omega
  · rcases esA_at q e he with ⟨rfl, rfl⟩ | ⟨rfl, rfl⟩
    · omega
    · rcases esA_at k f hf with ⟨rfl, rfl⟩ | ⟨rfl, rfl⟩
      · exact dotA_ne
      · omega
  · rw [hnm]; rfl
/-- The entries of what is told. -/
def RA (W : World) (_ : Fl) (t : It) : Prop := t.m = 0 ∧ t.n = 2 ∧ OwnE W 0 (.slice t.q t.n t.d) esA
theorem MadeA.tells (h : MadeA b l i im) {g : Nat} {A : World} {L : List Fl} {n : Int} (hL : L.map Fl.core = filesK (layOf b l i) im i) (ha : Aud A g n im (layOf b l i)) (hf : ∀ x ∈ L, FlOk A x) : Tells RA g A L := by
  refine ⟨fun W W' x t hk h => ⟨h.1, h.2.1, own_keep h.2.2 hk (by decide) (by decide)⟩, fun W x hx hb => ?_⟩
  have hfl := hf x hx
  have hslo := h.slots
  obtain ⟨p, c, rfl⟩ := h.one hL
  have hx' := List.mem_singleton.1 hx
  subst hx'
  generalize decD (rawP (layOf b l i) im 1) = d at *
  have hfW : FlOk W ⟨1, 2, 2, 32, 1, d, p, c, [(0, (rbk b l i : Int))]⟩ := ⟨hfl.lie.later hb, hfl.len, hfl.s, hfl.b⟩
  refine (item29_dir (ha.later hb) _ hfW rfl (by show (0 : Int) ≤ 2 ∧ (2 : Int) < 65536; decide) esA rfl (by decide) hslo).mono ?_
  rintro r w' ⟨v, rfl, hs⟩
  obtain ⟨q, dd, rfl, _⟩ := OwnG.lie enE_len hs.own
  exact ⟨⟨1, 2, 2, 32, 1, none, 0, 0, q, 2, dd⟩, rfl, ⟨rfl, rfl, rfl, rfl, rfl⟩, ⟨rfl, rfl, OwnG.mono hs.own (Nat.zero_le _)⟩, hs.bel⟩
/-- Looked at, nothing is wrong: the root alone, all else free. -/
theorem MadeA.look (h : MadeA b l i im) {n : Int} {p : Option Addr} {cap : Nat} {w : World} (hi : ImgAt w p im) (hw : WholeOk n im) (hbn : (b : Int) ≤ n) (hbyt : ∀ c ∈ im, ∀ i, 0 ≤ c.2 i ∧ c.2 i ≤ 255) :
    Calls Tryz.prog 29 #[.agg #[.int .i64 n, .slice p im.length cap]] w fun e w' => ∃ gi ci tp tc q dd, e = .returned (.tuple #[.agg (stRow (.slice (some ⟨gi, 0, none⟩) 1 ci) ((b : Int) - (rbk b l i : Int) - 1) ((i : Int) - 1)), .slice none 0 0]) ∧
      (∀ j u, (itCells ⟨1, 2, 2, 32, 1, tp, 0, tc, q, 2, dd⟩)[j]? = some u → w'.cell? ⟨gi, j, none⟩ = some u) ∧ LieG enE 2 w' q esA ∧ Below w.heap.size w w' := by
  refine (look29_ok hi hw h.sup hbn hbyt h.fine RA fun g A L h1 h2 h3 => h.tells h1 h2 h3).mono ?_
  rintro e w' ⟨L, v, ts, rfl, hL, hk, hb⟩
  obtain ⟨p', c', rfl⟩ := h.one hL
  obtain ⟨pv, cv, rfl, hl⟩ := OwnG.lie itCells_len hk.own
  have hlen : ts.length = 1 := hk.len
  match ts, hlen with
  | [t], _ =>
    obtain ⟨x, h1, h2, h3⟩ := hk.its 0 t rfl
    have hx := (Option.some.inj h1).symm
    subst hx
    obtain ⟨q1, q2, q3, q4, q5⟩ := h2
    obtain ⟨r1, r2, r3⟩ := h3
    obtain ⟨tu, tk, tl, tsz, tb, tp, tm, tc, tq, tn, td⟩ := t
    obtain rfl : tu = 1 := q1
    obtain rfl : tk = 2 := q2
    obtain rfl : tl = 2 := q3
    obtain rfl : tsz = 32 := q4
    obtain rfl : tb = 1 := q5
    obtain rfl : tm = 0 := r1
    obtain rfl : tn = 2 := r2
    obtain ⟨gi, rfl, hg1, hg2⟩ := hl (by show 0 < 1; decide)
    obtain ⟨pe, ce, h4, h5⟩ := OwnG.lie enE_len r3
    injection h4 with h4
    subst h4
    refine ⟨gi, cv, tp, tc, tq, td, rfl, fun j u hu => ?_, h5, hb⟩
    have := hg2 0 _ rfl j u hu
    simpa using this
end Go.Proofs.YtlcdpmjdnihocaaGreat
/- MkfsFresh: the disk behind mkfs, as the document's audit looks at it; the image told of it. -/
namespace Go.Proofs.YtlcdpmjdnihocaaGreatD
open Go.RowKit
theorem at_same : ∀ (l : List Cel) (k : Int), Go.Proofs.YtlcdpmjdnihocaaGreat.atL l k = atL l k
  | [], _ => rfl
  | (i, x) :: t, k => by
    show (if i = k then x else Go.Proofs.YtlcdpmjdnihocaaGreat.atL t k) = if i = k then x else atL t k
    rw [at_same t k]
theorem img_same {w : World} {p : Option Addr} {l : List Cel} (h : ImgAt w p l) : Go.Proofs.YtlcdpmjdnihocaaGreat.ImgAt w p l := fun h0 => by
  obtain ⟨b, off, h1, h2, h3⟩ := h h0
  refine ⟨b, off, h1, h2, fun i c hc => ?_⟩
  obtain ⟨h4, h5⟩ := h3 i c hc
  refine ⟨h4, fun j hj => ?_⟩
  exact h5 j _ (by rw [Array.getElem?_toList]; exact blk_get c.2 j hj)
theorem rise_up : ∀ (l : List Cel) (m : Int), Rise m l → (∀ c, l[0]? = some c → m < c.1) ∧ ∀ (i : Nat) c, l[i + 1]? = some c → ((l[i]?).map (·.1)).getD 0 < c.1
  | [], _, _ => ⟨fun c h => by simp at h, fun i c h => by simp at h⟩
  | (k, x) :: t, m, h => by
    obtain ⟨h1, h2⟩ := rise_up t k h.2
    refine ⟨fun c hc => by simp at hc; subst hc; exact h.1, fun i c hc => ?_⟩
    match i with
    | 0 => exact h1 c (by simpa using hc)
    | i + 1 => exact h2 i c (by simpa using hc)
theorem same_bytes {f : Nat → Int} (hc : Can f) (h : f ≠ nought) : Go.Proofs.YtlcdpmjdnihocaaGreat.sameN 1024 f Go.Proofs.YtlcdpmjdnihocaaGreat.nought = false := by
  cases hs : Go.Proofs.YtlcdpmjdnihocaaGreat.sameN 1024 f Go.Proofs.YtlcdpmjdnihocaaGreat.nought with
  | false => rfl
  | true => exact absurd (hc.ext can_nought fun j hj => (Go.Proofs.YtlcdpmjdnihocaaGreat.sameN_iff _ _ _).1 hs j hj) h
theorem whole_of {s : St} {l : List Cel} {n : Int} (h : IsImage s l) (hn : s.n = n) (h1 : 1 ≤ n) (h2 : n ≤ 9000) : Go.Proofs.YtlcdpmjdnihocaaGreat.WholeOk n l := by
  have hlen := rise_len (n := n) l (-1) h.rise (fun c hc => by have := h.top c hc; omega) (by omega)
  obtain ⟨r1, r2⟩ := rise_up l (-1) h.rise
  refine ⟨h1, by omega, by omega, fun i c hc => ?_, fun i c hc => ?_, fun i c hc => ?_⟩
  · match i with
    | 0 => exact r1 c hc
    | i + 1 => exact r2 i c hc
  · have := h.top c (List.mem_of_getElem? hc)
    omega
  · have := h.sound c (List.mem_of_getElem? hc)
    exact same_bytes this.1 this.2
theorem geo_of {b l i : Int} (hf : YtlcdpmjdnihocaaGreatP.Fine b l i) : ∃ b' l' i' : Nat, b = b' ∧ l = l' ∧ i = i' ∧ Go.Proofs.YtlcdpmjdnihocaaGreat.GeoOk b' l' i' := by
  have hp := hf.pos
  obtain ⟨h1, h2, h3, h4, h5, h6⟩ := hf
  unfold YtlcdpmjdnihocaaGreatP.dataAt YtlcdpmjdnihocaaGreatP.bitsAt YtlcdpmjdnihocaaGreatP.nodeB YtlcdpmjdnihocaaGreatP.bitsB at h6
  exact ⟨b.toNat, l.toNat, i.toNat, by omega, by omega, by omega, by omega, by omega, by omega, by omega, by omega, by omega, by omega⟩
theorem made_of_dn {b l i : Nat} {n : Int} {s : St} {s0 : Int → Nat → Int} {j N : Nat} {im : List Cel} (hf : YtlcdpmjdnihocaaGreatP.Fine (b : Int) l i) (hg : Go.Proofs.YtlcdpmjdnihocaaGreat.GeoOk b l i) (h : Dn b l i n s s0 j N) (hi : IsImage s im) : Go.Proofs.YtlcdpmjdnihocaaGreat.MadeA b l i im := by
  have ha : ∀ k, Go.Proofs.YtlcdpmjdnihocaaGreat.atL im k = gt s k := fun k => (at_same im k).trans (hi.at_ k)
  have hl := hf.1
  refine ⟨hg, by rw [ha, h.get, if_pos rfl], ?_, fun k h1 h2 => ?_⟩
  · rw [ha, h.get, if_neg (by decide)]
    rw [lastV_some _ _ nought ((mkBs_mem hf).2 (.inl rfl))]
    unfold mkBs lastV
    rw [if_pos rfl, lastV_none]
    · rfl
    · intro c hc e
      obtain ⟨q, hq, rfl⟩ := List.mem_map.1 hc
      have e' : 1 + (l : Int) + (q : Int) = 1 := e
      omega
  · rw [ha, h.get, if_neg (by omega)]
    exact lastV_co hf ⟨h1, h2⟩ _
end Go.Proofs.YtlcdpmjdnihocaaGreatD
/- Two lists of entries that are the same: the kit says so; an item read where it lies in a list. -/
namespace Go.Proofs.YtlcdpmjdnihocaaGreat
open Go.RowKit Go.Maps
set_option maxRecDepth 20000 in
set_option maxHeartbeats 1000000 in
theorem sameEntriesK_eq {w : World} {p q : Option Addr} {es : List (Int × ByteArray)} (c d : Nat) (h1 : LieG enE 2 w p es) (h2 : LieG enE 2 w q es) (hl : es.length ≤ 1000000) : Calls Tryz.prog 30 #[.slice p es.length c, .slice q es.length d] w fun e w' => e = .returned (.bool true) ∧ Below w.heap.size w w' := by
  have H1 : Hid (LieG enE 2 w p es) := h1
  have H2 : Hid (LieG enE 2 w q es) := h2
  clear h1 h2
  generalize hM : es.length = M at *
  have HM : Hid (es.length = M) := hM
  clear hM
  go_enter Tryz.func30, Tryz.ntmps30
  go_wp2
  go_loopw [5] (fun s5 wx => ∃ i : Nat, i ≤ M ∧ s5 = .int .i64 i ∧ Hid (Below w.heap.size w wx)) (fun s5 _ => M - (intOf s5).toNat)
  case atStart => exact ⟨0, by omega, rfl, Below.refl _ _⟩
  case round =>
    obtain ⟨i, hi, rfl, HW⟩ := hrel
    by_cases hi2 : (i : Int) < (M : Int)
    · have hil : i < es.length := by rw [HM.out]; omega
      obtain ⟨g1, rfl, hg1, hc1⟩ := (H1.out.later HW.out) (by omega)
      obtain ⟨g2, rfl, hg2, hc2⟩ := (H2.out.later HW.out) (by omega)
      have he : es[i]? = some es[i] := List.getElem?_eq_getElem hil
      have a0 : wr.cell? ⟨g1, i * 2, none⟩ = some (.int .u16 (es[i]).1) := hc1 i _ he 0 _ rfl
      have a1 : wr.cell? ⟨g1, i * 2 + 1, none⟩ = some (.string (es[i]).2) := hc1 i _ he 1 _ rfl
      have b0 : wr.cell? ⟨g2, i * 2, none⟩ = some (.int .u16 (es[i]).1) := hc2 i _ he 0 _ rfl
      have b1 : wr.cell? ⟨g2, i * 2 + 1, none⟩ = some (.string (es[i]).2) := hc2 i _ he 1 _ rfl
      have hiM : i < M := by omega
      have HW2 : Hid (∀ q, Below w.heap.size w (wr.drewN q)) := fun q => belowN HW.out q
      generalize (es[i]).1 = x at *
      generalize (es[i]).2 = s at *
      clear hc1 hc2 he hil hg1 hg2 HW
      go_upto_region 6 with fail
      go_quiet (fail)
      go_wp2
      exact ⟨⟨i + 1, by omega, by go_num, HW2.out _⟩, by simp [intOf]; omega⟩
    · obtain rfl : i = M := by omega
      go_wp2
      go_ret
      exact ⟨rfl, HW.out⟩
/-- The entries that the law names, in memory of their own. -/
theorem lie_named {w W : World} (hr : W.heap[w.heap.size]? = some (.cells #[.int .u16 1, .string ⟨#[46]⟩, .int .u16 1, .string ⟨#[46, 46]⟩] 69)) : LieG enE 2 W (some ⟨w.heap.size, 0, none⟩) esA := fun _ => by
  refine ⟨w.heap.size, rfl, (Array.getElem?_eq_some_iff.1 hr).1, fun i x hx j u hu => ?_⟩
  have c := fun q => Joins.cell_of_block hr q
  rcases esA_at i x hx with ⟨rfl, rfl⟩ | ⟨rfl, rfl⟩
  · match j, hu with
    | 0, hu => exact (c 0).trans hu
    | 1, hu => exact (c 1).trans hu
    | j + 2, hu => simp [enE] at hu
  · match j, hu with
    | 0, hu => exact (c 2).trans hu
    | 1, hu => exact (c 3).trans hu
    | j + 2, hu => simp [enE] at hu
end Go.Proofs.YtlcdpmjdnihocaaGreat
