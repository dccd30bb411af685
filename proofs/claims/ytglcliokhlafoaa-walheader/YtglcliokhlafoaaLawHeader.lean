/- The law WalHeader walked: of any disk and geometry: a header that may not be is refused, one that names blocks is recovered; true for every scene. -/
import Derived.Test.YtglcliokhlafoaaRBund
namespace Go.Proofs.Ytglcliokhlafoaa
open Go.RowKit Go.Maps
theorem Sits.addL {w W W' : World} {d : Nat} {t : St} {ks : List (Nat × Obj)} (h : Sits w W d t ks) (hb : Below W.heap.size W W') (xs : List (Nat × Obj)) (hx : ∀ p ∈ xs, W.heap.size ≤ p.1 ∧ W'.heap[p.1]? = some p.2) : Sits w W' d t (xs ++ ks) := by
  obtain ⟨L, hd, hS⟩ := h
  have h2 := hS.goes (hS.disk.later hb) (Goes.ofBelow L hb)
  refine ⟨L, hd, h2.disk, h2.new, h2.below, fun p hp => ?_⟩
  rcases List.mem_append.1 hp with hp | hp
  · obtain ⟨h3, h4⟩ := hx p hp
    exact ⟨h4, fun q => by have := hS.disk.lt _ q; omega⟩
  · exact h2.keep p hp
theorem exec_ldR (ty : TypeId) {d : TypeDesc} (hu : Try.prog.underlying ty = some d) (hd : d.isRow = true) {o : Oper} {a : Act} {W : World} {x : Operand} (ho : o.op = .load ty x)
    (g : Nat) (hx : a.eval x = .pointer (some ⟨g, 0, none⟩)) (cs : Array Value) (t : TypeId) (hi : (Try.prog.info? ty).map (·.size) = some cs.size) (hg : W.heap[g]? = some (.cells cs t)) : (execOp a.eval o).run Try.prog W = .ok (.value (.agg cs)) W := by
  unfold execOp
  simp only [ho, hx, Instr.loadAt, Instr.sureAddr, Sem.run_bind, Sem.run_pure, Result.andThen_ok, run_loadVar_row W g t ty cs (0, 0) d hg hu (by cases d <;> first | rfl | cases hd) hi]
set_option maxRecDepth 20000 in
set_option maxHeartbeats 8000000 in
theorem header_none (n b l i : Int) (p : Option Addr) (N cap : Nat) (w : World) (hf : ¬ H.Fine b l i) :
    Calls Try.prog 3 #[.agg #[.int .i64 n, .slice p N cap, .int .i64 b, .int .i64 l, .int .i64 i]] w fun e w' => e = .returned (.bool true) ∧ Below w.heap.size w w' := by
  have hOf := Hid.mk' (fun W => H.refOf_any b l i W)
  have HLg := Hid.mk' (fun W => large_any n b l i p N cap W)
  have HB0 := Hid.mk' (below_new w (.cells #[.int .i64 n, .slice p N cap, .int .i64 b, .int .i64 l, .int .i64 i] 28))
  have HG0 := Hid.mk' (heap_alloc_new w (.cells #[.int .i64 n, .slice p N cap, .int .i64 b, .int .i64 l, .int .i64 i] 28))
  obtain ⟨LA, hLA⟩ : ∃ X, X = H.lay9 0 0 0 0 0 0 0 0 0 := ⟨_, rfl⟩
  rw [show H.ofV b l i = .agg LA by unfold H.ofV; rw [if_neg hf, hLA]; rfl, show H.ofE b l i = 2 by unfold H.ofE; rw [if_neg hf]] at hOf
  unfold H.geoV at hOf
  have HS9 : Hid ((Try.prog.info? 30).map (·.size) = some LA.size) := by rw [hLA]; exact H.size25L
  have HO9 : Hid (LA.all (·.oneCell') = true) := by rw [hLA]; exact Hid.mk' (by first | rfl | decide | (simp [H.lay9, Value.oneCell']))
  have z30 : ∀ w, (zeroValue 30).run Try.prog w = .ok (.agg (H.lay9 0 0 0 0 0 0 0 0 0)) w := (zero_of_info (show (Try.prog.info? 30).map (fun i => (i.zero, i.size)) = some (some (.agg (H.lay9 0 0 0 0 0 0 0 0 0)), 9) by kernel_rfl)).1
  have HZ9 : Hid ((H.lay9 0 0 0 0 0 0 0 0 0).size = LA.size) := by rw [hLA]; exact Hid.mk' (by first | rfl | decide | (simp [H.lay9, Value.oneCell']))
  clear hLA
  generalize H.lay9 0 0 0 0 0 0 0 0 0 = Z at *
  go_enter Try.func3, Try.ntmps3
  go_wp2_with (go_at_call 4; fail)
  refine Calls.mono (hOf.out _) ?_
  rintro e W1 ⟨rfl, hb1⟩
  have HG1 := Hid.mk' (heap_kept (heap_kept HG0.out hb1) (below_new W1 (.cells LA 30)))
  have HB1 := Hid.mk' (below_next (below_next HB0.out hb1) (below_new W1 (.cells LA 30)))
  clear hb1 HG0 HB0 hOf
  go_upto_region 2 with (first | (with_reducible refine isStore 30 ?_; refine wpList_stNew 30 rfl _ _ rfl _ LA _ 30 HS9.out HZ9.out HO9.out rfl rfl rfl ?_))
  generalize W1.alloc (.cells LA 30) = A1 at *
  generalize W1.heap.size = g3 at *
  have a0 : A1.cell? ⟨w.heap.size, 0, none⟩ = some (.int .i64 n) := Joins.cell_of_block HG1.out 0
  have a1 : A1.cell? ⟨w.heap.size, 1, none⟩ = some (.slice p N cap) := Joins.cell_of_block HG1.out 1
  have a2 : A1.cell? ⟨w.heap.size, 2, none⟩ = some (.int .i64 b) := Joins.cell_of_block HG1.out 2
  have a3 : A1.cell? ⟨w.heap.size, 3, none⟩ = some (.int .i64 l) := Joins.cell_of_block HG1.out 3
  have a4 : A1.cell? ⟨w.heap.size, 4, none⟩ = some (.int .i64 i) := Joins.cell_of_block HG1.out 4
  go_wp2_with (go_at_call 5; fail)
  refine Calls.mono (HLg.out _) ?_
  rintro e A2 ⟨rfl, hb2⟩
  have HB2 := Hid.mk' (below_next HB1.out hb2)
  clear hb2 a0 a1 a2 a3 a4 HG1 HB1 HLg
  cases (decide (n > 300) || decide ((N : Int) > 300))
  · go_wp2
    go_ret
    exact ⟨rfl, HB2.out⟩
  · go_wp2
    go_ret
    exact ⟨rfl, HB2.out⟩
set_option maxRecDepth 20000 in
set_option maxHeartbeats 8000000 in
theorem header_walk (n b l i : Int) (p : Option Addr) (cap : Nat) (m : List Cel) (w : World) (hb : H.I64 b) (hcan : ∀ c ∈ m, Can c.2) (h : ImgAt w p m) :
    Calls Try.prog 3 #[.agg #[.int .i64 n, .slice p m.length cap, .int .i64 b, .int .i64 l, .int .i64 i]] w fun e w' => e = .returned (.bool true) ∧ Below w.heap.size w w' := by
  have HI := Hid.mk' h
  have HCan := Hid.mk' hcan
  clear h hcan
  obtain ⟨N, hN⟩ : ∃ N, m.length = N := ⟨_, rfl⟩
  have HN := Hid.mk' hN
  have hOf := Hid.mk' (fun W => H.refOf_any b l i W)
  have HLg := Hid.mk' (fun W => large_any n b l i p N cap W)
  rw [hN]
  clear hN
  have HB0 := Hid.mk' (below_new w (.cells #[.int .i64 n, .slice p N cap, .int .i64 b, .int .i64 l, .int .i64 i] 28))
  have HG0 := Hid.mk' (heap_alloc_new w (.cells #[.int .i64 n, .slice p N cap, .int .i64 b, .int .i64 l, .int .i64 i] 28))
  by_cases hf : H.Fine b l i
  · rw [show H.ofV b l i = .agg (layA b l i) by unfold H.ofV; rw [if_pos hf]; rfl, show H.ofE b l i = 0 by unfold H.ofE; rw [if_pos hf]] at hOf
    unfold H.geoV at hOf
    have HS9 : Hid ((Try.prog.info? 30).map (·.size) = some (layA b l i).size) := H.size25L
    have HO9 : Hid ((layA b l i).all (·.oneCell') = true) := layA_one b l i
    have HL1 : Hid ((layA b l i)[3]? = some (.int .i64 1)) := rfl
    have z30 : ∀ w, (zeroValue 30).run Try.prog w = .ok (.agg (H.lay9 0 0 0 0 0 0 0 0 0)) w := (zero_of_info (show (Try.prog.info? 30).map (fun i => (i.zero, i.size)) = some (some (.agg (H.lay9 0 0 0 0 0 0 0 0 0)), 9) by kernel_rfl)).1
    have HZ9 : Hid ((H.lay9 0 0 0 0 0 0 0 0 0).size = (layA b l i).size) := rfl
    generalize H.lay9 0 0 0 0 0 0 0 0 0 = Z at *
    have HY := Hid.mk' (rfl : layA b l i = layA b l i)
    generalize hLA : layA b l i = LA at *
    have HLA := Hid.mk' hLA
    clear hLA HY
    go_enter Try.func3, Try.ntmps3
    go_wp2_with (go_at_call 4; fail)
    refine Calls.mono (hOf.out _) ?_
    rintro e W1 ⟨rfl, hb1⟩
    have HG1 := Hid.mk' (heap_kept (heap_kept HG0.out hb1) (below_new W1 (.cells LA 30)))
    have HB1 := Hid.mk' (below_next (below_next HB0.out hb1) (below_new W1 (.cells LA 30)))
    have HX1 := Hid.mk' (heap_alloc_new W1 (.cells LA 30))
    clear hb1 HG0 HB0 hOf
    go_upto_region 2 with (first | (with_reducible refine isStore 30 ?_; refine wpList_stNew 30 rfl _ _ rfl _ LA _ 30 HS9.out HZ9.out HO9.out rfl rfl rfl ?_))
    generalize W1.alloc (.cells LA 30) = A1 at *
    generalize W1.heap.size = g3 at *
    have a0 : A1.cell? ⟨w.heap.size, 0, none⟩ = some (.int .i64 n) := Joins.cell_of_block HG1.out 0
    have a1 : A1.cell? ⟨w.heap.size, 1, none⟩ = some (.slice p N cap) := Joins.cell_of_block HG1.out 1
    have a2 : A1.cell? ⟨w.heap.size, 2, none⟩ = some (.int .i64 b) := Joins.cell_of_block HG1.out 2
    have a3 : A1.cell? ⟨w.heap.size, 3, none⟩ = some (.int .i64 l) := Joins.cell_of_block HG1.out 3
    have a4 : A1.cell? ⟨w.heap.size, 4, none⟩ = some (.int .i64 i) := Joins.cell_of_block HG1.out 4
    go_wp2_with (go_at_call 5; fail)
    refine Calls.mono (HLg.out _) ?_
    rintro e A2 ⟨rfl, hb2⟩
    have HG2 := Hid.mk' (heap_kept HG1.out hb2)
    have HB2 := Hid.mk' (below_next HB1.out hb2)
    have HX2 := Hid.mk' (heap_kept HX1.out hb2)
    clear hb2 a0 a1 a2 a3 a4 HG1 HB1 HX1 HLg
    by_cases hlg : n > 300 ∨ (N : Int) > 300
    · rw [show (decide (n > 300) || decide ((N : Int) > 300)) = true by simpa using hlg]
      go_wp2
      go_ret
      exact ⟨rfl, HB2.out⟩
    · rw [show (decide (n > 300) || decide ((N : Int) > 300)) = false by simp; omega]
      have hn3 : n ≤ 300 := by omega
      have hN3 : N ≤ 300 := by omega
      clear hlg
      have a0 : A2.cell? ⟨w.heap.size, 0, none⟩ = some (.int .i64 n) := Joins.cell_of_block HG2.out 0
      have a1 : A2.cell? ⟨w.heap.size, 1, none⟩ = some (.slice p N cap) := Joins.cell_of_block HG2.out 1
      have HWh := Hid.mk' (whole_any n m p cap A2 (by have := HN.out; omega) (HI.out.later HB2.out))
      rw [HN.out] at HWh
      go_wp2_with (go_at_call 6; fail)
      refine Calls.mono HWh.out ?_
      rintro e A3 ⟨rfl, hb3⟩
      have HG3 := Hid.mk' (heap_kept HG2.out hb3)
      have HB3 := Hid.mk' (below_next HB2.out hb3)
      have HX3 := Hid.mk' (heap_kept HX2.out hb3)
      clear hb3 a0 a1 HG2 HB2 HX2 HWh
      cases hm : mayB n m
      · rw [show wholeE n m = 2 by unfold wholeE; rw [hm]; rfl]
        go_wp2
        go_ret
        exact ⟨rfl, HB3.out⟩
      · rw [show wholeE n m = 0 by unfold wholeE; rw [hm]; rfl]
        have a0 : A3.cell? ⟨w.heap.size, 0, none⟩ = some (.int .i64 n) := Joins.cell_of_block HG3.out 0
        have a1 : A3.cell? ⟨w.heap.size, 1, none⟩ = some (.slice p N cap) := Joins.cell_of_block HG3.out 1
        have a2 : A3.cell? ⟨w.heap.size, 2, none⟩ = some (.int .i64 b) := Joins.cell_of_block HG3.out 2
        by_cases hbn : b > n
        · go_wp2
          go_ret
          exact ⟨rfl, HB3.out⟩
        · have HLd := Hid.mk' (loadB (W := A3) (n := n) (m := m) p cap (by have := HN.out; omega) (HI.out.later HB3.out) HCan.out hm)
          rw [HN.out] at HLd
          have HRi := Hid.mk' (rises_rise m _ (may_rises hm).2)
          have HSo := Hid.mk' (rises_sound (by omega) (may_rises hm).2 HCan.out)
          clear hm
          go_wp2_with (go_at_call 7; fail)
          refine Calls.mono HLd.out ?_
          rintro e A4 ⟨d, rfl, hs4, hv4, hk4⟩
          have HS4 := Hid.mk' hs4
          have HV4 := Hid.mk' hv4
          have HK4 := Hid.mk' hk4
          have HM4 := Hid.mk' (load_made n m)
          clear hs4 hv4 hk4 HLd a0 a1 a2
          generalize loadV n m = t4 at *
          go_wp2_with (go_at_call 8; fail)
          refine Calls.mono (lives_any _) ?_
          rintro e A5 ⟨rfl, hb5⟩
          have HS5 := Hid.mk' (HS4.out.later hb5)
          clear hb5 HS4
          go_upto_region 8 with fail
          have HDc := Hid.mk' (fun W => show Calls Try.prog 9 #[.agg LA, .agg (blk (atL m 1))] W (fun e' w' => ∃ p, e' = .returned (.tuple #[.agg #[.slice p (decT b l (atL m 1)).length (decT b l (atL m 1)).length], .int .i64 (decE b l (atL m 1))]) ∧ (p = none ∧ decT b l (atL m 1) = [] ∨ ∃ q, p = some ⟨q, 0, none⟩ ∧ W.heap.size ≤ q ∧ w'.heap[q]? = some (.cells (H.listRow (decT b l (atL m 1))) 3)) ∧ Below W.heap.size W w') from by
            rw [← HLA.out]
            exact H.dec_all b l i 1 (1 + l) (H.nodeB i) (H.bitsAt l i) (H.bitsB b) (H.dataAt b l i) (atL m 1) W hb (decide_eq_true ⟨hf, rfl, rfl, rfl, rfl, rfl, rfl⟩) ⟨hf.1, hf.2.1⟩ (at_can HSo.out 1).1)
          have HAt := Hid.mk' (fun (W : World) (hW : Below A5.heap.size A5 W) => at_any n m p cap 1 W (by have := HN.out; omega) (HI.out.later (below_next (below_next HB3.out HS5.out.below) hW)))
          rw [HN.out] at HAt
          have HSc := Hid.mk' (fun (W : World) (hW : Below A5.heap.size A5 W) => And.intro (heap_kept (heap_kept HG3.out HS5.out.below) hW) (heap_kept (heap_kept HX3.out HS5.out.below) hW))
          have HCs := Hid.mk' (dec_cases b l (atL m 1))
          generalize hTT : decT b l (atL m 1) = T at *
          generalize hEE : decE b l (atL m 1) = E at *
          have HTT := Hid.mk' hTT
          have HEE := Hid.mk' hEE
          clear hTT hEE
          go_cut [7, 8] from 62 to 71 (fun s7 s8 wc => ∃ (gH : Nat) (pT : Option Addr), s7 = .pointer (some ⟨gH, 0, none⟩) ∧ s8 = .int .i64 E ∧ Hid (Below A5.heap.size A5 wc ∧ A5.heap.size ≤ gH ∧ wc.heap[gH]? = some (.cells #[.slice pT T.length T.length] 42) ∧ (pT = none ∧ T = [] ∨ ∃ q, pT = some ⟨q, 0, none⟩ ∧ A5.heap.size ≤ q ∧ q ≠ gH ∧ wc.heap[q]? = some (.cells (H.listRow T) 3))))
          case first =>
            refine wp_region_tree (S := fun u => Below A5.heap.size A5 u) (rdT 0 (rdT 1 (rdT 2 (rdT 3 (rdT 4 (altT [(5, altT [(6, rdT 7 (rdT 8 (rdT 9 (altT [(10, altT [(11, rdT 12 finT)])])))), (10, altT [(6, rdT 7 (rdT 8 (rdT 9 (altT [(11, rdT 12 finT)]))))])]), (10, altT [(5, altT [(6, rdT 7 (rdT 8 (rdT 9 (altT [(11, rdT 12 finT)]))))])])]))))))
              (by kernel_rfl) rfl (by kernel_rfl) (fun d _ _ _ _ h => by cases d <;> exact h) (Below.refl _ _).drew ?_
            have hq : Below A5.heap.size A5 A5.drew := (Below.refl _ _).drew
            generalize A5.drew = V at *
            refine wpT_yield (v := .agg LA) rfl rfl (fun u hu => exec_ldR 30 Try.underlying30 rfl rfl g3 rfl LA 30 HS9.out (HSc.out u hu).2) ?_
            simp only [Act.put, List.setIfInBounds_toArray, List.set_cons_succ, List.set_cons_zero]
            refine wpT_yield (v := .pointer (some ⟨w.heap.size, 0, none⟩)) rfl rfl (fun u _ => by go_simp) ?_
            simp only [Act.put, List.setIfInBounds_toArray, List.set_cons_succ, List.set_cons_zero]
            refine wpT_yield (v := .agg #[.int .i64 n, .slice p N cap]) rfl rfl (fun u hu => by have c0 : u.cell? ⟨w.heap.size, 0, none⟩ = some (.int .i64 n) := Joins.cell_of_block (HSc.out u hu).1 0; have c1 : u.cell? ⟨w.heap.size, 1, none⟩ = some (.slice p N cap) := Joins.cell_of_block (HSc.out u hu).1 1; go_simp) ?_
            simp only [Act.put, List.setIfInBounds_toArray, List.set_cons_succ, List.set_cons_zero]
            refine wpT_yield (v := .pointer (some ⟨g3, 3, none⟩)) rfl rfl (fun u _ => by go_simp) ?_
            simp only [Act.put, List.setIfInBounds_toArray, List.set_cons_succ, List.set_cons_zero]
            refine wpT_yield (v := .int .i64 1) rfl rfl (fun u hu => by have c0 : u.cell? ⟨g3, 3, none⟩ = some (.int .i64 1) := (cell_of_row u g3 3 LA 30 _ (HSc.out u hu).2).trans HL1.out; go_simp) ?_
            simp only [Act.put, List.setIfInBounds_toArray, List.set_cons_succ, List.set_cons_zero]
            refine wpT_call rfl rfl 10 _ _ rfl Try.call10 [.agg #[.int .i64 n, .slice p N cap], .int .i64 1] rfl ?_ ?_
            · refine Calls.mono (HAt.out _ hq) ?_
              rintro e' X ⟨rfl, hbX⟩
              have hqX := below_next hq hbX
              refine ⟨_, rfl, hqX, ?_⟩
              simp only [Act.put, List.setIfInBounds_toArray, List.set_cons_succ, List.set_cons_zero]
              refine wpT_call rfl rfl 9 _ _ rfl Try.call9 [.agg LA, .agg (blk (atL m 1))] rfl ?_ ?_
              · refine Calls.mono (HDc.out _) ?_
                rintro e' Y ⟨pT, rfl, hdec, hbY⟩
                have hqY := below_next hqX hbY
                refine ⟨_, rfl, hqY, ?_⟩
                simp only [Act.put, List.setIfInBounds_toArray, List.set_cons_succ, List.set_cons_zero]
                refine wpT_yield (v := .tuple #[.agg #[.slice pT T.length T.length], .int .i64 E]) rfl rfl (fun u _ => exec_mv rfl rfl) ?_
                simp only [Act.put, List.setIfInBounds_toArray, List.set_cons_succ, List.set_cons_zero]
                refine wpT_yield (v := .agg #[.slice pT T.length T.length]) rfl rfl (fun u _ => by go_simp) ?_
                simp only [Act.put, List.setIfInBounds_toArray, List.set_cons_succ, List.set_cons_zero]
                refine wpT_yield (v := .int .i64 E) rfl rfl (fun u _ => by go_simp) ?_
                simp only [Act.put, List.setIfInBounds_toArray, List.set_cons_succ, List.set_cons_zero]
                refine wpT_make (v := .pointer (some ⟨Y.heap.size, 0, none⟩)) (w' := Y.alloc (.cells #[.slice none 0 0] 42)) rfl rfl (by go_simp) (hqY.alloc hqY.size _) ?_ ?_
                · simp only [Act.put, List.setIfInBounds_toArray, List.set_cons_succ, List.set_cons_zero]
                  have hgA : (Y.alloc (.cells #[.slice none 0 0] 42)).heap[Y.heap.size]? = some (.cells #[.slice none 0 0] 42) := heap_alloc_new _ _
                  have k0 : (Y.alloc (.cells #[.slice none 0 0] 42)).cell? ⟨Y.heap.size, 0, none⟩ = some (.slice none 0 0) := Joins.cell_of_block hgA 0
                  have k1 : (Y.alloc (.cells #[.slice none 0 0] 42)).frozen? ⟨Y.heap.size, 0, none⟩ = false := Joins.unfrozen_of_block hgA 0
                  have hgB : ((Y.alloc (.cells #[.slice none 0 0] 42)).setCell ⟨Y.heap.size, 0, none⟩ (.slice pT T.length T.length)).heap[Y.heap.size]? = some (.cells #[.slice pT T.length T.length] 42) := heap_setCell_same (Y.alloc (.cells #[.slice none 0 0] 42)) _ 0 _ 42 _ hgA
                  have hqB : Below A5.heap.size A5 ((Y.alloc (.cells #[.slice none 0 0] 42)).setCell ⟨Y.heap.size, 0, none⟩ (.slice pT T.length T.length)) := (hqY.alloc hqY.size _).setCell hqY.size _
                  refine wpT_do (w' := (Y.alloc (.cells #[.slice none 0 0] 42)).setCell ⟨Y.heap.size, 0, none⟩ (.slice pT T.length T.length)) rfl rfl (by go_simp) hqB ?_ wpT_stop
                  simp only [Act.put]
                  refine wpT_yield (v := .int .i64 E) rfl rfl (fun u _ => by go_simp) ?_
                  simp only [Act.put, List.setIfInBounds_toArray, List.set_cons_succ, List.set_cons_zero]
                  refine wpT_fin ?_
                  have hdq : pT = none ∧ T = [] ∨ ∃ q, pT = some ⟨q, 0, none⟩ ∧ A5.heap.size ≤ q ∧ q ≠ Y.heap.size ∧ ((Y.alloc (.cells #[.slice none 0 0] 42)).setCell ⟨Y.heap.size, 0, none⟩ (.slice pT T.length T.length)).heap[q]? = some (.cells (H.listRow T) 3) := by
                    rcases hdec with hd | ⟨q, hd1, hd2, hd3⟩
                    · exact .inl hd
                    · have hne : q ≠ Y.heap.size := by have := (Array.getElem?_eq_some_iff.1 hd3).1; omega
                      exact .inr ⟨q, hd1, Nat.le_trans hqX.size hd2, hne, (heap_setCell_other _ _ _ _ hne).trans (heap_kept hd3 (below_new _ _))⟩
                  have HRel := Hid.mk' (And.intro hqB (And.intro hqY.size (And.intro hgB hdq)))
                  clear hqB hgB hdq k0 k1 hgA hdec
                  generalize (Y.alloc (.cells #[.slice none 0 0] 42)).setCell ⟨Y.heap.size, 0, none⟩ (.slice pT T.length T.length) = ZZ at HRel ⊢
                  go_wp2_with fail
                  go_meet
                  case rel => exact ⟨_, pT, rfl, rfl, HRel.out⟩
                · exact wpT_stop
              refine wpT_make (v := .pointer (some ⟨X.heap.size, 0, none⟩)) (w' := X.alloc (.cells #[.slice none 0 0] 42)) rfl rfl (by go_simp) (hqX.alloc hqX.size _) ?_ ?_
              · simp only [Act.put, List.setIfInBounds_toArray, List.set_cons_succ, List.set_cons_zero]
                have hqA : Below A5.heap.size A5 (X.alloc (.cells #[.slice none 0 0] 42)) := hqX.alloc hqX.size _
                refine wpT_call rfl rfl 9 _ _ rfl Try.call9 [.agg LA, .agg (blk (atL m 1))] rfl ?_ ?_
                · refine Calls.mono (HDc.out _) ?_
                  rintro e' Y ⟨pT, rfl, hdec, hbY⟩
                  have hqY := below_next hqA hbY
                  refine ⟨_, rfl, hqY, ?_⟩
                  simp only [Act.put, List.setIfInBounds_toArray, List.set_cons_succ, List.set_cons_zero]
                  refine wpT_yield (v := .tuple #[.agg #[.slice pT T.length T.length], .int .i64 E]) rfl rfl (fun u _ => exec_mv rfl rfl) ?_
                  simp only [Act.put, List.setIfInBounds_toArray, List.set_cons_succ, List.set_cons_zero]
                  refine wpT_yield (v := .agg #[.slice pT T.length T.length]) rfl rfl (fun u _ => by go_simp) ?_
                  simp only [Act.put, List.setIfInBounds_toArray, List.set_cons_succ, List.set_cons_zero]
                  refine wpT_yield (v := .int .i64 E) rfl rfl (fun u _ => by go_simp) ?_
                  simp only [Act.put, List.setIfInBounds_toArray, List.set_cons_succ, List.set_cons_zero]
                  have hgA : Y.heap[X.heap.size]? = some (.cells #[.slice none 0 0] 42) := heap_kept (heap_alloc_new _ _) hbY
                  have k0 : Y.cell? ⟨X.heap.size, 0, none⟩ = some (.slice none 0 0) := Joins.cell_of_block hgA 0
                  have k1 : Y.frozen? ⟨X.heap.size, 0, none⟩ = false := Joins.unfrozen_of_block hgA 0
                  have hgB : (Y.setCell ⟨X.heap.size, 0, none⟩ (.slice pT T.length T.length)).heap[X.heap.size]? = some (.cells #[.slice pT T.length T.length] 42) := heap_setCell_same Y _ 0 _ 42 _ hgA
                  have hqB : Below A5.heap.size A5 (Y.setCell ⟨X.heap.size, 0, none⟩ (.slice pT T.length T.length)) := hqY.setCell hqX.size _
                  refine wpT_do (w' := Y.setCell ⟨X.heap.size, 0, none⟩ (.slice pT T.length T.length)) rfl rfl (by go_simp) hqB ?_ wpT_stop
                  simp only [Act.put]
                  refine wpT_yield (v := .int .i64 E) rfl rfl (fun u _ => by go_simp) ?_
                  simp only [Act.put, List.setIfInBounds_toArray, List.set_cons_succ, List.set_cons_zero]
                  refine wpT_fin ?_
                  have hdq : pT = none ∧ T = [] ∨ ∃ q, pT = some ⟨q, 0, none⟩ ∧ A5.heap.size ≤ q ∧ q ≠ X.heap.size ∧ (Y.setCell ⟨X.heap.size, 0, none⟩ (.slice pT T.length T.length)).heap[q]? = some (.cells (H.listRow T) 3) := by
                    rcases hdec with hd | ⟨q, hd1, hd2, hd3⟩
                    · exact .inl hd
                    · have hne : q ≠ X.heap.size := by have h9 := hd2; simp at h9; omega
                      exact .inr ⟨q, hd1, Nat.le_trans hqA.size hd2, hne, (heap_setCell_other _ _ _ _ hne).trans (hd3)⟩
                  have HRel := Hid.mk' (And.intro hqB (And.intro hqX.size (And.intro hgB hdq)))
                  clear hqB hgB hdq k0 k1 hgA hdec
                  generalize Y.setCell ⟨X.heap.size, 0, none⟩ (.slice pT T.length T.length) = ZZ at HRel ⊢
                  go_wp2_with fail
                  go_meet
                  case rel => exact ⟨_, pT, rfl, rfl, HRel.out⟩
                · exact wpT_stop
              · exact wpT_stop
            refine wpT_make (v := .pointer (some ⟨V.heap.size, 0, none⟩)) (w' := V.alloc (.cells #[.slice none 0 0] 42)) rfl rfl (by go_simp) (hq.alloc hq.size _) ?_ ?_
            · simp only [Act.put, List.setIfInBounds_toArray, List.set_cons_succ, List.set_cons_zero]
              have hqA : Below A5.heap.size A5 (V.alloc (.cells #[.slice none 0 0] 42)) := hq.alloc hq.size _
              refine wpT_call rfl rfl 10 _ _ rfl Try.call10 [.agg #[.int .i64 n, .slice p N cap], .int .i64 1] rfl ?_ ?_
              · refine Calls.mono (HAt.out _ hqA) ?_
                rintro e' X ⟨rfl, hbX⟩
                have hqX := below_next hqA hbX
                refine ⟨_, rfl, hqX, ?_⟩
                simp only [Act.put, List.setIfInBounds_toArray, List.set_cons_succ, List.set_cons_zero]
                refine wpT_call rfl rfl 9 _ _ rfl Try.call9 [.agg LA, .agg (blk (atL m 1))] rfl ?_ ?_
                · refine Calls.mono (HDc.out _) ?_
                  rintro e' Y ⟨pT, rfl, hdec, hbY⟩
                  have hqY := below_next hqX hbY
                  refine ⟨_, rfl, hqY, ?_⟩
                  simp only [Act.put, List.setIfInBounds_toArray, List.set_cons_succ, List.set_cons_zero]
                  refine wpT_yield (v := .tuple #[.agg #[.slice pT T.length T.length], .int .i64 E]) rfl rfl (fun u _ => exec_mv rfl rfl) ?_
                  simp only [Act.put, List.setIfInBounds_toArray, List.set_cons_succ, List.set_cons_zero]
                  refine wpT_yield (v := .agg #[.slice pT T.length T.length]) rfl rfl (fun u _ => by go_simp) ?_
                  simp only [Act.put, List.setIfInBounds_toArray, List.set_cons_succ, List.set_cons_zero]
                  refine wpT_yield (v := .int .i64 E) rfl rfl (fun u _ => by go_simp) ?_
                  simp only [Act.put, List.setIfInBounds_toArray, List.set_cons_succ, List.set_cons_zero]
                  have hgA : Y.heap[V.heap.size]? = some (.cells #[.slice none 0 0] 42) := heap_kept (heap_kept (heap_alloc_new _ _) hbX) hbY
                  have k0 : Y.cell? ⟨V.heap.size, 0, none⟩ = some (.slice none 0 0) := Joins.cell_of_block hgA 0
                  have k1 : Y.frozen? ⟨V.heap.size, 0, none⟩ = false := Joins.unfrozen_of_block hgA 0
                  have hgB : (Y.setCell ⟨V.heap.size, 0, none⟩ (.slice pT T.length T.length)).heap[V.heap.size]? = some (.cells #[.slice pT T.length T.length] 42) := heap_setCell_same Y _ 0 _ 42 _ hgA
                  have hqB : Below A5.heap.size A5 (Y.setCell ⟨V.heap.size, 0, none⟩ (.slice pT T.length T.length)) := hqY.setCell hq.size _
                  refine wpT_do (w' := Y.setCell ⟨V.heap.size, 0, none⟩ (.slice pT T.length T.length)) rfl rfl (by go_simp) hqB ?_ wpT_stop
                  simp only [Act.put]
                  refine wpT_yield (v := .int .i64 E) rfl rfl (fun u _ => by go_simp) ?_
                  simp only [Act.put, List.setIfInBounds_toArray, List.set_cons_succ, List.set_cons_zero]
                  refine wpT_fin ?_
                  have hdq : pT = none ∧ T = [] ∨ ∃ q, pT = some ⟨q, 0, none⟩ ∧ A5.heap.size ≤ q ∧ q ≠ V.heap.size ∧ (Y.setCell ⟨V.heap.size, 0, none⟩ (.slice pT T.length T.length)).heap[q]? = some (.cells (H.listRow T) 3) := by
                    rcases hdec with hd | ⟨q, hd1, hd2, hd3⟩
                    · exact .inl hd
                    · have hne : q ≠ V.heap.size := by have h9 := Nat.le_trans hbX.size hd2; simp at h9; omega
                      exact .inr ⟨q, hd1, Nat.le_trans hqX.size hd2, hne, (heap_setCell_other _ _ _ _ hne).trans (hd3)⟩
                  have HRel := Hid.mk' (And.intro hqB (And.intro hq.size (And.intro hgB hdq)))
                  clear hqB hgB hdq k0 k1 hgA hdec
                  generalize Y.setCell ⟨V.heap.size, 0, none⟩ (.slice pT T.length T.length) = ZZ at HRel ⊢
                  go_wp2_with fail
                  go_meet
                  case rel => exact ⟨_, pT, rfl, rfl, HRel.out⟩
                · exact wpT_stop
              · exact wpT_stop
            · exact wpT_stop
          case rest =>
            obtain ⟨gH, pT, rfl, rfl, HR⟩ := hcut
            obtain ⟨kq, hkq1, hkq2, hsK⟩ : ∃ kq : List (Nat × Obj), (T ≠ [] → ∃ q, pT = some ⟨q, 0, none⟩ ∧ (q, Obj.cells (H.listRow T) 3) ∈ kq) ∧ (∀ x ∈ kq, x.1 ≠ gH ∧ x.1 < wc.heap.size) ∧ Sits A3 wc d t4 ((gH, .cells #[.slice pT T.length T.length] 42) :: kq) := by
              obtain ⟨r1, r2, r3, r4⟩ := HR.out
              rcases r4 with ⟨h1, h2⟩ | ⟨q, h1, h2, h3, h4⟩
              · exact ⟨[], fun q => absurd h2 q, fun x hx => by simp at hx, HS5.out.addL r1 [(gH, .cells #[.slice pT T.length T.length] 42)] (fun x hx => by simp at hx; subst hx; exact ⟨r2, r3⟩)⟩
              · exact ⟨[(q, .cells (H.listRow T) 3)], fun _ => ⟨q, h1, by simp⟩, fun x hx => by simp at hx; subst hx; exact ⟨h3, (Array.getElem?_eq_some_iff.1 h4).1⟩, HS5.out.addL r1 [(gH, .cells #[.slice pT T.length T.length] 42), (q, .cells (H.listRow T) 3)] (fun x hx => by simp at hx; rcases hx with rfl | rfl; exact ⟨r2, r3⟩; exact ⟨h2, h4⟩)⟩
            have HKq1 := Hid.mk' hkq1
            have HKq2 := Hid.mk' hkq2
            have HgH := Hid.mk' (show A3.heap.size ≤ gH ∧ gH < wc.heap.size from ⟨Nat.le_trans HS5.out.below.size HR.out.2.1, (Array.getElem?_eq_some_iff.1 HR.out.2.2.1).1⟩)
            have HSK := Hid.mk' hsK
            have HRow := Hid.mk' (fun (W : World) (s : St) (ks : List (Nat × Obj)) (hs : Sits A3 W d s ks) => And.intro (heap_kept HG3.out hs.below) (heap_kept HX3.out hs.below))
            have HBel := Hid.mk' (fun (W : World) (s : St) (ks : List (Nat × Obj)) (hs : Sits A3 W d s ks) => below_next HB3.out hs.below)
            have hbn' : b ≤ n := by omega
            clear hkq1 hkq2 hsK HR HS5 HDc HAt HSc
            rcases HCs.out with ⟨hE4, hT4⟩ | ⟨hE0, hM⟩
            · subst hE4 hT4
              have HXHSK := Hid.mk' (HRow.out _ _ _ HSK.out).2
              have HNwB1 := Hid.mk' (newB HSK.out hf hbn' HV4.out HK4.out (by omega) (f := 4) (by rw [HEE.out]; rfl))
              rw [HLA.out] at HNwB1
              unfold ptr at HNwB1
              go_wp2_with (first | (with_reducible refine isLoad 30 ?_; refine wpList_ldR 30 Try.underlying30 rfl rfl _ rfl _ rfl LA 30 (0, 0) HS9.out HXHSK.out ?_) | (go_at_call 11; fail))
              refine Calls.mono HNwB1.out ?_
              rintro e B1 ⟨vNB1, tB1, rfl, hsB1, hvB1, hkB1, hmB1⟩
              have HsB1 := Hid.mk' hsB1
              have HvB1 := Hid.mk' hvB1
              have HkB1 := Hid.mk' hkB1
              have HmB1 := Hid.mk' hmB1
              clear hsB1 hvB1 hkB1 hmB1 HNwB1
              have gh : B1.cell? ⟨gH, 0, none⟩ = some (.slice pT 0 0) := Joins.cell_of_block (HsB1.out.blk (List.mem_cons_self ..)) 0
              have HMdB2 := Hid.mk' (sits_made HsB1.out)
              rw [HmB1.out, HM4.out] at HMdB2
              go_wp2_with (go_at_call 12; fail)
              refine Calls.mono HMdB2.out ?_
              rintro e B2 ⟨rfl, hsB2⟩
              have HsB2 := Hid.mk' hsB2
              clear hsB2 HMdB2
              have HXHsB2 := Hid.mk' (HRow.out _ _ _ HsB2.out).2
              have HRcB3 := Hid.mk' (recNone HsB2.out hf hbn' HvB1.out HkB1.out (by omega) (HTT.out) (HEE.out))
              rw [HLA.out] at HRcB3
              unfold ptr at HRcB3
              go_wp2_with (first | (with_reducible refine isLoad 30 ?_; refine wpList_ldR 30 Try.underlying30 rfl rfl _ rfl _ rfl LA 30 (0, 0) HS9.out HXHsB2.out ?_) | (go_at_call 13; fail))
              refine Calls.mono HRcB3.out ?_
              rintro e B3 ⟨tB3, rfl, hsB3, hvB3, hkB3, hmB3⟩
              have HsB3 := Hid.mk' hsB3
              have HvB3 := Hid.mk' hvB3
              have HkB3 := Hid.mk' hkB3
              have HmB3 := Hid.mk' hmB3
              clear hsB3 hvB3 hkB3 hmB3 HRcB3
              have HMdB4 := Hid.mk' (sits_made HsB3.out)
              rw [HmB3.out, HmB1.out, HM4.out] at HMdB4
              go_wp2_with (go_at_call 12; fail)
              refine Calls.mono HMdB4.out ?_
              rintro e B4 ⟨rfl, hsB4⟩
              have HsB4 := Hid.mk' hsB4
              clear hsB4 HMdB4
              have HFin := Hid.mk' (HBel.out _ _ _ HsB4.out)
              go_wp2
              go_ret
              exact ⟨rfl, HFin.out⟩
            · subst hE0
              by_cases hT0 : T = []
              · subst hT0
                have HXHSK := Hid.mk' (HRow.out _ _ _ HSK.out).2
                have HNwB1 := Hid.mk' (newB HSK.out hf hbn' HV4.out HK4.out (by omega) (f := 0) (by rw [HEE.out, HTT.out]; rfl))
                rw [HLA.out] at HNwB1
                unfold ptr at HNwB1
                go_wp2_with (first | (with_reducible refine isLoad 30 ?_; refine wpList_ldR 30 Try.underlying30 rfl rfl _ rfl _ rfl LA 30 (0, 0) HS9.out HXHSK.out ?_) | (go_at_call 11; fail))
                refine Calls.mono HNwB1.out ?_
                rintro e B1 ⟨vNB1, tB1, rfl, hsB1, hvB1, hkB1, hmB1⟩
                have HsB1 := Hid.mk' hsB1
                have HvB1 := Hid.mk' hvB1
                have HkB1 := Hid.mk' hkB1
                have HmB1 := Hid.mk' hmB1
                clear hsB1 hvB1 hkB1 hmB1 HNwB1
                have gh : B1.cell? ⟨gH, 0, none⟩ = some (.slice pT 0 0) := Joins.cell_of_block (HsB1.out.blk (List.mem_cons_self ..)) 0
                have HMdB2 := Hid.mk' (sits_made HsB1.out)
                rw [HmB1.out, HM4.out] at HMdB2
                go_wp2_with (go_at_call 12; fail)
                refine Calls.mono HMdB2.out ?_
                rintro e B2 ⟨rfl, hsB2⟩
                have HsB2 := Hid.mk' hsB2
                clear hsB2 HMdB2
                clear gh
                have HXHsB2 := Hid.mk' (HRow.out _ _ _ HsB2.out).2
                have HRcB3 := Hid.mk' (recNone HsB2.out hf hbn' HvB1.out HkB1.out (by omega) (HTT.out) (HEE.out))
                rw [HLA.out] at HRcB3
                unfold ptr at HRcB3
                go_wp2_with (first | (with_reducible refine isLoad 30 ?_; refine wpList_ldR 30 Try.underlying30 rfl rfl _ rfl _ rfl LA 30 (0, 0) HS9.out HXHsB2.out ?_) | (go_at_call 13; fail))
                refine Calls.mono HRcB3.out ?_
                rintro e B3 ⟨tB3, rfl, hsB3, hvB3, hkB3, hmB3⟩
                have HsB3 := Hid.mk' hsB3
                have HvB3 := Hid.mk' hvB3
                have HkB3 := Hid.mk' hkB3
                have HmB3 := Hid.mk' hmB3
                clear hsB3 hvB3 hkB3 hmB3 HRcB3
                have e0 : B3.cell? ⟨w.heap.size, 0, none⟩ = some (.int .i64 n) := Joins.cell_of_block (HRow.out _ _ _ HsB3.out).1 0
                have e1 : B3.cell? ⟨w.heap.size, 1, none⟩ = some (.slice p N cap) := Joins.cell_of_block (HRow.out _ _ _ HsB3.out).1 1
                have HSw := Hid.mk' (HsB3.out.add (.cells #[.int .i64 n, .slice p N cap] 24))
                have Hg12 := Hid.mk' (show A3.heap.size ≤ B3.heap.size from HsB3.out.below.size)
                have Hlt12 := Hid.mk' (show ∀ x ∈ ((gH, .cells #[.slice pT ([] : List Int).length ([] : List Int).length] 42) :: kq), x.1 ≠ B3.heap.size from fun x hx => by
                  obtain ⟨L, _, hS⟩ := HsB3.out
                  have := (Array.getElem?_eq_some_iff.1 (hS.keep x hx).1).1
                  omega)
                have HIw := Hid.mk' ((HI.out.later (HBel.out _ _ _ HsB3.out)).later (below_new B3 (.cells #[.int .i64 n, .slice p N cap] 24)))
                go_upto_region 16 with fail
                generalize B3.alloc (.cells #[.int .i64 n, .slice p N cap] 24) = X0 at *
                clear e0 e1
                generalize B3.heap.size = g12 at *
                go_wp2
                go_loopw [13] (fun s13 wx => s13 = .int .i64 0 ∧ wx = X0) (fun _ _ => 0)
                case atStart => exact ⟨rfl, rfl⟩
                case round =>
                  obtain ⟨rfl, rfl⟩ := hrel
                  have gh : wr.cell? ⟨gH, 0, none⟩ = some (.slice pT 0 0) := Joins.cell_of_block (HSw.out.blk (List.mem_cons_of_mem _ (List.mem_cons_self ..))) 0
                  have HXr := Hid.mk' (HRow.out _ _ _ HSw.out).2
                  have h0d : decT b l (atL m 1) = [] := HTT.out
                  have hEd : decE b l (atL m 1) = 0 := HEE.out
                  have HRc4 := Hid.mk' (recNone HSw.out hf hbn' HvB3.out HkB3.out (by omega) h0d hEd)
                  rw [HLA.out] at HRc4
                  unfold ptr at HRc4
                  have Hh0d := Hid.mk' h0d
                  have HhEd := Hid.mk' hEd
                  clear h0d hEd
                  go_wp2_with (first | (with_reducible refine isLoad 30 ?_; refine wpList_ldR 30 Try.underlying30 rfl rfl _ rfl _ rfl LA 30 (0, 0) HS9.out HXr.out ?_) | (go_at_call 13; fail))
                  refine Calls.mono HRc4.out ?_
                  rintro e C4 ⟨t4', rfl, hs4, hv4, hk4, hm4⟩
                  have Hs4' := Hid.mk' hs4
                  have Hv4' := Hid.mk' hv4
                  have Hk4' := Hid.mk' hk4
                  clear hs4 hv4 hk4 hm4 HRc4
                  have HXs := Hid.mk' (HRow.out _ _ _ Hs4'.out).2
                  have HNw5 := Hid.mk' (newB Hs4'.out hf hbn' Hv4'.out Hk4'.out (by omega) (f := 0) (if_pos ⟨HhEd.out, Hh0d.out⟩).symm)
                  rw [HLA.out] at HNw5
                  unfold ptr at HNw5
                  go_wp2_with (first | (with_reducible refine isLoad 30 ?_; refine wpList_ldR 30 Try.underlying30 rfl rfl _ rfl _ rfl LA 30 (0, 0) HS9.out HXs.out ?_) | (go_at_call 11; fail))
                  refine Calls.mono HNw5.out ?_
                  rintro e C5 ⟨vN5, t5', rfl, hs5, hv5, hk5, hm5⟩
                  have Hs5' := Hid.mk' hs5
                  have Hv5' := Hid.mk' hv5
                  have Hk5' := Hid.mk' hk5
                  clear hs5 hv5 hk5 hm5 HNw5
                  have HTo := Hid.mk' (fun (W : World) (s : St) (hs : Sits A3 W d s ((g12, .cells #[.int .i64 n, .slice p N cap] 24) :: (gH, .cells #[.slice pT 0 0] 42) :: kq)) => show W.cell? ⟨gH, 0, none⟩ = some (.slice pT 0 0) ∧ W.heap[g12]? = some (.cells #[.int .i64 n, .slice p N cap] 24) from ⟨Joins.cell_of_block (hs.blk (List.mem_cons_of_mem _ (List.mem_cons_self ..))) 0, hs.blk (List.mem_cons_self ..)⟩)
                  have HImg := Hid.mk' (fun (W : World) (ks : List (Nat × Obj)) (hs : Sits A3 W d t5' ks) => HI.out.later (HBel.out _ _ _ hs))
                  go_wp2
                  refine wp_region_ord (S := fun u => u.cell? ⟨gH, 0, none⟩ = some (.slice pT 0 0) ∧ u.heap[g12]? = some (.cells #[.int .i64 n, .slice p N cap] 24)) [(0, true), (1, true), (2, true), (3, true), (4, true), (5, true), (6, true), (7, true), (8, true), (9, true), (10, true), (11, true), (12, true), (13, true), (14, true), (15, true), (16, true), (17, true), (18, true), (19, true), (20, true), (21, true), (22, true), (23, false), (24, true), (25, true), (26, true), (27, true), (28, true), (30, true), (29, false), (31, false), (32, true), (33, true)]
                    (by kernel_rfl) rfl (by kernel_rfl) (fun d _ _ _ _ h => by cases d <;> exact h) (HTo.out _ _ (Hs5'.out.later (Below.refl _ _).drew)) ?_
                  have HsD := Hid.mk' (Hs5'.out.later (Below.refl _ _).drew)
                  generalize C5.drew = V5 at *
                  simp only [inOrd, List.getElem?_cons_zero, List.getElem?_cons_succ]
                  refine wpOrd_yield (v := .int .i64 0) rfl (fun u _ => exec_mv rfl rfl) ?_
                  simp only [Act.put, List.setIfInBounds_toArray, List.set_cons_succ, List.set_cons_zero]
                  refine wpOrd_yield (v := .bool true) rfl (fun u _ => by go_simp) ?_
                  simp only [Act.put, List.setIfInBounds_toArray, List.set_cons_succ, List.set_cons_zero]
                  refine wpOrd_yield (v := .bool true) rfl (fun u _ => exec_mv rfl rfl) ?_
                  simp only [Act.put, List.setIfInBounds_toArray, List.set_cons_succ, List.set_cons_zero]
                  refine wpOrd_yield (v := .int .i64 0) rfl (fun u _ => exec_mv rfl rfl) ?_
                  simp only [Act.put, List.setIfInBounds_toArray, List.set_cons_succ, List.set_cons_zero]
                  refine wpOrd_yield (v := .pointer (some ⟨gH, 0, none⟩)) rfl (fun u _ => by go_simp) ?_
                  simp only [Act.put, List.setIfInBounds_toArray, List.set_cons_succ, List.set_cons_zero]
                  refine wpOrd_yield (v := .slice pT 0 0) rfl (fun u hu => by have := hu.1; go_simp) ?_
                  simp only [Act.put, List.setIfInBounds_toArray, List.set_cons_succ, List.set_cons_zero]
                  refine wpOrd_yield (v := .int .i64 0) rfl (fun u _ => by go_simp) ?_
                  simp only [Act.put, List.setIfInBounds_toArray, List.set_cons_succ, List.set_cons_zero]
                  refine wpOrd_yield (v := .bool true) rfl (fun u _ => by go_simp) ?_
                  simp only [Act.put, List.setIfInBounds_toArray, List.set_cons_succ, List.set_cons_zero]
                  refine wpOrd_yield (v := .bool true) rfl (fun u _ => by go_simp) ?_
                  simp only [Act.put, List.setIfInBounds_toArray, List.set_cons_succ, List.set_cons_zero]
                  refine wpOrd_yield (v := .bool true) rfl (fun u _ => exec_mv rfl rfl) ?_
                  simp only [Act.put, List.setIfInBounds_toArray, List.set_cons_succ, List.set_cons_zero]
                  refine wpOrd_yield (v := .int .i64 0) rfl (fun u _ => exec_mv rfl rfl) ?_
                  simp only [Act.put, List.setIfInBounds_toArray, List.set_cons_succ, List.set_cons_zero]
                  refine wpOrd_yield (v := .bool true) rfl (fun u _ => by go_simp) ?_
                  simp only [Act.put, List.setIfInBounds_toArray, List.set_cons_succ, List.set_cons_zero]
                  refine wpOrd_yield (v := .bool true) rfl (fun u _ => by go_simp) ?_
                  simp only [Act.put, List.setIfInBounds_toArray, List.set_cons_succ, List.set_cons_zero]
                  refine wpOrd_yield (v := .bool true) rfl (fun u _ => exec_mv rfl rfl) ?_
                  simp only [Act.put, List.setIfInBounds_toArray, List.set_cons_succ, List.set_cons_zero]
                  refine wpOrd_yield (v := .int .i64 0) rfl (fun u _ => exec_mv rfl rfl) ?_
                  simp only [Act.put, List.setIfInBounds_toArray, List.set_cons_succ, List.set_cons_zero]
                  refine wpOrd_yield (v := .bool true) rfl (fun u _ => by go_simp) ?_
                  simp only [Act.put, List.setIfInBounds_toArray, List.set_cons_succ, List.set_cons_zero]
                  refine wpOrd_yield (v := .bool true) rfl (fun u _ => by go_simp) ?_
                  simp only [Act.put, List.setIfInBounds_toArray, List.set_cons_succ, List.set_cons_zero]
                  refine wpOrd_yield (v := .bool true) rfl (fun u _ => exec_mv rfl rfl) ?_
                  simp only [Act.put, List.setIfInBounds_toArray, List.set_cons_succ, List.set_cons_zero]
                  refine wpOrd_yield (v := .int .i64 0) rfl (fun u _ => exec_mv rfl rfl) ?_
                  simp only [Act.put, List.setIfInBounds_toArray, List.set_cons_succ, List.set_cons_zero]
                  refine wpOrd_yield (v := .bool true) rfl (fun u _ => by go_simp) ?_
                  simp only [Act.put, List.setIfInBounds_toArray, List.set_cons_succ, List.set_cons_zero]
                  refine wpOrd_yield (v := .bool true) rfl (fun u _ => by go_simp) ?_
                  simp only [Act.put, List.setIfInBounds_toArray, List.set_cons_succ, List.set_cons_zero]
                  refine wpOrd_yield (v := .bool true) rfl (fun u _ => exec_mv rfl rfl) ?_
                  simp only [Act.put, List.setIfInBounds_toArray, List.set_cons_succ, List.set_cons_zero]
                  refine wpOrd_yield (v := .pointer (some ⟨d, 0, none⟩)) rfl (fun u _ => exec_mv rfl rfl) ?_
                  simp only [Act.put, List.setIfInBounds_toArray, List.set_cons_succ, List.set_cons_zero]
                  refine wpOrd_call rfl 15 _ _ rfl Try.call15 [.pointer (some ⟨d, 0, none⟩)] rfl ?_
                  refine Calls.mono (sits_pending HsD.out (by rw [Hv5'.out.wait]; decide)) ?_
                  rintro e C6 ⟨rfl, _, hs6⟩
                  have Hs6' := Hid.mk' hs6
                  rw [Hv5'.out.wait]
                  refine ⟨_, rfl, HTo.out _ _ Hs6'.out, ?_⟩
                  clear hs6
                  simp only [Act.put, List.setIfInBounds_toArray, List.set_cons_succ, List.set_cons_zero]
                  refine wpOrd_yield (v := .int .i64 0) rfl (fun u _ => by go_simp) ?_
                  simp only [Act.put, List.setIfInBounds_toArray, List.set_cons_succ, List.set_cons_zero]
                  refine wpOrd_yield (v := .bool true) rfl (fun u _ => by go_simp) ?_
                  simp only [Act.put, List.setIfInBounds_toArray, List.set_cons_succ, List.set_cons_zero]
                  refine wpOrd_yield (v := .bool true) rfl (fun u _ => by go_simp) ?_
                  simp only [Act.put, List.setIfInBounds_toArray, List.set_cons_succ, List.set_cons_zero]
                  refine wpOrd_yield (v := .bool true) rfl (fun u _ => exec_mv rfl rfl) ?_
                  simp only [Act.put, List.setIfInBounds_toArray, List.set_cons_succ, List.set_cons_zero]
                  refine wpOrd_yield (v := .pointer (some ⟨d, 0, none⟩)) rfl (fun u _ => exec_mv rfl rfl) ?_
                  simp only [Act.put, List.setIfInBounds_toArray, List.set_cons_succ, List.set_cons_zero]
                  refine wpOrd_yield (v := .agg #[.int .i64 n, .slice p N cap]) rfl (fun u hu => by have c0 : u.cell? ⟨g12, 0, none⟩ = some (.int .i64 n) := Joins.cell_of_block hu.2 0; have c1 : u.cell? ⟨g12, 1, none⟩ = some (.slice p N cap) := Joins.cell_of_block hu.2 1; go_simp) ?_
                  simp only [Act.put, List.setIfInBounds_toArray, List.set_cons_succ, List.set_cons_zero]
                  refine wpOrd_call rfl 17 _ _ rfl Try.call17 [.pointer (some ⟨d, 0, none⟩)] rfl ?_
                  refine Calls.mono (imageB Hs6'.out Hv5'.out (m := m) HRi.out HSo.out (fun _ => rfl)) ?_
                  rintro e C7 ⟨gi, rfl, hr7, hs7⟩
                  have Hs7' := Hid.mk' hs7
                  have HIr := Hid.mk' (img_row hr7)
                  rw [HN.out]
                  refine ⟨_, rfl, HTo.out _ _ Hs7'.out, ?_⟩
                  clear hs7 hr7
                  simp only [Act.put, List.setIfInBounds_toArray, List.set_cons_succ, List.set_cons_zero]
                  have HSI := Hid.mk' (sameImage_any n n (m) (m) (some ⟨gi, 0, none⟩) p N cap C7 (by have := HN.out; omega) (by have := HN.out; omega) HIr.out (HImg.out C7 _ Hs7'.out))
                  rw [(celsB_iff (fun c hc => ((HSo.out) c hc).1) (fun c hc => ((HSo.out) c hc).1)).2 rfl, show ((n == n) && true) = true by simp, HN.out] at HSI
                  refine wpOrd_call rfl 16 _ _ rfl Try.call16 [.agg #[.int .i64 n, .slice (some ⟨gi, 0, none⟩) N N], .agg #[.int .i64 n, .slice p N cap]] rfl ?_
                  refine Calls.mono HSI.out ?_
                  rintro e C8 ⟨rfl, hb8⟩
                  have Hs8' := Hid.mk' (Hs7'.out.later hb8)
                  refine ⟨_, rfl, HTo.out _ _ Hs8'.out, ?_⟩
                  clear hb8 HSI
                  simp only [Act.put, List.setIfInBounds_toArray, List.set_cons_succ, List.set_cons_zero]
                  refine wpOrd_yield (v := .bool true) rfl (fun u _ => by go_simp) ?_
                  simp only [Act.put, List.setIfInBounds_toArray, List.set_cons_succ, List.set_cons_zero]
                  refine wpOrd_yield (v := .bool true) rfl (fun u _ => by go_simp) ?_
                  simp only [Act.put, List.setIfInBounds_toArray, List.set_cons_succ, List.set_cons_zero]
                  refine wpOrd_nil ?_
                  have HFin := Hid.mk' (HBel.out _ _ _ Hs8'.out)
                  go_wp2
                  go_ret
                  exact ⟨rfl, HFin.out⟩
              · have hT0' : (T.length : Int) ≠ 0 := by have := List.length_pos_iff.2 hT0; omega
                have HXHSK := Hid.mk' (HRow.out _ _ _ HSK.out).2
                have hf4 : (4 : Int) = if decE b l (atL m 1) = 0 ∧ decT b l (atL m 1) = [] then 0 else 4 := by rw [HTT.out, if_neg (fun q => hT0 q.2)]
                have HNwB1 := Hid.mk' (newB HSK.out hf hbn' HV4.out HK4.out (by omega) hf4)
                rw [HLA.out] at HNwB1
                unfold ptr at HNwB1
                clear hf4
                go_wp2_with (first | (with_reducible refine isLoad 30 ?_; refine wpList_ldR 30 Try.underlying30 rfl rfl _ rfl _ rfl LA 30 (0, 0) HS9.out HXHSK.out ?_) | (go_at_call 11; fail))
                refine Calls.mono HNwB1.out ?_
                rintro e B1 ⟨vNB1, tB1, rfl, hsB1, hvB1, hkB1, hmB1⟩
                have HsB1 := Hid.mk' hsB1
                have HvB1 := Hid.mk' hvB1
                have HkB1 := Hid.mk' hkB1
                have HmB1 := Hid.mk' hmB1
                clear hsB1 hvB1 hkB1 hmB1 HNwB1
                have gh : B1.cell? ⟨gH, 0, none⟩ = some (.slice pT T.length T.length) := Joins.cell_of_block (HsB1.out.blk (List.mem_cons_self ..)) 0
                have HMdB2 := Hid.mk' (sits_made HsB1.out)
                rw [HmB1.out, HM4.out] at HMdB2
                go_wp2_with (go_at_call 12; fail)
                refine Calls.mono HMdB2.out ?_
                rintro e B2 ⟨rfl, hsB2⟩
                have HsB2 := Hid.mk' hsB2
                clear hsB2 HMdB2 gh
                have HXHsB2 := Hid.mk' (HRow.out _ _ _ HsB2.out).2
                have HRcB3 := Hid.mk' (recSome HsB2.out hf hbn' HvB1.out HkB1.out (by omega) HTT.out hT0 HEE.out hM)
                rw [HLA.out] at HRcB3
                unfold ptr at HRcB3
                go_wp2_with (first | (with_reducible refine isLoad 30 ?_; refine wpList_ldR 30 Try.underlying30 rfl rfl _ rfl _ rfl LA 30 (0, 0) HS9.out HXHsB2.out ?_) | (go_at_call 13; fail))
                refine Calls.mono HRcB3.out ?_
                rintro e B3 ⟨tB3, rfl, hsB3, hvB3, hkB3⟩
                have HsB3 := Hid.mk' hsB3
                have HvB3 := Hid.mk' hvB3
                have HkB3 := Hid.mk' hkB3
                clear hsB3 hvB3 hkB3 HRcB3
                have e0 : B3.cell? ⟨w.heap.size, 0, none⟩ = some (.int .i64 n) := Joins.cell_of_block (HRow.out _ _ _ HsB3.out).1 0
                have e1 : B3.cell? ⟨w.heap.size, 1, none⟩ = some (.slice p N cap) := Joins.cell_of_block (HRow.out _ _ _ HsB3.out).1 1
                have HSw := Hid.mk' (HsB3.out.add (.cells #[.int .i64 n, .slice p N cap] 24))
                have Hg12 := Hid.mk' (show A3.heap.size ≤ B3.heap.size from HsB3.out.below.size)
                have Hlt12 := Hid.mk' (show ∀ x ∈ ((gH, .cells #[.slice pT T.length T.length] 42) :: kq), x.1 ≠ B3.heap.size from fun x hx => by
                  obtain ⟨L, _, hS⟩ := HsB3.out
                  have := (Array.getElem?_eq_some_iff.1 (hS.keep x hx).1).1
                  omega)
                have HIw := Hid.mk' ((HI.out.later (HBel.out _ _ _ HsB3.out)).later (below_new B3 (.cells #[.int .i64 n, .slice p N cap] 24)))
                go_upto_region 16 with fail
                generalize B3.alloc (.cells #[.int .i64 n, .slice p N cap] 24) = X0 at *
                clear e0 e1
                generalize B3.heap.size = g12 at *
                have HIW0 : Hid (ImgAt X0 p (wantL m T 0)) := HIw.out
                rw [← HN.out] at HSw
                go_wp2
                go_loopw [13] (fun s13 wx => ∃ (k : Nat) (pk : Option Addr) (ck : Nat), k ≤ T.length ∧ s13 = .int .i64 k ∧ Hid (Sits A3 wx d tB3 ((g12, .cells #[.int .i64 n, .slice pk (wantL m T k).length ck] 24) :: ((gH, .cells #[.slice pT T.length T.length] 42) :: kq)) ∧ ImgAt wx pk (wantL m T k))) (fun s13 _ => T.length - (intOf s13).toNat)
                case atStart => exact ⟨0, p, cap, by omega, rfl, HSw.out, HIW0.out⟩
                case round =>
                  obtain ⟨k, pk, ck, hk, rfl, HL⟩ := hrel
                  clear HSw HIW0 HIw
                  have gh : wr.cell? ⟨gH, 0, none⟩ = some (.slice pT T.length T.length) := Joins.cell_of_block (HL.out.1.blk (List.mem_cons_of_mem _ (List.mem_cons_self ..))) 0
                  by_cases hk2 : (k : Int) < T.length
                  · obtain ⟨q, rfl, hq⟩ := HKq1.out hT0
                    have hy0 : T[k]? = some (T[k]'(by omega)) := List.getElem?_eq_getElem _
                    have hyd : T.getD k 0 = T[k]'(by omega) := by rw [List.getD_eq_getElem?_getD, hy0]; rfl
                    generalize T[k]'(by omega) = y at hy0 hyd
                    have Hyd := Hid.mk' hyd
                    have hrowq := HL.out.1.blk (List.mem_cons_of_mem _ (List.mem_cons_of_mem _ hq))
                    have hrowH := HL.out.1.blk (List.mem_cons_of_mem _ (List.mem_cons_self ..))
                    have hrow12 := HL.out.1.blk (List.mem_cons_self ..)
                    have hrows := HRow.out _ _ _ HL.out.1
                    have hcq : wr.cell? ⟨q, k, none⟩ = some (.int .i64 y) := by rw [cell_of_row wr q k _ 3 _ hrowq]; unfold H.listRow; rw [List.getElem?_toArray, List.getElem?_map, hy0]; rfl
                    have nq : q ≠ g12 := Hlt12.out _ (List.mem_cons_of_mem _ hq)
                    have nH : gH ≠ g12 := Hlt12.out _ (List.mem_cons_self ..)
                    have ng1 : w.heap.size ≠ g12 := by have h1 := Hg12.out; have h2 := (Array.getElem?_eq_some_iff.1 HG3.out).1; omega
                    have ng3 : g3 ≠ g12 := by have h1 := Hg12.out; have h2 := (Array.getElem?_eq_some_iff.1 HX3.out).1; omega
                    have HRd := Hid.mk' (fun (u : World) (hu : Fr (fun i => i = g12) wr u) => show u.cell? ⟨gH, 0, none⟩ = some (.slice (some ⟨q, 0, none⟩) T.length T.length) ∧ u.cell? ⟨q, k, none⟩ = some (.int .i64 y) ∧ u.cell? ⟨w.heap.size, 0, none⟩ = some (.int .i64 n) ∧ u.cell? ⟨w.heap.size, 1, none⟩ = some (.slice p N cap) ∧ u.cell? ⟨g3, 3, none⟩ = some (.int .i64 1) from
                      ⟨(World.cell?_of_block (a := ⟨gH, 0, none⟩) (hu.block gH (Array.getElem?_eq_some_iff.1 hrowH).1 nH)).trans gh, (World.cell?_of_block (a := ⟨q, k, none⟩) (hu.block q (Array.getElem?_eq_some_iff.1 hrowq).1 nq)).trans hcq, Joins.cell_of_block ((hu.block _ (Array.getElem?_eq_some_iff.1 hrows.1).1 ng1).trans hrows.1) 0, Joins.cell_of_block ((hu.block _ (Array.getElem?_eq_some_iff.1 hrows.1).1 ng1).trans hrows.1) 1, (cell_of_row u g3 3 LA 30 _ ((hu.block _ (Array.getElem?_eq_some_iff.1 hrows.2).1 ng3).trans hrows.2)).trans HL1.out⟩)
                    have HAt2 := Hid.mk' (at_any n m p cap (2 + (k : Int)) wr.drew (by have := HN.out; omega) ((HI.out.later (HBel.out _ _ _ HL.out.1)).later (Below.refl _ _).drew))
                    rw [HN.out] at HAt2
                    have hD : Fr (fun i => i = g12) wr wr.drew := Fr.drew wr
                    have hB0 : wr.drew.heap[g12]? = some (.cells #[.int .i64 n, .slice pk (wantL m T k).length ck] 24) := hrow12
                    have HHL := Hid.mk' HL.out
                    have HL300 := Hid.mk' (show (wantL m T k).length ≤ 1000000 by have h1 := wantL_len m T k; have h2 := HN.out; have h3 := hM.1; have h4 := hf.2.1; omega)
                    clear hrowq hrowH hrow12 hrows hcq HL gh hy0 hyd hq
                    have gh : wr.cell? ⟨gH, 0, none⟩ = some (.slice (some ⟨q, 0, none⟩) T.length T.length) := (HRd.out wr (Fr.refl _ _)).1
                    go_wp2
                    refine wp_region_ph (A := fun u => Fr (fun i => i = g12) wr u) (B := fun u => u.heap[g12]? = some (.cells #[.int .i64 n, .slice pk (wantL m T k).length ck] 24)) 14 [(0, 1), (1, 0), (2, 0), (3, 0), (4, 0), (5, 0), (6, 0), (7, 0), (8, 0), (9, 0), (10, 0), (11, 0), (12, 0), (13, 2), (14, 2), (15, 2)] (by kernel_rfl) rfl (by kernel_rfl) (fun d _ _ _ _ h => by cases d <;> exact h) hD hB0 ?_
                    simp only [inOrdC, List.getElem?_cons_zero, List.getElem?_cons_succ]
                    refine wpPh_read (v := .agg #[.int .i64 n, .slice pk (wantL m T k).length ck]) rfl (fun u _ hB => by have c0 : u.cell? ⟨g12, 0, none⟩ = some (.int .i64 n) := Joins.cell_of_block hB 0; have c1 : u.cell? ⟨g12, 1, none⟩ = some (.slice pk (wantL m T k).length ck) := Joins.cell_of_block hB 1; go_simp) ?_
                    simp only [Act.put, List.setIfInBounds_toArray, List.set_cons_succ, List.set_cons_zero]
                    refine wpPh_yield (v := .pointer (some ⟨gH, 0, none⟩)) rfl (fun u hu => by go_simp) ?_
                    simp only [Act.put, List.setIfInBounds_toArray, List.set_cons_succ, List.set_cons_zero]
                    refine wpPh_yield (v := .slice (some ⟨q, 0, none⟩) T.length T.length) rfl (fun u hu => by have := (HRd.out u hu).1; go_simp) ?_
                    simp only [Act.put, List.setIfInBounds_toArray, List.set_cons_succ, List.set_cons_zero]
                    refine wpPh_yield (v := .int .i64 (k : Int)) rfl (fun u _ => exec_mv rfl rfl) ?_
                    simp only [Act.put, List.setIfInBounds_toArray, List.set_cons_succ, List.set_cons_zero]
                    refine wpPh_yield (v := .pointer (some ⟨q, k, none⟩)) rfl (fun u hu => by go_simp) ?_
                    simp only [Act.put, List.setIfInBounds_toArray, List.set_cons_succ, List.set_cons_zero]
                    refine wpPh_yield (v := .int .i64 y) rfl (fun u hu => by have := (HRd.out u hu).2.1; go_simp) ?_
                    simp only [Act.put, List.setIfInBounds_toArray, List.set_cons_succ, List.set_cons_zero]
                    refine wpPh_yield (v := .pointer (some ⟨w.heap.size, 0, none⟩)) rfl (fun u hu => by go_simp) ?_
                    simp only [Act.put, List.setIfInBounds_toArray, List.set_cons_succ, List.set_cons_zero]
                    refine wpPh_yield (v := .agg #[.int .i64 n, .slice p N cap]) rfl (fun u hu => by have h0 := (HRd.out u hu).2.2.1; have h1 := (HRd.out u hu).2.2.2.1; go_simp) ?_
                    simp only [Act.put, List.setIfInBounds_toArray, List.set_cons_succ, List.set_cons_zero]
                    refine wpPh_yield (v := .pointer (some ⟨g3, 3, none⟩)) rfl (fun u hu => by go_simp) ?_
                    simp only [Act.put, List.setIfInBounds_toArray, List.set_cons_succ, List.set_cons_zero]
                    refine wpPh_yield (v := .int .i64 1) rfl (fun u hu => by have := (HRd.out u hu).2.2.2.2; go_simp) ?_
                    simp only [Act.put, List.setIfInBounds_toArray, List.set_cons_succ, List.set_cons_zero]
                    refine wpPh_yield (v := .int .i64 2) rfl (fun u hu => by go_simp; first | rfl | decide) ?_
                    simp only [Act.put, List.setIfInBounds_toArray, List.set_cons_succ, List.set_cons_zero]
                    refine wpPh_yield (v := .int .i64 (k : Int)) rfl (fun u _ => exec_mv rfl rfl) ?_
                    simp only [Act.put, List.setIfInBounds_toArray, List.set_cons_succ, List.set_cons_zero]
                    have hw2 : IntKind.i64.wrap (2 + (k : Int)) = 2 + (k : Int) := by rw [IntKind.wrap_i64]; have h3 := hM.1; have h4 := hf.2.1; omega
                    refine wpPh_yield (v := .int .i64 (2 + (k : Int))) rfl (fun u hu => by go_simp) ?_
                    simp only [Act.put, List.setIfInBounds_toArray, List.set_cons_succ, List.set_cons_zero]
                    refine wpPh_call rfl 10 _ _ rfl Try.call10 [.agg #[.int .i64 n, .slice p N cap], .int .i64 (2 + (k : Int))] rfl ?_
                    refine Calls.mono HAt2.out ?_
                    rintro e Y1 ⟨rfl, hbY⟩
                    have hF1 : Fr (fun i => i = g12) wr Y1 := hD.trans (Fr.ofBelow (T := fun _ => False) hbY) (fun _ _ q => q.elim)
                    have hB1 : Y1.heap[g12]? = some (.cells #[.int .i64 n, .slice pk (wantL m T k).length ck] 24) := heap_kept hB0 hbY
                    have hbY' : Below wr.heap.size wr Y1 := (Below.refl _ _).drew.trans hbY
                    have hWi := with_any n (wantL m T k) pk ck y (atL m (2 + (k : Int))) Y1 HL300.out (HHL.out.2.later hbY')
                    refine ⟨_, rfl, ⟨hF1, fun _ => hB1⟩, ?_⟩
                    simp only [Act.put, List.setIfInBounds_toArray, List.set_cons_succ, List.set_cons_zero]
                    refine wpPh_call rfl 14 _ _ rfl Try.call14 [.agg #[.int .i64 n, .slice pk (wantL m T k).length ck], .int .i64 y, .agg (blk (atL m (2 + (k : Int))))] rfl ?_
                    refine Calls.mono hWi ?_
                    rintro e Y2 ⟨p', c', rfl, hI2, hnw, hbZ⟩
                    have hF2 : Fr (fun i => i = g12) wr Y2 := hF1.trans (Fr.ofBelow (T := fun _ => False) hbZ) (fun _ _ q => q.elim)
                    have hB2 : Y2.heap[g12]? = some (.cells #[.int .i64 n, .slice pk (wantL m T k).length ck] 24) := heap_kept hB1 hbZ
                    refine ⟨_, rfl, ⟨hF2, fun q => by cases q⟩, ?_⟩
                    simp only [Act.put, List.setIfInBounds_toArray, List.set_cons_succ, List.set_cons_zero]
                    rw [show laidL (wantL m T k) y (atL m (2 + (k : Int))) = wantL m T (k + 1) by rw [← Hyd.out]; rfl] at hI2 ⊢
                    have d0 : Y2.cell? ⟨g12, 0, none⟩ = some (.int .i64 n) := Joins.cell_of_block hB2 0
                    have d1 : Y2.cell? ⟨g12, 1, none⟩ = some (.slice pk (wantL m T k).length ck) := Joins.cell_of_block hB2 1
                    have f0 : Y2.frozen? ⟨g12, 0, none⟩ = false := Joins.unfrozen_of_block hB2 0
                    have f1 : Y2.frozen? ⟨g12, 1, none⟩ = false := Joins.unfrozen_of_block hB2 1
                    have hFz : Fr (fun i => i = g12) Y2 ((Y2.setCell ⟨g12, 0, none⟩ (.int .i64 n)).setCell ⟨g12, 1, none⟩ (.slice p' (wantL m T (k + 1)).length c')) := (Fr.setCell Y2 g12 0 _).trans (Fr.setCell _ g12 1 _) (fun _ _ q => q)
                    have hBz : ((Y2.setCell ⟨g12, 0, none⟩ (.int .i64 n)).setCell ⟨g12, 1, none⟩ (.slice p' (wantL m T (k + 1)).length c')).heap[g12]? = some (.cells #[.int .i64 n, .slice p' (wantL m T (k + 1)).length c'] 24) := heap_setCell_same _ _ 1 _ 24 _ (heap_setCell_same Y2 _ 0 _ 24 _ hB2)
                    have hSz := (HHL.out.1.later (hbY'.trans (hbZ.mono hbY'.size))).setBox hFz hBz Hg12.out Hlt12.out
                    have hIz := hI2.box hB2 rfl hFz
                    refine wpPh_do (w' := ((Y2.setCell ⟨g12, 0, none⟩ (.int .i64 n)).setCell ⟨g12, 1, none⟩ (.slice p' (wantL m T (k + 1)).length c'))) rfl (by go_simp) ⟨hF2.trans hFz (fun _ _ q => q), fun q => by cases q⟩ ?_
                    have HNx := Hid.mk' (And.intro hSz hIz)
                    clear hSz hIz hFz hBz d0 d1 f0 f1 hB2 hF2 hI2 hbZ hWi hbY' hB1 hF1 hbY HAt2 HHL HRd hD hB0 HL300 Hyd
                    generalize ((Y2.setCell ⟨g12, 0, none⟩ (.int .i64 n)).setCell ⟨g12, 1, none⟩ (.slice p' (wantL m T (k + 1)).length c')) = Z9 at HNx ⊢
                    simp only [wpPh]
                    clear gh
                    go_wp2
                    exact ⟨⟨k + 1, p', c', by omega, by go_num, HNx.out⟩, by simp [intOf]; omega⟩
                  · obtain rfl : k = T.length := by omega
                    obtain ⟨hSL, hIL⟩ := HL.out
                    have HSL := Hid.mk' hSL
                    have c0 : wr.cell? ⟨g12, 0, none⟩ = some (.int .i64 n) := Joins.cell_of_block (hSL.blk (List.mem_cons_self ..)) 0
                    have c1 : wr.cell? ⟨g12, 1, none⟩ = some (.slice pk (wantL m T T.length).length ck) := Joins.cell_of_block (hSL.blk (List.mem_cons_self ..)) 1
                    have c3 : wr.cell? ⟨g3, 3, none⟩ = some (.int .i64 1) := (cell_of_row wr g3 3 LA 30 _ (HRow.out _ _ _ hSL).2).trans HL1.out
                    have HLw0 := Hid.mk' (show (wantL m T T.length).length ≤ 1000000 by have h1 := wantL_len m T T.length; have h2 := HN.out; have h3 := hM.1; have h4 := hf.2.1; omega)
                    have HWi := Hid.mk' (with_any n (wantL m T T.length) pk ck 1 nought wr HLw0.out hIL)
                    have hpos : (0 : Int) < T.length := by omega
                    clear hSL hIL HL
                    go_wp2_with (first | (with_reducible refine isBuild 46 ?_; refine wpList_exec rfl (exec_zeroB rfl) ?_) | (go_at_call 14; fail))
                    refine Calls.mono HWi.out ?_
                    rintro e Y2 ⟨p', c', rfl, hI2, hnw, hbZ⟩
                    obtain ⟨kq', hS2, hq12, hImq⟩ : ∃ kq' : List (Nat × Obj), Sits A3 Y2 d tB3 ((g12, .cells #[.int .i64 n, .slice pk (wantL m T T.length).length ck] 24) :: (gH, .cells #[.slice pT T.length T.length] 42) :: kq') ∧ (∀ x ∈ ((gH, Obj.cells #[.slice pT T.length T.length] 42) :: kq'), x.1 ≠ g12) ∧ (∀ W : World, (∀ x ∈ kq', W.heap[x.1]? = some x.2) → ImgAt W p' (laidL (wantL m T T.length) 1 nought)) := by
                      by_cases h0 : 0 < (laidL (wantL m T T.length) 1 nought).length
                      · obtain ⟨b1, o1, hp1, hl1, hc1⟩ := hI2 h0
                        have ho : Y2.heap[b1]? = some (Y2.heap[b1]'hl1) := Array.getElem?_eq_getElem hl1
                        have hlt12 := (Array.getElem?_eq_some_iff.1 (HSL.out.blk (List.mem_cons_self ..))).1
                        have hge := hnw b1 o1 hp1
                        have hAdd := HSL.out.addL hbZ [(b1, Y2.heap[b1]'hl1)] (fun x hx => by simp at hx; subst hx; exact ⟨hge, ho⟩)
                        refine ⟨(b1, Y2.heap[b1]'hl1) :: kq, hAdd.drop (fun x hx => by simp only [List.mem_cons, List.mem_append, List.not_mem_nil, or_false] at hx ⊢; rcases hx with h | h | h | h; exact .inr (.inl h); exact .inr (.inr (.inl h)); exact .inl h; exact .inr (.inr (.inr h))), fun x hx => ?_, fun W hW => ?_⟩
                        · rcases List.mem_cons.1 hx with rfl | hx
                          · exact Hlt12.out _ (List.mem_cons_self ..)
                          · rcases List.mem_cons.1 hx with rfl | hx
                            · simp only at hlt12 ⊢; omega
                            · exact Hlt12.out _ (List.mem_cons_of_mem _ hx)
                        · have hw := (hW _ (List.mem_cons_self ..)).trans ho.symm
                          simp only at hw
                          exact fun _ => ⟨b1, o1, hp1, by have := hW _ (List.mem_cons_self ..); exact (Array.getElem?_eq_some_iff.1 this).1, fun k c hc => ⟨(World.cell?_of_block (a := ⟨b1, o1 + k * 1025, none⟩) hw).trans (hc1 k c hc).1, fun j v hv => (World.cell?_of_block (a := ⟨b1, o1 + k * 1025 + 1 + j, none⟩) hw).trans ((hc1 k c hc).2 j v hv)⟩⟩
                      · exact ⟨kq, HSL.out.later hbZ, Hlt12.out, fun W _ q => absurd q h0⟩
                    have HIq := Hid.mk' hImq
                    have hB2 := hS2.blk (List.mem_cons_self ..)
                    have d0 : Y2.cell? ⟨g12, 0, none⟩ = some (.int .i64 n) := Joins.cell_of_block hB2 0
                    have d1 : Y2.cell? ⟨g12, 1, none⟩ = some (.slice pk (wantL m T T.length).length ck) := Joins.cell_of_block hB2 1
                    have f0 : Y2.frozen? ⟨g12, 0, none⟩ = false := Joins.unfrozen_of_block hB2 0
                    have f1 : Y2.frozen? ⟨g12, 1, none⟩ = false := Joins.unfrozen_of_block hB2 1
                    have hFz : Fr (fun i => i = g12) Y2 ((Y2.setCell ⟨g12, 0, none⟩ (.int .i64 n)).setCell ⟨g12, 1, none⟩ (.slice p' (laidL (wantL m T T.length) 1 nought).length c')) := (Fr.setCell Y2 g12 0 _).trans (Fr.setCell _ g12 1 _) (fun _ _ q => q)
                    have hBz : ((Y2.setCell ⟨g12, 0, none⟩ (.int .i64 n)).setCell ⟨g12, 1, none⟩ (.slice p' (laidL (wantL m T T.length) 1 nought).length c')).heap[g12]? = some (.cells #[.int .i64 n, .slice p' (laidL (wantL m T T.length) 1 nought).length c'] 24) := heap_setCell_same _ _ 1 _ 24 _ (heap_setCell_same Y2 _ 0 _ 24 _ hB2)
                    have hSz := hS2.setBox hFz hBz Hg12.out hq12
                    have HSw := Hid.mk' hSz
                    obtain ⟨wr1, wr2, wr3⟩ := want_is (m := m) (T := T) HRi.out HSo.out (fun x hx => by have h1 := (hM.2.1 x hx).1; have h2 := hf.1; omega)
                    have HW1 := Hid.mk' wr1
                    have HW2 := Hid.mk' wr2
                    have HW3 := Hid.mk' wr3
                    have HLw := Hid.mk' (show (laidL (wantL m T T.length) 1 nought).length ≤ 2000000 by have h1 := laidL_len (wantL m T T.length) 1 nought; have h2 := HLw0.out; omega)
                    clear hSz hFz hBz hB2 hS2 hI2 hbZ hnw hq12 hImq HWi c0 c1 c3 wr1 wr2 wr3 HSL HLw0
                    go_upto_region 22 with fail
                    generalize ((Y2.setCell ⟨g12, 0, none⟩ (.int .i64 n)).setCell ⟨g12, 1, none⟩ (.slice p' (laidL (wantL m T T.length) 1 nought).length c')) = X9 at *
                    clear d0 d1 f0 f1
                    generalize (laidL (wantL m T T.length) 1 nought) = wl at *
                    have HXr := Hid.mk' (HRow.out _ _ _ HSw.out).2
                    have h0d : decT b l ((fun j => if 1 = j then nought else curK T (atL m) T.length j) 1) = [] := by have h9 := (tg_nought (t := tB3) (b := b) (l := l) (by rw [HvB3.out.cur]; rfl) hf.1).1; unfold tgT at h9; rw [HvB3.out.cur] at h9; exact h9
                    have hEd : decE b l ((fun j => if 1 = j then nought else curK T (atL m) T.length j) 1) = 0 := by have h9 := (tg_nought (t := tB3) (b := b) (l := l) (by rw [HvB3.out.cur]; rfl) hf.1).2; unfold tgE at h9; rw [HvB3.out.cur] at h9; exact h9
                    have HRc4 := Hid.mk' (recNone HSw.out hf hbn' HvB3.out HkB3.out (by omega) h0d hEd)
                    rw [HLA.out] at HRc4
                    unfold ptr at HRc4
                    have Hh0d := Hid.mk' h0d
                    have HhEd := Hid.mk' hEd
                    clear h0d hEd
                    go_wp2_with (first | (with_reducible refine isLoad 30 ?_; refine wpList_ldR 30 Try.underlying30 rfl rfl _ rfl _ rfl LA 30 (0, 0) HS9.out HXr.out ?_) | (go_at_call 13; fail))
                    refine Calls.mono HRc4.out ?_
                    rintro e C4 ⟨t4', rfl, hs4, hv4, hk4, hm4⟩
                    have Hs4' := Hid.mk' hs4
                    have Hv4' := Hid.mk' hv4
                    have Hk4' := Hid.mk' hk4
                    clear hs4 hv4 hk4 hm4 HRc4
                    have HXs := Hid.mk' (HRow.out _ _ _ Hs4'.out).2
                    have HNw5 := Hid.mk' (newB Hs4'.out hf hbn' Hv4'.out Hk4'.out (by omega) (f := 0) (if_pos ⟨HhEd.out, Hh0d.out⟩).symm)
                    rw [HLA.out] at HNw5
                    unfold ptr at HNw5
                    go_wp2_with (first | (with_reducible refine isLoad 30 ?_; refine wpList_ldR 30 Try.underlying30 rfl rfl _ rfl _ rfl LA 30 (0, 0) HS9.out HXs.out ?_) | (go_at_call 11; fail))
                    refine Calls.mono HNw5.out ?_
                    rintro e C5 ⟨vN5, t5', rfl, hs5, hv5, hk5, hm5⟩
                    have Hs5' := Hid.mk' hs5
                    have Hv5' := Hid.mk' hv5
                    have Hk5' := Hid.mk' hk5
                    clear hs5 hv5 hk5 hm5 HNw5
                    have HTo := Hid.mk' (fun (W : World) (s : St) (hs : Sits A3 W d s ((g12, .cells #[.int .i64 n, .slice p' wl.length c'] 24) :: (gH, .cells #[.slice pT T.length T.length] 42) :: kq')) => show W.cell? ⟨gH, 0, none⟩ = some (.slice pT T.length T.length) ∧ W.heap[g12]? = some (.cells #[.int .i64 n, .slice p' wl.length c'] 24) from ⟨Joins.cell_of_block (hs.blk (List.mem_cons_of_mem _ (List.mem_cons_self ..))) 0, hs.blk (List.mem_cons_self ..)⟩)
                    have HImg := Hid.mk' (fun (W : World) (hs : Sits A3 W d t5' ((g12, .cells #[.int .i64 n, .slice p' wl.length c'] 24) :: (gH, .cells #[.slice pT T.length T.length] 42) :: kq')) => HIq.out W (fun x hx => hs.blk (List.mem_cons_of_mem _ (List.mem_cons_of_mem _ hx))))
                    go_wp2
                    refine wp_region_ord (S := fun u => u.cell? ⟨gH, 0, none⟩ = some (.slice pT T.length T.length) ∧ u.heap[g12]? = some (.cells #[.int .i64 n, .slice p' wl.length c'] 24)) [(0, true), (1, true), (2, true), (3, true), (4, true), (5, true), (6, true), (7, true), (8, true), (9, true), (10, true), (11, true), (12, true), (13, true), (14, true), (15, true), (16, true), (17, true), (18, true), (19, true), (20, true), (21, true), (22, true), (23, false), (24, true), (25, true), (26, true), (27, true), (28, true), (30, true), (29, false), (31, false), (32, true), (33, true)]
                      (by kernel_rfl) rfl (by kernel_rfl) (fun d _ _ _ _ h => by cases d <;> exact h) (HTo.out _ _ (Hs5'.out.later (Below.refl _ _).drew)) ?_
                    have HsD := Hid.mk' (Hs5'.out.later (Below.refl _ _).drew)
                    generalize C5.drew = V5 at *
                    simp only [inOrd, List.getElem?_cons_zero, List.getElem?_cons_succ]
                    refine wpOrd_yield (v := .int .i64 0) rfl (fun u _ => exec_mv rfl rfl) ?_
                    simp only [Act.put, List.setIfInBounds_toArray, List.set_cons_succ, List.set_cons_zero]
                    refine wpOrd_yield (v := .bool true) rfl (fun u _ => by go_simp) ?_
                    simp only [Act.put, List.setIfInBounds_toArray, List.set_cons_succ, List.set_cons_zero]
                    refine wpOrd_yield (v := .bool true) rfl (fun u _ => exec_mv rfl rfl) ?_
                    simp only [Act.put, List.setIfInBounds_toArray, List.set_cons_succ, List.set_cons_zero]
                    refine wpOrd_yield (v := .int .i64 (T.length : Int)) rfl (fun u _ => exec_mv rfl rfl) ?_
                    simp only [Act.put, List.setIfInBounds_toArray, List.set_cons_succ, List.set_cons_zero]
                    refine wpOrd_yield (v := .pointer (some ⟨gH, 0, none⟩)) rfl (fun u _ => by go_simp) ?_
                    simp only [Act.put, List.setIfInBounds_toArray, List.set_cons_succ, List.set_cons_zero]
                    refine wpOrd_yield (v := .slice pT T.length T.length) rfl (fun u hu => by have := hu.1; go_simp) ?_
                    simp only [Act.put, List.setIfInBounds_toArray, List.set_cons_succ, List.set_cons_zero]
                    refine wpOrd_yield (v := .int .i64 (T.length : Int)) rfl (fun u _ => by go_simp) ?_
                    simp only [Act.put, List.setIfInBounds_toArray, List.set_cons_succ, List.set_cons_zero]
                    refine wpOrd_yield (v := .bool true) rfl (fun u _ => by go_simp) ?_
                    simp only [Act.put, List.setIfInBounds_toArray, List.set_cons_succ, List.set_cons_zero]
                    refine wpOrd_yield (v := .bool true) rfl (fun u _ => by go_simp) ?_
                    simp only [Act.put, List.setIfInBounds_toArray, List.set_cons_succ, List.set_cons_zero]
                    refine wpOrd_yield (v := .bool true) rfl (fun u _ => exec_mv rfl rfl) ?_
                    simp only [Act.put, List.setIfInBounds_toArray, List.set_cons_succ, List.set_cons_zero]
                    refine wpOrd_yield (v := .int .i64 0) rfl (fun u _ => exec_mv rfl rfl) ?_
                    simp only [Act.put, List.setIfInBounds_toArray, List.set_cons_succ, List.set_cons_zero]
                    refine wpOrd_yield (v := .bool true) rfl (fun u _ => by go_simp) ?_
                    simp only [Act.put, List.setIfInBounds_toArray, List.set_cons_succ, List.set_cons_zero]
                    refine wpOrd_yield (v := .bool true) rfl (fun u _ => by go_simp) ?_
                    simp only [Act.put, List.setIfInBounds_toArray, List.set_cons_succ, List.set_cons_zero]
                    refine wpOrd_yield (v := .bool true) rfl (fun u _ => exec_mv rfl rfl) ?_
                    simp only [Act.put, List.setIfInBounds_toArray, List.set_cons_succ, List.set_cons_zero]
                    refine wpOrd_yield (v := .int .i64 0) rfl (fun u _ => exec_mv rfl rfl) ?_
                    simp only [Act.put, List.setIfInBounds_toArray, List.set_cons_succ, List.set_cons_zero]
                    refine wpOrd_yield (v := .bool true) rfl (fun u _ => by go_simp) ?_
                    simp only [Act.put, List.setIfInBounds_toArray, List.set_cons_succ, List.set_cons_zero]
                    refine wpOrd_yield (v := .bool true) rfl (fun u _ => by go_simp) ?_
                    simp only [Act.put, List.setIfInBounds_toArray, List.set_cons_succ, List.set_cons_zero]
                    refine wpOrd_yield (v := .bool true) rfl (fun u _ => exec_mv rfl rfl) ?_
                    simp only [Act.put, List.setIfInBounds_toArray, List.set_cons_succ, List.set_cons_zero]
                    refine wpOrd_yield (v := .int .i64 0) rfl (fun u _ => exec_mv rfl rfl) ?_
                    simp only [Act.put, List.setIfInBounds_toArray, List.set_cons_succ, List.set_cons_zero]
                    refine wpOrd_yield (v := .bool true) rfl (fun u _ => by go_simp) ?_
                    simp only [Act.put, List.setIfInBounds_toArray, List.set_cons_succ, List.set_cons_zero]
                    refine wpOrd_yield (v := .bool true) rfl (fun u _ => by go_simp) ?_
                    simp only [Act.put, List.setIfInBounds_toArray, List.set_cons_succ, List.set_cons_zero]
                    refine wpOrd_yield (v := .bool true) rfl (fun u _ => exec_mv rfl rfl) ?_
                    simp only [Act.put, List.setIfInBounds_toArray, List.set_cons_succ, List.set_cons_zero]
                    refine wpOrd_yield (v := .pointer (some ⟨d, 0, none⟩)) rfl (fun u _ => exec_mv rfl rfl) ?_
                    simp only [Act.put, List.setIfInBounds_toArray, List.set_cons_succ, List.set_cons_zero]
                    refine wpOrd_call rfl 15 _ _ rfl Try.call15 [.pointer (some ⟨d, 0, none⟩)] rfl ?_
                    refine Calls.mono (sits_pending HsD.out (by rw [Hv5'.out.wait]; decide)) ?_
                    rintro e C6 ⟨rfl, _, hs6⟩
                    have Hs6' := Hid.mk' hs6
                    rw [Hv5'.out.wait]
                    refine ⟨_, rfl, HTo.out _ _ Hs6'.out, ?_⟩
                    clear hs6
                    simp only [Act.put, List.setIfInBounds_toArray, List.set_cons_succ, List.set_cons_zero]
                    refine wpOrd_yield (v := .int .i64 0) rfl (fun u _ => by go_simp) ?_
                    simp only [Act.put, List.setIfInBounds_toArray, List.set_cons_succ, List.set_cons_zero]
                    refine wpOrd_yield (v := .bool true) rfl (fun u _ => by go_simp) ?_
                    simp only [Act.put, List.setIfInBounds_toArray, List.set_cons_succ, List.set_cons_zero]
                    refine wpOrd_yield (v := .bool true) rfl (fun u _ => by go_simp) ?_
                    simp only [Act.put, List.setIfInBounds_toArray, List.set_cons_succ, List.set_cons_zero]
                    refine wpOrd_yield (v := .bool true) rfl (fun u _ => exec_mv rfl rfl) ?_
                    simp only [Act.put, List.setIfInBounds_toArray, List.set_cons_succ, List.set_cons_zero]
                    refine wpOrd_yield (v := .pointer (some ⟨d, 0, none⟩)) rfl (fun u _ => exec_mv rfl rfl) ?_
                    simp only [Act.put, List.setIfInBounds_toArray, List.set_cons_succ, List.set_cons_zero]
                    refine wpOrd_yield (v := .agg #[.int .i64 n, .slice p' wl.length c']) rfl (fun u hu => by have c0 : u.cell? ⟨g12, 0, none⟩ = some (.int .i64 n) := Joins.cell_of_block hu.2 0; have c1 : u.cell? ⟨g12, 1, none⟩ = some (.slice p' wl.length c') := Joins.cell_of_block hu.2 1; go_simp) ?_
                    simp only [Act.put, List.setIfInBounds_toArray, List.set_cons_succ, List.set_cons_zero]
                    refine wpOrd_call rfl 17 _ _ rfl Try.call17 [.pointer (some ⟨d, 0, none⟩)] rfl ?_
                    refine Calls.mono (imageB Hs6'.out Hv5'.out (m := wl) HW1.out HW2.out HW3.out) ?_
                    rintro e C7 ⟨gi, rfl, hr7, hs7⟩
                    have Hs7' := Hid.mk' hs7
                    have HIr := Hid.mk' (img_row hr7)
                    refine ⟨_, rfl, HTo.out _ _ Hs7'.out, ?_⟩
                    clear hs7 hr7
                    simp only [Act.put, List.setIfInBounds_toArray, List.set_cons_succ, List.set_cons_zero]
                    have HSI := Hid.mk' (sameImage_any n n (wl) (wl) (some ⟨gi, 0, none⟩) p' wl.length c' C7 (by have := HLw.out; omega) (by have := HLw.out; omega) HIr.out (HImg.out C7 Hs7'.out))
                    rw [(celsB_iff (fun c hc => ((HW2.out) c hc).1) (fun c hc => ((HW2.out) c hc).1)).2 rfl, show ((n == n) && true) = true by simp] at HSI
                    refine wpOrd_call rfl 16 _ _ rfl Try.call16 [.agg #[.int .i64 n, .slice (some ⟨gi, 0, none⟩) wl.length wl.length], .agg #[.int .i64 n, .slice p' wl.length c']] rfl ?_
                    refine Calls.mono HSI.out ?_
                    rintro e C8 ⟨rfl, hb8⟩
                    have Hs8' := Hid.mk' (Hs7'.out.later hb8)
                    refine ⟨_, rfl, HTo.out _ _ Hs8'.out, ?_⟩
                    clear hb8 HSI
                    simp only [Act.put, List.setIfInBounds_toArray, List.set_cons_succ, List.set_cons_zero]
                    refine wpOrd_yield (v := .bool true) rfl (fun u _ => by go_simp) ?_
                    simp only [Act.put, List.setIfInBounds_toArray, List.set_cons_succ, List.set_cons_zero]
                    refine wpOrd_yield (v := .bool true) rfl (fun u _ => by go_simp) ?_
                    simp only [Act.put, List.setIfInBounds_toArray, List.set_cons_succ, List.set_cons_zero]
                    refine wpOrd_nil ?_
                    have HFin := Hid.mk' (HBel.out _ _ _ Hs8'.out)
                    go_wp2
                    go_ret
                    exact ⟨rfl, HFin.out⟩
  · exact header_none n b l i p N cap w hf
end Go.Proofs.Ytglcliokhlafoaa
