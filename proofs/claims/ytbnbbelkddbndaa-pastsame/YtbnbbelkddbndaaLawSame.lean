/- PastSame answers true: for every two images and every number; no condition. -/
import Derived.Test.YtbnbbelkddbndaaChanged
namespace Go.Proofs.Ytbnbbelkddbndaa
open Go.RowKit Go.Maps
theorem lt_ext : ∀ {a b : List Int}, a.Pairwise (fun x y => x < y) → b.Pairwise (fun x y => x < y) → (∀ x, x ∈ a ↔ x ∈ b) → a = b
  | [], [], _, _, _ => rfl
  | [], y :: t, _, _, h => by have := (h y).2 (by simp); simp at this
  | x :: s, [], _, _, h => by have := (h x).1 (by simp); simp at this
  | x :: s, y :: t, ha, hb, h => by
    have ha' := List.pairwise_cons.1 ha
    have hb' := List.pairwise_cons.1 hb
    have exy : x = y := by
      rcases List.mem_cons.1 ((h x).1 (by simp)) with q | q
      · exact q
      · rcases List.mem_cons.1 ((h y).2 (by simp)) with z | z
        · exact z.symm
        · have := ha'.1 y z
          have := hb'.1 x q
          omega
    subst exy
    have ht : s = t := lt_ext ha'.2 hb'.2 fun z => by
      constructor
      · intro hz
        rcases List.mem_cons.1 ((h z).1 (List.mem_cons_of_mem _ hz)) with q | q
        · have := ha'.1 z hz
          omega
        · exact q
      · intro hz
        rcases List.mem_cons.1 ((h z).2 (List.mem_cons_of_mem _ hz)) with q | q
        · have := hb'.1 z hz
          omega
        · exact q
    rw [ht]
theorem at_out {n : Int} {l : List Cel} (hm : mayB n l = true) {k : Int} (hk : k < 0 ∨ n ≤ k) : atL l k = nought := atL_none fun h => by
  obtain ⟨x, hx, rfl⟩ := List.mem_map.1 h
  have := (may_bounds hm).2 x hx
  omega
theorem exec_neqA {o : Oper} {a : Act} {x y : Operand} {F G : Array Value} {b : Bool} {u : World} (ho : o.op = .binOp .neq 40 x y 40) (hx : a.eval x = .agg F) (hy : a.eval y = .agg G) {f g : Nat → Int} (hF : blk f = F) (hG : blk g = G) (hb : sameB f g = b) : (execOp a.eval o).run Try.prog u = .ok (.value (.bool (!b))) u := by
  have h := eq25 f g u
  rw [hb, hF, hG] at h
  have e : (binOp .neq 40 (.agg F) (.agg G)).run Try.prog u = .ok (.bool (!b)) u := by simp only [binOp, Op.equal, Op.maxDepth, Sem.run_bind, h, Result.andThen_ok, Sem.run_pure]
  have eg : (eqGuard .neq 40 x y (.agg F) (.agg G)).run Try.prog u = .ok () u := by unfold eqGuard; simp
  unfold execOp
  simp only [ho, hx, hy, Sem.run_bind, eg, e, Result.andThen_ok, Sem.run_pure]
theorem ints_getD {w : World} {g : Nat} {zs : List Int} (hlt : g < w.heap.size) (h : ∀ j, j < zs.length → w.cell? ⟨g, j, none⟩ = some (.int .i64 (zs.getD j 0))) : IntsAt w (some ⟨g, 0, none⟩) zs := fun _ => ⟨g, 0, rfl, hlt, fun j x hx => by
  have hj := (List.getElem?_eq_some_iff.1 hx).1
  rw [Nat.zero_add, h j hj, List.getD_eq_getElem?_getD, hx]
  rfl⟩
theorem exec_eqb {o : Oper} {a : Act} {x y : Operand} {r : Bool} {u : World} (ho : o.op = .binOp .eql 4 x y 4) (hx : a.eval x = .bool r) (hy : a.eval y = .bool r) : (execOp a.eval o).run Try.prog u = .ok (.value (.bool true)) u := by
  unfold execOp
  simp only [ho, hx, hy]
  cases r <;> go_simp
theorem exec_neqB {o : Oper} {a : Act} {x y : Operand} {F G : Array Value} {b : Bool} {u : World} (ho : o.op = .binOp .neq 40 x y 40) (hx : a.eval x = .agg F) (hy : a.eval y = .agg G) {f g : Nat → Int} (hF : blk f = F) (hG : blk g = G) (hb : (!sameB f g) = b) : (execOp a.eval o).run Try.prog u = .ok (.value (.bool b)) u := by
  rw [← hb]
  exact exec_neqA ho hx hy hF hG rfl
set_option maxRecDepth 20000 in
set_option maxHeartbeats 2000000 in
theorem law_same (n : Int) (s : List Cel) (p : Option Addr) (cp : Nat) (m : Int) (t : List Cel) (q : Option Addr) (cq : Nat) (k : Int) (w : World) (hs : ImgAt w p s) (ht : ImgAt w q t) (hcs : ∀ c ∈ s, Can c.2) (hct : ∀ c ∈ t, Can c.2) (ls : s.length ≤ maxLen) (lt : t.length ≤ maxLen) :
    Calls Try.prog 6 #[.agg #[.int .i64 n, .slice p s.length cp], .agg #[.int .i64 m, .slice q t.length cq], .int .i64 k] w fun e w' => e = .returned (.bool true) ∧ Below w.heap.size w w' := by
  unfold maxLen at ls lt
  have hB0 : Below w.heap.size w ((w.alloc (.cells #[.int .i64 n, .slice p s.length cp] 24)).alloc (.cells #[.int .i64 m, .slice q t.length cq] 24)) := (((Below.refl _ _).alloc (Nat.le_refl _) _).alloc (by simp) _)
  have hG0 : ((w.alloc (.cells #[.int .i64 n, .slice p s.length cp] 24)).alloc (.cells #[.int .i64 m, .slice q t.length cq] 24)).heap[w.heap.size]? = some (.cells #[.int .i64 n, .slice p s.length cp] 24) := heap_kept (heap_alloc_new w _) (below_new _ _)
  have hH0 : ((w.alloc (.cells #[.int .i64 n, .slice p s.length cp] 24)).alloc (.cells #[.int .i64 m, .slice q t.length cq] 24)).heap[w.heap.size + 1]? = some (.cells #[.int .i64 m, .slice q t.length cq] 24) := by
    have := heap_alloc_new (w.alloc (.cells #[.int .i64 n, .slice p s.length cp] 24)) (.cells #[.int .i64 m, .slice q t.length cq] 24)
    rwa [show (w.alloc (.cells #[.int .i64 n, .slice p s.length cp] 24)).heap.size = w.heap.size + 1 by simp] at this
  have HS : Hid (ImgAt w p s) := hs
  have HT : Hid (ImgAt w q t) := ht
  have HCs : Hid (∀ c ∈ s, Can c.2) := hcs
  have HCt : Hid (∀ c ∈ t, Can c.2) := hct
  clear hs ht hcs hct
  go_enter Try.func6, Try.ntmps6
  go_wp2_with (go_at_call 20; fail)
  refine (lives_any _).mono ?_
  rintro e W1 ⟨rfl, hb1⟩
  have hB1 := below3 hB0 hb1
  have hG1 := heap_kept hG0 hb1
  have hH1 := heap_kept hH0 hb1
  have a0 : W1.cell? ⟨w.heap.size, 0, none⟩ = some (.int .i64 n) := Joins.cell_of_block hG1 0
  have a1 : W1.cell? ⟨w.heap.size, 1, none⟩ = some (.slice p s.length cp) := Joins.cell_of_block hG1 1
  have b0 : W1.cell? ⟨w.heap.size + 1, 0, none⟩ = some (.int .i64 m) := Joins.cell_of_block hH1 0
  have b1 : W1.cell? ⟨w.heap.size + 1, 1, none⟩ = some (.slice q t.length cq) := Joins.cell_of_block hH1 1
  clear hB0 hG0 hH0 hb1
  by_cases hs120 : (s.length : Int) > 120
  · go_wp2
    go_ret
    exact ⟨rfl, hB1⟩
  · by_cases ht120 : (t.length : Int) > 120
    · go_wp2
      go_ret
      exact ⟨rfl, hB1⟩
    · have cell4 : ∀ W, Below W1.heap.size W1 W → (W.cell? ⟨w.heap.size, 0, none⟩ = some (.int .i64 n) ∧ W.cell? ⟨w.heap.size, 1, none⟩ = some (.slice p s.length cp)) ∧ (W.cell? ⟨w.heap.size + 1, 0, none⟩ = some (.int .i64 m) ∧ W.cell? ⟨w.heap.size + 1, 1, none⟩ = some (.slice q t.length cq)) := fun W hW =>
        ⟨⟨(hW.cell (p := ⟨w.heap.size, 0, none⟩) (Array.getElem?_eq_some_iff.1 hG1).1).trans a0, (hW.cell (p := ⟨w.heap.size, 1, none⟩) (Array.getElem?_eq_some_iff.1 hG1).1).trans a1⟩, ⟨(hW.cell (p := ⟨w.heap.size + 1, 0, none⟩) (Array.getElem?_eq_some_iff.1 hH1).1).trans b0, (hW.cell (p := ⟨w.heap.size + 1, 1, none⟩) (Array.getElem?_eq_some_iff.1 hH1).1).trans b1⟩⟩
      have HCell : Hid (∀ W, Below W1.heap.size W1 W → (W.cell? ⟨w.heap.size, 0, none⟩ = some (.int .i64 n) ∧ W.cell? ⟨w.heap.size, 1, none⟩ = some (.slice p s.length cp)) ∧ (W.cell? ⟨w.heap.size + 1, 0, none⟩ = some (.int .i64 m) ∧ W.cell? ⟨w.heap.size + 1, 1, none⟩ = some (.slice q t.length cq))) := cell4
      have HIs : Hid (∀ W, Below W1.heap.size W1 W → ImgAt W p s ∧ ImgAt W q t) := fun W hW => ⟨(HS.out.later hB1).later hW, (HT.out.later hB1).later hW⟩
      have HB1 : Hid (Below w.heap.size w W1) := hB1
      clear cell4 hG1 hH1 hB1 HS HT
      cases ho : oneB n s m t
      · have ho2 : oneB m t n s = false := by
          unfold oneB at ho ⊢
          by_cases e : n = m
          · subst e
            cases h2 : mayB n s
            · simp
            · cases h3 : mayB n t
              · simp
              · rw [h2, h3] at ho
                simp at ho
          · rw [beq_false_of_ne (Ne.symm e)]
            rfl
        have e1 : sameI n s m t = false := by unfold sameI; rw [ho]; rfl
        have e2 : sameI m t n s = false := by unfold sameI; rw [ho2]; rfl
        go_wp2_with (go_at_call 28; fail)
        refine (changed_none n s p cp m t q cq W1 (by omega) (by omega) (HIs.out _ (Below.refl _ _)).1 (HIs.out _ (Below.refl _ _)).2 ho).mono ?_
        rintro e W2 ⟨rfl, hb2⟩
        obtain ⟨⟨c0, c1⟩, c2, c3⟩ := HCell.out W2 hb2
        have fin : ∀ W, Below W1.heap.size W1 W → Calls Try.prog 23 #[.agg #[.int .i64 n, .slice p s.length cp], .agg #[.int .i64 m, .slice q t.length cq]] W fun e w' => e = .returned (.bool false) ∧ Below W.heap.size W w' := fun W hW => by
          have := same_any n s p cp m t q cq W (by omega) (by omega) (HIs.out W hW).1 (HIs.out W hW).2
          rwa [e1] at this
        have fin2 : ∀ W, Below W1.heap.size W1 W → Calls Try.prog 23 #[.agg #[.int .i64 m, .slice q t.length cq], .agg #[.int .i64 n, .slice p s.length cp]] W fun e w' => e = .returned (.bool false) ∧ Below W.heap.size W w' := fun W hW => by
          have := same_any m t q cq n s p cp W (by omega) (by omega) (HIs.out W hW).2 (HIs.out W hW).1
          rwa [e2] at this
        have wh := whole_any n s p cp W2 (by omega) (HIs.out W2 hb2).1
        clear a0 a1 b0 b1
        cases hm1 : mayB n s
        · rw [show wholeE n s = 2 by unfold wholeE; rw [hm1]; rfl] at wh
          go_wp2_with (go_at_call 22; fail)
          refine wh.mono ?_
          rintro e W3 ⟨rfl, hb3⟩
          have h3 := below3 hb2 hb3
          obtain ⟨⟨d0, d1⟩, d2, d3⟩ := HCell.out W3 h3
          go_wp2_with (go_at_call 23; fail)
          refine (fin W3 h3).mono ?_
          rintro e W4 ⟨rfl, hb4⟩
          have h4 := below3 h3 hb4
          obtain ⟨⟨f0, f1⟩, f2, f3⟩ := HCell.out W4 h4
          go_wp2_with (go_at_call 23; refine (fin2 W4 h4).mono ?_; rintro e W5 ⟨rfl, hb5⟩)
          go_ret
          exact ⟨rfl, below3 HB1.out (below3 h4 hb5)⟩
        · rw [show wholeE n s = 0 by unfold wholeE; rw [hm1]; rfl] at wh
          go_wp2_with (go_at_call 22; fail)
          refine wh.mono ?_
          rintro e W2b ⟨rfl, hb2b⟩
          have h2b := below3 hb2 hb2b
          obtain ⟨⟨x0, x1⟩, x2, x3⟩ := HCell.out W2b h2b
          have wh2 := whole_any m t q cq W2b (by omega) (HIs.out W2b h2b).2
          cases hm2 : mayB m t
          · rw [show wholeE m t = 2 by unfold wholeE; rw [hm2]; rfl] at wh2
            go_wp2_with (go_at_call 22; fail)
            refine wh2.mono ?_
            rintro e W3 ⟨rfl, hb3⟩
            have h3 := below3 h2b hb3
            obtain ⟨⟨d0, d1⟩, d2, d3⟩ := HCell.out W3 h3
            go_wp2_with (go_at_call 23; fail)
            refine (fin W3 h3).mono ?_
            rintro e W4 ⟨rfl, hb4⟩
            have h4 := below3 h3 hb4
            obtain ⟨⟨f0, f1⟩, f2, f3⟩ := HCell.out W4 h4
            go_wp2_with (go_at_call 23; refine (fin2 W4 h4).mono ?_; rintro e W5 ⟨rfl, hb5⟩)
            go_ret
            exact ⟨rfl, below3 HB1.out (below3 h4 hb5)⟩
          · have hnm : n ≠ m := fun q => by
              unfold oneB at ho
              rw [hm1, hm2, q] at ho
              simp at ho
            have gnm : decide (n = m) = false := decide_eq_false hnm
            rw [show wholeE m t = 0 by unfold wholeE; rw [hm2]; rfl] at wh2
            go_wp2_with (go_at_call 22; fail)
            refine wh2.mono ?_
            rintro e W3 ⟨rfl, hb3⟩
            have h3 := below3 h2b hb3
            obtain ⟨⟨d0, d1⟩, d2, d3⟩ := HCell.out W3 h3
            go_wp2_with (go_at_call 23; fail)
            refine (fin W3 h3).mono ?_
            rintro e W4 ⟨rfl, hb4⟩
            have h4 := below3 h3 hb4
            obtain ⟨⟨f0, f1⟩, f2, f3⟩ := HCell.out W4 h4
            go_wp2_with (go_at_call 23; refine (fin2 W4 h4).mono ?_; rintro e W5 ⟨rfl, hb5⟩)
            go_ret
            exact ⟨rfl, below3 HB1.out (below3 h4 hb5)⟩
      · skip
        have hnm : n = m := by
          unfold oneB at ho
          simp at ho
          exact ho.1.1
        subst hnm
        have hm1 : mayB n s = true := by
          unfold oneB at ho
          simp at ho
          exact ho.1
        have hm2 : mayB n t = true := by
          unfold oneB at ho
          simp at ho
          exact ho.2
        obtain ⟨rs, ss⟩ := may_parts hm1 HCs.out
        obtain ⟨rt, st⟩ := may_parts hm2 HCt.out
        have HCan : Hid (∀ x, Can (atL s x) ∧ Can (atL t x)) := fun x => ⟨at_can ss x, at_can st x⟩
        have HExt : Hid ((∀ x, atL s x = atL t x) → s = t) := fun h => rise_ext rs rt ss st h
        have HOut : Hid (∀ x, atL s x ≠ atL t x → 0 ≤ x ∧ x < n) := fun x hx => by
          by_cases h : x < 0 ∨ n ≤ x
          · exact absurd ((at_out hm1 h).trans (at_out hm2 h).symm) hx
          · omega
        have HM1 : Hid (mayB n s = true) := hm1
        have HM2 : Hid (mayB n t = true) := hm2
        go_wp2_with (go_at_call 28; fail)
        refine (changed_ok n s p cp t q cq W1 (by omega) (by omega) (HIs.out _ (Below.refl _ _)).1 (HIs.out _ (Below.refl _ _)).2 hm1 hm2 HCs.out HCt.out).mono ?_
        rintro e W2 ⟨g, cap, zs, rfl, hz, hzs, hmem, hzl, hgW, hg2, hb2⟩
        obtain ⟨⟨c0, c1⟩, c2, c3⟩ := HCell.out W2 hb2
        have HZ : Hid (∀ W, Below W2.heap.size W2 W → ∀ j, j < zs.length → W.cell? ⟨g, j, none⟩ = some (.int .i64 (zs.getD j 0))) := fun W hW j hj => (hW.cell (p := ⟨g, j, none⟩) hg2).trans (hz j hj)
        have HG2 : Hid (g < W2.heap.size) := hg2
        have HMem : Hid (∀ x, x ∈ zs ↔ atL s x ≠ atL t x) := hmem
        have HPw : Hid (zs.Pairwise (fun a b => a < b)) := hzs
        have HB2 : Hid (Below W1.heap.size W1 W2) := hb2
        have wh1 := whole_any n s p cp W2 (by omega) (HIs.out W2 hb2).1
        rw [show wholeE n s = 0 by unfold wholeE; rw [hm1]; rfl] at wh1
        have wh2 := fun W (hW : Below W1.heap.size W1 W) => whole_any n t q cq W (by omega) (HIs.out W hW).2
        rw [show wholeE n t = 0 by unfold wholeE; rw [hm2]; rfl] at wh2
        have WH2 : Hid (∀ W, Below W1.heap.size W1 W → Calls Try.prog 22 #[.agg #[.int .i64 n, .slice q t.length cq]] W fun e w' => e = .returned (.int .i64 0) ∧ Below W.heap.size W w') := wh2
        clear a0 a1 b0 b1 hz hzs hmem hb2 rs ss rt st hm1 hm2 ho wh2 hg2 hgW
        go_wp2_with (go_at_call 22; fail)
        refine wh1.mono ?_
        rintro e W3 ⟨rfl, hb3⟩
        have h3 := below3 HB2.out hb3
        obtain ⟨⟨d0, d1⟩, d2, d3⟩ := HCell.out W3 h3
        clear c0 c1 c2 c3 wh1
        go_wp2_with (go_at_call 22; fail)
        refine (WH2.out W3 h3).mono ?_
        rintro e W4 ⟨rfl, hb4⟩
        have h4 := below3 h3 hb4
        have HZ4 : Hid (Below W2.heap.size W2 W4) := below3 hb3 hb4
        obtain ⟨⟨f0, f1⟩, f2, f3⟩ := HCell.out W4 h4
        clear d0 d1 d2 d3 h3 hb3 hb4 WH2 h4
        go_wp2
        clear f0 f1 f2 f3
        go_loopw [8, 9] (fun s8 s9 wx => ∃ i : Nat, i ≤ zs.length ∧ s9 = .int .i64 i ∧ s8 = .bool (decide (k ∈ zs.take i)) ∧ Hid (Below W2.heap.size W2 wx)) (fun _ s9 _ => zs.length - (intOf s9).toNat)
        case atStart => exact ⟨0, by omega, rfl, by simp, HZ4.out⟩
        case round =>
          obtain ⟨i, hi, rfl, rfl, HB⟩ := hrel
          clear HZ4
          by_cases hi2 : (i : Int) < zs.length
          · have hgi : zs[i]? = some zs[i] := List.getElem?_eq_getElem (by omega)
            have hzd : zs.getD i 0 = zs[i] := by rw [List.getD_eq_getElem?_getD, hgi]; rfl
            have hzm : zs[i] ∈ zs := List.getElem_mem _
            have htk : decide (k ∈ zs.take (i + 1)) = (decide (k ∈ zs.take i) || decide (zs[i] = k)) := by
              have ht : zs.take (i + 1) = zs.take i ++ [zs[i]] := by
                rw [List.take_add_one, hgi]
                rfl
              rw [ht, Bool.eq_iff_iff]
              simp only [decide_eq_true_eq, Bool.or_eq_true, List.mem_append, List.mem_singleton]
              exact or_congr Iff.rfl eq_comm
            have sz : ∀ u, Below wr.heap.size wr u → u.cell? ⟨g, i, none⟩ = some (.int .i64 zs[i]) := fun u hu => by
              rw [HZ.out u (below3 HB.out hu) i (by omega), hzd]
            generalize zs[i] = z at *
            have hne := (HMem.out z).1 hzm
            obtain ⟨hz0, hzn⟩ := HOut.out z hne
            have hsb : sameB (atL s z) (atL t z) = false := by
              cases h : sameB (atL s z) (atL t z)
              · rfl
              · exact absurd (((HCan.out z).1.same (HCan.out z).2).1 h) hne
            have hW : Below W1.heap.size W1 wr := below3 HB2.out HB.out
            have s0 : ∀ u, Below wr.heap.size wr u → u.cell? ⟨w.heap.size, 0, none⟩ = some (.int .i64 n) := fun u hu => (HCell.out u (below3 hW hu)).1.1
            have s1 : ∀ u, Below wr.heap.size wr u → u.cell? ⟨w.heap.size, 1, none⟩ = some (.slice p s.length cp) := fun u hu => (HCell.out u (below3 hW hu)).1.2
            have s2 : ∀ u, Below wr.heap.size wr u → u.cell? ⟨w.heap.size + 1, 0, none⟩ = some (.int .i64 n) := fun u hu => (HCell.out u (below3 hW hu)).2.1
            have s3 : ∀ u, Below wr.heap.size wr u → u.cell? ⟨w.heap.size + 1, 1, none⟩ = some (.slice q t.length cq) := fun u hu => (HCell.out u (below3 hW hu)).2.2
            obtain ⟨F1, hF1⟩ : ∃ F1, blk (atL s z) = F1 := ⟨_, rfl⟩
            obtain ⟨F2, hF2⟩ : ∃ F2, blk (atL t z) = F2 := ⟨_, rfl⟩
            have bs : ∀ u, Below wr.heap.size wr u → Calls Try.prog 26 #[.agg #[.int .i64 n, .slice p s.length cp], .int .i64 z] u fun e w' => e = .returned (.agg F1) ∧ Below u.heap.size u w' := fun u hu => by
              rw [← hF1]
              exact blockAt_any n s p cp z u (by omega) (HIs.out u (below3 hW hu)).1
            have bt : ∀ u, Below wr.heap.size wr u → Calls Try.prog 26 #[.agg #[.int .i64 n, .slice q t.length cq], .int .i64 z] u fun e w' => e = .returned (.agg F2) ∧ Below u.heap.size u w' := fun u hu => by
              rw [← hF2]
              exact blockAt_any n t q cq z u (by omega) (HIs.out u (below3 hW hu)).2
            have HTk : Hid (decide (k ∈ zs.take (i + 1)) = (decide (k ∈ zs.take i) || decide (z = k))) := htk
            generalize decide (k ∈ zs.take i) = bk at *
            clear hgi hzd hzm htk hne
            go_wp2
            refine wp_region_ord (S := fun u => Below wr.heap.size wr u) [(0, true), (1, true), (2, true), (3, true), (4, true), (5, true), (6, true), (7, true), (8, true), (9, true), (10, true), (11, true), (12, true), (13, true), (14, true), (15, true), (16, true), (17, true), (18, true), (19, true), (21, true), (22, true), (23, true), (24, true), (25, true), (20, false), (26, false), (27, true), (28, true)]
              (by kernel_rfl) rfl (by kernel_rfl) (fun d _ _ _ _ h => by cases d <;> exact h) ((Below.refl _ _).drew) ?_
            simp only [inOrd, List.getElem?_cons_zero, List.getElem?_cons_succ]
            have hX0 : Below wr.heap.size wr wr.drew := (Below.refl _ _).drew
            refine wpOrd_move rfl _ rfl ?_
            simp only [Act.put, List.setIfInBounds_toArray, List.set_cons_succ, List.set_cons_zero]
            refine wpOrd_move rfl _ rfl ?_
            simp only [Act.put, List.setIfInBounds_toArray, List.set_cons_succ, List.set_cons_zero]
            refine wpOrd_yield (v := .pointer (some ⟨g, i, none⟩)) rfl (fun u hu => by go_simp) ?_
            simp only [Act.put, List.setIfInBounds_toArray, List.set_cons_succ, List.set_cons_zero]
            refine wpOrd_yield (v := .int .i64 z) rfl (fun u hu => by have := sz u hu; go_simp) ?_
            simp only [Act.put, List.setIfInBounds_toArray, List.set_cons_succ, List.set_cons_zero]
            refine wpOrd_yield (v := .bool false) rfl (fun u hu => by go_simp) ?_
            simp only [Act.put, List.setIfInBounds_toArray, List.set_cons_succ, List.set_cons_zero]
            refine wpOrd_move rfl _ rfl ?_
            simp only [Act.put, List.setIfInBounds_toArray, List.set_cons_succ, List.set_cons_zero]
            refine wpOrd_move rfl _ rfl ?_
            simp only [Act.put, List.setIfInBounds_toArray, List.set_cons_succ, List.set_cons_zero]
            refine wpOrd_move rfl _ rfl ?_
            simp only [Act.put, List.setIfInBounds_toArray, List.set_cons_succ, List.set_cons_zero]
            refine wpOrd_yield (v := .pointer (some ⟨g, i, none⟩)) rfl (fun u hu => by go_simp) ?_
            simp only [Act.put, List.setIfInBounds_toArray, List.set_cons_succ, List.set_cons_zero]
            refine wpOrd_yield (v := .int .i64 z) rfl (fun u hu => by have := sz u hu; go_simp) ?_
            simp only [Act.put, List.setIfInBounds_toArray, List.set_cons_succ, List.set_cons_zero]
            refine wpOrd_yield (v := .pointer (some ⟨w.heap.size, 0, none⟩)) rfl (fun u hu => by go_simp) ?_
            simp only [Act.put, List.setIfInBounds_toArray, List.set_cons_succ, List.set_cons_zero]
            refine wpOrd_yield (v := .int .i64 n) rfl (fun u hu => by have := s0 u hu; go_simp) ?_
            simp only [Act.put, List.setIfInBounds_toArray, List.set_cons_succ, List.set_cons_zero]
            refine wpOrd_yield (v := .bool false) rfl (fun u hu => by go_simp) ?_
            simp only [Act.put, List.setIfInBounds_toArray, List.set_cons_succ, List.set_cons_zero]
            refine wpOrd_yield (v := .bool false) rfl (fun u hu => by go_simp) ?_
            simp only [Act.put, List.setIfInBounds_toArray, List.set_cons_succ, List.set_cons_zero]
            refine wpOrd_move rfl _ rfl ?_
            simp only [Act.put, List.setIfInBounds_toArray, List.set_cons_succ, List.set_cons_zero]
            refine wpOrd_yield (v := .agg #[.int .i64 n, .slice p s.length cp]) rfl (fun u hu => by have := s0 u hu; have := s1 u hu; go_simp) ?_
            simp only [Act.put, List.setIfInBounds_toArray, List.set_cons_succ, List.set_cons_zero]
            refine wpOrd_move rfl _ rfl ?_
            simp only [Act.put, List.setIfInBounds_toArray, List.set_cons_succ, List.set_cons_zero]
            refine wpOrd_move rfl _ rfl ?_
            simp only [Act.put, List.setIfInBounds_toArray, List.set_cons_succ, List.set_cons_zero]
            refine wpOrd_yield (v := .pointer (some ⟨g, i, none⟩)) rfl (fun u hu => by go_simp) ?_
            simp only [Act.put, List.setIfInBounds_toArray, List.set_cons_succ, List.set_cons_zero]
            refine wpOrd_yield (v := .int .i64 z) rfl (fun u hu => by have := sz u hu; go_simp) ?_
            simp only [Act.put, List.setIfInBounds_toArray, List.set_cons_succ, List.set_cons_zero]
            refine wpOrd_yield (v := .agg #[.int .i64 n, .slice q t.length cq]) rfl (fun u hu => by have := s2 u hu; have := s3 u hu; go_simp) ?_
            simp only [Act.put, List.setIfInBounds_toArray, List.set_cons_succ, List.set_cons_zero]
            refine wpOrd_move rfl _ rfl ?_
            simp only [Act.put, List.setIfInBounds_toArray, List.set_cons_succ, List.set_cons_zero]
            refine wpOrd_move rfl _ rfl ?_
            simp only [Act.put, List.setIfInBounds_toArray, List.set_cons_succ, List.set_cons_zero]
            refine wpOrd_yield (v := .pointer (some ⟨g, i, none⟩)) rfl (fun u hu => by go_simp) ?_
            simp only [Act.put, List.setIfInBounds_toArray, List.set_cons_succ, List.set_cons_zero]
            refine wpOrd_yield (v := .int .i64 z) rfl (fun u hu => by have := sz u hu; go_simp) ?_
            simp only [Act.put, List.setIfInBounds_toArray, List.set_cons_succ, List.set_cons_zero]
            refine wpOrd_call rfl 26 _ _ rfl Try.call26 [.agg #[.int .i64 n, .slice p s.length cp], .int .i64 z] rfl ?_
            refine (bs wr.drew hX0).mono ?_
            rintro e X1 ⟨rfl, hx1⟩
            have hX1 : Below wr.heap.size wr X1 := below3 hX0 hx1
            refine ⟨_, rfl, hX1, ?_⟩
            simp only [Act.put, List.setIfInBounds_toArray, List.set_cons_succ, List.set_cons_zero]
            refine wpOrd_call rfl 26 _ _ rfl Try.call26 [.agg #[.int .i64 n, .slice q t.length cq], .int .i64 z] rfl ?_
            refine (bt X1 hX1).mono ?_
            rintro e X2 ⟨rfl, hx2⟩
            have hX2 : Below wr.heap.size wr X2 := below3 hX1 hx2
            refine ⟨_, rfl, hX2, ?_⟩
            simp only [Act.put, List.setIfInBounds_toArray, List.set_cons_succ, List.set_cons_zero]
            refine wpOrd_yield (v := .bool false) rfl (fun u hu => exec_eq40 rfl rfl rfl hF1 hF2 hsb) ?_
            simp only [Act.put, List.setIfInBounds_toArray, List.set_cons_succ, List.set_cons_zero]
            refine wpOrd_yield (v := .bool false) rfl (fun u hu => by go_simp) ?_
            simp only [Act.put, List.setIfInBounds_toArray, List.set_cons_succ, List.set_cons_zero]
            refine wpOrd_nil ?_
            have HB3 : Hid (Below W2.heap.size W2 X2) := below3 HB.out hX2
            have cz := sz X2 hX2
            clear s0 s1 s2 s3 bs bt hX0 hX1 hX2 hx1 hx2 sz hW hsb hF1 hF2 HB
            cases bk
            · by_cases hzk : z = k
              · go_wp2
                exact ⟨⟨i + 1, by omega, by go_num, by rw [HTk.out]; simp [hzk], HB3.out⟩, by simp [intOf]; omega⟩
              · go_wp2
                exact ⟨⟨i + 1, by omega, by go_num, by rw [HTk.out]; simp [hzk], HB3.out⟩, by simp [intOf]; omega⟩
            · go_wp2
              exact ⟨⟨i + 1, by omega, by go_num, by rw [HTk.out]; simp, HB3.out⟩, by simp [intOf]; omega⟩
          · have hil : i = zs.length := by omega
            rw [hil, List.take_length] at *
            have hk : ¬ ((zs.length : Int) < zs.length) := by omega
            have hW : Below W1.heap.size W1 wr := below3 HB2.out HB.out
            have s0 : ∀ u, Below wr.heap.size wr u → u.cell? ⟨w.heap.size, 0, none⟩ = some (.int .i64 n) := fun u hu => (HCell.out u (below3 hW hu)).1.1
            have s1 : ∀ u, Below wr.heap.size wr u → u.cell? ⟨w.heap.size, 1, none⟩ = some (.slice p s.length cp) := fun u hu => (HCell.out u (below3 hW hu)).1.2
            have s2 : ∀ u, Below wr.heap.size wr u → u.cell? ⟨w.heap.size + 1, 0, none⟩ = some (.int .i64 n) := fun u hu => (HCell.out u (below3 hW hu)).2.1
            have s3 : ∀ u, Below wr.heap.size wr u → u.cell? ⟨w.heap.size + 1, 1, none⟩ = some (.slice q t.length cq) := fun u hu => (HCell.out u (below3 hW hu)).2.2
            obtain ⟨F1, hF1⟩ : ∃ F1, blk (atL s k) = F1 := ⟨_, rfl⟩
            obtain ⟨F2, hF2⟩ : ∃ F2, blk (atL t k) = F2 := ⟨_, rfl⟩
            have bs : ∀ u, Below wr.heap.size wr u → Calls Try.prog 26 #[.agg #[.int .i64 n, .slice p s.length cp], .int .i64 k] u fun e w' => e = .returned (.agg F1) ∧ Below u.heap.size u w' := fun u hu => by
              rw [← hF1]
              exact blockAt_any n s p cp k u (by omega) (HIs.out u (below3 hW hu)).1
            have bt : ∀ u, Below wr.heap.size wr u → Calls Try.prog 26 #[.agg #[.int .i64 n, .slice q t.length cq], .int .i64 k] u fun e w' => e = .returned (.agg F2) ∧ Below u.heap.size u w' := fun u hu => by
              rw [← hF2]
              exact blockAt_any n t q cq k u (by omega) (HIs.out u (below3 hW hu)).2
            obtain ⟨r, hr⟩ : ∃ r, ((zs.length : Int) == 0) = r := ⟨_, rfl⟩
            have hst : (s = t) ↔ (zs.length : Int) = 0 := by
              constructor
              · intro e
                cases zs with
                | nil => rfl
                | cons x zs => exact absurd (by rw [e]) ((HMem.out x).1 (by simp))
              · intro e
                have : zs = [] := List.length_eq_zero_iff.1 (by omega)
                exact HExt.out fun x => Classical.byContradiction fun h => by
                  have := (HMem.out x).2 h
                  simp_all
            have one1 : ∀ {a b : List Cel}, mayB n a = true → mayB n b = true → oneB n a n b = true := fun ha hb => by
              unfold oneB
              rw [ha, hb]
              simp
            have cb : ∀ {a b : List Cel} {v : Bool}, mayB n a = true → mayB n b = true → (∀ c ∈ a, Can c.2) → (∀ c ∈ b, Can c.2) → (a = b ↔ v = true) → sameI n a n b = v := fun ha hb ca cb h => by
              unfold sameI
              rw [one1 ha hb, Bool.true_and, Bool.eq_iff_iff, celsB_iff ca cb, h]
            have hrt : r = true ↔ (zs.length : Int) = 0 := by rw [← hr]; simp
            have e1 : sameI n s n t = r := cb HM1.out HM2.out HCs.out HCt.out (hst.trans hrt.symm)
            have e2 : sameI n t n s = r := cb HM2.out HM1.out HCt.out HCs.out (eq_comm.trans (hst.trans hrt.symm))
            have e3 : sameI n s n s = true := cb HM1.out HM1.out HCs.out HCs.out (by simp)
            have sm1 : ∀ u, Below wr.heap.size wr u → Calls Try.prog 23 #[.agg #[.int .i64 n, .slice p s.length cp], .agg #[.int .i64 n, .slice q t.length cq]] u fun e w' => e = .returned (.bool r) ∧ Below u.heap.size u w' := fun u hu => by
              have := same_any n s p cp n t q cq u (by omega) (by omega) (HIs.out u (below3 hW hu)).1 (HIs.out u (below3 hW hu)).2
              rwa [e1] at this
            have sm2 : ∀ u, Below wr.heap.size wr u → Calls Try.prog 23 #[.agg #[.int .i64 n, .slice q t.length cq], .agg #[.int .i64 n, .slice p s.length cp]] u fun e w' => e = .returned (.bool r) ∧ Below u.heap.size u w' := fun u hu => by
              have := same_any n t q cq n s p cp u (by omega) (by omega) (HIs.out u (below3 hW hu)).2 (HIs.out u (below3 hW hu)).1
              rwa [e2] at this
            have sm3 : ∀ u, Below wr.heap.size wr u → Calls Try.prog 23 #[.agg #[.int .i64 n, .slice p s.length cp], .agg #[.int .i64 n, .slice p s.length cp]] u fun e w' => e = .returned (.bool true) ∧ Below u.heap.size u w' := fun u hu => by
              have := same_any n s p cp n s p cp u (by omega) (by omega) (HIs.out u (below3 hW hu)).1 (HIs.out u (below3 hW hu)).1
              rwa [e3] at this
            have ch : ∀ u, Below wr.heap.size wr u → Calls Try.prog 28 #[.agg #[.int .i64 n, .slice q t.length cq], .agg #[.int .i64 n, .slice p s.length cp]] u fun e w' => ∃ g2 cap2 : Nat, e = .returned (.slice (some ⟨g2, 0, none⟩) zs.length cap2) ∧ IntsAt w' (some ⟨g2, 0, none⟩) zs ∧ Below u.heap.size u w' := fun u hu => by
              refine (changed_ok n t q cq s p cp u (by omega) (by omega) (HIs.out u (below3 hW hu)).2 (HIs.out u (below3 hW hu)).1 HM2.out HM1.out HCt.out HCs.out).mono ?_
              rintro e X ⟨g2, cap2, zs2, rfl, hz2, hp2, hm2, _, _, hg2, hb⟩
              have e : zs2 = zs := lt_ext hp2 HPw.out fun x => by rw [hm2 x, HMem.out x]; exact ne_comm
              subst e
              exact ⟨g2, cap2, rfl, ints_getD hg2 hz2, hb⟩
            have zi : ∀ u, Below wr.heap.size wr u → IntsAt u (some ⟨g, 0, none⟩) zs := fun u hu => ints_getD (Nat.lt_of_lt_of_le HG2.out (Nat.le_trans HB.out.size hu.size)) (HZ.out u (below3 HB.out hu))
            obtain ⟨bk, hbk⟩ : ∃ bk, decide (k ∈ zs) = bk := ⟨_, rfl⟩
            have hsb : (!sameB (atL s k) (atL t k)) = bk := by
              rw [← hbk, Bool.eq_iff_iff]
              simp only [Bool.not_eq_true', decide_eq_true_eq, HMem.out k]
              rw [← Bool.not_eq_true, (HCan.out k).1.same (HCan.out k).2]
            have HBw : Hid (Below w.heap.size w wr) := below3 HB1.out hW
            rw [hbk]
            clear hst hrt e1 e2 e3 cb one1 hbk hil hi hi2 hW
            go_wp2
            refine wp_region_ord (S := fun u => Below wr.heap.size wr u) [(0, true), (1, true), (2, true), (3, false), (4, false), (5, true), (6, true), (7, true), (9, true), (10, true), (11, true), (8, false), (12, true), (13, true), (14, true), (15, true), (16, true), (18, true), (19, true), (20, true), (17, false), (21, true), (22, true), (23, true), (24, true), (25, true), (26, false), (27, true), (28, true), (29, true), (30, true), (31, true), (33, true), (34, true), (32, false), (35, false), (36, true), (37, true), (38, true), (39, true)]
              (by kernel_rfl) rfl (by kernel_rfl) (fun d _ _ _ _ h => by cases d <;> exact h) ((Below.refl _ _).drew) ?_
            simp only [inOrd, List.getElem?_cons_zero, List.getElem?_cons_succ]
            have hX0 : Below wr.heap.size wr wr.drew := (Below.refl _ _).drew
            refine wpOrd_move rfl _ rfl ?_
            simp only [Act.put, List.setIfInBounds_toArray, List.set_cons_succ, List.set_cons_zero]
            refine wpOrd_yield (v := .agg #[.int .i64 n, .slice q t.length cq]) rfl (fun u hu => by have := s2 u hu; have := s3 u hu; go_simp) ?_
            simp only [Act.put, List.setIfInBounds_toArray, List.set_cons_succ, List.set_cons_zero]
            refine wpOrd_yield (v := .agg #[.int .i64 n, .slice p s.length cp]) rfl (fun u hu => by have := s0 u hu; have := s1 u hu; go_simp) ?_
            simp only [Act.put, List.setIfInBounds_toArray, List.set_cons_succ, List.set_cons_zero]
            refine wpOrd_call rfl 28 _ _ rfl Try.call28 [.agg #[.int .i64 n, .slice q t.length cq], .agg #[.int .i64 n, .slice p s.length cp]] rfl ?_
            refine (ch wr.drew hX0).mono ?_
            rintro e X1 ⟨g2, cap2, rfl, hz2, hx1⟩
            have hX1 : Below wr.heap.size wr X1 := below3 hX0 hx1
            refine ⟨_, rfl, hX1, ?_⟩
            simp only [Act.put, List.setIfInBounds_toArray, List.set_cons_succ, List.set_cons_zero]
            refine wpOrd_call rfl 29 _ _ rfl Try.call29 [.slice (some ⟨g, 0, none⟩) zs.length cap, .slice (some ⟨g2, 0, none⟩) zs.length cap2] rfl ?_
            refine (sameInts_any zs zs (some ⟨g, 0, none⟩) (some ⟨g2, 0, none⟩) cap cap2 X1 (by omega) (zi X1 hX1) hz2).mono ?_
            rintro e X2 ⟨rfl, hx2⟩
            have hX2 : Below wr.heap.size wr X2 := below3 hX1 hx2
            rw [show decide (zs = zs) = true from decide_eq_true rfl]
            refine ⟨_, rfl, hX2, ?_⟩
            simp only [Act.put, List.setIfInBounds_toArray, List.set_cons_succ, List.set_cons_zero]
            refine wpOrd_move rfl _ rfl ?_
            simp only [Act.put, List.setIfInBounds_toArray, List.set_cons_succ, List.set_cons_zero]
            refine wpOrd_yield (v := .agg #[.int .i64 n, .slice p s.length cp]) rfl (fun u hu => by have := s0 u hu; have := s1 u hu; go_simp) ?_
            simp only [Act.put, List.setIfInBounds_toArray, List.set_cons_succ, List.set_cons_zero]
            refine wpOrd_yield (v := .agg #[.int .i64 n, .slice q t.length cq]) rfl (fun u hu => by have := s2 u hu; have := s3 u hu; go_simp) ?_
            simp only [Act.put, List.setIfInBounds_toArray, List.set_cons_succ, List.set_cons_zero]
            refine wpOrd_move rfl _ rfl ?_
            simp only [Act.put, List.setIfInBounds_toArray, List.set_cons_succ, List.set_cons_zero]
            refine wpOrd_yield (v := .int .i64 zs.length) rfl (fun u hu => by go_simp) ?_
            simp only [Act.put, List.setIfInBounds_toArray, List.set_cons_succ, List.set_cons_zero]
            refine wpOrd_yield (v := .bool r) rfl (fun u hu => by go_simp) ?_
            simp only [Act.put, List.setIfInBounds_toArray, List.set_cons_succ, List.set_cons_zero]
            refine wpOrd_call rfl 23 _ _ rfl Try.call23 [.agg #[.int .i64 n, .slice p s.length cp], .agg #[.int .i64 n, .slice q t.length cq]] rfl ?_
            refine (sm1 X2 hX2).mono ?_
            rintro e X3 ⟨rfl, hx3⟩
            have hX3 : Below wr.heap.size wr X3 := below3 hX2 hx3
            refine ⟨_, rfl, hX3, ?_⟩
            simp only [Act.put, List.setIfInBounds_toArray, List.set_cons_succ, List.set_cons_zero]
            refine wpOrd_yield (v := .bool true) rfl (fun u hu => exec_eqb rfl rfl rfl) ?_
            simp only [Act.put, List.setIfInBounds_toArray, List.set_cons_succ, List.set_cons_zero]
            refine wpOrd_yield (v := .bool true) rfl (fun u hu => by go_simp) ?_
            simp only [Act.put, List.setIfInBounds_toArray, List.set_cons_succ, List.set_cons_zero]
            refine wpOrd_move rfl _ rfl ?_
            simp only [Act.put, List.setIfInBounds_toArray, List.set_cons_succ, List.set_cons_zero]
            refine wpOrd_yield (v := .agg #[.int .i64 n, .slice q t.length cq]) rfl (fun u hu => by have := s2 u hu; have := s3 u hu; go_simp) ?_
            simp only [Act.put, List.setIfInBounds_toArray, List.set_cons_succ, List.set_cons_zero]
            refine wpOrd_yield (v := .agg #[.int .i64 n, .slice p s.length cp]) rfl (fun u hu => by have := s0 u hu; have := s1 u hu; go_simp) ?_
            simp only [Act.put, List.setIfInBounds_toArray, List.set_cons_succ, List.set_cons_zero]
            refine wpOrd_move rfl _ rfl ?_
            simp only [Act.put, List.setIfInBounds_toArray, List.set_cons_succ, List.set_cons_zero]
            refine wpOrd_yield (v := .int .i64 zs.length) rfl (fun u hu => by go_simp) ?_
            simp only [Act.put, List.setIfInBounds_toArray, List.set_cons_succ, List.set_cons_zero]
            refine wpOrd_yield (v := .bool r) rfl (fun u hu => by go_simp) ?_
            simp only [Act.put, List.setIfInBounds_toArray, List.set_cons_succ, List.set_cons_zero]
            refine wpOrd_call rfl 23 _ _ rfl Try.call23 [.agg #[.int .i64 n, .slice q t.length cq], .agg #[.int .i64 n, .slice p s.length cp]] rfl ?_
            refine (sm2 X3 hX3).mono ?_
            rintro e X4 ⟨rfl, hx4⟩
            have hX4 : Below wr.heap.size wr X4 := below3 hX3 hx4
            refine ⟨_, rfl, hX4, ?_⟩
            simp only [Act.put, List.setIfInBounds_toArray, List.set_cons_succ, List.set_cons_zero]
            refine wpOrd_yield (v := .bool true) rfl (fun u hu => exec_eqb rfl rfl rfl) ?_
            simp only [Act.put, List.setIfInBounds_toArray, List.set_cons_succ, List.set_cons_zero]
            refine wpOrd_yield (v := .bool true) rfl (fun u hu => by go_simp) ?_
            simp only [Act.put, List.setIfInBounds_toArray, List.set_cons_succ, List.set_cons_zero]
            refine wpOrd_move rfl _ rfl ?_
            simp only [Act.put, List.setIfInBounds_toArray, List.set_cons_succ, List.set_cons_zero]
            refine wpOrd_yield (v := .agg #[.int .i64 n, .slice p s.length cp]) rfl (fun u hu => by have := s0 u hu; have := s1 u hu; go_simp) ?_
            simp only [Act.put, List.setIfInBounds_toArray, List.set_cons_succ, List.set_cons_zero]
            refine wpOrd_yield (v := .agg #[.int .i64 n, .slice p s.length cp]) rfl (fun u hu => by have := s0 u hu; have := s1 u hu; go_simp) ?_
            simp only [Act.put, List.setIfInBounds_toArray, List.set_cons_succ, List.set_cons_zero]
            refine wpOrd_call rfl 23 _ _ rfl Try.call23 [.agg #[.int .i64 n, .slice p s.length cp], .agg #[.int .i64 n, .slice p s.length cp]] rfl ?_
            refine (sm3 X4 hX4).mono ?_
            rintro e X5 ⟨rfl, hx5⟩
            have hX5 : Below wr.heap.size wr X5 := below3 hX4 hx5
            refine ⟨_, rfl, hX5, ?_⟩
            simp only [Act.put, List.setIfInBounds_toArray, List.set_cons_succ, List.set_cons_zero]
            refine wpOrd_yield (v := .bool true) rfl (fun u hu => by go_simp) ?_
            simp only [Act.put, List.setIfInBounds_toArray, List.set_cons_succ, List.set_cons_zero]
            refine wpOrd_move rfl _ rfl ?_
            simp only [Act.put, List.setIfInBounds_toArray, List.set_cons_succ, List.set_cons_zero]
            refine wpOrd_move rfl _ rfl ?_
            simp only [Act.put, List.setIfInBounds_toArray, List.set_cons_succ, List.set_cons_zero]
            refine wpOrd_yield (v := .agg #[.int .i64 n, .slice p s.length cp]) rfl (fun u hu => by have := s0 u hu; have := s1 u hu; go_simp) ?_
            simp only [Act.put, List.setIfInBounds_toArray, List.set_cons_succ, List.set_cons_zero]
            refine wpOrd_move rfl _ rfl ?_
            simp only [Act.put, List.setIfInBounds_toArray, List.set_cons_succ, List.set_cons_zero]
            refine wpOrd_yield (v := .agg #[.int .i64 n, .slice q t.length cq]) rfl (fun u hu => by have := s2 u hu; have := s3 u hu; go_simp) ?_
            simp only [Act.put, List.setIfInBounds_toArray, List.set_cons_succ, List.set_cons_zero]
            refine wpOrd_move rfl _ rfl ?_
            simp only [Act.put, List.setIfInBounds_toArray, List.set_cons_succ, List.set_cons_zero]
            refine wpOrd_call rfl 26 _ _ rfl Try.call26 [.agg #[.int .i64 n, .slice p s.length cp], .int .i64 k] rfl ?_
            refine (bs X5 hX5).mono ?_
            rintro e X6 ⟨rfl, hx6⟩
            have hX6 : Below wr.heap.size wr X6 := below3 hX5 hx6
            refine ⟨_, rfl, hX6, ?_⟩
            simp only [Act.put, List.setIfInBounds_toArray, List.set_cons_succ, List.set_cons_zero]
            refine wpOrd_call rfl 26 _ _ rfl Try.call26 [.agg #[.int .i64 n, .slice q t.length cq], .int .i64 k] rfl ?_
            refine (bt X6 hX6).mono ?_
            rintro e X7 ⟨rfl, hx7⟩
            have hX7 : Below wr.heap.size wr X7 := below3 hX6 hx7
            refine ⟨_, rfl, hX7, ?_⟩
            simp only [Act.put, List.setIfInBounds_toArray, List.set_cons_succ, List.set_cons_zero]
            refine wpOrd_yield (v := .bool bk) rfl (fun u hu => exec_neqB rfl rfl rfl hF1 hF2 hsb) ?_
            simp only [Act.put, List.setIfInBounds_toArray, List.set_cons_succ, List.set_cons_zero]
            refine wpOrd_yield (v := .bool true) rfl (fun u hu => exec_eqb rfl rfl rfl) ?_
            simp only [Act.put, List.setIfInBounds_toArray, List.set_cons_succ, List.set_cons_zero]
            refine wpOrd_yield (v := .bool true) rfl (fun u hu => by go_simp) ?_
            simp only [Act.put, List.setIfInBounds_toArray, List.set_cons_succ, List.set_cons_zero]
            refine wpOrd_yield (v := .bool true) rfl (fun u hu => by go_simp) ?_
            simp only [Act.put, List.setIfInBounds_toArray, List.set_cons_succ, List.set_cons_zero]
            refine wpOrd_nil ?_
            go_wp2
            go_ret
            exact ⟨rfl, below3 HBw.out hX7⟩
end Go.Proofs.Ytbnbbelkddbndaa
