/- The document's mkfs: what it does to the document's disk; for every geometry. -/
import Derived.Test.YtlcdpmjdnihocaaGreatJ6
import Derived.Test.YtlcdpmjdnihocaaGreatJ15
import Derived.Test.YtlcdpmjdnihocaaGreatJ16
namespace Go.Proofs.YtlcdpmjdnihocaaGreatD
open Go.RowKit Go.Maps
variable {w W : World} {d g : Nat} {s s' : St} {t : RSt} {l : List Part} {m : Nat}
theorem lay_info9 (b l i a c d e f g : Int) : (Tryz.prog.info? 52).map (·.size) = some (YtlcdpmjdnihocaaGreatP.lay9 b l i a c d e f g).size := by kernel_rfl
theorem lay_one9 (b l i a c d e f g : Int) : (YtlcdpmjdnihocaaGreatP.lay9 b l i a c d e f g).all (·.oneCell') = true := by simp [YtlcdpmjdnihocaaGreatP.lay9, Value.oneCell']
theorem zeroLy9 : ∀ w, (zeroValue 52).run Tryz.prog w = .ok (.agg (YtlcdpmjdnihocaaGreatP.lay9 0 0 0 0 0 0 0 0 0)) w := (zero_of_info (show (Tryz.prog.info? 52).map (fun i => (i.zero, i.size)) = some (some (.agg (YtlcdpmjdnihocaaGreatP.lay9 0 0 0 0 0 0 0 0 0)), 9) by kernel_rfl)).1
theorem blkD (f : Nat → Int) : YtlcdpmjdnihocaaGreat.blk f = blk f := by unfold blk YtlcdpmjdnihocaaGreat.blk YtlcdpmjdnihocaaGreat.rowN; simp
theorem both_rlen2 (h : RS w W d g s' t s m l) : Calls Tryz.prog 43 #[.pointer (some ⟨g, 0, none⟩)] W fun e W' => e = .returned (.int .i64 s.n) ∧ W' = W := by
  have := both_rlen h.both
  rwa [h.sim.n] at this
theorem both_rstopped2 (h : RS w W d g s' t s m l) : Calls Tryz.prog 24 #[.pointer (some ⟨g, 0, none⟩)] W fun e W' => e = .returned (.bool s.stopped) ∧ W' = W := by
  have := both_rstopped h.both
  rwa [h.sim.dead] at this
/-- A row as a part. -/
def rowP (g : Nat) (o : Obj) : Part := ⟨fun k => k = g, fun W => W.heap[g]? = some o⟩
theorem rowP_good (g : Nat) (o : Obj) : (rowP g o).Good := fun _ _ h _ hk => (hk g rfl).trans h
theorem Both.addRow (h : Both w W d g s t l) (o : Obj) : Both w (W.alloc o) d g s t (rowP W.heap.size o :: l) := by
  obtain ⟨L, R, hd, hg, h⟩ := h.out
  refine ⟨L, R, hd, hg, (h.add (below_new W o) (rowP_good _ _) (heap_alloc_new W o) fun k hk => ?_).back⟩
  have hk : k = W.heap.size := hk
  simp [hk]
theorem Both.dropRow {p : Part} (h : Both w W d g s t (p :: l)) : Both w W d g s t l := by
  obtain ⟨L, R, hd, hg, h⟩ := h.out
  exact ⟨L, R, hd, hg, h.third.drop⟩
theorem Both.row (h : Both w W d g s t l) {q : Nat} {o : Obj} (hm : rowP q o ∈ l) : W.heap[q]? = some o := by
  obtain ⟨L, R, hd, hg, h⟩ := h.out
  exact h.say (rowP q o) (List.mem_cons_of_mem _ (List.mem_cons_of_mem _ hm))
theorem RS.addRow (h : RS w W d g s' t s m l) (o : Obj) : RS w (W.alloc o) d g s' t s m (rowP W.heap.size o :: l) := ⟨h.both.addRow o, h.sim, h.ok, h.cap⟩
theorem RS.dropRow {p : Part} (h : RS w W d g s' t s m (p :: l)) : RS w W d g s' t s m l := ⟨h.both.dropRow, h.sim, h.ok, h.cap⟩
theorem RS.mono {m' : Nat} (h : RS w W d g s' t s m l) (hm : m ≤ m') : RS w W d g s' t s m' l := ⟨h.both, h.sim, h.ok, h.cap.mono hm⟩
theorem RE.dropRow {p : Part} {R : St × Int} (h : RE w W d g s' (p :: l) R m) : RE w W d g s' l R m := by
  obtain ⟨t, h⟩ := h
  exact ⟨t, h.dropRow⟩
theorem RI.row {R : St × Int} {rest : List MOp} (h : RI w W d g s' l R rest m) {q : Nat} {o : Obj} (hm : rowP q o ∈ l) : W.heap[q]? = some o := by
  obtain ⟨t, s, h, _⟩ := h
  exact h.both.row hm
theorem RI.addRow {R : St × Int} {rest : List MOp} (h : RI w W d g s' l R rest m) (o : Obj) : RI w (W.alloc o) d g s' (rowP W.heap.size o :: l) R rest m := by
  obtain ⟨t, s, h, h1, h2⟩ := h
  exact ⟨t, s, h.addRow o, h1, h2⟩
theorem blkD_info (f : Nat → Int) : (Tryz.prog.info? 79).map (·.size) = some (blk f).size := by rw [blk_size]; exact size25
theorem build0B (u : World) : (Instr.build 79 #[]).run Tryz.prog u = .ok (.agg (blk nought)) u := by
  have z := zero25
  generalize blk nought = Z at *
  simp [Instr.build, z, run_underlying Tryz.underlying79, Instr.fill, Value.cells, go_sem]
theorem exec_build0B {o : Oper} {a : Act} {W : World} (ho : o.op = .build 79 #[]) : (execOp a.eval o).run Tryz.prog W = .ok (.value (.agg (blk nought))) W := by
  have e := build0B W
  generalize blk nought = Z at *
  simp [execOp, ho, e]
theorem mkL_flat (b lg i : Int) : mkL b lg i 0 = some (0, nought) :: none :: some (1, nought) :: (mkR b lg i 0 ++ [none, some (0, YtlcdpmjdnihocaaGreatP.superF b lg i), none]) := by
  unfold mkL mkA mkB mkC
  simp
set_option maxRecDepth 20000 in
set_option maxHeartbeats 8000000 in
theorem rmake_ok (b lg i : Int) (h : RS w W d g s' t s m l) (hm : m ≤ 3000000) :
    Calls Tryz.prog 14 #[.pointer (some ⟨g, 0, none⟩), YtlcdpmjdnihocaaGreatP.geoV b lg i] W fun e W' => e = .returned (.int .i64 (mkE b lg i s)) ∧ ∃ t', RS w W' d g s' t' (mkV b lg i s) (m + 10000) l := by
  have hof := fun u => YtlcdpmjdnihocaaGreatP.refOf_any b lg i u
  have zl := zeroLy9
  have z25 := zero25
  have hG := heap_alloc_new W (.cells #[.int .i64 b, .int .i64 lg, .int .i64 i] 26)
  have HGi : Hid ((Tryz.prog.info? 26).map (·.size) = some (#[Value.int .i64 b, .int .i64 lg, .int .i64 i] : Array Value).size) := by show _ = _; kernel_rfl
  have hK := h.later (below_new W (.cells #[.int .i64 b, .int .i64 lg, .int .i64 i] 26))
  have HK := Hid.mk' hK
  have HG := Hid.mk' hG
  have HLz : Hid ((Tryz.prog.info? 52).map (·.size) = some (YtlcdpmjdnihocaaGreatP.lay9 0 0 0 0 0 0 0 0 0).size) := lay_info9 _ _ _ _ _ _ _ _ _
  have HOz : Hid ((YtlcdpmjdnihocaaGreatP.lay9 0 0 0 0 0 0 0 0 0).all (·.oneCell') = true) := lay_one9 _ _ _ _ _ _ _ _ _
  clear hK hG h
  unfold YtlcdpmjdnihocaaGreatP.geoV at *
  by_cases hf : YtlcdpmjdnihocaaGreatP.Fine b lg i
  · have hV : YtlcdpmjdnihocaaGreatP.ofV b lg i = .agg (YtlcdpmjdnihocaaGreatP.lay9 b lg i 1 (1 + lg) (YtlcdpmjdnihocaaGreatP.nodeB i) (YtlcdpmjdnihocaaGreatP.bitsAt lg i) (YtlcdpmjdnihocaaGreatP.bitsB b) (YtlcdpmjdnihocaaGreatP.dataAt b lg i)) := if_pos hf
    have hE : YtlcdpmjdnihocaaGreatP.ofE b lg i = 0 := if_pos hf
    rw [hV, hE] at hof
    obtain ⟨b1, b2, b3, b4, b5, b6, b7, b8⟩ := YtlcdpmjdnihocaaGreat.fine_bd hf
    have HBk : Hid (∀ (j : Nat) (V : World), j < mkN b lg i → Calls Tryz.prog 46 #[.agg (YtlcdpmjdnihocaaGreatP.lay9 b lg i 1 (1 + lg) (YtlcdpmjdnihocaaGreatP.nodeB i) (YtlcdpmjdnihocaaGreatP.bitsAt lg i) (YtlcdpmjdnihocaaGreatP.bitsB b) (YtlcdpmjdnihocaaGreatP.dataAt b lg i)), .int .i64 (1 + lg + (j : Int))] V fun e w' => e = .returned (.agg (blk (YtlcdpmjdnihocaaGreat.coF b lg i (1 + lg + (j : Int))))) ∧ Below V.heap.size V w') := fun j V hj => by
      rw [← blkD]
      exact YtlcdpmjdnihocaaGreat.block_any b lg i _ hf (by unfold mkN at hj; omega) V
    have HEn : Hid (∀ V : World, Calls Tryz.prog 47 #[.agg (YtlcdpmjdnihocaaGreatP.lay9 b lg i 1 (1 + lg) (YtlcdpmjdnihocaaGreatP.nodeB i) (YtlcdpmjdnihocaaGreatP.bitsAt lg i) (YtlcdpmjdnihocaaGreatP.bitsB b) (YtlcdpmjdnihocaaGreatP.dataAt b lg i))] V fun e w' => e = .returned (.tuple #[.agg (blk (YtlcdpmjdnihocaaGreatP.superF b lg i)), .int .i64 0]) ∧ Below V.heap.size V w') := fun V => YtlcdpmjdnihocaaGreatP.refEncode_fine b lg i V hf
    have HLi : Hid ((Tryz.prog.info? 52).map (·.size) = some (YtlcdpmjdnihocaaGreatP.lay9 b lg i 1 (1 + lg) (YtlcdpmjdnihocaaGreatP.nodeB i) (YtlcdpmjdnihocaaGreatP.bitsAt lg i) (YtlcdpmjdnihocaaGreatP.bitsB b) (YtlcdpmjdnihocaaGreatP.dataAt b lg i)).size) := lay_info9 _ _ _ _ _ _ _ _ _
    have HLo : Hid ((YtlcdpmjdnihocaaGreatP.lay9 b lg i 1 (1 + lg) (YtlcdpmjdnihocaaGreatP.nodeB i) (YtlcdpmjdnihocaaGreatP.bitsAt lg i) (YtlcdpmjdnihocaaGreatP.bitsB b) (YtlcdpmjdnihocaaGreatP.dataAt b lg i)).all (·.oneCell') = true) := lay_one9 _ _ _ _ _ _ _ _ _
    have HLs : Hid ((YtlcdpmjdnihocaaGreatP.lay9 0 0 0 0 0 0 0 0 0).size = (YtlcdpmjdnihocaaGreatP.lay9 b lg i 1 (1 + lg) (YtlcdpmjdnihocaaGreatP.nodeB i) (YtlcdpmjdnihocaaGreatP.bitsAt lg i) (YtlcdpmjdnihocaaGreatP.bitsB b) (YtlcdpmjdnihocaaGreatP.dataAt b lg i)).size) := rfl
    have HL4 : Hid ((YtlcdpmjdnihocaaGreatP.lay9 b lg i 1 (1 + lg) (YtlcdpmjdnihocaaGreatP.nodeB i) (YtlcdpmjdnihocaaGreatP.bitsAt lg i) (YtlcdpmjdnihocaaGreatP.bitsB b) (YtlcdpmjdnihocaaGreatP.dataAt b lg i))[4]? = some (.int .i64 (1 + lg))) := rfl
    have HL3 : Hid ((YtlcdpmjdnihocaaGreatP.lay9 b lg i 1 (1 + lg) (YtlcdpmjdnihocaaGreatP.nodeB i) (YtlcdpmjdnihocaaGreatP.bitsAt lg i) (YtlcdpmjdnihocaaGreatP.bitsB b) (YtlcdpmjdnihocaaGreatP.dataAt b lg i))[3]? = some (.int .i64 1)) := rfl
    obtain ⟨n, hn⟩ : ∃ n, mkN b lg i = n := ⟨_, rfl⟩
    have hdn : YtlcdpmjdnihocaaGreatP.dataAt b lg i = lg + (n : Int) := by rw [← hn]; unfold mkN; omega
    have hn5 : n ≤ 9000 := by rw [← hn]; unfold mkN; have := hf.2.2.2.1; unfold YtlcdpmjdnihocaaGreatP.dataAt YtlcdpmjdnihocaaGreatP.bitsAt YtlcdpmjdnihocaaGreatP.nodeB YtlcdpmjdnihocaaGreatP.bitsB; omega
    have HL8 : Hid ((YtlcdpmjdnihocaaGreatP.lay9 b lg i 1 (1 + lg) (YtlcdpmjdnihocaaGreatP.nodeB i) (YtlcdpmjdnihocaaGreatP.bitsAt lg i) (YtlcdpmjdnihocaaGreatP.bitsB b) (YtlcdpmjdnihocaaGreatP.dataAt b lg i))[8]? = some (.int .i64 (lg + (n : Int)))) := by rw [← hdn]; rfl
    have HSt : Hid (∀ j, j < n → mkR b lg i j = some (1 + lg + (j : Int), YtlcdpmjdnihocaaGreat.coF b lg i (1 + lg + (j : Int))) :: mkR b lg i (j + 1)) := fun j hj => mkR_step b lg i j (by omega)
    have HEd : Hid (mkR b lg i n = []) := by rw [← hn]; exact mkR_end b lg i
    have HIn : Hid (b ≤ s.n → ∀ o ∈ mkL b lg i 0, InOp (claimV s).n o) := fun h => by rw [claim_n]; exact mkL_in hf h
    have HFl := Hid.mk' (mkL_flat b lg i)
    have HCo : Hid (∀ k, Can (YtlcdpmjdnihocaaGreat.coF b lg i k)) := fun k => can_co b lg i k
    have HCs : Hid (Can (YtlcdpmjdnihocaaGreatP.superF b lg i)) := can_super b lg i
    have hrd : rdyE b lg i s = if b > s.n then 2 else if s.stopped then 3 else 0 := by
      unfold rdyE
      by_cases q : b > s.n
      · rw [if_pos (Or.inr q), if_pos q]
      · rw [if_neg (by rw [hE]; rintro (z | z); exact z rfl; exact q z), if_neg q]
    have HrE : Hid (mkE b lg i s = if b > s.n then 2 else if s.stopped then 3 else (runL (claimV s) (mkL b lg i 0)).2) := by
      show _ = _
      unfold mkE
      rw [hrd]
      by_cases q : b > s.n
      · simp [q]
      · cases hs : s.stopped <;> simp [q]
    have HrV : Hid (mkV b lg i s = if b > s.n then s else if s.stopped then s else (runL (claimV s) (mkL b lg i 0)).1) := by
      show _ = _
      unfold mkV
      rw [hrd]
      by_cases q : b > s.n
      · simp [q]
      · cases hs : s.stopped <;> simp [q]
    rw [hn] at HBk
    clear hV hE hdn hn hf hrd b5 b6 b7 b8
    generalize YtlcdpmjdnihocaaGreatP.lay9 b lg i 1 (1 + lg) (YtlcdpmjdnihocaaGreatP.nodeB i) (YtlcdpmjdnihocaaGreatP.bitsAt lg i) (YtlcdpmjdnihocaaGreatP.bitsB b) (YtlcdpmjdnihocaaGreatP.dataAt b lg i) = LA at *
    generalize YtlcdpmjdnihocaaGreatP.lay9 0 0 0 0 0 0 0 0 0 = Z at *
    go_enter Tryz.func14, Tryz.ntmps14
    have hg := HG.out
    go_wp2_with (first | (with_reducible refine YtlcdpmjdnihocaaGreat.isLoadR 26 ?_; refine YtlcdpmjdnihocaaGreat.wpList_ldR 26 Tryz.underlying26 rfl rfl _ rfl W.heap.size rfl #[.int .i64 b, .int .i64 lg, .int .i64 i] 26 (0, 0) HGi.out hg ?_) | (go_at_call 27; fail))
    refine (hof _).mono ?_
    rintro e W1 ⟨rfl, hb1⟩
    have hb2 := below_next hb1 (below_new W1 (.cells LA 52))
    have K1 := (HK.out.later hb1).addRow (.cells LA 52)
    have g1 := heap_kept hg hb2
    have c0 : (W1.alloc (.cells LA 52)).cell? ⟨W.heap.size, 0, none⟩ = some (.int .i64 b) := Joins.cell_of_block g1 0
    have HK1 := Hid.mk' K1
    clear hof hb1 hb2 hg HG HK K1 g1
    go_upto_region 4 with (first | (with_reducible refine YtlcdpmjdnihocaaGreat.isStoreR 52 ?_; refine YtlcdpmjdnihocaaGreat.wpList_stNew 52 rfl _ _ rfl W1.heap.size LA Z 52 HLi.out HLs.out HLo.out rfl rfl rfl ?_))
    generalize W1.alloc (.cells LA 52) = X at *
    generalize W1.heap.size = gl at *
    have hlnd := both_rlen2 (HK1.out.later (W' := X.drew) ⟨rfl, rfl, rfl, Nat.le_refl _, fun _ _ => rfl⟩)
    have KD := Hid.mk' (HK1.out.later (W' := X.drew) ⟨rfl, rfl, rfl, Nat.le_refl _, fun _ _ => rfl⟩)
    clear HK1
    refine wp_region_ord (S := fun u => u.cell? ⟨W.heap.size, 0, none⟩ = some (.int .i64 b)) [(0, true), (1, true), (2, true), (3, true), (4, true), (5, true), (6, false), (7, true), (8, true)]
      (by kernel_rfl) rfl (by kernel_rfl) (fun d _ _ _ _ h => by cases d <;> exact h) c0 ?_
    simp only [inOrd, List.getElem?_cons_zero, List.getElem?_cons_succ]
    have c0d : X.drew.cell? ⟨W.heap.size, 0, none⟩ = some (.int .i64 b) := c0
    generalize X.drew = Y at *
    refine wpOrd_yield (v := .int .i64 0) rfl (fun u _ => by go_simp) ?_
    simp only [Act.put, List.setIfInBounds_toArray, List.set_cons_succ, List.set_cons_zero]
    refine wpOrd_yield (v := .bool false) rfl (fun u _ => by go_simp) ?_
    simp only [Act.put, List.setIfInBounds_toArray, List.set_cons_succ, List.set_cons_zero]
    refine wpOrd_yield (v := .bool false) rfl (fun u _ => by go_simp) ?_
    simp only [Act.put, List.setIfInBounds_toArray, List.set_cons_succ, List.set_cons_zero]
    refine wpOrd_yield (v := .pointer (some ⟨W.heap.size, 0, none⟩)) rfl (fun u _ => by go_simp) ?_
    simp only [Act.put, List.setIfInBounds_toArray, List.set_cons_succ, List.set_cons_zero]
    refine wpOrd_yield (v := .int .i64 b) rfl (fun u hu => by have := hu; go_simp) ?_
    simp only [Act.put, List.setIfInBounds_toArray, List.set_cons_succ, List.set_cons_zero]
    refine wpOrd_yield (v := .pointer (some ⟨g, 0, none⟩)) rfl (fun u _ => by go_simp) ?_
    simp only [Act.put, List.setIfInBounds_toArray, List.set_cons_succ, List.set_cons_zero]
    refine wpOrd_call rfl 43 _ _ rfl Tryz.call43 [.pointer (some ⟨g, 0, none⟩)] rfl ?_
    refine hlnd.mono ?_
    rintro e V ⟨rfl, rfl⟩
    refine ⟨_, rfl, c0d, ?_⟩
    simp only [Act.put, List.setIfInBounds_toArray, List.set_cons_succ, List.set_cons_zero]
    have hst := both_rstopped2 KD.out
    by_cases hbn : b > s.n
    · have t1 : decide (s.n < b) = true := decide_eq_true hbn
      have e1 : mkE b lg i s = 2 := by rw [HrE.out, if_pos hbn]
      have e2 : mkV b lg i s = s := by rw [HrV.out, if_pos hbn]
      have HE1 := Hid.mk' e1
      have HE2 := Hid.mk' e2
      clear HrE HrV e1 e2 HSt HBk HEn HIn HFl HCo HCs hst
      refine wpOrd_yield (v := .bool true) rfl (fun u _ => by have := t1; go_simp) ?_
      simp only [Act.put, List.setIfInBounds_toArray, List.set_cons_succ, List.set_cons_zero]
      refine wpOrd_yield (v := .bool true) rfl (fun u _ => by go_simp) ?_
      simp only [Act.put, List.setIfInBounds_toArray, List.set_cons_succ, List.set_cons_zero]
      refine wpOrd_nil ?_
      go_wp2
      go_ret
      exact ⟨by rw [HE1.out]; rfl, t, by rw [HE2.out]; exact KD.out.dropRow.mono (by omega)⟩
    · have t1 : decide (s.n < b) = false := decide_eq_false hbn
      have hin := HIn.out (by omega)
      rw [if_neg hbn] at HrE HrV
      refine wpOrd_yield (v := .bool false) rfl (fun u _ => by have := t1; go_simp) ?_
      simp only [Act.put, List.setIfInBounds_toArray, List.set_cons_succ, List.set_cons_zero]
      refine wpOrd_yield (v := .bool false) rfl (fun u _ => by go_simp) ?_
      simp only [Act.put, List.setIfInBounds_toArray, List.set_cons_succ, List.set_cons_zero]
      refine wpOrd_nil ?_
      clear c0 c0d hlnd t1
      cases hs : s.stopped
      · rw [hs] at hst
        rw [hs, if_neg (by simp)] at HrE HrV
        have hcl := KD.out.claim (by omega) hs
        have HIn2 := Hid.mk' hin
        clear hin HIn KD
        go_wp2_with (first | (go_at_call 24; refine hst.mono ?_; rintro e V ⟨rfl, rfl⟩) | (go_at_call 10; fail))
        refine hcl.mono ?_
        rintro e V1 ⟨⟨v, rfl⟩, t1, K2⟩
        have hI : RI w V1 d g s' (rowP gl (.cells LA 52) :: l) (runL (claimV s) (mkL b lg i 0)) (some (0, nought) :: none :: some (1, nought) :: (mkR b lg i 0 ++ [none, some (0, YtlcdpmjdnihocaaGreatP.superF b lg i), none])) (m + 1) := ⟨t1, _, K2, by rw [HFl.out], by rw [← HFl.out]; exact HIn2.out⟩
        clear hcl hst HIn2 HFl K2
        generalize runL (claimV s) (mkL b lg i 0) = R at *
        generalize YtlcdpmjdnihocaaGreatP.superF b lg i = SF at *
        have HFin : Hid (∀ V, R.2 = 3 → RE w V d g s' (rowP gl (.cells LA 52) :: l) R (m + 9990) → Ending.returned (Value.int .i64 3) = .returned (.int .i64 (mkE b lg i s)) ∧ ∃ t', RS w V d g s' t' (mkV b lg i s) (m + 10000) l) := fun V h3 hR => by
          obtain ⟨t', h⟩ := hR.dropRow
          exact ⟨by rw [HrE.out, h3], t', by rw [HrV.out]; exact h.mono (by omega)⟩
        have hw := hI.write can_nought (by omega)
        clear hI
        go_wp2_with (first | (with_reducible refine YtlcdpmjdnihocaaGreat.isBuildR 79 ?_; refine YtlcdpmjdnihocaaGreat.wpList_ex rfl (exec_build0B rfl) ?_) | (go_at_call 44; fail))
        refine hw.mono ?_
        rintro e V2 (⟨rfl, h2⟩ | ⟨rfl, hr, he⟩)
        · have hw2 := h2.bar (by omega)
          clear hw h2
          go_wp2_with (go_at_call 45; fail)
          refine hw2.mono ?_
          rintro e V3 (⟨rfl, h3⟩ | ⟨rfl, hr, he⟩)
          · have hw3 := h3.write can_nought (by omega)
            have hly := h3.row (List.mem_cons_self ..)
            have c3 : V3.cell? ⟨gl, 3, none⟩ = some (.int .i64 1) := (Joins.cell_of_block hly 3).trans HL3.out
            clear hw2 h3 hly
            go_wp2_with (first | (with_reducible refine YtlcdpmjdnihocaaGreat.isBuildR 79 ?_; refine YtlcdpmjdnihocaaGreat.wpList_ex rfl (exec_build0B rfl) ?_) | (go_at_call 44; fail))
            refine hw3.mono ?_
            rintro e V4 (⟨rfl, h4⟩ | ⟨rfl, hr, he⟩)
            · have hly := h4.row (List.mem_cons_self ..)
              have c4 : V4.cell? ⟨gl, 4, none⟩ = some (.int .i64 (1 + lg)) := (Joins.cell_of_block hly 4).trans HL4.out
              have HI4 : Hid (RI w V4 d g s' (rowP gl (.cells LA 52) :: l) R (mkR b lg i 0 ++ [none, some (0, SF), none]) (m + 4 + 0)) := h4
              clear hw3 h4 hly c3
              go_wp2
              clear c4
              go_loopw [7] (fun s7 wx => ∃ j : Nat, j ≤ n ∧ s7 = .int .i64 (1 + lg + (j : Int)) ∧ Hid (RI w wx d g s' (rowP gl (.cells LA 52) :: l) R (mkR b lg i j ++ [none, some (0, SF), none]) (m + 4 + j))) (fun s7 _ => (1 + lg + (n : Int) - intOf s7).toNat)
              case atStart => exact ⟨0, by omega, by simp, HI4.out⟩
              case round =>
                clear HI4
                obtain ⟨j, hj, rfl, HI⟩ := hrel
                have hly := HI.out.row (List.mem_cons_self ..)
                have c8 : wr.cell? ⟨gl, 8, none⟩ = some (.int .i64 (lg + (n : Int))) := (Joins.cell_of_block hly 8).trans HL8.out
                by_cases hjn : j < n
                · have t1 : decide (1 + lg + (j : Int) ≤ lg + (n : Int)) = true := decide_eq_true (by omega)
                  have e1 : IntKind.i64.wrap (1 + lg + (j : Int) + 1) = 1 + lg + ((j + 1 : Nat) : Int) := by rw [IntKind.wrap_i64]; omega
                  have hbk := HBk.out j wr hjn
                  go_wp2_with (first | (with_reducible refine YtlcdpmjdnihocaaGreat.isLoadR 52 ?_; refine YtlcdpmjdnihocaaGreat.wpList_ldR 52 Tryz.underlying52 rfl rfl _ rfl gl rfl LA 52 (0, 0) HLi.out hly ?_) | (go_at_call 46; fail))
                  refine hbk.mono ?_
                  rintro e U1 ⟨rfl, hb⟩
                  have hI2 := HI.out.later hb
                  rw [HSt.out j hjn] at hI2
                  have hw := hI2.write (HCo.out _) (by omega)
                  clear hbk hb hI2 HI hly c8
                  go_wp2_with (go_at_call 44; fail)
                  refine hw.mono ?_
                  rintro e U2 (⟨rfl, h5⟩ | ⟨rfl, hr, he⟩)
                  · have HN := Hid.mk' h5
                    clear hw h5
                    go_wp2
                    exact ⟨⟨j + 1, by omega, rfl, HN⟩, by simp [intOf]; omega⟩
                  · have HQ := Hid.mk' (HFin.out U2 hr (he.mono (by omega)))
                    clear hw HFin hr he
                    go_wp2
                    go_ret
                    exact HQ.out
                · obtain rfl : j = n := by omega
                  have t1 : decide (1 + lg + (j : Int) ≤ lg + (j : Int)) = false := decide_eq_false (by omega)
                  have hen := HEn.out wr
                  rw [HEd.out] at HI
                  go_wp2_with (first | (with_reducible refine YtlcdpmjdnihocaaGreat.isLoadR 52 ?_; refine YtlcdpmjdnihocaaGreat.wpList_ldR 52 Tryz.underlying52 rfl rfl _ rfl gl rfl LA 52 (0, 0) HLi.out hly ?_) | (go_at_call 47; fail))
                  refine hen.mono ?_
                  rintro e U1 ⟨rfl, hb⟩
                  have h6 := (HI.out.later hb).addRow (.cells (blk SF) 79)
                  have hsr := h6.row (List.mem_cons_self ..)
                  have hw6 := h6.bar (by omega)
                  clear hen hb HI hly c8 h6
                  go_wp2_with (first | refine wpList_store25_new rfl _ _ rfl SF _ rfl rfl ?_ | (go_at_call 45; fail))
                  generalize U1.alloc (.cells (blk SF) 79) = U at *
                  generalize U1.heap.size = gs at *
                  clear hsr
                  refine hw6.mono ?_
                  rintro e V7 (⟨rfl, h7⟩ | ⟨rfl, hr, he⟩)
                  · have hsr := h7.row (List.mem_cons_self ..)
                    have hw7 := h7.write HCs.out (by omega)
                    have HBi := Hid.mk' (blkD_info SF)
                    clear hw6 h7
                    go_wp2_with (first | (with_reducible refine YtlcdpmjdnihocaaGreat.isLoadR 79 ?_; refine YtlcdpmjdnihocaaGreat.wpList_ldR 79 Tryz.underlying79 rfl rfl _ rfl gs rfl (blk SF) 79 (0, 0) HBi.out hsr ?_) | (go_at_call 44; fail))
                    refine hw7.mono ?_
                    rintro e V8 (⟨rfl, h8⟩ | ⟨rfl, hr, he⟩)
                    · have hw8 := h8.bar (by omega)
                      clear hw7 h8 hsr
                      go_wp2_with (go_at_call 45; fail)
                      refine hw8.mono ?_
                      rintro e V9 (⟨rfl, h9⟩ | ⟨rfl, hr, he⟩)
                      · obtain ⟨he, hr⟩ := h9.end_
                        have HQ : Hid (Ending.returned (Value.int .i64 0) = .returned (.int .i64 (mkE b lg i s)) ∧ ∃ t', RS w V9 d g s' t' (mkV b lg i s) (m + 10000) l) := by
                          obtain ⟨t', h⟩ := he.dropRow.dropRow
                          exact ⟨by rw [HrE.out, hr], t', by rw [HrV.out]; exact h.mono (by omega)⟩
                        clear hw8 HFin h9 he hr
                        go_wp2
                        go_ret
                        exact HQ.out
                      · have HQ := Hid.mk' (HFin.out V9 hr (he.dropRow.mono (by omega)))
                        clear hw8 HFin hr he
                        go_wp2
                        go_ret
                        exact HQ.out
                    · have HQ := Hid.mk' (HFin.out V8 hr (he.dropRow.mono (by omega)))
                      clear hw7 HFin hr he hsr
                      go_wp2
                      go_ret
                      exact HQ.out
                  · have HQ := Hid.mk' (HFin.out V7 hr (he.dropRow.mono (by omega)))
                    clear hw6 HFin hr he
                    go_wp2
                    go_ret
                    exact HQ.out
            · have HQ := Hid.mk' (HFin.out V4 hr (he.mono (by omega)))
              clear hw3 HFin hr he c3
              go_wp2
              go_ret
              exact HQ.out
          · have HQ := Hid.mk' (HFin.out V3 hr (he.mono (by omega)))
            clear hw2 HFin hr he
            go_wp2
            go_ret
            exact HQ.out
        · have HQ := Hid.mk' (HFin.out V2 hr (he.mono (by omega)))
          clear hw HFin hr he
          go_wp2
          go_ret
          exact HQ.out
      · rw [hs] at hst
        rw [hs, if_pos rfl] at HrE HrV
        clear HSt HBk HEn HIn HFl HCo HCs hin
        go_wp2_with (go_at_call 24; refine hst.mono ?_; rintro e V ⟨rfl, rfl⟩)
        go_ret
        exact ⟨by rw [HrE.out]; rfl, t, by rw [HrV.out]; exact KD.out.dropRow.mono (by omega)⟩
  · have hV : YtlcdpmjdnihocaaGreatP.ofV b lg i = .agg (YtlcdpmjdnihocaaGreatP.lay9 0 0 0 0 0 0 0 0 0) := if_neg hf
    have hE : YtlcdpmjdnihocaaGreatP.ofE b lg i = 2 := if_neg hf
    rw [hV, hE] at hof
    have hr : rdyE b lg i s = 2 := by unfold rdyE; rw [if_pos (.inl (by rw [hE]; omega))]
    have e1 : mkE b lg i s = 2 := by unfold mkE; rw [hr]; rfl
    have e2 : mkV b lg i s = s := by unfold mkV; rw [hr]; rfl
    rw [e1, e2]
    clear e1 e2 hr hV hE hf
    generalize YtlcdpmjdnihocaaGreatP.lay9 0 0 0 0 0 0 0 0 0 = Z at *
    go_enter Tryz.func14, Tryz.ntmps14
    have hg := HG.out
    go_wp2_with (first | (with_reducible refine isLoadR 26 ?_; refine wpList_ldR 26 Tryz.underlying26 rfl rfl _ rfl W.heap.size rfl #[.int .i64 b, .int .i64 lg, .int .i64 i] 26 (0, 0) HGi.out hg ?_) | (go_at_call 27; fail))
    refine (hof _).mono ?_
    rintro e W1 ⟨rfl, hb1⟩
    have HS := Hid.mk' (HK.out.later (below_next hb1 (below_new W1 (.cells Z 52))))
    clear hof hb1 hg HG HK
    go_upto_region 4 with (first | (with_reducible refine YtlcdpmjdnihocaaGreat.isStoreR 52 ?_; refine YtlcdpmjdnihocaaGreat.wpList_stNew 52 rfl _ _ rfl W1.heap.size Z Z 52 HLz.out rfl HOz.out rfl rfl rfl ?_))
    generalize W1.alloc (.cells Z 52) = X at *
    have HD := Hid.mk' (HS.out.later (W' := X.drew) ⟨rfl, rfl, rfl, Nat.le_refl _, fun _ _ => rfl⟩)
    clear HS
    refine wp_region_ord (S := fun _ => True) [(0, true), (1, true), (2, true), (3, true), (4, true), (5, true), (6, false), (7, true), (8, true)]
      (by kernel_rfl) rfl (by kernel_rfl) (fun d _ _ _ _ h => by cases d <;> exact h) trivial ?_
    simp only [inOrd, List.getElem?_cons_zero, List.getElem?_cons_succ]
    generalize X.drew = Y at *
    refine wpOrd_yield (v := .int .i64 2) rfl (fun u _ => by go_simp) ?_
    simp only [Act.put, List.setIfInBounds_toArray, List.set_cons_succ, List.set_cons_zero]
    refine wpOrd_yield (v := .bool true) rfl (fun u _ => by go_simp) ?_
    simp only [Act.put, List.setIfInBounds_toArray, List.set_cons_succ, List.set_cons_zero]
    refine wpOrd_yield (v := .bool true) rfl (fun u _ => by go_simp) ?_
    simp only [Act.put, List.setIfInBounds_toArray, List.set_cons_succ, List.set_cons_zero]
    refine wpOrd_skip trivial rfl ?_
    simp only [Act.put, List.setIfInBounds_toArray, List.set_cons_succ, List.set_cons_zero]
    refine wpOrd_skip trivial rfl ?_
    simp only [Act.put, List.setIfInBounds_toArray, List.set_cons_succ, List.set_cons_zero]
    refine wpOrd_skip trivial rfl ?_
    simp only [Act.put, List.setIfInBounds_toArray, List.set_cons_succ, List.set_cons_zero]
    refine wpOrd_skip trivial rfl ?_
    simp only [Act.put, List.setIfInBounds_toArray, List.set_cons_succ, List.set_cons_zero]
    refine wpOrd_skip trivial rfl ?_
    simp only [Act.put, List.setIfInBounds_toArray, List.set_cons_succ, List.set_cons_zero]
    refine wpOrd_yield (v := .bool true) rfl (fun u _ => by go_simp) ?_
    simp only [Act.put, List.setIfInBounds_toArray, List.set_cons_succ, List.set_cons_zero]
    refine wpOrd_nil ?_
    go_wp2
    go_ret
    exact ⟨rfl, t, HD.out.mono (by omega)⟩
end Go.Proofs.YtlcdpmjdnihocaaGreatD
