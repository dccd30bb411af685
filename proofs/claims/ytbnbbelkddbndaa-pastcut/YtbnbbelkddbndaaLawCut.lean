/- PastCut answers true: for every scene and list of ops; no condition. -/
import Derived.Test.YtbnbbelkddbndaaRecs
namespace Go.Proofs.Ytbnbbelkddbndaa
open Go.RowKit Go.Maps
set_option maxRecDepth 20000 in
set_option maxHeartbeats 2000000 in
theorem law_cut (n : Int) (p : Option Addr) (l : List Cel) (cp : Nat) (po : Option Addr) (ops : List Rec) (co : Nat) (K : Int) (ka : Option Addr) (keep : List Bool) (kc : Nat) (q : Int) (pm : Option Addr) (more : List Rec) (cm : Nat) (w : World)
    (hI : ImgAt w p l) (hO : OpsAt w po ops) (hk : BoolsAt w (.slice ka keep.length kc) keep) (hM : OpsAt w pm more) (hcl : ∀ c ∈ l, Can c.2) (hcr : ∀ r ∈ ops, Can r.dat) (hcm : ∀ r ∈ more, Can r.dat)
    (ll : l.length ≤ maxLen) (lo : ops.length ≤ maxLen) (lk : keep.length ≤ maxLen) (lm : more.length ≤ maxLen) (lmc : more.length ≤ cm) :
    Calls Try.prog 5 #[.agg (sceneV n p l.length cp po ops.length co K ka keep.length kc q), .slice pm more.length cm] w fun e w' => e = .returned (.bool true) ∧ Below w.heap.size w w' := by
  unfold maxLen at ll lo lk lm
  have hB0 := below_new w (.cells (sceneV n p l.length cp po ops.length co K ka keep.length kc q) 28)
  have hG0 := heap_alloc_new w (.cells (sceneV n p l.length cp po ops.length co K ka keep.length kc q) 28)
  have hlg := fun u => large_any n p l.length cp po ops.length co K ka keep.length kc q u (by omega) (by omega) (by omega)
  have HI : Hid (ImgAt w p l) := hI
  have HO : Hid (OpsAt w po ops) := hO
  have HK : Hid (BoolsAt w (.slice ka keep.length kc) keep) := hk
  have HM : Hid (OpsAt w pm more) := hM
  have HCl : Hid (∀ c ∈ l, Can c.2) := hcl
  have HCr : Hid (∀ r ∈ ops, Can r.dat) := hcr
  have HCm : Hid (∀ r ∈ more, Can r.dat) := hcm
  clear hI hO hk hM hcl hcr hcm
  unfold sceneV at *
  go_enter Try.func5, Try.ntmps5
  go_wp2_with (go_at_call 20; fail)
  refine (lives_any _).mono ?_
  rintro e W1 ⟨rfl, hb1⟩
  have hG1 := heap_kept hG0 hb1
  have hB1 := below3 hB0 hb1
  have c0 : W1.cell? ⟨w.heap.size, 0, none⟩ = some (.int .i64 n) := Joins.cell_of_block hG1 0
  have c1 : W1.cell? ⟨w.heap.size, 1, none⟩ = some (.slice p l.length cp) := Joins.cell_of_block hG1 1
  have c2 : W1.cell? ⟨w.heap.size, 2, none⟩ = some (.slice po ops.length co) := Joins.cell_of_block hG1 2
  have c3 : W1.cell? ⟨w.heap.size, 3, none⟩ = some (.int .i64 K) := Joins.cell_of_block hG1 3
  have c4 : W1.cell? ⟨w.heap.size, 4, none⟩ = some (.slice ka keep.length kc) := Joins.cell_of_block hG1 4
  have c5 : W1.cell? ⟨w.heap.size, 5, none⟩ = some (.int .i64 q) := Joins.cell_of_block hG1 5
  clear hG0 hB0 hb1
  cases hbig : largeB l.length ops.length keep.length
  · have hsm : l.length ≤ 120 ∧ ops.length ≤ 120 ∧ keep.length ≤ 120 := by
      unfold largeB at hbig
      simp at hbig
      omega
    have hlg1 := hlg W1
    rw [hbig] at hlg1
    by_cases hm120 : (more.length : Int) > 120
    · go_wp2_with (go_at_call 9; refine hlg1.mono ?_; rintro e W2 ⟨rfl, hb2⟩)
      go_ret
      exact ⟨rfl, below3 hB1 hb2⟩
    · go_wp2_with (go_at_call 9; fail)
      refine hlg1.mono ?_
      rintro e W2 ⟨rfl, hb2⟩
      have HG2 : Hid (W2.heap[w.heap.size]? = some (.cells #[.int .i64 n, .slice p l.length cp, .slice po ops.length co, .int .i64 K, .slice ka keep.length kc, .int .i64 q] 28)) := heap_kept hG1 hb2
      have HB2 : Hid (Below w.heap.size w W2) := below3 hB1 hb2
      have hpk := fun u => pick_any K 121 ⟨by omega, by omega⟩ u
      have hmod : 0 ≤ K % 121 ∧ K % 121 < 121 := ⟨Int.emod_nonneg _ (by omega), Int.emod_lt_of_pos _ (by omega)⟩
      obtain ⟨M, hM⟩ : ∃ M : Nat, (M : Int) = K % 121 := ⟨(K % 121).toNat, by omega⟩
      rw [← hM] at hpk
      have HO0 : Hid (W2.ownsRow (w.heap.size + 1) 42 1026 (.slice none 0 0) (ops.take 0).length (opCells (ops.take 0))) := World.ownsRow_nil _ _ _ _
      clear hlg hlg1 hb2 hG1 hB1 c0 c1 c2 c3 c4 c5 hM hmod hbig
      go_wp2
      go_loopw [5, 6] (fun s5 s6 wx => ∃ (i : Nat) (v : Value), i ≤ ops.length ∧ i ≤ M ∧ s6 = .int .i64 i ∧ s5 = v ∧ Hid (wx.ownsRow (w.heap.size + 1) 42 1026 v (ops.take i).length (opCells (ops.take i))) ∧ Hid (Below w.heap.size w wx) ∧ Hid (wx.heap[w.heap.size]? = some (.cells #[.int .i64 n, .slice p l.length cp, .slice po ops.length co, .int .i64 K, .slice ka keep.length kc, .int .i64 q] 28))) (fun _ s6 _ => ops.length - (intOf s6).toNat)
      case atStart => exact ⟨0, .slice none 0 0, by omega, by omega, rfl, rfl, HO0.out, HB2.out, HG2.out⟩
      case round =>
        obtain ⟨i, v, hi, hiM, rfl, hv, HW, HB, HG⟩ := hrel
        have hv2 := hv.symm
        subst hv2
        clear HO0 HB2 HG2
        by_cases hi2 : (i : Int) < ops.length
        · by_cases hi3 : (i : Int) < M
          · have hc : ops[i]? = some ops[i] := List.getElem?_eq_getElem (by omega)
            obtain ⟨b, off, rfl, hlt, hC⟩ := HO.out (by omega)
            have ht := takeR_snoc hc
            have hRr := hC.later HB.out hlt
            have hld := load42 hRr hc
            generalize ops[i] = r at *
            have hone := build67 r
            have hGr := HG.out
            have hsr : w.heap.size + 1 ≤ wr.heap.size := (Array.getElem?_eq_some_iff.1 hGr).1
            have c2 : wr.cell? ⟨w.heap.size, 2, none⟩ = some (.slice (some ⟨b, off, none⟩) ops.length co) := Joins.cell_of_block hGr 2
            have c3 : wr.cell? ⟨w.heap.size, 3, none⟩ = some (.int .i64 K) := Joins.cell_of_block hGr 3
            have hrow1 : (wr.alloc (.cells (recCells r).toArray 42)).heap[wr.heap.size]? = some (.cells (opCells [r]).toArray 42) := by rw [opCells_one]; exact heap_alloc_new _ _
            have hops1 := ops_row hrow1
            have hown1 := World.ownsRow.alloc HW.out (.cells (recCells r).toArray 42)
            have HX : Hid (∀ (v1 : Value) (w1 : World), w1.ownsRow (w.heap.size + 1) 42 1026 v1 (ops.take i ++ [r]).length (opCells (ops.take i ++ [r])) → Fr (fun i => v.ownBlock = some i) (wr.alloc (.cells (recCells r).toArray 42)) w1 →
                w1.ownsRow (w.heap.size + 1) 42 1026 v1 (ops.take (i + 1)).length (opCells (ops.take (i + 1))) ∧ Below w.heap.size w w1 ∧ w1.heap[w.heap.size]? = some (.cells #[.int .i64 n, .slice p l.length cp, .slice (some ⟨b, off, none⟩) ops.length co, .int .i64 K, .slice ka keep.length kc, .int .i64 q] 28)) := fun v1 w1 ho hF => by
              have hB1 := below3 HB.out (below_new wr (.cells (recCells r).toArray 42))
              refine ⟨by rw [ht]; exact ho, hB1.trans (hF.below (fun i hi => by have := (HW.out.lt i hi).1; omega) hB1.size), (hF.block _ (by simp; omega) (fun e => by have := (HW.out.lt _ e).1; omega)).trans (heap_kept hGr (below_new _ _))⟩
            have htl : (ops.take i).length ≤ 120 := by rw [List.length_take]; omega
            have hsz1 : (wr.alloc (.cells (recCells r).toArray 42)).heap.size = wr.heap.size + 1 := by simp
            clear hRr hC hGr hrow1 HW HG ht hc
            generalize (recCells r).toArray = RN at *
            go_wp2_with (first | (go_at_call 17; refine (hpk _).mono ?_; rintro e X ⟨rfl, he⟩; obtain rfl := he.symm) | (with_reducible refine isLoad 42 ?_; refine wpList_load42A rfl _ rfl (.pointer (some ⟨b, off + i * 1026, none⟩)) RN rfl hld ?_) | (with_reducible refine isList 25 ?_; refine wpList_build1 rfl 25 42 _ rfl RN rfl (hone _) ?_) | (at_builtin; refine wpList_appendR rfl _ _ rfl (w.heap.size + 1) v (ops.take i) [r] (some ⟨wr.heap.size, 0, none⟩) 1 rfl rfl hown1 hops1 (by simp; omega) (by omega) ?_; intro v1 w1 ho1 hF1))
            obtain ⟨n1, n2, n3⟩ := HX.out v1 w1 ho1 hF1
            exact ⟨⟨i + 1, v1, by omega, by omega, by go_num, rfl, n1, n2, n3⟩, by simp [intOf]; omega⟩
          · skip
            have hown := HW.out
            have hGr := HG.out
            have hBr := HB.out
            have hsr : w.heap.size + 1 ≤ wr.heap.size := (Array.getElem?_eq_some_iff.1 hGr).1
            have c2 : wr.cell? ⟨w.heap.size, 2, none⟩ = some (.slice po ops.length co) := Joins.cell_of_block hGr 2
            have c3 : wr.cell? ⟨w.heap.size, 3, none⟩ = some (.int .i64 K) := Joins.cell_of_block hGr 3
            obtain ⟨a, ha⟩ : ∃ a, ops.take i = a := ⟨_, rfl⟩
            rw [ha] at hown
            have hal : a.length ≤ 120 := by rw [← ha, List.length_take]; omega
            have hca : ∀ r ∈ a, Can r.dat := fun r hr => HCr.out r (List.mem_of_mem_take (by rw [ha]; exact hr))
            have HCa : Hid (∀ r ∈ a, Can r.dat) := hca
            have hbar := build108b 2
            have hone := build67 (⟨2, 0, nought⟩ : Rec)
            have hrow1 : (wr.alloc (.cells (recCells (⟨2, 0, nought⟩ : Rec)).toArray 42)).heap[wr.heap.size]? = some (.cells (opCells [(⟨2, 0, nought⟩ : Rec)]).toArray 42) := by rw [opCells_one]; exact heap_alloc_new _ _
            have hops1 := ops_row hrow1
            have hown1 := World.ownsRow.alloc hown (.cells (recCells (⟨2, 0, nought⟩ : Rec)).toArray 42)
            have hG1 := heap_kept hGr (below_new wr (.cells (recCells (⟨2, 0, nought⟩ : Rec)).toArray 42))
            have hB1 := below3 hBr (below_new wr (.cells (recCells (⟨2, 0, nought⟩ : Rec)).toArray 42))
            have HX : Hid (∀ (v1 : Value) (w1 : World), w1.ownsRow (w.heap.size + 1) 42 1026 v1 (a ++ [(⟨2, 0, nought⟩ : Rec)]).length (opCells (a ++ [(⟨2, 0, nought⟩ : Rec)])) → Fr (fun i => v.ownBlock = some i) (wr.alloc (.cells (recCells (⟨2, 0, nought⟩ : Rec)).toArray 42)) w1 →
                Below w.heap.size w w1 ∧ w1.heap[w.heap.size]? = some (.cells #[.int .i64 n, .slice p l.length cp, .slice po ops.length co, .int .i64 K, .slice ka keep.length kc, .int .i64 q] 28)) := fun v1 w1 _ hF => by
              refine ⟨hB1.trans (hF.below (fun i hi => by have := (hown.lt i hi).1; omega) hB1.size), (hF.block _ (by simp; omega) (fun e => by have := (hown.lt _ e).1; omega)).trans hG1⟩
            have hsz1 : (wr.alloc (.cells (recCells (⟨2, 0, nought⟩ : Rec)).toArray 42)).heap.size = wr.heap.size + 1 := by simp
            obtain ⟨b, hbb⟩ : ∃ b, a ++ [(⟨2, 0, nought⟩ : Rec)] = b := ⟨_, rfl⟩
            have HBb : Hid (a ++ [(⟨2, 0, nought⟩ : Rec)] = b) := hbb
            obtain ⟨d, hdd⟩ : ∃ d, b ++ more = d := ⟨_, rfl⟩
            have HD : Hid (b ++ more = d) := hdd
            clear HW HG HB hown hGr ha hca hrow1 hG1 hB1 hBr HO HCr hbb hdd
            generalize (recCells (⟨2, 0, nought⟩ : Rec)).toArray = RN at *
            go_wp2_with (first | (go_at_call 17; refine (hpk _).mono ?_; rintro e X ⟨rfl, he⟩; obtain rfl := he.symm) | (with_reducible refine isBuild 42 ?_; refine wpList_bar42 rfl _ rfl (.int .u8 2) RN rfl (hbar _) ?_) | (with_reducible refine isList 25 ?_; refine wpList_build1 rfl 25 42 _ rfl RN rfl (hone _) ?_) | (at_builtin; refine wpList_appendR rfl _ _ rfl (w.heap.size + 1) v a [(⟨2, 0, nought⟩ : Rec)] (some ⟨wr.heap.size, 0, none⟩) 1 rfl rfl hown1 hops1 (by simp; omega) (by omega) ?_; intro v1 w1 ho1 hF1; obtain ⟨hBw1, hGw1⟩ := HX.out v1 w1 ho1 hF1; rw [HBb.out] at ho1; obtain ⟨p1, e1, rfl, he1, hop1, hlt1⟩ := own_ops ho1; have d0 : w1.cell? ⟨w.heap.size, 0, none⟩ = some (.int .i64 n) := Joins.cell_of_block hGw1 0; have d1 : w1.cell? ⟨w.heap.size, 1, none⟩ = some (.slice p l.length cp) := Joins.cell_of_block hGw1 1) | (go_at_call 21; fail))
            have hsw1 : w.heap.size + 1 ≤ w1.heap.size := (Array.getElem?_eq_some_iff.1 hGw1).1
            have hab : ∀ r ∈ b, Can r.dat := fun r hr => (List.mem_append.1 (by rw [HBb.out]; exact hr : r ∈ a ++ [(⟨2, 0, nought⟩ : Rec)])).elim (HCa.out r) fun z => by
              have e : r = ⟨2, 0, nought⟩ := by simpa using z
              rw [e]
              exact can_nought
            have hnl : b.length ≤ 121 := by rw [← HBb.out]; simp; omega
            have HAB : Hid (∃ a0 : List Rec, b = a0 ++ [(⟨2, 0, nought⟩ : Rec)] ∧ ∀ r ∈ a0, Can r.dat) := ⟨a, HBb.out.symm, HCa.out⟩
            clear HX hbar hone hops1 hown1 hF1 hsz1 c2 c3 HCa
            have hcut := all_cut (n := n) (l := l) (a := b) (m := more)
            rw [HD.out] at hcut
            have hdl : d.length ≤ 241 := by rw [← HD.out, List.length_append]; omega
            cases hp1 : pmayB n l b (b.length : Nat)
            · rw [hp1] at hcut
              refine (after_bad n l p cp b p1 e1 _ (.slice none 0 0) w1 (by omega) (HI.out.later hBw1) (by omega) hop1 ⟨none, 0, 0, rfl⟩ hp1).mono ?_
              rintro e W3 ⟨rfl, hb3⟩
              have hB3 := below3 hBw1 hb3
              have hG3 := heap_kept hGw1 hb3
              have hb4 := below_new W3 (.cells #[.int .i64 0, .slice none 0 0] 24)
              have hB4 := below3 hB3 hb4
              have hG4 := heap_kept hG3 hb4
              have hop4 := (hop1.later hb3).later hb4
              have hn4 : (W3.alloc (.cells #[.int .i64 0, .slice none 0 0] 24)).ownsRow (W3.heap.size + 1) 42 1026 (.slice none 0 0) ([] : List Rec).length (opCells []) := World.ownsRow_nil _ _ _ _
              have hs4 : (W3.alloc (.cells #[.int .i64 0, .slice none 0 0] 24)).heap.size = W3.heap.size + 1 := by simp
              have hs3 : w.heap.size + 1 ≤ W3.heap.size := by have := hb3.size; omega
              go_wp2_with (first | (at_builtin; first | (refine wpList_appendR rfl (.tmp 58) (.tmp 59) rfl (W3.heap.size + 1) (.slice none 0 0) [] b p1 e1 rfl rfl hn4 hop4 (by simp; omega) (by omega) ?_; intro v5 w5 ho5 hF5; rw [List.nil_append] at ho5; have hb5 : Below (W3.heap.size + 1) (W3.alloc (.cells #[.int .i64 0, .slice none 0 0] 24)) w5 := hF5.below (fun i hi => by simp [Value.ownBlock] at hi) (by omega)) | (refine wpList_appendR rfl (.tmp 61) (.tmp 62) rfl (W3.heap.size + 1) v5 b more pm cm rfl rfl ho5 ((HM.out.later hB4).later (hb5.mono (by omega))) (by omega) (by have := hb5.size; omega) ?_; intro v6 w6 ho6 hF6; have hb6 : Below (W3.heap.size + 1) (W3.alloc (.cells #[.int .i64 0, .slice none 0 0] 24)) w6 := hb5.trans (hF6.below (fun i hi => (ho5.lt i hi).1) (by have := hb5.size; omega)); have hG6 := (hb6.block _ (by omega)).trans hG4; have hB6 : Below w.heap.size w w6 := hB4.trans (hb6.mono (by omega)); rw [HD.out] at ho6; obtain ⟨p6, e6, rfl, he6, hop6, hlt6⟩ := own_ops ho6; have f0 : w6.cell? ⟨w.heap.size, 0, none⟩ = some (.int .i64 n) := Joins.cell_of_block hG6 0; have f1 : w6.cell? ⟨w.heap.size, 1, none⟩ = some (.slice p l.length cp) := Joins.cell_of_block hG6 1; have f4 : w6.cell? ⟨w.heap.size, 4, none⟩ = some (.slice ka keep.length kc) := Joins.cell_of_block hG6 4)) | (go_at_call 21; fail))
              refine (after_bad n l p cp d p6 e6 _ (.slice ka keep.length kc) w6 (by omega) (HI.out.later hB6) (by omega) hop6 ⟨ka, _, kc, rfl⟩ (by rw [hcut]; rfl)).mono ?_
              rintro e W7 ⟨rfl, hb7⟩
              have hB7 := below3 hB6 hb7
              go_wp2
              go_ret
              exact ⟨rfl, below3 hB7 (below_new _ _)⟩
            · rw [hp1] at hcut
              refine (after_ok n l p cp b p1 e1 b.length [] none 0 w1 (by omega) (HI.out.later hBw1) (by omega) hop1 he1 (by simp) (bools_nil _) hp1 HCl.out hab).mono ?_
              rintro e W3 ⟨ga, la, rfl, hIa, hga, hgb, hb3⟩
              rw [List.take_length] at hIa
              have hB3 := below3 hBw1 hb3
              have hG3 := heap_kept hGw1 hb3
              have hb4 := below_new W3 (.cells #[.int .i64 n, .slice (some ⟨ga, 0, none⟩) la.length la.length] 24)
              have hA4 := heap_alloc_new W3 (.cells #[.int .i64 n, .slice (some ⟨ga, 0, none⟩) la.length la.length] 24)
              have hga4 := heap_kept hga hb4
              have hB4 := below3 hB3 hb4
              have hG4 := heap_kept hG3 hb4
              have hop4 := (hop1.later hb3).later hb4
              have hn4 : (W3.alloc (.cells #[.int .i64 n, .slice (some ⟨ga, 0, none⟩) la.length la.length] 24)).ownsRow (W3.heap.size + 1) 42 1026 (.slice none 0 0) ([] : List Rec).length (opCells []) := World.ownsRow_nil _ _ _ _
              have hs4 : (W3.alloc (.cells #[.int .i64 n, .slice (some ⟨ga, 0, none⟩) la.length la.length] 24)).heap.size = W3.heap.size + 1 := by simp
              have hs3 : w.heap.size + 1 ≤ W3.heap.size := by have := hb3.size; omega
              have hbn : bndB n = true := (may_bounds (pmay_parts hp1).1).1
              have hlal := img_len hbn hIa
              have HIa : Hid (IsImg n (afterC l b []) la) := hIa
              have hmla : pmayB n la more (more.length : Nat) = more.all (opOk n) := by
                unfold pmayB
                rw [may_img hbn hIa]
                simp
              clear hIa
              go_wp2_with (first | (at_builtin; first | (refine wpList_appendR rfl (.tmp 58) (.tmp 59) rfl (W3.heap.size + 1) (.slice none 0 0) [] b p1 e1 rfl rfl hn4 hop4 (by simp; omega) (by omega) ?_; intro v5 w5 ho5 hF5; rw [List.nil_append] at ho5; have hb5 : Below (W3.heap.size + 1) (W3.alloc (.cells #[.int .i64 n, .slice (some ⟨ga, 0, none⟩) la.length la.length] 24)) w5 := hF5.below (fun i hi => by simp [Value.ownBlock] at hi) (by omega)) | (refine wpList_appendR rfl (.tmp 61) (.tmp 62) rfl (W3.heap.size + 1) v5 b more pm cm rfl rfl ho5 ((HM.out.later hB4).later (hb5.mono (by omega))) (by omega) (by have := hb5.size; omega) ?_; intro v6 w6 ho6 hF6; have hb6 : Below (W3.heap.size + 1) (W3.alloc (.cells #[.int .i64 n, .slice (some ⟨ga, 0, none⟩) la.length la.length] 24)) w6 := hb5.trans (hF6.below (fun i hi => (ho5.lt i hi).1) (by have := hb5.size; omega)); have hG6 := (hb6.block _ (by omega)).trans hG4; have hA6 := (hb6.block _ (by omega)).trans hA4; have hga6 := (hb6.block _ (by have := (Array.getElem?_eq_some_iff.1 hga).1; omega)).trans hga4; have hB6 : Below w.heap.size w w6 := hB4.trans (hb6.mono (by omega)); rw [HD.out] at ho6; obtain ⟨p6, e6, rfl, he6, hop6, hlt6⟩ := own_ops ho6; have f0 : w6.cell? ⟨w.heap.size, 0, none⟩ = some (.int .i64 n) := Joins.cell_of_block hG6 0; have f1 : w6.cell? ⟨w.heap.size, 1, none⟩ = some (.slice p l.length cp) := Joins.cell_of_block hG6 1; have f4 : w6.cell? ⟨w.heap.size, 4, none⟩ = some (.slice ka keep.length kc) := Joins.cell_of_block hG6 4)) | (go_at_call 21; fail))
              cases hp2 : more.all (opOk n)
              · rw [hp2] at hcut hmla
                refine (after_bad n l p cp d p6 e6 _ (.slice ka keep.length kc) w6 (by omega) (HI.out.later hB6) (by omega) hop6 ⟨ka, _, kc, rfl⟩ (by rw [hcut]; rfl)).mono ?_
                rintro e W7 ⟨rfl, hb7⟩
                have hB7 := below3 hB6 hb7
                have hA7 := heap_kept hA6 hb7
                have hga7 := heap_kept hga6 hb7
                have hG7 := heap_kept hG6 hb7
                have hb8 := below_new W7 (.cells #[.int .i64 0, .slice none 0 0] 24)
                have hl7 : W3.heap.size < W7.heap.size := (Array.getElem?_eq_some_iff.1 hA7).1
                have hw7 : w.heap.size < W7.heap.size := (Array.getElem?_eq_some_iff.1 hG7).1
                have g0 : W7.cell? ⟨W3.heap.size, 0, none⟩ = some (.int .i64 n) := Joins.cell_of_block hA7 0
                have g1 : W7.cell? ⟨W3.heap.size, 1, none⟩ = some (.slice (some ⟨ga, 0, none⟩) la.length la.length) := Joins.cell_of_block hA7 1
                have g4 : W7.cell? ⟨w.heap.size, 4, none⟩ = some (.slice ka keep.length kc) := Joins.cell_of_block hG7 4
                go_wp2_with (go_at_call 21; fail)
                refine (after_bad n la (some ⟨ga, 0, none⟩) la.length more pm cm _ (.slice ka keep.length kc) _ (by omega) ((img_row hga7).later hb8) (by omega) ((HM.out.later hB7).later hb8) ⟨ka, _, kc, rfl⟩ hmla).mono ?_
                rintro e W9 ⟨rfl, hb9⟩
                go_wp2
                go_ret
                exact ⟨rfl, below3 (below3 (below3 hB7 hb8) hb9) (below_new _ _)⟩
              · rw [hp2] at hcut hmla
                have hcm2 : ∀ r ∈ d, Can r.dat := fun r hr => (List.mem_append.1 (by rw [HD.out]; exact hr : r ∈ b ++ more)).elim (hab r) (HCm.out r)
                refine (after_ok n l p cp d p6 e6 d.length keep ka kc w6 (by omega) (HI.out.later hB6) (by omega) hop6 he6 (by omega) (HK.out.kept (Fr.ofBelow (T := fun _ => False) hB6) fun _ _ _ _ z => z) (by rw [hcut]; rfl) HCl.out hcm2).mono ?_
                rintro e W7 ⟨gw, lw, rfl, hIw, hgw, hgwb, hb7⟩
                rw [List.take_length] at hIw
                have hB7 := below3 hB6 hb7
                have hA7 := heap_kept hA6 hb7
                have hga7 := heap_kept hga6 hb7
                have hG7 := heap_kept hG6 hb7
                have hb8 := below_new W7 (.cells #[.int .i64 n, .slice (some ⟨gw, 0, none⟩) lw.length lw.length] 24)
                have hA8 := heap_alloc_new W7 (.cells #[.int .i64 n, .slice (some ⟨gw, 0, none⟩) lw.length lw.length] 24)
                have hgw8 := heap_kept hgw hb8
                have hl7 : W3.heap.size < W7.heap.size := (Array.getElem?_eq_some_iff.1 hA7).1
                have hw7 : w.heap.size < W7.heap.size := (Array.getElem?_eq_some_iff.1 hG7).1
                have hlwl := img_len hbn hIw
                have g0 : W7.cell? ⟨W3.heap.size, 0, none⟩ = some (.int .i64 n) := Joins.cell_of_block hA7 0
                have g1 : W7.cell? ⟨W3.heap.size, 1, none⟩ = some (.slice (some ⟨ga, 0, none⟩) la.length la.length) := Joins.cell_of_block hA7 1
                have g4 : W7.cell? ⟨w.heap.size, 4, none⟩ = some (.slice ka keep.length kc) := Joins.cell_of_block hG7 4
                have HIw : Hid (IsImg n (afterC l d keep) lw) := hIw
                clear hIw
                go_wp2_with (go_at_call 21; fail)
                refine (after_ok n la (some ⟨ga, 0, none⟩) la.length more pm cm more.length keep ka kc _ (by omega) ((img_row hga7).later hb8) (by omega) ((HM.out.later hB7).later hb8) lmc (by omega) (HK.out.kept (Fr.ofBelow (T := fun _ => False) (below3 hB7 hb8)) fun _ _ _ _ z => z) hmla (img_can HIa.out) HCm.out).mono ?_
                rintro e W9 ⟨gb, lb, rfl, hIb, hgb9, hgbb, hb9⟩
                rw [List.take_length] at hIb
                obtain ⟨a0, ea, hca0⟩ := HAB.out
                have elw : lb = lw := by
                  have i1 := HIa.out
                  have i3 := HIw.out
                  rw [← HD.out] at i3
                  rw [ea] at i1 i3
                  exact cut_same HCl.out hca0 HCm.out i1 hIb i3
                have hmlb := may_img hbn hIb
                have hcanb := img_can hIb
                subst elw
                have hsame : sameI n lb n lb = true := by
                  unfold sameI oneB
                  rw [hmlb, (celsB_iff hcanb hcanb).2 rfl]
                  simp
                have hA9 := heap_kept hA8 hb9
                have hgw9 := heap_kept hgw8 hb9
                have hb10 := below_new W9 (.cells #[.int .i64 n, .slice (some ⟨gb, 0, none⟩) lb.length lb.length] 24)
                have hlw9 : W7.heap.size < W9.heap.size := (Array.getElem?_eq_some_iff.1 hA9).1
                have hB9 := below3 (below3 (below3 hB7 hb8) hb9) hb10
                have hSm := same_any n lb (some ⟨gb, 0, none⟩) lb.length n lb (some ⟨gw, 0, none⟩) lb.length _ (by omega) (by omega) ((img_row hgb9).later hb10) ((img_row hgw9).later hb10)
                rw [hsame] at hSm
                have k0 : W9.cell? ⟨W7.heap.size, 0, none⟩ = some (.int .i64 n) := Joins.cell_of_block hA9 0
                have k1 : W9.cell? ⟨W7.heap.size, 1, none⟩ = some (.slice (some ⟨gw, 0, none⟩) lb.length lb.length) := Joins.cell_of_block hA9 1
                clear hIb hmlb hcanb
                go_wp2_with (go_at_call 23; refine hSm.mono ?_; rintro e W11 ⟨rfl, hb11⟩)
                go_ret
                exact ⟨rfl, below3 hB9 hb11⟩
        · skip
          have hown := HW.out
          have hGr := HG.out
          have hBr := HB.out
          have hsr : w.heap.size + 1 ≤ wr.heap.size := (Array.getElem?_eq_some_iff.1 hGr).1
          have c2 : wr.cell? ⟨w.heap.size, 2, none⟩ = some (.slice po ops.length co) := Joins.cell_of_block hGr 2
          have c3 : wr.cell? ⟨w.heap.size, 3, none⟩ = some (.int .i64 K) := Joins.cell_of_block hGr 3
          obtain ⟨a, ha⟩ : ∃ a, ops.take i = a := ⟨_, rfl⟩
          rw [ha] at hown
          have hal : a.length ≤ 120 := by rw [← ha, List.length_take]; omega
          have hca : ∀ r ∈ a, Can r.dat := fun r hr => HCr.out r (List.mem_of_mem_take (by rw [ha]; exact hr))
          have HCa : Hid (∀ r ∈ a, Can r.dat) := hca
          have hbar := build108b 2
          have hone := build67 (⟨2, 0, nought⟩ : Rec)
          have hrow1 : (wr.alloc (.cells (recCells (⟨2, 0, nought⟩ : Rec)).toArray 42)).heap[wr.heap.size]? = some (.cells (opCells [(⟨2, 0, nought⟩ : Rec)]).toArray 42) := by rw [opCells_one]; exact heap_alloc_new _ _
          have hops1 := ops_row hrow1
          have hown1 := World.ownsRow.alloc hown (.cells (recCells (⟨2, 0, nought⟩ : Rec)).toArray 42)
          have hG1 := heap_kept hGr (below_new wr (.cells (recCells (⟨2, 0, nought⟩ : Rec)).toArray 42))
          have hB1 := below3 hBr (below_new wr (.cells (recCells (⟨2, 0, nought⟩ : Rec)).toArray 42))
          have HX : Hid (∀ (v1 : Value) (w1 : World), w1.ownsRow (w.heap.size + 1) 42 1026 v1 (a ++ [(⟨2, 0, nought⟩ : Rec)]).length (opCells (a ++ [(⟨2, 0, nought⟩ : Rec)])) → Fr (fun i => v.ownBlock = some i) (wr.alloc (.cells (recCells (⟨2, 0, nought⟩ : Rec)).toArray 42)) w1 →
              Below w.heap.size w w1 ∧ w1.heap[w.heap.size]? = some (.cells #[.int .i64 n, .slice p l.length cp, .slice po ops.length co, .int .i64 K, .slice ka keep.length kc, .int .i64 q] 28)) := fun v1 w1 _ hF => by
            refine ⟨hB1.trans (hF.below (fun i hi => by have := (hown.lt i hi).1; omega) hB1.size), (hF.block _ (by simp; omega) (fun e => by have := (hown.lt _ e).1; omega)).trans hG1⟩
          have hsz1 : (wr.alloc (.cells (recCells (⟨2, 0, nought⟩ : Rec)).toArray 42)).heap.size = wr.heap.size + 1 := by simp
          obtain ⟨b, hbb⟩ : ∃ b, a ++ [(⟨2, 0, nought⟩ : Rec)] = b := ⟨_, rfl⟩
          have HBb : Hid (a ++ [(⟨2, 0, nought⟩ : Rec)] = b) := hbb
          obtain ⟨d, hdd⟩ : ∃ d, b ++ more = d := ⟨_, rfl⟩
          have HD : Hid (b ++ more = d) := hdd
          clear HW HG HB hown hGr ha hca hrow1 hG1 hB1 hBr HO HCr hbb hdd
          generalize (recCells (⟨2, 0, nought⟩ : Rec)).toArray = RN at *
          go_wp2_with (first | (go_at_call 17; refine (hpk _).mono ?_; rintro e X ⟨rfl, he⟩; obtain rfl := he.symm) | (with_reducible refine isBuild 42 ?_; refine wpList_bar42 rfl _ rfl (.int .u8 2) RN rfl (hbar _) ?_) | (with_reducible refine isList 25 ?_; refine wpList_build1 rfl 25 42 _ rfl RN rfl (hone _) ?_) | (at_builtin; refine wpList_appendR rfl _ _ rfl (w.heap.size + 1) v a [(⟨2, 0, nought⟩ : Rec)] (some ⟨wr.heap.size, 0, none⟩) 1 rfl rfl hown1 hops1 (by simp; omega) (by omega) ?_; intro v1 w1 ho1 hF1; obtain ⟨hBw1, hGw1⟩ := HX.out v1 w1 ho1 hF1; rw [HBb.out] at ho1; obtain ⟨p1, e1, rfl, he1, hop1, hlt1⟩ := own_ops ho1; have d0 : w1.cell? ⟨w.heap.size, 0, none⟩ = some (.int .i64 n) := Joins.cell_of_block hGw1 0; have d1 : w1.cell? ⟨w.heap.size, 1, none⟩ = some (.slice p l.length cp) := Joins.cell_of_block hGw1 1) | (go_at_call 21; fail))
          have hsw1 : w.heap.size + 1 ≤ w1.heap.size := (Array.getElem?_eq_some_iff.1 hGw1).1
          have hab : ∀ r ∈ b, Can r.dat := fun r hr => (List.mem_append.1 (by rw [HBb.out]; exact hr : r ∈ a ++ [(⟨2, 0, nought⟩ : Rec)])).elim (HCa.out r) fun z => by
            have e : r = ⟨2, 0, nought⟩ := by simpa using z
            rw [e]
            exact can_nought
          have hnl : b.length ≤ 121 := by rw [← HBb.out]; simp; omega
          have HAB : Hid (∃ a0 : List Rec, b = a0 ++ [(⟨2, 0, nought⟩ : Rec)] ∧ ∀ r ∈ a0, Can r.dat) := ⟨a, HBb.out.symm, HCa.out⟩
          clear HX hbar hone hops1 hown1 hF1 hsz1 c2 c3 HCa
          have hcut := all_cut (n := n) (l := l) (a := b) (m := more)
          rw [HD.out] at hcut
          have hdl : d.length ≤ 241 := by rw [← HD.out, List.length_append]; omega
          cases hp1 : pmayB n l b (b.length : Nat)
          · rw [hp1] at hcut
            refine (after_bad n l p cp b p1 e1 _ (.slice none 0 0) w1 (by omega) (HI.out.later hBw1) (by omega) hop1 ⟨none, 0, 0, rfl⟩ hp1).mono ?_
            rintro e W3 ⟨rfl, hb3⟩
            have hB3 := below3 hBw1 hb3
            have hG3 := heap_kept hGw1 hb3
            have hb4 := below_new W3 (.cells #[.int .i64 0, .slice none 0 0] 24)
            have hB4 := below3 hB3 hb4
            have hG4 := heap_kept hG3 hb4
            have hop4 := (hop1.later hb3).later hb4
            have hn4 : (W3.alloc (.cells #[.int .i64 0, .slice none 0 0] 24)).ownsRow (W3.heap.size + 1) 42 1026 (.slice none 0 0) ([] : List Rec).length (opCells []) := World.ownsRow_nil _ _ _ _
            have hs4 : (W3.alloc (.cells #[.int .i64 0, .slice none 0 0] 24)).heap.size = W3.heap.size + 1 := by simp
            have hs3 : w.heap.size + 1 ≤ W3.heap.size := by have := hb3.size; omega
            go_wp2_with (first | (at_builtin; first | (refine wpList_appendR rfl (.tmp 58) (.tmp 59) rfl (W3.heap.size + 1) (.slice none 0 0) [] b p1 e1 rfl rfl hn4 hop4 (by simp; omega) (by omega) ?_; intro v5 w5 ho5 hF5; rw [List.nil_append] at ho5; have hb5 : Below (W3.heap.size + 1) (W3.alloc (.cells #[.int .i64 0, .slice none 0 0] 24)) w5 := hF5.below (fun i hi => by simp [Value.ownBlock] at hi) (by omega)) | (refine wpList_appendR rfl (.tmp 61) (.tmp 62) rfl (W3.heap.size + 1) v5 b more pm cm rfl rfl ho5 ((HM.out.later hB4).later (hb5.mono (by omega))) (by omega) (by have := hb5.size; omega) ?_; intro v6 w6 ho6 hF6; have hb6 : Below (W3.heap.size + 1) (W3.alloc (.cells #[.int .i64 0, .slice none 0 0] 24)) w6 := hb5.trans (hF6.below (fun i hi => (ho5.lt i hi).1) (by have := hb5.size; omega)); have hG6 := (hb6.block _ (by omega)).trans hG4; have hB6 : Below w.heap.size w w6 := hB4.trans (hb6.mono (by omega)); rw [HD.out] at ho6; obtain ⟨p6, e6, rfl, he6, hop6, hlt6⟩ := own_ops ho6; have f0 : w6.cell? ⟨w.heap.size, 0, none⟩ = some (.int .i64 n) := Joins.cell_of_block hG6 0; have f1 : w6.cell? ⟨w.heap.size, 1, none⟩ = some (.slice p l.length cp) := Joins.cell_of_block hG6 1; have f4 : w6.cell? ⟨w.heap.size, 4, none⟩ = some (.slice ka keep.length kc) := Joins.cell_of_block hG6 4)) | (go_at_call 21; fail))
            refine (after_bad n l p cp d p6 e6 _ (.slice ka keep.length kc) w6 (by omega) (HI.out.later hB6) (by omega) hop6 ⟨ka, _, kc, rfl⟩ (by rw [hcut]; rfl)).mono ?_
            rintro e W7 ⟨rfl, hb7⟩
            have hB7 := below3 hB6 hb7
            go_wp2
            go_ret
            exact ⟨rfl, below3 hB7 (below_new _ _)⟩
          · rw [hp1] at hcut
            refine (after_ok n l p cp b p1 e1 b.length [] none 0 w1 (by omega) (HI.out.later hBw1) (by omega) hop1 he1 (by simp) (bools_nil _) hp1 HCl.out hab).mono ?_
            rintro e W3 ⟨ga, la, rfl, hIa, hga, hgb, hb3⟩
            rw [List.take_length] at hIa
            have hB3 := below3 hBw1 hb3
            have hG3 := heap_kept hGw1 hb3
            have hb4 := below_new W3 (.cells #[.int .i64 n, .slice (some ⟨ga, 0, none⟩) la.length la.length] 24)
            have hA4 := heap_alloc_new W3 (.cells #[.int .i64 n, .slice (some ⟨ga, 0, none⟩) la.length la.length] 24)
            have hga4 := heap_kept hga hb4
            have hB4 := below3 hB3 hb4
            have hG4 := heap_kept hG3 hb4
            have hop4 := (hop1.later hb3).later hb4
            have hn4 : (W3.alloc (.cells #[.int .i64 n, .slice (some ⟨ga, 0, none⟩) la.length la.length] 24)).ownsRow (W3.heap.size + 1) 42 1026 (.slice none 0 0) ([] : List Rec).length (opCells []) := World.ownsRow_nil _ _ _ _
            have hs4 : (W3.alloc (.cells #[.int .i64 n, .slice (some ⟨ga, 0, none⟩) la.length la.length] 24)).heap.size = W3.heap.size + 1 := by simp
            have hs3 : w.heap.size + 1 ≤ W3.heap.size := by have := hb3.size; omega
            have hbn : bndB n = true := (may_bounds (pmay_parts hp1).1).1
            have hlal := img_len hbn hIa
            have HIa : Hid (IsImg n (afterC l b []) la) := hIa
            have hmla : pmayB n la more (more.length : Nat) = more.all (opOk n) := by
              unfold pmayB
              rw [may_img hbn hIa]
              simp
            clear hIa
            go_wp2_with (first | (at_builtin; first | (refine wpList_appendR rfl (.tmp 58) (.tmp 59) rfl (W3.heap.size + 1) (.slice none 0 0) [] b p1 e1 rfl rfl hn4 hop4 (by simp; omega) (by omega) ?_; intro v5 w5 ho5 hF5; rw [List.nil_append] at ho5; have hb5 : Below (W3.heap.size + 1) (W3.alloc (.cells #[.int .i64 n, .slice (some ⟨ga, 0, none⟩) la.length la.length] 24)) w5 := hF5.below (fun i hi => by simp [Value.ownBlock] at hi) (by omega)) | (refine wpList_appendR rfl (.tmp 61) (.tmp 62) rfl (W3.heap.size + 1) v5 b more pm cm rfl rfl ho5 ((HM.out.later hB4).later (hb5.mono (by omega))) (by omega) (by have := hb5.size; omega) ?_; intro v6 w6 ho6 hF6; have hb6 : Below (W3.heap.size + 1) (W3.alloc (.cells #[.int .i64 n, .slice (some ⟨ga, 0, none⟩) la.length la.length] 24)) w6 := hb5.trans (hF6.below (fun i hi => (ho5.lt i hi).1) (by have := hb5.size; omega)); have hG6 := (hb6.block _ (by omega)).trans hG4; have hA6 := (hb6.block _ (by omega)).trans hA4; have hga6 := (hb6.block _ (by have := (Array.getElem?_eq_some_iff.1 hga).1; omega)).trans hga4; have hB6 : Below w.heap.size w w6 := hB4.trans (hb6.mono (by omega)); rw [HD.out] at ho6; obtain ⟨p6, e6, rfl, he6, hop6, hlt6⟩ := own_ops ho6; have f0 : w6.cell? ⟨w.heap.size, 0, none⟩ = some (.int .i64 n) := Joins.cell_of_block hG6 0; have f1 : w6.cell? ⟨w.heap.size, 1, none⟩ = some (.slice p l.length cp) := Joins.cell_of_block hG6 1; have f4 : w6.cell? ⟨w.heap.size, 4, none⟩ = some (.slice ka keep.length kc) := Joins.cell_of_block hG6 4)) | (go_at_call 21; fail))
            cases hp2 : more.all (opOk n)
            · rw [hp2] at hcut hmla
              refine (after_bad n l p cp d p6 e6 _ (.slice ka keep.length kc) w6 (by omega) (HI.out.later hB6) (by omega) hop6 ⟨ka, _, kc, rfl⟩ (by rw [hcut]; rfl)).mono ?_
              rintro e W7 ⟨rfl, hb7⟩
              have hB7 := below3 hB6 hb7
              have hA7 := heap_kept hA6 hb7
              have hga7 := heap_kept hga6 hb7
              have hG7 := heap_kept hG6 hb7
              have hb8 := below_new W7 (.cells #[.int .i64 0, .slice none 0 0] 24)
              have hl7 : W3.heap.size < W7.heap.size := (Array.getElem?_eq_some_iff.1 hA7).1
              have hw7 : w.heap.size < W7.heap.size := (Array.getElem?_eq_some_iff.1 hG7).1
              have g0 : W7.cell? ⟨W3.heap.size, 0, none⟩ = some (.int .i64 n) := Joins.cell_of_block hA7 0
              have g1 : W7.cell? ⟨W3.heap.size, 1, none⟩ = some (.slice (some ⟨ga, 0, none⟩) la.length la.length) := Joins.cell_of_block hA7 1
              have g4 : W7.cell? ⟨w.heap.size, 4, none⟩ = some (.slice ka keep.length kc) := Joins.cell_of_block hG7 4
              go_wp2_with (go_at_call 21; fail)
              refine (after_bad n la (some ⟨ga, 0, none⟩) la.length more pm cm _ (.slice ka keep.length kc) _ (by omega) ((img_row hga7).later hb8) (by omega) ((HM.out.later hB7).later hb8) ⟨ka, _, kc, rfl⟩ hmla).mono ?_
              rintro e W9 ⟨rfl, hb9⟩
              go_wp2
              go_ret
              exact ⟨rfl, below3 (below3 (below3 hB7 hb8) hb9) (below_new _ _)⟩
            · rw [hp2] at hcut hmla
              have hcm2 : ∀ r ∈ d, Can r.dat := fun r hr => (List.mem_append.1 (by rw [HD.out]; exact hr : r ∈ b ++ more)).elim (hab r) (HCm.out r)
              refine (after_ok n l p cp d p6 e6 d.length keep ka kc w6 (by omega) (HI.out.later hB6) (by omega) hop6 he6 (by omega) (HK.out.kept (Fr.ofBelow (T := fun _ => False) hB6) fun _ _ _ _ z => z) (by rw [hcut]; rfl) HCl.out hcm2).mono ?_
              rintro e W7 ⟨gw, lw, rfl, hIw, hgw, hgwb, hb7⟩
              rw [List.take_length] at hIw
              have hB7 := below3 hB6 hb7
              have hA7 := heap_kept hA6 hb7
              have hga7 := heap_kept hga6 hb7
              have hG7 := heap_kept hG6 hb7
              have hb8 := below_new W7 (.cells #[.int .i64 n, .slice (some ⟨gw, 0, none⟩) lw.length lw.length] 24)
              have hA8 := heap_alloc_new W7 (.cells #[.int .i64 n, .slice (some ⟨gw, 0, none⟩) lw.length lw.length] 24)
              have hgw8 := heap_kept hgw hb8
              have hl7 : W3.heap.size < W7.heap.size := (Array.getElem?_eq_some_iff.1 hA7).1
              have hw7 : w.heap.size < W7.heap.size := (Array.getElem?_eq_some_iff.1 hG7).1
              have hlwl := img_len hbn hIw
              have g0 : W7.cell? ⟨W3.heap.size, 0, none⟩ = some (.int .i64 n) := Joins.cell_of_block hA7 0
              have g1 : W7.cell? ⟨W3.heap.size, 1, none⟩ = some (.slice (some ⟨ga, 0, none⟩) la.length la.length) := Joins.cell_of_block hA7 1
              have g4 : W7.cell? ⟨w.heap.size, 4, none⟩ = some (.slice ka keep.length kc) := Joins.cell_of_block hG7 4
              have HIw : Hid (IsImg n (afterC l d keep) lw) := hIw
              clear hIw
              go_wp2_with (go_at_call 21; fail)
              refine (after_ok n la (some ⟨ga, 0, none⟩) la.length more pm cm more.length keep ka kc _ (by omega) ((img_row hga7).later hb8) (by omega) ((HM.out.later hB7).later hb8) lmc (by omega) (HK.out.kept (Fr.ofBelow (T := fun _ => False) (below3 hB7 hb8)) fun _ _ _ _ z => z) hmla (img_can HIa.out) HCm.out).mono ?_
              rintro e W9 ⟨gb, lb, rfl, hIb, hgb9, hgbb, hb9⟩
              rw [List.take_length] at hIb
              obtain ⟨a0, ea, hca0⟩ := HAB.out
              have elw : lb = lw := by
                have i1 := HIa.out
                have i3 := HIw.out
                rw [← HD.out] at i3
                rw [ea] at i1 i3
                exact cut_same HCl.out hca0 HCm.out i1 hIb i3
              have hmlb := may_img hbn hIb
              have hcanb := img_can hIb
              subst elw
              have hsame : sameI n lb n lb = true := by
                unfold sameI oneB
                rw [hmlb, (celsB_iff hcanb hcanb).2 rfl]
                simp
              have hA9 := heap_kept hA8 hb9
              have hgw9 := heap_kept hgw8 hb9
              have hb10 := below_new W9 (.cells #[.int .i64 n, .slice (some ⟨gb, 0, none⟩) lb.length lb.length] 24)
              have hlw9 : W7.heap.size < W9.heap.size := (Array.getElem?_eq_some_iff.1 hA9).1
              have hB9 := below3 (below3 (below3 hB7 hb8) hb9) hb10
              have hSm := same_any n lb (some ⟨gb, 0, none⟩) lb.length n lb (some ⟨gw, 0, none⟩) lb.length _ (by omega) (by omega) ((img_row hgb9).later hb10) ((img_row hgw9).later hb10)
              rw [hsame] at hSm
              have k0 : W9.cell? ⟨W7.heap.size, 0, none⟩ = some (.int .i64 n) := Joins.cell_of_block hA9 0
              have k1 : W9.cell? ⟨W7.heap.size, 1, none⟩ = some (.slice (some ⟨gw, 0, none⟩) lb.length lb.length) := Joins.cell_of_block hA9 1
              clear hIb hmlb hcanb
              go_wp2_with (go_at_call 23; refine hSm.mono ?_; rintro e W11 ⟨rfl, hb11⟩)
              go_ret
              exact ⟨rfl, below3 hB9 hb11⟩
  · have hlg1 := hlg W1
    rw [hbig] at hlg1
    go_wp2_with (go_at_call 9; refine hlg1.mono ?_; rintro e W2 ⟨rfl, hb2⟩)
    go_ret
    exact ⟨rfl, below3 hB1 hb2⟩
end Go.Proofs.Ytbnbbelkddbndaa
