/- The law of the chapter's numbers and examples answers true; no condition. -/
import Derived.Test.YtencclpcebpgmaaNames
import Derived.Test.YtencclpcebpgmaaAwakeC
import Derived.Deep.Cut
namespace Go.Proofs.Ytencclpcebpgmaa
open Go.RowKit Go.Maps
theorem exec_neq59 {o : Oper} {a : Act} {x y : Operand} {F G : Array Value} {f g : Nat → Int} {u : World} (ho : o.op = .binOp .neq 59 x y 59) (hx : a.eval x = .agg F) (hy : a.eval y = .agg G) (hF : blk f = F) (hG : blk g = G) (hr : sameB f g = true) : (execOp a.eval o).run Try.prog u = .ok (.value (.bool false)) u := by
  have e0 := eq25 f g u
  rw [hr, hF, hG] at e0
  have e : (binOp .neq 59 (.agg F) (.agg G)).run Try.prog u = .ok (.bool false) u := by
    simp only [binOp, Op.equal, Op.maxDepth, Sem.run_bind, e0, Result.andThen_ok, Sem.run_pure]
    rfl
  have eg : (eqGuard .neq 59 x y (.agg F) (.agg G)).run Try.prog u = .ok () u := by
    unfold eqGuard
    simp
  unfold execOp
  simp only [ho, hx, hy, Sem.run_bind, eg, e, Result.andThen_ok, Sem.run_pure]
/-- A second cache of the disk, which stays while its blocks do. -/
theorem sit_new2 {w W : World} {c d : Nat} {s : CSt} {t : St} {ks : List (Nat × Obj)} (h : Sit w W c d s t ks) {n : Int} (hs : 1 ≤ n ∧ n ≤ 4096) : Calls Try.prog 11 #[ptr d, .int .i64 n] W fun e W' => ∃ (c2 : Nat) (ks2 : List (Nat × Obj)), e = .returned (.tuple #[ptr c2, .int .i64 0]) ∧ Sit w W' c d s t (ks2 ++ ks) ∧
    ∀ W'', (∀ p ∈ ks2, W''.heap[p.1]? = some p.2) → Calls Try.prog 29 #[ptr c2] W'' fun e w' => e = .returned (.int .i64 0) ∧ w' = W'' := by
  have h' := h
  obtain ⟨K, L, rfl, rfl, h⟩ := h
  refine (newC_ok h.cd.disk hs).mono ?_
  rintro e W' ⟨rfl, h1, h2⟩
  obtain ⟨es, cl, hm⟩ := h1.map.isMap
  have hc := h1.row
  have he := h1.nodes _ (.inl rfl)
  have k1 := h'.keepNew h2 (g := W.heap.size) (Nat.le_refl _) he
  have hrefl : Below W'.heap.size W' W' := Below.refl _ _
  refine ⟨_, [(W.heap.size, .cells (rowV 0 false (ptr W.heap.size) (ptr W.heap.size) nought) 98), (W.heap.size + 1, .map es cl), (W.heap.size + 2, .cells (ckRow (newK W L.d) (newC n)) 73)], rfl, ?_, ?_⟩
  · obtain ⟨K', L', a1, a2, a3⟩ := k1
    obtain ⟨K0, L0, b1, b2, b3⟩ := h'
    refine ⟨K, L, rfl, rfl, ?_⟩
    have hb := h.goes (h.cd.later h2) (GoesC.ofBelow K L h2)
    refine ⟨hb.cd, hb.newK, hb.newL, hb.below, fun p hp => ?_⟩
    have hltK : ∀ k, K.has k → k < W.heap.size := h.cd.cache.lt
    have hltL : ∀ k, L.has k → k < W.heap.size := h.cd.disk.lt
    rcases List.mem_append.1 hp with hp | hp
    · simp only [List.mem_cons, List.not_mem_nil, or_false] at hp
      rcases hp with rfl | rfl | rfl
      · exact ⟨he, fun q => by have := hltK _ q; simp only at this; omega, fun q => by have := hltL _ q; simp only at this; omega⟩
      · exact ⟨hm, fun q => by have := hltK _ q; simp only at this; omega, fun q => by have := hltL _ q; simp only at this; omega⟩
      · exact ⟨hc, fun q => by have := hltK _ q; simp only at this; omega, fun q => by have := hltL _ q; simp only at this; omega⟩
    · exact hb.keep p hp
  · intro W'' hw
    have hC : CacheAt W'' (newK W L.d) (newC n) := h1.kept fun k hk => by
      rcases hk with q | q | q | q
      · rw [q]; exact (hw (W.heap.size + 2, .cells (ckRow (newK W L.d) (newC n)) 73) (by simp)).trans hc.symm
      · rw [q]; exact (hw (W.heap.size + 1, .map es cl) (by simp)).trans hm.symm
      · rw [q]; exact (hw (W.heap.size, .cells (rowV 0 false (ptr W.heap.size) (ptr W.heap.size) nought) 98) (by simp)).trans he.symm
      · simp [newK] at q
    exact len_of_cache hC
set_option maxRecDepth 20000 in
set_option maxHeartbeats 80000000 in
theorem law_names (w : World) : Calls Try.prog 5 #[] w fun e w' => e = .returned (.bool true) ∧ Below w.heap.size w w' := by
  have HT : Hid (Calls Try.prog 34 #[] w fun e W' => ∃ c d, e = .returned (.tuple #[ptr d, ptr c, .bool true]) ∧ Sit w W' c d (newC 2) (newV 10) []) := ten_any (Below.refl _ _) (by simp)
  have HF1 : Hid (∀ W, Calls Try.prog 35 #[.int .u16 1] W fun e w' => e = .returned (.agg (blk (fillF 1))) ∧ Below W.heap.size W w') := fill_any 1 (by omega)
  have HF2 : Hid (∀ W, Calls Try.prog 35 #[.int .u16 2] W fun e w' => e = .returned (.agg (blk (fillF 2))) ∧ Below W.heap.size W w') := fill_any 2 (by omega)
  have hcf := fill_can 1 (by omega)
  have hcg := fill_can 2 (by omega)
  have hff := sameB_refl (fillF 1)
  have z25 := zero25
  generalize fillF 1 = f at *
  generalize fillF 2 = g at *
  go_enter Try.func5, Try.ntmps5
  go_wp2_with (go_at_call 34; fail)
  refine HT.out.mono ?_
  rintro e W1 ⟨c, d, rfl, h1⟩
  have H1 : Hid (Sit w W1 c d (newC 2) (newV 10) []) := h1
  clear HT h1
  unfold ptr
  go_wp2_with (go_at_call 9; fail)
  refine (awake_any W1).mono ?_
  rintro e W2 ⟨rfl, hb2⟩
  have h2 := H1.out.later hb2
  rw [show newC 2 = ⟨2, rowP (nmR 0)⟩ from rfl, show newV 10 = T10 (nmT 0) from rfl] at h2
  have h3 := h2.add (.cells #[.int .i64 3, .int .i64 4, .int .i64 3, .int .i64 5] 3)
  have H3 : Hid (Sit w (W2.alloc (.cells #[.int .i64 3, .int .i64 4, .int .i64 3, .int .i64 5] 3)) c d ⟨2, rowP (nmR 0)⟩ (T10 (nmT 0)) [(W2.heap.size, .cells #[.int .i64 3, .int .i64 4, .int .i64 3, .int .i64 5] 3)]) := h3
  clear H1 hb2 h2 h3
  go_wp2
  generalize W2.heap.size = gl at *
  go_loopw [34] (fun s34 wx => ∃ k : Nat, k ≤ 4 ∧ s34 = .int .i64 k ∧ Hid (Sit w wx c d ⟨2, rowP (nmR k)⟩ (T10 (nmT k)) [(gl, .cells #[.int .i64 3, .int .i64 4, .int .i64 3, .int .i64 5] 3)])) (fun s34 _ => 4 - (intOf s34).toNat)
  case atStart => exact ⟨0, by omega, rfl, H3.out⟩
  case round =>
    obtain ⟨k, hk, rfl, HS⟩ := hrel
    clear H3
    by_cases hk4 : (k : Int) < 4
    · have hcell : wr.cell? ⟨gl, k, none⟩ = some (.int .i64 (nmA k)) := by
        rw [Joins.cell_of_block (HS.out.blk (List.mem_cons_self ..))]
        match k, (show k < 4 by omega) with
        | 0, _ => rfl
        | 1, _ => rfl
        | 2, _ => rfl
        | 3, _ => rfl
      obtain ⟨e1, e2, e3⟩ := nm_step k (by omega)
      have hr : nmT k < 1000 := by
        match k, (show k < 4 by omega) with
        | 0, _ => decide
        | 1, _ => decide
        | 2, _ => decide
        | 3, _ => decide
      have HN : Hid (Calls Try.prog 24 #[ptr c, .int .i64 (nmA k)] wr fun e W' => ∃ F, e = .returned (.tuple #[.agg (blk F), .int .i64 0]) ∧ Sit w W' c d ⟨2, rowP (nmR (k + 1))⟩ (T10 (nmT (k + 1))) [(gl, .cells #[.int .i64 3, .int .i64 4, .int .i64 3, .int .i64 5] 3)]) := by
        refine (sit_read HS.out (T10_room hr) (nmA k)).mono ?_
        rw [e1, e2, e3]
        rintro e W' ⟨rfl, h⟩
        exact ⟨_, rfl, h⟩
      clear HS e1 e2 e3 hr
      generalize nmA k = a at *
      unfold ptr at HN
      go_wp2_with (go_at_call 24; fail)
      refine HN.out.mono ?_
      rintro e W4 ⟨F, rfl, h4⟩
      have H4 : Hid (Sit w W4 c d ⟨2, rowP (nmR (k + 1))⟩ (T10 (nmT (k + 1))) [(gl, .cells #[.int .i64 3, .int .i64 4, .int .i64 3, .int .i64 5] 3)]) := h4
      clear HN h4
      go_wp2_with (refine wpList_store58_new rfl (.tmp 6) (.tmp 42) rfl F _ _ rfl rfl rfl ?_)
      exact ⟨⟨k + 1, by omega, by go_num, H4.out.later (below_new _ _)⟩, by simp [intOf]; omega⟩
    · obtain rfl : k = 4 := by omega
      have h5 := HS.out.drop (ks' := []) (by simp)
      rw [show rowP (nmR 4) = rowP [3, 5] from rfl, show nmT 4 = 3 from rfl] at h5
      have H5 : Hid (Sit w wr c d ⟨2, rowP [3, 5]⟩ (T10 3) []) := h5
      clear HS h5
      go_wp2_with (go_at_call 31; fail)
      refine (sit_order H5.out).mono ?_
      rintro e V1 ⟨p9, cp9, rfl, hp4, hcp, hx4, _⟩
      rw [show ordV _ = [3, 5] from rfl] at hp4 hcp ⊢
      have hp9 := hp4.later (below_new V1 (.cells #[.int .i64 3, .int .i64 5] 3))
      have hb9 := ints_new2 V1 3 5
      have hS8 := (H5.out.later hx4).later (below_new V1 (.cells #[.int .i64 3, .int .i64 5] 3))
      have hsm := sameInts_any [3, 5] [3, 5] p9 (some ⟨V1.heap.size, 0, none⟩) cp9 2 _ (by decide) hp9 hb9
      rw [show decide (([3, 5] : List Int) = [3, 5]) = true from by decide] at hsm
      have HSM : Hid (Calls Try.prog 30 _ _ _) := hsm
      have HS8 : Hid (Sit w _ c d _ _ _) := hS8
      clear hp4 hp9 hb9 hS8 hsm hx4
      go_wp2_with (go_at_call 30; fail)
      refine HSM.out.mono ?_
      rintro e V2 ⟨rfl, hx9⟩
      have HN5 : Hid (Sit w V2 c d _ _ _) := HS8.out.later hx9
      clear HSM HS8 hx9 H5
      have hrd := dsit_reads HN5.out
      rw [show (T10 3).reads = 3 from rfl] at hrd
      unfold ptr at hrd
      go_wp2_with (first | (go_at_call 15; refine hrd.mono ?_; rintro e V3 ⟨rfl, he⟩; obtain rfl := he.symm) | (go_at_call 35; fail))
      clear hrd
      refine (HF1.out _).mono ?_
      rintro e Va ⟨rfl, hb⟩
      have VaH : Hid (Sit w Va c d _ _ _) := HN5.out.later hb
      clear hb HN5
      go_wp2_with (go_at_call 25; fail)
      refine (sit_put VaH.out 5 hcf).mono ?_
      rw [(n1 f).1, (n1 f).2]
      rintro e Vb ⟨rfl, h⟩
      have VbH : Hid (Sit w Vb c d _ _ _) := h
      clear h VaH
      go_wp2_with (go_at_call 35; fail)
      refine (HF2.out _).mono ?_
      rintro e Vc ⟨rfl, hb⟩
      have VcH : Hid (Sit w Vc c d _ _ _) := VbH.out.later hb
      clear hb VbH
      go_wp2_with (go_at_call 25; fail)
      refine (sit_put VcH.out 6 hcg).mono ?_
      rw [(n2 f g).1, (n2 f g).2]
      rintro e Vd ⟨rfl, h⟩
      have VdH : Hid (Sit w Vd c d _ _ _) := h
      clear h VcH
      go_wp2_with (go_at_call 31; fail)
      refine (sit_order VdH.out).mono ?_
      rintro e V1 ⟨p9, cp9, rfl, hp4, hcp, hx4, _⟩
      rw [show ordV _ = [5, 6] from rfl] at hp4 hcp ⊢
      have hp9 := hp4.later (below_new V1 (.cells #[.int .i64 5, .int .i64 6] 3))
      have hb9 := ints_new2 V1 5 6
      have hS8 := (VdH.out.later hx4).later (below_new V1 (.cells #[.int .i64 5, .int .i64 6] 3))
      have hsm := sameInts_any [5, 6] [5, 6] p9 (some ⟨V1.heap.size, 0, none⟩) cp9 2 _ (by decide) hp9 hb9
      rw [show decide (([5, 6] : List Int) = [5, 6]) = true from by decide] at hsm
      have HSM : Hid (Calls Try.prog 30 _ _ _) := hsm
      have HS8 : Hid (Sit w _ c d _ _ _) := hS8
      clear hp4 hp9 hb9 hS8 hsm hx4
      go_wp2_with (go_at_call 30; fail)
      refine HSM.out.mono ?_
      rintro e V2 ⟨rfl, hx9⟩
      have HN6 : Hid (Sit w V2 c d _ _ _) := HS8.out.later hx9
      clear HSM HS8 hx9 VdH
      go_wp2_with (go_at_call 24; fail)
      refine (sit_read HN6.out (T10_room (by omega)) 7).mono ?_
      rw [(n3 f g).1, (n3 f g).2.1, (n3 f g).2.2.1]
      rintro e Ve ⟨rfl, h⟩
      generalize rdB _ _ _ = fb
      have VeH : Hid (Sit w _ c d _ _ _) := h.later (below_new Ve (.cells (blk fb) 59))
      clear h HN6
      go_wp2_with (first | refine wpList_store58_new rfl (.tmp 8) (.tmp 79) rfl fb _ _ rfl rfl rfl ?_ | (go_at_call 35; fail))
      generalize Ve.heap.size = g8 at *
      generalize Ve.alloc (.cells (blk fb) 59) = Vf at *
      refine (HF1.out _).mono ?_
      rintro e Vg ⟨rfl, hb⟩
      have VgH : Hid (Sit w Vg c d _ _ _) := VeH.out.later hb
      clear hb VeH
      go_wp2_with (go_at_call 25; fail)
      refine (sit_put VgH.out 7 hcf).mono ?_
      rw [(n3 f g).1, (n3 f g).2.2.2]
      rintro e Vh ⟨rfl, h⟩
      have VhH : Hid (Sit w Vh c d _ _ _) := h
      clear h VgH
      go_wp2_with (go_at_call 24; fail)
      refine (sit_read VhH.out (T10_room (by omega)) 5).mono ?_
      rw [(n4 f g).1, (n4 f g).2.1, (n4 f g).2.2.1, (n4 f g).2.2.2]
      rintro e Vi ⟨rfl, h⟩
      have ViH : Hid (Sit w (Vi.alloc (.cells (blk f) 59)) c d (nC3 f g) (T10 3) [(Vi.heap.size, .cells (blk f) 59)]) := h.add _
      clear h VhH
      go_upto_region 16 with (refine wpList_store58_new rfl (.tmp 11) (.tmp 87) rfl f _ _ rfl rfl rfl ?_)
      generalize Vi.heap.size = g11 at *
      generalize Vi.alloc (.cells (blk f) 59) = V at *
      have hS0 := ViH.out.drew
      generalize hFB : blk f = FB at *
      clear ViH
      refine wp_region_steps (S := fun u => ∃ s t, Sit w u c d s t [(g11, .cells FB 59)]) [.inl 0, .inl 1, .inl 2, .inl 3, .inl 4, .inl 5, .inl 6, .inl 7, .inl 8, .inl 9, .inl 10, .inl 11, .inr (.inl 12), .inl 13, .inl 14, .inl 15, .inl 16, .inr (.inr (17, 18)), .inr (.inl 19), .inl 20, .inl 21, .inl 22, .inl 23, .inr (.inl 24), .inl 25, .inl 26, .inl 27, .inl 28, .inr (.inl 29), .inl 30, .inl 31] (by kernel_rfl) (by kernel_rfl) (by kernel_rfl) (fun d _ _ _ _ h => by cases d <;> exact h) ⟨_, _, hS0⟩ ?_
      simp only [inSt, List.getElem?_cons_zero, List.getElem?_cons_succ]
      refine wpSt_move (by kernel_rfl) _ rfl ?_
      simp only [Act.put, List.setIfInBounds_toArray, List.set_cons_succ, List.set_cons_zero]
      refine wpSt_yield (v := .bool false) (by kernel_rfl) (fun u hu => by go_simp) ?_
      simp only [Act.put, List.setIfInBounds_toArray, List.set_cons_succ, List.set_cons_zero]
      refine wpSt_move (by kernel_rfl) _ rfl ?_
      simp only [Act.put, List.setIfInBounds_toArray, List.set_cons_succ, List.set_cons_zero]
      refine wpSt_move (by kernel_rfl) _ rfl ?_
      simp only [Act.put, List.setIfInBounds_toArray, List.set_cons_succ, List.set_cons_zero]
      refine wpSt_yield (v := .bool false) (by kernel_rfl) (fun u hu => by go_simp) ?_
      simp only [Act.put, List.setIfInBounds_toArray, List.set_cons_succ, List.set_cons_zero]
      refine wpSt_yield (v := .bool false) (by kernel_rfl) (fun u hu => by go_simp) ?_
      simp only [Act.put, List.setIfInBounds_toArray, List.set_cons_succ, List.set_cons_zero]
      refine wpSt_move (by kernel_rfl) _ rfl ?_
      simp only [Act.put, List.setIfInBounds_toArray, List.set_cons_succ, List.set_cons_zero]
      refine wpSt_move (by kernel_rfl) _ rfl ?_
      simp only [Act.put, List.setIfInBounds_toArray, List.set_cons_succ, List.set_cons_zero]
      refine wpSt_yield (v := .bool false) (by kernel_rfl) (fun u hu => by go_simp) ?_
      simp only [Act.put, List.setIfInBounds_toArray, List.set_cons_succ, List.set_cons_zero]
      refine wpSt_yield (v := .bool false) (by kernel_rfl) (fun u hu => by go_simp) ?_
      simp only [Act.put, List.setIfInBounds_toArray, List.set_cons_succ, List.set_cons_zero]
      refine wpSt_move (by kernel_rfl) _ rfl ?_
      simp only [Act.put, List.setIfInBounds_toArray, List.set_cons_succ, List.set_cons_zero]
      refine wpSt_yield (v := .agg FB) (by kernel_rfl) (fun u hu => exec_load59 (g := g11) rfl rfl hFB (by obtain ⟨_, _, hu⟩ := hu; exact hu.blk (by simp))) ?_
      simp only [Act.put, List.setIfInBounds_toArray, List.set_cons_succ, List.set_cons_zero]
      refine wpSt_act ?_
      refine act_call (by kernel_rfl) 35 _ _ rfl Try.call35 [.int .u16 1] rfl ?_
      refine (HF1.out _).mono ?_
      rintro e X1 ⟨rfl, hx1⟩
      have hS1 := hS0.later hx1
      refine ⟨_, rfl, ⟨_, _, hS1⟩, ?_⟩
      simp only [Act.put, List.setIfInBounds_toArray, List.set_cons_succ, List.set_cons_zero]
      refine wpSt_yield (v := .bool false) (by kernel_rfl) (fun u hu => exec_neq59 rfl rfl rfl hFB hFB hff) ?_
      simp only [Act.put, List.setIfInBounds_toArray, List.set_cons_succ, List.set_cons_zero]
      refine wpSt_yield (v := .bool false) (by kernel_rfl) (fun u hu => by go_simp) ?_
      simp only [Act.put, List.setIfInBounds_toArray, List.set_cons_succ, List.set_cons_zero]
      refine wpSt_move (by kernel_rfl) _ rfl ?_
      simp only [Act.put, List.setIfInBounds_toArray, List.set_cons_succ, List.set_cons_zero]
      refine wpSt_move (by kernel_rfl) _ rfl ?_
      simp only [Act.put, List.setIfInBounds_toArray, List.set_cons_succ, List.set_cons_zero]
      refine wpSt_fork ?_ ?_
      · refine act_call (by kernel_rfl) 31 _ _ rfl Try.call31 [.pointer (some ⟨c, 0, none⟩)] rfl ?_
        refine (sit_order hS1).mono ?_
        rintro e X4 ⟨p9, cp9, rfl, hp4, hcp, hx4, _⟩
        rw [show ordV (nC3 f g).row = [6, 5] from rfl] at hp4 hcp ⊢
        have hS4 := hS1.later hx4
        refine ⟨_, rfl, ⟨_, _, hS4⟩, ?_⟩
        show wpAct _ _ _ _ _ _ _ _
        simp only [Act.put, List.setIfInBounds_toArray, List.set_cons_succ, List.set_cons_zero]
        refine act_makes (v := .slice (some ⟨X4.heap.size, 0, none⟩) 2 2) (w' := X4.alloc (.cells #[.int .i64 6, .int .i64 5] 3)) (by kernel_rfl) (by go_simp) ⟨_, _, hS4.later (below_new _ _)⟩ ?_
        simp only [Act.put, List.setIfInBounds_toArray, List.set_cons_succ, List.set_cons_zero]
        have hp9 := hp4.later (below_new X4 (.cells #[.int .i64 6, .int .i64 5] 3))
        have hb9 := ints_new2 X4 6 5
        have hS8 := hS4.later (below_new X4 (.cells #[.int .i64 6, .int .i64 5] 3))
        generalize X4.heap.size = b9 at *
        generalize X4.alloc (.cells #[.int .i64 6, .int .i64 5] 3) = X8 at *
        refine wpSt_act ?_
        refine act_call (by kernel_rfl) 30 _ _ rfl Try.call30 [.slice p9 2 cp9, .slice (some ⟨b9, 0, none⟩) 2 2] rfl ?_
        refine (sameInts_any [6, 5] [6, 5] p9 (some ⟨b9, 0, none⟩) cp9 2 _ (by decide) hp9 hb9).mono ?_
        rintro e X9 ⟨rfl, hx9⟩
        have hS9 := hS8.later hx9
        refine ⟨_, rfl, ⟨_, _, hS9⟩, ?_⟩
        rw [show decide (([6, 5] : List Int) = [6, 5]) = true from by decide]
        simp only [Act.put, List.setIfInBounds_toArray, List.set_cons_succ, List.set_cons_zero]
        refine wpSt_yield (v := .bool false) (by kernel_rfl) (fun u hu => by go_simp) ?_
        simp only [Act.put, List.setIfInBounds_toArray, List.set_cons_succ, List.set_cons_zero]
        refine wpSt_yield (v := .bool false) (by kernel_rfl) (fun u hu => by go_simp) ?_
        simp only [Act.put, List.setIfInBounds_toArray, List.set_cons_succ, List.set_cons_zero]
        refine wpSt_move (by kernel_rfl) _ rfl ?_
        simp only [Act.put, List.setIfInBounds_toArray, List.set_cons_succ, List.set_cons_zero]
        refine wpSt_move (by kernel_rfl) _ rfl ?_
        simp only [Act.put, List.setIfInBounds_toArray, List.set_cons_succ, List.set_cons_zero]
        refine wpSt_act ?_
        refine act_call (by kernel_rfl) 26 _ _ rfl Try.call26 [.pointer (some ⟨c, 0, none⟩), .int .i64 6] rfl ?_
        refine (sit_flush hS9 (T10_room (by omega)) 6).mono ?_
        rw [(n5 f g).1, (n5 f g).2.1, (n5 f g).2.2]
        rintro e Y1 ⟨rfl, hy1⟩
        refine ⟨_, rfl, ⟨_, _, hy1⟩, ?_⟩
        simp only [Act.put, List.setIfInBounds_toArray, List.set_cons_succ, List.set_cons_zero]
        refine wpSt_yield (v := .bool false) (by kernel_rfl) (fun u hu => by go_simp) ?_
        simp only [Act.put, List.setIfInBounds_toArray, List.set_cons_succ, List.set_cons_zero]
        refine wpSt_yield (v := .bool false) (by kernel_rfl) (fun u hu => by go_simp) ?_
        simp only [Act.put, List.setIfInBounds_toArray, List.set_cons_succ, List.set_cons_zero]
        refine wpSt_move (by kernel_rfl) _ rfl ?_
        simp only [Act.put, List.setIfInBounds_toArray, List.set_cons_succ, List.set_cons_zero]
        refine wpSt_move (by kernel_rfl) _ rfl ?_
        simp only [Act.put, List.setIfInBounds_toArray, List.set_cons_succ, List.set_cons_zero]
        refine wpSt_act ?_
        refine act_call (by kernel_rfl) 16 _ _ rfl Try.call16 [.pointer (some ⟨d, 0, none⟩)] rfl ?_
        refine (dsit_made hy1).mono ?_
        rw [show (nT4 g).made = 1 from rfl]
        rintro e Y2 ⟨rfl, he⟩
        obtain rfl := he.symm
        refine ⟨_, rfl, ⟨_, _, hy1⟩, ?_⟩
        simp only [Act.put, List.setIfInBounds_toArray, List.set_cons_succ, List.set_cons_zero]
        refine wpSt_yield (v := .bool false) (by kernel_rfl) (fun u hu => by go_simp) ?_
        simp only [Act.put, List.setIfInBounds_toArray, List.set_cons_succ, List.set_cons_zero]
        refine wpSt_yield (v := .bool false) (by kernel_rfl) (fun u hu => by go_simp) ?_
        simp only [Act.put, List.setIfInBounds_toArray, List.set_cons_succ, List.set_cons_zero]
        refine wpSt_nil ?_
        have HY : Hid (Sit w Y1 c d (nC4 f g) (nT4 g) []) := hy1.drop (by simp)
        clear hy1 hS9 hS8 hS4 hS1 hS0 hp9 hb9 hcp
        go_wp2_with (go_at_call 24; fail)
        refine (sit_read HY.out (nR4 g) 7).mono ?_
        rw [(n6 f g).1, (n6 f g).2.1, (n6 f g).2.2]
        rintro e Z1 ⟨rfl, h⟩
        generalize rdB _ _ _ = fz
        have HZ1 : Hid (Sit w Z1 c d (nC5 f) (nT5 g) []) := h
        clear h HY
        go_wp2_with (go_at_call 24; fail)
        refine (sit_read HZ1.out (nR5 g) (-1)).mono ?_
        rw [(n7 f g).1, (n7 f g).2.1, (n7 f g).2.2]
        rintro e Z2 ⟨rfl, h⟩
        generalize rdB _ _ _ = fz2
        have HZ2 : Hid (Sit w Z2 c d (nC5 f) (nT5 g) []) := h
        clear h HZ1
        go_wp2_with (go_at_call 11; fail)
        refine (sit_bad HZ2.out (n := 0) (by omega)).mono ?_
        rintro e Z3 ⟨rfl, he⟩
        obtain rfl := he.symm
        clear he
        unfold nilp
        go_wp2_with (go_at_call 11; fail)
        refine (sit_bad HZ2.out (n := 4097) (by omega)).mono ?_
        rintro e Z4 ⟨rfl, he⟩
        obtain rfl := he.symm
        clear he
        unfold nilp
        go_wp2_with (go_at_call 11; fail)
        refine (sit_new2 HZ2.out (n := 4096) (by omega)).mono ?_
        rintro e Z5 ⟨c2, ks2, rfl, h, hlen⟩
        have HZ5 : Hid (Sit w Z5 c d (nC5 f) (nT5 g) (ks2 ++ [])) := h
        have HLen : Hid (∀ W'', (∀ p ∈ ks2, W''.heap[p.1]? = some p.2) → Calls Try.prog 29 #[ptr c2] W'' fun e w' => e = .returned (.int .i64 0) ∧ w' = W'') := hlen
        clear h hlen HZ2
        unfold ptr
        go_wp2_with (go_at_call 31; fail)
        refine (sit_order HZ5.out).mono ?_
        rintro e U1 ⟨p8, cp8, rfl, hp4, hcp, hx4, _⟩
        rw [show ordV (nC5 f).row = [5, 7] from rfl] at hp4 hcp ⊢
        have hp9 := hp4.later (below_new U1 (.cells #[.int .i64 5, .int .i64 7] 3))
        have hb9 := ints_new2 U1 5 7
        have hS8 := (HZ5.out.later hx4).later (below_new U1 (.cells #[.int .i64 5, .int .i64 7] 3))
        have hsm := sameInts_any [5, 7] [5, 7] p8 (some ⟨U1.heap.size, 0, none⟩) cp8 2 _ (by decide) hp9 hb9
        rw [show decide (([5, 7] : List Int) = [5, 7]) = true from by decide] at hsm
        have HSM : Hid (Calls Try.prog 30 _ _ _) := hsm
        have HS8 : Hid (Sit w _ c d (nC5 f) (nT5 g) (ks2 ++ [])) := hS8
        clear hp4 hp9 hb9 hS8 hsm hx4 HZ5
        go_wp2_with (go_at_call 30; fail)
        refine HSM.out.mono ?_
        rintro e U2 ⟨rfl, hx9⟩
        have HU2 : Hid (Sit w U2 c d (nC5 f) (nT5 g) (ks2 ++ [])) := HS8.out.later hx9
        clear HSM HS8 hx9
        go_wp2_with (go_at_call 26; fail)
        refine (sit_flush HU2.out (nR5 g) 9).mono ?_
        rw [(n8 f g).1, (n8 f g).2.1, (n8 f g).2.2]
        rintro e U3 ⟨rfl, h⟩
        have HU3 : Hid (Sit w U3 c d (nC5 f) (nT5 g) (ks2 ++ [])) := h
        clear h HU2
        go_wp2_with (go_at_call 26; fail)
        refine (sit_flush HU3.out (nR5 g) 10).mono ?_
        rw [(n9 f g).1, (n9 f g).2.1, (n9 f g).2.2]
        rintro e U4 ⟨rfl, h⟩
        have HU4 : Hid (Sit w U4 c d (nC5 f) (nT5 g) (ks2 ++ [])) := h
        clear h HU3
        go_wp2_with (go_at_call 16; fail)
        refine (dsit_made HU4.out).mono ?_
        rw [show (nT5 g).made = 1 from rfl]
        rintro e U5 ⟨rfl, he⟩
        obtain rfl := he.symm
        clear he
        go_wp2_with (go_at_call 29; fail)
        refine (HLen.out _ fun p hp => HU4.out.blk (by simp [hp])).mono ?_
        rintro e U6 ⟨rfl, he⟩
        obtain rfl := he.symm
        clear he
        go_wp2
        go_ret
        exact ⟨rfl, HU4.out.below⟩
      · refine act_makes (v := .slice (some ⟨X1.heap.size, 0, none⟩) 2 2) (w' := X1.alloc (.cells #[.int .i64 6, .int .i64 5] 3)) (by kernel_rfl) (by go_simp) ⟨_, _, hS1.later (below_new _ _)⟩ ?_
        show wpAct _ _ _ _ _ _ _ _
        simp only [Act.put, List.setIfInBounds_toArray, List.set_cons_succ, List.set_cons_zero]
        have hb4 := ints_new2 X1 6 5
        have hS4 := hS1.later (below_new X1 (.cells #[.int .i64 6, .int .i64 5] 3))
        generalize X1.heap.size = b9 at *
        generalize X1.alloc (.cells #[.int .i64 6, .int .i64 5] 3) = X4 at *
        refine act_call (by kernel_rfl) 31 _ _ rfl Try.call31 [.pointer (some ⟨c, 0, none⟩)] rfl ?_
        refine (sit_order hS4).mono ?_
        rintro e X8 ⟨p9, cp9, rfl, hp9, hcp, hx4, _⟩
        rw [show ordV (nC3 f g).row = [6, 5] from rfl] at hp9 hcp ⊢
        have hS8 := hS4.later hx4
        have hb9 := hb4.later hx4
        refine ⟨_, rfl, ⟨_, _, hS8⟩, ?_⟩
        simp only [Act.put, List.setIfInBounds_toArray, List.set_cons_succ, List.set_cons_zero]
        refine wpSt_act ?_
        refine act_call (by kernel_rfl) 30 _ _ rfl Try.call30 [.slice p9 2 cp9, .slice (some ⟨b9, 0, none⟩) 2 2] rfl ?_
        refine (sameInts_any [6, 5] [6, 5] p9 (some ⟨b9, 0, none⟩) cp9 2 _ (by decide) hp9 hb9).mono ?_
        rintro e X9 ⟨rfl, hx9⟩
        have hS9 := hS8.later hx9
        refine ⟨_, rfl, ⟨_, _, hS9⟩, ?_⟩
        rw [show decide (([6, 5] : List Int) = [6, 5]) = true from by decide]
        simp only [Act.put, List.setIfInBounds_toArray, List.set_cons_succ, List.set_cons_zero]
        refine wpSt_yield (v := .bool false) (by kernel_rfl) (fun u hu => by go_simp) ?_
        simp only [Act.put, List.setIfInBounds_toArray, List.set_cons_succ, List.set_cons_zero]
        refine wpSt_yield (v := .bool false) (by kernel_rfl) (fun u hu => by go_simp) ?_
        simp only [Act.put, List.setIfInBounds_toArray, List.set_cons_succ, List.set_cons_zero]
        refine wpSt_move (by kernel_rfl) _ rfl ?_
        simp only [Act.put, List.setIfInBounds_toArray, List.set_cons_succ, List.set_cons_zero]
        refine wpSt_move (by kernel_rfl) _ rfl ?_
        simp only [Act.put, List.setIfInBounds_toArray, List.set_cons_succ, List.set_cons_zero]
        refine wpSt_act ?_
        refine act_call (by kernel_rfl) 26 _ _ rfl Try.call26 [.pointer (some ⟨c, 0, none⟩), .int .i64 6] rfl ?_
        refine (sit_flush hS9 (T10_room (by omega)) 6).mono ?_
        rw [(n5 f g).1, (n5 f g).2.1, (n5 f g).2.2]
        rintro e Y1 ⟨rfl, hy1⟩
        refine ⟨_, rfl, ⟨_, _, hy1⟩, ?_⟩
        simp only [Act.put, List.setIfInBounds_toArray, List.set_cons_succ, List.set_cons_zero]
        refine wpSt_yield (v := .bool false) (by kernel_rfl) (fun u hu => by go_simp) ?_
        simp only [Act.put, List.setIfInBounds_toArray, List.set_cons_succ, List.set_cons_zero]
        refine wpSt_yield (v := .bool false) (by kernel_rfl) (fun u hu => by go_simp) ?_
        simp only [Act.put, List.setIfInBounds_toArray, List.set_cons_succ, List.set_cons_zero]
        refine wpSt_move (by kernel_rfl) _ rfl ?_
        simp only [Act.put, List.setIfInBounds_toArray, List.set_cons_succ, List.set_cons_zero]
        refine wpSt_move (by kernel_rfl) _ rfl ?_
        simp only [Act.put, List.setIfInBounds_toArray, List.set_cons_succ, List.set_cons_zero]
        refine wpSt_act ?_
        refine act_call (by kernel_rfl) 16 _ _ rfl Try.call16 [.pointer (some ⟨d, 0, none⟩)] rfl ?_
        refine (dsit_made hy1).mono ?_
        rw [show (nT4 g).made = 1 from rfl]
        rintro e Y2 ⟨rfl, he⟩
        obtain rfl := he.symm
        refine ⟨_, rfl, ⟨_, _, hy1⟩, ?_⟩
        simp only [Act.put, List.setIfInBounds_toArray, List.set_cons_succ, List.set_cons_zero]
        refine wpSt_yield (v := .bool false) (by kernel_rfl) (fun u hu => by go_simp) ?_
        simp only [Act.put, List.setIfInBounds_toArray, List.set_cons_succ, List.set_cons_zero]
        refine wpSt_yield (v := .bool false) (by kernel_rfl) (fun u hu => by go_simp) ?_
        simp only [Act.put, List.setIfInBounds_toArray, List.set_cons_succ, List.set_cons_zero]
        refine wpSt_nil ?_
        have HY : Hid (Sit w Y1 c d (nC4 f g) (nT4 g) []) := hy1.drop (by simp)
        clear hy1 hS9 hS8 hS4 hS1 hS0 hp9 hb9 hcp
        go_wp2_with (go_at_call 24; fail)
        refine (sit_read HY.out (nR4 g) 7).mono ?_
        rw [(n6 f g).1, (n6 f g).2.1, (n6 f g).2.2]
        rintro e Z1 ⟨rfl, h⟩
        generalize rdB _ _ _ = fz
        have HZ1 : Hid (Sit w Z1 c d (nC5 f) (nT5 g) []) := h
        clear h HY
        go_wp2_with (go_at_call 24; fail)
        refine (sit_read HZ1.out (nR5 g) (-1)).mono ?_
        rw [(n7 f g).1, (n7 f g).2.1, (n7 f g).2.2]
        rintro e Z2 ⟨rfl, h⟩
        generalize rdB _ _ _ = fz2
        have HZ2 : Hid (Sit w Z2 c d (nC5 f) (nT5 g) []) := h
        clear h HZ1
        go_wp2_with (go_at_call 11; fail)
        refine (sit_bad HZ2.out (n := 0) (by omega)).mono ?_
        rintro e Z3 ⟨rfl, he⟩
        obtain rfl := he.symm
        clear he
        unfold nilp
        go_wp2_with (go_at_call 11; fail)
        refine (sit_bad HZ2.out (n := 4097) (by omega)).mono ?_
        rintro e Z4 ⟨rfl, he⟩
        obtain rfl := he.symm
        clear he
        unfold nilp
        go_wp2_with (go_at_call 11; fail)
        refine (sit_new2 HZ2.out (n := 4096) (by omega)).mono ?_
        rintro e Z5 ⟨c2, ks2, rfl, h, hlen⟩
        have HZ5 : Hid (Sit w Z5 c d (nC5 f) (nT5 g) (ks2 ++ [])) := h
        have HLen : Hid (∀ W'', (∀ p ∈ ks2, W''.heap[p.1]? = some p.2) → Calls Try.prog 29 #[ptr c2] W'' fun e w' => e = .returned (.int .i64 0) ∧ w' = W'') := hlen
        clear h hlen HZ2
        unfold ptr
        go_wp2_with (go_at_call 31; fail)
        refine (sit_order HZ5.out).mono ?_
        rintro e U1 ⟨p8, cp8, rfl, hp4, hcp, hx4, _⟩
        rw [show ordV (nC5 f).row = [5, 7] from rfl] at hp4 hcp ⊢
        have hp9 := hp4.later (below_new U1 (.cells #[.int .i64 5, .int .i64 7] 3))
        have hb9 := ints_new2 U1 5 7
        have hS8 := (HZ5.out.later hx4).later (below_new U1 (.cells #[.int .i64 5, .int .i64 7] 3))
        have hsm := sameInts_any [5, 7] [5, 7] p8 (some ⟨U1.heap.size, 0, none⟩) cp8 2 _ (by decide) hp9 hb9
        rw [show decide (([5, 7] : List Int) = [5, 7]) = true from by decide] at hsm
        have HSM : Hid (Calls Try.prog 30 _ _ _) := hsm
        have HS8 : Hid (Sit w _ c d (nC5 f) (nT5 g) (ks2 ++ [])) := hS8
        clear hp4 hp9 hb9 hS8 hsm hx4 HZ5
        go_wp2_with (go_at_call 30; fail)
        refine HSM.out.mono ?_
        rintro e U2 ⟨rfl, hx9⟩
        have HU2 : Hid (Sit w U2 c d (nC5 f) (nT5 g) (ks2 ++ [])) := HS8.out.later hx9
        clear HSM HS8 hx9
        go_wp2_with (go_at_call 26; fail)
        refine (sit_flush HU2.out (nR5 g) 9).mono ?_
        rw [(n8 f g).1, (n8 f g).2.1, (n8 f g).2.2]
        rintro e U3 ⟨rfl, h⟩
        have HU3 : Hid (Sit w U3 c d (nC5 f) (nT5 g) (ks2 ++ [])) := h
        clear h HU2
        go_wp2_with (go_at_call 26; fail)
        refine (sit_flush HU3.out (nR5 g) 10).mono ?_
        rw [(n9 f g).1, (n9 f g).2.1, (n9 f g).2.2]
        rintro e U4 ⟨rfl, h⟩
        have HU4 : Hid (Sit w U4 c d (nC5 f) (nT5 g) (ks2 ++ [])) := h
        clear h HU3
        go_wp2_with (go_at_call 16; fail)
        refine (dsit_made HU4.out).mono ?_
        rw [show (nT5 g).made = 1 from rfl]
        rintro e U5 ⟨rfl, he⟩
        obtain rfl := he.symm
        clear he
        go_wp2_with (go_at_call 29; fail)
        refine (HLen.out _ fun p hp => HU4.out.blk (by simp [hp])).mono ?_
        rintro e U6 ⟨rfl, he⟩
        obtain rfl := he.symm
        clear he
        go_wp2
        go_ret
        exact ⟨rfl, HU4.out.below⟩
end Go.Proofs.Ytencclpcebpgmaa
