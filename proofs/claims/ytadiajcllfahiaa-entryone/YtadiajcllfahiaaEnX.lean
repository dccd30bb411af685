/- EntryOne: unlike entries have unlike bytes, and a name's bytes are its own. -/
import Derived.Test.YtadiajcllfahiaaEnW
namespace Go.Proofs.Ytadiajcllfahiaa
open Go.RowKit Go.Maps
section
variable {o : Oper} {a : Act} {W : World}
theorem exec_ld5 {x : Operand} {g k : Nat} {F : Nat → Int} {t : TypeId} (ho : o.op = .load 5 x) (hx : a.eval x = .pointer (some ⟨g, k, none⟩)) (hg : W.heap[g]? = some (.cells (rowN .u8 F 16) t)) (hk : k < 16) : (execOp a.eval o).run Try.prog W = .ok (.value (.int .u8 (F k))) W := by
  have c1 := cell_rowN (i := k) hg hk
  unfold execOp
  simp only [ho, hx]
  simp [go_sem, c1]
theorem exec_ldI {x : Operand} {g : Nat} {i : Int} {s : ByteArray} (ho : o.op = .load 22 x) (hx : a.eval x = .pointer (some ⟨g, 0, none⟩)) (hg : W.heap[g]? = some (.cells (enR i s) 24)) : (execOp a.eval o).run Try.prog W = .ok (.value (.int .u16 i)) W := by
  have c1 : W.cell? ⟨g, 0, none⟩ = some (.int .u16 i) := Joins.cell_of_block hg 0
  unfold execOp
  simp only [ho, hx]
  simp [go_sem, c1]
end
/-- What the law holds behind both Encodes. -/
structure On (w V : World) (i j : Int) (s t : ByteArray) (g h : Nat) (F G : Nat → Int) : Prop where
  ent : V.heap[w.heap.size]? = some (.cells (enR i s) 24)
  two : V.heap[w.heap.size + 1]? = some (.cells (enR j t) 24)
  row : V.heap[g]? = some (.cells (rowN .u8 F 16) 26)
  sec : V.heap[h]? = some (.cells (rowN .u8 G 16) 26)
theorem On.call {w V V' : World} {i j : Int} {s t : ByteArray} {g h : Nat} {F G : Nat → Int} (k : On w V i j s t g h F G) (hb : Below V.heap.size V V') : On w V' i j s t g h F G := ⟨heap_kept k.ent hb, heap_kept k.two hb, heap_kept k.row hb, heap_kept k.sec hb⟩
set_option maxRecDepth 20000 in
set_option maxHeartbeats 4000000 in
theorem one_walk (w : World) (i j : Int) (s t : ByteArray) (hi : 0 ≤ i ∧ i < 65536) (hj : 0 ≤ j ∧ j < 65536) (hs : s.size ≤ 9223372036854775807) (ht : t.size ≤ 9223372036854775807) : Calls Try.prog 7 #[.agg #[.int .u16 i, .string s], .agg #[.int .u16 j, .string t]] w fun e w' => e = .returned (.bool true) ∧ Below w.heap.size w w' := by
  have h1 : Hid (∀ W : World, Calls Try.prog 8 #[.agg (enR i s)] W fun e w' => e = .returned (.tuple #[.agg (rowN .u8 (encF i s) 16), .int .i64 (chV i s)]) ∧ Below W.heap.size W w') := fun W => enc_any W i hi s hs
  have h2 : Hid (∀ W : World, Calls Try.prog 8 #[.agg (enR j t)] W fun e w' => e = .returned (.tuple #[.agg (rowN .u8 (encF j t) 16), .int .i64 (chV j t)]) ∧ Below W.heap.size W w') := fun W => enc_any W j hj t ht
  have ha : Hid _ := fun W => awake_any W
  have zb := zeroBy
  have hent : ((w.alloc (.cells #[.int .u16 i, .string s] 24)).alloc (.cells #[.int .u16 j, .string t] 24)).heap[w.heap.size]? = some (.cells (enR i s) 24) := heap_kept (heap_alloc_new _ _) (below_new _ _)
  have htwo : ((w.alloc (.cells #[.int .u16 i, .string s] 24)).alloc (.cells #[.int .u16 j, .string t] 24)).heap[w.heap.size + 1]? = some (.cells (enR j t) 24) := heap_two _ _ _
  have HB0 : Hid (Below w.heap.size w ((w.alloc (.cells #[.int .u16 i, .string s] 24)).alloc (.cells #[.int .u16 j, .string t] 24))) := bel_al (below_new _ _) _
  have HF : Hid (chV i s = 0 → encF i s = encP i s) := fun h => encF_ok h
  have HG : Hid (chV j t = 0 → encF j t = encP j t) := fun h => encF_ok h
  generalize hFe : encF i s = F at *
  generalize hGe : encF j t = G at *
  clear hFe hGe
  go_enter Try.func7, Try.ntmps7
  go_wp2_with (first | (with_reducible refine isLoadR 24 ?_; refine wpList_ldR 24 Try.underlying24 rfl rfl _ rfl w.heap.size rfl (enR i s) 24 (0, 0) (enR_info _ _) hent ?_) | (go_at_call 8; fail))
  refine (h1.out _).mono ?_
  rintro e W1 ⟨rfl, hb⟩
  have he1 := heap_kept (heap_kept hent hb) (below_new W1 (.cells (rowN .u8 F 16) 26))
  have ht1 := heap_kept (heap_kept htwo hb) (below_new W1 (.cells (rowN .u8 F 16) 26))
  have hx1 : (W1.alloc (.cells (rowN .u8 F 16) 26)).heap[W1.heap.size]? = some (.cells (rowN .u8 F 16) 26) := heap_alloc_new _ _
  have HB1 : Hid (Below w.heap.size w (W1.alloc (.cells (rowN .u8 F 16) 26))) := bel_al (below_next HB0.out hb) _
  clear hb hent htwo HB0 h1
  go_wp2_with (first | (with_reducible refine isStoreR 26 ?_; refine wpList_stNew 26 rfl _ _ rfl W1.heap.size (rowN .u8 F 16) (rowN .u8 nought 16) 26 (by rw [rowN_size]; exact sizeBy) (by rw [rowN_size, rowN_size]) (rowN_one _ _ _) rfl rfl rfl ?_) | (with_reducible refine isLoadR 24 ?_; refine wpList_ldR 24 Try.underlying24 rfl rfl _ rfl (w.heap.size + 1) rfl (enR j t) 24 (0, 0) (enR_info _ _) ht1 ?_) | (go_at_call 8; fail))
  refine (h2.out _).mono ?_
  rintro e W2 ⟨rfl, hb⟩
  have HO : Hid (On w (W2.alloc (.cells (rowN .u8 G 16) 26)) i j s t W1.heap.size W2.heap.size F G) := ⟨heap_kept (heap_kept he1 hb) (below_new _ _), heap_kept (heap_kept ht1 hb) (below_new _ _), heap_kept (heap_kept hx1 hb) (below_new _ _), heap_alloc_new _ _⟩
  have HB2 : Hid (Below w.heap.size w (W2.alloc (.cells (rowN .u8 G 16) 26))) := bel_al (below_next HB1.out hb) _
  clear hb he1 ht1 hx1 HB1 h2
  generalize hg1 : W1.heap.size = g1 at *
  clear hg1
  by_cases hc : chV i s = 0
  case neg =>
    have k1 : (chV i s == 0) = false := beq_eq_false_iff_ne.2 hc
    have k2 : (chV i s != 0) = true := by rw [bne, k1]; rfl
    clear HF HG
    generalize chV i s = q at *
    generalize chV j t = q' at *
    go_wp2_with (first | (with_reducible refine isStoreR 26 ?_; refine wpList_stNew 26 rfl _ _ rfl W2.heap.size (rowN .u8 G 16) (rowN .u8 nought 16) 26 (by rw [rowN_size]; exact sizeBy) (by rw [rowN_size, rowN_size]) (rowN_one _ _ _) rfl rfl rfl ?_) | (go_at_call 12; fail))
    refine (ha.out _).mono ?_
    rintro e W7 ⟨rfl, hb⟩
    have HB7 : Hid _ := below_next HB2.out hb
    clear hb
    go_wp2
    go_ret
    exact ⟨rfl, HB7.out⟩
  by_cases hd : chV j t = 0
  case neg =>
    have k1 : (chV j t == 0) = false := beq_eq_false_iff_ne.2 hd
    have k2 : (chV j t != 0) = true := by rw [bne, k1]; rfl
    clear HF HG
    rw [hc]
    clear hc
    generalize chV j t = q' at *
    go_wp2_with (first | (with_reducible refine isStoreR 26 ?_; refine wpList_stNew 26 rfl _ _ rfl W2.heap.size (rowN .u8 G 16) (rowN .u8 nought 16) 26 (by rw [rowN_size]; exact sizeBy) (by rw [rowN_size, rowN_size]) (rowN_one _ _ _) rfl rfl rfl ?_) | (go_at_call 12; fail))
    refine (ha.out _).mono ?_
    rintro e W7 ⟨rfl, hb⟩
    have HB7 : Hid _ := below_next HB2.out hb
    clear hb
    go_wp2
    go_ret
    exact ⟨rfl, HB7.out⟩
  have HSM : Hid (sameE i j s t = sameN 16 F G) := by
    show sameE i j s t = sameN 16 F G
    rw [HF.out hc, HG.out hd]
    cases hb : sameN 16 (encP i s) (encP j t)
    · cases hq : sameE i j s t
      · rfl
      · obtain ⟨rfl, rfl⟩ := sameE_iff.1 hq
        rw [sameN_self] at hb
        cases hb
    · obtain ⟨rfl, rfl⟩ := encP_inj hi hj hc hd hb
      exact sameE_self _ _
  have HFk : Hid (∀ k, F (2 + k) = byt s k) := fun k => by
    rw [HF.out hc]
    unfold encP
    rw [if_neg (by omega), if_neg (by omega), Nat.add_sub_cancel_left]
  have hF0 : F 0 = i % 256 := by rw [HF.out hc]; rfl
  have hF1 : F 1 = i / 256 := by rw [HF.out hc]; rfl
  rw [hc, hd]
  clear hc hd HF HG hj
  have hV : ∀ k : Nat, k < 14 → (W2.alloc (.cells (rowN .u8 G 16) 26)).cell? ⟨g1, 2 + k, none⟩ = some (.int .u8 (byt s k)) := fun k hk => by
    rw [cell_rowN (i := 2 + k) HO.out.row (by omega), HFk.out]
  have HVV : Hid _ := hV
  clear hV HFk
  have c1 : (W2.alloc (.cells (rowN .u8 G 16) 26)).cell? ⟨w.heap.size, 1, none⟩ = some (.string s) := Joins.cell_of_block HO.out.ent 1
  go_wp2_with (first | (with_reducible refine isStoreR 26 ?_; refine wpList_stNew 26 rfl _ _ rfl W2.heap.size (rowN .u8 G 16) (rowN .u8 nought 16) 26 (by rw [rowN_size]; exact sizeBy) (by rw [rowN_size, rowN_size]) (rowN_one _ _ _) rfl rfl rfl ?_))
  generalize W2.alloc (.cells (rowN .u8 G 16) 26) = V at *
  generalize W2.heap.size = g2 at *
  have H0 : Hid _ := hF0
  have H1 : Hid _ := hF1
  clear hF0 hF1 zb
  go_loopw [9] (fun s9 wx => wx = V ∧ ∃ k : Nat, k ≤ 14 ∧ s9 = .int .i64 k) (fun s9 _ => 14 - (intOf s9).toNat)
  case atStart => exact ⟨rfl, 0, by omega, rfl⟩
  case round =>
    obtain ⟨rfl, k, hk, rfl⟩ := hrel
    by_cases h14 : (k : Int) < 14
    · have ck := HVV.out k (by omega)
      have e1 : IntKind.i64.wrap (2 + (k : Int)) = ((2 + k : Nat) : Int) := by rw [IntKind.wrap_i64]; omega
      have e2 : 2 + (k : Int) = ((2 + k : Nat) : Int) := by omega
      have hm16 : 2 + k < 16 := by omega
      by_cases hks : (k : Int) < (s.size : Int)
      · have hr := idx_str s k (by omega)
        generalize byt s k = q at *
        clear HSM HVV HO HB2 H0 H1 ha
        generalize hm : 2 + k = m at *
        have HM : Hid _ := hm
        clear hm
        go_wp2
        exact ⟨⟨trivial, k + 1, by omega, by go_num⟩, by simp [intOf]; omega⟩
      · rw [byt_out (by omega)] at ck
        clear HSM HVV HO HB2 H0 H1 ha
        generalize hm : 2 + k = m at *
        have HM : Hid _ := hm
        clear hm
        go_wp2
        exact ⟨⟨trivial, k + 1, by omega, by go_num⟩, by simp [intOf]; omega⟩
    · obtain rfl : k = 14 := by omega
      clear HVV c1 hk
      have w0 : IntKind.i64.wrap (F 0) = F 0 := by rw [H0.out, IntKind.wrap_i64]; omega
      have w1 : IntKind.i64.wrap (F 1) = F 1 := by rw [H1.out, IntKind.wrap_i64]; omega
      have w2 : IntKind.i64.wrap (256 * F 1) = 256 * F 1 := by rw [H1.out, IntKind.wrap_i64]; omega
      have w3 : IntKind.i64.wrap (F 0 + 256 * F 1) = i := by rw [H0.out, H1.out, IntKind.wrap_i64]; omega
      have w4 : IntKind.i64.wrap i = i := by rw [IntKind.wrap_i64]; omega
      clear hi H0 H1
      have hsm := HSM.out
      generalize hbb : sameN 16 F G = b at *
      have HBB : Hid _ := hbb
      have HSE : Hid (sameE i j s t = b) := hsm
      clear hbb hsm HSM
      go_wp2
      refine wp_region_ord (S := fun u => On w u i j s t g1 g2 F G) [(0, true), (1, true), (2, true), (3, true), (4, true), (5, true), (6, true), (7, true), (8, true), (9, true), (10, true), (11, true), (12, true), (13, true), (14, true), (15, true), (16, true), (17, true), (18, true), (19, true), (20, true), (21, true), (22, false), (23, true), (24, true)] (by kernel_rfl) rfl (by kernel_rfl) (fun d _ _ _ _ h => by cases d <;> exact h) ⟨HO.out.ent, HO.out.two, HO.out.row, HO.out.sec⟩ ?_
      have HO2 : Hid (On w wr.drew i j s t g1 g2 F G) := ⟨HO.out.ent, HO.out.two, HO.out.row, HO.out.sec⟩
      have HB3 : Hid (Below w.heap.size w wr.drew) := HB2.out.drew
      clear HO HB2
      generalize wr.drew = V2 at *
      simp only [inOrd, List.getElem?_cons_zero, List.getElem?_cons_succ]
      refine wpOrd_yield (v := .agg (rowN .u8 F 16)) rfl (fun u hu => exec_ldN Try.underlying26 sizeBy rfl rfl hu.row) ?_
      simp only [Act.put, List.setIfInBounds_toArray, List.set_cons_succ, List.set_cons_zero]
      refine wpOrd_yield (v := .agg (rowN .u8 G 16)) rfl (fun u hu => exec_ldN Try.underlying26 sizeBy rfl rfl hu.sec) ?_
      simp only [Act.put, List.setIfInBounds_toArray, List.set_cons_succ, List.set_cons_zero]
      refine wpOrd_yield (v := .bool b) rfl (fun u _ => exec_eqN Try.underlying26 (by kernel_rfl) _ _ rfl F G b rfl rfl HBB.out) ?_
      simp only [Act.put, List.setIfInBounds_toArray, List.set_cons_succ, List.set_cons_zero]
      refine wpOrd_yield (v := .agg (enR i s)) rfl (fun u hu => exec_ldE rfl rfl hu.ent) ?_
      simp only [Act.put, List.setIfInBounds_toArray, List.set_cons_succ, List.set_cons_zero]
      refine wpOrd_yield (v := .agg (enR j t)) rfl (fun u hu => exec_ldE rfl rfl hu.two) ?_
      simp only [Act.put, List.setIfInBounds_toArray, List.set_cons_succ, List.set_cons_zero]
      refine wpOrd_yield (v := .bool b) rfl (fun u _ => exec_eqE rfl rfl rfl HSE.out) ?_
      simp only [Act.put, List.setIfInBounds_toArray, List.set_cons_succ, List.set_cons_zero]
      refine wpOrd_yield (v := .bool true) rfl (fun u _ => by go_simp) ?_
      simp only [Act.put, List.setIfInBounds_toArray, List.set_cons_succ, List.set_cons_zero]
      refine wpOrd_yield (v := .bool true) rfl (fun u _ => exec_mv rfl rfl) ?_
      simp only [Act.put, List.setIfInBounds_toArray, List.set_cons_succ, List.set_cons_zero]
      refine wpOrd_yield (v := .pointer (some ⟨g1, 0, none⟩)) rfl (fun u _ => by go_simp) ?_
      simp only [Act.put, List.setIfInBounds_toArray, List.set_cons_succ, List.set_cons_zero]
      refine wpOrd_yield (v := .int .u8 (F 0)) rfl (fun u hu => exec_ld5 rfl rfl hu.row (by omega)) ?_
      simp only [Act.put, List.setIfInBounds_toArray, List.set_cons_succ, List.set_cons_zero]
      refine wpOrd_yield (v := .int .i64 (F 0)) rfl (fun u _ => by have := w0; go_simp) ?_
      simp only [Act.put, List.setIfInBounds_toArray, List.set_cons_succ, List.set_cons_zero]
      refine wpOrd_yield (v := .pointer (some ⟨g1, 1, none⟩)) rfl (fun u _ => by go_simp) ?_
      simp only [Act.put, List.setIfInBounds_toArray, List.set_cons_succ, List.set_cons_zero]
      refine wpOrd_yield (v := .int .u8 (F 1)) rfl (fun u hu => exec_ld5 rfl rfl hu.row (by omega)) ?_
      simp only [Act.put, List.setIfInBounds_toArray, List.set_cons_succ, List.set_cons_zero]
      refine wpOrd_yield (v := .int .i64 (F 1)) rfl (fun u _ => by have := w1; go_simp) ?_
      simp only [Act.put, List.setIfInBounds_toArray, List.set_cons_succ, List.set_cons_zero]
      refine wpOrd_yield (v := .int .i64 (256 * F 1)) rfl (fun u _ => by have := w2; go_simp) ?_
      simp only [Act.put, List.setIfInBounds_toArray, List.set_cons_succ, List.set_cons_zero]
      refine wpOrd_yield (v := .int .i64 i) rfl (fun u _ => by have := w3; go_simp) ?_
      simp only [Act.put, List.setIfInBounds_toArray, List.set_cons_succ, List.set_cons_zero]
      refine wpOrd_yield (v := .pointer (some ⟨w.heap.size, 0, none⟩)) rfl (fun u _ => by go_simp) ?_
      simp only [Act.put, List.setIfInBounds_toArray, List.set_cons_succ, List.set_cons_zero]
      refine wpOrd_yield (v := .int .u16 i) rfl (fun u hu => exec_ldI rfl rfl hu.ent) ?_
      simp only [Act.put, List.setIfInBounds_toArray, List.set_cons_succ, List.set_cons_zero]
      refine wpOrd_yield (v := .int .i64 i) rfl (fun u _ => by have := w4; go_simp) ?_
      simp only [Act.put, List.setIfInBounds_toArray, List.set_cons_succ, List.set_cons_zero]
      refine wpOrd_yield (v := .bool true) rfl (fun u _ => by go_simp) ?_
      simp only [Act.put, List.setIfInBounds_toArray, List.set_cons_succ, List.set_cons_zero]
      refine wpOrd_yield (v := .bool true) rfl (fun u _ => by go_simp) ?_
      simp only [Act.put, List.setIfInBounds_toArray, List.set_cons_succ, List.set_cons_zero]
      refine wpOrd_yield (v := .bool true) rfl (fun u _ => exec_mv rfl rfl) ?_
      simp only [Act.put, List.setIfInBounds_toArray, List.set_cons_succ, List.set_cons_zero]
      refine wpOrd_call rfl 12 _ _ rfl Try.call12 [] rfl ?_
      refine (ha.out _).mono ?_
      rintro e Z2 ⟨rfl, hb⟩
      refine ⟨_, rfl, HO2.out.call hb, ?_⟩
      simp only [Act.put, List.setIfInBounds_toArray, List.set_cons_succ, List.set_cons_zero]
      have HB4 : Hid _ := below_next HB3.out hb
      clear hb HB3 HO2
      refine wpOrd_yield (v := .bool true) rfl (fun u _ => by go_simp) ?_
      simp only [Act.put, List.setIfInBounds_toArray, List.set_cons_succ, List.set_cons_zero]
      refine wpOrd_yield (v := .bool true) rfl (fun u _ => by go_simp) ?_
      simp only [Act.put, List.setIfInBounds_toArray, List.set_cons_succ, List.set_cons_zero]
      refine wpOrd_nil ?_
      go_wp2
      go_ret
      exact ⟨rfl, HB4.out⟩
end Go.Proofs.Ytadiajcllfahiaa
