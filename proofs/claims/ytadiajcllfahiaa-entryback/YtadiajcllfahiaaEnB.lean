/- EntryBack: what is written is read. -/
import Derived.Test.YtadiajcllfahiaaEn8
namespace Go.Proofs.Ytadiajcllfahiaa
open Go.RowKit Go.Maps
set_option maxRecDepth 20000 in
set_option maxHeartbeats 4000000 in
theorem back_walk (w : World) (i : Int) (s : ByteArray) (f : Nat → Int) (hi : 0 ≤ i ∧ i < 65536) (hs : s.size ≤ 9223372036854775807) (hf : Byt16 f) : Calls Try.prog 6 #[.agg #[.int .u16 i, .string s], .agg (rowN .u8 f 16)] w fun e w' => e = .returned (.bool true) ∧ Below w.heap.size w w' := by
  have he : Hid (∀ W : World, Calls Try.prog 8 #[.agg (enR i s)] W fun e w' => e = .returned (.tuple #[.agg (rowN .u8 (encF i s) 16), .int .i64 (chV i s)]) ∧ Below W.heap.size W w') := fun W => enc_any W i hi s hs
  have hp : Hid (∀ W : World, Calls Try.prog 13 #[.agg (rowN .u8 (encP i s) 16)] W fun e w' => e = .returned (.tuple #[.agg (decR (encP i s)), .int .i64 (decE (encP i s))]) ∧ Below W.heap.size W w') := fun W => dec_any W _ (encP_byt hi)
  have hn : Hid _ := fun W => name_any s W hs
  have ha : Hid _ := fun W => awake_any W
  have HX : Hid ((∃ j t, (∀ W : World, Calls Try.prog 13 #[.agg (rowN .u8 f 16)] W fun e w' => e = .returned (.tuple #[.agg (enR j t), .int .i64 0]) ∧ Below W.heap.size W w') ∧ (∀ W : World, Calls Try.prog 8 #[.agg (enR j t)] W fun e w' => e = .returned (.tuple #[.agg (rowN .u8 f 16), .int .i64 0]) ∧ Below W.heap.size W w')) ∨ (∀ W : World, Calls Try.prog 13 #[.agg (rowN .u8 f 16)] W fun e w' => e = .returned (.tuple #[.agg (enR 0 ⟨#[]⟩), .int .i64 4]) ∧ Below W.heap.size W w')) := by
    have hd := fun W => dec_any W f hf
    unfold decR decE at hd
    by_cases ok : dcOk f = true
    · rw [if_pos ok, if_pos ok] at hd
      refine .inl ⟨_, _, hd, fun W => ?_⟩
      obtain ⟨k1, k2⟩ := dcOk_back ok
      have h := enc_any W (dcI f) (by have h0 := hf 0 (by omega); have h1 := hf 1 (by omega); unfold dcI; omega) (dcS f) (by unfold dcS; rw [txt_size]; have := upto_le (nmF f) 14; omega)
      rw [k1, encF_ok k1, rowN_congr k2] at h
      exact h
    · rw [if_neg ok, if_neg ok] at hd
      exact .inr hd
  have hS := sameE_self i s
  have hO := sameE_self 0 ⟨#[]⟩
  have hN := sameN_self 16 nought
  have hF := sameN_self 16 f
  have z := zeroEn
  have zb := zeroBy
  have hent : ((w.alloc (.cells #[.int .u16 i, .string s] 24)).alloc (.cells (rowN .u8 f 16) 25)).heap[w.heap.size]? = some (.cells (enR i s) 24) := heap_kept (heap_alloc_new _ _) (below_new _ _)
  have hrow : ((w.alloc (.cells #[.int .u16 i, .string s] 24)).alloc (.cells (rowN .u8 f 16) 25)).heap[w.heap.size + 1]? = some (.cells (rowN .u8 f 16) 25) := heap_two _ _ _
  have HB0 : Hid (Below w.heap.size w ((w.alloc (.cells #[.int .u16 i, .string s] 24)).alloc (.cells (rowN .u8 f 16) 25))) := bel_al (below_new _ _) _
  go_enter Try.func6, Try.ntmps6
  go_wp2_with (first | (with_reducible refine isLoadR 24 ?_; refine wpList_ldR 24 Try.underlying24 rfl rfl _ rfl w.heap.size rfl (enR i s) 24 (0, 0) (enR_info _ _) hent ?_) | (go_at_call 8; fail))
  refine (he.out _).mono ?_
  rintro e W1 ⟨rfl, hb⟩
  have he1 := heap_kept (heap_kept hent hb) (below_new W1 (.cells (rowN .u8 (encF i s) 16) 26))
  have hr1 := heap_kept (heap_kept hrow hb) (below_new W1 (.cells (rowN .u8 (encF i s) 16) 26))
  have hx1 : (W1.alloc (.cells (rowN .u8 (encF i s) 16) 26)).heap[W1.heap.size]? = some (.cells (rowN .u8 (encF i s) 16) 26) := heap_alloc_new _ _
  have HB1 : Hid (Below w.heap.size w (W1.alloc (.cells (rowN .u8 (encF i s) 16) 26))) := bel_al (below_next HB0.out hb) _
  clear hb hent hrow HB0 he
  by_cases hc : chV i s = 0
  · have hFe := encF_ok hc
    obtain ⟨hD1, hD2⟩ := decR_enc hi hc
    rw [hD1, hD2] at hp
    rw [hFe] at he1 hr1 hx1 HB1
    rw [hFe, hc]
    have hcc := chV_ok hc
    clear hFe hD1 hD2 hc
    generalize encP i s = F at *
    go_wp2_with (first | (with_reducible refine isStoreR 26 ?_; refine wpList_stNew 26 rfl _ _ rfl W1.heap.size (rowN .u8 F 16) (rowN .u8 nought 16) 26 (by rw [rowN_size]; exact sizeBy) (by rw [rowN_size, rowN_size]) (rowN_one _ _ _) rfl rfl rfl ?_) | (with_reducible refine isLoadR 26 ?_; refine wpList_ldR 26 Try.underlying26 rfl rfl _ rfl W1.heap.size rfl (rowN .u8 F 16) 26 (0, 0) (by rw [rowN_size]; exact sizeBy) hx1 ?_) | (go_at_call 13; fail))
    refine (hp.out _).mono ?_
    rintro e W2 ⟨rfl, hb⟩
    have he2 := heap_kept (heap_kept he1 hb) (below_new W2 (.cells (enR i s) 24))
    have hr2 := heap_kept (heap_kept hr1 hb) (below_new W2 (.cells (enR i s) 24))
    have hx2 : (W2.alloc (.cells (enR i s) 24)).heap[W2.heap.size]? = some (.cells (enR i s) 24) := heap_alloc_new _ _
    have HB2 : Hid (Below w.heap.size w (W2.alloc (.cells (enR i s) 24))) := bel_al (below_next HB1.out hb) _
    have c0 : (W2.alloc (.cells (enR i s) 24)).cell? ⟨w.heap.size, 0, none⟩ = some (.int .u16 i) := Joins.cell_of_block he2 0
    have c1 : (W2.alloc (.cells (enR i s) 24)).cell? ⟨w.heap.size, 1, none⟩ = some (.string s) := Joins.cell_of_block he2 1
    clear hb he1 hr1 hx1 HB1 hp
    rcases hcc with ⟨h0, hs0⟩ | ⟨h0, hnm⟩
    · subst h0
      clear hs0
      go_wp2_with (first | (with_reducible refine isStoreR 24 ?_; refine wpList_stNew 24 rfl _ _ rfl W2.heap.size (enR 0 s) #[.int .u16 0, .string ⟨#[]⟩] 24 (enR_info _ _) (enR_two _ _) (enR_one _ _) rfl rfl rfl ?_) | (with_reducible refine isLoadR 24 ?_; refine wpList_ldR 24 Try.underlying24 rfl rfl _ rfl W2.heap.size rfl (enR 0 s) 24 (0, 0) (enR_info _ _) hx2 ?_) | (with_reducible refine isLoadR 24 ?_; refine wpList_ldR 24 Try.underlying24 rfl rfl _ rfl w.heap.size rfl (enR 0 s) 24 (0, 0) (enR_info _ _) he2 ?_) | ((with_reducible refine isEqR 24 24 ?_); refine wpList_exec rfl (exec_neE rfl rfl rfl hS) ?_) | (with_reducible refine isLoadR 25 ?_; refine wpList_ldR 25 Try.underlying25 rfl rfl _ rfl (w.heap.size + 1) rfl (rowN .u8 f 16) 25 (0, 0) (by rw [rowN_size]; exact size204) hr2 ?_) | (go_at_call 13; fail))
      clear he2 hx2 c0 c1
      have hrT := hr2
      have HBT : Hid _ := HB2.out
      rcases HX.out with ⟨j, t, hd, hE⟩ | hd
      · refine (hd _).mono ?_
        rintro e W5 ⟨rfl, hb⟩
        have hr5 := heap_kept (heap_kept hrT hb) (below_new W5 (.cells (enR j t) 24))
        have hx5 : (W5.alloc (.cells (enR j t) 24)).heap[W5.heap.size]? = some (.cells (enR j t) 24) := heap_alloc_new _ _
        have HB5 : Hid (Below w.heap.size w (W5.alloc (.cells (enR j t) 24))) := bel_al (below_next HBT.out hb) _
        clear hb hrT HBT HX
        go_wp2_with (first | (with_reducible refine isStoreR 24 ?_; refine wpList_stNew 24 rfl _ _ rfl W5.heap.size (enR j t) #[.int .u16 0, .string ⟨#[]⟩] 24 (enR_info _ _) (enR_two _ _) (enR_one _ _) rfl rfl rfl ?_) | (with_reducible refine isLoadR 24 ?_; refine wpList_ldR 24 Try.underlying24 rfl rfl _ rfl W5.heap.size rfl (enR j t) 24 (0, 0) (enR_info _ _) hx5 ?_) | (go_at_call 8; fail))
        refine (hE _).mono ?_
        rintro e W6 ⟨rfl, hb⟩
        have hr6 := heap_kept (heap_kept hr5 hb) (below_new W6 (.cells (rowN .u8 f 16) 26))
        have hx6 : (W6.alloc (.cells (rowN .u8 f 16) 26)).heap[W6.heap.size]? = some (.cells (rowN .u8 f 16) 26) := heap_alloc_new _ _
        have HB6 : Hid (Below w.heap.size w (W6.alloc (.cells (rowN .u8 f 16) 26))) := bel_al (below_next HB5.out hb) _
        clear hb hr5 hx5 HB5
        go_wp2_with (first | (with_reducible refine isStoreR 26 ?_; refine wpList_stNew 26 rfl _ _ rfl W6.heap.size (rowN .u8 f 16) (rowN .u8 nought 16) 26 (by rw [rowN_size]; exact sizeBy) (by rw [rowN_size, rowN_size]) (rowN_one _ _ _) rfl rfl rfl ?_) | (with_reducible refine isLoadR 26 ?_; refine wpList_ldR 26 Try.underlying26 rfl rfl _ rfl W6.heap.size rfl (rowN .u8 f 16) 26 (0, 0) (by rw [rowN_size]; exact sizeBy) hx6 ?_) | (with_reducible refine isLoadR 25 ?_; refine wpList_ldR 25 Try.underlying25 rfl rfl _ rfl (w.heap.size + 1) rfl (rowN .u8 f 16) 25 (0, 0) (by rw [rowN_size]; exact size204) hr6 ?_) | (with_reducible refine isEqR 25 25 ?_; refine wpList_eqN Try.underlying25 (by kernel_rfl) rfl _ _ rfl f f true rfl rfl hF ?_) | (go_at_call 12; fail))
        refine (ha.out _).mono ?_
        rintro e W7 ⟨rfl, hb⟩
        have HB7 : Hid _ := below_next HB6.out hb
        clear hb
        go_wp2
        go_ret
        exact ⟨rfl, HB7.out⟩
      · refine (hd _).mono ?_
        rintro e W5 ⟨rfl, hb⟩
        have hr5 := heap_kept (heap_kept hrT hb) (below_new W5 (.cells (enR 0 ⟨#[]⟩) 24))
        have hx5 : (W5.alloc (.cells (enR 0 ⟨#[]⟩) 24)).heap[W5.heap.size]? = some (.cells (enR 0 ⟨#[]⟩) 24) := heap_alloc_new _ _
        have HB5 : Hid (Below w.heap.size w (W5.alloc (.cells (enR 0 ⟨#[]⟩) 24))) := bel_al (below_next HBT.out hb) _
        clear hb hrT HBT HX
        go_wp2_with (first | (with_reducible refine isStoreR 24 ?_; refine wpList_stNew 24 rfl _ _ rfl W5.heap.size (enR 0 ⟨#[]⟩) #[.int .u16 0, .string ⟨#[]⟩] 24 (enR_info _ _) (enR_two _ _) (enR_one _ _) rfl rfl rfl ?_) | (with_reducible refine isLoadR 24 ?_; refine wpList_ldR 24 Try.underlying24 rfl rfl _ rfl W5.heap.size rfl (enR 0 ⟨#[]⟩) 24 (0, 0) (enR_info _ _) hx5 ?_) | ((with_reducible refine isEqR 24 24 ?_); refine wpList_exec rfl (exec_eqE rfl rfl rfl hO) ?_) | (go_at_call 12; fail))
        refine (ha.out _).mono ?_
        rintro e W7 ⟨rfl, hb⟩
        have HB7 : Hid _ := below_next HB5.out hb
        clear hb
        go_wp2
        go_ret
        exact ⟨rfl, HB7.out⟩
    · rw [hnm] at hn
      have g1 : (i == 0) = false := beq_eq_false_iff_ne.2 h0
      have g2 : (i != 0) = true := by rw [bne, g1]; rfl
      clear hnm
      go_wp2_with (first | (with_reducible refine isStoreR 24 ?_; refine wpList_stNew 24 rfl _ _ rfl W2.heap.size (enR i s) #[.int .u16 0, .string ⟨#[]⟩] 24 (enR_info _ _) (enR_two _ _) (enR_one _ _) rfl rfl rfl ?_) | (with_reducible refine isLoadR 24 ?_; refine wpList_ldR 24 Try.underlying24 rfl rfl _ rfl W2.heap.size rfl (enR i s) 24 (0, 0) (enR_info _ _) hx2 ?_) | (with_reducible refine isLoadR 24 ?_; refine wpList_ldR 24 Try.underlying24 rfl rfl _ rfl w.heap.size rfl (enR i s) 24 (0, 0) (enR_info _ _) he2 ?_) | ((with_reducible refine isEqR 24 24 ?_); refine wpList_exec rfl (exec_neE rfl rfl rfl hS) ?_) | (go_at_call 10; fail))
      refine (hn.out _).mono ?_
      rintro e W3 ⟨rfl, rfl⟩
      go_wp2_with (first | (with_reducible refine isLoadR 25 ?_; refine wpList_ldR 25 Try.underlying25 rfl rfl _ rfl (w.heap.size + 1) rfl (rowN .u8 f 16) 25 (0, 0) (by rw [rowN_size]; exact size204) hr2 ?_) | (go_at_call 13; fail))
      clear he2 hx2 c0 c1 h0 g1 g2
      have hrT := hr2
      have HBT : Hid _ := HB2.out
      rcases HX.out with ⟨j, t, hd, hE⟩ | hd
      · refine (hd _).mono ?_
        rintro e W5 ⟨rfl, hb⟩
        have hr5 := heap_kept (heap_kept hrT hb) (below_new W5 (.cells (enR j t) 24))
        have hx5 : (W5.alloc (.cells (enR j t) 24)).heap[W5.heap.size]? = some (.cells (enR j t) 24) := heap_alloc_new _ _
        have HB5 : Hid (Below w.heap.size w (W5.alloc (.cells (enR j t) 24))) := bel_al (below_next HBT.out hb) _
        clear hb hrT HBT HX
        go_wp2_with (first | (with_reducible refine isStoreR 24 ?_; refine wpList_stNew 24 rfl _ _ rfl W5.heap.size (enR j t) #[.int .u16 0, .string ⟨#[]⟩] 24 (enR_info _ _) (enR_two _ _) (enR_one _ _) rfl rfl rfl ?_) | (with_reducible refine isLoadR 24 ?_; refine wpList_ldR 24 Try.underlying24 rfl rfl _ rfl W5.heap.size rfl (enR j t) 24 (0, 0) (enR_info _ _) hx5 ?_) | (go_at_call 8; fail))
        refine (hE _).mono ?_
        rintro e W6 ⟨rfl, hb⟩
        have hr6 := heap_kept (heap_kept hr5 hb) (below_new W6 (.cells (rowN .u8 f 16) 26))
        have hx6 : (W6.alloc (.cells (rowN .u8 f 16) 26)).heap[W6.heap.size]? = some (.cells (rowN .u8 f 16) 26) := heap_alloc_new _ _
        have HB6 : Hid (Below w.heap.size w (W6.alloc (.cells (rowN .u8 f 16) 26))) := bel_al (below_next HB5.out hb) _
        clear hb hr5 hx5 HB5
        go_wp2_with (first | (with_reducible refine isStoreR 26 ?_; refine wpList_stNew 26 rfl _ _ rfl W6.heap.size (rowN .u8 f 16) (rowN .u8 nought 16) 26 (by rw [rowN_size]; exact sizeBy) (by rw [rowN_size, rowN_size]) (rowN_one _ _ _) rfl rfl rfl ?_) | (with_reducible refine isLoadR 26 ?_; refine wpList_ldR 26 Try.underlying26 rfl rfl _ rfl W6.heap.size rfl (rowN .u8 f 16) 26 (0, 0) (by rw [rowN_size]; exact sizeBy) hx6 ?_) | (with_reducible refine isLoadR 25 ?_; refine wpList_ldR 25 Try.underlying25 rfl rfl _ rfl (w.heap.size + 1) rfl (rowN .u8 f 16) 25 (0, 0) (by rw [rowN_size]; exact size204) hr6 ?_) | (with_reducible refine isEqR 25 25 ?_; refine wpList_eqN Try.underlying25 (by kernel_rfl) rfl _ _ rfl f f true rfl rfl hF ?_) | (go_at_call 12; fail))
        refine (ha.out _).mono ?_
        rintro e W7 ⟨rfl, hb⟩
        have HB7 : Hid _ := below_next HB6.out hb
        clear hb
        go_wp2
        go_ret
        exact ⟨rfl, HB7.out⟩
      · refine (hd _).mono ?_
        rintro e W5 ⟨rfl, hb⟩
        have hr5 := heap_kept (heap_kept hrT hb) (below_new W5 (.cells (enR 0 ⟨#[]⟩) 24))
        have hx5 : (W5.alloc (.cells (enR 0 ⟨#[]⟩) 24)).heap[W5.heap.size]? = some (.cells (enR 0 ⟨#[]⟩) 24) := heap_alloc_new _ _
        have HB5 : Hid (Below w.heap.size w (W5.alloc (.cells (enR 0 ⟨#[]⟩) 24))) := bel_al (below_next HBT.out hb) _
        clear hb hrT HBT HX
        go_wp2_with (first | (with_reducible refine isStoreR 24 ?_; refine wpList_stNew 24 rfl _ _ rfl W5.heap.size (enR 0 ⟨#[]⟩) #[.int .u16 0, .string ⟨#[]⟩] 24 (enR_info _ _) (enR_two _ _) (enR_one _ _) rfl rfl rfl ?_) | (with_reducible refine isLoadR 24 ?_; refine wpList_ldR 24 Try.underlying24 rfl rfl _ rfl W5.heap.size rfl (enR 0 ⟨#[]⟩) 24 (0, 0) (enR_info _ _) hx5 ?_) | ((with_reducible refine isEqR 24 24 ?_); refine wpList_exec rfl (exec_eqE rfl rfl rfl hO) ?_) | (go_at_call 12; fail))
        refine (ha.out _).mono ?_
        rintro e W7 ⟨rfl, hb⟩
        have HB7 : Hid _ := below_next HB5.out hb
        clear hb
        go_wp2
        go_ret
        exact ⟨rfl, HB7.out⟩
  · have hFe := encF_bad hc
    rw [hFe] at he1 hr1 hx1 HB1
    rw [hFe]
    have g1 : (chV i s == 0) = false := beq_eq_false_iff_ne.2 hc
    have g2 : (chV i s != 0) = true := by rw [bne, g1]; rfl
    clear hFe hp
    generalize chV i s = q at *
    go_wp2_with (first | (with_reducible refine isStoreR 26 ?_; refine wpList_stNew 26 rfl _ _ rfl W1.heap.size (rowN .u8 nought 16) (rowN .u8 nought 16) 26 (by rw [rowN_size]; exact sizeBy) rfl (rowN_one _ _ _) rfl rfl rfl ?_) | (with_reducible refine isLoadR 26 ?_; refine wpList_ldR 26 Try.underlying26 rfl rfl _ rfl W1.heap.size rfl (rowN .u8 nought 16) 26 (0, 0) (by rw [rowN_size]; exact sizeBy) hx1 ?_) | (with_reducible refine isEqR 26 26 ?_; refine wpList_neN Try.underlying26 (by kernel_rfl) rfl _ _ rfl nought nought true rfl rfl hN ?_) | (with_reducible refine isLoadR 25 ?_; refine wpList_ldR 25 Try.underlying25 rfl rfl _ rfl (w.heap.size + 1) rfl (rowN .u8 f 16) 25 (0, 0) (by rw [rowN_size]; exact size204) hr1 ?_) | (go_at_call 13; fail))
    clear he1 hx1 g1 g2 hc
    have hrT := hr1
    have HBT : Hid _ := HB1.out
    rcases HX.out with ⟨j, t, hd, hE⟩ | hd
    · refine (hd _).mono ?_
      rintro e W5 ⟨rfl, hb⟩
      have hr5 := heap_kept (heap_kept hrT hb) (below_new W5 (.cells (enR j t) 24))
      have hx5 : (W5.alloc (.cells (enR j t) 24)).heap[W5.heap.size]? = some (.cells (enR j t) 24) := heap_alloc_new _ _
      have HB5 : Hid (Below w.heap.size w (W5.alloc (.cells (enR j t) 24))) := bel_al (below_next HBT.out hb) _
      clear hb hrT HBT HX
      go_wp2_with (first | (with_reducible refine isStoreR 24 ?_; refine wpList_stNew 24 rfl _ _ rfl W5.heap.size (enR j t) #[.int .u16 0, .string ⟨#[]⟩] 24 (enR_info _ _) (enR_two _ _) (enR_one _ _) rfl rfl rfl ?_) | (with_reducible refine isLoadR 24 ?_; refine wpList_ldR 24 Try.underlying24 rfl rfl _ rfl W5.heap.size rfl (enR j t) 24 (0, 0) (enR_info _ _) hx5 ?_) | (go_at_call 8; fail))
      refine (hE _).mono ?_
      rintro e W6 ⟨rfl, hb⟩
      have hr6 := heap_kept (heap_kept hr5 hb) (below_new W6 (.cells (rowN .u8 f 16) 26))
      have hx6 : (W6.alloc (.cells (rowN .u8 f 16) 26)).heap[W6.heap.size]? = some (.cells (rowN .u8 f 16) 26) := heap_alloc_new _ _
      have HB6 : Hid (Below w.heap.size w (W6.alloc (.cells (rowN .u8 f 16) 26))) := bel_al (below_next HB5.out hb) _
      clear hb hr5 hx5 HB5
      go_wp2_with (first | (with_reducible refine isStoreR 26 ?_; refine wpList_stNew 26 rfl _ _ rfl W6.heap.size (rowN .u8 f 16) (rowN .u8 nought 16) 26 (by rw [rowN_size]; exact sizeBy) (by rw [rowN_size, rowN_size]) (rowN_one _ _ _) rfl rfl rfl ?_) | (with_reducible refine isLoadR 26 ?_; refine wpList_ldR 26 Try.underlying26 rfl rfl _ rfl W6.heap.size rfl (rowN .u8 f 16) 26 (0, 0) (by rw [rowN_size]; exact sizeBy) hx6 ?_) | (with_reducible refine isLoadR 25 ?_; refine wpList_ldR 25 Try.underlying25 rfl rfl _ rfl (w.heap.size + 1) rfl (rowN .u8 f 16) 25 (0, 0) (by rw [rowN_size]; exact size204) hr6 ?_) | (with_reducible refine isEqR 25 25 ?_; refine wpList_eqN Try.underlying25 (by kernel_rfl) rfl _ _ rfl f f true rfl rfl hF ?_) | (go_at_call 12; fail))
      refine (ha.out _).mono ?_
      rintro e W7 ⟨rfl, hb⟩
      have HB7 : Hid _ := below_next HB6.out hb
      clear hb
      go_wp2
      go_ret
      exact ⟨rfl, HB7.out⟩
    · refine (hd _).mono ?_
      rintro e W5 ⟨rfl, hb⟩
      have hr5 := heap_kept (heap_kept hrT hb) (below_new W5 (.cells (enR 0 ⟨#[]⟩) 24))
      have hx5 : (W5.alloc (.cells (enR 0 ⟨#[]⟩) 24)).heap[W5.heap.size]? = some (.cells (enR 0 ⟨#[]⟩) 24) := heap_alloc_new _ _
      have HB5 : Hid (Below w.heap.size w (W5.alloc (.cells (enR 0 ⟨#[]⟩) 24))) := bel_al (below_next HBT.out hb) _
      clear hb hrT HBT HX
      go_wp2_with (first | (with_reducible refine isStoreR 24 ?_; refine wpList_stNew 24 rfl _ _ rfl W5.heap.size (enR 0 ⟨#[]⟩) #[.int .u16 0, .string ⟨#[]⟩] 24 (enR_info _ _) (enR_two _ _) (enR_one _ _) rfl rfl rfl ?_) | (with_reducible refine isLoadR 24 ?_; refine wpList_ldR 24 Try.underlying24 rfl rfl _ rfl W5.heap.size rfl (enR 0 ⟨#[]⟩) 24 (0, 0) (enR_info _ _) hx5 ?_) | ((with_reducible refine isEqR 24 24 ?_); refine wpList_exec rfl (exec_eqE rfl rfl rfl hO) ?_) | (go_at_call 12; fail))
      refine (ha.out _).mono ?_
      rintro e W7 ⟨rfl, hb⟩
      have HB7 : Hid _ := below_next HB5.out hb
      clear hb
      go_wp2
      go_ret
      exact ⟨rfl, HB7.out⟩
end Go.Proofs.Ytadiajcllfahiaa
