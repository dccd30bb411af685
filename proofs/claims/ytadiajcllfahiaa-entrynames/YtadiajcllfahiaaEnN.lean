/- EntryNames: the limits, the errors, the examples. -/
import Derived.Test.YtadiajcllfahiaaEn8
namespace Go.Proofs.Ytadiajcllfahiaa
open Go.RowKit Go.Maps
theorem exec_b0 {o : Oper} {a : Act} {W : World} (ho : o.op = .build 26 #[(0, .const (.int .u8 2)), (1, .const (.int .u8 0)), (2, .const (.int .u8 97)), (3, .const (.int .u8 0)), (4, .const (.int .u8 98))]) : (execOp a.eval o).run Try.prog W = .ok (.value (.agg (rowN .u8 (fst16 [2, 0, 97, 0, 98]) 16))) W := by
  have z := zeroBy W
  have hs := rowN_size .u8 nought 16
  have hn : ¬ rowN .u8 nought 16 = #[] := fun h => by rw [h] at hs; cases hs
  have e : (((((rowN .u8 nought 16).setIfInBounds 0 (.int .u8 2)).setIfInBounds 1 (.int .u8 0)).setIfInBounds 2 (.int .u8 97)).setIfInBounds 3 (.int .u8 0)).setIfInBounds 4 (.int .u8 98) = rowN .u8 (fst16 [2, 0, 97, 0, 98]) 16 := by rfl
  generalize rowN .u8 (fst16 [2, 0, 97, 0, 98]) 16 = G at *
  generalize rowN .u8 nought 16 = Z at *
  unfold execOp
  simp only [ho]
  simp [go_sem, z, Act.eval, hs, hn, e]
theorem dec_no0 (W : World) : Calls Try.prog 13 #[.agg (rowN .u8 (fst16 [2, 0, 97, 0, 98]) 16)] W fun e w' => e = .returned (.tuple #[.agg (enR 0 ⟨#[]⟩), .int .i64 4]) ∧ Below W.heap.size W w' := by
  have h := dec_any W (fst16 [2, 0, 97, 0, 98]) (fun j hj => by
    have : ∀ j, j < 16 → 0 ≤ (fst16 [2, 0, 97, 0, 98]) j ∧ (fst16 [2, 0, 97, 0, 98]) j ≤ 255 := by decide
    exact this j hj)
  have e : dcOk (fst16 [2, 0, 97, 0, 98]) = false := by decide
  unfold decR decE at h
  rwa [e] at h
theorem exec_b1 {o : Oper} {a : Act} {W : World} (ho : o.op = .build 26 #[(0, .const (.int .u8 0)), (1, .const (.int .u8 0)), (2, .const (.int .u8 97))]) : (execOp a.eval o).run Try.prog W = .ok (.value (.agg (rowN .u8 (fst16 [0, 0, 97]) 16))) W := by
  have z := zeroBy W
  have hs := rowN_size .u8 nought 16
  have hn : ¬ rowN .u8 nought 16 = #[] := fun h => by rw [h] at hs; cases hs
  have e : (((rowN .u8 nought 16).setIfInBounds 0 (.int .u8 0)).setIfInBounds 1 (.int .u8 0)).setIfInBounds 2 (.int .u8 97) = rowN .u8 (fst16 [0, 0, 97]) 16 := by rfl
  generalize rowN .u8 (fst16 [0, 0, 97]) 16 = G at *
  generalize rowN .u8 nought 16 = Z at *
  unfold execOp
  simp only [ho]
  simp [go_sem, z, Act.eval, hs, hn, e]
theorem dec_no1 (W : World) : Calls Try.prog 13 #[.agg (rowN .u8 (fst16 [0, 0, 97]) 16)] W fun e w' => e = .returned (.tuple #[.agg (enR 0 ⟨#[]⟩), .int .i64 4]) ∧ Below W.heap.size W w' := by
  have h := dec_any W (fst16 [0, 0, 97]) (fun j hj => by
    have : ∀ j, j < 16 → 0 ≤ (fst16 [0, 0, 97]) j ∧ (fst16 [0, 0, 97]) j ≤ 255 := by decide
    exact this j hj)
  have e : dcOk (fst16 [0, 0, 97]) = false := by decide
  unfold decR decE at h
  rwa [e] at h
theorem exec_b2 {o : Oper} {a : Act} {W : World} (ho : o.op = .build 26 #[(0, .const (.int .u8 5))]) : (execOp a.eval o).run Try.prog W = .ok (.value (.agg (rowN .u8 (fst16 [5]) 16))) W := by
  have z := zeroBy W
  have hs := rowN_size .u8 nought 16
  have hn : ¬ rowN .u8 nought 16 = #[] := fun h => by rw [h] at hs; cases hs
  have e : (rowN .u8 nought 16).setIfInBounds 0 (.int .u8 5) = rowN .u8 (fst16 [5]) 16 := by rfl
  generalize rowN .u8 (fst16 [5]) 16 = G at *
  generalize rowN .u8 nought 16 = Z at *
  unfold execOp
  simp only [ho]
  simp [go_sem, z, Act.eval, hn, e]
theorem dec_no2 (W : World) : Calls Try.prog 13 #[.agg (rowN .u8 (fst16 [5]) 16)] W fun e w' => e = .returned (.tuple #[.agg (enR 0 ⟨#[]⟩), .int .i64 4]) ∧ Below W.heap.size W w' := by
  have h := dec_any W (fst16 [5]) (fun j hj => by
    have : ∀ j, j < 16 → 0 ≤ (fst16 [5]) j ∧ (fst16 [5]) j ≤ 255 := by decide
    exact this j hj)
  have e : dcOk (fst16 [5]) = false := by decide
  unfold decR decE at h
  rwa [e] at h
theorem enc_free (W : World) : Calls Try.prog 8 #[.agg #[.int .u16 0, .string ⟨#[]⟩]] W fun e w' => e = .returned (.tuple #[.agg (rowN .u8 nought 16), .int .i64 0]) ∧ Below W.heap.size W w' := by
  have h := enc_ok W 0 (by omega) ⟨#[]⟩ (by decide) rfl
  rwa [encP_free] at h
theorem enc_x (W : World) : Calls Try.prog 8 #[.agg #[.int .u16 0, .string ⟨#[120]⟩]] W fun e w' => e = .returned (.tuple #[.agg (rowN .u8 nought 16), .int .i64 4]) ∧ Below W.heap.size W w' := enc_bad W 0 (by omega) ⟨#[120]⟩ (by decide) (by decide)
theorem enc_3 (W : World) : Calls Try.prog 8 #[.agg #[.int .u16 3, .string ⟨#[]⟩]] W fun e w' => e = .returned (.tuple #[.agg (rowN .u8 nought 16), .int .i64 4]) ∧ Below W.heap.size W w' := enc_bad W 3 (by omega) ⟨#[]⟩ (by decide) (by decide)
theorem nm_is0 (W : World) : Calls Try.prog 10 #[.string ⟨#[97, 98, 99, 100, 101, 102, 103, 104, 105, 106, 107, 108, 109, 110]⟩] W fun e w' => e = .returned (.int .i64 0) ∧ w' = W := by
  have h := name_any ⟨#[97, 98, 99, 100, 101, 102, 103, 104, 105, 106, 107, 108, 109, 110]⟩ W (by decide)
  have e : nmV ⟨#[97, 98, 99, 100, 101, 102, 103, 104, 105, 106, 107, 108, 109, 110]⟩ = 0 := by decide
  rwa [e] at h
theorem nm_is1 (W : World) : Calls Try.prog 10 #[.string ⟨#[97, 98, 99, 100, 101, 102, 103, 104, 105, 106, 107, 108, 109, 110, 111]⟩] W fun e w' => e = .returned (.int .i64 12) ∧ w' = W := by
  have h := name_any ⟨#[97, 98, 99, 100, 101, 102, 103, 104, 105, 106, 107, 108, 109, 110, 111]⟩ W (by decide)
  have e : nmV ⟨#[97, 98, 99, 100, 101, 102, 103, 104, 105, 106, 107, 108, 109, 110, 111]⟩ = 12 := by decide
  rwa [e] at h
theorem nm_is2 (W : World) : Calls Try.prog 10 #[.string ⟨#[47, 47, 47, 47, 47, 47, 47, 47, 47, 47, 47, 47, 47, 47, 47]⟩] W fun e w' => e = .returned (.int .i64 4) ∧ w' = W := by
  have h := name_any ⟨#[47, 47, 47, 47, 47, 47, 47, 47, 47, 47, 47, 47, 47, 47, 47]⟩ W (by decide)
  have e : nmV ⟨#[47, 47, 47, 47, 47, 47, 47, 47, 47, 47, 47, 47, 47, 47, 47]⟩ = 4 := by decide
  rwa [e] at h
theorem nm_is3 (W : World) : Calls Try.prog 10 #[.string ⟨#[]⟩] W fun e w' => e = .returned (.int .i64 4) ∧ w' = W := by
  have h := name_any ⟨#[]⟩ W (by decide)
  have e : nmV ⟨#[]⟩ = 4 := by decide
  rwa [e] at h
theorem nm_is4 (W : World) : Calls Try.prog 10 #[.string ⟨#[46, 46]⟩] W fun e w' => e = .returned (.int .i64 0) ∧ w' = W := by
  have h := name_any ⟨#[46, 46]⟩ W (by decide)
  have e : nmV ⟨#[46, 46]⟩ = 0 := by decide
  rwa [e] at h
set_option maxRecDepth 20000 in
set_option maxHeartbeats 4000000 in
theorem names_walk (w : World) : Calls Try.prog 5 #[] w fun e w' => e = .returned (.bool true) ∧ Below w.heap.size w w' := by
  have ha : Hid _ := fun W => awake_any W
  have hN := sameN_self 16 nought
  have z := zeroEn
  have zb := zeroBy
  go_enter Try.func5, Try.ntmps5
  go_wp2_with (first | (go_at_call 8; fail))
  refine (enc_free _).mono ?_
  rintro e W0 ⟨rfl, hb⟩
  have hx0 : (W0.alloc (.cells (rowN .u8 nought 16) 26)).heap[W0.heap.size]? = some (.cells (rowN .u8 nought 16) 26) := heap_alloc_new _ _
  have HB0 : Hid (Below w.heap.size w (W0.alloc (.cells (rowN .u8 nought 16) 26))) := bel_al hb _
  clear hb
  go_wp2_with (first | (with_reducible refine isStoreR 26 ?_; refine wpList_stNew 26 rfl _ _ rfl W0.heap.size (rowN .u8 nought 16) (rowN .u8 nought 16) 26 (by rw [rowN_size]; exact sizeBy) rfl (rowN_one _ _ _) rfl rfl rfl ?_) | (go_at_call 8; fail))
  refine (enc_x _).mono ?_
  rintro e W1 ⟨rfl, hb⟩
  have hx1 := heap_kept (heap_kept hx0 hb) (below_new W1 (.cells (rowN .u8 nought 16) 26))
  have HB1 : Hid (Below w.heap.size w (W1.alloc (.cells (rowN .u8 nought 16) 26))) := bel_al (below_next HB0.out hb) _
  clear hb hx0 HB0
  go_wp2_with (first | (with_reducible refine isStoreR 26 ?_; refine wpList_stNew 26 rfl _ _ rfl W1.heap.size (rowN .u8 nought 16) (rowN .u8 nought 16) 26 (by rw [rowN_size]; exact sizeBy) rfl (rowN_one _ _ _) rfl rfl rfl ?_) | (go_at_call 8; fail))
  refine (enc_3 _).mono ?_
  rintro e W2 ⟨rfl, hb⟩
  have hx2 := heap_kept (heap_kept hx1 hb) (below_new W2 (.cells (rowN .u8 nought 16) 26))
  have HB2 : Hid (Below w.heap.size w (W2.alloc (.cells (rowN .u8 nought 16) 26))) := bel_al (below_next HB1.out hb) _
  clear hb hx1 HB1
  go_wp2_with (first | (with_reducible refine isStoreR 26 ?_; refine wpList_stNew 26 rfl _ _ rfl W2.heap.size (rowN .u8 nought 16) (rowN .u8 nought 16) 26 (by rw [rowN_size]; exact sizeBy) rfl (rowN_one _ _ _) rfl rfl rfl ?_) | (with_reducible refine isBuildR 26 ?_; refine wpList_exec rfl (exec_b0 rfl) ?_) | (go_at_call 13; fail))
  refine (dec_no0 _).mono ?_
  rintro e W3 ⟨rfl, hb⟩
  have hx3 := heap_kept (heap_kept hx2 hb) (below_new W3 (.cells (enR 0 ⟨#[]⟩) 24))
  have HB3 : Hid (Below w.heap.size w (W3.alloc (.cells (enR 0 ⟨#[]⟩) 24))) := bel_al (below_next HB2.out hb) _
  clear hb hx2 HB2
  go_wp2_with (first | (with_reducible refine isStoreR 24 ?_; refine wpList_stNew 24 rfl _ _ rfl W3.heap.size (enR 0 ⟨#[]⟩) #[.int .u16 0, .string ⟨#[]⟩] 24 (enR_info _ _) (enR_two _ _) (enR_one _ _) rfl rfl rfl ?_) | (with_reducible refine isBuildR 26 ?_; refine wpList_exec rfl (exec_b1 rfl) ?_) | (go_at_call 13; fail))
  refine (dec_no1 _).mono ?_
  rintro e W4 ⟨rfl, hb⟩
  have hx4 := heap_kept (heap_kept hx3 hb) (below_new W4 (.cells (enR 0 ⟨#[]⟩) 24))
  have HB4 : Hid (Below w.heap.size w (W4.alloc (.cells (enR 0 ⟨#[]⟩) 24))) := bel_al (below_next HB3.out hb) _
  clear hb hx3 HB3
  go_wp2_with (first | (with_reducible refine isStoreR 24 ?_; refine wpList_stNew 24 rfl _ _ rfl W4.heap.size (enR 0 ⟨#[]⟩) #[.int .u16 0, .string ⟨#[]⟩] 24 (enR_info _ _) (enR_two _ _) (enR_one _ _) rfl rfl rfl ?_) | (with_reducible refine isBuildR 26 ?_; refine wpList_exec rfl (exec_b2 rfl) ?_) | (go_at_call 13; fail))
  refine (dec_no2 _).mono ?_
  rintro e W5 ⟨rfl, hb⟩
  have hx5 := heap_kept (heap_kept hx4 hb) (below_new W5 (.cells (enR 0 ⟨#[]⟩) 24))
  have HB5 : Hid (Below w.heap.size w (W5.alloc (.cells (enR 0 ⟨#[]⟩) 24))) := bel_al (below_next HB4.out hb) _
  clear hb hx4 HB4
  go_wp2_with (first | (with_reducible refine isStoreR 24 ?_; refine wpList_stNew 24 rfl _ _ rfl W5.heap.size (enR 0 ⟨#[]⟩) #[.int .u16 0, .string ⟨#[]⟩] 24 (enR_info _ _) (enR_two _ _) (enR_one _ _) rfl rfl rfl ?_) | (with_reducible refine isLoadR 26 ?_; refine wpList_ldR 26 Try.underlying26 rfl rfl _ rfl W0.heap.size rfl (rowN .u8 nought 16) 26 (0, 0) (by rw [rowN_size]; exact sizeBy) hx5 ?_) | (with_reducible refine isEqR 26 26 ?_; refine wpList_neN Try.underlying26 (by kernel_rfl) rfl _ _ rfl nought nought true rfl rfl hN ?_) | (go_at_call 10; fail))
  refine (nm_is0 _).mono ?_
  rintro e V0 ⟨rfl, rfl⟩
  go_wp2_with (first | (go_at_call 10; fail))
  refine (nm_is1 _).mono ?_
  rintro e V1 ⟨rfl, rfl⟩
  go_wp2_with (first | (go_at_call 10; fail))
  refine (nm_is2 _).mono ?_
  rintro e V2 ⟨rfl, rfl⟩
  go_wp2_with (first | (go_at_call 10; fail))
  refine (nm_is3 _).mono ?_
  rintro e V3 ⟨rfl, rfl⟩
  go_wp2_with (first | (go_at_call 10; fail))
  refine (nm_is4 _).mono ?_
  rintro e V4 ⟨rfl, rfl⟩
  go_wp2_with (first | (go_at_call 12; fail))
  refine (ha.out _).mono ?_
  rintro e W7 ⟨rfl, hb⟩
  have HB7 : Hid _ := below_next HB5.out hb
  clear hb
  go_wp2
  go_ret
  exact ⟨rfl, HB7.out⟩
end Go.Proofs.Ytadiajcllfahiaa
