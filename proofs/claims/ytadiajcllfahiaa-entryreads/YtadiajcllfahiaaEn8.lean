/- The laws' own awake. -/
import Derived.Test.YtadiajcllfahiaaEn7
namespace Go.Proofs.Ytadiajcllfahiaa
open Go.RowKit Go.Maps
theorem enR_info (i : Int) (s : ByteArray) : (Try.prog.info? 24).map (·.size) = some (enR i s).size := sizeEn
theorem enR_two (i : Int) (s : ByteArray) : (#[Value.int .u16 0, .string ⟨#[]⟩] : Array Value).size = (enR i s).size := rfl
section
variable {o : Oper} {a : Act} {W : World}
theorem exec_bab (ho : o.op = .build 26 #[(0, .const (.int .u8 2)), (1, .const (.int .u8 1)), (2, .const (.int .u8 97)), (3, .const (.int .u8 98))]) : (execOp a.eval o).run Try.prog W = .ok (.value (.agg (rowN .u8 (fst16 [2, 1, 97, 98]) 16))) W := by
  have z := zeroBy W
  have hs := rowN_size .u8 nought 16
  have hn : ¬ rowN .u8 nought 16 = #[] := fun h => by rw [h] at hs; cases hs
  have e : ((((rowN .u8 nought 16).setIfInBounds 0 (.int .u8 2)).setIfInBounds 1 (.int .u8 1)).setIfInBounds 2 (.int .u8 97)).setIfInBounds 3 (.int .u8 98) = rowN .u8 (fst16 [2, 1, 97, 98]) 16 := by rfl
  generalize rowN .u8 (fst16 [2, 1, 97, 98]) 16 = G at *
  generalize rowN .u8 nought 16 = Z at *
  unfold execOp
  simp only [ho]
  simp [go_sem, z, Act.eval, hs, hn, e]
end
set_option maxRecDepth 20000 in
set_option maxHeartbeats 2000000 in
theorem awake_any (w : World) : Calls Try.prog 12 #[] w fun e w' => e = .returned (.bool true) ∧ Below w.heap.size w w' := by
  have ha : Hid _ := fun W => ab_any W
  have he : Hid (∀ W : World, Calls Try.prog 8 #[.agg (enR 258 ⟨#[97, 98]⟩)] W fun e w' => e = .returned (.tuple #[.agg (rowN .u8 (encP 258 ⟨#[97, 98]⟩) 16), .int .i64 0]) ∧ Below W.heap.size W w') := fun W => enc_ok W 258 (by omega) _ (by decide) chV_ab
  have hd : Hid (∀ W : World, Calls Try.prog 13 #[.agg (rowN .u8 (encP 258 ⟨#[97, 98]⟩) 16)] W fun e w' => e = .returned (.tuple #[.agg (enR 258 ⟨#[97, 98]⟩), .int .i64 0]) ∧ Below W.heap.size W w') := fun W => by
    have h := dec_any W (encP 258 ⟨#[97, 98]⟩) (encP_byt (by omega))
    rwa [dec_ab.1, dec_ab.2] at h
  have HF : Hid (sameN 16 (encP 258 ⟨#[97, 98]⟩) (fst16 [2, 1, 97, 98]) = true) := by show _ = true; decide
  have hS : sameE 258 258 ⟨#[97, 98]⟩ ⟨#[97, 98]⟩ = true := sameE_self _ _
  generalize encP 258 ⟨#[97, 98]⟩ = F at *
  have z := zeroEn
  have zb := zeroBy
  go_enter Try.func12, Try.ntmps12
  go_wp2_with (first | (go_at_call 19; fail))
  refine (ha.out _).mono ?_
  rintro e W0 ⟨rfl, hb0⟩
  have HB0 : Hid _ := hb0
  clear hb0
  go_wp2_with (first | (go_at_call 8; fail))
  refine (he.out _).mono ?_
  rintro e W1 ⟨rfl, hb⟩
  have HB1 : Hid (Below w.heap.size w (W1.alloc (.cells (rowN .u8 F 16) 26))) := bel_al (below_next HB0.out hb) _
  have hb1 : (W1.alloc (.cells (rowN .u8 F 16) 26)).heap[W1.heap.size]? = some (.cells (rowN .u8 F 16) 26) := heap_alloc_new _ _
  clear hb HB0
  go_wp2_with (first | (with_reducible refine isStoreR 26 ?_; refine wpList_stNew 26 rfl _ _ rfl W1.heap.size (rowN .u8 F 16) (rowN .u8 nought 16) 26 (by rw [rowN_size]; exact sizeBy) (by rw [rowN_size, rowN_size]) (rowN_one _ _ _) rfl rfl rfl ?_) | (with_reducible refine isLoadR 26 ?_; refine wpList_ldR 26 Try.underlying26 rfl rfl _ rfl W1.heap.size rfl (rowN .u8 F 16) 26 (0, 0) (by rw [rowN_size]; exact sizeBy) hb1 ?_) | (go_at_call 13; fail))
  refine (hd.out _).mono ?_
  rintro e W2 ⟨rfl, hb⟩
  have HB2 : Hid (Below w.heap.size w (W2.alloc (.cells (enR 258 ⟨#[97, 98]⟩) 24))) := bel_al (below_next HB1.out hb) _
  have hb2 : (W2.alloc (.cells (enR 258 ⟨#[97, 98]⟩) 24)).heap[W1.heap.size]? = some (.cells (rowN .u8 F 16) 26) := heap_kept (heap_kept hb1 hb) (below_new _ _)
  have hx2 : (W2.alloc (.cells (enR 258 ⟨#[97, 98]⟩) 24)).heap[W2.heap.size]? = some (.cells (enR 258 ⟨#[97, 98]⟩) 24) := heap_alloc_new _ _
  clear hb hb1 HB1
  go_wp2_with (first | (with_reducible refine isStoreR 24 ?_; refine wpList_stNew 24 rfl _ _ rfl W2.heap.size (enR 258 ⟨#[97, 98]⟩) #[.int .u16 0, .string ⟨#[]⟩] 24 (enR_info _ _) (enR_two _ _) (enR_one _ _) rfl rfl rfl ?_))
  refine wp_region_ord (S := fun u => u.heap[W1.heap.size]? = some (.cells (rowN .u8 F 16) 26) ∧ u.heap[W2.heap.size]? = some (.cells (enR 258 ⟨#[97, 98]⟩) 24)) [(0, true), (1, true), (2, true), (3, true), (4, true), (5, true), (6, true), (7, true), (8, true), (9, true), (10, true), (11, true), (12, true), (13, false), (14, true), (15, true), (16, true)] (by kernel_rfl) rfl (by kernel_rfl) (fun d _ _ _ _ h => by cases d <;> exact h) ⟨hb2, hx2⟩ ?_
  simp only [inOrd, List.getElem?_cons_zero, List.getElem?_cons_succ]
  refine wpOrd_yield (v := .int .i64 0) rfl (fun u _ => exec_mv rfl rfl) ?_
  simp only [Act.put, List.setIfInBounds_toArray, List.set_cons_succ, List.set_cons_zero]
  refine wpOrd_yield (v := .bool true) rfl (fun u _ => by go_simp) ?_
  simp only [Act.put, List.setIfInBounds_toArray, List.set_cons_succ, List.set_cons_zero]
  refine wpOrd_yield (v := .bool true) rfl (fun u _ => exec_mv rfl rfl) ?_
  simp only [Act.put, List.setIfInBounds_toArray, List.set_cons_succ, List.set_cons_zero]
  refine wpOrd_yield (v := .int .i64 0) rfl (fun u _ => exec_mv rfl rfl) ?_
  simp only [Act.put, List.setIfInBounds_toArray, List.set_cons_succ, List.set_cons_zero]
  refine wpOrd_yield (v := .bool true) rfl (fun u _ => by go_simp) ?_
  simp only [Act.put, List.setIfInBounds_toArray, List.set_cons_succ, List.set_cons_zero]
  refine wpOrd_yield (v := .bool true) rfl (fun u _ => by go_simp) ?_
  simp only [Act.put, List.setIfInBounds_toArray, List.set_cons_succ, List.set_cons_zero]
  refine wpOrd_yield (v := .bool true) rfl (fun u _ => exec_mv rfl rfl) ?_
  simp only [Act.put, List.setIfInBounds_toArray, List.set_cons_succ, List.set_cons_zero]
  refine wpOrd_yield (v := .agg (rowN .u8 F 16)) rfl (fun u hu => exec_ldN Try.underlying26 sizeBy rfl rfl hu.1) ?_
  simp only [Act.put, List.setIfInBounds_toArray, List.set_cons_succ, List.set_cons_zero]
  refine wpOrd_yield (v := .agg (rowN .u8 (fst16 [2, 1, 97, 98]) 16)) rfl (fun u _ => exec_bab rfl) ?_
  simp only [Act.put, List.setIfInBounds_toArray, List.set_cons_succ, List.set_cons_zero]
  refine wpOrd_yield (v := .bool true) rfl (fun u _ => exec_eqN Try.underlying26 (by kernel_rfl) _ _ rfl F _ true rfl rfl HF.out) ?_
  simp only [Act.put, List.setIfInBounds_toArray, List.set_cons_succ, List.set_cons_zero]
  refine wpOrd_yield (v := .bool true) rfl (fun u _ => by go_simp) ?_
  simp only [Act.put, List.setIfInBounds_toArray, List.set_cons_succ, List.set_cons_zero]
  refine wpOrd_yield (v := .bool true) rfl (fun u _ => exec_mv rfl rfl) ?_
  simp only [Act.put, List.setIfInBounds_toArray, List.set_cons_succ, List.set_cons_zero]
  refine wpOrd_yield (v := .agg (enR 258 ⟨#[97, 98]⟩)) rfl (fun u hu => exec_ldE rfl rfl hu.2) ?_
  simp only [Act.put, List.setIfInBounds_toArray, List.set_cons_succ, List.set_cons_zero]
  refine wpOrd_call rfl 19 _ _ rfl Try.call19 [] rfl ?_
  refine (ha.out _).mono ?_
  rintro e Y ⟨rfl, hb⟩
  have HB3 : Hid (Below w.heap.size w Y) := below_next HB2.out.drew hb
  refine ⟨_, rfl, ⟨heap_kept (w := (W2.alloc (.cells (enR 258 ⟨#[97, 98]⟩) 24)).drew) hb2 hb, heap_kept (w := (W2.alloc (.cells (enR 258 ⟨#[97, 98]⟩) 24)).drew) hx2 hb⟩, ?_⟩
  simp only [Act.put, List.setIfInBounds_toArray, List.set_cons_succ, List.set_cons_zero]
  clear hb hb2 hx2 HB2
  refine wpOrd_yield (v := .bool true) rfl (fun u _ => exec_eqE rfl rfl rfl hS) ?_
  simp only [Act.put, List.setIfInBounds_toArray, List.set_cons_succ, List.set_cons_zero]
  refine wpOrd_yield (v := .bool true) rfl (fun u _ => by go_simp) ?_
  simp only [Act.put, List.setIfInBounds_toArray, List.set_cons_succ, List.set_cons_zero]
  refine wpOrd_yield (v := .bool true) rfl (fun u _ => by go_simp) ?_
  simp only [Act.put, List.setIfInBounds_toArray, List.set_cons_zero]
  refine wpOrd_nil ?_
  go_wp2
  go_ret
  exact ⟨rfl, HB3.out⟩
end Go.Proofs.Ytadiajcllfahiaa
