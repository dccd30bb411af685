/- EntryWrites: of every entry its bytes, or the error; of every text whether it may be a name. -/
import Derived.Test.YtadiajcllfahiaaEn8
namespace Go.Proofs.Ytadiajcllfahiaa
open Go.RowKit Go.Maps
theorem exec_ldF {o : Oper} {a : Act} {W : World} {x : Operand} {g : Nat} {i : Int} {s : ByteArray} (ho : o.op = .load 9 x) (hx : a.eval x = .pointer (some ⟨g, 1, none⟩)) (hg : W.heap[g]? = some (.cells (enR i s) 24)) : (execOp a.eval o).run Try.prog W = .ok (.value (.string s)) W := by
  have c1 : W.cell? ⟨g, 1, none⟩ = some (.string s) := Joins.cell_of_block hg 1
  unfold execOp
  simp only [ho, hx]
  simp [go_sem, c1]
set_option maxRecDepth 20000 in
set_option maxHeartbeats 2000000 in
theorem writes_walk (w : World) (i : Int) (s t : ByteArray) (hi : 0 ≤ i ∧ i < 65536) (hs : s.size ≤ 9223372036854775807) (ht : t.size ≤ 9223372036854775807) : Calls Try.prog 3 #[.agg #[.int .u16 i, .string s], .string t] w fun e w' => e = .returned (.bool true) ∧ Below w.heap.size w w' := by
  have hd : Hid (∀ W : World, Calls Try.prog 8 #[.agg (enR i s)] W fun e w' => e = .returned (.tuple #[.agg (rowN .u8 (encF i s) 16), .int .i64 (chV i s)]) ∧ Below W.heap.size W w') := fun W => enc_any W i hi s hs
  have hr : Hid (∀ W : World, Calls Try.prog 9 #[.agg (enR i s)] W fun e w' => e = .returned (.tuple #[.agg (rowN .u8 (encF i s) 16), .int .i64 (chV i s)]) ∧ Below W.heap.size W w') := fun W => refEnc_any W i hi s hs
  have n1 : Hid _ := fun W => name_any t W ht
  have n2 : Hid _ := fun W => refName_any t W ht
  have n3 : Hid _ := fun W => name_any s W hs
  have n4 : Hid _ := fun W => refName_any s W hs
  have ha : Hid _ := fun W => awake_any W
  clear hs ht hi
  generalize encF i s = F at *
  generalize chV i s = q at *
  generalize nmV s = x at *
  generalize nmV t = y at *
  have zb := zeroBy
  have z2 := zero204
  have hent : (w.alloc (.cells #[.int .u16 i, .string s] 24)).heap[w.heap.size]? = some (.cells (enR i s) 24) := heap_alloc_new _ _
  go_enter Try.func3, Try.ntmps3
  go_wp2_with (first | (with_reducible refine isLoadR 24 ?_; refine wpList_ldR 24 Try.underlying24 rfl rfl _ rfl w.heap.size rfl (enR i s) 24 (0, 0) (enR_info _ _) hent ?_) | (go_at_call 8; fail))
  refine (hd.out _).mono ?_
  rintro e W1 ⟨rfl, hb⟩
  have he1 := heap_kept (heap_kept hent hb) (below_new W1 (.cells (rowN .u8 F 16) 26))
  have hx1 : (W1.alloc (.cells (rowN .u8 F 16) 26)).heap[W1.heap.size]? = some (.cells (rowN .u8 F 16) 26) := heap_alloc_new _ _
  have HB1 : Hid (Below w.heap.size w (W1.alloc (.cells (rowN .u8 F 16) 26))) := bel_al (below_next (below_new _ _) hb) _
  clear hb hent hd
  go_wp2_with (first | (with_reducible refine isStoreR 26 ?_; refine wpList_stNew 26 rfl _ _ rfl W1.heap.size (rowN .u8 F 16) (rowN .u8 nought 16) 26 (by rw [rowN_size]; exact sizeBy) (by rw [rowN_size, rowN_size]) (rowN_one _ _ _) rfl rfl rfl ?_) | (with_reducible refine isLoadR 24 ?_; refine wpList_ldR 24 Try.underlying24 rfl rfl _ rfl w.heap.size rfl (enR i s) 24 (0, 0) (enR_info _ _) he1 ?_) | (go_at_call 9; fail))
  refine (hr.out _).mono ?_
  rintro e W2 ⟨rfl, hb⟩
  have he2 := heap_kept (heap_kept he1 hb) (below_new W2 (.cells (rowN .u8 F 16) 25))
  have hx2 := heap_kept (heap_kept hx1 hb) (below_new W2 (.cells (rowN .u8 F 16) 25))
  have hy2 : (W2.alloc (.cells (rowN .u8 F 16) 25)).heap[W2.heap.size]? = some (.cells (rowN .u8 F 16) 25) := heap_alloc_new _ _
  have HB2 : Hid (Below w.heap.size w (W2.alloc (.cells (rowN .u8 F 16) 25)).drew) := (bel_al (below_next HB1.out hb) _).drew
  clear hb he1 hx1 HB1 hr
  go_wp2_with (first | (with_reducible refine isStoreR 25 ?_; refine wpList_stNew 25 rfl _ _ rfl W2.heap.size (rowN .u8 F 16) (rowN .u8 nought 16) 25 (by rw [rowN_size]; exact size204) (by rw [rowN_size, rowN_size]) (rowN_one _ _ _) rfl rfl rfl ?_))
  refine wp_region_ord (S := fun u => u.heap[w.heap.size]? = some (.cells (enR i s) 24) ∧ u.heap[W1.heap.size]? = some (.cells (rowN .u8 F 16) 26) ∧ u.heap[W2.heap.size]? = some (.cells (rowN .u8 F 16) 25)) [(0, true), (1, true), (2, true), (3, true), (4, true), (5, true), (6, true), (7, true), (8, true), (9, true), (11, true), (10, false), (12, false), (13, true), (14, true), (15, true), (16, true), (17, true), (19, true), (20, true), (18, false), (21, false), (22, true), (23, true), (24, true), (25, false), (26, true), (27, true)] (by kernel_rfl) rfl (by kernel_rfl) (fun d _ _ _ _ h => by cases d <;> exact h) ⟨he2, hx2, hy2⟩ ?_
  have HS : Hid ((W2.alloc (.cells (rowN .u8 F 16) 25)).drew.heap[w.heap.size]? = some (.cells (enR i s) 24) ∧ (W2.alloc (.cells (rowN .u8 F 16) 25)).drew.heap[W1.heap.size]? = some (.cells (rowN .u8 F 16) 26) ∧ (W2.alloc (.cells (rowN .u8 F 16) 25)).drew.heap[W2.heap.size]? = some (.cells (rowN .u8 F 16) 25)) := ⟨he2, hx2, hy2⟩
  clear he2 hx2 hy2
  generalize (W2.alloc (.cells (rowN .u8 F 16) 25)).drew = V at *
  generalize W2.heap.size = g2 at *
  generalize W1.heap.size = g1 at *
  simp only [inOrd, List.getElem?_cons_zero, List.getElem?_cons_succ]
  refine wpOrd_yield (v := .agg (rowN .u8 F 16)) rfl (fun u hu => exec_ldN Try.underlying26 sizeBy rfl rfl hu.2.1) ?_
  simp only [Act.put, List.setIfInBounds_toArray, List.set_cons_succ, List.set_cons_zero]
  refine wpOrd_yield (v := .agg (rowN .u8 F 16)) rfl (fun u hu => exec_ldN Try.underlying25 size204 rfl rfl hu.2.2) ?_
  simp only [Act.put, List.setIfInBounds_toArray, List.set_cons_succ, List.set_cons_zero]
  refine wpOrd_yield (v := .bool true) rfl (fun u _ => exec_eqN Try.underlying25 (by kernel_rfl) _ _ rfl F F true rfl rfl (sameN_self _ _)) ?_
  simp only [Act.put, List.setIfInBounds_toArray, List.set_cons_succ, List.set_cons_zero]
  refine wpOrd_yield (v := .bool true) rfl (fun u _ => exec_mv rfl rfl) ?_
  simp only [Act.put, List.setIfInBounds_toArray, List.set_cons_succ, List.set_cons_zero]
  refine wpOrd_yield (v := .int .i64 q) rfl (fun u _ => exec_mv rfl rfl) ?_
  simp only [Act.put, List.setIfInBounds_toArray, List.set_cons_succ, List.set_cons_zero]
  refine wpOrd_yield (v := .int .i64 q) rfl (fun u _ => exec_mv rfl rfl) ?_
  simp only [Act.put, List.setIfInBounds_toArray, List.set_cons_succ, List.set_cons_zero]
  refine wpOrd_yield (v := .bool true) rfl (fun u _ => by go_simp) ?_
  simp only [Act.put, List.setIfInBounds_toArray, List.set_cons_succ, List.set_cons_zero]
  refine wpOrd_yield (v := .bool true) rfl (fun u _ => by go_simp) ?_
  simp only [Act.put, List.setIfInBounds_toArray, List.set_cons_succ, List.set_cons_zero]
  refine wpOrd_yield (v := .bool true) rfl (fun u _ => exec_mv rfl rfl) ?_
  simp only [Act.put, List.setIfInBounds_toArray, List.set_cons_succ, List.set_cons_zero]
  refine wpOrd_yield (v := .string t) rfl (fun u _ => exec_mv rfl rfl) ?_
  simp only [Act.put, List.setIfInBounds_toArray, List.set_cons_succ, List.set_cons_zero]
  refine wpOrd_yield (v := .string t) rfl (fun u _ => exec_mv rfl rfl) ?_
  simp only [Act.put, List.setIfInBounds_toArray, List.set_cons_succ, List.set_cons_zero]
  refine wpOrd_call rfl 10 _ _ rfl Try.call10 [.string t] rfl ?_
  refine (n1.out _).mono ?_
  rintro e Y ⟨rfl, rfl⟩
  refine ⟨_, rfl, HS.out, ?_⟩
  simp only [Act.put, List.setIfInBounds_toArray, List.set_cons_succ, List.set_cons_zero]
  refine wpOrd_call rfl 11 _ _ rfl Try.call11 [.string t] rfl ?_
  refine (n2.out _).mono ?_
  rintro e Z ⟨rfl, rfl⟩
  refine ⟨_, rfl, HS.out, ?_⟩
  simp only [Act.put, List.setIfInBounds_toArray, List.set_cons_succ, List.set_cons_zero]
  refine wpOrd_yield (v := .bool true) rfl (fun u _ => by go_simp) ?_
  simp only [Act.put, List.setIfInBounds_toArray, List.set_cons_succ, List.set_cons_zero]
  refine wpOrd_yield (v := .bool true) rfl (fun u _ => by go_simp) ?_
  simp only [Act.put, List.setIfInBounds_toArray, List.set_cons_succ, List.set_cons_zero]
  refine wpOrd_yield (v := .bool true) rfl (fun u _ => exec_mv rfl rfl) ?_
  simp only [Act.put, List.setIfInBounds_toArray, List.set_cons_succ, List.set_cons_zero]
  refine wpOrd_yield (v := .pointer (some ⟨w.heap.size, 1, none⟩)) rfl (fun u _ => by go_simp) ?_
  simp only [Act.put, List.setIfInBounds_toArray, List.set_cons_succ, List.set_cons_zero]
  refine wpOrd_yield (v := .string s) rfl (fun u hu => exec_ldF rfl rfl hu.1) ?_
  simp only [Act.put, List.setIfInBounds_toArray, List.set_cons_succ, List.set_cons_zero]
  refine wpOrd_yield (v := .pointer (some ⟨w.heap.size, 1, none⟩)) rfl (fun u _ => by go_simp) ?_
  simp only [Act.put, List.setIfInBounds_toArray, List.set_cons_succ, List.set_cons_zero]
  refine wpOrd_yield (v := .string s) rfl (fun u hu => exec_ldF rfl rfl hu.1) ?_
  simp only [Act.put, List.setIfInBounds_toArray, List.set_cons_succ, List.set_cons_zero]
  refine wpOrd_call rfl 10 _ _ rfl Try.call10 [.string s] rfl ?_
  refine (n3.out _).mono ?_
  rintro e Y ⟨rfl, rfl⟩
  refine ⟨_, rfl, HS.out, ?_⟩
  simp only [Act.put, List.setIfInBounds_toArray, List.set_cons_succ, List.set_cons_zero]
  refine wpOrd_call rfl 11 _ _ rfl Try.call11 [.string s] rfl ?_
  refine (n4.out _).mono ?_
  rintro e Z ⟨rfl, rfl⟩
  refine ⟨_, rfl, HS.out, ?_⟩
  simp only [Act.put, List.setIfInBounds_toArray, List.set_cons_succ, List.set_cons_zero]
  refine wpOrd_yield (v := .bool true) rfl (fun u _ => by go_simp) ?_
  simp only [Act.put, List.setIfInBounds_toArray, List.set_cons_succ, List.set_cons_zero]
  refine wpOrd_yield (v := .bool true) rfl (fun u _ => by go_simp) ?_
  simp only [Act.put, List.setIfInBounds_toArray, List.set_cons_succ, List.set_cons_zero]
  refine wpOrd_yield (v := .bool true) rfl (fun u _ => exec_mv rfl rfl) ?_
  simp only [Act.put, List.setIfInBounds_toArray, List.set_cons_succ, List.set_cons_zero]
  refine wpOrd_call rfl 12 _ _ rfl Try.call12 [] rfl ?_
  refine (ha.out _).mono ?_
  rintro e Z2 ⟨rfl, hb⟩
  refine ⟨_, rfl, ⟨heap_kept HS.out.1 hb, heap_kept HS.out.2.1 hb, heap_kept HS.out.2.2 hb⟩, ?_⟩
  simp only [Act.put, List.setIfInBounds_toArray, List.set_cons_succ, List.set_cons_zero]
  have HB3 : Hid _ := below_next HB2.out hb
  clear hb HB2 HS
  refine wpOrd_yield (v := .bool true) rfl (fun u _ => by go_simp) ?_
  simp only [Act.put, List.setIfInBounds_toArray, List.set_cons_succ, List.set_cons_zero]
  refine wpOrd_yield (v := .bool true) rfl (fun u _ => by go_simp) ?_
  simp only [Act.put, List.setIfInBounds_toArray, List.set_cons_succ, List.set_cons_zero]
  refine wpOrd_nil ?_
  go_wp2
  go_ret
  exact ⟨rfl, HB3.out⟩
end Go.Proofs.Ytadiajcllfahiaa
