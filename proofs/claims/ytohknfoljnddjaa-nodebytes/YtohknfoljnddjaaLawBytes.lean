/- The law NodeBytes walked: true for every number, inode and bytes; no other memory turns. -/
import Derived.Test.YtohknfoljnddjaaAwake
import Derived.Test.YtohknfoljnddjaaRefEnc
import Derived.Test.YtohknfoljnddjaaRefDec
namespace Go.Proofs.Ytohknfoljnddjaa
open Go.RowKit

structure SC (w : World) (g : Nat) (N : Array Value) (F : Nat → Int) (W : World) : Prop where
  rows : W.heap[w.heap.size]? = some (.cells N 27) ∧ W.heap[g]? = some (.cells (rowA F 64) 29)
  bel : Below w.heap.size w W
theorem SC.call {w W W' : World} {g : Nat} {N : Array Value} {F : Nat → Int} (h : SC w g N F W) (hb : Below W.heap.size W W') : SC w g N F W' :=
  ⟨⟨heap_kept h.rows.1 hb, heap_kept h.rows.2 hb⟩, below_next h.bel hb⟩
theorem SC.drew {w W : World} {g : Nat} {N : Array Value} {F : Nat → Int} (h : SC w g N F W) : SC w g N F W.drew := ⟨h.rows, h.bel.drew⟩
theorem firsts_bytes {q : Nat → Int} (h : ∀ i, 0 ≤ q i ∧ q i ≤ 255) (n : Nat) : ∀ i, 0 ≤ firsts q n i ∧ firsts q n i ≤ 255 := fun i => by
  unfold firsts; split
  · exact h i
  · omega
set_option maxRecDepth 20000 in
set_option maxHeartbeats 2000000 in
theorem nodeBytes_walk (i : Int) (k l s b : Int) (d : Nat → Int) (p : Value) (n : Nat) (q : Nat → Int) (w : World) (h : NodeOk k l s b d) (hp : Lies w p n q) (hq : ∀ i, 0 ≤ q i ∧ q i ≤ 255) :
    Calls Try.prog 3 #[.int .i64 i, .agg (node16 k l s b d), p] w fun e w' => e = .returned (.bool true) ∧ Below w.heap.size w w' := by
  have hG := firsts_bytes hq n
  have C1 : Hid _ := fun W => encode_any k l s b d W h
  have C2 : Hid _ := fun W => refEncode_any k l s b d W h
  have C3 : Hid _ := fun W => decode_any (firsts q n) W hG
  have C4 : Hid _ := fun W => refDecode_any (firsts q n) W hG
  have C5 : Hid _ := fun W => stat_any i k l s b d W h
  have C6 : Hid _ := fun W => refStat_any i k l s b d W h
  have hsx : ∀ W, Below w.heap.size w W → Calls Try.prog 8 #[p] W fun e w' => e = .returned (.agg (rowA (firsts q n) 64)) ∧ Below W.heap.size W w' := fun W hb => sixty_any (hp.later hb)
  have HQ1 : Hid (∀ W, (Op.equalIn 10000 31 (.agg (rowA (encN k l s b d 12) 64)) (.agg (rowA (encN k l s b d 12) 64))).run Try.prog W = .ok true W) := fun W => by
    rw [eq31, (sameN_iff ..).2 fun _ _ => rfl]
  have HQ2 : Hid (∀ W, (Op.equalIn 10000 27 (.agg (decN (firsts q n))) (.agg (decN (firsts q n)))).run Try.prog W = .ok true W) := fun W => by
    unfold decN
    rw [eq27, (sameNode_iff ..).2 ⟨rfl, rfl, rfl, rfl, fun _ _ => rfl⟩]
  have HQ3 : Hid (∀ W, (Op.equalIn 10000 37 (.agg (statV i k l s b)) (.agg (statV i k l s b))).run Try.prog W = .ok true W) := fun W => by
    rw [eq37]; simp
  have z29 := zero29
  generalize statV i k l s b = ST at *
  generalize decN (firsts q n) = DG at *
  generalize encN k l s b d 12 = E at *
  have HN : Hid ((Try.prog.info? 27).map (·.size) = some (node16 k l s b d).size) := size27
  generalize node16 k l s b d = N at *
  generalize firsts q n = F at *
  clear h hp hq hG
  go_enter Try.func3, Try.ntmps3
  go_wp2_with (first | (go_at_call 8; fail))
  refine (hsx _ (below_new _ _)).mono ?_
  rintro e' W1 ⟨rfl, hb1⟩
  have HS0 : Hid (SC w W1.heap.size N F (W1.alloc (.cells (rowA F 64) 29)).drew) := SC.drew ⟨⟨heap_kept (heap_kept (heap_alloc_new _ _) hb1) (below_new _ _), heap_alloc_new _ _⟩, below_next (below_next (below_new _ _) hb1) (below_new _ _)⟩
  clear hsx hb1
  go_wp2_with (first | refine wpList_stNew 29 rfl _ _ rfl _ _ _ 29 (by rw [rowA_size]; exact size29) (by simp only [rowA_size]) (row64_one _) rfl rfl rfl ?_)
  refine wp_region_ord (S := fun u => u.heap[w.heap.size]? = some (.cells N 27) ∧ u.heap[W1.heap.size]? = some (.cells (rowA F 64) 29)) [(0, true), (2, true), (1, false), (3, false), (4, true), (5, true), (6, true), (8, true), (7, false), (9, false), (10, true), (11, true), (12, true), (13, true), (14, true), (16, true), (17, true), (15, false), (18, false), (19, true), (20, true), (21, true)]
    (by kernel_rfl) rfl (by kernel_rfl) (fun d _ _ _ _ h => by cases d <;> exact h) HS0.out.rows ?_
  generalize (W1.alloc (.cells (rowA F 64) 29)).drew = wd at *
  simp only [inOrd, List.getElem?_cons_zero, List.getElem?_cons_succ]
  refine wpOrd_ldRT 27 Try.underlying27 rfl rfl _ rfl _ rfl N 27 (0, 0) HN.out (fun u hu => hu.1) ?_
  simp only [Act.put, List.setIfInBounds_toArray, List.set_cons_succ, List.set_cons_zero]
  refine wpOrd_ldRT 27 Try.underlying27 rfl rfl _ rfl _ rfl N 27 (0, 0) HN.out (fun u hu => hu.1) ?_
  simp only [Act.put, List.setIfInBounds_toArray, List.set_cons_succ, List.set_cons_zero]
  refine wpOrd_call rfl 9 _ _ rfl Try.call9 [.agg N] rfl ?_
  refine (C1.out _).mono ?_
  rintro e' X1 ⟨rfl, hb⟩
  have HS1 : Hid _ := SC.call HS0.out hb
  clear hb HS0 C1
  refine ⟨_, rfl, HS1.out.rows, ?_⟩
  simp only [Act.put, List.setIfInBounds_toArray, List.set_cons_succ, List.set_cons_zero]
  refine wpOrd_call rfl 10 _ _ rfl Try.call10 [.agg N] rfl ?_
  refine (C2.out _).mono ?_
  rintro e' X2 ⟨rfl, hb⟩
  have HS2 : Hid _ := SC.call HS1.out hb
  clear hb HS1 C2
  refine ⟨_, rfl, HS2.out.rows, ?_⟩
  simp only [Act.put, List.setIfInBounds_toArray, List.set_cons_succ, List.set_cons_zero]
  have Q1 := HQ1.out
  refine wpOrd_yield (v := .bool true) rfl (fun u _ => by go_simp) ?_
  simp only [Act.put, List.setIfInBounds_toArray, List.set_cons_succ, List.set_cons_zero]
  clear Q1 HQ1
  refine wpOrd_yield (v := .bool true) rfl (fun u _ => by simp [execOp, Act.eval]) ?_
  simp only [Act.put, List.setIfInBounds_toArray, List.set_cons_succ, List.set_cons_zero]
  refine wpOrd_ldRT 29 Try.underlying29 rfl rfl _ rfl _ rfl (rowA F 64) 29 (0, 0) (by rw [rowA_size]; exact size29) (fun u hu => hu.2) ?_
  simp only [Act.put, List.setIfInBounds_toArray, List.set_cons_succ, List.set_cons_zero]
  refine wpOrd_ldRT 29 Try.underlying29 rfl rfl _ rfl _ rfl (rowA F 64) 29 (0, 0) (by rw [rowA_size]; exact size29) (fun u hu => hu.2) ?_
  simp only [Act.put, List.setIfInBounds_toArray, List.set_cons_succ, List.set_cons_zero]
  refine wpOrd_call rfl 11 _ _ rfl Try.call11 [.agg (rowA F 64)] rfl ?_
  refine (C3.out _).mono ?_
  rintro e' X3 ⟨rfl, hb⟩
  have HS3 : Hid _ := SC.call HS2.out hb
  clear hb HS2 C3
  refine ⟨_, rfl, HS3.out.rows, ?_⟩
  simp only [Act.put, List.setIfInBounds_toArray, List.set_cons_succ, List.set_cons_zero]
  refine wpOrd_call rfl 12 _ _ rfl Try.call12 [.agg (rowA F 64)] rfl ?_
  refine (C4.out _).mono ?_
  rintro e' X4 ⟨rfl, hb⟩
  have HS4 : Hid _ := SC.call HS3.out hb
  clear hb HS3 C4
  refine ⟨_, rfl, HS4.out.rows, ?_⟩
  simp only [Act.put, List.setIfInBounds_toArray, List.set_cons_succ, List.set_cons_zero]
  have Q2 := HQ2.out
  refine wpOrd_yield (v := .bool true) rfl (fun u _ => by go_simp) ?_
  simp only [Act.put, List.setIfInBounds_toArray, List.set_cons_succ, List.set_cons_zero]
  clear Q2 HQ2
  refine wpOrd_yield (v := .bool true) rfl (fun u _ => by go_simp) ?_
  simp only [Act.put, List.setIfInBounds_toArray, List.set_cons_succ, List.set_cons_zero]
  refine wpOrd_yield (v := .bool true) rfl (fun u _ => by simp [execOp, Act.eval]) ?_
  simp only [Act.put, List.setIfInBounds_toArray, List.set_cons_succ, List.set_cons_zero]
  refine wpOrd_yield (v := .int .i64 i) rfl (fun u _ => by simp [execOp, Act.eval]) ?_
  simp only [Act.put, List.setIfInBounds_toArray, List.set_cons_succ, List.set_cons_zero]
  refine wpOrd_ldRT 27 Try.underlying27 rfl rfl _ rfl _ rfl N 27 (0, 0) HN.out (fun u hu => hu.1) ?_
  simp only [Act.put, List.setIfInBounds_toArray, List.set_cons_succ, List.set_cons_zero]
  refine wpOrd_yield (v := .int .i64 i) rfl (fun u _ => by simp [execOp, Act.eval]) ?_
  simp only [Act.put, List.setIfInBounds_toArray, List.set_cons_succ, List.set_cons_zero]
  refine wpOrd_ldRT 27 Try.underlying27 rfl rfl _ rfl _ rfl N 27 (0, 0) HN.out (fun u hu => hu.1) ?_
  simp only [Act.put, List.setIfInBounds_toArray, List.set_cons_succ, List.set_cons_zero]
  refine wpOrd_call rfl 13 _ _ rfl Try.call13 [.int .i64 i, .agg N] rfl ?_
  refine (C5.out _).mono ?_
  rintro e' X5 ⟨rfl, hb⟩
  have HS5 : Hid _ := SC.call HS4.out hb
  clear hb HS4 C5
  refine ⟨_, rfl, HS5.out.rows, ?_⟩
  simp only [Act.put, List.setIfInBounds_toArray, List.set_cons_succ, List.set_cons_zero]
  refine wpOrd_call rfl 14 _ _ rfl Try.call14 [.int .i64 i, .agg N] rfl ?_
  refine (C6.out _).mono ?_
  rintro e' X6 ⟨rfl, hb⟩
  have HS6 : Hid _ := SC.call HS5.out hb
  clear hb HS5 C6
  refine ⟨_, rfl, HS6.out.rows, ?_⟩
  simp only [Act.put, List.setIfInBounds_toArray, List.set_cons_succ, List.set_cons_zero]
  have Q3 := HQ3.out
  refine wpOrd_yield (v := .bool true) rfl (fun u _ => by go_simp) ?_
  simp only [Act.put, List.setIfInBounds_toArray, List.set_cons_succ, List.set_cons_zero]
  clear Q3 HQ3
  refine wpOrd_yield (v := .bool true) rfl (fun u _ => by go_simp) ?_
  simp only [Act.put, List.setIfInBounds_toArray, List.set_cons_succ, List.set_cons_zero]
  refine wpOrd_yield (v := .bool true) rfl (fun u _ => by simp [execOp, Act.eval]) ?_
  simp only [Act.put, List.setIfInBounds_toArray, List.set_cons_succ, List.set_cons_zero]
  refine wpOrd_nil ?_
  go_wp2
  go_ret
  exact ⟨rfl, HS6.out.bel⟩
end Go.Proofs.Ytohknfoljnddjaa
