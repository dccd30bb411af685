/- The twelve numbers of an inode, the program's and the document's; what is told of an inode; sixty-four bytes of a slice; no condition. -/
import Derived.Test.YtohknfoljnddjaaInode
import Derived.Test.YtohknfoljnddjaaStands
namespace Go.Proofs.Ytohknfoljnddjaa
open Go.RowKit

def w10 (d e : Nat → Int) : Array Value :=
  #[.int .u32 (d 0), .int .u32 (d 1), .int .u32 (d 2), .int .u32 (d 3), .int .u32 (d 4), .int .u32 (d 5), .int .u32 (d 6), .int .u32 (d 7), .int .u32 (d 8), .int .u32 (d 9), .int .u32 (e 10), .int .u32 (e 11)]
theorem run_copyN (W : World) (ty : TypeId) (g gs : Nat) (k l s b : Int) (d : Nat → Int) (t t' : TypeId) (hF : W.heap[g]? = some (.cells (w12 nought) t)) (hG : W.heap[gs]? = some (.cells (node16 k l s b d) t')) :
    (Builtin.copy_ #[52, 52] ty #[.slice (some ⟨g, 0, none⟩) 12 12, .slice (some ⟨gs, 4, none⟩) 10 10]).run Try.prog W = .ok (goInt 10) (W.setRow g (w10 d nought)) := by
  have hi : (Try.prog.info? 24).map (·.size) = some 1 := by kernel_rfl
  have key := run_copy_row (P := Try.prog) W 52 52 ty 24 g 0 12 12 ⟨gs, 4, none⟩ 10 10 (w12 nought) t
    [.int .u32 (d 0), .int .u32 (d 1), .int .u32 (d 2), .int .u32 (d 3), .int .u32 (d 4), .int .u32 (d 5), .int .u32 (d 6), .int .u32 (d 7), .int .u32 (d 8), .int .u32 (d 9)] Try.underlying52 hi hF rfl (fun j v hv => by
      rw [Go.WideShapes.add_plain, cell_of_row W gs _ _ t' _ hG]
      match j, hv with
      | 0, hv | 1, hv | 2, hv | 3, hv | 4, hv | 5, hv | 6, hv | 7, hv | 8, hv | 9, hv => exact hv
      | j + 10, hv => simp at hv) (by rw [w12_size]; simp) (by simp [Value.oneCell'])
  exact key
theorem wpList_copyN {ops : Array Oper} {rest : List Oper} {o : Oper} {a : Act} {w : World} {Q : Exit → Act → World → Prop} (hgd : o.guard = none) (x y : Operand)
    (ho : o.op = .call { callee := .builtin .copy, args := #[x, y], argTypes := #[52, 52] }) (g gs : Nat) (k l s b : Int) (d : Nat → Int) (t t' : TypeId)
    (hd : a.eval x = .slice (some ⟨g, 0, none⟩) 12 12) (hs : a.eval y = .slice (some ⟨gs, 4, none⟩) 10 10)
    (hF : w.heap[g]? = some (.cells (w12 nought) t)) (hG : w.heap[gs]? = some (.cells (node16 k l s b d) t'))
    (h : wpList Try.prog ops Q rest (a.put o.dst (goInt 10)) (w.setRow g (w10 d nought))) : wpList Try.prog ops Q (o :: rest) a w :=
  wpList_plain hgd fun _ hK => by
    have hrun := run_copyN w o.type g gs k l s b d t t' hF hG
    unfold Oper.wp
    simp [execOp, ho, resolve, invoke, builtin, hd, hs, hrun, Result.andThen]
    exact hK _ _ h

theorem heap_new3 (w : World) (A B C : Obj) : (((w.alloc A).alloc B).alloc C).heap[w.heap.size + 2]? = some C := by
  have h := heap_alloc_new ((w.alloc A).alloc B) C
  rwa [World.size_alloc, World.size_alloc] at h
set_option maxRecDepth 20000 in
set_option maxHeartbeats 400000 in
theorem numbers_any (k l s b : Int) (d : Nat → Int) (w : World) :
    Calls Try.prog 25 #[.agg (node16 k l s b d)] w fun e w' => e = .returned (.agg (w12 d)) ∧ Below w.heap.size w w' := by
  have z62 := zero62
  go_enter Try.func25, Try.ntmps25
  go_wp2
  go_still_tail 3, (by kernel_rfl)
  change wpList _ _ _ _ _ (World.drew _)
  have hF : (((w.alloc (.cells (node16 k l s b d) 27)).alloc (.cells (w12 nought) 62)).alloc (.cells (w12 nought) 62)).drew.heap[w.heap.size + 2]? = some (.cells (w12 nought) 62) := by
    show (((w.alloc (.cells (node16 k l s b d) 27)).alloc (.cells (w12 nought) 62)).alloc (.cells (w12 nought) 62)).heap[w.heap.size + 2]? = _
    exact heap_new3 _ _ _ _
  have hG : (((w.alloc (.cells (node16 k l s b d) 27)).alloc (.cells (w12 nought) 62)).alloc (.cells (w12 nought) 62)).drew.heap[w.heap.size]? = some (.cells (node16 k l s b d) 27) := by
    show (((w.alloc (.cells (node16 k l s b d) 27)).alloc (.cells (w12 nought) 62)).alloc (.cells (w12 nought) 62)).heap[w.heap.size]? = _
    rw [heap_alloc_old _ _ (by simp; omega)]
    exact heap_alloc2_old _ _ _
  refine wpList_copyN rfl _ _ rfl (w.heap.size + 2) w.heap.size k l s b d 62 27 rfl rfl hF hG ?_
  have hW : (((w.alloc (.cells (node16 k l s b d) 27)).alloc (.cells (w12 nought) 62)).alloc (.cells (w12 nought) 62)).drew.setRow (w.heap.size + 2) (w10 d nought) = (((w.alloc (.cells (node16 k l s b d) 27)).alloc (.cells (w12 nought) 62)).alloc (.cells (w10 d nought) 62)).drew := by
    have h := World.setRow_alloc_new ((w.alloc (.cells (node16 k l s b d) 27)).alloc (.cells (w12 nought) 62)) (w12 nought) (w10 d nought) 62
    rw [World.size_alloc, World.size_alloc] at h
    exact congrArg World.drew h
  rw [hW]
  clear hF hG hW
  simp only [Act.put, List.setIfInBounds_toArray, List.set_cons_succ, List.set_cons_zero]
  unfold node16 w10
  go_wp2_with (first | refine wpList_stR 62 rfl _ _ rfl _ (w12 d) _ 62 (by rw [w12_size]; exact size62) (by rfl) (w12_one d) rfl rfl (heap3 _ _ _ _) ?_)
  refine retR Try.underlying62 rfl rfl (w.heap.size + 1) (w12 d) 62 (by rw [w12_size]; exact size62) rfl (setRow_heap _ _ _ _ _ _ (heap3 _ _ _ _)) rfl ⟨rfl, ?_⟩
  exact below_setRow (bel_al (bel_al (below_new _ _) _) _).drew (by omega) _

set_option maxRecDepth 20000 in
set_option maxHeartbeats 400000 in
theorem refNumbers_any (k l s b : Int) (d : Nat → Int) (w : World) :
    Calls Try.prog 29 #[.agg (node16 k l s b d)] w fun e w' => e = .returned (.agg (w12 d)) ∧ Below w.heap.size w w' := by
  have z62 := zero62
  have hnode : ∀ j, j < 10 → (node16 k l s b d)[4 + j]? = some (.int .u32 (d j)) := fun j hj =>
    match j, hj with
    | 0, _ => rfl | 1, _ => rfl | 2, _ => rfl | 3, _ => rfl | 4, _ => rfl | 5, _ => rfl | 6, _ => rfl | 7, _ => rfl | 8, _ => rfl | 9, _ => rfl
  have h14 : (node16 k l s b d)[14]? = some (.int .u32 (d 10)) := rfl
  have h15 : (node16 k l s b d)[15]? = some (.int .u32 (d 11)) := rfl
  generalize node16 k l s b d = N at *
  have HN : Hid _ := hnode
  clear hnode
  go_enter Try.func29, Try.ntmps29
  go_wp2
  go_loopw [4] (fun s4 wx => ∃ (j : Nat) (e : Nat → Int), j ≤ 10 ∧ s4 = .int .i64 j ∧ (∀ i, i < j → e i = d i) ∧ wx = ((w.alloc (.cells N 27)).alloc (.cells (w12 nought) 62)).alloc (.cells (w12 e) 62)) (fun s4 _ => 10 - (intOf s4).toNat)
  case atStart => exact ⟨0, nought, by omega, rfl, fun i hi => absurd hi (by omega), rfl⟩
  case round =>
    obtain ⟨j, e, hj, rfl, he, rfl⟩ := hrel
    have HE : Hid _ := he
    clear he
    by_cases h10 : (j : Int) < 10
    · have hg := HN.out j (by omega)
      have hs := w12_set e j
      have hg2 := w12_get e j (by omega)
      have HU : Hid (∀ i, i < j + 1 → upd e j (d j) i = d i) := fun i hi => by
        unfold upd; split
        · rename_i q; rw [q]
        · exact HE.out i (by omega)
      clear HE
      go_wp2
      refine ⟨⟨j + 1, upd e j (d j), by omega, by go_num, HU.out, rfl⟩, by simp [intOf]; omega⟩
    · obtain rfl : j = 10 := by omega
      have hs0 := w12_set e 10
      have hs1 := w12_set (upd e 10 (d 10)) 11
      have hg2 := w12_get e 10 (by omega)
      have hg3 := w12_get (upd e 10 (d 10)) 11 (by omega)
      have HC : Hid (w12 (upd (upd e 10 (d 10)) 11 (d 11)) = w12 d) := w12_congr fun i hi => by
        unfold upd; split
        · rename_i q; rw [q]
        · split
          · rename_i q; rw [q]
          · exact HE.out i (by omega)
      clear HE HN
      go_wp2_with (first | refine wpList_ldR 62 Try.underlying62 rfl rfl _ rfl _ rfl _ 62 (0, 0) (by rw [w12_size]; exact size62) (heap_new3 _ _ _ _) ?_ | refine wpList_stR 62 rfl _ _ rfl _ _ _ 62 (by rw [w12_size]; exact size62) (by rfl) (w12_one _) rfl rfl (heap3 _ _ _ _) ?_)
      refine retR Try.underlying62 rfl rfl (w.heap.size + 1) _ 62 (by rw [w12_size]; exact size62) rfl (setRow_heap _ _ _ _ _ _ (heap3 _ _ _ _)) rfl ⟨by rw [HC.out], ?_⟩
      exact below_setRow (bel_al (bel_al (below_new _ _) _) _) (by omega) _
end Go.Proofs.Ytohknfoljnddjaa
