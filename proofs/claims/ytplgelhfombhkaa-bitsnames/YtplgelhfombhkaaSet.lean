/- Has and Set of bits: for every block of bytes, every number and either way. -/
import Derived.Test.YtplgelhfombhkaaSmall
import Derived.StillTailTactics
namespace Go.Proofs.Ytplgelhfombhkaa
open Go.RowKit

set_option maxRecDepth 20000 in
set_option maxHeartbeats 400000 in
theorem has_outW (f : Nat → Int) (i : Int) (w : World) (hk : ¬ (0 ≤ i ∧ i < 8192)) :
    Calls Try.prog 10 #[.agg (blk f), .int .i64 i] w fun e w' => e = .returned (.bool false) ∧ Below w.heap.size w w' := by
  have hex := fun w => exists_any i w
  rw [decide_eq_false hk] at hex
  clear hk
  go_enter Try.func10, Try.ntmps10
  go_wp2
  go_quiet (first | (go_at_call 21; exact (hex _).mono fun _ _ h => ⟨h.1, ⟨_, h.2⟩⟩))
  go_wp2
  go_ret
  exact ⟨rfl, below_drewN ((Below.refl _ _).alloc (Nat.le_refl _) _) _⟩
theorem has_any (f : Nat → Int) (hf : Byte f) (i : Int) (w : World) :
    Calls Try.prog 10 #[.agg (blk f), .int .i64 i] w fun e w' => e = .returned (.bool (has f i)) ∧ Below w.heap.size w w' := by
  by_cases h : 0 ≤ i ∧ i < 8192
  · obtain ⟨k, rfl⟩ := Int.eq_ofNat_of_zero_le h.1
    rw [has_in f k (by omega)]
    exact has_inW f hf k w (by omega)
  · rw [has_out f i h]
    exact has_outW f i w h

theorem or_is (f : Nat → Int) (hf : Byte f) (k : Nat) : bits BinOp.or IntKind.u8 (f (k / 8)) (mskV k) = orN (f (k / 8)) (k % 8) := by
  unfold mskV
  have h := hf (k / 8)
  have hm := pow_lt (k % 8) (by omega)
  unfold orN
  generalize 2 ^ (k % 8) = p at hm
  rw [u8_or _ _ (by omega) (by omega) (by omega) (by omega), Int.toNat_natCast]
theorem cl_is (f : Nat → Int) (hf : Byte f) (k : Nat) : bits BinOp.andNot IntKind.u8 (f (k / 8)) (mskV k) = clN (f (k / 8)) (k % 8) := by
  unfold mskV
  have h := hf (k / 8)
  have hm := pow_lt (k % 8) (by omega)
  unfold clN
  generalize 2 ^ (k % 8) = p at hm
  rw [u8_andNot _ _ (by omega) (by omega) (by omega) (by omega), Int.toNat_natCast]
theorem blk_cell {w : World} {g : Nat} {f : Nat → Int} {t : TypeId} (h : w.heap[g]? = some (.cells (blk f) t)) (i : Nat) (hi : i < 1024) : w.cell? ⟨g, i, none⟩ = some (.int .u8 (f i)) := by
  rw [cell_of_row w g i _ t _ h]; exact blk_get f i hi
theorem blk_stored {w : World} {g : Nat} {f : Nat → Int} {t : TypeId} (h : w.heap[g]? = some (.cells (blk f) t)) (i : Nat) (x : Int) : (w.setCell ⟨g, i, none⟩ (.int .u8 x)).heap[g]? = some (.cells (blk (upd f i x)) t) := by
  have hlt := (Array.getElem?_eq_some_iff.1 h).1
  have h' : w.heap[g] = .cells (blk f) t := (Array.getElem?_eq_some_iff.1 h).2
  simp [World.setCell, hlt, Array.getElem_modify_self, h', blk_set]
theorem wpList_storeIn {ops : Array Oper} {rest : List Oper} {o : Oper} {a : Act} {w : World} {Q : Exit → Act → World → Prop} (hgd : o.guard = none) (x y : Operand) (ho : o.op = .store 5 x y)
    (g i : Nat) (v : Int) (f : Nat → Int) (hx : a.eval x = .pointer (some ⟨g, i, none⟩)) (hy : a.eval y = .int .u8 v) (hg : w.heap[g]? = some (.cells (blk f) 23)) (hi : i < 1024)
    (h : wpList Try.prog ops Q rest (a.put o.dst undef) (w.setCell ⟨g, i, none⟩ (.int .u8 v))) : wpList Try.prog ops Q (o :: rest) a w :=
  wpList_plain hgd fun _ hK => by
    have hc := blk_cell hg i hi
    have hf : w.frozen? ⟨g, i, none⟩ = false := frozen_of_row w g i _ 23 hg
    unfold Oper.wp execOp
    simp only [ho, hx, hy]
    simp [go_sem, hc, hf]
    exact hK _ _ h
set_option maxRecDepth 20000 in
set_option maxHeartbeats 400000 in
theorem set_on (f : Nat → Int) (hf : Byte f) (k : Nat) (w : World) (hk : k < 8192) :
    Calls Try.prog 12 #[.agg (blk f), .int .i64 k, .bool true] w fun e w' => e = .returned (.agg (blk (setN f k true))) ∧ Below w.heap.size w w' := by
  have z25 := zero25
  have HF : Hid (bits BinOp.or IntKind.u8 (f (k / 8)) (mskV k) = orN (f (k / 8)) (k % 8)) := or_is f hf k
  have HS : Hid (setN f k true = upd f (k / 8) (orN (f (k / 8)) (k % 8))) := (rfl : setN f k true = _)
  clear hf
  have hd : decide (0 ≤ (k : Int) ∧ (k : Int) < 8192) = true := decide_eq_true (by omega)
  have hex := fun w => exists_any (k : Int) w
  rw [hd] at hex
  have hmk := fun w => mask_any k w hk
  go_enter Try.func12, Try.ntmps12
  go_wp2_with (go_at_call 21; refine (hex _).mono ?_; rintro e w' ⟨rfl, rfl⟩)
  have h1 : ((w.alloc (.cells (blk f) 23)).alloc (.cells (blk nought) 23)).drew.heap[w.heap.size]? = some (.cells (blk f) 23) := heap_alloc2_old _ _ _
  have h2 : ((w.alloc (.cells (blk f) 23)).alloc (.cells (blk nought) 23)).drew.heap[w.heap.size + 1]? = some (.cells (blk nought) 23) := heap_alloc2_new _ _ _
  have hc := blk_cell h1 (k / 8) (by omega)
  have H3 : Hid (Below w.heap.size w ((w.alloc (.cells (blk f) 23)).alloc (.cells (blk nought) 23)).drew) := (((Below.refl _ _).alloc (Nat.le_refl _) _).alloc (by simp) _).drew
  have hwr : IntKind.i64.wrap ((k : Int) / 8) = ((k / 8 : Nat) : Int) := by rw [IntKind.wrap_i64]; omega
  have hk8 : k / 8 < 1024 := by omega
  generalize k / 8 = q at hwr hk8 hc HF HS
  have hk9 : (q : Int) < 1024 := by omega
  generalize ((w.alloc (.cells (blk f) 23)).alloc (.cells (blk nought) 23)) = X at h1 h2 hc H3 ⊢
  refine wp_region_still_tail 8 (by kernel_rfl) (by kernel_rfl) ?_
  simp only [List.take_succ_cons, List.take_zero, List.drop_succ_cons, List.drop_zero]
  change wpStill _ _ (World.drew X) (fun a' => wpList _ _ _ _ a' (World.drew X)) _ _
  generalize World.drew X = Y at h1 h2 hc H3 ⊢
  repeat (first | still_step | still_call (hmk _))
  refine wpStill_nil ?_
  refine wpList_storeIn rfl _ _ rfl w.heap.size q _ f rfl rfl h1 hk8 ?_
  have h4 := blk_stored h1 q (bits BinOp.or IntKind.u8 (f q) (mskV k))
  have h5 : (Y.setCell ⟨w.heap.size, q, none⟩ (.int .u8 (bits BinOp.or IntKind.u8 (f q) (mskV k)))).heap[w.heap.size + 1]? = some (.cells (blk nought) 23) := (heap_setCell_other _ _ _ _ (by simp)).trans h2
  have H6 : Hid (Below w.heap.size w (Y.setCell ⟨w.heap.size, q, none⟩ (.int .u8 (bits BinOp.or IntKind.u8 (f q) (mskV k))))) := H3.out.setCell (p := ⟨w.heap.size, q, none⟩) (Nat.le_refl _) _
  have H4 : Hid (blk (upd f q (bits BinOp.or IntKind.u8 (f q) (mskV k))) = blk (setN f k true)) := (by rw [HF.out, HS.out] : _ = _)
  rw [H4.out] at h4
  generalize Y.setCell ⟨w.heap.size, q, none⟩ (.int .u8 (bits BinOp.or IntKind.u8 (f q) (mskV k))) = Z at h4 h5 H6 ⊢
  clear h1 h2 hc H3 HF HS H4
  simp only [Act.put]
  go_wp2_with (first | refine wpList_load25 rfl _ rfl _ rfl _ h4 ?_ | refine wpList_store25 rfl _ _ rfl _ _ rfl rfl _ h5 ?_)
  exact ret25 rfl (w.heap.size + 1) _ rfl (setRow_heap _ _ _ _ _ _ h5) rfl ⟨rfl, below_setRow H6.out (by omega) _⟩
set_option maxRecDepth 20000 in
set_option maxHeartbeats 400000 in
theorem set_off (f : Nat → Int) (hf : Byte f) (k : Nat) (w : World) (hk : k < 8192) :
    Calls Try.prog 12 #[.agg (blk f), .int .i64 k, .bool false] w fun e w' => e = .returned (.agg (blk (setN f k false))) ∧ Below w.heap.size w w' := by
  have z25 := zero25
  have HF : Hid (bits BinOp.andNot IntKind.u8 (f (k / 8)) (mskV k) = clN (f (k / 8)) (k % 8)) := cl_is f hf k
  have HS : Hid (setN f k false = upd f (k / 8) (clN (f (k / 8)) (k % 8))) := (rfl : setN f k false = _)
  clear hf
  have hd : decide (0 ≤ (k : Int) ∧ (k : Int) < 8192) = true := decide_eq_true (by omega)
  have hex := fun w => exists_any (k : Int) w
  rw [hd] at hex
  have hmk := fun w => mask_any k w hk
  go_enter Try.func12, Try.ntmps12
  go_wp2_with (go_at_call 21; refine (hex _).mono ?_; rintro e w' ⟨rfl, rfl⟩)
  have h1 : ((w.alloc (.cells (blk f) 23)).alloc (.cells (blk nought) 23)).drew.heap[w.heap.size]? = some (.cells (blk f) 23) := heap_alloc2_old _ _ _
  have h2 : ((w.alloc (.cells (blk f) 23)).alloc (.cells (blk nought) 23)).drew.heap[w.heap.size + 1]? = some (.cells (blk nought) 23) := heap_alloc2_new _ _ _
  have hc := blk_cell h1 (k / 8) (by omega)
  have H3 : Hid (Below w.heap.size w ((w.alloc (.cells (blk f) 23)).alloc (.cells (blk nought) 23)).drew) := (((Below.refl _ _).alloc (Nat.le_refl _) _).alloc (by simp) _).drew
  have hwr : IntKind.i64.wrap ((k : Int) / 8) = ((k / 8 : Nat) : Int) := by rw [IntKind.wrap_i64]; omega
  have hk8 : k / 8 < 1024 := by omega
  generalize k / 8 = q at hwr hk8 hc HF HS
  have hk9 : (q : Int) < 1024 := by omega
  generalize ((w.alloc (.cells (blk f) 23)).alloc (.cells (blk nought) 23)) = X at h1 h2 hc H3 ⊢
  refine wp_region_still_tail 8 (by kernel_rfl) (by kernel_rfl) ?_
  simp only [List.take_succ_cons, List.take_zero, List.drop_succ_cons, List.drop_zero]
  change wpStill _ _ (World.drew X) (fun a' => wpList _ _ _ _ a' (World.drew X)) _ _
  generalize World.drew X = Y at h1 h2 hc H3 ⊢
  repeat (first | still_step | still_call (hmk _))
  refine wpStill_nil ?_
  refine wpList_storeIn rfl _ _ rfl w.heap.size q _ f rfl rfl h1 hk8 ?_
  have h4 := blk_stored h1 q (bits BinOp.andNot IntKind.u8 (f q) (mskV k))
  have h5 : (Y.setCell ⟨w.heap.size, q, none⟩ (.int .u8 (bits BinOp.andNot IntKind.u8 (f q) (mskV k)))).heap[w.heap.size + 1]? = some (.cells (blk nought) 23) := (heap_setCell_other _ _ _ _ (by simp)).trans h2
  have H6 : Hid (Below w.heap.size w (Y.setCell ⟨w.heap.size, q, none⟩ (.int .u8 (bits BinOp.andNot IntKind.u8 (f q) (mskV k))))) := H3.out.setCell (p := ⟨w.heap.size, q, none⟩) (Nat.le_refl _) _
  have H4 : Hid (blk (upd f q (bits BinOp.andNot IntKind.u8 (f q) (mskV k))) = blk (setN f k false)) := (by rw [HF.out, HS.out] : _ = _)
  rw [H4.out] at h4
  generalize Y.setCell ⟨w.heap.size, q, none⟩ (.int .u8 (bits BinOp.andNot IntKind.u8 (f q) (mskV k))) = Z at h4 h5 H6 ⊢
  clear h1 h2 hc H3 HF HS H4
  simp only [Act.put]
  go_wp2_with (first | refine wpList_load25 rfl _ rfl _ rfl _ h4 ?_ | refine wpList_store25 rfl _ _ rfl _ _ rfl rfl _ h5 ?_)
  exact ret25 rfl (w.heap.size + 1) _ rfl (setRow_heap _ _ _ _ _ _ h5) rfl ⟨rfl, below_setRow H6.out (by omega) _⟩

set_option maxRecDepth 20000 in
set_option maxHeartbeats 400000 in
theorem set_out (f : Nat → Int) (i : Int) (on : Bool) (w : World) (hk : ¬ (0 ≤ i ∧ i < 8192)) :
    Calls Try.prog 12 #[.agg (blk f), .int .i64 i, .bool on] w fun e w' => e = .returned (.agg (blk f)) ∧ Below w.heap.size w w' := by
  have z25 := zero25
  have hex := fun w => exists_any i w
  rw [decide_eq_false hk] at hex
  clear hk
  go_enter Try.func12, Try.ntmps12
  go_wp2_with (first | (go_at_call 21; refine (hex _).mono ?_; rintro e w' ⟨rfl, rfl⟩) | refine wpList_load25 rfl _ rfl _ rfl _ (heap_alloc2_old _ _ _) ?_ | refine wpList_store25 rfl _ _ rfl _ _ rfl rfl _ (heap_alloc2_new _ _ _) ?_)
  exact ret25 rfl (w.heap.size + 1) _ rfl (setRow_heap _ _ _ _ _ _ (heap_alloc2_new _ _ _)) rfl ⟨rfl, below2 _ _ _ _ (by omega) _⟩
theorem set_any (f : Nat → Int) (hf : Byte f) (i : Int) (on : Bool) (w : World) :
    Calls Try.prog 12 #[.agg (blk f), .int .i64 i, .bool on] w fun e w' => e = .returned (.agg (blk (setB f i on))) ∧ Below w.heap.size w w' := by
  by_cases h : 0 ≤ i ∧ i < 8192
  · obtain ⟨k, rfl⟩ := Int.eq_ofNat_of_zero_le h.1
    rw [setB_in f k on (by omega)]
    cases on
    · exact set_off f hf k w (by omega)
    · exact set_on f hf k w (by omega)
  · rw [setB_out f i on h]
    exact set_out f i on w h
end Go.Proofs.Ytplgelhfombhkaa
