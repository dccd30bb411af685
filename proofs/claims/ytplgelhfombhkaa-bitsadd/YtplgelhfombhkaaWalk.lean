/- walk: the law's own function that lists what All gives, none left out: for every block of bytes and every span. -/
import Derived.Test.YtplgelhfombhkaaAgain
namespace Go.Proofs.Ytplgelhfombhkaa
open Go.RowKit Go.Shelf

attribute [local go_sem] Oper.semAt_some
attribute [local simp, local go_sem] wide_fn wide_depth

set_option maxRecDepth 100000 in
set_option maxHeartbeats 4000000 in
theorem walk_in (f : Nat → Int) (hf : Byte f) (x y : Int) (w : World) (n : Nat) (hn : 3 ≤ n) :
    CallsIn Fence.wide n Try.prog 20 #[.agg (blk f), .int .i64 x, .int .i64 y, .int .i64 (-1)] w fun e w' => ∃ v, e = .returned (.tuple #[v, .bool true]) ∧ LiesI w' v (ones f x y 8192) ∧ Below w.heap.size w w' := by
  have h1 : 1 ≤ n := by omega
  have hT8 := ones_len f x y 8192
  obtain ⟨i0, hi, hz0, hz1, hz2⟩ := info_parts info3
  refine callsIn_of_wp_marks Try.func20 rfl trivial ?_ rfl
  simp only [Try.ntmps20, List.size_toArray, List.length_cons, List.length_nil, Nat.reduceAdd, Nat.reduceSub, Array.replicate_succ, Array.replicate_zero, List.push_toArray, List.append_toArray, List.nil_append, List.cons_append]
  generalize hT : ones f x y 8192 = T at *
  have HT := (show Hid _ from hT)
  clear hT
  have heq := eql_nil43
  obtain ⟨W0, hW0⟩ : ∃ W0, ((w.alloc (.cells (blk f) 23)).alloc (.cells #[.int .i64 (-1)] 3)) = W0 := ⟨_, rfl⟩
  have h0 : W0.heap[w.heap.size]? = some (.cells (blk f) 23) := by rw [← hW0]; exact heap_alloc2_old w _ _
  have c1 : W0.heap[w.heap.size + 1]? = some (.cells #[.int .i64 (-1)] 3) := by rw [← hW0]; exact heap_alloc2_new w _ _
  have hB0 : Below w.heap.size w W0 := by rw [← hW0]; exact below_two w _ _
  have C1 := (show Hid _ from c1)
  have HB0 := (show Hid _ from hB0)
  clear c1 hB0
  gi_wp2_with (first | refine wpListIn_load25 rfl _ rfl _ rfl _ h0 ?_ | (gi_at_call 27; refine (callsIn_wide.2 (all_any f x y _)).mono ?_; rintro e W1 ⟨rfl, hA0, hA1, hA2, hA3⟩))
  have hlt0 : W0.heap.size + 1 + 1 < W1.heap.size := block_lt_of_cell hA2
  have hst : SeqStopsK Fence.wide (n - 1) Try.prog 28 #[.pointer (some ⟨W0.heap.size + 1, 0, none⟩), .pointer (some ⟨W0.heap.size + 1 + 1, 0, none⟩), .pointer (some ⟨W0.heap.size, 0, none⟩)] (fun x : Nat => #[Value.int .i64 (x : Int)]) (Below W1.heap.size) (fun ys => ys = T) (fun pre => pre <+: T) 8192 W1 := by
    rw [← HT.out]
    exact iter_stops f hf x y (n - 1) W1.heap.size _ _ _ W1 (Nat.le_refl _) (by omega) (by omega) (by omega) hA1 hA2 hA0
  have d1 : W1.cell? ⟨w.heap.size + 1, 0, none⟩ = some (.int .i64 (-1)) := by rw [cell_of_row W1 _ _ _ 3 _ (heap_kept C1.out hA3)]; rfl
  have hltw : w.heap.size + 1 < W1.heap.size := block_lt_of_cell d1
  have HBW : Hid (Below w.heap.size w W1) := below_next HB0.out hA3
  have HD1 := (show Hid _ from d1)
  have HST := (show Hid _ from hst)
  clear hW0 h0 C1 HB0 hA0 hA1 hA2 hA3 d1 hst hf
  have bL := Boxed.new W1 26 (.slice none 0 0)
  refine wpIn_rangeFunc_ownF rfl h1 (gf := 28) rfl trivial (enters_of Try.func28 (by kernel_rfl) rfl) HST.out belowK_t (belowK_b (by simp)) (below_new _ _) (fun _ => rfl)
    (fun pre W => (∃ v, Boxed W W1.heap.size 26 v ∧ W.ownsRow W1.heap.size 3 1 v pre.length (intsV pre) ∧ True) ∧ Below W1.heap.size W1 W)
    (fun _ _ _ => False)
    (OwnFrom.and (Own.from (holdsRow_own W1.heap.size W1.heap.size 26 3 1 (fun pre => pre.length) (fun pre => intsV pre) (fun _ _ => True)) _) (ownFrom_below (Nat.le_refl _) (by simp)))
    (fun _ _ _ _ _ hs _ _ => hs)
    ⟨⟨_, bL, World.ownsRow_nil _ _ _ _, trivial⟩, below_new _ _⟩
    (fun q => { tmps := #[Value.agg (blk f), .int .i64 x, .int .i64 y, .int .i64 (-1), .pointer (some ⟨w.heap.size, 0, none⟩), undef, undef, .pointer (some ⟨w.heap.size + 1, 0, none⟩), .slice none 0 0, .bool false, Value.func (.func 28) #[] #[.pointer (some ⟨W0.heap.size + 1, 0, none⟩), .pointer (some ⟨W0.heap.size + 1 + 1, 0, none⟩), .pointer (some ⟨W0.heap.size, 0, none⟩)], .pointer (some ⟨W1.heap.size, 0, none⟩), .int .i64 (q : Int), .agg (blk f), .int .i64 x, .int .i64 y, Value.func (.func 28) #[] #[.pointer (some ⟨W0.heap.size + 1, 0, none⟩), .pointer (some ⟨W0.heap.size + 1 + 1, 0, none⟩), .pointer (some ⟨W0.heap.size, 0, none⟩)], Value.func (.func 28) #[] #[.pointer (some ⟨W0.heap.size + 1, 0, none⟩), .pointer (some ⟨W0.heap.size + 1 + 1, 0, none⟩), .pointer (some ⟨W0.heap.size, 0, none⟩)], .bool false, Value.func (.func 28) #[] #[.pointer (some ⟨W0.heap.size + 1, 0, none⟩), .pointer (some ⟨W0.heap.size + 1 + 1, 0, none⟩), .pointer (some ⟨W0.heap.size, 0, none⟩)], .int .i64 (q : Int), undef, undef, undef, undef, undef, undef, undef, undef, undef], defers := [] }) ?assign ?body ?done ?stop
  case assign =>
    intro l q W K hK
    gi_wp2
    exact hK
  case body =>
    rintro l pre q W ⟨⟨v, hv, hrow, _⟩, hB⟩ hlen
    have e1 := (hB.cell (p := ⟨w.heap.size + 1, 0, none⟩) (by simp only; omega)).trans HD1.out
    obtain ⟨ad, cap, rfl, hdrop⟩ := OwnI.slice hrow
    have hc := hv.cell
    have hf1 := hv.frozen
    clear hdrop
    have hne : (((pre.length : Nat) : Int) == -1) = false := by rw [beq_eq_false_iff_ne]; omega
    have HBB := (show Hid _ from hB)
    clear hB
    gi_wp2_with (gi_at_builtin; refine wpListIn_append_own _ rfl _ _ 26 rfl W1.heap.size 3 i0 (.int .i64 0) 1 8 Try.underlying26 hi hz0 hz1 hz2 rfl (by decide) _ _ _ rfl (World.ownsRow.alloc hrow _) ⟨W.heap.size, 0, none⟩ 1 1 [.int .i64 (q : Int)] rfl rfl (cell_one_new _ _ _) (by simp [Value.oneCell']) (by unfold maxLen; omega) (by omega) (by have := HBB.out.size; simp; omega) ?_; intro v' w1 hown' hgrow _; obtain ⟨g', cap', rfl⟩ := ownsRow_succ hown'; obtain ⟨hv1, hv2, hr2, hk2, hb2⟩ := hv.appended (by decide) hrow HBB.out.size (Nat.le_refl _) hown' hgrow; have hc1 := hv1.cell; have hf1 := hv1.frozen)
    exact ⟨hk2, hb2, ⟨_, hv2, by rw [intsV_snoc] at hr2; rw [List.length_append]; exact hr2⟩, HBB.out.trans hb2⟩
  case done =>
    rintro D ys W hD rfl ⟨⟨v, hv, hrow, _⟩, hB⟩ hK
    have hc := hv.cell
    gi_wp2
    refine ⟨by simp, .inl ⟨_, _, rfl, run_takeDeferred hK, ?_⟩⟩
    exact ⟨_, results_tmp2 rfl _ _ _, v, rfl, OwnI.lies (ownsRow_putObj hrow _ hK rfl), (HBW.out.trans (hB.mono HBW.out.size)).trans (belowK_b (w := w) (Nat.le_refl _) W D _ _ (by simp at hD; have := HBW.out.size; omega) hK rfl rfl)⟩
  case stop =>
    rintro D c pre W _ _ h _
    exact h.elim
end Go.Proofs.Ytplgelhfombhkaa
