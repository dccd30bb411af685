/- again: All, stopped and gone over again, is the list of the bits that are set: the law's own function answers true where it is handed that list. -/
import Derived.Test.YtplgelhfombhkaaIter
import Derived.Test.YtplgelhfombhkaaInts
namespace Go.Proofs.Ytplgelhfombhkaa
open Go.RowKit Go.Shelf

attribute [local go_sem] Oper.semAt_some
attribute [local simp, local go_sem] wide_fn wide_depth

theorem wpListIn_load25 {F : Fence} {n : Nat} {ops : Array Oper} {rest : List Oper} {o : Oper} {a : Act} {w : World} {Q : Exit → Act → World → Prop} (hgd : o.guard = none) (x : Operand) (ho : o.op = .load 23 x)
    (g : Nat) (hx : a.eval x = .pointer (some ⟨g, 0, none⟩)) (f : Nat → Int) (hg : w.heap[g]? = some (.cells (blk f) 23))
    (h : wpListIn F n Try.prog ops Q rest (a.put o.dst (.agg (blk f))) w) : wpListIn F n Try.prog ops Q (o :: rest) a w := by
  refine wpListIn_plain hgd fun K hK => ?_
  unfold Oper.wpIn
  refine ⟨?_, ?_⟩
  · simp [Oper.about, ho]
  · rw [Oper.semAt_plain F _ _ (by rw [ho]; intro c hc'; cases hc')]
    unfold execOp
    simp only [ho, hx, Instr.loadAt, Instr.sureAddr, Sem.run_bind, Sem.run_pure, Result.andThen_ok, run_loadVar_row w g 23 23 (blk f) (0, 0) _ hg Try.underlying23 rfl (by rw [blk_size]; exact size25)]
    exact hK _ _ h
/-- The slice v holds the numbers T. -/
def LiesI (w : World) (v : Value) (T : List Nat) : Prop := ∃ ad cap, v = .slice ad T.length cap ∧ ∀ i, i < T.length → ∃ g, ad = some ⟨g, 0, none⟩ ∧ g < w.heap.size ∧ w.cell? ⟨g, i, none⟩ = some (.int .i64 (T.getD i 0 : Nat))
theorem LiesI.later {w w' : World} {v : Value} {T : List Nat} (h : LiesI w v T) (hb : Below w.heap.size w w') : LiesI w' v T := by
  obtain ⟨ad, cap, rfl, hc⟩ := h
  refine ⟨ad, cap, rfl, fun i hi => ?_⟩
  obtain ⟨g, e, hg, hcell⟩ := hc i hi
  exact ⟨g, e, Nat.lt_of_lt_of_le hg hb.size, (hb.cell (p := ⟨g, i, none⟩) hg).trans hcell⟩
theorem OwnI.lies {w : World} {base : Nat} {v : Value} {T : List Nat} (h : OwnI w base v T) : LiesI w v T := by
  obtain ⟨ad, cap, e, hc⟩ := h.slice
  refine ⟨ad, cap, e, fun i hi => ?_⟩
  obtain ⟨g, e', _, hcell⟩ := hc i hi
  exact ⟨g, e', block_lt_of_cell hcell, hcell⟩

theorem prefix_snoc {pre T : List Nat} {q : Nat} (h : pre ++ [q] <+: T) : pre.length < T.length ∧ T.getD pre.length 0 = q := by
  obtain ⟨r, rfl⟩ := h
  simp
theorem eql_nil43 (lb : Array Value) (w : World) : (binOp BinOp.eql 43 (.func (.func 28) #[] lb) .nilFunc).run Try.prog w = .ok (.bool false) w := by kernel_rfl

set_option maxRecDepth 100000 in
set_option maxHeartbeats 4000000 in
theorem again_in (f : Nat → Int) (hf : Byte f) (x y most : Int) (v : Value) (w : World) (hv : LiesI w v (ones f x y 8192)) (n : Nat) (hn : 3 ≤ n) :
    CallsIn Fence.wide n Try.prog 17 #[.agg (blk f), .int .i64 x, .int .i64 y, .int .i64 most, v] w fun e w' => e = .returned (.bool true) ∧ Below w.heap.size w w' := by
  have h1 : 1 ≤ n := by omega
  have hT8 := ones_len f x y 8192
  obtain ⟨ad, cap, rfl, hcells⟩ := hv
  have HC := (show Hid _ from hcells)
  clear hcells
  refine callsIn_of_wp_marks Try.func17 rfl trivial ?_ rfl
  simp only [Try.ntmps17, List.size_toArray, List.length_cons, List.length_nil, Nat.reduceAdd, Nat.reduceSub, Array.replicate_succ, Array.replicate_zero, List.push_toArray, List.append_toArray, List.nil_append, List.cons_append]
  generalize hT : ones f x y 8192 = T at *
  have HT := (show Hid _ from hT)
  clear hT
  have heq := eql_nil43
  obtain ⟨W0, hW0⟩ : ∃ W0, ((((w.alloc (.cells (blk f) 23)).alloc (.cells #[.int .i64 most] 3)).alloc (.cells #[.slice ad T.length cap] 26)).alloc (.cells #[.bool false] 4)) = W0 := ⟨_, rfl⟩
  have hs0 : W0.heap.size = w.heap.size + 4 := by rw [← hW0]; simp
  have h0 : W0.heap[w.heap.size]? = some (.cells (blk f) 23) := by rw [← hW0]; exact heap_kept (heap_kept (heap_alloc2_old w _ (.cells #[.int .i64 most] 3)) (below_new _ (.cells #[.slice ad T.length cap] 26))) (below_new _ (.cells #[.bool false] 4))
  have c1 : W0.heap[w.heap.size + 1]? = some (.cells #[.int .i64 most] 3) := by rw [← hW0]; exact heap_kept (heap_kept (heap_alloc2_new w (.cells (blk f) 23) _) (below_new _ (.cells #[.slice ad T.length cap] 26))) (below_new _ (.cells #[.bool false] 4))
  have c2 : W0.heap[w.heap.size + 1 + 1]? = some (.cells #[.slice ad T.length cap] 26) := by
    rw [← hW0]
    refine heap_kept ?_ (below_new _ (.cells #[.bool false] 4))
    have := heap_alloc2_new (w.alloc (.cells (blk f) 23)) (.cells #[.int .i64 most] 3) (.cells #[.slice ad T.length cap] 26)
    rwa [World.size_alloc] at this
  have c3 : W0.heap[w.heap.size + 1 + 1 + 1]? = some (.cells #[.bool false] 4) := by
    rw [← hW0]
    have := heap_alloc2_new ((w.alloc (.cells (blk f) 23)).alloc (.cells #[.int .i64 most] 3)) (.cells #[.slice ad T.length cap] 26) (.cells #[.bool false] 4)
    rwa [World.size_alloc, World.size_alloc] at this
  have hB0 : Below w.heap.size w W0 := by rw [← hW0]; exact ((below_two w _ _).alloc (by simp; omega) _).alloc (by simp; omega) _
  have C1 := (show Hid _ from c1)
  have C2 := (show Hid _ from c2)
  have C3 := (show Hid _ from c3)
  have HB0 := (show Hid _ from hB0)
  have HS0 := (show Hid _ from hs0)
  clear c1 c2 c3 hB0 hs0
  gi_wp2_with (first | refine wpListIn_load25 rfl _ rfl _ rfl _ h0 ?_ | (gi_at_call 27; refine (callsIn_wide.2 (all_any f x y _)).mono ?_; rintro e W1 ⟨rfl, hA0, hA1, hA2, hA3⟩))
  -- FROM HERE
  rename_i K1 hK1
  have hlt0 : W0.heap.size + 1 + 1 < W1.heap.size := block_lt_of_cell hA2
  have hst : SeqStopsK Fence.wide (n - 1) Try.prog 28 #[.pointer (some ⟨W0.heap.size + 1, 0, none⟩), .pointer (some ⟨W0.heap.size + 1 + 1, 0, none⟩), .pointer (some ⟨W0.heap.size, 0, none⟩)] (fun x : Nat => #[Value.int .i64 (x : Int)]) (Below W1.heap.size) (fun ys => ys = T) (fun pre => pre <+: T) 8192 W1 := by
    rw [← HT.out]
    exact iter_stops f hf x y (n - 1) W1.heap.size _ _ _ W1 (Nat.le_refl _) (by omega) (by omega) (by omega) hA1 hA2 hA0
  have d1 : W1.cell? ⟨w.heap.size + 1, 0, none⟩ = some (.int .i64 most) := by rw [cell_of_row W1 _ _ _ 3 _ (heap_kept C1.out hA3)]; rfl
  have d2 : W1.cell? ⟨w.heap.size + 1 + 1, 0, none⟩ = some (.slice ad T.length cap) := by rw [cell_of_row W1 _ _ _ 26 _ (heap_kept C2.out hA3)]; rfl
  have d3 := heap_kept C3.out hA3
  have HBW : Hid (Below w.heap.size w W1) := below_next HB0.out hA3
  have HC1 : Hid (∀ i, i < T.length → ∃ g, ad = some ⟨g, 0, none⟩ ∧ g < W1.heap.size ∧ W1.cell? ⟨g, i, none⟩ = some (.int .i64 (T.getD i 0 : Nat))) := fun i hi => by
    obtain ⟨g, e, hg, hc⟩ := HC.out i hi
    exact ⟨g, e, Nat.lt_of_lt_of_le hg HBW.out.size, (HBW.out.cell (p := ⟨g, i, none⟩) hg).trans hc⟩
  have HD1 := (show Hid _ from d1)
  have HD2 := (show Hid _ from d2)
  have HD3 := (show Hid _ from d3)
  have HST := (show Hid _ from hst)
  have hltw : w.heap.size + 1 + 1 + 1 < W1.heap.size := (Array.getElem?_eq_some_iff.1 d3).1
  clear hW0 h0 C1 C2 C3 HB0 HC hA0 hA1 hA2 hA3 d1 d2 d3 hst HS0 hf
  have hn0 : (W1.alloc (.cells #[.int .i64 0] 3)).cell? ⟨W1.heap.size, 0, none⟩ = some (.int .i64 0) ∧ (W1.alloc (.cells #[.int .i64 0] 3)).frozen? ⟨W1.heap.size, 0, none⟩ = false :=
    ⟨by rw [cell_of_row _ _ _ _ 3 _ (heap_alloc_new W1 (.cells #[.int .i64 0] 3))]; rfl, frozen_of_row _ _ 0 _ 3 (heap_alloc_new W1 (.cells #[.int .i64 0] 3))⟩
  -- the second round
  have second : ∀ (D : Nat) (W : World) (k : Int), W1.heap.size ≤ D → W.heap[D]? = some (.deferred (some [])) → W.cell? ⟨W1.heap.size, 0, none⟩ = some (.int .i64 k) → W.frozen? ⟨W1.heap.size, 0, none⟩ = false → Below W1.heap.size W1 W → K1 { tmps := #[Value.agg (blk f), .int .i64 x, .int .i64 y, .int .i64 most, .slice ad T.length cap, .pointer (some ⟨w.heap.size, 0, none⟩), undef, undef, .pointer (some ⟨w.heap.size + 1, 0, none⟩), .pointer (some ⟨w.heap.size + 1 + 1, 0, none⟩), .pointer (some ⟨w.heap.size + 1 + 1 + 1, 0, none⟩), Value.func (.func 28) #[] #[.pointer (some ⟨W0.heap.size + 1, 0, none⟩), .pointer (some ⟨W0.heap.size + 1 + 1, 0, none⟩), .pointer (some ⟨W0.heap.size, 0, none⟩)], .pointer (some ⟨W1.heap.size, 0, none⟩), undef, undef, .agg (blk f), .int .i64 x, .int .i64 y, Value.func (.func 28) #[] #[.pointer (some ⟨W0.heap.size + 1, 0, none⟩), .pointer (some ⟨W0.heap.size + 1 + 1, 0, none⟩), .pointer (some ⟨W0.heap.size, 0, none⟩)], Value.func (.func 28) #[] #[.pointer (some ⟨W0.heap.size + 1, 0, none⟩), .pointer (some ⟨W0.heap.size + 1 + 1, 0, none⟩), .pointer (some ⟨W0.heap.size, 0, none⟩)], .bool false, Value.func (.func 28) #[] #[.pointer (some ⟨W0.heap.size + 1, 0, none⟩), .pointer (some ⟨W0.heap.size + 1 + 1, 0, none⟩), .pointer (some ⟨W0.heap.size, 0, none⟩)], undef, undef, undef, undef, undef, undef, undef, undef, undef, undef, undef, undef, undef, undef, undef, undef, undef, undef, undef, undef, undef, undef, undef, undef, undef, undef, undef, undef, undef, undef, undef, undef, undef, undef, undef, undef, undef, undef], defers := [{ target := .collected D, args := #[] }] } W := by
    intro D W k hD hK hc hfz hB
    refine hK1 _ _ ?_
    clear hK1 hn0
    gi_wp2
    have hc2 := World.cell?_setCell_same' W ⟨W1.heap.size, 0, none⟩ (.int .i64 0) (by rw [hc]; rfl)
    have hfz2 : (W.setCell ⟨W1.heap.size, 0, none⟩ (.int .i64 0)).frozen? ⟨W1.heap.size, 0, none⟩ = false := by rw [World.frozen?_setCell]; exact hfz
    have hB2 : Below W1.heap.size W1 (W.setCell ⟨W1.heap.size, 0, none⟩ (.int .i64 0)) := hB.setCell (p := ⟨W1.heap.size, 0, none⟩) (Nat.le_refl _) _
    have hK2 := (KeepsOthers.setCell W ⟨W1.heap.size, 0, none⟩ (.int .i64 0)).same D _ hK rfl
    generalize W.setCell ⟨W1.heap.size, 0, none⟩ (.int .i64 0) = W2 at hc2 hfz2 hB2 hK2 ⊢
    clear hc hfz hB hK W k
    have hDlt : D < W2.heap.size := (Array.getElem?_eq_some_iff.1 hK2).1
    refine wpIn_rangeFunc_ownF rfl h1 (gf := 28) rfl trivial (enters_of Try.func28 (by kernel_rfl) rfl) HST.out belowK_t (belowK_b hB2.size) hB2 (fun _ => rfl)
      (fun pre V => ((V.cell? ⟨W1.heap.size, 0, none⟩ = some (.int .i64 (pre.length : Nat)) ∧ V.frozen? ⟨W1.heap.size, 0, none⟩ = false) ∧ Below W1.heap.size W1 V) ∧ V.heap[D]? = some (.deferred (some [])) ∧ W2.heap.size ≤ V.heap.size)
      (fun c pre V => c = .ret ∧ ¬ pre <+: T)
      (OwnFrom.and (OwnFrom.and (Own.from (fun s A B row hs hg hr => ⟨cell_kept hs.1 hg hr, (frozen_kept hs.1 hg hr).trans hs.2⟩) _) (ownFrom_below (Nat.le_refl _) hB2.size))
        (fun s A B row hs hg hr => ⟨(hg.block D (Nat.lt_of_lt_of_le hDlt hs.2) (fun e => by have := (hr D e.symm).1; omega)).trans hs.1, Nat.le_trans hs.2 hg.size⟩))
      (fun c s A B row hs _ _ => hs)
      ⟨⟨⟨hc2, hfz2⟩, hB2⟩, hK2, Nat.le_refl _⟩
      (fun q => { tmps := #[Value.agg (blk f), .int .i64 x, .int .i64 y, .int .i64 most, .slice ad T.length cap, .pointer (some ⟨w.heap.size, 0, none⟩), undef, undef, .pointer (some ⟨w.heap.size + 1, 0, none⟩), .pointer (some ⟨w.heap.size + 1 + 1, 0, none⟩), .pointer (some ⟨w.heap.size + 1 + 1 + 1, 0, none⟩), Value.func (.func 28) #[] #[.pointer (some ⟨W0.heap.size + 1, 0, none⟩), .pointer (some ⟨W0.heap.size + 1 + 1, 0, none⟩), .pointer (some ⟨W0.heap.size, 0, none⟩)], .pointer (some ⟨W1.heap.size, 0, none⟩), undef, .int .i64 (q : Int), .agg (blk f), .int .i64 x, .int .i64 y, Value.func (.func 28) #[] #[.pointer (some ⟨W0.heap.size + 1, 0, none⟩), .pointer (some ⟨W0.heap.size + 1 + 1, 0, none⟩), .pointer (some ⟨W0.heap.size, 0, none⟩)], Value.func (.func 28) #[] #[.pointer (some ⟨W0.heap.size + 1, 0, none⟩), .pointer (some ⟨W0.heap.size + 1 + 1, 0, none⟩), .pointer (some ⟨W0.heap.size, 0, none⟩)], .bool false, Value.func (.func 28) #[] #[.pointer (some ⟨W0.heap.size + 1, 0, none⟩), .pointer (some ⟨W0.heap.size + 1 + 1, 0, none⟩), .pointer (some ⟨W0.heap.size, 0, none⟩)], undef, undef, undef, undef, undef, undef, undef, undef, undef, undef, undef, undef, undef, undef, undef, undef, undef, undef, Value.func (.func 28) #[] #[.pointer (some ⟨W0.heap.size + 1, 0, none⟩), .pointer (some ⟨W0.heap.size + 1 + 1, 0, none⟩), .pointer (some ⟨W0.heap.size, 0, none⟩)], .int .i64 (q : Int), undef, undef, undef, undef, undef, undef, undef, undef, undef, undef, undef, undef, undef, undef, undef, undef, undef, undef], defers := [] }) ?assign ?body ?done ?stop
    case assign =>
      intro l q V K hK
      gi_wp2
      exact hK
    case body =>
      rintro l pre q V ⟨⟨⟨hc, hfz⟩, hB⟩, hKD, hszV⟩ hlen
      have e2 := (hB.cell (p := ⟨w.heap.size + 1 + 1, 0, none⟩) (by simp only; omega)).trans HD2.out
      have e3 : V.cell? ⟨w.heap.size + 1 + 1 + 1, 0, none⟩ = some (.bool false) := by rw [cell_of_row V _ _ _ 4 _ ((hB.block _ hltw).trans HD3.out)]; rfl
      have e4 : V.frozen? ⟨w.heap.size + 1 + 1 + 1, 0, none⟩ = false := frozen_of_row V _ 0 _ 4 ((hB.block _ hltw).trans HD3.out)
      have HBB := (show Hid _ from hB)
      have HKD := (show Hid _ from hKD)
      clear hB hKD hc2 hfz2 hB2 hK2
      by_cases hl : pre.length < T.length
      · obtain ⟨g, rfl, hg, hcell⟩ := HC1.out pre.length hl
        have e5 := (HBB.out.cell (p := ⟨g, pre.length, none⟩) hg).trans hcell
        have hl2 : decide (((T.length : Nat) : Int) ≤ ((pre.length : Nat) : Int)) = false := decide_eq_false (by omega)
        have hl3 : decide (T.length ≤ pre.length) = false := decide_eq_false (by omega)
        have HPre : Hid (pre ++ [q] <+: T → T.getD pre.length 0 = q) := fun h => (prefix_snoc h).2
        clear hcell
        generalize T.getD pre.length 0 = z at e5 HPre
        by_cases hq : (q : Int) = (z : Int)
        · have hq' : (((q : Nat) : Int) != ((z : Nat) : Int)) = false := by simp [hq]
          clear hq
          gi_wp2
          exact ⟨KeepsOthers.setCell _ _ _, (Below.refl W1.heap.size V).setCell (p := ⟨W1.heap.size, 0, none⟩) (Nat.le_refl _) _, ⟨⟨by
            rw [World.cell?_setCell_same' _ _ _ (by rw [hc]; rfl), List.length_append]; rfl, by rw [World.frozen?_setCell]; exact hfz⟩, HBB.out.setCell (p := ⟨W1.heap.size, 0, none⟩) (Nat.le_refl _) _⟩, (KeepsOthers.setCell V _ _).same D _ HKD.out rfl, Nat.le_trans hszV (KeepsOthers.setCell V _ _).size⟩
        · have hq' : (((q : Nat) : Int) != ((z : Nat) : Int)) = true := by simp [hq]
          have HQ : Hid (¬ pre ++ [q] <+: T) := fun h => hq (by have := HPre.out h; omega)
          clear hq
          gi_wp2
          exact ⟨KeepsOthers.setCell _ _ _, rfl, HQ.out⟩
      · have hl2 : decide (((T.length : Nat) : Int) ≤ ((pre.length : Nat) : Int)) = true := decide_eq_true (by omega)
        have hl3 : decide (T.length ≤ pre.length) = true := decide_eq_true (by omega)
        have HQ : Hid (¬ pre ++ [q] <+: T) := fun h => hl (prefix_snoc h).1
        clear hl
        gi_wp2
        exact ⟨KeepsOthers.setCell _ _ _, rfl, HQ.out⟩
    case done =>
      rintro D2 ys V hD2 rfl ⟨⟨⟨hc, hfz⟩, hB⟩, hKD, hszV⟩ hK2'
      have e2 := (hB.cell (p := ⟨w.heap.size + 1 + 1, 0, none⟩) (by simp only; omega)).trans HD2.out
      have e3 : V.cell? ⟨w.heap.size + 1 + 1 + 1, 0, none⟩ = some (.bool false) := by rw [cell_of_row V _ _ _ 4 _ ((hB.block _ hltw).trans HD3.out)]; rfl
      have e4 : V.frozen? ⟨w.heap.size + 1 + 1 + 1, 0, none⟩ = false := frozen_of_row V _ 0 _ 4 ((hB.block _ hltw).trans HD3.out)
      have HBB : Hid (Below w.heap.size w V) := HBW.out.trans (hB.mono HBW.out.size)
      have HKD := (show Hid _ from hKD)
      have HK2 := (show Hid _ from hK2')
      clear hB hKD hK2' hc2 hfz2 hB2 hK2
      gi_wp2
      have hK3 := (KeepsOthers.setCell V ⟨w.heap.size + 1 + 1 + 1, 0, none⟩ (.bool true)).same D2 _ HK2.out rfl
      have hK4 := (KeepsOthers.setCell V ⟨w.heap.size + 1 + 1 + 1, 0, none⟩ (.bool true)).same D _ HKD.out rfl
      have hc4 := World.cell?_setCell_same' V ⟨w.heap.size + 1 + 1 + 1, 0, none⟩ (.bool true) (by rw [e3]; rfl)
      have hB4 : Below w.heap.size w (V.setCell ⟨w.heap.size + 1 + 1 + 1, 0, none⟩ (.bool true)) := HBB.out.setCell (p := ⟨w.heap.size + 1 + 1 + 1, 0, none⟩) (by simp only; omega) _
      generalize V.setCell ⟨w.heap.size + 1 + 1 + 1, 0, none⟩ (.bool true) = X at hK3 hK4 hc4 hB4 ⊢
      refine ⟨by simp, .inl ⟨_, _, rfl, run_takeDeferred hK3, ?_⟩⟩
      have hK5 : (X.putObj D2 (.deferred none)).heap[D]? = some (.deferred (some [])) := (World.putObj_heap_other (by omega)).trans hK4
      refine ⟨by simp, .inl ⟨_, _, rfl, run_takeDeferred hK5, ?_⟩⟩
      have hc5 := cell_kept (cell_kept hc4 (grownBy_putObj' _ D2 (.deferred none)) (fun r e => by cases e; exact ⟨_, hK3, rfl⟩)) (grownBy_putObj' _ D (.deferred none)) (fun r e => by cases e; exact ⟨_, hK5, rfl⟩)
      refine ⟨.bool true, ?_, rfl, (hB4.trans (belowK_b (w := w) (Nat.le_refl _) X D2 _ _ (by have := HBW.out.size; omega) hK3 rfl rfl)).trans (belowK_b (w := w) (Nat.le_refl _) _ D _ _ (by have := HBW.out.size; omega) hK5 rfl rfl)⟩
      simp [results, Try.f17, go_sem, hc5]
    case stop =>
      rintro D2 c pre V hD2 hpre ⟨_, h⟩ _
      exact absurd hpre h
  refine wpIn_rangeFunc_ownF rfl h1 (gf := 28) rfl trivial (enters_of Try.func28 (by kernel_rfl) rfl) HST.out belowK_t (belowK_b (by simp)) (below_new _ _) (fun _ => rfl)
    (fun pre W => (W.cell? ⟨W1.heap.size, 0, none⟩ = some (.int .i64 (pre.length : Nat)) ∧ W.frozen? ⟨W1.heap.size, 0, none⟩ = false) ∧ Below W1.heap.size W1 W)
    (fun c pre W => (c = .ret ∧ ¬ pre <+: T) ∨ (c = .exit 0 ∧ ((∃ k, W.cell? ⟨W1.heap.size, 0, none⟩ = some (.int .i64 k)) ∧ W.frozen? ⟨W1.heap.size, 0, none⟩ = false) ∧ Below W1.heap.size W1 W))
    (OwnFrom.and (Own.from (fun s A B row hs hg hr => ⟨cell_kept hs.1 hg hr, (frozen_kept hs.1 hg hr).trans hs.2⟩) _) (ownFrom_below (Nat.le_refl _) (by simp)))
    (fun c s A B row hs hg hr => by
      rcases hs with hs | ⟨e, ⟨⟨k, hk⟩, hfz⟩, hb⟩
      · exact .inl hs
      · exact .inr ⟨e, ⟨⟨k, cell_kept hk hg (fun r e => (hr r e).2)⟩, (frozen_kept hk hg (fun r e => (hr r e).2)).trans hfz⟩, ownFrom_below (Nat.le_refl _) (by simp) s A B row hb hg hr⟩)
    ⟨⟨hn0.1, hn0.2⟩, below_new _ _⟩
    (fun q => { tmps := #[Value.agg (blk f), .int .i64 x, .int .i64 y, .int .i64 most, .slice ad T.length cap, .pointer (some ⟨w.heap.size, 0, none⟩), undef, undef, .pointer (some ⟨w.heap.size + 1, 0, none⟩), .pointer (some ⟨w.heap.size + 1 + 1, 0, none⟩), .pointer (some ⟨w.heap.size + 1 + 1 + 1, 0, none⟩), Value.func (.func 28) #[] #[.pointer (some ⟨W0.heap.size + 1, 0, none⟩), .pointer (some ⟨W0.heap.size + 1 + 1, 0, none⟩), .pointer (some ⟨W0.heap.size, 0, none⟩)], .pointer (some ⟨W1.heap.size, 0, none⟩), .int .i64 (q : Int), undef, .agg (blk f), .int .i64 x, .int .i64 y, Value.func (.func 28) #[] #[.pointer (some ⟨W0.heap.size + 1, 0, none⟩), .pointer (some ⟨W0.heap.size + 1 + 1, 0, none⟩), .pointer (some ⟨W0.heap.size, 0, none⟩)], Value.func (.func 28) #[] #[.pointer (some ⟨W0.heap.size + 1, 0, none⟩), .pointer (some ⟨W0.heap.size + 1 + 1, 0, none⟩), .pointer (some ⟨W0.heap.size, 0, none⟩)], .bool false, Value.func (.func 28) #[] #[.pointer (some ⟨W0.heap.size + 1, 0, none⟩), .pointer (some ⟨W0.heap.size + 1 + 1, 0, none⟩), .pointer (some ⟨W0.heap.size, 0, none⟩)], .int .i64 (q : Int), undef, undef, undef, undef, undef, undef, undef, undef, undef, undef, undef, undef, undef, undef, undef, undef, undef, undef, undef, undef, undef, undef, undef, undef, undef, undef, undef, undef, undef, undef, undef, undef, undef, undef, undef, undef, undef], defers := [] }) ?assign ?body ?done ?stop
  case assign =>
    intro l q W K hK
    gi_wp2
    exact hK
  case body =>
    rintro l pre q W ⟨⟨hc, hfz⟩, hB⟩ hlen
    have e1 := (hB.cell (p := ⟨w.heap.size + 1, 0, none⟩) (by simp only; omega)).trans HD1.out
    have e2 := (hB.cell (p := ⟨w.heap.size + 1 + 1, 0, none⟩) (by simp only; omega)).trans HD2.out
    have e3 : W.cell? ⟨w.heap.size + 1 + 1 + 1, 0, none⟩ = some (.bool false) := by rw [cell_of_row W _ _ _ 4 _ ((hB.block _ hltw).trans HD3.out)]; rfl
    have e4 : W.frozen? ⟨w.heap.size + 1 + 1 + 1, 0, none⟩ = false := frozen_of_row W _ 0 _ 4 ((hB.block _ hltw).trans HD3.out)
    have HBB := (show Hid _ from hB)
    clear second hn0 hB
    by_cases hm : ((pre.length : Nat) : Int) = most
    · have hm' : (((pre.length : Nat) : Int) == most) = true := by simp [hm]
      clear hm
      gi_wp2
      exact ⟨KeepsOthers.refl _, .inr ⟨rfl, ⟨⟨_, hc⟩, hfz⟩, HBB.out⟩⟩
    · have hm' : (((pre.length : Nat) : Int) == most) = false := by simp [hm]
      clear hm
      by_cases hl : pre.length < T.length
      · obtain ⟨g, rfl, hg, hcell⟩ := HC1.out pre.length hl
        have e5 := (HBB.out.cell (p := ⟨g, pre.length, none⟩) hg).trans hcell
        have hl' : ¬ ((pre.length : Nat) : Int) ≥ (T.length : Nat) := by omega
        have hl2 : decide (((T.length : Nat) : Int) ≤ ((pre.length : Nat) : Int)) = false := decide_eq_false (by omega)
        have hl3 : decide (T.length ≤ pre.length) = false := decide_eq_false (by omega)
        have HPre : Hid (pre ++ [q] <+: T → T.getD pre.length 0 = q) := fun h => (prefix_snoc h).2
        clear hcell
        generalize T.getD pre.length 0 = z at e5 HPre
        by_cases hq : (q : Int) = (z : Int)
        · have hq' : (((q : Nat) : Int) != ((z : Nat) : Int)) = false := by simp [hq]
          clear hq
          gi_wp2
          exact ⟨KeepsOthers.setCell _ _ _, (Below.refl W1.heap.size W).setCell (p := ⟨W1.heap.size, 0, none⟩) (Nat.le_refl _) _, ⟨by
            rw [World.cell?_setCell_same' _ _ _ (by rw [hc]; rfl), List.length_append]; rfl, by rw [World.frozen?_setCell]; exact hfz⟩, HBB.out.setCell (p := ⟨W1.heap.size, 0, none⟩) (Nat.le_refl _) _⟩
        · have hq' : (((q : Nat) : Int) != ((z : Nat) : Int)) = true := by simp [hq]
          have HQ : Hid (¬ pre ++ [q] <+: T) := fun h => hq (by have := HPre.out h; omega)
          clear hq
          gi_wp2
          exact ⟨KeepsOthers.setCell _ _ _, .inl ⟨rfl, HQ.out⟩⟩
      · have hl2 : decide (((T.length : Nat) : Int) ≤ ((pre.length : Nat) : Int)) = true := decide_eq_true (by omega)
        have hl3 : decide (T.length ≤ pre.length) = true := decide_eq_true (by omega)
        have HQ : Hid (¬ pre ++ [q] <+: T) := fun h => hl (prefix_snoc h).1
        clear hl
        gi_wp2
        exact ⟨KeepsOthers.setCell _ _ _, .inl ⟨rfl, HQ.out⟩⟩
  case done =>
    rintro D ys W hD _ ⟨⟨hc, hfz⟩, hB⟩ hK
    exact second D W _ (by simp at hD; omega) hK hc hfz hB
  case stop =>
    rintro D c pre W hD hpre h hK
    rcases h with ⟨_, h⟩ | ⟨rfl, ⟨⟨k, hc⟩, hfz⟩, hB⟩
    · exact absurd hpre h
    · gi_wp2
      exact second D W k (by simp at hD; omega) hK hc hfz hB
end Go.Proofs.Ytplgelhfombhkaa
