/- Small facts for SlabKnown's walk: pieces at given places, whole blocks loaded under a guard, a list of one block; no condition. -/
import Derived.Test.YtedbgeibhaiheabAwake
import Derived.Test.YtedbgeibhaiheabSame
namespace Go.Proofs.Ytedbgeibhaiheab
open Go.RowKit

theorem row_lies {w : World} {g n : Nat} {f : Nat → Int} {t : TypeId} (h : w.heap[g]? = some (.cells (rowA f n) t)) (off len cap : Nat) (hn : off + len ≤ n) (hc : len ≤ cap) (hm : len ≤ maxLen) :
    Lies w (.slice (some ⟨g, off, none⟩) len cap) len (from' f off) :=
  .inr ⟨g, off, cap, rfl, hm, hc, (Array.getElem?_eq_some_iff.1 h).1, fun i hi => cell_row h (off + i) (by omega)⟩
theorem piece_c (f : Nat → Int) (a n : Int) (lo len : Nat) (w : World) (ha : -9223372036854775808 ≤ a ∧ a ≤ 9223372036854775807) (hn : -9223372036854775808 ≤ n ∧ n ≤ 9223372036854775807)
    (h1 : insLo a n = lo) (h2 : insHi a n - insLo a n = len) :
    Calls Try.prog 4 #[.agg (blk f), .int .i64 a, .int .i64 n] w fun e w' => e = .returned (.slice (some ⟨w.heap.size + 1, 0, none⟩) len len) ∧ Lies w' (.slice (some ⟨w.heap.size + 1, 0, none⟩) len len) len (from' (from' f lo) 0) ∧ Below w.heap.size w w' := by
  have h := piece_any f a n w ha hn
  have hl := ins_le a n
  rw [h2, h1] at h
  exact h.mono fun e w' ⟨e1, e2, _, e4⟩ => ⟨e1, row_lies e2 0 len len (by omega) (Nat.le_refl _) (by unfold maxLen; omega), e4⟩
theorem wpList_load25w {ops : Array Oper} {rest : List Oper} {o : Oper} {a : Act} {w : World} {Q : Exit → Act → World → Prop} (hw : Region.wanted o (yielded ops a.tmps) = true) (x : Operand) (ho : o.op = .load 23 x)
    (g : Nat) (hx : a.eval x = .pointer (some ⟨g, 0, none⟩)) (f : Nat → Int) (hg : w.heap[g]? = some (.cells (blk f) 23))
    (h : wpList Try.prog ops Q rest (a.put o.dst (.agg (blk f))) w) : wpList Try.prog ops Q (o :: rest) a w :=
  BigFrame.wpList_want hw fun _ hK => wp_load_row 23 x ho g hx 23 (blk f) (0, 0) _ hg Try.underlying23 rfl (by rw [blk_size]; exact size25) (hK _ _ h)
theorem fold_set : ∀ (l : List Value) (k : Nat) (cs : Array Value), k + l.length ≤ cs.size → ∀ j,
    ((l.zipIdx k).foldl (fun (cs : Array Value) (p : Value × Nat) => cs.setIfInBounds (0 + p.2) p.1) cs)[j]? = if k ≤ j ∧ j < k + l.length then l[j - k]? else cs[j]?
  | [], k, cs, _, j => by simp; intro h1 h2; omega
  | v :: l, k, cs, h, j => by
    simp only [List.length_cons] at h
    rw [List.zipIdx_cons, List.foldl_cons, fold_set l (k + 1) _ (by simp; omega) j]
    by_cases h1 : k + 1 ≤ j ∧ j < k + 1 + l.length
    · rw [if_pos h1, if_pos (by simp only [List.length_cons]; omega), show j - k = (j - (k + 1)) + 1 by omega, List.getElem?_cons_succ]
    · rw [if_neg h1, Array.getElem?_setIfInBounds, Nat.zero_add]
      by_cases h2 : k = j
      · subst h2; rw [if_pos rfl, if_pos (by omega), if_pos (by simp only [List.length_cons]; omega), Nat.sub_self]; rfl
      · rw [if_neg h2, if_neg (by simp only [List.length_cons]; omega)]
theorem fill_blk (f : Nat → Int) (z : Array Value) (hz : z.size = 1024) : Instr.fill (fun i => some (i * 1024, 1024)) z [(0, .agg (blk f))] = some (blk f) := by
  have key : Array.foldl (fun (cs : Array Value) (p : Value × Nat) => cs.setIfInBounds (0 + p.2) p.1) z (blk f).zipIdx = blk f := by
    apply Array.ext_getElem?
    intro j
    rw [← Array.foldl_toList, Array.toList_zipIdx, fold_set (blk f).toList 0 _ (by rw [Array.length_toList, blk_size, hz]; omega)]
    rw [Array.length_toList, blk_size]
    by_cases hj : j < 1024
    · rw [if_pos (by omega), Nat.sub_zero, Array.getElem?_toList]
    · rw [if_neg (by omega), Array.getElem?_eq_none (by omega), Array.getElem?_eq_none (by rw [blk_size]; omega)]
  have hc : ((Value.agg (blk f)).cells.size ≠ 1024 || decide (0 * 1024 + (Value.agg (blk f)).cells.size > z.size)) = false := by
    simp [Value.cells, blk_size, hz]
  unfold Instr.fill
  simp only [hc, Bool.false_eq_true, if_false]
  rw [show (0 * 1024 : Nat) = 0 from rfl]
  exact (congrArg (fun c => Instr.fill (fun i => some (i * 1024, 1024)) c []) key).trans rfl
theorem run_buildSlice_gen {P : Program} (u : World) (t e : TypeId) (len size : Nat) (zero : Value) (parts : Array (Nat × Value)) (cells : Array Value) (hu : P.underlying t = some (.slice e)) (hs : (sizeOf e).run P u = .ok size u)
    (hb : ¬ len * size > 2 ^ 24) (h0 : ¬ len * size = 0) (hz : (zeroValue e).run P u = .ok zero u)
    (hf : Instr.fill (fun i => some (i * size, size)) ((Array.range (len * size)).map (zero.cells[· % zero.cells.size]!)) parts.toList = some cells) :
    (Instr.buildSlice t len parts).run P u = .ok (.slice (some ⟨u.heap.size, 0, none⟩) len len) (u.alloc (.cells cells e)) := by
  simp only [Instr.buildSlice, Sem.run_bind, run_underlying hu, Result.andThen_ok, hs]
  rw [if_neg hb, if_neg h0]
  simp only [Sem.run_bind, hz, Result.andThen_ok, Sem.run_pure, hf, newRow, run_newObj_alloc]
theorem build1 (f : Nat → Int) (u : World) : (Instr.buildSlice 32 1 #[(0, .agg (blk f))]).run Try.prog u = .ok (.slice (some ⟨u.heap.size, 0, none⟩) 1 1) (u.alloc (.cells (blk f) 23)) :=
  run_buildSlice_gen u 32 23 1 1024 (.agg (blk nought)) #[(0, .agg (blk f))] (blk f) Try.underlying32 (Try.sizeOf23 u) (by omega) (by omega) (zero25 u) (fill_blk f _ (by rw [Array.size_map, Array.size_range]))
theorem wpList_build1 {ops : Array Oper} {rest : List Oper} {o : Oper} {a : Act} {w : World} {Q : Exit → Act → World → Prop} (hw : Region.wanted o (yielded ops a.tmps) = true) (x : Operand) (ho : o.op = .buildSlice 32 1 #[(0, x)])
    (f : Nat → Int) (hx : a.eval x = .agg (blk f))
    (h : wpList Try.prog ops Q rest (a.put o.dst (.slice (some ⟨w.heap.size, 0, none⟩) 1 1)) (w.alloc (.cells (blk f) 23))) : wpList Try.prog ops Q (o :: rest) a w :=
  BigFrame.wpList_want hw fun _ hK => by
    have hr := build1 f w
    unfold Oper.wp execOp
    have hm : (#[(0, x)] : Array (Nat × Operand)).map (fun p => (p.1, a.eval p.2)) = #[(0, .agg (blk f))] := by simp [hx]
    simp only [ho]
    have e : (do pure (Next.value (← Instr.buildSlice 32 1 ((#[(0, x)] : Array (Nat × Operand)).map fun (i, x) => (i, a.eval x)))) : Sem Next).run Try.prog w = .ok (.value (.slice (some ⟨w.heap.size, 0, none⟩) 1 1)) (w.alloc (.cells (blk f) 23)) := by
      rw [show ((#[(0, x)] : Array (Nat × Operand)).map fun (i, x) => (i, a.eval x)) = #[(0, .agg (blk f))] from hm]
      simp only [Sem.run_bind, hr, Result.andThen_ok, Sem.run_pure]
    exact (congrArg (Oper.upon Try.prog o a _ Q) e).mpr (hK _ _ h)
theorem lies3' (w : World) : Lies (w.alloc (.cells #[.int .u8 1, .int .u8 2, .int .u8 3] 5)) (.slice (some ⟨w.heap.size, 0, none⟩) 3 3) 3 (fun i => if i = 0 then 1 else if i = 1 then 2 else 3) := lies3 w 1 2 3
end Go.Proofs.Ytedbgeibhaiheab
