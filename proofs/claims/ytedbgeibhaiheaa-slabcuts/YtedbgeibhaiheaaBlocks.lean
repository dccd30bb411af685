/- Lists of blocks in memory: made, marked, copied, lent; they are of fewer than 2 to the 47th bytes. -/
import Derived.Test.YtedbgeibhaiheaaApart
import Derived.Test.YtedbgeibhaiheaaJoin
import Derived.Deep.MidRow
namespace Go.Proofs.Ytedbgeibhaiheaa
open Go.RowKit

theorem fold_set : ∀ (l : List Value) (k : Nat) (cs : Array Value), k + l.length ≤ cs.size → ∀ j,
    ((l.zipIdx k).foldl (fun (cs : Array Value) (p : Value × Nat) => cs.setIfInBounds (0 + p.2) p.1) cs)[j]? = if k ≤ j ∧ j < k + l.length then l[j - k]? else cs[j]?
  | [], k, cs, _, j => by simp; intro h1 h2; omega
  | v :: l, k, cs, h, j => by
    simp only [List.length_cons] at h
    rw [List.zipIdx_cons, List.foldl_cons, fold_set l (k + 1) _ (by simp; omega) j]
    by_cases h1 : k + 1 ≤ j ∧ j < k + 1 + l.length
    · rw [if_pos h1, if_pos (by simp only [List.length_cons]; omega), show j - k = (j - (k + 1)) + 1 by omega, List.getElem?_cons_succ]
    · rw [if_neg h1, Array.getElem?_setIfInBounds, Nat.zero_add]
      by_cases h2 : k = j
      · subst h2; rw [if_pos rfl, if_pos (by omega), if_pos (by simp only [List.length_cons]; omega), Nat.sub_self]; rfl
      · rw [if_neg h2, if_neg (by simp only [List.length_cons]; omega)]
theorem fill_blk (f : Nat → Int) (z : Array Value) (hz : z.size = 1024) : Instr.fill (fun i => some (i * 1024, 1024)) z [(0, .agg (blk f))] = some (blk f) := by
  have key : Array.foldl (fun (cs : Array Value) (p : Value × Nat) => cs.setIfInBounds (0 + p.2) p.1) z (blk f).zipIdx = blk f := by
    apply Array.ext_getElem?
    intro j
    rw [← Array.foldl_toList, Array.toList_zipIdx, fold_set (blk f).toList 0 _ (by rw [Array.length_toList, blk_size, hz]; omega)]
    rw [Array.length_toList, blk_size]
    by_cases hj : j < 1024
    · rw [if_pos (by omega), Nat.sub_zero, Array.getElem?_toList]
    · rw [if_neg (by omega), Array.getElem?_eq_none (by omega), Array.getElem?_eq_none (by rw [blk_size]; omega)]
  have hc : ((Value.agg (blk f)).cells.size ≠ 1024 || decide (0 * 1024 + (Value.agg (blk f)).cells.size > z.size)) = false := by
    simp [Value.cells, blk_size, hz]
  unfold Instr.fill
  simp only [hc, Bool.false_eq_true, if_false]
  rw [show (0 * 1024 : Nat) = 0 from rfl]
  exact (congrArg (fun c => Instr.fill (fun i => some (i * 1024, 1024)) c []) key).trans rfl
theorem run_buildSlice_gen {P : Program} (u : World) (t e : TypeId) (len size : Nat) (zero : Value) (parts : Array (Nat × Value)) (cells : Array Value) (hu : P.underlying t = some (.slice e)) (hs : (sizeOf e).run P u = .ok size u)
    (hb : ¬ len * size > 2 ^ 24) (h0 : ¬ len * size = 0) (hz : (zeroValue e).run P u = .ok zero u)
    (hf : Instr.fill (fun i => some (i * size, size)) ((Array.range (len * size)).map (zero.cells[· % zero.cells.size]!)) parts.toList = some cells) :
    (Instr.buildSlice t len parts).run P u = .ok (.slice (some ⟨u.heap.size, 0, none⟩) len len) (u.alloc (.cells cells e)) := by
  simp only [Instr.buildSlice, Sem.run_bind, run_underlying hu, Result.andThen_ok, hs]
  rw [if_neg hb, if_neg h0]
  simp only [Sem.run_bind, hz, Result.andThen_ok, Sem.run_pure, hf, newRow, run_newObj_alloc]
theorem build1 (f : Nat → Int) (u : World) : (Instr.buildSlice 43 1 #[(0, .agg (blk f))]).run Try.prog u = .ok (.slice (some ⟨u.heap.size, 0, none⟩) 1 1) (u.alloc (.cells (blk f) 25)) :=
  run_buildSlice_gen u 43 25 1 1024 (.agg (blk nought)) #[(0, .agg (blk f))] (blk f) Try.underlying43 (Try.sizeOf25 u) (by omega) (by omega) (zero25 u) (fill_blk f _ (by rw [Array.size_map, Array.size_range]))
theorem wpList_build1 {ops : Array Oper} {rest : List Oper} {o : Oper} {a : Act} {w : World} {Q : Exit → Act → World → Prop} (hw : Region.wanted o (yielded ops a.tmps) = true) (x : Operand) (ho : o.op = .buildSlice 43 1 #[(0, x)])
    (f : Nat → Int) (hx : a.eval x = .agg (blk f))
    (h : wpList Try.prog ops Q rest (a.put o.dst (.slice (some ⟨w.heap.size, 0, none⟩) 1 1)) (w.alloc (.cells (blk f) 25))) : wpList Try.prog ops Q (o :: rest) a w :=
  BigFrame.wpList_want hw fun _ hK => by
    have hr := build1 f w
    unfold Oper.wp execOp
    have hm : (#[(0, x)] : Array (Nat × Operand)).map (fun p => (p.1, a.eval p.2)) = #[(0, .agg (blk f))] := by simp [hx]
    simp only [ho]
    have e : (do pure (Next.value (← Instr.buildSlice 43 1 ((#[(0, x)] : Array (Nat × Operand)).map fun (i, x) => (i, a.eval x)))) : Sem Next).run Try.prog w = .ok (.value (.slice (some ⟨w.heap.size, 0, none⟩) 1 1)) (w.alloc (.cells (blk f) 25)) := by
      rw [show ((#[(0, x)] : Array (Nat × Operand)).map fun (i, x) => (i, a.eval x)) = #[(0, .agg (blk f))] from hm]
      simp only [Sem.run_bind, hr, Result.andThen_ok, Sem.run_pure]
    exact (congrArg (Oper.upon Try.prog o a _ Q) e).mpr (hK _ _ h)

/-- The slice v owns n blocks of the bytes F 0, F 1 .., in memory from base on. -/
def OwnB (w : World) (base : Nat) (v : Value) (n : Nat) (F : Nat → Int) : Prop := w.ownsRow base 25 1024 v n (rowA F (n * 1024)).toList
/-- n blocks of F, f behind them. -/
def catB (F : Nat → Int) (n : Nat) (f : Nat → Int) : Nat → Int := fun i => if i < n * 1024 then F i else f (i - n * 1024)
theorem OwnB.later {w w' : World} {base : Nat} {v : Value} {n : Nat} {F : Nat → Int} (h : OwnB w base v n F) (hb : Below w.heap.size w w') : OwnB w' base v n F := ownsRow_later h hb
theorem OwnB.congr {w : World} {base : Nat} {v : Value} {n : Nat} {F G : Nat → Int} (h : OwnB w base v n F) (hf : ∀ i, i < n * 1024 → F i = G i) : OwnB w base v n G := by
  unfold OwnB at *
  rw [← rowA_congr hf]
  exact h
theorem OwnB.nil (w : World) (base : Nat) (F : Nat → Int) : OwnB w base (.slice none 0 0) 0 F := by
  unfold OwnB
  rw [Nat.zero_mul]
  exact World.ownsRow_nil w base 25 1024
theorem rowA_snocB (F : Nat → Int) (n : Nat) (f : Nat → Int) : (rowA F (n * 1024)).toList ++ (blk f).toList = (rowA (catB F n f) ((n + 1) * 1024)).toList := by
  rw [blk_row, Nat.add_mul]
  exact rowA_cat F f (n * 1024) 1024 _ (fun i hi => by unfold catB; rw [if_pos hi]) (fun i hi => by unfold catB; rw [if_neg (by omega), Nat.add_sub_cancel_left])
theorem blk_ones (f : Nat → Int) : ∀ v ∈ (blk f).toList, v.oneCell' = true := rowA_one f 1024
theorem blk_len (f : Nat → Int) : (blk f).toList.length = 1024 := rowA_len f 1024
theorem wpList_pushB {ops : Array Oper} {rest : List Oper} {o : Oper} {a : Act} {W : World} {Q : Exit → Act → World → Prop} (hgd : o.guard = none) (s x : Operand)
    (ho : o.op = .call { callee := .builtin .append, args := #[s, x], argTypes := #[43, 43] }) (base : Nat) (v : Value) (n : Nat) (F f : Nat → Int) (hs : a.eval s = v)
    (hx : a.eval x = .slice (some ⟨W.heap.size, 0, none⟩) 1 1) (hown : OwnB W base v n F) (hn : (n + 1) * 1024 ≤ 140737488355328) (hbase : base ≤ W.heap.size)
    (h : ∀ v' w', OwnB w' base v' (n + 1) (catB F n f) → (W.alloc (.cells (blk f) 25)).grownBy w' v.ownBlock → Below base W w' → wpList Try.prog ops Q rest (a.put o.dst v') w') :
    wpList Try.prog ops Q (o :: rest) a (W.alloc (.cells (blk f) 25)) := by
  obtain ⟨i0, hi0, hz0, hz1, hz2⟩ := info_parts info25b
  refine wpList_append_own _ hgd s x 43 ho base 25 i0 (.agg (blk nought)) 1024 1024 Try.underlying43 hi0 hz0 hz1 hz2 (blk_size nought) (by decide) v n _ hs (World.ownsRow.alloc hown _) ⟨W.heap.size, 0, none⟩ 1 1 (blk f).toList hx (by rw [blk_len]) (fun j u hu => ?_)
    (blk_ones f) (by unfold maxLen; omega) (by omega) (by simp; omega) ?_
  · rw [Go.WideShapes.add_plain, Nat.zero_add, cell_of_row _ _ j _ 25 _ (heap_alloc_new W _), ← Array.getElem?_toList]
    exact hu
  · intro v' w' hown' hg _
    refine h v' w' ?_ hg (((Below.refl _ _).alloc hbase _).grown hg (by simp; omega) fun k hk => (World.ownsRow.lt hown k hk).1)
    unfold OwnB
    rw [rowA_snocB] at hown'
    exact hown'
theorem OwnB.lies {w : World} {base : Nat} {v : Value} {n : Nat} {F : Nat → Int} (h : OwnB w base v n F) (hn : n * 1024 ≤ 281474976710656) : LiesB w v n F := by
  obtain ⟨_, h⟩ := h
  rcases h with ⟨rfl, rfl⟩ | ⟨g, cap, cur, rfl, hg, hh, hc, hm, hs, ht⟩
  · exact .inl ⟨_, _, rfl, rfl, fun _ => rfl⟩
  · refine .inr ⟨g, 0, cap, rfl, hn, hc, (Array.getElem?_eq_some_iff.1 hh).1, fun i hi => ?_⟩
    rw [cell_of_row w g (0 + i) cur 25 _ hh, Nat.zero_add, ← Array.getElem?_toList]
    have : (cur.toList.take (n * 1024))[i]? = (rowA F (n * 1024)).toList[i]? := by rw [ht]
    rw [List.getElem?_take_of_lt hi] at this
    rw [this, Array.getElem?_toList]
    exact rowA_get F (n * 1024) i hi
theorem OwnB.some {w : World} {base : Nat} {v : Value} {n : Nat} {F : Nat → Int} (h : OwnB w base v n F) (hn : 0 < n) : ∃ g cap, v = .slice (.some ⟨g, 0, .none⟩) n cap ∧ base ≤ g ∧ g < w.heap.size ∧ n ≤ cap ∧ cap ≤ maxLen := by
  obtain ⟨_, h2⟩ := h
  rcases h2 with ⟨_, h0⟩ | ⟨g, cap, cur, hv, hg, hh, h3, h4, _⟩
  · omega
  · exact ⟨g, cap, hv, hg, (Array.getElem?_eq_some_iff.1 hh).1, h3, h4⟩

/-- The mark i of list k. -/
def markB (k i : Int) : Nat → Int := upd (upd (upd nought 0 ((k + 1) % 256)) 1 ((i + 1) % 256)) 2 77
theorem build3 (x y z : Int) (u : World) : (Instr.build 25 #[(0, .int .u8 x), (1, .int .u8 y), (2, .int .u8 z)]).run Try.prog u = .ok (.agg (blk (upd (upd (upd nought 0 x) 1 y) 2 z))) u := by
  have z25 := zero25
  have hs := blk_set
  have hz := blk_size
  generalize nought = N at *
  have hne : blk N ≠ #[] := fun q => by have := hz N; rw [q] at this; simp at this
  simp [Instr.build, z25, run_underlying Try.underlying25, Try.sizeOf5, Instr.fill, Value.cells, hs, hz, hne]
theorem wpList_build3 {ops : Array Oper} {rest : List Oper} {o : Oper} {a : Act} {w : World} {Q : Exit → Act → World → Prop} (hgd : o.guard = none) (x y z : Operand) (ho : o.op = .build 25 #[(0, x), (1, y), (2, z)])
    (p q r : Int) (hx : a.eval x = .int .u8 p) (hy : a.eval y = .int .u8 q) (hz : a.eval z = .int .u8 r)
    (h : wpList Try.prog ops Q rest (a.put o.dst (.agg (blk (upd (upd (upd nought 0 p) 1 q) 2 r)))) w) : wpList Try.prog ops Q (o :: rest) a w :=
  wpList_plain hgd fun _ hK => by
    have hr := build3 p q r w
    unfold Oper.wp execOp
    have hm : (#[(0, x), (1, y), (2, z)] : Array (Nat × Operand)).map (fun p => (p.1, a.eval p.2)) = #[(0, .int .u8 p), (1, .int .u8 q), (2, .int .u8 r)] := by simp [hx, hy, hz]
    simp only [ho]
    have e : (do pure (Next.value (← Instr.build 25 ((#[(0, x), (1, y), (2, z)] : Array (Nat × Operand)).map fun (i, x) => (i, a.eval x)))) : Sem Next).run Try.prog w = .ok (.value (.agg (blk (upd (upd (upd nought 0 p) 1 q) 2 r)))) w := by
      rw [show ((#[(0, x), (1, y), (2, z)] : Array (Nat × Operand)).map fun (i, x) => (i, a.eval x)) = #[(0, .int .u8 p), (1, .int .u8 q), (2, .int .u8 r)] from hm]
      simp only [Sem.run_bind, hr, Result.andThen_ok, Sem.run_pure]
    exact (congrArg (Oper.upon Try.prog o a _ Q) e).mpr (hK _ _ h)

set_option maxRecDepth 20000 in
set_option maxHeartbeats 400000 in
theorem blockMark_any (k i : Int) (w : World) (hk : 0 ≤ k ∧ k ≤ 100) (hi : 0 ≤ i ∧ i ≤ 4611686018427387904) :
    Calls Try.prog 49 #[.int .i64 k, .int .i64 i] w fun e w' => e = .returned (.agg (blk (markB k i))) ∧ Below w.heap.size w w' := by
  have z25 := zero25
  have hm : (k + 1) % 256 = k + 1 := by omega
  unfold markB
  rw [hm]
  go_enter Try.func49, Try.ntmps49
  go_wp2_with (first | refine wpList_build3 rfl _ _ _ rfl _ _ _ rfl rfl rfl ?_ | refine wpList_store25_new rfl _ _ rfl _ _ rfl rfl ?_)
  exact ret25 rfl w.heap.size _ rfl (heap_alloc_new _ _) rfl ⟨rfl, (Below.refl _ _).alloc (Nat.le_refl _) _⟩
set_option maxRecDepth 20000 in
set_option maxHeartbeats 400000 in
theorem markBlocks_any (k i : Int) (w : World) (hk : 0 ≤ k ∧ k ≤ 100) (hi : 0 ≤ i ∧ i ≤ 4611686018427387904) :
    Calls Try.prog 47 #[.int .i64 k, .int .i64 i] w fun e w' => e = .returned (.agg (blk (markB k i))) ∧ Below w.heap.size w w' := by
  have z25 := zero25
  go_enter Try.func47, Try.ntmps47
  go_wp2_with fail
  refine (blockMark_any k i _ hk hi).mono ?_
  rintro e W1 ⟨rfl, hb1⟩
  have hg : W1.heap[w.heap.size]? = some (.cells (blk nought) 25) := (hb1.block w.heap.size (by simp)).trans (heap_alloc_new _ _)
  have hB : Below w.heap.size w W1 := ((Below.refl _ _).alloc (Nat.le_refl _) _).trans (hb1.mono (by simp))
  go_wp2_with (first | refine wpList_store25 rfl _ _ rfl w.heap.size _ rfl rfl _ hg ?_)
  exact ret25 rfl w.heap.size _ rfl (setRow_heap _ _ _ _ _ _ hg) rfl ⟨rfl, below_setRow hB (Nat.le_refl _) _⟩
end Go.Proofs.Ytedbgeibhaiheaa
