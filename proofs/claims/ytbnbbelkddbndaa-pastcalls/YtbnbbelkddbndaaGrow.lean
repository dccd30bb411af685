/- A thing more in the history; no condition but that it is not too long. -/
import Derived.Test.YtbnbbelkddbndaaPend
import Derived.Deep.DeepAppendWide
namespace Go.Proofs.Ytbnbbelkddbndaa
open Go.RowKit
variable {w : World} {L : Loc} {s : St}

theorem info108 : (Try.prog.info? 42).map (fun i => (i.zero, i.size, i.bytes)) = some (some (.agg (recCells ⟨0, 0, nought⟩).toArray), 1026, 1040) := by kernel_rfl
theorem zero108 : ∀ w, (zeroValue 42).run Try.prog w = .ok (.agg (recCells ⟨0, 0, nought⟩).toArray) w := by
  obtain ⟨i0, hi0, hz0, hz1, hz2⟩ := info_parts info108
  exact (zero_of_info (t := 42) (P := Try.prog) (by rw [hi0]; exact congrArg some (Prod.ext hz0 hz1))).1
theorem fold_set (b : Nat) : ∀ (l : List Value) (k : Nat) (cs : Array Value), b + k + l.length ≤ cs.size → ∀ j,
    ((l.zipIdx k).foldl (fun (cs : Array Value) (p : Value × Nat) => cs.setIfInBounds (b + p.2) p.1) cs)[j]? = if b + k ≤ j ∧ j < b + k + l.length then l[j - (b + k)]? else cs[j]?
  | [], k, cs, _, j => by simp; intro h1 h2; omega
  | v :: l, k, cs, h, j => by
    simp only [List.length_cons] at h
    rw [List.zipIdx_cons, List.foldl_cons, fold_set b l (k + 1) _ (by simp; omega) j]
    by_cases h1 : b + (k + 1) ≤ j ∧ j < b + (k + 1) + l.length
    · rw [if_pos h1, if_pos (by simp only [List.length_cons]; omega), show j - (b + k) = (j - (b + (k + 1))) + 1 by omega, List.getElem?_cons_succ]
    · rw [if_neg h1, Array.getElem?_setIfInBounds]
      by_cases h2 : b + k = j
      · subst h2; rw [if_pos rfl, if_pos (by omega), if_pos (by simp only [List.length_cons]; omega), Nat.sub_self]; rfl
      · rw [if_neg h2, if_neg (by simp only [List.length_cons]; omega)]
/-- Cells laid over cells. -/
theorem fold_over (b : Nat) (c cs : Array Value) (h : b + c.size ≤ cs.size) :
    Array.foldl (fun (cs : Array Value) (p : Value × Nat) => cs.setIfInBounds (b + p.2) p.1) cs c.zipIdx = (cs.toList.take b ++ (c.toList ++ cs.toList.drop (b + c.size))).toArray := by
  apply Array.ext_getElem?
  intro j
  rw [← Array.foldl_toList, Array.toList_zipIdx, fold_set b c.toList 0 _ (by rw [Array.length_toList]; omega), Array.length_toList]
  rw [show ((cs.toList.take b ++ (c.toList ++ cs.toList.drop (b + c.size))).toArray)[j]? = (cs.toList.take b ++ (c.toList ++ cs.toList.drop (b + c.size)))[j]? from List.getElem?_toArray]
  by_cases h1 : j < b
  · rw [if_neg (by omega), List.getElem?_append_left (by rw [List.length_take, Array.length_toList]; omega), List.getElem?_take_of_lt h1, Array.getElem?_toList]
  · rw [List.getElem?_append_right (by rw [List.length_take, Array.length_toList]; omega), List.length_take, Array.length_toList, Nat.min_eq_left (by omega)]
    by_cases h2 : j < b + c.size
    · rw [if_pos (by omega), List.getElem?_append_left (by rw [Array.length_toList]; omega), Nat.add_zero]
    · rw [if_neg (by omega), List.getElem?_append_right (by rw [Array.length_toList]; omega), Array.length_toList, List.getElem?_drop, Array.getElem?_toList, show b + c.size + (j - b - c.size) = j by omega]
theorem fill_rec (k p : Int) (f : Nat → Int) (Z : Array Value) (hZ : Z.size = 1026) (place : Nat → Option (Nat × Nat)) (h0 : place 0 = some (0, 1)) (h1 : place 1 = some (1, 1)) (h2 : place 2 = some (2, 1024)) :
    Instr.fill place Z [(0, .int .u8 k), (1, .int .i64 p), (2, .agg (blk f))] = some (recCells ⟨k, p, f⟩).toArray := by
  have hb := blk_size f
  unfold Instr.fill
  rw [h0]
  simp only [Value.cells, List.size_toArray, List.length_cons, List.length_nil, hZ]
  rw [if_neg (by simp)]
  unfold Instr.fill
  rw [h1]
  simp only [Value.cells, List.size_toArray, List.length_cons, List.length_nil]
  rw [fold_over 0 #[.int .u8 k] Z (by rw [hZ]; simp)]
  rw [if_neg (by simp [hZ])]
  unfold Instr.fill
  rw [h2]
  simp only [Value.cells, hb]
  rw [fold_over 1 #[.int .i64 p] _ (by simp [hZ])]
  rw [if_neg (by simp [hZ])]
  rw [fold_over 2 (blk f) _ (by simp [hZ, hb])]
  have hl : Z.toList.length = 1026 := by rw [Array.length_toList, hZ]
  obtain ⟨z0, z1, r, hz, hr⟩ : ∃ z0 z1 r, Z.toList = z0 :: z1 :: r ∧ r.length = 1024 := by
    cases hz : Z.toList with
    | nil => rw [hz, List.length_nil] at hl; omega
    | cons z0 t =>
      cases t with
      | nil => rw [hz, List.length_cons, List.length_nil] at hl; omega
      | cons z1 r => exact ⟨z0, z1, r, rfl, by rw [hz, List.length_cons, List.length_cons] at hl; omega⟩
  rw [hz]
  simp only [List.take_zero, List.nil_append, List.take_succ_cons, List.drop_succ_cons, List.drop_zero, List.singleton_append, List.size_toArray, List.length_cons, List.length_nil, hb, Nat.zero_add, Nat.reduceAdd]
  unfold Instr.fill
  rw [List.drop_eq_nil_of_le (by omega), List.append_nil]
  rfl
theorem build108 (k p : Int) (f : Nat → Int) (u : World) : (Instr.build 42 #[(0, .int .u8 k), (1, .int .i64 p), (2, .agg (blk f))]).run Try.prog u = .ok (.agg (recCells ⟨k, p, f⟩).toArray) u := by
  have z := zero108
  have hZ : (recCells ⟨0, 0, nought⟩).toArray.size = 1026 := by rw [List.size_toArray, recCells_len]
  generalize (recCells ⟨0, 0, nought⟩).toArray = Z at *
  have hf := fill_rec k p f Z hZ
  simp [Instr.build, z, run_underlying Try.underlying42, Value.cells]
  rw [hf _ rfl rfl rfl]
  simp only [Sem.run_pure]
theorem fill_bar (k : Int) (place : Nat → Option (Nat × Nat)) (h0 : place 0 = some (0, 1)) :
    Instr.fill place (recCells ⟨0, 0, nought⟩).toArray [(0, .int .u8 k)] = some (recCells ⟨k, 0, nought⟩).toArray := by
  have hb := blk_list_len nought
  unfold recCells
  simp only
  generalize (blk nought).toList = B at *
  unfold Instr.fill
  rw [h0]
  simp only [Value.cells, List.size_toArray, List.length_cons, List.length_nil]
  rw [if_neg (by simp), fold_over 0 #[.int .u8 k] _ (by simp)]
  unfold Instr.fill
  simp only [List.take_zero, List.nil_append, List.size_toArray, List.length_cons, List.length_nil, Nat.zero_add, List.drop_succ_cons, List.drop_zero, List.singleton_append]
theorem build108b (k : Int) (u : World) : (Instr.build 42 #[(0, .int .u8 k)]).run Try.prog u = .ok (.agg (recCells ⟨k, 0, nought⟩).toArray) u := by
  have z := zero108
  have hf := fill_bar k
  generalize (recCells ⟨0, 0, nought⟩).toArray = Z at *
  generalize (recCells ⟨k, 0, nought⟩).toArray = Z' at *
  simp [Instr.build, z, run_underlying Try.underlying42, Value.cells]
  rw [hf _ rfl]
  simp only [Sem.run_pure]
theorem run_buildSlice_gen {P : Program} (u : World) (t e : TypeId) (len size : Nat) (zero : Value) (parts : Array (Nat × Value)) (cells : Array Value) (hu : P.underlying t = some (.slice e)) (hs : (sizeOf e).run P u = .ok size u)
    (hb : ¬ len * size > 2 ^ 24) (h0 : ¬ len * size = 0) (hz : (zeroValue e).run P u = .ok zero u)
    (hf : Instr.fill (fun i => some (i * size, size)) ((Array.range (len * size)).map (zero.cells[· % zero.cells.size]!)) parts.toList = some cells) :
    (Instr.buildSlice t len parts).run P u = .ok (.slice (some ⟨u.heap.size, 0, none⟩) len len) (u.alloc (.cells cells e)) := by
  simp only [Instr.buildSlice, Sem.run_bind, run_underlying hu, Result.andThen_ok, hs]
  rw [if_neg hb, if_neg h0]
  simp only [Sem.run_bind, hz, Result.andThen_ok, Sem.run_pure, hf, newRow, run_newObj_alloc]
theorem fill_one (c z : Array Value) (n : Nat) (hc : c.size = n) (hz : z.size = n) : Instr.fill (fun i => some (i * n, n)) z [(0, .agg c)] = some c := by
  unfold Instr.fill
  simp only [Value.cells, Nat.zero_mul]
  rw [if_neg (by simp [hc, hz]), fold_over 0 c z (by omega)]
  unfold Instr.fill
  rw [List.take_zero, List.nil_append, List.drop_eq_nil_of_le (by rw [Array.length_toList]; omega), List.append_nil]
/-- A list of one element that is a whole row. -/
theorem build1 (t e n : Nat) (zero : Value) (c : Array Value) (hu : Try.prog.underlying t = some (.slice e)) (hs : ∀ u, (sizeOf e).run Try.prog u = .ok n u) (hn : 0 < n ∧ n ≤ 16777216) (hz : ∀ u, (zeroValue e).run Try.prog u = .ok zero u) (hc : c.size = n) (u : World) :
    (Instr.buildSlice t 1 #[(0, .agg c)]).run Try.prog u = .ok (.slice (some ⟨u.heap.size, 0, none⟩) 1 1) (u.alloc (.cells c e)) :=
  run_buildSlice_gen u t e 1 n zero #[(0, .agg c)] c hu (hs u) (by omega) (by omega) (hz u) (fill_one c _ n hc (by rw [Array.size_map, Array.size_range]; omega))
theorem wpList_build1 {ops : Array Oper} {rest : List Oper} {o : Oper} {a : Act} {w : World} {Q : Exit → Act → World → Prop} (hgd : o.guard = none) (t e : TypeId) (x : Operand) (ho : o.op = .buildSlice t 1 #[(0, x)])
    (c : Array Value) (hx : a.eval x = .agg c) (hr : (Instr.buildSlice t 1 #[(0, .agg c)]).run Try.prog w = .ok (.slice (some ⟨w.heap.size, 0, none⟩) 1 1) (w.alloc (.cells c e)))
    (h : wpList Try.prog ops Q rest (a.put o.dst (.slice (some ⟨w.heap.size, 0, none⟩) 1 1)) (w.alloc (.cells c e))) : wpList Try.prog ops Q (o :: rest) a w :=
  wpList_plain hgd fun _ hK => by
    have hm : (#[(0, x)] : Array (Nat × Operand)).map (fun p => (p.1, a.eval p.2)) = #[(0, .agg c)] := by simp [hx]
    have e' : (execOp a.eval o).run Try.prog w = .ok (.value (.slice (some ⟨w.heap.size, 0, none⟩) 1 1)) (w.alloc (.cells c e)) := by
      unfold execOp
      simp only [ho, hm, Sem.run_bind]
      simp only [hr, Result.andThen_ok, Sem.run_pure]
    unfold Oper.wp
    rw [e']
    exact hK _ _ h
theorem rec_size (r : Rec) : (recCells r).toArray.size = 1026 := by rw [List.size_toArray, recCells_len]
theorem build67 (r : Rec) (u : World) : (Instr.buildSlice 25 1 #[(0, .agg (recCells r).toArray)]).run Try.prog u = .ok (.slice (some ⟨u.heap.size, 0, none⟩) 1 1) (u.alloc (.cells (recCells r).toArray 42)) :=
  build1 25 42 1026 _ _ Try.underlying25 Try.sizeOf42 (by omega) zero108 (rec_size r) u
theorem opCells_one (r : Rec) : opCells [r] = recCells r := by simp [opCells]
/-- Where a row lies behind an append: where it was, or in new memory. -/
theorem append_where {W : World} {v : Value} {n : Nat} {xs : List Value} (hown : W.ownsRow 0 42 1026 v n xs) {ad : Addr} {c : Nat} {news : List Value} (hl : news.length = 1 * 1026)
    (hnews : ∀ j u, news[j]? = some u → W.cell? (ad.add j) = some u) (h1 : ∀ u ∈ news, u.oneCell' = true) (hn : n < 68719476736) {ty : TypeId} {v' : Value} {w' : World}
    (hr : (Builtin.append_ #[25, 25] ty #[v, .slice (some ad) 1 c]).run Try.prog W = .ok v' w') : v'.ownBlock = v.ownBlock ∨ v'.ownBlock = some W.heap.size := by
  obtain ⟨i0, hi0, hz0, hz1, hz2⟩ := info_parts info108
  rcases hown.2 with ⟨rfl, rfl⟩ | ⟨g, cap, cur, rfl, _, hg, hnc, hcm, hcs, htake⟩
  · rw [run_append_nil (P := Try.prog) W 25 ty 42 i0 _ Try.underlying25 hi0 hz0 ad 1 c news (by rw [hz1]; exact hl) hnews (by omega) (by omega) (by rw [hz2]; omega)] at hr
    injection hr with h1 h2
    rw [← h1]
    exact .inr rfl
  · by_cases hroom : n + 1 ≤ cap
    · rw [run_append_room (P := Try.prog) W 25 ty 42 i0 Try.underlying25 hi0 g n cap cur hg ad 1 c news (by rw [hz1]; exact hl) hnews h1 hroom (by rw [hz1, hl, hcs]; simp only [Nat.mul_comm _ 1026]; omega)] at hr
      injection hr with h1 h2
      rw [← h1]
      exact .inl rfl
    · rw [run_append_grow (P := Try.prog) W 25 ty 42 i0 _ Try.underlying25 hi0 hz0 ⟨g, 0, none⟩ n cap xs (by rw [hz1]; exact hown.1) (hown.cells (g := g) rfl) ad 1 c news (by rw [hz1]; exact hl) hnews (by omega) (by omega) (growslice_fits_wide (by omega) (by rw [hz2]; omega))] at hr
      injection hr with h1 h2
      rw [← h1]
      exact .inr rfl
/-- A thing behind all that was done. -/
theorem push_run {W : World} {v : Value} {l : List Rec} (r : Rec) (ty : TypeId) (hown : W.ownsRow 0 42 1026 v l.length (opCells l)) (hn : l.length < 68719476736) :
    ∃ v' w', (Builtin.append_ #[25, 25] ty #[v, .slice (some ⟨W.heap.size, 0, none⟩) 1 1]).run Try.prog (W.alloc (.cells (recCells r).toArray 42)) = .ok v' w' ∧
      w'.ownsRow 0 42 1026 v' (l ++ [r]).length (opCells (l ++ [r])) ∧ Fr (fun i => v.ownBlock = some i) W w' ∧ (∀ k, v'.ownBlock = some k → v.ownBlock = some k ∨ W.heap.size ≤ k) := by
  obtain ⟨i0, hi0, hz0, hz1, hz2⟩ := info_parts info108
  have hown1 := World.ownsRow.alloc hown (.cells (recCells r).toArray 42)
  have hnews : ∀ j u, (recCells r)[j]? = some u → (W.alloc (.cells (recCells r).toArray 42)).cell? ((⟨W.heap.size, 0, none⟩ : Addr).add j) = some u := fun j u hu => by
    rw [Go.WideShapes.add_plain, Nat.zero_add, cell_of_row _ _ j _ 42 _ (heap_alloc_new W _), List.getElem?_toArray]
    exact hu
  obtain ⟨v', w', hr, h2, hg, _⟩ := run_append_own_wide (P := Try.prog) (W.alloc (.cells (recCells r).toArray 42)) 0 25 ty 42 i0 _ 1026 1040 Try.underlying25 hi0 hz0 hz1 hz2 (rec_size _) (by decide) v l.length _ hown1 ⟨W.heap.size, 0, none⟩ 1 1 (recCells r) (by rw [recCells_len]) hnews
    (recCells_one r) (by unfold maxLen; omega) (by omega) (Nat.zero_le _)
  refine ⟨v', w', hr, ?_, (Fr.alloc _ W _).trans (Fr.ofGrown hg) fun _ _ q => q, fun k hk => ?_⟩
  · rw [List.length_append, List.length_singleton, opCells_append, opCells_one]
    exact h2
  · rcases append_where hown1 (by rw [recCells_len]) hnews (recCells_one r) hn hr with h | h
    · exact .inl (h ▸ hk)
    · rw [h] at hk
      injection hk with hk
      simp at hk
      exact .inr (by omega)
theorem wpList_pushR {ops : Array Oper} {rest : List Oper} {o : Oper} {a : Act} {W : World} {Q : Exit → Act → World → Prop} (hgd : o.guard = none) (s x : Operand)
    (ho : o.op = .call { callee := .builtin .append, args := #[s, x], argTypes := #[25, 25] }) (v : Value) (l : List Rec) (r : Rec) (hs : a.eval s = v)
    (hx : a.eval x = .slice (some ⟨W.heap.size, 0, none⟩) 1 1) (hown : W.ownsRow 0 42 1026 v l.length (opCells l)) (hn : l.length < 68719476736)
    (h : ∀ v' w', w'.ownsRow 0 42 1026 v' (l ++ [r]).length (opCells (l ++ [r])) → Fr (fun i => v.ownBlock = some i) W w' → (∀ k, v'.ownBlock = some k → v.ownBlock = some k ∨ W.heap.size ≤ k) → wpList Try.prog ops Q rest (a.put o.dst v') w') :
    wpList Try.prog ops Q (o :: rest) a (W.alloc (.cells (recCells r).toArray 42)) := by
  refine wpList_plain hgd fun K' hK' => ?_
  obtain ⟨v', w', hr, h1, h2, h3⟩ := push_run r o.type hown hn
  unfold Oper.wp
  simp [execOp, ho, resolve, invoke, builtin, hs, hx, hr, Result.andThen]
  exact hK' _ _ (h v' w' h1 h2 h3)
end Go.Proofs.Ytbnbbelkddbndaa
