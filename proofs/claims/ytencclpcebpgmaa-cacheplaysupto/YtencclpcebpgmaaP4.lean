/- Several texts joined, each with its own remark; no condition. -/
import Derived.Test.YtencclpcebpgmaaP2
import Derived.Deep.DeepAppendWide
import Derived.Test.YtencclpcebpgmaaP1
import Derived.Test.YtencclpcebpgmaaP3
/- A thing more in the history; no condition but that it is not too long. -/
namespace Go.Proofs.Ytencclpcebpgmaa
open Go.RowKit
variable {w : World} {L : Loc} {s : St}

theorem info108 : (Try.prog.info? 108).map (fun i => (i.zero, i.size, i.bytes)) = some (some (.agg (recCells ⟨0, 0, nought⟩).toArray), 1026, 1040) := by kernel_rfl
theorem zero108 : ∀ w, (zeroValue 108).run Try.prog w = .ok (.agg (recCells ⟨0, 0, nought⟩).toArray) w := by
  obtain ⟨i0, hi0, hz0, hz1, hz2⟩ := info_parts info108
  exact (zero_of_info (t := 108) (P := Try.prog) (by rw [hi0]; exact congrArg some (Prod.ext hz0 hz1))).1
theorem fold_set (b : Nat) : ∀ (l : List Value) (k : Nat) (cs : Array Value), b + k + l.length ≤ cs.size → ∀ j,
    ((l.zipIdx k).foldl (fun (cs : Array Value) (p : Value × Nat) => cs.setIfInBounds (b + p.2) p.1) cs)[j]? = if b + k ≤ j ∧ j < b + k + l.length then l[j - (b + k)]? else cs[j]?
  | [], k, cs, _, j => by simp; intro h1 h2; omega
  | v :: l, k, cs, h, j => by
    simp only [List.length_cons] at h
    rw [List.zipIdx_cons, List.foldl_cons, fold_set b l (k + 1) _ (by simp; omega) j]
    by_cases h1 : b + (k + 1) ≤ j ∧ j < b + (k + 1) + l.length
    · rw [if_pos h1, if_pos (by simp only [List.length_cons]; omega), show j - (b + k) = (j - (b + (k + 1))) + 1 by omega, List.getElem?_cons_succ]
    · rw [if_neg h1, Array.getElem?_setIfInBounds]
      by_cases h2 : b + k = j
      · subst h2; rw [if_pos rfl, if_pos (by omega), if_pos (by simp only [List.length_cons]; omega), Nat.sub_self]; rfl
      · rw [if_neg h2, if_neg (by simp only [List.length_cons]; omega)]
/-- Cells laid over cells. -/
theorem fold_over (b : Nat) (c cs : Array Value) (h : b + c.size ≤ cs.size) :
    Array.foldl (fun (cs : Array Value) (p : Value × Nat) => cs.setIfInBounds (b + p.2) p.1) cs c.zipIdx = (cs.toList.take b ++ (c.toList ++ cs.toList.drop (b + c.size))).toArray := by
  apply Array.ext_getElem?
  intro j
  rw [← Array.foldl_toList, Array.toList_zipIdx, fold_set b c.toList 0 _ (by rw [Array.length_toList]; omega), Array.length_toList]
  rw [show ((cs.toList.take b ++ (c.toList ++ cs.toList.drop (b + c.size))).toArray)[j]? = (cs.toList.take b ++ (c.toList ++ cs.toList.drop (b + c.size)))[j]? from List.getElem?_toArray]
  by_cases h1 : j < b
  · rw [if_neg (by omega), List.getElem?_append_left (by rw [List.length_take, Array.length_toList]; omega), List.getElem?_take_of_lt h1, Array.getElem?_toList]
  · rw [List.getElem?_append_right (by rw [List.length_take, Array.length_toList]; omega), List.length_take, Array.length_toList, Nat.min_eq_left (by omega)]
    by_cases h2 : j < b + c.size
    · rw [if_pos (by omega), List.getElem?_append_left (by rw [Array.length_toList]; omega), Nat.add_zero]
    · rw [if_neg (by omega), List.getElem?_append_right (by rw [Array.length_toList]; omega), Array.length_toList, List.getElem?_drop, Array.getElem?_toList, show b + c.size + (j - b - c.size) = j by omega]
theorem fill_rec (k p : Int) (f : Nat → Int) (Z : Array Value) (hZ : Z.size = 1026) (place : Nat → Option (Nat × Nat)) (h0 : place 0 = some (0, 1)) (h1 : place 1 = some (1, 1)) (h2 : place 2 = some (2, 1024)) :
    Instr.fill place Z [(0, .int .u8 k), (1, .int .i64 p), (2, .agg (blk f))] = some (recCells ⟨k, p, f⟩).toArray := by
  have hb := blk_size f
  unfold Instr.fill
  rw [h0]
  simp only [Value.cells, List.size_toArray, List.length_cons, List.length_nil, hZ]
  rw [if_neg (by simp)]
  unfold Instr.fill
  rw [h1]
  simp only [Value.cells, List.size_toArray, List.length_cons, List.length_nil]
  rw [fold_over 0 #[.int .u8 k] Z (by rw [hZ]; simp)]
  rw [if_neg (by simp [hZ])]
  unfold Instr.fill
  rw [h2]
  simp only [Value.cells, hb]
  rw [fold_over 1 #[.int .i64 p] _ (by simp [hZ])]
  rw [if_neg (by simp [hZ])]
  rw [fold_over 2 (blk f) _ (by simp [hZ, hb])]
  have hl : Z.toList.length = 1026 := by rw [Array.length_toList, hZ]
  obtain ⟨z0, z1, r, hz, hr⟩ : ∃ z0 z1 r, Z.toList = z0 :: z1 :: r ∧ r.length = 1024 := by
    cases hz : Z.toList with
    | nil => rw [hz, List.length_nil] at hl; omega
    | cons z0 t =>
      cases t with
      | nil => rw [hz, List.length_cons, List.length_nil] at hl; omega
      | cons z1 r => exact ⟨z0, z1, r, rfl, by rw [hz, List.length_cons, List.length_cons] at hl; omega⟩
  rw [hz]
  simp only [List.take_zero, List.nil_append, List.take_succ_cons, List.drop_succ_cons, List.drop_zero, List.singleton_append, List.size_toArray, List.length_cons, List.length_nil, hb, Nat.zero_add, Nat.reduceAdd]
  unfold Instr.fill
  rw [List.drop_eq_nil_of_le (by omega), List.append_nil]
  rfl
theorem build108 (k p : Int) (f : Nat → Int) (u : World) : (Instr.build 108 #[(0, .int .u8 k), (1, .int .i64 p), (2, .agg (blk f))]).run Try.prog u = .ok (.agg (recCells ⟨k, p, f⟩).toArray) u := by
  have z := zero108
  have hZ : (recCells ⟨0, 0, nought⟩).toArray.size = 1026 := by rw [List.size_toArray, recCells_len]
  generalize (recCells ⟨0, 0, nought⟩).toArray = Z at *
  have hf := fill_rec k p f Z hZ
  simp [Instr.build, z, run_underlying Try.underlying108, Value.cells]
  rw [hf _ rfl rfl rfl]
  simp only [Sem.run_pure]
theorem fill_bar (k : Int) (place : Nat → Option (Nat × Nat)) (h0 : place 0 = some (0, 1)) :
    Instr.fill place (recCells ⟨0, 0, nought⟩).toArray [(0, .int .u8 k)] = some (recCells ⟨k, 0, nought⟩).toArray := by
  have hb := blk_list_len nought
  unfold recCells
  simp only
  generalize (blk nought).toList = B at *
  unfold Instr.fill
  rw [h0]
  simp only [Value.cells, List.size_toArray, List.length_cons, List.length_nil]
  rw [if_neg (by simp), fold_over 0 #[.int .u8 k] _ (by simp)]
  unfold Instr.fill
  simp only [List.take_zero, List.nil_append, List.size_toArray, List.length_cons, List.length_nil, Nat.zero_add, List.drop_succ_cons, List.drop_zero, List.singleton_append]
theorem build108b (k : Int) (u : World) : (Instr.build 108 #[(0, .int .u8 k)]).run Try.prog u = .ok (.agg (recCells ⟨k, 0, nought⟩).toArray) u := by
  have z := zero108
  have hf := fill_bar k
  generalize (recCells ⟨0, 0, nought⟩).toArray = Z at *
  generalize (recCells ⟨k, 0, nought⟩).toArray = Z' at *
  simp [Instr.build, z, run_underlying Try.underlying108, Value.cells]
  rw [hf _ rfl]
  simp only [Sem.run_pure]
theorem run_buildSlice_gen {P : Program} (u : World) (t e : TypeId) (len size : Nat) (zero : Value) (parts : Array (Nat × Value)) (cells : Array Value) (hu : P.underlying t = some (.slice e)) (hs : (sizeOf e).run P u = .ok size u)
    (hb : ¬ len * size > 2 ^ 24) (h0 : ¬ len * size = 0) (hz : (zeroValue e).run P u = .ok zero u)
    (hf : Instr.fill (fun i => some (i * size, size)) ((Array.range (len * size)).map (zero.cells[· % zero.cells.size]!)) parts.toList = some cells) :
    (Instr.buildSlice t len parts).run P u = .ok (.slice (some ⟨u.heap.size, 0, none⟩) len len) (u.alloc (.cells cells e)) := by
  simp only [Instr.buildSlice, Sem.run_bind, run_underlying hu, Result.andThen_ok, hs]
  rw [if_neg hb, if_neg h0]
  simp only [Sem.run_bind, hz, Result.andThen_ok, Sem.run_pure, hf, newRow, run_newObj_alloc]
theorem fill_one (c z : Array Value) (n : Nat) (hc : c.size = n) (hz : z.size = n) : Instr.fill (fun i => some (i * n, n)) z [(0, .agg c)] = some c := by
  unfold Instr.fill
  simp only [Value.cells, Nat.zero_mul]
  rw [if_neg (by simp [hc, hz]), fold_over 0 c z (by omega)]
  unfold Instr.fill
  rw [List.take_zero, List.nil_append, List.drop_eq_nil_of_le (by rw [Array.length_toList]; omega), List.append_nil]
/-- A list of one element that is a whole row. -/
theorem build1 (t e n : Nat) (zero : Value) (c : Array Value) (hu : Try.prog.underlying t = some (.slice e)) (hs : ∀ u, (sizeOf e).run Try.prog u = .ok n u) (hn : 0 < n ∧ n ≤ 16777216) (hz : ∀ u, (zeroValue e).run Try.prog u = .ok zero u) (hc : c.size = n) (u : World) :
    (Instr.buildSlice t 1 #[(0, .agg c)]).run Try.prog u = .ok (.slice (some ⟨u.heap.size, 0, none⟩) 1 1) (u.alloc (.cells c e)) :=
  run_buildSlice_gen u t e 1 n zero #[(0, .agg c)] c hu (hs u) (by omega) (by omega) (hz u) (fill_one c _ n hc (by rw [Array.size_map, Array.size_range]; omega))
theorem wpList_build1 {ops : Array Oper} {rest : List Oper} {o : Oper} {a : Act} {w : World} {Q : Exit → Act → World → Prop} (hgd : o.guard = none) (t e : TypeId) (x : Operand) (ho : o.op = .buildSlice t 1 #[(0, x)])
    (c : Array Value) (hx : a.eval x = .agg c) (hr : (Instr.buildSlice t 1 #[(0, .agg c)]).run Try.prog w = .ok (.slice (some ⟨w.heap.size, 0, none⟩) 1 1) (w.alloc (.cells c e)))
    (h : wpList Try.prog ops Q rest (a.put o.dst (.slice (some ⟨w.heap.size, 0, none⟩) 1 1)) (w.alloc (.cells c e))) : wpList Try.prog ops Q (o :: rest) a w :=
  wpList_plain hgd fun _ hK => by
    have hm : (#[(0, x)] : Array (Nat × Operand)).map (fun p => (p.1, a.eval p.2)) = #[(0, .agg c)] := by simp [hx]
    have e' : (execOp a.eval o).run Try.prog w = .ok (.value (.slice (some ⟨w.heap.size, 0, none⟩) 1 1)) (w.alloc (.cells c e)) := by
      unfold execOp
      simp only [ho, hm, Sem.run_bind]
      simp only [hr, Result.andThen_ok, Sem.run_pure]
    unfold Oper.wp
    rw [e']
    exact hK _ _ h
theorem rec_size (r : Rec) : (recCells r).toArray.size = 1026 := by rw [List.size_toArray, recCells_len]
theorem build67 (r : Rec) (u : World) : (Instr.buildSlice 75 1 #[(0, .agg (recCells r).toArray)]).run Try.prog u = .ok (.slice (some ⟨u.heap.size, 0, none⟩) 1 1) (u.alloc (.cells (recCells r).toArray 108)) :=
  build1 75 108 1026 _ _ Try.underlying75 Try.sizeOf108 (by omega) zero108 (rec_size r) u
theorem opCells_one (r : Rec) : opCells [r] = recCells r := by simp [opCells]
/-- Where a row lies behind an append: where it was, or in new memory. -/
theorem append_where {W : World} {v : Value} {n : Nat} {xs : List Value} (hown : W.ownsRow 0 108 1026 v n xs) {ad : Addr} {c : Nat} {news : List Value} (hl : news.length = 1 * 1026)
    (hnews : ∀ j u, news[j]? = some u → W.cell? (ad.add j) = some u) (h1 : ∀ u ∈ news, u.oneCell' = true) (hn : n < 68719476736) {ty : TypeId} {v' : Value} {w' : World}
    (hr : (Builtin.append_ #[75, 75] ty #[v, .slice (some ad) 1 c]).run Try.prog W = .ok v' w') : v'.ownBlock = v.ownBlock ∨ v'.ownBlock = some W.heap.size := by
  obtain ⟨i0, hi0, hz0, hz1, hz2⟩ := info_parts info108
  rcases hown.2 with ⟨rfl, rfl⟩ | ⟨g, cap, cur, rfl, _, hg, hnc, hcm, hcs, htake⟩
  · rw [run_append_nil (P := Try.prog) W 75 ty 108 i0 _ Try.underlying75 hi0 hz0 ad 1 c news (by rw [hz1]; exact hl) hnews (by omega) (by omega) (by rw [hz2]; omega)] at hr
    injection hr with h1 h2
    rw [← h1]
    exact .inr rfl
  · by_cases hroom : n + 1 ≤ cap
    · rw [run_append_room (P := Try.prog) W 75 ty 108 i0 Try.underlying75 hi0 g n cap cur hg ad 1 c news (by rw [hz1]; exact hl) hnews h1 hroom (by rw [hz1, hl, hcs]; simp only [Nat.mul_comm _ 1026]; omega)] at hr
      injection hr with h1 h2
      rw [← h1]
      exact .inl rfl
    · rw [run_append_grow (P := Try.prog) W 75 ty 108 i0 _ Try.underlying75 hi0 hz0 ⟨g, 0, none⟩ n cap xs (by rw [hz1]; exact hown.1) (hown.cells (g := g) rfl) ad 1 c news (by rw [hz1]; exact hl) hnews (by omega) (by omega) (growslice_fits_wide (by omega) (by rw [hz2]; omega))] at hr
      injection hr with h1 h2
      rw [← h1]
      exact .inr rfl
/-- A thing behind all that was done. -/
theorem push_run {W : World} {v : Value} {l : List Rec} (r : Rec) (ty : TypeId) (hown : W.ownsRow 0 108 1026 v l.length (opCells l)) (hn : l.length < 68719476736) :
    ∃ v' w', (Builtin.append_ #[75, 75] ty #[v, .slice (some ⟨W.heap.size, 0, none⟩) 1 1]).run Try.prog (W.alloc (.cells (recCells r).toArray 108)) = .ok v' w' ∧
      w'.ownsRow 0 108 1026 v' (l ++ [r]).length (opCells (l ++ [r])) ∧ Fr (fun i => v.ownBlock = some i) W w' ∧ (∀ k, v'.ownBlock = some k → v.ownBlock = some k ∨ W.heap.size ≤ k) := by
  obtain ⟨i0, hi0, hz0, hz1, hz2⟩ := info_parts info108
  have hown1 := World.ownsRow.alloc hown (.cells (recCells r).toArray 108)
  have hnews : ∀ j u, (recCells r)[j]? = some u → (W.alloc (.cells (recCells r).toArray 108)).cell? ((⟨W.heap.size, 0, none⟩ : Addr).add j) = some u := fun j u hu => by
    rw [Go.WideShapes.add_plain, Nat.zero_add, cell_of_row _ _ j _ 108 _ (heap_alloc_new W _), List.getElem?_toArray]
    exact hu
  obtain ⟨v', w', hr, h2, hg, _⟩ := run_append_own_wide (P := Try.prog) (W.alloc (.cells (recCells r).toArray 108)) 0 75 ty 108 i0 _ 1026 1040 Try.underlying75 hi0 hz0 hz1 hz2 (rec_size _) (by decide) v l.length _ hown1 ⟨W.heap.size, 0, none⟩ 1 1 (recCells r) (by rw [recCells_len]) hnews
    (recCells_one r) (by unfold maxLen; omega) (by omega) (Nat.zero_le _)
  refine ⟨v', w', hr, ?_, (Fr.alloc _ W _).trans (Fr.ofGrown hg) fun _ _ q => q, fun k hk => ?_⟩
  · rw [List.length_append, List.length_singleton, opCells_append, opCells_one]
    exact h2
  · rcases append_where hown1 (by rw [recCells_len]) hnews (recCells_one r) hn hr with h | h
    · exact .inl (h ▸ hk)
    · rw [h] at hk
      injection hk with hk
      simp at hk
      exact .inr (by omega)
theorem wpList_pushR {ops : Array Oper} {rest : List Oper} {o : Oper} {a : Act} {W : World} {Q : Exit → Act → World → Prop} (hgd : o.guard = none) (s x : Operand)
    (ho : o.op = .call { callee := .builtin .append, args := #[s, x], argTypes := #[75, 75] }) (v : Value) (l : List Rec) (r : Rec) (hs : a.eval s = v)
    (hx : a.eval x = .slice (some ⟨W.heap.size, 0, none⟩) 1 1) (hown : W.ownsRow 0 108 1026 v l.length (opCells l)) (hn : l.length < 68719476736)
    (h : ∀ v' w', w'.ownsRow 0 108 1026 v' (l ++ [r]).length (opCells (l ++ [r])) → Fr (fun i => v.ownBlock = some i) W w' → (∀ k, v'.ownBlock = some k → v.ownBlock = some k ∨ W.heap.size ≤ k) → wpList Try.prog ops Q rest (a.put o.dst v') w') :
    wpList Try.prog ops Q (o :: rest) a (W.alloc (.cells (recCells r).toArray 108)) := by
  refine wpList_plain hgd fun K' hK' => ?_
  obtain ⟨v', w', hr, h1, h2, h3⟩ := push_run r o.type hown hn
  unfold Oper.wp
  simp [execOp, ho, resolve, invoke, builtin, hs, hx, hr, Result.andThen]
  exact hK' _ _ (h v' w' h1 h2 h3)
end Go.Proofs.Ytencclpcebpgmaa
/- The parts of a disk in memory, each by itself, and what a turn of one of them leaves; no condition. -/
namespace Go.Proofs.Ytencclpcebpgmaa
open Go.RowKit

structure RawAt (w : World) (L : Loc) (row : Array Value) (held late : Int → Option Value) (ops : List Rec) : Prop where
  row : w.heap[L.d]? = some (.cells row 78)
  held : MapIs Try.prog 3 w L.hb held
  late : MapIs Try.prog 3 w L.lb late
  hist : w.ownsRow 0 108 1026 L.hv ops.length (opCells ops)
  ne : L.hb ≠ L.lb
variable {w w' : World} {L : Loc} {s : St} {row : Array Value} {held late : Int → Option Value} {ops : List Rec}
theorem DiskAt.raw (h : DiskAt w L s) : RawAt w L (dkRow L s) (heldV s) (lateV s) s.ops := ⟨h.row, h.held, h.late, h.hist, h.ne⟩
theorem RawAt.disk (h : RawAt w L (dkRow L s) (heldV s) (lateV s) s.ops) (ok : Ok s) : DiskAt w L s := ⟨h.row, h.held, h.late, h.hist, h.ne, ok⟩
theorem hist_block {v : Value} {n : Nat} {xs : List Value} (h : w.ownsRow 0 108 1026 v n xs) {k : Nat} (hk : v.ownBlock = some k) : ∃ cur, w.heap[k]? = some (.cells cur 108) := by
  rcases h.2 with ⟨h1, _⟩ | ⟨g, cap, cur, h1, _, h2, _⟩
  · rw [h1] at hk; cases hk
  · rw [h1] at hk
    have e : g = k := by injection hk
    subst e
    exact ⟨cur, h2⟩
theorem map_row {b d : Nat} {m : Int → Option Value} {r : Array Value} {t : TypeId} (h : MapIs Try.prog 3 w b m) (hr : w.heap[d]? = some (.cells r t)) : b ≠ d := fun e => by
  obtain ⟨es, ck, hm⟩ := h.isMap
  rw [e, hr] at hm
  cases hm
theorem hist_row {v : Value} {n : Nat} {xs : List Value} (h : w.ownsRow 0 108 1026 v n xs) {d : Nat} {r : Array Value} (hr : w.heap[d]? = some (.cells r 78)) : v.ownBlock ≠ some d := fun e => by
  obtain ⟨cur, hc⟩ := hist_block h e
  rw [hr] at hc
  cases hc
theorem hist_map {v : Value} {n : Nat} {xs : List Value} (h : w.ownsRow 0 108 1026 v n xs) {b : Nat} {m : Int → Option Value} (hm : MapIs Try.prog 3 w b m) : v.ownBlock ≠ some b := fun e => by
  obtain ⟨cur, hc⟩ := hist_block h e
  exact map_row hm hc rfl
theorem RawAt.lt (h : RawAt w L row held late ops) (k : Nat) (hk : L.has k) : k < w.heap.size := by
  rcases hk with rfl | rfl | rfl | hk
  · exact (Array.getElem?_eq_some_iff.1 h.row).1
  · exact h.held.lt
  · exact h.late.lt
  · exact (h.hist.lt k hk).2
/-- It stays what it is where nothing of it turns. -/
theorem RawAt.fr (h : RawAt w L row held late ops) {T : Nat → Prop} (hf : Fr T w w') (hT : ∀ k, L.has k → ¬ T k) : RawAt w' L row held late ops := by
  have hb : ∀ k, L.has k → w'.heap[k]? = w.heap[k]? := fun k hk => hf.block k (h.lt k hk) (hT k hk)
  exact ⟨(hb _ (.inl rfl)).trans h.row, h.held.kept (hb _ (.inr (.inl rfl))), h.late.kept (hb _ (.inr (.inr (.inl rfl)))), ownsRow_kept0 h.hist fun k hk => hb k (.inr (.inr (.inr hk))), h.ne⟩
/-- The row has turned. -/
theorem RawAt.rowTo (h : RawAt w L row held late ops) {row' : Array Value} (hr : w'.heap[L.d]? = some (.cells row' 78)) (hf : Fr (fun i => i = L.d) w w') : RawAt w' L row' held late ops := by
  have hb : ∀ k, L.has k → k ≠ L.d → w'.heap[k]? = w.heap[k]? := fun k hk hn => hf.block k (h.lt k hk) hn
  exact ⟨hr, h.held.kept (hb _ (.inr (.inl rfl)) (map_row h.held h.row)), h.late.kept (hb _ (.inr (.inr (.inl rfl))) (map_row h.late h.row)), ownsRow_kept0 h.hist fun k hk => hb k (.inr (.inr (.inr hk))) fun e => hist_row h.hist h.row (e ▸ hk), h.ne⟩
theorem RawAt.cell (h : RawAt w L row held late ops) (i : Nat) (v : Value) : RawAt (w.setCell ⟨L.d, i, none⟩ v) L (row.setIfInBounds i v) held late ops :=
  h.rowTo (Joins.block_setCell h.row v) (Fr.setCell w L.d i v)
/-- The map of what is pending has turned. -/
theorem RawAt.lateTo (h : RawAt w L row held late ops) {late' : Int → Option Value} (hm : MapIs Try.prog 3 w' L.lb late') (hf : Fr (fun i => i = L.lb) w w') : RawAt w' L row held late' ops := by
  have hb : ∀ k, L.has k → k ≠ L.lb → w'.heap[k]? = w.heap[k]? := fun k hk hn => hf.block k (h.lt k hk) hn
  exact ⟨(hb _ (.inl rfl) fun e => map_row h.late h.row e.symm).trans h.row, h.held.kept (hb _ (.inr (.inl rfl)) h.ne), hm, ownsRow_kept0 h.hist fun k hk => hb k (.inr (.inr (.inr hk))) fun e => hist_map h.hist h.late (e ▸ hk), h.ne⟩
/-- The map of what is pending is another one. -/
theorem RawAt.lateNew (h : RawAt w L row held late ops) {b : Nat} {late' : Int → Option Value} (hb : L.hb ≠ b) (hm : MapIs Try.prog 3 w b late') : RawAt w ⟨L.d, L.hb, b, L.hv⟩ row held late' ops := ⟨h.row, h.held, hm, h.hist, hb⟩
/-- The history has turned. -/
theorem RawAt.histTo (h : RawAt w L row held late ops) {v : Value} {ops' : List Rec} (ho : w'.ownsRow 0 108 1026 v ops'.length (opCells ops')) (hf : Fr (fun i => L.hv.ownBlock = some i) w w') : RawAt w' ⟨L.d, L.hb, L.lb, v⟩ row held late ops' := by
  have hb : ∀ k, L.has k → L.hv.ownBlock ≠ some k → w'.heap[k]? = w.heap[k]? := fun k hk hn => hf.block k (h.lt k hk) hn
  exact ⟨(hb _ (.inl rfl) (hist_row h.hist h.row)).trans h.row, h.held.kept (hb _ (.inr (.inl rfl)) (hist_map h.hist h.held)), h.late.kept (hb _ (.inr (.inr (.inl rfl))) (hist_map h.hist h.late)), ho, h.ne⟩
/-- From one place to the next, likewise. -/
theorem Goes.of {a b : World} {L L' : Loc} {T : Nat → Prop} (hd : L'.d = L.d) (ho : ∀ k, L'.has k → L.has k ∨ a.heap.size ≤ k) (hf : Fr T a b) (hT : ∀ i, i < a.heap.size → T i → L.has i) : Goes a b L L' := ⟨hd, ho, hf.mono hT⟩
end Go.Proofs.Ytencclpcebpgmaa
/- Regions whose order is drawn, where two operations may come up in either order: both orders are walked. -/
namespace Go.Proofs.Ytencclpcebpgmaa
open Go.RowKit

section
variable {P : Program} {ops : Array Oper} {Q : Exit → Act → World → Prop} {S : World → Prop}

/-- First the operations of a list that only read, then i and j in either order, then l. -/
def forkB (ops : Array Oper) (i j : Nat) (l : List (Nat × Bool)) : List Nat → Array Bool → Bool
  | [], listed => (Region.ready .any ops listed == [i, j]) && (ops[i]?).isSome && (ops[j]?).isSome && ordB ops ((j, false) :: l) (listed.setIfInBounds i true) && ordB ops ((i, false) :: l) (listed.setIfInBounds j true)
  | k :: r, listed => (Region.ready .any ops listed).contains k && Region.free .any ops listed k && (ops[k]?).isSome && forkB ops i j l r (listed.setIfInBounds k true)

/-- One operation that acts, and what follows. -/
def wpAct (P : Program) (ops : Array Oper) (Q : Exit → Act → World → Prop) (S : World → Prop) (o : Oper) (K : Act → World → Prop) (a : Act) (w : World) : Prop :=
  if Region.wanted o (yielded ops a.tmps) then o.wp P a w (fun a' w' => S w' ∧ K a' w') Q else S w ∧ K (a.put o.dst undef) w

theorem wpOp_act {i : Nat} {o : Oper} (hi : ops[i]? = some o) {K K' : Act → World → Prop} (hK : ∀ a w, S w → K a w → K' a w) {a : Act} {w : World} (h : wpAct P ops Q S o K a w) : wpOp P ops Q i (fun a' w' => S w' ∧ K' a' w') a w := by
  unfold wpOp
  rw [hi]
  simp only
  unfold wpAct at h
  split
  · rename_i hw
    rw [if_pos hw] at h
    exact .inl (Oper.wp_mono (fun a' w' h' => ⟨h'.1, hK a' w' h'.1 h'.2⟩) h)
  · rename_i hw
    rw [if_neg hw] at h
    exact ⟨h.1, hK _ w h.1 h.2⟩

def wpFork (P : Program) (ops : Array Oper) (Q : Exit → Act → World → Prop) (S : World → Prop) (ol : List Oper) (i j : Nat) (l : List (Nat × Bool)) : List Nat → Act → World → Prop
  | [], a, w => (∀ o, ol[i]? = some o → wpAct P ops Q S o (wpOrd P ops Q S (inOrd ol ((j, false) :: l))) a w) ∧ (∀ o, ol[j]? = some o → wpAct P ops Q S o (wpOrd P ops Q S (inOrd ol ((i, false) :: l))) a w)
  | k :: r, a, w => ∀ o, ol[k]? = some o → ∃ v, YieldsIf P ops S o v a ∧ wpFork P ops Q S ol i j l r (a.put o.dst v) w

theorem wpFork_any {ol : List Oper} (hs : Region.noSelect ol.toArray = true) (hQ : ∀ d v c a w, Q (.panic c) (a.put d v) w → Q (.panic c) a w) (i j : Nat) (l : List (Nat × Bool)) : ∀ (r : List Nat) (listed : Array Bool) (a : Act) (w : World), S w →
    forkB ol.toArray i j l r listed = true → wpFork P ol.toArray Q S ol i j l r a w → wpAnyH P .any ol.toArray Q S (r.length + (l.length + 2)) listed a w
  | [], listed, a, w, hS, hB, h => by
    simp only [forkB, Bool.and_eq_true, beq_iff_eq] at hB
    obtain ⟨⟨⟨⟨h1, h2⟩, h3⟩, h4⟩, h5⟩ := hB
    obtain ⟨oi, hoi⟩ := Option.isSome_iff_exists.1 h2
    obtain ⟨oj, hoj⟩ := Option.isSome_iff_exists.1 h3
    have hoi' : ol[i]? = some oi := by simpa using hoi
    have hoj' : ol[j]? = some oj := by simpa using hoj
    rw [show ([] : List Nat).length + (l.length + 2) = (l.length + 1) + 1 by simp]
    refine wpAnyH_all h1 (by simp) fun k hk => ?_
    simp only [List.mem_cons, List.not_mem_nil, or_false] at hk
    rcases hk with rfl | rfl
    · exact wpOp_act hoi (fun a' w' hS' hK => wpOrd_any hs hQ ((j, false) :: l) _ a' w' hS' h4 hK) (h.1 oi hoi')
    · exact wpOp_act hoj (fun a' w' hS' hK => wpOrd_any hs hQ ((i, false) :: l) _ a' w' hS' h5 hK) (h.2 oj hoj')
  | k :: r, listed, a, w, hS, hB, h => by
    simp only [forkB, Bool.and_eq_true] at hB
    obtain ⟨⟨⟨h1, h2⟩, h3⟩, h4⟩ := hB
    obtain ⟨o, hi⟩ := Option.isSome_iff_exists.1 h3
    have hi' : ol[k]? = some o := by simpa using hi
    obtain ⟨v, hy, hr⟩ := h o hi'
    rw [show (k :: r).length + (l.length + 2) = r.length + (l.length + 2) + 1 by simp; omega]
    exact wpAnyH_take hi hs h2 h1 (fun c a w => hQ _ _ c a w) hy hS (wpFork_any hs hQ i j l r _ _ w hS h4 hr)

/-- A region that draws its order, walked so. -/
theorem wp_region_fork {id : Nat} {a : Act} {w : World} {ol : List Oper} (r : List Nat) (i j : Nat) (l : List (Nat × Bool)) (hm : P.follows .mixedOrders = true) (hl : r.length + (l.length + 2) = ol.length)
    (hB : (Region.noSelect ol.toArray && forkB ol.toArray i j l r (Array.replicate ol.toArray.size false)) = true) (hQ : ∀ d v c a w, Q (.panic c) (a.put d v) w → Q (.panic c) a w)
    (hS : S w.drew) (h : wpFork P ol.toArray Q S ol i j l r a w.drew) : (Code.region id ol.toArray true).wp P Q a w := by
  simp only [Bool.and_eq_true] at hB
  have h1 := wpFork_any hB.1 hQ i j l r _ a w.drew hS hB.2 h
  rw [hl] at h1
  exact wp_region_held hm (by simpa using h1)

theorem wpFork_yield {ol : List Oper} {i j : Nat} {l : List (Nat × Bool)} {k : Nat} {r : List Nat} {a : Act} {w : World} {o : Oper} {v : Value} (ho : ol[k]? = some o) (hw : Region.wanted o (yielded ops a.tmps) = true)
    (hr : ∀ u, S u → (execOp a.eval o).run P u = .ok (.value v) u) (h : wpFork P ops Q S ol i j l r (a.put o.dst v) w) : wpFork P ops Q S ol i j l (k :: r) a w := by
  intro o' ho'
  obtain rfl : o = o' := by rw [ho] at ho'; exact Option.some.inj ho'
  exact ⟨v, .inl ⟨hw, hr⟩, h⟩
theorem wpFork_nil {ol : List Oper} {i j : Nat} {l : List (Nat × Bool)} {a : Act} {w : World} {oi oj : Oper} (hi : ol[i]? = some oi) (hj : ol[j]? = some oj)
    (h1 : wpOrd P ops Q S (inOrd ol ((i, false) :: (j, false) :: l)) a w) (h2 : wpOrd P ops Q S (inOrd ol ((j, false) :: (i, false) :: l)) a w) : wpFork P ops Q S ol i j l [] a w := by
  refine ⟨fun o ho => ?_, fun o ho => ?_⟩
  · obtain rfl : oi = o := by rw [hi] at ho; exact Option.some.inj ho
    simp only [inOrd, hi, hj, wpOrd] at h1 ⊢
    exact h1
  · obtain rfl : oj = o := by rw [hj] at ho; exact Option.some.inj ho
    simp only [inOrd, hi, hj, wpOrd] at h2 ⊢
    exact h2
end
end Go.Proofs.Ytencclpcebpgmaa
/- Write: a block is pending behind all that is, or the error; for every disk, number and block. -/
namespace Go.Proofs.Ytencclpcebpgmaa
open Go.RowKit
variable {w : World} {L : Loc} {s : St}

section
variable {P : Program} {ops : Array Oper} {Q : Exit → Act → World → Prop} {S : World → Prop} {r : List (Bool × Oper)} {a : Act} {w w' : World} {o : Oper} {v : Value}
theorem wpOrd_run (hw : Region.wanted o (yielded ops a.tmps) = true) (hr : (execOp a.eval o).run P w = .ok (.value v) w') (hS : S w') (h : wpOrd P ops Q S r (a.put o.dst v) w') : wpOrd P ops Q S ((false, o) :: r) a w := by
  simp only [wpOrd, hw, if_true]
  unfold Oper.wp
  rw [hr]
  exact ⟨hS, h⟩
theorem wpOrd_do (hw : Region.wanted o (yielded ops a.tmps) = true) (hr : (execOp a.eval o).run P w = .ok .skip w') (hS : S w') (h : wpOrd P ops Q S r (a.put o.dst undef) w') : wpOrd P ops Q S ((false, o) :: r) a w := by
  simp only [wpOrd, hw, if_true]
  unfold Oper.wp
  rw [hr]
  exact ⟨hS, h⟩
end
def writeS (s : St) (k : Int) (f : Nat → Int) : St := { letV s with wait := s.wait ++ [(k, f)] }
theorem letV_wait (s : St) : (letV s).wait = s.wait := by unfold letV; split <;> rfl
theorem letV_done (s : St) : (letV s).done = s.done := by unfold letV; split <;> rfl
theorem letV_held (s : St) : (letV s).held = s.held := by unfold letV; split <;> rfl
theorem letV_n (s : St) : (letV s).n = s.n := by unfold letV; split <;> rfl
theorem letV_ops (s : St) : (letV s).ops = s.ops := by unfold St.ops; rw [letV_wait, letV_done]
theorem writeS_ok (h : Ok s) {k : Int} (hk : 0 ≤ k ∧ k < s.n) {f : Nat → Int} (hf : Can f) : Ok (writeS s k f) := by
  have h1 := letV_ok h
  refine ⟨h1.n, h1.held, fun c hc => ?_, h1.fuse, h1.made, h1.reads, h1.claims⟩
  have hc' : c ∈ s.wait ∨ c = (k, f) := by simpa [writeS] using hc
  show (0 ≤ c.1 ∧ c.1 < (letV s).n) ∧ Can c.2
  rw [letV_n]
  rcases hc' with h2 | rfl
  · exact h.wait c h2
  · exact ⟨hk, hf⟩
theorem writeS_ops (s : St) (k : Int) (f : Nat → Int) : (writeS s k f).ops = s.ops ++ [⟨1, k, f⟩] := by
  show (letV s).done ++ (s.wait ++ [(k, f)]).map wrec = _
  rw [letV_done]
  unfold St.ops
  simp [wrec]
theorem writeS_late (s : St) (k : Int) (f : Nat → Int) : lateV (writeS s k f) = fun y => if y = k then some (.int .i64 ((s.ops.length : Nat) : Int)) else lateV (letV s) y := by
  funext y
  show (lastAt (s.wait ++ [(k, f)]) y).map (fun i => Value.int .i64 (((letV s).done.length + i : Nat) : Int)) = _
  rw [lastAt_snoc, letV_done, ops_len]
  by_cases e : y = k
  · rw [if_pos e, if_pos (by exact e.symm)]
    rfl
  · rw [if_neg e, if_neg (fun q => e q.symm)]
    unfold lateV
    rw [letV_done, letV_wait]

set_option maxRecDepth 20000 in
theorem write_bad (h : DiskAt w L s) {k : Int} (hb : refV s k ≠ 0) (f : Nat → Int) :
    Calls Try.prog 42 #[.pointer (some ⟨L.d, 0, none⟩), .int .i64 k, .agg (blk f)] w fun e w' => e = .returned (.int .i64 (refV s k)) ∧ Below w.heap.size w w' := by
  have hR := refuses_of (h.later (below_new w (.cells (blk f) 59))) k
  have hne : (refV s k != 0) = true := by simp [hb]
  clear h hb
  generalize refV s k = r at *
  go_enter Try.func42, Try.ntmps42
  go_wp2_with (first | (go_at_call 56; refine hR.mono ?_; rintro e W ⟨rfl, rfl⟩))
  go_ret
  exact ⟨rfl, below_new _ _⟩
set_option maxRecDepth 20000 in
theorem write_dead (h : DiskAt w L s) (hr : Room s) {k : Int} (hb : refV s k = 0) (hl : lets s = false) (f : Nat → Int) :
    Calls Try.prog 42 #[.pointer (some ⟨L.d, 0, none⟩), .int .i64 k, .agg (blk f)] w fun e w' => e = .returned (.int .i64 3) ∧ DiskAt w' L (letV s) ∧ Goes w w' L L := by
  have D1 := h.later (below_new w (.cells (blk f) 59))
  have hR := refuses_of D1 k
  rw [hb] at hR
  have hT := letThrough_of D1 hr
  rw [hl] at hT
  have HG : Hid (Goes w (w.alloc (.cells (blk f) 59)) L L) := Goes.ofBelow L (below_new _ _)
  clear h hb D1
  go_enter Try.func42, Try.ntmps42
  go_wp2_with (first | (go_at_call 56; refine hR.mono ?_; rintro e W ⟨rfl, rfl⟩) | (go_at_call 48; fail))
  refine hT.mono ?_
  rintro e W ⟨rfl, hD, hG⟩
  have HD : Hid (DiskAt W L (letV s)) := hD
  have HG2 : Hid (Goes _ W L L) := hG
  clear hD hG
  go_wp2
  go_ret
  exact ⟨rfl, HD.out, HG.out.trans HG2.out⟩
set_option maxRecDepth 20000 in
set_option maxHeartbeats 2000000 in
theorem write_ok (h : DiskAt w L s) (hr : Room s) {k : Int} (hb : refV s k = 0) (hl : lets s = true) {f : Nat → Int} (hf : Can f) :
    Calls Try.prog 42 #[.pointer (some ⟨L.d, 0, none⟩), .int .i64 k, .agg (blk f)] w fun e w' => e = .returned (.int .i64 0) ∧ ∃ L', DiskAt w' L' (writeS s k f) ∧ Goes w w' L L' := by
  have D1 := h.later (below_new w (.cells (blk f) 59))
  have hR := refuses_of D1 k
  rw [hb] at hR
  have hT := letThrough_of D1 hr
  rw [hl] at hT
  obtain ⟨_, hk⟩ := refV_ok hb
  have hin := inTop_of h.ok hk
  have hok := writeS_ok h.ok hk hf
  have HG : Hid (Goes w (w.alloc (.cells (blk f) 59)) L L) := Goes.ofBelow L (below_new _ _)
  have hL : ∀ i, L.has i → i < w.heap.size := h.lt
  have hro := hr.ops
  have hB0 := heap_alloc_new w (.cells (blk f) 59)
  have hsz : w.heap.size < (w.alloc (.cells (blk f) 59)).heap.size := by simp
  clear h hb D1 hr
  go_enter Try.func42, Try.ntmps42
  go_wp2_with (first | (go_at_call 56; refine hR.mono ?_; rintro e W ⟨rfl, rfl⟩) | (go_at_call 48; fail))
  refine hT.mono ?_
  rintro e W ⟨rfl, hD, hG⟩
  have hB : W.heap[w.heap.size]? = some (.cells (blk f) 59) := (hG.fr.block w.heap.size hsz fun q => by have := hL _ q; omega).trans hB0
  have HG2 : Hid (Goes w W L L) := HG.out.trans hG
  clear hG HG hR hT hsz hB0
  generalize hg0 : w.heap.size = g0 at *
  obtain ⟨p, c, h1, h2, h3, h4⟩ := hD.shape
  rw [letV_ops] at h1 h2
  have c3 := hD.c3
  have c5 := hD.c5
  rw [h1] at c3
  have hLate := hD.late
  have HR : Hid (RawAt W L (dkRow L (letV s)) (heldV (letV s)) (lateV (letV s)) (letV s).ops) := hD.raw
  clear hD h4
  go_wp2
  go_still_tail 10, (by kernel_rfl)
  change wpList _ _ _ _ _ (World.drew _)
  refine wpList_putM rfl (.tmp 20) (.tmp 21) (.tmp 26) 76 rfl 3 Try.underlying3 keyed3 Try.underlying76 L.lb _ rfl (hLate.kept (w' := W.drew) rfl) k hin rfl (.int .i64 ((s.ops.length : Nat) : Int)) rfl ?_
  intro W3 hm3 hg3
  have hF3 : Fr (fun i => i = L.lb) W W3 := (Fr.drew W).trans ((Fr.ofGrown hg3).mono fun i _ q => by injection q with q; exact q.symm) fun _ _ q => q
  rw [← writeS_late s k f] at hm3
  have hR3 := HR.out.lateTo hm3 hF3
  have hB3 : W3.heap[g0]? = some (.cells (blk f) 59) := (hF3.block g0 (Array.getElem?_eq_some_iff.1 hB).1 fun q => by have := hL L.lb (.inr (.inr (.inl rfl))); omega).trans hB
  have hG3 : Goes w W3 L L := HG2.out.trans (Goes.of rfl (fun _ q => .inl q) hF3 fun i _ q => .inr (.inr (.inl q)))
  clear HR HG2 hm3 hg3 hF3 hLate c3 c5 hB
  have hR4 : RawAt W3.drew L (dkRow L (letV s)) (heldV (letV s)) (lateV (writeS s k f)) (letV s).ops := hR3.fr (Fr.drew (T := fun _ => False) W3) fun _ _ q => q
  have hG4 : Goes w W3.drew L L := hG3.trans ⟨rfl, fun _ q => .inl q, Fr.drew W3⟩
  have hB4 : W3.drew.heap[g0]? = some (.cells (blk f) 59) := hB3
  clear hR3 hG3 hB3
  go_wp2
  refine wp_region_fork (S := fun u => u.heap[g0]? = some (.cells (blk f) 59)) [0, 1, 2, 3, 5, 6, 7] 4 8 [(9, false), (10, true), (11, true), (12, false)] (by kernel_rfl) rfl (by kernel_rfl) (fun d _ _ _ _ h => by cases d <;> exact h) hB4 ?_
  simp only [Act.put]
  generalize W3.drew = V at *
  have hlt : g0 < V.heap.size := (Array.getElem?_eq_some_iff.1 hB4).1
  have c3 : V.cell? ⟨L.d, 3, none⟩ = some L.hv := Joins.cell_of_block hR4.row 3
  rw [h1] at c3
  refine wpFork_yield (v := .pointer (some ⟨L.d, 0, none⟩)) rfl rfl (fun u _ => by simp [execOp, Act.eval]) ?_
  simp only [Act.put, List.setIfInBounds_toArray, List.set_cons_succ, List.set_cons_zero]
  refine wpFork_yield (v := .pointer (some ⟨L.d, 0, none⟩)) rfl rfl (fun u _ => by simp [execOp, Act.eval]) ?_
  simp only [Act.put, List.setIfInBounds_toArray, List.set_cons_succ, List.set_cons_zero]
  refine wpFork_yield (v := .pointer (some ⟨L.d, 0, none⟩)) rfl rfl (fun u _ => by go_simp) ?_
  simp only [Act.put, List.setIfInBounds_toArray, List.set_cons_succ, List.set_cons_zero]
  refine wpFork_yield (v := .pointer (some ⟨L.d, 3, none⟩)) rfl rfl (fun u _ => by go_simp) ?_
  simp only [Act.put, List.setIfInBounds_toArray, List.set_cons_succ, List.set_cons_zero]
  refine wpFork_yield (v := .int .i64 k) rfl rfl (fun u _ => by simp [execOp, Act.eval]) ?_
  simp only [Act.put, List.setIfInBounds_toArray, List.set_cons_succ, List.set_cons_zero]
  refine wpFork_yield (v := .agg (blk f)) rfl rfl (fun u hu => by
    unfold execOp
    simp only [Act.eval]
    have e := loadM (BlkAt.of hu)
    change Sem.run Try.prog (Instr.loadAt 59 (.pointer (some ⟨g0, 0, none⟩)) >>= fun v => pure (Next.value v)) u = _
    simp only [Sem.run_bind, e, Result.andThen_ok, Sem.run_pure]) ?_
  simp only [Act.put, List.setIfInBounds_toArray, List.set_cons_succ, List.set_cons_zero]
  refine wpFork_yield (v := .agg (recCells ⟨1, k, f⟩).toArray) rfl rfl (fun u hu => by
    have e := build108 1 k f u
    simp [execOp, Act.eval, e]) ?_
  simp only [Act.put, List.setIfInBounds_toArray, List.set_cons_succ, List.set_cons_zero]
  have hro' : (letV s).ops.length < 68719476736 := by rw [letV_ops]; exact hro
  obtain ⟨v', W5, hrun, ho5, hF5, hw5⟩ := push_run (W := V) (v := L.hv) ⟨1, k, f⟩ 75 hR4.hist hro'
  obtain ⟨g5, cap5, rfl⟩ : ∃ g5 cap5, v' = Value.slice (some ⟨g5, 0, none⟩) (s.ops ++ [(⟨1, k, f⟩ : Rec)]).length cap5 := by
    rw [letV_ops] at ho5
    rcases ho5.2 with ⟨_, h⟩ | ⟨g, cap', _, h, _⟩
    · simp at h
    · exact ⟨g, cap', h⟩
  have hR5 := hR4.histTo ho5 hF5
  have hD6 : Hid (DiskAt (W5.setCell ⟨L.d, 3, none⟩ (Value.slice (some ⟨g5, 0, none⟩) (s.ops ++ [(⟨1, k, f⟩ : Rec)]).length cap5)) ⟨L.d, L.hb, L.lb, Value.slice (some ⟨g5, 0, none⟩) (s.ops ++ [(⟨1, k, f⟩ : Rec)]).length cap5⟩ (writeS s k f)) := by
    refine RawAt.disk ?_ hok
    have h6 := hR5.cell 3 (Value.slice (some ⟨g5, 0, none⟩) (s.ops ++ [(⟨1, k, f⟩ : Rec)]).length cap5)
    rw [letV_ops] at h6
    rw [writeS_ops]
    exact h6
  have hG6 : Hid (Goes w (W5.setCell ⟨L.d, 3, none⟩ (Value.slice (some ⟨g5, 0, none⟩) (s.ops ++ [(⟨1, k, f⟩ : Rec)]).length cap5)) L ⟨L.d, L.hb, L.lb, Value.slice (some ⟨g5, 0, none⟩) (s.ops ++ [(⟨1, k, f⟩ : Rec)]).length cap5⟩) := by
    refine hG4.trans (Goes.of (T := fun i => L.hv.ownBlock = some i ∨ i = L.d) rfl (fun i hi => ?_) ((hF5.mono fun i _ q => .inl q).trans ((Fr.setCell W5 L.d 3 _).mono fun i _ q => .inr q) fun i _ q => q) fun i _ q => ?_)
    · rcases hi with q | q | q | q
      · exact .inl (.inl q)
      · exact .inl (.inr (.inl q))
      · exact .inl (.inr (.inr (.inl q)))
      · rcases hw5 i q with q | q
        · exact .inl (.inr (.inr (.inr q)))
        · exact .inr q
    · rcases q with q | q
      · exact .inr (.inr (.inr q))
      · exact .inl q
  have S1 := heap_kept hB4 (below_new V (.cells (recCells ⟨1, k, f⟩).toArray 108))
  have S5 : W5.heap[g0]? = some (.cells (blk f) 59) := (hF5.block g0 hlt fun q => by have := hL g0 (.inr (.inr (.inr q))); omega).trans hB4
  have S6 : (W5.setCell ⟨L.d, 3, none⟩ (Value.slice (some ⟨g5, 0, none⟩) (s.ops ++ [(⟨1, k, f⟩ : Rec)]).length cap5)).heap[g0]? = some (.cells (blk f) 59) :=
    (Below.heap_setCell _ _ _ _ (by show g0 ≠ L.d; have := hL L.d (.inl rfl); omega)).trans S5
  have k3 : W5.cell? ⟨L.d, 3, none⟩ = some L.hv := Joins.cell_of_block hR5.row 3
  have f3 : W5.frozen? ⟨L.d, 3, none⟩ = false := Joins.unfrozen_of_block hR5.row 3
  have hdl : L.d < V.heap.size := hR4.lt L.d (.inl rfl)
  have c3' : (V.alloc (.cells (recCells ⟨1, k, f⟩).toArray 108)).cell? ⟨L.d, 3, none⟩ = some (.slice p s.ops.length c) := by rw [World.cell?_alloc_past _ _ _ hdl]; exact c3
  have hbs := build67 ⟨1, k, f⟩ V
  rw [h1] at hrun k3
  clear hR5 hR4 hF5 hw5 ho5 hG4 hok hro'
  generalize hrl : (s.ops ++ [(⟨1, k, f⟩ : Rec)]).length = m5 at *
  generalize hrc : (recCells ⟨1, k, f⟩).toArray = RC at *
  refine wpFork_nil rfl rfl ?_ ?_
  · simp only [inOrd, List.getElem?_cons_zero, List.getElem?_cons_succ]
    refine wpOrd_run (v := .slice p s.ops.length c) (w' := V) rfl (by go_simp) hB4 ?_
    simp only [Act.put, List.setIfInBounds_toArray, List.set_cons_succ, List.set_cons_zero]
    refine wpOrd_run (v := .slice (some ⟨V.heap.size, 0, none⟩) 1 1) (w' := V.alloc (.cells RC 108)) rfl (by simp [execOp, Act.eval, hbs]) S1 ?_
    simp only [Act.put, List.setIfInBounds_toArray, List.set_cons_succ, List.set_cons_zero]
    refine wpOrd_run (v := .slice (some ⟨g5, 0, none⟩) m5 cap5) (w' := W5) rfl (by simp [execOp, Act.eval, resolve, invoke, builtin, hrun, Result.andThen]) S5 ?_
    simp only [Act.put, List.setIfInBounds_toArray, List.set_cons_succ, List.set_cons_zero]
    refine wpOrd_yield (v := .pointer (some ⟨L.d, 0, none⟩)) rfl (fun u _ => by go_simp) ?_
    simp only [Act.put, List.setIfInBounds_toArray, List.set_cons_succ, List.set_cons_zero]
    refine wpOrd_yield (v := .pointer (some ⟨L.d, 3, none⟩)) rfl (fun u _ => by go_simp) ?_
    simp only [Act.put, List.setIfInBounds_toArray, List.set_cons_succ, List.set_cons_zero]
    refine wpOrd_do (w' := W5.setCell ⟨L.d, 3, none⟩ (.slice (some ⟨g5, 0, none⟩) m5 cap5)) rfl (by go_simp) S6 ?_
    refine wpOrd_nil ?_
    simp only [Act.put]
    generalize W5.setCell ⟨L.d, 3, none⟩ (.slice (some ⟨g5, 0, none⟩) m5 cap5) = Y at *
    clear hrun S1 S5 S6 k3 f3 c3' hbs c3
    go_wp2
    go_ret
    exact ⟨rfl, _, hD6.out, hG6.out⟩
  · simp only [inOrd, List.getElem?_cons_zero, List.getElem?_cons_succ]
    refine wpOrd_run (v := .slice (some ⟨V.heap.size, 0, none⟩) 1 1) (w' := V.alloc (.cells RC 108)) rfl (by simp [execOp, Act.eval, hbs]) S1 ?_
    simp only [Act.put, List.setIfInBounds_toArray, List.set_cons_succ, List.set_cons_zero]
    refine wpOrd_run (v := .slice p s.ops.length c) (w' := V.alloc (.cells RC 108)) rfl (by go_simp) S1 ?_
    simp only [Act.put, List.setIfInBounds_toArray, List.set_cons_succ, List.set_cons_zero]
    refine wpOrd_run (v := .slice (some ⟨g5, 0, none⟩) m5 cap5) (w' := W5) rfl (by simp [execOp, Act.eval, resolve, invoke, builtin, hrun, Result.andThen]) S5 ?_
    simp only [Act.put, List.setIfInBounds_toArray, List.set_cons_succ, List.set_cons_zero]
    refine wpOrd_yield (v := .pointer (some ⟨L.d, 0, none⟩)) rfl (fun u _ => by go_simp) ?_
    simp only [Act.put, List.setIfInBounds_toArray, List.set_cons_succ, List.set_cons_zero]
    refine wpOrd_yield (v := .pointer (some ⟨L.d, 3, none⟩)) rfl (fun u _ => by go_simp) ?_
    simp only [Act.put, List.setIfInBounds_toArray, List.set_cons_succ, List.set_cons_zero]
    refine wpOrd_do (w' := W5.setCell ⟨L.d, 3, none⟩ (.slice (some ⟨g5, 0, none⟩) m5 cap5)) rfl (by go_simp) S6 ?_
    refine wpOrd_nil ?_
    simp only [Act.put]
    generalize W5.setCell ⟨L.d, 3, none⟩ (.slice (some ⟨g5, 0, none⟩) m5 cap5) = Y at *
    clear hrun S1 S5 S6 k3 f3 c3' hbs c3
    go_wp2
    go_ret
    exact ⟨rfl, _, hD6.out, hG6.out⟩
end Go.Proofs.Ytencclpcebpgmaa
/- Barrier: all that is pending is held, in order, and nothing is pending any more, or the error; for every disk. -/
namespace Go.Proofs.Ytencclpcebpgmaa
open Go.RowKit
variable {w : World} {L : Loc} {s : St}

/-- Blocks are held one behind the other. -/
def holdAll (s : St) (l : List Cel) : St := l.foldl (fun s c => holdV s c.1 c.2) s
theorem holdAll_snoc (s : St) (l : List Cel) (c : Cel) : holdAll s (l ++ [c]) = holdV (holdAll s l) c.1 c.2 := by simp [holdAll]
theorem holdAll_same (l : List Cel) : ∀ s : St, ∃ h, holdAll s l = { s with held := h } := by
  induction l with
  | nil => exact fun s => ⟨s.held, rfl⟩
  | cons c t ih =>
    intro s
    obtain ⟨h, e⟩ := ih (holdV s c.1 c.2)
    exact ⟨h, by show holdAll (holdV s c.1 c.2) t = _; rw [e]; rfl⟩
theorem holdAll_wait (s : St) (l : List Cel) : (holdAll s l).wait = s.wait := by obtain ⟨h, e⟩ := holdAll_same l s; rw [e]
theorem holdAll_done (s : St) (l : List Cel) : (holdAll s l).done = s.done := by obtain ⟨h, e⟩ := holdAll_same l s; rw [e]
theorem holdAll_n (s : St) (l : List Cel) : (holdAll s l).n = s.n := by obtain ⟨h, e⟩ := holdAll_same l s; rw [e]
theorem holdAll_ops (s : St) (l : List Cel) : (holdAll s l).ops = s.ops := by unfold St.ops; rw [holdAll_wait, holdAll_done]
theorem take_snoc {l : List Cel} {k : Nat} {c : Cel} (h : l[k]? = some c) : l.take (k + 1) = l.take k ++ [c] := by
  rw [List.take_add_one, h]
  rfl
/-- Behind a barrier. -/
def barS (s : St) : St := { holdAll (letV s) s.wait with done := s.ops ++ [⟨2, 0, nought⟩], wait := [] }
theorem barS_ops (s : St) : (barS s).ops = s.ops ++ [⟨2, 0, nought⟩] := by
  show (s.ops ++ [⟨2, 0, nought⟩]) ++ List.map wrec [] = _
  simp
theorem barS_ok (h : Ok (holdAll (letV s) s.wait)) : Ok (barS s) := ⟨h.n, h.held, fun c hc => by simp [barS] at hc, h.fuse, h.made, h.reads, h.claims⟩
theorem Goes.hold {a b : World} {L : Loc} (h : Fr (fun i => i = L.hb) a b) : Goes a b L L := Goes.of rfl (fun _ q => .inl q) h fun _ _ q => .inr (.inl q)

theorem slice_of {w : World} {v : Value} {n : Nat} {xs : List Value} (h : w.ownsRow 0 108 1026 v n xs) (hn : 0 < n) : ∃ g cap, v = .slice (some ⟨g, 0, none⟩) n cap := by
  rcases h.2 with ⟨_, h⟩ | ⟨g, cap', _, h, _⟩
  · omega
  · exact ⟨g, cap', h⟩
theorem wpList_bar {ops : Array Oper} {rest : List Oper} {o : Oper} {a : Act} {w : World} {Q : Exit → Act → World → Prop} (hgd : o.guard = none) (ho : o.op = .build 108 #[(0, .const (.int .u8 2))])
    (h : wpList Try.prog ops Q rest (a.put o.dst (.agg (recCells ⟨2, 0, nought⟩).toArray)) w) : wpList Try.prog ops Q (o :: rest) a w :=
  wpList_plain hgd fun _ hK => by
    have e := build108b 2 w
    generalize (recCells ⟨2, 0, nought⟩).toArray = Z at *
    have e' : (execOp a.eval o).run Try.prog w = .ok (.value (.agg Z)) w := by simp [execOp, ho, Act.eval, e]
    unfold Oper.wp
    rw [e']
    exact hK _ _ h

set_option maxRecDepth 20000 in
theorem barrier_none {v : Value} (h : NoneAt w v) : Calls Try.prog 22 #[v] w fun e w' => e = .returned (.int .i64 1) ∧ w' = w := by
  go_enter Try.func22, Try.ntmps22
  go_wp2_with (first | (go_at_call 47; refine (none_yes h).mono ?_; rintro e W ⟨rfl, rfl⟩))
  go_ret
  exact ⟨rfl, rfl⟩
set_option maxRecDepth 20000 in
theorem barrier_stopped (h : DiskAt w L s) (hs : s.stopped = true) : Calls Try.prog 22 #[.pointer (some ⟨L.d, 0, none⟩)] w fun e w' => e = .returned (.int .i64 3) ∧ w' = w := by
  have c7 := h.c7
  have h0 := h.c0
  rw [hs] at c7
  clear h
  go_enter Try.func22, Try.ntmps22
  go_wp2_with (first | (go_at_call 47; refine (none_no h0).mono ?_; rintro e W ⟨rfl, rfl⟩))
  go_ret
  exact ⟨rfl, rfl⟩
set_option maxRecDepth 20000 in
theorem barrier_dead (h : DiskAt w L s) (hr : Room s) (hs : s.stopped = false) (hl : lets s = false) : Calls Try.prog 22 #[.pointer (some ⟨L.d, 0, none⟩)] w fun e w' => e = .returned (.int .i64 3) ∧ DiskAt w' L (letV s) ∧ Goes w w' L L := by
  have c7 := h.c7
  have h0 := h.c0
  rw [hs] at c7
  have hT := letThrough_of h hr
  rw [hl] at hT
  clear h
  go_enter Try.func22, Try.ntmps22
  go_wp2_with (first | (go_at_call 47; refine (none_no h0).mono ?_; rintro e W ⟨rfl, rfl⟩) | (go_at_call 48; fail))
  refine hT.mono ?_
  rintro e W ⟨rfl, hD, hG⟩
  have HD : Hid (DiskAt W L (letV s)) := hD
  have HG2 : Hid (Goes _ W L L) := hG
  clear hD hG
  go_wp2
  go_ret
  exact ⟨rfl, HD.out, HG2.out⟩
set_option maxRecDepth 20000 in
set_option maxHeartbeats 2000000 in
theorem barrier_ok (h : DiskAt w L s) (hr : Room s) (hs : s.stopped = false) (hl : lets s = true) :
    Calls Try.prog 22 #[.pointer (some ⟨L.d, 0, none⟩)] w fun e w' => e = .returned (.int .i64 0) ∧ ∃ L', DiskAt w' L' (barS s) ∧ Goes w w' L L' := by
  have c7 := h.c7
  have h0 := h.c0
  rw [hs] at c7
  have hT := letThrough_of h hr
  rw [hl] at hT
  have hro := hr.ops
  clear h
  go_enter Try.func22, Try.ntmps22
  go_wp2_with (first | (go_at_call 47; refine (none_no h0).mono ?_; rintro e W ⟨rfl, he⟩; obtain rfl := he.symm) | (go_at_call 48; fail))
  refine hT.mono ?_
  rintro e W ⟨rfl, hD, hG⟩
  have hP := pending_of hD
  obtain ⟨p, cp, hp1, hp2, hp3⟩ := hD.pend
  rw [hp1, letV_wait] at hP
  rw [letV_wait] at hp2 hp3
  rw [letV_done] at hp3
  have HD : Hid (DiskAt W.drew L (letV s)) := hD.fr (Fr.drew (T := fun _ => False) W) fun _ _ q => q
  have HG2 : Hid (Goes w W.drew L L) := hG.trans ⟨rfl, fun _ q => .inl q, Fr.drew W⟩
  clear hD hG hT hp1 c7
  have HP : Hid (0 < s.wait.length → ∃ g, L.hv.ownBlock = some g ∧ p = some ⟨g, s.done.length * 1026, none⟩) := hp3
  clear hp3
  have hwl : s.wait.length < 68719476736 := by have := ops_len s; omega
  go_wp2_with (go_at_call 49; refine hP.mono ?_; rintro e W1 ⟨rfl, rfl⟩)
  clear hP
  generalize W.drew = V at *
  generalize hm : s.wait.length = m at *
  go_loopw [20] (fun s20 wx => ∃ k : Nat, k ≤ m ∧ s20 = .int .i64 k ∧ Hid (DiskAt wx L (holdAll (letV s) (s.wait.take k))) ∧ Hid (Goes w wx L L)) (fun s20 _ => m - (intOf s20).toNat)
  case atStart => exact ⟨0, by omega, rfl, HD.out, HG2.out⟩
  case round =>
    obtain ⟨k, hk, rfl, HDk, HGk⟩ := hrel
    by_cases hk2 : (k : Int) < m
    · have hkl : k < s.wait.length := by omega
      obtain ⟨g, hg, rfl⟩ := HP.out (by omega)
      have hc : s.wait[k]? = some s.wait[k] := List.getElem?_eq_getElem hkl
      generalize s.wait[k] = c at hc
      have hop : (holdAll (letV s) (s.wait.take k)).ops[s.done.length + k]? = some (wrec c) := by rw [holdAll_ops, letV_ops]; exact ops_wait s hc
      have HDd : DiskAt wr.drew L (holdAll (letV s) (s.wait.take k)) := HDk.out.fr (Fr.drew (T := fun _ => False) wr) fun _ _ q => q
      have hpos := HDk.out.histPos hg hop
      have hblk := HDd.histBlk hg hop
      have hcw := HDd.ok.wait c (by rw [holdAll_wait, letV_wait]; exact List.mem_of_getElem? hc)
      rw [holdAll_n] at hcw
      have HH := hold_of HDd (by rw [holdAll_n]; exact hcw.1) hcw.2 hblk
      rw [← holdAll_snoc, ← take_snoc hc] at HH
      have e1 : (s.done.length + k) * 1026 = s.done.length * 1026 + k * 1026 := Nat.add_mul _ _ _
      rw [e1] at hpos HH
      have hpos' : wr.cell? ⟨g, s.done.length * 1026 + k * 1026 + 1, none⟩ = some (.int .i64 c.1) := hpos
      have HH2 : Hid (Calls Try.prog 50 #[.pointer (some ⟨L.d, 0, none⟩), .int .i64 c.1, .pointer (some ⟨g, s.done.length * 1026 + k * 1026 + 2, none⟩)] wr.drew fun e w' => e = .returned (.tuple #[]) ∧ DiskAt w' L (holdAll (letV s) (s.wait.take (k + 1))) ∧ Goes w w' L L) :=
        Calls.mono HH fun e w' ⟨h1, h2, h3⟩ => ⟨h1, h2, (HGk.out.trans ⟨rfl, fun _ q => .inl q, Fr.drew wr⟩).trans (Goes.hold h3)⟩
      generalize s.done.length * 1026 = D at *
      clear HH hpos hblk hop hc e1 HDk hcw HDd HGk
      go_wp2
      go_still_tail 10, (by kernel_rfl)
      change wpList _ _ _ _ _ (World.drew _)
      go_wp2_with (go_at_call 50; fail)
      refine HH2.out.mono ?_
      rintro e W2 ⟨rfl, hD2, hG2⟩
      have HD2 : Hid (DiskAt W2 L (holdAll (letV s) (s.wait.take (k + 1)))) := hD2
      have HG3 : Hid (Goes w W2 L L) := hG2
      clear hD2 hG2 HH2
      go_wp2
      exact ⟨⟨k + 1, by omega, by go_num, HD2.out, HG3.out⟩, by simp [intOf]; omega⟩
    · obtain rfl : k = m := by omega
      have hD := HDk.out
      rw [← hm, List.take_length] at hD
      have hG := HGk.out
      clear HDk HGk HP
      have hRaw := hD.raw
      rw [holdAll_ops, letV_ops] at hRaw
      have c3 := hD.c3
      obtain ⟨p', c', h1, h2, h3, h4⟩ := hD.shape
      rw [holdAll_ops, letV_ops] at h1
      rw [h1] at c3
      have hbl := fun u => build67 ⟨2, 0, nought⟩ u
      have hh := hRaw.hist
      rw [h1] at hh
      have hl0 : 0 < (s.ops ++ [(⟨2, 0, nought⟩ : Rec)]).length := by simp
      go_wp2_with (first | refine wpList_bar rfl rfl ?_ | refine wpList_build1 rfl 75 108 (.tmp 40) rfl _ rfl (hbl _) ?_ | (at_builtin; refine wpList_pushR rfl (.tmp 39) (.tmp 41) rfl (.slice p' s.ops.length c') s.ops ⟨2, 0, nought⟩ rfl rfl hh hro ?_; intro v' W5 ho5 hF5 hw5; obtain ⟨g5, cap5, rfl⟩ := slice_of ho5 hl0; rw [← h1] at hF5 hw5; have hR5 := hRaw.histTo ho5 hF5; have k3 : W5.cell? ⟨L.d, 3, none⟩ = some L.hv := Joins.cell_of_block hR5.row 3; rw [h1] at k3; have f3 : W5.frozen? ⟨L.d, 3, none⟩ = false := Joins.unfrozen_of_block hR5.row 3) | (go_at_call 51; fail))
      have hn1 : (s.ops ++ [(⟨2, 0, nought⟩ : Rec)]).length = s.ops.length + 1 := by simp
      have hR5' : RawAt W5 ⟨L.d, L.hb, L.lb, .slice (some ⟨g5, 0, none⟩) (s.ops.length + 1) cap5⟩ (dkRow L (holdAll (letV s) s.wait)) (heldV (holdAll (letV s) s.wait)) (lateV (holdAll (letV s) s.wait)) (s.ops ++ [⟨2, 0, nought⟩]) := hn1 ▸ hR5
      have hw5' : ∀ k, (Value.slice (some ⟨g5, 0, none⟩) (s.ops.length + 1) cap5).ownBlock = some k → L.hv.ownBlock = some k ∨ wr.heap.size ≤ k := hw5
      have hR6 := hR5'.cell 3 (.slice (some ⟨g5, 0, none⟩) (s.ops.length + 1) cap5)
      have hok := barS_ok hD.ok
      clear hR5 hR5' hRaw hw5 ho5 hh hbl c3 k3 f3
      have hF6 : Fr (fun i => L.hv.ownBlock = some i ∨ i = L.d) wr (W5.setCell ⟨L.d, 3, none⟩ (.slice (some ⟨g5, 0, none⟩) (s.ops.length + 1) cap5)) :=
        (hF5.mono fun i _ q => .inl q).trans ((Fr.setCell W5 L.d 3 _).mono fun i _ q => .inr q) fun i _ q => q
      generalize W5.setCell ⟨L.d, 3, none⟩ (.slice (some ⟨g5, 0, none⟩) (s.ops.length + 1) cap5) = W6 at *
      refine (nothing_of (d := L.d) (n := (holdAll (letV s) s.wait).n) (hb := L.hb) (p := some ⟨g5, 0, none⟩) (m := s.ops.length + 1) (c := cap5) (bh := ((holdAll (letV s) s.wait).done.length : Int)) (lb := L.lb) (fu := (holdAll (letV s) s.wait).fuse) (st := (holdAll (letV s) s.wait).stopped) (ma := (holdAll (letV s) s.wait).made) (re := (holdAll (letV s) s.wait).reads) (cl := (holdAll (letV s) s.wait).claims) (cd := (holdAll (letV s) s.wait).claimed) hR6.row).mono ?_
      rintro e W7 ⟨rfl, hrow7, hM7, hF7⟩
      have hlb : L.hb < W6.heap.size := hR6.held.lt
      have hR7 := (hR6.rowTo hrow7 hF7).lateNew (b := W6.heap.size) (by show L.hb ≠ _; omega) hM7
      have hD7 : Hid (DiskAt W7 ⟨L.d, L.hb, W6.heap.size, .slice (some ⟨g5, 0, none⟩) (s.ops.length + 1) cap5⟩ (barS s)) := by
        refine RawAt.disk ?_ hok
        rw [barS_ops]
        have e1 : lateV (barS s) = fun _ => none := by funext y; rfl
        have e2 : dkRow ⟨L.d, L.hb, W6.heap.size, .slice (some ⟨g5, 0, none⟩) (s.ops.length + 1) cap5⟩ (barS s) = row12 L.d (holdAll (letV s) s.wait).n L.hb (.slice (some ⟨g5, 0, none⟩) (s.ops.length + 1) cap5) ((s.ops.length + 1 : Nat) : Int) W6.heap.size (holdAll (letV s) s.wait).fuse (holdAll (letV s) s.wait).stopped (holdAll (letV s) s.wait).made (holdAll (letV s) s.wait).reads (holdAll (letV s) s.wait).claims (holdAll (letV s) s.wait).claimed := by
          rw [← hn1]
          rfl
        rw [e1, e2]
        exact hR7
      have hG7 : Hid (Goes w W7 L ⟨L.d, L.hb, W6.heap.size, .slice (some ⟨g5, 0, none⟩) (s.ops.length + 1) cap5⟩) := by
        refine hG.trans (Goes.of (T := fun i => L.hv.ownBlock = some i ∨ i = L.d) rfl (fun i hi => ?_) (hF6.trans (hF7.mono fun i _ q => .inr q) fun i _ q => q) fun i _ q => ?_)
        · rcases hi with q | q | q | q
          · exact .inl (.inl q)
          · exact .inl (.inr (.inl q))
          · have q' : i = W6.heap.size := q
            have := hF6.size
            exact .inr (by omega)
          · rcases hw5' i q with q | q
            · exact .inl (.inr (.inr (.inr q)))
            · exact .inr q
        · rcases q with q | q
          · exact .inr (.inr (.inr q))
          · exact .inl q
      clear hR7 hrow7 hM7 hF7 hR6 hF6 hF5 hD hG hw5' hok hn1
      go_wp2
      go_ret
      exact ⟨rfl, _, hD7.out, hG7.out⟩
end Go.Proofs.Ytencclpcebpgmaa
/- Crash: of what is pending that is held which is kept, in order; nothing is pending then, there is no fuse, nobody's claim; for every disk and every choice. -/
namespace Go.Proofs.Ytencclpcebpgmaa
open Go.RowKit
variable {w : World} {L : Loc} {s : St}

/-- v is a list of bools in memory. -/
def BoolsAt (w : World) (v : Value) (l : List Bool) : Prop := ∃ p c, v = .slice p l.length c ∧ (0 < l.length → ∃ b off, p = some ⟨b, off, none⟩ ∧ ∀ i x, l[i]? = some x → w.cell? ⟨b, off + i, none⟩ = some (.bool x))
theorem BoolsAt.kept {w w' : World} {v : Value} {l : List Bool} {T : Nat → Prop} (h : BoolsAt w v l) (hf : Fr T w w') (hT : ∀ b x off, w.cell? ⟨b, off, none⟩ = some (.bool x) → ¬ T b) : BoolsAt w' v l := by
  obtain ⟨p, c, h1, h2⟩ := h
  refine ⟨p, c, h1, fun hl => ?_⟩
  obtain ⟨b, off, h3, h4⟩ := h2 hl
  refine ⟨b, off, h3, fun i x hx => ?_⟩
  have h5 := h4 i x hx
  have hlt : b < w.heap.size := by
    by_cases q : b < w.heap.size
    · exact q
    · unfold World.cell? at h5
      simp only [Array.getElem?_eq_none (show w.heap.size ≤ b by omega)] at h5
      simp at h5
  rw [← h5]
  exact World.cell?_of_block (hf.block b hlt (hT b x _ h5))
/-- Those that are kept. -/
def keptL : List Cel → List Bool → List Cel
  | c :: t, true :: k => c :: keptL t k
  | _ :: t, false :: k => keptL t k
  | _, _ => []
theorem keptL_snoc (c : Cel) (b : Bool) : ∀ (l : List Cel) (k : List Bool), l.length = k.length → keptL (l ++ [c]) (k ++ [b]) = keptL l k ++ (if b then [c] else [])
  | [], [], _ => by cases b <;> rfl
  | x :: l, y :: k, h => by
    have ih := keptL_snoc c b l k (by simpa using h)
    cases y
    · exact ih
    · show x :: keptL (l ++ [c]) (k ++ [b]) = _
      rw [ih]; rfl
  | [], _ :: _, h => by simp at h
  | _ :: _, [], h => by simp at h
theorem keptL_take : ∀ (l : List Cel) (k : List Bool) (n : Nat), l.length ≤ n ∨ k.length ≤ n → keptL (l.take n) (k.take n) = keptL l k
  | [], k, n, _ => by simp [keptL]
  | x :: l, [], n, _ => by cases n <;> simp [keptL]
  | x :: l, y :: k, 0, h => by simp at h
  | x :: l, y :: k, n + 1, h => by
    have ih := keptL_take l k n (by simpa using h)
    cases y
    · exact ih
    · show x :: keptL (l.take n) (k.take n) = x :: keptL l k
      rw [ih]
/-- Behind the power's going. -/
def crashS (s : St) (k : List Bool) : St := { holdAll s (keptL s.wait k) with done := [], wait := [], fuse := -1, stopped := false, claimed := false }
theorem crashS_ok {k : List Bool} (h : Ok (holdAll s (keptL s.wait k))) : Ok (crashS s k) :=
  ⟨h.n, h.held, fun c hc => by simp [crashS] at hc, ⟨by show (-1 : Int) ≤ -1; omega, by show (-1 : Int) ≤ _; omega⟩, h.made, h.reads, h.claims⟩
set_option maxRecDepth 20000 in
theorem crash_none {v : Value} (h : NoneAt w v) (kv : Value) : Calls Try.prog 32 #[v, kv] w fun e w' => e = .returned (.int .i64 1) ∧ w' = w := by
  go_enter Try.func32, Try.ntmps32
  go_wp2_with (first | (go_at_call 47; refine (none_yes h).mono ?_; rintro e W ⟨rfl, rfl⟩))
  go_ret
  exact ⟨rfl, rfl⟩
theorem bool_no_map {w : World} {b hb off : Nat} {m : Int → Option Value} {x : Bool} (h : w.cell? ⟨b, off, none⟩ = some (.bool x)) (hm : MapIs Try.prog 3 w hb m) : b ≠ hb := fun e => by
  obtain ⟨es, ck, hh⟩ := hm.isMap
  rw [e] at h
  unfold World.cell? at h
  simp only [hh] at h
  simp at h
set_option maxRecDepth 20000 in
set_option maxHeartbeats 2000000 in
theorem crash_of (h : DiskAt w L s) {kv : Value} {kl : List Bool} (hkv : BoolsAt w kv kl) (hwl : s.wait.length < 68719476736) (hkl : kl.length < 9223372036854775807) :
    Calls Try.prog 32 #[.pointer (some ⟨L.d, 0, none⟩), kv] w fun e w' => e = .returned (.int .i64 0) ∧ ∃ L', DiskAt w' L' (crashS s kl) ∧ Goes w w' L L' := by
  have h0 := h.c0
  have hP := pending_of h
  obtain ⟨p, cp, hp1, hp2, hp3⟩ := h.pend
  rw [hp1] at hP
  obtain ⟨q, cq, rfl, hq⟩ := hkv
  have HD : Hid (DiskAt w.drew L s) := h.fr (Fr.drew (T := fun _ => False) w) fun _ _ q => q
  have HG2 : Hid (Goes w w.drew L L) := ⟨rfl, fun _ q => .inl q, Fr.drew w⟩
  have HP : Hid (0 < s.wait.length → ∃ g, L.hv.ownBlock = some g ∧ p = some ⟨g, s.done.length * 1026, none⟩) := hp3
  have HK : Hid (0 < kl.length → ∃ b off, q = some ⟨b, off, none⟩ ∧ ∀ i x, kl[i]? = some x → w.cell? ⟨b, off + i, none⟩ = some (.bool x)) := hq
  have hM := h.held
  clear h hp1 hp3 hq
  generalize hm : s.wait.length = m at *
  generalize hn : kl.length = n at *
  rcases Nat.lt_or_ge n m with hmn | hmn
  · have hmn' : (n : Int) < m := by omega
    go_enter Try.func32, Try.ntmps32
    go_wp2_with (first | (go_at_call 47; refine (none_no h0).mono ?_; rintro e W ⟨rfl, he⟩; obtain rfl := he.symm) | (go_at_call 49; refine hP.mono ?_; rintro e W1 ⟨rfl, rfl⟩))
    clear hP
    generalize hV : w.drew = V at *
    go_loopw [16] (fun s16 wx => ∃ k : Nat, k ≤ n ∧ s16 = .int .i64 k ∧ Hid (DiskAt wx L (holdAll s (keptL (s.wait.take k) (kl.take k)))) ∧ Hid (Goes w wx L L) ∧ Hid (Fr (fun i => i = L.hb) w wx)) (fun s16 _ => n - (intOf s16).toNat)
    case atStart => exact ⟨0, by omega, rfl, HD.out, HG2.out, by rw [← hV]; exact Fr.drew w⟩
    case round =>
      obtain ⟨k, hk, rfl, HDk, HGk, HFk⟩ := hrel
      by_cases hk2 : (k : Int) < n
      · have hkw : k < s.wait.length := by omega
        have hkk : k < kl.length := by omega
        have hkm : (k : Int) < (m : Int) := by omega
        have hkn : (k : Int) < (n : Int) := by omega
        obtain ⟨g, hg, rfl⟩ := HP.out (by omega)
        obtain ⟨b, off, rfl, hcell⟩ := HK.out (by omega)
        have hc : s.wait[k]? = some s.wait[k] := List.getElem?_eq_getElem hkw
        have hx : kl[k]? = some kl[k] := List.getElem?_eq_getElem hkk
        generalize s.wait[k] = c at hc
        generalize kl[k] = x at hx
        have hcx := hcell k x hx
        have hbl : b ≠ L.hb := bool_no_map hcx hM
        have hblt : b < w.heap.size := by
          by_cases q : b < w.heap.size
          · exact q
          · unfold World.cell? at hcx
            simp only [Array.getElem?_eq_none (show w.heap.size ≤ b by omega)] at hcx
            simp at hcx
        have hcx' : wr.cell? ⟨b, off + k, none⟩ = some (.bool x) := (World.cell?_of_block (HFk.out.block b hblt hbl)).trans hcx
        have hks := keptL_snoc c x (s.wait.take k) (kl.take k) (by rw [List.length_take, List.length_take]; omega)
        rw [← take_snoc hc, ← show kl.take (k + 1) = kl.take k ++ [x] by rw [List.take_add_one, hx]; rfl] at hks
        have hop : (holdAll s (keptL (s.wait.take k) (kl.take k))).ops[s.done.length + k]? = some (wrec c) := by rw [holdAll_ops]; exact ops_wait s hc
        have HDd : DiskAt wr.drew L (holdAll s (keptL (s.wait.take k) (kl.take k))) := HDk.out.fr (Fr.drew (T := fun _ => False) wr) fun _ _ q => q
        have hpos := HDk.out.histPos hg hop
        have hblk := HDd.histBlk hg hop
        have hcw := HDd.ok.wait c (by rw [holdAll_wait]; exact List.mem_of_getElem? hc)
        rw [holdAll_n] at hcw
        have HH := hold_of HDd (by rw [holdAll_n]; exact hcw.1) hcw.2 hblk
        have e1 : (s.done.length + k) * 1026 = s.done.length * 1026 + k * 1026 := Nat.add_mul _ _ _
        rw [e1] at hpos HH
        have hpos' : wr.cell? ⟨g, s.done.length * 1026 + k * 1026 + 1, none⟩ = some (.int .i64 c.1) := hpos
        cases x
        · rw [if_neg (by simp), List.append_nil] at hks
          have HD2 : Hid (DiskAt wr L (holdAll s (keptL (s.wait.take (k + 1)) (kl.take (k + 1))))) := hks ▸ HDk.out
          clear HH hpos hblk hop hc hx e1 HDk hcw HDd hks hcx hcell
          go_wp2
          exact ⟨⟨k + 1, by omega, by go_num, HD2.out, HGk.out, HFk.out⟩, by simp [intOf]; omega⟩
        · rw [if_pos rfl] at hks
          rw [← holdAll_snoc, ← hks] at HH
          have HH2 : Hid (Calls Try.prog 50 #[.pointer (some ⟨L.d, 0, none⟩), .int .i64 c.1, .pointer (some ⟨g, s.done.length * 1026 + k * 1026 + 2, none⟩)] wr.drew fun e w' => e = .returned (.tuple #[]) ∧ DiskAt w' L (holdAll s (keptL (s.wait.take (k + 1)) (kl.take (k + 1)))) ∧ Goes w w' L L ∧ Fr (fun i => i = L.hb) w w') :=
            Calls.mono HH fun e w' ⟨h1, h2, h3⟩ => ⟨h1, h2, (HGk.out.trans ⟨rfl, fun _ q => .inl q, Fr.drew wr⟩).trans (Goes.hold h3), (HFk.out.trans (Fr.drew wr) fun _ _ q => q).trans h3 fun _ _ q => q⟩
          generalize s.done.length * 1026 = D at *
          clear HH hpos hblk hop hc hx e1 HDk hcw HDd HGk hks hcx hcell HFk
          go_wp2
          go_still_tail 10, (by kernel_rfl)
          change wpList _ _ _ _ _ (World.drew _)
          go_wp2_with (go_at_call 50; fail)
          refine HH2.out.mono ?_
          rintro e W2 ⟨rfl, hD2, hG2, hF2⟩
          have HD2 : Hid (DiskAt W2 L (holdAll s (keptL (s.wait.take (k + 1)) (kl.take (k + 1))))) := hD2
          have HG3 : Hid (Goes w W2 L L) := hG2
          have HF3 : Hid (Fr (fun i => i = L.hb) w W2) := hF2
          clear hD2 hG2 HH2 hF2
          go_wp2
          exact ⟨⟨k + 1, by omega, by go_num, HD2.out, HG3.out, HF3.out⟩, by simp [intOf]; omega⟩
      · obtain rfl : k = n := by omega
        have hD := HDk.out
        rw [keptL_take _ _ _ (by omega)] at hD
        have hG := HGk.out
        clear HDk HGk HP HK HFk
        have hok := crashS_ok (k := kl) hD.ok
        have k3 := hD.c3
        have f3 := hD.free 3
        obtain ⟨p', c', h1, _⟩ := hD.shape
        rw [h1] at k3
        have hR6 : RawAt (wr.setCell ⟨L.d, 3, none⟩ (.slice none 0 0)) ⟨L.d, L.hb, L.lb, .slice none 0 0⟩ ((dkRow L (holdAll s (keptL s.wait kl))).setIfInBounds 3 (.slice none 0 0)) (heldV (holdAll s (keptL s.wait kl))) (lateV (holdAll s (keptL s.wait kl))) [] := by
          have hr := hD.raw.cell 3 (.slice none 0 0)
          exact ⟨hr.row, hr.held, hr.late, World.ownsRow_nil _ 0 108 1026, hr.ne⟩
        have hF6 : Fr (fun i => i = L.d) wr (wr.setCell ⟨L.d, 3, none⟩ (.slice none 0 0)) := Fr.setCell wr L.d 3 _
        clear hD
        go_wp2_with (go_at_call 51; fail)
        generalize wr.setCell ⟨L.d, 3, none⟩ (.slice none 0 0) = W6 at *
        refine (nothing_of (d := L.d) (n := (holdAll s (keptL s.wait kl)).n) (hb := L.hb) (p := none) (m := 0) (c := 0) (bh := ((holdAll s (keptL s.wait kl)).done.length : Int)) (lb := L.lb) (fu := (holdAll s (keptL s.wait kl)).fuse) (st := (holdAll s (keptL s.wait kl)).stopped) (ma := (holdAll s (keptL s.wait kl)).made) (re := (holdAll s (keptL s.wait kl)).reads) (cl := (holdAll s (keptL s.wait kl)).claims) (cd := (holdAll s (keptL s.wait kl)).claimed) hR6.row).mono ?_
        rintro e W7 ⟨rfl, hrow7, hM7, hF7⟩
        have hlb : L.hb < W6.heap.size := hR6.held.lt
        have hR7 := (hR6.rowTo hrow7 hF7).lateNew (b := W6.heap.size) (by show L.hb ≠ _; omega) hM7
        have c6 : W7.cell? ⟨L.d, 6, none⟩ = some (.int .i64 (holdAll s (keptL s.wait kl)).fuse) := Joins.cell_of_block hrow7 6
        have c7 : W7.cell? ⟨L.d, 7, none⟩ = some (.bool (holdAll s (keptL s.wait kl)).stopped) := Joins.cell_of_block hrow7 7
        have c11 : W7.cell? ⟨L.d, 11, none⟩ = some (.bool (holdAll s (keptL s.wait kl)).claimed) := Joins.cell_of_block hrow7 11
        have f6 : W7.frozen? ⟨L.d, 6, none⟩ = false := Joins.unfrozen_of_block hrow7 6
        have f7 : W7.frozen? ⟨L.d, 7, none⟩ = false := Joins.unfrozen_of_block hrow7 7
        have f11 : W7.frozen? ⟨L.d, 11, none⟩ = false := Joins.unfrozen_of_block hrow7 11
        have hD8 : Hid (DiskAt (((W7.setCell ⟨L.d, 6, none⟩ (.int .i64 (-1))).setCell ⟨L.d, 7, none⟩ (.bool false)).setCell ⟨L.d, 11, none⟩ (.bool false)) ⟨L.d, L.hb, W6.heap.size, .slice none 0 0⟩ (crashS s kl)) :=
          RawAt.disk (((hR7.cell 6 (.int .i64 (-1))).cell 7 (.bool false)).cell 11 (.bool false)) hok
        have hF8 : Fr (fun i => i = L.d) wr (((W7.setCell ⟨L.d, 6, none⟩ (.int .i64 (-1))).setCell ⟨L.d, 7, none⟩ (.bool false)).setCell ⟨L.d, 11, none⟩ (.bool false)) :=
          (hF6.trans hF7 fun _ _ q => q).trans (((Fr.setCell _ L.d 6 _).trans (Fr.setCell _ L.d 7 _) fun _ _ q => q).trans (Fr.setCell _ L.d 11 _) fun _ _ q => q) fun _ _ q => q
        have hG8 : Hid (Goes w (((W7.setCell ⟨L.d, 6, none⟩ (.int .i64 (-1))).setCell ⟨L.d, 7, none⟩ (.bool false)).setCell ⟨L.d, 11, none⟩ (.bool false)) L ⟨L.d, L.hb, W6.heap.size, .slice none 0 0⟩) := by
          refine hG.trans (Goes.of (T := fun i => i = L.d) rfl (fun i hi => ?_) hF8 fun i _ q => .inl q)
          rcases hi with q | q | q | q
          · exact .inl (.inl q)
          · exact .inl (.inr (.inl q))
          · have q' : i = W6.heap.size := q
            have := hF6.size
            exact .inr (by omega)
          · simp [Value.ownBlock] at q
        clear hR7 hrow7 hM7 hF7 hR6 hF6 hG hok hF8
        go_wp2
        go_ret
        exact ⟨rfl, _, hD8.out, hG8.out⟩
  · have hmn' : (m : Int) ≤ n := by omega
    go_enter Try.func32, Try.ntmps32
    go_wp2_with (first | (go_at_call 47; refine (none_no h0).mono ?_; rintro e W ⟨rfl, he⟩; obtain rfl := he.symm) | (go_at_call 49; refine hP.mono ?_; rintro e W1 ⟨rfl, rfl⟩))
    clear hP
    generalize hV : w.drew = V at *
    go_loopw [16] (fun s16 wx => ∃ k : Nat, k ≤ m ∧ s16 = .int .i64 k ∧ Hid (DiskAt wx L (holdAll s (keptL (s.wait.take k) (kl.take k)))) ∧ Hid (Goes w wx L L) ∧ Hid (Fr (fun i => i = L.hb) w wx)) (fun s16 _ => m - (intOf s16).toNat)
    case atStart => exact ⟨0, by omega, rfl, HD.out, HG2.out, by rw [← hV]; exact Fr.drew w⟩
    case round =>
      obtain ⟨k, hk, rfl, HDk, HGk, HFk⟩ := hrel
      by_cases hk2 : (k : Int) < m
      · have hkw : k < s.wait.length := by omega
        have hkk : k < kl.length := by omega
        have hkm : (k : Int) < (m : Int) := by omega
        have hkn : (k : Int) < (n : Int) := by omega
        obtain ⟨g, hg, rfl⟩ := HP.out (by omega)
        obtain ⟨b, off, rfl, hcell⟩ := HK.out (by omega)
        have hc : s.wait[k]? = some s.wait[k] := List.getElem?_eq_getElem hkw
        have hx : kl[k]? = some kl[k] := List.getElem?_eq_getElem hkk
        generalize s.wait[k] = c at hc
        generalize kl[k] = x at hx
        have hcx := hcell k x hx
        have hbl : b ≠ L.hb := bool_no_map hcx hM
        have hblt : b < w.heap.size := by
          by_cases q : b < w.heap.size
          · exact q
          · unfold World.cell? at hcx
            simp only [Array.getElem?_eq_none (show w.heap.size ≤ b by omega)] at hcx
            simp at hcx
        have hcx' : wr.cell? ⟨b, off + k, none⟩ = some (.bool x) := (World.cell?_of_block (HFk.out.block b hblt hbl)).trans hcx
        have hks := keptL_snoc c x (s.wait.take k) (kl.take k) (by rw [List.length_take, List.length_take]; omega)
        rw [← take_snoc hc, ← show kl.take (k + 1) = kl.take k ++ [x] by rw [List.take_add_one, hx]; rfl] at hks
        have hop : (holdAll s (keptL (s.wait.take k) (kl.take k))).ops[s.done.length + k]? = some (wrec c) := by rw [holdAll_ops]; exact ops_wait s hc
        have HDd : DiskAt wr.drew L (holdAll s (keptL (s.wait.take k) (kl.take k))) := HDk.out.fr (Fr.drew (T := fun _ => False) wr) fun _ _ q => q
        have hpos := HDk.out.histPos hg hop
        have hblk := HDd.histBlk hg hop
        have hcw := HDd.ok.wait c (by rw [holdAll_wait]; exact List.mem_of_getElem? hc)
        rw [holdAll_n] at hcw
        have HH := hold_of HDd (by rw [holdAll_n]; exact hcw.1) hcw.2 hblk
        have e1 : (s.done.length + k) * 1026 = s.done.length * 1026 + k * 1026 := Nat.add_mul _ _ _
        rw [e1] at hpos HH
        have hpos' : wr.cell? ⟨g, s.done.length * 1026 + k * 1026 + 1, none⟩ = some (.int .i64 c.1) := hpos
        cases x
        · rw [if_neg (by simp), List.append_nil] at hks
          have HD2 : Hid (DiskAt wr L (holdAll s (keptL (s.wait.take (k + 1)) (kl.take (k + 1))))) := hks ▸ HDk.out
          clear HH hpos hblk hop hc hx e1 HDk hcw HDd hks hcx hcell
          go_wp2
          exact ⟨⟨k + 1, by omega, by go_num, HD2.out, HGk.out, HFk.out⟩, by simp [intOf]; omega⟩
        · rw [if_pos rfl] at hks
          rw [← holdAll_snoc, ← hks] at HH
          have HH2 : Hid (Calls Try.prog 50 #[.pointer (some ⟨L.d, 0, none⟩), .int .i64 c.1, .pointer (some ⟨g, s.done.length * 1026 + k * 1026 + 2, none⟩)] wr.drew fun e w' => e = .returned (.tuple #[]) ∧ DiskAt w' L (holdAll s (keptL (s.wait.take (k + 1)) (kl.take (k + 1)))) ∧ Goes w w' L L ∧ Fr (fun i => i = L.hb) w w') :=
            Calls.mono HH fun e w' ⟨h1, h2, h3⟩ => ⟨h1, h2, (HGk.out.trans ⟨rfl, fun _ q => .inl q, Fr.drew wr⟩).trans (Goes.hold h3), (HFk.out.trans (Fr.drew wr) fun _ _ q => q).trans h3 fun _ _ q => q⟩
          generalize s.done.length * 1026 = D at *
          clear HH hpos hblk hop hc hx e1 HDk hcw HDd HGk hks hcx hcell HFk
          go_wp2
          go_still_tail 10, (by kernel_rfl)
          change wpList _ _ _ _ _ (World.drew _)
          go_wp2_with (go_at_call 50; fail)
          refine HH2.out.mono ?_
          rintro e W2 ⟨rfl, hD2, hG2, hF2⟩
          have HD2 : Hid (DiskAt W2 L (holdAll s (keptL (s.wait.take (k + 1)) (kl.take (k + 1))))) := hD2
          have HG3 : Hid (Goes w W2 L L) := hG2
          have HF3 : Hid (Fr (fun i => i = L.hb) w W2) := hF2
          clear hD2 hG2 HH2 hF2
          go_wp2
          exact ⟨⟨k + 1, by omega, by go_num, HD2.out, HG3.out, HF3.out⟩, by simp [intOf]; omega⟩
      · obtain rfl : k = m := by omega
        have hD := HDk.out
        rw [keptL_take _ _ _ (by omega)] at hD
        have hG := HGk.out
        clear HDk HGk HP HK HFk
        have hok := crashS_ok (k := kl) hD.ok
        have k3 := hD.c3
        have f3 := hD.free 3
        obtain ⟨p', c', h1, _⟩ := hD.shape
        rw [h1] at k3
        have hR6 : RawAt (wr.setCell ⟨L.d, 3, none⟩ (.slice none 0 0)) ⟨L.d, L.hb, L.lb, .slice none 0 0⟩ ((dkRow L (holdAll s (keptL s.wait kl))).setIfInBounds 3 (.slice none 0 0)) (heldV (holdAll s (keptL s.wait kl))) (lateV (holdAll s (keptL s.wait kl))) [] := by
          have hr := hD.raw.cell 3 (.slice none 0 0)
          exact ⟨hr.row, hr.held, hr.late, World.ownsRow_nil _ 0 108 1026, hr.ne⟩
        have hF6 : Fr (fun i => i = L.d) wr (wr.setCell ⟨L.d, 3, none⟩ (.slice none 0 0)) := Fr.setCell wr L.d 3 _
        clear hD
        go_wp2_with (go_at_call 51; fail)
        generalize wr.setCell ⟨L.d, 3, none⟩ (.slice none 0 0) = W6 at *
        refine (nothing_of (d := L.d) (n := (holdAll s (keptL s.wait kl)).n) (hb := L.hb) (p := none) (m := 0) (c := 0) (bh := ((holdAll s (keptL s.wait kl)).done.length : Int)) (lb := L.lb) (fu := (holdAll s (keptL s.wait kl)).fuse) (st := (holdAll s (keptL s.wait kl)).stopped) (ma := (holdAll s (keptL s.wait kl)).made) (re := (holdAll s (keptL s.wait kl)).reads) (cl := (holdAll s (keptL s.wait kl)).claims) (cd := (holdAll s (keptL s.wait kl)).claimed) hR6.row).mono ?_
        rintro e W7 ⟨rfl, hrow7, hM7, hF7⟩
        have hlb : L.hb < W6.heap.size := hR6.held.lt
        have hR7 := (hR6.rowTo hrow7 hF7).lateNew (b := W6.heap.size) (by show L.hb ≠ _; omega) hM7
        have c6 : W7.cell? ⟨L.d, 6, none⟩ = some (.int .i64 (holdAll s (keptL s.wait kl)).fuse) := Joins.cell_of_block hrow7 6
        have c7 : W7.cell? ⟨L.d, 7, none⟩ = some (.bool (holdAll s (keptL s.wait kl)).stopped) := Joins.cell_of_block hrow7 7
        have c11 : W7.cell? ⟨L.d, 11, none⟩ = some (.bool (holdAll s (keptL s.wait kl)).claimed) := Joins.cell_of_block hrow7 11
        have f6 : W7.frozen? ⟨L.d, 6, none⟩ = false := Joins.unfrozen_of_block hrow7 6
        have f7 : W7.frozen? ⟨L.d, 7, none⟩ = false := Joins.unfrozen_of_block hrow7 7
        have f11 : W7.frozen? ⟨L.d, 11, none⟩ = false := Joins.unfrozen_of_block hrow7 11
        have hD8 : Hid (DiskAt (((W7.setCell ⟨L.d, 6, none⟩ (.int .i64 (-1))).setCell ⟨L.d, 7, none⟩ (.bool false)).setCell ⟨L.d, 11, none⟩ (.bool false)) ⟨L.d, L.hb, W6.heap.size, .slice none 0 0⟩ (crashS s kl)) :=
          RawAt.disk (((hR7.cell 6 (.int .i64 (-1))).cell 7 (.bool false)).cell 11 (.bool false)) hok
        have hF8 : Fr (fun i => i = L.d) wr (((W7.setCell ⟨L.d, 6, none⟩ (.int .i64 (-1))).setCell ⟨L.d, 7, none⟩ (.bool false)).setCell ⟨L.d, 11, none⟩ (.bool false)) :=
          (hF6.trans hF7 fun _ _ q => q).trans (((Fr.setCell _ L.d 6 _).trans (Fr.setCell _ L.d 7 _) fun _ _ q => q).trans (Fr.setCell _ L.d 11 _) fun _ _ q => q) fun _ _ q => q
        have hG8 : Hid (Goes w (((W7.setCell ⟨L.d, 6, none⟩ (.int .i64 (-1))).setCell ⟨L.d, 7, none⟩ (.bool false)).setCell ⟨L.d, 11, none⟩ (.bool false)) L ⟨L.d, L.hb, W6.heap.size, .slice none 0 0⟩) := by
          refine hG.trans (Goes.of (T := fun i => i = L.d) rfl (fun i hi => ?_) hF8 fun i _ q => .inl q)
          rcases hi with q | q | q | q
          · exact .inl (.inl q)
          · exact .inl (.inr (.inl q))
          · have q' : i = W6.heap.size := q
            have := hF6.size
            exact .inr (by omega)
          · simp [Value.ownBlock] at q
        clear hR7 hrow7 hM7 hF7 hR6 hF6 hG hok hF8
        go_wp2
        go_ret
        exact ⟨rfl, _, hD8.out, hG8.out⟩
end Go.Proofs.Ytencclpcebpgmaa
