/- Several texts joined, each with its own remark; no condition. -/
import Derived.Test.YtembocfghkmieaaK1
import Derived.Deep.DeepAppendWide
import Derived.OrdersHeld
import Derived.WalkKit
import Derived.Test.YtembocfghkmieaaK2
import Derived.Laws.CopyRow
import Derived.Shelf.Sort.Plain
import Derived.Test.YtembocfghkmieaaProg
import Derived.Lib.SortBridge
import Derived.Maps.AppendAt
import Derived.Maps.OwnOps
import Derived.Maps.OwnSet
/- A thing more in the history; no condition but that it is not too long. -/
namespace Go.Proofs.Ytembocfghkmieaa
open Go.RowKit
variable {w : World} {L : Loc} {s : St}

theorem info108 : (Try.prog.info? 108).map (fun i => (i.zero, i.size, i.bytes)) = some (some (.agg (recCells ⟨0, 0, nought⟩).toArray), 1026, 1040) := by kernel_rfl
theorem zero108 : ∀ w, (zeroValue 108).run Try.prog w = .ok (.agg (recCells ⟨0, 0, nought⟩).toArray) w := by
  obtain ⟨i0, hi0, hz0, hz1, hz2⟩ := info_parts info108
  exact (zero_of_info (t := 108) (P := Try.prog) (by rw [hi0]; exact congrArg some (Prod.ext hz0 hz1))).1
theorem fold_set (b : Nat) : ∀ (l : List Value) (k : Nat) (cs : Array Value), b + k + l.length ≤ cs.size → ∀ j,
    ((l.zipIdx k).foldl (fun (cs : Array Value) (p : Value × Nat) => cs.setIfInBounds (b + p.2) p.1) cs)[j]? = if b + k ≤ j ∧ j < b + k + l.length then l[j - (b + k)]? else cs[j]?
  | [], k, cs, _, j => by simp; intro h1 h2; omega
  | v :: l, k, cs, h, j => by
    simp only [List.length_cons] at h
    rw [List.zipIdx_cons, List.foldl_cons, fold_set b l (k + 1) _ (by simp; omega) j]
    by_cases h1 : b + (k + 1) ≤ j ∧ j < b + (k + 1) + l.length
    · rw [if_pos h1, if_pos (by simp only [List.length_cons]; omega), show j - (b + k) = (j - (b + (k + 1))) + 1 by omega, List.getElem?_cons_succ]
    · rw [if_neg h1, Array.getElem?_setIfInBounds]
      by_cases h2 : b + k = j
      · subst h2; rw [if_pos rfl, if_pos (by omega), if_pos (by simp only [List.length_cons]; omega), Nat.sub_self]; rfl
      · rw [if_neg h2, if_neg (by simp only [List.length_cons]; omega)]
/-- Cells laid over cells. -/
theorem fold_over (b : Nat) (c cs : Array Value) (h : b + c.size ≤ cs.size) :
    Array.foldl (fun (cs : Array Value) (p : Value × Nat) => cs.setIfInBounds (b + p.2) p.1) cs c.zipIdx = (cs.toList.take b ++ (c.toList ++ cs.toList.drop (b + c.size))).toArray := by
  apply Array.ext_getElem?
  intro j
  rw [← Array.foldl_toList, Array.toList_zipIdx, fold_set b c.toList 0 _ (by rw [Array.length_toList]; omega), Array.length_toList]
  rw [show ((cs.toList.take b ++ (c.toList ++ cs.toList.drop (b + c.size))).toArray)[j]? = (cs.toList.take b ++ (c.toList ++ cs.toList.drop (b + c.size)))[j]? from List.getElem?_toArray]
  by_cases h1 : j < b
  · rw [if_neg (by omega), List.getElem?_append_left (by rw [List.length_take, Array.length_toList]; omega), List.getElem?_take_of_lt h1, Array.getElem?_toList]
  · rw [List.getElem?_append_right (by rw [List.length_take, Array.length_toList]; omega), List.length_take, Array.length_toList, Nat.min_eq_left (by omega)]
    by_cases h2 : j < b + c.size
    · rw [if_pos (by omega), List.getElem?_append_left (by rw [Array.length_toList]; omega), Nat.add_zero]
    · rw [if_neg (by omega), List.getElem?_append_right (by rw [Array.length_toList]; omega), Array.length_toList, List.getElem?_drop, Array.getElem?_toList, show b + c.size + (j - b - c.size) = j by omega]
theorem fill_rec (k p : Int) (f : Nat → Int) (Z : Array Value) (hZ : Z.size = 1026) (place : Nat → Option (Nat × Nat)) (h0 : place 0 = some (0, 1)) (h1 : place 1 = some (1, 1)) (h2 : place 2 = some (2, 1024)) :
    Instr.fill place Z [(0, .int .u8 k), (1, .int .i64 p), (2, .agg (blk f))] = some (recCells ⟨k, p, f⟩).toArray := by
  have hb := blk_size f
  unfold Instr.fill
  rw [h0]
  simp only [Value.cells, List.size_toArray, List.length_cons, List.length_nil, hZ]
  rw [if_neg (by simp)]
  unfold Instr.fill
  rw [h1]
  simp only [Value.cells, List.size_toArray, List.length_cons, List.length_nil]
  rw [fold_over 0 #[.int .u8 k] Z (by rw [hZ]; simp)]
  rw [if_neg (by simp [hZ])]
  unfold Instr.fill
  rw [h2]
  simp only [Value.cells, hb]
  rw [fold_over 1 #[.int .i64 p] _ (by simp [hZ])]
  rw [if_neg (by simp [hZ])]
  rw [fold_over 2 (blk f) _ (by simp [hZ, hb])]
  have hl : Z.toList.length = 1026 := by rw [Array.length_toList, hZ]
  obtain ⟨z0, z1, r, hz, hr⟩ : ∃ z0 z1 r, Z.toList = z0 :: z1 :: r ∧ r.length = 1024 := by
    cases hz : Z.toList with
    | nil => rw [hz, List.length_nil] at hl; omega
    | cons z0 t =>
      cases t with
      | nil => rw [hz, List.length_cons, List.length_nil] at hl; omega
      | cons z1 r => exact ⟨z0, z1, r, rfl, by rw [hz, List.length_cons, List.length_cons] at hl; omega⟩
  rw [hz]
  simp only [List.take_zero, List.nil_append, List.take_succ_cons, List.drop_succ_cons, List.drop_zero, List.singleton_append, List.size_toArray, List.length_cons, List.length_nil, hb, Nat.zero_add, Nat.reduceAdd]
  unfold Instr.fill
  rw [List.drop_eq_nil_of_le (by omega), List.append_nil]
  rfl
theorem build108 (k p : Int) (f : Nat → Int) (u : World) : (Instr.build 108 #[(0, .int .u8 k), (1, .int .i64 p), (2, .agg (blk f))]).run Try.prog u = .ok (.agg (recCells ⟨k, p, f⟩).toArray) u := by
  have z := zero108
  have hZ : (recCells ⟨0, 0, nought⟩).toArray.size = 1026 := by rw [List.size_toArray, recCells_len]
  generalize (recCells ⟨0, 0, nought⟩).toArray = Z at *
  have hf := fill_rec k p f Z hZ
  simp [Instr.build, z, run_underlying Try.underlying108, Value.cells]
  rw [hf _ rfl rfl rfl]
  simp only [Sem.run_pure]
theorem fill_bar (k : Int) (place : Nat → Option (Nat × Nat)) (h0 : place 0 = some (0, 1)) :
    Instr.fill place (recCells ⟨0, 0, nought⟩).toArray [(0, .int .u8 k)] = some (recCells ⟨k, 0, nought⟩).toArray := by
  have hb := blk_list_len nought
  unfold recCells
  simp only
  generalize (blk nought).toList = B at *
  unfold Instr.fill
  rw [h0]
  simp only [Value.cells, List.size_toArray, List.length_cons, List.length_nil]
  rw [if_neg (by simp), fold_over 0 #[.int .u8 k] _ (by simp)]
  unfold Instr.fill
  simp only [List.take_zero, List.nil_append, List.size_toArray, List.length_cons, List.length_nil, Nat.zero_add, List.drop_succ_cons, List.drop_zero, List.singleton_append]
theorem build108b (k : Int) (u : World) : (Instr.build 108 #[(0, .int .u8 k)]).run Try.prog u = .ok (.agg (recCells ⟨k, 0, nought⟩).toArray) u := by
  have z := zero108
  have hf := fill_bar k
  generalize (recCells ⟨0, 0, nought⟩).toArray = Z at *
  generalize (recCells ⟨k, 0, nought⟩).toArray = Z' at *
  simp [Instr.build, z, run_underlying Try.underlying108, Value.cells]
  rw [hf _ rfl]
  simp only [Sem.run_pure]
theorem run_buildSlice_gen {P : Program} (u : World) (t e : TypeId) (len size : Nat) (zero : Value) (parts : Array (Nat × Value)) (cells : Array Value) (hu : P.underlying t = some (.slice e)) (hs : (sizeOf e).run P u = .ok size u)
    (hb : ¬ len * size > 2 ^ 24) (h0 : ¬ len * size = 0) (hz : (zeroValue e).run P u = .ok zero u)
    (hf : Instr.fill (fun i => some (i * size, size)) ((Array.range (len * size)).map (zero.cells[· % zero.cells.size]!)) parts.toList = some cells) :
    (Instr.buildSlice t len parts).run P u = .ok (.slice (some ⟨u.heap.size, 0, none⟩) len len) (u.alloc (.cells cells e)) := by
  simp only [Instr.buildSlice, Sem.run_bind, run_underlying hu, Result.andThen_ok, hs]
  rw [if_neg hb, if_neg h0]
  simp only [Sem.run_bind, hz, Result.andThen_ok, Sem.run_pure, hf, newRow, run_newObj_alloc]
theorem fill_one (c z : Array Value) (n : Nat) (hc : c.size = n) (hz : z.size = n) : Instr.fill (fun i => some (i * n, n)) z [(0, .agg c)] = some c := by
  unfold Instr.fill
  simp only [Value.cells, Nat.zero_mul]
  rw [if_neg (by simp [hc, hz]), fold_over 0 c z (by omega)]
  unfold Instr.fill
  rw [List.take_zero, List.nil_append, List.drop_eq_nil_of_le (by rw [Array.length_toList]; omega), List.append_nil]
/-- A list of one element that is a whole row. -/
theorem build1 (t e n : Nat) (zero : Value) (c : Array Value) (hu : Try.prog.underlying t = some (.slice e)) (hs : ∀ u, (sizeOf e).run Try.prog u = .ok n u) (hn : 0 < n ∧ n ≤ 16777216) (hz : ∀ u, (zeroValue e).run Try.prog u = .ok zero u) (hc : c.size = n) (u : World) :
    (Instr.buildSlice t 1 #[(0, .agg c)]).run Try.prog u = .ok (.slice (some ⟨u.heap.size, 0, none⟩) 1 1) (u.alloc (.cells c e)) :=
  run_buildSlice_gen u t e 1 n zero #[(0, .agg c)] c hu (hs u) (by omega) (by omega) (hz u) (fill_one c _ n hc (by rw [Array.size_map, Array.size_range]; omega))
theorem wpList_build1 {ops : Array Oper} {rest : List Oper} {o : Oper} {a : Act} {w : World} {Q : Exit → Act → World → Prop} (hgd : o.guard = none) (t e : TypeId) (x : Operand) (ho : o.op = .buildSlice t 1 #[(0, x)])
    (c : Array Value) (hx : a.eval x = .agg c) (hr : (Instr.buildSlice t 1 #[(0, .agg c)]).run Try.prog w = .ok (.slice (some ⟨w.heap.size, 0, none⟩) 1 1) (w.alloc (.cells c e)))
    (h : wpList Try.prog ops Q rest (a.put o.dst (.slice (some ⟨w.heap.size, 0, none⟩) 1 1)) (w.alloc (.cells c e))) : wpList Try.prog ops Q (o :: rest) a w :=
  wpList_plain hgd fun _ hK => by
    have hm : (#[(0, x)] : Array (Nat × Operand)).map (fun p => (p.1, a.eval p.2)) = #[(0, .agg c)] := by simp [hx]
    have e' : (execOp a.eval o).run Try.prog w = .ok (.value (.slice (some ⟨w.heap.size, 0, none⟩) 1 1)) (w.alloc (.cells c e)) := by
      unfold execOp
      simp only [ho, hm, Sem.run_bind]
      simp only [hr, Result.andThen_ok, Sem.run_pure]
    unfold Oper.wp
    rw [e']
    exact hK _ _ h
theorem rec_size (r : Rec) : (recCells r).toArray.size = 1026 := by rw [List.size_toArray, recCells_len]
theorem build67 (r : Rec) (u : World) : (Instr.buildSlice 67 1 #[(0, .agg (recCells r).toArray)]).run Try.prog u = .ok (.slice (some ⟨u.heap.size, 0, none⟩) 1 1) (u.alloc (.cells (recCells r).toArray 108)) :=
  build1 67 108 1026 _ _ Try.underlying67 Try.sizeOf108 (by omega) zero108 (rec_size r) u
theorem opCells_one (r : Rec) : opCells [r] = recCells r := by simp [opCells]
/-- Where a row lies behind an append: where it was, or in new memory. -/
theorem append_where {W : World} {v : Value} {n : Nat} {xs : List Value} (hown : W.ownsRow 0 108 1026 v n xs) {ad : Addr} {c : Nat} {news : List Value} (hl : news.length = 1 * 1026)
    (hnews : ∀ j u, news[j]? = some u → W.cell? (ad.add j) = some u) (h1 : ∀ u ∈ news, u.oneCell' = true) (hn : n < 68719476736) {ty : TypeId} {v' : Value} {w' : World}
    (hr : (Builtin.append_ #[67, 67] ty #[v, .slice (some ad) 1 c]).run Try.prog W = .ok v' w') : v'.ownBlock = v.ownBlock ∨ v'.ownBlock = some W.heap.size := by
  obtain ⟨i0, hi0, hz0, hz1, hz2⟩ := info_parts info108
  rcases hown.2 with ⟨rfl, rfl⟩ | ⟨g, cap, cur, rfl, _, hg, hnc, hcm, hcs, htake⟩
  · rw [run_append_nil (P := Try.prog) W 67 ty 108 i0 _ Try.underlying67 hi0 hz0 ad 1 c news (by rw [hz1]; exact hl) hnews (by omega) (by omega) (by rw [hz2]; omega)] at hr
    injection hr with h1 h2
    rw [← h1]
    exact .inr rfl
  · by_cases hroom : n + 1 ≤ cap
    · rw [run_append_room (P := Try.prog) W 67 ty 108 i0 Try.underlying67 hi0 g n cap cur hg ad 1 c news (by rw [hz1]; exact hl) hnews h1 hroom (by rw [hz1, hl, hcs]; simp only [Nat.mul_comm _ 1026]; omega)] at hr
      injection hr with h1 h2
      rw [← h1]
      exact .inl rfl
    · rw [run_append_grow (P := Try.prog) W 67 ty 108 i0 _ Try.underlying67 hi0 hz0 ⟨g, 0, none⟩ n cap xs (by rw [hz1]; exact hown.1) (hown.cells (g := g) rfl) ad 1 c news (by rw [hz1]; exact hl) hnews (by omega) (by omega) (growslice_fits_wide (by omega) (by rw [hz2]; omega))] at hr
      injection hr with h1 h2
      rw [← h1]
      exact .inr rfl
/-- A thing behind all that was done. -/
theorem push_run {W : World} {v : Value} {l : List Rec} (r : Rec) (ty : TypeId) (hown : W.ownsRow 0 108 1026 v l.length (opCells l)) (hn : l.length < 68719476736) :
    ∃ v' w', (Builtin.append_ #[67, 67] ty #[v, .slice (some ⟨W.heap.size, 0, none⟩) 1 1]).run Try.prog (W.alloc (.cells (recCells r).toArray 108)) = .ok v' w' ∧
      w'.ownsRow 0 108 1026 v' (l ++ [r]).length (opCells (l ++ [r])) ∧ Fr (fun i => v.ownBlock = some i) W w' ∧ (∀ k, v'.ownBlock = some k → v.ownBlock = some k ∨ W.heap.size ≤ k) := by
  obtain ⟨i0, hi0, hz0, hz1, hz2⟩ := info_parts info108
  have hown1 := World.ownsRow.alloc hown (.cells (recCells r).toArray 108)
  have hnews : ∀ j u, (recCells r)[j]? = some u → (W.alloc (.cells (recCells r).toArray 108)).cell? ((⟨W.heap.size, 0, none⟩ : Addr).add j) = some u := fun j u hu => by
    rw [Go.WideShapes.add_plain, Nat.zero_add, cell_of_row _ _ j _ 108 _ (heap_alloc_new W _), List.getElem?_toArray]
    exact hu
  obtain ⟨v', w', hr, h2, hg, _⟩ := run_append_own_wide (P := Try.prog) (W.alloc (.cells (recCells r).toArray 108)) 0 67 ty 108 i0 _ 1026 1040 Try.underlying67 hi0 hz0 hz1 hz2 (rec_size _) (by decide) v l.length _ hown1 ⟨W.heap.size, 0, none⟩ 1 1 (recCells r) (by rw [recCells_len]) hnews
    (recCells_one r) (by unfold maxLen; omega) (by omega) (Nat.zero_le _)
  refine ⟨v', w', hr, ?_, (Fr.alloc _ W _).trans (Fr.ofGrown hg) fun _ _ q => q, fun k hk => ?_⟩
  · rw [List.length_append, List.length_singleton, opCells_append, opCells_one]
    exact h2
  · rcases append_where hown1 (by rw [recCells_len]) hnews (recCells_one r) hn hr with h | h
    · exact .inl (h ▸ hk)
    · rw [h] at hk
      injection hk with hk
      simp at hk
      exact .inr (by omega)
theorem wpList_pushR {ops : Array Oper} {rest : List Oper} {o : Oper} {a : Act} {W : World} {Q : Exit → Act → World → Prop} (hgd : o.guard = none) (s x : Operand)
    (ho : o.op = .call { callee := .builtin .append, args := #[s, x], argTypes := #[67, 67] }) (v : Value) (l : List Rec) (r : Rec) (hs : a.eval s = v)
    (hx : a.eval x = .slice (some ⟨W.heap.size, 0, none⟩) 1 1) (hown : W.ownsRow 0 108 1026 v l.length (opCells l)) (hn : l.length < 68719476736)
    (h : ∀ v' w', w'.ownsRow 0 108 1026 v' (l ++ [r]).length (opCells (l ++ [r])) → Fr (fun i => v.ownBlock = some i) W w' → (∀ k, v'.ownBlock = some k → v.ownBlock = some k ∨ W.heap.size ≤ k) → wpList Try.prog ops Q rest (a.put o.dst v') w') :
    wpList Try.prog ops Q (o :: rest) a (W.alloc (.cells (recCells r).toArray 108)) := by
  refine wpList_plain hgd fun K' hK' => ?_
  obtain ⟨v', w', hr, h1, h2, h3⟩ := push_run r o.type hown hn
  unfold Oper.wp
  simp [execOp, ho, resolve, invoke, builtin, hs, hx, hr, Result.andThen]
  exact hK' _ _ (h v' w' h1 h2 h3)
end Go.Proofs.Ytembocfghkmieaa
/- The parts of a disk in memory, each by itself, and what a turn of one of them leaves; no condition. -/
namespace Go.Proofs.Ytembocfghkmieaa
open Go.RowKit

structure RawAt (w : World) (L : Loc) (row : Array Value) (held late : Int → Option Value) (ops : List Rec) : Prop where
  row : w.heap[L.d]? = some (.cells row 74)
  held : MapIs Try.prog 3 w L.hb held
  late : MapIs Try.prog 3 w L.lb late
  hist : w.ownsRow 0 108 1026 L.hv ops.length (opCells ops)
  ne : L.hb ≠ L.lb
variable {w w' : World} {L : Loc} {s : St} {row : Array Value} {held late : Int → Option Value} {ops : List Rec}
theorem DiskAt.raw (h : DiskAt w L s) : RawAt w L (dkRow L s) (heldV s) (lateV s) s.ops := ⟨h.row, h.held, h.late, h.hist, h.ne⟩
theorem RawAt.disk (h : RawAt w L (dkRow L s) (heldV s) (lateV s) s.ops) (ok : Ok s) : DiskAt w L s := ⟨h.row, h.held, h.late, h.hist, h.ne, ok⟩
theorem hist_block {v : Value} {n : Nat} {xs : List Value} (h : w.ownsRow 0 108 1026 v n xs) {k : Nat} (hk : v.ownBlock = some k) : ∃ cur, w.heap[k]? = some (.cells cur 108) := by
  rcases h.2 with ⟨h1, _⟩ | ⟨g, cap, cur, h1, _, h2, _⟩
  · rw [h1] at hk; cases hk
  · rw [h1] at hk
    have e : g = k := by injection hk
    subst e
    exact ⟨cur, h2⟩
theorem map_row {b d : Nat} {m : Int → Option Value} {r : Array Value} {t : TypeId} (h : MapIs Try.prog 3 w b m) (hr : w.heap[d]? = some (.cells r t)) : b ≠ d := fun e => by
  obtain ⟨es, ck, hm⟩ := h.isMap
  rw [e, hr] at hm
  cases hm
theorem hist_row {v : Value} {n : Nat} {xs : List Value} (h : w.ownsRow 0 108 1026 v n xs) {d : Nat} {r : Array Value} (hr : w.heap[d]? = some (.cells r 74)) : v.ownBlock ≠ some d := fun e => by
  obtain ⟨cur, hc⟩ := hist_block h e
  rw [hr] at hc
  cases hc
theorem hist_map {v : Value} {n : Nat} {xs : List Value} (h : w.ownsRow 0 108 1026 v n xs) {b : Nat} {m : Int → Option Value} (hm : MapIs Try.prog 3 w b m) : v.ownBlock ≠ some b := fun e => by
  obtain ⟨cur, hc⟩ := hist_block h e
  exact map_row hm hc rfl
theorem RawAt.lt (h : RawAt w L row held late ops) (k : Nat) (hk : L.has k) : k < w.heap.size := by
  rcases hk with rfl | rfl | rfl | hk
  · exact (Array.getElem?_eq_some_iff.1 h.row).1
  · exact h.held.lt
  · exact h.late.lt
  · exact (h.hist.lt k hk).2
/-- It stays what it is where nothing of it turns. -/
theorem RawAt.fr (h : RawAt w L row held late ops) {T : Nat → Prop} (hf : Fr T w w') (hT : ∀ k, L.has k → ¬ T k) : RawAt w' L row held late ops := by
  have hb : ∀ k, L.has k → w'.heap[k]? = w.heap[k]? := fun k hk => hf.block k (h.lt k hk) (hT k hk)
  exact ⟨(hb _ (.inl rfl)).trans h.row, h.held.kept (hb _ (.inr (.inl rfl))), h.late.kept (hb _ (.inr (.inr (.inl rfl)))), ownsRow_kept0 h.hist fun k hk => hb k (.inr (.inr (.inr hk))), h.ne⟩
/-- The row has turned. -/
theorem RawAt.rowTo (h : RawAt w L row held late ops) {row' : Array Value} (hr : w'.heap[L.d]? = some (.cells row' 74)) (hf : Fr (fun i => i = L.d) w w') : RawAt w' L row' held late ops := by
  have hb : ∀ k, L.has k → k ≠ L.d → w'.heap[k]? = w.heap[k]? := fun k hk hn => hf.block k (h.lt k hk) hn
  exact ⟨hr, h.held.kept (hb _ (.inr (.inl rfl)) (map_row h.held h.row)), h.late.kept (hb _ (.inr (.inr (.inl rfl))) (map_row h.late h.row)), ownsRow_kept0 h.hist fun k hk => hb k (.inr (.inr (.inr hk))) fun e => hist_row h.hist h.row (e ▸ hk), h.ne⟩
theorem RawAt.cell (h : RawAt w L row held late ops) (i : Nat) (v : Value) : RawAt (w.setCell ⟨L.d, i, none⟩ v) L (row.setIfInBounds i v) held late ops :=
  h.rowTo (Joins.block_setCell h.row v) (Fr.setCell w L.d i v)
/-- The map of what is pending has turned. -/
theorem RawAt.lateTo (h : RawAt w L row held late ops) {late' : Int → Option Value} (hm : MapIs Try.prog 3 w' L.lb late') (hf : Fr (fun i => i = L.lb) w w') : RawAt w' L row held late' ops := by
  have hb : ∀ k, L.has k → k ≠ L.lb → w'.heap[k]? = w.heap[k]? := fun k hk hn => hf.block k (h.lt k hk) hn
  exact ⟨(hb _ (.inl rfl) fun e => map_row h.late h.row e.symm).trans h.row, h.held.kept (hb _ (.inr (.inl rfl)) h.ne), hm, ownsRow_kept0 h.hist fun k hk => hb k (.inr (.inr (.inr hk))) fun e => hist_map h.hist h.late (e ▸ hk), h.ne⟩
/-- The map of what is pending is another one. -/
theorem RawAt.lateNew (h : RawAt w L row held late ops) {b : Nat} {late' : Int → Option Value} (hb : L.hb ≠ b) (hm : MapIs Try.prog 3 w b late') : RawAt w ⟨L.d, L.hb, b, L.hv⟩ row held late' ops := ⟨h.row, h.held, hm, h.hist, hb⟩
/-- The history has turned. -/
theorem RawAt.histTo (h : RawAt w L row held late ops) {v : Value} {ops' : List Rec} (ho : w'.ownsRow 0 108 1026 v ops'.length (opCells ops')) (hf : Fr (fun i => L.hv.ownBlock = some i) w w') : RawAt w' ⟨L.d, L.hb, L.lb, v⟩ row held late ops' := by
  have hb : ∀ k, L.has k → L.hv.ownBlock ≠ some k → w'.heap[k]? = w.heap[k]? := fun k hk hn => hf.block k (h.lt k hk) hn
  exact ⟨(hb _ (.inl rfl) (hist_row h.hist h.row)).trans h.row, h.held.kept (hb _ (.inr (.inl rfl)) (hist_map h.hist h.held)), h.late.kept (hb _ (.inr (.inr (.inl rfl))) (hist_map h.hist h.late)), ho, h.ne⟩
/-- From one place to the next, likewise. -/
theorem Goes.of {a b : World} {L L' : Loc} {T : Nat → Prop} (hd : L'.d = L.d) (ho : ∀ k, L'.has k → L.has k ∨ a.heap.size ≤ k) (hf : Fr T a b) (hT : ∀ i, i < a.heap.size → T i → L.has i) : Goes a b L L' := ⟨hd, ho, hf.mono hT⟩
end Go.Proofs.Ytembocfghkmieaa
/- Regions whose order is drawn, walked in one order that is told: what only reads may come at any time, what acts comes where nothing else may; S holds all along. -/
namespace Go.Proofs.Ytembocfghkmieaa
open Go.RowKit

section
variable {P : Program} {ops : Array Oper} {Q : Exit → Act → World → Prop} {S : World → Prop}

/-- May the operations be taken in this order? true: it is taken first; false: nothing else may come up. -/
def ordB (ops : Array Oper) : List (Nat × Bool) → Array Bool → Bool
  | [], listed => (Region.ready .any ops listed).isEmpty
  | (i, true) :: r, listed => (Region.ready .any ops listed).contains i && Region.free .any ops listed i && (ops[i]?).isSome && ordB ops r (listed.setIfInBounds i true)
  | (i, false) :: r, listed => (Region.ready .any ops listed == [i]) && (ops[i]?).isSome && ordB ops r (listed.setIfInBounds i true)

/-- The operations themselves, in that order. -/
def inOrd (ol : List Oper) : List (Nat × Bool) → List (Bool × Oper)
  | [] => []
  | (i, b) :: r => match ol[i]? with
    | some o => (b, o) :: inOrd ol r
    | none => inOrd ol r

def wpOrd (P : Program) (ops : Array Oper) (Q : Exit → Act → World → Prop) (S : World → Prop) : List (Bool × Oper) → Act → World → Prop
  | [], a, w => Q .normal a w
  | (true, o) :: r, a, w => ∃ v, YieldsIf P ops S o v a ∧ wpOrd P ops Q S r (a.put o.dst v) w
  | (false, o) :: r, a, w => if Region.wanted o (yielded ops a.tmps) then o.wp P a w (fun a' w' => S w' ∧ wpOrd P ops Q S r a' w') Q else S w ∧ wpOrd P ops Q S r (a.put o.dst undef) w

theorem wpOrd_any {ol : List Oper} (hs : Region.noSelect ol.toArray = true) (hQ : ∀ d v c a w, Q (.panic c) (a.put d v) w → Q (.panic c) a w) : ∀ (l : List (Nat × Bool)) (listed : Array Bool) (a : Act) (w : World), S w →
    ordB ol.toArray l listed = true → wpOrd P ol.toArray Q S (inOrd ol l) a w → wpAnyH P .any ol.toArray Q S l.length listed a w
  | [], listed, a, w, _, hB, h => wpAnyH_done (by simpa [ordB] using hB) h _
  | (i, true) :: r, listed, a, w, hS, hB, h => by
    simp only [ordB, Bool.and_eq_true] at hB
    obtain ⟨⟨⟨h1, h2⟩, h3⟩, h4⟩ := hB
    obtain ⟨o, hi⟩ := Option.isSome_iff_exists.1 h3
    have hi' : ol[i]? = some o := by simpa using hi
    simp only [inOrd, hi', wpOrd] at h
    obtain ⟨v, hy, hr⟩ := h
    exact wpAnyH_take hi hs h2 h1 (fun c a w => hQ _ _ c a w) hy hS (wpOrd_any hs hQ r _ _ w hS h4 hr)
  | (i, false) :: r, listed, a, w, hS, hB, h => by
    simp only [ordB, Bool.and_eq_true, beq_iff_eq] at hB
    obtain ⟨⟨h1, h3⟩, h2⟩ := hB
    obtain ⟨o, hi⟩ := Option.isSome_iff_exists.1 h3
    have hi' : ol[i]? = some o := by simpa using hi
    simp only [inOrd, hi', wpOrd] at h
    refine wpAnyH_all h1 (by simp) fun j hj => ?_
    obtain rfl : j = i := by simpa using hj
    unfold wpOp
    rw [hi]
    simp only
    split
    · rename_i hw
      rw [if_pos hw] at h
      exact .inl (Oper.wp_mono (fun a' w' h' => ⟨h'.1, wpOrd_any hs hQ r _ a' w' h'.1 h2 h'.2⟩) h)
    · rename_i hw
      rw [if_neg hw] at h
      exact ⟨h.1, wpOrd_any hs hQ r _ _ w h.1 h2 h.2⟩

/-- A region that draws its order, walked in the order l. -/
theorem wp_region_ord {id : Nat} {a : Act} {w : World} {ol : List Oper} (l : List (Nat × Bool)) (hm : P.follows .mixedOrders = true) (hl : l.length = ol.length)
    (hB : (Region.noSelect ol.toArray && ordB ol.toArray l (Array.replicate ol.toArray.size false)) = true) (hQ : ∀ d v c a w, Q (.panic c) (a.put d v) w → Q (.panic c) a w)
    (hS : S w.drew) (h : wpOrd P ol.toArray Q S (inOrd ol l) a w.drew) : (Code.region id ol.toArray true).wp P Q a w := by
  simp only [Bool.and_eq_true] at hB
  have h1 := wpOrd_any hB.1 hQ l _ a w.drew hS hB.2 h
  rw [hl] at h1
  exact wp_region_held hm (by simpa using h1)

theorem wpOrd_nil {a : Act} {w : World} (h : Q .normal a w) : wpOrd P ops Q S [] a w := h
theorem wpOrd_skip {r : List (Bool × Oper)} {b : Bool} {a : Act} {w : World} {o : Oper} (hS : S w) (hw : Region.wanted o (yielded ops a.tmps) = false) (h : wpOrd P ops Q S r (a.put o.dst undef) w) :
    wpOrd P ops Q S ((b, o) :: r) a w := by
  cases b
  · simp only [wpOrd, hw, Bool.false_eq_true, if_false]
    exact ⟨hS, h⟩
  · exact ⟨undef, .inr ⟨hw, rfl⟩, h⟩
theorem wpOrd_yield {r : List (Bool × Oper)} {a : Act} {w : World} {o : Oper} {v : Value} (hw : Region.wanted o (yielded ops a.tmps) = true)
    (hr : ∀ u, S u → (execOp a.eval o).run P u = .ok (.value v) u) (h : wpOrd P ops Q S r (a.put o.dst v) w) : wpOrd P ops Q S ((true, o) :: r) a w :=
  ⟨v, .inl ⟨hw, hr⟩, h⟩
theorem wpOrd_move {r : List (Bool × Oper)} {a : Act} {w : World} {o : Oper} (hw : Region.wanted o (yielded ops a.tmps) = true) (x : Operand) (ho : o.op = .move x)
    (h : wpOrd P ops Q S r (a.put o.dst (a.eval x)) w) : wpOrd P ops Q S ((true, o) :: r) a w :=
  wpOrd_yield hw (fun u _ => by simp [execOp, ho]) h
theorem wpOrd_call {r : List (Bool × Oper)} {a : Act} {w : World} {o : Oper} (hw : Region.wanted o (yielded ops a.tmps) = true) (f : FuncId) (xs : List Operand) (ts : Array TypeId)
    (ho : o.op = .call { callee := .value (.func f), args := xs.toArray, argTypes := ts }) (hc : ∀ args u, (callFunc f args).run P u = .ok (.enter f args) u) (args : List Value) (hx : xs.map a.eval = args)
    (h : Calls P f args.toArray w fun e w' => ∃ v, e = .returned v ∧ S w' ∧ wpOrd P ops Q S r (a.put o.dst v) w') : wpOrd P ops Q S ((false, o) :: r) a w := by
  simp only [wpOrd, hw, if_true]
  unfold Oper.wp execOp
  have e : (do let d ← resolve a.eval { callee := .value (.func f), args := xs.toArray, argTypes := ts } o.type; invoke d.target d.args : Sem Next).run P w = .ok (.enter f args.toArray) w := by
    have hx' : xs.toArray.map a.eval = args.toArray := by rw [← hx]; simp
    simp only [resolve, hx']
    simp [Act.eval, Deferred.ofValue, invoke, hc]
  simp only [ho]
  rw [e]
  unfold Oper.upon
  exact h.mono fun e w' ⟨v, he, h1, h2⟩ => by subst he; exact ⟨h1, h2⟩
end
end Go.Proofs.Ytembocfghkmieaa
/- Regions whose order is drawn, where two operations may come up in either order: both orders are walked. -/
namespace Go.Proofs.Ytembocfghkmieaa
open Go.RowKit

section
variable {P : Program} {ops : Array Oper} {Q : Exit → Act → World → Prop} {S : World → Prop}

/-- First the operations of a list that only read, then i and j in either order, then l. -/
def forkB (ops : Array Oper) (i j : Nat) (l : List (Nat × Bool)) : List Nat → Array Bool → Bool
  | [], listed => (Region.ready .any ops listed == [i, j]) && (ops[i]?).isSome && (ops[j]?).isSome && ordB ops ((j, false) :: l) (listed.setIfInBounds i true) && ordB ops ((i, false) :: l) (listed.setIfInBounds j true)
  | k :: r, listed => (Region.ready .any ops listed).contains k && Region.free .any ops listed k && (ops[k]?).isSome && forkB ops i j l r (listed.setIfInBounds k true)

/-- One operation that acts, and what follows. -/
def wpAct (P : Program) (ops : Array Oper) (Q : Exit → Act → World → Prop) (S : World → Prop) (o : Oper) (K : Act → World → Prop) (a : Act) (w : World) : Prop :=
  if Region.wanted o (yielded ops a.tmps) then o.wp P a w (fun a' w' => S w' ∧ K a' w') Q else S w ∧ K (a.put o.dst undef) w

theorem wpOp_act {i : Nat} {o : Oper} (hi : ops[i]? = some o) {K K' : Act → World → Prop} (hK : ∀ a w, S w → K a w → K' a w) {a : Act} {w : World} (h : wpAct P ops Q S o K a w) : wpOp P ops Q i (fun a' w' => S w' ∧ K' a' w') a w := by
  unfold wpOp
  rw [hi]
  simp only
  unfold wpAct at h
  split
  · rename_i hw
    rw [if_pos hw] at h
    exact .inl (Oper.wp_mono (fun a' w' h' => ⟨h'.1, hK a' w' h'.1 h'.2⟩) h)
  · rename_i hw
    rw [if_neg hw] at h
    exact ⟨h.1, hK _ w h.1 h.2⟩

def wpFork (P : Program) (ops : Array Oper) (Q : Exit → Act → World → Prop) (S : World → Prop) (ol : List Oper) (i j : Nat) (l : List (Nat × Bool)) : List Nat → Act → World → Prop
  | [], a, w => (∀ o, ol[i]? = some o → wpAct P ops Q S o (wpOrd P ops Q S (inOrd ol ((j, false) :: l))) a w) ∧ (∀ o, ol[j]? = some o → wpAct P ops Q S o (wpOrd P ops Q S (inOrd ol ((i, false) :: l))) a w)
  | k :: r, a, w => ∀ o, ol[k]? = some o → ∃ v, YieldsIf P ops S o v a ∧ wpFork P ops Q S ol i j l r (a.put o.dst v) w

theorem wpFork_any {ol : List Oper} (hs : Region.noSelect ol.toArray = true) (hQ : ∀ d v c a w, Q (.panic c) (a.put d v) w → Q (.panic c) a w) (i j : Nat) (l : List (Nat × Bool)) : ∀ (r : List Nat) (listed : Array Bool) (a : Act) (w : World), S w →
    forkB ol.toArray i j l r listed = true → wpFork P ol.toArray Q S ol i j l r a w → wpAnyH P .any ol.toArray Q S (r.length + (l.length + 2)) listed a w
  | [], listed, a, w, hS, hB, h => by
    simp only [forkB, Bool.and_eq_true, beq_iff_eq] at hB
    obtain ⟨⟨⟨⟨h1, h2⟩, h3⟩, h4⟩, h5⟩ := hB
    obtain ⟨oi, hoi⟩ := Option.isSome_iff_exists.1 h2
    obtain ⟨oj, hoj⟩ := Option.isSome_iff_exists.1 h3
    have hoi' : ol[i]? = some oi := by simpa using hoi
    have hoj' : ol[j]? = some oj := by simpa using hoj
    rw [show ([] : List Nat).length + (l.length + 2) = (l.length + 1) + 1 by simp]
    refine wpAnyH_all h1 (by simp) fun k hk => ?_
    simp only [List.mem_cons, List.not_mem_nil, or_false] at hk
    rcases hk with rfl | rfl
    · exact wpOp_act hoi (fun a' w' hS' hK => wpOrd_any hs hQ ((j, false) :: l) _ a' w' hS' h4 hK) (h.1 oi hoi')
    · exact wpOp_act hoj (fun a' w' hS' hK => wpOrd_any hs hQ ((i, false) :: l) _ a' w' hS' h5 hK) (h.2 oj hoj')
  | k :: r, listed, a, w, hS, hB, h => by
    simp only [forkB, Bool.and_eq_true] at hB
    obtain ⟨⟨⟨h1, h2⟩, h3⟩, h4⟩ := hB
    obtain ⟨o, hi⟩ := Option.isSome_iff_exists.1 h3
    have hi' : ol[k]? = some o := by simpa using hi
    obtain ⟨v, hy, hr⟩ := h o hi'
    rw [show (k :: r).length + (l.length + 2) = r.length + (l.length + 2) + 1 by simp; omega]
    exact wpAnyH_take hi hs h2 h1 (fun c a w => hQ _ _ c a w) hy hS (wpFork_any hs hQ i j l r _ _ w hS h4 hr)

/-- A region that draws its order, walked so. -/
theorem wp_region_fork {id : Nat} {a : Act} {w : World} {ol : List Oper} (r : List Nat) (i j : Nat) (l : List (Nat × Bool)) (hm : P.follows .mixedOrders = true) (hl : r.length + (l.length + 2) = ol.length)
    (hB : (Region.noSelect ol.toArray && forkB ol.toArray i j l r (Array.replicate ol.toArray.size false)) = true) (hQ : ∀ d v c a w, Q (.panic c) (a.put d v) w → Q (.panic c) a w)
    (hS : S w.drew) (h : wpFork P ol.toArray Q S ol i j l r a w.drew) : (Code.region id ol.toArray true).wp P Q a w := by
  simp only [Bool.and_eq_true] at hB
  have h1 := wpFork_any hB.1 hQ i j l r _ a w.drew hS hB.2 h
  rw [hl] at h1
  exact wp_region_held hm (by simpa using h1)

theorem wpFork_yield {ol : List Oper} {i j : Nat} {l : List (Nat × Bool)} {k : Nat} {r : List Nat} {a : Act} {w : World} {o : Oper} {v : Value} (ho : ol[k]? = some o) (hw : Region.wanted o (yielded ops a.tmps) = true)
    (hr : ∀ u, S u → (execOp a.eval o).run P u = .ok (.value v) u) (h : wpFork P ops Q S ol i j l r (a.put o.dst v) w) : wpFork P ops Q S ol i j l (k :: r) a w := by
  intro o' ho'
  obtain rfl : o = o' := by rw [ho] at ho'; exact Option.some.inj ho'
  exact ⟨v, .inl ⟨hw, hr⟩, h⟩
theorem wpFork_nil {ol : List Oper} {i j : Nat} {l : List (Nat × Bool)} {a : Act} {w : World} {oi oj : Oper} (hi : ol[i]? = some oi) (hj : ol[j]? = some oj)
    (h1 : wpOrd P ops Q S (inOrd ol ((i, false) :: (j, false) :: l)) a w) (h2 : wpOrd P ops Q S (inOrd ol ((j, false) :: (i, false) :: l)) a w) : wpFork P ops Q S ol i j l [] a w := by
  refine ⟨fun o ho => ?_, fun o ho => ?_⟩
  · obtain rfl : oi = o := by rw [hi] at ho; exact Option.some.inj ho
    simp only [inOrd, hi, hj, wpOrd] at h1 ⊢
    exact h1
  · obtain rfl : oj = o := by rw [hj] at ho; exact Option.some.inj ho
    simp only [inOrd, hi, hj, wpOrd] at h2 ⊢
    exact h2
end
end Go.Proofs.Ytembocfghkmieaa
/- Write: a block is pending behind all that is, or the error; for every disk, number and block. -/
namespace Go.Proofs.Ytembocfghkmieaa
open Go.RowKit
variable {w : World} {L : Loc} {s : St}

section
variable {P : Program} {ops : Array Oper} {Q : Exit → Act → World → Prop} {S : World → Prop} {r : List (Bool × Oper)} {a : Act} {w w' : World} {o : Oper} {v : Value}
theorem wpOrd_run (hw : Region.wanted o (yielded ops a.tmps) = true) (hr : (execOp a.eval o).run P w = .ok (.value v) w') (hS : S w') (h : wpOrd P ops Q S r (a.put o.dst v) w') : wpOrd P ops Q S ((false, o) :: r) a w := by
  simp only [wpOrd, hw, if_true]
  unfold Oper.wp
  rw [hr]
  exact ⟨hS, h⟩
theorem wpOrd_do (hw : Region.wanted o (yielded ops a.tmps) = true) (hr : (execOp a.eval o).run P w = .ok .skip w') (hS : S w') (h : wpOrd P ops Q S r (a.put o.dst undef) w') : wpOrd P ops Q S ((false, o) :: r) a w := by
  simp only [wpOrd, hw, if_true]
  unfold Oper.wp
  rw [hr]
  exact ⟨hS, h⟩
end
def writeS (s : St) (k : Int) (f : Nat → Int) : St := { letV s with wait := s.wait ++ [(k, f)] }
theorem letV_wait (s : St) : (letV s).wait = s.wait := by unfold letV; split <;> rfl
theorem letV_done (s : St) : (letV s).done = s.done := by unfold letV; split <;> rfl
theorem letV_held (s : St) : (letV s).held = s.held := by unfold letV; split <;> rfl
theorem letV_n (s : St) : (letV s).n = s.n := by unfold letV; split <;> rfl
theorem letV_ops (s : St) : (letV s).ops = s.ops := by unfold St.ops; rw [letV_wait, letV_done]
theorem writeS_ok (h : Ok s) {k : Int} (hk : 0 ≤ k ∧ k < s.n) {f : Nat → Int} (hf : Can f) : Ok (writeS s k f) := by
  have h1 := letV_ok h
  refine ⟨h1.n, h1.held, fun c hc => ?_, h1.fuse, h1.made, h1.reads, h1.claims⟩
  have hc' : c ∈ s.wait ∨ c = (k, f) := by simpa [writeS] using hc
  show (0 ≤ c.1 ∧ c.1 < (letV s).n) ∧ Can c.2
  rw [letV_n]
  rcases hc' with h2 | rfl
  · exact h.wait c h2
  · exact ⟨hk, hf⟩
theorem writeS_ops (s : St) (k : Int) (f : Nat → Int) : (writeS s k f).ops = s.ops ++ [⟨1, k, f⟩] := by
  show (letV s).done ++ (s.wait ++ [(k, f)]).map wrec = _
  rw [letV_done]
  unfold St.ops
  simp [wrec]
theorem writeS_late (s : St) (k : Int) (f : Nat → Int) : lateV (writeS s k f) = fun y => if y = k then some (.int .i64 ((s.ops.length : Nat) : Int)) else lateV (letV s) y := by
  funext y
  show (lastAt (s.wait ++ [(k, f)]) y).map (fun i => Value.int .i64 (((letV s).done.length + i : Nat) : Int)) = _
  rw [lastAt_snoc, letV_done, ops_len]
  by_cases e : y = k
  · rw [if_pos e, if_pos (by exact e.symm)]
    rfl
  · rw [if_neg e, if_neg (fun q => e q.symm)]
    unfold lateV
    rw [letV_done, letV_wait]

set_option maxRecDepth 20000 in
theorem write_bad (h : DiskAt w L s) {k : Int} (hb : refV s k ≠ 0) (f : Nat → Int) :
    Calls Try.prog 33 #[.pointer (some ⟨L.d, 0, none⟩), .int .i64 k, .agg (blk f)] w fun e w' => e = .returned (.int .i64 (refV s k)) ∧ Below w.heap.size w w' := by
  have hR := refuses_of (h.later (below_new w (.cells (blk f) 58))) k
  have hne : (refV s k != 0) = true := by simp [hb]
  clear h hb
  generalize refV s k = r at *
  go_enter Try.func33, Try.ntmps33
  go_wp2_with (first | (go_at_call 66; refine hR.mono ?_; rintro e W ⟨rfl, rfl⟩))
  go_ret
  exact ⟨rfl, below_new _ _⟩
set_option maxRecDepth 20000 in
theorem write_dead (h : DiskAt w L s) (hr : Room s) {k : Int} (hb : refV s k = 0) (hl : lets s = false) (f : Nat → Int) :
    Calls Try.prog 33 #[.pointer (some ⟨L.d, 0, none⟩), .int .i64 k, .agg (blk f)] w fun e w' => e = .returned (.int .i64 3) ∧ DiskAt w' L (letV s) ∧ Goes w w' L L := by
  have D1 := h.later (below_new w (.cells (blk f) 58))
  have hR := refuses_of D1 k
  rw [hb] at hR
  have hT := letThrough_of D1 hr
  rw [hl] at hT
  have HG : Hid (Goes w (w.alloc (.cells (blk f) 58)) L L) := Goes.ofBelow L (below_new _ _)
  clear h hb D1
  go_enter Try.func33, Try.ntmps33
  go_wp2_with (first | (go_at_call 66; refine hR.mono ?_; rintro e W ⟨rfl, rfl⟩) | (go_at_call 71; fail))
  refine hT.mono ?_
  rintro e W ⟨rfl, hD, hG⟩
  have HD : Hid (DiskAt W L (letV s)) := hD
  have HG2 : Hid (Goes _ W L L) := hG
  clear hD hG
  go_wp2
  go_ret
  exact ⟨rfl, HD.out, HG.out.trans HG2.out⟩
set_option maxRecDepth 20000 in
set_option maxHeartbeats 2000000 in
theorem write_ok (h : DiskAt w L s) (hr : Room s) {k : Int} (hb : refV s k = 0) (hl : lets s = true) {f : Nat → Int} (hf : Can f) :
    Calls Try.prog 33 #[.pointer (some ⟨L.d, 0, none⟩), .int .i64 k, .agg (blk f)] w fun e w' => e = .returned (.int .i64 0) ∧ ∃ L', DiskAt w' L' (writeS s k f) ∧ Goes w w' L L' := by
  have D1 := h.later (below_new w (.cells (blk f) 58))
  have hR := refuses_of D1 k
  rw [hb] at hR
  have hT := letThrough_of D1 hr
  rw [hl] at hT
  obtain ⟨_, hk⟩ := refV_ok hb
  have hin := inTop_of h.ok hk
  have hok := writeS_ok h.ok hk hf
  have HG : Hid (Goes w (w.alloc (.cells (blk f) 58)) L L) := Goes.ofBelow L (below_new _ _)
  have hL : ∀ i, L.has i → i < w.heap.size := h.lt
  have hro := hr.ops
  have hB0 := heap_alloc_new w (.cells (blk f) 58)
  have hsz : w.heap.size < (w.alloc (.cells (blk f) 58)).heap.size := by simp
  clear h hb D1 hr
  go_enter Try.func33, Try.ntmps33
  go_wp2_with (first | (go_at_call 66; refine hR.mono ?_; rintro e W ⟨rfl, rfl⟩) | (go_at_call 71; fail))
  refine hT.mono ?_
  rintro e W ⟨rfl, hD, hG⟩
  have hB : W.heap[w.heap.size]? = some (.cells (blk f) 58) := (hG.fr.block w.heap.size hsz fun q => by have := hL _ q; omega).trans hB0
  have HG2 : Hid (Goes w W L L) := HG.out.trans hG
  clear hG HG hR hT hsz hB0
  generalize hg0 : w.heap.size = g0 at *
  obtain ⟨p, c, h1, h2, h3, h4⟩ := hD.shape
  rw [letV_ops] at h1 h2
  have c3 := hD.c3
  have c5 := hD.c5
  rw [h1] at c3
  have hLate := hD.late
  have HR : Hid (RawAt W L (dkRow L (letV s)) (heldV (letV s)) (lateV (letV s)) (letV s).ops) := hD.raw
  clear hD h4
  go_wp2
  go_still_tail 10, (by kernel_rfl)
  change wpList _ _ _ _ _ (World.drew _)
  refine wpList_putM rfl (.tmp 20) (.tmp 21) (.tmp 26) 72 rfl 3 Try.underlying3 keyed3 Try.underlying72 L.lb _ rfl (hLate.kept (w' := W.drew) rfl) k hin rfl (.int .i64 ((s.ops.length : Nat) : Int)) rfl ?_
  intro W3 hm3 hg3
  have hF3 : Fr (fun i => i = L.lb) W W3 := (Fr.drew W).trans ((Fr.ofGrown hg3).mono fun i _ q => by injection q with q; exact q.symm) fun _ _ q => q
  rw [← writeS_late s k f] at hm3
  have hR3 := HR.out.lateTo hm3 hF3
  have hB3 : W3.heap[g0]? = some (.cells (blk f) 58) := (hF3.block g0 (Array.getElem?_eq_some_iff.1 hB).1 fun q => by have := hL L.lb (.inr (.inr (.inl rfl))); omega).trans hB
  have hG3 : Goes w W3 L L := HG2.out.trans (Goes.of rfl (fun _ q => .inl q) hF3 fun i _ q => .inr (.inr (.inl q)))
  clear HR HG2 hm3 hg3 hF3 hLate c3 c5 hB
  have hR4 : RawAt W3.drew L (dkRow L (letV s)) (heldV (letV s)) (lateV (writeS s k f)) (letV s).ops := hR3.fr (Fr.drew (T := fun _ => False) W3) fun _ _ q => q
  have hG4 : Goes w W3.drew L L := hG3.trans ⟨rfl, fun _ q => .inl q, Fr.drew W3⟩
  have hB4 : W3.drew.heap[g0]? = some (.cells (blk f) 58) := hB3
  clear hR3 hG3 hB3
  go_wp2
  refine wp_region_fork (S := fun u => u.heap[g0]? = some (.cells (blk f) 58)) [0, 1, 2, 3, 5, 6, 7] 4 8 [(9, false), (10, true), (11, true), (12, false)] (by kernel_rfl) rfl (by kernel_rfl) (fun d _ _ _ _ h => by cases d <;> exact h) hB4 ?_
  simp only [Act.put]
  generalize W3.drew = V at *
  have hlt : g0 < V.heap.size := (Array.getElem?_eq_some_iff.1 hB4).1
  have c3 : V.cell? ⟨L.d, 3, none⟩ = some L.hv := Joins.cell_of_block hR4.row 3
  rw [h1] at c3
  refine wpFork_yield (v := .pointer (some ⟨L.d, 0, none⟩)) rfl rfl (fun u _ => by simp [execOp, Act.eval]) ?_
  simp only [Act.put, List.setIfInBounds_toArray, List.set_cons_succ, List.set_cons_zero]
  refine wpFork_yield (v := .pointer (some ⟨L.d, 0, none⟩)) rfl rfl (fun u _ => by simp [execOp, Act.eval]) ?_
  simp only [Act.put, List.setIfInBounds_toArray, List.set_cons_succ, List.set_cons_zero]
  refine wpFork_yield (v := .pointer (some ⟨L.d, 0, none⟩)) rfl rfl (fun u _ => by go_simp) ?_
  simp only [Act.put, List.setIfInBounds_toArray, List.set_cons_succ, List.set_cons_zero]
  refine wpFork_yield (v := .pointer (some ⟨L.d, 3, none⟩)) rfl rfl (fun u _ => by go_simp) ?_
  simp only [Act.put, List.setIfInBounds_toArray, List.set_cons_succ, List.set_cons_zero]
  refine wpFork_yield (v := .int .i64 k) rfl rfl (fun u _ => by simp [execOp, Act.eval]) ?_
  simp only [Act.put, List.setIfInBounds_toArray, List.set_cons_succ, List.set_cons_zero]
  refine wpFork_yield (v := .agg (blk f)) rfl rfl (fun u hu => by
    unfold execOp
    simp only [Act.eval]
    have e := loadM (BlkAt.of hu)
    change Sem.run Try.prog (Instr.loadAt 58 (.pointer (some ⟨g0, 0, none⟩)) >>= fun v => pure (Next.value v)) u = _
    simp only [Sem.run_bind, e, Result.andThen_ok, Sem.run_pure]) ?_
  simp only [Act.put, List.setIfInBounds_toArray, List.set_cons_succ, List.set_cons_zero]
  refine wpFork_yield (v := .agg (recCells ⟨1, k, f⟩).toArray) rfl rfl (fun u hu => by
    have e := build108 1 k f u
    simp [execOp, Act.eval, e]) ?_
  simp only [Act.put, List.setIfInBounds_toArray, List.set_cons_succ, List.set_cons_zero]
  have hro' : (letV s).ops.length < 68719476736 := by rw [letV_ops]; exact hro
  obtain ⟨v', W5, hrun, ho5, hF5, hw5⟩ := push_run (W := V) (v := L.hv) ⟨1, k, f⟩ 67 hR4.hist hro'
  obtain ⟨g5, cap5, rfl⟩ : ∃ g5 cap5, v' = Value.slice (some ⟨g5, 0, none⟩) (s.ops ++ [(⟨1, k, f⟩ : Rec)]).length cap5 := by
    rw [letV_ops] at ho5
    rcases ho5.2 with ⟨_, h⟩ | ⟨g, cap', _, h, _⟩
    · simp at h
    · exact ⟨g, cap', h⟩
  have hR5 := hR4.histTo ho5 hF5
  have hD6 : Hid (DiskAt (W5.setCell ⟨L.d, 3, none⟩ (Value.slice (some ⟨g5, 0, none⟩) (s.ops ++ [(⟨1, k, f⟩ : Rec)]).length cap5)) ⟨L.d, L.hb, L.lb, Value.slice (some ⟨g5, 0, none⟩) (s.ops ++ [(⟨1, k, f⟩ : Rec)]).length cap5⟩ (writeS s k f)) := by
    refine RawAt.disk ?_ hok
    have h6 := hR5.cell 3 (Value.slice (some ⟨g5, 0, none⟩) (s.ops ++ [(⟨1, k, f⟩ : Rec)]).length cap5)
    rw [letV_ops] at h6
    rw [writeS_ops]
    exact h6
  have hG6 : Hid (Goes w (W5.setCell ⟨L.d, 3, none⟩ (Value.slice (some ⟨g5, 0, none⟩) (s.ops ++ [(⟨1, k, f⟩ : Rec)]).length cap5)) L ⟨L.d, L.hb, L.lb, Value.slice (some ⟨g5, 0, none⟩) (s.ops ++ [(⟨1, k, f⟩ : Rec)]).length cap5⟩) := by
    refine hG4.trans (Goes.of (T := fun i => L.hv.ownBlock = some i ∨ i = L.d) rfl (fun i hi => ?_) ((hF5.mono fun i _ q => .inl q).trans ((Fr.setCell W5 L.d 3 _).mono fun i _ q => .inr q) fun i _ q => q) fun i _ q => ?_)
    · rcases hi with q | q | q | q
      · exact .inl (.inl q)
      · exact .inl (.inr (.inl q))
      · exact .inl (.inr (.inr (.inl q)))
      · rcases hw5 i q with q | q
        · exact .inl (.inr (.inr (.inr q)))
        · exact .inr q
    · rcases q with q | q
      · exact .inr (.inr (.inr q))
      · exact .inl q
  have S1 := heap_kept hB4 (below_new V (.cells (recCells ⟨1, k, f⟩).toArray 108))
  have S5 : W5.heap[g0]? = some (.cells (blk f) 58) := (hF5.block g0 hlt fun q => by have := hL g0 (.inr (.inr (.inr q))); omega).trans hB4
  have S6 : (W5.setCell ⟨L.d, 3, none⟩ (Value.slice (some ⟨g5, 0, none⟩) (s.ops ++ [(⟨1, k, f⟩ : Rec)]).length cap5)).heap[g0]? = some (.cells (blk f) 58) :=
    (Below.heap_setCell _ _ _ _ (by show g0 ≠ L.d; have := hL L.d (.inl rfl); omega)).trans S5
  have k3 : W5.cell? ⟨L.d, 3, none⟩ = some L.hv := Joins.cell_of_block hR5.row 3
  have f3 : W5.frozen? ⟨L.d, 3, none⟩ = false := Joins.unfrozen_of_block hR5.row 3
  have hdl : L.d < V.heap.size := hR4.lt L.d (.inl rfl)
  have c3' : (V.alloc (.cells (recCells ⟨1, k, f⟩).toArray 108)).cell? ⟨L.d, 3, none⟩ = some (.slice p s.ops.length c) := by rw [World.cell?_alloc_past _ _ _ hdl]; exact c3
  have hbs := build67 ⟨1, k, f⟩ V
  rw [h1] at hrun k3
  clear hR5 hR4 hF5 hw5 ho5 hG4 hok hro'
  generalize hrl : (s.ops ++ [(⟨1, k, f⟩ : Rec)]).length = m5 at *
  generalize hrc : (recCells ⟨1, k, f⟩).toArray = RC at *
  refine wpFork_nil rfl rfl ?_ ?_
  · simp only [inOrd, List.getElem?_cons_zero, List.getElem?_cons_succ]
    refine wpOrd_run (v := .slice p s.ops.length c) (w' := V) rfl (by go_simp) hB4 ?_
    simp only [Act.put, List.setIfInBounds_toArray, List.set_cons_succ, List.set_cons_zero]
    refine wpOrd_run (v := .slice (some ⟨V.heap.size, 0, none⟩) 1 1) (w' := V.alloc (.cells RC 108)) rfl (by simp [execOp, Act.eval, hbs]) S1 ?_
    simp only [Act.put, List.setIfInBounds_toArray, List.set_cons_succ, List.set_cons_zero]
    refine wpOrd_run (v := .slice (some ⟨g5, 0, none⟩) m5 cap5) (w' := W5) rfl (by simp [execOp, Act.eval, resolve, invoke, builtin, hrun, Result.andThen]) S5 ?_
    simp only [Act.put, List.setIfInBounds_toArray, List.set_cons_succ, List.set_cons_zero]
    refine wpOrd_yield (v := .pointer (some ⟨L.d, 0, none⟩)) rfl (fun u _ => by go_simp) ?_
    simp only [Act.put, List.setIfInBounds_toArray, List.set_cons_succ, List.set_cons_zero]
    refine wpOrd_yield (v := .pointer (some ⟨L.d, 3, none⟩)) rfl (fun u _ => by go_simp) ?_
    simp only [Act.put, List.setIfInBounds_toArray, List.set_cons_succ, List.set_cons_zero]
    refine wpOrd_do (w' := W5.setCell ⟨L.d, 3, none⟩ (.slice (some ⟨g5, 0, none⟩) m5 cap5)) rfl (by go_simp) S6 ?_
    refine wpOrd_nil ?_
    simp only [Act.put]
    generalize W5.setCell ⟨L.d, 3, none⟩ (.slice (some ⟨g5, 0, none⟩) m5 cap5) = Y at *
    clear hrun S1 S5 S6 k3 f3 c3' hbs c3
    go_wp2
    go_ret
    exact ⟨rfl, _, hD6.out, hG6.out⟩
  · simp only [inOrd, List.getElem?_cons_zero, List.getElem?_cons_succ]
    refine wpOrd_run (v := .slice (some ⟨V.heap.size, 0, none⟩) 1 1) (w' := V.alloc (.cells RC 108)) rfl (by simp [execOp, Act.eval, hbs]) S1 ?_
    simp only [Act.put, List.setIfInBounds_toArray, List.set_cons_succ, List.set_cons_zero]
    refine wpOrd_run (v := .slice p s.ops.length c) (w' := V.alloc (.cells RC 108)) rfl (by go_simp) S1 ?_
    simp only [Act.put, List.setIfInBounds_toArray, List.set_cons_succ, List.set_cons_zero]
    refine wpOrd_run (v := .slice (some ⟨g5, 0, none⟩) m5 cap5) (w' := W5) rfl (by simp [execOp, Act.eval, resolve, invoke, builtin, hrun, Result.andThen]) S5 ?_
    simp only [Act.put, List.setIfInBounds_toArray, List.set_cons_succ, List.set_cons_zero]
    refine wpOrd_yield (v := .pointer (some ⟨L.d, 0, none⟩)) rfl (fun u _ => by go_simp) ?_
    simp only [Act.put, List.setIfInBounds_toArray, List.set_cons_succ, List.set_cons_zero]
    refine wpOrd_yield (v := .pointer (some ⟨L.d, 3, none⟩)) rfl (fun u _ => by go_simp) ?_
    simp only [Act.put, List.setIfInBounds_toArray, List.set_cons_succ, List.set_cons_zero]
    refine wpOrd_do (w' := W5.setCell ⟨L.d, 3, none⟩ (.slice (some ⟨g5, 0, none⟩) m5 cap5)) rfl (by go_simp) S6 ?_
    refine wpOrd_nil ?_
    simp only [Act.put]
    generalize W5.setCell ⟨L.d, 3, none⟩ (.slice (some ⟨g5, 0, none⟩) m5 cap5) = Y at *
    clear hrun S1 S5 S6 k3 f3 c3' hbs c3
    go_wp2
    go_ret
    exact ⟨rfl, _, hD6.out, hG6.out⟩
end Go.Proofs.Ytembocfghkmieaa
/- Barrier: all that is pending is held, in order, and nothing is pending any more, or the error; for every disk. -/
namespace Go.Proofs.Ytembocfghkmieaa
open Go.RowKit
variable {w : World} {L : Loc} {s : St}

/-- Blocks are held one behind the other. -/
def holdAll (s : St) (l : List Cel) : St := l.foldl (fun s c => holdV s c.1 c.2) s
theorem holdAll_snoc (s : St) (l : List Cel) (c : Cel) : holdAll s (l ++ [c]) = holdV (holdAll s l) c.1 c.2 := by simp [holdAll]
theorem holdAll_same (l : List Cel) : ∀ s : St, ∃ h, holdAll s l = { s with held := h } := by
  induction l with
  | nil => exact fun s => ⟨s.held, rfl⟩
  | cons c t ih =>
    intro s
    obtain ⟨h, e⟩ := ih (holdV s c.1 c.2)
    exact ⟨h, by show holdAll (holdV s c.1 c.2) t = _; rw [e]; rfl⟩
theorem holdAll_wait (s : St) (l : List Cel) : (holdAll s l).wait = s.wait := by obtain ⟨h, e⟩ := holdAll_same l s; rw [e]
theorem holdAll_done (s : St) (l : List Cel) : (holdAll s l).done = s.done := by obtain ⟨h, e⟩ := holdAll_same l s; rw [e]
theorem holdAll_n (s : St) (l : List Cel) : (holdAll s l).n = s.n := by obtain ⟨h, e⟩ := holdAll_same l s; rw [e]
theorem holdAll_ops (s : St) (l : List Cel) : (holdAll s l).ops = s.ops := by unfold St.ops; rw [holdAll_wait, holdAll_done]
theorem take_snoc {l : List Cel} {k : Nat} {c : Cel} (h : l[k]? = some c) : l.take (k + 1) = l.take k ++ [c] := by
  rw [List.take_add_one, h]
  rfl
/-- Behind a barrier. -/
def barS (s : St) : St := { holdAll (letV s) s.wait with done := s.ops ++ [⟨2, 0, nought⟩], wait := [] }
theorem barS_ops (s : St) : (barS s).ops = s.ops ++ [⟨2, 0, nought⟩] := by
  show (s.ops ++ [⟨2, 0, nought⟩]) ++ List.map wrec [] = _
  simp
theorem barS_ok (h : Ok (holdAll (letV s) s.wait)) : Ok (barS s) := ⟨h.n, h.held, fun c hc => by simp [barS] at hc, h.fuse, h.made, h.reads, h.claims⟩
theorem Goes.hold {a b : World} {L : Loc} (h : Fr (fun i => i = L.hb) a b) : Goes a b L L := Goes.of rfl (fun _ q => .inl q) h fun _ _ q => .inr (.inl q)

theorem slice_of {w : World} {v : Value} {n : Nat} {xs : List Value} (h : w.ownsRow 0 108 1026 v n xs) (hn : 0 < n) : ∃ g cap, v = .slice (some ⟨g, 0, none⟩) n cap := by
  rcases h.2 with ⟨_, h⟩ | ⟨g, cap', _, h, _⟩
  · omega
  · exact ⟨g, cap', h⟩
theorem wpList_bar {ops : Array Oper} {rest : List Oper} {o : Oper} {a : Act} {w : World} {Q : Exit → Act → World → Prop} (hgd : o.guard = none) (ho : o.op = .build 108 #[(0, .const (.int .u8 2))])
    (h : wpList Try.prog ops Q rest (a.put o.dst (.agg (recCells ⟨2, 0, nought⟩).toArray)) w) : wpList Try.prog ops Q (o :: rest) a w :=
  wpList_plain hgd fun _ hK => by
    have e := build108b 2 w
    generalize (recCells ⟨2, 0, nought⟩).toArray = Z at *
    have e' : (execOp a.eval o).run Try.prog w = .ok (.value (.agg Z)) w := by simp [execOp, ho, Act.eval, e]
    unfold Oper.wp
    rw [e']
    exact hK _ _ h

set_option maxRecDepth 20000 in
theorem barrier_none {v : Value} (h : NoneAt w v) : Calls Try.prog 32 #[v] w fun e w' => e = .returned (.int .i64 1) ∧ w' = w := by
  go_enter Try.func32, Try.ntmps32
  go_wp2_with (first | (go_at_call 64; refine (none_yes h).mono ?_; rintro e W ⟨rfl, rfl⟩))
  go_ret
  exact ⟨rfl, rfl⟩
set_option maxRecDepth 20000 in
theorem barrier_stopped (h : DiskAt w L s) (hs : s.stopped = true) : Calls Try.prog 32 #[.pointer (some ⟨L.d, 0, none⟩)] w fun e w' => e = .returned (.int .i64 3) ∧ w' = w := by
  have c7 := h.c7
  have h0 := h.c0
  rw [hs] at c7
  clear h
  go_enter Try.func32, Try.ntmps32
  go_wp2_with (first | (go_at_call 64; refine (none_no h0).mono ?_; rintro e W ⟨rfl, rfl⟩))
  go_ret
  exact ⟨rfl, rfl⟩
set_option maxRecDepth 20000 in
theorem barrier_dead (h : DiskAt w L s) (hr : Room s) (hs : s.stopped = false) (hl : lets s = false) : Calls Try.prog 32 #[.pointer (some ⟨L.d, 0, none⟩)] w fun e w' => e = .returned (.int .i64 3) ∧ DiskAt w' L (letV s) ∧ Goes w w' L L := by
  have c7 := h.c7
  have h0 := h.c0
  rw [hs] at c7
  have hT := letThrough_of h hr
  rw [hl] at hT
  clear h
  go_enter Try.func32, Try.ntmps32
  go_wp2_with (first | (go_at_call 64; refine (none_no h0).mono ?_; rintro e W ⟨rfl, rfl⟩) | (go_at_call 71; fail))
  refine hT.mono ?_
  rintro e W ⟨rfl, hD, hG⟩
  have HD : Hid (DiskAt W L (letV s)) := hD
  have HG2 : Hid (Goes _ W L L) := hG
  clear hD hG
  go_wp2
  go_ret
  exact ⟨rfl, HD.out, HG2.out⟩
set_option maxRecDepth 20000 in
set_option maxHeartbeats 2000000 in
theorem barrier_ok (h : DiskAt w L s) (hr : Room s) (hs : s.stopped = false) (hl : lets s = true) :
    Calls Try.prog 32 #[.pointer (some ⟨L.d, 0, none⟩)] w fun e w' => e = .returned (.int .i64 0) ∧ ∃ L', DiskAt w' L' (barS s) ∧ Goes w w' L L' := by
  have c7 := h.c7
  have h0 := h.c0
  rw [hs] at c7
  have hT := letThrough_of h hr
  rw [hl] at hT
  have hro := hr.ops
  clear h
  go_enter Try.func32, Try.ntmps32
  go_wp2_with (first | (go_at_call 64; refine (none_no h0).mono ?_; rintro e W ⟨rfl, he⟩; obtain rfl := he.symm) | (go_at_call 71; fail))
  refine hT.mono ?_
  rintro e W ⟨rfl, hD, hG⟩
  have hP := pending_of hD
  obtain ⟨p, cp, hp1, hp2, hp3⟩ := hD.pend
  rw [hp1, letV_wait] at hP
  rw [letV_wait] at hp2 hp3
  rw [letV_done] at hp3
  have HD : Hid (DiskAt W.drew L (letV s)) := hD.fr (Fr.drew (T := fun _ => False) W) fun _ _ q => q
  have HG2 : Hid (Goes w W.drew L L) := hG.trans ⟨rfl, fun _ q => .inl q, Fr.drew W⟩
  clear hD hG hT hp1 c7
  have HP : Hid (0 < s.wait.length → ∃ g, L.hv.ownBlock = some g ∧ p = some ⟨g, s.done.length * 1026, none⟩) := hp3
  clear hp3
  have hwl : s.wait.length < 68719476736 := by have := ops_len s; omega
  go_wp2_with (go_at_call 68; refine hP.mono ?_; rintro e W1 ⟨rfl, rfl⟩)
  clear hP
  generalize W.drew = V at *
  generalize hm : s.wait.length = m at *
  go_loopw [20] (fun s20 wx => ∃ k : Nat, k ≤ m ∧ s20 = .int .i64 k ∧ Hid (DiskAt wx L (holdAll (letV s) (s.wait.take k))) ∧ Hid (Goes w wx L L)) (fun s20 _ => m - (intOf s20).toNat)
  case atStart => exact ⟨0, by omega, rfl, HD.out, HG2.out⟩
  case round =>
    obtain ⟨k, hk, rfl, HDk, HGk⟩ := hrel
    by_cases hk2 : (k : Int) < m
    · have hkl : k < s.wait.length := by omega
      obtain ⟨g, hg, rfl⟩ := HP.out (by omega)
      have hc : s.wait[k]? = some s.wait[k] := List.getElem?_eq_getElem hkl
      generalize s.wait[k] = c at hc
      have hop : (holdAll (letV s) (s.wait.take k)).ops[s.done.length + k]? = some (wrec c) := by rw [holdAll_ops, letV_ops]; exact ops_wait s hc
      have HDd : DiskAt wr.drew L (holdAll (letV s) (s.wait.take k)) := HDk.out.fr (Fr.drew (T := fun _ => False) wr) fun _ _ q => q
      have hpos := HDk.out.histPos hg hop
      have hblk := HDd.histBlk hg hop
      have hcw := HDd.ok.wait c (by rw [holdAll_wait, letV_wait]; exact List.mem_of_getElem? hc)
      rw [holdAll_n] at hcw
      have HH := hold_of HDd (by rw [holdAll_n]; exact hcw.1) hcw.2 hblk
      rw [← holdAll_snoc, ← take_snoc hc] at HH
      have e1 : (s.done.length + k) * 1026 = s.done.length * 1026 + k * 1026 := Nat.add_mul _ _ _
      rw [e1] at hpos HH
      have hpos' : wr.cell? ⟨g, s.done.length * 1026 + k * 1026 + 1, none⟩ = some (.int .i64 c.1) := hpos
      have HH2 : Hid (Calls Try.prog 61 #[.pointer (some ⟨L.d, 0, none⟩), .int .i64 c.1, .pointer (some ⟨g, s.done.length * 1026 + k * 1026 + 2, none⟩)] wr.drew fun e w' => e = .returned (.tuple #[]) ∧ DiskAt w' L (holdAll (letV s) (s.wait.take (k + 1))) ∧ Goes w w' L L) :=
        Calls.mono HH fun e w' ⟨h1, h2, h3⟩ => ⟨h1, h2, (HGk.out.trans ⟨rfl, fun _ q => .inl q, Fr.drew wr⟩).trans (Goes.hold h3)⟩
      generalize s.done.length * 1026 = D at *
      clear HH hpos hblk hop hc e1 HDk hcw HDd HGk
      go_wp2
      go_still_tail 10, (by kernel_rfl)
      change wpList _ _ _ _ _ (World.drew _)
      go_wp2_with (go_at_call 61; fail)
      refine HH2.out.mono ?_
      rintro e W2 ⟨rfl, hD2, hG2⟩
      have HD2 : Hid (DiskAt W2 L (holdAll (letV s) (s.wait.take (k + 1)))) := hD2
      have HG3 : Hid (Goes w W2 L L) := hG2
      clear hD2 hG2 HH2
      go_wp2
      exact ⟨⟨k + 1, by omega, by go_num, HD2.out, HG3.out⟩, by simp [intOf]; omega⟩
    · obtain rfl : k = m := by omega
      have hD := HDk.out
      rw [← hm, List.take_length] at hD
      have hG := HGk.out
      clear HDk HGk HP
      have hRaw := hD.raw
      rw [holdAll_ops, letV_ops] at hRaw
      have c3 := hD.c3
      obtain ⟨p', c', h1, h2, h3, h4⟩ := hD.shape
      rw [holdAll_ops, letV_ops] at h1
      rw [h1] at c3
      have hbl := fun u => build67 ⟨2, 0, nought⟩ u
      have hh := hRaw.hist
      rw [h1] at hh
      have hl0 : 0 < (s.ops ++ [(⟨2, 0, nought⟩ : Rec)]).length := by simp
      go_wp2_with (first | refine wpList_bar rfl rfl ?_ | refine wpList_build1 rfl 67 108 (.tmp 40) rfl _ rfl (hbl _) ?_ | (at_builtin; refine wpList_pushR rfl (.tmp 39) (.tmp 41) rfl (.slice p' s.ops.length c') s.ops ⟨2, 0, nought⟩ rfl rfl hh hro ?_; intro v' W5 ho5 hF5 hw5; obtain ⟨g5, cap5, rfl⟩ := slice_of ho5 hl0; rw [← h1] at hF5 hw5; have hR5 := hRaw.histTo ho5 hF5; have k3 : W5.cell? ⟨L.d, 3, none⟩ = some L.hv := Joins.cell_of_block hR5.row 3; rw [h1] at k3; have f3 : W5.frozen? ⟨L.d, 3, none⟩ = false := Joins.unfrozen_of_block hR5.row 3) | (go_at_call 72; fail))
      have hn1 : (s.ops ++ [(⟨2, 0, nought⟩ : Rec)]).length = s.ops.length + 1 := by simp
      have hR5' : RawAt W5 ⟨L.d, L.hb, L.lb, .slice (some ⟨g5, 0, none⟩) (s.ops.length + 1) cap5⟩ (dkRow L (holdAll (letV s) s.wait)) (heldV (holdAll (letV s) s.wait)) (lateV (holdAll (letV s) s.wait)) (s.ops ++ [⟨2, 0, nought⟩]) := hn1 ▸ hR5
      have hw5' : ∀ k, (Value.slice (some ⟨g5, 0, none⟩) (s.ops.length + 1) cap5).ownBlock = some k → L.hv.ownBlock = some k ∨ wr.heap.size ≤ k := hw5
      have hR6 := hR5'.cell 3 (.slice (some ⟨g5, 0, none⟩) (s.ops.length + 1) cap5)
      have hok := barS_ok hD.ok
      clear hR5 hR5' hRaw hw5 ho5 hh hbl c3 k3 f3
      have hF6 : Fr (fun i => L.hv.ownBlock = some i ∨ i = L.d) wr (W5.setCell ⟨L.d, 3, none⟩ (.slice (some ⟨g5, 0, none⟩) (s.ops.length + 1) cap5)) :=
        (hF5.mono fun i _ q => .inl q).trans ((Fr.setCell W5 L.d 3 _).mono fun i _ q => .inr q) fun i _ q => q
      generalize W5.setCell ⟨L.d, 3, none⟩ (.slice (some ⟨g5, 0, none⟩) (s.ops.length + 1) cap5) = W6 at *
      refine (nothing_of (d := L.d) (n := (holdAll (letV s) s.wait).n) (hb := L.hb) (p := some ⟨g5, 0, none⟩) (m := s.ops.length + 1) (c := cap5) (bh := ((holdAll (letV s) s.wait).done.length : Int)) (lb := L.lb) (fu := (holdAll (letV s) s.wait).fuse) (st := (holdAll (letV s) s.wait).stopped) (ma := (holdAll (letV s) s.wait).made) (re := (holdAll (letV s) s.wait).reads) (cl := (holdAll (letV s) s.wait).claims) (cd := (holdAll (letV s) s.wait).claimed) hR6.row).mono ?_
      rintro e W7 ⟨rfl, hrow7, hM7, hF7⟩
      have hlb : L.hb < W6.heap.size := hR6.held.lt
      have hR7 := (hR6.rowTo hrow7 hF7).lateNew (b := W6.heap.size) (by show L.hb ≠ _; omega) hM7
      have hD7 : Hid (DiskAt W7 ⟨L.d, L.hb, W6.heap.size, .slice (some ⟨g5, 0, none⟩) (s.ops.length + 1) cap5⟩ (barS s)) := by
        refine RawAt.disk ?_ hok
        rw [barS_ops]
        have e1 : lateV (barS s) = fun _ => none := by funext y; rfl
        have e2 : dkRow ⟨L.d, L.hb, W6.heap.size, .slice (some ⟨g5, 0, none⟩) (s.ops.length + 1) cap5⟩ (barS s) = row12 L.d (holdAll (letV s) s.wait).n L.hb (.slice (some ⟨g5, 0, none⟩) (s.ops.length + 1) cap5) ((s.ops.length + 1 : Nat) : Int) W6.heap.size (holdAll (letV s) s.wait).fuse (holdAll (letV s) s.wait).stopped (holdAll (letV s) s.wait).made (holdAll (letV s) s.wait).reads (holdAll (letV s) s.wait).claims (holdAll (letV s) s.wait).claimed := by
          rw [← hn1]
          rfl
        rw [e1, e2]
        exact hR7
      have hG7 : Hid (Goes w W7 L ⟨L.d, L.hb, W6.heap.size, .slice (some ⟨g5, 0, none⟩) (s.ops.length + 1) cap5⟩) := by
        refine hG.trans (Goes.of (T := fun i => L.hv.ownBlock = some i ∨ i = L.d) rfl (fun i hi => ?_) (hF6.trans (hF7.mono fun i _ q => .inr q) fun i _ q => q) fun i _ q => ?_)
        · rcases hi with q | q | q | q
          · exact .inl (.inl q)
          · exact .inl (.inr (.inl q))
          · have q' : i = W6.heap.size := q
            have := hF6.size
            exact .inr (by omega)
          · rcases hw5' i q with q | q
            · exact .inl (.inr (.inr (.inr q)))
            · exact .inr q
        · rcases q with q | q
          · exact .inr (.inr (.inr q))
          · exact .inl q
      clear hR7 hrow7 hM7 hF7 hR6 hF6 hF5 hD hG hw5' hok hn1
      go_wp2
      go_ret
      exact ⟨rfl, _, hD7.out, hG7.out⟩
end Go.Proofs.Ytembocfghkmieaa
/- Crash: of what is pending that is held which is kept, in order; nothing is pending then, there is no fuse, nobody's claim; for every disk and every choice. -/
namespace Go.Proofs.Ytembocfghkmieaa
open Go.RowKit
variable {w : World} {L : Loc} {s : St}

/-- v is a list of bools in memory. -/
def BoolsAt (w : World) (v : Value) (l : List Bool) : Prop := ∃ p c, v = .slice p l.length c ∧ (0 < l.length → ∃ b off, p = some ⟨b, off, none⟩ ∧ ∀ i x, l[i]? = some x → w.cell? ⟨b, off + i, none⟩ = some (.bool x))
theorem BoolsAt.kept {w w' : World} {v : Value} {l : List Bool} {T : Nat → Prop} (h : BoolsAt w v l) (hf : Fr T w w') (hT : ∀ b x off, w.cell? ⟨b, off, none⟩ = some (.bool x) → ¬ T b) : BoolsAt w' v l := by
  obtain ⟨p, c, h1, h2⟩ := h
  refine ⟨p, c, h1, fun hl => ?_⟩
  obtain ⟨b, off, h3, h4⟩ := h2 hl
  refine ⟨b, off, h3, fun i x hx => ?_⟩
  have h5 := h4 i x hx
  have hlt : b < w.heap.size := by
    by_cases q : b < w.heap.size
    · exact q
    · unfold World.cell? at h5
      simp only [Array.getElem?_eq_none (show w.heap.size ≤ b by omega)] at h5
      simp at h5
  rw [← h5]
  exact World.cell?_of_block (hf.block b hlt (hT b x _ h5))
/-- Those that are kept. -/
def keptL : List Cel → List Bool → List Cel
  | c :: t, true :: k => c :: keptL t k
  | _ :: t, false :: k => keptL t k
  | _, _ => []
theorem keptL_snoc (c : Cel) (b : Bool) : ∀ (l : List Cel) (k : List Bool), l.length = k.length → keptL (l ++ [c]) (k ++ [b]) = keptL l k ++ (if b then [c] else [])
  | [], [], _ => by cases b <;> rfl
  | x :: l, y :: k, h => by
    have ih := keptL_snoc c b l k (by simpa using h)
    cases y
    · exact ih
    · show x :: keptL (l ++ [c]) (k ++ [b]) = _
      rw [ih]; rfl
  | [], _ :: _, h => by simp at h
  | _ :: _, [], h => by simp at h
theorem keptL_take : ∀ (l : List Cel) (k : List Bool) (n : Nat), l.length ≤ n ∨ k.length ≤ n → keptL (l.take n) (k.take n) = keptL l k
  | [], k, n, _ => by simp [keptL]
  | x :: l, [], n, _ => by cases n <;> simp [keptL]
  | x :: l, y :: k, 0, h => by simp at h
  | x :: l, y :: k, n + 1, h => by
    have ih := keptL_take l k n (by simpa using h)
    cases y
    · exact ih
    · show x :: keptL (l.take n) (k.take n) = x :: keptL l k
      rw [ih]
/-- Behind the power's going. -/
def crashS (s : St) (k : List Bool) : St := { holdAll s (keptL s.wait k) with done := [], wait := [], fuse := -1, stopped := false, claimed := false }
theorem crashS_ok {k : List Bool} (h : Ok (holdAll s (keptL s.wait k))) : Ok (crashS s k) :=
  ⟨h.n, h.held, fun c hc => by simp [crashS] at hc, ⟨by show (-1 : Int) ≤ -1; omega, by show (-1 : Int) ≤ _; omega⟩, h.made, h.reads, h.claims⟩
set_option maxRecDepth 20000 in
theorem crash_none {v : Value} (h : NoneAt w v) (kv : Value) : Calls Try.prog 35 #[v, kv] w fun e w' => e = .returned (.int .i64 1) ∧ w' = w := by
  go_enter Try.func35, Try.ntmps35
  go_wp2_with (first | (go_at_call 64; refine (none_yes h).mono ?_; rintro e W ⟨rfl, rfl⟩))
  go_ret
  exact ⟨rfl, rfl⟩
theorem bool_no_map {w : World} {b hb off : Nat} {m : Int → Option Value} {x : Bool} (h : w.cell? ⟨b, off, none⟩ = some (.bool x)) (hm : MapIs Try.prog 3 w hb m) : b ≠ hb := fun e => by
  obtain ⟨es, ck, hh⟩ := hm.isMap
  rw [e] at h
  unfold World.cell? at h
  simp only [hh] at h
  simp at h
set_option maxRecDepth 20000 in
set_option maxHeartbeats 2000000 in
theorem crash_of (h : DiskAt w L s) {kv : Value} {kl : List Bool} (hkv : BoolsAt w kv kl) (hwl : s.wait.length < 68719476736) (hkl : kl.length < 9223372036854775807) :
    Calls Try.prog 35 #[.pointer (some ⟨L.d, 0, none⟩), kv] w fun e w' => e = .returned (.int .i64 0) ∧ ∃ L', DiskAt w' L' (crashS s kl) ∧ Goes w w' L L' := by
  have h0 := h.c0
  have hP := pending_of h
  obtain ⟨p, cp, hp1, hp2, hp3⟩ := h.pend
  rw [hp1] at hP
  obtain ⟨q, cq, rfl, hq⟩ := hkv
  have HD : Hid (DiskAt w.drew L s) := h.fr (Fr.drew (T := fun _ => False) w) fun _ _ q => q
  have HG2 : Hid (Goes w w.drew L L) := ⟨rfl, fun _ q => .inl q, Fr.drew w⟩
  have HP : Hid (0 < s.wait.length → ∃ g, L.hv.ownBlock = some g ∧ p = some ⟨g, s.done.length * 1026, none⟩) := hp3
  have HK : Hid (0 < kl.length → ∃ b off, q = some ⟨b, off, none⟩ ∧ ∀ i x, kl[i]? = some x → w.cell? ⟨b, off + i, none⟩ = some (.bool x)) := hq
  have hM := h.held
  clear h hp1 hp3 hq
  generalize hm : s.wait.length = m at *
  generalize hn : kl.length = n at *
  rcases Nat.lt_or_ge n m with hmn | hmn
  · have hmn' : (n : Int) < m := by omega
    go_enter Try.func35, Try.ntmps35
    go_wp2_with (first | (go_at_call 64; refine (none_no h0).mono ?_; rintro e W ⟨rfl, he⟩; obtain rfl := he.symm) | (go_at_call 68; refine hP.mono ?_; rintro e W1 ⟨rfl, rfl⟩))
    clear hP
    generalize hV : w.drew = V at *
    go_loopw [16] (fun s16 wx => ∃ k : Nat, k ≤ n ∧ s16 = .int .i64 k ∧ Hid (DiskAt wx L (holdAll s (keptL (s.wait.take k) (kl.take k)))) ∧ Hid (Goes w wx L L) ∧ Hid (Fr (fun i => i = L.hb) w wx)) (fun s16 _ => n - (intOf s16).toNat)
    case atStart => exact ⟨0, by omega, rfl, HD.out, HG2.out, by rw [← hV]; exact Fr.drew w⟩
    case round =>
      obtain ⟨k, hk, rfl, HDk, HGk, HFk⟩ := hrel
      by_cases hk2 : (k : Int) < n
      · have hkw : k < s.wait.length := by omega
        have hkk : k < kl.length := by omega
        have hkm : (k : Int) < (m : Int) := by omega
        have hkn : (k : Int) < (n : Int) := by omega
        obtain ⟨g, hg, rfl⟩ := HP.out (by omega)
        obtain ⟨b, off, rfl, hcell⟩ := HK.out (by omega)
        have hc : s.wait[k]? = some s.wait[k] := List.getElem?_eq_getElem hkw
        have hx : kl[k]? = some kl[k] := List.getElem?_eq_getElem hkk
        generalize s.wait[k] = c at hc
        generalize kl[k] = x at hx
        have hcx := hcell k x hx
        have hbl : b ≠ L.hb := bool_no_map hcx hM
        have hblt : b < w.heap.size := by
          by_cases q : b < w.heap.size
          · exact q
          · unfold World.cell? at hcx
            simp only [Array.getElem?_eq_none (show w.heap.size ≤ b by omega)] at hcx
            simp at hcx
        have hcx' : wr.cell? ⟨b, off + k, none⟩ = some (.bool x) := (World.cell?_of_block (HFk.out.block b hblt hbl)).trans hcx
        have hks := keptL_snoc c x (s.wait.take k) (kl.take k) (by rw [List.length_take, List.length_take]; omega)
        rw [← take_snoc hc, ← show kl.take (k + 1) = kl.take k ++ [x] by rw [List.take_add_one, hx]; rfl] at hks
        have hop : (holdAll s (keptL (s.wait.take k) (kl.take k))).ops[s.done.length + k]? = some (wrec c) := by rw [holdAll_ops]; exact ops_wait s hc
        have HDd : DiskAt wr.drew L (holdAll s (keptL (s.wait.take k) (kl.take k))) := HDk.out.fr (Fr.drew (T := fun _ => False) wr) fun _ _ q => q
        have hpos := HDk.out.histPos hg hop
        have hblk := HDd.histBlk hg hop
        have hcw := HDd.ok.wait c (by rw [holdAll_wait]; exact List.mem_of_getElem? hc)
        rw [holdAll_n] at hcw
        have HH := hold_of HDd (by rw [holdAll_n]; exact hcw.1) hcw.2 hblk
        have e1 : (s.done.length + k) * 1026 = s.done.length * 1026 + k * 1026 := Nat.add_mul _ _ _
        rw [e1] at hpos HH
        have hpos' : wr.cell? ⟨g, s.done.length * 1026 + k * 1026 + 1, none⟩ = some (.int .i64 c.1) := hpos
        cases x
        · rw [if_neg (by simp), List.append_nil] at hks
          have HD2 : Hid (DiskAt wr L (holdAll s (keptL (s.wait.take (k + 1)) (kl.take (k + 1))))) := hks ▸ HDk.out
          clear HH hpos hblk hop hc hx e1 HDk hcw HDd hks hcx hcell
          go_wp2
          exact ⟨⟨k + 1, by omega, by go_num, HD2.out, HGk.out, HFk.out⟩, by simp [intOf]; omega⟩
        · rw [if_pos rfl] at hks
          rw [← holdAll_snoc, ← hks] at HH
          have HH2 : Hid (Calls Try.prog 61 #[.pointer (some ⟨L.d, 0, none⟩), .int .i64 c.1, .pointer (some ⟨g, s.done.length * 1026 + k * 1026 + 2, none⟩)] wr.drew fun e w' => e = .returned (.tuple #[]) ∧ DiskAt w' L (holdAll s (keptL (s.wait.take (k + 1)) (kl.take (k + 1)))) ∧ Goes w w' L L ∧ Fr (fun i => i = L.hb) w w') :=
            Calls.mono HH fun e w' ⟨h1, h2, h3⟩ => ⟨h1, h2, (HGk.out.trans ⟨rfl, fun _ q => .inl q, Fr.drew wr⟩).trans (Goes.hold h3), (HFk.out.trans (Fr.drew wr) fun _ _ q => q).trans h3 fun _ _ q => q⟩
          generalize s.done.length * 1026 = D at *
          clear HH hpos hblk hop hc hx e1 HDk hcw HDd HGk hks hcx hcell HFk
          go_wp2
          go_still_tail 10, (by kernel_rfl)
          change wpList _ _ _ _ _ (World.drew _)
          go_wp2_with (go_at_call 61; fail)
          refine HH2.out.mono ?_
          rintro e W2 ⟨rfl, hD2, hG2, hF2⟩
          have HD2 : Hid (DiskAt W2 L (holdAll s (keptL (s.wait.take (k + 1)) (kl.take (k + 1))))) := hD2
          have HG3 : Hid (Goes w W2 L L) := hG2
          have HF3 : Hid (Fr (fun i => i = L.hb) w W2) := hF2
          clear hD2 hG2 HH2 hF2
          go_wp2
          exact ⟨⟨k + 1, by omega, by go_num, HD2.out, HG3.out, HF3.out⟩, by simp [intOf]; omega⟩
      · obtain rfl : k = n := by omega
        have hD := HDk.out
        rw [keptL_take _ _ _ (by omega)] at hD
        have hG := HGk.out
        clear HDk HGk HP HK HFk
        have hok := crashS_ok (k := kl) hD.ok
        have k3 := hD.c3
        have f3 := hD.free 3
        obtain ⟨p', c', h1, _⟩ := hD.shape
        rw [h1] at k3
        have hR6 : RawAt (wr.setCell ⟨L.d, 3, none⟩ (.slice none 0 0)) ⟨L.d, L.hb, L.lb, .slice none 0 0⟩ ((dkRow L (holdAll s (keptL s.wait kl))).setIfInBounds 3 (.slice none 0 0)) (heldV (holdAll s (keptL s.wait kl))) (lateV (holdAll s (keptL s.wait kl))) [] := by
          have hr := hD.raw.cell 3 (.slice none 0 0)
          exact ⟨hr.row, hr.held, hr.late, World.ownsRow_nil _ 0 108 1026, hr.ne⟩
        have hF6 : Fr (fun i => i = L.d) wr (wr.setCell ⟨L.d, 3, none⟩ (.slice none 0 0)) := Fr.setCell wr L.d 3 _
        clear hD
        go_wp2_with (go_at_call 72; fail)
        generalize wr.setCell ⟨L.d, 3, none⟩ (.slice none 0 0) = W6 at *
        refine (nothing_of (d := L.d) (n := (holdAll s (keptL s.wait kl)).n) (hb := L.hb) (p := none) (m := 0) (c := 0) (bh := ((holdAll s (keptL s.wait kl)).done.length : Int)) (lb := L.lb) (fu := (holdAll s (keptL s.wait kl)).fuse) (st := (holdAll s (keptL s.wait kl)).stopped) (ma := (holdAll s (keptL s.wait kl)).made) (re := (holdAll s (keptL s.wait kl)).reads) (cl := (holdAll s (keptL s.wait kl)).claims) (cd := (holdAll s (keptL s.wait kl)).claimed) hR6.row).mono ?_
        rintro e W7 ⟨rfl, hrow7, hM7, hF7⟩
        have hlb : L.hb < W6.heap.size := hR6.held.lt
        have hR7 := (hR6.rowTo hrow7 hF7).lateNew (b := W6.heap.size) (by show L.hb ≠ _; omega) hM7
        have c6 : W7.cell? ⟨L.d, 6, none⟩ = some (.int .i64 (holdAll s (keptL s.wait kl)).fuse) := Joins.cell_of_block hrow7 6
        have c7 : W7.cell? ⟨L.d, 7, none⟩ = some (.bool (holdAll s (keptL s.wait kl)).stopped) := Joins.cell_of_block hrow7 7
        have c11 : W7.cell? ⟨L.d, 11, none⟩ = some (.bool (holdAll s (keptL s.wait kl)).claimed) := Joins.cell_of_block hrow7 11
        have f6 : W7.frozen? ⟨L.d, 6, none⟩ = false := Joins.unfrozen_of_block hrow7 6
        have f7 : W7.frozen? ⟨L.d, 7, none⟩ = false := Joins.unfrozen_of_block hrow7 7
        have f11 : W7.frozen? ⟨L.d, 11, none⟩ = false := Joins.unfrozen_of_block hrow7 11
        have hD8 : Hid (DiskAt (((W7.setCell ⟨L.d, 6, none⟩ (.int .i64 (-1))).setCell ⟨L.d, 7, none⟩ (.bool false)).setCell ⟨L.d, 11, none⟩ (.bool false)) ⟨L.d, L.hb, W6.heap.size, .slice none 0 0⟩ (crashS s kl)) :=
          RawAt.disk (((hR7.cell 6 (.int .i64 (-1))).cell 7 (.bool false)).cell 11 (.bool false)) hok
        have hF8 : Fr (fun i => i = L.d) wr (((W7.setCell ⟨L.d, 6, none⟩ (.int .i64 (-1))).setCell ⟨L.d, 7, none⟩ (.bool false)).setCell ⟨L.d, 11, none⟩ (.bool false)) :=
          (hF6.trans hF7 fun _ _ q => q).trans (((Fr.setCell _ L.d 6 _).trans (Fr.setCell _ L.d 7 _) fun _ _ q => q).trans (Fr.setCell _ L.d 11 _) fun _ _ q => q) fun _ _ q => q
        have hG8 : Hid (Goes w (((W7.setCell ⟨L.d, 6, none⟩ (.int .i64 (-1))).setCell ⟨L.d, 7, none⟩ (.bool false)).setCell ⟨L.d, 11, none⟩ (.bool false)) L ⟨L.d, L.hb, W6.heap.size, .slice none 0 0⟩) := by
          refine hG.trans (Goes.of (T := fun i => i = L.d) rfl (fun i hi => ?_) hF8 fun i _ q => .inl q)
          rcases hi with q | q | q | q
          · exact .inl (.inl q)
          · exact .inl (.inr (.inl q))
          · have q' : i = W6.heap.size := q
            have := hF6.size
            exact .inr (by omega)
          · simp [Value.ownBlock] at q
        clear hR7 hrow7 hM7 hF7 hR6 hF6 hG hok hF8
        go_wp2
        go_ret
        exact ⟨rfl, _, hD8.out, hG8.out⟩
  · have hmn' : (m : Int) ≤ n := by omega
    go_enter Try.func35, Try.ntmps35
    go_wp2_with (first | (go_at_call 64; refine (none_no h0).mono ?_; rintro e W ⟨rfl, he⟩; obtain rfl := he.symm) | (go_at_call 68; refine hP.mono ?_; rintro e W1 ⟨rfl, rfl⟩))
    clear hP
    generalize hV : w.drew = V at *
    go_loopw [16] (fun s16 wx => ∃ k : Nat, k ≤ m ∧ s16 = .int .i64 k ∧ Hid (DiskAt wx L (holdAll s (keptL (s.wait.take k) (kl.take k)))) ∧ Hid (Goes w wx L L) ∧ Hid (Fr (fun i => i = L.hb) w wx)) (fun s16 _ => m - (intOf s16).toNat)
    case atStart => exact ⟨0, by omega, rfl, HD.out, HG2.out, by rw [← hV]; exact Fr.drew w⟩
    case round =>
      obtain ⟨k, hk, rfl, HDk, HGk, HFk⟩ := hrel
      by_cases hk2 : (k : Int) < m
      · have hkw : k < s.wait.length := by omega
        have hkk : k < kl.length := by omega
        have hkm : (k : Int) < (m : Int) := by omega
        have hkn : (k : Int) < (n : Int) := by omega
        obtain ⟨g, hg, rfl⟩ := HP.out (by omega)
        obtain ⟨b, off, rfl, hcell⟩ := HK.out (by omega)
        have hc : s.wait[k]? = some s.wait[k] := List.getElem?_eq_getElem hkw
        have hx : kl[k]? = some kl[k] := List.getElem?_eq_getElem hkk
        generalize s.wait[k] = c at hc
        generalize kl[k] = x at hx
        have hcx := hcell k x hx
        have hbl : b ≠ L.hb := bool_no_map hcx hM
        have hblt : b < w.heap.size := by
          by_cases q : b < w.heap.size
          · exact q
          · unfold World.cell? at hcx
            simp only [Array.getElem?_eq_none (show w.heap.size ≤ b by omega)] at hcx
            simp at hcx
        have hcx' : wr.cell? ⟨b, off + k, none⟩ = some (.bool x) := (World.cell?_of_block (HFk.out.block b hblt hbl)).trans hcx
        have hks := keptL_snoc c x (s.wait.take k) (kl.take k) (by rw [List.length_take, List.length_take]; omega)
        rw [← take_snoc hc, ← show kl.take (k + 1) = kl.take k ++ [x] by rw [List.take_add_one, hx]; rfl] at hks
        have hop : (holdAll s (keptL (s.wait.take k) (kl.take k))).ops[s.done.length + k]? = some (wrec c) := by rw [holdAll_ops]; exact ops_wait s hc
        have HDd : DiskAt wr.drew L (holdAll s (keptL (s.wait.take k) (kl.take k))) := HDk.out.fr (Fr.drew (T := fun _ => False) wr) fun _ _ q => q
        have hpos := HDk.out.histPos hg hop
        have hblk := HDd.histBlk hg hop
        have hcw := HDd.ok.wait c (by rw [holdAll_wait]; exact List.mem_of_getElem? hc)
        rw [holdAll_n] at hcw
        have HH := hold_of HDd (by rw [holdAll_n]; exact hcw.1) hcw.2 hblk
        have e1 : (s.done.length + k) * 1026 = s.done.length * 1026 + k * 1026 := Nat.add_mul _ _ _
        rw [e1] at hpos HH
        have hpos' : wr.cell? ⟨g, s.done.length * 1026 + k * 1026 + 1, none⟩ = some (.int .i64 c.1) := hpos
        cases x
        · rw [if_neg (by simp), List.append_nil] at hks
          have HD2 : Hid (DiskAt wr L (holdAll s (keptL (s.wait.take (k + 1)) (kl.take (k + 1))))) := hks ▸ HDk.out
          clear HH hpos hblk hop hc hx e1 HDk hcw HDd hks hcx hcell
          go_wp2
          exact ⟨⟨k + 1, by omega, by go_num, HD2.out, HGk.out, HFk.out⟩, by simp [intOf]; omega⟩
        · rw [if_pos rfl] at hks
          rw [← holdAll_snoc, ← hks] at HH
          have HH2 : Hid (Calls Try.prog 61 #[.pointer (some ⟨L.d, 0, none⟩), .int .i64 c.1, .pointer (some ⟨g, s.done.length * 1026 + k * 1026 + 2, none⟩)] wr.drew fun e w' => e = .returned (.tuple #[]) ∧ DiskAt w' L (holdAll s (keptL (s.wait.take (k + 1)) (kl.take (k + 1)))) ∧ Goes w w' L L ∧ Fr (fun i => i = L.hb) w w') :=
            Calls.mono HH fun e w' ⟨h1, h2, h3⟩ => ⟨h1, h2, (HGk.out.trans ⟨rfl, fun _ q => .inl q, Fr.drew wr⟩).trans (Goes.hold h3), (HFk.out.trans (Fr.drew wr) fun _ _ q => q).trans h3 fun _ _ q => q⟩
          generalize s.done.length * 1026 = D at *
          clear HH hpos hblk hop hc hx e1 HDk hcw HDd HGk hks hcx hcell HFk
          go_wp2
          go_still_tail 10, (by kernel_rfl)
          change wpList _ _ _ _ _ (World.drew _)
          go_wp2_with (go_at_call 61; fail)
          refine HH2.out.mono ?_
          rintro e W2 ⟨rfl, hD2, hG2, hF2⟩
          have HD2 : Hid (DiskAt W2 L (holdAll s (keptL (s.wait.take (k + 1)) (kl.take (k + 1))))) := hD2
          have HG3 : Hid (Goes w W2 L L) := hG2
          have HF3 : Hid (Fr (fun i => i = L.hb) w W2) := hF2
          clear hD2 hG2 HH2 hF2
          go_wp2
          exact ⟨⟨k + 1, by omega, by go_num, HD2.out, HG3.out, HF3.out⟩, by simp [intOf]; omega⟩
      · obtain rfl : k = m := by omega
        have hD := HDk.out
        rw [keptL_take _ _ _ (by omega)] at hD
        have hG := HGk.out
        clear HDk HGk HP HK HFk
        have hok := crashS_ok (k := kl) hD.ok
        have k3 := hD.c3
        have f3 := hD.free 3
        obtain ⟨p', c', h1, _⟩ := hD.shape
        rw [h1] at k3
        have hR6 : RawAt (wr.setCell ⟨L.d, 3, none⟩ (.slice none 0 0)) ⟨L.d, L.hb, L.lb, .slice none 0 0⟩ ((dkRow L (holdAll s (keptL s.wait kl))).setIfInBounds 3 (.slice none 0 0)) (heldV (holdAll s (keptL s.wait kl))) (lateV (holdAll s (keptL s.wait kl))) [] := by
          have hr := hD.raw.cell 3 (.slice none 0 0)
          exact ⟨hr.row, hr.held, hr.late, World.ownsRow_nil _ 0 108 1026, hr.ne⟩
        have hF6 : Fr (fun i => i = L.d) wr (wr.setCell ⟨L.d, 3, none⟩ (.slice none 0 0)) := Fr.setCell wr L.d 3 _
        clear hD
        go_wp2_with (go_at_call 72; fail)
        generalize wr.setCell ⟨L.d, 3, none⟩ (.slice none 0 0) = W6 at *
        refine (nothing_of (d := L.d) (n := (holdAll s (keptL s.wait kl)).n) (hb := L.hb) (p := none) (m := 0) (c := 0) (bh := ((holdAll s (keptL s.wait kl)).done.length : Int)) (lb := L.lb) (fu := (holdAll s (keptL s.wait kl)).fuse) (st := (holdAll s (keptL s.wait kl)).stopped) (ma := (holdAll s (keptL s.wait kl)).made) (re := (holdAll s (keptL s.wait kl)).reads) (cl := (holdAll s (keptL s.wait kl)).claims) (cd := (holdAll s (keptL s.wait kl)).claimed) hR6.row).mono ?_
        rintro e W7 ⟨rfl, hrow7, hM7, hF7⟩
        have hlb : L.hb < W6.heap.size := hR6.held.lt
        have hR7 := (hR6.rowTo hrow7 hF7).lateNew (b := W6.heap.size) (by show L.hb ≠ _; omega) hM7
        have c6 : W7.cell? ⟨L.d, 6, none⟩ = some (.int .i64 (holdAll s (keptL s.wait kl)).fuse) := Joins.cell_of_block hrow7 6
        have c7 : W7.cell? ⟨L.d, 7, none⟩ = some (.bool (holdAll s (keptL s.wait kl)).stopped) := Joins.cell_of_block hrow7 7
        have c11 : W7.cell? ⟨L.d, 11, none⟩ = some (.bool (holdAll s (keptL s.wait kl)).claimed) := Joins.cell_of_block hrow7 11
        have f6 : W7.frozen? ⟨L.d, 6, none⟩ = false := Joins.unfrozen_of_block hrow7 6
        have f7 : W7.frozen? ⟨L.d, 7, none⟩ = false := Joins.unfrozen_of_block hrow7 7
        have f11 : W7.frozen? ⟨L.d, 11, none⟩ = false := Joins.unfrozen_of_block hrow7 11
        have hD8 : Hid (DiskAt (((W7.setCell ⟨L.d, 6, none⟩ (.int .i64 (-1))).setCell ⟨L.d, 7, none⟩ (.bool false)).setCell ⟨L.d, 11, none⟩ (.bool false)) ⟨L.d, L.hb, W6.heap.size, .slice none 0 0⟩ (crashS s kl)) :=
          RawAt.disk (((hR7.cell 6 (.int .i64 (-1))).cell 7 (.bool false)).cell 11 (.bool false)) hok
        have hF8 : Fr (fun i => i = L.d) wr (((W7.setCell ⟨L.d, 6, none⟩ (.int .i64 (-1))).setCell ⟨L.d, 7, none⟩ (.bool false)).setCell ⟨L.d, 11, none⟩ (.bool false)) :=
          (hF6.trans hF7 fun _ _ q => q).trans (((Fr.setCell _ L.d 6 _).trans (Fr.setCell _ L.d 7 _) fun _ _ q => q).trans (Fr.setCell _ L.d 11 _) fun _ _ q => q) fun _ _ q => q
        have hG8 : Hid (Goes w (((W7.setCell ⟨L.d, 6, none⟩ (.int .i64 (-1))).setCell ⟨L.d, 7, none⟩ (.bool false)).setCell ⟨L.d, 11, none⟩ (.bool false)) L ⟨L.d, L.hb, W6.heap.size, .slice none 0 0⟩) := by
          refine hG.trans (Goes.of (T := fun i => i = L.d) rfl (fun i hi => ?_) hF8 fun i _ q => .inl q)
          rcases hi with q | q | q | q
          · exact .inl (.inl q)
          · exact .inl (.inr (.inl q))
          · have q' : i = W6.heap.size := q
            have := hF6.size
            exact .inr (by omega)
          · simp [Value.ownBlock] at q
        clear hR7 hrow7 hM7 hF7 hR6 hF6 hG hok hF8
        go_wp2
        go_ret
        exact ⟨rfl, _, hD8.out, hG8.out⟩
end Go.Proofs.Ytembocfghkmieaa
/- Pending and History: what is pending, and all that was done, in new memory; for every disk. -/
namespace Go.Proofs.Ytembocfghkmieaa
open Go.RowKit
variable {w : World} {L : Loc} {s : St}

/-- n numbers in a row. -/
def iRow (f : Nat → Int) (n : Nat) : Array Value := ((List.range n).map fun i => Value.int .i64 (f i)).toArray
theorem iRow_size (f : Nat → Int) (n : Nat) : (iRow f n).size = n := by simp [iRow]
theorem iRow_get (f : Nat → Int) (n i : Nat) (h : i < n) : (iRow f n)[i]? = some (.int .i64 (f i)) := by simp [iRow, h]
theorem iRow_set (f : Nat → Int) (n i : Nat) (x : Int) : (iRow f n).setIfInBounds i (.int .i64 x) = iRow (upd f i x) n := by
  apply Array.ext_getElem?
  intro j
  by_cases hj : j < n
  · rw [iRow_get _ _ _ hj, Array.getElem?_setIfInBounds]
    by_cases e : i = j
    · subst e; simp [iRow_size, hj, upd]
    · have e' : ¬ j = i := fun q => e q.symm
      simp [e, e', iRow_get _ _ _ hj, upd]
  · rw [Array.getElem?_eq_none (by rw [Array.size_setIfInBounds, iRow_size]; omega), Array.getElem?_eq_none (by rw [iRow_size]; omega)]
theorem info3b : (Try.prog.info? 3).map (fun i => (i.zero, i.size, i.bytes)) = some (some (.int .i64 0), 1, 8) := by kernel_rfl
theorem made_ints (n : Nat) : madeCells #[.int .i64 0] n = iRow nought n := by
  apply Array.ext_getElem?
  intro j
  by_cases hj : j < n
  · rw [iRow_get _ _ _ hj]
    simp [madeCells, hj, nought, Nat.mod_one]
  · rw [Array.getElem?_eq_none (by simp [madeCells]; omega), Array.getElem?_eq_none (by rw [iRow_size]; omega)]
theorem run_make65 (u : World) (n : Nat) (hn : n * 8 ≤ 281474976710656) :
    (Instr.makeSlice 65 (.int .i64 (n : Int)) (.int .i64 (n : Int))).run Try.prog u = .ok (.slice (some ⟨u.heap.size, 0, none⟩) n n) (u.alloc (.cells (iRow nought n) 3)) := by
  obtain ⟨i0, hi0, hz0, hz1, hz2⟩ := info_parts info3b
  have h := run_make (P := Try.prog) u 65 3 i0 (.int .i64 0) Try.underlying65 hi0 hz0 .i64 .i64 n n (by omega) (Int.le_refl _) (by rw [hz2]; omega) (by omega)
  rw [Int.toNat_natCast, hz1] at h
  rw [h]
  simp [Value.cells, made_ints]
def posF (l : List Cel) (i : Nat) : Int := match l[i]? with
  | some c => c.1
  | none => 0
def firstI (f : Nat → Int) (k : Nat) : Nat → Int := fun i => if i < k then f i else 0
theorem firstI_next (f : Nat → Int) (k : Nat) : upd (firstI f k) k (f k) = firstI f (k + 1) := firsts_next f k
theorem iRow_congr {f g : Nat → Int} {n : Nat} (h : ∀ i, i < n → f i = g i) : iRow f n = iRow g n := by
  apply Array.ext_getElem?
  intro j
  by_cases hj : j < n
  · rw [iRow_get _ _ _ hj, iRow_get _ _ _ hj, h j hj]
  · rw [Array.getElem?_eq_none (by rw [iRow_size]; omega), Array.getElem?_eq_none (by rw [iRow_size]; omega)]
set_option maxRecDepth 20000 in
theorem pend_none {v : Value} (h : NoneAt w v) : Calls Try.prog 25 #[v] w fun e w' => e = .returned (.slice none 0 0) ∧ w' = w := by
  go_enter Try.func25, Try.ntmps25
  go_wp2_with (first | (go_at_call 64; refine (none_yes h).mono ?_; rintro e W ⟨rfl, rfl⟩))
  go_ret
  exact ⟨rfl, rfl⟩
set_option maxRecDepth 20000 in
set_option maxHeartbeats 1000000 in
theorem pend_of (h : DiskAt w L s) (hwl : s.wait.length < 68719476736) :
    Calls Try.prog 25 #[.pointer (some ⟨L.d, 0, none⟩)] w fun e w' => e = .returned (.slice (some ⟨w.heap.size, 0, none⟩) s.wait.length s.wait.length) ∧ w'.heap[w.heap.size]? = some (.cells (iRow (posF s.wait) s.wait.length) 3) ∧ Below w.heap.size w w' := by
  have h0 := h.c0
  have hP := pending_of h
  obtain ⟨p, cp, hp1, hp2, hp3⟩ := h.pend
  rw [hp1] at hP
  have HP : Hid (0 < s.wait.length → ∃ g, L.hv.ownBlock = some g ∧ p = some ⟨g, s.done.length * 1026, none⟩) := hp3
  have HD : Hid (DiskAt w L s) := h
  clear h hp1 hp3
  generalize hm : s.wait.length = m at *
  have hmk := fun u => run_make65 u m (by omega)
  go_enter Try.func25, Try.ntmps25
  go_wp2_with (first | (go_at_call 64; refine (none_no h0).mono ?_; rintro e W ⟨rfl, he⟩; obtain rfl := he.symm) | (go_at_call 68; refine hP.mono ?_; rintro e W1 ⟨rfl, rfl⟩))
  have hS : Hid ((w.alloc (.cells (iRow nought m) 3)).drew.heap[w.heap.size]? = some (.cells (iRow (firstI (posF s.wait) 0) m) 3)) := by
    rw [show iRow (firstI (posF s.wait) 0) m = iRow nought m from iRow_congr fun i _ => by simp [firstI, nought]]
    exact heap_alloc_new w _
  have hB : Hid (Below w.heap.size w (w.alloc (.cells (iRow nought m) 3)).drew) := (below_new w _).drew
  clear hP hmk
  generalize (w.alloc (.cells (iRow nought m) 3)).drew = V at *
  go_loopw [15] (fun s15 wx => ∃ k : Nat, k ≤ m ∧ s15 = .int .i64 k ∧ Hid (wx.heap[w.heap.size]? = some (.cells (iRow (firstI (posF s.wait) k) m) 3)) ∧ Hid (Below w.heap.size w wx)) (fun s15 _ => m - (intOf s15).toNat)
  case atStart => exact ⟨0, by omega, rfl, hS.out, hB.out⟩
  case round =>
    obtain ⟨k, hk, rfl, HS, HB⟩ := hrel
    clear hS hB
    by_cases hk2 : (k : Int) < m
    · have hkl : k < s.wait.length := by omega
      obtain ⟨g, hg, rfl⟩ := HP.out (by omega)
      have hc : s.wait[k]? = some s.wait[k] := List.getElem?_eq_getElem hkl
      generalize s.wait[k] = c at hc
      have hpos := (HD.out.later HB.out).histPos hg (ops_wait s hc)
      have e1 : (s.done.length + k) * 1026 = s.done.length * 1026 + k * 1026 := Nat.add_mul _ _ _
      rw [e1] at hpos
      have hpf : posF s.wait k = c.1 := by unfold posF; rw [hc]
      have hpos' : wr.cell? ⟨g, s.done.length * 1026 + k * 1026 + 1, none⟩ = some (.int .i64 c.1) := hpos
      have ck : wr.cell? ⟨w.heap.size, k, none⟩ = some (.int .i64 (firstI (posF s.wait) k k)) := (Joins.cell_of_block HS.out k).trans (iRow_get _ _ _ (by omega))
      have fk : wr.frozen? ⟨w.heap.size, k, none⟩ = false := Joins.unfrozen_of_block HS.out k
      have HS2 : Hid ((wr.setCell ⟨w.heap.size, k, none⟩ (.int .i64 c.1)).heap[w.heap.size]? = some (.cells (iRow (firstI (posF s.wait) (k + 1)) m) 3)) := by
        have q := Joins.block_setCell HS.out (i := k) (.int .i64 c.1)
        rw [iRow_set, ← hpf, firstI_next] at q
        rw [← hpf]
        exact q
      have HB2 : Hid (Below w.heap.size w (wr.setCell ⟨w.heap.size, k, none⟩ (.int .i64 c.1))) := HB.out.setCell (Nat.le_refl _) _
      generalize s.done.length * 1026 = D at *
      generalize firstI (posF s.wait) k k = X at ck
      clear HS HB hpos hc e1 hpf
      go_wp2
      exact ⟨⟨k + 1, by omega, by go_num, HS2.out, HB2.out⟩, by simp [intOf]; omega⟩
    · obtain rfl : k = m := by omega
      have HS2 : Hid (wr.heap[w.heap.size]? = some (.cells (iRow (posF s.wait) k) 3)) := by
        have q := HS.out
        rw [show iRow (firstI (posF s.wait) k) k = iRow (posF s.wait) k from iRow_congr fun i hi => by simp [firstI, hi]] at q
        exact q
      clear HS
      go_wp2
      go_ret
      exact ⟨rfl, HS2.out, HB.out⟩
theorem run_copy_wide {P : Program} (w : World) (dT sT ty elem : TypeId) (sz : Nat) (g o dLen dCap : Nat) (a : Addr) (sLen sCap : Nat) (cur : Array Value) (t : TypeId) (cs : List Value)
    (hu : P.underlying dT = some (.slice elem)) (hs : (P.info? elem).map (·.size) = some sz)
    (hg : w.heap[g]? = some (.cells cur t (0, 0))) (hn : cs.length = Nat.min sLen dLen * sz)
    (hsrc : ∀ j v, cs[j]? = some v → w.cell? (a.add j) = some v) (hfit : o + cs.length ≤ cur.size) (h1 : ∀ v ∈ cs, v.oneCell' = true) :
    (Builtin.copy_ #[dT, sT] ty #[.slice (some ⟨g, o, none⟩) dLen dCap, .slice (some a) sLen sCap]).run P w =
      .ok (goInt (Nat.min sLen dLen)) (w.setRow g (cur.toList.take o ++ cs ++ cur.toList.drop (o + cs.length)).toArray) := by
  have hl := run_loadCells_list (P := P) w a cs hsrc
  have hst := run_storeCells_at P g o t cs 0 cur w hg (by simpa using hfit) h1
  cases hq : P.info? elem with
  | none => simp [hq] at hs
  | some i =>
    have hi : i.size = sz := by simpa [hq] using hs
    simp [Builtin.copy_, run_underlying hu, Builtin.lenOf, Builtin.firstCells, sizeOf, typeInfo, hq, hi, ← hn, hl, hst]
theorem size108 : (Try.prog.info? 108).map (·.size) = some 1026 := by
  obtain ⟨i0, hi0, hz0, hz1, hz2⟩ := info_parts info108
  rw [hi0]
  exact congrArg some hz1
theorem run_make67 (u : World) (n : Nat) (hn : n * 1040 ≤ 281474976710656) :
    ∃ cur, cur.size = n * 1026 ∧ (Instr.makeSlice 67 (.int .i64 (n : Int)) (.int .i64 (n : Int))).run Try.prog u = .ok (.slice (some ⟨u.heap.size, 0, none⟩) n n) (u.alloc (.cells cur 108)) := by
  obtain ⟨i0, hi0, hz0, hz1, hz2⟩ := info_parts info108
  have h := run_make (P := Try.prog) u 67 108 i0 _ Try.underlying67 hi0 hz0 .i64 .i64 n n (by omega) (Int.le_refl _) (by rw [hz2]; omega) (by omega)
  rw [Int.toNat_natCast, hz1] at h
  exact ⟨_, by simp [madeCells], h⟩
set_option maxRecDepth 20000 in
theorem history_none {v : Value} (h : NoneAt w v) : Calls Try.prog 26 #[v] w fun e w' => e = .returned (.slice none 0 0) ∧ w' = w := by
  go_enter Try.func26, Try.ntmps26
  go_wp2_with (first | (go_at_call 64; refine (none_yes h).mono ?_; rintro e W ⟨rfl, rfl⟩))
  go_ret
  exact ⟨rfl, rfl⟩
theorem wpList_copyH {ops : Array Oper} {rest : List Oper} {o : Oper} {a : Act} {W W' : World} {Q : Exit → Act → World → Prop} (hgd : o.guard = none) (s x : Operand)
    (ho : o.op = .call { callee := .builtin .copy, args := #[s, x], argTypes := #[67, 67] }) (v v' : Value) (hs : a.eval s = v) (hx : a.eval x = v') (n : Nat)
    (hr : ∀ ty, (Builtin.copy_ #[67, 67] ty #[v, v']).run Try.prog W = .ok (goInt n) W') (h : wpList Try.prog ops Q rest (a.put o.dst (goInt n)) W') : wpList Try.prog ops Q (o :: rest) a W := by
  refine wpList_plain hgd fun K' hK' => ?_
  unfold Oper.wp
  simp [execOp, ho, resolve, invoke, builtin, hs, hx, hr, Result.andThen]
  exact hK' _ _ h
set_option maxRecDepth 20000 in
set_option maxHeartbeats 1000000 in
theorem history_of (h : DiskAt w L s) (hol : s.ops.length < 68719476736) :
    Calls Try.prog 26 #[.pointer (some ⟨L.d, 0, none⟩)] w fun e w' => e = .returned (.slice (some ⟨w.heap.size, 0, none⟩) s.ops.length s.ops.length) ∧ w'.heap[w.heap.size]? = some (.cells (opCells s.ops).toArray 108) ∧ Below w.heap.size w w' := by
  have h0 := h.c0
  have c3 := h.c3
  obtain ⟨p, c, h1, h2, h3, h4⟩ := h.shape
  rw [h1] at c3
  obtain ⟨cur, hcs, hmk⟩ := run_make67 w s.ops.length (by omega)
  have hnew := heap_alloc_new w (.cells cur 108)
  have hcl := opCells_len s.ops
  have hcopy : ∃ W', (∀ ty, (Builtin.copy_ #[67, 67] ty #[.slice (some ⟨w.heap.size, 0, none⟩) s.ops.length s.ops.length, .slice p s.ops.length c]).run Try.prog (w.alloc (.cells cur 108)) = .ok (goInt s.ops.length) W') ∧ W'.heap[w.heap.size]? = some (.cells (opCells s.ops).toArray 108) ∧ Below w.heap.size w W' := by
    rcases h4 with ⟨rfl, h5⟩ | ⟨g, rfl, h6, hlt⟩
    · have hn0 : s.ops.length = 0 := by omega
      refine ⟨w.alloc (.cells cur 108), fun ty => ?_, ?_, below_new w _⟩
      · have q := run_copy_nil (P := Try.prog) (w.alloc (.cells cur 108)) 67 67 ty 108 ⟨w.heap.size, 0, none⟩ s.ops.length s.ops.length Try.underlying67 (by rw [size108]; rfl)
        rw [hn0, h5] at *
        exact q
      · rw [hnew]
        have e1 : s.ops = [] := List.length_eq_zero_iff.1 hn0
        have e2 : cur = #[] := Array.size_eq_zero_iff.1 (by rw [hcs, hn0])
        rw [e1, e2]
        rfl
    · have hsrc : ∀ j v, (opCells s.ops)[j]? = some v → (w.alloc (.cells cur 108)).cell? ((⟨g, 0, none⟩ : Addr).add j) = some v := fun j v hv => by
        have q := h.hist.cells (g := g) (by rw [h1]; rfl) j v hv
        rw [Go.WideShapes.add_plain] at q ⊢
        rw [World.cell?_alloc_past _ _ _ hlt]
        exact q
      have h1c : ∀ v ∈ opCells s.ops, v.oneCell' = true := fun v hv => by
        obtain ⟨r, _, hr⟩ := List.mem_flatMap.1 hv
        exact recCells_one r v hr
      have q := fun ty => run_copy_wide (P := Try.prog) (w.alloc (.cells cur 108)) 67 67 ty 108 1026 w.heap.size 0 s.ops.length s.ops.length ⟨g, 0, none⟩ s.ops.length c cur 108 (opCells s.ops) Try.underlying67 size108 hnew (by rw [hcl]; exact congrArg (· * 1026) (Nat.min_self _).symm) hsrc (by rw [hcl, hcs]; omega) h1c
      have e3 : (cur.toList.take 0 ++ opCells s.ops ++ cur.toList.drop (0 + (opCells s.ops).length)).toArray = (opCells s.ops).toArray := by
        rw [List.take_zero, List.nil_append, List.drop_eq_nil_of_le (by rw [Array.length_toList, hcs, hcl]; omega), List.append_nil]
      rw [e3] at q
      refine ⟨_, fun ty => (q ty).trans (by rw [show Nat.min s.ops.length s.ops.length = s.ops.length from Nat.min_self _]), setRow_heap _ _ _ _ _ _ hnew, below_setRow (below_new w _) (Nat.le_refl _) _⟩
  obtain ⟨W', hr, hh, hb⟩ := hcopy
  have HH : Hid (W'.heap[w.heap.size]? = some (.cells (opCells s.ops).toArray 108)) := hh
  have HB : Hid (Below w.heap.size w W') := hb
  have hlt : L.d < w.heap.size := h.lt L.d (.inl rfl)
  have c3' : (w.alloc (.cells cur 108)).cell? ⟨L.d, 3, none⟩ = some (.slice p s.ops.length c) := by rw [World.cell?_alloc_past _ _ _ hlt]; exact c3
  clear h hh hb hnew hcl h4 h2 h3 hcs h1
  generalize s.ops.length = m at *
  go_enter Try.func26, Try.ntmps26
  go_wp2_with (first | (go_at_call 64; refine (none_no h0).mono ?_; rintro e W ⟨rfl, he⟩; obtain rfl := he.symm) | refine wpList_copyH rfl (.tmp 12) (.tmp 16) rfl _ _ rfl rfl m hr ?_)
  go_ret
  exact ⟨rfl, HH.out, HB.out⟩
end Go.Proofs.Ytembocfghkmieaa
/- slices.Sort at lists of int over this program: the list's numbers lie there rising, behind it; laid by the shelf's own table; no condition but the list's length. -/
namespace Go.Proofs
open Go.Shelf
def Try.lays189_ren : Go.Shelf.Ren := ⟨fun | 189 => 65 | 125 => 82 | 257 => 81 | 128 => 92 | 129 => 93 | 294 => 83 | 295 => 84 | 296 => 85 | 297 => 86 | 298 => 87 | 299 => 88 | 216 => 89 | 300 => 90 | 301 => 91 | 328 => 94 | 329 => 95 | 330 => 96 | 331 => 97 | 332 => 98 | 215 => 99 | 343 => 100 | n => n, fun | 28 => 65 | 3 => 3 | 46 => 117 | 0 => 0 | 51 => 127 | 53 => 129 | 4 => 4 | 183 => 120 | 182 => 119 | 131 => 105 | 5 => 5 | 9 => 9 | 218 => 130 | 222 => 134 | 228 => 136 | 229 => 137 | n => n, fun | n => n⟩
theorem Try.lays189 : Go.Proofs.Lays.n189 Try.prog Try.lays189_ren := {
  mixed := by kernel_rfl
  f125 := Try.func82.trans (congrArg some (by kernel_rfl))
  f128 := Try.func92.trans (congrArg some (by kernel_rfl))
  f129 := Try.func93.trans (congrArg some (by kernel_rfl))
  f189 := Try.func65.trans (congrArg some (by kernel_rfl))
  f215 := Try.func99.trans (congrArg some (by kernel_rfl))
  f216 := Try.func89.trans (congrArg some (by kernel_rfl))
  f257 := Try.func81.trans (congrArg some (by kernel_rfl))
  f294 := Try.func83.trans (congrArg some (by kernel_rfl))
  f295 := Try.func84.trans (congrArg some (by kernel_rfl))
  f296 := Try.func85.trans (congrArg some (by kernel_rfl))
  f297 := Try.func86.trans (congrArg some (by kernel_rfl))
  f298 := Try.func87.trans (congrArg some (by kernel_rfl))
  f299 := Try.func88.trans (congrArg some (by kernel_rfl))
  f300 := Try.func90.trans (congrArg some (by kernel_rfl))
  f301 := Try.func91.trans (congrArg some (by kernel_rfl))
  f328 := Try.func94.trans (congrArg some (by kernel_rfl))
  f329 := Try.func95.trans (congrArg some (by kernel_rfl))
  f330 := Try.func96.trans (congrArg some (by kernel_rfl))
  f331 := Try.func97.trans (congrArg some (by kernel_rfl))
  f332 := Try.func98.trans (congrArg some (by kernel_rfl))
  f343 := Try.func100.trans (congrArg some (by kernel_rfl))
  t0 := Try.underlying0
  a0 := Try.isAgg0
  z0 := Try.sizeOf0
  v0 := Try.zeroValue0
  t3 := Try.underlying3
  a3 := Try.isAgg3
  z3 := Try.sizeOf3
  v3 := Try.zeroValue3
  t4 := Try.underlying4
  a4 := Try.isAgg4
  z4 := Try.sizeOf4
  v4 := Try.zeroValue4
  t5 := Try.underlying5
  a5 := Try.isAgg5
  z5 := Try.sizeOf5
  v5 := Try.zeroValue5
  t9 := Try.underlying9
  a9 := Try.isAgg9
  z9 := Try.sizeOf9
  v9 := Try.zeroValue9
  t28 := Try.underlying65
  a28 := Try.isAgg65
  z28 := Try.sizeOf65
  v28 := Try.zeroValue65
  t46 := Try.underlying117
  a46 := Try.isAgg117
  z46 := Try.sizeOf117
  v46 := Try.zeroValue117
  t51 := Try.underlying127
  a51 := Try.isAgg127
  z51 := Try.sizeOf127
  v51 := Try.zeroValue127
  t53 := Try.underlying129
  a53 := Try.isAgg129
  z53 := Try.sizeOf129
  v53 := Try.zeroValue129
  t131 := Try.underlying105
  a131 := Try.isAgg105
  z131 := Try.sizeOf105
  v131 := Try.zeroValue105
  t182 := Try.underlying119
  a182 := Try.isAgg119
  z182 := Try.sizeOf119
  v182 := Try.zeroValue119
  t183 := Try.underlying120
  a183 := Try.isAgg120
  z183 := Try.sizeOf120
  v183 := Try.zeroValue120
  t218 := Try.underlying130
  a218 := Try.isAgg130
  z218 := Try.sizeOf130
  v218 := Try.zeroValue130
  t222 := Try.underlying134
  a222 := Try.isAgg134
  z222 := Try.sizeOf134
  v222 := Try.zeroValue134
  t228 := Try.underlying136
  a228 := Try.isAgg136
  z228 := Try.sizeOf136
  v228 := Try.zeroValue136
  t229 := Try.underlying137
  a229 := Try.isAgg137
  z229 := Try.sizeOf137
  v229 := Try.zeroValue137 }
open Go.Sort Go.RowKit in
theorem Try.slices_Sort_int (blk off cap : Nat) (zs : List Int) (w : World) (hH : Holds (Value.int .i64) w blk off zs.toArray) (hblk : blk < w.heap.size) (hsz : zs.length < 4611686018427387904) :
    Calls Try.prog 65 #[.slice (some ⟨blk, off, none⟩) zs.length cap] w fun e w' =>
      e = .returned (.tuple #[]) ∧ ∃ n os, w' = grow (putRow (Value.int .i64) (Sort.ahead w n) blk off (zs.mergeSort fun x y => decide (x ≤ y)).toArray) os := Any.slices_Sort_int Try.lays189 blk off cap zs w hH hblk hsz
end Go.Proofs
/- Numbers sorted in memory; the blocks that are held, as a rising list; no condition but the list's length. -/
namespace Go.Proofs.Ytembocfghkmieaa
open Go.RowKit Go.Sort
variable {w : World} {L : Loc} {s : St}

theorem heap_setCells (b : Nat) : ∀ (vs : List Value) (o : Nat) (w : World) (k : Nat), k ≠ b → (w.setCells b o vs).heap[k]? = w.heap[k]?
  | [], _, _, _, _ => rfl
  | v :: r, o, w, k, h => (heap_setCells b r (o + 1) _ k h).trans (Below.heap_setCell w _ v k h)
theorem size_setCells (b : Nat) : ∀ (vs : List Value) (o : Nat) (w : World), (w.setCells b o vs).heap.size = w.heap.size
  | [], _, _ => rfl
  | v :: r, o, w => (size_setCells b r (o + 1) _).trans (by simp)
theorem rest_setCells (b : Nat) : ∀ (vs : List Value) (o : Nat) (w : World), (w.setCells b o vs).os = w.os ∧ (w.setCells b o vs).tape = w.tape ∧ (w.setCells b o vs).output = w.output
  | [], _, _ => ⟨rfl, rfl, rfl⟩
  | v :: r, o, w => rest_setCells b r (o + 1) (w.setCell ⟨b, o, none⟩ v)
def sortL (zs : List Int) : List Int := zs.mergeSort fun x y => decide (x ≤ y)
theorem sort_ints {g cap : Nat} (zs : List Int) (hc : ∀ j, j < zs.length → w.cell? ⟨g, 0 + j, none⟩ = some (.int .i64 (zs.getD j 0))) (hf : ∀ j, j < zs.length → w.frozen? ⟨g, 0 + j, none⟩ = false) (hg : g < w.heap.size) (hn : zs.length < 4611686018427387904) :
    Calls Try.prog 65 #[.slice (some ⟨g, 0, none⟩) zs.length cap] w fun e w' => e = .returned (.tuple #[]) ∧ (∀ j, j < zs.length → w'.cell? ⟨g, j, none⟩ = some (.int .i64 ((sortL zs).getD j 0))) ∧ Fr (fun i => i = g) w w' := by
  have hH : Holds (Value.int .i64) w g 0 zs.toArray := by
    have := Lib.holds_of_ints (n := zs.length) (Nat.le_refl _) hc hf
    rwa [List.take_length] at this
  refine (Try.slices_Sort_int g 0 cap zs w hH hg hn).mono ?_
  rintro e w' ⟨rfl, q, os, hw⟩
  have hl : (sortL zs).length = zs.length := (List.mergeSort_perm _ _).length_eq
  rw [Lib.sorted_world _ w g 0 q _ _ os hH (by simp)] at hw
  refine ⟨rfl, fun j hj => ?_, ?_⟩
  · have h1 := Lib.cells_sorted_ints (W := w) (b := g) (off := 0) (q := q) (os := os) (zs := zs) (ys := sortL zs) (n := zs.length) (Nat.le_refl _) hl hc j (by rw [List.drop_length, List.append_nil, hl]; exact hj)
    rw [List.drop_length, List.append_nil, Nat.zero_add] at h1
    rw [hw]
    exact h1
  · rw [hw]
    have hr := rest_setCells g ((sortL zs).map (Value.int .i64)) 0 (w.drewN q)
    have hs := size_setCells g ((sortL zs).map (Value.int .i64)) 0 (w.drewN q)
    have hs' : ((w.drewN q).setCells g 0 ((sortL zs).map (Value.int .i64))).heap.size = w.heap.size := hs.trans (by simp)
    refine ⟨hr.1.trans rfl, hr.2.1.trans rfl, hr.2.2.trans rfl, by rw [size_grow]; show w.heap.size ≤ ((w.drewN q).setCells g 0 ((sortL zs).map (Value.int .i64))).heap.size + _; omega, fun k hk hn => ?_⟩
    rw [heap_grow_old _ _ (by show k < ((w.drewN q).setCells g 0 ((sortL zs).map (Value.int .i64))).heap.size; omega)]
    exact (heap_setCells g _ 0 _ k hn).trans (by simp)

/-- The cells of a block with its number. -/
def celRow (c : Cel) : List Value := .int .i64 c.1 :: (blk c.2).toList
def celCells (l : List Cel) : List Value := l.flatMap celRow
theorem celRow_len (c : Cel) : (celRow c).length = 1025 := by simp [celRow, blk_size]
theorem celCells_len : ∀ l : List Cel, (celCells l).length = l.length * 1025
  | [] => rfl
  | r :: t => by
    have ih := celCells_len t
    have h1 := celRow_len r
    show (celRow r ++ celCells t).length = _
    rw [List.length_append, ih, h1, List.length_cons]
    omega
theorem celCells_append (a b : List Cel) : celCells (a ++ b) = celCells a ++ celCells b := by simp [celCells]
theorem celCells_one (c : Cel) : celCells [c] = celRow c := by simp [celCells]
theorem celRow_one (c : Cel) : ∀ v ∈ celRow c, v.oneCell' = true := by
  intro v hv
  simp only [celRow, List.mem_cons] at hv
  rcases hv with rfl | h
  · rfl
  · have := blk_one c.2
    rw [Array.all_eq_true_iff_forall_mem] at this
    exact this v (by simpa using h)

/-- Numbers with what is held there. -/
def withHeld (s : St) (l : List Int) : List Cel := l.map fun x => (x, (s.held x).getD nought)
theorem rise_of (s : St) : ∀ (l : List Int) (m : Int), (∀ x ∈ l, m < x) → l.Pairwise (fun a b => a < b) → Rise m (withHeld s l)
  | [], _, _, _ => trivial
  | x :: t, m, h, hp => by
    have h2 := List.pairwise_cons.1 hp
    exact ⟨h x (by simp), rise_of s t x h2.1 h2.2⟩
theorem atL_in (s : St) : ∀ (l : List Int) (k : Int), (k ∈ l → atL (withHeld s l) k = (s.held k).getD nought) ∧ (k ∉ l → atL (withHeld s l) k = nought)
  | [], k => ⟨fun h => by simp at h, fun _ => rfl⟩
  | x :: t, k => by
    have ih := atL_in s t k
    show (k ∈ x :: t → (if x = k then _ else atL (withHeld s t) k) = _) ∧ (k ∉ x :: t → (if x = k then _ else atL (withHeld s t) k) = _)
    by_cases e : x = k
    · subst e
      exact ⟨fun _ => by rw [if_pos rfl], fun h => absurd (List.mem_cons_self) h⟩
    · rw [if_neg e]
      refine ⟨fun h => ih.1 ?_, fun h => ih.2 fun q => h (List.mem_cons_of_mem _ q)⟩
      rcases List.mem_cons.1 h with q | q
      · exact absurd q.symm e
      · exact q
/-- The blocks that are held, as a list: it rises, none of them is blank. -/
structure IsImage (s : St) (l : List Cel) : Prop where
  rise : Rise (-1) l
  sound : Sound l
  top : ∀ c ∈ l, c.1 < s.n
  at_ : ∀ k, atL l k = (s.held k).getD nought
theorem image_of (h : Ok s) (zs : List Int) (hn : zs.Nodup) (hm : ∀ x, x ∈ zs ↔ (s.held x).isSome = true) : IsImage s (withHeld s (sortL zs)) := by
  have hp : (sortL zs).Perm zs := List.mergeSort_perm _ _
  have hm' : ∀ x, x ∈ sortL zs ↔ (s.held x).isSome = true := fun x => hp.mem_iff.trans (hm x)
  have hb : ∀ x ∈ sortL zs, ∃ f, s.held x = some f ∧ (0 ≤ x ∧ x < s.n) ∧ Can f ∧ f ≠ nought := fun x hx => by
    obtain ⟨f, hf⟩ := Option.isSome_iff_exists.1 ((hm' x).1 hx)
    exact ⟨f, hf, h.held x f hf⟩
  refine ⟨rise_of s _ _ (fun x hx => by obtain ⟨f, _, h1, _⟩ := hb x hx; omega) ?_, fun c hc => ?_, fun c hc => ?_, fun k => ?_⟩
  · have h1 : (sortL zs).Pairwise (fun a b => decide (a ≤ b) = true) := List.pairwise_mergeSort (fun a b c h1 h2 => by simp at *; omega) (fun a b => by simp; omega) zs
    have h2 : (sortL zs).Nodup := hp.nodup_iff.2 hn
    exact (h1.and h2).imp fun {a b} q => by
      have q1 : a ≤ b := by simpa using q.1
      have q2 : a ≠ b := q.2
      omega
  · obtain ⟨x, hx, rfl⟩ := List.mem_map.1 hc
    obtain ⟨f, hf, _, h2, h3⟩ := hb x hx
    simp only [hf, Option.getD_some]
    exact ⟨h2, h3⟩
  · obtain ⟨x, hx, rfl⟩ := List.mem_map.1 hc
    obtain ⟨f, hf, h1, _⟩ := hb x hx
    exact h1.2
  · by_cases hk : k ∈ sortL zs
    · exact (atL_in s _ k).1 hk
    · rw [(atL_in s _ k).2 hk]
      cases hh : s.held k with
      | none => rfl
      | some f => exact absurd ((hm' k).2 (by rw [hh]; rfl)) hk
end Go.Proofs.Ytembocfghkmieaa
/- Image: what is held, as a rising list in new memory; for every disk. -/
namespace Go.Proofs.Ytembocfghkmieaa
open Go.RowKit Go.Maps
variable {w : World} {L : Loc} {s : St}

theorem info85 : (Try.prog.info? 85).map (fun i => (i.zero, i.size, i.bytes)) = some (some (.agg (celRow (0, nought)).toArray), 1025, 1032) := by kernel_rfl
theorem zero85 : ∀ w, (zeroValue 85).run Try.prog w = .ok (.agg (celRow (0, nought)).toArray) w := by
  obtain ⟨i0, hi0, hz0, hz1, hz2⟩ := info_parts info85
  exact (zero_of_info (t := 85) (P := Try.prog) (by rw [hi0]; exact congrArg some (Prod.ext hz0 hz1))).1
theorem size85 : (Try.prog.info? 85).map (·.size) = some 1025 := by
  obtain ⟨i0, hi0, hz0, hz1, hz2⟩ := info_parts info85
  rw [hi0]
  exact congrArg some hz1
theorem cel_size (c : Cel) : (celRow c).toArray.size = 1025 := by rw [List.size_toArray, celRow_len]
theorem fill_cel (p : Int) (f : Nat → Int) (Z : Array Value) (hZ : Z.size = 1025) (place : Nat → Option (Nat × Nat)) (h0 : place 0 = some (0, 1)) (h1 : place 1 = some (1, 1024)) :
    Instr.fill place Z [(0, .int .i64 p), (1, .agg (blk f))] = some (celRow (p, f)).toArray := by
  have hb := blk_size f
  unfold Instr.fill
  rw [h0]
  simp only [Value.cells, List.size_toArray, List.length_cons, List.length_nil, hZ]
  rw [if_neg (by simp)]
  unfold Instr.fill
  rw [h1]
  simp only [Value.cells, hb]
  rw [fold_over 0 #[.int .i64 p] Z (by rw [hZ]; simp)]
  rw [if_neg (by simp [hZ])]
  rw [fold_over 1 (blk f) _ (by simp [hZ, hb])]
  have hl : Z.toList.length = 1025 := by rw [Array.length_toList, hZ]
  obtain ⟨z0, r, hz, hr⟩ : ∃ z0 r, Z.toList = z0 :: r ∧ r.length = 1024 := by
    cases hz : Z.toList with
    | nil => rw [hz, List.length_nil] at hl; omega
    | cons z0 r => exact ⟨z0, r, rfl, by rw [hz, List.length_cons] at hl; omega⟩
  rw [hz]
  simp only [List.take_zero, List.nil_append, List.take_succ_cons, List.drop_succ_cons, List.drop_zero, List.singleton_append, List.size_toArray, List.length_cons, List.length_nil, hb, Nat.zero_add, Nat.reduceAdd]
  unfold Instr.fill
  rw [List.drop_eq_nil_of_le (by omega), List.append_nil]
  rfl
theorem build85 (p : Int) (f : Nat → Int) (u : World) : (Instr.build 85 #[(0, .int .i64 p), (1, .agg (blk f))]).run Try.prog u = .ok (.agg (celRow (p, f)).toArray) u := by
  have z := zero85
  have hZ : (celRow (0, nought)).toArray.size = 1025 := cel_size _
  generalize (celRow (0, nought)).toArray = Z at *
  have hf := fill_cel p f Z hZ
  simp [Instr.build, z, run_underlying Try.underlying85, Value.cells]
  rw [hf _ rfl rfl]
  simp only [Sem.run_pure]
theorem wpList_build85 {ops : Array Oper} {rest : List Oper} {o : Oper} {a : Act} {w : World} {Q : Exit → Act → World → Prop} (hgd : o.guard = none) (x y : Operand) (ho : o.op = .build 85 #[(0, x), (1, y)])
    (p : Int) (f : Nat → Int) (hx : a.eval x = .int .i64 p) (hy : a.eval y = .agg (blk f)) (h : wpList Try.prog ops Q rest (a.put o.dst (.agg (celRow (p, f)).toArray)) w) : wpList Try.prog ops Q (o :: rest) a w :=
  wpList_plain hgd fun _ hK => by
    have e := build85 p f w
    generalize (celRow (p, f)).toArray = Z at *
    have e' : (execOp a.eval o).run Try.prog w = .ok (.value (.agg Z)) w := by simp [execOp, ho, hx, hy, e]
    unfold Oper.wp
    rw [e']
    exact hK _ _ h
theorem run_make30 (u : World) (n : Nat) (hn : n * 1032 ≤ 281474976710656) :
    ∃ cur, cur.size = n * 1025 ∧ (Instr.makeSlice 30 (.int .i64 (n : Int)) (.int .i64 (n : Int))).run Try.prog u = .ok (.slice (some ⟨u.heap.size, 0, none⟩) n n) (u.alloc (.cells cur 85)) := by
  obtain ⟨i0, hi0, hz0, hz1, hz2⟩ := info_parts info85
  have h := run_make (P := Try.prog) u 30 85 i0 _ Try.underlying30 hi0 hz0 .i64 .i64 n n (by omega) (Int.le_refl _) (by rw [hz2]; omega) (by omega)
  rw [Int.toNat_natCast, hz1] at h
  exact ⟨_, by simp [madeCells], h⟩
theorem run_make65c (u : World) (n : Nat) (hn : n * 8 ≤ 281474976710656) :
    (Instr.makeSlice 65 (.int .i64 0) (.int .i64 (n : Int))).run Try.prog u = .ok (.slice (some ⟨u.heap.size, 0, none⟩) 0 n) (u.alloc (.cells (iRow nought n) 3)) := by
  obtain ⟨i0, hi0, hz0, hz1, hz2⟩ := info_parts info3b
  have h := run_make (P := Try.prog) u 65 3 i0 (.int .i64 0) Try.underlying65 hi0 hz0 .i64 .i64 0 n (by omega) (by omega) (by rw [hz2]; omega) (by omega)
  rw [Int.toNat_natCast, hz1] at h
  rw [h]
  simp [Value.cells, made_ints]
/-- A row with a whole element written at a place. -/
def putCel (cur : Array Value) (off : Nat) (c : Cel) : Array Value := (cur.toList.take off ++ celRow c ++ cur.toList.drop (off + 1025)).toArray
/-- A whole element is written into the middle of a row. -/
theorem wpList_store85 {ops : Array Oper} {rest : List Oper} {o : Oper} {a : Act} {w : World} {Q : Exit → Act → World → Prop} (hgd : o.guard = none) (x y : Operand) (ho : o.op = .store 85 x y)
    (g off : Nat) (c : Cel) (hx : a.eval x = .pointer (some ⟨g, off, none⟩)) (hy : a.eval y = .agg (celRow c).toArray) (cur : Array Value) (hg : w.heap[g]? = some (.cells cur 85)) (hfit : off + 1025 ≤ cur.size)
    (h : wpList Try.prog ops Q rest (a.put o.dst undef) (w.setRow g (putCel cur off c))) : wpList Try.prog ops Q (o :: rest) a w :=
  wpList_plain hgd fun _ hK => by
    have hs := cel_size c
    have hl := celRow_len c
    have hst := run_storeCells_at Try.prog g off 85 (celRow c) 0 cur w hg (by rw [hl]; omega) (celRow_one c)
    rw [hl] at hst
    have hr : (Instr.storeAt 85 (.pointer (some ⟨g, off, none⟩)) (.agg (celRow c).toArray)).run Try.prog w = .ok () (w.setRow g (cur.toList.take off ++ celRow c ++ cur.toList.drop (off + 1025)).toArray) := by
      obtain ⟨i0, hi0, hz0, hz1, hz2⟩ := info_parts info85
      simp only [Nat.add_zero] at hst
      generalize celRow c = R at *
      simp [Instr.storeAt, Instr.sureAddr, storeVar, sizeOf, typeInfo, hi0, Value.cells, hl, hz1, hst]
    unfold Oper.wp execOp
    simp only [ho, hx, hy, Sem.run_bind, hr, Result.andThen_ok, Sem.run_pure]
    exact hK _ _ h
theorem wpList_lookM1 {P : Program} {k : TypeId} {b : Nat} {m : Int → Option Value} {ops : Array Oper} {rest : List Oper} {o : Oper} {a : Act} {w : World} {Q : Exit → Act → World → Prop} (hg : o.guard = none) (mo xo : Operand) (t : TypeId) (hop : o.op = Op.lookup t mo xo false) (e : TypeId) (hk : P.underlying k = some (.int .i64)) (K : Keyed P k) (ht : P.underlying t = some (.map k e))
    (hm : a.eval mo = .map (some b)) (h : MapIs P k w b m) {z : Value} (hz : (zeroValue e).run P w = .ok z w) (x : Int) (hx : (Lit.int .i64 x).wf = true) (hxo : a.eval xo = .int .i64 x) (v : Value) (hv : m x = some v)
    (hK : wpList P ops Q rest (a.put o.dst v) w) : wpList P ops Q (o :: rest) a w := by
  refine wpList_plain hg fun K' hK' => ?_
  have hr := look_at hk K ht h hz hx
  rw [hv] at hr
  unfold Oper.wp
  simp [execOp, hop, hm, hxo, hr, Result.andThen]
  exact hK' _ _ hK
/-- The numbers that were met: each once, those that are held and no longer to come. -/
structure Col (m : Int → Option Value) (left : Lit → Bool) (zs : List Int) : Prop where
  nodup : zs.Nodup
  mem : ∀ x, x ∈ zs ↔ ((m x).isSome = true ∧ left (.int .i64 x) = false)
theorem Col.start {D : DataW Value} {m : Int → Option Value} (hv : Views D m) : Col m (Maps.has D) [] := by
  refine ⟨List.nodup_nil, fun x => ⟨fun h => by simp at h, fun h => ?_⟩⟩
  cases hm : m x with
  | none => rw [hm] at h; simp at h
  | some v => rw [(hv.some x v hm).2.1] at h; simp at h
theorem Col.step {D : DataW Value} {m : Int → Option Value} {left : Lit → Bool} {zs : List Int} (h : Col m left zs) (hv : Views D m) {x : Int} {y : DataW Value} (hl : left (.int .i64 x) = true) (hat : ∀ zd, D.atKey (.int .i64 x) zd = y) :
    Col m (fun z => left z && !z.sameKey (.int .i64 x)) (zs ++ [x]) ∧ (m x).isSome = true := by
  have hsome : (m x).isSome = true := by
    cases hm : m x with
    | some v => rfl
    | none =>
      have h1 := hv.none x hm
      have e1 := hat (.held (.bool true))
      have e2 := hat (.held (.bool false))
      rw [atKey_of_not_has h1] at e1 e2
      rw [← e2] at e1
      cases e1
  refine ⟨⟨?_, fun z => ?_⟩, hsome⟩
  · rw [List.nodup_append]
    refine ⟨h.nodup, by simp, fun a ha b hb e => ?_⟩
    have hb' : b = x := by simpa using hb
    subst hb'
    subst e
    rw [((h.mem a).1 ha).2] at hl
    cases hl
  · rw [List.mem_append, h.mem z]
    by_cases e : z = x
    · subst e
      simp [hsome, Lit.sameKey]
    · have hne : (Lit.int .i64 z).sameKey (.int .i64 x) = false := by simp [Lit.sameKey, e]
      simp [hne, e]
theorem Col.done {m : Int → Option Value} {left : Lit → Bool} {zs : List Int} (h : Col m left zs) (hl : ∀ kl, left kl = false) : ∀ x, x ∈ zs ↔ (m x).isSome = true := fun x => by
  rw [h.mem x]
  simp [hl]
end Go.Proofs.Ytembocfghkmieaa
