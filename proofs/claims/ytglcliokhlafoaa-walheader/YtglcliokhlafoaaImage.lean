/- Image: what is held, as a rising list in new memory; for every disk. -/
import Derived.Test.YtglcliokhlafoaaSorted
import Derived.Maps.AppendAt
import Derived.Maps.OwnOps
import Derived.Maps.OwnSet
namespace Go.Proofs.Ytglcliokhlafoaa
open Go.RowKit Go.Maps
variable {w : World} {L : Loc} {s : St}

theorem info85 : (Try.prog.info? 59).map (fun i => (i.zero, i.size, i.bytes)) = some (some (.agg (celRow (0, nought)).toArray), 1025, 1032) := by kernel_rfl
theorem zero85 : ∀ w, (zeroValue 59).run Try.prog w = .ok (.agg (celRow (0, nought)).toArray) w := by
  obtain ⟨i0, hi0, hz0, hz1, hz2⟩ := info_parts info85
  exact (zero_of_info (t := 59) (P := Try.prog) (by rw [hi0]; exact congrArg some (Prod.ext hz0 hz1))).1
theorem size85 : (Try.prog.info? 59).map (·.size) = some 1025 := by
  obtain ⟨i0, hi0, hz0, hz1, hz2⟩ := info_parts info85
  rw [hi0]
  exact congrArg some hz1
theorem cel_size (c : Cel) : (celRow c).toArray.size = 1025 := by rw [List.size_toArray, celRow_len]
theorem fill_cel (p : Int) (f : Nat → Int) (Z : Array Value) (hZ : Z.size = 1025) (place : Nat → Option (Nat × Nat)) (h0 : place 0 = some (0, 1)) (h1 : place 1 = some (1, 1024)) :
    Instr.fill place Z [(0, .int .i64 p), (1, .agg (blk f))] = some (celRow (p, f)).toArray := by
  have hb := blk_size f
  unfold Instr.fill
  rw [h0]
  simp only [Value.cells, List.size_toArray, List.length_cons, List.length_nil, hZ]
  rw [if_neg (by simp)]
  unfold Instr.fill
  rw [h1]
  simp only [Value.cells, hb]
  rw [fold_over 0 #[.int .i64 p] Z (by rw [hZ]; simp)]
  rw [if_neg (by simp [hZ])]
  rw [fold_over 1 (blk f) _ (by simp [hZ, hb])]
  have hl : Z.toList.length = 1025 := by rw [Array.length_toList, hZ]
  obtain ⟨z0, r, hz, hr⟩ : ∃ z0 r, Z.toList = z0 :: r ∧ r.length = 1024 := by
    cases hz : Z.toList with
    | nil => rw [hz, List.length_nil] at hl; omega
    | cons z0 r => exact ⟨z0, r, rfl, by rw [hz, List.length_cons] at hl; omega⟩
  rw [hz]
  simp only [List.take_zero, List.nil_append, List.take_succ_cons, List.drop_succ_cons, List.drop_zero, List.singleton_append, List.size_toArray, List.length_cons, List.length_nil, hb, Nat.zero_add, Nat.reduceAdd]
  unfold Instr.fill
  rw [List.drop_eq_nil_of_le (by omega), List.append_nil]
  rfl
theorem build85 (p : Int) (f : Nat → Int) (u : World) : (Instr.build 59 #[(0, .int .i64 p), (1, .agg (blk f))]).run Try.prog u = .ok (.agg (celRow (p, f)).toArray) u := by
  have z := zero85
  have hZ : (celRow (0, nought)).toArray.size = 1025 := cel_size _
  generalize (celRow (0, nought)).toArray = Z at *
  have hf := fill_cel p f Z hZ
  simp [Instr.build, z, run_underlying Try.underlying59, Value.cells]
  rw [hf _ rfl rfl]
  simp only [Sem.run_pure]
theorem wpList_build85 {ops : Array Oper} {rest : List Oper} {o : Oper} {a : Act} {w : World} {Q : Exit → Act → World → Prop} (hgd : o.guard = none) (x y : Operand) (ho : o.op = .build 59 #[(0, x), (1, y)])
    (p : Int) (f : Nat → Int) (hx : a.eval x = .int .i64 p) (hy : a.eval y = .agg (blk f)) (h : wpList Try.prog ops Q rest (a.put o.dst (.agg (celRow (p, f)).toArray)) w) : wpList Try.prog ops Q (o :: rest) a w :=
  wpList_plain hgd fun _ hK => by
    have e := build85 p f w
    generalize (celRow (p, f)).toArray = Z at *
    have e' : (execOp a.eval o).run Try.prog w = .ok (.value (.agg Z)) w := by simp [execOp, ho, hx, hy, e]
    unfold Oper.wp
    rw [e']
    exact hK _ _ h
theorem run_make30 (u : World) (n : Nat) (hn : n * 1032 ≤ 281474976710656) :
    ∃ cur, cur.size = n * 1025 ∧ (Instr.makeSlice 22 (.int .i64 (n : Int)) (.int .i64 (n : Int))).run Try.prog u = .ok (.slice (some ⟨u.heap.size, 0, none⟩) n n) (u.alloc (.cells cur 59)) := by
  obtain ⟨i0, hi0, hz0, hz1, hz2⟩ := info_parts info85
  have h := run_make (P := Try.prog) u 22 59 i0 _ Try.underlying22 hi0 hz0 .i64 .i64 n n (by omega) (Int.le_refl _) (by rw [hz2]; omega) (by omega)
  rw [Int.toNat_natCast, hz1] at h
  exact ⟨_, by simp [madeCells], h⟩
theorem run_make65c (u : World) (n : Nat) (hn : n * 8 ≤ 281474976710656) :
    (Instr.makeSlice 40 (.int .i64 0) (.int .i64 (n : Int))).run Try.prog u = .ok (.slice (some ⟨u.heap.size, 0, none⟩) 0 n) (u.alloc (.cells (iRow nought n) 3)) := by
  obtain ⟨i0, hi0, hz0, hz1, hz2⟩ := info_parts info3b
  have h := run_make (P := Try.prog) u 40 3 i0 (.int .i64 0) Try.underlying40 hi0 hz0 .i64 .i64 0 n (by omega) (by omega) (by rw [hz2]; omega) (by omega)
  rw [Int.toNat_natCast, hz1] at h
  rw [h]
  simp [Value.cells, made_ints]
/-- A row with a whole element written at a place. -/
def putCel (cur : Array Value) (off : Nat) (c : Cel) : Array Value := (cur.toList.take off ++ celRow c ++ cur.toList.drop (off + 1025)).toArray
/-- A whole element is written into the middle of a row. -/
theorem wpList_store85 {ops : Array Oper} {rest : List Oper} {o : Oper} {a : Act} {w : World} {Q : Exit → Act → World → Prop} (hgd : o.guard = none) (x y : Operand) (ho : o.op = .store 59 x y)
    (g off : Nat) (c : Cel) (hx : a.eval x = .pointer (some ⟨g, off, none⟩)) (hy : a.eval y = .agg (celRow c).toArray) (cur : Array Value) (hg : w.heap[g]? = some (.cells cur 59)) (hfit : off + 1025 ≤ cur.size)
    (h : wpList Try.prog ops Q rest (a.put o.dst undef) (w.setRow g (putCel cur off c))) : wpList Try.prog ops Q (o :: rest) a w :=
  wpList_plain hgd fun _ hK => by
    have hs := cel_size c
    have hl := celRow_len c
    have hst := run_storeCells_at Try.prog g off 59 (celRow c) 0 cur w hg (by rw [hl]; omega) (celRow_one c)
    rw [hl] at hst
    have hr : (Instr.storeAt 59 (.pointer (some ⟨g, off, none⟩)) (.agg (celRow c).toArray)).run Try.prog w = .ok () (w.setRow g (cur.toList.take off ++ celRow c ++ cur.toList.drop (off + 1025)).toArray) := by
      obtain ⟨i0, hi0, hz0, hz1, hz2⟩ := info_parts info85
      simp only [Nat.add_zero] at hst
      generalize celRow c = R at *
      simp [Instr.storeAt, Instr.sureAddr, storeVar, sizeOf, typeInfo, hi0, Value.cells, hl, hz1, hst]
    unfold Oper.wp execOp
    simp only [ho, hx, hy, Sem.run_bind, hr, Result.andThen_ok, Sem.run_pure]
    exact hK _ _ h
theorem wpList_lookM1 {P : Program} {k : TypeId} {b : Nat} {m : Int → Option Value} {ops : Array Oper} {rest : List Oper} {o : Oper} {a : Act} {w : World} {Q : Exit → Act → World → Prop} (hg : o.guard = none) (mo xo : Operand) (t : TypeId) (hop : o.op = Op.lookup t mo xo false) (e : TypeId) (hk : P.underlying k = some (.int .i64)) (K : Keyed P k) (ht : P.underlying t = some (.map k e))
    (hm : a.eval mo = .map (some b)) (h : MapIs P k w b m) {z : Value} (hz : (zeroValue e).run P w = .ok z w) (x : Int) (hx : (Lit.int .i64 x).wf = true) (hxo : a.eval xo = .int .i64 x) (v : Value) (hv : m x = some v)
    (hK : wpList P ops Q rest (a.put o.dst v) w) : wpList P ops Q (o :: rest) a w := by
  refine wpList_plain hg fun K' hK' => ?_
  have hr := look_at hk K ht h hz hx
  rw [hv] at hr
  unfold Oper.wp
  simp [execOp, hop, hm, hxo, hr, Result.andThen]
  exact hK' _ _ hK
/-- The numbers that were met: each once, those that are held and no longer to come. -/
structure Col (m : Int → Option Value) (left : Lit → Bool) (zs : List Int) : Prop where
  nodup : zs.Nodup
  mem : ∀ x, x ∈ zs ↔ ((m x).isSome = true ∧ left (.int .i64 x) = false)
theorem Col.start {D : DataW Value} {m : Int → Option Value} (hv : Views D m) : Col m (Maps.has D) [] := by
  refine ⟨List.nodup_nil, fun x => ⟨fun h => by simp at h, fun h => ?_⟩⟩
  cases hm : m x with
  | none => rw [hm] at h; simp at h
  | some v => rw [(hv.some x v hm).2.1] at h; simp at h
theorem Col.step {D : DataW Value} {m : Int → Option Value} {left : Lit → Bool} {zs : List Int} (h : Col m left zs) (hv : Views D m) {x : Int} {y : DataW Value} (hl : left (.int .i64 x) = true) (hat : ∀ zd, D.atKey (.int .i64 x) zd = y) :
    Col m (fun z => left z && !z.sameKey (.int .i64 x)) (zs ++ [x]) ∧ (m x).isSome = true := by
  have hsome : (m x).isSome = true := by
    cases hm : m x with
    | some v => rfl
    | none =>
      have h1 := hv.none x hm
      have e1 := hat (.held (.bool true))
      have e2 := hat (.held (.bool false))
      rw [atKey_of_not_has h1] at e1 e2
      rw [← e2] at e1
      cases e1
  refine ⟨⟨?_, fun z => ?_⟩, hsome⟩
  · rw [List.nodup_append]
    refine ⟨h.nodup, by simp, fun a ha b hb e => ?_⟩
    have hb' : b = x := by simpa using hb
    subst hb'
    subst e
    rw [((h.mem a).1 ha).2] at hl
    cases hl
  · rw [List.mem_append, h.mem z]
    by_cases e : z = x
    · subst e
      simp [hsome, Lit.sameKey]
    · have hne : (Lit.int .i64 z).sameKey (.int .i64 x) = false := by simp [Lit.sameKey, e]
      simp [hne, e]
theorem Col.done {m : Int → Option Value} {left : Lit → Bool} {zs : List Int} (h : Col m left zs) (hl : ∀ kl, left kl = false) : ∀ x, x ∈ zs ↔ (m x).isSome = true := fun x => by
  rw [h.mem x]
  simp [hl]
end Go.Proofs.Ytglcliokhlafoaa
