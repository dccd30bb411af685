/- Rows of elements of several cells; lists of puts that came in; a number taken into bounds; no condition. -/
import Derived.Test.YtembocfghkmieaaOpen
namespace Go.Proofs.Ytembocfghkmieaa
open Go.RowKit

section
variable {α : Type} (row : α → List Value) (n : Nat)
theorem fm_len (hr : ∀ x, (row x).length = n) : ∀ l : List α, (l.flatMap row).length = l.length * n
  | [] => by simp
  | x :: t => by rw [List.flatMap_cons, List.length_append, hr x, fm_len hr t, List.length_cons, Nat.add_mul]; omega
theorem fm_get (hr : ∀ x, (row x).length = n) : ∀ (l : List α) (i j : Nat) (r : α), l[i]? = some r → j < n → (l.flatMap row)[i * n + j]? = (row r)[j]?
  | [], i, j, r, h, _ => by simp at h
  | x :: t, 0, j, r, h, hj => by
    have h' : x = r := by simpa using h
    subst h'
    rw [List.flatMap_cons, Nat.zero_mul, Nat.zero_add, List.getElem?_append_left (by rw [hr]; exact hj)]
  | x :: t, i + 1, j, r, h, hj => by
    have h' : t[i]? = some r := by simpa using h
    rw [List.flatMap_cons, List.getElem?_append_right (by rw [hr, Nat.add_mul]; omega), hr, show (i + 1) * n + j - n = i * n + j by rw [Nat.add_mul]; omega]
    exact fm_get hr t i j r h' hj
theorem fm_set (hr : ∀ x, (row x).length = n) : ∀ (l : List α) (i : Nat) (r : α), i < l.length → (l.flatMap row).take (i * n) ++ row r ++ (l.flatMap row).drop (i * n + n) = (l.set i r).flatMap row
  | [], i, r, h => by simp at h
  | x :: t, 0, r, _ => by
    rw [List.set_cons_zero, List.flatMap_cons, List.flatMap_cons, Nat.zero_mul, Nat.zero_add, List.take_zero, List.nil_append, ← hr x, List.drop_left]
  | x :: t, i + 1, r, h => by
    have ih := fm_set hr t i r (by simpa using h)
    have e1 : (i + 1) * n = (row x).length + i * n := by rw [hr, Nat.add_mul]; omega
    rw [List.set_cons_succ, List.flatMap_cons, List.flatMap_cons, ← ih, e1, List.take_length_add_append, Nat.add_assoc, List.drop_length_add_append]
    simp only [List.append_assoc]
end
/-- Blocks one behind the other. -/
def blkCells (l : List (Nat → Int)) : List Value := l.flatMap fun f => (blk f).toList
theorem blkCells_len (l : List (Nat → Int)) : (blkCells l).length = l.length * 1024 := fm_len _ 1024 blk_list_len l
theorem blkCells_set {l : List (Nat → Int)} {i : Nat} {f : Nat → Int} (h : i < l.length) : (blkCells l).take (i * 1024) ++ (blk f).toList ++ (blkCells l).drop (i * 1024 + 1024) = blkCells (l.set i f) := fm_set _ 1024 blk_list_len l i f h
theorem blkCells_at {w : World} {g i : Nat} {t : TypeId} {l : List (Nat → Int)} {f : Nat → Int} (h : w.heap[g]? = some (.cells (blkCells l).toArray t)) (hi : l[i]? = some f) : BlkAt w g (i * 1024) f := fun j v hv => by
  have hj : j < 1024 := by have := (List.getElem?_eq_some_iff.1 hv).1; rwa [blk_list_len] at this
  rw [cell_of_row w g _ _ t _ h, List.getElem?_toArray]
  exact (fm_get _ 1024 blk_list_len l i j f hi hj).trans hv
/-- A block is written into the middle of a row of blocks. -/
theorem wpList_storeB {ops : Array Oper} {rest : List Oper} {o : Oper} {a : Act} {w : World} {Q : Exit → Act → World → Prop} (hgd : o.guard = none) (x y : Operand) (ho : o.op = .store 58 x y)
    (g i off : Nat) (hoff : off = i * 1024) (f : Nat → Int) (hx : a.eval x = .pointer (some ⟨g, off, none⟩)) (hy : a.eval y = .agg (blk f)) (t : TypeId) (l : List (Nat → Int)) (hg : w.heap[g]? = some (.cells (blkCells l).toArray t)) (hi : i < l.length)
    (h : wpList Try.prog ops Q rest (a.put o.dst undef) (w.setRow g (blkCells (l.set i f)).toArray)) : wpList Try.prog ops Q (o :: rest) a w :=
  wpList_plain hgd fun _ hK => by
    have hl := blk_list_len f
    have hfit : off + 1024 ≤ (blkCells l).toArray.size := by
      rw [List.size_toArray, blkCells_len l, hoff, ← Nat.succ_mul]
      exact Nat.mul_le_mul_right _ hi
    have key : (blkCells l).take off ++ (blk f).toList ++ (blkCells l).drop (off + 1024) = blkCells (l.set i f) := by
      rw [hoff]
      exact blkCells_set hi
    clear hoff
    have hst := run_storeCells_at Try.prog g off t (blk f).toList 0 (blkCells l).toArray w hg (by rw [hl, Nat.add_zero]; exact hfit) (fun v hv => by
      have := blk_one f
      rw [Array.all_eq_true_iff_forall_mem] at this
      exact this v (by simpa using hv))
    rw [Nat.add_zero, hl] at hst
    have e1 : (blkCells l).toArray.toList = blkCells l := List.toList_toArray ..
    rw [e1, key] at hst
    have hr : (Instr.storeAt 58 (.pointer (some ⟨g, off, none⟩)) (.agg (blk f))).run Try.prog w = .ok () (w.setRow g (blkCells (l.set i f)).toArray) := by
      obtain ⟨i0, hi0⟩ := Option.isSome_iff_exists.1 (show (Try.prog.info? 58).isSome = true by kernel_rfl)
      have hz : i0.size = 1024 := by have := size25; rw [hi0] at this; simpa using this
      have hs := blk_size f
      generalize blk f = F at *
      simp [Instr.storeAt, Instr.sureAddr, storeVar, sizeOf, typeInfo, hi0, Value.cells, hs, hz, hst]
    unfold Oper.wp execOp
    simp only [ho, hx, hy, Sem.run_bind, hr, Result.andThen_ok, Sem.run_pure]
    exact hK _ _ h
theorem info58b : (Try.prog.info? 58).map (fun i => (i.zero, i.size, i.bytes)) = some (some (.agg (blk nought)), 1024, 1024) := by kernel_rfl
theorem blkCells_rep (n i : Nat) (hi : i < n * 1024) : (blkCells (List.replicate n nought))[i]? = some (.int .u8 0) := by
  have h1 : i / 1024 < n := Nat.div_lt_of_lt_mul (by rw [Nat.mul_comm]; exact hi)
  have h2 : i % 1024 < 1024 := Nat.mod_lt _ (by omega)
  have h3 := fm_get (fun f => (blk f).toList) 1024 blk_list_len (List.replicate n nought) (i / 1024) (i % 1024) nought (by rw [List.getElem?_replicate, if_pos h1]) h2
  have h4 : i / 1024 * 1024 + i % 1024 = i := Nat.div_add_mod' i 1024
  rw [h4] at h3
  unfold blkCells
  rw [h3, Array.getElem?_toList, blk_get nought _ h2]
  rfl
theorem made_blocks (n : Nat) : madeCells (blk nought) (n * 1024) = (blkCells (List.replicate n nought)).toArray := by
  apply Array.ext_getElem?
  intro i
  by_cases hi : i < n * 1024
  · have h : i % 1024 < 1024 := Nat.mod_lt _ (by decide)
    have hb := blk_get nought (i % 1024) h
    have hb' : (blk nought)[i % 1024]! = .int .u8 0 := by
      rw [Array.getElem!_eq_getD, Array.getD_eq_getD_getElem?, hb]; rfl
    rw [show ((blkCells (List.replicate n nought)).toArray)[i]? = (blkCells (List.replicate n nought))[i]? from List.getElem?_toArray, blkCells_rep n i hi]
    simp [madeCells, hi, blk_size, hb']
  · rw [Array.getElem?_eq_none (by simp [madeCells]; omega), show ((blkCells (List.replicate n nought)).toArray)[i]? = (blkCells (List.replicate n nought))[i]? from List.getElem?_toArray, List.getElem?_eq_none (by rw [blkCells_len, List.length_replicate]; omega)]
theorem run_make79 (u : World) (n : Nat) (hn : n * 1024 ≤ 281474976710656) :
    (Instr.makeSlice 79 (.int .i64 (n : Int)) (.int .i64 (n : Int))).run Try.prog u = .ok (.slice (some ⟨u.heap.size, 0, none⟩) n n) (u.alloc (.cells (blkCells (List.replicate n nought)).toArray 58)) := by
  obtain ⟨i0, hi0, hz0, hz1, hz2⟩ := info_parts info58b
  have h := run_make (P := Try.prog) u 79 58 i0 (.agg (blk nought)) Try.underlying79 hi0 hz0 .i64 .i64 n n (by omega) (Int.le_refl _) (by rw [hz2]; omega) (by omega)
  rw [Int.toNat_natCast, hz1] at h
  rw [h]
  simp only [Value.cells, made_blocks]
/-- An element of a list of blocks with numbers in memory. -/
theorem cel_at {w : World} {base g n cap : Nat} {l : List Cel} (h : w.ownsRow base 85 1025 (.slice (some ⟨g, 0, none⟩) n cap) n (celCells l)) {k K : Nat} {c : Cel} (hK : K = k * 1025) (hk : l[k]? = some c) :
    w.cell? ⟨g, K, none⟩ = some (.int .i64 c.1) ∧ BlkAt w g (K + 1) c.2 := by
  have hc := h.cells (g := g) rfl
  have key : ∀ j, j < 1025 → ∀ v, (celRow c)[j]? = some v → w.cell? ⟨g, K + j, none⟩ = some v := fun j hj v hv => by
    have q0 := (fm_get celRow 1025 celRow_len l k j c hk hj).trans hv
    rw [← hK] at q0
    have q := hc (K + j) v q0
    rwa [Go.WideShapes.add_plain, Nat.zero_add] at q
  clear hK hk hc h
  refine ⟨key 0 (by omega) _ rfl, fun j v hv => ?_⟩
  have hj : j < 1024 := by have := (List.getElem?_eq_some_iff.1 hv).1; rwa [blk_list_len] at this
  rw [Nat.add_assoc, Nat.add_comm 1 j]
  refine key (j + 1) (by omega) v ?_
  rw [show (celRow c)[j + 1]? = (blk c.2).toList[j]? by simp only [celRow, List.getElem?_cons_succ]]
  exact hv

/-- i taken into n. -/
theorem pick_any (i n : Int) (hn : 1 ≤ n ∧ n ≤ 1048576) (w : World) : Calls Try.prog 11 #[.int .i64 i, .int .i64 n] w fun e w' => e = .returned (.int .i64 (i % n)) ∧ w' = w := by
  have h0 : n ≠ 0 := by omega
  have hb : -n < Int.tmod i n ∧ Int.tmod i n < n := by
    have h1 := Int.natAbs_tmod i n
    have h2 : (Int.tmod i n).natAbs < n.natAbs := by
      rw [Int.natAbs_tmod]
      exact Nat.mod_lt _ (by omega)
    omega
  have hw : IntKind.i64.wrap (Int.tmod i n) = Int.tmod i n := by rw [IntKind.wrap_i64]; omega
  have hm : Int.tmod i n % n = i % n := by
    have h1 := Int.tmod_add_mul_tdiv i n
    have h2 : i % n = (Int.tmod i n + n * Int.tdiv i n) % n := by rw [h1]
    rw [h2, Int.add_mul_emod_self_left]
  by_cases hneg : Int.tmod i n < 0
  · have he : Int.tmod i n + n = i % n := by
      rw [← hm, ← Int.add_emod_right, Int.emod_eq_of_lt (by omega) (by omega)]
    have hw2 : IntKind.i64.wrap (Int.tmod i n + n) = Int.tmod i n + n := by rw [IntKind.wrap_i64]; omega
    rw [← he]
    clear hm he
    go_enter Try.func11, Try.ntmps11
    go_wp2
    go_ret
    exact ⟨rfl, rfl⟩
  · have he : Int.tmod i n = i % n := by rw [← hm, Int.emod_eq_of_lt (by omega) (by omega)]
    rw [← he]
    clear hm he
    go_enter Try.func11, Try.ntmps11
    go_wp2
    go_ret
    exact ⟨rfl, rfl⟩
end Go.Proofs.Ytembocfghkmieaa
