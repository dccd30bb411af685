/- Reads of the log's own blocks; a list of blocks that is made; Writes that are refused; no condition. -/
import Derived.Test.YtahaiciciljijabLPlay
import Derived.Laws.MakeOwn
namespace Go.Proofs.Ytahaiciciljijab
open Go.RowKit Go.Maps
variable {w W W1 W' : World} {g d q8 : Nat} {x : LSt} {s : CSt} {t : St} {ks : List (Nat × Obj)} {book : Int → Nat → Int}
set_option maxRecDepth 20000 in
set_option maxHeartbeats 1600000 in
theorem LogI.readOwn (h : LogI w W g d x t book ks) (hc : chkE x t = 0) {k : Int} (hk : 1 ≤ k ∧ k < 1 + x.l) (hb : x.l < x.b) (hn : x.b ≤ t.n) (hs : t.stopped = false) (hr : Room t) : Calls Try.prog 21 #[ptr g, .int .i64 k] W (RdPost w g d x t book ks (curV t k)) := by
  obtain ⟨s, ⟨c, mb, v, os, h⟩, hI⟩ := h
  have hksz := h.ksLt
  have hbase := h.sit.below.size
  have hA := h.add (.cells (blk nought) 46)
  have href : refV t k = 0 := by unfold refV; rw [hs, if_neg (by simp), if_pos (by omega)]
  have hck : Calls Try.prog 41 #[ptr g] (W.alloc (.cells (blk nought) 46)) fun e W' => e = .returned (.int .i64 0) ∧ W'.cell? ⟨g, 3, none⟩ = some (.int .i64 x.b) ∧ W'.cell? ⟨g, 1, none⟩ = some (.pointer (some ⟨d, 0, none⟩)) ∧ Calls Try.prog 42 #[ptr g, .int .i64 k] W' (fun e W'' => e = .returned (.bool true) ∧ W'' = W') ∧ Hid (Calls Try.prog 22 #[ptr d, .int .i64 k] W' fun e W'' => e = .returned (.tuple #[.agg (blk (curV t k)), .int .i64 0]) ∧ W''.heap[W.heap.size]? = some (.cells (blk nought) 46) ∧ Hid (RdPost w g d x t book ks (curV t k) (.returned (.tuple #[.agg (blk (curV t k)), .int .i64 0])) (W''.setRow W.heap.size (blk (curV t k))))) := by
    refine hA.check.mono ?_
    rintro e W' ⟨rfl, m, rfl⟩
    have hB := hA.later (below_drewN _ m)
    have ho : ofL x k = true := by unfold ofL; exact decide_eq_true hk
    have ho2 := hB.ofLog k
    rw [ho] at ho2
    refine ⟨by rw [hc], hB.log.c3, hB.log.c1, ho2, ?_⟩
    refine (dsit_read hB.sit hr k).mono ?_
    rintro e W2 ⟨rfl, h1⟩
    unfold readV at h1
    rw [if_pos href] at h1
    have h2 := hB.step h1
    refine ⟨by unfold readB; rw [if_pos href, href], h2.sit.blk (List.mem_append.2 (.inr (List.mem_cons_self ..))), rfl, readS t, .inr rfl, s, h2.beside (Fr.setRow W2 W.heap.size _) hbase hksz, ?_⟩
    exact ⟨hI.fine, hI.c.disk rfl fun _ _ => rfl, hI.nd, hI.rng, hI.fast, hI.last, hI.len, hI.steps, hI.commits, hI.room, hI.more⟩
  have hk1 : ¬ k < 0 := by omega
  have hk2 : ¬ x.b ≤ k := by omega
  clear h hA hI hksz hbase
  unfold ptr at *
  generalize curV t k = F at *
  have z25 := zero25
  go_enter Try.func21, Try.ntmps21
  go_wp2_with (go_at_call 41; fail)
  refine hck.mono ?_
  rintro e W1 ⟨rfl, c3, c1, ofl, HR⟩
  clear hck
  go_wp2_with (first | (go_at_call 42; refine ofl.mono ?_; rintro e W2 ⟨rfl, rfl⟩) | (go_at_call 22; fail))
  refine HR.out.mono ?_
  rintro e W3 ⟨rfl, hg, HP⟩
  clear HR ofl c3 c1
  go_wp2_with (first | refine wpList_store25 rfl (.tmp 4) (.tmp 37) rfl W.heap.size F rfl rfl _ hg ?_)
  exact retBT rfl W.heap.size F rfl (setRow_heap _ _ _ _ _ _ hg) rfl HP.out
theorem blk0 {j : Nat} (hj : j < 1024) : (blk nought)[j]? = some (.int .u8 0) := by rw [blk_get _ _ hj]; rfl
theorem blkCells_noughts : ∀ (n j : Nat), j < n * 1024 → (blkCells (List.replicate n nought))[j]? = some (.int .u8 0)
  | 0, j, h => by omega
  | n + 1, j, h => by
    show ((blk nought).toList ++ blkCells (List.replicate n nought))[j]? = _
    by_cases hj : j < 1024
    · rw [List.getElem?_append_left (by rw [blk_list_len]; exact hj), Array.getElem?_toList]
      exact blk0 hj
    · rw [List.getElem?_append_right (by rw [blk_list_len]; omega), blk_list_len]
      exact blkCells_noughts n (j - 1024) (by omega)
/-- A list of blocks is made. -/
theorem make50 (u : World) (n : Nat) (hn : n ≤ 1000) (B : Nat) (hB : B ≤ u.heap.size) : ∃ cur, (Instr.makeSlice 50 (.int .i64 (n : Int)) (.int .i64 (n : Int))).run Try.prog u = .ok (.slice (some ⟨u.heap.size, 0, none⟩) n n) (u.alloc (.cells cur 46)) ∧
    (u.alloc (.cells cur 46)).ownsRow B 46 1024 (.slice (some ⟨u.heap.size, 0, none⟩) n n) (List.replicate n nought).length (blkCells (List.replicate n nought)) := by
  obtain ⟨i0, hi0, hz0, hz1, hz2⟩ := info_parts info23b
  have h := run_make (P := Try.prog) u 50 46 i0 _ Try.underlying50 hi0 hz0 .i64 .i64 n n (by omega) (Int.le_refl _) (by rw [hz2]; omega) (by omega)
  rw [Int.toNat_natCast, hz1] at h
  refine ⟨_, h, ?_⟩
  have hl : (List.replicate n nought).length = n := List.length_replicate ..
  refine ⟨blkCells_len _, .inr ⟨u.heap.size, n, _, by rw [hl], hB, heap_alloc_new u _, by rw [hl]; exact Nat.le_refl _, by unfold maxLen; omega, by simp [madeCells], ?_⟩⟩
  apply List.ext_getElem?
  intro j
  rw [hl]
  by_cases hj : j < n * 1024
  · rw [List.getElem?_take_of_lt hj, blkCells_noughts n j hj, Array.getElem?_toList]
    have hs : (Value.agg (blk nought)).cells.size = 1024 := blk_size nought
    have hm : j % 1024 < 1024 := Nat.mod_lt _ (by omega)
    have hc : (Value.agg (blk nought)).cells = blk nought := rfl
    unfold madeCells
    rw [Array.getElem?_map, Array.getElem?_range, if_pos hj]
    simp only [Option.map_some]
    rw [hs, hc, Array.getElem!_eq_getD, Array.getD_eq_getD_getElem?, blk0 hm]
    rfl
  · rw [List.getElem?_eq_none (by rw [List.length_take]; omega), List.getElem?_eq_none (by rw [blkCells_len, hl]; omega)]
theorem exec_make50 {a : Act} {o : Oper} {y z : Operand} {u u' : World} {n : Nat} {v : Value} (ho : o.op = .makeSlice 50 y z) (hy : a.eval y = .int .i64 (n : Int)) (hz : a.eval z = .int .i64 (n : Int)) (hr : (Instr.makeSlice 50 (.int .i64 (n : Int)) (.int .i64 (n : Int))).run Try.prog u = .ok v u') :
    (execOp a.eval o).run Try.prog u = .ok (.value v) u' := by
  simp [execOp, ho, hy, hz, hr]
/-- A write that is refused. -/
theorem LogI.wrArg (h : LogI w W g d x t book ks) {k : Int} {f : Nat → Int} (hr : refL x t true = 0) (hk : k < 1 ∨ x.b ≤ k ∨ k < 1 + x.l) :
    Calls Try.prog 15 #[ptr g, .int .i64 k, .agg (blk f)] W fun e W' => e = .returned (.int .i64 2) ∧ LogI w W' g d x t book ks := by
  obtain ⟨s, h1, hI⟩ := h
  refine (writeL_arg h1 hr (k := k) ?_).mono fun e W' ⟨he, h2⟩ => ⟨he, s, h2, hI⟩
  by_cases h0 : k < 1
  · exact .inl h0
  · rcases hk with q | q | q
    · exact absurd q h0
    · exact .inr (.inl q)
    · exact .inr (.inr (decide_eq_true ⟨by omega, q⟩))
theorem LogI.wrTight (h : LogI w W g d x t book ks) {k : Int} {f : Nat → Int} (hr : refL x t true = 0) (hk : 1 + x.l ≤ k ∧ k < x.b) (hby : byB x k x.steps = false) (hz : x.room = 0) :
    Calls Try.prog 15 #[ptr g, .int .i64 k, .agg (blk f)] W fun e W' => e = .returned (.int .i64 181) ∧ LogI w W' g d x t book ks := by
  obtain ⟨s, h1, hI⟩ := h
  exact (writeL_tight h1 hr hk hI.fine.1 hI.fine.2.2.2.2.1 hby hz).mono fun e W' ⟨he, h2⟩ => ⟨he, s, h2, hI⟩
end Go.Proofs.Ytahaiciciljijab
