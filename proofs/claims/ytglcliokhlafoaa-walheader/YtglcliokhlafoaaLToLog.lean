/- The group's blocks are held in the log; no condition but that numbers do not pass their greatest. -/
import Derived.Test.YtglcliokhlafoaaLPlaces
namespace Go.Proofs.Ytglcliokhlafoaa
open Go.RowKit Go.Maps
variable {w W : World} {g d c mb : Nat} {v : Value} {x : LSt} {s : CSt} {t : St} {os ks : List (Nat × Obj)} {base : Nat} {book : Int → Nat → Int}
theorem inLog_any (b l i j : Int) (hj : 0 ≤ j ∧ j ≤ 1048576) (W : World) : Calls Try.prog 42 #[.agg (layA b l i), .int .i64 j] W fun e W' => e = .returned (.int .i64 (2 + j)) ∧ W' = W.alloc (.cells (layA b l i) 30) := by
  have hsz : (layA b l i).size = 9 := rfl
  have c3 : (W.alloc (.cells (layA b l i) 30)).cell? ⟨W.heap.size, 3, none⟩ = some (.int .i64 1) := Joins.cell_of_block (heap_alloc_new _ _) 3
  generalize layA b l i = L at *
  go_enter Try.func42, Try.ntmps42
  go_wp2
  go_ret
  exact ⟨rfl, rfl⟩
/-- Block j of the group, in the log. -/
def lgOps (book : Int → Nat → Int) (l : List Int) (i : Nat) : List (Option Cel) := (List.range i).map fun (j : Nat) => some (2 + (j : Int), book (l.getD j 0))
theorem lgOps_len (l : List Int) (i : Nat) : (lgOps book l i).length = i := by simp [lgOps]
theorem lgOps_succ {l : List Int} {i : Nat} {y : Int} (h : l[i]? = some y) : lgOps book l (i + 1) = lgOps book l i ++ [some (2 + (i : Int), book y)] := by
  unfold lgOps
  rw [List.range_succ, List.map_append]
  simp [List.getD, h]
theorem lgOps_more (l : List Int) (i : Nat) : ∀ n, i ≤ n → ∃ r, lgOps book l n = lgOps book l i ++ r
  | 0, h => ⟨[], by obtain rfl : i = 0 := by omega
                    simp⟩
  | n + 1, h => by
    by_cases e : i = n + 1
    · exact ⟨[], by rw [e]; simp⟩
    · obtain ⟨r, hr⟩ := lgOps_more l i n (by omega)
      refine ⟨r ++ [some (2 + (n : Int), book (l.getD n 0))], ?_⟩
      rw [← List.append_assoc, ← hr]
      unfold lgOps
      rw [List.range_succ, List.map_append]
      rfl
theorem run_ended {a b : List (Option Cel)} (h : runE a t ≠ 0) : runE (a ++ b) t = runE a t ∧ runV (a ++ b) t = runV a t := by
  rw [runE_append, runV_append, if_neg h, if_neg h]
  exact ⟨rfl, rfl⟩
theorem LS.cread (h : LS w W g d c mb v x s t os ks) (hr : Room t) (k : Int) : Calls Try.prog 85 #[ptr c, .int .i64 k] W fun e W' => e = .returned (.tuple #[.agg (blk (rdB s t k)), .int .i64 (usedE s t k)]) ∧ LS w W' g d c mb v x (rdC s t k) (rdD s t k) os ks :=
  (sit_read h.sit hr k).mono fun _ _ ⟨h1, h2⟩ => ⟨h1, h.step h2⟩
theorem LS.dwrite (h : LS w W g d c mb v x s t os ks) (hr : Room t) (k : Int) {f : Nat → Int} (hf : Can f) : Calls Try.prog 63 #[ptr d, .int .i64 k, .agg (blk f)] W fun e W' => e = .returned (.int .i64 (writeE t k)) ∧ LS w W' g d c mb v x s (writeV t k f) os ks :=
  (dsit_write h.sit hr k hf).mono fun _ _ ⟨h1, h2⟩ => ⟨h1, h.step h2⟩
/-- Behind the first i of them. -/
def LgI (w : World) (g d c mb : Nat) (v : Value) (x : LSt) (n0 : Int) (t : St) (book : Int → Nat → Int) (os ks : List (Nat × Obj)) (i : Nat) (wx : World) : Prop :=
  ∃ s', LS w wx g d c mb v x s' (runV (lgOps book x.blocks i) t) os ks ∧ runE (lgOps book x.blocks i) t = 0 ∧ CInv x.b x.l s' (runV (lgOps book x.blocks i) t) book (inB x) ∧ (fastN s'.row : Int) = n0
variable {n0 : Int} {i : Nat} {wx : World}
theorem LgI.later {W' : World} (h : LgI w g d c mb v x n0 t book os ks i wx) (hb : Below wx.heap.size wx W') : LgI w g d c mb v x n0 t book os ks i W' := by
  obtain ⟨s', h1, h2⟩ := h
  exact ⟨s', h1.later hb, h2⟩
theorem LgI.add (h : LgI w g d c mb v x n0 t book os ks i wx) (o : Obj) : LgI w g d c mb v x n0 t book os ((wx.heap.size, o) :: ks) i (wx.alloc o) := by
  obtain ⟨s', h1, h2⟩ := h
  exact ⟨s', h1.add o, h2⟩
theorem LgI.drop (h : LgI w g d c mb v x n0 t book os ks i wx) {ks' : List (Nat × Obj)} (hs : ∀ p ∈ ks', p ∈ ks) : LgI w g d c mb v x n0 t book os ks' i wx := by
  obtain ⟨s', h1, h2⟩ := h
  exact ⟨s', h1.drop hs, h2⟩
theorem LgI.row (h : LgI w g d c mb v x n0 t book os ks i wx) : wx.heap[g]? = some (.cells (lgRow g d c mb v x) 86) := by
  obtain ⟨s', h1, h2⟩ := h
  exact h1.log.row
theorem LgI.obj (h : LgI w g d c mb v x n0 t book os ks i wx) {q : Nat} {o : Obj} (hm : (q, o) ∈ ks) : wx.heap[q]? = some o := by
  obtain ⟨s', h1, h2⟩ := h
  exact h1.sit.blk (List.mem_append.2 (.inr hm))
theorem LgI.read (h : LgI w g d c mb v x n0 t book os ks i wx) (hs : t.stopped = false) (hn0 : n0 < x.l) (hrng : ∀ k ∈ x.blocks, Dat x.b x.l k) {y : Int} (hy : y ∈ x.blocks) (hrm : Rm t (i + 2)) :
    Calls Try.prog 85 #[ptr c, .int .i64 y] wx fun e W' => e = .returned (.tuple #[.agg (blk (book y)), .int .i64 0]) ∧ LgI w g d c mb v x n0 t book os ks i W' := by
  obtain ⟨s', h1, h2, h3, h4⟩ := h
  have hRm : Rm (runV (lgOps book x.blocks i) t) 2 := Rm.run (n := 2) (hrm.le (by rw [lgOps_len]; omega))
  have hlv := run_live _ _ hs h2
  have hD := hrng y hy
  have hu := h3.used hlv hD (by rw [h4]; exact hn0)
  have hF : inB x y = true := decide_eq_true hy
  refine (h1.cread (Rm.room hRm) y).mono ?_
  rintro e W' ⟨rfl, h5⟩
  obtain ⟨a1, a2, a3, _⟩ := h3.read hD hu h5.sit.ok.1
  rw [a3 hF] at h5 a1
  exact ⟨by rw [h3.reads hD hu, hu], _, h5, h2, a1, by rw [a2]; exact h4⟩
theorem CInv.can {b l : Int} {F : Int → Bool} {k : Int} (h : CInv b l s t book F) (hF : F k = true) : Can (book k) := by
  obtain ⟨z, _, hz, _, _, hd⟩ := h.fastAt hF
  rw [← hd]
  exact (h.ok.pos z hz).2
theorem LgI.write (h : LgI w g d c mb v x n0 t book os ks i wx) (hs : t.stopped = false) (hlen : (x.blocks.length : Int) ≤ x.l - 1) {y : Int} (hy : x.blocks[i]? = some y) (hrm : Rm t (i + 2)) :
    Calls Try.prog 63 #[ptr d, .int .i64 (2 + (i : Int)), .agg (blk (book y))] wx fun e W' => (e = .returned (.int .i64 0) ∧ LgI w g d c mb v x n0 t book os ks (i + 1) W') ∨ (∃ E, E ≠ 0 ∧ e = .returned (.int .i64 E) ∧ runE (lgOps book x.blocks x.blocks.length ++ [none]) t = E ∧ ∃ s', LS w W' g d c mb v x s' (runV (lgOps book x.blocks x.blocks.length ++ [none]) t) os ks) := by
  obtain ⟨s', h1, h2, h3, h4⟩ := h
  obtain ⟨hi, hyy⟩ := List.getElem?_eq_some_iff.1 hy
  have hmem : y ∈ x.blocks := by rw [← hyy]; exact List.getElem_mem _
  have hRm : Rm (runV (lgOps book x.blocks i) t) 2 := Rm.run (n := 2) (hrm.le (by rw [lgOps_len]; omega))
  have hlv := run_live _ _ hs h2
  have hF : inB x y = true := decide_eq_true hmem
  refine (h1.dwrite (Rm.room hRm) (2 + (i : Int)) (h3.can hF)).mono ?_
  rintro e W' ⟨rfl, h5⟩
  obtain ⟨r1, r2⟩ := run_snoc (o := some (2 + (i : Int), book y)) h2
  rw [← lgOps_succ hy] at r1 r2
  by_cases he : writeE (runV (lgOps book x.blocks i) t) (2 + (i : Int)) = 0
  · have hl : refV (runV (lgOps book x.blocks i) t) (2 + (i : Int)) = 0 ∧ lets (runV (lgOps book x.blocks i) t) = true := by
      unfold writeE at he
      split at he
      · rename_i q
        refine ⟨q, ?_⟩
        cases hq : lets (runV (lgOps book x.blocks i) t)
        · rw [hq] at he; simp at he
        · rfl
      · rename_i q
        exact absurd he q
    refine .inl ⟨by rw [he], s', by rw [r2]; exact h5, by rw [r1]; exact he, ?_, h4⟩
    rw [r2]
    refine h3.disk (dop_nums _ (some (2 + (i : Int), book y))).2.2.2.2.1 fun j hj => ?_
    show curV (writeV _ _ _) j = _
    rw [cur_write hl.2 hl.1, if_neg fun q => hj.2 ⟨by omega, by omega⟩]
  · obtain ⟨r, hr⟩ := lgOps_more (book := book) x.blocks (i + 1) x.blocks.length (by omega)
    have h6 : runE (lgOps book x.blocks (i + 1)) t ≠ 0 := by rw [r1]; exact he
    obtain ⟨q1, q2⟩ := run_ended (b := r ++ [none]) h6
    rw [← List.append_assoc, ← hr] at q1 q2
    exact .inr ⟨_, he, rfl, by rw [q1, r1]; rfl, s', by rw [q2, r2]; exact h5⟩
end Go.Proofs.Ytglcliokhlafoaa
