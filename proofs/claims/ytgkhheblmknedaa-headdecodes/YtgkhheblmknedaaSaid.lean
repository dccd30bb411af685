/- The targets that a block says, in memory of their own; at most 255 of them. -/
import Derived.Test.YtgkhheblmknedaaEnc2
import Derived.Laws.MakeOwn
namespace Go.Proofs.Ytgkhheblmknedaa
open Go.RowKit
theorem info3 : (Try.prog.info? 3).map (fun i => (i.zero, i.size, i.bytes)) = some (some (.int .i64 0), 1, 8) := by kernel_rfl
/-- m numbers as cells. -/
def rowI (f : Nat → Int) (m : Nat) : Array Value := ((List.range m).map fun i => Value.int .i64 (f i)).toArray
theorem rowI_size (f : Nat → Int) (m : Nat) : (rowI f m).size = m := by simp [rowI]
theorem rowI_get (f : Nat → Int) (m i : Nat) (h : i < m) : (rowI f m)[i]? = some (.int .i64 (f i)) := by simp [rowI, h]
theorem rowI_ext {f : Nat → Int} {m : Nat} {cs : Array Value} (hs : cs.size = m) (h : ∀ i, i < m → cs[i]? = some (.int .i64 (f i))) : cs = rowI f m := by
  apply Array.ext_getElem?
  intro i
  by_cases hi : i < m
  · rw [h i hi, rowI_get f m i hi]
  · rw [Array.getElem?_eq_none (by omega), Array.getElem?_eq_none (by rw [rowI_size]; omega)]
theorem rowI_congr {f g : Nat → Int} {m : Nat} (h : ∀ i, i < m → f i = g i) : rowI f m = rowI g m :=
  rowI_ext (rowI_size f m) fun i hi => by rw [rowI_get f m i hi, h i hi]
theorem rowI_set (f : Nat → Int) (m i : Nat) (x : Int) : (rowI f m).setIfInBounds i (.int .i64 x) = rowI (upd f i x) m := by
  refine rowI_ext (by rw [Array.size_setIfInBounds, rowI_size]) fun j hj => ?_
  rw [Array.getElem?_setIfInBounds]
  by_cases e : i = j
  · subst e; simp [rowI_size, hj, upd]
  · have e' : ¬ j = i := fun q => e q.symm
    simp [e, e', rowI_get _ _ _ hj, upd]
theorem made_rowI (m : Nat) : madeCells #[Value.int .i64 0] m = rowI nought m :=
  rowI_ext (by simp [madeCells]) fun i hi => by simp [madeCells, hi, nought, Nat.mod_one]
theorem cell_rowI {w : World} {g m : Nat} {f : Nat → Int} {t : TypeId} (h : w.heap[g]? = some (.cells (rowI f m) t)) (i : Nat) (hi : i < m) : w.cell? ⟨g, i, none⟩ = some (.int .i64 (f i)) := by
  rw [cell_of_row w g i _ t _ h]; exact rowI_get f m i hi
theorem wpOrd_store3c {ops : Array Oper} {Q : Exit → Act → World → Prop} {S : World → Prop} {r : List (Bool × Oper)} {a : Act} {w : World} {o : Oper} (hw : Region.wanted o (yielded ops a.tmps) = true) (x y : Operand) (ho : o.op = .store 3 x y)
    (g i : Nat) (v : Int) (v0 : Value) (hx : a.eval x = .pointer (some ⟨g, i, none⟩)) (hy : a.eval y = .int .i64 v) (hc : w.cell? ⟨g, i, none⟩ = some v0) (hf : w.frozen? ⟨g, i, none⟩ = false)
    (h : S (w.setCell ⟨g, i, none⟩ (.int .i64 v)) ∧ wpOrd Try.prog ops Q S r (a.put o.dst undef) (w.setCell ⟨g, i, none⟩ (.int .i64 v))) : wpOrd Try.prog ops Q S ((false, o) :: r) a w := by
  simp only [wpOrd, hw, if_true]
  unfold Oper.wp execOp
  simp only [ho, hx, hy]
  simp [go_sem, hc, hf]
  exact h
/-- The targets behind k rounds. -/
def saidK (f : Nat → Int) (k : Nat) : Nat → Int := fun i => if i < k then numN f (4 * (i + 1)) 4 else 0
theorem saidK_next (f : Nat → Int) (k : Nat) : upd (saidK f k) k (numN f (4 * (k + 1)) 4) = saidK f (k + 1) := by
  funext i
  unfold upd saidK
  by_cases h : i = k
  · subst h; rw [if_pos rfl, if_pos (by omega)]
  · rw [if_neg h]
    by_cases h2 : i < k
    · rw [if_pos h2, if_pos (by omega)]
    · rw [if_neg h2, if_neg (by omega)]
theorem saidK_zero (f : Nat → Int) : saidK f 0 = nought := by funext i; unfold saidK nought; rw [if_neg (by omega)]
def listRow (l : List Int) : Array Value := (l.map (Value.int .i64)).toArray
theorem saidK_all (f : Nat → Int) (n : Nat) : rowI (saidK f n) n = listRow (tgts f n) := by
  refine (rowI_ext (by simp [listRow, tgts_len]) fun i hi => ?_).symm
  unfold listRow
  rw [List.getElem?_toArray, List.getElem?_map, tgts_get _ _ _ hi]
  unfold saidK
  rw [if_pos hi]
  rfl
theorem setCell_rowI {w : World} {g m : Nat} {f : Nat → Int} {t : TypeId} (h : w.heap[g]? = some (.cells (rowI f m) t)) (i : Nat) (x : Int) : (w.setCell ⟨g, i, none⟩ (.int .i64 x)).heap[g]? = some (.cells (rowI (upd f i x) m) t) := by
  rw [heap_setCell_same _ _ _ _ _ _ h, rowI_set]
theorem frozen_row {w : World} {g : Nat} {cs : Array Value} {t : TypeId} (h : w.heap[g]? = some (.cells cs t)) (i : Nat) : w.frozen? ⟨g, i, none⟩ = false := by simp [World.frozen?, h]
set_option maxRecDepth 20000 in
set_option maxHeartbeats 2000000 in
theorem said_any (f : Nat → Int) (n : Nat) (w : World) (hf : ∀ i, 0 ≤ f i ∧ f i ≤ 255) (hn : n ≤ 255) :
    Calls Try.prog 38 #[.agg (blk f), .int .i64 n] w fun e w' => e = .returned (.slice (some ⟨w.heap.size + 1, 0, none⟩) n n) ∧ w'.heap[w.heap.size + 1]? = some (.cells (listRow (tgts f n)) 3) ∧ Below w.heap.size w w' := by
  obtain ⟨i0, hi0, hz0, hz1, hz2⟩ := info_parts info3
  have hmk : ∀ u : World, (Instr.makeSlice 24 (.int .i64 (n : Int)) (.int .i64 (n : Int))).run Try.prog u = .ok (.slice (some ⟨u.heap.size, 0, none⟩) n n) (u.alloc (.cells (rowI nought n) 3)) := fun u => by
    have h := run_make (P := Try.prog) u 24 3 i0 (.int .i64 0) Try.underlying24 hi0 hz0 .i64 .i64 (n : Int) (n : Int) (by omega) (Int.le_refl _) (by rw [hz2]; omega) (by omega)
    rw [Int.toNat_natCast] at h
    simpa [hz1, Value.cells, made_rowI] using h
  clear hi0 hz0 hz1 hz2
  have HF : Hid (∀ i, 0 ≤ f i ∧ f i ≤ 255) := hf
  clear hf
  go_enter Try.func38, Try.ntmps38
  go_wp2
  go_loopw [11] (fun s11 wx => ∃ k : Nat, k ≤ n ∧ s11 = .int .i64 k ∧ wx.heap[w.heap.size + 1]? = some (.cells (rowI (saidK f k) n) 3) ∧ wx.heap[w.heap.size]? = some (.cells (blk f) 30) ∧ Below w.heap.size w wx) (fun s11 _ => n - (intOf s11).toNat)
  case atStart => exact ⟨0, by omega, rfl, by rw [saidK_zero]; exact heap_alloc2_new _ _ _, heap_alloc2_old _ _ _, bel_al (below_new _ _) _⟩
  case round =>
    obtain ⟨k, hk, rfl, hg, hg2, hbel⟩ := hrel
    have HW : Hid _ := hbel
    clear hbel hmk
    by_cases hk2 : (k : Int) < n
    · have hst := fun (w : World) => u32_any f (4 * ((k : Int) + 1)) w HF.out
      have hpl := fun (w : World) => place_any k w (by omega)
      have hbd := numN_bd f HF.out 4 (4 * (k + 1))
      rw [show num f (4 * ((k : Int) + 1)) 4 = numN f (4 * (k + 1)) 4 by rw [show 4 * ((k : Int) + 1) = ((4 * (k + 1) : Nat) : Int) by omega, num_in _ _ _ (by omega)]] at hst
      have hnx := saidK_next f k
      generalize numN f (4 * (k + 1)) 4 = x at *
      generalize saidK f k = K at *
      have HST : Hid _ := hst
      have HPL : Hid _ := hpl
      have HN : Hid (upd K k x = saidK f (k + 1)) := hnx
      have hx0 := hbd.1
      have hx1 : x < 4294967296 := hbd.2
      have hwx : IntKind.i64.wrap x = x := by rw [IntKind.wrap_i64]; omega
      clear hst hpl hnx hbd HF
      go_wp2
      refine wp_region_fork (S := fun _ => True) [0, 1, 3] 2 4 [(5, false), (6, true), (7, true), (8, false)] (by kernel_rfl) rfl (by kernel_rfl) (fun d _ _ _ _ h => by cases d <;> exact h) trivial ?_
      refine wpFork_yield (v := .slice (some ⟨w.heap.size + 1, 0, none⟩) n n) rfl rfl (fun u _ => by simp [execOp, Act.eval]) ?_
      simp only [Act.put, List.setIfInBounds_toArray, List.set_cons_succ, List.set_cons_zero]
      refine wpFork_yield (v := .int .i64 (k : Int)) rfl rfl (fun u _ => by simp [execOp, Act.eval]) ?_
      simp only [Act.put, List.setIfInBounds_toArray, List.set_cons_succ, List.set_cons_zero]
      refine wpFork_yield (v := .int .i64 (k : Int)) rfl rfl (fun u _ => by simp [execOp, Act.eval]) ?_
      simp only [Act.put, List.setIfInBounds_toArray, List.set_cons_succ, List.set_cons_zero]
      have hg0 : wr.drew.heap[w.heap.size + 1]? = some (.cells (rowI K n) 3) := hg
      have hg20 : wr.drew.heap[w.heap.size]? = some (.cells (blk f) 30) := hg2
      have HBd : Hid (Below w.heap.size w wr.drew) := HW.out.drew
      clear hg hg2 HW
      generalize wr.drew = wd at *
      refine wpFork_nil rfl rfl ?_ ?_
      all_goals simp only [inOrd, List.getElem?_cons_zero, List.getElem?_cons_succ]
      · refine wpOrd_loadF rfl _ rfl _ rfl _ hg20 ⟨trivial, ?_⟩
        simp only [Act.put, List.setIfInBounds_toArray, List.set_cons_succ, List.set_cons_zero]
        refine wpOrd_call rfl 35 _ _ rfl Try.call35 [.int .i64 (k : Int)] rfl ?_
        refine (HPL.out _).mono ?_
        rintro e' X ⟨rfl, rfl⟩
        refine ⟨_, rfl, trivial, ?_⟩
        simp only [Act.put, List.setIfInBounds_toArray, List.set_cons_succ, List.set_cons_zero]
        refine wpOrd_call rfl 26 _ _ rfl Try.call26 [.agg (blk f), .int .i64 (4 * ((k : Int) + 1))] rfl ?_
        refine (HST.out _).mono ?_
        rintro e' X ⟨rfl, hbx⟩
        refine ⟨_, rfl, trivial, ?_⟩
        simp only [Act.put, List.setIfInBounds_toArray, List.set_cons_succ, List.set_cons_zero]
        refine wpOrd_yield (v := .int .i64 x) rfl (fun u _ => by go_simp) ?_
        simp only [Act.put, List.setIfInBounds_toArray, List.set_cons_succ, List.set_cons_zero]
        refine wpOrd_yield (v := .pointer (some ⟨w.heap.size + 1, k, none⟩)) rfl (fun u _ => by go_simp) ?_
        simp only [Act.put, List.setIfInBounds_toArray, List.set_cons_succ, List.set_cons_zero]
        have h1 := heap_kept hg0 hbx
        have h2 := heap_kept hg20 hbx
        have HB1 : Hid (Below w.heap.size w X) := below_next HBd.out hbx
        refine wpOrd_store3c rfl _ _ rfl _ _ _ _ rfl rfl (cell_rowI h1 k (by omega)) (frozen_row h1 k) ⟨trivial, ?_⟩
        refine wpOrd_nil ?_
        have h3 := setCell_rowI h1 k x
        have h4 : (X.setCell ⟨w.heap.size + 1, k, none⟩ (.int .i64 x)).heap[w.heap.size]? = some (.cells (blk f) 30) := (heap_setCell_other _ _ _ _ (by simp)).trans h2
        have HB2 : Hid (Below w.heap.size w (X.setCell ⟨w.heap.size + 1, k, none⟩ (.int .i64 x))) := HB1.out.setCell (p := ⟨w.heap.size + 1, k, none⟩) (by show w.heap.size ≤ w.heap.size + 1; omega) _
        rw [HN.out] at h3
        simp only [Act.put]
        generalize X.setCell ⟨w.heap.size + 1, k, none⟩ (.int .i64 x) = Y at h3 h4 HB2 ⊢
        clear h1 h2 hg0 hg20 HB1 HBd hbx HST HPL
        go_wp2
        exact ⟨⟨k + 1, by omega, by go_num, h3, h4, HB2.out⟩, by simp [intOf]; omega⟩
      · refine wpOrd_call rfl 35 _ _ rfl Try.call35 [.int .i64 (k : Int)] rfl ?_
        refine (HPL.out _).mono ?_
        rintro e' X ⟨rfl, rfl⟩
        refine ⟨_, rfl, trivial, ?_⟩
        simp only [Act.put, List.setIfInBounds_toArray, List.set_cons_succ, List.set_cons_zero]
        refine wpOrd_loadF rfl _ rfl _ rfl _ hg20 ⟨trivial, ?_⟩
        simp only [Act.put, List.setIfInBounds_toArray, List.set_cons_succ, List.set_cons_zero]
        refine wpOrd_call rfl 26 _ _ rfl Try.call26 [.agg (blk f), .int .i64 (4 * ((k : Int) + 1))] rfl ?_
        refine (HST.out _).mono ?_
        rintro e' X ⟨rfl, hbx⟩
        refine ⟨_, rfl, trivial, ?_⟩
        simp only [Act.put, List.setIfInBounds_toArray, List.set_cons_succ, List.set_cons_zero]
        refine wpOrd_yield (v := .int .i64 x) rfl (fun u _ => by go_simp) ?_
        simp only [Act.put, List.setIfInBounds_toArray, List.set_cons_succ, List.set_cons_zero]
        refine wpOrd_yield (v := .pointer (some ⟨w.heap.size + 1, k, none⟩)) rfl (fun u _ => by go_simp) ?_
        simp only [Act.put, List.setIfInBounds_toArray, List.set_cons_succ, List.set_cons_zero]
        have h1 := heap_kept hg0 hbx
        have h2 := heap_kept hg20 hbx
        have HB1 : Hid (Below w.heap.size w X) := below_next HBd.out hbx
        refine wpOrd_store3c rfl _ _ rfl _ _ _ _ rfl rfl (cell_rowI h1 k (by omega)) (frozen_row h1 k) ⟨trivial, ?_⟩
        refine wpOrd_nil ?_
        have h3 := setCell_rowI h1 k x
        have h4 : (X.setCell ⟨w.heap.size + 1, k, none⟩ (.int .i64 x)).heap[w.heap.size]? = some (.cells (blk f) 30) := (heap_setCell_other _ _ _ _ (by simp)).trans h2
        have HB2 : Hid (Below w.heap.size w (X.setCell ⟨w.heap.size + 1, k, none⟩ (.int .i64 x))) := HB1.out.setCell (p := ⟨w.heap.size + 1, k, none⟩) (by show w.heap.size ≤ w.heap.size + 1; omega) _
        rw [HN.out] at h3
        simp only [Act.put]
        generalize X.setCell ⟨w.heap.size + 1, k, none⟩ (.int .i64 x) = Y at h3 h4 HB2 ⊢
        clear h1 h2 hg0 hg20 HB1 HBd hbx HST HPL
        go_wp2
        exact ⟨⟨k + 1, by omega, by go_num, h3, h4, HB2.out⟩, by simp [intOf]; omega⟩
    · obtain rfl : k = n := by omega
      rw [saidK_all] at hg
      clear hk HF
      go_wp2
      go_ret
      exact ⟨rfl, hg, HW.out⟩
end Go.Proofs.Ytgkhheblmknedaa
