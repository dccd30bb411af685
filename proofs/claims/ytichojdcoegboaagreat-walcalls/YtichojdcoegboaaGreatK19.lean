/- Several texts joined: the log, its cache and its disk, of the program and of the document; no condition. -/
import Derived.Test.YtichojdcoegboaaGreatK18
import Derived.Laws.MakeOwn
import Derived.Test.YtichojdcoegboaaGreatK1
import Derived.Laws.CopyOwn
import Derived.Laws.AppendOwnNone
import Derived.Laws.OwnMore
namespace Go.Proofs.YtichojdcoegboaaGreatW.H
open Go.RowKit
theorem info3 : (Tryz.prog.info? 3).map (fun i => (i.zero, i.size, i.bytes)) = some (some (.int .i64 0), 1, 8) := by kernel_rfl
def rowI (f : Nat → Int) (m : Nat) : Array Value := ((List.range m).map fun i => Value.int .i64 (f i)).toArray
theorem rowI_size (f : Nat → Int) (m : Nat) : (rowI f m).size = m := by simp [rowI]
theorem rowI_get (f : Nat → Int) (m i : Nat) (h : i < m) : (rowI f m)[i]? = some (.int .i64 (f i)) := by simp [rowI, h]
theorem rowI_ext {f : Nat → Int} {m : Nat} {cs : Array Value} (hs : cs.size = m) (h : ∀ i, i < m → cs[i]? = some (.int .i64 (f i))) : cs = rowI f m := by
 apply Array.ext_getElem?
 intro i
 by_cases hi : i < m
 ·rw [h i hi, rowI_get f m i hi]
 ·rw [Array.getElem?_eq_none (by omega), Array.getElem?_eq_none (by rw [rowI_size]; omega)]
theorem rowI_set (f : Nat → Int) (m i : Nat) (x : Int) : (rowI f m).setIfInBounds i (.int .i64 x) = rowI (upd f i x) m := by
 refine rowI_ext (by rw [Array.size_setIfInBounds, rowI_size]) fun j hj => ?_
 rw [Array.getElem?_setIfInBounds]
 by_cases e : i = j
 ·subst e; simp [rowI_size, hj, upd]
 ·have e' : ¬ j = i := fun q => e q.symm
  simp [e, e', rowI_get _ _ _ hj, upd]
theorem made_rowI (m : Nat) : madeCells #[Value.int .i64 0] m = rowI nought m :=
 rowI_ext (by simp [madeCells]) fun i hi => by simp [madeCells, hi, nought, Nat.mod_one]
theorem cell_rowI {w : World} {g m : Nat} {f : Nat → Int} {t : TypeId} (h : w.heap[g]? = some (.cells (rowI f m) t)) (i : Nat) (hi : i < m) : w.cell? ⟨g, i, none⟩ = some (.int .i64 (f i)) := by
 rw [cell_of_row w g i _ t _ h]; exact rowI_get f m i hi
theorem wpOrd_store3c {ops : Array Oper} {Q : Exit → Act → World → Prop} {S : World → Prop} {r : List (Bool × Oper)} {a : Act} {w : World} {o : Oper} (hw : Region.wanted o (yielded ops a.tmps) = true) (x y : Operand) (ho : o.op = .store 3 x y)
  (g i : Nat) (v : Int) (v0 : Value) (hx : a.eval x = .pointer (some ⟨g, i, none⟩)) (hy : a.eval y = .int .i64 v) (hc : w.cell? ⟨g, i, none⟩ = some v0) (hf : w.frozen? ⟨g, i, none⟩ = false)
  (h : S (w.setCell ⟨g, i, none⟩ (.int .i64 v)) ∧ wpOrd Tryz.prog ops Q S r (a.put o.dst undef) (w.setCell ⟨g, i, none⟩ (.int .i64 v))) : wpOrd Tryz.prog ops Q S ((false, o) :: r) a w := by
 simp only [wpOrd, hw, if_true]
 unfold Oper.wp execOp
 simp only [ho, hx, hy]
 simp [go_sem, hc, hf]
 exact h
def saidK (f : Nat → Int) (k : Nat) : Nat → Int := fun i => if i < k then numN f (4 * (i + 1)) 4 else 0
theorem saidK_next (f : Nat → Int) (k : Nat) : upd (saidK f k) k (numN f (4 * (k + 1)) 4) = saidK f (k + 1) := by
 funext i
 unfold upd saidK
 by_cases h : i = k
 ·subst h; rw [if_pos rfl, if_pos (by omega)]
 ·rw [if_neg h]
  by_cases h2 : i < k
  ·rw [if_pos h2, if_pos (by omega)]
  ·rw [if_neg h2, if_neg (by omega)]
theorem saidK_zero (f : Nat → Int) : saidK f 0 = nought := by funext i; unfold saidK nought; rw [if_neg (by omega)]
def listRow (l : List Int) : Array Value := (l.map (Value.int .i64)).toArray
theorem saidK_all (f : Nat → Int) (n : Nat) : rowI (saidK f n) n = listRow (tgts f n) := by
 refine (rowI_ext (by simp [listRow, tgts_len]) fun i hi => ?_).symm
 unfold listRow
 rw [List.getElem?_toArray, List.getElem?_map, tgts_get _ _ _ hi]
 unfold saidK
 rw [if_pos hi]
 rfl
theorem setCell_rowI {w : World} {g m : Nat} {f : Nat → Int} {t : TypeId} (h : w.heap[g]? = some (.cells (rowI f m) t)) (i : Nat) (x : Int) : (w.setCell ⟨g, i, none⟩ (.int .i64 x)).heap[g]? = some (.cells (rowI (upd f i x) m) t) := by
 rw [heap_setCell_same _ _ _ _ _ _ h, rowI_set]
theorem frozen_row {w : World} {g : Nat} {cs : Array Value} {t : TypeId} (h : w.heap[g]? = some (.cells cs t)) (i : Nat) : w.frozen? ⟨g, i, none⟩ = false := by simp [World.frozen?, h]
set_option maxRecDepth 20000 in
set_option maxHeartbeats 2000000 in
theorem said_any (f : Nat → Int) (n : Nat) (w : World) (hf : ∀ i, 0 ≤ f i ∧ f i ≤ 255) (hn : n ≤ 255) :
  Calls Tryz.prog 132 #[.agg (blk f), .int .i64 n] w fun e w' => e = .returned (.slice (some ⟨w.heap.size + 1, 0, none⟩) n n) ∧ w'.heap[w.heap.size + 1]? = some (.cells (listRow (tgts f n)) 3) ∧ Below w.heap.size w w' := by
 obtain ⟨i0, hi0, hz0, hz1, hz2⟩ := info_parts info3
 have hmk : ∀ u : World, (Instr.makeSlice 90 (.int .i64 (n : Int)) (.int .i64 (n : Int))).run Tryz.prog u = .ok (.slice (some ⟨u.heap.size, 0, none⟩) n n) (u.alloc (.cells (rowI nought n) 3)) := fun u => by
  have h := run_make (P := Tryz.prog) u 90 3 i0 (.int .i64 0) Tryz.underlying90 hi0 hz0 .i64 .i64 (n : Int) (n : Int) (by omega) (Int.le_refl _) (by rw [hz2]; omega) (by omega)
  rw [Int.toNat_natCast] at h
  simpa [hz1, Value.cells, made_rowI] using h
 clear hi0 hz0 hz1 hz2
 have HF : Hid (∀ i, 0 ≤ f i ∧ f i ≤ 255) := hf
 clear hf
 go_enter Tryz.func132, Tryz.ntmps132
 go_wp2
 go_loopw [11] (fun s11 wx => ∃ k : Nat, k ≤ n ∧ s11 = .int .i64 k ∧ wx.heap[w.heap.size + 1]? = some (.cells (rowI (saidK f k) n) 3) ∧ wx.heap[w.heap.size]? = some (.cells (blk f) 64) ∧ Below w.heap.size w wx) (fun s11 _ => n - (intOf s11).toNat)
 case atStart => exact ⟨0, by omega, rfl, by rw [saidK_zero]; exact heap_alloc2_new _ _ _, heap_alloc2_old _ _ _, bel_al (below_new _ _) _⟩
 case round =>
  obtain ⟨k, hk, rfl, hg, hg2, hbel⟩ := hrel
  have HW : Hid _ := hbel
  clear hbel hmk
  by_cases hk2 : (k : Int) < n
  ·have hst := fun (w : World) => u32_any f (4 * ((k : Int) + 1)) w HF.out
   have hpl := fun (w : World) => place_any k w (by omega)
   have hbd := numN_bd f HF.out 4 (4 * (k + 1))
   rw [show num f (4 * ((k : Int) + 1)) 4 = numN f (4 * (k + 1)) 4 by rw [show 4 * ((k : Int) + 1) = ((4 * (k + 1) : Nat) : Int) by omega, num_in _ _ _ (by omega)]] at hst
   have hnx := saidK_next f k
   generalize numN f (4 * (k + 1)) 4 = x at *
   generalize saidK f k = K at *
   have HST : Hid _ := hst
   have HPL : Hid _ := hpl
   have HN : Hid (upd K k x = saidK f (k + 1)) := hnx
   have hx0 := hbd.1
   have hx1 : x < 4294967296 := hbd.2
   have hwx : IntKind.i64.wrap x = x := by rw [IntKind.wrap_i64]; omega
   clear hst hpl hnx hbd HF
   go_wp2
   refine wp_region_fork (S := fun _ => True) [0, 1, 3] 2 4 [(5, false), (6, true), (7, true), (8, false)] (by kernel_rfl) rfl (by kernel_rfl) (fun d _ _ _ _ h => by cases d <;> exact h) trivial ?_
   refine wpFork_yield (v := .slice (some ⟨w.heap.size + 1, 0, none⟩) n n) rfl rfl (fun u _ => by simp [execOp, Act.eval]) ?_
   simp only [Act.put, pA, pB, pC]
   refine wpFork_yield (v := .int .i64 (k : Int)) rfl rfl (fun u _ => by simp [execOp, Act.eval]) ?_
   simp only [Act.put, pA, pB, pC]
   refine wpFork_yield (v := .int .i64 (k : Int)) rfl rfl (fun u _ => by simp [execOp, Act.eval]) ?_
   simp only [Act.put, pA, pB, pC]
   have hg0 : wr.drew.heap[w.heap.size + 1]? = some (.cells (rowI K n) 3) := hg
   have hg20 : wr.drew.heap[w.heap.size]? = some (.cells (blk f) 64) := hg2
   have HBd : Hid (Below w.heap.size w wr.drew) := HW.out.drew
   clear hg hg2 HW
   generalize wr.drew = wd at *
   refine wpFork_nil rfl rfl ?_ ?_
   all_goals simp only [inOrd, List.getElem?_cons_zero, List.getElem?_cons_succ]
   ·refine wpOrd_loadF rfl _ rfl _ rfl _ hg20 ⟨trivial, ?_⟩
    simp only [Act.put, pA, pB, pC]
    refine wpOrd_call rfl 129 _ _ rfl Tryz.call129 [.int .i64 (k : Int)] rfl ?_
    refine (HPL.out _).mono ?_
    rintro e' X ⟨rfl, rfl⟩
    refine ⟨_, rfl, trivial, ?_⟩
    simp only [Act.put, pA, pB, pC]
    refine wpOrd_call rfl 130 _ _ rfl Tryz.call130 [.agg (blk f), .int .i64 (4 * ((k : Int) + 1))] rfl ?_
    refine (HST.out _).mono ?_
    rintro e' X ⟨rfl, hbx⟩
    refine ⟨_, rfl, trivial, ?_⟩
    simp only [Act.put, pA, pB, pC]
    refine wpOrd_yield (v := .int .i64 x) rfl (fun u _ => by go_simp) ?_
    simp only [Act.put, pA, pB, pC]
    refine wpOrd_yield (v := .pointer (some ⟨w.heap.size + 1, k, none⟩)) rfl (fun u _ => by go_simp) ?_
    simp only [Act.put, pA, pB, pC]
    have h1 := heap_kept hg0 hbx
    have h2 := heap_kept hg20 hbx
    have HB1 : Hid (Below w.heap.size w X) := below_next HBd.out hbx
    refine wpOrd_store3c rfl _ _ rfl _ _ _ _ rfl rfl (cell_rowI h1 k (by omega)) (frozen_row h1 k) ⟨trivial, ?_⟩
    refine wpOrd_nil ?_
    have h3 := setCell_rowI h1 k x
    have h4 : (X.setCell ⟨w.heap.size + 1, k, none⟩ (.int .i64 x)).heap[w.heap.size]? = some (.cells (blk f) 64) := (heap_setCell_other _ _ _ _ (by simp)).trans h2
    have HB2 : Hid (Below w.heap.size w (X.setCell ⟨w.heap.size + 1, k, none⟩ (.int .i64 x))) := HB1.out.setCell (p := ⟨w.heap.size + 1, k, none⟩) (by show w.heap.size ≤ w.heap.size + 1; omega) _
    rw [HN.out] at h3
    simp only [Act.put]
    generalize X.setCell ⟨w.heap.size + 1, k, none⟩ (.int .i64 x) = Y at h3 h4 HB2 ⊢
    clear h1 h2 hg0 hg20 HB1 HBd hbx HST HPL
    go_wp2
    exact ⟨⟨k + 1, by omega, by go_num, h3, h4, HB2.out⟩, by simp [intOf]; omega⟩
   ·refine wpOrd_call rfl 129 _ _ rfl Tryz.call129 [.int .i64 (k : Int)] rfl ?_
    refine (HPL.out _).mono ?_
    rintro e' X ⟨rfl, rfl⟩
    refine ⟨_, rfl, trivial, ?_⟩
    simp only [Act.put, pA, pB, pC]
    refine wpOrd_loadF rfl _ rfl _ rfl _ hg20 ⟨trivial, ?_⟩
    simp only [Act.put, pA, pB, pC]
    refine wpOrd_call rfl 130 _ _ rfl Tryz.call130 [.agg (blk f), .int .i64 (4 * ((k : Int) + 1))] rfl ?_
    refine (HST.out _).mono ?_
    rintro e' X ⟨rfl, hbx⟩
    refine ⟨_, rfl, trivial, ?_⟩
    simp only [Act.put, pA, pB, pC]
    refine wpOrd_yield (v := .int .i64 x) rfl (fun u _ => by go_simp) ?_
    simp only [Act.put, pA, pB, pC]
    refine wpOrd_yield (v := .pointer (some ⟨w.heap.size + 1, k, none⟩)) rfl (fun u _ => by go_simp) ?_
    simp only [Act.put, pA, pB, pC]
    have h1 := heap_kept hg0 hbx
    have h2 := heap_kept hg20 hbx
    have HB1 : Hid (Below w.heap.size w X) := below_next HBd.out hbx
    refine wpOrd_store3c rfl _ _ rfl _ _ _ _ rfl rfl (cell_rowI h1 k (by omega)) (frozen_row h1 k) ⟨trivial, ?_⟩
    refine wpOrd_nil ?_
    have h3 := setCell_rowI h1 k x
    have h4 : (X.setCell ⟨w.heap.size + 1, k, none⟩ (.int .i64 x)).heap[w.heap.size]? = some (.cells (blk f) 64) := (heap_setCell_other _ _ _ _ (by simp)).trans h2
    have HB2 : Hid (Below w.heap.size w (X.setCell ⟨w.heap.size + 1, k, none⟩ (.int .i64 x))) := HB1.out.setCell (p := ⟨w.heap.size + 1, k, none⟩) (by show w.heap.size ≤ w.heap.size + 1; omega) _
    rw [HN.out] at h3
    simp only [Act.put]
    generalize X.setCell ⟨w.heap.size + 1, k, none⟩ (.int .i64 x) = Y at h3 h4 HB2 ⊢
    clear h1 h2 hg0 hg20 HB1 HBd hbx HST HPL
    go_wp2
    exact ⟨⟨k + 1, by omega, by go_num, h3, h4, HB2.out⟩, by simp [intOf]; omega⟩
  ·obtain rfl : k = n := by omega
   rw [saidK_all] at hg
   clear hk HF
   go_wp2
   go_ret
   exact ⟨rfl, hg, HW.out⟩
end Go.Proofs.YtichojdcoegboaaGreatW.H
namespace Go.Proofs.YtichojdcoegboaaGreatW.H
open Go.RowKit
theorem size35H : (Tryz.prog.info? 129).map (·.size) = some 1 := by kernel_rfl
theorem under35 : Tryz.prog.underlying 129 = some (.struct (Tryz.prog.fieldsOf 129)) := by kernel_rfl
theorem load35H (w : World) (g : Nat) (v : Value) (h : w.heap[g]? = some (.cells #[v] 129)) : (loadVar 129 ⟨g, 0, none⟩).run Tryz.prog w = .ok (.agg #[v]) w :=
 run_loadVar_row w g 129 129 #[v] (0, 0) _ h under35 rfl size35H
section
variable {ops : Array Oper} {rest : List Oper} {o : Oper} {a : Act} {w : World} {Q : Exit → Act → World → Prop}
theorem wpList_load35H (hgd : o.guard = none) (x : Operand) (ho : o.op = .load 129 x) (g : Nat) (hx : a.eval x = .pointer (some ⟨g, 0, none⟩)) (v : Value) (hg : w.heap[g]? = some (.cells #[v] 129))
  (h : wpList Tryz.prog ops Q rest (a.put o.dst (.agg #[v])) w) : wpList Tryz.prog ops Q (o :: rest) a w :=
 wpList_load_row hgd 129 x ho g hx 129 #[v] (0, 0) _ hg under35 rfl size35H h
theorem wpList_store35H (hgd : o.guard = none) (x y : Operand) (ho : o.op = .store 129 x y) (g : Nat) (v v0 : Value) (hv : v.oneCell' = true) (hx : a.eval x = .pointer (some ⟨g, 0, none⟩)) (hy : a.eval y = .agg #[v]) (hg : w.heap[g]? = some (.cells #[v0] 129))
  (h : wpList Tryz.prog ops Q rest (a.put o.dst undef) (w.setRow g #[v])) : wpList Tryz.prog ops Q (o :: rest) a w := by
 refine wpList_plain hgd fun _ hK => ?_
 unfold Oper.wp execOp
 simp only [ho, hx, hy, Instr.storeAt, Instr.sureAddr, Sem.run_bind, Sem.run_pure, Result.andThen_ok, run_storeVar_row w g 129 129 #[v0] #[v] hg size35H rfl (by simp [hv])]
 exact hK _ _ h
end
set_option maxRecDepth 20000 in
set_option maxHeartbeats 400000 in
theorem dec_more (b l i a c d e f g : Int) (F : Nat → Int) (w : World) (hb : I64 b) (hs : standsB b l i a c d e f g = true) (hl : 32 ≤ l ∧ l ≤ 256) (hF : ∀ i, 0 ≤ F i ∧ F i ≤ 255) (hn : l - 1 < numN F 0 4) :
  Calls Tryz.prog 104 #[.agg (lay9 b l i a c d e f g), .agg (blk F)] w fun e' w' => e' = .returned (.tuple #[.agg #[.slice none 0 0], .int .i64 4]) ∧ Below w.heap.size w w' := by
 have hc := fun w => hstands_any b l i a c d e f g w hb
 rw [hs] at hc
 have hM := fun w => most_any b l i a c d e f g w hl
 have hU := fun w => u32_any F 0 w hF
 rw [show num F 0 4 = numN F 0 4 from num_in F 0 4 (by omega)] at hU
 clear hs hF
 have hsz : (lay9 b l i a c d e f g).size = 9 := rfl
 generalize lay9 b l i a c d e f g = L at *
 generalize numN F 0 4 = n at *
 have hm : 27 ≤ l - 1 ∧ l - 1 ≤ 255 := by omega
 generalize l - 1 = m at *
 have g0 : decide (m < n) = true := decide_eq_true hn
 have hwr : IntKind.u32.wrap m = m := by rw [wrap_u32]; omega
 go_enter Tryz.func104, Tryz.ntmps104
 go_wp2_with (first | refine wpList_loadL rfl _ rfl _ rfl _ hsz (heap3o _ _ _ _) ?_ | (go_at_call 126; fail))
 refine (hc _).mono ?_
 rintro e' W1 ⟨rfl, hb1⟩
 have h0 := heap_kept (heap3o w _ _ _) hb1
 have h1 := heap_kept (heap3 w _ _ _) hb1
 have h2 := heap_kept (heap3n w _ _ _) hb1
 have HB : Hid (Below w.heap.size w W1) := below_next (below3 _ _ _ _) hb1
 clear hb1 hc
 go_wp2_with (first | refine wpList_load25 rfl _ rfl _ rfl _ h1 ?_ | (go_at_call 130; fail))
 refine (hU _).mono ?_
 rintro e' W2 ⟨rfl, hb2⟩
 have h3 := heap_kept h2 hb2
 have h4 := heap_kept h0 hb2
 have HB2 : Hid (Below w.heap.size w W2) := below_next HB.out hb2
 clear hb2 hU h0 h1 h2 HB
 go_wp2_with (first | refine wpList_loadL rfl _ rfl _ rfl _ hsz h4 ?_ | (go_at_call 131; fail))
 refine (hM _).mono ?_
 rintro e' W3 ⟨rfl, hb3⟩
 have h5 := heap_kept h3 hb3
 have HB3 : Hid (Below w.heap.size w W3) := below_next HB2.out hb3
 clear hb3 hM h3 h4 HB2
 go_wp2_with (first | refine wpList_store35H rfl _ _ rfl _ _ _ rfl rfl rfl h5 ?_)
 refine retCT rfl (w.heap.size + 2) _ rfl (load35H _ _ _ (setRow_heap _ _ _ _ _ _ h5)) rfl ⟨rfl, below_setRow HB3.out (by omega) _⟩
theorem listRow_at {W : World} {q : Nat} {T : List Int} (h : W.heap[q]? = some (.cells (listRow T) 3)) : IntsAt W (some ⟨q, 0, none⟩) T := fun _ =>
 ⟨q, 0, rfl, (Array.getElem?_eq_some_iff.1 h).1, fun j x hx => by
  rw [cell_of_row W q _ _ 3 _ h]
  unfold listRow
  rw [List.getElem?_toArray, List.getElem?_map, Nat.zero_add, hx]
  rfl⟩
set_option maxRecDepth 20000 in
set_option maxHeartbeats 1000000 in
theorem dec_bad (b l i a c d e f g : Int) (F : Nat → Int) (n : Nat) (w : World) (hb : I64 b) (hs : standsB b l i a c d e f g = true) (hl : 32 ≤ l ∧ l ≤ 256) (hF : ∀ i, 0 ≤ F i ∧ F i ≤ 255) (hN : numN F 0 4 = n) (hn : (n : Int) ≤ l - 1)
  (hm : mayB c b (l - 1) (tgts F n) = false) :
  Calls Tryz.prog 104 #[.agg (lay9 b l i a c d e f g), .agg (blk F)] w fun e' w' => e' = .returned (.tuple #[.agg #[.slice none 0 0], .int .i64 4]) ∧ Below w.heap.size w w' := by
 have hc := fun w => hstands_any b l i a c d e f g w hb
 rw [hs] at hc
 have hM := fun w => most_any b l i a c d e f g w hl
 have hU := fun w => u32_any F 0 w hF
 rw [show num F 0 4 = numN F 0 4 from num_in F 0 4 (by omega), hN] at hU
 have hS := fun w => said_any F n w hF (by omega)
 have hA := fun W (p : Option Addr) (h : IntsAt W p (tgts F n)) => may_any b l i a c d e f g (tgts F n) p n W hl (by rw [tgts_len]; omega) h (allU_wf (tgts_u F hF n))
 rw [hm, tgts_len] at hA
 have HI : Hid (∀ (W : World) (q : Nat), W.heap[q]? = some (.cells (listRow (tgts F n)) 3) → IntsAt W (some ⟨q, 0, none⟩) (tgts F n)) := fun W q h => listRow_at h
 clear hs hF hm hN
 have hsz : (lay9 b l i a c d e f g).size = 9 := rfl
 generalize tgts F n = T at *
 generalize lay9 b l i a c d e f g = L at *
 have hm : 27 ≤ l - 1 ∧ l - 1 ≤ 255 := by omega
 generalize l - 1 = m at *
 have g0 : decide (m < (n : Int)) = false := decide_eq_false (by omega)
 have hwr : IntKind.u32.wrap m = m := by rw [wrap_u32]; omega
 have hwn : IntKind.i64.wrap (n : Int) = n := by rw [IntKind.wrap_i64]; omega
 go_enter Tryz.func104, Tryz.ntmps104
 go_wp2_with (first | refine wpList_loadL rfl _ rfl _ rfl _ hsz (heap3o _ _ _ _) ?_ | (go_at_call 126; fail))
 refine (hc _).mono ?_
 rintro e' W1 ⟨rfl, hb1⟩
 have h0 := heap_kept (heap3o w _ _ _) hb1
 have h1 := heap_kept (heap3 w _ _ _) hb1
 have h2 := heap_kept (heap3n w _ _ _) hb1
 have HB : Hid (Below w.heap.size w W1) := below_next (below3 _ _ _ _) hb1
 clear hb1 hc
 go_wp2_with (first | refine wpList_load25 rfl _ rfl _ rfl _ h1 ?_ | (go_at_call 130; fail))
 refine (hU _).mono ?_
 rintro e' W2 ⟨rfl, hb2⟩
 have h3 := heap_kept h2 hb2
 have h4 := heap_kept h0 hb2
 have h4b := heap_kept h1 hb2
 have HB2 : Hid (Below w.heap.size w W2) := below_next HB.out hb2
 clear hb2 hU h0 h1 h2 HB
 go_wp2_with (first | refine wpList_loadL rfl _ rfl _ rfl _ hsz h4 ?_ | (go_at_call 131; fail))
 refine (hM _).mono ?_
 rintro e' W3 ⟨rfl, hb3⟩
 have h5 := heap_kept h3 hb3
 have h6 := heap_kept h4 hb3
 have h6b := heap_kept h4b hb3
 have HB3 : Hid (Below w.heap.size w W3) := below_next HB2.out hb3
 clear hb3 hM h3 h4 h4b HB2
 go_wp2_with (first | refine wpList_load25 rfl _ rfl _ rfl _ h6b ?_ | (go_at_call 132; fail))
 refine (hS _).mono ?_
 rintro e' W4 ⟨rfl, hrow, hb4⟩
 have h7 := heap_kept h5 hb4
 have h8 := heap_kept h6 hb4
 have hq : w.heap.size ≤ W3.heap.size + 1 := by have := HB3.out.size; omega
 generalize W3.heap.size + 1 = q at *
 have HB4 : Hid (Below w.heap.size w W4) := below_next HB3.out hb4
 clear hb4 hS h5 h6 h6b HB3
 go_wp2_with (first | refine wpList_loadL rfl _ rfl _ rfl _ hsz h8 ?_ | (go_at_call 127; fail))
 refine (hA _ _ (HI.out _ _ hrow)).mono ?_
 rintro e' W5 ⟨rfl, hb5⟩
 have h9 := heap_kept h7 hb5
 have hrow2 := heap_kept hrow hb5
 have HB5 : Hid (Below w.heap.size w W5) := below_next HB4.out hb5
 have hqn : q ≠ w.heap.size + 2 := fun e => by
  rw [e, h9] at hrow2
  simp at hrow2
 clear hb5 hA h7 h8 hrow HB4
 go_wp2_with (first | refine wpList_store35H rfl _ _ rfl _ _ _ rfl rfl rfl h9 ?_)
 refine retCT rfl (w.heap.size + 2) _ rfl (load35H _ _ _ (setRow_heap _ _ _ _ _ _ h9)) rfl ⟨rfl, below_setRow HB5.out (by omega) _⟩
set_option maxRecDepth 20000 in
set_option maxHeartbeats 1000000 in
theorem dec_ok (b l i a c d e f g : Int) (F : Nat → Int) (n : Nat) (w : World) (hb : I64 b) (hs : standsB b l i a c d e f g = true) (hl : 32 ≤ l ∧ l ≤ 256) (hF : ∀ i, 0 ≤ F i ∧ F i ≤ 255) (hN : numN F 0 4 = n) (hn : (n : Int) ≤ l - 1)
  (hm : mayB c b (l - 1) (tgts F n) = true) :
  Calls Tryz.prog 104 #[.agg (lay9 b l i a c d e f g), .agg (blk F)] w fun e' w' => ∃ q, e' = .returned (.tuple #[.agg #[.slice (some ⟨q, 0, none⟩) n n], .int .i64 0]) ∧ w.heap.size ≤ q ∧ w'.heap[q]? = some (.cells (listRow (tgts F n)) 3) ∧ Below w.heap.size w w' := by
 have hc := fun w => hstands_any b l i a c d e f g w hb
 rw [hs] at hc
 have hM := fun w => most_any b l i a c d e f g w hl
 have hU := fun w => u32_any F 0 w hF
 rw [show num F 0 4 = numN F 0 4 from num_in F 0 4 (by omega), hN] at hU
 have hS := fun w => said_any F n w hF (by omega)
 have hA := fun W (p : Option Addr) (h : IntsAt W p (tgts F n)) => may_any b l i a c d e f g (tgts F n) p n W hl (by rw [tgts_len]; omega) h (allU_wf (tgts_u F hF n))
 rw [hm, tgts_len] at hA
 have HI : Hid (∀ (W : World) (q : Nat), W.heap[q]? = some (.cells (listRow (tgts F n)) 3) → IntsAt W (some ⟨q, 0, none⟩) (tgts F n)) := fun W q h => listRow_at h
 clear hs hF hm hN
 have hsz : (lay9 b l i a c d e f g).size = 9 := rfl
 generalize tgts F n = T at *
 generalize lay9 b l i a c d e f g = L at *
 have hm : 27 ≤ l - 1 ∧ l - 1 ≤ 255 := by omega
 generalize l - 1 = m at *
 have g0 : decide (m < (n : Int)) = false := decide_eq_false (by omega)
 have hwr : IntKind.u32.wrap m = m := by rw [wrap_u32]; omega
 have hwn : IntKind.i64.wrap (n : Int) = n := by rw [IntKind.wrap_i64]; omega
 go_enter Tryz.func104, Tryz.ntmps104
 go_wp2_with (first | refine wpList_loadL rfl _ rfl _ rfl _ hsz (heap3o _ _ _ _) ?_ | (go_at_call 126; fail))
 refine (hc _).mono ?_
 rintro e' W1 ⟨rfl, hb1⟩
 have h0 := heap_kept (heap3o w _ _ _) hb1
 have h1 := heap_kept (heap3 w _ _ _) hb1
 have h2 := heap_kept (heap3n w _ _ _) hb1
 have HB : Hid (Below w.heap.size w W1) := below_next (below3 _ _ _ _) hb1
 clear hb1 hc
 go_wp2_with (first | refine wpList_load25 rfl _ rfl _ rfl _ h1 ?_ | (go_at_call 130; fail))
 refine (hU _).mono ?_
 rintro e' W2 ⟨rfl, hb2⟩
 have h3 := heap_kept h2 hb2
 have h4 := heap_kept h0 hb2
 have h4b := heap_kept h1 hb2
 have HB2 : Hid (Below w.heap.size w W2) := below_next HB.out hb2
 clear hb2 hU h0 h1 h2 HB
 go_wp2_with (first | refine wpList_loadL rfl _ rfl _ rfl _ hsz h4 ?_ | (go_at_call 131; fail))
 refine (hM _).mono ?_
 rintro e' W3 ⟨rfl, hb3⟩
 have h5 := heap_kept h3 hb3
 have h6 := heap_kept h4 hb3
 have h6b := heap_kept h4b hb3
 have HB3 : Hid (Below w.heap.size w W3) := below_next HB2.out hb3
 clear hb3 hM h3 h4 h4b HB2
 go_wp2_with (first | refine wpList_load25 rfl _ rfl _ rfl _ h6b ?_ | (go_at_call 132; fail))
 refine (hS _).mono ?_
 rintro e' W4 ⟨rfl, hrow, hb4⟩
 have h7 := heap_kept h5 hb4
 have h8 := heap_kept h6 hb4
 have hq : w.heap.size ≤ W3.heap.size + 1 := by have := HB3.out.size; omega
 generalize W3.heap.size + 1 = q at *
 have HB4 : Hid (Below w.heap.size w W4) := below_next HB3.out hb4
 clear hb4 hS h5 h6 h6b HB3
 go_wp2_with (first | refine wpList_loadL rfl _ rfl _ rfl _ hsz h8 ?_ | (go_at_call 127; fail))
 refine (hA _ _ (HI.out _ _ hrow)).mono ?_
 rintro e' W5 ⟨rfl, hb5⟩
 have h9 := heap_kept h7 hb5
 have hrow2 := heap_kept hrow hb5
 have HB5 : Hid (Below w.heap.size w W5) := below_next HB4.out hb5
 have hqn : q ≠ w.heap.size + 2 := fun e => by
  rw [e, h9] at hrow2
  simp at hrow2
 clear hb5 hA h7 h8 hrow HB4
 go_wp2_with (first | refine wpList_store35H rfl _ _ rfl _ _ _ rfl rfl rfl h9 ?_)
 refine retCT rfl (w.heap.size + 2) _ rfl (load35H _ _ _ (setRow_heap _ _ _ _ _ _ h9)) rfl ⟨q, rfl, hq, (setRow_other _ _ _ _ hqn).trans hrow2, below_setRow HB5.out (by omega) _⟩
end Go.Proofs.YtichojdcoegboaaGreatW.H
namespace Go.Proofs.YtichojdcoegboaaGreatW.H
open Go.RowKit
section
variable {ops : Array Oper} {rest : List Oper} {o : Oper} {a : Act} {w : World} {Q : Exit → Act → World → Prop}
variable {dst : Option Tmp} {x y : Operand} {ty : TypeId} {pos : String} {aft : Array Edge} {gd : Option (Nat × Bool)}
theorem isLoad (t : TypeId) (h : wpList Tryz.prog ops Q (⟨dst, .load t x, ty, pos, aft, gd⟩ :: rest) a w) : wpList Tryz.prog ops Q (⟨dst, .load t x, ty, pos, aft, gd⟩ :: rest) a w := h
theorem isStore (t : TypeId) (h : wpList Tryz.prog ops Q (⟨dst, .store t x y, ty, pos, aft, gd⟩ :: rest) a w) : wpList Tryz.prog ops Q (⟨dst, .store t x y, ty, pos, aft, gd⟩ :: rest) a w := h
end
theorem wpList_storeL_new {ops : Array Oper} {rest : List Oper} {o : Oper} {a : Act} {w : World} {Q : Exit → Act → World → Prop} (hgd : o.guard = none) (x y : Operand) (ho : o.op = .store 59 x y)
  (cs c0 : Array Value) (hs : cs.size = 9) (hs0 : c0.size = 9) (h1 : cs.all (·.oneCell') = true) (g : Nat) (hg : g = w.heap.size) (hx : a.eval x = .pointer (some ⟨g, 0, none⟩)) (hy : a.eval y = .agg cs)
  (h : wpList Tryz.prog ops Q rest (a.put o.dst undef) (w.alloc (.cells cs 59))) : wpList Tryz.prog ops Q (o :: rest) a (w.alloc (.cells c0 59)) := by
 subst hg
 refine wpList_plain hgd fun _ hK => ?_
 have hz : (Tryz.prog.info? 59).map (·.size) = some cs.size := by rw [hs]; exact size25L
 have e := run_storeVar_row (P := Tryz.prog) (w.alloc (.cells c0 59)) w.heap.size 59 59 c0 cs (heap_alloc_new _ _) hz (by rw [hs, hs0]) h1
 rw [World.setRow_alloc_new] at e
 unfold Oper.wp execOp
 simp only [ho, hx, hy, Instr.storeAt, Instr.sureAddr, Sem.run_bind, Sem.run_pure, Result.andThen_ok, e]
 exact hK _ _ h
theorem lay_one (b l i a c d e f g : Int) : (lay9 b l i a c d e f g).all (·.oneCell') = true := by simp [lay9, Value.oneCell']
end Go.Proofs.YtichojdcoegboaaGreatW.H
namespace Go.Proofs.YtichojdcoegboaaGreatW.H
open Go.RowKit
section
variable {ops : Array Oper} {rest : List Oper} {o : Oper} {a : Act} {w : World} {Q : Exit → Act → World → Prop}
theorem eq30 (f g : Nat → Int) (b : Bool) (hb : sameB f g = b) (u : World) : (binOp .eql 64 (.agg (blk f)) (.agg (blk g))).run Tryz.prog u = .ok (.bool b) u := by
 have h := eq25 f g u
 rw [hb] at h
 generalize blk f = F at *
 generalize blk g = G at *
 simp only [binOp, Op.equal, Op.maxDepth, Sem.run_bind, h, Result.andThen_ok, Sem.run_pure]
theorem eqg30 (x y : Operand) (F G : Array Value) (u : World) : (eqGuard .eql 64 x y (.agg F) (.agg G)).run Tryz.prog u = .ok () u := by
 unfold eqGuard
 simp
theorem build30 (u : World) : (Instr.build 64 #[]).run Tryz.prog u = .ok (.agg (blk nought)) u := by
 have z25 := zero25
 simp [Instr.build, z25, run_underlying Tryz.underlying64, Tryz.sizeOf5, Instr.fill, Value.cells]
theorem wpList_build30w (hw : Region.wanted o (yielded ops a.tmps) = true) (ho : o.op = .build 64 #[])
  (h : wpList Tryz.prog ops Q rest (a.put o.dst (.agg (blk nought))) w) : wpList Tryz.prog ops Q (o :: rest) a w := by
 unfold wpList
 rw [if_pos hw]
 refine .inl ?_
 have hb := build30 w
 generalize blk nought = Z at *
 have e : (execOp a.eval o).run Tryz.prog w = .ok (.value (.agg Z)) w := by
  unfold execOp
  simp only [ho, Array.map_empty, Sem.run_bind]
  simp only [hb, Result.andThen_ok, Sem.run_pure]
 unfold Oper.wp
 rw [e]
 exact h
theorem act_done {S : World → Prop} {K : Act → World → Prop} {w' : World} (hw : Region.wanted o (yielded ops a.tmps) = true) (hr : (execOp a.eval o).run Tryz.prog w = .ok .skip w') (hS : S w') (h : K (a.put o.dst undef) w') : wpAct Tryz.prog ops Q S o K a w := by
 unfold wpAct
 rw [if_pos hw]
 unfold Oper.wp
 rw [hr]
 exact ⟨hS, h⟩
theorem exec_allocB (ho : o.op = .alloc 64) : (execOp a.eval o).run Tryz.prog w = .ok (.value (.pointer (some ⟨w.heap.size, 0, none⟩))) (w.alloc (.cells (blk nought) 64)) := by
 have z := zero25
 unfold execOp
 generalize blk nought = Z at *
 simp [ho, go_sem, z]
theorem exec_storeB {x y : Operand} (ho : o.op = .store 64 x y) (g : Nat) (f f0 : Nat → Int) (hx : a.eval x = .pointer (some ⟨g, 0, none⟩)) (hy : a.eval y = .agg (blk f)) (hg : w.heap[g]? = some (.cells (blk f0) 64)) :
  (execOp a.eval o).run Tryz.prog w = .ok .skip (w.setRow g (blk f)) := by
 unfold execOp
 simp only [ho, hx, hy, Instr.storeAt, Instr.sureAddr, Sem.run_bind, Sem.run_pure, Result.andThen_ok, run_storeVar_row w g 64 64 (blk f0) (blk f) hg (by rw [blk_size]; exact size25) (by rw [blk_size, blk_size]) (blk_one f)]
theorem exec_loadB {x : Operand} (ho : o.op = .load 64 x) (g : Nat) (f : Nat → Int) (hx : a.eval x = .pointer (some ⟨g, 0, none⟩)) (hg : w.heap[g]? = some (.cells (blk f) 64)) : (execOp a.eval o).run Tryz.prog w = .ok (.value (.agg (blk f))) w := by
 unfold execOp
 simp only [ho, hx, Instr.loadAt, Instr.sureAddr, Sem.run_bind, Sem.run_pure, Result.andThen_ok, load30L w g f hg]
theorem exec_loadL {x : Operand} {g : Nat} {cs : Array Value} (ho : o.op = .load 59 x) (hx : a.eval x = .pointer (some ⟨g, 0, none⟩)) (hs : cs.size = 9) (hg : w.heap[g]? = some (.cells cs 59)) : (execOp a.eval o).run Tryz.prog w = .ok (.value (.agg cs)) w := by
 unfold execOp
 simp only [ho, hx, Instr.loadAt, Instr.sureAddr, Sem.run_bind, Sem.run_pure, Result.andThen_ok, load25L w g cs hg hs]
theorem drew_below (w : World) : Below w.heap.size w w.drew := (Below.refl _ _).drew
def OwnZ (w : World) (base : Nat) (v : Value) (zs : List Int) : Prop := w.ownsRow base 3 1 v zs.length (zs.map (Value.int .i64))
theorem OwnZ.nil (w : World) (base : Nat) : OwnZ w base (.slice none 0 0) [] := World.ownsRow_nil w base 3 1
theorem OwnZ.later {w w' : World} {base : Nat} {v : Value} {xs : List Int} (h : OwnZ w base v xs) (hb : Below w.heap.size w w') : OwnZ w' base v xs := by
 refine ⟨h.1, ?_⟩
 rcases h.2 with hn | ⟨g, cap, cur, rfl, hB, hg, rest⟩
 ·exact .inl hn
 ·exact .inr ⟨g, cap, cur, rfl, hB, heap_kept hg hb, rest⟩
theorem OwnZ.ints {w : World} {base : Nat} {v : Value} {zs : List Int} (h : OwnZ w base v zs) : ∃ p c, v = .slice p zs.length c ∧ IntsAt w p zs ∧ zs.length ≤ c ∧ ∀ b off, p = some ⟨b, off, none⟩ → base ≤ b := ints_of_row h
end
theorem pushed_kept {W w' : World} {o o' : Obj} {v : Value} {g : Nat} (hg : (W.alloc o).grownBy w' v.ownBlock) (hv : ∀ k, v.ownBlock = some k → k ≠ g) (h : W.heap[g]? = some o') : w'.heap[g]? = some o' := by
 have hlt := (Array.getElem?_eq_some_iff.1 h).1
 rw [hg.block g (by simp; omega) (by
  cases e : v.ownBlock with
  | none => simp
  | some k => simp; exact fun q => hv k e q.symm)]
 rw [heap_alloc_old W o hlt]
 exact h
end Go.Proofs.YtichojdcoegboaaGreatW.H
namespace Go.Proofs.YtichojdcoegboaaGreatW.H
open Go.RowKit
def decL (lo hi m : Int) (F : Nat → Int) : List Int := if numN F 0 4 ≤ m ∧ mayB lo hi m (tgts F (numN F 0 4).toNat) = true then tgts F (numN F 0 4).toNat else []
def decN (lo hi m : Int) (F : Nat → Int) : Int := if numN F 0 4 ≤ m ∧ mayB lo hi m (tgts F (numN F 0 4).toNat) = true then 0 else 4
theorem dec_may {lo hi m : Int} {F : Nat → Int} : (decN lo hi m F = 4 ∧ decL lo hi m F = []) ∨ (decN lo hi m F = 0 ∧ MayP lo hi m (decL lo hi m F)) := by
 unfold decN decL
 by_cases h : numN F 0 4 ≤ m ∧ mayB lo hi m (tgts F (numN F 0 4).toNat) = true
 ·rw [if_pos h, if_pos h]
  exact .inr ⟨rfl, of_decide_eq_true h.2⟩
 ·rw [if_neg h, if_neg h]
  exact .inl ⟨rfl, rfl⟩
theorem dec_all (b l i a c d e f g : Int) (F : Nat → Int) (w : World) (hb : I64 b) (hs : standsB b l i a c d e f g = true) (hl : 32 ≤ l ∧ l ≤ 256) (hF : ∀ i, 0 ≤ F i ∧ F i ≤ 255) :
  Calls Tryz.prog 104 #[.agg (lay9 b l i a c d e f g), .agg (blk F)] w fun e' w' => ∃ p, e' = .returned (.tuple #[.agg #[.slice p (decL c b (l - 1) F).length (decL c b (l - 1) F).length], .int .i64 (decN c b (l - 1) F)]) ∧
   (p = none ∧ decL c b (l - 1) F = [] ∨ ∃ q, p = some ⟨q, 0, none⟩ ∧ w.heap.size ≤ q ∧ w'.heap[q]? = some (.cells (listRow (decL c b (l - 1) F)) 3)) ∧ Below w.heap.size w w' := by
 have h0 := numN_bd F hF 4 0
 by_cases h1 : numN F 0 4 ≤ l - 1
 ·have hN : numN F 0 4 = ((numN F 0 4).toNat : Int) := by omega
  by_cases h2 : mayB c b (l - 1) (tgts F (numN F 0 4).toNat) = true
  ·unfold decL decN
   rw [if_pos ⟨h1, h2⟩, if_pos ⟨h1, h2⟩, tgts_len]
   refine (dec_ok b l i a c d e f g F _ w hb hs hl hF hN (by omega) h2).mono ?_
   rintro e' W ⟨q, rfl, hq, hr, hB⟩
   exact ⟨_, rfl, .inr ⟨q, rfl, hq, hr⟩, hB⟩
  ·unfold decL decN
   rw [if_neg (fun q => h2 q.2), if_neg (fun q => h2 q.2)]
   refine (dec_bad b l i a c d e f g F _ w hb hs hl hF hN (by omega) (by simpa using h2)).mono ?_
   rintro e' W ⟨rfl, hB⟩
   exact ⟨none, rfl, .inl ⟨rfl, rfl⟩, hB⟩
 ·unfold decL decN
  rw [if_neg (fun q => h1 q.1), if_neg (fun q => h1 q.1)]
  refine (dec_more b l i a c d e f g F w hb hs hl hF (by omega)).mono ?_
  rintro e' W ⟨rfl, hB⟩
  exact ⟨none, rfl, .inl ⟨rfl, rfl⟩, hB⟩
theorem dec_ints {W : World} {B : Nat} {p : Option Addr} {T : List Int} (h : p = none ∧ T = [] ∨ ∃ q, p = some ⟨q, 0, none⟩ ∧ B ≤ q ∧ W.heap[q]? = some (.cells (listRow T) 3)) : IntsAt W p T := by
 rcases h with ⟨rfl, rfl⟩ | ⟨q, rfl, _, h⟩
 ·exact fun h => by simp at h
 ·exact listRow_at h
section
variable {ops : Array Oper} {o : Oper} {a : Act} {w : World}
theorem zero35 (w : World) : (zeroValue 129).run Tryz.prog w = .ok (.agg #[.slice none 0 0]) w := by kernel_rfl
end
end Go.Proofs.YtichojdcoegboaaGreatW.H
