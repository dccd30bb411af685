/- The document's Decode: the layout of a superblock, or none; for every block of bytes and every number of blocks. -/
import Derived.Test.YtmblppgmfgjbpaaDecode
namespace Go.Proofs.Ytmblppgmfgjbpaa
open Go.RowKit

/-- The numbers that are read so far. -/
def rowI (x0 x1 x2 : Int) : Nat → Array Value
  | 0 => #[.int .i64 0, .int .i64 0, .int .i64 0]
  | 1 => #[.int .i64 x0, .int .i64 0, .int .i64 0]
  | 2 => #[.int .i64 x0, .int .i64 x1, .int .i64 0]
  | _ => #[.int .i64 x0, .int .i64 x1, .int .i64 x2]
theorem pow_le3 (j : Nat) (h : j ≤ 3) : (256 : Int) ^ j ≤ 16777216 := by
  match j, h with
  | 0, _ => decide
  | 1, _ => decide
  | 2, _ => decide
  | 3, _ => decide
theorem wpOrd_load3 {ops : Array Oper} {Q : Exit → Act → World → Prop} {S : World → Prop} {r : List (Bool × Oper)} {a : Act} {w : World} {o : Oper} (hw : Region.wanted o (yielded ops a.tmps) = true) (x : Operand) (ho : o.op = .load 3 x)
    (g i : Nat) (v : Int) (hx : a.eval x = .pointer (some ⟨g, i, none⟩)) (hc : w.cell? ⟨g, i, none⟩ = some (.int .i64 v))
    (h : S w ∧ wpOrd Try.prog ops Q S r (a.put o.dst (.int .i64 v)) w) : wpOrd Try.prog ops Q S ((false, o) :: r) a w := by
  simp only [wpOrd, hw, if_true]
  unfold Oper.wp execOp
  simp only [ho, hx]
  simp [go_sem, hc]
  exact h
theorem wpOrd_store3c {ops : Array Oper} {Q : Exit → Act → World → Prop} {S : World → Prop} {r : List (Bool × Oper)} {a : Act} {w : World} {o : Oper} (hw : Region.wanted o (yielded ops a.tmps) = true) (x y : Operand) (ho : o.op = .store 3 x y)
    (g i : Nat) (v : Int) (v0 : Value) (hx : a.eval x = .pointer (some ⟨g, i, none⟩)) (hy : a.eval y = .int .i64 v) (hc : w.cell? ⟨g, i, none⟩ = some v0) (hf : w.frozen? ⟨g, i, none⟩ = false)
    (h : S (w.setCell ⟨g, i, none⟩ (.int .i64 v)) ∧ wpOrd Try.prog ops Q S r (a.put o.dst undef) (w.setCell ⟨g, i, none⟩ (.int .i64 v))) : wpOrd Try.prog ops Q S ((false, o) :: r) a w := by
  simp only [wpOrd, hw, if_true]
  unfold Oper.wp execOp
  simp only [ho, hx, hy]
  simp [go_sem, hc, hf]
  exact h

set_option maxRecDepth 20000 in
set_option maxHeartbeats 2000000 in
theorem refDecode_any (f : Nat → Int) (hf : Byte f) (n : Int) (w : World) :
    Calls Try.prog 17 #[.agg (blk f), .int .i64 n] w fun e w' => e = .returned (.tuple #[decV f n, .int .i64 (decE f n)]) ∧ Below w.heap.size w w' := by
  have HN : Hid (∀ m k, 0 ≤ numN f k m ∧ numN f k m < 256 ^ m) := numN_bd f hf
  have HQ : Hid (∀ j : Nat, j ≤ 3 → (256 : Int) ^ j ≤ 16777216) := pow_le3
  have HF : Hid (Byte f) := hf
  obtain ⟨x0, h0⟩ : ∃ x0, x0 = numN f 8 4 := ⟨_, rfl⟩
  obtain ⟨x1, h1⟩ : ∃ x1, x1 = numN f 12 4 := ⟨_, rfl⟩
  obtain ⟨x2, h2⟩ : ∃ x2, x2 = numN f 16 4 := ⟨_, rfl⟩
  have H0 : Hid _ := h0
  have H1 : Hid _ := h1
  have H2 : Hid _ := h2
  clear h0 h1 h2 hf
  go_enter Try.func17, Try.ntmps17
  go_wp2
  go_loopw [7] (fun s7 wx => ∃ i : Nat, i ≤ 3 ∧ s7 = .int .i64 i ∧ wx.heap[w.heap.size]? = some (.cells (blk f) 35) ∧ wx.heap[w.heap.size + 1]? = some (.cells (lay9 0 0 0 0 0 0 0 0 0) 25) ∧ wx.heap[w.heap.size + 1 + 1]? = some (.cells (rowI x0 x1 x2 i) 54) ∧ Below w.heap.size w wx) (fun s7 _ => 3 - (intOf s7).toNat)
  case atStart =>
    refine ⟨0, by omega, rfl, ?_, heap3 _ _ _ _, heap3n _ _ _ _, bel_al (bel_al (below_new _ _) _) _⟩
    rw [heap_alloc_old _ _ (by simp; omega)]
    exact heap_alloc2_old _ _ _
  case round =>
    obtain ⟨i, hi, rfl, hg0, hg1, hg2, hbel⟩ := hrel
    have hc : i = 0 ∨ i = 1 ∨ i = 2 ∨ i = 3 := by omega
    clear hi
    rcases hc with rfl | rfl | rfl | rfl
    all_goals
      have hh := And.intro hg0 (And.intro hg1 (And.intro hg2 hbel))
      have HH : Hid _ := hh
      clear hh hg0 hg1 hg2 hbel
    · go_wp2
      go_loopw [8] (fun s8 wx => ∃ c : Nat, c ≤ 4 ∧ s8 = .int .i64 ((c : Int) - 1) ∧ wx.heap[w.heap.size]? = some (.cells (blk f) 35) ∧ wx.heap[w.heap.size + 1]? = some (.cells (lay9 0 0 0 0 0 0 0 0 0) 25) ∧ wx.heap[w.heap.size + 1 + 1]? = some (.cells #[.int .i64 (numN f (8 + c) (4 - c)), .int .i64 0, .int .i64 0] 54) ∧ Below w.heap.size w wx) (fun s8 _ => ((intOf s8) + 1).toNat)
      case atStart => exact ⟨4, by omega, rfl, HH.out.1, HH.out.2.1, HH.out.2.2.1, HH.out.2.2.2⟩
      case round =>
        clear HH
        obtain ⟨c, hc, rfl, hg0, hg1, hg2, hbel⟩ := hrel
        have HBE : Hid _ := hbel
        have HG1 : Hid _ := hg1
        clear hbel hg1
        have hbd := HN.out (4 - c) (8 + c)
        cases c with
        | succ c =>
          have hbk := blk_get f (8 + c) (by omega)
          have hst : numN f (8 + c) (4 - c) = f (8 + c) + 256 * numN f (8 + (c + 1)) (4 - (c + 1)) := by
            rw [show 4 - c = (4 - (c + 1)) + 1 by omega]
            rfl
          have hfb := HF.out (8 + c)
          have hp3 : (256 : Int) ^ (4 - (c + 1)) ≤ 16777216 := HQ.out (4 - (c + 1)) (by omega)
          have hy0 := hbd.1
          have hy1 : numN f (8 + (c + 1)) (4 - (c + 1)) < 16777216 := by omega
          rw [show (((c + 1 : Nat) : Int) - 1) = (c : Int) by omega]
          have HS : Hid (256 * numN f (8 + (c + 1)) (4 - (c + 1)) + f (8 + c) = numN f (8 + c) (4 - c)) := by show _ = _; rw [hst]; omega
          clear hst hbd hp3
          generalize numN f (8 + (c + 1)) (4 - (c + 1)) = y at *
          generalize hz : f (8 + c) = z at *
          clear hz
          obtain ⟨hz0, hz1⟩ := hfb
          have hc3 : (c : Int) ≤ 3 := by omega
          go_wp2
          have e1 : IntKind.i64.wrap 0 = 0 := by rw [IntKind.wrap_i64]; omega
          have e2 : IntKind.i64.wrap 8 = 8 := by rw [IntKind.wrap_i64]; omega
          have e3 : IntKind.i64.wrap (8 + (c : Int)) = 8 + (c : Int) := by rw [IntKind.wrap_i64]; omega
          have e4 : IntKind.i64.wrap (256 * y) = 256 * y := by rw [IntKind.wrap_i64]; omega
          have e5 : IntKind.i64.wrap (256 * y + z) = 256 * y + z := by rw [IntKind.wrap_i64]; omega
          have e6 : IntKind.i64.wrap z = z := by rw [IntKind.wrap_i64]; omega
          have e7 : 0 ≤ 8 + (c : Int) := by omega
          have e8 : 8 + (c : Int) < 1024 := by omega
          have e9 : (8 + (c : Int)).toNat = 8 + c := by omega
          have hcl : wr.drew.cell? ⟨w.heap.size + 1 + 1, 0, none⟩ = some (.int .i64 y) := Joins.cell_of_block (w := wr.drew) hg2 0
          have hfr : wr.drew.frozen? ⟨w.heap.size + 1 + 1, 0, none⟩ = false := Joins.unfrozen_of_block (w := wr.drew) hg2 0
          have hS0 : wr.drew.heap[w.heap.size]? = some (.cells (blk f) 35) := hg0
          refine wp_region_ord (S := fun u => u.heap[w.heap.size]? = some (.cells (blk f) 35)) [(0, true), (1, true), (2, true), (5, true), (6, true), (7, true), (8, true), (9, true), (10, true), (11, true), (12, true), (3, false), (4, true), (13, true), (14, true), (15, false)]
            (by kernel_rfl) rfl (by kernel_rfl) (fun d _ _ _ _ h => by cases d <;> exact h) hS0 ?_
          simp only [inOrd, List.getElem?_cons_zero, List.getElem?_cons_succ]
          refine wpOrd_move rfl _ rfl ?_
          simp only [Act.put, List.setIfInBounds_toArray, List.set_cons_succ, List.set_cons_zero]
          refine wpOrd_move rfl _ rfl ?_
          simp only [Act.put, List.setIfInBounds_toArray, List.set_cons_succ, List.set_cons_zero]
          refine wpOrd_yield (v := .pointer (some ⟨w.heap.size + 1 + 1, 0, none⟩)) rfl (fun u _ => by go_simp) ?_
          simp only [Act.put, List.setIfInBounds_toArray, List.set_cons_succ, List.set_cons_zero]
          refine wpOrd_move rfl _ rfl ?_
          simp only [Act.put, List.setIfInBounds_toArray, List.set_cons_succ, List.set_cons_zero]
          refine wpOrd_yield (v := .int .i64 0) rfl (fun u _ => by go_simp) ?_
          simp only [Act.put, List.setIfInBounds_toArray, List.set_cons_succ, List.set_cons_zero]
          refine wpOrd_yield (v := .int .i64 8) rfl (fun u _ => by go_simp) ?_
          simp only [Act.put, List.setIfInBounds_toArray, List.set_cons_succ, List.set_cons_zero]
          refine wpOrd_move rfl _ rfl ?_
          simp only [Act.put, List.setIfInBounds_toArray, List.set_cons_succ, List.set_cons_zero]
          refine wpOrd_yield (v := .int .i64 (8 + (c : Int))) rfl (fun u _ => by go_simp) ?_
          simp only [Act.put, List.setIfInBounds_toArray, List.set_cons_succ, List.set_cons_zero]
          refine wpOrd_yield (v := .pointer (some ⟨w.heap.size, 8 + c, none⟩)) rfl (fun u _ => by go_simp) ?_
          simp only [Act.put, List.setIfInBounds_toArray, List.set_cons_succ, List.set_cons_zero]
          refine wpOrd_yield (v := .int .u8 z) rfl (fun u hu => by have hcu := (Joins.cell_of_block hu (8 + c)).trans hbk; clear hg0 hg2 hcl hfr; go_simp) ?_
          simp only [Act.put, List.setIfInBounds_toArray, List.set_cons_succ, List.set_cons_zero]
          refine wpOrd_yield (v := .int .i64 z) rfl (fun u _ => by go_simp) ?_
          simp only [Act.put, List.setIfInBounds_toArray, List.set_cons_succ, List.set_cons_zero]
          refine wpOrd_load3 rfl _ rfl _ _ _ rfl hcl ⟨hS0, ?_⟩
          simp only [Act.put, List.setIfInBounds_toArray, List.set_cons_succ, List.set_cons_zero]
          refine wpOrd_yield (v := .int .i64 (256 * y)) rfl (fun u _ => by go_simp) ?_
          simp only [Act.put, List.setIfInBounds_toArray, List.set_cons_succ, List.set_cons_zero]
          refine wpOrd_yield (v := .int .i64 (256 * y + z)) rfl (fun u _ => by go_simp) ?_
          simp only [Act.put, List.setIfInBounds_toArray, List.set_cons_succ, List.set_cons_zero]
          refine wpOrd_yield (v := .pointer (some ⟨w.heap.size + 1 + 1, 0, none⟩)) rfl (fun u _ => by go_simp) ?_
          simp only [Act.put, List.setIfInBounds_toArray, List.set_cons_succ, List.set_cons_zero]
          have hs0 : (wr.drew.setCell ⟨w.heap.size + 1 + 1, 0, none⟩ (.int .i64 (256 * y + z))).heap[w.heap.size]? = some (.cells (blk f) 35) := (Deep.blk_setCell_other _ _ _ _ (by show w.heap.size ≠ w.heap.size + 1 + 1; omega)).trans hg0
          refine wpOrd_store3c rfl _ _ rfl _ _ _ _ rfl rfl hcl hfr ⟨hs0, ?_⟩
          refine wpOrd_nil ?_
          simp only [Act.put]
          have hs1 : (wr.drew.setCell ⟨w.heap.size + 1 + 1, 0, none⟩ (.int .i64 (256 * y + z))).heap[w.heap.size + 1]? = some (.cells (lay9 0 0 0 0 0 0 0 0 0) 25) := (Deep.blk_setCell_other _ _ _ _ (by show w.heap.size + 1 ≠ w.heap.size + 1 + 1; omega)).trans HG1.out
          have hs2 : (wr.drew.setCell ⟨w.heap.size + 1 + 1, 0, none⟩ (.int .i64 (256 * y + z))).heap[w.heap.size + 1 + 1]? = some (.cells #[.int .i64 (numN f (8 + c) (4 - c)), .int .i64 0, .int .i64 0] 54) := by
            rw [← HS.out]
            exact Joins.block_setCell (w := wr.drew) hg2 _
          have HB2 : Hid (Below w.heap.size w (wr.drew.setCell ⟨w.heap.size + 1 + 1, 0, none⟩ (.int .i64 (256 * y + z)))) := HBE.out.drew.setCell (by show w.heap.size ≤ w.heap.size + 1 + 1; omega) _
          generalize wr.drew.setCell ⟨w.heap.size + 1 + 1, 0, none⟩ (.int .i64 (256 * y + z)) = Y at *
          clear hcl hfr hS0 hg0 hg2 HG1 HBE HS e1 e2 e3 e4 e5 e6 e7 e8 e9
          go_wp2
          exact ⟨⟨c, by omega, rfl, hs0, hs1, hs2, HB2.out⟩, by simp [intOf]⟩
        | zero =>
          rw [show numN f (8 + 0) (4 - 0) = x0 from H0.out.symm] at hg2
          clear hbd
          go_wp2
          exact ⟨⟨1, by omega, by go_num, hg0, HG1.out, hg2, HBE.out⟩, by simp [intOf]⟩
    · go_wp2
      go_loopw [8] (fun s8 wx => ∃ c : Nat, c ≤ 4 ∧ s8 = .int .i64 ((c : Int) - 1) ∧ wx.heap[w.heap.size]? = some (.cells (blk f) 35) ∧ wx.heap[w.heap.size + 1]? = some (.cells (lay9 0 0 0 0 0 0 0 0 0) 25) ∧ wx.heap[w.heap.size + 1 + 1]? = some (.cells #[.int .i64 x0, .int .i64 (numN f (12 + c) (4 - c)), .int .i64 0] 54) ∧ Below w.heap.size w wx) (fun s8 _ => ((intOf s8) + 1).toNat)
      case atStart => exact ⟨4, by omega, rfl, HH.out.1, HH.out.2.1, HH.out.2.2.1, HH.out.2.2.2⟩
      case round =>
        clear HH
        obtain ⟨c, hc, rfl, hg0, hg1, hg2, hbel⟩ := hrel
        have HBE : Hid _ := hbel
        have HG1 : Hid _ := hg1
        clear hbel hg1
        have hbd := HN.out (4 - c) (12 + c)
        cases c with
        | succ c =>
          have hbk := blk_get f (12 + c) (by omega)
          have hst : numN f (12 + c) (4 - c) = f (12 + c) + 256 * numN f (12 + (c + 1)) (4 - (c + 1)) := by
            rw [show 4 - c = (4 - (c + 1)) + 1 by omega]
            rfl
          have hfb := HF.out (12 + c)
          have hp3 : (256 : Int) ^ (4 - (c + 1)) ≤ 16777216 := HQ.out (4 - (c + 1)) (by omega)
          have hy0 := hbd.1
          have hy1 : numN f (12 + (c + 1)) (4 - (c + 1)) < 16777216 := by omega
          rw [show (((c + 1 : Nat) : Int) - 1) = (c : Int) by omega]
          have HS : Hid (256 * numN f (12 + (c + 1)) (4 - (c + 1)) + f (12 + c) = numN f (12 + c) (4 - c)) := by show _ = _; rw [hst]; omega
          clear hst hbd hp3
          generalize numN f (12 + (c + 1)) (4 - (c + 1)) = y at *
          generalize hz : f (12 + c) = z at *
          clear hz
          obtain ⟨hz0, hz1⟩ := hfb
          have hc3 : (c : Int) ≤ 3 := by omega
          go_wp2
          have e1 : IntKind.i64.wrap 4 = 4 := by rw [IntKind.wrap_i64]; omega
          have e2 : IntKind.i64.wrap 12 = 12 := by rw [IntKind.wrap_i64]; omega
          have e3 : IntKind.i64.wrap (12 + (c : Int)) = 12 + (c : Int) := by rw [IntKind.wrap_i64]; omega
          have e4 : IntKind.i64.wrap (256 * y) = 256 * y := by rw [IntKind.wrap_i64]; omega
          have e5 : IntKind.i64.wrap (256 * y + z) = 256 * y + z := by rw [IntKind.wrap_i64]; omega
          have e6 : IntKind.i64.wrap z = z := by rw [IntKind.wrap_i64]; omega
          have e7 : 0 ≤ 12 + (c : Int) := by omega
          have e8 : 12 + (c : Int) < 1024 := by omega
          have e9 : (12 + (c : Int)).toNat = 12 + c := by omega
          have hcl : wr.drew.cell? ⟨w.heap.size + 1 + 1, 1, none⟩ = some (.int .i64 y) := Joins.cell_of_block (w := wr.drew) hg2 1
          have hfr : wr.drew.frozen? ⟨w.heap.size + 1 + 1, 1, none⟩ = false := Joins.unfrozen_of_block (w := wr.drew) hg2 1
          have hS0 : wr.drew.heap[w.heap.size]? = some (.cells (blk f) 35) := hg0
          refine wp_region_ord (S := fun u => u.heap[w.heap.size]? = some (.cells (blk f) 35)) [(0, true), (1, true), (2, true), (5, true), (6, true), (7, true), (8, true), (9, true), (10, true), (11, true), (12, true), (3, false), (4, true), (13, true), (14, true), (15, false)]
            (by kernel_rfl) rfl (by kernel_rfl) (fun d _ _ _ _ h => by cases d <;> exact h) hS0 ?_
          simp only [inOrd, List.getElem?_cons_zero, List.getElem?_cons_succ]
          refine wpOrd_move rfl _ rfl ?_
          simp only [Act.put, List.setIfInBounds_toArray, List.set_cons_succ, List.set_cons_zero]
          refine wpOrd_move rfl _ rfl ?_
          simp only [Act.put, List.setIfInBounds_toArray, List.set_cons_succ, List.set_cons_zero]
          refine wpOrd_yield (v := .pointer (some ⟨w.heap.size + 1 + 1, 1, none⟩)) rfl (fun u _ => by go_simp) ?_
          simp only [Act.put, List.setIfInBounds_toArray, List.set_cons_succ, List.set_cons_zero]
          refine wpOrd_move rfl _ rfl ?_
          simp only [Act.put, List.setIfInBounds_toArray, List.set_cons_succ, List.set_cons_zero]
          refine wpOrd_yield (v := .int .i64 4) rfl (fun u _ => by go_simp) ?_
          simp only [Act.put, List.setIfInBounds_toArray, List.set_cons_succ, List.set_cons_zero]
          refine wpOrd_yield (v := .int .i64 12) rfl (fun u _ => by go_simp) ?_
          simp only [Act.put, List.setIfInBounds_toArray, List.set_cons_succ, List.set_cons_zero]
          refine wpOrd_move rfl _ rfl ?_
          simp only [Act.put, List.setIfInBounds_toArray, List.set_cons_succ, List.set_cons_zero]
          refine wpOrd_yield (v := .int .i64 (12 + (c : Int))) rfl (fun u _ => by go_simp) ?_
          simp only [Act.put, List.setIfInBounds_toArray, List.set_cons_succ, List.set_cons_zero]
          refine wpOrd_yield (v := .pointer (some ⟨w.heap.size, 12 + c, none⟩)) rfl (fun u _ => by go_simp) ?_
          simp only [Act.put, List.setIfInBounds_toArray, List.set_cons_succ, List.set_cons_zero]
          refine wpOrd_yield (v := .int .u8 z) rfl (fun u hu => by have hcu := (Joins.cell_of_block hu (12 + c)).trans hbk; clear hg0 hg2 hcl hfr; go_simp) ?_
          simp only [Act.put, List.setIfInBounds_toArray, List.set_cons_succ, List.set_cons_zero]
          refine wpOrd_yield (v := .int .i64 z) rfl (fun u _ => by go_simp) ?_
          simp only [Act.put, List.setIfInBounds_toArray, List.set_cons_succ, List.set_cons_zero]
          refine wpOrd_load3 rfl _ rfl _ _ _ rfl hcl ⟨hS0, ?_⟩
          simp only [Act.put, List.setIfInBounds_toArray, List.set_cons_succ, List.set_cons_zero]
          refine wpOrd_yield (v := .int .i64 (256 * y)) rfl (fun u _ => by go_simp) ?_
          simp only [Act.put, List.setIfInBounds_toArray, List.set_cons_succ, List.set_cons_zero]
          refine wpOrd_yield (v := .int .i64 (256 * y + z)) rfl (fun u _ => by go_simp) ?_
          simp only [Act.put, List.setIfInBounds_toArray, List.set_cons_succ, List.set_cons_zero]
          refine wpOrd_yield (v := .pointer (some ⟨w.heap.size + 1 + 1, 1, none⟩)) rfl (fun u _ => by go_simp) ?_
          simp only [Act.put, List.setIfInBounds_toArray, List.set_cons_succ, List.set_cons_zero]
          have hs0 : (wr.drew.setCell ⟨w.heap.size + 1 + 1, 1, none⟩ (.int .i64 (256 * y + z))).heap[w.heap.size]? = some (.cells (blk f) 35) := (Deep.blk_setCell_other _ _ _ _ (by show w.heap.size ≠ w.heap.size + 1 + 1; omega)).trans hg0
          refine wpOrd_store3c rfl _ _ rfl _ _ _ _ rfl rfl hcl hfr ⟨hs0, ?_⟩
          refine wpOrd_nil ?_
          simp only [Act.put]
          have hs1 : (wr.drew.setCell ⟨w.heap.size + 1 + 1, 1, none⟩ (.int .i64 (256 * y + z))).heap[w.heap.size + 1]? = some (.cells (lay9 0 0 0 0 0 0 0 0 0) 25) := (Deep.blk_setCell_other _ _ _ _ (by show w.heap.size + 1 ≠ w.heap.size + 1 + 1; omega)).trans HG1.out
          have hs2 : (wr.drew.setCell ⟨w.heap.size + 1 + 1, 1, none⟩ (.int .i64 (256 * y + z))).heap[w.heap.size + 1 + 1]? = some (.cells #[.int .i64 x0, .int .i64 (numN f (12 + c) (4 - c)), .int .i64 0] 54) := by
            rw [← HS.out]
            exact Joins.block_setCell (w := wr.drew) hg2 _
          have HB2 : Hid (Below w.heap.size w (wr.drew.setCell ⟨w.heap.size + 1 + 1, 1, none⟩ (.int .i64 (256 * y + z)))) := HBE.out.drew.setCell (by show w.heap.size ≤ w.heap.size + 1 + 1; omega) _
          generalize wr.drew.setCell ⟨w.heap.size + 1 + 1, 1, none⟩ (.int .i64 (256 * y + z)) = Y at *
          clear hcl hfr hS0 hg0 hg2 HG1 HBE HS e1 e2 e3 e4 e5 e6 e7 e8 e9
          go_wp2
          exact ⟨⟨c, by omega, rfl, hs0, hs1, hs2, HB2.out⟩, by simp [intOf]⟩
        | zero =>
          rw [show numN f (12 + 0) (4 - 0) = x1 from H1.out.symm] at hg2
          clear hbd
          go_wp2
          exact ⟨⟨2, by omega, by go_num, hg0, HG1.out, hg2, HBE.out⟩, by simp [intOf]⟩
    · go_wp2
      go_loopw [8] (fun s8 wx => ∃ c : Nat, c ≤ 4 ∧ s8 = .int .i64 ((c : Int) - 1) ∧ wx.heap[w.heap.size]? = some (.cells (blk f) 35) ∧ wx.heap[w.heap.size + 1]? = some (.cells (lay9 0 0 0 0 0 0 0 0 0) 25) ∧ wx.heap[w.heap.size + 1 + 1]? = some (.cells #[.int .i64 x0, .int .i64 x1, .int .i64 (numN f (16 + c) (4 - c))] 54) ∧ Below w.heap.size w wx) (fun s8 _ => ((intOf s8) + 1).toNat)
      case atStart => exact ⟨4, by omega, rfl, HH.out.1, HH.out.2.1, HH.out.2.2.1, HH.out.2.2.2⟩
      case round =>
        clear HH
        obtain ⟨c, hc, rfl, hg0, hg1, hg2, hbel⟩ := hrel
        have HBE : Hid _ := hbel
        have HG1 : Hid _ := hg1
        clear hbel hg1
        have hbd := HN.out (4 - c) (16 + c)
        cases c with
        | succ c =>
          have hbk := blk_get f (16 + c) (by omega)
          have hst : numN f (16 + c) (4 - c) = f (16 + c) + 256 * numN f (16 + (c + 1)) (4 - (c + 1)) := by
            rw [show 4 - c = (4 - (c + 1)) + 1 by omega]
            rfl
          have hfb := HF.out (16 + c)
          have hp3 : (256 : Int) ^ (4 - (c + 1)) ≤ 16777216 := HQ.out (4 - (c + 1)) (by omega)
          have hy0 := hbd.1
          have hy1 : numN f (16 + (c + 1)) (4 - (c + 1)) < 16777216 := by omega
          rw [show (((c + 1 : Nat) : Int) - 1) = (c : Int) by omega]
          have HS : Hid (256 * numN f (16 + (c + 1)) (4 - (c + 1)) + f (16 + c) = numN f (16 + c) (4 - c)) := by show _ = _; rw [hst]; omega
          clear hst hbd hp3
          generalize numN f (16 + (c + 1)) (4 - (c + 1)) = y at *
          generalize hz : f (16 + c) = z at *
          clear hz
          obtain ⟨hz0, hz1⟩ := hfb
          have hc3 : (c : Int) ≤ 3 := by omega
          go_wp2
          have e1 : IntKind.i64.wrap 8 = 8 := by rw [IntKind.wrap_i64]; omega
          have e2 : IntKind.i64.wrap 16 = 16 := by rw [IntKind.wrap_i64]; omega
          have e3 : IntKind.i64.wrap (16 + (c : Int)) = 16 + (c : Int) := by rw [IntKind.wrap_i64]; omega
          have e4 : IntKind.i64.wrap (256 * y) = 256 * y := by rw [IntKind.wrap_i64]; omega
          have e5 : IntKind.i64.wrap (256 * y + z) = 256 * y + z := by rw [IntKind.wrap_i64]; omega
          have e6 : IntKind.i64.wrap z = z := by rw [IntKind.wrap_i64]; omega
          have e7 : 0 ≤ 16 + (c : Int) := by omega
          have e8 : 16 + (c : Int) < 1024 := by omega
          have e9 : (16 + (c : Int)).toNat = 16 + c := by omega
          have hcl : wr.drew.cell? ⟨w.heap.size + 1 + 1, 2, none⟩ = some (.int .i64 y) := Joins.cell_of_block (w := wr.drew) hg2 2
          have hfr : wr.drew.frozen? ⟨w.heap.size + 1 + 1, 2, none⟩ = false := Joins.unfrozen_of_block (w := wr.drew) hg2 2
          have hS0 : wr.drew.heap[w.heap.size]? = some (.cells (blk f) 35) := hg0
          refine wp_region_ord (S := fun u => u.heap[w.heap.size]? = some (.cells (blk f) 35)) [(0, true), (1, true), (2, true), (5, true), (6, true), (7, true), (8, true), (9, true), (10, true), (11, true), (12, true), (3, false), (4, true), (13, true), (14, true), (15, false)]
            (by kernel_rfl) rfl (by kernel_rfl) (fun d _ _ _ _ h => by cases d <;> exact h) hS0 ?_
          simp only [inOrd, List.getElem?_cons_zero, List.getElem?_cons_succ]
          refine wpOrd_move rfl _ rfl ?_
          simp only [Act.put, List.setIfInBounds_toArray, List.set_cons_succ, List.set_cons_zero]
          refine wpOrd_move rfl _ rfl ?_
          simp only [Act.put, List.setIfInBounds_toArray, List.set_cons_succ, List.set_cons_zero]
          refine wpOrd_yield (v := .pointer (some ⟨w.heap.size + 1 + 1, 2, none⟩)) rfl (fun u _ => by go_simp) ?_
          simp only [Act.put, List.setIfInBounds_toArray, List.set_cons_succ, List.set_cons_zero]
          refine wpOrd_move rfl _ rfl ?_
          simp only [Act.put, List.setIfInBounds_toArray, List.set_cons_succ, List.set_cons_zero]
          refine wpOrd_yield (v := .int .i64 8) rfl (fun u _ => by go_simp) ?_
          simp only [Act.put, List.setIfInBounds_toArray, List.set_cons_succ, List.set_cons_zero]
          refine wpOrd_yield (v := .int .i64 16) rfl (fun u _ => by go_simp) ?_
          simp only [Act.put, List.setIfInBounds_toArray, List.set_cons_succ, List.set_cons_zero]
          refine wpOrd_move rfl _ rfl ?_
          simp only [Act.put, List.setIfInBounds_toArray, List.set_cons_succ, List.set_cons_zero]
          refine wpOrd_yield (v := .int .i64 (16 + (c : Int))) rfl (fun u _ => by go_simp) ?_
          simp only [Act.put, List.setIfInBounds_toArray, List.set_cons_succ, List.set_cons_zero]
          refine wpOrd_yield (v := .pointer (some ⟨w.heap.size, 16 + c, none⟩)) rfl (fun u _ => by go_simp) ?_
          simp only [Act.put, List.setIfInBounds_toArray, List.set_cons_succ, List.set_cons_zero]
          refine wpOrd_yield (v := .int .u8 z) rfl (fun u hu => by have hcu := (Joins.cell_of_block hu (16 + c)).trans hbk; clear hg0 hg2 hcl hfr; go_simp) ?_
          simp only [Act.put, List.setIfInBounds_toArray, List.set_cons_succ, List.set_cons_zero]
          refine wpOrd_yield (v := .int .i64 z) rfl (fun u _ => by go_simp) ?_
          simp only [Act.put, List.setIfInBounds_toArray, List.set_cons_succ, List.set_cons_zero]
          refine wpOrd_load3 rfl _ rfl _ _ _ rfl hcl ⟨hS0, ?_⟩
          simp only [Act.put, List.setIfInBounds_toArray, List.set_cons_succ, List.set_cons_zero]
          refine wpOrd_yield (v := .int .i64 (256 * y)) rfl (fun u _ => by go_simp) ?_
          simp only [Act.put, List.setIfInBounds_toArray, List.set_cons_succ, List.set_cons_zero]
          refine wpOrd_yield (v := .int .i64 (256 * y + z)) rfl (fun u _ => by go_simp) ?_
          simp only [Act.put, List.setIfInBounds_toArray, List.set_cons_succ, List.set_cons_zero]
          refine wpOrd_yield (v := .pointer (some ⟨w.heap.size + 1 + 1, 2, none⟩)) rfl (fun u _ => by go_simp) ?_
          simp only [Act.put, List.setIfInBounds_toArray, List.set_cons_succ, List.set_cons_zero]
          have hs0 : (wr.drew.setCell ⟨w.heap.size + 1 + 1, 2, none⟩ (.int .i64 (256 * y + z))).heap[w.heap.size]? = some (.cells (blk f) 35) := (Deep.blk_setCell_other _ _ _ _ (by show w.heap.size ≠ w.heap.size + 1 + 1; omega)).trans hg0
          refine wpOrd_store3c rfl _ _ rfl _ _ _ _ rfl rfl hcl hfr ⟨hs0, ?_⟩
          refine wpOrd_nil ?_
          simp only [Act.put]
          have hs1 : (wr.drew.setCell ⟨w.heap.size + 1 + 1, 2, none⟩ (.int .i64 (256 * y + z))).heap[w.heap.size + 1]? = some (.cells (lay9 0 0 0 0 0 0 0 0 0) 25) := (Deep.blk_setCell_other _ _ _ _ (by show w.heap.size + 1 ≠ w.heap.size + 1 + 1; omega)).trans HG1.out
          have hs2 : (wr.drew.setCell ⟨w.heap.size + 1 + 1, 2, none⟩ (.int .i64 (256 * y + z))).heap[w.heap.size + 1 + 1]? = some (.cells #[.int .i64 x0, .int .i64 x1, .int .i64 (numN f (16 + c) (4 - c))] 54) := by
            rw [← HS.out]
            exact Joins.block_setCell (w := wr.drew) hg2 _
          have HB2 : Hid (Below w.heap.size w (wr.drew.setCell ⟨w.heap.size + 1 + 1, 2, none⟩ (.int .i64 (256 * y + z)))) := HBE.out.drew.setCell (by show w.heap.size ≤ w.heap.size + 1 + 1; omega) _
          generalize wr.drew.setCell ⟨w.heap.size + 1 + 1, 2, none⟩ (.int .i64 (256 * y + z)) = Y at *
          clear hcl hfr hS0 hg0 hg2 HG1 HBE HS e1 e2 e3 e4 e5 e6 e7 e8 e9
          go_wp2
          exact ⟨⟨c, by omega, rfl, hs0, hs1, hs2, HB2.out⟩, by simp [intOf]⟩
        | zero =>
          rw [show numN f (16 + 0) (4 - 0) = x2 from H2.out.symm] at hg2
          clear hbd
          go_wp2
          exact ⟨⟨3, by omega, by go_num, hg0, HG1.out, hg2, HBE.out⟩, by simp [intOf]⟩
    · have hg0 := HH.out.1
      have hg1 := HH.out.2.1
      have hg2 := HH.out.2.2.1
      have HB : Hid (Below w.heap.size w wr) := HH.out.2.2.2
      clear HH HN HQ HF
      have hof := fun w => refOf_any x0 x1 x2 w
      have hR := @dec_ret f n
      have hT := @dec_retT f n
      have hN := @decB_no f n
      have hY := @decB_yes f n
      rw [← H0.out, ← H1.out, ← H2.out] at hT hN hY
      clear H0 H1 H2
      change wr.heap[w.heap.size + 1 + 1]? = some (.cells #[.int .i64 x0, .int .i64 x1, .int .i64 x2] 54) at hg2
      have z25 := zero25
      have hq := eq25
      have k0 : wr.cell? ⟨w.heap.size + 1 + 1, 0, none⟩ = some (.int .i64 x0) := Joins.cell_of_block hg2 0
      have k1 : wr.cell? ⟨w.heap.size + 1 + 1, 1, none⟩ = some (.int .i64 x1) := Joins.cell_of_block hg2 1
      have k2 : wr.cell? ⟨w.heap.size + 1 + 1, 2, none⟩ = some (.int .i64 x2) := Joins.cell_of_block hg2 2
      by_cases hfine : Fine x0 x1 x2
      · rw [show ofV x0 x1 x2 = layV x0 x1 x2 from if_pos hfine, show ofE x0 x1 x2 = 0 from if_pos hfine] at hof
        have henc := fun w => refEncode_fine x0 x1 x2 w hfine
        have hdec : sameB (superF x0 x1 x2) f = false ∨ (sameB (superF x0 x1 x2) f = true ∧ n < x0) ∨ (sameB (superF x0 x1 x2) f = true ∧ x0 ≤ n) := by
          cases sameB (superF x0 x1 x2) f
          · exact .inl rfl
          · by_cases h : x0 ≤ n
            · exact .inr (.inr ⟨rfl, h⟩)
            · exact .inr (.inl ⟨rfl, by omega⟩)
        have h1 : sameB (superF x0 x1 x2) f = false → Hid (Ending.returned (.tuple #[layZ, .int .i64 4]) = .returned (.tuple #[decV f n, .int .i64 (decE f n)])) := fun q => by
          by_cases h : x0 ≤ n
          · exact hR ((hY ⟨hfine, h⟩).trans q)
          · exact hR (hN fun r => h r.2)
        have h2 : n < x0 → Hid (Ending.returned (.tuple #[layZ, .int .i64 4]) = .returned (.tuple #[decV f n, .int .i64 (decE f n)])) := fun q => hR (hN fun r => by omega)
        have h3 : sameB (superF x0 x1 x2) f = true → x0 ≤ n → Hid (Ending.returned (.tuple #[layV x0 x1 x2, .int .i64 0]) = .returned (.tuple #[decV f n, .int .i64 (decE f n)])) := fun q h => hT ((hY ⟨hfine, h⟩).trans q)
        generalize superF x0 x1 x2 = F at *
        clear hN hY hR hT hfine
        unfold layV geoV at *
        unfold lay9 at *
        go_wp2_with (first | (go_at_call 10; fail))
        refine (hof _).mono ?_
        rintro e W2 ⟨rfl, hb2⟩
        have p2 := heap_kept hg0 hb2
        have r2 := heap_kept hg1 hb2
        have g2 := heap_kept hg2 hb2
        have HB2 : Hid (Below w.heap.size w W2) := below_next HB.out hb2
        clear hb2 hof hg0 hg1 hg2 k0 k1 k2
        go_wp2_with (first | (go_at_call 15; fail))
        refine (henc _).mono ?_
        rintro e W3 ⟨rfl, hb3⟩
        have p3 := heap_kept (heap_kept p2 (below_new _ _)) hb3
        have r3 := heap_kept (heap_kept r2 (below_new _ _)) hb3
        have g3 := heap_kept (heap_kept g2 (below_new _ _)) hb3
        have l3 := heap_kept (heap_alloc_new W2 _) hb3
        have HB3 : Hid (Below w.heap.size w W3) := below_next (below_next HB2.out (below_new _ _)) hb3
        clear hb3 henc p2 r2 g2 HB2
        have p4 := heap_kept p3 (below_new W3 (.cells (blk F) 35))
        have l4 := heap_kept l3 (below_new W3 (.cells (blk F) 35))
        have r4 := heap_kept r3 (below_new W3 (.cells (blk F) 35))
        have g4 := heap_kept g3 (below_new W3 (.cells (blk F) 35))
        have k4 : W3.cell? ⟨w.heap.size + 1 + 1, 0, none⟩ = some (.int .i64 x0) := Joins.cell_of_block g3 0
        have hlt4 : w.heap.size + 1 + 1 < W3.heap.size := (Array.getElem?_eq_some_iff.1 g3).1
        have HB4 : Hid (Below w.heap.size w (W3.alloc (.cells (blk F) 35))) := below_next HB3.out (below_new _ _)
        clear p3 l3 r3 g3 g4
        rcases hdec with hD | ⟨hD, hlt⟩ | ⟨hD, hle⟩
        · have HE := h1 hD
          clear h1 h2 h3
          go_wp2_with (first | refine wpList_store25_new rfl _ _ rfl _ _ rfl rfl ?_ | refine wpList_load35w rfl _ rfl _ rfl _ (heap_alloc_new _ _) ?_ | refine wpList_load35w rfl _ rfl _ rfl _ p4 ?_ | refine wpList_storeL rfl _ _ rfl _ _ _ rfl rfl (by simp [Value.oneCell']) rfl rfl r4 ?_)
          exact retCT rfl (w.heap.size + 1) _ rfl (load25L _ _ _ (setRow_heap _ _ _ _ _ _ r4) rfl) rfl ⟨HE.out, below_setRow HB4.out (by omega) _⟩
        · have HE := h2 hlt
          clear h1 h2 h3
          go_wp2_with (first | refine wpList_store25_new rfl _ _ rfl _ _ rfl rfl ?_ | refine wpList_load35w rfl _ rfl _ rfl _ (heap_alloc_new _ _) ?_ | refine wpList_load35w rfl _ rfl _ rfl _ p4 ?_ | refine wpList_storeL rfl _ _ rfl _ _ _ rfl rfl (by simp [Value.oneCell']) rfl rfl r4 ?_)
          exact retCT rfl (w.heap.size + 1) _ rfl (load25L _ _ _ (setRow_heap _ _ _ _ _ _ r4) rfl) rfl ⟨HE.out, below_setRow HB4.out (by omega) _⟩
        · have HE := h3 hD hle
          clear h1 h2 h3
          go_wp2_with (first | refine wpList_store25_new rfl _ _ rfl _ _ rfl rfl ?_ | refine wpList_load35w rfl _ rfl _ rfl _ (heap_alloc_new _ _) ?_ | refine wpList_load35w rfl _ rfl _ rfl _ p4 ?_ | refine wpList_loadL rfl _ rfl _ rfl _ rfl l4 ?_ | refine wpList_storeL rfl _ _ rfl _ _ _ rfl rfl (by simp [Value.oneCell']) rfl rfl r4 ?_)
          exact retCT rfl (w.heap.size + 1) _ rfl (load25L _ _ _ (setRow_heap _ _ _ _ _ _ r4) rfl) rfl ⟨HE.out, below_setRow HB4.out (by omega) _⟩
      · have HE : Hid _ := hR (hN fun q => hfine q.1)
        rw [show ofV x0 x1 x2 = layZ from if_neg hfine, show ofE x0 x1 x2 = 2 from if_neg hfine] at hof
        have henc := fun w => refEncode_not 0 0 0 0 0 0 0 0 0 w (decide_eq_false fun q => absurd q.1.1 (by omega))
        clear hN hY hR hT hfine
        unfold layZ geoV at hof
        unfold lay9 at *
        go_wp2_with (first | (go_at_call 10; fail))
        refine (hof _).mono ?_
        rintro e W2 ⟨rfl, hb2⟩
        have r2 := heap_kept hg1 hb2
        have HB2 : Hid (Below w.heap.size w W2) := below_next HB.out hb2
        clear hb2 hof hg0 hg1 hg2 k0 k1 k2
        go_wp2_with (first | (go_at_call 15; fail))
        refine (henc _).mono ?_
        rintro e W3 ⟨rfl, hb3⟩
        have r4 := heap_kept (heap_kept (heap_kept r2 (below_new _ _)) hb3) (below_new W3 (.cells (blk nought) 35))
        have HB4 : Hid (Below w.heap.size w (W3.alloc (.cells (blk nought) 35))) := below_next (below_next (below_next HB2.out (below_new _ _)) hb3) (below_new _ _)
        clear hb3 henc r2 HB2
        go_wp2_with (first | refine wpList_store25_new rfl _ _ rfl _ _ rfl rfl ?_ | refine wpList_storeL rfl _ _ rfl _ _ _ rfl rfl (by simp [Value.oneCell']) rfl rfl r4 ?_)
        exact retCT rfl (w.heap.size + 1) _ rfl (load25L _ _ _ (setRow_heap _ _ _ _ _ _ r4) rfl) rfl ⟨HE.out, below_setRow HB4.out (by omega) _⟩
end Go.Proofs.Ytmblppgmfgjbpaa
