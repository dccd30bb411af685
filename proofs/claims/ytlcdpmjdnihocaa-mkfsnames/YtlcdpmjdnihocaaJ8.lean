/- Several texts joined, each with its own remark; no condition. -/
import Derived.Test.YtlcdpmjdnihocaaJ7
import Derived.WalkKit
import Derived.WalkSpells
import Derived.WalkLawsBesides
import Derived.Deep.WholeRow
import Derived.Laws.StructEq
import Derived.Test.YtlcdpmjdnihocaaRows
import Derived.BigQuiet
import Derived.OrdersHeld
import Derived.Laws.BitsLemmas
import Derived.Laws.ResultCell
import Derived.Maps.AppendAt
import Derived.Maps.OwnOps
import Derived.Maps.OwnSet
import Derived.Deep.LoopGhost
import Derived.Test.YtlcdpmjdnihocaaJ2
import Derived.Test.YtlcdpmjdnihocaaJ3
import Derived.Deep.Cut
import Derived.Deep.CutRange
/- Mkfs by the program: a block of the bitmap; the block lies in the bitmap, and numbers are within their bounds. -/
namespace Go.Proofs.Ytlcdpmjdnihocaa
open Go.RowKit Go.Maps
/-- Bytes of which the first n bits are 1. -/
def btF (n : Nat) : Nat → Int := fun j => if 8 * j + 8 ≤ n then 255 else if n ≤ 8 * j then 0 else 2 ^ (n - 8 * j) - 1
theorem btF_zero : btF 0 = nought := by funext j; unfold btF nought; rw [if_neg (by omega), if_pos (by omega)]
theorem eight {P : Nat → Prop} (h : P 0 ∧ P 1 ∧ P 2 ∧ P 3 ∧ P 4 ∧ P 5 ∧ P 6 ∧ P 7) (k : Nat) (hk : k < 8) : P k := by
  rcases (show k = 0 ∨ k = 1 ∨ k = 2 ∨ k = 3 ∨ k = 4 ∨ k = 5 ∨ k = 6 ∨ k = 7 by omega) with rfl | rfl | rfl | rfl | rfl | rfl | rfl | rfl
  · exact h.1
  · exact h.2.1
  · exact h.2.2.1
  · exact h.2.2.2.1
  · exact h.2.2.2.2.1
  · exact h.2.2.2.2.2.1
  · exact h.2.2.2.2.2.2.1
  · exact h.2.2.2.2.2.2.2
theorem btF_at (t : Nat) : btF t (t / 8) = 2 ^ (t % 8) - 1 := by
  unfold btF
  rw [if_neg (by omega)]
  by_cases h : t ≤ 8 * (t / 8)
  · rw [if_pos h, show t % 8 = 0 by omega]; rfl
  · rw [if_neg h, show t - 8 * (t / 8) = t % 8 by omega]
theorem btF_step (t : Nat) : updN (btF t) (t / 8) (2 ^ (t % 8 + 1) - 1) = btF (t + 1) := by
  funext j
  unfold updN
  by_cases e : j = t / 8
  · subst e
    rw [if_pos rfl]
    unfold btF
    by_cases h : 8 * (t / 8) + 8 ≤ t + 1
    · rw [if_pos h, show t % 8 + 1 = 8 by omega]; rfl
    · rw [if_neg h, if_neg (by omega), show t + 1 - 8 * (t / 8) = t % 8 + 1 by omega]
  · rw [if_neg e]
    unfold btF
    by_cases h : 8 * j + 8 ≤ t
    · rw [if_pos h, if_pos (by omega)]
    · by_cases h2 : t ≤ 8 * j
      · rw [if_neg h, if_pos h2, if_neg (show ¬ 8 * j + 8 ≤ t + 1 by omega), if_pos (show t + 1 ≤ 8 * j by omega)]
      · exact absurd (show j = t / 8 by omega) e
theorem or_bit (r : Nat) (h : r < 8) : bits .or .u8 (2 ^ r - 1) (2 ^ r) = 2 ^ (r + 1) - 1 :=
  eight (P := fun r => bits .or .u8 (2 ^ r - 1) (2 ^ r) = 2 ^ (r + 1) - 1) ⟨by decide, by decide, by decide, by decide, by decide, by decide, by decide, by decide⟩ r h
theorem pow8 (r : Nat) (h : r < 8) : (0 : Int) < 2 ^ r ∧ (2 : Int) ^ r ≤ 128 :=
  eight (P := fun r => (0 : Int) < 2 ^ r ∧ (2 : Int) ^ r ≤ 128) ⟨by decide, by decide, by decide, by decide, by decide, by decide, by decide, by decide⟩ r h
theorem exec_shl {o : Oper} {a : Act} {W : World} {x y : Operand} {ty : TypeId} {r : Nat} (ho : o.op = .binOp .shl 5 x y ty) (hx : a.eval x = .int .u8 1) (hy : a.eval y = .int .i64 (r : Int)) (h : r < 8) : (execOp a.eval o).run Try.prog W = .ok (.value (.int .u8 (2 ^ r))) W := by
  have key : ∀ r : Nat, r < 8 → (binOp .shl 5 (.int .u8 1) (.int .i64 (r : Int))).run Try.prog W = .ok (.int .u8 (2 ^ r)) W := fun r hr =>
    eight (P := fun r => (binOp .shl 5 (.int .u8 1) (.int .i64 ((r : Nat) : Int))).run Try.prog W = .ok (.int .u8 (2 ^ r)) W) ⟨by rfl, by rfl, by rfl, by rfl, by rfl, by rfl, by rfl, by rfl⟩ r hr
  have e := key r h
  have eg : (eqGuard .shl 5 x y (.int .u8 1) (.int .i64 (r : Int))).run Try.prog W = .ok () W := rfl
  simp [execOp, ho, hx, hy, e, eg]
structure BtS (w W : World) (L : Array Value) (Y : Nat → Int) : Prop where
  lay : W.heap[w.heap.size]? = some (.cells L 29)
  res : W.heap[w.heap.size + 1]? = some (.cells (blk nought) 46)
  blk : W.heap[w.heap.size + 1 + 1]? = some (.cells (blk Y) 46)
  bel : Below w.heap.size w W
theorem BtS.later {w W W' : World} {L : Array Value} {Y : Nat → Int} (h : BtS w W L Y) (hb : Below W.heap.size W W') : BtS w W' L Y := ⟨heap_kept h.lay hb, heap_kept h.res hb, heap_kept h.blk hb, below_next h.bel hb⟩
theorem BtS.set {w W : World} {L : Array Value} {Y : Nat → Int} (h : BtS w W L Y) (j : Nat) (x : Int) : BtS w (W.setCell ⟨w.heap.size + 1 + 1, j, none⟩ (.int .u8 x)) L (updN Y j x) := by
  have hF := Fr.setCell W (w.heap.size + 1 + 1) j (.int .u8 x)
  exact ⟨(hF.block _ (Array.getElem?_eq_some_iff.1 h.lay).1 (by omega)).trans h.lay, (hF.block _ (Array.getElem?_eq_some_iff.1 h.res).1 (by omega)).trans h.res, setCell_rowN (m := 1024) h.blk j x, h.bel.trans (hF.below (fun j q => by omega) h.bel.size)⟩
set_option maxRecDepth 20000 in
set_option maxHeartbeats 4000000 in
theorem bitmap_ok (b l i a c d e f : Int) (D q : Nat) (w : World) (hq : q ≤ 128) :
    Calls Try.prog 53 #[.agg (YtlcdpmjdnihocaaP.lay9 b l i a c d e f D), .int .i64 (e + q)] w fun e' w' => e' = .returned (.agg (blk (btF (min 8192 (D + 1 - 8192 * q))))) ∧ Below w.heap.size w w' := by
  have zb := zero77
  have l6 : (YtlcdpmjdnihocaaP.lay9 b l i a c d e f D)[6]? = some (.int .i64 e) := rfl
  have l8 : (YtlcdpmjdnihocaaP.lay9 b l i a c d e f D)[8]? = some (.int .i64 (D : Int)) := rfl
  have HL8 : Hid _ := l8
  clear l8
  generalize YtlcdpmjdnihocaaP.lay9 b l i a c d e f D = L at *
  obtain ⟨A, hA⟩ : ∃ A, A = ((w.alloc (.cells L 29)).alloc (.cells (blk nought) 46)).alloc (.cells (blk nought) 46) := ⟨_, rfl⟩
  have hT : BtS w A L (btF 0) := by
    rw [hA, btF_zero]
    refine ⟨heap_kept (heap_kept (heap_alloc_new _ _) (below_new _ _)) (below_new _ _), heap_kept (heap_two _ _ _) (below_new _ _), ?_, below_next (below_next (below_new _ _) (below_new _ _)) (below_new _ _)⟩
    have := heap_two (w.alloc (.cells L 29)) (.cells (blk nought) 46) (.cells (blk nought) 46)
    rwa [show (w.alloc (.cells L 29)).heap.size + 1 = w.heap.size + 1 + 1 by simp] at this
  have HT : Hid _ := hT
  have c6 : A.cell? ⟨w.heap.size, 6, none⟩ = some (.int .i64 e) := (cell_of_row _ _ 6 _ _ _ hT.lay).trans l6
  have HA : Hid (A = _) := hA
  clear hA hT l6
  obtain ⟨n, hn⟩ : ∃ n, min 8192 (D + 1 - 8192 * q) = n := ⟨_, rfl⟩
  rw [hn]
  have HN : Hid (n ≤ 8192 ∧ ∀ t : Nat, t < n ↔ t < 8192 ∧ 8192 * q + t ≤ D) := ⟨by omega, fun t => by omega⟩
  clear hn
  have e0 : e + (q : Int) - e = (q : Int) := by omega
  have e1 : IntKind.i64.wrap (q : Int) = (q : Int) := by rw [IntKind.wrap_i64]; omega
  obtain ⟨fi, hfi⟩ : ∃ fi : Int, fi = 8192 * (q : Int) := ⟨_, rfl⟩
  have e2 : IntKind.i64.wrap ((q : Int) * 8192) = fi := by rw [IntKind.wrap_i64]; omega
  obtain ⟨fj, hfj⟩ : ∃ fj : Int, fj = fi + 8192 := ⟨_, rfl⟩
  have e4 : IntKind.i64.wrap (fi + 8192) = fj := by rw [IntKind.wrap_i64]; omega
  have HFi : Hid (fi = 8192 * (q : Int) ∧ 0 ≤ fi ∧ fi ≤ 1048576 ∧ fj = fi + 8192) := ⟨hfi, by omega, by omega, hfj⟩
  clear hfi hfj
  go_enter Try.func53, Try.ntmps53
  go_upto_region 2 with fail
  rw [← HA.out]
  clear HA
  go_wp2_with fail
  clear e0 e1 e2 c6
  go_loopw [7] (fun s7 wx => ∃ t : Nat, t ≤ n ∧ s7 = .int .i64 (fi + t) ∧ Hid (BtS w wx L (btF t))) (fun s7 _ => (fi + n - (intOf s7)).toNat)
  case atStart => exact ⟨0, by omega, by simp, HT.out⟩
  case round =>
    obtain ⟨t, ht, rfl, HM⟩ := hrel
    clear HT
    have c8 : wr.cell? ⟨w.heap.size, 8, none⟩ = some (.int .i64 (D : Int)) := (cell_of_row _ _ 8 _ _ _ HM.out.lay).trans HL8.out
    by_cases h1 : t < n
    · obtain ⟨h2, h3⟩ := (HN.out.2 t).1 h1
      have k1 : decide (fi + (t : Int) ≤ (D : Int)) = true := decide_eq_true (by have := HFi.out; omega)
      have k2 : decide (fi + (t : Int) < fj) = true := decide_eq_true (by have := HFi.out; omega)
      have HT2 : Hid (t < n ∧ t < 8192 ∧ n ≤ 8192) := ⟨h1, h2, HN.out.1⟩
      clear h1 h2 h3 ht
      go_wp2_with fail
      have hB : BtS w wr.drew L (btF t) := HM.out.later (Below.refl _ _).drew
      clear HM c8 k1 k2
      have cb := cell_rowN (i := t / 8) (m := 1024) hB.blk (by have := HT2.out; omega)
      have fb := frozen_row hB.blk (t / 8)
      rw [btF_at] at cb
      have HG : Hid (BtS w (wr.drew.setCell ⟨w.heap.size + 1 + 1, t / 8, none⟩ (.int .u8 (2 ^ (t % 8 + 1) - 1))) L (btF (t + 1))) := by
        have := hB.set (t / 8) (2 ^ (t % 8 + 1) - 1)
        rwa [btF_step] at this
      have ho := or_bit (t % 8) (by omega)
      have W2 : IntKind.i64.wrap (t : Int) = (t : Int) := by have := HT2.out; rw [IntKind.wrap_i64]; omega
      have W3 : (t : Int).tdiv 8 = ((t / 8 : Nat) : Int) := by rw [Int.tdiv_eq_ediv_of_nonneg (by omega)]; omega
      have W4 : IntKind.i64.wrap ((t / 8 : Nat) : Int) = ((t / 8 : Nat) : Int) := by have := HT2.out; rw [IntKind.wrap_i64]; omega
      have W5 : (fi + (t : Int)).tmod 8 = ((t % 8 : Nat) : Int) := by have := HFi.out; rw [Int.tmod_eq_emod_of_nonneg (by omega)]; omega
      have W6 : IntKind.i64.wrap ((t % 8 : Nat) : Int) = ((t % 8 : Nat) : Int) := by rw [IntKind.wrap_i64]; omega
      have W7 : fi + (t : Int) - fi = (t : Int) := by omega
      have W8 : IntKind.i64.wrap (fi + (t : Int) + 1) = fi + ((t + 1 : Nat) : Int) := by have := HFi.out; have := HT2.out; rw [IntKind.wrap_i64]; omega
      have HR : Hid (t % 8 < 8) := Nat.mod_lt _ (by omega)
      have hq8 : t / 8 < 1024 := by have := HT2.out; omega
      clear hB
      refine wp_region_ord (S := fun _ => True) [(0, true), (1, true), (2, true), (3, true), (4, true), (6, true), (7, true), (8, true), (5, false), (9, true), (10, true), (11, false)] (by kernel_rfl) rfl (by kernel_rfl) (fun d _ _ _ _ h => by cases d <;> exact h) trivial ?_
      simp only [inOrd, List.getElem?_cons_zero, List.getElem?_cons_succ]
      generalize wr.drew = U at *
      generalize t / 8 = Q at *
      generalize t % 8 = r at *
      have hq9 : ¬ (1024 : Int) ≤ (Q : Int) := by omega
      have hq7 : (Q : Int) < 1024 := by omega
      refine wpOrd_yield (v := .int .i64 (fi + (t : Int))) rfl (fun u _ => by go_simp) ?_
      simp only [Act.put, List.setIfInBounds_toArray, List.set_cons_succ, List.set_cons_zero]
      refine wpOrd_yield (v := .int .i64 fi) rfl (fun u _ => by go_simp) ?_
      simp only [Act.put, List.setIfInBounds_toArray, List.set_cons_succ, List.set_cons_zero]
      refine wpOrd_yield (v := .int .i64 (t : Int)) rfl (fun u _ => by go_simp) ?_
      simp only [Act.put, List.setIfInBounds_toArray, List.set_cons_succ, List.set_cons_zero]
      refine wpOrd_yield (v := .int .i64 (Q : Int)) rfl (fun u _ => by go_simp) ?_
      simp only [Act.put, List.setIfInBounds_toArray, List.set_cons_succ, List.set_cons_zero]
      refine wpOrd_yield (v := .pointer (some ⟨w.heap.size + 1 + 1, Q, none⟩)) rfl (fun u _ => by go_simp) ?_
      simp only [Act.put, List.setIfInBounds_toArray, List.set_cons_succ, List.set_cons_zero]
      refine wpOrd_yield (v := .int .i64 (fi + (t : Int))) rfl (fun u _ => by go_simp) ?_
      simp only [Act.put, List.setIfInBounds_toArray, List.set_cons_succ, List.set_cons_zero]
      refine wpOrd_yield (v := .int .i64 (r : Int)) rfl (fun u _ => by go_simp) ?_
      simp only [Act.put, List.setIfInBounds_toArray, List.set_cons_succ, List.set_cons_zero]
      refine wpOrd_yield (v := .int .u8 (2 ^ r)) rfl (fun u _ => exec_shl rfl rfl rfl HR.out) ?_
      simp only [Act.put, List.setIfInBounds_toArray, List.set_cons_succ, List.set_cons_zero]
      refine wpOrd_actM (W' := U) (v := .int .u8 (2 ^ r - 1)) rfl (by have := cb; go_simp) trivial ?_
      simp only [Act.put, List.setIfInBounds_toArray, List.set_cons_succ, List.set_cons_zero]
      refine wpOrd_yield (v := .int .u8 (2 ^ (r + 1) - 1)) rfl (fun u _ => by generalize (2 : Int) ^ (r + 1) - 1 = p2 at *; generalize (2 : Int) ^ r = p at *; go_simp) ?_
      simp only [Act.put, List.setIfInBounds_toArray, List.set_cons_succ, List.set_cons_zero]
      refine wpOrd_yield (v := .pointer (some ⟨w.heap.size + 1 + 1, Q, none⟩)) rfl (fun u _ => by go_simp) ?_
      simp only [Act.put, List.setIfInBounds_toArray, List.set_cons_succ, List.set_cons_zero]
      generalize (2 : Int) ^ (r + 1) - 1 = p2 at *
      generalize (2 : Int) ^ r = p at *
      refine wpOrd_doM (W' := U.setCell ⟨w.heap.size + 1 + 1, Q, none⟩ (.int .u8 p2)) rfl (by have := cb; go_simp) trivial ?_
      simp only [Act.put]
      refine wpOrd_nil ?_
      generalize U.setCell ⟨w.heap.size + 1 + 1, Q, none⟩ (.int .u8 p2) = U2 at *
      clear cb fb ho
      go_wp2_with fail
      exact ⟨⟨t + 1, by have := HT2.out; omega, by rw [Int.natCast_add] at *; go_num, HG.out⟩, by have := HT2.out; simp [intOf]; omega⟩
    · obtain rfl : t = n := by omega
      have hr := HM.out.res
      have hb := HM.out.blk
      have HBe : Hid _ := HM.out.bel
      have hN := (HN.out.2 t)
      clear HM
      by_cases h2 : fi + (t : Int) ≤ (D : Int)
      · have k1 : decide (fi + (t : Int) ≤ (D : Int)) = true := decide_eq_true h2
        have k2 : decide (fi + (t : Int) < fj) = false := decide_eq_false (by have := HFi.out; omega)
        clear h2 hN
        go_wp2_with (first | (with_reducible refine isLoadR 46 ?_; refine wpList_ldB rfl _ rfl (w.heap.size + 1 + 1) 0 (btF t) rfl (blk_at hb) ?_) | (with_reducible refine isStoreR 46 ?_; refine wpList_stB rfl _ _ rfl (w.heap.size + 1) (btF t) nought 46 rfl rfl hr ?_))
        exact retB rfl (w.heap.size + 1) (btF t) 46 rfl (setRow_heap _ _ _ _ _ _ hr) rfl ⟨rfl, below_setRow HBe.out (by omega) _⟩
      · have k1 : decide (fi + (t : Int) ≤ (D : Int)) = false := decide_eq_false h2
        clear h2 hN
        go_wp2_with (first | (with_reducible refine isLoadR 46 ?_; refine wpList_ldB rfl _ rfl (w.heap.size + 1 + 1) 0 (btF t) rfl (blk_at hb) ?_) | (with_reducible refine isStoreR 46 ?_; refine wpList_stB rfl _ _ rfl (w.heap.size + 1) (btF t) nought 46 rfl rfl hr ?_))
        exact retB rfl (w.heap.size + 1) (btF t) 46 rfl (setRow_heap _ _ _ _ _ _ hr) rfl ⟨rfl, below_setRow HBe.out (by omega) _⟩
end Go.Proofs.Ytlcdpmjdnihocaa
/- Mkfs by the program: what a block from the inodes' region to the first data block holds; for every layout that may be. -/
namespace Go.Proofs.Ytlcdpmjdnihocaa
open Go.RowKit Go.Maps
/-- What the second part writes to a block from the inodes' region on. -/
def coF (b l i k : Int) : Nat → Int :=
  if k < YtlcdpmjdnihocaaP.bitsAt l i then ndF (YtlcdpmjdnihocaaP.dataAt b l i) (k == 1 + l)
  else if k < YtlcdpmjdnihocaaP.dataAt b l i then btF (min 8192 ((YtlcdpmjdnihocaaP.dataAt b l i).toNat + 1 - 8192 * (k - YtlcdpmjdnihocaaP.bitsAt l i).toNat))
  else slF
theorem stands_lay {b l i : Int} (hf : YtlcdpmjdnihocaaP.Fine b l i) : YtlcdpmjdnihocaaP.standsB b l i 1 (1 + l) (YtlcdpmjdnihocaaP.nodeB i) (YtlcdpmjdnihocaaP.bitsAt l i) (YtlcdpmjdnihocaaP.bitsB b) (YtlcdpmjdnihocaaP.dataAt b l i) = true := decide_eq_true ⟨hf, rfl, rfl, rfl, rfl, rfl, rfl⟩
theorem fine_bd {b l i : Int} (hf : YtlcdpmjdnihocaaP.Fine b l i) : 35 ≤ b ∧ b ≤ 1048576 ∧ 32 ≤ l ∧ l ≤ 256 ∧ 1 + l < YtlcdpmjdnihocaaP.bitsAt l i ∧ YtlcdpmjdnihocaaP.bitsAt l i < YtlcdpmjdnihocaaP.dataAt b l i ∧ YtlcdpmjdnihocaaP.dataAt b l i < b ∧ YtlcdpmjdnihocaaP.dataAt b l i - YtlcdpmjdnihocaaP.bitsAt l i ≤ 128 := by
  have hp := hf.pos
  obtain ⟨h1, h2, h3, h4, h5, h6⟩ := hf
  unfold YtlcdpmjdnihocaaP.dataAt YtlcdpmjdnihocaaP.bitsAt YtlcdpmjdnihocaaP.nodeB YtlcdpmjdnihocaaP.bitsB at *
  omega
set_option maxRecDepth 20000 in
set_option maxHeartbeats 4000000 in
theorem content_ok (b l i k : Int) (hf : YtlcdpmjdnihocaaP.Fine b l i) (hk : 1 + l ≤ k ∧ k ≤ YtlcdpmjdnihocaaP.dataAt b l i) (w : World) :
    Calls Try.prog 41 #[YtlcdpmjdnihocaaP.layV b l i, .int .i64 k] w fun e w' => e = .returned (.agg (blk (coF b l i k))) ∧ Below w.heap.size w w' := by
  have zb := zero77
  obtain ⟨b1, b2, b3, b4, b5, b6, b7, b8⟩ := fine_bd hf
  have hI : YtlcdpmjdnihocaaP.I64 b := by unfold YtlcdpmjdnihocaaP.I64; omega
  have hw := fun u => YtlcdpmjdnihocaaP.where_any b l i 1 (1 + l) (YtlcdpmjdnihocaaP.nodeB i) (YtlcdpmjdnihocaaP.bitsAt l i) (YtlcdpmjdnihocaaP.bitsB b) (YtlcdpmjdnihocaaP.dataAt b l i) k u hI
  have hN := YtlcdpmjdnihocaaP.wN (k := k) (b := b) (by omega) (by omega) (stands_lay hf)
  rw [if_neg (by omega), if_neg (by omega)] at hN
  rw [hN] at hw
  have hnd := fun u => nodes_ok b l i 1 (1 + l) (YtlcdpmjdnihocaaP.nodeB i) (YtlcdpmjdnihocaaP.bitsAt l i) (YtlcdpmjdnihocaaP.bitsB b) (YtlcdpmjdnihocaaP.dataAt b l i) k u ⟨by omega, by omega⟩ ⟨by omega, by omega⟩
  have hsl := slots_ok
  have hbt : ∀ u, YtlcdpmjdnihocaaP.bitsAt l i ≤ k → k < YtlcdpmjdnihocaaP.dataAt b l i → Calls Try.prog 53 #[.agg (YtlcdpmjdnihocaaP.lay9 b l i 1 (1 + l) (YtlcdpmjdnihocaaP.nodeB i) (YtlcdpmjdnihocaaP.bitsAt l i) (YtlcdpmjdnihocaaP.bitsB b) (YtlcdpmjdnihocaaP.dataAt b l i)), .int .i64 k] u fun e' w' => e' = .returned (.agg (blk (btF (min 8192 ((YtlcdpmjdnihocaaP.dataAt b l i).toNat + 1 - 8192 * (k - YtlcdpmjdnihocaaP.bitsAt l i).toNat))))) ∧ Below u.heap.size u w' := fun u h1 h2 => by
    have := bitmap_ok b l i 1 (1 + l) (YtlcdpmjdnihocaaP.nodeB i) (YtlcdpmjdnihocaaP.bitsAt l i) (YtlcdpmjdnihocaaP.bitsB b) (YtlcdpmjdnihocaaP.dataAt b l i).toNat (k - YtlcdpmjdnihocaaP.bitsAt l i).toNat u (by omega)
    rwa [show (((YtlcdpmjdnihocaaP.dataAt b l i).toNat : Nat) : Int) = YtlcdpmjdnihocaaP.dataAt b l i by omega, show YtlcdpmjdnihocaaP.bitsAt l i + (((k - YtlcdpmjdnihocaaP.bitsAt l i).toNat : Nat) : Int) = k by omega] at this
  have HBt : Hid _ := hbt
  have HNd : Hid _ := hnd
  have HSl : Hid _ := hsl
  clear hbt hnd hsl hN
  have hlL : (Try.prog.info? 29).map (·.size) = some (YtlcdpmjdnihocaaP.lay9 b l i 1 (1 + l) (YtlcdpmjdnihocaaP.nodeB i) (YtlcdpmjdnihocaaP.bitsAt l i) (YtlcdpmjdnihocaaP.bitsB b) (YtlcdpmjdnihocaaP.dataAt b l i)).size := by kernel_rfl
  have HSz : Hid _ := hlL
  clear hlL
  unfold YtlcdpmjdnihocaaP.layV
  obtain ⟨F, hF⟩ : ∃ F, coF b l i k = F := ⟨_, rfl⟩
  have HF : Hid (F = if k < YtlcdpmjdnihocaaP.bitsAt l i then ndF (YtlcdpmjdnihocaaP.dataAt b l i) (k == 1 + l) else if k < YtlcdpmjdnihocaaP.dataAt b l i then btF (min 8192 ((YtlcdpmjdnihocaaP.dataAt b l i).toNat + 1 - 8192 * (k - YtlcdpmjdnihocaaP.bitsAt l i).toNat)) else slF) := hF ▸ rfl
  rw [hF]
  clear hF
  generalize YtlcdpmjdnihocaaP.lay9 b l i 1 (1 + l) (YtlcdpmjdnihocaaP.nodeB i) (YtlcdpmjdnihocaaP.bitsAt l i) (YtlcdpmjdnihocaaP.bitsB b) (YtlcdpmjdnihocaaP.dataAt b l i) = L at *
  generalize ndF (YtlcdpmjdnihocaaP.dataAt b l i) (k == 1 + l) = X1 at *
  generalize btF (min 8192 ((YtlcdpmjdnihocaaP.dataAt b l i).toNat + 1 - 8192 * (k - YtlcdpmjdnihocaaP.bitsAt l i).toNat)) = X2 at *
  generalize slF = X3 at *
  obtain ⟨A, hA⟩ : ∃ A, A = (w.alloc (.cells L 29)).alloc (.cells (blk nought) 46) := ⟨_, rfl⟩
  have HL : Hid (A.heap[w.heap.size]? = some (.cells L 29)) := by rw [hA]; exact heap_kept (heap_alloc_new _ _) (below_new _ _)
  have HR : Hid (A.heap[w.heap.size + 1]? = some (.cells (blk nought) 46)) := by rw [hA]; exact heap_two _ _ _
  have HB : Hid (Below w.heap.size w A) := by rw [hA]; exact below_next (below_new _ _) (below_new _ _)
  have HA : Hid (A = _) := hA
  clear hA
  by_cases h1 : k < YtlcdpmjdnihocaaP.bitsAt l i
  · rw [if_pos h1] at hw
    have HE : Hid (F = X1) := by show _ = _; rw [HF.out, if_pos h1]
    clear HF HBt HSl
    go_enter Try.func41, Try.ntmps41
    go_upto_region 1 with fail
    rw [← HA.out]
    clear HA
    go_wp2_with (first | (with_reducible refine isLoadR 29 ?_; refine wpList_ldR 29 Try.underlying29 rfl rfl _ rfl w.heap.size rfl L 29 (0, 0) HSz.out HL.out ?_) | (go_at_call 51; fail))
    refine (hw _).mono ?_
    rintro e W1 ⟨rfl, hb⟩
    have HL1 : Hid _ := heap_kept HL.out hb
    have HR1 : Hid _ := heap_kept HR.out hb
    have HB1 : Hid _ := below_next HB.out hb
    clear HL HR HB hb hw
    go_wp2_with (first | (with_reducible refine isLoadR 29 ?_; refine wpList_ldR 29 Try.underlying29 rfl rfl _ rfl w.heap.size rfl L 29 (0, 0) HSz.out HL1.out ?_) | (go_at_call 52; fail))
    refine (HNd.out _).mono ?_
    rintro e W2 ⟨rfl, hb⟩
    have hr := heap_kept HR1.out hb
    have HB2 : Hid _ := below_next HB1.out hb
    clear HL1 HR1 HB1 hb HNd
    go_wp2_with (first | (with_reducible refine isStoreR 46 ?_; refine wpList_stB rfl _ _ rfl (w.heap.size + 1) X1 nought 46 rfl rfl hr ?_))
    exact retB rfl (w.heap.size + 1) X1 46 rfl (setRow_heap _ _ _ _ _ _ hr) rfl ⟨by rw [HE.out], below_setRow HB2.out (by omega) _⟩
  · rw [if_neg h1] at hw
    by_cases h2 : k < YtlcdpmjdnihocaaP.dataAt b l i
    · rw [if_pos h2] at hw
      have HE : Hid (F = X2) := by show _ = _; rw [HF.out, if_neg h1, if_pos h2]
      have HB3 : Hid _ := fun u => HBt.out u (by omega) h2
      clear HF HBt HSl HNd
      go_enter Try.func41, Try.ntmps41
      go_upto_region 1 with fail
      rw [← HA.out]
      clear HA
      go_wp2_with (first | (with_reducible refine isLoadR 29 ?_; refine wpList_ldR 29 Try.underlying29 rfl rfl _ rfl w.heap.size rfl L 29 (0, 0) HSz.out HL.out ?_) | (go_at_call 51; fail))
      refine (hw _).mono ?_
      rintro e W1 ⟨rfl, hb⟩
      have HL1 : Hid _ := heap_kept HL.out hb
      have HR1 : Hid _ := heap_kept HR.out hb
      have HB1 : Hid _ := below_next HB.out hb
      clear HL HR HB hb hw
      go_wp2_with (first | (with_reducible refine isLoadR 29 ?_; refine wpList_ldR 29 Try.underlying29 rfl rfl _ rfl w.heap.size rfl L 29 (0, 0) HSz.out HL1.out ?_) | (go_at_call 53; fail))
      refine (HB3.out _).mono ?_
      rintro e W2 ⟨rfl, hb⟩
      have hr := heap_kept HR1.out hb
      have HB2 : Hid _ := below_next HB1.out hb
      clear HL1 HR1 HB1 hb HB3
      go_wp2_with (first | (with_reducible refine isStoreR 46 ?_; refine wpList_stB rfl _ _ rfl (w.heap.size + 1) X2 nought 46 rfl rfl hr ?_))
      exact retB rfl (w.heap.size + 1) X2 46 rfl (setRow_heap _ _ _ _ _ _ hr) rfl ⟨by rw [HE.out], below_setRow HB2.out (by omega) _⟩
    · rw [if_neg h2] at hw
      have HE : Hid (F = X3) := by show _ = _; rw [HF.out, if_neg h1, if_neg h2]
      clear HF HBt HNd
      go_enter Try.func41, Try.ntmps41
      go_upto_region 1 with fail
      rw [← HA.out]
      clear HA
      go_wp2_with (first | (with_reducible refine isLoadR 29 ?_; refine wpList_ldR 29 Try.underlying29 rfl rfl _ rfl w.heap.size rfl L 29 (0, 0) HSz.out HL.out ?_) | (go_at_call 51; fail))
      refine (hw _).mono ?_
      rintro e W1 ⟨rfl, hb⟩
      have HR1 : Hid _ := heap_kept HR.out hb
      have HB1 : Hid _ := below_next HB.out hb
      clear HL HR HB hb hw
      go_wp2_with (go_at_call 54; fail)
      refine (HSl.out _).mono ?_
      rintro e W2 ⟨rfl, hb⟩
      have hr := heap_kept HR1.out hb
      have HB2 : Hid _ := below_next HB1.out hb
      clear HR1 HB1 hb HSl
      go_wp2_with (first | (with_reducible refine isStoreR 46 ?_; refine wpList_stB rfl _ _ rfl (w.heap.size + 1) X3 nought 46 rfl rfl hr ?_))
      exact retB rfl (w.heap.size + 1) X3 46 rfl (setRow_heap _ _ _ _ _ _ hr) rfl ⟨by rw [HE.out], below_setRow HB2.out (by omega) _⟩
end Go.Proofs.Ytlcdpmjdnihocaa

/- What a block of 1024 bytes is as cells: a plain function from places to numbers, laid as cells; no condition. -/
namespace Go.Proofs.YtlcdpmjdnihocaaH
open Go.RowKit

/-- The cells of a block whose byte at place i is f i. -/
def blk (f : Nat → Int) : Array Value := ((List.range 1024).map fun i => Value.int .u8 (f i)).toArray
/-- f, but for x at place i. -/
def upd (f : Nat → Int) (i : Nat) (x : Int) : Nat → Int := fun j => if j = i then x else f j
def nought : Nat → Int := fun _ => 0

theorem blk_size (f : Nat → Int) : (blk f).size = 1024 := by simp [blk]
theorem blk_get (f : Nat → Int) (i : Nat) (h : i < 1024) : (blk f)[i]? = some (.int .u8 (f i)) := by
  simp [blk, h]
theorem blk_set (f : Nat → Int) (i : Nat) (x : Int) : (blk f).setIfInBounds i (.int .u8 x) = blk (upd f i x) := by
  apply Array.ext_getElem?
  intro j
  by_cases hj : j < 1024
  · rw [blk_get _ _ hj, Array.getElem?_setIfInBounds]
    by_cases e : i = j
    · subst e; simp [blk_size, hj, upd]
    · have e' : ¬ j = i := fun q => e q.symm
      simp [e, e', blk_get _ _ hj, upd]
  · rw [Array.getElem?_eq_none (by rw [Array.size_setIfInBounds, blk_size]; omega), Array.getElem?_eq_none (by rw [blk_size]; omega)]
theorem blk_congr {f g : Nat → Int} (h : ∀ i, i < 1024 → f i = g i) : blk f = blk g := by
  apply Array.ext_getElem?
  intro j
  by_cases hj : j < 1024
  · rw [blk_get _ _ hj, blk_get _ _ hj, h j hj]
  · rw [Array.getElem?_eq_none (by rw [blk_size]; omega), Array.getElem?_eq_none (by rw [blk_size]; omega)]
theorem blk_one (f : Nat → Int) : (blk f).all (·.oneCell') = true := by
  rw [Array.all_eq_true_iff_forall_mem]
  intro v hv
  simp [blk] at hv
  obtain ⟨i, _, rfl⟩ := hv
  rfl
end Go.Proofs.YtlcdpmjdnihocaaH
/- The block type of this program over its translation: loads, stores and results of whole blocks; fits; no condition. -/
namespace Go.Proofs.YtlcdpmjdnihocaaH
open Go.RowKit

theorem info25 : (Try.prog.info? 46).map (fun i => (i.zero, i.size)) = some (some (.agg (blk nought)), 1024) := by kernel_rfl
theorem zero25 : ∀ w, (zeroValue 46).run Try.prog w = .ok (.agg (blk nought)) w := (zero_of_info info25).1
theorem size25 : (Try.prog.info? 46).map (·.size) = some 1024 := (zero_of_info info25).2

def firsts (f : Nat → Int) (k : Nat) : Nat → Int := fun i => if i < k then f i else 0
theorem firsts_next (f : Nat → Int) (k : Nat) : upd (firsts f k) k (f k) = firsts f (k + 1) := by
  funext j
  unfold upd firsts
  by_cases h : j = k
  · subst h; simp
  · by_cases h2 : j < k
    · simp [h, h2, show j < k + 1 by omega]
    · simp [h, h2, show ¬ j < k + 1 by omega]

theorem wpList_load25 {ops : Array Oper} {rest : List Oper} {o : Oper} {a : Act} {w : World} {Q : Exit → Act → World → Prop} (hgd : o.guard = none) (x : Operand) (ho : o.op = .load 46 x)
    (g : Nat) (hx : a.eval x = .pointer (some ⟨g, 0, none⟩)) (f : Nat → Int) (hg : w.heap[g]? = some (.cells (blk f) 46))
    (h : wpList Try.prog ops Q rest (a.put o.dst (.agg (blk f))) w) : wpList Try.prog ops Q (o :: rest) a w :=
  wpList_load_row hgd 46 x ho g hx 46 (blk f) (0, 0) _ hg Try.underlying46 rfl (by rw [blk_size]; exact size25) h
theorem wpList_store25 {ops : Array Oper} {rest : List Oper} {o : Oper} {a : Act} {w : World} {Q : Exit → Act → World → Prop} (hgd : o.guard = none) (x y : Operand) (ho : o.op = .store 46 x y)
    (g : Nat) (f : Nat → Int) (hx : a.eval x = .pointer (some ⟨g, 0, none⟩)) (hy : a.eval y = .agg (blk f)) (f0 : Nat → Int) (hg : w.heap[g]? = some (.cells (blk f0) 46))
    (h : wpList Try.prog ops Q rest (a.put o.dst undef) (w.setRow g (blk f))) : wpList Try.prog ops Q (o :: rest) a w :=
  wpList_plain hgd fun _ hK => by
    unfold Oper.wp execOp
    simp only [ho, hx, hy, Instr.storeAt, Instr.sureAddr, Sem.run_bind, Sem.run_pure, Result.andThen_ok, run_storeVar_row w g 46 46 (blk f0) (blk f) hg (by rw [blk_size]; exact size25) (by rw [blk_size, blk_size]) (blk_one f)]
    exact hK _ _ h

/-- A result that is a whole block in a cell. -/
theorem ret25 {fn : Func} {p : Tmp} {R : Ending → World → Prop} {a : Act} {w : World} (h : fn.results = #[.cell p 46]) (g : Nat) (f : Nat → Int)
    (hp : a.tmps.getD p undef = .pointer (some ⟨g, 0, none⟩)) (hg : w.heap[g]? = some (.cells (blk f) 46)) (hd : a.defers = []) (hR : R (.returned (.agg (blk f))) w) : bodyPost Try.prog fn R .ret a w :=
  bodyPost_ret (results_cell_row h a.tmps w g 46 (blk f) (0, 0) _ hp hg Try.underlying46 rfl (by rw [blk_size]; exact size25)) hd hR
theorem below_setRow {B : Nat} {a w : World} (h : Below B a w) {g : Nat} (hg : B ≤ g) (cs : Array Value) : Below B a (w.setRow g cs) :=
  h.trans ⟨rfl, rfl, rfl, by simp, fun k hk => setRow_other w g k cs (by omega)⟩
theorem below2 (w : World) (a b : Obj) (g : Nat) (hg : w.heap.size ≤ g) (cs : Array Value) : Below w.heap.size w (((w.alloc a).alloc b).setRow g cs) :=
  below_setRow (((Below.refl _ _).alloc (Nat.le_refl _) _).alloc (by simp) _) hg _
end Go.Proofs.YtlcdpmjdnihocaaH
/- Two blocks held against each other: equal just where every byte is; for every two blocks. -/
namespace Go.Proofs.YtlcdpmjdnihocaaH
open Go.RowKit

def sameB (f g : Nat → Int) : Bool := (List.range 1024).all fun i => f i == g i
theorem sameB_iff (f g : Nat → Int) : sameB f g = true ↔ ∀ i, i < 1024 → f i = g i := by
  simp [sameB, List.all_eq_true, List.mem_range]
theorem sameB_self (f : Nat → Int) : sameB f f = true := (sameB_iff f f).2 fun _ _ => rfl

theorem part5 (f : Nat → Int) (i : Nat) (hi : i < 1024) (w : World) : (part 5 (blk f) (i * 1)).run Try.prog w = .ok (.int .u8 (f i)) w := by
  have hb := blk_get f i hi
  simp [part, Try.isAgg5, hb]
theorem each25 (d : Nat) (f g : Nat → Int) (w : World) : ∀ l : List Nat, (∀ i, i ∈ l → i < 1024) →
    (forIn (m := Sem) l ((none : Option Bool), ()) fun i _ => do
            let x ← part 5 (blk f) (i * 1)
            let y ← part 5 (blk g) (i * 1)
            let b ← Op.equalIn (d + 1) 5 x y
            if (!b) = true then pure (ForInStep.done (some false, ())) else pure (ForInStep.yield (none, ()))).run Try.prog w
      = .ok ((if l.all (fun i => f i == g i) then none else some false), ()) w
  | [], _ => by simp
  | i :: l, h => by
    have h1 := part5 f i (h i (by simp)) w
    have h2 := part5 g i (h i (by simp)) w
    have ih := each25 d f g w l fun j hj => h j (by simp [hj])
    have he := run_equalIn_int (P := Try.prog) w d 5 .u8 .u8 (f i) (g i) Try.underlying5
    simp only [List.forIn_cons, Sem.run_bind, h1, h2, he, Result.andThen_ok, List.all_cons]
    by_cases e : f i = g i
    · simp only [e, beq_self_eq_true, Bool.not_true, Bool.false_eq_true, if_false, Sem.run_pure, Result.andThen_ok, Bool.true_and]
      exact ih
    · have e' : (f i == g i) = false := by simp [e]
      simp [e']
theorem eq25 (f g : Nat → Int) (w : World) : (Op.equalIn 10000 46 (.agg (blk f)) (.agg (blk g))).run Try.prog w = .ok (sameB f g) w := by
  have key := each25 9998 f g w (List.range' 0 [:1024].size) (fun i hi => by simpa [Std.Legacy.Range.size] using hi)
  show (Op.equalIn (9998 + 1 + 1) 46 (.agg (blk f)) (.agg (blk g))).run Try.prog w = _
  rw [Op.equalIn]
  simp only [Sem.run_bind, run_underlying Try.underlying46, Result.andThen_ok]
  rw [show (sizeOf 5).run Try.prog w = .ok 1 w by simp [go_sem]]
  simp only [Result.andThen_ok, Std.Legacy.Range.forIn_eq_forIn_range']
  refine (congrArg (fun r => Result.andThen r _) key).trans ?_
  have hr : List.range' 0 [:1024].size = List.range 1024 := by simp [Std.Legacy.Range.size, List.range_eq_range']
  rw [hr]
  show Result.andThen (Result.ok ((if sameB f g = true then none else some false), ()) w) _ = _
  cases sameB f g <;> simp
end Go.Proofs.YtlcdpmjdnihocaaH
/- Regions whose order is drawn and whose calls make memory but turn none that was there: one walk in the text's order serves every order. -/
namespace Go.Proofs.YtlcdpmjdnihocaaH
open Go.RowKit

/-- A world that has all that W has, and perhaps more behind it. -/
structure Later (W : World) where
  val : World
  below : Below W.heap.size W val

theorem later_some (W : World) : Nonempty (Later W) := ⟨⟨W, Below.refl _ _⟩⟩
theorem Later.cell {W : World} (x : Later W) (p : Addr) (h : p.block < W.heap.size) : x.val.cell? p = W.cell? p := x.below.cell h
theorem Later.heap {W : World} (x : Later W) (g : Nat) (h : g < W.heap.size) : x.val.heap[g]? = W.heap[g]? := x.below.block g h

theorem wp_region_later {id : Nat} {Q : Exit → Act → World → Prop} {a : Act} {w : World} {l : List Oper} (hm : Try.prog.follows .mixedOrders = true) (hB : Region.lexB .any l.toArray = true)
    (W : World) (hW : Below W.heap.size W w)
    (h : wpQuiet Try.prog l.toArray (fun w' => ∃ x : Later W, w' = x.val) (fun a' => ∀ w', (∃ x : Later W, w' = x.val) → Q .normal a' w') l a) : (Code.region id l.toArray true).wp Try.prog Q a w :=
  wp_region_quiet (C := fun w' => ∃ x : Later W, w' = x.val) hm hB ⟨⟨_, hW.drew⟩, rfl⟩ (by simpa using h)

theorem Later.call {W : World} (x : Later W) {f : FuncId} {args : Array Value} {v : Value}
    (h : Calls Try.prog f args x.val fun e w' => e = .returned v ∧ Below x.val.heap.size x.val w') : Calls Try.prog f args x.val fun e w'' => e = .returned v ∧ ∃ y : Later W, w'' = y.val :=
  h.mono fun _ w' ⟨he, hb⟩ => ⟨he, ⟨w', x.below.trans (hb.mono x.below.size)⟩, rfl⟩

theorem quiet_load25 {W : World} {o : Oper} {a : Act} {K : Act → Prop} (x : Operand) (ho : o.op = .load 46 x) (g : Nat) (hx : a.eval x = .pointer (some ⟨g, 0, none⟩)) (f : Nat → Int)
    (hg : W.heap[g]? = some (.cells (blk f) 46)) (hk : K (a.put o.dst (.agg (blk f)))) : o.quiet Try.prog a (fun w' => ∃ x : Later W, w' = x.val) K := by
  refine ⟨.agg (blk f), ?_, hk⟩
  rintro _ ⟨y, rfl⟩
  have hlt : g < W.heap.size := (Array.getElem?_eq_some_iff.1 hg).1
  have hh := (y.heap g hlt).trans hg
  unfold Oper.quietAt execOp
  simp only [ho, hx, Instr.loadAt, Instr.sureAddr, Sem.run_bind, Sem.run_pure, Result.andThen_ok, run_loadVar_row y.val g 46 46 (blk f) (0, 0) _ hh Try.underlying46 rfl (by rw [blk_size]; exact size25)]
  exact ⟨rfl, rfl⟩

theorem wpList_store25_new {ops : Array Oper} {rest : List Oper} {o : Oper} {a : Act} {w : World} {Q : Exit → Act → World → Prop} (hgd : o.guard = none) (x y : Operand) (ho : o.op = .store 46 x y)
    (f f0 : Nat → Int) (hx : a.eval x = .pointer (some ⟨w.heap.size, 0, none⟩)) (hy : a.eval y = .agg (blk f))
    (h : wpList Try.prog ops Q rest (a.put o.dst undef) (w.alloc (.cells (blk f) 46))) : wpList Try.prog ops Q (o :: rest) a (w.alloc (.cells (blk f0) 46)) :=
  wpList_store25 hgd x y ho w.heap.size f hx hy f0 (heap_alloc_new _ _) (by rw [World.setRow_alloc_new]; exact h)
end Go.Proofs.YtlcdpmjdnihocaaH
/- Regions whose order is drawn, walked in one order that is told: what only reads may come at any time, what acts comes where nothing else may; S holds all along. -/
namespace Go.Proofs.YtlcdpmjdnihocaaH
open Go.RowKit

section
variable {P : Program} {ops : Array Oper} {Q : Exit → Act → World → Prop} {S : World → Prop}

/-- May the operations be taken in this order? true: it is taken first; false: nothing else may come up. -/
def ordB (ops : Array Oper) : List (Nat × Bool) → Array Bool → Bool
  | [], listed => (Region.ready .any ops listed).isEmpty
  | (i, true) :: r, listed => (Region.ready .any ops listed).contains i && Region.free .any ops listed i && (ops[i]?).isSome && ordB ops r (listed.setIfInBounds i true)
  | (i, false) :: r, listed => (Region.ready .any ops listed == [i]) && (ops[i]?).isSome && ordB ops r (listed.setIfInBounds i true)

/-- The operations themselves, in that order. -/
def inOrd (ol : List Oper) : List (Nat × Bool) → List (Bool × Oper)
  | [] => []
  | (i, b) :: r => match ol[i]? with
    | some o => (b, o) :: inOrd ol r
    | none => inOrd ol r

def wpOrd (P : Program) (ops : Array Oper) (Q : Exit → Act → World → Prop) (S : World → Prop) : List (Bool × Oper) → Act → World → Prop
  | [], a, w => Q .normal a w
  | (true, o) :: r, a, w => ∃ v, YieldsIf P ops S o v a ∧ wpOrd P ops Q S r (a.put o.dst v) w
  | (false, o) :: r, a, w => if Region.wanted o (yielded ops a.tmps) then o.wp P a w (fun a' w' => S w' ∧ wpOrd P ops Q S r a' w') Q else S w ∧ wpOrd P ops Q S r (a.put o.dst undef) w

theorem wpOrd_any {ol : List Oper} (hs : Region.noSelect ol.toArray = true) (hQ : ∀ d v c a w, Q (.panic c) (a.put d v) w → Q (.panic c) a w) : ∀ (l : List (Nat × Bool)) (listed : Array Bool) (a : Act) (w : World), S w →
    ordB ol.toArray l listed = true → wpOrd P ol.toArray Q S (inOrd ol l) a w → wpAnyH P .any ol.toArray Q S l.length listed a w
  | [], listed, a, w, _, hB, h => wpAnyH_done (by simpa [ordB] using hB) h _
  | (i, true) :: r, listed, a, w, hS, hB, h => by
    simp only [ordB, Bool.and_eq_true] at hB
    obtain ⟨⟨⟨h1, h2⟩, h3⟩, h4⟩ := hB
    obtain ⟨o, hi⟩ := Option.isSome_iff_exists.1 h3
    have hi' : ol[i]? = some o := by simpa using hi
    simp only [inOrd, hi', wpOrd] at h
    obtain ⟨v, hy, hr⟩ := h
    exact wpAnyH_take hi hs h2 h1 (fun c a w => hQ _ _ c a w) hy hS (wpOrd_any hs hQ r _ _ w hS h4 hr)
  | (i, false) :: r, listed, a, w, hS, hB, h => by
    simp only [ordB, Bool.and_eq_true, beq_iff_eq] at hB
    obtain ⟨⟨h1, h3⟩, h2⟩ := hB
    obtain ⟨o, hi⟩ := Option.isSome_iff_exists.1 h3
    have hi' : ol[i]? = some o := by simpa using hi
    simp only [inOrd, hi', wpOrd] at h
    refine wpAnyH_all h1 (by simp) fun j hj => ?_
    obtain rfl : j = i := by simpa using hj
    unfold wpOp
    rw [hi]
    simp only
    split
    · rename_i hw
      rw [if_pos hw] at h
      exact .inl (Oper.wp_mono (fun a' w' h' => ⟨h'.1, wpOrd_any hs hQ r _ a' w' h'.1 h2 h'.2⟩) h)
    · rename_i hw
      rw [if_neg hw] at h
      exact ⟨h.1, wpOrd_any hs hQ r _ _ w h.1 h2 h.2⟩

/-- A region that draws its order, walked in the order l. -/
theorem wp_region_ord {id : Nat} {a : Act} {w : World} {ol : List Oper} (l : List (Nat × Bool)) (hm : P.follows .mixedOrders = true) (hl : l.length = ol.length)
    (hB : (Region.noSelect ol.toArray && ordB ol.toArray l (Array.replicate ol.toArray.size false)) = true) (hQ : ∀ d v c a w, Q (.panic c) (a.put d v) w → Q (.panic c) a w)
    (hS : S w.drew) (h : wpOrd P ol.toArray Q S (inOrd ol l) a w.drew) : (Code.region id ol.toArray true).wp P Q a w := by
  simp only [Bool.and_eq_true] at hB
  have h1 := wpOrd_any hB.1 hQ l _ a w.drew hS hB.2 h
  rw [hl] at h1
  exact wp_region_held hm (by simpa using h1)

theorem wpOrd_nil {a : Act} {w : World} (h : Q .normal a w) : wpOrd P ops Q S [] a w := h
theorem wpOrd_skip {r : List (Bool × Oper)} {b : Bool} {a : Act} {w : World} {o : Oper} (hS : S w) (hw : Region.wanted o (yielded ops a.tmps) = false) (h : wpOrd P ops Q S r (a.put o.dst undef) w) :
    wpOrd P ops Q S ((b, o) :: r) a w := by
  cases b
  · simp only [wpOrd, hw, Bool.false_eq_true, if_false]
    exact ⟨hS, h⟩
  · exact ⟨undef, .inr ⟨hw, rfl⟩, h⟩
theorem wpOrd_yield {r : List (Bool × Oper)} {a : Act} {w : World} {o : Oper} {v : Value} (hw : Region.wanted o (yielded ops a.tmps) = true)
    (hr : ∀ u, S u → (execOp a.eval o).run P u = .ok (.value v) u) (h : wpOrd P ops Q S r (a.put o.dst v) w) : wpOrd P ops Q S ((true, o) :: r) a w :=
  ⟨v, .inl ⟨hw, hr⟩, h⟩
theorem wpOrd_move {r : List (Bool × Oper)} {a : Act} {w : World} {o : Oper} (hw : Region.wanted o (yielded ops a.tmps) = true) (x : Operand) (ho : o.op = .move x)
    (h : wpOrd P ops Q S r (a.put o.dst (a.eval x)) w) : wpOrd P ops Q S ((true, o) :: r) a w :=
  wpOrd_yield hw (fun u _ => by simp [execOp, ho]) h
theorem wpOrd_call {r : List (Bool × Oper)} {a : Act} {w : World} {o : Oper} (hw : Region.wanted o (yielded ops a.tmps) = true) (f : FuncId) (xs : List Operand) (ts : Array TypeId)
    (ho : o.op = .call { callee := .value (.func f), args := xs.toArray, argTypes := ts }) (hc : ∀ args u, (callFunc f args).run P u = .ok (.enter f args) u) (args : List Value) (hx : xs.map a.eval = args)
    (h : Calls P f args.toArray w fun e w' => ∃ v, e = .returned v ∧ S w' ∧ wpOrd P ops Q S r (a.put o.dst v) w') : wpOrd P ops Q S ((false, o) :: r) a w := by
  simp only [wpOrd, hw, if_true]
  unfold Oper.wp execOp
  have e : (do let d ← resolve a.eval { callee := .value (.func f), args := xs.toArray, argTypes := ts } o.type; invoke d.target d.args : Sem Next).run P w = .ok (.enter f args.toArray) w := by
    have hx' : xs.toArray.map a.eval = args.toArray := by rw [← hx]; simp
    simp only [resolve, hx']
    simp [Act.eval, Deferred.ofValue, invoke, hc]
  simp only [ho]
  rw [e]
  unfold Oper.upon
  exact h.mono fun e w' ⟨v, he, h1, h2⟩ => by subst he; exact ⟨h1, h2⟩
end
end Go.Proofs.YtlcdpmjdnihocaaH
/- Regions whose order is drawn, where two operations may come up in either order: both orders are walked. -/
namespace Go.Proofs.YtlcdpmjdnihocaaH
open Go.RowKit

section
variable {P : Program} {ops : Array Oper} {Q : Exit → Act → World → Prop} {S : World → Prop}

/-- First the operations of a list that only read, then i and j in either order, then l. -/
def forkB (ops : Array Oper) (i j : Nat) (l : List (Nat × Bool)) : List Nat → Array Bool → Bool
  | [], listed => (Region.ready .any ops listed == [i, j]) && (ops[i]?).isSome && (ops[j]?).isSome && ordB ops ((j, false) :: l) (listed.setIfInBounds i true) && ordB ops ((i, false) :: l) (listed.setIfInBounds j true)
  | k :: r, listed => (Region.ready .any ops listed).contains k && Region.free .any ops listed k && (ops[k]?).isSome && forkB ops i j l r (listed.setIfInBounds k true)

/-- One operation that acts, and what follows. -/
def wpAct (P : Program) (ops : Array Oper) (Q : Exit → Act → World → Prop) (S : World → Prop) (o : Oper) (K : Act → World → Prop) (a : Act) (w : World) : Prop :=
  if Region.wanted o (yielded ops a.tmps) then o.wp P a w (fun a' w' => S w' ∧ K a' w') Q else S w ∧ K (a.put o.dst undef) w

theorem wpOp_act {i : Nat} {o : Oper} (hi : ops[i]? = some o) {K K' : Act → World → Prop} (hK : ∀ a w, S w → K a w → K' a w) {a : Act} {w : World} (h : wpAct P ops Q S o K a w) : wpOp P ops Q i (fun a' w' => S w' ∧ K' a' w') a w := by
  unfold wpOp
  rw [hi]
  simp only
  unfold wpAct at h
  split
  · rename_i hw
    rw [if_pos hw] at h
    exact .inl (Oper.wp_mono (fun a' w' h' => ⟨h'.1, hK a' w' h'.1 h'.2⟩) h)
  · rename_i hw
    rw [if_neg hw] at h
    exact ⟨h.1, hK _ w h.1 h.2⟩

def wpFork (P : Program) (ops : Array Oper) (Q : Exit → Act → World → Prop) (S : World → Prop) (ol : List Oper) (i j : Nat) (l : List (Nat × Bool)) : List Nat → Act → World → Prop
  | [], a, w => (∀ o, ol[i]? = some o → wpAct P ops Q S o (wpOrd P ops Q S (inOrd ol ((j, false) :: l))) a w) ∧ (∀ o, ol[j]? = some o → wpAct P ops Q S o (wpOrd P ops Q S (inOrd ol ((i, false) :: l))) a w)
  | k :: r, a, w => ∀ o, ol[k]? = some o → ∃ v, YieldsIf P ops S o v a ∧ wpFork P ops Q S ol i j l r (a.put o.dst v) w

theorem wpFork_any {ol : List Oper} (hs : Region.noSelect ol.toArray = true) (hQ : ∀ d v c a w, Q (.panic c) (a.put d v) w → Q (.panic c) a w) (i j : Nat) (l : List (Nat × Bool)) : ∀ (r : List Nat) (listed : Array Bool) (a : Act) (w : World), S w →
    forkB ol.toArray i j l r listed = true → wpFork P ol.toArray Q S ol i j l r a w → wpAnyH P .any ol.toArray Q S (r.length + (l.length + 2)) listed a w
  | [], listed, a, w, hS, hB, h => by
    simp only [forkB, Bool.and_eq_true, beq_iff_eq] at hB
    obtain ⟨⟨⟨⟨h1, h2⟩, h3⟩, h4⟩, h5⟩ := hB
    obtain ⟨oi, hoi⟩ := Option.isSome_iff_exists.1 h2
    obtain ⟨oj, hoj⟩ := Option.isSome_iff_exists.1 h3
    have hoi' : ol[i]? = some oi := by simpa using hoi
    have hoj' : ol[j]? = some oj := by simpa using hoj
    rw [show ([] : List Nat).length + (l.length + 2) = (l.length + 1) + 1 by simp]
    refine wpAnyH_all h1 (by simp) fun k hk => ?_
    simp only [List.mem_cons, List.not_mem_nil, or_false] at hk
    rcases hk with rfl | rfl
    · exact wpOp_act hoi (fun a' w' hS' hK => wpOrd_any hs hQ ((j, false) :: l) _ a' w' hS' h4 hK) (h.1 oi hoi')
    · exact wpOp_act hoj (fun a' w' hS' hK => wpOrd_any hs hQ ((i, false) :: l) _ a' w' hS' h5 hK) (h.2 oj hoj')
  | k :: r, listed, a, w, hS, hB, h => by
    simp only [forkB, Bool.and_eq_true] at hB
    obtain ⟨⟨⟨h1, h2⟩, h3⟩, h4⟩ := hB
    obtain ⟨o, hi⟩ := Option.isSome_iff_exists.1 h3
    have hi' : ol[k]? = some o := by simpa using hi
    obtain ⟨v, hy, hr⟩ := h o hi'
    rw [show (k :: r).length + (l.length + 2) = r.length + (l.length + 2) + 1 by simp; omega]
    exact wpAnyH_take hi hs h2 h1 (fun c a w => hQ _ _ c a w) hy hS (wpFork_any hs hQ i j l r _ _ w hS h4 hr)

/-- A region that draws its order, walked so. -/
theorem wp_region_fork {id : Nat} {a : Act} {w : World} {ol : List Oper} (r : List Nat) (i j : Nat) (l : List (Nat × Bool)) (hm : P.follows .mixedOrders = true) (hl : r.length + (l.length + 2) = ol.length)
    (hB : (Region.noSelect ol.toArray && forkB ol.toArray i j l r (Array.replicate ol.toArray.size false)) = true) (hQ : ∀ d v c a w, Q (.panic c) (a.put d v) w → Q (.panic c) a w)
    (hS : S w.drew) (h : wpFork P ol.toArray Q S ol i j l r a w.drew) : (Code.region id ol.toArray true).wp P Q a w := by
  simp only [Bool.and_eq_true] at hB
  have h1 := wpFork_any hB.1 hQ i j l r _ a w.drew hS hB.2 h
  rw [hl] at h1
  exact wp_region_held hm (by simpa using h1)

theorem wpFork_yield {ol : List Oper} {i j : Nat} {l : List (Nat × Bool)} {k : Nat} {r : List Nat} {a : Act} {w : World} {o : Oper} {v : Value} (ho : ol[k]? = some o) (hw : Region.wanted o (yielded ops a.tmps) = true)
    (hr : ∀ u, S u → (execOp a.eval o).run P u = .ok (.value v) u) (h : wpFork P ops Q S ol i j l r (a.put o.dst v) w) : wpFork P ops Q S ol i j l (k :: r) a w := by
  intro o' ho'
  obtain rfl : o = o' := by rw [ho] at ho'; exact Option.some.inj ho'
  exact ⟨v, .inl ⟨hw, hr⟩, h⟩
theorem wpFork_nil {ol : List Oper} {i j : Nat} {l : List (Nat × Bool)} {a : Act} {w : World} {oi oj : Oper} (hi : ol[i]? = some oi) (hj : ol[j]? = some oj)
    (h1 : wpOrd P ops Q S (inOrd ol ((i, false) :: (j, false) :: l)) a w) (h2 : wpOrd P ops Q S (inOrd ol ((j, false) :: (i, false) :: l)) a w) : wpFork P ops Q S ol i j l [] a w := by
  refine ⟨fun o ho => ?_, fun o ho => ?_⟩
  · obtain rfl : oi = o := by rw [hi] at ho; exact Option.some.inj ho
    simp only [inOrd, hi, hj, wpOrd] at h1 ⊢
    exact h1
  · obtain rfl : oj = o := by rw [hj] at ho; exact Option.some.inj ho
    simp only [inOrd, hi, hj, wpOrd] at h2 ⊢
    exact h2
end
end Go.Proofs.YtlcdpmjdnihocaaH
/- Regions whose order is drawn, walked step by step: what only reads may come at any time, what acts comes where nothing else may, two that act come in either order; S holds all along. -/
namespace Go.Proofs.YtlcdpmjdnihocaaH
open Go.RowKit

/-- A step: what only reads (.inl i), what acts alone (.inr (.inl i)), two that act in either order (.inr (.inr (i, j))). -/
abbrev Stp : Type := Nat ⊕ (Nat ⊕ (Nat × Nat))
abbrev StO : Type := Oper ⊕ (Oper ⊕ (Oper × Oper))
def Stp.many : Stp → Nat
  | .inl _ => 1
  | .inr (.inl _) => 1
  | .inr (.inr _) => 2
def manyOf : List Stp → Nat
  | [] => 0
  | s :: r => Stp.many s + manyOf r
section
variable {P : Program} {ops : Array Oper} {Q : Exit → Act → World → Prop} {S : World → Prop}
def stB (ops : Array Oper) : List Stp → Array Bool → Bool
  | [], listed => (Region.ready .any ops listed).isEmpty
  | .inl i :: r, listed => (Region.ready .any ops listed).contains i && Region.free .any ops listed i && (ops[i]?).isSome && stB ops r (listed.setIfInBounds i true)
  | .inr (.inl i) :: r, listed => (Region.ready .any ops listed == [i]) && (ops[i]?).isSome && stB ops r (listed.setIfInBounds i true)
  | .inr (.inr (i, j)) :: r, listed => (Region.ready .any ops listed == [i, j]) && (ops[i]?).isSome && (ops[j]?).isSome && (Region.ready .any ops (listed.setIfInBounds i true) == [j]) && (Region.ready .any ops (listed.setIfInBounds j true) == [i]) &&
      stB ops r ((listed.setIfInBounds i true).setIfInBounds j true) && stB ops r ((listed.setIfInBounds j true).setIfInBounds i true)
def inSt (ol : List Oper) : List Stp → List StO
  | [] => []
  | .inl i :: r => match ol[i]? with
    | some o => .inl o :: inSt ol r
    | none => inSt ol r
  | .inr (.inl i) :: r => match ol[i]? with
    | some o => .inr (.inl o) :: inSt ol r
    | none => inSt ol r
  | .inr (.inr (i, j)) :: r => match ol[i]?, ol[j]? with
    | some x, some y => .inr (.inr (x, y)) :: inSt ol r
    | _, _ => inSt ol r
def wpSt (P : Program) (ops : Array Oper) (Q : Exit → Act → World → Prop) (S : World → Prop) : List StO → Act → World → Prop
  | [], a, w => Q .normal a w
  | .inl o :: r, a, w => ∃ v, YieldsIf P ops S o v a ∧ wpSt P ops Q S r (a.put o.dst v) w
  | .inr (.inl o) :: r, a, w => wpAct P ops Q S o (wpSt P ops Q S r) a w
  | .inr (.inr (x, y)) :: r, a, w => wpAct P ops Q S x (wpAct P ops Q S y (wpSt P ops Q S r)) a w ∧ wpAct P ops Q S y (wpAct P ops Q S x (wpSt P ops Q S r)) a w
theorem wpSt_any {ol : List Oper} (hs : Region.noSelect ol.toArray = true) (hQ : ∀ d v c a w, Q (.panic c) (a.put d v) w → Q (.panic c) a w) : ∀ (l : List Stp) (listed : Array Bool) (a : Act) (w : World), S w →
    stB ol.toArray l listed = true → wpSt P ol.toArray Q S (inSt ol l) a w → wpAnyH P .any ol.toArray Q S (manyOf l) listed a w
  | [], listed, a, w, _, hB, h => wpAnyH_done (by simpa [stB] using hB) h _
  | .inl i :: r, listed, a, w, hS, hB, h => by
    simp only [stB, Bool.and_eq_true] at hB
    obtain ⟨⟨⟨h1, h2⟩, h3⟩, h4⟩ := hB
    obtain ⟨o, hi⟩ := Option.isSome_iff_exists.1 h3
    have hi' : ol[i]? = some o := by simpa using hi
    simp only [inSt, hi', wpSt] at h
    obtain ⟨v, hy, hr⟩ := h
    rw [show manyOf (.inl i :: r) = manyOf r + 1 by simp [manyOf, Stp.many]; omega]
    exact wpAnyH_take hi hs h2 h1 (fun c a w => hQ _ _ c a w) hy hS (wpSt_any hs hQ r _ _ w hS h4 hr)
  | .inr (.inl i) :: r, listed, a, w, hS, hB, h => by
    simp only [stB, Bool.and_eq_true, beq_iff_eq] at hB
    obtain ⟨⟨h1, h3⟩, h2⟩ := hB
    obtain ⟨o, hi⟩ := Option.isSome_iff_exists.1 h3
    have hi' : ol[i]? = some o := by simpa using hi
    simp only [inSt, hi', wpSt] at h
    rw [show manyOf (.inr (.inl i) :: r) = manyOf r + 1 by simp [manyOf, Stp.many]; omega]
    refine wpAnyH_all h1 (by simp) fun j hj => ?_
    obtain rfl : j = i := by simpa using hj
    exact wpOp_act hi (fun a' w' hS' hK => wpSt_any hs hQ r _ a' w' hS' h2 hK) h
  | .inr (.inr (i, j)) :: r, listed, a, w, hS, hB, h => by
    simp only [stB, Bool.and_eq_true, beq_iff_eq] at hB
    obtain ⟨⟨⟨⟨⟨⟨h1, h2⟩, h3⟩, h4⟩, h5⟩, h6⟩, h7⟩ := hB
    obtain ⟨x, hx⟩ := Option.isSome_iff_exists.1 h2
    obtain ⟨y, hy⟩ := Option.isSome_iff_exists.1 h3
    have hx' : ol[i]? = some x := by simpa using hx
    have hy' : ol[j]? = some y := by simpa using hy
    simp only [inSt, hx', hy', wpSt] at h
    rw [show manyOf (.inr (.inr (i, j)) :: r) = (manyOf r + 1) + 1 by simp [manyOf, Stp.many]; omega]
    refine wpAnyH_all h1 (by simp) fun k hk => ?_
    simp only [List.mem_cons, List.not_mem_nil, or_false] at hk
    rcases hk with rfl | rfl
    · refine wpOp_act hx (fun a' w' hS' hK => ?_) h.1
      refine wpAnyH_all h4 (by simp) fun k hk => ?_
      obtain rfl : k = j := by simpa using hk
      exact wpOp_act hy (fun a' w' hS' hK => wpSt_any hs hQ r _ a' w' hS' h6 hK) hK
    · refine wpOp_act hy (fun a' w' hS' hK => ?_) h.2
      refine wpAnyH_all h5 (by simp) fun k hk => ?_
      obtain rfl : k = i := by simpa using hk
      exact wpOp_act hx (fun a' w' hS' hK => wpSt_any hs hQ r _ a' w' hS' h7 hK) hK
/-- A region that draws its order, walked by these steps. -/
theorem wp_region_steps {id : Nat} {a : Act} {w : World} {ol : List Oper} (l : List Stp) (hm : P.follows .mixedOrders = true) (hl : manyOf l = ol.length)
    (hB : (Region.noSelect ol.toArray && stB ol.toArray l (Array.replicate ol.toArray.size false)) = true) (hQ : ∀ d v c a w, Q (.panic c) (a.put d v) w → Q (.panic c) a w)
    (hS : S w.drew) (h : wpSt P ol.toArray Q S (inSt ol l) a w.drew) : (Code.region id ol.toArray true).wp P Q a w := by
  simp only [Bool.and_eq_true] at hB
  have h1 := wpSt_any hB.1 hQ l _ a w.drew hS hB.2 h
  rw [hl] at h1
  exact wp_region_held hm (by simpa using h1)
variable {r : List StO} {a : Act} {w : World} {o x y : Oper} {K : Act → World → Prop}
theorem wpSt_nil (h : Q .normal a w) : wpSt P ops Q S [] a w := h
theorem wpSt_yield {v : Value} (hw : Region.wanted o (yielded ops a.tmps) = true) (hr : ∀ u, S u → (execOp a.eval o).run P u = .ok (.value v) u) (h : wpSt P ops Q S r (a.put o.dst v) w) : wpSt P ops Q S (.inl o :: r) a w :=
  ⟨v, .inl ⟨hw, hr⟩, h⟩
theorem wpSt_move (hw : Region.wanted o (yielded ops a.tmps) = true) (x : Operand) (ho : o.op = .move x) (h : wpSt P ops Q S r (a.put o.dst (a.eval x)) w) : wpSt P ops Q S (.inl o :: r) a w :=
  wpSt_yield hw (fun u _ => by simp [execOp, ho]) h
theorem wpSt_skip (hw : Region.wanted o (yielded ops a.tmps) = false) (h : wpSt P ops Q S r (a.put o.dst undef) w) : wpSt P ops Q S (.inl o :: r) a w := ⟨undef, .inr ⟨hw, rfl⟩, h⟩
theorem wpSt_act (h : wpAct P ops Q S o (wpSt P ops Q S r) a w) : wpSt P ops Q S (.inr (.inl o) :: r) a w := h
theorem wpSt_fork (h1 : wpAct P ops Q S x (wpAct P ops Q S y (wpSt P ops Q S r)) a w) (h2 : wpAct P ops Q S y (wpAct P ops Q S x (wpSt P ops Q S r)) a w) : wpSt P ops Q S (.inr (.inr (x, y)) :: r) a w := ⟨h1, h2⟩
theorem act_skip (hS : S w) (hw : Region.wanted o (yielded ops a.tmps) = false) (h : K (a.put o.dst undef) w) : wpAct P ops Q S o K a w := by
  unfold wpAct
  rw [hw]
  exact ⟨hS, h⟩
theorem act_makes {w' : World} {v : Value} (hw : Region.wanted o (yielded ops a.tmps) = true) (hr : (execOp a.eval o).run P w = .ok (.value v) w') (hS : S w') (h : K (a.put o.dst v) w') : wpAct P ops Q S o K a w := by
  unfold wpAct
  rw [if_pos hw]
  unfold Oper.wp
  rw [hr]
  exact ⟨hS, h⟩
theorem act_call (hw : Region.wanted o (yielded ops a.tmps) = true) (f : FuncId) (xs : List Operand) (ts : Array TypeId)
    (ho : o.op = .call { callee := .value (.func f), args := xs.toArray, argTypes := ts }) (hc : ∀ args u, (callFunc f args).run P u = .ok (.enter f args) u) (args : List Value) (hx : xs.map a.eval = args)
    (h : Calls P f args.toArray w fun e w' => ∃ v, e = .returned v ∧ S w' ∧ K (a.put o.dst v) w') : wpAct P ops Q S o K a w := by
  unfold wpAct
  rw [if_pos hw]
  unfold Oper.wp execOp
  have e : (do let d ← resolve a.eval { callee := .value (.func f), args := xs.toArray, argTypes := ts } o.type; invoke d.target d.args : Sem Next).run P w = .ok (.enter f args.toArray) w := by
    have hx' : xs.toArray.map a.eval = args.toArray := by rw [← hx]; simp
    simp only [resolve, hx']
    simp [Act.eval, Deferred.ofValue, invoke, hc]
  simp only [ho]
  rw [e]
  unfold Oper.upon
  exact h.mono fun e w' ⟨v, he, h1, h2⟩ => by subst he; exact ⟨h1, h2⟩
/-- Reads, then one of two that act, each with its own steps behind it. -/
def twoB (ops : Array Oper) (i j : Nat) (l1 l2 : List Stp) : List Nat → Array Bool → Bool
  | [], listed => (Region.ready .any ops listed == [i, j]) && (ops[i]?).isSome && (ops[j]?).isSome && stB ops l1 (listed.setIfInBounds i true) && stB ops l2 (listed.setIfInBounds j true)
  | k :: r, listed => (Region.ready .any ops listed).contains k && Region.free .any ops listed k && (ops[k]?).isSome && twoB ops i j l1 l2 r (listed.setIfInBounds k true)
def wpTwo (P : Program) (ops : Array Oper) (Q : Exit → Act → World → Prop) (S : World → Prop) (ol : List Oper) (i j : Nat) (l1 l2 : List Stp) : List Nat → Act → World → Prop
  | [], a, w => ∀ x y, ol[i]? = some x → ol[j]? = some y → wpAct P ops Q S x (wpSt P ops Q S (inSt ol l1)) a w ∧ wpAct P ops Q S y (wpSt P ops Q S (inSt ol l2)) a w
  | k :: r, a, w => ∀ o, ol[k]? = some o → ∃ v, YieldsIf P ops S o v a ∧ wpTwo P ops Q S ol i j l1 l2 r (a.put o.dst v) w
theorem wpTwo_any {ol : List Oper} (hs : Region.noSelect ol.toArray = true) (hQ : ∀ d v c a w, Q (.panic c) (a.put d v) w → Q (.panic c) a w) (i j : Nat) (l1 l2 : List Stp) (hl : manyOf l1 = manyOf l2) : ∀ (r : List Nat) (listed : Array Bool) (a : Act) (w : World), S w →
    twoB ol.toArray i j l1 l2 r listed = true → wpTwo P ol.toArray Q S ol i j l1 l2 r a w → wpAnyH P .any ol.toArray Q S (r.length + (manyOf l1 + 1)) listed a w
  | [], listed, a, w, hS, hB, h => by
    simp only [twoB, Bool.and_eq_true, beq_iff_eq] at hB
    obtain ⟨⟨⟨⟨h1, h2⟩, h3⟩, h4⟩, h5⟩ := hB
    obtain ⟨x, hx⟩ := Option.isSome_iff_exists.1 h2
    obtain ⟨y, hy⟩ := Option.isSome_iff_exists.1 h3
    obtain ⟨hA, hC⟩ := h x y (by simpa using hx) (by simpa using hy)
    rw [List.length_nil, Nat.zero_add]
    refine wpAnyH_all h1 (by simp) fun k hk => ?_
    simp only [List.mem_cons, List.not_mem_nil, or_false] at hk
    rcases hk with rfl | rfl
    · exact wpOp_act hx (fun a' w' hS' hK => wpSt_any hs hQ l1 _ a' w' hS' h4 hK) hA
    · rw [hl]
      exact wpOp_act hy (fun a' w' hS' hK => wpSt_any hs hQ l2 _ a' w' hS' h5 hK) hC
  | k :: r, listed, a, w, hS, hB, h => by
    simp only [twoB, Bool.and_eq_true] at hB
    obtain ⟨⟨⟨h1, h2⟩, h3⟩, h4⟩ := hB
    obtain ⟨o, hi⟩ := Option.isSome_iff_exists.1 h3
    obtain ⟨v, hy, hr⟩ := h o (by simpa using hi)
    rw [show (k :: r).length + (manyOf l1 + 1) = (r.length + (manyOf l1 + 1)) + 1 by simp; omega]
    exact wpAnyH_take hi hs h2 h1 (fun c a w => hQ _ _ c a w) hy hS (wpTwo_any hs hQ i j l1 l2 hl r _ _ w hS h4 hr)
theorem wp_region_two {id : Nat} {a : Act} {w : World} {ol : List Oper} (r : List Nat) (i j : Nat) (l1 l2 : List Stp) (hm : P.follows .mixedOrders = true) (hl : manyOf l1 = manyOf l2) (hn : r.length + (manyOf l1 + 1) = ol.length)
    (hB : (Region.noSelect ol.toArray && twoB ol.toArray i j l1 l2 r (Array.replicate ol.toArray.size false)) = true) (hQ : ∀ d v c a w, Q (.panic c) (a.put d v) w → Q (.panic c) a w)
    (hS : S w.drew) (h : wpTwo P ol.toArray Q S ol i j l1 l2 r a w.drew) : (Code.region id ol.toArray true).wp P Q a w := by
  simp only [Bool.and_eq_true] at hB
  have h1 := wpTwo_any hB.1 hQ i j l1 l2 hl r _ a w.drew hS hB.2 h
  rw [hn] at h1
  exact wp_region_held hm (by simpa using h1)
theorem wpTwo_yield {ol : List Oper} {i j : Nat} {l1 l2 : List Stp} {k : Nat} {r : List Nat} {v : Value} (ho : ol[k]? = some o) (hw : Region.wanted o (yielded ops a.tmps) = true) (hr : ∀ u, S u → (execOp a.eval o).run P u = .ok (.value v) u)
    (h : wpTwo P ops Q S ol i j l1 l2 r (a.put o.dst v) w) : wpTwo P ops Q S ol i j l1 l2 (k :: r) a w := fun o' ho' => by
  obtain rfl : o = o' := by rw [ho] at ho'; exact Option.some.inj ho'
  exact ⟨v, .inl ⟨hw, hr⟩, h⟩
theorem wpTwo_nil {ol : List Oper} {i j : Nat} {l1 l2 : List Stp} (hi : ol[i]? = some x) (hj : ol[j]? = some y) (h1 : wpAct P ops Q S x (wpSt P ops Q S (inSt ol l1)) a w) (h2 : wpAct P ops Q S y (wpSt P ops Q S (inSt ol l2)) a w) :
    wpTwo P ops Q S ol i j l1 l2 [] a w := fun x' y' hx hy => by
  obtain rfl : x = x' := by rw [hi] at hx; exact Option.some.inj hx
  obtain rfl : y = y' := by rw [hj] at hy; exact Option.some.inj hy
  exact ⟨h1, h2⟩
end
end Go.Proofs.YtlcdpmjdnihocaaH
/- Regions whose order is drawn, walked by a plan: reads, what acts alone, and one of two that act, each with its own plan behind it; S holds all along. -/
namespace Go.Proofs.YtlcdpmjdnihocaaH
open Go.RowKit
/-- A step of a plan: what only reads (.inl i), what acts alone (.inr (.inl i)), one of two that act (.inr (.inr (i, j, k))): the first one's plan is the next k steps, the other's is what is left behind them. -/
abbrev Ins : Type := Nat ⊕ (Nat ⊕ (Nat × Nat × Nat))
def plMany : Nat → List Ins → Nat
  | _, [] => 0
  | 0, _ :: _ => 0
  | f + 1, .inl _ :: r => plMany f r + 1
  | f + 1, .inr (.inl _) :: r => plMany f r + 1
  | f + 1, .inr (.inr (_, _, k)) :: r => plMany f (r.take k) + 1
section
variable {P : Program} {ops : Array Oper} {Q : Exit → Act → World → Prop} {S : World → Prop}
def plB (ops : Array Oper) : Nat → List Ins → Array Bool → Bool
  | _, [], listed => (Region.ready .any ops listed).isEmpty
  | 0, _ :: _, _ => false
  | f + 1, .inl i :: r, listed => (Region.ready .any ops listed).contains i && Region.free .any ops listed i && (ops[i]?).isSome && plB ops f r (listed.setIfInBounds i true)
  | f + 1, .inr (.inl i) :: r, listed => (Region.ready .any ops listed == [i]) && (ops[i]?).isSome && plB ops f r (listed.setIfInBounds i true)
  | f + 1, .inr (.inr (i, j, k)) :: r, listed => (Region.ready .any ops listed == [i, j]) && (ops[i]?).isSome && (ops[j]?).isSome && (plMany f (r.take k) == plMany f (r.drop k)) && plB ops f (r.take k) (listed.setIfInBounds i true) && plB ops f (r.drop k) (listed.setIfInBounds j true)
def wpPl (P : Program) (ops : Array Oper) (Q : Exit → Act → World → Prop) (S : World → Prop) (ol : List Oper) : Nat → List Ins → Act → World → Prop
  | _, [], a, w => Q .normal a w
  | 0, _ :: _, _, _ => False
  | f + 1, .inl i :: r, a, w => ∀ o, ol[i]? = some o → ∃ v, YieldsIf P ops S o v a ∧ wpPl P ops Q S ol f r (a.put o.dst v) w
  | f + 1, .inr (.inl i) :: r, a, w => ∀ o, ol[i]? = some o → wpAct P ops Q S o (wpPl P ops Q S ol f r) a w
  | f + 1, .inr (.inr (i, j, k)) :: r, a, w => ∀ x y, ol[i]? = some x → ol[j]? = some y → wpAct P ops Q S x (wpPl P ops Q S ol f (r.take k)) a w ∧ wpAct P ops Q S y (wpPl P ops Q S ol f (r.drop k)) a w
theorem wpPl_any {ol : List Oper} (hs : Region.noSelect ol.toArray = true) (hQ : ∀ d v c a w, Q (.panic c) (a.put d v) w → Q (.panic c) a w) : ∀ (f : Nat) (l : List Ins) (listed : Array Bool) (a : Act) (w : World), S w →
    plB ol.toArray f l listed = true → wpPl P ol.toArray Q S ol f l a w → wpAnyH P .any ol.toArray Q S (plMany f l) listed a w
  | f, [], listed, a, w, _, hB, h => by
    have hB' : (Region.ready .any ol.toArray listed).isEmpty = true := by cases f <;> exact hB
    have h' : Q .normal a w := by cases f <;> exact h
    exact wpAnyH_done (by simpa using hB') h' _
  | 0, _ :: _, _, _, _, _, hB, _ => by cases hB
  | f + 1, .inl i :: r, listed, a, w, hS, hB, h => by
    simp only [plB, Bool.and_eq_true] at hB
    obtain ⟨⟨⟨h1, h2⟩, h3⟩, h4⟩ := hB
    obtain ⟨o, hi⟩ := Option.isSome_iff_exists.1 h3
    obtain ⟨v, hy, hr⟩ := h o (by simpa using hi)
    exact wpAnyH_take hi hs h2 h1 (fun c a w => hQ _ _ c a w) hy hS (wpPl_any hs hQ f r _ _ w hS h4 hr)
  | f + 1, .inr (.inl i) :: r, listed, a, w, hS, hB, h => by
    simp only [plB, Bool.and_eq_true, beq_iff_eq] at hB
    obtain ⟨⟨h1, h3⟩, h2⟩ := hB
    obtain ⟨o, hi⟩ := Option.isSome_iff_exists.1 h3
    refine wpAnyH_all h1 (by simp) fun j hj => ?_
    obtain rfl : j = i := by simpa using hj
    exact wpOp_act hi (fun a' w' hS' hK => wpPl_any hs hQ f r _ a' w' hS' h2 hK) (h o (by simpa using hi))
  | f + 1, .inr (.inr (i, j, k)) :: r, listed, a, w, hS, hB, h => by
    simp only [plB, Bool.and_eq_true, beq_iff_eq] at hB
    obtain ⟨⟨⟨⟨⟨h1, h2⟩, h3⟩, hm⟩, h4⟩, h5⟩ := hB
    obtain ⟨x, hx⟩ := Option.isSome_iff_exists.1 h2
    obtain ⟨y, hy⟩ := Option.isSome_iff_exists.1 h3
    obtain ⟨hA, hC⟩ := h x y (by simpa using hx) (by simpa using hy)
    refine wpAnyH_all h1 (by simp) fun m hk => ?_
    simp only [List.mem_cons, List.not_mem_nil, or_false] at hk
    rcases hk with rfl | rfl
    · exact wpOp_act hx (fun a' w' hS' hK => wpPl_any hs hQ f (r.take k) _ a' w' hS' h4 hK) hA
    · show wpOp P ol.toArray Q m (fun a' w' => S w' ∧ wpAnyH P .any ol.toArray Q S (plMany f (r.take k)) _ a' w') a w
      rw [hm]
      exact wpOp_act hy (fun a' w' hS' hK => wpPl_any hs hQ f (r.drop k) _ a' w' hS' h5 hK) hC
theorem wp_region_plan {id : Nat} {a : Act} {w : World} {ol : List Oper} (f : Nat) (l : List Ins) (hm : P.follows .mixedOrders = true) (hl : plMany f l = ol.length)
    (hB : (Region.noSelect ol.toArray && plB ol.toArray f l (Array.replicate ol.toArray.size false)) = true) (hQ : ∀ d v c a w, Q (.panic c) (a.put d v) w → Q (.panic c) a w)
    (hS : S w.drew) (h : wpPl P ol.toArray Q S ol f l a w.drew) : (Code.region id ol.toArray true).wp P Q a w := by
  simp only [Bool.and_eq_true] at hB
  have h1 := wpPl_any hB.1 hQ f l _ a w.drew hS hB.2 h
  rw [hl] at h1
  exact wp_region_held hm (by simpa using h1)
variable {a : Act} {w : World} {o x y : Oper} {ol : List Oper} {i j k f : Nat} {r : List Ins}
theorem wpPl_done (h : Q .normal a w) : wpPl P ops Q S ol f [] a w := by cases f <;> exact h
theorem wpPl_yield {v : Value} (ho : ol[i]? = some o) (hw : Region.wanted o (yielded ops a.tmps) = true) (hr : ∀ u, S u → (execOp a.eval o).run P u = .ok (.value v) u) (h : wpPl P ops Q S ol f r (a.put o.dst v) w) : wpPl P ops Q S ol (f + 1) (.inl i :: r) a w := fun o' ho' => by
  obtain rfl : o = o' := by rw [ho] at ho'; exact Option.some.inj ho'
  exact ⟨v, .inl ⟨hw, hr⟩, h⟩
theorem wpPl_skip (ho : ol[i]? = some o) (hw : Region.wanted o (yielded ops a.tmps) = false) (h : wpPl P ops Q S ol f r (a.put o.dst undef) w) : wpPl P ops Q S ol (f + 1) (.inl i :: r) a w := fun o' ho' => by
  obtain rfl : o = o' := by rw [ho] at ho'; exact Option.some.inj ho'
  exact ⟨undef, .inr ⟨hw, rfl⟩, h⟩
theorem wpPl_act (ho : ol[i]? = some o) (h : wpAct P ops Q S o (wpPl P ops Q S ol f r) a w) : wpPl P ops Q S ol (f + 1) (.inr (.inl i) :: r) a w := fun o' ho' => by
  obtain rfl : o = o' := by rw [ho] at ho'; exact Option.some.inj ho'
  exact h
theorem wpPl_two {r1 r2 : List Ins} (hi : ol[i]? = some x) (hj : ol[j]? = some y) (h1 : wpAct P ops Q S x (wpPl P ops Q S ol f r1) a w) (h2 : wpAct P ops Q S y (wpPl P ops Q S ol f r2) a w) (e1 : r.take k = r1) (e2 : r.drop k = r2) : wpPl P ops Q S ol (f + 1) (.inr (.inr (i, j, k)) :: r) a w := fun x' y' hx hy => by
  obtain rfl : x = x' := by rw [hi] at hx; exact Option.some.inj hx
  obtain rfl : y = y' := by rw [hj] at hy; exact Option.some.inj hy
  subst e1 e2
  exact ⟨h1, h2⟩
end
end Go.Proofs.YtlcdpmjdnihocaaH

/- Numbers of some bytes, the lowest first: read and laid, as plain functions; the bytes are 0 to 255. -/
namespace Go.Proofs.YtlcdpmjdnihocaaH.H
open Go.RowKit

/-- The number of m bytes from place k on. -/
def numN (f : Nat → Int) (k : Nat) : Nat → Int
  | 0 => 0
  | m + 1 => f k + 256 * numN f (k + 1) m
/-- The number of n bytes from at on, if all are inside. -/
def num (f : Nat → Int) (at' : Int) (n : Nat) : Int := if 0 ≤ at' ∧ at' ≤ 1024 - (n : Int) then numN f at'.toNat n else 0
/-- f with m bytes of v laid from place k on. -/
def putN (f : Nat → Int) (k : Nat) (v : Int) : Nat → Nat → Int
  | 0 => f
  | m + 1 => putN (upd f k (v % 256)) (k + 1) (v / 256) m
def put (f : Nat → Int) (at' : Int) (n : Nat) (v : Int) : Nat → Int := if 0 ≤ at' ∧ at' ≤ 1024 - (n : Int) then putN f at'.toNat v n else f

theorem numN_bd (f : Nat → Int) (hf : ∀ i, 0 ≤ f i ∧ f i ≤ 255) : ∀ (m k : Nat), 0 ≤ numN f k m ∧ numN f k m < 256 ^ m
  | 0, _ => by simp [numN]
  | m + 1, k => by
    have h1 := numN_bd f hf m (k + 1)
    have h2 := hf k
    simp only [numN, Int.pow_succ]
    omega
theorem num2 (f : Nat → Int) (k : Nat) : numN f k 2 = f k + 256 * f (k + 1) := by simp [numN]
theorem num4 (f : Nat → Int) (k : Nat) : numN f k 4 = f k + 256 * f (k + 1) + 65536 * f (k + 2) + 16777216 * f (k + 3) := by
  simp only [numN, Nat.add_assoc, Nat.reduceAdd]; omega
theorem num_in (f : Nat → Int) (k n : Nat) (h : k + n ≤ 1024) : num f (k : Int) n = numN f k n := by
  unfold num; rw [if_pos (by omega), Int.toNat_natCast]
theorem num_out (f : Nat → Int) (a : Int) (n : Nat) (h : a < 0 ∨ 1024 - (n : Int) < a) : num f a n = 0 := by
  unfold num; rw [if_neg (by omega)]
theorem put_in (f : Nat → Int) (k n : Nat) (v : Int) (h : k + n ≤ 1024) : put f (k : Int) n v = putN f k v n := by
  unfold put; rw [if_pos (by omega), Int.toNat_natCast]
theorem put_out (f : Nat → Int) (a : Int) (n : Nat) (v : Int) (h : a < 0 ∨ 1024 - (n : Int) < a) : put f a n v = f := by
  unfold put; rw [if_neg (by omega)]
theorem put2 (f : Nat → Int) (k : Nat) (v : Int) (hv : 0 ≤ v ∧ v < 65536) : putN f k v 2 = upd (upd f k (v % 256)) (k + 1) (v / 256) := by
  simp only [putN]
  rw [show v / 256 % 256 = v / 256 by omega]
theorem put4 (f : Nat → Int) (k : Nat) (v : Int) (hv : 0 ≤ v ∧ v < 4294967296) : putN f k v 4 = upd (upd (upd (upd f k (v % 256)) (k + 1) (v / 256 % 256)) (k + 2) (v / 65536 % 256)) (k + 3) (v / 16777216) := by
  simp only [putN, Nat.add_assoc, Nat.reduceAdd]
  rw [show v / 256 / 256 % 256 = v / 65536 % 256 by omega, show v / 256 / 256 / 256 % 256 = v / 16777216 by omega]
theorem num_bd (f : Nat → Int) (hf : ∀ i, 0 ≤ f i ∧ f i ≤ 255) (a : Int) (n : Nat) : 0 ≤ num f a n ∧ num f a n < 256 ^ n := by
  unfold num
  split
  · exact numN_bd f hf _ _
  · exact ⟨Int.le_refl _, Int.pow_pos (by decide)⟩

theorem wrap_u8 (n : Int) : IntKind.u8.wrap n = n % 256 := by simp [IntKind.wrap, IntKind.bits, IntKind.signed]
theorem wrap_u16 (n : Int) : IntKind.u16.wrap n = n % 65536 := by simp [IntKind.wrap, IntKind.bits, IntKind.signed]
theorem wrap_u32 (n : Int) : IntKind.u32.wrap n = n % 4294967296 := by simp [IntKind.wrap, IntKind.bits, IntKind.signed]

theorem or_comm' (k : IntKind) (x y : Int) : bits .or k x y = bits .or k y x := by simp only [bits, BitVec.or_comm]
theorem or16 (a b : Int) (ha : 0 ≤ a ∧ a ≤ 255) (hb : 0 ≤ b ∧ b ≤ 255) : bits .or .u16 (IntKind.u16.wrap a) (IntKind.u16.wrap (IntKind.u16.wrap b * 256)) = a + 256 * b := by
  simp only [wrap_u16]
  have h1 : a % 65536 = a := by omega
  have h2 : b % 65536 * 256 % 65536 = 256 * b := by omega
  rw [h1, h2, or_comm', bits_join .u16 16 (by decide) (fun n h0 h1 => by rw [wrap_u16]; omega) 8 (256 * b) a (by omega) (by omega) (by omega) (by omega) (by omega) (by omega)]
  omega
theorem or32 (i : Nat) (x y : Int) (hx0 : 0 ≤ x) (hx : x % 2 ^ i = 0) (hx1 : x < 2 ^ 32) (hy0 : 0 ≤ y) (hy : y < 2 ^ i) (hy1 : y < 2 ^ 32) : bits .or .u32 y x = y + x := by
  rw [or_comm', bits_join .u32 32 (by decide) (fun n h0 h1 => by rw [wrap_u32]; omega) i x y hx0 hx hx1 hy0 hy hy1]
  omega
theorem or32all (a b c d : Int) (ha : 0 ≤ a ∧ a ≤ 255) (hb : 0 ≤ b ∧ b ≤ 255) (hc : 0 ≤ c ∧ c ≤ 255) (hd : 0 ≤ d ∧ d ≤ 255) :
    bits .or .u32 (bits .or .u32 (bits .or .u32 (IntKind.u32.wrap a) (IntKind.u32.wrap (IntKind.u32.wrap b * 256))) (IntKind.u32.wrap (IntKind.u32.wrap c * 65536))) (IntKind.u32.wrap (IntKind.u32.wrap d * 16777216)) = a + 256 * b + 65536 * c + 16777216 * d := by
  simp only [wrap_u32]
  have h1 : a % 4294967296 = a := by omega
  have h2 : b % 4294967296 * 256 % 4294967296 = 256 * b := by omega
  have h3 : c % 4294967296 * 65536 % 4294967296 = 65536 * c := by omega
  have h4 : d % 4294967296 * 16777216 % 4294967296 = 16777216 * d := by omega
  rw [h1, h2, h3, h4, or32 8 (256 * b) a (by omega) (by omega) (by omega) (by omega) (by omega) (by omega),
    or32 16 (65536 * c) (a + 256 * b) (by omega) (by omega) (by omega) (by omega) (by omega) (by omega),
    or32 24 (16777216 * d) (a + 256 * b + 65536 * c) (by omega) (by omega) (by omega) (by omega) (by omega) (by omega)]
end Go.Proofs.YtlcdpmjdnihocaaH.H
/- The law's own function block: a block that begins with the bytes of a slice; its bytes lie in memory below. -/
namespace Go.Proofs.YtlcdpmjdnihocaaH.H
open Go.RowKit
set_option maxHeartbeats 400000 in
theorem fits_any (a n : Int) (w : World) (hn : 0 ≤ n ∧ n ≤ 1024) :
    Calls Try.prog 71 #[.int .i64 a, .int .i64 n] w fun e w' => e = .returned (.bool (decide (0 ≤ a ∧ a ≤ 1024 - n))) ∧ w' = w := by
  by_cases h0 : 0 ≤ a
  · by_cases h1 : a ≤ 1024 - n
    · go_enter Try.func71, Try.ntmps71
      go_wp2
      go_ret
      exact ⟨by simp [h0, h1], rfl⟩
    · go_enter Try.func71, Try.ntmps71
      go_wp2
      go_ret
      exact ⟨by simp [h1], rfl⟩
  · go_enter Try.func71, Try.ntmps71
    go_wp2
    go_ret
    exact ⟨by simp; omega, rfl⟩

theorem fits_yes (a n : Int) (w : World) (hn : 0 ≤ n ∧ n ≤ 1024) (h : 0 ≤ a ∧ a ≤ 1024 - n) :
    Calls Try.prog 71 #[.int .i64 a, .int .i64 n] w fun e w' => e = .returned (.bool true) ∧ w' = w := by
  have := fits_any a n w hn
  rwa [decide_eq_true h] at this
theorem fits_no (a n : Int) (w : World) (hn : 0 ≤ n ∧ n ≤ 1024) (h : ¬ (0 ≤ a ∧ a ≤ 1024 - n)) :
    Calls Try.prog 71 #[.int .i64 a, .int .i64 n] w fun e w' => e = .returned (.bool false) ∧ w' = w := by
  have := fits_any a n w hn
  rwa [decide_eq_false h] at this


def Lies (w : World) (v : Value) (n : Nat) (f : Nat → Int) : Prop :=
  (∃ a cap, v = .slice a 0 cap ∧ n = 0 ∧ (a = none → cap = 0)) ∨ ∃ b off cap, v = .slice (some ⟨b, off, none⟩) n cap ∧ n ≤ maxLen ∧ n ≤ cap ∧ b < w.heap.size ∧ ∀ i, i < n → w.cell? ⟨b, off + i, none⟩ = some (.int .u8 (f i))
theorem Lies.later {w w' : World} {v : Value} {n : Nat} {f : Nat → Int} (h : Lies w v n f) (hb : Below w.heap.size w w') : Lies w' v n f := by
  rcases h with h | ⟨b, off, cap, hv, hn, hcap, hlt, hc⟩
  · exact .inl h
  · exact .inr ⟨b, off, cap, hv, hn, hcap, Nat.lt_of_lt_of_le hlt hb.size, fun i hi => (hb.cell (p := ⟨b, off + i, none⟩) hlt).trans (hc i hi)⟩
end Go.Proofs.YtlcdpmjdnihocaaH.H
/- U16 and U32 of slab: the number of the bytes at a place, or nought; for every block of bytes and every place. -/
namespace Go.Proofs.YtlcdpmjdnihocaaH.H
open Go.RowKit

theorem ret_int {k : IntKind} {a b : Int} (h : a = b) : Ending.returned (.int k a) = .returned (.int k b) := by rw [h]

end Go.Proofs.YtlcdpmjdnihocaaH.H
/- SetU16 and SetU32 of slab: the block in which a number is laid; for every block, place and number. -/
namespace Go.Proofs.YtlcdpmjdnihocaaH.H
open Go.RowKit

theorem ret_blk {f g : Nat → Int} (h : f = g) : Ending.returned (.agg (blk f)) = .returned (.agg (blk g)) := by rw [h]
set_option maxRecDepth 20000 in
set_option maxHeartbeats 400000 in
theorem set32_in (f : Nat → Int) (k : Nat) (v : Int) (w : World) (hk : (k : Int) ≤ 1020) (hv : 0 ≤ v ∧ v < 4294967296) :
    Calls Try.prog 49 #[.agg (blk f), .int .i64 k, .int .u32 v] w fun e w' => e = .returned (.agg (blk (putN f k v 4))) ∧ Below w.heap.size w w' := by
  have z25 := zero25
  have hb0 := fun g => blk_get g (k) (by omega)
  have hb1 := fun g => blk_get g (k + 1) (by omega)
  have hb2 := fun g => blk_get g (k + 2) (by omega)
  have hb3 := fun g => blk_get g (k + 3) (by omega)
  have hset := blk_set
  go_enter Try.func49, Try.ntmps49
  go_wp2_with (first | (go_at_call 71; refine (fits_yes _ _ _ (by omega) (by omega)).mono ?_; rintro e w' ⟨rfl, rfl⟩) | refine wpList_load25 rfl _ rfl _ rfl _ (heap_alloc2_old _ _ _) ?_ | refine wpList_store25 rfl _ _ rfl _ _ rfl rfl _ (heap_alloc2_new _ _ _) ?_)
  exact ret25 rfl (w.heap.size + 1) _ rfl (setRow_heap _ _ _ _ _ _ (heap_alloc2_new _ _ _)) rfl ⟨ret_blk (put4 f k v hv).symm, below2 _ _ _ _ (by omega) _⟩
set_option maxRecDepth 20000 in
set_option maxHeartbeats 400000 in
theorem set32_out (f : Nat → Int) (k : Int) (v : Int) (w : World) (hk : ¬ (0 ≤ k ∧ k ≤ 1024 - 4)) :
    Calls Try.prog 49 #[.agg (blk f), .int .i64 k, .int .u32 v] w fun e w' => e = .returned (.agg (blk f)) ∧ Below w.heap.size w w' := by
  have z25 := zero25
  have HK : Hid (¬ (0 ≤ k ∧ k ≤ 1024 - 4)) := hk
  clear hk
  go_enter Try.func49, Try.ntmps49
  go_wp2_with (first | (go_at_call 71; refine (fits_no _ _ _ (by omega) HK.out).mono ?_; rintro e w' ⟨rfl, rfl⟩) | refine wpList_load25 rfl _ rfl _ rfl _ (heap_alloc2_old _ _ _) ?_ | refine wpList_store25 rfl _ _ rfl _ _ rfl rfl _ (heap_alloc2_new _ _ _) ?_)
  exact ret25 rfl (w.heap.size + 1) _ rfl (setRow_heap _ _ _ _ _ _ (heap_alloc2_new _ _ _)) rfl ⟨rfl, below2 _ _ _ _ (by omega) _⟩
theorem set32_any (f : Nat → Int) (k : Int) (v : Int) (w : World) (hv : 0 ≤ v ∧ v < 4294967296) :
    Calls Try.prog 49 #[.agg (blk f), .int .i64 k, .int .u32 v] w fun e w' => e = .returned (.agg (blk (put f k 4 v))) ∧ Below w.heap.size w w' := by
  by_cases h : 0 ≤ k ∧ k ≤ 1024 - 4
  · obtain ⟨m, rfl⟩ := Int.eq_ofNat_of_zero_le h.1
    rw [put_in f m 4 v (by omega)]; exact set32_in f m v w (by omega) hv
  · rw [put_out f k 4 v (by omega)]; exact set32_out f k v w h
end Go.Proofs.YtlcdpmjdnihocaaH.H

/- Where the regions of a geometry lie, as plain numbers, and the values that stand for them; no condition. -/
namespace Go.Proofs.YtlcdpmjdnihocaaH.H
open Go.RowKit

def nodeB (i : Int) : Int := (i + 16) / 16
def bitsB (b : Int) : Int := (b + 8191) / 8192
def bitsAt (l i : Int) : Int := 1 + l + nodeB i
def dataAt (b l i : Int) : Int := bitsAt l i + bitsB b
/-- Is there a layout of the geometry b, l, i? -/
abbrev Fine (b l i : Int) : Prop := 32 ≤ l ∧ l ≤ 256 ∧ 1 ≤ i ∧ i ≤ 65535 ∧ b ≤ 1048576 ∧ dataAt b l i < b
theorem Fine.pos {b l i : Int} (h : Fine b l i) : 23 ≤ b := by
  unfold Fine dataAt bitsAt nodeB bitsB at h; omega

/-- Is a geometry within its bounds? -/
def bndB (b l i : Int) : Bool := decide (32 ≤ l ∧ l ≤ 256 ∧ 1 ≤ i ∧ i ≤ 65535 ∧ b ≤ 1048576)

def geoV (b l i : Int) : Value := .agg #[.int .i64 b, .int .i64 l, .int .i64 i]
def lay9 (b l i a c d e f g : Int) : Array Value := #[.int .i64 b, .int .i64 l, .int .i64 i, .int .i64 a, .int .i64 c, .int .i64 d, .int .i64 e, .int .i64 f, .int .i64 g]
def layV (b l i : Int) : Value := .agg (lay9 b l i 1 (1 + l) (nodeB i) (bitsAt l i) (bitsB b) (dataAt b l i))
def layZ : Value := .agg (lay9 0 0 0 0 0 0 0 0 0)
/-- What Of answers. -/
def ofV (b l i : Int) : Value := if Fine b l i then layV b l i else layZ
def ofE (b l i : Int) : Int := if Fine b l i then 0 else 2
def I64 (x : Int) : Prop := -9223372036854775808 ≤ x ∧ x ≤ 9223372036854775807
end Go.Proofs.YtlcdpmjdnihocaaH.H
/- Of of shape: the layout of a geometry, or none; for every geometry. -/
namespace Go.Proofs.YtlcdpmjdnihocaaH.H
open Go.RowKit

theorem ret_bool {a b : Bool} (h : a = b) : Ending.returned (.bool a) = .returned (.bool b) := by rw [h]
/-- A result of two: a row in a cell, and a value. -/
theorem retCT {fn : Func} {p u : Tmp} {ty : TypeId} {R : Ending → World → Prop} {a : Act} {w : World} (h : fn.results = #[.cell p ty, .tmp u]) (g : Nat) (cs : Array Value)
    (hp : a.tmps.getD p undef = .pointer (some ⟨g, 0, none⟩)) (hl : (loadVar ty ⟨g, 0, none⟩).run Try.prog w = .ok (.agg cs) w)
    (hdf : a.defers = []) (hR : R (.returned (.tuple #[.agg cs, a.tmps.getD u undef])) w) : bodyPost Try.prog fn R .ret a w := by
  refine bodyPost_ret ?_ hdf hR
  rw [results_cell_tmp h]
  rw [hp]
  simp [asAddr, hl]

theorem load25L (w : World) (g : Nat) (cs : Array Value) (h : w.heap[g]? = some (.cells cs 29)) (hs : cs.size = 9) : (loadVar 29 ⟨g, 0, none⟩).run Try.prog w = .ok (.agg cs) w :=
  run_loadVar_row w g 29 29 cs (0, 0) _ h Try.underlying29 rfl (by rw [hs]; kernel_rfl)
theorem size25L : (Try.prog.info? 29).map (·.size) = some 9 := by kernel_rfl
theorem size23G : (Try.prog.info? 26).map (·.size) = some 3 := by kernel_rfl

theorem bounded_any (b l i : Int) (w : World) :
    Calls Try.prog 46 #[geoV b l i] w fun e w' => e = .returned (.bool (bndB b l i)) ∧ w' = w.alloc (.cells #[.int .i64 b, .int .i64 l, .int .i64 i] 26) := by
  unfold geoV
  by_cases h0 : 32 ≤ l
  · by_cases h1 : l ≤ 256
    · by_cases h2 : 1 ≤ i
      · by_cases h3 : i ≤ 65535
        · by_cases h4 : b ≤ 1048576
          · go_enter Try.func46, Try.ntmps46
            go_wp2
            go_ret
            exact ⟨ret_bool (show true = bndB b l i from (decide_eq_true (by omega)).symm), rfl⟩
          · go_enter Try.func46, Try.ntmps46
            go_wp2
            go_ret
            exact ⟨ret_bool (show false = bndB b l i from (decide_eq_false (by omega)).symm), rfl⟩
        · go_enter Try.func46, Try.ntmps46
          go_wp2
          go_ret
          exact ⟨ret_bool (show false = bndB b l i from (decide_eq_false (by omega)).symm), rfl⟩
      · go_enter Try.func46, Try.ntmps46
        go_wp2
        go_ret
        exact ⟨ret_bool (show false = bndB b l i from (decide_eq_false (by omega)).symm), rfl⟩
    · go_enter Try.func46, Try.ntmps46
      go_wp2
      go_ret
      exact ⟨ret_bool (show false = bndB b l i from (decide_eq_false (by omega)).symm), rfl⟩
  · go_enter Try.func46, Try.ntmps46
    go_wp2
    go_ret
    exact ⟨ret_bool (show false = bndB b l i from (decide_eq_false (by omega)).symm), rfl⟩

theorem bel_al {w u : World} (h : Below w.heap.size w u) (o : Obj) : Below w.heap.size w (u.alloc o) := h.alloc h.size o
theorem heap3 (w : World) (A B C : Obj) : (((w.alloc A).alloc B).alloc C).heap[w.heap.size + 1]? = some B := by
  rw [heap_alloc_old _ _ (by simp)]; exact heap_alloc2_new _ _ _
theorem heap4 (w : World) (A B C D : Obj) : ((((w.alloc A).alloc B).alloc C).alloc D).heap[w.heap.size + 1]? = some B := by
  rw [heap_alloc_old _ _ (by simp)]; exact heap3 _ _ _ _

set_option maxRecDepth 20000 in
set_option maxHeartbeats 400000 in
theorem of_out (b l i : Int) (w : World) (h : ¬ (32 ≤ l ∧ l ≤ 256 ∧ 1 ≤ i ∧ i ≤ 65535 ∧ b ≤ 1048576)) :
    Calls Try.prog 37 #[geoV b l i] w fun e w' => e = .returned (.tuple #[layZ, .int .i64 2]) ∧ Below w.heap.size w w' := by
  have hc := fun w => bounded_any b l i w
  rw [show bndB b l i = false from decide_eq_false h] at hc
  clear h
  unfold geoV at *
  go_enter Try.func37, Try.ntmps37
  go_wp2_with (first | (go_at_call 46; refine (hc _).mono ?_; rintro e w' ⟨rfl, rfl⟩))
  refine retCT rfl (w.heap.size + 1) _ rfl (load25L _ _ _ (heap3 _ _ _ _) rfl) rfl ⟨rfl, ?_⟩
  repeat refine bel_al ?_ _
  exact Below.refl _ _

set_option maxRecDepth 20000 in
set_option maxHeartbeats 400000 in
theorem of_fine (b l i : Int) (w : World) (h : 32 ≤ l ∧ l ≤ 256 ∧ 1 ≤ i ∧ i ≤ 65535 ∧ b ≤ 1048576) (h0 : 1 ≤ b) (hd : dataAt b l i < b) :
    Calls Try.prog 37 #[geoV b l i] w fun e w' => e = .returned (.tuple #[layV b l i, .int .i64 0]) ∧ Below w.heap.size w w' := by
  have hc := fun w => bounded_any b l i w
  rw [show bndB b l i = true from decide_eq_true h] at hc
  have hd' : ¬ b ≤ 1 + l + (i + 16) / 16 + (b + 8192 - 1) / 8192 := by unfold dataAt bitsAt nodeB bitsB at hd; omega
  have HL : Hid (lay9 b l i 1 (1 + l) ((i + 16) / 16) (1 + l + (i + 16) / 16) ((b + 8192 - 1) / 8192) (1 + l + (i + 16) / 16 + (b + 8192 - 1) / 8192) = lay9 b l i 1 (1 + l) (nodeB i) (bitsAt l i) (bitsB b) (dataAt b l i)) := by
    show _ = _
    unfold dataAt bitsAt nodeB bitsB
    rw [show b + 8192 - 1 = b + 8191 by omega]
  clear hd
  obtain ⟨h1, h2, h3, h4, h5⟩ := h
  unfold geoV at *
  go_enter Try.func37, Try.ntmps37
  go_wp2_with (first | (go_at_call 46; refine (hc _).mono ?_; rintro e w' ⟨rfl, rfl⟩))
  refine retCT rfl (w.heap.size + 1) _ rfl (load25L _ _ _ (heap4 _ _ _ _ _) rfl) rfl ⟨?_, ?_⟩
  · exact congrArg (fun x => Ending.returned (.tuple #[.agg x, .int .i64 0])) HL.out
  repeat refine bel_al ?_ _
  exact Below.refl _ _

set_option maxRecDepth 20000 in
set_option maxHeartbeats 400000 in
theorem of_full (b l i : Int) (w : World) (h : 32 ≤ l ∧ l ≤ 256 ∧ 1 ≤ i ∧ i ≤ 65535 ∧ b ≤ 1048576) (h0 : 1 ≤ b) (hd : b ≤ dataAt b l i) :
    Calls Try.prog 37 #[geoV b l i] w fun e w' => e = .returned (.tuple #[layZ, .int .i64 2]) ∧ Below w.heap.size w w' := by
  have hc := fun w => bounded_any b l i w
  rw [show bndB b l i = true from decide_eq_true h] at hc
  have hd' : b ≤ 1 + l + (i + 16) / 16 + (b + 8192 - 1) / 8192 := by unfold dataAt bitsAt nodeB bitsB at hd; omega
  clear hd
  obtain ⟨h1, h2, h3, h4, h5⟩ := h
  unfold geoV at *
  go_enter Try.func37, Try.ntmps37
  go_wp2_with (first | (go_at_call 46; refine (hc _).mono ?_; rintro e w' ⟨rfl, rfl⟩))
  refine retCT rfl (w.heap.size + 1) _ rfl (load25L _ _ _ (heap4 _ _ _ _ _) rfl) rfl ⟨rfl, ?_⟩
  repeat refine bel_al ?_ _
  exact Below.refl _ _

theorem tdiv_neg (b : Int) (h : b ≤ 0) : b ≤ (b + 8192 - 1).tdiv 8192 ∧ (b + 8192 - 1).tdiv 8192 ≤ 0 := by
  rw [Int.tdiv_eq_ediv]
  split
  · omega
  · rw [show Int.sign 8192 = 1 by rfl]; omega
set_option maxRecDepth 20000 in
set_option maxHeartbeats 400000 in
theorem of_neg (b l i : Int) (w : World) (h : 32 ≤ l ∧ l ≤ 256 ∧ 1 ≤ i ∧ i ≤ 65535 ∧ b ≤ 1048576) (h0 : b ≤ 0) (hb : -9223372036854775808 ≤ b) :
    Calls Try.prog 37 #[geoV b l i] w fun e w' => e = .returned (.tuple #[layZ, .int .i64 2]) ∧ Below w.heap.size w w' := by
  have hc := fun w => bounded_any b l i w
  rw [show bndB b l i = true from decide_eq_true h] at hc
  have ht := tdiv_neg b h0
  obtain ⟨h1, h2, h3, h4, h5⟩ := h
  have hw : b ≤ wrap64 (1 + l + (i + 16) / 16 + (b + 8192 - 1).tdiv 8192) := by
    generalize (b + 8192 - 1).tdiv 8192 = t at ht
    unfold wrap64; omega
  have e1 : wrap64 (b + 8192) = b + 8192 := by unfold wrap64; omega
  clear ht
  unfold geoV at *
  go_enter Try.func37, Try.ntmps37
  go_wp2_with (first | (go_at_call 46; refine (hc _).mono ?_; rintro e w' ⟨rfl, rfl⟩))
  refine retCT rfl (w.heap.size + 1) _ rfl (load25L _ _ _ (heap4 _ _ _ _ _) rfl) rfl ⟨rfl, ?_⟩
  repeat refine bel_al ?_ _
  exact Below.refl _ _

theorem of_any (b l i : Int) (w : World) (hb : I64 b) :
    Calls Try.prog 37 #[geoV b l i] w fun e w' => e = .returned (.tuple #[ofV b l i, .int .i64 (ofE b l i)]) ∧ Below w.heap.size w w' := by
  unfold ofV ofE
  by_cases h : 32 ≤ l ∧ l ≤ 256 ∧ 1 ≤ i ∧ i ≤ 65535 ∧ b ≤ 1048576
  · by_cases h0 : 1 ≤ b
    · by_cases h1 : dataAt b l i < b
      · have hf : Fine b l i := ⟨h.1, h.2.1, h.2.2.1, h.2.2.2.1, h.2.2.2.2, h1⟩
        rw [if_pos hf, if_pos hf]
        exact of_fine b l i w h h0 h1
      · have hf : ¬ Fine b l i := fun q => h1 q.2.2.2.2.2
        rw [if_neg hf, if_neg hf]
        exact of_full b l i w h h0 (by omega)
    · have hf : ¬ Fine b l i := fun q => by have := q.pos; omega
      rw [if_neg hf, if_neg hf]
      exact of_neg b l i w h (by omega) hb.1
  · have hf : ¬ Fine b l i := fun q => h ⟨q.1, q.2.1, q.2.2.1, q.2.2.2.1, q.2.2.2.2.1⟩
    rw [if_neg hf, if_neg hf]
    exact of_out b l i w h
end Go.Proofs.YtlcdpmjdnihocaaH.H
/- The document's Of: the layout of a geometry, or none; for every geometry. -/
namespace Go.Proofs.YtlcdpmjdnihocaaH.H
open Go.RowKit

/-- The number in a cell. -/
def cellN (w : World) (g off : Nat) : Nat := (intOf ((w.cell? ⟨g, off, none⟩).getD undef)).toNat
theorem cellN_of {w : World} {g off : Nat} {t : TypeId} {cs : Array Value} {x : Int} (h : w.heap[g]? = some (.cells cs t)) (hx : cs[off]? = some (.int .i64 x)) : cellN w g off = x.toNat := by
  unfold cellN
  rw [cell_of_row w g off _ t _ h, hx]
  rfl
theorem heap3n (w : World) (A B C : Obj) : (((w.alloc A).alloc B).alloc C).heap[w.heap.size + 2]? = some C := by
  have h := heap_alloc_new ((w.alloc A).alloc B) C
  have e : ((w.alloc A).alloc B).heap.size = w.heap.size + 2 := by simp
  rwa [e] at h
set_option maxRecDepth 20000 in
set_option maxHeartbeats 400000 in
theorem refOf_out (b l i : Int) (w : World) (h : ¬ (32 ≤ l ∧ l ≤ 256 ∧ 1 ≤ i ∧ i ≤ 65535 ∧ b ≤ 1048576 ∧ 1 ≤ b)) :
    Calls Try.prog 6 #[geoV b l i] w fun e w' => e = .returned (.tuple #[layZ, .int .i64 2]) ∧ Below w.heap.size w w' := by
  unfold geoV at *
  have fin : Below w.heap.size w ((w.alloc (.cells #[.int .i64 b, .int .i64 l, .int .i64 i] 26)).alloc (.cells (lay9 0 0 0 0 0 0 0 0 0) 29)) := bel_al (bel_al (Below.refl _ _) _) _
  have HF : Hid _ := fin
  clear fin
  by_cases h0 : l < 32
  · clear h
    go_enter Try.func6, Try.ntmps6
    go_wp2
    exact retCT rfl (w.heap.size + 1) _ rfl (load25L _ _ _ (heap_alloc2_new _ _ _) rfl) rfl ⟨rfl, HF.out⟩
  · by_cases h1 : 256 < l
    · clear h
      go_enter Try.func6, Try.ntmps6
      go_wp2
      exact retCT rfl (w.heap.size + 1) _ rfl (load25L _ _ _ (heap_alloc2_new _ _ _) rfl) rfl ⟨rfl, HF.out⟩
    · by_cases h2 : i < 1
      · clear h
        go_enter Try.func6, Try.ntmps6
        go_wp2
        exact retCT rfl (w.heap.size + 1) _ rfl (load25L _ _ _ (heap_alloc2_new _ _ _) rfl) rfl ⟨rfl, HF.out⟩
      · by_cases h3 : 65535 < i
        · clear h
          go_enter Try.func6, Try.ntmps6
          go_wp2
          exact retCT rfl (w.heap.size + 1) _ rfl (load25L _ _ _ (heap_alloc2_new _ _ _) rfl) rfl ⟨rfl, HF.out⟩
        · by_cases h4 : 1048576 < b
          · clear h
            go_enter Try.func6, Try.ntmps6
            go_wp2
            exact retCT rfl (w.heap.size + 1) _ rfl (load25L _ _ _ (heap_alloc2_new _ _ _) rfl) rfl ⟨rfl, HF.out⟩
          · have h5 : b < 1 := by omega
            clear h
            go_enter Try.func6, Try.ntmps6
            go_wp2
            exact retCT rfl (w.heap.size + 1) _ rfl (load25L _ _ _ (heap_alloc2_new _ _ _) rfl) rfl ⟨rfl, HF.out⟩

set_option maxRecDepth 20000 in
set_option maxHeartbeats 400000 in
theorem refOf_in (b l i : Int) (w : World) (h : 32 ≤ l ∧ l ≤ 256 ∧ 1 ≤ i ∧ i ≤ 65535 ∧ b ≤ 1048576 ∧ 1 ≤ b) :
    Calls Try.prog 6 #[geoV b l i] w fun e w' => e = .returned (.tuple #[ofV b l i, .int .i64 (ofE b l i)]) ∧ Below w.heap.size w w' := by
  obtain ⟨h1, h2, h3, h4, h5, h6⟩ := h
  unfold geoV at *
  go_enter Try.func6, Try.ntmps6
  go_wp2
  go_loopw [] (fun wx => ∃ k : Nat, k ≤ 5000 ∧ 16 * ((k : Int) - 1) < i + 1 ∧ wx = ((w.alloc (.cells #[.int .i64 b, .int .i64 l, .int .i64 i] 26)).alloc (.cells (lay9 0 0 0 0 0 0 0 0 0) 29)).alloc (.cells (lay9 b l i 1 (1 + l) k 0 0 0) 29)) (fun wx => 5000 - cellN wx (w.heap.size + 2) 5)
  case atStart => exact ⟨0, by omega, by omega, rfl⟩
  case round =>
    obtain ⟨k, hk1, hk2, rfl⟩ := hrel
    unfold lay9 at *
    by_cases hk : 16 * (k : Int) < i + 1
    · go_wp2
      refine ⟨⟨k + 1, by omega, by omega, ?_⟩, ?_⟩
      · simp
      · rw [cellN_of (heap3n _ _ _ _) rfl, cellN_of (heap3n _ _ _ _) rfl]; omega
    · have hkn : (k : Int) = nodeB i := by unfold nodeB; omega
      have HK : Hid ((k : Int) = nodeB i) := hkn
      clear hkn
      have hkb : (k : Int) ≤ 5000 := by omega
      go_wp2
      go_loopw [] (fun wx => ∃ m : Nat, m ≤ 200 ∧ 8192 * ((m : Int) - 1) < b ∧ wx = ((w.alloc (.cells #[.int .i64 b, .int .i64 l, .int .i64 i] 26)).alloc (.cells (lay9 0 0 0 0 0 0 0 0 0) 29)).alloc (.cells (lay9 b l i 1 (1 + l) k (1 + l + k) m 0) 29)) (fun wx => 200 - cellN wx (w.heap.size + 2) 7)
      case atStart => exact ⟨0, by omega, by omega, rfl⟩
      case round =>
        obtain ⟨m, hm1, hm2, rfl⟩ := hrel
        unfold lay9 at *
        by_cases hm : 8192 * (m : Int) < b
        · go_wp2
          refine ⟨⟨m + 1, by omega, by omega, ?_⟩, ?_⟩
          · simp
          · rw [cellN_of (heap3n _ _ _ _) rfl, cellN_of (heap3n _ _ _ _) rfl]; omega
        · have HM : Hid ((m : Int) = bitsB b) := by show _ = _; unfold bitsB; omega
          have hmb : (m : Int) ≤ 200 := by omega
          by_cases hd : b ≤ 1 + l + k + m
          · have hf : ¬ Fine b l i := fun q => by
              have q1 := q.2.2.2.2.2
              have q2 := HK.out
              have q3 := HM.out
              unfold dataAt bitsAt at q1
              omega
            have HE : Hid (Ending.returned (.tuple #[layZ, .int .i64 2]) = .returned (.tuple #[ofV b l i, .int .i64 (ofE b l i)])) := by
              show _ = _
              rw [show ofV b l i = layZ from if_neg hf, show ofE b l i = 2 from if_neg hf]
            clear hf
            go_wp2
            refine retCT rfl (w.heap.size + 1) _ rfl (load25L _ _ _ (heap3 _ _ _ _) rfl) rfl ⟨HE.out, ?_⟩
            repeat refine bel_al ?_ _
            exact Below.refl _ _
          · have hf : Fine b l i := ⟨h1, h2, h3, h4, h5, by
              have q2 := HK.out
              have q3 := HM.out
              unfold dataAt bitsAt
              omega⟩
            have HE : Hid (Ending.returned (.tuple #[layV b l i, .int .i64 0]) = .returned (.tuple #[ofV b l i, .int .i64 (ofE b l i)])) := by
              show _ = _
              rw [show ofV b l i = layV b l i from if_pos hf, show ofE b l i = 0 from if_pos hf]
            have HL : Hid (lay9 b l i 1 (1 + l) k (1 + l + k) m (1 + l + k + m) = lay9 b l i 1 (1 + l) (nodeB i) (bitsAt l i) (bitsB b) (dataAt b l i)) := by
              show _ = _
              unfold dataAt bitsAt
              rw [HK.out, HM.out]
            clear hf
            go_wp2
            refine retCT rfl (w.heap.size + 1) _ rfl (load25L _ _ _ (heap3 _ _ _ _) rfl) rfl ⟨?_, ?_⟩
            · exact (congrArg (fun x => Ending.returned (.tuple #[.agg x, .int .i64 0])) HL.out).trans HE.out
            repeat refine bel_al ?_ _
            exact Below.refl _ _

theorem refOf_any (b l i : Int) (w : World) :
    Calls Try.prog 6 #[geoV b l i] w fun e w' => e = .returned (.tuple #[ofV b l i, .int .i64 (ofE b l i)]) ∧ Below w.heap.size w w' := by
  by_cases h : 32 ≤ l ∧ l ≤ 256 ∧ 1 ≤ i ∧ i ≤ 65535 ∧ b ≤ 1048576 ∧ 1 ≤ b
  · exact refOf_in b l i w h
  · have hf : ¬ Fine b l i := fun q => h ⟨q.1, q.2.1, q.2.2.1, q.2.2.2.1, q.2.2.2.2.1, by have := q.pos; omega⟩
    rw [show ofV b l i = layZ from if_neg hf, show ofE b l i = 2 from if_neg hf]
    exact refOf_out b l i w h
end Go.Proofs.YtlcdpmjdnihocaaH.H
/- stands of shape, and the document's Fits: is a layout just what its geometry says? For every layout. -/
namespace Go.Proofs.YtlcdpmjdnihocaaH.H
open Go.RowKit

/-- Is a layout just what its geometry says? -/
def standsB (b l i a c d e f g : Int) : Bool := decide (Fine b l i ∧ a = 1 ∧ c = 1 + l ∧ d = nodeB i ∧ e = bitsAt l i ∧ f = bitsB b ∧ g = dataAt b l i)
theorem heap_kept {w w' : World} {g : Nat} {o : Obj} (h : w.heap[g]? = some o) (hb : Below w.heap.size w w') : w'.heap[g]? = some o :=
  (hb.block g (Array.getElem?_eq_some_iff.1 h).1).trans h
theorem below_next {w w1 w2 : World} (h : Below w.heap.size w w1) (hb : Below w1.heap.size w1 w2) : Below w.heap.size w w2 := h.trans (hb.mono h.size)
theorem below_new (w : World) (o : Obj) : Below w.heap.size w (w.alloc o) := (Below.refl _ _).alloc (Nat.le_refl _) _

theorem wpList_loadL {ops : Array Oper} {rest : List Oper} {o : Oper} {a : Act} {w : World} {Q : Exit → Act → World → Prop} (hgd : o.guard = none) (x : Operand) (ho : o.op = .load 29 x)
    (g : Nat) (hx : a.eval x = .pointer (some ⟨g, 0, none⟩)) (cs : Array Value) (hs : cs.size = 9) (hg : w.heap[g]? = some (.cells cs 29))
    (h : wpList Try.prog ops Q rest (a.put o.dst (.agg cs)) w) : wpList Try.prog ops Q (o :: rest) a w :=
  wpList_load_row hgd 29 x ho g hx 29 cs (0, 0) _ hg Try.underlying29 rfl (by rw [hs]; exact size25L) h

theorem lay_cells {w : World} {h0 : Nat} {b l i a c d e f g : Int} (h : w.heap[h0]? = some (.cells (lay9 b l i a c d e f g) 29)) :
    w.cell? ⟨h0, 0, none⟩ = some (.int .i64 b) ∧ w.cell? ⟨h0, 1, none⟩ = some (.int .i64 l) ∧ w.cell? ⟨h0, 2, none⟩ = some (.int .i64 i) ∧ w.cell? ⟨h0, 3, none⟩ = some (.int .i64 a) ∧ w.cell? ⟨h0, 4, none⟩ = some (.int .i64 c) ∧ w.cell? ⟨h0, 5, none⟩ = some (.int .i64 d) ∧ w.cell? ⟨h0, 6, none⟩ = some (.int .i64 e) ∧ w.cell? ⟨h0, 7, none⟩ = some (.int .i64 f) ∧ w.cell? ⟨h0, 8, none⟩ = some (.int .i64 g) ∧ h0 < w.heap.size := by
  refine ⟨?_, ?_, ?_, ?_, ?_, ?_, ?_, ?_, ?_, (Array.getElem?_eq_some_iff.1 h).1⟩ <;> (rw [cell_of_row w h0 _ _ 29 _ h]; rfl)
end Go.Proofs.YtlcdpmjdnihocaaH.H
/- head's own look at a layout: is it just what its geometry says; for every layout. -/
namespace Go.Proofs.YtlcdpmjdnihocaaH.H
open Go.RowKit
set_option maxRecDepth 20000 in
set_option maxHeartbeats 400000 in
theorem hstands_fine (b l i a c d e f g : Int) (w : World) (hb : I64 b) (hf : Fine b l i) :
    Calls Try.prog 47 #[.agg (lay9 b l i a c d e f g)] w fun e' w' => e' = .returned (.bool (standsB b l i a c d e f g)) ∧ Below w.heap.size w w' := by
  have hc := fun w => of_any b l i w hb
  rw [show ofV b l i = layV b l i from if_pos hf, show ofE b l i = 0 from if_pos hf] at hc
  have HF : Hid (Fine b l i) := hf
  clear hf
  unfold layV at hc
  have e1 : ∀ (w : World), (w.alloc (.cells (lay9 b l i a c d e f g) 29)).heap[w.heap.size]? = some (.cells (lay9 b l i a c d e f g) 29) := fun w => heap_alloc_new _ _
  have e2 := fun (W1 : World) (h : W1.heap[w.heap.size]? = some (.cells (lay9 b l i a c d e f g) 29)) => lay_cells h
  unfold lay9 at *
  go_enter Try.func47, Try.ntmps47
  go_wp2_with (first | (go_at_call 37; fail))
  refine (hc _).mono ?_
  rintro e' W1 ⟨rfl, hb1⟩
  have h1 := heap_kept (e1 w) hb1
  have HB : Hid (Below w.heap.size w W1) := below_next (below_new _ _) hb1
  obtain ⟨c0, c1, c2, c3, c4, c5, c6, c7, c8, hlt⟩ := e2 W1 h1
  clear hb1 hc e1 h1 e2
  go_wp2
  all_goals
    go_ret
    refine ⟨ret_bool ?_, bel_al HB.out _⟩
    clear c0 c1 c2 c3 c4 c5 c6 c7 c8
    first
      | exact (show true = standsB b l i a c d e f g from (decide_eq_true ⟨HF.out, by omega, by omega, by omega, by omega, by omega, by omega⟩).symm)
      | exact (show false = standsB b l i a c d e f g from (decide_eq_false fun ⟨_, q1, q2, q3, q4, q5, q6⟩ => by omega).symm)

set_option maxRecDepth 20000 in
set_option maxHeartbeats 400000 in
theorem hstands_not (b l i a c d e f g : Int) (w : World) (hb : I64 b) (hf : ¬ Fine b l i) :
    Calls Try.prog 47 #[.agg (lay9 b l i a c d e f g)] w fun e' w' => e' = .returned (.bool (standsB b l i a c d e f g)) ∧ Below w.heap.size w w' := by
  have hc := fun w => of_any b l i w hb
  rw [show ofV b l i = layZ from if_neg hf, show ofE b l i = 2 from if_neg hf] at hc
  have HF : Hid (¬ Fine b l i) := hf
  clear hf
  unfold layZ at hc
  unfold lay9 at *
  go_enter Try.func47, Try.ntmps47
  go_wp2_with (first | (go_at_call 37; fail))
  refine (hc _).mono ?_
  rintro e' W1 ⟨rfl, hb1⟩
  have HB : Hid (Below w.heap.size w W1) := below_next (below_new _ _) hb1
  clear hb1 hc
  go_wp2
  go_ret
  exact ⟨ret_bool (show false = standsB b l i a c d e f g from (decide_eq_false fun q => HF.out q.1).symm), bel_al HB.out _⟩
theorem hstands_any (b l i a c d e f g : Int) (w : World) (hb : I64 b) :
    Calls Try.prog 47 #[.agg (lay9 b l i a c d e f g)] w fun e' w' => e' = .returned (.bool (standsB b l i a c d e f g)) ∧ Below w.heap.size w w' := by
  by_cases hf : Fine b l i
  · exact hstands_fine b l i a c d e f g w hb hf
  · exact hstands_not b l i a c d e f g w hb hf
end Go.Proofs.YtlcdpmjdnihocaaH.H

/- Lists of numbers in memory, held against each other; no condition. -/
namespace Go.Proofs.YtlcdpmjdnihocaaH.H
open Go.RowKit Go.Maps
/-- Numbers that lie in memory. -/
def IntsAt (w : World) (p : Option Addr) (zs : List Int) : Prop := 0 < zs.length → ∃ b off, p = some ⟨b, off, none⟩ ∧ b < w.heap.size ∧ ∀ j x, zs[j]? = some x → w.cell? ⟨b, off + j, none⟩ = some (.int .i64 x)
theorem ints_of_row {w : World} {base : Nat} {v : Value} {zs : List Int} (h : w.ownsRow base 3 1 v zs.length (zs.map (Value.int .i64))) : ∃ p c, v = .slice p zs.length c ∧ IntsAt w p zs ∧ zs.length ≤ c ∧ ∀ b off, p = some ⟨b, off, none⟩ → base ≤ b := by
  rcases h.2 with ⟨h1, h2⟩ | ⟨g, cap, cur, h1, hg, hh, hc, _⟩
  · exact ⟨none, 0, by rw [h1, h2], fun q => by omega, by omega, fun _ _ q => by cases q⟩
  · refine ⟨_, cap, h1, fun _ => ⟨g, 0, rfl, (h.lt g (by rw [h1]; rfl)).2, fun j x hx => ?_⟩, hc, fun b off q => by injection q with q; injection q with q1; omega⟩
    have q := h.cells (g := g) (by rw [h1]; rfl) j (.int .i64 x) (by rw [List.getElem?_map, hx]; rfl)
    rw [Go.WideShapes.add_plain] at q
    exact q
theorem IntsAt.later {w W : World} {p : Option Addr} {l : List Int} (h : IntsAt w p l) (hb : Below w.heap.size w W) : IntsAt W p l := fun h0 => by
  obtain ⟨b, off, h1, h2, h3⟩ := h h0
  exact ⟨b, off, h1, Nat.lt_of_lt_of_le h2 hb.size, fun j x hx => (hb.cell (p := ⟨b, off + j, none⟩) h2).trans (h3 j x hx)⟩
theorem belowN {B : Nat} {w W : World} (h : Below B w W) (q : Nat) : Below B w (W.drewN q) := h.trans ⟨rfl, rfl, rfl, Nat.le_refl _, fun _ _ => rfl⟩
end Go.Proofs.YtlcdpmjdnihocaaH.H
/- May a header have these targets: head's own look, with a set of those that were met; on a layout whose log has 32 to 256 blocks. -/
namespace Go.Proofs.YtlcdpmjdnihocaaH.H
open Go.RowKit Go.Maps
/-- At most m targets, each from lo on and below hi, none twice. -/
abbrev MayP (lo hi m : Int) (ts : List Int) : Prop := (ts.length : Int) ≤ m ∧ (∀ t ∈ ts, lo ≤ t ∧ t < hi) ∧ ts.Nodup
def mayB (lo hi m : Int) (ts : List Int) : Bool := decide (MayP lo hi m ts)
abbrev WfI (ts : List Int) : Prop := ∀ t ∈ ts, (Lit.int .i64 t).wf = true
theorem lawK : Keyed Try.prog 3 := int_keyed Try.underlying3
theorem zero70 (w : World) : (zeroValue 114).run Try.prog w = .ok (.agg #[]) w := by kernel_rfl
def Sd (ts : List Int) : DataW Unit := setOf (.agg []) (ts.map (Lit.int .i64))
theorem any_int (x : Int) : ∀ l : List Int, l.any ((fun y : Lit => y.sameKey (.int .i64 x)) ∘ Lit.int .i64) = l.contains x
  | [] => rfl
  | a :: r => by
    rw [List.any_cons, List.contains_cons, any_int x r]
    congr 1
    show decide (IntKind.i64 = IntKind.i64 ∧ a = x) = (x == a)
    by_cases e : a = x
    · subst e
      simp
    · have e' : ¬ x = a := fun h => e h.symm
      simp [e, e']
theorem has_Sd (ts : List Int) (x : Int) : Maps.has (Sd ts) (.int .i64 x) = ts.contains x := by
  unfold Sd
  rw [has_setOf _ _ _ (fun y hy => by obtain ⟨_, _, rfl⟩ := List.mem_map.1 hy; trivial), List.any_map]
  exact any_int x _
theorem Sd_snoc (ts : List Int) (x : Int) : Sd (ts ++ [x]) = (Sd ts).put (.int .i64 x) (.agg []) := by
  unfold Sd
  rw [List.map_append]
  exact setOf_snoc _ _ _
theorem makeHint (n : Nat) (w : World) : (Instr.makeMap 113 (some (.int .i64 (n : Int)))).run Try.prog w = .ok (.map (some w.heap.size)) (w.alloc (.map #[] 0)) := by
  simp [Instr.makeMap, run_underlying Try.underlying113, go_sem]
set_option maxRecDepth 20000 in
theorem most_any (b l i a c d e f g : Int) (w : World) (hl : 32 ≤ l ∧ l ≤ 256) :
    Calls Try.prog 70 #[.agg (lay9 b l i a c d e f g)] w fun e' w' => e' = .returned (.int .i64 (l - 1)) ∧ Below w.heap.size w w' := by
  unfold lay9
  go_enter Try.func70, Try.ntmps70
  go_wp2
  go_ret
  refine ⟨?_, below_new _ _⟩
  congr 2
set_option maxRecDepth 20000 in
set_option maxHeartbeats 2000000 in
theorem may_any (b l i a c d e f g : Int) (ts : List Int) (p : Option Addr) (cap : Nat) (w : World) (hl : 32 ≤ l ∧ l ≤ 256) (hlen : ts.length < 9223372036854775807) (hts : IntsAt w p ts) (hwf : WfI ts) :
    Calls Try.prog 48 #[.agg (lay9 b l i a c d e f g), .slice p ts.length cap] w fun e' w' => e' = .returned (.bool (mayB c b (l - 1) ts)) ∧ Below w.heap.size w w' := by
  have hc := fun w => most_any b l i a c d e f g w hl
  have hmm := makeHint
  have e1 : (w.alloc (.cells (lay9 b l i a c d e f g) 29)).heap[w.heap.size]? = some (.cells (lay9 b l i a c d e f g) 29) := heap_alloc_new _ _
  have e2 := fun (W1 : World) (h : W1.heap[w.heap.size]? = some (.cells (lay9 b l i a c d e f g) 29)) => lay_cells h
  obtain ⟨n, hn⟩ : ∃ n, ts.length = n := ⟨_, rfl⟩
  have HT : Hid (IntsAt w p ts ∧ WfI ts ∧ ts.length = n) := ⟨hts, hwf, hn⟩
  rw [hn]
  rw [hn] at hlen
  clear hts hwf hn
  obtain ⟨m, hm⟩ : ∃ m, m = l - 1 := ⟨_, rfl⟩
  have hm2 : 27 ≤ m ∧ m ≤ 255 := by omega
  rw [← hm]
  simp only [← hm] at hc
  clear hm hl
  by_cases hbig : (n : Int) > m
  · have er : mayB c b m ts = false := decide_eq_false fun q => by have := q.1; have := HT.out.2.2; omega
    rw [er]
    have g0 : decide (m < (n : Int)) = true := decide_eq_true hbig
    unfold lay9 at *
    go_enter Try.func48, Try.ntmps48
    go_wp2_with (first | (go_at_call 70; fail))
    refine (hc _).mono ?_
    rintro e' W1 ⟨rfl, hb1⟩
    have HB : Hid (Below w.heap.size w W1) := below_next (below_new _ _) hb1
    clear hb1 hc e1 e2 hmm
    go_wp2
    go_ret
    exact ⟨rfl, HB.out⟩
  · have g0 : decide (m < (n : Int)) = false := decide_eq_false hbig
    generalize hq : mayB c b m ts = res
    have HQ : Hid (mayB c b m ts = res) := hq
    clear hq
    unfold lay9 at *
    go_enter Try.func48, Try.ntmps48
    go_wp2_with (first | (go_at_call 70; fail))
    refine (hc _).mono ?_
    rintro e' W1 ⟨rfl, hb1⟩
    have HB : Hid (Below w.heap.size w W1 ∧ W1.heap[w.heap.size]? = some (.cells #[.int .i64 b, .int .i64 l, .int .i64 i, .int .i64 a, .int .i64 c, .int .i64 d, .int .i64 e, .int .i64 f, .int .i64 g] 29) ∧ w.heap.size < W1.heap.size) :=
      ⟨below_next (below_new _ _) hb1, heap_kept e1 hb1, by have := hb1.size; simp at this; omega⟩
    clear hb1 hc e1
    go_wp2
    go_loopw [20] (fun s20 wr => ∃ k : Nat, k ≤ n ∧ s20 = .int .i64 k ∧ Hid (wr.ownsMap Try.prog 3 unitElem W1.heap.size k (Sd (ts.take k))) ∧ Hid (Below W1.heap.size W1 wr) ∧ Hid ((∀ t ∈ ts.take k, c ≤ t ∧ t < b) ∧ (ts.take k).Nodup))
      (fun s20 _ => n - (intOf s20).toNat)
    case atStart => exact ⟨0, by omega, rfl, World.ownsMap_made _ _ _ _, below_new _ _, by simp; exact trivial⟩
    case round =>
      obtain ⟨k, hk, rfl, Hown, HW, HG⟩ := hrel
      by_cases hk2 : (k : Int) < n
      · obtain ⟨hts, hwf, hn⟩ := HT.out
        have hx : ts[k]? = some ts[k] := List.getElem?_eq_getElem (by omega)
        have htk : ts.take (k + 1) = ts.take k ++ [ts[k]] := by rw [List.take_add_one, hx]; rfl
        have hmem : ts[k] ∈ ts := List.getElem_mem _
        have hxw := hwf _ hmem
        obtain ⟨b1, o1, rfl, l1, C1⟩ := hts (by omega)
        generalize ts[k] = x at hx htk hmem hxw
        have hs1 := HB.out.1.size
        have q1 : wr.cell? ⟨b1, o1 + k, none⟩ = some (.int .i64 x) := (HW.out.cell (p := ⟨b1, o1 + k, none⟩) (by show b1 < W1.heap.size; omega)).trans ((HB.out.1.cell (p := ⟨b1, o1 + k, none⟩) l1).trans (C1 k x hx))
        obtain ⟨c0, c1, c2, c3, c4, c5, c6, c7, c8, hlt⟩ := e2 wr (heap_kept HB.out.2.1 HW.out)
        have hkey : keyOf Try.prog 3 (.int .i64 x) = some (.int .i64 x) := keyOf_int_mk Try.underlying3 hxw
        have hhas := has_Sd (ts.take k) x
        have hown := Hown.out
        have hr : (x ∈ ts.take k ∨ x < c ∨ b ≤ x) → res = false := fun h => by
          rw [← HQ.out]
          refine decide_eq_false fun q => ?_
          rcases h with h | h | h
          · have q3 := q.2.2
            rw [← List.take_append_drop (k + 1) ts, htk] at q3
            exact (List.nodup_append.1 (List.nodup_append.1 q3).1).2.2 x h x (by simp) rfl
          · have := q.2.1 x hmem; omega
          · have := q.2.1 x hmem; omega
        have hD : Sd (ts.take (k + 1)) = (Sd (ts.take k)).put (.int .i64 x) (.agg []) := by rw [htk]; exact Sd_snoc _ _
        generalize Sd (ts.take k) = D at *
        have HX : Hid (ts.take (k + 1) = ts.take k ++ [x] ∧ Sd (ts.take (k + 1)) = D.put (.int .i64 x) (.agg [])) := ⟨htk, hD⟩
        have HWB : Hid (Below w.heap.size w wr) := HB.out.1.trans (HW.out.mono hs1)
        clear e2 hx htk hmem hxw hwf hts hn C1 hD
        by_cases h1 : (ts.take k).contains x = true
        · have hres := hr (.inl (List.contains_iff_mem.1 h1))
          rw [h1] at hhas
          subst hres
          clear hr h1 HQ
          go_wp2_with (first
            | (at_lookup; refine wpList_lookup_own_unit _ rfl _ _ 113 rfl 3 114 lawK Try.underlying113 (zero70 _) W1.heap.size k _ rfl hown _ _ rfl hkey ?_; rw [hhas])
            | go_in)
          go_ret
          exact ⟨rfl, HWB.out.alloc HWB.out.size _⟩
        · have h1 : (ts.take k).contains x = false := by simpa using h1
          rw [h1] at hhas
          by_cases h2 : x < c ∨ b ≤ x
          · have hres := hr (.inr h2)
            subst hres
            clear hr h1 HQ
            rcases h2 with h2 | h2
            · have g2 : decide (x < c) = true := decide_eq_true h2
              clear h2
              go_wp2_with (first
                | (at_lookup; refine wpList_lookup_own_unit _ rfl _ _ 113 rfl 3 114 lawK Try.underlying113 (zero70 _) W1.heap.size k _ rfl hown _ _ rfl hkey ?_; rw [hhas])
                | go_in)
              go_ret
              exact ⟨rfl, HWB.out.alloc HWB.out.size _⟩
            · have g3 : decide (b ≤ x) = true := decide_eq_true h2
              clear h2
              go_wp2_with (first
                | (at_lookup; refine wpList_lookup_own_unit _ rfl _ _ 113 rfl 3 114 lawK Try.underlying113 (zero70 _) W1.heap.size k _ rfl hown _ _ rfl hkey ?_; rw [hhas])
                | go_in)
              all_goals
                go_ret
                exact ⟨rfl, HWB.out.alloc HWB.out.size _⟩
          · have g2 : decide (x < c) = false := decide_eq_false (by omega)
            have g3 : decide (b ≤ x) = false := decide_eq_false (by omega)
            have HG2 : Hid ((∀ t ∈ ts.take (k + 1), c ≤ t ∧ t < b) ∧ (ts.take (k + 1)).Nodup) := by
              have h1' : x ∉ ts.take k := fun q => by rw [List.contains_iff_mem.2 q] at h1; cases h1
              rw [show ts.take (k + 1) = ts.take k ++ [x] from HX.out.1]
              refine ⟨fun t ht => ?_, List.nodup_append.2 ⟨HG.out.2, by simp, fun y hy z hz e => ?_⟩⟩
              · rcases List.mem_append.1 ht with ht | ht
                · exact HG.out.1 t ht
                · rw [List.mem_singleton.1 ht]; omega
              · rw [List.mem_singleton.1 hz] at e; exact h1' (e ▸ hy)
            clear hr h1 h2
            have hkm : k < maxLen := by unfold maxLen; omega
            go_wp2_with (first
              | (at_lookup; refine wpList_lookup_own_unit _ rfl _ _ 113 rfl 3 114 lawK Try.underlying113 (zero70 _) W1.heap.size k _ rfl hown _ _ rfl hkey ?_; rw [hhas])
              | (at_mapUpdate; refine wpList_mapUpdate_own _ rfl _ _ _ 113 rfl 3 114 lawK Try.underlying113 (unitElem (H := Unit)) W1.heap.size k _ rfl (hown.alloc _) hkm _ _ _ rfl rfl hkey _ [] unitElem_mk ?_; intro w1 hown1 hgrow1)
              | go_in)
            go_roundw
            case rel =>
              refine ⟨k + 1, by omega, by go_num, ?_, ?_, HG2.out⟩
              · have := HX.out.2
                rw [this]
                exact hown1
              · exact (HW.out.alloc HW.out.size _).grown hgrow1 (by have := HW.out.size; simp; omega) (fun j hj => by cases hj; exact Nat.le_refl _)
            case measure => simp [intOf]; omega
      · obtain rfl : k = n := by omega
        have hres : res = true := by
          rw [← HQ.out]
          have hn := HT.out.2.2
          have hg := HG.out
          rw [List.take_of_length_le (by omega)] at hg
          exact decide_eq_true ⟨by omega, hg.1, hg.2⟩
        subst hres
        have HWB : Hid (Below w.heap.size w wr) := HB.out.1.trans (HW.out.mono HB.out.1.size)
        clear HQ e2
        go_wp2
        go_ret
        exact ⟨rfl, HWB.out⟩
end Go.Proofs.YtlcdpmjdnihocaaH.H

/- The document's own U16, U32: the number of the bytes at a place, or nought; for every block of bytes and every place. -/
namespace Go.Proofs.YtlcdpmjdnihocaaH.H
open Go.RowKit

theorem numN_bd3 (f : Nat → Int) (hf : ∀ i, 0 ≤ f i ∧ f i ≤ 255) (m k : Nat) (h : m ≤ 3) : 0 ≤ numN f k m ∧ numN f k m < 16777216 := by
  have hb := numN_bd f hf m k
  have hm : m = 0 ∨ m = 1 ∨ m = 2 ∨ m = 3 := by omega
  rcases hm with rfl | rfl | rfl | rfl <;> simp at hb <;> omega
theorem numN_step (f : Nat → Int) (k n j : Nat) (hj : j + 1 ≤ n) : numN f (k + j) (n - j) = f (k + j) + 256 * numN f (k + (j + 1)) (n - (j + 1)) := by
  rw [show n - j = (n - (j + 1)) + 1 by omega, numN, Nat.add_assoc]

end Go.Proofs.YtlcdpmjdnihocaaH.H
/- The document's own SetU16, SetU32: the block in which a number is laid; for every block, place and number. -/
namespace Go.Proofs.YtlcdpmjdnihocaaH.H
open Go.RowKit

theorem putN_step (g : Nat → Int) (k n i : Nat) (u : Int) (hi : i + 1 ≤ n) : putN g (k + i) u (n - i) = putN (upd g (k + i) (u % 256)) (k + (i + 1)) (u / 256) (n - (i + 1)) := by
  rw [show n - i = (n - (i + 1)) + 1 by omega, putN, Nat.add_assoc]

theorem later1 {w W : World} {o o1 : Obj} (hb : Below ((w.alloc o).alloc o1).heap.size ((w.alloc o).alloc o1) W) : W.heap[w.heap.size + 1]? = some o1 :=
  (hb.block (w.heap.size + 1) (by simp)).trans (heap_alloc2_new _ _ _)
theorem later2 {w W : World} {o o1 : Obj} (hb : Below ((w.alloc o).alloc o1).heap.size ((w.alloc o).alloc o1) W) (g : Nat) (hg : w.heap.size ≤ g) (cs : Array Value) : Below w.heap.size w (W.setRow g cs) :=
  below_setRow ((((Below.refl _ _).alloc (Nat.le_refl _) _).alloc (by simp) _).trans (hb.mono (by simp; omega))) hg cs
end Go.Proofs.YtlcdpmjdnihocaaH.H
/- A block as numbers of four bytes, one behind the other; plain. -/
namespace Go.Proofs.YtlcdpmjdnihocaaH.H
open Go.RowKit
/-- The block that begins with these numbers, noughts behind them. -/
def wordF (xs : List Int) : Nat → Int := fun j => xs.getD (j / 4) 0 / 256 ^ (j % 4) % 256
abbrev U32 (x : Int) : Prop := 0 ≤ x ∧ x < 4294967296
abbrev AllU (xs : List Int) : Prop := ∀ x ∈ xs, U32 x
theorem getD_u {xs : List Int} (h : AllU xs) (i : Nat) : U32 (xs.getD i 0) := by
  rw [List.getD_eq_getElem?_getD]
  by_cases hi : i < xs.length
  · rw [List.getElem?_eq_getElem hi]; exact h _ (List.getElem_mem _)
  · rw [List.getElem?_eq_none (by omega)]; exact ⟨by decide, by decide⟩
theorem wordF_byte (xs : List Int) (j : Nat) : 0 ≤ wordF xs j ∧ wordF xs j ≤ 255 := by
  unfold wordF; omega
theorem wordF_nil : wordF [] = nought := by
  funext j; unfold wordF nought; simp
theorem wordF_at (xs : List Int) (i r : Nat) (hr : r < 4) : wordF xs (4 * i + r) = xs.getD i 0 / 256 ^ r % 256 := by
  unfold wordF
  rw [show (4 * i + r) / 4 = i by omega, show (4 * i + r) % 4 = r by omega]
theorem wordF_snoc (xs : List Int) (x : Int) (hx : U32 x) (hl : xs.length < 256) : put (wordF xs) ((4 * xs.length : Nat) : Int) 4 x = wordF (xs ++ [x]) := by
  rw [put_in _ _ _ _ (by omega), put4 _ _ _ hx]
  funext j
  obtain ⟨i, r, hr, rfl⟩ : ∃ i r, r < 4 ∧ j = 4 * i + r := ⟨j / 4, j % 4, by omega, by omega⟩
  rw [wordF_at _ _ _ hr]
  have hx0 := hx.1
  have hx1 := hx.2
  by_cases hi : i = xs.length
  · subst hi
    have e : (xs ++ [x]).getD xs.length 0 = x := by simp
    rw [e]
    unfold upd
    have : r = 0 ∨ r = 1 ∨ r = 2 ∨ r = 3 := by omega
    rcases this with rfl | rfl | rfl | rfl
    · rw [if_neg (by omega), if_neg (by omega), if_neg (by omega), if_pos (by omega)]; simp
    · rw [if_neg (by omega), if_neg (by omega), if_pos (by omega)]; simp
    · rw [if_neg (by omega), if_pos (by omega)]; simp
    · rw [if_pos (by omega)]
      show x / 16777216 = x / 16777216 % 256
      omega
  · have e : (xs ++ [x]).getD i 0 = xs.getD i 0 := by
      rw [List.getD_eq_getElem?_getD, List.getD_eq_getElem?_getD]
      by_cases h : i < xs.length
      · rw [List.getElem?_append_left h]
      · rw [List.getElem?_eq_none (by simp; omega), List.getElem?_eq_none (by omega)]
    rw [e]
    unfold upd
    rw [if_neg (by omega), if_neg (by omega), if_neg (by omega), if_neg (by omega)]
    exact wordF_at _ _ _ hr
theorem wordF_read (xs : List Int) (h : AllU xs) (i : Nat) : numN (wordF xs) (4 * i) 4 = xs.getD i 0 := by
  rw [num4, show 4 * i = 4 * i + 0 by omega, wordF_at _ _ 0 (by omega), show 4 * i + 0 + 1 = 4 * i + 1 by omega, show 4 * i + 0 + 2 = 4 * i + 2 by omega, show 4 * i + 0 + 3 = 4 * i + 3 by omega, wordF_at _ _ 1 (by omega), wordF_at _ _ 2 (by omega), wordF_at _ _ 3 (by omega)]
  have := getD_u h i
  generalize xs.getD i 0 = x at *
  obtain ⟨h0, h1⟩ := this
  show x / 1 % 256 + 256 * (x / 256 % 256) + 65536 * (x / 65536 % 256) + 16777216 * (x / 16777216 % 256) = x
  omega
/-- The targets that a block says. -/
def tgts (f : Nat → Int) (n : Nat) : List Int := (List.range n).map fun i => numN f (4 * (i + 1)) 4
theorem tgts_len (f : Nat → Int) (n : Nat) : (tgts f n).length = n := by simp [tgts]
theorem tgts_u (f : Nat → Int) (hf : ∀ i, 0 ≤ f i ∧ f i ≤ 255) (n : Nat) : AllU (tgts f n) := fun x hx => by
  obtain ⟨i, _, rfl⟩ := List.mem_map.1 hx
  exact numN_bd f hf 4 _
theorem tgts_get (f : Nat → Int) (n i : Nat) (h : i < n) : (tgts f n)[i]? = some (numN f (4 * (i + 1)) 4) := by simp [tgts, h]
theorem u_wf {x : Int} (h : U32 x) : (Lit.int .i64 x).wf = true := WalkArith.wf_i64 (by omega)
theorem allU_wf {xs : List Int} (h : AllU xs) : WfI xs := fun t ht => u_wf (h t ht)
/-- The header's block. -/
def headF (ts : List Int) : Nat → Int := wordF ((ts.length : Int) :: ts)
theorem head_tgts (ts zs : List Int) (h : AllU ts) (hz : AllU zs) (hl : (ts.length : Int) < 4294967296) : tgts (wordF ((ts.length : Int) :: (ts ++ zs))) ts.length = ts := by
  refine List.ext_getElem? fun i => ?_
  by_cases hi : i < ts.length
  · rw [tgts_get _ _ _ hi, wordF_read _ (fun x hx => by
      rcases List.mem_cons.1 hx with rfl | hx
      · exact ⟨by omega, hl⟩
      · rcases List.mem_append.1 hx with hx | hx
        · exact h x hx
        · exact hz x hx)]
    rw [List.getD_eq_getElem?_getD, List.getElem?_cons_succ, List.getElem?_append_left hi, List.getElem?_eq_getElem hi]
    rfl
  · rw [List.getElem?_eq_none (by rw [tgts_len]; omega), List.getElem?_eq_none (by omega)]
end Go.Proofs.YtlcdpmjdnihocaaH.H
/- Encode of head: the header's block, or none; for every layout and every list of targets. -/
namespace Go.Proofs.YtlcdpmjdnihocaaH.H
open Go.RowKit
theorem load30L (w : World) (g : Nat) (f : Nat → Int) (h : w.heap[g]? = some (.cells (blk f) 46)) : (loadVar 46 ⟨g, 0, none⟩).run Try.prog w = .ok (.agg (blk f)) w :=
  run_loadVar_row w g 46 46 (blk f) (0, 0) _ h Try.underlying46 rfl (by rw [blk_size]; exact size25)
theorem wpOrd_loadB {ops : Array Oper} {Q : Exit → Act → World → Prop} {S : World → Prop} {r : List (Bool × Oper)} {a : Act} {w : World} {o : Oper} (hw : Region.wanted o (yielded ops a.tmps) = true)
    (x : Operand) (ho : o.op = .load 46 x) (g : Nat) (hx : a.eval x = .pointer (some ⟨g, 0, none⟩)) (f : Nat → Int) (hg : ∀ u, S u → u.heap[g]? = some (.cells (blk f) 46))
    (h : wpOrd Try.prog ops Q S r (a.put o.dst (.agg (blk f))) w) : wpOrd Try.prog ops Q S ((true, o) :: r) a w := by
  refine wpOrd_yield hw (fun u hu => ?_) h
  unfold execOp
  simp only [ho, hx, Instr.loadAt, Instr.sureAddr, Sem.run_bind, Sem.run_pure, Result.andThen_ok, run_loadVar_row u g 46 46 (blk f) (0, 0) _ (hg u hu) Try.underlying46 rfl (by rw [blk_size]; exact size25)]
theorem wpOrd_loadF {ops : Array Oper} {Q : Exit → Act → World → Prop} {S : World → Prop} {r : List (Bool × Oper)} {a : Act} {w : World} {o : Oper} (hw : Region.wanted o (yielded ops a.tmps) = true)
    (x : Operand) (ho : o.op = .load 46 x) (g : Nat) (hx : a.eval x = .pointer (some ⟨g, 0, none⟩)) (f : Nat → Int) (hg : w.heap[g]? = some (.cells (blk f) 46))
    (h : S w ∧ wpOrd Try.prog ops Q S r (a.put o.dst (.agg (blk f))) w) : wpOrd Try.prog ops Q S ((false, o) :: r) a w := by
  simp only [wpOrd, hw, if_true]
  unfold Oper.wp execOp
  simp only [ho, hx, Instr.loadAt, Instr.sureAddr, Sem.run_bind, Sem.run_pure, Result.andThen_ok, run_loadVar_row w g 46 46 (blk f) (0, 0) _ hg Try.underlying46 rfl (by rw [blk_size]; exact size25)]
  exact h
theorem wpOrd_storeB {ops : Array Oper} {Q : Exit → Act → World → Prop} {S : World → Prop} {r : List (Bool × Oper)} {a : Act} {w : World} {o : Oper} (hw : Region.wanted o (yielded ops a.tmps) = true)
    (x y : Operand) (ho : o.op = .store 46 x y) (g : Nat) (f f0 : Nat → Int) (hx : a.eval x = .pointer (some ⟨g, 0, none⟩)) (hy : a.eval y = .agg (blk f)) (hg : w.heap[g]? = some (.cells (blk f0) 46))
    (h : S (w.setRow g (blk f)) ∧ wpOrd Try.prog ops Q S r (a.put o.dst undef) (w.setRow g (blk f))) : wpOrd Try.prog ops Q S ((false, o) :: r) a w := by
  simp only [wpOrd, hw, if_true]
  unfold Oper.wp execOp
  simp only [ho, hx, hy, Instr.storeAt, Instr.sureAddr, Sem.run_bind, Sem.run_pure, Result.andThen_ok, run_storeVar_row w g 46 46 (blk f0) (blk f) hg (by rw [blk_size]; exact size25) (by rw [blk_size, blk_size]) (blk_one f)]
  exact h
theorem place_any (k : Int) (w : World) (h : 0 ≤ k ∧ k ≤ 300) : Calls Try.prog 50 #[.int .i64 k] w fun e w' => e = .returned (.int .i64 (4 * (k + 1))) ∧ w' = w := by
  go_enter Try.func50, Try.ntmps50
  go_wp2
  go_ret
  exact ⟨by congr 2, rfl⟩
theorem heap3o (w : World) (A B C : Obj) : (((w.alloc A).alloc B).alloc C).heap[w.heap.size]? = some A := by
  rw [heap_alloc_old _ _ (by simp; omega)]; exact heap_alloc2_old _ _ _
theorem cell_one {w : World} {g : Nat} {v : Value} {t : TypeId} (h : w.heap[g]? = some (.cells #[v] t)) : w.cell? ⟨g, 0, none⟩ = some v := by
  rw [cell_of_row w g _ _ t _ h]; rfl
theorem below3 (w : World) (A B C : Obj) : Below w.heap.size w (((w.alloc A).alloc B).alloc C) := bel_al (bel_al (below_new _ _) _) _
set_option maxRecDepth 20000 in
set_option maxHeartbeats 400000 in
theorem enc_not (b l i a c d e f g : Int) (v : Value) (w : World) (hb : I64 b) (hs : standsB b l i a c d e f g = false) :
    Calls Try.prog 40 #[.agg (lay9 b l i a c d e f g), .agg #[v]] w fun e' w' => e' = .returned (.tuple #[.agg (blk nought), .int .i64 2]) ∧ Below w.heap.size w w' := by
  have hc := fun w => hstands_any b l i a c d e f g w hb
  rw [hs] at hc
  clear hs
  have z25 := zero25
  have hsz : (lay9 b l i a c d e f g).size = 9 := rfl
  generalize lay9 b l i a c d e f g = L at *
  go_enter Try.func40, Try.ntmps40
  go_wp2_with (first | refine wpList_loadL rfl _ rfl _ rfl _ hsz (heap3o _ _ _ _) ?_ | (go_at_call 47; fail))
  refine (hc _).mono ?_
  rintro e' W1 ⟨rfl, hb1⟩
  have h2 := heap_kept (heap3n w _ _ _) hb1
  have HB : Hid (Below w.heap.size w W1) := below_next (below3 _ _ _ _) hb1
  clear hb1 hc
  go_wp2_with (first | refine wpList_store25 rfl _ _ rfl _ _ rfl rfl _ h2 ?_)
  refine retCT rfl (w.heap.size + 2) _ rfl (load30L _ _ _ (setRow_heap _ _ _ _ _ _ h2)) rfl ⟨rfl, below_setRow HB.out (by omega) _⟩
set_option maxRecDepth 20000 in
set_option maxHeartbeats 400000 in
theorem enc_bad (b l i a c d e f g : Int) (ts : List Int) (p : Option Addr) (cap : Nat) (w : World) (hb : I64 b) (hs : standsB b l i a c d e f g = true) (hl : 32 ≤ l ∧ l ≤ 256) (hlen : ts.length < 9223372036854775807) (hts : IntsAt w p ts) (hwf : WfI ts)
    (hm : mayB c b (l - 1) ts = false) :
    Calls Try.prog 40 #[.agg (lay9 b l i a c d e f g), .agg #[.slice p ts.length cap]] w fun e' w' => e' = .returned (.tuple #[.agg (blk nought), .int .i64 4]) ∧ Below w.heap.size w w' := by
  have hc := fun w => hstands_any b l i a c d e f g w hb
  rw [hs] at hc
  have hM := fun W (h : IntsAt W p ts) => may_any b l i a c d e f g ts p cap W hl hlen h hwf
  rw [hm] at hM
  clear hs hm
  have z25 := zero25
  have hsz : (lay9 b l i a c d e f g).size = 9 := rfl
  have HT : Hid (IntsAt w p ts) := hts
  clear hts hwf
  generalize lay9 b l i a c d e f g = L at *
  have HM : Hid (∀ W, IntsAt W p ts → Calls Try.prog 48 #[.agg L, .slice p ts.length cap] W fun e' w' => e' = .returned (.bool false) ∧ Below W.heap.size W w') := hM
  clear hM
  generalize ts.length = n at *
  go_enter Try.func40, Try.ntmps40
  go_wp2_with (first | refine wpList_loadL rfl _ rfl _ rfl _ hsz (heap3o _ _ _ _) ?_ | (go_at_call 47; fail))
  refine (hc _).mono ?_
  rintro e' W1 ⟨rfl, hb1⟩
  have h0 := heap_kept (heap3o w _ _ _) hb1
  have h1 := cell_one (heap_kept (heap3 w _ _ _) hb1)
  have h2 := heap_kept (heap3n w _ _ _) hb1
  have HB : Hid (Below w.heap.size w W1) := below_next (below3 _ _ _ _) hb1
  clear hb1 hc
  go_wp2_with (first | refine wpList_loadL rfl _ rfl _ rfl _ hsz h0 ?_ | (go_at_call 48; fail))
  refine (HM.out _ (HT.out.later HB.out)).mono ?_
  rintro e' W2 ⟨rfl, hb2⟩
  have h3 := heap_kept h2 hb2
  have HB2 : Hid (Below w.heap.size w W2) := below_next HB.out hb2
  clear hb2 HM h0 h1 h2 HB
  go_wp2_with (first | refine wpList_store25 rfl _ _ rfl _ _ rfl rfl _ h3 ?_)
  refine retCT rfl (w.heap.size + 2) _ rfl (load30L _ _ _ (setRow_heap _ _ _ _ _ _ h3)) rfl ⟨rfl, below_setRow HB2.out (by omega) _⟩
end Go.Proofs.YtlcdpmjdnihocaaH.H
/- Encode of head where the header may be; no condition. -/
namespace Go.Proofs.YtlcdpmjdnihocaaH.H
open Go.RowKit
theorem MayP.u {lo hi m : Int} {ts : List Int} (h : MayP lo hi m ts) (h0 : 0 ≤ lo) (h1 : hi ≤ 4294967296) : AllU ts := fun x hx => by
  have := h.2.1 x hx
  exact ⟨by omega, by omega⟩
set_option maxRecDepth 20000 in
set_option maxHeartbeats 2000000 in
theorem enc_ok (b l i a c d e f g : Int) (ts : List Int) (p : Option Addr) (cap : Nat) (w : World) (hb : I64 b) (hs : standsB b l i a c d e f g = true) (hl : 32 ≤ l ∧ l ≤ 256) (hts : IntsAt w p ts) (hu : AllU ts) (hn : ts.length ≤ 255)
    (hm : mayB c b (l - 1) ts = true) :
    Calls Try.prog 40 #[.agg (lay9 b l i a c d e f g), .agg #[.slice p ts.length cap]] w fun e' w' => e' = .returned (.tuple #[.agg (blk (headF ts)), .int .i64 0]) ∧ Below w.heap.size w w' := by
  have hc := fun w => hstands_any b l i a c d e f g w hb
  rw [hs] at hc
  have hM := fun W (h : IntsAt W p ts) => may_any b l i a c d e f g ts p cap W hl (by omega) h (allU_wf hu)
  rw [hm] at hM
  clear hs hm
  have z25 := zero25
  have hsz : (lay9 b l i a c d e f g).size = 9 := rfl
  obtain ⟨n, hnn⟩ : ∃ n, ts.length = n := ⟨_, rfl⟩
  have HT : Hid (IntsAt w p ts ∧ AllU ts ∧ ts.length = n) := ⟨hts, hu, hnn⟩
  unfold headF
  rw [hnn] at hn hM ⊢
  clear hts hu hnn
  generalize lay9 b l i a c d e f g = L at *
  have HM : Hid (∀ W, IntsAt W p ts → Calls Try.prog 48 #[.agg L, .slice p n cap] W fun e' w' => e' = .returned (.bool true) ∧ Below W.heap.size W w') := hM
  clear hM
  have HS0 : Hid (put nought 0 4 (n : Int) = wordF [(n : Int)]) := by
    have := wordF_snoc [] (n : Int) ⟨by omega, by omega⟩ (by simp)
    rw [wordF_nil] at this
    exact this
  go_enter Try.func40, Try.ntmps40
  go_wp2_with (first | refine wpList_loadL rfl _ rfl _ rfl _ hsz (heap3o _ _ _ _) ?_ | (go_at_call 47; fail))
  refine (hc _).mono ?_
  rintro e' W1 ⟨rfl, hb1⟩
  have h0 := heap_kept (heap3o w _ _ _) hb1
  have h1 := heap_kept (heap3 w _ _ _) hb1
  have h2 := heap_kept (heap3n w _ _ _) hb1
  have HB : Hid (Below w.heap.size w W1) := below_next (below3 _ _ _ _) hb1
  clear hb1 hc
  have h1c := cell_one h1
  go_wp2_with (first | refine wpList_loadL rfl _ rfl _ rfl _ hsz h0 ?_ | (go_at_call 48; fail))
  refine (HM.out _ (HT.out.1.later HB.out)).mono ?_
  rintro e' W2 ⟨rfl, hb2⟩
  have h3 := heap_kept h2 hb2
  have h4 := heap_kept h1 hb2
  have HB2 : Hid (Below w.heap.size w W2) := below_next HB.out hb2
  clear hb2 HM h0 h1 h2 HB h1c
  have h4c := cell_one h4
  have hwr : IntKind.u32.wrap (n : Int) = n := by rw [wrap_u32]; omega
  go_wp2_with (first | (go_at_call 49; fail))
  refine (set32_any nought 0 (n : Int) _ (by omega)).mono ?_
  rintro e' W3 ⟨rfl, hb3⟩
  rw [HS0.out]
  have h5 := heap_kept h3 hb3
  have h6 := heap_kept h4 hb3
  have HB3 : Hid (Below w.heap.size w W3) := below_next HB2.out hb3
  have hlt : w.heap.size + 2 < W3.heap.size := (Array.getElem?_eq_some_iff.1 h5).1
  clear hb3 h3 h4 HB2 h4c
  have h6c := cell_one h6
  have h6d := cell_one (heap_kept h6 (below_new W3 (.cells (blk (wordF [(n : Int)])) 46)))
  go_wp2_with (first | refine wpList_store25_new rfl _ _ rfl _ _ rfl rfl ?_)
  go_loopw [28] (fun s28 wx => ∃ k : Nat, k ≤ n ∧ s28 = .int .i64 k ∧ wx.heap[W3.heap.size]? = some (.cells (blk (wordF ((n : Int) :: ts.take k))) 46) ∧ Below W3.heap.size W3 wx) (fun s28 _ => n - (intOf s28).toNat)
  case atStart => exact ⟨0, by omega, rfl, heap_alloc_new _ _, below_new _ _⟩
  case round =>
    obtain ⟨k, hk, rfl, hg, hbel⟩ := hrel
    have HW : Hid _ := hbel
    clear hbel
    by_cases hk2 : (k : Int) < n
    · obtain ⟨hts, hu, hnn⟩ := HT.out
      have hx : ts[k]? = some ts[k] := List.getElem?_eq_getElem (by omega)
      have htk : ts.take (k + 1) = ts.take k ++ [ts[k]] := by rw [List.take_add_one, hx]; rfl
      have hxu := hu _ (List.getElem_mem (by omega : k < ts.length))
      obtain ⟨b1, o1, rfl, l1, C1⟩ := hts (by omega)
      generalize ts[k] = x at hx htk hxu
      have q1 : wr.cell? ⟨b1, o1 + k, none⟩ = some (.int .i64 x) := (HW.out.cell (p := ⟨b1, o1 + k, none⟩) (by show b1 < W3.heap.size; omega)).trans ((HB3.out.cell (p := ⟨b1, o1 + k, none⟩) l1).trans (C1 k x hx))
      have hst := fun (w : World) => set32_any (wordF ((n : Int) :: ts.take k)) (4 * ((k : Int) + 1)) x w hxu
      have hpl := fun (w : World) => place_any k w (by omega)
      have hsn := wordF_snoc ((n : Int) :: ts.take k) x hxu (by simp; omega)
      rw [show (((n : Int) :: ts.take k).length : Nat) = k + 1 by simp; omega, List.cons_append, ← htk] at hsn
      rw [show 4 * ((k : Int) + 1) = ((4 * (k + 1) : Nat) : Int) by omega, hsn, show ((4 * (k + 1) : Nat) : Int) = 4 * ((k : Int) + 1) by omega] at hst
      have HST : Hid _ := hst
      have HPL : Hid _ := hpl
      have hwx : IntKind.u32.wrap x = x := by rw [wrap_u32]; omega
      generalize wordF ((n : Int) :: ts.take k) = F at *
      generalize hF' : wordF ((n : Int) :: ts.take (k + 1)) = F' at *
      have HF' : Hid _ := hF'
      clear hst hpl hsn hx htk hu hts hnn C1 hF'
      go_wp2
      refine wp_region_fork (S := fun _ => True) [1, 3, 4] 0 2 [(5, false), (6, false)] (by kernel_rfl) rfl (by kernel_rfl) (fun d _ _ _ _ h => by cases d <;> exact h) trivial ?_
      refine wpFork_yield (v := .int .i64 (k : Int)) rfl rfl (fun u _ => by simp [execOp, Act.eval]) ?_
      simp only [Act.put, List.setIfInBounds_toArray, List.set_cons_succ, List.set_cons_zero]
      refine wpFork_yield (v := .int .i64 x) rfl rfl (fun u _ => by simp [execOp, Act.eval]) ?_
      simp only [Act.put, List.setIfInBounds_toArray, List.set_cons_succ, List.set_cons_zero]
      refine wpFork_yield (v := .int .u32 x) rfl rfl (fun u _ => by go_simp) ?_
      simp only [Act.put, List.setIfInBounds_toArray, List.set_cons_succ, List.set_cons_zero]
      have hg0 : wr.drew.heap[W3.heap.size]? = some (.cells (blk F) 46) := hg
      have HBd : Hid (Below W3.heap.size W3 wr.drew) := HW.out.drew
      clear hg HW q1
      generalize wr.drew = wd at *
      refine wpFork_nil rfl rfl ?_ ?_
      · simp only [inOrd, List.getElem?_cons_zero, List.getElem?_cons_succ]
        refine wpOrd_loadF rfl _ rfl _ rfl _ hg0 ⟨trivial, ?_⟩
        simp only [Act.put, List.setIfInBounds_toArray, List.set_cons_succ, List.set_cons_zero]
        refine wpOrd_call rfl 50 _ _ rfl Try.call50 [.int .i64 (k : Int)] rfl ?_
        refine (HPL.out _).mono ?_
        rintro e' X ⟨rfl, rfl⟩
        refine ⟨_, rfl, trivial, ?_⟩
        simp only [Act.put, List.setIfInBounds_toArray, List.set_cons_succ, List.set_cons_zero]
        refine wpOrd_call rfl 49 _ _ rfl Try.call49 [.agg (blk F), .int .i64 (4 * ((k : Int) + 1)), .int .u32 x] rfl ?_
        refine (HST.out _).mono ?_
        rintro e' X ⟨rfl, hbx⟩
        refine ⟨_, rfl, trivial, ?_⟩
        simp only [Act.put, List.setIfInBounds_toArray, List.set_cons_succ, List.set_cons_zero]
        have hg1 := heap_kept hg0 hbx
        have HB1 : Hid (Below W3.heap.size W3 X) := below_next HBd.out hbx
        refine wpOrd_storeB rfl _ _ rfl W3.heap.size F' _ rfl rfl hg1 ⟨trivial, ?_⟩
        refine wpOrd_nil ?_
        have hg2 := setRow_heap X W3.heap.size (blk F) (blk F') 46 (0, 0) hg1
        have HB2' : Hid (Below W3.heap.size W3 (X.setRow W3.heap.size (blk F'))) := below_setRow HB1.out (Nat.le_refl _) _
        simp only [Act.put]
        generalize X.setRow W3.heap.size (blk F') = Y at hg2 HB2' ⊢
        clear hg1 hg0 HB1 HBd hbx HST HPL
        go_wp2
        exact ⟨⟨k + 1, by omega, by go_num, by rw [HF'.out]; exact hg2, HB2'.out⟩, by simp [intOf]; omega⟩
      · simp only [inOrd, List.getElem?_cons_zero, List.getElem?_cons_succ]
        refine wpOrd_call rfl 50 _ _ rfl Try.call50 [.int .i64 (k : Int)] rfl ?_
        refine (HPL.out _).mono ?_
        rintro e' X ⟨rfl, rfl⟩
        refine ⟨_, rfl, trivial, ?_⟩
        simp only [Act.put, List.setIfInBounds_toArray, List.set_cons_succ, List.set_cons_zero]
        refine wpOrd_loadF rfl _ rfl _ rfl _ hg0 ⟨trivial, ?_⟩
        simp only [Act.put, List.setIfInBounds_toArray, List.set_cons_succ, List.set_cons_zero]
        refine wpOrd_call rfl 49 _ _ rfl Try.call49 [.agg (blk F), .int .i64 (4 * ((k : Int) + 1)), .int .u32 x] rfl ?_
        refine (HST.out _).mono ?_
        rintro e' X ⟨rfl, hbx⟩
        refine ⟨_, rfl, trivial, ?_⟩
        simp only [Act.put, List.setIfInBounds_toArray, List.set_cons_succ, List.set_cons_zero]
        have hg1 := heap_kept hg0 hbx
        have HB1 : Hid (Below W3.heap.size W3 X) := below_next HBd.out hbx
        refine wpOrd_storeB rfl _ _ rfl W3.heap.size F' _ rfl rfl hg1 ⟨trivial, ?_⟩
        refine wpOrd_nil ?_
        have hg2 := setRow_heap X W3.heap.size (blk F) (blk F') 46 (0, 0) hg1
        have HB2' : Hid (Below W3.heap.size W3 (X.setRow W3.heap.size (blk F'))) := below_setRow HB1.out (Nat.le_refl _) _
        simp only [Act.put]
        generalize X.setRow W3.heap.size (blk F') = Y at hg2 HB2' ⊢
        clear hg1 hg0 HB1 HBd hbx HST HPL
        go_wp2
        exact ⟨⟨k + 1, by omega, by go_num, by rw [HF'.out]; exact hg2, HB2'.out⟩, by simp [intOf]; omega⟩
    · obtain rfl : k = n := by omega
      rw [List.take_of_length_le (by have := HT.out.2.2; omega)] at hg
      have h5' := (HW.out.block _ hlt).trans h5
      generalize hF : wordF ((k : Int) :: ts) = F at *
      have HF : Hid _ := hF
      clear hk HT hF
      go_wp2_with (first | refine wpList_load25 rfl _ rfl _ rfl _ hg ?_ | refine wpList_store25 rfl _ _ rfl _ _ rfl rfl _ h5' ?_)
      exact retCT rfl (w.heap.size + 2) _ rfl (load30L _ _ _ (setRow_heap _ _ _ _ _ _ h5')) rfl ⟨by rw [HF.out]; rfl, below_setRow (below_next HB3.out HW.out) (by omega) _⟩
end Go.Proofs.YtlcdpmjdnihocaaH.H
/- Writes and barriers made one behind the other until one is refused; what mkfs makes of a disk; no condition. -/
namespace Go.Proofs.YtlcdpmjdnihocaaD
open Go.RowKit
/-- A write, or a barrier. -/
abbrev MOp := Option Cel
def doV (s : St) : MOp → St
  | some c => writeV s c.1 c.2
  | none => barV s
def doE (s : St) : MOp → Int
  | some c => writeE s c.1
  | none => barE s
/-- One behind the other, until one is refused. -/
def runL (s : St) : List MOp → St × Int
  | [] => (s, 0)
  | o :: t => if doE s o = 0 then runL (doV s o) t else (doV s o, doE s o)
theorem runL_cons (s : St) (o : MOp) (t : List MOp) : runL s (o :: t) = if doE s o = 0 then runL (doV s o) t else (doV s o, doE s o) := rfl
theorem runL_append (a b : List MOp) : ∀ s : St, runL s (a ++ b) = if (runL s a).2 = 0 then runL (runL s a).1 b else runL s a := by
  induction a with
  | nil => intro s; rfl
  | cons o t ih =>
    intro s
    rw [List.cons_append, runL_cons, runL_cons]
    by_cases h : doE s o = 0
    · rw [if_pos h, if_pos h]; exact ih _
    · rw [if_neg h, if_neg h, if_neg h]
/-- There is room for k more. -/
structure Wide (s : St) (k : Nat) : Prop where
  ops : s.ops.length + k < 68719476736
  made : s.made + k < 1099511627776
  reads : s.reads < 1099511627776
  claims : s.claims < 1099511627776
theorem Wide.room {s : St} {k : Nat} (h : Wide s k) : Room s := ⟨by have := h.ops; omega, by have := h.made; omega, h.reads, h.claims⟩
theorem Wide.less {s : St} {k m : Nat} (h : Wide s k) (hm : m ≤ k) : Wide s m := ⟨by have := h.ops; omega, by have := h.made; omega, h.reads, h.claims⟩
theorem letV_most (s : St) : (letV s).made ≤ s.made + 1 ∧ (letV s).reads = s.reads ∧ (letV s).claims = s.claims ∧ (letV s).claimed = s.claimed := by
  unfold letV
  split
  · exact ⟨by show s.made ≤ s.made + 1; omega, rfl, rfl, rfl⟩
  · exact ⟨Int.le_refl _, rfl, rfl, rfl⟩
theorem barS_rest (s : St) : (barS s).n = s.n ∧ (barS s).made = (letV s).made ∧ (barS s).reads = (letV s).reads ∧ (barS s).claims = (letV s).claims ∧ (barS s).fuse = (letV s).fuse ∧ (barS s).stopped = (letV s).stopped ∧ (barS s).claimed = (letV s).claimed ∧ (barS s).wait = [] ∧ (barS s).held = (holdAll s s.wait).held := by
  obtain ⟨hh, he⟩ := holdAll_same s.wait (letV s)
  have e1 : barS s = { letV s with held := hh, done := s.ops ++ [⟨2, 0, nought⟩], wait := [] } := by unfold barS; rw [he]
  refine ⟨by rw [e1]; exact letV_n s, by rw [e1], by rw [e1], by rw [e1], by rw [e1], by rw [e1], by rw [e1], rfl, ?_⟩
  show (holdAll (letV s) s.wait).held = _
  have key : ∀ (l : List Cel) (a b : St), a.held = b.held → (holdAll a l).held = (holdAll b l).held := fun l => by
    induction l with
    | nil => exact fun a b q => q
    | cons c t ih =>
      intro a b q
      exact ih (holdV a c.1 c.2) (holdV b c.1 c.2) (by unfold holdV; rw [q])
  exact key _ _ _ (letV_held s)
theorem Wide.doV {s : St} {k : Nat} (h : Wide s (k + 1)) (o : MOp) : Wide (doV s o) k := by
  have h1 := h.ops
  have h2 := h.made
  obtain ⟨l1, l2, l3, _⟩ := letV_most s
  cases o with
  | none =>
    show Wide (barV s) k
    unfold barV
    split
    · exact h.less (by omega)
    · split
      · obtain ⟨b1, b2, b3, b4, _⟩ := barS_rest s
        exact ⟨by rw [barS_ops, List.length_append, List.length_singleton]; omega, by rw [b2]; omega, by rw [b3, l2]; exact h.reads, by rw [b4, l3]; exact h.claims⟩
      · exact ⟨by rw [letV_ops]; omega, by omega, by rw [l2]; exact h.reads, by rw [l3]; exact h.claims⟩
  | some c =>
    show Wide (writeV s c.1 c.2) k
    unfold writeV
    split
    · split
      · exact ⟨by rw [writeS_ops, List.length_append, List.length_singleton]; omega, by show (letV s).made + _ < _; omega, by show (letV s).reads < _; rw [l2]; exact h.reads, by show (letV s).claims < _; rw [l3]; exact h.claims⟩
      · exact ⟨by rw [letV_ops]; omega, by omega, by rw [l2]; exact h.reads, by rw [l3]; exact h.claims⟩
    · exact h.less (by omega)
theorem Wide.run : ∀ {l : List MOp} {s : St} {k : Nat}, Wide s (l.length + k) → Wide (runL s l).1 k
  | [], s, k, h => h.less (by simp)
  | o :: t, s, k, h => by
    have h2 : Wide (Go.Proofs.YtlcdpmjdnihocaaD.doV s o) (t.length + k) := Wide.doV (by rw [List.length_cons] at h; exact h.less (by omega)) o
    rw [runL_cons]
    split
    · exact h2.run
    · exact h2.less (by omega)
section
variable {P : World → Loc → Prop} {W : World} {d : Nat} {s : St}
theorem has_len (h : Has P W d s) : Calls Try.prog 36 #[.pointer (some ⟨d, 0, none⟩)] W fun e W' => e = .returned (.int .i64 s.n) ∧ W' = W := by
  obtain ⟨L, rfl, hD, _⟩ := h
  exact len_of hD
theorem has_claim (hP : Stays P) (h : Has P W d s) (hr : Room s) : Calls Try.prog 24 #[.pointer (some ⟨d, 0, none⟩)] W fun e W' => e = .returned (.int .i64 (claimN s)) ∧ Has P W' d (claimV s) := by
  obtain ⟨L, rfl, hD, hp⟩ := h
  exact (claim_of hD hr).mono fun e W' ⟨h1, h2, h3⟩ => ⟨h1, Has.goes hP rfl hD hp h2 h3⟩
end
/-- The blocks from the inodes' region to the first data block: their number. -/
def mkN (b l i : Int) : Nat := (YtlcdpmjdnihocaaP.dataAt b l i - l).toNat
/-- The second part, from the j-th block of the inodes' region on. -/
def mkR (b l i : Int) (j : Nat) : List MOp := ((List.range (mkN b l i)).drop j).map fun (q : Nat) => some (1 + l + (q : Int), Ytlcdpmjdnihocaa.coF b l i (1 + l + (q : Int)))
def mkA : List MOp := [some (0, nought)]
def mkB (b l i : Int) : List MOp := some (1, nought) :: mkR b l i 0
def mkC (b l i : Int) : List MOp := [some (0, YtlcdpmjdnihocaaP.superF b l i)]
/-- What mkfs does from the m-th part on. -/
def mkL (b l i : Int) : Nat → List MOp
  | 0 => mkA ++ (none :: (mkB b l i ++ (none :: (mkC b l i ++ [none]))))
  | 1 => mkB b l i ++ (none :: (mkC b l i ++ [none]))
  | 2 => mkC b l i ++ [none]
  | _ => []
theorem mkR_step (b l i : Int) (j : Nat) (h : j < mkN b l i) : mkR b l i j = some (1 + l + (j : Int), Ytlcdpmjdnihocaa.coF b l i (1 + l + (j : Int))) :: mkR b l i (j + 1) := by
  unfold mkR
  rw [List.drop_eq_getElem_cons (by simpa using h), List.map_cons, List.getElem_range]
theorem mkR_end (b l i : Int) : mkR b l i (mkN b l i) = [] := by
  unfold mkR
  rw [List.drop_eq_nil_of_le (by simp)]
  rfl
theorem mkR_len (b l i : Int) (j : Nat) : (mkR b l i j).length = mkN b l i - j := by unfold mkR; simp
theorem mkL_len (b l i : Int) : (mkL b l i 0).length = mkN b l i + 6 := by
  unfold mkL mkA mkB mkC
  simp [mkR_len]
/-- What mkfs answers ahead of all, and then. -/
def rdyE (b l i : Int) (s : St) : Int := if YtlcdpmjdnihocaaP.ofE b l i ≠ 0 ∨ b > s.n then 2 else if s.stopped then 3 else 0
def mkE (b l i : Int) (s : St) : Int := if rdyE b l i s = 0 then (runL (claimV s) (mkL b l i 0)).2 else rdyE b l i s
def mkV (b l i : Int) (s : St) : St := if rdyE b l i s = 0 then (runL (claimV s) (mkL b l i 0)).1 else s
end Go.Proofs.YtlcdpmjdnihocaaD
/- Mkfs by the program: whether a file system may be made on a disk; for every disk and geometry. -/
namespace Go.Proofs.YtlcdpmjdnihocaaD
open Go.RowKit
variable {P : World → Loc → Prop} {W : World} {d : Nat} {s : St}
theorem layIn (b l i : Int) : (Try.prog.info? 29).map (·.size) = some (YtlcdpmjdnihocaaP.lay9 b l i 1 (1 + l) (YtlcdpmjdnihocaaP.nodeB i) (YtlcdpmjdnihocaaP.bitsAt l i) (YtlcdpmjdnihocaaP.bitsB b) (YtlcdpmjdnihocaaP.dataAt b l i)).size := by kernel_rfl
theorem lay9_size (b l i a c d e f g : Int) : (Try.prog.info? 29).map (·.size) = some (YtlcdpmjdnihocaaP.lay9 b l i a c d e f g).size := by kernel_rfl
theorem lay9_one (b l i a c d e f g : Int) : (YtlcdpmjdnihocaaP.lay9 b l i a c d e f g).all (·.oneCell') = true := by simp [YtlcdpmjdnihocaaP.lay9, Value.oneCell']
theorem lay9_two (b l i a c d e f g b' l' i' a' c' d' e' f' g' : Int) : (YtlcdpmjdnihocaaP.lay9 b l i a c d e f g).size = (YtlcdpmjdnihocaaP.lay9 b' l' i' a' c' d' e' f' g').size := rfl
theorem zeroLy : ∀ w, (zeroValue 29).run Try.prog w = .ok (.agg (YtlcdpmjdnihocaaP.lay9 0 0 0 0 0 0 0 0 0)) w := (zero_of_info (show (Try.prog.info? 29).map (fun i => (i.zero, i.size)) = some (some (.agg (YtlcdpmjdnihocaaP.lay9 0 0 0 0 0 0 0 0 0)), 9) by kernel_rfl)).1
theorem buildLy (u : World) : (Instr.build 29 #[]).run Try.prog u = .ok (.agg (YtlcdpmjdnihocaaP.lay9 0 0 0 0 0 0 0 0 0)) u := by
  have z := zeroLy u
  generalize YtlcdpmjdnihocaaP.lay9 0 0 0 0 0 0 0 0 0 = L at *
  simp [go_sem, z]
/-- What is beside the disk while ready goes: its own two rows. -/
structure RyS (P : World → Loc → Prop) (W0 W : World) (d : Nat) (s : St) (b l i : Int) (Z : Array Value) : Prop where
  has : Has P W d s
  geo : W.heap[W0.heap.size]? = some (.cells #[.int .i64 b, .int .i64 l, .int .i64 i] 26)
  res : W.heap[W0.heap.size + 1]? = some (.cells Z 29)
  bel : Below W0.heap.size W0 W
theorem RyS.later (hP : Stays P) {W0 W' : World} {b l i : Int} {Z : Array Value} (h : RyS P W0 W d s b l i Z) (hb : Below W.heap.size W W') : RyS P W0 W' d s b l i Z := ⟨h.has.later hP hb, heap_kept h.geo hb, heap_kept h.res hb, below_next h.bel hb⟩
theorem RyS.set (hP : Stays P) {W0 : World} {b l i : Int} {Z : Array Value} (hH : Has P W0 d s) (h : RyS P W0 W d s b l i Z) (cs : Array Value) : Has P (W.setRow (W0.heap.size + 1) cs) d s := hH.later hP (below_setRow h.bel (by omega) _)
set_option maxRecDepth 20000 in
set_option maxHeartbeats 4000000 in
theorem ready_ok (hP : Stays P) (h : Has P W d s) (b l i : Int) (hb : YtlcdpmjdnihocaaP.I64 b) :
    Calls Try.prog 23 #[.pointer (some ⟨d, 0, none⟩), YtlcdpmjdnihocaaP.geoV b l i] W fun e W' => e = .returned (.tuple #[if rdyE b l i s = 0 then YtlcdpmjdnihocaaP.layV b l i else YtlcdpmjdnihocaaP.layZ, .int .i64 (rdyE b l i s)]) ∧ Has P W' d s := by
  have hOf := fun u => YtlcdpmjdnihocaaP.of_any b l i u hb
  have hn1 := h.ok.n
  have zl := zeroLy
  have zb := buildLy
  have HH : Hid (Has P W d s) := h
  have HLn : Hid (∀ V, Has P V d s → Calls Try.prog 36 #[.pointer (some ⟨d, 0, none⟩)] V fun e W' => e = .returned (.int .i64 s.n) ∧ W' = V) := fun V hV => has_len hV
  have HSt : Hid (∀ V, Has P V d s → Calls Try.prog 38 #[.pointer (some ⟨d, 0, none⟩)] V fun e W' => e = .returned (.bool s.stopped) ∧ W' = V) := fun V hV => has_stopped hV
  have HRd : Hid (rdyE b l i s = if YtlcdpmjdnihocaaP.ofE b l i ≠ 0 ∨ b > s.n then 2 else if s.stopped then 3 else 0) := rfl
  have HOE : Hid (YtlcdpmjdnihocaaP.ofE b l i = if YtlcdpmjdnihocaaP.Fine b l i then 0 else 2) := rfl
  have HOV : Hid (YtlcdpmjdnihocaaP.ofV b l i = if YtlcdpmjdnihocaaP.Fine b l i then YtlcdpmjdnihocaaP.layV b l i else YtlcdpmjdnihocaaP.layZ) := rfl
  unfold YtlcdpmjdnihocaaP.geoV at *
  unfold YtlcdpmjdnihocaaP.layZ YtlcdpmjdnihocaaP.layV at *
  have HLI : Hid _ := layIn b l i
  have HL0 : Hid _ := lay9_size 0 0 0 0 0 0 0 0 0
  have HL1 : Hid _ := lay9_one 0 0 0 0 0 0 0 0 0
  have HL3 : Hid _ := lay9_one b l i 1 (1 + l) (YtlcdpmjdnihocaaP.nodeB i) (YtlcdpmjdnihocaaP.bitsAt l i) (YtlcdpmjdnihocaaP.bitsB b) (YtlcdpmjdnihocaaP.dataAt b l i)
  have HL2 : Hid ((YtlcdpmjdnihocaaP.lay9 0 0 0 0 0 0 0 0 0).size = (YtlcdpmjdnihocaaP.lay9 b l i 1 (1 + l) (YtlcdpmjdnihocaaP.nodeB i) (YtlcdpmjdnihocaaP.bitsAt l i) (YtlcdpmjdnihocaaP.bitsB b) (YtlcdpmjdnihocaaP.dataAt b l i)).size) := rfl
  have hS0 : RyS P W ((W.alloc (.cells #[.int .i64 b, .int .i64 l, .int .i64 i] 26)).alloc (.cells (YtlcdpmjdnihocaaP.lay9 0 0 0 0 0 0 0 0 0) 29)) d s b l i (YtlcdpmjdnihocaaP.lay9 0 0 0 0 0 0 0 0 0) := by
    have hbb : Below W.heap.size W ((W.alloc (.cells #[.int .i64 b, .int .i64 l, .int .i64 i] 26)).alloc (.cells (YtlcdpmjdnihocaaP.lay9 0 0 0 0 0 0 0 0 0) 29)) := below_next (below_new _ _) (below_new _ _)
    exact ⟨h.later hP hbb, heap_kept (heap_alloc_new _ _) (below_new _ _), Ytlcdpmjdnihocaa.heap_two _ _ _, hbb⟩
  generalize YtlcdpmjdnihocaaP.lay9 b l i 1 (1 + l) (YtlcdpmjdnihocaaP.nodeB i) (YtlcdpmjdnihocaaP.bitsAt l i) (YtlcdpmjdnihocaaP.bitsB b) (YtlcdpmjdnihocaaP.dataAt b l i) = Y at *
  generalize YtlcdpmjdnihocaaP.lay9 0 0 0 0 0 0 0 0 0 = Z at *
  generalize YtlcdpmjdnihocaaP.ofV b l i = ov at *
  generalize YtlcdpmjdnihocaaP.ofE b l i = oe at *
  obtain ⟨A, hA⟩ : ∃ A, A = (W.alloc (.cells #[.int .i64 b, .int .i64 l, .int .i64 i] 26)).alloc (.cells Z 29) := ⟨_, rfl⟩
  rw [← hA] at hS0
  have HA : Hid (A = _) := hA
  have HS0 : Hid _ := hS0
  have HGi : Hid ((Try.prog.info? 26).map (·.size) = some (#[Value.int .i64 b, .int .i64 l, .int .i64 i] : Array Value).size) := by show _ = _; kernel_rfl
  clear hA hS0 h
  generalize hsn : s.n = n at *
  have hn0 : (n == 0) = false := by simp; omega
  by_cases hF : YtlcdpmjdnihocaaP.Fine b l i
  · have hoe : oe = 0 := by rw [HOE.out, if_pos hF]
    have hov : ov = .agg Y := by rw [HOV.out, if_pos hF]
    subst hoe hov
    clear HOE HOV hF
    by_cases hbn : b > n
    · have HE : Hid (rdyE b l i s = 2) := by show _ = _; rw [HRd.out, if_pos (.inr hbn)]
      clear HRd
      rw [HE.out]
      have hgt : decide (n < b) = true := decide_eq_true hbn
      have HVi : Hid _ := HLI.out
      have HVs : Hid _ := HL2.out
      have HVo : Hid _ := HL3.out
      go_enter Try.func23, Try.ntmps23
      go_upto_region 1 with fail
      rw [← HA.out]
      clear HA
      go_wp2_with (go_at_call 36; fail)
      refine (HLn.out _ HS0.out.has).mono ?_
      rintro e V ⟨rfl, he⟩
      obtain rfl := he.symm
      clear he
      have HS1 : Hid _ := HS0.out
      clear HS0
      go_wp2_with (first | (with_reducible refine Ytlcdpmjdnihocaa.isLoadR 26 ?_; refine Ytlcdpmjdnihocaa.wpList_ldR 26 Try.underlying26 rfl rfl _ rfl W.heap.size rfl #[.int .i64 b, .int .i64 l, .int .i64 i] 26 (0, 0) HGi.out HS1.out.geo ?_) | (go_at_call 37; fail))
      refine (hOf _).mono ?_
      rintro e V1 ⟨rfl, hb1⟩
      have HS2 : Hid _ := HS1.out.later hP (below_next hb1 (below_new V1 (.cells Y 29)))
      have HV2 : Hid ((V1.alloc (.cells Y 29)).heap[V1.heap.size]? = some (.cells Y 29)) := heap_alloc_new _ _
      clear HS1 hb1 hOf
      go_upto_region 4 with (first | (with_reducible refine Ytlcdpmjdnihocaa.isStoreR 29 ?_; refine Ytlcdpmjdnihocaa.wpList_stNew 29 rfl _ _ rfl V1.heap.size Y Z 29 HVi.out HVs.out HVo.out rfl rfl rfl ?_))
      generalize V1.alloc (.cells Y 29) = V2 at *
      generalize V1.heap.size = gl at *
      have HS3 : Hid (RyS P W V2.drew d s b l i Z) := HS2.out.later hP (Below.refl _ _).drew
      have HV3 : Hid (V2.drew.heap[gl]? = some (.cells Y 29)) := HV2.out
      clear HS2 HV2
      refine wp_region_ord (S := fun u => u.cell? ⟨W.heap.size, 0, none⟩ = some (.int .i64 b)) [(0, true), (1, true), (2, true), (3, true), (4, true), (5, true), (6, false), (7, true), (8, true), (9, true)] (by kernel_rfl) rfl (by kernel_rfl) (fun d _ _ _ _ h => by cases d <;> exact h) (Joins.cell_of_block HS3.out.geo 0) ?_
      simp only [inOrd, List.getElem?_cons_zero, List.getElem?_cons_succ]
      generalize V2.drew = U at *
      refine wpOrd_yield (v := .int .i64 0) rfl (fun u _ => by go_simp) ?_
      simp only [Act.put, List.setIfInBounds_toArray, List.set_cons_succ, List.set_cons_zero]
      refine wpOrd_yield (v := .bool false) rfl (fun u _ => by go_simp) ?_
      simp only [Act.put, List.setIfInBounds_toArray, List.set_cons_succ, List.set_cons_zero]
      refine wpOrd_yield (v := .bool false) rfl (fun u _ => by go_simp) ?_
      simp only [Act.put, List.setIfInBounds_toArray, List.set_cons_succ, List.set_cons_zero]
      refine wpOrd_yield (v := .pointer (some ⟨W.heap.size, 0, none⟩)) rfl (fun u _ => by go_simp) ?_
      simp only [Act.put, List.setIfInBounds_toArray, List.set_cons_succ, List.set_cons_zero]
      refine wpOrd_yield (v := .int .i64 b) rfl (fun u hu => by go_simp) ?_
      simp only [Act.put, List.setIfInBounds_toArray, List.set_cons_succ, List.set_cons_zero]
      refine wpOrd_yield (v := .pointer (some ⟨d, 0, none⟩)) rfl (fun u _ => by go_simp) ?_
      simp only [Act.put, List.setIfInBounds_toArray, List.set_cons_succ, List.set_cons_zero]
      refine wpOrd_call rfl 36 _ _ rfl Try.call36 [.pointer (some ⟨d, 0, none⟩)] rfl ?_
      refine (HLn.out U HS3.out.has).mono ?_
      rintro e U2 ⟨rfl, he⟩
      obtain rfl := he.symm
      clear he
      refine ⟨_, rfl, Joins.cell_of_block HS3.out.geo 0, ?_⟩
      simp only [Act.put, List.setIfInBounds_toArray, List.set_cons_succ, List.set_cons_zero]
      refine wpOrd_yield (v := .bool true) rfl (fun u _ => by go_simp) ?_
      simp only [Act.put, List.setIfInBounds_toArray, List.set_cons_succ, List.set_cons_zero]
      refine wpOrd_yield (v := .bool true) rfl (fun u _ => by go_simp) ?_
      simp only [Act.put, List.setIfInBounds_toArray, List.set_cons_succ, List.set_cons_zero]
      refine wpOrd_yield (v := .bool true) rfl (fun u _ => by go_simp) ?_
      simp only [Act.put, List.setIfInBounds_toArray, List.set_cons_succ, List.set_cons_zero]
      refine wpOrd_nil ?_
      go_wp2_with (first | (with_reducible refine Ytlcdpmjdnihocaa.isStoreR 29 ?_; refine Ytlcdpmjdnihocaa.wpList_stR 29 rfl _ _ rfl (W.heap.size + 1) Z Z 29 HL0.out rfl HL1.out rfl rfl HS3.out.res ?_))
      exact Ytlcdpmjdnihocaa.retCT Try.underlying29 rfl rfl (W.heap.size + 1) Z 29 HL0.out rfl (setRow_heap _ _ _ _ _ _ HS3.out.res) rfl ⟨rfl, HS3.out.set hP HH.out _⟩
    · have hgt : decide (n < b) = false := decide_eq_false hbn
      cases hst : s.stopped
      · have HE : Hid (rdyE b l i s = 0) := by show _ = _; rw [HRd.out, if_neg (by rintro (q | q); exact q rfl; exact hbn q), hst]; rfl
        clear HRd
        rw [HE.out]
        rw [hst] at HSt
        have HVi : Hid _ := HLI.out
        have HVs : Hid _ := HL2.out
        have HVo : Hid _ := HL3.out
        go_enter Try.func23, Try.ntmps23
        go_upto_region 1 with fail
        rw [← HA.out]
        clear HA
        go_wp2_with (go_at_call 36; fail)
        refine (HLn.out _ HS0.out.has).mono ?_
        rintro e V ⟨rfl, he⟩
        obtain rfl := he.symm
        clear he
        have HS1 : Hid _ := HS0.out
        clear HS0
        go_wp2_with (first | (with_reducible refine Ytlcdpmjdnihocaa.isLoadR 26 ?_; refine Ytlcdpmjdnihocaa.wpList_ldR 26 Try.underlying26 rfl rfl _ rfl W.heap.size rfl #[.int .i64 b, .int .i64 l, .int .i64 i] 26 (0, 0) HGi.out HS1.out.geo ?_) | (go_at_call 37; fail))
        refine (hOf _).mono ?_
        rintro e V1 ⟨rfl, hb1⟩
        have HS2 : Hid _ := HS1.out.later hP (below_next hb1 (below_new V1 (.cells Y 29)))
        have HV2 : Hid ((V1.alloc (.cells Y 29)).heap[V1.heap.size]? = some (.cells Y 29)) := heap_alloc_new _ _
        clear HS1 hb1 hOf
        go_upto_region 4 with (first | (with_reducible refine Ytlcdpmjdnihocaa.isStoreR 29 ?_; refine Ytlcdpmjdnihocaa.wpList_stNew 29 rfl _ _ rfl V1.heap.size Y Z 29 HVi.out HVs.out HVo.out rfl rfl rfl ?_))
        generalize V1.alloc (.cells Y 29) = V2 at *
        generalize V1.heap.size = gl at *
        have HS3 : Hid (RyS P W V2.drew d s b l i Z) := HS2.out.later hP (Below.refl _ _).drew
        have HV3 : Hid (V2.drew.heap[gl]? = some (.cells Y 29)) := HV2.out
        clear HS2 HV2
        refine wp_region_ord (S := fun u => u.cell? ⟨W.heap.size, 0, none⟩ = some (.int .i64 b)) [(0, true), (1, true), (2, true), (3, true), (4, true), (5, true), (6, false), (7, true), (8, true), (9, true)] (by kernel_rfl) rfl (by kernel_rfl) (fun d _ _ _ _ h => by cases d <;> exact h) (Joins.cell_of_block HS3.out.geo 0) ?_
        simp only [inOrd, List.getElem?_cons_zero, List.getElem?_cons_succ]
        generalize V2.drew = U at *
        refine wpOrd_yield (v := .int .i64 0) rfl (fun u _ => by go_simp) ?_
        simp only [Act.put, List.setIfInBounds_toArray, List.set_cons_succ, List.set_cons_zero]
        refine wpOrd_yield (v := .bool false) rfl (fun u _ => by go_simp) ?_
        simp only [Act.put, List.setIfInBounds_toArray, List.set_cons_succ, List.set_cons_zero]
        refine wpOrd_yield (v := .bool false) rfl (fun u _ => by go_simp) ?_
        simp only [Act.put, List.setIfInBounds_toArray, List.set_cons_succ, List.set_cons_zero]
        refine wpOrd_yield (v := .pointer (some ⟨W.heap.size, 0, none⟩)) rfl (fun u _ => by go_simp) ?_
        simp only [Act.put, List.setIfInBounds_toArray, List.set_cons_succ, List.set_cons_zero]
        refine wpOrd_yield (v := .int .i64 b) rfl (fun u hu => by go_simp) ?_
        simp only [Act.put, List.setIfInBounds_toArray, List.set_cons_succ, List.set_cons_zero]
        refine wpOrd_yield (v := .pointer (some ⟨d, 0, none⟩)) rfl (fun u _ => by go_simp) ?_
        simp only [Act.put, List.setIfInBounds_toArray, List.set_cons_succ, List.set_cons_zero]
        refine wpOrd_call rfl 36 _ _ rfl Try.call36 [.pointer (some ⟨d, 0, none⟩)] rfl ?_
        refine (HLn.out U HS3.out.has).mono ?_
        rintro e U2 ⟨rfl, he⟩
        obtain rfl := he.symm
        clear he
        refine ⟨_, rfl, Joins.cell_of_block HS3.out.geo 0, ?_⟩
        simp only [Act.put, List.setIfInBounds_toArray, List.set_cons_succ, List.set_cons_zero]
        refine wpOrd_yield (v := .bool false) rfl (fun u _ => by go_simp) ?_
        simp only [Act.put, List.setIfInBounds_toArray, List.set_cons_succ, List.set_cons_zero]
        refine wpOrd_yield (v := .bool false) rfl (fun u _ => by go_simp) ?_
        simp only [Act.put, List.setIfInBounds_toArray, List.set_cons_succ, List.set_cons_zero]
        refine wpOrd_yield (v := .bool false) rfl (fun u _ => by go_simp) ?_
        simp only [Act.put, List.setIfInBounds_toArray, List.set_cons_succ, List.set_cons_zero]
        refine wpOrd_nil ?_
        go_upto_region 6 with fail
        go_wp2_with (go_at_call 38; fail)
        refine (HSt.out _ HS3.out.has).mono ?_
        rintro e V ⟨rfl, he⟩
        obtain rfl := he.symm
        clear he
        go_wp2_with (first | (with_reducible refine Ytlcdpmjdnihocaa.isLoadR 29 ?_; refine Ytlcdpmjdnihocaa.wpList_ldR 29 Try.underlying29 rfl rfl _ rfl gl rfl Y 29 (0, 0) HVi.out HV3.out ?_) | (with_reducible refine Ytlcdpmjdnihocaa.isStoreR 29 ?_; refine Ytlcdpmjdnihocaa.wpList_stR 29 rfl _ _ rfl (W.heap.size + 1) Y Z 29 HVi.out HVs.out HVo.out rfl rfl HS3.out.res ?_))
        exact Ytlcdpmjdnihocaa.retCT Try.underlying29 rfl rfl (W.heap.size + 1) Y 29 HVi.out rfl (setRow_heap _ _ _ _ _ _ HS3.out.res) rfl ⟨rfl, HS3.out.set hP HH.out _⟩
      · have HE : Hid (rdyE b l i s = 3) := by show _ = _; rw [HRd.out, if_neg (by rintro (q | q); exact q rfl; exact hbn q), hst]; rfl
        clear HRd
        rw [HE.out]
        rw [hst] at HSt
        have HVi : Hid _ := HLI.out
        have HVs : Hid _ := HL2.out
        have HVo : Hid _ := HL3.out
        go_enter Try.func23, Try.ntmps23
        go_upto_region 1 with fail
        rw [← HA.out]
        clear HA
        go_wp2_with (go_at_call 36; fail)
        refine (HLn.out _ HS0.out.has).mono ?_
        rintro e V ⟨rfl, he⟩
        obtain rfl := he.symm
        clear he
        have HS1 : Hid _ := HS0.out
        clear HS0
        go_wp2_with (first | (with_reducible refine Ytlcdpmjdnihocaa.isLoadR 26 ?_; refine Ytlcdpmjdnihocaa.wpList_ldR 26 Try.underlying26 rfl rfl _ rfl W.heap.size rfl #[.int .i64 b, .int .i64 l, .int .i64 i] 26 (0, 0) HGi.out HS1.out.geo ?_) | (go_at_call 37; fail))
        refine (hOf _).mono ?_
        rintro e V1 ⟨rfl, hb1⟩
        have HS2 : Hid _ := HS1.out.later hP (below_next hb1 (below_new V1 (.cells Y 29)))
        have HV2 : Hid ((V1.alloc (.cells Y 29)).heap[V1.heap.size]? = some (.cells Y 29)) := heap_alloc_new _ _
        clear HS1 hb1 hOf
        go_upto_region 4 with (first | (with_reducible refine Ytlcdpmjdnihocaa.isStoreR 29 ?_; refine Ytlcdpmjdnihocaa.wpList_stNew 29 rfl _ _ rfl V1.heap.size Y Z 29 HVi.out HVs.out HVo.out rfl rfl rfl ?_))
        generalize V1.alloc (.cells Y 29) = V2 at *
        generalize V1.heap.size = gl at *
        have HS3 : Hid (RyS P W V2.drew d s b l i Z) := HS2.out.later hP (Below.refl _ _).drew
        have HV3 : Hid (V2.drew.heap[gl]? = some (.cells Y 29)) := HV2.out
        clear HS2 HV2
        refine wp_region_ord (S := fun u => u.cell? ⟨W.heap.size, 0, none⟩ = some (.int .i64 b)) [(0, true), (1, true), (2, true), (3, true), (4, true), (5, true), (6, false), (7, true), (8, true), (9, true)] (by kernel_rfl) rfl (by kernel_rfl) (fun d _ _ _ _ h => by cases d <;> exact h) (Joins.cell_of_block HS3.out.geo 0) ?_
        simp only [inOrd, List.getElem?_cons_zero, List.getElem?_cons_succ]
        generalize V2.drew = U at *
        refine wpOrd_yield (v := .int .i64 0) rfl (fun u _ => by go_simp) ?_
        simp only [Act.put, List.setIfInBounds_toArray, List.set_cons_succ, List.set_cons_zero]
        refine wpOrd_yield (v := .bool false) rfl (fun u _ => by go_simp) ?_
        simp only [Act.put, List.setIfInBounds_toArray, List.set_cons_succ, List.set_cons_zero]
        refine wpOrd_yield (v := .bool false) rfl (fun u _ => by go_simp) ?_
        simp only [Act.put, List.setIfInBounds_toArray, List.set_cons_succ, List.set_cons_zero]
        refine wpOrd_yield (v := .pointer (some ⟨W.heap.size, 0, none⟩)) rfl (fun u _ => by go_simp) ?_
        simp only [Act.put, List.setIfInBounds_toArray, List.set_cons_succ, List.set_cons_zero]
        refine wpOrd_yield (v := .int .i64 b) rfl (fun u hu => by go_simp) ?_
        simp only [Act.put, List.setIfInBounds_toArray, List.set_cons_succ, List.set_cons_zero]
        refine wpOrd_yield (v := .pointer (some ⟨d, 0, none⟩)) rfl (fun u _ => by go_simp) ?_
        simp only [Act.put, List.setIfInBounds_toArray, List.set_cons_succ, List.set_cons_zero]
        refine wpOrd_call rfl 36 _ _ rfl Try.call36 [.pointer (some ⟨d, 0, none⟩)] rfl ?_
        refine (HLn.out U HS3.out.has).mono ?_
        rintro e U2 ⟨rfl, he⟩
        obtain rfl := he.symm
        clear he
        refine ⟨_, rfl, Joins.cell_of_block HS3.out.geo 0, ?_⟩
        simp only [Act.put, List.setIfInBounds_toArray, List.set_cons_succ, List.set_cons_zero]
        refine wpOrd_yield (v := .bool false) rfl (fun u _ => by go_simp) ?_
        simp only [Act.put, List.setIfInBounds_toArray, List.set_cons_succ, List.set_cons_zero]
        refine wpOrd_yield (v := .bool false) rfl (fun u _ => by go_simp) ?_
        simp only [Act.put, List.setIfInBounds_toArray, List.set_cons_succ, List.set_cons_zero]
        refine wpOrd_yield (v := .bool false) rfl (fun u _ => by go_simp) ?_
        simp only [Act.put, List.setIfInBounds_toArray, List.set_cons_succ, List.set_cons_zero]
        refine wpOrd_nil ?_
        go_upto_region 6 with fail
        go_wp2_with (go_at_call 38; fail)
        refine (HSt.out _ HS3.out.has).mono ?_
        rintro e V ⟨rfl, he⟩
        obtain rfl := he.symm
        clear he
        go_wp2_with (first | (with_reducible refine Ytlcdpmjdnihocaa.isStoreR 29 ?_; refine Ytlcdpmjdnihocaa.wpList_stR 29 rfl _ _ rfl (W.heap.size + 1) Z Z 29 HL0.out rfl HL1.out rfl rfl HS3.out.res ?_))
        exact Ytlcdpmjdnihocaa.retCT Try.underlying29 rfl rfl (W.heap.size + 1) Z 29 HL0.out rfl (setRow_heap _ _ _ _ _ _ HS3.out.res) rfl ⟨rfl, HS3.out.set hP HH.out _⟩
  · have hoe : oe = 2 := by rw [HOE.out, if_neg hF]
    have hov : ov = .agg Z := by rw [HOV.out, if_neg hF]
    have HE : Hid (rdyE b l i s = 2) := by show _ = _; rw [HRd.out, hoe, if_pos (.inl (by decide))]
    subst hoe hov
    clear HOE HOV HRd hF
    rw [HE.out]
    have HVi : Hid _ := HL0.out
    have HVo : Hid _ := HL1.out
    obtain ⟨VR, hVR⟩ : ∃ VR, VR = Z := ⟨_, rfl⟩
    rw [← hVR] at hOf HVi HVo
    have HVs : Hid (Z.size = VR.size) := by rw [hVR]; exact (rfl : Z.size = Z.size)
    clear hVR
    go_enter Try.func23, Try.ntmps23
    go_upto_region 1 with fail
    rw [← HA.out]
    clear HA
    go_wp2_with (go_at_call 36; fail)
    refine (HLn.out _ HS0.out.has).mono ?_
    rintro e V ⟨rfl, he⟩
    obtain rfl := he.symm
    clear he
    have HS1 : Hid _ := HS0.out
    clear HS0
    go_wp2_with (first | (with_reducible refine Ytlcdpmjdnihocaa.isLoadR 26 ?_; refine Ytlcdpmjdnihocaa.wpList_ldR 26 Try.underlying26 rfl rfl _ rfl W.heap.size rfl #[.int .i64 b, .int .i64 l, .int .i64 i] 26 (0, 0) HGi.out HS1.out.geo ?_) | (go_at_call 37; fail))
    refine (hOf _).mono ?_
    rintro e V1 ⟨rfl, hb1⟩
    have HS2 : Hid _ := HS1.out.later hP (below_next hb1 (below_new V1 (.cells VR 29)))
    have HV2 : Hid ((V1.alloc (.cells VR 29)).heap[V1.heap.size]? = some (.cells VR 29)) := heap_alloc_new _ _
    clear HS1 hb1 hOf
    go_upto_region 4 with (first | (with_reducible refine Ytlcdpmjdnihocaa.isStoreR 29 ?_; refine Ytlcdpmjdnihocaa.wpList_stNew 29 rfl _ _ rfl V1.heap.size VR Z 29 HVi.out HVs.out HVo.out rfl rfl rfl ?_))
    generalize V1.alloc (.cells VR 29) = V2 at *
    generalize V1.heap.size = gl at *
    have HS3 : Hid (RyS P W V2.drew d s b l i Z) := HS2.out.later hP (Below.refl _ _).drew
    have HV3 : Hid (V2.drew.heap[gl]? = some (.cells VR 29)) := HV2.out
    clear HS2 HV2
    refine wp_region_ord (S := fun u => u.cell? ⟨W.heap.size, 0, none⟩ = some (.int .i64 b)) [(0, true), (1, true), (2, true), (3, true), (4, true), (5, true), (6, false), (7, true), (8, true), (9, true)] (by kernel_rfl) rfl (by kernel_rfl) (fun d _ _ _ _ h => by cases d <;> exact h) (Joins.cell_of_block HS3.out.geo 0) ?_
    simp only [inOrd, List.getElem?_cons_zero, List.getElem?_cons_succ]
    generalize V2.drew = U at *
    refine wpOrd_yield (v := .int .i64 2) rfl (fun u _ => by go_simp) ?_
    simp only [Act.put, List.setIfInBounds_toArray, List.set_cons_succ, List.set_cons_zero]
    refine wpOrd_yield (v := .bool true) rfl (fun u _ => by go_simp) ?_
    simp only [Act.put, List.setIfInBounds_toArray, List.set_cons_succ, List.set_cons_zero]
    refine wpOrd_yield (v := .bool true) rfl (fun u _ => by go_simp) ?_
    simp only [Act.put, List.setIfInBounds_toArray, List.set_cons_succ, List.set_cons_zero]
    refine wpOrd_skip (Joins.cell_of_block HS3.out.geo 0) rfl ?_
    simp only [Act.put, List.setIfInBounds_toArray, List.set_cons_succ, List.set_cons_zero]
    refine wpOrd_skip (Joins.cell_of_block HS3.out.geo 0) rfl ?_
    simp only [Act.put, List.setIfInBounds_toArray, List.set_cons_succ, List.set_cons_zero]
    refine wpOrd_skip (Joins.cell_of_block HS3.out.geo 0) rfl ?_
    simp only [Act.put, List.setIfInBounds_toArray, List.set_cons_succ, List.set_cons_zero]
    refine wpOrd_skip (Joins.cell_of_block HS3.out.geo 0) rfl ?_
    simp only [Act.put, List.setIfInBounds_toArray, List.set_cons_succ, List.set_cons_zero]
    refine wpOrd_skip (Joins.cell_of_block HS3.out.geo 0) rfl ?_
    simp only [Act.put, List.setIfInBounds_toArray, List.set_cons_succ, List.set_cons_zero]
    refine wpOrd_yield (v := .bool true) rfl (fun u _ => by go_simp) ?_
    simp only [Act.put, List.setIfInBounds_toArray, List.set_cons_succ, List.set_cons_zero]
    refine wpOrd_yield (v := .bool true) rfl (fun u _ => by go_simp) ?_
    simp only [Act.put, List.setIfInBounds_toArray, List.set_cons_succ, List.set_cons_zero]
    refine wpOrd_nil ?_
    go_wp2_with (first | (with_reducible refine Ytlcdpmjdnihocaa.isStoreR 29 ?_; refine Ytlcdpmjdnihocaa.wpList_stR 29 rfl _ _ rfl (W.heap.size + 1) Z Z 29 HL0.out rfl HL1.out rfl rfl HS3.out.res ?_))
    exact Ytlcdpmjdnihocaa.retCT Try.underlying29 rfl rfl (W.heap.size + 1) Z 29 HL0.out rfl (setRow_heap _ _ _ _ _ _ HS3.out.res) rfl ⟨rfl, HS3.out.set hP HH.out _⟩
end Go.Proofs.YtlcdpmjdnihocaaD
/- Mkfs by the program: its three parts; the blocks are blocks of bytes; for every layout that may be. -/
namespace Go.Proofs.YtlcdpmjdnihocaaD
open Go.RowKit
/-- Bytes. -/
def ByF (f : Nat → Int) : Prop := ∀ i, 0 ≤ f i ∧ f i ≤ 255
theorem by_nought : ByF Ytlcdpmjdnihocaa.nought := fun _ => by unfold Ytlcdpmjdnihocaa.nought; omega
theorem by_over {F E : Nat → Int} (hF : ByF F) (hE : ByF E) (o n : Nat) : ByF (YtlcdpmjdnihocaaN.over F o n E) := fun i => by
  unfold YtlcdpmjdnihocaaN.over
  split
  · exact hE _
  · exact hF _
theorem by_putN : ∀ (n : Nat) {f : Nat → Int} (k : Nat) (v : Int), ByF f → ByF (YtlcdpmjdnihocaaK.putN f k v n)
  | 0, f, k, v, h => h
  | n + 1, f, k, v, h => by
    unfold YtlcdpmjdnihocaaK.putN
    refine by_putN n (k + 1) (v / 256) fun i => ?_
    unfold YtlcdpmjdnihocaaK.upd
    split
    · omega
    · exact h i
theorem by_encN (k l s b : Int) (d : Nat → Int) : ∀ m : Nat, ByF (YtlcdpmjdnihocaaK.encN k l s b d m)
  | 0 => by
    unfold YtlcdpmjdnihocaaK.encN
    refine by_putN _ _ _ (by_putN _ _ _ (by_putN _ _ _ (by_putN _ _ _ fun i => ?_)))
    unfold YtlcdpmjdnihocaaK.nought
    omega
  | m + 1 => by
    unfold YtlcdpmjdnihocaaK.encN
    exact by_putN _ _ _ (by_encN k l s b d m)
theorem by_enc (s : ByteArray) : ByF (Ytlcdpmjdnihocaa.encF 1 s) := by
  unfold Ytlcdpmjdnihocaa.encF
  split
  · intro j
    unfold Ytlcdpmjdnihocaa.encP
    split
    · omega
    · split
      · omega
      · exact Ytlcdpmjdnihocaa.byt_bd _ _
  · exact by_nought
theorem can_nd (g : Int) (rt : Bool) : Can (Ytlcdpmjdnihocaa.ndF g rt) := by
  cases rt
  · exact ⟨by_nought, fun _ _ => rfl⟩
  · refine ⟨by_over by_nought (by_encN _ _ _ _ _ _) _ _, fun i hi => ?_⟩
    show YtlcdpmjdnihocaaN.over Ytlcdpmjdnihocaa.nought 64 64 _ i = 0
    unfold YtlcdpmjdnihocaaN.over
    rw [if_neg (by omega)]
    rfl
theorem can_sl : Can Ytlcdpmjdnihocaa.slF := by
  refine ⟨by_over (by_over by_nought (by_enc _) _ _) (by_enc _) _ _, fun i hi => ?_⟩
  show YtlcdpmjdnihocaaN.over (YtlcdpmjdnihocaaN.over Ytlcdpmjdnihocaa.nought 0 16 _) 16 16 _ i = 0
  unfold YtlcdpmjdnihocaaN.over
  rw [if_neg (by omega), if_neg (by omega)]
  rfl
theorem can_bt (n : Nat) (hn : n ≤ 8192) : Can (Ytlcdpmjdnihocaa.btF n) := by
  refine ⟨fun j => ?_, fun j hj => ?_⟩
  · unfold Ytlcdpmjdnihocaa.btF
    split
    · omega
    · split
      · omega
      · have := Ytlcdpmjdnihocaa.pow8 (n - 8 * j) (by omega)
        omega
  · unfold Ytlcdpmjdnihocaa.btF
    rw [if_neg (by omega), if_pos (by omega)]
theorem can_co (b l i k : Int) : Can (Ytlcdpmjdnihocaa.coF b l i k) := by
  unfold Ytlcdpmjdnihocaa.coF
  split
  · exact can_nd _ _
  · split
    · exact can_bt _ (by omega)
    · exact can_sl
theorem can_super (b l i : Int) : Can (YtlcdpmjdnihocaaP.superF b l i) := by
  refine ⟨fun j => YtlcdpmjdnihocaaP.supF_byte _ j, fun j hj => ?_⟩
  unfold YtlcdpmjdnihocaaP.superF YtlcdpmjdnihocaaP.supF
  rw [if_neg (by omega), if_neg (by omega)]
theorem head_nil : blk (YtlcdpmjdnihocaaH.H.headF []) = blk nought := blk_congr fun j hj => by
  show YtlcdpmjdnihocaaH.H.wordF [((0 : Nat) : Int)] j = 0
  unfold YtlcdpmjdnihocaaH.H.wordF
  rcases (show j / 4 = 0 ∨ 1 ≤ j / 4 by omega) with h | h
  · rw [h]; simp
  · rw [List.getD_eq_getElem?_getD, List.getElem?_eq_none (by simpa using h)]; simp
theorem headEnc_ok {b l i : Int} (hf : YtlcdpmjdnihocaaP.Fine b l i) (w : World) :
    Calls Try.prog 40 #[YtlcdpmjdnihocaaP.layV b l i, .agg #[.slice none 0 0]] w fun e w' => e = .returned (.tuple #[.agg (blk nought), .int .i64 0]) ∧ Below w.heap.size w w' := by
  obtain ⟨b1, b2, b3, b4, _⟩ := Ytlcdpmjdnihocaa.fine_bd hf
  have h := YtlcdpmjdnihocaaH.H.enc_ok b l i 1 (1 + l) (YtlcdpmjdnihocaaP.nodeB i) (YtlcdpmjdnihocaaP.bitsAt l i) (YtlcdpmjdnihocaaP.bitsB b) (YtlcdpmjdnihocaaP.dataAt b l i) [] none 0 w (by unfold YtlcdpmjdnihocaaH.H.I64; omega) (decide_eq_true ⟨hf, rfl, rfl, rfl, rfl, rfl, rfl⟩) ⟨b3, b4⟩ (fun q => by simp at q) (fun x hx => by simp at hx) (by simp) (decide_eq_true ⟨by simp; omega, fun t ht => by simp at ht, List.Pairwise.nil⟩)
  rw [show YtlcdpmjdnihocaaH.blk (YtlcdpmjdnihocaaH.H.headF []) = blk nought from head_nil] at h
  exact h
theorem superEnc_ok {b l i : Int} (hf : YtlcdpmjdnihocaaP.Fine b l i) (w : World) :
    Calls Try.prog 42 #[YtlcdpmjdnihocaaP.layV b l i] w fun e w' => e = .returned (.tuple #[.agg (blk (YtlcdpmjdnihocaaP.superF b l i)), .int .i64 0]) ∧ Below w.heap.size w w' := YtlcdpmjdnihocaaP.encode_fine b l i w hf
theorem contentD_ok {b l i k : Int} (hf : YtlcdpmjdnihocaaP.Fine b l i) (hk : 1 + l ≤ k ∧ k ≤ YtlcdpmjdnihocaaP.dataAt b l i) (w : World) :
    Calls Try.prog 41 #[YtlcdpmjdnihocaaP.layV b l i, .int .i64 k] w fun e w' => e = .returned (.agg (blk (Ytlcdpmjdnihocaa.coF b l i k))) ∧ Below w.heap.size w w' := Ytlcdpmjdnihocaa.content_ok b l i k hf hk w
variable {P : World → Loc → Prop} {W : World} {d : Nat} {s : St}
theorem zeroBk : ∀ w, (zeroValue 46).run Try.prog w = .ok (.agg (blk nought)) w := Ytlcdpmjdnihocaa.zero77
theorem buildBk (u : World) : (Instr.build 46 #[]).run Try.prog u = .ok (.agg (blk nought)) u := by
  have z := zeroBk u
  generalize blk nought = B at *
  simp [go_sem, z]
set_option maxRecDepth 20000 in
set_option maxHeartbeats 1000000 in
theorem erase_ok (hP : Stays P) (h : Has P W d s) (hr : Room s) (b l i : Int) :
    Calls Try.prog 25 #[.pointer (some ⟨d, 0, none⟩), YtlcdpmjdnihocaaP.layV b l i] W fun e W' => e = .returned (.int .i64 (runL s mkA).2) ∧ Has P W' d (runL s mkA).1 := by
  have hb := buildBk
  have hwr := has_write hP (h.later hP (below_new W (.cells (YtlcdpmjdnihocaaP.lay9 b l i 1 (1 + l) (YtlcdpmjdnihocaaP.nodeB i) (YtlcdpmjdnihocaaP.bitsAt l i) (YtlcdpmjdnihocaaP.bitsB b) (YtlcdpmjdnihocaaP.dataAt b l i)) 29))) hr 0 can_nought
  have hE : (runL s mkA) = (writeV s 0 nought, writeE s 0) := by
    unfold mkA
    rw [runL_cons]
    show (if writeE s 0 = 0 then (writeV s 0 nought, 0) else (writeV s 0 nought, writeE s 0)) = _
    split
    · rename_i q; rw [q]
    · rfl
  rw [hE]
  clear hE
  unfold YtlcdpmjdnihocaaP.layV
  generalize YtlcdpmjdnihocaaP.lay9 b l i 1 (1 + l) (YtlcdpmjdnihocaaP.nodeB i) (YtlcdpmjdnihocaaP.bitsAt l i) (YtlcdpmjdnihocaaP.bitsB b) (YtlcdpmjdnihocaaP.dataAt b l i) = L at *
  generalize nought = N at *
  clear h
  go_enter Try.func25, Try.ntmps25
  go_wp2_with (first | refine wpList_build58w rfl rfl hb ?_ | (go_at_call 39; fail))
  refine hwr.mono ?_
  rintro e W1 ⟨rfl, h1⟩
  go_wp2
  go_ret
  exact ⟨rfl, h1⟩
set_option maxRecDepth 20000 in
set_option maxHeartbeats 2000000 in
theorem sign_ok (hP : Stays P) (h : Has P W d s) (hr : Room s) {b l i : Int} (hf : YtlcdpmjdnihocaaP.Fine b l i) :
    Calls Try.prog 27 #[.pointer (some ⟨d, 0, none⟩), YtlcdpmjdnihocaaP.layV b l i] W fun e W' => e = .returned (.int .i64 (runL s (mkC b l i)).2) ∧ Has P W' d (runL s (mkC b l i)).1 := by
  have hen := fun u => superEnc_ok hf u
  have hcs := can_super b l i
  have hE : runL s (mkC b l i) = (writeV s 0 (YtlcdpmjdnihocaaP.superF b l i), writeE s 0) := by
    unfold mkC
    rw [runL_cons]
    show (if writeE s 0 = 0 then (writeV s 0 (YtlcdpmjdnihocaaP.superF b l i), 0) else (writeV s 0 (YtlcdpmjdnihocaaP.superF b l i), writeE s 0)) = _
    split
    · rename_i q; rw [q]
    · rfl
  rw [hE]
  clear hE
  have hz := zeroBk
  have HI : Hid _ := layIn b l i
  unfold YtlcdpmjdnihocaaP.layV at *
  generalize YtlcdpmjdnihocaaP.lay9 b l i 1 (1 + l) (YtlcdpmjdnihocaaP.nodeB i) (YtlcdpmjdnihocaaP.bitsAt l i) (YtlcdpmjdnihocaaP.bitsB b) (YtlcdpmjdnihocaaP.dataAt b l i) = L at *
  generalize YtlcdpmjdnihocaaP.superF b l i = F at *
  have HP : Hid (∀ V, Has P V d s → Calls Try.prog 39 #[.pointer (some ⟨d, 0, none⟩), .int .i64 0, .agg (blk F)] V fun e W' => e = .returned (.int .i64 (writeE s 0)) ∧ Has P W' d (writeV s 0 F)) := fun V hV => has_write hP hV hr 0 hcs
  have HH : Hid (Has P (W.alloc (.cells L 29)) d s) := h.later hP (below_new _ _)
  have HL : Hid ((W.alloc (.cells L 29)).heap[W.heap.size]? = some (.cells L 29)) := heap_alloc_new _ _
  clear h
  go_enter Try.func27, Try.ntmps27
  go_upto_region 1 with fail
  generalize W.alloc (.cells L 29) = V at *
  go_wp2_with (first | (with_reducible refine Ytlcdpmjdnihocaa.isLoadR 29 ?_; refine Ytlcdpmjdnihocaa.wpList_ldR 29 Try.underlying29 rfl rfl _ rfl W.heap.size rfl L 29 (0, 0) HI.out HL.out ?_) | (go_at_call 42; fail))
  refine (hen _).mono ?_
  rintro e V1 ⟨rfl, hb⟩
  have HH1 : Hid (Has P (V1.alloc (.cells (blk F) 46)) d s) := (HH.out.later hP hb).later hP (below_new _ _)
  have HB : Hid ((V1.alloc (.cells (blk F) 46)).heap[V1.heap.size]? = some (.cells (blk F) 46)) := heap_alloc_new _ _
  clear HH hb hen
  go_upto_region 2 with (first | refine wpList_store58_new rfl _ _ rfl F _ V1.heap.size rfl rfl rfl ?_)
  generalize V1.alloc (.cells (blk F) 46) = V2 at *
  generalize V1.heap.size = gb at *
  go_wp2_with (first | refine wpList_load58w rfl _ rfl gb rfl F HB.out ?_ | (go_at_call 39; fail))
  refine (HP.out _ HH1.out).mono ?_
  rintro e W1 ⟨rfl, h1⟩
  go_wp2
  go_ret
  exact ⟨rfl, h1⟩
theorem buildHd (u : World) : (Instr.build 82 #[]).run Try.prog u = .ok (.agg #[.slice none 0 0]) u := by
  have z : ∀ w, (zeroValue 82).run Try.prog w = .ok (.agg #[.slice none 0 0]) w := (zero_of_info (show (Try.prog.info? 82).map (fun i => (i.zero, i.size)) = some (some (.agg #[.slice none 0 0]), 1) by kernel_rfl)).1
  simp [go_sem, z]
/-- What is beside the disk while fill goes: the layout and the header. -/
structure FlS (P : World → Loc → Prop) (W0 W : World) (d : Nat) (s : St) (L : Array Value) (gb : Nat) : Prop where
  has : Has P W d s
  lay : W.heap[W0.heap.size]? = some (.cells L 29)
  hdr : W.heap[gb]? = some (.cells (blk nought) 46)
  bel : W0.heap.size < W.heap.size
/-- Blocks stay beside a disk that stays apart from them. -/
def Keep2 (P : World → Loc → Prop) (g : Nat) (o : Obj) (W : World) (L : Loc) : Prop := P W L ∧ W.heap[g]? = some o ∧ ¬ L.has g
theorem keep2_stays {P : World → Loc → Prop} (hP : Stays P) (g : Nat) (o : Obj) : Stays (Keep2 P g o) := fun W W' L L' hlt ⟨h1, h2, h3⟩ hG => by
  have hg : g < W.heap.size := (Array.getElem?_eq_some_iff.1 h2).1
  refine ⟨hP W W' L L' hlt h1 hG, (hG.fr.block g hg h3).trans h2, fun q => ?_⟩
  rcases hG.own g q with r | r
  · exact h3 r
  · omega
theorem Has.keep2 {P : World → Loc → Prop} {W : World} {d : Nat} {s : St} (hP : Stays P) (h : Has P W d s) (o : Obj) : Has (Keep2 P W.heap.size o) (W.alloc o) d s := by
  obtain ⟨L, hd, hD, hp⟩ := h
  exact ⟨L, hd, hD.later (below_new W o), hP _ _ L L hD.lt hp (Goes.ofBelow L (below_new W o)), heap_alloc_new _ _, fun q => by have := hD.lt _ q; omega⟩
theorem Has.unkeep2 {P : World → Loc → Prop} {W : World} {d g : Nat} {s : St} {o : Obj} (h : Has (Keep2 P g o) W d s) : Has P W d s ∧ W.heap[g]? = some o := by
  obtain ⟨L, hd, hD, h1, h2, _⟩ := h
  exact ⟨⟨L, hd, hD, h1⟩, h2⟩
set_option maxRecDepth 20000 in
set_option maxHeartbeats 4000000 in
theorem fill_ok (hP : Stays P) (h : Has P W d s) {b l i : Int} (hf : YtlcdpmjdnihocaaP.Fine b l i) (hw : Wide s (mkN b l i + 2)) :
    Calls Try.prog 26 #[.pointer (some ⟨d, 0, none⟩), YtlcdpmjdnihocaaP.layV b l i] W fun e W' => e = .returned (.int .i64 (runL s (mkB b l i)).2) ∧ Has P W' d (runL s (mkB b l i)).1 := by
  have hen := fun u => headEnc_ok hf u
  have hco : ∀ k : Nat, k < mkN b l i → ∀ u, Calls Try.prog 41 #[YtlcdpmjdnihocaaP.layV b l i, .int .i64 (1 + l + (k : Int))] u fun e w' => e = .returned (.agg (blk (Ytlcdpmjdnihocaa.coF b l i (1 + l + (k : Int))))) ∧ Below u.heap.size u w' := fun k hk u => contentD_ok hf (by unfold mkN at hk; obtain ⟨b1, b2, b3, b4, b5, b6, b7, b8⟩ := Ytlcdpmjdnihocaa.fine_bd hf; omega) u
  have HF : Hid (35 ≤ b ∧ b ≤ 1048576 ∧ 32 ≤ l ∧ l ≤ 256 ∧ (mkN b l i : Int) = YtlcdpmjdnihocaaP.dataAt b l i - l ∧ YtlcdpmjdnihocaaP.dataAt b l i < b) := by
    obtain ⟨b1, b2, b3, b4, b5, b6, b7, b8⟩ := Ytlcdpmjdnihocaa.fine_bd hf
    show _ ∧ _
    unfold mkN
    omega
  have HR : Hid (∀ j, j < mkN b l i → mkR b l i j = some (1 + l + (j : Int), Ytlcdpmjdnihocaa.coF b l i (1 + l + (j : Int))) :: mkR b l i (j + 1)) := fun j hj => mkR_step b l i j hj
  have HRe : Hid (mkR b l i (mkN b l i) = []) := mkR_end b l i
  have HB0 : Hid (runL s (mkB b l i) = if writeE s 1 = 0 then runL (writeV s 1 nought) (mkR b l i 0) else (writeV s 1 nought, writeE s 1)) := by
    show _ = _
    unfold mkB
    exact runL_cons _ _ _
  have HCn : Hid (∀ k : Int, Can (Ytlcdpmjdnihocaa.coF b l i k)) := can_co b l i
  have HCz : Hid (Can nought) := can_nought
  have hbh := buildHd
  have HI : Hid _ := layIn b l i
  have l3 : (YtlcdpmjdnihocaaP.lay9 b l i 1 (1 + l) (YtlcdpmjdnihocaaP.nodeB i) (YtlcdpmjdnihocaaP.bitsAt l i) (YtlcdpmjdnihocaaP.bitsB b) (YtlcdpmjdnihocaaP.dataAt b l i))[3]? = some (.int .i64 1) := rfl
  have l4 : (YtlcdpmjdnihocaaP.lay9 b l i 1 (1 + l) (YtlcdpmjdnihocaaP.nodeB i) (YtlcdpmjdnihocaaP.bitsAt l i) (YtlcdpmjdnihocaaP.bitsB b) (YtlcdpmjdnihocaaP.dataAt b l i))[4]? = some (.int .i64 (1 + l)) := rfl
  have l8 : (YtlcdpmjdnihocaaP.lay9 b l i 1 (1 + l) (YtlcdpmjdnihocaaP.nodeB i) (YtlcdpmjdnihocaaP.bitsAt l i) (YtlcdpmjdnihocaaP.bitsB b) (YtlcdpmjdnihocaaP.dataAt b l i))[8]? = some (.int .i64 (YtlcdpmjdnihocaaP.dataAt b l i)) := rfl
  have HL3 : Hid _ := l3
  have HL4 : Hid _ := l4
  have HL8 : Hid _ := l8
  clear l3 l4 l8
  unfold YtlcdpmjdnihocaaP.layV at *
  generalize YtlcdpmjdnihocaaP.lay9 b l i 1 (1 + l) (YtlcdpmjdnihocaaP.nodeB i) (YtlcdpmjdnihocaaP.bitsAt l i) (YtlcdpmjdnihocaaP.bitsB b) (YtlcdpmjdnihocaaP.dataAt b l i) = L at *
  have HCo : Hid (∀ k : Nat, k < mkN b l i → ∀ u, Calls Try.prog 41 #[.agg L, .int .i64 (1 + l + (k : Int))] u fun e w' => e = .returned (.agg (blk (Ytlcdpmjdnihocaa.coF b l i (1 + l + (k : Int))))) ∧ Below u.heap.size u w') := hco
  clear hco
  obtain ⟨R, hR⟩ : ∃ R, runL s (mkB b l i) = R := ⟨_, rfl⟩
  rw [hR] at HB0 ⊢
  generalize YtlcdpmjdnihocaaP.dataAt b l i = D at *
  generalize mkR b l i = mr at *
  generalize Ytlcdpmjdnihocaa.coF b l i = cf at *
  generalize mkN b l i = n at *
  have HWr : Hid (∀ (Q : World → Loc → Prop), Stays Q → ∀ (t : St) (V : World) (k : Int) (f : Nat → Int), Room t → Can f → Has Q V d t → Calls Try.prog 39 #[.pointer (some ⟨d, 0, none⟩), .int .i64 k, .agg (blk f)] V fun e W' => e = .returned (.int .i64 (writeE t k)) ∧ Has Q W' d (writeV t k f)) := fun Q hQ t V k f hr hc hV => has_write hQ hV hr k hc
  have HK : Hid (Has (Keep2 P W.heap.size (.cells L 29)) (W.alloc (.cells L 29)) d s) := h.keep2 hP _
  have hKs := keep2_stays hP W.heap.size (.cells L 29)
  have HKs : Hid _ := hKs
  have HU : Hid (∀ V t, Has (Keep2 P W.heap.size (.cells L 29)) V d t → Has P V d t) := fun V t q => q.unkeep2.1
  have HUl : Hid (∀ V t, Has (Keep2 P W.heap.size (.cells L 29)) V d t → V.heap[W.heap.size]? = some (.cells L 29)) := fun V t q => q.unkeep2.2
  clear h hR
  generalize Keep2 P W.heap.size (.cells L 29) = KP at *
  go_enter Try.func26, Try.ntmps26
  go_upto_region 1 with fail
  generalize W.alloc (.cells L 29) = V at *
  have HLy : Hid _ := HUl.out _ _ HK.out
  have hz := zeroBk
  go_wp2_with (first | (with_reducible refine Ytlcdpmjdnihocaa.isLoadR 29 ?_; refine Ytlcdpmjdnihocaa.wpList_ldR 29 Try.underlying29 rfl rfl _ rfl W.heap.size rfl L 29 (0, 0) HI.out HLy.out ?_) | (go_at_call 40; fail))
  refine (hen _).mono ?_
  rintro e V1 ⟨rfl, hb⟩
  have HK1 : Hid (Has KP (V1.alloc (.cells (blk nought) 46)) d s) := (HK.out.later hKs hb).later hKs (below_new _ _)
  have HB : Hid ((V1.alloc (.cells (blk nought) 46)).heap[V1.heap.size]? = some (.cells (blk nought) 46)) := heap_alloc_new _ _
  clear HK hb hen HLy
  generalize nought = N at *
  go_upto_region 2 with (first | refine wpList_store58_new rfl _ _ rfl N _ V1.heap.size rfl rfl rfl ?_)
  generalize V1.alloc (.cells (blk N) 46) = V2 at *
  generalize V1.heap.size = gb at *
  have hLy2 := HUl.out _ _ HK1.out
  have c3 : V2.cell? ⟨W.heap.size, 3, none⟩ = some (.int .i64 1) := (cell_of_row _ _ 3 _ _ _ hLy2).trans HL3.out
  clear hLy2
  go_wp2_with (first | refine wpList_load58w rfl _ rfl gb rfl N HB.out ?_ | (go_at_call 39; fail))
  refine (HWr.out KP hKs s V2 1 N hw.room HCz.out HK1.out).mono ?_
  rintro e V3 ⟨rfl, hK3⟩
  have HK3 : Hid (Has KP V3 d (writeV s 1 N)) := hK3
  have HW3 : Hid (Wide (writeV s 1 N) (n + 1)) := Wide.doV hw (some (1, N))
  have c4 : V3.cell? ⟨W.heap.size, 4, none⟩ = some (.int .i64 (1 + l)) := (cell_of_row _ _ 4 _ _ _ (HUl.out _ _ hK3)).trans HL4.out
  clear hK3 HK1 c3 HB hw
  generalize writeV s 1 N = t0 at *
  generalize writeE s 1 = e0 at *
  go_wp2_with fail
  clear c4
  go_loopw [6, 7] (fun s6 s7 wx => ∃ (j : Nat) (t : St) (er : Int), j ≤ n ∧ s7 = .int .i64 (1 + l + (j : Int)) ∧ s6 = .int .i64 er ∧ Hid (Has KP wx d t) ∧ Hid (R = if er = 0 then runL t (mr j) else (t, er)) ∧ Hid (Wide t (n + 1 - j))) (fun _ s7 _ => (1 + l + n - intOf s7).toNat)
  case atStart => exact ⟨0, t0, e0, by omega, by simp, rfl, HK3.out, HB0.out, HW3.out⟩
  case round =>
    obtain ⟨j, t, er, hj, rfl, rfl, HT, HRt, HWt⟩ := hrel
    clear HK3 HB0 HW3
    have c8 : wr.cell? ⟨W.heap.size, 8, none⟩ = some (.int .i64 D) := (cell_of_row _ _ 8 _ _ _ (HUl.out _ _ HT.out)).trans HL8.out
    by_cases her : er = 0
    · subst her
      have hRt := HRt.out
      rw [if_pos rfl] at hRt
      by_cases hjn : j < n
      · have hd : decide (1 + l + (j : Int) ≤ D) = true := decide_eq_true (by have := HF.out; omega)
        have HR2 : Hid (R = if writeE t (1 + l + (j : Int)) = 0 then runL (writeV t (1 + l + (j : Int)) (cf (1 + l + (j : Int)))) (mr (j + 1)) else (writeV t (1 + l + (j : Int)) (cf (1 + l + (j : Int))), writeE t (1 + l + (j : Int)))) := by
          show _ = _
          rw [hRt, HR.out j hjn]
          exact runL_cons _ _ _
        have HJ : Hid (j < n ∧ n + 1 - j = (n + 1 - (j + 1)) + 1) := ⟨hjn, by omega⟩
        have HCj : Hid _ := HCo.out j hjn
        have W1 : IntKind.i64.wrap (1 + l + (j : Int) + 1) = 1 + l + ((j + 1 : Nat) : Int) := by have := HF.out; rw [IntKind.wrap_i64]; omega
        clear HRt hRt hjn hj
        go_wp2_with (first | (with_reducible refine Ytlcdpmjdnihocaa.isLoadR 29 ?_; refine Ytlcdpmjdnihocaa.wpList_ldR 29 Try.underlying29 rfl rfl _ rfl W.heap.size rfl L 29 (0, 0) HI.out (HUl.out _ _ HT.out) ?_) | (go_at_call 41; fail))
        refine (HCj.out _).mono ?_
        rintro e V4 ⟨rfl, hb4⟩
        have HT4 : Hid _ := HT.out.later hKs hb4
        have hWj := HWt.out
        rw [HJ.out.2] at hWj
        clear HT hb4 HCj c8
        go_wp2_with (go_at_call 39; fail)
        refine (HWr.out KP hKs t V4 (1 + l + (j : Int)) (cf (1 + l + (j : Int))) hWj.room (HCn.out _) HT4.out).mono ?_
        rintro e V5 ⟨rfl, hK5⟩
        have HK5 : Hid _ := hK5
        have HW5 : Hid (Wide (writeV t (1 + l + (j : Int)) (cf (1 + l + (j : Int)))) (n + 1 - (j + 1))) := hWj.doV (some (1 + l + (j : Int), cf (1 + l + (j : Int))))
        clear hK5 hWj HT4 HWt
        generalize writeV t (1 + l + (j : Int)) (cf (1 + l + (j : Int))) = t2 at *
        generalize writeE t (1 + l + (j : Int)) = e2 at *
        go_wp2_with fail
        exact ⟨⟨j + 1, t2, e2, by have := HJ.out; omega, rfl, rfl, HK5.out, HR2.out, HW5.out⟩, by have := HJ.out; simp [intOf]; omega⟩
      · obtain rfl : j = n := by omega
        have hd : decide (1 + l + (j : Int) ≤ D) = false := decide_eq_false (by have := HF.out; omega)
        have HRr : Hid (R = (t, 0)) := by show _ = _; rw [hRt, HRe.out]; rfl
        clear HRt hRt hjn HWt
        go_wp2_with fail
        go_ret
        exact ⟨by rw [HRr.out]; rfl, by rw [HRr.out]; exact HU.out _ _ HT.out⟩
    · have HRr : Hid (R = (t, er)) := by show _ = _; rw [HRt.out, if_neg her]
      have her2 : (er == 0) = false := by simpa using her
      clear HRt HWt her
      by_cases hd0 : 1 + l + (j : Int) ≤ D
      · have hd : decide (1 + l + (j : Int) ≤ D) = true := decide_eq_true hd0
        clear hd0
        go_wp2_with fail
        go_ret
        exact ⟨by rw [HRr.out]; rfl, by rw [HRr.out]; exact HU.out _ _ HT.out⟩
      · have hd : decide (1 + l + (j : Int) ≤ D) = false := decide_eq_false hd0
        clear hd0
        go_wp2_with fail
        go_ret
        exact ⟨by rw [HRr.out]; rfl, by rw [HRr.out]; exact HU.out _ _ HT.out⟩
end Go.Proofs.YtlcdpmjdnihocaaD
/- Mkfs by the program: Make; for every disk and geometry, numbers of calls not past their greatest. -/
namespace Go.Proofs.YtlcdpmjdnihocaaD
open Go.RowKit
theorem runL_part (p r : List MOp) (t : St) : runL t (p ++ none :: r) = if (runL t p).2 = 0 then (if barE (runL t p).1 = 0 then runL (barV (runL t p).1) r else (barV (runL t p).1, barE (runL t p).1)) else runL t p := by
  rw [runL_append]
  rfl
theorem mkL_zero (b l i : Int) : mkL b l i 0 = mkA ++ none :: mkL b l i 1 := rfl
theorem mkL_one (b l i : Int) : mkL b l i 1 = mkB b l i ++ none :: mkL b l i 2 := rfl
theorem mkL_two (b l i : Int) : mkL b l i 2 = mkC b l i ++ none :: mkL b l i 3 := rfl
theorem Wide.bar {t : St} {k : Nat} (h : Wide t (k + 1)) : Wide (barV t) k := h.doV none
theorem mkN_le {b l i : Int} (hf : YtlcdpmjdnihocaaP.Fine b l i) : mkN b l i ≤ 4300 := by
  obtain ⟨h1, h2, h3, h4, h5, h6⟩ := hf
  unfold mkN
  unfold YtlcdpmjdnihocaaP.dataAt YtlcdpmjdnihocaaP.bitsAt YtlcdpmjdnihocaaP.nodeB YtlcdpmjdnihocaaP.bitsB at *
  omega
theorem mkA_len : mkA.length = 1 := rfl
theorem mkB_len (b l i : Int) : (mkB b l i).length = mkN b l i + 1 := by unfold mkB; rw [List.length_cons, mkR_len]; rfl
theorem mkC_len (b l i : Int) : (mkC b l i).length = 1 := rfl
theorem claimV_wide {s : St} {k : Nat} (h : Wide s k) (hc : s.claims < 1000000000) : Wide (claimV s) k := by
  unfold claimV
  split
  · exact h
  · exact ⟨h.ops, h.made, h.reads, by show s.claims + 1 < _; omega⟩
def wdN (n m : Nat) : Nat := if m = 0 then n + 100 else if m = 1 then n + 98 else if m = 2 then 90 else 80
def ptV : Value := .agg #[.func (.func 25) #[] #[], .func (.func 26) #[] #[], .func (.func 27) #[] #[]]
theorem idx3a (u : World) : (Instr.index 61 ptV (.int .i64 0)).run Try.prog u = .ok (.func (.func 25) #[] #[]) u := by
  unfold ptV
  simp [Instr.index, run_underlying Try.underlying61, asIntOf, part, Try.isAgg60, go_sem]
theorem idx3b (u : World) : (Instr.index 61 ptV (.int .i64 1)).run Try.prog u = .ok (.func (.func 26) #[] #[]) u := by
  unfold ptV
  simp [Instr.index, run_underlying Try.underlying61, asIntOf, part, Try.isAgg60, go_sem]
theorem idx3c (u : World) : (Instr.index 61 ptV (.int .i64 2)).run Try.prog u = .ok (.func (.func 27) #[] #[]) u := by
  unfold ptV
  simp [Instr.index, run_underlying Try.underlying61, asIntOf, part, Try.isAgg60, go_sem]
variable {P : World → Loc → Prop} {W : World} {d : Nat} {s : St}
theorem rdy_fine {b l i : Int} {s : St} (h : rdyE b l i s = 0) : YtlcdpmjdnihocaaP.Fine b l i := by
  unfold rdyE YtlcdpmjdnihocaaP.ofE at h
  by_cases hf : YtlcdpmjdnihocaaP.Fine b l i
  · exact hf
  · rw [if_neg hf] at h
    rw [if_pos (.inl (by decide))] at h
    omega
set_option maxRecDepth 20000 in
set_option maxHeartbeats 4000000 in
theorem make_ok (hP : Stays P) (h : Has P W d s) (b l i : Int) (hb : YtlcdpmjdnihocaaP.I64 b) (hw : Wide s 10000) (hc : s.claims < 1000000000) :
    Calls Try.prog 11 #[.pointer (some ⟨d, 0, none⟩), YtlcdpmjdnihocaaP.geoV b l i] W fun e W' => e = .returned (.int .i64 (mkE b l i s)) ∧ Has P W' d (mkV b l i s) := by
  have hK : Has P (W.alloc (.cells #[.int .i64 b, .int .i64 l, .int .i64 i] 26)) d s := h.later hP (below_new _ _)
  have hrd := ready_ok hP hK b l i hb
  have hG : (W.alloc (.cells #[.int .i64 b, .int .i64 l, .int .i64 i] 26)).heap[W.heap.size]? = some (.cells #[.int .i64 b, .int .i64 l, .int .i64 i] 26) := heap_alloc_new _ _
  have HGi : Hid ((Try.prog.info? 26).map (·.size) = some (#[Value.int .i64 b, .int .i64 l, .int .i64 i] : Array Value).size) := by show _ = _; kernel_rfl
  have HG : Hid _ := hG
  have zl := zeroLy
  have HI : Hid _ := layIn b l i
  have HZi : Hid _ := lay9_size 0 0 0 0 0 0 0 0 0
  have HZo : Hid _ := lay9_one 0 0 0 0 0 0 0 0 0
  have HLo : Hid _ := lay9_one b l i 1 (1 + l) (YtlcdpmjdnihocaaP.nodeB i) (YtlcdpmjdnihocaaP.bitsAt l i) (YtlcdpmjdnihocaaP.bitsB b) (YtlcdpmjdnihocaaP.dataAt b l i)
  have HLs : Hid ((YtlcdpmjdnihocaaP.lay9 0 0 0 0 0 0 0 0 0).size = (YtlcdpmjdnihocaaP.lay9 b l i 1 (1 + l) (YtlcdpmjdnihocaaP.nodeB i) (YtlcdpmjdnihocaaP.bitsAt l i) (YtlcdpmjdnihocaaP.bitsB b) (YtlcdpmjdnihocaaP.dataAt b l i)).size) := rfl
  clear hG hK
  unfold YtlcdpmjdnihocaaP.geoV at *
  by_cases hr : rdyE b l i s = 0
  · have hf := rdy_fine hr
    have HE : Hid (mkE b l i s = (runL (claimV s) (mkL b l i 0)).2) := by show _ = _; unfold mkE; rw [if_pos hr]
    have HV : Hid (mkV b l i s = (runL (claimV s) (mkL b l i 0)).1) := by show _ = _; unfold mkV; rw [if_pos hr]
    rw [if_pos hr, hr] at hrd
    rw [HE.out, HV.out]
    have HWd : Hid (Wide (claimV s) (mkN b l i + 100)) := (claimV_wide hw hc).less (by have := mkN_le hf; omega)
    obtain ⟨R, hR⟩ : ∃ R, runL (claimV s) (mkL b l i 0) = R := ⟨_, rfl⟩
    rw [hR]
    have HR0 : Hid (R = runL (claimV s) (mkL b l i 0)) := hR.symm
    have HR1 : Hid (∀ t, runL t (mkL b l i 0) = if (runL t mkA).2 = 0 then (if barE (runL t mkA).1 = 0 then runL (barV (runL t mkA).1) (mkL b l i 1) else (barV (runL t mkA).1, barE (runL t mkA).1)) else runL t mkA) := fun t => runL_part mkA (mkL b l i 1) t
    have HR2 : Hid (∀ t, runL t (mkL b l i 1) = if (runL t (mkB b l i)).2 = 0 then (if barE (runL t (mkB b l i)).1 = 0 then runL (barV (runL t (mkB b l i)).1) (mkL b l i 2) else (barV (runL t (mkB b l i)).1, barE (runL t (mkB b l i)).1)) else runL t (mkB b l i)) := fun t => runL_part (mkB b l i) (mkL b l i 2) t
    have HR3 : Hid (∀ t, runL t (mkL b l i 2) = if (runL t (mkC b l i)).2 = 0 then (if barE (runL t (mkC b l i)).1 = 0 then runL (barV (runL t (mkC b l i)).1) (mkL b l i 3) else (barV (runL t (mkC b l i)).1, barE (runL t (mkC b l i)).1)) else runL t (mkC b l i)) := fun t => runL_part (mkC b l i) (mkL b l i 3) t
    have HR4 : Hid (∀ t, runL t (mkL b l i 3) = (t, 0)) := fun t => rfl
    have HA : Hid (∀ (Q : World → Loc → Prop), Stays Q → ∀ V t, Has Q V d t → Room t → Calls Try.prog 25 #[.pointer (some ⟨d, 0, none⟩), YtlcdpmjdnihocaaP.layV b l i] V fun e W' => e = .returned (.int .i64 (runL t mkA).2) ∧ Has Q W' d (runL t mkA).1) := fun Q hQ V t hV hT => erase_ok hQ hV hT b l i
    have HB : Hid (∀ (Q : World → Loc → Prop), Stays Q → ∀ V t, Has Q V d t → Wide t (mkN b l i + 2) → Calls Try.prog 26 #[.pointer (some ⟨d, 0, none⟩), YtlcdpmjdnihocaaP.layV b l i] V fun e W' => e = .returned (.int .i64 (runL t (mkB b l i)).2) ∧ Has Q W' d (runL t (mkB b l i)).1) := fun Q hQ V t hV hT => fill_ok hQ hV hf hT
    have HC : Hid (∀ (Q : World → Loc → Prop), Stays Q → ∀ V t, Has Q V d t → Room t → Calls Try.prog 27 #[.pointer (some ⟨d, 0, none⟩), YtlcdpmjdnihocaaP.layV b l i] V fun e W' => e = .returned (.int .i64 (runL t (mkC b l i)).2) ∧ Has Q W' d (runL t (mkC b l i)).1) := fun Q hQ V t hV hT => sign_ok hQ hV hT hf
    have HWA : Hid (∀ t k, Wide t (k + 2) → Wide (runL t mkA).1 (k + 1)) := fun t k q => Wide.run (by rw [mkA_len]; exact q.less (by omega))
    have HWB : Hid (∀ t k, Wide t (mkN b l i + k + 2) → Wide (runL t (mkB b l i)).1 (k + 1)) := fun t k q => Wide.run (by rw [mkB_len]; exact q.less (by omega))
    have HWC : Hid (∀ t k, Wide t (k + 2) → Wide (runL t (mkC b l i)).1 (k + 1)) := fun t k q => Wide.run (by rw [mkC_len]; exact q.less (by omega))
    have HBr : Hid (∀ (Q : World → Loc → Prop), Stays Q → ∀ V t, Has Q V d t → Room t → Calls Try.prog 28 #[.pointer (some ⟨d, 0, none⟩)] V fun e W' => e = .returned (.int .i64 (barE t)) ∧ Has Q W' d (barV t)) := fun Q hQ V t hV hT => has_barrier hQ hV hT
    have HCl : Hid (∀ (Q : World → Loc → Prop), Stays Q → ∀ V t, Has Q V d t → Room t → Calls Try.prog 24 #[.pointer (some ⟨d, 0, none⟩)] V fun e W' => e = .returned (.int .i64 (claimN t)) ∧ Has Q W' d (claimV t)) := fun Q hQ V t hV hT => has_claim hQ hV hT
    have HRm : Hid (Room s) := hw.room
    clear hR hf hw hc hr h
    unfold YtlcdpmjdnihocaaP.layV at *
    generalize YtlcdpmjdnihocaaP.lay9 b l i 1 (1 + l) (YtlcdpmjdnihocaaP.nodeB i) (YtlcdpmjdnihocaaP.bitsAt l i) (YtlcdpmjdnihocaaP.bitsB b) (YtlcdpmjdnihocaaP.dataAt b l i) = L at *
    generalize YtlcdpmjdnihocaaP.lay9 0 0 0 0 0 0 0 0 0 = Z at *
    generalize mkN b l i = n at *
    generalize mkL b l i = ml at *
    generalize mkB b l i = pB at *
    generalize mkC b l i = pC at *
    generalize mkA = pA at *
    have hi0 := idx3a
    have hi1 := idx3b
    have hi2 := idx3c
    unfold ptV at hi0 hi1 hi2
    go_enter Try.func11, Try.ntmps11
    go_upto_region 1 with fail
    generalize W.alloc (.cells #[.int .i64 b, .int .i64 l, .int .i64 i] 26) = V0 at *
    go_wp2_with (first | (with_reducible refine Ytlcdpmjdnihocaa.isLoadR 26 ?_; refine Ytlcdpmjdnihocaa.wpList_ldR 26 Try.underlying26 rfl rfl _ rfl W.heap.size rfl #[.int .i64 b, .int .i64 l, .int .i64 i] 26 (0, 0) HGi.out HG.out ?_) | (go_at_call 23; fail))
    refine hrd.mono ?_
    rintro e V1 ⟨rfl, hH1⟩
    have HK : Hid (Has (Keep2 P V1.heap.size (.cells L 29)) (V1.alloc (.cells L 29)) d s) := hH1.keep2 hP _
    have HKs : Hid (Stays (Keep2 P V1.heap.size (.cells L 29))) := keep2_stays hP V1.heap.size (.cells L 29)
    have HU : Hid (∀ V t, Has (Keep2 P V1.heap.size (.cells L 29)) V d t → Has P V d t) := fun V t q => q.unkeep2.1
    have HUl : Hid (∀ V t, Has (Keep2 P V1.heap.size (.cells L 29)) V d t → V.heap[V1.heap.size]? = some (.cells L 29)) := fun V t q => q.unkeep2.2
    clear hH1 hrd HG
    generalize Keep2 P V1.heap.size (.cells L 29) = KP at *
    go_upto_region 2 with (first | (with_reducible refine Ytlcdpmjdnihocaa.isStoreR 29 ?_; refine Ytlcdpmjdnihocaa.wpList_stNew 29 rfl _ _ rfl V1.heap.size L Z 29 HI.out HLs.out HLo.out rfl rfl rfl ?_))
    generalize V1.alloc (.cells L 29) = V2 at *
    generalize V1.heap.size = gl at *
    go_wp2_with (go_at_call 24; fail)
    refine (HCl.out KP HKs.out V2 s HK.out HRm.out).mono ?_
    rintro e V3 ⟨rfl, hK3⟩
    have HK3 : Hid (Has KP V3 d (claimV s)) := hK3
    clear hK3 HK HRm HCl
    generalize claimV s = t0 at *
    generalize claimN s = c0 at *
    go_wp2_with fail
    go_loopw [23] (fun s23 wx => ∃ (m : Nat) (t : St), m ≤ 3 ∧ s23 = .int .i64 (m : Int) ∧ Hid (Has KP wx d t) ∧ Hid (R = runL t (ml m)) ∧ Hid (Wide t (wdN n m)))  (fun s23 _ => (3 - intOf s23).toNat)
    case atStart => exact ⟨0, t0, by omega, rfl, HK3.out, HR0.out, HWd.out⟩
    case round =>
      obtain ⟨m, t, hm, rfl, HT, HRt, HWt⟩ := hrel
      clear HK3 HR0 HWd
      have HLy : Hid _ := HUl.out _ _ HT.out
      by_cases h0 : m = 0
      · subst h0
        have hWt : Wide t (n + 100) := HWt.out
        have hW1 : Wide (runL t pA).1 (n + 98 + 1) := HWA.out t (n + 98) (hWt.less (by omega))
        have hRt := HRt.out
        rw [HR1.out t] at hRt
        have HRm : Hid _ := hRt
        go_wp2_with (first | (with_reducible refine Ytlcdpmjdnihocaa.isLoadR 29 ?_; refine Ytlcdpmjdnihocaa.wpList_ldR 29 Try.underlying29 rfl rfl _ rfl gl rfl L 29 (0, 0) HI.out HLy.out ?_) | (go_at_call 25; fail))
        refine (HA.out KP HKs.out wr t HT.out hWt.room).mono ?_
        rintro e V4 ⟨rfl, hK4⟩
        have HK4 : Hid (Has KP V4 d (runL t pA).1) := hK4
        have HW4 : Hid (Wide (runL t pA).1 (n + 98 + 1)) := hW1
        clear hK4 hWt hW1 HT HRt HWt HLy hRt
        obtain ⟨q, hq⟩ : ∃ q, runL t pA = q := ⟨_, rfl⟩
        rw [hq] at HK4 HW4 HRm ⊢
        clear hq
        obtain ⟨t1, e1⟩ := q
        dsimp only at HK4 HW4 HRm ⊢
        by_cases he : e1 = 0
        · subst he
          have hRm := HRm.out
          rw [if_pos rfl] at hRm
          have HRm : Hid _ := hRm
          go_wp2_with (go_at_call 28; fail)
          refine (HBr.out KP HKs.out V4 t1 HK4.out HW4.out.room).mono ?_
          rintro e V5 ⟨rfl, hK5⟩
          have HK5 : Hid (Has KP V5 d (barV t1)) := hK5
          have HW5 : Hid (Wide (barV t1) (n + 98)) := HW4.out.bar
          clear hK5 HK4 HW4 hRm
          generalize barV t1 = t2 at *
          generalize barE t1 = e2 at *
          by_cases he2 : e2 = 0
          · subst he2
            have hRm := HRm.out
            rw [if_pos rfl] at hRm
            have HRn : Hid (R = runL t2 (ml 1)) := hRm
            clear HRm hRm
            go_wp2_with fail
            exact ⟨⟨1, t2, by omega, by go_num, HK5.out, HRn.out, HW5.out.less (by unfold wdN; simp)⟩, by simp [intOf]⟩
          · have hRm := HRm.out
            rw [if_neg he2] at hRm
            have HRn : Hid (R = (t2, e2)) := hRm
            have hne : (e2 != 0) = true := by simpa using he2
            clear HRm hRm he2
            go_wp2_with fail
            go_ret
            exact ⟨by rw [HRn.out]; rfl, by rw [HRn.out]; exact HU.out _ _ HK5.out⟩
        · have hRm := HRm.out
          rw [if_neg he] at hRm
          have HRn : Hid (R = (t1, e1)) := hRm
          have hne : (e1 != 0) = true := by simpa using he
          clear HRm hRm he
          go_wp2_with fail
          go_ret
          exact ⟨by rw [HRn.out]; rfl, by rw [HRn.out]; exact HU.out _ _ HK4.out⟩
      by_cases h1 : m = 1
      · subst h1
        have hWt : Wide t (n + 98) := HWt.out
        have hW1 : Wide (runL t pB).1 (90 + 1) := HWB.out t 90 (hWt.less (by omega))
        have hRt := HRt.out
        rw [HR2.out t] at hRt
        have HRm : Hid _ := hRt
        go_wp2_with (first | (with_reducible refine Ytlcdpmjdnihocaa.isLoadR 29 ?_; refine Ytlcdpmjdnihocaa.wpList_ldR 29 Try.underlying29 rfl rfl _ rfl gl rfl L 29 (0, 0) HI.out HLy.out ?_) | (go_at_call 26; fail))
        refine (HB.out KP HKs.out wr t HT.out (hWt.less (by omega))).mono ?_
        rintro e V4 ⟨rfl, hK4⟩
        have HK4 : Hid (Has KP V4 d (runL t pB).1) := hK4
        have HW4 : Hid (Wide (runL t pB).1 (90 + 1)) := hW1
        clear hK4 hWt hW1 HT HRt HWt HLy hRt
        obtain ⟨q, hq⟩ : ∃ q, runL t pB = q := ⟨_, rfl⟩
        rw [hq] at HK4 HW4 HRm ⊢
        clear hq
        obtain ⟨t1, e1⟩ := q
        dsimp only at HK4 HW4 HRm ⊢
        by_cases he : e1 = 0
        · subst he
          have hRm := HRm.out
          rw [if_pos rfl] at hRm
          have HRm : Hid _ := hRm
          go_wp2_with (go_at_call 28; fail)
          refine (HBr.out KP HKs.out V4 t1 HK4.out HW4.out.room).mono ?_
          rintro e V5 ⟨rfl, hK5⟩
          have HK5 : Hid (Has KP V5 d (barV t1)) := hK5
          have HW5 : Hid (Wide (barV t1) (90)) := HW4.out.bar
          clear hK5 HK4 HW4 hRm
          generalize barV t1 = t2 at *
          generalize barE t1 = e2 at *
          by_cases he2 : e2 = 0
          · subst he2
            have hRm := HRm.out
            rw [if_pos rfl] at hRm
            have HRn : Hid (R = runL t2 (ml 2)) := hRm
            clear HRm hRm
            go_wp2_with fail
            exact ⟨⟨2, t2, by omega, by go_num, HK5.out, HRn.out, HW5.out.less (by unfold wdN; simp)⟩, by simp [intOf]⟩
          · have hRm := HRm.out
            rw [if_neg he2] at hRm
            have HRn : Hid (R = (t2, e2)) := hRm
            have hne : (e2 != 0) = true := by simpa using he2
            clear HRm hRm he2
            go_wp2_with fail
            go_ret
            exact ⟨by rw [HRn.out]; rfl, by rw [HRn.out]; exact HU.out _ _ HK5.out⟩
        · have hRm := HRm.out
          rw [if_neg he] at hRm
          have HRn : Hid (R = (t1, e1)) := hRm
          have hne : (e1 != 0) = true := by simpa using he
          clear HRm hRm he
          go_wp2_with fail
          go_ret
          exact ⟨by rw [HRn.out]; rfl, by rw [HRn.out]; exact HU.out _ _ HK4.out⟩
      by_cases h2 : m = 2
      · subst h2
        have hWt : Wide t 90 := HWt.out
        have hW1 : Wide (runL t pC).1 (80 + 1) := HWC.out t 80 (hWt.less (by omega))
        have hRt := HRt.out
        rw [HR3.out t] at hRt
        have HRm : Hid _ := hRt
        go_wp2_with (first | (with_reducible refine Ytlcdpmjdnihocaa.isLoadR 29 ?_; refine Ytlcdpmjdnihocaa.wpList_ldR 29 Try.underlying29 rfl rfl _ rfl gl rfl L 29 (0, 0) HI.out HLy.out ?_) | (go_at_call 27; fail))
        refine (HC.out KP HKs.out wr t HT.out hWt.room).mono ?_
        rintro e V4 ⟨rfl, hK4⟩
        have HK4 : Hid (Has KP V4 d (runL t pC).1) := hK4
        have HW4 : Hid (Wide (runL t pC).1 (80 + 1)) := hW1
        clear hK4 hWt hW1 HT HRt HWt HLy hRt
        obtain ⟨q, hq⟩ : ∃ q, runL t pC = q := ⟨_, rfl⟩
        rw [hq] at HK4 HW4 HRm ⊢
        clear hq
        obtain ⟨t1, e1⟩ := q
        dsimp only at HK4 HW4 HRm ⊢
        by_cases he : e1 = 0
        · subst he
          have hRm := HRm.out
          rw [if_pos rfl] at hRm
          have HRm : Hid _ := hRm
          go_wp2_with (go_at_call 28; fail)
          refine (HBr.out KP HKs.out V4 t1 HK4.out HW4.out.room).mono ?_
          rintro e V5 ⟨rfl, hK5⟩
          have HK5 : Hid (Has KP V5 d (barV t1)) := hK5
          have HW5 : Hid (Wide (barV t1) (80)) := HW4.out.bar
          clear hK5 HK4 HW4 hRm
          generalize barV t1 = t2 at *
          generalize barE t1 = e2 at *
          by_cases he2 : e2 = 0
          · subst he2
            have hRm := HRm.out
            rw [if_pos rfl] at hRm
            have HRn : Hid (R = runL t2 (ml 3)) := hRm
            clear HRm hRm
            go_wp2_with fail
            exact ⟨⟨3, t2, by omega, by go_num, HK5.out, HRn.out, HW5.out.less (by unfold wdN; simp)⟩, by simp [intOf]⟩
          · have hRm := HRm.out
            rw [if_neg he2] at hRm
            have HRn : Hid (R = (t2, e2)) := hRm
            have hne : (e2 != 0) = true := by simpa using he2
            clear HRm hRm he2
            go_wp2_with fail
            go_ret
            exact ⟨by rw [HRn.out]; rfl, by rw [HRn.out]; exact HU.out _ _ HK5.out⟩
        · have hRm := HRm.out
          rw [if_neg he] at hRm
          have HRn : Hid (R = (t1, e1)) := hRm
          have hne : (e1 != 0) = true := by simpa using he
          clear HRm hRm he
          go_wp2_with fail
          go_ret
          exact ⟨by rw [HRn.out]; rfl, by rw [HRn.out]; exact HU.out _ _ HK4.out⟩
      obtain rfl : m = 3 := by omega
      have hRt := HRt.out
      rw [HR4.out t] at hRt
      have HRn : Hid (R = (t, 0)) := hRt
      clear hRt HRt HWt HLy
      go_wp2_with fail
      go_ret
      exact ⟨by rw [HRn.out]; rfl, by rw [HRn.out]; exact HU.out _ _ HT.out⟩
  · have HE : Hid (mkE b l i s = rdyE b l i s) := by show _ = _; unfold mkE; rw [if_neg hr]
    have HV : Hid (mkV b l i s = s) := by show _ = _; unfold mkV; rw [if_neg hr]
    rw [if_neg hr] at hrd
    rw [HE.out, HV.out]
    have hne : (rdyE b l i s != 0) = true := by simpa using hr
    clear hr h hw hc HE HV
    unfold YtlcdpmjdnihocaaP.layZ at *
    generalize rdyE b l i s = re at *
    generalize YtlcdpmjdnihocaaP.lay9 0 0 0 0 0 0 0 0 0 = Z at *
    have HZs : Hid (Z.size = Z.size) := (rfl : Z.size = Z.size)
    go_enter Try.func11, Try.ntmps11
    go_upto_region 1 with fail
    generalize W.alloc (.cells #[.int .i64 b, .int .i64 l, .int .i64 i] 26) = V0 at *
    go_wp2_with (first | (with_reducible refine Ytlcdpmjdnihocaa.isLoadR 26 ?_; refine Ytlcdpmjdnihocaa.wpList_ldR 26 Try.underlying26 rfl rfl _ rfl W.heap.size rfl #[.int .i64 b, .int .i64 l, .int .i64 i] 26 (0, 0) HGi.out HG.out ?_) | (go_at_call 23; fail))
    refine hrd.mono ?_
    rintro e V1 ⟨rfl, hH1⟩
    have HK : Hid (Has P (V1.alloc (.cells Z 29)) d s) := hH1.later hP (below_new _ _)
    clear hH1 hrd HG
    go_wp2_with (first | (with_reducible refine Ytlcdpmjdnihocaa.isStoreR 29 ?_; refine Ytlcdpmjdnihocaa.wpList_stNew 29 rfl _ _ rfl V1.heap.size Z Z 29 HZi.out (rfl : Z.size = Z.size) HZo.out rfl rfl rfl ?_))
    go_ret
    exact ⟨rfl, HK.out⟩
end Go.Proofs.YtlcdpmjdnihocaaD
/- What a row of writes and barriers leaves on a disk, wherever it stops, whatever is kept: the plain side of mkfs; no condition but that the writes are within the disk. -/
namespace Go.Proofs.YtlcdpmjdnihocaaD
open Go.RowKit
/-- One that is let through. -/
def goV (s : St) : MOp → St
  | some c => writeS s c.1 c.2
  | none => barS s
def allV (s : St) (l : List MOp) : St := l.foldl goV s
theorem allV_cons (s : St) (o : MOp) (l : List MOp) : allV s (o :: l) = allV (goV s o) l := rfl
theorem allV_append (s : St) (a b : List MOp) : allV s (a ++ b) = allV (allV s a) b := by unfold allV; rw [List.foldl_append]
/-- Within the disk. -/
def InOp (n : Int) : MOp → Prop
  | some c => 0 ≤ c.1 ∧ c.1 < n
  | none => True
theorem goV_rest (s : St) (o : MOp) : (goV s o).n = s.n ∧ (goV s o).made = (letV s).made ∧ (goV s o).reads = s.reads ∧ (goV s o).claims = s.claims ∧ (goV s o).fuse = (letV s).fuse ∧ (goV s o).stopped = (letV s).stopped ∧ (goV s o).claimed = s.claimed := by
  obtain ⟨_, l2, l3, l4⟩ := letV_most s
  cases o with
  | none =>
    obtain ⟨b1, b2, b3, b4, b5, b6, b7, _, _⟩ := barS_rest s
    exact ⟨b1, b2, b3.trans l2, b4.trans l3, b5, b6, b7.trans l4⟩
  | some c => exact ⟨letV_n s, rfl, l2, l3, rfl, rfl, l4⟩
theorem do_goes {s : St} {o : MOp} (hs : s.stopped = false) (hl : lets s = true) (ho : InOp s.n o) : doE s o = 0 ∧ doV s o = goV s o := by
  cases o with
  | none => exact ⟨by show barE s = 0; unfold barE; rw [hs, hl]; rfl, by show barV s = barS s; unfold barV; rw [hs, hl]; rfl⟩
  | some c =>
    have hr : refV s c.1 = 0 := by unfold refV; rw [hs, if_neg (by simp), if_pos (show 0 ≤ c.1 ∧ c.1 < s.n from ho)]
    exact ⟨by show writeE s c.1 = 0; unfold writeE; rw [if_pos hr, if_pos hl], by show writeV s c.1 c.2 = writeS s c.1 c.2; unfold writeV; rw [if_pos hr, if_pos hl]⟩
theorem do_dead {s : St} {o : MOp} (hs : s.stopped = false) (hl : lets s = false) (ho : InOp s.n o) : doE s o = 3 ∧ doV s o = { s with stopped := true } := by
  cases o with
  | none => exact ⟨by show barE s = 3; unfold barE; rw [hs, hl]; rfl, by show barV s = _; unfold barV; rw [hs, hl]; exact letV_dead hl⟩
  | some c =>
    have hr : refV s c.1 = 0 := by unfold refV; rw [hs, if_neg (by simp), if_pos (show 0 ≤ c.1 ∧ c.1 < s.n from ho)]
    refine ⟨by show writeE s c.1 = 3; unfold writeE; rw [if_pos hr, if_neg (by rw [hl]; simp)], ?_⟩
    show writeV s c.1 c.2 = _
    unfold writeV
    rw [if_pos hr, if_neg (by rw [hl]; simp)]
    exact letV_dead hl
theorem lets_fuse {s : St} (h : s.fuse ≠ 0) : lets s = true ∧ (letV s).fuse = (if s.fuse = -1 then -1 else s.fuse - 1) ∧ (letV s).made = s.made + 1 ∧ (letV s).stopped = s.stopped := by
  have hl : lets s = true := by unfold lets; simpa using h
  obtain ⟨h1, h2, _, _, h5⟩ := letV_live hl
  exact ⟨hl, h5, h2, h1⟩
/-- All of it goes through. -/
theorem run_goes : ∀ (l : List MOp) (s : St), s.stopped = false → (∀ o ∈ l, InOp s.n o) → (s.fuse = -1 ∨ (l.length : Int) ≤ s.fuse) → runL s l = (allV s l, 0) ∧ (allV s l).stopped = false ∧ (allV s l).made = s.made + l.length ∧ (allV s l).n = s.n ∧ (allV s l).reads = s.reads ∧ (allV s l).claims = s.claims ∧ (allV s l).fuse = (if s.fuse = -1 then -1 else s.fuse - l.length) ∧ (allV s l).claimed = s.claimed
  | [], s, hs, _, _ => by
    refine ⟨rfl, hs, by simp [allV], rfl, rfl, rfl, ?_, rfl⟩
    show s.fuse = _
    split
    · assumption
    · simp
  | o :: t, s, hs, ho, hf => by
    have h0 : s.fuse ≠ 0 := by rw [List.length_cons] at hf; omega
    obtain ⟨hl, f1, f2, f3⟩ := lets_fuse h0
    obtain ⟨d1, d2⟩ := do_goes hs hl (ho o (by simp))
    obtain ⟨g1, g2, g3, g4, g5, g6, g7⟩ := goV_rest s o
    have hs2 : (goV s o).stopped = false := g6.trans (f3.trans hs)
    have ih := run_goes t (goV s o) hs2 (fun x hx => by rw [g1]; exact ho x (by simp [hx])) (by
      rw [g5, f1]
      rw [List.length_cons] at hf
      split
      · exact .inl rfl
      · exact .inr (by omega))
    obtain ⟨i1, i2, i3, i4, i5, i6, i7, i8⟩ := ih
    rw [runL_cons, d1, if_pos rfl, d2, allV_cons]
    refine ⟨i1, i2, by rw [i3, g2, f2, List.length_cons]; omega, i4.trans g1, i5.trans g3, i6.trans g4, ?_, i8.trans g7⟩
    rw [i7, g5, f1, List.length_cons]
    by_cases q : s.fuse = -1
    · rw [if_pos q, if_pos rfl, if_pos q]
    · rw [if_neg q, if_neg q, if_neg (by rw [List.length_cons] at hf; omega)]
      omega
/-- It stops where the fuse has none left. -/
theorem run_stops : ∀ (l : List MOp) (s : St), s.stopped = false → (∀ o ∈ l, InOp s.n o) → 0 ≤ s.fuse → s.fuse < l.length → runL s l = ({ allV s (l.take s.fuse.toNat) with stopped := true }, 3) ∧ (allV s (l.take s.fuse.toNat)).made = s.made + s.fuse
  | [], s, _, _, h0, h1 => by simp at h1; omega
  | o :: t, s, hs, ho, h0, h1 => by
    by_cases q : s.fuse = 0
    · have hl : lets s = false := by unfold lets; simp [q]
      obtain ⟨d1, d2⟩ := do_dead hs hl (ho o (by simp))
      rw [runL_cons, d1, if_neg (by decide), d2, show s.fuse.toNat = 0 by omega]
      exact ⟨rfl, by simp [allV, q]⟩
    · obtain ⟨hl, f1, f2, f3⟩ := lets_fuse q
      obtain ⟨d1, d2⟩ := do_goes hs hl (ho o (by simp))
      obtain ⟨g1, g2, g3, g4, g5, g6, g7⟩ := goV_rest s o
      have hfu : (goV s o).fuse = s.fuse - 1 := by rw [g5, f1, if_neg (by omega)]
      have ih := run_stops t (goV s o) (g6.trans (f3.trans hs)) (fun x hx => by rw [g1]; exact ho x (by simp [hx])) (by rw [hfu]; omega) (by rw [hfu]; rw [List.length_cons] at h1; omega)
      obtain ⟨i1, i2⟩ := ih
      have ht : s.fuse.toNat = (goV s o).fuse.toNat + 1 := by rw [hfu]; omega
      rw [runL_cons, d1, if_pos rfl, d2, ht, List.take_succ_cons, allV_cons]
      exact ⟨i1, by rw [i2, g2, f2, hfu]; omega⟩
/-- What is held and what waits goes by that alone. -/
theorem goV_hw {s t : St} (h1 : s.held = t.held) (h2 : s.wait = t.wait) (o : MOp) : (goV s o).held = (goV t o).held ∧ (goV s o).wait = (goV t o).wait := by
  cases o with
  | none =>
    refine ⟨?_, rfl⟩
    obtain ⟨_, _, _, _, _, _, _, _, e1⟩ := barS_rest s
    obtain ⟨_, _, _, _, _, _, _, _, e2⟩ := barS_rest t
    show (barS s).held = (barS t).held
    rw [e1, e2, h2]
    have key : ∀ (l : List Cel) (a b : St), a.held = b.held → (holdAll a l).held = (holdAll b l).held := fun l => by
      induction l with
      | nil => exact fun a b q => q
      | cons c t ih =>
        intro a b q
        exact ih (holdV a c.1 c.2) (holdV b c.1 c.2) (by unfold holdV; rw [q])
    exact key _ _ _ h1
  | some c => exact ⟨by show (letV s).held = (letV t).held; rw [letV_held, letV_held, h1], by show s.wait ++ _ = t.wait ++ _; rw [h2]⟩
theorem allV_hw : ∀ (l : List MOp) {s t : St}, s.held = t.held → s.wait = t.wait → (allV s l).held = (allV t l).held ∧ (allV s l).wait = (allV t l).wait
  | [], _, _, h1, h2 => ⟨h1, h2⟩
  | o :: l, s, t, h1, h2 => by
    obtain ⟨g1, g2⟩ := goV_hw h1 h2 o
    rw [allV_cons, allV_cons]
    exact allV_hw l g1 g2
theorem allV_writes : ∀ (cs : List Cel) (s : St), (allV s (cs.map some)).held = s.held ∧ (allV s (cs.map some)).wait = s.wait ++ cs
  | [], s => ⟨rfl, by simp [allV]⟩
  | c :: t, s => by
    obtain ⟨h1, h2⟩ := allV_writes t (goV s (some c))
    rw [List.map_cons, allV_cons]
    refine ⟨h1.trans (letV_held s), ?_⟩
    rw [h2]
    show (s.wait ++ [(c.1, c.2)]) ++ t = _
    simp
theorem allV_bar (s : St) : (allV s [none]).held = (holdAll s s.wait).held ∧ (allV s [none]).wait = [] := by
  obtain ⟨_, _, _, _, _, _, _, h1, h2⟩ := barS_rest s
  exact ⟨h2, h1⟩
theorem holdAll_held {s t : St} (h : s.held = t.held) (l : List Cel) : (holdAll s l).held = (holdAll t l).held := by
  induction l generalizing s t with
  | nil => exact h
  | cons c l ih => exact ih (s := holdV s c.1 c.2) (t := holdV t c.1 c.2) (by unfold holdV; rw [h])
theorem holdAll_off (k : Int) : ∀ (l : List Cel) (s : St), (∀ c ∈ l, c.1 ≠ k) → (holdAll s l).held k = s.held k
  | [], _, _ => rfl
  | c :: t, s, h => by
    show (holdAll (holdV s c.1 c.2) t).held k = _
    rw [holdAll_off k t _ fun x hx => h x (by simp [hx])]
    show (if k = c.1 then _ else s.held k) = _
    rw [if_neg fun q => h c (by simp) q.symm]
theorem kept_sub : ∀ (l : List Cel) (kl : List Bool) (c : Cel), c ∈ keptL l kl → c ∈ l
  | [], kl, c, h => by unfold keptL at h; simp at h
  | x :: t, [], c, h => by unfold keptL at h; simp at h
  | x :: t, true :: kl, c, h => by
    unfold keptL at h
    rcases List.mem_cons.1 h with h | h
    · simp [h]
    · exact List.mem_cons_of_mem _ (kept_sub t kl c h)
  | x :: t, false :: kl, c, h => by
    unfold keptL at h
    exact List.mem_cons_of_mem _ (kept_sub t kl c h)
/-- The cells of the second part. -/
def mkBs (b l i : Int) : List Cel := (1, nought) :: (List.range (mkN b l i)).map fun (q : Nat) => (1 + l + (q : Int), Ytlcdpmjdnihocaa.coF b l i (1 + l + (q : Int)))
theorem mkB_eq (b l i : Int) : mkB b l i = (mkBs b l i).map some := by
  unfold mkB mkBs mkR
  rw [List.map_cons, List.map_map, List.drop_zero]
  rfl
theorem mkBs_pos {b l i : Int} (hf : YtlcdpmjdnihocaaP.Fine b l i) : ∀ c ∈ mkBs b l i, (1 ≤ c.1 ∧ c.1 < b) ∧ Can c.2 := fun c hc => by
  obtain ⟨b1, b2, b3, b4, b5, b6, b7, b8⟩ := Ytlcdpmjdnihocaa.fine_bd hf
  unfold mkBs at hc
  rcases List.mem_cons.1 hc with rfl | hc
  · exact ⟨⟨by show (1 : Int) ≤ 1; omega, by show (1 : Int) < b; omega⟩, can_nought⟩
  · obtain ⟨q, hq, rfl⟩ := List.mem_map.1 hc
    have hq := List.mem_range.1 hq
    unfold mkN at hq
    exact ⟨⟨by show 1 ≤ 1 + l + (q : Int); omega, by show 1 + l + (q : Int) < b; omega⟩, can_co _ _ _ _⟩
theorem mkL_in {b l i n : Int} (hf : YtlcdpmjdnihocaaP.Fine b l i) (hn : b ≤ n) : ∀ o ∈ mkL b l i 0, InOp n o := fun o ho => by
  obtain ⟨b1, _⟩ := Ytlcdpmjdnihocaa.fine_bd hf
  have hz : InOp n (some (0, nought)) := ⟨by show (0 : Int) ≤ 0; omega, by show (0 : Int) < n; omega⟩
  unfold mkL mkA mkC at ho
  rw [mkB_eq] at ho
  simp only [List.mem_append, List.mem_cons, List.mem_nil_iff, or_false] at ho
  rcases ho with rfl | rfl | ho | rfl | rfl | rfl
  · exact hz
  · trivial
  · obtain ⟨c, hc, rfl⟩ := List.mem_map.1 ho
    have := (mkBs_pos hf c hc).1
    exact ⟨by omega, by omega⟩
  · trivial
  · exact ⟨by show (0 : Int) ≤ 0; omega, by show (0 : Int) < n; omega⟩
  · trivial
theorem hold_zero (s : St) (f : Nat → Int) (hb : blankB f = true) : (holdAll s [(0, f)]).held 0 = none := by
  have e : (holdAll s [(0, f)]).held = fun j => if j = 0 then (if blankB f then none else some f) else s.held j := rfl
  rw [e]
  simp only [hb, if_true]
/-- Ahead of the first barrier it is what it was, or its first block is noughts; behind it its first block is noughts, or all is done. -/
theorem mk_three {b l i : Int} (hf : YtlcdpmjdnihocaaP.Fine b l i) (s : St) (hw : s.wait = []) (k : Nat) (hk : k ≤ (mkL b l i 0).length) (kl : List Bool) :
    (k < 2 ∧ (holdAll (allV s ((mkL b l i 0).take k)) (keptL (allV s ((mkL b l i 0).take k)).wait kl)).held = s.held)
    ∨ (holdAll (allV s ((mkL b l i 0).take k)) (keptL (allV s ((mkL b l i 0).take k)).wait kl)).held 0 = none
    ∨ (holdAll (allV s ((mkL b l i 0).take k)) (keptL (allV s ((mkL b l i 0).take k)).wait kl)).held = (allV s (mkL b l i 0)).held := by
  obtain ⟨cs, hcs⟩ : ∃ cs, mkBs b l i = cs := ⟨_, rfl⟩
  obtain ⟨F, hF⟩ : ∃ F, YtlcdpmjdnihocaaP.superF b l i = F := ⟨_, rfl⟩
  have hpos : ∀ c ∈ cs, c.1 ≠ 0 := fun c hc => by have := (mkBs_pos hf c (hcs ▸ hc)).1.1; omega
  have hL : mkL b l i 0 = some (0, nought) :: none :: (cs.map some ++ (none :: some (0, F) :: [none])) := by
    unfold mkL mkA mkC
    rw [mkB_eq, hcs, hF]
    rfl
  rw [hL] at hk ⊢
  clear hL
  have hb0 : blankB nought = true := can_nought.blank.2 rfl
  -- behind the first write
  have w1 : (allV s [some (0, nought)]).held = s.held ∧ (allV s [some (0, nought)]).wait = [(0, nought)] := by
    obtain ⟨h1, h2⟩ := allV_writes [(0, nought)] s
    rw [hw] at h2
    exact ⟨h1, h2⟩
  -- behind the first barrier
  obtain ⟨s1, hs1⟩ : ∃ s1, allV s [some (0, nought), none] = s1 := ⟨_, rfl⟩
  have w2 : s1.held 0 = none ∧ s1.wait = [] := by
    have h := allV_bar (allV s [some (0, nought)])
    rw [← allV_append] at h
    rw [show [some ((0, nought) : Cel)] ++ [none] = [some (0, nought), none] from rfl, hs1, w1.2] at h
    refine ⟨?_, h.2⟩
    rw [h.1]
    exact hold_zero _ _ hb0
  -- the second part's writes
  have w3 : ∀ j, (allV s1 ((cs.map some).take j)).held = s1.held ∧ (allV s1 ((cs.map some).take j)).wait = cs.take j := fun j => by
    rw [← List.map_take]
    obtain ⟨h1, h2⟩ := allV_writes (cs.take j) s1
    rw [w2.2] at h2
    exact ⟨h1, by simpa using h2⟩
  obtain ⟨s2, hs2⟩ : ∃ s2, allV s1 (cs.map some ++ [none]) = s2 := ⟨_, rfl⟩
  have w4 : s2.held 0 = none ∧ s2.wait = [] := by
    have h := allV_bar (allV s1 (cs.map some))
    rw [← allV_append, hs2] at h
    have h3 := w3 cs.length
    rw [List.take_of_length_le (by simp), List.take_of_length_le (by simp)] at h3
    refine ⟨?_, h.2⟩
    rw [h.1, holdAll_off 0 _ _ (by rw [h3.2]; exact hpos), h3.1]
    exact w2.1
  have w5 : (allV s2 [some (0, F)]).held = s2.held ∧ (allV s2 [some (0, F)]).wait = [(0, F)] := by
    obtain ⟨h1, h2⟩ := allV_writes [(0, F)] s2
    rw [w4.2] at h2
    exact ⟨h1, h2⟩
  have w6 : (allV s2 [some (0, F), none]).held = (holdAll s2 [(0, F)]).held ∧ (allV s2 [some (0, F), none]).wait = [] := by
    have h := allV_bar (allV s2 [some (0, F)])
    rw [← allV_append] at h
    refine ⟨?_, h.2⟩
    rw [show [some ((0, F) : Cel)] ++ [none] = [some (0, F), none] from rfl, w5.2] at h
    rw [h.1]
    exact holdAll_held w5.1 _
  have hall : allV s (some (0, nought) :: none :: (cs.map some ++ (none :: some (0, F) :: [none]))) = allV s2 [some (0, F), none] := by
    rw [show some ((0, nought) : Cel) :: none :: (cs.map some ++ (none :: some (0, F) :: [none])) = [some (0, nought), none] ++ ((cs.map some ++ [none]) ++ [some (0, F), none]) by simp, allV_append, hs1, allV_append, hs2]
  rcases (show k = 0 ∨ k = 1 ∨ (∃ j, k = j + 2 ∧ j ≤ cs.length) ∨ k = cs.length + 3 ∨ k = cs.length + 4 ∨ k = cs.length + 5 by
    simp only [List.length_cons, List.length_append, List.length_map, List.length_nil] at hk
    by_cases q : k ≤ cs.length + 2
    · by_cases q0 : k < 2
      · omega
      · exact .inr (.inr (.inl ⟨k - 2, by omega, by omega⟩))
    · omega) with rfl | rfl | ⟨j, rfl, hj⟩ | rfl | rfl | rfl
  · left
    refine ⟨by omega, ?_⟩
    show (holdAll s (keptL s.wait kl)).held = s.held
    rw [hw]
    cases kl with
    | nil => rfl
    | cons _ _ => rfl
  · show _ ∨ (holdAll (allV s [some (0, nought)]) (keptL (allV s [some (0, nought)]).wait kl)).held 0 = none ∨ _
    rw [List.take_succ_cons, List.take_zero, w1.2]
    match kl with
    | [] => exact .inl ⟨by omega, w1.1⟩
    | false :: _ => exact .inl ⟨by omega, w1.1⟩
    | true :: _ =>
      right; left
      exact hold_zero _ _ hb0
  · right; left
    rw [List.take_succ_cons, List.take_succ_cons, List.take_append_of_le_length (by simpa using hj)]
    rw [show some ((0, nought) : Cel) :: none :: (cs.map some).take j = [some (0, nought), none] ++ (cs.map some).take j from rfl, allV_append, hs1]
    obtain ⟨h1, h2⟩ := w3 j
    rw [holdAll_off 0 _ _ (fun c hc => hpos c (List.mem_of_mem_take (h2 ▸ kept_sub _ _ c hc))), h1]
    exact w2.1
  · right; left
    rw [show (some ((0, nought) : Cel) :: none :: (cs.map some ++ (none :: some (0, F) :: [none]))).take (cs.length + 3) = [some (0, nought), none] ++ (cs.map some ++ [none]) by
      rw [List.take_succ_cons, List.take_succ_cons, List.take_append, List.take_of_length_le (by simp)]
      simp, allV_append, hs1, hs2, w4.2]
    have : keptL [] kl = [] := by cases kl <;> rfl
    rw [this]
    exact w4.1
  · rw [show (some ((0, nought) : Cel) :: none :: (cs.map some ++ (none :: some (0, F) :: [none]))).take (cs.length + 4) = [some (0, nought), none] ++ ((cs.map some ++ [none]) ++ [some (0, F)]) by
      rw [List.take_succ_cons, List.take_succ_cons, List.take_append, List.take_of_length_le (by simp)]
      simp, hall, allV_append, hs1, allV_append, hs2, w5.2]
    match kl with
    | [] => right; left; show (allV s2 [some (0, F)]).held 0 = none; rw [w5.1]; exact w4.1
    | false :: _ => right; left; show (allV s2 [some (0, F)]).held 0 = none; rw [w5.1]; exact w4.1
    | true :: t =>
      right; right
      rw [w6.1]
      have : keptL [(0, F)] (true :: t) = [(0, F)] := by cases t <;> rfl
      rw [this]
      exact holdAll_held w5.1 _
  · right; right
    rw [List.take_of_length_le (by simp), hall, w6.2]
    have : keptL [] kl = [] := by cases kl <;> rfl
    rw [this]
    rfl
end Go.Proofs.YtlcdpmjdnihocaaD
/- Steps that the stage's theorem's law takes beside the disk: a write more waited for, blocks told apart; no condition. -/
namespace Go.Proofs.YtlcdpmjdnihocaaD
open Go.RowKit

theorem build30 (c : Cel) (u : World) : (Instr.buildSlice 22 1 #[(0, .agg (celRow c).toArray)]).run Try.prog u = .ok (.slice (some ⟨u.heap.size, 0, none⟩) 1 1) (u.alloc (.cells (celRow c).toArray 54)) :=
  build1 22 54 1025 _ _ Try.underlying22 Try.sizeOf54 (by omega) zero85 (cel_size c) u
theorem slice_ofC {w : World} {base e size : Nat} {v : Value} {n : Nat} {xs : List Value} (h : w.ownsRow base e size v n xs) (hn : 0 < n) : ∃ g cap, v = .slice (some ⟨g, 0, none⟩) n cap := by
  rcases h.2 with ⟨_, h⟩ | ⟨g, cap', _, h, _⟩
  · omega
  · exact ⟨g, cap', h⟩
theorem slice_of0 {w : World} {base e size : Nat} {wa : Option Addr} {wc : Nat} {n : Nat} {xs : List Value} (h : w.ownsRow base e size (.slice wa n wc) n xs) : 0 < n → ∃ g, wa = some ⟨g, 0, none⟩ := fun hn => by
  obtain ⟨g, cap, e⟩ := slice_ofC h hn
  injection e with e1
  exact ⟨g, e1⟩
section
variable {w W : World} {g d : Nat} {hs : List (Nat → Int)} {v : Value} {wl : List Cel} {s : St}
theorem Has.gbase (h : Has (Side w g hs v wl) W d s) : g + 1 ≤ W.heap.size := (Array.getElem?_eq_some_iff.1 h.row).1
theorem wpList_pushC {ops : Array Oper} {rest : List Oper} {o : Oper} {a : Act} {Q : Exit → Act → World → Prop} (hgd : o.guard = none) (x y : Operand)
    (ho : o.op = .call { callee := .builtin .append, args := #[x, y], argTypes := #[22, 22] }) (c : Cel) (hx : a.eval x = v)
    (hy : a.eval y = .slice (some ⟨W.heap.size, 0, none⟩) 1 1) (hH : Has (Side w g hs v wl) W d s) (hn : wl.length < 1000)
    (h : ∀ wa wc W', Has (Side w g hs (.slice wa (wl.length + 1) wc) (wl ++ [c])) W' d s → wpList Try.prog ops Q rest (a.put o.dst (.slice wa (wl.length + 1) wc)) W') :
    wpList Try.prog ops Q (o :: rest) a (W.alloc (.cells (celRow c).toArray 54)) := by
  obtain ⟨i0, hi0, hz0, hz1, hz2⟩ := info_parts info85
  have hown1 := World.ownsRow.alloc hH.own (.cells (celRow c).toArray 54)
  have hnews : ∀ j u, (celRow c)[j]? = some u → (W.alloc (.cells (celRow c).toArray 54)).cell? ((⟨W.heap.size, 0, none⟩ : Addr).add j) = some u := fun j u hu => by
    rw [Go.WideShapes.add_plain, Nat.zero_add, cell_of_row _ _ j _ 54 _ (heap_alloc_new W _), List.getElem?_toArray]
    exact hu
  have hbase := hH.gbase
  refine wpList_append_own_at _ hgd x y 22 ho (g + 1) 54 i0 _ 1025 1032 Try.underlying22 hi0 hz0 hz1 hz2 (cel_size _) (by decide) v wl.length (celCells wl) hx hown1 ⟨W.heap.size, 0, none⟩ 1 1 (celRow c) hy (by rw [celRow_len]) hnews (celRow_one c)
    (by unfold maxLen; omega) (by omega) (by simp; omega) ?_
  intro v' W' h1 h2 h3 h4
  obtain ⟨g', cap', rfl⟩ := slice_ofC h1 (by omega)
  exact h _ _ W' (hH.push h1 h2 h4)
end
section
variable {ops : Array Oper} {rest : List Oper} {o : Oper} {a : Act} {w : World} {Q : Exit → Act → World → Prop}
theorem neq58 (f g : Nat → Int) (b : Bool) (hb : sameB f g = b) (u : World) : (binOp .neq 46 (.agg (blk f)) (.agg (blk g))).run Try.prog u = .ok (.bool (!b)) u := by
  have h := eq25 f g u
  rw [hb] at h
  generalize blk f = F at *
  generalize blk g = G at *
  simp only [binOp, Op.equal, Op.maxDepth, Sem.run_bind, h, Result.andThen_ok, Sem.run_pure]
theorem neqg58 (x y : Operand) (F G : Array Value) (u : World) : (eqGuard .neq 46 x y (.agg F) (.agg G)).run Try.prog u = .ok () u := by
  unfold eqGuard
  simp
theorem wpList_neq58 (hw : Region.wanted o (yielded ops a.tmps) = true) (x y : Operand) (ho : o.op = .binOp .neq 46 x y 46) (f : Nat → Int) (hx : a.eval x = .agg (blk f)) (hy : a.eval y = .agg (blk f))
    (h : wpList Try.prog ops Q rest (a.put o.dst (.bool false)) w) : wpList Try.prog ops Q (o :: rest) a w :=
  BigFrame.wpList_want hw fun _ hK => by
    have e := neq58 f f true (sameB_self f) w
    unfold Oper.wp execOp
    simp only [ho, hx, hy, Sem.run_bind, neqg58, e, Result.andThen_ok, Sem.run_pure]
    exact hK _ _ h
end
theorem wpStill_loadW {ops : Array Oper} {Q : Act → Prop} {a : Act} {o : Oper} {rest : List Oper} {w : World} (hw : Region.wanted o (yielded ops a.tmps) = true) (x : Operand) (ho : o.op = .load 46 x)
    (g off : Nat) (hx : a.eval x = .pointer (some ⟨g, off, none⟩)) (f : Nat → Int) (hg : BlkAt w g off f)
    (h : wpStill Try.prog ops w Q rest (a.put o.dst (.agg (blk f)))) : wpStill Try.prog ops w Q (o :: rest) a := by
  unfold wpStill
  rw [if_pos hw]
  unfold Oper.still execOp
  simp only [ho, hx, loadM hg, Sem.run_bind, Result.andThen_ok, Sem.run_pure, Oper.stillUpon]
  exact ⟨trivial, h⟩
theorem wpStill_neqW {ops : Array Oper} {Q : Act → Prop} {a : Act} {o : Oper} {rest : List Oper} {w : World} (hw : Region.wanted o (yielded ops a.tmps) = true) (x y : Operand) (ho : o.op = .binOp .neq 46 x y 46)
    (f : Nat → Int) (hx : a.eval x = .agg (blk f)) (hy : a.eval y = .agg (blk f))
    (h : wpStill Try.prog ops w Q rest (a.put o.dst (.bool false))) : wpStill Try.prog ops w Q (o :: rest) a := by
  have e := neq58 f f true (sameB_self f) w
  unfold wpStill
  rw [if_pos hw]
  unfold Oper.still execOp
  simp only [ho, hx, hy, neqg58, e, Sem.run_bind, Result.andThen_ok, Sem.run_pure, Oper.stillUpon]
  exact ⟨trivial, h⟩
theorem BoolsAt.later {w W : World} {v : Value} {l : List Bool} (h : BoolsAt w v l) (hb : Below w.heap.size w W) : BoolsAt W v l := by
  obtain ⟨p, c, h1, h2⟩ := h
  refine ⟨p, c, h1, fun hl => ?_⟩
  obtain ⟨b, off, h3, h4⟩ := h2 hl
  refine ⟨b, off, h3, fun i x hx => ?_⟩
  have h5 := h4 i x hx
  have hlt : b < w.heap.size := by
    by_cases q : b < w.heap.size
    · exact q
    · unfold World.cell? at h5
      simp only [Array.getElem?_eq_none (show w.heap.size ≤ b by omega)] at h5
      simp at h5
  exact (hb.cell (p := ⟨b, off + i, none⟩) hlt).trans h5
theorem bools_cell {w : World} {ka : Option Addr} {n kc : Nat} {l : List Bool} (h : BoolsAt w (.slice ka n kc) l) {j : Nat} {x : Bool} (hx : l[j]? = some x) : ∃ b off, ka = some ⟨b, off, none⟩ ∧ ∀ W, Below w.heap.size w W → W.cell? ⟨b, off + j, none⟩ = some (.bool x) := by
  obtain ⟨p, c, h1, h2⟩ := h
  injection h1 with e1 e2 e3
  obtain ⟨b, off, h3, h4⟩ := h2 (by have := (List.getElem?_eq_some_iff.1 hx).1; omega)
  refine ⟨b, off, e1.trans h3, fun W hb => ?_⟩
  have h5 := h4 j x hx
  have hlt : b < w.heap.size := by
    by_cases q : b < w.heap.size
    · exact q
    · unfold World.cell? at h5
      simp only [Array.getElem?_eq_none (show w.heap.size ≤ b by omega)] at h5
      simp at h5
  exact (hb.cell (p := ⟨b, off + j, none⟩) hlt).trans h5
theorem has_crash_le {P : World → Loc → Prop} {W : World} {d : Nat} {s : St} (hP : Stays P) (h : Has P W d s) {kv : Value} {kl : List Bool} (hkv : BoolsAt W kv kl) (hwl : s.wait.length < 68719476736) (hkl : kl.length ≤ 9223372036854775807) :
    Calls Try.prog 15 #[.pointer (some ⟨d, 0, none⟩), kv] W fun e W' => e = .returned (.int .i64 0) ∧ Has P W' d (crashS s kl) := by
  obtain ⟨L, rfl, hD, hp⟩ := h
  exact (crash_le hD hkv hwl hkl).mono fun e W' ⟨h1, L', h2, h3⟩ => ⟨h1, Has.goes hP rfl hD hp h2 h3⟩
/-- A disk behind a crash and j reads. -/
structure After (s : St) (n : Int) (j : Nat) : Prop where
  n : s.n = n
  live : s.stopped = false
  wait : s.wait = []
  done : s.done = []
  made : s.made ≤ 300
  reads : s.reads ≤ j
  claims : s.claims = 0
theorem after_crash {s : St} {n f : Int} {i : Nat} (h : Left s n f i) (hi : i ≤ 300) (k : List Bool) : After (crashS s k) n 0 := by
  have := h.made
  have := h.reads
  obtain ⟨hh, he⟩ := holdAll_same (keptL s.wait k) s
  unfold crashS
  rw [he]
  exact ⟨h.n, rfl, rfl, rfl, by show s.made ≤ 300; omega, by show s.reads ≤ (0 : Nat); omega, h.claims⟩
theorem After.room {s : St} {n : Int} {j : Nat} (h : After s n j) (hj : j ≤ 64) : Room s := ⟨by unfold St.ops; rw [h.wait, h.done]; simp, by have := h.made; omega, by have := h.reads; omega, by have := h.claims; omega⟩
theorem After.read {s : St} {n : Int} {j : Nat} (h : After s n j) {k : Int} (hk : 0 ≤ k ∧ k < n) : refV s k = 0 ∧ readB s k = (s.held k).getD nought ∧ readV s k = readS s ∧ After (readS s) n (j + 1) := by
  have hr : refV s k = 0 := by unfold refV; rw [h.live, if_neg (by simp), if_pos (by rw [h.n]; exact hk)]
  refine ⟨hr, ?_, ?_, h.n, h.live, h.wait, h.done, h.made, ?_, h.claims⟩
  · unfold readB
    rw [if_pos hr, curV_held (by rw [h.wait]; rfl)]
  · unfold readV
    rw [if_pos hr]
  · have := h.reads
    show s.reads + 1 ≤ ((j + 1 : Nat) : Int)
    omega
theorem After.ops {s : St} {n : Int} {j : Nat} (h : After s n j) : s.ops.length = 0 := by unfold St.ops; rw [h.wait, h.done]; simp
theorem crashS_n (s : St) (k : List Bool) : (crashS s k).n = s.n := holdAll_n s (keptL s.wait k)
theorem rel_crash {s : St} {hs : List (Nat → Int)} {kl : List Bool} (h : Rel (holdAll s (keptL s.wait kl)) hs) : Rel (crashS s kl) hs := h.same rfl rfl
theorem Rel.keptNext {s : St} {hs : List (Nat → Int)} {kl : List Bool} {j : Nat} {c : Cel} {x : Bool} (h : Rel (holdAll s (keptL (s.wait.take j) (kl.take j))) hs) (hc : s.wait[j]? = some c) (hx : kl[j]? = some x) (hok : Ok s) : Rel (holdAll s (keptL (s.wait.take (j + 1)) (kl.take (j + 1)))) (if x then hs.set c.1.toNat c.2 else hs) := by
  have hj : j < s.wait.length := (List.getElem?_eq_some_iff.1 hc).1
  have hk : j < kl.length := (List.getElem?_eq_some_iff.1 hx).1
  have hks := keptL_snoc c x (s.wait.take j) (kl.take j) (by rw [List.length_take, List.length_take]; omega)
  rw [← take_snoc hc, ← show kl.take (j + 1) = kl.take j ++ [x] by rw [List.take_add_one, hx]; rfl] at hks
  rw [hks]
  cases x
  · simpa using h
  · rw [if_pos rfl, if_pos rfl, holdAll_snoc]
    have hw := hok.wait c (List.mem_of_getElem? hc)
    exact h.hold (by rw [holdAll_n]; exact hw.1) hw.2
end Go.Proofs.YtlcdpmjdnihocaaD
/- What is held behind writes and barriers, and of an image that is loaded again, as plain lists; no condition. -/
namespace Go.Proofs.YtlcdpmjdnihocaaD
open Go.RowKit

theorem rises_of {n : Int} : ∀ (l : List Cel) (m : Int), Rise m l → Sound l → (∀ c ∈ l, c.1 < n) → risesB n m l = true
  | [], _, _, _, _ => rfl
  | (i, x) :: t, m, hr, hs, ht => by
    have h1 := hr.1
    have h2 := ht (i, x) (by simp)
    have h3 := hs (i, x) (by simp)
    have h4 : blankB x = false := by
      cases hb : blankB x
      · rfl
      · exact absurd (h3.1.blank.1 hb) h3.2
    have ih := rises_of t i hr.2 (fun c hc => hs c (by simp [hc])) fun c hc => ht c (by simp [hc])
    unfold risesB
    simp only at h2 ⊢
    rw [ih, h4, decide_eq_false (by omega : ¬ i ≤ m), decide_eq_false (by omega : ¬ i ≥ n)]
    rfl
theorem rise_len {n : Int} : ∀ (l : List Cel) (m : Int), Rise m l → (∀ c ∈ l, c.1 < n) → m < n → (l.length : Int) ≤ n - m - 1
  | [], m, _, _, h => by simp; omega
  | (i, x) :: t, m, hr, ht, h => by
    have h1 := hr.1
    have h2 := ht (i, x) (by simp)
    have ih := rise_len t i hr.2 (fun c hc => ht c (by simp [hc])) h2
    simp only [List.length_cons] at *
    omega
theorem image_may {s : St} {l : List Cel} (h : IsImage s l) (hok : Ok s) : mayB s.n l = true := by
  have hn := hok.n
  unfold mayB
  rw [rises_of l (-1) h.rise h.sound h.top, show bndB s.n = true by unfold bndB; simp; omega]
  rfl
theorem image_len {s : St} {l : List Cel} (h : IsImage s l) (hok : Ok s) : l.length < 9223372036854775807 := by
  have := rise_len l (-1) h.rise h.top (by have := hok.n; omega)
  have := hok.n
  omega
/-- What the last of the writes to k left; x, if there is none. -/
def lastV (x : Nat → Int) : List Cel → Int → Nat → Int
  | [], _ => x
  | c :: t, k => lastV (if c.1 = k then c.2 else x) t k
theorem lastV_none {k : Int} : ∀ (l : List Cel) (x : Nat → Int), (∀ c ∈ l, c.1 ≠ k) → lastV x l k = x
  | [], _, _ => rfl
  | c :: t, x, h => by
    unfold lastV
    rw [if_neg (h c (by simp))]
    exact lastV_none t x fun c hc => h c (by simp [hc])
theorem rise_ne : ∀ (l : List Cel) (m : Int), Rise m l → ∀ c ∈ l, m < c.1
  | [], _, _, c, hc => by simp at hc
  | (i, x) :: t, m, h, c, hc => by
    rcases List.mem_cons.1 hc with rfl | hc
    · exact h.1
    · have := rise_ne t i h.2 c hc
      have := h.1
      omega
theorem lastV_at {k : Int} : ∀ (l : List Cel) (m : Int), Rise m l → lastV nought l k = atL l k
  | [], _, _ => rfl
  | (i, x) :: t, m, h => by
    unfold lastV atL
    simp only
    by_cases e : i = k
    · rw [if_pos e, if_pos e]
      exact lastV_none t x fun c hc q => by have := rise_ne t i h.2 c hc; omega
    · rw [if_neg e, if_neg e]
      exact lastV_at t i h.2
theorem lastV_append {k : Int} : ∀ (l m : List Cel) (x : Nat → Int), lastV x (l ++ m) k = lastV (lastV x l k) m k
  | [], _, _ => rfl
  | c :: t, m, x => by
    show lastV (if c.1 = k then c.2 else x) (t ++ m) k = _
    rw [lastV_append t m]
    rfl
theorem holdAll_get {k : Int} : ∀ (l : List Cel) (s : St), (∀ c ∈ l, Can c.2) → ((holdAll s l).held k).getD nought = lastV ((s.held k).getD nought) l k
  | [], _, _ => rfl
  | c :: t, s, h => by
    show ((holdAll (holdV s c.1 c.2) t).held k).getD nought = _
    rw [holdAll_get t _ fun c hc => h c (by simp [hc]), holdV_get s c.1 (h c (by simp)) k]
    show _ = lastV (if c.1 = k then c.2 else (s.held k).getD nought) t k
    by_cases e : k = c.1
    · rw [if_pos e, if_pos e.symm]
    · rw [if_neg e, if_neg fun q => e q.symm]
theorem image_load {s : St} {l : List Cel} (h : IsImage s l) (k : Int) : ((loadV s.n l).held k).getD nought = (s.held k).getD nought := by
  unfold loadV
  rw [holdAll_get l _ fun c hc => (h.sound c hc).1, ← h.at_ k]
  exact lastV_at l (-1) h.rise
theorem lastAt_last {k : Int} : ∀ (l : List Cel) (x : Nat → Int), (match lastAt l k with | some i => (match l[i]? with | some c => c.2 | none => nought) | none => x) = lastV x l k
  | [], _ => rfl
  | c :: t, x => by
    have ih := lastAt_last (k := k) t (if c.1 = k then c.2 else x)
    unfold lastV
    rw [← ih]
    show (match (match lastAt t k with | some i => some (i + 1) | none => if c.1 = k then some 0 else none) with | some i => (match (c :: t)[i]? with | some c => c.2 | none => nought) | none => x) = _
    cases lastAt t k with
    | some i => rfl
    | none =>
      by_cases e : c.1 = k
      · rw [if_pos e, if_pos e]; rfl
      · rw [if_neg e, if_neg e]
theorem curV_last (s : St) (k : Int) : curV s k = lastV ((s.held k).getD nought) s.wait k := by
  rw [← lastAt_last]
  rfl
theorem mod_in {n : Int} (hn : 1 ≤ n) (x : Int) : 0 ≤ x % n ∧ x % n < n := ⟨Int.emod_nonneg _ (by omega), Int.emod_lt_of_pos _ (by omega)⟩
theorem goes_on {s : St} (hs : s.stopped = false) (i : Nat) : goesB s (-1) i = true := by unfold goesB; rw [hs]; simp
section
variable (n : Int) (q : Nat → Int × (Nat → Int))
/-- The disk behind the first i puts. -/
def putS : Nat → St
  | 0 => newV n
  | i + 1 => if (q i).1 < 0 then barS (putS i) else writeS (putS i) ((q i).1 % n) (q i).2
/-- The writes of the first i puts. -/
def wrL : Nat → List Cel
  | 0 => []
  | i + 1 => if (q i).1 < 0 then wrL i else wrL i ++ [((q i).1 % n, (q i).2)]
/-- The last barrier of the first i puts. -/
def lastI : Nat → Int
  | 0 => -1
  | i + 1 => if (q i).1 < 0 then i else lastI i
/-- A disk to which only writes came. -/
def wrS : Nat → St
  | 0 => newV n
  | i + 1 => if (q i).1 < 0 then wrS i else writeS (wrS i) ((q i).1 % n) (q i).2
theorem putS_succ (i : Nat) : putS n q (i + 1) = if (q i).1 < 0 then barS (putS n q i) else writeS (putS n q i) ((q i).1 % n) (q i).2 := rfl
theorem wrL_succ (i : Nat) : wrL n q (i + 1) = if (q i).1 < 0 then wrL n q i else wrL n q i ++ [((q i).1 % n, (q i).2)] := rfl
theorem wrS_succ (i : Nat) : wrS n q (i + 1) = if (q i).1 < 0 then wrS n q i else writeS (wrS n q i) ((q i).1 % n) (q i).2 := rfl
theorem lastI_succ (i : Nat) : lastI q (i + 1) = if (q i).1 < 0 then (i : Int) else lastI q i := rfl
theorem wrL_can (hq : ∀ i, Can (q i).2) (i : Nat) : ∀ c ∈ wrL n q i, Can c.2 := by
  induction i with
  | zero => intro c hc; simp [wrL] at hc
  | succ i ih =>
    intro c hc
    rw [wrL_succ] at hc
    split at hc
    · exact ih c hc
    · rcases List.mem_append.1 hc with h | h
      · exact ih c h
      · obtain rfl : c = _ := by simpa using h
        exact hq i
theorem putS_is (hn : 1 ≤ n) (hq : ∀ i, Can (q i).2) (i : Nat) : Left (putS n q i) n (-1) i ∧ (putS n q i).stopped = false ∧ (putS n q i).made = i ∧ ∃ fl, fl = wrL n q (lastI q i).toNat ∧ fl ++ (putS n q i).wait = wrL n q i ∧ ∀ k, ((putS n q i).held k).getD nought = lastV nought fl k := by
  induction i with
  | zero => exact ⟨⟨rfl, fun _ => ⟨fun _ => rfl, fun h => by omega⟩, Nat.le_refl _, Int.le_refl _, rfl, rfl⟩, rfl, rfl, [], rfl, rfl, fun k => rfl⟩
  | succ i ih =>
    obtain ⟨hl, hs, hm, fl, h1, h2, h3⟩ := ih
    have hg := goes_on hs i
    have hlt := (goes_live hl hg).2
    have hmade : (letV (putS n q i)).made = i + 1 := by rw [(letV_live hlt).2.1, hm]
    rw [putS_succ, wrL_succ, lastI_succ]
    by_cases hb : (q i).1 < 0
    · rw [if_pos hb, if_pos hb, if_pos hb]
      obtain ⟨_, _, g1, g2, g3, g4, _⟩ := bar_goes hl hg
      obtain ⟨hh, he⟩ := holdAll_same (putS n q i).wait (letV (putS n q i))
      refine ⟨g1, g2, ?_, wrL n q i, by simp, by rw [g3, List.append_nil], fun k => ?_⟩
      · have e1 : (barS (putS n q i)).made = (holdAll (letV (putS n q i)) (putS n q i).wait).made := rfl
        rw [e1, he]
        exact hmade
      · rw [g4, holdAll_get _ _ (fun c hc => wrL_can n q hq i c (by rw [← h2]; exact List.mem_append_right _ hc)), h3, ← lastV_append, h2]
    · rw [if_neg hb, if_neg hb, if_neg hb]
      obtain ⟨_, _, g1, g2, g3, g4, _⟩ := write_goes hl hg (mod_in hn (q i).1) (q i).2
      refine ⟨g1, g2, hmade, fl, h1, by rw [g3, ← List.append_assoc, h2], fun k => by rw [g4]; exact h3 k⟩
theorem wrS_is (hn : 1 ≤ n) (i : Nat) : ∃ j : Nat, j ≤ i ∧ Left (wrS n q i) n (-1) j ∧ (wrS n q i).stopped = false ∧ (wrS n q i).wait = wrL n q i ∧ ∀ k, (wrS n q i).held k = none := by
  induction i with
  | zero => exact ⟨0, Nat.le_refl _, ⟨rfl, fun _ => ⟨fun _ => rfl, fun h => by omega⟩, Nat.le_refl _, Int.le_refl _, rfl, rfl⟩, rfl, rfl, fun k => rfl⟩
  | succ i ih =>
    obtain ⟨j, hj, hl, hs, h1, h2⟩ := ih
    rw [wrS_succ, wrL_succ]
    by_cases hb : (q i).1 < 0
    · rw [if_pos hb, if_pos hb]
      exact ⟨j, by omega, hl, hs, h1, h2⟩
    · rw [if_neg hb, if_neg hb]
      obtain ⟨_, _, g1, g2, g3, g4, _⟩ := write_goes hl (goes_on hs j) (mod_in hn (q i).1) (q i).2
      exact ⟨j + 1, by omega, g1, g2, by rw [g3, h1], fun k => by rw [g4]; exact h2 k⟩
/-- What the loaded one reads is what the one with the writes alone reads. -/
theorem again_same (hn : 1 ≤ n) (hq : ∀ i, Can (q i).2) (m : Nat) {l : List Cel} (h : IsImage (putS n q m) l) (k : Int) : curV (loadV (putS n q m).n l) k = curV (wrS n q (lastI q m).toNat) k := by
  obtain ⟨_, _, _, fl, h1, _, h3⟩ := putS_is n q hn hq m
  obtain ⟨_, _, _, _, h4, h5⟩ := wrS_is n q hn (lastI q m).toNat
  rw [curV_last, curV_last, h4, h5 k, show (loadV (putS n q m).n l).wait = [] from holdAll_wait _ _, ← h1]
  show ((loadV (putS n q m).n l).held k).getD nought = lastV nought fl k
  rw [image_load h k, h3 k]
end
end Go.Proofs.YtlcdpmjdnihocaaD
/- Several disks in one world: one that turns, others beside it; any of them may be the one that turns; no condition. -/
namespace Go.Proofs.YtlcdpmjdnihocaaD
open Go.RowKit

/-- New since w. -/
structure Solo (w : World) (W : World) (L : Loc) : Prop where
  new : L.from w.heap.size
  below : Below w.heap.size w W
/-- Another disk beside it. -/
structure By (w : World) (d1 : Nat) (s1 : St) (W : World) (L : Loc) (L1 : Loc) : Prop where
  at_ : L1.d = d1
  disk : DiskAt W L1 s1
  new : L1.from w.heap.size
  apart : ∀ k, L.has k → ¬ L1.has k
def Two (w : World) (d1 : Nat) (s1 : St) (W : World) (L : Loc) : Prop := Solo w W L ∧ ∃ L1, By w d1 s1 W L L1
def Tri (w : World) (d1 : Nat) (s1 : St) (d2 : Nat) (s2 : St) (W : World) (L : Loc) : Prop := Solo w W L ∧ ∃ L1 L2, By w d1 s1 W L L1 ∧ By w d2 s2 W L L2 ∧ ∀ k, L1.has k → ¬ L2.has k
variable {w W W' : World} {d d1 d2 : Nat} {s s1 s2 : St} {L L' L1 : Loc}
theorem solo_goes (h : Solo w W L) (hG : Goes W W' L L') : Solo w W' L' := by
  refine ⟨fun k hk => ?_, h.below.trans (hG.fr.below h.new h.below.size)⟩
  rcases hG.own k hk with q | q
  · exact h.new k q
  · have := h.below.size
    omega
theorem by_goes (h : By w d1 s1 W L L1) (hG : Goes W W' L L') : By w d1 s1 W' L' L1 := by
  refine ⟨h.at_, h.disk.fr hG.fr fun k hk q => h.apart k q hk, h.new, fun k hk q => ?_⟩
  rcases hG.own k hk with r | r
  · exact h.apart k r q
  · have := h.disk.lt k q
    omega
theorem solo_stays (w : World) : Stays (Solo w) := fun _ _ _ _ _ h hG => solo_goes h hG
theorem two_stays (w : World) (d1 : Nat) (s1 : St) : Stays (Two w d1 s1) := fun _ _ _ _ _ ⟨h, L1, h1⟩ hG => ⟨solo_goes h hG, L1, by_goes h1 hG⟩
theorem tri_stays (w : World) (d1 : Nat) (s1 : St) (d2 : Nat) (s2 : St) : Stays (Tri w d1 s1 d2 s2) := fun _ _ _ _ _ ⟨h, L1, L2, h1, h2, h3⟩ hG => ⟨solo_goes h hG, L1, L2, by_goes h1 hG, by_goes h2 hG, h3⟩
theorem Has.belowS (h : Has (Solo w) W d s) : Below w.heap.size w W := by
  obtain ⟨L, _, _, h⟩ := h
  exact h.below
theorem Has.below2 (h : Has (Two w d1 s1) W d s) : Below w.heap.size w W := by
  obtain ⟨L, _, _, h, _⟩ := h
  exact h.below
theorem Has.below3 (h : Has (Tri w d1 s1 d2 s2) W d s) : Below w.heap.size w W := by
  obtain ⟨L, _, _, h, _⟩ := h
  exact h.below
theorem Has.swap (h : Has (Two w d1 s1) W d s) : Has (Two w d s) W d1 s1 := by
  obtain ⟨L, hd, hD, h0, L1, h1⟩ := h
  exact ⟨L1, h1.at_, h1.disk, ⟨h1.new, h0.below⟩, L, hd, hD, h0.new, fun k q r => h1.apart k r q⟩
theorem Has.swap3 (h : Has (Tri w d1 s1 d2 s2) W d s) : Has (Tri w d s d2 s2) W d1 s1 := by
  obtain ⟨L, hd, hD, h0, L1, L2, h1, h2, h3⟩ := h
  exact ⟨L1, h1.at_, h1.disk, ⟨h1.new, h0.below⟩, L, L2, ⟨hd, hD, h0.new, fun k q r => h1.apart k r q⟩, ⟨h2.at_, h2.disk, h2.new, h3⟩, h2.apart⟩
theorem Has.drop3 (h : Has (Tri w d1 s1 d2 s2) W d s) : Has (Two w d s) W d2 s2 := by
  obtain ⟨L, hd, hD, h0, L1, L2, h1, h2, h3⟩ := h
  exact ⟨L2, h2.at_, h2.disk, ⟨h2.new, h0.below⟩, L, hd, hD, h0.new, fun k q r => h2.apart k r q⟩
/-- A disk that was made just now beside it. -/
theorem Has.add (h : Has (Solo w) W d s) (hb : Below W.heap.size W W') (hD1 : DiskAt W' L1 s1) (hL : L1.from W.heap.size) : Has (Two w L1.d s1) W' d s := by
  obtain ⟨L, hd, hD, h0⟩ := h
  exact ⟨L, hd, hD.later hb, solo_goes h0 (Goes.ofBelow L hb), L1, rfl, hD1, fun k hk => by have := hL k hk; have := h0.below.size; omega, fun k hk q => by have := hL k q; have := hD.lt k hk; omega⟩
theorem Has.add2 (h : Has (Two w d2 s2) W d s) (hb : Below W.heap.size W W') (hD1 : DiskAt W' L1 s1) (hL : L1.from W.heap.size) : Has (Tri w L1.d s1 d2 s2) W' d s := by
  obtain ⟨L, hd, hD, h0, L2, h2⟩ := h
  exact ⟨L, hd, hD.later hb, solo_goes h0 (Goes.ofBelow L hb), L1, L2, ⟨rfl, hD1, fun k hk => by have := hL k hk; have := h0.below.size; omega, fun k hk q => by have := hL k q; have := hD.lt k hk; omega⟩,
    by_goes h2 (Goes.ofBelow L hb), fun k hk q => by have := hL k hk; have := h2.disk.lt k q; omega⟩
/-- The image of a disk, loaded. -/
theorem img_cells {W : World} {g : Nat} {l : List Cel} (h : W.heap[g]? = some (.cells (celCells l).toArray 54)) : ImgAt W (some ⟨g, 0, none⟩) l := fun _ => by
  refine ⟨g, 0, rfl, (Array.getElem?_eq_some_iff.1 h).1, fun k c hc => ?_⟩
  obtain ⟨K, hK⟩ : ∃ K, K = k * 1025 := ⟨_, rfl⟩
  have key : ∀ j, j < 1025 → ∀ v, (celRow c)[j]? = some v → W.cell? ⟨g, K + j, none⟩ = some v := fun j hj v hv => by
    have q0 := (fm_get celRow 1025 celRow_len l k j c hc hj).trans hv
    rw [← hK] at q0
    rw [cell_of_row W g _ _ 54 _ h, List.getElem?_toArray]
    exact q0
  rw [Nat.zero_add, ← hK]
  clear hK hc h
  refine ⟨key 0 (by omega) _ rfl, fun j v hv => ?_⟩
  have hj : j < 1024 := by have := (List.getElem?_eq_some_iff.1 hv).1; rwa [blk_list_len] at this
  rw [Nat.add_assoc, Nat.add_comm 1 j]
  refine key (j + 1) (by omega) v ?_
  rw [show (celRow c)[j + 1]? = (blk c.2).toList[j]? by simp only [celRow, List.getElem?_cons_succ]]
  exact hv
theorem has_image {P : World → Loc → Prop} (hP : Stays P) (h : Has P W d s) : Calls Try.prog 16 #[.pointer (some ⟨d, 0, none⟩)] W fun e W' => ∃ (g : Nat) (l : List Cel), e = .returned (.agg #[.int .i64 s.n, .slice (some ⟨g, 0, none⟩) l.length l.length]) ∧ IsImage s l ∧ ImgAt W' (some ⟨g, 0, none⟩) l ∧ Has P W' d s := by
  have h' := h
  obtain ⟨L, rfl, hD, hp⟩ := h
  exact (image_walk hD).mono fun e W' ⟨g, l, h1, h2, h3, _, h5⟩ => ⟨g, l, h1, h2, img_cells h3, h'.later hP h5⟩
theorem load_image {s : St} {l : List Cel} (h : IsImage s l) (hok : Ok s) (p : Option Addr) (cap : Nat) (hi : ImgAt W p l) :
    Calls Try.prog 9 #[.agg #[.int .i64 s.n, .slice p l.length cap]] W fun e w' => ∃ L : Loc, e = .returned (.tuple #[.pointer (some ⟨L.d, 0, none⟩), .int .i64 0]) ∧ DiskAt w' L (loadV s.n l) ∧ L.from W.heap.size ∧ Below W.heap.size W w' :=
  load_ok s.n l p cap W (image_len h hok) hi (fun c hc => (h.sound c hc).1) (image_may h hok)
/-- A live disk that has been read j times. -/
structure Live (s : St) (n : Int) (j : Nat) : Prop where
  n : s.n = n
  live : s.stopped = false
  ops : s.ops.length ≤ 1000
  made : s.made ≤ 1000
  reads : s.reads ≤ j
  claims : s.claims = 0
theorem Live.room {s : St} {n : Int} {j : Nat} (h : Live s n j) (hj : j ≤ 1000) : Room s := ⟨by have := h.ops; omega, by have := h.made; omega, by have := h.reads; omega, by have := h.claims; omega⟩
theorem Live.read {s : St} {n : Int} {j : Nat} (h : Live s n j) {k : Int} (hk : 0 ≤ k ∧ k < n) : refV s k = 0 ∧ readB s k = curV s k ∧ readV s k = readS s ∧ Live (readS s) n (j + 1) ∧ ∀ i, curV (readS s) i = curV s i := by
  have hr : refV s k = 0 := by unfold refV; rw [h.live, if_neg (by simp), if_pos (by rw [h.n]; exact hk)]
  refine ⟨hr, ?_, ?_, ⟨h.n, h.live, h.ops, h.made, ?_, h.claims⟩, fun _ => rfl⟩
  · unfold readB
    rw [if_pos hr]
  · unfold readV
    rw [if_pos hr]
  · have := h.reads
    show s.reads + 1 ≤ ((j + 1 : Nat) : Int)
    omega
theorem Left.toLive {s : St} {n f : Int} {i : Nat} (h : Left s n f i) (hs : s.stopped = false) (hi : i ≤ 1000) : Live s n 0 := ⟨h.n, hs, by have := h.ops; omega, by have := h.made; omega, by have := h.reads; omega, h.claims⟩
theorem load_live (n : Int) (l : List Cel) : Live (loadV n l) n 0 := by
  obtain ⟨hh, he⟩ := holdAll_same l (newV n)
  unfold loadV
  rw [he]
  exact ⟨rfl, rfl, Nat.zero_le _, by show (0 : Int) ≤ 1000; omega, Int.le_refl _, rfl⟩
end Go.Proofs.YtlcdpmjdnihocaaD
