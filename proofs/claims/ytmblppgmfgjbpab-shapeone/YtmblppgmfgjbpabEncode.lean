/- Encode of shape: the superblock of a layout, or none; for every layout. -/
import Derived.Test.YtmblppgmfgjbpabWhere
import Derived.Test.YtmblppgmfgjbpabSuper
import Derived.Test.YtmblppgmfgjbpabFork
import Derived.Test.YtmblppgmfgjbpabSets
import Derived.Lib.SmallJoins
namespace Go.Proofs.Ytmblppgmfgjbpab
open Go.RowKit

/-- What Encode answers. -/
def encF (b l i a c d e f g : Int) : Nat → Int := if standsB b l i a c d e f g = true then superF b l i else nought
def encE (b l i a c d e f g : Int) : Int := if standsB b l i a c d e f g = true then 0 else 2

def magicA : Array Value := #[.int .u8 99, .int .u8 114, .int .u8 111, .int .u8 102, .int .u8 116, .int .u8 102, .int .u8 115, .int .u8 49]
theorem idx48 (L : Array Value) (k : Nat) (hk : k < 9) (x : Int) (h : L[k]? = some (.int .i64 x)) (w : World) : (Instr.index 43 (.agg L) (.int .i64 k)).run Try.prog w = .ok (.int .i64 x) w := by
  simp [Instr.index, run_underlying Try.underlying43, asIntOf, part, Try.isAgg3, h, go_sem]
  intro h9; omega
theorem load35L (w : World) (g : Nat) (f : Nat → Int) (h : w.heap[g]? = some (.cells (blk f) 23)) : (loadVar 23 ⟨g, 0, none⟩).run Try.prog w = .ok (.agg (blk f)) w :=
  run_loadVar_row w g 23 23 (blk f) (0, 0) _ h Try.underlying23 rfl (by rw [blk_size]; exact size25)

theorem wpOrd_loadB {ops : Array Oper} {Q : Exit → Act → World → Prop} {S : World → Prop} {r : List (Bool × Oper)} {a : Act} {w : World} {o : Oper} (hw : Region.wanted o (yielded ops a.tmps) = true)
    (x : Operand) (ho : o.op = .load 23 x) (g : Nat) (hx : a.eval x = .pointer (some ⟨g, 0, none⟩)) (f : Nat → Int) (hg : ∀ u, S u → u.heap[g]? = some (.cells (blk f) 23))
    (h : wpOrd Try.prog ops Q S r (a.put o.dst (.agg (blk f))) w) : wpOrd Try.prog ops Q S ((true, o) :: r) a w := by
  refine wpOrd_yield hw (fun u hu => ?_) h
  unfold execOp
  simp only [ho, hx, Instr.loadAt, Instr.sureAddr, Sem.run_bind, Sem.run_pure, Result.andThen_ok, run_loadVar_row u g 23 23 (blk f) (0, 0) _ (hg u hu) Try.underlying23 rfl (by rw [blk_size]; exact size25)]
theorem wpOrd_loadF {ops : Array Oper} {Q : Exit → Act → World → Prop} {S : World → Prop} {r : List (Bool × Oper)} {a : Act} {w : World} {o : Oper} (hw : Region.wanted o (yielded ops a.tmps) = true)
    (x : Operand) (ho : o.op = .load 23 x) (g : Nat) (hx : a.eval x = .pointer (some ⟨g, 0, none⟩)) (f : Nat → Int) (hg : w.heap[g]? = some (.cells (blk f) 23))
    (h : S w ∧ wpOrd Try.prog ops Q S r (a.put o.dst (.agg (blk f))) w) : wpOrd Try.prog ops Q S ((false, o) :: r) a w := by
  simp only [wpOrd, hw, if_true]
  unfold Oper.wp execOp
  simp only [ho, hx, Instr.loadAt, Instr.sureAddr, Sem.run_bind, Sem.run_pure, Result.andThen_ok, run_loadVar_row w g 23 23 (blk f) (0, 0) _ hg Try.underlying23 rfl (by rw [blk_size]; exact size25)]
  exact h
theorem wpOrd_storeB {ops : Array Oper} {Q : Exit → Act → World → Prop} {S : World → Prop} {r : List (Bool × Oper)} {a : Act} {w : World} {o : Oper} (hw : Region.wanted o (yielded ops a.tmps) = true)
    (x y : Operand) (ho : o.op = .store 23 x y) (g : Nat) (f f0 : Nat → Int) (hx : a.eval x = .pointer (some ⟨g, 0, none⟩)) (hy : a.eval y = .agg (blk f)) (hg : w.heap[g]? = some (.cells (blk f0) 23))
    (h : S (w.setRow g (blk f)) ∧ wpOrd Try.prog ops Q S r (a.put o.dst undef) (w.setRow g (blk f))) : wpOrd Try.prog ops Q S ((false, o) :: r) a w := by
  simp only [wpOrd, hw, if_true]
  unfold Oper.wp execOp
  simp only [ho, hx, hy, Instr.storeAt, Instr.sureAddr, Sem.run_bind, Sem.run_pure, Result.andThen_ok, run_storeVar_row w g 23 23 (blk f0) (blk f) hg (by rw [blk_size]; exact size25) (by rw [blk_size, blk_size]) (blk_one f)]
  exact h

set_option maxRecDepth 20000 in
set_option maxHeartbeats 400000 in
theorem encode_not (b l i a c d e f g : Int) (w : World) (hb : I64 b) (hs : standsB b l i a c d e f g = false) :
    Calls Try.prog 8 #[.agg (lay9 b l i a c d e f g)] w fun e' w' => e' = .returned (.tuple #[.agg (blk nought), .int .i64 2]) ∧ Below w.heap.size w w' := by
  have hc := fun w => stands_any b l i a c d e f g w hb
  rw [hs] at hc
  clear hs
  have z25 := zero25
  unfold lay9 at *
  go_enter Try.func8, Try.ntmps8
  go_wp2_with (first | (go_at_call 12; fail))
  refine (hc _).mono ?_
  rintro e' W1 ⟨rfl, hb1⟩
  have h2 := heap_kept (heap_alloc2_new w _ _) hb1
  have HB : Hid (Below w.heap.size w W1) := below_next (bel_al (below_new _ _) _) hb1
  clear hb1 hc
  go_wp2_with (first | refine wpList_store25 rfl _ _ rfl _ _ rfl rfl _ h2 ?_)
  refine retCT rfl (w.heap.size + 1) _ rfl (load35L _ _ _ (setRow_heap _ _ _ _ _ _ h2)) rfl ⟨rfl, below_setRow HB.out (by omega) _⟩

set_option maxRecDepth 20000 in
set_option maxHeartbeats 400000 in
theorem encode_fine (b l i : Int) (w : World) (hf : Fine b l i) :
    Calls Try.prog 8 #[layV b l i] w fun e' w' => e' = .returned (.tuple #[.agg (blk (superF b l i)), .int .i64 0]) ∧ Below w.heap.size w w' := by
  have hb : I64 b := by have := hf.pos; have := hf.2.2.2.2.1; unfold I64; omega
  have hc := fun w => stands_any b l i 1 (1 + l) (nodeB i) (bitsAt l i) (bitsB b) (dataAt b l i) w hb
  rw [show standsB b l i 1 (1 + l) (nodeB i) (bitsAt l i) (bitsB b) (dataAt b l i) = true from decide_eq_true ⟨hf, rfl, rfl, rfl, rfl, rfl, rfl⟩] at hc
  have hnum := fun w => numbers_any b l i 1 (1 + l) (nodeB i) (bitsAt l i) (bitsB b) (dataAt b l i) w
  have hget := nine_get b l i 1 (1 + l) (nodeB i) (bitsAt l i) (bitsB b) (dataAt b l i)
  have hfour := hf.four
  have HL : Hid (∀ n : Nat → Int, blk (layF nought 0 8 magicF) = blk (supK n 8)) := fun n => by rw [sup_lay n]
  have z25 := zero25
  unfold layV superF
  change ∀ k, k < 9 → (lay9 b l i 1 (1 + l) (nodeB i) (bitsAt l i) (bitsB b) (dataAt b l i))[k]? = some (.int .i64 (nineG b l i k)) at hget
  generalize nineG b l i = n at *
  have e1 : ∀ (w : World), (w.alloc (.cells (lay9 b l i 1 (1 + l) (nodeB i) (bitsAt l i) (bitsB b) (dataAt b l i)) 27)).heap[w.heap.size]? = some (.cells (lay9 b l i 1 (1 + l) (nodeB i) (bitsAt l i) (bitsB b) (dataAt b l i)) 27) := fun w => heap_alloc_new _ _
  have hsz : (lay9 b l i 1 (1 + l) (nodeB i) (bitsAt l i) (bitsB b) (dataAt b l i)).size = 9 := rfl
  generalize lay9 b l i 1 (1 + l) (nodeB i) (bitsAt l i) (bitsB b) (dataAt b l i) = L at *
  clear hf
  have HG : Hid _ := hget
  have H4 : Hid _ := hfour
  clear hget hfour
  go_enter Try.func8, Try.ntmps8
  go_wp2_with (first | refine wpList_loadL rfl _ rfl _ rfl _ hsz (heap_alloc2_old _ _ _) ?_ | (go_at_call 12; fail))
  refine (hc _).mono ?_
  rintro e' W1 ⟨rfl, hb1⟩
  have h1 := heap_kept (heap_alloc2_old w (.cells L 27) (.cells (blk nought) 23)) hb1
  have h2 := heap_kept (heap_alloc2_new w (.cells L 27) (.cells (blk nought) 23)) hb1
  have HB1 : Hid (Below w.heap.size w W1) := below_next (bel_al (below_new _ _) _) hb1
  clear hb1 hc e1
  have hconv := Lib.run_convert_bytes_const (P := Try.prog) W1 42 5 magicA 8 8 Try.underlying42 Try.underlying5
  unfold magicA at hconv
  go_wp2_with (first | (go_at_call 13; fail))
  have hlies : Lies (W1.alloc (.cells magicA 5 (magicA.size, magicA.size + 1))) (.slice (some ⟨W1.heap.size, 0, none⟩) 8 8) 8 magicF :=
    .inr ⟨_, 0, 8, rfl, by unfold maxLen; omega, by omega, by simp, fun i hi => by
      rw [World.cell?_alloc_mark]
      match i, hi with
      | 0, _ => rfl
      | 1, _ => rfl
      | 2, _ => rfl
      | 3, _ => rfl
      | 4, _ => rfl
      | 5, _ => rfl
      | 6, _ => rfl
      | 7, _ => rfl⟩
  refine (lay_any nought 0 _ 8 magicF _ (by omega) hlies).mono ?_
  rintro e' W2 ⟨rfl, hb2⟩
  have h3 := heap_kept (heap_kept h1 (below_new _ _)) hb2
  have h4 := heap_kept (heap_kept h2 (below_new _ _)) hb2
  have HB2 : Hid (Below w.heap.size w W2) := below_next (below_next HB1.out (below_new _ _)) hb2
  rw [HL.out n]
  clear hlies hb2 hconv h1 h2 HB1
  go_wp2_with (first | refine wpList_store25_new rfl _ _ rfl _ _ rfl rfl ?_ | refine wpList_loadL rfl _ rfl _ rfl _ hsz (heap_kept h3 (below_new _ _)) ?_ | (go_at_call 14; fail))
  refine (hnum _).mono ?_
  rintro e' W3 ⟨rfl, hb3⟩
  have h5 := heap_kept (heap_alloc_new W2 (.cells (blk (supK n 8)) 23)) hb3
  have HB3 : Hid (Below W2.heap.size W2 W3) := below_next (below_new _ _) hb3
  clear hb3 hnum h3
  go_wp2
  go_loopw [17] (fun s17 wx => ∃ k : Nat, k ≤ 9 ∧ s17 = .int .i64 k ∧ wx.heap[W2.heap.size]? = some (.cells (blk (supK n (8 + 4 * k))) 23) ∧ Below W2.heap.size W2 wx) (fun s17 _ => 9 - (intOf s17).toNat)
  case atStart => exact ⟨0, by omega, rfl, h5, HB3.out⟩
  case round =>
    obtain ⟨k, hk, rfl, hg, hbel⟩ := hrel
    have HB : Hid _ := hbel
    clear hbel h5 HB3
    by_cases hk9 : (k : Int) < 9
    · have hgk := HG.out k (by omega)
      have h4k := H4.out k
      have hst := fun (w : World) => set32_any (supK n (8 + 4 * k)) (8 + 4 * (k : Int)) (n k) w h4k
      have hpl := fun (w : World) => place_any k w (by omega)
      rw [show (8 + 4 * (k : Int)) = ((8 + 4 * k : Nat) : Int) by omega, put_in _ _ _ _ (by omega), supK_put n k (by omega)] at hst
      have HST : Hid _ := hst
      have HPL : Hid _ := hpl
      generalize n k = x at *
      have hwr : IntKind.u32.wrap x = x := by rw [wrap_u32]; omega
      clear hst hpl
      have hidx := idx48 L k (by omega) x hgk
      have hx0 := h4k.1
      have hx1 := h4k.2
      go_wp2
      refine wp_region_fork (S := fun _ => True) [1, 3, 4] 0 2 [(5, false), (6, false)] (by kernel_rfl) rfl (by kernel_rfl) (fun d _ _ _ _ h => by cases d <;> exact h) trivial ?_
      refine wpFork_yield (v := .int .i64 (k : Int)) rfl rfl (fun u _ => by simp [execOp, Act.eval]) ?_
      simp only [Act.put, List.setIfInBounds_toArray, List.set_cons_succ, List.set_cons_zero]
      refine wpFork_yield (v := .int .i64 x) rfl rfl (fun u _ => by simp [execOp, Act.eval]) ?_
      simp only [Act.put, List.setIfInBounds_toArray, List.set_cons_succ, List.set_cons_zero]
      refine wpFork_yield (v := .int .u32 x) rfl rfl (fun u _ => by go_simp) ?_
      simp only [Act.put, List.setIfInBounds_toArray, List.set_cons_succ, List.set_cons_zero]
      have hg0 : wr.drew.heap[W2.heap.size]? = some (.cells (blk (supK n (8 + 4 * k))) 23) := hg
      have HBd : Hid (Below W2.heap.size W2 wr.drew) := HB.out.drew
      clear hg HB
      generalize wr.drew = wd at *
      refine wpFork_nil rfl rfl ?_ ?_
      · simp only [inOrd, List.getElem?_cons_zero, List.getElem?_cons_succ]
        refine wpOrd_loadF rfl _ rfl _ rfl _ hg0 ⟨trivial, ?_⟩
        simp only [Act.put, List.setIfInBounds_toArray, List.set_cons_succ, List.set_cons_zero]
        refine wpOrd_call rfl 16 _ _ rfl Try.call16 [.int .i64 (k : Int)] rfl ?_
        refine (HPL.out _).mono ?_
        rintro e' X ⟨rfl, rfl⟩
        refine ⟨_, rfl, trivial, ?_⟩
        simp only [Act.put, List.setIfInBounds_toArray, List.set_cons_succ, List.set_cons_zero]
        refine wpOrd_call rfl 15 _ _ rfl Try.call15 [.agg (blk (supK n (8 + 4 * k))), .int .i64 (8 + 4 * (k : Int)), .int .u32 x] rfl ?_
        refine (HST.out _).mono ?_
        rintro e' X ⟨rfl, hbx⟩
        refine ⟨_, rfl, trivial, ?_⟩
        simp only [Act.put, List.setIfInBounds_toArray, List.set_cons_succ, List.set_cons_zero]
        have hg1 := heap_kept hg0 hbx
        have HB1 : Hid (Below W2.heap.size W2 X) := below_next HBd.out hbx
        refine wpOrd_storeB rfl _ _ rfl W2.heap.size (supK n (8 + 4 * (k + 1))) _ rfl rfl hg1 ⟨trivial, ?_⟩
        refine wpOrd_nil ?_
        have hg2 := setRow_heap X W2.heap.size (blk (supK n (8 + 4 * k))) (blk (supK n (8 + 4 * (k + 1)))) 23 (0, 0) hg1
        have HB2' : Hid (Below W2.heap.size W2 (X.setRow W2.heap.size (blk (supK n (8 + 4 * (k + 1)))))) := below_setRow HB1.out (Nat.le_refl _) _
        simp only [Act.put]
        generalize X.setRow W2.heap.size (blk (supK n (8 + 4 * (k + 1)))) = Y at hg2 HB2' ⊢
        clear hg1 hg0 HB1 HBd hbx HST HPL
        go_wp2
        exact ⟨⟨k + 1, by omega, by go_num, hg2, HB2'.out⟩, by simp [intOf]; omega⟩
      · simp only [inOrd, List.getElem?_cons_zero, List.getElem?_cons_succ]
        refine wpOrd_call rfl 16 _ _ rfl Try.call16 [.int .i64 (k : Int)] rfl ?_
        refine (HPL.out _).mono ?_
        rintro e' X ⟨rfl, rfl⟩
        refine ⟨_, rfl, trivial, ?_⟩
        simp only [Act.put, List.setIfInBounds_toArray, List.set_cons_succ, List.set_cons_zero]
        refine wpOrd_loadF rfl _ rfl _ rfl _ hg0 ⟨trivial, ?_⟩
        simp only [Act.put, List.setIfInBounds_toArray, List.set_cons_succ, List.set_cons_zero]
        refine wpOrd_call rfl 15 _ _ rfl Try.call15 [.agg (blk (supK n (8 + 4 * k))), .int .i64 (8 + 4 * (k : Int)), .int .u32 x] rfl ?_
        refine (HST.out _).mono ?_
        rintro e' X ⟨rfl, hbx⟩
        refine ⟨_, rfl, trivial, ?_⟩
        simp only [Act.put, List.setIfInBounds_toArray, List.set_cons_succ, List.set_cons_zero]
        have hg1 := heap_kept hg0 hbx
        have HB1 : Hid (Below W2.heap.size W2 X) := below_next HBd.out hbx
        refine wpOrd_storeB rfl _ _ rfl W2.heap.size (supK n (8 + 4 * (k + 1))) _ rfl rfl hg1 ⟨trivial, ?_⟩
        refine wpOrd_nil ?_
        have hg2 := setRow_heap X W2.heap.size (blk (supK n (8 + 4 * k))) (blk (supK n (8 + 4 * (k + 1)))) 23 (0, 0) hg1
        have HB2' : Hid (Below W2.heap.size W2 (X.setRow W2.heap.size (blk (supK n (8 + 4 * (k + 1)))))) := below_setRow HB1.out (Nat.le_refl _) _
        simp only [Act.put]
        generalize X.setRow W2.heap.size (blk (supK n (8 + 4 * (k + 1)))) = Y at hg2 HB2' ⊢
        clear hg1 hg0 HB1 HBd hbx HST HPL
        go_wp2
        exact ⟨⟨k + 1, by omega, by go_num, hg2, HB2'.out⟩, by simp [intOf]; omega⟩
    · obtain rfl : k = 9 := by omega
      rw [show 8 + 4 * 9 = 44 by omega, supK_all] at hg
      have h4' := (HB.out.block _ (Array.getElem?_eq_some_iff.1 h4).1).trans h4
      clear hk HG H4
      go_wp2_with (first | refine wpList_load25 rfl _ rfl _ rfl _ hg ?_ | refine wpList_store25 rfl _ _ rfl _ _ rfl rfl _ h4' ?_)
      exact retCT rfl (w.heap.size + 1) _ rfl (load35L _ _ _ (setRow_heap _ _ _ _ _ _ h4')) rfl ⟨rfl, below_setRow (below_next HB2.out HB.out) (by omega) _⟩
theorem encode_any (b l i a c d e f g : Int) (w : World) (hb : I64 b) :
    Calls Try.prog 8 #[.agg (lay9 b l i a c d e f g)] w fun e' w' => e' = .returned (.tuple #[.agg (blk (encF b l i a c d e f g)), .int .i64 (encE b l i a c d e f g)]) ∧ Below w.heap.size w w' := by
  unfold encF encE
  by_cases h : standsB b l i a c d e f g = true
  · rw [if_pos h, if_pos h]
    obtain ⟨hf, h1, h2, h3, h4, h5, h6⟩ := of_decide_eq_true h
    rw [h1, h2, h3, h4, h5, h6]
    exact encode_fine b l i w hf
  · rw [if_neg h, if_neg h]
    exact encode_not b l i a c d e f g w hb (by simpa using h)
end Go.Proofs.Ytmblppgmfgjbpab
