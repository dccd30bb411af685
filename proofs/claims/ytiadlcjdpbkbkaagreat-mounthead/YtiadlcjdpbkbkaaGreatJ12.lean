/- Several texts joined, each with its own remark; no condition. -/
import Derived.Test.YtiadlcjdpbkbkaaGreatJ11
import Derived.Lib.SmallJoins
import Derived.Test.YtiadlcjdpbkbkaaGreatJ10
import Derived.Test.YtiadlcjdpbkbkaaGreatJ8
import Derived.Maps.Ext
import Derived.Test.YtiadlcjdpbkbkaaGreatJ3
/- SetU16 and SetU32 of slab: the block in which a number is laid; for every block, place and number. -/
namespace Go.Proofs.YtiadlcjdpbkbkaaGreatP
open Go.RowKit

theorem ret_blk {f g : Nat → Int} (h : f = g) : Ending.returned (.agg (blk f)) = .returned (.agg (blk g)) := by rw [h]
set_option maxRecDepth 20000 in
set_option maxHeartbeats 400000 in
theorem set32_in (f : Nat → Int) (k : Nat) (v : Int) (w : World) (hk : (k : Int) ≤ 1020) (hv : 0 ≤ v ∧ v < 4294967296) :
    Calls Tryz.prog 47 #[.agg (blk f), .int .i64 k, .int .u32 v] w fun e w' => e = .returned (.agg (blk (putN f k v 4))) ∧ Below w.heap.size w w' := by
  have z25 := zero25
  have hb0 := fun g => blk_get g (k) (by omega)
  have hb1 := fun g => blk_get g (k + 1) (by omega)
  have hb2 := fun g => blk_get g (k + 2) (by omega)
  have hb3 := fun g => blk_get g (k + 3) (by omega)
  have hset := blk_set
  go_enter Tryz.func47, Tryz.ntmps47
  go_wp2_with (first | (go_at_call 68; refine (fits_yes _ _ _ (by omega) (by omega)).mono ?_; rintro e w' ⟨rfl, rfl⟩) | refine wpList_load25 rfl _ rfl _ rfl _ (heap_alloc2_old _ _ _) ?_ | refine wpList_store25 rfl _ _ rfl _ _ rfl rfl _ (heap_alloc2_new _ _ _) ?_)
  exact ret25 rfl (w.heap.size + 1) _ rfl (setRow_heap _ _ _ _ _ _ (heap_alloc2_new _ _ _)) rfl ⟨ret_blk (put4 f k v hv).symm, below2 _ _ _ _ (by omega) _⟩
set_option maxRecDepth 20000 in
set_option maxHeartbeats 400000 in
theorem set32_out (f : Nat → Int) (k : Int) (v : Int) (w : World) (hk : ¬ (0 ≤ k ∧ k ≤ 1024 - 4)) :
    Calls Tryz.prog 47 #[.agg (blk f), .int .i64 k, .int .u32 v] w fun e w' => e = .returned (.agg (blk f)) ∧ Below w.heap.size w w' := by
  have z25 := zero25
  have HK : Hid (¬ (0 ≤ k ∧ k ≤ 1024 - 4)) := hk
  clear hk
  go_enter Tryz.func47, Tryz.ntmps47
  go_wp2_with (first | (go_at_call 68; refine (fits_no _ _ _ (by omega) HK.out).mono ?_; rintro e w' ⟨rfl, rfl⟩) | refine wpList_load25 rfl _ rfl _ rfl _ (heap_alloc2_old _ _ _) ?_ | refine wpList_store25 rfl _ _ rfl _ _ rfl rfl _ (heap_alloc2_new _ _ _) ?_)
  exact ret25 rfl (w.heap.size + 1) _ rfl (setRow_heap _ _ _ _ _ _ (heap_alloc2_new _ _ _)) rfl ⟨rfl, below2 _ _ _ _ (by omega) _⟩
theorem set32_any (f : Nat → Int) (k : Int) (v : Int) (w : World) (hv : 0 ≤ v ∧ v < 4294967296) :
    Calls Tryz.prog 47 #[.agg (blk f), .int .i64 k, .int .u32 v] w fun e w' => e = .returned (.agg (blk (put f k 4 v))) ∧ Below w.heap.size w w' := by
  by_cases h : 0 ≤ k ∧ k ≤ 1024 - 4
  · obtain ⟨m, rfl⟩ := Int.eq_ofNat_of_zero_le h.1
    rw [put_in f m 4 v (by omega)]; exact set32_in f m v w (by omega) hv
  · rw [put_out f k 4 v (by omega)]; exact set32_out f k v w h
end Go.Proofs.YtiadlcjdpbkbkaaGreatP
/- Encode of shape: the superblock of a layout, or none; for every layout. -/
namespace Go.Proofs.YtiadlcjdpbkbkaaGreatP
open Go.RowKit

/-- What Encode answers. -/
def encF (b l i a c d e f g : Int) : Nat → Int := if standsB b l i a c d e f g = true then superF b l i else nought
def encE (b l i a c d e f g : Int) : Int := if standsB b l i a c d e f g = true then 0 else 2

def magicA : Array Value := #[.int .u8 99, .int .u8 114, .int .u8 111, .int .u8 102, .int .u8 116, .int .u8 102, .int .u8 115, .int .u8 49]
theorem idx48 (L : Array Value) (k : Nat) (hk : k < 9) (x : Int) (h : L[k]? = some (.int .i64 x)) (w : World) : (Instr.index 136 (.agg L) (.int .i64 k)).run Tryz.prog w = .ok (.int .i64 x) w := by
  simp [Instr.index, run_underlying Tryz.underlying136, asIntOf, part, Tryz.isAgg3, h, go_sem]
  intro h9; omega
theorem load35L (w : World) (g : Nat) (f : Nat → Int) (h : w.heap[g]? = some (.cells (blk f) 47)) : (loadVar 47 ⟨g, 0, none⟩).run Tryz.prog w = .ok (.agg (blk f)) w :=
  run_loadVar_row w g 47 47 (blk f) (0, 0) _ h Tryz.underlying47 rfl (by rw [blk_size]; exact size25)

theorem wpOrd_loadB {ops : Array Oper} {Q : Exit → Act → World → Prop} {S : World → Prop} {r : List (Bool × Oper)} {a : Act} {w : World} {o : Oper} (hw : Region.wanted o (yielded ops a.tmps) = true)
    (x : Operand) (ho : o.op = .load 47 x) (g : Nat) (hx : a.eval x = .pointer (some ⟨g, 0, none⟩)) (f : Nat → Int) (hg : ∀ u, S u → u.heap[g]? = some (.cells (blk f) 47))
    (h : wpOrd Tryz.prog ops Q S r (a.put o.dst (.agg (blk f))) w) : wpOrd Tryz.prog ops Q S ((true, o) :: r) a w := by
  refine wpOrd_yield hw (fun u hu => ?_) h
  unfold execOp
  simp only [ho, hx, Instr.loadAt, Instr.sureAddr, Sem.run_bind, Sem.run_pure, Result.andThen_ok, run_loadVar_row u g 47 47 (blk f) (0, 0) _ (hg u hu) Tryz.underlying47 rfl (by rw [blk_size]; exact size25)]
theorem wpOrd_loadF {ops : Array Oper} {Q : Exit → Act → World → Prop} {S : World → Prop} {r : List (Bool × Oper)} {a : Act} {w : World} {o : Oper} (hw : Region.wanted o (yielded ops a.tmps) = true)
    (x : Operand) (ho : o.op = .load 47 x) (g : Nat) (hx : a.eval x = .pointer (some ⟨g, 0, none⟩)) (f : Nat → Int) (hg : w.heap[g]? = some (.cells (blk f) 47))
    (h : S w ∧ wpOrd Tryz.prog ops Q S r (a.put o.dst (.agg (blk f))) w) : wpOrd Tryz.prog ops Q S ((false, o) :: r) a w := by
  simp only [wpOrd, hw, if_true]
  unfold Oper.wp execOp
  simp only [ho, hx, Instr.loadAt, Instr.sureAddr, Sem.run_bind, Sem.run_pure, Result.andThen_ok, run_loadVar_row w g 47 47 (blk f) (0, 0) _ hg Tryz.underlying47 rfl (by rw [blk_size]; exact size25)]
  exact h
theorem wpOrd_storeB {ops : Array Oper} {Q : Exit → Act → World → Prop} {S : World → Prop} {r : List (Bool × Oper)} {a : Act} {w : World} {o : Oper} (hw : Region.wanted o (yielded ops a.tmps) = true)
    (x y : Operand) (ho : o.op = .store 47 x y) (g : Nat) (f f0 : Nat → Int) (hx : a.eval x = .pointer (some ⟨g, 0, none⟩)) (hy : a.eval y = .agg (blk f)) (hg : w.heap[g]? = some (.cells (blk f0) 47))
    (h : S (w.setRow g (blk f)) ∧ wpOrd Tryz.prog ops Q S r (a.put o.dst undef) (w.setRow g (blk f))) : wpOrd Tryz.prog ops Q S ((false, o) :: r) a w := by
  simp only [wpOrd, hw, if_true]
  unfold Oper.wp execOp
  simp only [ho, hx, hy, Instr.storeAt, Instr.sureAddr, Sem.run_bind, Sem.run_pure, Result.andThen_ok, run_storeVar_row w g 47 47 (blk f0) (blk f) hg (by rw [blk_size]; exact size25) (by rw [blk_size, blk_size]) (blk_one f)]
  exact h

set_option maxRecDepth 20000 in
set_option maxHeartbeats 400000 in
theorem encode_not (b l i a c d e f g : Int) (w : World) (hb : I64 b) (hs : standsB b l i a c d e f g = false) :
    Calls Tryz.prog 71 #[.agg (lay9 b l i a c d e f g)] w fun e' w' => e' = .returned (.tuple #[.agg (blk nought), .int .i64 2]) ∧ Below w.heap.size w w' := by
  have hc := fun w => stands_any b l i a c d e f g w hb
  rw [hs] at hc
  clear hs
  have z25 := zero25
  unfold lay9 at *
  go_enter Tryz.func71, Tryz.ntmps71
  go_wp2_with (first | (go_at_call 88; fail))
  refine (hc _).mono ?_
  rintro e' W1 ⟨rfl, hb1⟩
  have h2 := heap_kept (heap_alloc2_new w _ _) hb1
  have HB : Hid (Below w.heap.size w W1) := below_next (bel_al (below_new _ _) _) hb1
  clear hb1 hc
  go_wp2_with (first | refine wpList_store25 rfl _ _ rfl _ _ rfl rfl _ h2 ?_)
  refine retCT rfl (w.heap.size + 1) _ rfl (load35L _ _ _ (setRow_heap _ _ _ _ _ _ h2)) rfl ⟨rfl, below_setRow HB.out (by omega) _⟩

set_option maxRecDepth 20000 in
set_option maxHeartbeats 400000 in
theorem encode_fine (b l i : Int) (w : World) (hf : Fine b l i) :
    Calls Tryz.prog 71 #[layV b l i] w fun e' w' => e' = .returned (.tuple #[.agg (blk (superF b l i)), .int .i64 0]) ∧ Below w.heap.size w w' := by
  have hb : I64 b := by have := hf.pos; have := hf.2.2.2.2.1; unfold I64; omega
  have hc := fun w => stands_any b l i 1 (1 + l) (nodeB i) (bitsAt l i) (bitsB b) (dataAt b l i) w hb
  rw [show standsB b l i 1 (1 + l) (nodeB i) (bitsAt l i) (bitsB b) (dataAt b l i) = true from decide_eq_true ⟨hf, rfl, rfl, rfl, rfl, rfl, rfl⟩] at hc
  have hnum := fun w => numbers_any b l i 1 (1 + l) (nodeB i) (bitsAt l i) (bitsB b) (dataAt b l i) w
  have hget := nine_get b l i 1 (1 + l) (nodeB i) (bitsAt l i) (bitsB b) (dataAt b l i)
  have hfour := hf.four
  have HL : Hid (∀ n : Nat → Int, blk (layF nought 0 8 magicF) = blk (supK n 8)) := fun n => by rw [sup_lay n]
  have z25 := zero25
  unfold layV superF
  change ∀ k, k < 9 → (lay9 b l i 1 (1 + l) (nodeB i) (bitsAt l i) (bitsB b) (dataAt b l i))[k]? = some (.int .i64 (nineG b l i k)) at hget
  generalize nineG b l i = n at *
  have e1 : ∀ (w : World), (w.alloc (.cells (lay9 b l i 1 (1 + l) (nodeB i) (bitsAt l i) (bitsB b) (dataAt b l i)) 43)).heap[w.heap.size]? = some (.cells (lay9 b l i 1 (1 + l) (nodeB i) (bitsAt l i) (bitsB b) (dataAt b l i)) 43) := fun w => heap_alloc_new _ _
  have hsz : (lay9 b l i 1 (1 + l) (nodeB i) (bitsAt l i) (bitsB b) (dataAt b l i)).size = 9 := rfl
  generalize lay9 b l i 1 (1 + l) (nodeB i) (bitsAt l i) (bitsB b) (dataAt b l i) = L at *
  clear hf
  have HG : Hid _ := hget
  have H4 : Hid _ := hfour
  clear hget hfour
  go_enter Tryz.func71, Tryz.ntmps71
  go_wp2_with (first | refine wpList_loadL rfl _ rfl _ rfl _ hsz (heap_alloc2_old _ _ _) ?_ | (go_at_call 88; fail))
  refine (hc _).mono ?_
  rintro e' W1 ⟨rfl, hb1⟩
  have h1 := heap_kept (heap_alloc2_old w (.cells L 43) (.cells (blk nought) 47)) hb1
  have h2 := heap_kept (heap_alloc2_new w (.cells L 43) (.cells (blk nought) 47)) hb1
  have HB1 : Hid (Below w.heap.size w W1) := below_next (bel_al (below_new _ _) _) hb1
  clear hb1 hc e1
  have hconv := Lib.run_convert_bytes_const (P := Tryz.prog) W1 135 5 magicA 8 8 Tryz.underlying135 Tryz.underlying5
  unfold magicA at hconv
  go_wp2_with (first | (go_at_call 89; fail))
  have hlies : Lies (W1.alloc (.cells magicA 5 (magicA.size, magicA.size + 1))) (.slice (some ⟨W1.heap.size, 0, none⟩) 8 8) 8 magicF :=
    .inr ⟨_, 0, 8, rfl, by unfold maxLen; omega, by omega, by simp, fun i hi => by
      rw [World.cell?_alloc_mark]
      match i, hi with
      | 0, _ => rfl
      | 1, _ => rfl
      | 2, _ => rfl
      | 3, _ => rfl
      | 4, _ => rfl
      | 5, _ => rfl
      | 6, _ => rfl
      | 7, _ => rfl⟩
  refine (lay_any nought 0 _ 8 magicF _ (by omega) hlies).mono ?_
  rintro e' W2 ⟨rfl, hb2⟩
  have h3 := heap_kept (heap_kept h1 (below_new _ _)) hb2
  have h4 := heap_kept (heap_kept h2 (below_new _ _)) hb2
  have HB2 : Hid (Below w.heap.size w W2) := below_next (below_next HB1.out (below_new _ _)) hb2
  rw [HL.out n]
  clear hlies hb2 hconv h1 h2 HB1
  go_wp2_with (first | refine wpList_store25_new rfl _ _ rfl _ _ rfl rfl ?_ | refine wpList_loadL rfl _ rfl _ rfl _ hsz (heap_kept h3 (below_new _ _)) ?_ | (go_at_call 90; fail))
  refine (hnum _).mono ?_
  rintro e' W3 ⟨rfl, hb3⟩
  have h5 := heap_kept (heap_alloc_new W2 (.cells (blk (supK n 8)) 47)) hb3
  have HB3 : Hid (Below W2.heap.size W2 W3) := below_next (below_new _ _) hb3
  clear hb3 hnum h3
  go_wp2
  go_loopw [17] (fun s17 wx => ∃ k : Nat, k ≤ 9 ∧ s17 = .int .i64 k ∧ wx.heap[W2.heap.size]? = some (.cells (blk (supK n (8 + 4 * k))) 47) ∧ Below W2.heap.size W2 wx) (fun s17 _ => 9 - (intOf s17).toNat)
  case atStart => exact ⟨0, by omega, rfl, h5, HB3.out⟩
  case round =>
    obtain ⟨k, hk, rfl, hg, hbel⟩ := hrel
    have HB : Hid _ := hbel
    clear hbel h5 HB3
    by_cases hk9 : (k : Int) < 9
    · have hgk := HG.out k (by omega)
      have h4k := H4.out k
      have hst := fun (w : World) => set32_any (supK n (8 + 4 * k)) (8 + 4 * (k : Int)) (n k) w h4k
      have hpl := fun (w : World) => place_any k w (by omega)
      rw [show (8 + 4 * (k : Int)) = ((8 + 4 * k : Nat) : Int) by omega, put_in _ _ _ _ (by omega), supK_put n k (by omega)] at hst
      have HST : Hid _ := hst
      have HPL : Hid _ := hpl
      generalize n k = x at *
      have hwr : IntKind.u32.wrap x = x := by rw [wrap_u32]; omega
      clear hst hpl
      have hidx := idx48 L k (by omega) x hgk
      have hx0 := h4k.1
      have hx1 := h4k.2
      go_wp2
      refine wp_region_fork (S := fun _ => True) [1, 3, 4] 0 2 [(5, false), (6, false)] (by kernel_rfl) rfl (by kernel_rfl) (fun d _ _ _ _ h => by cases d <;> exact h) trivial ?_
      refine wpFork_yield (v := .int .i64 (k : Int)) rfl rfl (fun u _ => by simp [execOp, Act.eval]) ?_
      simp only [Act.put, List.setIfInBounds_toArray, List.set_cons_succ, List.set_cons_zero]
      refine wpFork_yield (v := .int .i64 x) rfl rfl (fun u _ => by simp [execOp, Act.eval]) ?_
      simp only [Act.put, List.setIfInBounds_toArray, List.set_cons_succ, List.set_cons_zero]
      refine wpFork_yield (v := .int .u32 x) rfl rfl (fun u _ => by go_simp) ?_
      simp only [Act.put, List.setIfInBounds_toArray, List.set_cons_succ, List.set_cons_zero]
      have hg0 : wr.drew.heap[W2.heap.size]? = some (.cells (blk (supK n (8 + 4 * k))) 47) := hg
      have HBd : Hid (Below W2.heap.size W2 wr.drew) := HB.out.drew
      clear hg HB
      generalize wr.drew = wd at *
      refine wpFork_nil rfl rfl ?_ ?_
      · simp only [inOrd, List.getElem?_cons_zero, List.getElem?_cons_succ]
        refine wpOrd_loadF rfl _ rfl _ rfl _ hg0 ⟨trivial, ?_⟩
        simp only [Act.put, List.setIfInBounds_toArray, List.set_cons_succ, List.set_cons_zero]
        refine wpOrd_call rfl 91 _ _ rfl Tryz.call91 [.int .i64 (k : Int)] rfl ?_
        refine (HPL.out _).mono ?_
        rintro e' X ⟨rfl, rfl⟩
        refine ⟨_, rfl, trivial, ?_⟩
        simp only [Act.put, List.setIfInBounds_toArray, List.set_cons_succ, List.set_cons_zero]
        refine wpOrd_call rfl 47 _ _ rfl Tryz.call47 [.agg (blk (supK n (8 + 4 * k))), .int .i64 (8 + 4 * (k : Int)), .int .u32 x] rfl ?_
        refine (HST.out _).mono ?_
        rintro e' X ⟨rfl, hbx⟩
        refine ⟨_, rfl, trivial, ?_⟩
        simp only [Act.put, List.setIfInBounds_toArray, List.set_cons_succ, List.set_cons_zero]
        have hg1 := heap_kept hg0 hbx
        have HB1 : Hid (Below W2.heap.size W2 X) := below_next HBd.out hbx
        refine wpOrd_storeB rfl _ _ rfl W2.heap.size (supK n (8 + 4 * (k + 1))) _ rfl rfl hg1 ⟨trivial, ?_⟩
        refine wpOrd_nil ?_
        have hg2 := setRow_heap X W2.heap.size (blk (supK n (8 + 4 * k))) (blk (supK n (8 + 4 * (k + 1)))) 47 (0, 0) hg1
        have HB2' : Hid (Below W2.heap.size W2 (X.setRow W2.heap.size (blk (supK n (8 + 4 * (k + 1)))))) := below_setRow HB1.out (Nat.le_refl _) _
        simp only [Act.put]
        generalize X.setRow W2.heap.size (blk (supK n (8 + 4 * (k + 1)))) = Y at hg2 HB2' ⊢
        clear hg1 hg0 HB1 HBd hbx HST HPL
        go_wp2
        exact ⟨⟨k + 1, by omega, by go_num, hg2, HB2'.out⟩, by simp [intOf]; omega⟩
      · simp only [inOrd, List.getElem?_cons_zero, List.getElem?_cons_succ]
        refine wpOrd_call rfl 91 _ _ rfl Tryz.call91 [.int .i64 (k : Int)] rfl ?_
        refine (HPL.out _).mono ?_
        rintro e' X ⟨rfl, rfl⟩
        refine ⟨_, rfl, trivial, ?_⟩
        simp only [Act.put, List.setIfInBounds_toArray, List.set_cons_succ, List.set_cons_zero]
        refine wpOrd_loadF rfl _ rfl _ rfl _ hg0 ⟨trivial, ?_⟩
        simp only [Act.put, List.setIfInBounds_toArray, List.set_cons_succ, List.set_cons_zero]
        refine wpOrd_call rfl 47 _ _ rfl Tryz.call47 [.agg (blk (supK n (8 + 4 * k))), .int .i64 (8 + 4 * (k : Int)), .int .u32 x] rfl ?_
        refine (HST.out _).mono ?_
        rintro e' X ⟨rfl, hbx⟩
        refine ⟨_, rfl, trivial, ?_⟩
        simp only [Act.put, List.setIfInBounds_toArray, List.set_cons_succ, List.set_cons_zero]
        have hg1 := heap_kept hg0 hbx
        have HB1 : Hid (Below W2.heap.size W2 X) := below_next HBd.out hbx
        refine wpOrd_storeB rfl _ _ rfl W2.heap.size (supK n (8 + 4 * (k + 1))) _ rfl rfl hg1 ⟨trivial, ?_⟩
        refine wpOrd_nil ?_
        have hg2 := setRow_heap X W2.heap.size (blk (supK n (8 + 4 * k))) (blk (supK n (8 + 4 * (k + 1)))) 47 (0, 0) hg1
        have HB2' : Hid (Below W2.heap.size W2 (X.setRow W2.heap.size (blk (supK n (8 + 4 * (k + 1)))))) := below_setRow HB1.out (Nat.le_refl _) _
        simp only [Act.put]
        generalize X.setRow W2.heap.size (blk (supK n (8 + 4 * (k + 1)))) = Y at hg2 HB2' ⊢
        clear hg1 hg0 HB1 HBd hbx HST HPL
        go_wp2
        exact ⟨⟨k + 1, by omega, by go_num, hg2, HB2'.out⟩, by simp [intOf]; omega⟩
    · obtain rfl : k = 9 := by omega
      rw [show 8 + 4 * 9 = 44 by omega, supK_all] at hg
      have h4' := (HB.out.block _ (Array.getElem?_eq_some_iff.1 h4).1).trans h4
      clear hk HG H4
      go_wp2_with (first | refine wpList_load25 rfl _ rfl _ rfl _ hg ?_ | refine wpList_store25 rfl _ _ rfl _ _ rfl rfl _ h4' ?_)
      exact retCT rfl (w.heap.size + 1) _ rfl (load35L _ _ _ (setRow_heap _ _ _ _ _ _ h4')) rfl ⟨rfl, below_setRow (below_next HB2.out HB.out) (by omega) _⟩
theorem encode_any (b l i a c d e f g : Int) (w : World) (hb : I64 b) :
    Calls Tryz.prog 71 #[.agg (lay9 b l i a c d e f g)] w fun e' w' => e' = .returned (.tuple #[.agg (blk (encF b l i a c d e f g)), .int .i64 (encE b l i a c d e f g)]) ∧ Below w.heap.size w w' := by
  unfold encF encE
  by_cases h : standsB b l i a c d e f g = true
  · rw [if_pos h, if_pos h]
    obtain ⟨hf, h1, h2, h3, h4, h5, h6⟩ := of_decide_eq_true h
    rw [h1, h2, h3, h4, h5, h6]
    exact encode_fine b l i w hf
  · rw [if_neg h, if_neg h]
    exact encode_not b l i a c d e f g w hb (by simpa using h)
end Go.Proofs.YtiadlcjdpbkbkaaGreatP
/- Decode of shape: the layout of a superblock, or none; for every block of bytes and every number of blocks. -/
namespace Go.Proofs.YtiadlcjdpbkbkaaGreatP
open Go.RowKit

def Byte (f : Nat → Int) : Prop := ∀ i, 0 ≤ f i ∧ f i ≤ 255
/-- Is f the superblock of a layout of at most n blocks? -/
def decB (f : Nat → Int) (n : Int) : Bool :=
  decide (Fine (numN f 8 4) (numN f 12 4) (numN f 16 4) ∧ numN f 8 4 ≤ n) && sameB (superF (numN f 8 4) (numN f 12 4) (numN f 16 4)) f
/-- What Decode answers. -/
def decV (f : Nat → Int) (n : Int) : Value := if decB f n = true then layV (numN f 8 4) (numN f 12 4) (numN f 16 4) else layZ
def decE (f : Nat → Int) (n : Int) : Int := if decB f n = true then 0 else 4

set_option maxRecDepth 20000 in
set_option maxHeartbeats 400000 in
theorem number_any (f : Nat → Int) (hf : Byte f) (k : Nat) (w : World) (hk : k < 9) :
    Calls Tryz.prog 92 #[.agg (blk f), .int .i64 k] w fun e w' => e = .returned (.int .i64 (numN f (8 + 4 * k) 4)) ∧ Below w.heap.size w w' := by
  have hu := fun w => u32_any f (8 + 4 * (k : Int)) w hf
  rw [show (8 + 4 * (k : Int)) = ((8 + 4 * k : Nat) : Int) by omega, num_in _ _ _ (by omega)] at hu
  have hp : ∀ w, Calls Tryz.prog 91 #[.int .i64 (k : Int)] w fun e w' => e = .returned (.int .i64 ((8 + 4 * k : Nat) : Int)) ∧ Below w.heap.size w w' := fun w =>
    (place_any k w (by omega)).mono fun e w' h => ⟨by rw [h.1, show (8 + 4 * (k : Int)) = ((8 + 4 * k : Nat) : Int) by omega], by rw [h.2]; exact Below.refl _ _⟩
  have hbd := numN_bd f hf 4 (8 + 4 * k)
  have hlt : numN f (8 + 4 * k) 4 < 4294967296 := by have := hbd.2; omega
  have hge := hbd.1
  clear hbd hf
  generalize numN f (8 + 4 * k) 4 = x at *
  generalize 8 + 4 * k = m at *
  go_enter Tryz.func92, Tryz.ntmps92
  go_wp2
  have hne := later_some (w.alloc (.cells (blk f) 47))
  refine wp_region_later (by kernel_rfl) (by kernel_rfl) (w.alloc (.cells (blk f) 47)) (Below.refl _ _) ?_
  repeat (first
    | (go_big_quiet_want; refine quiet_load25 _ rfl _ rfl _ (heap_alloc_new _ _) ?_; simp only [Act.put, List.setIfInBounds_toArray, List.set_cons_succ, List.set_cons_zero]; go_big_quiet_on)
    | go_big_quiet_step (first
        | (go_at_call 91; exact Later.call _ (hp _))
        | (go_at_call 106; exact Later.call _ (hu _))))
  refine wpQuiet_nil ?_
  rintro _ ⟨y, rfl⟩
  go_wp2
  go_ret
  exact ⟨rfl, below_next (below_new _ _) y.below⟩

theorem wpOrd_storeG {ops : Array Oper} {Q : Exit → Act → World → Prop} {S : World → Prop} {r : List (Bool × Oper)} {a : Act} {w : World} {o : Oper} (hw : Region.wanted o (yielded ops a.tmps) = true)
    (x y : Operand) (ho : o.op = .store 41 x y) (g : Nat) (cs c0 : Array Value) (hs : cs.size = 3) (hs0 : c0.size = 3) (h1 : cs.all (·.oneCell') = true) (hx : a.eval x = .pointer (some ⟨g, 0, none⟩)) (hy : a.eval y = .agg cs) (hg : w.heap[g]? = some (.cells c0 41))
    (h : S (w.setRow g cs) ∧ wpOrd Tryz.prog ops Q S r (a.put o.dst undef) (w.setRow g cs)) : wpOrd Tryz.prog ops Q S ((false, o) :: r) a w := by
  have hz : (Tryz.prog.info? 41).map (·.size) = some cs.size := by rw [hs]; exact size23G
  simp only [wpOrd, hw, if_true]
  unfold Oper.wp execOp
  simp only [ho, hx, hy, Instr.storeAt, Instr.sureAddr, Sem.run_bind, Sem.run_pure, Result.andThen_ok, run_storeVar_row w g 41 41 c0 cs hg hz (by rw [hs, hs0]) h1]
  exact h

set_option maxRecDepth 20000 in
set_option maxHeartbeats 400000 in
theorem geometry_any (f : Nat → Int) (hf : Byte f) (w : World) :
    Calls Tryz.prog 72 #[.agg (blk f)] w fun e w' => e = .returned (geoV (numN f 8 4) (numN f 12 4) (numN f 16 4)) ∧ Below w.heap.size w w' := by
  have n0 := fun w => number_any f hf 0 w (by omega)
  have n1 := fun w => number_any f hf 1 w (by omega)
  have n2 := fun w => number_any f hf 2 w (by omega)
  simp only [Nat.mul_zero, Nat.add_zero, Nat.mul_one, Nat.reduceAdd, Nat.reduceMul] at n0 n1 n2
  clear hf
  unfold geoV
  generalize numN f 8 4 = x0 at *
  generalize numN f 12 4 = x1 at *
  generalize numN f 16 4 = x2 at *
  go_enter Tryz.func72, Tryz.ntmps72
  go_wp2
  have hbx := heap_alloc2_old w (.cells (blk f) 47) (.cells #[.int .i64 0, .int .i64 0, .int .i64 0] 41)
  have hrs := heap_alloc2_new w (.cells (blk f) 47) (.cells #[.int .i64 0, .int .i64 0, .int .i64 0] 41)
  have HB : Hid (Below w.heap.size w ((w.alloc (.cells (blk f) 47)).alloc (.cells #[.int .i64 0, .int .i64 0, .int .i64 0] 41))) := bel_al (below_new _ _) _
  have hb0 : Below ((w.alloc (.cells (blk f) 47)).alloc (.cells #[.int .i64 0, .int .i64 0, .int .i64 0] 41)).heap.size ((w.alloc (.cells (blk f) 47)).alloc (.cells #[.int .i64 0, .int .i64 0, .int .i64 0] 41)) ((w.alloc (.cells (blk f) 47)).alloc (.cells #[.int .i64 0, .int .i64 0, .int .i64 0] 41)).drew := (Below.refl _ _).drew
  generalize (w.alloc (.cells (blk f) 47)).alloc (.cells #[.int .i64 0, .int .i64 0, .int .i64 0] 41) = W at *
  refine wp_region_ord (S := fun u => u.heap[w.heap.size]? = some (.cells (blk f) 47)) [(0, true), (2, true), (4, true), (1, false), (3, false), (5, false), (6, true), (7, false)]
    (by kernel_rfl) rfl (by kernel_rfl) (fun d _ _ _ _ h => by cases d <;> exact h) (heap_kept hbx hb0) ?_
  simp only [inOrd, List.getElem?_cons_zero, List.getElem?_cons_succ]
  refine wpOrd_loadB rfl _ rfl w.heap.size rfl f (fun u hu => hu) ?_
  simp only [Act.put, List.setIfInBounds_toArray, List.set_cons_succ, List.set_cons_zero]
  refine wpOrd_loadB rfl _ rfl w.heap.size rfl f (fun u hu => hu) ?_
  simp only [Act.put, List.setIfInBounds_toArray, List.set_cons_succ, List.set_cons_zero]
  refine wpOrd_loadB rfl _ rfl w.heap.size rfl f (fun u hu => hu) ?_
  simp only [Act.put, List.setIfInBounds_toArray, List.set_cons_succ, List.set_cons_zero]
  refine wpOrd_call rfl 92 _ _ rfl Tryz.call92 [.agg (blk f), .int .i64 (0 : Nat)] rfl ?_
  refine (n0 _).mono ?_
  rintro e X1 ⟨rfl, hx1⟩
  have b1 := below_next hb0 hx1
  refine ⟨_, rfl, heap_kept hbx b1, ?_⟩
  simp only [Act.put, List.setIfInBounds_toArray, List.set_cons_succ, List.set_cons_zero]
  refine wpOrd_call rfl 92 _ _ rfl Tryz.call92 [.agg (blk f), .int .i64 (1 : Nat)] rfl ?_
  refine (n1 _).mono ?_
  rintro e X2 ⟨rfl, hx2⟩
  have b2 := below_next b1 hx2
  refine ⟨_, rfl, heap_kept hbx b2, ?_⟩
  simp only [Act.put, List.setIfInBounds_toArray, List.set_cons_succ, List.set_cons_zero]
  refine wpOrd_call rfl 92 _ _ rfl Tryz.call92 [.agg (blk f), .int .i64 (2 : Nat)] rfl ?_
  refine (n2 _).mono ?_
  rintro e X3 ⟨rfl, hx3⟩
  have b3 := below_next b2 hx3
  refine ⟨_, rfl, heap_kept hbx b3, ?_⟩
  simp only [Act.put, List.setIfInBounds_toArray, List.set_cons_succ, List.set_cons_zero]
  refine wpOrd_yield (v := .agg #[.int .i64 x0, .int .i64 x1, .int .i64 x2]) rfl (fun u _ => by go_simp) ?_
  simp only [Act.put, List.setIfInBounds_toArray, List.set_cons_succ, List.set_cons_zero]
  have hr3 := heap_kept hrs b3
  have hbx3 := heap_kept hbx b3
  refine wpOrd_storeG rfl _ _ rfl (w.heap.size + 1) #[.int .i64 x0, .int .i64 x1, .int .i64 x2] _ rfl rfl (by simp [Value.oneCell']) rfl rfl hr3 ⟨(setRow_other _ _ _ _ (by omega)).trans hbx3, ?_⟩
  refine wpOrd_nil ?_
  simp only [Act.put]
  have hrr := setRow_heap X3 (w.heap.size + 1) #[.int .i64 0, .int .i64 0, .int .i64 0] #[.int .i64 x0, .int .i64 x1, .int .i64 x2] 41 (0, 0) hr3
  have HX : Hid (Below w.heap.size w (X3.setRow (w.heap.size + 1) #[.int .i64 x0, .int .i64 x1, .int .i64 x2])) := below_setRow (below_next HB.out b3) (by omega) _
  generalize X3.setRow (w.heap.size + 1) #[.int .i64 x0, .int .i64 x1, .int .i64 x2] = Y at *
  clear n0 n1 n2 hx1 hx2 hx3 b1 b2 b3 hb0 hr3 hbx3 hbx hrs
  go_wp2
  exact ret23 rfl (w.heap.size + 1) _ rfl rfl hrr rfl ⟨rfl, HX.out⟩

/-- A block that is loaded, where the operation is wanted. -/
theorem wpList_load35w {ops : Array Oper} {rest : List Oper} {o : Oper} {a : Act} {w : World} {Q : Exit → Act → World → Prop} (hw : Region.wanted o (yielded ops a.tmps) = true) (x : Operand) (ho : o.op = .load 47 x)
    (g : Nat) (hx : a.eval x = .pointer (some ⟨g, 0, none⟩)) (f : Nat → Int) (hg : w.heap[g]? = some (.cells (blk f) 47))
    (h : wpList Tryz.prog ops Q rest (a.put o.dst (.agg (blk f))) w) : wpList Tryz.prog ops Q (o :: rest) a w := by
  unfold wpList
  rw [if_pos hw]
  refine .inl ?_
  unfold Oper.wp execOp
  simp only [ho, hx, Instr.loadAt, Instr.sureAddr, Sem.run_bind, Sem.run_pure, Result.andThen_ok, run_loadVar_row w g 47 47 (blk f) (0, 0) _ hg Tryz.underlying47 rfl (by rw [blk_size]; exact size25)]
  exact h
/-- A layout that is stored over another. -/
theorem wpList_storeL {ops : Array Oper} {rest : List Oper} {o : Oper} {a : Act} {w : World} {Q : Exit → Act → World → Prop} (hgd : o.guard = none) (x y : Operand) (ho : o.op = .store 43 x y)
    (g : Nat) (cs c0 : Array Value) (hs : cs.size = 9) (hs0 : c0.size = 9) (h1 : cs.all (·.oneCell') = true) (hx : a.eval x = .pointer (some ⟨g, 0, none⟩)) (hy : a.eval y = .agg cs) (hg : w.heap[g]? = some (.cells c0 43))
    (h : wpList Tryz.prog ops Q rest (a.put o.dst undef) (w.setRow g cs)) : wpList Tryz.prog ops Q (o :: rest) a w :=
  wpList_plain hgd fun _ hK => by
    have hz : (Tryz.prog.info? 43).map (·.size) = some cs.size := by rw [hs]; exact size25L
    unfold Oper.wp execOp
    simp only [ho, hx, hy, Instr.storeAt, Instr.sureAddr, Sem.run_bind, Sem.run_pure, Result.andThen_ok, run_storeVar_row w g 43 43 c0 cs hg hz (by rw [hs, hs0]) h1]
    exact hK _ _ h
theorem lay_one (b l i a c d e f g : Int) : (lay9 b l i a c d e f g).all (·.oneCell') = true := by simp [lay9, Value.oneCell']
theorem decB_no {f : Nat → Int} {n : Int} (h : ¬ (Fine (numN f 8 4) (numN f 12 4) (numN f 16 4) ∧ numN f 8 4 ≤ n)) : decB f n = false := by
  unfold decB; rw [decide_eq_false h, Bool.false_and]
theorem decB_yes {f : Nat → Int} {n : Int} (h : Fine (numN f 8 4) (numN f 12 4) (numN f 16 4) ∧ numN f 8 4 ≤ n) : decB f n = sameB (superF (numN f 8 4) (numN f 12 4) (numN f 16 4)) f := by
  unfold decB; rw [decide_eq_true h, Bool.true_and]
theorem dec_ret {f : Nat → Int} {n : Int} (h : decB f n = false) : Ending.returned (.tuple #[layZ, .int .i64 4]) = .returned (.tuple #[decV f n, .int .i64 (decE f n)]) := by
  unfold decV decE; rw [h]; rfl
theorem dec_retT {f : Nat → Int} {n : Int} (h : decB f n = true) : Ending.returned (.tuple #[layV (numN f 8 4) (numN f 12 4) (numN f 16 4), .int .i64 0]) = .returned (.tuple #[decV f n, .int .i64 (decE f n)]) := by
  unfold decV decE; rw [h]; rfl

set_option maxRecDepth 20000 in
set_option maxHeartbeats 1000000 in
theorem decode_any (f : Nat → Int) (hf : Byte f) (n : Int) (w : World) :
    Calls Tryz.prog 55 #[.agg (blk f), .int .i64 n] w fun e w' => e = .returned (.tuple #[decV f n, .int .i64 (decE f n)]) ∧ Below w.heap.size w w' := by
  have hg := fun w => geometry_any f hf w
  have hN := @decB_no f n
  have hY := @decB_yes f n
  have hR := @dec_ret f n
  have hT := @dec_retT f n
  have hI : I64 (numN f 8 4) := by
    have h := numN_bd f hf 4 8
    unfold I64
    omega
  have hof := fun w => of_any (numN f 8 4) (numN f 12 4) (numN f 16 4) w hI
  generalize decV f n = V at *
  generalize decE f n = E at *
  generalize decB f n = D at *
  generalize numN f 8 4 = x0 at *
  generalize numN f 12 4 = x1 at *
  generalize numN f 16 4 = x2 at *
  clear hf hI
  by_cases hfine : Fine x0 x1 x2
  · rw [show ofV x0 x1 x2 = layV x0 x1 x2 from if_pos hfine, show ofE x0 x1 x2 = 0 from if_pos hfine] at hof
    have henc := fun w => encode_fine x0 x1 x2 w hfine
    by_cases hle : x0 ≤ n
    · have hY' := hY ⟨hfine, hle⟩
      clear hN hY hfine
      generalize superF x0 x1 x2 = F at *
      have HR : Hid _ := hR
      have HT : Hid _ := hT
      have HY : Hid _ := hY'
      clear hR hT hY'
      have hlc : ∀ (W : World) (g : Nat), W.heap[g]? = some (.cells (lay9 x0 x1 x2 1 (1 + x1) (nodeB x2) (bitsAt x1 x2) (bitsB x0) (dataAt x0 x1 x2)) 43) → W.cell? ⟨g, 0, none⟩ = some (.int .i64 x0) := fun W g h => (lay_cells h).1
      have hsz : (lay9 x0 x1 x2 1 (1 + x1) (nodeB x2) (bitsAt x1 x2) (bitsB x0) (dataAt x0 x1 x2)).size = 9 := rfl
      have hone := lay_one x0 x1 x2 1 (1 + x1) (nodeB x2) (bitsAt x1 x2) (bitsB x0) (dataAt x0 x1 x2)
      unfold layV at *
      unfold lay9 at *
      have hq := eq25
      go_enter Tryz.func55, Tryz.ntmps55
      go_wp2_with (first | refine wpList_load35w rfl _ rfl _ rfl _ (heap_alloc2_old _ _ _) ?_ | (go_at_call 72; fail))
      refine (hg _).mono ?_
      rintro e W1 ⟨rfl, hb1⟩
      have p1 := heap_kept (heap_alloc2_old w _ _) hb1
      have r1 := heap_kept (heap_alloc2_new w _ _) hb1
      have HB1 : Hid (Below w.heap.size w W1) := below_next (bel_al (below_new _ _) _) hb1
      clear hb1 hg
      go_wp2_with (first | (go_at_call 21; fail))
      refine (hof _).mono ?_
      rintro e W2 ⟨rfl, hb2⟩
      have p2 := heap_kept p1 hb2
      have r2 := heap_kept r1 hb2
      have HB2 : Hid (Below w.heap.size w W2) := below_next HB1.out hb2
      clear hb2 hof p1 r1 HB1
      go_wp2_with (first | (go_at_call 71; fail))
      refine (henc _).mono ?_
      rintro e W3 ⟨rfl, hb3⟩
      have p3 := heap_kept (heap_kept p2 (below_new _ _)) hb3
      have r3 := heap_kept (heap_kept r2 (below_new _ _)) hb3
      have l3 := heap_kept (heap_alloc_new W2 _) hb3
      have HB3 : Hid (Below w.heap.size w W3) := below_next (below_next HB2.out (below_new _ _)) hb3
      clear hb3 henc p2 r2 HB2
      have p4 := heap_kept p3 (below_new W3 (.cells (blk F) 47))
      have l4 := heap_kept l3 (below_new W3 (.cells (blk F) 47))
      have r4 := heap_kept r3 (below_new W3 (.cells (blk F) 47))
      have HB4 : Hid (Below w.heap.size w (W3.alloc (.cells (blk F) 47))) := below_next HB3.out (below_new _ _)
      clear p3 l3 r3
      have z25 := zero25
      cases hD : sameB F f
      · have HE := HR.out (HY.out.trans hD)
        have HE' : Hid _ := HE
        clear HE HR HT HY hlc hsz hone
        go_wp2_with (first | refine wpList_store25_new rfl _ _ rfl _ _ rfl rfl ?_ | refine wpList_load35w rfl _ rfl _ rfl _ (heap_alloc_new _ _) ?_ | refine wpList_load35w rfl _ rfl _ rfl _ p4 ?_ | refine wpList_storeL rfl _ _ rfl _ _ _ rfl rfl (by simp [Value.oneCell']) rfl rfl r4 ?_)
        exact retCT rfl (w.heap.size + 1) _ rfl (load25L _ _ _ (setRow_heap _ _ _ _ _ _ r4) rfl) rfl ⟨HE'.out, below_setRow HB4.out (by omega) _⟩
      · have HE := HT.out (HY.out.trans hD)
        have HE' : Hid _ := HE
        clear HE HR HT HY hlc hsz hone
        go_wp2_with (first | refine wpList_store25_new rfl _ _ rfl _ _ rfl rfl ?_ | refine wpList_load35w rfl _ rfl _ rfl _ (heap_alloc_new _ _) ?_ | refine wpList_load35w rfl _ rfl _ rfl _ p4 ?_ | refine wpList_loadL rfl _ rfl _ rfl _ rfl l4 ?_ | refine wpList_storeL rfl _ _ rfl _ _ _ rfl rfl (by simp [Value.oneCell']) rfl rfl r4 ?_)
        exact retCT rfl (w.heap.size + 1) _ rfl (load25L _ _ _ (setRow_heap _ _ _ _ _ _ r4) rfl) rfl ⟨HE'.out, below_setRow HB4.out (by omega) _⟩
    · have hd := hN fun q => hle q.2
      have HE : Hid _ := hR hd
      clear hN hY hR hT hfine hd henc
      unfold layV at *
      unfold lay9 at *
      have hle' : n < x0 := by omega
      clear hle
      go_enter Tryz.func55, Tryz.ntmps55
      go_wp2_with (first | refine wpList_load35w rfl _ rfl _ rfl _ (heap_alloc2_old _ _ _) ?_ | (go_at_call 72; fail))
      refine (hg _).mono ?_
      rintro e W1 ⟨rfl, hb1⟩
      have r1 := heap_kept (heap_alloc2_new w _ _) hb1
      have HB1 : Hid (Below w.heap.size w W1) := below_next (bel_al (below_new _ _) _) hb1
      clear hb1 hg
      go_wp2_with (first | (go_at_call 21; fail))
      refine (hof _).mono ?_
      rintro e W2 ⟨rfl, hb2⟩
      have r2 := fun o => heap_kept (heap_kept r1 hb2) (below_new _ o)
      have HB2 : Hid (Below w.heap.size w W2) := below_next HB1.out hb2
      clear hb2 hof r1 HB1
      go_wp2_with (first | refine wpList_storeL rfl _ _ rfl _ _ _ rfl rfl (by simp [Value.oneCell']) rfl rfl (r2 _) ?_)
      exact retCT rfl (w.heap.size + 1) _ rfl (load25L _ _ _ (setRow_heap _ _ _ _ _ _ (r2 _)) rfl) rfl ⟨HE.out, below_setRow (bel_al HB2.out _) (by omega) _⟩
  · have hd := hN fun q => hfine q.1
    have HE : Hid _ := hR hd
    rw [show ofV x0 x1 x2 = layZ from if_neg hfine, show ofE x0 x1 x2 = 2 from if_neg hfine] at hof
    clear hN hY hR hT hfine hd
    unfold layZ at hof
    unfold lay9 at hof
    go_enter Tryz.func55, Tryz.ntmps55
    go_wp2_with (first | refine wpList_load35w rfl _ rfl _ rfl _ (heap_alloc2_old _ _ _) ?_ | (go_at_call 72; fail))
    refine (hg _).mono ?_
    rintro e W1 ⟨rfl, hb1⟩
    have r1 := heap_kept (heap_alloc2_new w _ _) hb1
    have HB1 : Hid (Below w.heap.size w W1) := below_next (bel_al (below_new _ _) _) hb1
    clear hb1 hg
    go_wp2_with (first | (go_at_call 21; fail))
    refine (hof _).mono ?_
    rintro e W2 ⟨rfl, hb2⟩
    have r2 := fun o => heap_kept (heap_kept r1 hb2) (below_new _ o)
    have HB2 : Hid (Below w.heap.size w W2) := below_next HB1.out hb2
    clear hb2 hof r1 HB1
    go_wp2_with (first | refine wpList_storeL rfl _ _ rfl _ _ _ rfl rfl (by simp [Value.oneCell']) rfl rfl (r2 _) ?_)
    exact retCT rfl (w.heap.size + 1) _ rfl (load25L _ _ _ (setRow_heap _ _ _ _ _ _ (r2 _)) rfl) rfl ⟨HE.out, below_setRow (bel_al HB2.out _) (by omega) _⟩
end Go.Proofs.YtiadlcjdpbkbkaaGreatP
/- mount: where the file system lies, and its log; commit of a log; a desk made. -/
namespace Go.Proofs.YtiadlcjdpbkbkaaGreat
open Go.RowKit Go.Maps
theorem dec_super {b l i n : Int} (hf : Go.Proofs.YtiadlcjdpbkbkaaGreatP.Fine b l i) (hn : b ≤ n) : Go.Proofs.YtiadlcjdpbkbkaaGreatP.decV (Go.Proofs.YtiadlcjdpbkbkaaGreatP.superF b l i) n = Go.Proofs.YtiadlcjdpbkbkaaGreatP.layV b l i ∧ Go.Proofs.YtiadlcjdpbkbkaaGreatP.decE (Go.Proofs.YtiadlcjdpbkbkaaGreatP.superF b l i) n = 0 := by
  obtain ⟨h1, h2, h3⟩ := Go.Proofs.YtiadlcjdpbkbkaaGreatP.super_nums hf
  have hd : Go.Proofs.YtiadlcjdpbkbkaaGreatP.decB (Go.Proofs.YtiadlcjdpbkbkaaGreatP.superF b l i) n = true := by
    rw [Go.Proofs.YtiadlcjdpbkbkaaGreatP.decB_yes (by rw [h1, h2, h3]; exact ⟨hf, hn⟩), h1, h2, h3]
    exact (Go.Proofs.YtiadlcjdpbkbkaaGreatP.sameB_iff _ _).2 fun _ _ => rfl
  unfold Go.Proofs.YtiadlcjdpbkbkaaGreatP.decV Go.Proofs.YtiadlcjdpbkbkaaGreatP.decE
  rw [if_pos hd, if_pos hd, h1, h2, h3]
  exact ⟨rfl, rfl⟩
end Go.Proofs.YtiadlcjdpbkbkaaGreat
namespace Go.Proofs.YtiadlcjdpbkbkaaGreatD
open Go.RowKit Go.Maps
variable {w W : World} {g d : Nat} {x : LSt} {t : St} {ks : List (Nat × Obj)}
theorem layA_size (b l i : Int) : (layA b l i).size = 9 := rfl
theorem layA_info (b l i : Int) : (Tryz.prog.info? 43).map (·.size) = some (layA b l i).size := by show _ = some 9; kernel_rfl
theorem layA_row (b l i : Int) : layA b l i = Go.Proofs.YtiadlcjdpbkbkaaGreat.layRow ⟨b, l, i, 1, 1 + l, H.nodeB i, H.bitsAt l i, H.bitsB b, H.dataAt b l i⟩ := rfl
def lay0R : Array Value := #[.int .i64 0, .int .i64 0, .int .i64 0, .int .i64 0, .int .i64 0, .int .i64 0, .int .i64 0, .int .i64 0, .int .i64 0]
theorem zeroLyR : ∀ w, (zeroValue 43).run Tryz.prog w = .ok (.agg lay0R) w := (zero_of_info (show (Tryz.prog.info? 43).map (fun i => (i.zero, i.size)) = some (some (.agg lay0R), 9) by kernel_rfl)).1
theorem Sits.beside {W' : World} {q : Nat} {o : Obj} (h : Sits w W d t ((q, o) :: ks)) (hf : Fr (fun k => k = q) W W') (hq : w.heap.size ≤ q) (hks : ∀ p ∈ ks, p.1 ≠ q) : Sits w W' d t ks := by
  obtain ⟨L, hd, hS⟩ := h
  have hnq : ¬ L.has q := (hS.keep (q, o) (List.mem_cons_self ..)).2
  refine ⟨L, hd, hS.disk.fr hf (fun k hk e => hnq (e ▸ hk)), hS.new, hS.below.trans (hf.below (fun i e => by omega) hS.below.size), fun p hp => ?_⟩
  obtain ⟨h1, h2⟩ := hS.keep p (List.mem_cons_of_mem _ hp)
  exact ⟨(hf.block p.1 (Array.getElem?_eq_some_iff.1 h1).1 (hks p hp)).trans h1, h2⟩
theorem Sits.ksLt (h : Sits w W d t ks) : ∀ p ∈ ks, p.1 ≠ W.heap.size := fun p hp e => by
  have := (Array.getElem?_eq_some_iff.1 (h.blk (show (p.1, p.2) ∈ ks from hp))).1
  omega
theorem byF_super (b l i : Int) (hc : Can (Go.Proofs.YtiadlcjdpbkbkaaGreatP.superF b l i)) : Go.Proofs.YtiadlcjdpbkbkaaGreatP.Byte (Go.Proofs.YtiadlcjdpbkbkaaGreatP.superF b l i) := hc.1
set_option maxRecDepth 20000 in
set_option maxHeartbeats 1600000 in
/-- The regions are found by the superblock. -/
theorem found_ok {b l i : Int} (h : Sits w W d t ks) (hf : Go.Proofs.YtiadlcjdpbkbkaaGreatP.Fine b l i) (hn : b ≤ t.n) (h1n : 0 < t.n) (hs : t.stopped = false) (hr : Room t) (h0 : curV t 0 = Go.Proofs.YtiadlcjdpbkbkaaGreatP.superF b l i) :
    Calls Tryz.prog 27 #[.pointer (some ⟨d, 0, none⟩)] W fun e W' => e = .returned (.tuple #[.agg (layA b l i), .int .i64 0]) ∧ Sits w W' d (readS t) ks := by
  have zl := zeroLyR
  have z25 := zero25
  have hA := h.add (.cells lay0R 43)
  have href : refV t 0 = 0 := by unfold refV; rw [hs, if_neg (by simp), if_pos ⟨by omega, by omega⟩]
  have hrd := sits_read hA hr 0
  unfold readB readV at hrd
  rw [href, if_pos rfl, if_pos rfl, h0] at hrd
  have hcan : Can (Go.Proofs.YtiadlcjdpbkbkaaGreatP.superF b l i) := by rw [← h0]; exact curV_can h.ok 0
  have hn2 : b ≤ (readS t).n := hn
  have HDc : Hid (∀ V, Calls Tryz.prog 55 #[.agg (blk (Go.Proofs.YtiadlcjdpbkbkaaGreatP.superF b l i)), .int .i64 (readS t).n] V fun e w' => e = .returned (.tuple #[.agg (layA b l i), .int .i64 0]) ∧ Below V.heap.size V w') := fun V => by
    have hd := Go.Proofs.YtiadlcjdpbkbkaaGreatP.decode_any (Go.Proofs.YtiadlcjdpbkbkaaGreatP.superF b l i) hcan.1 (readS t).n V
    obtain ⟨e1, e2⟩ := Go.Proofs.YtiadlcjdpbkbkaaGreat.dec_super hf hn2
    rw [e1, e2] at hd
    exact hd
  have HI : Hid _ := layA_info b l i
  have HO : Hid _ := layA_one b l i
  have HTw : Hid ((layA b l i).size = 9) := rfl
  have HSz : Hid (w.heap.size ≤ W.heap.size) := h.below.size
  have HK : Hid _ := h.ksLt
  clear h hA hf hn hs hr h0 href hcan hn2 h1n
  generalize layA b l i = L at *
  generalize Go.Proofs.YtiadlcjdpbkbkaaGreatP.superF b l i = F at *
  go_enter Tryz.func27, Tryz.ntmps27
  go_wp2_with (go_at_call 24; fail)
  refine hrd.mono ?_
  rintro e W1 ⟨rfl, h1⟩
  have HGb : Hid (W1.heap.size ≠ W.heap.size) := fun e => h1.ksLt _ (List.mem_cons_self ..) e.symm
  have H2 := Hid.mk' (h1.add (.cells (blk F) 47))
  clear hrd h1
  go_upto_region 4 with (first | refine wpList_store25_new rfl (.tmp 4) (.tmp 9) rfl F _ rfl rfl ?_)
  generalize W1.alloc (.cells (blk F) 47) = W2 at *
  generalize W1.heap.size = gb at *
  have hblk := H2.out.blk (List.mem_cons_self ..)
  have H2d := H2.out.later (W' := W2.drew) ⟨rfl, rfl, rfl, Nat.le_refl _, fun _ _ => rfl⟩
  have hlen := sits_len2 H2d
  have hdc := HDc.out W2.drew
  have HD := Hid.mk' H2d
  clear H2 H2d HDc
  refine wp_region_ord (S := fun u => u.heap[gb]? = some (.cells (blk F) 47)) [(0, true), (1, true), (2, false), (3, false), (4, true), (5, true), (6, false), (7, true)]
    (by kernel_rfl) rfl (by kernel_rfl) (fun d _ _ _ _ h => by cases d <;> exact h) hblk ?_
  simp only [inOrd, List.getElem?_cons_zero, List.getElem?_cons_succ]
  refine wpOrd_yield (v := .agg (blk F)) rfl (fun u hu => H.exec_loadB rfl gb F rfl hu) ?_
  simp only [Act.put, List.setIfInBounds_toArray, List.set_cons_succ, List.set_cons_zero]
  refine wpOrd_yield (v := .pointer (some ⟨d, 0, none⟩)) rfl (fun u _ => by go_simp) ?_
  simp only [Act.put, List.setIfInBounds_toArray, List.set_cons_succ, List.set_cons_zero]
  refine wpOrd_call rfl 56 _ _ rfl Tryz.call56 [.pointer (some ⟨d, 0, none⟩)] rfl ?_
  refine hlen.mono ?_
  rintro e V ⟨rfl, rfl⟩
  refine ⟨_, rfl, hblk, ?_⟩
  simp only [Act.put, List.setIfInBounds_toArray, List.set_cons_succ, List.set_cons_zero]
  refine wpOrd_call rfl 55 _ _ rfl Tryz.call55 [.agg (blk F), .int .i64 (readS t).n] rfl ?_
  refine hdc.mono ?_
  rintro e W3 ⟨rfl, hb3⟩
  have h3 := HD.out.later hb3
  refine ⟨_, rfl, h3.blk (List.mem_cons_self ..), ?_⟩
  have hres := h3.blk (List.mem_cons_of_mem _ (List.mem_cons_self ..))
  have HE : Hid (Sits w (W3.setRow W.heap.size L) d (readS t) ks) := (h3.drop (ks' := (W.heap.size, .cells lay0R 43) :: ks) fun p hp => List.mem_cons_of_mem _ hp).beside (Fr.setRow W3 W.heap.size L) HSz.out HK.out
  clear hlen hdc HD hb3
  simp only [Act.put, List.setIfInBounds_toArray, List.set_cons_succ, List.set_cons_zero]
  refine wpOrd_yield (v := .agg L) rfl (fun u _ => by go_simp) ?_
  simp only [Act.put, List.setIfInBounds_toArray, List.set_cons_succ, List.set_cons_zero]
  refine wpOrd_yield (v := .int .i64 0) rfl (fun u _ => by go_simp) ?_
  simp only [Act.put, List.setIfInBounds_toArray, List.set_cons_succ, List.set_cons_zero]
  refine wpOrd_do rfl (exec_storeL rfl W.heap.size L lay0R HTw.out rfl HO.out rfl rfl hres) ((setRow_other W3 W.heap.size gb L HGb.out).trans (h3.blk (List.mem_cons_self ..))) ?_
  simp only [Act.put]
  refine wpOrd_yield (v := .int .i64 0) rfl (fun u _ => by go_simp) ?_
  simp only [Act.put, List.setIfInBounds_toArray, List.set_cons_succ, List.set_cons_zero]
  refine wpOrd_nil ?_
  go_wp2
  exact Go.Proofs.YtiadlcjdpbkbkaaGreat.retCT Tryz.underlying43 rfl rfl W.heap.size L 43 HI.out rfl (setRow_heap _ _ _ _ _ _ hres) rfl ⟨rfl, HE.out⟩
end Go.Proofs.YtiadlcjdpbkbkaaGreatD
/- mount: the log of a disk; commit; a desk made; Mount itself, whatever its parts are known to do. -/
namespace Go.Proofs.YtiadlcjdpbkbkaaGreatD
open Go.RowKit Go.Maps
variable {w W : World} {g d : Nat} {x : LSt} {t : St} {ks : List (Nat × Obj)}
set_option maxRecDepth 20000 in
set_option maxHeartbeats 1600000 in
/-- The log, once what was committed is in place. -/
theorem recovered_gen {b l i : Int} {t1 : St} (h : Sits w W d t ks) (hf : H.Fine b l i) (hn : b ≤ t1.n) (hs : t1.stopped = false) (hr : Rm t1 3) (hT : tgT b l t1 = []) (hE : tgE b l t1 = 0)
    (hRc : ∀ V ks', Sits w V d t ks' → Calls Tryz.prog 57 #[.pointer (some ⟨d, 0, none⟩), .agg (layA b l i)] V fun e W' => (∃ k : Int, e = .returned (.tuple #[.int .i64 k, .int .i64 0])) ∧ Sits w W' d t1 ks') :
    Calls Tryz.prog 28 #[.pointer (some ⟨d, 0, none⟩), .agg (layA b l i)] W fun e W' => ∃ g, e = .returned (.tuple #[.pointer (some ⟨g, 0, none⟩), .int .i64 0]) ∧ LogI w W' g d (newX b l i (claimN t1)) (claimV (readS t1)) (curV t1) ks := by
  have hA := h.add (.cells (layA b l i) 43)
  have hrow := hA.blk (List.mem_cons_self ..)
  have hrc := hRc _ _ hA
  have HI := Hid.mk' (layA_info b l i)
  have HNew : Hid (∀ V ks', Sits w V d t1 ks' → Calls Tryz.prog 58 #[.pointer (some ⟨d, 0, none⟩), .agg (layA b l i)] V fun e W' => ∃ g, e = .returned (.tuple #[.pointer (some ⟨g, 0, none⟩), .int .i64 0]) ∧ LogI w W' g d (newX b l i (claimN t1)) (claimV (readS t1)) (curV t1) ks') := fun V ks' hV => newL_ok hV hf hn hs hr hT hE
  clear h hA hf hn hs hr hT hE hRc
  generalize layA b l i = L at *
  go_enter Tryz.func28, Tryz.ntmps28
  go_wp2_with (first | (with_reducible refine YtiadlcjdpbkbkaaGreat.isLoadR 43 ?_; refine YtiadlcjdpbkbkaaGreat.wpList_ldR 43 Tryz.underlying43 rfl rfl _ rfl W.heap.size rfl L 43 (0, 0) HI.out hrow ?_) | (go_at_call 57; fail))
  refine hrc.mono ?_
  rintro e W1 ⟨⟨k, rfl⟩, h1⟩
  have hrow1 := h1.blk (List.mem_cons_self ..)
  have hnw := HNew.out _ _ h1
  clear hrc h1 hrow HNew
  go_wp2_with (first | (with_reducible refine YtiadlcjdpbkbkaaGreat.isLoadR 43 ?_; refine YtiadlcjdpbkbkaaGreat.wpList_ldR 43 Tryz.underlying43 rfl rfl _ rfl W.heap.size rfl L 43 (0, 0) HI.out hrow1 ?_) | (go_at_call 58; fail))
  refine hnw.mono ?_
  rintro e W2 ⟨g, rfl, h2⟩
  have HL := Hid.mk' (h2.drop (ks' := ks) fun p hp => List.mem_cons_of_mem _ hp)
  clear hnw h2 hrow1
  go_wp2
  go_ret2
  exact ⟨g, rfl, HL.out⟩
end Go.Proofs.YtiadlcjdpbkbkaaGreatD
namespace Go.Proofs.YtiadlcjdpbkbkaaGreat
open Go.RowKit Go.Maps
theorem methW_sync (a : Addr) (w : World) : (method 363 35 (.pointer (some a)) "Sync").run Tryz.prog w = .ok (191, .pointer (some a)) w := by kernel_rfl
set_option maxRecDepth 20000 in
set_option maxHeartbeats 1600000 in
/-- Whoever commits is a log. -/
theorem commitW_ok {g : Nat} {W : World} {Q : Ending → World → Prop} (h : Calls Tryz.prog 191 #[.pointer (some ⟨g, 0, none⟩)] W fun e W' => ∃ v : Int, e = .returned (.int .i64 v) ∧ Q e W') :
    Calls Tryz.prog 30 #[.iface 35 (.pointer (some ⟨g, 0, none⟩))] W Q := by
  have h2 := methW_sync
  go_enter Tryz.func30, Tryz.ntmps30
  go_wp2_with (go_at_call 191; fail)
  refine h.mono ?_
  rintro e W1 ⟨v, rfl, hq⟩
  have HQ := Hid.mk' (hq)
  clear h hq
  go_wp2
  exact HQ.out
end Go.Proofs.YtiadlcjdpbkbkaaGreat
/- Numbers with their holds, rising, and what a map with these entries reads as; no condition. -/
namespace Go.Proofs.YtiadlcjdpbkbkaaGreat
open Go.RowKit Go.Maps
/-- An entry as it is read. -/
def enH (p : Int × Int) : Lit × DataW Unit := (.int .i64 p.1, .lit (.int .i64 p.2))
def dM (L : List (Int × Int)) : DataW Unit := .map (L.map enH)
def insH (x : Int × Int) : List (Int × Int) → List (Int × Int)
  | [] => [x]
  | y :: r => if x.1 < y.1 then x :: y :: r else y :: insH x r
def delH (L : List (Int × Int)) (k : Int) : List (Int × Int) := L.filter fun p => !decide (p.1 = k)
def putH (L : List (Int × Int)) (k v : Int) : List (Int × Int) := insH (k, v) (delH L k)
def getH (L : List (Int × Int)) (k : Int) : Option Int := (L.find? fun p => decide (p.1 = k)).map (·.2)
theorem sameKey_enH (p : Int × Int) (k : Int) : (enH p).1.sameKey (.int .i64 k) = decide (p.1 = k) := by simp [enH, Lit.sameKey]
theorem ins_map (x : Int × Int) : ∀ L : List (Int × Int), DataW.insert (enH x) (L.map enH) = (insH x L).map enH
  | [] => rfl
  | y :: r => by
    simp only [List.map_cons, DataW.insert, insH, enH, Lit.before, decide_eq_true_eq]
    split
    · rfl
    · rw [List.map_cons, ← ins_map x r]; rfl
theorem del_map (L : List (Int × Int)) (k : Int) : ((L.map enH).filter fun p => !p.1.sameKey (.int .i64 k)) = (delH L k).map enH := by
  unfold delH
  rw [List.filter_map]
  congr 1
  refine List.filter_congr fun p _ => ?_
  simp only [Function.comp, sameKey_enH]
theorem dM_put (L : List (Int × Int)) (k v : Int) : (dM L).put (.int .i64 k) (.lit (.int .i64 v)) = dM (putH L k v) := by
  simp only [dM, DataW.put, del_map]
  rw [show ((Lit.int .i64 k, DataW.lit (.int .i64 v)) : Lit × DataW Unit) = enH (k, v) from rfl, ins_map]
  rfl
theorem dM_del (L : List (Int × Int)) (k : Int) : (dM L).del (.int .i64 k) = dM (delH L k) := by simp only [dM, DataW.del, del_map]
theorem find_map (L : List (Int × Int)) (k : Int) : (L.map enH).find? (fun p => p.1.sameKey (.int .i64 k)) = (L.find? fun p => decide (p.1 = k)).map enH := by
  rw [List.find?_map]
  congr 2
  funext p
  simp only [Function.comp, sameKey_enH]
theorem dM_at (L : List (Int × Int)) (k : Int) : (dM L).atKey (.int .i64 k) (.lit (.int .i64 0)) = .lit (.int .i64 ((getH L k).getD 0)) := by
  simp only [dM, DataW.atKey, find_map, getH]
  cases L.find? fun p => decide (p.1 = k) <;> rfl
theorem dM_has (L : List (Int × Int)) (k : Int) : Maps.has (dM L) (.int .i64 k) = (getH L k).isSome := by
  simp only [dM, Maps.has_eq, getH, Option.isSome_map]
  rw [List.any_map]
  induction L with
  | nil => rfl
  | cons p r ih =>
    simp only [List.any_cons, List.find?_cons, Function.comp, sameKey_enH]
    by_cases h : p.1 = k
    · simp [h]
    · simp only [h, decide_false, Bool.false_or]
      simpa using ih
theorem dM_size (L : List (Int × Int)) : Maps.size (dM L) = L.length := by simp [dM, Maps.size_eq]
/-- Rising by their numbers. -/
def Ris (L : List (Int × Int)) : Prop := L.Pairwise fun p q => p.1 < q.1
theorem ins_mem (x : Int × Int) : ∀ (L : List (Int × Int)) (p : Int × Int), p ∈ insH x L ↔ p = x ∨ p ∈ L
  | [], p => by simp [insH]
  | y :: r, p => by
    unfold insH
    split
    · simp
    · simp only [List.mem_cons, ins_mem x r p]
      constructor
      · rintro (h | h | h) <;> simp [h]
      · rintro (h | h | h) <;> simp [h]
theorem ins_len (x : Int × Int) : ∀ L : List (Int × Int), (insH x L).length = L.length + 1
  | [] => rfl
  | y :: r => by
    unfold insH
    split
    · rfl
    · rw [List.length_cons, ins_len x r, List.length_cons]
theorem ins_ris (x : Int × Int) : ∀ L : List (Int × Int), Ris L → (∀ p ∈ L, p.1 ≠ x.1) → Ris (insH x L)
  | [], _, _ => List.pairwise_singleton _ _
  | y :: r, h, hn => by
    obtain ⟨h1, h2⟩ := List.pairwise_cons.1 h
    have hy := hn y (by simp)
    unfold insH
    split
    · rename_i hlt
      refine List.pairwise_cons.2 ⟨fun p hp => ?_, h⟩
      rcases List.mem_cons.1 hp with rfl | hp
      · exact hlt
      · have := h1 p hp
        omega
    · rename_i hlt
      refine List.pairwise_cons.2 ⟨fun p hp => ?_, ins_ris x r h2 fun p hp => hn p (List.mem_cons_of_mem _ hp)⟩
      rcases (ins_mem x r p).1 hp with rfl | hp
      · omega
      · exact h1 p hp
theorem del_mem (L : List (Int × Int)) (k : Int) (p : Int × Int) : p ∈ delH L k ↔ p ∈ L ∧ p.1 ≠ k := by simp [delH]
theorem del_ris {L : List (Int × Int)} (h : Ris L) (k : Int) : Ris (delH L k) := h.filter _
theorem put_ris {L : List (Int × Int)} (h : Ris L) (k v : Int) : Ris (putH L k v) := ins_ris _ _ (del_ris h k) fun p hp => ((del_mem L k p).1 hp).2
theorem put_mem (L : List (Int × Int)) (k v : Int) (p : Int × Int) : p ∈ putH L k v ↔ p = (k, v) ∨ (p ∈ L ∧ p.1 ≠ k) := by rw [putH, ins_mem, del_mem]
theorem get_none {L : List (Int × Int)} {k : Int} (h : getH L k = none) : ∀ p ∈ L, p.1 ≠ k := fun p hp => by
  simp only [getH, Option.map_eq_none_iff, List.find?_eq_none] at h
  simpa using h p hp
theorem get_some {L : List (Int × Int)} {k v : Int} (h : getH L k = some v) : (k, v) ∈ L := by
  simp only [getH, Option.map_eq_some_iff] at h
  obtain ⟨p, hp, rfl⟩ := h
  have h1 := List.find?_some hp
  simp only [decide_eq_true_eq] at h1
  rw [← h1]
  exact List.mem_of_find?_eq_some hp
theorem ris_inj {L : List (Int × Int)} (h : Ris L) {p q : Int × Int} (hp : p ∈ L) (hq : q ∈ L) (e : p.1 = q.1) : p = q := by
  induction L with
  | nil => cases hp
  | cons a r ih =>
    obtain ⟨h1, h2⟩ := List.pairwise_cons.1 h
    rcases List.mem_cons.1 hp with rfl | hp' <;> rcases List.mem_cons.1 hq with rfl | hq'
    · rfl
    · have := h1 q hq'; omega
    · have := h1 p hp'; omega
    · exact ih h2 hp' hq'
theorem get_of {L : List (Int × Int)} (h : Ris L) {k v : Int} (hm : (k, v) ∈ L) : getH L k = some v := by
  cases e : getH L k with
  | none => exact absurd rfl (get_none e _ hm)
  | some u =>
    have := ris_inj h (get_some e) hm rfl
    simp only [Prod.mk.injEq, true_and] at this
    rw [this]
theorem del_none {L : List (Int × Int)} {k : Int} (h : getH L k = none) : delH L k = L := by
  unfold delH
  rw [List.filter_eq_self]
  intro p hp
  simpa using get_none h p hp
theorem del_len {L : List (Int × Int)} (hr : Ris L) {k v : Int} (h : getH L k = some v) : (delH L k).length + 1 = L.length := by
  have hm := get_some h
  clear h
  induction L with
  | nil => cases hm
  | cons a r ih =>
    obtain ⟨h1, h2⟩ := List.pairwise_cons.1 hr
    unfold delH
    rcases List.mem_cons.1 hm with e | hm'
    · have ek : a.1 = k := by rw [← e]
      have er : (r.filter fun p => !decide (p.1 = k)) = r := List.filter_eq_self.2 fun p hp => by
        have := h1 p hp
        simp; omega
      simp [ek, er]
    · have hk := h1 _ hm'
      have : ¬ a.1 = k := by simp only at hk; omega
      rw [List.filter_cons]
      simp only [this, decide_false, Bool.not_false, if_true, List.length_cons]
      rw [← ih h2 hm']
      rfl
theorem put_len_new {L : List (Int × Int)} {k : Int} (h : getH L k = none) (v : Int) : (putH L k v).length = L.length + 1 := by rw [putH, ins_len, del_none h]
theorem put_len_old {L : List (Int × Int)} (hr : Ris L) {k u : Int} (h : getH L k = some u) (v : Int) : (putH L k v).length = L.length := by rw [putH, ins_len, del_len hr h]
theorem get_put_same {L : List (Int × Int)} (hr : Ris L) (k v : Int) : getH (putH L k v) k = some v := get_of (put_ris hr k v) ((put_mem L k v _).2 (.inl rfl))
theorem get_put_other {L : List (Int × Int)} (hr : Ris L) {k j : Int} (v : Int) (hj : j ≠ k) : getH (putH L k v) j = getH L j := by
  cases e : getH L j with
  | some u => exact get_of (put_ris hr k v) ((put_mem L k v _).2 (.inr ⟨get_some e, hj⟩))
  | none =>
    cases e2 : getH (putH L k v) j with
    | none => rfl
    | some u =>
      rcases (put_mem L k v _).1 (get_some e2) with q | q
      · simp only [Prod.mk.injEq] at q; exact absurd q.1 hj
      · exact absurd rfl (get_none e _ q.1)
theorem get_del_same (L : List (Int × Int)) (k : Int) : getH (delH L k) k = none := by
  cases e : getH (delH L k) k with
  | none => rfl
  | some u => exact absurd rfl ((del_mem L k _).1 (get_some e)).2
theorem get_del_other {L : List (Int × Int)} (hr : Ris L) {k j : Int} (hj : j ≠ k) : getH (delH L k) j = getH L j := by
  cases e : getH L j with
  | some u => exact get_of (del_ris hr k) ((del_mem L k _).2 ⟨get_some e, hj⟩)
  | none =>
    cases e2 : getH (delH L k) j with
    | none => rfl
    | some u => exact absurd rfl (get_none e _ ((del_mem L k _).1 (get_some e2)).1)
/-- What a desk holds: for so many at most; at most c of each. -/
structure Dok (m : Int) (L : List (Int × Int)) (c : Nat) : Prop where
  ris : Ris L
  key : ∀ p ∈ L, 1 ≤ p.1 ∧ p.1 ≤ 9223372036854775807
  val : ∀ p ∈ L, 1 ≤ p.2 ∧ p.2 ≤ c
  len : (L.length : Int) ≤ m
  lec : L.length ≤ c
  top : m ≤ 9223372036854775807
def holdE (m : Int) (L : List (Int × Int)) (k : Int) : Int := if k < 1 then 2 else match getH L k with | some _ => 0 | none => if (L.length : Int) = m then 15 else 0
def holdL (m : Int) (L : List (Int × Int)) (k : Int) : List (Int × Int) := if k < 1 then L else match getH L k with | some h => putH L k (h + 1) | none => if (L.length : Int) = m then L else putH L k 1
def dropB (L : List (Int × Int)) (k : Int) : Bool := match getH L k with | some h => decide (¬ 1 < h) | none => false
def dropE (L : List (Int × Int)) (k : Int) : Int := match getH L k with | some _ => 0 | none => 2
def dropL (L : List (Int × Int)) (k : Int) : List (Int × Int) := match getH L k with | some h => if 1 < h then putH L k (h - 1) else delH L k | none => L
def fullB (m : Int) (L : List (Int × Int)) : Bool := decide ((L.length : Int) = m)
theorem Dok.start {m : Int} (h0 : 0 ≤ m) (h : m ≤ 9223372036854775807) (c : Nat) : Dok m [] c := ⟨List.Pairwise.nil, by simp, by simp, by simpa using h0, by simp, h⟩
theorem Dok.mono {m : Int} {L : List (Int × Int)} {c d : Nat} (h : Dok m L c) (hc : c ≤ d) : Dok m L d := ⟨h.ris, h.key, fun p hp => ⟨(h.val p hp).1, by have := (h.val p hp).2; omega⟩, h.len, by have := h.lec; omega, h.top⟩
theorem Dok.hold {m : Int} {L : List (Int × Int)} {c : Nat} (h : Dok m L c) {k : Int} (hk : k ≤ 9223372036854775807) : Dok m (holdL m L k) (c + 1) := by
  unfold holdL
  split
  · exact h.mono (by omega)
  · rename_i hk1
    split
    · rename_i u e
      have hu := h.val _ (get_some e)
      simp only at hu
      refine ⟨put_ris h.ris _ _, fun p hp => ?_, fun p hp => ?_, by rw [put_len_old h.ris e]; exact h.len, by rw [put_len_old h.ris e]; have := h.lec; omega, h.top⟩
      · rcases (put_mem _ _ _ _).1 hp with rfl | q
        · exact ⟨by simp only; omega, hk⟩
        · exact h.key p q.1
      · rcases (put_mem _ _ _ _).1 hp with rfl | q
        · simp only; omega
        · have := h.val p q.1; omega
    · rename_i e
      split
      · exact h.mono (by omega)
      · rename_i hne
        refine ⟨put_ris h.ris _ _, fun p hp => ?_, fun p hp => ?_, by rw [put_len_new e]; have := h.len; omega, by rw [put_len_new e]; have := h.lec; omega, h.top⟩
        · rcases (put_mem _ _ _ _).1 hp with rfl | q
          · exact ⟨by simp only; omega, hk⟩
          · exact h.key p q.1
        · rcases (put_mem _ _ _ _).1 hp with rfl | q
          · simp only; omega
          · have := h.val p q.1; omega
theorem Dok.drop {m : Int} {L : List (Int × Int)} {c : Nat} (h : Dok m L c) (k : Int) : Dok m (dropL L k) c := by
  unfold dropL
  split
  · rename_i u e
    have hu := h.val _ (get_some e)
    have hk := h.key _ (get_some e)
    simp only at hu hk
    split
    · refine ⟨put_ris h.ris _ _, fun p hp => ?_, fun p hp => ?_, by rw [put_len_old h.ris e]; exact h.len, by rw [put_len_old h.ris e]; exact h.lec, h.top⟩
      · rcases (put_mem _ _ _ _).1 hp with rfl | q
        · exact hk
        · exact h.key p q.1
      · rcases (put_mem _ _ _ _).1 hp with rfl | q
        · simp only; omega
        · exact h.val p q.1
    · have hl := del_len h.ris e
      exact ⟨del_ris h.ris _, fun p hp => h.key p ((del_mem _ _ _).1 hp).1, fun p hp => h.val p ((del_mem _ _ _).1 hp).1, by have := h.len; omega, by have := h.lec; omega, h.top⟩
  · exact h
end Go.Proofs.YtiadlcjdpbkbkaaGreat
/- The program's desk: none, New, Hold, Drop, Holds, Len, Full, for a desk that holds fewer than a million inodes, fewer than a million times each; no other condition. -/
namespace Go.Proofs.YtiadlcjdpbkbkaaGreat
open Go.RowKit Go.Maps
theorem lawI : Keyed Tryz.prog 3 := int_keyed Tryz.underlying3
theorem zeroI (w : World) : (zeroValue 3).run Tryz.prog w = .ok (.int .i64 0) w := by kernel_rfl
theorem wfI {k : Int} (h1 : -9223372036854775808 ≤ k) (h2 : k ≤ 9223372036854775807) : (Lit.int .i64 k).wf = true := WalkArith.wf_i64 (by omega)
/-- A desk's row. -/
def dkRow (g b : Nat) (m : Int) : Array Value := #[.pointer (some ⟨g, 0, none⟩), .int .i64 m, .map (some b)]
structure DeskAt (w : World) (g b : Nat) (m : Int) (L : List (Int × Int)) : Prop where
  row : w.heap[g]? = some (.cells (dkRow g b m) 79)
  map : w.ownsMap Tryz.prog 3 (plainElem Tryz.prog 3) b L.length (dM L)
theorem own_tight {w : World} {b n : Nat} {L : List (Int × Int)} (h : w.ownsMap Tryz.prog 3 (plainElem Tryz.prog 3) b n (dM L)) : w.ownsMap Tryz.prog 3 (plainElem Tryz.prog 3) b L.length (dM L) := by
  obtain ⟨es, clock, hb, F, _, hD⟩ := h
  refine ⟨es, clock, hb, F, ?_, hD⟩
  have := congrArg Maps.size hD
  rw [dM_size] at this
  simp [Maps.size, length_sorted] at this
  omega
theorem DeskAt.ne {w : World} {g b : Nat} {m : Int} {L : List (Int × Int)} (h : DeskAt w g b m L) : g ≠ b := fun e => by
  obtain ⟨es, clock, hb, _⟩ := h.map
  have := h.row
  rw [e, hb] at this
  cases this
theorem DeskAt.lt {w : World} {g b : Nat} {m : Int} {L : List (Int × Int)} (h : DeskAt w g b m L) : g < w.heap.size ∧ b < w.heap.size := ⟨(Array.getElem?_eq_some_iff.1 h.row).1, h.map.lt⟩
theorem DeskAt.frame {w w' : World} {g b : Nat} {m : Int} {L : List (Int × Int)} (h : DeskAt w g b m L) (hg : w'.heap[g]? = w.heap[g]?) (hb : w'.heap[b]? = w.heap[b]?) : DeskAt w' g b m L := by
  obtain ⟨es, clock, h1, F, h2, hD⟩ := h.map
  exact ⟨hg.trans h.row, es, clock, hb.trans h1, F, h2, hD⟩
theorem DeskAt.later {w w' : World} {g b : Nat} {m : Int} {L : List (Int × Int)} (h : DeskAt w g b m L) (hb : Below w.heap.size w w') : DeskAt w' g b m L := h.frame (hb.block g h.lt.1) (hb.block b h.lt.2)
theorem DeskAt.cells {w : World} {g b : Nat} {m : Int} {L : List (Int × Int)} (h : DeskAt w g b m L) : w.cell? ⟨g, 0, none⟩ = some (.pointer (some ⟨g, 0, none⟩)) ∧ w.cell? ⟨g, 1, none⟩ = some (.int .i64 m) ∧ w.cell? ⟨g, 2, none⟩ = some (.map (some b)) :=
  ⟨by rw [cell_of_row w _ _ _ _ _ h.row]; rfl, by rw [cell_of_row w _ _ _ _ _ h.row]; rfl, by rw [cell_of_row w _ _ _ _ _ h.row]; rfl⟩
theorem neq_same {P : Program} {tp te : TypeId} {j : TypeInfo} (w : World) (a : Addr) (hp : P.underlying tp = some (.pointer te)) (hte : P.info? te = some j) :
    (binOp .neq tp (.pointer (some a)) (.pointer (some a))).run P w = .ok (.bool false) w := by
  have h : ∀ d : Nat, (Op.equalIn (d + 1) tp (.pointer (some a)) (.pointer (some a))).run P w = .ok true w := fun d => by
    simp [Op.equalIn, run_underlying hp, sizeOf, typeInfo, hte, run_sameAddr_same]
  simp only [binOp]
  simp [Op.equal, Op.maxDepth, h 9999]
theorem neq_nil {P : Program} {tp te : TypeId} (w : World) (a : Addr) (hp : P.underlying tp = some (.pointer te)) :
    (binOp .neq tp (.pointer none) (.pointer (some a))).run P w = .ok (.bool true) w := by
  have h : ∀ d : Nat, (Op.equalIn (d + 1) tp (.pointer none) (.pointer (some a))).run P w = .ok false w := fun d => by
    simp [Op.equalIn, run_underlying hp]
  simp only [binOp]
  simp [Op.equal, Op.maxDepth, h 9999]
theorem infoDk : ∃ j, Tryz.prog.info? 79 = some j := Option.isSome_iff_exists.1 (by kernel_rfl)
theorem neqDk (w : World) (a : Addr) : (binOp .neq 37 (.pointer (some a)) (.pointer (some a))).run Tryz.prog w = .ok (.bool false) w := by
  obtain ⟨j, hj⟩ := infoDk
  exact neq_same w a Tryz.underlying37 hj
theorem neqDkn (w : World) (a : Addr) : (binOp .neq 37 (.pointer none) (.pointer (some a))).run Tryz.prog w = .ok (.bool true) w := neq_nil w a Tryz.underlying37
/-- v is a desk that is nil, or that nobody made. -/
def NoDesk (w : World) (v : Value) : Prop := v = .pointer none ∨ ∃ g, v = .pointer (some ⟨g, 0, none⟩) ∧ w.cell? ⟨g, 0, none⟩ = some (.pointer none)
theorem none_yes {w : World} {v : Value} (h : NoDesk w v) : Calls Tryz.prog 38 #[v] w fun e w' => e = .returned (.bool true) ∧ w' = w := by
  have hn := neqDkn
  rcases h with rfl | ⟨g, rfl, c0⟩
  · go_enter Tryz.func38, Tryz.ntmps38
    go_wp2
    go_ret
    exact ⟨rfl, rfl⟩
  · go_enter Tryz.func38, Tryz.ntmps38
    go_wp2
    go_ret
    exact ⟨rfl, rfl⟩
theorem none_no {w : World} {g : Nat} (c0 : w.cell? ⟨g, 0, none⟩ = some (.pointer (some ⟨g, 0, none⟩))) : Calls Tryz.prog 38 #[.pointer (some ⟨g, 0, none⟩)] w fun e w' => e = .returned (.bool false) ∧ w' = w := by
  have hn := neqDk
  go_enter Tryz.func38, Tryz.ntmps38
  go_wp2
  go_ret
  exact ⟨rfl, rfl⟩
theorem hold_none {w : World} {v : Value} (h : NoDesk w v) (k : Int) : Calls Tryz.prog 15 #[v, .int .i64 k] w fun e w' => e = .returned (.int .i64 1) ∧ w' = w := by
  go_enter Tryz.func15, Tryz.ntmps15
  go_wp2_with (first | (go_at_call 38; refine (none_yes h).mono ?_; rintro e W ⟨rfl, rfl⟩))
  go_ret
  exact ⟨rfl, rfl⟩
section
variable {w : World} {g b : Nat} {m : Int} {L : List (Int × Int)}
set_option maxRecDepth 20000 in
theorem full_ok (h : DeskAt w g b m L) : Calls Tryz.prog 39 #[.pointer (some ⟨g, 0, none⟩)] w fun e w' => e = .returned (.bool (fullB m L)) ∧ Below w.heap.size w w' := by
  have HD : Hid (∀ q, DeskAt (w.drewN q) g b m L) := fun q => h.frame rfl rfl
  obtain ⟨c0, c1, c2⟩ := h.cells
  have hl : ∀ ty q, (Builtin.len_ #[57] ty #[.map (some b)]).run Tryz.prog (w.drewN q) = .ok (.int .i64 (L.length : Nat)) (w.drewN q) := fun ty q => by
    have := World.ownsMap.len (HD.out q).map Tryz.underlying57 ty
    rwa [dM_size] at this
  unfold fullB
  generalize L.length = n at *
  clear h
  go_enter Tryz.func39, Tryz.ntmps39
  go_wp2
  go_quiet (first | (go_at_call 38; exact Calls.quiet_of_same (none_no c0)))
  go_wp2
  go_ret
  exact ⟨rfl, belowN (Below.refl _ _) _⟩
theorem desk_new (n : Int) (w : World) : Calls Tryz.prog 31 #[.int .i64 n] w fun e w' => ∃ g b, e = .returned (.pointer (some ⟨g, 0, none⟩)) ∧ DeskAt w' g b (max n 0) [] ∧ Below w.heap.size w w' ∧ w.heap.size ≤ g ∧ w.heap.size ≤ b := by
  have hmm := @run_makeMap Tryz.prog
  go_enter Tryz.func31, Tryz.ntmps31
  go_wp2
  all_goals go_ret
  all_goals first | refine ⟨_, rfl, _, ⟨?_, (World.ownsMap_made w _ _ _).alloc _⟩, (below_new w _).trans ((below_new _ _).mono (by simp)), by omega, Nat.le_refl _⟩ | refine ⟨_, _, rfl, ⟨?_, (World.ownsMap_made w _ _ _).alloc _⟩, (below_new w _).trans ((below_new _ _).mono (by simp)), by omega, Nat.le_refl _⟩
  all_goals first
    | (have := heap_alloc_new (w.alloc (.map #[] 0)) (.cells (dkRow (w.heap.size + 1) w.heap.size (max n 0)) 79); rwa [World.size_alloc] at this)
    | (rw [show max n 0 = 0 by omega]; have := heap_alloc_new (w.alloc (.map #[] 0)) (.cells (dkRow (w.heap.size + 1) w.heap.size 0) 79); rwa [World.size_alloc] at this)
    | (rw [show max n 0 = n by omega]; have := heap_alloc_new (w.alloc (.map #[] 0)) (.cells (dkRow (w.heap.size + 1) w.heap.size n) 79); rwa [World.size_alloc] at this)
theorem hold_ok {c : Nat} (h : DeskAt w g b m L) (ho : Dok m L c) (hc : c < 1000000) (k : Int) (hk : (Lit.int .i64 k).wf = true) : Calls Tryz.prog 15 #[.pointer (some ⟨g, 0, none⟩), .int .i64 k] w fun e w' => e = .returned (.int .i64 (holdE m L k)) ∧ DeskAt w' g b m (holdL m L k) ∧ Fr (fun i => i = b) w w' := by
  obtain ⟨c0, c1, c2⟩ := h.cells
  have HD : Hid (DeskAt w g b m L) := h
  have HO : Hid (Dok m L c) := ho
  have hkey := keyOf_int_mk Tryz.underlying3 hk
  have hn := fun W (q : W.cell? ⟨g, 0, none⟩ = some (.pointer (some ⟨g, 0, none⟩))) => none_no (w := W) q
  obtain ⟨v, hrun, hat, hwv⟩ := h.map.lookup_int lawI Tryz.underlying57 Tryz.underlying3 (zeroI w) hkey
  rw [dM_at] at hat
  injection hat with hat
  injection hat with _ hat
  have hf := full_ok h
  unfold holdE holdL
  by_cases hk1 : k < 1
  · have g1 : decide (k < 1) = true := decide_eq_true hk1
    rw [if_pos hk1, if_pos hk1]
    clear h ho hat hf
    go_enter Tryz.func15, Tryz.ntmps15
    go_wp2_with (first | (go_at_call 38; refine (none_no c0).mono ?_; rintro e W ⟨rfl, rfl⟩))
    go_ret
    exact ⟨rfl, HD.out, Fr.refl _ _⟩
  · have g1 : decide (k < 1) = false := decide_eq_false hk1
    rw [if_neg hk1, if_neg hk1]
    have hlen : L.length < maxLen := by have := ho.lec; unfold maxLen; omega
    cases e : getH L k with
    | some u =>
      have hu := ho.val _ (get_some e)
      simp only at hu
      rw [e] at hat
      simp only [Option.getD_some] at hat
      subst hat
      have g2 : (u == 0) = false := by simp; omega
      have hown := h.map
      have hw1 : (Lit.int .i64 (u + 1)).wf = true := WalkArith.wf_i64 (by omega)
      simp only
      clear h ho hf
      go_enter Tryz.func15, Tryz.ntmps15
      go_wp2_with (first | (go_at_call 38; refine (none_no c0).mono ?_; rintro e W ⟨rfl, rfl⟩) | (at_mapUpdate; refine wpList_mapUpdate_own _ rfl _ _ _ 57 rfl 3 3 lawI Tryz.underlying57 _ b _ _ rfl hown hlen _ _ _ rfl rfl hkey _ [] (plainElem_int Tryz.underlying3 hw1) ?_; intro w1 hown1 hgrow1))
      go_ret
      refine ⟨rfl, ⟨(hgrow1.block g HD.out.lt.1 (by simpa using HD.out.ne)).trans HD.out.row, ?_⟩, (Fr.ofGrown hgrow1).mono fun i _ q => (Option.some.inj q).symm⟩
      rw [dM_put] at hown1
      exact own_tight hown1
    | none =>
      rw [e] at hat
      simp only [Option.getD_none] at hat
      subst hat
      simp only
      by_cases hfl : (L.length : Int) = m
      · rw [if_pos hfl, if_pos hfl]
        rw [show fullB m L = true from decide_eq_true hfl] at hf
        clear h ho
        go_enter Tryz.func15, Tryz.ntmps15
        go_wp2_with (first | (go_at_call 38; refine (none_no c0).mono ?_; rintro e W ⟨rfl, rfl⟩) | (go_at_call 39; refine hf.mono ?_; rintro e W1 ⟨rfl, hb⟩))
        go_ret
        exact ⟨rfl, HD.out.later hb, Fr.ofBelow hb⟩
      · rw [if_neg hfl, if_neg hfl]
        rw [show fullB m L = false from decide_eq_false hfl] at hf
        have hw1 : (Lit.int .i64 1).wf = true := WalkArith.wf_i64 (by omega)
        clear h ho
        go_enter Tryz.func15, Tryz.ntmps15
        go_wp2_with (first | (go_at_call 38; refine (none_no c0).mono ?_; rintro e W ⟨rfl, rfl⟩) | (go_at_call 39; fail))
        refine hf.mono ?_
        rintro e W1 ⟨rfl, hb⟩
        have hD1 := HD.out.later hb
        have hF1 : Fr (fun i => i = b) _ W1 := Fr.ofBelow hb
        obtain ⟨d0, d1, d2⟩ := hD1.cells
        have hown := hD1.map
        obtain ⟨v', hrun', hat', _⟩ := hD1.map.lookup_int lawI Tryz.underlying57 Tryz.underlying3 (zeroI W1) hkey
        rw [dM_at, e] at hat'
        injection hat' with hat'
        injection hat' with _ hat'
        simp only [Option.getD_none] at hat'
        subst hat'
        have HD1 : Hid (DeskAt W1 g b m L) := hD1
        have HF1 : Hid (Fr (fun i => i = b) _ W1) := hF1
        clear c0 c1 c2 hrun HD hb hF1 hD1
        go_wp2_with (first | (at_mapUpdate; refine wpList_mapUpdate_own _ rfl _ _ _ 57 rfl 3 3 lawI Tryz.underlying57 _ b _ _ rfl hown hlen _ _ _ rfl rfl hkey _ [] (plainElem_int Tryz.underlying3 hw1) ?_; intro w1 hown1 hgrow1))
        go_ret
        refine ⟨rfl, ⟨(hgrow1.block g HD1.out.lt.1 (by simpa using HD1.out.ne)).trans HD1.out.row, ?_⟩, HF1.out.trans ((Fr.ofGrown hgrow1).mono fun i _ q => (Option.some.inj q).symm) fun _ _ q => q⟩
        rw [dM_put] at hown1
        exact own_tight hown1
end
end Go.Proofs.YtiadlcjdpbkbkaaGreat
/- mount.Mount: the volume of a disk, whatever its parts are known to do. -/
namespace Go.Proofs.YtiadlcjdpbkbkaaGreatD
open Go.RowKit Go.Maps
/-- Rows made since are kept beside the log. -/
theorem LS.freshL {w W W' : World} {g d c mb : Nat} {v : Value} {x : LSt} {s : CSt} {t : St} {os ks : List (Nat × Obj)} (ns : List (Nat × Obj)) (h : LS w W g d c mb v x s t os ks) (hf : Below W.heap.size W W') (hn : ∀ p ∈ ns, W.heap.size ≤ p.1 ∧ W'.heap[p.1]? = some p.2) : LogSit w W' g d x s t (ns ++ ks) := by
  have hlt : ∀ k, LHas g mb v k → k < W.heap.size := fun k hk => h.log.lt k hk
  have hk : ∀ k, LHas g mb v k → W'.heap[k]? = W.heap[k]? := fun k hk => hf.block k (hlt k hk)
  refine ⟨c, mb, v, os, h.sit.turn (T := fun _ => False) ⟨hf.os, hf.tape, hf.output, hf.size, fun i hi _ => hf.block i hi⟩ (fun k e => e.elim) fun p hp => ?_, h.log.kept hk, h.own, fun p hp => ?_⟩
  · rcases List.mem_append.1 hp with hp | hp
    · have hb := h.sit.blk (List.mem_append.2 (.inl hp) : (p.1, p.2) ∈ os ++ ks)
      exact ⟨(hf.block p.1 (Array.getElem?_eq_some_iff.1 hb).1).trans hb, .inl ⟨p.2, List.mem_append.2 (.inl hp)⟩⟩
    · rcases List.mem_append.1 hp with hp | hp
      · exact ⟨(hn p hp).2, .inr (hn p hp).1⟩
      · have hb := h.sit.blk (List.mem_append.2 (.inr hp) : (p.1, p.2) ∈ os ++ ks)
        exact ⟨(hf.block p.1 (Array.getElem?_eq_some_iff.1 hb).1).trans hb, .inl ⟨p.2, List.mem_append.2 (.inr hp)⟩⟩
  · rcases List.mem_append.1 hp with hp | hp
    · intro e
      have := hlt _ e
      have := (hn p hp).1
      omega
    · exact h.ap p hp
end Go.Proofs.YtiadlcjdpbkbkaaGreatD
namespace Go.Proofs.YtiadlcjdpbkbkaaGreat
open Go.RowKit Go.Maps
section
variable {M : Int} {w W W' : World} {g d n : Nat} {x x1 : Go.Proofs.YtiadlcjdpbkbkaaGreatD.LSt} {t : Go.Proofs.YtiadlcjdpbkbkaaGreatD.St} {book book1 : Int → Nat → Int} {ks ks' : List (Nat × Obj)}
theorem RLog.freshL (ns : List (Nat × Obj)) (h : RLog M w W g d x book n ks) (hf : Below W.heap.size W W') (hn : ∀ p ∈ ns, W.heap.size ≤ p.1 ∧ W'.heap[p.1]? = some p.2) : RLog M w W' g d x book n (ns ++ ks) := by
  obtain ⟨t, ⟨s, ⟨c, mb, v, os, h⟩, hI⟩, h1, h2⟩ := h
  exact ⟨t, ⟨s, Go.Proofs.YtiadlcjdpbkbkaaGreatD.LS.freshL ns h hf hn, hI⟩, h1, h2⟩
theorem RLog.sync (h : RLog M w W g d x book n ks) (ho : x.opn = false) (hb : x.blocks = []) : Calls Tryz.prog 191 #[.pointer (some ⟨g, 0, none⟩)] W fun e W' => e = .returned (.int .i64 0) ∧ RLog M w W' g d x book n ks := by
  obtain ⟨t, h, h1, h2⟩ := h
  refine (Go.Proofs.YtiadlcjdpbkbkaaGreatD.LogI.syncNone h (ref_of h1.1 ho) hb).mono ?_
  rintro e W' ⟨rfl, h3⟩
  exact ⟨rfl, t, h3, h1, h2⟩
/-- A volume's row. -/
def voRow (gv gl gk : Nat) : Array Value := #[.pointer (some ⟨gv, 0, none⟩), .pointer (some ⟨gl, 0, none⟩), .pointer (some ⟨gk, 0, none⟩)]
/-- A volume, its log, its desk with some inodes held, beside each other. -/
def VolAt (M : Int) (w W : World) (gv g gk bk d : Nat) (x : Go.Proofs.YtiadlcjdpbkbkaaGreatD.LSt) (book : Int → Nat → Int) (n : Nat) (L : List (Int × Int)) (ks : List (Nat × Obj)) : Prop :=
  ∃ oK oB, RLog M w W g d x book n ((gv, .cells (voRow gv g gk) 61) :: (gk, oK) :: (bk, oB) :: ks) ∧ DeskAt W gk bk 8 L ∧ gv ≠ gk ∧ gv ≠ bk ∧ w.heap.size ≤ gv ∧ w.heap.size ≤ bk
theorem exec_boxV {a : Act} {o : Oper} {u : World} {y : Operand} {cs : Array Value} (ho : o.op = .box 61 y) (hx : a.eval y = .agg cs) : (execOp a.eval o).run Tryz.prog u = .ok (.value (.pointer (some ⟨u.heap.size, 0, none⟩))) (u.alloc (.cells cs 61)) := by
  unfold execOp
  simp only [ho, hx]
  simp [go_sem]
set_option maxRecDepth 20000 in
set_option maxHeartbeats 3200000 in
theorem mount_gen {L : Array Value} {t0 t1 : Go.Proofs.YtiadlcjdpbkbkaaGreatD.St} (h : Go.Proofs.YtiadlcjdpbkbkaaGreatD.Sits w W d t0 ks) (hL : (Tryz.prog.info? 43).map (·.size) = some L.size) (hL1 : L.all (·.oneCell') = true) (hL9 : L.size = Go.Proofs.YtiadlcjdpbkbkaaGreatD.lay0R.size)
    (hF : ∀ V ks', Go.Proofs.YtiadlcjdpbkbkaaGreatD.Sits w V d t0 ks' → Calls Tryz.prog 27 #[.pointer (some ⟨d, 0, none⟩)] V fun e W' => e = .returned (.tuple #[.agg L, .int .i64 0]) ∧ Go.Proofs.YtiadlcjdpbkbkaaGreatD.Sits w W' d t1 ks')
    (hR : ∀ V ks', Go.Proofs.YtiadlcjdpbkbkaaGreatD.Sits w V d t1 ks' → Calls Tryz.prog 28 #[.pointer (some ⟨d, 0, none⟩), .agg L] V fun e W' => ∃ g, e = .returned (.tuple #[.pointer (some ⟨g, 0, none⟩), .int .i64 0]) ∧ RLog M w W' g d x book (n + 4) ks')
    (ho : x.opn = false) (hb : x.blocks = []) (hg : Ge x) (hbk : BkB book) (hno : ∀ j, 1 ≤ j → j ≤ 60 → kdP book j = 0 ∨ lkP book j ≠ 0) :
    Calls Tryz.prog 9 #[.pointer (some ⟨d, 0, none⟩)] W fun e W' => ∃ gv g gk bk, e = .returned (.tuple #[.pointer (some ⟨gv, 0, none⟩), .int .i64 0]) ∧ VolAt M w W' gv g gk bk d x book n [] ks := by
  have zl := Go.Proofs.YtiadlcjdpbkbkaaGreatD.zeroLyR
  have hfd := hF W ks h
  have HR := Hid.mk' (hR)
  have HI := Hid.mk' (hL)
  have HO := Hid.mk' (hL1)
  have H9 := Hid.mk' (hL9)
  have HAl : Hid (∀ V g ks', RLog M w V g d x book (n + 4) ks' → Calls Tryz.prog 29 #[.pointer (some ⟨g, 0, none⟩)] V fun e W' => e = .returned (.tuple #[.int .i64 0, .int .i64 0]) ∧ RLog M w W' g d x book n ks') := fun V g ks' hV => hV.allNone ho hg hbk hno
  have HSy : Hid (∀ V g ks', RLog M w V g d x book n ks' → Calls Tryz.prog 30 #[.iface 35 (.pointer (some ⟨g, 0, none⟩))] V fun e W' => e = .returned (.int .i64 0) ∧ RLog M w W' g d x book n ks') := fun V g ks' hV => commitW_ok ((hV.sync ho hb).mono fun e W' h => ⟨0, h.1, h⟩)
  clear h hF hR hL hL1 hL9 ho hb hg hbk hno
  go_enter Tryz.func9, Tryz.ntmps9
  go_wp2_with (go_at_call 27; fail)
  refine hfd.mono ?_
  rintro e W1 ⟨rfl, h1⟩
  have h2 := h1.add (.cells L 43)
  have hrow := h2.blk (List.mem_cons_self ..)
  have hrc := HR.out _ _ h2
  clear hfd h1 h2 HR
  go_wp2_with (first | (with_reducible refine isStoreR 43 ?_; refine wpList_stNew 43 rfl _ _ rfl W1.heap.size L Go.Proofs.YtiadlcjdpbkbkaaGreatD.lay0R 43 HI.out H9.out.symm HO.out rfl rfl rfl ?_) | (with_reducible refine isLoadR 43 ?_; refine wpList_ldR 43 Tryz.underlying43 rfl rfl _ rfl W1.heap.size rfl L 43 (0, 0) HI.out hrow ?_) | (go_at_call 28; fail))
  refine hrc.mono ?_
  rintro e W2 ⟨g, rfl, h3⟩
  have hal := HAl.out W2 g ks (h3.drop (ks' := ks) fun p hp => List.mem_cons_of_mem _ hp)
  clear hrc h3 HAl hrow
  go_wp2_with (go_at_call 29; fail)
  refine hal.mono ?_
  rintro e W3 ⟨rfl, h4⟩
  have hsy := HSy.out _ _ _ h4
  clear hal h4 HSy
  go_wp2_with (go_at_call 30; fail)
  refine hsy.mono ?_
  rintro e W4 ⟨rfl, h5⟩
  have hdk := desk_new 8 W4
  have H5 := Hid.mk' (h5)
  clear hsy h5
  go_wp2_with (go_at_call 31; fail)
  refine hdk.mono ?_
  rintro e W5 ⟨gk, bk, rfl, hD, hb5, hgk, hbk⟩
  obtain ⟨es, clk, hmo⟩ : ∃ es clk, W5.heap[bk]? = some (.map es clk) := by
    obtain ⟨es, clk, q, _⟩ := hD.map
    exact ⟨es, clk, q⟩
  have h6 := H5.out.freshL (W' := W5) [(gk, .cells (dkRow gk bk (max 8 0)) 79), (bk, .map es clk)] hb5 (fun p hp => by
    rcases List.mem_cons.1 hp with rfl | hp
    · exact ⟨hgk, hD.row⟩
    · rcases List.mem_cons.1 hp with rfl | hp
      · exact ⟨hbk, hmo⟩
      · cases hp)
  have HV : Hid (VolAt M w (W5.alloc (.cells (voRow W5.heap.size g gk) 61)) W5.heap.size g gk bk d x book n [] ks) :=
    ⟨_, _, h6.add (.cells (voRow W5.heap.size g gk) 61), hD.later (below_new _ _), by have := hD.lt.1; omega, by have := hD.lt.2; omega, h6.below.size, by have := H5.out.below.size; omega⟩
  clear hdk hb5 hgk hbk hD h6 H5 hmo
  go_wp2
  go_ret2
  exact ⟨_, g, gk, bk, rfl, HV.out⟩
end
end Go.Proofs.YtiadlcjdpbkbkaaGreat
/- The calls of a volume: none, Log, Desk, Sync, Close. -/
namespace Go.Proofs.YtiadlcjdpbkbkaaGreat
open Go.RowKit Go.Maps
theorem infoVo : ∃ j, Tryz.prog.info? 61 = some j := Option.isSome_iff_exists.1 (by kernel_rfl)
theorem neqVo (w : World) (a : Addr) : (binOp .neq 29 (.pointer (some a)) (.pointer (some a))).run Tryz.prog w = .ok (.bool false) w := by
  obtain ⟨j, hj⟩ := infoVo
  exact neq_same w a Tryz.underlying29 hj
theorem neqVon (w : World) (a : Addr) : (binOp .neq 29 (.pointer none) (.pointer (some a))).run Tryz.prog w = .ok (.bool true) w := neq_nil w a Tryz.underlying29
/-- v is a volume that is nil, or that nobody made, or that is closed. -/
def NoVol (w : World) (v : Value) : Prop := v = .pointer none ∨ ∃ g, v = .pointer (some ⟨g, 0, none⟩) ∧ w.cell? ⟨g, 0, none⟩ = some (.pointer none)
theorem vnone_yes {w : World} {v : Value} (h : NoVol w v) : Calls Tryz.prog 37 #[v] w fun e w' => e = .returned (.bool true) ∧ w' = w := by
  have hn := neqVon
  rcases h with rfl | ⟨g, rfl, c0⟩
  · go_enter Tryz.func37, Tryz.ntmps37
    go_wp2
    go_ret
    exact ⟨rfl, rfl⟩
  · go_enter Tryz.func37, Tryz.ntmps37
    go_wp2
    go_ret
    exact ⟨rfl, rfl⟩
theorem vnone_no {w : World} {g : Nat} (c0 : w.cell? ⟨g, 0, none⟩ = some (.pointer (some ⟨g, 0, none⟩))) : Calls Tryz.prog 37 #[.pointer (some ⟨g, 0, none⟩)] w fun e w' => e = .returned (.bool false) ∧ w' = w := by
  have hn := neqVo
  go_enter Tryz.func37, Tryz.ntmps37
  go_wp2
  go_ret
  exact ⟨rfl, rfl⟩
theorem vlog_none {w : World} {v : Value} (h : NoVol w v) : Calls Tryz.prog 13 #[v] w fun e w' => e = .returned (.pointer none) ∧ w' = w := by
  go_enter Tryz.func13, Tryz.ntmps13
  go_wp2_with (go_at_call 37; refine (vnone_yes h).mono ?_; rintro e w1 ⟨rfl, rfl⟩)
  go_ret
  exact ⟨rfl, rfl⟩
theorem vdesk_none {w : World} {v : Value} (h : NoVol w v) : Calls Tryz.prog 14 #[v] w fun e w' => e = .returned (.pointer none) ∧ w' = w := by
  go_enter Tryz.func14, Tryz.ntmps14
  go_wp2_with (go_at_call 37; refine (vnone_yes h).mono ?_; rintro e w1 ⟨rfl, rfl⟩)
  go_ret
  exact ⟨rfl, rfl⟩
theorem vsync_none {w : World} {v : Value} (h : NoVol w v) : Calls Tryz.prog 17 #[v] w fun e w' => e = .returned (.int .i64 1) ∧ w' = w := by
  go_enter Tryz.func17, Tryz.ntmps17
  go_wp2_with (go_at_call 37; refine (vnone_yes h).mono ?_; rintro e w1 ⟨rfl, rfl⟩)
  go_ret
  exact ⟨rfl, rfl⟩
theorem vclose_none {w : World} {v : Value} (h : NoVol w v) : Calls Tryz.prog 18 #[v] w fun e w' => e = .returned (.int .i64 1) ∧ w' = w := by
  go_enter Tryz.func18, Tryz.ntmps18
  go_wp2_with (go_at_call 37; refine (vnone_yes h).mono ?_; rintro e w1 ⟨rfl, rfl⟩)
  go_ret
  exact ⟨rfl, rfl⟩
section
variable {M : Int} {w W W' : World} {gv g gk bk d n : Nat} {x x1 : Go.Proofs.YtiadlcjdpbkbkaaGreatD.LSt} {book : Int → Nat → Int} {L : List (Int × Int)} {ks ks' : List (Nat × Obj)}
theorem VolAt.cells (h : VolAt M w W gv g gk bk d x book n L ks) : W.cell? ⟨gv, 0, none⟩ = some (.pointer (some ⟨gv, 0, none⟩)) ∧ W.cell? ⟨gv, 1, none⟩ = some (.pointer (some ⟨g, 0, none⟩)) ∧ W.cell? ⟨gv, 2, none⟩ = some (.pointer (some ⟨gk, 0, none⟩)) := by
  obtain ⟨oK, oB, h, _⟩ := h
  have hr := h.obj (List.mem_cons_self ..)
  exact ⟨Joins.cell_of_block hr 0, Joins.cell_of_block hr 1, Joins.cell_of_block hr 2⟩
theorem VolAt.below (h : VolAt M w W gv g gk bk d x book n L ks) : Below w.heap.size w W := by
  obtain ⟨oK, oB, h, _⟩ := h
  exact h.below
theorem VolAt.later (h : VolAt M w W gv g gk bk d x book n L ks) (hb : Below W.heap.size W W') : VolAt M w W' gv g gk bk d x book n L ks := by
  obtain ⟨oK, oB, h, h2, h3⟩ := h
  exact ⟨oK, oB, h.later hb, h2.later hb, h3⟩
theorem VolAt.vlog (h : VolAt M w W gv g gk bk d x book n L ks) : Calls Tryz.prog 13 #[.pointer (some ⟨gv, 0, none⟩)] W fun e W' => e = .returned (.pointer (some ⟨g, 0, none⟩)) ∧ W' = W := by
  obtain ⟨c0, c1, c2⟩ := h.cells
  clear h
  go_enter Tryz.func13, Tryz.ntmps13
  go_wp2_with (go_at_call 37; refine (vnone_no c0).mono ?_; rintro e w1 ⟨rfl, rfl⟩)
  go_ret
  exact ⟨rfl, rfl⟩
theorem VolAt.vdesk (h : VolAt M w W gv g gk bk d x book n L ks) : Calls Tryz.prog 14 #[.pointer (some ⟨gv, 0, none⟩)] W fun e W' => e = .returned (.pointer (some ⟨gk, 0, none⟩)) ∧ W' = W := by
  obtain ⟨c0, c1, c2⟩ := h.cells
  clear h
  go_enter Tryz.func14, Tryz.ntmps14
  go_wp2_with (go_at_call 37; refine (vnone_no c0).mono ?_; rintro e w1 ⟨rfl, rfl⟩)
  go_ret
  exact ⟨rfl, rfl⟩
set_option maxHeartbeats 800000 in
theorem VolAt.vsync (h : VolAt M w W gv g gk bk d x book n L ks) (ho : x.opn = false) (hb : x.blocks = []) : Calls Tryz.prog 17 #[.pointer (some ⟨gv, 0, none⟩)] W fun e W' => e = .returned (.int .i64 0) ∧ VolAt M w W' gv g gk bk d x book n L ks := by
  obtain ⟨c0, c1, c2⟩ := h.cells
  have hc : Calls Tryz.prog 30 #[.iface 35 (.pointer (some ⟨g, 0, none⟩))] W fun e W' => e = .returned (.int .i64 0) ∧ VolAt M w W' gv g gk bk d x book n L ks := by
    obtain ⟨oK, oB, h, h2, h3⟩ := h
    have hks := h.obj (List.mem_cons_of_mem _ (List.mem_cons_self ..))
    have hbs := h.obj (List.mem_cons_of_mem _ (List.mem_cons_of_mem _ (List.mem_cons_self ..)))
    refine commitW_ok ((h.sync ho hb).mono fun e W' q => ⟨0, q.1, q.1, oK, oB, q.2, ?_, h3⟩)
    exact h2.frame ((q.2.obj (List.mem_cons_of_mem _ (List.mem_cons_self ..))).trans hks.symm) ((q.2.obj (List.mem_cons_of_mem _ (List.mem_cons_of_mem _ (List.mem_cons_self ..)))).trans hbs.symm)
  clear h ho hb
  go_enter Tryz.func17, Tryz.ntmps17
  go_wp2_with (first | (go_at_call 37; refine (vnone_no c0).mono ?_; rintro e w1 ⟨rfl, rfl⟩) | (go_at_call 30; fail))
  refine hc.mono ?_
  rintro e W1 ⟨rfl, h1⟩
  have HV := Hid.mk' (h1)
  clear hc h1 c0 c1 c2
  go_wp2
  go_ret
  exact ⟨rfl, HV.out⟩
end
end Go.Proofs.YtiadlcjdpbkbkaaGreat
/- A disk with whatever stays beside it while the disk alone turns: each call in one form; no condition but that numbers do not pass their greatest. -/
namespace Go.Proofs.YtiadlcjdpbkbkaaGreatD
open Go.RowKit

/-- P stays while nothing turns but the disk's own blocks and new ones. -/
def Stays (P : World → Loc → Prop) : Prop := ∀ W W' L L', (∀ k, L.has k → k < W.heap.size) → P W L → Goes W W' L L' → P W' L'
/-- The disk at d stands for s, and P. -/
def Has (P : World → Loc → Prop) (W : World) (d : Nat) (s : St) : Prop := ∃ L : Loc, L.d = d ∧ DiskAt W L s ∧ P W L
variable {P : World → Loc → Prop} {W : World} {d : Nat} {s : St}
theorem Has.ok (h : Has P W d s) : Ok s := by
  obtain ⟨L, _, hD, _⟩ := h
  exact hD.ok
theorem Has.later (hP : Stays P) {W' : World} (h : Has P W d s) (hb : Below W.heap.size W W') : Has P W' d s := by
  obtain ⟨L, hd, hD, hp⟩ := h
  exact ⟨L, hd, hD.later hb, hP W W' L L hD.lt hp (Goes.ofBelow L hb)⟩
theorem Has.goes (hP : Stays P) {W' : World} {L L' : Loc} {s' : St} (hd : L.d = d) (hD : DiskAt W L s) (hp : P W L) (hD' : DiskAt W' L' s') (hG : Goes W W' L L') : Has P W' d s' := ⟨L', hG.d.trans hd, hD', hP W W' L L' hD.lt hp hG⟩
theorem has_stopped (h : Has P W d s) : Calls Tryz.prog 69 #[.pointer (some ⟨d, 0, none⟩)] W fun e W' => e = .returned (.bool s.stopped) ∧ W' = W := by
  obtain ⟨L, rfl, hD, _⟩ := h
  exact stopped_of hD
theorem has_made (h : Has P W d s) : Calls Tryz.prog 12 #[.pointer (some ⟨d, 0, none⟩)] W fun e W' => e = .returned (.int .i64 s.made) ∧ W' = W := by
  obtain ⟨L, rfl, hD, _⟩ := h
  exact made_of hD
theorem has_fuse (hP : Stays P) (h : Has P W d s) (n : Int) (hn : n ≤ 9223372036854775807) : Calls Tryz.prog 10 #[.pointer (some ⟨d, 0, none⟩), .int .i64 n] W fun e W' => e = .returned (.tuple #[]) ∧ Has P W' d (fuseV s n) := by
  obtain ⟨L, rfl, hD, hp⟩ := h
  exact (fuse_of hD n hn).mono fun e W' ⟨h1, h2, h3⟩ => ⟨h1, Has.goes hP rfl hD hp h2 h3⟩
theorem has_read (hP : Stays P) (h : Has P W d s) (hr : Room s) (k : Int) :
    Calls Tryz.prog 24 #[.pointer (some ⟨d, 0, none⟩), .int .i64 k] W fun e W' => e = .returned (.tuple #[.agg (blk (readB s k)), .int .i64 (refV s k)]) ∧ Has P W' d (readV s k) := by
  obtain ⟨L, rfl, hD, hp⟩ := h
  unfold readB readV
  by_cases hb : refV s k = 0
  · rw [if_pos hb, if_pos hb, hb]
    exact (read_ok hD hr hb).mono fun e W' ⟨h1, h2, h3⟩ => ⟨h1, Has.goes hP rfl hD hp h2 h3⟩
  · rw [if_neg hb, if_neg hb]
    exact (read_bad hD hb).mono fun e W' ⟨h1, h2⟩ => ⟨h1, Has.goes hP rfl hD hp (hD.later h2) (Goes.ofBelow L h2)⟩
theorem has_write (hP : Stays P) (h : Has P W d s) (hr : Room s) (k : Int) {f : Nat → Int} (hf : Can f) :
    Calls Tryz.prog 23 #[.pointer (some ⟨d, 0, none⟩), .int .i64 k, .agg (blk f)] W fun e W' => e = .returned (.int .i64 (writeE s k)) ∧ Has P W' d (writeV s k f) := by
  obtain ⟨L, rfl, hD, hp⟩ := h
  unfold writeE writeV
  by_cases hb : refV s k = 0
  · rw [if_pos hb, if_pos hb]
    cases hl : lets s
    · exact (write_dead hD hr hb hl f).mono fun e W' ⟨h1, h2, h3⟩ => ⟨h1, Has.goes hP rfl hD hp h2 h3⟩
    · exact (write_ok hD hr hb hl hf).mono fun e W' ⟨h1, L', h2, h3⟩ => ⟨h1, Has.goes hP rfl hD hp h2 h3⟩
  · rw [if_neg hb, if_neg hb]
    exact (write_bad hD hb f).mono fun e W' ⟨h1, h2⟩ => ⟨h1, Has.goes hP rfl hD hp (hD.later h2) (Goes.ofBelow L h2)⟩
theorem has_barrier (hP : Stays P) (h : Has P W d s) (hr : Room s) :
    Calls Tryz.prog 11 #[.pointer (some ⟨d, 0, none⟩)] W fun e W' => e = .returned (.int .i64 (barE s)) ∧ Has P W' d (barV s) := by
  obtain ⟨L, rfl, hD, hp⟩ := h
  unfold barE barV
  cases hs : s.stopped
  · cases hl : lets s
    · exact (barrier_dead hD hr hs hl).mono fun e W' ⟨h1, h2, h3⟩ => ⟨h1, Has.goes hP rfl hD hp h2 h3⟩
    · exact (barrier_ok hD hr hs hl).mono fun e W' ⟨h1, L', h2, h3⟩ => ⟨h1, Has.goes hP rfl hD hp h2 h3⟩
  · exact (barrier_stopped hD hs).mono fun e W' ⟨h1, h2⟩ => ⟨h1, by rw [h2]; exact ⟨L, rfl, hD, hp⟩⟩
variable {w : World} {g : Nat} {hs : List (Nat → Int)} {v : Value} {wl : List Cel}
end Go.Proofs.YtiadlcjdpbkbkaaGreatD
