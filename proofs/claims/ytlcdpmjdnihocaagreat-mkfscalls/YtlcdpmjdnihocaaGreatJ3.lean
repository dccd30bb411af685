/- Several texts joined, each with its own remark; no condition. -/
import Derived.Test.YtlcdpmjdnihocaaGreatJ2
import Derived.WalkKit
import Derived.WalkSpells
import Derived.WalkLawsBesides
import Derived.Deep.WholeRow
import Derived.Laws.StructEq
import Derived.Laws.BitsLemmas
import Derived.Test.YtlcdpmjdnihocaaGreatRows
import Derived.BigQuiet
import Derived.Laws.ResultCell
/- The twelve numbers of an inode, the program's and the document's; what is told of an inode; sixty-four bytes of a slice; no condition. -/
namespace Go.Proofs.YtlcdpmjdnihocaaGreatK
open Go.RowKit

def w10 (d e : Nat → Int) : Array Value :=
  #[.int .u32 (d 0), .int .u32 (d 1), .int .u32 (d 2), .int .u32 (d 3), .int .u32 (d 4), .int .u32 (d 5), .int .u32 (d 6), .int .u32 (d 7), .int .u32 (d 8), .int .u32 (d 9), .int .u32 (e 10), .int .u32 (e 11)]
theorem run_copyN (W : World) (ty : TypeId) (g gs : Nat) (k l s b : Int) (d : Nat → Int) (t t' : TypeId) (hF : W.heap[g]? = some (.cells (w12 nought) t)) (hG : W.heap[gs]? = some (.cells (node16 k l s b d) t')) :
    (Builtin.copy_ #[231, 231] ty #[.slice (some ⟨g, 0, none⟩) 12 12, .slice (some ⟨gs, 4, none⟩) 10 10]).run Tryz.prog W = .ok (goInt 10) (W.setRow g (w10 d nought)) := by
  have hi : (Tryz.prog.info? 108).map (·.size) = some 1 := by kernel_rfl
  have key := run_copy_row (P := Tryz.prog) W 231 231 ty 108 g 0 12 12 ⟨gs, 4, none⟩ 10 10 (w12 nought) t
    [.int .u32 (d 0), .int .u32 (d 1), .int .u32 (d 2), .int .u32 (d 3), .int .u32 (d 4), .int .u32 (d 5), .int .u32 (d 6), .int .u32 (d 7), .int .u32 (d 8), .int .u32 (d 9)] Tryz.underlying231 hi hF rfl (fun j v hv => by
      rw [Go.WideShapes.add_plain, cell_of_row W gs _ _ t' _ hG]
      match j, hv with
      | 0, hv | 1, hv | 2, hv | 3, hv | 4, hv | 5, hv | 6, hv | 7, hv | 8, hv | 9, hv => exact hv
      | j + 10, hv => simp at hv) (by rw [w12_size]; simp) (by simp [Value.oneCell'])
  exact key
theorem wpList_copyN {ops : Array Oper} {rest : List Oper} {o : Oper} {a : Act} {w : World} {Q : Exit → Act → World → Prop} (hgd : o.guard = none) (x y : Operand)
    (ho : o.op = .call { callee := .builtin .copy, args := #[x, y], argTypes := #[231, 231] }) (g gs : Nat) (k l s b : Int) (d : Nat → Int) (t t' : TypeId)
    (hd : a.eval x = .slice (some ⟨g, 0, none⟩) 12 12) (hs : a.eval y = .slice (some ⟨gs, 4, none⟩) 10 10)
    (hF : w.heap[g]? = some (.cells (w12 nought) t)) (hG : w.heap[gs]? = some (.cells (node16 k l s b d) t'))
    (h : wpList Tryz.prog ops Q rest (a.put o.dst (goInt 10)) (w.setRow g (w10 d nought))) : wpList Tryz.prog ops Q (o :: rest) a w :=
  wpList_plain hgd fun _ hK => by
    have hrun := run_copyN w o.type g gs k l s b d t t' hF hG
    unfold Oper.wp
    simp [execOp, ho, resolve, invoke, builtin, hd, hs, hrun, Result.andThen]
    exact hK _ _ h

theorem heap_new3 (w : World) (A B C : Obj) : (((w.alloc A).alloc B).alloc C).heap[w.heap.size + 2]? = some C := by
  have h := heap_alloc_new ((w.alloc A).alloc B) C
  rwa [World.size_alloc, World.size_alloc] at h
set_option maxRecDepth 20000 in
set_option maxHeartbeats 400000 in
theorem numbers_any (k l s b : Int) (d : Nat → Int) (w : World) :
    Calls Tryz.prog 156 #[.agg (node16 k l s b d)] w fun e w' => e = .returned (.agg (w12 d)) ∧ Below w.heap.size w w' := by
  have z62 := zero62
  go_enter Tryz.func156, Tryz.ntmps156
  go_wp2
  go_still_tail 3, (by kernel_rfl)
  change wpList _ _ _ _ _ (World.drew _)
  have hF : (((w.alloc (.cells (node16 k l s b d) 111)).alloc (.cells (w12 nought) 215)).alloc (.cells (w12 nought) 215)).drew.heap[w.heap.size + 2]? = some (.cells (w12 nought) 215) := by
    show (((w.alloc (.cells (node16 k l s b d) 111)).alloc (.cells (w12 nought) 215)).alloc (.cells (w12 nought) 215)).heap[w.heap.size + 2]? = _
    exact heap_new3 _ _ _ _
  have hG : (((w.alloc (.cells (node16 k l s b d) 111)).alloc (.cells (w12 nought) 215)).alloc (.cells (w12 nought) 215)).drew.heap[w.heap.size]? = some (.cells (node16 k l s b d) 111) := by
    show (((w.alloc (.cells (node16 k l s b d) 111)).alloc (.cells (w12 nought) 215)).alloc (.cells (w12 nought) 215)).heap[w.heap.size]? = _
    rw [heap_alloc_old _ _ (by simp; omega)]
    exact heap_alloc2_old _ _ _
  refine wpList_copyN rfl _ _ rfl (w.heap.size + 2) w.heap.size k l s b d 215 111 rfl rfl hF hG ?_
  have hW : (((w.alloc (.cells (node16 k l s b d) 111)).alloc (.cells (w12 nought) 215)).alloc (.cells (w12 nought) 215)).drew.setRow (w.heap.size + 2) (w10 d nought) = (((w.alloc (.cells (node16 k l s b d) 111)).alloc (.cells (w12 nought) 215)).alloc (.cells (w10 d nought) 215)).drew := by
    have h := World.setRow_alloc_new ((w.alloc (.cells (node16 k l s b d) 111)).alloc (.cells (w12 nought) 215)) (w12 nought) (w10 d nought) 215
    rw [World.size_alloc, World.size_alloc] at h
    exact congrArg World.drew h
  rw [hW]
  clear hF hG hW
  simp only [Act.put, List.setIfInBounds_toArray, List.set_cons_succ, List.set_cons_zero]
  unfold node16 w10
  go_wp2_with (first | refine wpList_stR 215 rfl _ _ rfl _ (w12 d) _ 215 (by rw [w12_size]; exact size62) (by rfl) (w12_one d) rfl rfl (heap3 _ _ _ _) ?_)
  refine retR Tryz.underlying215 rfl rfl (w.heap.size + 1) (w12 d) 215 (by rw [w12_size]; exact size62) rfl (setRow_heap _ _ _ _ _ _ (heap3 _ _ _ _)) rfl ⟨rfl, ?_⟩
  exact below_setRow (bel_al (bel_al (below_new _ _) _) _).drew (by omega) _

end Go.Proofs.YtlcdpmjdnihocaaGreatK
/- The document's put and get over sixty-four bytes, and where a number of an inode stands; places inside. -/
namespace Go.Proofs.YtlcdpmjdnihocaaGreatK
open Go.RowKit

theorem nplace_any (k : Int) (w : World) (h : 0 ≤ k ∧ k ≤ 100) : Calls Tryz.prog 157 #[.int .i64 k] w fun e w' => e = .returned (.int .i64 (12 + 4 * k)) ∧ w' = w := by
  obtain ⟨h0, h1⟩ := h
  go_enter Tryz.func157, Tryz.ntmps157
  go_wp2
  go_ret
  exact ⟨rfl, rfl⟩

end Go.Proofs.YtlcdpmjdnihocaaGreatK
/- Encode of node: the sixty-four bytes of an inode; for every inode. -/
namespace Go.Proofs.YtlcdpmjdnihocaaGreatK
open Go.RowKit

/-- The bytes of an inode with its first m numbers. -/
def encN (k l s b : Int) (d : Nat → Int) : Nat → Nat → Int
  | 0 => putN (putN (putN (putN nought 0 k 2) 2 l 2) 4 s 4) 8 b 4
  | m + 1 => putN (encN k l s b d m) (12 + 4 * m) (d m) 4

theorem wpList_ldC {ops : Array Oper} {rest : List Oper} {o : Oper} {a : Act} {w : World} {Q : Exit → Act → World → Prop} (ty : TypeId) (hagg : ∀ w, (isAgg ty).run Tryz.prog w = .ok false w) (hw : Region.wanted o (yielded ops a.tmps) = true) (x : Operand) (ho : o.op = .load ty x)
    (g j : Nat) (hx : a.eval x = .pointer (some ⟨g, j, none⟩)) (v : Value) (hc : w.cell? ⟨g, j, none⟩ = some v)
    (h : wpList Tryz.prog ops Q rest (a.put o.dst v) w) : wpList Tryz.prog ops Q (o :: rest) a w := by
  unfold wpList
  rw [if_pos hw]
  refine .inl ?_
  unfold Oper.wp execOp
  simp only [ho, hx]
  simp [Instr.loadAt, Instr.sureAddr, loadVar, hagg, hc, go_sem]
  exact h

theorem load59 (w : World) (g : Nat) (f : Nat → Int) (h : w.heap[g]? = some (.cells (blk f) 79)) : (loadVar 79 ⟨g, 0, none⟩).run Tryz.prog w = .ok (.agg (blk f)) w :=
  run_loadVar_row w g 79 79 (blk f) (0, 0) _ h Tryz.underlying79 rfl (by rw [blk_size]; exact size25)
theorem wpOrd_loadF {ops : Array Oper} {Q : Exit → Act → World → Prop} {S : World → Prop} {r : List (Bool × Oper)} {a : Act} {w : World} {o : Oper} (hw : Region.wanted o (yielded ops a.tmps) = true)
    (x : Operand) (ho : o.op = .load 79 x) (g : Nat) (hx : a.eval x = .pointer (some ⟨g, 0, none⟩)) (f : Nat → Int) (hg : w.heap[g]? = some (.cells (blk f) 79))
    (h : S w ∧ wpOrd Tryz.prog ops Q S r (a.put o.dst (.agg (blk f))) w) : wpOrd Tryz.prog ops Q S ((false, o) :: r) a w := by
  simp only [wpOrd, hw, if_true]
  unfold Oper.wp execOp
  simp only [ho, hx, Instr.loadAt, Instr.sureAddr, Sem.run_bind, Sem.run_pure, Result.andThen_ok, load59 w g f hg]
  exact h
theorem wpOrd_storeB {ops : Array Oper} {Q : Exit → Act → World → Prop} {S : World → Prop} {r : List (Bool × Oper)} {a : Act} {w : World} {o : Oper} (hw : Region.wanted o (yielded ops a.tmps) = true)
    (x y : Operand) (ho : o.op = .store 79 x y) (g : Nat) (f f0 : Nat → Int) (hx : a.eval x = .pointer (some ⟨g, 0, none⟩)) (hy : a.eval y = .agg (blk f)) (hg : w.heap[g]? = some (.cells (blk f0) 79))
    (h : S (w.setRow g (blk f)) ∧ wpOrd Tryz.prog ops Q S r (a.put o.dst undef) (w.setRow g (blk f))) : wpOrd Tryz.prog ops Q S ((false, o) :: r) a w := by
  simp only [wpOrd, hw, if_true]
  unfold Oper.wp execOp
  simp only [ho, hx, hy, Instr.storeAt, Instr.sureAddr, Sem.run_bind, Sem.run_pure, Result.andThen_ok, run_storeVar_row w g 79 79 (blk f0) (blk f) hg (by rw [blk_size]; exact size25) (by rw [blk_size, blk_size]) (blk_one f)]
  exact h

/-- An inode's row, a row for the result and a block beside them, made since w. -/
structure EncS (w W : World) (N : Array Value) (g : Nat) (f : Nat → Int) : Prop where
  node : W.heap[w.heap.size]? = some (.cells N 111)
  res : W.heap[w.heap.size + 1]? = some (.cells (rowA nought 64) 204)
  blk : W.heap[g]? = some (.cells (blk f) 79)
  far : w.heap.size + 2 ≤ g
  bel : Below w.heap.size w W
theorem EncS.call {w W W' : World} {N : Array Value} {g : Nat} {f : Nat → Int} (h : EncS w W N g f) (hb : Below W.heap.size W W') : EncS w W' N g f :=
  ⟨heap_kept h.node hb, heap_kept h.res hb, heap_kept h.blk hb, h.far, below_next h.bel hb⟩
theorem EncS.store {w W : World} {N : Array Value} {g : Nat} {f : Nat → Int} (h : EncS w W N g f) (f' : Nat → Int) : EncS w (W.setRow g (Proofs.YtlcdpmjdnihocaaGreatK.blk f')) N g f' :=
  ⟨(setRow_other _ _ _ _ (by have := h.far; omega)).trans h.node, (setRow_other _ _ _ _ (by have := h.far; omega)).trans h.res, setRow_heap _ _ _ _ _ _ h.blk, h.far, below_setRow h.bel (by have := h.far; omega) _⟩
theorem EncS.drew {w W : World} {N : Array Value} {g : Nat} {f : Nat → Int} (h : EncS w W N g f) : EncS w W.drew N g f := ⟨h.node, h.res, h.blk, h.far, h.bel.drew⟩
theorem EncS.cell {w W : World} {N : Array Value} {g : Nat} {f : Nat → Int} (h : EncS w W N g f) (j : Nat) (v : Value) (hv : N[j]? = some v) : W.cell? ⟨w.heap.size, j, none⟩ = some v :=
  (cell_of_row W _ j N 111 _ h.node).trans hv

set_option maxRecDepth 20000 in
set_option maxHeartbeats 1000000 in
theorem encode_any (k l s b : Int) (d : Nat → Int) (w : World) (h : NodeOk k l s b d) :
    Calls Tryz.prog 138 #[.agg (node16 k l s b d)] w fun e w' => e = .returned (.agg (rowA (encN k l s b d 12) 64)) ∧ Below w.heap.size w w' := by
  have z31 := zero31
  have z25 := zero25
  have c0 : ∀ W : World, Calls Tryz.prog 155 #[.agg (blk nought), .int .i64 0, .int .u16 k] W fun e w' => e = .returned (.agg (blk (putN nought 0 k 2))) ∧ Below W.heap.size W w' := fun W => set16_in _ 0 k W (by omega) h.k
  have c1 : ∀ W : World, Calls Tryz.prog 155 #[.agg (blk (putN nought 0 k 2)), .int .i64 2, .int .u16 l] W fun e w' => e = .returned (.agg (blk (putN (putN nought 0 k 2) 2 l 2))) ∧ Below W.heap.size W w' := fun W => set16_in _ 2 l W (by omega) h.l
  have c2 : ∀ W : World, Calls Tryz.prog 95 #[.agg (blk (putN (putN nought 0 k 2) 2 l 2)), .int .i64 4, .int .u32 s] W fun e w' => e = .returned (.agg (blk (putN (putN (putN nought 0 k 2) 2 l 2) 4 s 4))) ∧ Below W.heap.size W w' := fun W => set32_in _ 4 s W (by omega) h.s
  have c3 : ∀ W : World, Calls Tryz.prog 95 #[.agg (blk (putN (putN (putN nought 0 k 2) 2 l 2) 4 s 4)), .int .i64 8, .int .u32 b] W fun e w' => e = .returned (.agg (blk (encN k l s b d 0))) ∧ Below W.heap.size W w' := fun W => set32_in _ 8 b W (by omega) h.b
  have H4 : Hid (∀ i, 0 ≤ d i ∧ d i < 4294967296) := h.d
  have HS : Hid (∀ (m : Nat) (W : World), m < 12 → Calls Tryz.prog 95 #[.agg (blk (encN k l s b d m)), .int .i64 (12 + 4 * (m : Int)), .int .u32 (d m)] W fun e w' => e = .returned (.agg (blk (encN k l s b d (m + 1)))) ∧ Below W.heap.size W w') := fun m W hm => by
    have := set32_in (encN k l s b d m) (12 + 4 * m) (d m) W (by omega) (h.d m)
    rwa [show ((12 + 4 * m : Nat) : Int) = 12 + 4 * (m : Int) by omega] at this
  have HF : Hid (∀ f : Nat → Int, rowA (from' f 0) 64 = rowA f 64) := fun f => rowA_congr fun i _ => by simp [from']
  have hnum := fun W => numbers_any k l s b d W
  have n0 : (node16 k l s b d)[0]? = some (.int .u16 k) := rfl
  have n1 : (node16 k l s b d)[1]? = some (.int .u16 l) := rfl
  have n2 : (node16 k l s b d)[2]? = some (.int .u32 s) := rfl
  have n3 : (node16 k l s b d)[3]? = some (.int .u32 b) := rfl
  have hsz : (Tryz.prog.info? 111).map (·.size) = some (node16 k l s b d).size := size27
  have N1 : Hid _ := n1
  have N2 : Hid _ := n2
  have N3 : Hid _ := n3
  have HZ : Hid _ := hsz
  clear h n1 n2 n3 hsz
  generalize node16 k l s b d = N at *
  generalize encN k l s b d = E at *
  generalize putN (putN (putN nought 0 k 2) 2 l 2) 4 s 4 = f3 at *
  generalize putN (putN nought 0 k 2) 2 l 2 = f2 at *
  generalize putN nought 0 k 2 = f1 at *
  go_enter Tryz.func138, Tryz.ntmps138
  go_wp2_with (first | (go_at_call 155; fail))
  refine (c0 _).mono ?_
  rintro e W1 ⟨rfl, hb1⟩
  have S1 : EncS w (W1.alloc (.cells (blk f1) 79)) N W1.heap.size f1 :=
    ⟨heap_kept (heap_kept (heap_alloc2_old w _ _) hb1) (below_new _ _), heap_kept (heap_kept (heap_alloc2_new w _ _) hb1) (below_new _ _), heap_alloc_new _ _, by have := hb1.size; simpa using this, below_next (below_next (bel_al (below_new _ _) _) hb1) (below_new _ _)⟩
  have HS1 : Hid _ := S1
  clear c0 S1 hb1 n0
  go_wp2_with (first | refine wpList_store25_new rfl _ _ rfl _ _ rfl rfl ?_ | refine wpList_load25 rfl _ rfl _ rfl _ HS1.out.blk ?_ | refine wpList_ldC 62 (fun w => Tryz.isAgg62 w) rfl _ rfl _ _ rfl _ (HS1.out.cell 1 _ N1.out) ?_ | (go_at_call 155; fail))
  refine (c1 _).mono ?_
  rintro e W2 ⟨rfl, hb⟩
  have HS2 : Hid _ := HS1.out.call hb
  clear hb HS1 c1 N1
  go_wp2_with (first | refine wpList_store25 rfl _ _ rfl _ _ rfl rfl _ HS2.out.blk ?_ | refine wpList_load25 rfl _ rfl _ rfl _ (HS2.out.store f2).blk ?_ | refine wpList_ldC 108 (fun w => Tryz.isAgg108 w) rfl _ rfl _ _ rfl _ ((HS2.out.store f2).cell 2 _ N2.out) ?_ | (go_at_call 95; fail))
  refine (c2 _).mono ?_
  rintro e W3 ⟨rfl, hb⟩
  have HS3 : Hid _ := (HS2.out.store f2).call hb
  clear hb HS2 c2 N2
  go_wp2_with (first | refine wpList_store25 rfl _ _ rfl _ _ rfl rfl _ HS3.out.blk ?_ | refine wpList_load25 rfl _ rfl _ rfl _ (HS3.out.store f3).blk ?_ | refine wpList_ldC 108 (fun w => Tryz.isAgg108 w) rfl _ rfl _ _ rfl _ ((HS3.out.store f3).cell 3 _ N3.out) ?_ | (go_at_call 95; fail))
  refine (c3 _).mono ?_
  rintro e W4 ⟨rfl, hb⟩
  have HS4 : Hid _ := (HS3.out.store f3).call hb
  clear hb HS3 c3 N3
  go_wp2_with (first | refine wpList_store25 rfl _ _ rfl _ _ rfl rfl _ HS4.out.blk ?_ | refine wpList_ldR 111 Tryz.underlying111 rfl rfl _ rfl _ rfl _ 111 (0, 0) HZ.out (HS4.out.store (E 0)).node ?_ | (go_at_call 156; fail))
  refine (hnum _).mono ?_
  rintro e W5 ⟨rfl, hb⟩
  have HS5 : Hid _ := (HS4.out.store (E 0)).call hb
  clear hb HS4 hnum HZ
  go_wp2
  go_loopw [24] (fun s24 wx => ∃ m : Nat, m ≤ 12 ∧ s24 = .int .i64 m ∧ EncS w wx N W1.heap.size (E m)) (fun s24 _ => 12 - (intOf s24).toNat)
  case atStart => exact ⟨0, by omega, rfl, HS5.out⟩
  case round =>
    obtain ⟨m, hm, rfl, hst⟩ := hrel
    have HT : Hid _ := hst
    clear hst HS5
    by_cases h12 : (m : Int) < 12
    · have hidx := idx62 d m (by omega)
      have hst := fun W => HS.out m W (by omega)
      have hx := H4.out m
      generalize d m = x at *
      have HST : Hid _ := hst
      have HX : Hid _ := hx
      have HPL : Hid _ := fun (W : World) => nplace_any m W (by omega)
      clear hst hx HS H4
      go_wp2
      refine wp_region_fork (S := fun _ => True) [1, 3] 0 2 [(4, false), (5, false)] (by kernel_rfl) rfl (by kernel_rfl) (fun d _ _ _ _ h => by cases d <;> exact h) trivial ?_
      refine wpFork_yield (v := .int .i64 (m : Int)) rfl rfl (fun u _ => by simp [execOp, Act.eval]) ?_
      simp only [Act.put, List.setIfInBounds_toArray, List.set_cons_succ, List.set_cons_zero]
      refine wpFork_yield (v := .int .u32 x) rfl rfl (fun u _ => by simp [execOp, Act.eval]) ?_
      simp only [Act.put, List.setIfInBounds_toArray, List.set_cons_succ, List.set_cons_zero]
      have HD : Hid _ := HT.out.drew
      clear HT
      generalize wr.drew = wd at *
      refine wpFork_nil rfl rfl ?_ ?_
      · simp only [inOrd, List.getElem?_cons_zero, List.getElem?_cons_succ]
        refine wpOrd_loadF rfl _ rfl _ rfl _ HD.out.blk ⟨trivial, ?_⟩
        simp only [Act.put, List.setIfInBounds_toArray, List.set_cons_succ, List.set_cons_zero]
        refine wpOrd_call rfl 157 _ _ rfl Tryz.call157 [.int .i64 (m : Int)] rfl ?_
        refine (HPL.out _).mono ?_
        rintro e' X ⟨rfl, rfl⟩
        refine ⟨_, rfl, trivial, ?_⟩
        simp only [Act.put, List.setIfInBounds_toArray, List.set_cons_succ, List.set_cons_zero]
        refine wpOrd_call rfl 95 _ _ rfl Tryz.call95 [.agg (blk (E m)), .int .i64 (12 + 4 * (m : Int)), .int .u32 x] rfl ?_
        refine (HST.out _).mono ?_
        rintro e' X ⟨rfl, hbx⟩
        refine ⟨_, rfl, trivial, ?_⟩
        simp only [Act.put, List.setIfInBounds_toArray, List.set_cons_succ, List.set_cons_zero]
        have HX1 : Hid _ := HD.out.call hbx
        refine wpOrd_storeB rfl _ _ rfl W1.heap.size (E (m + 1)) _ rfl rfl HX1.out.blk ⟨trivial, ?_⟩
        refine wpOrd_nil ?_
        have HX2 : Hid _ := HX1.out.store (E (m + 1))
        simp only [Act.put]
        generalize X.setRow W1.heap.size (blk (E (m + 1))) = Y at HX2 ⊢
        clear HX1 HD hbx HST HPL
        go_wp2
        exact ⟨⟨m + 1, by omega, by go_num, HX2.out⟩, by simp [intOf]; omega⟩
      · simp only [inOrd, List.getElem?_cons_zero, List.getElem?_cons_succ]
        refine wpOrd_call rfl 157 _ _ rfl Tryz.call157 [.int .i64 (m : Int)] rfl ?_
        refine (HPL.out _).mono ?_
        rintro e' X ⟨rfl, rfl⟩
        refine ⟨_, rfl, trivial, ?_⟩
        simp only [Act.put, List.setIfInBounds_toArray, List.set_cons_succ, List.set_cons_zero]
        refine wpOrd_loadF rfl _ rfl _ rfl _ HD.out.blk ⟨trivial, ?_⟩
        simp only [Act.put, List.setIfInBounds_toArray, List.set_cons_succ, List.set_cons_zero]
        refine wpOrd_call rfl 95 _ _ rfl Tryz.call95 [.agg (blk (E m)), .int .i64 (12 + 4 * (m : Int)), .int .u32 x] rfl ?_
        refine (HST.out _).mono ?_
        rintro e' X ⟨rfl, hbx⟩
        refine ⟨_, rfl, trivial, ?_⟩
        simp only [Act.put, List.setIfInBounds_toArray, List.set_cons_succ, List.set_cons_zero]
        have HX1 : Hid _ := HD.out.call hbx
        refine wpOrd_storeB rfl _ _ rfl W1.heap.size (E (m + 1)) _ rfl rfl HX1.out.blk ⟨trivial, ?_⟩
        refine wpOrd_nil ?_
        have HX2 : Hid _ := HX1.out.store (E (m + 1))
        simp only [Act.put]
        generalize X.setRow W1.heap.size (blk (E (m + 1))) = Y at HX2 ⊢
        clear HX1 HD hbx HST HPL
        go_wp2
        exact ⟨⟨m + 1, by omega, by go_num, HX2.out⟩, by simp [intOf]; omega⟩
    · obtain rfl : m = 12 := by omega
      clear hm HS H4
      have hpc := fun W => piece_any (E 12) 0 64 W (by omega) (by omega)
      have e1 : insLo 0 64 = 0 := by decide
      have e2 : insHi 0 64 = 64 := by decide
      rw [e1, e2] at hpc
      simp only [Nat.sub_zero] at hpc
      rw [HF.out] at hpc
      clear HF e1 e2
      go_wp2_with (first | refine wpList_load25 rfl _ rfl _ rfl _ HT.out.blk ?_ | (go_at_call 158; fail))
      refine (hpc _).mono ?_
      rintro e' X ⟨rfl, hX, hXs, hbx⟩
      have HX1 : Hid _ := HT.out.call hbx
      have HR : Hid _ := hX
      clear hpc hX hXs hbx HT
      have ha := fun u => arrayAt31 (some ⟨wr.heap.size + 1, 0, none⟩) 64 64 (by omega) u
      go_wp2_with (first | refine wpList_ldR 204 Tryz.underlying204 rfl rfl _ rfl _ rfl _ 5 (0, 0) (by rw [rowA_size]; exact size31) HR.out ?_ | refine wpList_stR 204 rfl _ _ rfl _ _ _ 204 (by rw [rowA_size]; exact size31) (by simp only [rowA_size]) (row64_one _) rfl rfl HX1.out.res ?_)
      exact retR Tryz.underlying204 rfl rfl (w.heap.size + 1) _ 204 (by rw [rowA_size]; exact size31) rfl (setRow_heap _ _ _ _ _ _ HX1.out.res) rfl ⟨rfl, below_setRow HX1.out.bel (by omega) _⟩
end Go.Proofs.YtlcdpmjdnihocaaGreatK
/- What a block of 1024 bytes is as cells: a plain function from places to numbers, laid as cells; no condition. -/
namespace Go.Proofs.YtlcdpmjdnihocaaGreatP
open Go.RowKit

/-- The cells of a block whose byte at place i is f i. -/
def blk (f : Nat → Int) : Array Value := ((List.range 1024).map fun i => Value.int .u8 (f i)).toArray
/-- f, but for x at place i. -/
def upd (f : Nat → Int) (i : Nat) (x : Int) : Nat → Int := fun j => if j = i then x else f j
def nought : Nat → Int := fun _ => 0

theorem blk_size (f : Nat → Int) : (blk f).size = 1024 := by simp [blk]
theorem blk_get (f : Nat → Int) (i : Nat) (h : i < 1024) : (blk f)[i]? = some (.int .u8 (f i)) := by
  simp [blk, h]
theorem blk_set (f : Nat → Int) (i : Nat) (x : Int) : (blk f).setIfInBounds i (.int .u8 x) = blk (upd f i x) := by
  apply Array.ext_getElem?
  intro j
  by_cases hj : j < 1024
  · rw [blk_get _ _ hj, Array.getElem?_setIfInBounds]
    by_cases e : i = j
    · subst e; simp [blk_size, hj, upd]
    · have e' : ¬ j = i := fun q => e q.symm
      simp [e, e', blk_get _ _ hj, upd]
  · rw [Array.getElem?_eq_none (by rw [Array.size_setIfInBounds, blk_size]; omega), Array.getElem?_eq_none (by rw [blk_size]; omega)]
theorem blk_congr {f g : Nat → Int} (h : ∀ i, i < 1024 → f i = g i) : blk f = blk g := by
  apply Array.ext_getElem?
  intro j
  by_cases hj : j < 1024
  · rw [blk_get _ _ hj, blk_get _ _ hj, h j hj]
  · rw [Array.getElem?_eq_none (by rw [blk_size]; omega), Array.getElem?_eq_none (by rw [blk_size]; omega)]
theorem blk_one (f : Nat → Int) : (blk f).all (·.oneCell') = true := by
  rw [Array.all_eq_true_iff_forall_mem]
  intro v hv
  simp [blk] at hv
  obtain ⟨i, _, rfl⟩ := hv
  rfl
end Go.Proofs.YtlcdpmjdnihocaaGreatP
/- Numbers of some bytes, the lowest first: read and laid, as plain functions; the bytes are 0 to 255. -/
namespace Go.Proofs.YtlcdpmjdnihocaaGreatP
open Go.RowKit

/-- The number of m bytes from place k on. -/
def numN (f : Nat → Int) (k : Nat) : Nat → Int
  | 0 => 0
  | m + 1 => f k + 256 * numN f (k + 1) m
/-- The number of n bytes from at on, if all are inside. -/
def num (f : Nat → Int) (at' : Int) (n : Nat) : Int := if 0 ≤ at' ∧ at' ≤ 1024 - (n : Int) then numN f at'.toNat n else 0
/-- f with m bytes of v laid from place k on. -/
def putN (f : Nat → Int) (k : Nat) (v : Int) : Nat → Nat → Int
  | 0 => f
  | m + 1 => putN (upd f k (v % 256)) (k + 1) (v / 256) m
def put (f : Nat → Int) (at' : Int) (n : Nat) (v : Int) : Nat → Int := if 0 ≤ at' ∧ at' ≤ 1024 - (n : Int) then putN f at'.toNat v n else f

theorem numN_bd (f : Nat → Int) (hf : ∀ i, 0 ≤ f i ∧ f i ≤ 255) : ∀ (m k : Nat), 0 ≤ numN f k m ∧ numN f k m < 256 ^ m
  | 0, _ => by simp [numN]
  | m + 1, k => by
    have h1 := numN_bd f hf m (k + 1)
    have h2 := hf k
    simp only [numN, Int.pow_succ]
    omega
theorem num2 (f : Nat → Int) (k : Nat) : numN f k 2 = f k + 256 * f (k + 1) := by simp [numN]
theorem num4 (f : Nat → Int) (k : Nat) : numN f k 4 = f k + 256 * f (k + 1) + 65536 * f (k + 2) + 16777216 * f (k + 3) := by
  simp only [numN, Nat.add_assoc, Nat.reduceAdd]; omega
theorem num_in (f : Nat → Int) (k n : Nat) (h : k + n ≤ 1024) : num f (k : Int) n = numN f k n := by
  unfold num; rw [if_pos (by omega), Int.toNat_natCast]
theorem num_out (f : Nat → Int) (a : Int) (n : Nat) (h : a < 0 ∨ 1024 - (n : Int) < a) : num f a n = 0 := by
  unfold num; rw [if_neg (by omega)]
theorem put_in (f : Nat → Int) (k n : Nat) (v : Int) (h : k + n ≤ 1024) : put f (k : Int) n v = putN f k v n := by
  unfold put; rw [if_pos (by omega), Int.toNat_natCast]
theorem put_out (f : Nat → Int) (a : Int) (n : Nat) (v : Int) (h : a < 0 ∨ 1024 - (n : Int) < a) : put f a n v = f := by
  unfold put; rw [if_neg (by omega)]
theorem put2 (f : Nat → Int) (k : Nat) (v : Int) (hv : 0 ≤ v ∧ v < 65536) : putN f k v 2 = upd (upd f k (v % 256)) (k + 1) (v / 256) := by
  simp only [putN]
  rw [show v / 256 % 256 = v / 256 by omega]
theorem put4 (f : Nat → Int) (k : Nat) (v : Int) (hv : 0 ≤ v ∧ v < 4294967296) : putN f k v 4 = upd (upd (upd (upd f k (v % 256)) (k + 1) (v / 256 % 256)) (k + 2) (v / 65536 % 256)) (k + 3) (v / 16777216) := by
  simp only [putN, Nat.add_assoc, Nat.reduceAdd]
  rw [show v / 256 / 256 % 256 = v / 65536 % 256 by omega, show v / 256 / 256 / 256 % 256 = v / 16777216 by omega]
theorem num_bd (f : Nat → Int) (hf : ∀ i, 0 ≤ f i ∧ f i ≤ 255) (a : Int) (n : Nat) : 0 ≤ num f a n ∧ num f a n < 256 ^ n := by
  unfold num
  split
  · exact numN_bd f hf _ _
  · exact ⟨Int.le_refl _, Int.pow_pos (by decide)⟩

theorem wrap_u8 (n : Int) : IntKind.u8.wrap n = n % 256 := by simp [IntKind.wrap, IntKind.bits, IntKind.signed]
theorem wrap_u16 (n : Int) : IntKind.u16.wrap n = n % 65536 := by simp [IntKind.wrap, IntKind.bits, IntKind.signed]
theorem wrap_u32 (n : Int) : IntKind.u32.wrap n = n % 4294967296 := by simp [IntKind.wrap, IntKind.bits, IntKind.signed]

theorem or_comm' (k : IntKind) (x y : Int) : bits .or k x y = bits .or k y x := by simp only [bits, BitVec.or_comm]
theorem or16 (a b : Int) (ha : 0 ≤ a ∧ a ≤ 255) (hb : 0 ≤ b ∧ b ≤ 255) : bits .or .u16 (IntKind.u16.wrap a) (IntKind.u16.wrap (IntKind.u16.wrap b * 256)) = a + 256 * b := by
  simp only [wrap_u16]
  have h1 : a % 65536 = a := by omega
  have h2 : b % 65536 * 256 % 65536 = 256 * b := by omega
  rw [h1, h2, or_comm', bits_join .u16 16 (by decide) (fun n h0 h1 => by rw [wrap_u16]; omega) 8 (256 * b) a (by omega) (by omega) (by omega) (by omega) (by omega) (by omega)]
  omega
theorem or32 (i : Nat) (x y : Int) (hx0 : 0 ≤ x) (hx : x % 2 ^ i = 0) (hx1 : x < 2 ^ 32) (hy0 : 0 ≤ y) (hy : y < 2 ^ i) (hy1 : y < 2 ^ 32) : bits .or .u32 y x = y + x := by
  rw [or_comm', bits_join .u32 32 (by decide) (fun n h0 h1 => by rw [wrap_u32]; omega) i x y hx0 hx hx1 hy0 hy hy1]
  omega
theorem or32all (a b c d : Int) (ha : 0 ≤ a ∧ a ≤ 255) (hb : 0 ≤ b ∧ b ≤ 255) (hc : 0 ≤ c ∧ c ≤ 255) (hd : 0 ≤ d ∧ d ≤ 255) :
    bits .or .u32 (bits .or .u32 (bits .or .u32 (IntKind.u32.wrap a) (IntKind.u32.wrap (IntKind.u32.wrap b * 256))) (IntKind.u32.wrap (IntKind.u32.wrap c * 65536))) (IntKind.u32.wrap (IntKind.u32.wrap d * 16777216)) = a + 256 * b + 65536 * c + 16777216 * d := by
  simp only [wrap_u32]
  have h1 : a % 4294967296 = a := by omega
  have h2 : b % 4294967296 * 256 % 4294967296 = 256 * b := by omega
  have h3 : c % 4294967296 * 65536 % 4294967296 = 65536 * c := by omega
  have h4 : d % 4294967296 * 16777216 % 4294967296 = 16777216 * d := by omega
  rw [h1, h2, h3, h4, or32 8 (256 * b) a (by omega) (by omega) (by omega) (by omega) (by omega) (by omega),
    or32 16 (65536 * c) (a + 256 * b) (by omega) (by omega) (by omega) (by omega) (by omega) (by omega),
    or32 24 (16777216 * d) (a + 256 * b + 65536 * c) (by omega) (by omega) (by omega) (by omega) (by omega) (by omega)]
end Go.Proofs.YtlcdpmjdnihocaaGreatP
/- Where the regions of a geometry lie, as plain numbers, and the values that stand for them; no condition. -/
namespace Go.Proofs.YtlcdpmjdnihocaaGreatP
open Go.RowKit

def nodeB (i : Int) : Int := (i + 16) / 16
def bitsB (b : Int) : Int := (b + 8191) / 8192
def bitsAt (l i : Int) : Int := 1 + l + nodeB i
def dataAt (b l i : Int) : Int := bitsAt l i + bitsB b
/-- Is there a layout of the geometry b, l, i? -/
abbrev Fine (b l i : Int) : Prop := 32 ≤ l ∧ l ≤ 256 ∧ 1 ≤ i ∧ i ≤ 65535 ∧ b ≤ 1048576 ∧ dataAt b l i < b
theorem Fine.pos {b l i : Int} (h : Fine b l i) : 35 ≤ b := by
  unfold Fine dataAt bitsAt nodeB bitsB at h; omega

/-- Is a geometry within its bounds? -/
def bndB (b l i : Int) : Bool := decide (32 ≤ l ∧ l ≤ 256 ∧ 1 ≤ i ∧ i ≤ 65535 ∧ b ≤ 1048576)

def geoV (b l i : Int) : Value := .agg #[.int .i64 b, .int .i64 l, .int .i64 i]
def lay9 (b l i a c d e f g : Int) : Array Value := #[.int .i64 b, .int .i64 l, .int .i64 i, .int .i64 a, .int .i64 c, .int .i64 d, .int .i64 e, .int .i64 f, .int .i64 g]
def layV (b l i : Int) : Value := .agg (lay9 b l i 1 (1 + l) (nodeB i) (bitsAt l i) (bitsB b) (dataAt b l i))
def layZ : Value := .agg (lay9 0 0 0 0 0 0 0 0 0)
/-- What Of answers. -/
def ofV (b l i : Int) : Value := if Fine b l i then layV b l i else layZ
def ofE (b l i : Int) : Int := if Fine b l i then 0 else 2
def I64 (x : Int) : Prop := -9223372036854775808 ≤ x ∧ x ≤ 9223372036854775807
end Go.Proofs.YtlcdpmjdnihocaaGreatP
/- The block type of this program over its translation: loads, stores and results of whole blocks; fits; no condition. -/
namespace Go.Proofs.YtlcdpmjdnihocaaGreatP
open Go.RowKit

theorem info25 : (Tryz.prog.info? 79).map (fun i => (i.zero, i.size)) = some (some (.agg (blk nought)), 1024) := by kernel_rfl
theorem zero25 : ∀ w, (zeroValue 79).run Tryz.prog w = .ok (.agg (blk nought)) w := (zero_of_info info25).1
theorem size25 : (Tryz.prog.info? 79).map (·.size) = some 1024 := (zero_of_info info25).2

set_option maxHeartbeats 400000 in
theorem fits_any (a n : Int) (w : World) (hn : 0 ≤ n ∧ n ≤ 1024) :
    Calls Tryz.prog 137 #[.int .i64 a, .int .i64 n] w fun e w' => e = .returned (.bool (decide (0 ≤ a ∧ a ≤ 1024 - n))) ∧ w' = w := by
  by_cases h0 : 0 ≤ a
  · by_cases h1 : a ≤ 1024 - n
    · go_enter Tryz.func137, Tryz.ntmps137
      go_wp2
      go_ret
      exact ⟨by simp [h0, h1], rfl⟩
    · go_enter Tryz.func137, Tryz.ntmps137
      go_wp2
      go_ret
      exact ⟨by simp [h1], rfl⟩
  · go_enter Tryz.func137, Tryz.ntmps137
    go_wp2
    go_ret
    exact ⟨by simp; omega, rfl⟩

theorem fits_yes (a n : Int) (w : World) (hn : 0 ≤ n ∧ n ≤ 1024) (h : 0 ≤ a ∧ a ≤ 1024 - n) :
    Calls Tryz.prog 137 #[.int .i64 a, .int .i64 n] w fun e w' => e = .returned (.bool true) ∧ w' = w := by
  have := fits_any a n w hn
  rwa [decide_eq_true h] at this
theorem fits_no (a n : Int) (w : World) (hn : 0 ≤ n ∧ n ≤ 1024) (h : ¬ (0 ≤ a ∧ a ≤ 1024 - n)) :
    Calls Tryz.prog 137 #[.int .i64 a, .int .i64 n] w fun e w' => e = .returned (.bool false) ∧ w' = w := by
  have := fits_any a n w hn
  rwa [decide_eq_false h] at this

/-- The first k of f, noughts behind them. -/
def firsts (f : Nat → Int) (k : Nat) : Nat → Int := fun i => if i < k then f i else 0
theorem firsts_next (f : Nat → Int) (k : Nat) : upd (firsts f k) k (f k) = firsts f (k + 1) := by
  funext j
  unfold upd firsts
  by_cases h : j = k
  · subst h; simp
  · by_cases h2 : j < k
    · simp [h, h2, show j < k + 1 by omega]
    · simp [h, h2, show ¬ j < k + 1 by omega]

theorem wpList_load25 {ops : Array Oper} {rest : List Oper} {o : Oper} {a : Act} {w : World} {Q : Exit → Act → World → Prop} (hgd : o.guard = none) (x : Operand) (ho : o.op = .load 79 x)
    (g : Nat) (hx : a.eval x = .pointer (some ⟨g, 0, none⟩)) (f : Nat → Int) (hg : w.heap[g]? = some (.cells (blk f) 79))
    (h : wpList Tryz.prog ops Q rest (a.put o.dst (.agg (blk f))) w) : wpList Tryz.prog ops Q (o :: rest) a w :=
  wpList_load_row hgd 79 x ho g hx 79 (blk f) (0, 0) _ hg Tryz.underlying79 rfl (by rw [blk_size]; exact size25) h
theorem wpList_store25 {ops : Array Oper} {rest : List Oper} {o : Oper} {a : Act} {w : World} {Q : Exit → Act → World → Prop} (hgd : o.guard = none) (x y : Operand) (ho : o.op = .store 79 x y)
    (g : Nat) (f : Nat → Int) (hx : a.eval x = .pointer (some ⟨g, 0, none⟩)) (hy : a.eval y = .agg (blk f)) (f0 : Nat → Int) (hg : w.heap[g]? = some (.cells (blk f0) 79))
    (h : wpList Tryz.prog ops Q rest (a.put o.dst undef) (w.setRow g (blk f))) : wpList Tryz.prog ops Q (o :: rest) a w :=
  wpList_plain hgd fun _ hK => by
    unfold Oper.wp execOp
    simp only [ho, hx, hy, Instr.storeAt, Instr.sureAddr, Sem.run_bind, Sem.run_pure, Result.andThen_ok, run_storeVar_row w g 79 79 (blk f0) (blk f) hg (by rw [blk_size]; exact size25) (by rw [blk_size, blk_size]) (blk_one f)]
    exact hK _ _ h

/-- A result that is a whole block in a cell. -/
theorem ret25 {fn : Func} {p : Tmp} {R : Ending → World → Prop} {a : Act} {w : World} (h : fn.results = #[.cell p 79]) (g : Nat) (f : Nat → Int)
    (hp : a.tmps.getD p undef = .pointer (some ⟨g, 0, none⟩)) (hg : w.heap[g]? = some (.cells (blk f) 79)) (hd : a.defers = []) (hR : R (.returned (.agg (blk f))) w) : bodyPost Tryz.prog fn R .ret a w :=
  bodyPost_ret (results_cell_row h a.tmps w g 79 (blk f) (0, 0) _ hp hg Tryz.underlying79 rfl (by rw [blk_size]; exact size25)) hd hR
theorem below_setRow {B : Nat} {a w : World} (h : Below B a w) {g : Nat} (hg : B ≤ g) (cs : Array Value) : Below B a (w.setRow g cs) :=
  h.trans ⟨rfl, rfl, rfl, by simp, fun k hk => setRow_other w g k cs (by omega)⟩
theorem below2 (w : World) (a b : Obj) (g : Nat) (hg : w.heap.size ≤ g) (cs : Array Value) : Below w.heap.size w (((w.alloc a).alloc b).setRow g cs) :=
  below_setRow (((Below.refl _ _).alloc (Nat.le_refl _) _).alloc (by simp) _) hg _
end Go.Proofs.YtlcdpmjdnihocaaGreatP
/- Two blocks held against each other: equal just where every byte is; for every two blocks. -/
namespace Go.Proofs.YtlcdpmjdnihocaaGreatP
open Go.RowKit

def sameB (f g : Nat → Int) : Bool := (List.range 1024).all fun i => f i == g i
theorem sameB_iff (f g : Nat → Int) : sameB f g = true ↔ ∀ i, i < 1024 → f i = g i := by
  simp [sameB, List.all_eq_true, List.mem_range]
theorem sameB_self (f : Nat → Int) : sameB f f = true := (sameB_iff f f).2 fun _ _ => rfl

theorem part5 (f : Nat → Int) (i : Nat) (hi : i < 1024) (w : World) : (part 5 (blk f) (i * 1)).run Tryz.prog w = .ok (.int .u8 (f i)) w := by
  have hb := blk_get f i hi
  simp [part, Tryz.isAgg5, hb]
theorem each25 (d : Nat) (f g : Nat → Int) (w : World) : ∀ l : List Nat, (∀ i, i ∈ l → i < 1024) →
    (forIn (m := Sem) l ((none : Option Bool), ()) fun i _ => do
            let x ← part 5 (blk f) (i * 1)
            let y ← part 5 (blk g) (i * 1)
            let b ← Op.equalIn (d + 1) 5 x y
            if (!b) = true then pure (ForInStep.done (some false, ())) else pure (ForInStep.yield (none, ()))).run Tryz.prog w
      = .ok ((if l.all (fun i => f i == g i) then none else some false), ()) w
  | [], _ => by simp
  | i :: l, h => by
    have h1 := part5 f i (h i (by simp)) w
    have h2 := part5 g i (h i (by simp)) w
    have ih := each25 d f g w l fun j hj => h j (by simp [hj])
    have he := run_equalIn_int (P := Tryz.prog) w d 5 .u8 .u8 (f i) (g i) Tryz.underlying5
    simp only [List.forIn_cons, Sem.run_bind, h1, h2, he, Result.andThen_ok, List.all_cons]
    by_cases e : f i = g i
    · simp only [e, beq_self_eq_true, Bool.not_true, Bool.false_eq_true, if_false, Sem.run_pure, Result.andThen_ok, Bool.true_and]
      exact ih
    · have e' : (f i == g i) = false := by simp [e]
      simp [e']
theorem eq25 (f g : Nat → Int) (w : World) : (Op.equalIn 10000 79 (.agg (blk f)) (.agg (blk g))).run Tryz.prog w = .ok (sameB f g) w := by
  have key := each25 9998 f g w (List.range' 0 [:1024].size) (fun i hi => by simpa [Std.Legacy.Range.size] using hi)
  show (Op.equalIn (9998 + 1 + 1) 79 (.agg (blk f)) (.agg (blk g))).run Tryz.prog w = _
  rw [Op.equalIn]
  simp only [Sem.run_bind, run_underlying Tryz.underlying79, Result.andThen_ok]
  rw [show (sizeOf 5).run Tryz.prog w = .ok 1 w by simp [go_sem]]
  simp only [Result.andThen_ok, Std.Legacy.Range.forIn_eq_forIn_range']
  refine (congrArg (fun r => Result.andThen r _) key).trans ?_
  have hr : List.range' 0 [:1024].size = List.range 1024 := by simp [Std.Legacy.Range.size, List.range_eq_range']
  rw [hr]
  show Result.andThen (Result.ok ((if sameB f g = true then none else some false), ()) w) _ = _
  cases sameB f g <;> simp
end Go.Proofs.YtlcdpmjdnihocaaGreatP
/- Regions whose order is drawn and whose calls make memory but turn none that was there: one walk in the text's order serves every order. -/
namespace Go.Proofs.YtlcdpmjdnihocaaGreatP
open Go.RowKit

/-- A world that has all that W has, and perhaps more behind it. -/
structure Later (W : World) where
  val : World
  below : Below W.heap.size W val

theorem later_some (W : World) : Nonempty (Later W) := ⟨⟨W, Below.refl _ _⟩⟩
theorem Later.cell {W : World} (x : Later W) (p : Addr) (h : p.block < W.heap.size) : x.val.cell? p = W.cell? p := x.below.cell h
theorem Later.heap {W : World} (x : Later W) (g : Nat) (h : g < W.heap.size) : x.val.heap[g]? = W.heap[g]? := x.below.block g h

theorem wp_region_later {id : Nat} {Q : Exit → Act → World → Prop} {a : Act} {w : World} {l : List Oper} (hm : Tryz.prog.follows .mixedOrders = true) (hB : Region.lexB .any l.toArray = true)
    (W : World) (hW : Below W.heap.size W w)
    (h : wpQuiet Tryz.prog l.toArray (fun w' => ∃ x : Later W, w' = x.val) (fun a' => ∀ w', (∃ x : Later W, w' = x.val) → Q .normal a' w') l a) : (Code.region id l.toArray true).wp Tryz.prog Q a w :=
  wp_region_quiet (C := fun w' => ∃ x : Later W, w' = x.val) hm hB ⟨⟨_, hW.drew⟩, rfl⟩ (by simpa using h)

theorem Later.call {W : World} (x : Later W) {f : FuncId} {args : Array Value} {v : Value}
    (h : Calls Tryz.prog f args x.val fun e w' => e = .returned v ∧ Below x.val.heap.size x.val w') : Calls Tryz.prog f args x.val fun e w'' => e = .returned v ∧ ∃ y : Later W, w'' = y.val :=
  h.mono fun _ w' ⟨he, hb⟩ => ⟨he, ⟨w', x.below.trans (hb.mono x.below.size)⟩, rfl⟩

theorem quiet_load25 {W : World} {o : Oper} {a : Act} {K : Act → Prop} (x : Operand) (ho : o.op = .load 79 x) (g : Nat) (hx : a.eval x = .pointer (some ⟨g, 0, none⟩)) (f : Nat → Int)
    (hg : W.heap[g]? = some (.cells (blk f) 79)) (hk : K (a.put o.dst (.agg (blk f)))) : o.quiet Tryz.prog a (fun w' => ∃ x : Later W, w' = x.val) K := by
  refine ⟨.agg (blk f), ?_, hk⟩
  rintro _ ⟨y, rfl⟩
  have hlt : g < W.heap.size := (Array.getElem?_eq_some_iff.1 hg).1
  have hh := (y.heap g hlt).trans hg
  unfold Oper.quietAt execOp
  simp only [ho, hx, Instr.loadAt, Instr.sureAddr, Sem.run_bind, Sem.run_pure, Result.andThen_ok, run_loadVar_row y.val g 79 79 (blk f) (0, 0) _ hh Tryz.underlying79 rfl (by rw [blk_size]; exact size25)]
  exact ⟨rfl, rfl⟩

theorem wpList_store25_new {ops : Array Oper} {rest : List Oper} {o : Oper} {a : Act} {w : World} {Q : Exit → Act → World → Prop} (hgd : o.guard = none) (x y : Operand) (ho : o.op = .store 79 x y)
    (f f0 : Nat → Int) (hx : a.eval x = .pointer (some ⟨w.heap.size, 0, none⟩)) (hy : a.eval y = .agg (blk f))
    (h : wpList Tryz.prog ops Q rest (a.put o.dst undef) (w.alloc (.cells (blk f) 79))) : wpList Tryz.prog ops Q (o :: rest) a (w.alloc (.cells (blk f0) 79)) :=
  wpList_store25 hgd x y ho w.heap.size f hx hy f0 (heap_alloc_new _ _) (by rw [World.setRow_alloc_new]; exact h)
end Go.Proofs.YtlcdpmjdnihocaaGreatP
/- The law's own function block: a block that begins with the bytes of a slice; its bytes lie in memory below. -/
namespace Go.Proofs.YtlcdpmjdnihocaaGreatP
open Go.RowKit

def Lies (w : World) (v : Value) (n : Nat) (f : Nat → Int) : Prop :=
  (∃ a cap, v = .slice a 0 cap ∧ n = 0 ∧ (a = none → cap = 0)) ∨ ∃ b off cap, v = .slice (some ⟨b, off, none⟩) n cap ∧ n ≤ maxLen ∧ n ≤ cap ∧ b < w.heap.size ∧ ∀ i, i < n → w.cell? ⟨b, off + i, none⟩ = some (.int .u8 (f i))
theorem Lies.later {w w' : World} {v : Value} {n : Nat} {f : Nat → Int} (h : Lies w v n f) (hb : Below w.heap.size w w') : Lies w' v n f := by
  rcases h with h | ⟨b, off, cap, hv, hn, hcap, hlt, hc⟩
  · exact .inl h
  · exact .inr ⟨b, off, cap, hv, hn, hcap, Nat.lt_of_lt_of_le hlt hb.size, fun i hi => (hb.cell (p := ⟨b, off + i, none⟩) hlt).trans (hc i hi)⟩
end Go.Proofs.YtlcdpmjdnihocaaGreatP
/- U16 and U32 of slab: the number of the bytes at a place, or nought; for every block of bytes and every place. -/
namespace Go.Proofs.YtlcdpmjdnihocaaGreatP
open Go.RowKit

theorem ret_int {k : IntKind} {a b : Int} (h : a = b) : Ending.returned (.int k a) = .returned (.int k b) := by rw [h]

end Go.Proofs.YtlcdpmjdnihocaaGreatP
/- Of of shape: the layout of a geometry, or none; for every geometry. -/
namespace Go.Proofs.YtlcdpmjdnihocaaGreatP
open Go.RowKit

theorem ret_bool {a b : Bool} (h : a = b) : Ending.returned (.bool a) = .returned (.bool b) := by rw [h]
/-- A result of two: a row in a cell, and a value. -/
theorem retCT {fn : Func} {p u : Tmp} {ty : TypeId} {R : Ending → World → Prop} {a : Act} {w : World} (h : fn.results = #[.cell p ty, .tmp u]) (g : Nat) (cs : Array Value)
    (hp : a.tmps.getD p undef = .pointer (some ⟨g, 0, none⟩)) (hl : (loadVar ty ⟨g, 0, none⟩).run Tryz.prog w = .ok (.agg cs) w)
    (hdf : a.defers = []) (hR : R (.returned (.tuple #[.agg cs, a.tmps.getD u undef])) w) : bodyPost Tryz.prog fn R .ret a w := by
  refine bodyPost_ret ?_ hdf hR
  rw [results_cell_tmp h]
  rw [hp]
  simp [asAddr, hl]

theorem load25L (w : World) (g : Nat) (cs : Array Value) (h : w.heap[g]? = some (.cells cs 52)) (hs : cs.size = 9) : (loadVar 52 ⟨g, 0, none⟩).run Tryz.prog w = .ok (.agg cs) w :=
  run_loadVar_row w g 52 52 cs (0, 0) _ h Tryz.underlying52 rfl (by rw [hs]; kernel_rfl)
theorem size25L : (Tryz.prog.info? 52).map (·.size) = some 9 := by kernel_rfl
theorem size23G : (Tryz.prog.info? 26).map (·.size) = some 3 := by kernel_rfl

theorem bounded_any (b l i : Int) (w : World) :
    Calls Tryz.prog 91 #[geoV b l i] w fun e w' => e = .returned (.bool (bndB b l i)) ∧ w' = w.alloc (.cells #[.int .i64 b, .int .i64 l, .int .i64 i] 26) := by
  unfold geoV
  by_cases h0 : 32 ≤ l
  · by_cases h1 : l ≤ 256
    · by_cases h2 : 1 ≤ i
      · by_cases h3 : i ≤ 65535
        · by_cases h4 : b ≤ 1048576
          · go_enter Tryz.func91, Tryz.ntmps91
            go_wp2
            go_ret
            exact ⟨ret_bool (show true = bndB b l i from (decide_eq_true (by omega)).symm), rfl⟩
          · go_enter Tryz.func91, Tryz.ntmps91
            go_wp2
            go_ret
            exact ⟨ret_bool (show false = bndB b l i from (decide_eq_false (by omega)).symm), rfl⟩
        · go_enter Tryz.func91, Tryz.ntmps91
          go_wp2
          go_ret
          exact ⟨ret_bool (show false = bndB b l i from (decide_eq_false (by omega)).symm), rfl⟩
      · go_enter Tryz.func91, Tryz.ntmps91
        go_wp2
        go_ret
        exact ⟨ret_bool (show false = bndB b l i from (decide_eq_false (by omega)).symm), rfl⟩
    · go_enter Tryz.func91, Tryz.ntmps91
      go_wp2
      go_ret
      exact ⟨ret_bool (show false = bndB b l i from (decide_eq_false (by omega)).symm), rfl⟩
  · go_enter Tryz.func91, Tryz.ntmps91
    go_wp2
    go_ret
    exact ⟨ret_bool (show false = bndB b l i from (decide_eq_false (by omega)).symm), rfl⟩

theorem bel_al {w u : World} (h : Below w.heap.size w u) (o : Obj) : Below w.heap.size w (u.alloc o) := h.alloc h.size o
theorem heap3 (w : World) (A B C : Obj) : (((w.alloc A).alloc B).alloc C).heap[w.heap.size + 1]? = some B := by
  rw [heap_alloc_old _ _ (by simp)]; exact heap_alloc2_new _ _ _
theorem heap4 (w : World) (A B C D : Obj) : ((((w.alloc A).alloc B).alloc C).alloc D).heap[w.heap.size + 1]? = some B := by
  rw [heap_alloc_old _ _ (by simp)]; exact heap3 _ _ _ _

set_option maxRecDepth 20000 in
set_option maxHeartbeats 400000 in
theorem of_out (b l i : Int) (w : World) (h : ¬ (32 ≤ l ∧ l ≤ 256 ∧ 1 ≤ i ∧ i ≤ 65535 ∧ b ≤ 1048576)) :
    Calls Tryz.prog 58 #[geoV b l i] w fun e w' => e = .returned (.tuple #[layZ, .int .i64 2]) ∧ Below w.heap.size w w' := by
  have hc := fun w => bounded_any b l i w
  rw [show bndB b l i = false from decide_eq_false h] at hc
  clear h
  unfold geoV at *
  go_enter Tryz.func58, Tryz.ntmps58
  go_wp2_with (first | (go_at_call 91; refine (hc _).mono ?_; rintro e w' ⟨rfl, rfl⟩))
  refine retCT rfl (w.heap.size + 1) _ rfl (load25L _ _ _ (heap3 _ _ _ _) rfl) rfl ⟨rfl, ?_⟩
  repeat refine bel_al ?_ _
  exact Below.refl _ _

set_option maxRecDepth 20000 in
set_option maxHeartbeats 400000 in
theorem of_fine (b l i : Int) (w : World) (h : 32 ≤ l ∧ l ≤ 256 ∧ 1 ≤ i ∧ i ≤ 65535 ∧ b ≤ 1048576) (h0 : 1 ≤ b) (hd : dataAt b l i < b) :
    Calls Tryz.prog 58 #[geoV b l i] w fun e w' => e = .returned (.tuple #[layV b l i, .int .i64 0]) ∧ Below w.heap.size w w' := by
  have hc := fun w => bounded_any b l i w
  rw [show bndB b l i = true from decide_eq_true h] at hc
  have hd' : ¬ b ≤ 1 + l + (i + 16) / 16 + (b + 8192 - 1) / 8192 := by unfold dataAt bitsAt nodeB bitsB at hd; omega
  have HL : Hid (lay9 b l i 1 (1 + l) ((i + 16) / 16) (1 + l + (i + 16) / 16) ((b + 8192 - 1) / 8192) (1 + l + (i + 16) / 16 + (b + 8192 - 1) / 8192) = lay9 b l i 1 (1 + l) (nodeB i) (bitsAt l i) (bitsB b) (dataAt b l i)) := by
    show _ = _
    unfold dataAt bitsAt nodeB bitsB
    rw [show b + 8192 - 1 = b + 8191 by omega]
  clear hd
  obtain ⟨h1, h2, h3, h4, h5⟩ := h
  unfold geoV at *
  go_enter Tryz.func58, Tryz.ntmps58
  go_wp2_with (first | (go_at_call 91; refine (hc _).mono ?_; rintro e w' ⟨rfl, rfl⟩))
  refine retCT rfl (w.heap.size + 1) _ rfl (load25L _ _ _ (heap4 _ _ _ _ _) rfl) rfl ⟨?_, ?_⟩
  · exact congrArg (fun x => Ending.returned (.tuple #[.agg x, .int .i64 0])) HL.out
  repeat refine bel_al ?_ _
  exact Below.refl _ _

set_option maxRecDepth 20000 in
set_option maxHeartbeats 400000 in
theorem of_full (b l i : Int) (w : World) (h : 32 ≤ l ∧ l ≤ 256 ∧ 1 ≤ i ∧ i ≤ 65535 ∧ b ≤ 1048576) (h0 : 1 ≤ b) (hd : b ≤ dataAt b l i) :
    Calls Tryz.prog 58 #[geoV b l i] w fun e w' => e = .returned (.tuple #[layZ, .int .i64 2]) ∧ Below w.heap.size w w' := by
  have hc := fun w => bounded_any b l i w
  rw [show bndB b l i = true from decide_eq_true h] at hc
  have hd' : b ≤ 1 + l + (i + 16) / 16 + (b + 8192 - 1) / 8192 := by unfold dataAt bitsAt nodeB bitsB at hd; omega
  clear hd
  obtain ⟨h1, h2, h3, h4, h5⟩ := h
  unfold geoV at *
  go_enter Tryz.func58, Tryz.ntmps58
  go_wp2_with (first | (go_at_call 91; refine (hc _).mono ?_; rintro e w' ⟨rfl, rfl⟩))
  refine retCT rfl (w.heap.size + 1) _ rfl (load25L _ _ _ (heap4 _ _ _ _ _) rfl) rfl ⟨rfl, ?_⟩
  repeat refine bel_al ?_ _
  exact Below.refl _ _

theorem tdiv_neg (b : Int) (h : b ≤ 0) : b ≤ (b + 8192 - 1).tdiv 8192 ∧ (b + 8192 - 1).tdiv 8192 ≤ 0 := by
  rw [Int.tdiv_eq_ediv]
  split
  · omega
  · rw [show Int.sign 8192 = 1 by rfl]; omega
set_option maxRecDepth 20000 in
set_option maxHeartbeats 400000 in
theorem of_neg (b l i : Int) (w : World) (h : 32 ≤ l ∧ l ≤ 256 ∧ 1 ≤ i ∧ i ≤ 65535 ∧ b ≤ 1048576) (h0 : b ≤ 0) (hb : -9223372036854775808 ≤ b) :
    Calls Tryz.prog 58 #[geoV b l i] w fun e w' => e = .returned (.tuple #[layZ, .int .i64 2]) ∧ Below w.heap.size w w' := by
  have hc := fun w => bounded_any b l i w
  rw [show bndB b l i = true from decide_eq_true h] at hc
  have ht := tdiv_neg b h0
  obtain ⟨h1, h2, h3, h4, h5⟩ := h
  have hw : b ≤ wrap64 (1 + l + (i + 16) / 16 + (b + 8192 - 1).tdiv 8192) := by
    generalize (b + 8192 - 1).tdiv 8192 = t at ht
    unfold wrap64; omega
  have e1 : wrap64 (b + 8192) = b + 8192 := by unfold wrap64; omega
  clear ht
  unfold geoV at *
  go_enter Tryz.func58, Tryz.ntmps58
  go_wp2_with (first | (go_at_call 91; refine (hc _).mono ?_; rintro e w' ⟨rfl, rfl⟩))
  refine retCT rfl (w.heap.size + 1) _ rfl (load25L _ _ _ (heap4 _ _ _ _ _) rfl) rfl ⟨rfl, ?_⟩
  repeat refine bel_al ?_ _
  exact Below.refl _ _

theorem of_any (b l i : Int) (w : World) (hb : I64 b) :
    Calls Tryz.prog 58 #[geoV b l i] w fun e w' => e = .returned (.tuple #[ofV b l i, .int .i64 (ofE b l i)]) ∧ Below w.heap.size w w' := by
  unfold ofV ofE
  by_cases h : 32 ≤ l ∧ l ≤ 256 ∧ 1 ≤ i ∧ i ≤ 65535 ∧ b ≤ 1048576
  · by_cases h0 : 1 ≤ b
    · by_cases h1 : dataAt b l i < b
      · have hf : Fine b l i := ⟨h.1, h.2.1, h.2.2.1, h.2.2.2.1, h.2.2.2.2, h1⟩
        rw [if_pos hf, if_pos hf]
        exact of_fine b l i w h h0 h1
      · have hf : ¬ Fine b l i := fun q => h1 q.2.2.2.2.2
        rw [if_neg hf, if_neg hf]
        exact of_full b l i w h h0 (by omega)
    · have hf : ¬ Fine b l i := fun q => by have := q.pos; omega
      rw [if_neg hf, if_neg hf]
      exact of_neg b l i w h (by omega) hb.1
  · have hf : ¬ Fine b l i := fun q => h ⟨q.1, q.2.1, q.2.2.1, q.2.2.2.1, q.2.2.2.2.1⟩
    rw [if_neg hf, if_neg hf]
    exact of_out b l i w h
end Go.Proofs.YtlcdpmjdnihocaaGreatP
