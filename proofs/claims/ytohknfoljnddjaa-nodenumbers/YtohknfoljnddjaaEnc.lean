/- Encode of node: the sixty-four bytes of an inode; for every inode. -/
import Derived.Test.YtohknfoljnddjaaNums
import Derived.Test.YtohknfoljnddjaaPut
namespace Go.Proofs.Ytohknfoljnddjaa
open Go.RowKit

/-- The bytes of an inode with its first m numbers. -/
def encN (k l s b : Int) (d : Nat → Int) : Nat → Nat → Int
  | 0 => putN (putN (putN (putN nought 0 k 2) 2 l 2) 4 s 4) 8 b 4
  | m + 1 => putN (encN k l s b d m) (12 + 4 * m) (d m) 4

theorem wpList_ldC {ops : Array Oper} {rest : List Oper} {o : Oper} {a : Act} {w : World} {Q : Exit → Act → World → Prop} (ty : TypeId) (hagg : ∀ w, (isAgg ty).run Try.prog w = .ok false w) (hw : Region.wanted o (yielded ops a.tmps) = true) (x : Operand) (ho : o.op = .load ty x)
    (g j : Nat) (hx : a.eval x = .pointer (some ⟨g, j, none⟩)) (v : Value) (hc : w.cell? ⟨g, j, none⟩ = some v)
    (h : wpList Try.prog ops Q rest (a.put o.dst v) w) : wpList Try.prog ops Q (o :: rest) a w := by
  unfold wpList
  rw [if_pos hw]
  refine .inl ?_
  unfold Oper.wp execOp
  simp only [ho, hx]
  simp [Instr.loadAt, Instr.sureAddr, loadVar, hagg, hc, go_sem]
  exact h

theorem load59 (w : World) (g : Nat) (f : Nat → Int) (h : w.heap[g]? = some (.cells (blk f) 59)) : (loadVar 59 ⟨g, 0, none⟩).run Try.prog w = .ok (.agg (blk f)) w :=
  run_loadVar_row w g 59 59 (blk f) (0, 0) _ h Try.underlying59 rfl (by rw [blk_size]; exact size25)
theorem wpOrd_loadF {ops : Array Oper} {Q : Exit → Act → World → Prop} {S : World → Prop} {r : List (Bool × Oper)} {a : Act} {w : World} {o : Oper} (hw : Region.wanted o (yielded ops a.tmps) = true)
    (x : Operand) (ho : o.op = .load 59 x) (g : Nat) (hx : a.eval x = .pointer (some ⟨g, 0, none⟩)) (f : Nat → Int) (hg : w.heap[g]? = some (.cells (blk f) 59))
    (h : S w ∧ wpOrd Try.prog ops Q S r (a.put o.dst (.agg (blk f))) w) : wpOrd Try.prog ops Q S ((false, o) :: r) a w := by
  simp only [wpOrd, hw, if_true]
  unfold Oper.wp execOp
  simp only [ho, hx, Instr.loadAt, Instr.sureAddr, Sem.run_bind, Sem.run_pure, Result.andThen_ok, load59 w g f hg]
  exact h
theorem wpOrd_storeB {ops : Array Oper} {Q : Exit → Act → World → Prop} {S : World → Prop} {r : List (Bool × Oper)} {a : Act} {w : World} {o : Oper} (hw : Region.wanted o (yielded ops a.tmps) = true)
    (x y : Operand) (ho : o.op = .store 59 x y) (g : Nat) (f f0 : Nat → Int) (hx : a.eval x = .pointer (some ⟨g, 0, none⟩)) (hy : a.eval y = .agg (blk f)) (hg : w.heap[g]? = some (.cells (blk f0) 59))
    (h : S (w.setRow g (blk f)) ∧ wpOrd Try.prog ops Q S r (a.put o.dst undef) (w.setRow g (blk f))) : wpOrd Try.prog ops Q S ((false, o) :: r) a w := by
  simp only [wpOrd, hw, if_true]
  unfold Oper.wp execOp
  simp only [ho, hx, hy, Instr.storeAt, Instr.sureAddr, Sem.run_bind, Sem.run_pure, Result.andThen_ok, run_storeVar_row w g 59 59 (blk f0) (blk f) hg (by rw [blk_size]; exact size25) (by rw [blk_size, blk_size]) (blk_one f)]
  exact h

/-- An inode's row, a row for the result and a block beside them, made since w. -/
structure EncS (w W : World) (N : Array Value) (g : Nat) (f : Nat → Int) : Prop where
  node : W.heap[w.heap.size]? = some (.cells N 27)
  res : W.heap[w.heap.size + 1]? = some (.cells (rowA nought 64) 31)
  blk : W.heap[g]? = some (.cells (blk f) 59)
  far : w.heap.size + 2 ≤ g
  bel : Below w.heap.size w W
theorem EncS.call {w W W' : World} {N : Array Value} {g : Nat} {f : Nat → Int} (h : EncS w W N g f) (hb : Below W.heap.size W W') : EncS w W' N g f :=
  ⟨heap_kept h.node hb, heap_kept h.res hb, heap_kept h.blk hb, h.far, below_next h.bel hb⟩
theorem EncS.store {w W : World} {N : Array Value} {g : Nat} {f : Nat → Int} (h : EncS w W N g f) (f' : Nat → Int) : EncS w (W.setRow g (Proofs.Ytohknfoljnddjaa.blk f')) N g f' :=
  ⟨(setRow_other _ _ _ _ (by have := h.far; omega)).trans h.node, (setRow_other _ _ _ _ (by have := h.far; omega)).trans h.res, setRow_heap _ _ _ _ _ _ h.blk, h.far, below_setRow h.bel (by have := h.far; omega) _⟩
theorem EncS.drew {w W : World} {N : Array Value} {g : Nat} {f : Nat → Int} (h : EncS w W N g f) : EncS w W.drew N g f := ⟨h.node, h.res, h.blk, h.far, h.bel.drew⟩
theorem EncS.cell {w W : World} {N : Array Value} {g : Nat} {f : Nat → Int} (h : EncS w W N g f) (j : Nat) (v : Value) (hv : N[j]? = some v) : W.cell? ⟨w.heap.size, j, none⟩ = some v :=
  (cell_of_row W _ j N 27 _ h.node).trans hv

set_option maxRecDepth 20000 in
set_option maxHeartbeats 1000000 in
theorem encode_any (k l s b : Int) (d : Nat → Int) (w : World) (h : NodeOk k l s b d) :
    Calls Try.prog 9 #[.agg (node16 k l s b d)] w fun e w' => e = .returned (.agg (rowA (encN k l s b d 12) 64)) ∧ Below w.heap.size w w' := by
  have z31 := zero31
  have z25 := zero25
  have c0 : ∀ W : World, Calls Try.prog 23 #[.agg (blk nought), .int .i64 0, .int .u16 k] W fun e w' => e = .returned (.agg (blk (putN nought 0 k 2))) ∧ Below W.heap.size W w' := fun W => set16_in _ 0 k W (by omega) h.k
  have c1 : ∀ W : World, Calls Try.prog 23 #[.agg (blk (putN nought 0 k 2)), .int .i64 2, .int .u16 l] W fun e w' => e = .returned (.agg (blk (putN (putN nought 0 k 2) 2 l 2))) ∧ Below W.heap.size W w' := fun W => set16_in _ 2 l W (by omega) h.l
  have c2 : ∀ W : World, Calls Try.prog 24 #[.agg (blk (putN (putN nought 0 k 2) 2 l 2)), .int .i64 4, .int .u32 s] W fun e w' => e = .returned (.agg (blk (putN (putN (putN nought 0 k 2) 2 l 2) 4 s 4))) ∧ Below W.heap.size W w' := fun W => set32_in _ 4 s W (by omega) h.s
  have c3 : ∀ W : World, Calls Try.prog 24 #[.agg (blk (putN (putN (putN nought 0 k 2) 2 l 2) 4 s 4)), .int .i64 8, .int .u32 b] W fun e w' => e = .returned (.agg (blk (encN k l s b d 0))) ∧ Below W.heap.size W w' := fun W => set32_in _ 8 b W (by omega) h.b
  have H4 : Hid (∀ i, 0 ≤ d i ∧ d i < 4294967296) := h.d
  have HS : Hid (∀ (m : Nat) (W : World), m < 12 → Calls Try.prog 24 #[.agg (blk (encN k l s b d m)), .int .i64 (12 + 4 * (m : Int)), .int .u32 (d m)] W fun e w' => e = .returned (.agg (blk (encN k l s b d (m + 1)))) ∧ Below W.heap.size W w') := fun m W hm => by
    have := set32_in (encN k l s b d m) (12 + 4 * m) (d m) W (by omega) (h.d m)
    rwa [show ((12 + 4 * m : Nat) : Int) = 12 + 4 * (m : Int) by omega] at this
  have HF : Hid (∀ f : Nat → Int, rowA (from' f 0) 64 = rowA f 64) := fun f => rowA_congr fun i _ => by simp [from']
  have hnum := fun W => numbers_any k l s b d W
  have n0 : (node16 k l s b d)[0]? = some (.int .u16 k) := rfl
  have n1 : (node16 k l s b d)[1]? = some (.int .u16 l) := rfl
  have n2 : (node16 k l s b d)[2]? = some (.int .u32 s) := rfl
  have n3 : (node16 k l s b d)[3]? = some (.int .u32 b) := rfl
  have hsz : (Try.prog.info? 27).map (·.size) = some (node16 k l s b d).size := size27
  have N1 : Hid _ := n1
  have N2 : Hid _ := n2
  have N3 : Hid _ := n3
  have HZ : Hid _ := hsz
  clear h n1 n2 n3 hsz
  generalize node16 k l s b d = N at *
  generalize encN k l s b d = E at *
  generalize putN (putN (putN nought 0 k 2) 2 l 2) 4 s 4 = f3 at *
  generalize putN (putN nought 0 k 2) 2 l 2 = f2 at *
  generalize putN nought 0 k 2 = f1 at *
  go_enter Try.func9, Try.ntmps9
  go_wp2_with (first | (go_at_call 23; fail))
  refine (c0 _).mono ?_
  rintro e W1 ⟨rfl, hb1⟩
  have S1 : EncS w (W1.alloc (.cells (blk f1) 59)) N W1.heap.size f1 :=
    ⟨heap_kept (heap_kept (heap_alloc2_old w _ _) hb1) (below_new _ _), heap_kept (heap_kept (heap_alloc2_new w _ _) hb1) (below_new _ _), heap_alloc_new _ _, by have := hb1.size; simpa using this, below_next (below_next (bel_al (below_new _ _) _) hb1) (below_new _ _)⟩
  have HS1 : Hid _ := S1
  clear c0 S1 hb1 n0
  go_wp2_with (first | refine wpList_store25_new rfl _ _ rfl _ _ rfl rfl ?_ | refine wpList_load25 rfl _ rfl _ rfl _ HS1.out.blk ?_ | refine wpList_ldC 22 (fun w => Try.isAgg22 w) rfl _ rfl _ _ rfl _ (HS1.out.cell 1 _ N1.out) ?_ | (go_at_call 23; fail))
  refine (c1 _).mono ?_
  rintro e W2 ⟨rfl, hb⟩
  have HS2 : Hid _ := HS1.out.call hb
  clear hb HS1 c1 N1
  go_wp2_with (first | refine wpList_store25 rfl _ _ rfl _ _ rfl rfl _ HS2.out.blk ?_ | refine wpList_load25 rfl _ rfl _ rfl _ (HS2.out.store f2).blk ?_ | refine wpList_ldC 24 (fun w => Try.isAgg24 w) rfl _ rfl _ _ rfl _ ((HS2.out.store f2).cell 2 _ N2.out) ?_ | (go_at_call 24; fail))
  refine (c2 _).mono ?_
  rintro e W3 ⟨rfl, hb⟩
  have HS3 : Hid _ := (HS2.out.store f2).call hb
  clear hb HS2 c2 N2
  go_wp2_with (first | refine wpList_store25 rfl _ _ rfl _ _ rfl rfl _ HS3.out.blk ?_ | refine wpList_load25 rfl _ rfl _ rfl _ (HS3.out.store f3).blk ?_ | refine wpList_ldC 24 (fun w => Try.isAgg24 w) rfl _ rfl _ _ rfl _ ((HS3.out.store f3).cell 3 _ N3.out) ?_ | (go_at_call 24; fail))
  refine (c3 _).mono ?_
  rintro e W4 ⟨rfl, hb⟩
  have HS4 : Hid _ := (HS3.out.store f3).call hb
  clear hb HS3 c3 N3
  go_wp2_with (first | refine wpList_store25 rfl _ _ rfl _ _ rfl rfl _ HS4.out.blk ?_ | refine wpList_ldR 27 Try.underlying27 rfl rfl _ rfl _ rfl _ 27 (0, 0) HZ.out (HS4.out.store (E 0)).node ?_ | (go_at_call 25; fail))
  refine (hnum _).mono ?_
  rintro e W5 ⟨rfl, hb⟩
  have HS5 : Hid _ := (HS4.out.store (E 0)).call hb
  clear hb HS4 hnum HZ
  go_wp2
  go_loopw [24] (fun s24 wx => ∃ m : Nat, m ≤ 12 ∧ s24 = .int .i64 m ∧ EncS w wx N W1.heap.size (E m)) (fun s24 _ => 12 - (intOf s24).toNat)
  case atStart => exact ⟨0, by omega, rfl, HS5.out⟩
  case round =>
    obtain ⟨m, hm, rfl, hst⟩ := hrel
    have HT : Hid _ := hst
    clear hst HS5
    by_cases h12 : (m : Int) < 12
    · have hidx := idx62 d m (by omega)
      have hst := fun W => HS.out m W (by omega)
      have hx := H4.out m
      generalize d m = x at *
      have HST : Hid _ := hst
      have HX : Hid _ := hx
      have HPL : Hid _ := fun (W : World) => nplace_any m W (by omega)
      clear hst hx HS H4
      go_wp2
      refine wp_region_fork (S := fun _ => True) [1, 3] 0 2 [(4, false), (5, false)] (by kernel_rfl) rfl (by kernel_rfl) (fun d _ _ _ _ h => by cases d <;> exact h) trivial ?_
      refine wpFork_yield (v := .int .i64 (m : Int)) rfl rfl (fun u _ => by simp [execOp, Act.eval]) ?_
      simp only [Act.put, List.setIfInBounds_toArray, List.set_cons_succ, List.set_cons_zero]
      refine wpFork_yield (v := .int .u32 x) rfl rfl (fun u _ => by simp [execOp, Act.eval]) ?_
      simp only [Act.put, List.setIfInBounds_toArray, List.set_cons_succ, List.set_cons_zero]
      have HD : Hid _ := HT.out.drew
      clear HT
      generalize wr.drew = wd at *
      refine wpFork_nil rfl rfl ?_ ?_
      · simp only [inOrd, List.getElem?_cons_zero, List.getElem?_cons_succ]
        refine wpOrd_loadF rfl _ rfl _ rfl _ HD.out.blk ⟨trivial, ?_⟩
        simp only [Act.put, List.setIfInBounds_toArray, List.set_cons_succ, List.set_cons_zero]
        refine wpOrd_call rfl 26 _ _ rfl Try.call26 [.int .i64 (m : Int)] rfl ?_
        refine (HPL.out _).mono ?_
        rintro e' X ⟨rfl, rfl⟩
        refine ⟨_, rfl, trivial, ?_⟩
        simp only [Act.put, List.setIfInBounds_toArray, List.set_cons_succ, List.set_cons_zero]
        refine wpOrd_call rfl 24 _ _ rfl Try.call24 [.agg (blk (E m)), .int .i64 (12 + 4 * (m : Int)), .int .u32 x] rfl ?_
        refine (HST.out _).mono ?_
        rintro e' X ⟨rfl, hbx⟩
        refine ⟨_, rfl, trivial, ?_⟩
        simp only [Act.put, List.setIfInBounds_toArray, List.set_cons_succ, List.set_cons_zero]
        have HX1 : Hid _ := HD.out.call hbx
        refine wpOrd_storeB rfl _ _ rfl W1.heap.size (E (m + 1)) _ rfl rfl HX1.out.blk ⟨trivial, ?_⟩
        refine wpOrd_nil ?_
        have HX2 : Hid _ := HX1.out.store (E (m + 1))
        simp only [Act.put]
        generalize X.setRow W1.heap.size (blk (E (m + 1))) = Y at HX2 ⊢
        clear HX1 HD hbx HST HPL
        go_wp2
        exact ⟨⟨m + 1, by omega, by go_num, HX2.out⟩, by simp [intOf]; omega⟩
      · simp only [inOrd, List.getElem?_cons_zero, List.getElem?_cons_succ]
        refine wpOrd_call rfl 26 _ _ rfl Try.call26 [.int .i64 (m : Int)] rfl ?_
        refine (HPL.out _).mono ?_
        rintro e' X ⟨rfl, rfl⟩
        refine ⟨_, rfl, trivial, ?_⟩
        simp only [Act.put, List.setIfInBounds_toArray, List.set_cons_succ, List.set_cons_zero]
        refine wpOrd_loadF rfl _ rfl _ rfl _ HD.out.blk ⟨trivial, ?_⟩
        simp only [Act.put, List.setIfInBounds_toArray, List.set_cons_succ, List.set_cons_zero]
        refine wpOrd_call rfl 24 _ _ rfl Try.call24 [.agg (blk (E m)), .int .i64 (12 + 4 * (m : Int)), .int .u32 x] rfl ?_
        refine (HST.out _).mono ?_
        rintro e' X ⟨rfl, hbx⟩
        refine ⟨_, rfl, trivial, ?_⟩
        simp only [Act.put, List.setIfInBounds_toArray, List.set_cons_succ, List.set_cons_zero]
        have HX1 : Hid _ := HD.out.call hbx
        refine wpOrd_storeB rfl _ _ rfl W1.heap.size (E (m + 1)) _ rfl rfl HX1.out.blk ⟨trivial, ?_⟩
        refine wpOrd_nil ?_
        have HX2 : Hid _ := HX1.out.store (E (m + 1))
        simp only [Act.put]
        generalize X.setRow W1.heap.size (blk (E (m + 1))) = Y at HX2 ⊢
        clear HX1 HD hbx HST HPL
        go_wp2
        exact ⟨⟨m + 1, by omega, by go_num, HX2.out⟩, by simp [intOf]; omega⟩
    · obtain rfl : m = 12 := by omega
      clear hm HS H4
      have hpc := fun W => piece_any (E 12) 0 64 W (by omega) (by omega)
      have e1 : insLo 0 64 = 0 := by decide
      have e2 : insHi 0 64 = 64 := by decide
      rw [e1, e2] at hpc
      simp only [Nat.sub_zero] at hpc
      rw [HF.out] at hpc
      clear HF e1 e2
      go_wp2_with (first | refine wpList_load25 rfl _ rfl _ rfl _ HT.out.blk ?_ | (go_at_call 27; fail))
      refine (hpc _).mono ?_
      rintro e' X ⟨rfl, hX, hXs, hbx⟩
      have HX1 : Hid _ := HT.out.call hbx
      have HR : Hid _ := hX
      clear hpc hX hXs hbx HT
      have ha := fun u => arrayAt31 (some ⟨wr.heap.size + 1, 0, none⟩) 64 64 (by omega) u
      go_wp2_with (first | refine wpList_ldR 31 Try.underlying31 rfl rfl _ rfl _ rfl _ 5 (0, 0) (by rw [rowA_size]; exact size31) HR.out ?_ | refine wpList_stR 31 rfl _ _ rfl _ _ _ 31 (by rw [rowA_size]; exact size31) (by simp only [rowA_size]) (row64_one _) rfl rfl HX1.out.res ?_)
      exact retR Try.underlying31 rfl rfl (w.heap.size + 1) _ 31 (by rw [rowA_size]; exact size31) rfl (setRow_heap _ _ _ _ _ _ HX1.out.res) rfl ⟨rfl, below_setRow HX1.out.bel (by omega) _⟩
end Go.Proofs.Ytohknfoljnddjaa
