/- Several texts joined, each with its own remark; no condition. -/
import Derived.Test.YtiadlcjdpbkbkaaGreatJ9
import Derived.Test.YtiadlcjdpbkbkaaGreatJ8
import Derived.Laws.Cover3
import Derived.Lib.Walk
import Derived.Test.YtiadlcjdpbkbkaaGreatJ7
import Derived.WalkKit
import Derived.WalkSpells
import Derived.WalkLawsBesides
import Derived.Deep.WholeRow
import Derived.Laws.StructEq
import Derived.Laws.BitsLemmas
import Derived.Test.YtiadlcjdpbkbkaaGreatRows
import Derived.BigQuiet
/- Decode of node: the inode that sixty-four bytes say; for all bytes. -/
namespace Go.Proofs.YtiadlcjdpbkbkaaGreatK
open Go.RowKit

theorem info24 : ∃ i0, Tryz.prog.info? 92 = some i0 ∧ i0.size = 1 := by
  have h : (Tryz.prog.info? 92).map (·.size) = some 1 := by kernel_rfl
  cases hq : Tryz.prog.info? 92 with
  | none => rw [hq] at h; cases h
  | some i => exact ⟨i, rfl, by simpa [hq] using h⟩
theorem run_stC (w : World) (g j : Nat) (cs : Array Value) (t : TypeId) (hg : w.heap[g]? = some (.cells cs t)) (hj : j < cs.size) (x : Int) :
    (Instr.storeAt 92 (.pointer (some ⟨g, j, none⟩)) (.int .u32 x)).run Tryz.prog w = .ok () (w.setRow g (cs.setIfInBounds j (.int .u32 x))) := by
  obtain ⟨i0, hi0, hz⟩ := info24
  have hc : w.cell? ⟨g, j, none⟩ = some cs[j] := by rw [cell_of_row w g j cs t _ hg]; simp
  have hf : w.frozen? ⟨g, j, none⟩ = false := by simp [World.frozen?, hg]
  have hr := setCell_eq_setRow w g j cs t (0, 0) (.int .u32 x) hg
  simp [Instr.storeAt, Instr.sureAddr, storeVar, sizeOf, typeInfo, hi0, hz, storeCells, go_sem, hc, hf, hr]
theorem wpOrd_stC {ops : Array Oper} {Q : Exit → Act → World → Prop} {S : World → Prop} {r : List (Bool × Oper)} {a : Act} {w : World} {o : Oper} (hw : Region.wanted o (yielded ops a.tmps) = true)
    (p y : Operand) (ho : o.op = .store 92 p y) (g j : Nat) (cs : Array Value) (t : TypeId) (x : Int) (hj : j < cs.size) (hx : a.eval p = .pointer (some ⟨g, j, none⟩)) (hy : a.eval y = .int .u32 x) (hg : w.heap[g]? = some (.cells cs t))
    (h : S (w.setRow g (cs.setIfInBounds j (.int .u32 x))) ∧ wpOrd Tryz.prog ops Q S r (a.put o.dst undef) (w.setRow g (cs.setIfInBounds j (.int .u32 x)))) : wpOrd Tryz.prog ops Q S ((false, o) :: r) a w := by
  simp only [wpOrd, hw, if_true]
  unfold Oper.wp execOp
  simp only [ho, hx, hy, Sem.run_bind, run_stC w g j cs t hg hj x, Sem.run_pure, Result.andThen_ok]
  exact h

theorem numN_congr {F f : Nat → Int} : ∀ (n k : Nat), (∀ i, i < k + n → F i = f i) → numN F k n = numN f k n
  | 0, _, _ => rfl
  | n + 1, k, h => by
    simp only [numN]
    rw [h k (by omega), numN_congr n (k + 1) fun i hi => h i (by omega)]
theorem from_lay (f : Nat → Int) (k n : Nat) (h : k + n ≤ 64) : numN (layF nought 0 64 f) k n = numN f k n := numN_congr n k fun i hi => by
  unfold layF; rw [if_pos (by omega)]; congr 1
theorem from_byte (f : Nat → Int) (hf : ∀ i, 0 ≤ f i ∧ f i ≤ 255) (i : Nat) : 0 ≤ layF nought 0 64 f i ∧ layF nought 0 64 f i ≤ 255 := by
  unfold layF; split
  · exact hf _
  · exact ⟨Int.le_refl _, show (0 : Int) ≤ 255 by decide⟩
/-- The twelve numbers that bytes say. -/
def decD (f : Nat → Int) : Nat → Int := fun i => numN f (12 + 4 * i) 4
def decN (f : Nat → Int) : Array Value := node16 (numN f 0 2) (numN f 2 2) (numN f 4 4) (numN f 8 4) (decD f)

/-- A row for the result, a block, and a row of twelve numbers behind it, made since w. -/
structure DecS (w W : World) (g : Nat) (F e : Nat → Int) : Prop where
  res : W.heap[w.heap.size + 1]? = some (.cells (node16 0 0 0 0 nought) 156)
  blk : W.heap[g]? = some (.cells (blk F) 47)
  row : W.heap[g + 1]? = some (.cells (w12 e) 191)
  far : w.heap.size + 2 ≤ g
  bel : Below w.heap.size w W
theorem DecS.call {w W W' : World} {g : Nat} {F e : Nat → Int} (h : DecS w W g F e) (hb : Below W.heap.size W W') : DecS w W' g F e :=
  ⟨heap_kept h.res hb, heap_kept h.blk hb, heap_kept h.row hb, h.far, below_next h.bel hb⟩
theorem DecS.store {w W : World} {g : Nat} {F e : Nat → Int} (h : DecS w W g F e) (e' : Nat → Int) : DecS w (W.setRow (g + 1) (w12 e')) g F e' :=
  ⟨(setRow_other _ _ _ _ (by have := h.far; omega)).trans h.res, (setRow_other _ _ _ _ (by omega)).trans h.blk, setRow_heap _ _ _ _ _ _ h.row, h.far, below_setRow h.bel (by have := h.far; omega) _⟩
theorem DecS.drew {w W : World} {g : Nat} {F e : Nat → Int} (h : DecS w W g F e) : DecS w W.drew g F e := ⟨h.res, h.blk, h.row, h.far, h.bel.drew⟩

theorem load10 (u : World) (g : Nat) (d : Nat → Int) (t : TypeId) (h : u.heap[g]? = some (.cells (w12 d) t)) : (Instr.loadAt 154 (.pointer (some ⟨g, 0, none⟩))).run Tryz.prog u =
    .ok (.agg #[.int .u32 (d 0), .int .u32 (d 1), .int .u32 (d 2), .int .u32 (d 3), .int .u32 (d 4), .int .u32 (d 5), .int .u32 (d 6), .int .u32 (d 7), .int .u32 (d 8), .int .u32 (d 9)]) u :=
  run_loadAt_mid u g 0 154 [.int .u32 (d 0), .int .u32 (d 1), .int .u32 (d 2), .int .u32 (d 3), .int .u32 (d 4), .int .u32 (d 5), .int .u32 (d 6), .int .u32 (d 7), .int .u32 (d 8), .int .u32 (d 9)] _ (fun j v hv => by
    rw [cell_of_row u g _ _ t _ h]
    match j, hv with
    | 0, hv | 1, hv | 2, hv | 3, hv | 4, hv | 5, hv | 6, hv | 7, hv | 8, hv | 9, hv => exact hv
    | j + 10, hv => simp at hv) Tryz.underlying154 rfl (by kernel_rfl)

set_option maxRecDepth 20000 in
set_option maxHeartbeats 1000000 in
theorem decode_any (f : Nat → Int) (w : World) (hf : ∀ i, 0 ≤ f i ∧ f i ≤ 255) :
    Calls Tryz.prog 109 #[.agg (rowA f 64)] w fun e w' => e = .returned (.agg (decN f)) ∧ Below w.heap.size w w' := by
  have z27 := zero27
  have z25 := zero25
  have z62 := zero62
  have hby := from_byte f hf
  have C0 : Hid (∀ W : World, Calls Tryz.prog 129 #[.agg (blk (layF nought 0 64 f)), .int .i64 0] W fun e w' => e = .returned (.int .u16 (numN f 0 2)) ∧ Below W.heap.size W w') := fun W => by
    have := u16_any (layF nought 0 64 f) ((0 : Nat) : Int) W hby; rwa [num_in _ _ _ (by omega), from_lay f 0 2 (by omega)] at this
  have C1 : Hid (∀ W : World, Calls Tryz.prog 129 #[.agg (blk (layF nought 0 64 f)), .int .i64 2] W fun e w' => e = .returned (.int .u16 (numN f 2 2)) ∧ Below W.heap.size W w') := fun W => by
    have := u16_any (layF nought 0 64 f) ((2 : Nat) : Int) W hby; rwa [num_in _ _ _ (by omega), from_lay f 2 2 (by omega)] at this
  have C2 : Hid (∀ W : World, Calls Tryz.prog 106 #[.agg (blk (layF nought 0 64 f)), .int .i64 4] W fun e w' => e = .returned (.int .u32 (numN f 4 4)) ∧ Below W.heap.size W w') := fun W => by
    have := u32_any (layF nought 0 64 f) ((4 : Nat) : Int) W hby; rwa [num_in _ _ _ (by omega), from_lay f 4 4 (by omega)] at this
  have C3 : Hid (∀ W : World, Calls Tryz.prog 106 #[.agg (blk (layF nought 0 64 f)), .int .i64 8] W fun e w' => e = .returned (.int .u32 (numN f 8 4)) ∧ Below W.heap.size W w') := fun W => by
    have := u32_any (layF nought 0 64 f) ((8 : Nat) : Int) W hby; rwa [num_in _ _ _ (by omega), from_lay f 8 4 (by omega)] at this
  have CM : Hid (∀ (m : Nat) (W : World), m < 12 → Calls Tryz.prog 106 #[.agg (blk (layF nought 0 64 f)), .int .i64 (12 + 4 * (m : Int))] W fun e w' => e = .returned (.int .u32 (decD f m)) ∧ Below W.heap.size W w') := fun m W hm => by
    have := u32_any (layF nought 0 64 f) ((12 + 4 * m : Nat) : Int) W hby
    rw [num_in _ _ _ (by omega), from_lay f (12 + 4 * m) 4 (by omega)] at this
    rwa [show ((12 + 4 * m : Nat) : Int) = 12 + 4 * (m : Int) by omega] at this
  have hlay := fun (W : World) (p : Value) (hp : Lies W p 64 f) => lay_any nought 0 p 64 f W (by omega) hp
  have hl : Lies ((w.alloc (.cells (rowA f 64) 167)).alloc (.cells (node16 0 0 0 0 nought) 156)) (.slice (some ⟨w.heap.size, 0, none⟩) 64 64) 64 f :=
    .inr ⟨w.heap.size, 0, 64, rfl, by unfold maxLen; omega, by omega, by simp; omega, fun i hi => by rw [Nat.zero_add]; exact cell_row (heap_alloc2_old _ _ _) i hi⟩
  have HLAY := hlay _ _ hl
  unfold decN
  generalize numN f 0 2 = x0 at *
  generalize numN f 2 2 = x1 at *
  generalize numN f 4 4 = x2 at *
  generalize numN f 8 4 = x3 at *
  generalize layF nought 0 64 f = F at *
  generalize decD f = d at *
  clear hlay hby hl
  go_enter Tryz.func109, Tryz.ntmps109
  go_wp2_with (first | (go_at_call 89; fail))
  refine HLAY.mono ?_
  rintro e W1 ⟨rfl, hb1⟩
  have HS1 : Hid (DecS w ((W1.alloc (.cells (blk F) 47)).alloc (.cells (w12 nought) 191)) W1.heap.size F nought) :=
    ⟨heap_kept (heap_kept (heap_kept (heap_alloc2_new w _ _) hb1) (below_new _ _)) (below_new _ _), heap_alloc2_old _ _ _, heap_alloc2_new _ _ _, by have := hb1.size; simpa using this, below_next (below_next (below_next (bel_al (below_new _ _) _) hb1) (below_new _ _)) (below_new _ _)⟩
  clear HLAY hb1
  go_wp2_with (first | refine wpList_store25_new rfl _ _ rfl _ _ rfl rfl ?_)
  go_loopw [9] (fun s9 wx => ∃ (m : Nat) (e : Nat → Int), m ≤ 12 ∧ s9 = .int .i64 m ∧ (∀ i, i < m → e i = d i) ∧ DecS w wx W1.heap.size F e) (fun s9 _ => 12 - (intOf s9).toNat)
  case atStart => exact ⟨0, nought, by omega, rfl, fun i hi => absurd hi (by omega), HS1.out⟩
  case round =>
    obtain ⟨m, e, hm, rfl, he, hst⟩ := hrel
    have HT : Hid _ := hst
    have HE : Hid _ := he
    clear hst he HS1
    by_cases h12 : (m : Int) < 12
    · have HST : Hid _ := fun W => CM.out m W (by omega)
      have HPL : Hid _ := fun (W : World) => nplace_any m W (by omega)
      have HU : Hid (∀ i, i < m + 1 → upd e m (d m) i = d i) := fun i hi => by
        unfold upd; split
        · rename_i q; rw [q]
        · exact HE.out i (by omega)
      clear C0 C1 C2 C3 CM HE
      generalize d m = x at *
      go_wp2
      have HD : Hid _ := HT.out.drew
      clear HT
      refine wp_region_ord (S := fun u => u.heap[W1.heap.size]? = some (.cells (blk F) 47)) [(0, true), (1, true), (2, true), (3, false), (4, false), (5, true), (6, false)]
        (by kernel_rfl) rfl (by kernel_rfl) (fun d _ _ _ _ h => by cases d <;> exact h) HD.out.blk ?_
      generalize wr.drew = wd at *
      simp only [inOrd, List.getElem?_cons_zero, List.getElem?_cons_succ]
      refine wpOrd_yield (v := .int .i64 (m : Int)) rfl (fun u _ => by simp [execOp, Act.eval]) ?_
      simp only [Act.put, List.setIfInBounds_toArray, List.set_cons_succ, List.set_cons_zero]
      refine wpOrd_ldRT 47 Tryz.underlying47 rfl rfl _ rfl _ rfl (blk F) 47 (0, 0) (by rw [blk_size]; exact size25) (fun u hu => hu) ?_
      simp only [Act.put, List.setIfInBounds_toArray, List.set_cons_succ, List.set_cons_zero]
      refine wpOrd_yield (v := .int .i64 (m : Int)) rfl (fun u _ => by simp [execOp, Act.eval]) ?_
      simp only [Act.put, List.setIfInBounds_toArray, List.set_cons_succ, List.set_cons_zero]
      refine wpOrd_call rfl 125 _ _ rfl Tryz.call125 [.int .i64 (m : Int)] rfl ?_
      refine (HPL.out _).mono ?_
      rintro e' X ⟨rfl, rfl⟩
      refine ⟨_, rfl, HD.out.blk, ?_⟩
      simp only [Act.put, List.setIfInBounds_toArray, List.set_cons_succ, List.set_cons_zero]
      refine wpOrd_call rfl 106 _ _ rfl Tryz.call106 [.agg (blk F), .int .i64 (12 + 4 * (m : Int))] rfl ?_
      refine (HST.out _).mono ?_
      rintro e' X ⟨rfl, hbx⟩
      have HX1 : Hid _ := HD.out.call hbx
      refine ⟨_, rfl, HX1.out.blk, ?_⟩
      simp only [Act.put, List.setIfInBounds_toArray, List.set_cons_succ, List.set_cons_zero]
      refine wpOrd_yield (v := .pointer (some ⟨W1.heap.size + 1, m, none⟩)) rfl (fun u _ => by go_simp) ?_
      simp only [Act.put, List.setIfInBounds_toArray, List.set_cons_succ, List.set_cons_zero]
      have HX2 : Hid _ := HX1.out.store (upd e m x)
      refine wpOrd_stC rfl _ _ rfl (W1.heap.size + 1) m (w12 e) 191 x (by rw [w12_size]; omega) rfl rfl HX1.out.row ?_
      rw [w12_set]
      refine ⟨HX2.out.blk, ?_⟩
      refine wpOrd_nil ?_
      simp only [Act.put]
      generalize X.setRow (W1.heap.size + 1) (w12 (upd e m x)) = Y at HX2 ⊢
      clear HX1 HD hbx HST HPL
      go_wp2
      exact ⟨⟨m + 1, upd e m x, by omega, by go_num, HU.out, HX2.out⟩, by simp [intOf]; omega⟩
    · obtain rfl : m = 12 := by omega
      have HC : Hid (node16 x0 x1 x2 x3 e = node16 x0 x1 x2 x3 d) := node_congr rfl rfl rfl rfl HE.out
      clear hm CM HE
      go_wp2
      have HD : Hid _ := HT.out.drew
      clear HT
      have ha := fun u => arrayAt25 (some ⟨W1.heap.size + 1, 0, none⟩) 10 12 (by omega) u
      refine wp_region_ord (S := fun u => u.heap[W1.heap.size]? = some (.cells (blk F) 47) ∧ u.heap[W1.heap.size + 1]? = some (.cells (w12 e) 191)) [(0, true), (2, true), (4, true), (6, true), (8, true), (9, true), (10, true), (11, true), (12, true), (13, true), (14, true), (1, false), (3, false), (5, false), (7, false), (15, true), (16, false)]
        (by kernel_rfl) rfl (by kernel_rfl) (fun d _ _ _ _ h => by cases d <;> exact h) ⟨HD.out.blk, HD.out.row⟩ ?_
      generalize wr.drew = wd at *
      simp only [inOrd, List.getElem?_cons_zero, List.getElem?_cons_succ]
      iterate 4
        refine wpOrd_ldRT 47 Tryz.underlying47 rfl rfl _ rfl _ rfl (blk F) 47 (0, 0) (by rw [blk_size]; exact size25) (fun u hu => hu.1) ?_
        simp only [Act.put, List.setIfInBounds_toArray, List.set_cons_succ, List.set_cons_zero]
      refine wpOrd_yield (v := .slice (some ⟨W1.heap.size + 1, 0, none⟩) 10 12) rfl (fun u _ => by go_simp) ?_
      simp only [Act.put, List.setIfInBounds_toArray, List.set_cons_succ, List.set_cons_zero]
      refine wpOrd_yield (v := .pointer (some ⟨W1.heap.size + 1, 0, none⟩)) rfl (fun u _ => by simp [execOp, Act.eval, ha]) ?_
      simp only [Act.put, List.setIfInBounds_toArray, List.set_cons_succ, List.set_cons_zero]
      refine wpOrd_yield (v := .agg #[.int .u32 (e 0), .int .u32 (e 1), .int .u32 (e 2), .int .u32 (e 3), .int .u32 (e 4), .int .u32 (e 5), .int .u32 (e 6), .int .u32 (e 7), .int .u32 (e 8), .int .u32 (e 9)]) rfl (fun u hu => by simp [execOp, Act.eval, load10 u _ e 191 hu.2]) ?_
      simp only [Act.put, List.setIfInBounds_toArray, List.set_cons_succ, List.set_cons_zero]
      refine wpOrd_yield (v := .pointer (some ⟨W1.heap.size + 1, 10, none⟩)) rfl (fun u _ => by go_simp) ?_
      simp only [Act.put, List.setIfInBounds_toArray, List.set_cons_succ, List.set_cons_zero]
      refine wpOrd_ldCT 92 (fun w => Tryz.isAgg92 w) rfl _ rfl _ _ rfl (.int .u32 (e 10)) (fun u hu => (cell_of_row u _ 10 _ 191 _ hu.2).trans rfl) ?_
      simp only [Act.put, List.setIfInBounds_toArray, List.set_cons_succ, List.set_cons_zero]
      refine wpOrd_yield (v := .pointer (some ⟨W1.heap.size + 1, 11, none⟩)) rfl (fun u _ => by go_simp) ?_
      simp only [Act.put, List.setIfInBounds_toArray, List.set_cons_succ, List.set_cons_zero]
      refine wpOrd_ldCT 92 (fun w => Tryz.isAgg92 w) rfl _ rfl _ _ rfl (.int .u32 (e 11)) (fun u hu => (cell_of_row u _ 11 _ 191 _ hu.2).trans rfl) ?_
      simp only [Act.put, List.setIfInBounds_toArray, List.set_cons_succ, List.set_cons_zero]
      refine wpOrd_call rfl 129 _ _ rfl Tryz.call129 [.agg (blk F), .int .i64 0] rfl ?_
      refine (C0.out _).mono ?_
      rintro e' X1 ⟨rfl, hbx⟩
      have HD1 : Hid _ := HD.out.call hbx
      clear hbx HD C0
      refine ⟨_, rfl, ⟨HD1.out.blk, HD1.out.row⟩, ?_⟩
      simp only [Act.put, List.setIfInBounds_toArray, List.set_cons_succ, List.set_cons_zero]
      refine wpOrd_call rfl 129 _ _ rfl Tryz.call129 [.agg (blk F), .int .i64 2] rfl ?_
      refine (C1.out _).mono ?_
      rintro e' X2 ⟨rfl, hbx⟩
      have HD2 : Hid _ := HD1.out.call hbx
      clear hbx HD1 C1
      refine ⟨_, rfl, ⟨HD2.out.blk, HD2.out.row⟩, ?_⟩
      simp only [Act.put, List.setIfInBounds_toArray, List.set_cons_succ, List.set_cons_zero]
      refine wpOrd_call rfl 106 _ _ rfl Tryz.call106 [.agg (blk F), .int .i64 4] rfl ?_
      refine (C2.out _).mono ?_
      rintro e' X3 ⟨rfl, hbx⟩
      have HD3 : Hid _ := HD2.out.call hbx
      clear hbx HD2 C2
      refine ⟨_, rfl, ⟨HD3.out.blk, HD3.out.row⟩, ?_⟩
      simp only [Act.put, List.setIfInBounds_toArray, List.set_cons_succ, List.set_cons_zero]
      refine wpOrd_call rfl 106 _ _ rfl Tryz.call106 [.agg (blk F), .int .i64 8] rfl ?_
      refine (C3.out _).mono ?_
      rintro e' X4 ⟨rfl, hbx⟩
      have HD4 : Hid _ := HD3.out.call hbx
      clear hbx HD3 C3
      refine ⟨_, rfl, ⟨HD4.out.blk, HD4.out.row⟩, ?_⟩
      simp only [Act.put, List.setIfInBounds_toArray, List.set_cons_succ, List.set_cons_zero]
      refine wpOrd_yield (v := .agg (node16 x0 x1 x2 x3 e)) rfl (fun u _ => by unfold node16 at z27 ⊢; go_simp) ?_
      simp only [Act.put, List.setIfInBounds_toArray, List.set_cons_succ, List.set_cons_zero]
      rw [HC.out]
      refine wpOrd_stR 156 rfl _ _ rfl (w.heap.size + 1) (node16 x0 x1 x2 x3 d) _ 156 (by exact size27) (by rfl) (node_one _ _ _ _ _) rfl rfl HD4.out.res ⟨⟨(setRow_other _ _ _ _ (by have := HD4.out.far; omega)).trans HD4.out.blk, (setRow_other _ _ _ _ (by have := HD4.out.far; omega)).trans HD4.out.row⟩, ?_⟩
      refine wpOrd_nil ?_
      simp only [Act.put]
      have HRR : Hid _ := setRow_heap _ (w.heap.size + 1) _ (node16 x0 x1 x2 x3 d) 156 (0, 0) HD4.out.res
      have HBB : Hid _ := below_setRow HD4.out.bel (show w.heap.size ≤ w.heap.size + 1 by omega) (node16 x0 x1 x2 x3 d)
      generalize X4.setRow (w.heap.size + 1) (node16 x0 x1 x2 x3 d) = Y at HRR HBB ⊢
      clear HD4
      go_wp2
      exact retR Tryz.underlying156 rfl rfl (w.heap.size + 1) _ 156 (by exact size27) rfl HRR.out rfl ⟨rfl, HBB.out⟩
end Go.Proofs.YtiadlcjdpbkbkaaGreatK
/- An inode out of a shelf, and the rack's Read. -/
namespace Go.Proofs.YtiadlcjdpbkbkaaGreat
open Go.RowKit Go.Maps
/-- f from lo on. -/
def frB (f : Nat → Int) (lo : Nat) : Nat → Int := fun i => f (lo + i)
/-- The inode that the 64 bytes from lo on say. -/
def nodN (f : Nat → Int) (lo : Nat) : Array Value := Go.Proofs.YtiadlcjdpbkbkaaGreatK.decN (frB f lo)
theorem nodN_size (f : Nat → Int) (lo : Nat) : (nodN f lo).size = 16 := rfl
theorem nodN_info (f : Nat → Int) (lo : Nat) : (Tryz.prog.info? 156).map (·.size) = some (nodN f lo).size := by rw [nodN_size]; kernel_rfl
theorem nodN_one (f : Nat → Int) (lo : Nat) : (nodN f lo).all (·.oneCell') = true := Go.Proofs.YtiadlcjdpbkbkaaGreatK.node_one _ _ _ _ _
def nod0 : Array Value := Go.Proofs.YtiadlcjdpbkbkaaGreatK.node16 0 0 0 0 nought
theorem zeroNo : ∀ w, (zeroValue 156).run Tryz.prog w = .ok (.agg nod0) w := (zero_of_info (show (Tryz.prog.info? 156).map (fun i => (i.zero, i.size)) = some (some (.agg nod0), 16) by kernel_rfl)).1
theorem rowA_N (f : Nat → Int) (n : Nat) : Go.Proofs.YtiadlcjdpbkbkaaGreatK.rowA f n = rowN .u8 f n := rfl
theorem sizeByN : (Tryz.prog.info? 167).map (·.size) = some 64 := by kernel_rfl
theorem load64 {w : World} {b off : Nat} {f : Nat → Int} (h : NumsAt w .u8 b off f 64) : (Instr.loadAt 167 (.pointer (some ⟨b, off, none⟩))).run Tryz.prog w = .ok (.agg (rowN .u8 f 64)) w := by
  have hr : w.rangeAt b off (rowN .u8 f 64).toList := fun j v hv => by
    have hj : j < 64 := by
      have := (List.getElem?_eq_some_iff.1 hv).1
      rw [Array.length_toList, rowN_size] at this
      exact this
    rw [Array.getElem?_toList, rowN_get _ _ _ _ hj] at hv
    injection hv with hv
    rw [← hv]
    exact h j hj
  have := run_loadAt_mid (P := Tryz.prog) w b off 167 (rowN .u8 f 64).toList _ hr Tryz.underlying167 rfl (by rw [Array.length_toList, rowN_size]; exact sizeByN)
  rwa [Array.toArray_toList] at this
section
variable {o : Oper} {a : Act} {W : World}
theorem exec_ld64 {x : Operand} {b off : Nat} {f : Nat → Int} (ho : o.op = .load 167 x) (hx : a.eval x = .pointer (some ⟨b, off, none⟩)) (hg : NumsAt W .u8 b off f 64) : (execOp a.eval o).run Tryz.prog W = .ok (.value (.agg (rowN .u8 f 64))) W := by
  unfold execOp
  simp only [ho, hx, load64 hg, Sem.run_bind, Result.andThen_ok, Sem.run_pure]
theorem sliceBN (g off lo : Nat) (h : lo < 1024) (u : World) :
    (Instr.sliceAt 47 (.pointer (some ⟨g, off, none⟩)) (some (.int .i64 (lo : Int))) none none).run Tryz.prog u = .ok (.slice (some ⟨g, off + lo, none⟩) (1024 - lo) (1024 - lo)) u := by
  have hn : ¬ ((1024 : Nat) = lo) := by omega
  have ea : Tryz.prog.arrayLen 47 = 1024 := by kernel_rfl
  have ee : Tryz.prog.elem 47 = 5 := by kernel_rfl
  have h := run_sliceAt_array_l (P := Tryz.prog) u 47 ⟨g, off, none⟩ (by rw [ea, ee]; exact Tryz.underlying47) .i64 (lo : Int) (by omega) (by rw [ea]; omega)
  rw [h, ea, ee]
  simp [Tryz.sizeOf5, slicedAt, hn, Addr.add]
theorem exec_slBN {x y : Operand} {g off lo : Nat} (ho : o.op = .slice 47 x (some y) none none) (hx : a.eval x = .pointer (some ⟨g, off, none⟩)) (hy : a.eval y = .int .i64 (lo : Int)) (h : lo < 1024) : (execOp a.eval o).run Tryz.prog W = .ok (.value (.slice (some ⟨g, off + lo, none⟩) (1024 - lo) (1024 - lo))) W := by
  have e := sliceBN g off lo h W
  simp [execOp, ho, hx, hy, e]
theorem exec_arr {x : Operand} {p : Option Addr} {n c : Nat} (ho : o.op = .sliceToArrayPointer 167 x) (hx : a.eval x = .slice p n c) (hn : 64 ≤ n) : (execOp a.eval o).run Tryz.prog W = .ok (.value (.pointer p)) W := by
  have e := run_arrayAt (P := Tryz.prog) W 167 _ 64 p n c Tryz.underlying167 hn
  simp [execOp, ho, hx, e]
end
theorem sf_base {W : World} {g : Nat} {a b : Int} {f : Nat → Int} (h : W.heap[g]? = some (.cells (shRow a b f) 149)) : W.cell? ⟨g, 1, none⟩ = some (.int .i64 b) := by
  rw [Joins.cell_of_block h]
  rfl
theorem sf_at {W : World} {g : Nat} {a b : Int} {f : Nat → Int} (h : W.heap[g]? = some (.cells (shRow a b f) 149)) : W.cell? ⟨g, 0, none⟩ = some (.int .i64 a) := by
  rw [Joins.cell_of_block h]
  rfl
theorem sf_blk {W : World} {g : Nat} {a b : Int} {f : Nat → Int} (h : W.heap[g]? = some (.cells (shRow a b f) 149)) : NumsAt W .u8 g 2 f 1024 := fun j hj => by
  rw [Joins.cell_of_block h]
  unfold shRow shL
  rw [List.getElem?_toArray, show 2 + j = j + 1 + 1 by omega, List.getElem?_cons_succ, List.getElem?_cons_succ, Array.getElem?_toList]
  exact blk_got f j hj
theorem place_ok {W : World} {gs : Nat} {a b k : Int} {f : Nat → Int} {lo : Nat} (h : W.heap[gs]? = some (.cells (shRow a b f) 149)) (hk : (k - b) * 64 = (lo : Int)) (hl : lo ≤ 960) :
    Calls Tryz.prog 110 #[.pointer (some ⟨gs, 0, none⟩), .int .i64 k] W fun e W' => e = .returned (.int .i64 (lo : Int)) ∧ W' = W := by
  have c1 := sf_base h
  have e1 : IntKind.i64.wrap (k - b) = k - b := by rw [IntKind.wrap_i64]; omega
  have e2 : IntKind.i64.wrap ((k - b) * 64) = (lo : Int) := by rw [hk, IntKind.wrap_i64]; omega
  clear h
  go_enter Tryz.func110, Tryz.ntmps110
  go_wp2
  go_ret
  exact ⟨rfl, rfl⟩
set_option maxRecDepth 20000 in
set_option maxHeartbeats 2000000 in
theorem node_ok {W : World} {gs : Nat} {a b k : Int} {f : Nat → Int} {lo : Nat} (h : W.heap[gs]? = some (.cells (shRow a b f) 149)) (hf : Byt f) (hk : (k - b) * 64 = (lo : Int)) (hl : lo ≤ 960) :
    Calls Tryz.prog 96 #[.pointer (some ⟨gs, 0, none⟩), .int .i64 k] W fun e W' => e = .returned (.agg (nodN f lo)) ∧ Below W.heap.size W W' := by
  have zn := zeroNo
  have hb0 := below_new W (.cells nod0 156)
  have HR0 : Hid ((W.alloc (.cells nod0 156)).heap[W.heap.size]? = some (.cells nod0 156)) := heap_alloc_new _ _
  have HS0 : Hid _ := heap_kept h hb0
  have HB0 : Hid _ := hb0
  have HPl : Hid (∀ V : World, V.heap[gs]? = some (.cells (shRow a b f) 149) → Calls Tryz.prog 110 #[.pointer (some ⟨gs, 0, none⟩), .int .i64 k] V fun e W' => e = .returned (.int .i64 (lo : Int)) ∧ W' = V) := fun V hV => place_ok hV hk hl
  have HDe : Hid (∀ V : World, Calls Tryz.prog 109 #[.agg (rowN .u8 (frB f lo) 64)] V fun e w' => e = .returned (.agg (nodN f lo)) ∧ Below V.heap.size V w') := fun V => Go.Proofs.YtiadlcjdpbkbkaaGreatK.decode_any (frB f lo) V fun i => hf _
  have hgs : gs ≠ W.heap.size := by have := (Array.getElem?_eq_some_iff.1 h).1; omega
  clear h hb0 hf hk
  go_enter Tryz.func96, Tryz.ntmps96
  go_upto_region 1 with fail
  generalize W.alloc (.cells nod0 156) = V at *
  have hS : V.drew.heap[gs]? = some (.cells (shRow a b f) 149) := HS0.out
  have hR : V.drew.heap[W.heap.size]? = some (.cells nod0 156) := HR0.out
  have hB : Below W.heap.size W V.drew := HB0.out.drew
  clear HS0 HR0 HB0
  refine wp_region_ord (S := fun u => u.heap[gs]? = some (.cells (shRow a b f) 149)) [(0, true), (1, true), (2, true), (3, true), (4, true), (5, false), (6, true), (7, true), (8, true), (9, true), (10, false), (11, false)] (by kernel_rfl) rfl (by kernel_rfl) (fun d _ _ _ _ h => by cases d <;> exact h) hS ?_
  simp only [inOrd, List.getElem?_cons_zero, List.getElem?_cons_succ]
  generalize V.drew = U at *
  refine wpOrd_yield (v := .pointer (some ⟨gs, 0, none⟩)) rfl (fun u _ => exec_mv rfl rfl) ?_
  simp only [Act.put, List.setIfInBounds_toArray, List.set_cons_succ, List.set_cons_zero]
  refine wpOrd_yield (v := .pointer (some ⟨gs, 0, none⟩)) rfl (fun u _ => by go_simp) ?_
  simp only [Act.put, List.setIfInBounds_toArray, List.set_cons_succ, List.set_cons_zero]
  refine wpOrd_yield (v := .pointer (some ⟨gs, 2, none⟩)) rfl (fun u _ => by go_simp) ?_
  simp only [Act.put, List.setIfInBounds_toArray, List.set_cons_succ, List.set_cons_zero]
  refine wpOrd_yield (v := .pointer (some ⟨gs, 0, none⟩)) rfl (fun u _ => exec_mv rfl rfl) ?_
  simp only [Act.put, List.setIfInBounds_toArray, List.set_cons_succ, List.set_cons_zero]
  refine wpOrd_yield (v := .int .i64 k) rfl (fun u _ => exec_mv rfl rfl) ?_
  simp only [Act.put, List.setIfInBounds_toArray, List.set_cons_succ, List.set_cons_zero]
  refine wpOrd_call rfl 110 _ _ rfl Tryz.call110 [.pointer (some ⟨gs, 0, none⟩), .int .i64 k] rfl ?_
  refine (HPl.out U hS).mono ?_
  rintro e U2 ⟨rfl, rfl⟩
  refine ⟨_, rfl, hS, ?_⟩
  simp only [Act.put, List.setIfInBounds_toArray, List.set_cons_succ, List.set_cons_zero]
  refine wpOrd_yield (v := .slice (some ⟨gs, 2 + lo, none⟩) (1024 - lo) (1024 - lo)) rfl (fun u _ => exec_slBN rfl rfl rfl (by omega)) ?_
  simp only [Act.put, List.setIfInBounds_toArray, List.set_cons_succ, List.set_cons_zero]
  have hsz : ((1024 - lo : Nat) : Int) = 1024 - (lo : Int) := by omega
  have hm : (64 : Int) ≤ 1024 - (lo : Int) := by omega
  refine wpOrd_yield (v := .slice (some ⟨gs, 2 + lo, none⟩) 64 (1024 - lo)) rfl (fun u _ => by have := hsz; have := hm; go_simp) ?_
  simp only [Act.put, List.setIfInBounds_toArray, List.set_cons_succ, List.set_cons_zero]
  refine wpOrd_yield (v := .pointer (some ⟨gs, 2 + lo, none⟩)) rfl (fun u _ => exec_arr rfl rfl (Nat.le_refl _)) ?_
  simp only [Act.put, List.setIfInBounds_toArray, List.set_cons_succ, List.set_cons_zero]
  refine wpOrd_yield (v := .agg (rowN .u8 (frB f lo) 64)) rfl (fun u hu => exec_ld64 rfl rfl (fun j hj => by have := sf_blk hu (lo + j) (by omega); rw [show 2 + lo + j = 2 + (lo + j) by omega]; exact this)) ?_
  simp only [Act.put, List.setIfInBounds_toArray, List.set_cons_succ, List.set_cons_zero]
  refine wpOrd_call rfl 109 _ _ rfl Tryz.call109 [.agg (rowN .u8 (frB f lo) 64)] rfl ?_
  refine (HDe.out U2).mono ?_
  rintro e U1 ⟨rfl, hb1⟩
  have hS1 := heap_kept hS hb1
  have hR1 := heap_kept hR hb1
  refine ⟨_, rfl, hS1, ?_⟩
  simp only [Act.put, List.setIfInBounds_toArray, List.set_cons_succ, List.set_cons_zero]
  refine wpOrd_do (W' := U1.setRow W.heap.size (nodN f lo)) rfl (exec_stR 156 (.tmp 4) (.tmp 15) rfl W.heap.size rfl rfl hR1 (nodN_info _ _) rfl (nodN_one _ _)) (((Fr.setRow U1 W.heap.size _).block gs (Array.getElem?_eq_some_iff.1 hS1).1 hgs).trans hS1) ?_
  simp only [Act.put]
  refine wpOrd_nil ?_
  have hBl : Below W.heap.size W (U1.setRow W.heap.size (nodN f lo)) := by
    have h2 := below_next hB hb1
    exact h2.trans ((Fr.setRow U1 W.heap.size _).below (fun i hi => by omega) h2.size)
  have hRr := setRow_heap U1 W.heap.size _ (nodN f lo) _ _ hR1
  generalize U1.setRow W.heap.size (nodN f lo) = Z at hBl hRr ⊢
  clear hS1 hR1 hb1 hS hR hB HPl HDe
  have HBl : Hid _ := hBl
  have HRr : Hid _ := hRr
  clear hBl hRr
  go_wp2_with fail
  exact retR Tryz.underlying156 rfl rfl W.heap.size (nodN f lo) 156 (nodN_info _ _) rfl HRr.out rfl ⟨rfl, HBl.out⟩
end Go.Proofs.YtiadlcjdpbkbkaaGreat
/- The table of inodes gone through: the rack's each, handed each of the tally's methods. -/
namespace Go.Proofs.YtiadlcjdpbkbkaaGreat
open Go.RowKit Go.Maps
def Keeps (V V' : World) : Prop := ∀ (b : Nat) (R : Array Value), V.heap[b]? = some (.cells R 149) → V'.heap[b]? = some (.cells R 149)
def stK (r : Nat) : Nat := if r = 0 then 1 else if r = 4 then 61 else 16 * r
theorem stK_facts {r a : Nat} (h : r ≤ 3) (hA : stK r = a) : ∃ z, stK (r + 1) = z ∧ 1 ≤ a ∧ a ≤ 60 ∧ min 61 ((r : Int) * 16 + 16) = (z : Int) ∧ a < z ∧ z ≤ 61 ∧ ∀ k, a ≤ k → k < z → k / 16 = r := by
  match r, h with
  | 0, _ => obtain rfl : 1 = a := hA; exact ⟨16, rfl, by decide, by decide, by decide, by decide, by decide, fun k h1 h2 => by omega⟩
  | 1, _ => obtain rfl : 16 = a := hA; exact ⟨32, rfl, by decide, by decide, by decide, by decide, by decide, fun k h1 h2 => by omega⟩
  | 2, _ => obtain rfl : 32 = a := hA; exact ⟨48, rfl, by decide, by decide, by decide, by decide, by decide, fun k h1 h2 => by omega⟩
  | 3, _ => obtain rfl : 48 = a := hA; exact ⟨61, rfl, by decide, by decide, by decide, by decide, by decide, fun k h1 h2 => by omega⟩
section
variable {M : Int} {w W W' : World}
theorem field_geo (y : Lay) (W : World) : (Instr.field 43 (.agg (layRow y)) 0).run Tryz.prog W = .ok (.agg (geoRow y.b y.l y.i)) W := by kernel_rfl
theorem exec_geoF {o : Oper} {a : Act} {W : World} {x : Operand} {y : Lay} (ho : o.op = .field 43 x 0) (hx : a.eval x = .agg (layRow y)) : (execOp a.eval o).run Tryz.prog W = .ok (.value (.agg (geoRow y.b y.l y.i))) W := by
  have e := field_geo y W
  unfold execOp
  simp only [ho, hx, e, Sem.run_bind, Result.andThen_ok, Sem.run_pure]
theorem field_ino (b l i : Int) (W : World) : (Instr.field 41 (.agg (geoRow b l i)) 2).run Tryz.prog W = .ok (.int .i64 i) W := by kernel_rfl
theorem exec_inoF {o : Oper} {a : Act} {W : World} {x : Operand} {b l i : Int} (ho : o.op = .field 41 x 2) (hx : a.eval x = .agg (geoRow b l i)) : (execOp a.eval o).run Tryz.prog W = .ok (.value (.int .i64 i)) W := by
  have e := field_ino b l i W
  unfold execOp
  simp only [ho, hx, e, Sem.run_bind, Result.andThen_ok, Sem.run_pure]
end
set_option maxRecDepth 20000 in
set_option maxHeartbeats 1500000 in
theorem eachO_ok {W : World} {g gt n : Nat} {y : Lay} (I : Nat → Nat → World → Prop) (more : Nat → Bool) (F : Nat → Nat → Int) (Q : World → Prop)
    (hLay : Calls Tryz.prog 94 #[.pointer (some ⟨g, 0, none⟩)] W fun e W' => e = .returned (.agg (layRow y)) ∧ I 1 (n + 4) W') (hyi : y.i = 60)
    (hSh : ∀ (k q m : Nat) V, 1 ≤ k → k ≤ 60 → k / 16 = q → I k (m + 1) V → Calls Tryz.prog 95 #[.pointer (some ⟨g, 0, none⟩), .int .i64 (k : Int)] V fun e W' => e = .returned (.tuple #[.agg (shRow (33 + (q : Int)) ((q : Int) * 16) (F q)), .int .i64 0]) ∧ I k m W')
    (hLt : ∀ k m V V', I k m V → Below V.heap.size V V' → I k m V') (hF : ∀ q, Byt (F q))
    (hcl : ∀ (k q m : Nat) V, 1 ≤ k → k ≤ 60 → k / 16 = q → (∀ j, 1 ≤ j → j < k → more j = true) → I k m V → Calls Tryz.prog 79 #[.pointer (some ⟨gt, 0, none⟩), .int .i64 (k : Int), .agg (nodN (F q) (k % 16 * 64))] V fun e V' => e = .returned (.bool (more k)) ∧ I (k + 1) m V' ∧ Keeps V V')
    (hQ1 : ∀ m V, n ≤ m → (∀ j, 1 ≤ j → j < 61 → more j = true) → I 61 m V → Q V)
    (hQ2 : ∀ k m V, 1 ≤ k → k ≤ 60 → n ≤ m → more k = false → (∀ j, 1 ≤ j → j < k → more j = true) → I (k + 1) m V → Q V) :
    Calls Tryz.prog 78 #[.pointer (some ⟨g, 0, none⟩), .func (.func 79) #[.pointer (some ⟨gt, 0, none⟩)] #[]] W fun e W' => e = .returned (.int .i64 0) ∧ Q W' := by
  have zs := zeroSf
  have HSh : Hid _ := hSh
  have HLt : Hid _ := hLt
  have HCl : Hid _ := hcl
  have HQ1 : Hid _ := hQ1
  have HQ2 : Hid _ := hQ2
  have HF : Hid _ := hF
  have HyI : Hid (y.i = 60) := hyi
  clear hSh hLt hcl hQ1 hQ2 hF hyi
  go_enter Tryz.func78, Tryz.ntmps78
  go_wp2_with (go_at_call 94; fail)
  refine hLay.mono ?_
  rintro e V1 ⟨rfl, hI1⟩
  have HI1 : Hid _ := hI1
  clear hLay hI1
  have hyi := HyI.out
  go_wp2_with (first | (with_reducible refine isFdR 43 ?_; refine wpList_ex rfl (v := .agg (geoRow y.b y.l y.i)) (exec_geoF rfl rfl) ?_) | (with_reducible refine isFdR 41 ?_; refine wpList_ex rfl (v := .int .i64 60) (by rw [← hyi]; exact exec_inoF rfl rfl) ?_))
  clear hyi HyI
  go_loopw [6] (fun s6 wx => ∃ r a : Nat, r ≤ 4 ∧ s6 = .int .i64 (a : Int) ∧ Hid (stK r = a) ∧ Hid (I a (n + (4 - r)) wx ∧ ∀ j, 1 ≤ j → j < a → more j = true)) (fun s6 _ => 61 - (intOf s6).toNat)
  case atStart => exact ⟨0, 1, by omega, rfl, rfl, HI1.out, fun j h1 h2 => by omega⟩
  case round =>
    obtain ⟨r, a, hr, rfl, HA, HI⟩ := hrel
    by_cases hr4 : r = 4
    · subst hr4
      obtain rfl : 61 = a := HA.out
      have hq : Q wr := HQ1.out _ wr (Nat.le_add_right n (4 - 4)) HI.out.2 HI.out.1
      have HQ : Hid _ := hq
      rw [show ((61 : Nat) : Int) = 61 from rfl]
      clear HI hq HCl HSh HLt HQ1 HQ2
      go_wp2
      go_ret
      exact ⟨rfl, HQ.out⟩
    · obtain ⟨z, hZ, ha1, ha2, he, hae, hz61, hdv⟩ := stK_facts (show r ≤ 3 by omega) HA.out
      have hb4 : n + (4 - r) = (n + (3 - r)) + 1 := by omega
      have hIr := HI.out.1
      rw [hb4] at hIr
      have hsh := HSh.out a r (n + (3 - r)) wr ha1 ha2 (hdv a (Nat.le_refl _) hae) hIr
      have HMr : Hid _ := HI.out.2
      have HE : Hid (min 61 ((r : Int) * 16 + 16) = (z : Int)) := he
      have HZ : Hid (stK (r + 1) = z) := hZ
      have hrb : r ≤ 3 := by omega
      have HDv : Hid _ := hdv
      have HA1 : Hid (1 ≤ a) := ha1
      have HA2 : Hid (z ≤ 61) := hz61
      have HAE : Hid (a < z) := hae
      have t1 : decide ((a : Int) ≤ 60) = true := decide_eq_true (by omega)
      clear HI hIr HI1 he hZ hdv ha1 hae hz61 HA
      go_wp2_with (go_at_call 95; fail)
      refine hsh.mono ?_
      rintro e V2 ⟨rfl, hI2⟩
      have HI3 : Hid _ := HLt.out _ _ _ _ hI2 (below_new V2 (.cells (shRow (33 + (r : Int)) ((r : Int) * 16) (F r)) 149))
      have HS3 : Hid ((V2.alloc (.cells (shRow (33 + (r : Int)) ((r : Int) * 16) (F r)) 149)).heap[V2.heap.size]? = some (.cells (shRow (33 + (r : Int)) ((r : Int) * 16) (F r)) 149)) := heap_alloc_new _ _
      clear hsh hI2 t1
      go_upto_region 5 with (first | (with_reducible refine isStoreR 149 ?_; refine wpList_stNew 149 rfl (.tmp 7) (.tmp 21) rfl V2.heap.size (shRow (33 + (r : Int)) ((r : Int) * 16) (F r)) (shRow 0 0 nought) 149 (sf_info _ _ _) (sh_two _ _ _ _ _ _) (sh_one _ _ _) rfl rfl rfl ?_))
      generalize V2.alloc (.cells (shRow (33 + (r : Int)) ((r : Int) * 16) (F r)) 149) = V3 at *
      generalize V2.heap.size = gs at *
      have cb := sf_base HS3.out
      have e1 : IntKind.i64.wrap ((r : Int) * 16 + 16) = (r : Int) * 16 + 16 := by rw [IntKind.wrap_i64]; omega
      have e2 := HE.out
      go_wp2
      clear cb e1 e2
      go_loopw [6] (fun s6 wx => ∃ k : Nat, a ≤ k ∧ k ≤ z ∧ s6 = .int .i64 (k : Int) ∧ Hid (I k (n + (3 - r)) wx ∧ wx.heap[gs]? = some (.cells (shRow (33 + (r : Int)) ((r : Int) * 16) (F r)) 149) ∧ ∀ j, 1 ≤ j → j < k → more j = true)) (fun s6 _ => z - (intOf s6).toNat)
      case atStart => exact ⟨a, Nat.le_refl _, Nat.le_of_lt HAE.out, rfl, HI3.out, HS3.out, HMr.out⟩
      case round =>
        obtain ⟨k, hk1, hk2, rfl, HJ⟩ := hrel
        by_cases hkz : k < z
        · have hkq : k / 16 = r := HDv.out k hk1 hkz
          have hk60 : k ≤ 60 := by have := HA2.out; omega
          have hk11 : 1 ≤ k := Nat.le_trans HA1.out hk1
          have hnd := node_ok (k := (k : Int)) (lo := k % 16 * 64) HJ.out.2.1 (HF.out r) (by omega) (by omega)
          have t2 : decide ((k : Int) < (z : Int)) = true := decide_eq_true (by omega)
          have HJ' : Hid _ := HJ.out
          clear HJ
          go_wp2_with (go_at_call 96; fail)
          refine hnd.mono ?_
          rintro e V4 ⟨rfl, hb4⟩
          have hI4 := HLt.out _ _ _ _ HJ'.out.1 hb4
          have hS4 := heap_kept HJ'.out.2.1 hb4
          have HM4 : Hid _ := HJ'.out.2.2
          have hc := HCl.out k r (n + (3 - r)) V4 hk11 hk60 hkq HM4.out hI4
          have HS4 : Hid _ := hS4
          clear hnd hb4 HJ' hI4 hS4
          cases hm : more k
          · rw [hm] at hc
            go_wp2_with (go_at_call 79; fail)
            refine hc.mono ?_
            rintro e V5 ⟨rfl, hI5, _⟩
            have hq : Q V5 := HQ2.out k (n + (3 - r)) V5 hk11 hk60 (Nat.le_add_right _ _) hm HM4.out hI5
            have HQ : Hid _ := hq
            clear hc hI5 hq
            go_wp2
            go_ret
            exact ⟨rfl, HQ.out⟩
          · rw [hm] at hc
            go_wp2_with (go_at_call 79; fail)
            refine hc.mono ?_
            rintro e V5 ⟨rfl, hI5, hKp⟩
            have HN : Hid (I (k + 1) (n + (3 - r)) V5 ∧ V5.heap[gs]? = some (.cells (shRow (33 + (r : Int)) ((r : Int) * 16) (F r)) 149) ∧ ∀ j, 1 ≤ j → j < k + 1 → more j = true) := ⟨hI5, hKp _ _ HS4.out, fun j h1 h2 => by
              rcases Nat.lt_or_ge j k with q | q
              · exact HM4.out j h1 q
              · rw [show j = k by omega]; exact hm⟩
            have e3 : IntKind.i64.wrap ((k : Int) + 1) = ((k + 1 : Nat) : Int) := by rw [IntKind.wrap_i64]; omega
            clear hc hI5 hKp
            go_wp2
            exact ⟨⟨k + 1, by omega, by omega, rfl, HN.out⟩, by simp [intOf]; omega⟩
        · obtain rfl : k = z := by omega
          have t2 : decide ((k : Int) < (k : Int)) = false := decide_eq_false (by omega)
          have HN : Hid (I k (n + (4 - (r + 1))) wr ∧ ∀ j, 1 ≤ j → j < k → more j = true) := by
            rw [show 4 - (r + 1) = 3 - r by omega]
            exact ⟨HJ.out.1, HJ.out.2.2⟩
          clear HJ
          go_wp2
          have hz61 := HA2.out
          have haz := HAE.out
          exact ⟨⟨r + 1, k, by omega, rfl, HZ.out, HN.out⟩, by simp [intOf]; omega⟩
theorem nd_info (k l s b : Int) (d : Nat → Int) : (Tryz.prog.info? 156).map (·.size) = some (Go.Proofs.YtiadlcjdpbkbkaaGreatK.node16 k l s b d).size := by show _ = some 16; kernel_rfl
theorem nd_two (k l s b k' l' s' b' : Int) (d d' : Nat → Int) : (Go.Proofs.YtiadlcjdpbkbkaaGreatK.node16 k l s b d).size = (Go.Proofs.YtiadlcjdpbkbkaaGreatK.node16 k' l' s' b' d').size := rfl
theorem nd_one (k l s b : Int) (d : Nat → Int) : (Go.Proofs.YtiadlcjdpbkbkaaGreatK.node16 k l s b d).all (·.oneCell') = true := Go.Proofs.YtiadlcjdpbkbkaaGreatK.node_one _ _ _ _ _
theorem nod0_info : (Tryz.prog.info? 156).map (·.size) = some nod0.size := nd_info _ _ _ _ _
theorem nod0_one : nod0.all (·.oneCell') = true := nd_one _ _ _ _ _
theorem build0Nd (u : World) : (Instr.build 156 #[]).run Tryz.prog u = .ok (.agg nod0) u := by
  have z := zeroNo
  generalize nod0 = Z at *
  simp [Instr.build, z, run_underlying Tryz.underlying156, Instr.fill, Value.cells, go_sem]
theorem exec_build0Nd {o : Oper} {a : Act} {W : World} (ho : o.op = .build 156 #[]) : (execOp a.eval o).run Tryz.prog W = .ok (.value (.agg nod0)) W := by
  have e := build0Nd W
  generalize nod0 = Z at *
  simp [execOp, ho, e]
theorem isFree_ok (k l s b : Int) (e : Nat → Int) (V : World) : Calls Tryz.prog 97 #[.agg (Go.Proofs.YtiadlcjdpbkbkaaGreatK.node16 k l s b e)] V fun r V' => r = .returned (.bool (k == 0)) ∧ Below V.heap.size V V' := by
  have hb := below_new V (.cells (Go.Proofs.YtiadlcjdpbkbkaaGreatK.node16 k l s b e) 156)
  have hr := heap_alloc_new V (.cells (Go.Proofs.YtiadlcjdpbkbkaaGreatK.node16 k l s b e) 156)
  have c0 : (V.alloc (.cells (Go.Proofs.YtiadlcjdpbkbkaaGreatK.node16 k l s b e) 156)).cell? ⟨V.heap.size, 0, none⟩ = some (.int .u16 k) := Joins.cell_of_block hr 0
  have HB : Hid _ := hb
  clear hb hr
  generalize Go.Proofs.YtiadlcjdpbkbkaaGreatK.node16 k l s b e = N at *
  go_enter Tryz.func97, Tryz.ntmps97
  go_wp2
  go_ret
  exact ⟨rfl, HB.out⟩
def tlRow (c f : Int) (v : Value) : Array Value := #[.int .i64 c, .int .i64 f, v]
theorem zeroTl : ∀ w, (zeroValue 127).run Tryz.prog w = .ok (.agg (tlRow 0 0 (.slice none 0 0))) w := (zero_of_info (show (Tryz.prog.info? 127).map (fun i => (i.zero, i.size)) = some (some (.agg (tlRow 0 0 (.slice none 0 0))), 3) by kernel_rfl)).1
theorem keeps_of {V V' : World} {gt : Nat} {c f : Int} {v : Value} (h : V.heap[gt]? = some (.cells (tlRow c f v) 127)) (hf : Fr (fun k => k = gt) V V') : Keeps V V' := fun b R hb => by
  have hne : b ≠ gt := by
    rintro rfl
    rw [hb] at h
    have := Option.some.inj h
    simp at this
  exact (hf.block b (Array.getElem?_eq_some_iff.1 hb).1 hne).trans hb
def BkB (book : Int → Nat → Int) : Prop := ∀ k, Byt (book k)
def kdP (book : Int → Nat → Int) (k : Nat) : Int := Go.Proofs.YtiadlcjdpbkbkaaGreatK.numN (frB (book (33 + ((k / 16 : Nat) : Int))) (k % 16 * 64)) 0 2
def lkP (book : Int → Nat → Int) (k : Nat) : Int := Go.Proofs.YtiadlcjdpbkbkaaGreatK.numN (frB (book (33 + ((k / 16 : Nat) : Int))) (k % 16 * 64)) 2 2
set_option maxHeartbeats 1600000 in
theorem listOrphan_no {V : World} {gt : Nat} (i k l s b : Int) (e : Nat → Int) (hno : k = 0 ∨ l ≠ 0) :
    Calls Tryz.prog 79 #[.pointer (some ⟨gt, 0, none⟩), .int .i64 i, .agg (Go.Proofs.YtiadlcjdpbkbkaaGreatK.node16 k l s b e)] V fun r V' => r = .returned (.bool true) ∧ Below V.heap.size V V' := by
  have hb := below_new V (.cells (Go.Proofs.YtiadlcjdpbkbkaaGreatK.node16 k l s b e) 156)
  have hr := heap_alloc_new V (.cells (Go.Proofs.YtiadlcjdpbkbkaaGreatK.node16 k l s b e) 156)
  have hif := isFree_ok k l s b e (V.alloc (.cells (Go.Proofs.YtiadlcjdpbkbkaaGreatK.node16 k l s b e) 156))
  have HLk : Hid (∀ U : World, U.heap[V.heap.size]? = some (.cells (Go.Proofs.YtiadlcjdpbkbkaaGreatK.node16 k l s b e) 156) → U.cell? ⟨V.heap.size, 1, none⟩ = some (.int .u16 l)) := fun U hU => Joins.cell_of_block hU 1
  have HB : Hid _ := hb
  have HR : Hid _ := hr
  have HI : Hid _ := nd_info k l s b e
  clear hb hr
  generalize Go.Proofs.YtiadlcjdpbkbkaaGreatK.node16 k l s b e = N at *
  go_enter Tryz.func79, Tryz.ntmps79
  go_upto_region 1 with fail
  generalize V.alloc (.cells N 156) = V1 at *
  go_wp2_with (first | (with_reducible refine isLoadR 156 ?_; refine wpList_ldR 156 Tryz.underlying156 rfl rfl (.tmp 5) rfl V.heap.size rfl N 156 (0, 0) HI.out HR.out ?_) | (go_at_call 97; fail))
  refine hif.mono ?_
  rintro r V2 ⟨rfl, hb2⟩
  have c1 := HLk.out V2 (heap_kept HR.out hb2)
  have HB2 : Hid _ := below_next HB.out hb2
  clear hif hb2 HR HB
  by_cases hk : k = 0
  · subst hk
    go_wp2
    go_ret
    exact ⟨rfl, HB2.out⟩
  · have hkb : (k == 0) = false := beq_eq_false_iff_ne.2 hk
    have hlb : (l == 0) = false := beq_eq_false_iff_ne.2 (by rcases hno with q | q; exact absurd q hk; exact q)
    go_wp2
    go_ret
    exact ⟨rfl, HB2.out⟩
end Go.Proofs.YtiadlcjdpbkbkaaGreat
/- The rack's Orphans over a log that lives, where no inode is one; orphan's ready, each and All there. -/
namespace Go.Proofs.YtiadlcjdpbkbkaaGreat
open Go.RowKit Go.Maps
theorem keeps_below {V V' : World} (h : Below V.heap.size V V') : Keeps V V' := fun _ _ hb => heap_kept hb h
section
variable {M : Int} {w W W' : World} {g d n : Nat} {x x1 : Go.Proofs.YtiadlcjdpbkbkaaGreatD.LSt} {book book1 : Int → Nat → Int} {ks ks' : List (Nat × Obj)}
set_option maxRecDepth 20000 in
set_option maxHeartbeats 3200000 in
theorem RLog.orphans0 (h : RLog M w W g d x book (n + 4) ks) (hg : Ge x) (hbk : BkB book) (hno : ∀ j, 1 ≤ j → j ≤ 60 → kdP book j = 0 ∨ lkP book j ≠ 0) :
    Calls Tryz.prog 60 #[.pointer (some ⟨g, 0, none⟩)] W fun e W' => e = .returned (.tuple #[.slice none 0 0, .int .i64 0]) ∧ RLog M w W' g d x book n ks := by
  have zt := zeroTl
  have hmf : ∀ (fn : Fn) (first cap : Array Value) (w : World), (Instr.makeFunc fn first cap).run Tryz.prog w = .ok (.func fn first cap) w := fun _ _ _ _ => rfl
  have hck := h.check
  have HEa : Hid (∀ (V : World) gt, w.heap.size ≤ gt → (∀ p ∈ ks, p.1 ≠ gt) → RLog M w V g d x book (n + 4) ((gt, .cells (tlRow 0 0 (.slice none 0 0)) 127) :: ks) → Calls Tryz.prog 78 #[.pointer (some ⟨g, 0, none⟩), .func (.func 79) #[.pointer (some ⟨gt, 0, none⟩)] #[]] V fun e W' => e = .returned (.int .i64 0) ∧ RLog M w W' g d x book n ((gt, .cells (tlRow 0 0 (.slice none 0 0)) 127) :: ks)) := by
    intro V gt hgt hne hV
    refine eachO_ok (n := n) (y := layL x) (fun _ m U => RLog M w U g d x book m ((gt, .cells (tlRow 0 0 (.slice none 0 0)) 127) :: ks)) (fun _ => true) (fun q => book (33 + (q : Int))) _ ?_ hg.i ?_ ?_ (fun q => hbk _) ?_ ?_ ?_
    · exact hV.layout
    · intro k q m U hk1 hk2 hq hU
      exact hU.shelfOf hg k q ⟨hk1, hk2⟩ hq
    · intro k m U U' hU hbl
      exact hU.later hbl
    · intro k q m U hk1 hk2 hq _ hU
      subst hq
      refine (listOrphan_no (gt := gt) (k : Int) _ _ _ _ _ (hno k hk1 hk2)).mono ?_
      rintro r U' ⟨rfl, hb1⟩
      exact ⟨rfl, hU.later hb1, keeps_below hb1⟩
    · intro m U hm _ hU
      exact hU.less hm
    · intro k m U _ _ _ hf
      cases hf
  clear h hg hbk hno
  go_enter Tryz.func60, Tryz.ntmps60
  go_wp2_with (go_at_call 20; fail)
  refine hck.mono ?_
  rintro e V1 ⟨rfl, hL1⟩
  have hea := HEa.out _ V1.heap.size hL1.below.size hL1.ksLt (hL1.add (.cells (tlRow 0 0 (.slice none 0 0)) 127))
  clear hck hL1 HEa
  go_upto_region 5 with fail
  generalize V1.alloc (.cells (tlRow 0 0 (.slice none 0 0)) 127) = V2 at *
  generalize V1.heap.size = gt at *
  go_wp2_with (go_at_call 78; fail)
  refine hea.mono ?_
  rintro e V3 ⟨rfl, hL3⟩
  have c2 : V3.cell? ⟨gt, 2, none⟩ = some (.slice none 0 0) := Joins.cell_of_block (hL3.obj (List.mem_cons_self ..)) 2
  have HL : Hid _ := hL3.drop (ks' := ks) fun p hp => List.mem_cons_of_mem _ hp
  clear hea hL3
  go_wp2
  exact bodyPost_ret (results_tmp2 rfl _ _ _) rfl ⟨rfl, HL.out⟩
set_option maxHeartbeats 800000 in
theorem RLog.ready (h : RLog M w W g d x book n ks) (ho : x.opn = false) :
    Calls Tryz.prog 59 #[.pointer (some ⟨g, 0, none⟩)] W fun e W' => e = .returned (.int .i64 0) ∧ RLog M w W' g d x book n ks := by
  have hck := h.check
  have HOp : Hid (∀ V, RLog M w V g d x book n ks → Calls Tryz.prog 77 #[.pointer (some ⟨g, 0, none⟩)] V fun e W' => e = .returned (.bool false) ∧ RLog M w W' g d x book n ks) := fun V hV => by rw [← ho]; exact hV.open
  clear h ho
  go_enter Tryz.func59, Tryz.ntmps59
  go_wp2_with (go_at_call 20; fail)
  refine hck.mono ?_
  rintro e V1 ⟨rfl, hL1⟩
  have hop := HOp.out V1 hL1
  clear hck hL1 HOp
  go_wp2_with (go_at_call 77; fail)
  refine hop.mono ?_
  rintro e V2 ⟨rfl, hL2⟩
  have HL : Hid _ := hL2
  clear hop hL2
  go_wp2
  go_ret
  exact ⟨rfl, HL.out⟩
set_option maxHeartbeats 800000 in
theorem eachP_none (v f : Value) (W : World) : Calls Tryz.prog 61 #[v, .slice none 0 0, f] W fun e W' => e = .returned (.int .i64 0) ∧ W' = W := by
  go_enter Tryz.func61, Tryz.ntmps61
  go_wp2
  go_loop [12] (fun i => i = .int .i64 0) (fun _ => 0)
  case atStart => exact rfl
  case round =>
    subst hrel
    go_wp2
    go_ret
    exact ⟨rfl, rfl⟩
set_option maxHeartbeats 1600000 in
theorem RLog.allNone (h : RLog M w W g d x book (n + 4) ks) (ho : x.opn = false) (hg : Ge x) (hbk : BkB book) (hno : ∀ j, 1 ≤ j → j ≤ 60 → kdP book j = 0 ∨ lkP book j ≠ 0) :
    Calls Tryz.prog 29 #[.pointer (some ⟨g, 0, none⟩)] W fun e W' => e = .returned (.tuple #[.int .i64 0, .int .i64 0]) ∧ RLog M w W' g d x book n ks := by
  have hrd := h.ready ho
  have HOr : Hid (∀ V, RLog M w V g d x book (n + 4) ks → Calls Tryz.prog 60 #[.pointer (some ⟨g, 0, none⟩)] V fun e W' => e = .returned (.tuple #[.slice none 0 0, .int .i64 0]) ∧ RLog M w W' g d x book n ks) := fun V hV => hV.orphans0 hg hbk hno
  clear h ho hg hbk hno
  go_enter Tryz.func29, Tryz.ntmps29
  go_wp2_with (go_at_call 59; fail)
  refine hrd.mono ?_
  rintro e V1 ⟨rfl, hL1⟩
  have hor := HOr.out V1 hL1
  clear hrd hL1 HOr
  go_wp2_with (go_at_call 60; fail)
  refine hor.mono ?_
  rintro e V2 ⟨rfl, hL2⟩
  have HL : Hid _ := hL2
  clear hor hL2
  go_wp2_with (first | (go_at_call 61; refine (eachP_none _ _ _).mono ?_; rintro e V3 ⟨rfl, rfl⟩))
  exact bodyPost_ret (results_tmp2 rfl _ _ _) rfl ⟨rfl, HL.out⟩
end
end Go.Proofs.YtiadlcjdpbkbkaaGreat

/- The law's own function fresh: a log on a disk of noughts; for every geometry that may be. -/
namespace Go.Proofs.YtiadlcjdpbkbkaaGreatD
open Go.RowKit Go.Maps
theorem ret4 {fn : Func} {p q r u : Tmp} {ty : TypeId} {R : Ending → World → Prop} {a : Act} {w : World} (h : fn.results = #[.tmp p, .tmp q, .cell r ty, .tmp u]) (g : Nat) (cs : Array Value)
    (hp : a.tmps.getD r undef = .pointer (some ⟨g, 0, none⟩)) (hl : (loadVar ty ⟨g, 0, none⟩).run Tryz.prog w = .ok (.agg cs) w)
    (hdf : a.defers = []) (hR : R (.returned (.tuple #[a.tmps.getD p undef, a.tmps.getD q undef, .agg cs, a.tmps.getD u undef])) w) : bodyPost Tryz.prog fn R .ret a w := by
  refine bodyPost_ret ?_ hdf hR
  generalize a.tmps = T at *
  simp only [Array.getD_eq_getD_getElem?] at hp
  simp [results, h, hp, asAddr, hl]
theorem exec_storeL {a : Act} {o : Oper} {u : World} {x y : Operand} (ho : o.op = .store 43 x y) (g : Nat) (cs c0 : Array Value) (hs : cs.size = 9) (hs0 : c0.size = 9) (h1 : cs.all (·.oneCell') = true) (hx : a.eval x = .pointer (some ⟨g, 0, none⟩)) (hy : a.eval y = .agg cs) (hg : u.heap[g]? = some (.cells c0 43)) :
    (execOp a.eval o).run Tryz.prog u = .ok .skip (u.setRow g cs) := by
  have hz : (Tryz.prog.info? 43).map (·.size) = some cs.size := by rw [hs]; exact H.size25L
  unfold execOp
  simp only [ho, hx, hy, Instr.storeAt, Instr.sureAddr, Sem.run_bind, Sem.run_pure, Result.andThen_ok, run_storeVar_row u g 43 43 c0 cs hg hz (by rw [hs, hs0]) h1]
theorem newV_ops (n : Int) : (newV n).ops = [] := rfl
theorem rm_new (n : Int) : Rm (newV n) 3 := by
  refine ⟨?_, ?_, ?_, ?_⟩
  · rw [newV_ops]; decide
  · show (0 : Int) + 3 < _; omega
  · show (0 : Int) + 3 < _; omega
  · show (0 : Int) + 3 < _; omega
theorem layA_one (b l i : Int) : (layA b l i).all (·.oneCell') = true := H.lay_one _ _ _ _ _ _ _ _ _
/-- A block beside is written, and let go. -/
theorem LS.outside {w W W' : World} {g d c mb : Nat} {v : Value} {x : LSt} {s : CSt} {t : St} {os ks : List (Nat × Obj)} {q : Nat} (h : LS w W g d c mb v x s t os ks) (hf : Fr (fun k => k = q) W W') (hq : w.heap.size ≤ q) (hm : ∃ o, (q, o) ∈ ks) : LogSit w W' g d x s t [] := by
  obtain ⟨o, ho⟩ := hm
  have hne : ∀ k, LHas g mb v k → k ≠ q := fun k hk e => h.ap _ ho (by rw [← e]; exact hk)
  have hk : ∀ k, LHas g mb v k → W'.heap[k]? = W.heap[k]? := fun k hk => hf.block k (h.log.lt k hk) (hne k hk)
  have hne2 : ∀ p ∈ os, LHas g mb v p.1 → W'.heap[p.1]? = some p.2 := fun p hp hl => by
    rw [hk p.1 hl]
    exact h.sit.blk (List.mem_append.2 (.inl hp))
  refine ⟨c, mb, v, os.filter (fun p => decide (p.1 ≠ q)), h.sit.turn hf (fun k e => by subst e; exact ⟨hq, o, List.mem_append.2 (.inr ho)⟩) fun p hp => ?_, h.log.kept hk, fun k hk2 => ?_, fun p hp => by simp at hp⟩
  · rw [List.append_nil] at hp
    obtain ⟨hp1, hp2⟩ := List.mem_filter.1 hp
    have hp3 : p.1 ≠ q := by simpa using hp2
    have hb := h.sit.blk (List.mem_append.2 (.inl hp1) : (p.1, p.2) ∈ os ++ ks)
    exact ⟨(hf.block p.1 (Array.getElem?_eq_some_iff.1 hb).1 hp3).trans hb, .inl ⟨p.2, List.mem_append.2 (.inl hp1)⟩⟩
  · obtain ⟨h1, o2, ho2⟩ := h.own k hk2
    exact ⟨h1, o2, List.mem_filter.2 ⟨ho2, by simpa using hne k hk2⟩⟩
/-- The disk that a fresh log stands on. -/
def freshT (b : Int) : St := claimV (readS (newV b))
end Go.Proofs.YtiadlcjdpbkbkaaGreatD
/- Begin that commits; the disk's fuse under a log; what is left of a log whose power went; no condition but that numbers do not pass their greatest. -/
namespace Go.Proofs.YtiadlcjdpbkbkaaGreatD
open Go.RowKit Go.Maps
variable {w W : World} {g d c mb : Nat} {v : Value} {x : LSt} {s : CSt} {t : St} {os ks : List (Nat × Obj)} {base : Nat} {book : Int → Nat → Int}
/-- What a Begin leaves that commits first. -/
def BgPost (w : World) (g d : Nat) (x : LSt) (r : Int) (t : St) (book : Int → Nat → Int) (ks : List (Nat × Obj)) (e : Ending) (W' : World) : Prop :=
  e = .returned (.int .i64 (runE (cmtOps x book) t)) ∧ (∃ x' s', LogSit w W' g d x' s' (runV (cmtOps x book) t) ks ∧ x'.claim = x.claim) ∧ (runE (cmtOps x book) t = 0 → LogI w W' g d { forgotL x with commits := x.commits + 1, opn := true, room := r } (runV (cmtOps x book) t) book ks)
set_option maxHeartbeats 1600000 in
theorem LogI.beginOver (h : LogI w W g d x t book ks) {r : Int} (hr : refL x t false = 0) (hr1 : 1 ≤ r) (hr2 : r ≤ x.l - 1) (hr3 : x.l - 1 < (x.blocks.length : Int) + r) (hrm : Rm t (2 * x.blocks.length + 12)) (hcm : x.commits < 1099511627776) : Calls Tryz.prog 16 #[ptr g, .int .i64 r] W (BgPost w g d x r t book ks) := by
  obtain ⟨s, ⟨c, mb, v, os, h⟩, hI⟩ := h
  have hl : 32 ≤ x.l ∧ x.l ≤ 256 := ⟨hI.fine.1, hI.fine.2.1⟩
  have hlen := hI.len
  have hc : Calls Tryz.prog 40 #[ptr g, .bool false] W fun e W' => e = .returned (.int .i64 0) ∧ Bg1 W' g (x.l - 1) x.blocks.length ∧ Hid (∀ k, Calls Tryz.prog 42 #[ptr g] (W'.drewN k) (CmtPost w g d x t book ks)) := by
    refine (h.refuses2 false).mono ?_
    rintro e W' ⟨rfl, h1⟩
    exact ⟨by rw [hr], h1.bg1 hl, fun k => (h1.later (below_drewN _ k)).commit hI (claimed_live (refL_live hr).1) hrm hcm⟩
  have HO : Hid (∀ W', LogI w W' g d { forgotL x with commits := x.commits + 1 } (runV (cmtOps x book) t) book ks → LogI w ((W'.setCell ⟨g, 15, none⟩ (.bool true)).setCell ⟨g, 16, none⟩ (.int .i64 r)) g d { forgotL x with commits := x.commits + 1, opn := true, room := r } (runV (cmtOps x book) t) book ks) := fun W' h1 => h1.opened ⟨hr1, by show ((0 : Nat) : Int) + r ≤ x.l - 1; omega⟩
  clear h hr hI hrm
  unfold ptr at *
  generalize hm : x.l - 1 = m at *
  generalize hn : x.blocks.length = n at *
  have hn2 : n ≤ 256 := by omega
  have h1 : ¬ r < 1 := by omega
  have h2 : ¬ m < r := by omega
  have h3 : m < (n : Int) + r := by omega
  go_enter Tryz.func16, Tryz.ntmps16
  go_wp2_with (go_at_call 40; fail)
  refine hc.mono ?_
  rintro e W1 ⟨rfl, ⟨⟨p, cp, c13⟩, hmo, hm0⟩, HC⟩
  go_wp2_with (first | (go_at_call 41; refine hm0.mono ?_; rintro e W2 ⟨rfl, rfl⟩))
  go_quiet (first | (go_at_call 41; refine Calls.quiet_of_same (hmo _)))
  have HC2 := Hid.mk' (HC.out nq)
  clear hmo hm0 HC c13 hc
  go_wp2_with (go_at_call 42; fail)
  refine HC2.out.mono ?_
  rintro e W3 ⟨rfl, h4, h5⟩
  have H4 := Hid.mk' h4
  have H5 := Hid.mk' h5
  clear h4 h5 HC2
  by_cases hE : runE (cmtOps x book) t = 0
  · obtain ⟨s, h6, _⟩ := H5.out hE
    obtain ⟨c15, f15, c16, f16⟩ := h6.c1516
    have H6 := Hid.mk' (HO.out W3 (H5.out hE))
    have HE := Hid.mk' hE
    rw [hE]
    clear h6 hE H4 H5
    go_wp2
    go_ret
    refine ⟨congrArg (fun z => Ending.returned (.int .i64 z)) HE.out.symm, ?_, fun _ => H6.out⟩
    obtain ⟨s', q, _⟩ := H6.out
    exact ⟨_, s', q, rfl⟩
  · have HE := Hid.mk' hE
    generalize hGE : runE (cmtOps x book) t = E at *
    have HG := Hid.mk' hGE
    clear hGE
    go_wp2
    go_ret
    exact ⟨congrArg (fun z => Ending.returned (.int .i64 z)) HG.out.symm, H4.out, fun q => absurd (HG.out.symm.trans q) HE.out⟩
theorem cur_fuse (n : Int) : curV (fuseV t n) = curV t ∧ (fuseV t n).n = t.n := by
  unfold fuseV
  split <;> exact ⟨rfl, rfl⟩
/-- The log's row beside its disk. -/
theorem LogSit.toSits (h : LogSit w W g d x s t ks) : ∃ c mb v, Sits w W d t ((g, .cells (lgRow g d c mb v x) 85) :: ks) := by
  obtain ⟨c, mb, v, os, h⟩ := h
  obtain ⟨K, L, hc, hd, h0⟩ := h.sit
  refine ⟨c, mb, v, L, hd, h0.cd.disk, h0.newL, h0.below, fun p hp => ?_⟩
  rcases List.mem_cons.1 hp with rfl | hp
  · refine ⟨h.log.row, fun q => ?_⟩
    obtain ⟨_, o, ho⟩ := h.own g (.inl rfl)
    exact (h0.keep _ (List.mem_append.2 (.inl ho))).2.2 q
  · obtain ⟨a1, _, a3⟩ := h0.keep p (List.mem_append.2 (.inr hp))
    exact ⟨a1, a3⟩
theorem sits_claimed2 (h : Sits w W d t ks) (k : Int) : Calls Tryz.prog 43 #[.pointer (some ⟨d, 0, none⟩), .int .i64 k] W fun e W' => e = .returned (.bool (claimedV t k)) ∧ W' = W := by
  obtain ⟨L, rfl, hS⟩ := h
  exact claimed_of hS.disk k
/-- A dead log, beside its disk. -/
theorem dead_check (h : Sits w W d t ks) (hm : (g, .cells (lgRow g d c mb v x) 85) ∈ ks) (hd : claimedV t x.claim = false) : Calls Tryz.prog 20 #[ptr g] W fun e W' => e = .returned (.int .i64 3) ∧ ∃ m, W' = W.drewN m := by
  have hn := neq26
  have hrow := h.blk hm
  have c0 : W.cell? ⟨g, 0, none⟩ = some (ptr g) := Joins.cell_of_block hrow 0
  have c1 : W.cell? ⟨g, 1, none⟩ = some (ptr d) := Joins.cell_of_block hrow 1
  have c2 : W.cell? ⟨g, 2, none⟩ = some (.int .i64 x.claim) := Joins.cell_of_block hrow 2
  have hq : ∀ n, Calls Tryz.prog 43 #[ptr d, .int .i64 x.claim] (W.drewN n) fun e W' => e = .returned (.bool false) ∧ W' = W.drewN n := fun n => by
    have := sits_claimed2 (h.later (below_drewN W n)) x.claim
    rw [hd] at this
    exact this
  clear h hrow hd
  unfold ptr at *
  go_enter Tryz.func20, Tryz.ntmps20
  go_wp2
  go_quiet (first | (go_at_call 43; refine Calls.quiet_of_same (hq _)))
  go_wp2
  go_ret
  exact ⟨rfl, _, rfl⟩
end Go.Proofs.YtiadlcjdpbkbkaaGreatD
/- Recovery: blocks moved out of the log; no condition but that numbers do not pass their greatest. -/
namespace Go.Proofs.YtiadlcjdpbkbkaaGreatD
open Go.RowKit Go.Maps
variable {w W : World} {g d c mb : Nat} {v : Value} {x : LSt} {s : CSt} {t : St} {os ks : List (Nat × Obj)} {base : Nat} {book : Int → Nat → Int}
theorem Sits.addNew {W' : World} {q : Nat} {o : Obj} (h : Sits w W d t ks) (hb : Below W.heap.size W W') (hq : W.heap.size ≤ q) (ho : W'.heap[q]? = some o) : Sits w W' d t ((q, o) :: ks) := by
  obtain ⟨L, hd, h⟩ := h
  have h2 := h.goes (h.disk.later hb) (Goes.ofBelow L hb)
  refine ⟨L, hd, h2.disk, h2.new, h2.below, fun p hp => ?_⟩
  rcases List.mem_cons.1 hp with rfl | hp
  · exact ⟨ho, fun q2 => by have := h.disk.lt _ q2; simp only at this; omega⟩
  · exact h2.keep p hp
set_option maxRecDepth 20000 in
set_option maxHeartbeats 1600000 in
theorem committed_at {b l i : Int} (h : Sits w W d t ks) (hf : H.Fine b l i) (hn : b ≤ t.n) (hs : t.stopped = false) (hr : Room t) : Calls Tryz.prog 73 #[ptr d, .agg (layA b l i)] W fun e W' => ∃ p, e = .returned (.tuple #[.slice p (tgT b l t).length (tgT b l t).length, .int .i64 (tgE b l t)]) ∧ ((p = none ∧ tgT b l t = []) ∧ Sits w W' d (readS t) ks ∨ ∃ q, p = some ⟨q, 0, none⟩ ∧ Sits w W' d (readS t) ((q, .cells (H.listRow (tgT b l t)) 3) :: ks)) := by
  have hA := h.add (.cells (layA b l i) 43)
  have hrow := heap_alloc_new W (.cells (layA b l i) 43)
  have hsz : (layA b l i).size = 9 := rfl
  have hlen := sits_len2 hA
  have hpos := H.Fine.pos hf
  have hnn : ¬ t.n = 0 := by omega
  have hbn : ¬ t.n < b := by omega
  have hok := h.ok
  have HE : Hid (∀ V, Calls Tryz.prog 22 #[.agg (layA b l i), .agg #[.slice none 0 0]] V fun e W' => e = .returned (.tuple #[.agg (blk (H.headF [])), .int .i64 0]) ∧ Below V.heap.size V W') := fun V =>
    H.enc_ok b l i 1 (1 + l) (H.nodeB i) (H.bitsAt l i) (H.bitsB b) (H.dataAt b l i) [] none 0 V (fine_i64 hf) (lay_fine hf) ⟨hf.1, hf.2.1⟩ (fun q => by simp at q) (fun q hq => by simp at hq) (by simp) (decide_eq_true ⟨by have := hf.1; simp; omega, fun q hq => by simp at hq, List.nodup_nil⟩)
  have hcan := curV_can hok 1
  have HD : Hid (∀ V, Calls Tryz.prog 93 #[.agg (layA b l i), .agg (blk (curV t 1))] V fun e' w' => ∃ p, e' = .returned (.tuple #[.agg #[.slice p (tgT b l t).length (tgT b l t).length], .int .i64 (tgE b l t)]) ∧ (p = none ∧ tgT b l t = [] ∨ ∃ q, p = some ⟨q, 0, none⟩ ∧ V.heap.size ≤ q ∧ w'.heap[q]? = some (.cells (H.listRow (tgT b l t)) 3)) ∧ Below V.heap.size V w') := fun V =>
    H.dec_all b l i 1 (1 + l) (H.nodeB i) (H.bitsAt l i) (H.bitsB b) (H.dataAt b l i) (curV t 1) V (fine_i64 hf) (lay_fine hf) ⟨hf.1, hf.2.1⟩ hcan.1
  have href : refV t 1 = 0 := by unfold refV; rw [hs, if_neg (by simp), if_pos ⟨by omega, by omega⟩]
  have HR : Hid (∀ V, Below (W.alloc (.cells (layA b l i) 43)).heap.size (W.alloc (.cells (layA b l i) 43)) V → V.heap[W.heap.size]? = some (.cells (layA b l i) 43) ∧ V.cell? ⟨W.heap.size, 0, none⟩ = some (.int .i64 b) ∧ V.cell? ⟨W.heap.size, 3, none⟩ = some (.int .i64 1) ∧ (∀ k, Calls Tryz.prog 56 #[.pointer (some ⟨d, 0, none⟩)] (V.drewN k) fun e W' => e = .returned (.int .i64 t.n) ∧ W' = V.drewN k) ∧ Hid (∀ k, Calls Tryz.prog 24 #[.pointer (some ⟨d, 0, none⟩), .int .i64 1] (V.drewN k) fun e W' => e = .returned (.tuple #[.agg (blk (curV t 1)), .int .i64 0]) ∧ Sits w W' d (readS t) ((W.heap.size, .cells (layA b l i) 43) :: ks))) := fun V hb => by
    have h1 := hA.later hb
    have h2 := heap_kept hrow hb
    refine ⟨h2, Joins.cell_of_block h2 0, Joins.cell_of_block h2 3, fun k => sits_len2 (h1.later (below_drewN _ k)), fun k => ?_⟩
    have h3 := sits_read (h1.later (below_drewN _ k)) hr 1
    unfold readB readV at h3
    rw [href, if_pos rfl, if_pos rfl] at h3
    exact h3
  have HB0 := Hid.mk' (below_new W (.cells (layA b l i) 43))
  clear h hA hf hn hs hr hok hcan href hpos
  unfold ptr at *
  generalize layA b l i = L at *
  generalize curV t 1 = Fc at *
  generalize hTL : tgT b l t = T at *
  generalize tgE b l t = E at *
  have z25 := zero25
  go_enter Tryz.func73, Tryz.ntmps73
  go_wp2_with (first | (go_at_call 56; refine hlen.mono ?_; rintro e W1 ⟨rfl, rfl⟩) | refine wpList_load_row rfl 43 (.tmp 3) rfl W.heap.size rfl 43 L (0, 0) _ hrow Tryz.underlying43 rfl (by rw [hsz]; exact H.size25L) ?_ | (go_at_call 22; fail))
  refine (HE.out _).mono ?_
  rintro e W1 ⟨rfl, hb1⟩
  obtain ⟨hrow2, c0, c3, hlen2, hrd⟩ := HR.out _ (below_next hb1 (below_new W1 (.cells (blk (H.headF [])) 47)))
  have HB1 := Hid.mk' (below_next (below_next HB0.out hb1) (below_new W1 (.cells (blk (H.headF [])) 47)))
  clear hb1 hlen HE HR hrow HB0
  go_wp2_with (first | refine wpList_store25_new rfl (.tmp 6) (.tmp 18) rfl (H.headF []) _ rfl rfl ?_)
  generalize W1.alloc (.cells (blk (H.headF [])) 47) = W2 at *
  go_quiet (first | (go_at_call 56; refine Calls.quiet_of_same (hlen2 _)))
  have hrd2 := hrd.out nq
  have hrow3 : (W2.drewN nq).heap[W.heap.size]? = some (.cells L 43) := hrow2
  clear hlen2 hrd hrow2
  go_wp2_with (go_at_call 24; fail)
  refine hrd2.mono ?_
  rintro e W3 ⟨rfl, h3⟩
  have H3 := Hid.mk' (h3.add (.cells (blk Fc) 47))
  have hrow4 := H3.out.blk (List.mem_cons_of_mem _ (List.mem_cons_self ..))
  have hblk4 := H3.out.blk (List.mem_cons_self ..)
  clear hrd2 h3 hrow3 c0 c3
  go_wp2_with (first | refine wpList_store25_new rfl (.tmp 8) (.tmp 35) rfl Fc _ rfl rfl ?_ | refine wpList_load_row rfl 43 (.tmp 3) rfl W.heap.size rfl 43 L (0, 0) _ hrow4 Tryz.underlying43 rfl (by rw [hsz]; exact H.size25L) ?_ | refine wpList_load25 rfl (.tmp 8) rfl W3.heap.size rfl Fc hblk4 ?_ | (go_at_call 93; fail))
  refine (HD.out _).mono ?_
  rintro e W4 ⟨p, rfl, hp, hb4⟩
  have H4 : Hid ((p = none ∧ T = []) ∧ Sits w W4 d (readS t) ks ∨ ∃ q, p = some ⟨q, 0, none⟩ ∧ Sits w W4 d (readS t) ((q, .cells (H.listRow T) 3) :: ks)) := by
    have hd : ∀ q ∈ ks, q ∈ (W3.heap.size, Obj.cells (blk Fc) 47) :: (W.heap.size, .cells L 43) :: ks := fun q hq => List.mem_cons_of_mem _ (List.mem_cons_of_mem _ hq)
    rcases hp with hp | ⟨q, hq1, hq2, hq3⟩
    · exact .inl ⟨hp, (H3.out.later hb4).drop hd⟩
    · exact .inr ⟨q, hq1, (H3.out.drop hd).addNew hb4 hq2 hq3⟩
  clear hp hb4 H3 hrow4 hblk4 HD hTL
  go_wp2
  go_ret2
  refine ⟨p, rfl, ?_⟩
  rcases H4.out with ⟨q1, q2⟩ | ⟨q, q1, q2⟩
  · exact .inl ⟨q1, q2.later (below_new _ _)⟩
  · exact .inr ⟨q, q1, q2.later (below_new _ _)⟩
set_option maxRecDepth 20000 in
set_option maxHeartbeats 800000 in
/-- The header is set. -/
theorem sits_setHeader (h : Sits w W d t ks) (b l i : Int) {f : Nat → Int} (hf : Can f) (hr : Rm t 3) : Calls Tryz.prog 65 #[ptr d, .agg (layA b l i), .agg (blk f)] W fun e W' => e = .returned (.int .i64 (runE [some (1, f), none] t)) ∧ Sits w W' d (runV [some (1, f), none] t) ks := by
  have hA := ((h.add (.cells (layA b l i) 43)).add (.cells (blk f) 47))
  have hw := sits_write hA hr.room 1 hf
  have h31 : ((W.alloc (.cells (layA b l i) 43)).alloc (.cells (blk f) 47)).cell? ⟨W.heap.size, 3, none⟩ = some (.int .i64 1) := Joins.cell_of_block (hA.blk (List.mem_cons_of_mem _ (List.mem_cons_self ..))) 3
  have hblk := hA.blk (List.mem_cons_self ..)
  have hszA : (W.alloc (.cells (layA b l i) 43)).heap.size = W.heap.size + 1 := by simp
  rw [hszA] at hblk
  have hb2 : ∀ W', Sits w W' d (writeV t 1 f) ((((W.alloc (.cells (layA b l i) 43)).heap.size, Obj.cells (blk f) 47)) :: (W.heap.size, .cells (layA b l i) 43) :: ks) → Calls Tryz.prog 11 #[ptr d] W' fun e W'' => e = .returned (.int .i64 (barE (writeV t 1 f))) ∧ Sits w W'' d (barV (writeV t 1 f)) ks := fun W' h1 =>
    (sits_barrier h1 (Rm.room (n := 1) (hr.dop (some (1, f))))).mono fun e W'' ⟨a1, a2⟩ => ⟨a1, a2.drop fun p hp => List.mem_cons_of_mem _ (List.mem_cons_of_mem _ hp)⟩
  have hsz : (layA b l i).size = 9 := rfl
  by_cases he : writeE t 1 = 0
  · have e1 : runE [some (1, f), none] t = barE (writeV t 1 f) := by
      show (if writeE t 1 = 0 then (if barE (writeV t 1 f) = 0 then 0 else barE (writeV t 1 f)) else writeE t 1) = _
      rw [if_pos he]
      split
      · rename_i q; exact q.symm
      · rfl
    have e2 : runV [some (1, f), none] t = barV (writeV t 1 f) := by
      show (if writeE t 1 = 0 then (if barE (writeV t 1 f) = 0 then barV (writeV t 1 f) else barV (writeV t 1 f)) else writeV t 1 f) = _
      rw [if_pos he]
      split <;> rfl
    rw [e1, e2]
    rw [he] at hw
    have HW := Hid.mk' hw
    have HB2 := Hid.mk' hb2
    clear hw hb2 h hA hr hszA
    unfold ptr at HW ⊢
    generalize hF : blk f = F at *
    generalize hL : layA b l i = L at *
    go_enter Tryz.func65, Tryz.ntmps65
    go_wp2_with (first | (go_at_call 23; fail) | refine wpList_load_row rfl 47 (.tmp 5) rfl (W.heap.size + 1) rfl 47 F (0, 0) _ hblk Tryz.underlying47 rfl (by subst hF; rw [blk_size]; exact size25) ?_)
    refine HW.out.mono ?_
    rintro e W1 ⟨rfl, h1⟩
    have HB3 := Hid.mk' (HB2.out W1 h1)
    unfold ptr at HB3
    clear h1 HB2 HW
    go_wp2_with (go_at_call 11; fail)
    refine HB3.out.mono ?_
    rintro e W2 ⟨rfl, h2⟩
    have H2 := Hid.mk' h2
    clear h2 HB3
    go_wp2
    go_ret
    exact ⟨rfl, H2.out⟩
  · have e1 : runE [some (1, f), none] t = writeE t 1 := by
      show (if writeE t 1 = 0 then (if barE (writeV t 1 f) = 0 then 0 else barE (writeV t 1 f)) else writeE t 1) = _
      rw [if_neg he]
    have e2 : runV [some (1, f), none] t = writeV t 1 f := by
      show (if writeE t 1 = 0 then (if barE (writeV t 1 f) = 0 then barV (writeV t 1 f) else barV (writeV t 1 f)) else writeV t 1 f) = _
      rw [if_neg he]
    rw [e1, e2]
    have HW := Hid.mk' hw
    clear hw hb2 h hA hr hszA
    unfold ptr at HW ⊢
    generalize writeE t 1 = E at *
    generalize hF : blk f = F at *
    generalize hL : layA b l i = L at *
    go_enter Tryz.func65, Tryz.ntmps65
    go_wp2_with (first | (go_at_call 23; fail) | refine wpList_load_row rfl 47 (.tmp 5) rfl (W.heap.size + 1) rfl 47 F (0, 0) _ hblk Tryz.underlying47 rfl (by subst hF; rw [blk_size]; exact size25) ?_)
    refine HW.out.mono ?_
    rintro e W1 ⟨rfl, h1⟩
    have H1 := Hid.mk' (h1.drop (ks' := ks) fun p hp => List.mem_cons_of_mem _ (List.mem_cons_of_mem _ hp))
    clear h1 HW
    go_wp2
    go_ret
    exact ⟨rfl, H1.out⟩
/-- What stands in one block goes to another one. -/
def moE (t : St) (c : Int × Int) : Int := if refV t c.1 = 0 then writeE (readS t) c.2 else refV t c.1
def moV (t : St) (c : Int × Int) : St := if refV t c.1 = 0 then writeV (readS t) c.2 (curV t c.1) else t
def mE : List (Int × Int) → St → Int
  | [], _ => 0
  | o :: r, t => if moE t o = 0 then mE r (moV t o) else moE t o
def mV : List (Int × Int) → St → St
  | [], t => t
  | o :: r, t => if moE t o = 0 then mV r (moV t o) else moV t o
theorem mE_append : ∀ (a b : List (Int × Int)) (t : St), mE (a ++ b) t = if mE a t = 0 then mE b (mV a t) else mE a t
  | [], b, t => by simp [mE, mV]
  | o :: r, b, t => by
    show (if moE t o = 0 then mE (r ++ b) (moV t o) else moE t o) = if (if moE t o = 0 then mE r (moV t o) else moE t o) = 0 then mE b (if moE t o = 0 then mV r (moV t o) else moV t o) else (if moE t o = 0 then mE r (moV t o) else moE t o)
    by_cases h : moE t o = 0
    · simp only [if_pos h]
      exact mE_append r b _
    · simp only [if_neg h]
theorem mV_append : ∀ (a b : List (Int × Int)) (t : St), mV (a ++ b) t = if mE a t = 0 then mV b (mV a t) else mV a t
  | [], b, t => by simp [mE, mV]
  | o :: r, b, t => by
    show (if moE t o = 0 then mV (r ++ b) (moV t o) else moV t o) = if (if moE t o = 0 then mE r (moV t o) else moE t o) = 0 then mV b (if moE t o = 0 then mV r (moV t o) else moV t o) else (if moE t o = 0 then mV r (moV t o) else moV t o)
    by_cases h : moE t o = 0
    · simp only [if_pos h]
      exact mV_append r b _
    · simp only [if_neg h]
def mvs (T : List Int) (i : Nat) : List (Int × Int) := (List.range i).map fun (j : Nat) => (2 + (j : Int), T.getD j 0)
theorem mvs_len (T : List Int) (i : Nat) : (mvs T i).length = i := by simp [mvs]
theorem mvs_succ {T : List Int} {i : Nat} {y : Int} (h : T[i]? = some y) : mvs T (i + 1) = mvs T i ++ [(2 + (i : Int), y)] := by
  unfold mvs
  rw [List.range_succ, List.map_append]
  simp [List.getD, h]
theorem mvs_more (T : List Int) (i : Nat) : ∀ n, i ≤ n → ∃ r, mvs T n = mvs T i ++ r
  | 0, h => ⟨[], by obtain rfl : i = 0 := by omega
                    simp⟩
  | n + 1, h => by
    by_cases e : i = n + 1
    · exact ⟨[], by rw [e]; simp⟩
    · obtain ⟨r, hr⟩ := mvs_more T i n (by omega)
      refine ⟨r ++ [(2 + (n : Int), T.getD n 0)], ?_⟩
      rw [← List.append_assoc, ← hr]
      unfold mvs
      rw [List.range_succ, List.map_append]
      rfl
theorem mv_snoc {a : List (Int × Int)} {o : Int × Int} (h : mE a t = 0) : mE (a ++ [o]) t = moE (mV a t) o ∧ mV (a ++ [o]) t = moV (mV a t) o := by
  rw [mE_append, mV_append, if_pos h, if_pos h]
  constructor
  · show (if moE (mV a t) o = 0 then 0 else moE (mV a t) o) = _
    split
    · rename_i q; exact q.symm
    · rfl
  · show (if moE (mV a t) o = 0 then moV (mV a t) o else moV (mV a t) o) = _
    split <;> rfl
theorem mv_ended {a b : List (Int × Int)} (h : mE a t ≠ 0) : mE (a ++ b) t = mE a t ∧ mV (a ++ b) t = mV a t := by
  rw [mE_append, mV_append, if_neg h, if_neg h]
  exact ⟨rfl, rfl⟩
theorem mo_nums (t : St) (o : Int × Int) : (moV t o).made ≤ t.made + 1 ∧ (moV t o).reads ≤ t.reads + 1 ∧ (moV t o).claims = t.claims ∧ (moV t o).claimed = t.claimed ∧ (moV t o).n = t.n ∧ (moV t o).ops.length ≤ t.ops.length + 1 := by
  unfold moV
  split
  · obtain ⟨a1, a2, a3, a4, a5, a6⟩ := dop_nums (readS t) (some (o.2, curV t o.1))
    exact ⟨a1, by show (writeV (readS t) o.2 (curV t o.1)).reads ≤ _; rw [show (writeV (readS t) o.2 (curV t o.1)).reads = (readS t).reads from a2]; exact Int.le_refl _, a3, a4, a5, a6⟩
  · exact ⟨by omega, by omega, rfl, rfl, rfl, by omega⟩
theorem mv_nums : ∀ (l : List (Int × Int)) (t : St), (mV l t).made ≤ t.made + l.length ∧ (mV l t).reads ≤ t.reads + l.length ∧ (mV l t).claims = t.claims ∧ (mV l t).claimed = t.claimed ∧ (mV l t).n = t.n ∧ (mV l t).ops.length ≤ t.ops.length + l.length
  | [], t => by simp [mV]
  | o :: r, t => by
    obtain ⟨a1, a2, a3, a4, a5, a6⟩ := mo_nums t o
    obtain ⟨b1, b2, b3, b4, b5, b6⟩ := mv_nums r (moV t o)
    unfold mV
    split
    · exact ⟨by simp only [List.length_cons]; omega, by simp only [List.length_cons]; omega, b3.trans a3, b4.trans a4, b5.trans a5, by simp only [List.length_cons]; omega⟩
    · exact ⟨by simp only [List.length_cons]; omega, by simp only [List.length_cons]; omega, a3, a4, a5, by simp only [List.length_cons]; omega⟩
theorem Rm.moves {n : Nat} {l : List (Int × Int)} (h : Rm t (n + l.length)) : Rm (mV l t) n := by
  obtain ⟨h1, h2, h3, h4⟩ := h
  obtain ⟨b1, b2, b3, b4, b5, b6⟩ := mv_nums l t
  exact ⟨by omega, by omega, by omega, by omega⟩
theorem Rm.readS {n : Nat} (h : Rm t (n + 1)) : Rm (readS t) n := by
  obtain ⟨h1, h2, h3, h4⟩ := h
  refine ⟨?_, ?_, ?_, ?_⟩
  · show t.ops.length + n < _; omega
  · show t.made + n < _; omega
  · show t.reads + 1 + n < _; omega
  · show t.claims + n < _; omega
set_option maxRecDepth 20000 in
set_option maxHeartbeats 800000 in
theorem sits_move (h : Sits w W d t ks) (hr : Rm t 2) (a b : Int) : Calls Tryz.prog 74 #[ptr d, .int .i64 a, .int .i64 b] W fun e W' => e = .returned (.int .i64 (moE t (a, b))) ∧ Sits w W' d (moV t (a, b)) ks := by
  have hrd := sits_read h (Rm.room hr) a
  have hok := h.ok
  have z25 := zero25
  unfold ptr
  unfold moE moV
  unfold readB readV at hrd
  by_cases href : refV t a = 0
  · simp only [href, if_true] at hrd ⊢
    have HWr : Hid (∀ V, Sits w V d (readS t) ks → Calls Tryz.prog 23 #[.pointer (some ⟨d, 0, none⟩), .int .i64 b, .agg (blk (curV t a))] (V.alloc (.cells (blk (curV t a)) 47)) fun e W' => e = .returned (.int .i64 (writeE (readS t) b)) ∧ Sits w W' d (writeV (readS t) b (curV t a)) ks) := fun V h1 => sits_write (h1.later (below_new _ _)) (Rm.room hr.readS) b (curV_can hok a)
    clear h hok
    generalize curV t a = F at *
    go_enter Tryz.func74, Tryz.ntmps74
    go_wp2_with (go_at_call 24; fail)
    refine hrd.mono ?_
    rintro e W1 ⟨rfl, h1⟩
    have H1 := Hid.mk' (HWr.out W1 h1)
    clear h1 HWr hrd
    go_wp2_with (first | refine wpList_store25_new rfl (.tmp 7) (.tmp 13) rfl F _ rfl rfl ?_ | refine wpList_load25 rfl (.tmp 7) rfl W1.heap.size rfl F (heap_alloc_new _ _) ?_ | (go_at_call 23; fail))
    refine H1.out.mono ?_
    rintro e W2 ⟨rfl, h2⟩
    have H2 := Hid.mk' h2
    clear h2 H1
    go_wp2
    go_ret
    exact ⟨rfl, H2.out⟩
  · simp only [href, if_false] at hrd ⊢
    clear h hok
    generalize refV t a = E at *
    go_enter Tryz.func74, Tryz.ntmps74
    go_wp2_with (go_at_call 24; fail)
    refine hrd.mono ?_
    rintro e W1 ⟨rfl, h1⟩
    have H1 := Hid.mk' (h1.later (below_new W1 (.cells (blk nought) 47)))
    clear h1 hrd
    go_wp2_with (first | refine wpList_store25_new rfl (.tmp 7) (.tmp 13) rfl nought _ rfl rfl ?_)
    go_ret
    exact ⟨rfl, H1.out⟩
end Go.Proofs.YtiadlcjdpbkbkaaGreatD
/- Recovery: the walk; New where a header names blocks; no condition but that numbers do not pass their greatest. -/
namespace Go.Proofs.YtiadlcjdpbkbkaaGreatD
open Go.RowKit Go.Maps
variable {w W : World} {g d c mb : Nat} {v : Value} {x : LSt} {s : CSt} {t : St} {os ks : List (Nat × Obj)} {base : Nat} {book : Int → Nat → Int}
def rcE (T : List Int) (t : St) : Int := if mE (mvs T T.length) t = 0 then runE [none, some (1, nought), none] (mV (mvs T T.length) t) else mE (mvs T T.length) t
def rcV (T : List Int) (t : St) : St := if mE (mvs T T.length) t = 0 then runV [none, some (1, nought), none] (mV (mvs T T.length) t) else mV (mvs T T.length) t
set_option maxRecDepth 20000 in
set_option maxHeartbeats 800000 in
theorem recover_empty {b l i : Int} (h : Sits w W d t ks) (hf : H.Fine b l i) (hn : b ≤ t.n) (hs : t.stopped = false) (hr : Rm t 2) (hT : tgT b l t = []) : Calls Tryz.prog 57 #[ptr d, .agg (layA b l i)] W fun e W' => e = .returned (.tuple #[.int .i64 0, .int .i64 (tgE b l t)]) ∧ Sits w W' d (readS t) ks := by
  have hA := h.add (.cells (layA b l i) 43)
  have hrow := heap_alloc_new W (.cells (layA b l i) 43)
  have hsz : (layA b l i).size = 9 := rfl
  have hc := Hid.mk' (committed_ok hA hf hn hs (Rm.room hr))
  rw [hT] at hc
  clear h hA hf hn hs hr hT
  unfold ptr at *
  generalize layA b l i = L at *
  generalize tgE b l t = E at *
  go_enter Tryz.func57, Tryz.ntmps57
  go_wp2_with (first | refine wpList_load_row rfl 43 (.tmp 3) rfl W.heap.size rfl 43 L (0, 0) _ hrow Tryz.underlying43 rfl (by rw [hsz]; exact H.size25L) ?_ | (go_at_call 73; fail))
  refine hc.out.mono ?_
  rintro e W1 ⟨p, rfl, _, h1⟩
  have H1 := Hid.mk' (h1.drop (ks' := ks) fun q hq => List.mem_cons_of_mem _ hq)
  clear h1 hc hrow
  by_cases hE : E = 0
  · subst hE
    go_wp2
    go_ret2
    exact ⟨rfl, H1.out⟩
  · go_wp2
    go_ret2
    exact ⟨rfl, H1.out⟩
/-- Behind the first k moves. -/
def RcI (w : World) (d : Nat) (T : List Int) (t : St) (ks : List (Nat × Obj)) (k : Nat) (wx : World) : Prop := Sits w wx d (mV (mvs T k) t) ks ∧ mE (mvs T k) t = 0
theorem RcI.move {T : List Int} {k : Nat} {wx : World} {y : Int} (h : RcI w d T t ks k wx) (hy : T[k]? = some y) (hr : Rm t (T.length + 2)) :
    Calls Tryz.prog 74 #[ptr d, .int .i64 (2 + (k : Int)), .int .i64 y] wx fun e W' => (e = .returned (.int .i64 0) ∧ RcI w d T t ks (k + 1) W') ∨ (∃ E, E ≠ 0 ∧ e = .returned (.int .i64 E) ∧ rcE T t = E ∧ Sits w W' d (rcV T t) ks) := by
  obtain ⟨h1, h2⟩ := h
  have hk := (List.getElem?_eq_some_iff.1 hy).1
  have hRm : Rm (mV (mvs T k) t) 2 := Rm.moves (hr.le (by rw [mvs_len]; omega))
  refine (sits_move h1 hRm (2 + (k : Int)) y).mono ?_
  rintro e W' ⟨rfl, h3⟩
  obtain ⟨r1, r2⟩ := mv_snoc (o := (2 + (k : Int), y)) h2
  rw [← mvs_succ hy] at r1 r2
  by_cases he : moE (mV (mvs T k) t) (2 + (k : Int), y) = 0
  · exact .inl ⟨by rw [he], by rw [r2]; exact h3, by rw [r1]; exact he⟩
  · obtain ⟨r, hr2⟩ := mvs_more T (k + 1) T.length (by omega)
    have h6 : mE (mvs T (k + 1)) t ≠ 0 := by rw [r1]; exact he
    obtain ⟨q1, q2⟩ := mv_ended (b := r) h6
    rw [← hr2] at q1 q2
    have h7 : mE (mvs T T.length) t ≠ 0 := by rw [q1]; exact h6
    refine .inr ⟨_, he, rfl, ?_, ?_⟩
    · unfold rcE
      rw [if_neg h7, q1, r1]
    · unfold rcV
      rw [if_neg h7, q2, r2]
      exact h3
/-- What a recovery leaves. -/
def RcPost (w : World) (d : Nat) (T : List Int) (t : St) (ks : List (Nat × Obj)) (e : Ending) (W' : World) : Prop := e = .returned (.tuple #[.int .i64 (if rcE T t = 0 then (T.length : Int) else 0), .int .i64 (rcE T t)]) ∧ Sits w W' d (rcV T t) ks
theorem rc_bad {T : List Int} {E : Int} (h : rcE T t = E) (h0 : E ≠ 0) (hs : Sits w W d (rcV T t) ks) : RcPost w d T t ks (.returned (.tuple #[.int .i64 0, .int .i64 E])) W := by
  refine ⟨?_, hs⟩
  rw [h, if_neg h0]
theorem rc_fine {T : List Int} (h : rcE T t = 0) (hs : Sits w W d (rcV T t) ks) : RcPost w d T t ks (.returned (.tuple #[.int .i64 (T.length : Int), .int .i64 0])) W := by
  refine ⟨?_, hs⟩
  rw [h, if_pos rfl]
set_option maxRecDepth 20000 in
set_option maxHeartbeats 4000000 in
theorem recover_some {b l i : Int} (h : Sits w W d t ks) (hf : H.Fine b l i) (hn : b ≤ t.n) (hs : t.stopped = false) (hT : tgT b l t ≠ []) (hE : tgE b l t = 0) (hlen : (tgT b l t).length ≤ 255) (hr : Rm t ((tgT b l t).length + 8)) : Calls Tryz.prog 57 #[ptr d, .agg (layA b l i)] W (RcPost w d (tgT b l t) (readS t) ks) := by
  have hA := h.add (.cells (layA b l i) 43)
  have hrow := heap_alloc_new W (.cells (layA b l i) 43)
  have hsz : (layA b l i).size = 9 := rfl
  have hc := Hid.mk' (committed_at hA hf hn hs (Rm.room (n := (tgT b l t).length + 7) hr))
  rw [hE] at hc
  have hr1 : Rm (readS t) ((tgT b l t).length + 7) := hr.readS
  have hpos : 0 < (tgT b l t).length := List.length_pos_iff.2 hT
  generalize tgT b l t = T at *
  generalize readS t = t1 at *
  have HM : Hid (∀ k wx ks' y, RcI w d T t1 ks' k wx → T[k]? = some y → Calls Tryz.prog 74 #[ptr d, .int .i64 (2 + (k : Int)), .int .i64 y] wx fun e W' => (e = .returned (.int .i64 0) ∧ RcI w d T t1 ks' (k + 1) W') ∨ (∃ E, E ≠ 0 ∧ e = .returned (.int .i64 E) ∧ rcE T t1 = E ∧ Sits w W' d (rcV T t1) ks')) := fun k wx ks' y h1 hy => h1.move hy (hr1.le (by omega))
  have HB : Hid (∀ wx ks', RcI w d T t1 ks' T.length wx → Calls Tryz.prog 11 #[ptr d] wx fun e W' => e = .returned (.int .i64 (barE (mV (mvs T T.length) t1))) ∧ Sits w W' d (barV (mV (mvs T T.length) t1)) ks' ∧ rcE T t1 = runE [none, some (1, nought), none] (mV (mvs T T.length) t1) ∧ rcV T t1 = runV [none, some (1, nought), none] (mV (mvs T T.length) t1) ∧ Rm (barV (mV (mvs T T.length) t1)) 4) := fun wx ks' h1 => by
    obtain ⟨h1, h2⟩ := h1
    have hRm : Rm (mV (mvs T T.length) t1) 5 := Rm.moves (hr1.le (by rw [mvs_len]; omega))
    refine (sits_barrier h1 (Rm.room (n := 4) hRm)).mono ?_
    rintro e W' ⟨rfl, h3⟩
    exact ⟨rfl, h3, by unfold rcE; rw [if_pos h2], by unfold rcV; rw [if_pos h2], hRm.dop none⟩
  have HH : Hid (∀ wx ks' t2, Sits w wx d t2 ks' → Rm t2 4 → Calls Tryz.prog 65 #[ptr d, .agg (layA b l i), .agg (blk nought)] wx fun e W' => e = .returned (.int .i64 (runE [some (1, nought), none] t2)) ∧ Sits w W' d (runV [some (1, nought), none] t2) ks') := fun wx ks' t2 h1 h2 => sits_setHeader h1 b l i can_nought (h2.le (by omega))
  have HI : Hid (∀ (j : Int) V, (0 ≤ j ∧ j ≤ 1048576) → Calls Tryz.prog 75 #[.agg (layA b l i), .int .i64 j] V fun e W' => e = .returned (.int .i64 (2 + j)) ∧ W' = V.alloc (.cells (layA b l i) 43)) := fun j V hj => inLog_any b l i j hj V
  clear h hA hf hn hs hr hr1 hE hT
  unfold ptr at *
  generalize layA b l i = L at *
  have z25 := zero25
  go_enter Tryz.func57, Tryz.ntmps57
  go_wp2_with (first | refine wpList_load_row rfl 43 (.tmp 3) rfl W.heap.size rfl 43 L (0, 0) _ hrow Tryz.underlying43 rfl (by rw [hsz]; exact H.size25L) ?_ | (go_at_call 73; fail))
  refine hc.out.mono ?_
  rintro e W1 ⟨p, rfl, hp⟩
  have hp2 : ∃ q, p = some ⟨q, 0, none⟩ ∧ Sits w W1 d t1 ((q, .cells (H.listRow T) 3) :: (W.heap.size, .cells L 43) :: ks) := by
    rcases hp with ⟨⟨_, q⟩, _⟩ | q
    · rw [q] at hpos; simp at hpos
    · exact q
  clear hp hc hrow
  obtain ⟨q, rfl, h1⟩ := hp2
  have H1 : Hid (RcI w d T t1 ((q, .cells (H.listRow T) 3) :: (W.heap.size, .cells L 43) :: ks) 0 W1) := ⟨h1, rfl⟩
  clear h1
  have HT : Hid (∀ k, k < T.length → ∃ y, T[k]? = some y ∧ (H.listRow T)[k]? = some (.int .i64 y)) := fun k hk => ⟨T[k], List.getElem?_eq_getElem hk, by unfold H.listRow; simp [hk]⟩
  generalize hTn : T.length = n at *
  have hn0 : ¬ (n : Int) = 0 := by omega
  have hnb : ((n : Int) == 0) = false := by simpa using hn0
  go_wp2
  go_loopw [29] (fun s29 wx => ∃ k : Nat, k ≤ n ∧ s29 = .int .i64 k ∧ Hid (RcI w d T t1 ((q, .cells (H.listRow T) 3) :: (W.heap.size, .cells L 43) :: ks) k wx)) (fun s29 _ => n - (intOf s29).toNat)
  case atStart => exact ⟨0, by omega, rfl, H1.out⟩
  case round =>
    obtain ⟨k, hk, rfl, HP⟩ := hrel
    by_cases hk2 : (k : Int) < n
    · have hkl : k < n := by omega
      obtain ⟨y, hy, hyr⟩ := HT.out k hkl
      have hcl : wr.cell? ⟨q, k, none⟩ = some (.int .i64 y) := (Joins.cell_of_block (HP.out.1.blk (List.mem_cons_self ..)) k).trans hyr
      have hlr := HP.out.1.blk (List.mem_cons_of_mem _ (List.mem_cons_self ..))
      have HMk : Hid (∀ V, Below wr.heap.size wr V → Calls Tryz.prog 74 #[.pointer (some ⟨d, 0, none⟩), .int .i64 (2 + (k : Int)), .int .i64 y] V fun e W' => (e = .returned (.int .i64 0) ∧ RcI w d T t1 ((q, .cells (H.listRow T) 3) :: (W.heap.size, .cells L 43) :: ks) (k + 1) W') ∨ (∃ E, E ≠ 0 ∧ e = .returned (.int .i64 E) ∧ rcE T t1 = E ∧ Sits w W' d (rcV T t1) ((q, .cells (H.listRow T) 3) :: (W.heap.size, .cells L 43) :: ks))) := fun V hb => HM.out k V _ y ⟨HP.out.1.later hb, HP.out.2⟩ hy
      clear HP hy hyr HT H1 HB HH
      go_wp2_with (first | refine wpList_load_row rfl 43 (.tmp 3) rfl W.heap.size rfl 43 L (0, 0) _ hlr Tryz.underlying43 rfl (by rw [hsz]; exact H.size25L) ?_ | (go_at_call 75; refine (HI.out (k : Int) _ ⟨by omega, by omega⟩).mono ?_; rintro e V1 ⟨rfl, rfl⟩) | (go_at_call 74; fail))
      refine (HMk.out _ (below_new _ _)).mono ?_
      rintro e W2 (⟨rfl, h2⟩ | ⟨E, hE, rfl, hE2, h2⟩)
      · have H2 := Hid.mk' h2
        clear h2 HMk hcl hlr
        go_wp2
        exact ⟨⟨k + 1, by omega, by go_num, H2.out⟩, by simp [intOf]; omega⟩
      · have H2 := Hid.mk' (h2.drop (ks' := ks) fun p hp => List.mem_cons_of_mem _ (List.mem_cons_of_mem _ hp))
        have H3 := Hid.mk' hE2
        clear h2 HMk hcl hlr hE2
        go_wp2
        go_ret2
        exact rc_bad H3.out hE H2.out
    · obtain rfl : k = n := by omega
      subst hTn
      have HB2 := Hid.mk' (HB.out wr _ HP.out)
      clear HB HP H1 HM HT
      go_wp2_with (go_at_call 11; fail)
      refine HB2.out.mono ?_
      rintro e W2 ⟨rfl, h2, e1, e2, hrm⟩
      have HE : Hid (rcE T t1 = (if barE (mV (mvs T T.length) t1) = 0 then runE [some (1, nought), none] (barV (mV (mvs T T.length) t1)) else barE (mV (mvs T T.length) t1)) ∧ rcV T t1 = (if barE (mV (mvs T T.length) t1) = 0 then runV [some (1, nought), none] (barV (mV (mvs T T.length) t1)) else barV (mV (mvs T T.length) t1))) := ⟨e1, e2⟩
      have hlr := h2.blk (List.mem_cons_of_mem _ (List.mem_cons_self ..))
      have H2 := Hid.mk' h2
      have HH2 := Hid.mk' (HH.out W2 _ _ h2 hrm)
      clear e1 e2 h2 HB2 HH hrm
      generalize mV (mvs T T.length) t1 = t2 at *
      by_cases hB : barE t2 = 0
      · rw [hB] at HE ⊢
        rw [if_pos rfl, if_pos rfl] at HE
        go_wp2_with (first | refine wpList_load_row rfl 43 (.tmp 3) rfl W.heap.size rfl 43 L (0, 0) _ hlr Tryz.underlying43 rfl (by rw [hsz]; exact H.size25L) ?_ | refine H.wpList_build30w rfl rfl ?_ | (go_at_call 65; fail))
        refine HH2.out.mono ?_
        rintro e W3 ⟨rfl, h3⟩
        have H3 := Hid.mk' (h3.drop (ks' := ks) fun p hp => List.mem_cons_of_mem _ (List.mem_cons_of_mem _ hp))
        clear h3 HH2 hlr H2
        rw [← HE.out.1]
        rw [← HE.out.2] at H3
        by_cases hR : rcE T t1 = 0
        · have HR0 := Hid.mk' hR
          rw [hR]
          clear hR
          go_wp2
          go_ret2
          exact rc_fine HR0.out H3.out
        · generalize hGE : rcE T t1 = E at *
          have HG := Hid.mk' hGE
          clear hGE
          go_wp2
          go_ret2
          exact rc_bad HG.out hR H3.out
      · rw [if_neg hB, if_neg hB] at HE
        have H3 := Hid.mk' (H2.out.drop (ks' := ks) fun p hp => List.mem_cons_of_mem _ (List.mem_cons_of_mem _ hp))
        clear HH2 hlr H2
        rw [← HE.out.2] at H3
        rw [← HE.out.1] at hB ⊢
        generalize hGE : rcE T t1 = E at *
        have HG := Hid.mk' hGE
        clear hGE
        go_wp2
        go_ret2
        exact rc_bad HG.out hB H3.out
end Go.Proofs.YtiadlcjdpbkbkaaGreatD
/- What a block of 1024 bytes is as cells: a plain function from places to numbers, laid as cells; no condition. -/
namespace Go.Proofs.YtiadlcjdpbkbkaaGreatP
open Go.RowKit

/-- The cells of a block whose byte at place i is f i. -/
def blk (f : Nat → Int) : Array Value := ((List.range 1024).map fun i => Value.int .u8 (f i)).toArray
/-- f, but for x at place i. -/
def upd (f : Nat → Int) (i : Nat) (x : Int) : Nat → Int := fun j => if j = i then x else f j
def nought : Nat → Int := fun _ => 0

theorem blk_size (f : Nat → Int) : (blk f).size = 1024 := by simp [blk]
theorem blk_get (f : Nat → Int) (i : Nat) (h : i < 1024) : (blk f)[i]? = some (.int .u8 (f i)) := by
  simp [blk, h]
theorem blk_set (f : Nat → Int) (i : Nat) (x : Int) : (blk f).setIfInBounds i (.int .u8 x) = blk (upd f i x) := by
  apply Array.ext_getElem?
  intro j
  by_cases hj : j < 1024
  · rw [blk_get _ _ hj, Array.getElem?_setIfInBounds]
    by_cases e : i = j
    · subst e; simp [blk_size, hj, upd]
    · have e' : ¬ j = i := fun q => e q.symm
      simp [e, e', blk_get _ _ hj, upd]
  · rw [Array.getElem?_eq_none (by rw [Array.size_setIfInBounds, blk_size]; omega), Array.getElem?_eq_none (by rw [blk_size]; omega)]
theorem blk_congr {f g : Nat → Int} (h : ∀ i, i < 1024 → f i = g i) : blk f = blk g := by
  apply Array.ext_getElem?
  intro j
  by_cases hj : j < 1024
  · rw [blk_get _ _ hj, blk_get _ _ hj, h j hj]
  · rw [Array.getElem?_eq_none (by rw [blk_size]; omega), Array.getElem?_eq_none (by rw [blk_size]; omega)]
theorem blk_one (f : Nat → Int) : (blk f).all (·.oneCell') = true := by
  rw [Array.all_eq_true_iff_forall_mem]
  intro v hv
  simp [blk] at hv
  obtain ⟨i, _, rfl⟩ := hv
  rfl
end Go.Proofs.YtiadlcjdpbkbkaaGreatP
/- Numbers of some bytes, the lowest first: read and laid, as plain functions; the bytes are 0 to 255. -/
namespace Go.Proofs.YtiadlcjdpbkbkaaGreatP
open Go.RowKit

/-- The number of m bytes from place k on. -/
def numN (f : Nat → Int) (k : Nat) : Nat → Int
  | 0 => 0
  | m + 1 => f k + 256 * numN f (k + 1) m
/-- The number of n bytes from at on, if all are inside. -/
def num (f : Nat → Int) (at' : Int) (n : Nat) : Int := if 0 ≤ at' ∧ at' ≤ 1024 - (n : Int) then numN f at'.toNat n else 0
/-- f with m bytes of v laid from place k on. -/
def putN (f : Nat → Int) (k : Nat) (v : Int) : Nat → Nat → Int
  | 0 => f
  | m + 1 => putN (upd f k (v % 256)) (k + 1) (v / 256) m
def put (f : Nat → Int) (at' : Int) (n : Nat) (v : Int) : Nat → Int := if 0 ≤ at' ∧ at' ≤ 1024 - (n : Int) then putN f at'.toNat v n else f

theorem numN_bd (f : Nat → Int) (hf : ∀ i, 0 ≤ f i ∧ f i ≤ 255) : ∀ (m k : Nat), 0 ≤ numN f k m ∧ numN f k m < 256 ^ m
  | 0, _ => by simp [numN]
  | m + 1, k => by
    have h1 := numN_bd f hf m (k + 1)
    have h2 := hf k
    simp only [numN, Int.pow_succ]
    omega
theorem num2 (f : Nat → Int) (k : Nat) : numN f k 2 = f k + 256 * f (k + 1) := by simp [numN]
theorem num4 (f : Nat → Int) (k : Nat) : numN f k 4 = f k + 256 * f (k + 1) + 65536 * f (k + 2) + 16777216 * f (k + 3) := by
  simp only [numN, Nat.add_assoc, Nat.reduceAdd]; omega
theorem num_in (f : Nat → Int) (k n : Nat) (h : k + n ≤ 1024) : num f (k : Int) n = numN f k n := by
  unfold num; rw [if_pos (by omega), Int.toNat_natCast]
theorem num_out (f : Nat → Int) (a : Int) (n : Nat) (h : a < 0 ∨ 1024 - (n : Int) < a) : num f a n = 0 := by
  unfold num; rw [if_neg (by omega)]
theorem put_in (f : Nat → Int) (k n : Nat) (v : Int) (h : k + n ≤ 1024) : put f (k : Int) n v = putN f k v n := by
  unfold put; rw [if_pos (by omega), Int.toNat_natCast]
theorem put_out (f : Nat → Int) (a : Int) (n : Nat) (v : Int) (h : a < 0 ∨ 1024 - (n : Int) < a) : put f a n v = f := by
  unfold put; rw [if_neg (by omega)]
theorem put2 (f : Nat → Int) (k : Nat) (v : Int) (hv : 0 ≤ v ∧ v < 65536) : putN f k v 2 = upd (upd f k (v % 256)) (k + 1) (v / 256) := by
  simp only [putN]
  rw [show v / 256 % 256 = v / 256 by omega]
theorem put4 (f : Nat → Int) (k : Nat) (v : Int) (hv : 0 ≤ v ∧ v < 4294967296) : putN f k v 4 = upd (upd (upd (upd f k (v % 256)) (k + 1) (v / 256 % 256)) (k + 2) (v / 65536 % 256)) (k + 3) (v / 16777216) := by
  simp only [putN, Nat.add_assoc, Nat.reduceAdd]
  rw [show v / 256 / 256 % 256 = v / 65536 % 256 by omega, show v / 256 / 256 / 256 % 256 = v / 16777216 by omega]
theorem num_bd (f : Nat → Int) (hf : ∀ i, 0 ≤ f i ∧ f i ≤ 255) (a : Int) (n : Nat) : 0 ≤ num f a n ∧ num f a n < 256 ^ n := by
  unfold num
  split
  · exact numN_bd f hf _ _
  · exact ⟨Int.le_refl _, Int.pow_pos (by decide)⟩

theorem wrap_u8 (n : Int) : IntKind.u8.wrap n = n % 256 := by simp [IntKind.wrap, IntKind.bits, IntKind.signed]
theorem wrap_u16 (n : Int) : IntKind.u16.wrap n = n % 65536 := by simp [IntKind.wrap, IntKind.bits, IntKind.signed]
theorem wrap_u32 (n : Int) : IntKind.u32.wrap n = n % 4294967296 := by simp [IntKind.wrap, IntKind.bits, IntKind.signed]

theorem or_comm' (k : IntKind) (x y : Int) : bits .or k x y = bits .or k y x := by simp only [bits, BitVec.or_comm]
theorem or16 (a b : Int) (ha : 0 ≤ a ∧ a ≤ 255) (hb : 0 ≤ b ∧ b ≤ 255) : bits .or .u16 (IntKind.u16.wrap a) (IntKind.u16.wrap (IntKind.u16.wrap b * 256)) = a + 256 * b := by
  simp only [wrap_u16]
  have h1 : a % 65536 = a := by omega
  have h2 : b % 65536 * 256 % 65536 = 256 * b := by omega
  rw [h1, h2, or_comm', bits_join .u16 16 (by decide) (fun n h0 h1 => by rw [wrap_u16]; omega) 8 (256 * b) a (by omega) (by omega) (by omega) (by omega) (by omega) (by omega)]
  omega
theorem or32 (i : Nat) (x y : Int) (hx0 : 0 ≤ x) (hx : x % 2 ^ i = 0) (hx1 : x < 2 ^ 32) (hy0 : 0 ≤ y) (hy : y < 2 ^ i) (hy1 : y < 2 ^ 32) : bits .or .u32 y x = y + x := by
  rw [or_comm', bits_join .u32 32 (by decide) (fun n h0 h1 => by rw [wrap_u32]; omega) i x y hx0 hx hx1 hy0 hy hy1]
  omega
theorem or32all (a b c d : Int) (ha : 0 ≤ a ∧ a ≤ 255) (hb : 0 ≤ b ∧ b ≤ 255) (hc : 0 ≤ c ∧ c ≤ 255) (hd : 0 ≤ d ∧ d ≤ 255) :
    bits .or .u32 (bits .or .u32 (bits .or .u32 (IntKind.u32.wrap a) (IntKind.u32.wrap (IntKind.u32.wrap b * 256))) (IntKind.u32.wrap (IntKind.u32.wrap c * 65536))) (IntKind.u32.wrap (IntKind.u32.wrap d * 16777216)) = a + 256 * b + 65536 * c + 16777216 * d := by
  simp only [wrap_u32]
  have h1 : a % 4294967296 = a := by omega
  have h2 : b % 4294967296 * 256 % 4294967296 = 256 * b := by omega
  have h3 : c % 4294967296 * 65536 % 4294967296 = 65536 * c := by omega
  have h4 : d % 4294967296 * 16777216 % 4294967296 = 16777216 * d := by omega
  rw [h1, h2, h3, h4, or32 8 (256 * b) a (by omega) (by omega) (by omega) (by omega) (by omega) (by omega),
    or32 16 (65536 * c) (a + 256 * b) (by omega) (by omega) (by omega) (by omega) (by omega) (by omega),
    or32 24 (16777216 * d) (a + 256 * b + 65536 * c) (by omega) (by omega) (by omega) (by omega) (by omega) (by omega)]
end Go.Proofs.YtiadlcjdpbkbkaaGreatP
/- Where the regions of a geometry lie, as plain numbers, and the values that stand for them; no condition. -/
namespace Go.Proofs.YtiadlcjdpbkbkaaGreatP
open Go.RowKit

def nodeB (i : Int) : Int := (i + 16) / 16
def bitsB (b : Int) : Int := (b + 8191) / 8192
def bitsAt (l i : Int) : Int := 1 + l + nodeB i
def dataAt (b l i : Int) : Int := bitsAt l i + bitsB b
/-- Is there a layout of the geometry b, l, i? -/
abbrev Fine (b l i : Int) : Prop := 32 ≤ l ∧ l ≤ 256 ∧ 1 ≤ i ∧ i ≤ 65535 ∧ b ≤ 1048576 ∧ dataAt b l i < b
theorem Fine.pos {b l i : Int} (h : Fine b l i) : 35 ≤ b := by
  unfold Fine dataAt bitsAt nodeB bitsB at h; omega

/-- Is a geometry within its bounds? -/
def bndB (b l i : Int) : Bool := decide (32 ≤ l ∧ l ≤ 256 ∧ 1 ≤ i ∧ i ≤ 65535 ∧ b ≤ 1048576)

def geoV (b l i : Int) : Value := .agg #[.int .i64 b, .int .i64 l, .int .i64 i]
def lay9 (b l i a c d e f g : Int) : Array Value := #[.int .i64 b, .int .i64 l, .int .i64 i, .int .i64 a, .int .i64 c, .int .i64 d, .int .i64 e, .int .i64 f, .int .i64 g]
def layV (b l i : Int) : Value := .agg (lay9 b l i 1 (1 + l) (nodeB i) (bitsAt l i) (bitsB b) (dataAt b l i))
def layZ : Value := .agg (lay9 0 0 0 0 0 0 0 0 0)
/-- What Of answers. -/
def ofV (b l i : Int) : Value := if Fine b l i then layV b l i else layZ
def ofE (b l i : Int) : Int := if Fine b l i then 0 else 2
def I64 (x : Int) : Prop := -9223372036854775808 ≤ x ∧ x ≤ 9223372036854775807
end Go.Proofs.YtiadlcjdpbkbkaaGreatP
/- The block type of this program over its translation: loads, stores and results of whole blocks; fits; no condition. -/
namespace Go.Proofs.YtiadlcjdpbkbkaaGreatP
open Go.RowKit

theorem info25 : (Tryz.prog.info? 47).map (fun i => (i.zero, i.size)) = some (some (.agg (blk nought)), 1024) := by kernel_rfl
theorem zero25 : ∀ w, (zeroValue 47).run Tryz.prog w = .ok (.agg (blk nought)) w := (zero_of_info info25).1
theorem size25 : (Tryz.prog.info? 47).map (·.size) = some 1024 := (zero_of_info info25).2

set_option maxHeartbeats 400000 in
theorem fits_any (a n : Int) (w : World) (hn : 0 ≤ n ∧ n ≤ 1024) :
    Calls Tryz.prog 68 #[.int .i64 a, .int .i64 n] w fun e w' => e = .returned (.bool (decide (0 ≤ a ∧ a ≤ 1024 - n))) ∧ w' = w := by
  by_cases h0 : 0 ≤ a
  · by_cases h1 : a ≤ 1024 - n
    · go_enter Tryz.func68, Tryz.ntmps68
      go_wp2
      go_ret
      exact ⟨by simp [h0, h1], rfl⟩
    · go_enter Tryz.func68, Tryz.ntmps68
      go_wp2
      go_ret
      exact ⟨by simp [h1], rfl⟩
  · go_enter Tryz.func68, Tryz.ntmps68
    go_wp2
    go_ret
    exact ⟨by simp; omega, rfl⟩

theorem fits_yes (a n : Int) (w : World) (hn : 0 ≤ n ∧ n ≤ 1024) (h : 0 ≤ a ∧ a ≤ 1024 - n) :
    Calls Tryz.prog 68 #[.int .i64 a, .int .i64 n] w fun e w' => e = .returned (.bool true) ∧ w' = w := by
  have := fits_any a n w hn
  rwa [decide_eq_true h] at this
theorem fits_no (a n : Int) (w : World) (hn : 0 ≤ n ∧ n ≤ 1024) (h : ¬ (0 ≤ a ∧ a ≤ 1024 - n)) :
    Calls Tryz.prog 68 #[.int .i64 a, .int .i64 n] w fun e w' => e = .returned (.bool false) ∧ w' = w := by
  have := fits_any a n w hn
  rwa [decide_eq_false h] at this

/-- The first k of f, noughts behind them. -/
def firsts (f : Nat → Int) (k : Nat) : Nat → Int := fun i => if i < k then f i else 0
theorem firsts_next (f : Nat → Int) (k : Nat) : upd (firsts f k) k (f k) = firsts f (k + 1) := by
  funext j
  unfold upd firsts
  by_cases h : j = k
  · subst h; simp
  · by_cases h2 : j < k
    · simp [h, h2, show j < k + 1 by omega]
    · simp [h, h2, show ¬ j < k + 1 by omega]

theorem wpList_load25 {ops : Array Oper} {rest : List Oper} {o : Oper} {a : Act} {w : World} {Q : Exit → Act → World → Prop} (hgd : o.guard = none) (x : Operand) (ho : o.op = .load 47 x)
    (g : Nat) (hx : a.eval x = .pointer (some ⟨g, 0, none⟩)) (f : Nat → Int) (hg : w.heap[g]? = some (.cells (blk f) 47))
    (h : wpList Tryz.prog ops Q rest (a.put o.dst (.agg (blk f))) w) : wpList Tryz.prog ops Q (o :: rest) a w :=
  wpList_load_row hgd 47 x ho g hx 47 (blk f) (0, 0) _ hg Tryz.underlying47 rfl (by rw [blk_size]; exact size25) h
theorem wpList_store25 {ops : Array Oper} {rest : List Oper} {o : Oper} {a : Act} {w : World} {Q : Exit → Act → World → Prop} (hgd : o.guard = none) (x y : Operand) (ho : o.op = .store 47 x y)
    (g : Nat) (f : Nat → Int) (hx : a.eval x = .pointer (some ⟨g, 0, none⟩)) (hy : a.eval y = .agg (blk f)) (f0 : Nat → Int) (hg : w.heap[g]? = some (.cells (blk f0) 47))
    (h : wpList Tryz.prog ops Q rest (a.put o.dst undef) (w.setRow g (blk f))) : wpList Tryz.prog ops Q (o :: rest) a w :=
  wpList_plain hgd fun _ hK => by
    unfold Oper.wp execOp
    simp only [ho, hx, hy, Instr.storeAt, Instr.sureAddr, Sem.run_bind, Sem.run_pure, Result.andThen_ok, run_storeVar_row w g 47 47 (blk f0) (blk f) hg (by rw [blk_size]; exact size25) (by rw [blk_size, blk_size]) (blk_one f)]
    exact hK _ _ h

/-- A result that is a whole block in a cell. -/
theorem ret25 {fn : Func} {p : Tmp} {R : Ending → World → Prop} {a : Act} {w : World} (h : fn.results = #[.cell p 47]) (g : Nat) (f : Nat → Int)
    (hp : a.tmps.getD p undef = .pointer (some ⟨g, 0, none⟩)) (hg : w.heap[g]? = some (.cells (blk f) 47)) (hd : a.defers = []) (hR : R (.returned (.agg (blk f))) w) : bodyPost Tryz.prog fn R .ret a w :=
  bodyPost_ret (results_cell_row h a.tmps w g 47 (blk f) (0, 0) _ hp hg Tryz.underlying47 rfl (by rw [blk_size]; exact size25)) hd hR
theorem below_setRow {B : Nat} {a w : World} (h : Below B a w) {g : Nat} (hg : B ≤ g) (cs : Array Value) : Below B a (w.setRow g cs) :=
  h.trans ⟨rfl, rfl, rfl, by simp, fun k hk => setRow_other w g k cs (by omega)⟩
theorem below2 (w : World) (a b : Obj) (g : Nat) (hg : w.heap.size ≤ g) (cs : Array Value) : Below w.heap.size w (((w.alloc a).alloc b).setRow g cs) :=
  below_setRow (((Below.refl _ _).alloc (Nat.le_refl _) _).alloc (by simp) _) hg _
end Go.Proofs.YtiadlcjdpbkbkaaGreatP
/- Two blocks held against each other: equal just where every byte is; for every two blocks. -/
namespace Go.Proofs.YtiadlcjdpbkbkaaGreatP
open Go.RowKit

def sameB (f g : Nat → Int) : Bool := (List.range 1024).all fun i => f i == g i
theorem sameB_iff (f g : Nat → Int) : sameB f g = true ↔ ∀ i, i < 1024 → f i = g i := by
  simp [sameB, List.all_eq_true, List.mem_range]
theorem sameB_self (f : Nat → Int) : sameB f f = true := (sameB_iff f f).2 fun _ _ => rfl

theorem part5 (f : Nat → Int) (i : Nat) (hi : i < 1024) (w : World) : (part 5 (blk f) (i * 1)).run Tryz.prog w = .ok (.int .u8 (f i)) w := by
  have hb := blk_get f i hi
  simp [part, Tryz.isAgg5, hb]
theorem each25 (d : Nat) (f g : Nat → Int) (w : World) : ∀ l : List Nat, (∀ i, i ∈ l → i < 1024) →
    (forIn (m := Sem) l ((none : Option Bool), ()) fun i _ => do
            let x ← part 5 (blk f) (i * 1)
            let y ← part 5 (blk g) (i * 1)
            let b ← Op.equalIn (d + 1) 5 x y
            if (!b) = true then pure (ForInStep.done (some false, ())) else pure (ForInStep.yield (none, ()))).run Tryz.prog w
      = .ok ((if l.all (fun i => f i == g i) then none else some false), ()) w
  | [], _ => by simp
  | i :: l, h => by
    have h1 := part5 f i (h i (by simp)) w
    have h2 := part5 g i (h i (by simp)) w
    have ih := each25 d f g w l fun j hj => h j (by simp [hj])
    have he := run_equalIn_int (P := Tryz.prog) w d 5 .u8 .u8 (f i) (g i) Tryz.underlying5
    simp only [List.forIn_cons, Sem.run_bind, h1, h2, he, Result.andThen_ok, List.all_cons]
    by_cases e : f i = g i
    · simp only [e, beq_self_eq_true, Bool.not_true, Bool.false_eq_true, if_false, Sem.run_pure, Result.andThen_ok, Bool.true_and]
      exact ih
    · have e' : (f i == g i) = false := by simp [e]
      simp [e']
theorem eq25 (f g : Nat → Int) (w : World) : (Op.equalIn 10000 47 (.agg (blk f)) (.agg (blk g))).run Tryz.prog w = .ok (sameB f g) w := by
  have key := each25 9998 f g w (List.range' 0 [:1024].size) (fun i hi => by simpa [Std.Legacy.Range.size] using hi)
  show (Op.equalIn (9998 + 1 + 1) 47 (.agg (blk f)) (.agg (blk g))).run Tryz.prog w = _
  rw [Op.equalIn]
  simp only [Sem.run_bind, run_underlying Tryz.underlying47, Result.andThen_ok]
  rw [show (sizeOf 5).run Tryz.prog w = .ok 1 w by simp [go_sem]]
  simp only [Result.andThen_ok, Std.Legacy.Range.forIn_eq_forIn_range']
  refine (congrArg (fun r => Result.andThen r _) key).trans ?_
  have hr : List.range' 0 [:1024].size = List.range 1024 := by simp [Std.Legacy.Range.size, List.range_eq_range']
  rw [hr]
  show Result.andThen (Result.ok ((if sameB f g = true then none else some false), ()) w) _ = _
  cases sameB f g <;> simp
end Go.Proofs.YtiadlcjdpbkbkaaGreatP
/- Regions whose order is drawn and whose calls make memory but turn none that was there: one walk in the text's order serves every order. -/
namespace Go.Proofs.YtiadlcjdpbkbkaaGreatP
open Go.RowKit

/-- A world that has all that W has, and perhaps more behind it. -/
structure Later (W : World) where
  val : World
  below : Below W.heap.size W val

theorem later_some (W : World) : Nonempty (Later W) := ⟨⟨W, Below.refl _ _⟩⟩
theorem Later.cell {W : World} (x : Later W) (p : Addr) (h : p.block < W.heap.size) : x.val.cell? p = W.cell? p := x.below.cell h
theorem Later.heap {W : World} (x : Later W) (g : Nat) (h : g < W.heap.size) : x.val.heap[g]? = W.heap[g]? := x.below.block g h

theorem wp_region_later {id : Nat} {Q : Exit → Act → World → Prop} {a : Act} {w : World} {l : List Oper} (hm : Tryz.prog.follows .mixedOrders = true) (hB : Region.lexB .any l.toArray = true)
    (W : World) (hW : Below W.heap.size W w)
    (h : wpQuiet Tryz.prog l.toArray (fun w' => ∃ x : Later W, w' = x.val) (fun a' => ∀ w', (∃ x : Later W, w' = x.val) → Q .normal a' w') l a) : (Code.region id l.toArray true).wp Tryz.prog Q a w :=
  wp_region_quiet (C := fun w' => ∃ x : Later W, w' = x.val) hm hB ⟨⟨_, hW.drew⟩, rfl⟩ (by simpa using h)

theorem Later.call {W : World} (x : Later W) {f : FuncId} {args : Array Value} {v : Value}
    (h : Calls Tryz.prog f args x.val fun e w' => e = .returned v ∧ Below x.val.heap.size x.val w') : Calls Tryz.prog f args x.val fun e w'' => e = .returned v ∧ ∃ y : Later W, w'' = y.val :=
  h.mono fun _ w' ⟨he, hb⟩ => ⟨he, ⟨w', x.below.trans (hb.mono x.below.size)⟩, rfl⟩

theorem quiet_load25 {W : World} {o : Oper} {a : Act} {K : Act → Prop} (x : Operand) (ho : o.op = .load 47 x) (g : Nat) (hx : a.eval x = .pointer (some ⟨g, 0, none⟩)) (f : Nat → Int)
    (hg : W.heap[g]? = some (.cells (blk f) 47)) (hk : K (a.put o.dst (.agg (blk f)))) : o.quiet Tryz.prog a (fun w' => ∃ x : Later W, w' = x.val) K := by
  refine ⟨.agg (blk f), ?_, hk⟩
  rintro _ ⟨y, rfl⟩
  have hlt : g < W.heap.size := (Array.getElem?_eq_some_iff.1 hg).1
  have hh := (y.heap g hlt).trans hg
  unfold Oper.quietAt execOp
  simp only [ho, hx, Instr.loadAt, Instr.sureAddr, Sem.run_bind, Sem.run_pure, Result.andThen_ok, run_loadVar_row y.val g 47 47 (blk f) (0, 0) _ hh Tryz.underlying47 rfl (by rw [blk_size]; exact size25)]
  exact ⟨rfl, rfl⟩

theorem wpList_store25_new {ops : Array Oper} {rest : List Oper} {o : Oper} {a : Act} {w : World} {Q : Exit → Act → World → Prop} (hgd : o.guard = none) (x y : Operand) (ho : o.op = .store 47 x y)
    (f f0 : Nat → Int) (hx : a.eval x = .pointer (some ⟨w.heap.size, 0, none⟩)) (hy : a.eval y = .agg (blk f))
    (h : wpList Tryz.prog ops Q rest (a.put o.dst undef) (w.alloc (.cells (blk f) 47))) : wpList Tryz.prog ops Q (o :: rest) a (w.alloc (.cells (blk f0) 47)) :=
  wpList_store25 hgd x y ho w.heap.size f hx hy f0 (heap_alloc_new _ _) (by rw [World.setRow_alloc_new]; exact h)
end Go.Proofs.YtiadlcjdpbkbkaaGreatP
/- The law's own function block: a block that begins with the bytes of a slice; its bytes lie in memory below. -/
namespace Go.Proofs.YtiadlcjdpbkbkaaGreatP
open Go.RowKit

def Lies (w : World) (v : Value) (n : Nat) (f : Nat → Int) : Prop :=
  (∃ a cap, v = .slice a 0 cap ∧ n = 0 ∧ (a = none → cap = 0)) ∨ ∃ b off cap, v = .slice (some ⟨b, off, none⟩) n cap ∧ n ≤ maxLen ∧ n ≤ cap ∧ b < w.heap.size ∧ ∀ i, i < n → w.cell? ⟨b, off + i, none⟩ = some (.int .u8 (f i))
theorem Lies.later {w w' : World} {v : Value} {n : Nat} {f : Nat → Int} (h : Lies w v n f) (hb : Below w.heap.size w w') : Lies w' v n f := by
  rcases h with h | ⟨b, off, cap, hv, hn, hcap, hlt, hc⟩
  · exact .inl h
  · exact .inr ⟨b, off, cap, hv, hn, hcap, Nat.lt_of_lt_of_le hlt hb.size, fun i hi => (hb.cell (p := ⟨b, off + i, none⟩) hlt).trans (hc i hi)⟩
end Go.Proofs.YtiadlcjdpbkbkaaGreatP
