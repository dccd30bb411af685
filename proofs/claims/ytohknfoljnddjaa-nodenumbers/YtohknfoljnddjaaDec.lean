/- Decode of node: the inode that sixty-four bytes say; for all bytes. -/
import Derived.Test.YtohknfoljnddjaaEnc
import Derived.Test.YtohknfoljnddjaaRows2
namespace Go.Proofs.Ytohknfoljnddjaa
open Go.RowKit

theorem info24 : ∃ i0, Try.prog.info? 24 = some i0 ∧ i0.size = 1 := by
  have h : (Try.prog.info? 24).map (·.size) = some 1 := by kernel_rfl
  cases hq : Try.prog.info? 24 with
  | none => rw [hq] at h; cases h
  | some i => exact ⟨i, rfl, by simpa [hq] using h⟩
theorem run_stC (w : World) (g j : Nat) (cs : Array Value) (t : TypeId) (hg : w.heap[g]? = some (.cells cs t)) (hj : j < cs.size) (x : Int) :
    (Instr.storeAt 24 (.pointer (some ⟨g, j, none⟩)) (.int .u32 x)).run Try.prog w = .ok () (w.setRow g (cs.setIfInBounds j (.int .u32 x))) := by
  obtain ⟨i0, hi0, hz⟩ := info24
  have hc : w.cell? ⟨g, j, none⟩ = some cs[j] := by rw [cell_of_row w g j cs t _ hg]; simp
  have hf : w.frozen? ⟨g, j, none⟩ = false := by simp [World.frozen?, hg]
  have hr := setCell_eq_setRow w g j cs t (0, 0) (.int .u32 x) hg
  simp [Instr.storeAt, Instr.sureAddr, storeVar, sizeOf, typeInfo, hi0, hz, storeCells, go_sem, hc, hf, hr]
theorem wpOrd_stC {ops : Array Oper} {Q : Exit → Act → World → Prop} {S : World → Prop} {r : List (Bool × Oper)} {a : Act} {w : World} {o : Oper} (hw : Region.wanted o (yielded ops a.tmps) = true)
    (p y : Operand) (ho : o.op = .store 24 p y) (g j : Nat) (cs : Array Value) (t : TypeId) (x : Int) (hj : j < cs.size) (hx : a.eval p = .pointer (some ⟨g, j, none⟩)) (hy : a.eval y = .int .u32 x) (hg : w.heap[g]? = some (.cells cs t))
    (h : S (w.setRow g (cs.setIfInBounds j (.int .u32 x))) ∧ wpOrd Try.prog ops Q S r (a.put o.dst undef) (w.setRow g (cs.setIfInBounds j (.int .u32 x)))) : wpOrd Try.prog ops Q S ((false, o) :: r) a w := by
  simp only [wpOrd, hw, if_true]
  unfold Oper.wp execOp
  simp only [ho, hx, hy, Sem.run_bind, run_stC w g j cs t hg hj x, Sem.run_pure, Result.andThen_ok]
  exact h

theorem numN_congr {F f : Nat → Int} : ∀ (n k : Nat), (∀ i, i < k + n → F i = f i) → numN F k n = numN f k n
  | 0, _, _ => rfl
  | n + 1, k, h => by
    simp only [numN]
    rw [h k (by omega), numN_congr n (k + 1) fun i hi => h i (by omega)]
theorem from_lay (f : Nat → Int) (k n : Nat) (h : k + n ≤ 64) : numN (layF nought 0 64 f) k n = numN f k n := numN_congr n k fun i hi => by
  unfold layF; rw [if_pos (by omega)]; congr 1
theorem from_byte (f : Nat → Int) (hf : ∀ i, 0 ≤ f i ∧ f i ≤ 255) (i : Nat) : 0 ≤ layF nought 0 64 f i ∧ layF nought 0 64 f i ≤ 255 := by
  unfold layF; split
  · exact hf _
  · exact ⟨Int.le_refl _, show (0 : Int) ≤ 255 by decide⟩
/-- The twelve numbers that bytes say. -/
def decD (f : Nat → Int) : Nat → Int := fun i => numN f (12 + 4 * i) 4
def decN (f : Nat → Int) : Array Value := node16 (numN f 0 2) (numN f 2 2) (numN f 4 4) (numN f 8 4) (decD f)

/-- A row for the result, a block, and a row of twelve numbers behind it, made since w. -/
structure DecS (w W : World) (g : Nat) (F e : Nat → Int) : Prop where
  res : W.heap[w.heap.size + 1]? = some (.cells (node16 0 0 0 0 nought) 27)
  blk : W.heap[g]? = some (.cells (blk F) 59)
  row : W.heap[g + 1]? = some (.cells (w12 e) 62)
  far : w.heap.size + 2 ≤ g
  bel : Below w.heap.size w W
theorem DecS.call {w W W' : World} {g : Nat} {F e : Nat → Int} (h : DecS w W g F e) (hb : Below W.heap.size W W') : DecS w W' g F e :=
  ⟨heap_kept h.res hb, heap_kept h.blk hb, heap_kept h.row hb, h.far, below_next h.bel hb⟩
theorem DecS.store {w W : World} {g : Nat} {F e : Nat → Int} (h : DecS w W g F e) (e' : Nat → Int) : DecS w (W.setRow (g + 1) (w12 e')) g F e' :=
  ⟨(setRow_other _ _ _ _ (by have := h.far; omega)).trans h.res, (setRow_other _ _ _ _ (by omega)).trans h.blk, setRow_heap _ _ _ _ _ _ h.row, h.far, below_setRow h.bel (by have := h.far; omega) _⟩
theorem DecS.drew {w W : World} {g : Nat} {F e : Nat → Int} (h : DecS w W g F e) : DecS w W.drew g F e := ⟨h.res, h.blk, h.row, h.far, h.bel.drew⟩

theorem load10 (u : World) (g : Nat) (d : Nat → Int) (t : TypeId) (h : u.heap[g]? = some (.cells (w12 d) t)) : (Instr.loadAt 25 (.pointer (some ⟨g, 0, none⟩))).run Try.prog u =
    .ok (.agg #[.int .u32 (d 0), .int .u32 (d 1), .int .u32 (d 2), .int .u32 (d 3), .int .u32 (d 4), .int .u32 (d 5), .int .u32 (d 6), .int .u32 (d 7), .int .u32 (d 8), .int .u32 (d 9)]) u :=
  run_loadAt_mid u g 0 25 [.int .u32 (d 0), .int .u32 (d 1), .int .u32 (d 2), .int .u32 (d 3), .int .u32 (d 4), .int .u32 (d 5), .int .u32 (d 6), .int .u32 (d 7), .int .u32 (d 8), .int .u32 (d 9)] _ (fun j v hv => by
    rw [cell_of_row u g _ _ t _ h]
    match j, hv with
    | 0, hv | 1, hv | 2, hv | 3, hv | 4, hv | 5, hv | 6, hv | 7, hv | 8, hv | 9, hv => exact hv
    | j + 10, hv => simp at hv) Try.underlying25 rfl (by kernel_rfl)

set_option maxRecDepth 20000 in
set_option maxHeartbeats 1000000 in
theorem decode_any (f : Nat → Int) (w : World) (hf : ∀ i, 0 ≤ f i ∧ f i ≤ 255) :
    Calls Try.prog 11 #[.agg (rowA f 64)] w fun e w' => e = .returned (.agg (decN f)) ∧ Below w.heap.size w w' := by
  have z27 := zero27
  have z25 := zero25
  have z62 := zero62
  have hby := from_byte f hf
  have C0 : Hid (∀ W : World, Calls Try.prog 32 #[.agg (blk (layF nought 0 64 f)), .int .i64 0] W fun e w' => e = .returned (.int .u16 (numN f 0 2)) ∧ Below W.heap.size W w') := fun W => by
    have := u16_any (layF nought 0 64 f) ((0 : Nat) : Int) W hby; rwa [num_in _ _ _ (by omega), from_lay f 0 2 (by omega)] at this
  have C1 : Hid (∀ W : World, Calls Try.prog 32 #[.agg (blk (layF nought 0 64 f)), .int .i64 2] W fun e w' => e = .returned (.int .u16 (numN f 2 2)) ∧ Below W.heap.size W w') := fun W => by
    have := u16_any (layF nought 0 64 f) ((2 : Nat) : Int) W hby; rwa [num_in _ _ _ (by omega), from_lay f 2 2 (by omega)] at this
  have C2 : Hid (∀ W : World, Calls Try.prog 31 #[.agg (blk (layF nought 0 64 f)), .int .i64 4] W fun e w' => e = .returned (.int .u32 (numN f 4 4)) ∧ Below W.heap.size W w') := fun W => by
    have := u32_any (layF nought 0 64 f) ((4 : Nat) : Int) W hby; rwa [num_in _ _ _ (by omega), from_lay f 4 4 (by omega)] at this
  have C3 : Hid (∀ W : World, Calls Try.prog 31 #[.agg (blk (layF nought 0 64 f)), .int .i64 8] W fun e w' => e = .returned (.int .u32 (numN f 8 4)) ∧ Below W.heap.size W w') := fun W => by
    have := u32_any (layF nought 0 64 f) ((8 : Nat) : Int) W hby; rwa [num_in _ _ _ (by omega), from_lay f 8 4 (by omega)] at this
  have CM : Hid (∀ (m : Nat) (W : World), m < 12 → Calls Try.prog 31 #[.agg (blk (layF nought 0 64 f)), .int .i64 (12 + 4 * (m : Int))] W fun e w' => e = .returned (.int .u32 (decD f m)) ∧ Below W.heap.size W w') := fun m W hm => by
    have := u32_any (layF nought 0 64 f) ((12 + 4 * m : Nat) : Int) W hby
    rw [num_in _ _ _ (by omega), from_lay f (12 + 4 * m) 4 (by omega)] at this
    rwa [show ((12 + 4 * m : Nat) : Int) = 12 + 4 * (m : Int) by omega] at this
  have hlay := fun (W : World) (p : Value) (hp : Lies W p 64 f) => lay_any nought 0 p 64 f W (by omega) hp
  have hl : Lies ((w.alloc (.cells (rowA f 64) 31)).alloc (.cells (node16 0 0 0 0 nought) 27)) (.slice (some ⟨w.heap.size, 0, none⟩) 64 64) 64 f :=
    .inr ⟨w.heap.size, 0, 64, rfl, by unfold maxLen; omega, by omega, by simp; omega, fun i hi => by rw [Nat.zero_add]; exact cell_row (heap_alloc2_old _ _ _) i hi⟩
  have HLAY := hlay _ _ hl
  unfold decN
  generalize numN f 0 2 = x0 at *
  generalize numN f 2 2 = x1 at *
  generalize numN f 4 4 = x2 at *
  generalize numN f 8 4 = x3 at *
  generalize layF nought 0 64 f = F at *
  generalize decD f = d at *
  clear hlay hby hl
  go_enter Try.func11, Try.ntmps11
  go_wp2_with (first | (go_at_call 30; fail))
  refine HLAY.mono ?_
  rintro e W1 ⟨rfl, hb1⟩
  have HS1 : Hid (DecS w ((W1.alloc (.cells (blk F) 59)).alloc (.cells (w12 nought) 62)) W1.heap.size F nought) :=
    ⟨heap_kept (heap_kept (heap_kept (heap_alloc2_new w _ _) hb1) (below_new _ _)) (below_new _ _), heap_alloc2_old _ _ _, heap_alloc2_new _ _ _, by have := hb1.size; simpa using this, below_next (below_next (below_next (bel_al (below_new _ _) _) hb1) (below_new _ _)) (below_new _ _)⟩
  clear HLAY hb1
  go_wp2_with (first | refine wpList_store25_new rfl _ _ rfl _ _ rfl rfl ?_)
  go_loopw [9] (fun s9 wx => ∃ (m : Nat) (e : Nat → Int), m ≤ 12 ∧ s9 = .int .i64 m ∧ (∀ i, i < m → e i = d i) ∧ DecS w wx W1.heap.size F e) (fun s9 _ => 12 - (intOf s9).toNat)
  case atStart => exact ⟨0, nought, by omega, rfl, fun i hi => absurd hi (by omega), HS1.out⟩
  case round =>
    obtain ⟨m, e, hm, rfl, he, hst⟩ := hrel
    have HT : Hid _ := hst
    have HE : Hid _ := he
    clear hst he HS1
    by_cases h12 : (m : Int) < 12
    · have HST : Hid _ := fun W => CM.out m W (by omega)
      have HPL : Hid _ := fun (W : World) => nplace_any m W (by omega)
      have HU : Hid (∀ i, i < m + 1 → upd e m (d m) i = d i) := fun i hi => by
        unfold upd; split
        · rename_i q; rw [q]
        · exact HE.out i (by omega)
      clear C0 C1 C2 C3 CM HE
      generalize d m = x at *
      go_wp2
      have HD : Hid _ := HT.out.drew
      clear HT
      refine wp_region_ord (S := fun u => u.heap[W1.heap.size]? = some (.cells (blk F) 59)) [(0, true), (1, true), (2, true), (3, false), (4, false), (5, true), (6, false)]
        (by kernel_rfl) rfl (by kernel_rfl) (fun d _ _ _ _ h => by cases d <;> exact h) HD.out.blk ?_
      generalize wr.drew = wd at *
      simp only [inOrd, List.getElem?_cons_zero, List.getElem?_cons_succ]
      refine wpOrd_yield (v := .int .i64 (m : Int)) rfl (fun u _ => by simp [execOp, Act.eval]) ?_
      simp only [Act.put, List.setIfInBounds_toArray, List.set_cons_succ, List.set_cons_zero]
      refine wpOrd_ldRT 59 Try.underlying59 rfl rfl _ rfl _ rfl (blk F) 59 (0, 0) (by rw [blk_size]; exact size25) (fun u hu => hu) ?_
      simp only [Act.put, List.setIfInBounds_toArray, List.set_cons_succ, List.set_cons_zero]
      refine wpOrd_yield (v := .int .i64 (m : Int)) rfl (fun u _ => by simp [execOp, Act.eval]) ?_
      simp only [Act.put, List.setIfInBounds_toArray, List.set_cons_succ, List.set_cons_zero]
      refine wpOrd_call rfl 26 _ _ rfl Try.call26 [.int .i64 (m : Int)] rfl ?_
      refine (HPL.out _).mono ?_
      rintro e' X ⟨rfl, rfl⟩
      refine ⟨_, rfl, HD.out.blk, ?_⟩
      simp only [Act.put, List.setIfInBounds_toArray, List.set_cons_succ, List.set_cons_zero]
      refine wpOrd_call rfl 31 _ _ rfl Try.call31 [.agg (blk F), .int .i64 (12 + 4 * (m : Int))] rfl ?_
      refine (HST.out _).mono ?_
      rintro e' X ⟨rfl, hbx⟩
      have HX1 : Hid _ := HD.out.call hbx
      refine ⟨_, rfl, HX1.out.blk, ?_⟩
      simp only [Act.put, List.setIfInBounds_toArray, List.set_cons_succ, List.set_cons_zero]
      refine wpOrd_yield (v := .pointer (some ⟨W1.heap.size + 1, m, none⟩)) rfl (fun u _ => by go_simp) ?_
      simp only [Act.put, List.setIfInBounds_toArray, List.set_cons_succ, List.set_cons_zero]
      have HX2 : Hid _ := HX1.out.store (upd e m x)
      refine wpOrd_stC rfl _ _ rfl (W1.heap.size + 1) m (w12 e) 62 x (by rw [w12_size]; omega) rfl rfl HX1.out.row ?_
      rw [w12_set]
      refine ⟨HX2.out.blk, ?_⟩
      refine wpOrd_nil ?_
      simp only [Act.put]
      generalize X.setRow (W1.heap.size + 1) (w12 (upd e m x)) = Y at HX2 ⊢
      clear HX1 HD hbx HST HPL
      go_wp2
      exact ⟨⟨m + 1, upd e m x, by omega, by go_num, HU.out, HX2.out⟩, by simp [intOf]; omega⟩
    · obtain rfl : m = 12 := by omega
      have HC : Hid (node16 x0 x1 x2 x3 e = node16 x0 x1 x2 x3 d) := node_congr rfl rfl rfl rfl HE.out
      clear hm CM HE
      go_wp2
      have HD : Hid _ := HT.out.drew
      clear HT
      have ha := fun u => arrayAt25 (some ⟨W1.heap.size + 1, 0, none⟩) 10 12 (by omega) u
      refine wp_region_ord (S := fun u => u.heap[W1.heap.size]? = some (.cells (blk F) 59) ∧ u.heap[W1.heap.size + 1]? = some (.cells (w12 e) 62)) [(0, true), (2, true), (4, true), (6, true), (8, true), (9, true), (10, true), (11, true), (12, true), (13, true), (14, true), (1, false), (3, false), (5, false), (7, false), (15, true), (16, false)]
        (by kernel_rfl) rfl (by kernel_rfl) (fun d _ _ _ _ h => by cases d <;> exact h) ⟨HD.out.blk, HD.out.row⟩ ?_
      generalize wr.drew = wd at *
      simp only [inOrd, List.getElem?_cons_zero, List.getElem?_cons_succ]
      iterate 4
        refine wpOrd_ldRT 59 Try.underlying59 rfl rfl _ rfl _ rfl (blk F) 59 (0, 0) (by rw [blk_size]; exact size25) (fun u hu => hu.1) ?_
        simp only [Act.put, List.setIfInBounds_toArray, List.set_cons_succ, List.set_cons_zero]
      refine wpOrd_yield (v := .slice (some ⟨W1.heap.size + 1, 0, none⟩) 10 12) rfl (fun u _ => by go_simp) ?_
      simp only [Act.put, List.setIfInBounds_toArray, List.set_cons_succ, List.set_cons_zero]
      refine wpOrd_yield (v := .pointer (some ⟨W1.heap.size + 1, 0, none⟩)) rfl (fun u _ => by simp [execOp, Act.eval, ha]) ?_
      simp only [Act.put, List.setIfInBounds_toArray, List.set_cons_succ, List.set_cons_zero]
      refine wpOrd_yield (v := .agg #[.int .u32 (e 0), .int .u32 (e 1), .int .u32 (e 2), .int .u32 (e 3), .int .u32 (e 4), .int .u32 (e 5), .int .u32 (e 6), .int .u32 (e 7), .int .u32 (e 8), .int .u32 (e 9)]) rfl (fun u hu => by simp [execOp, Act.eval, load10 u _ e 62 hu.2]) ?_
      simp only [Act.put, List.setIfInBounds_toArray, List.set_cons_succ, List.set_cons_zero]
      refine wpOrd_yield (v := .pointer (some ⟨W1.heap.size + 1, 10, none⟩)) rfl (fun u _ => by go_simp) ?_
      simp only [Act.put, List.setIfInBounds_toArray, List.set_cons_succ, List.set_cons_zero]
      refine wpOrd_ldCT 24 (fun w => Try.isAgg24 w) rfl _ rfl _ _ rfl (.int .u32 (e 10)) (fun u hu => (cell_of_row u _ 10 _ 62 _ hu.2).trans rfl) ?_
      simp only [Act.put, List.setIfInBounds_toArray, List.set_cons_succ, List.set_cons_zero]
      refine wpOrd_yield (v := .pointer (some ⟨W1.heap.size + 1, 11, none⟩)) rfl (fun u _ => by go_simp) ?_
      simp only [Act.put, List.setIfInBounds_toArray, List.set_cons_succ, List.set_cons_zero]
      refine wpOrd_ldCT 24 (fun w => Try.isAgg24 w) rfl _ rfl _ _ rfl (.int .u32 (e 11)) (fun u hu => (cell_of_row u _ 11 _ 62 _ hu.2).trans rfl) ?_
      simp only [Act.put, List.setIfInBounds_toArray, List.set_cons_succ, List.set_cons_zero]
      refine wpOrd_call rfl 32 _ _ rfl Try.call32 [.agg (blk F), .int .i64 0] rfl ?_
      refine (C0.out _).mono ?_
      rintro e' X1 ⟨rfl, hbx⟩
      have HD1 : Hid _ := HD.out.call hbx
      clear hbx HD C0
      refine ⟨_, rfl, ⟨HD1.out.blk, HD1.out.row⟩, ?_⟩
      simp only [Act.put, List.setIfInBounds_toArray, List.set_cons_succ, List.set_cons_zero]
      refine wpOrd_call rfl 32 _ _ rfl Try.call32 [.agg (blk F), .int .i64 2] rfl ?_
      refine (C1.out _).mono ?_
      rintro e' X2 ⟨rfl, hbx⟩
      have HD2 : Hid _ := HD1.out.call hbx
      clear hbx HD1 C1
      refine ⟨_, rfl, ⟨HD2.out.blk, HD2.out.row⟩, ?_⟩
      simp only [Act.put, List.setIfInBounds_toArray, List.set_cons_succ, List.set_cons_zero]
      refine wpOrd_call rfl 31 _ _ rfl Try.call31 [.agg (blk F), .int .i64 4] rfl ?_
      refine (C2.out _).mono ?_
      rintro e' X3 ⟨rfl, hbx⟩
      have HD3 : Hid _ := HD2.out.call hbx
      clear hbx HD2 C2
      refine ⟨_, rfl, ⟨HD3.out.blk, HD3.out.row⟩, ?_⟩
      simp only [Act.put, List.setIfInBounds_toArray, List.set_cons_succ, List.set_cons_zero]
      refine wpOrd_call rfl 31 _ _ rfl Try.call31 [.agg (blk F), .int .i64 8] rfl ?_
      refine (C3.out _).mono ?_
      rintro e' X4 ⟨rfl, hbx⟩
      have HD4 : Hid _ := HD3.out.call hbx
      clear hbx HD3 C3
      refine ⟨_, rfl, ⟨HD4.out.blk, HD4.out.row⟩, ?_⟩
      simp only [Act.put, List.setIfInBounds_toArray, List.set_cons_succ, List.set_cons_zero]
      refine wpOrd_yield (v := .agg (node16 x0 x1 x2 x3 e)) rfl (fun u _ => by unfold node16 at z27 ⊢; go_simp) ?_
      simp only [Act.put, List.setIfInBounds_toArray, List.set_cons_succ, List.set_cons_zero]
      rw [HC.out]
      refine wpOrd_stR 27 rfl _ _ rfl (w.heap.size + 1) (node16 x0 x1 x2 x3 d) _ 27 (by exact size27) (by rfl) (node_one _ _ _ _ _) rfl rfl HD4.out.res ⟨⟨(setRow_other _ _ _ _ (by have := HD4.out.far; omega)).trans HD4.out.blk, (setRow_other _ _ _ _ (by have := HD4.out.far; omega)).trans HD4.out.row⟩, ?_⟩
      refine wpOrd_nil ?_
      simp only [Act.put]
      have HRR : Hid _ := setRow_heap _ (w.heap.size + 1) _ (node16 x0 x1 x2 x3 d) 27 (0, 0) HD4.out.res
      have HBB : Hid _ := below_setRow HD4.out.bel (show w.heap.size ≤ w.heap.size + 1 by omega) (node16 x0 x1 x2 x3 d)
      generalize X4.setRow (w.heap.size + 1) (node16 x0 x1 x2 x3 d) = Y at HRR HBB ⊢
      clear HD4
      go_wp2
      exact retR Try.underlying27 rfl rfl (w.heap.size + 1) _ 27 (by exact size27) rfl HRR.out rfl ⟨rfl, HBB.out⟩
end Go.Proofs.Ytohknfoljnddjaa
