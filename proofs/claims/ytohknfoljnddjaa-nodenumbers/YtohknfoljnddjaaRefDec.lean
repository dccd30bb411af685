/- The document's Decode of an inode; for all bytes. -/
import Derived.Test.YtohknfoljnddjaaDec
import Derived.Test.YtohknfoljnddjaaTree
namespace Go.Proofs.Ytohknfoljnddjaa
open Go.RowKit

theorem node_set (k l s b : Int) (e : Nat → Int) (i : Nat) (hi : i < 12) (x : Int) : (node16 k l s b e).setIfInBounds (4 + i) (.int .u32 x) = node16 k l s b (upd e i x) :=
  match i, hi with
  | 0, _ | 1, _ | 2, _ | 3, _ | 4, _ | 5, _ | 6, _ | 7, _ | 8, _ | 9, _ | 10, _ | 11, _ => rfl
theorem wpList_stC {ops : Array Oper} {rest : List Oper} {o : Oper} {a : Act} {w : World} {Q : Exit → Act → World → Prop} (hgd : o.guard = none) (p y : Operand) (ho : o.op = .store 24 p y)
    (g j : Nat) (cs : Array Value) (t : TypeId) (x : Int) (hj : j < cs.size) (hx : a.eval p = .pointer (some ⟨g, j, none⟩)) (hy : a.eval y = .int .u32 x) (hg : w.heap[g]? = some (.cells cs t))
    (h : wpList Try.prog ops Q rest (a.put o.dst undef) (w.setRow g (cs.setIfInBounds j (.int .u32 x)))) : wpList Try.prog ops Q (o :: rest) a w :=
  wpList_plain hgd fun _ hK => by
    unfold Oper.wp execOp
    simp only [ho, hx, hy, Sem.run_bind, run_stC w g j cs t hg hj x, Sem.run_pure, Result.andThen_ok]
    exact hK _ _ h
/-- The bytes' row, a row for the result, and (g) one for the inode. -/
structure DR (w W : World) (f : Nat → Int) : Prop where
  row : W.heap[w.heap.size]? = some (.cells (rowA f 64) 29)
  res : W.heap[w.heap.size + 1]? = some (.cells (node16 0 0 0 0 nought) 27)
  bel : Below w.heap.size w W
structure DRN (w W : World) (f : Nat → Int) (g : Nat) (N : Array Value) : Prop where
  row : W.heap[w.heap.size]? = some (.cells (rowA f 64) 29)
  res : W.heap[w.heap.size + 1]? = some (.cells (node16 0 0 0 0 nought) 27)
  node : W.heap[g]? = some (.cells N 27)
  far : w.heap.size + 2 ≤ g
  bel : Below w.heap.size w W
theorem DR.call {w W W' : World} {f : Nat → Int} (h : DR w W f) (hb : Below W.heap.size W W') : DR w W' f := ⟨heap_kept h.row hb, heap_kept h.res hb, below_next h.bel hb⟩
theorem DR.alloc {w W : World} {f : Nat → Int} (h : DR w W f) : DRN w (W.alloc (.cells (node16 0 0 0 0 nought) 27)) f W.heap.size (node16 0 0 0 0 nought) :=
  ⟨heap_kept h.row (below_new _ _), heap_kept h.res (below_new _ _), heap_alloc_new _ _, (Array.getElem?_eq_some_iff.1 h.res).1, below_next h.bel (below_new _ _)⟩
theorem DRN.call {w W W' : World} {f : Nat → Int} {g : Nat} {N : Array Value} (h : DRN w W f g N) (hb : Below W.heap.size W W') : DRN w W' f g N := ⟨heap_kept h.row hb, heap_kept h.res hb, heap_kept h.node hb, h.far, below_next h.bel hb⟩
theorem DRN.store {w W : World} {f : Nat → Int} {g : Nat} {N : Array Value} (h : DRN w W f g N) (N' : Array Value) (_ : N'.size = 16) : DRN w (W.setRow g N') f g N' :=
  ⟨(setRow_other _ _ _ _ (by have := h.far; omega)).trans h.row, (setRow_other _ _ _ _ (by have := h.far; omega)).trans h.res, setRow_heap _ _ _ _ _ _ h.node, h.far, below_setRow h.bel (by have := h.far; omega) _⟩
theorem run_alloc27 {o : Oper} {a : Act} (w : World) (ho : o.op = .alloc 27) : (execOp a.eval o).run Try.prog w = .ok (.value (.pointer (some ⟨w.heap.size, 0, none⟩))) (w.alloc (.cells (node16 0 0 0 0 nought) 27)) := by
  have z27 := zero27 w
  unfold execOp
  simp only [ho]
  simp [go_sem, z27]
theorem run_st27 {o : Oper} {a : Act} (w : World) (g : Nat) {N0 : Array Value} (hg : w.heap[g]? = some (.cells N0 27)) (x y : Operand) (hx : a.eval x = .pointer (some ⟨g, 0, none⟩)) {N : Array Value} (hy : a.eval y = .agg N) (h0 : N0.size = 16) (hN : N.size = 16) (h1 : N.all (·.oneCell') = true) (ho : o.op = .store 27 x y) : (execOp a.eval o).run Try.prog w = .ok .skip (w.setRow g N) := by
  have hi : (Try.prog.info? 27).map (·.size) = some N.size := by rw [hN]; exact size27
  unfold execOp
  simp only [ho, hx, hy, Instr.storeAt, Instr.sureAddr, Sem.run_bind, Sem.run_pure, Result.andThen_ok, run_storeVar_row w g 27 27 N0 N hg hi (by rw [h0, hN]) h1]

theorem run_build27 {t : List Value} (x0 x1 x2 x3 : Int) (u : World) (h7 : t.toArray.getD 7 undef = .int .u16 x0) (h10 : t.toArray.getD 10 undef = .int .u16 x1) (h12 : t.toArray.getD 12 undef = .int .u32 x2) (h14 : t.toArray.getD 14 undef = .int .u32 x3) {o : Oper} (ho : o.op = .build 27 #[(0, .tmp 7), (1, .tmp 10), (2, .tmp 12), (3, .tmp 14)]) :
    (execOp (Act.eval ⟨t.toArray, []⟩) o).run Try.prog u = .ok (.value (.agg (node16 x0 x1 x2 x3 nought))) u := by
  have e7 : Act.eval ⟨t.toArray, []⟩ (.tmp 7) = .int .u16 x0 := h7
  have e10 : Act.eval ⟨t.toArray, []⟩ (.tmp 10) = .int .u16 x1 := h10
  have e12 : Act.eval ⟨t.toArray, []⟩ (.tmp 12) = .int .u32 x2 := h12
  have e14 : Act.eval ⟨t.toArray, []⟩ (.tmp 14) = .int .u32 x3 := h14
  generalize Act.eval ⟨t.toArray, []⟩ = E at *
  have z27 := zero27 u
  unfold node16 nought at *
  unfold execOp
  simp only [ho]
  simp [go_sem, e7, e10, e12, e14, z27]
theorem run_ldR (ty : TypeId) {d : TypeDesc} (hu : Try.prog.underlying ty = some d) (hd : d.isRow = true) {o : Oper} {a : Act} {u : World} (x : Operand) (ho : o.op = .load ty x) (g : Nat) (hx : a.eval x = .pointer (some ⟨g, 0, none⟩)) {cs : Array Value} {t : TypeId} (hg : u.heap[g]? = some (.cells cs t)) (hi : (Try.prog.info? ty).map (·.size) = some cs.size) : (execOp a.eval o).run Try.prog u = .ok (.value (.agg cs)) u := by
  unfold execOp
  simp only [ho, hx, Instr.loadAt, Instr.sureAddr, Sem.run_bind, Sem.run_pure, Result.andThen_ok, run_loadVar_row u g t ty cs (0, 0) d hg hu (by cases d <;> first | rfl | cases hd) hi]
set_option maxRecDepth 20000 in
set_option maxHeartbeats 4000000 in
theorem refDecode_any (f : Nat → Int) (w : World) (hf : ∀ i, 0 ≤ f i ∧ f i ≤ 255) :
    Calls Try.prog 12 #[.agg (rowA f 64)] w fun e w' => e = .returned (.agg (decN f)) ∧ Below w.heap.size w w' := by
  have z27 := zero27
  have C0 : Hid (∀ W : World, Calls Try.prog 33 #[.agg (rowA f 64), .int .i64 0, .int .i64 2] W fun e w' => e = .returned (.int .u32 (numN f 0 2)) ∧ Below W.heap.size W w') := fun W => get_any f 0 2 W (by omega) (by omega) hf
  have C1 : Hid (∀ W : World, Calls Try.prog 33 #[.agg (rowA f 64), .int .i64 2, .int .i64 2] W fun e w' => e = .returned (.int .u32 (numN f 2 2)) ∧ Below W.heap.size W w') := fun W => get_any f 2 2 W (by omega) (by omega) hf
  have C2 : Hid (∀ W : World, Calls Try.prog 33 #[.agg (rowA f 64), .int .i64 4, .int .i64 4] W fun e w' => e = .returned (.int .u32 (numN f 4 4)) ∧ Below W.heap.size W w') := fun W => get_any f 4 4 W (by omega) (by omega) hf
  have C3 : Hid (∀ W : World, Calls Try.prog 33 #[.agg (rowA f 64), .int .i64 8, .int .i64 4] W fun e w' => e = .returned (.int .u32 (numN f 8 4)) ∧ Below W.heap.size W w') := fun W => get_any f 8 4 W (by omega) (by omega) hf
  have CM : Hid (∀ (m : Nat) (W : World), m < 12 → Calls Try.prog 33 #[.agg (rowA f 64), .int .i64 (12 + 4 * (m : Int)), .int .i64 4] W fun e w' => e = .returned (.int .u32 (decD f m)) ∧ Below W.heap.size W w') := fun m W hm => by
    have := get_any f (12 + 4 * m) 4 W (by omega) (by omega) hf
    rwa [show ((12 + 4 * m : Nat) : Int) = 12 + 4 * (m : Int) by omega] at this
  have C10 : Hid (∀ W : World, Calls Try.prog 33 #[.agg (rowA f 64), .int .i64 52, .int .i64 4] W fun e w' => e = .returned (.int .u32 (decD f 10)) ∧ Below W.heap.size W w') := fun W => CM.out 10 W (by omega)
  have C11 : Hid (∀ W : World, Calls Try.prog 33 #[.agg (rowA f 64), .int .i64 56, .int .i64 4] W fun e w' => e = .returned (.int .u32 (decD f 11)) ∧ Below W.heap.size W w') := fun W => CM.out 11 W (by omega)
  have HW0 : Hid (IntKind.u16.wrap (numN f 0 2) = numN f 0 2) := by show _ = _; rw [wrap_u16]; have := numN_bd f hf 2 0; omega
  have HW1 : Hid (IntKind.u16.wrap (numN f 2 2) = numN f 2 2) := by show _ = _; rw [wrap_u16]; have := numN_bd f hf 2 2; omega
  unfold decN
  generalize numN f 0 2 = x0 at *
  generalize numN f 2 2 = x1 at *
  generalize numN f 4 4 = x2 at *
  generalize numN f 8 4 = x3 at *
  generalize decD f = d at *
  clear hf
  have HD0 : Hid (DR w ((w.alloc (.cells (rowA f 64) 29)).alloc (.cells (node16 0 0 0 0 nought) 27)).drew f) := ⟨heap_alloc2_old _ _ _, heap_alloc2_new _ _ _, (bel_al (below_new _ _) _).drew⟩
  go_enter Try.func12, Try.ntmps12
  go_wp2
  refine wp_region_tree (S := fun u => u.heap[w.heap.size]? = some (.cells (rowA f 64) 29)) (rdT 0 (rdT 3 (rdT 6 (rdT 8 (altT [(1, (rdT 2 (altT [(4, (rdT 5 (altT [(7, (altT [(9, (rdT 10 (altT [(11, (altT [(12, finT)]))]))), (11, (altT [(9, (rdT 10 (altT [(12, finT)])))]))])), (11, (altT [(7, (altT [(9, (rdT 10 (altT [(12, finT)])))]))]))]))), (11, (altT [(4, (rdT 5 (altT [(7, (altT [(9, (rdT 10 (altT [(12, finT)])))]))])))]))]))), (11, (altT [(1, (rdT 2 (altT [(4, (rdT 5 (altT [(7, (altT [(9, (rdT 10 (altT [(12, finT)])))]))])))])))]))])))))
    (by kernel_rfl) rfl (by kernel_rfl) (fun d _ _ _ _ h => by cases d <;> exact h) HD0.out.row ?_
  generalize ((w.alloc (.cells (rowA f 64) 29)).alloc (.cells (node16 0 0 0 0 nought) 27)).drew = wd at *
  iterate 4
    refine wpT_yield (v := .agg (rowA f 64)) rfl rfl (fun u hu => run_ldR 29 Try.underlying29 rfl _ rfl w.heap.size rfl hu (by rw [rowA_size]; exact size29)) ?_
    simp only [Act.put, List.setIfInBounds_toArray, List.set_cons_succ, List.set_cons_zero]
  refine wpT_call rfl rfl 33 _ _ rfl Try.call33 [.agg (rowA f 64), .int .i64 0, .int .i64 2] rfl ?_ ?_
  · refine (C0.out _).mono ?_
    rintro e' X1 ⟨rfl, hb⟩
    have HD1 : Hid _ := HD0.out.call hb
    clear hb
    refine ⟨_, rfl, HD1.out.row, ?_⟩
    simp only [Act.put, List.setIfInBounds_toArray, List.set_cons_succ, List.set_cons_zero]
    refine wpT_yield (v := .int .u16 x0) rfl rfl (fun u _ => by go_simp; exact HW0.out) ?_
    simp only [Act.put, List.setIfInBounds_toArray, List.set_cons_succ, List.set_cons_zero]
    refine wpT_call rfl rfl 33 _ _ rfl Try.call33 [.agg (rowA f 64), .int .i64 2, .int .i64 2] rfl ?_ ?_
    · refine (C1.out _).mono ?_
      rintro e' X2 ⟨rfl, hb⟩
      have HD2 : Hid _ := HD1.out.call hb
      clear hb
      refine ⟨_, rfl, HD2.out.row, ?_⟩
      simp only [Act.put, List.setIfInBounds_toArray, List.set_cons_succ, List.set_cons_zero]
      refine wpT_yield (v := .int .u16 x1) rfl rfl (fun u _ => by go_simp; exact HW1.out) ?_
      simp only [Act.put, List.setIfInBounds_toArray, List.set_cons_succ, List.set_cons_zero]
      refine wpT_call rfl rfl 33 _ _ rfl Try.call33 [.agg (rowA f 64), .int .i64 4, .int .i64 4] rfl ?_ ?_
      · refine (C2.out _).mono ?_
        rintro e' X3 ⟨rfl, hb⟩
        have HD3 : Hid _ := HD2.out.call hb
        clear hb
        refine ⟨_, rfl, HD3.out.row, ?_⟩
        simp only [Act.put, List.setIfInBounds_toArray, List.set_cons_succ, List.set_cons_zero]
        refine wpT_call rfl rfl 33 _ _ rfl Try.call33 [.agg (rowA f 64), .int .i64 8, .int .i64 4] rfl ?_ ?_
        · refine (C3.out _).mono ?_
          rintro e' X4 ⟨rfl, hb⟩
          have HD4 : Hid _ := HD3.out.call hb
          clear hb
          refine ⟨_, rfl, HD4.out.row, ?_⟩
          simp only [Act.put, List.setIfInBounds_toArray, List.set_cons_succ, List.set_cons_zero]
          refine wpT_yield (v := .agg (node16 x0 x1 x2 x3 nought)) rfl rfl (fun u _ => run_build27 x0 x1 x2 x3 u rfl rfl rfl rfl rfl) ?_
          simp only [Act.put, List.setIfInBounds_toArray, List.set_cons_succ, List.set_cons_zero]
          refine wpT_make (v := .pointer (some ⟨X4.heap.size, 0, none⟩)) (w' := X4.alloc (.cells (node16 0 0 0 0 nought) 27)) rfl rfl (run_alloc27 _ rfl) (HD4.out.alloc).row ?_ wpT_stop
          have HA : Hid _ := HD4.out.alloc
          simp only [Act.put, List.setIfInBounds_toArray, List.set_cons_succ, List.set_cons_zero]
          generalize X4.heap.size = g at *
          generalize X4.alloc (.cells (node16 0 0 0 0 nought) 27) = WA at *
          have HT0 : Hid _ := HA.out.store (node16 x0 x1 x2 x3 nought) rfl
          refine wpT_do (w' := WA.setRow g (node16 x0 x1 x2 x3 nought)) rfl rfl (run_st27 _ _ HA.out.node _ _ rfl rfl rfl rfl (node_one _ _ _ _ _) rfl) HT0.out.row ?_ wpT_stop
          simp only [Act.put]
          generalize WA.setRow g (node16 x0 x1 x2 x3 nought) = Y at *
          refine wpT_fin ?_
          have HH : Hid (DRN w Y f g (node16 x0 x1 x2 x3 nought)) := HT0.out
          have HZ2 : Hid (rowA f 64 = rowA f 64) := rfl
          clear HT0 HW0 HW1 C0 C1 C2 C3
          go_wp2
          go_loopw [4] (fun s4 wx => ∃ (m : Nat) (e : Nat → Int), m ≤ 10 ∧ s4 = .int .i64 m ∧ (∀ i, i < m → e i = d i) ∧ DRN w wx f g (node16 x0 x1 x2 x3 e)) (fun s4 _ => 10 - (intOf s4).toNat)
          case atStart => exact ⟨0, nought, by omega, rfl, fun i hi => absurd hi (by omega), HH.out⟩
          case round =>
            obtain ⟨m, e, hm, rfl, he, hst⟩ := hrel
            have HT : Hid _ := hst
            have HE : Hid _ := he
            clear hst he HH
            by_cases h10 : (m : Int) < 10
            · have HST : Hid _ := fun W => CM.out m W (by omega)
              have HU : Hid (∀ i, i < m + 1 → upd e m (d m) i = d i) := fun i hi => by
                unfold upd; split
                · rename_i q; rw [q]
                · exact HE.out i (by omega)
              clear CM C10 C11 HE
              generalize d m = x at *
              go_wp2_with (first | refine wpList_ldR 29 Try.underlying29 rfl rfl _ rfl _ rfl _ 29 (0, 0) (by rw [rowA_size]; exact size29) HT.out.row ?_ | (go_at_call 33; fail))
              refine (HST.out _).mono ?_
              rintro e' X ⟨rfl, hbx⟩
              have HX1 : Hid _ := HT.out.call hbx
              have HX2 : Hid _ := HX1.out.store (node16 x0 x1 x2 x3 (upd e m x)) rfl
              have HS : Hid _ := node_set x0 x1 x2 x3 e m (by omega) x
              clear hbx HT HST
              go_wp2_with (first | refine wpList_stC rfl _ _ rfl g (4 + m) (node16 x0 x1 x2 x3 e) 27 x (by rw [node_size]; omega) (by simp [Act.eval]) rfl HX1.out.node ?_)
              rw [HS.out]
              exact ⟨⟨m + 1, upd e m x, by omega, by go_num, HU.out, HX2.out⟩, by simp [intOf]; omega⟩
            · obtain rfl : m = 10 := by omega
              have HC : Hid (node16 x0 x1 x2 x3 (upd (upd e 10 (d 10)) 11 (d 11)) = node16 x0 x1 x2 x3 d) := node_congr rfl rfl rfl rfl fun i hi => by
                unfold upd; split
                · rename_i q; rw [q]
                · split
                  · rename_i q; rw [q]
                  · exact HE.out i (by omega)
              clear hm CM HE
              generalize d 10 = y0 at *
              generalize d 11 = y1 at *
              go_wp2_with (first | refine wpList_ldR 29 Try.underlying29 rfl rfl _ rfl _ rfl _ 29 (0, 0) (by rw [rowA_size]; exact size29) HT.out.row ?_ | (go_at_call 33; fail))
              refine (C10.out _).mono ?_
              rintro e' X ⟨rfl, hbx⟩
              have HX1 : Hid _ := HT.out.call hbx
              have HX2 : Hid _ := HX1.out.store (node16 x0 x1 x2 x3 (upd e 10 y0)) rfl
              clear hbx HT C10
              go_wp2_with (first | refine wpList_stC rfl _ _ rfl g 14 (node16 x0 x1 x2 x3 e) 27 y0 (by rw [node_size]; omega) rfl rfl HX1.out.node ?_ | refine wpList_ldR 29 Try.underlying29 rfl rfl _ rfl _ rfl _ 29 (0, 0) (by rw [rowA_size]; exact size29) HX2.out.row ?_ | (go_at_call 33; fail))
              refine (C11.out _).mono ?_
              rintro e' X3 ⟨rfl, hbx⟩
              have HX3 : Hid _ := HX2.out.call hbx
              have HX4 : Hid _ := HX3.out.store (node16 x0 x1 x2 x3 (upd (upd e 10 y0) 11 y1)) rfl
              clear hbx HX1 HX2 C11
              go_wp2_with (first | refine wpList_stC rfl _ _ rfl g 15 (node16 x0 x1 x2 x3 (upd e 10 y0)) 27 y1 (by rw [node_size]; omega) rfl rfl HX3.out.node ?_ | refine wpList_ldR 27 Try.underlying27 rfl rfl _ rfl _ rfl _ 27 (0, 0) (by exact size27) HX4.out.node ?_ | refine wpList_stR 27 rfl _ _ rfl _ (node16 x0 x1 x2 x3 (upd (upd e 10 y0) 11 y1)) _ 27 (by exact size27) (by rfl) (node_one _ _ _ _ _) rfl rfl HX4.out.res ?_)
              exact retR Try.underlying27 rfl rfl (w.heap.size + 1) (node16 x0 x1 x2 x3 (upd (upd e 10 y0) 11 y1)) 27 (by exact size27) rfl (setRow_heap _ _ _ _ _ _ HX4.out.res) rfl ⟨by rw [HC.out], below_setRow HX4.out.bel (by omega) _⟩
        · refine wpT_make (v := .pointer (some ⟨X3.heap.size, 0, none⟩)) (w' := X3.alloc (.cells (node16 0 0 0 0 nought) 27)) rfl rfl (run_alloc27 _ rfl) (HD3.out.alloc).row ?_ wpT_stop
          have HA : Hid _ := HD3.out.alloc
          simp only [Act.put, List.setIfInBounds_toArray, List.set_cons_succ, List.set_cons_zero]
          generalize X3.heap.size = g at *
          generalize X3.alloc (.cells (node16 0 0 0 0 nought) 27) = WA at *
          refine wpT_call rfl rfl 33 _ _ rfl Try.call33 [.agg (rowA f 64), .int .i64 8, .int .i64 4] rfl ?_ ?_
          · refine (C3.out _).mono ?_
            rintro e' X5 ⟨rfl, hb⟩
            have HD5 : Hid _ := HA.out.call hb
            clear hb
            refine ⟨_, rfl, HD5.out.row, ?_⟩
            simp only [Act.put, List.setIfInBounds_toArray, List.set_cons_succ, List.set_cons_zero]
            refine wpT_yield (v := .agg (node16 x0 x1 x2 x3 nought)) rfl rfl (fun u _ => run_build27 x0 x1 x2 x3 u rfl rfl rfl rfl rfl) ?_
            simp only [Act.put, List.setIfInBounds_toArray, List.set_cons_succ, List.set_cons_zero]
            have HT0 : Hid _ := HD5.out.store (node16 x0 x1 x2 x3 nought) rfl
            refine wpT_do (w' := X5.setRow g (node16 x0 x1 x2 x3 nought)) rfl rfl (run_st27 _ _ HD5.out.node _ _ rfl rfl rfl rfl (node_one _ _ _ _ _) rfl) HT0.out.row ?_ wpT_stop
            simp only [Act.put]
            generalize X5.setRow g (node16 x0 x1 x2 x3 nought) = Y at *
            refine wpT_fin ?_
            have HH : Hid (DRN w Y f g (node16 x0 x1 x2 x3 nought)) := HT0.out
            have HZ2 : Hid (rowA f 64 = rowA f 64) := rfl
            clear HT0 HW0 HW1 C0 C1 C2 C3
            go_wp2
            go_loopw [4] (fun s4 wx => ∃ (m : Nat) (e : Nat → Int), m ≤ 10 ∧ s4 = .int .i64 m ∧ (∀ i, i < m → e i = d i) ∧ DRN w wx f g (node16 x0 x1 x2 x3 e)) (fun s4 _ => 10 - (intOf s4).toNat)
            case atStart => exact ⟨0, nought, by omega, rfl, fun i hi => absurd hi (by omega), HH.out⟩
            case round =>
              obtain ⟨m, e, hm, rfl, he, hst⟩ := hrel
              have HT : Hid _ := hst
              have HE : Hid _ := he
              clear hst he HH
              by_cases h10 : (m : Int) < 10
              · have HST : Hid _ := fun W => CM.out m W (by omega)
                have HU : Hid (∀ i, i < m + 1 → upd e m (d m) i = d i) := fun i hi => by
                  unfold upd; split
                  · rename_i q; rw [q]
                  · exact HE.out i (by omega)
                clear CM C10 C11 HE
                generalize d m = x at *
                go_wp2_with (first | refine wpList_ldR 29 Try.underlying29 rfl rfl _ rfl _ rfl _ 29 (0, 0) (by rw [rowA_size]; exact size29) HT.out.row ?_ | (go_at_call 33; fail))
                refine (HST.out _).mono ?_
                rintro e' X ⟨rfl, hbx⟩
                have HX1 : Hid _ := HT.out.call hbx
                have HX2 : Hid _ := HX1.out.store (node16 x0 x1 x2 x3 (upd e m x)) rfl
                have HS : Hid _ := node_set x0 x1 x2 x3 e m (by omega) x
                clear hbx HT HST
                go_wp2_with (first | refine wpList_stC rfl _ _ rfl g (4 + m) (node16 x0 x1 x2 x3 e) 27 x (by rw [node_size]; omega) (by simp [Act.eval]) rfl HX1.out.node ?_)
                rw [HS.out]
                exact ⟨⟨m + 1, upd e m x, by omega, by go_num, HU.out, HX2.out⟩, by simp [intOf]; omega⟩
              · obtain rfl : m = 10 := by omega
                have HC : Hid (node16 x0 x1 x2 x3 (upd (upd e 10 (d 10)) 11 (d 11)) = node16 x0 x1 x2 x3 d) := node_congr rfl rfl rfl rfl fun i hi => by
                  unfold upd; split
                  · rename_i q; rw [q]
                  · split
                    · rename_i q; rw [q]
                    · exact HE.out i (by omega)
                clear hm CM HE
                generalize d 10 = y0 at *
                generalize d 11 = y1 at *
                go_wp2_with (first | refine wpList_ldR 29 Try.underlying29 rfl rfl _ rfl _ rfl _ 29 (0, 0) (by rw [rowA_size]; exact size29) HT.out.row ?_ | (go_at_call 33; fail))
                refine (C10.out _).mono ?_
                rintro e' X ⟨rfl, hbx⟩
                have HX1 : Hid _ := HT.out.call hbx
                have HX2 : Hid _ := HX1.out.store (node16 x0 x1 x2 x3 (upd e 10 y0)) rfl
                clear hbx HT C10
                go_wp2_with (first | refine wpList_stC rfl _ _ rfl g 14 (node16 x0 x1 x2 x3 e) 27 y0 (by rw [node_size]; omega) rfl rfl HX1.out.node ?_ | refine wpList_ldR 29 Try.underlying29 rfl rfl _ rfl _ rfl _ 29 (0, 0) (by rw [rowA_size]; exact size29) HX2.out.row ?_ | (go_at_call 33; fail))
                refine (C11.out _).mono ?_
                rintro e' X3 ⟨rfl, hbx⟩
                have HX3 : Hid _ := HX2.out.call hbx
                have HX4 : Hid _ := HX3.out.store (node16 x0 x1 x2 x3 (upd (upd e 10 y0) 11 y1)) rfl
                clear hbx HX1 HX2 C11
                go_wp2_with (first | refine wpList_stC rfl _ _ rfl g 15 (node16 x0 x1 x2 x3 (upd e 10 y0)) 27 y1 (by rw [node_size]; omega) rfl rfl HX3.out.node ?_ | refine wpList_ldR 27 Try.underlying27 rfl rfl _ rfl _ rfl _ 27 (0, 0) (by exact size27) HX4.out.node ?_ | refine wpList_stR 27 rfl _ _ rfl _ (node16 x0 x1 x2 x3 (upd (upd e 10 y0) 11 y1)) _ 27 (by exact size27) (by rfl) (node_one _ _ _ _ _) rfl rfl HX4.out.res ?_)
                exact retR Try.underlying27 rfl rfl (w.heap.size + 1) (node16 x0 x1 x2 x3 (upd (upd e 10 y0) 11 y1)) 27 (by exact size27) rfl (setRow_heap _ _ _ _ _ _ HX4.out.res) rfl ⟨by rw [HC.out], below_setRow HX4.out.bel (by omega) _⟩
          · exact wpT_stop
      · refine wpT_make (v := .pointer (some ⟨X2.heap.size, 0, none⟩)) (w' := X2.alloc (.cells (node16 0 0 0 0 nought) 27)) rfl rfl (run_alloc27 _ rfl) (HD2.out.alloc).row ?_ wpT_stop
        have HA : Hid _ := HD2.out.alloc
        simp only [Act.put, List.setIfInBounds_toArray, List.set_cons_succ, List.set_cons_zero]
        generalize X2.heap.size = g at *
        generalize X2.alloc (.cells (node16 0 0 0 0 nought) 27) = WA at *
        refine wpT_call rfl rfl 33 _ _ rfl Try.call33 [.agg (rowA f 64), .int .i64 4, .int .i64 4] rfl ?_ ?_
        · refine (C2.out _).mono ?_
          rintro e' X6 ⟨rfl, hb⟩
          have HD6 : Hid _ := HA.out.call hb
          clear hb
          refine ⟨_, rfl, HD6.out.row, ?_⟩
          simp only [Act.put, List.setIfInBounds_toArray, List.set_cons_succ, List.set_cons_zero]
          refine wpT_call rfl rfl 33 _ _ rfl Try.call33 [.agg (rowA f 64), .int .i64 8, .int .i64 4] rfl ?_ ?_
          · refine (C3.out _).mono ?_
            rintro e' X7 ⟨rfl, hb⟩
            have HD7 : Hid _ := HD6.out.call hb
            clear hb
            refine ⟨_, rfl, HD7.out.row, ?_⟩
            simp only [Act.put, List.setIfInBounds_toArray, List.set_cons_succ, List.set_cons_zero]
            refine wpT_yield (v := .agg (node16 x0 x1 x2 x3 nought)) rfl rfl (fun u _ => run_build27 x0 x1 x2 x3 u rfl rfl rfl rfl rfl) ?_
            simp only [Act.put, List.setIfInBounds_toArray, List.set_cons_succ, List.set_cons_zero]
            have HT0 : Hid _ := HD7.out.store (node16 x0 x1 x2 x3 nought) rfl
            refine wpT_do (w' := X7.setRow g (node16 x0 x1 x2 x3 nought)) rfl rfl (run_st27 _ _ HD7.out.node _ _ rfl rfl rfl rfl (node_one _ _ _ _ _) rfl) HT0.out.row ?_ wpT_stop
            simp only [Act.put]
            generalize X7.setRow g (node16 x0 x1 x2 x3 nought) = Y at *
            refine wpT_fin ?_
            have HH : Hid (DRN w Y f g (node16 x0 x1 x2 x3 nought)) := HT0.out
            have HZ2 : Hid (rowA f 64 = rowA f 64) := rfl
            clear HT0 HW0 HW1 C0 C1 C2 C3
            go_wp2
            go_loopw [4] (fun s4 wx => ∃ (m : Nat) (e : Nat → Int), m ≤ 10 ∧ s4 = .int .i64 m ∧ (∀ i, i < m → e i = d i) ∧ DRN w wx f g (node16 x0 x1 x2 x3 e)) (fun s4 _ => 10 - (intOf s4).toNat)
            case atStart => exact ⟨0, nought, by omega, rfl, fun i hi => absurd hi (by omega), HH.out⟩
            case round =>
              obtain ⟨m, e, hm, rfl, he, hst⟩ := hrel
              have HT : Hid _ := hst
              have HE : Hid _ := he
              clear hst he HH
              by_cases h10 : (m : Int) < 10
              · have HST : Hid _ := fun W => CM.out m W (by omega)
                have HU : Hid (∀ i, i < m + 1 → upd e m (d m) i = d i) := fun i hi => by
                  unfold upd; split
                  · rename_i q; rw [q]
                  · exact HE.out i (by omega)
                clear CM C10 C11 HE
                generalize d m = x at *
                go_wp2_with (first | refine wpList_ldR 29 Try.underlying29 rfl rfl _ rfl _ rfl _ 29 (0, 0) (by rw [rowA_size]; exact size29) HT.out.row ?_ | (go_at_call 33; fail))
                refine (HST.out _).mono ?_
                rintro e' X ⟨rfl, hbx⟩
                have HX1 : Hid _ := HT.out.call hbx
                have HX2 : Hid _ := HX1.out.store (node16 x0 x1 x2 x3 (upd e m x)) rfl
                have HS : Hid _ := node_set x0 x1 x2 x3 e m (by omega) x
                clear hbx HT HST
                go_wp2_with (first | refine wpList_stC rfl _ _ rfl g (4 + m) (node16 x0 x1 x2 x3 e) 27 x (by rw [node_size]; omega) (by simp [Act.eval]) rfl HX1.out.node ?_)
                rw [HS.out]
                exact ⟨⟨m + 1, upd e m x, by omega, by go_num, HU.out, HX2.out⟩, by simp [intOf]; omega⟩
              · obtain rfl : m = 10 := by omega
                have HC : Hid (node16 x0 x1 x2 x3 (upd (upd e 10 (d 10)) 11 (d 11)) = node16 x0 x1 x2 x3 d) := node_congr rfl rfl rfl rfl fun i hi => by
                  unfold upd; split
                  · rename_i q; rw [q]
                  · split
                    · rename_i q; rw [q]
                    · exact HE.out i (by omega)
                clear hm CM HE
                generalize d 10 = y0 at *
                generalize d 11 = y1 at *
                go_wp2_with (first | refine wpList_ldR 29 Try.underlying29 rfl rfl _ rfl _ rfl _ 29 (0, 0) (by rw [rowA_size]; exact size29) HT.out.row ?_ | (go_at_call 33; fail))
                refine (C10.out _).mono ?_
                rintro e' X ⟨rfl, hbx⟩
                have HX1 : Hid _ := HT.out.call hbx
                have HX2 : Hid _ := HX1.out.store (node16 x0 x1 x2 x3 (upd e 10 y0)) rfl
                clear hbx HT C10
                go_wp2_with (first | refine wpList_stC rfl _ _ rfl g 14 (node16 x0 x1 x2 x3 e) 27 y0 (by rw [node_size]; omega) rfl rfl HX1.out.node ?_ | refine wpList_ldR 29 Try.underlying29 rfl rfl _ rfl _ rfl _ 29 (0, 0) (by rw [rowA_size]; exact size29) HX2.out.row ?_ | (go_at_call 33; fail))
                refine (C11.out _).mono ?_
                rintro e' X3 ⟨rfl, hbx⟩
                have HX3 : Hid _ := HX2.out.call hbx
                have HX4 : Hid _ := HX3.out.store (node16 x0 x1 x2 x3 (upd (upd e 10 y0) 11 y1)) rfl
                clear hbx HX1 HX2 C11
                go_wp2_with (first | refine wpList_stC rfl _ _ rfl g 15 (node16 x0 x1 x2 x3 (upd e 10 y0)) 27 y1 (by rw [node_size]; omega) rfl rfl HX3.out.node ?_ | refine wpList_ldR 27 Try.underlying27 rfl rfl _ rfl _ rfl _ 27 (0, 0) (by exact size27) HX4.out.node ?_ | refine wpList_stR 27 rfl _ _ rfl _ (node16 x0 x1 x2 x3 (upd (upd e 10 y0) 11 y1)) _ 27 (by exact size27) (by rfl) (node_one _ _ _ _ _) rfl rfl HX4.out.res ?_)
                exact retR Try.underlying27 rfl rfl (w.heap.size + 1) (node16 x0 x1 x2 x3 (upd (upd e 10 y0) 11 y1)) 27 (by exact size27) rfl (setRow_heap _ _ _ _ _ _ HX4.out.res) rfl ⟨by rw [HC.out], below_setRow HX4.out.bel (by omega) _⟩
          · exact wpT_stop
        · exact wpT_stop
    · refine wpT_make (v := .pointer (some ⟨X1.heap.size, 0, none⟩)) (w' := X1.alloc (.cells (node16 0 0 0 0 nought) 27)) rfl rfl (run_alloc27 _ rfl) (HD1.out.alloc).row ?_ wpT_stop
      have HA : Hid _ := HD1.out.alloc
      simp only [Act.put, List.setIfInBounds_toArray, List.set_cons_succ, List.set_cons_zero]
      generalize X1.heap.size = g at *
      generalize X1.alloc (.cells (node16 0 0 0 0 nought) 27) = WA at *
      refine wpT_call rfl rfl 33 _ _ rfl Try.call33 [.agg (rowA f 64), .int .i64 2, .int .i64 2] rfl ?_ ?_
      · refine (C1.out _).mono ?_
        rintro e' X8 ⟨rfl, hb⟩
        have HD8 : Hid _ := HA.out.call hb
        clear hb
        refine ⟨_, rfl, HD8.out.row, ?_⟩
        simp only [Act.put, List.setIfInBounds_toArray, List.set_cons_succ, List.set_cons_zero]
        refine wpT_yield (v := .int .u16 x1) rfl rfl (fun u _ => by go_simp; exact HW1.out) ?_
        simp only [Act.put, List.setIfInBounds_toArray, List.set_cons_succ, List.set_cons_zero]
        refine wpT_call rfl rfl 33 _ _ rfl Try.call33 [.agg (rowA f 64), .int .i64 4, .int .i64 4] rfl ?_ ?_
        · refine (C2.out _).mono ?_
          rintro e' X9 ⟨rfl, hb⟩
          have HD9 : Hid _ := HD8.out.call hb
          clear hb
          refine ⟨_, rfl, HD9.out.row, ?_⟩
          simp only [Act.put, List.setIfInBounds_toArray, List.set_cons_succ, List.set_cons_zero]
          refine wpT_call rfl rfl 33 _ _ rfl Try.call33 [.agg (rowA f 64), .int .i64 8, .int .i64 4] rfl ?_ ?_
          · refine (C3.out _).mono ?_
            rintro e' X10 ⟨rfl, hb⟩
            have HD10 : Hid _ := HD9.out.call hb
            clear hb
            refine ⟨_, rfl, HD10.out.row, ?_⟩
            simp only [Act.put, List.setIfInBounds_toArray, List.set_cons_succ, List.set_cons_zero]
            refine wpT_yield (v := .agg (node16 x0 x1 x2 x3 nought)) rfl rfl (fun u _ => run_build27 x0 x1 x2 x3 u rfl rfl rfl rfl rfl) ?_
            simp only [Act.put, List.setIfInBounds_toArray, List.set_cons_succ, List.set_cons_zero]
            have HT0 : Hid _ := HD10.out.store (node16 x0 x1 x2 x3 nought) rfl
            refine wpT_do (w' := X10.setRow g (node16 x0 x1 x2 x3 nought)) rfl rfl (run_st27 _ _ HD10.out.node _ _ rfl rfl rfl rfl (node_one _ _ _ _ _) rfl) HT0.out.row ?_ wpT_stop
            simp only [Act.put]
            generalize X10.setRow g (node16 x0 x1 x2 x3 nought) = Y at *
            refine wpT_fin ?_
            have HH : Hid (DRN w Y f g (node16 x0 x1 x2 x3 nought)) := HT0.out
            have HZ2 : Hid (rowA f 64 = rowA f 64) := rfl
            clear HT0 HW0 HW1 C0 C1 C2 C3
            go_wp2
            go_loopw [4] (fun s4 wx => ∃ (m : Nat) (e : Nat → Int), m ≤ 10 ∧ s4 = .int .i64 m ∧ (∀ i, i < m → e i = d i) ∧ DRN w wx f g (node16 x0 x1 x2 x3 e)) (fun s4 _ => 10 - (intOf s4).toNat)
            case atStart => exact ⟨0, nought, by omega, rfl, fun i hi => absurd hi (by omega), HH.out⟩
            case round =>
              obtain ⟨m, e, hm, rfl, he, hst⟩ := hrel
              have HT : Hid _ := hst
              have HE : Hid _ := he
              clear hst he HH
              by_cases h10 : (m : Int) < 10
              · have HST : Hid _ := fun W => CM.out m W (by omega)
                have HU : Hid (∀ i, i < m + 1 → upd e m (d m) i = d i) := fun i hi => by
                  unfold upd; split
                  · rename_i q; rw [q]
                  · exact HE.out i (by omega)
                clear CM C10 C11 HE
                generalize d m = x at *
                go_wp2_with (first | refine wpList_ldR 29 Try.underlying29 rfl rfl _ rfl _ rfl _ 29 (0, 0) (by rw [rowA_size]; exact size29) HT.out.row ?_ | (go_at_call 33; fail))
                refine (HST.out _).mono ?_
                rintro e' X ⟨rfl, hbx⟩
                have HX1 : Hid _ := HT.out.call hbx
                have HX2 : Hid _ := HX1.out.store (node16 x0 x1 x2 x3 (upd e m x)) rfl
                have HS : Hid _ := node_set x0 x1 x2 x3 e m (by omega) x
                clear hbx HT HST
                go_wp2_with (first | refine wpList_stC rfl _ _ rfl g (4 + m) (node16 x0 x1 x2 x3 e) 27 x (by rw [node_size]; omega) (by simp [Act.eval]) rfl HX1.out.node ?_)
                rw [HS.out]
                exact ⟨⟨m + 1, upd e m x, by omega, by go_num, HU.out, HX2.out⟩, by simp [intOf]; omega⟩
              · obtain rfl : m = 10 := by omega
                have HC : Hid (node16 x0 x1 x2 x3 (upd (upd e 10 (d 10)) 11 (d 11)) = node16 x0 x1 x2 x3 d) := node_congr rfl rfl rfl rfl fun i hi => by
                  unfold upd; split
                  · rename_i q; rw [q]
                  · split
                    · rename_i q; rw [q]
                    · exact HE.out i (by omega)
                clear hm CM HE
                generalize d 10 = y0 at *
                generalize d 11 = y1 at *
                go_wp2_with (first | refine wpList_ldR 29 Try.underlying29 rfl rfl _ rfl _ rfl _ 29 (0, 0) (by rw [rowA_size]; exact size29) HT.out.row ?_ | (go_at_call 33; fail))
                refine (C10.out _).mono ?_
                rintro e' X ⟨rfl, hbx⟩
                have HX1 : Hid _ := HT.out.call hbx
                have HX2 : Hid _ := HX1.out.store (node16 x0 x1 x2 x3 (upd e 10 y0)) rfl
                clear hbx HT C10
                go_wp2_with (first | refine wpList_stC rfl _ _ rfl g 14 (node16 x0 x1 x2 x3 e) 27 y0 (by rw [node_size]; omega) rfl rfl HX1.out.node ?_ | refine wpList_ldR 29 Try.underlying29 rfl rfl _ rfl _ rfl _ 29 (0, 0) (by rw [rowA_size]; exact size29) HX2.out.row ?_ | (go_at_call 33; fail))
                refine (C11.out _).mono ?_
                rintro e' X3 ⟨rfl, hbx⟩
                have HX3 : Hid _ := HX2.out.call hbx
                have HX4 : Hid _ := HX3.out.store (node16 x0 x1 x2 x3 (upd (upd e 10 y0) 11 y1)) rfl
                clear hbx HX1 HX2 C11
                go_wp2_with (first | refine wpList_stC rfl _ _ rfl g 15 (node16 x0 x1 x2 x3 (upd e 10 y0)) 27 y1 (by rw [node_size]; omega) rfl rfl HX3.out.node ?_ | refine wpList_ldR 27 Try.underlying27 rfl rfl _ rfl _ rfl _ 27 (0, 0) (by exact size27) HX4.out.node ?_ | refine wpList_stR 27 rfl _ _ rfl _ (node16 x0 x1 x2 x3 (upd (upd e 10 y0) 11 y1)) _ 27 (by exact size27) (by rfl) (node_one _ _ _ _ _) rfl rfl HX4.out.res ?_)
                exact retR Try.underlying27 rfl rfl (w.heap.size + 1) (node16 x0 x1 x2 x3 (upd (upd e 10 y0) 11 y1)) 27 (by exact size27) rfl (setRow_heap _ _ _ _ _ _ HX4.out.res) rfl ⟨by rw [HC.out], below_setRow HX4.out.bel (by omega) _⟩
          · exact wpT_stop
        · exact wpT_stop
      · exact wpT_stop
  · refine wpT_make (v := .pointer (some ⟨wd.heap.size, 0, none⟩)) (w' := wd.alloc (.cells (node16 0 0 0 0 nought) 27)) rfl rfl (run_alloc27 _ rfl) (HD0.out.alloc).row ?_ wpT_stop
    have HA : Hid _ := HD0.out.alloc
    simp only [Act.put, List.setIfInBounds_toArray, List.set_cons_succ, List.set_cons_zero]
    generalize wd.heap.size = g at *
    generalize wd.alloc (.cells (node16 0 0 0 0 nought) 27) = WA at *
    refine wpT_call rfl rfl 33 _ _ rfl Try.call33 [.agg (rowA f 64), .int .i64 0, .int .i64 2] rfl ?_ ?_
    · refine (C0.out _).mono ?_
      rintro e' X11 ⟨rfl, hb⟩
      have HD11 : Hid _ := HA.out.call hb
      clear hb
      refine ⟨_, rfl, HD11.out.row, ?_⟩
      simp only [Act.put, List.setIfInBounds_toArray, List.set_cons_succ, List.set_cons_zero]
      refine wpT_yield (v := .int .u16 x0) rfl rfl (fun u _ => by go_simp; exact HW0.out) ?_
      simp only [Act.put, List.setIfInBounds_toArray, List.set_cons_succ, List.set_cons_zero]
      refine wpT_call rfl rfl 33 _ _ rfl Try.call33 [.agg (rowA f 64), .int .i64 2, .int .i64 2] rfl ?_ ?_
      · refine (C1.out _).mono ?_
        rintro e' X12 ⟨rfl, hb⟩
        have HD12 : Hid _ := HD11.out.call hb
        clear hb
        refine ⟨_, rfl, HD12.out.row, ?_⟩
        simp only [Act.put, List.setIfInBounds_toArray, List.set_cons_succ, List.set_cons_zero]
        refine wpT_yield (v := .int .u16 x1) rfl rfl (fun u _ => by go_simp; exact HW1.out) ?_
        simp only [Act.put, List.setIfInBounds_toArray, List.set_cons_succ, List.set_cons_zero]
        refine wpT_call rfl rfl 33 _ _ rfl Try.call33 [.agg (rowA f 64), .int .i64 4, .int .i64 4] rfl ?_ ?_
        · refine (C2.out _).mono ?_
          rintro e' X13 ⟨rfl, hb⟩
          have HD13 : Hid _ := HD12.out.call hb
          clear hb
          refine ⟨_, rfl, HD13.out.row, ?_⟩
          simp only [Act.put, List.setIfInBounds_toArray, List.set_cons_succ, List.set_cons_zero]
          refine wpT_call rfl rfl 33 _ _ rfl Try.call33 [.agg (rowA f 64), .int .i64 8, .int .i64 4] rfl ?_ ?_
          · refine (C3.out _).mono ?_
            rintro e' X14 ⟨rfl, hb⟩
            have HD14 : Hid _ := HD13.out.call hb
            clear hb
            refine ⟨_, rfl, HD14.out.row, ?_⟩
            simp only [Act.put, List.setIfInBounds_toArray, List.set_cons_succ, List.set_cons_zero]
            refine wpT_yield (v := .agg (node16 x0 x1 x2 x3 nought)) rfl rfl (fun u _ => run_build27 x0 x1 x2 x3 u rfl rfl rfl rfl rfl) ?_
            simp only [Act.put, List.setIfInBounds_toArray, List.set_cons_succ, List.set_cons_zero]
            have HT0 : Hid _ := HD14.out.store (node16 x0 x1 x2 x3 nought) rfl
            refine wpT_do (w' := X14.setRow g (node16 x0 x1 x2 x3 nought)) rfl rfl (run_st27 _ _ HD14.out.node _ _ rfl rfl rfl rfl (node_one _ _ _ _ _) rfl) HT0.out.row ?_ wpT_stop
            simp only [Act.put]
            generalize X14.setRow g (node16 x0 x1 x2 x3 nought) = Y at *
            refine wpT_fin ?_
            have HH : Hid (DRN w Y f g (node16 x0 x1 x2 x3 nought)) := HT0.out
            have HZ2 : Hid (rowA f 64 = rowA f 64) := rfl
            clear HT0 HW0 HW1 C0 C1 C2 C3
            go_wp2
            go_loopw [4] (fun s4 wx => ∃ (m : Nat) (e : Nat → Int), m ≤ 10 ∧ s4 = .int .i64 m ∧ (∀ i, i < m → e i = d i) ∧ DRN w wx f g (node16 x0 x1 x2 x3 e)) (fun s4 _ => 10 - (intOf s4).toNat)
            case atStart => exact ⟨0, nought, by omega, rfl, fun i hi => absurd hi (by omega), HH.out⟩
            case round =>
              obtain ⟨m, e, hm, rfl, he, hst⟩ := hrel
              have HT : Hid _ := hst
              have HE : Hid _ := he
              clear hst he HH
              by_cases h10 : (m : Int) < 10
              · have HST : Hid _ := fun W => CM.out m W (by omega)
                have HU : Hid (∀ i, i < m + 1 → upd e m (d m) i = d i) := fun i hi => by
                  unfold upd; split
                  · rename_i q; rw [q]
                  · exact HE.out i (by omega)
                clear CM C10 C11 HE
                generalize d m = x at *
                go_wp2_with (first | refine wpList_ldR 29 Try.underlying29 rfl rfl _ rfl _ rfl _ 29 (0, 0) (by rw [rowA_size]; exact size29) HT.out.row ?_ | (go_at_call 33; fail))
                refine (HST.out _).mono ?_
                rintro e' X ⟨rfl, hbx⟩
                have HX1 : Hid _ := HT.out.call hbx
                have HX2 : Hid _ := HX1.out.store (node16 x0 x1 x2 x3 (upd e m x)) rfl
                have HS : Hid _ := node_set x0 x1 x2 x3 e m (by omega) x
                clear hbx HT HST
                go_wp2_with (first | refine wpList_stC rfl _ _ rfl g (4 + m) (node16 x0 x1 x2 x3 e) 27 x (by rw [node_size]; omega) (by simp [Act.eval]) rfl HX1.out.node ?_)
                rw [HS.out]
                exact ⟨⟨m + 1, upd e m x, by omega, by go_num, HU.out, HX2.out⟩, by simp [intOf]; omega⟩
              · obtain rfl : m = 10 := by omega
                have HC : Hid (node16 x0 x1 x2 x3 (upd (upd e 10 (d 10)) 11 (d 11)) = node16 x0 x1 x2 x3 d) := node_congr rfl rfl rfl rfl fun i hi => by
                  unfold upd; split
                  · rename_i q; rw [q]
                  · split
                    · rename_i q; rw [q]
                    · exact HE.out i (by omega)
                clear hm CM HE
                generalize d 10 = y0 at *
                generalize d 11 = y1 at *
                go_wp2_with (first | refine wpList_ldR 29 Try.underlying29 rfl rfl _ rfl _ rfl _ 29 (0, 0) (by rw [rowA_size]; exact size29) HT.out.row ?_ | (go_at_call 33; fail))
                refine (C10.out _).mono ?_
                rintro e' X ⟨rfl, hbx⟩
                have HX1 : Hid _ := HT.out.call hbx
                have HX2 : Hid _ := HX1.out.store (node16 x0 x1 x2 x3 (upd e 10 y0)) rfl
                clear hbx HT C10
                go_wp2_with (first | refine wpList_stC rfl _ _ rfl g 14 (node16 x0 x1 x2 x3 e) 27 y0 (by rw [node_size]; omega) rfl rfl HX1.out.node ?_ | refine wpList_ldR 29 Try.underlying29 rfl rfl _ rfl _ rfl _ 29 (0, 0) (by rw [rowA_size]; exact size29) HX2.out.row ?_ | (go_at_call 33; fail))
                refine (C11.out _).mono ?_
                rintro e' X3 ⟨rfl, hbx⟩
                have HX3 : Hid _ := HX2.out.call hbx
                have HX4 : Hid _ := HX3.out.store (node16 x0 x1 x2 x3 (upd (upd e 10 y0) 11 y1)) rfl
                clear hbx HX1 HX2 C11
                go_wp2_with (first | refine wpList_stC rfl _ _ rfl g 15 (node16 x0 x1 x2 x3 (upd e 10 y0)) 27 y1 (by rw [node_size]; omega) rfl rfl HX3.out.node ?_ | refine wpList_ldR 27 Try.underlying27 rfl rfl _ rfl _ rfl _ 27 (0, 0) (by exact size27) HX4.out.node ?_ | refine wpList_stR 27 rfl _ _ rfl _ (node16 x0 x1 x2 x3 (upd (upd e 10 y0) 11 y1)) _ 27 (by exact size27) (by rfl) (node_one _ _ _ _ _) rfl rfl HX4.out.res ?_)
                exact retR Try.underlying27 rfl rfl (w.heap.size + 1) (node16 x0 x1 x2 x3 (upd (upd e 10 y0) 11 y1)) 27 (by exact size27) rfl (setRow_heap _ _ _ _ _ _ HX4.out.res) rfl ⟨by rw [HC.out], below_setRow HX4.out.bel (by omega) _⟩
          · exact wpT_stop
        · exact wpT_stop
      · exact wpT_stop
    · exact wpT_stop
end Go.Proofs.Ytohknfoljnddjaa
