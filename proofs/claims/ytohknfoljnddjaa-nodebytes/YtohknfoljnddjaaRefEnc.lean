/- The document's Encode of an inode; for every inode. -/
import Derived.Test.YtohknfoljnddjaaEnc
import Derived.Test.YtohknfoljnddjaaRows2
namespace Go.Proofs.Ytohknfoljnddjaa
open Go.RowKit

/-- An inode's row, a row for the result and one for the bytes, made since w. -/
structure EncR (w W : World) (N : Array Value) (f : Nat → Int) : Prop where
  node : W.heap[w.heap.size]? = some (.cells N 27)
  res : W.heap[w.heap.size + 1]? = some (.cells (rowA nought 64) 29)
  row : W.heap[w.heap.size + 2]? = some (.cells (rowA f 64) 29)
  bel : Below w.heap.size w W
theorem EncR.call {w W W' : World} {N : Array Value} {f : Nat → Int} (h : EncR w W N f) (hb : Below W.heap.size W W') : EncR w W' N f :=
  ⟨heap_kept h.node hb, heap_kept h.res hb, heap_kept h.row hb, below_next h.bel hb⟩
theorem EncR.store {w W : World} {N : Array Value} {f : Nat → Int} (h : EncR w W N f) (f' : Nat → Int) : EncR w (W.setRow (w.heap.size + 2) (rowA f' 64)) N f' :=
  ⟨(setRow_other _ _ _ _ (by omega)).trans h.node, (setRow_other _ _ _ _ (by omega)).trans h.res, setRow_heap _ _ _ _ _ _ h.row, below_setRow h.bel (by omega) _⟩
theorem EncR.drew {w W : World} {N : Array Value} {f : Nat → Int} (h : EncR w W N f) : EncR w W.drew N f := ⟨h.node, h.res, h.row, h.bel.drew⟩
theorem EncR.cell {w W : World} {N : Array Value} {f : Nat → Int} (h : EncR w W N f) (j : Nat) (v : Value) (hv : N[j]? = some v) : W.cell? ⟨w.heap.size, j, none⟩ = some v :=
  (cell_of_row W _ j N 27 _ h.node).trans hv

set_option maxRecDepth 20000 in
set_option maxHeartbeats 1000000 in
theorem refEncode_any (k l s b : Int) (d : Nat → Int) (w : World) (h : NodeOk k l s b d) :
    Calls Try.prog 10 #[.agg (node16 k l s b d)] w fun e w' => e = .returned (.agg (rowA (encN k l s b d 12) 64)) ∧ Below w.heap.size w w' := by
  have z29 := zero29
  have z62 := zero62
  have c0 : ∀ W : World, Calls Try.prog 28 #[.agg (rowA nought 64), .int .i64 0, .int .i64 2, .int .u32 k] W fun e w' => e = .returned (.agg (rowA (putN nought 0 k 2) 64)) ∧ Below W.heap.size W w' := fun W => put_any _ 0 2 k W (by omega) (by have := h.k; omega)
  have c1 : ∀ W : World, Calls Try.prog 28 #[.agg (rowA (putN nought 0 k 2) 64), .int .i64 2, .int .i64 2, .int .u32 l] W fun e w' => e = .returned (.agg (rowA (putN (putN nought 0 k 2) 2 l 2) 64)) ∧ Below W.heap.size W w' := fun W => put_any _ 2 2 l W (by omega) (by have := h.l; omega)
  have c2 : ∀ W : World, Calls Try.prog 28 #[.agg (rowA (putN (putN nought 0 k 2) 2 l 2) 64), .int .i64 4, .int .i64 4, .int .u32 s] W fun e w' => e = .returned (.agg (rowA (putN (putN (putN nought 0 k 2) 2 l 2) 4 s 4) 64)) ∧ Below W.heap.size W w' := fun W => put_any _ 4 4 s W (by omega) h.s
  have c3 : ∀ W : World, Calls Try.prog 28 #[.agg (rowA (putN (putN (putN nought 0 k 2) 2 l 2) 4 s 4) 64), .int .i64 8, .int .i64 4, .int .u32 b] W fun e w' => e = .returned (.agg (rowA (encN k l s b d 0) 64)) ∧ Below W.heap.size W w' := fun W => put_any _ 8 4 b W (by omega) h.b
  have HS : Hid (∀ (m : Nat) (W : World), m < 12 → Calls Try.prog 28 #[.agg (rowA (encN k l s b d m) 64), .int .i64 (12 + 4 * (m : Int)), .int .i64 4, .int .u32 (d m)] W fun e w' => e = .returned (.agg (rowA (encN k l s b d (m + 1)) 64)) ∧ Below W.heap.size W w') := fun m W hm => by
    have := put_any (encN k l s b d m) (12 + 4 * m) 4 (d m) W (by omega) (h.d m)
    rwa [show ((12 + 4 * m : Nat) : Int) = 12 + 4 * (m : Int) by omega] at this
  have hnum := fun W => refNumbers_any k l s b d W
  have N0 : Hid ((node16 k l s b d)[0]? = some (.int .u16 k)) := rfl
  have N1 : Hid ((node16 k l s b d)[1]? = some (.int .u16 l)) := rfl
  have N2 : Hid ((node16 k l s b d)[2]? = some (.int .u32 s)) := rfl
  have N3 : Hid ((node16 k l s b d)[3]? = some (.int .u32 b)) := rfl
  have HZ : Hid ((Try.prog.info? 27).map (·.size) = some (node16 k l s b d).size) := size27
  obtain ⟨hk0, hk1⟩ := h.k
  obtain ⟨hl0, hl1⟩ := h.l
  clear h
  generalize node16 k l s b d = N at *
  generalize encN k l s b d = E at *
  generalize putN (putN (putN nought 0 k 2) 2 l 2) 4 s 4 = f3 at *
  generalize putN (putN nought 0 k 2) 2 l 2 = f2 at *
  generalize putN nought 0 k 2 = f1 at *
  have HS0 : Hid (EncR w (((w.alloc (.cells N 27)).alloc (.cells (rowA nought 64) 29)).alloc (.cells (rowA nought 64) 29)) N nought) :=
    ⟨by rw [heap_alloc_old _ _ (by simp; omega)]; exact heap_alloc2_old _ _ _, heap3 _ _ _ _, heap_new3 _ _ _ _, bel_al (bel_al (below_new _ _) _) _⟩
  go_enter Try.func10, Try.ntmps10
  go_wp2_with (first | refine wpList_ldR 29 Try.underlying29 rfl rfl _ rfl _ rfl _ 29 (0, 0) (by rw [rowA_size]; exact size29) HS0.out.row ?_ | refine wpList_ldC 23 (fun w => Try.isAgg23 w) rfl _ rfl _ _ rfl _ (HS0.out.cell 0 _ N0.out) ?_ | (go_at_call 28; fail))
  refine (c0 _).mono ?_
  rintro e W1 ⟨rfl, hb⟩
  have HS1 : Hid _ := HS0.out.call hb
  clear hb HS0 c0 N0
  go_wp2_with (first | refine wpList_stR 29 rfl _ _ rfl _ _ _ 29 (by rw [rowA_size]; exact size29) (by simp only [rowA_size]) (row64_one _) rfl rfl HS1.out.row ?_ | refine wpList_ldR 29 Try.underlying29 rfl rfl _ rfl _ rfl _ 29 (0, 0) (by rw [rowA_size]; exact size29) (HS1.out.store f1).row ?_ | refine wpList_ldC 22 (fun w => Try.isAgg22 w) rfl _ rfl _ _ rfl _ ((HS1.out.store f1).cell 1 _ N1.out) ?_ | (go_at_call 28; fail))
  refine (c1 _).mono ?_
  rintro e W2 ⟨rfl, hb⟩
  have HS2 : Hid _ := (HS1.out.store f1).call hb
  clear hb HS1 c1 N1
  go_wp2_with (first | refine wpList_stR 29 rfl _ _ rfl _ _ _ 29 (by rw [rowA_size]; exact size29) (by simp only [rowA_size]) (row64_one _) rfl rfl HS2.out.row ?_ | refine wpList_ldR 29 Try.underlying29 rfl rfl _ rfl _ rfl _ 29 (0, 0) (by rw [rowA_size]; exact size29) (HS2.out.store f2).row ?_ | refine wpList_ldC 24 (fun w => Try.isAgg24 w) rfl _ rfl _ _ rfl _ ((HS2.out.store f2).cell 2 _ N2.out) ?_ | (go_at_call 28; fail))
  refine (c2 _).mono ?_
  rintro e W3 ⟨rfl, hb⟩
  have HS3 : Hid _ := (HS2.out.store f2).call hb
  clear hb HS2 c2 N2
  go_wp2_with (first | refine wpList_stR 29 rfl _ _ rfl _ _ _ 29 (by rw [rowA_size]; exact size29) (by simp only [rowA_size]) (row64_one _) rfl rfl HS3.out.row ?_ | refine wpList_ldR 29 Try.underlying29 rfl rfl _ rfl _ rfl _ 29 (0, 0) (by rw [rowA_size]; exact size29) (HS3.out.store f3).row ?_ | refine wpList_ldC 24 (fun w => Try.isAgg24 w) rfl _ rfl _ _ rfl _ ((HS3.out.store f3).cell 3 _ N3.out) ?_ | (go_at_call 28; fail))
  refine (c3 _).mono ?_
  rintro e W4 ⟨rfl, hb⟩
  have HS4 : Hid _ := (HS3.out.store f3).call hb
  clear hb HS3 c3 N3
  go_wp2_with (first | refine wpList_stR 29 rfl _ _ rfl _ _ _ 29 (by rw [rowA_size]; exact size29) (by simp only [rowA_size]) (row64_one _) rfl rfl HS4.out.row ?_ | refine wpList_ldR 27 Try.underlying27 rfl rfl _ rfl _ rfl _ 27 (0, 0) HZ.out (HS4.out.store (E 0)).node ?_ | (go_at_call 29; fail))
  refine (hnum _).mono ?_
  rintro e W5 ⟨rfl, hb⟩
  have HS5 : Hid _ := (HS4.out.store (E 0)).call hb
  clear hb HS4 hnum HZ
  go_wp2_with (first | refine wpList_stNew 62 rfl _ _ rfl _ _ _ 62 (by rw [w12_size]; exact size62) (by rfl) (w12_one _) rfl rfl rfl ?_)
  have HS6 : Hid _ := HS5.out.call (below_new W5 (.cells (w12 d) 62))
  have HF : Hid (w.heap.size + 3 ≤ W5.heap.size) := (Array.getElem?_eq_some_iff.1 HS5.out.row).1
  go_loopw [5] (fun s5 wx => ∃ m : Nat, m ≤ 12 ∧ s5 = .int .i64 m ∧ EncR w wx N (E m) ∧ wx.heap[W5.heap.size]? = some (.cells (w12 d) 62)) (fun s5 _ => 12 - (intOf s5).toNat)
  case atStart => exact ⟨0, by omega, rfl, HS6.out, heap_alloc_new _ _⟩
  case round =>
    obtain ⟨m, hm, rfl, hst, hl⟩ := hrel
    have HT : Hid _ := hst
    have HL : Hid _ := hl
    clear hst hl HS5 HS6
    by_cases h12 : (m : Int) < 12
    · have hst := fun W => HS.out m W (by omega)
      have HG : Hid _ := w12_get d m (by omega)
      generalize d m = x at *
      have HST : Hid _ := hst
      clear hst HS
      go_wp2
      have HD : Hid _ := HT.out.drew
      have HLD : Hid (wr.drew.heap[W5.heap.size]? = some (.cells (w12 d) 62)) := HL.out
      clear HT HL
      refine wp_region_ord (S := fun u => u.heap[W5.heap.size]? = some (.cells (w12 d) 62)) [(1, true), (2, true), (3, true), (4, true), (5, true), (6, true), (0, false), (7, false), (8, false)]
        (by kernel_rfl) rfl (by kernel_rfl) (fun d _ _ _ _ h => by cases d <;> exact h) HLD.out ?_
      generalize wr.drew = wd at *
      simp only [inOrd, List.getElem?_cons_zero, List.getElem?_cons_succ]
      refine wpOrd_yield (v := .int .i64 (m : Int)) rfl (fun u _ => by simp [execOp, Act.eval]) ?_
      simp only [Act.put, List.setIfInBounds_toArray, List.set_cons_succ, List.set_cons_zero]
      refine wpOrd_yield (v := .int .i64 (4 * (m : Int))) rfl (fun u _ => by go_simp; rw [IntKind.wrap_i64]; omega) ?_
      simp only [Act.put, List.setIfInBounds_toArray, List.set_cons_succ, List.set_cons_zero]
      refine wpOrd_yield (v := .int .i64 (12 + 4 * (m : Int))) rfl (fun u _ => by go_simp; rw [IntKind.wrap_i64]; omega) ?_
      simp only [Act.put, List.setIfInBounds_toArray, List.set_cons_succ, List.set_cons_zero]
      refine wpOrd_yield (v := .int .i64 (m : Int)) rfl (fun u _ => by simp [execOp, Act.eval]) ?_
      simp only [Act.put, List.setIfInBounds_toArray, List.set_cons_succ, List.set_cons_zero]
      refine wpOrd_yield (v := .pointer (some ⟨W5.heap.size, m, none⟩)) rfl (fun u _ => by go_simp) ?_
      simp only [Act.put, List.setIfInBounds_toArray, List.set_cons_succ, List.set_cons_zero]
      refine wpOrd_ldCT 24 (fun w => Try.isAgg24 w) rfl _ rfl _ _ rfl (.int .u32 x) (fun u hu => (cell_of_row u _ m _ 62 _ hu).trans HG.out) ?_
      simp only [Act.put, List.setIfInBounds_toArray, List.set_cons_succ, List.set_cons_zero]
      refine wpOrd_ldR 29 Try.underlying29 rfl rfl _ rfl _ rfl _ 29 (0, 0) (by rw [rowA_size]; exact size29) HD.out.row ⟨HLD.out, ?_⟩
      simp only [Act.put, List.setIfInBounds_toArray, List.set_cons_succ, List.set_cons_zero]
      refine wpOrd_call rfl 28 _ _ rfl Try.call28 [.agg (rowA (E m) 64), .int .i64 (12 + 4 * (m : Int)), .int .i64 4, .int .u32 x] rfl ?_
      refine (HST.out _).mono ?_
      rintro e' X ⟨rfl, hbx⟩
      have HLX : Hid _ := heap_kept HLD.out hbx
      refine ⟨_, rfl, HLX.out, ?_⟩
      simp only [Act.put, List.setIfInBounds_toArray, List.set_cons_succ, List.set_cons_zero]
      have HX1 : Hid _ := HD.out.call hbx
      have HLY : Hid _ := (setRow_other X (w.heap.size + 2) W5.heap.size (rowA (E (m + 1)) 64) (by have := HF.out; omega)).trans HLX.out
      refine wpOrd_stR 29 rfl _ _ rfl (w.heap.size + 2) (rowA (E (m + 1)) 64) _ 29 (by rw [rowA_size]; exact size29) (by simp only [rowA_size]) (row64_one _) rfl rfl HX1.out.row ⟨HLY.out, ?_⟩
      refine wpOrd_nil ?_
      have HX2 : Hid _ := HX1.out.store (E (m + 1))
      simp only [Act.put]
      generalize X.setRow (w.heap.size + 2) (rowA (E (m + 1)) 64) = Y at HX2 HLY ⊢
      clear HX1 HD hbx HST HLX HLD HG
      go_wp2
      exact ⟨⟨m + 1, by omega, by go_num, HX2.out, HLY.out⟩, by simp [intOf]; omega⟩
    · obtain rfl : m = 12 := by omega
      clear hm HS
      go_wp2_with (first | refine wpList_ldR 29 Try.underlying29 rfl rfl _ rfl _ rfl _ 29 (0, 0) (by rw [rowA_size]; exact size29) HT.out.row ?_ | refine wpList_stR 29 rfl _ _ rfl _ _ _ 29 (by rw [rowA_size]; exact size29) (by simp only [rowA_size]) (row64_one _) rfl rfl HT.out.res ?_)
      exact retR Try.underlying29 rfl rfl (w.heap.size + 1) _ 29 (by rw [rowA_size]; exact size29) rfl (setRow_heap _ _ _ _ _ _ HT.out.res) rfl ⟨rfl, below_setRow HT.out.bel (by omega) _⟩
end Go.Proofs.Ytohknfoljnddjaa
