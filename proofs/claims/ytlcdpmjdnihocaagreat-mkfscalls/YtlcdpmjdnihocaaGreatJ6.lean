/- Several texts joined, each with its own remark; no condition. -/
import Derived.Test.YtlcdpmjdnihocaaGreatJ3
import Derived.Test.YtlcdpmjdnihocaaGreatJ5
import Derived.WalkKit
import Derived.WalkSpells
import Derived.WalkLawsBesides
import Derived.Deep.WholeRow
import Derived.Laws.StructEq
import Derived.Test.YtlcdpmjdnihocaaGreatRows
import Derived.BigQuiet
import Derived.Maps.RangeWalk
import Derived.Lib.SmallJoins
import Derived.Deep.MidRow
import Derived.LaidEqlPtr
/- The document's Encode of an inode; for every inode. -/
namespace Go.Proofs.YtlcdpmjdnihocaaGreatK
open Go.RowKit

/-- An inode's row, a row for the result and one for the bytes, made since w. -/
structure EncR (w W : World) (N : Array Value) (f : Nat → Int) : Prop where
  node : W.heap[w.heap.size]? = some (.cells N 111)
  res : W.heap[w.heap.size + 1]? = some (.cells (rowA nought 64) 158)
  row : W.heap[w.heap.size + 2]? = some (.cells (rowA f 64) 158)
  bel : Below w.heap.size w W
theorem EncR.call {w W W' : World} {N : Array Value} {f : Nat → Int} (h : EncR w W N f) (hb : Below W.heap.size W W') : EncR w W' N f :=
  ⟨heap_kept h.node hb, heap_kept h.res hb, heap_kept h.row hb, below_next h.bel hb⟩
theorem EncR.store {w W : World} {N : Array Value} {f : Nat → Int} (h : EncR w W N f) (f' : Nat → Int) : EncR w (W.setRow (w.heap.size + 2) (rowA f' 64)) N f' :=
  ⟨(setRow_other _ _ _ _ (by omega)).trans h.node, (setRow_other _ _ _ _ (by omega)).trans h.res, setRow_heap _ _ _ _ _ _ h.row, below_setRow h.bel (by omega) _⟩
theorem EncR.drew {w W : World} {N : Array Value} {f : Nat → Int} (h : EncR w W N f) : EncR w W.drew N f := ⟨h.node, h.res, h.row, h.bel.drew⟩
theorem EncR.cell {w W : World} {N : Array Value} {f : Nat → Int} (h : EncR w W N f) (j : Nat) (v : Value) (hv : N[j]? = some v) : W.cell? ⟨w.heap.size, j, none⟩ = some v :=
  (cell_of_row W _ j N 111 _ h.node).trans hv

set_option maxRecDepth 20000 in
set_option maxHeartbeats 1000000 in
theorem refEncode_any (k l s b : Int) (d : Nat → Int) (w : World) (h : NodeOk k l s b d) :
    Calls Tryz.prog 105 #[.agg (node16 k l s b d)] w fun e w' => e = .returned (.agg (rowA (encN k l s b d 12) 64)) ∧ Below w.heap.size w w' := by
  have z29 := zero29
  have z62 := zero62
  have c0 : ∀ W : World, Calls Tryz.prog 142 #[.agg (rowA nought 64), .int .i64 0, .int .i64 2, .int .u32 k] W fun e w' => e = .returned (.agg (rowA (putN nought 0 k 2) 64)) ∧ Below W.heap.size W w' := fun W => put_any _ 0 2 k W (by omega) (by have := h.k; omega)
  have c1 : ∀ W : World, Calls Tryz.prog 142 #[.agg (rowA (putN nought 0 k 2) 64), .int .i64 2, .int .i64 2, .int .u32 l] W fun e w' => e = .returned (.agg (rowA (putN (putN nought 0 k 2) 2 l 2) 64)) ∧ Below W.heap.size W w' := fun W => put_any _ 2 2 l W (by omega) (by have := h.l; omega)
  have c2 : ∀ W : World, Calls Tryz.prog 142 #[.agg (rowA (putN (putN nought 0 k 2) 2 l 2) 64), .int .i64 4, .int .i64 4, .int .u32 s] W fun e w' => e = .returned (.agg (rowA (putN (putN (putN nought 0 k 2) 2 l 2) 4 s 4) 64)) ∧ Below W.heap.size W w' := fun W => put_any _ 4 4 s W (by omega) h.s
  have c3 : ∀ W : World, Calls Tryz.prog 142 #[.agg (rowA (putN (putN (putN nought 0 k 2) 2 l 2) 4 s 4) 64), .int .i64 8, .int .i64 4, .int .u32 b] W fun e w' => e = .returned (.agg (rowA (encN k l s b d 0) 64)) ∧ Below W.heap.size W w' := fun W => put_any _ 8 4 b W (by omega) h.b
  have HS : Hid (∀ (m : Nat) (W : World), m < 12 → Calls Tryz.prog 142 #[.agg (rowA (encN k l s b d m) 64), .int .i64 (12 + 4 * (m : Int)), .int .i64 4, .int .u32 (d m)] W fun e w' => e = .returned (.agg (rowA (encN k l s b d (m + 1)) 64)) ∧ Below W.heap.size W w') := fun m W hm => by
    have := put_any (encN k l s b d m) (12 + 4 * m) 4 (d m) W (by omega) (h.d m)
    rwa [show ((12 + 4 * m : Nat) : Int) = 12 + 4 * (m : Int) by omega] at this
  have hnum := fun W => refNumbers_any k l s b d W
  have N0 : Hid ((node16 k l s b d)[0]? = some (.int .u16 k)) := rfl
  have N1 : Hid ((node16 k l s b d)[1]? = some (.int .u16 l)) := rfl
  have N2 : Hid ((node16 k l s b d)[2]? = some (.int .u32 s)) := rfl
  have N3 : Hid ((node16 k l s b d)[3]? = some (.int .u32 b)) := rfl
  have HZ : Hid ((Tryz.prog.info? 111).map (·.size) = some (node16 k l s b d).size) := size27
  obtain ⟨hk0, hk1⟩ := h.k
  obtain ⟨hl0, hl1⟩ := h.l
  clear h
  generalize node16 k l s b d = N at *
  generalize encN k l s b d = E at *
  generalize putN (putN (putN nought 0 k 2) 2 l 2) 4 s 4 = f3 at *
  generalize putN (putN nought 0 k 2) 2 l 2 = f2 at *
  generalize putN nought 0 k 2 = f1 at *
  have HS0 : Hid (EncR w (((w.alloc (.cells N 111)).alloc (.cells (rowA nought 64) 158)).alloc (.cells (rowA nought 64) 158)) N nought) :=
    ⟨by rw [heap_alloc_old _ _ (by simp; omega)]; exact heap_alloc2_old _ _ _, heap3 _ _ _ _, heap_new3 _ _ _ _, bel_al (bel_al (below_new _ _) _) _⟩
  go_enter Tryz.func105, Tryz.ntmps105
  go_wp2_with (first | refine wpList_ldR 158 Tryz.underlying158 rfl rfl _ rfl _ rfl _ 158 (0, 0) (by rw [rowA_size]; exact size29) HS0.out.row ?_ | refine wpList_ldC 63 (fun w => Tryz.isAgg63 w) rfl _ rfl _ _ rfl _ (HS0.out.cell 0 _ N0.out) ?_ | (go_at_call 142; fail))
  refine (c0 _).mono ?_
  rintro e W1 ⟨rfl, hb⟩
  have HS1 : Hid _ := HS0.out.call hb
  clear hb HS0 c0 N0
  go_wp2_with (first | refine wpList_stR 158 rfl _ _ rfl _ _ _ 158 (by rw [rowA_size]; exact size29) (by simp only [rowA_size]) (row64_one _) rfl rfl HS1.out.row ?_ | refine wpList_ldR 158 Tryz.underlying158 rfl rfl _ rfl _ rfl _ 158 (0, 0) (by rw [rowA_size]; exact size29) (HS1.out.store f1).row ?_ | refine wpList_ldC 62 (fun w => Tryz.isAgg62 w) rfl _ rfl _ _ rfl _ ((HS1.out.store f1).cell 1 _ N1.out) ?_ | (go_at_call 142; fail))
  refine (c1 _).mono ?_
  rintro e W2 ⟨rfl, hb⟩
  have HS2 : Hid _ := (HS1.out.store f1).call hb
  clear hb HS1 c1 N1
  go_wp2_with (first | refine wpList_stR 158 rfl _ _ rfl _ _ _ 158 (by rw [rowA_size]; exact size29) (by simp only [rowA_size]) (row64_one _) rfl rfl HS2.out.row ?_ | refine wpList_ldR 158 Tryz.underlying158 rfl rfl _ rfl _ rfl _ 158 (0, 0) (by rw [rowA_size]; exact size29) (HS2.out.store f2).row ?_ | refine wpList_ldC 108 (fun w => Tryz.isAgg108 w) rfl _ rfl _ _ rfl _ ((HS2.out.store f2).cell 2 _ N2.out) ?_ | (go_at_call 142; fail))
  refine (c2 _).mono ?_
  rintro e W3 ⟨rfl, hb⟩
  have HS3 : Hid _ := (HS2.out.store f2).call hb
  clear hb HS2 c2 N2
  go_wp2_with (first | refine wpList_stR 158 rfl _ _ rfl _ _ _ 158 (by rw [rowA_size]; exact size29) (by simp only [rowA_size]) (row64_one _) rfl rfl HS3.out.row ?_ | refine wpList_ldR 158 Tryz.underlying158 rfl rfl _ rfl _ rfl _ 158 (0, 0) (by rw [rowA_size]; exact size29) (HS3.out.store f3).row ?_ | refine wpList_ldC 108 (fun w => Tryz.isAgg108 w) rfl _ rfl _ _ rfl _ ((HS3.out.store f3).cell 3 _ N3.out) ?_ | (go_at_call 142; fail))
  refine (c3 _).mono ?_
  rintro e W4 ⟨rfl, hb⟩
  have HS4 : Hid _ := (HS3.out.store f3).call hb
  clear hb HS3 c3 N3
  go_wp2_with (first | refine wpList_stR 158 rfl _ _ rfl _ _ _ 158 (by rw [rowA_size]; exact size29) (by simp only [rowA_size]) (row64_one _) rfl rfl HS4.out.row ?_ | refine wpList_ldR 111 Tryz.underlying111 rfl rfl _ rfl _ rfl _ 111 (0, 0) HZ.out (HS4.out.store (E 0)).node ?_ | (go_at_call 143; fail))
  refine (hnum _).mono ?_
  rintro e W5 ⟨rfl, hb⟩
  have HS5 : Hid _ := (HS4.out.store (E 0)).call hb
  clear hb HS4 hnum HZ
  go_wp2_with (first | refine wpList_stNew 215 rfl _ _ rfl _ _ _ 215 (by rw [w12_size]; exact size62) (by rfl) (w12_one _) rfl rfl rfl ?_)
  have HS6 : Hid _ := HS5.out.call (below_new W5 (.cells (w12 d) 215))
  have HF : Hid (w.heap.size + 3 ≤ W5.heap.size) := (Array.getElem?_eq_some_iff.1 HS5.out.row).1
  go_loopw [5] (fun s5 wx => ∃ m : Nat, m ≤ 12 ∧ s5 = .int .i64 m ∧ EncR w wx N (E m) ∧ wx.heap[W5.heap.size]? = some (.cells (w12 d) 215)) (fun s5 _ => 12 - (intOf s5).toNat)
  case atStart => exact ⟨0, by omega, rfl, HS6.out, heap_alloc_new _ _⟩
  case round =>
    obtain ⟨m, hm, rfl, hst, hl⟩ := hrel
    have HT : Hid _ := hst
    have HL : Hid _ := hl
    clear hst hl HS5 HS6
    by_cases h12 : (m : Int) < 12
    · have hst := fun W => HS.out m W (by omega)
      have HG : Hid _ := w12_get d m (by omega)
      generalize d m = x at *
      have HST : Hid _ := hst
      clear hst HS
      go_wp2
      have HD : Hid _ := HT.out.drew
      have HLD : Hid (wr.drew.heap[W5.heap.size]? = some (.cells (w12 d) 215)) := HL.out
      clear HT HL
      refine wp_region_ord (S := fun u => u.heap[W5.heap.size]? = some (.cells (w12 d) 215)) [(1, true), (2, true), (3, true), (4, true), (5, true), (6, true), (0, false), (7, false), (8, false)]
        (by kernel_rfl) rfl (by kernel_rfl) (fun d _ _ _ _ h => by cases d <;> exact h) HLD.out ?_
      generalize wr.drew = wd at *
      simp only [inOrd, List.getElem?_cons_zero, List.getElem?_cons_succ]
      refine wpOrd_yield (v := .int .i64 (m : Int)) rfl (fun u _ => by simp [execOp, Act.eval]) ?_
      simp only [Act.put, List.setIfInBounds_toArray, List.set_cons_succ, List.set_cons_zero]
      refine wpOrd_yield (v := .int .i64 (4 * (m : Int))) rfl (fun u _ => by go_simp; rw [IntKind.wrap_i64]; omega) ?_
      simp only [Act.put, List.setIfInBounds_toArray, List.set_cons_succ, List.set_cons_zero]
      refine wpOrd_yield (v := .int .i64 (12 + 4 * (m : Int))) rfl (fun u _ => by go_simp; rw [IntKind.wrap_i64]; omega) ?_
      simp only [Act.put, List.setIfInBounds_toArray, List.set_cons_succ, List.set_cons_zero]
      refine wpOrd_yield (v := .int .i64 (m : Int)) rfl (fun u _ => by simp [execOp, Act.eval]) ?_
      simp only [Act.put, List.setIfInBounds_toArray, List.set_cons_succ, List.set_cons_zero]
      refine wpOrd_yield (v := .pointer (some ⟨W5.heap.size, m, none⟩)) rfl (fun u _ => by go_simp) ?_
      simp only [Act.put, List.setIfInBounds_toArray, List.set_cons_succ, List.set_cons_zero]
      refine wpOrd_ldCT 108 (fun w => Tryz.isAgg108 w) rfl _ rfl _ _ rfl (.int .u32 x) (fun u hu => (cell_of_row u _ m _ 215 _ hu).trans HG.out) ?_
      simp only [Act.put, List.setIfInBounds_toArray, List.set_cons_succ, List.set_cons_zero]
      refine wpOrd_ldR 158 Tryz.underlying158 rfl rfl _ rfl _ rfl _ 158 (0, 0) (by rw [rowA_size]; exact size29) HD.out.row ⟨HLD.out, ?_⟩
      simp only [Act.put, List.setIfInBounds_toArray, List.set_cons_succ, List.set_cons_zero]
      refine wpOrd_call rfl 142 _ _ rfl Tryz.call142 [.agg (rowA (E m) 64), .int .i64 (12 + 4 * (m : Int)), .int .i64 4, .int .u32 x] rfl ?_
      refine (HST.out _).mono ?_
      rintro e' X ⟨rfl, hbx⟩
      have HLX : Hid _ := heap_kept HLD.out hbx
      refine ⟨_, rfl, HLX.out, ?_⟩
      simp only [Act.put, List.setIfInBounds_toArray, List.set_cons_succ, List.set_cons_zero]
      have HX1 : Hid _ := HD.out.call hbx
      have HLY : Hid _ := (setRow_other X (w.heap.size + 2) W5.heap.size (rowA (E (m + 1)) 64) (by have := HF.out; omega)).trans HLX.out
      refine wpOrd_stR 158 rfl _ _ rfl (w.heap.size + 2) (rowA (E (m + 1)) 64) _ 158 (by rw [rowA_size]; exact size29) (by simp only [rowA_size]) (row64_one _) rfl rfl HX1.out.row ⟨HLY.out, ?_⟩
      refine wpOrd_nil ?_
      have HX2 : Hid _ := HX1.out.store (E (m + 1))
      simp only [Act.put]
      generalize X.setRow (w.heap.size + 2) (rowA (E (m + 1)) 64) = Y at HX2 HLY ⊢
      clear HX1 HD hbx HST HLX HLD HG
      go_wp2
      exact ⟨⟨m + 1, by omega, by go_num, HX2.out, HLY.out⟩, by simp [intOf]; omega⟩
    · obtain rfl : m = 12 := by omega
      clear hm HS
      go_wp2_with (first | refine wpList_ldR 158 Tryz.underlying158 rfl rfl _ rfl _ rfl _ 158 (0, 0) (by rw [rowA_size]; exact size29) HT.out.row ?_ | refine wpList_stR 158 rfl _ _ rfl _ _ _ 158 (by rw [rowA_size]; exact size29) (by simp only [rowA_size]) (row64_one _) rfl rfl HT.out.res ?_)
      exact retR Tryz.underlying158 rfl rfl (w.heap.size + 1) _ 158 (by rw [rowA_size]; exact size29) rfl (setRow_heap _ _ _ _ _ _ HT.out.res) rfl ⟨rfl, below_setRow HT.out.bel (by omega) _⟩
end Go.Proofs.YtlcdpmjdnihocaaGreatK
/- The document's bytes of an inode laid into a block: the root's. -/
namespace Go.Proofs.YtlcdpmjdnihocaaGreat
open Go.RowKit Go.Maps
/-- The root's bytes, as far as m. -/
def rtK (g : Int) (m : Nat) : Nat → Int := YtlcdpmjdnihocaaGreatN.over nought 64 m (ndE g)
theorem rtK_zero (g : Int) : rtK g 0 = nought := by
  funext j
  unfold rtK YtlcdpmjdnihocaaGreatN.over
  rw [if_neg (by omega)]
theorem rtK_step (g : Int) (m : Nat) : updN (rtK g m) (64 + m) (ndE g m) = rtK g (m + 1) := by
  funext j
  unfold updN rtK YtlcdpmjdnihocaaGreatN.over
  by_cases e : j = 64 + m
  · subst e
    rw [if_pos rfl, if_pos (by omega), show 64 + m - 64 = m by omega]
  · rw [if_neg e]
    by_cases h : 64 ≤ j ∧ j < 64 + m
    · rw [if_pos h, if_pos (by omega)]
    · rw [if_neg h, if_neg (by omega)]
theorem rtK_all (g : Int) : rtK g 64 = ndF g true := rfl
/-- The block, the inode's bytes and the result beside it. -/
structure LdS (w W : World) (gx : Nat) (f E : Nat → Int) : Prop where
  row : W.heap[w.heap.size]? = some (.cells (blk f) 79)
  res : W.heap[w.heap.size + 1 + 1]? = some (.cells (blk nought) 79)
  far : w.heap.size + 1 + 1 < gx
  byt : W.heap[gx]? = some (.cells (rowN .u8 E 64) 158)
  bel : Below w.heap.size w W
theorem LdS.set {w W : World} {gx : Nat} {f E : Nat → Int} (h : LdS w W gx f E) (j : Nat) (x : Int) : LdS w (W.setCell ⟨w.heap.size, j, none⟩ (.int .u8 x)) gx (updN f j x) E := by
  have hF := Fr.setCell W w.heap.size j (.int .u8 x)
  have := h.far
  exact ⟨setCell_rowN (m := 1024) h.row j x, (hF.block _ (Array.getElem?_eq_some_iff.1 h.res).1 (by omega)).trans h.res, h.far, (hF.block _ (Array.getElem?_eq_some_iff.1 h.byt).1 (by omega)).trans h.byt, h.bel.trans (hF.below (fun j q => by omega) h.bel.size)⟩
theorem rtN_info (g : Int) : (Tryz.prog.info? 111).map (·.size) = some (rtN g).size := by show _ = some 16; kernel_rfl
theorem x64_info (f : Nat → Int) : (Tryz.prog.info? 158).map (·.size) = some (rowN .u8 f 64).size := by rw [rowN_size]; kernel_rfl
theorem x64_two (f g : Nat → Int) : (rowN .u8 f 64).size = (rowN .u8 g 64).size := by rw [rowN_size, rowN_size]
theorem zeroX64 : ∀ w, (zeroValue 158).run Tryz.prog w = .ok (.agg (rowN .u8 nought 64)) w := (zero_of_info (show (Tryz.prog.info? 158).map (fun i => (i.zero, i.size)) = some (some (.agg (rowN .u8 nought 64)), 64) by kernel_rfl)).1
set_option maxRecDepth 20000 in
set_option maxHeartbeats 4000000 in
theorem rlaid_ok (g : Int) (hg : 0 ≤ g ∧ g < 4294967296) (w : World) :
    Calls Tryz.prog 67 #[.agg (blk nought), .int .i64 1, .agg (rtN g)] w fun e w' => e = .returned (.agg (blk (ndF g true))) ∧ Below w.heap.size w w' := by
  have zb := zero77
  have zx := zeroX64
  have HEn : Hid (∀ V : World, Calls Tryz.prog 105 #[.agg (rtN g)] V fun e w' => e = .returned (.agg (rowN .u8 (ndE g) 64)) ∧ Below V.heap.size V w') := fun V => YtlcdpmjdnihocaaGreatK.refEncode_any 2 2 32 1 (rtD g) V (rt_ok hg)
  have HNi := Hid.mk' (rtN_info g)
  have HRz := Hid.mk' (rtK_zero g)
  have HRs := Hid.mk' (rtK_step g)
  have HRa := Hid.mk' (rtK_all g)
  clear hg
  generalize rtK g = K at *
  generalize ndF g true = F at *
  generalize rtN g = N at *
  generalize ndE g = E at *
  obtain ⟨A, hA⟩ : ∃ A, A = ((w.alloc (.cells (blk nought) 79)).alloc (.cells N 111)).alloc (.cells (blk nought) 79) := ⟨_, rfl⟩
  have a1 := heap_kept (heap_kept (heap_alloc_new w (.cells (blk nought) 79)) (below_new _ (.cells N 111))) (below_new _ (.cells (blk nought) 79))
  have a2 := heap_kept (heap_alloc_new (w.alloc (.cells (blk nought) 79)) (.cells N 111)) (below_new _ (.cells (blk nought) 79))
  have a3 := heap_alloc_new ((w.alloc (.cells (blk nought) 79)).alloc (.cells N 111)) (.cells (blk nought) 79)
  have a4 := below_next (below_next (below_new w (.cells (blk nought) 79)) (below_new _ (.cells N 111))) (below_new _ (.cells (blk nought) 79))
  rw [World.size_alloc] at a2
  rw [World.size_alloc, World.size_alloc] at a3
  rw [← hA] at a1 a2 a3 a4
  have HA : Hid (A = _) := hA
  have A1 := Hid.mk' a1
  have A3 := Hid.mk' a3
  have A4 := Hid.mk' a4
  have hen := HEn.out A
  clear hA a1 a3 a4 HEn
  go_enter Tryz.func67, Tryz.ntmps67
  go_upto_region 1 with fail
  rw [← HA.out]
  clear HA
  go_wp2_with (first | (with_reducible refine isLoadR 111 ?_; refine wpList_ldR 111 Tryz.underlying111 rfl rfl _ rfl (w.heap.size + 1) rfl N 111 (0, 0) HNi.out a2 ?_) | (go_at_call 105; fail))
  refine hen.mono ?_
  rintro e W1 ⟨rfl, hb⟩
  have hb2 := below_next hb (below_new W1 (.cells (rowN .u8 E 64) 158))
  have HP : Hid (LdS w (W1.alloc (.cells (rowN .u8 E 64) 158)) W1.heap.size (K 0) E) := by
    rw [HRz.out]
    exact ⟨heap_kept A1.out hb2, heap_kept A3.out hb2, by have := (Array.getElem?_eq_some_iff.1 (heap_kept A3.out hb)).1; omega, heap_alloc_new _ _, below_next A4.out hb2⟩
  clear hb hb2 hen A1 A3 A4 a2 HRz
  go_wp2_with (first | (with_reducible refine isStoreR 158 ?_; refine wpList_stNew 158 rfl _ _ rfl W1.heap.size (rowN .u8 E 64) (rowN .u8 nought 64) 158 (x64_info _) (x64_two _ _) (rowN_one _ _ _) rfl rfl rfl ?_))
  generalize W1.alloc (.cells (rowN .u8 E 64) 158) = X at *
  generalize W1.heap.size = gx at *
  have r0 : (IntKind.i64.wrap ((1 : Int).tmod 16)) = 1 := by decide
  go_loopw [8] (fun s8 wx => ∃ k : Nat, k ≤ 64 ∧ s8 = .int .i64 (k : Int) ∧ Hid (LdS w wx gx (K k) E)) (fun s8 _ => 64 - (intOf s8).toNat)
  case atStart => exact ⟨0, by omega, rfl, HP.out⟩
  case round =>
    clear HP
    obtain ⟨k, hk, rfl, HP⟩ := hrel
    by_cases h1 : k < 64
    · have t1 : decide ((k : Int) < 64) = true := decide_eq_true (by omega)
      have cx := cell_rowN (i := k) (m := 64) HP.out.byt h1
      have cb := cell_rowN (i := 64 + k) (m := 1024) HP.out.row (by omega)
      have fb := frozen_row HP.out.row (64 + k)
      have e1 : IntKind.i64.wrap (64 + (k : Int)) = ((64 + k : Nat) : Int) := by rw [IntKind.wrap_i64]; omega
      have e2 : IntKind.i64.wrap ((k : Int) + 1) = ((k + 1 : Nat) : Int) := by rw [IntKind.wrap_i64]; omega
      have h2 : 64 + k < 1024 := by omega
      have HN : Hid (LdS w (wr.setCell ⟨w.heap.size, 64 + k, none⟩ (.int .u8 (E k))) gx (K (k + 1)) E) := by
        rw [← HRs.out k]
        exact HP.out.set _ _
      clear HP
      generalize 64 + k = q at *
      go_wp2
      exact ⟨⟨k + 1, by omega, rfl, HN⟩, by simp [intOf]; omega⟩
    · obtain rfl : k = 64 := by omega
      have t1 : decide (((64 : Nat) : Int) < 64) = false := by decide
      rw [HRa.out] at HP
      have hb := blk_at HP.out.row
      have hres := HP.out.res
      have HB : Hid (Below w.heap.size w (wr.setRow (w.heap.size + 1 + 1) (blk F))) := HP.out.bel.trans ((Fr.setRow wr (w.heap.size + 1 + 1) (blk F)).below (fun i hi => by omega) HP.out.bel.size)
      clear HP
      go_wp2_with (first | (with_reducible refine isLoadR 79 ?_; refine wpList_ldB rfl _ rfl w.heap.size 0 F rfl hb ?_) | (with_reducible refine isStoreR 79 ?_; refine wpList_stB rfl _ _ rfl (w.heap.size + 1 + 1) F nought 79 rfl rfl hres ?_))
      exact retB rfl (w.heap.size + 1 + 1) F 79 rfl (setRow_heap _ _ _ _ _ _ hres) rfl ⟨rfl, HB.out⟩
end Go.Proofs.YtlcdpmjdnihocaaGreat
/- The document's blocks of mkfs, from the inodes' region to the first data block; for every layout that may be. -/
namespace Go.Proofs.YtlcdpmjdnihocaaGreat
open Go.RowKit Go.Maps
/-- The root's block with the first k bytes of both its entries. -/
def slI (k : Nat) : Nat → Int := YtlcdpmjdnihocaaGreatN.over (YtlcdpmjdnihocaaGreatN.over nought 0 k (encF 1 dotS)) 16 k (encF 1 dotdotS)
theorem slI_zero : slI 0 = nought := by
  funext j
  unfold slI YtlcdpmjdnihocaaGreatN.over
  rw [if_neg (by omega), if_neg (by omega)]
theorem slI_all : slI 16 = slF := rfl
theorem slI_step (k : Nat) (hk : k < 16) : updN (updN (slI k) k (encF 1 dotS k)) (16 + k) (encF 1 dotdotS k) = slI (k + 1) := by
  funext j
  unfold updN slI YtlcdpmjdnihocaaGreatN.over
  by_cases e : j = 16 + k
  · subst e
    rw [if_pos rfl, if_pos (by omega), show 16 + k - 16 = k by omega]
  · rw [if_neg e]
    by_cases e2 : j = k
    · subst e2
      rw [if_pos rfl, if_neg (by omega), if_pos (by omega), Nat.sub_zero]
    · rw [if_neg e2]
      have a : (16 ≤ j ∧ j < 16 + k) ↔ (16 ≤ j ∧ j < 16 + (k + 1)) := by omega
      have b : (0 ≤ j ∧ j < 0 + k) ↔ (0 ≤ j ∧ j < 0 + (k + 1)) := by omega
      simp only [a, b]
/-- The layout, the result and the block beside each other. -/
structure BkS (w W : World) (L : Array Value) (f : Nat → Int) : Prop where
  lay : W.heap[w.heap.size]? = some (.cells L 52)
  res : W.heap[w.heap.size + 1]? = some (.cells (blk nought) 79)
  row : W.heap[w.heap.size + 1 + 1]? = some (.cells (blk f) 79)
  bel : Below w.heap.size w W
theorem BkS.later {w W W' : World} {L : Array Value} {f : Nat → Int} (h : BkS w W L f) (hb : Below W.heap.size W W') : BkS w W' L f := ⟨heap_kept h.lay hb, heap_kept h.res hb, heap_kept h.row hb, below_next h.bel hb⟩
theorem BkS.put {w W : World} {L : Array Value} {f : Nat → Int} (h : BkS w W L f) (F : Nat → Int) : BkS w (W.setRow (w.heap.size + 1 + 1) (blk F)) L F :=
  ⟨(setRow_other _ _ _ _ (by omega)).trans h.lay, (setRow_other _ _ _ _ (by omega)).trans h.res, setRow_heap _ _ _ _ _ _ h.row, below_setRow h.bel (by omega) _⟩
theorem BkS.set {w W : World} {L : Array Value} {f : Nat → Int} (h : BkS w W L f) (j : Nat) (x : Int) : BkS w (W.setCell ⟨w.heap.size + 1 + 1, j, none⟩ (.int .u8 x)) L (updN f j x) := by
  have hF := Fr.setCell W (w.heap.size + 1 + 1) j (.int .u8 x)
  exact ⟨(hF.block _ (Array.getElem?_eq_some_iff.1 h.lay).1 (by omega)).trans h.lay, (hF.block _ (Array.getElem?_eq_some_iff.1 h.res).1 (by omega)).trans h.res, setCell_rowN (m := 1024) h.row j x, h.bel.trans (hF.below (fun j q => by omega) h.bel.size)⟩
/-- Any layout whose four numbers are these. -/
structure LyN (L : Array Value) (nA bA bB dA : Int) : Prop where
  c4 : L[4]? = some (.int .i64 nA)
  c6 : L[6]? = some (.int .i64 bA)
  c7 : L[7]? = some (.int .i64 bB)
  c8 : L[8]? = some (.int .i64 dA)
theorem bk_start {w A : World} {L : Array Value} (hA : A = ((w.alloc (.cells L 52)).alloc (.cells (blk nought) 79)).alloc (.cells (blk nought) 79)) : BkS w A L nought := by
  rw [hA]
  refine ⟨heap_kept (heap_kept (heap_alloc_new _ _) (below_new _ _)) (below_new _ _), heap_kept (heap_two _ _ _) (below_new _ _), ?_, below_next (below_next (below_new _ _) (below_new _ _)) (below_new _ _)⟩
  have := heap_alloc_new ((w.alloc (.cells L 52)).alloc (.cells (blk nought) 79)) (.cells (blk nought) 79)
  rwa [World.size_alloc, World.size_alloc] at this
theorem BkS.out {w W : World} {L : Array Value} {f : Nat → Int} (h : BkS w W L f) : Below w.heap.size w (W.setRow (w.heap.size + 1) (blk f)) := below_setRow h.bel (by omega) _
set_option maxRecDepth 20000 in
set_option maxHeartbeats 4000000 in
/-- Noughts behind the first block of inodes. -/
theorem bk_none {L : Array Value} {nA bA bB dA k : Int} (hL : LyN L nA bA bB dA) (h1 : k ≠ nA) (h2 : k < bA) (h3 : k ≠ dA) (w : World) :
    Calls Tryz.prog 46 #[.agg L, .int .i64 k] w fun e w' => e = .returned (.agg (blk nought)) ∧ Below w.heap.size w w' := by
  have zb := zero77
  obtain ⟨A, hA⟩ : ∃ A, A = ((w.alloc (.cells L 52)).alloc (.cells (blk nought) 79)).alloc (.cells (blk nought) 79) := ⟨_, rfl⟩
  have HP : Hid (BkS w A L nought) := bk_start hA
  have HA : Hid (A = _) := hA
  clear hA
  have c4 : A.cell? ⟨w.heap.size, 4, none⟩ = some (.int .i64 nA) := (Joins.cell_of_block HP.out.lay 4).trans hL.c4
  have c6 : A.cell? ⟨w.heap.size, 6, none⟩ = some (.int .i64 bA) := (Joins.cell_of_block HP.out.lay 6).trans hL.c6
  have c7 : A.cell? ⟨w.heap.size, 7, none⟩ = some (.int .i64 bB) := (Joins.cell_of_block HP.out.lay 7).trans hL.c7
  have c8 : A.cell? ⟨w.heap.size, 8, none⟩ = some (.int .i64 dA) := (Joins.cell_of_block HP.out.lay 8).trans hL.c8
  have t1 : (k == nA) = false := beq_eq_false_iff_ne.2 h1
  have t2 : decide (bA ≤ k) = false := decide_eq_false (by omega)
  have t3 : (k == dA) = false := beq_eq_false_iff_ne.2 h3
  have hb := blk_at HP.out.row
  have hres := HP.out.res
  have HB := Hid.mk' HP.out.out
  clear HP hL
  generalize nought = F at *
  go_enter Tryz.func46, Tryz.ntmps46
  go_upto_region 2 with fail
  rw [← HA.out]
  clear HA zb
  go_wp2_with (first | (with_reducible refine isLoadR 79 ?_; refine wpList_ldB rfl _ rfl (w.heap.size + 1 + 1) 0 F rfl hb ?_) | (with_reducible refine isStoreR 79 ?_; refine wpList_stB rfl _ _ rfl (w.heap.size + 1) F F 79 rfl rfl hres ?_))
  exact retB rfl (w.heap.size + 1) F 79 rfl (setRow_heap _ _ _ _ _ _ hres) rfl ⟨rfl, HB.out⟩
set_option maxRecDepth 20000 in
set_option maxHeartbeats 4000000 in
/-- The root's inode in the first one. -/
theorem bk_root {L : Array Value} {nA bA bB dA : Int} (hL : LyN L nA bA bB dA) (hd : 0 ≤ dA ∧ dA < 4294967296) (w : World) :
    Calls Tryz.prog 46 #[.agg L, .int .i64 nA] w fun e w' => e = .returned (.agg (blk (ndF dA true))) ∧ Below w.heap.size w w' := by
  have zb := zero77
  obtain ⟨A, hA⟩ : ∃ A, A = ((w.alloc (.cells L 52)).alloc (.cells (blk nought) 79)).alloc (.cells (blk nought) 79) := ⟨_, rfl⟩
  have HP : Hid (BkS w A L nought) := bk_start hA
  have HA : Hid (A = _) := hA
  clear hA
  have c4 : A.cell? ⟨w.heap.size, 4, none⟩ = some (.int .i64 nA) := (Joins.cell_of_block HP.out.lay 4).trans hL.c4
  have c6 : A.cell? ⟨w.heap.size, 6, none⟩ = some (.int .i64 bA) := (Joins.cell_of_block HP.out.lay 6).trans hL.c6
  have c7 : A.cell? ⟨w.heap.size, 7, none⟩ = some (.int .i64 bB) := (Joins.cell_of_block HP.out.lay 7).trans hL.c7
  have c8 : A.cell? ⟨w.heap.size, 8, none⟩ = some (.int .i64 dA) := (Joins.cell_of_block HP.out.lay 8).trans hL.c8
  have t1 : (nA == nA) = true := beq_self_eq_true nA
  have z := zeroNd
  unfold YtlcdpmjdnihocaaGreatK.node16 nought at z
  have hw : IntKind.u32.wrap dA = dA := by rw [YtlcdpmjdnihocaaGreatK.wrap_u32]; omega
  have HLd := Hid.mk' (fun U => rlaid_ok dA hd U)
  generalize ndF dA true = F at *
  have h0 : Hid ((Tryz.prog.info? 111).map (·.size) = some (rtL dA).size) := rtL_size dA
  have b1 := below_new A (.cells (rtL 0) 111)
  have P1 := HP.out.later b1
  have d8 : (A.alloc (.cells (rtL 0) 111)).cell? ⟨w.heap.size, 8, none⟩ = some (.int .i64 dA) := (Joins.cell_of_block P1.lay 8).trans hL.c8
  have P2 : Hid (BkS w (A.alloc (.cells (rtL dA) 111)) L nought) := HP.out.later (below_new A _)
  have R2 := Hid.mk' (heap_alloc_new A (.cells (rtL dA) 111))
  obtain ⟨N, hN⟩ : ∃ N, rtL dA = N := ⟨_, rfl⟩
  have HN := Hid.mk' hN
  rw [hN] at P2 R2 h0
  clear hL P1 HP b1 hN
  go_enter Tryz.func46, Tryz.ntmps46
  go_upto_region 2 with fail
  rw [← HA.out]
  clear HA zb
  unfold rtL at d8
  go_upto_region 5 with fail
  have hN := HN.out
  unfold rtL at hN
  rw [hN]
  clear hN d8
  have hld := HLd.out
  rw [← rtL_eq, HN.out] at hld
  generalize A.alloc (.cells N 111) = X at *
  generalize A.heap.size = gn at *
  have hb := blk_at P2.out.row
  have hr := R2.out
  go_wp2_with (first | (with_reducible refine isLoadR 79 ?_; refine wpList_ldB rfl _ rfl (w.heap.size + 1 + 1) 0 nought rfl hb ?_) | (with_reducible refine isLoadR 111 ?_; refine wpList_ldR 111 Tryz.underlying111 rfl rfl _ rfl gn rfl N 111 (0, 0) h0.out hr ?_) | (go_at_call 67; fail))
  refine (hld X).mono ?_
  rintro e W2 ⟨rfl, hb2⟩
  have P3 := P2.out.later hb2
  have hrow := P3.row
  have P4 := Hid.mk' (P3.put F)
  clear hb2 P3 P2 R2 hld HLd HN hb hr
  go_upto_region 20 with (first | (with_reducible refine isStoreR 79 ?_; refine wpList_stB rfl _ _ rfl (w.heap.size + 1 + 1) F nought 79 rfl rfl hrow ?_))
  clear hrow
  generalize W2.setRow (w.heap.size + 1 + 1) (blk F) = Y at *
  have hb := blk_at P4.out.row
  have hres := P4.out.res
  have HB := Hid.mk' P4.out.out
  clear P4
  go_wp2_with (first | (with_reducible refine isLoadR 79 ?_; refine wpList_ldB rfl _ rfl (w.heap.size + 1 + 1) 0 F rfl hb ?_) | (with_reducible refine isStoreR 79 ?_; refine wpList_stB rfl _ _ rfl (w.heap.size + 1) F nought 79 rfl rfl hres ?_))
  exact retB rfl (w.heap.size + 1) F 79 rfl (setRow_heap _ _ _ _ _ _ hres) rfl ⟨rfl, HB.out⟩
set_option maxRecDepth 20000 in
set_option maxHeartbeats 4000000 in
/-- A block of the bitmap. -/
theorem bk_bits {L : Array Value} {nA bA bB dA k : Int} {n : Nat} (hL : LyN L nA bA bB dA) (h1 : k ≠ nA) (h2 : bA ≤ k) (h3 : k < bA + bB) (hb : 0 ≤ bA ∧ bA + bB ≤ 1000000000 ∧ dA ≤ 1000000000 ∧ 0 ≤ dA) (hn : max 0 (min 8192 (dA + 1 - 8192 * (k - bA))) = (n : Int)) (w : World) :
    Calls Tryz.prog 46 #[.agg L, .int .i64 k] w fun e w' => e = .returned (.agg (blk (btF n))) ∧ Below w.heap.size w w' := by
  have zb := zero77
  obtain ⟨A, hA⟩ : ∃ A, A = ((w.alloc (.cells L 52)).alloc (.cells (blk nought) 79)).alloc (.cells (blk nought) 79) := ⟨_, rfl⟩
  have HP : Hid (BkS w A L nought) := bk_start hA
  have HA : Hid (A = _) := hA
  clear hA
  have c4 : A.cell? ⟨w.heap.size, 4, none⟩ = some (.int .i64 nA) := (Joins.cell_of_block HP.out.lay 4).trans hL.c4
  have c6 : A.cell? ⟨w.heap.size, 6, none⟩ = some (.int .i64 bA) := (Joins.cell_of_block HP.out.lay 6).trans hL.c6
  have c7 : A.cell? ⟨w.heap.size, 7, none⟩ = some (.int .i64 bB) := (Joins.cell_of_block HP.out.lay 7).trans hL.c7
  have c8 : A.cell? ⟨w.heap.size, 8, none⟩ = some (.int .i64 dA) := (Joins.cell_of_block HP.out.lay 8).trans hL.c8
  have t1 : (k == nA) = false := beq_eq_false_iff_ne.2 h1
  have t2 : decide (bA ≤ k) = true := decide_eq_true h2
  have e1 : IntKind.i64.wrap (bA + bB) = bA + bB := by rw [IntKind.wrap_i64]; omega
  have t3 : decide (k < bA + bB) = true := decide_eq_true h3
  have e2 : IntKind.i64.wrap (k - bA) = k - bA := by rw [IntKind.wrap_i64]; omega
  have e3 : IntKind.i64.wrap (8192 * (k - bA)) = 8192 * (k - bA) := by rw [IntKind.wrap_i64]; omega
  have HLy := Hid.mk' hL
  have HSt := Hid.mk' (fun (i : Nat) (V : World) (hi : i < 8192) => set02_any (btF i) i V (bt_byt i) hi)
  have H0 : Hid (btF 0 = nought) := btF_zero
  have hn0 : n ≤ 8192 := by omega
  have HSs := Hid.mk' bt_set
  obtain ⟨f0, hf0⟩ : ∃ f0, 8192 * (k - bA) = f0 := ⟨_, rfl⟩
  rw [hf0] at hn e3
  have hf1 : 0 ≤ f0 ∧ f0 ≤ 9000000000000 := by omega
  have HN : Hid (max 0 (min 8192 (dA + 1 - f0)) = (n : Int)) := hn
  clear hL hn
  go_enter Tryz.func46, Tryz.ntmps46
  go_upto_region 2 with fail
  rw [← HA.out]
  clear HA zb
  go_wp2
  clear c4 c6 c7 c8 t1 t2 t3 e1 e2
  go_loopw [8] (fun s8 wx => ∃ j : Nat, j ≤ n ∧ s8 = .int .i64 (j : Int) ∧ Hid (BkS w wx L (btF j))) (fun s8 _ => n - (intOf s8).toNat)
  case atStart => exact ⟨0, by omega, rfl, by rw [H0.out]; exact HP.out⟩
  case round =>
    clear HP
    obtain ⟨j, hj, rfl, HP⟩ := hrel
    have c8 : wr.cell? ⟨w.heap.size, 8, none⟩ = some (.int .i64 dA) := (Joins.cell_of_block HP.out.lay 8).trans HLy.out.c8
    have hN := HN.out
    by_cases hjn : j < n
    · have t1 : decide ((j : Int) < 8192) = true := decide_eq_true (by omega)
      have e1 : IntKind.i64.wrap (f0 + (j : Int)) = f0 + (j : Int) := by rw [IntKind.wrap_i64]; omega
      have t2 : decide (f0 + (j : Int) ≤ dA) = true := decide_eq_true (by omega)
      have e2 : IntKind.i64.wrap ((j : Int) + 1) = ((j + 1 : Nat) : Int) := by rw [IntKind.wrap_i64]; omega
      have hst := HSt.out j wr (by omega)
      rw [HSs.out] at hst
      have hb := blk_at HP.out.row
      clear hN
      go_wp2_with (first | (with_reducible refine isLoadR 79 ?_; refine wpList_ldB rfl _ rfl (w.heap.size + 1 + 1) 0 (btF j) rfl hb ?_) | (go_at_call 68; fail))
      refine hst.mono ?_
      rintro e W2 ⟨rfl, hb2⟩
      have P3 := HP.out.later hb2
      have hrow := P3.row
      have P4 := Hid.mk' (P3.put (btF (j + 1)))
      clear hb2 P3 hst HP hb c8
      go_wp2_with (first | (with_reducible refine isStoreR 79 ?_; refine wpList_stB rfl _ _ rfl (w.heap.size + 1 + 1) (btF (j + 1)) (btF j) 79 rfl rfl hrow ?_))
      exact ⟨⟨j + 1, by omega, rfl, P4⟩, by simp [intOf]; omega⟩
    · obtain rfl : j = n := by omega
      have hb := blk_at HP.out.row
      have hres := HP.out.res
      have HB := Hid.mk' HP.out.out
      by_cases h8 : j = 8192
      · subst h8
        have t1 : decide (((8192 : Nat) : Int) < 8192) = false := by decide
        clear HP HN hN
        obtain ⟨F, hF⟩ : ∃ F, btF 8192 = F := ⟨_, rfl⟩
        rw [hF] at hb HB
        have HF := Hid.mk' hF
        clear hF
        go_wp2_with (first | (with_reducible refine isLoadR 79 ?_; refine wpList_ldB rfl _ rfl (w.heap.size + 1 + 1) 0 F rfl hb ?_) | (with_reducible refine isStoreR 79 ?_; refine wpList_stB rfl _ _ rfl (w.heap.size + 1) F nought 79 rfl rfl hres ?_))
        exact retB rfl (w.heap.size + 1) F 79 rfl (setRow_heap _ _ _ _ _ _ hres) rfl ⟨by rw [HF.out], HB.out⟩
      · have t1 : decide ((j : Int) < 8192) = true := decide_eq_true (by omega)
        have e1 : IntKind.i64.wrap (f0 + (j : Int)) = f0 + (j : Int) := by rw [IntKind.wrap_i64]; omega
        have t2 : decide (f0 + (j : Int) ≤ dA) = false := decide_eq_false (by omega)
        clear HP HN hN
        obtain ⟨F, hF⟩ : ∃ F, btF j = F := ⟨_, rfl⟩
        rw [hF] at hb HB
        have HF := Hid.mk' hF
        clear hF
        go_wp2_with (first | (with_reducible refine isLoadR 79 ?_; refine wpList_ldB rfl _ rfl (w.heap.size + 1 + 1) 0 F rfl hb ?_) | (with_reducible refine isStoreR 79 ?_; refine wpList_stB rfl _ _ rfl (w.heap.size + 1) F nought 79 rfl rfl hres ?_))
        exact retB rfl (w.heap.size + 1) F 79 rfl (setRow_heap _ _ _ _ _ _ hres) rfl ⟨by rw [HF.out], HB.out⟩
theorem x16_info (f : Nat → Int) : (Tryz.prog.info? 120).map (·.size) = some (rowN .u8 f 16).size := by rw [rowN_size]; kernel_rfl
theorem x16_two (f g : Nat → Int) : (rowN .u8 f 16).size = (rowN .u8 g 16).size := by rw [rowN_size, rowN_size]
/-- With both entries beside it. -/
structure SlQ (w W : World) (L : Array Value) (f : Nat → Int) (g1 g2 : Nat) (E0 E1 : Nat → Int) : Prop where
  bk : BkS w W L f
  f1 : w.heap.size + 1 + 1 < g1
  one : W.heap[g1]? = some (.cells (rowN .u8 E0 16) 120)
  f2 : w.heap.size + 1 + 1 < g2
  two : W.heap[g2]? = some (.cells (rowN .u8 E1 16) 120)
theorem SlQ.set {w W : World} {L : Array Value} {f : Nat → Int} {g1 g2 : Nat} {E0 E1 : Nat → Int} (h : SlQ w W L f g1 g2 E0 E1) (j : Nat) (x : Int) : SlQ w (W.setCell ⟨w.heap.size + 1 + 1, j, none⟩ (.int .u8 x)) L (updN f j x) g1 g2 E0 E1 := by
  have hF := Fr.setCell W (w.heap.size + 1 + 1) j (.int .u8 x)
  have h1 := h.f1
  have h2 := h.f2
  exact ⟨h.bk.set j x, h.f1, (hF.block _ (Array.getElem?_eq_some_iff.1 h.one).1 (by omega)).trans h.one, h.f2, (hF.block _ (Array.getElem?_eq_some_iff.1 h.two).1 (by omega)).trans h.two⟩
set_option maxRecDepth 20000 in
set_option maxHeartbeats 4000000 in
/-- The root's entries. -/
theorem bk_slots {L : Array Value} {nA bA bB dA : Int} (hL : LyN L nA bA bB dA) (h1 : dA ≠ nA) (h2 : bA ≤ dA) (h3 : bA + bB = dA) (hb : 0 ≤ bA ∧ dA ≤ 1000000000) (w : World) :
    Calls Tryz.prog 46 #[.agg L, .int .i64 dA] w fun e w' => e = .returned (.agg (blk slF)) ∧ Below w.heap.size w w' := by
  have zb := zero77
  obtain ⟨A, hA⟩ : ∃ A, A = ((w.alloc (.cells L 52)).alloc (.cells (blk nought) 79)).alloc (.cells (blk nought) 79) := ⟨_, rfl⟩
  have HP : Hid (BkS w A L nought) := bk_start hA
  have HA : Hid (A = _) := hA
  clear hA
  have c4 : A.cell? ⟨w.heap.size, 4, none⟩ = some (.int .i64 nA) := (Joins.cell_of_block HP.out.lay 4).trans hL.c4
  have c6 : A.cell? ⟨w.heap.size, 6, none⟩ = some (.int .i64 bA) := (Joins.cell_of_block HP.out.lay 6).trans hL.c6
  have c7 : A.cell? ⟨w.heap.size, 7, none⟩ = some (.int .i64 bB) := (Joins.cell_of_block HP.out.lay 7).trans hL.c7
  have c8 : A.cell? ⟨w.heap.size, 8, none⟩ = some (.int .i64 dA) := (Joins.cell_of_block HP.out.lay 8).trans hL.c8
  have t1 : (dA == nA) = false := beq_eq_false_iff_ne.2 h1
  have t2 : decide (bA ≤ dA) = true := decide_eq_true h2
  have e1 : IntKind.i64.wrap (bA + bB) = dA := by rw [h3, IntKind.wrap_i64]; omega
  have t3 : decide (dA < dA) = false := decide_eq_false (by omega)
  have t4 : (dA == dA) = true := beq_self_eq_true dA
  have HE0 : Hid (∀ V : World, Calls Tryz.prog 69 #[.agg #[.int .u16 1, .string ⟨#[46]⟩]] V fun e w' => e = .returned (.tuple #[.agg (rowN .u8 (encF 1 dotS) 16), .int .i64 (chV 1 dotS)]) ∧ Below V.heap.size V w') := fun V => refEnc_any V 1 (by omega) dotS (by decide)
  have HE1 : Hid (∀ V : World, Calls Tryz.prog 69 #[.agg #[.int .u16 1, .string ⟨#[46, 46]⟩]] V fun e w' => e = .returned (.tuple #[.agg (rowN .u8 (encF 1 dotdotS) 16), .int .i64 (chV 1 dotdotS)]) ∧ Below V.heap.size V w') := fun V => refEnc_any V 1 (by omega) dotdotS (by decide)
  have zx := zero204
  have HS0 := Hid.mk' slI_zero
  have HSt := Hid.mk' slI_step
  have HSa := Hid.mk' slI_all
  clear hL
  generalize encF 1 dotS = E0 at *
  generalize encF 1 dotdotS = E1 at *
  generalize chV 1 dotS = v0 at *
  generalize chV 1 dotdotS = v1 at *
  generalize slI = sl at *
  generalize slF = F at *
  go_enter Tryz.func46, Tryz.ntmps46
  go_upto_region 2 with fail
  rw [← HA.out]
  clear HA zb
  have he0 := HE0.out
  go_wp2_with (go_at_call 69; fail)
  refine (he0 _).mono ?_
  rintro e W1 ⟨rfl, hb1⟩
  have hc1 := below_next hb1 (below_new W1 (.cells (rowN .u8 E0 16) 120))
  have P1 := Hid.mk' (HP.out.later hc1)
  have R1 := Hid.mk' (heap_alloc_new W1 (.cells (rowN .u8 E0 16) 120))
  have G1 : Hid (w.heap.size + 1 + 1 < W1.heap.size) := (Array.getElem?_eq_some_iff.1 (HP.out.later hb1).row).1
  have he1 := HE1.out
  clear he0 hb1 hc1 HP c4 c6 c7 c8 t1 t2 t3 t4 e1 HE0 HE1
  go_wp2_with (first | (with_reducible refine isStoreR 120 ?_; refine wpList_stNew 120 rfl _ _ rfl W1.heap.size (rowN .u8 E0 16) (rowN .u8 nought 16) 120 (x16_info _) (x16_two _ _) (rowN_one _ _ _) rfl rfl rfl ?_) | (go_at_call 69; fail))
  generalize W1.alloc (.cells (rowN .u8 E0 16) 120) = X1 at *
  generalize W1.heap.size = g1 at *
  refine (he1 _).mono ?_
  rintro e W2 ⟨rfl, hb2⟩
  have hc2 := below_next hb2 (below_new W2 (.cells (rowN .u8 E1 16) 120))
  have HQ : Hid (SlQ w (W2.alloc (.cells (rowN .u8 E1 16) 120)) L (sl 0) g1 W2.heap.size E0 E1) := by
    rw [HS0.out]
    exact ⟨P1.out.later hc2, G1.out, heap_kept R1.out hc2, by have := (Array.getElem?_eq_some_iff.1 (P1.out.later hb2).row).1; omega, heap_alloc_new _ _⟩
  clear he1 hb2 hc2 P1 R1 G1
  go_wp2_with (first | (with_reducible refine isStoreR 120 ?_; refine wpList_stNew 120 rfl _ _ rfl W2.heap.size (rowN .u8 E1 16) (rowN .u8 nought 16) 120 (x16_info _) (x16_two _ _) (rowN_one _ _ _) rfl rfl rfl ?_))
  generalize W2.alloc (.cells (rowN .u8 E1 16) 120) = X2 at *
  generalize W2.heap.size = g2 at *
  clear zx
  go_loopw [13] (fun s13 wx => ∃ j : Nat, j ≤ 16 ∧ s13 = .int .i64 (j : Int) ∧ Hid (SlQ w wx L (sl j) g1 g2 E0 E1)) (fun s13 _ => 16 - (intOf s13).toNat)
  case atStart => exact ⟨0, by omega, rfl, HQ.out⟩
  case round =>
    clear HQ
    obtain ⟨j, hj, rfl, HQ⟩ := hrel
    by_cases hj2 : j < 16
    · have t1 : decide ((j : Int) < 16) = true := decide_eq_true (by omega)
      have e2 : IntKind.i64.wrap ((j : Int) + 1) = ((j + 1 : Nat) : Int) := by rw [IntKind.wrap_i64]; omega
      have e3 : IntKind.i64.wrap (16 + (j : Int)) = ((16 + j : Nat) : Int) := by rw [IntKind.wrap_i64]; omega
      have cx := cell_rowN (i := j) (m := 16) HQ.out.one hj2
      have cb := cell_rowN (i := j) (m := 1024) HQ.out.bk.row (by omega)
      have fb := frozen_row HQ.out.bk.row j
      have Q1 := HQ.out.set j (E0 j)
      have cy := cell_rowN (i := j) (m := 16) Q1.two hj2
      have cb2 := cell_rowN (i := 16 + j) (m := 1024) Q1.bk.row (by omega)
      have fb2 := frozen_row Q1.bk.row (16 + j)
      have HN : Hid (SlQ w ((wr.setCell ⟨w.heap.size + 1 + 1, j, none⟩ (.int .u8 (E0 j))).setCell ⟨w.heap.size + 1 + 1, 16 + j, none⟩ (.int .u8 (E1 j))) L (sl (j + 1)) g1 g2 E0 E1) := by
        rw [← HSt.out j hj2]
        exact Q1.set _ _
      have h2 : 16 + j < 1024 := by omega
      have h3 : j < 1024 := by omega
      clear HQ Q1
      generalize 16 + j = q at *
      go_wp2
      exact ⟨⟨j + 1, by omega, rfl, HN⟩, by simp [intOf]; omega⟩
    · obtain rfl : j = 16 := by omega
      have t1 : decide (((16 : Nat) : Int) < 16) = false := by decide
      rw [HSa.out] at HQ
      have hb := blk_at HQ.out.bk.row
      have hres := HQ.out.bk.res
      have HB := Hid.mk' HQ.out.bk.out
      clear HQ
      go_wp2_with (first | (with_reducible refine isLoadR 79 ?_; refine wpList_ldB rfl _ rfl (w.heap.size + 1 + 1) 0 F rfl hb ?_) | (with_reducible refine isStoreR 79 ?_; refine wpList_stB rfl _ _ rfl (w.heap.size + 1) F nought 79 rfl rfl hres ?_))
      exact retB rfl (w.heap.size + 1) F 79 rfl (setRow_heap _ _ _ _ _ _ hres) rfl ⟨rfl, HB.out⟩
/-- Every block, by the document: what the program writes. -/
theorem block_any (b l i k : Int) (hf : YtlcdpmjdnihocaaGreatP.Fine b l i) (hk : 1 + l ≤ k ∧ k ≤ YtlcdpmjdnihocaaGreatP.dataAt b l i) (w : World) :
    Calls Tryz.prog 46 #[.agg (YtlcdpmjdnihocaaGreatP.lay9 b l i 1 (1 + l) (YtlcdpmjdnihocaaGreatP.nodeB i) (YtlcdpmjdnihocaaGreatP.bitsAt l i) (YtlcdpmjdnihocaaGreatP.bitsB b) (YtlcdpmjdnihocaaGreatP.dataAt b l i)), .int .i64 k] w fun e w' => e = .returned (.agg (blk (coF b l i k))) ∧ Below w.heap.size w w' := by
  obtain ⟨b1, b2, b3, b4, b5, b6, b7, b8⟩ := fine_bd hf
  have hL : LyN (YtlcdpmjdnihocaaGreatP.lay9 b l i 1 (1 + l) (YtlcdpmjdnihocaaGreatP.nodeB i) (YtlcdpmjdnihocaaGreatP.bitsAt l i) (YtlcdpmjdnihocaaGreatP.bitsB b) (YtlcdpmjdnihocaaGreatP.dataAt b l i)) (1 + l) (YtlcdpmjdnihocaaGreatP.bitsAt l i) (YtlcdpmjdnihocaaGreatP.bitsB b) (YtlcdpmjdnihocaaGreatP.dataAt b l i) := ⟨rfl, rfl, rfl, rfl⟩
  have hd : YtlcdpmjdnihocaaGreatP.bitsAt l i + YtlcdpmjdnihocaaGreatP.bitsB b = YtlcdpmjdnihocaaGreatP.dataAt b l i := rfl
  unfold coF
  by_cases h1 : k < YtlcdpmjdnihocaaGreatP.bitsAt l i
  · rw [if_pos h1]
    by_cases h2 : k = 1 + l
    · subst h2
      rw [beq_self_eq_true]
      exact bk_root hL (by omega) w
    · rw [beq_eq_false_iff_ne.2 h2]
      exact bk_none hL h2 h1 (by omega) w
  · rw [if_neg h1]
    by_cases h2 : k < YtlcdpmjdnihocaaGreatP.dataAt b l i
    · rw [if_pos h2]
      exact bk_bits hL (by omega) (by omega) (by omega) (by omega) (by omega) w
    · rw [if_neg h2]
      obtain rfl : k = YtlcdpmjdnihocaaGreatP.dataAt b l i := by omega
      exact bk_slots hL (by omega) (by omega) hd (by omega) w
end Go.Proofs.YtlcdpmjdnihocaaGreat
/- What a block of 1024 bytes is as cells: a plain function from places to numbers, laid as cells; no condition. -/
namespace Go.Proofs.YtlcdpmjdnihocaaGreatD
open Go.RowKit

/-- The cells of a block whose byte at place i is f i. -/
def blk (f : Nat → Int) : Array Value := ((List.range 1024).map fun i => Value.int .u8 (f i)).toArray
/-- f, but for x at place i. -/
def upd (f : Nat → Int) (i : Nat) (x : Int) : Nat → Int := fun j => if j = i then x else f j
def nought : Nat → Int := fun _ => 0

theorem blk_size (f : Nat → Int) : (blk f).size = 1024 := by simp [blk]
theorem blk_get (f : Nat → Int) (i : Nat) (h : i < 1024) : (blk f)[i]? = some (.int .u8 (f i)) := by
  simp [blk, h]
theorem blk_set (f : Nat → Int) (i : Nat) (x : Int) : (blk f).setIfInBounds i (.int .u8 x) = blk (upd f i x) := by
  apply Array.ext_getElem?
  intro j
  by_cases hj : j < 1024
  · rw [blk_get _ _ hj, Array.getElem?_setIfInBounds]
    by_cases e : i = j
    · subst e; simp [blk_size, hj, upd]
    · have e' : ¬ j = i := fun q => e q.symm
      simp [e, e', blk_get _ _ hj, upd]
  · rw [Array.getElem?_eq_none (by rw [Array.size_setIfInBounds, blk_size]; omega), Array.getElem?_eq_none (by rw [blk_size]; omega)]
theorem blk_congr {f g : Nat → Int} (h : ∀ i, i < 1024 → f i = g i) : blk f = blk g := by
  apply Array.ext_getElem?
  intro j
  by_cases hj : j < 1024
  · rw [blk_get _ _ hj, blk_get _ _ hj, h j hj]
  · rw [Array.getElem?_eq_none (by rw [blk_size]; omega), Array.getElem?_eq_none (by rw [blk_size]; omega)]
theorem blk_one (f : Nat → Int) : (blk f).all (·.oneCell') = true := by
  rw [Array.all_eq_true_iff_forall_mem]
  intro v hv
  simp [blk] at hv
  obtain ⟨i, _, rfl⟩ := hv
  rfl
end Go.Proofs.YtlcdpmjdnihocaaGreatD
/- The block type of this program over its translation: loads, stores and results of whole blocks; fits; no condition. -/
namespace Go.Proofs.YtlcdpmjdnihocaaGreatD
open Go.RowKit

theorem info25 : (Tryz.prog.info? 79).map (fun i => (i.zero, i.size)) = some (some (.agg (blk nought)), 1024) := by kernel_rfl
theorem zero25 : ∀ w, (zeroValue 79).run Tryz.prog w = .ok (.agg (blk nought)) w := (zero_of_info info25).1
theorem size25 : (Tryz.prog.info? 79).map (·.size) = some 1024 := (zero_of_info info25).2

def firsts (f : Nat → Int) (k : Nat) : Nat → Int := fun i => if i < k then f i else 0
theorem firsts_next (f : Nat → Int) (k : Nat) : upd (firsts f k) k (f k) = firsts f (k + 1) := by
  funext j
  unfold upd firsts
  by_cases h : j = k
  · subst h; simp
  · by_cases h2 : j < k
    · simp [h, h2, show j < k + 1 by omega]
    · simp [h, h2, show ¬ j < k + 1 by omega]

theorem wpList_load25 {ops : Array Oper} {rest : List Oper} {o : Oper} {a : Act} {w : World} {Q : Exit → Act → World → Prop} (hgd : o.guard = none) (x : Operand) (ho : o.op = .load 79 x)
    (g : Nat) (hx : a.eval x = .pointer (some ⟨g, 0, none⟩)) (f : Nat → Int) (hg : w.heap[g]? = some (.cells (blk f) 79))
    (h : wpList Tryz.prog ops Q rest (a.put o.dst (.agg (blk f))) w) : wpList Tryz.prog ops Q (o :: rest) a w :=
  wpList_load_row hgd 79 x ho g hx 79 (blk f) (0, 0) _ hg Tryz.underlying79 rfl (by rw [blk_size]; exact size25) h
theorem wpList_store25 {ops : Array Oper} {rest : List Oper} {o : Oper} {a : Act} {w : World} {Q : Exit → Act → World → Prop} (hgd : o.guard = none) (x y : Operand) (ho : o.op = .store 79 x y)
    (g : Nat) (f : Nat → Int) (hx : a.eval x = .pointer (some ⟨g, 0, none⟩)) (hy : a.eval y = .agg (blk f)) (f0 : Nat → Int) (hg : w.heap[g]? = some (.cells (blk f0) 79))
    (h : wpList Tryz.prog ops Q rest (a.put o.dst undef) (w.setRow g (blk f))) : wpList Tryz.prog ops Q (o :: rest) a w :=
  wpList_plain hgd fun _ hK => by
    unfold Oper.wp execOp
    simp only [ho, hx, hy, Instr.storeAt, Instr.sureAddr, Sem.run_bind, Sem.run_pure, Result.andThen_ok, run_storeVar_row w g 79 79 (blk f0) (blk f) hg (by rw [blk_size]; exact size25) (by rw [blk_size, blk_size]) (blk_one f)]
    exact hK _ _ h

/-- A result that is a whole block in a cell. -/
theorem ret25 {fn : Func} {p : Tmp} {R : Ending → World → Prop} {a : Act} {w : World} (h : fn.results = #[.cell p 79]) (g : Nat) (f : Nat → Int)
    (hp : a.tmps.getD p undef = .pointer (some ⟨g, 0, none⟩)) (hg : w.heap[g]? = some (.cells (blk f) 79)) (hd : a.defers = []) (hR : R (.returned (.agg (blk f))) w) : bodyPost Tryz.prog fn R .ret a w :=
  bodyPost_ret (results_cell_row h a.tmps w g 79 (blk f) (0, 0) _ hp hg Tryz.underlying79 rfl (by rw [blk_size]; exact size25)) hd hR
theorem below_setRow {B : Nat} {a w : World} (h : Below B a w) {g : Nat} (hg : B ≤ g) (cs : Array Value) : Below B a (w.setRow g cs) :=
  h.trans ⟨rfl, rfl, rfl, by simp, fun k hk => setRow_other w g k cs (by omega)⟩
theorem below2 (w : World) (a b : Obj) (g : Nat) (hg : w.heap.size ≤ g) (cs : Array Value) : Below w.heap.size w (((w.alloc a).alloc b).setRow g cs) :=
  below_setRow (((Below.refl _ _).alloc (Nat.le_refl _) _).alloc (by simp) _) hg _
end Go.Proofs.YtlcdpmjdnihocaaGreatD
/- Two blocks held against each other: equal just where every byte is; for every two blocks. -/
namespace Go.Proofs.YtlcdpmjdnihocaaGreatD
open Go.RowKit

def sameB (f g : Nat → Int) : Bool := (List.range 1024).all fun i => f i == g i
theorem sameB_iff (f g : Nat → Int) : sameB f g = true ↔ ∀ i, i < 1024 → f i = g i := by
  simp [sameB, List.all_eq_true, List.mem_range]
theorem sameB_self (f : Nat → Int) : sameB f f = true := (sameB_iff f f).2 fun _ _ => rfl

theorem part5 (f : Nat → Int) (i : Nat) (hi : i < 1024) (w : World) : (part 5 (blk f) (i * 1)).run Tryz.prog w = .ok (.int .u8 (f i)) w := by
  have hb := blk_get f i hi
  simp [part, Tryz.isAgg5, hb]
theorem each25 (d : Nat) (f g : Nat → Int) (w : World) : ∀ l : List Nat, (∀ i, i ∈ l → i < 1024) →
    (forIn (m := Sem) l ((none : Option Bool), ()) fun i _ => do
            let x ← part 5 (blk f) (i * 1)
            let y ← part 5 (blk g) (i * 1)
            let b ← Op.equalIn (d + 1) 5 x y
            if (!b) = true then pure (ForInStep.done (some false, ())) else pure (ForInStep.yield (none, ()))).run Tryz.prog w
      = .ok ((if l.all (fun i => f i == g i) then none else some false), ()) w
  | [], _ => by simp
  | i :: l, h => by
    have h1 := part5 f i (h i (by simp)) w
    have h2 := part5 g i (h i (by simp)) w
    have ih := each25 d f g w l fun j hj => h j (by simp [hj])
    have he := run_equalIn_int (P := Tryz.prog) w d 5 .u8 .u8 (f i) (g i) Tryz.underlying5
    simp only [List.forIn_cons, Sem.run_bind, h1, h2, he, Result.andThen_ok, List.all_cons]
    by_cases e : f i = g i
    · simp only [e, beq_self_eq_true, Bool.not_true, Bool.false_eq_true, if_false, Sem.run_pure, Result.andThen_ok, Bool.true_and]
      exact ih
    · have e' : (f i == g i) = false := by simp [e]
      simp [e']
theorem eq25 (f g : Nat → Int) (w : World) : (Op.equalIn 10000 79 (.agg (blk f)) (.agg (blk g))).run Tryz.prog w = .ok (sameB f g) w := by
  have key := each25 9998 f g w (List.range' 0 [:1024].size) (fun i hi => by simpa [Std.Legacy.Range.size] using hi)
  show (Op.equalIn (9998 + 1 + 1) 79 (.agg (blk f)) (.agg (blk g))).run Tryz.prog w = _
  rw [Op.equalIn]
  simp only [Sem.run_bind, run_underlying Tryz.underlying79, Result.andThen_ok]
  rw [show (sizeOf 5).run Tryz.prog w = .ok 1 w by simp [go_sem]]
  simp only [Result.andThen_ok, Std.Legacy.Range.forIn_eq_forIn_range']
  refine (congrArg (fun r => Result.andThen r _) key).trans ?_
  have hr : List.range' 0 [:1024].size = List.range 1024 := by simp [Std.Legacy.Range.size, List.range_eq_range']
  rw [hr]
  show Result.andThen (Result.ok ((if sameB f g = true then none else some false), ()) w) _ = _
  cases sameB f g <;> simp
end Go.Proofs.YtlcdpmjdnihocaaGreatD
/- Rising lists of blocks by their numbers, as plain lists: what stands at a number, a block laid into a list; no condition but that the list rises. (Made ahead for stage 4.) -/
namespace Go.Proofs.YtlcdpmjdnihocaaGreatD

/-- A block's bytes behind a number. -/
abbrev Cel := Int × (Nat → Int)
/-- A block of bytes of which nothing but noughts stands behind byte 1023. -/
def Can (f : Nat → Int) : Prop := (∀ i, 0 ≤ f i ∧ f i ≤ 255) ∧ ∀ i, 1024 ≤ i → f i = 0
theorem can_nought : Can nought := ⟨fun _ => by unfold nought; omega, fun _ _ => rfl⟩
theorem Can.ext {f g : Nat → Int} (hf : Can f) (hg : Can g) (h : ∀ i, i < 1024 → f i = g i) : f = g := by
  funext i
  by_cases hi : i < 1024
  · exact h i hi
  · rw [hf.2 i (by omega), hg.2 i (by omega)]
theorem Can.same {f g : Nat → Int} (hf : Can f) (hg : Can g) : sameB f g = true ↔ f = g :=
  ⟨fun h => hf.ext hg ((sameB_iff f g).1 h), fun h => by subst h; exact sameB_self f⟩
/-- Is a block blank? -/
def blankB (f : Nat → Int) : Bool := sameB f nought
theorem Can.blank {f : Nat → Int} (hf : Can f) : blankB f = true ↔ f = nought := hf.same can_nought

/-- What stands at a number; noughts, if nothing does. -/
def atL : List Cel → Int → Nat → Int
  | [], _ => nought
  | (i, x) :: t, k => if i = k then x else atL t k
/-- All numbers are greater than m, and they rise. -/
def Rise : Int → List Cel → Prop
  | _, [] => True
  | m, (i, _) :: t => m < i ∧ Rise i t
/-- All blocks are blocks, none of them blank. -/
def Sound (l : List Cel) : Prop := ∀ c ∈ l, Can c.2 ∧ c.2 ≠ nought
/-- A block laid into a list: the numbers from k on are met; done: nothing is to be laid any more. -/
def laidGo (k : Int) (b : Nat → Int) : Bool → List Cel → List Cel
  | done, [] => if done then [] else [(k, b)]
  | done, (i, x) :: t => (if !done && decide (k ≤ i) then [(k, b)] else []) ++ ((if i = k then [] else [(i, x)]) ++ laidGo k b (done || decide (k ≤ i)) t)
def laidL (l : List Cel) (k : Int) (b : Nat → Int) : List Cel := laidGo k b (blankB b) l

theorem Rise.mono {m m' : Int} (h : m' ≤ m) : ∀ {l : List Cel}, Rise m l → Rise m' l
  | [], _ => trivial
  | (_, _) :: _, hl => ⟨by have := hl.1; omega, hl.2⟩
theorem at_above {m : Int} : ∀ {l : List Cel}, Rise m l → ∀ k, k ≤ m → atL l k = nought
  | [], _, _, _ => rfl
  | (i, x) :: t, hl, k, hk => by
    have h1 := hl.1
    unfold atL
    rw [if_neg (by omega)]
    exact at_above hl.2 k (by omega)
theorem at_can {l : List Cel} (hl : Sound l) (k : Int) : Can (atL l k) := by
  induction l with
  | nil => exact can_nought
  | cons c t ih =>
    obtain ⟨i, x⟩ := c
    unfold atL
    split
    · exact (hl (i, x) (by simp)).1
    · exact ih fun c hc => hl c (by simp [hc])
/-- Two rising lists with the same blocks at all numbers are one. -/
theorem rise_ext : ∀ {m m' : Int} {l l' : List Cel}, Rise m l → Rise m' l' → Sound l → Sound l' → (∀ k, atL l k = atL l' k) → l = l'
  | _, _, [], [], _, _, _, _, _ => rfl
  | _, _, [], (i, x) :: t, _, _, _, s', h => by
    have := h i
    simp only [atL, if_pos] at this
    exact absurd this.symm (s' (i, x) (by simp)).2
  | _, _, (i, x) :: t, [], _, _, s, _, h => by
    have := h i
    simp only [atL, if_pos] at this
    exact absurd this (s (i, x) (by simp)).2
  | _, _, (i, x) :: t, (j, y) :: t', r, r', s, s', h => by
    have hij : i = j := by
      by_cases h1 : i < j
      · have := h i
        rw [show atL ((j, y) :: t') i = nought from at_above (show Rise i ((j, y) :: t') from ⟨h1, r'.2⟩) i (Int.le_refl _)] at this
        simp only [atL, if_pos] at this
        exact absurd this (s (i, x) (by simp)).2
      · by_cases h2 : j < i
        · have := h j
          rw [show atL ((i, x) :: t) j = nought from at_above (show Rise j ((i, x) :: t) from ⟨h2, r.2⟩) j (Int.le_refl _)] at this
          simp only [atL, if_pos] at this
          exact absurd this.symm (s' (j, y) (by simp)).2
        · omega
    subst hij
    have hxy : x = y := by
      have := h i
      simpa only [atL, if_pos] using this
    subst hxy
    have ht : t = t' := by
      refine rise_ext r.2 r'.2 (fun c hc => s c (by simp [hc])) (fun c hc => s' c (by simp [hc])) fun k => ?_
      by_cases hk : i = k
      · subst hk
        rw [at_above r.2 i (Int.le_refl _), at_above r'.2 i (Int.le_refl _)]
      · have := h k
        simpa only [atL, if_neg hk] using this
    rw [ht]

theorem laid_done (k : Int) (b : Nat → Int) : ∀ {m : Int} {l : List Cel}, k ≤ m → Rise m l → laidGo k b true l = l
  | _, [], _, _ => rfl
  | m, (i, x) :: t, hk, hl => by
    have h1 := hl.1
    unfold laidGo
    simp only [Bool.not_true, Bool.false_and, Bool.false_eq_true, if_false, List.nil_append, Bool.true_or]
    rw [if_neg (by omega), laid_done k b (m := i) (by omega) hl.2]
    rfl
/-- What a list is behind the laying: it rises, it is sound, and at k stands b; all else stays. -/
theorem laid_spec (k : Int) (b : Nat → Int) (hb : Can b) : ∀ {m : Int} {l : List Cel}, m < k → Rise m l → Sound l →
    Rise m (laidL l k b) ∧ Sound (laidL l k b) ∧ ∀ j, atL (laidL l k b) j = if j = k then b else atL l j := by
  unfold laidL
  cases hbl : blankB b
  · have hne : b ≠ nought := fun h => by rw [hb.blank.2 h] at hbl; cases hbl
    intro m l
    induction l generalizing m with
    | nil =>
      intro hk _ _
      refine ⟨⟨hk, trivial⟩, fun c hc => ?_, fun j => ?_⟩
      · have : c = (k, b) := by simpa [laidGo] using hc
        subst this
        exact ⟨hb, hne⟩
      · simp only [laidGo, Bool.false_eq_true, if_false, atL]
        by_cases hj : j = k
        · rw [if_pos hj.symm, if_pos hj]
        · rw [if_neg (fun h => hj h.symm), if_neg hj]
    | cons c t ih =>
      obtain ⟨i, x⟩ := c
      intro hk hl hs
      have h1 := hl.1
      have hst : Sound t := fun c hc => hs c (by simp [hc])
      unfold laidGo
      simp only [Bool.not_false, Bool.true_and, Bool.false_or]
      by_cases hki : k ≤ i
      · rw [if_pos (by simpa using hki), decide_eq_true hki, laid_done k b hki hl.2]
        by_cases hik : i = k
        · subst hik
          rw [if_pos rfl]
          refine ⟨⟨hk, hl.2⟩, fun c hc => ?_, fun j => ?_⟩
          · have : c = (i, b) ∨ c ∈ t := by simpa using hc
            rcases this with rfl | h
            · exact ⟨hb, hne⟩
            · exact hst c h
          · simp only [List.singleton_append, List.nil_append, atL]
            by_cases hj : j = i
            · rw [if_pos hj.symm, if_pos hj]
            · rw [if_neg (fun h => hj h.symm), if_neg hj, if_neg (fun h => hj h.symm)]
        · rw [if_neg hik]
          refine ⟨⟨hk, by omega, hl.2⟩, fun c hc => ?_, fun j => ?_⟩
          · have : c = (k, b) ∨ c = (i, x) ∨ c ∈ t := by simpa using hc
            rcases this with rfl | rfl | h
            · exact ⟨hb, hne⟩
            · exact hs _ (by simp)
            · exact hst c h
          · simp only [List.singleton_append, atL]
            by_cases hj : j = k
            · rw [if_pos hj.symm, if_pos hj]
            · rw [if_neg (fun h => hj h.symm), if_neg hj]
      · rw [if_neg (by simpa using hki), if_neg (by omega), decide_eq_false hki]
        obtain ⟨r1, r2, r3⟩ := ih (m := i) (by omega) hl.2 hst
        refine ⟨⟨h1, r1⟩, fun c hc => ?_, fun j => ?_⟩
        · have : c = (i, x) ∨ c ∈ laidGo k b false t := by simpa using hc
          rcases this with rfl | h
          · exact hs _ (by simp)
          · exact r2 c h
        · simp only [List.nil_append, List.singleton_append, atL]
          rw [r3 j]
          by_cases hj : i = j
          · rw [if_pos hj, if_pos hj, if_neg (by omega)]
          · rw [if_neg hj, if_neg hj]
  · have hb0 : b = nought := hb.blank.1 hbl
    subst hb0
    intro m l
    induction l generalizing m with
    | nil =>
      intro _ _ _
      refine ⟨trivial, fun c hc => by simp [laidGo] at hc, fun j => ?_⟩
      simp [laidGo, atL]
    | cons c t ih =>
      obtain ⟨i, x⟩ := c
      intro hk hl hs
      have h1 := hl.1
      have hst : Sound t := fun c hc => hs c (by simp [hc])
      unfold laidGo
      simp only [Bool.not_true, Bool.false_and, Bool.false_eq_true, if_false, List.nil_append, Bool.true_or]
      by_cases hik : i = k
      · subst hik
        rw [if_pos rfl, laid_done i nought (Int.le_refl _) hl.2, List.nil_append]
        refine ⟨hl.2.mono (by omega), hst, fun j => ?_⟩
        simp only [atL]
        by_cases hj : j = i
        · rw [if_pos hj, hj]; exact at_above hl.2 i (Int.le_refl _)
        · rw [if_neg hj, if_neg (fun h => hj h.symm)]
      · rw [if_neg hik]
        by_cases hlt : i < k
        · obtain ⟨r1, r2, r3⟩ := ih (m := i) hlt hl.2 hst
          refine ⟨⟨h1, r1⟩, fun c hc => ?_, fun j => ?_⟩
          · have : c = (i, x) ∨ c ∈ laidGo k nought true t := by simpa using hc
            rcases this with rfl | h
            · exact hs _ (by simp)
            · exact r2 c h
          · simp only [List.singleton_append, atL]
            rw [r3 j]
            by_cases hj : i = j
            · rw [if_pos hj, if_pos hj, if_neg (by omega)]
            · rw [if_neg hj, if_neg hj]
        · rw [laid_done k nought (m := i) (by omega) hl.2]
          refine ⟨⟨h1, hl.2⟩, hs, fun j => ?_⟩
          simp only [List.singleton_append]
          by_cases hj : j = k
          · rw [if_pos hj, hj]
            exact at_above (show Rise k ((i, x) :: t) from ⟨by omega, hl.2⟩) k (Int.le_refl _)
          · rw [if_neg hj]
end Go.Proofs.YtlcdpmjdnihocaaGreatD
/- Regions whose order is drawn and whose calls make memory but turn none that was there: one walk in the text's order serves every order. -/
namespace Go.Proofs.YtlcdpmjdnihocaaGreatD
open Go.RowKit

/-- A world that has all that W has, and perhaps more behind it. -/
structure Later (W : World) where
  val : World
  below : Below W.heap.size W val

theorem later_some (W : World) : Nonempty (Later W) := ⟨⟨W, Below.refl _ _⟩⟩
theorem Later.cell {W : World} (x : Later W) (p : Addr) (h : p.block < W.heap.size) : x.val.cell? p = W.cell? p := x.below.cell h
theorem Later.heap {W : World} (x : Later W) (g : Nat) (h : g < W.heap.size) : x.val.heap[g]? = W.heap[g]? := x.below.block g h

theorem wp_region_later {id : Nat} {Q : Exit → Act → World → Prop} {a : Act} {w : World} {l : List Oper} (hm : Tryz.prog.follows .mixedOrders = true) (hB : Region.lexB .any l.toArray = true)
    (W : World) (hW : Below W.heap.size W w)
    (h : wpQuiet Tryz.prog l.toArray (fun w' => ∃ x : Later W, w' = x.val) (fun a' => ∀ w', (∃ x : Later W, w' = x.val) → Q .normal a' w') l a) : (Code.region id l.toArray true).wp Tryz.prog Q a w :=
  wp_region_quiet (C := fun w' => ∃ x : Later W, w' = x.val) hm hB ⟨⟨_, hW.drew⟩, rfl⟩ (by simpa using h)

theorem Later.call {W : World} (x : Later W) {f : FuncId} {args : Array Value} {v : Value}
    (h : Calls Tryz.prog f args x.val fun e w' => e = .returned v ∧ Below x.val.heap.size x.val w') : Calls Tryz.prog f args x.val fun e w'' => e = .returned v ∧ ∃ y : Later W, w'' = y.val :=
  h.mono fun _ w' ⟨he, hb⟩ => ⟨he, ⟨w', x.below.trans (hb.mono x.below.size)⟩, rfl⟩

theorem quiet_load25 {W : World} {o : Oper} {a : Act} {K : Act → Prop} (x : Operand) (ho : o.op = .load 79 x) (g : Nat) (hx : a.eval x = .pointer (some ⟨g, 0, none⟩)) (f : Nat → Int)
    (hg : W.heap[g]? = some (.cells (blk f) 79)) (hk : K (a.put o.dst (.agg (blk f)))) : o.quiet Tryz.prog a (fun w' => ∃ x : Later W, w' = x.val) K := by
  refine ⟨.agg (blk f), ?_, hk⟩
  rintro _ ⟨y, rfl⟩
  have hlt : g < W.heap.size := (Array.getElem?_eq_some_iff.1 hg).1
  have hh := (y.heap g hlt).trans hg
  unfold Oper.quietAt execOp
  simp only [ho, hx, Instr.loadAt, Instr.sureAddr, Sem.run_bind, Sem.run_pure, Result.andThen_ok, run_loadVar_row y.val g 79 79 (blk f) (0, 0) _ hh Tryz.underlying79 rfl (by rw [blk_size]; exact size25)]
  exact ⟨rfl, rfl⟩

theorem wpList_store25_new {ops : Array Oper} {rest : List Oper} {o : Oper} {a : Act} {w : World} {Q : Exit → Act → World → Prop} (hgd : o.guard = none) (x y : Operand) (ho : o.op = .store 79 x y)
    (f f0 : Nat → Int) (hx : a.eval x = .pointer (some ⟨w.heap.size, 0, none⟩)) (hy : a.eval y = .agg (blk f))
    (h : wpList Tryz.prog ops Q rest (a.put o.dst undef) (w.alloc (.cells (blk f) 79))) : wpList Tryz.prog ops Q (o :: rest) a (w.alloc (.cells (blk f0) 79)) :=
  wpList_store25 hgd x y ho w.heap.size f hx hy f0 (heap_alloc_new _ _) (by rw [World.setRow_alloc_new]; exact h)
end Go.Proofs.YtlcdpmjdnihocaaGreatD
/- Maps from numbers to values, told as functions: what is looked up, written, struck; the numbers lie from 0 to 2 to the 20th. -/
namespace Go.Proofs.YtlcdpmjdnihocaaGreatD
open Go.Maps

/-- An element reads as itself. -/
def valElem (v : Value) : Option (DataW Value × List MemPlace) := some (.held v, [])

theorem nodup_le : ∀ (N : Nat) (l : List Int), l.Nodup → (∀ x ∈ l, 0 ≤ x ∧ x < (N : Int)) → l.length ≤ N
  | 0, l, _, h => by
    cases l with
    | nil => simp
    | cons a t => have := h a (by simp); omega
  | N + 1, l, hn, h => by
    by_cases hm : (N : Int) ∈ l
    · have h1 := nodup_le N (l.erase (N : Int)) (hn.erase _) (fun x hx => by
        have hx' := (hn.mem_erase_iff).1 hx
        have := h x hx'.2
        have hne := hx'.1
        omega)
      rw [List.length_erase_of_mem hm] at h1
      omega
    · have h1 := nodup_le N l hn (fun x hx => by
        have := h x hx
        have hne : x ≠ (N : Int) := fun e => hm (e ▸ hx)
        omega)
      omega

/-- The greatest number of blocks. -/
abbrev top : Nat := 1048576
def inTop (x : Int) : Prop := 0 ≤ x ∧ x < 1048576
theorem inTop.wf {x : Int} (h : inTop x) : (Lit.int .i64 x).wf = true := by
  obtain ⟨h1, h2⟩ := h
  exact WalkArith.wf_i64 (by omega)

/-- The datum D reads as the function m. -/
structure Views (D : DataW Value) (m : Int → Option Value) : Prop where
  some : ∀ x v, m x = .some v → inTop x ∧ has D (.int .i64 x) = true ∧ ∀ z, D.atKey (.int .i64 x) z = .held v
  none : ∀ x, m x = .none → has D (.int .i64 x) = false

/-- Block b is a map that reads as the function m. -/
def MapIs (P : Program) (k : TypeId) (w : World) (b : Nat) (m : Int → Option Value) : Prop :=
  ∃ D, w.ownsMap P k valElem b top D ∧ Views D m

variable {P : Program} {k : TypeId} {w : World} {b : Nat} {m : Int → Option Value}

theorem MapIs.lt (h : MapIs P k w b m) : b < w.heap.size := by obtain ⟨D, h, _⟩ := h; exact h.lt
theorem MapIs.kept {w' : World} (h : MapIs P k w b m) (hb : w'.heap[b]? = w.heap[b]?) : MapIs P k w' b m := by
  obtain ⟨D, ⟨es, clock, h1, h2⟩, hv⟩ := h
  exact ⟨D, ⟨es, clock, hb.trans h1, h2⟩, hv⟩
theorem MapIs.isMap (h : MapIs P k w b m) : ∃ es clock, w.heap[b]? = some (.map es clock) := by
  obtain ⟨D, ⟨es, clock, h1, _⟩, _⟩ := h
  exact ⟨es, clock, h1⟩
theorem MapIs.made (w : World) : MapIs P k (w.alloc (.map #[] 0)) w.heap.size (fun _ => none) := by
  refine ⟨.map [], (World.ownsMap_made w P k valElem).mono (by unfold top; omega), ⟨fun x v h => by simp at h, fun x _ => rfl⟩⟩

theorem size_top (hk : P.underlying k = some (.int .i64)) {n : Nat} {D : DataW Value} (h : w.ownsMap P k valElem b n D) (K : Keyed P k) (hv : Views D m) : Maps.size D ≤ top := by
  obtain ⟨es, rfl, hp, _⟩ := h.entries K
  have hko : ∀ p ∈ es, ∃ x, p.1 = .int .i64 x := by
    obtain ⟨es', clock, _, F, _, hD⟩ := h
    intro p hp
    have e : es = (es'.toList.map (Go.WideElems.rg P k valElem)).foldr DataW.insert [] := by simpa using hD
    rw [e] at hp
    obtain ⟨y, hy, rfl⟩ := List.mem_map.1 (mem_sorted.1 hp)
    obtain ⟨z, hz⟩ := F.reads y hy
    obtain ⟨x, _, hx, _⟩ := Maps.keyOf_int_inv hk (Go.WideElems.rd_key hz)
    exact ⟨x, by rw [Go.WideElems.rg_of hz]; exact hx⟩
  let f : Lit × DataW Value → Int := fun p => match p.1 with | .int _ x => x | _ => 0
  have h1 := nodup_le top (es.map f) ?_ ?_
  · simpa [Maps.size] using h1
  · refine List.pairwise_map.2 (hp.imp_of_mem fun {p q} hp' hq' hne e => hne ?_)
    obtain ⟨a, ha⟩ := hko p hp'
    obtain ⟨c, hc⟩ := hko q hq'
    simp only [f, ha, hc] at e
    rw [ha, hc, e]
  · intro x hx
    obtain ⟨p, hp', rfl⟩ := List.mem_map.1 hx
    obtain ⟨a, ha⟩ := hko p hp'
    have hh : has (.map es) (.int .i64 a) = true := List.any_eq_true.2 ⟨p, hp', by rw [ha]; simp [Lit.sameKey]⟩
    have hfa : f p = a := by simp only [f, ha]
    rw [hfa]
    cases hm : m a with
    | none => rw [hv.none a hm] at hh; cases hh
    | some v => exact (hv.some a v hm).1
theorem owns_top (hk : P.underlying k = some (.int .i64)) {n : Nat} {D : DataW Value} (h : w.ownsMap P k valElem b n D) (K : Keyed P k) (hv : Views D m) : w.ownsMap P k valElem b top D := by
  have h1 := size_top hk h K hv
  obtain ⟨es, clock, hb, F, _, rfl⟩ := h
  exact ⟨es, clock, hb, F, by simpa [Maps.size, length_sorted] using h1, rfl⟩

theorem views_put {D : DataW Value} (hD : IsMap D) (hv : Views D m) {x : Int} (hx : inTop x) (v : Value) : Views (D.put (.int .i64 x) (.held v)) (fun y => if y = x then some v else m y) := by
  have hkl : WideAt.IsKeyLit (.int .i64 x) := by first | trivial | simp [WideAt.IsKeyLit]
  constructor
  · intro y u hy
    by_cases e : y = x
    · subst e
      simp only [if_pos] at hy
      cases hy
      exact ⟨hx, has_put_same hD hkl _, fun z => atKey_put_same hD hkl _ z⟩
    · simp only [if_neg e] at hy
      obtain ⟨h1, h2, h3⟩ := hv.some y u hy
      have hne : (Lit.int .i64 y) ≠ .int .i64 x := fun q => e (by injection q)
      exact ⟨h1, by rw [has_put_other hne]; exact h2, fun z => by rw [atKey_put_other hne]; exact h3 z⟩
  · intro y hy
    by_cases e : y = x
    · subst e; simp at hy
    · simp only [if_neg e] at hy
      have hne : (Lit.int .i64 y) ≠ .int .i64 x := fun q => e (by injection q)
      rw [has_put_other hne]; exact hv.none y hy
theorem views_del {D : DataW Value} (hv : Views D m) (x : Int) : Views (D.del (.int .i64 x)) (fun y => if y = x then none else m y) := by
  constructor
  · intro y u hy
    by_cases e : y = x
    · subst e; simp at hy
    · simp only [if_neg e] at hy
      obtain ⟨h1, h2, h3⟩ := hv.some y u hy
      have hne : (Lit.int .i64 y) ≠ .int .i64 x := fun q => e (by injection q)
      exact ⟨h1, by rw [has_del_other hne]; exact h2, fun z => by rw [atKey_del_other hne]; exact h3 z⟩
  · intro y hy
    by_cases e : y = x
    · subst e; exact has_del_same
    · simp only [if_neg e] at hy
      have hne : (Lit.int .i64 y) ≠ .int .i64 x := fun q => e (by injection q)
      rw [has_del_other hne]; exact hv.none y hy

section
variable {ops : Array Oper} {rest : List Oper} {o : Oper} {a : Act} {Q : Exit → Act → World → Prop}

theorem key_int (hk : P.underlying k = some (.int .i64)) {x : Int} (hx : (Lit.int .i64 x).wf = true) : keyOf P k (.int .i64 x) = some (.int .i64 x) := keyOf_int_mk hk hx

theorem valElem_inv {v : Value} {z : DataW Value} {ps : List MemPlace} (h : valElem v = some (z, ps)) : z = .held v := by
  unfold valElem at h
  cases h
  rfl

/-- What is looked up, with 'ok'. -/
theorem look_ok {t e : TypeId} (hk : P.underlying k = some (.int .i64)) (K : Keyed P k) (ht : P.underlying t = some (.map k e)) (h : MapIs P k w b m) {z : Value} (hz : (zeroValue e).run P w = .ok z w) {x : Int} (hx : (Lit.int .i64 x).wf = true) :
    (Instr.lookup t (.map (some b)) (.int .i64 x) true).run P w = .ok (.tuple #[(m x).getD z, .bool (m x).isSome]) w := by
  obtain ⟨D, hown, hv⟩ := h
  obtain ⟨v, ps, hrun, hR⟩ := hown.look_ok K ht hz (zd := .held z) (zp := []) rfl (key_int hk hx)
  rw [hrun]
  cases hm : m x with
  | none =>
    have h1 := hv.none x hm
    rw [atKey_of_not_has h1] at hR
    unfold valElem at hR
    simp at hR
    rw [h1, hR.1]; rfl
  | some u =>
    obtain ⟨_, h1, h2⟩ := hv.some x u hm
    rw [h2] at hR
    unfold valElem at hR
    simp at hR
    rw [h1, hR.1]; rfl
theorem wpList_lookM_ok (hg : o.guard = none) (mo xo : Operand) (t : TypeId) (hop : o.op = Op.lookup t mo xo true) (e : TypeId) (hk : P.underlying k = some (.int .i64)) (K : Keyed P k) (ht : P.underlying t = some (.map k e))
    (hm : a.eval mo = .map (some b)) (h : MapIs P k w b m) {z : Value} (hz : (zeroValue e).run P w = .ok z w) (x : Int) (hx : (Lit.int .i64 x).wf = true) (hxo : a.eval xo = .int .i64 x)
    (hK : wpList P ops Q rest (a.put o.dst (.tuple #[(m x).getD z, .bool (m x).isSome])) w) : wpList P ops Q (o :: rest) a w := by
  refine wpList_plain hg fun K' hK' => ?_
  unfold Oper.wp
  simp [execOp, hop, hm, hxo, look_ok hk K ht h hz hx, Result.andThen]
  exact hK' _ _ hK
/-- .. without it. -/
theorem look_at {t e : TypeId} (hk : P.underlying k = some (.int .i64)) (K : Keyed P k) (ht : P.underlying t = some (.map k e)) (h : MapIs P k w b m) {z : Value} (hz : (zeroValue e).run P w = .ok z w) {x : Int} (hx : (Lit.int .i64 x).wf = true) :
    (Instr.lookup t (.map (some b)) (.int .i64 x) false).run P w = .ok ((m x).getD z) w := by
  obtain ⟨D, hown, hv⟩ := h
  obtain ⟨v, ps, hrun, hR⟩ := hown.lookup K ht hz (zd := .held z) (zp := []) rfl (key_int hk hx)
  rw [hrun]
  cases hm : m x with
  | none =>
    have h1 := hv.none x hm
    rw [atKey_of_not_has h1] at hR
    unfold valElem at hR
    simp at hR
    rw [hR.1]; rfl
  | some u =>
    obtain ⟨_, h1, h2⟩ := hv.some x u hm
    rw [h2] at hR
    unfold valElem at hR
    simp at hR
    rw [hR.1]; rfl
/-- What is written. -/
theorem wpList_putM (hg : o.guard = none) (mo xo vo : Operand) (t : TypeId) (hop : o.op = Op.mapUpdate t mo xo vo) (e : TypeId) (hk : P.underlying k = some (.int .i64)) (K : Keyed P k) (ht : P.underlying t = some (.map k e))
    (b : Nat) (m : Int → Option Value) (hm : a.eval mo = .map (some b)) (h : MapIs P k w b m) (x : Int) (hx : inTop x) (hxo : a.eval xo = .int .i64 x) (v : Value) (hvo : a.eval vo = v)
    (hK : ∀ w', MapIs P k w' b (fun y => if y = x then some v else m y) → w.grownBy w' (some b) → wpList P ops Q rest (a.put o.dst undef) w') : wpList P ops Q (o :: rest) a w := by
  obtain ⟨D, hown, hv⟩ := h
  refine wpList_mapUpdate_own w hg mo xo vo t hop k e K ht valElem b top D hm hown (by unfold top maxLen; omega) _ _ (.int .i64 x) hxo hvo (key_int hk hx.wf) (.held v) [] rfl fun w' h1 h2 => ?_
  have hv' := views_put hown.isMap hv hx v
  exact hK w' ⟨_, owns_top hk h1 K hv', hv'⟩ h2
/-- What is struck. -/
theorem wpList_delM (hg : o.guard = none) (mo xo : Operand) (t : TypeId) (hop : o.op = Op.call { callee := Callee.builtin Builtin.delete, args := #[mo, xo], argTypes := #[t, k] }) (e : TypeId) (hk : P.underlying k = some (.int .i64)) (K : Keyed P k) (ht : P.underlying t = some (.map k e))
    (b : Nat) (m : Int → Option Value) (hm : a.eval mo = .map (some b)) (h : MapIs P k w b m) (x : Int) (hx : (Lit.int .i64 x).wf = true) (hxo : a.eval xo = .int .i64 x)
    (hK : ∀ w', MapIs P k w' b (fun y => if y = x then none else m y) → w.grownBy w' (some b) → wpList P ops Q rest (a.put o.dst (.tuple #[])) w') : wpList P ops Q (o :: rest) a w := by
  obtain ⟨D, hown, hv⟩ := h
  refine wpList_delete_own w hg mo xo t k hop e K ht valElem b top D hm hown _ (.int .i64 x) hxo (key_int hk hx) fun w' h1 h2 => ?_
  exact hK w' ⟨_, h1, views_del hv x⟩ h2.grown
end
end Go.Proofs.YtlcdpmjdnihocaaGreatD
/- A disk in memory: its row of twelve cells, its two maps, its history; and what it stands for: what is held, what was done, what is pending; no condition. -/
namespace Go.Proofs.YtlcdpmjdnihocaaGreatD
open Go.RowKit

/-- Nothing has turned but blocks of T and new ones. -/
structure Fr (T : Nat → Prop) (w w' : World) : Prop where
  os : w'.os = w.os
  tape : w'.tape = w.tape
  output : w'.output = w.output
  size : w.heap.size ≤ w'.heap.size
  block : ∀ k, k < w.heap.size → ¬ T k → w'.heap[k]? = w.heap[k]?
theorem Fr.refl (T : Nat → Prop) (w : World) : Fr T w w := ⟨rfl, rfl, rfl, Nat.le_refl _, fun _ _ _ => rfl⟩
theorem Fr.trans {T T' : Nat → Prop} {a b c : World} (h : Fr T a b) (k : Fr T' b c) (hT : ∀ i, i < a.heap.size → T' i → T i) : Fr T a c :=
  ⟨k.os.trans h.os, k.tape.trans h.tape, k.output.trans h.output, Nat.le_trans h.size k.size, fun i hi hn => (k.block i (Nat.lt_of_lt_of_le hi h.size) (fun q => hn (hT i hi q))).trans (h.block i hi hn)⟩
theorem Fr.mono {T T' : Nat → Prop} {a b : World} (h : Fr T a b) (hT : ∀ i, i < a.heap.size → T i → T' i) : Fr T' a b :=
  ⟨h.os, h.tape, h.output, h.size, fun i hi hn => h.block i hi fun q => hn (hT i hi q)⟩
theorem Fr.ofBelow {T : Nat → Prop} {a b : World} (h : Below a.heap.size a b) : Fr T a b := ⟨h.os, h.tape, h.output, h.size, fun i hi _ => h.block i hi⟩
theorem Fr.below {T : Nat → Prop} {B : Nat} {a b : World} (h : Fr T a b) (hT : ∀ i, T i → B ≤ i) (hB : B ≤ a.heap.size) : Below B a b :=
  ⟨h.os, h.tape, h.output, h.size, fun i hi => h.block i (by omega) fun q => by have := hT i q; omega⟩
theorem Fr.ofGrown {a b : World} {r : Option Nat} (h : a.grownBy b r) : Fr (fun i => r = some i) a b := ⟨h.os, h.tape, h.output, h.size, fun i hi hn => h.block i hi fun q => hn q.symm⟩
theorem Fr.setCell (w : World) (g i : Nat) (v : Value) : Fr (fun k => k = g) w (w.setCell ⟨g, i, none⟩ v) :=
  ⟨rfl, rfl, rfl, by simp, fun k _ hn => Below.heap_setCell w _ v k hn⟩
theorem Fr.alloc (T : Nat → Prop) (w : World) (o : Obj) : Fr T w (w.alloc o) := Fr.ofBelow ((Below.refl _ _).alloc (Nat.le_refl _) o)

/-- A thing that was done. -/
structure Rec where
  kind : Int
  pos : Int
  dat : Nat → Int
def recCells (r : Rec) : List Value := .int .u8 r.kind :: .int .i64 r.pos :: (blk r.dat).toList
def opCells (l : List Rec) : List Value := l.flatMap recCells
theorem blk_list_len (f : Nat → Int) : (blk f).toList.length = 1024 := by rw [Array.length_toList, blk_size]
theorem recCells_len (r : Rec) : (recCells r).length = 1026 := by simp [recCells, blk_size]
theorem opCells_len : ∀ l : List Rec, (opCells l).length = l.length * 1026
  | [] => rfl
  | r :: t => by
    have ih := opCells_len t
    have h1 := recCells_len r
    show (recCells r ++ opCells t).length = _
    rw [List.length_append, ih, h1, List.length_cons]
    omega
theorem opCells_append (a b : List Rec) : opCells (a ++ b) = opCells a ++ opCells b := by simp [opCells]
theorem recCells_one (r : Rec) : ∀ v ∈ recCells r, v.oneCell' = true := by
  intro v hv
  simp only [recCells, List.mem_cons] at hv
  rcases hv with rfl | rfl | h
  · rfl
  · rfl
  · have := blk_one r.dat
    rw [Array.all_eq_true_iff_forall_mem] at this
    exact this v (by simpa using h)

/-- What a disk stands for. -/
structure St where
  n : Int
  held : Int → Option (Nat → Int)
  done : List Rec
  wait : List Cel
  fuse : Int
  stopped : Bool
  made : Int
  reads : Int
  claims : Int
  claimed : Bool
def wrec (c : Cel) : Rec := ⟨1, c.1, c.2⟩
def St.ops (s : St) : List Rec := s.done ++ s.wait.map wrec
/-- Where the last write of a block stands. -/
def lastAt : List Cel → Int → Option Nat
  | [], _ => none
  | c :: t, k => match lastAt t k with
    | some i => some (i + 1)
    | none => if c.1 = k then some 0 else none
theorem lastAt_snoc (c : Cel) (k : Int) : ∀ l : List Cel, lastAt (l ++ [c]) k = if c.1 = k then some l.length else lastAt l k
  | [] => by simp [lastAt]
  | x :: t => by
    show (match lastAt (t ++ [c]) k with | some i => some (i + 1) | none => if x.1 = k then some 0 else none) = _
    rw [lastAt_snoc c k t]
    by_cases h : c.1 = k
    · simp [h]
    · simp [h, lastAt]
theorem lastAt_spec (k : Int) : ∀ (l : List Cel) (i : Nat), lastAt l k = some i → ∃ c, l[i]? = some c ∧ c.1 = k
  | [], i, h => by simp [lastAt] at h
  | x :: t, i, h => by
    unfold lastAt at h
    cases ht : lastAt t k with
    | none =>
      rw [ht] at h
      by_cases hx : x.1 = k
      · simp [hx] at h; subst h; exact ⟨x, rfl, hx⟩
      · simp [hx] at h
    | some j =>
      rw [ht] at h
      simp at h
      subst h
      obtain ⟨c, h1, h2⟩ := lastAt_spec k t j ht
      exact ⟨c, by simpa using h1, h2⟩
def heldV (s : St) : Int → Option Value := fun k => (s.held k).map fun f => .agg (blk f)
def lateV (s : St) : Int → Option Value := fun k => (lastAt s.wait k).map fun i => .int .i64 ((s.done.length + i : Nat) : Int)

/-- What holds of every disk. -/
structure Ok (s : St) : Prop where
  n : 1 ≤ s.n ∧ s.n ≤ 1048576
  held : ∀ k f, s.held k = some f → (0 ≤ k ∧ k < s.n) ∧ Can f ∧ f ≠ nought
  wait : ∀ c ∈ s.wait, (0 ≤ c.1 ∧ c.1 < s.n) ∧ Can c.2
  fuse : -1 ≤ s.fuse ∧ s.fuse ≤ 9223372036854775807
  made : 0 ≤ s.made
  reads : 0 ≤ s.reads
  claims : 0 ≤ s.claims
/-- There is room for more. -/
structure Room (s : St) : Prop where
  ops : s.ops.length < 68719476736
  made : s.made < 1099511627776
  reads : s.reads < 1099511627776
  claims : s.claims < 1099511627776

/-- Where a disk lies: its row, its maps, its history. -/
structure Loc where
  d : Nat
  hb : Nat
  lb : Nat
  hv : Value
def Loc.has (L : Loc) (k : Nat) : Prop := k = L.d ∨ k = L.hb ∨ k = L.lb ∨ L.hv.ownBlock = some k
def dkRow (L : Loc) (s : St) : Array Value :=
  #[.pointer (some ⟨L.d, 0, none⟩), .int .i64 s.n, .map (some L.hb), L.hv, .int .i64 (s.done.length : Int), .map (some L.lb), .int .i64 s.fuse, .bool s.stopped, .int .i64 s.made, .int .i64 s.reads, .int .i64 s.claims, .bool s.claimed]

structure DiskAt (w : World) (L : Loc) (s : St) : Prop where
  row : w.heap[L.d]? = some (.cells (dkRow L s) 49)
  held : MapIs Tryz.prog 3 w L.hb (heldV s)
  late : MapIs Tryz.prog 3 w L.lb (lateV s)
  hist : w.ownsRow 0 94 1026 L.hv s.ops.length (opCells s.ops)
  ne : L.hb ≠ L.lb
  ok : Ok s
theorem ownsRow_kept0 {w w' : World} {base e size n : Nat} {v : Value} {xs : List Value} (h : w.ownsRow base e size v n xs) (hb : ∀ k, v.ownBlock = some k → w'.heap[k]? = w.heap[k]?) : w'.ownsRow base e size v n xs := by
  refine ⟨h.1, ?_⟩
  rcases h.2 with h | ⟨g, cap, cur, rfl, h1, h2, h3⟩
  · exact .inl h
  · exact .inr ⟨g, cap, cur, rfl, h1, (hb g rfl).trans h2, h3⟩
theorem DiskAt.lt {w : World} {L : Loc} {s : St} (h : DiskAt w L s) (k : Nat) (hk : L.has k) : k < w.heap.size := by
  rcases hk with rfl | rfl | rfl | hk
  · exact (Array.getElem?_eq_some_iff.1 h.row).1
  · exact h.held.lt
  · exact h.late.lt
  · exact (h.hist.lt k hk).2
/-- It stays what it is where its blocks do. -/
theorem DiskAt.kept {w w' : World} {L : Loc} {s : St} (h : DiskAt w L s) (hb : ∀ k, L.has k → w'.heap[k]? = w.heap[k]?) : DiskAt w' L s :=
  ⟨(hb _ (.inl rfl)).trans h.row, h.held.kept (hb _ (.inr (.inl rfl))), h.late.kept (hb _ (.inr (.inr (.inl rfl)))), ownsRow_kept0 h.hist fun k hk => hb k (.inr (.inr (.inr hk))), h.ne, h.ok⟩
theorem DiskAt.fr {w w' : World} {L : Loc} {s : St} {T : Nat → Prop} (h : DiskAt w L s) (hf : Fr T w w') (hT : ∀ k, L.has k → ¬ T k) : DiskAt w' L s :=
  h.kept fun k hk => hf.block k (h.lt k hk) (hT k hk)
theorem DiskAt.later {w w' : World} {L : Loc} {s : St} (h : DiskAt w L s) (hb : Below w.heap.size w w') : DiskAt w' L s := h.kept fun k hk => hb.block k (h.lt k hk)

/-- From one state to the next: the row stays where it is, nothing turns but the disk's own blocks. -/
structure Goes (w w' : World) (L L' : Loc) : Prop where
  d : L'.d = L.d
  own : ∀ k, L'.has k → L.has k ∨ w.heap.size ≤ k
  fr : Fr L.has w w'
theorem Goes.trans {a b c : World} {L L' L'' : Loc} (h : Goes a b L L') (k : Goes b c L' L'') : Goes a c L L'' := by
  refine ⟨k.d.trans h.d, fun i hi => ?_, h.fr.trans k.fr fun i hi hk => ?_⟩
  · rcases k.own i hi with h1 | h1
    · exact h.own i h1
    · have := h.fr.size; exact .inr (by omega)
  · rcases h.own i hk with h1 | h1
    · exact h1
    · omega
theorem Goes.refl (w : World) (L : Loc) : Goes w w L L := ⟨rfl, fun _ h => .inl h, Fr.refl _ _⟩
theorem Goes.ofBelow {w w' : World} (L : Loc) (h : Below w.heap.size w w') : Goes w w' L L := ⟨rfl, fun _ h => .inl h, Fr.ofBelow h⟩
/-- The cells of the row. -/
theorem DiskAt.cell {w : World} {L : Loc} {s : St} (h : DiskAt w L s) (i : Nat) : w.cell? ⟨L.d, i, none⟩ = (dkRow L s)[i]? := Joins.cell_of_block h.row i
theorem DiskAt.free {w : World} {L : Loc} {s : St} (h : DiskAt w L s) (i : Nat) : w.frozen? ⟨L.d, i, none⟩ = false := Joins.unfrozen_of_block h.row i
end Go.Proofs.YtlcdpmjdnihocaaGreatD
/- What a disk tells of itself, its fuse and its claims; of a disk that was made, and of one that is none; no condition but that numbers do not pass the greatest int. -/
namespace Go.Proofs.YtlcdpmjdnihocaaGreatD
open Go.RowKit

theorem neq_same {P : Program} {tp te : TypeId} {j : TypeInfo} (w : World) (a : Addr) (hp : P.underlying tp = some (.pointer te)) (hte : P.info? te = some j) :
    (binOp .neq tp (.pointer (some a)) (.pointer (some a))).run P w = .ok (.bool false) w := by
  have h : ∀ d : Nat, (Op.equalIn (d + 1) tp (.pointer (some a)) (.pointer (some a))).run P w = .ok true w := fun d => by
    simp [Op.equalIn, run_underlying hp, sizeOf, typeInfo, hte, run_sameAddr_same]
  simp only [binOp]
  simp [Op.equal, Op.maxDepth, h 9999]
theorem neq_nil {P : Program} {tp te : TypeId} (w : World) (a : Addr) (hp : P.underlying tp = some (.pointer te)) :
    (binOp .neq tp (.pointer none) (.pointer (some a))).run P w = .ok (.bool true) w := by
  have h : ∀ d : Nat, (Op.equalIn (d + 1) tp (.pointer none) (.pointer (some a))).run P w = .ok false w := fun d => by
    simp [Op.equalIn, run_underlying hp]
  simp only [binOp]
  simp [Op.equal, Op.maxDepth, h 9999]
theorem info74 : ∃ j, Tryz.prog.info? 49 = some j := Option.isSome_iff_exists.1 (by kernel_rfl)
theorem neq24 (w : World) (a : Addr) : (binOp .neq 32 (.pointer (some a)) (.pointer (some a))).run Tryz.prog w = .ok (.bool false) w := by
  obtain ⟨j, hj⟩ := info74
  exact neq_same w a Tryz.underlying32 hj
theorem neq24n (w : World) (a : Addr) : (binOp .neq 32 (.pointer none) (.pointer (some a))).run Tryz.prog w = .ok (.bool true) w := by
  exact neq_nil w a Tryz.underlying32

/-- v is a disk that is nil, or that nobody made. -/
def NoneAt (w : World) (v : Value) : Prop := v = .pointer none ∨ ∃ g, v = .pointer (some ⟨g, 0, none⟩) ∧ w.cell? ⟨g, 0, none⟩ = some (.pointer none)
theorem none_yes {w : World} {v : Value} (h : NoneAt w v) : Calls Tryz.prog 37 #[v] w fun e w' => e = .returned (.bool true) ∧ w' = w := by
  have hn := neq24n
  rcases h with rfl | ⟨g, rfl, c0⟩
  · go_enter Tryz.func37, Tryz.ntmps37
    go_wp2
    go_ret
    exact ⟨rfl, rfl⟩
  · go_enter Tryz.func37, Tryz.ntmps37
    go_wp2
    go_ret
    exact ⟨rfl, rfl⟩
theorem none_no {w : World} {d : Nat} (c0 : w.cell? ⟨d, 0, none⟩ = some (.pointer (some ⟨d, 0, none⟩))) :
    Calls Tryz.prog 37 #[.pointer (some ⟨d, 0, none⟩)] w fun e w' => e = .returned (.bool false) ∧ w' = w := by
  have hn := neq24
  go_enter Tryz.func37, Tryz.ntmps37
  go_wp2
  go_ret
  exact ⟨rfl, rfl⟩

variable {w : World} {L : Loc} {s : St}
theorem DiskAt.c0 (h : DiskAt w L s) : w.cell? ⟨L.d, 0, none⟩ = some (.pointer (some ⟨L.d, 0, none⟩)) := h.cell 0
theorem DiskAt.c1 (h : DiskAt w L s) : w.cell? ⟨L.d, 1, none⟩ = some (.int .i64 s.n) := h.cell 1
theorem DiskAt.c2 (h : DiskAt w L s) : w.cell? ⟨L.d, 2, none⟩ = some (.map (some L.hb)) := h.cell 2
theorem DiskAt.c3 (h : DiskAt w L s) : w.cell? ⟨L.d, 3, none⟩ = some L.hv := h.cell 3
theorem DiskAt.c4 (h : DiskAt w L s) : w.cell? ⟨L.d, 4, none⟩ = some (.int .i64 (s.done.length : Int)) := h.cell 4
theorem DiskAt.c5 (h : DiskAt w L s) : w.cell? ⟨L.d, 5, none⟩ = some (.map (some L.lb)) := h.cell 5
theorem DiskAt.c6 (h : DiskAt w L s) : w.cell? ⟨L.d, 6, none⟩ = some (.int .i64 s.fuse) := h.cell 6
theorem DiskAt.c7 (h : DiskAt w L s) : w.cell? ⟨L.d, 7, none⟩ = some (.bool s.stopped) := h.cell 7
theorem DiskAt.c8 (h : DiskAt w L s) : w.cell? ⟨L.d, 8, none⟩ = some (.int .i64 s.made) := h.cell 8
theorem DiskAt.c9 (h : DiskAt w L s) : w.cell? ⟨L.d, 9, none⟩ = some (.int .i64 s.reads) := h.cell 9
theorem DiskAt.c10 (h : DiskAt w L s) : w.cell? ⟨L.d, 10, none⟩ = some (.int .i64 s.claims) := h.cell 10
theorem DiskAt.c11 (h : DiskAt w L s) : w.cell? ⟨L.d, 11, none⟩ = some (.bool s.claimed) := h.cell 11

theorem len_of (h : DiskAt w L s) : Calls Tryz.prog 57 #[.pointer (some ⟨L.d, 0, none⟩)] w fun e w' => e = .returned (.int .i64 s.n) ∧ w' = w := by
  have c1 := h.c1
  have h0 := h.c0
  clear h
  go_enter Tryz.func57, Tryz.ntmps57
  go_wp2_with (first | (go_at_call 37; refine (none_no h0).mono ?_; rintro e W ⟨rfl, rfl⟩))
  go_ret
  exact ⟨rfl, rfl⟩
theorem len_none {v : Value} (h : NoneAt w v) : Calls Tryz.prog 57 #[v] w fun e w' => e = .returned (.int .i64 0) ∧ w' = w := by
  go_enter Tryz.func57, Tryz.ntmps57
  go_wp2_with (first | (go_at_call 37; refine (none_yes h).mono ?_; rintro e W ⟨rfl, rfl⟩))
  go_ret
  exact ⟨rfl, rfl⟩
theorem made_of (h : DiskAt w L s) : Calls Tryz.prog 25 #[.pointer (some ⟨L.d, 0, none⟩)] w fun e w' => e = .returned (.int .i64 s.made) ∧ w' = w := by
  have c8 := h.c8
  have h0 := h.c0
  clear h
  go_enter Tryz.func25, Tryz.ntmps25
  go_wp2_with (first | (go_at_call 37; refine (none_no h0).mono ?_; rintro e W ⟨rfl, rfl⟩))
  go_ret
  exact ⟨rfl, rfl⟩
theorem made_none {v : Value} (h : NoneAt w v) : Calls Tryz.prog 25 #[v] w fun e w' => e = .returned (.int .i64 0) ∧ w' = w := by
  go_enter Tryz.func25, Tryz.ntmps25
  go_wp2_with (first | (go_at_call 37; refine (none_yes h).mono ?_; rintro e W ⟨rfl, rfl⟩))
  go_ret
  exact ⟨rfl, rfl⟩
theorem stopped_of (h : DiskAt w L s) : Calls Tryz.prog 23 #[.pointer (some ⟨L.d, 0, none⟩)] w fun e w' => e = .returned (.bool s.stopped) ∧ w' = w := by
  have c7 := h.c7
  have h0 := h.c0
  clear h
  go_enter Tryz.func23, Tryz.ntmps23
  go_wp2_with (first | (go_at_call 37; refine (none_no h0).mono ?_; rintro e W ⟨rfl, rfl⟩))
  go_ret
  exact ⟨rfl, rfl⟩
theorem stopped_none {v : Value} (h : NoneAt w v) : Calls Tryz.prog 23 #[v] w fun e w' => e = .returned (.bool false) ∧ w' = w := by
  go_enter Tryz.func23, Tryz.ntmps23
  go_wp2_with (first | (go_at_call 37; refine (none_yes h).mono ?_; rintro e W ⟨rfl, rfl⟩))
  go_ret
  exact ⟨rfl, rfl⟩
/-- Why a block may be neither read nor written; 0: it may. -/
def refV (s : St) (k : Int) : Int := if s.stopped then 3 else if 0 ≤ k ∧ k < s.n then 0 else 2
theorem refuses_of (h : DiskAt w L s) (k : Int) : Calls Tryz.prog 92 #[.pointer (some ⟨L.d, 0, none⟩), .int .i64 k] w fun e w' => e = .returned (.int .i64 (refV s k)) ∧ w' = w := by
  have c7 := h.c7
  have c1 := h.c1
  have h0 := h.c0
  clear h
  unfold refV
  cases hs : s.stopped
  · rw [hs] at c7
    by_cases h1 : k < 0
    · have e : ¬ (0 ≤ k ∧ k < s.n) := by omega
      simp only [e, if_false, Bool.false_eq_true]
      go_enter Tryz.func92, Tryz.ntmps92
      go_wp2_with (first | (go_at_call 37; refine (none_no h0).mono ?_; rintro e W ⟨rfl, rfl⟩))
      go_ret
      exact ⟨rfl, rfl⟩
    · by_cases h2 : k < s.n
      · have e : (0 ≤ k ∧ k < s.n) := by omega
        have h3 : ¬ k ≥ s.n := by omega
        simp only [e, if_true, if_false, Bool.false_eq_true, and_self]
        go_enter Tryz.func92, Tryz.ntmps92
        go_wp2_with (first | (go_at_call 37; refine (none_no h0).mono ?_; rintro e W ⟨rfl, rfl⟩))
        go_ret
        exact ⟨rfl, rfl⟩
      · have e : ¬ (0 ≤ k ∧ k < s.n) := by omega
        have h3 : k ≥ s.n := by omega
        simp only [e, if_false, Bool.false_eq_true]
        go_enter Tryz.func92, Tryz.ntmps92
        go_wp2_with (first | (go_at_call 37; refine (none_no h0).mono ?_; rintro e W ⟨rfl, rfl⟩))
        go_ret
        exact ⟨rfl, rfl⟩
  · rw [hs] at c7
    simp only [if_true]
    go_enter Tryz.func92, Tryz.ntmps92
    go_wp2_with (first | (go_at_call 37; refine (none_no h0).mono ?_; rintro e W ⟨rfl, rfl⟩))
    go_ret
    exact ⟨rfl, rfl⟩
theorem refuses_none {v : Value} (h : NoneAt w v) (k : Int) : Calls Tryz.prog 92 #[v, .int .i64 k] w fun e w' => e = .returned (.int .i64 1) ∧ w' = w := by
  go_enter Tryz.func92, Tryz.ntmps92
  go_wp2_with (first | (go_at_call 37; refine (none_yes h).mono ?_; rintro e W ⟨rfl, rfl⟩))
  go_ret
  exact ⟨rfl, rfl⟩
def claimedV (s : St) (k : Int) : Bool := !s.stopped && s.claimed && k == s.claims
end Go.Proofs.YtlcdpmjdnihocaaGreatD
