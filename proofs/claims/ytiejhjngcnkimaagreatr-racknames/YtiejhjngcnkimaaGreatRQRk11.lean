/- The law RackNames walked: the numbers, and chapter 11's examples. -/
import Derived.Test.YtiejhjngcnkimaaGreatRK28
namespace Go.Proofs.YtiejhjngcnkimaaGreatR
open Go.RowKit Go.Maps
theorem prK_log {W : World} {gp gd gl gr gm : Nat} (h : W.heap[gp]? = some (.cells (prRow gd gl gr gm) 39)) : W.cell? ⟨gp, 1, none⟩ = some (.pointer (some ⟨gl, 0, none⟩)) := Joins.cell_of_block h 1
def xK (c : Int) : Go.Proofs.YtiejhjngcnkimaaGreatRW.LSt := { xA c with opn := true, room := 1 }
def xL (c : Int) : Go.Proofs.YtiejhjngcnkimaaGreatRW.LSt := { Go.Proofs.YtiejhjngcnkimaaGreatRW.changeL (xK c) 33 0 with room := 0 }
theorem wrKL (c : Int) : WrX (xK c) 33 (xL c) := .first rfl (by show (1 : Int) ≠ 0; omega)
theorem wrLL (c : Int) : WrX (xL c) 33 (xL c) := .again rfl
theorem build1Nd (u : World) : (Instr.build 45 #[(0, .int .u16 1)]).run Tryz.prog u = .ok (.agg (Go.Proofs.YtiejhjngcnkimaaGreatRN.node16 1 0 0 0 nought)) u := by
  have z := zeroNo
  simp [Instr.build, z, run_underlying Tryz.underlying45, Instr.fill, Value.cells, go_sem]
  rfl
theorem build2Nd (u : World) : (Instr.build 45 #[(0, .int .u16 1), (1, .int .u16 1)]).run Tryz.prog u = .ok (.agg (Go.Proofs.YtiejhjngcnkimaaGreatRN.node16 1 1 0 0 nought)) u := by
  have z := zeroNo
  simp [Instr.build, z, run_underlying Tryz.underlying45, Instr.fill, Value.cells, go_sem]
  rfl
theorem exec_build1Nd {o : Oper} {a : Act} {W : World} (ho : o.op = .build 45 #[(0, .const (.int .u16 1))]) : (execOp a.eval o).run Tryz.prog W = .ok (.value (.agg (Go.Proofs.YtiejhjngcnkimaaGreatRN.node16 1 0 0 0 nought))) W := by
  have e := build1Nd W
  simp [execOp, ho, Act.eval, e]
theorem exec_build2Nd {o : Oper} {a : Act} {W : World} (ho : o.op = .build 45 #[(0, .const (.int .u16 1)), (1, .const (.int .u16 1))]) : (execOp a.eval o).run Tryz.prog W = .ok (.value (.agg (Go.Proofs.YtiejhjngcnkimaaGreatRN.node16 1 1 0 0 nought))) W := by
  have e := build2Nd W
  simp [execOp, ho, Act.eval, e]
set_option maxRecDepth 20000 in
set_option maxHeartbeats 1600000 in
theorem lives_ok {w W : World} {gp gl gd gr gm n : Nat} {x : Go.Proofs.YtiejhjngcnkimaaGreatRW.LSt} (h : RK w W gl gd x N0 (n + 1) [(gp, .cells (prRow gd gl gr gm) 39)]) :
    Calls Tryz.prog 10 #[.pointer (some ⟨gp, 0, none⟩)] W fun e W' => e = .returned (.bool true) ∧ RK w W' gl gd x N0 n [(gp, .cells (prRow gd gl gr gm) 39)] := by
  have zn := zeroNo
  have cl := prK_log (h.obj (List.mem_cons_self ..))
  have hc := h.read 1 (by omega)
  rw [show ((1 : Nat) : Int) = 1 by decide, root_N0] at hc
  clear h
  go_enter Tryz.func10, Tryz.ntmps10
  go_wp2_with (go_at_call 11; fail)
  refine hc.mono ?_
  rintro e V1 ⟨rfl, h1⟩
  have h2 := h1.add (.cells (Go.Proofs.YtiejhjngcnkimaaGreatRN.node16 2 2 32 1 dE) 45)
  have hr := h2.obj (List.mem_cons_self ..)
  have c0 : (V1.alloc (.cells (Go.Proofs.YtiejhjngcnkimaaGreatRN.node16 2 2 32 1 dE) 45)).cell? ⟨V1.heap.size, 0, none⟩ = some (.int .u16 2) := Joins.cell_of_block hr 0
  have HL : Hid _ := h2.drop (ks' := [(gp, .cells (prRow gd gl gr gm) 39)]) fun p hp => List.mem_cons_of_mem _ hp
  have HI : Hid _ := nd_info 2 2 32 1 dE
  have HO : Hid _ := nd_one 2 2 32 1 dE
  have HTw : Hid (nod0.size = (Go.Proofs.YtiejhjngcnkimaaGreatRN.node16 2 2 32 1 dE).size) := rfl
  clear hc h1 h2 hr cl
  generalize Go.Proofs.YtiejhjngcnkimaaGreatRN.node16 2 2 32 1 dE = R at *
  go_upto_region 2 with (first | (with_reducible refine isStoreR 45 ?_; refine wpList_stNew 45 rfl (.tmp 3) (.tmp 11) rfl V1.heap.size R nod0 45 HI.out HTw.out HO.out rfl rfl rfl ?_))
  generalize V1.alloc (.cells R 45) = V2 at *
  generalize V1.heap.size = gq at *
  go_wp2
  go_ret
  exact ⟨rfl, HL.out⟩
set_option maxRecDepth 40000 in
set_option maxHeartbeats 16000000 in
theorem rkn_walk (w : World) : Calls Tryz.prog 3 #[] w fun e w' => e = .returned (.bool true) ∧ Below w.heap.size w w' := by
  have zn := zeroNo
  have hex := example_ok w
  go_enter Tryz.func3, Tryz.ntmps3
  go_wp2_with (go_at_call 9; fail)
  refine hex.mono ?_
  rintro e V1 ⟨pi, pe, ce, ci, rfl, hE, _, _, hb1⟩
  have hbg := begin_ok ci hE
  have HB1 : Hid _ := hb1
  clear hex hE hb1
  generalize wdRow 400 32 60 (.slice pi 1 ci) 361 59 0 = WR at *
  go_wp2_with (go_at_call 8; fail)
  refine hbg.mono ?_
  rintro e V2 ⟨W0, gp, gl, gd, gr, gm, rfl, hb2, hlog⟩
  have h0 := rk_begin hlog
  have HB : Hid (Below w.heap.size w W0) := below_next HB1.out hb2
  clear hbg hb2 hlog HB1
  generalize Go.Proofs.YtiejhjngcnkimaaGreatRW.claimN stE = c at *
  have hc := lives_ok (n := 999) h0
  clear h0
  go_wp2_with (go_at_call 10; fail)
  refine hc.mono ?_
  rintro e V3 ⟨rfl, h1⟩
  clear hc
  have cl := prK_log (h1.obj (List.mem_cons_self ..))
  obtain ⟨ksP, hks⟩ : ∃ ksP, [(gp, Obj.cells (prRow gd gl gr gm) 39)] = ksP := ⟨_, rfl⟩
  rw [hks] at h1
  have hc := h1.read (n := 998) 1 (by omega)
  rw [show ((1 : Nat) : Int) = 1 by decide, root_N0] at hc
  clear h1 hks
  go_wp2_with (go_at_call 11; fail)
  refine hc.mono ?_
  rintro e V4 ⟨rfl, h2⟩
  have h2 := h2.add (.cells (Go.Proofs.YtiejhjngcnkimaaGreatRN.node16 2 2 32 1 dE) 45)
  have HI : Hid _ := nd_info 2 2 32 1 dE
  have HO : Hid _ := nd_one 2 2 32 1 dE
  have HTw : Hid (nod0.size = (Go.Proofs.YtiejhjngcnkimaaGreatRN.node16 2 2 32 1 dE).size) := rfl
  have HR2 : Hid (∀ V : World, ∀ q : Nat, V.heap[q]? = some (.cells (Go.Proofs.YtiejhjngcnkimaaGreatRN.node16 2 2 32 1 dE) 45) → V.cell? ⟨q, 4, none⟩ = some (.int .u32 38) ∧ V.cell? ⟨q, 2, none⟩ = some (.int .u32 32)) := fun V q hV => ⟨Joins.cell_of_block hV 4, Joins.cell_of_block hV 2⟩
  obtain ⟨R, hR⟩ : ∃ R, Go.Proofs.YtiejhjngcnkimaaGreatRN.node16 2 2 32 1 dE = R := ⟨_, rfl⟩
  have HRR : Hid (Go.Proofs.YtiejhjngcnkimaaGreatRN.node16 2 2 32 1 dE = R) := hR
  rw [hR] at h2 HI HO HTw HR2 ⊢
  clear hc cl hR
  go_upto_region 6 with (first | (with_reducible refine isStoreR 45 ?_; refine wpList_stNew 45 rfl (.tmp 5) (.tmp 44) rfl V4.heap.size R nod0 45 HI.out HTw.out HO.out rfl rfl rfl ?_))
  generalize V4.alloc (.cells R 45) = V5 at *
  generalize V4.heap.size = g5 at *
  have hc := h2.read (n := 997) 2 (by omega)
  rw [show ((2 : Nat) : Int) = 2 by decide, two_N0] at hc
  clear h2
  go_wp2_with (go_at_call 11; fail)
  refine hc.mono ?_
  rintro e V6 ⟨rfl, h3⟩
  have h3 := h3.add (.cells nod0 45)
  clear hc
  go_upto_region 7 with (first | (with_reducible refine isStoreR 45 ?_; refine wpList_stNew 45 rfl (.tmp 7) (.tmp 49) rfl V6.heap.size nod0 nod0 45 nod0_info rfl nod0_one rfl rfl rfl ?_))
  generalize V6.alloc (.cells nod0 45) = V7 at *
  generalize V6.heap.size = g7 at *
  have hc := h3.readBad 0 (by omega)
  clear h3
  go_wp2_with (go_at_call 11; fail)
  refine hc.mono ?_
  rintro e V8 ⟨rfl, h4⟩
  have h4 := h4.later (below_new V8 (.cells nod0 45))
  clear hc
  go_upto_region 8 with (first | (with_reducible refine isStoreR 45 ?_; refine wpList_stNew 45 rfl (.tmp 9) (.tmp 54) rfl V8.heap.size nod0 nod0 45 nod0_info rfl nod0_one rfl rfl rfl ?_))
  generalize V8.alloc (.cells nod0 45) = V9 at *
  generalize V8.heap.size = g9 at *
  have hc := h4.readBad 61 (by omega)
  clear h4
  go_wp2_with (go_at_call 11; fail)
  refine hc.mono ?_
  rintro e V10 ⟨rfl, h5⟩
  have h5 := h5.later (below_new V10 (.cells nod0 45))
  clear hc
  go_upto_region 9 with (first | (with_reducible refine isStoreR 45 ?_; refine wpList_stNew 45 rfl (.tmp 11) (.tmp 59) rfl V10.heap.size nod0 nod0 45 nod0_info rfl nod0_one rfl rfl rfl ?_))
  generalize V10.alloc (.cells nod0 45) = V11 at *
  generalize V10.heap.size = g11 at *
  have hc := h5.spare (n := 993) 1 (by omega) (fun k hk => by rw [kd_N0 k]; unfold kdE; split <;> omega)
  rw [show ((60 - 1 : Nat) : Int) = 59 by decide] at hc
  clear h5
  go_wp2_with (go_at_call 12; fail)
  refine hc.mono ?_
  rintro e V12 ⟨rfl, h6⟩
  clear hc
  have hn7 := h6.obj (List.mem_cons_self ..)
  have hn5 := h6.obj (List.mem_cons_of_mem _ (List.mem_cons_self ..))
  obtain ⟨c4, c2⟩ := HR2.out V12 g5 hn5
  have hc := h6.writeStep rfl 0 nod0
  clear h6 hn5
  go_wp2_with (first | (with_reducible refine isLoadR 45 ?_; refine wpList_ldR 45 Tryz.underlying45 rfl rfl (.tmp 7) rfl g7 rfl nod0 45 (0, 0) nod0_info hn7 ?_) | (with_reducible refine isBuildR 45 ?_; refine wpList_ex rfl (exec_build0Nd rfl) ?_) | (with_reducible refine isEqR 45 45 ?_; refine wpList_ex rfl (exec_neNd (k := 0) (l := 0) (s := 0) (b := 0) (d := nought) rfl rfl rfl) ?_) | (go_at_call 13; fail))
  refine hc.mono ?_
  rintro e V13 ⟨rfl, h7⟩
  clear hc hn7 c4 c2
  have hc : Calls Tryz.prog 14 #[.pointer (some ⟨gl, 0, none⟩), .int .i64 1] V13 fun e W' => e = .returned (.int .i64 0) ∧ RK W0 W' gl gd (xK c) N0 993 _ := RK.begin (r := 1) h7 rfl (by omega) (show ((0 : Nat) : Int) + 1 ≤ 31 by omega)
  clear h7
  go_wp2_with (go_at_call 14; fail)
  refine hc.mono ?_
  rintro e V14 ⟨rfl, h8⟩
  clear hc
  have hc := h8.takeFree rfl
  clear h8
  go_wp2_with (first | (with_reducible refine isBuildR 45 ?_; refine wpList_ex rfl (exec_build0Nd rfl) ?_) | (go_at_call 15; fail))
  refine hc.mono ?_
  rintro e V15 ⟨rfl, h9⟩
  clear hc
  have hc := h9.take (n := 988) rfl 2 (by omega) (fun k hk => by rw [kd_N0 k]; unfold kdE; split <;> omega) (by omega) ok_one can_N0 (wrKL c)
  rw [show ((2 : Nat) : Int) = 2 by decide] at hc
  clear h9
  go_wp2_with (first | (with_reducible refine isBuildR 45 ?_; refine wpList_ex rfl (exec_build1Nd rfl) ?_) | (go_at_call 15; fail))
  refine hc.mono ?_
  rintro e V16 ⟨rfl, h10⟩
  clear hc
  have hc := RK.take (f0 := N1) (n := 983) h10 rfl 3 (by omega) (fun k hk => by rw [kd_N1 k]; exact (show ∀ k : Fin 16, 1 ≤ k.val → (kdE1 k.val = 0 ↔ 3 ≤ k.val) by decide) k hk) (by omega) ok_two can_N1 (wrLL c)
  rw [show ((3 : Nat) : Int) = 3 by decide] at hc
  clear h10
  go_wp2_with (first | (with_reducible refine isBuildR 45 ?_; refine wpList_ex rfl (exec_build2Nd rfl) ?_) | (go_at_call 15; fail))
  refine hc.mono ?_
  rintro e V17 ⟨rfl, h11⟩
  clear hc
  have hc := RK.orphans (f0 := N2) (n := 979) h11 2 (by omega) ⟨by rw [kd_N2 ⟨2, by omega⟩]; decide, by rw [lk_N2 ⟨2, by omega⟩]; decide⟩ (fun j h1 h2 => by rw [kd_N2 j, lk_N2 j]; exact (show ∀ j : Fin 16, 1 ≤ j.val → j.val ≠ 2 → kdE2 j.val = 0 ∨ lkE2 j.val ≠ 0 by decide) j h1 h2)
  rw [show ((2 : Nat) : Int) = 2 by decide] at hc
  clear h11
  go_wp2_with (go_at_call 16; fail)
  refine hc.mono ?_
  rintro e V18 ⟨go, cap, cur, rfl, hcur, h12⟩
  clear hc
  have HC : Hid _ := hcur
  clear hcur
  have hc := RK.spare (f0 := N2) (n := 975) h12 3 (by omega) (fun k hk => by rw [kd_N2 k]; exact (show ∀ k : Fin 16, 1 ≤ k.val → (kdE2 k.val = 0 ↔ 3 < k.val) by decide) k hk)
  rw [show ((60 - 3 : Nat) : Int) = 57 by decide] at hc
  clear h12
  go_wp2_with (go_at_call 12; fail)
  refine hc.mono ?_
  rintro e V19 ⟨rfl, h13⟩
  clear hc
  have h14 := h13.add (.cells #[.int .i64 2] 3)
  have e0 : (V19.alloc (.cells #[.int .i64 2] 3)).cell? ⟨go, 0, none⟩ = some (.int .i64 2) := (Joins.cell_of_block (h14.obj (List.mem_cons_of_mem _ (List.mem_cons_self ..))) 0).trans HC.out
  have e1 : (V19.alloc (.cells #[.int .i64 2] 3)).cell? ⟨V19.heap.size, 0, none⟩ = some (.int .i64 2) := Joins.cell_of_block (h14.obj (List.mem_cons_self ..)) 0
  have hc := sameInts_one go V19.heap.size 2 cap 1 _ e0 e1
  have H14 : Hid _ := h14
  clear h13 h14 e0 e1
  go_wp2_with (go_at_call 17; fail)
  refine hc.mono ?_
  rintro e V20 ⟨rfl, hb20⟩
  have h15 := H14.out.later hb20
  have hn5 := h15.obj (List.mem_cons_of_mem _ (List.mem_cons_of_mem _ (List.mem_cons_of_mem _ (List.mem_cons_self ..))))
  have hc := h15.writeTight (n := 974) rfl 20 1 256 (by omega) (by omega) (by omega) ok_root rfl rfl
  rw [show ((20 : Nat) : Int) = 20 by decide, HRR.out] at hc
  clear H14 hb20 h15
  go_wp2_with (first | (with_reducible refine isLoadR 45 ?_; refine wpList_ldR 45 Tryz.underlying45 rfl rfl (.tmp 5) rfl g5 rfl R 45 (0, 0) HI.out hn5 ?_) | (go_at_call 13; fail))
  refine hc.mono ?_
  rintro e V21 ⟨rfl, h16⟩
  have HBl : Hid _ := below_next HB.out h16.below
  clear hc h16 hn5
  go_wp2
  go_ret
  exact ⟨rfl, HBl.out⟩
end Go.Proofs.YtiejhjngcnkimaaGreatR
