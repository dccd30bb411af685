/- The law RoomNames walked: the numbers, and chapter 9's examples. -/
import Derived.Test.YtkcgbhagjkhcmaaGreatK29
namespace Go.Proofs.YtkcgbhagjkhcmaaGreat
open Go.RowKit Go.Maps
set_option maxRecDepth 40000 in
set_option maxHeartbeats 16000000 in
theorem rnames_walk (w : World) : Calls Tryz.prog 3 #[] w fun e w' => e = .returned (.bool true) ∧ Below w.heap.size w w' := by
  have hex := example_ok w
  go_enter Tryz.func3, Tryz.ntmps3
  go_wp2_with (go_at_call 6; fail)
  refine hex.mono ?_
  rintro e V1 ⟨pi, pe, ce, ci, rfl, hE, _, _, hb1⟩
  have hbg := begin_ok ci hE
  have HB1 : Hid _ := hb1
  clear hex hE hb1
  generalize wdRow 400 32 60 (.slice pi 1 ci) 361 59 0 = WR at *
  go_wp2_with (go_at_call 5; fail)
  refine hbg.mono ?_
  rintro e V2 ⟨W0, gp, gl, gd, gr, gm, rfl, hb2, hlog⟩
  have h0 := rb_begin hlog
  have HB : Hid (Below w.heap.size w W0) := below_next HB1.out hb2
  have H0 : Hid _ := h0
  clear hbg hb2 hlog HB1 h0
  generalize Go.Proofs.YtkcgbhagjkhcmaaGreatW.claimN stE = c at *
  have haw := awake_ok V2
  go_wp2_with (go_at_call 7; fail)
  refine haw.mono ?_
  rintro e V3 ⟨rfl, hb3⟩
  have h1 := H0.out.later hb3
  clear haw hb3 H0
  have cl := pr_log (h1.obj (List.mem_cons_self ..))
  have hc := RB.used (n := 999) h1 38 (by omega)
  rw [show ((38 : Nat) : Int) = 38 by decide, show decide (38 < 39) = true from rfl] at hc
  clear h1
  go_wp2_with (go_at_call 8; fail)
  refine hc.mono ?_
  rintro e V4 ⟨rfl, h2⟩
  clear hc cl
  have cl := pr_log (h2.obj (List.mem_cons_self ..))
  have hc := RB.used (n := 998) h2 39 (by omega)
  rw [show ((39 : Nat) : Int) = 39 by decide, show decide (39 < 39) = false from rfl] at hc
  clear h2
  go_wp2_with (go_at_call 8; fail)
  refine hc.mono ?_
  rintro e V5 ⟨rfl, h3⟩
  clear hc cl
  have cl := pr_log (h3.obj (List.mem_cons_self ..))
  have hc := RB.usedBad h3 37 (by omega)
  clear h3
  go_wp2_with (go_at_call 8; fail)
  refine hc.mono ?_
  rintro e V6 ⟨rfl, h4⟩
  clear hc cl
  have cl := pr_log (h4.obj (List.mem_cons_self ..))
  have hc := RB.usedBad h4 400 (by omega)
  clear h4
  go_wp2_with (go_at_call 8; fail)
  refine hc.mono ?_
  rintro e V7 ⟨rfl, h5⟩
  clear hc cl
  have cl := pr_log (h5.obj (List.mem_cons_self ..))
  have hc := RB.takeStep h5 rfl
  clear h5
  go_wp2_with (go_at_call 9; fail)
  refine hc.mono ?_
  rintro e V8 ⟨rfl, h6⟩
  clear hc cl
  have cl := pr_log (h6.obj (List.mem_cons_self ..))
  have hc : Calls Tryz.prog 10 #[.pointer (some ⟨gl, 0, none⟩), .int .i64 9] V8 fun e W' => e = .returned (.int .i64 0) ∧ RB W0 W' gl gd (xB c 9) _ _ _ := RB.begin (r := 9) h6 rfl (by omega) (show ((0 : Nat) : Int) + 9 ≤ 31 by omega)
  clear h6
  go_wp2_with (go_at_call 10; fail)
  refine hc.mono ?_
  rintro e V9 ⟨rfl, h7⟩
  clear hc cl
  have cl := pr_log (h7.obj (List.mem_cons_self ..))
  have hc := RB.take (n := 996) h7 rfl 39 (by omega) (by decide) (fun j q1 q2 => decide_eq_true (by omega)) (wrBC c 9 (by decide)) (wrCD c 9 (by decide))
  rw [show ((39 : Nat) : Int) = 39 by decide] at hc
  clear h7
  go_wp2_with (go_at_call 9; fail)
  refine hc.mono ?_
  rintro e V10 ⟨rfl, h8⟩
  clear hc cl
  replace h8 : RB _ _ _ _ _ (fun j => decide (j < 40)) _ _ := h8.congr fun j => by show (if j = 39 then true else decide (j < 39)) = _; split <;> simp <;> omega
  have cl := pr_log (h8.obj (List.mem_cons_self ..))
  have hc := RB.take (n := 994) h8 rfl 40 (by omega) (by decide) (fun j q1 q2 => decide_eq_true (by omega)) (wrDD c 9) (wrDE c 9 (by decide))
  rw [show ((40 : Nat) : Int) = 40 by decide] at hc
  clear h8
  go_wp2_with (go_at_call 9; fail)
  refine hc.mono ?_
  rintro e V11 ⟨rfl, h9⟩
  clear hc cl
  replace h9 : RB _ _ _ _ _ (fun j => decide (j < 41)) _ _ := h9.congr fun j => by show (if j = 40 then true else decide (j < 40)) = _; split <;> simp <;> omega
  have cl := pr_log (h9.obj (List.mem_cons_self ..))
  have hc := RB.give (n := 993) h9 rfl 39 (by omega) (by decide) (wrEE c 9)
  rw [show ((39 : Nat) : Int) = 39 by decide] at hc
  clear h9
  go_wp2_with (go_at_call 11; fail)
  refine hc.mono ?_
  rintro e V12 ⟨rfl, h10⟩
  clear hc cl
  have cl := pr_log (h10.obj (List.mem_cons_self ..))
  have hc := RB.take (n := 991) h10 rfl 39 (by omega) (by decide) (fun j q1 q2 => by show (if j = 39 then false else decide (j < 41)) = true; rw [if_neg (by omega)]; exact decide_eq_true (by omega)) (wrEE c 9) (wrEE2 c 9)
  rw [show ((39 : Nat) : Int) = 39 by decide] at hc
  clear h10
  go_wp2_with (go_at_call 9; fail)
  refine hc.mono ?_
  rintro e V13 ⟨rfl, h11⟩
  clear hc cl
  replace h11 : RB _ _ _ _ _ (fun j => decide (j < 41)) _ _ := h11.congr fun j => by show (if j = 39 then true else if j = 39 then false else decide (j < 41)) = _; split <;> simp <;> omega
  have cl := pr_log (h11.obj (List.mem_cons_self ..))
  have hc := RB.take (n := 989) h11 rfl 41 (by omega) (by decide) (fun j q1 q2 => decide_eq_true (by omega)) (wrEE c 9) (wrEF c 9 (by decide))
  rw [show ((41 : Nat) : Int) = 41 by decide] at hc
  clear h11
  go_wp2_with (go_at_call 9; fail)
  refine hc.mono ?_
  rintro e V14 ⟨rfl, h12⟩
  clear hc cl
  replace h12 : RB _ _ _ _ _ (fun j => decide (j < 42)) _ _ := h12.congr fun j => by show (if j = 41 then true else decide (j < 41)) = _; split <;> simp <;> omega
  have cl := pr_log (h12.obj (List.mem_cons_self ..))
  have hc := RB.free (n := 988) h12 42 (by omega) (fun j => rfl)
  rw [show (400 : Int) - ((42 : Nat) : Int) = 358 by decide] at hc
  clear h12
  go_wp2_with (go_at_call 12; fail)
  refine hc.mono ?_
  rintro e V15 ⟨rfl, h13⟩
  clear hc cl
  have H13 : Hid _ := h13
  have hc := take_none (W := V15) (.inl rfl)
  clear h13
  go_wp2_with (go_at_call 9; fail)
  refine hc.mono ?_
  rintro e V16 ⟨rfl, rfl⟩
  clear hc
  have h13 := H13.out
  clear H13
  have cl := pr_log (h13.obj (List.mem_cons_self ..))
  have hc := RB.giveFree (n := 987) h13 rfl 45 (by omega) (by decide)
  rw [show ((45 : Nat) : Int) = 45 by decide] at hc
  clear h13
  go_wp2_with (go_at_call 11; fail)
  refine hc.mono ?_
  rintro e V17 ⟨rfl, h14⟩
  clear hc cl
  have cl := pr_log (h14.obj (List.mem_cons_self ..))
  have hc := RB.giveBad h14 rfl 37 (by omega)
  clear h14
  go_wp2_with (go_at_call 11; fail)
  refine hc.mono ?_
  rintro e V18 ⟨rfl, h15⟩
  clear hc cl
  have cl := pr_log (h15.obj (List.mem_cons_self ..))
  have hc := RB.ends h15 rfl (show (0 : Int) < 1099511627776 by omega)
  clear h15
  go_wp2_with (go_at_call 13; fail)
  refine hc.mono ?_
  rintro e V19 ⟨rfl, h16⟩
  clear hc cl
  have HBl : Hid _ := below_next HB.out h16.below
  clear h16
  go_wp2
  go_ret
  exact ⟨rfl, HBl.out⟩
end Go.Proofs.YtkcgbhagjkhcmaaGreat
