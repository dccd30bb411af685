/- FdsScript's acts with the table of texts: all kinds but the walk; fewer than a million rows; no other condition. -/
import Derived.Test.YtbchbappdpbkiaaFdS6
import Derived.Test.YtbchbappdpbkiaaFdcT
namespace Go.Proofs.Ytbchbappdpbkiaa
open Go.RowKit Go.Maps
section
variable {w W : World} {l : List Part} {gA gP leA : Nat} {m : Int} {vA vF vV : Value} {R : List (Option Int)}
variable (kp : Value) (a0 x : Int) (fd : Int)
set_option maxRecDepth 20000 in
set_option maxHeartbeats 2000000 in
theorem actT_open (h : Sep w W (tpT gA vA leA m (mapR tx R) :: rfL gP m vF vV R l)) (hl : R.length ≤ 900000) (hx : -9223372036854775808 ≤ x ∧ x ≤ 9223372036854775807) : Calls Try.prog 12 #[kp, .pointer (some ⟨gA, 0, none⟩), .pointer (some ⟨gP, 0, none⟩), .agg #[.int .i64 a0, .int .i64 0, .int .i64 fd, .int .i64 x]] W fun e W' => e = .returned (.bool true) ∧ ∃ vA' leA' vF' vV', Sep w W' (tpT gA vA' leA' m (mapR tx (openT R m x)) :: rfL gP m vF' vV' (openT R m x) l) := by
  have hcm := h.head.cnm
  rw [cnt_map] at hcm
  have hcl := cnt_le R
  have HS := (show Hid _ from (h.box #[.int .i64 a0, .int .i64 0, .int .i64 fd, .int .i64 x] 38).swap)
  have hb : (W.alloc (.cells #[.int .i64 a0, .int .i64 0, .int .i64 fd, .int .i64 x] 38)).heap[W.heap.size]? = some (.cells #[.int .i64 a0, .int .i64 0, .int .i64 fd, .int .i64 x] 38) := heap_alloc_new _ _
  have b1 := Joins.cell_of_block hb 1
  have b3 := Joins.cell_of_block hb 3
  clear h
  go_enter Try.func12, Try.ntmps12
  have ht := fun u => text_ok x hx u
  go_wp2_with (first | (go_at_call 41; refine (ht _).mono ?_; rintro e U ⟨rfl, q⟩; obtain rfl := q.symm) | (go_at_call 40; fail))
  refine (sep_openT HS.out (by rw [mapR_len]; omega) (tx x)).mono ?_
  rw [openN_map, openE_map, openT_map]
  rintro e W1 ⟨rfl, v1, le1, s1⟩
  have HS1 := (show Hid _ from sep_pr (A := [_, _]) s1)
  have hb1 : W1.heap[W.heap.size]? = some (.cells #[.int .i64 a0, .int .i64 0, .int .i64 fd, .int .i64 x] 38) := s1.swap.head
  have b3' := Joins.cell_of_block hb1 3
  clear s1 HS b1 b3 hb
  go_wp2_with (first | (go_at_call 29; fail))
  refine (ropen HS1.out (by omega) hcm x).mono ?_
  rintro e W2 ⟨rfl, vF2, vV2, s2⟩
  have HS2 := (show Hid _ from (sep_rp (A := [_, _]) s2).swap.drop)
  have e1 : (openN R m == openN R m) = true := by simp
  have e2 : (openE R m == openE R m) = true := by simp
  clear s2 HS1 hb1 b3'
  go_wp2
  go_ret
  exact ⟨rfl, _, _, _, _, HS2.out⟩
set_option maxRecDepth 20000 in
set_option maxHeartbeats 2000000 in
theorem actT_get (h : Sep w W (tpT gA vA leA m (mapR tx R) :: rfL gP m vF vV R l)) (hl : R.length ≤ 900000) (hbd : ∀ y, getO R fd = some y → -9223372036854775808 ≤ y ∧ y ≤ 9223372036854775807) : Calls Try.prog 12 #[kp, .pointer (some ⟨gA, 0, none⟩), .pointer (some ⟨gP, 0, none⟩), .agg #[.int .i64 a0, .int .i64 1, .int .i64 fd, .int .i64 x]] W fun e W' => e = .returned (.bool true) ∧ Sep w W' (tpT gA vA leA m (mapR tx R) :: rfL gP m vF vV R l) := by
  have hcl := cnt_le R
  have s0 := h.box #[.int .i64 a0, .int .i64 1, .int .i64 fd, .int .i64 x] 38
  have HS := (show Hid _ from s0.drop)
  have hb : (W.alloc (.cells #[.int .i64 a0, .int .i64 1, .int .i64 fd, .int .i64 x] 38)).heap[W.heap.size]? = some (.cells #[.int .i64 a0, .int .i64 1, .int .i64 fd, .int .i64 x] 38) := heap_alloc_new _ _
  have b1 := Joins.cell_of_block hb 1
  have b2 := Joins.cell_of_block hb 2
  have g1 := get_okT HS.out.head fd
  have g2 := rget (sep_pr (A := [_]) HS.out) (by omega) fd
  rw [getO_map, refV_map] at g1
  clear h s0 hb
  rcases fd_cases R fd with ⟨k, y, q1, q2, h1, h2, q3, q4⟩ | ⟨h1, h2, q3, q4⟩
  · clear q1 q2 q3 q4
    have ht := fun u => text_ok y (hbd y h2) u
    rw [h1, h2] at g1 g2
    unfold thT at g1
    simp only [Option.map_some, Option.getD_some] at g1 g2
    generalize tx y = sy at *
    have e1 : (sy.toList == sy.toList) = true := by simp
    go_enter Try.func12, Try.ntmps12
    go_wp2_with (first | (go_at_call 42; refine g1.mono ?_; rintro e U ⟨rfl, q⟩; obtain rfl := q.symm) | (go_at_call 30; refine g2.mono ?_; rintro e U ⟨rfl, q⟩; obtain rfl := q.symm) | (go_at_call 41; refine (ht _).mono ?_; rintro e U ⟨rfl, q⟩; obtain rfl := q.symm))
    go_ret
    exact ⟨rfl, HS.out⟩
  · clear q3 q4
    rw [h1, h2] at g1 g2
    unfold thT at g1
    simp only [Option.map_none, Option.getD_none] at g1 g2
    go_enter Try.func12, Try.ntmps12
    go_wp2_with (first | (go_at_call 42; refine g1.mono ?_; rintro e U ⟨rfl, q⟩; obtain rfl := q.symm) | (go_at_call 30; refine g2.mono ?_; rintro e U ⟨rfl, q⟩; obtain rfl := q.symm))
    go_ret
    exact ⟨rfl, HS.out⟩
set_option maxRecDepth 20000 in
set_option maxHeartbeats 2000000 in
theorem actT_close (h : Sep w W (tpT gA vA leA m (mapR tx R) :: rfL gP m vF vV R l)) (hl : R.length ≤ 900000) (hbd : ∀ y, getO R fd = some y → -9223372036854775808 ≤ y ∧ y ≤ 9223372036854775807) : Calls Try.prog 12 #[kp, .pointer (some ⟨gA, 0, none⟩), .pointer (some ⟨gP, 0, none⟩), .agg #[.int .i64 a0, .int .i64 3, .int .i64 fd, .int .i64 x]] W fun e W' => e = .returned (.bool true) ∧ ∃ vA' leA' vF' vV', Sep w W' (tpT gA vA' leA' m (mapR tx (closeR R fd)) :: rfL gP m vF' vV' (closeR R fd) l) := by
  have hcl := cnt_le R
  have HS := (show Hid _ from (h.box #[.int .i64 a0, .int .i64 3, .int .i64 fd, .int .i64 x] 38).swap)
  have hb : (W.alloc (.cells #[.int .i64 a0, .int .i64 3, .int .i64 fd, .int .i64 x] 38)).heap[W.heap.size]? = some (.cells #[.int .i64 a0, .int .i64 3, .int .i64 fd, .int .i64 x] 38) := heap_alloc_new _ _
  have b1 := Joins.cell_of_block hb 1
  have b2 := Joins.cell_of_block hb 2
  clear h
  go_enter Try.func12, Try.ntmps12
  go_wp2_with (first | (go_at_call 44; fail))
  refine (sep_closeT HS.out (by rw [mapR_len]; omega) fd).mono ?_
  rw [getO_map, refV_map, closeR_map]
  rintro e W1 ⟨rfl, v1, le1, s1⟩
  have HS1 := (show Hid _ from sep_pr (A := [_, _]) s1)
  have hb1 : W1.heap[W.heap.size]? = some (.cells #[.int .i64 a0, .int .i64 3, .int .i64 fd, .int .i64 x] 38) := s1.swap.head
  have b2' := Joins.cell_of_block hb1 2
  clear s1 HS b1 b2 hb
  go_wp2_with (first | (go_at_call 34; fail))
  refine (rclose HS1.out (by omega) fd).mono ?_
  rintro e W2 ⟨rfl, vF2, vV2, s2⟩
  have HS2 := (show Hid _ from (sep_rp (A := [_, _]) s2).swap.drop)
  clear s2 HS1 hb1 b2'
  rcases fd_cases R fd with ⟨k, y, q1, q2, h1, h2, q3, q4⟩ | ⟨h1, h2, q3, q4⟩
  · clear q1 q2 q3 q4
    have ht := fun u => text_ok y (hbd y h2) u
    rw [h1, h2]
    unfold thT
    simp only [Option.map_some, Option.getD_some]
    generalize tx y = sy at *
    have e1 : (sy.toList == sy.toList) = true := by simp
    go_wp2_with (first | (go_at_call 41; refine (ht _).mono ?_; rintro e U ⟨rfl, q⟩; obtain rfl := q.symm))
    go_ret
    exact ⟨rfl, _, _, _, _, HS2.out⟩
  · clear q3 q4
    rw [h1, h2]
    unfold thT
    simp only [Option.map_none, Option.getD_none]
    go_wp2
    go_ret
    exact ⟨rfl, _, _, _, _, HS2.out⟩
set_option maxRecDepth 20000 in
set_option maxHeartbeats 2000000 in
theorem actT_len (h : Sep w W (tpT gA vA leA m (mapR tx R) :: rfL gP m vF vV R l)) : Calls Try.prog 12 #[kp, .pointer (some ⟨gA, 0, none⟩), .pointer (some ⟨gP, 0, none⟩), .agg #[.int .i64 a0, .int .i64 4, .int .i64 fd, .int .i64 x]] W fun e W' => e = .returned (.bool true) ∧ Sep w W' (tpT gA vA leA m (mapR tx R) :: rfL gP m vF vV R l) := by
  have hcm := h.head.cnm
  rw [cnt_map] at hcm
  have s0 := h.box #[.int .i64 a0, .int .i64 4, .int .i64 fd, .int .i64 x] 38
  have HS := (show Hid _ from s0.drop)
  have hb : (W.alloc (.cells #[.int .i64 a0, .int .i64 4, .int .i64 fd, .int .i64 x] 38)).heap[W.heap.size]? = some (.cells #[.int .i64 a0, .int .i64 4, .int .i64 fd, .int .i64 x] 38) := heap_alloc_new _ _
  have b1 := Joins.cell_of_block hb 1
  have g1 := len_okT HS.out.head
  rw [cnt_map] at g1
  have g2 := rlen (sep_pr (A := [_]) HS.out)
  have g3 := sep_fullT HS.out
  rw [cnt_map] at g3
  have e1 : (((cnt R : Nat) : Int) == ((cnt R : Nat) : Int)) = true := by simp
  clear h s0 hb
  go_enter Try.func12, Try.ntmps12
  go_wp2_with (first | (go_at_call 45; refine g1.mono ?_; rintro e U ⟨rfl, q⟩; obtain rfl := q.symm) | (go_at_call 35; refine g2.mono ?_; rintro e U ⟨rfl, q⟩; obtain rfl := q.symm) | (go_at_call 46; fail))
  refine g3.mono ?_
  rintro e W1 ⟨rfl, s1⟩
  have HS1 := (show Hid _ from sep_pr (A := [_]) s1)
  clear s1 HS g1 g2 g3
  go_wp2_with (first | (go_at_call 36; fail))
  refine (rfull HS1.out hcm).mono ?_
  rintro e W2 ⟨rfl, s2⟩
  have HS2 := (show Hid _ from sep_rp (A := [_]) s2)
  have e2 : (decide (((cnt R : Nat) : Int) = m) == decide (((cnt R : Nat) : Int) = m)) = true := by simp
  clear s2 HS1
  go_wp2
  go_ret
  exact ⟨rfl, HS2.out⟩
set_option maxRecDepth 20000 in
set_option maxHeartbeats 2000000 in
theorem actT_set (h : Sep w W (tpT gA vA leA m (mapR tx R) :: rfL gP m vF vV R l)) (hl : R.length ≤ 900000) (hx : -9223372036854775808 ≤ x ∧ x ≤ 9223372036854775807) : Calls Try.prog 12 #[kp, .pointer (some ⟨gA, 0, none⟩), .pointer (some ⟨gP, 0, none⟩), .agg #[.int .i64 a0, .int .i64 2, .int .i64 fd, .int .i64 x]] W fun e W' => e = .returned (.bool true) ∧ ∃ vA' leA' vF' vV', Sep w W' (tpT gA vA' leA' m (mapR tx (setR R fd x)) :: rfL gP m vF' vV' (setR R fd x) l) := by
  have hcl := cnt_le R
  have HS := (show Hid _ from ((h.box #[.int .i64 a0, .int .i64 2, .int .i64 fd, .int .i64 x] 38).swap.later (belowN (Below.refl _ _) 1)))
  have hS : (W.alloc (.cells #[.int .i64 a0, .int .i64 2, .int .i64 fd, .int .i64 x] 38)).drew.heap[W.heap.size]? = some (.cells #[.int .i64 a0, .int .i64 2, .int .i64 fd, .int .i64 x] 38) := heap_alloc_new _ _
  have b1 : (W.alloc (.cells #[.int .i64 a0, .int .i64 2, .int .i64 fd, .int .i64 x] 38)).cell? ⟨W.heap.size, 1, none⟩ = some (.int .i64 2) := Joins.cell_of_block (heap_alloc_new W _) 1
  clear h
  go_enter Try.func12, Try.ntmps12
  go_wp2
  refine wp_calm ?_
  refine wp_region_ord (S := fun u => u.heap[W.heap.size]? = some (.cells #[.int .i64 a0, .int .i64 2, .int .i64 fd, .int .i64 x] 38)) [(0, true), (1, true), (2, true), (3, true), (4, true), (7, true), (8, true), (9, true), (10, true), (11, true), (5, false), (6, false), (12, false), (13, true), (14, true)] (by kernel_rfl) rfl (by kernel_rfl) (fun _ _ _ _ _ h => h) hS ?_
  simp only [inOrd, List.getElem?_cons_zero, List.getElem?_cons_succ]
  refine wpOrd_yield (v := .pointer (some ⟨gA, 0, none⟩)) rfl (fun u _ => exec_mv rfl rfl) ?_
  simp only [Act.put, List.setIfInBounds_toArray, List.set_cons_succ, List.set_cons_zero]
  refine wpOrd_yield (v := .pointer (some ⟨W.heap.size, 2, none⟩)) rfl (fun u _ => by go_simp) ?_
  simp only [Act.put, List.setIfInBounds_toArray, List.set_cons_succ, List.set_cons_zero]
  refine wpOrd_yield (v := .int .i64 fd) rfl (fun u hu => (by have h1 := Joins.cell_of_block hu 2; go_simp)) ?_
  simp only [Act.put, List.setIfInBounds_toArray, List.set_cons_succ, List.set_cons_zero]
  refine wpOrd_yield (v := .pointer (some ⟨W.heap.size, 3, none⟩)) rfl (fun u _ => by go_simp) ?_
  simp only [Act.put, List.setIfInBounds_toArray, List.set_cons_succ, List.set_cons_zero]
  refine wpOrd_yield (v := .int .i64 x) rfl (fun u hu => (by have h1 := Joins.cell_of_block hu 3; go_simp)) ?_
  simp only [Act.put, List.setIfInBounds_toArray, List.set_cons_succ, List.set_cons_zero]
  refine wpOrd_yield (v := .pointer (some ⟨gP, 0, none⟩)) rfl (fun u _ => exec_mv rfl rfl) ?_
  simp only [Act.put, List.setIfInBounds_toArray, List.set_cons_succ, List.set_cons_zero]
  refine wpOrd_yield (v := .pointer (some ⟨W.heap.size, 2, none⟩)) rfl (fun u _ => by go_simp) ?_
  simp only [Act.put, List.setIfInBounds_toArray, List.set_cons_succ, List.set_cons_zero]
  refine wpOrd_yield (v := .int .i64 fd) rfl (fun u hu => (by have h1 := Joins.cell_of_block hu 2; go_simp)) ?_
  simp only [Act.put, List.setIfInBounds_toArray, List.set_cons_succ, List.set_cons_zero]
  refine wpOrd_yield (v := .pointer (some ⟨W.heap.size, 3, none⟩)) rfl (fun u _ => by go_simp) ?_
  simp only [Act.put, List.setIfInBounds_toArray, List.set_cons_succ, List.set_cons_zero]
  refine wpOrd_yield (v := .int .i64 x) rfl (fun u hu => (by have h1 := Joins.cell_of_block hu 3; go_simp)) ?_
  simp only [Act.put, List.setIfInBounds_toArray, List.set_cons_succ, List.set_cons_zero]
  refine wpOrd_call rfl 41 _ _ rfl Try.call41 [.int .i64 x] rfl ?_
  refine (text_ok x hx _).mono ?_
  rintro e Y0 ⟨rfl, q⟩
  obtain rfl := q.symm
  refine ⟨_, rfl, hS, ?_⟩
  simp only [Act.put, List.setIfInBounds_toArray, List.set_cons_succ, List.set_cons_zero]
  refine wpOrd_call rfl 43 _ _ rfl Try.call43 [.pointer (some ⟨gA, 0, none⟩), .int .i64 fd, .string (tx x)] rfl ?_
  refine (sep_setT HS.out fd (tx x)).mono ?_
  rw [refV_map, setR_map]
  rintro e Y1 ⟨rfl, v1, le1, s1⟩
  refine ⟨_, rfl, s1.swap.head, ?_⟩
  simp only [Act.put, List.setIfInBounds_toArray, List.set_cons_succ, List.set_cons_zero]
  have s2 := sep_pr (A := [_, _]) s1
  refine wpOrd_call rfl 32 _ _ rfl Try.call32 [.pointer (some ⟨gP, 0, none⟩), .int .i64 fd, .int .i64 x] rfl ?_
  refine (rset s2 (by omega) fd x).mono ?_
  rintro e Y2 ⟨rfl, s3⟩
  have s4 := sep_rp (A := [_, _]) s3
  refine ⟨_, rfl, s4.swap.head, ?_⟩
  simp only [Act.put, List.setIfInBounds_toArray, List.set_cons_succ, List.set_cons_zero]
  have HS5 := (show Hid _ from s4.swap.drop)
  have e2 : (refV R fd == refV R fd) = true := by simp
  refine wpOrd_yield (v := .bool true) rfl (fun u _ => by go_simp) ?_
  simp only [Act.put, List.setIfInBounds_toArray, List.set_cons_succ, List.set_cons_zero]
  refine wpOrd_yield (v := .bool true) rfl (fun u _ => by go_simp) ?_
  simp only [Act.put, List.setIfInBounds_toArray, List.set_cons_succ, List.set_cons_zero]
  refine wpOrd_nil ?_
  refine noPanic_normal ?_
  clear s1 s2 s3 s4 e2 hS HS b1
  go_wp2
  go_ret
  exact ⟨rfl, _, _, _, _, HS5.out⟩
set_option maxRecDepth 20000 in
theorem actT_other (kd : Int) (hk : kd < 0 ∨ 5 < kd) (tp rp : Value) : Calls Try.prog 12 #[kp, tp, rp, .agg #[.int .i64 a0, .int .i64 kd, .int .i64 fd, .int .i64 x]] W fun e W' => e = .returned (.bool true) ∧ Below W.heap.size W W' := by
  have HB : Hid (Below W.heap.size W (W.alloc (.cells #[.int .i64 a0, .int .i64 kd, .int .i64 fd, .int .i64 x] 38))) := below_new _ _
  have b1 : (W.alloc (.cells #[.int .i64 a0, .int .i64 kd, .int .i64 fd, .int .i64 x] 38)).cell? ⟨W.heap.size, 1, none⟩ = some (.int .i64 kd) := Joins.cell_of_block (heap_alloc_new W _) 1
  have k0 : (kd == 0) = false := by simp; omega
  have k1 : (kd == 1) = false := by simp; omega
  have k2 : (kd == 2) = false := by simp; omega
  have k3 : (kd == 3) = false := by simp; omega
  have k4 : (kd == 4) = false := by simp; omega
  have k5 : (kd == 5) = false := by simp; omega
  go_enter Try.func12, Try.ntmps12
  go_wp2
  go_ret
  exact ⟨rfl, HB.out⟩
end
end Go.Proofs.Ytbchbappdpbkiaa
