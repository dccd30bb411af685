/- FdsScript's acts with the table of ints: what is set, and kinds that do nothing; fewer than a million rows; no other condition. -/
import Derived.Test.YtbchbappdpbkiaaFdS6
namespace Go.Proofs.Ytbchbappdpbkiaa
open Go.RowKit Go.Maps
section
variable {w W : World} {l : List Part} {gA gP leA : Nat} {m : Int} {vA vF vV : Value} {R : List (Option Int)}
variable (kp : Value) (a0 x : Int) (fd : Int)
set_option maxRecDepth 20000 in
set_option maxHeartbeats 2000000 in
theorem actI_set (h : Sep w W (tpI gA vA leA m R :: rfL gP m vF vV R l)) (hl : R.length ≤ 900000) : Calls Try.prog 11 #[kp, .pointer (some ⟨gA, 0, none⟩), .pointer (some ⟨gP, 0, none⟩), .agg #[.int .i64 a0, .int .i64 2, .int .i64 fd, .int .i64 x]] W fun e W' => e = .returned (.bool true) ∧ ∃ vA' leA' vF' vV', Sep w W' (tpI gA vA' leA' m (setR R fd x) :: rfL gP m vF' vV' (setR R fd x) l) := by
  have hcl := cnt_le R
  have HS := (show Hid _ from ((h.box #[.int .i64 a0, .int .i64 2, .int .i64 fd, .int .i64 x] 38).swap.later (belowN (Below.refl _ _) 1)))
  have hS : (W.alloc (.cells #[.int .i64 a0, .int .i64 2, .int .i64 fd, .int .i64 x] 38)).drew.heap[W.heap.size]? = some (.cells #[.int .i64 a0, .int .i64 2, .int .i64 fd, .int .i64 x] 38) := heap_alloc_new _ _
  have b1 : (W.alloc (.cells #[.int .i64 a0, .int .i64 2, .int .i64 fd, .int .i64 x] 38)).cell? ⟨W.heap.size, 1, none⟩ = some (.int .i64 2) := Joins.cell_of_block (heap_alloc_new W _) 1
  clear h
  go_enter Try.func11, Try.ntmps11
  go_wp2
  refine wp_calm ?_
  refine wp_region_ord (S := fun u => u.heap[W.heap.size]? = some (.cells #[.int .i64 a0, .int .i64 2, .int .i64 fd, .int .i64 x] 38)) [(0, true), (1, true), (2, true), (3, true), (4, true), (6, true), (7, true), (8, true), (9, true), (10, true), (5, false), (11, false), (12, true), (13, true)] (by kernel_rfl) rfl (by kernel_rfl) (fun _ _ _ _ _ h => h) hS ?_
  simp only [inOrd, List.getElem?_cons_zero, List.getElem?_cons_succ]
  refine wpOrd_yield (v := .pointer (some ⟨gA, 0, none⟩)) rfl (fun u _ => exec_mv rfl rfl) ?_
  simp only [Act.put, List.setIfInBounds_toArray, List.set_cons_succ, List.set_cons_zero]
  refine wpOrd_yield (v := .pointer (some ⟨W.heap.size, 2, none⟩)) rfl (fun u _ => by go_simp) ?_
  simp only [Act.put, List.setIfInBounds_toArray, List.set_cons_succ, List.set_cons_zero]
  refine wpOrd_yield (v := .int .i64 fd) rfl (fun u hu => (by have h1 := Joins.cell_of_block hu 2; go_simp)) ?_
  simp only [Act.put, List.setIfInBounds_toArray, List.set_cons_succ, List.set_cons_zero]
  refine wpOrd_yield (v := .pointer (some ⟨W.heap.size, 3, none⟩)) rfl (fun u _ => by go_simp) ?_
  simp only [Act.put, List.setIfInBounds_toArray, List.set_cons_succ, List.set_cons_zero]
  refine wpOrd_yield (v := .int .i64 x) rfl (fun u hu => (by have h1 := Joins.cell_of_block hu 3; go_simp)) ?_
  simp only [Act.put, List.setIfInBounds_toArray, List.set_cons_succ, List.set_cons_zero]
  refine wpOrd_yield (v := .pointer (some ⟨gP, 0, none⟩)) rfl (fun u _ => exec_mv rfl rfl) ?_
  simp only [Act.put, List.setIfInBounds_toArray, List.set_cons_succ, List.set_cons_zero]
  refine wpOrd_yield (v := .pointer (some ⟨W.heap.size, 2, none⟩)) rfl (fun u _ => by go_simp) ?_
  simp only [Act.put, List.setIfInBounds_toArray, List.set_cons_succ, List.set_cons_zero]
  refine wpOrd_yield (v := .int .i64 fd) rfl (fun u hu => (by have h1 := Joins.cell_of_block hu 2; go_simp)) ?_
  simp only [Act.put, List.setIfInBounds_toArray, List.set_cons_succ, List.set_cons_zero]
  refine wpOrd_yield (v := .pointer (some ⟨W.heap.size, 3, none⟩)) rfl (fun u _ => by go_simp) ?_
  simp only [Act.put, List.setIfInBounds_toArray, List.set_cons_succ, List.set_cons_zero]
  refine wpOrd_yield (v := .int .i64 x) rfl (fun u hu => (by have h1 := Joins.cell_of_block hu 3; go_simp)) ?_
  simp only [Act.put, List.setIfInBounds_toArray, List.set_cons_succ, List.set_cons_zero]
  refine wpOrd_call rfl 31 _ _ rfl Try.call31 [.pointer (some ⟨gA, 0, none⟩), .int .i64 fd, .int .i64 x] rfl ?_
  refine (sep_setI HS.out fd x).mono ?_
  rintro e Y1 ⟨rfl, v1, le1, s1⟩
  refine ⟨_, rfl, s1.swap.head, ?_⟩
  simp only [Act.put, List.setIfInBounds_toArray, List.set_cons_succ, List.set_cons_zero]
  have s2 := sep_pr (A := [_, _]) s1
  refine wpOrd_call rfl 32 _ _ rfl Try.call32 [.pointer (some ⟨gP, 0, none⟩), .int .i64 fd, .int .i64 x] rfl ?_
  refine (rset s2 (by omega) fd x).mono ?_
  rintro e Y2 ⟨rfl, s3⟩
  have s4 := sep_rp (A := [_, _]) s3
  refine ⟨_, rfl, s4.swap.head, ?_⟩
  simp only [Act.put, List.setIfInBounds_toArray, List.set_cons_succ, List.set_cons_zero]
  have HS5 := (show Hid _ from s4.swap.drop)
  have e2 : (refV R fd == refV R fd) = true := by simp
  refine wpOrd_yield (v := .bool true) rfl (fun u _ => by go_simp) ?_
  simp only [Act.put, List.setIfInBounds_toArray, List.set_cons_succ, List.set_cons_zero]
  refine wpOrd_yield (v := .bool true) rfl (fun u _ => by go_simp) ?_
  simp only [Act.put, List.setIfInBounds_toArray, List.set_cons_succ, List.set_cons_zero]
  refine wpOrd_nil ?_
  refine noPanic_normal ?_
  clear s1 s2 s3 s4 e2 hS HS b1
  go_wp2
  go_ret
  exact ⟨rfl, _, _, _, _, HS5.out⟩
set_option maxRecDepth 20000 in
theorem actI_other (kd : Int) (hk : kd < 0 ∨ 5 < kd) (tp rp : Value) : Calls Try.prog 11 #[kp, tp, rp, .agg #[.int .i64 a0, .int .i64 kd, .int .i64 fd, .int .i64 x]] W fun e W' => e = .returned (.bool true) ∧ Below W.heap.size W W' := by
  have HB : Hid (Below W.heap.size W (W.alloc (.cells #[.int .i64 a0, .int .i64 kd, .int .i64 fd, .int .i64 x] 38))) := below_new _ _
  have b1 : (W.alloc (.cells #[.int .i64 a0, .int .i64 kd, .int .i64 fd, .int .i64 x] 38)).cell? ⟨W.heap.size, 1, none⟩ = some (.int .i64 kd) := Joins.cell_of_block (heap_alloc_new W _) 1
  have k0 : (kd == 0) = false := by simp; omega
  have k1 : (kd == 1) = false := by simp; omega
  have k2 : (kd == 2) = false := by simp; omega
  have k3 : (kd == 3) = false := by simp; omega
  have k4 : (kd == 4) = false := by simp; omega
  have k5 : (kd == 5) = false := by simp; omega
  go_enter Try.func11, Try.ntmps11
  go_wp2
  go_ret
  exact ⟨rfl, HB.out⟩
end
end Go.Proofs.Ytbchbappdpbkiaa
