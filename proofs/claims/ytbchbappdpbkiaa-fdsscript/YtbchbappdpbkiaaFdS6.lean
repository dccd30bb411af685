/- FdsScript's acts with the table of ints: open, get, set, close, how many; both tables answer alike; fewer than a million rows; no other condition. -/
import Derived.Test.YtbchbappdpbkiaaFdS4
import Derived.Test.YtbchbappdpbkiaaFdS5
import Derived.Test.YtbchbappdpbkiaaFdcI
namespace Go.Proofs.Ytbchbappdpbkiaa
open Go.RowKit Go.Maps
theorem pAB (A B l : List Part) : (A ++ (B ++ l)).Perm (B ++ (A ++ l)) := by
  rw [← List.append_assoc, ← List.append_assoc]
  exact List.perm_append_comm.append_right l
/-- What an act makes of what each number stands for. -/
def stepR (kd fd x m : Int) (R : List (Option Int)) : List (Option Int) := if kd = 0 then openT R m x else if kd = 2 then setR R fd x else if kd = 3 then closeR R fd else R
section
variable {w W : World} {l : List Part} {gA gP leA : Nat} {m : Int} {vA vF vV : Value} {R : List (Option Int)}
/-- The program's table behind the document's: its parts come to the front. -/
theorem sep_pr {A : List Part} (h : Sep w W (A ++ rfL gP m vF vV R l)) : Sep w W (rfL gP m vF vV R (A ++ l)) := h.perm (pAB A [_, _, _] l)
theorem sep_rp {A : List Part} (h : Sep w W (rfL gP m vF vV R (A ++ l))) : Sep w W (A ++ rfL gP m vF vV R l) := h.perm (pAB [_, _, _] A l)
variable (kp : Value) (a0 x : Int) (fd : Int)
set_option maxRecDepth 20000 in
set_option maxHeartbeats 2000000 in
theorem actI_open (h : Sep w W (tpI gA vA leA m R :: rfL gP m vF vV R l)) (hl : R.length ≤ 900000) : Calls Try.prog 11 #[kp, .pointer (some ⟨gA, 0, none⟩), .pointer (some ⟨gP, 0, none⟩), .agg #[.int .i64 a0, .int .i64 0, .int .i64 fd, .int .i64 x]] W fun e W' => e = .returned (.bool true) ∧ ∃ vA' leA' vF' vV', Sep w W' (tpI gA vA' leA' m (openT R m x) :: rfL gP m vF' vV' (openT R m x) l) := by
  have hcm := h.head.cnm
  have hcl := cnt_le R
  have HS := (show Hid _ from (h.box #[.int .i64 a0, .int .i64 0, .int .i64 fd, .int .i64 x] 38).swap)
  have hb : (W.alloc (.cells #[.int .i64 a0, .int .i64 0, .int .i64 fd, .int .i64 x] 38)).heap[W.heap.size]? = some (.cells #[.int .i64 a0, .int .i64 0, .int .i64 fd, .int .i64 x] 38) := heap_alloc_new _ _
  have b1 := Joins.cell_of_block hb 1
  have b3 := Joins.cell_of_block hb 3
  clear h
  go_enter Try.func11, Try.ntmps11
  go_wp2_with (first | (go_at_call 25; fail))
  refine (sep_openI HS.out (by omega) x).mono ?_
  rintro e W1 ⟨rfl, v1, le1, s1⟩
  have HS1 := (show Hid _ from sep_pr (A := [_, _]) s1)
  have hb1 : W1.heap[W.heap.size]? = some (.cells #[.int .i64 a0, .int .i64 0, .int .i64 fd, .int .i64 x] 38) := s1.swap.head
  have b3' := Joins.cell_of_block hb1 3
  clear s1 HS b1 b3 hb
  go_wp2_with (first | (go_at_call 29; fail))
  refine (ropen HS1.out (by omega) hcm x).mono ?_
  rintro e W2 ⟨rfl, vF2, vV2, s2⟩
  have HS2 := (show Hid _ from (sep_rp (A := [_, _]) s2).swap.drop)
  have e1 : (openN R m == openN R m) = true := by simp
  have e2 : (openE R m == openE R m) = true := by simp
  clear s2 HS1 hb1 b3'
  go_wp2
  go_ret
  exact ⟨rfl, _, _, _, _, HS2.out⟩
set_option maxRecDepth 20000 in
set_option maxHeartbeats 2000000 in
theorem actI_get (h : Sep w W (tpI gA vA leA m R :: rfL gP m vF vV R l)) (hl : R.length ≤ 900000) : Calls Try.prog 11 #[kp, .pointer (some ⟨gA, 0, none⟩), .pointer (some ⟨gP, 0, none⟩), .agg #[.int .i64 a0, .int .i64 1, .int .i64 fd, .int .i64 x]] W fun e W' => e = .returned (.bool true) ∧ Sep w W' (tpI gA vA leA m R :: rfL gP m vF vV R l) := by
  have hcl := cnt_le R
  have s0 := h.box #[.int .i64 a0, .int .i64 1, .int .i64 fd, .int .i64 x] 38
  have HS := (show Hid _ from s0.drop)
  have hb : (W.alloc (.cells #[.int .i64 a0, .int .i64 1, .int .i64 fd, .int .i64 x] 38)).heap[W.heap.size]? = some (.cells #[.int .i64 a0, .int .i64 1, .int .i64 fd, .int .i64 x] 38) := heap_alloc_new _ _
  have b1 := Joins.cell_of_block hb 1
  have b2 := Joins.cell_of_block hb 2
  have g1 := get_okI HS.out.head fd
  have g2 := rget (sep_pr (A := [_]) HS.out) (by omega) fd
  have e1 : ((getO R fd).getD 0 == (getO R fd).getD 0) = true := by simp
  have e2 : (refV R fd == refV R fd) = true := by simp
  rw [show thI (getO R fd) = .int .i64 ((getO R fd).getD 0) by cases getO R fd <;> rfl] at g1
  clear h s0 hb
  go_enter Try.func11, Try.ntmps11
  go_wp2_with (first | (go_at_call 26; refine g1.mono ?_; rintro e U ⟨rfl, q⟩; obtain rfl := q.symm) | (go_at_call 30; refine g2.mono ?_; rintro e U ⟨rfl, q⟩; obtain rfl := q.symm))
  go_ret
  exact ⟨rfl, HS.out⟩
set_option maxRecDepth 20000 in
set_option maxHeartbeats 2000000 in
theorem actI_close (h : Sep w W (tpI gA vA leA m R :: rfL gP m vF vV R l)) (hl : R.length ≤ 900000) : Calls Try.prog 11 #[kp, .pointer (some ⟨gA, 0, none⟩), .pointer (some ⟨gP, 0, none⟩), .agg #[.int .i64 a0, .int .i64 3, .int .i64 fd, .int .i64 x]] W fun e W' => e = .returned (.bool true) ∧ ∃ vA' leA' vF' vV', Sep w W' (tpI gA vA' leA' m (closeR R fd) :: rfL gP m vF' vV' (closeR R fd) l) := by
  have hcl := cnt_le R
  have HS := (show Hid _ from (h.box #[.int .i64 a0, .int .i64 3, .int .i64 fd, .int .i64 x] 38).swap)
  have hb : (W.alloc (.cells #[.int .i64 a0, .int .i64 3, .int .i64 fd, .int .i64 x] 38)).heap[W.heap.size]? = some (.cells #[.int .i64 a0, .int .i64 3, .int .i64 fd, .int .i64 x] 38) := heap_alloc_new _ _
  have b1 := Joins.cell_of_block hb 1
  have b2 := Joins.cell_of_block hb 2
  have hth : thI (getO R fd) = .int .i64 ((getO R fd).getD 0) := by cases getO R fd <;> rfl
  clear h
  go_enter Try.func11, Try.ntmps11
  go_wp2_with (first | (go_at_call 33; fail))
  refine (sep_closeI HS.out (by omega) fd).mono ?_
  rw [hth]
  rintro e W1 ⟨rfl, v1, le1, s1⟩
  have HS1 := (show Hid _ from sep_pr (A := [_, _]) s1)
  have hb1 : W1.heap[W.heap.size]? = some (.cells #[.int .i64 a0, .int .i64 3, .int .i64 fd, .int .i64 x] 38) := s1.swap.head
  have b2' := Joins.cell_of_block hb1 2
  clear s1 HS b1 b2 hb hth
  go_wp2_with (first | (go_at_call 34; fail))
  refine (rclose HS1.out (by omega) fd).mono ?_
  rintro e W2 ⟨rfl, vF2, vV2, s2⟩
  have HS2 := (show Hid _ from (sep_rp (A := [_, _]) s2).swap.drop)
  have e1 : ((getO R fd).getD 0 == (getO R fd).getD 0) = true := by simp
  have e2 : (refV R fd == refV R fd) = true := by simp
  clear s2 HS1 hb1 b2'
  go_wp2
  go_ret
  exact ⟨rfl, _, _, _, _, HS2.out⟩
set_option maxRecDepth 20000 in
set_option maxHeartbeats 2000000 in
theorem actI_len (h : Sep w W (tpI gA vA leA m R :: rfL gP m vF vV R l)) : Calls Try.prog 11 #[kp, .pointer (some ⟨gA, 0, none⟩), .pointer (some ⟨gP, 0, none⟩), .agg #[.int .i64 a0, .int .i64 4, .int .i64 fd, .int .i64 x]] W fun e W' => e = .returned (.bool true) ∧ Sep w W' (tpI gA vA leA m R :: rfL gP m vF vV R l) := by
  have hcm := h.head.cnm
  have s0 := h.box #[.int .i64 a0, .int .i64 4, .int .i64 fd, .int .i64 x] 38
  have HS := (show Hid _ from s0.drop)
  have hb : (W.alloc (.cells #[.int .i64 a0, .int .i64 4, .int .i64 fd, .int .i64 x] 38)).heap[W.heap.size]? = some (.cells #[.int .i64 a0, .int .i64 4, .int .i64 fd, .int .i64 x] 38) := heap_alloc_new _ _
  have b1 := Joins.cell_of_block hb 1
  have g1 := len_okI HS.out.head
  have g2 := rlen (sep_pr (A := [_]) HS.out)
  have g3 := sep_fullI HS.out
  have e1 : (((cnt R : Nat) : Int) == ((cnt R : Nat) : Int)) = true := by simp
  clear h s0 hb
  go_enter Try.func11, Try.ntmps11
  go_wp2_with (first | (go_at_call 28; refine g1.mono ?_; rintro e U ⟨rfl, q⟩; obtain rfl := q.symm) | (go_at_call 35; refine g2.mono ?_; rintro e U ⟨rfl, q⟩; obtain rfl := q.symm) | (go_at_call 27; fail))
  refine g3.mono ?_
  rintro e W1 ⟨rfl, s1⟩
  have HS1 := (show Hid _ from sep_pr (A := [_]) s1)
  clear s1 HS g1 g2 g3
  go_wp2_with (first | (go_at_call 36; fail))
  refine (rfull HS1.out hcm).mono ?_
  rintro e W2 ⟨rfl, s2⟩
  have HS2 := (show Hid _ from sep_rp (A := [_]) s2)
  have e2 : (decide (((cnt R : Nat) : Int) = m) == decide (((cnt R : Nat) : Int) = m)) = true := by simp
  clear s2 HS1
  go_wp2
  go_ret
  exact ⟨rfl, HS2.out⟩
end
end Go.Proofs.Ytbchbappdpbkiaa
