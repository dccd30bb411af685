/- What chapter 7's examples say; closed. -/
import Derived.Test.YtgkhheblmknedaaDec
import Derived.Test.YtgkhheblmknedaaWhere
namespace Go.Proofs.Ytgkhheblmknedaa
open Go.RowKit
section
variable {ops : Array Oper} {rest : List Oper} {o : Oper} {a : Act} {w : World} {Q : Exit → Act → World → Prop}
variable {dst : Option Tmp} {x y : Operand} {ty : TypeId} {pos : String} {aft : Array Edge} {gd : Option (Nat × Bool)}
theorem isLoad (t : TypeId) (h : wpList Try.prog ops Q (⟨dst, .load t x, ty, pos, aft, gd⟩ :: rest) a w) : wpList Try.prog ops Q (⟨dst, .load t x, ty, pos, aft, gd⟩ :: rest) a w := h
theorem isStore (t : TypeId) (h : wpList Try.prog ops Q (⟨dst, .store t x y, ty, pos, aft, gd⟩ :: rest) a w) : wpList Try.prog ops Q (⟨dst, .store t x y, ty, pos, aft, gd⟩ :: rest) a w := h
theorem isBuild (t : TypeId) {ps : Array (Nat × Operand)} (h : wpList Try.prog ops Q (⟨dst, .build t ps, ty, pos, aft, gd⟩ :: rest) a w) : wpList Try.prog ops Q (⟨dst, .build t ps, ty, pos, aft, gd⟩ :: rest) a w := h
theorem isEq (t t' : TypeId) {bo : BinOp} (h : wpList Try.prog ops Q (⟨dst, .binOp bo t x y t', ty, pos, aft, gd⟩ :: rest) a w) : wpList Try.prog ops Q (⟨dst, .binOp bo t x y t', ty, pos, aft, gd⟩ :: rest) a w := h
end
theorem wpList_load30w {ops : Array Oper} {rest : List Oper} {o : Oper} {a : Act} {w : World} {Q : Exit → Act → World → Prop} (hw : Region.wanted o (yielded ops a.tmps) = true) (x : Operand) (ho : o.op = .load 30 x)
    (g : Nat) (hx : a.eval x = .pointer (some ⟨g, 0, none⟩)) (f : Nat → Int) (hg : w.heap[g]? = some (.cells (blk f) 30))
    (h : wpList Try.prog ops Q rest (a.put o.dst (.agg (blk f))) w) : wpList Try.prog ops Q (o :: rest) a w := by
  unfold wpList
  rw [if_pos hw]
  refine .inl ?_
  unfold Oper.wp execOp
  simp only [ho, hx, Instr.loadAt, Instr.sureAddr, Sem.run_bind, Sem.run_pure, Result.andThen_ok, run_loadVar_row w g 30 30 (blk f) (0, 0) _ hg Try.underlying30 rfl (by rw [blk_size]; exact size25)]
  exact h
/-- A layout laid into a new cell. -/
theorem wpList_storeL_new {ops : Array Oper} {rest : List Oper} {o : Oper} {a : Act} {w : World} {Q : Exit → Act → World → Prop} (hgd : o.guard = none) (x y : Operand) (ho : o.op = .store 26 x y)
    (cs c0 : Array Value) (hs : cs.size = 9) (hs0 : c0.size = 9) (h1 : cs.all (·.oneCell') = true) (g : Nat) (hg : g = w.heap.size) (hx : a.eval x = .pointer (some ⟨g, 0, none⟩)) (hy : a.eval y = .agg cs)
    (h : wpList Try.prog ops Q rest (a.put o.dst undef) (w.alloc (.cells cs 26))) : wpList Try.prog ops Q (o :: rest) a (w.alloc (.cells c0 26)) := by
  subst hg
  refine wpList_plain hgd fun _ hK => ?_
  have hz : (Try.prog.info? 26).map (·.size) = some cs.size := by rw [hs]; exact size25L
  have e := run_storeVar_row (P := Try.prog) (w.alloc (.cells c0 26)) w.heap.size 26 26 c0 cs (heap_alloc_new _ _) hz (by rw [hs, hs0]) h1
  rw [World.setRow_alloc_new] at e
  unfold Oper.wp execOp
  simp only [ho, hx, hy, Instr.storeAt, Instr.sureAddr, Sem.run_bind, Sem.run_pure, Result.andThen_ok, e]
  exact hK _ _ h
theorem lay_one (b l i a c d e f g : Int) : (lay9 b l i a c d e f g).all (·.oneCell') = true := by simp [lay9, Value.oneCell']
theorem geo_any (w : World) : Calls Try.prog 25 #[] w fun e w' => e = .returned (geoV 400 32 60) ∧ Below w.heap.size w w' := by
  unfold geoV
  go_enter Try.func25, Try.ntmps25
  go_wp2
  exact ret23 rfl w.heap.size _ rfl rfl (heap_alloc_new _ _) rfl ⟨rfl, below_new _ _⟩
/-- The layout of the document's examples. -/
def exL : Array Value := lay9 400 32 60 1 33 4 37 1 38
theorem exL_of (w : World) : Calls Try.prog 20 #[geoV 400 32 60] w fun e w' => e = .returned (.tuple #[.agg exL, .int .i64 0]) ∧ Below w.heap.size w w' := by
  have h := of_any 400 32 60 w (by unfold I64; omega)
  exact h
theorem exStands : standsB 400 32 60 1 33 4 37 1 38 = true := by decide
theorem ex_enc (ts : List Int) (p : Option Addr) (cap : Nat) (w : World) (h : IntsAt w p ts) (hm : mayB 33 400 31 ts = true) :
    Calls Try.prog 11 #[.agg exL, .agg #[.slice p ts.length cap]] w fun e' w' => e' = .returned (.tuple #[.agg (blk (headF ts)), .int .i64 0]) ∧ Below w.heap.size w w' := by
  have hP : MayP 33 400 31 ts := of_decide_eq_true hm
  exact enc_ok 400 32 60 1 33 4 37 1 38 ts p cap w (by unfold I64; omega) exStands (by omega) h (hP.u (by omega) (by omega)) (by have := hP.1; omega) hm
theorem ex_bad (ts : List Int) (p : Option Addr) (cap : Nat) (w : World) (h : IntsAt w p ts) (hw : WfI ts) (hl : ts.length < 9223372036854775807) (hm : mayB 33 400 31 ts = false) :
    Calls Try.prog 11 #[.agg exL, .agg #[.slice p ts.length cap]] w fun e' w' => e' = .returned (.tuple #[.agg (blk nought), .int .i64 4]) ∧ Below w.heap.size w w' :=
  enc_bad 400 32 60 1 33 4 37 1 38 ts p cap w (by unfold I64; omega) exStands (by omega) hl h hw hm
def ex3 : List Int := [33, 399, 40]
theorem ex_dec (w : World) : Calls Try.prog 16 #[.agg exL, .agg (blk (headF ex3))] w fun e' w' => ∃ q, e' = .returned (.tuple #[.agg #[.slice (some ⟨q, 0, none⟩) 3 3], .int .i64 0]) ∧ w.heap.size ≤ q ∧ w'.heap[q]? = some (.cells (listRow ex3) 3) ∧ Below w.heap.size w w' := by
  have hu : AllU ex3 := by decide
  have ht : tgts (headF ex3) 3 = ex3 := by
    have := head_tgts ex3 [] hu (fun x h => by cases h) (by decide)
    rw [List.append_nil] at this
    exact this
  have h := dec_ok 400 32 60 1 33 4 37 1 38 (headF ex3) 3 w (by unfold I64; omega) exStands (by omega) (wordF_byte _) (wordF_read _ (by decide) 0) (by omega) (by rw [ht]; decide)
  rw [ht] at h
  exact h
theorem ex_read (k : Nat) (hk : k < 256) : num (headF ex3) ((4 * k : Nat) : Int) 4 = ([3, 33, 399, 40] : List Int).getD k 0 := by
  rw [num_in _ _ _ (by omega)]
  exact wordF_read _ (by decide) k
theorem new_at (T : List Int) (R : Array Value) (hR : listRow T = R) (W : World) (g : Nat) (hg : W.heap.size = g) : IntsAt (W.alloc (.cells R 3)) (some ⟨g, 0, none⟩) T := by
  subst hR hg
  exact listRow_at (heap_alloc_new _ _)
def exR : Array Value := #[.int .i64 33, .int .i64 399, .int .i64 40]
def exQ : Array Value := #[.int .i64 40, .int .i64 40]
set_option maxRecDepth 20000 in
set_option maxHeartbeats 1000000 in
theorem awake_any (w : World) : Calls Try.prog 19 #[] w fun e w' => e = .returned (.bool true) ∧ Below w.heap.size w w' := by
  have hOf := exL_of
  have hE := fun W p (h : IntsAt W p ex3) => ex_enc ex3 p 3 W h (by decide)
  have hX := fun W p (h : IntsAt W p [40, 40]) => ex_bad [40, 40] p 2 W h (by decide) (by decide) (by decide)
  have hD := ex_dec
  have hU := fun (k : Nat) (hk : k < 256) W => u32_any (headF ex3) ((4 * k : Nat) : Int) W (wordF_byte _)
  have hR := ex_read
  have hS := fun W p q (h : IntsAt W p ex3) (h' : IntsAt W q ex3) => sameInts_any ex3 ex3 p q 3 3 W (by decide) h h'
  simp only [decide_true] at hS
  have hsz : exL.size = 9 := rfl
  have h1 : exL.all (·.oneCell') = true := lay_one _ _ _ _ _ _ _ _ _
  have z25 := zero25
  generalize exL = L at *
  generalize headF ex3 = H at *
  have HE : Hid (∀ W p, IntsAt W p ex3 → Calls Try.prog 11 #[.agg L, .agg #[.slice p 3 3]] W fun e' w' => e' = .returned (.tuple #[.agg (blk H), .int .i64 0]) ∧ Below W.heap.size W w') := hE
  have HX : Hid (∀ W p, IntsAt W p [40, 40] → Calls Try.prog 11 #[.agg L, .agg #[.slice p 2 2]] W fun e' w' => e' = .returned (.tuple #[.agg (blk nought), .int .i64 4]) ∧ Below W.heap.size W w') := hX
  have HS : Hid (∀ W p q, IntsAt W p ex3 → IntsAt W q ex3 → Calls Try.prog 17 #[.slice p 3 3, .slice q 3 3] W fun e' w' => e' = .returned (.bool true) ∧ Below W.heap.size W w') := hS
  have HD : Hid _ := hD
  have HU : Hid (∀ (k : Nat), k < 256 → ∀ W, Calls Try.prog 26 #[.agg (blk H), .int .i64 ((4 * k : Nat) : Int)] W fun e' w' => e' = .returned (.int .u32 (([3, 33, 399, 40] : List Int).getD k 0)) ∧ Below W.heap.size W w') := fun k hk W => by
    have := hU k hk W
    rw [hR k hk] at this
    exact this
  clear hE hX hS hD hU hR
  go_enter Try.func19, Try.ntmps19
  go_wp2_with (first | (go_at_call 25; fail))
  refine (geo_any _).mono ?_
  rintro e W1 ⟨rfl, hb1⟩
  go_wp2_with (first | (go_at_call 20; fail))
  refine (hOf _).mono ?_
  rintro e W2 ⟨rfl, hb2⟩
  have HB : Hid (Below w.heap.size w W2) := below_next hb1 hb2
  clear hb1 hb2 hOf
  go_wp2_with (first | (with_reducible refine isStore 26 ?_; refine wpList_storeL_new rfl _ _ rfl _ _ hsz rfl h1 _ rfl rfl rfl ?_) | (with_reducible refine isLoad 26 ?_; refine wpList_loadL rfl _ rfl _ rfl _ hsz (heap_alloc_new _ _) ?_) | (go_at_call 11; fail))
  refine (HE.out ((W2.alloc (.cells L 26)).alloc (.cells #[.int .i64 33, .int .i64 399, .int .i64 40] 3)) (some ⟨W2.heap.size + 1, 0, none⟩) (new_at ex3 _ rfl _ _ (by simp))).mono ?_
  rintro e W3 ⟨rfl, hb3⟩
  have hL := heap_kept (heap_alloc2_old W2 (.cells L 26) (.cells #[.int .i64 33, .int .i64 399, .int .i64 40] 3)) hb3
  have HB3 : Hid (Below w.heap.size w W3) := below_next (bel_al (bel_al HB.out _) _) hb3
  generalize W2.heap.size = gL at *
  clear hb3 HB HE
  have hL2 := heap_kept hL (below_new W3 (.cells (blk H) 30))
  go_wp2_with (first | (with_reducible refine isStore 30 ?_; refine wpList_store25_new rfl _ _ rfl _ _ rfl rfl ?_) | (with_reducible refine isLoad 26 ?_; refine wpList_loadL rfl _ rfl _ rfl _ hsz hL2 ?_) | (with_reducible refine isLoad 30 ?_; refine wpList_load25 rfl _ rfl _ rfl _ (heap_alloc_new _ _) ?_) | (go_at_call 16; fail))
  refine (HD.out _).mono ?_
  rintro e W4 ⟨q, rfl, hq, hrow, hb4⟩
  have hL4 := heap_kept hL2 hb4
  have hH4 := heap_kept (heap_alloc_new W3 (.cells (blk H) 30)) hb4
  have HB4 : Hid (Below w.heap.size w W4) := below_next (bel_al HB3.out _) hb4
  generalize W3.heap.size = gH at *
  clear hb4 HB3 HD hL hL2
  have hL6 := fun (o : Obj) => heap_kept hL4 (below_new W4 o)
  go_wp2_with (first | (with_reducible refine isLoad 26 ?_; refine wpList_loadL rfl _ rfl _ rfl _ hsz (hL6 _) ?_) | (go_at_call 11; fail))
  refine (HX.out ((W4.alloc (.cells #[.slice (some ⟨q, 0, none⟩) 3 3] 35)).alloc (.cells #[.int .i64 40, .int .i64 40] 3)) (some ⟨W4.heap.size + 1, 0, none⟩) (new_at [40, 40] _ rfl _ _ (by simp))).mono ?_
  rintro e W5 ⟨rfl, hb5⟩
  have hH5 := heap_kept (heap_kept hH4 (bel_al (below_new W4 (.cells #[.slice (some ⟨q, 0, none⟩) 3 3] 35)) (.cells #[.int .i64 40, .int .i64 40] 3))) hb5
  have hr5 := heap_kept (heap_kept hrow (bel_al (below_new W4 (.cells #[.slice (some ⟨q, 0, none⟩) 3 3] 35)) (.cells #[.int .i64 40, .int .i64 40] 3))) hb5
  have hS5 := heap_kept (heap_alloc2_old W4 (.cells #[.slice (some ⟨q, 0, none⟩) 3 3] 35) (.cells #[.int .i64 40, .int .i64 40] 3)) hb5
  have HB5 : Hid (Below w.heap.size w W5) := below_next (bel_al (bel_al HB4.out _) _) hb5
  generalize W4.heap.size = gS at *
  clear hb5 HB4 HX hL4 hL6 hrow hH4
  have hH6 := heap_kept hH5 (below_new W5 (.cells (blk nought) 30))
  have hr6 := heap_kept hr5 (below_new W5 (.cells (blk nought) 30))
  have hS6 := heap_kept hS5 (below_new W5 (.cells (blk nought) 30))
  have HB6 : Hid (Below w.heap.size w (W5.alloc (.cells (blk nought) 30))) := bel_al HB5.out _
  clear hH5 hr5 hS5 HB5
  go_wp2_with (first | (with_reducible refine isStore 30 ?_; refine wpList_store25_new rfl _ _ rfl _ _ rfl rfl ?_) | (with_reducible refine isLoad 30 ?_; refine wpList_load30w rfl _ rfl _ rfl _ hH6 ?_) | (go_at_call 26; fail))
  generalize W5.alloc (.cells (blk nought) 30) = X0 at *
  refine (HU.out 0 (by decide) _).mono ?_
  rintro e X1 ⟨rfl, hbx⟩
  have hH7 := heap_kept hH6 hbx
  have hr7 := heap_kept hr6 hbx
  have hS7 := heap_kept hS6 hbx
  have HB7 : Hid (Below w.heap.size w X1) := below_next HB6.out hbx
  clear hbx hH6 hr6 hS6 HB6
  go_wp2_with (first | (with_reducible refine isLoad 30 ?_; refine wpList_load30w rfl _ rfl _ rfl _ hH7 ?_) | (go_at_call 26; fail))
  refine (HU.out 1 (by decide) _).mono ?_
  rintro e X2 ⟨rfl, hbx⟩
  have hH8 := heap_kept hH7 hbx
  have hr8 := heap_kept hr7 hbx
  have hS8 := heap_kept hS7 hbx
  have HB8 : Hid (Below w.heap.size w X2) := below_next HB7.out hbx
  clear hbx hH7 hr7 hS7 HB7
  go_wp2_with (first | (with_reducible refine isLoad 30 ?_; refine wpList_load30w rfl _ rfl _ rfl _ hH8 ?_) | (go_at_call 26; fail))
  refine (HU.out 2 (by decide) _).mono ?_
  rintro e X3 ⟨rfl, hbx⟩
  have hH9 := heap_kept hH8 hbx
  have hr9 := heap_kept hr8 hbx
  have hS9 := heap_kept hS8 hbx
  have HB9 : Hid (Below w.heap.size w X3) := below_next HB8.out hbx
  clear hbx hH8 hr8 hS8 HB8
  go_wp2_with (first | (with_reducible refine isLoad 30 ?_; refine wpList_load30w rfl _ rfl _ rfl _ hH9 ?_) | (go_at_call 26; fail))
  refine (HU.out 3 (by decide) _).mono ?_
  rintro e X4 ⟨rfl, hbx⟩
  have hH10 := heap_kept hH9 hbx
  have hr10 := heap_kept hr9 hbx
  have hS10 := heap_kept hS9 hbx
  have HB10 : Hid (Below w.heap.size w X4) := below_next HB9.out hbx
  clear hbx hH9 hr9 hS9 HB9
  go_wp2_with (first | (with_reducible refine isLoad 30 ?_; refine wpList_load30w rfl _ rfl _ rfl _ hH10 ?_) | (go_at_call 26; fail))
  refine (HU.out 4 (by decide) _).mono ?_
  rintro e X5 ⟨rfl, hbx⟩
  have hH11 := heap_kept hH10 hbx
  have hr11 := heap_kept hr10 hbx
  have hS11 := heap_kept hS10 hbx
  have HB11 : Hid (Below w.heap.size w X5) := below_next HB10.out hbx
  clear hbx hH10 hr10 hS10 HB10
  have hSc := cell_one hS11
  go_wp2_with (first | (go_at_call 17; fail))
  refine (HS.out (X5.alloc (.cells #[.int .i64 33, .int .i64 399, .int .i64 40] 3)) (some ⟨q, 0, none⟩) (some ⟨X5.heap.size, 0, none⟩) (listRow_at (heap_kept hr11 (below_new _ _))) (new_at ex3 _ rfl _ _ rfl)).mono ?_
  rintro e X6 ⟨rfl, hbx⟩
  have HB12 : Hid (Below w.heap.size w X6) := below_next (bel_al HB11.out _) hbx
  clear hbx hH11 hr11 hS11 HB11 hSc
  go_wp2
  go_ret
  exact ⟨rfl, HB12.out⟩
end Go.Proofs.Ytgkhheblmknedaa
