/- BitsNames's walk: the chapter's examples hold of the program; no condition. -/
import Derived.Test.YtplgelhfombhkaaAgain
import Derived.Test.YtplgelhfombhkaaTakes
namespace Go.Proofs.Ytplgelhfombhkaa
open Go.RowKit

theorem build0 (u : World) : (Instr.build 23 #[]).run Try.prog u = .ok (.agg (blk nought)) u := by
  have z25 := zero25
  simp [Instr.build, z25, run_underlying Try.underlying23, Try.sizeOf5, Instr.fill, Value.cells]
theorem wpList_load25w {ops : Array Oper} {rest : List Oper} {o : Oper} {a : Act} {w : World} {Q : Exit → Act → World → Prop} (hw : Region.wanted o (yielded ops a.tmps) = true) (x : Operand) (ho : o.op = .load 23 x)
    (g : Nat) (hx : a.eval x = .pointer (some ⟨g, 0, none⟩)) (f : Nat → Int) (hg : w.heap[g]? = some (.cells (blk f) 23))
    (h : wpList Try.prog ops Q rest (a.put o.dst (.agg (blk f))) w) : wpList Try.prog ops Q (o :: rest) a w :=
  BigFrame.wpList_want hw fun _ hK => wp_load_row 23 x ho g hx 23 (blk f) (0, 0) _ hg Try.underlying23 rfl (by rw [blk_size]; exact size25) (hK _ _ h)

theorem firstZ_of (f : Nat → Int) (a b : Int) (m : Nat) (hm : m < 8192) (h : hole f a b m = true) (hl : ∀ i, i < m → hole f a b i = false) (z : Int) (hz : z = m) : firstZ f a b = z := by rw [hz]; exact firstZ_some f a b m hm h hl
theorem nine_hole (a b : Int) (i : Nat) : hole nine a b i = (decide (a ≤ (i : Int) ∧ (i : Int) < b) && !decide (i = 9)) := by unfold hole; rw [nine_bit]
theorem nine_first0 : firstZ nine 0 8192 = 0 := firstZ_of nine 0 8192 0 (by omega) (by rw [nine_hole]; decide) (fun i hi => absurd hi (by omega)) 0 rfl
theorem nine_first5 : firstZ nine (-5) 1 = 0 := firstZ_of nine (-5) 1 0 (by omega) (by rw [nine_hole]; decide) (fun i hi => absurd hi (by omega)) 0 rfl
theorem nine_firstN : firstZ nine 9 10 = -1 := firstZ_none nine 9 10 fun i _ => by
  rw [nine_hole]
  by_cases h : i = 9
  · simp [h]
  · rw [decide_eq_false (by omega)]; rfl
theorem nine_hasO : has nine 8192 = false := has_out _ _ (by omega)
theorem nine_hasM : has nine (-1) = false := has_out _ _ (by omega)
theorem nine_ones10 : ones nine 10 8192 8192 = [] := by
  have := ones_same nine 10 8192 0 8192 (by omega) fun i _ _ => by
    unfold ind; rw [nine_bit]
    by_cases h : i = 9
    · rw [h]; rfl
    · rw [decide_eq_false h]; simp
  rw [this]; rfl
/-- A block whose first k bytes are 255. -/
def fill (k : Nat) : Nat → Int := fun i => if i < k then 255 else 0
theorem fill_zero : fill 0 = nought := by funext i; unfold fill nought; rw [if_neg (by omega)]
theorem fill_next (k : Nat) : upd (fill k) k 255 = fill (k + 1) := by
  funext j
  unfold upd fill
  by_cases h : j = k
  · rw [if_pos h, if_pos (by omega)]
  · rw [if_neg h]
    by_cases h2 : j < k
    · rw [if_pos h2, if_pos (by omega)]
    · rw [if_neg h2, if_neg (by omega)]
def full : Nat → Int := fill 1024
theorem full_bytes : Byte full := fun i => by unfold full fill; split <;> omega
theorem full_bit (i : Nat) (h : i < 8192) : bit full i = true := by
  unfold bit full fill
  rw [if_pos (by omega)]
  exact ones_tab ⟨i % 8, by omega⟩
theorem full_ones (a b : Nat) : (ones full a b 8192).length = min b 8192 - a := by
  have h1 := ones_zeros full a b 8192
  have h2 : zeros full a b 8192 = [] := by
    have := zeros_same full a b 0 8192 (by omega) fun i _ hi => by unfold hole; rw [full_bit i hi]; simp
    rw [this]; rfl
  rw [h2] at h1
  simpa using h1
theorem full_count (a b : Int) (n : Int) (h : ((min (ins b) 8192 - ins a : Nat) : Int) = n) (w : World) :
    Calls Try.prog 16 #[.agg (blk full), .int .i64 a, .int .i64 b] w fun e w' => e = .returned (.int .i64 n) ∧ Below w.heap.size w w' := by
  have := count_any full full_bytes a b w
  rwa [ones_ins full a b 8192 (by omega), full_ones, h] at this
theorem nine_has (i : Int) (v : Bool) (h : has nine i = v) (w : World) : Calls Try.prog 10 #[.agg (blk nine), .int .i64 i] w fun e w' => e = .returned (.bool v) ∧ Below w.heap.size w w' := by
  have := has_any nine nine_bytes i w
  rwa [h] at this
theorem nine_fst (a b z : Int) (h : firstZ nine a b = z) (w : World) : Calls Try.prog 14 #[.agg (blk nine), .int .i64 a, .int .i64 b] w fun e w' => e = .returned (.int .i64 z) ∧ Below w.heap.size w w' := by
  have := first_any nine nine_bytes a b w
  rwa [h] at this
theorem nine_again (a b most : Int) (T : List Nat) (h : ones nine a b 8192 = T) (v : Value) (w : World) (hv : LiesI w v T) : Calls Try.prog 17 #[.agg (blk nine), .int .i64 a, .int .i64 b, .int .i64 most, v] w fun e w' => e = .returned (.bool true) ∧ Below w.heap.size w w' :=
  callsIn_wide.1 (again_in nine nine_bytes a b most v w (by rw [h]; exact hv) 3 (by omega))

set_option maxRecDepth 20000 in
set_option maxHeartbeats 4000000 in
theorem law_names (w : World) : Calls Try.prog 7 #[] w fun e w' => e = .returned (.bool true) ∧ Below w.heap.size w w' := by
  have z25 := zero25
  have hbd := build0
  have hset : ∀ w, Calls Try.prog 12 #[.agg (blk nought), .int .i64 9, .bool true] w fun e w' => e = .returned (.agg (blk nine)) ∧ Below w.heap.size w w' := fun w => set_any nought nought_bytes 9 true w
  have k1 := nine_has 9 true nine_has9
  have k2 := nine_has 8 false nine_has8
  have k3 := nine_has 8192 false nine_hasO
  have k4 := nine_has (-1) false nine_hasM
  have k5 := nine_fst 0 8192 0 nine_first0
  have k6 := nine_fst 9 8192 10 nine_first
  have k7 := nine_fst 9 10 (-1) nine_firstN
  have k8 := nine_fst (-5) 1 0 nine_first5
  have c1 := full_count 0 8192 8192 (by decide)
  have c2 := full_count 10 5 0 (by decide)
  have c3 := full_count (-8) 3 3 (by decide)
  have c4 := full_count 8190 9000 2 (by decide)
  have a1 := nine_again 0 8192 1 [9] nine_ones
  have a2 := nine_again 10 8192 1 [] nine_ones10
  have HFull : Hid (fill 1024 = full) := (rfl : fill 1024 = full)
  generalize nine = N at hset k1 k2 k3 k4 k5 k6 k7 k8 a1 a2
  generalize full = L at c1 c2 c3 c4 HFull
  have HZ : Hid (fill 0 = nought) := fill_zero
  go_enter Try.func7, Try.ntmps7
  go_wp2_with (first | (go_at_call 12; fail))
  refine (hset _).mono ?_
  rintro e W1 ⟨rfl, hb1⟩
  have HB1 : Hid (Below w.heap.size w W1) := hb1
  clear hb1 hset
  rw [← HZ.out] at z25
  go_wp2_with (first | refine wpList_store25_new rfl _ _ rfl _ _ rfl rfl ?_)
  go_loopw [3] (fun s3 wx => ∃ k : Nat, k ≤ 1024 ∧ s3 = .int .i64 k ∧ wx = (W1.alloc (.cells (blk N) 23)).alloc (.cells (blk (fill k)) 23)) (fun s3 _ => 1024 - (RowKit.intOf s3).toNat)
  case atStart => exact ⟨0, by omega, rfl, rfl⟩
  case round =>
    obtain ⟨k, hk, rfl, rfl⟩ := hrel
    by_cases hk2 : (k : Int) < 1024
    · have hbk := blk_get (fill k) k (by omega)
      have HN := (show Hid _ from fill_next k)
      go_wp2
      refine ⟨⟨k + 1, by omega, by go_num, ?_⟩, by simp [RowKit.intOf]; omega⟩
      rw [blk_set, HN.out]
    · have e : k = 1024 := by omega
      rw [e, HFull.out]
      have hd2 : decide ((1024 : Int) < 1024) = false := by decide
      clear hk hk2 e z25
      have g1 := heap_alloc2_old W1 (.cells (blk N) 23) (.cells (blk L) 23)
      have g2 := heap_alloc2_new W1 (.cells (blk N) 23) (.cells (blk L) 23)
      have HB2 : Hid (Below w.heap.size w ((W1.alloc (.cells (blk N) 23)).alloc (.cells (blk L) 23))) := below_next HB1.out (below_two W1 _ _)
      generalize (W1.alloc (.cells (blk N) 23)).alloc (.cells (blk L) 23) = W at g1 g2 HB2 ⊢
      have hne := later_some W
      go_wp2_with (first | refine wpList_later_in _ rfl W (Below.refl _ _) ?_)
      repeat (first
        | (go_big_quiet_want; refine quiet_load25 _ rfl _ rfl _ g1 ?_; simp only [Act.put, List.setIfInBounds_toArray, List.set_cons_succ, List.set_cons_zero]; go_big_quiet_on)
        | go_big_quiet_step (first
            | (go_at_call_of 10 (Value.int .i64 9); exact Later.call _ (k1 _))
            | (go_at_call_of 10 (Value.int .i64 8); exact Later.call _ (k2 _))
            | (go_at_call_of 10 (Value.int .i64 8192); exact Later.call _ (k3 _))
            | (go_at_call 10; exact Later.call _ (k4 _))
            | (go_at_call_of 14 (Value.int .i64 0); exact Later.call _ (k5 _))
            | (go_at_call_of 14 (Value.int .i64 10); exact Later.call _ (k7 _))
            | (go_at_call_of 14 (Value.int .i64 9); exact Later.call _ (k6 _))
            | (go_at_call 14; exact Later.call _ (k8 _))))
      refine wpQuiet_nil ?_
      rintro _ ⟨y, rfl⟩
      clear k1 k2 k3 k4 k5 k6 k7 k8
      go_wp2_with (first | refine wpList_later_in _ rfl W y.below ?_)
      repeat (first
        | (go_big_quiet_want; refine quiet_load25 _ rfl _ rfl _ g2 ?_; simp only [Act.put, List.setIfInBounds_toArray, List.set_cons_succ, List.set_cons_zero]; go_big_quiet_on)
        | go_big_quiet_step (first
            | (go_at_call_of 16 (Value.int .i64 0); exact Later.call _ (c1 _))
            | (go_at_call_of 16 (Value.int .i64 5); exact Later.call _ (c2 _))
            | (go_at_call_of 16 (Value.int .i64 3); exact Later.call _ (c3 _))
            | (go_at_call_of 16 (Value.int .i64 9000); exact Later.call _ (c4 _))))
      refine wpQuiet_nil ?_
      rintro _ ⟨y2, rfl⟩
      clear c1 c2 c3 c4
      have y1 := heap_kept g1 y2.below
      have HBy : Hid (Below w.heap.size w y2.val) := below_next HB2.out y2.below
      clear g1 g2 HB2 hne
      generalize y2.val = Y at y1 HBy ⊢
      clear y y2 W
      go_wp2_with (first | refine wpList_load25w rfl _ rfl _ rfl _ y1 ?_ | (go_at_call 17; fail))
      have hl1 : LiesI (Y.alloc (.cells #[.int .i64 9] 3)) (.slice (some ⟨Y.heap.size, 0, none⟩) 1 1) [9] := by
        refine ⟨_, _, rfl, fun i hi => ⟨Y.heap.size, rfl, by simp, ?_⟩⟩
        have e : i = 0 := by simp at hi; exact hi
        rw [e, cell_of_row _ _ _ _ 3 _ (heap_alloc_new Y (.cells #[.int .i64 9] 3))]
        rfl
      refine (a1 _ _ hl1).mono ?_
      rintro e X ⟨rfl, hx⟩
      have x1 := heap_kept (heap_kept y1 (below_new Y (.cells #[.int .i64 9] 3))) hx
      have HBx : Hid (Below w.heap.size w X) := below_next (below_next HBy.out (below_new Y (.cells #[.int .i64 9] 3))) hx
      clear hl1 a1 hx y1 HBy
      have hl2 : ∀ u : World, LiesI u (.slice none 0 0) [] := fun u => ⟨none, 0, rfl, fun i hi => absurd hi (by simp)⟩
      go_wp2_with (first | refine wpList_load25w rfl _ rfl _ rfl _ x1 ?_ | (go_at_call 17; refine (a2 _ _ (hl2 _)).mono ?_; rintro e X2 ⟨rfl, hx2⟩))
      go_ret
      exact ⟨rfl, below_next HBx.out hx2⟩
end Go.Proofs.Ytplgelhfombhkaa
