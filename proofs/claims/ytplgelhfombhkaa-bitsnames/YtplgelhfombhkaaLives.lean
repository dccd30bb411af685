/- lives: the chapter's first examples hold of the program; no condition. -/
import Derived.Test.YtplgelhfombhkaaFirst
import Derived.Deep.RegionWith
namespace Go.Proofs.Ytplgelhfombhkaa
open Go.RowKit

theorem wpList_of_quiet {P : Program} {ops : Array Oper} {C : World → Prop} {Q : Exit → Act → World → Prop} : ∀ (l : List Oper) (a : Act) (w : World), C w →
    wpQuiet P ops C (fun a' => ∀ w', C w' → Q .normal a' w') l a → wpList P ops Q l a w
  | [], _, w, hw, h => h w hw
  | o :: l, a, w, hw, h => by
    unfold wpQuiet at h
    unfold wpList
    split
    · rename_i hwt
      rw [if_pos hwt] at h
      exact .inl (Oper.wp_of_quiet hw (fun a' w' hw' hk => wpList_of_quiet l a' w' hw' hk) h)
    · rename_i hwt
      rw [if_neg hwt] at h
      exact wpList_of_quiet l _ w hw h
theorem wpList_later {ops : Array Oper} {l : List Oper} {Q : Exit → Act → World → Prop} {a : Act} {w : World} (W : World) (hW : Below W.heap.size W w)
    (h : wpQuiet Try.prog ops (fun w' => ∃ x : Later W, w' = x.val) (fun a' => ∀ w', (∃ x : Later W, w' = x.val) → Q .normal a' w') l a) : wpList Try.prog ops Q l a w :=
  wpList_of_quiet l a w ⟨⟨w, hW⟩, rfl⟩ h

/-- As it stands, where the next operation loads a block. -/
theorem wpList_later_at {ops : Array Oper} {l : List Oper} {Q : Exit → Act → World → Prop} {a : Act} {o : Oper} (x : Operand) (_ : o.op = .load 23 x) (W : World)
    (h : wpQuiet Try.prog ops (fun w' => ∃ x : Later W, w' = x.val) (fun a' => ∀ w', (∃ x : Later W, w' = x.val) → Q .normal a' w') (o :: l) a) : wpList Try.prog ops Q (o :: l) a W :=
  wpList_later W (Below.refl _ _) h

theorem nought_bytes : Byte nought := fun i => by unfold nought; omega
theorem bit_nought (i : Nat) : bit nought i = false := by unfold bit nought; simp
/-- The example's block: bit 9 alone. -/
def nine : Nat → Int := setB nought 9 true
theorem nine_bytes : Byte nine := byte_setB nought_bytes _ _
theorem nine_bit (i : Nat) : bit nine i = decide (i = 9) := by
  unfold nine
  have e : setB nought 9 true = setN nought 9 true := setB_in nought 9 true (by omega)
  rw [e, bit_setN, bit_nought]
  by_cases h : i = 9 <;> simp [h]
theorem nine_one : nine 1 = 2 := by decide +kernel
theorem nine_has9 : has nine 9 = true := by
  have := has_in nine 9 (by omega)
  rw [nine_bit] at this
  exact this
theorem nine_has8 : has nine 8 = false := by
  have := has_in nine 8 (by omega)
  rw [nine_bit] at this
  exact this
theorem nine_first : firstZ nine 9 8192 = 10 := by
  refine firstZ_some nine 9 8192 10 (by omega) ?_ fun i hi => ?_
  · unfold hole; rw [nine_bit]; decide
  · unfold hole; rw [nine_bit]
    by_cases h : i = 9
    · simp [h]
    · rw [decide_eq_false (by omega)]; rfl
theorem nine_ones : ones nine 0 8192 8192 = [9] := by
  have h1 : ones nine 0 8192 8192 = ones nine 0 8192 10 := ones_same _ _ _ 10 8192 (by omega) fun i h1 _ => by
    unfold ind; rw [nine_bit, decide_eq_false (show ¬ i = 9 by omega)]; simp
  have h2 : ones nine 0 8192 9 = ones nine 0 8192 0 := ones_same _ _ _ 0 9 (by omega) fun i _ h1 => by
    unfold ind; rw [nine_bit, decide_eq_false (show ¬ i = 9 by omega)]; simp
  rw [h1, ones_succ, h2]
  unfold ind
  rw [nine_bit]
  rfl

set_option maxRecDepth 20000 in
set_option maxHeartbeats 1000000 in
theorem lives_any (w : World) : Calls Try.prog 19 #[] w fun e w' => e = .returned (.bool true) ∧ Below w.heap.size w w' := by
  have z25 := zero25
  have hset : ∀ w, Calls Try.prog 12 #[.agg (blk nought), .int .i64 9, .bool true] w fun e w' => e = .returned (.agg (blk nine)) ∧ Below w.heap.size w w' := fun w => set_any nought nought_bytes 9 true w
  have k1 : ∀ w, Calls Try.prog 10 #[.agg (blk nine), .int .i64 9] w fun e w' => e = .returned (.bool true) ∧ Below w.heap.size w w' := fun w => by
    have := has_any nine nine_bytes 9 w
    rwa [nine_has9] at this
  have k2 : ∀ w, Calls Try.prog 10 #[.agg (blk nine), .int .i64 8] w fun e w' => e = .returned (.bool false) ∧ Below w.heap.size w w' := fun w => by
    have := has_any nine nine_bytes 8 w
    rwa [nine_has8] at this
  have k3 : ∀ w, Calls Try.prog 14 #[.agg (blk nine), .int .i64 9, .int .i64 8192] w fun e w' => e = .returned (.int .i64 10) ∧ Below w.heap.size w w' := fun w => by
    have := first_any nine nine_bytes 9 8192 w
    rwa [nine_first] at this
  have k4 : ∀ w, Calls Try.prog 16 #[.agg (blk nine), .int .i64 0, .int .i64 8192] w fun e w' => e = .returned (.int .i64 1) ∧ Below w.heap.size w w' := fun w => by
    have := count_any nine nine_bytes 0 8192 w
    rwa [nine_ones] at this
  have hb : (blk nine)[1]? = some (.int .u8 2) := by rw [blk_get _ _ (by omega), nine_one]
  generalize nine = N at hset k1 k2 k3 k4 hb
  go_enter Try.func19, Try.ntmps19
  go_wp2_with (first | refine wpList_load25 rfl _ rfl _ rfl _ (heap_alloc_new _ _) ?_ | (go_at_call 12; fail))
  refine (hset _).mono ?_
  rintro e W1 ⟨rfl, hb1⟩
  have hb1' : Hid (Below w.heap.size w W1) := ((Below.refl _ _).alloc (Nat.le_refl _) _).trans (hb1.mono (by simp))
  clear hb1
  go_wp2_with (first | refine wpList_store25_new rfl _ _ rfl _ _ rfl rfl ?_ | refine wpList_later_at _ rfl _ ?_)
  have hW1 := heap_alloc_new W1 (.cells (blk N) 23)
  have HB : Hid (Below w.heap.size w (W1.alloc (.cells (blk N) 23))) := hb1'.out.alloc hb1'.out.size _
  generalize W1.alloc (.cells (blk N) 23) = W at hW1 HB ⊢
  have hne := later_some W
  repeat (first
    | (go_big_quiet_want; refine quiet_load25 _ rfl _ rfl _ hW1 ?_; simp only [Act.put, List.setIfInBounds_toArray, List.set_cons_succ, List.set_cons_zero]; go_big_quiet_on)
    | go_big_quiet_step (first
        | (go_at_call_of 10 (Value.int .i64 9); exact Later.call _ (k1 _))
        | (go_at_call_of 10 (Value.int .i64 8); exact Later.call _ (k2 _))
        | (go_at_call 14; exact Later.call _ (k3 _))
        | (go_at_call 16; exact Later.call _ (k4 _))))
  refine wpQuiet_nil ?_
  rintro _ ⟨y, rfl⟩
  go_wp2
  go_ret
  exact ⟨rfl, HB.out.trans (y.below.mono HB.out.size)⟩
end Go.Proofs.Ytplgelhfombhkaa
