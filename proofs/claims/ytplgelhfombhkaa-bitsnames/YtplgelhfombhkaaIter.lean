/- What All hands back: gone over, it gives the bits that are set, rising; or a beginning of them, where it is stopped. -/
import Derived.Test.YtplgelhfombhkaaAll
import Derived.RangeFuncNested
import Derived.RangeFuncBound
import Derived.RangeFuncCalls
import Derived.RangeFuncLeaves
import Derived.RangeFuncFrom
import Derived.Shelf.Abstract
import Derived.Shelf.RegionOpen
import Derived.OwnWalkIn
import Derived.TacticsInMore
import Derived.LoopNIn
import Derived.LoopIn
import Derived.Sort.BigQuietIn
namespace Go.Proofs.Ytplgelhfombhkaa
open Go.RowKit Go.Shelf Go.Lib

attribute [local go_sem] Oper.semAt_some
theorem wide_fn (f : FuncId) : Fence.wide.fn f := trivial
theorem wide_depth : Fence.wide.depth = none := rfl
attribute [local simp, local go_sem] wide_fn wide_depth

/-- What is left of byte k behind its first t bits. -/
def Rest (f : Nat → Int) (a b : Int) (k t x : Nat) : Prop := ∀ j, j < 8 → x.testBit j = (decide (t ≤ j) && ind f a b (8 * k + j))
theorem rest_start (f : Nat → Int) (a b k : Nat) (h : a / 8 ≤ k) : Rest f a b k 0 (byteV f k a b) := fun j hj => by
  rw [byte_bit f k a b j h hj]; simp
theorem rest_next {f : Nat → Int} {a b : Int} {k t x : Nat} (h : Rest f a b k t x) (hx : x < 256) (h0 : x ≠ 0) :
    trailingZeros8 x < 8 ∧ t ≤ trailingZeros8 x ∧ ones f a b (8 * k + (trailingZeros8 x + 1)) = ones f a b (8 * k + t) ++ [8 * k + trailingZeros8 x] ∧ Rest f a b k (trailingZeros8 x + 1) (x &&& (255 - 2 ^ trailingZeros8 x)) ∧ x &&& (255 - 2 ^ trailingZeros8 x) < x := by
  obtain ⟨h1, h2, h3⟩ := tz_is x hx h0
  generalize trailingZeros8 x = j at h1 h2 h3
  have hj := h j h1
  rw [h2] at hj
  have hj' := hj.symm
  simp only [Bool.and_eq_true, decide_eq_true_eq] at hj'
  refine ⟨h1, hj'.1, ?_, fun i hi => ?_, ?_⟩
  · rw [← Nat.add_assoc, ones_succ, hj'.2, if_pos rfl]
    congr 1
    refine ones_same f a b (8 * k + t) (8 * k + j) (by omega) fun i hi1 hi2 => ?_
    have := h (i - 8 * k) (by omega)
    rw [h3 _ (by omega), decide_eq_true (show t ≤ i - 8 * k by omega), Bool.true_and, show 8 * k + (i - 8 * k) = i by omega] at this
    exact this.symm
  · rw [Nat.testBit_and, mask_tab ⟨j, h1⟩ ⟨i, hi⟩]
    simp only
    by_cases e : j = i
    · subst e
      rw [decide_eq_false (show ¬ ¬ j = j by simp), decide_eq_false (show ¬ j + 1 ≤ j by omega)]; simp
    · rw [decide_eq_true e, Bool.and_true]
      by_cases hl : i < j
      · rw [h3 i hl, decide_eq_false (show ¬ j + 1 ≤ i by omega)]; rfl
      · rw [h i hi, decide_eq_true (show j + 1 ≤ i by omega), decide_eq_true (show t ≤ i by omega)]
  · have hle : x &&& (255 - 2 ^ j) ≤ x := Nat.and_le_left
    have hne : x &&& (255 - 2 ^ j) ≠ x := fun e => by
      have := congrArg (fun y => y.testBit j) e
      simp only [Nat.testBit_and] at this
      rw [mask_tab ⟨j, h1⟩ ⟨j, h1⟩, h2] at this
      simp at this
    omega
theorem rest_end {f : Nat → Int} {a b : Int} {k t : Nat} (h : Rest f a b k t 0) (ht : t ≤ 8) : ones f a b (8 * (k + 1)) = ones f a b (8 * k + t) :=
  ones_same f a b (8 * k + t) (8 * (k + 1)) (by omega) fun i h1 h2 => by
    have := h (i - 8 * k) (by omega)
    rw [Nat.zero_testBit, decide_eq_true (show t ≤ i - 8 * k by omega), Bool.true_and, show 8 * k + (i - 8 * k) = i by omega] at this
    exact this.symm
theorem ones_prefix (f : Nat → Int) (a b : Int) (c d : Nat) : ones f a b c <+: ones f a b (c + d) := by
  induction d with
  | zero => exact List.prefix_refl _
  | succ d ih => rw [← Nat.add_assoc, ones_succ]; exact ih.trans (List.prefix_append _ _)
theorem andNot_is (x j k : Nat) (hx : x < 256) (hj : j < 8) : bits BinOp.andNot IntKind.u8 (x : Int) (mskV (8 * k + j)) = ((x &&& (255 - 2 ^ j) : Nat) : Int) := by
  have hp := pow_lt j hj
  unfold mskV
  rw [show (8 * k + j) % 8 = j by omega]
  exact u8_andNot_nat x (2 ^ j) hx hp
theorem grown_drewN (w : World) (n : Nat) (row : Option Nat) : w.grownBy (w.drewN n) row := ⟨rfl, rfl, rfl, Nat.le_refl _, fun _ _ _ => rfl⟩

set_option maxRecDepth 100000 in
set_option maxHeartbeats 4000000 in
theorem iter_in (f : Nat → Int) (hf : Byte f) (a b n : Nat) (hx : a ≤ 8192) (hy : b ≤ 8192) (l n₀ ga gb g : Nat) (hga : ga < n₀) (hgb : gb < n₀) (hg : g < n₀) (J Jx : List Nat → World → Prop)
    (hY : ∀ pre x W, J pre W → pre.length < 8192 → YieldAt Fence.wide (n - 1) Try.prog l #[.int .i64 (x : Nat)] W fun e W' =>
      (e = .returned (.bool true) ∧ J (pre ++ [x]) W' ∧ Below n₀ W W') ∨ (e = .returned (.bool false) ∧ Jx (pre ++ [x]) W'))
    (hJd : ∀ pre W d, J pre W → J pre (W.drewN d))
    (W : World) (hca : W.cell? ⟨ga, 0, none⟩ = some (.int .i64 a)) (hcb : W.cell? ⟨gb, 0, none⟩ = some (.int .i64 b)) (hcg : W.heap[g]? = some (.cells (blk f) 23)) (h0 : J [] W) :
    CallsIn Fence.wide n Try.prog 28 #[.func (.yield l) #[] #[], .pointer (some ⟨ga, 0, none⟩), .pointer (some ⟨gb, 0, none⟩), .pointer (some ⟨g, 0, none⟩)] W fun e W' => (∃ v, e = .returned v) ∧
      ((∃ ys, ys = ones f a b 8192 ∧ J ys W') ∨ (∃ pre, pre <+: ones f a b 8192 ∧ Jx pre W')) := by
  have HB : Hid (∀ k, bits BinOp.and IntKind.u8 (f k) ((spanV k a b : Nat) : Int) = ((byteV f k a b : Nat) : Int)) := fun k => byte_int f hf k a b
  have HY := (show Hid _ from hY)
  have HJd := (show Hid _ from hJd)
  clear hf hY hJd
  refine callsIn_of_wp Try.func28 rfl trivial ?_ rfl
  simp only [Try.ntmps28, List.size_toArray, List.length_cons, List.length_nil, Nat.reduceAdd, Nat.reduceSub, Array.replicate_succ, Array.replicate_zero, List.push_toArray, List.append_toArray, List.nil_append, List.cons_append]
  gi_wp2
  gi_loopw [5] (fun s5 wr => ∃ k : Nat, a / 8 ≤ k ∧ k ≤ 1024 ∧ s5 = .int .i64 k ∧ J (ones f a b (8 * k)) wr ∧ Below n₀ W wr) (fun s5 _ => 1024 - (RowKit.intOf s5).toNat)
  case atStart =>
    refine ⟨a / 8, Nat.le_refl _, by omega, by go_num, ?_, Below.refl _ _⟩
    rw [ones_start f a b _ (by omega)]
    exact h0
  case round =>
    obtain ⟨k, hk1, hk2, rfl, hJ, hbel⟩ := hrel
    have hca' := (hbel.cell (p := ⟨ga, 0, none⟩) hga).trans hca
    have hcb' := (hbel.cell (p := ⟨gb, 0, none⟩) hgb).trans hcb
    have hcg' := (hbel.block g hg).trans hcg
    by_cases hkb : 8 * k < b
    · have hc := blk_cell hcg' k (by omega)
      have hb := HB.out k
      have hkb' : 8 * (k : Int) < b := by omega
      have HJ := (show Hid _ from hJ)
      clear hJ
      gi_wp2
      gi_big_quiet_th (first | (gi_at_call 24; exact CallsIn.quiet_of (callsIn_wide.2 (span_any k a b _ hx hy hk1 hkb))))
      have HJ1 : Hid (J (ones f a b (8 * k)) (wr.drewN nq)) := HJd.out _ _ _ HJ.out
      have HB1 : Hid (Below n₀ W (wr.drewN nq)) := below_drewN hbel _
      clear HJ hbel hca' hcb' hcg' hc
      generalize wr.drewN nq = W1 at HJ1 HB1 ⊢
      gi_wp2
      gi_loopw [6] (fun s6 wx => ∃ t x : Nat, t ≤ 8 ∧ x < 256 ∧ s6 = .int .u8 x ∧ Rest f a b k t x ∧ J (ones f a b (8 * k + t)) wx ∧ Below n₀ W wx) (fun s6 _ => (RowKit.intOf s6).toNat)
      case atStart => exact ⟨0, byteV f k a b, by omega, byte_lt f k a b, rfl, rest_start f a b k hk1, HJ1.out, HB1.out⟩
      case round =>
        obtain ⟨t, x, ht, hx8, rfl, hrest, hJ, hbel⟩ := hrel
        by_cases hx0 : x = 0
        · subst hx0
          have HE : Hid (ones f a b (8 * (k + 1)) = ones f a b (8 * k + t)) := rest_end hrest ht
          clear hrest hb
          gi_wp2
          go_roundw
          case rel => exact ⟨k + 1, by omega, by omega, by go_num, by rw [HE.out]; exact hJ, hbel⟩
          case measure => simp [RowKit.intOf]; omega
        · obtain ⟨r1, r2, r3, r4, r5⟩ := rest_next hrest hx8 hx0
          have htz := fun w => tz_nat x w hx8
          have hbits := fun j hj => andNot_is x j k hx8 hj
          have hbits := hbits _ r1
          have hmk := fun w => mask_any (8 * k + trailingZeros8 x) w (by omega)
          generalize trailingZeros8 x = j at *
          obtain ⟨fn, tmps, assign, body, hy', hR⟩ := HY.out _ (8 * k + j) wr hJ (by have := ones_len f a b (8 * k + t); omega)
          have e8 : ((8 * k + j : Nat) : Int) = 8 * (k : Int) + (j : Int) := by omega
          rw [e8] at hy' hmk
          have HR3 := (show Hid _ from r3)
          have HR4 := (show Hid _ from r4)
          have HR5 := (show Hid _ from r5)
          clear hJ r3 r4 r5 hrest hb
          have hx0' : ((x : Nat) : Int) ≠ 0 := by omega
          gi_wp2_with (first | (gi_at_call 25; refine (callsIn_wide.2 (htz _)).mono ?_; rintro e w1 ⟨rfl, rfl⟩))
          refine hR.mono ?_
          rintro e W3 (⟨rfl, hJ3, hk3⟩ | ⟨rfl, hJx3⟩)
          · clear hy'
            gi_wp2_with (first | (gi_at_call 22; refine (callsIn_wide.2 (hmk _)).mono ?_; rintro e w1 ⟨rfl, rfl⟩))
            exact ⟨⟨j + 1, x &&& (255 - 2 ^ j), by omega, Nat.lt_trans HR5.out hx8, rfl, HR4.out, by rw [HR3.out]; exact hJ3, hbel.trans hk3⟩, by simp only [RowKit.intOf, Int.toNat_natCast]; exact HR5.out⟩
          · gi_wp2
            refine bodyPost_ret (results_none rfl _ _ _) rfl ?_
            refine ⟨⟨_, rfl⟩, .inr ⟨_, ?_, hJx3⟩⟩
            rw [← HR3.out]
            have := ones_prefix f a b (8 * k + (j + 1)) (8192 - (8 * k + (j + 1)))
            rwa [show 8 * k + (j + 1) + (8192 - (8 * k + (j + 1))) = 8192 by omega] at this
    · have HE : Hid (ones f a b 8192 = ones f a b (8 * k)) := ones_end f a b (8 * k) (by omega) (by omega)
      have hkb' : ¬ 8 * (k : Int) < b := by omega
      gi_wp2
      go_end0
      exact ⟨⟨_, rfl⟩, .inl (by rw [HE.out]; exact hJ)⟩

/-- What All hands back gives the bits that are set, in every world behind. -/
theorem iter_stops (f : Nat → Int) (hf : Byte f) (x y : Int) (n n₀ ga gb g : Nat) (w : World) (hn₀ : n₀ ≤ w.heap.size) (hga : ga < n₀) (hgb : gb < n₀) (hg : g < n₀)
    (hca : w.cell? ⟨ga, 0, none⟩ = some (.int .i64 (ins x))) (hcb : w.cell? ⟨gb, 0, none⟩ = some (.int .i64 (ins y))) (hcg : w.heap[g]? = some (.cells (blk f) 23)) :
    SeqStopsK Fence.wide n Try.prog 28 #[.pointer (some ⟨ga, 0, none⟩), .pointer (some ⟨gb, 0, none⟩), .pointer (some ⟨g, 0, none⟩)] (fun x : Nat => #[Value.int .i64 (x : Int)]) (Below n₀) (fun ys => ys = ones f x y 8192) (fun pre => pre <+: ones f x y 8192) 8192 w := fun l J Jx W hW hJ _ hY h0 => by
  rw [ones_ins f x y 8192 (by omega)]
  have hW' := hW.mono hn₀
  exact iter_in f hf (ins x) (ins y) n (ins_le x) (ins_le y) l n₀ ga gb g hga hgb hg J Jx hY (fun pre V d h => hJ pre V _ none h (grown_drewN V d none) (fun r e => by cases e)) W
    ((hW'.cell (p := ⟨ga, 0, none⟩) hga).trans hca) ((hW'.cell (p := ⟨gb, 0, none⟩) hgb).trans hcb) ((hW'.block g hg).trans hcg) h0
end Go.Proofs.Ytplgelhfombhkaa
