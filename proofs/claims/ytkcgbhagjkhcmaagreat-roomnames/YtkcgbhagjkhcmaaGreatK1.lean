/- Several texts joined, each with its own remark; no condition. -/
import Derived.WalkKit
import Derived.WalkSpells
import Derived.WalkLawsBesides
import Derived.Deep.WholeRow
import Derived.Laws.StructEq
import Derived.Test.YtkcgbhagjkhcmaaGreatRows
import Derived.BigQuiet
import Derived.Lib.BitFns
import Derived.Laws.BitsAllLaws
import Derived.Lib.Strings
import Derived.Lib.Slices
import Derived.Lib.Small
import Derived.Lib.Walk
import Derived.StillTailTactics
/- What a block of 1024 bytes is as cells: a plain function from places to numbers, laid as cells; no condition. -/
namespace Go.Proofs.YtkcgbhagjkhcmaaGreatV
open Go.RowKit

/-- The cells of a block whose byte at place i is f i. -/
def blk (f : Nat → Int) : Array Value := ((List.range 1024).map fun i => Value.int .u8 (f i)).toArray
/-- f, but for x at place i. -/
def upd (f : Nat → Int) (i : Nat) (x : Int) : Nat → Int := fun j => if j = i then x else f j
def nought : Nat → Int := fun _ => 0

theorem blk_size (f : Nat → Int) : (blk f).size = 1024 := by simp [blk]
theorem blk_get (f : Nat → Int) (i : Nat) (h : i < 1024) : (blk f)[i]? = some (.int .u8 (f i)) := by
  simp [blk, h]
theorem blk_set (f : Nat → Int) (i : Nat) (x : Int) : (blk f).setIfInBounds i (.int .u8 x) = blk (upd f i x) := by
  apply Array.ext_getElem?
  intro j
  by_cases hj : j < 1024
  · rw [blk_get _ _ hj, Array.getElem?_setIfInBounds]
    by_cases e : i = j
    · subst e; simp [blk_size, hj, upd]
    · have e' : ¬ j = i := fun q => e q.symm
      simp [e, e', blk_get _ _ hj, upd]
  · rw [Array.getElem?_eq_none (by rw [Array.size_setIfInBounds, blk_size]; omega), Array.getElem?_eq_none (by rw [blk_size]; omega)]
theorem blk_one (f : Nat → Int) : (blk f).all (·.oneCell') = true := by
  rw [Array.all_eq_true_iff_forall_mem]
  intro v hv
  simp [blk] at hv
  obtain ⟨i, _, rfl⟩ := hv
  rfl
end Go.Proofs.YtkcgbhagjkhcmaaGreatV
/- The block type of this program over its translation: loads, stores and results of whole blocks; fits; no condition. -/
namespace Go.Proofs.YtkcgbhagjkhcmaaGreatV
open Go.RowKit

theorem info25 : (Tryz.prog.info? 76).map (fun i => (i.zero, i.size)) = some (some (.agg (blk nought)), 1024) := by kernel_rfl
theorem zero25 : ∀ w, (zeroValue 76).run Tryz.prog w = .ok (.agg (blk nought)) w := (zero_of_info info25).1
theorem size25 : (Tryz.prog.info? 76).map (·.size) = some 1024 := (zero_of_info info25).2

theorem wpList_load25 {ops : Array Oper} {rest : List Oper} {o : Oper} {a : Act} {w : World} {Q : Exit → Act → World → Prop} (hgd : o.guard = none) (x : Operand) (ho : o.op = .load 76 x)
    (g : Nat) (hx : a.eval x = .pointer (some ⟨g, 0, none⟩)) (f : Nat → Int) (hg : w.heap[g]? = some (.cells (blk f) 76))
    (h : wpList Tryz.prog ops Q rest (a.put o.dst (.agg (blk f))) w) : wpList Tryz.prog ops Q (o :: rest) a w :=
  wpList_load_row hgd 76 x ho g hx 76 (blk f) (0, 0) _ hg Tryz.underlying76 rfl (by rw [blk_size]; exact size25) h
theorem wpList_store25 {ops : Array Oper} {rest : List Oper} {o : Oper} {a : Act} {w : World} {Q : Exit → Act → World → Prop} (hgd : o.guard = none) (x y : Operand) (ho : o.op = .store 76 x y)
    (g : Nat) (f : Nat → Int) (hx : a.eval x = .pointer (some ⟨g, 0, none⟩)) (hy : a.eval y = .agg (blk f)) (f0 : Nat → Int) (hg : w.heap[g]? = some (.cells (blk f0) 76))
    (h : wpList Tryz.prog ops Q rest (a.put o.dst undef) (w.setRow g (blk f))) : wpList Tryz.prog ops Q (o :: rest) a w :=
  wpList_plain hgd fun _ hK => by
    unfold Oper.wp execOp
    simp only [ho, hx, hy, Instr.storeAt, Instr.sureAddr, Sem.run_bind, Sem.run_pure, Result.andThen_ok, run_storeVar_row w g 76 76 (blk f0) (blk f) hg (by rw [blk_size]; exact size25) (by rw [blk_size, blk_size]) (blk_one f)]
    exact hK _ _ h

/-- A result that is a whole block in a cell. -/
theorem ret25 {fn : Func} {p : Tmp} {R : Ending → World → Prop} {a : Act} {w : World} (h : fn.results = #[.cell p 76]) (g : Nat) (f : Nat → Int)
    (hp : a.tmps.getD p undef = .pointer (some ⟨g, 0, none⟩)) (hg : w.heap[g]? = some (.cells (blk f) 76)) (hd : a.defers = []) (hR : R (.returned (.agg (blk f))) w) : bodyPost Tryz.prog fn R .ret a w :=
  bodyPost_ret (results_cell_row h a.tmps w g 76 (blk f) (0, 0) _ hp hg Tryz.underlying76 rfl (by rw [blk_size]; exact size25)) hd hR
theorem below_setRow {B : Nat} {a w : World} (h : Below B a w) {g : Nat} (hg : B ≤ g) (cs : Array Value) : Below B a (w.setRow g cs) :=
  h.trans ⟨rfl, rfl, rfl, by simp, fun k hk => setRow_other w g k cs (by omega)⟩
theorem below2 (w : World) (a b : Obj) (g : Nat) (hg : w.heap.size ≤ g) (cs : Array Value) : Below w.heap.size w (((w.alloc a).alloc b).setRow g cs) :=
  below_setRow (((Below.refl _ _).alloc (Nat.le_refl _) _).alloc (by simp) _) hg _
end Go.Proofs.YtkcgbhagjkhcmaaGreatV
/- Two blocks held against each other: equal just where every byte is; for every two blocks. -/
namespace Go.Proofs.YtkcgbhagjkhcmaaGreatV
open Go.RowKit

end Go.Proofs.YtkcgbhagjkhcmaaGreatV
/- Regions whose order is drawn and whose calls make memory but turn none that was there: one walk in the text's order serves every order. -/
namespace Go.Proofs.YtkcgbhagjkhcmaaGreatV
open Go.RowKit

end Go.Proofs.YtkcgbhagjkhcmaaGreatV
/- The bits of a block, as plain functions: asked, set, counted, the first that is clear; no program. -/
namespace Go.Proofs.YtkcgbhagjkhcmaaGreatV
open Go.Lib

/-- Every place holds a byte. -/
def Byte (f : Nat → Int) : Prop := ∀ i, 0 ≤ f i ∧ f i ≤ 255
/-- Bit i of the block. -/
def bit (f : Nat → Int) (i : Nat) : Bool := (f (i / 8)).toNat.testBit (i % 8)
def has (f : Nat → Int) (i : Int) : Bool := decide (0 ≤ i ∧ i < 8192) && bit f i.toNat
def orN (x : Int) (m : Nat) : Int := ((x.toNat ||| 2 ^ m : Nat) : Int)
def clN (x : Int) (m : Nat) : Int := ((x.toNat &&& (255 - 2 ^ m) : Nat) : Int)
def setN (f : Nat → Int) (k : Nat) (on : Bool) : Nat → Int := upd f (k / 8) (if on then orN (f (k / 8)) (k % 8) else clN (f (k / 8)) (k % 8))
def setB (f : Nat → Int) (i : Int) (on : Bool) : Nat → Int := if 0 ≤ i ∧ i < 8192 then setN f i.toNat on else f
def mskV (k : Nat) : Int := ((2 ^ (k % 8) : Nat) : Int)
/-- Bit i is 1 and one of those from a to b. -/
def ind (f : Nat → Int) (a b : Int) (i : Nat) : Bool := decide (a ≤ (i : Int) ∧ (i : Int) < b) && bit f i
def hole (f : Nat → Int) (a b : Int) (i : Nat) : Bool := decide (a ≤ (i : Int) ∧ (i : Int) < b) && !bit f i
/-- Those of the bits from a to b that are 1, of the numbers below c. -/
def ones (f : Nat → Int) (a b : Int) (c : Nat) : List Nat := (List.range c).filter (ind f a b)
def firstZ (f : Nat → Int) (a b : Int) : Int := match (List.range 8192).find? (hole f a b) with | some m => (m : Int) | none => -1
def ins (x : Int) : Nat := (max 0 (min x 8192)).toNat
def spanV (k a b : Nat) : Nat := (255 * 2 ^ (a - 8 * k) % 256) &&& (255 / 2 ^ (8 - min 8 (b - 8 * k)))

theorem ins_le (x : Int) : ins x ≤ 8192 := by unfold ins; omega
theorem ins_int (x : Int) : ((ins x : Nat) : Int) = max 0 (min x 8192) := by unfold ins; omega
theorem ind_ins (f : Nat → Int) (a b : Int) (i : Nat) (hi : i < 8192) : ind f a b i = ind f (ins a) (ins b) i := by
  unfold ind
  have : (a ≤ (i : Int) ∧ (i : Int) < b) ↔ (((ins a : Nat) : Int) ≤ (i : Int) ∧ (i : Int) < ((ins b : Nat) : Int)) := by rw [ins_int, ins_int]; omega
  rw [decide_eq_decide.2 this]
theorem hole_ins (f : Nat → Int) (a b : Int) (i : Nat) (hi : i < 8192) : hole f a b i = hole f (ins a) (ins b) i := by
  unfold hole
  have : (a ≤ (i : Int) ∧ (i : Int) < b) ↔ (((ins a : Nat) : Int) ≤ (i : Int) ∧ (i : Int) < ((ins b : Nat) : Int)) := by rw [ins_int, ins_int]; omega
  rw [decide_eq_decide.2 this]
theorem ones_ins (f : Nat → Int) (a b : Int) (c : Nat) (hc : c ≤ 8192) : ones f a b c = ones f (ins a) (ins b) c := by
  unfold ones
  exact List.filter_congr fun i hi => ind_ins f a b i (by have := List.mem_range.1 hi; omega)
theorem find_congr {α : Type} {p q : α → Bool} : ∀ l : List α, (∀ x, x ∈ l → p x = q x) → l.find? p = l.find? q
  | [], _ => rfl
  | x :: l, h => by
    rw [List.find?_cons, List.find?_cons, h x (by simp), find_congr l fun y hy => h y (by simp [hy])]
theorem firstZ_ins (f : Nat → Int) (a b : Int) : firstZ f a b = firstZ f (ins a) (ins b) := by
  unfold firstZ
  rw [find_congr (List.range 8192) fun i hi => hole_ins f a b i (List.mem_range.1 hi)]

theorem ones_succ (f : Nat → Int) (a b : Int) (c : Nat) : ones f a b (c + 1) = ones f a b c ++ if ind f a b c then [c] else [] := by
  unfold ones
  rw [List.range_succ, List.filter_append]
  by_cases h : ind f a b c = true <;> simp [h]
theorem ones_none (f : Nat → Int) (a b : Int) (c : Nat) : ∀ d, (∀ i, c ≤ i → i < c + d → ind f a b i = false) → ones f a b (c + d) = ones f a b c
  | 0, _ => rfl
  | d + 1, h => by
    rw [← Nat.add_assoc, ones_succ, h (c + d) (by omega) (by omega), ones_none f a b c d fun i h1 h2 => h i h1 (by omega)]
    simp
theorem ones_same (f : Nat → Int) (a b : Int) (c e : Nat) (he : c ≤ e) (h : ∀ i, c ≤ i → i < e → ind f a b i = false) : ones f a b e = ones f a b c := by
  obtain ⟨d, rfl⟩ := Nat.exists_eq_add_of_le he
  exact ones_none f a b c d h
theorem ones_start (f : Nat → Int) (a : Nat) (b : Int) (c : Nat) (h : c ≤ a) : ones f a b c = [] := by
  have := ones_none f a b 0 c fun i _ h2 => by unfold ind; rw [decide_eq_false (by omega)]; rfl
  rw [Nat.zero_add] at this
  rw [this]; rfl
theorem ones_end (f : Nat → Int) (a : Int) (b c : Nat) (h : b ≤ c) (hc : c ≤ 8192) : ones f a b 8192 = ones f a b c :=
  ones_same f a b c 8192 hc fun i h1 _ => by unfold ind; rw [decide_eq_false (by omega)]; rfl
theorem ones_len (f : Nat → Int) (a b : Int) (c : Nat) : (ones f a b c).length ≤ c := by
  unfold ones
  exact Nat.le_trans (List.length_filter_le _ _) (by simp)

theorem span_tab : ∀ p : Fin 8, ∀ q : Fin 9, ∀ j : Fin 8, Nat.testBit ((255 * 2 ^ p.val % 256) &&& (255 / 2 ^ (8 - q.val))) j.val = decide (p.val ≤ j.val ∧ j.val < q.val) := by decide +kernel
theorem span_lt (k a b : Nat) : spanV k a b < 256 := by
  unfold spanV
  exact Nat.lt_of_le_of_lt Nat.and_le_left (Nat.mod_lt _ (by decide))
theorem span_bit (k a b j : Nat) (h1 : a / 8 ≤ k) (hj : j < 8) : (spanV k a b).testBit j = decide (a ≤ 8 * k + j ∧ 8 * k + j < b) := by
  have := span_tab ⟨a - 8 * k, by omega⟩ ⟨min 8 (b - 8 * k), by omega⟩ ⟨j, hj⟩
  unfold spanV
  rw [this]
  exact decide_eq_decide.2 (by simp only; omega)
theorem tz_tab : ∀ x : Fin 256, x.val ≠ 0 → trailingZeros8 x.val < 8 ∧ x.val.testBit (trailingZeros8 x.val) = true ∧ ∀ j : Fin 8, j.val < trailingZeros8 x.val → x.val.testBit j.val = false := by decide +kernel
theorem tz_is (x : Nat) (h : x < 256) (h0 : x ≠ 0) : trailingZeros8 x < 8 ∧ x.testBit (trailingZeros8 x) = true ∧ ∀ j, j < trailingZeros8 x → x.testBit j = false := by
  obtain ⟨h1, h2, h3⟩ := tz_tab ⟨x, h⟩ h0
  exact ⟨h1, h2, fun j hj => h3 ⟨j, by simp only at h1; omega⟩ hj⟩
theorem pop_tab : ∀ x : Fin 256, onesCount x.val = ((List.range 8).filter fun j => x.val.testBit j).length := by decide +kernel
theorem pop_is (x : Nat) (h : x < 256) : onesCount x = ((List.range 8).filter fun j => x.testBit j).length := pop_tab ⟨x, h⟩
theorem mask_tab : ∀ m : Fin 8, ∀ j : Fin 8, (255 - 2 ^ m.val).testBit j.val = decide (¬ m.val = j.val) := by decide +kernel
theorem pow_lt (m : Nat) (h : m < 8) : 2 ^ m < 256 := by
  have : 2 ^ m ≤ 2 ^ 7 := Nat.pow_le_pow_right (by decide) (by omega)
  omega
theorem or_lt (x : Int) (m : Nat) (hx : 0 ≤ x ∧ x ≤ 255) (hm : m < 8) : 0 ≤ orN x m ∧ orN x m ≤ 255 := by
  have := Nat.or_lt_two_pow (n := 8) (x := x.toNat) (y := 2 ^ m) (by omega) (pow_lt m hm)
  unfold orN; omega
theorem cl_lt (x : Int) (m : Nat) (hx : 0 ≤ x ∧ x ≤ 255) : 0 ≤ clN x m ∧ clN x m ≤ 255 := by
  have := Nat.and_le_left (n := x.toNat) (m := 255 - 2 ^ m)
  unfold clN; omega
theorem or_bit (x : Int) (m j : Nat) : (orN x m).toNat.testBit j = (decide (m = j) || x.toNat.testBit j) := by
  unfold orN
  rw [Int.toNat_natCast, Nat.testBit_or, Nat.testBit_two_pow, Bool.or_comm]
theorem cl_bit (x : Int) (m j : Nat) (hm : m < 8) (hj : j < 8) : (clN x m).toNat.testBit j = (decide (¬ m = j) && x.toNat.testBit j) := by
  unfold clN
  rw [Int.toNat_natCast, Nat.testBit_and, mask_tab ⟨m, hm⟩ ⟨j, hj⟩, Bool.and_comm]
theorem and_ne (x m : Nat) : (x &&& 2 ^ m != 0) = x.testBit m := by
  rw [nat_bit]
  rw [Nat.testBit_eq_decide_div_mod_eq]
  by_cases h : x / 2 ^ m % 2 = 1
  · simp [h]
  · have h0 : x / 2 ^ m % 2 = 0 := by omega
    simp [h0]

theorem byte_setN {f : Nat → Int} (hf : Byte f) (k : Nat) (on : Bool) : Byte (setN f k on) := by
  intro i
  unfold setN upd
  by_cases h : i = k / 8
  · rw [if_pos h]
    cases on
    · exact cl_lt _ _ (hf _)
    · exact or_lt _ _ (hf _) (by omega)
  · rw [if_neg h]; exact hf i
theorem byte_setB {f : Nat → Int} (hf : Byte f) (i : Int) (on : Bool) : Byte (setB f i on) := by
  unfold setB; split
  · exact byte_setN hf _ _
  · exact hf
theorem bit_setN (f : Nat → Int) (k : Nat) (on : Bool) (j : Nat) : bit (setN f k on) j = if j = k then on else bit f j := by
  unfold bit setN upd
  by_cases h : j / 8 = k / 8
  · rw [if_pos h]
    by_cases e : j = k
    · subst e
      rw [if_pos rfl]
      cases on
      · rw [if_neg (by simp), cl_bit _ _ _ (by omega) (by omega)]; simp
      · rw [if_pos rfl, or_bit]; simp
    · rw [if_neg e]
      have e' : ¬ k % 8 = j % 8 := by omega
      cases on
      · rw [if_neg (by simp), cl_bit _ _ _ (by omega) (by omega)]; simp [e', h]
      · rw [if_pos rfl, or_bit]; simp [e', h]
  · rw [if_neg h, if_neg (by rintro rfl; exact h rfl)]
theorem has_in (f : Nat → Int) (k : Nat) (hk : k < 8192) : has f k = bit f k := by
  unfold has; rw [decide_eq_true (by omega)]; simp
theorem has_out (f : Nat → Int) (i : Int) (hk : ¬ (0 ≤ i ∧ i < 8192)) : has f i = false := by
  unfold has; rw [decide_eq_false hk]; rfl
theorem setB_in (f : Nat → Int) (k : Nat) (on : Bool) (hk : k < 8192) : setB f k on = setN f k on := by
  unfold setB; rw [if_pos (by omega)]; simp
theorem setB_out (f : Nat → Int) (i : Int) (on : Bool) (hk : ¬ (0 ≤ i ∧ i < 8192)) : setB f i on = f := by
  unfold setB; rw [if_neg hk]
theorem has_setB (f : Nat → Int) (i j : Int) (on : Bool) : has (setB f i on) j = if i = j ∧ 0 ≤ i ∧ i < 8192 then on else has f j := by
  by_cases hj : 0 ≤ j ∧ j < 8192
  · obtain ⟨n, rfl⟩ := Int.eq_ofNat_of_zero_le hj.1
    rw [has_in _ _ (by omega), has_in _ _ (by omega)]
    by_cases hi : 0 ≤ i ∧ i < 8192
    · obtain ⟨m, rfl⟩ := Int.eq_ofNat_of_zero_le hi.1
      rw [setB_in _ _ _ (by omega), bit_setN]
      by_cases e : n = m
      · subst e; rw [if_pos rfl, if_pos ⟨rfl, hi⟩]
      · rw [if_neg e, if_neg (by omega)]
    · rw [setB_out _ _ _ hi, if_neg (by omega)]
  · rw [has_out _ _ hj, has_out _ _ hj, if_neg (by omega)]

/-- What the first clear bit is. -/
theorem firstZ_some (f : Nat → Int) (a b : Int) (m : Nat) (hm : m < 8192) (h : hole f a b m = true) (hl : ∀ i, i < m → hole f a b i = false) : firstZ f a b = m := by
  have : (List.range 8192).find? (hole f a b) = some m := by
    rw [List.find?_range_eq_some]
    exact ⟨h, by simpa using hm, fun j hj => by simp [hl j hj]⟩
  unfold firstZ; rw [this]
theorem firstZ_none (f : Nat → Int) (a b : Int) (hl : ∀ i, i < 8192 → hole f a b i = false) : firstZ f a b = -1 := by
  have : (List.range 8192).find? (hole f a b) = none := by
    rw [List.find?_eq_none]
    intro i hi
    simp [hl i (List.mem_range.1 hi)]
  unfold firstZ; rw [this]
end Go.Proofs.YtkcgbhagjkhcmaaGreatV
/- The small functions of bits: exists, mask, inside, span; the two of math/bits; for every argument that they are called at. -/
namespace Go.Proofs.YtkcgbhagjkhcmaaGreatV
open Go.RowKit

theorem exists_any (a : Int) (w : World) : Calls Tryz.prog 97 #[.int .i64 a] w fun e w' => e = .returned (.bool (decide (0 ≤ a ∧ a < 8192))) ∧ w' = w := by
  by_cases h0 : 0 ≤ a
  · by_cases h1 : a < 8192
    · go_enter Tryz.func97, Tryz.ntmps97
      go_wp2
      go_ret
      exact ⟨by simp [h0, h1], rfl⟩
    · go_enter Tryz.func97, Tryz.ntmps97
      go_wp2
      go_ret
      exact ⟨by simp [h1], rfl⟩
  · go_enter Tryz.func97, Tryz.ntmps97
    go_wp2
    go_ret
    exact ⟨by simp; omega, rfl⟩

theorem ret_int {k : IntKind} {a b : Int} (h : a = b) : Ending.returned (.int k a) = .returned (.int k b) := by rw [h]
theorem wrap_is (y : Int) : wrap64 y = (y + 9223372036854775808) % 18446744073709551616 - 9223372036854775808 := by
  first | rfl | (unfold wrap64; omega)
set_option maxRecDepth 20000 in
theorem tz_any (x : Int) (w : World) (h0 : 0 ≤ x) (h1 : x ≤ 255) :
    Calls Tryz.prog 99 #[.int .u8 x] w fun e w' => e = .returned (.int .i64 (Lib.trailingZeros8 x.toNat)) ∧ w' = w := by
  go_enter Tryz.func99, Tryz.ntmps99
  go_wp2
  go_ret
  exact ⟨ret_int ((wrap_is _).trans (Lib.ntz8_int x h0 h1)), rfl⟩
set_option maxRecDepth 20000 in
theorem pop_any (x : Int) (w : World) (h0 : 0 ≤ x) (h1 : x ≤ 255) :
    Calls Tryz.prog 74 #[.int .u8 x] w fun e w' => e = .returned (.int .i64 (Lib.onesCount x.toNat)) ∧ w' = w := by
  go_enter Tryz.func74, Tryz.ntmps74
  go_wp2
  go_ret
  exact ⟨ret_int ((wrap_is _).trans (Lib.pop8_int x h0 h1)), rfl⟩

theorem mask_any (k : Nat) (w : World) (hk : k < 8192) :
    Calls Tryz.prog 98 #[.int .i64 k] w fun e w' => e = .returned (.int .u8 (mskV k)) ∧ w' = w := by
  unfold mskV
  go_enter Tryz.func98, Tryz.ntmps98
  go_wp2
  go_ret
  refine ⟨ret_int ?_, rfl⟩
  have h := pow_lt (k % 8) (by omega)
  have e : ((2 ^ (k % 8) : Nat) : Int) = (2 : Int) ^ (k % 8) := Int.natCast_pow _ _
  rw [← e]
  generalize 2 ^ (k % 8) = p at h
  omega
theorem inside_any (a : Int) (w : World) :
    Calls Tryz.prog 73 #[.int .i64 a] w fun e w' => e = .returned (.int .i64 (ins a)) ∧ w' = w := by
  rw [ins_int]
  go_enter Tryz.func73, Tryz.ntmps73
  go_wp2
  go_ret
  exact ⟨rfl, rfl⟩
theorem span_int (k a b : Nat) (h3 : 8 * k < b) : bits BinOp.and IntKind.u8 (255 * 2 ^ (max 0 ((a : Int) - 8 * k)).toNat % 256) (255 / 2 ^ (8 - min 8 ((b : Int) - 8 * k)).toNat) = ((spanV k a b : Nat) : Int) := by
  have e1 : (max 0 ((a : Int) - 8 * k)).toNat = a - 8 * k := by omega
  have e2 : (8 - min 8 ((b : Int) - 8 * k)).toNat = 8 - min 8 (b - 8 * k) := by omega
  rw [e1, e2]
  have e3 : (255 * 2 ^ (a - 8 * k) % 256 : Int) = ((255 * 2 ^ (a - 8 * k) % 256 : Nat) : Int) := by rw [Int.natCast_emod, Int.natCast_mul, Int.natCast_pow]; rfl
  have e4 : (255 / 2 ^ (8 - min 8 (b - 8 * k)) : Int) = ((255 / 2 ^ (8 - min 8 (b - 8 * k)) : Nat) : Int) := by rw [Int.natCast_ediv, Int.natCast_pow]; rfl
  rw [e3, e4, u8_and_nat _ _ (Nat.mod_lt _ (by decide)) (Nat.lt_of_le_of_lt (Nat.div_le_self _ _) (by decide))]
  rfl
theorem span_any (k a b : Nat) (w : World) (h0 : a ≤ 8192) (h1 : b ≤ 8192) (h2 : a / 8 ≤ k) (h3 : 8 * k < b) :
    Calls Tryz.prog 75 #[.int .i64 k, .int .i64 a, .int .i64 b] w fun e w' => e = .returned (.int .u8 (spanV k a b : Nat)) ∧ ∃ d, w' = w.drewN d := by
  rw [← span_int k a b h3]
  go_enter Tryz.func75, Tryz.ntmps75
  go_wp2
  go_quiet (fail)
  go_wp2
  go_ret
  exact ⟨rfl, _, rfl⟩

theorem and_mask (f : Nat → Int) (hf : Byte f) (k : Nat) : (bits BinOp.and IntKind.u8 (f (k / 8)) (mskV k) != 0) = bit f k := by
  unfold mskV
  have h := hf (k / 8)
  have hm := pow_lt (k % 8) (by omega)
  unfold bit
  rw [← and_ne]
  generalize 2 ^ (k % 8) = p at hm
  rw [u8_and _ _ (by omega) (by omega) (by omega) (by omega), Int.toNat_natCast]
  rw [Bool.eq_iff_iff]
  simp only [bne_iff_ne, ne_eq]
  omega
set_option maxRecDepth 20000 in
set_option maxHeartbeats 400000 in
theorem has_inW (f : Nat → Int) (hf : Byte f) (k : Nat) (w : World) (hk : k < 8192) :
    Calls Tryz.prog 60 #[.agg (blk f), .int .i64 k] w fun e w' => e = .returned (.bool (bit f k)) ∧ Below w.heap.size w w' := by
  have hb0 := blk_get f (k / 8) (by omega)
  rw [← and_mask f hf k]
  have HF : Hid (Byte f) := hf
  clear hf
  have hd : decide (0 ≤ (k : Int) ∧ (k : Int) < 8192) = true := decide_eq_true (by omega)
  have hex := fun w => exists_any (k : Int) w
  rw [hd] at hex
  go_enter Tryz.func60, Tryz.ntmps60
  go_wp2
  go_quiet (first | (go_at_call 97; exact (hex _).mono fun _ _ h => ⟨h.1, ⟨_, h.2⟩⟩) | (go_at_call 98; exact (mask_any k _ hk).mono fun _ _ h => ⟨h.1, ⟨_, h.2⟩⟩))
  go_wp2
  go_ret
  exact ⟨rfl, below_drewN ((Below.refl _ _).alloc (Nat.le_refl _) _) _⟩
end Go.Proofs.YtkcgbhagjkhcmaaGreatV
/- Has and Set of bits: for every block of bytes, every number and either way. -/
namespace Go.Proofs.YtkcgbhagjkhcmaaGreatV
open Go.RowKit

set_option maxRecDepth 20000 in
set_option maxHeartbeats 400000 in
theorem has_outW (f : Nat → Int) (i : Int) (w : World) (hk : ¬ (0 ≤ i ∧ i < 8192)) :
    Calls Tryz.prog 60 #[.agg (blk f), .int .i64 i] w fun e w' => e = .returned (.bool false) ∧ Below w.heap.size w w' := by
  have hex := fun w => exists_any i w
  rw [decide_eq_false hk] at hex
  clear hk
  go_enter Tryz.func60, Tryz.ntmps60
  go_wp2
  go_quiet (first | (go_at_call 97; exact (hex _).mono fun _ _ h => ⟨h.1, ⟨_, h.2⟩⟩))
  go_wp2
  go_ret
  exact ⟨rfl, below_drewN ((Below.refl _ _).alloc (Nat.le_refl _) _) _⟩
theorem has_any (f : Nat → Int) (hf : Byte f) (i : Int) (w : World) :
    Calls Tryz.prog 60 #[.agg (blk f), .int .i64 i] w fun e w' => e = .returned (.bool (has f i)) ∧ Below w.heap.size w w' := by
  by_cases h : 0 ≤ i ∧ i < 8192
  · obtain ⟨k, rfl⟩ := Int.eq_ofNat_of_zero_le h.1
    rw [has_in f k (by omega)]
    exact has_inW f hf k w (by omega)
  · rw [has_out f i h]
    exact has_outW f i w h

theorem or_is (f : Nat → Int) (hf : Byte f) (k : Nat) : bits BinOp.or IntKind.u8 (f (k / 8)) (mskV k) = orN (f (k / 8)) (k % 8) := by
  unfold mskV
  have h := hf (k / 8)
  have hm := pow_lt (k % 8) (by omega)
  unfold orN
  generalize 2 ^ (k % 8) = p at hm
  rw [u8_or _ _ (by omega) (by omega) (by omega) (by omega), Int.toNat_natCast]
theorem cl_is (f : Nat → Int) (hf : Byte f) (k : Nat) : bits BinOp.andNot IntKind.u8 (f (k / 8)) (mskV k) = clN (f (k / 8)) (k % 8) := by
  unfold mskV
  have h := hf (k / 8)
  have hm := pow_lt (k % 8) (by omega)
  unfold clN
  generalize 2 ^ (k % 8) = p at hm
  rw [u8_andNot _ _ (by omega) (by omega) (by omega) (by omega), Int.toNat_natCast]
theorem blk_cell {w : World} {g : Nat} {f : Nat → Int} {t : TypeId} (h : w.heap[g]? = some (.cells (blk f) t)) (i : Nat) (hi : i < 1024) : w.cell? ⟨g, i, none⟩ = some (.int .u8 (f i)) := by
  rw [cell_of_row w g i _ t _ h]; exact blk_get f i hi
theorem blk_stored {w : World} {g : Nat} {f : Nat → Int} {t : TypeId} (h : w.heap[g]? = some (.cells (blk f) t)) (i : Nat) (x : Int) : (w.setCell ⟨g, i, none⟩ (.int .u8 x)).heap[g]? = some (.cells (blk (upd f i x)) t) := by
  have hlt := (Array.getElem?_eq_some_iff.1 h).1
  have h' : w.heap[g] = .cells (blk f) t := (Array.getElem?_eq_some_iff.1 h).2
  simp [World.setCell, hlt, Array.getElem_modify_self, h', blk_set]
theorem wpList_storeIn {ops : Array Oper} {rest : List Oper} {o : Oper} {a : Act} {w : World} {Q : Exit → Act → World → Prop} (hgd : o.guard = none) (x y : Operand) (ho : o.op = .store 5 x y)
    (g i : Nat) (v : Int) (f : Nat → Int) (hx : a.eval x = .pointer (some ⟨g, i, none⟩)) (hy : a.eval y = .int .u8 v) (hg : w.heap[g]? = some (.cells (blk f) 76)) (hi : i < 1024)
    (h : wpList Tryz.prog ops Q rest (a.put o.dst undef) (w.setCell ⟨g, i, none⟩ (.int .u8 v))) : wpList Tryz.prog ops Q (o :: rest) a w :=
  wpList_plain hgd fun _ hK => by
    have hc := blk_cell hg i hi
    have hf : w.frozen? ⟨g, i, none⟩ = false := frozen_of_row w g i _ 76 hg
    unfold Oper.wp execOp
    simp only [ho, hx, hy]
    simp [go_sem, hc, hf]
    exact hK _ _ h
set_option maxRecDepth 20000 in
set_option maxHeartbeats 400000 in
theorem set_on (f : Nat → Int) (hf : Byte f) (k : Nat) (w : World) (hk : k < 8192) :
    Calls Tryz.prog 68 #[.agg (blk f), .int .i64 k, .bool true] w fun e w' => e = .returned (.agg (blk (setN f k true))) ∧ Below w.heap.size w w' := by
  have z25 := zero25
  have HF : Hid (bits BinOp.or IntKind.u8 (f (k / 8)) (mskV k) = orN (f (k / 8)) (k % 8)) := or_is f hf k
  have HS : Hid (setN f k true = upd f (k / 8) (orN (f (k / 8)) (k % 8))) := (rfl : setN f k true = _)
  clear hf
  have hd : decide (0 ≤ (k : Int) ∧ (k : Int) < 8192) = true := decide_eq_true (by omega)
  have hex := fun w => exists_any (k : Int) w
  rw [hd] at hex
  have hmk := fun w => mask_any k w hk
  go_enter Tryz.func68, Tryz.ntmps68
  go_wp2_with (go_at_call 97; refine (hex _).mono ?_; rintro e w' ⟨rfl, rfl⟩)
  have h1 : ((w.alloc (.cells (blk f) 76)).alloc (.cells (blk nought) 76)).drew.heap[w.heap.size]? = some (.cells (blk f) 76) := heap_alloc2_old _ _ _
  have h2 : ((w.alloc (.cells (blk f) 76)).alloc (.cells (blk nought) 76)).drew.heap[w.heap.size + 1]? = some (.cells (blk nought) 76) := heap_alloc2_new _ _ _
  have hc := blk_cell h1 (k / 8) (by omega)
  have H3 : Hid (Below w.heap.size w ((w.alloc (.cells (blk f) 76)).alloc (.cells (blk nought) 76)).drew) := (((Below.refl _ _).alloc (Nat.le_refl _) _).alloc (by simp) _).drew
  have hwr : IntKind.i64.wrap ((k : Int) / 8) = ((k / 8 : Nat) : Int) := by rw [IntKind.wrap_i64]; omega
  have hk8 : k / 8 < 1024 := by omega
  generalize k / 8 = q at hwr hk8 hc HF HS
  have hk9 : (q : Int) < 1024 := by omega
  generalize ((w.alloc (.cells (blk f) 76)).alloc (.cells (blk nought) 76)) = X at h1 h2 hc H3 ⊢
  refine wp_region_still_tail 8 (by kernel_rfl) (by kernel_rfl) ?_
  simp only [List.take_succ_cons, List.take_zero, List.drop_succ_cons, List.drop_zero]
  change wpStill _ _ (World.drew X) (fun a' => wpList _ _ _ _ a' (World.drew X)) _ _
  generalize World.drew X = Y at h1 h2 hc H3 ⊢
  repeat (first | still_step | still_call (hmk _))
  refine wpStill_nil ?_
  refine wpList_storeIn rfl _ _ rfl w.heap.size q _ f rfl rfl h1 hk8 ?_
  have h4 := blk_stored h1 q (bits BinOp.or IntKind.u8 (f q) (mskV k))
  have h5 : (Y.setCell ⟨w.heap.size, q, none⟩ (.int .u8 (bits BinOp.or IntKind.u8 (f q) (mskV k)))).heap[w.heap.size + 1]? = some (.cells (blk nought) 76) := (heap_setCell_other _ _ _ _ (by simp)).trans h2
  have H6 : Hid (Below w.heap.size w (Y.setCell ⟨w.heap.size, q, none⟩ (.int .u8 (bits BinOp.or IntKind.u8 (f q) (mskV k))))) := H3.out.setCell (p := ⟨w.heap.size, q, none⟩) (Nat.le_refl _) _
  have H4 : Hid (blk (upd f q (bits BinOp.or IntKind.u8 (f q) (mskV k))) = blk (setN f k true)) := (by rw [HF.out, HS.out] : _ = _)
  rw [H4.out] at h4
  generalize Y.setCell ⟨w.heap.size, q, none⟩ (.int .u8 (bits BinOp.or IntKind.u8 (f q) (mskV k))) = Z at h4 h5 H6 ⊢
  clear h1 h2 hc H3 HF HS H4
  simp only [Act.put]
  go_wp2_with (first | refine wpList_load25 rfl _ rfl _ rfl _ h4 ?_ | refine wpList_store25 rfl _ _ rfl _ _ rfl rfl _ h5 ?_)
  exact ret25 rfl (w.heap.size + 1) _ rfl (setRow_heap _ _ _ _ _ _ h5) rfl ⟨rfl, below_setRow H6.out (by omega) _⟩
set_option maxRecDepth 20000 in
set_option maxHeartbeats 400000 in
theorem set_off (f : Nat → Int) (hf : Byte f) (k : Nat) (w : World) (hk : k < 8192) :
    Calls Tryz.prog 68 #[.agg (blk f), .int .i64 k, .bool false] w fun e w' => e = .returned (.agg (blk (setN f k false))) ∧ Below w.heap.size w w' := by
  have z25 := zero25
  have HF : Hid (bits BinOp.andNot IntKind.u8 (f (k / 8)) (mskV k) = clN (f (k / 8)) (k % 8)) := cl_is f hf k
  have HS : Hid (setN f k false = upd f (k / 8) (clN (f (k / 8)) (k % 8))) := (rfl : setN f k false = _)
  clear hf
  have hd : decide (0 ≤ (k : Int) ∧ (k : Int) < 8192) = true := decide_eq_true (by omega)
  have hex := fun w => exists_any (k : Int) w
  rw [hd] at hex
  have hmk := fun w => mask_any k w hk
  go_enter Tryz.func68, Tryz.ntmps68
  go_wp2_with (go_at_call 97; refine (hex _).mono ?_; rintro e w' ⟨rfl, rfl⟩)
  have h1 : ((w.alloc (.cells (blk f) 76)).alloc (.cells (blk nought) 76)).drew.heap[w.heap.size]? = some (.cells (blk f) 76) := heap_alloc2_old _ _ _
  have h2 : ((w.alloc (.cells (blk f) 76)).alloc (.cells (blk nought) 76)).drew.heap[w.heap.size + 1]? = some (.cells (blk nought) 76) := heap_alloc2_new _ _ _
  have hc := blk_cell h1 (k / 8) (by omega)
  have H3 : Hid (Below w.heap.size w ((w.alloc (.cells (blk f) 76)).alloc (.cells (blk nought) 76)).drew) := (((Below.refl _ _).alloc (Nat.le_refl _) _).alloc (by simp) _).drew
  have hwr : IntKind.i64.wrap ((k : Int) / 8) = ((k / 8 : Nat) : Int) := by rw [IntKind.wrap_i64]; omega
  have hk8 : k / 8 < 1024 := by omega
  generalize k / 8 = q at hwr hk8 hc HF HS
  have hk9 : (q : Int) < 1024 := by omega
  generalize ((w.alloc (.cells (blk f) 76)).alloc (.cells (blk nought) 76)) = X at h1 h2 hc H3 ⊢
  refine wp_region_still_tail 8 (by kernel_rfl) (by kernel_rfl) ?_
  simp only [List.take_succ_cons, List.take_zero, List.drop_succ_cons, List.drop_zero]
  change wpStill _ _ (World.drew X) (fun a' => wpList _ _ _ _ a' (World.drew X)) _ _
  generalize World.drew X = Y at h1 h2 hc H3 ⊢
  repeat (first | still_step | still_call (hmk _))
  refine wpStill_nil ?_
  refine wpList_storeIn rfl _ _ rfl w.heap.size q _ f rfl rfl h1 hk8 ?_
  have h4 := blk_stored h1 q (bits BinOp.andNot IntKind.u8 (f q) (mskV k))
  have h5 : (Y.setCell ⟨w.heap.size, q, none⟩ (.int .u8 (bits BinOp.andNot IntKind.u8 (f q) (mskV k)))).heap[w.heap.size + 1]? = some (.cells (blk nought) 76) := (heap_setCell_other _ _ _ _ (by simp)).trans h2
  have H6 : Hid (Below w.heap.size w (Y.setCell ⟨w.heap.size, q, none⟩ (.int .u8 (bits BinOp.andNot IntKind.u8 (f q) (mskV k))))) := H3.out.setCell (p := ⟨w.heap.size, q, none⟩) (Nat.le_refl _) _
  have H4 : Hid (blk (upd f q (bits BinOp.andNot IntKind.u8 (f q) (mskV k))) = blk (setN f k false)) := (by rw [HF.out, HS.out] : _ = _)
  rw [H4.out] at h4
  generalize Y.setCell ⟨w.heap.size, q, none⟩ (.int .u8 (bits BinOp.andNot IntKind.u8 (f q) (mskV k))) = Z at h4 h5 H6 ⊢
  clear h1 h2 hc H3 HF HS H4
  simp only [Act.put]
  go_wp2_with (first | refine wpList_load25 rfl _ rfl _ rfl _ h4 ?_ | refine wpList_store25 rfl _ _ rfl _ _ rfl rfl _ h5 ?_)
  exact ret25 rfl (w.heap.size + 1) _ rfl (setRow_heap _ _ _ _ _ _ h5) rfl ⟨rfl, below_setRow H6.out (by omega) _⟩

set_option maxRecDepth 20000 in
set_option maxHeartbeats 400000 in
theorem set_out (f : Nat → Int) (i : Int) (on : Bool) (w : World) (hk : ¬ (0 ≤ i ∧ i < 8192)) :
    Calls Tryz.prog 68 #[.agg (blk f), .int .i64 i, .bool on] w fun e w' => e = .returned (.agg (blk f)) ∧ Below w.heap.size w w' := by
  have z25 := zero25
  have hex := fun w => exists_any i w
  rw [decide_eq_false hk] at hex
  clear hk
  go_enter Tryz.func68, Tryz.ntmps68
  go_wp2_with (first | (go_at_call 97; refine (hex _).mono ?_; rintro e w' ⟨rfl, rfl⟩) | refine wpList_load25 rfl _ rfl _ rfl _ (heap_alloc2_old _ _ _) ?_ | refine wpList_store25 rfl _ _ rfl _ _ rfl rfl _ (heap_alloc2_new _ _ _) ?_)
  exact ret25 rfl (w.heap.size + 1) _ rfl (setRow_heap _ _ _ _ _ _ (heap_alloc2_new _ _ _)) rfl ⟨rfl, below2 _ _ _ _ (by omega) _⟩
theorem set_any (f : Nat → Int) (hf : Byte f) (i : Int) (on : Bool) (w : World) :
    Calls Tryz.prog 68 #[.agg (blk f), .int .i64 i, .bool on] w fun e w' => e = .returned (.agg (blk (setB f i on))) ∧ Below w.heap.size w w' := by
  by_cases h : 0 ≤ i ∧ i < 8192
  · obtain ⟨k, rfl⟩ := Int.eq_ofNat_of_zero_le h.1
    rw [setB_in f k on (by omega)]
    cases on
    · exact set_off f hf k w (by omega)
    · exact set_on f hf k w (by omega)
  · rw [setB_out f i on h]
    exact set_out f i on w h
end Go.Proofs.YtkcgbhagjkhcmaaGreatV
/- First and Count of bits: the least clear bit, how many are set; for every block of bytes and every span. -/
namespace Go.Proofs.YtkcgbhagjkhcmaaGreatV
open Go.RowKit Go.Lib

/-- What the byte k holds of the span's bits. -/
def byteV (f : Nat → Int) (k a b : Nat) : Nat := (f k).toNat &&& spanV k a b
def freeV (f : Nat → Int) (k a b : Nat) : Nat := ((f k).toNat ^^^ 255) &&& spanV k a b
theorem byte_lt (f : Nat → Int) (k a b : Nat) : byteV f k a b < 256 := Nat.lt_of_le_of_lt Nat.and_le_right (span_lt k a b)
theorem free_lt (f : Nat → Int) (k a b : Nat) : freeV f k a b < 256 := Nat.lt_of_le_of_lt Nat.and_le_right (span_lt k a b)
theorem byte_bit (f : Nat → Int) (k a b j : Nat) (h1 : a / 8 ≤ k) (hj : j < 8) : (byteV f k a b).testBit j = ind f a b (8 * k + j) := by
  unfold byteV ind bit
  rw [Nat.testBit_and, span_bit k a b j h1 hj, show (8 * k + j) / 8 = k by omega, show (8 * k + j) % 8 = j by omega, Bool.and_comm]
  congr 1
  exact decide_eq_decide.2 (by omega)
theorem ones_tab : ∀ j : Fin 8, Nat.testBit 255 j.val = true := by decide +kernel
theorem free_bit (f : Nat → Int) (k a b j : Nat) (h1 : a / 8 ≤ k) (hj : j < 8) : (freeV f k a b).testBit j = hole f a b (8 * k + j) := by
  unfold freeV hole bit
  rw [Nat.testBit_and, Nat.testBit_xor, ones_tab ⟨j, hj⟩, span_bit k a b j h1 hj, show (8 * k + j) / 8 = k by omega, show (8 * k + j) % 8 = j by omega, Bool.and_comm]
  congr 1
  · exact decide_eq_decide.2 (by omega)
  · simp
theorem ones_byte (f : Nat → Int) (k a b : Nat) (h1 : a / 8 ≤ k) : (ones f a b (8 * (k + 1))).length = (ones f a b (8 * k)).length + onesCount (byteV f k a b) := by
  rw [pop_is _ (byte_lt f k a b)]
  have : ∀ d, d ≤ 8 → (ones f a b (8 * k + d)).length = (ones f a b (8 * k)).length + ((List.range d).filter fun j => (byteV f k a b).testBit j).length := by
    intro d
    induction d with
    | zero => intro _; simp
    | succ d ih =>
      intro hd
      rw [← Nat.add_assoc, ones_succ, List.length_append, ih (by omega), List.range_succ, List.filter_append, List.length_append, ← byte_bit f k a b d h1 (by omega), Nat.add_assoc]
      congr 2
      by_cases h : (byteV f k a b).testBit d = true <;> simp [h]
  exact this 8 (by omega)
theorem hole_low (f : Nat → Int) (a b i : Nat) (h : i < a) : hole f a b i = false := by
  unfold hole; rw [decide_eq_false (by omega)]; rfl
theorem hole_high (f : Nat → Int) (a b i : Nat) (h : b ≤ i) : hole f a b i = false := by
  unfold hole; rw [decide_eq_false (by omega)]; rfl
theorem hole_byte (f : Nat → Int) (k a b : Nat) (h1 : a / 8 ≤ k) (hz : freeV f k a b = 0) (h : ∀ i, i < 8 * k → hole f a b i = false) : ∀ i, i < 8 * (k + 1) → hole f a b i = false := by
  intro i hi
  by_cases h2 : i < 8 * k
  · exact h i h2
  · have := free_bit f k a b (i - 8 * k) h1 (by omega)
    rw [show 8 * k + (i - 8 * k) = i by omega, hz, Nat.zero_testBit] at this
    exact this.symm
theorem hole_found (f : Nat → Int) (k a b : Nat) (h1 : a / 8 ≤ k) (hk : k < 1024) (hz : freeV f k a b ≠ 0) (h : ∀ i, i < 8 * k → hole f a b i = false) : firstZ f a b = ((8 * k + trailingZeros8 (freeV f k a b) : Nat) : Int) := by
  obtain ⟨t1, t2, t3⟩ := tz_is _ (free_lt f k a b) hz
  refine firstZ_some f a b _ (by omega) ?_ fun i hi => ?_
  · rw [← free_bit f k a b _ h1 t1]; exact t2
  · by_cases h2 : i < 8 * k
    · exact h i h2
    · have := free_bit f k a b (i - 8 * k) h1 (by omega)
      rw [show 8 * k + (i - 8 * k) = i by omega, t3 _ (by omega)] at this
      exact this.symm
theorem free_int (f : Nat → Int) (hf : Byte f) (k a b : Nat) : bits BinOp.and IntKind.u8 (bits BinOp.xor IntKind.u8 255 (f k)) ((spanV k a b : Nat) : Int) = ((freeV f k a b : Nat) : Int) := by
  have h := hf k
  have h2 := span_lt k a b
  have e : bits BinOp.xor IntKind.u8 255 (f k) = (((f k).toNat ^^^ 255 : Nat) : Int) := by rw [Nat.xor_comm]; exact u8_xor 255 (f k) (by omega) (by omega) (by omega) (by omega)
  rw [e, u8_and_nat _ _ (Nat.xor_lt_two_pow (n := 8) (by omega) (by omega)) h2]
  rfl
theorem byte_int (f : Nat → Int) (hf : Byte f) (k a b : Nat) : bits BinOp.and IntKind.u8 (f k) ((spanV k a b : Nat) : Int) = ((byteV f k a b : Nat) : Int) := by
  have h := hf k
  have h2 := span_lt k a b
  rw [u8_and (f k) _ (by omega) (by omega) (by omega) (by omega), Int.toNat_natCast]
  rfl

theorem pop_nat (x : Nat) (w : World) (h : x < 256) : Calls Tryz.prog 74 #[.int .u8 x] w fun e w' => e = .returned (.int .i64 (onesCount x : Nat)) ∧ w' = w := by
  have := pop_any x w (by omega) (by omega)
  rwa [Int.toNat_natCast] at this
theorem tz_nat (x : Nat) (w : World) (h : x < 256) : Calls Tryz.prog 99 #[.int .u8 x] w fun e w' => e = .returned (.int .i64 (trailingZeros8 x : Nat)) ∧ w' = w := by
  have := tz_any x w (by omega) (by omega)
  rwa [Int.toNat_natCast] at this

set_option maxRecDepth 20000 in
set_option maxHeartbeats 1000000 in
theorem count_any (f : Nat → Int) (hf : Byte f) (x y : Int) (w : World) :
    Calls Tryz.prog 36 #[.agg (blk f), .int .i64 x, .int .i64 y] w fun e w' => e = .returned (.int .i64 ((ones f x y 8192).length : Nat)) ∧ Below w.heap.size w w' := by
  rw [ones_ins f x y 8192 (by omega)]
  have hx := ins_le x
  have hy := ins_le y
  have hix := fun w => inside_any x w
  have hiy := fun w => inside_any y w
  generalize ins x = a at *
  generalize ins y = b at *
  have HB : Hid (∀ k, bits BinOp.and IntKind.u8 (f k) ((spanV k a b : Nat) : Int) = ((byteV f k a b : Nat) : Int)) := fun k => byte_int f hf k a b
  clear hf
  go_enter Tryz.func36, Tryz.ntmps36
  go_wp2_with fail
  refine (hix _).mono ?_
  rintro e w1 ⟨rfl, rfl⟩
  go_wp2_with fail
  refine (hiy _).mono ?_
  rintro e w1 ⟨rfl, rfl⟩
  clear hix hiy
  have h1 := heap_alloc_new w (.cells (blk f) 76)
  have H2 : Hid (Below w.heap.size w (w.alloc (.cells (blk f) 76))) := (Below.refl _ _).alloc (Nat.le_refl _) _
  generalize w.alloc (.cells (blk f) 76) = W at h1 H2 ⊢
  go_wp2
  go_loopw [7, 8] (fun s7 s8 wx => ∃ k : Nat, a / 8 ≤ k ∧ k ≤ 1024 ∧ s8 = .int .i64 k ∧ s7 = .int .i64 ((ones f a b (8 * k)).length : Nat) ∧ wx.heap[w.heap.size]? = some (.cells (blk f) 76) ∧ Below w.heap.size w wx) (fun _ s8 _ => 1024 - (RowKit.intOf s8).toNat)
  case atStart =>
    refine ⟨a / 8, Nat.le_refl _, by omega, by go_num, ?_, h1, H2.out⟩
    rw [ones_start f a b _ (by omega)]
    rfl
  case round =>
    obtain ⟨k, hk1, hk2, rfl, rfl, hh, hbel⟩ := hrel
    by_cases hkb : 8 * k < b
    · have hc := blk_cell hh k (by omega)
      have hl := ones_len f a b (8 * k)
      have hb := HB.out k
      have hlt := byte_lt f k a b
      have hpl := onesCount_le8 ⟨byteV f k a b, hlt⟩
      have hnext := ones_byte f k a b hk1
      have HN : Hid ((ones f a b (8 * (k + 1))).length = (ones f a b (8 * k)).length + onesCount (byteV f k a b)) := hnext
      have hkb' : 8 * (k : Int) < b := by omega
      clear hnext
      generalize (ones f a b (8 * k)).length = L at *
      simp only at hpl
      go_wp2
      go_quiet (first | (go_at_call 75; exact Calls.quiet_of (span_any k a b _ hx hy hk1 hkb)) | (go_at_call 74; exact Calls.quiet_of_same (pop_nat _ _ hlt)))
      go_wp2
      refine ⟨⟨k + 1, by omega, by omega, by go_num, ?_, hh, below_drewN hbel _⟩, by simp [RowKit.intOf]; omega⟩
      rw [HN.out]
      go_num
    · have HE : Hid (ones f a b 8192 = ones f a b (8 * k)) := ones_end f a b (8 * k) (by omega) (by omega)
      have hkb' : ¬ 8 * (k : Int) < b := by omega
      have hl := ones_len f a b (8 * k)
      go_wp2
      go_ret
      exact ⟨by rw [HE.out]; rfl, hbel⟩

set_option maxRecDepth 20000 in
set_option maxHeartbeats 1000000 in
theorem first_any (f : Nat → Int) (hf : Byte f) (x y : Int) (w : World) :
    Calls Tryz.prog 63 #[.agg (blk f), .int .i64 x, .int .i64 y] w fun e w' => e = .returned (.int .i64 (firstZ f x y)) ∧ Below w.heap.size w w' := by
  rw [firstZ_ins f x y]
  have hx := ins_le x
  have hy := ins_le y
  have hix := fun w => inside_any x w
  have hiy := fun w => inside_any y w
  generalize ins x = a at *
  generalize ins y = b at *
  have HB : Hid (∀ k, bits BinOp.and IntKind.u8 (bits BinOp.xor IntKind.u8 (if IntKind.u8.signed = true then -1 else IntKind.u8.max) (f k)) ((spanV k a b : Nat) : Int) = ((freeV f k a b : Nat) : Int)) := fun k => free_int f hf k a b
  clear hf
  go_enter Tryz.func63, Tryz.ntmps63
  go_wp2_with fail
  refine (hix _).mono ?_
  rintro e w1 ⟨rfl, rfl⟩
  go_wp2_with fail
  refine (hiy _).mono ?_
  rintro e w1 ⟨rfl, rfl⟩
  clear hix hiy
  have h1 := heap_alloc_new w (.cells (blk f) 76)
  have H2 : Hid (Below w.heap.size w (w.alloc (.cells (blk f) 76))) := (Below.refl _ _).alloc (Nat.le_refl _) _
  generalize w.alloc (.cells (blk f) 76) = W at h1 H2 ⊢
  go_wp2
  go_loopw [7] (fun s7 wx => ∃ k : Nat, a / 8 ≤ k ∧ k ≤ 1024 ∧ s7 = .int .i64 k ∧ (∀ i, i < 8 * k → hole f a b i = false) ∧ wx.heap[w.heap.size]? = some (.cells (blk f) 76) ∧ Below w.heap.size w wx) (fun s7 _ => 1024 - (RowKit.intOf s7).toNat)
  case atStart =>
    exact ⟨a / 8, Nat.le_refl _, by omega, by go_num, fun i hi => hole_low f a b i (by omega), h1, H2.out⟩
  case round =>
    obtain ⟨k, hk1, hk2, rfl, hno, hh, hbel⟩ := hrel
    have HNo : Hid (∀ i, i < 8 * k → hole f a b i = false) := hno
    clear hno
    by_cases hkb : 8 * k < b
    · have hc := blk_cell hh k (by omega)
      have hb := HB.out k
      have hlt := free_lt f k a b
      have hkb' : 8 * (k : Int) < b := by omega
      by_cases hz : freeV f k a b = 0
      · have HN : Hid (∀ i, i < 8 * (k + 1) → hole f a b i = false) := hole_byte f k a b hk1 hz HNo.out
        rw [hz] at hb
        clear hz hlt
        go_wp2
        go_quiet (first | (go_at_call 75; exact Calls.quiet_of (span_any k a b _ hx hy hk1 hkb)))
        go_wp2
        exact ⟨⟨k + 1, by omega, by omega, by go_num, HN.out, hh, below_drewN hbel _⟩, by simp [RowKit.intOf]; omega⟩
      · have HN : Hid (firstZ f a b = ((8 * k + trailingZeros8 (freeV f k a b) : Nat) : Int)) := hole_found f k a b hk1 (by omega) hz HNo.out
        have htl := trailingZeros8_le8 ⟨freeV f k a b, hlt⟩
        simp only at htl
        have hz' : ((freeV f k a b : Nat) : Int) ≠ 0 := by omega
        generalize freeV f k a b = v at *
        have htz := fun w => tz_nat v w hlt
        generalize trailingZeros8 v = t at *
        go_wp2
        go_quiet (first | (go_at_call 75; exact Calls.quiet_of (span_any k a b _ hx hy hk1 hkb)))
        go_wp2_with (go_at_call 99; refine (htz _).mono ?_; rintro e w1 ⟨rfl, rfl⟩)
        go_ret
        exact ⟨ret_int (by rw [HN.out]; omega), below_drewN hbel _⟩
    · have hkb' : ¬ 8 * (k : Int) < b := by omega
      have HE : Hid (firstZ f a b = -1) := firstZ_none f a b fun i _ => if h : i < 8 * k then HNo.out i h else hole_high f a b i (by omega)
      go_wp2
      go_ret
      exact ⟨by rw [HE.out]; rfl, hbel⟩
end Go.Proofs.YtkcgbhagjkhcmaaGreatV
