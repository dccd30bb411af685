/- First and Count of bits: the least clear bit, how many are set; for every block of bytes and every span. -/
import Derived.Test.YtplgelhfombhkaaSet
namespace Go.Proofs.Ytplgelhfombhkaa
open Go.RowKit Go.Lib

/-- What the byte k holds of the span's bits. -/
def byteV (f : Nat → Int) (k a b : Nat) : Nat := (f k).toNat &&& spanV k a b
def freeV (f : Nat → Int) (k a b : Nat) : Nat := ((f k).toNat ^^^ 255) &&& spanV k a b
theorem byte_lt (f : Nat → Int) (k a b : Nat) : byteV f k a b < 256 := Nat.lt_of_le_of_lt Nat.and_le_right (span_lt k a b)
theorem free_lt (f : Nat → Int) (k a b : Nat) : freeV f k a b < 256 := Nat.lt_of_le_of_lt Nat.and_le_right (span_lt k a b)
theorem byte_bit (f : Nat → Int) (k a b j : Nat) (h1 : a / 8 ≤ k) (hj : j < 8) : (byteV f k a b).testBit j = ind f a b (8 * k + j) := by
  unfold byteV ind bit
  rw [Nat.testBit_and, span_bit k a b j h1 hj, show (8 * k + j) / 8 = k by omega, show (8 * k + j) % 8 = j by omega, Bool.and_comm]
  congr 1
  exact decide_eq_decide.2 (by omega)
theorem ones_tab : ∀ j : Fin 8, Nat.testBit 255 j.val = true := by decide +kernel
theorem free_bit (f : Nat → Int) (k a b j : Nat) (h1 : a / 8 ≤ k) (hj : j < 8) : (freeV f k a b).testBit j = hole f a b (8 * k + j) := by
  unfold freeV hole bit
  rw [Nat.testBit_and, Nat.testBit_xor, ones_tab ⟨j, hj⟩, span_bit k a b j h1 hj, show (8 * k + j) / 8 = k by omega, show (8 * k + j) % 8 = j by omega, Bool.and_comm]
  congr 1
  · exact decide_eq_decide.2 (by omega)
  · simp
theorem ones_byte (f : Nat → Int) (k a b : Nat) (h1 : a / 8 ≤ k) : (ones f a b (8 * (k + 1))).length = (ones f a b (8 * k)).length + onesCount (byteV f k a b) := by
  rw [pop_is _ (byte_lt f k a b)]
  have : ∀ d, d ≤ 8 → (ones f a b (8 * k + d)).length = (ones f a b (8 * k)).length + ((List.range d).filter fun j => (byteV f k a b).testBit j).length := by
    intro d
    induction d with
    | zero => intro _; simp
    | succ d ih =>
      intro hd
      rw [← Nat.add_assoc, ones_succ, List.length_append, ih (by omega), List.range_succ, List.filter_append, List.length_append, ← byte_bit f k a b d h1 (by omega), Nat.add_assoc]
      congr 2
      by_cases h : (byteV f k a b).testBit d = true <;> simp [h]
  exact this 8 (by omega)
theorem hole_low (f : Nat → Int) (a b i : Nat) (h : i < a) : hole f a b i = false := by
  unfold hole; rw [decide_eq_false (by omega)]; rfl
theorem hole_high (f : Nat → Int) (a b i : Nat) (h : b ≤ i) : hole f a b i = false := by
  unfold hole; rw [decide_eq_false (by omega)]; rfl
theorem hole_byte (f : Nat → Int) (k a b : Nat) (h1 : a / 8 ≤ k) (hz : freeV f k a b = 0) (h : ∀ i, i < 8 * k → hole f a b i = false) : ∀ i, i < 8 * (k + 1) → hole f a b i = false := by
  intro i hi
  by_cases h2 : i < 8 * k
  · exact h i h2
  · have := free_bit f k a b (i - 8 * k) h1 (by omega)
    rw [show 8 * k + (i - 8 * k) = i by omega, hz, Nat.zero_testBit] at this
    exact this.symm
theorem hole_found (f : Nat → Int) (k a b : Nat) (h1 : a / 8 ≤ k) (hk : k < 1024) (hz : freeV f k a b ≠ 0) (h : ∀ i, i < 8 * k → hole f a b i = false) : firstZ f a b = ((8 * k + trailingZeros8 (freeV f k a b) : Nat) : Int) := by
  obtain ⟨t1, t2, t3⟩ := tz_is _ (free_lt f k a b) hz
  refine firstZ_some f a b _ (by omega) ?_ fun i hi => ?_
  · rw [← free_bit f k a b _ h1 t1]; exact t2
  · by_cases h2 : i < 8 * k
    · exact h i h2
    · have := free_bit f k a b (i - 8 * k) h1 (by omega)
      rw [show 8 * k + (i - 8 * k) = i by omega, t3 _ (by omega)] at this
      exact this.symm
theorem free_int (f : Nat → Int) (hf : Byte f) (k a b : Nat) : bits BinOp.and IntKind.u8 (bits BinOp.xor IntKind.u8 255 (f k)) ((spanV k a b : Nat) : Int) = ((freeV f k a b : Nat) : Int) := by
  have h := hf k
  have h2 := span_lt k a b
  have e : bits BinOp.xor IntKind.u8 255 (f k) = (((f k).toNat ^^^ 255 : Nat) : Int) := by rw [Nat.xor_comm]; exact u8_xor 255 (f k) (by omega) (by omega) (by omega) (by omega)
  rw [e, u8_and_nat _ _ (Nat.xor_lt_two_pow (n := 8) (by omega) (by omega)) h2]
  rfl
theorem byte_int (f : Nat → Int) (hf : Byte f) (k a b : Nat) : bits BinOp.and IntKind.u8 (f k) ((spanV k a b : Nat) : Int) = ((byteV f k a b : Nat) : Int) := by
  have h := hf k
  have h2 := span_lt k a b
  rw [u8_and (f k) _ (by omega) (by omega) (by omega) (by omega), Int.toNat_natCast]
  rfl

theorem pop_nat (x : Nat) (w : World) (h : x < 256) : Calls Try.prog 26 #[.int .u8 x] w fun e w' => e = .returned (.int .i64 (onesCount x : Nat)) ∧ w' = w := by
  have := pop_any x w (by omega) (by omega)
  rwa [Int.toNat_natCast] at this
theorem tz_nat (x : Nat) (w : World) (h : x < 256) : Calls Try.prog 25 #[.int .u8 x] w fun e w' => e = .returned (.int .i64 (trailingZeros8 x : Nat)) ∧ w' = w := by
  have := tz_any x w (by omega) (by omega)
  rwa [Int.toNat_natCast] at this

set_option maxRecDepth 20000 in
set_option maxHeartbeats 1000000 in
theorem count_any (f : Nat → Int) (hf : Byte f) (x y : Int) (w : World) :
    Calls Try.prog 16 #[.agg (blk f), .int .i64 x, .int .i64 y] w fun e w' => e = .returned (.int .i64 ((ones f x y 8192).length : Nat)) ∧ Below w.heap.size w w' := by
  rw [ones_ins f x y 8192 (by omega)]
  have hx := ins_le x
  have hy := ins_le y
  have hix := fun w => inside_any x w
  have hiy := fun w => inside_any y w
  generalize ins x = a at *
  generalize ins y = b at *
  have HB : Hid (∀ k, bits BinOp.and IntKind.u8 (f k) ((spanV k a b : Nat) : Int) = ((byteV f k a b : Nat) : Int)) := fun k => byte_int f hf k a b
  clear hf
  go_enter Try.func16, Try.ntmps16
  go_wp2_with fail
  refine (hix _).mono ?_
  rintro e w1 ⟨rfl, rfl⟩
  go_wp2_with fail
  refine (hiy _).mono ?_
  rintro e w1 ⟨rfl, rfl⟩
  clear hix hiy
  have h1 := heap_alloc_new w (.cells (blk f) 23)
  have H2 : Hid (Below w.heap.size w (w.alloc (.cells (blk f) 23))) := (Below.refl _ _).alloc (Nat.le_refl _) _
  generalize w.alloc (.cells (blk f) 23) = W at h1 H2 ⊢
  go_wp2
  go_loopw [7, 8] (fun s7 s8 wx => ∃ k : Nat, a / 8 ≤ k ∧ k ≤ 1024 ∧ s8 = .int .i64 k ∧ s7 = .int .i64 ((ones f a b (8 * k)).length : Nat) ∧ wx.heap[w.heap.size]? = some (.cells (blk f) 23) ∧ Below w.heap.size w wx) (fun _ s8 _ => 1024 - (RowKit.intOf s8).toNat)
  case atStart =>
    refine ⟨a / 8, Nat.le_refl _, by omega, by go_num, ?_, h1, H2.out⟩
    rw [ones_start f a b _ (by omega)]
    rfl
  case round =>
    obtain ⟨k, hk1, hk2, rfl, rfl, hh, hbel⟩ := hrel
    by_cases hkb : 8 * k < b
    · have hc := blk_cell hh k (by omega)
      have hl := ones_len f a b (8 * k)
      have hb := HB.out k
      have hlt := byte_lt f k a b
      have hpl := onesCount_le8 ⟨byteV f k a b, hlt⟩
      have hnext := ones_byte f k a b hk1
      have HN : Hid ((ones f a b (8 * (k + 1))).length = (ones f a b (8 * k)).length + onesCount (byteV f k a b)) := hnext
      have hkb' : 8 * (k : Int) < b := by omega
      clear hnext
      generalize (ones f a b (8 * k)).length = L at *
      simp only at hpl
      go_wp2
      go_quiet (first | (go_at_call 24; exact Calls.quiet_of (span_any k a b _ hx hy hk1 hkb)) | (go_at_call 26; exact Calls.quiet_of_same (pop_nat _ _ hlt)))
      go_wp2
      refine ⟨⟨k + 1, by omega, by omega, by go_num, ?_, hh, below_drewN hbel _⟩, by simp [RowKit.intOf]; omega⟩
      rw [HN.out]
      go_num
    · have HE : Hid (ones f a b 8192 = ones f a b (8 * k)) := ones_end f a b (8 * k) (by omega) (by omega)
      have hkb' : ¬ 8 * (k : Int) < b := by omega
      have hl := ones_len f a b (8 * k)
      go_wp2
      go_ret
      exact ⟨by rw [HE.out]; rfl, hbel⟩

set_option maxRecDepth 20000 in
set_option maxHeartbeats 1000000 in
theorem first_any (f : Nat → Int) (hf : Byte f) (x y : Int) (w : World) :
    Calls Try.prog 14 #[.agg (blk f), .int .i64 x, .int .i64 y] w fun e w' => e = .returned (.int .i64 (firstZ f x y)) ∧ Below w.heap.size w w' := by
  rw [firstZ_ins f x y]
  have hx := ins_le x
  have hy := ins_le y
  have hix := fun w => inside_any x w
  have hiy := fun w => inside_any y w
  generalize ins x = a at *
  generalize ins y = b at *
  have HB : Hid (∀ k, bits BinOp.and IntKind.u8 (bits BinOp.xor IntKind.u8 (if IntKind.u8.signed = true then -1 else IntKind.u8.max) (f k)) ((spanV k a b : Nat) : Int) = ((freeV f k a b : Nat) : Int)) := fun k => free_int f hf k a b
  clear hf
  go_enter Try.func14, Try.ntmps14
  go_wp2_with fail
  refine (hix _).mono ?_
  rintro e w1 ⟨rfl, rfl⟩
  go_wp2_with fail
  refine (hiy _).mono ?_
  rintro e w1 ⟨rfl, rfl⟩
  clear hix hiy
  have h1 := heap_alloc_new w (.cells (blk f) 23)
  have H2 : Hid (Below w.heap.size w (w.alloc (.cells (blk f) 23))) := (Below.refl _ _).alloc (Nat.le_refl _) _
  generalize w.alloc (.cells (blk f) 23) = W at h1 H2 ⊢
  go_wp2
  go_loopw [7] (fun s7 wx => ∃ k : Nat, a / 8 ≤ k ∧ k ≤ 1024 ∧ s7 = .int .i64 k ∧ (∀ i, i < 8 * k → hole f a b i = false) ∧ wx.heap[w.heap.size]? = some (.cells (blk f) 23) ∧ Below w.heap.size w wx) (fun s7 _ => 1024 - (RowKit.intOf s7).toNat)
  case atStart =>
    exact ⟨a / 8, Nat.le_refl _, by omega, by go_num, fun i hi => hole_low f a b i (by omega), h1, H2.out⟩
  case round =>
    obtain ⟨k, hk1, hk2, rfl, hno, hh, hbel⟩ := hrel
    have HNo : Hid (∀ i, i < 8 * k → hole f a b i = false) := hno
    clear hno
    by_cases hkb : 8 * k < b
    · have hc := blk_cell hh k (by omega)
      have hb := HB.out k
      have hlt := free_lt f k a b
      have hkb' : 8 * (k : Int) < b := by omega
      by_cases hz : freeV f k a b = 0
      · have HN : Hid (∀ i, i < 8 * (k + 1) → hole f a b i = false) := hole_byte f k a b hk1 hz HNo.out
        rw [hz] at hb
        clear hz hlt
        go_wp2
        go_quiet (first | (go_at_call 24; exact Calls.quiet_of (span_any k a b _ hx hy hk1 hkb)))
        go_wp2
        exact ⟨⟨k + 1, by omega, by omega, by go_num, HN.out, hh, below_drewN hbel _⟩, by simp [RowKit.intOf]; omega⟩
      · have HN : Hid (firstZ f a b = ((8 * k + trailingZeros8 (freeV f k a b) : Nat) : Int)) := hole_found f k a b hk1 (by omega) hz HNo.out
        have htl := trailingZeros8_le8 ⟨freeV f k a b, hlt⟩
        simp only at htl
        have hz' : ((freeV f k a b : Nat) : Int) ≠ 0 := by omega
        generalize freeV f k a b = v at *
        have htz := fun w => tz_nat v w hlt
        generalize trailingZeros8 v = t at *
        go_wp2
        go_quiet (first | (go_at_call 24; exact Calls.quiet_of (span_any k a b _ hx hy hk1 hkb)))
        go_wp2_with (go_at_call 25; refine (htz _).mono ?_; rintro e w1 ⟨rfl, rfl⟩)
        go_ret
        exact ⟨ret_int (by rw [HN.out]; omega), below_drewN hbel _⟩
    · have hkb' : ¬ 8 * (k : Int) < b := by omega
      have HE : Hid (firstZ f a b = -1) := firstZ_none f a b fun i _ => if h : i < 8 * k then HNo.out i h else hole_high f a b i (by omega)
      go_wp2
      go_ret
      exact ⟨by rw [HE.out]; rfl, hbel⟩
end Go.Proofs.Ytplgelhfombhkaa
