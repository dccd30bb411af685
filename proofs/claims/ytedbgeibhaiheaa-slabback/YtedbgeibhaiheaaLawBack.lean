/- SlabBack's walk: of every slice of bytes, place, number and bytes the call answers true and turns nothing that was there; the bytes are fewer than 2 to the 47th, less 4096. -/
import Derived.Test.YtedbgeibhaiheaaAwake
import Derived.Test.YtedbgeibhaiheaaOrd
import Derived.Test.YtedbgeibhaiheaaSame
namespace Go.Proofs.Ytedbgeibhaiheaa
open Go.RowKit

theorem put_same4 (f : Nat → Int) (k i : Nat) (v : Int) (hv : 0 ≤ v ∧ v < 4294967296) (h : (i : Int) < k ∨ (k : Int) + 3 < i ∨ (1020 : Int) < k) : put f k 4 v i = f i := by
  by_cases hk : k + 4 ≤ 1024
  · rw [put_in f k 4 v hk, put4 f k v hv]
    unfold upd
    rw [if_neg (by omega), if_neg (by omega), if_neg (by omega), if_neg (by omega)]
  · rw [put_out f k 4 v (by omega)]
theorem put_same2 (f : Nat → Int) (k i : Nat) (v : Int) (hv : 0 ≤ v ∧ v < 65536) (h : (i : Int) < k ∨ (k : Int) + 1 < i ∨ (1022 : Int) < k) : put f k 2 v i = f i := by
  by_cases hk : k + 2 ≤ 1024
  · rw [put_in f k 2 v hk, put2 f k v hv]
    unfold upd
    rw [if_neg (by omega), if_neg (by omega)]
  · rw [put_out f k 2 v (by omega)]
theorem num_put4 (f : Nat → Int) (k : Nat) (v : Int) (hv : 0 ≤ v ∧ v < 4294967296) (hk : k ≤ 1020) : num (put f k 4 v) k 4 = v := by
  rw [num_in _ k 4 (by omega), put_in f k 4 v (by omega), put4 f k v hv, num4]
  simp [upd]
  omega
theorem num_put2 (f : Nat → Int) (k : Nat) (v : Int) (hv : 0 ≤ v ∧ v < 65536) (hk : k ≤ 1022) : num (put f k 2 v) k 2 = v := by
  rw [num_in _ k 2 (by omega), put_in f k 2 v (by omega), put2 f k v hv, num2]
  simp [upd]
  omega

theorem Lies.le_cap {w : World} {a : Option Addr} {c m : Nat} {q : Nat → Int} (h : Lies w (.slice a m c) m q) : m ≤ c := by
  rcases h with ⟨a', c', hv, h0, ha⟩ | ⟨b, off, cap, hv, h1, h2, h3, hc⟩
  · omega
  · simp only [Value.slice.injEq] at hv
    omega
theorem Lies.start {w : World} {a : Option Addr} {c m L : Nat} {q : Nat → Int} (h : Lies w (.slice a m c) m q) (hL : L ≤ m) : Lies w (.slice a L c) L q := by
  rcases h with ⟨a', c', hv, h0, ha⟩ | ⟨b, off, cap, hv, h1, h2, h3, hc⟩
  · simp only [Value.slice.injEq] at hv
    obtain ⟨rfl, _, rfl⟩ := hv
    exact .inl ⟨_, _, by rw [show L = 0 by omega], by omega, ha⟩
  · simp only [Value.slice.injEq] at hv
    obtain ⟨rfl, _, rfl⟩ := hv
    exact .inr ⟨b, off, c, rfl, by omega, by omega, h3, fun i hi => hc i (by omega)⟩
theorem slice22any (a : Option Addr) (m cap n : Nat) (x : Int) (hx : x = (n : Int)) (hn : n ≤ cap) (u : World) :
    (Instr.slice 22 (.slice a m cap) none (some (.int .i64 x)) none).run Try.prog u = .ok (.slice a n cap) u := by
  have ee : Try.prog.elem 22 = 5 := by kernel_rfl
  have h := run_slice_h (P := Try.prog) u 22 a m cap (by rw [ee]; exact Try.underlying22) .i64 x (by omega) (by omega)
  rw [h, ee, show x.toNat = n by omega]
  cases a <;> simp [Try.sizeOf5, sliced, Addr.add]
theorem piece_len (k m : Nat) (hk : k < 1024) : insHi k m - insLo k m = min m (1024 - k) := by
  unfold insHi insLo
  by_cases h : (m : Int) < 1 ∨ 1024 ≤ (k : Int)
  · rw [if_pos h, if_pos h]; omega
  · rw [if_neg h, if_neg h]; omega
theorem piece_laid (F q : Nat → Int) (k m : Nat) (hk : k < 1024) (i : Nat) (hi : i < min m (1024 - k)) : from' (layF F k m q) (insLo k m) i = q i := by
  unfold from' layF insLo
  rw [if_neg (show ¬ ((m : Int) < 1 ∨ 1024 ≤ (k : Int)) by omega), if_pos (by omega)]
  congr 1
  omega
theorem piece_lens (k : Nat) (hk : k < 1024) : insHi 0 k - insLo 0 k = k := by
  have := piece_len 0 k (by omega)
  simp only [Int.natCast_zero] at this
  rw [this]; omega
theorem piece_before (F q : Nat → Int) (k m : Nat) (i : Nat) (hi : i < k) : from' (layF F k m q) (insLo 0 k) i = from' F (insLo 0 k) i := by
  unfold from' layF insLo
  rw [if_neg]
  split <;> simp <;> omega
theorem row_lies {w : World} {g n : Nat} {f : Nat → Int} (h : w.heap[g]? = some (.cells (rowA f n) 5)) (hn : n ≤ maxLen) : Lies w (.slice (some ⟨g, 0, none⟩) n n) n f :=
  .inr ⟨g, 0, n, rfl, hn, Nat.le_refl _, (Array.getElem?_eq_some_iff.1 h).1, fun i hi => by rw [Nat.zero_add]; exact cell_row h i hi⟩
theorem piece_at (f : Nat → Int) (k m L : Nat) (w : World) (hk : k < 1024) (hL : min m (1024 - k) = L) (hm : m ≤ 140737488355328) :
    Calls Try.prog 19 #[.agg (blk f), .int .i64 k, .int .i64 m] w fun e w' => e = .returned (.slice (some ⟨w.heap.size + 1, 0, none⟩) L L) ∧ Lies w' (.slice (some ⟨w.heap.size + 1, 0, none⟩) L L) L (from' f (insLo k m)) ∧ Below w.heap.size w w' := by
  have h := piece_any f k m w (by omega) (by omega)
  rw [piece_len k m hk, hL] at h
  exact h.mono fun e w' ⟨h1, h2, _, h4⟩ => ⟨h1, row_lies h2 (by unfold maxLen; omega), h4⟩
theorem piece_zero (f : Nat → Int) (k : Nat) (w : World) (hk : k < 1024) :
    Calls Try.prog 19 #[.agg (blk f), .int .i64 0, .int .i64 k] w fun e w' => e = .returned (.slice (some ⟨w.heap.size + 1, 0, none⟩) k k) ∧ Lies w' (.slice (some ⟨w.heap.size + 1, 0, none⟩) k k) k (from' f (insLo 0 k)) ∧ Below w.heap.size w w' := by
  have h := piece_any f 0 k w (by omega) (by omega)
  rw [piece_lens k hk] at h
  exact h.mono fun e w' ⟨h1, h2, _, h4⟩ => ⟨h1, row_lies h2 (by unfold maxLen; omega), h4⟩
theorem blocks_lie {w : World} {g n : Nat} {f : Nat → Int} (h : w.heap[g]? = some (.cells (rowA f (n * 1024)) 25)) (hn : n * 1024 ≤ 281474976710656) : LiesB w (.slice (some ⟨g, 0, none⟩) n n) n f :=
  .inr ⟨g, 0, n, rfl, hn, Nat.le_refl _, (Array.getElem?_eq_some_iff.1 h).1, fun i hi => by rw [Nat.zero_add]; exact cell_row h i hi⟩
theorem join_all (m : Nat) : joinLen m (blocksOf m) = m := by
  have := join_len m (blocksOf m)
  unfold blocksOf at *
  omega
theorem wpOrd_load25 {ops : Array Oper} {Q : Exit → Act → World → Prop} {r : List (Bool × Oper)} {a : Act} {w : World} {o : Oper} (W : World) (hw : Region.wanted o (yielded ops a.tmps) = true)
    (x : Operand) (ho : o.op = .load 25 x) (g : Nat) (hx : a.eval x = .pointer (some ⟨g, 0, none⟩)) (f : Nat → Int) (hg : W.heap[g]? = some (.cells (blk f) 25))
    (h : wpOrd Try.prog ops Q (fun u => Below W.heap.size W u) r (a.put o.dst (.agg (blk f))) w) : wpOrd Try.prog ops Q (fun u => Below W.heap.size W u) ((true, o) :: r) a w :=
  wpOrd_yield hw (fun u hu => by
    have hh := (hu.block g (Array.getElem?_eq_some_iff.1 hg).1).trans hg
    unfold execOp
    simp only [ho, hx, Instr.loadAt, Instr.sureAddr, Sem.run_bind, Sem.run_pure, Result.andThen_ok, run_loadVar_row u g 25 25 (blk f) (0, 0) _ hh Try.underlying25 rfl (by rw [blk_size]; exact size25)]) h

theorem wpList_later_leq {ops : Array Oper} {o : Oper} {l : List Oper} {Q : Exit → Act → World → Prop} {a : Act} {w : World} (x y : Operand) (_ : o.op = .binOp .leq 3 x y 3) (W : World) (hW : Below W.heap.size W w)
    (h : wpQuiet Try.prog ops (fun w' => ∃ x : Later W, w' = x.val) (fun a' => ∀ w', (∃ x : Later W, w' = x.val) → Q .normal a' w') (o :: l) a) : wpList Try.prog ops Q (o :: l) a w :=
  wpList_later W hW h

set_option maxRecDepth 20000 in
set_option maxHeartbeats 40000000 in
theorem law_back (p : Value) (n : Nat) (f : Nat → Int) (a v : Int) (aq : Option Addr) (m cq : Nat) (q : Nat → Int) (w : World) (hp : Lies w p n f) (hf : ∀ i, 0 ≤ f i ∧ f i ≤ 255) (hv : 0 ≤ v ∧ v < 4294967296)
    (hq : Lies w (.slice aq m cq) m q) (hm : m ≤ 140737488351232) :
    Calls Try.prog 8 #[p, .int .i64 a, .int .u32 v, .slice aq m cq] w fun e w' => e = .returned (.bool true) ∧ Below w.heap.size w w' := by
  have z25 := zero25
  have hF : ∀ i, 0 ≤ firsts f n i ∧ firsts f n i ≤ 255 := fun i => by
    unfold firsts; split
    · exact hf i
    · omega
  have HF : Hid (∀ i, 0 ≤ firsts f n i ∧ firsts f n i ≤ 255) := hF
  clear hF hf
  obtain ⟨k, hk, hk0⟩ : ∃ k : Nat, a % 1024 = (k : Int) ∧ (k : Int) < 1024 := ⟨(a % 1024).toNat, by omega, by omega⟩
  have HK : Hid (a % 1024 = (k : Int)) := hk
  clear hk
  go_enter Try.func8, Try.ntmps8
  go_wp2_with fail
  refine (awake_any _).mono ?_
  rintro e W0 ⟨rfl, hb0⟩
  go_wp2_with fail
  refine (block_lies (hp.later hb0)).mono ?_
  rintro e W1 ⟨rfl, hb1⟩
  have hb01 : Below w.heap.size w W1 := hb0.trans (hb1.mono hb0.size)
  clear hb0 hb1
  generalize firsts f n = F at HF ⊢
  go_wp2_with (first | refine wpList_store25_new rfl _ _ rfl _ _ rfl rfl ?_)
  generalize hW : W1.alloc (.cells (blk F) 25) = A1
  have hA1 : A1.heap[W1.heap.size]? = some (.cells (blk F) 25) := by rw [← hW]; exact heap_alloc_new _ _
  have hAb1 : Below w.heap.size w A1 := by rw [← hW]; exact hb01.alloc hb01.size _
  clear hW hb01
  refine (pick_any a _).mono ?_
  rintro e A1' ⟨rfl, rfl⟩
  rw [HK.out]
  go_wp2_with (first | refine wpList_load25 rfl _ rfl _ rfl _ hA1 ?_)
  refine (set32_any F k v _ hv).mono ?_
  rintro e W2 ⟨rfl, hb2⟩
  obtain ⟨C, hC⟩ : ∃ C, put F (k : Int) 4 v = C := ⟨_, rfl⟩
  rw [hC]
  have HC : Hid (put F (k : Int) 4 v = C) := hC
  clear hC
  have hg0 : W1.heap.size < A1'.heap.size := (Array.getElem?_eq_some_iff.1 hA1).1
  have hW2F : W2.heap[W1.heap.size]? = some (.cells (blk F) 25) := (hb2.block _ hg0).trans hA1
  have hAF : ∀ o, (W2.alloc o).heap[W1.heap.size]? = some (.cells (blk F) 25) := fun o => (heap_alloc_old W2 o (Nat.lt_of_lt_of_le hg0 hb2.size)).trans hW2F
  have hb2w : Below w.heap.size w W2 := hAb1.trans (hb2.mono hAb1.size)
  clear hb2 hAb1 hA1 hW2F
  go_wp2_with (first | refine wpList_store25_new rfl _ _ rfl _ _ rfl rfl ?_ | refine wpList_load25 rfl _ rfl _ rfl _ (hAF _) ?_)
  have hV : 0 ≤ IntKind.u16.wrap v ∧ IntKind.u16.wrap v < 65536 := by rw [wrap_u16]; omega
  have HV : Hid (0 ≤ IntKind.u16.wrap v ∧ IntKind.u16.wrap v < 65536) := hV
  clear hV
  refine (set16_any F k (IntKind.u16.wrap v) _ HV.out).mono ?_
  rintro e W3 ⟨rfl, hb3⟩
  obtain ⟨D, hD⟩ : ∃ D, put F (k : Int) 2 (IntKind.u16.wrap v) = D := ⟨_, rfl⟩
  rw [hD]
  have HD : Hid (put F (k : Int) 2 (IntKind.u16.wrap v) = D) := hD
  clear hD
  have hg1 : W1.heap.size < (W2.alloc (.cells (blk C) 25)).heap.size := (Array.getElem?_eq_some_iff.1 (hAF _)).1
  have h3F : W3.heap[W1.heap.size]? = some (.cells (blk F) 25) := (hb3.block _ hg1).trans (hAF _)
  have h3C : W3.heap[W2.heap.size]? = some (.cells (blk C) 25) := (hb3.block _ (by simp)).trans (heap_alloc_new _ _)
  have h3w : Below w.heap.size w W3 := (hb2w.alloc hb2w.size _).trans (hb3.mono (Nat.le_trans hb2w.size (by simp)))
  clear hb3 hAF hb2w hg1 hg0
  go_wp2_with (first | refine wpList_store25_new rfl _ _ rfl _ _ rfl rfl ?_)
  obtain ⟨A, hA⟩ : ∃ A, W3.alloc (.cells (blk D) 25) = A := ⟨_, rfl⟩
  have hAF : A.heap[W1.heap.size]? = some (.cells (blk F) 25) := by rw [← hA]; exact (heap_alloc_old _ _ (Array.getElem?_eq_some_iff.1 h3F).1).trans h3F
  have hAC : A.heap[W2.heap.size]? = some (.cells (blk C) 25) := by rw [← hA]; exact (heap_alloc_old _ _ (Array.getElem?_eq_some_iff.1 h3C).1).trans h3C
  have hAD : A.heap[W3.heap.size]? = some (.cells (blk D) 25) := by rw [← hA]; exact heap_alloc_new _ _
  have hAw : Below w.heap.size w A := by rw [← hA]; exact h3w.alloc h3w.size _
  rw [hA]
  clear hA h3F h3C h3w
  have HAF := (show Hid _ from hAF)
  have HAC := (show Hid _ from hAC)
  have HAD := (show Hid _ from hAD)
  clear hAF hAC hAD
  go_loopw [13] (fun s13 wx => ∃ i : Nat, (i : Int) ≤ 1024 ∧ s13 = .int .i64 i ∧ ∃ d, wx = A.drewN d) (fun s13 _ => 1024 - (intOf s13).toNat)
  case atStart => exact ⟨0, by omega, rfl, 0, rfl⟩
  case round =>
    obtain ⟨i, hi, rfl, d, rfl⟩ := hrel
    by_cases hi2 : (i : Int) < 1024
    · have cF : A.cell? ⟨W1.heap.size, i, none⟩ = some (.int .u8 (F i)) := cell_row (f := F) (m := 1024) HAF.out i (by omega)
      have cC : A.cell? ⟨W2.heap.size, i, none⟩ = some (.int .u8 (C i)) := cell_row (f := C) (m := 1024) HAC.out i (by omega)
      have cD : A.cell? ⟨W3.heap.size, i, none⟩ = some (.int .u8 (D i)) := cell_row (f := D) (m := 1024) HAD.out i (by omega)
      have e1 : (i : Int) < k ∨ (k : Int) + 3 < i ∨ (1020 : Int) < k → C i = F i := fun h => by rw [← HC.out]; exact put_same4 F k i v hv h
      have e2 : (i : Int) < k ∨ (k : Int) + 1 < i ∨ (1022 : Int) < k → D i = F i := fun h => by rw [← HD.out]; exact put_same2 F k i _ HV.out h
      have hcs : (i : Int) < k ∨ (¬ (i : Int) < k ∧ (k : Int) + 3 < i) ∨ (¬ (i : Int) < k ∧ ¬ (k : Int) + 3 < i ∧ (1020 : Int) < k ∧ (k : Int) + 1 < i) ∨ (¬ (i : Int) < k ∧ ¬ (k : Int) + 3 < i ∧ (1020 : Int) < k ∧ ¬ (k : Int) + 1 < i ∧ (1022 : Int) < k) ∨
        (¬ (i : Int) < k ∧ ¬ (k : Int) + 3 < i ∧ (1020 : Int) < k ∧ ¬ (k : Int) + 1 < i ∧ ¬ (1022 : Int) < k) ∨ (¬ (i : Int) < k ∧ ¬ (k : Int) + 3 < i ∧ ¬ (1020 : Int) < k ∧ (k : Int) + 1 < i) ∨ (¬ (i : Int) < k ∧ ¬ (k : Int) + 3 < i ∧ ¬ (1020 : Int) < k ∧ ¬ (k : Int) + 1 < i ∧ ¬ (1022 : Int) < k) := by omega
      rcases hcs with h1 | ⟨h1, h2⟩ | ⟨h1, h2, h3, h4⟩ | ⟨h1, h2, h3, h4, h5⟩ | ⟨h1, h2, h3, h4, h5⟩ | ⟨h1, h2, h3, h4⟩ | ⟨h1, h2, h3, h4, h5⟩
      · have dAn : decide (i < k) = true := decide_eq_true (by omega)
        have dAi : decide ((i : Int) < (k : Int)) = true := decide_eq_true (by omega)
        rw [e1 (by omega)] at cC
        rw [e2 (by omega)] at cD
        clear e1 e2
        go_wp2
        go_quiet (fail)
        go_wp2
        exact ⟨⟨i + 1, by omega, by go_num, _, rfl⟩, by simp [intOf]; omega⟩
      · have dAn : decide (i < k) = false := decide_eq_false (by omega)
        have dAi : decide ((i : Int) < (k : Int)) = false := decide_eq_false (by omega)
        have dBn : decide (k + 3 < i) = true := decide_eq_true (by omega)
        have dBi : decide ((k : Int) + 3 < (i : Int)) = true := decide_eq_true (by omega)
        have dCn : decide (k + 1 < i) = true := decide_eq_true (by omega)
        have dCi : decide ((k : Int) + 1 < (i : Int)) = true := decide_eq_true (by omega)
        rw [e1 (by omega)] at cC
        rw [e2 (by omega)] at cD
        clear e1 e2
        go_wp2
        go_quiet (fail)
        go_wp2
        exact ⟨⟨i + 1, by omega, by go_num, _, rfl⟩, by simp [intOf]; omega⟩
      · have dAn : decide (i < k) = false := decide_eq_false (by omega)
        have dAi : decide ((i : Int) < (k : Int)) = false := decide_eq_false (by omega)
        have dBn : decide (k + 3 < i) = false := decide_eq_false (by omega)
        have dBi : decide ((k : Int) + 3 < (i : Int)) = false := decide_eq_false (by omega)
        have dEn : decide (1020 < k) = true := decide_eq_true (by omega)
        have dEi : decide ((1020 : Int) < (k : Int)) = true := decide_eq_true (by omega)
        have dCn : decide (k + 1 < i) = true := decide_eq_true (by omega)
        have dCi : decide ((k : Int) + 1 < (i : Int)) = true := decide_eq_true (by omega)
        rw [e1 (by omega)] at cC
        rw [e2 (by omega)] at cD
        clear e1 e2
        go_wp2
        go_quiet (fail)
        go_wp2
        exact ⟨⟨i + 1, by omega, by go_num, _, rfl⟩, by simp [intOf]; omega⟩
      · have dAn : decide (i < k) = false := decide_eq_false (by omega)
        have dAi : decide ((i : Int) < (k : Int)) = false := decide_eq_false (by omega)
        have dBn : decide (k + 3 < i) = false := decide_eq_false (by omega)
        have dBi : decide ((k : Int) + 3 < (i : Int)) = false := decide_eq_false (by omega)
        have dEn : decide (1020 < k) = true := decide_eq_true (by omega)
        have dEi : decide ((1020 : Int) < (k : Int)) = true := decide_eq_true (by omega)
        have dCn : decide (k + 1 < i) = false := decide_eq_false (by omega)
        have dCi : decide ((k : Int) + 1 < (i : Int)) = false := decide_eq_false (by omega)
        have dFn : decide (1022 < k) = true := decide_eq_true (by omega)
        have dFi : decide ((1022 : Int) < (k : Int)) = true := decide_eq_true (by omega)
        rw [e1 (by omega)] at cC
        rw [e2 (by omega)] at cD
        clear e1 e2
        go_wp2
        go_quiet (fail)
        go_wp2
        exact ⟨⟨i + 1, by omega, by go_num, _, rfl⟩, by simp [intOf]; omega⟩
      · have dAn : decide (i < k) = false := decide_eq_false (by omega)
        have dAi : decide ((i : Int) < (k : Int)) = false := decide_eq_false (by omega)
        have dBn : decide (k + 3 < i) = false := decide_eq_false (by omega)
        have dBi : decide ((k : Int) + 3 < (i : Int)) = false := decide_eq_false (by omega)
        have dEn : decide (1020 < k) = true := decide_eq_true (by omega)
        have dEi : decide ((1020 : Int) < (k : Int)) = true := decide_eq_true (by omega)
        have dCn : decide (k + 1 < i) = false := decide_eq_false (by omega)
        have dCi : decide ((k : Int) + 1 < (i : Int)) = false := decide_eq_false (by omega)
        have dFn : decide (1022 < k) = false := decide_eq_false (by omega)
        have dFi : decide ((1022 : Int) < (k : Int)) = false := decide_eq_false (by omega)
        rw [e1 (by omega)] at cC
        clear e1 e2
        go_wp2
        go_quiet (fail)
        go_wp2
        exact ⟨⟨i + 1, by omega, by go_num, _, rfl⟩, by simp [intOf]; omega⟩
      · have dAn : decide (i < k) = false := decide_eq_false (by omega)
        have dAi : decide ((i : Int) < (k : Int)) = false := decide_eq_false (by omega)
        have dBn : decide (k + 3 < i) = false := decide_eq_false (by omega)
        have dBi : decide ((k : Int) + 3 < (i : Int)) = false := decide_eq_false (by omega)
        have dEn : decide (1020 < k) = false := decide_eq_false (by omega)
        have dEi : decide ((1020 : Int) < (k : Int)) = false := decide_eq_false (by omega)
        have dCn : decide (k + 1 < i) = true := decide_eq_true (by omega)
        have dCi : decide ((k : Int) + 1 < (i : Int)) = true := decide_eq_true (by omega)
        rw [e2 (by omega)] at cD
        clear e1 e2
        go_wp2
        go_quiet (fail)
        go_wp2
        exact ⟨⟨i + 1, by omega, by go_num, _, rfl⟩, by simp [intOf]; omega⟩
      · have dAn : decide (i < k) = false := decide_eq_false (by omega)
        have dAi : decide ((i : Int) < (k : Int)) = false := decide_eq_false (by omega)
        have dBn : decide (k + 3 < i) = false := decide_eq_false (by omega)
        have dBi : decide ((k : Int) + 3 < (i : Int)) = false := decide_eq_false (by omega)
        have dEn : decide (1020 < k) = false := decide_eq_false (by omega)
        have dEi : decide ((1020 : Int) < (k : Int)) = false := decide_eq_false (by omega)
        have dCn : decide (k + 1 < i) = false := decide_eq_false (by omega)
        have dCi : decide ((k : Int) + 1 < (i : Int)) = false := decide_eq_false (by omega)
        have dFn : decide (1022 < k) = false := decide_eq_false (by omega)
        have dFi : decide ((1022 : Int) < (k : Int)) = false := decide_eq_false (by omega)
        clear e1 e2
        go_wp2
        go_quiet (fail)
        go_wp2
        exact ⟨⟨i + 1, by omega, by go_num, _, rfl⟩, by simp [intOf]; omega⟩
    · clear hi
      have hAF := HAF.out
      have hAC := HAC.out
      have hAD := HAD.out
      have pC : ∀ i, 0 ≤ C i ∧ C i ≤ 255 := by rw [← HC.out]; exact put_bytes F k 4 v HF.out
      have pD : ∀ i, 0 ≤ D i ∧ D i ≤ 255 := by rw [← HD.out]; exact put_bytes F k 2 _ HF.out
      have k1 : ∀ x : Later A, k ≤ 1020 → Calls Try.prog 12 #[.agg (blk C), .int .i64 k] x.val fun e w' => e = .returned (.int .u32 v) ∧ Below x.val.heap.size x.val w' := fun x h => by
        have := u32_any C k x.val pC
        rwa [← HC.out, num_put4 F k v hv h, HC.out] at this
      have k2 : ∀ x : Later A, k ≤ 1022 → Calls Try.prog 10 #[.agg (blk D), .int .i64 k] x.val fun e w' => e = .returned (.int .u16 (IntKind.u16.wrap v)) ∧ Below x.val.heap.size x.val w' := fun x h => by
        have := u16_any D k x.val pD
        rwa [← HD.out, num_put2 F k _ HV.out h, HD.out] at this
      have K1 := (show Hid _ from k1)
      have K2 := (show Hid _ from k2)
      have HQ : ∀ y : Later A, Lies y.val (.slice aq m cq) m q := fun y => (hq.later hAw).later y.below
      have hne := later_some A
      clear pC pD k1 k2 HAF HAC HAD HC HD HV HF hp hq HK
      have hcs : (k : Int) ≤ 1020 ∨ (¬ (k : Int) ≤ 1020 ∧ (k : Int) ≤ 1022) ∨ (¬ (k : Int) ≤ 1020 ∧ ¬ (k : Int) ≤ 1022) := by omega
      have H1 : Hid ((k : Int) ≤ 1020 → k ≤ 1020) := show _ → _ by omega
      have H2 : Hid ((k : Int) ≤ 1022 → k ≤ 1022) := show _ → _ by omega
      have H3 : Hid ((k : Int) ≤ 1020 → (k : Int) ≤ 1022) := show _ → _ by omega
      rcases hcs with h1 | ⟨h1, h2⟩ | ⟨h1, h2⟩
      · have h2 := H3.out h1
        have d1 : decide ((k : Int) ≤ 1020) = true := decide_eq_true h1
        have d2 : decide ((k : Int) ≤ 1022) = true := decide_eq_true h2
        go_wp2_with (first | refine wpList_later_leq _ _ rfl A (below_drewN (Below.refl _ _) _) ?_)
        repeat (first
          | (go_big_quiet_want; refine quiet_load25 _ rfl _ rfl _ hAC ?_; simp only [Act.put, List.setIfInBounds_toArray, List.set_cons_succ, List.set_cons_zero]; go_big_quiet_on)
          | (go_big_quiet_want; refine quiet_load25 _ rfl _ rfl _ hAD ?_; simp only [Act.put, List.setIfInBounds_toArray, List.set_cons_succ, List.set_cons_zero]; go_big_quiet_on)
          | go_big_quiet_step (first
              | (go_at_call 12; exact Later.call _ (K1.out _ (H1.out h1)))
              | (go_at_call 10; exact Later.call _ (K2.out _ (H2.out h2)))))
        refine wpQuiet_nil ?_
        intro y
        have hyF : y.val.heap[W1.heap.size]? = some (.cells (blk F) 25) := (y.heap _ (Array.getElem?_eq_some_iff.1 hAF).1).trans hAF
        have hHQ := HQ y
        have hyw : Below w.heap.size w y.val := hAw.trans (y.below.mono hAw.size)
        clear hAF hAC hAD K1 K2 HQ hAw hne H1 H2 H3 hi2 d1 d2 h1 h2
        go_wp2_with (first | refine wpList_load25 rfl _ rfl _ rfl _ hyF ?_)
        refine (lay_any F k _ m q _ (by omega) hHQ).mono ?_
        rintro e W4 ⟨rfl, hb4⟩
        obtain ⟨E, hE⟩ : ∃ E, layF F (k : Int) m q = E := ⟨_, rfl⟩
        rw [hE]
        have HE : Hid (layF F (k : Int) m q = E) := hE
        have h4F : W4.heap[W1.heap.size]? = some (.cells (blk F) 25) := (hb4.block _ (Array.getElem?_eq_some_iff.1 hyF).1).trans hyF
        have h4w : Below w.heap.size w W4 := hyw.trans (hb4.mono hyw.size)
        have h4q := hHQ.later hb4
        clear hE hb4 hyF hyw hHQ
        obtain ⟨A4, hA4⟩ : ∃ A4, W4.alloc (.cells (blk E) 25) = A4 := ⟨_, rfl⟩
        have hA4F : A4.heap[W1.heap.size]? = some (.cells (blk F) 25) := by rw [← hA4]; exact (heap_alloc_old _ _ (Array.getElem?_eq_some_iff.1 h4F).1).trans h4F
        have hA4E : A4.heap[W4.heap.size]? = some (.cells (blk E) 25) := by rw [← hA4]; exact heap_alloc_new _ _
        have hA4w : Below w.heap.size w A4 := by rw [← hA4]; exact h4w.alloc h4w.size _
        have hA4q : Lies A4 (.slice aq m cq) m q := by rw [← hA4]; exact h4q.later ((Below.refl _ _).alloc (Nat.le_refl _) _)
        have HA4 : Hid (W4.alloc (.cells (blk E) 25) = A4) := hA4
        clear hA4 h4F h4w h4q
        have hkN : k < 1024 := by omega
        obtain ⟨L, hL⟩ : ∃ L, min m (1024 - k) = L := ⟨_, rfl⟩
        have HL : Hid (min m (1024 - k) = L) := hL
        have hLm : L ≤ m := by omega
        have hin : Lies A4 (.slice aq L cq) L q := hA4q.start hLm
        have HP1 : Hid (∀ i, i < L → from' E (insLo k m) i = q i) := show _ from fun i hi => by rw [← HE.out]; exact piece_laid F q k m hkN i (by omega)
        have HP2 : Hid (∀ i, i < k → from' E (insLo 0 k) i = from' F (insLo 0 k) i) := show _ from fun i hi => by rw [← HE.out]; exact piece_before F q k m i hi
        clear HE
        have hsl := fun (h : (1024 : Int) - k < m) u => slice22any aq m cq L ((1024 : Int) - k) (by omega) (by have := hA4q.le_cap; omega) u
        have hLe : ¬ (1024 : Int) - k < m → L = m := by omega
        clear hL
        by_cases hlen : (1024 : Int) - k < m
        · have hsl := hsl hlen
          clear hLe
          go_wp2_with (first | refine wpList_store25_new rfl _ _ rfl _ _ rfl rfl ?_)
          rw [HA4.out]
          refine wp_region_ord (S := fun u => Below A4.heap.size A4 u) [(0, true), (1, true), (2, true), (3, true), (5, true), (4, false), (6, false), (7, true), (8, true), (9, true), (10, true), (12, true), (13, true), (11, false), (14, false), (15, false), (16, true), (17, true)]
            (by kernel_rfl) rfl (by kernel_rfl) (fun d _ _ _ _ h => by cases d <;> exact h) (Below.refl _ _).drew ?_
          simp only [inOrd, List.getElem?_cons_zero, List.getElem?_cons_succ]
          refine wpOrd_load25 A4 rfl _ rfl _ rfl _ hA4E ?_
          simp only [Act.put, List.setIfInBounds_toArray, List.set_cons_succ, List.set_cons_zero]
          refine wpOrd_move rfl _ rfl ?_
          simp only [Act.put, List.setIfInBounds_toArray, List.set_cons_succ, List.set_cons_zero]
          refine wpOrd_move rfl _ rfl ?_
          simp only [Act.put, List.setIfInBounds_toArray, List.set_cons_succ, List.set_cons_zero]
          refine wpOrd_yield (v := .int .i64 (m : Int)) rfl (fun u _ => by go_simp) ?_
          simp only [Act.put, List.setIfInBounds_toArray, List.set_cons_succ, List.set_cons_zero]
          refine wpOrd_move rfl _ rfl ?_
          simp only [Act.put, List.setIfInBounds_toArray, List.set_cons_succ, List.set_cons_zero]
          refine wpOrd_call rfl 19 _ _ rfl Try.call19 [.agg (blk E), .int .i64 (k : Int), .int .i64 (m : Int)] rfl ?_
          refine (piece_at E k m L _ hkN HL.out (by omega)).mono ?_
          rintro e X1 ⟨rfl, hx1, hb1⟩
          have hS1 : Below A4.heap.size A4 X1 := (Below.refl _ _).drew.trans hb1
          refine ⟨_, rfl, hS1, ?_⟩
          simp only [Act.put, List.setIfInBounds_toArray, List.set_cons_succ, List.set_cons_zero]
          refine wpOrd_call rfl 20 _ _ rfl Try.call20 [.slice (some ⟨A4.drew.heap.size + 1, 0, none⟩) L L, .slice aq L cq] rfl ?_
          refine (same_lies hx1 (hin.later hS1) HP1.out).mono ?_
          rintro e X2 ⟨rfl, hb2⟩
          have hS2 : Below A4.heap.size A4 X2 := hS1.trans (hb2.mono hS1.size)
          refine ⟨_, rfl, hS2, ?_⟩
          simp only [Act.put, List.setIfInBounds_toArray, List.set_cons_succ, List.set_cons_zero]
          refine wpOrd_yield (v := .bool false) rfl (fun u _ => by go_simp) ?_
          simp only [Act.put, List.setIfInBounds_toArray, List.set_cons_succ, List.set_cons_zero]
          refine wpOrd_move rfl _ rfl ?_
          simp only [Act.put, List.setIfInBounds_toArray, List.set_cons_succ, List.set_cons_zero]
          refine wpOrd_load25 A4 rfl _ rfl _ rfl _ hA4E ?_
          simp only [Act.put, List.setIfInBounds_toArray, List.set_cons_succ, List.set_cons_zero]
          refine wpOrd_move rfl _ rfl ?_
          simp only [Act.put, List.setIfInBounds_toArray, List.set_cons_succ, List.set_cons_zero]
          refine wpOrd_load25 A4 rfl _ rfl _ rfl _ hA4F ?_
          simp only [Act.put, List.setIfInBounds_toArray, List.set_cons_succ, List.set_cons_zero]
          refine wpOrd_move rfl _ rfl ?_
          simp only [Act.put, List.setIfInBounds_toArray, List.set_cons_succ, List.set_cons_zero]
          refine wpOrd_call rfl 19 _ _ rfl Try.call19 [.agg (blk E), .int .i64 0, .int .i64 (k : Int)] rfl ?_
          refine (piece_zero E k _ hkN).mono ?_
          rintro e X3 ⟨rfl, hx3, hb3⟩
          have hS3 : Below A4.heap.size A4 X3 := hS2.trans (hb3.mono hS2.size)
          refine ⟨_, rfl, hS3, ?_⟩
          simp only [Act.put, List.setIfInBounds_toArray, List.set_cons_succ, List.set_cons_zero]
          refine wpOrd_call rfl 19 _ _ rfl Try.call19 [.agg (blk F), .int .i64 0, .int .i64 (k : Int)] rfl ?_
          refine (piece_zero F k _ hkN).mono ?_
          rintro e X4 ⟨rfl, hx4, hb4⟩
          have hS4 : Below A4.heap.size A4 X4 := hS3.trans (hb4.mono hS3.size)
          refine ⟨_, rfl, hS4, ?_⟩
          simp only [Act.put, List.setIfInBounds_toArray, List.set_cons_succ, List.set_cons_zero]
          refine wpOrd_call rfl 20 _ _ rfl Try.call20 [.slice (some ⟨X2.heap.size + 1, 0, none⟩) k k, .slice (some ⟨X3.heap.size + 1, 0, none⟩) k k] rfl ?_
          refine (same_lies (hx3.later hb4) hx4 HP2.out).mono ?_
          rintro e X5 ⟨rfl, hb5⟩
          have hS5 : Below A4.heap.size A4 X5 := hS4.trans (hb5.mono hS4.size)
          refine ⟨_, rfl, hS5, ?_⟩
          simp only [Act.put, List.setIfInBounds_toArray, List.set_cons_succ, List.set_cons_zero]
          refine wpOrd_yield (v := .bool false) rfl (fun u _ => by go_simp) ?_
          simp only [Act.put, List.setIfInBounds_toArray, List.set_cons_succ, List.set_cons_zero]
          refine wpOrd_yield (v := .bool false) rfl (fun u _ => by go_simp) ?_
          simp only [Act.put, List.setIfInBounds_toArray, List.set_cons_succ, List.set_cons_zero]
          refine wpOrd_nil ?_
          have h5q := hA4q.later hS5
          have h5w : Below w.heap.size w X5 := hA4w.trans (hS5.mono hA4w.size)
          clear hS1 hS2 hS3 hS4 hS5 hx1 hx3 hx4 hb1 hb2 hb3 hb4 hb5 HP1 HP2 hin HL hA4q hA4w hA4E hA4F HA4
          go_wp2_with fail
          refine (cut_lies h5q (by omega)).mono ?_
          rintro e X6 ⟨rfl, hl6, hs6, hb6⟩
          have hbl : (((blocksOf m : Nat) : Int) == ((m : Int) + 1024 - 1) / 1024) = true := by unfold blocksOf; rw [beq_iff_eq]; omega
          have h6l := blocks_lie hl6 (by unfold blocksOf; omega)
          have h6j := join_all m
          have h6q := h5q.later hb6
          have h6w := h5w.trans (hb6.mono h5w.size)
          clear hl6 hs6 hb6 h5q h5w
          go_wp2_with fail
          refine (join_lies h6l m (by omega)).mono ?_
          rintro e X7 ⟨rfl, hl7, _, hb7⟩
          rw [h6j] at hl7 ⊢
          have h7l := row_lies hl7 (by unfold maxLen; omega)
          have h7q := h6q.later hb7
          have h7w := h6w.trans (hb7.mono h6w.size)
          clear hl7 h6l h6j h6q h6w hb7
          go_wp2_with fail
          refine (same_lies h7l h7q fun i hi => by unfold firsts; rw [if_pos hi]).mono ?_
          rintro e X8 ⟨rfl, hb8⟩
          go_wp2
          go_ret
          exact ⟨rfl, h7w.trans (hb8.mono h7w.size)⟩
        · obtain rfl := hLe hlen
          clear hsl hLe
          go_wp2_with (first | refine wpList_store25_new rfl _ _ rfl _ _ rfl rfl ?_)
          rw [HA4.out]
          refine wp_region_ord (S := fun u => Below A4.heap.size A4 u) [(0, true), (1, true), (2, true), (3, true), (5, true), (4, false), (6, false), (7, true), (8, true), (9, true), (10, true), (12, true), (13, true), (11, false), (14, false), (15, false), (16, true), (17, true)]
            (by kernel_rfl) rfl (by kernel_rfl) (fun d _ _ _ _ h => by cases d <;> exact h) (Below.refl _ _).drew ?_
          simp only [inOrd, List.getElem?_cons_zero, List.getElem?_cons_succ]
          refine wpOrd_load25 A4 rfl _ rfl _ rfl _ hA4E ?_
          simp only [Act.put, List.setIfInBounds_toArray, List.set_cons_succ, List.set_cons_zero]
          refine wpOrd_move rfl _ rfl ?_
          simp only [Act.put, List.setIfInBounds_toArray, List.set_cons_succ, List.set_cons_zero]
          refine wpOrd_move rfl _ rfl ?_
          simp only [Act.put, List.setIfInBounds_toArray, List.set_cons_succ, List.set_cons_zero]
          refine wpOrd_yield (v := .int .i64 (L : Int)) rfl (fun u _ => by go_simp) ?_
          simp only [Act.put, List.setIfInBounds_toArray, List.set_cons_succ, List.set_cons_zero]
          refine wpOrd_move rfl _ rfl ?_
          simp only [Act.put, List.setIfInBounds_toArray, List.set_cons_succ, List.set_cons_zero]
          refine wpOrd_call rfl 19 _ _ rfl Try.call19 [.agg (blk E), .int .i64 (k : Int), .int .i64 (L : Int)] rfl ?_
          refine (piece_at E k L L _ hkN HL.out (by omega)).mono ?_
          rintro e X1 ⟨rfl, hx1, hb1⟩
          have hS1 : Below A4.heap.size A4 X1 := (Below.refl _ _).drew.trans hb1
          refine ⟨_, rfl, hS1, ?_⟩
          simp only [Act.put, List.setIfInBounds_toArray, List.set_cons_succ, List.set_cons_zero]
          refine wpOrd_call rfl 20 _ _ rfl Try.call20 [.slice (some ⟨A4.drew.heap.size + 1, 0, none⟩) L L, .slice aq L cq] rfl ?_
          refine (same_lies hx1 (hin.later hS1) HP1.out).mono ?_
          rintro e X2 ⟨rfl, hb2⟩
          have hS2 : Below A4.heap.size A4 X2 := hS1.trans (hb2.mono hS1.size)
          refine ⟨_, rfl, hS2, ?_⟩
          simp only [Act.put, List.setIfInBounds_toArray, List.set_cons_succ, List.set_cons_zero]
          refine wpOrd_yield (v := .bool false) rfl (fun u _ => by go_simp) ?_
          simp only [Act.put, List.setIfInBounds_toArray, List.set_cons_succ, List.set_cons_zero]
          refine wpOrd_move rfl _ rfl ?_
          simp only [Act.put, List.setIfInBounds_toArray, List.set_cons_succ, List.set_cons_zero]
          refine wpOrd_load25 A4 rfl _ rfl _ rfl _ hA4E ?_
          simp only [Act.put, List.setIfInBounds_toArray, List.set_cons_succ, List.set_cons_zero]
          refine wpOrd_move rfl _ rfl ?_
          simp only [Act.put, List.setIfInBounds_toArray, List.set_cons_succ, List.set_cons_zero]
          refine wpOrd_load25 A4 rfl _ rfl _ rfl _ hA4F ?_
          simp only [Act.put, List.setIfInBounds_toArray, List.set_cons_succ, List.set_cons_zero]
          refine wpOrd_move rfl _ rfl ?_
          simp only [Act.put, List.setIfInBounds_toArray, List.set_cons_succ, List.set_cons_zero]
          refine wpOrd_call rfl 19 _ _ rfl Try.call19 [.agg (blk E), .int .i64 0, .int .i64 (k : Int)] rfl ?_
          refine (piece_zero E k _ hkN).mono ?_
          rintro e X3 ⟨rfl, hx3, hb3⟩
          have hS3 : Below A4.heap.size A4 X3 := hS2.trans (hb3.mono hS2.size)
          refine ⟨_, rfl, hS3, ?_⟩
          simp only [Act.put, List.setIfInBounds_toArray, List.set_cons_succ, List.set_cons_zero]
          refine wpOrd_call rfl 19 _ _ rfl Try.call19 [.agg (blk F), .int .i64 0, .int .i64 (k : Int)] rfl ?_
          refine (piece_zero F k _ hkN).mono ?_
          rintro e X4 ⟨rfl, hx4, hb4⟩
          have hS4 : Below A4.heap.size A4 X4 := hS3.trans (hb4.mono hS3.size)
          refine ⟨_, rfl, hS4, ?_⟩
          simp only [Act.put, List.setIfInBounds_toArray, List.set_cons_succ, List.set_cons_zero]
          refine wpOrd_call rfl 20 _ _ rfl Try.call20 [.slice (some ⟨X2.heap.size + 1, 0, none⟩) k k, .slice (some ⟨X3.heap.size + 1, 0, none⟩) k k] rfl ?_
          refine (same_lies (hx3.later hb4) hx4 HP2.out).mono ?_
          rintro e X5 ⟨rfl, hb5⟩
          have hS5 : Below A4.heap.size A4 X5 := hS4.trans (hb5.mono hS4.size)
          refine ⟨_, rfl, hS5, ?_⟩
          simp only [Act.put, List.setIfInBounds_toArray, List.set_cons_succ, List.set_cons_zero]
          refine wpOrd_yield (v := .bool false) rfl (fun u _ => by go_simp) ?_
          simp only [Act.put, List.setIfInBounds_toArray, List.set_cons_succ, List.set_cons_zero]
          refine wpOrd_yield (v := .bool false) rfl (fun u _ => by go_simp) ?_
          simp only [Act.put, List.setIfInBounds_toArray, List.set_cons_succ, List.set_cons_zero]
          refine wpOrd_nil ?_
          have h5q := hA4q.later hS5
          have h5w : Below w.heap.size w X5 := hA4w.trans (hS5.mono hA4w.size)
          clear hS1 hS2 hS3 hS4 hS5 hx1 hx3 hx4 hb1 hb2 hb3 hb4 hb5 HP1 HP2 hin HL hA4q hA4w hA4E hA4F HA4
          go_wp2_with fail
          refine (cut_lies h5q (by omega)).mono ?_
          rintro e X6 ⟨rfl, hl6, hs6, hb6⟩
          have hbl : (((blocksOf L : Nat) : Int) == ((L : Int) + 1024 - 1) / 1024) = true := by unfold blocksOf; rw [beq_iff_eq]; omega
          have h6l := blocks_lie hl6 (by unfold blocksOf; omega)
          have h6j := join_all L
          have h6q := h5q.later hb6
          have h6w := h5w.trans (hb6.mono h5w.size)
          clear hl6 hs6 hb6 h5q h5w
          go_wp2_with fail
          refine (join_lies h6l L (by omega)).mono ?_
          rintro e X7 ⟨rfl, hl7, _, hb7⟩
          rw [h6j] at hl7 ⊢
          have h7l := row_lies hl7 (by unfold maxLen; omega)
          have h7q := h6q.later hb7
          have h7w := h6w.trans (hb7.mono h6w.size)
          clear hl7 h6l h6j h6q h6w hb7
          go_wp2_with fail
          refine (same_lies h7l h7q fun i hi => by unfold firsts; rw [if_pos hi]).mono ?_
          rintro e X8 ⟨rfl, hb8⟩
          go_wp2
          go_ret
          exact ⟨rfl, h7w.trans (hb8.mono h7w.size)⟩
      · have d1 : decide ((k : Int) ≤ 1020) = false := decide_eq_false h1
        have d2 : decide ((k : Int) ≤ 1022) = true := decide_eq_true h2
        go_wp2_with (first | refine wpList_later_leq _ _ rfl A (below_drewN (Below.refl _ _) _) ?_)
        repeat (first
          | (go_big_quiet_want; refine quiet_load25 _ rfl _ rfl _ hAC ?_; simp only [Act.put, List.setIfInBounds_toArray, List.set_cons_succ, List.set_cons_zero]; go_big_quiet_on)
          | (go_big_quiet_want; refine quiet_load25 _ rfl _ rfl _ hAD ?_; simp only [Act.put, List.setIfInBounds_toArray, List.set_cons_succ, List.set_cons_zero]; go_big_quiet_on)
          | go_big_quiet_step (first
              | (go_at_call 12; exact Later.call _ (K1.out _ (H1.out h1)))
              | (go_at_call 10; exact Later.call _ (K2.out _ (H2.out h2)))))
        refine wpQuiet_nil ?_
        intro y
        have hyF : y.val.heap[W1.heap.size]? = some (.cells (blk F) 25) := (y.heap _ (Array.getElem?_eq_some_iff.1 hAF).1).trans hAF
        have hHQ := HQ y
        have hyw : Below w.heap.size w y.val := hAw.trans (y.below.mono hAw.size)
        clear hAF hAC hAD K1 K2 HQ hAw hne H1 H2 H3 hi2 d1 d2 h1 h2
        go_wp2_with (first | refine wpList_load25 rfl _ rfl _ rfl _ hyF ?_)
        refine (lay_any F k _ m q _ (by omega) hHQ).mono ?_
        rintro e W4 ⟨rfl, hb4⟩
        obtain ⟨E, hE⟩ : ∃ E, layF F (k : Int) m q = E := ⟨_, rfl⟩
        rw [hE]
        have HE : Hid (layF F (k : Int) m q = E) := hE
        have h4F : W4.heap[W1.heap.size]? = some (.cells (blk F) 25) := (hb4.block _ (Array.getElem?_eq_some_iff.1 hyF).1).trans hyF
        have h4w : Below w.heap.size w W4 := hyw.trans (hb4.mono hyw.size)
        have h4q := hHQ.later hb4
        clear hE hb4 hyF hyw hHQ
        obtain ⟨A4, hA4⟩ : ∃ A4, W4.alloc (.cells (blk E) 25) = A4 := ⟨_, rfl⟩
        have hA4F : A4.heap[W1.heap.size]? = some (.cells (blk F) 25) := by rw [← hA4]; exact (heap_alloc_old _ _ (Array.getElem?_eq_some_iff.1 h4F).1).trans h4F
        have hA4E : A4.heap[W4.heap.size]? = some (.cells (blk E) 25) := by rw [← hA4]; exact heap_alloc_new _ _
        have hA4w : Below w.heap.size w A4 := by rw [← hA4]; exact h4w.alloc h4w.size _
        have hA4q : Lies A4 (.slice aq m cq) m q := by rw [← hA4]; exact h4q.later ((Below.refl _ _).alloc (Nat.le_refl _) _)
        have HA4 : Hid (W4.alloc (.cells (blk E) 25) = A4) := hA4
        clear hA4 h4F h4w h4q
        have hkN : k < 1024 := by omega
        obtain ⟨L, hL⟩ : ∃ L, min m (1024 - k) = L := ⟨_, rfl⟩
        have HL : Hid (min m (1024 - k) = L) := hL
        have hLm : L ≤ m := by omega
        have hin : Lies A4 (.slice aq L cq) L q := hA4q.start hLm
        have HP1 : Hid (∀ i, i < L → from' E (insLo k m) i = q i) := show _ from fun i hi => by rw [← HE.out]; exact piece_laid F q k m hkN i (by omega)
        have HP2 : Hid (∀ i, i < k → from' E (insLo 0 k) i = from' F (insLo 0 k) i) := show _ from fun i hi => by rw [← HE.out]; exact piece_before F q k m i hi
        clear HE
        have hsl := fun (h : (1024 : Int) - k < m) u => slice22any aq m cq L ((1024 : Int) - k) (by omega) (by have := hA4q.le_cap; omega) u
        have hLe : ¬ (1024 : Int) - k < m → L = m := by omega
        clear hL
        by_cases hlen : (1024 : Int) - k < m
        · have hsl := hsl hlen
          clear hLe
          go_wp2_with (first | refine wpList_store25_new rfl _ _ rfl _ _ rfl rfl ?_)
          rw [HA4.out]
          refine wp_region_ord (S := fun u => Below A4.heap.size A4 u) [(0, true), (1, true), (2, true), (3, true), (5, true), (4, false), (6, false), (7, true), (8, true), (9, true), (10, true), (12, true), (13, true), (11, false), (14, false), (15, false), (16, true), (17, true)]
            (by kernel_rfl) rfl (by kernel_rfl) (fun d _ _ _ _ h => by cases d <;> exact h) (Below.refl _ _).drew ?_
          simp only [inOrd, List.getElem?_cons_zero, List.getElem?_cons_succ]
          refine wpOrd_load25 A4 rfl _ rfl _ rfl _ hA4E ?_
          simp only [Act.put, List.setIfInBounds_toArray, List.set_cons_succ, List.set_cons_zero]
          refine wpOrd_move rfl _ rfl ?_
          simp only [Act.put, List.setIfInBounds_toArray, List.set_cons_succ, List.set_cons_zero]
          refine wpOrd_move rfl _ rfl ?_
          simp only [Act.put, List.setIfInBounds_toArray, List.set_cons_succ, List.set_cons_zero]
          refine wpOrd_yield (v := .int .i64 (m : Int)) rfl (fun u _ => by go_simp) ?_
          simp only [Act.put, List.setIfInBounds_toArray, List.set_cons_succ, List.set_cons_zero]
          refine wpOrd_move rfl _ rfl ?_
          simp only [Act.put, List.setIfInBounds_toArray, List.set_cons_succ, List.set_cons_zero]
          refine wpOrd_call rfl 19 _ _ rfl Try.call19 [.agg (blk E), .int .i64 (k : Int), .int .i64 (m : Int)] rfl ?_
          refine (piece_at E k m L _ hkN HL.out (by omega)).mono ?_
          rintro e X1 ⟨rfl, hx1, hb1⟩
          have hS1 : Below A4.heap.size A4 X1 := (Below.refl _ _).drew.trans hb1
          refine ⟨_, rfl, hS1, ?_⟩
          simp only [Act.put, List.setIfInBounds_toArray, List.set_cons_succ, List.set_cons_zero]
          refine wpOrd_call rfl 20 _ _ rfl Try.call20 [.slice (some ⟨A4.drew.heap.size + 1, 0, none⟩) L L, .slice aq L cq] rfl ?_
          refine (same_lies hx1 (hin.later hS1) HP1.out).mono ?_
          rintro e X2 ⟨rfl, hb2⟩
          have hS2 : Below A4.heap.size A4 X2 := hS1.trans (hb2.mono hS1.size)
          refine ⟨_, rfl, hS2, ?_⟩
          simp only [Act.put, List.setIfInBounds_toArray, List.set_cons_succ, List.set_cons_zero]
          refine wpOrd_yield (v := .bool false) rfl (fun u _ => by go_simp) ?_
          simp only [Act.put, List.setIfInBounds_toArray, List.set_cons_succ, List.set_cons_zero]
          refine wpOrd_move rfl _ rfl ?_
          simp only [Act.put, List.setIfInBounds_toArray, List.set_cons_succ, List.set_cons_zero]
          refine wpOrd_load25 A4 rfl _ rfl _ rfl _ hA4E ?_
          simp only [Act.put, List.setIfInBounds_toArray, List.set_cons_succ, List.set_cons_zero]
          refine wpOrd_move rfl _ rfl ?_
          simp only [Act.put, List.setIfInBounds_toArray, List.set_cons_succ, List.set_cons_zero]
          refine wpOrd_load25 A4 rfl _ rfl _ rfl _ hA4F ?_
          simp only [Act.put, List.setIfInBounds_toArray, List.set_cons_succ, List.set_cons_zero]
          refine wpOrd_move rfl _ rfl ?_
          simp only [Act.put, List.setIfInBounds_toArray, List.set_cons_succ, List.set_cons_zero]
          refine wpOrd_call rfl 19 _ _ rfl Try.call19 [.agg (blk E), .int .i64 0, .int .i64 (k : Int)] rfl ?_
          refine (piece_zero E k _ hkN).mono ?_
          rintro e X3 ⟨rfl, hx3, hb3⟩
          have hS3 : Below A4.heap.size A4 X3 := hS2.trans (hb3.mono hS2.size)
          refine ⟨_, rfl, hS3, ?_⟩
          simp only [Act.put, List.setIfInBounds_toArray, List.set_cons_succ, List.set_cons_zero]
          refine wpOrd_call rfl 19 _ _ rfl Try.call19 [.agg (blk F), .int .i64 0, .int .i64 (k : Int)] rfl ?_
          refine (piece_zero F k _ hkN).mono ?_
          rintro e X4 ⟨rfl, hx4, hb4⟩
          have hS4 : Below A4.heap.size A4 X4 := hS3.trans (hb4.mono hS3.size)
          refine ⟨_, rfl, hS4, ?_⟩
          simp only [Act.put, List.setIfInBounds_toArray, List.set_cons_succ, List.set_cons_zero]
          refine wpOrd_call rfl 20 _ _ rfl Try.call20 [.slice (some ⟨X2.heap.size + 1, 0, none⟩) k k, .slice (some ⟨X3.heap.size + 1, 0, none⟩) k k] rfl ?_
          refine (same_lies (hx3.later hb4) hx4 HP2.out).mono ?_
          rintro e X5 ⟨rfl, hb5⟩
          have hS5 : Below A4.heap.size A4 X5 := hS4.trans (hb5.mono hS4.size)
          refine ⟨_, rfl, hS5, ?_⟩
          simp only [Act.put, List.setIfInBounds_toArray, List.set_cons_succ, List.set_cons_zero]
          refine wpOrd_yield (v := .bool false) rfl (fun u _ => by go_simp) ?_
          simp only [Act.put, List.setIfInBounds_toArray, List.set_cons_succ, List.set_cons_zero]
          refine wpOrd_yield (v := .bool false) rfl (fun u _ => by go_simp) ?_
          simp only [Act.put, List.setIfInBounds_toArray, List.set_cons_succ, List.set_cons_zero]
          refine wpOrd_nil ?_
          have h5q := hA4q.later hS5
          have h5w : Below w.heap.size w X5 := hA4w.trans (hS5.mono hA4w.size)
          clear hS1 hS2 hS3 hS4 hS5 hx1 hx3 hx4 hb1 hb2 hb3 hb4 hb5 HP1 HP2 hin HL hA4q hA4w hA4E hA4F HA4
          go_wp2_with fail
          refine (cut_lies h5q (by omega)).mono ?_
          rintro e X6 ⟨rfl, hl6, hs6, hb6⟩
          have hbl : (((blocksOf m : Nat) : Int) == ((m : Int) + 1024 - 1) / 1024) = true := by unfold blocksOf; rw [beq_iff_eq]; omega
          have h6l := blocks_lie hl6 (by unfold blocksOf; omega)
          have h6j := join_all m
          have h6q := h5q.later hb6
          have h6w := h5w.trans (hb6.mono h5w.size)
          clear hl6 hs6 hb6 h5q h5w
          go_wp2_with fail
          refine (join_lies h6l m (by omega)).mono ?_
          rintro e X7 ⟨rfl, hl7, _, hb7⟩
          rw [h6j] at hl7 ⊢
          have h7l := row_lies hl7 (by unfold maxLen; omega)
          have h7q := h6q.later hb7
          have h7w := h6w.trans (hb7.mono h6w.size)
          clear hl7 h6l h6j h6q h6w hb7
          go_wp2_with fail
          refine (same_lies h7l h7q fun i hi => by unfold firsts; rw [if_pos hi]).mono ?_
          rintro e X8 ⟨rfl, hb8⟩
          go_wp2
          go_ret
          exact ⟨rfl, h7w.trans (hb8.mono h7w.size)⟩
        · obtain rfl := hLe hlen
          clear hsl hLe
          go_wp2_with (first | refine wpList_store25_new rfl _ _ rfl _ _ rfl rfl ?_)
          rw [HA4.out]
          refine wp_region_ord (S := fun u => Below A4.heap.size A4 u) [(0, true), (1, true), (2, true), (3, true), (5, true), (4, false), (6, false), (7, true), (8, true), (9, true), (10, true), (12, true), (13, true), (11, false), (14, false), (15, false), (16, true), (17, true)]
            (by kernel_rfl) rfl (by kernel_rfl) (fun d _ _ _ _ h => by cases d <;> exact h) (Below.refl _ _).drew ?_
          simp only [inOrd, List.getElem?_cons_zero, List.getElem?_cons_succ]
          refine wpOrd_load25 A4 rfl _ rfl _ rfl _ hA4E ?_
          simp only [Act.put, List.setIfInBounds_toArray, List.set_cons_succ, List.set_cons_zero]
          refine wpOrd_move rfl _ rfl ?_
          simp only [Act.put, List.setIfInBounds_toArray, List.set_cons_succ, List.set_cons_zero]
          refine wpOrd_move rfl _ rfl ?_
          simp only [Act.put, List.setIfInBounds_toArray, List.set_cons_succ, List.set_cons_zero]
          refine wpOrd_yield (v := .int .i64 (L : Int)) rfl (fun u _ => by go_simp) ?_
          simp only [Act.put, List.setIfInBounds_toArray, List.set_cons_succ, List.set_cons_zero]
          refine wpOrd_move rfl _ rfl ?_
          simp only [Act.put, List.setIfInBounds_toArray, List.set_cons_succ, List.set_cons_zero]
          refine wpOrd_call rfl 19 _ _ rfl Try.call19 [.agg (blk E), .int .i64 (k : Int), .int .i64 (L : Int)] rfl ?_
          refine (piece_at E k L L _ hkN HL.out (by omega)).mono ?_
          rintro e X1 ⟨rfl, hx1, hb1⟩
          have hS1 : Below A4.heap.size A4 X1 := (Below.refl _ _).drew.trans hb1
          refine ⟨_, rfl, hS1, ?_⟩
          simp only [Act.put, List.setIfInBounds_toArray, List.set_cons_succ, List.set_cons_zero]
          refine wpOrd_call rfl 20 _ _ rfl Try.call20 [.slice (some ⟨A4.drew.heap.size + 1, 0, none⟩) L L, .slice aq L cq] rfl ?_
          refine (same_lies hx1 (hin.later hS1) HP1.out).mono ?_
          rintro e X2 ⟨rfl, hb2⟩
          have hS2 : Below A4.heap.size A4 X2 := hS1.trans (hb2.mono hS1.size)
          refine ⟨_, rfl, hS2, ?_⟩
          simp only [Act.put, List.setIfInBounds_toArray, List.set_cons_succ, List.set_cons_zero]
          refine wpOrd_yield (v := .bool false) rfl (fun u _ => by go_simp) ?_
          simp only [Act.put, List.setIfInBounds_toArray, List.set_cons_succ, List.set_cons_zero]
          refine wpOrd_move rfl _ rfl ?_
          simp only [Act.put, List.setIfInBounds_toArray, List.set_cons_succ, List.set_cons_zero]
          refine wpOrd_load25 A4 rfl _ rfl _ rfl _ hA4E ?_
          simp only [Act.put, List.setIfInBounds_toArray, List.set_cons_succ, List.set_cons_zero]
          refine wpOrd_move rfl _ rfl ?_
          simp only [Act.put, List.setIfInBounds_toArray, List.set_cons_succ, List.set_cons_zero]
          refine wpOrd_load25 A4 rfl _ rfl _ rfl _ hA4F ?_
          simp only [Act.put, List.setIfInBounds_toArray, List.set_cons_succ, List.set_cons_zero]
          refine wpOrd_move rfl _ rfl ?_
          simp only [Act.put, List.setIfInBounds_toArray, List.set_cons_succ, List.set_cons_zero]
          refine wpOrd_call rfl 19 _ _ rfl Try.call19 [.agg (blk E), .int .i64 0, .int .i64 (k : Int)] rfl ?_
          refine (piece_zero E k _ hkN).mono ?_
          rintro e X3 ⟨rfl, hx3, hb3⟩
          have hS3 : Below A4.heap.size A4 X3 := hS2.trans (hb3.mono hS2.size)
          refine ⟨_, rfl, hS3, ?_⟩
          simp only [Act.put, List.setIfInBounds_toArray, List.set_cons_succ, List.set_cons_zero]
          refine wpOrd_call rfl 19 _ _ rfl Try.call19 [.agg (blk F), .int .i64 0, .int .i64 (k : Int)] rfl ?_
          refine (piece_zero F k _ hkN).mono ?_
          rintro e X4 ⟨rfl, hx4, hb4⟩
          have hS4 : Below A4.heap.size A4 X4 := hS3.trans (hb4.mono hS3.size)
          refine ⟨_, rfl, hS4, ?_⟩
          simp only [Act.put, List.setIfInBounds_toArray, List.set_cons_succ, List.set_cons_zero]
          refine wpOrd_call rfl 20 _ _ rfl Try.call20 [.slice (some ⟨X2.heap.size + 1, 0, none⟩) k k, .slice (some ⟨X3.heap.size + 1, 0, none⟩) k k] rfl ?_
          refine (same_lies (hx3.later hb4) hx4 HP2.out).mono ?_
          rintro e X5 ⟨rfl, hb5⟩
          have hS5 : Below A4.heap.size A4 X5 := hS4.trans (hb5.mono hS4.size)
          refine ⟨_, rfl, hS5, ?_⟩
          simp only [Act.put, List.setIfInBounds_toArray, List.set_cons_succ, List.set_cons_zero]
          refine wpOrd_yield (v := .bool false) rfl (fun u _ => by go_simp) ?_
          simp only [Act.put, List.setIfInBounds_toArray, List.set_cons_succ, List.set_cons_zero]
          refine wpOrd_yield (v := .bool false) rfl (fun u _ => by go_simp) ?_
          simp only [Act.put, List.setIfInBounds_toArray, List.set_cons_succ, List.set_cons_zero]
          refine wpOrd_nil ?_
          have h5q := hA4q.later hS5
          have h5w : Below w.heap.size w X5 := hA4w.trans (hS5.mono hA4w.size)
          clear hS1 hS2 hS3 hS4 hS5 hx1 hx3 hx4 hb1 hb2 hb3 hb4 hb5 HP1 HP2 hin HL hA4q hA4w hA4E hA4F HA4
          go_wp2_with fail
          refine (cut_lies h5q (by omega)).mono ?_
          rintro e X6 ⟨rfl, hl6, hs6, hb6⟩
          have hbl : (((blocksOf L : Nat) : Int) == ((L : Int) + 1024 - 1) / 1024) = true := by unfold blocksOf; rw [beq_iff_eq]; omega
          have h6l := blocks_lie hl6 (by unfold blocksOf; omega)
          have h6j := join_all L
          have h6q := h5q.later hb6
          have h6w := h5w.trans (hb6.mono h5w.size)
          clear hl6 hs6 hb6 h5q h5w
          go_wp2_with fail
          refine (join_lies h6l L (by omega)).mono ?_
          rintro e X7 ⟨rfl, hl7, _, hb7⟩
          rw [h6j] at hl7 ⊢
          have h7l := row_lies hl7 (by unfold maxLen; omega)
          have h7q := h6q.later hb7
          have h7w := h6w.trans (hb7.mono h6w.size)
          clear hl7 h6l h6j h6q h6w hb7
          go_wp2_with fail
          refine (same_lies h7l h7q fun i hi => by unfold firsts; rw [if_pos hi]).mono ?_
          rintro e X8 ⟨rfl, hb8⟩
          go_wp2
          go_ret
          exact ⟨rfl, h7w.trans (hb8.mono h7w.size)⟩
      · have d1 : decide ((k : Int) ≤ 1020) = false := decide_eq_false h1
        have d2 : decide ((k : Int) ≤ 1022) = false := decide_eq_false h2
        go_wp2_with (first | refine wpList_later_leq _ _ rfl A (below_drewN (Below.refl _ _) _) ?_)
        repeat (first
          | (go_big_quiet_want; refine quiet_load25 _ rfl _ rfl _ hAC ?_; simp only [Act.put, List.setIfInBounds_toArray, List.set_cons_succ, List.set_cons_zero]; go_big_quiet_on)
          | (go_big_quiet_want; refine quiet_load25 _ rfl _ rfl _ hAD ?_; simp only [Act.put, List.setIfInBounds_toArray, List.set_cons_succ, List.set_cons_zero]; go_big_quiet_on)
          | go_big_quiet_step (first
              | (go_at_call 12; exact Later.call _ (K1.out _ (H1.out h1)))
              | (go_at_call 10; exact Later.call _ (K2.out _ (H2.out h2)))))
        refine wpQuiet_nil ?_
        intro y
        have hyF : y.val.heap[W1.heap.size]? = some (.cells (blk F) 25) := (y.heap _ (Array.getElem?_eq_some_iff.1 hAF).1).trans hAF
        have hHQ := HQ y
        have hyw : Below w.heap.size w y.val := hAw.trans (y.below.mono hAw.size)
        clear hAF hAC hAD K1 K2 HQ hAw hne H1 H2 H3 hi2 d1 d2 h1 h2
        go_wp2_with (first | refine wpList_load25 rfl _ rfl _ rfl _ hyF ?_)
        refine (lay_any F k _ m q _ (by omega) hHQ).mono ?_
        rintro e W4 ⟨rfl, hb4⟩
        obtain ⟨E, hE⟩ : ∃ E, layF F (k : Int) m q = E := ⟨_, rfl⟩
        rw [hE]
        have HE : Hid (layF F (k : Int) m q = E) := hE
        have h4F : W4.heap[W1.heap.size]? = some (.cells (blk F) 25) := (hb4.block _ (Array.getElem?_eq_some_iff.1 hyF).1).trans hyF
        have h4w : Below w.heap.size w W4 := hyw.trans (hb4.mono hyw.size)
        have h4q := hHQ.later hb4
        clear hE hb4 hyF hyw hHQ
        obtain ⟨A4, hA4⟩ : ∃ A4, W4.alloc (.cells (blk E) 25) = A4 := ⟨_, rfl⟩
        have hA4F : A4.heap[W1.heap.size]? = some (.cells (blk F) 25) := by rw [← hA4]; exact (heap_alloc_old _ _ (Array.getElem?_eq_some_iff.1 h4F).1).trans h4F
        have hA4E : A4.heap[W4.heap.size]? = some (.cells (blk E) 25) := by rw [← hA4]; exact heap_alloc_new _ _
        have hA4w : Below w.heap.size w A4 := by rw [← hA4]; exact h4w.alloc h4w.size _
        have hA4q : Lies A4 (.slice aq m cq) m q := by rw [← hA4]; exact h4q.later ((Below.refl _ _).alloc (Nat.le_refl _) _)
        have HA4 : Hid (W4.alloc (.cells (blk E) 25) = A4) := hA4
        clear hA4 h4F h4w h4q
        have hkN : k < 1024 := by omega
        obtain ⟨L, hL⟩ : ∃ L, min m (1024 - k) = L := ⟨_, rfl⟩
        have HL : Hid (min m (1024 - k) = L) := hL
        have hLm : L ≤ m := by omega
        have hin : Lies A4 (.slice aq L cq) L q := hA4q.start hLm
        have HP1 : Hid (∀ i, i < L → from' E (insLo k m) i = q i) := show _ from fun i hi => by rw [← HE.out]; exact piece_laid F q k m hkN i (by omega)
        have HP2 : Hid (∀ i, i < k → from' E (insLo 0 k) i = from' F (insLo 0 k) i) := show _ from fun i hi => by rw [← HE.out]; exact piece_before F q k m i hi
        clear HE
        have hsl := fun (h : (1024 : Int) - k < m) u => slice22any aq m cq L ((1024 : Int) - k) (by omega) (by have := hA4q.le_cap; omega) u
        have hLe : ¬ (1024 : Int) - k < m → L = m := by omega
        clear hL
        by_cases hlen : (1024 : Int) - k < m
        · have hsl := hsl hlen
          clear hLe
          go_wp2_with (first | refine wpList_store25_new rfl _ _ rfl _ _ rfl rfl ?_)
          rw [HA4.out]
          refine wp_region_ord (S := fun u => Below A4.heap.size A4 u) [(0, true), (1, true), (2, true), (3, true), (5, true), (4, false), (6, false), (7, true), (8, true), (9, true), (10, true), (12, true), (13, true), (11, false), (14, false), (15, false), (16, true), (17, true)]
            (by kernel_rfl) rfl (by kernel_rfl) (fun d _ _ _ _ h => by cases d <;> exact h) (Below.refl _ _).drew ?_
          simp only [inOrd, List.getElem?_cons_zero, List.getElem?_cons_succ]
          refine wpOrd_load25 A4 rfl _ rfl _ rfl _ hA4E ?_
          simp only [Act.put, List.setIfInBounds_toArray, List.set_cons_succ, List.set_cons_zero]
          refine wpOrd_move rfl _ rfl ?_
          simp only [Act.put, List.setIfInBounds_toArray, List.set_cons_succ, List.set_cons_zero]
          refine wpOrd_move rfl _ rfl ?_
          simp only [Act.put, List.setIfInBounds_toArray, List.set_cons_succ, List.set_cons_zero]
          refine wpOrd_yield (v := .int .i64 (m : Int)) rfl (fun u _ => by go_simp) ?_
          simp only [Act.put, List.setIfInBounds_toArray, List.set_cons_succ, List.set_cons_zero]
          refine wpOrd_move rfl _ rfl ?_
          simp only [Act.put, List.setIfInBounds_toArray, List.set_cons_succ, List.set_cons_zero]
          refine wpOrd_call rfl 19 _ _ rfl Try.call19 [.agg (blk E), .int .i64 (k : Int), .int .i64 (m : Int)] rfl ?_
          refine (piece_at E k m L _ hkN HL.out (by omega)).mono ?_
          rintro e X1 ⟨rfl, hx1, hb1⟩
          have hS1 : Below A4.heap.size A4 X1 := (Below.refl _ _).drew.trans hb1
          refine ⟨_, rfl, hS1, ?_⟩
          simp only [Act.put, List.setIfInBounds_toArray, List.set_cons_succ, List.set_cons_zero]
          refine wpOrd_call rfl 20 _ _ rfl Try.call20 [.slice (some ⟨A4.drew.heap.size + 1, 0, none⟩) L L, .slice aq L cq] rfl ?_
          refine (same_lies hx1 (hin.later hS1) HP1.out).mono ?_
          rintro e X2 ⟨rfl, hb2⟩
          have hS2 : Below A4.heap.size A4 X2 := hS1.trans (hb2.mono hS1.size)
          refine ⟨_, rfl, hS2, ?_⟩
          simp only [Act.put, List.setIfInBounds_toArray, List.set_cons_succ, List.set_cons_zero]
          refine wpOrd_yield (v := .bool false) rfl (fun u _ => by go_simp) ?_
          simp only [Act.put, List.setIfInBounds_toArray, List.set_cons_succ, List.set_cons_zero]
          refine wpOrd_move rfl _ rfl ?_
          simp only [Act.put, List.setIfInBounds_toArray, List.set_cons_succ, List.set_cons_zero]
          refine wpOrd_load25 A4 rfl _ rfl _ rfl _ hA4E ?_
          simp only [Act.put, List.setIfInBounds_toArray, List.set_cons_succ, List.set_cons_zero]
          refine wpOrd_move rfl _ rfl ?_
          simp only [Act.put, List.setIfInBounds_toArray, List.set_cons_succ, List.set_cons_zero]
          refine wpOrd_load25 A4 rfl _ rfl _ rfl _ hA4F ?_
          simp only [Act.put, List.setIfInBounds_toArray, List.set_cons_succ, List.set_cons_zero]
          refine wpOrd_move rfl _ rfl ?_
          simp only [Act.put, List.setIfInBounds_toArray, List.set_cons_succ, List.set_cons_zero]
          refine wpOrd_call rfl 19 _ _ rfl Try.call19 [.agg (blk E), .int .i64 0, .int .i64 (k : Int)] rfl ?_
          refine (piece_zero E k _ hkN).mono ?_
          rintro e X3 ⟨rfl, hx3, hb3⟩
          have hS3 : Below A4.heap.size A4 X3 := hS2.trans (hb3.mono hS2.size)
          refine ⟨_, rfl, hS3, ?_⟩
          simp only [Act.put, List.setIfInBounds_toArray, List.set_cons_succ, List.set_cons_zero]
          refine wpOrd_call rfl 19 _ _ rfl Try.call19 [.agg (blk F), .int .i64 0, .int .i64 (k : Int)] rfl ?_
          refine (piece_zero F k _ hkN).mono ?_
          rintro e X4 ⟨rfl, hx4, hb4⟩
          have hS4 : Below A4.heap.size A4 X4 := hS3.trans (hb4.mono hS3.size)
          refine ⟨_, rfl, hS4, ?_⟩
          simp only [Act.put, List.setIfInBounds_toArray, List.set_cons_succ, List.set_cons_zero]
          refine wpOrd_call rfl 20 _ _ rfl Try.call20 [.slice (some ⟨X2.heap.size + 1, 0, none⟩) k k, .slice (some ⟨X3.heap.size + 1, 0, none⟩) k k] rfl ?_
          refine (same_lies (hx3.later hb4) hx4 HP2.out).mono ?_
          rintro e X5 ⟨rfl, hb5⟩
          have hS5 : Below A4.heap.size A4 X5 := hS4.trans (hb5.mono hS4.size)
          refine ⟨_, rfl, hS5, ?_⟩
          simp only [Act.put, List.setIfInBounds_toArray, List.set_cons_succ, List.set_cons_zero]
          refine wpOrd_yield (v := .bool false) rfl (fun u _ => by go_simp) ?_
          simp only [Act.put, List.setIfInBounds_toArray, List.set_cons_succ, List.set_cons_zero]
          refine wpOrd_yield (v := .bool false) rfl (fun u _ => by go_simp) ?_
          simp only [Act.put, List.setIfInBounds_toArray, List.set_cons_succ, List.set_cons_zero]
          refine wpOrd_nil ?_
          have h5q := hA4q.later hS5
          have h5w : Below w.heap.size w X5 := hA4w.trans (hS5.mono hA4w.size)
          clear hS1 hS2 hS3 hS4 hS5 hx1 hx3 hx4 hb1 hb2 hb3 hb4 hb5 HP1 HP2 hin HL hA4q hA4w hA4E hA4F HA4
          go_wp2_with fail
          refine (cut_lies h5q (by omega)).mono ?_
          rintro e X6 ⟨rfl, hl6, hs6, hb6⟩
          have hbl : (((blocksOf m : Nat) : Int) == ((m : Int) + 1024 - 1) / 1024) = true := by unfold blocksOf; rw [beq_iff_eq]; omega
          have h6l := blocks_lie hl6 (by unfold blocksOf; omega)
          have h6j := join_all m
          have h6q := h5q.later hb6
          have h6w := h5w.trans (hb6.mono h5w.size)
          clear hl6 hs6 hb6 h5q h5w
          go_wp2_with fail
          refine (join_lies h6l m (by omega)).mono ?_
          rintro e X7 ⟨rfl, hl7, _, hb7⟩
          rw [h6j] at hl7 ⊢
          have h7l := row_lies hl7 (by unfold maxLen; omega)
          have h7q := h6q.later hb7
          have h7w := h6w.trans (hb7.mono h6w.size)
          clear hl7 h6l h6j h6q h6w hb7
          go_wp2_with fail
          refine (same_lies h7l h7q fun i hi => by unfold firsts; rw [if_pos hi]).mono ?_
          rintro e X8 ⟨rfl, hb8⟩
          go_wp2
          go_ret
          exact ⟨rfl, h7w.trans (hb8.mono h7w.size)⟩
        · obtain rfl := hLe hlen
          clear hsl hLe
          go_wp2_with (first | refine wpList_store25_new rfl _ _ rfl _ _ rfl rfl ?_)
          rw [HA4.out]
          refine wp_region_ord (S := fun u => Below A4.heap.size A4 u) [(0, true), (1, true), (2, true), (3, true), (5, true), (4, false), (6, false), (7, true), (8, true), (9, true), (10, true), (12, true), (13, true), (11, false), (14, false), (15, false), (16, true), (17, true)]
            (by kernel_rfl) rfl (by kernel_rfl) (fun d _ _ _ _ h => by cases d <;> exact h) (Below.refl _ _).drew ?_
          simp only [inOrd, List.getElem?_cons_zero, List.getElem?_cons_succ]
          refine wpOrd_load25 A4 rfl _ rfl _ rfl _ hA4E ?_
          simp only [Act.put, List.setIfInBounds_toArray, List.set_cons_succ, List.set_cons_zero]
          refine wpOrd_move rfl _ rfl ?_
          simp only [Act.put, List.setIfInBounds_toArray, List.set_cons_succ, List.set_cons_zero]
          refine wpOrd_move rfl _ rfl ?_
          simp only [Act.put, List.setIfInBounds_toArray, List.set_cons_succ, List.set_cons_zero]
          refine wpOrd_yield (v := .int .i64 (L : Int)) rfl (fun u _ => by go_simp) ?_
          simp only [Act.put, List.setIfInBounds_toArray, List.set_cons_succ, List.set_cons_zero]
          refine wpOrd_move rfl _ rfl ?_
          simp only [Act.put, List.setIfInBounds_toArray, List.set_cons_succ, List.set_cons_zero]
          refine wpOrd_call rfl 19 _ _ rfl Try.call19 [.agg (blk E), .int .i64 (k : Int), .int .i64 (L : Int)] rfl ?_
          refine (piece_at E k L L _ hkN HL.out (by omega)).mono ?_
          rintro e X1 ⟨rfl, hx1, hb1⟩
          have hS1 : Below A4.heap.size A4 X1 := (Below.refl _ _).drew.trans hb1
          refine ⟨_, rfl, hS1, ?_⟩
          simp only [Act.put, List.setIfInBounds_toArray, List.set_cons_succ, List.set_cons_zero]
          refine wpOrd_call rfl 20 _ _ rfl Try.call20 [.slice (some ⟨A4.drew.heap.size + 1, 0, none⟩) L L, .slice aq L cq] rfl ?_
          refine (same_lies hx1 (hin.later hS1) HP1.out).mono ?_
          rintro e X2 ⟨rfl, hb2⟩
          have hS2 : Below A4.heap.size A4 X2 := hS1.trans (hb2.mono hS1.size)
          refine ⟨_, rfl, hS2, ?_⟩
          simp only [Act.put, List.setIfInBounds_toArray, List.set_cons_succ, List.set_cons_zero]
          refine wpOrd_yield (v := .bool false) rfl (fun u _ => by go_simp) ?_
          simp only [Act.put, List.setIfInBounds_toArray, List.set_cons_succ, List.set_cons_zero]
          refine wpOrd_move rfl _ rfl ?_
          simp only [Act.put, List.setIfInBounds_toArray, List.set_cons_succ, List.set_cons_zero]
          refine wpOrd_load25 A4 rfl _ rfl _ rfl _ hA4E ?_
          simp only [Act.put, List.setIfInBounds_toArray, List.set_cons_succ, List.set_cons_zero]
          refine wpOrd_move rfl _ rfl ?_
          simp only [Act.put, List.setIfInBounds_toArray, List.set_cons_succ, List.set_cons_zero]
          refine wpOrd_load25 A4 rfl _ rfl _ rfl _ hA4F ?_
          simp only [Act.put, List.setIfInBounds_toArray, List.set_cons_succ, List.set_cons_zero]
          refine wpOrd_move rfl _ rfl ?_
          simp only [Act.put, List.setIfInBounds_toArray, List.set_cons_succ, List.set_cons_zero]
          refine wpOrd_call rfl 19 _ _ rfl Try.call19 [.agg (blk E), .int .i64 0, .int .i64 (k : Int)] rfl ?_
          refine (piece_zero E k _ hkN).mono ?_
          rintro e X3 ⟨rfl, hx3, hb3⟩
          have hS3 : Below A4.heap.size A4 X3 := hS2.trans (hb3.mono hS2.size)
          refine ⟨_, rfl, hS3, ?_⟩
          simp only [Act.put, List.setIfInBounds_toArray, List.set_cons_succ, List.set_cons_zero]
          refine wpOrd_call rfl 19 _ _ rfl Try.call19 [.agg (blk F), .int .i64 0, .int .i64 (k : Int)] rfl ?_
          refine (piece_zero F k _ hkN).mono ?_
          rintro e X4 ⟨rfl, hx4, hb4⟩
          have hS4 : Below A4.heap.size A4 X4 := hS3.trans (hb4.mono hS3.size)
          refine ⟨_, rfl, hS4, ?_⟩
          simp only [Act.put, List.setIfInBounds_toArray, List.set_cons_succ, List.set_cons_zero]
          refine wpOrd_call rfl 20 _ _ rfl Try.call20 [.slice (some ⟨X2.heap.size + 1, 0, none⟩) k k, .slice (some ⟨X3.heap.size + 1, 0, none⟩) k k] rfl ?_
          refine (same_lies (hx3.later hb4) hx4 HP2.out).mono ?_
          rintro e X5 ⟨rfl, hb5⟩
          have hS5 : Below A4.heap.size A4 X5 := hS4.trans (hb5.mono hS4.size)
          refine ⟨_, rfl, hS5, ?_⟩
          simp only [Act.put, List.setIfInBounds_toArray, List.set_cons_succ, List.set_cons_zero]
          refine wpOrd_yield (v := .bool false) rfl (fun u _ => by go_simp) ?_
          simp only [Act.put, List.setIfInBounds_toArray, List.set_cons_succ, List.set_cons_zero]
          refine wpOrd_yield (v := .bool false) rfl (fun u _ => by go_simp) ?_
          simp only [Act.put, List.setIfInBounds_toArray, List.set_cons_succ, List.set_cons_zero]
          refine wpOrd_nil ?_
          have h5q := hA4q.later hS5
          have h5w : Below w.heap.size w X5 := hA4w.trans (hS5.mono hA4w.size)
          clear hS1 hS2 hS3 hS4 hS5 hx1 hx3 hx4 hb1 hb2 hb3 hb4 hb5 HP1 HP2 hin HL hA4q hA4w hA4E hA4F HA4
          go_wp2_with fail
          refine (cut_lies h5q (by omega)).mono ?_
          rintro e X6 ⟨rfl, hl6, hs6, hb6⟩
          have hbl : (((blocksOf L : Nat) : Int) == ((L : Int) + 1024 - 1) / 1024) = true := by unfold blocksOf; rw [beq_iff_eq]; omega
          have h6l := blocks_lie hl6 (by unfold blocksOf; omega)
          have h6j := join_all L
          have h6q := h5q.later hb6
          have h6w := h5w.trans (hb6.mono h5w.size)
          clear hl6 hs6 hb6 h5q h5w
          go_wp2_with fail
          refine (join_lies h6l L (by omega)).mono ?_
          rintro e X7 ⟨rfl, hl7, _, hb7⟩
          rw [h6j] at hl7 ⊢
          have h7l := row_lies hl7 (by unfold maxLen; omega)
          have h7q := h6q.later hb7
          have h7w := h6w.trans (hb7.mono h6w.size)
          clear hl7 h6l h6j h6q h6w hb7
          go_wp2_with fail
          refine (same_lies h7l h7q fun i hi => by unfold firsts; rw [if_pos hi]).mono ?_
          rintro e X8 ⟨rfl, hb8⟩
          go_wp2
          go_ret
          exact ⟨rfl, h7w.trans (hb8.mono h7w.size)⟩
end Go.Proofs.Ytedbgeibhaiheaa
