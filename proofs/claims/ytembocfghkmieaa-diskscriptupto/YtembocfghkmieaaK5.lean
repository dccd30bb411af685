/- Several texts joined, each with its own remark; no condition. -/
import Derived.Test.YtembocfghkmieaaK4
import Derived.Deep.Slices
import Derived.ProofKit
import Derived.OpenShut
/- The law of disks that are none answers true, whatever acts came in; no condition. -/
namespace Go.Proofs.Ytembocfghkmieaa
open Go.RowKit

/-- An act that came in: six cells at a place. -/
structure ActAt (w : World) (b off : Nat) where
  o : Int
  k : Int
  pos : Int
  n : Int
  pa : Option Addr
  pl : Nat
  pc : Nat
  pf : Nat → Int
  ka : Option Addr
  kc : Nat
  kl : List Bool
  hb : b < w.heap.size
  c0 : w.cell? ⟨b, off, none⟩ = some (.int .i64 o)
  c1 : w.cell? ⟨b, off + 1, none⟩ = some (.int .i64 k)
  c2 : w.cell? ⟨b, off + 2, none⟩ = some (.int .i64 pos)
  c3 : w.cell? ⟨b, off + 3, none⟩ = some (.slice pa pl pc)
  c4 : w.cell? ⟨b, off + 4, none⟩ = some (.int .i64 n)
  c5 : w.cell? ⟨b, off + 5, none⟩ = some (.slice ka kl.length kc)
  lies : Lies w (.slice pa pl pc) pl pf
  byte : ∀ i, 0 ≤ pf i ∧ pf i ≤ 255
  bools : BoolsAt w (.slice ka kl.length kc) kl
  ho : -9223372036854775808 ≤ o ∧ o ≤ 9223372036854775807
  hk : -9223372036854775808 ≤ k ∧ k ≤ 9223372036854775807
  hp : -9223372036854775808 ≤ pos ∧ pos ≤ 9223372036854775807
  hn : -9223372036854775808 ≤ n ∧ n ≤ 9223372036854775807
  hkl : kl.length ≤ maxLen
/-- A list of acts. -/
def ActsAt (w : World) (a : Option Addr) (len : Nat) : Prop := (len : Int) ≤ 9223372036854775807 ∧ ∀ r, r < len → ∃ b off, a = some ⟨b, off, none⟩ ∧ Nonempty (ActAt w b (off + r * 6))
theorem rangeAct {w : World} {b off : Nat} (A : ActAt w b off) : w.rangeAt b off (actC A.o A.k A.pos (.slice A.pa A.pl A.pc) A.n (.slice A.ka A.kl.length A.kc)).toList := fun j v hv => by
  match j, hv with
  | 0, hv => cases hv; exact A.c0
  | 1, hv => cases hv; exact A.c1
  | 2, hv => cases hv; exact A.c2
  | 3, hv => cases hv; exact A.c3
  | 4, hv => cases hv; exact A.c4
  | 5, hv => cases hv; exact A.c5
  | n + 6, hv => simp [actC] at hv
theorem size44 : (Try.prog.info? 44).map (·.size) = some 6 := by kernel_rfl
theorem load44 {w : World} {b off : Nat} {cs : Array Value} (h : w.rangeAt b off cs.toList) (hs : cs.size = 6) : (Instr.loadAt 44 (.pointer (some ⟨b, off, none⟩))).run Try.prog w = .ok (.agg cs) w := by
  have hr := run_loadAt_mid (P := Try.prog) w b off 44 cs.toList _ h Try.underlying44 rfl (by rw [Array.length_toList, hs]; exact size44)
  rwa [Array.toArray_toList] at hr
theorem wpList_load44 {ops : Array Oper} {rest : List Oper} {o : Oper} {a : Act} {w : World} {Q : Exit → Act → World → Prop} (hw : Region.wanted o (yielded ops a.tmps) = true) (x : Operand) (ho : o.op = .load 44 x)
    (g off : Nat) (hx : a.eval x = .pointer (some ⟨g, off, none⟩)) (cs : Array Value) (hg : w.rangeAt g off cs.toList) (hs : cs.size = 6)
    (h : wpList Try.prog ops Q rest (a.put o.dst (.agg cs)) w) : wpList Try.prog ops Q (o :: rest) a w :=
  BigFrame.wpList_want hw fun _ hK => by
    unfold Oper.wp execOp
    simp only [ho, hx, load44 hg hs, Sem.run_bind, Result.andThen_ok, Sem.run_pure]
    exact hK _ _ h
theorem range_later {w w' : World} {b off : Nat} {cs : List Value} (h : w.rangeAt b off cs) (hb : Below w.heap.size w w') (hlt : b < w.heap.size) : w'.rangeAt b off cs := fun j v hv => (hb.cell (p := ⟨b, off + j, none⟩) hlt).trans (h j v hv)
/-- A disk that nobody made. -/
def rawRow : Array Value := #[.pointer none, .int .i64 0, .map none, .slice none 0 0, .int .i64 0, .map none, .int .i64 0, .bool false, .int .i64 0, .int .i64 0, .int .i64 0, .bool false]
theorem none_raw {w : World} {g : Nat} (h : w.heap[g]? = some (.cells rawRow 74)) : NoneAt w (.pointer (some ⟨g, 0, none⟩)) := .inr ⟨g, rfl, Joins.cell_of_block h 0⟩
theorem lies_nil (w : World) (f : Nat → Int) : Lies w (.slice none 0 0) 0 f := .inl ⟨none, 0, rfl, rfl, fun _ => rfl⟩
set_option maxRecDepth 20000 in
set_option maxHeartbeats 2000000 in
theorem law_none (a : Option Addr) (len cap : Nat) (w : World) (h : ActsAt w a len) : Calls Try.prog 5 #[.slice a len cap] w fun e w' => e = .returned (.bool true) ∧ Below w.heap.size w w' := by
  obtain ⟨hlen, hacts⟩ := h
  have HA : Hid (∀ r, r < len → ∃ b off, a = some ⟨b, off, none⟩ ∧ Nonempty (ActAt w b (off + r * 6))) := hacts
  clear hacts
  go_enter Try.func5, Try.ntmps5
  go_wp2_with (go_at_call 28; fail)
  have hG := heap_alloc_new w (.cells rawRow 74)
  have hB := below_new w (.cells rawRow 74)
  unfold rawRow at hG hB
  refine (awake_any _).mono ?_
  rintro e W1 ⟨rfl, hb1⟩
  have HG1 : Hid (W1.heap[w.heap.size]? = some (.cells rawRow 74)) := heap_kept hG hb1
  have HB1 : Hid (Below w.heap.size w W1) := below_next hB hb1
  clear hG hB hb1
  go_wp2
  go_loopw [5] (fun s5 wx => ∃ k : Nat, k ≤ len ∧ s5 = .int .i64 k ∧ Hid (wx.heap[w.heap.size]? = some (.cells rawRow 74)) ∧ Hid (Below w.heap.size w wx)) (fun s5 _ => len - (intOf s5).toNat)
  case atStart => exact ⟨0, by omega, rfl, HG1.out, HB1.out⟩
  case round =>
    obtain ⟨k, hk, rfl, HG, HB⟩ := hrel
    clear HG1 HB1
    by_cases hk2 : (k : Int) < len
    · obtain ⟨b, off, rfl, ⟨A⟩⟩ := HA.out k (by omega)
      have hr1 := range_later (rangeAct A) HB.out A.hb
      have hL1 := A.lies.later HB.out
      have hbl := A.hb
      generalize hcs : actC A.o A.k A.pos (.slice A.pa A.pl A.pc) A.n (.slice A.ka A.kl.length A.kc) = cs at hr1
      have hs6 : cs.size = 6 := by rw [← hcs]; rfl
      have N1 := none_any (w := wr) (v := .pointer none) (.inl rfl) A.o A.k A.pos A.n hL1 A.ka A.kl.length A.kc
      rw [hcs] at N1
      have HN1 : Hid (Calls Try.prog 29 #[.pointer none, .agg cs] wr fun e w' => e = .returned (.bool true) ∧ Below wr.heap.size wr w') := N1
      clear N1
      go_wp2_with (first | refine wpList_load44 rfl (.tmp 15) rfl b (off + k * 6) rfl cs hr1 hs6 ?_ | (go_at_call 29; fail))
      refine HN1.out.mono ?_
      rintro e W2 ⟨rfl, hb2⟩
      have hr2 := range_later hr1 hb2 (Nat.lt_of_lt_of_le hbl HB.out.size)
      have hG2 := heap_kept HG.out hb2
      have HB2 : Hid (Below w.heap.size w W2) := below_next HB.out hb2
      have N2 := none_any (none_raw hG2) A.o A.k A.pos A.n (hL1.later hb2) A.ka A.kl.length A.kc
      rw [hcs] at N2
      have HN2 : Hid (Calls Try.prog 29 #[.pointer (some ⟨w.heap.size, 0, none⟩), .agg cs] W2 fun e w' => e = .returned (.bool true) ∧ Below W2.heap.size W2 w') := N2
      have HG2 : Hid (W2.heap[w.heap.size]? = some (.cells rawRow 74)) := hG2
      clear N2 hr1 hL1 hb2 hG2 HG HB HN1
      go_wp2_with (first | refine wpList_load44 rfl (.tmp 22) rfl b (off + k * 6) rfl cs hr2 hs6 ?_ | (go_at_call 29; fail))
      refine HN2.out.mono ?_
      rintro e W3 ⟨rfl, hb3⟩
      have HG3 : Hid (W3.heap[w.heap.size]? = some (.cells rawRow 74)) := heap_kept HG2.out hb3
      have HB3 : Hid (Below w.heap.size w W3) := below_next HB2.out hb3
      clear hb3 HG2 HB2 HN2 hr2
      go_wp2
      exact ⟨⟨k + 1, by omega, by go_num, HG3.out, HB3.out⟩, by simp [intOf]; omega⟩
    · have N1 := none_any (w := wr) (v := .pointer none) (.inl rfl) 0 0 0 0 (lies_nil wr nought) none 0 0
      have HN1 : Hid (Calls Try.prog 29 #[.pointer none, .agg #[.int .i64 0, .int .i64 0, .int .i64 0, .slice none 0 0, .int .i64 0, .slice none 0 0]] wr fun e w' => e = .returned (.bool true) ∧ Below wr.heap.size wr w') := N1
      clear N1
      go_wp2_with (go_at_call 29; fail)
      refine HN1.out.mono ?_
      rintro e W2 ⟨rfl, hb2⟩
      have N2 := none_any (none_raw (heap_kept HG.out hb2)) 0 0 0 0 (lies_nil W2 nought) none 0 0
      have HN2 : Hid (Calls Try.prog 29 #[.pointer (some ⟨w.heap.size, 0, none⟩), .agg #[.int .i64 0, .int .i64 0, .int .i64 0, .slice none 0 0, .int .i64 0, .slice none 0 0]] W2 fun e w' => e = .returned (.bool true) ∧ Below W2.heap.size W2 w') := N2
      have HB2 : Hid (Below w.heap.size w W2) := below_next HB.out hb2
      clear N2 hb2 HG HB HN1
      go_wp2_with (go_at_call 29; fail)
      refine HN2.out.mono ?_
      rintro e W3 ⟨rfl, hb3⟩
      have HB3 : Hid (Below w.heap.size w W3) := below_next HB2.out hb3
      clear hb3 HB2 HN2
      go_wp2
      go_ret
      exact ⟨rfl, HB3.out⟩
end Go.Proofs.Ytembocfghkmieaa
/- What lists of bytes, bools and acts that came in tell a walk; for all that can be read. -/
namespace Go.Proofs.Ytembocfghkmieaa
open Go.RowKit Go.ChangeShapes Go.WideShapes

section
variable {H : Type} {enc : TypeId × Value → H} {w : World} {base : Nat} {sp : Nat → Bool} {held : Bool} {v : Value} {x : DataW H × List MemPlace} {fuel : Nat}
theorem plain_addr {a : Addr} {v : Value} (h : w.cell? (a.add 0) = some v) : ∃ b off, a = ⟨b, off, none⟩ ∧ b < w.heap.size := by
  obtain ⟨b, off, spot⟩ := a
  have hs : spot = none := by simpa [Addr.add] using World.cell?_spot h
  subst hs
  rw [Go.WideShapes.add_plain] at h
  exact ⟨b, off, rfl, cell_lt h⟩
theorem bytes_of_trod (h : DataW.trod enc Try.prog w base sp held fuel 41 [v] = some x) : ∃ a len cap f, v = .slice a len cap ∧ Lies w v len f ∧ ∀ i, 0 ≤ f i ∧ f i ≤ 255 := by
  rcases Go.Deep.open_slice1 Try.underlying41 (by kernel_rfl) h with ⟨h0, _⟩ | ⟨a, len, cap, m, n, V, D, Pl, hv, _, hl, hm, hmm, _, hc⟩
  · have hv : v = .slice none 0 0 := by simpa using h0
    subst hv
    exact ⟨none, 0, 0, fun _ => 0, rfl, .inl ⟨none, 0, rfl, rfl, fun _ => rfl⟩, fun i => ⟨by simp, by simp⟩⟩
  · have hv' : v = .slice (some a) len cap := by simpa using hv
    subst hv'
    have hlm : len ≤ m := by rw [hmm]; split <;> omega
    have key : ∀ i, ∃ z : Int, (0 ≤ z ∧ z ≤ 255) ∧ (i < len → w.cell? (a.add i) = some (.int .u8 z)) := fun i => by
      by_cases hi : i < len
      · obtain ⟨h1, h2⟩ := hc i (by omega)
        obtain ⟨z, hz, _, hw⟩ := DataW.trod_int Try.underlying5 h2
        have hz' : V i = .int .u8 z := by simpa using hz
        exact ⟨z, bounds_u8 hw, fun _ => by rw [h1, hz']⟩
      · exact ⟨0, by omega, fun q => absurd q hi⟩
    obtain ⟨f, hf⟩ := Classical.skolem.1 key
    refine ⟨some a, len, cap, f, rfl, ?_, fun i => (hf i).1⟩
    by_cases h0 : len = 0
    · subst h0
      exact .inl ⟨some a, cap, rfl, rfl, fun q => by cases q⟩
    · obtain ⟨b, off, rfl, hb⟩ := plain_addr ((hf 0).2 (by omega))
      refine .inr ⟨b, off, cap, rfl, by omega, hl, hb, fun i hi => ?_⟩
      have q := (hf i).2 hi
      rwa [Go.WideShapes.add_plain] at q
theorem bools_of_trod (h : DataW.trod enc Try.prog w base sp held fuel 42 [v] = some x) : ∃ a cap l, v = .slice a (List.length l) cap ∧ BoolsAt w v l ∧ l.length ≤ maxLen := by
  rcases Go.Deep.open_slice1 Try.underlying42 (by kernel_rfl) h with ⟨h0, _⟩ | ⟨a, len, cap, m, n, V, D, Pl, hv, _, hl, hm, hmm, _, hc⟩
  · have hv : v = .slice none 0 0 := by simpa using h0
    subst hv
    exact ⟨none, 0, [], rfl, bools_nil w, by unfold maxLen; simp⟩
  · have hv' : v = .slice (some a) len cap := by simpa using hv
    subst hv'
    have hlm : len ≤ m := by rw [hmm]; split <;> omega
    have key : ∀ i, ∃ z : Bool, (i < len → w.cell? (a.add i) = some (.bool z)) := fun i => by
      by_cases hi : i < len
      · obtain ⟨h1, h2⟩ := hc i (by omega)
        obtain ⟨z, hz, _⟩ := DataW.trod_bool Try.underlying4 h2
        have hz' : V i = .bool z := by simpa using hz
        exact ⟨z, fun _ => by rw [h1, hz']⟩
      · exact ⟨false, fun q => absurd q hi⟩
    obtain ⟨f, hf⟩ := Classical.skolem.1 key
    have hll : ((List.range len).map f).length = len := by simp
    refine ⟨some a, cap, (List.range len).map f, by rw [hll], ⟨some a, cap, by rw [hll], fun h0 => ?_⟩, by rw [hll]; omega⟩
    rw [hll] at h0
    obtain ⟨b, off, rfl, hb⟩ := plain_addr (hf 0 (by omega))
    refine ⟨b, off, rfl, fun i x hx => ?_⟩
    have hi : i < len := by have := (List.getElem?_eq_some_iff.1 hx).1; rwa [hll] at this
    have q := hf i hi
    rw [Go.WideShapes.add_plain] at q
    rw [q]
    rw [List.getElem?_map, List.getElem?_range hi] at hx
    exact congrArg some (congrArg Value.bool (by simpa using hx))
theorem int_of_trod {c : List Value} {n : Nat} {y : Option (DataW H × List MemPlace)} {z : DataW H × List MemPlace} (h : DataW.trod enc Try.prog w base sp held n 3 c = y) (hy : y = some z) : ∃ k, c = [.int .i64 k] ∧ -9223372036854775808 ≤ k ∧ k ≤ 9223372036854775807 := by
  rw [hy] at h
  obtain ⟨k, hk, _, hw⟩ := DataW.trod_int Try.underlying3 h
  have := bounds_i64 hw
  exact ⟨k, hk, this.1, this.2⟩
theorem list6 {α : Type} {l : List α} (h : l.length = 6) : ∃ a b c d e f, l = [a, b, c, d, e, f] := by
  match l, h with
  | [a, b, c, d, e, f], _ => exact ⟨a, b, c, d, e, f, rfl⟩
theorem add_at {b off i j : Nat} : ((⟨b, off, none⟩ : Addr).add i).add j = ⟨b, off + i + j, none⟩ := by
  rw [Go.WideShapes.add_plain, Go.WideShapes.add_plain]
/-- A list whose elements are rows of k cells lies at a plain place. -/
theorem plain_rows {a : Addr} {k : Nat} {cs : List Value} (h : w.cells? base (a.add (0 * k)) k = some cs) (hk : 0 < k) : ∃ b off, a = ⟨b, off, none⟩ ∧ b < w.heap.size := by
  obtain ⟨_, hlen, hcell⟩ := World.cells?_some h
  have h0 := hcell 0 hk
  rw [Nat.zero_mul, Go.Deep.add_add, Nat.add_zero, List.getElem?_eq_getElem (by omega)] at h0
  exact plain_addr h0
theorem acts_of_trod (h : DataW.trod enc Try.prog w base sp held fuel 23 [v] = some x) : ∃ a len cap, v = .slice a len cap ∧ ActsAt w a len := by
  rcases Go.Deep.open_slice Try.underlying23 h with ⟨h0, _⟩ | ⟨a, len, cap, m, n, D, Pl, hv, _, hl, hm, hmm, _, hc⟩
  · have hv : v = .slice none 0 0 := by simpa using h0
    subst hv
    exact ⟨none, 0, 0, rfl, by decide, fun r hr => absurd hr (by omega)⟩
  · have hv' : v = .slice (some a) len cap := by simpa using hv
    subst hv'
    have hlm : len ≤ m := by rw [hmm]; split <;> omega
    refine ⟨some a, len, cap, rfl, by unfold maxLen at hm; omega, fun r hr => ?_⟩
    obtain ⟨cs0, h01, _⟩ := hc 0 (by omega)
    obtain ⟨cs, h1, h2⟩ := hc r (by omega)
    have c44 : Try.prog.cellsOf 44 = 6 := by kernel_rfl
    have c3 : Try.prog.cellsOf 3 = 1 := by kernel_rfl
    have c41 : Try.prog.cellsOf 41 = 1 := by kernel_rfl
    have c42 : Try.prog.cellsOf 42 = 1 := by kernel_rfl
    obtain ⟨b, off, rfl, hb⟩ := plain_rows h01 (by rw [c44]; omega)
    rw [c44] at h1
    obtain ⟨_, hlen, hcell⟩ := World.cells?_some h1
    obtain ⟨xs, q, _, _, _, hxl, hf⟩ := DataW.trod_struct Try.underlying44 h2
    obtain ⟨y0, y1, y2, y3, y4, y5, rfl⟩ := list6 (show xs.length = 6 from hxl)
    obtain ⟨v0, v1, v2, v3, v4, v5, rfl⟩ := list6 hlen
    have g0 := hf 0 _ rfl
    have g1 := hf 1 _ rfl
    have g2 := hf 2 _ rfl
    have g3 := hf 3 _ rfl
    have g4 := hf 4 _ rfl
    have g5 := hf 5 _ rfl
    simp [c3, c41, c42] at g0 g1 g2 g3 g4 g5
    obtain ⟨o, ho, ho1⟩ := int_of_trod g0 rfl
    obtain ⟨k, hk, hk1⟩ := int_of_trod g1 rfl
    obtain ⟨pos, hp, hp1⟩ := int_of_trod g2 rfl
    obtain ⟨n', hn, hn1⟩ := int_of_trod g4 rfl
    obtain ⟨pa, pl, pc, pf, rfl, hlies, hbyte⟩ := bytes_of_trod g3
    obtain ⟨ka, kc, kl, rfl, hbools, hkl⟩ := bools_of_trod g5
    have e0 : v0 = .int .i64 o := by simpa using ho
    have e1 : v1 = .int .i64 k := by simpa using hk
    have e2 : v2 = .int .i64 pos := by simpa using hp
    have e4 : v4 = .int .i64 n' := by simpa using hn
    subst e0 e1 e2 e4
    have k0 := hcell 0 (by omega)
    have k1 := hcell 1 (by omega)
    have k2 := hcell 2 (by omega)
    have k3 := hcell 3 (by omega)
    have k4 := hcell 4 (by omega)
    have k5 := hcell 5 (by omega)
    rw [add_at] at k0 k1 k2 k3 k4 k5
    exact ⟨b, off, rfl, ⟨⟨o, k, pos, n', pa, pl, pc, pf, ka, kc, kl, hb, k0, k1, k2, k3, k4, k5, hlies, hbyte, hbools, ho1, hk1, hp1, hn1, hkl⟩⟩⟩
end
end Go.Proofs.Ytembocfghkmieaa
/- Rows of elements of several cells; lists of puts that came in; a number taken into bounds; no condition. -/
namespace Go.Proofs.Ytembocfghkmieaa
open Go.RowKit

section
variable {α : Type} (row : α → List Value) (n : Nat)
theorem fm_len (hr : ∀ x, (row x).length = n) : ∀ l : List α, (l.flatMap row).length = l.length * n
  | [] => by simp
  | x :: t => by rw [List.flatMap_cons, List.length_append, hr x, fm_len hr t, List.length_cons, Nat.add_mul]; omega
theorem fm_get (hr : ∀ x, (row x).length = n) : ∀ (l : List α) (i j : Nat) (r : α), l[i]? = some r → j < n → (l.flatMap row)[i * n + j]? = (row r)[j]?
  | [], i, j, r, h, _ => by simp at h
  | x :: t, 0, j, r, h, hj => by
    have h' : x = r := by simpa using h
    subst h'
    rw [List.flatMap_cons, Nat.zero_mul, Nat.zero_add, List.getElem?_append_left (by rw [hr]; exact hj)]
  | x :: t, i + 1, j, r, h, hj => by
    have h' : t[i]? = some r := by simpa using h
    rw [List.flatMap_cons, List.getElem?_append_right (by rw [hr, Nat.add_mul]; omega), hr, show (i + 1) * n + j - n = i * n + j by rw [Nat.add_mul]; omega]
    exact fm_get hr t i j r h' hj
theorem fm_set (hr : ∀ x, (row x).length = n) : ∀ (l : List α) (i : Nat) (r : α), i < l.length → (l.flatMap row).take (i * n) ++ row r ++ (l.flatMap row).drop (i * n + n) = (l.set i r).flatMap row
  | [], i, r, h => by simp at h
  | x :: t, 0, r, _ => by
    rw [List.set_cons_zero, List.flatMap_cons, List.flatMap_cons, Nat.zero_mul, Nat.zero_add, List.take_zero, List.nil_append, ← hr x, List.drop_left]
  | x :: t, i + 1, r, h => by
    have ih := fm_set hr t i r (by simpa using h)
    have e1 : (i + 1) * n = (row x).length + i * n := by rw [hr, Nat.add_mul]; omega
    rw [List.set_cons_succ, List.flatMap_cons, List.flatMap_cons, ← ih, e1, List.take_length_add_append, Nat.add_assoc, List.drop_length_add_append]
    simp only [List.append_assoc]
end
/-- Blocks one behind the other. -/
def blkCells (l : List (Nat → Int)) : List Value := l.flatMap fun f => (blk f).toList
theorem blkCells_len (l : List (Nat → Int)) : (blkCells l).length = l.length * 1024 := fm_len _ 1024 blk_list_len l
theorem blkCells_set {l : List (Nat → Int)} {i : Nat} {f : Nat → Int} (h : i < l.length) : (blkCells l).take (i * 1024) ++ (blk f).toList ++ (blkCells l).drop (i * 1024 + 1024) = blkCells (l.set i f) := fm_set _ 1024 blk_list_len l i f h
theorem blkCells_at {w : World} {g i : Nat} {t : TypeId} {l : List (Nat → Int)} {f : Nat → Int} (h : w.heap[g]? = some (.cells (blkCells l).toArray t)) (hi : l[i]? = some f) : BlkAt w g (i * 1024) f := fun j v hv => by
  have hj : j < 1024 := by have := (List.getElem?_eq_some_iff.1 hv).1; rwa [blk_list_len] at this
  rw [cell_of_row w g _ _ t _ h, List.getElem?_toArray]
  exact (fm_get _ 1024 blk_list_len l i j f hi hj).trans hv
/-- A block is written into the middle of a row of blocks. -/
theorem wpList_storeB {ops : Array Oper} {rest : List Oper} {o : Oper} {a : Act} {w : World} {Q : Exit → Act → World → Prop} (hgd : o.guard = none) (x y : Operand) (ho : o.op = .store 58 x y)
    (g i off : Nat) (hoff : off = i * 1024) (f : Nat → Int) (hx : a.eval x = .pointer (some ⟨g, off, none⟩)) (hy : a.eval y = .agg (blk f)) (t : TypeId) (l : List (Nat → Int)) (hg : w.heap[g]? = some (.cells (blkCells l).toArray t)) (hi : i < l.length)
    (h : wpList Try.prog ops Q rest (a.put o.dst undef) (w.setRow g (blkCells (l.set i f)).toArray)) : wpList Try.prog ops Q (o :: rest) a w :=
  wpList_plain hgd fun _ hK => by
    have hl := blk_list_len f
    have hfit : off + 1024 ≤ (blkCells l).toArray.size := by
      rw [List.size_toArray, blkCells_len l, hoff, ← Nat.succ_mul]
      exact Nat.mul_le_mul_right _ hi
    have key : (blkCells l).take off ++ (blk f).toList ++ (blkCells l).drop (off + 1024) = blkCells (l.set i f) := by
      rw [hoff]
      exact blkCells_set hi
    clear hoff
    have hst := run_storeCells_at Try.prog g off t (blk f).toList 0 (blkCells l).toArray w hg (by rw [hl, Nat.add_zero]; exact hfit) (fun v hv => by
      have := blk_one f
      rw [Array.all_eq_true_iff_forall_mem] at this
      exact this v (by simpa using hv))
    rw [Nat.add_zero, hl] at hst
    have e1 : (blkCells l).toArray.toList = blkCells l := List.toList_toArray ..
    rw [e1, key] at hst
    have hr : (Instr.storeAt 58 (.pointer (some ⟨g, off, none⟩)) (.agg (blk f))).run Try.prog w = .ok () (w.setRow g (blkCells (l.set i f)).toArray) := by
      obtain ⟨i0, hi0⟩ := Option.isSome_iff_exists.1 (show (Try.prog.info? 58).isSome = true by kernel_rfl)
      have hz : i0.size = 1024 := by have := size25; rw [hi0] at this; simpa using this
      have hs := blk_size f
      generalize blk f = F at *
      simp [Instr.storeAt, Instr.sureAddr, storeVar, sizeOf, typeInfo, hi0, Value.cells, hs, hz, hst]
    unfold Oper.wp execOp
    simp only [ho, hx, hy, Sem.run_bind, hr, Result.andThen_ok, Sem.run_pure]
    exact hK _ _ h
theorem info58b : (Try.prog.info? 58).map (fun i => (i.zero, i.size, i.bytes)) = some (some (.agg (blk nought)), 1024, 1024) := by kernel_rfl
theorem blkCells_rep (n i : Nat) (hi : i < n * 1024) : (blkCells (List.replicate n nought))[i]? = some (.int .u8 0) := by
  have h1 : i / 1024 < n := Nat.div_lt_of_lt_mul (by rw [Nat.mul_comm]; exact hi)
  have h2 : i % 1024 < 1024 := Nat.mod_lt _ (by omega)
  have h3 := fm_get (fun f => (blk f).toList) 1024 blk_list_len (List.replicate n nought) (i / 1024) (i % 1024) nought (by rw [List.getElem?_replicate, if_pos h1]) h2
  have h4 : i / 1024 * 1024 + i % 1024 = i := Nat.div_add_mod' i 1024
  rw [h4] at h3
  unfold blkCells
  rw [h3, Array.getElem?_toList, blk_get nought _ h2]
  rfl
theorem made_blocks (n : Nat) : madeCells (blk nought) (n * 1024) = (blkCells (List.replicate n nought)).toArray := by
  apply Array.ext_getElem?
  intro i
  by_cases hi : i < n * 1024
  · have h : i % 1024 < 1024 := Nat.mod_lt _ (by decide)
    have hb := blk_get nought (i % 1024) h
    have hb' : (blk nought)[i % 1024]! = .int .u8 0 := by
      rw [Array.getElem!_eq_getD, Array.getD_eq_getD_getElem?, hb]; rfl
    rw [show ((blkCells (List.replicate n nought)).toArray)[i]? = (blkCells (List.replicate n nought))[i]? from List.getElem?_toArray, blkCells_rep n i hi]
    simp [madeCells, hi, blk_size, hb']
  · rw [Array.getElem?_eq_none (by simp [madeCells]; omega), show ((blkCells (List.replicate n nought)).toArray)[i]? = (blkCells (List.replicate n nought))[i]? from List.getElem?_toArray, List.getElem?_eq_none (by rw [blkCells_len, List.length_replicate]; omega)]
theorem run_make79 (u : World) (n : Nat) (hn : n * 1024 ≤ 281474976710656) :
    (Instr.makeSlice 79 (.int .i64 (n : Int)) (.int .i64 (n : Int))).run Try.prog u = .ok (.slice (some ⟨u.heap.size, 0, none⟩) n n) (u.alloc (.cells (blkCells (List.replicate n nought)).toArray 58)) := by
  obtain ⟨i0, hi0, hz0, hz1, hz2⟩ := info_parts info58b
  have h := run_make (P := Try.prog) u 79 58 i0 (.agg (blk nought)) Try.underlying79 hi0 hz0 .i64 .i64 n n (by omega) (Int.le_refl _) (by rw [hz2]; omega) (by omega)
  rw [Int.toNat_natCast, hz1] at h
  rw [h]
  simp only [Value.cells, made_blocks]
/-- An element of a list of blocks with numbers in memory. -/
theorem cel_at {w : World} {base g n cap : Nat} {l : List Cel} (h : w.ownsRow base 85 1025 (.slice (some ⟨g, 0, none⟩) n cap) n (celCells l)) {k K : Nat} {c : Cel} (hK : K = k * 1025) (hk : l[k]? = some c) :
    w.cell? ⟨g, K, none⟩ = some (.int .i64 c.1) ∧ BlkAt w g (K + 1) c.2 := by
  have hc := h.cells (g := g) rfl
  have key : ∀ j, j < 1025 → ∀ v, (celRow c)[j]? = some v → w.cell? ⟨g, K + j, none⟩ = some v := fun j hj v hv => by
    have q0 := (fm_get celRow 1025 celRow_len l k j c hk hj).trans hv
    rw [← hK] at q0
    have q := hc (K + j) v q0
    rwa [Go.WideShapes.add_plain, Nat.zero_add] at q
  clear hK hk hc h
  refine ⟨key 0 (by omega) _ rfl, fun j v hv => ?_⟩
  have hj : j < 1024 := by have := (List.getElem?_eq_some_iff.1 hv).1; rwa [blk_list_len] at this
  rw [Nat.add_assoc, Nat.add_comm 1 j]
  refine key (j + 1) (by omega) v ?_
  rw [show (celRow c)[j + 1]? = (blk c.2).toList[j]? by simp only [celRow, List.getElem?_cons_succ]]
  exact hv

/-- i taken into n. -/
theorem pick_any (i n : Int) (hn : 1 ≤ n ∧ n ≤ 1048576) (w : World) : Calls Try.prog 11 #[.int .i64 i, .int .i64 n] w fun e w' => e = .returned (.int .i64 (i % n)) ∧ w' = w := by
  have h0 : n ≠ 0 := by omega
  have hb : -n < Int.tmod i n ∧ Int.tmod i n < n := by
    have h1 := Int.natAbs_tmod i n
    have h2 : (Int.tmod i n).natAbs < n.natAbs := by
      rw [Int.natAbs_tmod]
      exact Nat.mod_lt _ (by omega)
    omega
  have hw : IntKind.i64.wrap (Int.tmod i n) = Int.tmod i n := by rw [IntKind.wrap_i64]; omega
  have hm : Int.tmod i n % n = i % n := by
    have h1 := Int.tmod_add_mul_tdiv i n
    have h2 : i % n = (Int.tmod i n + n * Int.tdiv i n) % n := by rw [h1]
    rw [h2, Int.add_mul_emod_self_left]
  by_cases hneg : Int.tmod i n < 0
  · have he : Int.tmod i n + n = i % n := by
      rw [← hm, ← Int.add_emod_right, Int.emod_eq_of_lt (by omega) (by omega)]
    have hw2 : IntKind.i64.wrap (Int.tmod i n + n) = Int.tmod i n + n := by rw [IntKind.wrap_i64]; omega
    rw [← he]
    clear hm he
    go_enter Try.func11, Try.ntmps11
    go_wp2
    go_ret
    exact ⟨rfl, rfl⟩
  · have he : Int.tmod i n = i % n := by rw [← hm, Int.emod_eq_of_lt (by omega) (by omega)]
    rw [← he]
    clear hm he
    go_enter Try.func11, Try.ntmps11
    go_wp2
    go_ret
    exact ⟨rfl, rfl⟩
end Go.Proofs.Ytembocfghkmieaa
/- mayBe: of every image whether it may be; no condition. -/
namespace Go.Proofs.Ytembocfghkmieaa
open Go.RowKit
/-- Cells that lie one behind the other from a place on. -/
def CelsAt (w : World) (b off : Nat) (l : List Cel) : Prop := ∀ k c, l[k]? = some c → w.cell? ⟨b, off + k * 1025, none⟩ = some (.int .i64 c.1) ∧ BlkAt w b (off + k * 1025 + 1) c.2
/-- A list of cells that came in or was made. -/
def ImgAt (w : World) (p : Option Addr) (l : List Cel) : Prop := 0 < l.length → ∃ b off, p = some ⟨b, off, none⟩ ∧ b < w.heap.size ∧ CelsAt w b off l
theorem CelsAt.later {w W : World} {b off : Nat} {l : List Cel} (h : CelsAt w b off l) (hb : Below w.heap.size w W) (hlt : b < w.heap.size) : CelsAt W b off l := fun k c hc => by
  obtain ⟨h1, h2⟩ := h k c hc
  exact ⟨(hb.cell (p := ⟨b, off + k * 1025, none⟩) hlt).trans h1, fun j v hv => (hb.cell (p := ⟨b, off + k * 1025 + 1 + j, none⟩) hlt).trans (h2 j v hv)⟩
/-- Do they rise, each below n and none blank? -/
def risesB (n : Int) : Int → List Cel → Bool
  | _, [] => true
  | a, c :: t => !decide (c.1 ≤ a) && !decide (c.1 ≥ n) && !blankB c.2 && risesB n c.1 t
def mayB (n : Int) (l : List Cel) : Bool := bndB n && risesB n (-1) l
theorem wpList_loadMw {ops : Array Oper} {rest : List Oper} {o : Oper} {a : Act} {w : World} {Q : Exit → Act → World → Prop} (hw : Region.wanted o (yielded ops a.tmps) = true) (x : Operand) (ho : o.op = .load 58 x)
    (g off : Nat) (hx : a.eval x = .pointer (some ⟨g, off, none⟩)) (f : Nat → Int) (hg : BlkAt w g off f)
    (h : wpList Try.prog ops Q rest (a.put o.dst (.agg (blk f))) w) : wpList Try.prog ops Q (o :: rest) a w :=
  BigFrame.wpList_want hw fun _ hK => by
    unfold Oper.wp execOp
    simp only [ho, hx, loadM hg, Sem.run_bind, Result.andThen_ok, Sem.run_pure]
    exact hK _ _ h
set_option maxRecDepth 20000 in
set_option maxHeartbeats 2000000 in
theorem may_any (n : Int) (l : List Cel) (p : Option Addr) (cap : Nat) (w : World) (hl : l.length < 9223372036854775807) (h : ImgAt w p l) :
    Calls Try.prog 60 #[.agg #[.int .i64 n, .slice p l.length cap]] w fun e w' => e = .returned (.bool (mayB n l)) ∧ Below w.heap.size w w' := by
  have hB := below_new w (.cells #[.int .i64 n, .slice p l.length cap] 32)
  have hG := heap_alloc_new w (.cells #[.int .i64 n, .slice p l.length cap] 32)
  have HI : Hid (ImgAt w p l) := h
  have hbd := built58
  clear h
  cases hb : bndB n
  · go_enter Try.func60, Try.ntmps60
    go_wp2_with (go_at_call 70; refine (bounded_any n _).mono ?_; rw [hb]; rintro e W ⟨rfl, rfl⟩)
    go_ret
    exact ⟨by unfold mayB; rw [hb]; rfl, hB⟩
  · have HR : Hid (mayB n l = risesB n (-1) (l.drop 0)) := by unfold mayB; rw [hb]; rfl
    generalize mayB n l = res at *
    generalize hW : w.alloc (.cells #[.int .i64 n, .slice p l.length cap] 32) = W0 at *
    have i0 : W0.cell? ⟨w.heap.size, 0, none⟩ = some (.int .i64 n) := Joins.cell_of_block hG 0
    have i1 : W0.cell? ⟨w.heap.size, 1, none⟩ = some (.slice p l.length cap) := Joins.cell_of_block hG 1
    go_enter Try.func60, Try.ntmps60
    go_wp2_with (go_at_call 70; refine (bounded_any n _).mono ?_; rw [hb]; rintro e W ⟨rfl, rfl⟩)
    obtain ⟨N, hbd', eN⟩ : ∃ N, (∀ u : World, (Instr.build 58 #[]).run Try.prog u = .ok (.agg (blk N)) u) ∧ N = nought := ⟨nought, built58, rfl⟩
    have HN : Hid (N = nought) := eN
    clear eN hbd
    go_loopw [3, 13] (fun s3 s13 wx => ∃ (k : Nat) (x : Int), k ≤ l.length ∧ s3 = .int .i64 x ∧ s13 = .int .i64 k ∧ wx = W ∧ Hid (res = risesB n x (l.drop k))) (fun s3 s13 _ => l.length - (intOf s13).toNat)
    case atStart => exact ⟨0, -1, by omega, rfl, rfl, rfl, HR.out⟩
    case round =>
      obtain ⟨k, x, hk, rfl, rfl, rfl, HR2⟩ := hrel
      clear HR
      by_cases hk2 : (k : Int) < l.length
      · have hc : l[k]? = some l[k] := List.getElem?_eq_getElem (by omega)
        obtain ⟨b, off, rfl, hlt, hC⟩ := HI.out (by omega)
        have hd : l.drop k = l[k] :: l.drop (k + 1) := List.drop_eq_getElem_cons (by omega)
        generalize l[k] = c at hc hd
        obtain ⟨q1, q2⟩ := (hC.later hB hlt) k c hc
        obtain ⟨y, f⟩ := c
        have hR := HR2.out
        rw [hd] at hR
        unfold risesB at hR
        simp only at hR q1 q2
        clear hd hc HR2 hC
        by_cases h1 : y ≤ x
        · have hr0 : res = false := by rw [hR]; simp [h1]
          clear hR
          subst hr0
          go_wp2
          go_ret
          exact ⟨rfl, hB⟩
        · by_cases h2 : y ≥ n
          · have hr0 : res = false := by rw [hR]; simp [h2]
            clear hR
            subst hr0
            go_wp2
            go_ret
            exact ⟨rfl, hB⟩
          · cases h3 : blankB f
            · have HR3 : Hid (res = risesB n y (l.drop (k + 1))) := by
                have e : res = risesB n y (l.drop (k + 1)) := by rw [hR, h3]; simp [h1, h2]
                exact e
              have h3' : sameB f N = false := by rw [HN.out]; exact h3
              clear hR
              go_wp2_with (first | refine wpList_loadMw rfl (.tmp 36) rfl b (off + k * 1025 + 1) rfl f q2 ?_ | refine wpList_build58w rfl rfl hbd' ?_ | refine wpList_eq58 rfl (.tmp 37) (.tmp 38) rfl f N false rfl rfl h3' ?_)
              exact ⟨⟨k + 1, y, by omega, rfl, by go_num, by trivial, HR3.out⟩, by simp [intOf]; omega⟩
            · have hr0 : res = false := by rw [hR, h3]; simp
              clear hR
              have h3' : sameB f N = true := by rw [HN.out]; exact h3
              subst hr0
              go_wp2_with (first | refine wpList_loadMw rfl (.tmp 36) rfl b (off + k * 1025 + 1) rfl f q2 ?_ | refine wpList_build58w rfl rfl hbd' ?_ | refine wpList_eq58 rfl (.tmp 37) (.tmp 38) rfl f N true rfl rfl h3' ?_)
              go_ret
              exact ⟨rfl, hB⟩
      · obtain rfl : k = l.length := by omega
        have hr0 : res = true := by rw [HR2.out, List.drop_length]; rfl
        subst hr0
        go_wp2
        go_ret
        exact ⟨rfl, hB⟩
end Go.Proofs.Ytembocfghkmieaa
/- A disk with whatever stays beside it while the disk alone turns: each call in one form; no condition but that numbers do not pass their greatest. -/
namespace Go.Proofs.Ytembocfghkmieaa
open Go.RowKit

/-- P stays while nothing turns but the disk's own blocks and new ones. -/
def Stays (P : World → Loc → Prop) : Prop := ∀ W W' L L', (∀ k, L.has k → k < W.heap.size) → P W L → Goes W W' L L' → P W' L'
/-- The disk at d stands for s, and P. -/
def Has (P : World → Loc → Prop) (W : World) (d : Nat) (s : St) : Prop := ∃ L : Loc, L.d = d ∧ DiskAt W L s ∧ P W L
variable {P : World → Loc → Prop} {W : World} {d : Nat} {s : St}
theorem Has.ok (h : Has P W d s) : Ok s := by
  obtain ⟨L, _, hD, _⟩ := h
  exact hD.ok
theorem Has.later (hP : Stays P) {W' : World} (h : Has P W d s) (hb : Below W.heap.size W W') : Has P W' d s := by
  obtain ⟨L, hd, hD, hp⟩ := h
  exact ⟨L, hd, hD.later hb, hP W W' L L hD.lt hp (Goes.ofBelow L hb)⟩
theorem Has.goes (hP : Stays P) {W' : World} {L L' : Loc} {s' : St} (hd : L.d = d) (hD : DiskAt W L s) (hp : P W L) (hD' : DiskAt W' L' s') (hG : Goes W W' L L') : Has P W' d s' := ⟨L', hG.d.trans hd, hD', hP W W' L L' hD.lt hp hG⟩
theorem has_stopped (h : Has P W d s) : Calls Try.prog 34 #[.pointer (some ⟨d, 0, none⟩)] W fun e W' => e = .returned (.bool s.stopped) ∧ W' = W := by
  obtain ⟨L, rfl, hD, _⟩ := h
  exact stopped_of hD
theorem has_made (h : Has P W d s) : Calls Try.prog 23 #[.pointer (some ⟨d, 0, none⟩)] W fun e W' => e = .returned (.int .i64 s.made) ∧ W' = W := by
  obtain ⟨L, rfl, hD, _⟩ := h
  exact made_of hD
theorem has_fuse (hP : Stays P) (h : Has P W d s) (n : Int) (hn : n ≤ 9223372036854775807) : Calls Try.prog 31 #[.pointer (some ⟨d, 0, none⟩), .int .i64 n] W fun e W' => e = .returned (.tuple #[]) ∧ Has P W' d (fuseV s n) := by
  obtain ⟨L, rfl, hD, hp⟩ := h
  exact (fuse_of hD n hn).mono fun e W' ⟨h1, h2, h3⟩ => ⟨h1, Has.goes hP rfl hD hp h2 h3⟩
theorem has_read (hP : Stays P) (h : Has P W d s) (hr : Room s) (k : Int) :
    Calls Try.prog 20 #[.pointer (some ⟨d, 0, none⟩), .int .i64 k] W fun e W' => e = .returned (.tuple #[.agg (blk (readB s k)), .int .i64 (refV s k)]) ∧ Has P W' d (readV s k) := by
  obtain ⟨L, rfl, hD, hp⟩ := h
  unfold readB readV
  by_cases hb : refV s k = 0
  · rw [if_pos hb, if_pos hb, hb]
    exact (read_ok hD hr hb).mono fun e W' ⟨h1, h2, h3⟩ => ⟨h1, Has.goes hP rfl hD hp h2 h3⟩
  · rw [if_neg hb, if_neg hb]
    exact (read_bad hD hb).mono fun e W' ⟨h1, h2⟩ => ⟨h1, Has.goes hP rfl hD hp (hD.later h2) (Goes.ofBelow L h2)⟩
theorem has_write (hP : Stays P) (h : Has P W d s) (hr : Room s) (k : Int) {f : Nat → Int} (hf : Can f) :
    Calls Try.prog 33 #[.pointer (some ⟨d, 0, none⟩), .int .i64 k, .agg (blk f)] W fun e W' => e = .returned (.int .i64 (writeE s k)) ∧ Has P W' d (writeV s k f) := by
  obtain ⟨L, rfl, hD, hp⟩ := h
  unfold writeE writeV
  by_cases hb : refV s k = 0
  · rw [if_pos hb, if_pos hb]
    cases hl : lets s
    · exact (write_dead hD hr hb hl f).mono fun e W' ⟨h1, h2, h3⟩ => ⟨h1, Has.goes hP rfl hD hp h2 h3⟩
    · exact (write_ok hD hr hb hl hf).mono fun e W' ⟨h1, L', h2, h3⟩ => ⟨h1, Has.goes hP rfl hD hp h2 h3⟩
  · rw [if_neg hb, if_neg hb]
    exact (write_bad hD hb f).mono fun e W' ⟨h1, h2⟩ => ⟨h1, Has.goes hP rfl hD hp (hD.later h2) (Goes.ofBelow L h2)⟩
theorem has_barrier (hP : Stays P) (h : Has P W d s) (hr : Room s) :
    Calls Try.prog 32 #[.pointer (some ⟨d, 0, none⟩)] W fun e W' => e = .returned (.int .i64 (barE s)) ∧ Has P W' d (barV s) := by
  obtain ⟨L, rfl, hD, hp⟩ := h
  unfold barE barV
  cases hs : s.stopped
  · cases hl : lets s
    · exact (barrier_dead hD hr hs hl).mono fun e W' ⟨h1, h2, h3⟩ => ⟨h1, Has.goes hP rfl hD hp h2 h3⟩
    · exact (barrier_ok hD hr hs hl).mono fun e W' ⟨h1, L', h2, h3⟩ => ⟨h1, Has.goes hP rfl hD hp h2 h3⟩
  · exact (barrier_stopped hD hs).mono fun e W' ⟨h1, h2⟩ => ⟨h1, by rw [h2]; exact ⟨L, rfl, hD, hp⟩⟩
theorem has_crash (hP : Stays P) (h : Has P W d s) {kv : Value} {kl : List Bool} (hkv : BoolsAt W kv kl) (hwl : s.wait.length < 68719476736) (hkl : kl.length < 9223372036854775807) :
    Calls Try.prog 35 #[.pointer (some ⟨d, 0, none⟩), kv] W fun e W' => e = .returned (.int .i64 0) ∧ Has P W' d (crashS s kl) := by
  obtain ⟨L, rfl, hD, hp⟩ := h
  exact (crash_of hD hkv hwl hkl).mono fun e W' ⟨h1, L', h2, h3⟩ => ⟨h1, Has.goes hP rfl hD hp h2 h3⟩
theorem has_pending (hP : Stays P) (h : Has P W d s) (hwl : s.wait.length < 68719476736) :
    Calls Try.prog 25 #[.pointer (some ⟨d, 0, none⟩)] W fun e W' => e = .returned (.slice (some ⟨W.heap.size, 0, none⟩) s.wait.length s.wait.length) ∧ Below W.heap.size W W' ∧ Has P W' d s := by
  have h' := h
  obtain ⟨L, rfl, hD, hp⟩ := h
  exact (pend_of hD hwl).mono fun e W' ⟨h1, _, h3⟩ => ⟨h1, h3, h'.later hP h3⟩
theorem has_history (hP : Stays P) (h : Has P W d s) (hol : s.ops.length < 68719476736) :
    Calls Try.prog 26 #[.pointer (some ⟨d, 0, none⟩)] W fun e W' => e = .returned (.slice (some ⟨W.heap.size, 0, none⟩) s.ops.length s.ops.length) ∧ Below W.heap.size W W' ∧ Has P W' d s := by
  have h' := h
  obtain ⟨L, rfl, hD, hp⟩ := h
  exact (history_of hD hol).mono fun e W' ⟨h1, _, h3⟩ => ⟨h1, h3, h'.later hP h3⟩

/-- Beside the disk: the law's own blocks (a row of blocks at g) and the writes that it waits for (a list at v); all of it new since w. -/
structure Side (w : World) (g : Nat) (hs : List (Nat → Int)) (v : Value) (wl : List Cel) (W : World) (L : Loc) : Prop where
  new : L.from w.heap.size
  below : Below w.heap.size w W
  row : W.heap[g]? = some (.cells (blkCells hs).toArray 58)
  apart : ¬ L.has g
  own : W.ownsRow (g + 1) 85 1025 v wl.length (celCells wl)
  far : ∀ k, v.ownBlock = some k → ¬ L.has k
  gnew : w.heap.size ≤ g
variable {w : World} {g : Nat} {hs : List (Nat → Int)} {v : Value} {wl : List Cel}
theorem side_stays (w : World) (g : Nat) (hs : List (Nat → Int)) (v : Value) (wl : List Cel) : Stays (Side w g hs v wl) := by
  intro W W' L L' hlt h hG
  have hgl : g < W.heap.size := (Array.getElem?_eq_some_iff.1 h.row).1
  have hne : ∀ k, k < W.heap.size → ¬ L.has k → ¬ L'.has k := fun k hk hn q => by
    rcases hG.own k q with q | q
    · exact hn q
    · omega
  refine ⟨fun k hk => ?_, h.below.trans (hG.fr.below h.new h.below.size), (hG.fr.block g hgl h.apart).trans h.row, hne g hgl h.apart, ownsRow_kept0 h.own fun k hk => hG.fr.block k (h.own.lt k hk).2 (h.far k hk), fun k hk => hne k (h.own.lt k hk).2 (h.far k hk), h.gnew⟩
  rcases hG.own k hk with q | q
  · exact h.new k q
  · have := h.below.size
    omega
/-- The law's own blocks turn. -/
theorem Has.setH (h : Has (Side w g hs v wl) W d s) (hs' : List (Nat → Int)) : Has (Side w g hs' v wl) (W.setRow g (blkCells hs').toArray) d s := by
  obtain ⟨L, hd, hD, h⟩ := h
  have hF := Fr.setRow W g (blkCells hs').toArray
  refine ⟨L, hd, hD.fr hF fun k hk e => h.apart (e ▸ hk), h.new, below_setRow h.below h.gnew _, setRow_heap _ _ _ _ _ _ h.row, h.apart, ownsRow_kept0 h.own fun k hk => ?_, h.far, h.gnew⟩
  exact setRow_other W g k _ (by have := (h.own.lt k hk).1; omega)
theorem Has.noWait (h : Has (Side w g hs v wl) W d s) : Has (Side w g hs (.slice none 0 0) []) W d s := by
  obtain ⟨L, hd, hD, h⟩ := h
  exact ⟨L, hd, hD, h.new, h.below, h.row, h.apart, World.ownsRow_nil W _ 85 1025, fun k hk => by simp [Value.ownBlock] at hk, h.gnew⟩
theorem Has.below (h : Has (Side w g hs v wl) W d s) : Below w.heap.size w W := by
  obtain ⟨L, hd, hD, h⟩ := h
  exact h.below
theorem Has.row (h : Has (Side w g hs v wl) W d s) : W.heap[g]? = some (.cells (blkCells hs).toArray 58) := by
  obtain ⟨L, hd, hD, h⟩ := h
  exact h.row
theorem Has.own (h : Has (Side w g hs v wl) W d s) : W.ownsRow (g + 1) 85 1025 v wl.length (celCells wl) := by
  obtain ⟨L, hd, hD, h⟩ := h
  exact h.own
/-- A write more is waited for. -/
theorem Has.push {W' : World} {v' : Value} {c : Cel} {o : Obj} (h : Has (Side w g hs v wl) W d s) (ho : W'.ownsRow (g + 1) 85 1025 v' (wl.length + 1) (celCells wl ++ celRow c)) (hg : (W.alloc o).grownBy W' v.ownBlock)
    (hl : v'.ownBlock = v.ownBlock ∨ v'.ownBlock = some (W.alloc o).heap.size) : Has (Side w g hs v' (wl ++ [c])) W' d s := by
  obtain ⟨L, hd, hD, h⟩ := h
  have hF : Fr (fun i => v.ownBlock = some i) W W' := (Fr.alloc _ W o).trans (Fr.ofGrown hg) fun _ _ q => q
  have hgl : g < W.heap.size := (Array.getElem?_eq_some_iff.1 h.row).1
  have hgv : v.ownBlock ≠ some g := fun q => by have := (h.own.lt g q).1; omega
  refine ⟨L, hd, hD.fr hF fun k hk q => h.far k q hk, h.new, ?_, (hF.block g hgl hgv).trans h.row, h.apart, ?_, fun k hk => ?_, h.gnew⟩
  · exact ⟨hF.os.trans h.below.os, hF.tape.trans h.below.tape, hF.output.trans h.below.output, Nat.le_trans h.below.size hF.size, fun k hk => (hF.block k (by have := h.below.size; omega) fun q => by have := (h.own.lt k q).1; have := h.gnew; omega).trans (h.below.block k hk)⟩
  · rw [List.length_append, List.length_singleton, celCells_append, celCells_one]
    exact ho
  · rcases hl with q | q
    · exact h.far k (q ▸ hk)
    · rw [q] at hk
      injection hk with hk
      simp at hk
      exact fun r => by have := hD.lt k r; omega
end Go.Proofs.Ytembocfghkmieaa
/- Load: a disk of every image that may be, none of any other; no condition. -/
namespace Go.Proofs.Ytembocfghkmieaa
open Go.RowKit
/-- The disk of an image. -/
def loadV (n : Int) (l : List Cel) : St := holdAll (newV n) l
theorem rises_bounds {n : Int} : ∀ (l : List Cel) (a : Int), -1 ≤ a → risesB n a l = true → ∀ c ∈ l, 0 ≤ c.1 ∧ c.1 < n ∧ blankB c.2 = false
  | [], _, _, _, c, hc => by simp at hc
  | x :: t, a, ha, h, c, hc => by
    unfold risesB at h
    simp at h
    obtain ⟨⟨⟨h1, h2⟩, h3⟩, h4⟩ := h
    rcases List.mem_cons.1 hc with rfl | hc
    · exact ⟨by omega, by omega, h3⟩
    · exact rises_bounds t x.1 (by omega) h4 c hc
theorem may_bounds {n : Int} {l : List Cel} (h : mayB n l = true) : bndB n = true ∧ ∀ c ∈ l, 0 ≤ c.1 ∧ c.1 < n ∧ blankB c.2 = false := by
  unfold mayB at h
  simp at h
  exact ⟨h.1, rises_bounds l (-1) (by omega) h.2⟩
theorem ImgAt.later {w W : World} {p : Option Addr} {l : List Cel} (h : ImgAt w p l) (hb : Below w.heap.size w W) : ImgAt W p l := fun h0 => by
  obtain ⟨b, off, h1, h2, h3⟩ := h h0
  exact ⟨b, off, h1, Nat.lt_of_lt_of_le h2 hb.size, h3.later hb h2⟩
set_option maxRecDepth 20000 in
theorem load_bad (n : Int) (l : List Cel) (p : Option Addr) (cap : Nat) (w : World) (hl : l.length < 9223372036854775807) (h : ImgAt w p l) (hm : mayB n l = false) :
    Calls Try.prog 15 #[.agg #[.int .i64 n, .slice p l.length cap]] w fun e w' => e = .returned (.tuple #[.pointer none, .int .i64 4]) ∧ Below w.heap.size w w' := by
  have hB := below_new w (.cells #[.int .i64 n, .slice p l.length cap] 32)
  have hM := may_any n l p cap _ hl (h.later hB)
  rw [hm] at hM
  go_enter Try.func15, Try.ntmps15
  go_wp2_with (go_at_call 60; refine hM.mono ?_; rintro e W1 ⟨rfl, hb1⟩)
  go_ret2
  exact ⟨rfl, below_next hB hb1⟩
set_option maxRecDepth 20000 in
set_option maxHeartbeats 2000000 in
theorem load_ok (n : Int) (l : List Cel) (p : Option Addr) (cap : Nat) (w : World) (hl : l.length < 9223372036854775807) (h : ImgAt w p l) (hcan : ∀ c ∈ l, Can c.2) (hm : mayB n l = true) :
    Calls Try.prog 15 #[.agg #[.int .i64 n, .slice p l.length cap]] w fun e w' => ∃ L : Loc, e = .returned (.tuple #[.pointer (some ⟨L.d, 0, none⟩), .int .i64 0]) ∧ DiskAt w' L (loadV n l) ∧ L.from w.heap.size ∧ Below w.heap.size w w' := by
  have hB := below_new w (.cells #[.int .i64 n, .slice p l.length cap] 32)
  have hG := heap_alloc_new w (.cells #[.int .i64 n, .slice p l.length cap] 32)
  have hM := may_any n l p cap _ hl (h.later hB)
  rw [hm] at hM
  have HI : Hid (ImgAt w p l) := h
  have HC : Hid (∀ c ∈ l, Can c.2) := hcan
  obtain ⟨hbn, hbs⟩ := may_bounds hm
  have HBs : Hid (∀ c ∈ l, 0 ≤ c.1 ∧ c.1 < n ∧ blankB c.2 = false) := hbs
  clear h hcan hm hbs
  go_enter Try.func15, Try.ntmps15
  go_wp2_with (go_at_call 60; fail)
  refine hM.mono ?_
  rintro e W1 ⟨rfl, hb1⟩
  have hG1 := heap_kept hG hb1
  have hB1 := below_next hB hb1
  have i0 : W1.cell? ⟨w.heap.size, 0, none⟩ = some (.int .i64 n) := Joins.cell_of_block hG1 0
  clear hM hG hB hb1
  go_wp2_with (go_at_call 30; fail)
  refine (new_ok hbn W1).mono ?_
  rintro e W2 ⟨L, rfl, hD2, hL2, hb2⟩
  have hG2 := heap_kept hG1 hb2
  have HB2 : Hid (Below w.heap.size w W2) := below_next hB1 hb2
  have i1 : W2.cell? ⟨w.heap.size, 1, none⟩ = some (.slice p l.length cap) := Joins.cell_of_block hG2 1
  have HD2 : Hid (DiskAt W2 L (newV n)) := hD2
  have HL2 : Hid (L.from w.heap.size ∧ ¬ L.has w.heap.size) := by
    have hs := hB1.size
    have hlt : w.heap.size < W1.heap.size := (Array.getElem?_eq_some_iff.1 hG1).1
    exact ⟨fun k hk => by have := hL2 k hk; omega, fun q => by have := hL2 _ q; omega⟩
  have HG2 : Hid (W2.heap[w.heap.size]? = some (.cells #[.int .i64 n, .slice p l.length cap] 32)) := hG2
  clear hD2 hL2 hb2 hB1 hG1 i0 hG2
  go_wp2
  go_loopw [19] (fun s19 wx => ∃ k : Nat, k ≤ l.length ∧ s19 = .int .i64 k ∧ Hid (DiskAt wx L (holdAll (newV n) (l.take k))) ∧ Hid (Below w.heap.size w wx) ∧ Hid (wx.heap[w.heap.size]? = some (.cells #[.int .i64 n, .slice p l.length cap] 32))) (fun s19 _ => l.length - (intOf s19).toNat)
  case atStart => exact ⟨0, by omega, rfl, HD2.out, HB2.out, HG2.out⟩
  case round =>
    obtain ⟨k, hk, rfl, HD, HB, HG⟩ := hrel
    clear HD2 HB2 HG2 i1
    by_cases hk2 : (k : Int) < l.length
    · have hc : l[k]? = some l[k] := List.getElem?_eq_getElem (by omega)
      obtain ⟨b, off, rfl, hlt, hC⟩ := HI.out (by omega)
      generalize l[k] = c at hc
      have hmem := List.mem_of_getElem? hc
      obtain ⟨q1, _⟩ := (hC.later HB.out hlt) k c hc
      have hbd : Below w.heap.size w wr.drew := HB.out.drew
      obtain ⟨_, q2⟩ := (hC.later hbd hlt) k c hc
      have HDd : DiskAt wr.drew L (holdAll (newV n) (l.take k)) := HD.out.fr (Fr.drew (T := fun _ => False) wr) fun _ _ q => q
      obtain ⟨y1, y2, _⟩ := HBs.out c hmem
      have hH := hold_of HDd (k := c.1) (by rw [holdAll_n]; exact ⟨y1, y2⟩) (HC.out c hmem) q2
      rw [← holdAll_snoc, ← take_snoc hc] at hH
      have HH : Hid (Calls Try.prog 61 #[.pointer (some ⟨L.d, 0, none⟩), .int .i64 c.1, .pointer (some ⟨b, off + k * 1025 + 1, none⟩)] wr.drew fun e w' => e = .returned (.tuple #[]) ∧ DiskAt w' L (holdAll (newV n) (l.take (k + 1))) ∧ Below w.heap.size w w' ∧ w'.heap[w.heap.size]? = some (.cells #[.int .i64 n, .slice (some ⟨b, off, none⟩) l.length cap] 32)) :=
        hH.mono fun e w' ⟨h1, h2, h3⟩ => ⟨h1, h2, hbd.trans ((h3.mono fun i _ q => (.inr (.inl q) : L.has i)).below HL2.out.1 hbd.size), (h3.block _ (Array.getElem?_eq_some_iff.1 HG.out).1 fun q => HL2.out.2 (.inr (.inl q))).trans HG.out⟩
      have i1 : wr.cell? ⟨w.heap.size, 1, none⟩ = some (.slice (some ⟨b, off, none⟩) l.length cap) := Joins.cell_of_block HG.out 1
      clear hH q2 HDd hbd hC hmem hc HD HB HG
      go_wp2
      go_still_tail 12, (by kernel_rfl)
      change wpList _ _ _ _ _ (World.drew _)
      go_wp2_with (go_at_call 61; fail)
      refine HH.out.mono ?_
      rintro e W3 ⟨rfl, hD3, hB3, hG3⟩
      have HD3 : Hid (DiskAt W3 L (holdAll (newV n) (l.take (k + 1)))) := hD3
      have HB3 : Hid (Below w.heap.size w W3) := hB3
      have HG3 : Hid (W3.heap[w.heap.size]? = some (.cells #[.int .i64 n, .slice (some ⟨b, off, none⟩) l.length cap] 32)) := hG3
      clear hD3 hB3 hG3 HH i1
      go_wp2
      exact ⟨⟨k + 1, by omega, by go_num, HD3.out, HB3.out, HG3.out⟩, by simp [intOf]; omega⟩
    · obtain rfl : k = l.length := by omega
      have hD := HD.out
      rw [List.take_length] at hD
      have HD3 : Hid (DiskAt wr L (loadV n l)) := hD
      clear hD HD HG
      go_wp2
      go_ret2
      exact ⟨L, rfl, HD3.out, HL2.out.1, HB.out⟩
end Go.Proofs.Ytembocfghkmieaa
/- Blocks with their numbers held against each other; Equal, oneSize, Same; no condition but that lists are not longer than lists can be. -/
namespace Go.Proofs.Ytembocfghkmieaa
open Go.RowKit Go.Maps
theorem eq25d (d : Nat) (f g : Nat → Int) (w : World) : (Op.equalIn (d + 1 + 1) 58 (.agg (blk f)) (.agg (blk g))).run Try.prog w = .ok (sameB f g) w := by
  have key := each25 d f g w (List.range' 0 [:1024].size) (fun i hi => by simpa [Std.Legacy.Range.size] using hi)
  rw [Op.equalIn]
  simp only [Sem.run_bind, run_underlying Try.underlying58, Result.andThen_ok]
  rw [show (sizeOf 5).run Try.prog w = .ok 1 w by simp [go_sem]]
  simp only [Result.andThen_ok, Std.Legacy.Range.forIn_eq_forIn_range']
  refine (congrArg (fun r => Result.andThen r _) key).trans ?_
  have hr : List.range' 0 [:1024].size = List.range 1024 := by simp [Std.Legacy.Range.size, List.range_eq_range']
  rw [hr]
  show Result.andThen (Result.ok ((if sameB f g = true then none else some false), ()) w) _ = _
  cases sameB f g <;> simp
theorem part_idx (c : Cel) (w : World) : (part 3 (celRow c).toArray 0).run Try.prog w = .ok (.int .i64 c.1) w := by
  simp [part, Try.isAgg3, celRow]
theorem part_blk (c : Cel) (w : World) : (part 58 (celRow c).toArray 1).run Try.prog w = .ok (.agg (blk c.2)) w := by
  have hs := blk_size c.2
  have hc := cel_size c
  have he : (celRow c).toArray.extract 1 (1 + 1024) = blk c.2 := by
    apply Array.toList_inj.1
    have ht : (blk c.2).toList.take 1024 = (blk c.2).toList := List.take_of_length_le (by rw [Array.length_toList, hs]; omega)
    simp [celRow, ht]
  generalize hR : (celRow c).toArray = R at *
  simp [part, Try.isAgg58, Try.sizeOf58, hc, he]
theorem fields85 : (Try.prog.fieldsOf 85).toList.map (fun f => (f.name, f.type, f.offset)) = [("Index", 3, 0), ("Data", 58, 1)] := by kernel_rfl
theorem under85 : Try.prog.underlying 85 = some (.struct (Try.prog.fieldsOf 85)) := by
  unfold Program.fieldsOf
  rw [Try.underlying85]
theorem held85 : Try.prog.stoodInHeld 85 = false := by kernel_rfl
/-- Are two blocks with their numbers the same? -/
def celB (a b : Cel) : Bool := (a.1 == b.1) && sameB a.2 b.2
theorem eq_cel (d : Nat) (a b : Cel) (w : World) : (Op.equalIn (d + 1 + 1 + 1) 85 (.agg (celRow a).toArray) (.agg (celRow b).toArray)).run Try.prog w = .ok (celB a b) w := by
  rw [run_equalIn_struct w (d + 1 + 1) 85 _ _ under85 held85]
  have hf := fields85
  generalize (Try.prog.fieldsOf 85).toList = fs at hf
  obtain ⟨f1, f2, rfl⟩ : ∃ f1 f2, fs = [f1, f2] := by
    have hl : fs.length = 2 := by have := congrArg List.length hf; simpa using this
    rcases fs with _ | ⟨f1, _ | ⟨f2, _ | ⟨f3, t⟩⟩⟩
    · simp at hl
    · simp at hl
    · exact ⟨f1, f2, rfl⟩
    · simp at hl
  · simp only [List.map_cons, List.map_nil, List.cons.injEq, Prod.mk.injEq] at hf
    obtain ⟨⟨n1, t1, o1⟩, ⟨n2, t2, o2⟩, _⟩ := hf
    have e1 := part_idx a
    have e2 := part_idx b
    have e3 := part_blk a
    have e4 := part_blk b
    have e5 := eq25d d a.2 b.2
    generalize (celRow a).toArray = A at *
    generalize (celRow b).toArray = B at *
    generalize blk a.2 = F at *
    generalize blk b.2 = G at *
    unfold celB
    cases hx : (a.1 == b.1)
    · simp [Op.eqFields, n1, t1, o1, e1, e2, run_equalIn_int _ _ _ _ _ _ _ Try.underlying3, hx]
    · cases hy : sameB a.2 b.2
      · rw [hy] at e5
        simp [Op.eqFields, n1, t1, o1, n2, t2, o2, e1, e2, e3, e4, e5, run_equalIn_int _ _ _ _ _ _ _ Try.underlying3, hx]
      · rw [hy] at e5
        simp [Op.eqFields, n1, t1, o1, n2, t2, o2, e1, e2, e3, e4, e5, run_equalIn_int _ _ _ _ _ _ _ Try.underlying3, hx]
/-- A block with its number lies at a place. -/
def CelAt (w : World) (g off : Nat) (c : Cel) : Prop := w.cell? ⟨g, off, none⟩ = some (.int .i64 c.1) ∧ BlkAt w g (off + 1) c.2
theorem CelAt.range {w : World} {g off : Nat} {c : Cel} (h : CelAt w g off c) : w.rangeAt g off (celRow c) := fun j v hv => by
  cases j with
  | zero =>
    have e : Value.int .i64 c.1 = v := by simpa [celRow] using hv
    rw [← e]
    exact h.1
  | succ j =>
    have hv' : (blk c.2).toList[j]? = some v := by simpa [celRow] using hv
    have := h.2 j v hv'
    rwa [show off + 1 + j = off + (j + 1) by omega] at this
theorem load85 {w : World} {g off : Nat} {c : Cel} (h : CelAt w g off c) : (Instr.loadAt 85 (.pointer (some ⟨g, off, none⟩))).run Try.prog w = .ok (.agg (celRow c).toArray) w :=
  run_loadAt_mid (P := Try.prog) w g off 85 (celRow c) _ h.range Try.underlying85 rfl (by rw [celRow_len]; exact size85)
theorem neqg85 (x y : Operand) (F G : Array Value) (u : World) : (eqGuard .neq 85 x y (.agg F) (.agg G)).run Try.prog u = .ok () u := by
  unfold eqGuard
  simp
theorem eqg85 (x y : Operand) (F G : Array Value) (u : World) : (eqGuard .eql 85 x y (.agg F) (.agg G)).run Try.prog u = .ok () u := by
  unfold eqGuard
  simp
theorem neq85 (a b : Cel) (r : Bool) (hr : celB a b = r) (u : World) : (binOp .neq 85 (.agg (celRow a).toArray) (.agg (celRow b).toArray)).run Try.prog u = .ok (.bool (!r)) u := by
  have h := eq_cel 9997 a b u
  rw [hr] at h
  generalize (celRow a).toArray = F at *
  generalize (celRow b).toArray = G at *
  have h' : (Op.equalIn 10000 85 (.agg F) (.agg G)).run Try.prog u = .ok r u := h
  simp only [binOp, Op.equal, Op.maxDepth, Sem.run_bind, h', Result.andThen_ok, Sem.run_pure]
theorem eql85 (a b : Cel) (r : Bool) (hr : celB a b = r) (u : World) : (binOp .eql 85 (.agg (celRow a).toArray) (.agg (celRow b).toArray)).run Try.prog u = .ok (.bool r) u := by
  have h := eq_cel 9997 a b u
  rw [hr] at h
  generalize (celRow a).toArray = F at *
  generalize (celRow b).toArray = G at *
  have h' : (Op.equalIn 10000 85 (.agg F) (.agg G)).run Try.prog u = .ok r u := h
  simp only [binOp, Op.equal, Op.maxDepth, Sem.run_bind, h', Result.andThen_ok, Sem.run_pure]
theorem wpStill_load85 {ops : Array Oper} {Q : Act → Prop} {a : Act} {o : Oper} {rest : List Oper} {w : World} (hw : Region.wanted o (yielded ops a.tmps) = true) (x : Operand) (ho : o.op = .load 85 x)
    (g off : Nat) (hx : a.eval x = .pointer (some ⟨g, off, none⟩)) (c : Cel) (hg : CelAt w g off c)
    (h : wpStill Try.prog ops w Q rest (a.put o.dst (.agg (celRow c).toArray))) : wpStill Try.prog ops w Q (o :: rest) a := by
  unfold wpStill
  rw [if_pos hw]
  unfold Oper.still execOp
  simp only [ho, hx, load85 hg, Sem.run_bind, Result.andThen_ok, Sem.run_pure, Oper.stillUpon]
  exact ⟨trivial, h⟩
theorem wpStill_neq85 {ops : Array Oper} {Q : Act → Prop} {a : Act} {o : Oper} {rest : List Oper} {w : World} (hw : Region.wanted o (yielded ops a.tmps) = true) (x y : Operand) (ho : o.op = .binOp .neq 85 x y 85)
    (c d : Cel) (r : Bool) (hx : a.eval x = .agg (celRow c).toArray) (hy : a.eval y = .agg (celRow d).toArray) (hr : celB c d = r)
    (h : wpStill Try.prog ops w Q rest (a.put o.dst (.bool (!r)))) : wpStill Try.prog ops w Q (o :: rest) a := by
  have e := neq85 c d r hr w
  unfold wpStill
  rw [if_pos hw]
  unfold Oper.still execOp
  simp only [ho, hx, hy, Sem.run_bind, neqg85, e, Result.andThen_ok, Sem.run_pure, Oper.stillUpon]
  exact ⟨trivial, h⟩
/-- Are two lists the same? -/
def celsB : List Cel → List Cel → Bool
  | [], [] => true
  | a :: s, b :: t => celB a b && celsB s t
  | _, _ => false
theorem celsB_len : ∀ {s t : List Cel}, celsB s t = true → s.length = t.length
  | [], [], _ => rfl
  | a :: s, b :: t, h => by
    unfold celsB at h
    simp at h
    simp [celsB_len h.2]
  | [], _ :: _, h => by simp [celsB] at h
  | _ :: _, [], h => by simp [celsB] at h
theorem celB_iff {a b : Cel} (ha : Can a.2) (hb : Can b.2) : celB a b = true ↔ a = b := by
  unfold celB
  simp only [Bool.and_eq_true, beq_iff_eq, ha.same hb]
  constructor
  · rintro ⟨h1, h2⟩
    exact Prod.ext h1 h2
  · rintro rfl
    exact ⟨rfl, rfl⟩
theorem celsB_iff : ∀ {s t : List Cel}, (∀ c ∈ s, Can c.2) → (∀ c ∈ t, Can c.2) → (celsB s t = true ↔ s = t)
  | [], [], _, _ => by simp [celsB]
  | a :: s, b :: t, hs, ht => by
    have ih := celsB_iff (s := s) (t := t) (fun c hc => hs c (List.mem_cons_of_mem _ hc)) (fun c hc => ht c (List.mem_cons_of_mem _ hc))
    unfold celsB
    simp only [Bool.and_eq_true, celB_iff (hs a (by simp)) (ht b (by simp)), ih, List.cons.injEq]
  | [], _ :: _, _, _ => by simp [celsB]
  | _ :: _, [], _, _ => by simp [celsB]
theorem ImgAt.cel {w : World} {b off : Nat} {l : List Cel} (h : CelsAt w b off l) {k : Nat} {c : Cel} (hc : l[k]? = some c) : CelAt w b (off + k * 1025) c := h k c hc
end Go.Proofs.Ytembocfghkmieaa
