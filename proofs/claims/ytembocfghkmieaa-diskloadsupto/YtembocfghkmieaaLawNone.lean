/- The law of disks that are none answers true, whatever acts came in; no condition. -/
import Derived.Test.YtembocfghkmieaaNones
namespace Go.Proofs.Ytembocfghkmieaa
open Go.RowKit

/-- An act that came in: six cells at a place. -/
structure ActAt (w : World) (b off : Nat) where
  o : Int
  k : Int
  pos : Int
  n : Int
  pa : Option Addr
  pl : Nat
  pc : Nat
  pf : Nat → Int
  ka : Option Addr
  kc : Nat
  kl : List Bool
  hb : b < w.heap.size
  c0 : w.cell? ⟨b, off, none⟩ = some (.int .i64 o)
  c1 : w.cell? ⟨b, off + 1, none⟩ = some (.int .i64 k)
  c2 : w.cell? ⟨b, off + 2, none⟩ = some (.int .i64 pos)
  c3 : w.cell? ⟨b, off + 3, none⟩ = some (.slice pa pl pc)
  c4 : w.cell? ⟨b, off + 4, none⟩ = some (.int .i64 n)
  c5 : w.cell? ⟨b, off + 5, none⟩ = some (.slice ka kl.length kc)
  lies : Lies w (.slice pa pl pc) pl pf
  byte : ∀ i, 0 ≤ pf i ∧ pf i ≤ 255
  bools : BoolsAt w (.slice ka kl.length kc) kl
  ho : -9223372036854775808 ≤ o ∧ o ≤ 9223372036854775807
  hk : -9223372036854775808 ≤ k ∧ k ≤ 9223372036854775807
  hp : -9223372036854775808 ≤ pos ∧ pos ≤ 9223372036854775807
  hn : -9223372036854775808 ≤ n ∧ n ≤ 9223372036854775807
  hkl : kl.length ≤ maxLen
/-- A list of acts. -/
def ActsAt (w : World) (a : Option Addr) (len : Nat) : Prop := (len : Int) ≤ 9223372036854775807 ∧ ∀ r, r < len → ∃ b off, a = some ⟨b, off, none⟩ ∧ Nonempty (ActAt w b (off + r * 6))
theorem rangeAct {w : World} {b off : Nat} (A : ActAt w b off) : w.rangeAt b off (actC A.o A.k A.pos (.slice A.pa A.pl A.pc) A.n (.slice A.ka A.kl.length A.kc)).toList := fun j v hv => by
  match j, hv with
  | 0, hv => cases hv; exact A.c0
  | 1, hv => cases hv; exact A.c1
  | 2, hv => cases hv; exact A.c2
  | 3, hv => cases hv; exact A.c3
  | 4, hv => cases hv; exact A.c4
  | 5, hv => cases hv; exact A.c5
  | n + 6, hv => simp [actC] at hv
theorem size44 : (Try.prog.info? 44).map (·.size) = some 6 := by kernel_rfl
theorem load44 {w : World} {b off : Nat} {cs : Array Value} (h : w.rangeAt b off cs.toList) (hs : cs.size = 6) : (Instr.loadAt 44 (.pointer (some ⟨b, off, none⟩))).run Try.prog w = .ok (.agg cs) w := by
  have hr := run_loadAt_mid (P := Try.prog) w b off 44 cs.toList _ h Try.underlying44 rfl (by rw [Array.length_toList, hs]; exact size44)
  rwa [Array.toArray_toList] at hr
theorem wpList_load44 {ops : Array Oper} {rest : List Oper} {o : Oper} {a : Act} {w : World} {Q : Exit → Act → World → Prop} (hw : Region.wanted o (yielded ops a.tmps) = true) (x : Operand) (ho : o.op = .load 44 x)
    (g off : Nat) (hx : a.eval x = .pointer (some ⟨g, off, none⟩)) (cs : Array Value) (hg : w.rangeAt g off cs.toList) (hs : cs.size = 6)
    (h : wpList Try.prog ops Q rest (a.put o.dst (.agg cs)) w) : wpList Try.prog ops Q (o :: rest) a w :=
  BigFrame.wpList_want hw fun _ hK => by
    unfold Oper.wp execOp
    simp only [ho, hx, load44 hg hs, Sem.run_bind, Result.andThen_ok, Sem.run_pure]
    exact hK _ _ h
theorem range_later {w w' : World} {b off : Nat} {cs : List Value} (h : w.rangeAt b off cs) (hb : Below w.heap.size w w') (hlt : b < w.heap.size) : w'.rangeAt b off cs := fun j v hv => (hb.cell (p := ⟨b, off + j, none⟩) hlt).trans (h j v hv)
/-- A disk that nobody made. -/
def rawRow : Array Value := #[.pointer none, .int .i64 0, .map none, .slice none 0 0, .int .i64 0, .map none, .int .i64 0, .bool false, .int .i64 0, .int .i64 0, .int .i64 0, .bool false]
theorem none_raw {w : World} {g : Nat} (h : w.heap[g]? = some (.cells rawRow 74)) : NoneAt w (.pointer (some ⟨g, 0, none⟩)) := .inr ⟨g, rfl, Joins.cell_of_block h 0⟩
theorem lies_nil (w : World) (f : Nat → Int) : Lies w (.slice none 0 0) 0 f := .inl ⟨none, 0, rfl, rfl, fun _ => rfl⟩
set_option maxRecDepth 20000 in
set_option maxHeartbeats 2000000 in
theorem law_none (a : Option Addr) (len cap : Nat) (w : World) (h : ActsAt w a len) : Calls Try.prog 5 #[.slice a len cap] w fun e w' => e = .returned (.bool true) ∧ Below w.heap.size w w' := by
  obtain ⟨hlen, hacts⟩ := h
  have HA : Hid (∀ r, r < len → ∃ b off, a = some ⟨b, off, none⟩ ∧ Nonempty (ActAt w b (off + r * 6))) := hacts
  clear hacts
  go_enter Try.func5, Try.ntmps5
  go_wp2_with (go_at_call 28; fail)
  have hG := heap_alloc_new w (.cells rawRow 74)
  have hB := below_new w (.cells rawRow 74)
  unfold rawRow at hG hB
  refine (awake_any _).mono ?_
  rintro e W1 ⟨rfl, hb1⟩
  have HG1 : Hid (W1.heap[w.heap.size]? = some (.cells rawRow 74)) := heap_kept hG hb1
  have HB1 : Hid (Below w.heap.size w W1) := below_next hB hb1
  clear hG hB hb1
  go_wp2
  go_loopw [5] (fun s5 wx => ∃ k : Nat, k ≤ len ∧ s5 = .int .i64 k ∧ Hid (wx.heap[w.heap.size]? = some (.cells rawRow 74)) ∧ Hid (Below w.heap.size w wx)) (fun s5 _ => len - (intOf s5).toNat)
  case atStart => exact ⟨0, by omega, rfl, HG1.out, HB1.out⟩
  case round =>
    obtain ⟨k, hk, rfl, HG, HB⟩ := hrel
    clear HG1 HB1
    by_cases hk2 : (k : Int) < len
    · obtain ⟨b, off, rfl, ⟨A⟩⟩ := HA.out k (by omega)
      have hr1 := range_later (rangeAct A) HB.out A.hb
      have hL1 := A.lies.later HB.out
      have hbl := A.hb
      generalize hcs : actC A.o A.k A.pos (.slice A.pa A.pl A.pc) A.n (.slice A.ka A.kl.length A.kc) = cs at hr1
      have hs6 : cs.size = 6 := by rw [← hcs]; rfl
      have N1 := none_any (w := wr) (v := .pointer none) (.inl rfl) A.o A.k A.pos A.n hL1 A.ka A.kl.length A.kc
      rw [hcs] at N1
      have HN1 : Hid (Calls Try.prog 29 #[.pointer none, .agg cs] wr fun e w' => e = .returned (.bool true) ∧ Below wr.heap.size wr w') := N1
      clear N1
      go_wp2_with (first | refine wpList_load44 rfl (.tmp 15) rfl b (off + k * 6) rfl cs hr1 hs6 ?_ | (go_at_call 29; fail))
      refine HN1.out.mono ?_
      rintro e W2 ⟨rfl, hb2⟩
      have hr2 := range_later hr1 hb2 (Nat.lt_of_lt_of_le hbl HB.out.size)
      have hG2 := heap_kept HG.out hb2
      have HB2 : Hid (Below w.heap.size w W2) := below_next HB.out hb2
      have N2 := none_any (none_raw hG2) A.o A.k A.pos A.n (hL1.later hb2) A.ka A.kl.length A.kc
      rw [hcs] at N2
      have HN2 : Hid (Calls Try.prog 29 #[.pointer (some ⟨w.heap.size, 0, none⟩), .agg cs] W2 fun e w' => e = .returned (.bool true) ∧ Below W2.heap.size W2 w') := N2
      have HG2 : Hid (W2.heap[w.heap.size]? = some (.cells rawRow 74)) := hG2
      clear N2 hr1 hL1 hb2 hG2 HG HB HN1
      go_wp2_with (first | refine wpList_load44 rfl (.tmp 22) rfl b (off + k * 6) rfl cs hr2 hs6 ?_ | (go_at_call 29; fail))
      refine HN2.out.mono ?_
      rintro e W3 ⟨rfl, hb3⟩
      have HG3 : Hid (W3.heap[w.heap.size]? = some (.cells rawRow 74)) := heap_kept HG2.out hb3
      have HB3 : Hid (Below w.heap.size w W3) := below_next HB2.out hb3
      clear hb3 HG2 HB2 HN2 hr2
      go_wp2
      exact ⟨⟨k + 1, by omega, by go_num, HG3.out, HB3.out⟩, by simp [intOf]; omega⟩
    · have N1 := none_any (w := wr) (v := .pointer none) (.inl rfl) 0 0 0 0 (lies_nil wr nought) none 0 0
      have HN1 : Hid (Calls Try.prog 29 #[.pointer none, .agg #[.int .i64 0, .int .i64 0, .int .i64 0, .slice none 0 0, .int .i64 0, .slice none 0 0]] wr fun e w' => e = .returned (.bool true) ∧ Below wr.heap.size wr w') := N1
      clear N1
      go_wp2_with (go_at_call 29; fail)
      refine HN1.out.mono ?_
      rintro e W2 ⟨rfl, hb2⟩
      have N2 := none_any (none_raw (heap_kept HG.out hb2)) 0 0 0 0 (lies_nil W2 nought) none 0 0
      have HN2 : Hid (Calls Try.prog 29 #[.pointer (some ⟨w.heap.size, 0, none⟩), .agg #[.int .i64 0, .int .i64 0, .int .i64 0, .slice none 0 0, .int .i64 0, .slice none 0 0]] W2 fun e w' => e = .returned (.bool true) ∧ Below W2.heap.size W2 w') := N2
      have HB2 : Hid (Below w.heap.size w W2) := below_next HB.out hb2
      clear N2 hb2 HG HB HN1
      go_wp2_with (go_at_call 29; fail)
      refine HN2.out.mono ?_
      rintro e W3 ⟨rfl, hb3⟩
      have HB3 : Hid (Below w.heap.size w W3) := below_next HB2.out hb3
      clear hb3 HB2 HN2
      go_wp2
      go_ret
      exact ⟨rfl, HB3.out⟩
end Go.Proofs.Ytembocfghkmieaa
