/- Names of entries: what may be one, by the program and by the document; any text. -/
import Derived.Test.YtadiajcllfahiaaEqN
import Derived.Test.YtadiajcllfahiaaOrd
import Derived.Laws.ResultCell
namespace Go.Proofs.Ytadiajcllfahiaa
open Go.RowKit Go.Maps
theorem bel_al {w u : World} (h : Below w.heap.size w u) (o : Obj) : Below w.heap.size w (u.alloc o) := h.alloc h.size o
theorem below_setRow {B : Nat} {a w : World} (h : Below B a w) {g : Nat} (hg : B ≤ g) (cs : Array Value) : Below B a (w.setRow g cs) :=
  h.trans ⟨rfl, rfl, rfl, by simp, fun k hk => setRow_other w g k cs (by omega)⟩
theorem wrap_u16 (n : Int) : IntKind.u16.wrap n = n % 65536 := by simp [IntKind.wrap, IntKind.bits, IntKind.signed]
/-- The byte at a place. -/
def byt (s : ByteArray) (i : Nat) : Int := if h : i < s.size then ((s[i].toNat : Nat) : Int) else 0
theorem byt_bd (s : ByteArray) (i : Nat) : 0 ≤ byt s i ∧ byt s i ≤ 255 := by
  unfold byt
  split
  · rename_i h
    have := s[i].toNat_lt
    omega
  · omega
/-- A byte that no name has, among the first k. -/
def oddB (s : ByteArray) (k : Nat) : Bool := (List.range k).any fun i => byt s i == 0 || byt s i == 47
theorem oddB_succ (s : ByteArray) (k : Nat) : oddB s (k + 1) = (oddB s k || (byt s k == 0 || byt s k == 47)) := by simp [oddB, List.range_succ]
theorem oddB_later {s : ByteArray} {k n : Nat} (h : oddB s k = true) (hk : k ≤ n) : oddB s n = true := by
  unfold oddB at *
  rw [List.any_eq_true] at *
  obtain ⟨i, hi, hb⟩ := h
  exact ⟨i, List.mem_range.2 (by have := List.mem_range.1 hi; omega), hb⟩
theorem oddB_false {s : ByteArray} {k : Nat} (h : oddB s k = false) (i : Nat) (hi : i < k) : ¬ byt s i = 0 ∧ ¬ byt s i = 47 := by
  unfold oddB at h
  rw [List.any_eq_false] at h
  have := h i (List.mem_range.2 hi)
  simp at this
  exact this
/-- What Name answers. -/
def nmV (s : ByteArray) : Int := if s.size = 0 then 4 else if oddB s s.size then 4 else if 14 < s.size then 12 else 0
theorem nm_empty {s : ByteArray} (h : s.size = 0) : s = ⟨#[]⟩ := by
  apply ByteArray.ext
  exact Array.eq_empty_of_size_eq_zero h
theorem nm_list {s : ByteArray} (h : 0 < s.size) : s.toList.isEmpty = false := by
  rw [ByteArray.toList_eq]
  have : s.data.toList.length = s.size := by cases s; rfl
  cases hq : s.data.toList with
  | nil => rw [hq] at this; simp at this; omega
  | cons a t => rfl
theorem idx_str (s : ByteArray) (i : Nat) (h : i < s.size) (u : World) : (Instr.index 9 (.string s) (.int .i64 (i : Int))).run Try.prog u = .ok (.int .u8 (byt s i)) u := by
  rw [run_index_string (P := Try.prog) u 9 s .i64 (i : Int) Try.underlying9, dif_pos (by omega)]
  simp [byt, h]
set_option maxRecDepth 20000 in
set_option maxHeartbeats 1000000 in
theorem refName_any (s : ByteArray) (w : World) (hs : s.size ≤ 9223372036854775807) :
    Calls Try.prog 11 #[.string s] w fun e w' => e = .returned (.int .i64 (nmV s)) ∧ w' = w := by
  by_cases h0 : s.size = 0
  · rw [show nmV s = 4 by unfold nmV; rw [if_pos h0]]
    rw [nm_empty h0]
    go_enter Try.func11, Try.ntmps11
    go_wp2
    go_ret
    exact ⟨rfl, rfl⟩
  have h3 := nm_list (s := s) (by omega)
  have HV : Hid (nmV s = if oddB s s.size then 4 else if 14 < s.size then 12 else 0) := by show nmV s = _; unfold nmV; rw [if_neg h0]
  go_enter Try.func11, Try.ntmps11
  go_wp2
  go_loopw [3] (fun s3 wx => wx = w ∧ ∃ i : Nat, i ≤ s.size ∧ Hid (oddB s i = false) ∧ s3 = .int .i64 i) (fun s3 _ => s.size - (intOf s3).toNat)
  case atStart => exact ⟨rfl, 0, by omega, rfl, rfl⟩
  case round =>
    obtain ⟨rfl, i, hi, HO, rfl⟩ := hrel
    by_cases hi2 : (i : Int) < (s.size : Int)
    · have hr := idx_str s i (by omega)
      have HS : Hid _ := oddB_succ s i
      have HL : Hid (oddB s (i + 1) = true → oddB s s.size = true) := fun h => oddB_later h (by omega)
      generalize byt s i = q at *
      by_cases b0 : q = 0
      · subst b0
        have H4 : Hid (nmV s = 4) := by show nmV s = 4; rw [HV.out, if_pos (HL.out (by rw [HS.out]; simp))]
        clear HS
        go_wp2
        go_ret
        exact ⟨by rw [H4.out]; rfl, rfl⟩
      by_cases b1 : q = 47
      · subst b1
        have H4 : Hid (nmV s = 4) := by show nmV s = 4; rw [HV.out, if_pos (HL.out (by rw [HS.out]; simp))]
        clear HS
        go_wp2
        go_ret
        exact ⟨by rw [H4.out]; rfl, rfl⟩
      have g1 : ((q : Int) == 0) = false := beq_eq_false_iff_ne.2 b0
      have g2 : ((q : Int) == 47) = false := beq_eq_false_iff_ne.2 b1
      have HO2 : Hid (oddB s (i + 1) = false) := by show oddB s (i + 1) = false; rw [HS.out, HO.out, g1, g2]; rfl
      clear HS HL
      go_wp2
      exact ⟨⟨trivial, i + 1, by omega, HO2, by go_num⟩, by simp [intOf]; omega⟩
    · obtain rfl : i = s.size := by omega
      have hv : nmV s = if 14 < s.size then 12 else 0 := by rw [HV.out, HO.out]; rfl
      by_cases h14 : 14 < s.size
      · have g1 : decide ((14 : Int) < (s.size : Int)) = true := decide_eq_true (by omega)
        rw [if_pos h14] at hv
        have HV2 : Hid _ := hv
        clear hv
        go_wp2
        go_ret
        exact ⟨by rw [HV2.out]; rfl, rfl⟩
      · have g1 : decide ((14 : Int) < (s.size : Int)) = false := decide_eq_false (by omega)
        rw [if_neg h14] at hv
        have HV2 : Hid _ := hv
        clear hv
        go_wp2
        go_ret
        exact ⟨by rw [HV2.out]; rfl, rfl⟩
set_option maxRecDepth 20000 in
set_option maxHeartbeats 1000000 in
theorem name_any (s : ByteArray) (w : World) (hs : s.size ≤ 9223372036854775807) :
    Calls Try.prog 10 #[.string s] w fun e w' => e = .returned (.int .i64 (nmV s)) ∧ w' = w := by
  by_cases h0 : s.size = 0
  · rw [show nmV s = 4 by unfold nmV; rw [if_pos h0]]
    rw [nm_empty h0]
    go_enter Try.func10, Try.ntmps10
    go_wp2
    go_ret
    exact ⟨rfl, rfl⟩
  have h3 := nm_list (s := s) (by omega)
  have HV : Hid (nmV s = if oddB s s.size then 4 else if 14 < s.size then 12 else 0) := by show nmV s = _; unfold nmV; rw [if_neg h0]
  go_enter Try.func10, Try.ntmps10
  go_wp2
  go_loopw [8] (fun s3 wx => wx = w ∧ ∃ i : Nat, i ≤ s.size ∧ Hid (oddB s i = false) ∧ s3 = .int .i64 i) (fun s3 _ => s.size - (intOf s3).toNat)
  case atStart => exact ⟨rfl, 0, by omega, rfl, rfl⟩
  case round =>
    obtain ⟨rfl, i, hi, HO, rfl⟩ := hrel
    by_cases hi2 : (i : Int) < (s.size : Int)
    · have hr := idx_str s i (by omega)
      have HS : Hid _ := oddB_succ s i
      have HL : Hid (oddB s (i + 1) = true → oddB s s.size = true) := fun h => oddB_later h (by omega)
      generalize byt s i = q at *
      by_cases b0 : q = 0
      · subst b0
        have H4 : Hid (nmV s = 4) := by show nmV s = 4; rw [HV.out, if_pos (HL.out (by rw [HS.out]; simp))]
        clear HS
        go_wp2
        go_ret
        exact ⟨by rw [H4.out]; rfl, rfl⟩
      by_cases b1 : q = 47
      · subst b1
        have H4 : Hid (nmV s = 4) := by show nmV s = 4; rw [HV.out, if_pos (HL.out (by rw [HS.out]; simp))]
        clear HS
        go_wp2
        go_ret
        exact ⟨by rw [H4.out]; rfl, rfl⟩
      have g1 : ((q : Int) == 0) = false := beq_eq_false_iff_ne.2 b0
      have g2 : ((q : Int) == 47) = false := beq_eq_false_iff_ne.2 b1
      have HO2 : Hid (oddB s (i + 1) = false) := by show oddB s (i + 1) = false; rw [HS.out, HO.out, g1, g2]; rfl
      clear HS HL
      go_wp2
      exact ⟨⟨trivial, i + 1, by omega, HO2, by go_num⟩, by simp [intOf]; omega⟩
    · obtain rfl : i = s.size := by omega
      have hv : nmV s = if 14 < s.size then 12 else 0 := by rw [HV.out, HO.out]; rfl
      by_cases h14 : 14 < s.size
      · have g1 : decide ((14 : Int) < (s.size : Int)) = true := decide_eq_true (by omega)
        rw [if_pos h14] at hv
        have HV2 : Hid _ := hv
        clear hv
        go_wp2
        go_ret
        exact ⟨by rw [HV2.out]; rfl, rfl⟩
      · have g1 : decide ((14 : Int) < (s.size : Int)) = false := decide_eq_false (by omega)
        rw [if_neg h14] at hv
        have HV2 : Hid _ := hv
        clear hv
        go_wp2
        go_ret
        exact ⟨by rw [HV2.out]; rfl, rfl⟩
end Go.Proofs.Ytadiajcllfahiaa
