/- Names of entries: what may be one, by the program and by the document; any text. -/
import Derived.Test.YtadljgaadjajdaaEqN
import Derived.Test.YtadljgaadjajdaaOrd
import Derived.Laws.ResultCell
namespace Go.Proofs.Ytadljgaadjajdaa
open Go.RowKit Go.Maps
theorem bel_al {w u : World} (h : Below w.heap.size w u) (o : Obj) : Below w.heap.size w (u.alloc o) := h.alloc h.size o
theorem below_setRow {B : Nat} {a w : World} (h : Below B a w) {g : Nat} (hg : B ≤ g) (cs : Array Value) : Below B a (w.setRow g cs) :=
  h.trans ⟨rfl, rfl, rfl, by simp, fun k hk => setRow_other w g k cs (by omega)⟩
theorem wrap_u16 (n : Int) : IntKind.u16.wrap n = n % 65536 := by simp [IntKind.wrap, IntKind.bits, IntKind.signed]
/-- The byte at a place. -/
def byt (s : ByteArray) (i : Nat) : Int := if h : i < s.size then ((s[i].toNat : Nat) : Int) else 0
theorem byt_bd (s : ByteArray) (i : Nat) : 0 ≤ byt s i ∧ byt s i ≤ 255 := by
  unfold byt
  split
  · rename_i h
    have := s[i].toNat_lt
    omega
  · omega
/-- A byte that no name has, among the first k. -/
def oddB (s : ByteArray) (k : Nat) : Bool := (List.range k).any fun i => byt s i == 0 || byt s i == 47
theorem oddB_succ (s : ByteArray) (k : Nat) : oddB s (k + 1) = (oddB s k || (byt s k == 0 || byt s k == 47)) := by simp [oddB, List.range_succ]
theorem oddB_later {s : ByteArray} {k n : Nat} (h : oddB s k = true) (hk : k ≤ n) : oddB s n = true := by
  unfold oddB at *
  rw [List.any_eq_true] at *
  obtain ⟨i, hi, hb⟩ := h
  exact ⟨i, List.mem_range.2 (by have := List.mem_range.1 hi; omega), hb⟩
theorem oddB_false {s : ByteArray} {k : Nat} (h : oddB s k = false) (i : Nat) (hi : i < k) : ¬ byt s i = 0 ∧ ¬ byt s i = 47 := by
  unfold oddB at h
  rw [List.any_eq_false] at h
  have := h i (List.mem_range.2 hi)
  simp at this
  exact this
/-- What Name answers. -/
def nmV (s : ByteArray) : Int := if s.size = 0 then 4 else if oddB s s.size then 4 else if 14 < s.size then 12 else 0
theorem nm_empty {s : ByteArray} (h : s.size = 0) : s = ⟨#[]⟩ := by
  apply ByteArray.ext
  exact Array.eq_empty_of_size_eq_zero h
theorem nm_list {s : ByteArray} (h : 0 < s.size) : s.toList.isEmpty = false := by
  rw [ByteArray.toList_eq]
  have : s.data.toList.length = s.size := by cases s; rfl
  cases hq : s.data.toList with
  | nil => rw [hq] at this; simp at this; omega
  | cons a t => rfl
theorem idx_str (s : ByteArray) (i : Nat) (h : i < s.size) (u : World) : (Instr.index 9 (.string s) (.int .i64 (i : Int))).run Try.prog u = .ok (.int .u8 (byt s i)) u := by
  rw [run_index_string (P := Try.prog) u 9 s .i64 (i : Int) Try.underlying9, dif_pos (by omega)]
  simp [byt, h]
end Go.Proofs.Ytadljgaadjajdaa
