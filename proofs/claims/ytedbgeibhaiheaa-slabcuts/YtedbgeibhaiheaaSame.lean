/- SameBytes: two slices that hold the same bytes are told the same; they may lie anywhere in memory. -/
import Derived.Test.YtedbgeibhaiheaaBytes
import Derived.BigQuiet
namespace Go.Proofs.Ytedbgeibhaiheaa
open Go.RowKit

set_option maxRecDepth 20000 in
set_option maxHeartbeats 400000 in
theorem same_some (b1 o1 c1 b2 o2 c2 n : Nat) (f g : Nat → Int) (w : World) (hn : (n : Int) ≤ 9223372036854775807)
    (h1 : ∀ i, i < n → w.cell? ⟨b1, o1 + i, none⟩ = some (.int .u8 (f i))) (h2 : ∀ i, i < n → w.cell? ⟨b2, o2 + i, none⟩ = some (.int .u8 (g i))) (hs : ∀ i, i < n → f i = g i) :
    Calls Try.prog 20 #[.slice (some ⟨b1, o1, none⟩) n c1, .slice (some ⟨b2, o2, none⟩) n c2] w fun e w' => e = .returned (.bool true) ∧ Below w.heap.size w w' := by
  go_enter Try.func20, Try.ntmps20
  go_wp2
  go_loopw [5] (fun s5 wx => ∃ k : Nat, (k : Int) ≤ n ∧ s5 = .int .i64 k ∧ ∃ d, wx = w.drewN d) (fun s5 _ => n - (intOf s5).toNat)
  case atStart => exact ⟨0, by omega, rfl, 0, rfl⟩
  case round =>
    obtain ⟨k, hk, rfl, d, rfl⟩ := hrel
    by_cases hk2 : (k : Int) < n
    · have hc1 := h1 k (by omega)
      have hc2 := h2 k (by omega)
      rw [← hs k (by omega)] at hc2
      clear h1 h2 hs
      go_wp2
      go_quiet (fail)
      go_wp2
      exact ⟨⟨k + 1, by omega, by go_num, _, rfl⟩, by simp [intOf]; omega⟩
    · clear h1 h2 hs
      go_wp2
      go_ret
      exact ⟨rfl, below_drewN (Below.refl _ _) _⟩
set_option maxRecDepth 20000 in
set_option maxHeartbeats 400000 in
theorem same_none (a1 a2 : Option Addr) (c1 c2 : Nat) (w : World) :
    Calls Try.prog 20 #[.slice a1 0 c1, .slice a2 0 c2] w fun e w' => e = .returned (.bool true) ∧ Below w.heap.size w w' := by
  go_enter Try.func20, Try.ntmps20
  go_wp2
  go_loop [5] (fun s5 => s5 = .int .i64 0) (fun _ => 0)
  case atStart => rfl
  case round =>
    obtain rfl := hrel
    go_wp2
    go_ret
    exact ⟨rfl, Below.refl _ _⟩
theorem Lies.none {w : World} {v : Value} {f : Nat → Int} (h : Lies w v 0 f) : ∃ a cap, v = .slice a 0 cap := by
  rcases h with ⟨a, cap, rfl, _, _⟩ | ⟨b, off, cap, rfl, _⟩
  · exact ⟨_, _, rfl⟩
  · exact ⟨_, _, rfl⟩
theorem Lies.some {w : World} {v : Value} {n : Nat} {f : Nat → Int} (h : Lies w v n f) (hn : 0 < n) :
    ∃ b off cap, v = .slice (some ⟨b, off, .none⟩) n cap ∧ n ≤ maxLen ∧ n ≤ cap ∧ b < w.heap.size ∧ ∀ i, i < n → w.cell? ⟨b, off + i, .none⟩ = .some (.int .u8 (f i)) := by
  rcases h with ⟨a, cap, rfl, h0, _⟩ | h
  · omega
  · exact h
theorem same_lies {w : World} {a b : Value} {n : Nat} {f g : Nat → Int} (h1 : Lies w a n f) (h2 : Lies w b n g) (hs : ∀ i, i < n → f i = g i) :
    Calls Try.prog 20 #[a, b] w fun e w' => e = .returned (.bool true) ∧ Below w.heap.size w w' := by
  by_cases h0 : n = 0
  · subst h0
    obtain ⟨a1, c1, rfl⟩ := h1.none
    obtain ⟨a2, c2, rfl⟩ := h2.none
    exact same_none a1 a2 c1 c2 w
  · obtain ⟨b1, o1, c1, rfl, hm, _, _, hc1⟩ := h1.some (by omega)
    obtain ⟨b2, o2, c2, rfl, _, _, _, hc2⟩ := h2.some (by omega)
    unfold maxLen at hm
    exact same_some b1 o1 c1 b2 o2 c2 n f g w (by omega) hc1 hc2 hs
end Go.Proofs.Ytedbgeibhaiheaa
