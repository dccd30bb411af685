/- KeptBytes and OverBytes: a lent list is as it was, and is written over; the bytes are fewer than 2 to the 47th, less 4096. -/
import Derived.Test.YtedbgeibhaiheaaLent
namespace Go.Proofs.Ytedbgeibhaiheaa
open Go.RowKit

set_option maxRecDepth 20000 in
set_option maxHeartbeats 400000 in
theorem kept_lies {w : World} {a p : Value} {n : Nat} {f F : Nat → Int} (h1 : Lies w a (n + 6) F) (h : Lies w p n f) (hF : ∀ i, i < n + 6 → F i = lentF f n 7 i) (hn : n ≤ 140737488351232) :
    Calls Try.prog 27 #[a, p] w fun e w' => e = .returned (.bool true) ∧ Below w.heap.size w w' := by
  have HF : Hid (∀ i, i < n + 6 → F i = lentF f n 7 i) := hF
  clear hF
  go_enter Try.func27, Try.ntmps27
  go_wp2_with fail
  refine (lent_lies h hn).mono ?_
  rintro e w1 ⟨v, rfl, hown, hb1⟩
  have hl := hown.lies
  have h1' := h1.later hb1
  go_wp2_with fail
  refine (same_lies h1' hl HF.out).mono ?_
  rintro e w2 ⟨rfl, hb2⟩
  go_wp2
  go_ret
  exact ⟨rfl, hb1.trans (hb2.mono hb1.size)⟩

/-- The marks of list k. -/
def markF (k : Int) : Nat → Int := fun i => (7 * k + (i : Int) + 1) % 256
theorem upto_zero' (f G : Nat → Int) : (fun j => if j < 0 then G j else f j) = f := by funext j; rw [if_neg (by omega)]
/-- f, its first k places as G. -/
def firstAs (f G : Nat → Int) (k : Nat) : Nat → Int := fun j => if j < k then G j else f j
theorem firstAs_next (f G : Nat → Int) (k : Nat) : upd (firstAs f G k) k (G k) = firstAs f G (k + 1) := by
  funext j
  unfold upd firstAs
  by_cases h : j = k
  · subst h; rw [if_pos rfl, if_pos (by omega)]
  · by_cases h2 : j < k
    · rw [if_neg h, if_pos h2, if_pos (by omega)]
    · rw [if_neg h, if_neg h2, if_neg (by omega)]

set_option maxRecDepth 20000 in
set_option maxHeartbeats 400000 in
theorem over_some (base g cap n : Nat) (f : Nat → Int) (w : World) (h : Own w base (.slice (some ⟨g, 0, none⟩) n cap) n f) (hg : base ≤ g) (hn : (n : Int) ≤ 140737488355328) :
    Calls Try.prog 28 #[.slice (some ⟨g, 0, none⟩) n cap] w fun e w' => e = .returned (.tuple #[]) ∧ Own w' base (.slice (some ⟨g, 0, none⟩) n cap) n (markF 9) ∧ Below base w w' := by
  go_enter Try.func28, Try.ntmps28
  go_wp2
  go_loopw [2] (fun s2 wx => ∃ k : Nat, (k : Int) ≤ n ∧ s2 = .int .i64 k ∧ Own wx base (.slice (some ⟨g, 0, none⟩) n cap) n (firstAs f (markF 9) k) ∧ Below base w wx) (fun s2 _ => n - (intOf s2).toNat)
  case atStart => exact ⟨0, by omega, rfl, by unfold firstAs; rw [upto_zero']; exact h, Below.refl _ _⟩
  case round =>
    obtain ⟨k, hk, rfl, hown, hb⟩ := hrel
    clear h
    by_cases hk2 : (k : Int) < n
    · have hcell := World.ownsRow.cellAt hown k (by omega)
      rw [Array.getElem?_toList, rowA_get _ _ _ (by omega)] at hcell
      have hfr := World.ownsRow.frozenAt hown k
      have hst := World.ownsRow.stored hown k (.int .u8 (markF 9 k))
      have HS : Hid (Own (wr.setCell ⟨g, k, none⟩ (.int .u8 (markF 9 k))) base (.slice (some ⟨g, 0, none⟩) n cap) n (firstAs f (markF 9) (k + 1))) := show Own _ _ _ _ _ by
        unfold Own
        rw [← firstAs_next, ← rowA_set]
        simpa using hst.1
      have HB : Hid (Below base w (wr.setCell ⟨g, k, none⟩ (.int .u8 (markF 9 k)))) := hb.setCell hg _
      have em : (7 * 9 + (k : Int) + 1) % 256 = markF 9 k := rfl
      clear hst hown hb
      go_wp2_with (first | (go_at_call 46; refine (mark_any 9 k _ (by omega) (by omega)).mono ?_; rintro e w' ⟨rfl, rfl⟩))
      exact ⟨⟨k + 1, by omega, by go_num, HS.out, HB.out⟩, by simp [intOf]; omega⟩
    · have e : k = n := by omega
      subst e
      go_wp2
      go_end0
      refine ⟨rfl, ?_, hb⟩
      unfold Own at *
      rw [rowA_congr (g := firstAs f (markF 9) k) fun i hi => by unfold firstAs; rw [if_pos hi]]
      exact hown
theorem Own.later {w w' : World} {base : Nat} {v : Value} {n : Nat} {f : Nat → Int} (h : Own w base v n f) (hb : Below w.heap.size w w') : Own w' base v n f := by
  obtain ⟨h1, h2⟩ := h
  refine ⟨h1, ?_⟩
  rcases h2 with h2 | ⟨g, cap, cur, hv, hg, hh, r⟩
  · exact .inl h2
  · exact .inr ⟨g, cap, cur, hv, hg, (hb.block g (Array.getElem?_eq_some_iff.1 hh).1).trans hh, r⟩
theorem Own.some {w : World} {base : Nat} {v : Value} {n : Nat} {f : Nat → Int} (h : Own w base v n f) (hn : 0 < n) : ∃ g cap, v = .slice (.some ⟨g, 0, .none⟩) n cap ∧ base ≤ g ∧ g < w.heap.size ∧ n ≤ cap ∧ cap ≤ maxLen := by
  obtain ⟨_, h2⟩ := h
  rcases h2 with ⟨_, h0⟩ | ⟨g, cap, cur, hv, hg, hh, h3, h4, _⟩
  · omega
  · exact ⟨g, cap, hv, hg, (Array.getElem?_eq_some_iff.1 hh).1, h3, h4⟩
/-- The beginning of a row of one's own. -/
theorem Own.start {w : World} {base g cap n m : Nat} {f f' : Nat → Int} (h : Own w base (.slice (.some ⟨g, 0, .none⟩) n cap) n f) (hm : m ≤ n) (hf : ∀ i, i < m → f i = f' i) : Lies w (.slice (.some ⟨g, 0, .none⟩) m cap) m f' := by
  by_cases h0 : n = 0
  · obtain rfl : m = 0 := by omega
    exact .inl ⟨_, _, rfl, rfl, fun q => by cases q⟩
  · obtain ⟨b, off, cap', hv, h1, h2, h3, hc⟩ := h.lies.some (by omega)
    simp only [Value.slice.injEq, Option.some.injEq, Addr.mk.injEq, and_true, true_and] at hv
    obtain ⟨⟨rfl, rfl⟩, rfl⟩ := hv
    exact .inr ⟨g, 0, cap, rfl, by omega, by omega, h3, fun i hi => by rw [hc i (by omega), hf i hi]⟩
theorem slice22h (g n cap : Nat) (hn : n ≤ cap) (u : World) :
    (Instr.slice 22 (.slice (some ⟨g, 0, none⟩) (n + 6) cap) none (some (.int .i64 (n : Int))) none).run Try.prog u = .ok (.slice (some ⟨g, 0, none⟩) n cap) u := by
  have ee : Try.prog.elem 22 = 5 := by kernel_rfl
  have hx := run_slice_h (P := Try.prog) u 22 (some ⟨g, 0, none⟩) (n + 6) cap (by rw [ee]; exact Try.underlying22) .i64 (n : Int) (by omega) (by omega)
  rw [hx, ee]
  simp [Try.sizeOf5, sliced, Addr.add]
end Go.Proofs.Ytedbgeibhaiheaa
