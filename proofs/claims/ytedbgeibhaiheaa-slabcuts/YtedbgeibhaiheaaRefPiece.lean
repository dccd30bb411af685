/- The document's own Piece: some bytes of a block, those that are inside, in memory of their own; for every block, place and number. -/
import Derived.Test.YtedbgeibhaiheaaLent
import Derived.Test.YtedbgeibhaiheaaPiece
import Derived.Deep.Onto
namespace Go.Proofs.Ytedbgeibhaiheaa
open Go.RowKit

theorem upd_self (f : Nat → Int) (n : Nat) : upd f n (f n) = f := by
  funext j; unfold upd; split
  · rename_i e; rw [e]
  · rfl

set_option maxRecDepth 20000 in
set_option maxHeartbeats 1000000 in
theorem refPiece_any (f : Nat → Int) (a n : Int) (w : World) (ha : -9223372036854775808 ≤ a ∧ a ≤ 9223372036854775807) (hn : -9223372036854775808 ≤ n ∧ n ≤ 9223372036854775807) :
    Calls Try.prog 18 #[.agg (blk f), .int .i64 a, .int .i64 n] w fun e w' => ∃ v, e = .returned v ∧ Own w' w.heap.size v (insHi a n - insLo a n) (from' f (insLo a n)) ∧ Below w.heap.size w w' := by
  have HI : Hid (∀ j : Nat, j < 1024 → ((insLo a n ≤ j ∧ j < insHi a n) ↔ (a ≤ (j : Int) ∧ (j : Int) - a < n))) := ins_iff a n
  have hle := ins_le a n
  generalize insLo a n = lo at *
  generalize insHi a n = hi at *
  go_enter Try.func18, Try.ntmps18
  go_wp2
  have hW : (w.alloc (.cells (blk f) 25)).heap[w.heap.size]? = some (.cells (blk f) 25) := heap_alloc_new _ _
  have hWb : Below w.heap.size w (w.alloc (.cells (blk f) 25)) := (Below.refl _ _).alloc (Nat.le_refl _) _
  generalize w.alloc (.cells (blk f) 25) = W1 at hW hWb ⊢
  have hlt : w.heap.size < W1.heap.size := (Array.getElem?_eq_some_iff.1 hW).1
  have HW := (show Hid _ from hW)
  have HWB := (show Hid _ from hWb)
  clear hW hWb
  generalize hz : w.heap.size = z at *
  go_loopw [7, 8] (fun s7 s8 wx => ∃ i : Nat, (i : Int) ≤ 1024 ∧ s8 = .int .i64 i ∧ Hid (Own wx W1.heap.size s7 (min i hi - lo) (from' f lo)) ∧ Hid (Below W1.heap.size W1 wx)) (fun _ s8 _ => 1024 - (intOf s8).toNat)
  case atStart => exact ⟨0, by omega, rfl, by rw [show min 0 hi - lo = 0 by omega]; exact Own.nil _ _ _, Below.refl _ _⟩
  case round =>
    obtain ⟨i, hi1, rfl, HO, HB⟩ := hrel
    by_cases hi2 : (i : Int) < 1024
    · have hiff := HI.out i (by omega)
      by_cases hin : a ≤ (i : Int) ∧ (i : Int) - a < n
      · have hin2 := hiff.2 hin
        obtain ⟨h1, h2⟩ := hin
        have hc : wr.cell? ⟨z, i, none⟩ = some (.int .u8 (f i)) := cell_row (f := f) (m := 1024) ((HB.out.block z hlt).trans HW.out) i (by omega)
        have HO2 : Hid (Own wr W1.heap.size u7 (i - lo) (from' f lo)) := by
          have := HO.out
          rwa [show min i hi - lo = i - lo by omega] at this
        have HE : Hid (upd (from' f lo) (i - lo) (f i) = from' f lo) := by
          have e : f i = from' f lo (i - lo) := by unfold from'; rw [show lo + (i - lo) = i by omega]
          show _ = _
          rw [e]
          exact upd_self _ _
        have HN : Hid (min (i + 1) hi - lo = i - lo + 1) := show _ = _ by omega
        clear HO hiff hin2
        go_wp2_with (first | (at_builtin; refine wpList_push5 rfl (.tmp 27) (.tmp 31) rfl W1.heap.size _ (i - lo) (from' f lo) _ rfl rfl HO2.out (by omega) HB.out.size ?_; intro v' w2 hown' _ hb2))
        refine ⟨⟨i + 1, by omega, by go_num, ?_, HB.out.trans hb2⟩, by simp [intOf]; omega⟩
        rw [HE.out] at hown'
        rw [HN.out]
        exact hown'
      · have hout : ¬ (lo ≤ i ∧ i < hi) := fun q => hin (hiff.1 q)
        have HO2 : Hid (Own wr W1.heap.size u7 (min (i + 1) hi - lo) (from' f lo)) := by
          have := HO.out
          rwa [show min i hi - lo = min (i + 1) hi - lo by omega] at this
        clear HO hiff hout
        by_cases h1 : (i : Int) < a
        · clear hin
          go_wp2
          exact ⟨⟨i + 1, by omega, by go_num, HO2.out, HB.out⟩, by simp [intOf]; omega⟩
        · by_cases h2 : (i : Int) - a ≤ 9223372036854775807
          · have h3 : ¬ (i : Int) - a < n := fun q => hin ⟨by omega, q⟩
            clear hin
            go_wp2
            exact ⟨⟨i + 1, by omega, by go_num, HO2.out, HB.out⟩, by simp [intOf]; omega⟩
          · have hwr : wrap64 ((i : Int) - a) < 0 := by unfold wrap64; omega
            clear hin h2
            go_wp2
            exact ⟨⟨i + 1, by omega, by go_num, HO2.out, HB.out⟩, by simp [intOf]; omega⟩
    · have hi3 : i = 1024 := by omega
      have HO2 : Hid (Own wr W1.heap.size u7 (hi - lo) (from' f lo)) := by
        have := HO.out
        rwa [show min i hi - lo = hi - lo by omega] at this
      clear HO
      go_wp2
      go_ret
      refine ⟨_, rfl, World.ownsRow.mono HO2.out (by omega), HWB.out.trans (HB.out.mono (by omega))⟩
end Go.Proofs.Ytedbgeibhaiheaa
