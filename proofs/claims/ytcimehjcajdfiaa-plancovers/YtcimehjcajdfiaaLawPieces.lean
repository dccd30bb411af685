/- PlanPieces answers true, of any place and number; no condition. -/
import Derived.Test.YtcimehjcajdfiaaApart
namespace Go.Proofs.Ytcimehjcajdfiaa
open Go.RowKit Go.Maps
theorem pcs_len (e : Int) : ∀ (n : Nat) (a : Int), (e - a).toNat = n → a < e → ((pcs a e).length : Int) ≤ e / 8192 - a / 8192 + 1 := fun n => by
  induction n using Nat.strongRecOn with
  | _ n ih =>
    intro a hn h
    rw [pcs_step h, List.length_cons]
    by_cases h2 : nxt a e < e
    · have h1 := nxt_gt h
      have := ih (e - nxt a e).toNat (by omega) (nxt a e) rfl h2
      have e2 : nxt a e / 8192 = a / 8192 + 1 := by
        have : nxt a e = (a / 8192 + 1) * 8192 := by
          unfold nxt at h2 ⊢
          split at h2
          · omega
          · rename_i q
            rw [if_neg q]
        omega
      omega
    · rw [pcs_end h2, List.length_nil]
      omega
theorem plist_len (a n : Int) : (plist a n).length ≤ 100000 := by
  unfold plist
  split
  · simp
  · have := pcs_len (a + n) _ a rfl (by omega)
    omega
set_option maxHeartbeats 1000000 in
theorem law_pieces (a n : Int) (ha : I64 a) (hn : I64 n) (w : World) : Calls Try.prog 3 #[.int .i64 a, .int .i64 n] w fun e w' => e = .returned (.bool true) ∧ Below w.heap.size w w' := by
  have hl := plist_len a n
  have h1 := refPieces_any a n ha hn
  have h2 := pieces_any a n ha hn
  generalize plist a n = l at *
  go_enter Try.func3, Try.ntmps3
  go_wp2_with (first | (go_at_call 9; fail))
  refine (h1 _).mono ?_
  rintro e W1 ⟨v1, rfl, o1, b1⟩
  go_wp2_with (first | (go_at_call 10; fail))
  refine (h2 _).mono ?_
  rintro e W2 ⟨v2, rfl, o2, b2⟩
  go_wp2_with (first | (go_at_call 10; fail))
  refine (h2 _).mono ?_
  rintro e W3 ⟨v3, rfl, o3, b3⟩
  have hs1 := b1.size
  have hs2 := b2.size
  have hs3 := b3.size
  have o1' : OwnP W3 w.heap.size v1 l := own_later o1 (b2.trans (b3.mono hs2))
  have o2' : OwnP W3 w.heap.size v2 l := World.ownsRow.mono (own_later o2 b3) hs1
  have o3' : OwnP W3 w.heap.size v3 l := World.ownsRow.mono o3 (Nat.le_trans hs1 hs2)
  have HNE : Hid (∀ b, v2.ownBlock = some b → v3.ownBlock ≠ some b) := fun b q r => by
    have q1 := (World.ownsRow.lt o2 b q).2
    have q2 := (World.ownsRow.lt o3 b r).1
    omega
  obtain ⟨p1, c1, rfl, a1, _⟩ := o1'.at
  obtain ⟨p2, c2, rfl, a2, _⟩ := o2'.at
  obtain ⟨p3, c3, rfl, a3, _⟩ := o3'.at
  have HB : Hid (Below w.heap.size w W3) := below_next b1 (below_next b2 b3)
  have HS1 : Hid (∀ W, Below W3.heap.size W3 W → Calls Try.prog 11 #[.slice p2 l.length c2, .slice p1 l.length c1] W fun e w' => e = .returned (.bool true) ∧ Below W.heap.size W w') := fun W hW => same_self l p2 p1 c2 c1 W (by omega) (a2.later hW) (a1.later hW)
  have HS2 : Hid (∀ W, Below W3.heap.size W3 W → Calls Try.prog 11 #[.slice p3 l.length c3, .slice p1 l.length c1] W fun e w' => e = .returned (.bool true) ∧ Below W.heap.size W w') := fun W hW => same_self l p3 p1 c3 c1 W (by omega) (a3.later hW) (a1.later hW)
  have HS3 : Hid (∀ W, Below W3.heap.size W3 W → Calls Try.prog 12 #[.slice p2 l.length c2, .slice p3 l.length c3] W fun e w' => e = .returned (.bool true) ∧ Below w.heap.size W w') := fun W hW => apart_any l l p2 p3 c2 c3 w.heap.size W hl hl (by have := hW.size; omega) (own_later o2' hW) (own_later o3' hW) HNE.out
  clear o1 o2 o3 o1' o2' o3' a1 a2 a3 HNE h1 h2 b1 b2 b3 hs1 hs2 hs3
  generalize l.length = k at *
  go_wp2_with (first | (go_at_call 11; fail))
  refine (HS1.out _ (Below.refl _ _)).mono ?_
  rintro e W4 ⟨rfl, b4⟩
  go_wp2_with (first | (go_at_call 11; fail))
  refine (HS2.out _ b4).mono ?_
  rintro e W5 ⟨rfl, b5⟩
  go_wp2_with (first | (go_at_call 12; fail))
  refine (HS3.out _ (below_next b4 b5)).mono ?_
  rintro e W6 ⟨rfl, b6⟩
  go_wp2
  go_ret
  exact ⟨rfl, (below_next HB.out (below_next b4 b5)).trans b6⟩
end Go.Proofs.Ytcimehjcajdfiaa
