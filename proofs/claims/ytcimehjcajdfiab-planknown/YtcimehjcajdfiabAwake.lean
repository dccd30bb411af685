/- The document's examples, as the law's own look at them: true; no condition. -/
import Derived.Test.YtcimehjcajdfiabTotal
import Derived.Test.YtcimehjcajdfiabSame
namespace Go.Proofs.Ytcimehjcajdfiab
open Go.RowKit Go.Maps
theorem plist_ex : plist 8191 2 = [(8191, 1), (8192, 1)] := by
  have h1 : nxt 8191 8193 = 8192 := by decide
  have h2 : nxt 8192 8193 = 8193 := by decide
  unfold plist
  rw [if_neg (by omega), show (8191 + 2 : Int) = 8193 by omega, pcs_step (by omega), h1, pcs_step (by omega), h2, pcs_end (by omega)]
  rfl
theorem total_ex : Maps.size (Sd (keysL [521, 522])) = 5 := by kernel_rfl
set_option maxHeartbeats 1000000 in
theorem awake_any (w : World) : Calls Try.prog 9 #[] w fun e w' => e = .returned (.bool true) ∧ Below w.heap.size w w' := by
  have hp := pieces_any 8191 2 (by unfold I64; omega) (by unfold I64; omega) w
  rw [plist_ex] at hp
  have hb := blocks_any 1025 (by unfold I64; omega)
  have hg := group_any 8 (by unfold I64; omega)
  rw [show blocksN 1025 = 2 by decide] at hb
  rw [show groupN 8 = 1 by decide] at hg
  have hw := way_any 265
  have he := way_single (i := 265) (by omega) (by omega)
  unfold wayA way3 at hw
  rw [he.1, he.2.1, he.2.2] at hw
  have ht : ∀ W s, W.heap.size = s → Calls Try.prog 8 #[.slice (some ⟨s, 0, none⟩) 2 2] (W.alloc (.cells #[.int .i64 521, .int .i64 522] 3)) fun e' w' => e' = .returned (.int .i64 5) ∧ Below W.heap.size W w' := fun W s hs => by
    subst hs
    have := total_any [521, 522] (some ⟨W.heap.size, 0, none⟩) 2 (W.alloc (.cells #[.int .i64 521, .int .i64 522] 3)) (by simp) (ints_new W [521, 522])
    rw [total_ex] at this
    exact this.mono fun e w' ⟨h1, h2⟩ => ⟨h1, below_next (below_new _ _) h2⟩
  clear he
  go_enter Try.func9, Try.ntmps9
  go_wp2_with (first | (go_at_call 4; fail))
  refine hp.mono ?_
  rintro e W1 ⟨v, rfl, ho, hb1⟩
  obtain ⟨p, c, rfl, hat, _⟩ := ho.at
  obtain ⟨g, rfl, hlt, hc⟩ := hat (by simp)
  obtain ⟨c0, c1⟩ := hc 0 _ rfl
  obtain ⟨c2, c3⟩ := hc 1 _ rfl
  clear hc hat ho hp
  go_wp2_with (first
    | (go_at_call 5; refine (hb _).mono ?_; rintro e W ⟨rfl, rfl⟩)
    | (go_at_call 6; refine (hg _).mono ?_; rintro e W ⟨rfl, rfl⟩)
    | (go_at_call 7; fail))
  refine (hw _).mono ?_
  rintro e W2 ⟨rfl, hb2⟩
  clear hw hb hg c0 c1 c2 c3
  go_wp2_with (first | (go_at_call 8; fail))
  refine (ht _ _ rfl).mono ?_
  rintro e W3 ⟨rfl, hb3⟩
  go_wp2
  go_ret
  exact ⟨rfl, below_next hb1 (below_next hb2 hb3)⟩
end Go.Proofs.Ytcimehjcajdfiab
