/- FdsKnown's walk: it answers true; no condition. -/
import Derived.Test.YtbchbappdpbkiaaFdcI
import Derived.Test.YtbchbappdpbkiaaFdAw
namespace Go.Proofs.Ytbchbappdpbkiaa
open Go.RowKit Go.Maps
theorem tpI_below {w W W' : World} {g le : Nat} {v : Value} {m : Int} {R : List (Option Int)} {l : List Part} (h : Sep w W (tpI g v le m R :: l)) (hb : Below W.heap.size W W') : TabI W' g v le m R := (h.later hb).head
set_option maxRecDepth 20000 in
set_option maxHeartbeats 4000000 in
theorem known_walk (w : World) : Calls Try.prog 6 #[] w fun e w' => e = .returned (.bool true) ∧ Below w.heap.size w w' := by
  go_enter Try.func6, Try.ntmps6
  go_wp2_with (first | (go_at_call 7; fail))
  refine (sep_newI (Sep.nil (Below.refl _ _)) 0 (by omega)).mono ?_
  rintro e W0 ⟨ga, rfl, h0⟩
  rw [show max (0 : Int) 0 = 0 by decide] at h0
  have H0 : Hid (Sep w W0 (tpI ga (.slice none 0 0) 0 0 [] :: [])) := h0
  clear h0
  go_wp2_with (first | (go_at_call 7; fail))
  refine (sep_newI H0.out (-5) (by omega)).mono ?_
  rintro e W1 ⟨gb, rfl, h1⟩
  rw [show max (-5 : Int) 0 = 0 by decide] at h1
  have H1 : Hid (Sep w W1 (tpI gb (.slice none 0 0) 0 0 [] :: tpI ga (.slice none 0 0) 0 0 [] :: [])) := h1
  clear h1 H0
  go_wp2_with (first | (go_at_call 7; fail))
  refine (sep_newI H1.out 9223372036854775807 (by omega)).mono ?_
  rintro e W2 ⟨gc, rfl, h2⟩
  rw [show max (9223372036854775807 : Int) 0 = 9223372036854775807 by decide] at h2
  have H2 : Hid (Sep w W2 (tpI ga (.slice none 0 0) 0 0 [] :: tpI gc (.slice none 0 0) 0 9223372036854775807 [] :: tpI gb (.slice none 0 0) 0 0 [] :: [])) := h2.third
  clear h2 H1
  go_wp2_with (first | (go_at_call 25; fail))
  refine (sep_openI H2.out (by simp) 1).mono ?_
  rw [show openN ([] : List (Option Int)) 0 = 0 from rfl, show openE ([] : List (Option Int)) 0 = 14 from rfl, show openT ([] : List (Option Int)) 0 1 = [] from rfl]
  rintro e W3 ⟨rfl, va, la, h3⟩
  have H3 : Hid (Sep w W3 (tpI gb (.slice none 0 0) 0 0 [] :: tpI ga va la 0 [] :: tpI gc (.slice none 0 0) 0 9223372036854775807 [] :: [])) := h3.third
  clear h3 H2
  go_wp2_with (first | (go_at_call 25; fail))
  refine (sep_openI H3.out (by simp) 1).mono ?_
  rw [show openN ([] : List (Option Int)) 0 = 0 from rfl, show openE ([] : List (Option Int)) 0 = 14 from rfl, show openT ([] : List (Option Int)) 0 1 = [] from rfl]
  rintro e W4 ⟨rfl, vb, lb, h4⟩
  have H4 : Hid (Sep w W4 (tpI gc (.slice none 0 0) 0 9223372036854775807 [] :: tpI gb vb lb 0 [] :: tpI ga va la 0 [] :: [])) := h4.third
  clear h4 H3
  go_wp2_with (first | (go_at_call 25; fail))
  refine (sep_openI H4.out (by simp) 7).mono ?_
  rw [show openN ([] : List (Option Int)) 9223372036854775807 = 0 from rfl, show openE ([] : List (Option Int)) 9223372036854775807 = 0 from rfl, show openT ([] : List (Option Int)) 9223372036854775807 7 = [some 7] from rfl]
  rintro e W5 ⟨rfl, vc, lc, h5⟩
  have H5 : Hid (Sep w W5 (tpI gc vc lc 9223372036854775807 [some 7] :: tpI gb vb lb 0 [] :: tpI ga va la 0 [] :: [])) := h5
  have g1 := get_okI h5.head 0
  have g2 := get_okI h5.head (-1)
  have g3 := get_okI h5.head 4611686018427387904
  rw [show getO ([some 7] : List (Option Int)) 0 = some 7 from rfl, show refV ([some 7] : List (Option Int)) 0 = 0 from rfl] at g1
  rw [show getO ([some 7] : List (Option Int)) (-1) = none from rfl, show refV ([some 7] : List (Option Int)) (-1) = 13 from rfl] at g2
  have gt : getO ([some 7] : List (Option Int)) 4611686018427387904 = none := by
    unfold getO atR
    rw [if_pos (by omega), List.getElem?_eq_none (by simp)]
    rfl
  have gr : refV ([some 7] : List (Option Int)) 4611686018427387904 = 13 := by
    unfold refV atR
    rw [if_neg]
    rintro ⟨_, q⟩
    rw [List.getElem?_eq_none (by simp)] at q
    cases q
  rw [gt, gr] at g3
  have ha := fawake_ok W5
  unfold thI at g1 g2 g3
  clear h5 H4 gt gr
  go_wp2_with (first | (go_at_call 26; fail))
  refine g1.mono ?_
  rintro e V1 ⟨rfl, q⟩
  subst q
  go_wp2_with (first | (go_at_call 26; fail))
  refine g2.mono ?_
  rintro e V2 ⟨rfl, q⟩
  subst q
  go_wp2_with (first | (go_at_call 26; fail))
  refine g3.mono ?_
  rintro e V3 ⟨rfl, q⟩
  subst q
  go_wp2_with (first | (go_at_call 14; fail))
  refine ha.mono ?_
  rintro e W6 ⟨rfl, hb⟩
  have H6 : Hid (Sep w W6 (tpI ga va la 0 [] :: tpI gc vc lc 9223372036854775807 [some 7] :: tpI gb vb lb 0 [] :: [])) := (H5.out.later hb).third
  clear H5 hb ha g1 g2 g3
  have hf := sep_fullI H6.out
  rw [show decide (((cnt ([] : List (Option Int)) : Nat) : Int) = 0) = true from rfl] at hf
  go_wp2_with (first | (go_at_call 27; fail))
  refine hf.mono ?_
  rintro e W7 ⟨rfl, h7⟩
  have H7 : Hid (Sep w W7 (tpI gb vb lb 0 [] :: tpI ga va la 0 [] :: tpI gc vc lc 9223372036854775807 [some 7] :: [])) := h7.third
  clear H6 h7 hf
  have hf := sep_fullI H7.out
  rw [show decide (((cnt ([] : List (Option Int)) : Nat) : Int) = 0) = true from rfl] at hf
  go_wp2_with (first | (go_at_call 27; fail))
  refine hf.mono ?_
  rintro e W8 ⟨rfl, h8⟩
  have hl := len_okI h8.head
  rw [show ((cnt ([] : List (Option Int)) : Nat) : Int) = 0 from rfl] at hl
  have H8 : Hid (Sep w W8 (tpI gc vc lc 9223372036854775807 [some 7] :: tpI gb vb lb 0 [] :: tpI ga va la 0 [] :: [])) := h8.third
  clear H7 h8 hf
  go_wp2_with (first | (go_at_call 28; fail))
  refine hl.mono ?_
  rintro e W9 ⟨rfl, q⟩
  subst q
  have hf := sep_fullI H8.out
  rw [show decide (((cnt ([some 7] : List (Option Int)) : Nat) : Int) = 9223372036854775807) = false from rfl] at hf
  clear hl
  go_wp2_with (first | (go_at_call 27; fail))
  refine hf.mono ?_
  rintro e W10 ⟨rfl, h10⟩
  have H10 : Hid (Below w.heap.size w W10) := h10.below
  clear h10 H8 hf
  go_wp2
  go_ret
  exact ⟨rfl, H10.out⟩
end Go.Proofs.Ytbchbappdpbkiaa
