/- The law's own look at the chapter's examples: it answers true; no condition. -/
import Derived.Test.YtpghalekcgnefaaDk3
namespace Go.Proofs.Ytpghalekcgnefaa
open Go.RowKit Go.Maps
theorem dlives_ok (w : World) : Calls Try.prog 10 #[] w fun e w' => e = .returned (.bool true) ∧ Below w.heap.size w w' := by
  have d0 : Dok 2 [] 0 := Dok.start (by omega) (by omega) 0
  have d1 : Dok 2 [(5, 1)] 1 := by have := d0.hold (k := 5) (by omega); rwa [show holdL 2 [] 5 = [(5, 1)] by decide] at this
  have d2 : Dok 2 [(5, 2)] 2 := by have := d1.hold (k := 5) (by omega); rwa [show holdL 2 [(5, 1)] 5 = [(5, 2)] by decide] at this
  have d3 : Dok 2 [(5, 2), (7, 1)] 3 := by have := d2.hold (k := 7) (by omega); rwa [show holdL 2 [(5, 2)] 7 = [(5, 2), (7, 1)] by decide] at this
  have d4 : Dok 2 [(5, 2), (7, 1)] 4 := by have := d3.hold (k := 9) (by omega); rwa [show holdL 2 [(5, 2), (7, 1)] 9 = [(5, 2), (7, 1)] by decide] at this
  have d5 : Dok 2 [(5, 1), (7, 1)] 4 := by have := d4.drop 5; rwa [show dropL [(5, 2), (7, 1)] 5 = [(5, 1), (7, 1)] by decide] at this
  have d6 : Dok 2 [(7, 1)] 4 := by have := d5.drop 5; rwa [show dropL [(5, 1), (7, 1)] 5 = [(7, 1)] by decide] at this
  have d7 : Dok 2 [(7, 1), (9, 1)] 5 := by have := d6.hold (k := 9) (by omega); rwa [show holdL 2 [(7, 1)] 9 = [(7, 1), (9, 1)] by decide] at this
  go_enter Try.func10, Try.ntmps10
  go_wp2_with (first | (go_at_call 7; fail))
  refine ((Sep.nil (Below.refl _ _)).new 2).mono ?_
  rintro e W0 ⟨g, b, rfl, h0⟩
  rw [show max (2 : Int) 0 = 2 by decide] at h0
  have H0 : Hid (Sep w W0 (dkP g b 2 [] :: [])) := h0
  clear h0
  go_wp2_with (first | (go_at_call 13; fail))
  refine (H0.out.hold d0 (by omega) 5 (by decide)).mono ?_
  rw [show holdE 2 [] 5 = 0 by decide, show holdL 2 [] 5 = [(5, 1)] by decide]
  rintro e W1 ⟨rfl, h1⟩
  have H1 : Hid (Sep w W1 (dkP g b 2 [(5, 1)] :: [])) := h1
  clear h1
  go_wp2_with (first | (go_at_call 13; fail))
  refine (H1.out.hold d1 (by omega) 5 (by decide)).mono ?_
  rw [show holdE 2 [(5, 1)] 5 = 0 by decide, show holdL 2 [(5, 1)] 5 = [(5, 2)] by decide]
  rintro e W2 ⟨rfl, h2⟩
  have H2 : Hid (Sep w W2 (dkP g b 2 [(5, 2)] :: [])) := h2
  clear h2
  go_wp2_with (first | (go_at_call 13; fail))
  refine (H2.out.hold d2 (by omega) 7 (by decide)).mono ?_
  rw [show holdE 2 [(5, 2)] 7 = 0 by decide, show holdL 2 [(5, 2)] 7 = [(5, 2), (7, 1)] by decide]
  rintro e W3 ⟨rfl, h3⟩
  have H3 : Hid (Sep w W3 (dkP g b 2 [(5, 2), (7, 1)] :: [])) := h3
  clear h3
  go_wp2_with (first | (go_at_call 13; fail))
  refine (H3.out.hold d3 (by omega) 9 (by decide)).mono ?_
  rw [show holdE 2 [(5, 2), (7, 1)] 9 = 15 by decide, show holdL 2 [(5, 2), (7, 1)] 9 = [(5, 2), (7, 1)] by decide]
  rintro e W4 ⟨rfl, h4⟩
  have H4 : Hid (Sep w W4 (dkP g b 2 [(5, 2), (7, 1)] :: [])) := h4
  clear h4
  go_wp2_with (first | (go_at_call 15; fail))
  refine (H4.out.dropD d4 (by omega) 5 (by decide)).mono ?_
  rw [show dropB [(5, 2), (7, 1)] 5 = false by decide, show dropE [(5, 2), (7, 1)] 5 = 0 by decide, show dropL [(5, 2), (7, 1)] 5 = [(5, 1), (7, 1)] by decide]
  rintro e W5 ⟨rfl, h5⟩
  have H5 : Hid (Sep w W5 (dkP g b 2 [(5, 1), (7, 1)] :: [])) := h5
  clear h5
  go_wp2_with (first | (go_at_call 15; fail))
  refine (H5.out.dropD d5 (by omega) 5 (by decide)).mono ?_
  rw [show dropB [(5, 1), (7, 1)] 5 = true by decide, show dropE [(5, 1), (7, 1)] 5 = 0 by decide, show dropL [(5, 1), (7, 1)] 5 = [(7, 1)] by decide]
  rintro e W6 ⟨rfl, h6⟩
  have H6 : Hid (Sep w W6 (dkP g b 2 [(7, 1)] :: [])) := h6
  clear h6
  go_wp2_with (first | (go_at_call 13; fail))
  refine (H6.out.hold d6 (by omega) 9 (by decide)).mono ?_
  rw [show holdE 2 [(7, 1)] 9 = 0 by decide, show holdL 2 [(7, 1)] 9 = [(7, 1), (9, 1)] by decide]
  rintro e W7 ⟨rfl, h7⟩
  have H7 : Hid (Sep w W7 (dkP g b 2 [(7, 1), (9, 1)] :: [])) := h7
  clear h7
  go_wp2_with (first | (go_at_call 16; fail))
  refine (holds_ok H7.out.desk 7 (by decide)).mono ?_
  rw [show (getH [(7, 1), (9, 1)] 7).getD 0 = 1 by decide]
  rintro e V7 ⟨rfl, q7⟩
  obtain rfl := q7.symm
  have h7 := H7.out
  clear H7
  have H7 : Hid (Sep w W7 (dkP g b 2 [(7, 1), (9, 1)] :: [])) := h7
  clear h7
  go_wp2_with (first | (go_at_call 17; fail))
  refine (len_ok H7.out.desk).mono ?_
  rw [show ((List.length ([(7, 1), (9, 1)] : List (Int × Int)) : Nat) : Int) = 2 from rfl]
  rintro e V7 ⟨rfl, q7⟩
  obtain rfl := q7.symm
  have h7 := H7.out
  clear H7
  have H7 : Hid (Sep w W7 (dkP g b 2 [(7, 1), (9, 1)] :: [])) := h7
  clear h7
  go_wp2
  go_ret
  exact ⟨rfl, H7.out.below⟩
end Go.Proofs.Ytpghalekcgnefaa
