/- The law's own look at the chapter's examples: it answers true; no condition. -/
import Derived.Test.YtbchbappdpbkiaaFdcT
namespace Go.Proofs.Ytbchbappdpbkiaa
open Go.RowKit Go.Maps
set_option maxRecDepth 20000 in
theorem fawake_ok (w : World) : Calls Try.prog 14 #[] w fun e w' => e = .returned (.bool true) ∧ Below w.heap.size w w' := by
  go_enter Try.func14, Try.ntmps14
  go_wp2_with (first | (go_at_call 8; fail))
  refine (sep_newT (Sep.nil (Below.refl _ _)) 3 (by omega)).mono ?_
  rintro e W0 ⟨g, rfl, h0⟩
  rw [show max (3 : Int) 0 = 3 by decide] at h0
  have H0 : Hid (Sep w W0 (tpT g (.slice none 0 0) 0 3 [] :: [])) := h0
  clear h0
  go_wp2_with (first | (go_at_call 40; fail))
  refine (sep_openT H0.out (by simp) (⟨#[97]⟩ : ByteArray)).mono ?_
  rw [show openN ([] : List (Option ByteArray)) 3 = 0 from rfl, show openE ([] : List (Option ByteArray)) 3 = 0 from rfl, show openT ([] : List (Option ByteArray)) 3 (⟨#[97]⟩ : ByteArray) = [some (⟨#[97]⟩ : ByteArray)] from rfl]
  rintro e W1 ⟨rfl, v1, le1, h1⟩
  have H1 : Hid (Sep w W1 (tpT g v1 le1 3 [some (⟨#[97]⟩ : ByteArray)] :: [])) := h1
  clear h1 H0
  go_wp2_with (first | (go_at_call 40; fail))
  refine (sep_openT H1.out (by simp) (⟨#[98]⟩ : ByteArray)).mono ?_
  rw [show openN ([some (⟨#[97]⟩ : ByteArray)] : List (Option ByteArray)) 3 = 1 from rfl, show openE ([some (⟨#[97]⟩ : ByteArray)] : List (Option ByteArray)) 3 = 0 from rfl, show openT ([some (⟨#[97]⟩ : ByteArray)] : List (Option ByteArray)) 3 (⟨#[98]⟩ : ByteArray) = [some (⟨#[97]⟩ : ByteArray), some (⟨#[98]⟩ : ByteArray)] from rfl]
  rintro e W2 ⟨rfl, v2, le2, h2⟩
  have H2 : Hid (Sep w W2 (tpT g v2 le2 3 [some (⟨#[97]⟩ : ByteArray), some (⟨#[98]⟩ : ByteArray)] :: [])) := h2
  clear h2 H1
  go_wp2_with (first | (go_at_call 40; fail))
  refine (sep_openT H2.out (by simp) (⟨#[99]⟩ : ByteArray)).mono ?_
  rw [show openN ([some (⟨#[97]⟩ : ByteArray), some (⟨#[98]⟩ : ByteArray)] : List (Option ByteArray)) 3 = 2 from rfl, show openE ([some (⟨#[97]⟩ : ByteArray), some (⟨#[98]⟩ : ByteArray)] : List (Option ByteArray)) 3 = 0 from rfl, show openT ([some (⟨#[97]⟩ : ByteArray), some (⟨#[98]⟩ : ByteArray)] : List (Option ByteArray)) 3 (⟨#[99]⟩ : ByteArray) = [some (⟨#[97]⟩ : ByteArray), some (⟨#[98]⟩ : ByteArray), some (⟨#[99]⟩ : ByteArray)] from rfl]
  rintro e W3 ⟨rfl, v3, le3, h3⟩
  have H3 : Hid (Sep w W3 (tpT g v3 le3 3 [some (⟨#[97]⟩ : ByteArray), some (⟨#[98]⟩ : ByteArray), some (⟨#[99]⟩ : ByteArray)] :: [])) := h3
  clear h3 H2
  go_wp2_with (first | (go_at_call 40; fail))
  refine (sep_openT H3.out (by simp) (⟨#[100]⟩ : ByteArray)).mono ?_
  rw [show openN ([some (⟨#[97]⟩ : ByteArray), some (⟨#[98]⟩ : ByteArray), some (⟨#[99]⟩ : ByteArray)] : List (Option ByteArray)) 3 = 0 from rfl, show openE ([some (⟨#[97]⟩ : ByteArray), some (⟨#[98]⟩ : ByteArray), some (⟨#[99]⟩ : ByteArray)] : List (Option ByteArray)) 3 = 14 from rfl, show openT ([some (⟨#[97]⟩ : ByteArray), some (⟨#[98]⟩ : ByteArray), some (⟨#[99]⟩ : ByteArray)] : List (Option ByteArray)) 3 (⟨#[100]⟩ : ByteArray) = [some (⟨#[97]⟩ : ByteArray), some (⟨#[98]⟩ : ByteArray), some (⟨#[99]⟩ : ByteArray)] from rfl]
  rintro e W4 ⟨rfl, v4, le4, h4⟩
  have H4 : Hid (Sep w W4 (tpT g v4 le4 3 [some (⟨#[97]⟩ : ByteArray), some (⟨#[98]⟩ : ByteArray), some (⟨#[99]⟩ : ByteArray)] :: [])) := h4
  clear h4 H3
  go_wp2_with (first | (go_at_call 44; fail))
  refine (sep_closeT H4.out (by simp) 1).mono ?_
  rw [show getO ([some (⟨#[97]⟩ : ByteArray), some (⟨#[98]⟩ : ByteArray), some (⟨#[99]⟩ : ByteArray)] : List (Option ByteArray)) 1 = some (⟨#[98]⟩ : ByteArray) from rfl, show refV ([some (⟨#[97]⟩ : ByteArray), some (⟨#[98]⟩ : ByteArray), some (⟨#[99]⟩ : ByteArray)] : List (Option ByteArray)) 1 = 0 from rfl, show closeR ([some (⟨#[97]⟩ : ByteArray), some (⟨#[98]⟩ : ByteArray), some (⟨#[99]⟩ : ByteArray)] : List (Option ByteArray)) 1 = [some (⟨#[97]⟩ : ByteArray), none, some (⟨#[99]⟩ : ByteArray)] from rfl]
  rintro e W5 ⟨rfl, v5, le5, h5⟩
  have H5 : Hid (Sep w W5 (tpT g v5 le5 3 [some (⟨#[97]⟩ : ByteArray), none, some (⟨#[99]⟩ : ByteArray)] :: [])) := h5
  clear h5 H4
  go_wp2_with (first | (go_at_call 40; fail))
  refine (sep_openT H5.out (by simp) (⟨#[101]⟩ : ByteArray)).mono ?_
  rw [show openN ([some (⟨#[97]⟩ : ByteArray), none, some (⟨#[99]⟩ : ByteArray)] : List (Option ByteArray)) 3 = 1 from rfl, show openE ([some (⟨#[97]⟩ : ByteArray), none, some (⟨#[99]⟩ : ByteArray)] : List (Option ByteArray)) 3 = 0 from rfl, show openT ([some (⟨#[97]⟩ : ByteArray), none, some (⟨#[99]⟩ : ByteArray)] : List (Option ByteArray)) 3 (⟨#[101]⟩ : ByteArray) = [some (⟨#[97]⟩ : ByteArray), some (⟨#[101]⟩ : ByteArray), some (⟨#[99]⟩ : ByteArray)] from rfl]
  rintro e W6 ⟨rfl, v6, le6, h6⟩
  have H6 : Hid (Sep w W6 (tpT g v6 le6 3 [some (⟨#[97]⟩ : ByteArray), some (⟨#[101]⟩ : ByteArray), some (⟨#[99]⟩ : ByteArray)] :: [])) := h6
  clear h6 H5
  have hfu := sep_fullT H6.out
  rw [show decide (((cnt [some (⟨#[97]⟩ : ByteArray), some (⟨#[101]⟩ : ByteArray), some (⟨#[99]⟩ : ByteArray)] : Nat) : Int) = 3) = true from rfl] at hfu
  unfold thT
  go_wp2_with (first | (go_at_call 46; fail))
  refine hfu.mono ?_
  rintro e W7 ⟨rfl, h7⟩
  have H7 : Hid (Sep w W7 (tpT g v6 le6 3 [some (⟨#[97]⟩ : ByteArray), some (⟨#[101]⟩ : ByteArray), some (⟨#[99]⟩ : ByteArray)] :: [])) := h7
  have hle := len_okT h7.head
  rw [show ((cnt [some (⟨#[97]⟩ : ByteArray), some (⟨#[101]⟩ : ByteArray), some (⟨#[99]⟩ : ByteArray)] : Nat) : Int) = 3 from rfl] at hle
  clear h7 H6 hfu
  go_wp2_with (first | (go_at_call 45; refine hle.mono ?_; rintro e V ⟨rfl, rfl⟩))
  go_ret
  exact ⟨rfl, H7.out.below⟩
end Go.Proofs.Ytbchbappdpbkiaa
