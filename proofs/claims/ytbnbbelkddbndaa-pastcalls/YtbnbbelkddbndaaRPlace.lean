/- The document's place and may: where a number stands in a list, whether ops may be of an image; no condition but a bound on the lists' lengths that no list of this program passes. -/
import Derived.Test.YtbnbbelkddbndaaCutMath
import Derived.Test.YtbnbbelkddbndaaRPend
namespace Go.Proofs.Ytbnbbelkddbndaa
open Go.RowKit Go.Maps
/-- Where a number stands, counted from j on; -1, if nowhere. -/
def placeI : List Int → Int → Nat → Int
  | [], _, _ => -1
  | c :: t, x, j => if c = x then (j : Int) else placeI t x (j + 1)
set_option maxRecDepth 20000 in
set_option maxHeartbeats 1000000 in
theorem place_any (s : List Int) (x : Int) (p : Option Addr) (cp : Nat) (w : World) (hls : s.length < 9223372036854775807) (hs : IntsAt w p s) :
    Calls Try.prog 75 #[.slice p s.length cp, .int .i64 x] w fun e w' => e = .returned (.int .i64 (placeI s x 0)) ∧ Below w.heap.size w w' := by
  have HS : Hid (IntsAt w p s) := hs
  have HR : Hid (placeI s x 0 = placeI (s.drop 0) x 0) := rfl
  generalize placeI s x 0 = res at *
  obtain ⟨n, hn⟩ : ∃ n, s.length = n := ⟨_, rfl⟩
  rw [hn]
  rw [hn] at hls
  have HL : Hid (s.length = n) := hn
  clear hs hn
  go_enter Try.func75, Try.ntmps75
  go_wp2
  go_loopw [5] (fun s3 wx => ∃ k : Nat, k ≤ n ∧ s3 = .int .i64 k ∧ Hid (Below w.heap.size w wx) ∧ Hid (res = placeI (s.drop k) x k)) (fun s3 _ => n - (intOf s3).toNat)
  case atStart => exact ⟨0, by omega, rfl, Below.refl _ _, HR.out⟩
  case round =>
    obtain ⟨k, hk, rfl, HB, HR2⟩ := hrel
    clear HR
    by_cases hk2 : (k : Int) < n
    · have hn := HL.out
      have hc : s[k]? = some s[k] := List.getElem?_eq_getElem (by omega)
      have hcd : s.drop k = s[k] :: s.drop (k + 1) := List.drop_eq_getElem_cons (by omega)
      obtain ⟨b1, o1, rfl, l1, C1⟩ := HS.out (by omega)
      generalize s[k] = c at hc hcd
      have q1 : wr.cell? ⟨b1, o1 + k, none⟩ = some (.int .i64 c) := (HB.out.cell (p := ⟨b1, o1 + k, none⟩) l1).trans (C1 k c hc)
      have hR := HR2.out
      rw [hcd] at hR
      clear HR2 C1 hcd hc hn
      by_cases hcx : c = x
      · subst hcx
        have e : res = (k : Int) := by rw [hR]; simp [placeI]
        subst e
        have g0 : decide (c = c) = true := by simp
        clear hR
        go_wp2
        go_ret
        exact ⟨rfl, HB.out⟩
      · have HR3 : Hid (res = placeI (s.drop (k + 1)) x (k + 1)) := by
          have e : res = placeI (s.drop (k + 1)) x (k + 1) := by rw [hR]; simp [placeI, hcx]
          exact e
        have g0 : decide (c = x) = false := decide_eq_false hcx
        clear hR
        go_wp2
        exact ⟨⟨k + 1, by omega, by go_num, HB.out, HR3.out⟩, by simp [intOf]; omega⟩
    · obtain rfl : k = n := by omega
      have e : res = -1 := by rw [HR2.out, List.drop_of_length_le (by have := HL.out; omega)]; rfl
      subst e
      clear HR2
      go_wp2
      go_ret
      exact ⟨rfl, HB.out⟩
end Go.Proofs.Ytbnbbelkddbndaa
