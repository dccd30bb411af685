/- slices.Equal of blocks with their numbers; no condition but that lists are not longer than lists can be. -/
import Derived.Test.YtichojdcoegboaaGreatK6
namespace Go.Proofs.YtichojdcoegboaaGreatW
open Go.RowKit Go.Maps
set_option maxRecDepth 20000 in
set_option maxHeartbeats 1000000 in
theorem sameHelds_any (s t : List Cel) (p q : Option Addr) (cp cq : Nat) (w : World) (hls : s.length < 9223372036854775807) (_hlt : t.length < 9223372036854775807) (hs : ImgAt w p s) (ht : ImgAt w q t) :
  Calls Tryz.prog 66 #[.slice p s.length cp, .slice q t.length cq] w fun e w' => e = .returned (.bool (celsB s t)) ∧ Below w.heap.size w w' := by
 by_cases hl : s.length = t.length
 ·have HS : Hid (ImgAt w p s) := hs
  have HT : Hid (ImgAt w q t) := ht
  have HR : Hid (celsB s t = celsB (s.drop 0) (t.drop 0)) := rfl
  generalize celsB s t = res at *
  obtain ⟨n, hn⟩ : ∃ n, s.length = n := ⟨_, rfl⟩
  have hn2 : t.length = n := by omega
  rw [hn, hn2]
  rw [hn] at hls
  have HL : Hid (s.length = n ∧ t.length = n) := ⟨hn, hn2⟩
  clear hs ht hl hn hn2
  go_enter Tryz.func66, Tryz.ntmps66
  go_wp2
  go_loopw [5] (fun s5 wx => ∃ k : Nat, k ≤ n ∧ s5 = .int .i64 k ∧ Hid (Below w.heap.size w wx) ∧ Hid (res = celsB (s.drop k) (t.drop k))) (fun s5 _ => n - (intOf s5).toNat)
  case atStart => exact ⟨0, by omega, rfl, Below.refl _ _, HR.out⟩
  case round =>
   obtain ⟨k, hk, rfl, HB, HR2⟩ := hrel
   clear HR
   by_cases hk2 : (k : Int) < n
   ·obtain ⟨hn, hn2⟩ := HL.out
    have hc : s[k]? = some s[k] := List.getElem?_eq_getElem (by omega)
    have hd : t[k]? = some t[k] := List.getElem?_eq_getElem (by omega)
    have hcd : s.drop k = s[k] :: s.drop (k + 1) := List.drop_eq_getElem_cons (by omega)
    have hdd : t.drop k = t[k] :: t.drop (k + 1) := List.drop_eq_getElem_cons (by omega)
    obtain ⟨b1, o1, rfl, l1, C1⟩ := HS.out (by omega)
    obtain ⟨b2, o2, rfl, l2, C2⟩ := HT.out (by omega)
    generalize s[k] = c at hc hcd
    generalize t[k] = d at hd hdd
    have q1 : CelAt wr b1 (o1 + k * 1025) c := (C1.later HB.out l1) k c hc
    have q2 : CelAt wr b2 (o2 + k * 1025) d := (C2.later HB.out l2) k d hd
    have hR := HR2.out
    rw [hcd, hdd] at hR
    unfold celsB at hR
    clear HR2 C1 C2 hcd hdd hc hd hn hn2
    cases hb : celB c d
    ·have hr0 : res = false := by rw [hR, hb]; rfl
     clear hR
     subst hr0
     go_wp2
     refine wp_region_still_lit (by kernel_rfl) (by kernel_rfl) ?_
     repeat still_step
     refine wpStill_load85 rfl (.tmp 19) rfl b1 (o1 + k * 1025) rfl c q1 ?_
     repeat still_step
     refine wpStill_load85 rfl (.tmp 23) rfl b2 (o2 + k * 1025) rfl d q2 ?_
     repeat still_step
     refine wpStill_neq85 rfl (.tmp 20) (.tmp 24) rfl c d false rfl rfl hb ?_
     simp only [Act.put, List.setIfInBounds_toArray, List.set_cons_succ, List.set_cons_zero, Bool.not_false]
     refine wpStill_nil ?_
     go_wp2
     go_ret
     exact ⟨rfl, HB.out.drew⟩
    ·have HR3 : Hid (res = celsB (s.drop (k + 1)) (t.drop (k + 1))) := by
      have e : res = celsB (s.drop (k + 1)) (t.drop (k + 1)) := by rw [hR, hb]; rfl
      exact e
     clear hR
     go_wp2
     refine wp_region_still_lit (by kernel_rfl) (by kernel_rfl) ?_
     repeat still_step
     refine wpStill_load85 rfl (.tmp 19) rfl b1 (o1 + k * 1025) rfl c q1 ?_
     repeat still_step
     refine wpStill_load85 rfl (.tmp 23) rfl b2 (o2 + k * 1025) rfl d q2 ?_
     repeat still_step
     refine wpStill_neq85 rfl (.tmp 20) (.tmp 24) rfl c d true rfl rfl hb ?_
     simp only [Act.put, List.setIfInBounds_toArray, List.set_cons_succ, List.set_cons_zero, Bool.not_true]
     refine wpStill_nil ?_
     go_wp2
     exact ⟨⟨k + 1, by omega, by go_num, HB.out.drew, HR3.out⟩, by simp [intOf]; omega⟩
   ·obtain rfl : k = n := by omega
    have hr0 : res = true := by
     obtain ⟨hn, hn2⟩ := HL.out
     rw [HR2.out, List.drop_of_length_le (by omega), List.drop_of_length_le (by omega)]
     rfl
    subst hr0
    go_wp2
    go_ret
    exact ⟨rfl, HB.out⟩
 ·have e : celsB s t = false := by
   cases h : celsB s t
   ·rfl
   ·exact absurd (celsB_len h) hl
  rw [e]
  have hlI : ¬ ((s.length : Int) = t.length) := by omega
  clear e hs ht
  go_enter Tryz.func66, Tryz.ntmps66
  go_wp2
  go_ret
  exact ⟨rfl, Below.refl _ _⟩
end Go.Proofs.YtichojdcoegboaaGreatW
