/- RouteNames: the numbers, the examples; no condition. -/
import Derived.Test.YtadljgaadjajdaaRt6
namespace Go.Proofs.Ytadljgaadjajdaa
open Go.RowKit Go.Maps
theorem nms_rep (n : Nat) : nms (List.replicate n 47) = [] := by
  have := nms_strokes [] (List.replicate n 47) fun c hc => (List.mem_replicate.1 hc).2
  rwa [List.append_nil] at this
theorem ok_rep (n : Nat) (h0 : 0 < n) (h : n ≤ 1024) : okL (List.replicate n 47) = true := by
  rw [okL_iff, List.length_replicate]
  refine ⟨by rw [List.getElem?_replicate, if_pos h0], h, fun q => ?_⟩
  have := (List.mem_replicate.1 q).2
  cases this
theorem ok_long {l : List UInt8} (h : 1024 < l.length) : okL l = false := by
  cases e : okL l with
  | false => rfl
  | true => have := ((okL_iff l).1 e).2.1; omega
theorem pr_rep (n : Nat) (h0 : 0 < n) (h : n ≤ 1024) : prE (List.replicate n 47) = 0 ∧ prL (List.replicate n 47) = [] := by
  have e : lnL (nms (List.replicate n 47)) = false := by rw [nms_rep]; rfl
  exact ⟨prE_ok (ok_rep n h0 h) e, by rw [prL_ok (ok_rep n h0 h) e, nms_rep]⟩
theorem pr_rep2 (n : Nat) (h : 1024 < n) : prE (List.replicate n 47) = 4 ∧ prL (List.replicate n 47) = [] := by
  have e : okL (List.replicate n 47) = false := ok_long (by rw [List.length_replicate]; exact h)
  exact ⟨prE_bad e, prL_bad e⟩
set_option maxRecDepth 20000 in
set_option maxHeartbeats 4000000 in
theorem names_walk (w : World) : Calls Try.prog 5 #[] w fun e w' => e = .returned (.bool true) ∧ Below w.heap.size w w' := by
  have HL : Hid _ := fun u => lives_any u
  have HS0 : Hid (∀ u : World, Calls Try.prog 20 #[.int .i64 1024] u fun e w' => e = .returned (.string (mkT (List.replicate 1024 47))) ∧ w' = u) := fun u => strokes_any 1024 (by omega) u
  have HS1 : Hid (∀ u : World, Calls Try.prog 20 #[.int .i64 1025] u fun e w' => e = .returned (.string (mkT (List.replicate 1025 47))) ∧ w' = u) := fun u => strokes_any 1025 (by omega) u
  have HQ0 : Hid _ := fun u => parse_known (mkT (List.replicate 1024 47)) 0 [] 0 rfl (pr_rep 1024 (by omega) (by omega)).1 (pr_rep 1024 (by omega) (by omega)).2 (by show (List.replicate 1024 (47 : UInt8)).length ≤ _; rw [List.length_replicate]; omega) u
  have HQ1 : Hid _ := fun u => parse_known (mkT (List.replicate 1025 47)) 4 [] 0 rfl (pr_rep2 1025 (by omega)).1 (pr_rep2 1025 (by omega)).2 (by show (List.replicate 1025 (47 : UInt8)).length ≤ _; rw [List.length_replicate]; omega) u
  have HP0 : Hid _ := fun u => parse_known ⟨#[47, 46, 47, 46, 46]⟩ 0 [⟨#[46]⟩, ⟨#[46, 46]⟩] 2 rfl (by decide) (by decide) (by decide) u
  have HP3 : Hid _ := fun u => parse_known ⟨#[47, 97, 98, 99, 100, 101, 102, 103, 104, 105, 106, 107, 108, 109, 110]⟩ 0 [⟨#[97, 98, 99, 100, 101, 102, 103, 104, 105, 106, 107, 108, 109, 110]⟩] 1 rfl (by decide) (by decide) (by decide) u
  have HP4 : Hid _ := fun u => parse_known ⟨#[47, 97, 98, 99, 100, 101, 102, 103, 104, 105, 106, 107, 108, 109, 110, 111, 0]⟩ 4 [] 0 rfl (by decide) (by decide) (by decide) u
  have HP5 : Hid _ := fun u => parse_known ⟨#[]⟩ 4 [] 0 rfl (by decide) (by decide) (by decide) u
  generalize mkT (List.replicate 1024 47) = T0 at *
  generalize mkT (List.replicate 1025 47) = T1 at *
  go_enter Try.func5, Try.ntmps5
  have HB : Hid _ := Below.refl w.heap.size w
  go_wp2_with (first | (go_at_call 7; fail))
  refine (HP0.out _).mono ?_
  rintro e w1 ⟨p1, c1, rfl, ht, _, hb⟩
  have HT1 : Hid (TxAt w1 p1 [⟨#[46]⟩, ⟨#[46, 46]⟩]) := ht
  clear ht
  have HB1 : Hid _ := below_next HB.out hb
  clear hb HB
  go_wp2_with (first | (go_at_call 20; fail))
  refine (HS0.out _).mono ?_
  rintro e w2 ⟨rfl, hw⟩
  subst hw
  go_wp2_with (first | (go_at_call 7; fail))
  refine (HQ0.out _).mono ?_
  rintro e w3 ⟨p3, c3, rfl, _, _, hb⟩
  have HT3 : Hid (TxAt w3 p1 [⟨#[46]⟩, ⟨#[46, 46]⟩]) := TxAt.later HT1.out hb
  clear HT1
  have HB3 : Hid _ := below_next HB1.out hb
  clear hb HB1
  go_wp2_with (first | (go_at_call 20; fail))
  refine (HS1.out _).mono ?_
  rintro e w4 ⟨rfl, hw⟩
  subst hw
  go_wp2_with (first | (go_at_call 7; fail))
  refine (HQ1.out _).mono ?_
  rintro e w5 ⟨p5, c5, rfl, _, _, hb⟩
  have HT5 : Hid (TxAt w5 p1 [⟨#[46]⟩, ⟨#[46, 46]⟩]) := TxAt.later HT3.out hb
  clear HT3
  have HB5 : Hid _ := below_next HB3.out hb
  clear hb HB3
  go_wp2_with (first | (go_at_call 7; fail))
  refine (HP3.out _).mono ?_
  rintro e w6 ⟨p6, c6, rfl, _, _, hb⟩
  have HT6 : Hid (TxAt w6 p1 [⟨#[46]⟩, ⟨#[46, 46]⟩]) := TxAt.later HT5.out hb
  clear HT5
  have HB6 : Hid _ := below_next HB5.out hb
  clear hb HB5
  go_wp2_with (first | (go_at_call 7; fail))
  refine (HP4.out _).mono ?_
  rintro e w7 ⟨p7, c7, rfl, _, _, hb⟩
  have HT7 : Hid (TxAt w7 p1 [⟨#[46]⟩, ⟨#[46, 46]⟩]) := TxAt.later HT6.out hb
  clear HT6
  have HB7 : Hid _ := below_next HB6.out hb
  clear hb HB6
  go_wp2_with (first | (go_at_call 7; fail))
  refine (HP5.out _).mono ?_
  rintro e w8 ⟨p8, c8, rfl, _, _, hb⟩
  have HT8 : Hid (TxAt w8 p1 [⟨#[46]⟩, ⟨#[46, 46]⟩]) := TxAt.later HT7.out hb
  clear HT7
  have HB8 : Hid _ := below_next HB7.out hb
  clear hb HB7
  clear HP0 HP3 HP4 HP5 HQ0 HQ1 HS0 HS1
  go_wp2_with (first | (go_at_call 12; fail))
  have HR : Hid _ := tx_row (l := [⟨#[46]⟩, ⟨#[46, 46]⟩]) rfl (heap_alloc_new w8 (.cells #[.string ⟨#[46]⟩, .string ⟨#[46, 46]⟩] 9))
  have hbn := below_new w8 (.cells #[.string ⟨#[46]⟩, .string ⟨#[46, 46]⟩] 9)
  refine (same_known _ _ _ _ (TxAt.later HT8.out hbn) HR.out rfl rfl (by decide) true (by decide)).mono ?_
  rintro e w9 ⟨rfl, hb⟩
  have HB9 : Hid _ := below_next (below_next HB8.out hbn) hb
  clear hb hbn HR HT8 HB8
  go_wp2_with (first | (go_at_call 11; fail))
  have HR : Hid _ := tx_row (l := [⟨#[46]⟩]) rfl (heap_alloc_new w9 (.cells #[.string ⟨#[46]⟩] 9))
  have hbn := below_new w9 (.cells #[.string ⟨#[46]⟩] 9)
  refine (special_known _ _ HR.out rfl (by decide) true rfl).mono ?_
  rintro e w10 ⟨rfl, rfl⟩
  have HB10 : Hid _ := below_next HB9.out hbn
  clear hbn HR HB9
  generalize hw : World.alloc _ _ = w10 at *
  clear hw
  go_wp2_with (first | (go_at_call 11; fail))
  have HR : Hid _ := tx_row (l := [⟨#[97]⟩, ⟨#[46, 46]⟩]) rfl (heap_alloc_new w10 (.cells #[.string ⟨#[97]⟩, .string ⟨#[46, 46]⟩] 9))
  have hbn := below_new w10 (.cells #[.string ⟨#[97]⟩, .string ⟨#[46, 46]⟩] 9)
  refine (special_known _ _ HR.out rfl (by decide) true rfl).mono ?_
  rintro e w11 ⟨rfl, rfl⟩
  have HB11 : Hid _ := below_next HB10.out hbn
  clear hbn HR HB10
  generalize hw : World.alloc _ _ = w11 at *
  clear hw
  go_wp2_with (first | (go_at_call 11; fail))
  have HR : Hid _ := tx_row (l := [⟨#[97]⟩]) rfl (heap_alloc_new w11 (.cells #[.string ⟨#[97]⟩] 9))
  have hbn := below_new w11 (.cells #[.string ⟨#[97]⟩] 9)
  refine (special_known _ _ HR.out rfl (by decide) false rfl).mono ?_
  rintro e w12 ⟨rfl, rfl⟩
  have HB12 : Hid _ := below_next HB11.out hbn
  clear hbn HR HB11
  generalize hw : World.alloc _ _ = w12 at *
  clear hw
  go_wp2_with (first | (go_at_call 11; fail))
  have HR : Hid _ := tx_row (l := [⟨#[46, 46, 46]⟩]) rfl (heap_alloc_new w12 (.cells #[.string ⟨#[46, 46, 46]⟩] 9))
  have hbn := below_new w12 (.cells #[.string ⟨#[46, 46, 46]⟩] 9)
  refine (special_known _ _ HR.out rfl (by decide) false rfl).mono ?_
  rintro e w13 ⟨rfl, rfl⟩
  have HB13 : Hid _ := below_next HB12.out hbn
  clear hbn HR HB12
  generalize hw : World.alloc _ _ = w13 at *
  clear hw
  go_wp2_with (first | (go_at_call 10; fail))
  have HR : Hid _ := tx_row (l := [⟨#[46, 46]⟩]) rfl (heap_alloc_new w13 (.cells #[.string ⟨#[46, 46]⟩] 9))
  have hbn := below_new w13 (.cells #[.string ⟨#[46, 46]⟩] 9)
  refine (join_known _ _ HR.out rfl (by decide) (by decide) ⟨#[47, 46, 46]⟩ rfl).mono ?_
  rintro e w14 ⟨rfl, hb⟩
  have HB14 : Hid _ := below_next (below_next HB13.out hbn) hb
  clear hb hbn HR HB13
  go_wp2_with (first | (go_at_call 17; fail))
  refine (HL.out _).mono ?_
  rintro e w15 ⟨rfl, hb⟩
  have HB15 : Hid _ := below_next HB14.out hb
  clear hb HB14
  go_wp2
  go_ret
  exact ⟨rfl, HB15.out⟩
end Go.Proofs.Ytadljgaadjajdaa
