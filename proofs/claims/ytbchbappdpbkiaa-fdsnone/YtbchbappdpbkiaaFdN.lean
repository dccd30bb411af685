/- FdsNone's walk: it answers true, whatever the number and the thing; no condition. -/
import Derived.Test.YtbchbappdpbkiaaFdfI
import Derived.Test.YtbchbappdpbkiaaFdeI
import Derived.Test.YtbchbappdpbkiaaFdcI
import Derived.Test.YtbchbappdpbkiaaFdAw
namespace Go.Proofs.Ytbchbappdpbkiaa
open Go.RowKit Go.Maps
theorem NoTabI.later {w w' : World} {v : Value} (h : NoTabI w v) (hb : Below w.heap.size w w') : NoTabI w' v := by
  rcases h with h | ⟨g, h1, h2⟩
  · exact .inl h
  · exact .inr ⟨g, h1, (hb.cell (p := ⟨g, 0, none⟩) (World.block_lt_of_cell? w _ h2)).trans h2⟩
theorem walk_nil {w : World} {q : Nat} (hq : w.heap[q]? = some (.cells #[.slice none 0 0] 43)) : Calls Try.prog 39 #[.func (.func 58) #[] #[.pointer (some ⟨q, 0, none⟩)], .slice none 0 0, .slice none 0 0, .int .i64 0] w fun e w' => e = .returned (.bool true) ∧ Below w.heap.size w w' :=
  callsIn_wide.1 (walk_inI (R := []) (N := 0) rfl (by omega) w q none 0 hq (fun g e => by cases e) (fun k o hk => by simp at hk) none none 0 0 (fun i x hx => by simp [hl, hlF] at hx) (fun i x hx => by simp [hl, hlF] at hx) 0)
set_option maxRecDepth 20000 in
theorem none25_ok {w : World} {v : Value} (h : NoTabI w v) (fd x : Int) : Calls Try.prog 15 #[v, .int .i64 fd, .int .i64 x] w fun e w' => e = .returned (.bool true) ∧ Below w.heap.size w w' := by
  have HV : Hid (NoTabI w v) := h
  clear h
  go_enter Try.func15, Try.ntmps15
  go_wp2_with (first | (go_at_call 25; refine (open_noneI HV.out x).mono ?_; rintro e W ⟨rfl, q⟩; obtain rfl := q.symm) | (go_at_call 26; refine (get_noneI HV.out fd).mono ?_; rintro e W ⟨rfl, q⟩; obtain rfl := q.symm) | (go_at_call 33; refine (close_noneI HV.out fd).mono ?_; rintro e W ⟨rfl, q⟩; obtain rfl := q.symm) | (go_at_call 31; refine (set_noneI HV.out fd x).mono ?_; rintro e W ⟨rfl, q⟩; obtain rfl := q.symm) | (go_at_call 28; refine (len_noneI HV.out).mono ?_; rintro e W ⟨rfl, q⟩; obtain rfl := q.symm) | (go_at_call 27; fail))
  refine (full_noneI HV.out).mono ?_
  rintro e W1 ⟨rfl, hb⟩
  have HB1 : Hid (Below w.heap.size w W1) := hb
  have HV1 : Hid (NoTabI W1 v) := HV.out.later hb
  clear hb
  go_wp2_with (first | (go_at_call 37; fail))
  refine (all_noneI HV1.out).mono ?_
  rintro e W2 ⟨q, rfl, hq, hq2, hb⟩
  have HB2 : Hid (Below w.heap.size w W2) := below_next HB1.out hb
  have hw := walk_nil hq
  clear hb hq hq2
  go_wp2_with (first | (go_at_call 39; fail))
  refine hw.mono ?_
  rintro e W3 ⟨rfl, hb⟩
  have HB3 : Hid (Below w.heap.size w W3) := below_next HB2.out hb
  clear hb hw
  go_wp2
  go_ret
  exact ⟨rfl, HB3.out⟩
set_option maxRecDepth 20000 in
theorem fdsNone_walk (fd x : Int) (w : World) : Calls Try.prog 4 #[.int .i64 fd, .int .i64 x] w fun e w' => e = .returned (.bool true) ∧ Below w.heap.size w w' := by
  have HN : Hid (∀ W, NoTabI W (.pointer none)) := fun W => .inl rfl
  go_enter Try.func4, Try.ntmps4
  go_wp2_with (first | (go_at_call 14; fail))
  have hr : (w.alloc (.cells #[.pointer none, .int .i64 0, .int .i64 0, .int .i64 0, .slice none 0 0] 45)).heap[w.heap.size]? = some (.cells #[.pointer none, .int .i64 0, .int .i64 0, .int .i64 0, .slice none 0 0] 45) := heap_alloc_new _ _
  have HT : Hid (NoTabI (w.alloc (.cells #[.pointer none, .int .i64 0, .int .i64 0, .int .i64 0, .slice none 0 0] 45)) (.pointer (some ⟨w.heap.size, 0, none⟩))) := .inr ⟨_, rfl, Joins.cell_of_block hr 0⟩
  have HB0 : Hid (Below w.heap.size w (w.alloc (.cells #[.pointer none, .int .i64 0, .int .i64 0, .int .i64 0, .slice none 0 0] 45))) := below_new _ _
  clear hr
  refine (fawake_ok _).mono ?_
  rintro e W1 ⟨rfl, hb⟩
  have HT1 : Hid (NoTabI W1 (.pointer (some ⟨w.heap.size, 0, none⟩))) := HT.out.later hb
  have HB1 : Hid (Below w.heap.size w W1) := below_next HB0.out hb
  clear hb HT HB0
  go_wp2_with (first | (go_at_call 15; fail))
  refine (none25_ok (HN.out _) fd x).mono ?_
  rintro e W2 ⟨rfl, hb⟩
  have HT2 : Hid (NoTabI W2 (.pointer (some ⟨w.heap.size, 0, none⟩))) := HT1.out.later hb
  have HB2 : Hid (Below w.heap.size w W2) := below_next HB1.out hb
  clear hb HT1 HB1
  go_wp2_with (first | (go_at_call 15; fail))
  refine (none25_ok (HN.out _) 0 x).mono ?_
  rintro e W3 ⟨rfl, hb⟩
  have HT3 : Hid (NoTabI W3 (.pointer (some ⟨w.heap.size, 0, none⟩))) := HT2.out.later hb
  have HB3 : Hid (Below w.heap.size w W3) := below_next HB2.out hb
  clear hb HT2 HB2
  go_wp2_with (first | (go_at_call 15; fail))
  refine (none25_ok HT3.out fd x).mono ?_
  rintro e W4 ⟨rfl, hb⟩
  have HT4 : Hid (NoTabI W4 (.pointer (some ⟨w.heap.size, 0, none⟩))) := HT3.out.later hb
  have HB4 : Hid (Below w.heap.size w W4) := below_next HB3.out hb
  clear hb HT3 HB3
  go_wp2_with (first | (go_at_call 15; fail))
  refine (none25_ok HT4.out 0 x).mono ?_
  rintro e W5 ⟨rfl, hb⟩
  have HB5 : Hid (Below w.heap.size w W5) := below_next HB4.out hb
  clear hb HT4 HB4
  go_wp2
  go_ret
  exact ⟨rfl, HB5.out⟩
end Go.Proofs.Ytbchbappdpbkiaa
