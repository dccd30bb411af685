/- The law RoomNil walked: at a log that is nil, blank or closed all four calls answer ErrNil, whatever the block. -/
import Derived.Test.YtkcgbhagjkhcmaaGreatK29
namespace Go.Proofs.YtkcgbhagjkhcmaaGreat
open Go.RowKit Go.Maps
theorem none_lg {W : World} {g : Nat} (h : W.heap[g]? = some (.cells lgZ 56)) : Go.Proofs.YtkcgbhagjkhcmaaGreatW.NoneAt W (.pointer (some ⟨g, 0, none⟩)) := .inr ⟨g, rfl, (Joins.cell_of_block h 0).trans rfl⟩
set_option maxRecDepth 20000 in
set_option maxHeartbeats 4000000 in
theorem rnil_walk (k : Int) (w : World) : Calls Tryz.prog 4 #[.int .i64 k] w fun e w' => e = .returned (.bool true) ∧ Below w.heap.size w w' := by
  have zl := zeroPL
  have hex := example_ok w
  go_enter Tryz.func4, Tryz.ntmps4
  go_wp2_with (go_at_call 6; fail)
  refine hex.mono ?_
  rintro e V1 ⟨pi, pe, ce, ci, rfl, hE, _, _, hb1⟩
  have hbg := begin_ok ci hE
  have HB1 : Hid _ := hb1
  clear hex hE hb1
  generalize wdRow 400 32 60 (.slice pi 1 ci) 361 59 0 = WR at *
  go_wp2_with (go_at_call 5; fail)
  refine hbg.mono ?_
  rintro e V2 ⟨W0, gp, gl, gd, gr, gm, rfl, hb2, hlog⟩
  have h0 := rb_begin hlog
  have HB : Hid (Below w.heap.size w W0) := below_next HB1.out hb2
  have H0 : Hid _ := h0
  clear hbg hb2 hlog HB1 h0
  generalize Go.Proofs.YtkcgbhagjkhcmaaGreatW.claimN stE = c at *
  have haw := awake_ok V2
  go_wp2_with (go_at_call 7; fail)
  refine haw.mono ?_
  rintro e V3 ⟨rfl, hb3⟩
  have h1 := H0.out.later hb3
  clear haw hb3 H0
  have cl := pr_log (h1.obj (List.mem_cons_self ..))
  have hc := RB.close h1 rfl rfl
  clear h1
  go_wp2_with (go_at_call 14; fail)
  refine hc.mono ?_
  rintro e V4 ⟨rfl, hn, hks, hb4⟩
  have hpr := hks _ (List.mem_cons_self ..)
  clear hc cl hks
  have hb5 := below_new V4 (.cells lgZ 56)
  have hpr5 := heap_kept hpr hb5
  have hn5 := hn.later hb5
  have hm5 := none_lg (heap_alloc_new V4 (.cells lgZ 56))
  have hw5 : Below w.heap.size w (V4.alloc (.cells lgZ 56)) := below_next (below_next HB.out hb4) hb5
  have cl := pr_log hpr5
  have HM5 : Hid _ := hm5
  have HN5 : Hid _ := hn5
  have HW5 : Hid _ := hw5
  clear hpr hn hb4 hb5 hpr5 hn5 hm5 hw5
  go_upto_region 5 with fail
  generalize V4.alloc (.cells lgZ 56) = V5 at *
  generalize V4.heap.size = gz at *
  go_upto_region 6 with fail
  have hb6 := below_new V5 (.cells #[.pointer none, .pointer (some ⟨gz, 0, none⟩), .pointer (some ⟨gl, 0, none⟩)] 38)
  have hr6 := heap_alloc_new V5 (.cells #[.pointer none, .pointer (some ⟨gz, 0, none⟩), .pointer (some ⟨gl, 0, none⟩)] 38)
  have HBl : Hid _ := below_next HW5.out hb6
  have HA : Hid (∀ i : Nat, i < 3 → ∃ v, (V5.alloc (.cells #[.pointer none, .pointer (some ⟨gz, 0, none⟩), .pointer (some ⟨gl, 0, none⟩)] 38)).cell? ⟨V5.heap.size, i, none⟩ = some v ∧ Go.Proofs.YtkcgbhagjkhcmaaGreatW.NoneAt (V5.alloc (.cells #[.pointer none, .pointer (some ⟨gz, 0, none⟩), .pointer (some ⟨gl, 0, none⟩)] 38)) v) := fun i hi => by
    match i, hi with
    | 0, _ => exact ⟨_, Joins.cell_of_block hr6 0, .inl rfl⟩
    | 1, _ => exact ⟨_, Joins.cell_of_block hr6 1, Go.Proofs.YtkcgbhagjkhcmaaGreatW.NoneAt.later HM5.out hb6⟩
    | 2, _ => exact ⟨_, Joins.cell_of_block hr6 2, Go.Proofs.YtkcgbhagjkhcmaaGreatW.NoneAt.later HN5.out hb6⟩
    | n + 3, h => omega
  clear hb6 hr6 HM5 HN5 HW5 cl
  generalize V5.alloc (.cells #[.pointer none, .pointer (some ⟨gz, 0, none⟩), .pointer (some ⟨gl, 0, none⟩)] 38) = V6 at *
  generalize V5.heap.size = gs at *
  go_wp2
  go_loopw [8] (fun s8 wx => ∃ i : Nat, i ≤ 3 ∧ s8 = .int .i64 i ∧ wx = V6) (fun s8 _ => 3 - (intOf s8).toNat)
  case atStart => exact ⟨0, by omega, rfl, rfl⟩
  case round =>
    obtain ⟨i, hi, rfl, rfl⟩ := hrel
    by_cases hi2 : (i : Int) < 3
    · obtain ⟨v, hv, hn⟩ := HA.out i (by omega)
      have h9 := take_none hn
      have h8 := used_none hn k
      have h12 := free_none hn
      have h11 := give_none hn k
      clear hn HA
      go_wp2_with (first | (go_at_call 9; refine h9.mono ?_; rintro e W1 ⟨rfl, rfl⟩) | (go_at_call 8; refine h8.mono ?_; rintro e W1 ⟨rfl, rfl⟩) | (go_at_call 12; refine h12.mono ?_; rintro e W1 ⟨rfl, rfl⟩) | (go_at_call 11; refine h11.mono ?_; rintro e W1 ⟨rfl, rfl⟩))
      exact ⟨⟨i + 1, by omega, by go_num, trivial⟩, by simp [intOf]; omega⟩
    · go_wp2
      go_ret
      exact ⟨rfl, HBl.out⟩
end Go.Proofs.YtkcgbhagjkhcmaaGreat
