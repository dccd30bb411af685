/- HeadKnown's walk; closed. -/
import Derived.Test.YtgkhheblmknedaaOwn
import Derived.Deep.Cut
import Derived.Deep.CutRange
namespace Go.Proofs.Ytgkhheblmknedaa
open Go.RowKit
/-- k numbers, from a on, by d each. -/
def upL (a d : Int) (k : Nat) : List Int := (List.range k).map fun (i : Nat) => a + d * (i : Int)
theorem upL_len (a d : Int) (k : Nat) : (upL a d k).length = k := by simp [upL]
theorem upL_next (a d : Int) (k : Nat) : upL a d (k + 1) = upL a d k ++ [a + d * (k : Int)] := by simp [upL, List.range_succ]
def badV (n : Nat) (p5 : Option Addr) (c5 : Nat) : Array Value := #[.slice (some ⟨n, 0, none⟩) 1 1, .slice (some ⟨n + 1, 0, none⟩) 1 1, .slice (some ⟨n + 2, 0, none⟩) 1 1, .slice (some ⟨n + 3, 0, none⟩) 1 1, .slice (some ⟨n + 4, 0, none⟩) 2 2, .slice p5 32 c5]
def badW (W : World) (p5 : Option Addr) (c5 : Nat) : World :=
  (((((W.alloc (.cells #[.int .i64 0] 3)).alloc (.cells #[.int .i64 32] 3)).alloc (.cells #[.int .i64 400] 3)).alloc (.cells #[.int .i64 (-1)] 3)).alloc (.cells #[.int .i64 40, .int .i64 40] 3)).alloc (.cells (badV W.heap.size p5 c5) 24)
theorem badW_below (W : World) (p5 : Option Addr) (c5 : Nat) : Below W.heap.size W (badW W p5 c5) := bel_al (bel_al (bel_al (bel_al (bel_al (below_new _ _) _) _) _) _) _
theorem bad_all (W : World) (p5 : Option Addr) (c5 : Nat) (h : IntsAt W p5 (upL 40 1 32)) (k : Nat) (hk : k < 6) :
    ∃ p l c, (badW W p5 c5).cell? ⟨W.heap.size + 5, k, none⟩ = some (.slice p l.length c) ∧ IntsAt (badW W p5 c5) p l ∧ WfI l ∧ l.length < 9223372036854775807 ∧ mayB 33 400 31 l = false := by
  have hr : (badW W p5 c5).heap[W.heap.size + 5]? = some (.cells (badV W.heap.size p5 c5) 24) := last_new _ _ _ (by simp)
  have hc : ∀ v, (badV W.heap.size p5 c5)[k]? = some v → (badW W p5 c5).cell? ⟨W.heap.size + 5, k, none⟩ = some v := fun v hv => by
    rw [cell_of_row _ _ _ _ 24 _ hr]; exact hv
  have a0 : IntsAt (badW W p5 c5) (some ⟨W.heap.size, 0, none⟩) [0] := IntsAt.later (new_at [0] _ rfl W _ rfl) (bel_al (bel_al (bel_al (bel_al (below_new _ _) _) _) _) _)
  have a1 : IntsAt (badW W p5 c5) (some ⟨W.heap.size + 1, 0, none⟩) [32] := IntsAt.later (new_at [32] _ rfl (W.alloc (.cells #[.int .i64 0] 3)) _ (by simp)) (bel_al (bel_al (bel_al (below_new _ _) _) _) _)
  have a2 : IntsAt (badW W p5 c5) (some ⟨W.heap.size + 2, 0, none⟩) [400] := IntsAt.later (new_at [400] _ rfl ((W.alloc (.cells #[.int .i64 0] 3)).alloc (.cells #[.int .i64 32] 3)) _ (by simp)) (bel_al (bel_al (below_new _ _) _) _)
  have a3 : IntsAt (badW W p5 c5) (some ⟨W.heap.size + 3, 0, none⟩) [-1] := IntsAt.later (new_at [-1] _ rfl (((W.alloc (.cells #[.int .i64 0] 3)).alloc (.cells #[.int .i64 32] 3)).alloc (.cells #[.int .i64 400] 3)) _ (by simp)) (bel_al (below_new _ _) _)
  have a4 : IntsAt (badW W p5 c5) (some ⟨W.heap.size + 4, 0, none⟩) [40, 40] := IntsAt.later (new_at [40, 40] _ rfl ((((W.alloc (.cells #[.int .i64 0] 3)).alloc (.cells #[.int .i64 32] 3)).alloc (.cells #[.int .i64 400] 3)).alloc (.cells #[.int .i64 (-1)] 3)) _ (by simp)) (below_new _ _)
  have a5 : IntsAt (badW W p5 c5) p5 (upL 40 1 32) := h.later (badW_below W p5 c5)
  have : k = 0 ∨ k = 1 ∨ k = 2 ∨ k = 3 ∨ k = 4 ∨ k = 5 := by omega
  rcases this with rfl | rfl | rfl | rfl | rfl | rfl
  · exact ⟨_, [0], 1, hc _ rfl, a0, by decide, by decide, by decide⟩
  · exact ⟨_, [32], 1, hc _ rfl, a1, by decide, by decide, by decide⟩
  · exact ⟨_, [400], 1, hc _ rfl, a2, by decide, by decide, by decide⟩
  · exact ⟨_, [-1], 1, hc _ rfl, a3, by decide, by decide, by decide⟩
  · exact ⟨_, [40, 40], 2, hc _ rfl, a4, by decide, by decide, by decide⟩
  · exact ⟨_, upL 40 1 32, c5, hc _ (by rw [upL_len]; rfl), a5, by decide, by decide, by decide⟩
def exY : Array Value := lay9 400 32 60 1 33 4 37 1 39
theorem exY_set : exL.setIfInBounds 8 (.int .i64 39) = exY := rfl
theorem exY_dec (F : Nat → Int) (w : World) : Calls Try.prog 16 #[.agg exY, .agg (blk F)] w fun e' w' => e' = .returned (.tuple #[.agg #[.slice none 0 0], .int .i64 2]) ∧ Below w.heap.size w w' :=
  dec_not 400 32 60 1 33 4 37 1 39 F w (by unfold I64; omega) (by decide)
def exM : Array Value := lay9 2000 256 60 1 257 4 261 1 262
theorem exM_of (w : World) : Calls Try.prog 20 #[.agg #[.int .i64 2000, .int .i64 256, .int .i64 60]] w fun e w' => e = .returned (.tuple #[.agg exM, .int .i64 0]) ∧ Below w.heap.size w w' := by
  have h := of_any 2000 256 60 w (by unfold I64; omega)
  exact h
theorem may255 : mayB 257 2000 255 (upL 1999 (-1) 255) = true := by
  refine decide_eq_true ⟨by rw [upL_len]; omega, fun t ht => ?_, ?_⟩
  · obtain ⟨i, hi, rfl⟩ := List.mem_map.1 ht
    have := List.mem_range.1 hi
    omega
  · exact List.pairwise_map.2 (List.pairwise_lt_range.imp fun h => by omega)
theorem exM_enc (p : Option Addr) (cap : Nat) (w : World) (h : IntsAt w p (upL 1999 (-1) 255)) :
    Calls Try.prog 11 #[.agg exM, .agg #[.slice p 255 cap]] w fun e' w' => e' = .returned (.tuple #[.agg (blk (headF (upL 1999 (-1) 255))), .int .i64 0]) ∧ Below w.heap.size w w' := by
  have hP : MayP 257 2000 255 (upL 1999 (-1) 255) := of_decide_eq_true may255
  have := enc_ok 2000 256 60 1 257 4 261 1 262 (upL 1999 (-1) 255) p cap w (by unfold I64; omega) (by decide) (by omega) h (hP.u (by omega) (by omega)) (by rw [upL_len]; omega) may255
  rw [upL_len] at this
  exact this
theorem exM_read (w : World) : Calls Try.prog 26 #[.agg (blk (headF (upL 1999 (-1) 255))), .int .i64 1020] w fun e w' => e = .returned (.int .u32 1745) ∧ Below w.heap.size w w' := by
  have hP : MayP 257 2000 255 (upL 1999 (-1) 255) := of_decide_eq_true may255
  have h := u32_any (headF (upL 1999 (-1) 255)) ((4 * 255 : Nat) : Int) w (wordF_byte _)
  rw [num_in _ _ _ (by omega), headF, wordF_read _ (fun x hx => by
    rcases List.mem_cons.1 hx with rfl | hx
    · rw [upL_len]; exact ⟨by omega, by omega⟩
    · exact hP.u (by omega) (by omega) x hx)] at h
  have e : (((upL 1999 (-1) 255).length : Int) :: upL 1999 (-1) 255).getD 255 0 = 1745 := by
    rw [List.getD_eq_getElem?_getD, List.getElem?_cons_succ]
    simp [upL]
  rw [e] at h
  exact h
theorem badW_size (W : World) (p5 : Option Addr) (c5 : Nat) : W.heap.size + 5 < (badW W p5 c5).heap.size := by simp [badW]
set_option maxRecDepth 20000 in
set_option maxHeartbeats 4000000 in
theorem law_known (w : World) : Calls Try.prog 7 #[] w fun e w' => e = .returned (.bool true) ∧ Below w.heap.size w w' := by
  have hOf := exL_of
  have hX := fun ts p c W (h : IntsAt W p ts) (hw : WfI ts) (hl : ts.length < 9223372036854775807) (hm : mayB 33 400 31 ts = false) => ex_bad ts p c W h hw hl hm
  have hsz : exL.size = 9 := rfl
  have h1 : exL.all (·.oneCell') = true := lay_one _ _ _ _ _ _ _ _ _
  have z25 := zero25
  have HX : Hid _ := hX
  clear hX
  go_enter Try.func7, Try.ntmps7
  go_wp2_with (first | (go_at_call 25; fail))
  refine (geo_any _).mono ?_
  rintro e W1 ⟨rfl, hb1⟩
  go_wp2_with (first | (go_at_call 20; fail))
  refine (hOf _).mono ?_
  rintro e W2 ⟨rfl, hb2⟩
  have HB : Hid (Below w.heap.size w W2) := below_next hb1 hb2
  clear hb1 hb2 hOf
  go_wp2_with (first | (with_reducible refine isStore 26 ?_; refine wpList_storeL_new rfl _ _ rfl _ _ hsz rfl h1 _ rfl rfl rfl ?_))
  go_loopw [3, 4] (fun s3 s4 wx => ∃ k : Nat, k ≤ 32 ∧ s4 = .int .i64 k ∧ OwnZ wx (W2.heap.size + 1) s3 (upL 40 1 k) ∧ Below (W2.heap.size + 1) (W2.alloc (.cells exL 26)) wx) (fun _ s4 _ => 32 - (intOf s4).toNat)
  case atStart => exact ⟨0, by omega, rfl, OwnZ.nil _ _, Below.refl _ _⟩
  case round =>
    obtain ⟨k, hk, rfl, hown, hbel⟩ := hrel
    have hsize := hbel.size
    simp at hsize
    by_cases hk2 : (k : Int) < 32
    · have hlen : (upL 40 1 k).length ≤ 1048576 := by rw [upL_len]; omega
      go_wp2_with (at_builtin; go_loud (refine wpList_pushZ rfl (.tmp 29) (.tmp 32) rfl (W2.heap.size + 1) _ (upL 40 1 k) (40 + (k : Int)) rfl rfl hown hlen hsize ?_); intro v' w' hown' hg hbel')
      refine ⟨⟨k + 1, by omega, by go_num, ?_, hbel.trans hbel'⟩, by simp [intOf]; omega⟩
      rw [upL_next, Int.one_mul]
      exact hown'
    · obtain rfl : k = 32 := by omega
      obtain ⟨p5, c5, rfl, hint, hcap, hpb⟩ := hown.ints
      rw [upL_len] at *
      clear hown
      go_wp2
      have HL : Hid (wr.heap[W2.heap.size]? = some (.cells exL 26)) := (hbel.block _ (Nat.lt_succ_self _)).trans (heap_alloc_new _ _)
      have hall := bad_all wr p5 c5 hint
      have hbw := badW_below wr p5 c5
      change Code.wp _ _ _ _ (badW wr p5 c5)
      have HY : Hid (IntsAt (badW wr p5 c5) p5 (upL 40 1 32) ∧ (badW wr p5 c5).heap[W2.heap.size]? = some (.cells exL 26) ∧ Below w.heap.size w (badW wr p5 c5) ∧ wr.heap.size + 5 < (badW wr p5 c5).heap.size) := ⟨hint.later hbw, heap_kept HL.out hbw, below_next ((bel_al HB.out _).trans (hbel.mono (by have := HB.out.size; omega))) hbw, badW_size _ _ _⟩
      have HA : Hid _ := hall
      clear hint hpb hbel HL hall hbw
      generalize badW wr p5 c5 = Y at *
      generalize wr.heap.size = n0 at *
      clear z25
      have z25 := zero25
      go_loopw [6, 7, 8] (fun s6 _ _ wx => ∃ k : Nat, k ≤ 6 ∧ s6 = .int .i64 k ∧ Below Y.heap.size Y wx) (fun s6 _ _ _ => 6 - (intOf s6).toNat)
      case atStart => exact ⟨0, by omega, rfl, Below.refl _ _⟩
      case round =>
        obtain ⟨k, hk, rfl, hbel⟩ := hrel
        by_cases hk2 : (k : Int) < 6
        · obtain ⟨p, l, c, hcell, hI, hw, hlen, hm⟩ := HA.out k (by omega)
          have hLr := heap_kept HY.out.2.1 hbel
          have hcr := (hbel.cell (p := ⟨n0 + 5, k, none⟩) HY.out.2.2.2).trans hcell
          have hcb : n0 + 5 < wr.heap.size := Nat.lt_of_lt_of_le HY.out.2.2.2 hbel.size
          have hIr := hI.later hbel
          clear hcell hI
          go_wp2
          refine wp_region_two (S := fun u => Below wr.heap.size wr u) [0, 1, 2, 3, 4, 5] 6 10 [.inl 7, .inl 8, .inl 9, .inr (.inl 10), .inr (.inl 11), .inl 12] [.inr (.inl 6), .inl 7, .inl 8, .inl 9, .inr (.inl 11), .inl 12] (by kernel_rfl) rfl rfl (by kernel_rfl) (fun d _ _ _ _ h => by cases d <;> exact h) (drew_below wr) ?_
          refine wpTwo_yield (v := .agg exL) rfl rfl (fun u hu => exec_loadL rfl rfl hsz (heap_kept hLr hu)) ?_
          simp only [Act.put, List.setIfInBounds_toArray, List.set_cons_succ, List.set_cons_zero]
          refine wpTwo_yield (v := .slice (some ⟨n0 + 5, 0, none⟩) 6 6) rfl rfl (fun u _ => by simp [execOp, Act.eval]) ?_
          simp only [Act.put, List.setIfInBounds_toArray, List.set_cons_succ, List.set_cons_zero]
          refine wpTwo_yield (v := .int .i64 (k : Int)) rfl rfl (fun u _ => by simp [execOp, Act.eval]) ?_
          simp only [Act.put, List.setIfInBounds_toArray, List.set_cons_succ, List.set_cons_zero]
          refine wpTwo_yield (v := .pointer (some ⟨n0 + 5, k, none⟩)) rfl rfl (fun u _ => by go_simp) ?_
          simp only [Act.put, List.setIfInBounds_toArray, List.set_cons_succ, List.set_cons_zero]
          refine wpTwo_yield (v := .slice p l.length c) rfl rfl (fun u hu => by have q := (Below.cell hu (p := ⟨n0 + 5, k, none⟩) hcb).trans hcr; go_simp) ?_
          simp only [Act.put, List.setIfInBounds_toArray, List.set_cons_succ, List.set_cons_zero]
          refine wpTwo_yield (v := .agg #[.slice p l.length c]) rfl rfl (fun u _ => by go_simp) ?_
          simp only [Act.put, List.setIfInBounds_toArray, List.set_cons_succ, List.set_cons_zero]
          have hq := drew_below wr
          generalize wr.drew = V at *
          refine wpTwo_nil rfl rfl ?_ ?_
          · refine act_call rfl 11 _ _ rfl Try.call11 [.agg exL, .agg #[.slice p l.length c]] rfl ?_
            refine (HX.out l p c _ (hIr.later hq) hw hlen hm).mono ?_
            rintro e' X ⟨rfl, hbx⟩
            have hq2 := below_next hq hbx
            refine ⟨_, rfl, hq2, ?_⟩
            simp only [Act.put, List.setIfInBounds_toArray, List.set_cons_succ, List.set_cons_zero]
            simp only [inSt, List.getElem?_cons_zero, List.getElem?_cons_succ]
            refine wpSt_yield (v := .tuple #[.agg (blk nought), .int .i64 4]) rfl (fun u _ => by simp [execOp, Act.eval]) ?_
            simp only [Act.put, List.setIfInBounds_toArray, List.set_cons_succ, List.set_cons_zero]
            refine wpSt_yield (v := .agg (blk nought)) rfl (fun u _ => by go_simp) ?_
            simp only [Act.put, List.setIfInBounds_toArray, List.set_cons_succ, List.set_cons_zero]
            refine wpSt_yield (v := .int .i64 4) rfl (fun u _ => by go_simp) ?_
            simp only [Act.put, List.setIfInBounds_toArray, List.set_cons_succ, List.set_cons_zero]
            refine wpSt_act (act_makes rfl (exec_allocB rfl) (hq2.alloc hq2.size _) ?_)
            simp only [Act.put, List.setIfInBounds_toArray, List.set_cons_succ, List.set_cons_zero]
            have hgB := heap_alloc_new X (.cells (blk nought) 30)
            have hq3 : Below wr.heap.size wr (X.alloc (.cells (blk nought) 30)) := hq2.alloc hq2.size _
            have hge := hq2.size
            generalize X.alloc (.cells (blk nought) 30) = Z at *
            generalize X.heap.size = gB at *
            clear hq2 hq hbx
            refine wpSt_act (act_done rfl (exec_storeB rfl gB nought nought rfl rfl hgB) (below_setRow hq3 hge _) ?_)
            simp only [Act.put]
            refine wpSt_yield (v := .int .i64 4) rfl (fun u _ => by simp [execOp, Act.eval]) ?_
            simp only [Act.put, List.setIfInBounds_toArray, List.set_cons_succ, List.set_cons_zero]
            refine wpSt_nil ?_
            have hZ := setRow_heap Z gB (blk nought) (blk nought) 30 (0, 0) hgB
            have HZ : Hid (Below wr.heap.size wr (Z.setRow gB (blk nought))) := below_setRow hq3 hge _
            generalize Z.setRow gB (blk nought) = Z2 at hZ HZ ⊢
            clear hgB hq3 hge
            go_wp2_with (first | (with_reducible refine isLoad 30 ?_; refine wpList_load30w rfl _ rfl _ rfl _ hZ ?_) | (with_reducible refine isBuild 30 ?_; refine wpList_build30w rfl rfl ?_) | (with_reducible refine isEq 30 30 ?_; refine wpList_neq30 rfl _ _ rfl nought nought true rfl rfl (sameB_self nought) ?_))
            exact ⟨⟨k + 1, by omega, by go_num, hbel.trans (HZ.out.mono hbel.size)⟩, by simp [intOf]; omega⟩
          · refine act_makes rfl (exec_allocB rfl) (hq.alloc hq.size _) ?_
            simp only [Act.put, List.setIfInBounds_toArray, List.set_cons_succ, List.set_cons_zero]
            have hgA := heap_alloc_new V (.cells (blk nought) 30)
            have hge := hq.size
            have hq : Below wr.heap.size wr (V.alloc (.cells (blk nought) 30)) := hq.alloc hq.size _
            generalize V.alloc (.cells (blk nought) 30) = V2 at *
            generalize V.heap.size = gB at *
            simp only [inSt, List.getElem?_cons_zero, List.getElem?_cons_succ]
            refine wpSt_act ?_
            refine act_call rfl 11 _ _ rfl Try.call11 [.agg exL, .agg #[.slice p l.length c]] rfl ?_
            refine (HX.out l p c _ (hIr.later hq) hw hlen hm).mono ?_
            rintro e' X ⟨rfl, hbx⟩
            have hq2 := below_next hq hbx
            refine ⟨_, rfl, hq2, ?_⟩
            simp only [Act.put, List.setIfInBounds_toArray, List.set_cons_succ, List.set_cons_zero]
            refine wpSt_yield (v := .tuple #[.agg (blk nought), .int .i64 4]) rfl (fun u _ => by simp [execOp, Act.eval]) ?_
            simp only [Act.put, List.setIfInBounds_toArray, List.set_cons_succ, List.set_cons_zero]
            refine wpSt_yield (v := .agg (blk nought)) rfl (fun u _ => by go_simp) ?_
            simp only [Act.put, List.setIfInBounds_toArray, List.set_cons_succ, List.set_cons_zero]
            refine wpSt_yield (v := .int .i64 4) rfl (fun u _ => by go_simp) ?_
            simp only [Act.put, List.setIfInBounds_toArray, List.set_cons_succ, List.set_cons_zero]
            have hgB := heap_kept hgA hbx
            have hq3 := hq2
            generalize X = Z at *
            clear hq2 hq hbx hgA
            refine wpSt_act (act_done rfl (exec_storeB rfl gB nought nought rfl rfl hgB) (below_setRow hq3 hge _) ?_)
            simp only [Act.put]
            refine wpSt_yield (v := .int .i64 4) rfl (fun u _ => by simp [execOp, Act.eval]) ?_
            simp only [Act.put, List.setIfInBounds_toArray, List.set_cons_succ, List.set_cons_zero]
            refine wpSt_nil ?_
            have hZ := setRow_heap Z gB (blk nought) (blk nought) 30 (0, 0) hgB
            have HZ : Hid (Below wr.heap.size wr (Z.setRow gB (blk nought))) := below_setRow hq3 hge _
            generalize Z.setRow gB (blk nought) = Z2 at hZ HZ ⊢
            clear hgB hq3 hge
            go_wp2_with (first | (with_reducible refine isLoad 30 ?_; refine wpList_load30w rfl _ rfl _ rfl _ hZ ?_) | (with_reducible refine isBuild 30 ?_; refine wpList_build30w rfl rfl ?_) | (with_reducible refine isEq 30 30 ?_; refine wpList_neq30 rfl _ _ rfl nought nought true rfl rfl (sameB_self nought) ?_))
            exact ⟨⟨k + 1, by omega, by go_num, hbel.trans (HZ.out.mono hbel.size)⟩, by simp [intOf]; omega⟩
        · obtain rfl : k = 6 := by omega
          have hLr := heap_kept HY.out.2.1 hbel
          have hIr := HY.out.1.later hbel
          have HW : Hid (Below w.heap.size w wr) := HY.out.2.2.1.trans (hbel.mono HY.out.2.2.1.size)
          clear HA HX hbel HB
          obtain ⟨b5, o5, rfl, l5, C5⟩ := hIr (by rw [upL_len]; omega)
          have HI31 : Hid (IntsAt wr (some ⟨b5, o5, none⟩) (upL 40 1 31)) := fun _ => ⟨b5, o5, rfl, l5, fun j x hx => C5 j x (by
            have hj : j < 31 := by have := (List.getElem?_eq_some_iff.1 hx).1; rw [upL_len] at this; exact this
            rw [show upL 40 1 32 = upL 40 1 31 ++ [40 + 1 * ((31 : Nat) : Int)] from upL_next 40 1 31, List.getElem?_append_left (by rw [upL_len]; exact hj)]
            exact hx)⟩
          have hE := fun (W : World) (h : IntsAt W (some ⟨b5, o5, none⟩) (upL 40 1 31)) => ex_enc (upL 40 1 31) (some ⟨b5, o5, none⟩) c5 W h (by decide)
          rw [upL_len] at hE
          generalize headF (upL 40 1 31) = H31 at hE
          have HE : Hid _ := hE
          clear hIr hE C5
          go_upto_region 14 with fail
          go_cut [9, 10] from 64 to 71 (fun _ s10 wc => s10 = .int .i64 0 ∧ Below wr.heap.size wr wc)
          case first =>
            refine wp_region_two (S := fun u => Below wr.heap.size wr u) [0, 1, 2, 3] 4 8 [.inl 5, .inl 6, .inl 7, .inr (.inl 8), .inr (.inl 9), .inl 10] [.inr (.inl 4), .inl 5, .inl 6, .inl 7, .inr (.inl 9), .inl 10] (by kernel_rfl) rfl rfl (by kernel_rfl) (fun d _ _ _ _ h => by cases d <;> exact h) (drew_below wr) ?_
            refine wpTwo_yield (v := .agg exL) rfl rfl (fun u hu => exec_loadL rfl rfl hsz (heap_kept hLr hu)) ?_
            simp only [Act.put, List.setIfInBounds_toArray, List.set_cons_succ, List.set_cons_zero]
            refine wpTwo_yield (v := .slice (some ⟨b5, o5, none⟩) 32 c5) rfl rfl (fun u _ => by simp [execOp, Act.eval]) ?_
            simp only [Act.put, List.setIfInBounds_toArray, List.set_cons_succ, List.set_cons_zero]
            refine wpTwo_yield (v := .slice (some ⟨b5, o5, none⟩) 31 c5) rfl rfl (fun u _ => by go_simp; intro h; omega) ?_
            simp only [Act.put, List.setIfInBounds_toArray, List.set_cons_succ, List.set_cons_zero]
            refine wpTwo_yield (v := .agg #[.slice (some ⟨b5, o5, none⟩) 31 c5]) rfl rfl (fun u _ => by go_simp) ?_
            simp only [Act.put, List.setIfInBounds_toArray, List.set_cons_succ, List.set_cons_zero]
            have hq := drew_below wr
            generalize wr.drew = V at *
            refine wpTwo_nil rfl rfl ?_ ?_
            · refine act_call rfl 11 _ _ rfl Try.call11 [.agg exL, .agg #[.slice (some ⟨b5, o5, none⟩) 31 c5]] rfl ?_
              refine (HE.out _ (HI31.out.later hq)).mono ?_
              rintro e' X ⟨rfl, hbx⟩
              have hq2 := below_next hq hbx
              refine ⟨_, rfl, hq2, ?_⟩
              simp only [Act.put, List.setIfInBounds_toArray, List.set_cons_succ, List.set_cons_zero]
              simp only [inSt, List.getElem?_cons_zero, List.getElem?_cons_succ]
              refine wpSt_yield (v := .tuple #[.agg (blk H31), .int .i64 0]) rfl (fun u _ => by simp [execOp, Act.eval]) ?_
              simp only [Act.put, List.setIfInBounds_toArray, List.set_cons_succ, List.set_cons_zero]
              refine wpSt_yield (v := .agg (blk H31)) rfl (fun u _ => by go_simp) ?_
              simp only [Act.put, List.setIfInBounds_toArray, List.set_cons_succ, List.set_cons_zero]
              refine wpSt_yield (v := .int .i64 0) rfl (fun u _ => by go_simp) ?_
              simp only [Act.put, List.setIfInBounds_toArray, List.set_cons_succ, List.set_cons_zero]
              refine wpSt_act (act_makes rfl (exec_allocB rfl) (hq2.alloc hq2.size _) ?_)
              simp only [Act.put, List.setIfInBounds_toArray, List.set_cons_succ, List.set_cons_zero]
              have hgB := heap_alloc_new X (.cells (blk nought) 30)
              have hq3 : Below wr.heap.size wr (X.alloc (.cells (blk nought) 30)) := hq2.alloc hq2.size _
              have hge := hq2.size
              generalize X.alloc (.cells (blk nought) 30) = Z at *
              generalize X.heap.size = gB at *
              clear hq2 hq hbx
              refine wpSt_act (act_done rfl (exec_storeB rfl gB H31 nought rfl rfl hgB) (below_setRow hq3 hge _) ?_)
              simp only [Act.put]
              refine wpSt_yield (v := .int .i64 0) rfl (fun u _ => by simp [execOp, Act.eval]) ?_
              simp only [Act.put, List.setIfInBounds_toArray, List.set_cons_succ, List.set_cons_zero]
              refine wpSt_nil ?_
              go_wp2_with fail
              go_meet
              case rel => exact ⟨rfl, below_setRow hq3 hge _⟩
            · refine act_makes rfl (exec_allocB rfl) (hq.alloc hq.size _) ?_
              simp only [Act.put, List.setIfInBounds_toArray, List.set_cons_succ, List.set_cons_zero]
              have hgA := heap_alloc_new V (.cells (blk nought) 30)
              have hge := hq.size
              have hq : Below wr.heap.size wr (V.alloc (.cells (blk nought) 30)) := hq.alloc hq.size _
              generalize V.alloc (.cells (blk nought) 30) = V2 at *
              generalize V.heap.size = gB at *
              simp only [inSt, List.getElem?_cons_zero, List.getElem?_cons_succ]
              refine wpSt_act ?_
              refine act_call rfl 11 _ _ rfl Try.call11 [.agg exL, .agg #[.slice (some ⟨b5, o5, none⟩) 31 c5]] rfl ?_
              refine (HE.out _ (HI31.out.later hq)).mono ?_
              rintro e' X ⟨rfl, hbx⟩
              have hq2 := below_next hq hbx
              refine ⟨_, rfl, hq2, ?_⟩
              simp only [Act.put, List.setIfInBounds_toArray, List.set_cons_succ, List.set_cons_zero]
              refine wpSt_yield (v := .tuple #[.agg (blk H31), .int .i64 0]) rfl (fun u _ => by simp [execOp, Act.eval]) ?_
              simp only [Act.put, List.setIfInBounds_toArray, List.set_cons_succ, List.set_cons_zero]
              refine wpSt_yield (v := .agg (blk H31)) rfl (fun u _ => by go_simp) ?_
              simp only [Act.put, List.setIfInBounds_toArray, List.set_cons_succ, List.set_cons_zero]
              refine wpSt_yield (v := .int .i64 0) rfl (fun u _ => by go_simp) ?_
              simp only [Act.put, List.setIfInBounds_toArray, List.set_cons_succ, List.set_cons_zero]
              have hgB := heap_kept hgA hbx
              have hq3 := hq2
              generalize X = Z at *
              clear hq2 hq hbx hgA
              refine wpSt_act (act_done rfl (exec_storeB rfl gB H31 nought rfl rfl hgB) (below_setRow hq3 hge _) ?_)
              simp only [Act.put]
              refine wpSt_yield (v := .int .i64 0) rfl (fun u _ => by simp [execOp, Act.eval]) ?_
              simp only [Act.put, List.setIfInBounds_toArray, List.set_cons_succ, List.set_cons_zero]
              refine wpSt_nil ?_
              go_wp2_with fail
              go_meet
              case rel => exact ⟨rfl, below_setRow hq3 hge _⟩
          case rest =>
            obtain ⟨rfl, hbc⟩ := hcut
            have hLc := heap_kept hLr hbc
            have HWc : Hid (Below w.heap.size w wc) := HW.out.trans (hbc.mono HW.out.size)
            clear hLr hbc HW HY HE HI31
            have hN := heap_alloc_new wc (.cells exL 26)
            have hc8 : (wc.alloc (.cells exL 26)).cell? ⟨wc.heap.size, 8, none⟩ = some (.int .i64 38) := by rw [cell_of_row _ _ _ _ 26 _ hN]; rfl
            have hf8 := frozen_row hN 8
            have hY : ((wc.alloc (.cells exL 26)).setCell ⟨wc.heap.size, 8, none⟩ (.int .i64 39)).heap[wc.heap.size]? = some (.cells exY 26) := by rw [heap_setCell_same _ _ _ _ _ _ hN, exY_set]
            have hszY : exY.size = 9 := rfl
            clear hN
            go_wp2_with (first | (with_reducible refine isStore 26 ?_; refine wpList_storeL_new rfl _ _ rfl _ _ hsz rfl h1 _ rfl rfl rfl ?_) | (with_reducible refine isLoad 26 ?_; refine wpList_loadL rfl _ rfl _ rfl _ hszY hY ?_) | (with_reducible refine isLoad 26 ?_; refine wpList_loadL rfl _ rfl _ rfl _ hsz hLc ?_) | (with_reducible refine isBuild 30 ?_; refine wpList_build30w rfl rfl ?_) | (go_at_call 16; fail))
            refine (exY_dec _ _).mono ?_
            rintro e X1 ⟨rfl, hb1⟩
            have HX1 : Hid (Below w.heap.size w X1) := below_next (bel_al HWc.out _) hb1
            clear hb1 HWc hY hf8 hc8 hLc
            go_wp2_with (first | (go_at_call 20; fail))
            refine (exM_of _).mono ?_
            rintro e X2 ⟨rfl, hb2⟩
            have HX2 : Hid (Below w.heap.size w X2) := below_next (bel_al HX1.out _) hb2
            have hszM : exM.size = 9 := rfl
            have h1M : exM.all (·.oneCell') = true := lay_one _ _ _ _ _ _ _ _ _
            clear hb2 HX1
            go_wp2_with (first | (with_reducible refine isStore 26 ?_; refine wpList_storeL_new rfl _ _ rfl _ _ hszM rfl h1M _ rfl rfl rfl ?_))
            go_loopw [16, 17] (fun s16 s17 wx => ∃ k : Nat, k ≤ 255 ∧ s17 = .int .i64 k ∧ OwnZ wx (X2.heap.size + 1) s16 (upL 1999 (-1) k) ∧ Below (X2.heap.size + 1) (X2.alloc (.cells exM 26)) wx) (fun _ s17 _ => 255 - (intOf s17).toNat)
            case atStart => exact ⟨0, by omega, rfl, OwnZ.nil _ _, Below.refl _ _⟩
            case round =>
              obtain ⟨k, hk, rfl, hown, hbel⟩ := hrel
              have hsize := hbel.size
              simp at hsize
              by_cases hk2 : (k : Int) < 255
              · have hlen : (upL 1999 (-1) k).length ≤ 1048576 := by rw [upL_len]; omega
                go_wp2_with (at_builtin; refine wpList_pushZ rfl (.tmp 92) (.tmp 95) rfl (X2.heap.size + 1) _ (upL 1999 (-1) k) (1999 - (k : Int)) rfl rfl hown hlen hsize ?_; intro v' w' hown' hg hbel')
                refine ⟨⟨k + 1, by omega, by go_num, ?_, hbel.trans hbel'⟩, by simp [intOf]; omega⟩
                rw [upL_next, show (1999 : Int) + -1 * (k : Int) = 1999 - (k : Int) by omega]
                exact hown'
              · obtain rfl : k = 255 := by omega
                obtain ⟨pA, cA, rfl, hint, hcap2, hpb⟩ := hown.ints
                have hLM : wr.heap[X2.heap.size]? = some (.cells exM 26) := (hbel.block _ (Nat.lt_succ_self _)).trans (heap_alloc_new _ _)
                have HX3 : Hid (Below w.heap.size w wr) := (bel_al HX2.out _).trans (hbel.mono (by have := HX2.out.size; omega))
                have HI : Hid _ := hint
                rw [upL_len]
                clear hown hbel hpb hint hcap2 HX2
                have hRd := exM_read
                have hEn := exM_enc
                generalize headF (upL 1999 (-1) 255) = H at *
                go_wp2_with (first | (with_reducible refine isLoad 26 ?_; refine wpList_loadL rfl _ rfl _ rfl _ hszM hLM ?_) | (go_at_call 11; fail))
                refine (hEn _ _ _ HI.out).mono ?_
                rintro e X4 ⟨rfl, hb4⟩
                have HX4 : Hid (Below w.heap.size w X4) := below_next HX3.out hb4
                clear hb4 HX3 hEn HI hLM
                go_wp2_with (first | (with_reducible refine isStore 30 ?_; refine wpList_store25_new rfl _ _ rfl _ _ rfl rfl ?_) | (go_at_call 19; fail))
                refine (awake_any _).mono ?_
                rintro e X5 ⟨rfl, hb5⟩
                have hH5 := heap_kept (heap_alloc_new X4 (.cells (blk H) 30)) hb5
                have HX5 : Hid (Below w.heap.size w X5) := below_next (bel_al HX4.out _) hb5
                clear hb5 HX4
                go_wp2_with (first | (with_reducible refine isLoad 30 ?_; refine wpList_load30w rfl _ rfl _ rfl _ hH5 ?_) | (go_at_call 26; fail))
                refine (hRd _).mono ?_
                rintro e X6 ⟨rfl, hb6⟩
                have HX6 : Hid (Below w.heap.size w X6) := below_next HX5.out hb6
                clear hb6 HX5 hRd hH5
                go_wp2
                go_ret
                exact ⟨rfl, HX6.out⟩
end Go.Proofs.Ytgkhheblmknedaa
