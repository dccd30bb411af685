/- Recovery: the walk; New where a header names blocks; no condition but that numbers do not pass their greatest. -/
import Derived.Test.YtglcliokhlafoaaLRec
namespace Go.Proofs.Ytglcliokhlafoaa
open Go.RowKit Go.Maps
variable {w W : World} {g d c mb : Nat} {v : Value} {x : LSt} {s : CSt} {t : St} {os ks : List (Nat × Obj)} {base : Nat} {book : Int → Nat → Int}
def rcE (T : List Int) (t : St) : Int := if mE (mvs T T.length) t = 0 then runE [none, some (1, nought), none] (mV (mvs T T.length) t) else mE (mvs T T.length) t
def rcV (T : List Int) (t : St) : St := if mE (mvs T T.length) t = 0 then runV [none, some (1, nought), none] (mV (mvs T T.length) t) else mV (mvs T T.length) t
set_option maxRecDepth 20000 in
set_option maxHeartbeats 800000 in
theorem recover_empty {b l i : Int} (h : Sits w W d t ks) (hf : H.Fine b l i) (hn : b ≤ t.n) (hs : t.stopped = false) (hr : Rm t 2) (hT : tgT b l t = []) : Calls Try.prog 13 #[ptr d, .agg (layA b l i)] W fun e W' => e = .returned (.tuple #[.int .i64 0, .int .i64 (tgE b l t)]) ∧ Sits w W' d (readS t) ks := by
  have hA := h.add (.cells (layA b l i) 30)
  have hrow := heap_alloc_new W (.cells (layA b l i) 30)
  have hsz : (layA b l i).size = 9 := rfl
  have hc := Hid.mk' (committed_ok hA hf hn hs (Rm.room hr))
  rw [hT] at hc
  clear h hA hf hn hs hr hT
  unfold ptr at *
  generalize layA b l i = L at *
  generalize tgE b l t = E at *
  go_enter Try.func13, Try.ntmps13
  go_wp2_with (first | refine wpList_load_row rfl 30 (.tmp 3) rfl W.heap.size rfl 30 L (0, 0) _ hrow Try.underlying30 rfl (by rw [hsz]; exact H.size25L) ?_ | (go_at_call 36; fail))
  refine hc.out.mono ?_
  rintro e W1 ⟨p, rfl, _, h1⟩
  have H1 := Hid.mk' (h1.drop (ks' := ks) fun q hq => List.mem_cons_of_mem _ hq)
  clear h1 hc hrow
  by_cases hE : E = 0
  · subst hE
    go_wp2
    go_ret2
    exact ⟨rfl, H1.out⟩
  · go_wp2
    go_ret2
    exact ⟨rfl, H1.out⟩
/-- Behind the first k moves. -/
def RcI (w : World) (d : Nat) (T : List Int) (t : St) (ks : List (Nat × Obj)) (k : Nat) (wx : World) : Prop := Sits w wx d (mV (mvs T k) t) ks ∧ mE (mvs T k) t = 0
theorem RcI.move {T : List Int} {k : Nat} {wx : World} {y : Int} (h : RcI w d T t ks k wx) (hy : T[k]? = some y) (hr : Rm t (T.length + 2)) :
    Calls Try.prog 41 #[ptr d, .int .i64 (2 + (k : Int)), .int .i64 y] wx fun e W' => (e = .returned (.int .i64 0) ∧ RcI w d T t ks (k + 1) W') ∨ (∃ E, E ≠ 0 ∧ e = .returned (.int .i64 E) ∧ rcE T t = E ∧ Sits w W' d (rcV T t) ks) := by
  obtain ⟨h1, h2⟩ := h
  have hk := (List.getElem?_eq_some_iff.1 hy).1
  have hRm : Rm (mV (mvs T k) t) 2 := Rm.moves (hr.le (by rw [mvs_len]; omega))
  refine (sits_move h1 hRm (2 + (k : Int)) y).mono ?_
  rintro e W' ⟨rfl, h3⟩
  obtain ⟨r1, r2⟩ := mv_snoc (o := (2 + (k : Int), y)) h2
  rw [← mvs_succ hy] at r1 r2
  by_cases he : moE (mV (mvs T k) t) (2 + (k : Int), y) = 0
  · exact .inl ⟨by rw [he], by rw [r2]; exact h3, by rw [r1]; exact he⟩
  · obtain ⟨r, hr2⟩ := mvs_more T (k + 1) T.length (by omega)
    have h6 : mE (mvs T (k + 1)) t ≠ 0 := by rw [r1]; exact he
    obtain ⟨q1, q2⟩ := mv_ended (b := r) h6
    rw [← hr2] at q1 q2
    have h7 : mE (mvs T T.length) t ≠ 0 := by rw [q1]; exact h6
    refine .inr ⟨_, he, rfl, ?_, ?_⟩
    · unfold rcE
      rw [if_neg h7, q1, r1]
    · unfold rcV
      rw [if_neg h7, q2, r2]
      exact h3
/-- What a recovery leaves. -/
def RcPost (w : World) (d : Nat) (T : List Int) (t : St) (ks : List (Nat × Obj)) (e : Ending) (W' : World) : Prop := e = .returned (.tuple #[.int .i64 (if rcE T t = 0 then (T.length : Int) else 0), .int .i64 (rcE T t)]) ∧ Sits w W' d (rcV T t) ks
theorem rc_bad {T : List Int} {E : Int} (h : rcE T t = E) (h0 : E ≠ 0) (hs : Sits w W d (rcV T t) ks) : RcPost w d T t ks (.returned (.tuple #[.int .i64 0, .int .i64 E])) W := by
  refine ⟨?_, hs⟩
  rw [h, if_neg h0]
theorem rc_fine {T : List Int} (h : rcE T t = 0) (hs : Sits w W d (rcV T t) ks) : RcPost w d T t ks (.returned (.tuple #[.int .i64 (T.length : Int), .int .i64 0])) W := by
  refine ⟨?_, hs⟩
  rw [h, if_pos rfl]
set_option maxRecDepth 20000 in
set_option maxHeartbeats 4000000 in
theorem recover_some {b l i : Int} (h : Sits w W d t ks) (hf : H.Fine b l i) (hn : b ≤ t.n) (hs : t.stopped = false) (hT : tgT b l t ≠ []) (hE : tgE b l t = 0) (hlen : (tgT b l t).length ≤ 255) (hr : Rm t ((tgT b l t).length + 8)) : Calls Try.prog 13 #[ptr d, .agg (layA b l i)] W (RcPost w d (tgT b l t) (readS t) ks) := by
  have hA := h.add (.cells (layA b l i) 30)
  have hrow := heap_alloc_new W (.cells (layA b l i) 30)
  have hsz : (layA b l i).size = 9 := rfl
  have hc := Hid.mk' (committed_at hA hf hn hs (Rm.room (n := (tgT b l t).length + 7) hr))
  rw [hE] at hc
  have hr1 : Rm (readS t) ((tgT b l t).length + 7) := hr.readS
  have hpos : 0 < (tgT b l t).length := List.length_pos_iff.2 hT
  generalize tgT b l t = T at *
  generalize readS t = t1 at *
  have HM : Hid (∀ k wx ks' y, RcI w d T t1 ks' k wx → T[k]? = some y → Calls Try.prog 41 #[ptr d, .int .i64 (2 + (k : Int)), .int .i64 y] wx fun e W' => (e = .returned (.int .i64 0) ∧ RcI w d T t1 ks' (k + 1) W') ∨ (∃ E, E ≠ 0 ∧ e = .returned (.int .i64 E) ∧ rcE T t1 = E ∧ Sits w W' d (rcV T t1) ks')) := fun k wx ks' y h1 hy => h1.move hy (hr1.le (by omega))
  have HB : Hid (∀ wx ks', RcI w d T t1 ks' T.length wx → Calls Try.prog 43 #[ptr d] wx fun e W' => e = .returned (.int .i64 (barE (mV (mvs T T.length) t1))) ∧ Sits w W' d (barV (mV (mvs T T.length) t1)) ks' ∧ rcE T t1 = runE [none, some (1, nought), none] (mV (mvs T T.length) t1) ∧ rcV T t1 = runV [none, some (1, nought), none] (mV (mvs T T.length) t1) ∧ Rm (barV (mV (mvs T T.length) t1)) 4) := fun wx ks' h1 => by
    obtain ⟨h1, h2⟩ := h1
    have hRm : Rm (mV (mvs T T.length) t1) 5 := Rm.moves (hr1.le (by rw [mvs_len]; omega))
    refine (sits_barrier h1 (Rm.room (n := 4) hRm)).mono ?_
    rintro e W' ⟨rfl, h3⟩
    exact ⟨rfl, h3, by unfold rcE; rw [if_pos h2], by unfold rcV; rw [if_pos h2], hRm.dop none⟩
  have HH : Hid (∀ wx ks' t2, Sits w wx d t2 ks' → Rm t2 4 → Calls Try.prog 44 #[ptr d, .agg (layA b l i), .agg (blk nought)] wx fun e W' => e = .returned (.int .i64 (runE [some (1, nought), none] t2)) ∧ Sits w W' d (runV [some (1, nought), none] t2) ks') := fun wx ks' t2 h1 h2 => sits_setHeader h1 b l i can_nought (h2.le (by omega))
  have HI : Hid (∀ (j : Int) V, (0 ≤ j ∧ j ≤ 1048576) → Calls Try.prog 42 #[.agg (layA b l i), .int .i64 j] V fun e W' => e = .returned (.int .i64 (2 + j)) ∧ W' = V.alloc (.cells (layA b l i) 30)) := fun j V hj => inLog_any b l i j hj V
  clear h hA hf hn hs hr hr1 hE hT
  unfold ptr at *
  generalize layA b l i = L at *
  have z25 := zero25
  go_enter Try.func13, Try.ntmps13
  go_wp2_with (first | refine wpList_load_row rfl 30 (.tmp 3) rfl W.heap.size rfl 30 L (0, 0) _ hrow Try.underlying30 rfl (by rw [hsz]; exact H.size25L) ?_ | (go_at_call 36; fail))
  refine hc.out.mono ?_
  rintro e W1 ⟨p, rfl, hp⟩
  have hp2 : ∃ q, p = some ⟨q, 0, none⟩ ∧ Sits w W1 d t1 ((q, .cells (H.listRow T) 3) :: (W.heap.size, .cells L 30) :: ks) := by
    rcases hp with ⟨⟨_, q⟩, _⟩ | q
    · rw [q] at hpos; simp at hpos
    · exact q
  clear hp hc hrow
  obtain ⟨q, rfl, h1⟩ := hp2
  have H1 : Hid (RcI w d T t1 ((q, .cells (H.listRow T) 3) :: (W.heap.size, .cells L 30) :: ks) 0 W1) := ⟨h1, rfl⟩
  clear h1
  have HT : Hid (∀ k, k < T.length → ∃ y, T[k]? = some y ∧ (H.listRow T)[k]? = some (.int .i64 y)) := fun k hk => ⟨T[k], List.getElem?_eq_getElem hk, by unfold H.listRow; simp [hk]⟩
  generalize hTn : T.length = n at *
  have hn0 : ¬ (n : Int) = 0 := by omega
  have hnb : ((n : Int) == 0) = false := by simpa using hn0
  go_wp2
  go_loopw [29] (fun s29 wx => ∃ k : Nat, k ≤ n ∧ s29 = .int .i64 k ∧ Hid (RcI w d T t1 ((q, .cells (H.listRow T) 3) :: (W.heap.size, .cells L 30) :: ks) k wx)) (fun s29 _ => n - (intOf s29).toNat)
  case atStart => exact ⟨0, by omega, rfl, H1.out⟩
  case round =>
    obtain ⟨k, hk, rfl, HP⟩ := hrel
    by_cases hk2 : (k : Int) < n
    · have hkl : k < n := by omega
      obtain ⟨y, hy, hyr⟩ := HT.out k hkl
      have hcl : wr.cell? ⟨q, k, none⟩ = some (.int .i64 y) := (Joins.cell_of_block (HP.out.1.blk (List.mem_cons_self ..)) k).trans hyr
      have hlr := HP.out.1.blk (List.mem_cons_of_mem _ (List.mem_cons_self ..))
      have HMk : Hid (∀ V, Below wr.heap.size wr V → Calls Try.prog 41 #[.pointer (some ⟨d, 0, none⟩), .int .i64 (2 + (k : Int)), .int .i64 y] V fun e W' => (e = .returned (.int .i64 0) ∧ RcI w d T t1 ((q, .cells (H.listRow T) 3) :: (W.heap.size, .cells L 30) :: ks) (k + 1) W') ∨ (∃ E, E ≠ 0 ∧ e = .returned (.int .i64 E) ∧ rcE T t1 = E ∧ Sits w W' d (rcV T t1) ((q, .cells (H.listRow T) 3) :: (W.heap.size, .cells L 30) :: ks))) := fun V hb => HM.out k V _ y ⟨HP.out.1.later hb, HP.out.2⟩ hy
      clear HP hy hyr HT H1 HB HH
      go_wp2_with (first | refine wpList_load_row rfl 30 (.tmp 3) rfl W.heap.size rfl 30 L (0, 0) _ hlr Try.underlying30 rfl (by rw [hsz]; exact H.size25L) ?_ | (go_at_call 42; refine (HI.out (k : Int) _ ⟨by omega, by omega⟩).mono ?_; rintro e V1 ⟨rfl, rfl⟩) | (go_at_call 41; fail))
      refine (HMk.out _ (below_new _ _)).mono ?_
      rintro e W2 (⟨rfl, h2⟩ | ⟨E, hE, rfl, hE2, h2⟩)
      · have H2 := Hid.mk' h2
        clear h2 HMk hcl hlr
        go_wp2
        exact ⟨⟨k + 1, by omega, by go_num, H2.out⟩, by simp [intOf]; omega⟩
      · have H2 := Hid.mk' (h2.drop (ks' := ks) fun p hp => List.mem_cons_of_mem _ (List.mem_cons_of_mem _ hp))
        have H3 := Hid.mk' hE2
        clear h2 HMk hcl hlr hE2
        go_wp2
        go_ret2
        exact rc_bad H3.out hE H2.out
    · obtain rfl : k = n := by omega
      subst hTn
      have HB2 := Hid.mk' (HB.out wr _ HP.out)
      clear HB HP H1 HM HT
      go_wp2_with (go_at_call 43; fail)
      refine HB2.out.mono ?_
      rintro e W2 ⟨rfl, h2, e1, e2, hrm⟩
      have HE : Hid (rcE T t1 = (if barE (mV (mvs T T.length) t1) = 0 then runE [some (1, nought), none] (barV (mV (mvs T T.length) t1)) else barE (mV (mvs T T.length) t1)) ∧ rcV T t1 = (if barE (mV (mvs T T.length) t1) = 0 then runV [some (1, nought), none] (barV (mV (mvs T T.length) t1)) else barV (mV (mvs T T.length) t1))) := ⟨e1, e2⟩
      have hlr := h2.blk (List.mem_cons_of_mem _ (List.mem_cons_self ..))
      have H2 := Hid.mk' h2
      have HH2 := Hid.mk' (HH.out W2 _ _ h2 hrm)
      clear e1 e2 h2 HB2 HH hrm
      generalize mV (mvs T T.length) t1 = t2 at *
      by_cases hB : barE t2 = 0
      · rw [hB] at HE ⊢
        rw [if_pos rfl, if_pos rfl] at HE
        go_wp2_with (first | refine wpList_load_row rfl 30 (.tmp 3) rfl W.heap.size rfl 30 L (0, 0) _ hlr Try.underlying30 rfl (by rw [hsz]; exact H.size25L) ?_ | refine H.wpList_build30w rfl rfl ?_ | (go_at_call 44; fail))
        refine HH2.out.mono ?_
        rintro e W3 ⟨rfl, h3⟩
        have H3 := Hid.mk' (h3.drop (ks' := ks) fun p hp => List.mem_cons_of_mem _ (List.mem_cons_of_mem _ hp))
        clear h3 HH2 hlr H2
        rw [← HE.out.1]
        rw [← HE.out.2] at H3
        by_cases hR : rcE T t1 = 0
        · have HR0 := Hid.mk' hR
          rw [hR]
          clear hR
          go_wp2
          go_ret2
          exact rc_fine HR0.out H3.out
        · generalize hGE : rcE T t1 = E at *
          have HG := Hid.mk' hGE
          clear hGE
          go_wp2
          go_ret2
          exact rc_bad HG.out hR H3.out
      · rw [if_neg hB, if_neg hB] at HE
        have H3 := Hid.mk' (H2.out.drop (ks' := ks) fun p hp => List.mem_cons_of_mem _ (List.mem_cons_of_mem _ hp))
        clear HH2 hlr H2
        rw [← HE.out.2] at H3
        rw [← HE.out.1] at hB ⊢
        generalize hGE : rcE T t1 = E at *
        have HG := Hid.mk' hGE
        clear hGE
        go_wp2
        go_ret2
        exact rc_bad HG.out hB H3.out
end Go.Proofs.Ytglcliokhlafoaa
