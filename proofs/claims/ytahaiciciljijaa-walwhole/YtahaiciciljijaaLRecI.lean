/- Recovery of a disk on which something stands that lets it be read, where the header names no block; no condition. -/
import Derived.Test.YtahaiciciljijaaLRec
import Derived.Test.YtahaiciciljijaaLNames1
import Derived.Test.YtahaiciciljijaaLCtx
namespace Go.Proofs.Ytahaiciciljijaa
open Go.RowKit Go.Maps
section
variable {w W : World} {d : Nat} {C : World → St → List (Nat × Obj) → Prop} {t : St} {ks : List (Nat × Obj)}
set_option maxRecDepth 20000 in
set_option maxHeartbeats 1600000 in
theorem committed_C {b l i : Int} (hC : Ctx w d C) (hLn : ∀ {W t ks}, C W t ks → Calls Try.prog 72 #[.pointer (some ⟨d, 0, none⟩)] W fun e W' => e = .returned (.int .i64 t.n) ∧ W' = W) (hcan : Can (curV t 1)) (h : C W t ks) (hf : H.Fine b l i) (hn : b ≤ t.n) (hs : t.stopped = false) (hr : Room t) : Calls Try.prog 38 #[ptr d, .agg (layA b l i)] W fun e W' => ∃ p, e = .returned (.tuple #[.slice p (tgT b l t).length (tgT b l t).length, .int .i64 (tgE b l t)]) ∧ H.IntsAt W' p (tgT b l t) ∧ C W' (readS t) ks := by
  have hA := hC.add h (.cells (layA b l i) 31)
  have hrow := heap_alloc_new W (.cells (layA b l i) 31)
  have hsz : (layA b l i).size = 9 := rfl
  have hlen := hLn hA
  have hpos := H.Fine.pos hf
  have hnn : ¬ t.n = 0 := by omega
  have hbn : ¬ t.n < b := by omega
  have HE : Hid (∀ V, Calls Try.prog 35 #[.agg (layA b l i), .agg #[.slice none 0 0]] V fun e W' => e = .returned (.tuple #[.agg (blk (H.headF [])), .int .i64 0]) ∧ Below V.heap.size V W') := fun V =>
    H.enc_ok b l i 1 (1 + l) (H.nodeB i) (H.bitsAt l i) (H.bitsB b) (H.dataAt b l i) [] none 0 V (fine_i64 hf) (lay_fine hf) ⟨hf.1, hf.2.1⟩ (fun q => by simp at q) (fun q hq => by simp at hq) (by simp) (decide_eq_true ⟨by have := hf.1; simp; omega, fun q hq => by simp at hq, List.nodup_nil⟩)
  have HD : Hid (∀ V, Calls Try.prog 73 #[.agg (layA b l i), .agg (blk (curV t 1))] V fun e' w' => ∃ p, e' = .returned (.tuple #[.agg #[.slice p (tgT b l t).length (tgT b l t).length], .int .i64 (tgE b l t)]) ∧ (p = none ∧ tgT b l t = [] ∨ ∃ q, p = some ⟨q, 0, none⟩ ∧ V.heap.size ≤ q ∧ w'.heap[q]? = some (.cells (H.listRow (tgT b l t)) 3)) ∧ Below V.heap.size V w') := fun V =>
    H.dec_all b l i 1 (1 + l) (H.nodeB i) (H.bitsAt l i) (H.bitsB b) (H.dataAt b l i) (curV t 1) V (fine_i64 hf) (lay_fine hf) ⟨hf.1, hf.2.1⟩ hcan.1
  have HR : Hid (∀ V, Below (W.alloc (.cells (layA b l i) 31)).heap.size (W.alloc (.cells (layA b l i) 31)) V → V.heap[W.heap.size]? = some (.cells (layA b l i) 31) ∧ V.cell? ⟨W.heap.size, 0, none⟩ = some (.int .i64 b) ∧ V.cell? ⟨W.heap.size, 3, none⟩ = some (.int .i64 1) ∧ (∀ k, Calls Try.prog 72 #[.pointer (some ⟨d, 0, none⟩)] (V.drewN k) fun e W' => e = .returned (.int .i64 t.n) ∧ W' = V.drewN k) ∧ Hid (∀ k, Calls Try.prog 34 #[.pointer (some ⟨d, 0, none⟩), .int .i64 1] (V.drewN k) fun e W' => e = .returned (.tuple #[.agg (blk (curV t 1)), .int .i64 0]) ∧ C W' (readS t) ((W.heap.size, .cells (layA b l i) 31) :: ks))) := fun V hb => by
    have h1 := hC.later hA hb
    have h2 := heap_kept hrow hb
    refine ⟨h2, Joins.cell_of_block h2 0, Joins.cell_of_block h2 3, fun k => hLn (hC.later h1 (below_drewN _ k)), fun k => ?_⟩
    exact hC.dread (hC.later h1 (below_drewN _ k)) hs hr ⟨by omega, by omega⟩
  have HB0 := Hid.mk' (below_new W (.cells (layA b l i) 31))
  clear h hA hf hn hs hr hcan hpos
  unfold ptr at *
  generalize layA b l i = L at *
  generalize curV t 1 = Fc at *
  generalize hTL : tgT b l t = T at *
  generalize tgE b l t = E at *
  have z25 := zero25
  go_enter Try.func38, Try.ntmps38
  go_wp2_with (first | (go_at_call 72; refine hlen.mono ?_; rintro e W1 ⟨rfl, rfl⟩) | refine wpList_load_row rfl 31 (.tmp 3) rfl W.heap.size rfl 31 L (0, 0) _ hrow Try.underlying31 rfl (by rw [hsz]; exact H.size25L) ?_ | (go_at_call 35; fail))
  refine (HE.out _).mono ?_
  rintro e W1 ⟨rfl, hb1⟩
  obtain ⟨hrow2, c0, c3, hlen2, hrd⟩ := HR.out _ (below_next hb1 (below_new W1 (.cells (blk (H.headF [])) 23)))
  have HB1 := Hid.mk' (below_next (below_next HB0.out hb1) (below_new W1 (.cells (blk (H.headF [])) 23)))
  clear hb1 hlen HE HR hrow HB0
  go_wp2_with (first | refine wpList_store25_new rfl (.tmp 6) (.tmp 18) rfl (H.headF []) _ rfl rfl ?_)
  generalize W1.alloc (.cells (blk (H.headF [])) 23) = W2 at *
  go_quiet (first | (go_at_call 72; refine Calls.quiet_of_same (hlen2 _)))
  have hrd2 := hrd.out nq
  have hrow3 : (W2.drewN nq).heap[W.heap.size]? = some (.cells L 31) := hrow2
  clear hlen2 hrd hrow2
  go_wp2_with (go_at_call 34; fail)
  refine hrd2.mono ?_
  rintro e W3 ⟨rfl, h3⟩
  have H3 := Hid.mk' (hC.add h3 (.cells (blk Fc) 23))
  have hrow4 := hC.obj H3.out (List.mem_cons_of_mem _ (List.mem_cons_self ..))
  have hblk4 := hC.obj H3.out (List.mem_cons_self ..)
  clear hrd2 h3 hrow3 c0 c3
  go_wp2_with (first | refine wpList_store25_new rfl (.tmp 8) (.tmp 35) rfl Fc _ rfl rfl ?_ | refine wpList_load_row rfl 31 (.tmp 3) rfl W.heap.size rfl 31 L (0, 0) _ hrow4 Try.underlying31 rfl (by rw [hsz]; exact H.size25L) ?_ | refine wpList_load25 rfl (.tmp 8) rfl W3.heap.size rfl Fc hblk4 ?_ | (go_at_call 73; fail))
  refine (HD.out _).mono ?_
  rintro e W4 ⟨p, rfl, hp, hb4⟩
  have H4 := Hid.mk' (hC.later H3.out hb4)
  have hI4 := H.dec_ints hp
  have HI := Hid.mk' hI4
  clear hp hb4 hI4 H3 hrow4 hblk4 HD hTL
  go_wp2
  go_ret2
  exact ⟨p, rfl, HI.out.later (below_new _ _), hC.drop (hC.later H4.out (below_new _ _)) fun q hq => List.mem_cons_of_mem _ (List.mem_cons_of_mem _ hq)⟩
set_option maxRecDepth 20000 in
set_option maxHeartbeats 800000 in
theorem recover_C {b l i : Int} (hC : Ctx w d C) (hLn : ∀ {W t ks}, C W t ks → Calls Try.prog 72 #[.pointer (some ⟨d, 0, none⟩)] W fun e W' => e = .returned (.int .i64 t.n) ∧ W' = W) (hcan : Can (curV t 1)) (h : C W t ks) (hf : H.Fine b l i) (hn : b ≤ t.n) (hs : t.stopped = false) (hr : Rm t 2) (hT : tgT b l t = []) : Calls Try.prog 10 #[ptr d, .agg (layA b l i)] W fun e W' => e = .returned (.tuple #[.int .i64 0, .int .i64 (tgE b l t)]) ∧ C W' (readS t) ks := by
  have hA := hC.add h (.cells (layA b l i) 31)
  have hrow := heap_alloc_new W (.cells (layA b l i) 31)
  have hsz : (layA b l i).size = 9 := rfl
  have hc := Hid.mk' (committed_C hC hLn hcan hA hf hn hs (Rm.room hr))
  rw [hT] at hc
  clear h hA hf hn hs hr hT hcan
  unfold ptr at *
  generalize layA b l i = L at *
  generalize tgE b l t = E at *
  go_enter Try.func10, Try.ntmps10
  go_wp2_with (first | refine wpList_load_row rfl 31 (.tmp 3) rfl W.heap.size rfl 31 L (0, 0) _ hrow Try.underlying31 rfl (by rw [hsz]; exact H.size25L) ?_ | (go_at_call 38; fail))
  refine hc.out.mono ?_
  rintro e W1 ⟨p, rfl, _, h1⟩
  have H1 := Hid.mk' (hC.drop (ks' := ks) h1 fun q hq => List.mem_cons_of_mem _ hq)
  clear h1 hc hrow
  by_cases hE : E = 0
  · subst hE
    go_wp2
    go_ret2
    exact ⟨rfl, H1.out⟩
  · go_wp2
    go_ret2
    exact ⟨rfl, H1.out⟩
/-- Recovery beside a log, where the header is noughts: nothing to do. -/
theorem LogI.recover {g : Nat} {x : LSt} {book : Int → Nat → Int} {b l i : Int} (h : LogI w W g d x t book ks) (hf : H.Fine b l i) (hn : b ≤ t.n) (hs : t.stopped = false) (hr : Rm t 2) (h0 : curV t 1 = nought) :
    Calls Try.prog 10 #[ptr d, .agg (layA b l i)] W fun e W' => e = .returned (.tuple #[.int .i64 0, .int .i64 0]) ∧ LogI w W' g d x (readS t) book ks := by
  obtain ⟨e1, e2⟩ := tg_nought (b := b) (l := l) h0 hf.1
  have hLn : ∀ {W t ks}, LogI w W g d x t book ks → Calls Try.prog 72 #[.pointer (some ⟨d, 0, none⟩)] W fun e W' => e = .returned (.int .i64 t.n) ∧ W' = W := fun ⟨s, h1, _⟩ => by
    obtain ⟨c, mb, v, h2⟩ := h1.toSits
    exact sits_len2 h2
  have q := recover_C (LogI.ctx w g d x book) hLn (by rw [h0]; exact can_nought) h hf hn hs hr e1
  rw [e2] at q
  exact q
end
end Go.Proofs.Ytahaiciciljijaa
