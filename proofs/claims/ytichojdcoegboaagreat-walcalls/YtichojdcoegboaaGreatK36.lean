/- Several texts joined: the log, its cache and its disk, of the program and of the document; no condition. -/
import Derived.Test.YtichojdcoegboaaGreatK35
namespace Go.Proofs.YtichojdcoegboaaGreatW
open Go.RowKit Go.Maps
section
variable {w W : World} {g d c mb : Nat} {v : Value} {x : LSt} {s : CSt} {t : St} {os ks : List (Nat × Obj)} {book : Int → Nat → Int} {Z : ZLoc} {l : List Part}
set_option maxRecDepth 20000 in
set_option maxHeartbeats 1600000 in
theorem LogI.readOwn (h : LogI w W g d x t book ks) (hc : chkE x t = 0) {k : Int} (hk : 1 ≤ k ∧ k < 1 + x.l) (hb : x.l < x.b) (hn : x.b ≤ t.n) (hs : t.stopped = false) (hr : Room t) : Calls Tryz.prog 36 #[ptr g, .int .i64 k] W (RdPost w g d x t book ks (curV t k)) := by
 obtain ⟨s, ⟨c, mb, v, os, h⟩, hI⟩ := h
 have hksz := h.ksLt
 have hbase := h.sit.below.size
 have hA := h.add (.cells (blk nought) 64)
 have href : refV t k = 0 := by unfold refV; rw [hs, if_neg (by simp), if_pos (by omega)]
 have hck : Calls Tryz.prog 50 #[ptr g] (W.alloc (.cells (blk nought) 64)) fun e W' => e = .returned (.int .i64 0) ∧ W'.cell? ⟨g, 3, none⟩ = some (.int .i64 x.b) ∧ W'.cell? ⟨g, 1, none⟩ = some (.pointer (some ⟨d, 0, none⟩)) ∧ Calls Tryz.prog 77 #[ptr g, .int .i64 k] W' (fun e W'' => e = .returned (.bool true) ∧ W'' = W') ∧ Hid (Calls Tryz.prog 28 #[ptr d, .int .i64 k] W' fun e W'' => e = .returned (.tuple #[.agg (blk (curV t k)), .int .i64 0]) ∧ W''.heap[W.heap.size]? = some (.cells (blk nought) 64) ∧ Hid (RdPost w g d x t book ks (curV t k) (.returned (.tuple #[.agg (blk (curV t k)), .int .i64 0])) (W''.setRow W.heap.size (blk (curV t k))))) := by
  refine hA.check.mono ?_
  rintro e W' ⟨rfl, m, rfl⟩
  have hB := hA.later (below_drewN _ m)
  have ho : ofL x k = true := by unfold ofL; exact decide_eq_true hk
  have ho2 := hB.ofLog k
  rw [ho] at ho2
  refine ⟨by rw [hc], hB.log.c3, hB.log.c1, ho2, ?_⟩
  refine (dsit_read hB.sit hr k).mono ?_
  rintro e W2 ⟨rfl, h1⟩
  unfold readV at h1
  rw [if_pos href] at h1
  have h2 := hB.step h1
  refine ⟨by unfold readB; rw [if_pos href, href], h2.sit.blk (List.mem_append.2 (.inr (List.mem_cons_self ..))), rfl, readS t, .inr rfl, s, h2.beside (Fr.setRow W2 W.heap.size _) hbase hksz, ?_⟩
  exact ⟨hI.fine, hI.c.disk rfl fun _ _ => rfl, hI.nd, hI.rng, hI.fast, hI.last, hI.len, hI.steps, hI.commits, hI.room, hI.more⟩
 have hk1 : ¬ k < 0 := by omega
 have hk2 : ¬ x.b ≤ k := by omega
 clear h hA hI hksz hbase
 unfold ptr at *
 generalize curV t k = F at *
 have z25 := zero25
 go_enter Tryz.func36, Tryz.ntmps36
 go_wp2_with (go_at_call 50; fail)
 refine hck.mono ?_
 rintro e W1 ⟨rfl, c3, c1, ofl, HR⟩
 clear hck
 go_wp2_with (first | (go_at_call 77; refine ofl.mono ?_; rintro e W2 ⟨rfl, rfl⟩) | (go_at_call 28; fail))
 refine HR.out.mono ?_
 rintro e W3 ⟨rfl, hg, HP⟩
 clear HR ofl c3 c1
 go_wp2_with (first | refine wpList_store25 rfl (.tmp 4) (.tmp 37) rfl W.heap.size F rfl rfl _ hg ?_)
 exact retBT rfl W.heap.size F rfl (setRow_heap _ _ _ _ _ _ hg) rfl HP.out
set_option maxRecDepth 20000 in
set_option maxHeartbeats 1600000 in
theorem LogI.readArg (h : LogI w W g d x t book ks) (hc : chkE x t = 0) {k : Int} (hk : k < 0 ∨ x.b ≤ k) : Calls Tryz.prog 36 #[ptr g, .int .i64 k] W fun e W' => e = .returned (.tuple #[.agg (blk nought), .int .i64 2]) ∧ LogI w W' g d x t book ks := by
 have H0 := Hid.mk' h
 obtain ⟨s, ⟨c, mb, v, os, h⟩, hI⟩ := h
 have hA := h.add (.cells (blk nought) 64)
 have hck : Calls Tryz.prog 50 #[ptr g] (W.alloc (.cells (blk nought) 64)) fun e W' => e = .returned (.int .i64 0) ∧ W'.cell? ⟨g, 3, none⟩ = some (.int .i64 x.b) ∧ Below W.heap.size W W' ∧ W'.heap[W.heap.size]? = some (.cells (blk nought) 64) := by
  refine hA.check.mono ?_
  rintro e W' ⟨rfl, m, rfl⟩
  have hB := hA.later (below_drewN _ m)
  exact ⟨by rw [hc], hB.log.c3, below_next (below_new _ _) (below_drewN _ m), heap_alloc_new _ _⟩
 clear h hA hI
 unfold ptr at *
 have z25 := zero25
 go_enter Tryz.func36, Tryz.ntmps36
 go_wp2_with (go_at_call 50; fail)
 refine hck.mono ?_
 rintro e W1 ⟨rfl, c3, hb, hg⟩
 have HB := Hid.mk' hb
 clear hck hb
 by_cases h0 : k < 0
 ·go_wp2_with (first | (with_reducible refine isBuild64 ?_; refine wpList_ex8 rfl (exec_zeroB64 rfl) ?_) | refine wpList_store25 rfl (.tmp 4) _ rfl W.heap.size nought rfl rfl _ hg ?_)
  exact retBT rfl W.heap.size nought rfl (setRow_heap _ _ _ _ _ _ hg) rfl ⟨rfl, H0.out.later (below_setRow HB.out (Nat.le_refl _) _)⟩
 ·have h1 : x.b ≤ k := by omega
  go_wp2_with (first | (with_reducible refine isBuild64 ?_; refine wpList_ex8 rfl (exec_zeroB64 rfl) ?_) | refine wpList_store25 rfl (.tmp 4) _ rfl W.heap.size nought rfl rfl _ hg ?_)
  exact retBT rfl W.heap.size nought rfl (setRow_heap _ _ _ _ _ _ hg) rfl ⟨rfl, H0.out.later (below_setRow HB.out (Nat.le_refl _) _)⟩
set_option maxRecDepth 20000 in
set_option maxHeartbeats 1600000 in
theorem LogI.layout (h : LogI w W g d x t book ks) (hc : chkE x t = 0) : Calls Tryz.prog 52 #[.pointer (some ⟨g, 0, none⟩)] W fun e W' => e = .returned (.agg (layA x.b x.l x.i)) ∧ LogI w W' g d x t book ks := by
 have H0 := Hid.mk' h
 obtain ⟨s, ⟨c, mb, v, os, h⟩, hI⟩ := h
 have hA := h.add (.cells (H.lay9 0 0 0 0 0 0 0 0 0) 59)
 have hck : Calls Tryz.prog 50 #[.pointer (some ⟨g, 0, none⟩)] (W.alloc (.cells (H.lay9 0 0 0 0 0 0 0 0 0) 59)) fun e W' => e = .returned (.int .i64 0) ∧ (∀ j v, (layC x.b x.l x.i)[j]? = some v → W'.cell? ⟨g, 3 + j, none⟩ = some v) ∧ Below W.heap.size W W' ∧ W'.heap[W.heap.size]? = some (.cells (H.lay9 0 0 0 0 0 0 0 0 0) 59) := by
  refine hA.check.mono ?_
  rintro e W' ⟨rfl, m, rfl⟩
  have hB := hA.later (below_drewN _ m)
  exact ⟨by rw [hc], hB.log.lay, below_next (below_new _ _) (below_drewN _ m), heap_alloc_new _ _⟩
 clear h hA hI
 go_enter Tryz.func52, Tryz.ntmps52
 go_wp2_with (go_at_call 50; fail)
 refine hck.mono ?_
 rintro e W1 ⟨rfl, hlay, hb, hg⟩
 have HB := Hid.mk' hb
 clear hck hb
 go_wp2_with (first | ((with_reducible refine H.isLoad 59 ?_); refine wpList_ldLay rfl _ rfl g 3 (layC x.b x.l x.i) (layA x.b x.l x.i) rfl rfl rfl hlay ?_) | ((with_reducible refine H.isStore 59 ?_); refine wpList_storeL rfl _ _ rfl W.heap.size (layA x.b x.l x.i) (H.lay9 0 0 0 0 0 0 0 0 0) rfl rfl hg rfl rfl (H.lay_one _ _ _ _ _ _ _ _ _) ?_))
 exact retL rfl W.heap.size _ rfl rfl (setRow_heap _ _ _ _ _ _ hg) rfl ⟨rfl, H0.out.later (below_setRow HB.out (Nat.le_refl _) _)⟩
def lg0 : Array Value := #[.pointer none, .pointer none, .int .i64 0, .int .i64 0, .int .i64 0, .int .i64 0, .int .i64 0, .int .i64 0, .int .i64 0, .int .i64 0, .int .i64 0, .int .i64 0, .pointer none, .slice none 0 0, .map none, .bool false, .int .i64 0, .int .i64 0, .int .i64 0]
theorem size110 : (Tryz.prog.info? 110).map (·.size) = some lg0.size := by kernel_rfl
theorem lg0_one : lg0.all (·.oneCell') = true := by
 unfold lg0
 simp [Value.oneCell']
theorem pclose_no {E : Int} {P : World → Prop} (hE : E ≠ 0) (hS : Calls Tryz.prog 26 #[.pointer (some ⟨g, 0, none⟩)] W fun e W' => e = .returned (.int .i64 E) ∧ P W') : Calls Tryz.prog 48 #[.pointer (some ⟨g, 0, none⟩)] W fun e W' => e = .returned (.int .i64 E) ∧ P W' := by
 have HS := Hid.mk' hS
 have hb : (E == 0) = false := by simpa using hE
 clear hS
 go_enter Tryz.func48, Tryz.ntmps48
 go_wp2_with (first | (go_at_call 26; fail))
 refine HS.out.mono ?_
 rintro e W1 ⟨rfl, h1⟩
 have H1 := Hid.mk' h1
 clear HS h1
 go_wp2
 go_ret
 exact ⟨rfl, H1.out⟩
theorem pclose_ok (hS : Calls Tryz.prog 26 #[.pointer (some ⟨g, 0, none⟩)] W fun e W' => e = .returned (.int .i64 0) ∧ ∃ Z, Sep w W' (lgP w.heap.size g d x t book Z :: l)) : Calls Tryz.prog 48 #[.pointer (some ⟨g, 0, none⟩)] W fun e W' => e = .returned (.int .i64 0) ∧ ∃ L, L.d = d ∧ Sep w W' (dkP L t :: oP g (.cells lg0 110) :: l) := by
 have HS := Hid.mk' hS
 clear hS
 go_enter Tryz.func48, Tryz.ntmps48
 go_wp2_with (first | (go_at_call 26; fail))
 refine HS.out.mono ?_
 rintro e W1 ⟨rfl, Z, h1⟩
 obtain ⟨c, mb, v, L, hd, h2⟩ := h1.logGone
 have hrow : W1.heap[g]? = some (.cells (lgRow g d c mb v x) 110) := h2.say (oP g (.cells (lgRow g d c mb v x) 110)) (by simp)
 have hrow' : (W1.setRow g lg0).heap[g]? = some (.cells lg0 110) := setRow_heap _ _ _ _ _ (0, 0) hrow
 have H3 : Hid (Sep w (W1.setRow g lg0) (dkP L t :: oP g (.cells lg0 110) :: l)) := by
  refine (h2.swap.turn (p' := oP g (.cells lg0 110)) (T := fun k => k = g) (Fr.setRow W1 g _) (fun k _ e => e) (oP_good _ _) hrow' fun k hk => ⟨.inl hk, ?_⟩).swap
  obtain rfl : k = g := hk
  exact (Array.getElem?_eq_some_iff.1 hrow').1
 have hz : (lgRow g d c mb v x).size = lg0.size := rfl
 clear HS h1 h2 hrow'
 generalize lgRow g d c mb v x = R at *
 go_wp2_with (first | (with_reducible refine H.isStore 110 ?_; refine wpList_store_row rfl 110 _ _ rfl g lg0 rfl rfl 110 _ hrow size110 hz lg0_one ?_))
 go_ret
 exact ⟨rfl, L, hd, H3.out⟩
set_option maxRecDepth 20000 in
set_option maxHeartbeats 1600000 in
theorem committed_arg {b l i a c e f g m : Int} (h : Sits w W d t ks) (hI : H.I64 b) (hn0 : t.n ≠ 0) (hs : (H.standsB b l i a c e f g m && decide (b ≤ t.n)) = false) : Calls Tryz.prog 69 #[ptr d, .agg (H.lay9 b l i a c e f g m)] W fun e W' => e = .returned (.tuple #[.slice none 0 0, .int .i64 2]) ∧ Sits w W' d t ks := by
 have hA := h.add (.cells (H.lay9 b l i a c e f g m) 59)
 have hrow := heap_alloc_new W (.cells (H.lay9 b l i a c e f g m) 59)
 have hsz : (H.lay9 b l i a c e f g m).size = 9 := rfl
 have hlen := sits_len2 hA
 have HB0 := Hid.mk' (below_new W (.cells (H.lay9 b l i a c e f g m) 59))
 have H0 := Hid.mk' h
 have HE : Hid (∀ V, Calls Tryz.prog 103 #[.agg (H.lay9 b l i a c e f g m), .agg #[.slice none 0 0]] V fun e' W' => ∃ F, e' = .returned (.tuple #[.agg (blk F), .int .i64 (if H.standsB b l i a c e f g m then 0 else 2)]) ∧ Below V.heap.size V W') := fun V => by
  cases hst : H.standsB b l i a c e f g m
  ·exact (H.enc_not b l i a c e f g m _ V hI hst).mono fun _ _ ⟨h1, h2⟩ => ⟨nought, h1, h2⟩
  ·have hf : H.Fine b l i ∧ _ := of_decide_eq_true hst
   exact (H.enc_ok b l i a c e f g m [] none 0 V hI hst ⟨hf.1.1, hf.1.2.1⟩ (fun q => by simp at q) (fun q hq => by simp at hq) (by simp) (decide_eq_true ⟨by have := hf.1.1; simp; omega, fun q hq => by simp at hq, List.nodup_nil⟩)).mono fun _ _ ⟨h1, h2⟩ => ⟨_, h1, h2⟩
 have HR : Hid (∀ V, Below (W.alloc (.cells (H.lay9 b l i a c e f g m) 59)).heap.size (W.alloc (.cells (H.lay9 b l i a c e f g m) 59)) V → V.cell? ⟨W.heap.size, 0, none⟩ = some (.int .i64 b) ∧ (∀ k, Calls Tryz.prog 102 #[.pointer (some ⟨d, 0, none⟩)] (V.drewN k) fun e W' => e = .returned (.int .i64 t.n) ∧ W' = V.drewN k)) := fun V hb => by
  have h1 := hA.later hb
  have h2 := heap_kept hrow hb
  exact ⟨Joins.cell_of_block h2 0, fun k => sits_len2 (h1.later (below_drewN _ k))⟩
 have z25 := zero25
 clear h hA
 unfold ptr at *
 generalize H.standsB b l i a c e f g m = S at *
 generalize H.lay9 b l i a c e f g m = L at *
 go_enter Tryz.func69, Tryz.ntmps69
 go_wp2_with (first | (go_at_call 102; refine hlen.mono ?_; rintro e W1 ⟨rfl, rfl⟩) | refine wpList_load_row rfl 59 (.tmp 3) rfl W.heap.size rfl 59 L (0, 0) _ hrow Tryz.underlying59 rfl (by rw [hsz]; exact H.size25L) ?_ | (go_at_call 103; fail))
 refine (HE.out _).mono ?_
 rintro e W1 ⟨F, rfl, hb1⟩
 obtain ⟨c0, hlen2⟩ := HR.out _ (below_next hb1 (below_new W1 (.cells (blk F) 64)))
 have HB1 := Hid.mk' (below_next (below_next HB0.out hb1) (below_new W1 (.cells (blk F) 64)))
 clear hb1 hlen HE HR hrow HB0
 cases S
 ·go_wp2_with (first | refine wpList_store25_new rfl (.tmp 6) (.tmp 18) rfl F _ rfl rfl ?_)
  generalize W1.alloc (.cells (blk F) 64) = W2 at *
  go_quiet (fail)
  go_wp2
  go_ret2
  exact ⟨rfl, H0.out.later (below_next HB1.out (below_drewN _ nq))⟩
 ·have hbn : t.n < b := by simpa using hs
  go_wp2_with (first | refine wpList_store25_new rfl (.tmp 6) (.tmp 18) rfl F _ rfl rfl ?_)
  generalize W1.alloc (.cells (blk F) 64) = W2 at *
  go_quiet (first | (go_at_call 102; refine Calls.quiet_of_same (hlen2 _)))
  go_wp2
  go_ret2
  exact ⟨rfl, H0.out.later (below_next HB1.out (below_drewN _ nq))⟩
set_option maxRecDepth 20000 in
set_option maxHeartbeats 1600000 in
theorem committed_dead {b l i : Int} (h : Sits w W d t ks) (hf : H.Fine b l i) (hn : b ≤ t.n) (hs : t.stopped = true) (hr : Room t) : Calls Tryz.prog 69 #[ptr d, .agg (layA b l i)] W fun e W' => e = .returned (.tuple #[.slice none 0 0, .int .i64 3]) ∧ Sits w W' d t ks := by
 have hA := h.add (.cells (layA b l i) 59)
 have hrow := heap_alloc_new W (.cells (layA b l i) 59)
 have hsz : (layA b l i).size = 9 := rfl
 have hlen := sits_len2 hA
 have hpos := H.Fine.pos hf
 have hnn : ¬ t.n = 0 := by omega
 have hbn : ¬ t.n < b := by omega
 have HE : Hid (∀ V, Calls Tryz.prog 103 #[.agg (layA b l i), .agg #[.slice none 0 0]] V fun e W' => e = .returned (.tuple #[.agg (blk (H.headF [])), .int .i64 0]) ∧ Below V.heap.size V W') := fun V =>
  H.enc_ok b l i 1 (1 + l) (H.nodeB i) (H.bitsAt l i) (H.bitsB b) (H.dataAt b l i) [] none 0 V (fine_i64 hf) (lay_fine hf) ⟨hf.1, hf.2.1⟩ (fun q => by simp at q) (fun q hq => by simp at hq) (by simp) (decide_eq_true ⟨by have := hf.1; simp; omega, fun q hq => by simp at hq, List.nodup_nil⟩)
 have href : refV t 1 = 3 := by unfold refV; rw [hs]; rfl
 have HR : Hid (∀ V, Below (W.alloc (.cells (layA b l i) 59)).heap.size (W.alloc (.cells (layA b l i) 59)) V → V.cell? ⟨W.heap.size, 0, none⟩ = some (.int .i64 b) ∧ V.cell? ⟨W.heap.size, 3, none⟩ = some (.int .i64 1) ∧ (∀ k, Calls Tryz.prog 102 #[.pointer (some ⟨d, 0, none⟩)] (V.drewN k) fun e W' => e = .returned (.int .i64 t.n) ∧ W' = V.drewN k) ∧ Hid (∀ k, Calls Tryz.prog 28 #[.pointer (some ⟨d, 0, none⟩), .int .i64 1] (V.drewN k) fun e W' => e = .returned (.tuple #[.agg (blk nought), .int .i64 3]) ∧ Sits w W' d t ((W.heap.size, .cells (layA b l i) 59) :: ks))) := fun V hb => by
  have h1 := hA.later hb
  have h2 := heap_kept hrow hb
  refine ⟨Joins.cell_of_block h2 0, Joins.cell_of_block h2 3, fun k => sits_len2 (h1.later (below_drewN _ k)), fun k => ?_⟩
  have h3 := sits_read (h1.later (below_drewN _ k)) hr 1
  unfold readB readV at h3
  rw [if_neg (by omega), if_neg (by omega), href] at h3
  exact h3
 clear h hA hf hn hs hr href hpos
 unfold ptr at *
 generalize layA b l i = L at *
 have z25 := zero25
 go_enter Tryz.func69, Tryz.ntmps69
 go_wp2_with (first | (go_at_call 102; refine hlen.mono ?_; rintro e W1 ⟨rfl, rfl⟩) | refine wpList_load_row rfl 59 (.tmp 3) rfl W.heap.size rfl 59 L (0, 0) _ hrow Tryz.underlying59 rfl (by rw [hsz]; exact H.size25L) ?_ | (go_at_call 103; fail))
 refine (HE.out _).mono ?_
 rintro e W1 ⟨rfl, hb1⟩
 obtain ⟨c0, c3, hlen2, hrd⟩ := HR.out _ (below_next hb1 (below_new W1 (.cells (blk (H.headF [])) 64)))
 clear hb1 hlen HE HR hrow
 go_wp2_with (first | refine wpList_store25_new rfl (.tmp 6) (.tmp 18) rfl (H.headF []) _ rfl rfl ?_)
 generalize W1.alloc (.cells (blk (H.headF [])) 64) = W2 at *
 go_quiet (first | (go_at_call 102; refine Calls.quiet_of_same (hlen2 _)))
 have hrd2 := hrd.out nq
 clear hlen2 hrd
 go_wp2_with (go_at_call 28; fail)
 refine hrd2.mono ?_
 rintro e W3 ⟨rfl, h3⟩
 have H3 := Hid.mk' ((h3.later (below_new W3 (.cells (blk nought) 64))).drop (ks' := ks) fun q hq => List.mem_cons_of_mem _ hq)
 clear hrd2 h3 c0 c3
 go_wp2_with (first | refine wpList_store25_new rfl (.tmp 8) (.tmp 35) rfl nought _ rfl rfl ?_)
 go_ret2
 exact ⟨rfl, H3.out⟩
set_option maxRecDepth 20000 in
set_option maxHeartbeats 1600000 in
theorem newL_err {P : World → Prop} {L : Array Value} {E : Int} (hL : L.size = 9) (hE : E ≠ 0) (hc : Calls Tryz.prog 69 #[ptr d, .agg L] (W.alloc (.cells L 59)) fun e W' => ∃ p n k, e = .returned (.tuple #[.slice p n k, .int .i64 E]) ∧ P W') : Calls Tryz.prog 17 #[ptr d, .agg L] W fun e W' => e = .returned (.tuple #[.pointer none, .int .i64 E]) ∧ P W' := by
 have hLw := heap_alloc_new W (.cells L 59)
 have hb : (E != 0) = true := by simpa using hE
 unfold ptr at *
 go_enter Tryz.func17, Tryz.ntmps17
 go_wp2_with (first | refine wpList_load_row rfl 59 (.tmp 3) rfl W.heap.size rfl 59 L (0, 0) _ hLw Tryz.underlying59 rfl (by rw [hL]; exact H.size25L) ?_ | (go_at_call 69; fail))
 refine hc.mono ?_
 rintro e W1 ⟨p, n, k, rfl, h1⟩
 have H1 := Hid.mk' h1
 clear h1 hc
 go_wp2
 go_ret2
 exact ⟨rfl, H1.out⟩
set_option maxRecDepth 20000 in
set_option maxHeartbeats 1600000 in
theorem newL_full {P : World → Prop} {L : Array Value} (hL : L.size = 9) (hc : Calls Tryz.prog 69 #[ptr d, .agg L] (W.alloc (.cells L 59)) fun e W' => ∃ p n k, 0 < n ∧ e = .returned (.tuple #[.slice p n k, .int .i64 0]) ∧ P W') : Calls Tryz.prog 17 #[ptr d, .agg L] W fun e W' => e = .returned (.tuple #[.pointer none, .int .i64 4]) ∧ P W' := by
 have hLw := heap_alloc_new W (.cells L 59)
 unfold ptr at *
 go_enter Tryz.func17, Tryz.ntmps17
 go_wp2_with (first | refine wpList_load_row rfl 59 (.tmp 3) rfl W.heap.size rfl 59 L (0, 0) _ hLw Tryz.underlying59 rfl (by rw [hL]; exact H.size25L) ?_ | (go_at_call 69; fail))
 refine hc.mono ?_
 rintro e W1 ⟨p, n, k, hn, rfl, h1⟩
 have H1 := Hid.mk' h1
 clear h1 hc
 go_wp2
 go_ret2
 exact ⟨rfl, H1.out⟩
set_option maxRecDepth 20000 in
set_option maxHeartbeats 1600000 in
theorem recover_err {P : World → Prop} {L : Array Value} {E : Int} (hL : L.size = 9) (hE : E ≠ 0) (hc : Calls Tryz.prog 69 #[ptr d, .agg L] (W.alloc (.cells L 59)) fun e W' => ∃ p n k, e = .returned (.tuple #[.slice p n k, .int .i64 E]) ∧ P W') : Calls Tryz.prog 45 #[ptr d, .agg L] W fun e W' => e = .returned (.tuple #[.int .i64 0, .int .i64 E]) ∧ P W' := by
 have hLw := heap_alloc_new W (.cells L 59)
 have hb : (E != 0) = true := by simpa using hE
 unfold ptr at *
 go_enter Tryz.func45, Tryz.ntmps45
 go_wp2_with (first | refine wpList_load_row rfl 59 (.tmp 3) rfl W.heap.size rfl 59 L (0, 0) _ hLw Tryz.underlying59 rfl (by rw [hL]; exact H.size25L) ?_ | (go_at_call 69; fail))
 refine hc.mono ?_
 rintro e W1 ⟨p, n, k, rfl, h1⟩
 have H1 := Hid.mk' h1
 clear h1 hc
 go_wp2
 go_ret2
 exact ⟨rfl, H1.out⟩
end
structure Mt (x : LSt) (book : Int → Nat → Int) (y : RL) : Prop where
 b : y.b = x.b
 l : y.l = x.l
 i : y.i = x.i
 mine : y.mine = x.claim
 made : y.made = true
 keys : y.grp.map (·.1) = x.blocks
 dat : ∀ c ∈ y.grp, c.2 = book c.1
 step : y.step = x.opn
 room : x.opn = true → x.room = y.room - y.wrote.length
 wrote : x.opn = true → ∀ k, k ∈ y.wrote ↔ byB x k x.steps = true
 old : ∀ k n, x.last k = some n → n < x.steps + (if x.opn then 1 else 0)
 commit : y.commit = x.commits
 over : y.over = x.steps
section
variable {x : LSt} {book : Int → Nat → Int} {y : RL} {t : St} {s : CSt} {u : RSt} {k n : Int} {f : Nat → Int}
theorem Mt.len (h : Mt x book y) : y.grp.length = x.blocks.length := by rw [← h.keys, List.length_map]
theorem byB_iff {m : Int} : byB x k m = true ↔ x.last k = some m := by unfold byB; simp
theorem gLog_is (book : Int → Nat → Int) : ∀ (g : List Cel) (a : Nat) (T : List Int), (∀ c ∈ g, c.2 = book c.1) → T.drop a = g.map (·.1) → gLog (2 + (a : Int)) g = (List.range' a g.length).map fun (j : Nat) => some (2 + (j : Int), book (T.getD j 0))
 | [], _, _, _, _ => rfl
 | c :: g, a, T, hd, hT => by
  have h1 : T[a]? = some c.1 := by
   have := congrArg (·[0]?) hT
   simpa using this
  have h2 : T.drop (a + 1) = g.map (·.1) := by
   rw [← List.tail_drop, hT]; rfl
  have ih := gLog_is book g (a + 1) T (fun c hc => hd c (List.mem_cons_of_mem _ hc)) h2
  rw [List.length_cons, List.range'_succ, List.map_cons, ← ih]
  show some (2 + (a : Int), c.2) :: gLog (2 + (a : Int) + 1) g = _
  rw [hd c (by simp), show (2 + ((a + 1 : Nat) : Int)) = 2 + (a : Int) + 1 by omega]
  simp [List.getD, h1]
theorem Mt.ops (h : Mt x book y) : cmtOps x book = rcOps y := by
 have h1 : lgOps book x.blocks x.blocks.length = gLog 2 y.grp := by
  have := gLog_is book y.grp 0 x.blocks h.dat (by rw [List.drop_zero, h.keys])
  rw [show (2 + ((0 : Nat) : Int)) = 2 by omega] at this
  rw [this, h.len]
  unfold lgOps
  rw [List.range_eq_range']
 have h2 : putOps book x.blocks = y.grp.map some := by
  unfold putOps
  rw [← h.keys, List.map_map]
  exact List.map_congr_left fun c hc => by
   show some (c.1, book c.1) = some c
   rw [← h.dat c hc]
 unfold cmtOps rcOps opsA opsB opsC opsD
 rw [h1, h2, h.keys]
 simp
theorem Mt.begin (h : Mt x book y) (ho : x.opn = false) : Mt { x with opn := true, room := n } book (rBegin y n) :=
 ⟨h.b, h.l, h.i, h.mine, h.made, h.keys, h.dat, rfl, fun _ => by show n = n - ((0 : Nat) : Int); omega, fun _ k => by
  constructor
  ·intro q; cases q
  ·intro q
   have h1 := h.old k x.steps (byB_iff.1 (show byB x k x.steps = true from q))
   rw [ho] at h1
   simp at h1, fun k m q => by
  have h1 := h.old k m q
  rw [ho] at h1
  show m < x.steps + 1
  simp at h1
  omega, h.commit, h.over⟩
theorem Mt.sync (h : Mt x book y) (ho : x.opn = false) : Mt { forgotL x with commits := x.commits + 1 } book { y with grp := [], commit := y.commit + 1 } :=
 ⟨h.b, h.l, h.i, h.mine, h.made, rfl, (fun c hc => by cases hc), h.step, (fun q => by rw [show x.opn = true from q] at ho; cases ho), (fun q => by rw [show x.opn = true from q] at ho; cases ho), (fun k m q => by cases q), by show y.commit + 1 = x.commits + 1; rw [h.commit], h.over⟩
theorem Mt.beginOver (h : Mt x book y) (ho : x.opn = false) : Mt { forgotL x with commits := x.commits + 1, opn := true, room := n } book (rBegin { y with grp := [], commit := y.commit + 1 } n) := (h.sync ho).begin (n := n) ho
theorem Mt.ends (h : Mt x book y) (ho : x.opn = true) : Mt (endX x) book (rEnd y) :=
 ⟨h.b, h.l, h.i, h.mine, h.made, h.keys, h.dat, rfl, (fun q => by cases q), (fun q => by cases q), (fun k m q => by
  have h1 := h.old k m q
  rw [ho] at h1
  show m < x.steps + 1 + 0
  simp at h1
  omega), h.commit, by show y.over + 1 = x.steps + 1; rw [h.over]⟩
theorem gPut_keys (f : Nat → Int) (k : Int) : ∀ (g : List Cel), (gPut g k f).map (·.1) = if k ∈ g.map (·.1) then g.map (·.1) else g.map (·.1) ++ [k]
 | [] => rfl
 | c :: g => by
  have ih := gPut_keys f k g
  unfold gPut
  by_cases h : c.1 = k
  ·rw [if_pos h, if_pos (by simp [h])]
   simp [h]
  ·rw [if_neg h, List.map_cons, ih, List.map_cons]
   have hne : k ≠ c.1 := fun q => h q.symm
   by_cases hm : k ∈ g.map (·.1)
   ·rw [if_pos hm, if_pos (List.mem_cons_of_mem _ hm)]
   ·rw [if_neg hm, if_neg (fun q => (List.mem_cons.1 q).elim hne hm)]
    rfl
theorem gPut_mem {f : Nat → Int} {k : Int} : ∀ {g : List Cel} {c : Cel}, (g.map (·.1)).Nodup → c ∈ gPut g k f → (c.1 = k ∧ c.2 = f) ∨ (c.1 ≠ k ∧ c ∈ g)
 | [], c, _, hc => by
  rcases List.mem_singleton.1 hc with rfl
  exact .inl ⟨rfl, rfl⟩
 | a :: g, c, hn, hc => by
  unfold gPut at hc
  rw [List.map_cons, List.nodup_cons] at hn
  by_cases h : a.1 = k
  ·rw [if_pos h] at hc
   rcases List.mem_cons.1 hc with rfl | hc
   ·exact .inl ⟨rfl, rfl⟩
   ·refine .inr ⟨fun q => hn.1 ?_, List.mem_cons_of_mem _ hc⟩
    rw [h, ← q]
    exact List.mem_map.2 ⟨c, hc, rfl⟩
  ·rw [if_neg h] at hc
   rcases List.mem_cons.1 hc with rfl | hc
   ·exact .inr ⟨h, by simp⟩
   ·rcases gPut_mem hn.2 hc with q | q
    ·exact .inl q
    ·exact .inr ⟨q.1, List.mem_cons_of_mem _ q.2⟩
theorem Mt.put (h : Mt x book y) (hn : x.blocks.Nodup) : ∀ c ∈ gPut y.grp k f, c.2 = (fun j => if j = k then f else book j) c.1 := fun c hc => by
 rcases gPut_mem (by rw [h.keys]; exact hn) hc with ⟨q1, q2⟩ | ⟨q1, q2⟩
 ·show c.2 = if c.1 = k then f else book c.1
  rw [if_pos q1, q2]
 ·show c.2 = if c.1 = k then f else book c.1
  rw [if_neg q1]
  exact h.dat c q2
theorem Mt.first (h : Mt x book y) (ho : x.opn = true) (hn : x.blocks.Nodup) (hl : x.last k = none ↔ k ∉ x.blocks) (hb : byB x k x.steps = false) : Mt { changeL x k x.steps with room := x.room - 1 } (fun j => if j = k then f else book j) (rWr y k f) := by
 have hnw : k ∉ y.wrote := fun q => by rw [(h.wrote ho k).1 q] at hb; cases hb
 refine ⟨h.b, h.l, h.i, h.mine, h.made, ?_, h.put hn, h.step, fun _ => ?_, fun _ j => ?_, fun j m q => ?_, h.commit, h.over⟩
 ·show (gPut y.grp k f).map (·.1) = if x.last k = none then x.blocks ++ [k] else x.blocks
  rw [gPut_keys, h.keys]
  by_cases hk : k ∈ x.blocks
  ·rw [if_pos hk, if_neg (fun q => (hl.1 q) hk)]
  ·rw [if_neg hk, if_pos (hl.2 hk)]
 ·show x.room - 1 = y.room - (((if k ∈ y.wrote then y.wrote else y.wrote ++ [k]).length : Nat) : Int)
  rw [if_neg hnw, List.length_append, List.length_singleton, h.room ho]
  omega
 ·show j ∈ (if k ∈ y.wrote then y.wrote else y.wrote ++ [k]) ↔ byB (changeL x k x.steps) j x.steps = true
  rw [if_neg hnw, List.mem_append, List.mem_singleton, byB_iff]
  show j ∈ y.wrote ∨ j = k ↔ (if j = k then some x.steps else x.last j) = some x.steps
  by_cases hj : j = k
  ·simp [hj]
  ·rw [if_neg hj, h.wrote ho j, byB_iff]
   simp [hj]
 ·have q' : (if j = k then some x.steps else x.last j) = some m := q
  show m < x.steps + (if x.opn then 1 else 0)
  by_cases hj : j = k
  ·rw [if_pos hj] at q'
   injection q' with q'
   rw [ho]
   simp
   omega
  ·rw [if_neg hj] at q'
   exact h.old j m q'
theorem Mt.again (h : Mt x book y) (ho : x.opn = true) (hn : x.blocks.Nodup) (hl : x.last k = none ↔ k ∉ x.blocks) (hb : byB x k x.steps = true) : Mt x (fun j => if j = k then f else book j) (rWr y k f) := by
 have hw : k ∈ y.wrote := (h.wrote ho k).2 hb
 have hk : k ∈ x.blocks := by
  by_cases q : k ∈ x.blocks
  ·exact q
  ·rw [byB_iff, hl.2 q] at hb
   cases hb
 refine ⟨h.b, h.l, h.i, h.mine, h.made, ?_, h.put hn, h.step, fun _ => ?_, fun _ j => ?_, h.old, h.commit, h.over⟩
 ·show (gPut y.grp k f).map (·.1) = x.blocks
  rw [gPut_keys, h.keys, if_pos hk]
 ·show x.room = y.room - (((if k ∈ y.wrote then y.wrote else y.wrote ++ [k]).length : Nat) : Int)
  rw [if_pos hw]
  exact h.room ho
 ·show j ∈ (if k ∈ y.wrote then y.wrote else y.wrote ++ [k]) ↔ _
  rw [if_pos hw]
  exact h.wrote ho j
theorem Mt.new (b l i c : Int) (book : Int → Nat → Int) : Mt (newX b l i c) book (newRL b l i c) :=
 ⟨rfl, rfl, rfl, rfl, rfl, rfl, (fun c hc => by cases hc), rfl, (fun q => by cases q), (fun q => by cases q), (fun k m q => by cases q), rfl, rfl⟩
theorem gAt_some {f : Nat → Int} : ∀ {g : List Cel}, gAt g k = some f → ∃ c ∈ g, c.1 = k ∧ c.2 = f
 | [], h => by cases h
 | c :: g, h => by
  rw [gAt_cons] at h
  by_cases q : c.1 = k
  ·rw [if_pos q] at h
   injection h with h
   exact ⟨c, by simp, q, h⟩
  ·rw [if_neg q] at h
   obtain ⟨c', h1, h2⟩ := gAt_some h
   exact ⟨c', List.mem_cons_of_mem _ h1, h2⟩
theorem gAt_none : ∀ {g : List Cel}, gAt g k = none → k ∉ g.map (·.1)
 | [], _ => by simp
 | c :: g, h => by
  rw [gAt_cons] at h
  by_cases q : c.1 = k
  ·rw [if_pos q] at h; cases h
  ·rw [if_neg q] at h
   intro hm
   rcases List.mem_cons.1 hm with e | e
   ·exact q e.symm
   ·exact gAt_none h e
theorem Mt.atSome {F : Nat → Int} (h : Mt x book y) (hg : gAt y.grp k = some F) : F = book k := by
 obtain ⟨c, h1, rfl, rfl⟩ := gAt_some hg
 exact h.dat c h1
theorem Mt.atNone (h : Mt x book y) (hg : gAt y.grp k = none) : k ∉ x.blocks := by
 have := gAt_none hg
 rw [h.keys] at this
 exact this
theorem Mt.atOut (h : Mt x book y) (hk : k ∉ x.blocks) : gAt y.grp k = none := by
 cases hg : gAt y.grp k with
 | none => rfl
 | some F =>
  obtain ⟨c, h1, rfl, rfl⟩ := gAt_some hg
  exact absurd (by rw [← h.keys]; exact List.mem_map.2 ⟨c, h1, rfl⟩) hk
theorem Mt.can (h : Mt x book y) (hI : Inv x s t book) (hR : ∀ a b, rcOps y = a ++ b → RRoom (rrunV a u)) : RCan y u := by
 have hf : H.Fine y.b y.l y.i := by rw [h.b, h.l, h.i]; exact hI.fine
 refine ⟨hf, ?_, ?_, ?_, hR, by rw [h.commit]; exact hI.commits⟩
 ·have := hI.len
  have := hI.fine.2.1
  rw [h.len]
  omega
 ·rw [h.keys]
  intro k hk
  have h1 := hI.rng k hk
  have h2 := hI.fine.1
  have h3 := hI.fine.2.2.2.2.1
  exact ⟨by omega, by omega⟩
 ·rw [h.keys, h.b, h.l]
  exact decide_eq_true ⟨hI.len, fun k hk => hI.rng k hk, hI.nd⟩
end
def sn (u : RSt) (n : Int) : RSt := { u with seen := n }
theorem rLets_sn (u : RSt) (n : Int) : rLets (sn u n) = sn (rLets u) n := by
 show (if rLetsB u then (if u.fused then _ else _) else _) = sn (if rLetsB u then (if u.fused then _ else _) else _) n
 split
 ·split <;> rfl
 ·rfl
theorem rWriteV_sn (u : RSt) (n k : Int) (f : Nat → Int) : rWriteV (sn u n) k f = sn (rWriteV u k f) n := by
 unfold rWriteV rWriteS
 rw [rLets_sn]
 show (if rRefV u k = 0 then (if rLetsB u then _ else _) else _) = sn (if rRefV u k = 0 then (if rLetsB u then _ else _) else _) n
 split
 ·split <;> rfl
 ·rfl
theorem rBarV_sn (u : RSt) (n : Int) : rBarV (sn u n) = sn (rBarV u) n := by
 unfold rBarV rBarS
 rw [rLets_sn]
 show (if u.dead then _ else (if rLetsB u then _ else _)) = sn (if u.dead then _ else (if rLetsB u then _ else _)) n
 split
 ·rfl
 ·split <;> rfl
theorem rdop_sn (u : RSt) (n : Int) (o : Option Cel) : rdopE (sn u n) o = rdopE u o ∧ rdopV (sn u n) o = sn (rdopV u o) n := by
 cases o with
 | none => exact ⟨rfl, rBarV_sn u n⟩
 | some c => exact ⟨rfl, rWriteV_sn u n c.1 c.2⟩
theorem rrun_sn : ∀ (o : List (Option Cel)) (u : RSt) (n : Int), rrunE o (sn u n) = rrunE o u ∧ rrunV o (sn u n) = sn (rrunV o u) n
 | [], _, _ => ⟨rfl, rfl⟩
 | x :: o, u, n => by
  obtain ⟨h1, h2⟩ := rdop_sn u n x
  unfold rrunE rrunV
  rw [h1, h2]
  split
  ·exact rrun_sn o _ n
  ·exact ⟨rfl, rfl⟩
theorem rrun_seen (o : List (Option Cel)) (u : RSt) : (rrunV o u).seen = u.seen := by
 have h := (rrun_sn o u u.seen).2
 rw [show sn u u.seen = u from rfl] at h
 rw [h]
 rfl
def SimX (u : RSt) (t : St) : Prop := Sim (sn u t.reads) t
section
variable {u : RSt} {t t' : St} {k : Int} {f : Nat → Int} {m : Nat}
theorem SimX.of (h : Sim u t) : SimX u t := by
 unfold SimX
 rw [← h.seen]
 exact h
theorem SimX.ref (h : SimX u t) (k : Int) : rRefV u k = refV t k := Sim.ref (t := sn u t.reads) h k
theorem SimX.cur (h : SimX u t) (k : Int) : rCur u k = curV t k := Sim.cur (t := sn u t.reads) h k
theorem SimX.isClaimed (h : SimX u t) (n : Int) : rClaimed u n = claimedV t n := Sim.isClaimed (t := sn u t.reads) h n
theorem SimX.n (h : SimX u t) : u.n = t.n := Sim.n (t := sn u t.reads) h
theorem SimX.dead (h : SimX u t) : u.dead = t.stopped := Sim.dead (t := sn u t.reads) h
theorem SimX.count (h : SimX u t) : u.count = t.made := Sim.count (t := sn u t.reads) h
theorem SimX.ops (h : SimX u t) : u.ops = t.ops := Sim.ops (t := sn u t.reads) h
theorem SimX.wait (h : SimX u t) : u.wait = t.wait := Sim.wait (t := sn u t.reads) h
theorem SimX.image (h : SimX u t) : IsImage t u.held := Sim.image (t := sn u t.reads) h
theorem SimX.seen (h : SimX u t) (n : Int) : SimX (sn u n) t := h
theorem SimX.reads (h : SimX u t) : SimX u (readS t) := Sim.read (t := sn u t.reads) h
theorem SimX.run (h : SimX u t) (hk : Ok t) (o : List (Option Cel)) (hc : ∀ c, some c ∈ o → Can c.2) : rrunE o u = runE o t ∧ SimX (rrunV o u) (runV o t) ∧ Ok (runV o t) := by
 obtain ⟨h1, h2, h3⟩ := Sim.run o h hk hc
 obtain ⟨e1, e2⟩ := rrun_sn o u t.reads
 rw [e1] at h1
 rw [e2] at h2
 refine ⟨h1, ?_, h3⟩
 unfold SimX
 rw [(run_nums o t).2.1]
 exact h2
theorem SimX.fuse (h : SimX u t) (n : Int) (hn : n ≤ 9223372036854775807) : SimX (rFuse u n) (fuseV t n) := by
 have h1 := Sim.fuse_ (t := sn u t.reads) h n hn
 have e1 : rFuse (sn u t.reads) n = sn (rFuse u n) t.reads := by
  unfold rFuse
  show (if u.dead then _ else _) = sn (if u.dead then _ else _) _
  split <;> rfl
 have e2 : (fuseV t n).reads = t.reads := by
  unfold fuseV
  split <;> rfl
 unfold SimX
 rw [e2, ← e1]
 exact h1
theorem SimX.claim (h : SimX u t) (hc : 0 ≤ t.claims) : SimX (rClaim u) (claimV t) ∧ rClaimN u = claimN t := by
 obtain ⟨h1, h2⟩ := Sim.claim (t := sn u t.reads) h hc
 have e1 : rClaim (sn u t.reads) = sn (rClaim u) t.reads := by
  unfold rClaim
  show (if u.dead then _ else _) = sn (if u.dead then _ else _) _
  split <;> rfl
 have e2 : (claimV t).reads = t.reads := by
  unfold claimV
  split <;> rfl
 refine ⟨?_, h2⟩
 unfold SimX
 rw [e2, ← e1]
 exact h1
theorem SimX.crash (h : SimX u t) (hk : Ok t) (kl : List Bool) : SimX (rCrashS u kl) (crashS t kl) := by
 have h1 := Sim.crash (t := sn u t.reads) h hk kl
 have e : (crashS t kl).reads = t.reads := h1.seen.symm
 unfold SimX
 rw [e]
 exact h1
structure Cap (t : St) (m : Nat) : Prop where
 ops : t.ops.length ≤ m
 made : t.made ≤ m
 reads : t.reads ≤ m
 claims : t.claims ≤ m
theorem Cap.rm {n : Nat} (h : Cap t m) (hm : m + n ≤ 7000000) : Rm t n := by
 have h1 := h.ops
 have h2 := h.made
 have h3 := h.reads
 have h4 := h.claims
 exact ⟨by omega, by omega, by omega, by omega⟩
theorem Cap.room (h : Cap t m) (hm : m ≤ 6000000) : Room t := Rm.room (n := 0) (h.rm (by omega))
theorem Cap.mono {m' : Nat} (h : Cap t m) (hm : m ≤ m') : Cap t m' := ⟨by have := h.ops; omega, by have := h.made; omega, by have := h.reads; omega, by have := h.claims; omega⟩
theorem Cap.wait (h : Cap t m) : t.wait.length ≤ m := by
 have := h.ops
 unfold St.ops at this
 rw [List.length_append, List.length_map] at this
 omega
theorem Cap.run (h : Cap t m) (o : List (Option Cel)) : Cap (runV o t) (m + o.length) := by
 obtain ⟨b1, b2, b3, _, _, b6⟩ := run_nums o t
 exact ⟨by have := h.ops; omega, by have := h.made; omega, by have := h.reads; omega, by have := h.claims; omega⟩
theorem Cap.readS (h : Cap t m) : Cap (readS t) (m + 1) := ⟨by have := h.ops; show t.ops.length ≤ _; omega, by have := h.made; show t.made ≤ _; omega, by have := h.reads; show t.reads + 1 ≤ _; omega, by have := h.claims; show t.claims ≤ _; omega⟩
theorem rise_len {n : Int} : ∀ (l : List Cel) (m : Int), Rise m l → (∀ c ∈ l, c.1 < n) → m < n → (l.length : Int) ≤ n - m - 1
 | [], m, _, _, h => by simp; omega
 | (i, x) :: t, m, hr, ht, h => by
  have h1 := hr.1
  have h2 := ht (i, x) (by simp)
  have ih := rise_len t i hr.2 (fun c hc => ht c (by simp [hc])) h2
  simp only [List.length_cons] at *
  omega
theorem SimX.room (h : SimX u t) (hk : Ok t) (hc : Cap t m) (hm : m ≤ 7000000) (hs : 0 ≤ u.seen ∧ u.seen ≤ 7000000) : RRoom u := by
 have h1 := hk.made
 have h3 := hk.claims
 have h4 := hc.made
 have h6 := hc.claims
 have h7 := hc.ops
 have h8 := hc.wait
 have q1 := h.count
 have q2 : u.claims = t.claims := Sim.claims (t := sn u t.reads) h
 refine ⟨⟨hs.1, by omega⟩, by omega, by omega, Sim.left (t := sn u t.reads) h, by rw [h.wait]; omega, by rw [h.ops]; omega, ?_⟩
 have h9 := rise_len u.held (-1) h.image.rise h.image.top (by have := hk.n.1; omega)
 have := hk.n.2
 omega
theorem SimX.rooms (h : SimX u t) (hk : Ok t) (hc : Cap t m) (o : List (Option Cel)) (hm : m + o.length ≤ 7000000) (hs : 0 ≤ u.seen ∧ u.seen ≤ 7000000) (hcan : ∀ c, some c ∈ o → Can c.2) : ∀ a b, o = a ++ b → RRoom (rrunV a u) := fun a b e => by
 obtain ⟨_, h2, h3⟩ := h.run hk a fun c hc => hcan c (by rw [e]; exact List.mem_append.2 (.inl hc))
 refine h2.room h3 (hc.run a) ?_ (by rw [rrun_seen]; exact hs)
 rw [e, List.length_append] at hm
 omega
theorem letV_stops (h : lets t = false) : (letV t).stopped = true := by
 unfold letV
 unfold lets at h
 split
 ·rfl
 ·rename_i q
  simp_all
theorem run_three : ∀ (o : List (Option Cel)) (t : St), (∀ c, some c ∈ o → 0 ≤ c.1 ∧ c.1 < t.n) → runE o t = 0 ∨ (runE o t = 3 ∧ (runV o t).stopped = true)
 | [], _, _ => .inl rfl
 | x :: o, t, hc => by
  have hn : (dopV t x).n = t.n := (dop_nums t x).2.2.2.2.1
  have h0 : dopE t x = 0 ∨ (dopE t x = 3 ∧ (dopV t x).stopped = true) := by
   cases x with
   | none =>
    show barE t = 0 ∨ (barE t = 3 ∧ (barV t).stopped = true)
    unfold barE barV
    by_cases hs : t.stopped = true
    ·rw [if_pos hs, if_pos hs]
     exact .inr ⟨rfl, hs⟩
    ·rw [if_neg hs, if_neg hs]
     by_cases hl : lets t = true
     ·rw [if_pos hl]
      exact .inl rfl
     ·rw [if_neg hl, if_neg hl]
      refine .inr ⟨rfl, ?_⟩
      exact letV_stops (by simpa using hl)
   | some c =>
    have hb := hc c (by simp)
    show writeE t c.1 = 0 ∨ (writeE t c.1 = 3 ∧ (writeV t c.1 c.2).stopped = true)
    unfold writeE writeV
    by_cases hs : t.stopped = true
    ·have hr : refV t c.1 = 3 := by unfold refV; rw [hs]; rfl
     rw [hr, if_neg (by omega), if_neg (by omega)]
     exact .inr ⟨rfl, hs⟩
    ·have hr : refV t c.1 = 0 := by unfold refV; rw [if_neg hs, if_pos hb]
     rw [hr, if_pos rfl, if_pos rfl]
     by_cases hl : lets t = true
     ·rw [if_pos hl]
      exact .inl rfl
     ·rw [if_neg hl, if_neg hl]
      refine .inr ⟨rfl, ?_⟩
      exact letV_stops (by simpa using hl)
  unfold runE runV
  rcases h0 with h0 | ⟨h0, h1⟩
  ·rw [if_pos h0, if_pos h0]
   exact run_three o _ fun c hm => by rw [hn]; exact hc c (List.mem_cons_of_mem _ hm)
  ·rw [if_neg (by omega), if_neg (by omega)]
   exact .inr ⟨h0, h1⟩
end
structure KgAt (W : World) (base g d : Nat) (x : LSt) (s : CSt) (Z : ZLoc) : Prop where
 cache : CacheAt W Z.K s
 log : LogAt W base g d Z.K.c Z.mb Z.v x
 ap : ∀ k, LHas g Z.mb Z.v k → ¬ Z.K.has k
 d : Z.K.d = d
def kgP (base g d : Nat) (x : LSt) (s : CSt) (Z : ZLoc) : Part := ⟨fun k => Z.K.has k ∨ LHas g Z.mb Z.v k, fun W => KgAt W base g d x s Z⟩
theorem kgP_good (base g d : Nat) (x : LSt) (s : CSt) (Z : ZLoc) : (kgP base g d x s Z).Good := fun _ _ h _ hb =>
 ⟨h.cache.kept fun k hk => hb k (.inl hk), h.log.kept fun k hk => hb k (.inr hk), h.ap, h.d⟩
section
variable {w W W' : World} {g d : Nat} {x x' : LSt} {s : CSt} {t t' : St} {book book' : Int → Nat → Int} {Z : ZLoc} {L : Loc} {l : List Part} {ks : List (Nat × Obj)}
theorem Sep.split (h : Sep w W (lgP w.heap.size g d x t book Z :: l)) : ∃ s, Inv x s t book ∧ Z.L.d = d ∧ Sep w W (dkP Z.L t :: kgP w.heap.size g d x s Z :: l) := by
 have hz : ZAt W w.heap.size g d x t book Z := h.head
 obtain ⟨s, hc, hI⟩ := hz.st
 refine ⟨s, hI, hz.dd, fun q hq => ?_, fun q hq => ?_, fun q hq => ?_, ?_, h.below⟩
 ·rcases List.mem_cons.1 hq with rfl | hq
  ·exact dkP_good _ _
  ·rcases List.mem_cons.1 hq with rfl | hq
   ·exact kgP_good _ _ _ _ _ _
   ·exact h.good q (List.mem_cons_of_mem _ hq)
 ·rcases List.mem_cons.1 hq with rfl | hq
  ·exact hc.disk
  ·rcases List.mem_cons.1 hq with rfl | hq
   ·exact ⟨hc.cache, hz.log, fun k hk => (hz.ap k hk).1, hc.d.trans hz.dd⟩
   ·exact h.say q (List.mem_cons_of_mem _ hq)
 ·rcases List.mem_cons.1 hq with rfl | hq
  ·exact fun k q => h.headLt (p := lgP w.heap.size g d x t book Z) (.inr (.inl q))
  ·rcases List.mem_cons.1 hq with rfl | hq
   ·exact fun k q => h.headLt (p := lgP w.heap.size g d x t book Z) (q.elim .inl fun q => .inr (.inr q))
   ·exact h.lt q (List.mem_cons_of_mem _ hq)
 ·refine List.pairwise_cons.2 ⟨fun q hq k h1 h2 => ?_, List.pairwise_cons.2 ⟨fun q hq k h1 h2 => ?_, h.drop.apart⟩⟩
  ·rcases List.mem_cons.1 hq with rfl | hq
   ·rcases h2 with h2 | h2
    ·exact hc.apart k h2 h1
    ·exact (hz.ap k h2).2 h1
   ·exact h.apartOf hq h2 (.inr (.inl h1))
  ·exact h.apartOf hq h2 (h1.elim .inl fun q => .inr (.inr q))
theorem Sep.join (h : Sep w W (dkP L t :: kgP w.heap.size g d x s Z :: l)) (hd : L.d = d) (hI : Inv x s t book) : ∃ Z', Sep w W (lgP w.heap.size g d x t book Z' :: l) := by
 have hk : KgAt W w.heap.size g d x s Z := h.drop.head
 have hD : DiskAt W L t := h.head
 have hap : ∀ k, Z.K.has k ∨ LHas g Z.mb Z.v k → ¬ L.has k := fun k q1 q2 => h.apartOf (q := kgP w.heap.size g d x s Z) (by simp) q1 q2
 refine ⟨⟨Z.K, L, Z.mb, Z.v⟩, fun q hq => ?_, fun q hq => ?_, fun q hq => ?_, List.pairwise_cons.2 ⟨fun q hq k h1 h2 => ?_, h.drop.drop.apart⟩, h.below⟩
 ·rcases List.mem_cons.1 hq with rfl | hq
  ·exact lgP_good _ _ _ _ _ _ _
  ·exact h.drop.drop.good q hq
 ·rcases List.mem_cons.1 hq with rfl | hq
  ·exact ⟨hd, ⟨s, ⟨hk.cache, hD, hk.d.trans hd.symm, fun k q => hap k (.inl q)⟩, hI⟩, hk.log, fun k q => ⟨hk.ap k q, hap k (.inr q)⟩⟩
  ·exact h.drop.drop.say q hq
 ·rcases List.mem_cons.1 hq with rfl | hq
  ·intro k q
   rcases q with q | q | q
   ·exact h.drop.headLt (p := kgP w.heap.size g d x s Z) (.inl q)
   ·exact h.headLt (p := dkP L t) q
   ·exact h.drop.headLt (p := kgP w.heap.size g d x s Z) (.inr q)
  ·exact h.drop.drop.lt q hq
 ·rcases h1 with h1 | h1 | h1
  ·exact h.drop.apartOf hq h2 (.inl h1)
  ·exact h.apartOf (List.mem_cons_of_mem _ hq) h2 h1
  ·exact h.drop.apartOf hq h2 (.inr h1)
theorem Inv.disk (h : Inv x s t book) (hn : t'.n = t.n) (hc : ∀ k, curV t' k = curV t k) : Inv x s t' book :=
 ⟨h.fine, h.c.disk hn fun k _ => hc k, h.nd, h.rng, h.fast, h.last, h.len, h.steps, h.commits, h.room, h.more⟩
theorem Sep.callLive {f : FuncId} {av : Array Value} {Q : Ending → Prop} (h : Sep w W (lgP w.heap.size g d x t book Z :: l)) (hn : t'.n = t.n) (hv : ∀ k, curV t' k = curV t k) (hc : ∀ ks, Sits w W d t ks → Calls Tryz.prog f av W fun e W' => Q e ∧ Sits w W' d t' ks) : Calls Tryz.prog f av W fun e W' => Q e ∧ ∃ Z', Sep w W' (lgP w.heap.size g d x t' book Z' :: l) := by
 obtain ⟨s, hI, hd, h2⟩ := h.split
 refine (h2.callDisk (t' := t') (Q := Q) fun ks hs => by rw [hd] at hs ⊢; exact hc ks hs).mono ?_
 rintro e W' ⟨hq, L', hd', h3⟩
 exact ⟨hq, h3.join (hd'.trans hd) (hI.disk hn hv)⟩
theorem Sep.ok (h : Sep w W (dkP L t :: l)) : Ok t := DiskAt.ok (show DiskAt W L t from h.head)
end
def Lost (t : St) (n : Int) : Prop := n ≤ t.claims ∧ (n < t.claims ∨ t.claimed = false ∨ t.stopped = true)
section
variable {t t' : St} {n k : Int} {f : Nat → Int} {o : List (Option Cel)}
theorem Lost.not (h : Lost t n) : claimedV t n = false := by
 unfold claimedV
 rcases h.2 with h1 | h1 | h1
 ·have : (n == t.claims) = false := by simp; omega
  rw [this]; simp
 ·rw [h1]; simp
 ·rw [h1]; simp
theorem Lost.to (h : Lost t n) (hc : t.claims ≤ t'.claims) (hd : t'.claims = t.claims → (t.claimed = false → t'.claimed = false) ∧ (t.stopped = true → t'.stopped = true ∨ t'.claimed = false)) : Lost t' n := by
 refine ⟨by have := h.1; omega, ?_⟩
 by_cases hq : t'.claims = t.claims
 ·obtain ⟨a, b⟩ := hd hq
  rcases h.2 with h1 | h1 | h1
  ·exact .inl (by omega)
  ·exact .inr (.inl (a h1))
  ·rcases b h1 with b | b
   ·exact .inr (.inr b)
   ·exact .inr (.inl b)
 ·exact .inl (by have := h.1; omega)
theorem dop_stopped (hs : t.stopped = true) (o : Option Cel) : dopV t o = t ∧ dopE t o = 3 := by
 cases o with
 | none =>
  show barV t = t ∧ barE t = 3
  unfold barV barE
  rw [if_pos hs, if_pos hs]
  exact ⟨rfl, rfl⟩
 | some c =>
  have hr : refV t c.1 = 3 := by unfold refV; rw [if_pos hs]
  show writeV t c.1 c.2 = t ∧ writeE t c.1 = 3
  unfold writeV writeE
  rw [hr, if_neg (by omega), if_neg (by omega)]
  exact ⟨rfl, rfl⟩
theorem run_stopped (hs : t.stopped = true) : ∀ (o : List (Option Cel)), runV o t = t
 | [] => rfl
 | x :: o => by
  obtain ⟨h1, h2⟩ := dop_stopped hs x
  unfold runV
  rw [h2, if_neg (by omega), h1]
theorem run_ok : ∀ {o : List (Option Cel)} {t : St}, Ok t → (∀ c, some c ∈ o → Can c.2) → Ok (runV o t)
 | [], _, h, _ => h
 | a :: o, t, h, hc => by
  have h1 : Ok (dopV t a) := by
   cases a with
   | none => exact barV_ok h
   | some c => exact writeV_ok h (hc c (by simp))
  unfold runV
  split
  ·exact run_ok h1 fun c hm => hc c (List.mem_cons_of_mem _ hm)
  ·exact h1
theorem Lost.run (h : Lost t n) (o : List (Option Cel)) : Lost (runV o t) n := by
 obtain ⟨_, _, h3, h4, _⟩ := run_nums o t
 exact h.to (by omega) fun _ => ⟨fun q => by rw [h4]; exact q, fun q => .inl (by rw [run_stopped q]; exact q)⟩
theorem mo_stopped (hs : t.stopped = true) (c : Int × Int) : moV t c = t ∧ moE t c = 3 := by
 have hr : refV t c.1 = 3 := by unfold refV; rw [if_pos hs]
 unfold moV moE
 rw [hr, if_neg (by omega), if_neg (by omega)]
 exact ⟨rfl, rfl⟩
theorem mv_stopped (hs : t.stopped = true) : ∀ (o : List (Int × Int)), mV o t = t
 | [] => rfl
 | x :: o => by
  obtain ⟨h1, h2⟩ := mo_stopped hs x
  unfold mV
  rw [h2, if_neg (by omega), h1]
theorem Lost.moves (h : Lost t n) (o : List (Int × Int)) : Lost (mV o t) n := by
 obtain ⟨_, _, h3, h4, _⟩ := mv_nums o t
 exact h.to (by omega) fun _ => ⟨fun q => by rw [h4]; exact q, fun q => .inl (by rw [mv_stopped q]; exact q)⟩
theorem Lost.recover (h : Lost t n) (T : List Int) : Lost (rcV T t) n := by
 unfold rcV
 split
 ·exact (h.moves _).run _
 ·exact h.moves _
theorem Lost.reads (h : Lost t n) : Lost (readS t) n := h
theorem Lost.fuse (h : Lost t n) (k : Int) : Lost (fuseV t k) n := by
 unfold fuseV
 split
 ·exact h
 ·exact h
theorem Lost.claim (h : Lost t n) : Lost (claimV t) n := by
 unfold claimV
 split
 ·exact h
 ·exact h.to (by show t.claims ≤ t.claims + 1; omega) fun q => by
   have q' : t.claims + 1 = t.claims := q
   omega
theorem Lost.crash (h : Lost t n) (kl : List Bool) : Lost (crashS t kl) n := by
 obtain ⟨hh, he⟩ := holdAll_same (keptL t.wait kl) t
 have hc : (crashS t kl).claims = t.claims := by unfold crashS; rw [he]
 exact h.to (by omega) fun _ => ⟨fun _ => rfl, fun _ => .inr rfl⟩
theorem lost_stop (h : n ≤ t.claims) (hs : t.stopped = true) : Lost t n := ⟨h, .inr (.inr hs)⟩
theorem lost_crash (h : n ≤ t.claims) (kl : List Bool) : Lost (crashS t kl) n := by
 obtain ⟨hh, he⟩ := holdAll_same (keptL t.wait kl) t
 have hc : (crashS t kl).claims = t.claims := by unfold crashS; rw [he]
 exact ⟨by omega, .inr (.inl rfl)⟩
theorem lost_claim (h : n ≤ t.claims) (hs : t.stopped = false) : Lost (claimV t) n := by
 unfold claimV
 rw [hs, if_neg (by simp)]
 exact ⟨by show n ≤ t.claims + 1; omega, .inl (by show n < t.claims + 1; omega)⟩
theorem live_le (h : claimedV t n = true) : n = t.claims ∧ t.stopped = false ∧ t.claimed = true := by
 unfold claimedV at h
 simp at h
 exact ⟨h.2, h.1.1, h.1.2⟩
theorem live_same (h : claimedV t n = true) (h1 : t'.claims = t.claims) (h2 : t'.claimed = t.claimed) (h3 : t'.stopped = false) : claimedV t' n = true := by
 obtain ⟨a, b, c⟩ := live_le h
 unfold claimedV
 rw [h1, h2, h3, c, a]
 simp
end
def Kl (l : List Part) (W : World) : Prop := ∀ g o, oP g o ∈ l → W.heap[g]? = some o
def Two (l : List Part) (I : World → Prop) (fp fd : FuncId) (ap ad : Array Value) (v : Value) (Q : World → Prop) : Prop :=
 ∃ M : World → Prop, (∀ W W', M W → Below W.heap.size W W' → M W') ∧ (∀ W, M W → Kl l W) ∧ (∀ W, I W → Calls Tryz.prog fp ap W fun e W' => e = .returned v ∧ M W') ∧ (∀ W, M W → Calls Tryz.prog fd ad W fun e W' => e = .returned v ∧ Q W')
theorem Two.mono {I Q Q' : World → Prop} {fp fd : FuncId} {ap ad : Array Value} {v : Value} {l : List Part} (h : Two l I fp fd ap ad v Q) (hq : ∀ W, Q W → Q' W) : Two l I fp fd ap ad v Q' := by
 obtain ⟨M, h1, h0, h2, h3⟩ := h
 exact ⟨M, h1, h0, h2, fun W hW => (h3 W hW).mono fun _ _ ⟨a, b⟩ => ⟨a, hq _ b⟩⟩
structure Lv (w W : World) (g q d r : Nat) (x : LSt) (t : St) (book : Int → Nat → Int) (y : RL) (u : RSt) (l : List Part) : Prop where
 out : ∃ (Z : ZLoc) (Y : YLoc) (R : RLoc), Y.q = q ∧ R.g = r ∧ Sep w W (lgP w.heap.size g d x t book Z :: rlP r Y y :: rdP R u :: l)
structure Dd (w W : World) (g q d r : Nat) (row : Array Value) (t : St) (y : RL) (u : RSt) (l : List Part) : Prop where
 out : ∃ (L : Loc) (Y : YLoc) (R : RLoc), L.d = d ∧ Y.q = q ∧ R.g = r ∧ Sep w W (dkP L t :: oP g (.cells row 110) :: rlP r Y y :: rdP R u :: l)
section
variable {w W W' : World} {g q d r : Nat} {x x' : LSt} {s : CSt} {t t' : St} {book book' : Int → Nat → Int} {y y' : RL} {u u' : RSt} {l : List Part} {row : Array Value}
theorem Lv.later (h : Lv w W g q d r x t book y u l) (hb : Below W.heap.size W W') : Lv w W' g q d r x t book y u l := by
 obtain ⟨Z, Y, R, hY, hR, hS⟩ := h.out
 exact ⟨Z, Y, R, hY, hR, hS.later hb⟩
theorem Dd.later (h : Dd w W g q d r row t y u l) (hb : Below W.heap.size W W') : Dd w W' g q d r row t y u l := by
 obtain ⟨L, Y, R, hL, hY, hR, hS⟩ := h.out
 exact ⟨L, Y, R, hL, hY, hR, hS.later hb⟩
theorem Lv.inv (h : Lv w W g q d r x t book y u l) : ∃ s, Inv x s t book ∧ Ok t := by
 obtain ⟨Z, Y, R, hY, hR, hS⟩ := h.out
 obtain ⟨s, hI, _, h2⟩ := hS.split
 exact ⟨s, hI, h2.ok⟩
theorem Lv.prog {f : FuncId} {av : Array Value} {Q : Ending → Prop} (h : Lv w W g q d r x t book y u l) (hc : ∀ ks, LogI w W g d x t book ks → Calls Tryz.prog f av W fun e W' => Q e ∧ LogI w W' g d x' t' book' ks) : Calls Tryz.prog f av W fun e W' => Q e ∧ Lv w W' g q d r x' t' book' y u l := by
 obtain ⟨Z, Y, R, hY, hR, hS⟩ := h.out
 exact (hS.callLog hc).mono fun e W' ⟨hq, Z', hS'⟩ => ⟨hq, ⟨Z', Y, R, hY, hR, hS'⟩⟩
theorem Lv.doc {f : FuncId} {av : Array Value} {Q : Ending → Prop} (h : Lv w W g q d r x t book y u l) (hc : ∀ l', DL w W q r y u l' → Calls Tryz.prog f av W fun e W' => Q e ∧ DL w W' q r y' u' l') : Calls Tryz.prog f av W fun e W' => Q e ∧ Lv w W' g q d r x t book y' u' l := by
 obtain ⟨Z, Y, R, hY, hR, hS⟩ := h.out
 refine (hc (lgP w.heap.size g d x t book Z :: l) ⟨Y, R, hY, hR, hS.back⟩).mono ?_
 rintro e W' ⟨hq, hD⟩
 obtain ⟨Y', R', hY', hR', hS'⟩ := hD.out
 exact ⟨hq, Z, Y', R', hY', hR', hS'.third⟩
theorem Sep.four {p q r s : Part} (h : Sep w W (p :: q :: r :: s :: l)) : Sep w W (r :: s :: p :: q :: l) := by
 refine h.perm ?_
 have h1 : [p, q, r, s].Perm [r, s, p, q] := List.perm_append_comm (l₁ := [p, q]) (l₂ := [r, s])
 exact h1.append_right l
theorem Dd.doc {f : FuncId} {av : Array Value} {Q : Ending → Prop} (h : Dd w W g q d r row t y u l) (hc : ∀ l', DL w W q r y u l' → Calls Tryz.prog f av W fun e W' => Q e ∧ DL w W' q r y' u' l') : Calls Tryz.prog f av W fun e W' => Q e ∧ Dd w W' g q d r row t y' u' l := by
 obtain ⟨L, Y, R, hL, hY, hR, hS⟩ := h.out
 refine (hc (dkP L t :: oP g (.cells row 110) :: l) ⟨Y, R, hY, hR, hS.four⟩).mono ?_
 rintro e W' ⟨hq, hD⟩
 obtain ⟨Y', R', hY', hR', hS'⟩ := hD.out
 exact ⟨hq, L, Y', R', hL, hY', hR', hS'.four⟩
theorem Lv.gone (h : Lv w W g q d r x t book y u l) : ∃ c mb v, Dd w W g q d r (lgRow g d c mb v x) t y u l := by
 obtain ⟨Z, Y, R, hY, hR, hS⟩ := h.out
 obtain ⟨c, mb, v, L, hL, h2⟩ := hS.logGone
 exact ⟨c, mb, v, L, Y, R, hL, hY, hR, h2⟩
theorem LogI.gLe {ks : List (Nat × Obj)} (h : LogI w W g d x t book ks) : w.heap.size ≤ g ∧ ∀ p ∈ ks, p.1 ≠ g := by
 obtain ⟨s, ⟨c, mb, v, os, h⟩, hI⟩ := h
 exact ⟨(h.own g (.inl rfl)).1, fun p hp e => h.ap p hp (.inl e)⟩
theorem Lv.fail {f : FuncId} {av : Array Value} {Q : Ending → Prop} (h : Lv w W g q d r x t book y u l) (hc : ∀ ks, LogI w W g d x t book ks → Calls Tryz.prog f av W fun e W' => Q e ∧ ∃ x' s', LogSit w W' g d x' s' t' ks ∧ x'.claim = x.claim) : Calls Tryz.prog f av W fun e W' => Q e ∧ ∃ c mb v x', x'.claim = x.claim ∧ Dd w W' g q d r (lgRow g d c mb v x') t' y u l := by
 obtain ⟨Z, Y, R, hY, hR, hS⟩ := h.out
 obtain ⟨ks, hk, hl⟩ := hS.toLog
 obtain ⟨hg, hn⟩ := hl.gLe
 refine (hc ks hl).mono ?_
 rintro e W' ⟨hq, x', s', hL, hcl⟩
 obtain ⟨c, mb, v, hs⟩ := hL.toSits
 obtain ⟨L, hd, h2⟩ := hk.ofSits2 hs hg hn
 exact ⟨hq, c, mb, v, x', hcl, L, Y, R, hd, hY, hR, h2⟩
theorem Lv.kl (h : Lv w W g q d r x t book y u l) : Kl l W := fun g o hm => by
 obtain ⟨Z, Y, R, hY, hR, hS⟩ := h.out
 exact hS.say (oP g o) (by simp [hm])
theorem Dd.kl (h : Dd w W g q d r row t y u l) : Kl l W := fun g o hm => by
 obtain ⟨L, Y, R, hL, hY, hR, hS⟩ := h.out
 exact hS.say (oP g o) (by simp [hm])
theorem two_live {fp fd : FuncId} {ap ad : Array Value} {v : Value} (hp : ∀ W ks, LogI w W g d x t book ks → Calls Tryz.prog fp ap W fun e W' => e = .returned v ∧ LogI w W' g d x' t' book' ks) (hd : ∀ W l', DL w W q r y u l' → Calls Tryz.prog fd ad W fun e W' => e = .returned v ∧ DL w W' q r y' u' l') : Two l (fun W => Lv w W g q d r x t book y u l) fp fd ap ad v (fun W => Lv w W g q d r x' t' book' y' u' l) :=
 ⟨fun W => Lv w W g q d r x' t' book' y u l, fun _ _ h hb => h.later hb, fun _ h => h.kl, fun W h => h.prog fun ks hk => hp W ks hk, fun W h => h.doc fun l' hk => hd W l' hk⟩
theorem two_dead {fp fd : FuncId} {ap ad : Array Value} {v : Value} (hp : ∀ W ks, LogI w W g d x t book ks → Calls Tryz.prog fp ap W fun e W' => e = .returned v ∧ ∃ x' s', LogSit w W' g d x' s' t' ks ∧ x'.claim = x.claim) (hd : ∀ W l', DL w W q r y u l' → Calls Tryz.prog fd ad W fun e W' => e = .returned v ∧ DL w W' q r y' u' l') : Two l (fun W => Lv w W g q d r x t book y u l) fp fd ap ad v (fun W => ∃ c mb v x', x'.claim = x.claim ∧ Dd w W g q d r (lgRow g d c mb v x') t' y' u' l) := by
 refine ⟨fun W => ∃ c mb v x', x'.claim = x.claim ∧ Dd w W g q d r (lgRow g d c mb v x') t' y u l, ?_, ?_, fun W h => h.fail fun ks hk => hp W ks hk, ?_⟩
 ·rintro W W' ⟨c, mb, v, x', h1, h⟩ hb
  exact ⟨c, mb, v, x', h1, h.later hb⟩
 ·rintro W ⟨c, mb, v, x', h1, h⟩
  exact h.kl
 ·rintro W ⟨c, mb, v, x', h1, h⟩
  exact (h.doc fun l' hk => hd W l' hk).mono fun _ _ ⟨a, b⟩ => ⟨a, c, mb, v, x', h1, b⟩
end
structure LvOk (x : LSt) (t : St) (book : Int → Nat → Int) (y : RL) (u : RSt) (G : Int × Int × Int) (m : Nat) : Prop where
 mt : Mt x book y
 sim : SimX u t
 cap : Cap t m
 seen : 0 ≤ u.seen ∧ u.seen ≤ m
 live : claimedV t x.claim = true
 geo : x.l = G.2.1
 head : ∀ b, tgT b x.l t = [] ∧ tgE b x.l t = 0
 cnt : x.steps ≤ m ∧ x.commits ≤ m
 wl : y.wrote.length ≤ m
def GoneRow (d g : Nat) (t : St) (row : Array Value) (y : RL) : Prop :=
 (row = lg0 ∧ y.made = false) ∨ (∃ c mb v x, row = lgRow g d c mb v x ∧ y.made = true ∧ y.mine = x.claim ∧ Lost t x.claim)
structure DdOk (d g : Nat) (row : Array Value) (t : St) (y : RL) (u : RSt) (m : Nat) : Prop where
 row : GoneRow d g t row y
 sim : SimX u t
 cap : Cap t m
 seen : 0 ≤ u.seen ∧ u.seen ≤ m
def Aft (w : World) (g q d r : Nat) (G : Int × Int × Int) (m : Nat) (t0 : St) (l : List Part) (W : World) : Prop :=
 (∃ x t book y u, Lv w W g q d r x t book y u l ∧ LvOk x t book y u G m ∧ ∀ n, Lost t0 n → Lost t n) ∨
 (∃ row t y u, Dd w W g q d r row t y u l ∧ DdOk d g row t y u m ∧ ∀ n, Lost t0 n → Lost t n)
section
variable {w W W' : World} {g q d r m : Nat} {x x' : LSt} {s : CSt} {t t' : St} {book book' : Int → Nat → Int} {y y' : RL} {u u' : RSt} {l : List Part} {row : Array Value} {G : Int × Int × Int}
theorem Aft.later {t0 : St} (h : Aft w g q d r G m t0 l W) (hb : Below W.heap.size W W') : Aft w g q d r G m t0 l W' := by
 rcases h with ⟨x, t, book, y, u, h1, h2⟩ | ⟨row, t, y, u, h1, h2⟩
 ·exact .inl ⟨x, t, book, y, u, h1.later hb, h2⟩
 ·exact .inr ⟨row, t, y, u, h1.later hb, h2⟩
theorem Aft.kl {t0 : St} (h : Aft w g q d r G m t0 l W) : Kl l W := by
 rcases h with ⟨x, t, book, y, u, h1, h2⟩ | ⟨row, t, y, u, h1, h2⟩
 ·exact h1.kl
 ·exact h1.kl
theorem LvOk.chk (h : LvOk x t book y u G m) : chkE x t = 0 := by unfold chkE; rw [if_pos h.live]
theorem LvOk.rch (h : LvOk x t book y u G m) : rchE y u = 0 := by
 unfold rchE
 rw [if_pos h.mt.made, h.mt.mine, h.sim.isClaimed, if_pos h.live]
theorem LvOk.ref0 (h : LvOk x t book y u G m) {o : Bool} (ho : x.opn = o) : refL x t o = 0 := by unfold refL; rw [if_pos h.live, if_pos ho]
theorem LvOk.ref1 (h : LvOk x t book y u G m) {o : Bool} (ho : x.opn ≠ o) : refL x t o = 180 := by unfold refL; rw [if_pos h.live, if_neg ho]
theorem LvOk.room (h : LvOk x t book y u G m) (hk : Ok t) (hm : m ≤ 1000000) : RRoom u := h.sim.room hk h.cap (by omega) ⟨h.seen.1, by have := h.seen.2; omega⟩
theorem Cap.rm2 (h : Cap t m) (hm : m ≤ 1000000) {n : Nat} (hn : n ≤ 1000000) : Rm t n := h.rm (by omega)
theorem LvOk.alive (h : LvOk x t book y u G m) : t.stopped = false := (live_le h.live).2.1
theorem LvOk.same (h : LvOk x t book y u G m) {m' : Nat} (hm : m ≤ m') : ∀ W, Lv w W g q d r x t book y u l → Aft w g q d r G m' t l W := fun W hL =>
 .inl ⟨x, t, book, y, u, hL, ⟨h.mt, h.sim, h.cap.mono hm, ⟨h.seen.1, by have := h.seen.2; omega⟩, h.live, h.geo, h.head, ⟨by have := h.cnt.1; omega, by have := h.cnt.2; omega⟩, by have := h.wl; omega⟩, fun _ q => q⟩
theorem LvOk.logs (h : LvOk x t book y u G m) (hM : Mt x' book' y') (hc : x'.claim = x.claim) (hb : x'.b = x.b ∧ x'.l = x.l ∧ x'.i = x.i) (hn : x'.steps ≤ x.steps + 1 ∧ x'.commits ≤ x.commits + 1) (hwl : y'.wrote.length ≤ y.wrote.length + 1) {m' : Nat} (hm : m < m') : ∀ W, Lv w W g q d r x' t book' y' u l → Aft w g q d r G m' t l W := fun W hL =>
 .inl ⟨x', t, book', y', u, hL, ⟨hM, h.sim, h.cap.mono (by omega), ⟨h.seen.1, by have := h.seen.2; omega⟩, by rw [hc]; exact h.live, by rw [hb.2.1]; exact h.geo, by rw [hb.2.1]; exact h.head, ⟨by have := h.cnt.1; omega, by have := h.cnt.2; omega⟩, by have := h.wl; omega⟩, fun _ q => q⟩
theorem cmt_can (hI : Inv x s t book) : ∀ c, some c ∈ cmtOps x book → Can c.2 := by
 intro c hc
 have hlen := hI.len
 have hf := hI.fine.2.1
 have hbk : ∀ k ∈ x.blocks, Can (book k) := fun k hk => hI.c.can (decide_eq_true hk)
 unfold cmtOps opsA opsB opsC opsD lgOps putOps at hc
 simp only [List.mem_append, List.mem_map, List.mem_range, List.mem_cons, List.not_mem_nil, or_false, reduceCtorEq, Option.some.injEq] at hc
 rcases hc with ⟨j, hj, rfl⟩ | rfl | ⟨k, hk, rfl⟩ | rfl
 ·refine hbk _ ?_
  rw [List.getD_eq_getElem?_getD, List.getElem?_eq_getElem hj]
  exact List.getElem_mem hj
 ·exact headF_can (by omega)
 ·exact hbk k hk
 ·exact can_nought
theorem hd_cur {f : Nat → Int} (ok : Ok t) (hf : Can f) (he : runE [some (1, f), none] t = 0) : curV (runV [some (1, f), none] t) 1 = f := by
 have h1 : writeE t 1 = 0 := by
  by_cases q : writeE t 1 = 0
  ·exact q
  ·have : runE [some (1, f), none] t = writeE t 1 := by
    show (if writeE t 1 = 0 then _ else writeE t 1) = _
    rw [if_neg q]
   rw [this] at he
   exact he
 have e0 : runE [some (1, f), none] t = barE (writeV t 1 f) := by
  show (if writeE t 1 = 0 then (if barE (writeV t 1 f) = 0 then 0 else barE (writeV t 1 f)) else writeE t 1) = _
  rw [if_pos h1]
  split
  ·rename_i q; exact q.symm
  ·rfl
 have e1 : runV [some (1, f), none] t = barV (writeV t 1 f) := by
  show (if writeE t 1 = 0 then (if barE (writeV t 1 f) = 0 then barV (writeV t 1 f) else barV (writeV t 1 f)) else writeV t 1 f) = _
  rw [if_pos h1]
  split <;> rfl
 rw [e0] at he
 rw [e1]
 have hr : refV t 1 = 0 ∧ lets t = true := by
  unfold writeE at h1
  split at h1
  ·rename_i q
   refine ⟨q, ?_⟩
   cases hq : lets t
   ·rw [hq] at h1; simp at h1
   ·rfl
  ·rename_i q
   exact absurd h1 q
 have hw : Ok (writeV t 1 f) := writeV_ok ok hf
 have hb : barV (writeV t 1 f) = barS (writeV t 1 f) := by
  unfold barE at he
  unfold barV
  split at he
  ·cases he
  ·rename_i q
   rw [if_neg q]
   split at he
   ·rename_i q2; rw [if_pos q2]
   ·cases he
 rw [hb, cur_bar hw]
 have hwv : writeV t 1 f = writeS t 1 f := by
  unfold writeV
  rw [if_pos hr.1, if_pos hr.2]
 rw [hwv, curV_last]
 show lastV _ (t.wait ++ [(1, f)]) 1 = f
 rw [lastV_append]
 rfl
theorem cmt_head (ok : Ok t) (hI : Inv x s t book) (he : runE (cmtOps x book) t = 0) : curV (runV (cmtOps x book) t) 1 = nought := by
 have hsp : cmtOps x book = (opsA x book ++ (opsB x ++ opsC x book)) ++ opsD := by unfold cmtOps; simp
 have hcan := cmt_can hI
 rw [hsp] at he hcan ⊢
 have hA : runE (opsA x book ++ (opsB x ++ opsC x book)) t = 0 := by
  rw [runE_append] at he
  split at he
  ·assumption
  ·exact he
 obtain ⟨e1, e2⟩ := run_on (b := opsD) hA
 rw [e1] at he
 rw [e2]
 refine hd_cur ?_ can_nought he
 exact run_ok ok fun c hc => hcan c (List.mem_append.2 (.inl hc))
theorem tg_nought {b l : Int} (hl : 32 ≤ l) (h : curV t 1 = nought) : tgT b l t = [] ∧ tgE b l t = 0 := by
 have h0 := tg_new (b := b) (n := 1) hl
 unfold tgT tgE at h0 ⊢
 rw [h, ← cur_new 1 1]
 exact h0
theorem LvOk.commit (h : LvOk x t book y u G m) (hI : Inv x s t book) (hk : Ok t) (he : runE (cmtOps x book) t = 0) {x2 : LSt} {y2 : RL} (hM : Mt x2 book y2) (hc : x2.claim = x.claim) (hb : x2.b = x.b ∧ x2.l = x.l ∧ x2.i = x.i) (hn : x2.steps ≤ x.steps + 1 ∧ x2.commits ≤ x.commits + 1) (hwl : y2.wrote.length ≤ y.wrote.length + 1) : ∀ W, Lv w W g q d r x2 (runV (cmtOps x book) t) book y2 (rrunV (rcOps y) u) l → Aft w g q d r G (m + 600) t l W := fun W hL => by
 have hlen := hI.len
 have hl := hI.fine.2.1
 have hcl := cmt_len (x := x) (book := book)
 obtain ⟨h1, h2, h3⟩ := h.sim.run hk (cmtOps x book) (cmt_can hI)
 rw [h.mt.ops] at h2
 obtain ⟨_, _, n3, n4, _⟩ := run_nums (cmtOps x book) t
 refine .inl ⟨x2, _, book, y2, _, hL, ⟨hM, ?_, (h.cap.run (cmtOps x book)).mono (by omega), ?_, ?_, by rw [hb.2.1]; exact h.geo, ?_, ⟨by have := h.cnt.1; omega, by have := h.cnt.2; omega⟩, by have := h.wl; omega⟩, fun n q => q.run _⟩
 ·rw [h.mt.ops]; exact h2
 ·rw [rrun_seen]
  exact ⟨h.seen.1, by have := h.seen.2; omega⟩
 ·rw [hc]
  exact live_same h.live n3 n4 (run_live _ _ h.alive he)
 ·rw [hb.2.1]
  exact fun b => tg_nought hI.fine.1 (cmt_head hk hI he)
theorem LvOk.stop (h : LvOk x t book y u G m) (hI : Inv x s t book) (hk : Ok t) (he : runE (cmtOps x book) t ≠ 0) (hy : y'.made = true) (hy2 : y'.mine = x.claim) : ∀ W, (∃ c mb v x', x'.claim = x.claim ∧ Dd w W g q d r (lgRow g d c mb v x') (runV (cmtOps x book) t) y' (rrunV (rcOps y) u) l) → Aft w g q d r G (m + 600) t l W := fun W ⟨c, mb, v, x', hx', hD⟩ => by
 have hlen := hI.len
 have hl := hI.fine.2.1
 have hcl := cmt_len (x := x) (book := book)
 obtain ⟨h1, h2, h3⟩ := h.sim.run hk (cmtOps x book) (cmt_can hI)
 rw [h.mt.ops] at h2
 obtain ⟨_, _, n3, n4, _⟩ := run_nums (cmtOps x book) t
 have hst : (runV (cmtOps x book) t).stopped = true := ((run_three (cmtOps x book) t (cmt_in hI hI.c.n)).resolve_left he).2
 refine .inr ⟨_, _, y', _, hD, ⟨.inr ⟨c, mb, v, x', rfl, hy, by rw [hy2, hx'], ?_⟩, ?_, (h.cap.run (cmtOps x book)).mono (by omega), ?_⟩, fun n q => q.run _⟩
 ·rw [hx']
  exact lost_stop (by rw [n3, (live_le h.live).1]; exact Int.le_refl _) hst
 ·rw [h.mt.ops]; exact h2
 ·rw [rrun_seen]
  exact ⟨h.seen.1, by have := h.seen.2; omega⟩
theorem LvOk.can (h : LvOk x t book y u G m) (hI : Inv x s t book) (hk : Ok t) (hm : m ≤ 1000000) : RCan y u := by
 have hlen := hI.len
 have hl := hI.fine.2.1
 have hcl := cmt_len (x := x) (book := book)
 refine h.mt.can hI ?_
 rw [← h.mt.ops]
 exact h.sim.rooms hk h.cap (cmtOps x book) (by omega) ⟨h.seen.1, by have := h.seen.2; omega⟩ (cmt_can hI)
theorem LvOk.rcmE (h : LvOk x t book y u G m) (hI : Inv x s t book) (hk : Ok t) : rcmE y u = runE (cmtOps x book) t := by
 obtain ⟨h1, _, _⟩ := h.sim.run hk (cmtOps x book) (cmt_can hI)
 unfold Go.Proofs.YtichojdcoegboaaGreatW.rcmE
 rw [← h.mt.ops, h1]
 rcases run_three (cmtOps x book) t (cmt_in hI hI.c.n) with q | q
 ·rw [if_pos q, q]
 ·rw [if_neg (by omega), q.1]
end
end Go.Proofs.YtichojdcoegboaaGreatW
