/- Several texts joined: the log, its cache and its disk, of the program and of the document; no condition. -/
import Derived.Test.YtichojdcoegboaaGreatK23
namespace Go.Proofs.YtichojdcoegboaaGreatW
open Go.RowKit Go.Maps
variable {w W : World} {g d c mb : Nat} {v : Value} {x : LSt} {s : CSt} {t : St} {os ks : List (Nat × Obj)} {base : Nat} {book : Int → Nat → Int}
theorem lay_fine {b l i : Int} (hf : H.Fine b l i) : H.standsB b l i 1 (1 + l) (H.nodeB i) (H.bitsAt l i) (H.bitsB b) (H.dataAt b l i) = true := decide_eq_true ⟨hf, rfl, rfl, rfl, rfl, rfl, rfl⟩
theorem fine_i64 {b l i : Int} (hf : H.Fine b l i) : H.I64 b := by
 have := H.Fine.pos hf
 have := hf.2.2.2.2.1
 unfold H.I64
 omega
def tgT (b l : Int) (t : St) : List Int := H.decL (1 + l) b (l - 1) (curV t 1)
def tgE (b l : Int) (t : St) : Int := H.decN (1 + l) b (l - 1) (curV t 1)
theorem sits_len2 (h : Sits w W d t ks) : Calls Tryz.prog 102 #[.pointer (some ⟨d, 0, none⟩)] W fun e W' => e = .returned (.int .i64 t.n) ∧ W' = W := by
 obtain ⟨L, rfl, hS⟩ := h
 exact len_of hS.disk
set_option maxRecDepth 20000 in
set_option maxHeartbeats 1600000 in
theorem committed_ok {b l i : Int} (h : Sits w W d t ks) (hf : H.Fine b l i) (hn : b ≤ t.n) (hs : t.stopped = false) (hr : Room t) : Calls Tryz.prog 69 #[ptr d, .agg (layA b l i)] W fun e W' => ∃ p, e = .returned (.tuple #[.slice p (tgT b l t).length (tgT b l t).length, .int .i64 (tgE b l t)]) ∧ H.IntsAt W' p (tgT b l t) ∧ Sits w W' d (readS t) ks := by
 have hA := h.add (.cells (layA b l i) 59)
 have hrow := heap_alloc_new W (.cells (layA b l i) 59)
 have hsz : (layA b l i).size = 9 := rfl
 have hlen := sits_len2 hA
 have hpos := H.Fine.pos hf
 have hnn : ¬ t.n = 0 := by omega
 have hbn : ¬ t.n < b := by omega
 have hok := h.ok
 have HE : Hid (∀ V, Calls Tryz.prog 103 #[.agg (layA b l i), .agg #[.slice none 0 0]] V fun e W' => e = .returned (.tuple #[.agg (blk (H.headF [])), .int .i64 0]) ∧ Below V.heap.size V W') := fun V =>
  H.enc_ok b l i 1 (1 + l) (H.nodeB i) (H.bitsAt l i) (H.bitsB b) (H.dataAt b l i) [] none 0 V (fine_i64 hf) (lay_fine hf) ⟨hf.1, hf.2.1⟩ (fun q => by simp at q) (fun q hq => by simp at hq) (by simp) (decide_eq_true ⟨by have := hf.1; simp; omega, fun q hq => by simp at hq, List.nodup_nil⟩)
 have hcan := curV_can hok 1
 have HD : Hid (∀ V, Calls Tryz.prog 104 #[.agg (layA b l i), .agg (blk (curV t 1))] V fun e' w' => ∃ p, e' = .returned (.tuple #[.agg #[.slice p (tgT b l t).length (tgT b l t).length], .int .i64 (tgE b l t)]) ∧ (p = none ∧ tgT b l t = [] ∨ ∃ q, p = some ⟨q, 0, none⟩ ∧ V.heap.size ≤ q ∧ w'.heap[q]? = some (.cells (H.listRow (tgT b l t)) 3)) ∧ Below V.heap.size V w') := fun V =>
  H.dec_all b l i 1 (1 + l) (H.nodeB i) (H.bitsAt l i) (H.bitsB b) (H.dataAt b l i) (curV t 1) V (fine_i64 hf) (lay_fine hf) ⟨hf.1, hf.2.1⟩ hcan.1
 have href : refV t 1 = 0 := by unfold refV; rw [hs, if_neg (by simp), if_pos ⟨by omega, by omega⟩]
 have HR : Hid (∀ V, Below (W.alloc (.cells (layA b l i) 59)).heap.size (W.alloc (.cells (layA b l i) 59)) V → V.heap[W.heap.size]? = some (.cells (layA b l i) 59) ∧ V.cell? ⟨W.heap.size, 0, none⟩ = some (.int .i64 b) ∧ V.cell? ⟨W.heap.size, 3, none⟩ = some (.int .i64 1) ∧ (∀ k, Calls Tryz.prog 102 #[.pointer (some ⟨d, 0, none⟩)] (V.drewN k) fun e W' => e = .returned (.int .i64 t.n) ∧ W' = V.drewN k) ∧ Hid (∀ k, Calls Tryz.prog 28 #[.pointer (some ⟨d, 0, none⟩), .int .i64 1] (V.drewN k) fun e W' => e = .returned (.tuple #[.agg (blk (curV t 1)), .int .i64 0]) ∧ Sits w W' d (readS t) ((W.heap.size, .cells (layA b l i) 59) :: ks))) := fun V hb => by
  have h1 := hA.later hb
  have h2 := heap_kept hrow hb
  refine ⟨h2, Joins.cell_of_block h2 0, Joins.cell_of_block h2 3, fun k => sits_len2 (h1.later (below_drewN _ k)), fun k => ?_⟩
  have h3 := sits_read (h1.later (below_drewN _ k)) hr 1
  unfold readB readV at h3
  rw [href, if_pos rfl, if_pos rfl] at h3
  exact h3
 have HB0 := Hid.mk' (below_new W (.cells (layA b l i) 59))
 clear h hA hf hn hs hr hok hcan href hpos
 unfold ptr at *
 generalize layA b l i = L at *
 generalize curV t 1 = Fc at *
 generalize hTL : tgT b l t = T at *
 generalize tgE b l t = E at *
 have z25 := zero25
 go_enter Tryz.func69, Tryz.ntmps69
 go_wp2_with (first | (go_at_call 102; refine hlen.mono ?_; rintro e W1 ⟨rfl, rfl⟩) | refine wpList_load_row rfl 59 (.tmp 3) rfl W.heap.size rfl 59 L (0, 0) _ hrow Tryz.underlying59 rfl (by rw [hsz]; exact H.size25L) ?_ | (go_at_call 103; fail))
 refine (HE.out _).mono ?_
 rintro e W1 ⟨rfl, hb1⟩
 obtain ⟨hrow2, c0, c3, hlen2, hrd⟩ := HR.out _ (below_next hb1 (below_new W1 (.cells (blk (H.headF [])) 64)))
 have HB1 := Hid.mk' (below_next (below_next HB0.out hb1) (below_new W1 (.cells (blk (H.headF [])) 64)))
 clear hb1 hlen HE HR hrow HB0
 go_wp2_with (first | refine wpList_store25_new rfl (.tmp 6) (.tmp 18) rfl (H.headF []) _ rfl rfl ?_)
 generalize W1.alloc (.cells (blk (H.headF [])) 64) = W2 at *
 go_quiet (first | (go_at_call 102; refine Calls.quiet_of_same (hlen2 _)))
 have hrd2 := hrd.out nq
 have hrow3 : (W2.drewN nq).heap[W.heap.size]? = some (.cells L 59) := hrow2
 clear hlen2 hrd hrow2
 go_wp2_with (go_at_call 28; fail)
 refine hrd2.mono ?_
 rintro e W3 ⟨rfl, h3⟩
 have H3 := Hid.mk' (h3.add (.cells (blk Fc) 64))
 have hrow4 := H3.out.blk (List.mem_cons_of_mem _ (List.mem_cons_self ..))
 have hblk4 := H3.out.blk (List.mem_cons_self ..)
 clear hrd2 h3 hrow3 c0 c3
 go_wp2_with (first | refine wpList_store25_new rfl (.tmp 8) (.tmp 35) rfl Fc _ rfl rfl ?_ | refine wpList_load_row rfl 59 (.tmp 3) rfl W.heap.size rfl 59 L (0, 0) _ hrow4 Tryz.underlying59 rfl (by rw [hsz]; exact H.size25L) ?_ | refine wpList_load25 rfl (.tmp 8) rfl W3.heap.size rfl Fc hblk4 ?_ | (go_at_call 104; fail))
 refine (HD.out _).mono ?_
 rintro e W4 ⟨p, rfl, hp, hb4⟩
 have H4 := Hid.mk' (H3.out.later hb4)
 have hI4 := H.dec_ints hp
 have HI := Hid.mk' hI4
 clear hp hb4 hI4 H3 hrow4 hblk4 HD hTL
 go_wp2
 go_ret2
 exact ⟨p, rfl, HI.out.later (below_new _ _), (H4.out.later (below_new _ _)).drop fun q hq => List.mem_cons_of_mem _ (List.mem_cons_of_mem _ hq)⟩
theorem newLog {V : World} {g mb : Nat} {x : LSt} (h : Sit w W c d s t ks) (hb : Below W.heap.size W V) (hg : W.heap.size ≤ g) (hm : W.heap.size ≤ mb) (hrow : V.heap[g]? = some (.cells (lgRow g d c mb (.slice none 0 0) x) 110)) (hmap : MapIs Tryz.prog 3 V mb (lastM x)) (hx : x.blocks = []) : LogSit w V g d x s t ks := by
 have hbase := h.below.size
 obtain ⟨es, cl, hmo⟩ := hmap.isMap
 refine ⟨c, mb, .slice none 0 0, [(g, .cells (lgRow g d c mb (.slice none 0 0) x) 110), (mb, .map es cl)], h.turn (T := fun _ => False) (Fr.ofBelow hb) (fun _ q => q.elim) fun p hp => ?_, ⟨hrow, hmap, by rw [hx]; exact H.OwnZ.nil _ _⟩, fun k hk => ?_, fun p hp => ?_⟩
 ·rcases List.mem_append.1 hp with hp | hp
  ·simp only [List.mem_cons, List.not_mem_nil, or_false] at hp
   rcases hp with rfl | rfl
   ·exact ⟨hrow, .inr hg⟩
   ·exact ⟨hmo, .inr hm⟩
  ·exact ⟨heap_kept (h.blk hp) hb, .inl ⟨p.2, hp⟩⟩
 ·rcases hk with rfl | rfl | hk
  ·exact ⟨by omega, _, List.mem_cons_self ..⟩
  ·exact ⟨by omega, _, List.mem_cons_of_mem _ (List.mem_cons_self ..)⟩
  ·cases hk
 ·have := (Array.getElem?_eq_some_iff.1 (h.blk hp)).1
  rintro (q | q | q)
  ·omega
  ·omega
  ·cases q
theorem sit_claim (h : Sit w W c d s t ks) (hr : Room t) : Calls Tryz.prog 71 #[ptr d] W fun e W' => e = .returned (.int .i64 (claimN t)) ∧ Sit w W' c d s (claimV t) ks := by
 obtain ⟨K, L, rfl, rfl, h⟩ := h
 refine (claim_of h.cd.disk hr).mono ?_
 rintro e W' ⟨rfl, h2, h3⟩
 obtain ⟨a1, a2⟩ := h.cd.disks h2 h3
 exact ⟨rfl, Sit.goes rfl rfl h a1 a2⟩
def newX (b l i cl : Int) : LSt := ⟨b, l, i, cl, [], fun _ => none, false, 0, 0, 0⟩
theorem exec_box48 {a : Act} {o : Oper} {u : World} {y : Operand} {cs : Array Value} (ho : o.op = .box 110 y) (hx : a.eval y = .agg cs) : (execOp a.eval o).run Tryz.prog u = .ok (.value (.pointer (some ⟨u.heap.size, 0, none⟩))) (u.alloc (.cells cs 110)) := by
 unfold execOp
 simp only [ho, hx]
 simp [go_sem]
def row0 (b l i cl : Int) (d c : Nat) (sf : Value) : Array Value := #[sf, .pointer (some ⟨d, 0, none⟩), .int .i64 cl, .int .i64 b, .int .i64 l, .int .i64 i, .int .i64 1, .int .i64 (1 + l), .int .i64 (H.nodeB i), .int .i64 (H.bitsAt l i), .int .i64 (H.bitsB b), .int .i64 (H.dataAt b l i), .pointer (some ⟨c, 0, none⟩), .slice none 0 0, .map none, .bool false, .int .i64 0, .int .i64 0, .int .i64 0]
theorem newInv {b l i : Int} (hf : H.Fine b l i) (t : St) (hn : b ≤ t.n) (cl : Int) : Inv (newX b l i cl) (newC l) t (curV t) := by
 have h1 := hf.1
 have h2 := hf.2.1
 refine ⟨hf, ?_, List.nodup_nil, fun k hk => by simp [newX] at hk, ?_, fun k => ⟨fun _ => by simp [newX], fun _ => rfl⟩, by show ((0 : Nat) : Int) ≤ l - 1; omega, ⟨by show (0 : Int) ≤ 0; omega, by show (0 : Int) ≤ _; omega⟩, ⟨by show (0 : Int) ≤ 0; omega, by show (0 : Int) ≤ _; omega⟩, ⟨by show (0 : Int) ≤ 0; omega, by show (0 : Int) ≤ _; omega⟩, fun q => by cases q⟩
 ·have : inB (newX b l i cl) = fun _ => false := by funext k; simp [inB, newX]
  rw [this]
  exact CInv.new t hn ⟨by show 1 ≤ l; omega, by show l ≤ 4096; omega⟩
 ·show ((fastN ([] : List Hld) : Nat) : Int) = ((0 : Nat) : Int)
  rfl
theorem newMade {b l i cl : Int} {W3 : World} (h : Sit w W3 c d (newC l) t ks) (hf : H.Fine b l i) (hn : b ≤ t.n) : LogI w (forgotW (W3.alloc (.cells (row0 b l i cl d c (.pointer (some ⟨W3.heap.size, 0, none⟩))) 110)) W3.heap.size) W3.heap.size d (newX b l i cl) t (curV t) ks := by
 have hVs : (W3.alloc (.cells (row0 b l i cl d c (.pointer (some ⟨W3.heap.size, 0, none⟩))) 110)).heap.size = W3.heap.size + 1 := by simp
 have hr0 := heap_alloc_new W3 (.cells (row0 b l i cl d c (.pointer (some ⟨W3.heap.size, 0, none⟩))) 110)
 have hf3 := Fr.alloc (fun k => k = W3.heap.size) W3 (.cells (row0 b l i cl d c (.pointer (some ⟨W3.heap.size, 0, none⟩))) 110)
 generalize W3.alloc (.cells (row0 b l i cl d c (.pointer (some ⟨W3.heap.size, 0, none⟩))) 110) = V at *
 generalize hg : W3.heap.size = g at *
 have hsz : ((V.setCell ⟨g, 13, none⟩ (.slice none 0 0)).setCell ⟨g, 14, none⟩ (.map (some V.heap.size))).heap.size = V.heap.size := by simp
 have hfr : Fr (fun k => k = g) W3 (forgotW V g) := ((hf3.trans (Fr.setCell V g 13 _) fun _ _ q => q).trans (Fr.setCell _ g 14 _) fun _ _ q => q).trans (Fr.alloc (fun _ => False) _ _) fun _ _ q => q.elim
 refine ⟨newC l, newLog (mb := V.heap.size) h (hfr.below (fun i q => by omega) (Nat.le_refl _)) (by omega) (by omega) ?_ ?_ rfl, newInv hf t hn cl⟩
 ·have h1 := Joins.block_setCell (i := 13) hr0 (.slice none 0 0)
  have h2 := Joins.block_setCell (i := 14) h1 (.map (some V.heap.size))
  exact ((below_new _ (.map #[] 0)).block _ (by rw [hsz, hVs]; omega)).trans h2
 ·have h1 := MapIs.made (P := Tryz.prog) (k := 3) ((V.setCell ⟨g, 13, none⟩ (.slice none 0 0)).setCell ⟨g, 14, none⟩ (.map (some V.heap.size)))
  rw [hsz] at h1
  exact h1
set_option maxRecDepth 20000 in
set_option maxHeartbeats 1600000 in
theorem newL_ok {b l i : Int} (h : Sits w W d t ks) (hf : H.Fine b l i) (hn : b ≤ t.n) (hs : t.stopped = false) (hr : Rm t 3) (hT : tgT b l t = []) (hE : tgE b l t = 0) : Calls Tryz.prog 17 #[ptr d, .agg (layA b l i)] W fun e W' => ∃ g, e = .returned (.tuple #[ptr g, .int .i64 0]) ∧ LogI w W' g d (newX b l i (claimN t)) (claimV (readS t)) (curV t) ks := by
 have hA := h.add (.cells (layA b l i) 59)
 have hrow := heap_alloc_new W (.cells (layA b l i) 59)
 have hsz : (layA b l i).size = 9 := rfl
 have hc0 := committed_ok hA hf hn hs (Rm.room (n := 2) hr)
 rw [hT, hE] at hc0
 have hr2 : Room (readS t) := by
  obtain ⟨a1, a2, a3, a4⟩ := hr
  refine ⟨?_, ?_, ?_, ?_⟩
  ·show t.ops.length < _; omega
  ·show t.made < _; omega
  ·show t.reads + 1 < _; omega
  ·show t.claims < _; omega
 have hl : 1 ≤ l ∧ l ≤ 4096 := by have := hf.1; have := hf.2.1; omega
 have HN : Hid (∀ V, Sits w V d (readS t) ((W.heap.size, .cells (layA b l i) 59) :: ks) → V.cell? ⟨W.heap.size, 1, none⟩ = some (.int .i64 l) ∧ Calls Tryz.prog 70 #[.pointer (some ⟨d, 0, none⟩), .int .i64 l] V fun e W' => ∃ c, e = .returned (.tuple #[.pointer (some ⟨c, 0, none⟩), .int .i64 0]) ∧ Sit w W' c d (newC l) (readS t) ((W.heap.size, .cells (layA b l i) 59) :: ks)) := fun V h1 => ⟨Joins.cell_of_block (h1.blk (List.mem_cons_self ..)) 1, sit_new h1 hl⟩
 have HC : Hid (∀ V c, Sit w V c d (newC l) (readS t) ((W.heap.size, .cells (layA b l i) 59) :: ks) → Calls Tryz.prog 71 #[.pointer (some ⟨d, 0, none⟩)] V.drew fun e W' => e = .returned (.int .i64 (claimN t)) ∧ Sit w W' c d (newC l) (claimV (readS t)) ((W.heap.size, .cells (layA b l i) 59) :: ks)) := fun V c h1 => sit_claim h1.drew hr2
 have HF : Hid (H.Fine b l i ∧ b ≤ (claimV (readS t)).n ∧ curV (claimV (readS t)) = curV t) := by
  refine ⟨hf, ?_, ?_⟩
  ·unfold claimV; split <;> exact hn
  ·unfold claimV; split <;> rfl
 clear h hA hf hn hs hr hT hE hr2 hl
 unfold ptr at *
 have HL : Hid (layA b l i = #[.int .i64 b, .int .i64 l, .int .i64 i, .int .i64 1, .int .i64 (1 + l), .int .i64 (H.nodeB i), .int .i64 (H.bitsAt l i), .int .i64 (H.bitsB b), .int .i64 (H.dataAt b l i)]) := rfl
 generalize hLL : layA b l i = L at *
 go_enter Tryz.func17, Tryz.ntmps17
 go_wp2_with (first | refine wpList_load_row rfl 59 (.tmp 3) rfl W.heap.size rfl 59 L (0, 0) _ hrow Tryz.underlying59 rfl (by rw [hsz]; exact H.size25L) ?_ | (go_at_call 69; fail))
 refine hc0.mono ?_
 rintro e W1 ⟨p, rfl, _, h1⟩
 obtain ⟨c4, hnew⟩ := HN.out W1 h1
 have HNew := Hid.mk' hnew
 clear h1 hc0 hrow HN hnew
 go_wp2_with (go_at_call 70; fail)
 refine HNew.out.mono ?_
 rintro e W2 ⟨c, rfl, h2⟩
 have H2 := Hid.mk' h2
 clear h2 c4 HNew
 go_wp2
 have hrow2 := H2.out.blk (List.mem_cons_self ..)
 refine wp_region_ord (S := fun u => u.heap[W.heap.size]? = some (.cells L 59)) [(0, true), (1, true), (3, true), (4, true), (2, false), (5, true), (6, false), (7, true)]
  (by kernel_rfl) rfl (by kernel_rfl) (fun d _ _ _ _ h => by cases d <;> exact h) hrow2 ?_
 simp only [inOrd, List.getElem?_cons_zero, List.getElem?_cons_succ]
 refine wpOrd_move rfl _ rfl ?_
 simp only [Act.put, pA, pB, pC]
 refine wpOrd_move rfl _ rfl ?_
 simp only [Act.put, pA, pB, pC]
 refine wpOrd_yield (v := .agg L) rfl (fun u hu => H.exec_loadL rfl rfl hsz hu) ?_
 simp only [Act.put, pA, pB, pC]
 refine wpOrd_move rfl _ rfl ?_
 simp only [Act.put, pA, pB, pC]
 refine wpOrd_call rfl 71 _ _ rfl Tryz.call71 [.pointer (some ⟨d, 0, none⟩)] rfl ?_
 refine (HC.out W2 c H2.out).mono ?_
 rintro e W3 ⟨rfl, h3⟩
 have H3 := Hid.mk' h3
 refine ⟨_, rfl, h3.blk (List.mem_cons_self ..), ?_⟩
 clear h3 H2 hrow2 HC
 simp only [Act.put, pA, pB, pC]
 have hL := HL.out
 refine wpOrd_yield (v := .agg (row0 b l i (claimN t) d c (.pointer none))) rfl (fun u _ => by unfold row0; subst hL; go_simp) ?_
 simp only [Act.put, pA, pB, pC]
 refine wpOrd_run rfl (exec_box48 rfl rfl) (heap_kept (H3.out.blk (List.mem_cons_self ..)) (below_new _ _)) ?_
 simp only [Act.put, pA, pB, pC]
 refine wpOrd_yield (v := .pointer (some ⟨W3.heap.size, 0, none⟩)) rfl (fun u _ => by go_simp) ?_
 refine wpOrd_nil ?_
 simp only [Act.put, pA, pB, pC]
 have hrow6 : (W3.alloc (.cells (row0 b l i (claimN t) d c (.pointer (some ⟨W3.heap.size, 0, none⟩))) 110)).heap[W3.heap.size]? = some (.cells (row0 b l i (claimN t) d c (.pointer (some ⟨W3.heap.size, 0, none⟩))) 110) := heap_alloc_new _ _
 have hfor := forget_raw hrow6 rfl
 have HFor := Hid.mk' hfor
 clear hfor hrow6
 unfold row0
 go_wp2_with (go_at_call 72; fail)
 refine HFor.out.mono ?_
 rintro e W4 ⟨rfl, rfl⟩
 have HLog : Hid (LogI w (forgotW (W3.alloc (.cells (row0 b l i (claimN t) d c (.pointer (some ⟨W3.heap.size, 0, none⟩))) 110)) W3.heap.size) W3.heap.size d (newX b l i (claimN t)) (claimV (readS t)) (curV t) ks) := by
  have := newMade (cl := claimN t) (H3.out.drop (ks' := ks) fun q hq => List.mem_cons_of_mem _ hq) HF.out.1 HF.out.2.1
  rw [HF.out.2.2] at this
  exact this
 clear HFor H3
 generalize forgotW (W3.alloc (.cells (row0 b l i (claimN t) d c (.pointer (some ⟨W3.heap.size, 0, none⟩))) 110)) W3.heap.size = W5 at HLog ⊢
 go_wp2
 go_ret2
 exact ⟨_, rfl, HLog.out⟩
end Go.Proofs.YtichojdcoegboaaGreatW
namespace Go.Proofs.YtichojdcoegboaaGreatW
open Go.RowKit Go.Maps
variable {w W : World} {g d c mb : Nat} {v : Value} {x : LSt} {s : CSt} {t : St} {os ks : List (Nat × Obj)} {base : Nat} {book : Int → Nat → Int}
theorem wpList_storeL {ops : Array Oper} {rest : List Oper} {o : Oper} {a : Act} {w : World} {Q : Exit → Act → World → Prop} (hgd : o.guard = none) (x y : Operand) (ho : o.op = .store 59 x y)
  (g : Nat) (cs c0 : Array Value) (hx : a.eval x = .pointer (some ⟨g, 0, none⟩)) (hy : a.eval y = .agg cs) (hg : w.heap[g]? = some (.cells c0 59)) (hs : cs.size = 9) (hs0 : c0.size = 9) (h1 : cs.all (·.oneCell') = true)
  (h : wpList Tryz.prog ops Q rest (a.put o.dst undef) (w.setRow g cs)) : wpList Tryz.prog ops Q (o :: rest) a w :=
 wpList_plain hgd fun _ hK => by
  have hz : (Tryz.prog.info? 59).map (·.size) = some cs.size := by rw [hs]; exact H.size25L
  unfold Oper.wp execOp
  simp only [ho, hx, hy, Instr.storeAt, Instr.sureAddr, Sem.run_bind, Sem.run_pure, Result.andThen_ok, run_storeVar_row w g 59 59 c0 cs hg hz (by rw [hs, hs0]) h1]
  exact hK _ _ h
def blkF (v : Int) : Nat → Int := upd (upd nought 0 v) 1023 (v / 2)
theorem blkF_can {v : Int} (hv : 0 ≤ v ∧ v ≤ 255) : Can (blkF v) := by
 refine ⟨fun i => ?_, fun i hi => ?_⟩
 ·unfold blkF upd nought
  (repeat' split) <;> omega
 ·unfold blkF upd nought
  rw [if_neg (by omega), if_neg (by omega)]
theorem dop_free {o : Option Cel} (hs : t.stopped = false) (hf : t.fuse = -1) (hk : ∀ c, o = some c → 0 ≤ c.1 ∧ c.1 < t.n) : dopE t o = 0 ∧ (dopV t o).made = t.made + 1 ∧ (dopV t o).fuse = -1 ∧ (dopV t o).stopped = false := by
 have hl : lets t = true := by unfold lets; rw [hf]; rfl
 have e1 : letV t = { t with fuse := -1, made := t.made + 1 } := by
  unfold letV
  rw [hf, if_neg (by omega), if_pos rfl]
 cases o with
 | none =>
  have hb := barS_nums t
  have hv : dopV t none = barS t := by show barV t = _; unfold barV; rw [hs, hl]; rfl
  refine ⟨by show barE t = 0; unfold barE; rw [hs, hl]; rfl, ?_, ?_, ?_⟩
  ·rw [hv, hb.1, e1]
  ·rw [hv, hb.2.2.2.2.2.2, e1]
  ·rw [hv, hb.2.2.2.2.2.1, e1]; exact hs
 | some c =>
  obtain ⟨h1, h2⟩ := hk c rfl
  have hr : refV t c.1 = 0 := by unfold refV; rw [hs, if_neg (by simp), if_pos ⟨h1, h2⟩]
  have hv : dopV t (some c) = writeS t c.1 c.2 := by show writeV t c.1 c.2 = _; unfold writeV; rw [if_pos hr, hl]; rfl
  refine ⟨by show writeE t c.1 = 0; unfold writeE; rw [if_pos hr, hl]; rfl, ?_, ?_, ?_⟩
  ·rw [hv]; show (letV t).made = _; rw [e1]
  ·rw [hv]; show (letV t).fuse = _; rw [e1]
  ·rw [hv]; show (letV t).stopped = _; rw [e1]; exact hs
theorem run_free : ∀ (l : List (Option Cel)) (t : St), t.stopped = false → t.fuse = -1 → (∀ c, some c ∈ l → 0 ≤ c.1 ∧ c.1 < t.n) → runE l t = 0 ∧ (runV l t).made = t.made + l.length ∧ (runV l t).fuse = -1 ∧ (runV l t).stopped = false
 | [], t, hs, hf, _ => ⟨rfl, by simp [runV], hf, hs⟩
 | o :: r, t, hs, hf, hk => by
  obtain ⟨h1, h2, h3, h4⟩ := dop_free (o := o) hs hf fun c hc => hk c (by rw [← hc]; exact List.mem_cons_self ..)
  have hn := (dop_nums t o).2.2.2.2.1
  obtain ⟨a1, a2, a3, a4⟩ := run_free r (dopV t o) h4 h3 fun c hc => by rw [hn]; exact hk c (List.mem_cons_of_mem _ hc)
  unfold runE runV
  rw [if_pos h1, if_pos h1]
  exact ⟨a1, by rw [a2, h2]; simp only [List.length_cons]; omega, a3, a4⟩
theorem cmt_len : (cmtOps x book).length = 2 * x.blocks.length + 6 := by
 unfold cmtOps
 simp only [List.length_append, opsA_len, opsC_len]
 show x.blocks.length + 1 + (2 + (x.blocks.length + 1 + 2)) = _
 omega
theorem cmt_in {n : Int} (hI : Inv x s t book) (hn : x.b ≤ n) : ∀ c, some c ∈ cmtOps x book → 0 ≤ c.1 ∧ c.1 < n := by
 intro c hc
 have hlen := hI.len
 have hf := hI.fine
 have hp := H.Fine.pos hf
 have hlb : 1 + x.l < x.b := by
  have h1 := hf.2.2.2.2.2
  have h2 := hf.2.2.1
  unfold H.dataAt H.bitsAt H.nodeB H.bitsB at h1
  omega
 unfold cmtOps opsA opsB opsC opsD lgOps putOps at hc
 simp only [List.mem_append, List.mem_map, List.mem_range, List.mem_cons, List.not_mem_nil, or_false, reduceCtorEq, Option.some.injEq] at hc
 rcases hc with ⟨j, hj, rfl⟩ | rfl | ⟨k, hk, rfl⟩ | rfl
 ·exact ⟨by show 0 ≤ 2 + (j : Int); omega, by show 2 + (j : Int) < n; omega⟩
 ·exact ⟨by show (0 : Int) ≤ 1; omega, by show (1 : Int) < n; omega⟩
 ·have := hI.rng k hk
  exact ⟨by show 0 ≤ k; omega, by show k < n; omega⟩
 ·exact ⟨by show (0 : Int) ≤ 1; omega, by show (1 : Int) < n; omega⟩
theorem cmt_free {W' : World} {e : Ending} (h : CmtPost w g d x t book ks e W') (hI : Inv x s t book) (hs : t.stopped = false) (hf : t.fuse = -1) : e = .returned (.int .i64 0) ∧ ∃ t', LogI w W' g d { forgotL x with commits := x.commits + 1 } t' book ks ∧ t'.made = t.made + (2 * x.blocks.length + 6 : Nat) ∧ t'.fuse = -1 ∧ t'.stopped = false ∧ t'.claims = t.claims ∧ t'.claimed = t.claimed ∧ t'.n = t.n ∧ t'.reads = t.reads ∧ t'.ops.length ≤ t.ops.length + (2 * x.blocks.length + 6) := by
 obtain ⟨h1, h2, h3⟩ := h
 obtain ⟨a1, a2, a3, a4⟩ := run_free (cmtOps x book) t hs hf (cmt_in hI hI.c.n)
 obtain ⟨_, b2, b3, b4, b5, b6⟩ := run_nums (cmtOps x book) t
 rw [cmt_len] at a2 b6
 exact ⟨by rw [h1, a1], _, h3 a1, a2, a3, a4, b3, b4, b5, b2, b6⟩
theorem LogI.chk (h : LogI w W g d x t book ks) (hc : chkE x t = 0) : Calls Tryz.prog 50 #[ptr g] W fun e W' => e = .returned (.int .i64 0) ∧ LogI w W' g d x t book ks := by
 obtain ⟨s, ⟨c, mb, v, os, h⟩, hI⟩ := h
 refine h.check.mono ?_
 rintro e W' ⟨rfl, m, rfl⟩
 exact ⟨by rw [hc], s, ⟨c, mb, v, os, h.later (below_drewN _ m)⟩, hI⟩
theorem LogI.dread (h : LogI w W g d x t book ks) (hs : t.stopped = false) (hr : Room t) {k : Int} (hk : 0 ≤ k ∧ k < t.n) : Calls Tryz.prog 28 #[ptr d, .int .i64 k] W fun e W' => e = .returned (.tuple #[.agg (blk (curV t k)), .int .i64 0]) ∧ LogI w W' g d x (readS t) book ks := by
 obtain ⟨s, ⟨c, mb, v, os, h⟩, hI⟩ := h
 have href : refV t k = 0 := by unfold refV; rw [hs, if_neg (by simp), if_pos hk]
 refine (dsit_read h.sit hr k).mono ?_
 rintro e W' ⟨rfl, h1⟩
 unfold readV at h1
 rw [if_pos href] at h1
 refine ⟨by unfold readB; rw [if_pos href, href], s, ⟨c, mb, v, os, h.step h1⟩, hI.fine, hI.c.disk rfl fun _ _ => rfl, hI.nd, hI.rng, hI.fast, hI.last, hI.len, hI.steps, hI.commits, hI.room, hI.more⟩
theorem LogI.cur (h : LogI w W g d x t book ks) {k : Int} (hk : Dat x.b x.l k) (hn : k ∉ x.blocks) : curV t k = book k := by
 obtain ⟨s, _, hI⟩ := h
 exact (hI.c.same k hk (decide_eq_false hn)).symm
theorem LogI.syncFree (h : LogI w W g d x t book ks) (hr : refL x t false = 0) (hb : x.blocks ≠ []) (hrm : Rm t (2 * x.blocks.length + 12)) (hcm : x.commits < 1099511627776) (hf : t.fuse = -1) : Calls Tryz.prog 26 #[ptr g] W fun e W' => e = .returned (.int .i64 0) ∧ ∃ t', LogI w W' g d { forgotL x with commits := x.commits + 1 } t' book ks ∧ t'.made = t.made + (2 * x.blocks.length + 6 : Nat) ∧ t'.fuse = -1 ∧ t'.stopped = false ∧ t'.claims = t.claims ∧ t'.claimed = t.claimed ∧ t'.n = t.n ∧ t'.reads = t.reads ∧ t'.ops.length ≤ t.ops.length + (2 * x.blocks.length + 6) := by
 have hs := claimed_live (refL_live hr).1
 refine (h.sync hr hb hrm hcm).mono ?_
 obtain ⟨s, _, hI⟩ := h
 rintro e W' h1
 exact cmt_free h1 hI hs hf
end Go.Proofs.YtichojdcoegboaaGreatW
namespace Go.Proofs.YtichojdcoegboaaGreatW
open Go.RowKit Go.Maps
variable {w W : World} {g d c mb : Nat} {v : Value} {x : LSt} {s : CSt} {t : St} {os ks : List (Nat × Obj)} {base : Nat} {book : Int → Nat → Int}
theorem live_of (h1 : t.stopped = false) (h2 : t.claims = 1) (h3 : t.claimed = true) : claimedV t 1 = true := by unfold claimedV; rw [h1, h2, h3]; rfl
theorem refL_of {o : Bool} (h : claimedV t 1 = true) (hc : x.claim = 1) (ho : x.opn = o) : refL x t o = 0 := by unfold refL; rw [hc, if_pos h, if_pos ho]
theorem refL_step {o : Bool} (h : claimedV t 1 = true) (hc : x.claim = 1) (ho : x.opn ≠ o) : refL x t o = 180 := by unfold refL; rw [hc, if_pos h, if_neg ho]
theorem chk_of (h : claimedV t 1 = true) (hc : x.claim = 1) : chkE x t = 0 := by unfold chkE; rw [hc, if_pos h]
theorem lFine : H.Fine 60 32 5 := by decide
theorem lOf : H.ofV 60 32 5 = .agg (layA 60 32 5) := by unfold H.ofV; rw [if_pos lFine]; rfl
def lx0 : LSt := newX 60 32 5 1
def lx1 : LSt := { lx0 with opn := true, room := 23 }
def lx2 : LSt := { changeL lx1 40 lx1.steps with room := lx1.room - 1 }
def lx3 : LSt := { changeL lx2 41 lx2.steps with room := lx2.room - 1 }
def lx4 : LSt := endX lx3
def lx5 : LSt := { forgotL lx4 with commits := lx4.commits + 1 }
def lx6 : LSt := { lx5 with opn := true, room := 1 }
def lx7 : LSt := { changeL lx6 50 lx6.steps with room := lx6.room - 1 }
def lx8 : LSt := endX lx7
def lt0 : St := claimV (readS (newV 60))
def lb0 : Int → Nat → Int := curV (newV 60)
def lb1 : Int → Nat → Int := fun j => if j = 40 then blkF 4 else lb0 j
def lb2 : Int → Nat → Int := fun j => if j = 41 then blkF 6 else lb1 j
def lb3 : Int → Nat → Int := fun j => if j = 40 then blkF 8 else lb2 j
def lb4 : Int → Nat → Int := fun j => if j = 50 then blkF 2 else lb3 j
theorem lt0_live : claimedV lt0 1 = true := rfl
theorem cur_new (n k : Int) : curV (newV n) k = nought := rfl
theorem tg_new {b l n : Int} (hl : 32 ≤ l) : tgT b l (newV n) = [] ∧ tgE b l (newV n) = 0 := by
 have hz : H.numN nought 0 4 = 0 := rfl
 have ht : H.tgts nought (0 : Int).toNat = [] := rfl
 have hm : H.mayB (1 + l) b (l - 1) [] = true := decide_eq_true ⟨by simp; omega, fun q hq => by simp at hq, List.nodup_nil⟩
 unfold tgT tgE H.decL H.decN
 rw [cur_new, hz, ht, if_pos ⟨by omega, hm⟩, if_pos ⟨by omega, hm⟩]
 exact ⟨rfl, rfl⟩
theorem lRm0 (n : Nat) (hn : n ≤ 100) : Rm lt0 n := by
 refine ⟨?_, ?_, ?_, ?_⟩
 ·show (0 : Nat) + n < _; omega
 ·show (0 : Int) + n < _; omega
 ·show (0 : Int) + 1 + n < _; omega
 ·show (0 : Int) + 1 + n < _; omega
theorem exec_eqB {a : Act} {o : Oper} {x y : Operand} {f : Nat → Int} (ho : o.op = .binOp .eql 64 x y 64) (hx : a.eval x = .agg (blk f)) (hy : a.eval y = .agg (blk f)) (u : World) : (execOp a.eval o).run Tryz.prog u = .ok (.value (.bool true)) u := by
 have e := H.eq30 f f true (by unfold sameB; simp) u
 unfold execOp
 simp only [ho, hx, hy, Sem.run_bind, H.eqg30, e, Result.andThen_ok, Sem.run_pure]
theorem geo_ks {w : World} : ∀ p ∈ [(w.heap.size, Obj.cells #[.int .i64 60, .int .i64 32, .int .i64 5] 26)], (w.alloc (.cells #[.int .i64 60, .int .i64 32, .int .i64 5] 26)).heap[p.1]? = some p.2 := by
 intro p hp
 simp only [List.mem_cons, List.not_mem_nil, or_false] at hp
 subst hp
 exact heap_alloc_new _ _
end Go.Proofs.YtichojdcoegboaaGreatW
namespace Go.Proofs.YtichojdcoegboaaGreatW
open Go.RowKit Go.Maps
end Go.Proofs.YtichojdcoegboaaGreatW
namespace Go.Proofs.YtichojdcoegboaaGreatW
open Go.RowKit Go.Maps
variable {w W : World} {g d c mb : Nat} {v : Value} {x : LSt} {s : CSt} {t : St} {os ks : List (Nat × Obj)} {base : Nat} {book : Int → Nat → Int}
def BgPost (w : World) (g d : Nat) (x : LSt) (r : Int) (t : St) (book : Int → Nat → Int) (ks : List (Nat × Obj)) (e : Ending) (W' : World) : Prop :=
 e = .returned (.int .i64 (runE (cmtOps x book) t)) ∧ (∃ x' s', LogSit w W' g d x' s' (runV (cmtOps x book) t) ks ∧ x'.claim = x.claim) ∧ (runE (cmtOps x book) t = 0 → LogI w W' g d { forgotL x with commits := x.commits + 1, opn := true, room := r } (runV (cmtOps x book) t) book ks)
set_option maxHeartbeats 1600000 in
theorem LogI.beginOver (h : LogI w W g d x t book ks) {r : Int} (hr : refL x t false = 0) (hr1 : 1 ≤ r) (hr2 : r ≤ x.l - 1) (hr3 : x.l - 1 < (x.blocks.length : Int) + r) (hrm : Rm t (2 * x.blocks.length + 12)) (hcm : x.commits < 1099511627776) : Calls Tryz.prog 19 #[ptr g, .int .i64 r] W (BgPost w g d x r t book ks) := by
 obtain ⟨s, ⟨c, mb, v, os, h⟩, hI⟩ := h
 have hl : 32 ≤ x.l ∧ x.l ≤ 256 := ⟨hI.fine.1, hI.fine.2.1⟩
 have hlen := hI.len
 have hc : Calls Tryz.prog 74 #[ptr g, .bool false] W fun e W' => e = .returned (.int .i64 0) ∧ Bg1 W' g (x.l - 1) x.blocks.length ∧ Hid (∀ k, Calls Tryz.prog 76 #[ptr g] (W'.drewN k) (CmtPost w g d x t book ks)) := by
  refine (h.refuses2 false).mono ?_
  rintro e W' ⟨rfl, h1⟩
  exact ⟨by rw [hr], h1.bg1 hl, fun k => (h1.later (below_drewN _ k)).commit hI (claimed_live (refL_live hr).1) hrm hcm⟩
 have HO : Hid (∀ W', LogI w W' g d { forgotL x with commits := x.commits + 1 } (runV (cmtOps x book) t) book ks → LogI w ((W'.setCell ⟨g, 15, none⟩ (.bool true)).setCell ⟨g, 16, none⟩ (.int .i64 r)) g d { forgotL x with commits := x.commits + 1, opn := true, room := r } (runV (cmtOps x book) t) book ks) := fun W' h1 => h1.opened ⟨hr1, by show ((0 : Nat) : Int) + r ≤ x.l - 1; omega⟩
 clear h hr hI hrm
 unfold ptr at *
 generalize hm : x.l - 1 = m at *
 generalize hn : x.blocks.length = n at *
 have hn2 : n ≤ 256 := by omega
 have h1 : ¬ r < 1 := by omega
 have h2 : ¬ m < r := by omega
 have h3 : m < (n : Int) + r := by omega
 go_enter Tryz.func19, Tryz.ntmps19
 go_wp2_with (go_at_call 74; fail)
 refine hc.mono ?_
 rintro e W1 ⟨rfl, ⟨⟨p, cp, c13⟩, hmo, hm0⟩, HC⟩
 go_wp2_with (first | (go_at_call 75; refine hm0.mono ?_; rintro e W2 ⟨rfl, rfl⟩))
 go_quiet (first | (go_at_call 75; refine Calls.quiet_of_same (hmo _)))
 have HC2 := Hid.mk' (HC.out nq)
 clear hmo hm0 HC c13 hc
 go_wp2_with (go_at_call 76; fail)
 refine HC2.out.mono ?_
 rintro e W3 ⟨rfl, h4, h5⟩
 have H4 := Hid.mk' h4
 have H5 := Hid.mk' h5
 clear h4 h5 HC2
 by_cases hE : runE (cmtOps x book) t = 0
 ·obtain ⟨s, h6, _⟩ := H5.out hE
  obtain ⟨c15, f15, c16, f16⟩ := h6.c1516
  have H6 := Hid.mk' (HO.out W3 (H5.out hE))
  have HE := Hid.mk' hE
  rw [hE]
  clear h6 hE H4 H5
  go_wp2
  go_ret
  refine ⟨congrArg (fun z => Ending.returned (.int .i64 z)) HE.out.symm, ?_, fun _ => H6.out⟩
  obtain ⟨s', q, _⟩ := H6.out
  exact ⟨_, s', q, rfl⟩
 ·have HE := Hid.mk' hE
  generalize hGE : runE (cmtOps x book) t = E at *
  have HG := Hid.mk' hGE
  clear hGE
  go_wp2
  go_ret
  exact ⟨congrArg (fun z => Ending.returned (.int .i64 z)) HG.out.symm, H4.out, fun q => absurd (HG.out.symm.trans q) HE.out⟩
theorem cur_fuse (n : Int) : curV (fuseV t n) = curV t ∧ (fuseV t n).n = t.n := by
 unfold fuseV
 split <;> exact ⟨rfl, rfl⟩
theorem LogSit.toSits (h : LogSit w W g d x s t ks) : ∃ c mb v, Sits w W d t ((g, .cells (lgRow g d c mb v x) 110) :: ks) := by
 obtain ⟨c, mb, v, os, h⟩ := h
 obtain ⟨K, L, hc, hd, h0⟩ := h.sit
 refine ⟨c, mb, v, L, hd, h0.cd.disk, h0.newL, h0.below, fun p hp => ?_⟩
 rcases List.mem_cons.1 hp with rfl | hp
 ·refine ⟨h.log.row, fun q => ?_⟩
  obtain ⟨_, o, ho⟩ := h.own g (.inl rfl)
  exact (h0.keep _ (List.mem_append.2 (.inl ho))).2.2 q
 ·obtain ⟨a1, _, a3⟩ := h0.keep p (List.mem_append.2 (.inr hp))
  exact ⟨a1, a3⟩
theorem sits_claimed2 (h : Sits w W d t ks) (k : Int) : Calls Tryz.prog 98 #[.pointer (some ⟨d, 0, none⟩), .int .i64 k] W fun e W' => e = .returned (.bool (claimedV t k)) ∧ W' = W := by
 obtain ⟨L, rfl, hS⟩ := h
 exact claimed_of hS.disk k
theorem dead_check (h : Sits w W d t ks) (hm : (g, .cells (lgRow g d c mb v x) 110) ∈ ks) (hd : claimedV t x.claim = false) : Calls Tryz.prog 50 #[ptr g] W fun e W' => e = .returned (.int .i64 3) ∧ ∃ m, W' = W.drewN m := by
 have hn := neq26
 have hrow := h.blk hm
 have c0 : W.cell? ⟨g, 0, none⟩ = some (ptr g) := Joins.cell_of_block hrow 0
 have c1 : W.cell? ⟨g, 1, none⟩ = some (ptr d) := Joins.cell_of_block hrow 1
 have c2 : W.cell? ⟨g, 2, none⟩ = some (.int .i64 x.claim) := Joins.cell_of_block hrow 2
 have hq : ∀ n, Calls Tryz.prog 98 #[ptr d, .int .i64 x.claim] (W.drewN n) fun e W' => e = .returned (.bool false) ∧ W' = W.drewN n := fun n => by
  have := sits_claimed2 (h.later (below_drewN W n)) x.claim
  rw [hd] at this
  exact this
 clear h hrow hd
 unfold ptr at *
 go_enter Tryz.func50, Tryz.ntmps50
 go_wp2
 go_quiet (first | (go_at_call 98; refine Calls.quiet_of_same (hq _)))
 go_wp2
 go_ret
 exact ⟨rfl, _, rfl⟩
end Go.Proofs.YtichojdcoegboaaGreatW
namespace Go.Proofs.YtichojdcoegboaaGreatW
open Go.RowKit Go.Maps
variable {w W : World} {g d c mb : Nat} {v : Value} {x : LSt} {s : CSt} {t : St} {os ks : List (Nat × Obj)} {base : Nat} {book : Int → Nat → Int}
theorem Sits.addNew {W' : World} {q : Nat} {o : Obj} (h : Sits w W d t ks) (hb : Below W.heap.size W W') (hq : W.heap.size ≤ q) (ho : W'.heap[q]? = some o) : Sits w W' d t ((q, o) :: ks) := by
 obtain ⟨L, hd, h⟩ := h
 have h2 := h.goes (h.disk.later hb) (Goes.ofBelow L hb)
 refine ⟨L, hd, h2.disk, h2.new, h2.below, fun p hp => ?_⟩
 rcases List.mem_cons.1 hp with rfl | hp
 ·exact ⟨ho, fun q2 => by have := h.disk.lt _ q2; simp only at this; omega⟩
 ·exact h2.keep p hp
set_option maxRecDepth 20000 in
set_option maxHeartbeats 1600000 in
theorem committed_at {b l i : Int} (h : Sits w W d t ks) (hf : H.Fine b l i) (hn : b ≤ t.n) (hs : t.stopped = false) (hr : Room t) : Calls Tryz.prog 69 #[ptr d, .agg (layA b l i)] W fun e W' => ∃ p, e = .returned (.tuple #[.slice p (tgT b l t).length (tgT b l t).length, .int .i64 (tgE b l t)]) ∧ ((p = none ∧ tgT b l t = []) ∧ Sits w W' d (readS t) ks ∨ ∃ q, p = some ⟨q, 0, none⟩ ∧ Sits w W' d (readS t) ((q, .cells (H.listRow (tgT b l t)) 3) :: ks)) := by
 have hA := h.add (.cells (layA b l i) 59)
 have hrow := heap_alloc_new W (.cells (layA b l i) 59)
 have hsz : (layA b l i).size = 9 := rfl
 have hlen := sits_len2 hA
 have hpos := H.Fine.pos hf
 have hnn : ¬ t.n = 0 := by omega
 have hbn : ¬ t.n < b := by omega
 have hok := h.ok
 have HE : Hid (∀ V, Calls Tryz.prog 103 #[.agg (layA b l i), .agg #[.slice none 0 0]] V fun e W' => e = .returned (.tuple #[.agg (blk (H.headF [])), .int .i64 0]) ∧ Below V.heap.size V W') := fun V =>
  H.enc_ok b l i 1 (1 + l) (H.nodeB i) (H.bitsAt l i) (H.bitsB b) (H.dataAt b l i) [] none 0 V (fine_i64 hf) (lay_fine hf) ⟨hf.1, hf.2.1⟩ (fun q => by simp at q) (fun q hq => by simp at hq) (by simp) (decide_eq_true ⟨by have := hf.1; simp; omega, fun q hq => by simp at hq, List.nodup_nil⟩)
 have hcan := curV_can hok 1
 have HD : Hid (∀ V, Calls Tryz.prog 104 #[.agg (layA b l i), .agg (blk (curV t 1))] V fun e' w' => ∃ p, e' = .returned (.tuple #[.agg #[.slice p (tgT b l t).length (tgT b l t).length], .int .i64 (tgE b l t)]) ∧ (p = none ∧ tgT b l t = [] ∨ ∃ q, p = some ⟨q, 0, none⟩ ∧ V.heap.size ≤ q ∧ w'.heap[q]? = some (.cells (H.listRow (tgT b l t)) 3)) ∧ Below V.heap.size V w') := fun V =>
  H.dec_all b l i 1 (1 + l) (H.nodeB i) (H.bitsAt l i) (H.bitsB b) (H.dataAt b l i) (curV t 1) V (fine_i64 hf) (lay_fine hf) ⟨hf.1, hf.2.1⟩ hcan.1
 have href : refV t 1 = 0 := by unfold refV; rw [hs, if_neg (by simp), if_pos ⟨by omega, by omega⟩]
 have HR : Hid (∀ V, Below (W.alloc (.cells (layA b l i) 59)).heap.size (W.alloc (.cells (layA b l i) 59)) V → V.heap[W.heap.size]? = some (.cells (layA b l i) 59) ∧ V.cell? ⟨W.heap.size, 0, none⟩ = some (.int .i64 b) ∧ V.cell? ⟨W.heap.size, 3, none⟩ = some (.int .i64 1) ∧ (∀ k, Calls Tryz.prog 102 #[.pointer (some ⟨d, 0, none⟩)] (V.drewN k) fun e W' => e = .returned (.int .i64 t.n) ∧ W' = V.drewN k) ∧ Hid (∀ k, Calls Tryz.prog 28 #[.pointer (some ⟨d, 0, none⟩), .int .i64 1] (V.drewN k) fun e W' => e = .returned (.tuple #[.agg (blk (curV t 1)), .int .i64 0]) ∧ Sits w W' d (readS t) ((W.heap.size, .cells (layA b l i) 59) :: ks))) := fun V hb => by
  have h1 := hA.later hb
  have h2 := heap_kept hrow hb
  refine ⟨h2, Joins.cell_of_block h2 0, Joins.cell_of_block h2 3, fun k => sits_len2 (h1.later (below_drewN _ k)), fun k => ?_⟩
  have h3 := sits_read (h1.later (below_drewN _ k)) hr 1
  unfold readB readV at h3
  rw [href, if_pos rfl, if_pos rfl] at h3
  exact h3
 have HB0 := Hid.mk' (below_new W (.cells (layA b l i) 59))
 clear h hA hf hn hs hr hok hcan href hpos
 unfold ptr at *
 generalize layA b l i = L at *
 generalize curV t 1 = Fc at *
 generalize hTL : tgT b l t = T at *
 generalize tgE b l t = E at *
 have z25 := zero25
 go_enter Tryz.func69, Tryz.ntmps69
 go_wp2_with (first | (go_at_call 102; refine hlen.mono ?_; rintro e W1 ⟨rfl, rfl⟩) | refine wpList_load_row rfl 59 (.tmp 3) rfl W.heap.size rfl 59 L (0, 0) _ hrow Tryz.underlying59 rfl (by rw [hsz]; exact H.size25L) ?_ | (go_at_call 103; fail))
 refine (HE.out _).mono ?_
 rintro e W1 ⟨rfl, hb1⟩
 obtain ⟨hrow2, c0, c3, hlen2, hrd⟩ := HR.out _ (below_next hb1 (below_new W1 (.cells (blk (H.headF [])) 64)))
 have HB1 := Hid.mk' (below_next (below_next HB0.out hb1) (below_new W1 (.cells (blk (H.headF [])) 64)))
 clear hb1 hlen HE HR hrow HB0
 go_wp2_with (first | refine wpList_store25_new rfl (.tmp 6) (.tmp 18) rfl (H.headF []) _ rfl rfl ?_)
 generalize W1.alloc (.cells (blk (H.headF [])) 64) = W2 at *
 go_quiet (first | (go_at_call 102; refine Calls.quiet_of_same (hlen2 _)))
 have hrd2 := hrd.out nq
 have hrow3 : (W2.drewN nq).heap[W.heap.size]? = some (.cells L 59) := hrow2
 clear hlen2 hrd hrow2
 go_wp2_with (go_at_call 28; fail)
 refine hrd2.mono ?_
 rintro e W3 ⟨rfl, h3⟩
 have H3 := Hid.mk' (h3.add (.cells (blk Fc) 64))
 have hrow4 := H3.out.blk (List.mem_cons_of_mem _ (List.mem_cons_self ..))
 have hblk4 := H3.out.blk (List.mem_cons_self ..)
 clear hrd2 h3 hrow3 c0 c3
 go_wp2_with (first | refine wpList_store25_new rfl (.tmp 8) (.tmp 35) rfl Fc _ rfl rfl ?_ | refine wpList_load_row rfl 59 (.tmp 3) rfl W.heap.size rfl 59 L (0, 0) _ hrow4 Tryz.underlying59 rfl (by rw [hsz]; exact H.size25L) ?_ | refine wpList_load25 rfl (.tmp 8) rfl W3.heap.size rfl Fc hblk4 ?_ | (go_at_call 104; fail))
 refine (HD.out _).mono ?_
 rintro e W4 ⟨p, rfl, hp, hb4⟩
 have H4 : Hid ((p = none ∧ T = []) ∧ Sits w W4 d (readS t) ks ∨ ∃ q, p = some ⟨q, 0, none⟩ ∧ Sits w W4 d (readS t) ((q, .cells (H.listRow T) 3) :: ks)) := by
  have hd : ∀ q ∈ ks, q ∈ (W3.heap.size, Obj.cells (blk Fc) 64) :: (W.heap.size, .cells L 59) :: ks := fun q hq => List.mem_cons_of_mem _ (List.mem_cons_of_mem _ hq)
  rcases hp with hp | ⟨q, hq1, hq2, hq3⟩
  ·exact .inl ⟨hp, (H3.out.later hb4).drop hd⟩
  ·exact .inr ⟨q, hq1, (H3.out.drop hd).addNew hb4 hq2 hq3⟩
 clear hp hb4 H3 hrow4 hblk4 HD hTL
 go_wp2
 go_ret2
 refine ⟨p, rfl, ?_⟩
 rcases H4.out with ⟨q1, q2⟩ | ⟨q, q1, q2⟩
 ·exact .inl ⟨q1, q2.later (below_new _ _)⟩
 ·exact .inr ⟨q, q1, q2.later (below_new _ _)⟩
set_option maxRecDepth 20000 in
set_option maxHeartbeats 800000 in
theorem sits_setHeader (h : Sits w W d t ks) (b l i : Int) {f : Nat → Int} (hf : Can f) (hr : Rm t 3) : Calls Tryz.prog 93 #[ptr d, .agg (layA b l i), .agg (blk f)] W fun e W' => e = .returned (.int .i64 (runE [some (1, f), none] t)) ∧ Sits w W' d (runV [some (1, f), none] t) ks := by
 have hA := ((h.add (.cells (layA b l i) 59)).add (.cells (blk f) 64))
 have hw := sits_write hA hr.room 1 hf
 have h31 : ((W.alloc (.cells (layA b l i) 59)).alloc (.cells (blk f) 64)).cell? ⟨W.heap.size, 3, none⟩ = some (.int .i64 1) := Joins.cell_of_block (hA.blk (List.mem_cons_of_mem _ (List.mem_cons_self ..))) 3
 have hblk := hA.blk (List.mem_cons_self ..)
 have hszA : (W.alloc (.cells (layA b l i) 59)).heap.size = W.heap.size + 1 := by simp
 rw [hszA] at hblk
 have hb2 : ∀ W', Sits w W' d (writeV t 1 f) ((((W.alloc (.cells (layA b l i) 59)).heap.size, Obj.cells (blk f) 64)) :: (W.heap.size, .cells (layA b l i) 59) :: ks) → Calls Tryz.prog 92 #[ptr d] W' fun e W'' => e = .returned (.int .i64 (barE (writeV t 1 f))) ∧ Sits w W'' d (barV (writeV t 1 f)) ks := fun W' h1 =>
  (sits_barrier h1 (Rm.room (n := 1) (hr.dop (some (1, f))))).mono fun e W'' ⟨a1, a2⟩ => ⟨a1, a2.drop fun p hp => List.mem_cons_of_mem _ (List.mem_cons_of_mem _ hp)⟩
 have hsz : (layA b l i).size = 9 := rfl
 by_cases he : writeE t 1 = 0
 ·have e1 : runE [some (1, f), none] t = barE (writeV t 1 f) := by
   show (if writeE t 1 = 0 then (if barE (writeV t 1 f) = 0 then 0 else barE (writeV t 1 f)) else writeE t 1) = _
   rw [if_pos he]
   split
   ·rename_i q; exact q.symm
   ·rfl
  have e2 : runV [some (1, f), none] t = barV (writeV t 1 f) := by
   show (if writeE t 1 = 0 then (if barE (writeV t 1 f) = 0 then barV (writeV t 1 f) else barV (writeV t 1 f)) else writeV t 1 f) = _
   rw [if_pos he]
   split <;> rfl
  rw [e1, e2]
  rw [he] at hw
  have HW := Hid.mk' hw
  have HB2 := Hid.mk' hb2
  clear hw hb2 h hA hr hszA
  unfold ptr at HW ⊢
  generalize hF : blk f = F at *
  generalize hL : layA b l i = L at *
  go_enter Tryz.func93, Tryz.ntmps93
  go_wp2_with (first | (go_at_call 110; fail) | refine wpList_load_row rfl 64 (.tmp 5) rfl (W.heap.size + 1) rfl 64 F (0, 0) _ hblk Tryz.underlying64 rfl (by subst hF; rw [blk_size]; exact size25) ?_)
  refine HW.out.mono ?_
  rintro e W1 ⟨rfl, h1⟩
  have HB3 := Hid.mk' (HB2.out W1 h1)
  unfold ptr at HB3
  clear h1 HB2 HW
  go_wp2_with (go_at_call 92; fail)
  refine HB3.out.mono ?_
  rintro e W2 ⟨rfl, h2⟩
  have H2 := Hid.mk' h2
  clear h2 HB3
  go_wp2
  go_ret
  exact ⟨rfl, H2.out⟩
 ·have e1 : runE [some (1, f), none] t = writeE t 1 := by
   show (if writeE t 1 = 0 then (if barE (writeV t 1 f) = 0 then 0 else barE (writeV t 1 f)) else writeE t 1) = _
   rw [if_neg he]
  have e2 : runV [some (1, f), none] t = writeV t 1 f := by
   show (if writeE t 1 = 0 then (if barE (writeV t 1 f) = 0 then barV (writeV t 1 f) else barV (writeV t 1 f)) else writeV t 1 f) = _
   rw [if_neg he]
  rw [e1, e2]
  have HW := Hid.mk' hw
  clear hw hb2 h hA hr hszA
  unfold ptr at HW ⊢
  generalize writeE t 1 = E at *
  generalize hF : blk f = F at *
  generalize hL : layA b l i = L at *
  go_enter Tryz.func93, Tryz.ntmps93
  go_wp2_with (first | (go_at_call 110; fail) | refine wpList_load_row rfl 64 (.tmp 5) rfl (W.heap.size + 1) rfl 64 F (0, 0) _ hblk Tryz.underlying64 rfl (by subst hF; rw [blk_size]; exact size25) ?_)
  refine HW.out.mono ?_
  rintro e W1 ⟨rfl, h1⟩
  have H1 := Hid.mk' (h1.drop (ks' := ks) fun p hp => List.mem_cons_of_mem _ (List.mem_cons_of_mem _ hp))
  clear h1 HW
  go_wp2
  go_ret
  exact ⟨rfl, H1.out⟩
def moE (t : St) (c : Int × Int) : Int := if refV t c.1 = 0 then writeE (readS t) c.2 else refV t c.1
def moV (t : St) (c : Int × Int) : St := if refV t c.1 = 0 then writeV (readS t) c.2 (curV t c.1) else t
def mE : List (Int × Int) → St → Int
 | [], _ => 0
 | o :: r, t => if moE t o = 0 then mE r (moV t o) else moE t o
def mV : List (Int × Int) → St → St
 | [], t => t
 | o :: r, t => if moE t o = 0 then mV r (moV t o) else moV t o
theorem mE_append : ∀ (a b : List (Int × Int)) (t : St), mE (a ++ b) t = if mE a t = 0 then mE b (mV a t) else mE a t
 | [], b, t => by simp [mE, mV]
 | o :: r, b, t => by
  show (if moE t o = 0 then mE (r ++ b) (moV t o) else moE t o) = if (if moE t o = 0 then mE r (moV t o) else moE t o) = 0 then mE b (if moE t o = 0 then mV r (moV t o) else moV t o) else (if moE t o = 0 then mE r (moV t o) else moE t o)
  by_cases h : moE t o = 0
  ·simp only [if_pos h]
   exact mE_append r b _
  ·simp only [if_neg h]
theorem mV_append : ∀ (a b : List (Int × Int)) (t : St), mV (a ++ b) t = if mE a t = 0 then mV b (mV a t) else mV a t
 | [], b, t => by simp [mE, mV]
 | o :: r, b, t => by
  show (if moE t o = 0 then mV (r ++ b) (moV t o) else moV t o) = if (if moE t o = 0 then mE r (moV t o) else moE t o) = 0 then mV b (if moE t o = 0 then mV r (moV t o) else moV t o) else (if moE t o = 0 then mV r (moV t o) else moV t o)
  by_cases h : moE t o = 0
  ·simp only [if_pos h]
   exact mV_append r b _
  ·simp only [if_neg h]
def mvs (T : List Int) (i : Nat) : List (Int × Int) := (List.range i).map fun (j : Nat) => (2 + (j : Int), T.getD j 0)
theorem mvs_len (T : List Int) (i : Nat) : (mvs T i).length = i := by simp [mvs]
theorem mvs_succ {T : List Int} {i : Nat} {y : Int} (h : T[i]? = some y) : mvs T (i + 1) = mvs T i ++ [(2 + (i : Int), y)] := by
 unfold mvs
 rw [List.range_succ, List.map_append]
 simp [List.getD, h]
theorem mvs_more (T : List Int) (i : Nat) : ∀ n, i ≤ n → ∃ r, mvs T n = mvs T i ++ r
 | 0, h => ⟨[], by obtain rfl : i = 0 := (by omega); simp⟩
 | n + 1, h => by
  by_cases e : i = n + 1
  ·exact ⟨[], by rw [e]; simp⟩
  ·obtain ⟨r, hr⟩ := mvs_more T i n (by omega)
   refine ⟨r ++ [(2 + (n : Int), T.getD n 0)], ?_⟩
   rw [← List.append_assoc, ← hr]
   unfold mvs
   rw [List.range_succ, List.map_append]
   rfl
theorem mv_snoc {a : List (Int × Int)} {o : Int × Int} (h : mE a t = 0) : mE (a ++ [o]) t = moE (mV a t) o ∧ mV (a ++ [o]) t = moV (mV a t) o := by
 rw [mE_append, mV_append, if_pos h, if_pos h]
 constructor
 ·show (if moE (mV a t) o = 0 then 0 else moE (mV a t) o) = _
  split
  ·rename_i q; exact q.symm
  ·rfl
 ·show (if moE (mV a t) o = 0 then moV (mV a t) o else moV (mV a t) o) = _
  split <;> rfl
theorem mv_ended {a b : List (Int × Int)} (h : mE a t ≠ 0) : mE (a ++ b) t = mE a t ∧ mV (a ++ b) t = mV a t := by
 rw [mE_append, mV_append, if_neg h, if_neg h]
 exact ⟨rfl, rfl⟩
theorem mo_nums (t : St) (o : Int × Int) : (moV t o).made ≤ t.made + 1 ∧ (moV t o).reads ≤ t.reads + 1 ∧ (moV t o).claims = t.claims ∧ (moV t o).claimed = t.claimed ∧ (moV t o).n = t.n ∧ (moV t o).ops.length ≤ t.ops.length + 1 := by
 unfold moV
 split
 ·obtain ⟨a1, a2, a3, a4, a5, a6⟩ := dop_nums (readS t) (some (o.2, curV t o.1))
  exact ⟨a1, by show (writeV (readS t) o.2 (curV t o.1)).reads ≤ _; rw [show (writeV (readS t) o.2 (curV t o.1)).reads = (readS t).reads from a2]; exact Int.le_refl _, a3, a4, a5, a6⟩
 ·exact ⟨by omega, by omega, rfl, rfl, rfl, by omega⟩
theorem mv_nums : ∀ (l : List (Int × Int)) (t : St), (mV l t).made ≤ t.made + l.length ∧ (mV l t).reads ≤ t.reads + l.length ∧ (mV l t).claims = t.claims ∧ (mV l t).claimed = t.claimed ∧ (mV l t).n = t.n ∧ (mV l t).ops.length ≤ t.ops.length + l.length
 | [], t => by simp [mV]
 | o :: r, t => by
  obtain ⟨a1, a2, a3, a4, a5, a6⟩ := mo_nums t o
  obtain ⟨b1, b2, b3, b4, b5, b6⟩ := mv_nums r (moV t o)
  unfold mV
  split
  ·exact ⟨by simp only [List.length_cons]; omega, by simp only [List.length_cons]; omega, b3.trans a3, b4.trans a4, b5.trans a5, by simp only [List.length_cons]; omega⟩
  ·exact ⟨by simp only [List.length_cons]; omega, by simp only [List.length_cons]; omega, a3, a4, a5, by simp only [List.length_cons]; omega⟩
theorem Rm.moves {n : Nat} {l : List (Int × Int)} (h : Rm t (n + l.length)) : Rm (mV l t) n := by
 obtain ⟨h1, h2, h3, h4⟩ := h
 obtain ⟨b1, b2, b3, b4, b5, b6⟩ := mv_nums l t
 exact ⟨by omega, by omega, by omega, by omega⟩
theorem Rm.readS {n : Nat} (h : Rm t (n + 1)) : Rm (readS t) n := by
 obtain ⟨h1, h2, h3, h4⟩ := h
 refine ⟨?_, ?_, ?_, ?_⟩
 ·show t.ops.length + n < _; omega
 ·show t.made + n < _; omega
 ·show t.reads + 1 + n < _; omega
 ·show t.claims + n < _; omega
set_option maxRecDepth 20000 in
set_option maxHeartbeats 800000 in
theorem sits_move (h : Sits w W d t ks) (hr : Rm t 2) (a b : Int) : Calls Tryz.prog 90 #[ptr d, .int .i64 a, .int .i64 b] W fun e W' => e = .returned (.int .i64 (moE t (a, b))) ∧ Sits w W' d (moV t (a, b)) ks := by
 have hrd := sits_read h (Rm.room hr) a
 have hok := h.ok
 have z25 := zero25
 unfold ptr
 unfold moE moV
 unfold readB readV at hrd
 by_cases href : refV t a = 0
 ·simp only [href, if_true] at hrd ⊢
  have HWr : Hid (∀ V, Sits w V d (readS t) ks → Calls Tryz.prog 110 #[.pointer (some ⟨d, 0, none⟩), .int .i64 b, .agg (blk (curV t a))] (V.alloc (.cells (blk (curV t a)) 64)) fun e W' => e = .returned (.int .i64 (writeE (readS t) b)) ∧ Sits w W' d (writeV (readS t) b (curV t a)) ks) := fun V h1 => sits_write (h1.later (below_new _ _)) (Rm.room hr.readS) b (curV_can hok a)
  clear h hok
  generalize curV t a = F at *
  go_enter Tryz.func90, Tryz.ntmps90
  go_wp2_with (go_at_call 28; fail)
  refine hrd.mono ?_
  rintro e W1 ⟨rfl, h1⟩
  have H1 := Hid.mk' (HWr.out W1 h1)
  clear h1 HWr hrd
  go_wp2_with (first | refine wpList_store25_new rfl (.tmp 7) (.tmp 13) rfl F _ rfl rfl ?_ | refine wpList_load25 rfl (.tmp 7) rfl W1.heap.size rfl F (heap_alloc_new _ _) ?_ | (go_at_call 110; fail))
  refine H1.out.mono ?_
  rintro e W2 ⟨rfl, h2⟩
  have H2 := Hid.mk' h2
  clear h2 H1
  go_wp2
  go_ret
  exact ⟨rfl, H2.out⟩
 ·simp only [href, if_false] at hrd ⊢
  clear h hok
  generalize refV t a = E at *
  go_enter Tryz.func90, Tryz.ntmps90
  go_wp2_with (go_at_call 28; fail)
  refine hrd.mono ?_
  rintro e W1 ⟨rfl, h1⟩
  have H1 := Hid.mk' (h1.later (below_new W1 (.cells (blk nought) 64)))
  clear h1 hrd
  go_wp2_with (first | refine wpList_store25_new rfl (.tmp 7) (.tmp 13) rfl nought _ rfl rfl ?_)
  go_ret
  exact ⟨rfl, H1.out⟩
end Go.Proofs.YtichojdcoegboaaGreatW
namespace Go.Proofs.YtichojdcoegboaaGreatW
open Go.RowKit Go.Maps
variable {w W : World} {g d c mb : Nat} {v : Value} {x : LSt} {s : CSt} {t : St} {os ks : List (Nat × Obj)} {base : Nat} {book : Int → Nat → Int}
def rcE (T : List Int) (t : St) : Int := if mE (mvs T T.length) t = 0 then runE [none, some (1, nought), none] (mV (mvs T T.length) t) else mE (mvs T T.length) t
def rcV (T : List Int) (t : St) : St := if mE (mvs T T.length) t = 0 then runV [none, some (1, nought), none] (mV (mvs T T.length) t) else mV (mvs T T.length) t
set_option maxRecDepth 20000 in
set_option maxHeartbeats 800000 in
theorem recover_empty {b l i : Int} (h : Sits w W d t ks) (hf : H.Fine b l i) (hn : b ≤ t.n) (hs : t.stopped = false) (hr : Rm t 2) (hT : tgT b l t = []) : Calls Tryz.prog 45 #[ptr d, .agg (layA b l i)] W fun e W' => e = .returned (.tuple #[.int .i64 0, .int .i64 (tgE b l t)]) ∧ Sits w W' d (readS t) ks := by
 have hA := h.add (.cells (layA b l i) 59)
 have hrow := heap_alloc_new W (.cells (layA b l i) 59)
 have hsz : (layA b l i).size = 9 := rfl
 have hc := Hid.mk' (committed_ok hA hf hn hs (Rm.room hr))
 rw [hT] at hc
 clear h hA hf hn hs hr hT
 unfold ptr at *
 generalize layA b l i = L at *
 generalize tgE b l t = E at *
 go_enter Tryz.func45, Tryz.ntmps45
 go_wp2_with (first | refine wpList_load_row rfl 59 (.tmp 3) rfl W.heap.size rfl 59 L (0, 0) _ hrow Tryz.underlying59 rfl (by rw [hsz]; exact H.size25L) ?_ | (go_at_call 69; fail))
 refine hc.out.mono ?_
 rintro e W1 ⟨p, rfl, _, h1⟩
 have H1 := Hid.mk' (h1.drop (ks' := ks) fun q hq => List.mem_cons_of_mem _ hq)
 clear h1 hc hrow
 by_cases hE : E = 0
 ·subst hE
  go_wp2
  go_ret2
  exact ⟨rfl, H1.out⟩
 ·go_wp2
  go_ret2
  exact ⟨rfl, H1.out⟩
def RcI (w : World) (d : Nat) (T : List Int) (t : St) (ks : List (Nat × Obj)) (k : Nat) (wx : World) : Prop := Sits w wx d (mV (mvs T k) t) ks ∧ mE (mvs T k) t = 0
theorem RcI.move {T : List Int} {k : Nat} {wx : World} {y : Int} (h : RcI w d T t ks k wx) (hy : T[k]? = some y) (hr : Rm t (T.length + 2)) :
  Calls Tryz.prog 90 #[ptr d, .int .i64 (2 + (k : Int)), .int .i64 y] wx fun e W' => (e = .returned (.int .i64 0) ∧ RcI w d T t ks (k + 1) W') ∨ (∃ E, E ≠ 0 ∧ e = .returned (.int .i64 E) ∧ rcE T t = E ∧ Sits w W' d (rcV T t) ks) := by
 obtain ⟨h1, h2⟩ := h
 have hk := (List.getElem?_eq_some_iff.1 hy).1
 have hRm : Rm (mV (mvs T k) t) 2 := Rm.moves (hr.le (by rw [mvs_len]; omega))
 refine (sits_move h1 hRm (2 + (k : Int)) y).mono ?_
 rintro e W' ⟨rfl, h3⟩
 obtain ⟨r1, r2⟩ := mv_snoc (o := (2 + (k : Int), y)) h2
 rw [← mvs_succ hy] at r1 r2
 by_cases he : moE (mV (mvs T k) t) (2 + (k : Int), y) = 0
 ·exact .inl ⟨by rw [he], by rw [r2]; exact h3, by rw [r1]; exact he⟩
 ·obtain ⟨r, hr2⟩ := mvs_more T (k + 1) T.length (by omega)
  have h6 : mE (mvs T (k + 1)) t ≠ 0 := by rw [r1]; exact he
  obtain ⟨q1, q2⟩ := mv_ended (b := r) h6
  rw [← hr2] at q1 q2
  have h7 : mE (mvs T T.length) t ≠ 0 := by rw [q1]; exact h6
  refine .inr ⟨_, he, rfl, ?_, ?_⟩
  ·unfold rcE
   rw [if_neg h7, q1, r1]
  ·unfold rcV
   rw [if_neg h7, q2, r2]
   exact h3
def RcPost (w : World) (d : Nat) (T : List Int) (t : St) (ks : List (Nat × Obj)) (e : Ending) (W' : World) : Prop := e = .returned (.tuple #[.int .i64 (if rcE T t = 0 then (T.length : Int) else 0), .int .i64 (rcE T t)]) ∧ Sits w W' d (rcV T t) ks
theorem rc_bad {T : List Int} {E : Int} (h : rcE T t = E) (h0 : E ≠ 0) (hs : Sits w W d (rcV T t) ks) : RcPost w d T t ks (.returned (.tuple #[.int .i64 0, .int .i64 E])) W := by
 refine ⟨?_, hs⟩
 rw [h, if_neg h0]
theorem rc_fine {T : List Int} (h : rcE T t = 0) (hs : Sits w W d (rcV T t) ks) : RcPost w d T t ks (.returned (.tuple #[.int .i64 (T.length : Int), .int .i64 0])) W := by
 refine ⟨?_, hs⟩
 rw [h, if_pos rfl]
set_option maxRecDepth 20000 in
set_option maxHeartbeats 4000000 in
theorem recover_some {b l i : Int} (h : Sits w W d t ks) (hf : H.Fine b l i) (hn : b ≤ t.n) (hs : t.stopped = false) (hT : tgT b l t ≠ []) (hE : tgE b l t = 0) (hlen : (tgT b l t).length ≤ 255) (hr : Rm t ((tgT b l t).length + 8)) : Calls Tryz.prog 45 #[ptr d, .agg (layA b l i)] W (RcPost w d (tgT b l t) (readS t) ks) := by
 have hA := h.add (.cells (layA b l i) 59)
 have hrow := heap_alloc_new W (.cells (layA b l i) 59)
 have hsz : (layA b l i).size = 9 := rfl
 have hc := Hid.mk' (committed_at hA hf hn hs (Rm.room (n := (tgT b l t).length + 7) hr))
 rw [hE] at hc
 have hr1 : Rm (readS t) ((tgT b l t).length + 7) := hr.readS
 have hpos : 0 < (tgT b l t).length := List.length_pos_iff.2 hT
 generalize tgT b l t = T at *
 generalize readS t = t1 at *
 have HM : Hid (∀ k wx ks' y, RcI w d T t1 ks' k wx → T[k]? = some y → Calls Tryz.prog 90 #[ptr d, .int .i64 (2 + (k : Int)), .int .i64 y] wx fun e W' => (e = .returned (.int .i64 0) ∧ RcI w d T t1 ks' (k + 1) W') ∨ (∃ E, E ≠ 0 ∧ e = .returned (.int .i64 E) ∧ rcE T t1 = E ∧ Sits w W' d (rcV T t1) ks')) := fun k wx ks' y h1 hy => h1.move hy (hr1.le (by omega))
 have HB : Hid (∀ wx ks', RcI w d T t1 ks' T.length wx → Calls Tryz.prog 92 #[ptr d] wx fun e W' => e = .returned (.int .i64 (barE (mV (mvs T T.length) t1))) ∧ Sits w W' d (barV (mV (mvs T T.length) t1)) ks' ∧ rcE T t1 = runE [none, some (1, nought), none] (mV (mvs T T.length) t1) ∧ rcV T t1 = runV [none, some (1, nought), none] (mV (mvs T T.length) t1) ∧ Rm (barV (mV (mvs T T.length) t1)) 4) := fun wx ks' h1 => by
  obtain ⟨h1, h2⟩ := h1
  have hRm : Rm (mV (mvs T T.length) t1) 5 := Rm.moves (hr1.le (by rw [mvs_len]; omega))
  refine (sits_barrier h1 (Rm.room (n := 4) hRm)).mono ?_
  rintro e W' ⟨rfl, h3⟩
  exact ⟨rfl, h3, by unfold rcE; rw [if_pos h2], by unfold rcV; rw [if_pos h2], hRm.dop none⟩
 have HH : Hid (∀ wx ks' t2, Sits w wx d t2 ks' → Rm t2 4 → Calls Tryz.prog 93 #[ptr d, .agg (layA b l i), .agg (blk nought)] wx fun e W' => e = .returned (.int .i64 (runE [some (1, nought), none] t2)) ∧ Sits w W' d (runV [some (1, nought), none] t2) ks') := fun wx ks' t2 h1 h2 => sits_setHeader h1 b l i can_nought (h2.le (by omega))
 have HI : Hid (∀ (j : Int) V, (0 ≤ j ∧ j ≤ 1048576) → Calls Tryz.prog 91 #[.agg (layA b l i), .int .i64 j] V fun e W' => e = .returned (.int .i64 (2 + j)) ∧ W' = V.alloc (.cells (layA b l i) 59)) := fun j V hj => inLog_any b l i j hj V
 clear h hA hf hn hs hr hr1 hE hT
 unfold ptr at *
 generalize layA b l i = L at *
 have z25 := zero25
 go_enter Tryz.func45, Tryz.ntmps45
 go_wp2_with (first | refine wpList_load_row rfl 59 (.tmp 3) rfl W.heap.size rfl 59 L (0, 0) _ hrow Tryz.underlying59 rfl (by rw [hsz]; exact H.size25L) ?_ | (go_at_call 69; fail))
 refine hc.out.mono ?_
 rintro e W1 ⟨p, rfl, hp⟩
 have hp2 : ∃ q, p = some ⟨q, 0, none⟩ ∧ Sits w W1 d t1 ((q, .cells (H.listRow T) 3) :: (W.heap.size, .cells L 59) :: ks) := by
  rcases hp with ⟨⟨_, q⟩, _⟩ | q
  ·rw [q] at hpos; simp at hpos
  ·exact q
 clear hp hc hrow
 obtain ⟨q, rfl, h1⟩ := hp2
 have H1 : Hid (RcI w d T t1 ((q, .cells (H.listRow T) 3) :: (W.heap.size, .cells L 59) :: ks) 0 W1) := ⟨h1, rfl⟩
 clear h1
 have HT : Hid (∀ k, k < T.length → ∃ y, T[k]? = some y ∧ (H.listRow T)[k]? = some (.int .i64 y)) := fun k hk => ⟨T[k], List.getElem?_eq_getElem hk, by unfold H.listRow; simp [hk]⟩
 generalize hTn : T.length = n at *
 have hn0 : ¬ (n : Int) = 0 := by omega
 have hnb : ((n : Int) == 0) = false := by simpa using hn0
 go_wp2
 go_loopw [29] (fun s29 wx => ∃ k : Nat, k ≤ n ∧ s29 = .int .i64 k ∧ Hid (RcI w d T t1 ((q, .cells (H.listRow T) 3) :: (W.heap.size, .cells L 59) :: ks) k wx)) (fun s29 _ => n - (intOf s29).toNat)
 case atStart => exact ⟨0, by omega, rfl, H1.out⟩
 case round =>
  obtain ⟨k, hk, rfl, HP⟩ := hrel
  by_cases hk2 : (k : Int) < n
  ·have hkl : k < n := by omega
   obtain ⟨y, hy, hyr⟩ := HT.out k hkl
   have hcl : wr.cell? ⟨q, k, none⟩ = some (.int .i64 y) := (Joins.cell_of_block (HP.out.1.blk (List.mem_cons_self ..)) k).trans hyr
   have hlr := HP.out.1.blk (List.mem_cons_of_mem _ (List.mem_cons_self ..))
   have HMk : Hid (∀ V, Below wr.heap.size wr V → Calls Tryz.prog 90 #[.pointer (some ⟨d, 0, none⟩), .int .i64 (2 + (k : Int)), .int .i64 y] V fun e W' => (e = .returned (.int .i64 0) ∧ RcI w d T t1 ((q, .cells (H.listRow T) 3) :: (W.heap.size, .cells L 59) :: ks) (k + 1) W') ∨ (∃ E, E ≠ 0 ∧ e = .returned (.int .i64 E) ∧ rcE T t1 = E ∧ Sits w W' d (rcV T t1) ((q, .cells (H.listRow T) 3) :: (W.heap.size, .cells L 59) :: ks))) := fun V hb => HM.out k V _ y ⟨HP.out.1.later hb, HP.out.2⟩ hy
   clear HP hy hyr HT H1 HB HH
   go_wp2_with (first | refine wpList_load_row rfl 59 (.tmp 3) rfl W.heap.size rfl 59 L (0, 0) _ hlr Tryz.underlying59 rfl (by rw [hsz]; exact H.size25L) ?_ | (go_at_call 91; refine (HI.out (k : Int) _ ⟨by omega, by omega⟩).mono ?_; rintro e V1 ⟨rfl, rfl⟩) | (go_at_call 90; fail))
   refine (HMk.out _ (below_new _ _)).mono ?_
   rintro e W2 (⟨rfl, h2⟩ | ⟨E, hE, rfl, hE2, h2⟩)
   ·have H2 := Hid.mk' h2
    clear h2 HMk hcl hlr
    go_wp2
    exact ⟨⟨k + 1, by omega, by go_num, H2.out⟩, by simp [intOf]; omega⟩
   ·have H2 := Hid.mk' (h2.drop (ks' := ks) fun p hp => List.mem_cons_of_mem _ (List.mem_cons_of_mem _ hp))
    have H3 := Hid.mk' hE2
    clear h2 HMk hcl hlr hE2
    go_wp2
    go_ret2
    exact rc_bad H3.out hE H2.out
  ·obtain rfl : k = n := by omega
   subst hTn
   have HB2 := Hid.mk' (HB.out wr _ HP.out)
   clear HB HP H1 HM HT
   go_wp2_with (go_at_call 92; fail)
   refine HB2.out.mono ?_
   rintro e W2 ⟨rfl, h2, e1, e2, hrm⟩
   have HE : Hid (rcE T t1 = (if barE (mV (mvs T T.length) t1) = 0 then runE [some (1, nought), none] (barV (mV (mvs T T.length) t1)) else barE (mV (mvs T T.length) t1)) ∧ rcV T t1 = (if barE (mV (mvs T T.length) t1) = 0 then runV [some (1, nought), none] (barV (mV (mvs T T.length) t1)) else barV (mV (mvs T T.length) t1))) := ⟨e1, e2⟩
   have hlr := h2.blk (List.mem_cons_of_mem _ (List.mem_cons_self ..))
   have H2 := Hid.mk' h2
   have HH2 := Hid.mk' (HH.out W2 _ _ h2 hrm)
   clear e1 e2 h2 HB2 HH hrm
   generalize mV (mvs T T.length) t1 = t2 at *
   by_cases hB : barE t2 = 0
   ·rw [hB] at HE ⊢
    rw [if_pos rfl, if_pos rfl] at HE
    go_wp2_with (first | refine wpList_load_row rfl 59 (.tmp 3) rfl W.heap.size rfl 59 L (0, 0) _ hlr Tryz.underlying59 rfl (by rw [hsz]; exact H.size25L) ?_ | refine H.wpList_build30w rfl rfl ?_ | (go_at_call 93; fail))
    refine HH2.out.mono ?_
    rintro e W3 ⟨rfl, h3⟩
    have H3 := Hid.mk' (h3.drop (ks' := ks) fun p hp => List.mem_cons_of_mem _ (List.mem_cons_of_mem _ hp))
    clear h3 HH2 hlr H2
    rw [← HE.out.1]
    rw [← HE.out.2] at H3
    by_cases hR : rcE T t1 = 0
    ·have HR0 := Hid.mk' hR
     rw [hR]
     clear hR
     go_wp2
     go_ret2
     exact rc_fine HR0.out H3.out
    ·generalize hGE : rcE T t1 = E at *
     have HG := Hid.mk' hGE
     clear hGE
     go_wp2
     go_ret2
     exact rc_bad HG.out hR H3.out
   ·rw [if_neg hB, if_neg hB] at HE
    have H3 := Hid.mk' (H2.out.drop (ks' := ks) fun p hp => List.mem_cons_of_mem _ (List.mem_cons_of_mem _ hp))
    clear HH2 hlr H2
    rw [← HE.out.2] at H3
    rw [← HE.out.1] at hB ⊢
    generalize hGE : rcE T t1 = E at *
    have HG := Hid.mk' hGE
    clear hGE
    go_wp2
    go_ret2
    exact rc_bad HG.out hB H3.out
end Go.Proofs.YtichojdcoegboaaGreatW
