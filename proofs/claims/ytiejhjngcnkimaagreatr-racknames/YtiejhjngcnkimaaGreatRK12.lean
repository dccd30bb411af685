/- Several texts joined, each with its own remark; no condition. -/
import Derived.Test.YtiejhjngcnkimaaGreatRK11
import Derived.Deep.Cut
import Derived.Deep.CutRange
/- The group's blocks are held in the log: the walk; no condition but that numbers do not pass their greatest. -/
namespace Go.Proofs.YtiejhjngcnkimaaGreatRW
open Go.RowKit Go.Maps
variable {w W : World} {g d c mb : Nat} {v : Value} {x : LSt} {s : CSt} {t : St} {os ks : List (Nat × Obj)} {base : Nat} {book : Int → Nat → Int}
end Go.Proofs.YtiejhjngcnkimaaGreatRW
/- A commit; no condition but that numbers do not pass their greatest. -/
namespace Go.Proofs.YtiejhjngcnkimaaGreatRW
open Go.RowKit Go.Maps
variable {w W : World} {g d c mb : Nat} {v : Value} {x : LSt} {s : CSt} {t : St} {os ks : List (Nat × Obj)} {base : Nat} {book : Int → Nat → Int}
end Go.Proofs.YtiejhjngcnkimaaGreatRW
/- A commit: the walk; no condition but that numbers do not pass their greatest. -/
namespace Go.Proofs.YtiejhjngcnkimaaGreatRW
open Go.RowKit Go.Maps
variable {w W : World} {g d c mb : Nat} {v : Value} {x : LSt} {s : CSt} {t : St} {os ks : List (Nat × Obj)} {base : Nat} {book : Int → Nat → Int}
end Go.Proofs.YtiejhjngcnkimaaGreatRW
/- Sync and Begin; no condition but that numbers do not pass their greatest. -/
namespace Go.Proofs.YtiejhjngcnkimaaGreatRW
open Go.RowKit Go.Maps
variable {w W : World} {g d c mb : Nat} {v : Value} {x : LSt} {s : CSt} {t : St} {os ks : List (Nat × Obj)} {base : Nat} {book : Int → Nat → Int}
theorem LS.refuses2 (h : LS w W g d c mb v x s t os ks) (o : Bool) : Calls Tryz.prog 52 #[ptr g, .bool o] W fun e W' => e = .returned (.int .i64 (refL x t o)) ∧ LS w W' g d c mb v x s t os ks := by
  refine (h.refuses o).mono ?_
  rintro e W' ⟨rfl, m, rfl⟩
  exact ⟨rfl, h.later (below_drewN _ m)⟩
structure Bg1 (W' : World) (g : Nat) (m : Int) (n : Nat) : Prop where
  sl : ∃ p cp, W'.cell? ⟨g, 13, none⟩ = some (.slice p n cp)
  most : ∀ k, Calls Tryz.prog 53 #[.pointer (some ⟨g, 0, none⟩)] (W'.drewN k) fun e W'' => e = .returned (.int .i64 m) ∧ W'' = W'.drewN k
  m0 : Calls Tryz.prog 53 #[.pointer (some ⟨g, 0, none⟩)] W' fun e W'' => e = .returned (.int .i64 m) ∧ W'' = W'
theorem LS.bg1 (h : LS w W g d c mb v x s t os ks) (hl : 32 ≤ x.l ∧ x.l ≤ 256) : Bg1 W g (x.l - 1) x.blocks.length := by
  obtain ⟨p, cp, hv, _⟩ := h.log.own.ints
  exact ⟨⟨p, cp, by rw [h.log.c13, hv]⟩, fun k => (h.later (below_drewN W k)).most hl, h.most hl⟩
theorem LogSit.c1516 (h : LogSit w W g d x s t ks) : W.cell? ⟨g, 15, none⟩ = some (.bool x.opn) ∧ W.frozen? ⟨g, 15, none⟩ = false ∧ W.cell? ⟨g, 16, none⟩ = some (.int .i64 x.room) ∧ W.frozen? ⟨g, 16, none⟩ = false := by
  obtain ⟨c, mb, v, os, h⟩ := h
  exact ⟨h.log.c15, h.log.free 15, h.log.c16, h.log.free 16⟩
theorem LogI.opened (h : LogI w W g d x t book ks) {r : Int} (hr : 1 ≤ r ∧ (x.blocks.length : Int) + r ≤ x.l - 1) : LogI w ((W.setCell ⟨g, 15, none⟩ (.bool true)).setCell ⟨g, 16, none⟩ (.int .i64 r)) g d { x with opn := true, room := r } t book ks := by
  obtain ⟨s, h1, hI⟩ := h
  refine ⟨s, (h1.setOpn true).setRoom r, hI.fine, hI.c, hI.nd, hI.rng, hI.fast, hI.last, hI.len, hI.steps, hI.commits, ⟨by show 0 ≤ r; omega, ?_⟩, fun _ => hr.2⟩
  have := hI.fine.2.1
  show r ≤ 256
  omega
set_option maxHeartbeats 800000 in
theorem LogI.begin (h : LogI w W g d x t book ks) {r : Int} (hr : refL x t false = 0) (hr1 : 1 ≤ r) (hr2 : (x.blocks.length : Int) + r ≤ x.l - 1) : Calls Tryz.prog 14 #[ptr g, .int .i64 r] W fun e W' => e = .returned (.int .i64 0) ∧ LogI w W' g d { x with opn := true, room := r } t book ks := by
  obtain ⟨s, ⟨c, mb, v, os, h⟩, hI⟩ := h
  have hl : 32 ≤ x.l ∧ x.l ≤ 256 := ⟨hI.fine.1, hI.fine.2.1⟩
  have hc : Calls Tryz.prog 52 #[ptr g, .bool false] W fun e W' => e = .returned (.int .i64 0) ∧ Bg1 W' g (x.l - 1) x.blocks.length ∧ Hid (LogI w W' g d x t book ks) := by
    refine (h.refuses2 false).mono ?_
    rintro e W' ⟨rfl, h1⟩
    exact ⟨by rw [hr], h1.bg1 hl, s, ⟨c, mb, v, os, h1⟩, hI⟩
  have HO : Hid (∀ W', LogI w W' g d x t book ks → LogI w ((W'.setCell ⟨g, 15, none⟩ (.bool true)).setCell ⟨g, 16, none⟩ (.int .i64 r)) g d { x with opn := true, room := r } t book ks) := fun W' h1 => h1.opened ⟨hr1, hr2⟩
  clear h hr hI
  unfold ptr at *
  generalize hm : x.l - 1 = m at *
  generalize hn : x.blocks.length = n at *
  have hn2 : n ≤ 256 := by omega
  have h1 : ¬ r < 1 := by omega
  have h2 : ¬ m < r := by omega
  have h3 : ¬ m < (n : Int) + r := by omega
  go_enter Tryz.func14, Tryz.ntmps14
  go_wp2_with (go_at_call 52; fail)
  refine hc.mono ?_
  rintro e W1 ⟨rfl, ⟨⟨p, cp, c13⟩, hmo, hm0⟩, H1⟩
  go_wp2_with (first | (go_at_call 53; refine hm0.mono ?_; rintro e W2 ⟨rfl, rfl⟩))
  go_quiet (first | (go_at_call 53; refine Calls.quiet_of_same (hmo _)))
  have H2 := Hid.mk' (H1.out.later (below_drewN _ nq))
  clear hmo hm0 H1 c13 hc
  generalize W2.drewN nq = W3 at H2 ⊢
  obtain ⟨s, h4, _⟩ := H2.out
  obtain ⟨c15, f15, c16, f16⟩ := h4.c1516
  clear h4
  go_wp2
  go_ret
  exact ⟨rfl, HO.out W3 H2.out⟩
end Go.Proofs.YtiejhjngcnkimaaGreatRW
/- What the header on a disk names; no condition but that the layout is one, and numbers do not pass their greatest. -/
namespace Go.Proofs.YtiejhjngcnkimaaGreatRW
open Go.RowKit Go.Maps
variable {w W : World} {g d c mb : Nat} {v : Value} {x : LSt} {s : CSt} {t : St} {os ks : List (Nat × Obj)} {base : Nat} {book : Int → Nat → Int}
theorem lay_fine {b l i : Int} (hf : H.Fine b l i) : H.standsB b l i 1 (1 + l) (H.nodeB i) (H.bitsAt l i) (H.bitsB b) (H.dataAt b l i) = true := decide_eq_true ⟨hf, rfl, rfl, rfl, rfl, rfl, rfl⟩
theorem fine_i64 {b l i : Int} (hf : H.Fine b l i) : H.I64 b := by
  have := H.Fine.pos hf
  have := hf.2.2.2.2.1
  unfold H.I64
  omega
def tgT (b l : Int) (t : St) : List Int := H.decL (1 + l) b (l - 1) (curV t 1)
def tgE (b l : Int) (t : St) : Int := H.decN (1 + l) b (l - 1) (curV t 1)
theorem sits_len2 (h : Sits w W d t ks) : Calls Tryz.prog 139 #[.pointer (some ⟨d, 0, none⟩)] W fun e W' => e = .returned (.int .i64 t.n) ∧ W' = W := by
  obtain ⟨L, rfl, hS⟩ := h
  exact len_of hS.disk
set_option maxRecDepth 20000 in
set_option maxHeartbeats 1600000 in
theorem committed_ok {b l i : Int} (h : Sits w W d t ks) (hf : H.Fine b l i) (hn : b ≤ t.n) (hs : t.stopped = false) (hr : Room t) : Calls Tryz.prog 89 #[ptr d, .agg (layA b l i)] W fun e W' => ∃ p, e = .returned (.tuple #[.slice p (tgT b l t).length (tgT b l t).length, .int .i64 (tgE b l t)]) ∧ H.IntsAt W' p (tgT b l t) ∧ Sits w W' d (readS t) ks := by
  have hA := h.add (.cells (layA b l i) 61)
  have hrow := heap_alloc_new W (.cells (layA b l i) 61)
  have hsz : (layA b l i).size = 9 := rfl
  have hlen := sits_len2 hA
  have hpos := H.Fine.pos hf
  have hnn : ¬ t.n = 0 := by omega
  have hbn : ¬ t.n < b := by omega
  have hok := h.ok
  have HE : Hid (∀ V, Calls Tryz.prog 105 #[.agg (layA b l i), .agg #[.slice none 0 0]] V fun e W' => e = .returned (.tuple #[.agg (blk (H.headF [])), .int .i64 0]) ∧ Below V.heap.size V W') := fun V =>
    H.enc_ok b l i 1 (1 + l) (H.nodeB i) (H.bitsAt l i) (H.bitsB b) (H.dataAt b l i) [] none 0 V (fine_i64 hf) (lay_fine hf) ⟨hf.1, hf.2.1⟩ (fun q => by simp at q) (fun q hq => by simp at hq) (by simp) (decide_eq_true ⟨by have := hf.1; simp; omega, fun q hq => by simp at hq, List.nodup_nil⟩)
  have hcan := curV_can hok 1
  have HD : Hid (∀ V, Calls Tryz.prog 141 #[.agg (layA b l i), .agg (blk (curV t 1))] V fun e' w' => ∃ p, e' = .returned (.tuple #[.agg #[.slice p (tgT b l t).length (tgT b l t).length], .int .i64 (tgE b l t)]) ∧ (p = none ∧ tgT b l t = [] ∨ ∃ q, p = some ⟨q, 0, none⟩ ∧ V.heap.size ≤ q ∧ w'.heap[q]? = some (.cells (H.listRow (tgT b l t)) 3)) ∧ Below V.heap.size V w') := fun V =>
    H.dec_all b l i 1 (1 + l) (H.nodeB i) (H.bitsAt l i) (H.bitsB b) (H.dataAt b l i) (curV t 1) V (fine_i64 hf) (lay_fine hf) ⟨hf.1, hf.2.1⟩ hcan.1
  have href : refV t 1 = 0 := by unfold refV; rw [hs, if_neg (by simp), if_pos ⟨by omega, by omega⟩]
  have HR : Hid (∀ V, Below (W.alloc (.cells (layA b l i) 61)).heap.size (W.alloc (.cells (layA b l i) 61)) V → V.heap[W.heap.size]? = some (.cells (layA b l i) 61) ∧ V.cell? ⟨W.heap.size, 0, none⟩ = some (.int .i64 b) ∧ V.cell? ⟨W.heap.size, 3, none⟩ = some (.int .i64 1) ∧ (∀ k, Calls Tryz.prog 139 #[.pointer (some ⟨d, 0, none⟩)] (V.drewN k) fun e W' => e = .returned (.int .i64 t.n) ∧ W' = V.drewN k) ∧ Hid (∀ k, Calls Tryz.prog 140 #[.pointer (some ⟨d, 0, none⟩), .int .i64 1] (V.drewN k) fun e W' => e = .returned (.tuple #[.agg (blk (curV t 1)), .int .i64 0]) ∧ Sits w W' d (readS t) ((W.heap.size, .cells (layA b l i) 61) :: ks))) := fun V hb => by
    have h1 := hA.later hb
    have h2 := heap_kept hrow hb
    refine ⟨h2, Joins.cell_of_block h2 0, Joins.cell_of_block h2 3, fun k => sits_len2 (h1.later (below_drewN _ k)), fun k => ?_⟩
    have h3 := sits_read (h1.later (below_drewN _ k)) hr 1
    unfold readB readV at h3
    rw [href, if_pos rfl, if_pos rfl] at h3
    exact h3
  have HB0 := Hid.mk' (below_new W (.cells (layA b l i) 61))
  clear h hA hf hn hs hr hok hcan href hpos
  unfold ptr at *
  generalize layA b l i = L at *
  generalize curV t 1 = Fc at *
  generalize hTL : tgT b l t = T at *
  generalize tgE b l t = E at *
  have z25 := zero25
  go_enter Tryz.func89, Tryz.ntmps89
  go_wp2_with (first | (go_at_call 139; refine hlen.mono ?_; rintro e W1 ⟨rfl, rfl⟩) | refine wpList_load_row rfl 61 (.tmp 3) rfl W.heap.size rfl 61 L (0, 0) _ hrow Tryz.underlying61 rfl (by rw [hsz]; exact H.size25L) ?_ | (go_at_call 105; fail))
  refine (HE.out _).mono ?_
  rintro e W1 ⟨rfl, hb1⟩
  obtain ⟨hrow2, c0, c3, hlen2, hrd⟩ := HR.out _ (below_next hb1 (below_new W1 (.cells (blk (H.headF [])) 85)))
  have HB1 := Hid.mk' (below_next (below_next HB0.out hb1) (below_new W1 (.cells (blk (H.headF [])) 85)))
  clear hb1 hlen HE HR hrow HB0
  go_wp2_with (first | refine wpList_store25_new rfl (.tmp 6) (.tmp 18) rfl (H.headF []) _ rfl rfl ?_)
  generalize W1.alloc (.cells (blk (H.headF [])) 85) = W2 at *
  go_quiet (first | (go_at_call 139; refine Calls.quiet_of_same (hlen2 _)))
  have hrd2 := hrd.out nq
  have hrow3 : (W2.drewN nq).heap[W.heap.size]? = some (.cells L 61) := hrow2
  clear hlen2 hrd hrow2
  go_wp2_with (go_at_call 140; fail)
  refine hrd2.mono ?_
  rintro e W3 ⟨rfl, h3⟩
  have H3 := Hid.mk' (h3.add (.cells (blk Fc) 85))
  have hrow4 := H3.out.blk (List.mem_cons_of_mem _ (List.mem_cons_self ..))
  have hblk4 := H3.out.blk (List.mem_cons_self ..)
  clear hrd2 h3 hrow3 c0 c3
  go_wp2_with (first | refine wpList_store25_new rfl (.tmp 8) (.tmp 35) rfl Fc _ rfl rfl ?_ | refine wpList_load_row rfl 61 (.tmp 3) rfl W.heap.size rfl 61 L (0, 0) _ hrow4 Tryz.underlying61 rfl (by rw [hsz]; exact H.size25L) ?_ | refine wpList_load25 rfl (.tmp 8) rfl W3.heap.size rfl Fc hblk4 ?_ | (go_at_call 141; fail))
  refine (HD.out _).mono ?_
  rintro e W4 ⟨p, rfl, hp, hb4⟩
  have H4 := Hid.mk' (H3.out.later hb4)
  have hI4 := H.dec_ints hp
  have HI := Hid.mk' hI4
  clear hp hb4 hI4 H3 hrow4 hblk4 HD hTL
  go_wp2
  go_ret2
  exact ⟨p, rfl, HI.out.later (below_new _ _), (H4.out.later (below_new _ _)).drop fun q hq => List.mem_cons_of_mem _ (List.mem_cons_of_mem _ hq)⟩
theorem newLog {V : World} {g mb : Nat} {x : LSt} (h : Sit w W c d s t ks) (hb : Below W.heap.size W V) (hg : W.heap.size ≤ g) (hm : W.heap.size ≤ mb) (hrow : V.heap[g]? = some (.cells (lgRow g d c mb (.slice none 0 0) x) 67)) (hmap : MapIs Tryz.prog 3 V mb (lastM x)) (hx : x.blocks = []) : LogSit w V g d x s t ks := by
  have hbase := h.below.size
  obtain ⟨es, cl, hmo⟩ := hmap.isMap
  refine ⟨c, mb, .slice none 0 0, [(g, .cells (lgRow g d c mb (.slice none 0 0) x) 67), (mb, .map es cl)], h.turn (T := fun _ => False) (Fr.ofBelow hb) (fun _ q => q.elim) fun p hp => ?_, ⟨hrow, hmap, by rw [hx]; exact H.OwnZ.nil _ _⟩, fun k hk => ?_, fun p hp => ?_⟩
  · rcases List.mem_append.1 hp with hp | hp
    · simp only [List.mem_cons, List.not_mem_nil, or_false] at hp
      rcases hp with rfl | rfl
      · exact ⟨hrow, .inr hg⟩
      · exact ⟨hmo, .inr hm⟩
    · exact ⟨heap_kept (h.blk hp) hb, .inl ⟨p.2, hp⟩⟩
  · rcases hk with rfl | rfl | hk
    · exact ⟨by omega, _, List.mem_cons_self ..⟩
    · exact ⟨by omega, _, List.mem_cons_of_mem _ (List.mem_cons_self ..)⟩
    · cases hk
  · have := (Array.getElem?_eq_some_iff.1 (h.blk hp)).1
    rintro (q | q | q)
    · omega
    · omega
    · cases q
theorem sit_claim (h : Sit w W c d s t ks) (hr : Room t) : Calls Tryz.prog 91 #[ptr d] W fun e W' => e = .returned (.int .i64 (claimN t)) ∧ Sit w W' c d s (claimV t) ks := by
  obtain ⟨K, L, rfl, rfl, h⟩ := h
  refine (claim_of h.cd.disk hr).mono ?_
  rintro e W' ⟨rfl, h2, h3⟩
  obtain ⟨a1, a2⟩ := h.cd.disks h2 h3
  exact ⟨rfl, Sit.goes rfl rfl h a1 a2⟩
def newX (b l i cl : Int) : LSt := ⟨b, l, i, cl, [], fun _ => none, false, 0, 0, 0⟩
theorem exec_box48 {a : Act} {o : Oper} {u : World} {y : Operand} {cs : Array Value} (ho : o.op = .box 67 y) (hx : a.eval y = .agg cs) : (execOp a.eval o).run Tryz.prog u = .ok (.value (.pointer (some ⟨u.heap.size, 0, none⟩))) (u.alloc (.cells cs 67)) := by
  unfold execOp
  simp only [ho, hx]
  simp [go_sem]
def row0 (b l i cl : Int) (d c : Nat) (sf : Value) : Array Value := #[sf, .pointer (some ⟨d, 0, none⟩), .int .i64 cl, .int .i64 b, .int .i64 l, .int .i64 i, .int .i64 1, .int .i64 (1 + l), .int .i64 (H.nodeB i), .int .i64 (H.bitsAt l i), .int .i64 (H.bitsB b), .int .i64 (H.dataAt b l i), .pointer (some ⟨c, 0, none⟩), .slice none 0 0, .map none, .bool false, .int .i64 0, .int .i64 0, .int .i64 0]
theorem newInv {b l i : Int} (hf : H.Fine b l i) (t : St) (hn : b ≤ t.n) (cl : Int) : Inv (newX b l i cl) (newC l) t (curV t) := by
  have h1 := hf.1
  have h2 := hf.2.1
  refine ⟨hf, ?_, List.nodup_nil, fun k hk => by simp [newX] at hk, ?_, fun k => ⟨fun _ => by simp [newX], fun _ => rfl⟩, by show ((0 : Nat) : Int) ≤ l - 1; omega, ⟨by show (0 : Int) ≤ 0; omega, by show (0 : Int) ≤ _; omega⟩, ⟨by show (0 : Int) ≤ 0; omega, by show (0 : Int) ≤ _; omega⟩, ⟨by show (0 : Int) ≤ 0; omega, by show (0 : Int) ≤ _; omega⟩, fun q => by cases q⟩
  · have : inB (newX b l i cl) = fun _ => false := by funext k; simp [inB, newX]
    rw [this]
    exact CInv.new t hn ⟨by show 1 ≤ l; omega, by show l ≤ 4096; omega⟩
  · show ((fastN ([] : List Hld) : Nat) : Int) = ((0 : Nat) : Int)
    rfl
theorem newMade {b l i cl : Int} {W3 : World} (h : Sit w W3 c d (newC l) t ks) (hf : H.Fine b l i) (hn : b ≤ t.n) : LogI w (forgotW (W3.alloc (.cells (row0 b l i cl d c (.pointer (some ⟨W3.heap.size, 0, none⟩))) 67)) W3.heap.size) W3.heap.size d (newX b l i cl) t (curV t) ks := by
  have hVs : (W3.alloc (.cells (row0 b l i cl d c (.pointer (some ⟨W3.heap.size, 0, none⟩))) 67)).heap.size = W3.heap.size + 1 := by simp
  have hr0 := heap_alloc_new W3 (.cells (row0 b l i cl d c (.pointer (some ⟨W3.heap.size, 0, none⟩))) 67)
  have hf3 := Fr.alloc (fun k => k = W3.heap.size) W3 (.cells (row0 b l i cl d c (.pointer (some ⟨W3.heap.size, 0, none⟩))) 67)
  generalize W3.alloc (.cells (row0 b l i cl d c (.pointer (some ⟨W3.heap.size, 0, none⟩))) 67) = V at *
  generalize hg : W3.heap.size = g at *
  have hsz : ((V.setCell ⟨g, 13, none⟩ (.slice none 0 0)).setCell ⟨g, 14, none⟩ (.map (some V.heap.size))).heap.size = V.heap.size := by simp
  have hfr : Fr (fun k => k = g) W3 (forgotW V g) := ((hf3.trans (Fr.setCell V g 13 _) fun _ _ q => q).trans (Fr.setCell _ g 14 _) fun _ _ q => q).trans (Fr.alloc (fun _ => False) _ _) fun _ _ q => q.elim
  refine ⟨newC l, newLog (mb := V.heap.size) h (hfr.below (fun i q => by omega) (Nat.le_refl _)) (by omega) (by omega) ?_ ?_ rfl, newInv hf t hn cl⟩
  · have h1 := Joins.block_setCell (i := 13) hr0 (.slice none 0 0)
    have h2 := Joins.block_setCell (i := 14) h1 (.map (some V.heap.size))
    exact ((below_new _ (.map #[] 0)).block _ (by rw [hsz, hVs]; omega)).trans h2
  · have h1 := MapIs.made (P := Tryz.prog) (k := 3) ((V.setCell ⟨g, 13, none⟩ (.slice none 0 0)).setCell ⟨g, 14, none⟩ (.map (some V.heap.size)))
    rw [hsz] at h1
    exact h1
set_option maxRecDepth 20000 in
set_option maxHeartbeats 1600000 in
theorem newL_ok {b l i : Int} (h : Sits w W d t ks) (hf : H.Fine b l i) (hn : b ≤ t.n) (hs : t.stopped = false) (hr : Rm t 3) (hT : tgT b l t = []) (hE : tgE b l t = 0) : Calls Tryz.prog 41 #[ptr d, .agg (layA b l i)] W fun e W' => ∃ g, e = .returned (.tuple #[ptr g, .int .i64 0]) ∧ LogI w W' g d (newX b l i (claimN t)) (claimV (readS t)) (curV t) ks := by
  have hA := h.add (.cells (layA b l i) 61)
  have hrow := heap_alloc_new W (.cells (layA b l i) 61)
  have hsz : (layA b l i).size = 9 := rfl
  have hc0 := committed_ok hA hf hn hs (Rm.room (n := 2) hr)
  rw [hT, hE] at hc0
  have hr2 : Room (readS t) := by
    obtain ⟨a1, a2, a3, a4⟩ := hr
    refine ⟨?_, ?_, ?_, ?_⟩
    · show t.ops.length < _; omega
    · show t.made < _; omega
    · show t.reads + 1 < _; omega
    · show t.claims < _; omega
  have hl : 1 ≤ l ∧ l ≤ 4096 := by have := hf.1; have := hf.2.1; omega
  have HN : Hid (∀ V, Sits w V d (readS t) ((W.heap.size, .cells (layA b l i) 61) :: ks) → V.cell? ⟨W.heap.size, 1, none⟩ = some (.int .i64 l) ∧ Calls Tryz.prog 90 #[.pointer (some ⟨d, 0, none⟩), .int .i64 l] V fun e W' => ∃ c, e = .returned (.tuple #[.pointer (some ⟨c, 0, none⟩), .int .i64 0]) ∧ Sit w W' c d (newC l) (readS t) ((W.heap.size, .cells (layA b l i) 61) :: ks)) := fun V h1 => ⟨Joins.cell_of_block (h1.blk (List.mem_cons_self ..)) 1, sit_new h1 hl⟩
  have HC : Hid (∀ V c, Sit w V c d (newC l) (readS t) ((W.heap.size, .cells (layA b l i) 61) :: ks) → Calls Tryz.prog 91 #[.pointer (some ⟨d, 0, none⟩)] V.drew fun e W' => e = .returned (.int .i64 (claimN t)) ∧ Sit w W' c d (newC l) (claimV (readS t)) ((W.heap.size, .cells (layA b l i) 61) :: ks)) := fun V c h1 => sit_claim h1.drew hr2
  have HF : Hid (H.Fine b l i ∧ b ≤ (claimV (readS t)).n ∧ curV (claimV (readS t)) = curV t) := by
    refine ⟨hf, ?_, ?_⟩
    · unfold claimV; split <;> exact hn
    · unfold claimV; split <;> rfl
  clear h hA hf hn hs hr hT hE hr2 hl
  unfold ptr at *
  have HL : Hid (layA b l i = #[.int .i64 b, .int .i64 l, .int .i64 i, .int .i64 1, .int .i64 (1 + l), .int .i64 (H.nodeB i), .int .i64 (H.bitsAt l i), .int .i64 (H.bitsB b), .int .i64 (H.dataAt b l i)]) := rfl
  generalize hLL : layA b l i = L at *
  go_enter Tryz.func41, Tryz.ntmps41
  go_wp2_with (first | refine wpList_load_row rfl 61 (.tmp 3) rfl W.heap.size rfl 61 L (0, 0) _ hrow Tryz.underlying61 rfl (by rw [hsz]; exact H.size25L) ?_ | (go_at_call 89; fail))
  refine hc0.mono ?_
  rintro e W1 ⟨p, rfl, _, h1⟩
  obtain ⟨c4, hnew⟩ := HN.out W1 h1
  have HNew := Hid.mk' hnew
  clear h1 hc0 hrow HN hnew
  go_wp2_with (go_at_call 90; fail)
  refine HNew.out.mono ?_
  rintro e W2 ⟨c, rfl, h2⟩
  have H2 := Hid.mk' h2
  clear h2 c4 HNew
  go_wp2
  have hrow2 := H2.out.blk (List.mem_cons_self ..)
  refine wp_region_ord (S := fun u => u.heap[W.heap.size]? = some (.cells L 61)) [(0, true), (1, true), (3, true), (4, true), (2, false), (5, true), (6, false), (7, true)]
    (by kernel_rfl) rfl (by kernel_rfl) (fun d _ _ _ _ h => by cases d <;> exact h) hrow2 ?_
  simp only [inOrd, List.getElem?_cons_zero, List.getElem?_cons_succ]
  refine wpOrd_move rfl _ rfl ?_
  simp only [Act.put, List.setIfInBounds_toArray, List.set_cons_succ, List.set_cons_zero]
  refine wpOrd_move rfl _ rfl ?_
  simp only [Act.put, List.setIfInBounds_toArray, List.set_cons_succ, List.set_cons_zero]
  refine wpOrd_yield (v := .agg L) rfl (fun u hu => H.exec_loadL rfl rfl hsz hu) ?_
  simp only [Act.put, List.setIfInBounds_toArray, List.set_cons_succ, List.set_cons_zero]
  refine wpOrd_move rfl _ rfl ?_
  simp only [Act.put, List.setIfInBounds_toArray, List.set_cons_succ, List.set_cons_zero]
  refine wpOrd_call rfl 91 _ _ rfl Tryz.call91 [.pointer (some ⟨d, 0, none⟩)] rfl ?_
  refine (HC.out W2 c H2.out).mono ?_
  rintro e W3 ⟨rfl, h3⟩
  have H3 := Hid.mk' h3
  refine ⟨_, rfl, h3.blk (List.mem_cons_self ..), ?_⟩
  clear h3 H2 hrow2 HC
  simp only [Act.put, List.setIfInBounds_toArray, List.set_cons_succ, List.set_cons_zero]
  have hL := HL.out
  refine wpOrd_yield (v := .agg (row0 b l i (claimN t) d c (.pointer none))) rfl (fun u _ => by unfold row0; subst hL; go_simp) ?_
  simp only [Act.put, List.setIfInBounds_toArray, List.set_cons_succ, List.set_cons_zero]
  refine wpOrd_run rfl (exec_box48 rfl rfl) (heap_kept (H3.out.blk (List.mem_cons_self ..)) (below_new _ _)) ?_
  simp only [Act.put, List.setIfInBounds_toArray, List.set_cons_succ, List.set_cons_zero]
  refine wpOrd_yield (v := .pointer (some ⟨W3.heap.size, 0, none⟩)) rfl (fun u _ => by go_simp) ?_
  refine wpOrd_nil ?_
  simp only [Act.put, List.setIfInBounds_toArray, List.set_cons_succ, List.set_cons_zero]
  have hrow6 : (W3.alloc (.cells (row0 b l i (claimN t) d c (.pointer (some ⟨W3.heap.size, 0, none⟩))) 67)).heap[W3.heap.size]? = some (.cells (row0 b l i (claimN t) d c (.pointer (some ⟨W3.heap.size, 0, none⟩))) 67) := heap_alloc_new _ _
  have hfor := forget_raw hrow6 rfl
  have HFor := Hid.mk' hfor
  clear hfor hrow6
  unfold row0
  go_wp2_with (go_at_call 92; fail)
  refine HFor.out.mono ?_
  rintro e W4 ⟨rfl, rfl⟩
  have HLog : Hid (LogI w (forgotW (W3.alloc (.cells (row0 b l i (claimN t) d c (.pointer (some ⟨W3.heap.size, 0, none⟩))) 67)) W3.heap.size) W3.heap.size d (newX b l i (claimN t)) (claimV (readS t)) (curV t) ks) := by
    have := newMade (cl := claimN t) (H3.out.drop (ks' := ks) fun q hq => List.mem_cons_of_mem _ hq) HF.out.1 HF.out.2.1
    rw [HF.out.2.2] at this
    exact this
  clear HFor H3
  generalize forgotW (W3.alloc (.cells (row0 b l i (claimN t) d c (.pointer (some ⟨W3.heap.size, 0, none⟩))) 67)) W3.heap.size = W5 at HLog ⊢
  go_wp2
  go_ret2
  exact ⟨_, rfl, HLog.out⟩
end Go.Proofs.YtiejhjngcnkimaaGreatRW
