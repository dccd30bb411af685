/- Recovery: blocks moved out of the log; no condition but that numbers do not pass their greatest. -/
import Derived.Test.YtglcliokhlafoaaLPower
namespace Go.Proofs.Ytglcliokhlafoaa
open Go.RowKit Go.Maps
variable {w W : World} {g d c mb : Nat} {v : Value} {x : LSt} {s : CSt} {t : St} {os ks : List (Nat × Obj)} {base : Nat} {book : Int → Nat → Int}
theorem Sits.addNew {W' : World} {q : Nat} {o : Obj} (h : Sits w W d t ks) (hb : Below W.heap.size W W') (hq : W.heap.size ≤ q) (ho : W'.heap[q]? = some o) : Sits w W' d t ((q, o) :: ks) := by
  obtain ⟨L, hd, h⟩ := h
  have h2 := h.goes (h.disk.later hb) (Goes.ofBelow L hb)
  refine ⟨L, hd, h2.disk, h2.new, h2.below, fun p hp => ?_⟩
  rcases List.mem_cons.1 hp with rfl | hp
  · exact ⟨ho, fun q2 => by have := h.disk.lt _ q2; simp only at this; omega⟩
  · exact h2.keep p hp
set_option maxRecDepth 20000 in
set_option maxHeartbeats 1600000 in
theorem committed_at {b l i : Int} (h : Sits w W d t ks) (hf : H.Fine b l i) (hn : b ≤ t.n) (hs : t.stopped = false) (hr : Room t) : Calls Try.prog 36 #[ptr d, .agg (layA b l i)] W fun e W' => ∃ p, e = .returned (.tuple #[.slice p (tgT b l t).length (tgT b l t).length, .int .i64 (tgE b l t)]) ∧ ((p = none ∧ tgT b l t = []) ∧ Sits w W' d (readS t) ks ∨ ∃ q, p = some ⟨q, 0, none⟩ ∧ Sits w W' d (readS t) ((q, .cells (H.listRow (tgT b l t)) 3) :: ks)) := by
  have hA := h.add (.cells (layA b l i) 30)
  have hrow := heap_alloc_new W (.cells (layA b l i) 30)
  have hsz : (layA b l i).size = 9 := rfl
  have hlen := sits_len2 hA
  have hpos := H.Fine.pos hf
  have hnn : ¬ t.n = 0 := by omega
  have hbn : ¬ t.n < b := by omega
  have hok := h.ok
  have HE : Hid (∀ V, Calls Try.prog 62 #[.agg (layA b l i), .agg #[.slice none 0 0]] V fun e W' => e = .returned (.tuple #[.agg (blk (H.headF [])), .int .i64 0]) ∧ Below V.heap.size V W') := fun V =>
    H.enc_ok b l i 1 (1 + l) (H.nodeB i) (H.bitsAt l i) (H.bitsB b) (H.dataAt b l i) [] none 0 V (fine_i64 hf) (lay_fine hf) ⟨hf.1, hf.2.1⟩ (fun q => by simp at q) (fun q hq => by simp at hq) (by simp) (decide_eq_true ⟨by have := hf.1; simp; omega, fun q hq => by simp at hq, List.nodup_nil⟩)
  have hcan := curV_can hok 1
  have HD : Hid (∀ V, Calls Try.prog 9 #[.agg (layA b l i), .agg (blk (curV t 1))] V fun e' w' => ∃ p, e' = .returned (.tuple #[.agg #[.slice p (tgT b l t).length (tgT b l t).length], .int .i64 (tgE b l t)]) ∧ (p = none ∧ tgT b l t = [] ∨ ∃ q, p = some ⟨q, 0, none⟩ ∧ V.heap.size ≤ q ∧ w'.heap[q]? = some (.cells (H.listRow (tgT b l t)) 3)) ∧ Below V.heap.size V w') := fun V =>
    H.dec_all b l i 1 (1 + l) (H.nodeB i) (H.bitsAt l i) (H.bitsB b) (H.dataAt b l i) (curV t 1) V (fine_i64 hf) (lay_fine hf) ⟨hf.1, hf.2.1⟩ hcan.1
  have href : refV t 1 = 0 := by unfold refV; rw [hs, if_neg (by simp), if_pos ⟨by omega, by omega⟩]
  have HR : Hid (∀ V, Below (W.alloc (.cells (layA b l i) 30)).heap.size (W.alloc (.cells (layA b l i) 30)) V → V.heap[W.heap.size]? = some (.cells (layA b l i) 30) ∧ V.cell? ⟨W.heap.size, 0, none⟩ = some (.int .i64 b) ∧ V.cell? ⟨W.heap.size, 3, none⟩ = some (.int .i64 1) ∧ (∀ k, Calls Try.prog 61 #[.pointer (some ⟨d, 0, none⟩)] (V.drewN k) fun e W' => e = .returned (.int .i64 t.n) ∧ W' = V.drewN k) ∧ Hid (∀ k, Calls Try.prog 30 #[.pointer (some ⟨d, 0, none⟩), .int .i64 1] (V.drewN k) fun e W' => e = .returned (.tuple #[.agg (blk (curV t 1)), .int .i64 0]) ∧ Sits w W' d (readS t) ((W.heap.size, .cells (layA b l i) 30) :: ks))) := fun V hb => by
    have h1 := hA.later hb
    have h2 := heap_kept hrow hb
    refine ⟨h2, Joins.cell_of_block h2 0, Joins.cell_of_block h2 3, fun k => sits_len2 (h1.later (below_drewN _ k)), fun k => ?_⟩
    have h3 := sits_read (h1.later (below_drewN _ k)) hr 1
    unfold readB readV at h3
    rw [href, if_pos rfl, if_pos rfl] at h3
    exact h3
  have HB0 := Hid.mk' (below_new W (.cells (layA b l i) 30))
  clear h hA hf hn hs hr hok hcan href hpos
  unfold ptr at *
  generalize layA b l i = L at *
  generalize curV t 1 = Fc at *
  generalize hTL : tgT b l t = T at *
  generalize tgE b l t = E at *
  have z25 := zero25
  go_enter Try.func36, Try.ntmps36
  go_wp2_with (first | (go_at_call 61; refine hlen.mono ?_; rintro e W1 ⟨rfl, rfl⟩) | refine wpList_load_row rfl 30 (.tmp 3) rfl W.heap.size rfl 30 L (0, 0) _ hrow Try.underlying30 rfl (by rw [hsz]; exact H.size25L) ?_ | (go_at_call 62; fail))
  refine (HE.out _).mono ?_
  rintro e W1 ⟨rfl, hb1⟩
  obtain ⟨hrow2, c0, c3, hlen2, hrd⟩ := HR.out _ (below_next hb1 (below_new W1 (.cells (blk (H.headF [])) 46)))
  have HB1 := Hid.mk' (below_next (below_next HB0.out hb1) (below_new W1 (.cells (blk (H.headF [])) 46)))
  clear hb1 hlen HE HR hrow HB0
  go_wp2_with (first | refine wpList_store25_new rfl (.tmp 6) (.tmp 18) rfl (H.headF []) _ rfl rfl ?_)
  generalize W1.alloc (.cells (blk (H.headF [])) 46) = W2 at *
  go_quiet (first | (go_at_call 61; refine Calls.quiet_of_same (hlen2 _)))
  have hrd2 := hrd.out nq
  have hrow3 : (W2.drewN nq).heap[W.heap.size]? = some (.cells L 30) := hrow2
  clear hlen2 hrd hrow2
  go_wp2_with (go_at_call 30; fail)
  refine hrd2.mono ?_
  rintro e W3 ⟨rfl, h3⟩
  have H3 := Hid.mk' (h3.add (.cells (blk Fc) 46))
  have hrow4 := H3.out.blk (List.mem_cons_of_mem _ (List.mem_cons_self ..))
  have hblk4 := H3.out.blk (List.mem_cons_self ..)
  clear hrd2 h3 hrow3 c0 c3
  go_wp2_with (first | refine wpList_store25_new rfl (.tmp 8) (.tmp 35) rfl Fc _ rfl rfl ?_ | refine wpList_load_row rfl 30 (.tmp 3) rfl W.heap.size rfl 30 L (0, 0) _ hrow4 Try.underlying30 rfl (by rw [hsz]; exact H.size25L) ?_ | refine wpList_load25 rfl (.tmp 8) rfl W3.heap.size rfl Fc hblk4 ?_ | (go_at_call 9; fail))
  refine (HD.out _).mono ?_
  rintro e W4 ⟨p, rfl, hp, hb4⟩
  have H4 : Hid ((p = none ∧ T = []) ∧ Sits w W4 d (readS t) ks ∨ ∃ q, p = some ⟨q, 0, none⟩ ∧ Sits w W4 d (readS t) ((q, .cells (H.listRow T) 3) :: ks)) := by
    have hd : ∀ q ∈ ks, q ∈ (W3.heap.size, Obj.cells (blk Fc) 46) :: (W.heap.size, .cells L 30) :: ks := fun q hq => List.mem_cons_of_mem _ (List.mem_cons_of_mem _ hq)
    rcases hp with hp | ⟨q, hq1, hq2, hq3⟩
    · exact .inl ⟨hp, (H3.out.later hb4).drop hd⟩
    · exact .inr ⟨q, hq1, (H3.out.drop hd).addNew hb4 hq2 hq3⟩
  clear hp hb4 H3 hrow4 hblk4 HD hTL
  go_wp2
  go_ret2
  refine ⟨p, rfl, ?_⟩
  rcases H4.out with ⟨q1, q2⟩ | ⟨q, q1, q2⟩
  · exact .inl ⟨q1, q2.later (below_new _ _)⟩
  · exact .inr ⟨q, q1, q2.later (below_new _ _)⟩
set_option maxRecDepth 20000 in
set_option maxHeartbeats 800000 in
/-- The header is set. -/
theorem sits_setHeader (h : Sits w W d t ks) (b l i : Int) {f : Nat → Int} (hf : Can f) (hr : Rm t 3) : Calls Try.prog 44 #[ptr d, .agg (layA b l i), .agg (blk f)] W fun e W' => e = .returned (.int .i64 (runE [some (1, f), none] t)) ∧ Sits w W' d (runV [some (1, f), none] t) ks := by
  have hA := ((h.add (.cells (layA b l i) 30)).add (.cells (blk f) 46))
  have hw := sits_write hA hr.room 1 hf
  have h31 : ((W.alloc (.cells (layA b l i) 30)).alloc (.cells (blk f) 46)).cell? ⟨W.heap.size, 3, none⟩ = some (.int .i64 1) := Joins.cell_of_block (hA.blk (List.mem_cons_of_mem _ (List.mem_cons_self ..))) 3
  have hblk := hA.blk (List.mem_cons_self ..)
  have hszA : (W.alloc (.cells (layA b l i) 30)).heap.size = W.heap.size + 1 := by simp
  rw [hszA] at hblk
  have hb2 : ∀ W', Sits w W' d (writeV t 1 f) ((((W.alloc (.cells (layA b l i) 30)).heap.size, Obj.cells (blk f) 46)) :: (W.heap.size, .cells (layA b l i) 30) :: ks) → Calls Try.prog 43 #[ptr d] W' fun e W'' => e = .returned (.int .i64 (barE (writeV t 1 f))) ∧ Sits w W'' d (barV (writeV t 1 f)) ks := fun W' h1 =>
    (sits_barrier h1 (Rm.room (n := 1) (hr.dop (some (1, f))))).mono fun e W'' ⟨a1, a2⟩ => ⟨a1, a2.drop fun p hp => List.mem_cons_of_mem _ (List.mem_cons_of_mem _ hp)⟩
  have hsz : (layA b l i).size = 9 := rfl
  by_cases he : writeE t 1 = 0
  · have e1 : runE [some (1, f), none] t = barE (writeV t 1 f) := by
      show (if writeE t 1 = 0 then (if barE (writeV t 1 f) = 0 then 0 else barE (writeV t 1 f)) else writeE t 1) = _
      rw [if_pos he]
      split
      · rename_i q; exact q.symm
      · rfl
    have e2 : runV [some (1, f), none] t = barV (writeV t 1 f) := by
      show (if writeE t 1 = 0 then (if barE (writeV t 1 f) = 0 then barV (writeV t 1 f) else barV (writeV t 1 f)) else writeV t 1 f) = _
      rw [if_pos he]
      split <;> rfl
    rw [e1, e2]
    rw [he] at hw
    have HW := Hid.mk' hw
    have HB2 := Hid.mk' hb2
    clear hw hb2 h hA hr hszA
    unfold ptr at HW ⊢
    generalize hF : blk f = F at *
    generalize hL : layA b l i = L at *
    go_enter Try.func44, Try.ntmps44
    go_wp2_with (first | (go_at_call 63; fail) | refine wpList_load_row rfl 46 (.tmp 5) rfl (W.heap.size + 1) rfl 46 F (0, 0) _ hblk Try.underlying46 rfl (by subst hF; rw [blk_size]; exact size25) ?_)
    refine HW.out.mono ?_
    rintro e W1 ⟨rfl, h1⟩
    have HB3 := Hid.mk' (HB2.out W1 h1)
    unfold ptr at HB3
    clear h1 HB2 HW
    go_wp2_with (go_at_call 43; fail)
    refine HB3.out.mono ?_
    rintro e W2 ⟨rfl, h2⟩
    have H2 := Hid.mk' h2
    clear h2 HB3
    go_wp2
    go_ret
    exact ⟨rfl, H2.out⟩
  · have e1 : runE [some (1, f), none] t = writeE t 1 := by
      show (if writeE t 1 = 0 then (if barE (writeV t 1 f) = 0 then 0 else barE (writeV t 1 f)) else writeE t 1) = _
      rw [if_neg he]
    have e2 : runV [some (1, f), none] t = writeV t 1 f := by
      show (if writeE t 1 = 0 then (if barE (writeV t 1 f) = 0 then barV (writeV t 1 f) else barV (writeV t 1 f)) else writeV t 1 f) = _
      rw [if_neg he]
    rw [e1, e2]
    have HW := Hid.mk' hw
    clear hw hb2 h hA hr hszA
    unfold ptr at HW ⊢
    generalize writeE t 1 = E at *
    generalize hF : blk f = F at *
    generalize hL : layA b l i = L at *
    go_enter Try.func44, Try.ntmps44
    go_wp2_with (first | (go_at_call 63; fail) | refine wpList_load_row rfl 46 (.tmp 5) rfl (W.heap.size + 1) rfl 46 F (0, 0) _ hblk Try.underlying46 rfl (by subst hF; rw [blk_size]; exact size25) ?_)
    refine HW.out.mono ?_
    rintro e W1 ⟨rfl, h1⟩
    have H1 := Hid.mk' (h1.drop (ks' := ks) fun p hp => List.mem_cons_of_mem _ (List.mem_cons_of_mem _ hp))
    clear h1 HW
    go_wp2
    go_ret
    exact ⟨rfl, H1.out⟩
/-- What stands in one block goes to another one. -/
def moE (t : St) (c : Int × Int) : Int := if refV t c.1 = 0 then writeE (readS t) c.2 else refV t c.1
def moV (t : St) (c : Int × Int) : St := if refV t c.1 = 0 then writeV (readS t) c.2 (curV t c.1) else t
def mE : List (Int × Int) → St → Int
  | [], _ => 0
  | o :: r, t => if moE t o = 0 then mE r (moV t o) else moE t o
def mV : List (Int × Int) → St → St
  | [], t => t
  | o :: r, t => if moE t o = 0 then mV r (moV t o) else moV t o
theorem mE_append : ∀ (a b : List (Int × Int)) (t : St), mE (a ++ b) t = if mE a t = 0 then mE b (mV a t) else mE a t
  | [], b, t => by simp [mE, mV]
  | o :: r, b, t => by
    show (if moE t o = 0 then mE (r ++ b) (moV t o) else moE t o) = if (if moE t o = 0 then mE r (moV t o) else moE t o) = 0 then mE b (if moE t o = 0 then mV r (moV t o) else moV t o) else (if moE t o = 0 then mE r (moV t o) else moE t o)
    by_cases h : moE t o = 0
    · simp only [if_pos h]
      exact mE_append r b _
    · simp only [if_neg h]
theorem mV_append : ∀ (a b : List (Int × Int)) (t : St), mV (a ++ b) t = if mE a t = 0 then mV b (mV a t) else mV a t
  | [], b, t => by simp [mE, mV]
  | o :: r, b, t => by
    show (if moE t o = 0 then mV (r ++ b) (moV t o) else moV t o) = if (if moE t o = 0 then mE r (moV t o) else moE t o) = 0 then mV b (if moE t o = 0 then mV r (moV t o) else moV t o) else (if moE t o = 0 then mV r (moV t o) else moV t o)
    by_cases h : moE t o = 0
    · simp only [if_pos h]
      exact mV_append r b _
    · simp only [if_neg h]
def mvs (T : List Int) (i : Nat) : List (Int × Int) := (List.range i).map fun (j : Nat) => (2 + (j : Int), T.getD j 0)
theorem mvs_len (T : List Int) (i : Nat) : (mvs T i).length = i := by simp [mvs]
theorem mvs_succ {T : List Int} {i : Nat} {y : Int} (h : T[i]? = some y) : mvs T (i + 1) = mvs T i ++ [(2 + (i : Int), y)] := by
  unfold mvs
  rw [List.range_succ, List.map_append]
  simp [List.getD, h]
theorem mvs_more (T : List Int) (i : Nat) : ∀ n, i ≤ n → ∃ r, mvs T n = mvs T i ++ r
  | 0, h => ⟨[], by obtain rfl : i = 0 := by omega
                    simp⟩
  | n + 1, h => by
    by_cases e : i = n + 1
    · exact ⟨[], by rw [e]; simp⟩
    · obtain ⟨r, hr⟩ := mvs_more T i n (by omega)
      refine ⟨r ++ [(2 + (n : Int), T.getD n 0)], ?_⟩
      rw [← List.append_assoc, ← hr]
      unfold mvs
      rw [List.range_succ, List.map_append]
      rfl
theorem mv_snoc {a : List (Int × Int)} {o : Int × Int} (h : mE a t = 0) : mE (a ++ [o]) t = moE (mV a t) o ∧ mV (a ++ [o]) t = moV (mV a t) o := by
  rw [mE_append, mV_append, if_pos h, if_pos h]
  constructor
  · show (if moE (mV a t) o = 0 then 0 else moE (mV a t) o) = _
    split
    · rename_i q; exact q.symm
    · rfl
  · show (if moE (mV a t) o = 0 then moV (mV a t) o else moV (mV a t) o) = _
    split <;> rfl
theorem mv_ended {a b : List (Int × Int)} (h : mE a t ≠ 0) : mE (a ++ b) t = mE a t ∧ mV (a ++ b) t = mV a t := by
  rw [mE_append, mV_append, if_neg h, if_neg h]
  exact ⟨rfl, rfl⟩
theorem mo_nums (t : St) (o : Int × Int) : (moV t o).made ≤ t.made + 1 ∧ (moV t o).reads ≤ t.reads + 1 ∧ (moV t o).claims = t.claims ∧ (moV t o).claimed = t.claimed ∧ (moV t o).n = t.n ∧ (moV t o).ops.length ≤ t.ops.length + 1 := by
  unfold moV
  split
  · obtain ⟨a1, a2, a3, a4, a5, a6⟩ := dop_nums (readS t) (some (o.2, curV t o.1))
    exact ⟨a1, by show (writeV (readS t) o.2 (curV t o.1)).reads ≤ _; rw [show (writeV (readS t) o.2 (curV t o.1)).reads = (readS t).reads from a2]; exact Int.le_refl _, a3, a4, a5, a6⟩
  · exact ⟨by omega, by omega, rfl, rfl, rfl, by omega⟩
theorem mv_nums : ∀ (l : List (Int × Int)) (t : St), (mV l t).made ≤ t.made + l.length ∧ (mV l t).reads ≤ t.reads + l.length ∧ (mV l t).claims = t.claims ∧ (mV l t).claimed = t.claimed ∧ (mV l t).n = t.n ∧ (mV l t).ops.length ≤ t.ops.length + l.length
  | [], t => by simp [mV]
  | o :: r, t => by
    obtain ⟨a1, a2, a3, a4, a5, a6⟩ := mo_nums t o
    obtain ⟨b1, b2, b3, b4, b5, b6⟩ := mv_nums r (moV t o)
    unfold mV
    split
    · exact ⟨by simp only [List.length_cons]; omega, by simp only [List.length_cons]; omega, b3.trans a3, b4.trans a4, b5.trans a5, by simp only [List.length_cons]; omega⟩
    · exact ⟨by simp only [List.length_cons]; omega, by simp only [List.length_cons]; omega, a3, a4, a5, by simp only [List.length_cons]; omega⟩
theorem Rm.moves {n : Nat} {l : List (Int × Int)} (h : Rm t (n + l.length)) : Rm (mV l t) n := by
  obtain ⟨h1, h2, h3, h4⟩ := h
  obtain ⟨b1, b2, b3, b4, b5, b6⟩ := mv_nums l t
  exact ⟨by omega, by omega, by omega, by omega⟩
theorem Rm.readS {n : Nat} (h : Rm t (n + 1)) : Rm (readS t) n := by
  obtain ⟨h1, h2, h3, h4⟩ := h
  refine ⟨?_, ?_, ?_, ?_⟩
  · show t.ops.length + n < _; omega
  · show t.made + n < _; omega
  · show t.reads + 1 + n < _; omega
  · show t.claims + n < _; omega
set_option maxRecDepth 20000 in
set_option maxHeartbeats 800000 in
theorem sits_move (h : Sits w W d t ks) (hr : Rm t 2) (a b : Int) : Calls Try.prog 41 #[ptr d, .int .i64 a, .int .i64 b] W fun e W' => e = .returned (.int .i64 (moE t (a, b))) ∧ Sits w W' d (moV t (a, b)) ks := by
  have hrd := sits_read h (Rm.room hr) a
  have hok := h.ok
  have z25 := zero25
  unfold ptr
  unfold moE moV
  unfold readB readV at hrd
  by_cases href : refV t a = 0
  · simp only [href, if_true] at hrd ⊢
    have HWr : Hid (∀ V, Sits w V d (readS t) ks → Calls Try.prog 63 #[.pointer (some ⟨d, 0, none⟩), .int .i64 b, .agg (blk (curV t a))] (V.alloc (.cells (blk (curV t a)) 46)) fun e W' => e = .returned (.int .i64 (writeE (readS t) b)) ∧ Sits w W' d (writeV (readS t) b (curV t a)) ks) := fun V h1 => sits_write (h1.later (below_new _ _)) (Rm.room hr.readS) b (curV_can hok a)
    clear h hok
    generalize curV t a = F at *
    go_enter Try.func41, Try.ntmps41
    go_wp2_with (go_at_call 30; fail)
    refine hrd.mono ?_
    rintro e W1 ⟨rfl, h1⟩
    have H1 := Hid.mk' (HWr.out W1 h1)
    clear h1 HWr hrd
    go_wp2_with (first | refine wpList_store25_new rfl (.tmp 7) (.tmp 13) rfl F _ rfl rfl ?_ | refine wpList_load25 rfl (.tmp 7) rfl W1.heap.size rfl F (heap_alloc_new _ _) ?_ | (go_at_call 63; fail))
    refine H1.out.mono ?_
    rintro e W2 ⟨rfl, h2⟩
    have H2 := Hid.mk' h2
    clear h2 H1
    go_wp2
    go_ret
    exact ⟨rfl, H2.out⟩
  · simp only [href, if_false] at hrd ⊢
    clear h hok
    generalize refV t a = E at *
    go_enter Try.func41, Try.ntmps41
    go_wp2_with (go_at_call 30; fail)
    refine hrd.mono ?_
    rintro e W1 ⟨rfl, h1⟩
    have H1 := Hid.mk' (h1.later (below_new W1 (.cells (blk nought) 46)))
    clear h1 hrd
    go_wp2_with (first | refine wpList_store25_new rfl (.tmp 7) (.tmp 13) rfl nought _ rfl rfl ?_)
    go_ret
    exact ⟨rfl, H1.out⟩
end Go.Proofs.Ytglcliokhlafoaa
