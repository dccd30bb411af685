/- Several texts joined: the log, its cache and its disk, of the program and of the document; no condition. -/
import Derived.Test.YtichojdcoegboaaGreatK21
namespace Go.Proofs.YtichojdcoegboaaGreatW
open Go.RowKit Go.Maps
variable {w W : World} {g d c mb : Nat} {v : Value} {x : LSt} {s : CSt} {t : St} {os ks : List (Nat × Obj)} {base : Nat} {book : Int → Nat → Int}
theorem retL {fn : Func} {p : Tmp} {R : Ending → World → Prop} {a : Act} {w : World} (h : fn.results = #[.cell p 59]) (g : Nat) (cs : Array Value) (hs : cs.size = 9)
  (hp : a.tmps.getD p undef = .pointer (some ⟨g, 0, none⟩)) (hg : w.heap[g]? = some (.cells cs 59)) (hd : a.defers = []) (hR : R (.returned (.agg cs)) w) : bodyPost Tryz.prog fn R .ret a w :=
 bodyPost_ret (results_cell_row h a.tmps w g 59 cs (0, 0) _ hp hg Tryz.underlying59 rfl (by rw [hs]; exact H.size25L)) hd hR
theorem endL_ref (h : LogSit w W g d x s t ks) {e0 : Int} (hr : refL x t true = e0) (h0 : e0 ≠ 0) : Calls Tryz.prog 22 #[ptr g] W fun e W' => e = .returned (.int .i64 e0) ∧ LogSit w W' g d x s t ks := by
 obtain ⟨c, mb, v, os, h⟩ := h
 have hc : Calls Tryz.prog 74 #[ptr g, .bool true] W fun e W' => e = .returned (.int .i64 e0) ∧ LogSit w W' g d x s t ks := by
  refine (h.refuses true).mono ?_
  rintro e W' ⟨rfl, m, rfl⟩
  exact ⟨by rw [hr], c, mb, v, os, h.later (below_drewN _ m)⟩
 clear h hr
 unfold ptr at *
 go_enter Tryz.func22, Tryz.ntmps22
 go_wp2_with (first | (go_at_call 74; refine hc.mono ?_; rintro e W1 ⟨rfl, h1⟩))
 go_ret
 exact ⟨rfl, h1⟩
def endX (x : LSt) : LSt := { x with opn := false, steps := x.steps + 1 }
theorem endL_ok (h : LogSit w W g d x s t ks) (hr : refL x t true = 0) (hst : 0 ≤ x.steps ∧ x.steps ≤ 1099511627776) : Calls Tryz.prog 22 #[ptr g] W fun e W' => e = .returned (.int .i64 0) ∧ LogSit w W' g d (endX x) s t ks := by
 obtain ⟨c, mb, v, os, h⟩ := h
 have hc : Calls Tryz.prog 74 #[ptr g, .bool true] W fun e W' => e = .returned (.int .i64 0) ∧ W'.cell? ⟨g, 15, none⟩ = some (.bool x.opn) ∧ W'.cell? ⟨g, 18, none⟩ = some (.int .i64 x.steps) ∧ W'.frozen? ⟨g, 15, none⟩ = false ∧ W'.frozen? ⟨g, 18, none⟩ = false ∧ Hid (LogSit w W' g d x s t ks) := by
  refine (h.refuses true).mono ?_
  rintro e W' ⟨rfl, m, rfl⟩
  have h1 := h.later (below_drewN _ m)
  exact ⟨by rw [hr], h1.log.c15, h1.log.c18, h1.log.free 15, h1.log.free 18, c, mb, v, os, h1⟩
 clear h hr
 unfold ptr at *
 go_enter Tryz.func22, Tryz.ntmps22
 go_wp2_with (first | (go_at_call 74; refine hc.mono ?_; rintro e W1 ⟨rfl, c15, c18, f15, f18, h1⟩))
 go_ret
 exact ⟨rfl, (h1.out.setOpn false).setSteps (x.steps + 1)⟩
theorem LogI.ends (h : LogI w W g d x t book ks) (hr : refL x t true = 0) (hst : x.steps < 1099511627776) : Calls Tryz.prog 22 #[ptr g] W fun e W' => e = .returned (.int .i64 0) ∧ LogI w W' g d (endX x) t book ks := by
 obtain ⟨s, h1, h2⟩ := h
 refine (endL_ok h1 hr h2.steps).mono ?_
 rintro e W' ⟨rfl, h3⟩
 exact ⟨rfl, s, h3, h2.fine, h2.c, h2.nd, h2.rng, h2.fast, h2.last, h2.len, ⟨by have := h2.steps; show 0 ≤ x.steps + 1; omega, by show x.steps + 1 ≤ _; omega⟩, h2.commits, h2.room, fun q => by cases q⟩
end Go.Proofs.YtichojdcoegboaaGreatW
namespace Go.Proofs.YtichojdcoegboaaGreatW
open Go.RowKit Go.Maps
variable {w W : World} {g d c mb : Nat} {v : Value} {x : LSt} {s : CSt} {t : St} {os ks : List (Nat × Obj)} {base : Nat} {book : Int → Nat → Int}
def dopE (t : St) : Option Cel → Int
 | some c => writeE t c.1
 | none => barE t
def dopV (t : St) : Option Cel → St
 | some c => writeV t c.1 c.2
 | none => barV t
def runE : List (Option Cel) → St → Int
 | [], _ => 0
 | o :: r, t => if dopE t o = 0 then runE r (dopV t o) else dopE t o
def runV : List (Option Cel) → St → St
 | [], t => t
 | o :: r, t => if dopE t o = 0 then runV r (dopV t o) else dopV t o
theorem runE_append : ∀ (a b : List (Option Cel)) (t : St), runE (a ++ b) t = if runE a t = 0 then runE b (runV a t) else runE a t
 | [], b, t => by simp [runE, runV]
 | o :: r, b, t => by
  show (if dopE t o = 0 then runE (r ++ b) (dopV t o) else dopE t o) = if (if dopE t o = 0 then runE r (dopV t o) else dopE t o) = 0 then runE b (if dopE t o = 0 then runV r (dopV t o) else dopV t o) else (if dopE t o = 0 then runE r (dopV t o) else dopE t o)
  by_cases h : dopE t o = 0
  ·simp only [if_pos h]
   exact runE_append r b _
  ·simp only [if_neg h]
theorem runV_append : ∀ (a b : List (Option Cel)) (t : St), runV (a ++ b) t = if runE a t = 0 then runV b (runV a t) else runV a t
 | [], b, t => by simp [runE, runV]
 | o :: r, b, t => by
  show (if dopE t o = 0 then runV (r ++ b) (dopV t o) else dopV t o) = if (if dopE t o = 0 then runE r (dopV t o) else dopE t o) = 0 then runV b (if dopE t o = 0 then runV r (dopV t o) else dopV t o) else (if dopE t o = 0 then runV r (dopV t o) else dopV t o)
  by_cases h : dopE t o = 0
  ·simp only [if_pos h]
   exact runV_append r b _
  ·simp only [if_neg h]
def Rm (t : St) (n : Nat) : Prop := t.ops.length + n < 68719476736 ∧ t.made + n < 1099511627776 ∧ t.reads + n < 1099511627776 ∧ t.claims + n < 1099511627776
theorem Rm.room {n : Nat} (h : Rm t (n + 1)) : Room t := by
 obtain ⟨h1, h2, h3, h4⟩ := h
 exact ⟨by omega, by omega, by omega, by omega⟩
theorem Rm.le {n m : Nat} (h : Rm t n) (hm : m ≤ n) : Rm t m := by
 obtain ⟨h1, h2, h3, h4⟩ := h
 exact ⟨by omega, by omega, by omega, by omega⟩
theorem letV_nums (t : St) : (letV t).made ≤ t.made + 1 ∧ (letV t).reads = t.reads ∧ (letV t).claims = t.claims ∧ (letV t).claimed = t.claimed := by
 unfold letV
 split
 ·exact ⟨by show t.made ≤ _; omega, rfl, rfl, rfl⟩
 ·exact ⟨Int.le_refl _, rfl, rfl, rfl⟩
theorem barS_nums (t : St) : (barS t).made = (letV t).made ∧ (barS t).reads = t.reads ∧ (barS t).claims = t.claims ∧ (barS t).claimed = t.claimed ∧ (barS t).n = t.n ∧ (barS t).stopped = (letV t).stopped ∧ (barS t).fuse = (letV t).fuse := by
 obtain ⟨hh, he⟩ := holdAll_same t.wait (letV t)
 have hl := letV_nums t
 unfold barS
 rw [he]
 exact ⟨rfl, hl.2.1, hl.2.2.1, hl.2.2.2, letV_n t, rfl, rfl⟩
theorem dop_nums (t : St) (o : Option Cel) : (dopV t o).made ≤ t.made + 1 ∧ (dopV t o).reads = t.reads ∧ (dopV t o).claims = t.claims ∧ (dopV t o).claimed = t.claimed ∧ (dopV t o).n = t.n ∧ (dopV t o).ops.length ≤ t.ops.length + 1 := by
 have hl := letV_nums t
 have hn := letV_n t
 have ho := letV_ops t
 cases o with
 | none =>
  show (barV t).made ≤ _ ∧ (barV t).reads = _ ∧ (barV t).claims = _ ∧ (barV t).claimed = _ ∧ (barV t).n = _ ∧ (barV t).ops.length ≤ _
  unfold barV
  split
  ·exact ⟨by omega, rfl, rfl, rfl, rfl, by omega⟩
  ·split
   ·have hb := barS_nums t
    exact ⟨by omega, hb.2.1, hb.2.2.1, hb.2.2.2.1, hb.2.2.2.2.1, by rw [barS_ops]; simp⟩
   ·exact ⟨hl.1, hl.2.1, hl.2.2.1, hl.2.2.2, hn, by rw [ho]; omega⟩
 | some c =>
  show (writeV t c.1 c.2).made ≤ _ ∧ (writeV t c.1 c.2).reads = _ ∧ (writeV t c.1 c.2).claims = _ ∧ (writeV t c.1 c.2).claimed = _ ∧ (writeV t c.1 c.2).n = _ ∧ (writeV t c.1 c.2).ops.length ≤ _
  unfold writeV
  split
  ·split
   ·exact ⟨hl.1, hl.2.1, hl.2.2.1, hl.2.2.2, hn, by rw [writeS_ops]; simp⟩
   ·exact ⟨hl.1, hl.2.1, hl.2.2.1, hl.2.2.2, hn, by rw [ho]; omega⟩
  ·exact ⟨by omega, rfl, rfl, rfl, rfl, by omega⟩
theorem Rm.dop {n : Nat} (h : Rm t (n + 1)) (o : Option Cel) : Rm (dopV t o) n := by
 obtain ⟨h1, h2, h3, h4⟩ := h
 obtain ⟨a1, a2, a3, _, _, a6⟩ := dop_nums t o
 exact ⟨by omega, by omega, by omega, by omega⟩
theorem run_nums : ∀ (l : List (Option Cel)) (t : St), (runV l t).made ≤ t.made + l.length ∧ (runV l t).reads = t.reads ∧ (runV l t).claims = t.claims ∧ (runV l t).claimed = t.claimed ∧ (runV l t).n = t.n ∧ (runV l t).ops.length ≤ t.ops.length + l.length
 | [], t => by simp [runV]
 | o :: r, t => by
  obtain ⟨a1, a2, a3, a4, a5, a6⟩ := dop_nums t o
  obtain ⟨b1, b2, b3, b4, b5, b6⟩ := run_nums r (dopV t o)
  unfold runV
  split
  ·exact ⟨by simp only [List.length_cons]; omega, b2.trans a2, b3.trans a3, b4.trans a4, b5.trans a5, by simp only [List.length_cons]; omega⟩
  ·exact ⟨by simp only [List.length_cons]; omega, a2, a3, a4, a5, by simp only [List.length_cons]; omega⟩
theorem Rm.run {n : Nat} {l : List (Option Cel)} (h : Rm t (n + l.length)) : Rm (runV l t) n := by
 obtain ⟨h1, h2, h3, h4⟩ := h
 obtain ⟨b1, b2, b3, b4, b5, b6⟩ := run_nums l t
 exact ⟨by omega, by omega, by omega, by omega⟩
theorem dop_live {o : Option Cel} (h : dopE t o = 0) : t.stopped = false ∧ (dopV t o).stopped = false := by
 cases o with
 | none =>
  have h : barE t = 0 := h
  unfold barE at h
  split at h
  ·omega
  ·rename_i hs
   have hs' : t.stopped = false := by simpa using hs
   split at h
   ·rename_i hl
    refine ⟨hs', ?_⟩
    show (barV t).stopped = false
    unfold barV
    rw [if_neg hs, if_pos hl, (barS_nums t).2.2.2.2.2.1]
    unfold letV
    rw [if_neg (by unfold lets at hl; simpa using hl)]
    exact hs'
   ·omega
 | some c =>
  have h : writeE t c.1 = 0 := h
  unfold writeE at h
  split at h
  ·rename_i hr
   have hs' := (refV_ok hr).1
   split at h
   ·rename_i hl
    refine ⟨hs', ?_⟩
    show (writeV t c.1 c.2).stopped = false
    unfold writeV
    rw [if_pos hr, if_pos hl]
    show (letV t).stopped = false
    unfold letV
    rw [if_neg (by unfold lets at hl; simpa using hl)]
    exact hs'
   ·omega
  ·rename_i hr
   exact absurd h hr
theorem run_live : ∀ (l : List (Option Cel)) (t : St), t.stopped = false → runE l t = 0 → (runV l t).stopped = false
 | [], t, hs, _ => hs
 | o :: r, t, hs, h => by
  unfold runE at h
  unfold runV
  by_cases ho : dopE t o = 0
  ·rw [if_pos ho] at h ⊢
   exact run_live r _ (dop_live ho).2 h
  ·rw [if_neg ho] at h
   exact absurd h ho
theorem dsit_write (h : Sit w W c d s t ks) (hr : Room t) (k : Int) {f : Nat → Int} (hf : Can f) : Calls Tryz.prog 110 #[ptr d, .int .i64 k, .agg (Go.Proofs.YtichojdcoegboaaGreatW.blk f)] W fun e W' => e = .returned (.int .i64 (writeE t k)) ∧ Sit w W' c d s (writeV t k f) ks := by
 obtain ⟨K, L, rfl, rfl, h⟩ := h
 refine (write_any h.cd.disk hr k hf).mono ?_
 rintro e W' ⟨rfl, L', h2, h3⟩
 obtain ⟨a1, a2⟩ := h.cd.disks h2 h3
 exact ⟨rfl, Sit.goes rfl rfl h a1 a2⟩
theorem dsit_barrier (h : Sit w W c d s t ks) (hr : Room t) : Calls Tryz.prog 92 #[ptr d] W fun e W' => e = .returned (.int .i64 (barE t)) ∧ Sit w W' c d s (barV t) ks := by
 obtain ⟨K, L, rfl, rfl, h⟩ := h
 unfold barE barV
 cases hs : t.stopped
 ·simp only [Bool.false_eq_true, if_false]
  cases hl : lets t
  ·refine (barrier_dead h.cd.disk hr hs hl).mono ?_
   rintro e W' ⟨rfl, h2, h3⟩
   obtain ⟨a1, a2⟩ := h.cd.disks h2 h3
   exact ⟨rfl, Sit.goes rfl rfl h a1 a2⟩
  ·refine (barrier_ok h.cd.disk hr hs hl).mono ?_
   rintro e W' ⟨rfl, L', h2, h3⟩
   obtain ⟨a1, a2⟩ := h.cd.disks h2 h3
   exact ⟨rfl, Sit.goes rfl rfl h a1 a2⟩
 ·simp only [if_true]
  refine (barrier_stopped h.cd.disk hs).mono ?_
  rintro e W' ⟨rfl, rfl⟩
  exact ⟨rfl, K, L, rfl, rfl, h⟩
theorem LogSit.dwrite (h : LogSit w W g d x s t ks) (hr : Room t) (k : Int) {f : Nat → Int} (hf : Can f) : Calls Tryz.prog 110 #[ptr d, .int .i64 k, .agg (blk f)] W fun e W' => e = .returned (.int .i64 (writeE t k)) ∧ LogSit w W' g d x s (writeV t k f) ks := by
 obtain ⟨c, mb, v, os, h⟩ := h
 exact (dsit_write h.sit hr k hf).mono fun e W' ⟨h1, h2⟩ => ⟨h1, c, mb, v, os, h.step h2⟩
theorem LogSit.dbarrier (h : LogSit w W g d x s t ks) (hr : Room t) : Calls Tryz.prog 92 #[ptr d] W fun e W' => e = .returned (.int .i64 (barE t)) ∧ LogSit w W' g d x s (barV t) ks := by
 obtain ⟨c, mb, v, os, h⟩ := h
 exact (dsit_barrier h.sit hr).mono fun e W' ⟨h1, h2⟩ => ⟨h1, c, mb, v, os, h.step h2⟩
set_option maxRecDepth 20000 in
set_option maxHeartbeats 800000 in
theorem LogSit.setHeader (h : LogSit w W g d x s t ks) (b l i : Int) {f : Nat → Int} (hf : Can f) (hr : Rm t 3) : Calls Tryz.prog 93 #[ptr d, .agg (layA b l i), .agg (blk f)] W fun e W' => e = .returned (.int .i64 (runE [some (1, f), none] t)) ∧ LogSit w W' g d x s (runV [some (1, f), none] t) ks := by
 have hA := ((h.add (.cells (layA b l i) 59)).add (.cells (blk f) 64))
 have hw := hA.dwrite hr.room 1 hf
 have h31 : ((W.alloc (.cells (layA b l i) 59)).alloc (.cells (blk f) 64)).cell? ⟨W.heap.size, 3, none⟩ = some (.int .i64 1) := Joins.cell_of_block (hA.obj (List.mem_cons_of_mem _ (List.mem_cons_self ..))) 3
 have hblk := hA.obj (List.mem_cons_self ..)
 have hszA : (W.alloc (.cells (layA b l i) 59)).heap.size = W.heap.size + 1 := by simp
 rw [hszA] at hblk
 have hb2 : ∀ W', LogSit w W' g d x s (writeV t 1 f) ((((W.alloc (.cells (layA b l i) 59)).heap.size, Obj.cells (blk f) 64)) :: (W.heap.size, .cells (layA b l i) 59) :: ks) → Calls Tryz.prog 92 #[ptr d] W' fun e W'' => e = .returned (.int .i64 (barE (writeV t 1 f))) ∧ LogSit w W'' g d x s (barV (writeV t 1 f)) ks := fun W' h1 =>
  (h1.dbarrier (Rm.room (n := 1) (hr.dop (some (1, f))))).mono fun e W'' ⟨a1, a2⟩ => ⟨a1, a2.drop fun p hp => List.mem_cons_of_mem _ (List.mem_cons_of_mem _ hp)⟩
 have hsz : (layA b l i).size = 9 := rfl
 by_cases he : writeE t 1 = 0
 ·have e1 : runE [some (1, f), none] t = barE (writeV t 1 f) := by
   show (if writeE t 1 = 0 then (if barE (writeV t 1 f) = 0 then 0 else barE (writeV t 1 f)) else writeE t 1) = _
   rw [if_pos he]
   split
   ·rename_i q; exact q.symm
   ·rfl
  have e2 : runV [some (1, f), none] t = barV (writeV t 1 f) := by
   show (if writeE t 1 = 0 then (if barE (writeV t 1 f) = 0 then barV (writeV t 1 f) else barV (writeV t 1 f)) else writeV t 1 f) = _
   rw [if_pos he]
   split <;> rfl
  rw [e1, e2]
  rw [he] at hw
  have HW := Hid.mk' hw
  have HB2 := Hid.mk' hb2
  clear hw hb2 h hA hr hszA
  unfold ptr at HW ⊢
  generalize hF : blk f = F at *
  generalize hL : layA b l i = L at *
  go_enter Tryz.func93, Tryz.ntmps93
  go_wp2_with (first | (go_at_call 110; fail) | refine wpList_load_row rfl 64 (.tmp 5) rfl (W.heap.size + 1) rfl 64 F (0, 0) _ hblk Tryz.underlying64 rfl (by subst hF; rw [blk_size]; exact size25) ?_)
  refine HW.out.mono ?_
  rintro e W1 ⟨rfl, h1⟩
  have HB3 := Hid.mk' (HB2.out W1 h1)
  unfold ptr at HB3
  clear h1 HB2 HW
  go_wp2_with (go_at_call 92; fail)
  refine HB3.out.mono ?_
  rintro e W2 ⟨rfl, h2⟩
  have H2 := Hid.mk' h2
  clear h2 HB3
  go_wp2
  go_ret
  exact ⟨rfl, H2.out⟩
 ·have e1 : runE [some (1, f), none] t = writeE t 1 := by
   show (if writeE t 1 = 0 then (if barE (writeV t 1 f) = 0 then 0 else barE (writeV t 1 f)) else writeE t 1) = _
   rw [if_neg he]
  have e2 : runV [some (1, f), none] t = writeV t 1 f := by
   show (if writeE t 1 = 0 then (if barE (writeV t 1 f) = 0 then barV (writeV t 1 f) else barV (writeV t 1 f)) else writeV t 1 f) = _
   rw [if_neg he]
  rw [e1, e2]
  have HW := Hid.mk' hw
  clear hw hb2 h hA hr hszA
  unfold ptr at HW ⊢
  generalize writeE t 1 = E at *
  generalize hF : blk f = F at *
  generalize hL : layA b l i = L at *
  go_enter Tryz.func93, Tryz.ntmps93
  go_wp2_with (first | (go_at_call 110; fail) | refine wpList_load_row rfl 64 (.tmp 5) rfl (W.heap.size + 1) rfl 64 F (0, 0) _ hblk Tryz.underlying64 rfl (by subst hF; rw [blk_size]; exact size25) ?_)
  refine HW.out.mono ?_
  rintro e W1 ⟨rfl, h1⟩
  have H1 := Hid.mk' (h1.drop (ks' := ks) fun p hp => List.mem_cons_of_mem _ (List.mem_cons_of_mem _ hp))
  clear h1 HW
  go_wp2
  go_ret
  exact ⟨rfl, H1.out⟩
end Go.Proofs.YtichojdcoegboaaGreatW
namespace Go.Proofs.YtichojdcoegboaaGreatW
open Go.RowKit Go.Maps
variable {w W : World} {g d c mb : Nat} {v : Value} {x : LSt} {s : CSt} {t : St} {os ks : List (Nat × Obj)} {base : Nat} {book : Int → Nat → Int}
def putOps (book : Int → Nat → Int) (l : List Int) : List (Option Cel) := l.map fun k => some (k, book k)
theorem putOps_len (l : List Int) : (putOps book l).length = l.length := by simp [putOps]
theorem run_snoc {a : List (Option Cel)} {o : Option Cel} (h : runE a t = 0) : runE (a ++ [o]) t = dopE (runV a t) o ∧ runV (a ++ [o]) t = dopV (runV a t) o := by
 rw [runE_append, runV_append, if_pos h, if_pos h]
 constructor
 ·show (if dopE (runV a t) o = 0 then 0 else dopE (runV a t) o) = _
  split
  ·rename_i q; exact q.symm
  ·rfl
 ·show (if dopE (runV a t) o = 0 then dopV (runV a t) o else dopV (runV a t) o) = _
  split <;> rfl
theorem run_stop {a b : List (Option Cel)} {o : Option Cel} (h : runE a t = 0) (ho : dopE (runV a t) o ≠ 0) : runE (a ++ o :: b) t = dopE (runV a t) o ∧ runV (a ++ o :: b) t = dopV (runV a t) o := by
 rw [runE_append, runV_append, if_pos h, if_pos h]
 constructor
 ·show (if dopE (runV a t) o = 0 then _ else dopE (runV a t) o) = _
  rw [if_neg ho]
 ·show (if dopE (runV a t) o = 0 then _ else dopV (runV a t) o) = _
  rw [if_neg ho]
theorem LS.flush (h : LS w W g d c mb v x s t os ks) (hr : Room t) (k : Int) : Calls Tryz.prog 133 #[ptr c, .int .i64 k] W fun e W' => e = .returned (.int .i64 (flushE s t k)) ∧ LS w W' g d c mb v x (flushC s t k) (flushD s t k) os ks :=
 (sit_flush h.sit hr k).mono fun _ _ ⟨h1, h2⟩ => ⟨h1, h.step h2⟩
theorem LS.dbarrier (h : LS w W g d c mb v x s t os ks) (hr : Room t) : Calls Tryz.prog 92 #[ptr d] W fun e W' => e = .returned (.int .i64 (barE t)) ∧ LS w W' g d c mb v x s (barV t) os ks :=
 (dsit_barrier h.sit hr).mono fun _ _ ⟨h1, h2⟩ => ⟨h1, h.step h2⟩
def PlI (w : World) (g d c mb : Nat) (v : Value) (x : LSt) (t : St) (book : Int → Nat → Int) (os ks : List (Nat × Obj)) (i : Nat) (wx : World) : Prop :=
 ∃ s', LS w wx g d c mb v x s' (runV (putOps book (x.blocks.take i)) t) os ks ∧ runE (putOps book (x.blocks.take i)) t = 0 ∧ CInv x.b x.l s' (runV (putOps book (x.blocks.take i)) t) book (fun k => decide (k ∈ x.blocks.drop i)) ∧ (fastN s'.row : Int) = x.blocks.length - i
theorem PlI.next {i : Nat} {wx : World} (h : PlI w g d c mb v x t book os ks i wx) (hs : t.stopped = false) (hnd : x.blocks.Nodup) (hrng : ∀ k ∈ x.blocks, Dat x.b x.l k) (hi : i < x.blocks.length) (hrm : Rm t (x.blocks.length + 2)) :
  Calls Tryz.prog 133 #[ptr c, .int .i64 x.blocks[i]] wx fun e W' => (e = .returned (.int .i64 0) ∧ PlI w g d c mb v x t book os ks (i + 1) W') ∨ (∃ E, E ≠ 0 ∧ e = .returned (.int .i64 E) ∧ runE (putOps book x.blocks ++ [none]) t = E ∧ ∃ s', LS w W' g d c mb v x s' (runV (putOps book x.blocks ++ [none]) t) os ks) := by
 obtain ⟨s', h1, h2, h3, h4⟩ := h
 have hmem : x.blocks[i] ∈ x.blocks := List.getElem_mem _
 have hD := hrng _ hmem
 have hdr : x.blocks.drop i = x.blocks[i] :: x.blocks.drop (i + 1) := List.drop_eq_getElem_cons hi
 have htk : x.blocks.take (i + 1) = x.blocks.take i ++ [x.blocks[i]] := by rw [List.take_add_one, List.getElem?_eq_getElem hi]; rfl
 have hall : x.blocks = x.blocks.take i ++ x.blocks[i] :: x.blocks.drop (i + 1) := by rw [← hdr, List.take_append_drop]
 have hnot : x.blocks[i] ∉ x.blocks.drop (i + 1) := by
  have hn2 := hnd
  rw [hall] at hn2
  exact (List.nodup_cons.1 (List.nodup_append.1 hn2).2.1).1
 generalize x.blocks[i] = k at *
 have hl2 : (putOps book (x.blocks.take i)).length = i := by rw [putOps_len, List.length_take]; omega
 have hRm : Rm (runV (putOps book (x.blocks.take i)) t) 1 := Rm.run (n := 1) (hrm.le (by rw [hl2]; omega))
 have hlv := run_live _ _ hs h2
 have hops : putOps book (x.blocks.take (i + 1)) = putOps book (x.blocks.take i) ++ [some (k, book k)] := by unfold putOps; rw [htk]; simp
 have hops2 : putOps book x.blocks ++ [none] = putOps book (x.blocks.take i) ++ some (k, book k) :: (putOps book (x.blocks.drop (i + 1)) ++ [none]) := by
  have : putOps book x.blocks = putOps book (x.blocks.take i) ++ some (k, book k) :: putOps book (x.blocks.drop (i + 1)) := by
   have e : putOps book x.blocks = putOps book (x.blocks.take i ++ k :: x.blocks.drop (i + 1)) := by rw [← hall]
   rw [e]; unfold putOps; simp
  rw [this]; simp
 have hF : decide (k ∈ x.blocks.drop i) = true := by rw [hdr]; simp
 obtain ⟨f1, f2⟩ := h3.flushed hlv hD hF
 refine (h1.flush (Rm.room hRm) k).mono ?_
 rintro e W' ⟨rfl, h5⟩
 rw [f1]
 rw [f2] at h5
 by_cases he : writeE (runV (putOps book (x.blocks.take i)) t) k = 0
 ·obtain ⟨r1, r2⟩ := run_snoc (o := some (k, book k)) h2
  rw [← hops] at r1 r2
  have hl : lets (runV (putOps book (x.blocks.take i)) t) = true := by
   unfold writeE at he
   rw [if_pos (h3.ref hlv hD)] at he
   cases hq : lets (runV (putOps book (x.blocks.take i)) t)
   ·rw [hq] at he; simp at he
   ·rfl
  obtain ⟨a1, a2⟩ := h3.flush hlv hD hF hl h5.sit.ok.1
  refine .inl ⟨by rw [he], _, by rw [r2]; exact h5, by rw [r1]; exact he, ?_, by rw [a2, h4]; omega⟩
  rw [r2]
  have hfun : (fun j => decide (j ∈ x.blocks.drop (i + 1))) = (fun j => if j = k then false else decide (j ∈ x.blocks.drop i)) := by
   funext j
   by_cases ej : j = k
   ·rw [if_pos ej, ej]; exact decide_eq_false hnot
   ·rw [if_neg ej, hdr]; simp [ej]
  rw [hfun]
  exact a1
 ·obtain ⟨r1, r2⟩ := run_stop (o := some (k, book k)) (b := putOps book (x.blocks.drop (i + 1)) ++ [none]) h2 he
  rw [← hops2] at r1 r2
  exact .inr ⟨_, he, rfl, r1, _, by rw [r2]; exact h5⟩
set_option maxRecDepth 20000 in
set_option maxHeartbeats 1600000 in
theorem LS.toPlaces (h : LS w W g d c mb v x s t os ks) (hc : CInv x.b x.l s t book (inB x)) (hf : (fastN s.row : Int) = x.blocks.length) (hs : t.stopped = false) (hnd : x.blocks.Nodup) (hrng : ∀ k ∈ x.blocks, Dat x.b x.l k) (hrm : Rm t (x.blocks.length + 2)) (hn : x.blocks.length ≤ 256) :
  Calls Tryz.prog 106 #[ptr g] W fun e W' => e = .returned (.int .i64 (runE (putOps book x.blocks ++ [none]) t)) ∧ ∃ s', LS w W' g d c mb v x s' (runV (putOps book x.blocks ++ [none]) t) os ks ∧ (runE (putOps book x.blocks ++ [none]) t = 0 → CInv x.b x.l s' (runV (putOps book x.blocks ++ [none]) t) book (fun _ => false) ∧ (fastN s'.row : Int) = 0) := by
 have c13 := h.log.c13
 obtain ⟨p, cp, hv, hints, _, _⟩ := h.log.own.ints
 have HI : Hid (PlI w g d c mb v x t book os ks 0 W) := ⟨s, h, rfl, hc, by simpa using hf⟩
 have HN : Hid (∀ i wx y, PlI w g d c mb v x t book os ks i wx → x.blocks[i]? = some y → Calls Tryz.prog 133 #[ptr c, .int .i64 y] wx fun e W' => (e = .returned (.int .i64 0) ∧ PlI w g d c mb v x t book os ks (i + 1) W') ∨ (∃ E, E ≠ 0 ∧ e = .returned (.int .i64 E) ∧ runE (putOps book x.blocks ++ [none]) t = E ∧ ∃ s', LS w W' g d c mb v x s' (runV (putOps book x.blocks ++ [none]) t) os ks)) := fun i wx y h1 hy => by
  obtain ⟨hi, rfl⟩ := List.getElem?_eq_some_iff.1 hy
  exact h1.next hs hnd hrng hi hrm
 have HC : Hid (∀ i wx, PlI w g d c mb v x t book os ks i wx → wx.cell? ⟨g, 12, none⟩ = some (ptr c) ∧ wx.cell? ⟨g, 1, none⟩ = some (ptr d) ∧ (i < x.blocks.length → ∃ y b o, x.blocks[i]? = some y ∧ p = some ⟨b, o, none⟩ ∧ wx.cell? ⟨b, o + i, none⟩ = some (.int .i64 y))) := fun i wx h1 => by
  obtain ⟨s', h2, _⟩ := h1
  refine ⟨h2.log.c12, h2.log.c1, fun hi => ?_⟩
  obtain ⟨p', cp', hv', hints', _, _⟩ := h2.log.own.ints
  rw [hv] at hv'
  injection hv' with hv' _ _
  subst hv'
  obtain ⟨b, o, rfl, _, hcl⟩ := hints' (by omega)
  exact ⟨_, b, o, List.getElem?_eq_getElem hi, rfl, hcl i _ (List.getElem?_eq_getElem hi)⟩
 have HE : Hid (∀ wx, PlI w g d c mb v x t book os ks x.blocks.length wx → Calls Tryz.prog 92 #[ptr d] wx fun e W' => e = .returned (.int .i64 (runE (putOps book x.blocks ++ [none]) t)) ∧ ∃ s', LS w W' g d c mb v x s' (runV (putOps book x.blocks ++ [none]) t) os ks ∧ (runE (putOps book x.blocks ++ [none]) t = 0 → CInv x.b x.l s' (runV (putOps book x.blocks ++ [none]) t) book (fun _ => false) ∧ (fastN s'.row : Int) = 0)) := fun wx h1 => by
  obtain ⟨s', h2, h3, h4, h5⟩ := h1
  rw [List.take_length] at h2 h3 h4
  rw [List.drop_length] at h4
  have hRm : Rm (runV (putOps book x.blocks) t) 1 := Rm.run (n := 1) (hrm.le (by rw [putOps_len]; omega))
  obtain ⟨r1, r2⟩ := run_snoc (o := none) h3
  refine (h2.dbarrier (Rm.room hRm)).mono ?_
  rintro e W' ⟨rfl, h6⟩
  rw [r1, r2]
  refine ⟨rfl, s', h6, fun he => ⟨?_, by rw [h5]; omega⟩⟩
  have hok := h2.sit.ok.2
  have hb : barV (runV (putOps book x.blocks) t) = barS (runV (putOps book x.blocks) t) := by
   have he : barE (runV (putOps book x.blocks) t) = 0 := he
   unfold barE at he
   unfold barV
   split at he
   ·omega
   ·rename_i q
    rw [if_neg q]
    split at he
    ·rename_i q2; rw [if_pos q2]
    ·omega
  show CInv x.b x.l s' (barV (runV (putOps book x.blocks) t)) book _
  rw [hb]
  have h7 := h4.disk (barS_nums _).2.2.2.2.1 fun j _ => cur_bar hok j
  have hz : (fun k : Int => decide (k ∈ ([] : List Int))) = fun _ => false := by funext k; simp
  rw [hz] at h7
  exact h7
 clear h hc hf hs hnd hrng hrm hints
 subst hv
 unfold ptr at *
 generalize hm : x.blocks.length = n at *
 go_enter Tryz.func106, Tryz.ntmps106
 go_wp2
 go_loopw [12] (fun s12 wx => ∃ k : Nat, k ≤ n ∧ s12 = .int .i64 k ∧ Hid (PlI w g d c mb (.slice p n cp) x t book os ks k wx)) (fun s12 _ => n - (intOf s12).toNat)
 case atStart => exact ⟨0, by omega, rfl, HI.out⟩
 case round =>
  obtain ⟨k, hk, rfl, HP⟩ := hrel
  obtain ⟨c12, c1, hidx⟩ := HC.out k wr HP.out
  by_cases hk2 : (k : Int) < n
  ·have hkl : k < n := by omega
   obtain ⟨y, b0, o0, hy, rfl, hcl⟩ := hidx hkl
   have HN2 := Hid.mk' (HN.out k wr y HP.out hy)
   clear hidx HN HC HE HI c13 HP c1 hy
   go_wp2_with (go_at_call 133; fail)
   refine HN2.out.mono ?_
   rintro e W1 (⟨rfl, h1⟩ | ⟨E, hE, rfl, hE2, h1⟩)
   ·have H1 := Hid.mk' h1
    clear h1 HN2
    go_wp2
    exact ⟨⟨k + 1, by omega, by go_num, H1.out⟩, by simp [intOf]; omega⟩
   ·have H1 := Hid.mk' h1
    have H2 := Hid.mk' hE2
    clear h1 hE2 HN2
    go_wp2
    go_ret
    obtain ⟨s', h3⟩ := H1.out
    exact ⟨congrArg (fun z => Ending.returned (.int .i64 z)) H2.out.symm, s', h3, fun q => absurd (H2.out.symm.trans q) hE⟩
  ·obtain rfl : k = n := by omega
   have HE2 := Hid.mk' (HE.out wr HP.out)
   clear hidx HN HC HE HI c13 HP
   go_wp2_with (go_at_call 92; fail)
   refine HE2.out.mono ?_
   rintro e W1 ⟨rfl, h1⟩
   have H1 := Hid.mk' h1
   clear h1 HE2
   go_wp2
   go_ret
   exact ⟨rfl, H1.out⟩
end Go.Proofs.YtichojdcoegboaaGreatW
namespace Go.Proofs.YtichojdcoegboaaGreatW
open Go.RowKit Go.Maps
variable {w W : World} {g d c mb : Nat} {v : Value} {x : LSt} {s : CSt} {t : St} {os ks : List (Nat × Obj)} {base : Nat} {book : Int → Nat → Int}
theorem inLog_any (b l i j : Int) (hj : 0 ≤ j ∧ j ≤ 1048576) (W : World) : Calls Tryz.prog 91 #[.agg (layA b l i), .int .i64 j] W fun e W' => e = .returned (.int .i64 (2 + j)) ∧ W' = W.alloc (.cells (layA b l i) 59) := by
 have hsz : (layA b l i).size = 9 := rfl
 have c3 : (W.alloc (.cells (layA b l i) 59)).cell? ⟨W.heap.size, 3, none⟩ = some (.int .i64 1) := Joins.cell_of_block (heap_alloc_new _ _) 3
 generalize layA b l i = L at *
 go_enter Tryz.func91, Tryz.ntmps91
 go_wp2
 go_ret
 exact ⟨rfl, rfl⟩
def lgOps (book : Int → Nat → Int) (l : List Int) (i : Nat) : List (Option Cel) := (List.range i).map fun (j : Nat) => some (2 + (j : Int), book (l.getD j 0))
theorem lgOps_len (l : List Int) (i : Nat) : (lgOps book l i).length = i := by simp [lgOps]
theorem lgOps_succ {l : List Int} {i : Nat} {y : Int} (h : l[i]? = some y) : lgOps book l (i + 1) = lgOps book l i ++ [some (2 + (i : Int), book y)] := by
 unfold lgOps
 rw [List.range_succ, List.map_append]
 simp [List.getD, h]
theorem lgOps_more (l : List Int) (i : Nat) : ∀ n, i ≤ n → ∃ r, lgOps book l n = lgOps book l i ++ r
 | 0, h => ⟨[], by obtain rfl : i = 0 := (by omega); simp⟩
 | n + 1, h => by
  by_cases e : i = n + 1
  ·exact ⟨[], by rw [e]; simp⟩
  ·obtain ⟨r, hr⟩ := lgOps_more l i n (by omega)
   refine ⟨r ++ [some (2 + (n : Int), book (l.getD n 0))], ?_⟩
   rw [← List.append_assoc, ← hr]
   unfold lgOps
   rw [List.range_succ, List.map_append]
   rfl
theorem run_ended {a b : List (Option Cel)} (h : runE a t ≠ 0) : runE (a ++ b) t = runE a t ∧ runV (a ++ b) t = runV a t := by
 rw [runE_append, runV_append, if_neg h, if_neg h]
 exact ⟨rfl, rfl⟩
theorem LS.cread (h : LS w W g d c mb v x s t os ks) (hr : Room t) (k : Int) : Calls Tryz.prog 84 #[ptr c, .int .i64 k] W fun e W' => e = .returned (.tuple #[.agg (blk (rdB s t k)), .int .i64 (usedE s t k)]) ∧ LS w W' g d c mb v x (rdC s t k) (rdD s t k) os ks :=
 (sit_read h.sit hr k).mono fun _ _ ⟨h1, h2⟩ => ⟨h1, h.step h2⟩
theorem LS.dwrite (h : LS w W g d c mb v x s t os ks) (hr : Room t) (k : Int) {f : Nat → Int} (hf : Can f) : Calls Tryz.prog 110 #[ptr d, .int .i64 k, .agg (blk f)] W fun e W' => e = .returned (.int .i64 (writeE t k)) ∧ LS w W' g d c mb v x s (writeV t k f) os ks :=
 (dsit_write h.sit hr k hf).mono fun _ _ ⟨h1, h2⟩ => ⟨h1, h.step h2⟩
def LgI (w : World) (g d c mb : Nat) (v : Value) (x : LSt) (n0 : Int) (t : St) (book : Int → Nat → Int) (os ks : List (Nat × Obj)) (i : Nat) (wx : World) : Prop :=
 ∃ s', LS w wx g d c mb v x s' (runV (lgOps book x.blocks i) t) os ks ∧ runE (lgOps book x.blocks i) t = 0 ∧ CInv x.b x.l s' (runV (lgOps book x.blocks i) t) book (inB x) ∧ (fastN s'.row : Int) = n0
variable {n0 : Int} {i : Nat} {wx : World}
theorem LgI.later {W' : World} (h : LgI w g d c mb v x n0 t book os ks i wx) (hb : Below wx.heap.size wx W') : LgI w g d c mb v x n0 t book os ks i W' := by
 obtain ⟨s', h1, h2⟩ := h
 exact ⟨s', h1.later hb, h2⟩
theorem LgI.add (h : LgI w g d c mb v x n0 t book os ks i wx) (o : Obj) : LgI w g d c mb v x n0 t book os ((wx.heap.size, o) :: ks) i (wx.alloc o) := by
 obtain ⟨s', h1, h2⟩ := h
 exact ⟨s', h1.add o, h2⟩
theorem LgI.drop (h : LgI w g d c mb v x n0 t book os ks i wx) {ks' : List (Nat × Obj)} (hs : ∀ p ∈ ks', p ∈ ks) : LgI w g d c mb v x n0 t book os ks' i wx := by
 obtain ⟨s', h1, h2⟩ := h
 exact ⟨s', h1.drop hs, h2⟩
theorem LgI.row (h : LgI w g d c mb v x n0 t book os ks i wx) : wx.heap[g]? = some (.cells (lgRow g d c mb v x) 110) := by
 obtain ⟨s', h1, h2⟩ := h
 exact h1.log.row
theorem LgI.obj (h : LgI w g d c mb v x n0 t book os ks i wx) {q : Nat} {o : Obj} (hm : (q, o) ∈ ks) : wx.heap[q]? = some o := by
 obtain ⟨s', h1, h2⟩ := h
 exact h1.sit.blk (List.mem_append.2 (.inr hm))
theorem LgI.read (h : LgI w g d c mb v x n0 t book os ks i wx) (hs : t.stopped = false) (hn0 : n0 < x.l) (hrng : ∀ k ∈ x.blocks, Dat x.b x.l k) {y : Int} (hy : y ∈ x.blocks) (hrm : Rm t (i + 2)) :
  Calls Tryz.prog 84 #[ptr c, .int .i64 y] wx fun e W' => e = .returned (.tuple #[.agg (blk (book y)), .int .i64 0]) ∧ LgI w g d c mb v x n0 t book os ks i W' := by
 obtain ⟨s', h1, h2, h3, h4⟩ := h
 have hRm : Rm (runV (lgOps book x.blocks i) t) 2 := Rm.run (n := 2) (hrm.le (by rw [lgOps_len]; omega))
 have hlv := run_live _ _ hs h2
 have hD := hrng y hy
 have hu := h3.used hlv hD (by rw [h4]; exact hn0)
 have hF : inB x y = true := decide_eq_true hy
 refine (h1.cread (Rm.room hRm) y).mono ?_
 rintro e W' ⟨rfl, h5⟩
 obtain ⟨a1, a2, a3, _⟩ := h3.read hD hu h5.sit.ok.1
 rw [a3 hF] at h5 a1
 exact ⟨by rw [h3.reads hD hu, hu], _, h5, h2, a1, by rw [a2]; exact h4⟩
theorem CInv.can {b l : Int} {F : Int → Bool} {k : Int} (h : CInv b l s t book F) (hF : F k = true) : Can (book k) := by
 obtain ⟨z, _, hz, _, _, hd⟩ := h.fastAt hF
 rw [← hd]
 exact (h.ok.pos z hz).2
theorem LgI.write (h : LgI w g d c mb v x n0 t book os ks i wx) (hs : t.stopped = false) (hlen : (x.blocks.length : Int) ≤ x.l - 1) {y : Int} (hy : x.blocks[i]? = some y) (hrm : Rm t (i + 2)) :
  Calls Tryz.prog 110 #[ptr d, .int .i64 (2 + (i : Int)), .agg (blk (book y))] wx fun e W' => (e = .returned (.int .i64 0) ∧ LgI w g d c mb v x n0 t book os ks (i + 1) W') ∨ (∃ E, E ≠ 0 ∧ e = .returned (.int .i64 E) ∧ runE (lgOps book x.blocks x.blocks.length ++ [none]) t = E ∧ ∃ s', LS w W' g d c mb v x s' (runV (lgOps book x.blocks x.blocks.length ++ [none]) t) os ks) := by
 obtain ⟨s', h1, h2, h3, h4⟩ := h
 obtain ⟨hi, hyy⟩ := List.getElem?_eq_some_iff.1 hy
 have hmem : y ∈ x.blocks := by rw [← hyy]; exact List.getElem_mem _
 have hRm : Rm (runV (lgOps book x.blocks i) t) 2 := Rm.run (n := 2) (hrm.le (by rw [lgOps_len]; omega))
 have hlv := run_live _ _ hs h2
 have hF : inB x y = true := decide_eq_true hmem
 refine (h1.dwrite (Rm.room hRm) (2 + (i : Int)) (h3.can hF)).mono ?_
 rintro e W' ⟨rfl, h5⟩
 obtain ⟨r1, r2⟩ := run_snoc (o := some (2 + (i : Int), book y)) h2
 rw [← lgOps_succ hy] at r1 r2
 by_cases he : writeE (runV (lgOps book x.blocks i) t) (2 + (i : Int)) = 0
 ·have hl : refV (runV (lgOps book x.blocks i) t) (2 + (i : Int)) = 0 ∧ lets (runV (lgOps book x.blocks i) t) = true := by
   unfold writeE at he
   split at he
   ·rename_i q
    refine ⟨q, ?_⟩
    cases hq : lets (runV (lgOps book x.blocks i) t)
    ·rw [hq] at he; simp at he
    ·rfl
   ·rename_i q
    exact absurd he q
  refine .inl ⟨by rw [he], s', by rw [r2]; exact h5, by rw [r1]; exact he, ?_, h4⟩
  rw [r2]
  refine h3.disk (dop_nums _ (some (2 + (i : Int), book y))).2.2.2.2.1 fun j hj => ?_
  show curV (writeV _ _ _) j = _
  rw [cur_write hl.2 hl.1, if_neg fun q => hj.2 ⟨by omega, by omega⟩]
 ·obtain ⟨r, hr⟩ := lgOps_more (book := book) x.blocks (i + 1) x.blocks.length (by omega)
  have h6 : runE (lgOps book x.blocks (i + 1)) t ≠ 0 := by rw [r1]; exact he
  obtain ⟨q1, q2⟩ := run_ended (b := r ++ [none]) h6
  rw [← List.append_assoc, ← hr] at q1 q2
  exact .inr ⟨_, he, rfl, by rw [q1, r1]; rfl, s', by rw [q2, r2]; exact h5⟩
end Go.Proofs.YtichojdcoegboaaGreatW
namespace Go.Proofs.YtichojdcoegboaaGreatW
open Go.RowKit Go.Maps
variable {w W : World} {g d c mb : Nat} {v : Value} {x : LSt} {s : CSt} {t : St} {os ks : List (Nat × Obj)} {base : Nat} {book : Int → Nat → Int}
theorem size31 : (Tryz.prog.info? 59).map (·.size) = some 9 := by kernel_rfl
theorem loadLay {u : World} (h : u.heap[g]? = some (.cells (lgRow g d c mb v x) 110)) : (loadVar 59 ⟨g, 3, none⟩).run Tryz.prog u = .ok (.agg (layA x.b x.l x.i)) u :=
 run_loadVar_mid (P := Tryz.prog) u g 3 59 (layA x.b x.l x.i).toList _ (World.rangeAt_of_block h 3 9) Tryz.underlying59 rfl size31
theorem exec_loadLay {a : Act} {o : Oper} {u : World} {y : Operand} (ho : o.op = .load 59 y) (hx : a.eval y = .pointer (some ⟨g, 3, none⟩)) (h : u.heap[g]? = some (.cells (lgRow g d c mb v x) 110)) : (execOp a.eval o).run Tryz.prog u = .ok (.value (.agg (layA x.b x.l x.i))) u := by
 unfold execOp
 simp only [ho, hx, Instr.loadAt, Instr.sureAddr, Sem.run_bind, Sem.run_pure, Result.andThen_ok, loadLay h]
set_option maxRecDepth 20000 in
set_option maxHeartbeats 1600000 in
theorem LS.toLog (h : LS w W g d c mb v x s t os ks) (hc : CInv x.b x.l s t book (inB x)) (hf : (fastN s.row : Int) = x.blocks.length) (hs : t.stopped = false) (hlen : (x.blocks.length : Int) ≤ x.l - 1) (hrng : ∀ k ∈ x.blocks, Dat x.b x.l k) (hrm : Rm t (x.blocks.length + 2)) (hl : x.l ≤ 256) :
  Calls Tryz.prog 105 #[ptr g] W fun e W' => e = .returned (.int .i64 (runE (lgOps book x.blocks x.blocks.length ++ [none]) t)) ∧ ∃ s', LS w W' g d c mb v x s' (runV (lgOps book x.blocks x.blocks.length ++ [none]) t) os ks ∧ (runE (lgOps book x.blocks x.blocks.length ++ [none]) t = 0 → CInv x.b x.l s' (runV (lgOps book x.blocks x.blocks.length ++ [none]) t) book (inB x) ∧ (fastN s'.row : Int) = x.blocks.length) := by
 have c13 := h.log.c13
 obtain ⟨p, cp, hv, hints, _, _⟩ := h.log.own.ints
 have HI : Hid (LgI w g d c mb v x x.blocks.length t book os ks 0 W) := ⟨s, h, rfl, hc, hf⟩
 have HC : Hid (∀ i wx, LgI w g d c mb v x x.blocks.length t book os ks i wx → wx.cell? ⟨g, 12, none⟩ = some (ptr c) ∧ wx.cell? ⟨g, 1, none⟩ = some (ptr d) ∧ (i < x.blocks.length → ∃ y b o, x.blocks[i]? = some y ∧ p = some ⟨b, o, none⟩ ∧ wx.cell? ⟨b, o + i, none⟩ = some (.int .i64 y))) := fun i wx h1 => by
  obtain ⟨s', h2, _⟩ := h1
  refine ⟨h2.log.c12, h2.log.c1, fun hi => ?_⟩
  obtain ⟨p', cp', hv', hints', _, _⟩ := h2.log.own.ints
  rw [hv] at hv'
  injection hv' with hv' _ _
  subst hv'
  obtain ⟨b, o, rfl, _, hcl⟩ := hints' (by omega)
  exact ⟨_, b, o, List.getElem?_eq_getElem hi, rfl, hcl i _ (List.getElem?_eq_getElem hi)⟩
 have HR : Hid (∀ i wx y, LgI w g d c mb v x x.blocks.length t book os ks i wx → x.blocks[i]? = some y → Calls Tryz.prog 84 #[ptr c, .int .i64 y] wx fun e W' => e = .returned (.tuple #[.agg (blk (book y)), .int .i64 0]) ∧ LgI w g d c mb v x x.blocks.length t book os ks i W') := fun i wx y h1 hy => by
  obtain ⟨hi, hyy⟩ := List.getElem?_eq_some_iff.1 hy
  exact h1.read hs (by omega) hrng (by rw [← hyy]; exact List.getElem_mem _) (hrm.le (by omega))
 have HW : Hid (∀ i wx y ks', (∀ q ∈ ks, q ∈ ks') → LgI w g d c mb v x x.blocks.length t book os ks' i wx → x.blocks[i]? = some y → Calls Tryz.prog 110 #[ptr d, .int .i64 (2 + (i : Int)), .agg (blk (book y))] wx fun e W' => (e = .returned (.int .i64 0) ∧ LgI w g d c mb v x x.blocks.length t book os ks' (i + 1) W') ∨ (∃ E, E ≠ 0 ∧ e = .returned (.int .i64 E) ∧ runE (lgOps book x.blocks x.blocks.length ++ [none]) t = E ∧ ∃ s', LS w W' g d c mb v x s' (runV (lgOps book x.blocks x.blocks.length ++ [none]) t) os ks')) := fun i wx y ks' _ h1 hy => by
  obtain ⟨hi, _⟩ := List.getElem?_eq_some_iff.1 hy
  exact h1.write hs hlen hy (hrm.le (by omega))
 have HE : Hid (∀ wx, LgI w g d c mb v x x.blocks.length t book os ks x.blocks.length wx → Calls Tryz.prog 92 #[ptr d] wx fun e W' => e = .returned (.int .i64 (runE (lgOps book x.blocks x.blocks.length ++ [none]) t)) ∧ ∃ s', LS w W' g d c mb v x s' (runV (lgOps book x.blocks x.blocks.length ++ [none]) t) os ks ∧ (runE (lgOps book x.blocks x.blocks.length ++ [none]) t = 0 → CInv x.b x.l s' (runV (lgOps book x.blocks x.blocks.length ++ [none]) t) book (inB x) ∧ (fastN s'.row : Int) = x.blocks.length)) := fun wx h1 => by
  obtain ⟨s', h2, h3, h4, h5⟩ := h1
  have hRm : Rm (runV (lgOps book x.blocks x.blocks.length) t) 1 := Rm.run (n := 1) (hrm.le (by rw [lgOps_len]; omega))
  obtain ⟨r1, r2⟩ := run_snoc (o := none) h3
  refine (h2.dbarrier (Rm.room hRm)).mono ?_
  rintro e W' ⟨rfl, h6⟩
  rw [r1, r2]
  refine ⟨rfl, s', h6, fun he => ⟨?_, h5⟩⟩
  have hok := h2.sit.ok.2
  have hb : barV (runV (lgOps book x.blocks x.blocks.length) t) = barS (runV (lgOps book x.blocks x.blocks.length) t) := by
   have he : barE (runV (lgOps book x.blocks x.blocks.length) t) = 0 := he
   unfold barE at he
   unfold barV
   split at he
   ·omega
   ·rename_i q
    rw [if_neg q]
    split at he
    ·rename_i q2; rw [if_pos q2]
    ·omega
  show CInv x.b x.l s' (barV _) book _
  rw [hb]
  exact h4.disk (barS_nums _).2.2.2.2.1 fun j _ => cur_bar hok j
 have hn : x.blocks.length ≤ 255 := by omega
 clear h hc hf hs hrng hrm hints hlen
 subst hv
 unfold ptr at *
 generalize hm : x.blocks.length = n at *
 go_enter Tryz.func105, Tryz.ntmps105
 go_wp2
 go_loopw [13] (fun s13 wx => ∃ k : Nat, k ≤ n ∧ s13 = .int .i64 k ∧ Hid (LgI w g d c mb (.slice p n cp) x n t book os ks k wx)) (fun s13 _ => n - (intOf s13).toNat)
 case atStart => exact ⟨0, by omega, rfl, HI.out⟩
 case round =>
  obtain ⟨k, hk, rfl, HP⟩ := hrel
  obtain ⟨c12, c1, hidx⟩ := HC.out k wr HP.out
  by_cases hk2 : (k : Int) < n
  ·have hkl : k < n := by omega
   obtain ⟨y, b0, o0, hy, rfl, hcl⟩ := hidx hkl
   have HR2 := Hid.mk' (HR.out k wr y HP.out hy)
   have HY := Hid.mk' hy
   clear hidx HR HC HE HI c13 HP c1 hy
   go_wp2_with (go_at_call 84; fail)
   refine HR2.out.mono ?_
   rintro e W1 ⟨rfl, h1⟩
   have H1 := Hid.mk' (h1.add (.cells (blk (book y)) 64))
   clear h1 HR2 c12 hcl
   have z25 := zero25
   go_wp2_with (first | refine wpList_store25 rfl (.tmp 5) (.tmp 25) rfl W1.heap.size (book y) rfl rfl _ (heap_alloc_new _ _) ?_)
   rw [World.setRow_alloc_new]
   have hB1 : W1.heap.size < (W1.alloc (.cells (blk (book y)) 64)).heap.size := by simp
   generalize hV : W1.alloc (.cells (blk (book y)) 64) = V at H1 hB1 ⊢
   clear hV
   generalize W1.heap.size = gB at H1 hB1 ⊢
   have hrow := H1.out.row
   have hbl := H1.out.obj (List.mem_cons_self ..)
   refine wp_region_ord (S := fun u => u.heap[g]? = some (.cells (lgRow g d c mb (.slice (some ⟨b0, o0, none⟩) n cp) x) 110) ∧ u.heap[gB]? = some (.cells (blk (book y)) 64)) [(0, true), (1, true), (2, true), (3, true), (4, true), (5, true), (6, true), (7, true), (8, true), (10, true), (9, false), (11, false), (12, true)]
    (by kernel_rfl) rfl (by kernel_rfl) (fun d _ _ _ _ h => by cases d <;> exact h) ⟨hrow, hbl⟩ ?_
   simp only [inOrd, List.getElem?_cons_zero, List.getElem?_cons_succ]
   refine wpOrd_move rfl _ rfl ?_
   simp only [Act.put, pA, pB, pC]
   refine wpOrd_yield (v := .pointer (some ⟨g, 0, none⟩)) rfl (fun u _ => by go_simp) ?_
   simp only [Act.put, pA, pB, pC]
   refine wpOrd_yield (v := .pointer (some ⟨g, 1, none⟩)) rfl (fun u _ => by go_simp) ?_
   simp only [Act.put, pA, pB, pC]
   refine wpOrd_yield (v := .pointer (some ⟨d, 0, none⟩)) rfl (fun u hu => by have c1 : u.cell? ⟨g, 1, none⟩ = some (.pointer (some ⟨d, 0, none⟩)) := Joins.cell_of_block hu.1 1; go_simp) ?_
   simp only [Act.put, pA, pB, pC]
   refine wpOrd_move rfl _ rfl ?_
   simp only [Act.put, pA, pB, pC]
   refine wpOrd_yield (v := .pointer (some ⟨g, 0, none⟩)) rfl (fun u _ => by go_simp) ?_
   simp only [Act.put, pA, pB, pC]
   refine wpOrd_yield (v := .pointer (some ⟨g, 3, none⟩)) rfl (fun u _ => by go_simp) ?_
   simp only [Act.put, pA, pB, pC]
   refine wpOrd_yield (v := .agg (layA x.b x.l x.i)) rfl (fun u hu => exec_loadLay rfl rfl hu.1) ?_
   simp only [Act.put, pA, pB, pC]
   refine wpOrd_move rfl _ rfl ?_
   simp only [Act.put, pA, pB, pC]
   refine wpOrd_yield (v := .agg (blk (book y))) rfl (fun u hu => H.exec_loadB rfl gB (book y) rfl hu.2) ?_
   simp only [Act.put, pA, pB, pC]
   refine wpOrd_call rfl 91 _ _ rfl Tryz.call91 [.agg (layA x.b x.l x.i), .int .i64 (k : Int)] rfl ?_
   refine (inLog_any x.b x.l x.i k ⟨by omega, by omega⟩ _).mono ?_
   rintro e X ⟨rfl, rfl⟩
   have H2 := Hid.mk' (H1.out.later (below_next (H.drew_below V) (below_new V.drew (.cells (layA x.b x.l x.i) 59))))
   refine ⟨_, rfl, ⟨H2.out.row, H2.out.obj (List.mem_cons_self ..)⟩, ?_⟩
   clear hrow hbl H1
   generalize V.drew.alloc (.cells (layA x.b x.l x.i) 59) = V2 at H2 ⊢
   simp only [Act.put, pA, pB, pC]
   refine wpOrd_call rfl 110 _ _ rfl Tryz.call110 [.pointer (some ⟨d, 0, none⟩), .int .i64 (2 + (k : Int)), .agg (blk (book y))] rfl ?_
   refine (HW.out k V2 y _ (fun q hq => List.mem_cons_of_mem _ hq) H2.out HY.out).mono ?_
   rintro e X (⟨rfl, h3⟩ | ⟨E, hE, rfl, hE2, s', h3⟩)
   ·refine ⟨_, rfl, ⟨h3.row, h3.obj (List.mem_cons_self ..)⟩, ?_⟩
    have H3 := Hid.mk' (h3.drop (ks' := ks) fun q hq => List.mem_cons_of_mem _ hq)
    clear h3 H2 HW HY
    simp only [Act.put, pA, pB, pC]
    refine wpOrd_yield (v := .int .i64 0) rfl (fun u _ => by go_simp) ?_
    refine wpOrd_nil ?_
    simp only [Act.put, pA, pB, pC]
    go_wp2
    exact ⟨⟨k + 1, by omega, by go_num, H3.out⟩, by simp [intOf]; omega⟩
   ·refine ⟨_, rfl, ⟨h3.log.row, h3.sit.blk (List.mem_append.2 (.inr (List.mem_cons_self ..)))⟩, ?_⟩
    have H3 := Hid.mk' (h3.drop (ks' := ks) fun q hq => List.mem_cons_of_mem _ hq)
    have H4 := Hid.mk' hE2
    clear h3 H2 HW HY hE2
    simp only [Act.put, pA, pB, pC]
    refine wpOrd_yield (v := .int .i64 E) rfl (fun u _ => by go_simp) ?_
    refine wpOrd_nil ?_
    simp only [Act.put, pA, pB, pC]
    go_wp2
    go_ret
    exact ⟨congrArg (fun z => Ending.returned (.int .i64 z)) H4.out.symm, s', H3.out, fun q => absurd (H4.out.symm.trans q) hE⟩
  ·obtain rfl : k = n := by omega
   have HE2 := Hid.mk' (HE.out wr HP.out)
   clear hidx HR HW HC HE HI c13 HP
   go_wp2_with (go_at_call 92; fail)
   refine HE2.out.mono ?_
   rintro e W1 ⟨rfl, h1⟩
   have H1 := Hid.mk' h1
   clear h1 HE2
   go_wp2
   go_ret
   exact ⟨rfl, H1.out⟩
end Go.Proofs.YtichojdcoegboaaGreatW
namespace Go.Proofs.YtichojdcoegboaaGreatW
open Go.RowKit Go.Maps
variable {w W : World} {g d c mb : Nat} {v : Value} {x : LSt} {s : CSt} {t : St} {os ks : List (Nat × Obj)} {base : Nat} {book : Int → Nat → Int}
theorem headF_can {ts : List Int} (h : ts.length ≤ 255) : Can (H.headF ts) := by
 refine ⟨fun i => H.wordF_byte _ i, fun i hi => ?_⟩
 unfold H.headF H.wordF
 have : ((ts.length : Int) :: ts).getD (i / 4) 0 = 0 := by
  rw [List.getD_eq_getElem?_getD, List.getElem?_eq_none (by simp; omega)]
  rfl
 rw [this]
 simp
theorem wpStill_loadLay {ops : Array Oper} {Q : Act → Prop} {a : Act} {o : Oper} {rest : List Oper} {u : World} (hgd : o.guard = none) (y : Operand) (ho : o.op = .load 59 y) (hx : a.eval y = .pointer (some ⟨g, 3, none⟩)) (hg : u.heap[g]? = some (.cells (lgRow g d c mb v x) 110))
  (h : wpStill Tryz.prog ops u Q rest (a.put o.dst (.agg (layA x.b x.l x.i)))) : wpStill Tryz.prog ops u Q (o :: rest) a := by
 unfold wpStill
 rw [if_pos (by simp [Region.wanted, hgd])]
 unfold Oper.still execOp
 simp only [ho, hx, Instr.loadAt, Instr.sureAddr, loadLay hg, Sem.run_bind, Result.andThen_ok, Sem.run_pure, Oper.stillUpon]
 exact ⟨trivial, h⟩
theorem wpStill_buildB {ops : Array Oper} {Q : Act → Prop} {a : Act} {o : Oper} {rest : List Oper} {u : World} (hgd : o.guard = none) (ho : o.op = .build 64 #[])
  (h : wpStill Tryz.prog ops u Q rest (a.put o.dst (.agg (blk nought)))) : wpStill Tryz.prog ops u Q (o :: rest) a := by
 have hb := built58 u
 unfold wpStill
 rw [if_pos (by simp [Region.wanted, hgd])]
 unfold Oper.still execOp
 generalize blk nought = Z at *
 simp only [ho, Array.map_empty, Sem.run_bind]
 simp only [hb, Result.andThen_ok, Sem.run_pure, Oper.stillUpon]
 exact ⟨trivial, h⟩
def opsA (x : LSt) (book : Int → Nat → Int) : List (Option Cel) := lgOps book x.blocks x.blocks.length ++ [none]
def opsB (x : LSt) : List (Option Cel) := [some (1, H.headF x.blocks), none]
def opsC (x : LSt) (book : Int → Nat → Int) : List (Option Cel) := putOps book x.blocks ++ [none]
def opsD : List (Option Cel) := [some (1, nought), none]
def cmtOps (x : LSt) (book : Int → Nat → Int) : List (Option Cel) := opsA x book ++ (opsB x ++ (opsC x book ++ opsD))
theorem cmt_A (h : runE (opsA x book) t ≠ 0) : runE (cmtOps x book) t = runE (opsA x book) t ∧ runV (cmtOps x book) t = runV (opsA x book) t := run_ended h
theorem cmt_B (h : runE (opsA x book) t = 0) : runE (cmtOps x book) t = runE (opsB x ++ (opsC x book ++ opsD)) (runV (opsA x book) t) ∧ runV (cmtOps x book) t = runV (opsB x ++ (opsC x book ++ opsD)) (runV (opsA x book) t) := by
 unfold cmtOps
 rw [runE_append, runV_append, if_pos h, if_pos h]
 exact ⟨rfl, rfl⟩
theorem run_on {a b : List (Option Cel)} (h : runE a t = 0) : runE (a ++ b) t = runE b (runV a t) ∧ runV (a ++ b) t = runV b (runV a t) := by
 rw [runE_append, runV_append, if_pos h, if_pos h]
 exact ⟨rfl, rfl⟩
theorem opsA_len : (opsA x book).length = x.blocks.length + 1 := by simp [opsA, lgOps_len]
theorem opsC_len : (opsC x book).length = x.blocks.length + 1 := by simp [opsC, putOps_len]
theorem head_same {b l : Int} {F : Int → Bool} {f : Nat → Int} (h : CInv b l s t book F) (ok : Ok t) (hf : Can f) (he : runE [some (1, f), none] t = 0) (hl : 32 ≤ l) : CInv b l s (runV [some (1, f), none] t) book F := by
 have h1 : writeE t 1 = 0 := by
  by_cases q : writeE t 1 = 0
  ·exact q
  ·have : runE [some (1, f), none] t = writeE t 1 := by
    show (if writeE t 1 = 0 then _ else writeE t 1) = _
    rw [if_neg q]
   rw [this] at he
   exact he
 have e0 : runE [some (1, f), none] t = barE (writeV t 1 f) := by
  show (if writeE t 1 = 0 then (if barE (writeV t 1 f) = 0 then 0 else barE (writeV t 1 f)) else writeE t 1) = _
  rw [if_pos h1]
  split
  ·rename_i q; exact q.symm
  ·rfl
 have e1 : runV [some (1, f), none] t = barV (writeV t 1 f) := by
  show (if writeE t 1 = 0 then (if barE (writeV t 1 f) = 0 then barV (writeV t 1 f) else barV (writeV t 1 f)) else writeV t 1 f) = _
  rw [if_pos h1]
  split <;> rfl
 rw [e0] at he
 rw [e1]
 have hr : refV t 1 = 0 ∧ lets t = true := by
  unfold writeE at h1
  split at h1
  ·rename_i q
   refine ⟨q, ?_⟩
   cases hq : lets t
   ·rw [hq] at h1; simp at h1
   ·rfl
  ·rename_i q
   exact absurd h1 q
 have hb : barV (writeV t 1 f) = barS (writeV t 1 f) := by
  unfold barE at he
  unfold barV
  split at he
  ·omega
  ·rename_i q
   rw [if_neg q]
   split at he
   ·rename_i q2; rw [if_pos q2]
   ·omega
 have hwv : writeV t 1 f = writeS t 1 f := by unfold writeV; rw [if_pos hr.1, hr.2, if_pos rfl]
 have hokw : Ok (writeV t 1 f) := by rw [hwv]; exact writeS_ok ok ⟨(refV_ok hr.1).2.1, (refV_ok hr.1).2.2⟩ hf
 rw [hb]
 refine h.disk ((barS_nums _).2.2.2.2.1.trans (dop_nums t (some (1, f))).2.2.2.2.1) fun j hj => ?_
 rw [cur_bar hokw, cur_write hr.2 hr.1, if_neg fun q => hj.2 ⟨by omega, by omega⟩]
end Go.Proofs.YtichojdcoegboaaGreatW
