/- Several texts joined, each with its own remark; no condition. -/
import Derived.Test.YtiadlcjdpbkbkaaGreatJ6
import Derived.Deep.Cut
import Derived.Deep.CutRange
/- Writes and barriers one behind the other, until one stops the disk; a log's header is set; no condition but that numbers do not pass their greatest. -/
namespace Go.Proofs.YtiadlcjdpbkbkaaGreatD
open Go.RowKit Go.Maps
variable {w W : World} {g d c mb : Nat} {v : Value} {x : LSt} {s : CSt} {t : St} {os ks : List (Nat × Obj)} {base : Nat} {book : Int → Nat → Int}
/-- A write, or a barrier. -/
def dopE (t : St) : Option Cel → Int
  | some c => writeE t c.1
  | none => barE t
def dopV (t : St) : Option Cel → St
  | some c => writeV t c.1 c.2
  | none => barV t
def runE : List (Option Cel) → St → Int
  | [], _ => 0
  | o :: r, t => if dopE t o = 0 then runE r (dopV t o) else dopE t o
def runV : List (Option Cel) → St → St
  | [], t => t
  | o :: r, t => if dopE t o = 0 then runV r (dopV t o) else dopV t o
theorem runE_append : ∀ (a b : List (Option Cel)) (t : St), runE (a ++ b) t = if runE a t = 0 then runE b (runV a t) else runE a t
  | [], b, t => by simp [runE, runV]
  | o :: r, b, t => by
    show (if dopE t o = 0 then runE (r ++ b) (dopV t o) else dopE t o) = if (if dopE t o = 0 then runE r (dopV t o) else dopE t o) = 0 then runE b (if dopE t o = 0 then runV r (dopV t o) else dopV t o) else (if dopE t o = 0 then runE r (dopV t o) else dopE t o)
    by_cases h : dopE t o = 0
    · simp only [if_pos h]
      exact runE_append r b _
    · simp only [if_neg h]
theorem runV_append : ∀ (a b : List (Option Cel)) (t : St), runV (a ++ b) t = if runE a t = 0 then runV b (runV a t) else runV a t
  | [], b, t => by simp [runE, runV]
  | o :: r, b, t => by
    show (if dopE t o = 0 then runV (r ++ b) (dopV t o) else dopV t o) = if (if dopE t o = 0 then runE r (dopV t o) else dopE t o) = 0 then runV b (if dopE t o = 0 then runV r (dopV t o) else dopV t o) else (if dopE t o = 0 then runV r (dopV t o) else dopV t o)
    by_cases h : dopE t o = 0
    · simp only [if_pos h]
      exact runV_append r b _
    · simp only [if_neg h]
/-- There is room for n more. -/
def Rm (t : St) (n : Nat) : Prop := t.ops.length + n < 68719476736 ∧ t.made + n < 1099511627776 ∧ t.reads + n < 1099511627776 ∧ t.claims + n < 1099511627776
theorem Rm.room {n : Nat} (h : Rm t (n + 1)) : Room t := by
  obtain ⟨h1, h2, h3, h4⟩ := h
  exact ⟨by omega, by omega, by omega, by omega⟩
theorem Rm.le {n m : Nat} (h : Rm t n) (hm : m ≤ n) : Rm t m := by
  obtain ⟨h1, h2, h3, h4⟩ := h
  exact ⟨by omega, by omega, by omega, by omega⟩
theorem letV_nums (t : St) : (letV t).made ≤ t.made + 1 ∧ (letV t).reads = t.reads ∧ (letV t).claims = t.claims ∧ (letV t).claimed = t.claimed := by
  unfold letV
  split
  · exact ⟨by show t.made ≤ _; omega, rfl, rfl, rfl⟩
  · exact ⟨Int.le_refl _, rfl, rfl, rfl⟩
theorem barS_nums (t : St) : (barS t).made = (letV t).made ∧ (barS t).reads = t.reads ∧ (barS t).claims = t.claims ∧ (barS t).claimed = t.claimed ∧ (barS t).n = t.n ∧ (barS t).stopped = (letV t).stopped ∧ (barS t).fuse = (letV t).fuse := by
  obtain ⟨hh, he⟩ := holdAll_same t.wait (letV t)
  have hl := letV_nums t
  unfold barS
  rw [he]
  exact ⟨rfl, hl.2.1, hl.2.2.1, hl.2.2.2, letV_n t, rfl, rfl⟩
theorem dop_nums (t : St) (o : Option Cel) : (dopV t o).made ≤ t.made + 1 ∧ (dopV t o).reads = t.reads ∧ (dopV t o).claims = t.claims ∧ (dopV t o).claimed = t.claimed ∧ (dopV t o).n = t.n ∧ (dopV t o).ops.length ≤ t.ops.length + 1 := by
  have hl := letV_nums t
  have hn := letV_n t
  have ho := letV_ops t
  cases o with
  | none =>
    show (barV t).made ≤ _ ∧ (barV t).reads = _ ∧ (barV t).claims = _ ∧ (barV t).claimed = _ ∧ (barV t).n = _ ∧ (barV t).ops.length ≤ _
    unfold barV
    split
    · exact ⟨by omega, rfl, rfl, rfl, rfl, by omega⟩
    · split
      · have hb := barS_nums t
        exact ⟨by omega, hb.2.1, hb.2.2.1, hb.2.2.2.1, hb.2.2.2.2.1, by rw [barS_ops]; simp⟩
      · exact ⟨hl.1, hl.2.1, hl.2.2.1, hl.2.2.2, hn, by rw [ho]; omega⟩
  | some c =>
    show (writeV t c.1 c.2).made ≤ _ ∧ (writeV t c.1 c.2).reads = _ ∧ (writeV t c.1 c.2).claims = _ ∧ (writeV t c.1 c.2).claimed = _ ∧ (writeV t c.1 c.2).n = _ ∧ (writeV t c.1 c.2).ops.length ≤ _
    unfold writeV
    split
    · split
      · exact ⟨hl.1, hl.2.1, hl.2.2.1, hl.2.2.2, hn, by rw [writeS_ops]; simp⟩
      · exact ⟨hl.1, hl.2.1, hl.2.2.1, hl.2.2.2, hn, by rw [ho]; omega⟩
    · exact ⟨by omega, rfl, rfl, rfl, rfl, by omega⟩
theorem Rm.dop {n : Nat} (h : Rm t (n + 1)) (o : Option Cel) : Rm (dopV t o) n := by
  obtain ⟨h1, h2, h3, h4⟩ := h
  obtain ⟨a1, a2, a3, _, _, a6⟩ := dop_nums t o
  exact ⟨by omega, by omega, by omega, by omega⟩
theorem run_nums : ∀ (l : List (Option Cel)) (t : St), (runV l t).made ≤ t.made + l.length ∧ (runV l t).reads = t.reads ∧ (runV l t).claims = t.claims ∧ (runV l t).claimed = t.claimed ∧ (runV l t).n = t.n ∧ (runV l t).ops.length ≤ t.ops.length + l.length
  | [], t => by simp [runV]
  | o :: r, t => by
    obtain ⟨a1, a2, a3, a4, a5, a6⟩ := dop_nums t o
    obtain ⟨b1, b2, b3, b4, b5, b6⟩ := run_nums r (dopV t o)
    unfold runV
    split
    · exact ⟨by simp only [List.length_cons]; omega, b2.trans a2, b3.trans a3, b4.trans a4, b5.trans a5, by simp only [List.length_cons]; omega⟩
    · exact ⟨by simp only [List.length_cons]; omega, a2, a3, a4, a5, by simp only [List.length_cons]; omega⟩
theorem Rm.run {n : Nat} {l : List (Option Cel)} (h : Rm t (n + l.length)) : Rm (runV l t) n := by
  obtain ⟨h1, h2, h3, h4⟩ := h
  obtain ⟨b1, b2, b3, b4, b5, b6⟩ := run_nums l t
  exact ⟨by omega, by omega, by omega, by omega⟩
/-- What stopped it is said. -/
theorem dop_live {o : Option Cel} (h : dopE t o = 0) : t.stopped = false ∧ (dopV t o).stopped = false := by
  cases o with
  | none =>
    have h : barE t = 0 := h
    unfold barE at h
    split at h
    · omega
    · rename_i hs
      have hs' : t.stopped = false := by simpa using hs
      split at h
      · rename_i hl
        refine ⟨hs', ?_⟩
        show (barV t).stopped = false
        unfold barV
        rw [if_neg hs, if_pos hl, (barS_nums t).2.2.2.2.2.1]
        unfold letV
        rw [if_neg (by unfold lets at hl; simpa using hl)]
        exact hs'
      · omega
  | some c =>
    have h : writeE t c.1 = 0 := h
    unfold writeE at h
    split at h
    · rename_i hr
      have hs' := (refV_ok hr).1
      split at h
      · rename_i hl
        refine ⟨hs', ?_⟩
        show (writeV t c.1 c.2).stopped = false
        unfold writeV
        rw [if_pos hr, if_pos hl]
        show (letV t).stopped = false
        unfold letV
        rw [if_neg (by unfold lets at hl; simpa using hl)]
        exact hs'
      · omega
    · rename_i hr
      exact absurd h hr
theorem run_live : ∀ (l : List (Option Cel)) (t : St), t.stopped = false → runE l t = 0 → (runV l t).stopped = false
  | [], t, hs, _ => hs
  | o :: r, t, hs, h => by
    unfold runE at h
    unfold runV
    by_cases ho : dopE t o = 0
    · rw [if_pos ho] at h ⊢
      exact run_live r _ (dop_live ho).2 h
    · rw [if_neg ho] at h
      exact absurd h ho
theorem dsit_write (h : Sit w W c d s t ks) (hr : Room t) (k : Int) {f : Nat → Int} (hf : Can f) : Calls Tryz.prog 23 #[ptr d, .int .i64 k, .agg (Go.Proofs.YtiadlcjdpbkbkaaGreatD.blk f)] W fun e W' => e = .returned (.int .i64 (writeE t k)) ∧ Sit w W' c d s (writeV t k f) ks := by
  obtain ⟨K, L, rfl, rfl, h⟩ := h
  refine (write_any h.cd.disk hr k hf).mono ?_
  rintro e W' ⟨rfl, L', h2, h3⟩
  obtain ⟨a1, a2⟩ := h.cd.disks h2 h3
  exact ⟨rfl, Sit.goes rfl rfl h a1 a2⟩
theorem dsit_barrier (h : Sit w W c d s t ks) (hr : Room t) : Calls Tryz.prog 11 #[ptr d] W fun e W' => e = .returned (.int .i64 (barE t)) ∧ Sit w W' c d s (barV t) ks := by
  obtain ⟨K, L, rfl, rfl, h⟩ := h
  unfold barE barV
  cases hs : t.stopped
  · simp only [Bool.false_eq_true, if_false]
    cases hl : lets t
    · refine (barrier_dead h.cd.disk hr hs hl).mono ?_
      rintro e W' ⟨rfl, h2, h3⟩
      obtain ⟨a1, a2⟩ := h.cd.disks h2 h3
      exact ⟨rfl, Sit.goes rfl rfl h a1 a2⟩
    · refine (barrier_ok h.cd.disk hr hs hl).mono ?_
      rintro e W' ⟨rfl, L', h2, h3⟩
      obtain ⟨a1, a2⟩ := h.cd.disks h2 h3
      exact ⟨rfl, Sit.goes rfl rfl h a1 a2⟩
  · simp only [if_true]
    refine (barrier_stopped h.cd.disk hs).mono ?_
    rintro e W' ⟨rfl, rfl⟩
    exact ⟨rfl, K, L, rfl, rfl, h⟩
theorem LogSit.dwrite (h : LogSit w W g d x s t ks) (hr : Room t) (k : Int) {f : Nat → Int} (hf : Can f) : Calls Tryz.prog 23 #[ptr d, .int .i64 k, .agg (blk f)] W fun e W' => e = .returned (.int .i64 (writeE t k)) ∧ LogSit w W' g d x s (writeV t k f) ks := by
  obtain ⟨c, mb, v, os, h⟩ := h
  exact (dsit_write h.sit hr k hf).mono fun e W' ⟨h1, h2⟩ => ⟨h1, c, mb, v, os, h.step h2⟩
theorem LogSit.dbarrier (h : LogSit w W g d x s t ks) (hr : Room t) : Calls Tryz.prog 11 #[ptr d] W fun e W' => e = .returned (.int .i64 (barE t)) ∧ LogSit w W' g d x s (barV t) ks := by
  obtain ⟨c, mb, v, os, h⟩ := h
  exact (dsit_barrier h.sit hr).mono fun e W' ⟨h1, h2⟩ => ⟨h1, c, mb, v, os, h.step h2⟩
set_option maxRecDepth 20000 in
set_option maxHeartbeats 800000 in
/-- The header is set. -/
theorem LogSit.setHeader (h : LogSit w W g d x s t ks) (b l i : Int) {f : Nat → Int} (hf : Can f) (hr : Rm t 3) : Calls Tryz.prog 65 #[ptr d, .agg (layA b l i), .agg (blk f)] W fun e W' => e = .returned (.int .i64 (runE [some (1, f), none] t)) ∧ LogSit w W' g d x s (runV [some (1, f), none] t) ks := by
  have hA := ((h.add (.cells (layA b l i) 43)).add (.cells (blk f) 47))
  have hw := hA.dwrite hr.room 1 hf
  have h31 : ((W.alloc (.cells (layA b l i) 43)).alloc (.cells (blk f) 47)).cell? ⟨W.heap.size, 3, none⟩ = some (.int .i64 1) := Joins.cell_of_block (hA.obj (List.mem_cons_of_mem _ (List.mem_cons_self ..))) 3
  have hblk := hA.obj (List.mem_cons_self ..)
  have hszA : (W.alloc (.cells (layA b l i) 43)).heap.size = W.heap.size + 1 := by simp
  rw [hszA] at hblk
  have hb2 : ∀ W', LogSit w W' g d x s (writeV t 1 f) ((((W.alloc (.cells (layA b l i) 43)).heap.size, Obj.cells (blk f) 47)) :: (W.heap.size, .cells (layA b l i) 43) :: ks) → Calls Tryz.prog 11 #[ptr d] W' fun e W'' => e = .returned (.int .i64 (barE (writeV t 1 f))) ∧ LogSit w W'' g d x s (barV (writeV t 1 f)) ks := fun W' h1 =>
    (h1.dbarrier (Rm.room (n := 1) (hr.dop (some (1, f))))).mono fun e W'' ⟨a1, a2⟩ => ⟨a1, a2.drop fun p hp => List.mem_cons_of_mem _ (List.mem_cons_of_mem _ hp)⟩
  have hsz : (layA b l i).size = 9 := rfl
  by_cases he : writeE t 1 = 0
  · have e1 : runE [some (1, f), none] t = barE (writeV t 1 f) := by
      show (if writeE t 1 = 0 then (if barE (writeV t 1 f) = 0 then 0 else barE (writeV t 1 f)) else writeE t 1) = _
      rw [if_pos he]
      split
      · rename_i q; exact q.symm
      · rfl
    have e2 : runV [some (1, f), none] t = barV (writeV t 1 f) := by
      show (if writeE t 1 = 0 then (if barE (writeV t 1 f) = 0 then barV (writeV t 1 f) else barV (writeV t 1 f)) else writeV t 1 f) = _
      rw [if_pos he]
      split <;> rfl
    rw [e1, e2]
    rw [he] at hw
    have HW := Hid.mk' hw
    have HB2 := Hid.mk' hb2
    clear hw hb2 h hA hr hszA
    unfold ptr at HW ⊢
    generalize hF : blk f = F at *
    generalize hL : layA b l i = L at *
    go_enter Tryz.func65, Tryz.ntmps65
    go_wp2_with (first | (go_at_call 23; fail) | refine wpList_load_row rfl 47 (.tmp 5) rfl (W.heap.size + 1) rfl 47 F (0, 0) _ hblk Tryz.underlying47 rfl (by subst hF; rw [blk_size]; exact size25) ?_)
    refine HW.out.mono ?_
    rintro e W1 ⟨rfl, h1⟩
    have HB3 := Hid.mk' (HB2.out W1 h1)
    unfold ptr at HB3
    clear h1 HB2 HW
    go_wp2_with (go_at_call 11; fail)
    refine HB3.out.mono ?_
    rintro e W2 ⟨rfl, h2⟩
    have H2 := Hid.mk' h2
    clear h2 HB3
    go_wp2
    go_ret
    exact ⟨rfl, H2.out⟩
  · have e1 : runE [some (1, f), none] t = writeE t 1 := by
      show (if writeE t 1 = 0 then (if barE (writeV t 1 f) = 0 then 0 else barE (writeV t 1 f)) else writeE t 1) = _
      rw [if_neg he]
    have e2 : runV [some (1, f), none] t = writeV t 1 f := by
      show (if writeE t 1 = 0 then (if barE (writeV t 1 f) = 0 then barV (writeV t 1 f) else barV (writeV t 1 f)) else writeV t 1 f) = _
      rw [if_neg he]
    rw [e1, e2]
    have HW := Hid.mk' hw
    clear hw hb2 h hA hr hszA
    unfold ptr at HW ⊢
    generalize writeE t 1 = E at *
    generalize hF : blk f = F at *
    generalize hL : layA b l i = L at *
    go_enter Tryz.func65, Tryz.ntmps65
    go_wp2_with (first | (go_at_call 23; fail) | refine wpList_load_row rfl 47 (.tmp 5) rfl (W.heap.size + 1) rfl 47 F (0, 0) _ hblk Tryz.underlying47 rfl (by subst hF; rw [blk_size]; exact size25) ?_)
    refine HW.out.mono ?_
    rintro e W1 ⟨rfl, h1⟩
    have H1 := Hid.mk' (h1.drop (ks' := ks) fun p hp => List.mem_cons_of_mem _ (List.mem_cons_of_mem _ hp))
    clear h1 HW
    go_wp2
    go_ret
    exact ⟨rfl, H1.out⟩
end Go.Proofs.YtiadlcjdpbkbkaaGreatD
/- The group's blocks are held at their own places; no condition but that numbers do not pass their greatest. -/
namespace Go.Proofs.YtiadlcjdpbkbkaaGreatD
open Go.RowKit Go.Maps
variable {w W : World} {g d c mb : Nat} {v : Value} {x : LSt} {s : CSt} {t : St} {os ks : List (Nat × Obj)} {base : Nat} {book : Int → Nat → Int}
def putOps (book : Int → Nat → Int) (l : List Int) : List (Option Cel) := l.map fun k => some (k, book k)
theorem putOps_len (l : List Int) : (putOps book l).length = l.length := by simp [putOps]
theorem run_snoc {a : List (Option Cel)} {o : Option Cel} (h : runE a t = 0) : runE (a ++ [o]) t = dopE (runV a t) o ∧ runV (a ++ [o]) t = dopV (runV a t) o := by
  rw [runE_append, runV_append, if_pos h, if_pos h]
  constructor
  · show (if dopE (runV a t) o = 0 then 0 else dopE (runV a t) o) = _
    split
    · rename_i q; exact q.symm
    · rfl
  · show (if dopE (runV a t) o = 0 then dopV (runV a t) o else dopV (runV a t) o) = _
    split <;> rfl
theorem run_stop {a b : List (Option Cel)} {o : Option Cel} (h : runE a t = 0) (ho : dopE (runV a t) o ≠ 0) : runE (a ++ o :: b) t = dopE (runV a t) o ∧ runV (a ++ o :: b) t = dopV (runV a t) o := by
  rw [runE_append, runV_append, if_pos h, if_pos h]
  constructor
  · show (if dopE (runV a t) o = 0 then _ else dopE (runV a t) o) = _
    rw [if_neg ho]
  · show (if dopE (runV a t) o = 0 then _ else dopV (runV a t) o) = _
    rw [if_neg ho]
theorem LS.flush (h : LS w W g d c mb v x s t os ks) (hr : Room t) (k : Int) : Calls Tryz.prog 83 #[ptr c, .int .i64 k] W fun e W' => e = .returned (.int .i64 (flushE s t k)) ∧ LS w W' g d c mb v x (flushC s t k) (flushD s t k) os ks :=
  (sit_flush h.sit hr k).mono fun _ _ ⟨h1, h2⟩ => ⟨h1, h.step h2⟩
theorem LS.dbarrier (h : LS w W g d c mb v x s t os ks) (hr : Room t) : Calls Tryz.prog 11 #[ptr d] W fun e W' => e = .returned (.int .i64 (barE t)) ∧ LS w W' g d c mb v x s (barV t) os ks :=
  (dsit_barrier h.sit hr).mono fun _ _ ⟨h1, h2⟩ => ⟨h1, h.step h2⟩
/-- Behind the first i of them. -/
def PlI (w : World) (g d c mb : Nat) (v : Value) (x : LSt) (t : St) (book : Int → Nat → Int) (os ks : List (Nat × Obj)) (i : Nat) (wx : World) : Prop :=
  ∃ s', LS w wx g d c mb v x s' (runV (putOps book (x.blocks.take i)) t) os ks ∧ runE (putOps book (x.blocks.take i)) t = 0 ∧ CInv x.b x.l s' (runV (putOps book (x.blocks.take i)) t) book (fun k => decide (k ∈ x.blocks.drop i)) ∧ (fastN s'.row : Int) = x.blocks.length - i
theorem PlI.next {i : Nat} {wx : World} (h : PlI w g d c mb v x t book os ks i wx) (hs : t.stopped = false) (hnd : x.blocks.Nodup) (hrng : ∀ k ∈ x.blocks, Dat x.b x.l k) (hi : i < x.blocks.length) (hrm : Rm t (x.blocks.length + 2)) :
    Calls Tryz.prog 83 #[ptr c, .int .i64 x.blocks[i]] wx fun e W' => (e = .returned (.int .i64 0) ∧ PlI w g d c mb v x t book os ks (i + 1) W') ∨ (∃ E, E ≠ 0 ∧ e = .returned (.int .i64 E) ∧ runE (putOps book x.blocks ++ [none]) t = E ∧ ∃ s', LS w W' g d c mb v x s' (runV (putOps book x.blocks ++ [none]) t) os ks) := by
  obtain ⟨s', h1, h2, h3, h4⟩ := h
  have hmem : x.blocks[i] ∈ x.blocks := List.getElem_mem _
  have hD := hrng _ hmem
  have hdr : x.blocks.drop i = x.blocks[i] :: x.blocks.drop (i + 1) := List.drop_eq_getElem_cons hi
  have htk : x.blocks.take (i + 1) = x.blocks.take i ++ [x.blocks[i]] := by rw [List.take_add_one, List.getElem?_eq_getElem hi]; rfl
  have hall : x.blocks = x.blocks.take i ++ x.blocks[i] :: x.blocks.drop (i + 1) := by rw [← hdr, List.take_append_drop]
  have hnot : x.blocks[i] ∉ x.blocks.drop (i + 1) := by
    have hn2 := hnd
    rw [hall] at hn2
    exact (List.nodup_cons.1 (List.nodup_append.1 hn2).2.1).1
  generalize x.blocks[i] = k at *
  have hl2 : (putOps book (x.blocks.take i)).length = i := by rw [putOps_len, List.length_take]; omega
  have hRm : Rm (runV (putOps book (x.blocks.take i)) t) 1 := Rm.run (n := 1) (hrm.le (by rw [hl2]; omega))
  have hlv := run_live _ _ hs h2
  have hops : putOps book (x.blocks.take (i + 1)) = putOps book (x.blocks.take i) ++ [some (k, book k)] := by unfold putOps; rw [htk]; simp
  have hops2 : putOps book x.blocks ++ [none] = putOps book (x.blocks.take i) ++ some (k, book k) :: (putOps book (x.blocks.drop (i + 1)) ++ [none]) := by
    have : putOps book x.blocks = putOps book (x.blocks.take i) ++ some (k, book k) :: putOps book (x.blocks.drop (i + 1)) := by
      have e : putOps book x.blocks = putOps book (x.blocks.take i ++ k :: x.blocks.drop (i + 1)) := by rw [← hall]
      rw [e]; unfold putOps; simp
    rw [this]; simp
  have hF : decide (k ∈ x.blocks.drop i) = true := by rw [hdr]; simp
  obtain ⟨f1, f2⟩ := h3.flushed hlv hD hF
  refine (h1.flush (Rm.room hRm) k).mono ?_
  rintro e W' ⟨rfl, h5⟩
  rw [f1]
  rw [f2] at h5
  by_cases he : writeE (runV (putOps book (x.blocks.take i)) t) k = 0
  · obtain ⟨r1, r2⟩ := run_snoc (o := some (k, book k)) h2
    rw [← hops] at r1 r2
    have hl : lets (runV (putOps book (x.blocks.take i)) t) = true := by
      unfold writeE at he
      rw [if_pos (h3.ref hlv hD)] at he
      cases hq : lets (runV (putOps book (x.blocks.take i)) t)
      · rw [hq] at he; simp at he
      · rfl
    obtain ⟨a1, a2⟩ := h3.flush hlv hD hF hl h5.sit.ok.1
    refine .inl ⟨by rw [he], _, by rw [r2]; exact h5, by rw [r1]; exact he, ?_, by rw [a2, h4]; omega⟩
    rw [r2]
    have hfun : (fun j => decide (j ∈ x.blocks.drop (i + 1))) = (fun j => if j = k then false else decide (j ∈ x.blocks.drop i)) := by
      funext j
      by_cases ej : j = k
      · rw [if_pos ej, ej]; exact decide_eq_false hnot
      · rw [if_neg ej, hdr]; simp [ej]
    rw [hfun]
    exact a1
  · obtain ⟨r1, r2⟩ := run_stop (o := some (k, book k)) (b := putOps book (x.blocks.drop (i + 1)) ++ [none]) h2 he
    rw [← hops2] at r1 r2
    exact .inr ⟨_, he, rfl, r1, _, by rw [r2]; exact h5⟩
set_option maxRecDepth 20000 in
set_option maxHeartbeats 1600000 in
theorem LS.toPlaces (h : LS w W g d c mb v x s t os ks) (hc : CInv x.b x.l s t book (inB x)) (hf : (fastN s.row : Int) = x.blocks.length) (hs : t.stopped = false) (hnd : x.blocks.Nodup) (hrng : ∀ k ∈ x.blocks, Dat x.b x.l k) (hrm : Rm t (x.blocks.length + 2)) (hn : x.blocks.length ≤ 256) :
    Calls Tryz.prog 66 #[ptr g] W fun e W' => e = .returned (.int .i64 (runE (putOps book x.blocks ++ [none]) t)) ∧ ∃ s', LS w W' g d c mb v x s' (runV (putOps book x.blocks ++ [none]) t) os ks ∧ (runE (putOps book x.blocks ++ [none]) t = 0 → CInv x.b x.l s' (runV (putOps book x.blocks ++ [none]) t) book (fun _ => false) ∧ (fastN s'.row : Int) = 0) := by
  have c13 := h.log.c13
  obtain ⟨p, cp, hv, hints, _, _⟩ := h.log.own.ints
  have HI : Hid (PlI w g d c mb v x t book os ks 0 W) := ⟨s, h, rfl, hc, by simpa using hf⟩
  have HN : Hid (∀ i wx y, PlI w g d c mb v x t book os ks i wx → x.blocks[i]? = some y → Calls Tryz.prog 83 #[ptr c, .int .i64 y] wx fun e W' => (e = .returned (.int .i64 0) ∧ PlI w g d c mb v x t book os ks (i + 1) W') ∨ (∃ E, E ≠ 0 ∧ e = .returned (.int .i64 E) ∧ runE (putOps book x.blocks ++ [none]) t = E ∧ ∃ s', LS w W' g d c mb v x s' (runV (putOps book x.blocks ++ [none]) t) os ks)) := fun i wx y h1 hy => by
    obtain ⟨hi, rfl⟩ := List.getElem?_eq_some_iff.1 hy
    exact h1.next hs hnd hrng hi hrm
  have HC : Hid (∀ i wx, PlI w g d c mb v x t book os ks i wx → wx.cell? ⟨g, 12, none⟩ = some (ptr c) ∧ wx.cell? ⟨g, 1, none⟩ = some (ptr d) ∧ (i < x.blocks.length → ∃ y b o, x.blocks[i]? = some y ∧ p = some ⟨b, o, none⟩ ∧ wx.cell? ⟨b, o + i, none⟩ = some (.int .i64 y))) := fun i wx h1 => by
    obtain ⟨s', h2, _⟩ := h1
    refine ⟨h2.log.c12, h2.log.c1, fun hi => ?_⟩
    obtain ⟨p', cp', hv', hints', _, _⟩ := h2.log.own.ints
    rw [hv] at hv'
    injection hv' with hv' _ _
    subst hv'
    obtain ⟨b, o, rfl, _, hcl⟩ := hints' (by omega)
    exact ⟨_, b, o, List.getElem?_eq_getElem hi, rfl, hcl i _ (List.getElem?_eq_getElem hi)⟩
  have HE : Hid (∀ wx, PlI w g d c mb v x t book os ks x.blocks.length wx → Calls Tryz.prog 11 #[ptr d] wx fun e W' => e = .returned (.int .i64 (runE (putOps book x.blocks ++ [none]) t)) ∧ ∃ s', LS w W' g d c mb v x s' (runV (putOps book x.blocks ++ [none]) t) os ks ∧ (runE (putOps book x.blocks ++ [none]) t = 0 → CInv x.b x.l s' (runV (putOps book x.blocks ++ [none]) t) book (fun _ => false) ∧ (fastN s'.row : Int) = 0)) := fun wx h1 => by
    obtain ⟨s', h2, h3, h4, h5⟩ := h1
    rw [List.take_length] at h2 h3 h4
    rw [List.drop_length] at h4
    have hRm : Rm (runV (putOps book x.blocks) t) 1 := Rm.run (n := 1) (hrm.le (by rw [putOps_len]; omega))
    obtain ⟨r1, r2⟩ := run_snoc (o := none) h3
    refine (h2.dbarrier (Rm.room hRm)).mono ?_
    rintro e W' ⟨rfl, h6⟩
    rw [r1, r2]
    refine ⟨rfl, s', h6, fun he => ⟨?_, by rw [h5]; omega⟩⟩
    have hok := h2.sit.ok.2
    have hb : barV (runV (putOps book x.blocks) t) = barS (runV (putOps book x.blocks) t) := by
      have he : barE (runV (putOps book x.blocks) t) = 0 := he
      unfold barE at he
      unfold barV
      split at he
      · omega
      · rename_i q
        rw [if_neg q]
        split at he
        · rename_i q2; rw [if_pos q2]
        · omega
    show CInv x.b x.l s' (barV (runV (putOps book x.blocks) t)) book _
    rw [hb]
    have h7 := h4.disk (barS_nums _).2.2.2.2.1 fun j _ => cur_bar hok j
    have hz : (fun k : Int => decide (k ∈ ([] : List Int))) = fun _ => false := by funext k; simp
    rw [hz] at h7
    exact h7
  clear h hc hf hs hnd hrng hrm hints
  subst hv
  unfold ptr at *
  generalize hm : x.blocks.length = n at *
  go_enter Tryz.func66, Tryz.ntmps66
  go_wp2
  go_loopw [12] (fun s12 wx => ∃ k : Nat, k ≤ n ∧ s12 = .int .i64 k ∧ Hid (PlI w g d c mb (.slice p n cp) x t book os ks k wx)) (fun s12 _ => n - (intOf s12).toNat)
  case atStart => exact ⟨0, by omega, rfl, HI.out⟩
  case round =>
    obtain ⟨k, hk, rfl, HP⟩ := hrel
    obtain ⟨c12, c1, hidx⟩ := HC.out k wr HP.out
    by_cases hk2 : (k : Int) < n
    · have hkl : k < n := by omega
      obtain ⟨y, b0, o0, hy, rfl, hcl⟩ := hidx hkl
      have HN2 := Hid.mk' (HN.out k wr y HP.out hy)
      clear hidx HN HC HE HI c13 HP c1 hy
      go_wp2_with (go_at_call 83; fail)
      refine HN2.out.mono ?_
      rintro e W1 (⟨rfl, h1⟩ | ⟨E, hE, rfl, hE2, h1⟩)
      · have H1 := Hid.mk' h1
        clear h1 HN2
        go_wp2
        exact ⟨⟨k + 1, by omega, by go_num, H1.out⟩, by simp [intOf]; omega⟩
      · have H1 := Hid.mk' h1
        have H2 := Hid.mk' hE2
        clear h1 hE2 HN2
        go_wp2
        go_ret
        obtain ⟨s', h3⟩ := H1.out
        exact ⟨congrArg (fun z => Ending.returned (.int .i64 z)) H2.out.symm, s', h3, fun q => absurd (H2.out.symm.trans q) hE⟩
    · obtain rfl : k = n := by omega
      have HE2 := Hid.mk' (HE.out wr HP.out)
      clear hidx HN HC HE HI c13 HP
      go_wp2_with (go_at_call 11; fail)
      refine HE2.out.mono ?_
      rintro e W1 ⟨rfl, h1⟩
      have H1 := Hid.mk' h1
      clear h1 HE2
      go_wp2
      go_ret
      exact ⟨rfl, H1.out⟩
end Go.Proofs.YtiadlcjdpbkbkaaGreatD
/- The group's blocks are held in the log; no condition but that numbers do not pass their greatest. -/
namespace Go.Proofs.YtiadlcjdpbkbkaaGreatD
open Go.RowKit Go.Maps
variable {w W : World} {g d c mb : Nat} {v : Value} {x : LSt} {s : CSt} {t : St} {os ks : List (Nat × Obj)} {base : Nat} {book : Int → Nat → Int}
theorem inLog_any (b l i j : Int) (hj : 0 ≤ j ∧ j ≤ 1048576) (W : World) : Calls Tryz.prog 75 #[.agg (layA b l i), .int .i64 j] W fun e W' => e = .returned (.int .i64 (2 + j)) ∧ W' = W.alloc (.cells (layA b l i) 43) := by
  have hsz : (layA b l i).size = 9 := rfl
  have c3 : (W.alloc (.cells (layA b l i) 43)).cell? ⟨W.heap.size, 3, none⟩ = some (.int .i64 1) := Joins.cell_of_block (heap_alloc_new _ _) 3
  generalize layA b l i = L at *
  go_enter Tryz.func75, Tryz.ntmps75
  go_wp2
  go_ret
  exact ⟨rfl, rfl⟩
/-- Block j of the group, in the log. -/
def lgOps (book : Int → Nat → Int) (l : List Int) (i : Nat) : List (Option Cel) := (List.range i).map fun (j : Nat) => some (2 + (j : Int), book (l.getD j 0))
theorem lgOps_len (l : List Int) (i : Nat) : (lgOps book l i).length = i := by simp [lgOps]
theorem lgOps_succ {l : List Int} {i : Nat} {y : Int} (h : l[i]? = some y) : lgOps book l (i + 1) = lgOps book l i ++ [some (2 + (i : Int), book y)] := by
  unfold lgOps
  rw [List.range_succ, List.map_append]
  simp [List.getD, h]
theorem lgOps_more (l : List Int) (i : Nat) : ∀ n, i ≤ n → ∃ r, lgOps book l n = lgOps book l i ++ r
  | 0, h => ⟨[], by obtain rfl : i = 0 := by omega
                    simp⟩
  | n + 1, h => by
    by_cases e : i = n + 1
    · exact ⟨[], by rw [e]; simp⟩
    · obtain ⟨r, hr⟩ := lgOps_more l i n (by omega)
      refine ⟨r ++ [some (2 + (n : Int), book (l.getD n 0))], ?_⟩
      rw [← List.append_assoc, ← hr]
      unfold lgOps
      rw [List.range_succ, List.map_append]
      rfl
theorem run_ended {a b : List (Option Cel)} (h : runE a t ≠ 0) : runE (a ++ b) t = runE a t ∧ runV (a ++ b) t = runV a t := by
  rw [runE_append, runV_append, if_neg h, if_neg h]
  exact ⟨rfl, rfl⟩
theorem LS.cread (h : LS w W g d c mb v x s t os ks) (hr : Room t) (k : Int) : Calls Tryz.prog 82 #[ptr c, .int .i64 k] W fun e W' => e = .returned (.tuple #[.agg (blk (rdB s t k)), .int .i64 (usedE s t k)]) ∧ LS w W' g d c mb v x (rdC s t k) (rdD s t k) os ks :=
  (sit_read h.sit hr k).mono fun _ _ ⟨h1, h2⟩ => ⟨h1, h.step h2⟩
theorem LS.dwrite (h : LS w W g d c mb v x s t os ks) (hr : Room t) (k : Int) {f : Nat → Int} (hf : Can f) : Calls Tryz.prog 23 #[ptr d, .int .i64 k, .agg (blk f)] W fun e W' => e = .returned (.int .i64 (writeE t k)) ∧ LS w W' g d c mb v x s (writeV t k f) os ks :=
  (dsit_write h.sit hr k hf).mono fun _ _ ⟨h1, h2⟩ => ⟨h1, h.step h2⟩
/-- Behind the first i of them. -/
def LgI (w : World) (g d c mb : Nat) (v : Value) (x : LSt) (n0 : Int) (t : St) (book : Int → Nat → Int) (os ks : List (Nat × Obj)) (i : Nat) (wx : World) : Prop :=
  ∃ s', LS w wx g d c mb v x s' (runV (lgOps book x.blocks i) t) os ks ∧ runE (lgOps book x.blocks i) t = 0 ∧ CInv x.b x.l s' (runV (lgOps book x.blocks i) t) book (inB x) ∧ (fastN s'.row : Int) = n0
variable {n0 : Int} {i : Nat} {wx : World}
theorem LgI.later {W' : World} (h : LgI w g d c mb v x n0 t book os ks i wx) (hb : Below wx.heap.size wx W') : LgI w g d c mb v x n0 t book os ks i W' := by
  obtain ⟨s', h1, h2⟩ := h
  exact ⟨s', h1.later hb, h2⟩
theorem LgI.add (h : LgI w g d c mb v x n0 t book os ks i wx) (o : Obj) : LgI w g d c mb v x n0 t book os ((wx.heap.size, o) :: ks) i (wx.alloc o) := by
  obtain ⟨s', h1, h2⟩ := h
  exact ⟨s', h1.add o, h2⟩
theorem LgI.drop (h : LgI w g d c mb v x n0 t book os ks i wx) {ks' : List (Nat × Obj)} (hs : ∀ p ∈ ks', p ∈ ks) : LgI w g d c mb v x n0 t book os ks' i wx := by
  obtain ⟨s', h1, h2⟩ := h
  exact ⟨s', h1.drop hs, h2⟩
theorem LgI.row (h : LgI w g d c mb v x n0 t book os ks i wx) : wx.heap[g]? = some (.cells (lgRow g d c mb v x) 85) := by
  obtain ⟨s', h1, h2⟩ := h
  exact h1.log.row
theorem LgI.obj (h : LgI w g d c mb v x n0 t book os ks i wx) {q : Nat} {o : Obj} (hm : (q, o) ∈ ks) : wx.heap[q]? = some o := by
  obtain ⟨s', h1, h2⟩ := h
  exact h1.sit.blk (List.mem_append.2 (.inr hm))
theorem LgI.read (h : LgI w g d c mb v x n0 t book os ks i wx) (hs : t.stopped = false) (hn0 : n0 < x.l) (hrng : ∀ k ∈ x.blocks, Dat x.b x.l k) {y : Int} (hy : y ∈ x.blocks) (hrm : Rm t (i + 2)) :
    Calls Tryz.prog 82 #[ptr c, .int .i64 y] wx fun e W' => e = .returned (.tuple #[.agg (blk (book y)), .int .i64 0]) ∧ LgI w g d c mb v x n0 t book os ks i W' := by
  obtain ⟨s', h1, h2, h3, h4⟩ := h
  have hRm : Rm (runV (lgOps book x.blocks i) t) 2 := Rm.run (n := 2) (hrm.le (by rw [lgOps_len]; omega))
  have hlv := run_live _ _ hs h2
  have hD := hrng y hy
  have hu := h3.used hlv hD (by rw [h4]; exact hn0)
  have hF : inB x y = true := decide_eq_true hy
  refine (h1.cread (Rm.room hRm) y).mono ?_
  rintro e W' ⟨rfl, h5⟩
  obtain ⟨a1, a2, a3, _⟩ := h3.read hD hu h5.sit.ok.1
  rw [a3 hF] at h5 a1
  exact ⟨by rw [h3.reads hD hu, hu], _, h5, h2, a1, by rw [a2]; exact h4⟩
theorem CInv.can {b l : Int} {F : Int → Bool} {k : Int} (h : CInv b l s t book F) (hF : F k = true) : Can (book k) := by
  obtain ⟨z, _, hz, _, _, hd⟩ := h.fastAt hF
  rw [← hd]
  exact (h.ok.pos z hz).2
theorem LgI.write (h : LgI w g d c mb v x n0 t book os ks i wx) (hs : t.stopped = false) (hlen : (x.blocks.length : Int) ≤ x.l - 1) {y : Int} (hy : x.blocks[i]? = some y) (hrm : Rm t (i + 2)) :
    Calls Tryz.prog 23 #[ptr d, .int .i64 (2 + (i : Int)), .agg (blk (book y))] wx fun e W' => (e = .returned (.int .i64 0) ∧ LgI w g d c mb v x n0 t book os ks (i + 1) W') ∨ (∃ E, E ≠ 0 ∧ e = .returned (.int .i64 E) ∧ runE (lgOps book x.blocks x.blocks.length ++ [none]) t = E ∧ ∃ s', LS w W' g d c mb v x s' (runV (lgOps book x.blocks x.blocks.length ++ [none]) t) os ks) := by
  obtain ⟨s', h1, h2, h3, h4⟩ := h
  obtain ⟨hi, hyy⟩ := List.getElem?_eq_some_iff.1 hy
  have hmem : y ∈ x.blocks := by rw [← hyy]; exact List.getElem_mem _
  have hRm : Rm (runV (lgOps book x.blocks i) t) 2 := Rm.run (n := 2) (hrm.le (by rw [lgOps_len]; omega))
  have hlv := run_live _ _ hs h2
  have hF : inB x y = true := decide_eq_true hmem
  refine (h1.dwrite (Rm.room hRm) (2 + (i : Int)) (h3.can hF)).mono ?_
  rintro e W' ⟨rfl, h5⟩
  obtain ⟨r1, r2⟩ := run_snoc (o := some (2 + (i : Int), book y)) h2
  rw [← lgOps_succ hy] at r1 r2
  by_cases he : writeE (runV (lgOps book x.blocks i) t) (2 + (i : Int)) = 0
  · have hl : refV (runV (lgOps book x.blocks i) t) (2 + (i : Int)) = 0 ∧ lets (runV (lgOps book x.blocks i) t) = true := by
      unfold writeE at he
      split at he
      · rename_i q
        refine ⟨q, ?_⟩
        cases hq : lets (runV (lgOps book x.blocks i) t)
        · rw [hq] at he; simp at he
        · rfl
      · rename_i q
        exact absurd he q
    refine .inl ⟨by rw [he], s', by rw [r2]; exact h5, by rw [r1]; exact he, ?_, h4⟩
    rw [r2]
    refine h3.disk (dop_nums _ (some (2 + (i : Int), book y))).2.2.2.2.1 fun j hj => ?_
    show curV (writeV _ _ _) j = _
    rw [cur_write hl.2 hl.1, if_neg fun q => hj.2 ⟨by omega, by omega⟩]
  · obtain ⟨r, hr⟩ := lgOps_more (book := book) x.blocks (i + 1) x.blocks.length (by omega)
    have h6 : runE (lgOps book x.blocks (i + 1)) t ≠ 0 := by rw [r1]; exact he
    obtain ⟨q1, q2⟩ := run_ended (b := r ++ [none]) h6
    rw [← List.append_assoc, ← hr] at q1 q2
    exact .inr ⟨_, he, rfl, by rw [q1, r1]; rfl, s', by rw [q2, r2]; exact h5⟩
end Go.Proofs.YtiadlcjdpbkbkaaGreatD
/- The group's blocks are held in the log: the walk; no condition but that numbers do not pass their greatest. -/
namespace Go.Proofs.YtiadlcjdpbkbkaaGreatD
open Go.RowKit Go.Maps
variable {w W : World} {g d c mb : Nat} {v : Value} {x : LSt} {s : CSt} {t : St} {os ks : List (Nat × Obj)} {base : Nat} {book : Int → Nat → Int}
theorem size31 : (Tryz.prog.info? 43).map (·.size) = some 9 := by kernel_rfl
theorem loadLay {u : World} (h : u.heap[g]? = some (.cells (lgRow g d c mb v x) 85)) : (loadVar 43 ⟨g, 3, none⟩).run Tryz.prog u = .ok (.agg (layA x.b x.l x.i)) u :=
  run_loadVar_mid (P := Tryz.prog) u g 3 43 (layA x.b x.l x.i).toList _ (World.rangeAt_of_block h 3 9) Tryz.underlying43 rfl size31
theorem exec_loadLay {a : Act} {o : Oper} {u : World} {y : Operand} (ho : o.op = .load 43 y) (hx : a.eval y = .pointer (some ⟨g, 3, none⟩)) (h : u.heap[g]? = some (.cells (lgRow g d c mb v x) 85)) : (execOp a.eval o).run Tryz.prog u = .ok (.value (.agg (layA x.b x.l x.i))) u := by
  unfold execOp
  simp only [ho, hx, Instr.loadAt, Instr.sureAddr, Sem.run_bind, Sem.run_pure, Result.andThen_ok, loadLay h]
set_option maxRecDepth 20000 in
set_option maxHeartbeats 1600000 in
theorem LS.toLog (h : LS w W g d c mb v x s t os ks) (hc : CInv x.b x.l s t book (inB x)) (hf : (fastN s.row : Int) = x.blocks.length) (hs : t.stopped = false) (hlen : (x.blocks.length : Int) ≤ x.l - 1) (hrng : ∀ k ∈ x.blocks, Dat x.b x.l k) (hrm : Rm t (x.blocks.length + 2)) (hl : x.l ≤ 256) :
    Calls Tryz.prog 64 #[ptr g] W fun e W' => e = .returned (.int .i64 (runE (lgOps book x.blocks x.blocks.length ++ [none]) t)) ∧ ∃ s', LS w W' g d c mb v x s' (runV (lgOps book x.blocks x.blocks.length ++ [none]) t) os ks ∧ (runE (lgOps book x.blocks x.blocks.length ++ [none]) t = 0 → CInv x.b x.l s' (runV (lgOps book x.blocks x.blocks.length ++ [none]) t) book (inB x) ∧ (fastN s'.row : Int) = x.blocks.length) := by
  have c13 := h.log.c13
  obtain ⟨p, cp, hv, hints, _, _⟩ := h.log.own.ints
  have HI : Hid (LgI w g d c mb v x x.blocks.length t book os ks 0 W) := ⟨s, h, rfl, hc, hf⟩
  have HC : Hid (∀ i wx, LgI w g d c mb v x x.blocks.length t book os ks i wx → wx.cell? ⟨g, 12, none⟩ = some (ptr c) ∧ wx.cell? ⟨g, 1, none⟩ = some (ptr d) ∧ (i < x.blocks.length → ∃ y b o, x.blocks[i]? = some y ∧ p = some ⟨b, o, none⟩ ∧ wx.cell? ⟨b, o + i, none⟩ = some (.int .i64 y))) := fun i wx h1 => by
    obtain ⟨s', h2, _⟩ := h1
    refine ⟨h2.log.c12, h2.log.c1, fun hi => ?_⟩
    obtain ⟨p', cp', hv', hints', _, _⟩ := h2.log.own.ints
    rw [hv] at hv'
    injection hv' with hv' _ _
    subst hv'
    obtain ⟨b, o, rfl, _, hcl⟩ := hints' (by omega)
    exact ⟨_, b, o, List.getElem?_eq_getElem hi, rfl, hcl i _ (List.getElem?_eq_getElem hi)⟩
  have HR : Hid (∀ i wx y, LgI w g d c mb v x x.blocks.length t book os ks i wx → x.blocks[i]? = some y → Calls Tryz.prog 82 #[ptr c, .int .i64 y] wx fun e W' => e = .returned (.tuple #[.agg (blk (book y)), .int .i64 0]) ∧ LgI w g d c mb v x x.blocks.length t book os ks i W') := fun i wx y h1 hy => by
    obtain ⟨hi, hyy⟩ := List.getElem?_eq_some_iff.1 hy
    exact h1.read hs (by omega) hrng (by rw [← hyy]; exact List.getElem_mem _) (hrm.le (by omega))
  have HW : Hid (∀ i wx y ks', (∀ q ∈ ks, q ∈ ks') → LgI w g d c mb v x x.blocks.length t book os ks' i wx → x.blocks[i]? = some y → Calls Tryz.prog 23 #[ptr d, .int .i64 (2 + (i : Int)), .agg (blk (book y))] wx fun e W' => (e = .returned (.int .i64 0) ∧ LgI w g d c mb v x x.blocks.length t book os ks' (i + 1) W') ∨ (∃ E, E ≠ 0 ∧ e = .returned (.int .i64 E) ∧ runE (lgOps book x.blocks x.blocks.length ++ [none]) t = E ∧ ∃ s', LS w W' g d c mb v x s' (runV (lgOps book x.blocks x.blocks.length ++ [none]) t) os ks')) := fun i wx y ks' _ h1 hy => by
    obtain ⟨hi, _⟩ := List.getElem?_eq_some_iff.1 hy
    exact h1.write hs hlen hy (hrm.le (by omega))
  have HE : Hid (∀ wx, LgI w g d c mb v x x.blocks.length t book os ks x.blocks.length wx → Calls Tryz.prog 11 #[ptr d] wx fun e W' => e = .returned (.int .i64 (runE (lgOps book x.blocks x.blocks.length ++ [none]) t)) ∧ ∃ s', LS w W' g d c mb v x s' (runV (lgOps book x.blocks x.blocks.length ++ [none]) t) os ks ∧ (runE (lgOps book x.blocks x.blocks.length ++ [none]) t = 0 → CInv x.b x.l s' (runV (lgOps book x.blocks x.blocks.length ++ [none]) t) book (inB x) ∧ (fastN s'.row : Int) = x.blocks.length)) := fun wx h1 => by
    obtain ⟨s', h2, h3, h4, h5⟩ := h1
    have hRm : Rm (runV (lgOps book x.blocks x.blocks.length) t) 1 := Rm.run (n := 1) (hrm.le (by rw [lgOps_len]; omega))
    obtain ⟨r1, r2⟩ := run_snoc (o := none) h3
    refine (h2.dbarrier (Rm.room hRm)).mono ?_
    rintro e W' ⟨rfl, h6⟩
    rw [r1, r2]
    refine ⟨rfl, s', h6, fun he => ⟨?_, h5⟩⟩
    have hok := h2.sit.ok.2
    have hb : barV (runV (lgOps book x.blocks x.blocks.length) t) = barS (runV (lgOps book x.blocks x.blocks.length) t) := by
      have he : barE (runV (lgOps book x.blocks x.blocks.length) t) = 0 := he
      unfold barE at he
      unfold barV
      split at he
      · omega
      · rename_i q
        rw [if_neg q]
        split at he
        · rename_i q2; rw [if_pos q2]
        · omega
    show CInv x.b x.l s' (barV _) book _
    rw [hb]
    exact h4.disk (barS_nums _).2.2.2.2.1 fun j _ => cur_bar hok j
  have hn : x.blocks.length ≤ 255 := by omega
  clear h hc hf hs hrng hrm hints hlen
  subst hv
  unfold ptr at *
  generalize hm : x.blocks.length = n at *
  go_enter Tryz.func64, Tryz.ntmps64
  go_wp2
  go_loopw [13] (fun s13 wx => ∃ k : Nat, k ≤ n ∧ s13 = .int .i64 k ∧ Hid (LgI w g d c mb (.slice p n cp) x n t book os ks k wx)) (fun s13 _ => n - (intOf s13).toNat)
  case atStart => exact ⟨0, by omega, rfl, HI.out⟩
  case round =>
    obtain ⟨k, hk, rfl, HP⟩ := hrel
    obtain ⟨c12, c1, hidx⟩ := HC.out k wr HP.out
    by_cases hk2 : (k : Int) < n
    · have hkl : k < n := by omega
      obtain ⟨y, b0, o0, hy, rfl, hcl⟩ := hidx hkl
      have HR2 := Hid.mk' (HR.out k wr y HP.out hy)
      have HY := Hid.mk' hy
      clear hidx HR HC HE HI c13 HP c1 hy
      go_wp2_with (go_at_call 82; fail)
      refine HR2.out.mono ?_
      rintro e W1 ⟨rfl, h1⟩
      have H1 := Hid.mk' (h1.add (.cells (blk (book y)) 47))
      clear h1 HR2 c12 hcl
      have z25 := zero25
      go_wp2_with (first | refine wpList_store25 rfl (.tmp 5) (.tmp 25) rfl W1.heap.size (book y) rfl rfl _ (heap_alloc_new _ _) ?_)
      rw [World.setRow_alloc_new]
      have hB1 : W1.heap.size < (W1.alloc (.cells (blk (book y)) 47)).heap.size := by simp
      generalize hV : W1.alloc (.cells (blk (book y)) 47) = V at H1 hB1 ⊢
      clear hV
      generalize W1.heap.size = gB at H1 hB1 ⊢
      have hrow := H1.out.row
      have hbl := H1.out.obj (List.mem_cons_self ..)
      refine wp_region_ord (S := fun u => u.heap[g]? = some (.cells (lgRow g d c mb (.slice (some ⟨b0, o0, none⟩) n cp) x) 85) ∧ u.heap[gB]? = some (.cells (blk (book y)) 47)) [(0, true), (1, true), (2, true), (3, true), (4, true), (5, true), (6, true), (7, true), (8, true), (10, true), (9, false), (11, false), (12, true)]
        (by kernel_rfl) rfl (by kernel_rfl) (fun d _ _ _ _ h => by cases d <;> exact h) ⟨hrow, hbl⟩ ?_
      simp only [inOrd, List.getElem?_cons_zero, List.getElem?_cons_succ]
      refine wpOrd_move rfl _ rfl ?_
      simp only [Act.put, List.setIfInBounds_toArray, List.set_cons_succ, List.set_cons_zero]
      refine wpOrd_yield (v := .pointer (some ⟨g, 0, none⟩)) rfl (fun u _ => by go_simp) ?_
      simp only [Act.put, List.setIfInBounds_toArray, List.set_cons_succ, List.set_cons_zero]
      refine wpOrd_yield (v := .pointer (some ⟨g, 1, none⟩)) rfl (fun u _ => by go_simp) ?_
      simp only [Act.put, List.setIfInBounds_toArray, List.set_cons_succ, List.set_cons_zero]
      refine wpOrd_yield (v := .pointer (some ⟨d, 0, none⟩)) rfl (fun u hu => by have c1 : u.cell? ⟨g, 1, none⟩ = some (.pointer (some ⟨d, 0, none⟩)) := Joins.cell_of_block hu.1 1; go_simp) ?_
      simp only [Act.put, List.setIfInBounds_toArray, List.set_cons_succ, List.set_cons_zero]
      refine wpOrd_move rfl _ rfl ?_
      simp only [Act.put, List.setIfInBounds_toArray, List.set_cons_succ, List.set_cons_zero]
      refine wpOrd_yield (v := .pointer (some ⟨g, 0, none⟩)) rfl (fun u _ => by go_simp) ?_
      simp only [Act.put, List.setIfInBounds_toArray, List.set_cons_succ, List.set_cons_zero]
      refine wpOrd_yield (v := .pointer (some ⟨g, 3, none⟩)) rfl (fun u _ => by go_simp) ?_
      simp only [Act.put, List.setIfInBounds_toArray, List.set_cons_succ, List.set_cons_zero]
      refine wpOrd_yield (v := .agg (layA x.b x.l x.i)) rfl (fun u hu => exec_loadLay rfl rfl hu.1) ?_
      simp only [Act.put, List.setIfInBounds_toArray, List.set_cons_succ, List.set_cons_zero]
      refine wpOrd_move rfl _ rfl ?_
      simp only [Act.put, List.setIfInBounds_toArray, List.set_cons_succ, List.set_cons_zero]
      refine wpOrd_yield (v := .agg (blk (book y))) rfl (fun u hu => H.exec_loadB rfl gB (book y) rfl hu.2) ?_
      simp only [Act.put, List.setIfInBounds_toArray, List.set_cons_succ, List.set_cons_zero]
      refine wpOrd_call rfl 75 _ _ rfl Tryz.call75 [.agg (layA x.b x.l x.i), .int .i64 (k : Int)] rfl ?_
      refine (inLog_any x.b x.l x.i k ⟨by omega, by omega⟩ _).mono ?_
      rintro e X ⟨rfl, rfl⟩
      have H2 := Hid.mk' (H1.out.later (below_next (H.drew_below V) (below_new V.drew (.cells (layA x.b x.l x.i) 43))))
      refine ⟨_, rfl, ⟨H2.out.row, H2.out.obj (List.mem_cons_self ..)⟩, ?_⟩
      clear hrow hbl H1
      generalize V.drew.alloc (.cells (layA x.b x.l x.i) 43) = V2 at H2 ⊢
      simp only [Act.put, List.setIfInBounds_toArray, List.set_cons_succ, List.set_cons_zero]
      refine wpOrd_call rfl 23 _ _ rfl Tryz.call23 [.pointer (some ⟨d, 0, none⟩), .int .i64 (2 + (k : Int)), .agg (blk (book y))] rfl ?_
      refine (HW.out k V2 y _ (fun q hq => List.mem_cons_of_mem _ hq) H2.out HY.out).mono ?_
      rintro e X (⟨rfl, h3⟩ | ⟨E, hE, rfl, hE2, s', h3⟩)
      · refine ⟨_, rfl, ⟨h3.row, h3.obj (List.mem_cons_self ..)⟩, ?_⟩
        have H3 := Hid.mk' (h3.drop (ks' := ks) fun q hq => List.mem_cons_of_mem _ hq)
        clear h3 H2 HW HY
        simp only [Act.put, List.setIfInBounds_toArray, List.set_cons_succ, List.set_cons_zero]
        refine wpOrd_yield (v := .int .i64 0) rfl (fun u _ => by go_simp) ?_
        refine wpOrd_nil ?_
        simp only [Act.put, List.setIfInBounds_toArray, List.set_cons_succ, List.set_cons_zero]
        go_wp2
        exact ⟨⟨k + 1, by omega, by go_num, H3.out⟩, by simp [intOf]; omega⟩
      · refine ⟨_, rfl, ⟨h3.log.row, h3.sit.blk (List.mem_append.2 (.inr (List.mem_cons_self ..)))⟩, ?_⟩
        have H3 := Hid.mk' (h3.drop (ks' := ks) fun q hq => List.mem_cons_of_mem _ hq)
        have H4 := Hid.mk' hE2
        clear h3 H2 HW HY hE2
        simp only [Act.put, List.setIfInBounds_toArray, List.set_cons_succ, List.set_cons_zero]
        refine wpOrd_yield (v := .int .i64 E) rfl (fun u _ => by go_simp) ?_
        refine wpOrd_nil ?_
        simp only [Act.put, List.setIfInBounds_toArray, List.set_cons_succ, List.set_cons_zero]
        go_wp2
        go_ret
        exact ⟨congrArg (fun z => Ending.returned (.int .i64 z)) H4.out.symm, s', H3.out, fun q => absurd (H4.out.symm.trans q) hE⟩
    · obtain rfl : k = n := by omega
      have HE2 := Hid.mk' (HE.out wr HP.out)
      clear hidx HR HW HC HE HI c13 HP
      go_wp2_with (go_at_call 11; fail)
      refine HE2.out.mono ?_
      rintro e W1 ⟨rfl, h1⟩
      have H1 := Hid.mk' h1
      clear h1 HE2
      go_wp2
      go_ret
      exact ⟨rfl, H1.out⟩
end Go.Proofs.YtiadlcjdpbkbkaaGreatD
/- A commit; no condition but that numbers do not pass their greatest. -/
namespace Go.Proofs.YtiadlcjdpbkbkaaGreatD
open Go.RowKit Go.Maps
variable {w W : World} {g d c mb : Nat} {v : Value} {x : LSt} {s : CSt} {t : St} {os ks : List (Nat × Obj)} {base : Nat} {book : Int → Nat → Int}
theorem headF_can {ts : List Int} (h : ts.length ≤ 255) : Can (H.headF ts) := by
  refine ⟨fun i => H.wordF_byte _ i, fun i hi => ?_⟩
  unfold H.headF H.wordF
  have : ((ts.length : Int) :: ts).getD (i / 4) 0 = 0 := by
    rw [List.getD_eq_getElem?_getD, List.getElem?_eq_none (by simp; omega)]
    rfl
  rw [this]
  simp
theorem wpStill_loadLay {ops : Array Oper} {Q : Act → Prop} {a : Act} {o : Oper} {rest : List Oper} {u : World} (hgd : o.guard = none) (y : Operand) (ho : o.op = .load 43 y) (hx : a.eval y = .pointer (some ⟨g, 3, none⟩)) (hg : u.heap[g]? = some (.cells (lgRow g d c mb v x) 85))
    (h : wpStill Tryz.prog ops u Q rest (a.put o.dst (.agg (layA x.b x.l x.i)))) : wpStill Tryz.prog ops u Q (o :: rest) a := by
  unfold wpStill
  rw [if_pos (by simp [Region.wanted, hgd])]
  unfold Oper.still execOp
  simp only [ho, hx, Instr.loadAt, Instr.sureAddr, loadLay hg, Sem.run_bind, Result.andThen_ok, Sem.run_pure, Oper.stillUpon]
  exact ⟨trivial, h⟩
theorem wpStill_buildB {ops : Array Oper} {Q : Act → Prop} {a : Act} {o : Oper} {rest : List Oper} {u : World} (hgd : o.guard = none) (ho : o.op = .build 47 #[])
    (h : wpStill Tryz.prog ops u Q rest (a.put o.dst (.agg (blk nought)))) : wpStill Tryz.prog ops u Q (o :: rest) a := by
  have hb := built58 u
  unfold wpStill
  rw [if_pos (by simp [Region.wanted, hgd])]
  unfold Oper.still execOp
  generalize blk nought = Z at *
  simp only [ho, Array.map_empty, Sem.run_bind]
  simp only [hb, Result.andThen_ok, Sem.run_pure, Oper.stillUpon]
  exact ⟨trivial, h⟩
/-- What a commit does to the disk. -/
def opsA (x : LSt) (book : Int → Nat → Int) : List (Option Cel) := lgOps book x.blocks x.blocks.length ++ [none]
def opsB (x : LSt) : List (Option Cel) := [some (1, H.headF x.blocks), none]
def opsC (x : LSt) (book : Int → Nat → Int) : List (Option Cel) := putOps book x.blocks ++ [none]
def opsD : List (Option Cel) := [some (1, nought), none]
def cmtOps (x : LSt) (book : Int → Nat → Int) : List (Option Cel) := opsA x book ++ (opsB x ++ (opsC x book ++ opsD))
theorem cmt_A (h : runE (opsA x book) t ≠ 0) : runE (cmtOps x book) t = runE (opsA x book) t ∧ runV (cmtOps x book) t = runV (opsA x book) t := run_ended h
theorem cmt_B (h : runE (opsA x book) t = 0) : runE (cmtOps x book) t = runE (opsB x ++ (opsC x book ++ opsD)) (runV (opsA x book) t) ∧ runV (cmtOps x book) t = runV (opsB x ++ (opsC x book ++ opsD)) (runV (opsA x book) t) := by
  unfold cmtOps
  rw [runE_append, runV_append, if_pos h, if_pos h]
  exact ⟨rfl, rfl⟩
theorem run_on {a b : List (Option Cel)} (h : runE a t = 0) : runE (a ++ b) t = runE b (runV a t) ∧ runV (a ++ b) t = runV b (runV a t) := by
  rw [runE_append, runV_append, if_pos h, if_pos h]
  exact ⟨rfl, rfl⟩
theorem opsA_len : (opsA x book).length = x.blocks.length + 1 := by simp [opsA, lgOps_len]
theorem opsC_len : (opsC x book).length = x.blocks.length + 1 := by simp [opsC, putOps_len]
/-- The header's own write turns no data. -/
theorem head_same {b l : Int} {F : Int → Bool} {f : Nat → Int} (h : CInv b l s t book F) (ok : Ok t) (hf : Can f) (he : runE [some (1, f), none] t = 0) (hl : 32 ≤ l) : CInv b l s (runV [some (1, f), none] t) book F := by
  have h1 : writeE t 1 = 0 := by
    by_cases q : writeE t 1 = 0
    · exact q
    · have : runE [some (1, f), none] t = writeE t 1 := by
        show (if writeE t 1 = 0 then _ else writeE t 1) = _
        rw [if_neg q]
      rw [this] at he
      exact he
  have e0 : runE [some (1, f), none] t = barE (writeV t 1 f) := by
    show (if writeE t 1 = 0 then (if barE (writeV t 1 f) = 0 then 0 else barE (writeV t 1 f)) else writeE t 1) = _
    rw [if_pos h1]
    split
    · rename_i q; exact q.symm
    · rfl
  have e1 : runV [some (1, f), none] t = barV (writeV t 1 f) := by
    show (if writeE t 1 = 0 then (if barE (writeV t 1 f) = 0 then barV (writeV t 1 f) else barV (writeV t 1 f)) else writeV t 1 f) = _
    rw [if_pos h1]
    split <;> rfl
  rw [e0] at he
  rw [e1]
  have hr : refV t 1 = 0 ∧ lets t = true := by
    unfold writeE at h1
    split at h1
    · rename_i q
      refine ⟨q, ?_⟩
      cases hq : lets t
      · rw [hq] at h1; simp at h1
      · rfl
    · rename_i q
      exact absurd h1 q
  have hb : barV (writeV t 1 f) = barS (writeV t 1 f) := by
    unfold barE at he
    unfold barV
    split at he
    · omega
    · rename_i q
      rw [if_neg q]
      split at he
      · rename_i q2; rw [if_pos q2]
      · omega
  have hwv : writeV t 1 f = writeS t 1 f := by unfold writeV; rw [if_pos hr.1, hr.2, if_pos rfl]
  have hokw : Ok (writeV t 1 f) := by rw [hwv]; exact writeS_ok ok ⟨(refV_ok hr.1).2.1, (refV_ok hr.1).2.2⟩ hf
  rw [hb]
  refine h.disk ((barS_nums _).2.2.2.2.1.trans (dop_nums t (some (1, f))).2.2.2.2.1) fun j hj => ?_
  rw [cur_bar hokw, cur_write hr.2 hr.1, if_neg fun q => hj.2 ⟨by omega, by omega⟩]
end Go.Proofs.YtiadlcjdpbkbkaaGreatD
/- A commit: the walk; no condition but that numbers do not pass their greatest. -/
namespace Go.Proofs.YtiadlcjdpbkbkaaGreatD
open Go.RowKit Go.Maps
variable {w W : World} {g d c mb : Nat} {v : Value} {x : LSt} {s : CSt} {t : St} {os ks : List (Nat × Obj)} {base : Nat} {book : Int → Nat → Int}
def noPanic (Q : Exit → Act → World → Prop) : Exit → Act → World → Prop := fun e a w => match e with
  | .panic _ => False
  | e' => Q e' a w
theorem noPanic_normal {Q : Exit → Act → World → Prop} {a : Act} {u : World} (h : Q .normal a u) : noPanic Q .normal a u := h
theorem wp_calm {P : Program} {c : Code} {Q : Exit → Act → World → Prop} {a : Act} {u : World} (h : c.wp P (noPanic Q) a u) : c.wp P Q a u := Code.wp_mono (fun e a w q => by
  cases e
  case panic => exact q.elim
  all_goals exact q) h
theorem Inv.may (h : Inv x s t book) : H.mayB (1 + x.l) x.b (x.l - 1) x.blocks = true := decide_eq_true ⟨h.len, h.rng, h.nd⟩
theorem Inv.dats (h : Inv x s t book) : ∀ k ∈ x.blocks, Dat x.b x.l k := fun k hk => h.dat (h.rng k hk)
theorem Inv.encodes (h : Inv x s t book) (hL : LS w W g d c mb v x s t os ks) {p : Option Addr} {cp : Nat} (hv : v = .slice p x.blocks.length cp) {V : World} (hb : Below W.heap.size W V) :
    Calls Tryz.prog 22 #[.agg (layA x.b x.l x.i), .agg #[.slice p x.blocks.length cp]] V fun e W' => e = .returned (.tuple #[.agg (blk (H.headF x.blocks)), .int .i64 0]) ∧ Below V.heap.size V W' := by
  obtain ⟨p', cp', hv', hints, _, _⟩ := (hL.later hb).log.own.ints
  rw [hv] at hv'
  injection hv' with hv' _ h3
  subst hv' h3
  have hf := h.fine
  have hlen := h.len
  have hst : H.standsB x.b x.l x.i 1 (1 + x.l) (H.nodeB x.i) (H.bitsAt x.l x.i) (H.bitsB x.b) (H.dataAt x.b x.l x.i) = true := decide_eq_true ⟨hf, rfl, rfl, rfl, rfl, rfl, rfl⟩
  have hP : H.MayP (1 + x.l) x.b (x.l - 1) x.blocks := ⟨h.len, h.rng, h.nd⟩
  have hpos := H.Fine.pos hf
  exact H.enc_ok x.b x.l x.i 1 (1 + x.l) (H.nodeB x.i) (H.bitsAt x.l x.i) (H.bitsB x.b) (H.dataAt x.b x.l x.i) x.blocks p cp V (by unfold H.I64; omega) hst ⟨hf.1, hf.2.1⟩ hints (hP.u (by omega) (by omega)) (by omega) h.may
theorem LS.addNew {W' : World} {q : Nat} {o : Obj} (h : LS w W g d c mb v x s t os ks) (hb : Below W.heap.size W W') (hq : W.heap.size ≤ q) (ho : W'.heap[q]? = some o) : LS w W' g d c mb v x s t os ((q, o) :: ks) := by
  have hl := h.later hb
  refine ⟨h.sit.turn (T := fun _ => False) (Fr.ofBelow hb) (fun _ q => q.elim) fun p hp => ?_, hl.log, h.own, fun p hp => ?_⟩
  · rcases List.mem_append.1 hp with hp | hp
    · exact ⟨hl.sit.blk (List.mem_append.2 (.inl hp)), .inl ⟨p.2, List.mem_append.2 (.inl hp)⟩⟩
    · rcases List.mem_cons.1 hp with rfl | hp
      · exact ⟨ho, .inr hq⟩
      · exact ⟨hl.sit.blk (List.mem_append.2 (.inr hp)), .inl ⟨p.2, List.mem_append.2 (.inr hp)⟩⟩
  · rcases List.mem_cons.1 hp with rfl | hp
    · intro q2
      have := h.log.lt _ q2
      simp only at this
      omega
    · exact h.ap p hp
/-- What a commit leaves. -/
def CmtPost (w : World) (g d : Nat) (x : LSt) (t : St) (book : Int → Nat → Int) (ks : List (Nat × Obj)) (e : Ending) (W' : World) : Prop :=
  e = .returned (.int .i64 (runE (cmtOps x book) t)) ∧ (∃ x' s', LogSit w W' g d x' s' (runV (cmtOps x book) t) ks ∧ x'.claim = x.claim) ∧ (runE (cmtOps x book) t = 0 → LogI w W' g d { forgotL x with commits := x.commits + 1 } (runV (cmtOps x book) t) book ks)
theorem cmt_bad {E : Int} {T : St} {W3 : World} {s3 : CSt} {x3 : LSt} {ks' : List (Nat × Obj)} (h : LogSit w W3 g d x3 s3 T ks') (hks : ∀ p ∈ ks, p ∈ ks') (hc : x3.claim = x.claim) (hE : runE (cmtOps x book) t = E) (hT : runV (cmtOps x book) t = T) (h0 : E ≠ 0) : CmtPost w g d x t book ks (.returned (.int .i64 E)) (forgotW W3 g) := by
  obtain ⟨c, mb, v, os, h⟩ := h
  refine ⟨by rw [hE], ⟨forgotL x3, s3, ?_, hc⟩, fun q => absurd (hE.symm.trans q) h0⟩
  rw [hT]
  exact h.forgot.drop hks
theorem cmt_fine {T : St} {W3 : World} {s3 : CSt} {ks' : List (Nat × Obj)} (hI : Inv x s t book) (h : LogSit w W3 g d { x with commits := x.commits + 1 } s3 T ks') (hks : ∀ p ∈ ks, p ∈ ks') (hE : runE (cmtOps x book) t = 0) (hT : runV (cmtOps x book) t = T) (hC : CInv x.b x.l s3 T book (fun _ => false)) (hf : (fastN s3.row : Int) = 0) (hcm : x.commits < 1099511627776) : CmtPost w g d x t book ks (.returned (.int .i64 0)) (forgotW W3 g) := by
  obtain ⟨c, mb, v, os, h⟩ := h
  have h1 := h.forgot.drop hks
  refine ⟨by rw [hE], ⟨forgotL { x with commits := x.commits + 1 }, s3, by rw [hT]; exact h1, rfl⟩, fun _ => ?_⟩
  rw [hT]
  refine ⟨s3, h1, hI.fine, ?_, List.nodup_nil, fun k hk => by simp [forgotL] at hk, hf, fun k => ⟨fun _ => by simp [forgotL], fun _ => rfl⟩, ?_, hI.steps, ⟨by have := hI.commits; show 0 ≤ x.commits + 1; omega, by show x.commits + 1 ≤ _; omega⟩, hI.room, ?_⟩
  · have : inB { forgotL x with commits := x.commits + 1 } = fun _ => false := by funext k; simp [inB, forgotL]
    rw [this]
    exact hC
  · have := hI.fine.1
    show ((0 : Nat) : Int) ≤ x.l - 1
    omega
  · intro ho
    have := hI.more ho
    show ((0 : Nat) : Int) + x.room ≤ x.l - 1
    omega
theorem LogSit.c17 (h : LogSit w W g d x s t ks) : W.cell? ⟨g, 17, none⟩ = some (.int .i64 x.commits) ∧ W.frozen? ⟨g, 17, none⟩ = false := by
  obtain ⟨c, mb, v, os, h⟩ := h
  exact ⟨h.log.c17, h.log.free 17⟩
set_option maxRecDepth 20000 in
set_option maxHeartbeats 4000000 in
theorem LS.commit (h : LS w W g d c mb v x s t os ks) (hI : Inv x s t book) (hs : t.stopped = false) (hrm : Rm t (2 * x.blocks.length + 12)) (hcm : x.commits < 1099511627776) :
    Calls Tryz.prog 42 #[ptr g] W (CmtPost w g d x t book ks) := by
  obtain ⟨p, cp, hv, hints, _, _⟩ := h.log.own.ints
  have hrow := h.log.row
  have HEn : Hid (∀ V, Below W.heap.size W V → Calls Tryz.prog 22 #[.agg (layA x.b x.l x.i), .agg #[.slice p x.blocks.length cp]] V fun e W' => e = .returned (.tuple #[.agg (blk (H.headF x.blocks)), .int .i64 0]) ∧ Below V.heap.size V W') := fun V hb => hI.encodes h hv hb
  have HLS := Hid.mk' h
  clear h hints
  subst hv
  generalize hn : x.blocks.length = n at HEn hrm
  generalize hFF : H.headF x.blocks = F at HEn
  rw [hn] at hrow HLS
  unfold ptr at *
  go_enter_defers Tryz.func42, Tryz.ntmps42
  go_upto_region 2 with fail
  go_cut [3, 4, 8] from 9 to 21 (fun s3 s4 _ wc => ∃ gB : Nat, s3 = .pointer (some ⟨gB, 0, none⟩) ∧ s4 = .int .i64 0 ∧ True ∧ W.heap.size ≤ gB ∧ wc.heap[gB]? = some (.cells (blk F) 47) ∧ Below W.heap.size W wc)
  case first =>
    refine wp_calm ?_
    refine wp_region_plan (S := fun u => Below W.heap.size W u) 17 [.inl 0, .inl 1, .inl 2, .inl 3, .inl 4, .inl 5, .inl 6, .inl 7, .inl 8, .inl 9, .inr (.inr (10, 14, 6)), .inl 11, .inl 12, .inl 13, .inr (.inl 14), .inr (.inl 15), .inl 16, .inr (.inl 10), .inl 11, .inl 12, .inl 13, .inr (.inl 15), .inl 16] (by kernel_rfl) rfl (by kernel_rfl) (fun _ _ _ _ _ h => h) (H.drew_below W) ?_
    refine wpPl_yield (v := .pointer (some ⟨g, 0, none⟩)) rfl rfl (fun u _ => by simp [execOp, Act.eval]) ?_
    simp only [Act.put, List.setIfInBounds_toArray, List.set_cons_succ, List.set_cons_zero]
    refine wpPl_yield (v := .pointer (some ⟨g, 0, none⟩)) rfl rfl (fun u _ => by go_simp) ?_
    simp only [Act.put, List.setIfInBounds_toArray, List.set_cons_succ, List.set_cons_zero]
    refine wpPl_yield (v := .pointer (some ⟨g, 3, none⟩)) rfl rfl (fun u _ => by go_simp) ?_
    simp only [Act.put, List.setIfInBounds_toArray, List.set_cons_succ, List.set_cons_zero]
    refine wpPl_yield (v := .agg (layA x.b x.l x.i)) rfl rfl (fun u hu => exec_loadLay rfl rfl (heap_kept hrow hu)) ?_
    simp only [Act.put, List.setIfInBounds_toArray, List.set_cons_succ, List.set_cons_zero]
    refine wpPl_yield (v := .pointer (some ⟨g, 0, none⟩)) rfl rfl (fun u _ => by simp [execOp, Act.eval]) ?_
    simp only [Act.put, List.setIfInBounds_toArray, List.set_cons_succ, List.set_cons_zero]
    refine wpPl_yield (v := .pointer (some ⟨g, 0, none⟩)) rfl rfl (fun u _ => by go_simp) ?_
    simp only [Act.put, List.setIfInBounds_toArray, List.set_cons_succ, List.set_cons_zero]
    refine wpPl_yield (v := .pointer (some ⟨g, 13, none⟩)) rfl rfl (fun u _ => by go_simp) ?_
    simp only [Act.put, List.setIfInBounds_toArray, List.set_cons_succ, List.set_cons_zero]
    refine wpPl_yield (v := .pointer (some ⟨g, 13, none⟩)) rfl rfl (fun u _ => by go_simp) ?_
    simp only [Act.put, List.setIfInBounds_toArray, List.set_cons_succ, List.set_cons_zero]
    refine wpPl_yield (v := .slice p n cp) rfl rfl (fun u hu => by have c13 : u.cell? ⟨g, 13, none⟩ = some (.slice p n cp) := Joins.cell_of_block (heap_kept hrow hu) 13; go_simp) ?_
    simp only [Act.put, List.setIfInBounds_toArray, List.set_cons_succ, List.set_cons_zero]
    refine wpPl_yield (v := .agg #[.slice p n cp]) rfl rfl (fun u _ => by go_simp) ?_
    simp only [Act.put, List.setIfInBounds_toArray, List.set_cons_succ, List.set_cons_zero]
    have hq := H.drew_below W
    generalize W.drew = V at *
    refine wpPl_two (r1 := [.inl 11, .inl 12, .inl 13, .inr (.inl 14), .inr (.inl 15), .inl 16]) (r2 := [.inr (.inl 10), .inl 11, .inl 12, .inl 13, .inr (.inl 15), .inl 16]) rfl rfl ?_ ?_ rfl rfl
    · refine act_call rfl 22 _ _ rfl Tryz.call22 [.agg (layA x.b x.l x.i), .agg #[.slice p n cp]] rfl ?_
      refine (HEn.out V hq).mono ?_
      rintro e' Y ⟨rfl, hbY⟩
      have hqY := below_next hq hbY
      refine ⟨_, rfl, hqY, ?_⟩
      simp only [Act.put, List.setIfInBounds_toArray, List.set_cons_succ, List.set_cons_zero]
      refine wpPl_yield (v := .tuple #[.agg (blk F), .int .i64 0]) rfl rfl (fun u _ => by simp [execOp, Act.eval]) ?_
      simp only [Act.put, List.setIfInBounds_toArray, List.set_cons_succ, List.set_cons_zero]
      refine wpPl_yield (v := .agg (blk F)) rfl rfl (fun u _ => by go_simp) ?_
      simp only [Act.put, List.setIfInBounds_toArray, List.set_cons_succ, List.set_cons_zero]
      refine wpPl_yield (v := .int .i64 0) rfl rfl (fun u _ => by go_simp) ?_
      simp only [Act.put, List.setIfInBounds_toArray, List.set_cons_succ, List.set_cons_zero]
      refine wpPl_act rfl (act_makes rfl (H.exec_allocB rfl) (hqY.alloc hqY.size _) ?_)
      simp only [Act.put, List.setIfInBounds_toArray, List.set_cons_succ, List.set_cons_zero]
      have hgA := heap_alloc_new Y (.cells (blk nought) 47)
      have hge := hqY.size
      have hqA : Below W.heap.size W (Y.alloc (.cells (blk nought) 47)) := hqY.alloc hqY.size _
      refine wpPl_act rfl (H.act_done rfl (H.exec_storeB rfl Y.heap.size F _ rfl rfl hgA) (below_setRow hqA hge _) ?_)
      simp only [Act.put]
      refine wpPl_yield (v := .int .i64 0) rfl rfl (fun u _ => by simp [execOp, Act.eval]) ?_
      simp only [Act.put, List.setIfInBounds_toArray, List.set_cons_succ, List.set_cons_zero]
      refine wpPl_done (noPanic_normal ?_)
      have hZ := setRow_heap (Y.alloc (.cells (blk nought) 47)) (Y.heap.size) (blk nought) (blk F) 47 (0, 0) hgA
      have HZ : Hid (Below W.heap.size W ((Y.alloc (.cells (blk nought) 47)).setRow (Y.heap.size) (blk F))) := below_setRow hqA hge _
      go_wp2_with fail
      go_meet
      case rel => exact ⟨_, rfl, rfl, trivial, hge, hZ, HZ.out⟩
    · refine act_makes rfl (H.exec_allocB rfl) (hq.alloc hq.size _) ?_
      simp only [Act.put, List.setIfInBounds_toArray, List.set_cons_succ, List.set_cons_zero]
      have hgA := heap_alloc_new V (.cells (blk nought) 47)
      have hge := hq.size
      have hqA : Below W.heap.size W (V.alloc (.cells (blk nought) 47)) := hq.alloc hq.size _
      refine wpPl_act rfl ?_
      refine act_call rfl 22 _ _ rfl Tryz.call22 [.agg (layA x.b x.l x.i), .agg #[.slice p n cp]] rfl ?_
      refine (HEn.out _ hqA).mono ?_
      rintro e' Y ⟨rfl, hbY⟩
      have hqY := below_next hqA hbY
      refine ⟨_, rfl, hqY, ?_⟩
      simp only [Act.put, List.setIfInBounds_toArray, List.set_cons_succ, List.set_cons_zero]
      refine wpPl_yield (v := .tuple #[.agg (blk F), .int .i64 0]) rfl rfl (fun u _ => by simp [execOp, Act.eval]) ?_
      simp only [Act.put, List.setIfInBounds_toArray, List.set_cons_succ, List.set_cons_zero]
      refine wpPl_yield (v := .agg (blk F)) rfl rfl (fun u _ => by go_simp) ?_
      simp only [Act.put, List.setIfInBounds_toArray, List.set_cons_succ, List.set_cons_zero]
      refine wpPl_yield (v := .int .i64 0) rfl rfl (fun u _ => by go_simp) ?_
      simp only [Act.put, List.setIfInBounds_toArray, List.set_cons_succ, List.set_cons_zero]
      refine wpPl_act rfl (H.act_done rfl (H.exec_storeB rfl V.heap.size F _ rfl rfl (heap_kept hgA hbY)) (below_setRow hqY hge _) ?_)
      simp only [Act.put]
      refine wpPl_yield (v := .int .i64 0) rfl rfl (fun u _ => by simp [execOp, Act.eval]) ?_
      simp only [Act.put, List.setIfInBounds_toArray, List.set_cons_succ, List.set_cons_zero]
      refine wpPl_done (noPanic_normal ?_)
      have hZ := setRow_heap Y (V.heap.size) (blk nought) (blk F) 47 (0, 0) (heap_kept hgA hbY)
      have HZ : Hid (Below W.heap.size W (Y.setRow (V.heap.size) (blk F))) := below_setRow hqY hge _
      go_wp2_with fail
      go_meet
      case rel => exact ⟨_, rfl, rfl, trivial, hge, hZ, HZ.out⟩
  case rest =>
    obtain ⟨gB, rfl, rfl, _, hge, hgB, hbc⟩ := hcut
    have hL1 := HLS.out.addNew hbc hge hgB
    subst hn
    have hrmA : Rm t (x.blocks.length + 2) := hrm.le (by omega)
    have hl256 := hI.fine.2.1
    have HA := Hid.mk' (hL1.toLog hI.c hI.fast hs hI.len hI.dats hrmA hl256)
    have HX : Hid (Rm t (2 * x.blocks.length + 12) ∧ Inv x s t book ∧ t.stopped = false ∧ x.commits < 1099511627776 ∧ H.headF x.blocks = F) := ⟨hrm, hI, hs, hcm, hFF⟩
    clear hL1 HLS HEn hrow hgB hge hbc hrmA hrm hI hs hcm hl256 hFF
    unfold ptr at HA
    change Hid (Calls _ _ _ _ fun e W' => e = .returned (.int .i64 (runE (opsA x book) t)) ∧ ∃ s', LS w W' g d c mb (.slice p x.blocks.length cp) x s' (runV (opsA x book) t) os ((gB, .cells (blk F) 47) :: ks) ∧ (runE (opsA x book) t = 0 → CInv x.b x.l s' (runV (opsA x book) t) book (inB x) ∧ (fastN s'.row : Int) = x.blocks.length)) at HA
    by_cases hA : runE (opsA x book) t = 0
    · rw [hA] at HA
      go_wp2_with (go_at_call 64; fail)
      refine HA.out.mono ?_
      rintro e W3 ⟨rfl, s1, h1, h1b⟩
      obtain ⟨hC1, hf1⟩ := h1b (by trivial)
      have hrow3 := h1.log.row
      have c1 : W3.cell? ⟨g, 1, none⟩ = some (.pointer (some ⟨d, 0, none⟩)) := h1.log.c1
      have hgB3 : BlkAt W3 gB 0 F := BlkAt.of (h1.sit.blk (List.mem_append.2 (.inr (List.mem_cons_self ..))))
      have hrmB : Rm (runV (opsA x book) t) (x.blocks.length + 10) := Rm.run (HX.out.1.le (by rw [opsA_len]; omega))
      have hlv1 := run_live _ _ HX.out.2.2.1 hA
      have hcF : Can F := by rw [← HX.out.2.2.2.2]; exact headF_can (by have := HX.out.2.1.len; have := HX.out.2.1.fine.2.1; omega)
      have hok1 := h1.sit.ok.2
      have HB := Hid.mk' ((show LogSit w W3 g d x s1 (runV (opsA x book) t) ((gB, .cells (blk F) 47) :: ks) from ⟨c, mb, _, os, h1⟩).drew.setHeader x.b x.l x.i hcF (hrmB.le (by omega)))
      have hBB : [some (1, F), none] = opsB x := by unfold opsB; rw [HX.out.2.2.2.2]
      rw [hBB] at HB
      have HC1 : Hid (CInv x.b x.l s1 (runV (opsA x book) t) book (inB x) ∧ (fastN s1.row : Int) = x.blocks.length ∧ Ok (runV (opsA x book) t) ∧ Can F ∧ (runV (opsA x book) t).stopped = false ∧ Rm (runV (opsA x book) t) (x.blocks.length + 10) ∧ [some (1, F), none] = opsB x) := ⟨hC1, hf1, hok1, hcF, hlv1, hrmB, hBB⟩
      clear hC1 hf1 h1b hlv1 hrmB hcF hok1 hBB h1 HA
      unfold ptr at HB
      obtain ⟨eT, vT⟩ := cmt_B hA
      have HT : Hid (runE (cmtOps x book) t = runE (opsB x ++ (opsC x book ++ opsD)) (runV (opsA x book) t) ∧ runV (cmtOps x book) t = runV (opsB x ++ (opsC x book ++ opsD)) (runV (opsA x book) t)) := ⟨eT, vT⟩
      clear eT vT hA
      generalize runV (opsA x book) t = t1 at *
      go_wp2
      go_still_tail 9, (by kernel_rfl)
      refine wpStill_loadLay rfl (.tmp 34) rfl rfl hrow3 ?_
      repeat still_step
      refine wpStill_loadM rfl (.tmp 3) rfl gB 0 rfl F hgB3 ?_
      repeat still_step
      refine wpStill_nil ?_
      change wpList _ _ _ _ _ (World.drew _)
      clear hrow3 hgB3 c1
      by_cases hB : runE (opsB x) t1 = 0
      · rw [hB] at HB
        go_wp2_with (go_at_call 65; fail)
        refine HB.out.mono ?_
        rintro e W4 ⟨rfl, h4⟩
        obtain ⟨c4, mb4, v4, os4, h4'⟩ := h4
        obtain ⟨hC1, hf1, hok1, hcF, hlv1, hrmB, hBB⟩ := HC1.out
        have hC2 : CInv x.b x.l s1 (runV (opsB x) t1) book (inB x) := by
          rw [← hBB]
          exact head_same hC1 hok1 hcF (by rw [hBB]; exact hB) HX.out.2.1.fine.1
        have hlv2 := run_live _ _ hlv1 hB
        have hrmC : Rm (runV (opsB x) t1) (x.blocks.length + 8) := Rm.run (hrmB.le (by show x.blocks.length + 8 + 2 ≤ _; omega))
        have HCc := Hid.mk' (h4'.toPlaces hC2 hf1 hlv2 HX.out.2.1.nd HX.out.2.1.dats (hrmC.le (by omega)) (by have := HX.out.2.1.len; have := HX.out.2.1.fine.2.1; omega))
        obtain ⟨eB, vB⟩ := run_on (b := opsC x book ++ opsD) hB
        have HT2 : Hid (runE (cmtOps x book) t = runE (opsC x book ++ opsD) (runV (opsB x) t1) ∧ runV (cmtOps x book) t = runV (opsC x book ++ opsD) (runV (opsB x) t1) ∧ (runV (opsB x) t1).stopped = false ∧ Rm (runV (opsB x) t1) (x.blocks.length + 8)) := ⟨HT.out.1.trans eB, HT.out.2.trans vB, hlv2, hrmC⟩
        clear h4' HB hC1 hf1 hok1 hcF hlv1 hrmB hBB hC2 hlv2 hrmC eB vB HT HC1 hB
        unfold ptr at HCc
        change Hid (Calls _ _ _ _ fun e W' => e = .returned (.int .i64 (runE (opsC x book) (runV (opsB x) t1))) ∧ ∃ s', LS w W' g d c4 mb4 v4 x s' (runV (opsC x book) (runV (opsB x) t1)) os4 ((gB, .cells (blk F) 47) :: ks) ∧ (runE (opsC x book) (runV (opsB x) t1) = 0 → CInv x.b x.l s' (runV (opsC x book) (runV (opsB x) t1)) book (fun _ => false) ∧ (fastN s'.row : Int) = 0)) at HCc
        generalize runV (opsB x) t1 = t2 at *
        by_cases hC : runE (opsC x book) t2 = 0
        · rw [hC] at HCc
          go_wp2_with (go_at_call 66; fail)
          refine HCc.out.mono ?_
          rintro e W5 ⟨rfl, s5, h5, h5b⟩
          obtain ⟨hC5, hf5⟩ := h5b (by trivial)
          have hrow5 := h5.log.row
          have c1 : W5.cell? ⟨g, 1, none⟩ = some (.pointer (some ⟨d, 0, none⟩)) := h5.log.c1
          have hlv5 := run_live _ _ HT2.out.2.2.1 hC
          have hrmD : Rm (runV (opsC x book) t2) 6 := Rm.run (HT2.out.2.2.2.le (by rw [opsC_len]; omega))
          have hok5 := h5.sit.ok.2
          have HD := Hid.mk' ((show LogSit w W5 g d x s5 (runV (opsC x book) t2) ((gB, .cells (blk F) 47) :: ks) from ⟨c4, mb4, v4, os4, h5⟩).drew.setHeader x.b x.l x.i can_nought (hrmD.le (by omega)))
          unfold ptr at HD
          obtain ⟨eC, vC⟩ := run_on (b := opsD) hC
          have HT3 : Hid (runE (cmtOps x book) t = runE opsD (runV (opsC x book) t2) ∧ runV (cmtOps x book) t = runV opsD (runV (opsC x book) t2) ∧ CInv x.b x.l s5 (runV (opsC x book) t2) book (fun _ => false) ∧ (fastN s5.row : Int) = 0 ∧ Ok (runV (opsC x book) t2)) := ⟨HT2.out.1.trans eC, HT2.out.2.1.trans vC, hC5, hf5, hok5⟩
          clear h5 h5b hC5 hf5 hlv5 hrmD hok5 HCc eC vC HT2 hC
          change Hid (Calls _ _ _ _ fun e W' => e = .returned (.int .i64 (runE opsD (runV (opsC x book) t2))) ∧ LogSit w W' g d x s5 (runV opsD (runV (opsC x book) t2)) ((gB, .cells (blk F) 47) :: ks)) at HD
          generalize runV (opsC x book) t2 = t3 at *
          go_wp2
          go_still_tail 9, (by kernel_rfl)
          refine wpStill_loadLay rfl (.tmp 50) rfl rfl hrow5 ?_
          refine wpStill_buildB rfl rfl ?_
          repeat still_step
          refine wpStill_nil ?_
          change wpList _ _ _ _ _ (World.drew _)
          clear hrow5 c1
          by_cases hD : runE opsD t3 = 0
          · rw [hD] at HD
            go_wp2_with (go_at_call 65; fail)
            refine HD.out.mono ?_
            rintro e W6 ⟨rfl, h6⟩
            obtain ⟨c17, f17⟩ := h6.c17
            have H6 := Hid.mk' h6
            clear h6 HD
            have hcm1 : 0 ≤ x.commits ∧ x.commits ≤ 1099511627776 := HX.out.2.1.commits
            go_wp2
            have h7 := H6.out.setCommits (x.commits + 1)
            obtain ⟨hT1, hT2, hC5, hf5, hok5⟩ := HT3.out
            have hF : CmtPost w g d x t book ks (.returned (.int .i64 0)) (forgotW (W6.setCell ⟨g, 17, none⟩ (.int .i64 (x.commits + 1))) g) := cmt_fine HX.out.2.1 h7 (fun q hq => List.mem_cons_of_mem _ hq) (hT1.trans hD) hT2 (head_same hC5 hok5 can_nought hD HX.out.2.1.fine.1) hf5 HX.out.2.2.2.1
            obtain ⟨c7, mb7, v7, os7, h7'⟩ := h7
            have hrow7 := h7'.log.row
            refine leaves_cons (f := 63) (args := #[.pointer (some ⟨g, 13, none⟩)]) (by simp) (by simp [go_sem]) ?_
            refine (forget_rawD hrow7 rfl .returning).mono ?_
            rintro e u' w'' ⟨rfl, rfl, rfl⟩
            refine ⟨_, results_tmp rfl _ _ _, ?_⟩
            exact hF
          · generalize hED : runE opsD t3 = ED at *
            go_wp2_with (go_at_call 65; fail)
            refine HD.out.mono ?_
            rintro e W6 ⟨rfl, h6⟩
            obtain ⟨c6, mb6, v6, os6, h6'⟩ := h6
            have hrow6 := Hid.mk' h6'.log.row
            have H6 := Hid.mk' h6'
            clear h6' HD
            go_wp2
            have hF : CmtPost w g d x t book ks (.returned (.int .i64 ED)) (forgotW W6 g) := cmt_bad ⟨c6, mb6, v6, os6, H6.out⟩ (fun q hq => List.mem_cons_of_mem _ hq) rfl HT3.out.1 HT3.out.2.1 hD
            refine leaves_cons (f := 63) (args := #[.pointer (some ⟨g, 13, none⟩)]) (by simp) (by simp [go_sem]) ?_
            refine (forget_rawD hrow6.out rfl .returning).mono ?_
            rintro e u' w'' ⟨rfl, rfl, rfl⟩
            refine ⟨_, results_tmp rfl _ _ _, ?_⟩
            exact hF
        · generalize hEC : runE (opsC x book) t2 = EC at *
          go_wp2_with (go_at_call 66; fail)
          refine HCc.out.mono ?_
          rintro e W5 ⟨rfl, s5, h5, _⟩
          have hrow5 := Hid.mk' h5.log.row
          have H5 := Hid.mk' h5
          clear h5 HCc
          go_wp2
          have hF : CmtPost w g d x t book ks (.returned (.int .i64 EC)) (forgotW W5 g) := cmt_bad ⟨c4, mb4, v4, os4, H5.out⟩ (fun q hq => List.mem_cons_of_mem _ hq) rfl (by rw [HT2.out.1, (run_ended (by rw [hEC]; exact hC)).1, hEC]) (by rw [HT2.out.2.1, (run_ended (by rw [hEC]; exact hC)).2]) hC
          refine leaves_cons (f := 63) (args := #[.pointer (some ⟨g, 13, none⟩)]) (by simp) (by simp [go_sem]) ?_
          refine (forget_rawD hrow5.out rfl .returning).mono ?_
          rintro e u' w'' ⟨rfl, rfl, rfl⟩
          refine ⟨_, results_tmp rfl _ _ _, ?_⟩
          exact hF
      · generalize hEB : runE (opsB x) t1 = EB at *
        go_wp2_with (go_at_call 65; fail)
        refine HB.out.mono ?_
        rintro e W4 ⟨rfl, h4⟩
        obtain ⟨c4, mb4, v4, os4, h4'⟩ := h4
        have hrow4 := Hid.mk' h4'.log.row
        have H4 := Hid.mk' h4'
        clear h4' HB
        go_wp2
        have hF : CmtPost w g d x t book ks (.returned (.int .i64 EB)) (forgotW W4 g) := cmt_bad ⟨c4, mb4, v4, os4, H4.out⟩ (fun q hq => List.mem_cons_of_mem _ hq) rfl (by rw [HT.out.1, (run_ended (by rw [hEB]; exact hB)).1, hEB]) (by rw [HT.out.2, (run_ended (by rw [hEB]; exact hB)).2]) hB
        refine leaves_cons (f := 63) (args := #[.pointer (some ⟨g, 13, none⟩)]) (by simp) (by simp [go_sem]) ?_
        refine (forget_rawD hrow4.out rfl .returning).mono ?_
        rintro e u' w'' ⟨rfl, rfl, rfl⟩
        refine ⟨_, results_tmp rfl _ _ _, ?_⟩
        exact hF
    · generalize hEA : runE (opsA x book) t = EA at *
      go_wp2_with (go_at_call 64; fail)
      refine HA.out.mono ?_
      rintro e W3 ⟨rfl, s1, h1, _⟩
      have hrow3 := Hid.mk' h1.log.row
      have H1 := Hid.mk' h1
      clear h1 HA
      go_wp2
      have hF : CmtPost w g d x t book ks (.returned (.int .i64 EA)) (forgotW W3 g) := cmt_bad ⟨c, mb, _, os, H1.out⟩ (fun q hq => List.mem_cons_of_mem _ hq) rfl (by rw [(cmt_A (by rw [hEA]; exact hA)).1, hEA]) (cmt_A (by rw [hEA]; exact hA)).2 hA
      refine leaves_cons (f := 63) (args := #[.pointer (some ⟨g, 13, none⟩)]) (by simp) (by simp [go_sem]) ?_
      refine (forget_rawD hrow3.out rfl .returning).mono ?_
      rintro e u' w'' ⟨rfl, rfl, rfl⟩
      refine ⟨_, results_tmp rfl _ _ _, ?_⟩
      exact hF
end Go.Proofs.YtiadlcjdpbkbkaaGreatD
/- Sync and Begin; no condition but that numbers do not pass their greatest. -/
namespace Go.Proofs.YtiadlcjdpbkbkaaGreatD
open Go.RowKit Go.Maps
variable {w W : World} {g d c mb : Nat} {v : Value} {x : LSt} {s : CSt} {t : St} {os ks : List (Nat × Obj)} {base : Nat} {book : Int → Nat → Int}
theorem LS.refuses2 (h : LS w W g d c mb v x s t os ks) (o : Bool) : Calls Tryz.prog 40 #[ptr g, .bool o] W fun e W' => e = .returned (.int .i64 (refL x t o)) ∧ LS w W' g d c mb v x s t os ks := by
  refine (h.refuses o).mono ?_
  rintro e W' ⟨rfl, m, rfl⟩
  exact ⟨rfl, h.later (below_drewN _ m)⟩
theorem syncL_ref (h : LogSit w W g d x s t ks) {e0 : Int} (hr : refL x t false = e0) (h0 : e0 ≠ 0) : Calls Tryz.prog 191 #[ptr g] W fun e W' => e = .returned (.int .i64 e0) ∧ LogSit w W' g d x s t ks := by
  obtain ⟨c, mb, v, os, h⟩ := h
  have hc := h.refuses2 false
  rw [hr] at hc
  clear h hr
  unfold ptr at *
  go_enter Tryz.func191, Tryz.ntmps191
  go_wp2_with (first | (go_at_call 40; refine hc.mono ?_; rintro e W1 ⟨rfl, h1⟩))
  go_ret
  exact ⟨rfl, c, mb, v, os, h1⟩
theorem LogI.syncNone (h : LogI w W g d x t book ks) (hr : refL x t false = 0) (hb : x.blocks = []) : Calls Tryz.prog 191 #[ptr g] W fun e W' => e = .returned (.int .i64 0) ∧ LogI w W' g d x t book ks := by
  obtain ⟨s, ⟨c, mb, v, os, h⟩, hI⟩ := h
  have hc : Calls Tryz.prog 40 #[ptr g, .bool false] W fun e W' => e = .returned (.int .i64 0) ∧ (∃ p cp, W'.cell? ⟨g, 13, none⟩ = some (.slice p 0 cp)) ∧ Hid (LogI w W' g d x t book ks) := by
    refine (h.refuses2 false).mono ?_
    rintro e W' ⟨rfl, h1⟩
    obtain ⟨p, cp, hv, _⟩ := h1.log.own.ints
    rw [hb] at hv
    refine ⟨by rw [hr], ⟨p, cp, ?_⟩, s, ⟨c, mb, v, os, h1⟩, hI⟩
    rw [h1.log.c13, hv]
    rfl
  clear h hr hI
  unfold ptr at *
  go_enter Tryz.func191, Tryz.ntmps191
  go_wp2_with (first | (go_at_call 40; refine hc.mono ?_; rintro e W1 ⟨rfl, ⟨p, cp, c13⟩, h1⟩))
  go_ret
  exact ⟨rfl, h1.out⟩
theorem LogI.sync (h : LogI w W g d x t book ks) (hr : refL x t false = 0) (hb : x.blocks ≠ []) (hrm : Rm t (2 * x.blocks.length + 12)) (hcm : x.commits < 1099511627776) : Calls Tryz.prog 191 #[ptr g] W (CmtPost w g d x t book ks) := by
  obtain ⟨s, ⟨c, mb, v, os, h⟩, hI⟩ := h
  have hlen : 0 < x.blocks.length := List.length_pos_iff.2 hb
  have hle := hI.len
  have hl2 := hI.fine.2.1
  have hc : Calls Tryz.prog 40 #[ptr g, .bool false] W fun e W' => e = .returned (.int .i64 0) ∧ (∃ p cp, W'.cell? ⟨g, 13, none⟩ = some (.slice p x.blocks.length cp)) ∧ Hid (Calls Tryz.prog 42 #[ptr g] W' (CmtPost w g d x t book ks)) := by
    refine (h.refuses2 false).mono ?_
    rintro e W' ⟨rfl, h1⟩
    obtain ⟨p, cp, hv, _⟩ := h1.log.own.ints
    refine ⟨by rw [hr], ⟨p, cp, ?_⟩, h1.commit hI (claimed_live (refL_live hr).1) hrm hcm⟩
    rw [h1.log.c13, hv]
  clear h hr hI hrm
  unfold ptr at *
  generalize x.blocks.length = n at *
  have hn0 : ¬ (n : Int) = 0 := by omega
  go_enter Tryz.func191, Tryz.ntmps191
  go_wp2_with (first | (go_at_call 40; refine hc.mono ?_; rintro e W1 ⟨rfl, ⟨p, cp, c13⟩, h1⟩) | (go_at_call 42; fail))
  refine h1.out.mono ?_
  rintro e W2 h2
  have H2 := Hid.mk' h2
  obtain ⟨rfl, _⟩ := h2
  go_wp2
  go_ret
  exact H2.out
theorem beginL_ref (h : LogSit w W g d x s t ks) {e0 r : Int} (hr : refL x t false = e0) (h0 : e0 ≠ 0) : Calls Tryz.prog 16 #[ptr g, .int .i64 r] W fun e W' => e = .returned (.int .i64 e0) ∧ LogSit w W' g d x s t ks := by
  obtain ⟨c, mb, v, os, h⟩ := h
  have hc := h.refuses2 false
  rw [hr] at hc
  clear h hr
  unfold ptr at *
  go_enter Tryz.func16, Tryz.ntmps16
  go_wp2_with (first | (go_at_call 40; refine hc.mono ?_; rintro e W1 ⟨rfl, h1⟩))
  go_ret
  exact ⟨rfl, c, mb, v, os, h1⟩
theorem beginL_arg (h : LogSit w W g d x s t ks) {r : Int} (hr : refL x t false = 0) (hl : 32 ≤ x.l ∧ x.l ≤ 256) (ha : r < 1 ∨ x.l - 1 < r) : Calls Tryz.prog 16 #[ptr g, .int .i64 r] W fun e W' => e = .returned (.int .i64 2) ∧ LogSit w W' g d x s t ks := by
  obtain ⟨c, mb, v, os, h⟩ := h
  have hc : Calls Tryz.prog 40 #[ptr g, .bool false] W fun e W' => e = .returned (.int .i64 0) ∧ Calls Tryz.prog 41 #[ptr g] W' (fun e W'' => e = .returned (.int .i64 (x.l - 1)) ∧ W'' = W') ∧ Hid (LogSit w W' g d x s t ks) := by
    refine (h.refuses2 false).mono ?_
    rintro e W' ⟨rfl, h1⟩
    exact ⟨by rw [hr], h1.most hl, c, mb, v, os, h1⟩
  clear h hr
  unfold ptr at *
  generalize hm : x.l - 1 = m at *
  by_cases h1 : r < 1
  · go_enter Tryz.func16, Tryz.ntmps16
    go_wp2_with (first | (go_at_call 40; refine hc.mono ?_; rintro e W1 ⟨rfl, hmo, h1⟩))
    go_ret
    exact ⟨rfl, h1.out⟩
  · have h2 : m < r := by omega
    go_enter Tryz.func16, Tryz.ntmps16
    go_wp2_with (first | (go_at_call 40; refine hc.mono ?_; rintro e W1 ⟨rfl, hmo, h1⟩) | (go_at_call 41; refine hmo.mono ?_; rintro e W2 ⟨rfl, rfl⟩))
    go_ret
    exact ⟨rfl, h1.out⟩
/-- What is ready behind Begin's first questions. -/
structure Bg1 (W' : World) (g : Nat) (m : Int) (n : Nat) : Prop where
  sl : ∃ p cp, W'.cell? ⟨g, 13, none⟩ = some (.slice p n cp)
  most : ∀ k, Calls Tryz.prog 41 #[.pointer (some ⟨g, 0, none⟩)] (W'.drewN k) fun e W'' => e = .returned (.int .i64 m) ∧ W'' = W'.drewN k
  m0 : Calls Tryz.prog 41 #[.pointer (some ⟨g, 0, none⟩)] W' fun e W'' => e = .returned (.int .i64 m) ∧ W'' = W'
theorem LS.bg1 (h : LS w W g d c mb v x s t os ks) (hl : 32 ≤ x.l ∧ x.l ≤ 256) : Bg1 W g (x.l - 1) x.blocks.length := by
  obtain ⟨p, cp, hv, _⟩ := h.log.own.ints
  exact ⟨⟨p, cp, by rw [h.log.c13, hv]⟩, fun k => (h.later (below_drewN W k)).most hl, h.most hl⟩
theorem LogSit.c1516 (h : LogSit w W g d x s t ks) : W.cell? ⟨g, 15, none⟩ = some (.bool x.opn) ∧ W.frozen? ⟨g, 15, none⟩ = false ∧ W.cell? ⟨g, 16, none⟩ = some (.int .i64 x.room) ∧ W.frozen? ⟨g, 16, none⟩ = false := by
  obtain ⟨c, mb, v, os, h⟩ := h
  exact ⟨h.log.c15, h.log.free 15, h.log.c16, h.log.free 16⟩
theorem LogI.opened (h : LogI w W g d x t book ks) {r : Int} (hr : 1 ≤ r ∧ (x.blocks.length : Int) + r ≤ x.l - 1) : LogI w ((W.setCell ⟨g, 15, none⟩ (.bool true)).setCell ⟨g, 16, none⟩ (.int .i64 r)) g d { x with opn := true, room := r } t book ks := by
  obtain ⟨s, h1, hI⟩ := h
  refine ⟨s, (h1.setOpn true).setRoom r, hI.fine, hI.c, hI.nd, hI.rng, hI.fast, hI.last, hI.len, hI.steps, hI.commits, ⟨by show 0 ≤ r; omega, ?_⟩, fun _ => hr.2⟩
  have := hI.fine.2.1
  show r ≤ 256
  omega
set_option maxHeartbeats 800000 in
theorem LogI.begin (h : LogI w W g d x t book ks) {r : Int} (hr : refL x t false = 0) (hr1 : 1 ≤ r) (hr2 : (x.blocks.length : Int) + r ≤ x.l - 1) : Calls Tryz.prog 16 #[ptr g, .int .i64 r] W fun e W' => e = .returned (.int .i64 0) ∧ LogI w W' g d { x with opn := true, room := r } t book ks := by
  obtain ⟨s, ⟨c, mb, v, os, h⟩, hI⟩ := h
  have hl : 32 ≤ x.l ∧ x.l ≤ 256 := ⟨hI.fine.1, hI.fine.2.1⟩
  have hc : Calls Tryz.prog 40 #[ptr g, .bool false] W fun e W' => e = .returned (.int .i64 0) ∧ Bg1 W' g (x.l - 1) x.blocks.length ∧ Hid (LogI w W' g d x t book ks) := by
    refine (h.refuses2 false).mono ?_
    rintro e W' ⟨rfl, h1⟩
    exact ⟨by rw [hr], h1.bg1 hl, s, ⟨c, mb, v, os, h1⟩, hI⟩
  have HO : Hid (∀ W', LogI w W' g d x t book ks → LogI w ((W'.setCell ⟨g, 15, none⟩ (.bool true)).setCell ⟨g, 16, none⟩ (.int .i64 r)) g d { x with opn := true, room := r } t book ks) := fun W' h1 => h1.opened ⟨hr1, hr2⟩
  clear h hr hI
  unfold ptr at *
  generalize hm : x.l - 1 = m at *
  generalize hn : x.blocks.length = n at *
  have hn2 : n ≤ 256 := by omega
  have h1 : ¬ r < 1 := by omega
  have h2 : ¬ m < r := by omega
  have h3 : ¬ m < (n : Int) + r := by omega
  go_enter Tryz.func16, Tryz.ntmps16
  go_wp2_with (go_at_call 40; fail)
  refine hc.mono ?_
  rintro e W1 ⟨rfl, ⟨⟨p, cp, c13⟩, hmo, hm0⟩, H1⟩
  go_wp2_with (first | (go_at_call 41; refine hm0.mono ?_; rintro e W2 ⟨rfl, rfl⟩))
  go_quiet (first | (go_at_call 41; refine Calls.quiet_of_same (hmo _)))
  have H2 := Hid.mk' (H1.out.later (below_drewN _ nq))
  clear hmo hm0 H1 c13 hc
  generalize W2.drewN nq = W3 at H2 ⊢
  obtain ⟨s, h4, _⟩ := H2.out
  obtain ⟨c15, f15, c16, f16⟩ := h4.c1516
  clear h4
  go_wp2
  go_ret
  exact ⟨rfl, HO.out W3 H2.out⟩
end Go.Proofs.YtiadlcjdpbkbkaaGreatD
/- What the header on a disk names; no condition but that the layout is one, and numbers do not pass their greatest. -/
namespace Go.Proofs.YtiadlcjdpbkbkaaGreatD
open Go.RowKit Go.Maps
variable {w W : World} {g d c mb : Nat} {v : Value} {x : LSt} {s : CSt} {t : St} {os ks : List (Nat × Obj)} {base : Nat} {book : Int → Nat → Int}
theorem committed_none {v : Value} {L : Array Value} (h : NoneAt W v) : Calls Tryz.prog 73 #[v, .agg L] W fun e W' => e = .returned (.tuple #[.slice none 0 0, .int .i64 1]) ∧ Below W.heap.size W W' := by
  have h0 : Calls Tryz.prog 56 #[v] (W.alloc (.cells L 43)) fun e W' => e = .returned (.int .i64 0) ∧ W' = W.alloc (.cells L 43) := len_none (h.later (below_new _ _))
  have hb := below_new W (.cells L 43)
  go_enter Tryz.func73, Tryz.ntmps73
  go_wp2_with (first | (go_at_call 56; refine h0.mono ?_; rintro e W1 ⟨rfl, rfl⟩))
  go_ret2
  exact ⟨rfl, hb⟩
theorem newL_none {v : Value} {L : Array Value} (hL : L.size = 9) (h : NoneAt W v) : Calls Tryz.prog 58 #[v, .agg L] W fun e W' => e = .returned (.tuple #[nilp, .int .i64 1]) ∧ Below W.heap.size W W' := by
  have hb := below_new W (.cells L 43)
  have h0 : Calls Tryz.prog 73 #[v, .agg L] (W.alloc (.cells L 43)) fun e W' => e = .returned (.tuple #[.slice none 0 0, .int .i64 1]) ∧ Below (W.alloc (.cells L 43)).heap.size (W.alloc (.cells L 43)) W' := committed_none (h.later hb)
  have hLw := heap_alloc_new W (.cells L 43)
  have HB := Hid.mk' hb
  clear h hb
  unfold nilp
  go_enter Tryz.func58, Tryz.ntmps58
  go_wp2_with (first | refine wpList_load_row rfl 43 (.tmp 3) rfl W.heap.size rfl 43 L (0, 0) _ hLw Tryz.underlying43 rfl (by rw [hL]; exact H.size25L) ?_ | (go_at_call 73; refine h0.mono ?_; rintro e W1 ⟨rfl, h1⟩))
  go_ret2
  exact ⟨rfl, below_next HB.out h1⟩
theorem lay_fine {b l i : Int} (hf : H.Fine b l i) : H.standsB b l i 1 (1 + l) (H.nodeB i) (H.bitsAt l i) (H.bitsB b) (H.dataAt b l i) = true := decide_eq_true ⟨hf, rfl, rfl, rfl, rfl, rfl, rfl⟩
theorem fine_i64 {b l i : Int} (hf : H.Fine b l i) : H.I64 b := by
  have := H.Fine.pos hf
  have := hf.2.2.2.2.1
  unfold H.I64
  omega
def tgT (b l : Int) (t : St) : List Int := H.decL (1 + l) b (l - 1) (curV t 1)
def tgE (b l : Int) (t : St) : Int := H.decN (1 + l) b (l - 1) (curV t 1)
theorem sits_len2 (h : Sits w W d t ks) : Calls Tryz.prog 56 #[.pointer (some ⟨d, 0, none⟩)] W fun e W' => e = .returned (.int .i64 t.n) ∧ W' = W := by
  obtain ⟨L, rfl, hS⟩ := h
  exact len_of hS.disk
set_option maxRecDepth 20000 in
set_option maxHeartbeats 1600000 in
theorem committed_ok {b l i : Int} (h : Sits w W d t ks) (hf : H.Fine b l i) (hn : b ≤ t.n) (hs : t.stopped = false) (hr : Room t) : Calls Tryz.prog 73 #[ptr d, .agg (layA b l i)] W fun e W' => ∃ p, e = .returned (.tuple #[.slice p (tgT b l t).length (tgT b l t).length, .int .i64 (tgE b l t)]) ∧ H.IntsAt W' p (tgT b l t) ∧ Sits w W' d (readS t) ks := by
  have hA := h.add (.cells (layA b l i) 43)
  have hrow := heap_alloc_new W (.cells (layA b l i) 43)
  have hsz : (layA b l i).size = 9 := rfl
  have hlen := sits_len2 hA
  have hpos := H.Fine.pos hf
  have hnn : ¬ t.n = 0 := by omega
  have hbn : ¬ t.n < b := by omega
  have hok := h.ok
  have HE : Hid (∀ V, Calls Tryz.prog 22 #[.agg (layA b l i), .agg #[.slice none 0 0]] V fun e W' => e = .returned (.tuple #[.agg (blk (H.headF [])), .int .i64 0]) ∧ Below V.heap.size V W') := fun V =>
    H.enc_ok b l i 1 (1 + l) (H.nodeB i) (H.bitsAt l i) (H.bitsB b) (H.dataAt b l i) [] none 0 V (fine_i64 hf) (lay_fine hf) ⟨hf.1, hf.2.1⟩ (fun q => by simp at q) (fun q hq => by simp at hq) (by simp) (decide_eq_true ⟨by have := hf.1; simp; omega, fun q hq => by simp at hq, List.nodup_nil⟩)
  have hcan := curV_can hok 1
  have HD : Hid (∀ V, Calls Tryz.prog 93 #[.agg (layA b l i), .agg (blk (curV t 1))] V fun e' w' => ∃ p, e' = .returned (.tuple #[.agg #[.slice p (tgT b l t).length (tgT b l t).length], .int .i64 (tgE b l t)]) ∧ (p = none ∧ tgT b l t = [] ∨ ∃ q, p = some ⟨q, 0, none⟩ ∧ V.heap.size ≤ q ∧ w'.heap[q]? = some (.cells (H.listRow (tgT b l t)) 3)) ∧ Below V.heap.size V w') := fun V =>
    H.dec_all b l i 1 (1 + l) (H.nodeB i) (H.bitsAt l i) (H.bitsB b) (H.dataAt b l i) (curV t 1) V (fine_i64 hf) (lay_fine hf) ⟨hf.1, hf.2.1⟩ hcan.1
  have href : refV t 1 = 0 := by unfold refV; rw [hs, if_neg (by simp), if_pos ⟨by omega, by omega⟩]
  have HR : Hid (∀ V, Below (W.alloc (.cells (layA b l i) 43)).heap.size (W.alloc (.cells (layA b l i) 43)) V → V.heap[W.heap.size]? = some (.cells (layA b l i) 43) ∧ V.cell? ⟨W.heap.size, 0, none⟩ = some (.int .i64 b) ∧ V.cell? ⟨W.heap.size, 3, none⟩ = some (.int .i64 1) ∧ (∀ k, Calls Tryz.prog 56 #[.pointer (some ⟨d, 0, none⟩)] (V.drewN k) fun e W' => e = .returned (.int .i64 t.n) ∧ W' = V.drewN k) ∧ Hid (∀ k, Calls Tryz.prog 24 #[.pointer (some ⟨d, 0, none⟩), .int .i64 1] (V.drewN k) fun e W' => e = .returned (.tuple #[.agg (blk (curV t 1)), .int .i64 0]) ∧ Sits w W' d (readS t) ((W.heap.size, .cells (layA b l i) 43) :: ks))) := fun V hb => by
    have h1 := hA.later hb
    have h2 := heap_kept hrow hb
    refine ⟨h2, Joins.cell_of_block h2 0, Joins.cell_of_block h2 3, fun k => sits_len2 (h1.later (below_drewN _ k)), fun k => ?_⟩
    have h3 := sits_read (h1.later (below_drewN _ k)) hr 1
    unfold readB readV at h3
    rw [href, if_pos rfl, if_pos rfl] at h3
    exact h3
  have HB0 := Hid.mk' (below_new W (.cells (layA b l i) 43))
  clear h hA hf hn hs hr hok hcan href hpos
  unfold ptr at *
  generalize layA b l i = L at *
  generalize curV t 1 = Fc at *
  generalize hTL : tgT b l t = T at *
  generalize tgE b l t = E at *
  have z25 := zero25
  go_enter Tryz.func73, Tryz.ntmps73
  go_wp2_with (first | (go_at_call 56; refine hlen.mono ?_; rintro e W1 ⟨rfl, rfl⟩) | refine wpList_load_row rfl 43 (.tmp 3) rfl W.heap.size rfl 43 L (0, 0) _ hrow Tryz.underlying43 rfl (by rw [hsz]; exact H.size25L) ?_ | (go_at_call 22; fail))
  refine (HE.out _).mono ?_
  rintro e W1 ⟨rfl, hb1⟩
  obtain ⟨hrow2, c0, c3, hlen2, hrd⟩ := HR.out _ (below_next hb1 (below_new W1 (.cells (blk (H.headF [])) 47)))
  have HB1 := Hid.mk' (below_next (below_next HB0.out hb1) (below_new W1 (.cells (blk (H.headF [])) 47)))
  clear hb1 hlen HE HR hrow HB0
  go_wp2_with (first | refine wpList_store25_new rfl (.tmp 6) (.tmp 18) rfl (H.headF []) _ rfl rfl ?_)
  generalize W1.alloc (.cells (blk (H.headF [])) 47) = W2 at *
  go_quiet (first | (go_at_call 56; refine Calls.quiet_of_same (hlen2 _)))
  have hrd2 := hrd.out nq
  have hrow3 : (W2.drewN nq).heap[W.heap.size]? = some (.cells L 43) := hrow2
  clear hlen2 hrd hrow2
  go_wp2_with (go_at_call 24; fail)
  refine hrd2.mono ?_
  rintro e W3 ⟨rfl, h3⟩
  have H3 := Hid.mk' (h3.add (.cells (blk Fc) 47))
  have hrow4 := H3.out.blk (List.mem_cons_of_mem _ (List.mem_cons_self ..))
  have hblk4 := H3.out.blk (List.mem_cons_self ..)
  clear hrd2 h3 hrow3 c0 c3
  go_wp2_with (first | refine wpList_store25_new rfl (.tmp 8) (.tmp 35) rfl Fc _ rfl rfl ?_ | refine wpList_load_row rfl 43 (.tmp 3) rfl W.heap.size rfl 43 L (0, 0) _ hrow4 Tryz.underlying43 rfl (by rw [hsz]; exact H.size25L) ?_ | refine wpList_load25 rfl (.tmp 8) rfl W3.heap.size rfl Fc hblk4 ?_ | (go_at_call 93; fail))
  refine (HD.out _).mono ?_
  rintro e W4 ⟨p, rfl, hp, hb4⟩
  have H4 := Hid.mk' (H3.out.later hb4)
  have hI4 := H.dec_ints hp
  have HI := Hid.mk' hI4
  clear hp hb4 hI4 H3 hrow4 hblk4 HD hTL
  go_wp2
  go_ret2
  exact ⟨p, rfl, HI.out.later (below_new _ _), (H4.out.later (below_new _ _)).drop fun q hq => List.mem_cons_of_mem _ (List.mem_cons_of_mem _ hq)⟩
theorem newLog {V : World} {g mb : Nat} {x : LSt} (h : Sit w W c d s t ks) (hb : Below W.heap.size W V) (hg : W.heap.size ≤ g) (hm : W.heap.size ≤ mb) (hrow : V.heap[g]? = some (.cells (lgRow g d c mb (.slice none 0 0) x) 85)) (hmap : MapIs Tryz.prog 3 V mb (lastM x)) (hx : x.blocks = []) : LogSit w V g d x s t ks := by
  have hbase := h.below.size
  obtain ⟨es, cl, hmo⟩ := hmap.isMap
  refine ⟨c, mb, .slice none 0 0, [(g, .cells (lgRow g d c mb (.slice none 0 0) x) 85), (mb, .map es cl)], h.turn (T := fun _ => False) (Fr.ofBelow hb) (fun _ q => q.elim) fun p hp => ?_, ⟨hrow, hmap, by rw [hx]; exact H.OwnZ.nil _ _⟩, fun k hk => ?_, fun p hp => ?_⟩
  · rcases List.mem_append.1 hp with hp | hp
    · simp only [List.mem_cons, List.not_mem_nil, or_false] at hp
      rcases hp with rfl | rfl
      · exact ⟨hrow, .inr hg⟩
      · exact ⟨hmo, .inr hm⟩
    · exact ⟨heap_kept (h.blk hp) hb, .inl ⟨p.2, hp⟩⟩
  · rcases hk with rfl | rfl | hk
    · exact ⟨by omega, _, List.mem_cons_self ..⟩
    · exact ⟨by omega, _, List.mem_cons_of_mem _ (List.mem_cons_self ..)⟩
    · cases hk
  · have := (Array.getElem?_eq_some_iff.1 (h.blk hp)).1
    rintro (q | q | q)
    · omega
    · omega
    · cases q
theorem sit_claim (h : Sit w W c d s t ks) (hr : Room t) : Calls Tryz.prog 51 #[ptr d] W fun e W' => e = .returned (.int .i64 (claimN t)) ∧ Sit w W' c d s (claimV t) ks := by
  obtain ⟨K, L, rfl, rfl, h⟩ := h
  refine (claim_of h.cd.disk hr).mono ?_
  rintro e W' ⟨rfl, h2, h3⟩
  obtain ⟨a1, a2⟩ := h.cd.disks h2 h3
  exact ⟨rfl, Sit.goes rfl rfl h a1 a2⟩
def newX (b l i cl : Int) : LSt := ⟨b, l, i, cl, [], fun _ => none, false, 0, 0, 0⟩
theorem exec_box48 {a : Act} {o : Oper} {u : World} {y : Operand} {cs : Array Value} (ho : o.op = .box 85 y) (hx : a.eval y = .agg cs) : (execOp a.eval o).run Tryz.prog u = .ok (.value (.pointer (some ⟨u.heap.size, 0, none⟩))) (u.alloc (.cells cs 85)) := by
  unfold execOp
  simp only [ho, hx]
  simp [go_sem]
def row0 (b l i cl : Int) (d c : Nat) (sf : Value) : Array Value := #[sf, .pointer (some ⟨d, 0, none⟩), .int .i64 cl, .int .i64 b, .int .i64 l, .int .i64 i, .int .i64 1, .int .i64 (1 + l), .int .i64 (H.nodeB i), .int .i64 (H.bitsAt l i), .int .i64 (H.bitsB b), .int .i64 (H.dataAt b l i), .pointer (some ⟨c, 0, none⟩), .slice none 0 0, .map none, .bool false, .int .i64 0, .int .i64 0, .int .i64 0]
theorem newInv {b l i : Int} (hf : H.Fine b l i) (t : St) (hn : b ≤ t.n) (cl : Int) : Inv (newX b l i cl) (newC l) t (curV t) := by
  have h1 := hf.1
  have h2 := hf.2.1
  refine ⟨hf, ?_, List.nodup_nil, fun k hk => by simp [newX] at hk, ?_, fun k => ⟨fun _ => by simp [newX], fun _ => rfl⟩, by show ((0 : Nat) : Int) ≤ l - 1; omega, ⟨by show (0 : Int) ≤ 0; omega, by show (0 : Int) ≤ _; omega⟩, ⟨by show (0 : Int) ≤ 0; omega, by show (0 : Int) ≤ _; omega⟩, ⟨by show (0 : Int) ≤ 0; omega, by show (0 : Int) ≤ _; omega⟩, fun q => by cases q⟩
  · have : inB (newX b l i cl) = fun _ => false := by funext k; simp [inB, newX]
    rw [this]
    exact CInv.new t hn ⟨by show 1 ≤ l; omega, by show l ≤ 4096; omega⟩
  · show ((fastN ([] : List Hld) : Nat) : Int) = ((0 : Nat) : Int)
    rfl
theorem newMade {b l i cl : Int} {W3 : World} (h : Sit w W3 c d (newC l) t ks) (hf : H.Fine b l i) (hn : b ≤ t.n) : LogI w (forgotW (W3.alloc (.cells (row0 b l i cl d c (.pointer (some ⟨W3.heap.size, 0, none⟩))) 85)) W3.heap.size) W3.heap.size d (newX b l i cl) t (curV t) ks := by
  have hVs : (W3.alloc (.cells (row0 b l i cl d c (.pointer (some ⟨W3.heap.size, 0, none⟩))) 85)).heap.size = W3.heap.size + 1 := by simp
  have hr0 := heap_alloc_new W3 (.cells (row0 b l i cl d c (.pointer (some ⟨W3.heap.size, 0, none⟩))) 85)
  have hf3 := Fr.alloc (fun k => k = W3.heap.size) W3 (.cells (row0 b l i cl d c (.pointer (some ⟨W3.heap.size, 0, none⟩))) 85)
  generalize W3.alloc (.cells (row0 b l i cl d c (.pointer (some ⟨W3.heap.size, 0, none⟩))) 85) = V at *
  generalize hg : W3.heap.size = g at *
  have hsz : ((V.setCell ⟨g, 13, none⟩ (.slice none 0 0)).setCell ⟨g, 14, none⟩ (.map (some V.heap.size))).heap.size = V.heap.size := by simp
  have hfr : Fr (fun k => k = g) W3 (forgotW V g) := ((hf3.trans (Fr.setCell V g 13 _) fun _ _ q => q).trans (Fr.setCell _ g 14 _) fun _ _ q => q).trans (Fr.alloc (fun _ => False) _ _) fun _ _ q => q.elim
  refine ⟨newC l, newLog (mb := V.heap.size) h (hfr.below (fun i q => by omega) (Nat.le_refl _)) (by omega) (by omega) ?_ ?_ rfl, newInv hf t hn cl⟩
  · have h1 := Joins.block_setCell (i := 13) hr0 (.slice none 0 0)
    have h2 := Joins.block_setCell (i := 14) h1 (.map (some V.heap.size))
    exact ((below_new _ (.map #[] 0)).block _ (by rw [hsz, hVs]; omega)).trans h2
  · have h1 := MapIs.made (P := Tryz.prog) (k := 3) ((V.setCell ⟨g, 13, none⟩ (.slice none 0 0)).setCell ⟨g, 14, none⟩ (.map (some V.heap.size)))
    rw [hsz] at h1
    exact h1
set_option maxRecDepth 20000 in
set_option maxHeartbeats 1600000 in
theorem newL_ok {b l i : Int} (h : Sits w W d t ks) (hf : H.Fine b l i) (hn : b ≤ t.n) (hs : t.stopped = false) (hr : Rm t 3) (hT : tgT b l t = []) (hE : tgE b l t = 0) : Calls Tryz.prog 58 #[ptr d, .agg (layA b l i)] W fun e W' => ∃ g, e = .returned (.tuple #[ptr g, .int .i64 0]) ∧ LogI w W' g d (newX b l i (claimN t)) (claimV (readS t)) (curV t) ks := by
  have hA := h.add (.cells (layA b l i) 43)
  have hrow := heap_alloc_new W (.cells (layA b l i) 43)
  have hsz : (layA b l i).size = 9 := rfl
  have hc0 := committed_ok hA hf hn hs (Rm.room (n := 2) hr)
  rw [hT, hE] at hc0
  have hr2 : Room (readS t) := by
    obtain ⟨a1, a2, a3, a4⟩ := hr
    refine ⟨?_, ?_, ?_, ?_⟩
    · show t.ops.length < _; omega
    · show t.made < _; omega
    · show t.reads + 1 < _; omega
    · show t.claims < _; omega
  have hl : 1 ≤ l ∧ l ≤ 4096 := by have := hf.1; have := hf.2.1; omega
  have HN : Hid (∀ V, Sits w V d (readS t) ((W.heap.size, .cells (layA b l i) 43) :: ks) → V.cell? ⟨W.heap.size, 1, none⟩ = some (.int .i64 l) ∧ Calls Tryz.prog 76 #[.pointer (some ⟨d, 0, none⟩), .int .i64 l] V fun e W' => ∃ c, e = .returned (.tuple #[.pointer (some ⟨c, 0, none⟩), .int .i64 0]) ∧ Sit w W' c d (newC l) (readS t) ((W.heap.size, .cells (layA b l i) 43) :: ks)) := fun V h1 => ⟨Joins.cell_of_block (h1.blk (List.mem_cons_self ..)) 1, sit_new h1 hl⟩
  have HC : Hid (∀ V c, Sit w V c d (newC l) (readS t) ((W.heap.size, .cells (layA b l i) 43) :: ks) → Calls Tryz.prog 51 #[.pointer (some ⟨d, 0, none⟩)] V.drew fun e W' => e = .returned (.int .i64 (claimN t)) ∧ Sit w W' c d (newC l) (claimV (readS t)) ((W.heap.size, .cells (layA b l i) 43) :: ks)) := fun V c h1 => sit_claim h1.drew hr2
  have HF : Hid (H.Fine b l i ∧ b ≤ (claimV (readS t)).n ∧ curV (claimV (readS t)) = curV t) := by
    refine ⟨hf, ?_, ?_⟩
    · unfold claimV; split <;> exact hn
    · unfold claimV; split <;> rfl
  clear h hA hf hn hs hr hT hE hr2 hl
  unfold ptr at *
  have HL : Hid (layA b l i = #[.int .i64 b, .int .i64 l, .int .i64 i, .int .i64 1, .int .i64 (1 + l), .int .i64 (H.nodeB i), .int .i64 (H.bitsAt l i), .int .i64 (H.bitsB b), .int .i64 (H.dataAt b l i)]) := rfl
  generalize hLL : layA b l i = L at *
  go_enter Tryz.func58, Tryz.ntmps58
  go_wp2_with (first | refine wpList_load_row rfl 43 (.tmp 3) rfl W.heap.size rfl 43 L (0, 0) _ hrow Tryz.underlying43 rfl (by rw [hsz]; exact H.size25L) ?_ | (go_at_call 73; fail))
  refine hc0.mono ?_
  rintro e W1 ⟨p, rfl, _, h1⟩
  obtain ⟨c4, hnew⟩ := HN.out W1 h1
  have HNew := Hid.mk' hnew
  clear h1 hc0 hrow HN hnew
  go_wp2_with (go_at_call 76; fail)
  refine HNew.out.mono ?_
  rintro e W2 ⟨c, rfl, h2⟩
  have H2 := Hid.mk' h2
  clear h2 c4 HNew
  go_wp2
  have hrow2 := H2.out.blk (List.mem_cons_self ..)
  refine wp_region_ord (S := fun u => u.heap[W.heap.size]? = some (.cells L 43)) [(0, true), (1, true), (3, true), (4, true), (2, false), (5, true), (6, false), (7, true)]
    (by kernel_rfl) rfl (by kernel_rfl) (fun d _ _ _ _ h => by cases d <;> exact h) hrow2 ?_
  simp only [inOrd, List.getElem?_cons_zero, List.getElem?_cons_succ]
  refine wpOrd_move rfl _ rfl ?_
  simp only [Act.put, List.setIfInBounds_toArray, List.set_cons_succ, List.set_cons_zero]
  refine wpOrd_move rfl _ rfl ?_
  simp only [Act.put, List.setIfInBounds_toArray, List.set_cons_succ, List.set_cons_zero]
  refine wpOrd_yield (v := .agg L) rfl (fun u hu => H.exec_loadL rfl rfl hsz hu) ?_
  simp only [Act.put, List.setIfInBounds_toArray, List.set_cons_succ, List.set_cons_zero]
  refine wpOrd_move rfl _ rfl ?_
  simp only [Act.put, List.setIfInBounds_toArray, List.set_cons_succ, List.set_cons_zero]
  refine wpOrd_call rfl 51 _ _ rfl Tryz.call51 [.pointer (some ⟨d, 0, none⟩)] rfl ?_
  refine (HC.out W2 c H2.out).mono ?_
  rintro e W3 ⟨rfl, h3⟩
  have H3 := Hid.mk' h3
  refine ⟨_, rfl, h3.blk (List.mem_cons_self ..), ?_⟩
  clear h3 H2 hrow2 HC
  simp only [Act.put, List.setIfInBounds_toArray, List.set_cons_succ, List.set_cons_zero]
  have hL := HL.out
  refine wpOrd_yield (v := .agg (row0 b l i (claimN t) d c (.pointer none))) rfl (fun u _ => by unfold row0; subst hL; go_simp) ?_
  simp only [Act.put, List.setIfInBounds_toArray, List.set_cons_succ, List.set_cons_zero]
  refine wpOrd_run rfl (exec_box48 rfl rfl) (heap_kept (H3.out.blk (List.mem_cons_self ..)) (below_new _ _)) ?_
  simp only [Act.put, List.setIfInBounds_toArray, List.set_cons_succ, List.set_cons_zero]
  refine wpOrd_yield (v := .pointer (some ⟨W3.heap.size, 0, none⟩)) rfl (fun u _ => by go_simp) ?_
  refine wpOrd_nil ?_
  simp only [Act.put, List.setIfInBounds_toArray, List.set_cons_succ, List.set_cons_zero]
  have hrow6 : (W3.alloc (.cells (row0 b l i (claimN t) d c (.pointer (some ⟨W3.heap.size, 0, none⟩))) 85)).heap[W3.heap.size]? = some (.cells (row0 b l i (claimN t) d c (.pointer (some ⟨W3.heap.size, 0, none⟩))) 85) := heap_alloc_new _ _
  have hfor := forget_raw hrow6 rfl
  have HFor := Hid.mk' hfor
  clear hfor hrow6
  unfold row0
  go_wp2_with (go_at_call 63; fail)
  refine HFor.out.mono ?_
  rintro e W4 ⟨rfl, rfl⟩
  have HLog : Hid (LogI w (forgotW (W3.alloc (.cells (row0 b l i (claimN t) d c (.pointer (some ⟨W3.heap.size, 0, none⟩))) 85)) W3.heap.size) W3.heap.size d (newX b l i (claimN t)) (claimV (readS t)) (curV t) ks) := by
    have := newMade (cl := claimN t) (H3.out.drop (ks' := ks) fun q hq => List.mem_cons_of_mem _ hq) HF.out.1 HF.out.2.1
    rw [HF.out.2.2] at this
    exact this
  clear HFor H3
  generalize forgotW (W3.alloc (.cells (row0 b l i (claimN t) d c (.pointer (some ⟨W3.heap.size, 0, none⟩))) 85)) W3.heap.size = W5 at HLog ⊢
  go_wp2
  go_ret2
  exact ⟨_, rfl, HLog.out⟩
end Go.Proofs.YtiadlcjdpbkbkaaGreatD
