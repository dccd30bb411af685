/- Writes and barriers one behind the other, until one stops the disk; a log's header is set; no condition but that numbers do not pass their greatest. -/
import Derived.Test.YtglcliokhlafoaaLNone
namespace Go.Proofs.Ytglcliokhlafoaa
open Go.RowKit Go.Maps
variable {w W : World} {g d c mb : Nat} {v : Value} {x : LSt} {s : CSt} {t : St} {os ks : List (Nat × Obj)} {base : Nat} {book : Int → Nat → Int}
/-- A write, or a barrier. -/
def dopE (t : St) : Option Cel → Int
  | some c => writeE t c.1
  | none => barE t
def dopV (t : St) : Option Cel → St
  | some c => writeV t c.1 c.2
  | none => barV t
def runE : List (Option Cel) → St → Int
  | [], _ => 0
  | o :: r, t => if dopE t o = 0 then runE r (dopV t o) else dopE t o
def runV : List (Option Cel) → St → St
  | [], t => t
  | o :: r, t => if dopE t o = 0 then runV r (dopV t o) else dopV t o
theorem runE_append : ∀ (a b : List (Option Cel)) (t : St), runE (a ++ b) t = if runE a t = 0 then runE b (runV a t) else runE a t
  | [], b, t => by simp [runE, runV]
  | o :: r, b, t => by
    show (if dopE t o = 0 then runE (r ++ b) (dopV t o) else dopE t o) = if (if dopE t o = 0 then runE r (dopV t o) else dopE t o) = 0 then runE b (if dopE t o = 0 then runV r (dopV t o) else dopV t o) else (if dopE t o = 0 then runE r (dopV t o) else dopE t o)
    by_cases h : dopE t o = 0
    · simp only [if_pos h]
      exact runE_append r b _
    · simp only [if_neg h]
theorem runV_append : ∀ (a b : List (Option Cel)) (t : St), runV (a ++ b) t = if runE a t = 0 then runV b (runV a t) else runV a t
  | [], b, t => by simp [runE, runV]
  | o :: r, b, t => by
    show (if dopE t o = 0 then runV (r ++ b) (dopV t o) else dopV t o) = if (if dopE t o = 0 then runE r (dopV t o) else dopE t o) = 0 then runV b (if dopE t o = 0 then runV r (dopV t o) else dopV t o) else (if dopE t o = 0 then runV r (dopV t o) else dopV t o)
    by_cases h : dopE t o = 0
    · simp only [if_pos h]
      exact runV_append r b _
    · simp only [if_neg h]
/-- There is room for n more. -/
def Rm (t : St) (n : Nat) : Prop := t.ops.length + n < 68719476736 ∧ t.made + n < 1099511627776 ∧ t.reads + n < 1099511627776 ∧ t.claims + n < 1099511627776
theorem Rm.room {n : Nat} (h : Rm t (n + 1)) : Room t := by
  obtain ⟨h1, h2, h3, h4⟩ := h
  exact ⟨by omega, by omega, by omega, by omega⟩
theorem Rm.le {n m : Nat} (h : Rm t n) (hm : m ≤ n) : Rm t m := by
  obtain ⟨h1, h2, h3, h4⟩ := h
  exact ⟨by omega, by omega, by omega, by omega⟩
theorem letV_nums (t : St) : (letV t).made ≤ t.made + 1 ∧ (letV t).reads = t.reads ∧ (letV t).claims = t.claims ∧ (letV t).claimed = t.claimed := by
  unfold letV
  split
  · exact ⟨by show t.made ≤ _; omega, rfl, rfl, rfl⟩
  · exact ⟨Int.le_refl _, rfl, rfl, rfl⟩
theorem barS_nums (t : St) : (barS t).made = (letV t).made ∧ (barS t).reads = t.reads ∧ (barS t).claims = t.claims ∧ (barS t).claimed = t.claimed ∧ (barS t).n = t.n ∧ (barS t).stopped = (letV t).stopped ∧ (barS t).fuse = (letV t).fuse := by
  obtain ⟨hh, he⟩ := holdAll_same t.wait (letV t)
  have hl := letV_nums t
  unfold barS
  rw [he]
  exact ⟨rfl, hl.2.1, hl.2.2.1, hl.2.2.2, letV_n t, rfl, rfl⟩
theorem dop_nums (t : St) (o : Option Cel) : (dopV t o).made ≤ t.made + 1 ∧ (dopV t o).reads = t.reads ∧ (dopV t o).claims = t.claims ∧ (dopV t o).claimed = t.claimed ∧ (dopV t o).n = t.n ∧ (dopV t o).ops.length ≤ t.ops.length + 1 := by
  have hl := letV_nums t
  have hn := letV_n t
  have ho := letV_ops t
  cases o with
  | none =>
    show (barV t).made ≤ _ ∧ (barV t).reads = _ ∧ (barV t).claims = _ ∧ (barV t).claimed = _ ∧ (barV t).n = _ ∧ (barV t).ops.length ≤ _
    unfold barV
    split
    · exact ⟨by omega, rfl, rfl, rfl, rfl, by omega⟩
    · split
      · have hb := barS_nums t
        exact ⟨by omega, hb.2.1, hb.2.2.1, hb.2.2.2.1, hb.2.2.2.2.1, by rw [barS_ops]; simp⟩
      · exact ⟨hl.1, hl.2.1, hl.2.2.1, hl.2.2.2, hn, by rw [ho]; omega⟩
  | some c =>
    show (writeV t c.1 c.2).made ≤ _ ∧ (writeV t c.1 c.2).reads = _ ∧ (writeV t c.1 c.2).claims = _ ∧ (writeV t c.1 c.2).claimed = _ ∧ (writeV t c.1 c.2).n = _ ∧ (writeV t c.1 c.2).ops.length ≤ _
    unfold writeV
    split
    · split
      · exact ⟨hl.1, hl.2.1, hl.2.2.1, hl.2.2.2, hn, by rw [writeS_ops]; simp⟩
      · exact ⟨hl.1, hl.2.1, hl.2.2.1, hl.2.2.2, hn, by rw [ho]; omega⟩
    · exact ⟨by omega, rfl, rfl, rfl, rfl, by omega⟩
theorem Rm.dop {n : Nat} (h : Rm t (n + 1)) (o : Option Cel) : Rm (dopV t o) n := by
  obtain ⟨h1, h2, h3, h4⟩ := h
  obtain ⟨a1, a2, a3, _, _, a6⟩ := dop_nums t o
  exact ⟨by omega, by omega, by omega, by omega⟩
theorem run_nums : ∀ (l : List (Option Cel)) (t : St), (runV l t).made ≤ t.made + l.length ∧ (runV l t).reads = t.reads ∧ (runV l t).claims = t.claims ∧ (runV l t).claimed = t.claimed ∧ (runV l t).n = t.n ∧ (runV l t).ops.length ≤ t.ops.length + l.length
  | [], t => by simp [runV]
  | o :: r, t => by
    obtain ⟨a1, a2, a3, a4, a5, a6⟩ := dop_nums t o
    obtain ⟨b1, b2, b3, b4, b5, b6⟩ := run_nums r (dopV t o)
    unfold runV
    split
    · exact ⟨by simp only [List.length_cons]; omega, b2.trans a2, b3.trans a3, b4.trans a4, b5.trans a5, by simp only [List.length_cons]; omega⟩
    · exact ⟨by simp only [List.length_cons]; omega, a2, a3, a4, a5, by simp only [List.length_cons]; omega⟩
theorem Rm.run {n : Nat} {l : List (Option Cel)} (h : Rm t (n + l.length)) : Rm (runV l t) n := by
  obtain ⟨h1, h2, h3, h4⟩ := h
  obtain ⟨b1, b2, b3, b4, b5, b6⟩ := run_nums l t
  exact ⟨by omega, by omega, by omega, by omega⟩
/-- What stopped it is said. -/
theorem dop_live {o : Option Cel} (h : dopE t o = 0) : t.stopped = false ∧ (dopV t o).stopped = false := by
  cases o with
  | none =>
    have h : barE t = 0 := h
    unfold barE at h
    split at h
    · omega
    · rename_i hs
      have hs' : t.stopped = false := by simpa using hs
      split at h
      · rename_i hl
        refine ⟨hs', ?_⟩
        show (barV t).stopped = false
        unfold barV
        rw [if_neg hs, if_pos hl, (barS_nums t).2.2.2.2.2.1]
        unfold letV
        rw [if_neg (by unfold lets at hl; simpa using hl)]
        exact hs'
      · omega
  | some c =>
    have h : writeE t c.1 = 0 := h
    unfold writeE at h
    split at h
    · rename_i hr
      have hs' := (refV_ok hr).1
      split at h
      · rename_i hl
        refine ⟨hs', ?_⟩
        show (writeV t c.1 c.2).stopped = false
        unfold writeV
        rw [if_pos hr, if_pos hl]
        show (letV t).stopped = false
        unfold letV
        rw [if_neg (by unfold lets at hl; simpa using hl)]
        exact hs'
      · omega
    · rename_i hr
      exact absurd h hr
theorem run_live : ∀ (l : List (Option Cel)) (t : St), t.stopped = false → runE l t = 0 → (runV l t).stopped = false
  | [], t, hs, _ => hs
  | o :: r, t, hs, h => by
    unfold runE at h
    unfold runV
    by_cases ho : dopE t o = 0
    · rw [if_pos ho] at h ⊢
      exact run_live r _ (dop_live ho).2 h
    · rw [if_neg ho] at h
      exact absurd h ho
theorem dsit_write (h : Sit w W c d s t ks) (hr : Room t) (k : Int) {f : Nat → Int} (hf : Can f) : Calls Try.prog 63 #[ptr d, .int .i64 k, .agg (Go.Proofs.Ytglcliokhlafoaa.blk f)] W fun e W' => e = .returned (.int .i64 (writeE t k)) ∧ Sit w W' c d s (writeV t k f) ks := by
  obtain ⟨K, L, rfl, rfl, h⟩ := h
  refine (write_any h.cd.disk hr k hf).mono ?_
  rintro e W' ⟨rfl, L', h2, h3⟩
  obtain ⟨a1, a2⟩ := h.cd.disks h2 h3
  exact ⟨rfl, Sit.goes rfl rfl h a1 a2⟩
theorem dsit_barrier (h : Sit w W c d s t ks) (hr : Room t) : Calls Try.prog 43 #[ptr d] W fun e W' => e = .returned (.int .i64 (barE t)) ∧ Sit w W' c d s (barV t) ks := by
  obtain ⟨K, L, rfl, rfl, h⟩ := h
  unfold barE barV
  cases hs : t.stopped
  · simp only [Bool.false_eq_true, if_false]
    cases hl : lets t
    · refine (barrier_dead h.cd.disk hr hs hl).mono ?_
      rintro e W' ⟨rfl, h2, h3⟩
      obtain ⟨a1, a2⟩ := h.cd.disks h2 h3
      exact ⟨rfl, Sit.goes rfl rfl h a1 a2⟩
    · refine (barrier_ok h.cd.disk hr hs hl).mono ?_
      rintro e W' ⟨rfl, L', h2, h3⟩
      obtain ⟨a1, a2⟩ := h.cd.disks h2 h3
      exact ⟨rfl, Sit.goes rfl rfl h a1 a2⟩
  · simp only [if_true]
    refine (barrier_stopped h.cd.disk hs).mono ?_
    rintro e W' ⟨rfl, rfl⟩
    exact ⟨rfl, K, L, rfl, rfl, h⟩
theorem LogSit.dwrite (h : LogSit w W g d x s t ks) (hr : Room t) (k : Int) {f : Nat → Int} (hf : Can f) : Calls Try.prog 63 #[ptr d, .int .i64 k, .agg (blk f)] W fun e W' => e = .returned (.int .i64 (writeE t k)) ∧ LogSit w W' g d x s (writeV t k f) ks := by
  obtain ⟨c, mb, v, os, h⟩ := h
  exact (dsit_write h.sit hr k hf).mono fun e W' ⟨h1, h2⟩ => ⟨h1, c, mb, v, os, h.step h2⟩
theorem LogSit.dbarrier (h : LogSit w W g d x s t ks) (hr : Room t) : Calls Try.prog 43 #[ptr d] W fun e W' => e = .returned (.int .i64 (barE t)) ∧ LogSit w W' g d x s (barV t) ks := by
  obtain ⟨c, mb, v, os, h⟩ := h
  exact (dsit_barrier h.sit hr).mono fun e W' ⟨h1, h2⟩ => ⟨h1, c, mb, v, os, h.step h2⟩
set_option maxRecDepth 20000 in
set_option maxHeartbeats 800000 in
/-- The header is set. -/
theorem LogSit.setHeader (h : LogSit w W g d x s t ks) (b l i : Int) {f : Nat → Int} (hf : Can f) (hr : Rm t 3) : Calls Try.prog 44 #[ptr d, .agg (layA b l i), .agg (blk f)] W fun e W' => e = .returned (.int .i64 (runE [some (1, f), none] t)) ∧ LogSit w W' g d x s (runV [some (1, f), none] t) ks := by
  have hA := ((h.add (.cells (layA b l i) 30)).add (.cells (blk f) 46))
  have hw := hA.dwrite hr.room 1 hf
  have h31 : ((W.alloc (.cells (layA b l i) 30)).alloc (.cells (blk f) 46)).cell? ⟨W.heap.size, 3, none⟩ = some (.int .i64 1) := Joins.cell_of_block (hA.obj (List.mem_cons_of_mem _ (List.mem_cons_self ..))) 3
  have hblk := hA.obj (List.mem_cons_self ..)
  have hszA : (W.alloc (.cells (layA b l i) 30)).heap.size = W.heap.size + 1 := by simp
  rw [hszA] at hblk
  have hb2 : ∀ W', LogSit w W' g d x s (writeV t 1 f) ((((W.alloc (.cells (layA b l i) 30)).heap.size, Obj.cells (blk f) 46)) :: (W.heap.size, .cells (layA b l i) 30) :: ks) → Calls Try.prog 43 #[ptr d] W' fun e W'' => e = .returned (.int .i64 (barE (writeV t 1 f))) ∧ LogSit w W'' g d x s (barV (writeV t 1 f)) ks := fun W' h1 =>
    (h1.dbarrier (Rm.room (n := 1) (hr.dop (some (1, f))))).mono fun e W'' ⟨a1, a2⟩ => ⟨a1, a2.drop fun p hp => List.mem_cons_of_mem _ (List.mem_cons_of_mem _ hp)⟩
  have hsz : (layA b l i).size = 9 := rfl
  by_cases he : writeE t 1 = 0
  · have e1 : runE [some (1, f), none] t = barE (writeV t 1 f) := by
      show (if writeE t 1 = 0 then (if barE (writeV t 1 f) = 0 then 0 else barE (writeV t 1 f)) else writeE t 1) = _
      rw [if_pos he]
      split
      · rename_i q; exact q.symm
      · rfl
    have e2 : runV [some (1, f), none] t = barV (writeV t 1 f) := by
      show (if writeE t 1 = 0 then (if barE (writeV t 1 f) = 0 then barV (writeV t 1 f) else barV (writeV t 1 f)) else writeV t 1 f) = _
      rw [if_pos he]
      split <;> rfl
    rw [e1, e2]
    rw [he] at hw
    have HW := Hid.mk' hw
    have HB2 := Hid.mk' hb2
    clear hw hb2 h hA hr hszA
    unfold ptr at HW ⊢
    generalize hF : blk f = F at *
    generalize hL : layA b l i = L at *
    go_enter Try.func44, Try.ntmps44
    go_wp2_with (first | (go_at_call 63; fail) | refine wpList_load_row rfl 46 (.tmp 5) rfl (W.heap.size + 1) rfl 46 F (0, 0) _ hblk Try.underlying46 rfl (by subst hF; rw [blk_size]; exact size25) ?_)
    refine HW.out.mono ?_
    rintro e W1 ⟨rfl, h1⟩
    have HB3 := Hid.mk' (HB2.out W1 h1)
    unfold ptr at HB3
    clear h1 HB2 HW
    go_wp2_with (go_at_call 43; fail)
    refine HB3.out.mono ?_
    rintro e W2 ⟨rfl, h2⟩
    have H2 := Hid.mk' h2
    clear h2 HB3
    go_wp2
    go_ret
    exact ⟨rfl, H2.out⟩
  · have e1 : runE [some (1, f), none] t = writeE t 1 := by
      show (if writeE t 1 = 0 then (if barE (writeV t 1 f) = 0 then 0 else barE (writeV t 1 f)) else writeE t 1) = _
      rw [if_neg he]
    have e2 : runV [some (1, f), none] t = writeV t 1 f := by
      show (if writeE t 1 = 0 then (if barE (writeV t 1 f) = 0 then barV (writeV t 1 f) else barV (writeV t 1 f)) else writeV t 1 f) = _
      rw [if_neg he]
    rw [e1, e2]
    have HW := Hid.mk' hw
    clear hw hb2 h hA hr hszA
    unfold ptr at HW ⊢
    generalize writeE t 1 = E at *
    generalize hF : blk f = F at *
    generalize hL : layA b l i = L at *
    go_enter Try.func44, Try.ntmps44
    go_wp2_with (first | (go_at_call 63; fail) | refine wpList_load_row rfl 46 (.tmp 5) rfl (W.heap.size + 1) rfl 46 F (0, 0) _ hblk Try.underlying46 rfl (by subst hF; rw [blk_size]; exact size25) ?_)
    refine HW.out.mono ?_
    rintro e W1 ⟨rfl, h1⟩
    have H1 := Hid.mk' (h1.drop (ks' := ks) fun p hp => List.mem_cons_of_mem _ (List.mem_cons_of_mem _ hp))
    clear h1 HW
    go_wp2
    go_ret
    exact ⟨rfl, H1.out⟩
end Go.Proofs.Ytglcliokhlafoaa
