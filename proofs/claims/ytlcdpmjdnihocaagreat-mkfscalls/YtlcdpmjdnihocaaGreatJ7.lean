/- Several texts joined, each with its own remark; no condition. -/
import Derived.Test.YtlcdpmjdnihocaaGreatJ6
import Derived.StillTailTactics
import Derived.Deep.DeepAppendWide
import Derived.OrdersHeld
import Derived.WalkKit
import Derived.Laws.CopyRow
import Derived.Shelf.Sort.Plain
import Derived.Test.YtlcdpmjdnihocaaGreatProg
import Derived.Lib.SortBridge
import Derived.Maps.AppendAt
import Derived.Maps.OwnOps
import Derived.Maps.OwnSet
/- What turns a disk's own cells: its fuse, its claims, a write or barrier that is let through or not; no condition but that numbers do not pass the greatest int. -/
namespace Go.Proofs.YtlcdpmjdnihocaaGreatD
open Go.RowKit
variable {w : World} {L : Loc} {s : St}

/-- One cell of the row is written: what it stands for is s'. -/
theorem DiskAt.put {s' : St} (h : DiskAt w L s) (i : Nat) (v : Value) (hr : (dkRow L s).setIfInBounds i v = dkRow L s') (hh : s'.held = s.held) (hw : s'.wait = s.wait) (hd : s'.done = s.done) (hok : Ok s') :
    DiskAt (w.setCell ⟨L.d, i, none⟩ v) L s' := by
  have hne : ∀ k, k ≠ L.d → (w.setCell ⟨L.d, i, none⟩ v).heap[k]? = w.heap[k]? := fun k hk => Below.heap_setCell w _ v k hk
  obtain ⟨es, ck, hm⟩ := h.held.isMap
  obtain ⟨es2, ck2, hm2⟩ := h.late.isMap
  refine ⟨?_, ?_, ?_, ?_, h.ne, hok⟩
  · rw [Joins.block_setCell h.row, hr]
  · have : heldV s' = heldV s := by unfold heldV; rw [hh]
    rw [this]
    exact h.held.kept (hne _ fun e => by rw [e, h.row] at hm; cases hm)
  · have : lateV s' = lateV s := by unfold lateV; rw [hw, hd]
    rw [this]
    exact h.late.kept (hne _ fun e => by rw [e, h.row] at hm2; cases hm2)
  · have : s'.ops = s.ops := by unfold St.ops; rw [hw, hd]
    rw [this]
    refine ownsRow_kept0 h.hist fun k hk => hne _ fun e => ?_
    rcases h.hist.2 with ⟨h1, _⟩ | ⟨g, cap, cur, h1, _, h2, _⟩
    · rw [h1] at hk; cases hk
    · rw [h1] at hk
      injection hk with hk
      rw [← hk] at e
      simp only at e
      rw [e, h.row] at h2
      cases h2
theorem Goes.put (w : World) (L : Loc) (i : Nat) (v : Value) : Goes w (w.setCell ⟨L.d, i, none⟩ v) L L :=
  ⟨rfl, fun _ h => .inl h, (Fr.setCell w L.d i v).mono fun _ _ h => .inl h⟩

/-- The fuse is asked: s, if it is none, lets through. -/
def lets (s : St) : Bool := s.fuse != 0
def letV (s : St) : St := if s.fuse = 0 then { s with stopped := true } else { s with fuse := (if s.fuse = -1 then -1 else s.fuse - 1), made := s.made + 1 }
theorem letV_ok (h : Ok s) : Ok (letV s) := by
  unfold letV
  split
  · exact ⟨h.n, h.held, h.wait, h.fuse, h.made, h.reads, h.claims⟩
  · rename_i h0
    have := h.fuse
    have := h.made
    refine ⟨h.n, h.held, h.wait, ?_, ?_, h.reads, h.claims⟩
    · show -1 ≤ (if s.fuse = -1 then -1 else s.fuse - 1) ∧ (if s.fuse = -1 then -1 else s.fuse - 1) ≤ 9223372036854775807
      split <;> omega
    · show 0 ≤ s.made + 1
      omega
theorem letThrough_of (h : DiskAt w L s) (hr : Room s) : Calls Tryz.prog 63 #[.pointer (some ⟨L.d, 0, none⟩)] w fun e w' => e = .returned (.bool (lets s)) ∧ DiskAt w' L (letV s) ∧ Goes w w' L L := by
  have c6 := h.c6
  have c8 := h.c8
  have c7 := h.c7
  have f6 := h.free 6
  have f7 := h.free 7
  have f8 := h.free 8
  have hf := h.ok.fuse
  have hm := h.ok.made
  have hm2 := hr.made
  by_cases h0 : s.fuse = 0
  · rw [h0] at c6
    have e1 : letV s = { s with stopped := true } := by unfold letV; rw [if_pos h0]
    have hA := h.put (s' := letV s) 7 (.bool true) (by rw [e1]; rfl) (by rw [e1]) (by rw [e1]) (by rw [e1]) (letV_ok h.ok)
    have hA' : Hid (DiskAt (w.setCell ⟨L.d, 7, none⟩ (.bool true)) L (letV s)) := hA
    have hl : lets s = false := by unfold lets; simp [h0]
    rw [hl]
    clear hA h hr e1
    go_enter Tryz.func63, Tryz.ntmps63
    go_wp2
    go_ret
    exact ⟨rfl, hA'.out, Goes.put _ _ _ _⟩
  · have hl : lets s = true := by unfold lets; simp [h0]
    rw [hl]
    have hw8 : IntKind.i64.wrap (s.made + 1) = s.made + 1 := by rw [IntKind.wrap_i64]; omega
    by_cases h1 : s.fuse = -1
    · rw [h1] at c6
      have e1 : letV s = { s with made := s.made + 1 } := by unfold letV; rw [if_neg h0, if_pos h1, ← h1]
      have hA : Hid (DiskAt (w.setCell ⟨L.d, 8, none⟩ (.int .i64 (s.made + 1))) L (letV s)) := h.put (s' := letV s) 8 _ (by rw [e1]; rfl) (by rw [e1]) (by rw [e1]) (by rw [e1]) (letV_ok h.ok)
      clear h hr e1
      go_enter Tryz.func63, Tryz.ntmps63
      go_wp2
      go_ret
      exact ⟨rfl, hA.out, Goes.put _ _ _ _⟩
    · have hw6 : IntKind.i64.wrap (s.fuse - 1) = s.fuse - 1 := by rw [IntKind.wrap_i64]; omega
      let s1 : St := { s with fuse := s.fuse - 1 }
      have ok1 : Ok s1 := ⟨h.ok.n, h.ok.held, h.ok.wait, ⟨by show -1 ≤ s.fuse - 1; omega, by show s.fuse - 1 ≤ _; omega⟩, h.ok.made, h.ok.reads, h.ok.claims⟩
      have h1' : DiskAt (w.setCell ⟨L.d, 6, none⟩ (.int .i64 (s.fuse - 1))) L s1 := h.put (s' := s1) 6 _ rfl rfl rfl rfl ok1
      have e1 : letV s = { s with fuse := s.fuse - 1, made := s.made + 1 } := by unfold letV; rw [if_neg h0, if_neg h1]
      have hA : Hid (DiskAt ((w.setCell ⟨L.d, 6, none⟩ (.int .i64 (s.fuse - 1))).setCell ⟨L.d, 8, none⟩ (.int .i64 (s.made + 1))) L (letV s)) := h1'.put (s' := letV s) 8 _ (by rw [e1]; rfl) (by rw [e1]) (by rw [e1]) (by rw [e1]) (letV_ok h.ok)
      have hG : Hid (Goes w ((w.setCell ⟨L.d, 6, none⟩ (.int .i64 (s.fuse - 1))).setCell ⟨L.d, 8, none⟩ (.int .i64 (s.made + 1))) L L) := (Goes.put _ _ _ _).trans (Goes.put _ _ _ _)
      clear h hr e1 h1' ok1
      clear s1
      go_enter Tryz.func63, Tryz.ntmps63
      go_wp2
      go_ret
      exact ⟨rfl, hA.out, hG.out⟩

/-- A fuse of n. -/
def fuseV (s : St) (n : Int) : St := if s.stopped then s else { s with fuse := max n (-1) }
theorem fuse_of (h : DiskAt w L s) (n : Int) (hn : n ≤ 9223372036854775807) : Calls Tryz.prog 11 #[.pointer (some ⟨L.d, 0, none⟩), .int .i64 n] w fun e w' => e = .returned (.tuple #[]) ∧ DiskAt w' L (fuseV s n) ∧ Goes w w' L L := by
  have c7 := h.c7
  have f6 := h.free 6
  have c6 := h.c6
  have h0 := h.c0
  unfold fuseV
  cases hs : s.stopped
  · rw [hs] at c7
    have hA : Hid (DiskAt (w.setCell ⟨L.d, 6, none⟩ (.int .i64 (max n (-1)))) L { s with fuse := max n (-1) }) :=
      h.put (s' := { s with fuse := max n (-1) }) 6 _ rfl rfl rfl rfl ⟨h.ok.n, h.ok.held, h.ok.wait, ⟨by show -1 ≤ max n (-1); omega, by show max n (-1) ≤ _; omega⟩, h.ok.made, h.ok.reads, h.ok.claims⟩
    rw [hs] at hA
    clear h
    by_cases hn1 : -1 ≤ n
    · have e : max n (-1) = n := by omega
      rw [e] at hA ⊢
      go_enter Tryz.func11, Tryz.ntmps11
      go_wp2_with (first | (go_at_call 37; refine (none_no h0).mono ?_; rintro e W ⟨rfl, rfl⟩))
      go_end0
      exact ⟨rfl, hA.out, Goes.put _ _ _ _⟩
    · have e : max n (-1) = -1 := by omega
      rw [e] at hA ⊢
      go_enter Tryz.func11, Tryz.ntmps11
      go_wp2_with (first | (go_at_call 37; refine (none_no h0).mono ?_; rintro e W ⟨rfl, rfl⟩))
      go_end0
      exact ⟨rfl, hA.out, Goes.put _ _ _ _⟩
  · rw [hs] at c7
    have hA : Hid (DiskAt w L s) := h
    clear h
    go_enter Tryz.func11, Tryz.ntmps11
    go_wp2_with (first | (go_at_call 37; refine (none_no h0).mono ?_; rintro e W ⟨rfl, rfl⟩))
    refine bodyPost_ret (results_none rfl _ _ _) rfl ?_
    exact ⟨rfl, hA.out, Goes.refl _ _⟩
theorem fuse_none {v : Value} (h : NoneAt w v) (n : Int) : Calls Tryz.prog 11 #[v, .int .i64 n] w fun e w' => e = .returned (.tuple #[]) ∧ w' = w := by
  go_enter Tryz.func11, Tryz.ntmps11
  go_wp2_with (first | (go_at_call 37; refine (none_yes h).mono ?_; rintro e W ⟨rfl, rfl⟩))
  refine bodyPost_ret (results_none rfl _ _ _) rfl ?_
  exact ⟨rfl, rfl⟩
/-- A claim. -/
def claimV (s : St) : St := if s.stopped then s else { s with claims := s.claims + 1, claimed := true }
def claimN (s : St) : Int := if s.stopped then 0 else s.claims + 1
theorem claim_of (h : DiskAt w L s) (hr : Room s) : Calls Tryz.prog 9 #[.pointer (some ⟨L.d, 0, none⟩)] w fun e w' => e = .returned (.int .i64 (claimN s)) ∧ DiskAt w' L (claimV s) ∧ Goes w w' L L := by
  have c7 := h.c7
  have c10 := h.c10
  have c11 := h.c11
  have f10 := h.free 10
  have f11 := h.free 11
  have h0 := h.c0
  have hc := h.ok.claims
  have hc2 := hr.claims
  unfold claimV claimN
  cases hs : s.stopped
  · rw [hs] at c7
    have hw : IntKind.i64.wrap (s.claims + 1) = s.claims + 1 := by rw [IntKind.wrap_i64]; omega
    let s1 : St := { s with claims := s.claims + 1 }
    have ok1 : Ok s1 := ⟨h.ok.n, h.ok.held, h.ok.wait, h.ok.fuse, h.ok.made, h.ok.reads, by show 0 ≤ s.claims + 1; omega⟩
    have h1 : DiskAt (w.setCell ⟨L.d, 10, none⟩ (.int .i64 (s.claims + 1))) L s1 := h.put (s' := s1) 10 _ rfl rfl rfl rfl ok1
    have hA : Hid (DiskAt ((w.setCell ⟨L.d, 10, none⟩ (.int .i64 (s.claims + 1))).setCell ⟨L.d, 11, none⟩ (.bool true)) L { s1 with claimed := true }) :=
      h1.put (s' := { s1 with claimed := true }) 11 _ rfl rfl rfl rfl ⟨ok1.n, ok1.held, ok1.wait, ok1.fuse, ok1.made, ok1.reads, ok1.claims⟩
    have hG : Hid (Goes w ((w.setCell ⟨L.d, 10, none⟩ (.int .i64 (s.claims + 1))).setCell ⟨L.d, 11, none⟩ (.bool true)) L L) := (Goes.put _ _ _ _).trans (Goes.put _ _ _ _)
    have e1 : ({ s1 with claimed := true } : St) = { s with claims := s.claims + 1, claimed := true } := rfl
    rw [e1] at hA
    clear h hr ok1 h1 e1
    clear s1
    rw [hs] at hA
    simp only [Bool.false_eq_true, if_false]
    go_enter Tryz.func9, Tryz.ntmps9
    go_wp2_with (first | (go_at_call 37; refine (none_no h0).mono ?_; rintro e W ⟨rfl, rfl⟩))
    go_ret
    exact ⟨rfl, hA.out, hG.out⟩
  · rw [hs] at c7
    have hA : Hid (DiskAt w L s) := h
    clear h
    simp only [if_true]
    go_enter Tryz.func9, Tryz.ntmps9
    go_wp2_with (first | (go_at_call 37; refine (none_no h0).mono ?_; rintro e W ⟨rfl, rfl⟩))
    go_ret
    exact ⟨rfl, hA.out, Goes.refl _ _⟩
theorem claim_none {v : Value} (h : NoneAt w v) : Calls Tryz.prog 9 #[v] w fun e w' => e = .returned (.int .i64 0) ∧ w' = w := by
  go_enter Tryz.func9, Tryz.ntmps9
  go_wp2_with (first | (go_at_call 37; refine (none_yes h).mono ?_; rintro e W ⟨rfl, rfl⟩))
  go_ret
  exact ⟨rfl, rfl⟩
end Go.Proofs.YtlcdpmjdnihocaaGreatD
/- A disk is made: of noughts, if its number of blocks may be; no condition. -/
namespace Go.Proofs.YtlcdpmjdnihocaaGreatD
open Go.RowKit
variable {w : World} {L : Loc} {s : St}

def bndB (n : Int) : Bool := decide (1 ≤ n ∧ n ≤ 1048576)
theorem bounded_any (n : Int) (w : World) : Calls Tryz.prog 56 #[.int .i64 n] w fun e w' => e = .returned (.bool (bndB n)) ∧ w' = w := by
  by_cases h1 : 1 ≤ n
  · by_cases h2 : n ≤ 1048576
    · have e : bndB n = true := by unfold bndB; simp [h1, h2]
      rw [e]
      go_enter Tryz.func56, Tryz.ntmps56
      go_wp2
      go_ret
      exact ⟨rfl, rfl⟩
    · have e : bndB n = false := by unfold bndB; simp [h2]
      rw [e]
      go_enter Tryz.func56, Tryz.ntmps56
      go_wp2
      go_ret
      exact ⟨rfl, rfl⟩
  · have e : bndB n = false := by unfold bndB; simp [h1]
    rw [e]
    go_enter Tryz.func56, Tryz.ntmps56
    go_wp2
    go_ret
    exact ⟨rfl, rfl⟩
def newV (n : Int) : St := ⟨n, fun _ => none, [], [], -1, false, 0, 0, 0, false⟩
theorem newV_ok {n : Int} (h : bndB n = true) : Ok (newV n) := by
  have h' : 1 ≤ n ∧ n ≤ 1048576 := by simpa [bndB] using h
  exact ⟨h', fun k f hk => by simp [newV] at hk, fun c hc => by simp [newV] at hc, ⟨by show (-1 : Int) ≤ -1; omega, by show (-1 : Int) ≤ _; omega⟩, by show (0 : Int) ≤ 0; omega, by show (0 : Int) ≤ 0; omega, by show (0 : Int) ≤ 0; omega⟩
/-- All of the disk lies in memory from b on. -/
def Loc.from (L : Loc) (b : Nat) : Prop := ∀ k, L.has k → b ≤ k
def newL (w : World) : Loc := ⟨w.heap.size + 2, w.heap.size, w.heap.size + 1, .slice none 0 0⟩
theorem newL_from (w : World) : (newL w).from w.heap.size := by
  intro k hk
  rcases hk with h | h | h | h
  · have : k = w.heap.size + 2 := h
    omega
  · have : k = w.heap.size := h
    omega
  · have : k = w.heap.size + 1 := h
    omega
  · simp [newL, Value.ownBlock] at h
theorem new_at {n : Int} (h : bndB n = true) (w : World) :
    DiskAt (((w.alloc (.map #[] 0)).alloc (.map #[] 0)).alloc (.cells (dkRow (newL w) (newV n)) 49)) (newL w) (newV n) := by
  have s1 : (w.alloc (.map #[] 0)).heap.size = w.heap.size + 1 := by simp
  have s2 : ((w.alloc (.map #[] 0)).alloc (.map #[] 0)).heap.size = w.heap.size + 2 := by simp
  have m1 : MapIs Tryz.prog 3 (w.alloc (.map #[] 0)) w.heap.size (fun _ => none) := MapIs.made w
  have m2 : MapIs Tryz.prog 3 ((w.alloc (.map #[] 0)).alloc (.map #[] 0)) (w.heap.size + 1) (fun _ => none) := by
    have := MapIs.made (P := Tryz.prog) (k := 3) (w.alloc (.map #[] 0))
    rwa [s1] at this
  refine ⟨?_, ?_, ?_, ?_, ?_, newV_ok h⟩
  · have := heap_alloc_new ((w.alloc (.map #[] 0)).alloc (.map #[] 0)) (.cells (dkRow (newL w) (newV n)) 49)
    rw [s2] at this
    exact this
  · refine m1.kept ?_
    have b1 : Below (w.heap.size + 1) (w.alloc (.map #[] 0)) (((w.alloc (.map #[] 0)).alloc (.map #[] 0)).alloc (.cells (dkRow (newL w) (newV n)) 49)) :=
      ((Below.refl _ _).alloc (by omega) _).alloc (by omega) _
    exact b1.block _ (by show w.heap.size < _; omega)
  · have e : lateV (newV n) = fun _ => none := by funext k; simp [lateV, newV, lastAt]
    rw [e]
    refine m2.kept ?_
    have b1 : Below (w.heap.size + 2) ((w.alloc (.map #[] 0)).alloc (.map #[] 0)) (((w.alloc (.map #[] 0)).alloc (.map #[] 0)).alloc (.cells (dkRow (newL w) (newV n)) 49)) :=
      ((Below.refl _ _).alloc (by omega) _)
    exact b1.block _ (by show w.heap.size + 1 < _; omega)
  · exact World.ownsRow_nil _ 0 94 1026
  · show w.heap.size ≠ w.heap.size + 1
    omega
theorem new_bad {n : Int} (h : bndB n = false) (w : World) : Calls Tryz.prog 35 #[.int .i64 n] w fun e w' => e = .returned (.tuple #[.pointer none, .int .i64 2]) ∧ w' = w := by
  go_enter Tryz.func35, Tryz.ntmps35
  go_wp2_with (first | (go_at_call 56; refine (bounded_any n w).mono ?_; rw [h]; rintro e W ⟨rfl, rfl⟩))
  go_ret2
  exact ⟨rfl, rfl⟩
theorem new_ok {n : Int} (h : bndB n = true) (w : World) :
    Calls Tryz.prog 35 #[.int .i64 n] w fun e w' => ∃ L : Loc, e = .returned (.tuple #[.pointer (some ⟨L.d, 0, none⟩), .int .i64 0]) ∧ DiskAt w' L (newV n) ∧ L.from w.heap.size ∧ Below w.heap.size w w' := by
  have hA : Hid (DiskAt (((w.alloc (.map #[] 0)).alloc (.map #[] 0)).alloc (.cells (dkRow (newL w) (newV n)) 49)) (newL w) (newV n)) := new_at h w
  have hmm := @run_makeMap Tryz.prog
  go_enter Tryz.func35, Tryz.ntmps35
  go_wp2_with (first | (go_at_call 56; refine (bounded_any n w).mono ?_; rw [h]; rintro e W ⟨rfl, rfl⟩))
  go_ret2
  refine ⟨newL _, rfl, hA.out, newL_from _, ?_⟩
  exact (((Below.refl _ _).alloc (Nat.le_refl _) _).alloc (by simp) _).alloc (by simp; omega) _
end Go.Proofs.YtlcdpmjdnihocaaGreatD
/- A block is held for good; what is pending, and that nothing is; no condition but that the block's number is one of the disk's. -/
namespace Go.Proofs.YtlcdpmjdnihocaaGreatD
open Go.RowKit
variable {w : World} {L : Loc} {s : St}

/-- The bytes f lie in memory behind a place. -/
def BlkAt (w : World) (g off : Nat) (f : Nat → Int) : Prop := w.rangeAt g off (blk f).toList
theorem BlkAt.kept {w w' : World} {g off : Nat} {f : Nat → Int} (h : BlkAt w g off f) (hg : w'.heap[g]? = w.heap[g]?) : BlkAt w' g off f := fun j v hv => by
  have := h j v hv
  unfold World.cell? at this ⊢
  simp only at this ⊢
  rw [hg]
  exact this
theorem BlkAt.of {w : World} {g : Nat} {f : Nat → Int} {t : TypeId} (h : w.heap[g]? = some (.cells (blk f) t)) : BlkAt w g 0 f := fun j v hv => by
  rw [cell_of_row w g _ _ t _ h, Nat.zero_add, ← Array.getElem?_toList]
  exact hv
theorem loadM {w : World} {g off : Nat} {f : Nat → Int} (h : BlkAt w g off f) : (Instr.loadAt 79 (.pointer (some ⟨g, off, none⟩))).run Tryz.prog w = .ok (.agg (blk f)) w := by
  have hr := run_loadAt_mid (P := Tryz.prog) w g off 79 (blk f).toList _ h Tryz.underlying79 rfl (by rw [blk_list_len]; exact size25)
  rwa [Array.toArray_toList] at hr
theorem wpList_loadM {ops : Array Oper} {rest : List Oper} {o : Oper} {a : Act} {w : World} {Q : Exit → Act → World → Prop} (hgd : o.guard = none) (x : Operand) (ho : o.op = .load 79 x)
    (g off : Nat) (hx : a.eval x = .pointer (some ⟨g, off, none⟩)) (f : Nat → Int) (hg : BlkAt w g off f)
    (h : wpList Tryz.prog ops Q rest (a.put o.dst (.agg (blk f))) w) : wpList Tryz.prog ops Q (o :: rest) a w :=
  wpList_plain hgd fun _ hK => by
    unfold Oper.wp execOp
    simp only [ho, hx, loadM hg, Sem.run_bind, Result.andThen_ok, Sem.run_pure]
    exact hK _ _ h
theorem wpStill_loadM {ops : Array Oper} {Q : Act → Prop} {a : Act} {o : Oper} {rest : List Oper} {w : World} (hgd : o.guard = none) (x : Operand) (ho : o.op = .load 79 x)
    (g off : Nat) (hx : a.eval x = .pointer (some ⟨g, off, none⟩)) (f : Nat → Int) (hg : BlkAt w g off f)
    (h : wpStill Tryz.prog ops w Q rest (a.put o.dst (.agg (blk f)))) : wpStill Tryz.prog ops w Q (o :: rest) a := by
  unfold wpStill
  rw [if_pos (by simp [Region.wanted, hgd])]
  unfold Oper.still execOp
  simp only [ho, hx, loadM hg, Sem.run_bind, Result.andThen_ok, Sem.run_pure, Oper.stillUpon]
  exact ⟨trivial, h⟩
theorem built58 (u : World) : (Instr.build 79 #[]).run Tryz.prog u = .ok (.agg (blk nought)) u := by
  have z25 := zero25
  simp [Instr.build, z25, run_underlying Tryz.underlying79, Tryz.sizeOf5, Instr.fill, Value.cells]

theorem wpList_build58 {ops : Array Oper} {rest : List Oper} {o : Oper} {a : Act} {w : World} {Q : Exit → Act → World → Prop} (hgd : o.guard = none) (ho : o.op = .build 79 #[]) {N : Nat → Int}
    (hb : ∀ u, (Instr.build 79 #[]).run Tryz.prog u = .ok (.agg (blk N)) u) (h : wpList Tryz.prog ops Q rest (a.put o.dst (.agg (blk N))) w) : wpList Tryz.prog ops Q (o :: rest) a w :=
  wpList_plain hgd fun _ hK => by
    have e : (execOp a.eval o).run Tryz.prog w = .ok (.value (.agg (blk N))) w := by
      unfold execOp
      simp only [ho, Array.map_empty, Sem.run_bind]
      simp only [hb, Result.andThen_ok, Sem.run_pure]
    unfold Oper.wp
    rw [e]
    exact hK _ _ h

/-- Block k is held as f. -/
def holdV (s : St) (k : Int) (f : Nat → Int) : St := { s with held := fun j => if j = k then (if blankB f then none else some f) else s.held j }
theorem holdV_ok (h : Ok s) {k : Int} (hk : 0 ≤ k ∧ k < s.n) {f : Nat → Int} (hf : Can f) : Ok (holdV s k f) := by
  refine ⟨h.n, fun j g hj => ?_, h.wait, h.fuse, h.made, h.reads, h.claims⟩
  unfold holdV at hj
  simp only at hj
  by_cases e : j = k
  · rw [if_pos e] at hj
    cases hb : blankB f
    · rw [hb] at hj
      simp at hj
      subst hj
      exact ⟨by rw [e]; exact hk, hf, fun q => by rw [hf.blank.2 q] at hb; cases hb⟩
    · rw [hb] at hj; simp at hj
  · rw [if_neg e] at hj
    exact h.held j g hj
theorem holdV_heldV (s : St) (k : Int) (f : Nat → Int) : heldV (holdV s k f) = fun y => if y = k then (if blankB f then none else some (.agg (blk f))) else heldV s y := by
  funext y
  unfold heldV holdV
  simp only
  by_cases e : y = k
  · rw [if_pos e, if_pos e]
    cases blankB f <;> rfl
  · rw [if_neg e, if_neg e]
/-- Only the map of what is held has turned. -/
theorem DiskAt.hold (h : DiskAt w L s) {k : Int} (hk : 0 ≤ k ∧ k < s.n) {f : Nat → Int} (hf : Can f) {w' : World} (hm : MapIs Tryz.prog 3 w' L.hb (heldV (holdV s k f))) (hfr : Fr (fun i => i = L.hb) w w') : DiskAt w' L (holdV s k f) := by
  have hne : ∀ i, L.has i → i ≠ L.hb → w'.heap[i]? = w.heap[i]? := fun i hi q => hfr.block i (h.lt i hi) q
  obtain ⟨es, ck, hmm⟩ := h.held.isMap
  refine ⟨?_, hm, ?_, ?_, h.ne, holdV_ok h.ok hk hf⟩
  · rw [hne L.d (.inl rfl) fun e => by rw [← e, h.row] at hmm; cases hmm]
    exact h.row
  · exact h.late.kept (hne _ (.inr (.inr (.inl rfl))) fun e => h.ne e.symm)
  · refine ownsRow_kept0 h.hist fun i hi => hne i (.inr (.inr (.inr hi))) fun e => ?_
    rcases h.hist.2 with ⟨h1, _⟩ | ⟨g, cap, cur, h1, _, h2, _⟩
    · rw [h1] at hi; cases hi
    · rw [h1] at hi
      injection hi with hi
      rw [← hi] at e
      simp only at e
      rw [e, hmm] at h2
      cases h2
theorem keyed3 : Go.Maps.Keyed Tryz.prog 3 := Go.Maps.int_keyed Tryz.underlying3
theorem Fr.drew {T : Nat → Prop} (w : World) : Fr T w w.drew := ⟨rfl, rfl, rfl, Nat.le_refl _, fun _ _ _ => rfl⟩
theorem inTop_of (h : Ok s) {k : Int} (hk : 0 ≤ k ∧ k < s.n) : inTop k := by
  have := h.n
  unfold inTop
  omega

set_option maxRecDepth 20000 in
theorem hold_of (h : DiskAt w L s) {k : Int} (hk : 0 ≤ k ∧ k < s.n) {f : Nat → Int} (hf : Can f) {g off : Nat} (hg : BlkAt w g off f) :
    Calls Tryz.prog 36 #[.pointer (some ⟨L.d, 0, none⟩), .int .i64 k, .pointer (some ⟨g, off, none⟩)] w fun e w' => e = .returned (.tuple #[]) ∧ DiskAt w' L (holdV s k f) ∧ Fr (fun i => i = L.hb) w w' := by
  have hq := eq25
  have hbd := built58
  have c2 := h.c2
  have hin := inTop_of h.ok hk
  have hW := inTop.wf hin
  have HA : Hid (∀ w', MapIs Tryz.prog 3 w' L.hb (heldV (holdV s k f)) → Fr (fun i => i = L.hb) w w' → DiskAt w' L (holdV s k f)) := fun w' => h.hold hk hf
  rw [holdV_heldV] at HA
  have hM := h.held
  have hl : L.hb < w.heap.size := hM.lt
  cases hb : blankB f
  · rw [hb] at HA
    unfold blankB at hb
    clear h hf hk
    generalize nought = N at *
    go_enter Tryz.func36, Tryz.ntmps36
    go_wp2_with (first | refine wpList_loadM rfl _ rfl g off rfl f hg ?_ | refine wpList_build58 rfl rfl hbd ?_)
    go_still_tail 8, (by kernel_rfl)
    refine wpStill_loadM rfl _ rfl g off rfl f hg ?_
    refine wpStill_nil ?_
    change wpList _ _ _ _ _ (World.drew _)
    refine wpList_putM rfl _ _ _ 46 rfl 79 Tryz.underlying3 keyed3 Tryz.underlying46 L.hb _ rfl (hM.kept (w' := w.drew) rfl) k hin rfl _ rfl ?_
    intro w' hm' hg'
    have hF : Hid (Fr (fun i => i = L.hb) w w') := (Fr.drew w).trans ((Fr.ofGrown hg').mono fun i _ q => by injection q with q; exact q.symm) fun _ _ q => q
    have hD : Hid (DiskAt w' L (holdV s k f)) := HA.out w' hm' hF.out
    clear hm' hg' HA
    go_wp2
    go_end0
    exact ⟨rfl, hD.out, hF.out⟩
  · rw [hb] at HA
    unfold blankB at hb
    clear h hf hk
    generalize nought = N at *
    have HB : Hid (∀ w' : World, MapIs Tryz.prog 3 w' L.hb (fun y => if y = k then none else heldV s y) → w.grownBy w' (some L.hb) → DiskAt w' L (holdV s k f) ∧ Fr (fun i => i = L.hb) w w') := fun w' hm' hg' => by
      have hF : Fr (fun i => i = L.hb) w w' := (Fr.ofGrown hg').mono fun i _ q => by injection q with q; exact q.symm
      exact ⟨HA.out w' hm' hF, hF⟩
    clear HA
    go_enter Tryz.func36, Tryz.ntmps36
    go_wp2_with (first | refine wpList_loadM rfl _ rfl g off rfl f hg ?_ | refine wpList_build58 rfl rfl hbd ?_ | (refine wpList_delM rfl (.tmp 14) (.tmp 15) 46 rfl 79 Tryz.underlying3 keyed3 Tryz.underlying46 L.hb _ rfl hM k hW rfl ?_; intro w' hm' hg'))
    refine bodyPost_ret (results_none rfl _ _ _) rfl ?_
    exact ⟨rfl, HB.out _ hm' hg'⟩
end Go.Proofs.YtlcdpmjdnihocaaGreatD
/- The history in memory; what is pending of it, and that nothing is; no condition. -/
namespace Go.Proofs.YtlcdpmjdnihocaaGreatD
open Go.RowKit
variable {w : World} {L : Loc} {s : St}

theorem opCells_get : ∀ (l : List Rec) (i j : Nat) (r : Rec), l[i]? = some r → j < 1026 → (opCells l)[i * 1026 + j]? = (recCells r)[j]?
  | [], i, j, r, h, _ => by simp at h
  | x :: t, 0, j, r, h, hj => by
    have h' : x = r := by simpa using h
    subst h'
    show (recCells x ++ opCells t)[0 * 1026 + j]? = _
    rw [Nat.zero_mul, Nat.zero_add, List.getElem?_append_left (by rw [recCells_len]; exact hj)]
  | x :: t, i + 1, j, r, h, hj => by
    have h' : t[i]? = some r := by simpa using h
    show (recCells x ++ opCells t)[(i + 1) * 1026 + j]? = _
    rw [List.getElem?_append_right (by rw [recCells_len, Nat.add_mul]; omega), recCells_len, show (i + 1) * 1026 + j - 1026 = i * 1026 + j by rw [Nat.add_mul]; omega]
    exact opCells_get t i j r h' hj
theorem DiskAt.histAt (h : DiskAt w L s) {g : Nat} (hg : L.hv.ownBlock = some g) {i j : Nat} {r : Rec} (hi : s.ops[i]? = some r) (hj : j < 1026) : w.cell? ⟨g, i * 1026 + j, none⟩ = (recCells r)[j]? := by
  rcases h.hist.2 with ⟨h1, _⟩ | ⟨g', cap, cur, h1, _, hh, hc, hm, hs, ht⟩
  · rw [h1] at hg; cases hg
  · rw [h1] at hg
    have e : g' = g := by injection hg
    subst e
    have hlt : i < s.ops.length := (List.getElem?_eq_some_iff.1 hi).1
    have hin : i * 1026 + j < s.ops.length * 1026 := by simp only [Nat.mul_comm _ 1026] at *; omega
    rw [cell_of_row w g' _ cur 94 _ hh, ← Array.getElem?_toList, ← opCells_get _ i j r hi hj, ← ht, List.getElem?_take_of_lt hin]
theorem DiskAt.histPos (h : DiskAt w L s) {g : Nat} (hg : L.hv.ownBlock = some g) {i : Nat} {r : Rec} (hi : s.ops[i]? = some r) : w.cell? ⟨g, i * 1026 + 1, none⟩ = some (.int .i64 r.pos) :=
  (h.histAt hg hi (by omega)).trans rfl
theorem DiskAt.histBlk (h : DiskAt w L s) {g : Nat} (hg : L.hv.ownBlock = some g) {i : Nat} {r : Rec} (hi : s.ops[i]? = some r) : BlkAt w g (i * 1026 + 2) r.dat := fun j v hv => by
  have hj : j < 1024 := by have := (List.getElem?_eq_some_iff.1 hv).1; rwa [blk_list_len] at this
  rw [Nat.add_assoc, Nat.add_comm 2 j, h.histAt hg hi (by omega)]
  rw [show (recCells r)[j + 2]? = (blk r.dat).toList[j]? by simp only [recCells, List.getElem?_cons_succ]]
  exact hv
theorem DiskAt.shape (h : DiskAt w L s) : ∃ p c, L.hv = .slice p s.ops.length c ∧ s.ops.length ≤ c ∧ c ≤ maxLen ∧ (p = none ∧ c = 0 ∨ ∃ g, p = some ⟨g, 0, none⟩ ∧ L.hv.ownBlock = some g ∧ g < w.heap.size) := by
  rcases h.hist.2 with ⟨h1, h2⟩ | ⟨g', cap, cur, h1, _, hh, hc, hm, hs, ht⟩
  · exact ⟨none, 0, by rw [h1, h2], by omega, by unfold maxLen; omega, .inl ⟨rfl, rfl⟩⟩
  · exact ⟨_, cap, h1, hc, hm, .inr ⟨g', rfl, by rw [h1]; rfl, (Array.getElem?_eq_some_iff.1 hh).1⟩⟩
theorem ops_len (s : St) : s.ops.length = s.done.length + s.wait.length := by simp [St.ops]
theorem ops_wait (s : St) {i : Nat} {c : Cel} (h : s.wait[i]? = some c) : s.ops[s.done.length + i]? = some (wrec c) := by
  unfold St.ops
  rw [List.getElem?_append_right (by omega), Nat.add_sub_cancel_left, List.getElem?_map, h]
  rfl
/-- The part of the history behind l. -/
def pendV (v : Value) (l : Nat) : Value := match v with
  | .slice a n c => sliced a l n c 1026
  | _ => v
theorem DiskAt.pend (h : DiskAt w L s) : ∃ p c, pendV L.hv s.done.length = .slice p s.wait.length c ∧ s.wait.length ≤ c ∧ (0 < s.wait.length → ∃ g, L.hv.ownBlock = some g ∧ p = some ⟨g, s.done.length * 1026, none⟩) := by
  obtain ⟨p, c, h1, h2, h3, h4⟩ := h.shape
  have hl := ops_len s
  refine ⟨if c = s.done.length then p else p.map (·.add (s.done.length * 1026)), c - s.done.length, ?_, by omega, fun hw => ?_⟩
  · rw [h1]
    show sliced p s.done.length s.ops.length c 1026 = _
    unfold sliced
    rw [hl, Nat.add_sub_cancel_left]
  · rw [if_neg (by omega)]
    rcases h4 with ⟨_, h5⟩ | ⟨g, h5, h6, _⟩
    · omega
    · refine ⟨g, h6, ?_⟩
      rw [h5]
      show some (Addr.add ⟨g, 0, none⟩ _) = _
      rw [Go.WideShapes.add_plain, Nat.zero_add]
theorem elem67 : Tryz.prog.elem 42 = 94 := by kernel_rfl
theorem slice67 (p : Option Addr) (n c l : Nat) (hl : l ≤ n) (u : World) :
    (Instr.sliceAt 42 (.slice p n c) (some (.int .i64 (l : Int))) none none).run Tryz.prog u = .ok (pendV (.slice p n c) l) u := by
  have hu : Tryz.prog.underlying 42 = some (.slice (Tryz.prog.elem 42)) := by rw [elem67]; exact Tryz.underlying42
  rw [run_sliceAt_slice (P := Tryz.prog) u 42 _ _ _ _ hu, run_slice_l (P := Tryz.prog) u 42 p n c hu .i64 l (by omega) (by omega), elem67, Tryz.sizeOf94 u]
  rw [Result.andThen_ok, Int.toNat_natCast]
  rfl
theorem wpStill_slice67 {ops : Array Oper} {Q : Act → Prop} {a : Act} {o : Oper} {rest : List Oper} {w : World} (hgd : o.guard = none) (x y : Operand) (ho : o.op = .slice 42 x (some y) none none)
    (vx vy V : Value) (hx : a.eval x = vx) (hy : a.eval y = vy) (hr : (Instr.sliceAt 42 vx (some vy) none none).run Tryz.prog w = .ok V w)
    (h : wpStill Tryz.prog ops w Q rest (a.put o.dst V)) : wpStill Tryz.prog ops w Q (o :: rest) a := by
  unfold wpStill
  rw [if_pos (by simp [Region.wanted, hgd])]
  unfold Oper.still execOp
  simp only [ho, hx, hy, Option.map, Sem.run_bind, hr, Result.andThen_ok, Sem.run_pure, Oper.stillUpon]
  exact ⟨trivial, h⟩
set_option maxRecDepth 20000 in
theorem pending_of (h : DiskAt w L s) : Calls Tryz.prog 54 #[.pointer (some ⟨L.d, 0, none⟩)] w fun e w' => e = .returned (pendV L.hv s.done.length) ∧ w' = w.drew := by
  have c3 := h.c3
  have c4 := h.c4
  obtain ⟨p, c, h1, h2, h3, h4⟩ := h.shape
  have hl := ops_len s
  rw [h1] at c3 ⊢
  have hs := slice67 p s.ops.length c s.done.length (by omega)
  generalize pendV (.slice p s.ops.length c) s.done.length = V at *
  clear h h1 h4 hl h2 h3
  generalize s.ops.length = m at *
  generalize s.done.length = l at *
  go_enter Tryz.func54, Tryz.ntmps54
  go_wp2
  refine wp_region_still_lit (by kernel_rfl) (by kernel_rfl) ?_
  iterate 8 still_step
  refine wpStill_slice67 rfl _ _ rfl _ _ V rfl rfl (hs _) ?_
  simp only [Act.put, List.setIfInBounds_toArray, List.set_cons_succ, List.set_cons_zero]
  iterate 1 still_step
  refine wpStill_nil ?_
  change Exit.then _ _ _ _ (World.drew _)
  go_wp2
  go_ret
  exact ⟨rfl, rfl⟩
/-- The cells of a disk, one by one. -/
def row12 (d : Nat) (n : Int) (hb : Nat) (hv : Value) (bh : Int) (lb : Nat) (fu : Int) (st : Bool) (ma re cl : Int) (cd : Bool) : Array Value :=
  #[.pointer (some ⟨d, 0, none⟩), .int .i64 n, .map (some hb), hv, .int .i64 bh, .map (some lb), .int .i64 fu, .bool st, .int .i64 ma, .int .i64 re, .int .i64 cl, .bool cd]
theorem nothing_of {d : Nat} {n : Int} {hb : Nat} {p : Option Addr} {m c : Nat} {bh : Int} {lb : Nat} {fu : Int} {st : Bool} {ma re cl : Int} {cd : Bool} (h : w.heap[d]? = some (.cells (row12 d n hb (.slice p m c) bh lb fu st ma re cl cd) 49)) :
    Calls Tryz.prog 64 #[.pointer (some ⟨d, 0, none⟩)] w fun e w' => e = .returned (.tuple #[]) ∧ w'.heap[d]? = some (.cells (row12 d n hb (.slice p m c) m w.heap.size fu st ma re cl cd) 49) ∧ MapIs Tryz.prog 3 w' w.heap.size (fun _ => none) ∧ Fr (fun i => i = d) w w' := by
  have hmm := @run_makeMap Tryz.prog
  have hlt : d < w.heap.size := (Array.getElem?_eq_some_iff.1 h).1
  have c3 : w.cell? ⟨d, 3, none⟩ = some (.slice p m c) := Joins.cell_of_block h 3
  have c4 : w.cell? ⟨d, 4, none⟩ = some (.int .i64 bh) := Joins.cell_of_block h 4
  have f4 : w.frozen? ⟨d, 4, none⟩ = false := Joins.unfrozen_of_block h 4
  have c5 : w.cell? ⟨d, 5, none⟩ = some (.map (some lb)) := Joins.cell_of_block h 5
  have f5 : w.frozen? ⟨d, 5, none⟩ = false := Joins.unfrozen_of_block h 5
  have hS : ((w.setCell ⟨d, 4, none⟩ (.int .i64 (m : Int))).setCell ⟨d, 5, none⟩ (.map (some w.heap.size))).heap.size = w.heap.size := by simp
  have hR : Hid ((((w.setCell ⟨d, 4, none⟩ (.int .i64 (m : Int))).setCell ⟨d, 5, none⟩ (.map (some w.heap.size))).alloc (.map #[] 0)).heap[d]? = some (.cells (row12 d n hb (.slice p m c) m w.heap.size fu st ma re cl cd) 49)) := by
    have h1 := Joins.block_setCell h (i := 4) (.int .i64 (m : Int))
    have h3 := Joins.block_setCell h1 (i := 5) (.map (some w.heap.size))
    exact (((Below.refl (d + 1) _).alloc (by rw [hS]; omega) _).block d (by omega)).trans h3
  have hM : Hid (MapIs Tryz.prog 3 (((w.setCell ⟨d, 4, none⟩ (.int .i64 (m : Int))).setCell ⟨d, 5, none⟩ (.map (some w.heap.size))).alloc (.map #[] 0)) w.heap.size (fun _ => none)) := by
    have h1 := MapIs.made (P := Tryz.prog) (k := 3) ((w.setCell ⟨d, 4, none⟩ (.int .i64 (m : Int))).setCell ⟨d, 5, none⟩ (.map (some w.heap.size)))
    rwa [hS] at h1
  have hF : Hid (Fr (fun i => i = d) w (((w.setCell ⟨d, 4, none⟩ (.int .i64 (m : Int))).setCell ⟨d, 5, none⟩ (.map (some w.heap.size))).alloc (.map #[] 0))) :=
    ((Fr.setCell w d 4 _).trans (Fr.setCell _ d 5 _) fun _ _ q => q).trans (Fr.alloc (fun i => i = d) _ _) fun _ _ q => q
  clear h hS
  go_enter Tryz.func64, Tryz.ntmps64
  go_wp2
  go_end0
  exact ⟨rfl, hR.out, hM.out, hF.out⟩
end Go.Proofs.YtlcdpmjdnihocaaGreatD
/- Read: a block as it was written last; for every disk and every number. -/
namespace Go.Proofs.YtlcdpmjdnihocaaGreatD
open Go.RowKit
variable {w : World} {L : Loc} {s : St}

theorem heap_kept {w w' : World} {g : Nat} {o : Obj} (h : w.heap[g]? = some o) (hb : Below w.heap.size w w') : w'.heap[g]? = some o :=
  (hb.block g (Array.getElem?_eq_some_iff.1 h).1).trans h
theorem below_next {w w1 w2 : World} (h : Below w.heap.size w w1) (hb : Below w1.heap.size w1 w2) : Below w.heap.size w w2 := h.trans (hb.mono h.size)
theorem below_new (w : World) (o : Obj) : Below w.heap.size w (w.alloc o) := (Below.refl _ _).alloc (Nat.le_refl _) _
/-- Results: a block in a cell, and a value. -/
theorem retBT {fn : Func} {p u : Tmp} {R : Ending → World → Prop} {a : Act} {w : World} (h : fn.results = #[.cell p 79, .tmp u]) (g : Nat) (f : Nat → Int)
    (hp : a.tmps.getD p undef = .pointer (some ⟨g, 0, none⟩)) (hg : w.heap[g]? = some (.cells (blk f) 79))
    (hdf : a.defers = []) (hR : R (.returned (.tuple #[.agg (blk f), a.tmps.getD u undef])) w) : bodyPost Tryz.prog fn R .ret a w := by
  refine bodyPost_ret ?_ hdf hR
  rw [results_cell_tmp h]
  rw [hp]
  simp [asAddr, run_loadVar_row w g 79 79 (blk f) (0, 0) _ hg Tryz.underlying79 rfl (by rw [blk_size]; exact size25)]
section
variable {P : Program} {k : TypeId} {b : Nat} {m : Int → Option Value}
variable {ops : Array Oper} {rest : List Oper} {o : Oper} {a : Act} {Q : Exit → Act → World → Prop}
theorem wpList_lookM_some (hg : o.guard = none) (mo xo : Operand) (t : TypeId) (hop : o.op = Op.lookup t mo xo true) (e : TypeId) (hk : P.underlying k = some (.int .i64)) (K : Go.Maps.Keyed P k) (ht : P.underlying t = some (.map k e))
    (hm : a.eval mo = .map (some b)) (h : MapIs P k w b m) {z : Value} (hz : (zeroValue e).run P w = .ok z w) (x : Int) (hx : (Lit.int .i64 x).wf = true) (hxo : a.eval xo = .int .i64 x) (v : Value) (hv : m x = some v)
    (hK : wpList P ops Q rest (a.put o.dst (.tuple #[v, .bool true])) w) : wpList P ops Q (o :: rest) a w :=
  wpList_lookM_ok hg mo xo t hop e hk K ht hm h hz x hx hxo (by rw [hv]; exact hK)
theorem wpList_lookM_none (hg : o.guard = none) (mo xo : Operand) (t : TypeId) (hop : o.op = Op.lookup t mo xo true) (e : TypeId) (hk : P.underlying k = some (.int .i64)) (K : Go.Maps.Keyed P k) (ht : P.underlying t = some (.map k e))
    (hm : a.eval mo = .map (some b)) (h : MapIs P k w b m) {z : Value} (hz : (zeroValue e).run P w = .ok z w) (x : Int) (hx : (Lit.int .i64 x).wf = true) (hxo : a.eval xo = .int .i64 x) (hv : m x = none)
    (hK : wpList P ops Q rest (a.put o.dst (.tuple #[z, .bool false])) w) : wpList P ops Q (o :: rest) a w :=
  wpList_lookM_ok hg mo xo t hop e hk K ht hm h hz x hx hxo (by rw [hv]; exact hK)
end
theorem info3 : (Tryz.prog.info? 3).map (fun i => (i.zero, i.size)) = some (some (.int .i64 0), 1) := by kernel_rfl
theorem zero3 : ∀ w, (zeroValue 3).run Tryz.prog w = .ok (.int .i64 0) w := (zero_of_info info3).1

/-- A block as it was written last, pending or held. -/
def curV (s : St) (k : Int) : Nat → Int := match lastAt s.wait k with
  | some i => match s.wait[i]? with
    | some c => c.2
    | none => nought
  | none => (s.held k).getD nought
def readS (s : St) : St := { s with reads := s.reads + 1 }
def readB (s : St) (k : Int) : Nat → Int := if refV s k = 0 then curV s k else nought
def readV (s : St) (k : Int) : St := if refV s k = 0 then readS s else s
theorem readS_ok (h : Ok s) : Ok (readS s) := ⟨h.n, h.held, h.wait, h.fuse, h.made, by have := h.reads; show 0 ≤ s.reads + 1; omega, h.claims⟩

theorem refV_ok {k : Int} (h : refV s k = 0) : s.stopped = false ∧ 0 ≤ k ∧ k < s.n := by
  unfold refV at h
  cases hs : s.stopped
  · rw [hs] at h
    simp only [Bool.false_eq_true, if_false] at h
    by_cases hk : 0 ≤ k ∧ k < s.n
    · exact ⟨rfl, hk⟩
    · rw [if_neg hk] at h; omega
  · rw [hs] at h; simp at h

theorem Fr.setRow (w : World) (g : Nat) (cs : Array Value) : Fr (fun i => i = g) w (w.setRow g cs) := ⟨rfl, rfl, rfl, by simp, fun k _ hn => setRow_other w g k cs hn⟩
/-- What turns only a block that is new leaves the disk. -/
theorem DiskAt.outside {W W' : World} (h : DiskAt W L s) (hG : Goes w W L L) {g : Nat} (hL : ∀ k, L.has k → k < w.heap.size) (hg : w.heap.size ≤ g) (hf : Fr (fun i => i = g) W W') : DiskAt W' L s ∧ Goes w W' L L :=
  ⟨h.fr hf fun k hk e => by have := hL k hk; omega, ⟨rfl, fun _ h => .inl h, hG.fr.trans hf fun i hi e => by omega⟩⟩
/-- A block that is pending. -/
theorem curV_wait {k : Int} {i : Nat} {c : Cel} (h : lastAt s.wait k = some i) (hc : s.wait[i]? = some c) : curV s k = c.2 := by
  unfold curV
  rw [h]
  simp only [hc]
theorem curV_held {k : Int} (h : lastAt s.wait k = none) : curV s k = (s.held k).getD nought := by
  unfold curV
  rw [h]
end Go.Proofs.YtlcdpmjdnihocaaGreatD
/- A thing more in the history; no condition but that it is not too long. -/
namespace Go.Proofs.YtlcdpmjdnihocaaGreatD
open Go.RowKit
variable {w : World} {L : Loc} {s : St}

theorem info108 : (Tryz.prog.info? 94).map (fun i => (i.zero, i.size, i.bytes)) = some (some (.agg (recCells ⟨0, 0, nought⟩).toArray), 1026, 1040) := by kernel_rfl
theorem zero108 : ∀ w, (zeroValue 94).run Tryz.prog w = .ok (.agg (recCells ⟨0, 0, nought⟩).toArray) w := by
  obtain ⟨i0, hi0, hz0, hz1, hz2⟩ := info_parts info108
  exact (zero_of_info (t := 94) (P := Tryz.prog) (by rw [hi0]; exact congrArg some (Prod.ext hz0 hz1))).1
theorem fold_set (b : Nat) : ∀ (l : List Value) (k : Nat) (cs : Array Value), b + k + l.length ≤ cs.size → ∀ j,
    ((l.zipIdx k).foldl (fun (cs : Array Value) (p : Value × Nat) => cs.setIfInBounds (b + p.2) p.1) cs)[j]? = if b + k ≤ j ∧ j < b + k + l.length then l[j - (b + k)]? else cs[j]?
  | [], k, cs, _, j => by simp; intro h1 h2; omega
  | v :: l, k, cs, h, j => by
    simp only [List.length_cons] at h
    rw [List.zipIdx_cons, List.foldl_cons, fold_set b l (k + 1) _ (by simp; omega) j]
    by_cases h1 : b + (k + 1) ≤ j ∧ j < b + (k + 1) + l.length
    · rw [if_pos h1, if_pos (by simp only [List.length_cons]; omega), show j - (b + k) = (j - (b + (k + 1))) + 1 by omega, List.getElem?_cons_succ]
    · rw [if_neg h1, Array.getElem?_setIfInBounds]
      by_cases h2 : b + k = j
      · subst h2; rw [if_pos rfl, if_pos (by omega), if_pos (by simp only [List.length_cons]; omega), Nat.sub_self]; rfl
      · rw [if_neg h2, if_neg (by simp only [List.length_cons]; omega)]
/-- Cells laid over cells. -/
theorem fold_over (b : Nat) (c cs : Array Value) (h : b + c.size ≤ cs.size) :
    Array.foldl (fun (cs : Array Value) (p : Value × Nat) => cs.setIfInBounds (b + p.2) p.1) cs c.zipIdx = (cs.toList.take b ++ (c.toList ++ cs.toList.drop (b + c.size))).toArray := by
  apply Array.ext_getElem?
  intro j
  rw [← Array.foldl_toList, Array.toList_zipIdx, fold_set b c.toList 0 _ (by rw [Array.length_toList]; omega), Array.length_toList]
  rw [show ((cs.toList.take b ++ (c.toList ++ cs.toList.drop (b + c.size))).toArray)[j]? = (cs.toList.take b ++ (c.toList ++ cs.toList.drop (b + c.size)))[j]? from List.getElem?_toArray]
  by_cases h1 : j < b
  · rw [if_neg (by omega), List.getElem?_append_left (by rw [List.length_take, Array.length_toList]; omega), List.getElem?_take_of_lt h1, Array.getElem?_toList]
  · rw [List.getElem?_append_right (by rw [List.length_take, Array.length_toList]; omega), List.length_take, Array.length_toList, Nat.min_eq_left (by omega)]
    by_cases h2 : j < b + c.size
    · rw [if_pos (by omega), List.getElem?_append_left (by rw [Array.length_toList]; omega), Nat.add_zero]
    · rw [if_neg (by omega), List.getElem?_append_right (by rw [Array.length_toList]; omega), Array.length_toList, List.getElem?_drop, Array.getElem?_toList, show b + c.size + (j - b - c.size) = j by omega]
theorem fill_rec (k p : Int) (f : Nat → Int) (Z : Array Value) (hZ : Z.size = 1026) (place : Nat → Option (Nat × Nat)) (h0 : place 0 = some (0, 1)) (h1 : place 1 = some (1, 1)) (h2 : place 2 = some (2, 1024)) :
    Instr.fill place Z [(0, .int .u8 k), (1, .int .i64 p), (2, .agg (blk f))] = some (recCells ⟨k, p, f⟩).toArray := by
  have hb := blk_size f
  unfold Instr.fill
  rw [h0]
  simp only [Value.cells, List.size_toArray, List.length_cons, List.length_nil, hZ]
  rw [if_neg (by simp)]
  unfold Instr.fill
  rw [h1]
  simp only [Value.cells, List.size_toArray, List.length_cons, List.length_nil]
  rw [fold_over 0 #[.int .u8 k] Z (by rw [hZ]; simp)]
  rw [if_neg (by simp [hZ])]
  unfold Instr.fill
  rw [h2]
  simp only [Value.cells, hb]
  rw [fold_over 1 #[.int .i64 p] _ (by simp [hZ])]
  rw [if_neg (by simp [hZ])]
  rw [fold_over 2 (blk f) _ (by simp [hZ, hb])]
  have hl : Z.toList.length = 1026 := by rw [Array.length_toList, hZ]
  obtain ⟨z0, z1, r, hz, hr⟩ : ∃ z0 z1 r, Z.toList = z0 :: z1 :: r ∧ r.length = 1024 := by
    cases hz : Z.toList with
    | nil => rw [hz, List.length_nil] at hl; omega
    | cons z0 t =>
      cases t with
      | nil => rw [hz, List.length_cons, List.length_nil] at hl; omega
      | cons z1 r => exact ⟨z0, z1, r, rfl, by rw [hz, List.length_cons, List.length_cons] at hl; omega⟩
  rw [hz]
  simp only [List.take_zero, List.nil_append, List.take_succ_cons, List.drop_succ_cons, List.drop_zero, List.singleton_append, List.size_toArray, List.length_cons, List.length_nil, hb, Nat.zero_add, Nat.reduceAdd]
  unfold Instr.fill
  rw [List.drop_eq_nil_of_le (by omega), List.append_nil]
  rfl
theorem build108 (k p : Int) (f : Nat → Int) (u : World) : (Instr.build 94 #[(0, .int .u8 k), (1, .int .i64 p), (2, .agg (blk f))]).run Tryz.prog u = .ok (.agg (recCells ⟨k, p, f⟩).toArray) u := by
  have z := zero108
  have hZ : (recCells ⟨0, 0, nought⟩).toArray.size = 1026 := by rw [List.size_toArray, recCells_len]
  generalize (recCells ⟨0, 0, nought⟩).toArray = Z at *
  have hf := fill_rec k p f Z hZ
  simp [Instr.build, z, run_underlying Tryz.underlying94, Value.cells]
  rw [hf _ rfl rfl rfl]
  simp only [Sem.run_pure]
theorem fill_bar (k : Int) (place : Nat → Option (Nat × Nat)) (h0 : place 0 = some (0, 1)) :
    Instr.fill place (recCells ⟨0, 0, nought⟩).toArray [(0, .int .u8 k)] = some (recCells ⟨k, 0, nought⟩).toArray := by
  have hb := blk_list_len nought
  unfold recCells
  simp only
  generalize (blk nought).toList = B at *
  unfold Instr.fill
  rw [h0]
  simp only [Value.cells, List.size_toArray, List.length_cons, List.length_nil]
  rw [if_neg (by simp), fold_over 0 #[.int .u8 k] _ (by simp)]
  unfold Instr.fill
  simp only [List.take_zero, List.nil_append, List.size_toArray, List.length_cons, List.length_nil, Nat.zero_add, List.drop_succ_cons, List.drop_zero, List.singleton_append]
theorem build108b (k : Int) (u : World) : (Instr.build 94 #[(0, .int .u8 k)]).run Tryz.prog u = .ok (.agg (recCells ⟨k, 0, nought⟩).toArray) u := by
  have z := zero108
  have hf := fill_bar k
  generalize (recCells ⟨0, 0, nought⟩).toArray = Z at *
  generalize (recCells ⟨k, 0, nought⟩).toArray = Z' at *
  simp [Instr.build, z, run_underlying Tryz.underlying94, Value.cells]
  rw [hf _ rfl]
  simp only [Sem.run_pure]
theorem run_buildSlice_gen {P : Program} (u : World) (t e : TypeId) (len size : Nat) (zero : Value) (parts : Array (Nat × Value)) (cells : Array Value) (hu : P.underlying t = some (.slice e)) (hs : (sizeOf e).run P u = .ok size u)
    (hb : ¬ len * size > 2 ^ 24) (h0 : ¬ len * size = 0) (hz : (zeroValue e).run P u = .ok zero u)
    (hf : Instr.fill (fun i => some (i * size, size)) ((Array.range (len * size)).map (zero.cells[· % zero.cells.size]!)) parts.toList = some cells) :
    (Instr.buildSlice t len parts).run P u = .ok (.slice (some ⟨u.heap.size, 0, none⟩) len len) (u.alloc (.cells cells e)) := by
  simp only [Instr.buildSlice, Sem.run_bind, run_underlying hu, Result.andThen_ok, hs]
  rw [if_neg hb, if_neg h0]
  simp only [Sem.run_bind, hz, Result.andThen_ok, Sem.run_pure, hf, newRow, run_newObj_alloc]
theorem fill_one (c z : Array Value) (n : Nat) (hc : c.size = n) (hz : z.size = n) : Instr.fill (fun i => some (i * n, n)) z [(0, .agg c)] = some c := by
  unfold Instr.fill
  simp only [Value.cells, Nat.zero_mul]
  rw [if_neg (by simp [hc, hz]), fold_over 0 c z (by omega)]
  unfold Instr.fill
  rw [List.take_zero, List.nil_append, List.drop_eq_nil_of_le (by rw [Array.length_toList]; omega), List.append_nil]
/-- A list of one element that is a whole row. -/
theorem build1 (t e n : Nat) (zero : Value) (c : Array Value) (hu : Tryz.prog.underlying t = some (.slice e)) (hs : ∀ u, (sizeOf e).run Tryz.prog u = .ok n u) (hn : 0 < n ∧ n ≤ 16777216) (hz : ∀ u, (zeroValue e).run Tryz.prog u = .ok zero u) (hc : c.size = n) (u : World) :
    (Instr.buildSlice t 1 #[(0, .agg c)]).run Tryz.prog u = .ok (.slice (some ⟨u.heap.size, 0, none⟩) 1 1) (u.alloc (.cells c e)) :=
  run_buildSlice_gen u t e 1 n zero #[(0, .agg c)] c hu (hs u) (by omega) (by omega) (hz u) (fill_one c _ n hc (by rw [Array.size_map, Array.size_range]; omega))
theorem wpList_build1 {ops : Array Oper} {rest : List Oper} {o : Oper} {a : Act} {w : World} {Q : Exit → Act → World → Prop} (hgd : o.guard = none) (t e : TypeId) (x : Operand) (ho : o.op = .buildSlice t 1 #[(0, x)])
    (c : Array Value) (hx : a.eval x = .agg c) (hr : (Instr.buildSlice t 1 #[(0, .agg c)]).run Tryz.prog w = .ok (.slice (some ⟨w.heap.size, 0, none⟩) 1 1) (w.alloc (.cells c e)))
    (h : wpList Tryz.prog ops Q rest (a.put o.dst (.slice (some ⟨w.heap.size, 0, none⟩) 1 1)) (w.alloc (.cells c e))) : wpList Tryz.prog ops Q (o :: rest) a w :=
  wpList_plain hgd fun _ hK => by
    have hm : (#[(0, x)] : Array (Nat × Operand)).map (fun p => (p.1, a.eval p.2)) = #[(0, .agg c)] := by simp [hx]
    have e' : (execOp a.eval o).run Tryz.prog w = .ok (.value (.slice (some ⟨w.heap.size, 0, none⟩) 1 1)) (w.alloc (.cells c e)) := by
      unfold execOp
      simp only [ho, hm, Sem.run_bind]
      simp only [hr, Result.andThen_ok, Sem.run_pure]
    unfold Oper.wp
    rw [e']
    exact hK _ _ h
theorem rec_size (r : Rec) : (recCells r).toArray.size = 1026 := by rw [List.size_toArray, recCells_len]
theorem build67 (r : Rec) (u : World) : (Instr.buildSlice 42 1 #[(0, .agg (recCells r).toArray)]).run Tryz.prog u = .ok (.slice (some ⟨u.heap.size, 0, none⟩) 1 1) (u.alloc (.cells (recCells r).toArray 94)) :=
  build1 42 94 1026 _ _ Tryz.underlying42 Tryz.sizeOf94 (by omega) zero108 (rec_size r) u
theorem opCells_one (r : Rec) : opCells [r] = recCells r := by simp [opCells]
/-- Where a row lies behind an append: where it was, or in new memory. -/
theorem append_where {W : World} {v : Value} {n : Nat} {xs : List Value} (hown : W.ownsRow 0 94 1026 v n xs) {ad : Addr} {c : Nat} {news : List Value} (hl : news.length = 1 * 1026)
    (hnews : ∀ j u, news[j]? = some u → W.cell? (ad.add j) = some u) (h1 : ∀ u ∈ news, u.oneCell' = true) (hn : n < 68719476736) {ty : TypeId} {v' : Value} {w' : World}
    (hr : (Builtin.append_ #[42, 42] ty #[v, .slice (some ad) 1 c]).run Tryz.prog W = .ok v' w') : v'.ownBlock = v.ownBlock ∨ v'.ownBlock = some W.heap.size := by
  obtain ⟨i0, hi0, hz0, hz1, hz2⟩ := info_parts info108
  rcases hown.2 with ⟨rfl, rfl⟩ | ⟨g, cap, cur, rfl, _, hg, hnc, hcm, hcs, htake⟩
  · rw [run_append_nil (P := Tryz.prog) W 42 ty 94 i0 _ Tryz.underlying42 hi0 hz0 ad 1 c news (by rw [hz1]; exact hl) hnews (by omega) (by omega) (by rw [hz2]; omega)] at hr
    injection hr with h1 h2
    rw [← h1]
    exact .inr rfl
  · by_cases hroom : n + 1 ≤ cap
    · rw [run_append_room (P := Tryz.prog) W 42 ty 94 i0 Tryz.underlying42 hi0 g n cap cur hg ad 1 c news (by rw [hz1]; exact hl) hnews h1 hroom (by rw [hz1, hl, hcs]; simp only [Nat.mul_comm _ 1026]; omega)] at hr
      injection hr with h1 h2
      rw [← h1]
      exact .inl rfl
    · rw [run_append_grow (P := Tryz.prog) W 42 ty 94 i0 _ Tryz.underlying42 hi0 hz0 ⟨g, 0, none⟩ n cap xs (by rw [hz1]; exact hown.1) (hown.cells (g := g) rfl) ad 1 c news (by rw [hz1]; exact hl) hnews (by omega) (by omega) (growslice_fits_wide (by omega) (by rw [hz2]; omega))] at hr
      injection hr with h1 h2
      rw [← h1]
      exact .inr rfl
/-- A thing behind all that was done. -/
theorem push_run {W : World} {v : Value} {l : List Rec} (r : Rec) (ty : TypeId) (hown : W.ownsRow 0 94 1026 v l.length (opCells l)) (hn : l.length < 68719476736) :
    ∃ v' w', (Builtin.append_ #[42, 42] ty #[v, .slice (some ⟨W.heap.size, 0, none⟩) 1 1]).run Tryz.prog (W.alloc (.cells (recCells r).toArray 94)) = .ok v' w' ∧
      w'.ownsRow 0 94 1026 v' (l ++ [r]).length (opCells (l ++ [r])) ∧ Fr (fun i => v.ownBlock = some i) W w' ∧ (∀ k, v'.ownBlock = some k → v.ownBlock = some k ∨ W.heap.size ≤ k) := by
  obtain ⟨i0, hi0, hz0, hz1, hz2⟩ := info_parts info108
  have hown1 := World.ownsRow.alloc hown (.cells (recCells r).toArray 94)
  have hnews : ∀ j u, (recCells r)[j]? = some u → (W.alloc (.cells (recCells r).toArray 94)).cell? ((⟨W.heap.size, 0, none⟩ : Addr).add j) = some u := fun j u hu => by
    rw [Go.WideShapes.add_plain, Nat.zero_add, cell_of_row _ _ j _ 94 _ (heap_alloc_new W _), List.getElem?_toArray]
    exact hu
  obtain ⟨v', w', hr, h2, hg, _⟩ := run_append_own_wide (P := Tryz.prog) (W.alloc (.cells (recCells r).toArray 94)) 0 42 ty 94 i0 _ 1026 1040 Tryz.underlying42 hi0 hz0 hz1 hz2 (rec_size _) (by decide) v l.length _ hown1 ⟨W.heap.size, 0, none⟩ 1 1 (recCells r) (by rw [recCells_len]) hnews
    (recCells_one r) (by unfold maxLen; omega) (by omega) (Nat.zero_le _)
  refine ⟨v', w', hr, ?_, (Fr.alloc _ W _).trans (Fr.ofGrown hg) fun _ _ q => q, fun k hk => ?_⟩
  · rw [List.length_append, List.length_singleton, opCells_append, opCells_one]
    exact h2
  · rcases append_where hown1 (by rw [recCells_len]) hnews (recCells_one r) hn hr with h | h
    · exact .inl (h ▸ hk)
    · rw [h] at hk
      injection hk with hk
      simp at hk
      exact .inr (by omega)
theorem wpList_pushR {ops : Array Oper} {rest : List Oper} {o : Oper} {a : Act} {W : World} {Q : Exit → Act → World → Prop} (hgd : o.guard = none) (s x : Operand)
    (ho : o.op = .call { callee := .builtin .append, args := #[s, x], argTypes := #[42, 42] }) (v : Value) (l : List Rec) (r : Rec) (hs : a.eval s = v)
    (hx : a.eval x = .slice (some ⟨W.heap.size, 0, none⟩) 1 1) (hown : W.ownsRow 0 94 1026 v l.length (opCells l)) (hn : l.length < 68719476736)
    (h : ∀ v' w', w'.ownsRow 0 94 1026 v' (l ++ [r]).length (opCells (l ++ [r])) → Fr (fun i => v.ownBlock = some i) W w' → (∀ k, v'.ownBlock = some k → v.ownBlock = some k ∨ W.heap.size ≤ k) → wpList Tryz.prog ops Q rest (a.put o.dst v') w') :
    wpList Tryz.prog ops Q (o :: rest) a (W.alloc (.cells (recCells r).toArray 94)) := by
  refine wpList_plain hgd fun K' hK' => ?_
  obtain ⟨v', w', hr, h1, h2, h3⟩ := push_run r o.type hown hn
  unfold Oper.wp
  simp [execOp, ho, resolve, invoke, builtin, hs, hx, hr, Result.andThen]
  exact hK' _ _ (h v' w' h1 h2 h3)
end Go.Proofs.YtlcdpmjdnihocaaGreatD
/- The parts of a disk in memory, each by itself, and what a turn of one of them leaves; no condition. -/
namespace Go.Proofs.YtlcdpmjdnihocaaGreatD
open Go.RowKit

structure RawAt (w : World) (L : Loc) (row : Array Value) (held late : Int → Option Value) (ops : List Rec) : Prop where
  row : w.heap[L.d]? = some (.cells row 49)
  held : MapIs Tryz.prog 3 w L.hb held
  late : MapIs Tryz.prog 3 w L.lb late
  hist : w.ownsRow 0 94 1026 L.hv ops.length (opCells ops)
  ne : L.hb ≠ L.lb
variable {w w' : World} {L : Loc} {s : St} {row : Array Value} {held late : Int → Option Value} {ops : List Rec}
theorem DiskAt.raw (h : DiskAt w L s) : RawAt w L (dkRow L s) (heldV s) (lateV s) s.ops := ⟨h.row, h.held, h.late, h.hist, h.ne⟩
theorem RawAt.disk (h : RawAt w L (dkRow L s) (heldV s) (lateV s) s.ops) (ok : Ok s) : DiskAt w L s := ⟨h.row, h.held, h.late, h.hist, h.ne, ok⟩
theorem hist_block {v : Value} {n : Nat} {xs : List Value} (h : w.ownsRow 0 94 1026 v n xs) {k : Nat} (hk : v.ownBlock = some k) : ∃ cur, w.heap[k]? = some (.cells cur 94) := by
  rcases h.2 with ⟨h1, _⟩ | ⟨g, cap, cur, h1, _, h2, _⟩
  · rw [h1] at hk; cases hk
  · rw [h1] at hk
    have e : g = k := by injection hk
    subst e
    exact ⟨cur, h2⟩
theorem map_row {b d : Nat} {m : Int → Option Value} {r : Array Value} {t : TypeId} (h : MapIs Tryz.prog 3 w b m) (hr : w.heap[d]? = some (.cells r t)) : b ≠ d := fun e => by
  obtain ⟨es, ck, hm⟩ := h.isMap
  rw [e, hr] at hm
  cases hm
theorem hist_row {v : Value} {n : Nat} {xs : List Value} (h : w.ownsRow 0 94 1026 v n xs) {d : Nat} {r : Array Value} (hr : w.heap[d]? = some (.cells r 49)) : v.ownBlock ≠ some d := fun e => by
  obtain ⟨cur, hc⟩ := hist_block h e
  rw [hr] at hc
  cases hc
theorem hist_map {v : Value} {n : Nat} {xs : List Value} (h : w.ownsRow 0 94 1026 v n xs) {b : Nat} {m : Int → Option Value} (hm : MapIs Tryz.prog 3 w b m) : v.ownBlock ≠ some b := fun e => by
  obtain ⟨cur, hc⟩ := hist_block h e
  exact map_row hm hc rfl
theorem RawAt.lt (h : RawAt w L row held late ops) (k : Nat) (hk : L.has k) : k < w.heap.size := by
  rcases hk with rfl | rfl | rfl | hk
  · exact (Array.getElem?_eq_some_iff.1 h.row).1
  · exact h.held.lt
  · exact h.late.lt
  · exact (h.hist.lt k hk).2
/-- It stays what it is where nothing of it turns. -/
theorem RawAt.fr (h : RawAt w L row held late ops) {T : Nat → Prop} (hf : Fr T w w') (hT : ∀ k, L.has k → ¬ T k) : RawAt w' L row held late ops := by
  have hb : ∀ k, L.has k → w'.heap[k]? = w.heap[k]? := fun k hk => hf.block k (h.lt k hk) (hT k hk)
  exact ⟨(hb _ (.inl rfl)).trans h.row, h.held.kept (hb _ (.inr (.inl rfl))), h.late.kept (hb _ (.inr (.inr (.inl rfl)))), ownsRow_kept0 h.hist fun k hk => hb k (.inr (.inr (.inr hk))), h.ne⟩
/-- The row has turned. -/
theorem RawAt.rowTo (h : RawAt w L row held late ops) {row' : Array Value} (hr : w'.heap[L.d]? = some (.cells row' 49)) (hf : Fr (fun i => i = L.d) w w') : RawAt w' L row' held late ops := by
  have hb : ∀ k, L.has k → k ≠ L.d → w'.heap[k]? = w.heap[k]? := fun k hk hn => hf.block k (h.lt k hk) hn
  exact ⟨hr, h.held.kept (hb _ (.inr (.inl rfl)) (map_row h.held h.row)), h.late.kept (hb _ (.inr (.inr (.inl rfl))) (map_row h.late h.row)), ownsRow_kept0 h.hist fun k hk => hb k (.inr (.inr (.inr hk))) fun e => hist_row h.hist h.row (e ▸ hk), h.ne⟩
theorem RawAt.cell (h : RawAt w L row held late ops) (i : Nat) (v : Value) : RawAt (w.setCell ⟨L.d, i, none⟩ v) L (row.setIfInBounds i v) held late ops :=
  h.rowTo (Joins.block_setCell h.row v) (Fr.setCell w L.d i v)
/-- The map of what is pending has turned. -/
theorem RawAt.lateTo (h : RawAt w L row held late ops) {late' : Int → Option Value} (hm : MapIs Tryz.prog 3 w' L.lb late') (hf : Fr (fun i => i = L.lb) w w') : RawAt w' L row held late' ops := by
  have hb : ∀ k, L.has k → k ≠ L.lb → w'.heap[k]? = w.heap[k]? := fun k hk hn => hf.block k (h.lt k hk) hn
  exact ⟨(hb _ (.inl rfl) fun e => map_row h.late h.row e.symm).trans h.row, h.held.kept (hb _ (.inr (.inl rfl)) h.ne), hm, ownsRow_kept0 h.hist fun k hk => hb k (.inr (.inr (.inr hk))) fun e => hist_map h.hist h.late (e ▸ hk), h.ne⟩
/-- The map of what is pending is another one. -/
theorem RawAt.lateNew (h : RawAt w L row held late ops) {b : Nat} {late' : Int → Option Value} (hb : L.hb ≠ b) (hm : MapIs Tryz.prog 3 w b late') : RawAt w ⟨L.d, L.hb, b, L.hv⟩ row held late' ops := ⟨h.row, h.held, hm, h.hist, hb⟩
/-- The history has turned. -/
theorem RawAt.histTo (h : RawAt w L row held late ops) {v : Value} {ops' : List Rec} (ho : w'.ownsRow 0 94 1026 v ops'.length (opCells ops')) (hf : Fr (fun i => L.hv.ownBlock = some i) w w') : RawAt w' ⟨L.d, L.hb, L.lb, v⟩ row held late ops' := by
  have hb : ∀ k, L.has k → L.hv.ownBlock ≠ some k → w'.heap[k]? = w.heap[k]? := fun k hk hn => hf.block k (h.lt k hk) hn
  exact ⟨(hb _ (.inl rfl) (hist_row h.hist h.row)).trans h.row, h.held.kept (hb _ (.inr (.inl rfl)) (hist_map h.hist h.held)), h.late.kept (hb _ (.inr (.inr (.inl rfl))) (hist_map h.hist h.late)), ho, h.ne⟩
/-- From one place to the next, likewise. -/
theorem Goes.of {a b : World} {L L' : Loc} {T : Nat → Prop} (hd : L'.d = L.d) (ho : ∀ k, L'.has k → L.has k ∨ a.heap.size ≤ k) (hf : Fr T a b) (hT : ∀ i, i < a.heap.size → T i → L.has i) : Goes a b L L' := ⟨hd, ho, hf.mono hT⟩
end Go.Proofs.YtlcdpmjdnihocaaGreatD
/- Regions whose order is drawn, walked in one order that is told: what only reads may come at any time, what acts comes where nothing else may; S holds all along. -/
namespace Go.Proofs.YtlcdpmjdnihocaaGreatD
open Go.RowKit

section
variable {P : Program} {ops : Array Oper} {Q : Exit → Act → World → Prop} {S : World → Prop}

/-- May the operations be taken in this order? true: it is taken first; false: nothing else may come up. -/
def ordB (ops : Array Oper) : List (Nat × Bool) → Array Bool → Bool
  | [], listed => (Region.ready .any ops listed).isEmpty
  | (i, true) :: r, listed => (Region.ready .any ops listed).contains i && Region.free .any ops listed i && (ops[i]?).isSome && ordB ops r (listed.setIfInBounds i true)
  | (i, false) :: r, listed => (Region.ready .any ops listed == [i]) && (ops[i]?).isSome && ordB ops r (listed.setIfInBounds i true)

/-- The operations themselves, in that order. -/
def inOrd (ol : List Oper) : List (Nat × Bool) → List (Bool × Oper)
  | [] => []
  | (i, b) :: r => match ol[i]? with
    | some o => (b, o) :: inOrd ol r
    | none => inOrd ol r

def wpOrd (P : Program) (ops : Array Oper) (Q : Exit → Act → World → Prop) (S : World → Prop) : List (Bool × Oper) → Act → World → Prop
  | [], a, w => Q .normal a w
  | (true, o) :: r, a, w => ∃ v, YieldsIf P ops S o v a ∧ wpOrd P ops Q S r (a.put o.dst v) w
  | (false, o) :: r, a, w => if Region.wanted o (yielded ops a.tmps) then o.wp P a w (fun a' w' => S w' ∧ wpOrd P ops Q S r a' w') Q else S w ∧ wpOrd P ops Q S r (a.put o.dst undef) w

theorem wpOrd_any {ol : List Oper} (hs : Region.noSelect ol.toArray = true) (hQ : ∀ d v c a w, Q (.panic c) (a.put d v) w → Q (.panic c) a w) : ∀ (l : List (Nat × Bool)) (listed : Array Bool) (a : Act) (w : World), S w →
    ordB ol.toArray l listed = true → wpOrd P ol.toArray Q S (inOrd ol l) a w → wpAnyH P .any ol.toArray Q S l.length listed a w
  | [], listed, a, w, _, hB, h => wpAnyH_done (by simpa [ordB] using hB) h _
  | (i, true) :: r, listed, a, w, hS, hB, h => by
    simp only [ordB, Bool.and_eq_true] at hB
    obtain ⟨⟨⟨h1, h2⟩, h3⟩, h4⟩ := hB
    obtain ⟨o, hi⟩ := Option.isSome_iff_exists.1 h3
    have hi' : ol[i]? = some o := by simpa using hi
    simp only [inOrd, hi', wpOrd] at h
    obtain ⟨v, hy, hr⟩ := h
    exact wpAnyH_take hi hs h2 h1 (fun c a w => hQ _ _ c a w) hy hS (wpOrd_any hs hQ r _ _ w hS h4 hr)
  | (i, false) :: r, listed, a, w, hS, hB, h => by
    simp only [ordB, Bool.and_eq_true, beq_iff_eq] at hB
    obtain ⟨⟨h1, h3⟩, h2⟩ := hB
    obtain ⟨o, hi⟩ := Option.isSome_iff_exists.1 h3
    have hi' : ol[i]? = some o := by simpa using hi
    simp only [inOrd, hi', wpOrd] at h
    refine wpAnyH_all h1 (by simp) fun j hj => ?_
    obtain rfl : j = i := by simpa using hj
    unfold wpOp
    rw [hi]
    simp only
    split
    · rename_i hw
      rw [if_pos hw] at h
      exact .inl (Oper.wp_mono (fun a' w' h' => ⟨h'.1, wpOrd_any hs hQ r _ a' w' h'.1 h2 h'.2⟩) h)
    · rename_i hw
      rw [if_neg hw] at h
      exact ⟨h.1, wpOrd_any hs hQ r _ _ w h.1 h2 h.2⟩

/-- A region that draws its order, walked in the order l. -/
theorem wp_region_ord {id : Nat} {a : Act} {w : World} {ol : List Oper} (l : List (Nat × Bool)) (hm : P.follows .mixedOrders = true) (hl : l.length = ol.length)
    (hB : (Region.noSelect ol.toArray && ordB ol.toArray l (Array.replicate ol.toArray.size false)) = true) (hQ : ∀ d v c a w, Q (.panic c) (a.put d v) w → Q (.panic c) a w)
    (hS : S w.drew) (h : wpOrd P ol.toArray Q S (inOrd ol l) a w.drew) : (Code.region id ol.toArray true).wp P Q a w := by
  simp only [Bool.and_eq_true] at hB
  have h1 := wpOrd_any hB.1 hQ l _ a w.drew hS hB.2 h
  rw [hl] at h1
  exact wp_region_held hm (by simpa using h1)

theorem wpOrd_nil {a : Act} {w : World} (h : Q .normal a w) : wpOrd P ops Q S [] a w := h
theorem wpOrd_skip {r : List (Bool × Oper)} {b : Bool} {a : Act} {w : World} {o : Oper} (hS : S w) (hw : Region.wanted o (yielded ops a.tmps) = false) (h : wpOrd P ops Q S r (a.put o.dst undef) w) :
    wpOrd P ops Q S ((b, o) :: r) a w := by
  cases b
  · simp only [wpOrd, hw, Bool.false_eq_true, if_false]
    exact ⟨hS, h⟩
  · exact ⟨undef, .inr ⟨hw, rfl⟩, h⟩
theorem wpOrd_yield {r : List (Bool × Oper)} {a : Act} {w : World} {o : Oper} {v : Value} (hw : Region.wanted o (yielded ops a.tmps) = true)
    (hr : ∀ u, S u → (execOp a.eval o).run P u = .ok (.value v) u) (h : wpOrd P ops Q S r (a.put o.dst v) w) : wpOrd P ops Q S ((true, o) :: r) a w :=
  ⟨v, .inl ⟨hw, hr⟩, h⟩
theorem wpOrd_move {r : List (Bool × Oper)} {a : Act} {w : World} {o : Oper} (hw : Region.wanted o (yielded ops a.tmps) = true) (x : Operand) (ho : o.op = .move x)
    (h : wpOrd P ops Q S r (a.put o.dst (a.eval x)) w) : wpOrd P ops Q S ((true, o) :: r) a w :=
  wpOrd_yield hw (fun u _ => by simp [execOp, ho]) h
theorem wpOrd_call {r : List (Bool × Oper)} {a : Act} {w : World} {o : Oper} (hw : Region.wanted o (yielded ops a.tmps) = true) (f : FuncId) (xs : List Operand) (ts : Array TypeId)
    (ho : o.op = .call { callee := .value (.func f), args := xs.toArray, argTypes := ts }) (hc : ∀ args u, (callFunc f args).run P u = .ok (.enter f args) u) (args : List Value) (hx : xs.map a.eval = args)
    (h : Calls P f args.toArray w fun e w' => ∃ v, e = .returned v ∧ S w' ∧ wpOrd P ops Q S r (a.put o.dst v) w') : wpOrd P ops Q S ((false, o) :: r) a w := by
  simp only [wpOrd, hw, if_true]
  unfold Oper.wp execOp
  have e : (do let d ← resolve a.eval { callee := .value (.func f), args := xs.toArray, argTypes := ts } o.type; invoke d.target d.args : Sem Next).run P w = .ok (.enter f args.toArray) w := by
    have hx' : xs.toArray.map a.eval = args.toArray := by rw [← hx]; simp
    simp only [resolve, hx']
    simp [Act.eval, Deferred.ofValue, invoke, hc]
  simp only [ho]
  rw [e]
  unfold Oper.upon
  exact h.mono fun e w' ⟨v, he, h1, h2⟩ => by subst he; exact ⟨h1, h2⟩
end
end Go.Proofs.YtlcdpmjdnihocaaGreatD
/- Regions whose order is drawn, where two operations may come up in either order: both orders are walked. -/
namespace Go.Proofs.YtlcdpmjdnihocaaGreatD
open Go.RowKit

section
variable {P : Program} {ops : Array Oper} {Q : Exit → Act → World → Prop} {S : World → Prop}

/-- First the operations of a list that only read, then i and j in either order, then l. -/
def forkB (ops : Array Oper) (i j : Nat) (l : List (Nat × Bool)) : List Nat → Array Bool → Bool
  | [], listed => (Region.ready .any ops listed == [i, j]) && (ops[i]?).isSome && (ops[j]?).isSome && ordB ops ((j, false) :: l) (listed.setIfInBounds i true) && ordB ops ((i, false) :: l) (listed.setIfInBounds j true)
  | k :: r, listed => (Region.ready .any ops listed).contains k && Region.free .any ops listed k && (ops[k]?).isSome && forkB ops i j l r (listed.setIfInBounds k true)

/-- One operation that acts, and what follows. -/
def wpAct (P : Program) (ops : Array Oper) (Q : Exit → Act → World → Prop) (S : World → Prop) (o : Oper) (K : Act → World → Prop) (a : Act) (w : World) : Prop :=
  if Region.wanted o (yielded ops a.tmps) then o.wp P a w (fun a' w' => S w' ∧ K a' w') Q else S w ∧ K (a.put o.dst undef) w

theorem wpOp_act {i : Nat} {o : Oper} (hi : ops[i]? = some o) {K K' : Act → World → Prop} (hK : ∀ a w, S w → K a w → K' a w) {a : Act} {w : World} (h : wpAct P ops Q S o K a w) : wpOp P ops Q i (fun a' w' => S w' ∧ K' a' w') a w := by
  unfold wpOp
  rw [hi]
  simp only
  unfold wpAct at h
  split
  · rename_i hw
    rw [if_pos hw] at h
    exact .inl (Oper.wp_mono (fun a' w' h' => ⟨h'.1, hK a' w' h'.1 h'.2⟩) h)
  · rename_i hw
    rw [if_neg hw] at h
    exact ⟨h.1, hK _ w h.1 h.2⟩

def wpFork (P : Program) (ops : Array Oper) (Q : Exit → Act → World → Prop) (S : World → Prop) (ol : List Oper) (i j : Nat) (l : List (Nat × Bool)) : List Nat → Act → World → Prop
  | [], a, w => (∀ o, ol[i]? = some o → wpAct P ops Q S o (wpOrd P ops Q S (inOrd ol ((j, false) :: l))) a w) ∧ (∀ o, ol[j]? = some o → wpAct P ops Q S o (wpOrd P ops Q S (inOrd ol ((i, false) :: l))) a w)
  | k :: r, a, w => ∀ o, ol[k]? = some o → ∃ v, YieldsIf P ops S o v a ∧ wpFork P ops Q S ol i j l r (a.put o.dst v) w

theorem wpFork_any {ol : List Oper} (hs : Region.noSelect ol.toArray = true) (hQ : ∀ d v c a w, Q (.panic c) (a.put d v) w → Q (.panic c) a w) (i j : Nat) (l : List (Nat × Bool)) : ∀ (r : List Nat) (listed : Array Bool) (a : Act) (w : World), S w →
    forkB ol.toArray i j l r listed = true → wpFork P ol.toArray Q S ol i j l r a w → wpAnyH P .any ol.toArray Q S (r.length + (l.length + 2)) listed a w
  | [], listed, a, w, hS, hB, h => by
    simp only [forkB, Bool.and_eq_true, beq_iff_eq] at hB
    obtain ⟨⟨⟨⟨h1, h2⟩, h3⟩, h4⟩, h5⟩ := hB
    obtain ⟨oi, hoi⟩ := Option.isSome_iff_exists.1 h2
    obtain ⟨oj, hoj⟩ := Option.isSome_iff_exists.1 h3
    have hoi' : ol[i]? = some oi := by simpa using hoi
    have hoj' : ol[j]? = some oj := by simpa using hoj
    rw [show ([] : List Nat).length + (l.length + 2) = (l.length + 1) + 1 by simp]
    refine wpAnyH_all h1 (by simp) fun k hk => ?_
    simp only [List.mem_cons, List.not_mem_nil, or_false] at hk
    rcases hk with rfl | rfl
    · exact wpOp_act hoi (fun a' w' hS' hK => wpOrd_any hs hQ ((j, false) :: l) _ a' w' hS' h4 hK) (h.1 oi hoi')
    · exact wpOp_act hoj (fun a' w' hS' hK => wpOrd_any hs hQ ((i, false) :: l) _ a' w' hS' h5 hK) (h.2 oj hoj')
  | k :: r, listed, a, w, hS, hB, h => by
    simp only [forkB, Bool.and_eq_true] at hB
    obtain ⟨⟨⟨h1, h2⟩, h3⟩, h4⟩ := hB
    obtain ⟨o, hi⟩ := Option.isSome_iff_exists.1 h3
    have hi' : ol[k]? = some o := by simpa using hi
    obtain ⟨v, hy, hr⟩ := h o hi'
    rw [show (k :: r).length + (l.length + 2) = r.length + (l.length + 2) + 1 by simp; omega]
    exact wpAnyH_take hi hs h2 h1 (fun c a w => hQ _ _ c a w) hy hS (wpFork_any hs hQ i j l r _ _ w hS h4 hr)

/-- A region that draws its order, walked so. -/
theorem wp_region_fork {id : Nat} {a : Act} {w : World} {ol : List Oper} (r : List Nat) (i j : Nat) (l : List (Nat × Bool)) (hm : P.follows .mixedOrders = true) (hl : r.length + (l.length + 2) = ol.length)
    (hB : (Region.noSelect ol.toArray && forkB ol.toArray i j l r (Array.replicate ol.toArray.size false)) = true) (hQ : ∀ d v c a w, Q (.panic c) (a.put d v) w → Q (.panic c) a w)
    (hS : S w.drew) (h : wpFork P ol.toArray Q S ol i j l r a w.drew) : (Code.region id ol.toArray true).wp P Q a w := by
  simp only [Bool.and_eq_true] at hB
  have h1 := wpFork_any hB.1 hQ i j l r _ a w.drew hS hB.2 h
  rw [hl] at h1
  exact wp_region_held hm (by simpa using h1)

theorem wpFork_yield {ol : List Oper} {i j : Nat} {l : List (Nat × Bool)} {k : Nat} {r : List Nat} {a : Act} {w : World} {o : Oper} {v : Value} (ho : ol[k]? = some o) (hw : Region.wanted o (yielded ops a.tmps) = true)
    (hr : ∀ u, S u → (execOp a.eval o).run P u = .ok (.value v) u) (h : wpFork P ops Q S ol i j l r (a.put o.dst v) w) : wpFork P ops Q S ol i j l (k :: r) a w := by
  intro o' ho'
  obtain rfl : o = o' := by rw [ho] at ho'; exact Option.some.inj ho'
  exact ⟨v, .inl ⟨hw, hr⟩, h⟩
theorem wpFork_nil {ol : List Oper} {i j : Nat} {l : List (Nat × Bool)} {a : Act} {w : World} {oi oj : Oper} (hi : ol[i]? = some oi) (hj : ol[j]? = some oj)
    (h1 : wpOrd P ops Q S (inOrd ol ((i, false) :: (j, false) :: l)) a w) (h2 : wpOrd P ops Q S (inOrd ol ((j, false) :: (i, false) :: l)) a w) : wpFork P ops Q S ol i j l [] a w := by
  refine ⟨fun o ho => ?_, fun o ho => ?_⟩
  · obtain rfl : oi = o := by rw [hi] at ho; exact Option.some.inj ho
    simp only [inOrd, hi, hj, wpOrd] at h1 ⊢
    exact h1
  · obtain rfl : oj = o := by rw [hj] at ho; exact Option.some.inj ho
    simp only [inOrd, hi, hj, wpOrd] at h2 ⊢
    exact h2
end
end Go.Proofs.YtlcdpmjdnihocaaGreatD
/- Write: a block is pending behind all that is, or the error; for every disk, number and block. -/
namespace Go.Proofs.YtlcdpmjdnihocaaGreatD
open Go.RowKit
variable {w : World} {L : Loc} {s : St}

section
variable {P : Program} {ops : Array Oper} {Q : Exit → Act → World → Prop} {S : World → Prop} {r : List (Bool × Oper)} {a : Act} {w w' : World} {o : Oper} {v : Value}
theorem wpOrd_run (hw : Region.wanted o (yielded ops a.tmps) = true) (hr : (execOp a.eval o).run P w = .ok (.value v) w') (hS : S w') (h : wpOrd P ops Q S r (a.put o.dst v) w') : wpOrd P ops Q S ((false, o) :: r) a w := by
  simp only [wpOrd, hw, if_true]
  unfold Oper.wp
  rw [hr]
  exact ⟨hS, h⟩
theorem wpOrd_do (hw : Region.wanted o (yielded ops a.tmps) = true) (hr : (execOp a.eval o).run P w = .ok .skip w') (hS : S w') (h : wpOrd P ops Q S r (a.put o.dst undef) w') : wpOrd P ops Q S ((false, o) :: r) a w := by
  simp only [wpOrd, hw, if_true]
  unfold Oper.wp
  rw [hr]
  exact ⟨hS, h⟩
end
def writeS (s : St) (k : Int) (f : Nat → Int) : St := { letV s with wait := s.wait ++ [(k, f)] }
theorem letV_wait (s : St) : (letV s).wait = s.wait := by unfold letV; split <;> rfl
theorem letV_done (s : St) : (letV s).done = s.done := by unfold letV; split <;> rfl
theorem letV_held (s : St) : (letV s).held = s.held := by unfold letV; split <;> rfl
theorem letV_n (s : St) : (letV s).n = s.n := by unfold letV; split <;> rfl
theorem letV_ops (s : St) : (letV s).ops = s.ops := by unfold St.ops; rw [letV_wait, letV_done]
theorem writeS_ok (h : Ok s) {k : Int} (hk : 0 ≤ k ∧ k < s.n) {f : Nat → Int} (hf : Can f) : Ok (writeS s k f) := by
  have h1 := letV_ok h
  refine ⟨h1.n, h1.held, fun c hc => ?_, h1.fuse, h1.made, h1.reads, h1.claims⟩
  have hc' : c ∈ s.wait ∨ c = (k, f) := by simpa [writeS] using hc
  show (0 ≤ c.1 ∧ c.1 < (letV s).n) ∧ Can c.2
  rw [letV_n]
  rcases hc' with h2 | rfl
  · exact h.wait c h2
  · exact ⟨hk, hf⟩
theorem writeS_ops (s : St) (k : Int) (f : Nat → Int) : (writeS s k f).ops = s.ops ++ [⟨1, k, f⟩] := by
  show (letV s).done ++ (s.wait ++ [(k, f)]).map wrec = _
  rw [letV_done]
  unfold St.ops
  simp [wrec]
theorem writeS_late (s : St) (k : Int) (f : Nat → Int) : lateV (writeS s k f) = fun y => if y = k then some (.int .i64 ((s.ops.length : Nat) : Int)) else lateV (letV s) y := by
  funext y
  show (lastAt (s.wait ++ [(k, f)]) y).map (fun i => Value.int .i64 (((letV s).done.length + i : Nat) : Int)) = _
  rw [lastAt_snoc, letV_done, ops_len]
  by_cases e : y = k
  · rw [if_pos e, if_pos (by exact e.symm)]
    rfl
  · rw [if_neg e, if_neg (fun q => e q.symm)]
    unfold lateV
    rw [letV_done, letV_wait]

set_option maxRecDepth 20000 in
theorem write_bad (h : DiskAt w L s) {k : Int} (hb : refV s k ≠ 0) (f : Nat → Int) :
    Calls Tryz.prog 59 #[.pointer (some ⟨L.d, 0, none⟩), .int .i64 k, .agg (blk f)] w fun e w' => e = .returned (.int .i64 (refV s k)) ∧ Below w.heap.size w w' := by
  have hR := refuses_of (h.later (below_new w (.cells (blk f) 79))) k
  have hne : (refV s k != 0) = true := by simp [hb]
  clear h hb
  generalize refV s k = r at *
  go_enter Tryz.func59, Tryz.ntmps59
  go_wp2_with (first | (go_at_call 92; refine hR.mono ?_; rintro e W ⟨rfl, rfl⟩))
  go_ret
  exact ⟨rfl, below_new _ _⟩
set_option maxRecDepth 20000 in
theorem write_dead (h : DiskAt w L s) (hr : Room s) {k : Int} (hb : refV s k = 0) (hl : lets s = false) (f : Nat → Int) :
    Calls Tryz.prog 59 #[.pointer (some ⟨L.d, 0, none⟩), .int .i64 k, .agg (blk f)] w fun e w' => e = .returned (.int .i64 3) ∧ DiskAt w' L (letV s) ∧ Goes w w' L L := by
  have D1 := h.later (below_new w (.cells (blk f) 79))
  have hR := refuses_of D1 k
  rw [hb] at hR
  have hT := letThrough_of D1 hr
  rw [hl] at hT
  have HG : Hid (Goes w (w.alloc (.cells (blk f) 79)) L L) := Goes.ofBelow L (below_new _ _)
  clear h hb D1
  go_enter Tryz.func59, Tryz.ntmps59
  go_wp2_with (first | (go_at_call 92; refine hR.mono ?_; rintro e W ⟨rfl, rfl⟩) | (go_at_call 63; fail))
  refine hT.mono ?_
  rintro e W ⟨rfl, hD, hG⟩
  have HD : Hid (DiskAt W L (letV s)) := hD
  have HG2 : Hid (Goes _ W L L) := hG
  clear hD hG
  go_wp2
  go_ret
  exact ⟨rfl, HD.out, HG.out.trans HG2.out⟩
set_option maxRecDepth 20000 in
set_option maxHeartbeats 2000000 in
theorem write_ok (h : DiskAt w L s) (hr : Room s) {k : Int} (hb : refV s k = 0) (hl : lets s = true) {f : Nat → Int} (hf : Can f) :
    Calls Tryz.prog 59 #[.pointer (some ⟨L.d, 0, none⟩), .int .i64 k, .agg (blk f)] w fun e w' => e = .returned (.int .i64 0) ∧ ∃ L', DiskAt w' L' (writeS s k f) ∧ Goes w w' L L' := by
  have D1 := h.later (below_new w (.cells (blk f) 79))
  have hR := refuses_of D1 k
  rw [hb] at hR
  have hT := letThrough_of D1 hr
  rw [hl] at hT
  obtain ⟨_, hk⟩ := refV_ok hb
  have hin := inTop_of h.ok hk
  have hok := writeS_ok h.ok hk hf
  have HG : Hid (Goes w (w.alloc (.cells (blk f) 79)) L L) := Goes.ofBelow L (below_new _ _)
  have hL : ∀ i, L.has i → i < w.heap.size := h.lt
  have hro := hr.ops
  have hB0 := heap_alloc_new w (.cells (blk f) 79)
  have hsz : w.heap.size < (w.alloc (.cells (blk f) 79)).heap.size := by simp
  clear h hb D1 hr
  go_enter Tryz.func59, Tryz.ntmps59
  go_wp2_with (first | (go_at_call 92; refine hR.mono ?_; rintro e W ⟨rfl, rfl⟩) | (go_at_call 63; fail))
  refine hT.mono ?_
  rintro e W ⟨rfl, hD, hG⟩
  have hB : W.heap[w.heap.size]? = some (.cells (blk f) 79) := (hG.fr.block w.heap.size hsz fun q => by have := hL _ q; omega).trans hB0
  have HG2 : Hid (Goes w W L L) := HG.out.trans hG
  clear hG HG hR hT hsz hB0
  generalize hg0 : w.heap.size = g0 at *
  obtain ⟨p, c, h1, h2, h3, h4⟩ := hD.shape
  rw [letV_ops] at h1 h2
  have c3 := hD.c3
  have c5 := hD.c5
  rw [h1] at c3
  have hLate := hD.late
  have HR : Hid (RawAt W L (dkRow L (letV s)) (heldV (letV s)) (lateV (letV s)) (letV s).ops) := hD.raw
  clear hD h4
  go_wp2
  go_still_tail 10, (by kernel_rfl)
  change wpList _ _ _ _ _ (World.drew _)
  refine wpList_putM rfl (.tmp 20) (.tmp 21) (.tmp 26) 47 rfl 3 Tryz.underlying3 keyed3 Tryz.underlying47 L.lb _ rfl (hLate.kept (w' := W.drew) rfl) k hin rfl (.int .i64 ((s.ops.length : Nat) : Int)) rfl ?_
  intro W3 hm3 hg3
  have hF3 : Fr (fun i => i = L.lb) W W3 := (Fr.drew W).trans ((Fr.ofGrown hg3).mono fun i _ q => by injection q with q; exact q.symm) fun _ _ q => q
  rw [← writeS_late s k f] at hm3
  have hR3 := HR.out.lateTo hm3 hF3
  have hB3 : W3.heap[g0]? = some (.cells (blk f) 79) := (hF3.block g0 (Array.getElem?_eq_some_iff.1 hB).1 fun q => by have := hL L.lb (.inr (.inr (.inl rfl))); omega).trans hB
  have hG3 : Goes w W3 L L := HG2.out.trans (Goes.of rfl (fun _ q => .inl q) hF3 fun i _ q => .inr (.inr (.inl q)))
  clear HR HG2 hm3 hg3 hF3 hLate c3 c5 hB
  have hR4 : RawAt W3.drew L (dkRow L (letV s)) (heldV (letV s)) (lateV (writeS s k f)) (letV s).ops := hR3.fr (Fr.drew (T := fun _ => False) W3) fun _ _ q => q
  have hG4 : Goes w W3.drew L L := hG3.trans ⟨rfl, fun _ q => .inl q, Fr.drew W3⟩
  have hB4 : W3.drew.heap[g0]? = some (.cells (blk f) 79) := hB3
  clear hR3 hG3 hB3
  go_wp2
  refine wp_region_fork (S := fun u => u.heap[g0]? = some (.cells (blk f) 79)) [0, 1, 2, 3, 5, 6, 7] 4 8 [(9, false), (10, true), (11, true), (12, false)] (by kernel_rfl) rfl (by kernel_rfl) (fun d _ _ _ _ h => by cases d <;> exact h) hB4 ?_
  simp only [Act.put]
  generalize W3.drew = V at *
  have hlt : g0 < V.heap.size := (Array.getElem?_eq_some_iff.1 hB4).1
  have c3 : V.cell? ⟨L.d, 3, none⟩ = some L.hv := Joins.cell_of_block hR4.row 3
  rw [h1] at c3
  refine wpFork_yield (v := .pointer (some ⟨L.d, 0, none⟩)) rfl rfl (fun u _ => by simp [execOp, Act.eval]) ?_
  simp only [Act.put, List.setIfInBounds_toArray, List.set_cons_succ, List.set_cons_zero]
  refine wpFork_yield (v := .pointer (some ⟨L.d, 0, none⟩)) rfl rfl (fun u _ => by simp [execOp, Act.eval]) ?_
  simp only [Act.put, List.setIfInBounds_toArray, List.set_cons_succ, List.set_cons_zero]
  refine wpFork_yield (v := .pointer (some ⟨L.d, 0, none⟩)) rfl rfl (fun u _ => by go_simp) ?_
  simp only [Act.put, List.setIfInBounds_toArray, List.set_cons_succ, List.set_cons_zero]
  refine wpFork_yield (v := .pointer (some ⟨L.d, 3, none⟩)) rfl rfl (fun u _ => by go_simp) ?_
  simp only [Act.put, List.setIfInBounds_toArray, List.set_cons_succ, List.set_cons_zero]
  refine wpFork_yield (v := .int .i64 k) rfl rfl (fun u _ => by simp [execOp, Act.eval]) ?_
  simp only [Act.put, List.setIfInBounds_toArray, List.set_cons_succ, List.set_cons_zero]
  refine wpFork_yield (v := .agg (blk f)) rfl rfl (fun u hu => by
    unfold execOp
    simp only [Act.eval]
    have e := loadM (BlkAt.of hu)
    change Sem.run Tryz.prog (Instr.loadAt 79 (.pointer (some ⟨g0, 0, none⟩)) >>= fun v => pure (Next.value v)) u = _
    simp only [Sem.run_bind, e, Result.andThen_ok, Sem.run_pure]) ?_
  simp only [Act.put, List.setIfInBounds_toArray, List.set_cons_succ, List.set_cons_zero]
  refine wpFork_yield (v := .agg (recCells ⟨1, k, f⟩).toArray) rfl rfl (fun u hu => by
    have e := build108 1 k f u
    simp [execOp, Act.eval, e]) ?_
  simp only [Act.put, List.setIfInBounds_toArray, List.set_cons_succ, List.set_cons_zero]
  have hro' : (letV s).ops.length < 68719476736 := by rw [letV_ops]; exact hro
  obtain ⟨v', W5, hrun, ho5, hF5, hw5⟩ := push_run (W := V) (v := L.hv) ⟨1, k, f⟩ 42 hR4.hist hro'
  obtain ⟨g5, cap5, rfl⟩ : ∃ g5 cap5, v' = Value.slice (some ⟨g5, 0, none⟩) (s.ops ++ [(⟨1, k, f⟩ : Rec)]).length cap5 := by
    rw [letV_ops] at ho5
    rcases ho5.2 with ⟨_, h⟩ | ⟨g, cap', _, h, _⟩
    · simp at h
    · exact ⟨g, cap', h⟩
  have hR5 := hR4.histTo ho5 hF5
  have hD6 : Hid (DiskAt (W5.setCell ⟨L.d, 3, none⟩ (Value.slice (some ⟨g5, 0, none⟩) (s.ops ++ [(⟨1, k, f⟩ : Rec)]).length cap5)) ⟨L.d, L.hb, L.lb, Value.slice (some ⟨g5, 0, none⟩) (s.ops ++ [(⟨1, k, f⟩ : Rec)]).length cap5⟩ (writeS s k f)) := by
    refine RawAt.disk ?_ hok
    have h6 := hR5.cell 3 (Value.slice (some ⟨g5, 0, none⟩) (s.ops ++ [(⟨1, k, f⟩ : Rec)]).length cap5)
    rw [letV_ops] at h6
    rw [writeS_ops]
    exact h6
  have hG6 : Hid (Goes w (W5.setCell ⟨L.d, 3, none⟩ (Value.slice (some ⟨g5, 0, none⟩) (s.ops ++ [(⟨1, k, f⟩ : Rec)]).length cap5)) L ⟨L.d, L.hb, L.lb, Value.slice (some ⟨g5, 0, none⟩) (s.ops ++ [(⟨1, k, f⟩ : Rec)]).length cap5⟩) := by
    refine hG4.trans (Goes.of (T := fun i => L.hv.ownBlock = some i ∨ i = L.d) rfl (fun i hi => ?_) ((hF5.mono fun i _ q => .inl q).trans ((Fr.setCell W5 L.d 3 _).mono fun i _ q => .inr q) fun i _ q => q) fun i _ q => ?_)
    · rcases hi with q | q | q | q
      · exact .inl (.inl q)
      · exact .inl (.inr (.inl q))
      · exact .inl (.inr (.inr (.inl q)))
      · rcases hw5 i q with q | q
        · exact .inl (.inr (.inr (.inr q)))
        · exact .inr q
    · rcases q with q | q
      · exact .inr (.inr (.inr q))
      · exact .inl q
  have S1 := heap_kept hB4 (below_new V (.cells (recCells ⟨1, k, f⟩).toArray 94))
  have S5 : W5.heap[g0]? = some (.cells (blk f) 79) := (hF5.block g0 hlt fun q => by have := hL g0 (.inr (.inr (.inr q))); omega).trans hB4
  have S6 : (W5.setCell ⟨L.d, 3, none⟩ (Value.slice (some ⟨g5, 0, none⟩) (s.ops ++ [(⟨1, k, f⟩ : Rec)]).length cap5)).heap[g0]? = some (.cells (blk f) 79) :=
    (Below.heap_setCell _ _ _ _ (by show g0 ≠ L.d; have := hL L.d (.inl rfl); omega)).trans S5
  have k3 : W5.cell? ⟨L.d, 3, none⟩ = some L.hv := Joins.cell_of_block hR5.row 3
  have f3 : W5.frozen? ⟨L.d, 3, none⟩ = false := Joins.unfrozen_of_block hR5.row 3
  have hdl : L.d < V.heap.size := hR4.lt L.d (.inl rfl)
  have c3' : (V.alloc (.cells (recCells ⟨1, k, f⟩).toArray 94)).cell? ⟨L.d, 3, none⟩ = some (.slice p s.ops.length c) := by rw [World.cell?_alloc_past _ _ _ hdl]; exact c3
  have hbs := build67 ⟨1, k, f⟩ V
  rw [h1] at hrun k3
  clear hR5 hR4 hF5 hw5 ho5 hG4 hok hro'
  generalize hrl : (s.ops ++ [(⟨1, k, f⟩ : Rec)]).length = m5 at *
  generalize hrc : (recCells ⟨1, k, f⟩).toArray = RC at *
  refine wpFork_nil rfl rfl ?_ ?_
  · simp only [inOrd, List.getElem?_cons_zero, List.getElem?_cons_succ]
    refine wpOrd_run (v := .slice p s.ops.length c) (w' := V) rfl (by go_simp) hB4 ?_
    simp only [Act.put, List.setIfInBounds_toArray, List.set_cons_succ, List.set_cons_zero]
    refine wpOrd_run (v := .slice (some ⟨V.heap.size, 0, none⟩) 1 1) (w' := V.alloc (.cells RC 94)) rfl (by simp [execOp, Act.eval, hbs]) S1 ?_
    simp only [Act.put, List.setIfInBounds_toArray, List.set_cons_succ, List.set_cons_zero]
    refine wpOrd_run (v := .slice (some ⟨g5, 0, none⟩) m5 cap5) (w' := W5) rfl (by simp [execOp, Act.eval, resolve, invoke, builtin, hrun, Result.andThen]) S5 ?_
    simp only [Act.put, List.setIfInBounds_toArray, List.set_cons_succ, List.set_cons_zero]
    refine wpOrd_yield (v := .pointer (some ⟨L.d, 0, none⟩)) rfl (fun u _ => by go_simp) ?_
    simp only [Act.put, List.setIfInBounds_toArray, List.set_cons_succ, List.set_cons_zero]
    refine wpOrd_yield (v := .pointer (some ⟨L.d, 3, none⟩)) rfl (fun u _ => by go_simp) ?_
    simp only [Act.put, List.setIfInBounds_toArray, List.set_cons_succ, List.set_cons_zero]
    refine wpOrd_do (w' := W5.setCell ⟨L.d, 3, none⟩ (.slice (some ⟨g5, 0, none⟩) m5 cap5)) rfl (by go_simp) S6 ?_
    refine wpOrd_nil ?_
    simp only [Act.put]
    generalize W5.setCell ⟨L.d, 3, none⟩ (.slice (some ⟨g5, 0, none⟩) m5 cap5) = Y at *
    clear hrun S1 S5 S6 k3 f3 c3' hbs c3
    go_wp2
    go_ret
    exact ⟨rfl, _, hD6.out, hG6.out⟩
  · simp only [inOrd, List.getElem?_cons_zero, List.getElem?_cons_succ]
    refine wpOrd_run (v := .slice (some ⟨V.heap.size, 0, none⟩) 1 1) (w' := V.alloc (.cells RC 94)) rfl (by simp [execOp, Act.eval, hbs]) S1 ?_
    simp only [Act.put, List.setIfInBounds_toArray, List.set_cons_succ, List.set_cons_zero]
    refine wpOrd_run (v := .slice p s.ops.length c) (w' := V.alloc (.cells RC 94)) rfl (by go_simp) S1 ?_
    simp only [Act.put, List.setIfInBounds_toArray, List.set_cons_succ, List.set_cons_zero]
    refine wpOrd_run (v := .slice (some ⟨g5, 0, none⟩) m5 cap5) (w' := W5) rfl (by simp [execOp, Act.eval, resolve, invoke, builtin, hrun, Result.andThen]) S5 ?_
    simp only [Act.put, List.setIfInBounds_toArray, List.set_cons_succ, List.set_cons_zero]
    refine wpOrd_yield (v := .pointer (some ⟨L.d, 0, none⟩)) rfl (fun u _ => by go_simp) ?_
    simp only [Act.put, List.setIfInBounds_toArray, List.set_cons_succ, List.set_cons_zero]
    refine wpOrd_yield (v := .pointer (some ⟨L.d, 3, none⟩)) rfl (fun u _ => by go_simp) ?_
    simp only [Act.put, List.setIfInBounds_toArray, List.set_cons_succ, List.set_cons_zero]
    refine wpOrd_do (w' := W5.setCell ⟨L.d, 3, none⟩ (.slice (some ⟨g5, 0, none⟩) m5 cap5)) rfl (by go_simp) S6 ?_
    refine wpOrd_nil ?_
    simp only [Act.put]
    generalize W5.setCell ⟨L.d, 3, none⟩ (.slice (some ⟨g5, 0, none⟩) m5 cap5) = Y at *
    clear hrun S1 S5 S6 k3 f3 c3' hbs c3
    go_wp2
    go_ret
    exact ⟨rfl, _, hD6.out, hG6.out⟩
end Go.Proofs.YtlcdpmjdnihocaaGreatD
/- Barrier: all that is pending is held, in order, and nothing is pending any more, or the error; for every disk. -/
namespace Go.Proofs.YtlcdpmjdnihocaaGreatD
open Go.RowKit
variable {w : World} {L : Loc} {s : St}

/-- Blocks are held one behind the other. -/
def holdAll (s : St) (l : List Cel) : St := l.foldl (fun s c => holdV s c.1 c.2) s
theorem holdAll_snoc (s : St) (l : List Cel) (c : Cel) : holdAll s (l ++ [c]) = holdV (holdAll s l) c.1 c.2 := by simp [holdAll]
theorem holdAll_same (l : List Cel) : ∀ s : St, ∃ h, holdAll s l = { s with held := h } := by
  induction l with
  | nil => exact fun s => ⟨s.held, rfl⟩
  | cons c t ih =>
    intro s
    obtain ⟨h, e⟩ := ih (holdV s c.1 c.2)
    exact ⟨h, by show holdAll (holdV s c.1 c.2) t = _; rw [e]; rfl⟩
theorem holdAll_wait (s : St) (l : List Cel) : (holdAll s l).wait = s.wait := by obtain ⟨h, e⟩ := holdAll_same l s; rw [e]
theorem holdAll_done (s : St) (l : List Cel) : (holdAll s l).done = s.done := by obtain ⟨h, e⟩ := holdAll_same l s; rw [e]
theorem holdAll_n (s : St) (l : List Cel) : (holdAll s l).n = s.n := by obtain ⟨h, e⟩ := holdAll_same l s; rw [e]
theorem holdAll_ops (s : St) (l : List Cel) : (holdAll s l).ops = s.ops := by unfold St.ops; rw [holdAll_wait, holdAll_done]
theorem take_snoc {l : List Cel} {k : Nat} {c : Cel} (h : l[k]? = some c) : l.take (k + 1) = l.take k ++ [c] := by
  rw [List.take_add_one, h]
  rfl
/-- Behind a barrier. -/
def barS (s : St) : St := { holdAll (letV s) s.wait with done := s.ops ++ [⟨2, 0, nought⟩], wait := [] }
theorem barS_ops (s : St) : (barS s).ops = s.ops ++ [⟨2, 0, nought⟩] := by
  show (s.ops ++ [⟨2, 0, nought⟩]) ++ List.map wrec [] = _
  simp
theorem barS_ok (h : Ok (holdAll (letV s) s.wait)) : Ok (barS s) := ⟨h.n, h.held, fun c hc => by simp [barS] at hc, h.fuse, h.made, h.reads, h.claims⟩
theorem Goes.hold {a b : World} {L : Loc} (h : Fr (fun i => i = L.hb) a b) : Goes a b L L := Goes.of rfl (fun _ q => .inl q) h fun _ _ q => .inr (.inl q)

theorem slice_of {w : World} {v : Value} {n : Nat} {xs : List Value} (h : w.ownsRow 0 94 1026 v n xs) (hn : 0 < n) : ∃ g cap, v = .slice (some ⟨g, 0, none⟩) n cap := by
  rcases h.2 with ⟨_, h⟩ | ⟨g, cap', _, h, _⟩
  · omega
  · exact ⟨g, cap', h⟩
theorem wpList_bar {ops : Array Oper} {rest : List Oper} {o : Oper} {a : Act} {w : World} {Q : Exit → Act → World → Prop} (hgd : o.guard = none) (ho : o.op = .build 94 #[(0, .const (.int .u8 2))])
    (h : wpList Tryz.prog ops Q rest (a.put o.dst (.agg (recCells ⟨2, 0, nought⟩).toArray)) w) : wpList Tryz.prog ops Q (o :: rest) a w :=
  wpList_plain hgd fun _ hK => by
    have e := build108b 2 w
    generalize (recCells ⟨2, 0, nought⟩).toArray = Z at *
    have e' : (execOp a.eval o).run Tryz.prog w = .ok (.value (.agg Z)) w := by simp [execOp, ho, Act.eval, e]
    unfold Oper.wp
    rw [e']
    exact hK _ _ h

set_option maxRecDepth 20000 in
theorem barrier_none {v : Value} (h : NoneAt w v) : Calls Tryz.prog 42 #[v] w fun e w' => e = .returned (.int .i64 1) ∧ w' = w := by
  go_enter Tryz.func42, Tryz.ntmps42
  go_wp2_with (first | (go_at_call 37; refine (none_yes h).mono ?_; rintro e W ⟨rfl, rfl⟩))
  go_ret
  exact ⟨rfl, rfl⟩
set_option maxRecDepth 20000 in
theorem barrier_stopped (h : DiskAt w L s) (hs : s.stopped = true) : Calls Tryz.prog 42 #[.pointer (some ⟨L.d, 0, none⟩)] w fun e w' => e = .returned (.int .i64 3) ∧ w' = w := by
  have c7 := h.c7
  have h0 := h.c0
  rw [hs] at c7
  clear h
  go_enter Tryz.func42, Tryz.ntmps42
  go_wp2_with (first | (go_at_call 37; refine (none_no h0).mono ?_; rintro e W ⟨rfl, rfl⟩))
  go_ret
  exact ⟨rfl, rfl⟩
set_option maxRecDepth 20000 in
theorem barrier_dead (h : DiskAt w L s) (hr : Room s) (hs : s.stopped = false) (hl : lets s = false) : Calls Tryz.prog 42 #[.pointer (some ⟨L.d, 0, none⟩)] w fun e w' => e = .returned (.int .i64 3) ∧ DiskAt w' L (letV s) ∧ Goes w w' L L := by
  have c7 := h.c7
  have h0 := h.c0
  rw [hs] at c7
  have hT := letThrough_of h hr
  rw [hl] at hT
  clear h
  go_enter Tryz.func42, Tryz.ntmps42
  go_wp2_with (first | (go_at_call 37; refine (none_no h0).mono ?_; rintro e W ⟨rfl, rfl⟩) | (go_at_call 63; fail))
  refine hT.mono ?_
  rintro e W ⟨rfl, hD, hG⟩
  have HD : Hid (DiskAt W L (letV s)) := hD
  have HG2 : Hid (Goes _ W L L) := hG
  clear hD hG
  go_wp2
  go_ret
  exact ⟨rfl, HD.out, HG2.out⟩
set_option maxRecDepth 20000 in
set_option maxHeartbeats 2000000 in
theorem barrier_ok (h : DiskAt w L s) (hr : Room s) (hs : s.stopped = false) (hl : lets s = true) :
    Calls Tryz.prog 42 #[.pointer (some ⟨L.d, 0, none⟩)] w fun e w' => e = .returned (.int .i64 0) ∧ ∃ L', DiskAt w' L' (barS s) ∧ Goes w w' L L' := by
  have c7 := h.c7
  have h0 := h.c0
  rw [hs] at c7
  have hT := letThrough_of h hr
  rw [hl] at hT
  have hro := hr.ops
  clear h
  go_enter Tryz.func42, Tryz.ntmps42
  go_wp2_with (first | (go_at_call 37; refine (none_no h0).mono ?_; rintro e W ⟨rfl, he⟩; obtain rfl := he.symm) | (go_at_call 63; fail))
  refine hT.mono ?_
  rintro e W ⟨rfl, hD, hG⟩
  have hP := pending_of hD
  obtain ⟨p, cp, hp1, hp2, hp3⟩ := hD.pend
  rw [hp1, letV_wait] at hP
  rw [letV_wait] at hp2 hp3
  rw [letV_done] at hp3
  have HD : Hid (DiskAt W.drew L (letV s)) := hD.fr (Fr.drew (T := fun _ => False) W) fun _ _ q => q
  have HG2 : Hid (Goes w W.drew L L) := hG.trans ⟨rfl, fun _ q => .inl q, Fr.drew W⟩
  clear hD hG hT hp1 c7
  have HP : Hid (0 < s.wait.length → ∃ g, L.hv.ownBlock = some g ∧ p = some ⟨g, s.done.length * 1026, none⟩) := hp3
  clear hp3
  have hwl : s.wait.length < 68719476736 := by have := ops_len s; omega
  go_wp2_with (go_at_call 54; refine hP.mono ?_; rintro e W1 ⟨rfl, rfl⟩)
  clear hP
  generalize W.drew = V at *
  generalize hm : s.wait.length = m at *
  go_loopw [20] (fun s20 wx => ∃ k : Nat, k ≤ m ∧ s20 = .int .i64 k ∧ Hid (DiskAt wx L (holdAll (letV s) (s.wait.take k))) ∧ Hid (Goes w wx L L)) (fun s20 _ => m - (intOf s20).toNat)
  case atStart => exact ⟨0, by omega, rfl, HD.out, HG2.out⟩
  case round =>
    obtain ⟨k, hk, rfl, HDk, HGk⟩ := hrel
    by_cases hk2 : (k : Int) < m
    · have hkl : k < s.wait.length := by omega
      obtain ⟨g, hg, rfl⟩ := HP.out (by omega)
      have hc : s.wait[k]? = some s.wait[k] := List.getElem?_eq_getElem hkl
      generalize s.wait[k] = c at hc
      have hop : (holdAll (letV s) (s.wait.take k)).ops[s.done.length + k]? = some (wrec c) := by rw [holdAll_ops, letV_ops]; exact ops_wait s hc
      have HDd : DiskAt wr.drew L (holdAll (letV s) (s.wait.take k)) := HDk.out.fr (Fr.drew (T := fun _ => False) wr) fun _ _ q => q
      have hpos := HDk.out.histPos hg hop
      have hblk := HDd.histBlk hg hop
      have hcw := HDd.ok.wait c (by rw [holdAll_wait, letV_wait]; exact List.mem_of_getElem? hc)
      rw [holdAll_n] at hcw
      have HH := hold_of HDd (by rw [holdAll_n]; exact hcw.1) hcw.2 hblk
      rw [← holdAll_snoc, ← take_snoc hc] at HH
      have e1 : (s.done.length + k) * 1026 = s.done.length * 1026 + k * 1026 := Nat.add_mul _ _ _
      rw [e1] at hpos HH
      have hpos' : wr.cell? ⟨g, s.done.length * 1026 + k * 1026 + 1, none⟩ = some (.int .i64 c.1) := hpos
      have HH2 : Hid (Calls Tryz.prog 36 #[.pointer (some ⟨L.d, 0, none⟩), .int .i64 c.1, .pointer (some ⟨g, s.done.length * 1026 + k * 1026 + 2, none⟩)] wr.drew fun e w' => e = .returned (.tuple #[]) ∧ DiskAt w' L (holdAll (letV s) (s.wait.take (k + 1))) ∧ Goes w w' L L) :=
        Calls.mono HH fun e w' ⟨h1, h2, h3⟩ => ⟨h1, h2, (HGk.out.trans ⟨rfl, fun _ q => .inl q, Fr.drew wr⟩).trans (Goes.hold h3)⟩
      generalize s.done.length * 1026 = D at *
      clear HH hpos hblk hop hc e1 HDk hcw HDd HGk
      go_wp2
      go_still_tail 10, (by kernel_rfl)
      change wpList _ _ _ _ _ (World.drew _)
      go_wp2_with (go_at_call 36; fail)
      refine HH2.out.mono ?_
      rintro e W2 ⟨rfl, hD2, hG2⟩
      have HD2 : Hid (DiskAt W2 L (holdAll (letV s) (s.wait.take (k + 1)))) := hD2
      have HG3 : Hid (Goes w W2 L L) := hG2
      clear hD2 hG2 HH2
      go_wp2
      exact ⟨⟨k + 1, by omega, by go_num, HD2.out, HG3.out⟩, by simp [intOf]; omega⟩
    · obtain rfl : k = m := by omega
      have hD := HDk.out
      rw [← hm, List.take_length] at hD
      have hG := HGk.out
      clear HDk HGk HP
      have hRaw := hD.raw
      rw [holdAll_ops, letV_ops] at hRaw
      have c3 := hD.c3
      obtain ⟨p', c', h1, h2, h3, h4⟩ := hD.shape
      rw [holdAll_ops, letV_ops] at h1
      rw [h1] at c3
      have hbl := fun u => build67 ⟨2, 0, nought⟩ u
      have hh := hRaw.hist
      rw [h1] at hh
      have hl0 : 0 < (s.ops ++ [(⟨2, 0, nought⟩ : Rec)]).length := by simp
      go_wp2_with (first | refine wpList_bar rfl rfl ?_ | refine wpList_build1 rfl 42 94 (.tmp 40) rfl _ rfl (hbl _) ?_ | (at_builtin; refine wpList_pushR rfl (.tmp 39) (.tmp 41) rfl (.slice p' s.ops.length c') s.ops ⟨2, 0, nought⟩ rfl rfl hh hro ?_; intro v' W5 ho5 hF5 hw5; obtain ⟨g5, cap5, rfl⟩ := slice_of ho5 hl0; rw [← h1] at hF5 hw5; have hR5 := hRaw.histTo ho5 hF5; have k3 : W5.cell? ⟨L.d, 3, none⟩ = some L.hv := Joins.cell_of_block hR5.row 3; rw [h1] at k3; have f3 : W5.frozen? ⟨L.d, 3, none⟩ = false := Joins.unfrozen_of_block hR5.row 3) | (go_at_call 64; fail))
      have hn1 : (s.ops ++ [(⟨2, 0, nought⟩ : Rec)]).length = s.ops.length + 1 := by simp
      have hR5' : RawAt W5 ⟨L.d, L.hb, L.lb, .slice (some ⟨g5, 0, none⟩) (s.ops.length + 1) cap5⟩ (dkRow L (holdAll (letV s) s.wait)) (heldV (holdAll (letV s) s.wait)) (lateV (holdAll (letV s) s.wait)) (s.ops ++ [⟨2, 0, nought⟩]) := hn1 ▸ hR5
      have hw5' : ∀ k, (Value.slice (some ⟨g5, 0, none⟩) (s.ops.length + 1) cap5).ownBlock = some k → L.hv.ownBlock = some k ∨ wr.heap.size ≤ k := hw5
      have hR6 := hR5'.cell 3 (.slice (some ⟨g5, 0, none⟩) (s.ops.length + 1) cap5)
      have hok := barS_ok hD.ok
      clear hR5 hR5' hRaw hw5 ho5 hh hbl c3 k3 f3
      have hF6 : Fr (fun i => L.hv.ownBlock = some i ∨ i = L.d) wr (W5.setCell ⟨L.d, 3, none⟩ (.slice (some ⟨g5, 0, none⟩) (s.ops.length + 1) cap5)) :=
        (hF5.mono fun i _ q => .inl q).trans ((Fr.setCell W5 L.d 3 _).mono fun i _ q => .inr q) fun i _ q => q
      generalize W5.setCell ⟨L.d, 3, none⟩ (.slice (some ⟨g5, 0, none⟩) (s.ops.length + 1) cap5) = W6 at *
      refine (nothing_of (d := L.d) (n := (holdAll (letV s) s.wait).n) (hb := L.hb) (p := some ⟨g5, 0, none⟩) (m := s.ops.length + 1) (c := cap5) (bh := ((holdAll (letV s) s.wait).done.length : Int)) (lb := L.lb) (fu := (holdAll (letV s) s.wait).fuse) (st := (holdAll (letV s) s.wait).stopped) (ma := (holdAll (letV s) s.wait).made) (re := (holdAll (letV s) s.wait).reads) (cl := (holdAll (letV s) s.wait).claims) (cd := (holdAll (letV s) s.wait).claimed) hR6.row).mono ?_
      rintro e W7 ⟨rfl, hrow7, hM7, hF7⟩
      have hlb : L.hb < W6.heap.size := hR6.held.lt
      have hR7 := (hR6.rowTo hrow7 hF7).lateNew (b := W6.heap.size) (by show L.hb ≠ _; omega) hM7
      have hD7 : Hid (DiskAt W7 ⟨L.d, L.hb, W6.heap.size, .slice (some ⟨g5, 0, none⟩) (s.ops.length + 1) cap5⟩ (barS s)) := by
        refine RawAt.disk ?_ hok
        rw [barS_ops]
        have e1 : lateV (barS s) = fun _ => none := by funext y; rfl
        have e2 : dkRow ⟨L.d, L.hb, W6.heap.size, .slice (some ⟨g5, 0, none⟩) (s.ops.length + 1) cap5⟩ (barS s) = row12 L.d (holdAll (letV s) s.wait).n L.hb (.slice (some ⟨g5, 0, none⟩) (s.ops.length + 1) cap5) ((s.ops.length + 1 : Nat) : Int) W6.heap.size (holdAll (letV s) s.wait).fuse (holdAll (letV s) s.wait).stopped (holdAll (letV s) s.wait).made (holdAll (letV s) s.wait).reads (holdAll (letV s) s.wait).claims (holdAll (letV s) s.wait).claimed := by
          rw [← hn1]
          rfl
        rw [e1, e2]
        exact hR7
      have hG7 : Hid (Goes w W7 L ⟨L.d, L.hb, W6.heap.size, .slice (some ⟨g5, 0, none⟩) (s.ops.length + 1) cap5⟩) := by
        refine hG.trans (Goes.of (T := fun i => L.hv.ownBlock = some i ∨ i = L.d) rfl (fun i hi => ?_) (hF6.trans (hF7.mono fun i _ q => .inr q) fun i _ q => q) fun i _ q => ?_)
        · rcases hi with q | q | q | q
          · exact .inl (.inl q)
          · exact .inl (.inr (.inl q))
          · have q' : i = W6.heap.size := q
            have := hF6.size
            exact .inr (by omega)
          · rcases hw5' i q with q | q
            · exact .inl (.inr (.inr (.inr q)))
            · exact .inr q
        · rcases q with q | q
          · exact .inr (.inr (.inr q))
          · exact .inl q
      clear hR7 hrow7 hM7 hF7 hR6 hF6 hF5 hD hG hw5' hok hn1
      go_wp2
      go_ret
      exact ⟨rfl, _, hD7.out, hG7.out⟩
end Go.Proofs.YtlcdpmjdnihocaaGreatD
/- Crash: of what is pending that is held which is kept, in order; nothing is pending then, there is no fuse, nobody's claim; for every disk and every choice. -/
namespace Go.Proofs.YtlcdpmjdnihocaaGreatD
open Go.RowKit
variable {w : World} {L : Loc} {s : St}

/-- v is a list of bools in memory. -/
def BoolsAt (w : World) (v : Value) (l : List Bool) : Prop := ∃ p c, v = .slice p l.length c ∧ (0 < l.length → ∃ b off, p = some ⟨b, off, none⟩ ∧ ∀ i x, l[i]? = some x → w.cell? ⟨b, off + i, none⟩ = some (.bool x))
theorem BoolsAt.kept {w w' : World} {v : Value} {l : List Bool} {T : Nat → Prop} (h : BoolsAt w v l) (hf : Fr T w w') (hT : ∀ b x off, w.cell? ⟨b, off, none⟩ = some (.bool x) → ¬ T b) : BoolsAt w' v l := by
  obtain ⟨p, c, h1, h2⟩ := h
  refine ⟨p, c, h1, fun hl => ?_⟩
  obtain ⟨b, off, h3, h4⟩ := h2 hl
  refine ⟨b, off, h3, fun i x hx => ?_⟩
  have h5 := h4 i x hx
  have hlt : b < w.heap.size := by
    by_cases q : b < w.heap.size
    · exact q
    · unfold World.cell? at h5
      simp only [Array.getElem?_eq_none (show w.heap.size ≤ b by omega)] at h5
      simp at h5
  rw [← h5]
  exact World.cell?_of_block (hf.block b hlt (hT b x _ h5))
/-- Those that are kept. -/
def keptL : List Cel → List Bool → List Cel
  | c :: t, true :: k => c :: keptL t k
  | _ :: t, false :: k => keptL t k
  | _, _ => []
theorem keptL_snoc (c : Cel) (b : Bool) : ∀ (l : List Cel) (k : List Bool), l.length = k.length → keptL (l ++ [c]) (k ++ [b]) = keptL l k ++ (if b then [c] else [])
  | [], [], _ => by cases b <;> rfl
  | x :: l, y :: k, h => by
    have ih := keptL_snoc c b l k (by simpa using h)
    cases y
    · exact ih
    · show x :: keptL (l ++ [c]) (k ++ [b]) = _
      rw [ih]; rfl
  | [], _ :: _, h => by simp at h
  | _ :: _, [], h => by simp at h
theorem keptL_take : ∀ (l : List Cel) (k : List Bool) (n : Nat), l.length ≤ n ∨ k.length ≤ n → keptL (l.take n) (k.take n) = keptL l k
  | [], k, n, _ => by simp [keptL]
  | x :: l, [], n, _ => by cases n <;> simp [keptL]
  | x :: l, y :: k, 0, h => by simp at h
  | x :: l, y :: k, n + 1, h => by
    have ih := keptL_take l k n (by simpa using h)
    cases y
    · exact ih
    · show x :: keptL (l.take n) (k.take n) = x :: keptL l k
      rw [ih]
/-- Behind the power's going. -/
def crashS (s : St) (k : List Bool) : St := { holdAll s (keptL s.wait k) with done := [], wait := [], fuse := -1, stopped := false, claimed := false }
theorem crashS_ok {k : List Bool} (h : Ok (holdAll s (keptL s.wait k))) : Ok (crashS s k) :=
  ⟨h.n, h.held, fun c hc => by simp [crashS] at hc, ⟨by show (-1 : Int) ≤ -1; omega, by show (-1 : Int) ≤ _; omega⟩, h.made, h.reads, h.claims⟩
theorem bool_no_map {w : World} {b hb off : Nat} {m : Int → Option Value} {x : Bool} (h : w.cell? ⟨b, off, none⟩ = some (.bool x)) (hm : MapIs Tryz.prog 3 w hb m) : b ≠ hb := fun e => by
  obtain ⟨es, ck, hh⟩ := hm.isMap
  rw [e] at h
  unfold World.cell? at h
  simp only [hh] at h
  simp at h
end Go.Proofs.YtlcdpmjdnihocaaGreatD
/- Pending and History: what is pending, and all that was done, in new memory; for every disk. -/
namespace Go.Proofs.YtlcdpmjdnihocaaGreatD
open Go.RowKit
variable {w : World} {L : Loc} {s : St}

/-- n numbers in a row. -/
def iRow (f : Nat → Int) (n : Nat) : Array Value := ((List.range n).map fun i => Value.int .i64 (f i)).toArray
theorem iRow_size (f : Nat → Int) (n : Nat) : (iRow f n).size = n := by simp [iRow]
theorem iRow_get (f : Nat → Int) (n i : Nat) (h : i < n) : (iRow f n)[i]? = some (.int .i64 (f i)) := by simp [iRow, h]
theorem iRow_set (f : Nat → Int) (n i : Nat) (x : Int) : (iRow f n).setIfInBounds i (.int .i64 x) = iRow (upd f i x) n := by
  apply Array.ext_getElem?
  intro j
  by_cases hj : j < n
  · rw [iRow_get _ _ _ hj, Array.getElem?_setIfInBounds]
    by_cases e : i = j
    · subst e; simp [iRow_size, hj, upd]
    · have e' : ¬ j = i := fun q => e q.symm
      simp [e, e', iRow_get _ _ _ hj, upd]
  · rw [Array.getElem?_eq_none (by rw [Array.size_setIfInBounds, iRow_size]; omega), Array.getElem?_eq_none (by rw [iRow_size]; omega)]
theorem info3b : (Tryz.prog.info? 3).map (fun i => (i.zero, i.size, i.bytes)) = some (some (.int .i64 0), 1, 8) := by kernel_rfl
theorem made_ints (n : Nat) : madeCells #[.int .i64 0] n = iRow nought n := by
  apply Array.ext_getElem?
  intro j
  by_cases hj : j < n
  · rw [iRow_get _ _ _ hj]
    simp [madeCells, hj, nought, Nat.mod_one]
  · rw [Array.getElem?_eq_none (by simp [madeCells]; omega), Array.getElem?_eq_none (by rw [iRow_size]; omega)]
theorem run_make65 (u : World) (n : Nat) (hn : n * 8 ≤ 281474976710656) :
    (Instr.makeSlice 70 (.int .i64 (n : Int)) (.int .i64 (n : Int))).run Tryz.prog u = .ok (.slice (some ⟨u.heap.size, 0, none⟩) n n) (u.alloc (.cells (iRow nought n) 3)) := by
  obtain ⟨i0, hi0, hz0, hz1, hz2⟩ := info_parts info3b
  have h := run_make (P := Tryz.prog) u 70 3 i0 (.int .i64 0) Tryz.underlying70 hi0 hz0 .i64 .i64 n n (by omega) (Int.le_refl _) (by rw [hz2]; omega) (by omega)
  rw [Int.toNat_natCast, hz1] at h
  rw [h]
  simp [Value.cells, made_ints]
def posF (l : List Cel) (i : Nat) : Int := match l[i]? with
  | some c => c.1
  | none => 0
def firstI (f : Nat → Int) (k : Nat) : Nat → Int := fun i => if i < k then f i else 0
theorem firstI_next (f : Nat → Int) (k : Nat) : upd (firstI f k) k (f k) = firstI f (k + 1) := firsts_next f k
theorem iRow_congr {f g : Nat → Int} {n : Nat} (h : ∀ i, i < n → f i = g i) : iRow f n = iRow g n := by
  apply Array.ext_getElem?
  intro j
  by_cases hj : j < n
  · rw [iRow_get _ _ _ hj, iRow_get _ _ _ hj, h j hj]
  · rw [Array.getElem?_eq_none (by rw [iRow_size]; omega), Array.getElem?_eq_none (by rw [iRow_size]; omega)]
set_option maxRecDepth 20000 in
theorem pend_none {v : Value} (h : NoneAt w v) : Calls Tryz.prog 31 #[v] w fun e w' => e = .returned (.slice none 0 0) ∧ w' = w := by
  go_enter Tryz.func31, Tryz.ntmps31
  go_wp2_with (first | (go_at_call 37; refine (none_yes h).mono ?_; rintro e W ⟨rfl, rfl⟩))
  go_ret
  exact ⟨rfl, rfl⟩
set_option maxRecDepth 20000 in
set_option maxHeartbeats 1000000 in
theorem pend_of (h : DiskAt w L s) (hwl : s.wait.length < 68719476736) :
    Calls Tryz.prog 31 #[.pointer (some ⟨L.d, 0, none⟩)] w fun e w' => e = .returned (.slice (some ⟨w.heap.size, 0, none⟩) s.wait.length s.wait.length) ∧ w'.heap[w.heap.size]? = some (.cells (iRow (posF s.wait) s.wait.length) 3) ∧ Below w.heap.size w w' := by
  have h0 := h.c0
  have hP := pending_of h
  obtain ⟨p, cp, hp1, hp2, hp3⟩ := h.pend
  rw [hp1] at hP
  have HP : Hid (0 < s.wait.length → ∃ g, L.hv.ownBlock = some g ∧ p = some ⟨g, s.done.length * 1026, none⟩) := hp3
  have HD : Hid (DiskAt w L s) := h
  clear h hp1 hp3
  generalize hm : s.wait.length = m at *
  have hmk := fun u => run_make65 u m (by omega)
  go_enter Tryz.func31, Tryz.ntmps31
  go_wp2_with (first | (go_at_call 37; refine (none_no h0).mono ?_; rintro e W ⟨rfl, he⟩; obtain rfl := he.symm) | (go_at_call 54; refine hP.mono ?_; rintro e W1 ⟨rfl, rfl⟩))
  have hS : Hid ((w.alloc (.cells (iRow nought m) 3)).drew.heap[w.heap.size]? = some (.cells (iRow (firstI (posF s.wait) 0) m) 3)) := by
    rw [show iRow (firstI (posF s.wait) 0) m = iRow nought m from iRow_congr fun i _ => by simp [firstI, nought]]
    exact heap_alloc_new w _
  have hB : Hid (Below w.heap.size w (w.alloc (.cells (iRow nought m) 3)).drew) := (below_new w _).drew
  clear hP hmk
  generalize (w.alloc (.cells (iRow nought m) 3)).drew = V at *
  go_loopw [15] (fun s15 wx => ∃ k : Nat, k ≤ m ∧ s15 = .int .i64 k ∧ Hid (wx.heap[w.heap.size]? = some (.cells (iRow (firstI (posF s.wait) k) m) 3)) ∧ Hid (Below w.heap.size w wx)) (fun s15 _ => m - (intOf s15).toNat)
  case atStart => exact ⟨0, by omega, rfl, hS.out, hB.out⟩
  case round =>
    obtain ⟨k, hk, rfl, HS, HB⟩ := hrel
    clear hS hB
    by_cases hk2 : (k : Int) < m
    · have hkl : k < s.wait.length := by omega
      obtain ⟨g, hg, rfl⟩ := HP.out (by omega)
      have hc : s.wait[k]? = some s.wait[k] := List.getElem?_eq_getElem hkl
      generalize s.wait[k] = c at hc
      have hpos := (HD.out.later HB.out).histPos hg (ops_wait s hc)
      have e1 : (s.done.length + k) * 1026 = s.done.length * 1026 + k * 1026 := Nat.add_mul _ _ _
      rw [e1] at hpos
      have hpf : posF s.wait k = c.1 := by unfold posF; rw [hc]
      have hpos' : wr.cell? ⟨g, s.done.length * 1026 + k * 1026 + 1, none⟩ = some (.int .i64 c.1) := hpos
      have ck : wr.cell? ⟨w.heap.size, k, none⟩ = some (.int .i64 (firstI (posF s.wait) k k)) := (Joins.cell_of_block HS.out k).trans (iRow_get _ _ _ (by omega))
      have fk : wr.frozen? ⟨w.heap.size, k, none⟩ = false := Joins.unfrozen_of_block HS.out k
      have HS2 : Hid ((wr.setCell ⟨w.heap.size, k, none⟩ (.int .i64 c.1)).heap[w.heap.size]? = some (.cells (iRow (firstI (posF s.wait) (k + 1)) m) 3)) := by
        have q := Joins.block_setCell HS.out (i := k) (.int .i64 c.1)
        rw [iRow_set, ← hpf, firstI_next] at q
        rw [← hpf]
        exact q
      have HB2 : Hid (Below w.heap.size w (wr.setCell ⟨w.heap.size, k, none⟩ (.int .i64 c.1))) := HB.out.setCell (Nat.le_refl _) _
      generalize s.done.length * 1026 = D at *
      generalize firstI (posF s.wait) k k = X at ck
      clear HS HB hpos hc e1 hpf
      go_wp2
      exact ⟨⟨k + 1, by omega, by go_num, HS2.out, HB2.out⟩, by simp [intOf]; omega⟩
    · obtain rfl : k = m := by omega
      have HS2 : Hid (wr.heap[w.heap.size]? = some (.cells (iRow (posF s.wait) k) 3)) := by
        have q := HS.out
        rw [show iRow (firstI (posF s.wait) k) k = iRow (posF s.wait) k from iRow_congr fun i hi => by simp [firstI, hi]] at q
        exact q
      clear HS
      go_wp2
      go_ret
      exact ⟨rfl, HS2.out, HB.out⟩
theorem run_copy_wide {P : Program} (w : World) (dT sT ty elem : TypeId) (sz : Nat) (g o dLen dCap : Nat) (a : Addr) (sLen sCap : Nat) (cur : Array Value) (t : TypeId) (cs : List Value)
    (hu : P.underlying dT = some (.slice elem)) (hs : (P.info? elem).map (·.size) = some sz)
    (hg : w.heap[g]? = some (.cells cur t (0, 0))) (hn : cs.length = Nat.min sLen dLen * sz)
    (hsrc : ∀ j v, cs[j]? = some v → w.cell? (a.add j) = some v) (hfit : o + cs.length ≤ cur.size) (h1 : ∀ v ∈ cs, v.oneCell' = true) :
    (Builtin.copy_ #[dT, sT] ty #[.slice (some ⟨g, o, none⟩) dLen dCap, .slice (some a) sLen sCap]).run P w =
      .ok (goInt (Nat.min sLen dLen)) (w.setRow g (cur.toList.take o ++ cs ++ cur.toList.drop (o + cs.length)).toArray) := by
  have hl := run_loadCells_list (P := P) w a cs hsrc
  have hst := run_storeCells_at P g o t cs 0 cur w hg (by simpa using hfit) h1
  cases hq : P.info? elem with
  | none => simp [hq] at hs
  | some i =>
    have hi : i.size = sz := by simpa [hq] using hs
    simp [Builtin.copy_, run_underlying hu, Builtin.lenOf, Builtin.firstCells, sizeOf, typeInfo, hq, hi, ← hn, hl, hst]
theorem size108 : (Tryz.prog.info? 94).map (·.size) = some 1026 := by
  obtain ⟨i0, hi0, hz0, hz1, hz2⟩ := info_parts info108
  rw [hi0]
  exact congrArg some hz1
theorem run_make67 (u : World) (n : Nat) (hn : n * 1040 ≤ 281474976710656) :
    ∃ cur, cur.size = n * 1026 ∧ (Instr.makeSlice 42 (.int .i64 (n : Int)) (.int .i64 (n : Int))).run Tryz.prog u = .ok (.slice (some ⟨u.heap.size, 0, none⟩) n n) (u.alloc (.cells cur 94)) := by
  obtain ⟨i0, hi0, hz0, hz1, hz2⟩ := info_parts info108
  have h := run_make (P := Tryz.prog) u 42 94 i0 _ Tryz.underlying42 hi0 hz0 .i64 .i64 n n (by omega) (Int.le_refl _) (by rw [hz2]; omega) (by omega)
  rw [Int.toNat_natCast, hz1] at h
  exact ⟨_, by simp [madeCells], h⟩
set_option maxRecDepth 20000 in
theorem history_none {v : Value} (h : NoneAt w v) : Calls Tryz.prog 18 #[v] w fun e w' => e = .returned (.slice none 0 0) ∧ w' = w := by
  go_enter Tryz.func18, Tryz.ntmps18
  go_wp2_with (first | (go_at_call 37; refine (none_yes h).mono ?_; rintro e W ⟨rfl, rfl⟩))
  go_ret
  exact ⟨rfl, rfl⟩
theorem wpList_copyH {ops : Array Oper} {rest : List Oper} {o : Oper} {a : Act} {W W' : World} {Q : Exit → Act → World → Prop} (hgd : o.guard = none) (s x : Operand)
    (ho : o.op = .call { callee := .builtin .copy, args := #[s, x], argTypes := #[42, 42] }) (v v' : Value) (hs : a.eval s = v) (hx : a.eval x = v') (n : Nat)
    (hr : ∀ ty, (Builtin.copy_ #[42, 42] ty #[v, v']).run Tryz.prog W = .ok (goInt n) W') (h : wpList Tryz.prog ops Q rest (a.put o.dst (goInt n)) W') : wpList Tryz.prog ops Q (o :: rest) a W := by
  refine wpList_plain hgd fun K' hK' => ?_
  unfold Oper.wp
  simp [execOp, ho, resolve, invoke, builtin, hs, hx, hr, Result.andThen]
  exact hK' _ _ h
set_option maxRecDepth 20000 in
set_option maxHeartbeats 1000000 in
theorem history_of (h : DiskAt w L s) (hol : s.ops.length < 68719476736) :
    Calls Tryz.prog 18 #[.pointer (some ⟨L.d, 0, none⟩)] w fun e w' => e = .returned (.slice (some ⟨w.heap.size, 0, none⟩) s.ops.length s.ops.length) ∧ w'.heap[w.heap.size]? = some (.cells (opCells s.ops).toArray 94) ∧ Below w.heap.size w w' := by
  have h0 := h.c0
  have c3 := h.c3
  obtain ⟨p, c, h1, h2, h3, h4⟩ := h.shape
  rw [h1] at c3
  obtain ⟨cur, hcs, hmk⟩ := run_make67 w s.ops.length (by omega)
  have hnew := heap_alloc_new w (.cells cur 94)
  have hcl := opCells_len s.ops
  have hcopy : ∃ W', (∀ ty, (Builtin.copy_ #[42, 42] ty #[.slice (some ⟨w.heap.size, 0, none⟩) s.ops.length s.ops.length, .slice p s.ops.length c]).run Tryz.prog (w.alloc (.cells cur 94)) = .ok (goInt s.ops.length) W') ∧ W'.heap[w.heap.size]? = some (.cells (opCells s.ops).toArray 94) ∧ Below w.heap.size w W' := by
    rcases h4 with ⟨rfl, h5⟩ | ⟨g, rfl, h6, hlt⟩
    · have hn0 : s.ops.length = 0 := by omega
      refine ⟨w.alloc (.cells cur 94), fun ty => ?_, ?_, below_new w _⟩
      · have q := run_copy_nil (P := Tryz.prog) (w.alloc (.cells cur 94)) 42 42 ty 94 ⟨w.heap.size, 0, none⟩ s.ops.length s.ops.length Tryz.underlying42 (by rw [size108]; rfl)
        rw [hn0, h5] at *
        exact q
      · rw [hnew]
        have e1 : s.ops = [] := List.length_eq_zero_iff.1 hn0
        have e2 : cur = #[] := Array.size_eq_zero_iff.1 (by rw [hcs, hn0])
        rw [e1, e2]
        rfl
    · have hsrc : ∀ j v, (opCells s.ops)[j]? = some v → (w.alloc (.cells cur 94)).cell? ((⟨g, 0, none⟩ : Addr).add j) = some v := fun j v hv => by
        have q := h.hist.cells (g := g) (by rw [h1]; rfl) j v hv
        rw [Go.WideShapes.add_plain] at q ⊢
        rw [World.cell?_alloc_past _ _ _ hlt]
        exact q
      have h1c : ∀ v ∈ opCells s.ops, v.oneCell' = true := fun v hv => by
        obtain ⟨r, _, hr⟩ := List.mem_flatMap.1 hv
        exact recCells_one r v hr
      have q := fun ty => run_copy_wide (P := Tryz.prog) (w.alloc (.cells cur 94)) 42 42 ty 94 1026 w.heap.size 0 s.ops.length s.ops.length ⟨g, 0, none⟩ s.ops.length c cur 94 (opCells s.ops) Tryz.underlying42 size108 hnew (by rw [hcl]; exact congrArg (· * 1026) (Nat.min_self _).symm) hsrc (by rw [hcl, hcs]; omega) h1c
      have e3 : (cur.toList.take 0 ++ opCells s.ops ++ cur.toList.drop (0 + (opCells s.ops).length)).toArray = (opCells s.ops).toArray := by
        rw [List.take_zero, List.nil_append, List.drop_eq_nil_of_le (by rw [Array.length_toList, hcs, hcl]; omega), List.append_nil]
      rw [e3] at q
      refine ⟨_, fun ty => (q ty).trans (by rw [show Nat.min s.ops.length s.ops.length = s.ops.length from Nat.min_self _]), setRow_heap _ _ _ _ _ _ hnew, below_setRow (below_new w _) (Nat.le_refl _) _⟩
  obtain ⟨W', hr, hh, hb⟩ := hcopy
  have HH : Hid (W'.heap[w.heap.size]? = some (.cells (opCells s.ops).toArray 94)) := hh
  have HB : Hid (Below w.heap.size w W') := hb
  have hlt : L.d < w.heap.size := h.lt L.d (.inl rfl)
  have c3' : (w.alloc (.cells cur 94)).cell? ⟨L.d, 3, none⟩ = some (.slice p s.ops.length c) := by rw [World.cell?_alloc_past _ _ _ hlt]; exact c3
  clear h hh hb hnew hcl h4 h2 h3 hcs h1
  generalize s.ops.length = m at *
  go_enter Tryz.func18, Tryz.ntmps18
  go_wp2_with (first | (go_at_call 37; refine (none_no h0).mono ?_; rintro e W ⟨rfl, he⟩; obtain rfl := he.symm) | refine wpList_copyH rfl (.tmp 12) (.tmp 16) rfl _ _ rfl rfl m hr ?_)
  go_ret
  exact ⟨rfl, HH.out, HB.out⟩
end Go.Proofs.YtlcdpmjdnihocaaGreatD
/- slices.Sort at lists of int over this program: the list's numbers lie there rising, behind it; laid by the shelf's own table; no condition but the list's length. -/
namespace Go.Proofs
open Go.Shelf
def Tryz.lays189_ren : Go.Shelf.Ren := ⟨fun | 189 => 49 | 125 => 73 | 257 => 72 | 128 => 117 | 129 => 118 | 294 => 108 | 295 => 109 | 296 => 110 | 297 => 111 | 298 => 112 | 299 => 113 | 216 => 114 | 300 => 115 | 301 => 116 | 328 => 144 | 329 => 145 | 330 => 146 | 331 => 147 | 332 => 148 | 215 => 149 | 343 => 160 | n => n, fun | 28 => 70 | 3 => 3 | 46 => 128 | 0 => 0 | 51 => 108 | 53 => 173 | 4 => 4 | 183 => 164 | 182 => 163 | 131 => 169 | 5 => 5 | 9 => 9 | 218 => 217 | 222 => 221 | 228 => 229 | 229 => 191 | n => n, fun | n => n⟩
theorem Tryz.lays189 : Go.Proofs.Lays.n189 Tryz.prog Tryz.lays189_ren := {
  mixed := by kernel_rfl
  f125 := Tryz.func73.trans (congrArg some (by kernel_rfl))
  f128 := Tryz.func117.trans (congrArg some (by kernel_rfl))
  f129 := Tryz.func118.trans (congrArg some (by kernel_rfl))
  f189 := Tryz.func49.trans (congrArg some (by kernel_rfl))
  f215 := Tryz.func149.trans (congrArg some (by kernel_rfl))
  f216 := Tryz.func114.trans (congrArg some (by kernel_rfl))
  f257 := Tryz.func72.trans (congrArg some (by kernel_rfl))
  f294 := Tryz.func108.trans (congrArg some (by kernel_rfl))
  f295 := Tryz.func109.trans (congrArg some (by kernel_rfl))
  f296 := Tryz.func110.trans (congrArg some (by kernel_rfl))
  f297 := Tryz.func111.trans (congrArg some (by kernel_rfl))
  f298 := Tryz.func112.trans (congrArg some (by kernel_rfl))
  f299 := Tryz.func113.trans (congrArg some (by kernel_rfl))
  f300 := Tryz.func115.trans (congrArg some (by kernel_rfl))
  f301 := Tryz.func116.trans (congrArg some (by kernel_rfl))
  f328 := Tryz.func144.trans (congrArg some (by kernel_rfl))
  f329 := Tryz.func145.trans (congrArg some (by kernel_rfl))
  f330 := Tryz.func146.trans (congrArg some (by kernel_rfl))
  f331 := Tryz.func147.trans (congrArg some (by kernel_rfl))
  f332 := Tryz.func148.trans (congrArg some (by kernel_rfl))
  f343 := Tryz.func160.trans (congrArg some (by kernel_rfl))
  t0 := Tryz.underlying0
  a0 := Tryz.isAgg0
  z0 := Tryz.sizeOf0
  v0 := Tryz.zeroValue0
  t3 := Tryz.underlying3
  a3 := Tryz.isAgg3
  z3 := Tryz.sizeOf3
  v3 := Tryz.zeroValue3
  t4 := Tryz.underlying4
  a4 := Tryz.isAgg4
  z4 := Tryz.sizeOf4
  v4 := Tryz.zeroValue4
  t5 := Tryz.underlying5
  a5 := Tryz.isAgg5
  z5 := Tryz.sizeOf5
  v5 := Tryz.zeroValue5
  t9 := Tryz.underlying9
  a9 := Tryz.isAgg9
  z9 := Tryz.sizeOf9
  v9 := Tryz.zeroValue9
  t28 := Tryz.underlying70
  a28 := Tryz.isAgg70
  z28 := Tryz.sizeOf70
  v28 := Tryz.zeroValue70
  t46 := Tryz.underlying128
  a46 := Tryz.isAgg128
  z46 := Tryz.sizeOf128
  v46 := Tryz.zeroValue128
  t51 := Tryz.underlying108
  a51 := Tryz.isAgg108
  z51 := Tryz.sizeOf108
  v51 := Tryz.zeroValue108
  t53 := Tryz.underlying173
  a53 := Tryz.isAgg173
  z53 := Tryz.sizeOf173
  v53 := Tryz.zeroValue173
  t131 := Tryz.underlying169
  a131 := Tryz.isAgg169
  z131 := Tryz.sizeOf169
  v131 := Tryz.zeroValue169
  t182 := Tryz.underlying163
  a182 := Tryz.isAgg163
  z182 := Tryz.sizeOf163
  v182 := Tryz.zeroValue163
  t183 := Tryz.underlying164
  a183 := Tryz.isAgg164
  z183 := Tryz.sizeOf164
  v183 := Tryz.zeroValue164
  t218 := Tryz.underlying217
  a218 := Tryz.isAgg217
  z218 := Tryz.sizeOf217
  v218 := Tryz.zeroValue217
  t222 := Tryz.underlying221
  a222 := Tryz.isAgg221
  z222 := Tryz.sizeOf221
  v222 := Tryz.zeroValue221
  t228 := Tryz.underlying229
  a228 := Tryz.isAgg229
  z228 := Tryz.sizeOf229
  v228 := Tryz.zeroValue229
  t229 := Tryz.underlying191
  a229 := Tryz.isAgg191
  z229 := Tryz.sizeOf191
  v229 := Tryz.zeroValue191 }
open Go.Sort Go.RowKit in
theorem Tryz.slices_Sort_int (blk off cap : Nat) (zs : List Int) (w : World) (hH : Holds (Value.int .i64) w blk off zs.toArray) (hblk : blk < w.heap.size) (hsz : zs.length < 4611686018427387904) :
    Calls Tryz.prog 49 #[.slice (some ⟨blk, off, none⟩) zs.length cap] w fun e w' =>
      e = .returned (.tuple #[]) ∧ ∃ n os, w' = grow (putRow (Value.int .i64) (Sort.ahead w n) blk off (zs.mergeSort fun x y => decide (x ≤ y)).toArray) os := Any.slices_Sort_int Tryz.lays189 blk off cap zs w hH hblk hsz
end Go.Proofs
/- Numbers sorted in memory; the blocks that are held, as a rising list; no condition but the list's length. -/
namespace Go.Proofs.YtlcdpmjdnihocaaGreatD
open Go.RowKit Go.Sort
variable {w : World} {L : Loc} {s : St}

theorem heap_setCells (b : Nat) : ∀ (vs : List Value) (o : Nat) (w : World) (k : Nat), k ≠ b → (w.setCells b o vs).heap[k]? = w.heap[k]?
  | [], _, _, _, _ => rfl
  | v :: r, o, w, k, h => (heap_setCells b r (o + 1) _ k h).trans (Below.heap_setCell w _ v k h)
theorem size_setCells (b : Nat) : ∀ (vs : List Value) (o : Nat) (w : World), (w.setCells b o vs).heap.size = w.heap.size
  | [], _, _ => rfl
  | v :: r, o, w => (size_setCells b r (o + 1) _).trans (by simp)
theorem rest_setCells (b : Nat) : ∀ (vs : List Value) (o : Nat) (w : World), (w.setCells b o vs).os = w.os ∧ (w.setCells b o vs).tape = w.tape ∧ (w.setCells b o vs).output = w.output
  | [], _, _ => ⟨rfl, rfl, rfl⟩
  | v :: r, o, w => rest_setCells b r (o + 1) (w.setCell ⟨b, o, none⟩ v)
def sortL (zs : List Int) : List Int := zs.mergeSort fun x y => decide (x ≤ y)
theorem sort_ints {g cap : Nat} (zs : List Int) (hc : ∀ j, j < zs.length → w.cell? ⟨g, 0 + j, none⟩ = some (.int .i64 (zs.getD j 0))) (hf : ∀ j, j < zs.length → w.frozen? ⟨g, 0 + j, none⟩ = false) (hg : g < w.heap.size) (hn : zs.length < 4611686018427387904) :
    Calls Tryz.prog 49 #[.slice (some ⟨g, 0, none⟩) zs.length cap] w fun e w' => e = .returned (.tuple #[]) ∧ (∀ j, j < zs.length → w'.cell? ⟨g, j, none⟩ = some (.int .i64 ((sortL zs).getD j 0))) ∧ Fr (fun i => i = g) w w' := by
  have hH : Holds (Value.int .i64) w g 0 zs.toArray := by
    have := Lib.holds_of_ints (n := zs.length) (Nat.le_refl _) hc hf
    rwa [List.take_length] at this
  refine (Tryz.slices_Sort_int g 0 cap zs w hH hg hn).mono ?_
  rintro e w' ⟨rfl, q, os, hw⟩
  have hl : (sortL zs).length = zs.length := (List.mergeSort_perm _ _).length_eq
  rw [Lib.sorted_world _ w g 0 q _ _ os hH (by simp)] at hw
  refine ⟨rfl, fun j hj => ?_, ?_⟩
  · have h1 := Lib.cells_sorted_ints (W := w) (b := g) (off := 0) (q := q) (os := os) (zs := zs) (ys := sortL zs) (n := zs.length) (Nat.le_refl _) hl hc j (by rw [List.drop_length, List.append_nil, hl]; exact hj)
    rw [List.drop_length, List.append_nil, Nat.zero_add] at h1
    rw [hw]
    exact h1
  · rw [hw]
    have hr := rest_setCells g ((sortL zs).map (Value.int .i64)) 0 (w.drewN q)
    have hs := size_setCells g ((sortL zs).map (Value.int .i64)) 0 (w.drewN q)
    have hs' : ((w.drewN q).setCells g 0 ((sortL zs).map (Value.int .i64))).heap.size = w.heap.size := hs.trans (by simp)
    refine ⟨hr.1.trans rfl, hr.2.1.trans rfl, hr.2.2.trans rfl, by rw [size_grow]; show w.heap.size ≤ ((w.drewN q).setCells g 0 ((sortL zs).map (Value.int .i64))).heap.size + _; omega, fun k hk hn => ?_⟩
    rw [heap_grow_old _ _ (by show k < ((w.drewN q).setCells g 0 ((sortL zs).map (Value.int .i64))).heap.size; omega)]
    exact (heap_setCells g _ 0 _ k hn).trans (by simp)

/-- The cells of a block with its number. -/
def celRow (c : Cel) : List Value := .int .i64 c.1 :: (blk c.2).toList
def celCells (l : List Cel) : List Value := l.flatMap celRow
theorem celRow_len (c : Cel) : (celRow c).length = 1025 := by simp [celRow, blk_size]
theorem celCells_len : ∀ l : List Cel, (celCells l).length = l.length * 1025
  | [] => rfl
  | r :: t => by
    have ih := celCells_len t
    have h1 := celRow_len r
    show (celRow r ++ celCells t).length = _
    rw [List.length_append, ih, h1, List.length_cons]
    omega
theorem celCells_append (a b : List Cel) : celCells (a ++ b) = celCells a ++ celCells b := by simp [celCells]
theorem celCells_one (c : Cel) : celCells [c] = celRow c := by simp [celCells]
theorem celRow_one (c : Cel) : ∀ v ∈ celRow c, v.oneCell' = true := by
  intro v hv
  simp only [celRow, List.mem_cons] at hv
  rcases hv with rfl | h
  · rfl
  · have := blk_one c.2
    rw [Array.all_eq_true_iff_forall_mem] at this
    exact this v (by simpa using h)

/-- Numbers with what is held there. -/
def withHeld (s : St) (l : List Int) : List Cel := l.map fun x => (x, (s.held x).getD nought)
theorem rise_of (s : St) : ∀ (l : List Int) (m : Int), (∀ x ∈ l, m < x) → l.Pairwise (fun a b => a < b) → Rise m (withHeld s l)
  | [], _, _, _ => trivial
  | x :: t, m, h, hp => by
    have h2 := List.pairwise_cons.1 hp
    exact ⟨h x (by simp), rise_of s t x h2.1 h2.2⟩
theorem atL_in (s : St) : ∀ (l : List Int) (k : Int), (k ∈ l → atL (withHeld s l) k = (s.held k).getD nought) ∧ (k ∉ l → atL (withHeld s l) k = nought)
  | [], k => ⟨fun h => by simp at h, fun _ => rfl⟩
  | x :: t, k => by
    have ih := atL_in s t k
    show (k ∈ x :: t → (if x = k then _ else atL (withHeld s t) k) = _) ∧ (k ∉ x :: t → (if x = k then _ else atL (withHeld s t) k) = _)
    by_cases e : x = k
    · subst e
      exact ⟨fun _ => by rw [if_pos rfl], fun h => absurd (List.mem_cons_self) h⟩
    · rw [if_neg e]
      refine ⟨fun h => ih.1 ?_, fun h => ih.2 fun q => h (List.mem_cons_of_mem _ q)⟩
      rcases List.mem_cons.1 h with q | q
      · exact absurd q.symm e
      · exact q
/-- The blocks that are held, as a list: it rises, none of them is blank. -/
structure IsImage (s : St) (l : List Cel) : Prop where
  rise : Rise (-1) l
  sound : Sound l
  top : ∀ c ∈ l, c.1 < s.n
  at_ : ∀ k, atL l k = (s.held k).getD nought
theorem image_of (h : Ok s) (zs : List Int) (hn : zs.Nodup) (hm : ∀ x, x ∈ zs ↔ (s.held x).isSome = true) : IsImage s (withHeld s (sortL zs)) := by
  have hp : (sortL zs).Perm zs := List.mergeSort_perm _ _
  have hm' : ∀ x, x ∈ sortL zs ↔ (s.held x).isSome = true := fun x => hp.mem_iff.trans (hm x)
  have hb : ∀ x ∈ sortL zs, ∃ f, s.held x = some f ∧ (0 ≤ x ∧ x < s.n) ∧ Can f ∧ f ≠ nought := fun x hx => by
    obtain ⟨f, hf⟩ := Option.isSome_iff_exists.1 ((hm' x).1 hx)
    exact ⟨f, hf, h.held x f hf⟩
  refine ⟨rise_of s _ _ (fun x hx => by obtain ⟨f, _, h1, _⟩ := hb x hx; omega) ?_, fun c hc => ?_, fun c hc => ?_, fun k => ?_⟩
  · have h1 : (sortL zs).Pairwise (fun a b => decide (a ≤ b) = true) := List.pairwise_mergeSort (fun a b c h1 h2 => by simp at *; omega) (fun a b => by simp; omega) zs
    have h2 : (sortL zs).Nodup := hp.nodup_iff.2 hn
    exact (h1.and h2).imp fun {a b} q => by
      have q1 : a ≤ b := by simpa using q.1
      have q2 : a ≠ b := q.2
      omega
  · obtain ⟨x, hx, rfl⟩ := List.mem_map.1 hc
    obtain ⟨f, hf, _, h2, h3⟩ := hb x hx
    simp only [hf, Option.getD_some]
    exact ⟨h2, h3⟩
  · obtain ⟨x, hx, rfl⟩ := List.mem_map.1 hc
    obtain ⟨f, hf, h1, _⟩ := hb x hx
    exact h1.2
  · by_cases hk : k ∈ sortL zs
    · exact (atL_in s _ k).1 hk
    · rw [(atL_in s _ k).2 hk]
      cases hh : s.held k with
      | none => rfl
      | some f => exact absurd ((hm' k).2 (by rw [hh]; rfl)) hk
end Go.Proofs.YtlcdpmjdnihocaaGreatD
/- Image: what is held, as a rising list in new memory; for every disk. -/
namespace Go.Proofs.YtlcdpmjdnihocaaGreatD
open Go.RowKit Go.Maps
variable {w : World} {L : Loc} {s : St}

theorem info85 : (Tryz.prog.info? 81).map (fun i => (i.zero, i.size, i.bytes)) = some (some (.agg (celRow (0, nought)).toArray), 1025, 1032) := by kernel_rfl
theorem zero85 : ∀ w, (zeroValue 81).run Tryz.prog w = .ok (.agg (celRow (0, nought)).toArray) w := by
  obtain ⟨i0, hi0, hz0, hz1, hz2⟩ := info_parts info85
  exact (zero_of_info (t := 81) (P := Tryz.prog) (by rw [hi0]; exact congrArg some (Prod.ext hz0 hz1))).1
theorem size85 : (Tryz.prog.info? 81).map (·.size) = some 1025 := by
  obtain ⟨i0, hi0, hz0, hz1, hz2⟩ := info_parts info85
  rw [hi0]
  exact congrArg some hz1
theorem cel_size (c : Cel) : (celRow c).toArray.size = 1025 := by rw [List.size_toArray, celRow_len]
theorem fill_cel (p : Int) (f : Nat → Int) (Z : Array Value) (hZ : Z.size = 1025) (place : Nat → Option (Nat × Nat)) (h0 : place 0 = some (0, 1)) (h1 : place 1 = some (1, 1024)) :
    Instr.fill place Z [(0, .int .i64 p), (1, .agg (blk f))] = some (celRow (p, f)).toArray := by
  have hb := blk_size f
  unfold Instr.fill
  rw [h0]
  simp only [Value.cells, List.size_toArray, List.length_cons, List.length_nil, hZ]
  rw [if_neg (by simp)]
  unfold Instr.fill
  rw [h1]
  simp only [Value.cells, hb]
  rw [fold_over 0 #[.int .i64 p] Z (by rw [hZ]; simp)]
  rw [if_neg (by simp [hZ])]
  rw [fold_over 1 (blk f) _ (by simp [hZ, hb])]
  have hl : Z.toList.length = 1025 := by rw [Array.length_toList, hZ]
  obtain ⟨z0, r, hz, hr⟩ : ∃ z0 r, Z.toList = z0 :: r ∧ r.length = 1024 := by
    cases hz : Z.toList with
    | nil => rw [hz, List.length_nil] at hl; omega
    | cons z0 r => exact ⟨z0, r, rfl, by rw [hz, List.length_cons] at hl; omega⟩
  rw [hz]
  simp only [List.take_zero, List.nil_append, List.take_succ_cons, List.drop_succ_cons, List.drop_zero, List.singleton_append, List.size_toArray, List.length_cons, List.length_nil, hb, Nat.zero_add, Nat.reduceAdd]
  unfold Instr.fill
  rw [List.drop_eq_nil_of_le (by omega), List.append_nil]
  rfl
theorem build85 (p : Int) (f : Nat → Int) (u : World) : (Instr.build 81 #[(0, .int .i64 p), (1, .agg (blk f))]).run Tryz.prog u = .ok (.agg (celRow (p, f)).toArray) u := by
  have z := zero85
  have hZ : (celRow (0, nought)).toArray.size = 1025 := cel_size _
  generalize (celRow (0, nought)).toArray = Z at *
  have hf := fill_cel p f Z hZ
  simp [Instr.build, z, run_underlying Tryz.underlying81, Value.cells]
  rw [hf _ rfl rfl]
  simp only [Sem.run_pure]
theorem wpList_build85 {ops : Array Oper} {rest : List Oper} {o : Oper} {a : Act} {w : World} {Q : Exit → Act → World → Prop} (hgd : o.guard = none) (x y : Operand) (ho : o.op = .build 81 #[(0, x), (1, y)])
    (p : Int) (f : Nat → Int) (hx : a.eval x = .int .i64 p) (hy : a.eval y = .agg (blk f)) (h : wpList Tryz.prog ops Q rest (a.put o.dst (.agg (celRow (p, f)).toArray)) w) : wpList Tryz.prog ops Q (o :: rest) a w :=
  wpList_plain hgd fun _ hK => by
    have e := build85 p f w
    generalize (celRow (p, f)).toArray = Z at *
    have e' : (execOp a.eval o).run Tryz.prog w = .ok (.value (.agg Z)) w := by simp [execOp, ho, hx, hy, e]
    unfold Oper.wp
    rw [e']
    exact hK _ _ h
theorem run_make30 (u : World) (n : Nat) (hn : n * 1032 ≤ 281474976710656) :
    ∃ cur, cur.size = n * 1025 ∧ (Instr.makeSlice 22 (.int .i64 (n : Int)) (.int .i64 (n : Int))).run Tryz.prog u = .ok (.slice (some ⟨u.heap.size, 0, none⟩) n n) (u.alloc (.cells cur 81)) := by
  obtain ⟨i0, hi0, hz0, hz1, hz2⟩ := info_parts info85
  have h := run_make (P := Tryz.prog) u 22 81 i0 _ Tryz.underlying22 hi0 hz0 .i64 .i64 n n (by omega) (Int.le_refl _) (by rw [hz2]; omega) (by omega)
  rw [Int.toNat_natCast, hz1] at h
  exact ⟨_, by simp [madeCells], h⟩
theorem run_make65c (u : World) (n : Nat) (hn : n * 8 ≤ 281474976710656) :
    (Instr.makeSlice 70 (.int .i64 0) (.int .i64 (n : Int))).run Tryz.prog u = .ok (.slice (some ⟨u.heap.size, 0, none⟩) 0 n) (u.alloc (.cells (iRow nought n) 3)) := by
  obtain ⟨i0, hi0, hz0, hz1, hz2⟩ := info_parts info3b
  have h := run_make (P := Tryz.prog) u 70 3 i0 (.int .i64 0) Tryz.underlying70 hi0 hz0 .i64 .i64 0 n (by omega) (by omega) (by rw [hz2]; omega) (by omega)
  rw [Int.toNat_natCast, hz1] at h
  rw [h]
  simp [Value.cells, made_ints]
/-- A row with a whole element written at a place. -/
def putCel (cur : Array Value) (off : Nat) (c : Cel) : Array Value := (cur.toList.take off ++ celRow c ++ cur.toList.drop (off + 1025)).toArray
/-- A whole element is written into the middle of a row. -/
theorem wpList_store85 {ops : Array Oper} {rest : List Oper} {o : Oper} {a : Act} {w : World} {Q : Exit → Act → World → Prop} (hgd : o.guard = none) (x y : Operand) (ho : o.op = .store 81 x y)
    (g off : Nat) (c : Cel) (hx : a.eval x = .pointer (some ⟨g, off, none⟩)) (hy : a.eval y = .agg (celRow c).toArray) (cur : Array Value) (hg : w.heap[g]? = some (.cells cur 81)) (hfit : off + 1025 ≤ cur.size)
    (h : wpList Tryz.prog ops Q rest (a.put o.dst undef) (w.setRow g (putCel cur off c))) : wpList Tryz.prog ops Q (o :: rest) a w :=
  wpList_plain hgd fun _ hK => by
    have hs := cel_size c
    have hl := celRow_len c
    have hst := run_storeCells_at Tryz.prog g off 81 (celRow c) 0 cur w hg (by rw [hl]; omega) (celRow_one c)
    rw [hl] at hst
    have hr : (Instr.storeAt 81 (.pointer (some ⟨g, off, none⟩)) (.agg (celRow c).toArray)).run Tryz.prog w = .ok () (w.setRow g (cur.toList.take off ++ celRow c ++ cur.toList.drop (off + 1025)).toArray) := by
      obtain ⟨i0, hi0, hz0, hz1, hz2⟩ := info_parts info85
      simp only [Nat.add_zero] at hst
      generalize celRow c = R at *
      simp [Instr.storeAt, Instr.sureAddr, storeVar, sizeOf, typeInfo, hi0, Value.cells, hl, hz1, hst]
    unfold Oper.wp execOp
    simp only [ho, hx, hy, Sem.run_bind, hr, Result.andThen_ok, Sem.run_pure]
    exact hK _ _ h
theorem wpList_lookM1 {P : Program} {k : TypeId} {b : Nat} {m : Int → Option Value} {ops : Array Oper} {rest : List Oper} {o : Oper} {a : Act} {w : World} {Q : Exit → Act → World → Prop} (hg : o.guard = none) (mo xo : Operand) (t : TypeId) (hop : o.op = Op.lookup t mo xo false) (e : TypeId) (hk : P.underlying k = some (.int .i64)) (K : Keyed P k) (ht : P.underlying t = some (.map k e))
    (hm : a.eval mo = .map (some b)) (h : MapIs P k w b m) {z : Value} (hz : (zeroValue e).run P w = .ok z w) (x : Int) (hx : (Lit.int .i64 x).wf = true) (hxo : a.eval xo = .int .i64 x) (v : Value) (hv : m x = some v)
    (hK : wpList P ops Q rest (a.put o.dst v) w) : wpList P ops Q (o :: rest) a w := by
  refine wpList_plain hg fun K' hK' => ?_
  have hr := look_at hk K ht h hz hx
  rw [hv] at hr
  unfold Oper.wp
  simp [execOp, hop, hm, hxo, hr, Result.andThen]
  exact hK' _ _ hK
/-- The numbers that were met: each once, those that are held and no longer to come. -/
structure Col (m : Int → Option Value) (left : Lit → Bool) (zs : List Int) : Prop where
  nodup : zs.Nodup
  mem : ∀ x, x ∈ zs ↔ ((m x).isSome = true ∧ left (.int .i64 x) = false)
theorem Col.start {D : DataW Value} {m : Int → Option Value} (hv : Views D m) : Col m (Maps.has D) [] := by
  refine ⟨List.nodup_nil, fun x => ⟨fun h => by simp at h, fun h => ?_⟩⟩
  cases hm : m x with
  | none => rw [hm] at h; simp at h
  | some v => rw [(hv.some x v hm).2.1] at h; simp at h
theorem Col.step {D : DataW Value} {m : Int → Option Value} {left : Lit → Bool} {zs : List Int} (h : Col m left zs) (hv : Views D m) {x : Int} {y : DataW Value} (hl : left (.int .i64 x) = true) (hat : ∀ zd, D.atKey (.int .i64 x) zd = y) :
    Col m (fun z => left z && !z.sameKey (.int .i64 x)) (zs ++ [x]) ∧ (m x).isSome = true := by
  have hsome : (m x).isSome = true := by
    cases hm : m x with
    | some v => rfl
    | none =>
      have h1 := hv.none x hm
      have e1 := hat (.held (.bool true))
      have e2 := hat (.held (.bool false))
      rw [atKey_of_not_has h1] at e1 e2
      rw [← e2] at e1
      cases e1
  refine ⟨⟨?_, fun z => ?_⟩, hsome⟩
  · rw [List.nodup_append]
    refine ⟨h.nodup, by simp, fun a ha b hb e => ?_⟩
    have hb' : b = x := by simpa using hb
    subst hb'
    subst e
    rw [((h.mem a).1 ha).2] at hl
    cases hl
  · rw [List.mem_append, h.mem z]
    by_cases e : z = x
    · subst e
      simp [hsome, Lit.sameKey]
    · have hne : (Lit.int .i64 z).sameKey (.int .i64 x) = false := by simp [Lit.sameKey, e]
      simp [hne, e]
theorem Col.done {m : Int → Option Value} {left : Lit → Bool} {zs : List Int} (h : Col m left zs) (hl : ∀ kl, left kl = false) : ∀ x, x ∈ zs ↔ (m x).isSome = true := fun x => by
  rw [h.mem x]
  simp [hl]
end Go.Proofs.YtlcdpmjdnihocaaGreatD
