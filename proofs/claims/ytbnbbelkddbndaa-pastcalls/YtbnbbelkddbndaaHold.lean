import Derived.Test.YtbnbbelkddbndaaBase
import Derived.LaidEqlPtr
import Derived.StillTailTactics
/- What a disk tells of itself, its fuse and its claims; of a disk that was made, and of one that is none; no condition but that numbers do not pass the greatest int. -/
namespace Go.Proofs.Ytbnbbelkddbndaa
open Go.RowKit

theorem neq_same {P : Program} {tp te : TypeId} {j : TypeInfo} (w : World) (a : Addr) (hp : P.underlying tp = some (.pointer te)) (hte : P.info? te = some j) :
    (binOp .neq tp (.pointer (some a)) (.pointer (some a))).run P w = .ok (.bool false) w := by
  have h : ∀ d : Nat, (Op.equalIn (d + 1) tp (.pointer (some a)) (.pointer (some a))).run P w = .ok true w := fun d => by
    simp [Op.equalIn, run_underlying hp, sizeOf, typeInfo, hte, run_sameAddr_same]
  simp only [binOp]
  simp [Op.equal, Op.maxDepth, h 9999]
theorem neq_nil {P : Program} {tp te : TypeId} (w : World) (a : Addr) (hp : P.underlying tp = some (.pointer te)) :
    (binOp .neq tp (.pointer none) (.pointer (some a))).run P w = .ok (.bool true) w := by
  have h : ∀ d : Nat, (Op.equalIn (d + 1) tp (.pointer none) (.pointer (some a))).run P w = .ok false w := fun d => by
    simp [Op.equalIn, run_underlying hp]
  simp only [binOp]
  simp [Op.equal, Op.maxDepth, h 9999]
theorem info74 : ∃ j, Try.prog.info? 107 = some j := Option.isSome_iff_exists.1 (by kernel_rfl)
theorem neq24 (w : World) (a : Addr) : (binOp .neq 65 (.pointer (some a)) (.pointer (some a))).run Try.prog w = .ok (.bool false) w := by
  obtain ⟨j, hj⟩ := info74
  exact neq_same w a Try.underlying65 hj
theorem neq24n (w : World) (a : Addr) : (binOp .neq 65 (.pointer none) (.pointer (some a))).run Try.prog w = .ok (.bool true) w := by
  exact neq_nil w a Try.underlying65

/-- v is a disk that is nil, or that nobody made. -/
def NoneAt (w : World) (v : Value) : Prop := v = .pointer none ∨ ∃ g, v = .pointer (some ⟨g, 0, none⟩) ∧ w.cell? ⟨g, 0, none⟩ = some (.pointer none)
theorem none_yes {w : World} {v : Value} (h : NoneAt w v) : Calls Try.prog 68 #[v] w fun e w' => e = .returned (.bool true) ∧ w' = w := by
  have hn := neq24n
  rcases h with rfl | ⟨g, rfl, c0⟩
  · go_enter Try.func68, Try.ntmps68
    go_wp2
    go_ret
    exact ⟨rfl, rfl⟩
  · go_enter Try.func68, Try.ntmps68
    go_wp2
    go_ret
    exact ⟨rfl, rfl⟩
theorem none_no {w : World} {d : Nat} (c0 : w.cell? ⟨d, 0, none⟩ = some (.pointer (some ⟨d, 0, none⟩))) :
    Calls Try.prog 68 #[.pointer (some ⟨d, 0, none⟩)] w fun e w' => e = .returned (.bool false) ∧ w' = w := by
  have hn := neq24
  go_enter Try.func68, Try.ntmps68
  go_wp2
  go_ret
  exact ⟨rfl, rfl⟩

variable {w : World} {L : Loc} {s : St}
theorem DiskAt.c0 (h : DiskAt w L s) : w.cell? ⟨L.d, 0, none⟩ = some (.pointer (some ⟨L.d, 0, none⟩)) := h.cell 0
theorem DiskAt.c1 (h : DiskAt w L s) : w.cell? ⟨L.d, 1, none⟩ = some (.int .i64 s.n) := h.cell 1
theorem DiskAt.c2 (h : DiskAt w L s) : w.cell? ⟨L.d, 2, none⟩ = some (.map (some L.hb)) := h.cell 2
theorem DiskAt.c3 (h : DiskAt w L s) : w.cell? ⟨L.d, 3, none⟩ = some L.hv := h.cell 3
theorem DiskAt.c4 (h : DiskAt w L s) : w.cell? ⟨L.d, 4, none⟩ = some (.int .i64 (s.done.length : Int)) := h.cell 4
theorem DiskAt.c5 (h : DiskAt w L s) : w.cell? ⟨L.d, 5, none⟩ = some (.map (some L.lb)) := h.cell 5
theorem DiskAt.c6 (h : DiskAt w L s) : w.cell? ⟨L.d, 6, none⟩ = some (.int .i64 s.fuse) := h.cell 6
theorem DiskAt.c7 (h : DiskAt w L s) : w.cell? ⟨L.d, 7, none⟩ = some (.bool s.stopped) := h.cell 7
theorem DiskAt.c8 (h : DiskAt w L s) : w.cell? ⟨L.d, 8, none⟩ = some (.int .i64 s.made) := h.cell 8
theorem DiskAt.c9 (h : DiskAt w L s) : w.cell? ⟨L.d, 9, none⟩ = some (.int .i64 s.reads) := h.cell 9
theorem DiskAt.c10 (h : DiskAt w L s) : w.cell? ⟨L.d, 10, none⟩ = some (.int .i64 s.claims) := h.cell 10
theorem DiskAt.c11 (h : DiskAt w L s) : w.cell? ⟨L.d, 11, none⟩ = some (.bool s.claimed) := h.cell 11

/-- Why a block may be neither read nor written; 0: it may. -/
def refV (s : St) (k : Int) : Int := if s.stopped then 3 else if 0 ≤ k ∧ k < s.n then 0 else 2
theorem refuses_of (h : DiskAt w L s) (k : Int) : Calls Try.prog 72 #[.pointer (some ⟨L.d, 0, none⟩), .int .i64 k] w fun e w' => e = .returned (.int .i64 (refV s k)) ∧ w' = w := by
  have c7 := h.c7
  have c1 := h.c1
  have h0 := h.c0
  clear h
  unfold refV
  cases hs : s.stopped
  · rw [hs] at c7
    by_cases h1 : k < 0
    · have e : ¬ (0 ≤ k ∧ k < s.n) := by omega
      simp only [e, if_false, Bool.false_eq_true]
      go_enter Try.func72, Try.ntmps72
      go_wp2_with (first | (go_at_call 68; refine (none_no h0).mono ?_; rintro e W ⟨rfl, rfl⟩))
      go_ret
      exact ⟨rfl, rfl⟩
    · by_cases h2 : k < s.n
      · have e : (0 ≤ k ∧ k < s.n) := by omega
        have h3 : ¬ k ≥ s.n := by omega
        simp only [e, if_true, if_false, Bool.false_eq_true, and_self]
        go_enter Try.func72, Try.ntmps72
        go_wp2_with (first | (go_at_call 68; refine (none_no h0).mono ?_; rintro e W ⟨rfl, rfl⟩))
        go_ret
        exact ⟨rfl, rfl⟩
      · have e : ¬ (0 ≤ k ∧ k < s.n) := by omega
        have h3 : k ≥ s.n := by omega
        simp only [e, if_false, Bool.false_eq_true]
        go_enter Try.func72, Try.ntmps72
        go_wp2_with (first | (go_at_call 68; refine (none_no h0).mono ?_; rintro e W ⟨rfl, rfl⟩))
        go_ret
        exact ⟨rfl, rfl⟩
  · rw [hs] at c7
    simp only [if_true]
    go_enter Try.func72, Try.ntmps72
    go_wp2_with (first | (go_at_call 68; refine (none_no h0).mono ?_; rintro e W ⟨rfl, rfl⟩))
    go_ret
    exact ⟨rfl, rfl⟩
theorem refuses_none {v : Value} (h : NoneAt w v) (k : Int) : Calls Try.prog 72 #[v, .int .i64 k] w fun e w' => e = .returned (.int .i64 1) ∧ w' = w := by
  go_enter Try.func72, Try.ntmps72
  go_wp2_with (first | (go_at_call 68; refine (none_yes h).mono ?_; rintro e W ⟨rfl, rfl⟩))
  go_ret
  exact ⟨rfl, rfl⟩
def claimedV (s : St) (k : Int) : Bool := !s.stopped && s.claimed && k == s.claims
end Go.Proofs.Ytbnbbelkddbndaa
/- What turns a disk's own cells: its fuse, its claims, a write or barrier that is let through or not; no condition but that numbers do not pass the greatest int. -/
namespace Go.Proofs.Ytbnbbelkddbndaa
open Go.RowKit
variable {w : World} {L : Loc} {s : St}

/-- One cell of the row is written: what it stands for is s'. -/
theorem DiskAt.put {s' : St} (h : DiskAt w L s) (i : Nat) (v : Value) (hr : (dkRow L s).setIfInBounds i v = dkRow L s') (hh : s'.held = s.held) (hw : s'.wait = s.wait) (hd : s'.done = s.done) (hok : Ok s') :
    DiskAt (w.setCell ⟨L.d, i, none⟩ v) L s' := by
  have hne : ∀ k, k ≠ L.d → (w.setCell ⟨L.d, i, none⟩ v).heap[k]? = w.heap[k]? := fun k hk => Below.heap_setCell w _ v k hk
  obtain ⟨es, ck, hm⟩ := h.held.isMap
  obtain ⟨es2, ck2, hm2⟩ := h.late.isMap
  refine ⟨?_, ?_, ?_, ?_, h.ne, hok⟩
  · rw [Joins.block_setCell h.row, hr]
  · have : heldV s' = heldV s := by unfold heldV; rw [hh]
    rw [this]
    exact h.held.kept (hne _ fun e => by rw [e, h.row] at hm; cases hm)
  · have : lateV s' = lateV s := by unfold lateV; rw [hw, hd]
    rw [this]
    exact h.late.kept (hne _ fun e => by rw [e, h.row] at hm2; cases hm2)
  · have : s'.ops = s.ops := by unfold St.ops; rw [hw, hd]
    rw [this]
    refine ownsRow_kept0 h.hist fun k hk => hne _ fun e => ?_
    rcases h.hist.2 with ⟨h1, _⟩ | ⟨g, cap, cur, h1, _, h2, _⟩
    · rw [h1] at hk; cases hk
    · rw [h1] at hk
      injection hk with hk
      rw [← hk] at e
      simp only at e
      rw [e, h.row] at h2
      cases h2
theorem Goes.put (w : World) (L : Loc) (i : Nat) (v : Value) : Goes w (w.setCell ⟨L.d, i, none⟩ v) L L :=
  ⟨rfl, fun _ h => .inl h, (Fr.setCell w L.d i v).mono fun _ _ h => .inl h⟩

/-- The fuse is asked: s, if it is none, lets through. -/
def lets (s : St) : Bool := s.fuse != 0
def letV (s : St) : St := if s.fuse = 0 then { s with stopped := true } else { s with fuse := (if s.fuse = -1 then -1 else s.fuse - 1), made := s.made + 1 }
theorem letV_ok (h : Ok s) : Ok (letV s) := by
  unfold letV
  split
  · exact ⟨h.n, h.held, h.wait, h.fuse, h.made, h.reads, h.claims⟩
  · rename_i h0
    have := h.fuse
    have := h.made
    refine ⟨h.n, h.held, h.wait, ?_, ?_, h.reads, h.claims⟩
    · show -1 ≤ (if s.fuse = -1 then -1 else s.fuse - 1) ∧ (if s.fuse = -1 then -1 else s.fuse - 1) ≤ 9223372036854775807
      split <;> omega
    · show 0 ≤ s.made + 1
      omega
theorem letThrough_of (h : DiskAt w L s) (hr : Room s) : Calls Try.prog 69 #[.pointer (some ⟨L.d, 0, none⟩)] w fun e w' => e = .returned (.bool (lets s)) ∧ DiskAt w' L (letV s) ∧ Goes w w' L L := by
  have c6 := h.c6
  have c8 := h.c8
  have c7 := h.c7
  have f6 := h.free 6
  have f7 := h.free 7
  have f8 := h.free 8
  have hf := h.ok.fuse
  have hm := h.ok.made
  have hm2 := hr.made
  by_cases h0 : s.fuse = 0
  · rw [h0] at c6
    have e1 : letV s = { s with stopped := true } := by unfold letV; rw [if_pos h0]
    have hA := h.put (s' := letV s) 7 (.bool true) (by rw [e1]; rfl) (by rw [e1]) (by rw [e1]) (by rw [e1]) (letV_ok h.ok)
    have hA' : Hid (DiskAt (w.setCell ⟨L.d, 7, none⟩ (.bool true)) L (letV s)) := hA
    have hl : lets s = false := by unfold lets; simp [h0]
    rw [hl]
    clear hA h hr e1
    go_enter Try.func69, Try.ntmps69
    go_wp2
    go_ret
    exact ⟨rfl, hA'.out, Goes.put _ _ _ _⟩
  · have hl : lets s = true := by unfold lets; simp [h0]
    rw [hl]
    have hw8 : IntKind.i64.wrap (s.made + 1) = s.made + 1 := by rw [IntKind.wrap_i64]; omega
    by_cases h1 : s.fuse = -1
    · rw [h1] at c6
      have e1 : letV s = { s with made := s.made + 1 } := by unfold letV; rw [if_neg h0, if_pos h1, ← h1]
      have hA : Hid (DiskAt (w.setCell ⟨L.d, 8, none⟩ (.int .i64 (s.made + 1))) L (letV s)) := h.put (s' := letV s) 8 _ (by rw [e1]; rfl) (by rw [e1]) (by rw [e1]) (by rw [e1]) (letV_ok h.ok)
      clear h hr e1
      go_enter Try.func69, Try.ntmps69
      go_wp2
      go_ret
      exact ⟨rfl, hA.out, Goes.put _ _ _ _⟩
    · have hw6 : IntKind.i64.wrap (s.fuse - 1) = s.fuse - 1 := by rw [IntKind.wrap_i64]; omega
      let s1 : St := { s with fuse := s.fuse - 1 }
      have ok1 : Ok s1 := ⟨h.ok.n, h.ok.held, h.ok.wait, ⟨by show -1 ≤ s.fuse - 1; omega, by show s.fuse - 1 ≤ _; omega⟩, h.ok.made, h.ok.reads, h.ok.claims⟩
      have h1' : DiskAt (w.setCell ⟨L.d, 6, none⟩ (.int .i64 (s.fuse - 1))) L s1 := h.put (s' := s1) 6 _ rfl rfl rfl rfl ok1
      have e1 : letV s = { s with fuse := s.fuse - 1, made := s.made + 1 } := by unfold letV; rw [if_neg h0, if_neg h1]
      have hA : Hid (DiskAt ((w.setCell ⟨L.d, 6, none⟩ (.int .i64 (s.fuse - 1))).setCell ⟨L.d, 8, none⟩ (.int .i64 (s.made + 1))) L (letV s)) := h1'.put (s' := letV s) 8 _ (by rw [e1]; rfl) (by rw [e1]) (by rw [e1]) (by rw [e1]) (letV_ok h.ok)
      have hG : Hid (Goes w ((w.setCell ⟨L.d, 6, none⟩ (.int .i64 (s.fuse - 1))).setCell ⟨L.d, 8, none⟩ (.int .i64 (s.made + 1))) L L) := (Goes.put _ _ _ _).trans (Goes.put _ _ _ _)
      clear h hr e1 h1' ok1
      clear s1
      go_enter Try.func69, Try.ntmps69
      go_wp2
      go_ret
      exact ⟨rfl, hA.out, hG.out⟩

/-- A fuse of n. -/
def fuseV (s : St) (n : Int) : St := if s.stopped then s else { s with fuse := max n (-1) }
/-- A claim. -/
def claimV (s : St) : St := if s.stopped then s else { s with claims := s.claims + 1, claimed := true }
def claimN (s : St) : Int := if s.stopped then 0 else s.claims + 1
end Go.Proofs.Ytbnbbelkddbndaa
/- A disk is made: of noughts, if its number of blocks may be; no condition. -/
namespace Go.Proofs.Ytbnbbelkddbndaa
open Go.RowKit
variable {w : World} {L : Loc} {s : St}

def bndB (n : Int) : Bool := decide (1 ≤ n ∧ n ≤ 1048576)
theorem bounded_any (n : Int) (w : World) : Calls Try.prog 82 #[.int .i64 n] w fun e w' => e = .returned (.bool (bndB n)) ∧ w' = w := by
  by_cases h1 : 1 ≤ n
  · by_cases h2 : n ≤ 1048576
    · have e : bndB n = true := by unfold bndB; simp [h1, h2]
      rw [e]
      go_enter Try.func82, Try.ntmps82
      go_wp2
      go_ret
      exact ⟨rfl, rfl⟩
    · have e : bndB n = false := by unfold bndB; simp [h2]
      rw [e]
      go_enter Try.func82, Try.ntmps82
      go_wp2
      go_ret
      exact ⟨rfl, rfl⟩
  · have e : bndB n = false := by unfold bndB; simp [h1]
    rw [e]
    go_enter Try.func82, Try.ntmps82
    go_wp2
    go_ret
    exact ⟨rfl, rfl⟩
def newV (n : Int) : St := ⟨n, fun _ => none, [], [], -1, false, 0, 0, 0, false⟩
theorem newV_ok {n : Int} (h : bndB n = true) : Ok (newV n) := by
  have h' : 1 ≤ n ∧ n ≤ 1048576 := by simpa [bndB] using h
  exact ⟨h', fun k f hk => by simp [newV] at hk, fun c hc => by simp [newV] at hc, ⟨by show (-1 : Int) ≤ -1; omega, by show (-1 : Int) ≤ _; omega⟩, by show (0 : Int) ≤ 0; omega, by show (0 : Int) ≤ 0; omega, by show (0 : Int) ≤ 0; omega⟩
/-- All of the disk lies in memory from b on. -/
def Loc.from (L : Loc) (b : Nat) : Prop := ∀ k, L.has k → b ≤ k
def newL (w : World) : Loc := ⟨w.heap.size + 2, w.heap.size, w.heap.size + 1, .slice none 0 0⟩
theorem newL_from (w : World) : (newL w).from w.heap.size := by
  intro k hk
  rcases hk with h | h | h | h
  · have : k = w.heap.size + 2 := h
    omega
  · have : k = w.heap.size := h
    omega
  · have : k = w.heap.size + 1 := h
    omega
  · simp [newL, Value.ownBlock] at h
theorem new_at {n : Int} (h : bndB n = true) (w : World) :
    DiskAt (((w.alloc (.map #[] 0)).alloc (.map #[] 0)).alloc (.cells (dkRow (newL w) (newV n)) 107)) (newL w) (newV n) := by
  have s1 : (w.alloc (.map #[] 0)).heap.size = w.heap.size + 1 := by simp
  have s2 : ((w.alloc (.map #[] 0)).alloc (.map #[] 0)).heap.size = w.heap.size + 2 := by simp
  have m1 : MapIs Try.prog 3 (w.alloc (.map #[] 0)) w.heap.size (fun _ => none) := MapIs.made w
  have m2 : MapIs Try.prog 3 ((w.alloc (.map #[] 0)).alloc (.map #[] 0)) (w.heap.size + 1) (fun _ => none) := by
    have := MapIs.made (P := Try.prog) (k := 3) (w.alloc (.map #[] 0))
    rwa [s1] at this
  refine ⟨?_, ?_, ?_, ?_, ?_, newV_ok h⟩
  · have := heap_alloc_new ((w.alloc (.map #[] 0)).alloc (.map #[] 0)) (.cells (dkRow (newL w) (newV n)) 107)
    rw [s2] at this
    exact this
  · refine m1.kept ?_
    have b1 : Below (w.heap.size + 1) (w.alloc (.map #[] 0)) (((w.alloc (.map #[] 0)).alloc (.map #[] 0)).alloc (.cells (dkRow (newL w) (newV n)) 107)) :=
      ((Below.refl _ _).alloc (by omega) _).alloc (by omega) _
    exact b1.block _ (by show w.heap.size < _; omega)
  · have e : lateV (newV n) = fun _ => none := by funext k; simp [lateV, newV, lastAt]
    rw [e]
    refine m2.kept ?_
    have b1 : Below (w.heap.size + 2) ((w.alloc (.map #[] 0)).alloc (.map #[] 0)) (((w.alloc (.map #[] 0)).alloc (.map #[] 0)).alloc (.cells (dkRow (newL w) (newV n)) 107)) :=
      ((Below.refl _ _).alloc (by omega) _)
    exact b1.block _ (by show w.heap.size + 1 < _; omega)
  · exact World.ownsRow_nil _ 0 42 1026
  · show w.heap.size ≠ w.heap.size + 1
    omega
theorem new_bad {n : Int} (h : bndB n = false) (w : World) : Calls Try.prog 66 #[.int .i64 n] w fun e w' => e = .returned (.tuple #[.pointer none, .int .i64 2]) ∧ w' = w := by
  go_enter Try.func66, Try.ntmps66
  go_wp2_with (first | (go_at_call 82; refine (bounded_any n w).mono ?_; rw [h]; rintro e W ⟨rfl, rfl⟩))
  go_ret2
  exact ⟨rfl, rfl⟩
theorem new_ok {n : Int} (h : bndB n = true) (w : World) :
    Calls Try.prog 66 #[.int .i64 n] w fun e w' => ∃ L : Loc, e = .returned (.tuple #[.pointer (some ⟨L.d, 0, none⟩), .int .i64 0]) ∧ DiskAt w' L (newV n) ∧ L.from w.heap.size ∧ Below w.heap.size w w' := by
  have hA : Hid (DiskAt (((w.alloc (.map #[] 0)).alloc (.map #[] 0)).alloc (.cells (dkRow (newL w) (newV n)) 107)) (newL w) (newV n)) := new_at h w
  have hmm := @run_makeMap Try.prog
  go_enter Try.func66, Try.ntmps66
  go_wp2_with (first | (go_at_call 82; refine (bounded_any n w).mono ?_; rw [h]; rintro e W ⟨rfl, rfl⟩))
  go_ret2
  refine ⟨newL _, rfl, hA.out, newL_from _, ?_⟩
  exact (((Below.refl _ _).alloc (Nat.le_refl _) _).alloc (by simp) _).alloc (by simp; omega) _
end Go.Proofs.Ytbnbbelkddbndaa
/- A block is held for good; what is pending, and that nothing is; no condition but that the block's number is one of the disk's. -/
namespace Go.Proofs.Ytbnbbelkddbndaa
open Go.RowKit
variable {w : World} {L : Loc} {s : St}

/-- The bytes f lie in memory behind a place. -/
def BlkAt (w : World) (g off : Nat) (f : Nat → Int) : Prop := w.rangeAt g off (blk f).toList
theorem BlkAt.kept {w w' : World} {g off : Nat} {f : Nat → Int} (h : BlkAt w g off f) (hg : w'.heap[g]? = w.heap[g]?) : BlkAt w' g off f := fun j v hv => by
  have := h j v hv
  unfold World.cell? at this ⊢
  simp only at this ⊢
  rw [hg]
  exact this
theorem BlkAt.of {w : World} {g : Nat} {f : Nat → Int} {t : TypeId} (h : w.heap[g]? = some (.cells (blk f) t)) : BlkAt w g 0 f := fun j v hv => by
  rw [cell_of_row w g _ _ t _ h, Nat.zero_add, ← Array.getElem?_toList]
  exact hv
theorem loadM {w : World} {g off : Nat} {f : Nat → Int} (h : BlkAt w g off f) : (Instr.loadAt 40 (.pointer (some ⟨g, off, none⟩))).run Try.prog w = .ok (.agg (blk f)) w := by
  have hr := run_loadAt_mid (P := Try.prog) w g off 40 (blk f).toList _ h Try.underlying40 rfl (by rw [blk_list_len]; exact size25)
  rwa [Array.toArray_toList] at hr
theorem wpList_loadM {ops : Array Oper} {rest : List Oper} {o : Oper} {a : Act} {w : World} {Q : Exit → Act → World → Prop} (hgd : o.guard = none) (x : Operand) (ho : o.op = .load 40 x)
    (g off : Nat) (hx : a.eval x = .pointer (some ⟨g, off, none⟩)) (f : Nat → Int) (hg : BlkAt w g off f)
    (h : wpList Try.prog ops Q rest (a.put o.dst (.agg (blk f))) w) : wpList Try.prog ops Q (o :: rest) a w :=
  wpList_plain hgd fun _ hK => by
    unfold Oper.wp execOp
    simp only [ho, hx, loadM hg, Sem.run_bind, Result.andThen_ok, Sem.run_pure]
    exact hK _ _ h
theorem wpStill_loadM {ops : Array Oper} {Q : Act → Prop} {a : Act} {o : Oper} {rest : List Oper} {w : World} (hgd : o.guard = none) (x : Operand) (ho : o.op = .load 40 x)
    (g off : Nat) (hx : a.eval x = .pointer (some ⟨g, off, none⟩)) (f : Nat → Int) (hg : BlkAt w g off f)
    (h : wpStill Try.prog ops w Q rest (a.put o.dst (.agg (blk f)))) : wpStill Try.prog ops w Q (o :: rest) a := by
  unfold wpStill
  rw [if_pos (by simp [Region.wanted, hgd])]
  unfold Oper.still execOp
  simp only [ho, hx, loadM hg, Sem.run_bind, Result.andThen_ok, Sem.run_pure, Oper.stillUpon]
  exact ⟨trivial, h⟩
theorem built58 (u : World) : (Instr.build 40 #[]).run Try.prog u = .ok (.agg (blk nought)) u := by
  have z25 := zero25
  simp [Instr.build, z25, run_underlying Try.underlying40, Try.sizeOf5, Instr.fill, Value.cells]

theorem wpList_build58 {ops : Array Oper} {rest : List Oper} {o : Oper} {a : Act} {w : World} {Q : Exit → Act → World → Prop} (hgd : o.guard = none) (ho : o.op = .build 40 #[]) {N : Nat → Int}
    (hb : ∀ u, (Instr.build 40 #[]).run Try.prog u = .ok (.agg (blk N)) u) (h : wpList Try.prog ops Q rest (a.put o.dst (.agg (blk N))) w) : wpList Try.prog ops Q (o :: rest) a w :=
  wpList_plain hgd fun _ hK => by
    have e : (execOp a.eval o).run Try.prog w = .ok (.value (.agg (blk N))) w := by
      unfold execOp
      simp only [ho, Array.map_empty, Sem.run_bind]
      simp only [hb, Result.andThen_ok, Sem.run_pure]
    unfold Oper.wp
    rw [e]
    exact hK _ _ h

/-- Block k is held as f. -/
def holdV (s : St) (k : Int) (f : Nat → Int) : St := { s with held := fun j => if j = k then (if blankB f then none else some f) else s.held j }
theorem holdV_ok (h : Ok s) {k : Int} (hk : 0 ≤ k ∧ k < s.n) {f : Nat → Int} (hf : Can f) : Ok (holdV s k f) := by
  refine ⟨h.n, fun j g hj => ?_, h.wait, h.fuse, h.made, h.reads, h.claims⟩
  unfold holdV at hj
  simp only at hj
  by_cases e : j = k
  · rw [if_pos e] at hj
    cases hb : blankB f
    · rw [hb] at hj
      simp at hj
      subst hj
      exact ⟨by rw [e]; exact hk, hf, fun q => by rw [hf.blank.2 q] at hb; cases hb⟩
    · rw [hb] at hj; simp at hj
  · rw [if_neg e] at hj
    exact h.held j g hj
theorem holdV_heldV (s : St) (k : Int) (f : Nat → Int) : heldV (holdV s k f) = fun y => if y = k then (if blankB f then none else some (.agg (blk f))) else heldV s y := by
  funext y
  unfold heldV holdV
  simp only
  by_cases e : y = k
  · rw [if_pos e, if_pos e]
    cases blankB f <;> rfl
  · rw [if_neg e, if_neg e]
/-- Only the map of what is held has turned. -/
theorem DiskAt.hold (h : DiskAt w L s) {k : Int} (hk : 0 ≤ k ∧ k < s.n) {f : Nat → Int} (hf : Can f) {w' : World} (hm : MapIs Try.prog 3 w' L.hb (heldV (holdV s k f))) (hfr : Fr (fun i => i = L.hb) w w') : DiskAt w' L (holdV s k f) := by
  have hne : ∀ i, L.has i → i ≠ L.hb → w'.heap[i]? = w.heap[i]? := fun i hi q => hfr.block i (h.lt i hi) q
  obtain ⟨es, ck, hmm⟩ := h.held.isMap
  refine ⟨?_, hm, ?_, ?_, h.ne, holdV_ok h.ok hk hf⟩
  · rw [hne L.d (.inl rfl) fun e => by rw [← e, h.row] at hmm; cases hmm]
    exact h.row
  · exact h.late.kept (hne _ (.inr (.inr (.inl rfl))) fun e => h.ne e.symm)
  · refine ownsRow_kept0 h.hist fun i hi => hne i (.inr (.inr (.inr hi))) fun e => ?_
    rcases h.hist.2 with ⟨h1, _⟩ | ⟨g, cap, cur, h1, _, h2, _⟩
    · rw [h1] at hi; cases hi
    · rw [h1] at hi
      injection hi with hi
      rw [← hi] at e
      simp only at e
      rw [e, hmm] at h2
      cases h2
theorem keyed3 : Go.Maps.Keyed Try.prog 3 := Go.Maps.int_keyed Try.underlying3
theorem Fr.drew {T : Nat → Prop} (w : World) : Fr T w w.drew := ⟨rfl, rfl, rfl, Nat.le_refl _, fun _ _ _ => rfl⟩
theorem inTop_of (h : Ok s) {k : Int} (hk : 0 ≤ k ∧ k < s.n) : inTop k := by
  have := h.n
  unfold inTop
  omega

set_option maxRecDepth 20000 in
theorem hold_of (h : DiskAt w L s) {k : Int} (hk : 0 ≤ k ∧ k < s.n) {f : Nat → Int} (hf : Can f) {g off : Nat} (hg : BlkAt w g off f) :
    Calls Try.prog 67 #[.pointer (some ⟨L.d, 0, none⟩), .int .i64 k, .pointer (some ⟨g, off, none⟩)] w fun e w' => e = .returned (.tuple #[]) ∧ DiskAt w' L (holdV s k f) ∧ Fr (fun i => i = L.hb) w w' := by
  have hq := eq25
  have hbd := built58
  have c2 := h.c2
  have hin := inTop_of h.ok hk
  have hW := inTop.wf hin
  have HA : Hid (∀ w', MapIs Try.prog 3 w' L.hb (heldV (holdV s k f)) → Fr (fun i => i = L.hb) w w' → DiskAt w' L (holdV s k f)) := fun w' => h.hold hk hf
  rw [holdV_heldV] at HA
  have hM := h.held
  have hl : L.hb < w.heap.size := hM.lt
  cases hb : blankB f
  · rw [hb] at HA
    unfold blankB at hb
    clear h hf hk
    generalize nought = N at *
    go_enter Try.func67, Try.ntmps67
    go_wp2_with (first | refine wpList_loadM rfl _ rfl g off rfl f hg ?_ | refine wpList_build58 rfl rfl hbd ?_)
    go_still_tail 8, (by kernel_rfl)
    refine wpStill_loadM rfl _ rfl g off rfl f hg ?_
    refine wpStill_nil ?_
    change wpList _ _ _ _ _ (World.drew _)
    refine wpList_putM rfl _ _ _ 104 rfl 40 Try.underlying3 keyed3 Try.underlying104 L.hb _ rfl (hM.kept (w' := w.drew) rfl) k hin rfl _ rfl ?_
    intro w' hm' hg'
    have hF : Hid (Fr (fun i => i = L.hb) w w') := (Fr.drew w).trans ((Fr.ofGrown hg').mono fun i _ q => by injection q with q; exact q.symm) fun _ _ q => q
    have hD : Hid (DiskAt w' L (holdV s k f)) := HA.out w' hm' hF.out
    clear hm' hg' HA
    go_wp2
    go_end0
    exact ⟨rfl, hD.out, hF.out⟩
  · rw [hb] at HA
    unfold blankB at hb
    clear h hf hk
    generalize nought = N at *
    have HB : Hid (∀ w' : World, MapIs Try.prog 3 w' L.hb (fun y => if y = k then none else heldV s y) → w.grownBy w' (some L.hb) → DiskAt w' L (holdV s k f) ∧ Fr (fun i => i = L.hb) w w') := fun w' hm' hg' => by
      have hF : Fr (fun i => i = L.hb) w w' := (Fr.ofGrown hg').mono fun i _ q => by injection q with q; exact q.symm
      exact ⟨HA.out w' hm' hF, hF⟩
    clear HA
    go_enter Try.func67, Try.ntmps67
    go_wp2_with (first | refine wpList_loadM rfl _ rfl g off rfl f hg ?_ | refine wpList_build58 rfl rfl hbd ?_ | (refine wpList_delM rfl (.tmp 14) (.tmp 15) 104 rfl 40 Try.underlying3 keyed3 Try.underlying104 L.hb _ rfl hM k hW rfl ?_; intro w' hm' hg'))
    refine bodyPost_ret (results_none rfl _ _ _) rfl ?_
    exact ⟨rfl, HB.out _ hm' hg'⟩
end Go.Proofs.Ytbnbbelkddbndaa
