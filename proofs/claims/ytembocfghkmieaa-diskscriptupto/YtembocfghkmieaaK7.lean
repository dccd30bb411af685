/- Several texts joined, each with its own remark; no condition. -/
import Derived.Test.YtembocfghkmieaaK6
import Derived.Test.YtembocfghkmieaaK3
/- The document's disk in memory, and its plain calls: Len, Made, Reads, Stopped, Claimed, Fuse, Claim, and whether the fuse lets one through; no condition but that counters have not come to the end of numbers. -/
namespace Go.Proofs.Ytembocfghkmieaa
open Go.RowKit Go.Maps
/-- The document's disk. -/
structure RSt where
  n : Int
  held : List Cel
  wait : List Cel
  fused : Bool
  left : Int
  dead : Bool
  ops : List Rec
  count : Int
  seen : Int
  claims : Int
  owner : Int
def rdRow (hv wv ov : Value) (s : RSt) : Array Value := #[.int .i64 s.n, hv, wv, .bool s.fused, .int .i64 s.left, .bool s.dead, ov, .int .i64 s.count, .int .i64 s.seen, .int .i64 s.claims, .int .i64 s.owner]
structure RDAt (w : World) (B g : Nat) (hv wv ov : Value) (s : RSt) : Prop where
  row : w.heap[g]? = some (.cells (rdRow hv wv ov s) 102)
  held : w.ownsRow B 85 1025 hv s.held.length (s.held.flatMap celRow)
  wait : w.ownsRow B 85 1025 wv s.wait.length (s.wait.flatMap celRow)
  ops : w.ownsRow B 108 1026 ov s.ops.length (s.ops.flatMap recCells)
  two : ∀ b, hv.ownBlock = some b → wv.ownBlock ≠ some b
  base : B ≤ g
section
variable {w w' : World} {B g : Nat} {hv wv ov : Value} {s s' : RSt}
theorem RDAt.later (h : RDAt w B g hv wv ov s) (hb : Below w.heap.size w w') : RDAt w' B g hv wv ov s :=
  ⟨heap_kept h.row hb, own_later h.held hb, own_later h.wait hb, own_later h.ops hb, h.two, h.base⟩
theorem RDAt.free (h : RDAt w B g hv wv ov s) (i : Nat) : w.frozen? ⟨g, i, none⟩ = false := Joins.unfrozen_of_block h.row i
theorem RDAt.cells (h : RDAt w B g hv wv ov s) : w.cell? ⟨g, 0, none⟩ = some (.int .i64 s.n) ∧ w.cell? ⟨g, 1, none⟩ = some hv ∧ w.cell? ⟨g, 2, none⟩ = some wv ∧ w.cell? ⟨g, 3, none⟩ = some (.bool s.fused) ∧ w.cell? ⟨g, 4, none⟩ = some (.int .i64 s.left) ∧ w.cell? ⟨g, 5, none⟩ = some (.bool s.dead) ∧ w.cell? ⟨g, 6, none⟩ = some ov ∧ w.cell? ⟨g, 7, none⟩ = some (.int .i64 s.count) ∧ w.cell? ⟨g, 8, none⟩ = some (.int .i64 s.seen) ∧ w.cell? ⟨g, 9, none⟩ = some (.int .i64 s.claims) ∧ w.cell? ⟨g, 10, none⟩ = some (.int .i64 s.owner) :=
  ⟨Joins.cell_of_block h.row 0, Joins.cell_of_block h.row 1, Joins.cell_of_block h.row 2, Joins.cell_of_block h.row 3, Joins.cell_of_block h.row 4, Joins.cell_of_block h.row 5, Joins.cell_of_block h.row 6, Joins.cell_of_block h.row 7, Joins.cell_of_block h.row 8, Joins.cell_of_block h.row 9, Joins.cell_of_block h.row 10⟩
/-- One of the disk's plain cells is written. -/
theorem RDAt.set (h : RDAt w B g hv wv ov s) {j : Nat} {u : Value} (hr : (rdRow hv wv ov s).setIfInBounds j u = rdRow hv wv ov s') (h1 : s'.held = s.held) (h2 : s'.wait = s.wait) (h3 : s'.ops = s.ops) : RDAt (w.setCell ⟨g, j, none⟩ u) B g hv wv ov s' := by
  refine ⟨?_, ?_, ?_, ?_, h.two, h.base⟩
  · rw [heap_setCell_same w g j _ 102 u h.row, hr]
  · rw [h1]; exact ownsRow_setCell_other h.held (a := ⟨g, j, none⟩) (own_ne h.held h.row (by decide)) u
  · rw [h2]; exact ownsRow_setCell_other h.wait (a := ⟨g, j, none⟩) (own_ne h.wait h.row (by decide)) u
  · rw [h3]; exact ownsRow_setCell_other h.ops (a := ⟨g, j, none⟩) (own_ne h.ops h.row (by decide)) u
theorem rLen_any (h : RDAt w B g hv wv ov s) : Calls Try.prog 54 #[.pointer (some ⟨g, 0, none⟩)] w fun e w' => e = .returned (.int .i64 s.n) ∧ w' = w := by
  obtain ⟨c0, _⟩ := h.cells
  go_enter Try.func54, Try.ntmps54
  go_wp2
  go_ret
  exact ⟨rfl, rfl⟩
theorem rMade_any (h : RDAt w B g hv wv ov s) : Calls Try.prog 52 #[.pointer (some ⟨g, 0, none⟩)] w fun e w' => e = .returned (.int .i64 s.count) ∧ w' = w := by
  have c7 := h.cells.2.2.2.2.2.2.2.1
  go_enter Try.func52, Try.ntmps52
  go_wp2
  go_ret
  exact ⟨rfl, rfl⟩
theorem rReads_any (h : RDAt w B g hv wv ov s) : Calls Try.prog 53 #[.pointer (some ⟨g, 0, none⟩)] w fun e w' => e = .returned (.int .i64 s.seen) ∧ w' = w := by
  have c8 := h.cells.2.2.2.2.2.2.2.2.1
  go_enter Try.func53, Try.ntmps53
  go_wp2
  go_ret
  exact ⟨rfl, rfl⟩
theorem rStopped_any (h : RDAt w B g hv wv ov s) : Calls Try.prog 55 #[.pointer (some ⟨g, 0, none⟩)] w fun e w' => e = .returned (.bool s.dead) ∧ w' = w := by
  have c5 := h.cells.2.2.2.2.2.1
  go_enter Try.func55, Try.ntmps55
  go_wp2
  go_ret
  exact ⟨rfl, rfl⟩
/-- Does a number claim it? -/
def rClaimed (s : RSt) (n : Int) : Bool := !s.dead && decide (0 < n) && decide (n = s.owner)
theorem rClaimed_any (h : RDAt w B g hv wv ov s) (n : Int) : Calls Try.prog 48 #[.pointer (some ⟨g, 0, none⟩), .int .i64 n] w fun e w' => e = .returned (.bool (rClaimed s n)) ∧ w' = w := by
  have c5 := h.cells.2.2.2.2.2.1
  have c10 := h.cells.2.2.2.2.2.2.2.2.2.2
  unfold rClaimed
  cases hd : s.dead
  · rw [hd] at c5
    by_cases h0 : 0 < n
    · by_cases h1 : n = s.owner
      · have e1 : (n == s.owner) = true := by simpa using h1
        have e2 : (!false && decide (0 < n) && decide (n = s.owner)) = true := by rw [decide_eq_true h0, decide_eq_true h1]; rfl
        rw [e2]
        go_enter Try.func48, Try.ntmps48
        go_wp2
        go_ret
        exact ⟨rfl, rfl⟩
      · have e1 : (n == s.owner) = false := by simpa using h1
        have e2 : (!false && decide (0 < n) && decide (n = s.owner)) = false := by simp [h1]
        rw [e2]
        clear h1 e2
        go_enter Try.func48, Try.ntmps48
        go_wp2
        go_ret
        exact ⟨rfl, rfl⟩
    · have e1 : decide (0 < n) = false := decide_eq_false h0
      have e2 : (!false && decide (0 < n) && decide (n = s.owner)) = false := by simp [h0]
      rw [e2]
      clear h0 e2
      go_enter Try.func48, Try.ntmps48
      go_wp2
      go_ret
      exact ⟨rfl, rfl⟩
  · rw [hd] at c5
    go_enter Try.func48, Try.ntmps48
    go_wp2
    go_ret
    exact ⟨rfl, rfl⟩
/-- A new fuse. -/
def rFuse (s : RSt) (n : Int) : RSt := if s.dead then s else { s with fused := decide (0 ≤ n), left := n }
theorem rFuse_any (h : RDAt w B g hv wv ov s) (n : Int) : Calls Try.prog 45 #[.pointer (some ⟨g, 0, none⟩), .int .i64 n] w fun e w' => e = .returned (.tuple #[]) ∧ RDAt w' B g hv wv ov (rFuse s n) ∧ Fr (fun i => i = g) w w' := by
  have c5 := h.cells.2.2.2.2.2.1
  have c3 := h.cells.2.2.2.1
  have f3 := h.free 3
  unfold rFuse
  cases hd : s.dead
  · rw [hd] at c5
    have H1 := Hid.mk' (h.set (j := 3) (u := .bool (decide (0 ≤ n))) (s' := { s with fused := decide (0 ≤ n) }) rfl rfl rfl rfl)
    have HF1 := Hid.mk' (Fr.setCell w g 3 (.bool (decide (0 ≤ n))))
    have HD := Hid.mk' hd
    clear h hd
    go_enter Try.func45, Try.ntmps45
    go_upto_region 2 with fail
    clear c3 f3 c5
    generalize w.setCell ⟨g, 3, none⟩ (.bool (decide (0 ≤ n))) = w1 at *
    have c4 := H1.out.cells.2.2.2.2.1
    have f4 := H1.out.free 4
    have H2 := Hid.mk' (H1.out.set (j := 4) (u := .int .i64 n) (s' := { s with fused := decide (0 ≤ n), left := n }) rfl rfl rfl rfl)
    have HF2 := Hid.mk' (HF1.out.trans (Fr.setCell w1 g 4 (.int .i64 n)) fun _ _ q => q)
    clear H1 HF1
    go_wp2
    go_end0
    refine ⟨rfl, ?_, HF2.out⟩
    have e := H2.out
    rw [HD.out] at e
    exact e
  · rw [hd] at c5
    have HH := Hid.mk' h
    clear h
    go_enter Try.func45, Try.ntmps45
    go_wp2
    refine bodyPost_ret (results_none rfl _ _ _) rfl ?_
    exact ⟨rfl, HH.out, Fr.refl _ _⟩
/-- A claim. -/
def rClaim (s : RSt) : RSt := if s.dead then s else { s with claims := s.claims + 1, owner := s.claims + 1 }
def rClaimN (s : RSt) : Int := if s.dead then 0 else s.claims + 1
theorem rClaim_any (h : RDAt w B g hv wv ov s) (hc : 0 ≤ s.claims ∧ s.claims < 9223372036854775807) : Calls Try.prog 47 #[.pointer (some ⟨g, 0, none⟩)] w fun e w' => e = .returned (.int .i64 (rClaimN s)) ∧ RDAt w' B g hv wv ov (rClaim s) ∧ Fr (fun i => i = g) w w' := by
  have c5 := h.cells.2.2.2.2.2.1
  have c9 := h.cells.2.2.2.2.2.2.2.2.2.1
  have f9 := h.free 9
  unfold rClaim rClaimN
  cases hd : s.dead
  · rw [hd] at c5
    have hw : IntKind.i64.wrap (s.claims + 1) = s.claims + 1 := by rw [IntKind.wrap_i64]; omega
    have H1 := Hid.mk' (h.set (j := 9) (u := .int .i64 (s.claims + 1)) (s' := { s with claims := s.claims + 1 }) rfl rfl rfl rfl)
    have HF1 := Hid.mk' (Fr.setCell w g 9 (.int .i64 (s.claims + 1)))
    have HD := Hid.mk' hd
    clear h hd
    go_enter Try.func47, Try.ntmps47
    go_upto_region 4 with fail
    clear c9 f9 c5
    generalize w.setCell ⟨g, 9, none⟩ (.int .i64 (s.claims + 1)) = w1 at *
    have c9 := H1.out.cells.2.2.2.2.2.2.2.2.2.1
    have c10 := H1.out.cells.2.2.2.2.2.2.2.2.2.2
    have f10 := H1.out.free 10
    dsimp only at c9 c10
    have H2 := Hid.mk' (H1.out.set (j := 10) (u := .int .i64 (s.claims + 1)) (s' := { s with claims := s.claims + 1, owner := s.claims + 1 }) rfl rfl rfl rfl)
    have HF2 := Hid.mk' (HF1.out.trans (Fr.setCell w1 g 10 (.int .i64 (s.claims + 1))) fun _ _ q => q)
    clear H1 HF1
    go_upto_region 5 with fail
    clear c9 c10 f10
    generalize w1.setCell ⟨g, 10, none⟩ (.int .i64 (s.claims + 1)) = w2 at *
    have c9 := H2.out.cells.2.2.2.2.2.2.2.2.2.1
    dsimp only at c9
    go_wp2
    go_ret
    refine ⟨rfl, ?_, HF2.out⟩
    have e := H2.out
    rw [HD.out] at e
    exact e
  · rw [hd] at c5
    have HH := Hid.mk' h
    clear h
    go_enter Try.func47, Try.ntmps47
    go_wp2
    go_ret
    exact ⟨rfl, HH.out, Fr.refl _ _⟩
/-- Does the fuse let one through, and what the disk is then. -/
def rLetsB (s : RSt) : Bool := !(s.fused && decide (s.left = 0))
def rLets (s : RSt) : RSt := if rLetsB s then (if s.fused then { s with left := s.left - 1, count := s.count + 1 } else { s with count := s.count + 1 }) else { s with dead := true }
theorem rLets_any (h : RDAt w B g hv wv ov s) (hl : s.fused = true → 0 ≤ s.left ∧ s.left ≤ 9223372036854775807) (hc : 0 ≤ s.count ∧ s.count < 9223372036854775807) : Calls Try.prog 75 #[.pointer (some ⟨g, 0, none⟩)] w fun e w' => e = .returned (.bool (rLetsB s)) ∧ RDAt w' B g hv wv ov (rLets s) ∧ Fr (fun i => i = g) w w' := by
  have c3 := h.cells.2.2.2.1
  have c4 := h.cells.2.2.2.2.1
  have c5 := h.cells.2.2.2.2.2.1
  have c7 := h.cells.2.2.2.2.2.2.2.1
  have f4 := h.free 4
  have f5 := h.free 5
  have f7 := h.free 7
  have hw7 : IntKind.i64.wrap (s.count + 1) = s.count + 1 := by rw [IntKind.wrap_i64]; omega
  unfold rLets rLetsB
  cases hf : s.fused
  · rw [hf] at c3
    have H1 := Hid.mk' (h.set (j := 7) (u := .int .i64 (s.count + 1)) (s' := { s with count := s.count + 1 }) rfl rfl rfl rfl)
    have HF1 := Hid.mk' (Fr.setCell w g 7 (.int .i64 (s.count + 1)))
    have HD := Hid.mk' hf
    clear h hf hl
    go_enter Try.func75, Try.ntmps75
    go_wp2
    go_ret
    refine ⟨rfl, ?_, HF1.out⟩
    have e := H1.out
    rw [HD.out] at e
    exact e
  · rw [hf] at c3
    by_cases h0 : s.left = 0
    · have H1 := Hid.mk' (h.set (j := 5) (u := .bool true) (s' := { s with dead := true }) rfl rfl rfl rfl)
      have HF1 := Hid.mk' (Fr.setCell w g 5 (.bool true))
      have HD := Hid.mk' hf
      have e0 : (s.left == 0) = true := by simpa using h0
      have HE : Hid ((!(true && decide (s.left = 0))) = false) := by rw [decide_eq_true h0]; exact Hid.mk' rfl
      rw [HE.out]
      clear h hf hl h0 HE
      go_enter Try.func75, Try.ntmps75
      go_wp2
      go_ret
      refine ⟨rfl, ?_, HF1.out⟩
      have e := H1.out
      rw [HD.out] at e
      exact e
    · have hl0 := hl hf
      have e0 : (s.left == 0) = false := by simpa using h0
      have HE : Hid ((!(true && decide (s.left = 0))) = true) := by rw [decide_eq_false h0]; exact Hid.mk' rfl
      have hw4 : IntKind.i64.wrap (s.left - 1) = s.left - 1 := by rw [IntKind.wrap_i64]; omega
      have H1 := Hid.mk' (h.set (j := 4) (u := .int .i64 (s.left - 1)) (s' := { s with left := s.left - 1 }) rfl rfl rfl rfl)
      have HF1 := Hid.mk' (Fr.setCell w g 4 (.int .i64 (s.left - 1)))
      have HD := Hid.mk' hf
      rw [HE.out]
      clear h hf hl h0 HE hl0
      go_enter Try.func75, Try.ntmps75
      go_upto_region 6 with fail
      clear c3 c4 c5 c7 f4 f5 f7
      generalize w.setCell ⟨g, 4, none⟩ (.int .i64 (s.left - 1)) = w1 at *
      have c7 := H1.out.cells.2.2.2.2.2.2.2.1
      have f7 := H1.out.free 7
      dsimp only at c7
      have H2 := Hid.mk' (H1.out.set (j := 7) (u := .int .i64 (s.count + 1)) (s' := { s with left := s.left - 1, count := s.count + 1 }) rfl rfl rfl rfl)
      have HF2 := Hid.mk' (HF1.out.trans (Fr.setCell w1 g 7 (.int .i64 (s.count + 1))) fun _ _ q => q)
      clear H1 HF1
      go_wp2
      go_ret
      refine ⟨rfl, ?_, HF2.out⟩
      have e := H2.out
      rw [HD.out] at e
      exact e
end
end Go.Proofs.Ytembocfghkmieaa
/- The document's Load: whether an image may be, and a copy of it; of fewer bytes than memory has. -/
namespace Go.Proofs.Ytembocfghkmieaa
open Go.RowKit Go.Maps
set_option maxRecDepth 20000 in
set_option maxHeartbeats 400000 in
theorem refBlank_any (f : Nat → Int) (w : World) :
    Calls Try.prog 80 #[.agg (blk f)] w fun e w' => e = .returned (.bool (blankB f)) ∧ Below w.heap.size w w' := by
  go_enter Try.func80, Try.ntmps80
  go_wp2
  go_loop [3] (fun s3 => ∃ k : Nat, (k : Int) ≤ 1024 ∧ s3 = .int .i64 k ∧ Hid (∀ i, i < k → f i = 0)) (fun s3 => 1024 - (intOf s3).toNat)
  case atStart => exact ⟨0, by omega, rfl, fun i hi => absurd hi (by omega)⟩
  case round =>
    obtain ⟨k, hk, rfl, hz⟩ := hrel
    by_cases hk2 : (k : Int) < 1024
    · have hbk := blk_get f k (by omega)
      by_cases h0 : f k = 0
      · have HZ : Hid (∀ i, i < k + 1 → f i = 0) := fun i hi => by
          by_cases e : i = k
          · rw [e]; exact h0
          · exact hz.out i (by omega)
        have hb : (f k != 0) = false := by simp [h0]
        clear hz h0
        go_wp2
        go_round
        case rel => exact ⟨k + 1, by omega, by go_num, HZ⟩
        case measure => simp [intOf]; omega
      · have HS : Hid (sameB f nought = false) := by
          show _ = _
          cases h : sameB f nought with
          | false => rfl
          | true => exact absurd ((sameB_iff f nought).1 h k (by omega)) h0
        have hb : (f k != 0) = true := by simp [h0]
        clear hz h0
        go_wp2
        go_ret
        exact ⟨by unfold blankB; rw [HS.out]; rfl, (Below.refl _ _).alloc (Nat.le_refl _) _⟩
    · have HS : Hid (sameB f nought = true) := (sameB_iff f nought).2 fun i hi => hz.out i (by omega)
      clear hz
      go_wp2
      go_ret
      exact ⟨by unfold blankB; rw [HS.out]; rfl, (Below.refl _ _).alloc (Nat.le_refl _) _⟩

section
variable {ops : Array Oper} {rest : List Oper} {Q : Exit → Act → World → Prop} {a : Act} {w : World} {dst : Option Tmp} {x y : Operand} {ty : TypeId} {pos : String} {aft : Array Edge} {gd : Option (Nat × Bool)}
theorem isLoad (t : TypeId) (h : wpList Try.prog ops Q (⟨dst, .load t x, ty, pos, aft, gd⟩ :: rest) a w) : wpList Try.prog ops Q (⟨dst, .load t x, ty, pos, aft, gd⟩ :: rest) a w := h
theorem isStore (t : TypeId) (h : wpList Try.prog ops Q (⟨dst, .store t x y, ty, pos, aft, gd⟩ :: rest) a w) : wpList Try.prog ops Q (⟨dst, .store t x y, ty, pos, aft, gd⟩ :: rest) a w := h
end
set_option maxRecDepth 20000 in
set_option maxHeartbeats 4000000 in
theorem refMay_any (n : Int) (l : List Cel) (p : Option Addr) (cap : Nat) (w : World) (hl : l.length < 9223372036854775807) (h : ImgAt w p l) :
    Calls Try.prog 62 #[.agg #[.int .i64 n, .slice p l.length cap]] w fun e w' => e = .returned (.bool (mayB n l)) ∧ Below w.heap.size w w' := by
  have hB := below_new w (.cells #[.int .i64 n, .slice p l.length cap] 32)
  have hG := heap_alloc_new w (.cells #[.int .i64 n, .slice p l.length cap] 32)
  have HI : Hid (ImgAt w p l) := h
  clear h
  obtain ⟨N, hN⟩ : ∃ N, l.length = N := ⟨_, rfl⟩
  have HN := Hid.mk' hN
  rw [hN] at hl hB hG ⊢
  clear hN
  have h10 : ((1 : Int) ≤ n ∧ n ≤ 1048576) ↔ bndB n = true := by unfold bndB; exact decide_eq_true_iff.symm
  by_cases h1 : n < 1
  · have hres : mayB n l = false := by
      have : bndB n = false := by cases q : bndB n; rfl; exact absurd (h10.2 q).1 (by omega)
      unfold mayB; rw [this]; rfl
    rw [hres]
    clear hres h10
    go_enter Try.func62, Try.ntmps62
    go_wp2
    go_ret
    exact ⟨rfl, hB⟩
  by_cases h2 : n > 1048576
  · have hres : mayB n l = false := by
      have : bndB n = false := by cases q : bndB n; rfl; exact absurd (h10.2 q).2 (by omega)
      unfold mayB; rw [this]; rfl
    rw [hres]
    clear hres h10
    go_enter Try.func62, Try.ntmps62
    go_wp2
    go_ret
    exact ⟨rfl, hB⟩
  have HR : Hid (mayB n l = risesB n (-1) (l.drop 0)) := by unfold mayB; rw [h10.1 ⟨by omega, by omega⟩]; rfl
  generalize mayB n l = res at *
  clear h10
  have H0 : Hid (Below w.heap.size w (w.alloc (.cells #[.int .i64 n, .slice p N cap] 32)) ∧ (w.alloc (.cells #[.int .i64 n, .slice p N cap] 32)).heap[w.heap.size]? = some (.cells #[.int .i64 n, .slice p N cap] 32)) := ⟨hB, hG⟩
  clear hB hG
  go_enter Try.func62, Try.ntmps62
  go_wp2
  generalize hq1 : w.heap.size = g1 at *
  have HQ := Hid.mk' hq1
  clear hq1
  go_loopw [3] (fun s3 wx => ∃ (k : Nat) (x : Int), k ≤ N ∧ s3 = .int .i64 k ∧ -1 ≤ x ∧ (0 < k → 0 ≤ x ∧ ∃ f, l[k - 1]? = some (x, f)) ∧ Hid (Below g1 w wx ∧ wx.heap[g1]? = some (.cells #[.int .i64 n, .slice p N cap] 32)) ∧ Hid (res = risesB n x (l.drop k) ∧ (k = 0 → x = -1))) (fun s3 _ => N - (intOf s3).toNat)
  case atStart => exact ⟨0, -1, by omega, rfl, by omega, fun q => by omega, H0.out, HR.out, fun _ => rfl⟩
  case round =>
    obtain ⟨k, x, hk, rfl, hx, hpv, H9, HR2⟩ := hrel
    clear HR H0
    have hb9 := H9.out.1
    rw [← HQ.out] at hb9
    have i0 : wr.cell? ⟨g1, 0, none⟩ = some (.int .i64 n) := Joins.cell_of_block H9.out.2 0
    have i1 : wr.cell? ⟨g1, 1, none⟩ = some (.slice p N cap) := Joins.cell_of_block H9.out.2 1
    by_cases hk2 : (k : Int) < N
    · have hlN := HN.out
      have hc : l[k]? = some (l[k]'(by omega)) := List.getElem?_eq_getElem _
      obtain ⟨b, off, rfl, hlt, hC⟩ := HI.out (by omega)
      have hd : l.drop k = l[k]'(by omega) :: l.drop (k + 1) := List.drop_eq_getElem_cons (by omega)
      generalize l[k]'(by omega) = c at hc hd
      obtain ⟨q1, q2⟩ := (hC.later hb9 hlt) k c hc
      obtain ⟨y, f⟩ := c
      have hR := HR2.out.1
      rw [hd] at hR
      unfold risesB at hR
      simp only at hR q1 q2
      have hfin : ∀ W', Below wr.heap.size wr W' → Below g1 w W' := fun W' h => by
        rw [← HQ.out]
        exact below_next hb9 h
      have HFn := Hid.mk' hfin
      by_cases h3 : y < 0
      · have hr0 : res = false := by rw [hR]; simp [show y ≤ x by omega]
        clear hR hd hc HR2 hC hpv hfin hb9
        subst hr0
        go_wp2
        go_ret
        exact ⟨rfl, by rw [HQ.out]; exact HFn.out _ (Below.refl _ _)⟩
      by_cases h4 : y ≥ n
      · have hr0 : res = false := by rw [hR]; simp [h4]
        clear hR hd hc HR2 hC hpv hfin hb9
        subst hr0
        go_wp2
        go_ret
        exact ⟨rfl, by rw [HQ.out]; exact HFn.out _ (Below.refl _ _)⟩
      have HBl := Hid.mk' (refBlank_any f)
      rcases Nat.eq_zero_or_pos k with hk0 | hk0
      · have hxx := HR2.out.2 hk0
        subst hk0
        have hk3 : (0 : Int) < N := by omega
        have hk4 : 0 < N := by omega
        clear hk2 hk
        simp only [Int.natCast_zero]
        have q2' : BlkAt wr b (off + 1) f := by have := q2; rwa [show off + 0 * 1025 + 1 = off + 1 by omega] at this
        have q1' : wr.cell? ⟨b, off, none⟩ = some (.int .i64 y) := by have := q1; rwa [show off + 0 * 1025 = off by omega] at this
        cases h5 : blankB f
        · have HR3 : Hid (res = risesB n y (l.drop (0 + 1))) := by
            show res = _
            rw [hR, h5]; simp [show ¬ (y ≤ x) by omega, show ¬ (y ≥ n) from h4]
          rw [h5] at HBl
          have HcK : Hid (l[0]? = some (y, f)) := hc
          clear hR hd hc HR2 hC hpv hfin hb9 hxx q2 q1
          go_wp2_with (first | (with_reducible refine isLoad 58 ?_; refine wpList_loadMw rfl (.tmp 54) rfl b (off + 1) rfl f q2' ?_) | (go_at_call 80; fail))
          refine (HBl.out _).mono ?_
          rintro e W9 ⟨rfl, hb10⟩
          have H10 : Hid (Below g1 w W9 ∧ W9.heap[g1]? = some (.cells #[.int .i64 n, .slice (some ⟨b, off, none⟩) N cap] 32)) := ⟨HFn.out _ hb10, heap_kept H9.out.2 hb10⟩
          clear hb10 H9
          go_wp2
          exact ⟨⟨0 + 1, y, by omega, by go_num, by omega, fun _ => ⟨by omega, f, HcK.out⟩, H10.out, HR3.out, fun q => by omega⟩, by simp [intOf]; omega⟩
        · have hr0 : res = false := by rw [hR, h5]; simp
          rw [h5] at HBl
          clear hR hd hc HR2 hC hpv hfin hb9 hxx q2 q1
          subst hr0
          go_wp2_with (first | (with_reducible refine isLoad 58 ?_; refine wpList_loadMw rfl (.tmp 54) rfl b (off + 1) rfl f q2' ?_) | (go_at_call 80; fail))
          refine (HBl.out _).mono ?_
          rintro e W9 ⟨rfl, hb10⟩
          have H10 := Hid.mk' (HFn.out _ hb10)
          clear hb10 H9
          go_wp2
          go_ret
          exact ⟨rfl, by rw [HQ.out]; exact H10.out⟩
      · obtain ⟨j, rfl⟩ : ∃ j, k = j + 1 := ⟨k - 1, by omega⟩
        obtain ⟨hx0, fp, hpp⟩ := hpv hk0
        rw [show j + 1 - 1 = j by omega] at hpp
        obtain ⟨p1, _⟩ := (hC.later hb9 hlt) j (x, fp) hpp
        simp only at p1
        have hw1 : IntKind.i64.wrap ((j : Int) + 1 - 1) = (j : Int) := by rw [IntKind.wrap_i64]; omega
        by_cases h6 : x ≥ y
        · have hr0 : res = false := by rw [hR]; simp [show y ≤ x from h6]
          clear hR hd hc HR2 hC hpv hfin hb9
          subst hr0
          go_wp2
          go_ret
          exact ⟨rfl, by rw [HQ.out]; exact HFn.out _ (Below.refl _ _)⟩
        · cases h5 : blankB f
          · have HR3 : Hid (res = risesB n y (l.drop (j + 1 + 1))) := by
              show res = _
              rw [hR, h5]; simp [show ¬ (y ≤ x) by omega, show ¬ (y ≥ n) from h4]
            rw [h5] at HBl
            have HcK : Hid (l[j + 1]? = some (y, f)) := hc
            clear hR hd hc HR2 hC hpv hfin hb9
            go_wp2_with (first | (with_reducible refine isLoad 58 ?_; refine wpList_loadMw rfl (.tmp 54) rfl b (off + (j + 1) * 1025 + 1) rfl f q2 ?_) | (go_at_call 80; fail))
            refine (HBl.out _).mono ?_
            rintro e W9 ⟨rfl, hb10⟩
            have H10 : Hid (Below g1 w W9 ∧ W9.heap[g1]? = some (.cells #[.int .i64 n, .slice (some ⟨b, off, none⟩) N cap] 32)) := ⟨HFn.out _ hb10, heap_kept H9.out.2 hb10⟩
            clear hb10 H9
            go_wp2
            exact ⟨⟨j + 1 + 1, y, by omega, by go_num, by omega, fun _ => ⟨by omega, f, by rw [show j + 1 + 1 - 1 = j + 1 by omega]; exact HcK.out⟩, H10.out, HR3.out, fun q => by omega⟩, by simp [intOf]; omega⟩
          · have hr0 : res = false := by rw [hR, h5]; simp
            rw [h5] at HBl
            clear hR hd hc HR2 hC hpv hfin hb9
            subst hr0
            go_wp2_with (first | (with_reducible refine isLoad 58 ?_; refine wpList_loadMw rfl (.tmp 54) rfl b (off + (j + 1) * 1025 + 1) rfl f q2 ?_) | (go_at_call 80; fail))
            refine (HBl.out _).mono ?_
            rintro e W9 ⟨rfl, hb10⟩
            have H10 := Hid.mk' (HFn.out _ hb10)
            clear hb10 H9
            go_wp2
            go_ret
            exact ⟨rfl, by rw [HQ.out]; exact H10.out⟩
    · have hr0 : res = true := by rw [HR2.out.1, List.drop_of_length_le (by have := HN.out; omega)]; rfl
      have HFn := Hid.mk' hb9
      clear hb9 hpv HR2
      subst hr0
      go_wp2
      go_ret
      exact ⟨rfl, HFn.out⟩
end Go.Proofs.Ytembocfghkmieaa
/- The document's laid: a block laid into a rising list; lists of at most a million. -/
namespace Go.Proofs.Ytembocfghkmieaa
open Go.RowKit Go.Maps
/-- The list so far, and the block's own place. -/
structure LDs (w : World) (b : Nat → Int) (v : Value) (acc : List Cel) (wx : World) : Prop where
  own : wx.ownsRow w.heap.size 85 1025 v acc.length (acc.flatMap celRow)
  bel : Below w.heap.size w wx
  box : wx.heap[w.heap.size]? = some (.cells (blk b) 58)
theorem LDs.later {w wx wy : World} {b : Nat → Int} {v : Value} {acc : List Cel} (h : LDs w b v acc wx) (hb : Below wx.heap.size wx wy) : LDs w b v acc wy := ⟨own_later h.own hb, below_next h.bel hb, heap_kept h.box hb⟩
theorem LDs.push {w wx : World} {b : Nat → Int} {v : Value} {acc : List Cel} (h : LDs w b v acc wx) (hn : acc.length ≤ 50000000) (x : Cel) :
    ∃ v' w', (Builtin.append_ #[30, 30] 30 #[v, .slice (some ⟨wx.heap.size, 0, none⟩) 1 1]).run Try.prog (wx.alloc (.cells (celRow x).toArray 85)) = .ok v' w' ∧ LDs w b v' (acc ++ [x]) w' := by
  obtain ⟨i0, hi0, hz0, hz1, hz2⟩ := info_parts info85
  obtain ⟨v', w', hr, ho, hb, hf⟩ := own_pushF celRow_len celRow_one Try.underlying30 hi0 hz0 hz1 hz2 (cel_size (0, nought)) (by omega) (by omega) h.own h.bel.size hn x 30
  exact ⟨v', w', hr, ho, h.bel.trans hb, (hf.block _ (Array.getElem?_eq_some_iff.1 h.box).1 (own_ne h.own h.box (by decide))).trans h.box⟩
theorem laidGo_at (k : Int) (b : Nat → Int) (dn : Bool) (y : Int) (f : Nat → Int) (t : List Cel) : laidGo k b dn ((y, f) :: t) = (if !dn && decide (k ≤ y) then [(k, b)] else []) ++ ((if y = k then [] else [(y, f)]) ++ laidGo k b (dn || decide (k ≤ y)) t) := rfl
set_option maxRecDepth 20000 in
set_option maxHeartbeats 4000000 in
theorem laid_any (l : List Cel) (p0 : Option Addr) (cap : Nat) (k : Int) (b : Nat → Int) (w : World) (hl : l.length ≤ 9000000) (h : ImgAt w p0 l) :
    Calls Try.prog 76 #[.slice p0 l.length cap, .int .i64 k, .agg (blk b)] w fun e w' => ∃ v, e = .returned v ∧ w'.ownsRow w.heap.size 85 1025 v (laidL l k b).length ((laidL l k b).flatMap celRow) ∧ Below w.heap.size w w' := by
  have HI := Hid.mk' h
  clear h
  obtain ⟨N, hN⟩ : ∃ N, l.length = N := ⟨_, rfl⟩
  have HN := Hid.mk' hN
  rw [hN] at hl ⊢
  clear hN
  have H0 : Hid (LDs w b (.slice none 0 0) [] (w.alloc (.cells (blk b) 58))) := ⟨World.ownsRow_nil _ _ _ _, below_new _ _, heap_alloc_new _ _⟩
  have HL0 : Hid (laidL l k b = [] ++ laidGo k b (blankB b) (l.drop 0)) := rfl
  have HBl := Hid.mk' (fun W => refBlank_any b W)
  have HBz := Hid.mk' (blk_size b)
  have HE1 := Hid.mk' (fun (o : Oper) (a : Act) (W : World) (x y : Operand) (ho : o.op = .build 85 #[(0, x), (1, y)]) (hx : a.eval x = .int .i64 k) (hy : a.eval y = .agg (blk b)) => exec_build85 (W := W) (p := k) (f := b) ho hx hy)
  generalize laidL l k b = L at *
  generalize hbl : blankB b = bl at *
  clear hbl
  go_enter Try.func76, Try.ntmps76
  go_wp2_with (first | (with_reducible refine isLoad 58 ?_; refine wpList_load25 rfl (.tmp 5) rfl w.heap.size rfl b H0.out.box ?_) | (go_at_call 80; fail))
  refine Calls.mono (HBl.out _) ?_
  rintro e W1 ⟨rfl, hb⟩
  have H1 := Hid.mk' (H0.out.later hb)
  clear hb H0 HBl
  go_wp2
  go_loopw [8, 9, 10] (fun s8 s9 s10 wx => ∃ (j : Nat) (dn : Bool) (acc : List Cel), (j : Int) ≤ N ∧ s9 = .bool dn ∧ s10 = .int .i64 j ∧ Hid (LDs w b s8 acc wx) ∧ Hid (L = acc ++ laidGo k b dn (l.drop j) ∧ acc.length ≤ 2 * j)) (fun _ _ s10 _ => N - (intOf s10).toNat)
  case atStart => exact ⟨0, bl, [], by omega, rfl, rfl, H1.out, HL0.out, by simp⟩
  case round =>
    obtain ⟨j, dn, acc, hj, rfl, rfl, HS, HA⟩ := hrel
    clear H1 HL0
    by_cases hj2 : (j : Int) < N
    · have hjl : j < l.length := by have := HN.out; omega
      have hc : l[j]? = some (l[j]'hjl) := List.getElem?_eq_getElem hjl
      have hd : l.drop j = l[j]'hjl :: l.drop (j + 1) := List.drop_eq_getElem_cons hjl
      generalize l[j]'hjl = x at hc hd
      obtain ⟨b0, off, rfl, hlt, hC⟩ := HI.out (by omega)
      have HQA := Hid.mk' (fun (W : World) (hW : Below w.heap.size w W) => show CelAt W b0 (off + j * 1025) x from (hC.later hW hlt) j x hc)
      have HQ := Hid.mk' (HQA.out wr HS.out.bel)
      have c1 := HQ.out.1
      obtain ⟨y, f⟩ := x
      dsimp only at c1
      have hA := HA.out
      rw [hd, laidGo_at] at hA
      have HA2 := Hid.mk' hA
      clear hd hc hC HA hA hjl
      cases dn
      · by_cases hp : k ≤ y
        · have hpI : decide (k ≤ y) = true := decide_eq_true hp
          obtain ⟨v2, w2, hr2, hs2⟩ := HS.out.push (by have := HA2.out.2; omega) (k, b)
          have HR2 := Hid.mk' hr2
          have HS2 := Hid.mk' hs2
          clear hr2 hs2
          by_cases hy : y = k
          · have HF := Hid.mk' (show L = (acc ++ [(k, b)]) ++ laidGo k b true (l.drop (j + 1)) ∧ (acc ++ [(k, b)]).length ≤ 2 * (j + 1) from ⟨by rw [HA2.out.1]; simp [hy], by have := HA2.out.2; rw [List.length_append, List.length_singleton]; omega⟩)
            subst hy
            have c2 : w2.cell? ⟨b0, off + j * 1025, none⟩ = some (.int .i64 y) := by
              have e := (HS.out.bel.cell (p := ⟨b0, off + j * 1025, none⟩) hlt)
              exact (HS2.out.bel.cell (p := ⟨b0, off + j * 1025, none⟩) hlt).trans (e.symm.trans c1)
            clear HA2 HQA
            go_wp2_with (first | (with_reducible refine isLoad 58 ?_; refine wpList_load25 rfl (.tmp 5) rfl w.heap.size rfl b HS.out.box ?_) | refine wpList_exec rfl (HE1.out _ _ _ _ _ rfl rfl rfl) ?_ | refine wpList_exec rfl (exec_slice85 (c := (y, b)) rfl rfl) ?_ | (at_builtin; refine wpList_exec rfl (exec_pushY rfl rfl rfl HR2.out) ?_))
            exact ⟨⟨j + 1, true, acc ++ [(y, b)], by omega, rfl, by go_num, HS2.out, HF.out⟩, by simp [intOf]; omega⟩
          · have hne : (y != k) = true := by simpa using hy
            have HQ2 := Hid.mk' (HQA.out w2 HS2.out.bel)
            have c2 := HQ2.out.1
            dsimp only at c2
            obtain ⟨v3, w3, hr3, hs3⟩ := HS2.out.push (by have := HA2.out.2; rw [List.length_append, List.length_singleton]; omega) (y, f)
            have HR3 := Hid.mk' hr3
            have HS3 := Hid.mk' hs3
            clear hr3 hs3
            have HF := Hid.mk' (show L = (acc ++ [(k, b)] ++ [(y, f)]) ++ laidGo k b true (l.drop (j + 1)) ∧ (acc ++ [(k, b)] ++ [(y, f)]).length ≤ 2 * (j + 1) from ⟨by rw [HA2.out.1]; simp [hp, hy], by have := HA2.out.2; rw [List.length_append, List.length_append, List.length_singleton, List.length_singleton]; omega⟩)
            clear HA2 HQA hy
            go_wp2_with (first | (with_reducible refine isLoad 58 ?_; refine wpList_load25 rfl (.tmp 5) rfl w.heap.size rfl b HS.out.box ?_) | refine wpList_exec rfl (HE1.out _ _ _ _ _ rfl rfl rfl) ?_ | refine wpList_exec rfl (exec_slice85 (c := (k, b)) rfl rfl) ?_ | (at_builtin; refine wpList_exec rfl (exec_pushY rfl rfl rfl HR2.out) ?_) | (with_reducible refine isLoad 85 ?_; refine wpList_exec rfl (exec_load85 (c := (y, f)) rfl rfl HQ2.out) ?_) | refine wpList_exec rfl (exec_slice85 (c := (y, f)) rfl rfl) ?_ | (at_builtin; refine wpList_exec rfl (exec_pushY rfl rfl rfl HR3.out) ?_))
            exact ⟨⟨j + 1, true, acc ++ [(k, b)] ++ [(y, f)], by omega, rfl, by go_num, HS3.out, HF.out⟩, by simp [intOf]; omega⟩
        · have hy : ¬ y = k := by omega
          have hpI : decide (k ≤ y) = false := decide_eq_false hp
          have hne : (y != k) = true := by simpa using hy
          obtain ⟨v2, w2, hr2, hs2⟩ := HS.out.push (by have := HA2.out.2; omega) (y, f)
          have HR2 := Hid.mk' hr2
          have HS2 := Hid.mk' hs2
          clear hr2 hs2
          have HF := Hid.mk' (show L = (acc ++ [(y, f)]) ++ laidGo k b false (l.drop (j + 1)) ∧ (acc ++ [(y, f)]).length ≤ 2 * (j + 1) from ⟨by rw [HA2.out.1]; simp [hp, hy], by have := HA2.out.2; rw [List.length_append, List.length_singleton]; omega⟩)
          clear HA2 HQA hy
          go_wp2_with (first | (with_reducible refine isLoad 85 ?_; refine wpList_exec rfl (exec_load85 (c := (y, f)) rfl rfl HQ.out) ?_) | refine wpList_exec rfl (exec_slice85 (c := (y, f)) rfl rfl) ?_ | (at_builtin; refine wpList_exec rfl (exec_pushY rfl rfl rfl HR2.out) ?_))
          exact ⟨⟨j + 1, false, acc ++ [(y, f)], by omega, rfl, by go_num, HS2.out, HF.out⟩, by simp [intOf]; omega⟩
      · by_cases hy : y = k
        · have HF := Hid.mk' (show L = acc ++ laidGo k b true (l.drop (j + 1)) ∧ acc.length ≤ 2 * (j + 1) from ⟨by rw [HA2.out.1]; simp [hy], by have := HA2.out.2; omega⟩)
          subst hy
          clear HA2 HQA
          go_wp2
          exact ⟨⟨j + 1, true, acc, by omega, rfl, by go_num, HS.out, HF.out⟩, by simp [intOf]; omega⟩
        · have hne : (y != k) = true := by simpa using hy
          obtain ⟨v2, w2, hr2, hs2⟩ := HS.out.push (by have := HA2.out.2; omega) (y, f)
          have HR2 := Hid.mk' hr2
          have HS2 := Hid.mk' hs2
          clear hr2 hs2
          have HF := Hid.mk' (show L = (acc ++ [(y, f)]) ++ laidGo k b true (l.drop (j + 1)) ∧ (acc ++ [(y, f)]).length ≤ 2 * (j + 1) from ⟨by rw [HA2.out.1]; simp [hy], by have := HA2.out.2; rw [List.length_append, List.length_singleton]; omega⟩)
          clear HA2 HQA hy
          go_wp2_with (first | (with_reducible refine isLoad 85 ?_; refine wpList_exec rfl (exec_load85 (c := (y, f)) rfl rfl HQ.out) ?_) | refine wpList_exec rfl (exec_slice85 (c := (y, f)) rfl rfl) ?_ | (at_builtin; refine wpList_exec rfl (exec_pushY rfl rfl rfl HR2.out) ?_))
          exact ⟨⟨j + 1, true, acc ++ [(y, f)], by omega, rfl, by go_num, HS2.out, HF.out⟩, by simp [intOf]; omega⟩
    · have hjN : N = j := by omega
      subst hjN
      have hd : l.drop N = [] := List.drop_eq_nil_of_le (by have := HN.out; omega)
      have hA := HA.out
      rw [hd] at hA
      have HA2 := Hid.mk' hA
      clear hA hd HA
      cases dn
      · obtain ⟨v2, w2, hr2, hs2⟩ := HS.out.push (by have := HA2.out.2; omega) (k, b)
        have HR2 := Hid.mk' hr2
        have HS2 := Hid.mk' hs2
        have HF := Hid.mk' (show L = acc ++ [(k, b)] from HA2.out.1)
        clear hr2 hs2 HA2
        go_wp2_with (first | (with_reducible refine isLoad 58 ?_; refine wpList_load25 rfl (.tmp 5) rfl w.heap.size rfl b HS.out.box ?_) | refine wpList_exec rfl (HE1.out _ _ _ _ _ rfl rfl rfl) ?_ | refine wpList_exec rfl (exec_slice85 (c := (k, b)) rfl rfl) ?_ | (at_builtin; refine wpList_exec rfl (exec_pushY rfl rfl rfl HR2.out) ?_))
        go_ret
        exact ⟨_, rfl, by rw [HF.out]; exact HS2.out.own, HS2.out.bel⟩
      · have HF := Hid.mk' (show L = acc from by rw [HA2.out.1]; exact List.append_nil acc)
        clear HA2
        go_wp2
        go_ret
        exact ⟨_, rfl, by rw [HF.out]; exact HS.out.own, HS.out.bel⟩
end Go.Proofs.Ytembocfghkmieaa
/- The document's at: a block of a list; lists of at most a million. -/
namespace Go.Proofs.Ytembocfghkmieaa
open Go.RowKit Go.Maps
theorem exec_ldBlk {o : Oper} {a : Act} {W : World} {x : Operand} {g off : Nat} {f : Nat → Int} (ho : o.op = .load 58 x) (hx : a.eval x = .pointer (some ⟨g, off, none⟩)) (h : BlkAt W g off f) : (execOp a.eval o).run Try.prog W = .ok (.value (.agg (blk f))) W := by
  have e := loadM h
  generalize blk f = Z at *
  unfold execOp
  simp only [ho, hx, e, Sem.run_bind, Result.andThen_ok, Sem.run_pure]
theorem atL_at (k y : Int) (f : Nat → Int) (t : List Cel) : atL ((y, f) :: t) k = if y = k then f else atL t k := rfl
set_option maxRecDepth 20000 in
set_option maxHeartbeats 4000000 in
theorem rAt_any (l : List Cel) (p0 : Option Addr) (cap : Nat) (k : Int) (w : World) (hl : l.length ≤ 1000000000) (h : ImgAt w p0 l) :
    Calls Try.prog 74 #[.slice p0 l.length cap, .int .i64 k] w fun e w' => e = .returned (.agg (blk (atL l k))) ∧ Below w.heap.size w w' := by
  have HI := Hid.mk' h
  clear h
  obtain ⟨N, hN⟩ : ∃ N, l.length = N := ⟨_, rfl⟩
  have HN := Hid.mk' hN
  rw [hN] at hl ⊢
  clear hN
  have z58 := zero25
  have HL0 : Hid (atL l k = atL (l.drop 0) k) := rfl
  generalize atL l k = L at *
  go_enter Try.func74, Try.ntmps74
  go_wp2
  go_loopw [5] (fun s3 wx => ∃ j : Nat, (j : Int) ≤ N ∧ s3 = .int .i64 j ∧ Hid (Below w.heap.size w wx ∧ wx.heap[w.heap.size]? = some (.cells (blk nought) 58)) ∧ Hid (L = atL (l.drop j) k)) (fun s3 _ => N - (intOf s3).toNat)
  case atStart => exact ⟨0, by omega, rfl, ⟨below_new _ _, heap_alloc_new _ _⟩, HL0.out⟩
  case round =>
    obtain ⟨j, hj, rfl, HS, HA⟩ := hrel
    clear HL0
    by_cases hj2 : (j : Int) < N
    · have hjl : j < l.length := by have := HN.out; omega
      have hc : l[j]? = some (l[j]'hjl) := List.getElem?_eq_getElem hjl
      have hd : l.drop j = l[j]'hjl :: l.drop (j + 1) := List.drop_eq_getElem_cons hjl
      generalize l[j]'hjl = x at hc hd
      obtain ⟨b0, off, rfl, hlt, hC⟩ := HI.out (by omega)
      have HQ := Hid.mk' (show CelAt wr b0 (off + j * 1025) x from (hC.later HS.out.1 hlt) j x hc)
      have c1 := HQ.out.1
      obtain ⟨y, f⟩ := x
      dsimp only at c1
      have hA := HA.out
      rw [hd, atL_at] at hA
      have HA2 := Hid.mk' hA
      clear hd hc hC HA hA hjl
      by_cases hy : y = k
      · have HF := Hid.mk' (show L = f from by rw [HA2.out]; simp [hy])
        have HB := Hid.mk' (show BlkAt wr b0 (off + j * 1025 + 1) f from HQ.out.2)
        subst hy
        clear HA2
        go_wp2_with (first | (with_reducible refine isLoad 58 ?_; refine wpList_exec rfl (exec_ldBlk rfl rfl HB.out) ?_) | (with_reducible refine isStore 58 ?_; refine wpList_store25 rfl _ _ rfl w.heap.size f rfl rfl nought HS.out.2 ?_))
        refine ret25 rfl w.heap.size f rfl (setRow_heap _ _ _ _ _ _ HS.out.2) rfl ⟨by rw [HF.out], below_setRow HS.out.1 (Nat.le_refl _) _⟩
      · have HF := Hid.mk' (show L = atL (l.drop (j + 1)) k from by rw [HA2.out]; simp [hy])
        have hne : (y == k) = false := by simpa using hy
        clear HA2 hy
        go_wp2
        exact ⟨⟨j + 1, by omega, by go_num, HS.out, HF.out⟩, by simp [intOf]; omega⟩
    · have hjN : N = j := by omega
      subst hjN
      have hd : l.drop N = [] := List.drop_eq_nil_of_le (by have := HN.out; omega)
      have HF := Hid.mk' (show L = nought from by rw [HA.out, hd]; rfl)
      clear hd HA
      go_wp2_with (with_reducible refine isStore 58 ?_; refine wpList_store25 rfl _ _ rfl w.heap.size nought rfl rfl nought HS.out.2 ?_)
      refine ret25 rfl w.heap.size nought rfl (setRow_heap _ _ _ _ _ _ HS.out.2) rfl ⟨by rw [HF.out], below_setRow HS.out.1 (Nat.le_refl _) _⟩
end Go.Proofs.Ytembocfghkmieaa
/- The document's Read: a block as it was written last; lists of at most a thousand million. -/
namespace Go.Proofs.Ytembocfghkmieaa
open Go.RowKit Go.Maps
variable {w : World} {B g : Nat} {hv wv ov : Value} {s : RSt}
/-- Why it refuses a block. -/
def rRefV (s : RSt) (k : Int) : Int := if s.dead then 3 else if 0 ≤ k ∧ k < s.n then 0 else 2
/-- A block as it was written last. -/
def rCur (s : RSt) (k : Int) : Nat → Int := match lastAt s.wait k with
  | some i => match s.wait[i]? with
    | some c => c.2
    | none => nought
  | none => atL s.held k
theorem rCur_wait {k : Int} {i : Nat} {c : Cel} (h : lastAt s.wait k = some i) (hc : s.wait[i]? = some c) : rCur s k = c.2 := by
  unfold rCur
  rw [h]
  simp only [hc]
theorem rCur_held {k : Int} (h : lastAt s.wait k = none) : rCur s k = atL s.held k := by
  unfold rCur
  rw [h]
theorem rRefV_ok {k : Int} (h : rRefV s k = 0) : s.dead = false ∧ 0 ≤ k ∧ k < s.n := by
  unfold rRefV at h
  cases hs : s.dead
  · rw [hs] at h
    simp only [Bool.false_eq_true, if_false] at h
    by_cases hk : 0 ≤ k ∧ k < s.n
    · exact ⟨rfl, hk⟩
    · rw [if_neg hk] at h; omega
  · rw [hs] at h; simp at h
/-- A block's place beside the disk is written. -/
theorem RDAt.box (h : RDAt w B g hv wv ov s) {q : Nat} {Z : Array Value} (hq : w.heap[q]? = some (.cells Z 58)) (cs : Array Value) : RDAt (w.setRow q cs) B g hv wv ov s :=
  ⟨(setRow_other w q g cs (box_ne h.row hq (by decide))).trans h.row, own_other h.held (own_ne h.held hq (by decide)) cs, own_other h.wait (own_ne h.wait hq (by decide)) cs, own_other h.ops (own_ne h.ops hq (by decide)) cs, h.two, h.base⟩
set_option maxRecDepth 20000 in
set_option maxHeartbeats 4000000 in
theorem rRead_bad (h : RDAt w B g hv wv ov s) {k : Int} (hb : rRefV s k ≠ 0) :
    Calls Try.prog 42 #[.pointer (some ⟨g, 0, none⟩), .int .i64 k] w fun e w' => e = .returned (.tuple #[.agg (blk nought), .int .i64 (rRefV s k)]) ∧ RDAt w' B g hv wv ov s ∧ Fr (fun i => i = g) w w' := by
  have H1 := Hid.mk' (h.later (below_new w (.cells (blk nought) 58)))
  have HX := Hid.mk' (heap_alloc_new w (.cells (blk nought) 58))
  have HF := Hid.mk' (Fr.alloc (fun i => i = g) w (.cells (blk nought) 58))
  have HE := Hid.mk' (H1.out.box HX.out (blk nought))
  have HG := Hid.mk' (HF.out.trans (Fr.setRow (w.alloc (.cells (blk nought) 58)) w.heap.size (blk nought)) (fun i hi q => absurd q (by omega)))
  have z58 := zero25
  have c0 := H1.out.cells.1
  have c5 := H1.out.cells.2.2.2.2.2.1
  have hlt : g < w.heap.size := (Array.getElem?_eq_some_iff.1 h.row).1
  unfold rRefV at hb ⊢
  clear h
  cases hd : s.dead
  · rw [hd] at c5 hb
    simp only [Bool.false_eq_true, if_false] at hb ⊢
    have hk : ¬ (0 ≤ k ∧ k < s.n) := fun q => hb (by rw [if_pos q])
    rw [if_neg hk]
    clear hb
    by_cases h0 : k < 0
    all_goals
      go_enter Try.func42, Try.ntmps42
      go_wp2_with (with_reducible refine isStore 58 ?_; refine wpList_store25 rfl _ _ rfl w.heap.size nought rfl rfl nought HX.out ?_)
      exact retBT rfl w.heap.size nought rfl (setRow_heap _ _ _ _ _ _ HX.out) rfl ⟨rfl, HE.out, HG.out⟩
  · rw [hd] at c5
    clear hb
    simp only [if_true]
    go_enter Try.func42, Try.ntmps42
    go_wp2_with (with_reducible refine isStore 58 ?_; refine wpList_store25 rfl _ _ rfl w.heap.size nought rfl rfl nought HX.out ?_)
    exact retBT rfl w.heap.size nought rfl (setRow_heap _ _ _ _ _ _ HX.out) rfl ⟨rfl, HE.out, HG.out⟩
set_option maxRecDepth 20000 in
set_option maxHeartbeats 4000000 in
theorem rRead_ok (h : RDAt w B g hv wv ov s) {k : Int} (hb : rRefV s k = 0) (hc : 0 ≤ s.seen ∧ s.seen < 9223372036854775807) (hlw : s.wait.length ≤ 1000000000) (hlh : s.held.length ≤ 1000000000) :
    Calls Try.prog 42 #[.pointer (some ⟨g, 0, none⟩), .int .i64 k] w fun e w' => e = .returned (.tuple #[.agg (blk (rCur s k)), .int .i64 0]) ∧ RDAt w' B g hv wv ov { s with seen := s.seen + 1 } ∧ Fr (fun i => i = g) w w' := by
  obtain ⟨hd, hk0, hk1⟩ := rRefV_ok hb
  clear hb
  have h1 := h.later (below_new w (.cells (blk nought) 58))
  have hlt : g < w.heap.size := (Array.getElem?_eq_some_iff.1 h.row).1
  have c0 := h1.cells.1
  have c5 := h1.cells.2.2.2.2.2.1
  have c8 := h1.cells.2.2.2.2.2.2.2.2.1
  rw [hd] at c5
  have f8 := h1.free 8
  have hw8 : IntKind.i64.wrap (s.seen + 1) = s.seen + 1 := by rw [IntKind.wrap_i64]; omega
  have hsz : (w.setCell ⟨g, 8, none⟩ (.int .i64 (s.seen + 1))).heap.size = w.heap.size := by simp
  have H1 := Hid.mk' ((h.set (j := 8) (u := .int .i64 (s.seen + 1)) (s' := { s with seen := s.seen + 1 }) rfl rfl rfl rfl).later (below_new _ (.cells (blk nought) 58)))
  have hX := heap_alloc_new (w.setCell ⟨g, 8, none⟩ (.int .i64 (s.seen + 1))) (.cells (blk nought) 58)
  rw [hsz] at hX
  have HX := Hid.mk' hX
  have HF := Hid.mk' ((Fr.setCell w g 8 (.int .i64 (s.seen + 1))).trans (Fr.alloc (fun i => i = g) _ (.cells (blk nought) 58)) fun _ _ q => q)
  clear hX hsz
  have z58 := zero25
  clear h h1
  go_enter Try.func42, Try.ntmps42
  go_upto_region 8 with fail
  clear c0 c5 c8 f8 hw8
  generalize (w.setCell ⟨g, 8, none⟩ (.int .i64 (s.seen + 1))).alloc (.cells (blk nought) 58) = W1 at *
  have c1 := H1.out.cells.2.1
  have c2 := H1.out.cells.2.2.1
  obtain ⟨pw, cw, hwv, hIw, -, -⟩ := HL.img (show HL B W1 wv s.wait from H1.out.wait)
  obtain ⟨ph, ch, hhv, hIh, -, -⟩ := HL.img (show HL B W1 hv s.held from H1.out.held)
  have HIw := Hid.mk' hIw
  have HA := Hid.mk' (fun W (hI : ImgAt W ph s.held) => rAt_any s.held ph ch k W hlh hI)
  have HIh := Hid.mk' hIh
  subst hwv
  subst hhv
  clear hIw hIh
  obtain ⟨N, hN⟩ : ∃ N, s.wait.length = N := ⟨_, rfl⟩
  have HN := Hid.mk' hN
  rw [hN] at c2 hlw
  clear hN
  go_wp2
  go_loopw [6] (fun s6 wx => ∃ (q : Int) (j : Nat), j ≤ N ∧ q = (j : Int) - 1 ∧ s6 = .int .i64 q ∧ wx = W1 ∧ Hid (lastAt s.wait k = lastAt (s.wait.take j) k)) (fun s6 _ => (intOf s6 + 1).toNat)
  case atStart => exact ⟨_, N, Nat.le_refl _, rfl, by go_num, rfl, by rw [← HN.out, List.take_length]; exact Hid.mk' rfl⟩
  case round =>
    obtain ⟨q, j, hj, hq, rfl, rfl, HL⟩ := hrel
    by_cases hq0 : 0 ≤ q
    · obtain ⟨i, rfl⟩ := Int.eq_ofNat_of_zero_le hq0
      have hj1 : j = i + 1 := by omega
      subst hj1
      have hil : i < s.wait.length := by have := HN.out; omega
      have hcc : s.wait[i]? = some (s.wait[i]'hil) := List.getElem?_eq_getElem hil
      have ht : s.wait.take (i + 1) = s.wait.take i ++ [s.wait[i]'hil] := by rw [List.take_add_one, List.getElem?_eq_getElem hil]; rfl
      generalize s.wait[i]'hil = x at hcc ht
      have hL := HL.out
      rw [ht, lastAt_snoc, List.length_take, Nat.min_eq_left (Nat.le_of_lt hil)] at hL
      obtain ⟨b0, off, rfl, hlt0, hC⟩ := HIw.out (by omega)
      have HQ := Hid.mk' (show CelAt wr b0 (off + i * 1025) x from hC i x hcc)
      have e1 := HQ.out.1
      clear hq
      by_cases hx : x.1 = k
      · rw [if_pos hx] at hL
        have HV := Hid.mk' (rCur_wait hL hcc)
        have HB := Hid.mk' (show BlkAt wr b0 (off + i * 1025 + 1) x.2 from HQ.out.2)
        have HE := Hid.mk' (H1.out.box HX.out (blk x.2))
        have HG := Hid.mk' (HF.out.trans (Fr.setRow wr w.heap.size (blk x.2)) (fun i hi q => absurd q (by omega)))
        rw [hx] at e1
        clear hL ht hcc hC HL hil hx HA HIh
        go_wp2_with (first | (with_reducible refine isLoad 58 ?_; refine wpList_exec rfl (exec_ldBlk rfl rfl HB.out) ?_) | (with_reducible refine isStore 58 ?_; refine wpList_store25 rfl _ _ rfl w.heap.size x.2 rfl rfl nought HX.out ?_))
        exact retBT rfl w.heap.size x.2 rfl (setRow_heap _ _ _ _ _ _ HX.out) rfl ⟨by rw [HV.out]; rfl, HE.out, HG.out⟩
      · rw [if_neg hx] at hL
        have HL2 := Hid.mk' hL
        have hne : (x.1 == k) = false := by simpa using hx
        clear hL ht hcc hC HL hil hx HA HIh
        go_wp2
        exact ⟨⟨_, i, by omega, rfl, by go_num, by first | rfl | trivial, HL2.out⟩, by simp [intOf]⟩
    · have hj0 : j = 0 := by omega
      subst hj0
      have HV := Hid.mk' (rCur_held (s := s) (k := k) (HL.out.trans rfl))
      clear HL
      go_wp2_with (go_at_call 74; fail)
      refine Calls.mono (HA.out _ HIh.out) ?_
      rintro e W2 ⟨rfl, hb⟩
      have hX2 := heap_kept HX.out hb
      have H2 := Hid.mk' ((H1.out.later hb).box hX2 (blk (atL s.held k)))
      have HG := Hid.mk' ((HF.out.trans (Fr.ofBelow hb) (T' := fun i => i = g) fun _ _ q => q).trans (Fr.setRow W2 w.heap.size (blk (atL s.held k))) (fun i hi q => absurd q (by omega)))
      have HX2 := Hid.mk' hX2
      clear hb hX2 H1 HX HF HA
      generalize atL s.held k = f at *
      go_wp2_with (with_reducible refine isStore 58 ?_; refine wpList_store25 rfl _ _ rfl w.heap.size f rfl rfl nought HX2.out ?_)
      exact retBT rfl w.heap.size f rfl (setRow_heap _ _ _ _ _ _ HX2.out) rfl ⟨by rw [HV.out]; rfl, H2.out, HG.out⟩
end Go.Proofs.Ytembocfghkmieaa
/- The document's disk: one more is pending, one more stands in the history; lists of at most ten million. -/
namespace Go.Proofs.Ytembocfghkmieaa
open Go.RowKit Go.Maps
/-- The blocks of the document's disk. -/
def RHas (g : Nat) (hv wv ov : Value) (b : Nat) : Prop := b = g ∨ hv.ownBlock = some b ∨ wv.ownBlock = some b ∨ ov.ownBlock = some b
/-- From one state to the next: nothing turns but the disk's own blocks; its lists lie where they lay, or are new. -/
structure RTo (g : Nat) (hv wv ov hv' wv' ov' : Value) (w w' : World) : Prop where
  fr : Fr (RHas g hv wv ov) w w'
  loc : ∀ b, RHas g hv' wv' ov' b → RHas g hv wv ov b ∨ w.heap.size ≤ b
theorem RTo.trans {g : Nat} {a1 a2 a3 b1 b2 b3 c1 c2 c3 : Value} {u v w : World} (h : RTo g a1 a2 a3 b1 b2 b3 u v) (k : RTo g b1 b2 b3 c1 c2 c3 v w) : RTo g a1 a2 a3 c1 c2 c3 u w :=
  ⟨h.fr.trans k.fr fun i hi q => (h.loc i q).elim id fun r => absurd hi (by omega), fun b q => (k.loc b q).elim (h.loc b) fun r => .inr (by have := h.fr.size; omega)⟩
theorem RTo.ofFr {g : Nat} {hv wv ov : Value} {w w' : World} (h : Fr (fun i => i = g) w w') : RTo g hv wv ov hv wv ov w w' := ⟨h.mono fun _ _ q => .inl q, fun _ q => .inl q⟩
theorem RTo.drew {g : Nat} {hv wv ov hv' wv' ov' : Value} {w w' : World} (h : RTo g hv wv ov hv' wv' ov' w w') : RTo g hv wv ov hv' wv' ov' w w'.drew := ⟨h.fr.trans (Fr.drew (T := fun _ => False) w') fun _ _ q => q.elim, h.loc⟩
theorem RTo.stepW {g : Nat} {hv wv ov v : Value} {V W : World} (hf : Fr (fun i => wv.ownBlock = some i) V W) (hor : ∀ k, v.ownBlock = some k → wv.ownBlock = some k ∨ V.heap.size ≤ k) : RTo g hv wv ov hv v ov V (W.setCell ⟨g, 2, none⟩ v) :=
  ⟨(hf.mono fun _ _ q => .inr (.inr (.inl q))).trans (Fr.setCell W g 2 v) fun _ _ q => .inl q, fun b q => by
    rcases q with q | q | q | q
    · exact .inl (.inl q)
    · exact .inl (.inr (.inl q))
    · exact (hor b q).elim (fun r => .inl (.inr (.inr (.inl r)))) .inr
    · exact .inl (.inr (.inr (.inr q)))⟩
theorem RTo.stepO {g : Nat} {hv wv ov v : Value} {V W : World} (hf : Fr (fun i => ov.ownBlock = some i) V W) (hor : ∀ k, v.ownBlock = some k → ov.ownBlock = some k ∨ V.heap.size ≤ k) : RTo g hv wv ov hv wv v V (W.setCell ⟨g, 6, none⟩ v) :=
  ⟨(hf.mono fun _ _ q => .inr (.inr (.inr q))).trans (Fr.setCell W g 6 v) fun _ _ q => .inl q, fun b q => by
    rcases q with q | q | q | q
    · exact .inl (.inl q)
    · exact .inl (.inr (.inl q))
    · exact .inl (.inr (.inr (.inl q)))
    · exact (hor b q).elim (fun r => .inl (.inr (.inr (.inr r)))) .inr⟩
/-- What a barrier turns. -/
def Tco (g : Nat) (ov : Value) (i : Nat) : Prop := i = g ∨ ov.ownBlock = some i
def RWrP (B g : Nat) (hv wv ov : Value) (t : RSt) (w w' : World) : Prop := ∃ wv' ov', RDAt w' B g hv wv' ov' t ∧ RTo g hv wv ov hv wv' ov' w w'
def RBarP (B g : Nat) (hv ov : Value) (t : RSt) (w w' : World) : Prop := ∃ hv' ov', RDAt w' B g hv' (.slice none 0 0) ov' t ∧ Fr (Tco g ov) w w' ∧ (∀ b, hv'.ownBlock = some b → hv.ownBlock = some b ∨ w.heap.size ≤ b) ∧ ∀ b, ov'.ownBlock = some b → ov.ownBlock = some b ∨ w.heap.size ≤ b
def RCrP (B g : Nat) (hv : Value) (t : RSt) (w w' : World) : Prop := ∃ hv', RDAt w' B g hv' (.slice none 0 0) (.slice none 0 0) t ∧ Fr (fun i => i = g) w w' ∧ ∀ b, hv'.ownBlock = some b → hv.ownBlock = some b ∨ w.heap.size ≤ b
theorem Fr.drewF {T : Nat → Prop} {a b : World} (h : Fr T a b) : Fr T a b.drew := h.trans (Fr.drew (T := fun _ => False) b) fun _ _ q => q.elim
section
variable {w V : World} {B g : Nat} {hv wv ov : Value} {s : RSt}
theorem RDAt.lt (h : RDAt w B g hv wv ov s) : g < w.heap.size := (Array.getElem?_eq_some_iff.1 h.row).1
/-- One more is pending. -/
theorem RDAt.pushW (h : RDAt V B g hv wv ov s) (hl : s.wait.length ≤ 10000000) (x : Cel) :
    ∃ v' W5, (Builtin.append_ #[30, 30] 30 #[wv, .slice (some ⟨V.heap.size, 0, none⟩) 1 1]).run Try.prog (V.alloc (.cells (celRow x).toArray 85)) = .ok v' W5 ∧ W5.heap[g]? = some (.cells (rdRow hv wv ov s) 102) ∧ Below B V W5 ∧ Fr (fun i => wv.ownBlock = some i) V W5 ∧ (∀ k, v'.ownBlock = some k → wv.ownBlock = some k ∨ V.heap.size ≤ k) ∧
      RDAt (W5.setCell ⟨g, 2, none⟩ v') B g hv v' ov { s with wait := s.wait ++ [x] } := by
  obtain ⟨v', W5, hr, ho, hb, hF, hor⟩ := HL.push (show HL B V wv s.wait from h.wait) (by have := h.base; have := h.lt; omega) (by omega) x 30
  have hrow : W5.heap[g]? = some (.cells (rdRow hv wv ov s) 102) := (hF.block g h.lt (own_ne h.wait h.row (by decide))).trans h.row
  refine ⟨v', W5, hr, hrow, hb, hF, hor, ?_, ?_, ?_, ?_, ?_, h.base⟩
  · rw [heap_setCell_same W5 g 2 _ 102 v' hrow]; rfl
  · exact ownsRow_setCell_other (own_frame h.held hF fun i q1 q2 => h.two i q1 q2) (a := ⟨g, 2, none⟩) (own_ne (own_frame h.held hF fun i q1 q2 => h.two i q1 q2) hrow (by decide)) v'
  · exact ownsRow_setCell_other ho (a := ⟨g, 2, none⟩) (own_ne ho hrow (by decide)) v'
  · have ho2 := own_frame h.ops hF fun i q1 q2 => rows_apart (by decide) h.wait q2 h.ops q1
    exact ownsRow_setCell_other ho2 (a := ⟨g, 2, none⟩) (own_ne ho2 hrow (by decide)) v'
  · intro b q1 q2
    rcases hor b q2 with q | q
    · exact h.two b q1 q
    · have := (h.held.lt b q1).2
      omega
/-- One more stands in the history. -/
theorem RDAt.pushO (h : RDAt V B g hv wv ov s) (hl : s.ops.length ≤ 10000000) (x : Rec) :
    ∃ v' W5, (Builtin.append_ #[67, 67] 67 #[ov, .slice (some ⟨V.heap.size, 0, none⟩) 1 1]).run Try.prog (V.alloc (.cells (recCells x).toArray 108)) = .ok v' W5 ∧ W5.heap[g]? = some (.cells (rdRow hv wv ov s) 102) ∧ Below B V W5 ∧ Fr (fun i => ov.ownBlock = some i) V W5 ∧ (∀ k, v'.ownBlock = some k → ov.ownBlock = some k ∨ V.heap.size ≤ k) ∧
      RDAt (W5.setCell ⟨g, 6, none⟩ v') B g hv wv v' { s with ops := s.ops ++ [x] } := by
  obtain ⟨i0, hi0, hz0, hz1, hz2⟩ := info_parts info108
  obtain ⟨v', W5, hr, ho, hb, hF, hor⟩ := own_pushL recCells_len recCells_one Try.underlying67 hi0 hz0 hz1 hz2 (rec_size ⟨0, 0, nought⟩) (by omega) (by omega) h.ops (by have := h.base; have := h.lt; omega) (by omega) x 67
  have hrow : W5.heap[g]? = some (.cells (rdRow hv wv ov s) 102) := (hF.block g h.lt (own_ne h.ops h.row (by decide))).trans h.row
  have ho1 := own_frame h.held hF fun i q1 q2 => rows_apart (by decide) h.ops q2 h.held q1
  have ho2 := own_frame h.wait hF fun i q1 q2 => rows_apart (by decide) h.ops q2 h.wait q1
  refine ⟨v', W5, hr, hrow, hb, hF, hor, ?_, ?_, ?_, ?_, h.two, h.base⟩
  · rw [heap_setCell_same W5 g 6 _ 102 v' hrow]; rfl
  · exact ownsRow_setCell_other ho1 (a := ⟨g, 6, none⟩) (own_ne ho1 hrow (by decide)) v'
  · exact ownsRow_setCell_other ho2 (a := ⟨g, 6, none⟩) (own_ne ho2 hrow (by decide)) v'
  · exact ownsRow_setCell_other ho (a := ⟨g, 6, none⟩) (own_ne ho hrow (by decide)) v'
theorem RDAt.drew (h : RDAt V B g hv wv ov s) : RDAt V.drew B g hv wv ov s := ⟨h.row, own_frame h.held (Fr.drew (T := fun _ => False) V) fun _ _ q => q, own_frame h.wait (Fr.drew (T := fun _ => False) V) fun _ _ q => q, own_frame h.ops (Fr.drew (T := fun _ => False) V) fun _ _ q => q, h.two, h.base⟩
theorem rLets_wait (s : RSt) : (rLets s).wait = s.wait := by unfold rLets; split; (split <;> rfl); rfl
theorem rLets_ops (s : RSt) : (rLets s).ops = s.ops := by unfold rLets; split; (split <;> rfl); rfl
theorem rLets_held (s : RSt) : (rLets s).held = s.held := by unfold rLets; split; (split <;> rfl); rfl
end
end Go.Proofs.Ytembocfghkmieaa
/- The document's Write: a block is pending behind all that is, and stands in the history; lists of at most ten million. -/
namespace Go.Proofs.Ytembocfghkmieaa
open Go.RowKit Go.Maps
variable {w : World} {B g : Nat} {hv wv ov : Value} {s : RSt}
/-- What Write does. -/
def rWriteS (s : RSt) (k : Int) (f : Nat → Int) : RSt := { rLets s with wait := (rLets s).wait ++ [(k, f)], ops := (rLets s).ops ++ [⟨1, k, f⟩] }
set_option maxRecDepth 20000 in
theorem rWrite_bad (h : RDAt w B g hv wv ov s) {k : Int} (hb : rRefV s k ≠ 0) (f : Nat → Int) :
    Calls Try.prog 43 #[.pointer (some ⟨g, 0, none⟩), .int .i64 k, .agg (blk f)] w fun e w' => e = .returned (.int .i64 (rRefV s k)) ∧ RDAt w' B g hv wv ov s ∧ Below w.heap.size w w' := by
  have H1 := Hid.mk' (h.later (below_new w (.cells (blk f) 58)))
  have HB := Hid.mk' (below_new w (.cells (blk f) 58))
  have c0 := H1.out.cells.1
  have c5 := H1.out.cells.2.2.2.2.2.1
  unfold rRefV at hb ⊢
  clear h
  cases hd : s.dead
  · rw [hd] at c5 hb
    simp only [Bool.false_eq_true, if_false] at hb ⊢
    have hk : ¬ (0 ≤ k ∧ k < s.n) := fun q => hb (by rw [if_pos q])
    rw [if_neg hk]
    clear hb
    by_cases h0 : k < 0
    all_goals
      go_enter Try.func43, Try.ntmps43
      go_wp2
      go_ret
      exact ⟨rfl, H1.out, HB.out⟩
  · rw [hd] at c5
    clear hb
    simp only [if_true]
    go_enter Try.func43, Try.ntmps43
    go_wp2
    go_ret
    exact ⟨rfl, H1.out, HB.out⟩
set_option maxRecDepth 20000 in
theorem rWrite_dead (h : RDAt w B g hv wv ov s) {k : Int} (hb : rRefV s k = 0) (hL : rLetsB s = false) (hl : s.fused = true → 0 ≤ s.left ∧ s.left ≤ 9223372036854775807) (hc : 0 ≤ s.count ∧ s.count < 9223372036854775807) (f : Nat → Int) :
    Calls Try.prog 43 #[.pointer (some ⟨g, 0, none⟩), .int .i64 k, .agg (blk f)] w fun e w' => e = .returned (.int .i64 3) ∧ RDAt w' B g hv wv ov (rLets s) ∧ Fr (fun i => i = g) w w' := by
  obtain ⟨hd, hk0, hk1⟩ := rRefV_ok hb
  have h1 := h.later (below_new w (.cells (blk f) 58))
  have c0 := h1.cells.1
  have c5 := h1.cells.2.2.2.2.2.1
  rw [hd] at c5
  have hT := rLets_any h1 hl hc
  rw [hL] at hT
  have HF := Hid.mk' (Fr.alloc (fun i => i = g) w (.cells (blk f) 58))
  clear h h1 hb hl hc
  go_enter Try.func43, Try.ntmps43
  go_wp2_with (go_at_call 75; fail)
  refine hT.mono ?_
  rintro e W ⟨rfl, hD, hF⟩
  have HD := Hid.mk' hD
  have HF2 := Hid.mk' (HF.out.trans hF fun _ _ q => q)
  clear hD hF HF
  go_wp2
  go_ret
  exact ⟨rfl, HD.out, HF2.out⟩
set_option maxRecDepth 20000 in
set_option maxHeartbeats 4000000 in
theorem rWrite_ok (h : RDAt w B g hv wv ov s) {k : Int} (hb : rRefV s k = 0) (hL : rLetsB s = true) (hl : s.fused = true → 0 ≤ s.left ∧ s.left ≤ 9223372036854775807) (hc : 0 ≤ s.count ∧ s.count < 9223372036854775807) (hlw : s.wait.length ≤ 10000000) (hlo : s.ops.length ≤ 10000000) (f : Nat → Int) :
    Calls Try.prog 43 #[.pointer (some ⟨g, 0, none⟩), .int .i64 k, .agg (blk f)] w fun e w' => e = .returned (.int .i64 0) ∧ RWrP B g hv wv ov (rWriteS s k f) w w' := by
  obtain ⟨hd, hk0, hk1⟩ := rRefV_ok hb
  have h1 := h.later (below_new w (.cells (blk f) 58))
  have hX := heap_alloc_new w (.cells (blk f) 58)
  have c0 := h1.cells.1
  have c5 := h1.cells.2.2.2.2.2.1
  rw [hd] at c5
  have hT := rLets_any h1 hl hc
  rw [hL] at hT
  have hlt := h.lt
  have HF := Hid.mk' (Fr.alloc (fun i => i = g) w (.cells (blk f) 58))
  have hl1 : (rLets s).wait.length ≤ 10000000 := by rw [rLets_wait]; exact hlw
  have hl2 : (rLets s).ops.length ≤ 10000000 := by rw [rLets_ops]; exact hlo
  clear h h1 hb hl hc
  go_enter Try.func43, Try.ntmps43
  go_wp2_with (go_at_call 75; fail)
  refine hT.mono ?_
  rintro e W ⟨rfl, hD, hF⟩
  have hX1 : W.heap[w.heap.size]? = some (.cells (blk f) 58) := (hF.block w.heap.size (by simp) (by omega)).trans hX
  have HF2 := Hid.mk' (RTo.ofFr (hv := hv) (wv := wv) (ov := ov) (HF.out.trans hF fun _ _ q => q))
  have HD := Hid.mk' hD
  clear hF HF hX c0 c5 hT hD
  generalize hS : rLets s = S at *
  generalize hg0 : w.heap.size = g0 at *
  go_wp2
  have D9 := HD.out.drew
  have X9 : W.drew.heap[g0]? = some (.cells (blk f) 58) := hX1
  have B9 := Hid.mk' HF2.out.drew
  refine wp_region_fork (S := fun u => u.heap[g0]? = some (.cells (blk f) 58)) [0, 1, 2, 3, 5, 6, 7] 4 8 [(9, false), (10, true), (11, true), (12, false)] (by kernel_rfl) rfl (by kernel_rfl) (fun d _ _ _ _ h => by cases d <;> exact h) X9 ?_
  try simp only [Act.put]
  generalize W.drew = V9 at *
  refine wpFork_yield (v := .pointer (some ⟨g, 0, none⟩)) rfl rfl (fun u _ => by simp [execOp, Act.eval]) ?_
  simp only [Act.put, List.setIfInBounds_toArray, List.set_cons_succ, List.set_cons_zero]
  refine wpFork_yield (v := .pointer (some ⟨g, 0, none⟩)) rfl rfl (fun u _ => by simp [execOp, Act.eval]) ?_
  simp only [Act.put, List.setIfInBounds_toArray, List.set_cons_succ, List.set_cons_zero]
  refine wpFork_yield (v := .pointer (some ⟨g, 0, none⟩)) rfl rfl (fun u _ => by go_simp) ?_
  simp only [Act.put, List.setIfInBounds_toArray, List.set_cons_succ, List.set_cons_zero]
  refine wpFork_yield (v := .pointer (some ⟨g, 2, none⟩)) rfl rfl (fun u _ => by go_simp) ?_
  simp only [Act.put, List.setIfInBounds_toArray, List.set_cons_succ, List.set_cons_zero]
  refine wpFork_yield (v := .int .i64 k) rfl rfl (fun u _ => by simp [execOp, Act.eval]) ?_
  simp only [Act.put, List.setIfInBounds_toArray, List.set_cons_succ, List.set_cons_zero]
  refine wpFork_yield (v := .agg (blk f)) rfl rfl (fun u hu => by
    unfold execOp
    simp only [Act.eval]
    have e := loadM (BlkAt.of hu)
    change Sem.run Try.prog (Instr.loadAt 58 (.pointer (some ⟨g0, 0, none⟩)) >>= fun v => pure (Next.value v)) u = _
    simp only [Sem.run_bind, e, Result.andThen_ok, Sem.run_pure]) ?_
  simp only [Act.put, List.setIfInBounds_toArray, List.set_cons_succ, List.set_cons_zero]
  refine wpFork_yield (v := .agg (celRow (k, f)).toArray) rfl rfl (fun u hu => by
    have e := build85 k f u
    simp [execOp, Act.eval, e]) ?_
  simp only [Act.put, List.setIfInBounds_toArray, List.set_cons_succ, List.set_cons_zero]
  obtain ⟨v9, W9, hr9, hw9, hb9, hf9, ho9, hE9⟩ := D9.pushW hl1 (k, f)
  obtain ⟨aa9, am9, ac9, rfl⟩ : ∃ a m c, v9 = Value.slice a m c := by obtain ⟨p, c, e, _⟩ := own_slice hE9.wait; exact ⟨_, _, _, e⟩
  have E9 := Hid.mk' hE9
  have k9 : W9.cell? ⟨g, 2, none⟩ = some wv := Joins.cell_of_block hw9 2
  have z9 : W9.frozen? ⟨g, 2, none⟩ = false := Joins.unfrozen_of_block hw9 2
  have c9 : V9.cell? ⟨g, 2, none⟩ = some wv := Joins.cell_of_block D9.row 2
  have c9' : (V9.alloc (.cells (celRow (k, f)).toArray 85)).cell? ⟨g, 2, none⟩ = some wv := by rw [World.cell?_alloc_past _ _ _ D9.lt]; exact c9
  have S1 := heap_kept X9 (below_new V9 (.cells (celRow (k, f)).toArray 85))
  have S5 : W9.heap[g0]? = some (.cells (blk f) 58) := (hf9.block g0 (Array.getElem?_eq_some_iff.1 X9).1 (own_ne D9.wait X9 (by decide))).trans X9
  have S6 : (W9.setCell ⟨g, 2, none⟩ (.slice aa9 am9 ac9)).heap[g0]? = some (.cells (blk f) 58) := (Below.heap_setCell _ _ _ _ (by show g0 ≠ g; omega)).trans S5
  have B9' := Hid.mk' (B9.out.trans (RTo.stepW hf9 ho9))
  have hbs := build30 (k, f) V9
  obtain ⟨p9, q9, e9, -⟩ := own_slice D9.wait
  have hlen9 := hl1
  rw [e9] at hr9 k9 c9 c9'
  clear hE9 hw9 hb9 hf9 ho9 D9 B9
  generalize hrc9 : (celRow (k, f)).toArray = RC9 at *
  generalize hlm9 : S.wait.length = m9 at *
  refine wpFork_nil rfl rfl ?_ ?_
  · simp only [inOrd, List.getElem?_cons_zero, List.getElem?_cons_succ]
    refine wpOrd_run (v := .slice p9 m9 q9) (w' := V9) rfl (by go_simp) X9 ?_
    simp only [Act.put, List.setIfInBounds_toArray, List.set_cons_succ, List.set_cons_zero]
    refine wpOrd_run (v := .slice (some ⟨V9.heap.size, 0, none⟩) 1 1) (w' := V9.alloc (.cells RC9 85)) rfl (by simp [execOp, Act.eval, hbs]) S1 ?_
    simp only [Act.put, List.setIfInBounds_toArray, List.set_cons_succ, List.set_cons_zero]
    refine wpOrd_run (v := .slice aa9 am9 ac9) (w' := W9) rfl (by simp [execOp, Act.eval, resolve, invoke, builtin, hr9, Result.andThen]) S5 ?_
    simp only [Act.put, List.setIfInBounds_toArray, List.set_cons_succ, List.set_cons_zero]
    refine wpOrd_yield (v := .pointer (some ⟨g, 0, none⟩)) rfl (fun u _ => by go_simp) ?_
    simp only [Act.put, List.setIfInBounds_toArray, List.set_cons_succ, List.set_cons_zero]
    refine wpOrd_yield (v := .pointer (some ⟨g, 2, none⟩)) rfl (fun u _ => by go_simp) ?_
    simp only [Act.put, List.setIfInBounds_toArray, List.set_cons_succ, List.set_cons_zero]
    refine wpOrd_do (w' := W9.setCell ⟨g, 2, none⟩ (.slice aa9 am9 ac9)) rfl (by go_simp) S6 ?_
    refine wpOrd_nil ?_
    simp only [Act.put]
    clear hr9 S1 S5 k9 z9 c9 c9' hbs hrc9
    generalize W9.setCell ⟨g, 2, none⟩ (.slice aa9 am9 ac9) = Y9 at *
    go_wp2
    have D10 := E9.out.drew
    have X10 : Y9.drew.heap[g0]? = some (.cells (blk f) 58) := S6
    have B10 := Hid.mk' B9'.out.drew
    refine wp_region_fork (S := fun u => u.heap[g0]? = some (.cells (blk f) 58)) [0, 1, 2, 3, 5, 6, 7] 4 8 [(9, false), (10, true), (11, true), (12, false)] (by kernel_rfl) rfl (by kernel_rfl) (fun d _ _ _ _ h => by cases d <;> exact h) X10 ?_
    try simp only [Act.put]
    generalize Y9.drew = V10 at *
    refine wpFork_yield (v := .pointer (some ⟨g, 0, none⟩)) rfl rfl (fun u _ => by simp [execOp, Act.eval]) ?_
    simp only [Act.put, List.setIfInBounds_toArray, List.set_cons_succ, List.set_cons_zero]
    refine wpFork_yield (v := .pointer (some ⟨g, 0, none⟩)) rfl rfl (fun u _ => by simp [execOp, Act.eval]) ?_
    simp only [Act.put, List.setIfInBounds_toArray, List.set_cons_succ, List.set_cons_zero]
    refine wpFork_yield (v := .pointer (some ⟨g, 0, none⟩)) rfl rfl (fun u _ => by go_simp) ?_
    simp only [Act.put, List.setIfInBounds_toArray, List.set_cons_succ, List.set_cons_zero]
    refine wpFork_yield (v := .pointer (some ⟨g, 6, none⟩)) rfl rfl (fun u _ => by go_simp) ?_
    simp only [Act.put, List.setIfInBounds_toArray, List.set_cons_succ, List.set_cons_zero]
    refine wpFork_yield (v := .int .i64 k) rfl rfl (fun u _ => by simp [execOp, Act.eval]) ?_
    simp only [Act.put, List.setIfInBounds_toArray, List.set_cons_succ, List.set_cons_zero]
    refine wpFork_yield (v := .agg (blk f)) rfl rfl (fun u hu => by
      unfold execOp
      simp only [Act.eval]
      have e := loadM (BlkAt.of hu)
      change Sem.run Try.prog (Instr.loadAt 58 (.pointer (some ⟨g0, 0, none⟩)) >>= fun v => pure (Next.value v)) u = _
      simp only [Sem.run_bind, e, Result.andThen_ok, Sem.run_pure]) ?_
    simp only [Act.put, List.setIfInBounds_toArray, List.set_cons_succ, List.set_cons_zero]
    refine wpFork_yield (v := .agg (recCells ⟨1, k, f⟩).toArray) rfl rfl (fun u hu => by
      have e := build108 1 k f u
      simp [execOp, Act.eval, e]) ?_
    simp only [Act.put, List.setIfInBounds_toArray, List.set_cons_succ, List.set_cons_zero]
    obtain ⟨v10, W10, hr10, hw10, hb10, hf10, ho10, hE10⟩ := D10.pushO hl2 ⟨1, k, f⟩
    obtain ⟨aa10, am10, ac10, rfl⟩ : ∃ a m c, v10 = Value.slice a m c := by obtain ⟨p, c, e, _⟩ := own_slice hE10.ops; exact ⟨_, _, _, e⟩
    have E10 := Hid.mk' hE10
    have k10 : W10.cell? ⟨g, 6, none⟩ = some ov := Joins.cell_of_block hw10 6
    have z10 : W10.frozen? ⟨g, 6, none⟩ = false := Joins.unfrozen_of_block hw10 6
    have c10 : V10.cell? ⟨g, 6, none⟩ = some ov := Joins.cell_of_block D10.row 6
    have c10' : (V10.alloc (.cells (recCells ⟨1, k, f⟩).toArray 108)).cell? ⟨g, 6, none⟩ = some ov := by rw [World.cell?_alloc_past _ _ _ D10.lt]; exact c10
    have S1 := heap_kept X10 (below_new V10 (.cells (recCells ⟨1, k, f⟩).toArray 108))
    have S5 : W10.heap[g0]? = some (.cells (blk f) 58) := (hf10.block g0 (Array.getElem?_eq_some_iff.1 X10).1 (own_ne D10.ops X10 (by decide))).trans X10
    have S6 : (W10.setCell ⟨g, 6, none⟩ (.slice aa10 am10 ac10)).heap[g0]? = some (.cells (blk f) 58) := (Below.heap_setCell _ _ _ _ (by show g0 ≠ g; omega)).trans S5
    have B10' := Hid.mk' (B10.out.trans (RTo.stepO hf10 ho10))
    have hbs := build67 ⟨1, k, f⟩ V10
    obtain ⟨p10, q10, e10, -⟩ := own_slice D10.ops
    have hlen10 := hl2
    rw [e10] at hr10 k10 c10 c10'
    clear hE10 hw10 hb10 hf10 ho10 D10 B10
    generalize hrc10 : (recCells ⟨1, k, f⟩).toArray = RC10 at *
    generalize hlm10 : S.ops.length = m10 at *
    refine wpFork_nil rfl rfl ?_ ?_
    · simp only [inOrd, List.getElem?_cons_zero, List.getElem?_cons_succ]
      refine wpOrd_run (v := .slice p10 m10 q10) (w' := V10) rfl (by go_simp) X10 ?_
      simp only [Act.put, List.setIfInBounds_toArray, List.set_cons_succ, List.set_cons_zero]
      refine wpOrd_run (v := .slice (some ⟨V10.heap.size, 0, none⟩) 1 1) (w' := V10.alloc (.cells RC10 108)) rfl (by simp [execOp, Act.eval, hbs]) S1 ?_
      simp only [Act.put, List.setIfInBounds_toArray, List.set_cons_succ, List.set_cons_zero]
      refine wpOrd_run (v := .slice aa10 am10 ac10) (w' := W10) rfl (by simp [execOp, Act.eval, resolve, invoke, builtin, hr10, Result.andThen]) S5 ?_
      simp only [Act.put, List.setIfInBounds_toArray, List.set_cons_succ, List.set_cons_zero]
      refine wpOrd_yield (v := .pointer (some ⟨g, 0, none⟩)) rfl (fun u _ => by go_simp) ?_
      simp only [Act.put, List.setIfInBounds_toArray, List.set_cons_succ, List.set_cons_zero]
      refine wpOrd_yield (v := .pointer (some ⟨g, 6, none⟩)) rfl (fun u _ => by go_simp) ?_
      simp only [Act.put, List.setIfInBounds_toArray, List.set_cons_succ, List.set_cons_zero]
      refine wpOrd_do (w' := W10.setCell ⟨g, 6, none⟩ (.slice aa10 am10 ac10)) rfl (by go_simp) S6 ?_
      refine wpOrd_nil ?_
      simp only [Act.put]
      clear hr10 S1 S5 k10 z10 c10 c10' hbs hrc10
      generalize W10.setCell ⟨g, 6, none⟩ (.slice aa10 am10 ac10) = Y10 at *
      have e := E10.out
      have e2 : RWrP B g hv wv ov (rWriteS s k f) w Y10 := ⟨_, _, by unfold rWriteS; rw [hS]; exact e, B10'.out⟩
      have HE := Hid.mk' e2
      clear e e2 E10 E9
      go_wp2
      go_ret
      exact ⟨rfl, HE.out⟩
    · simp only [inOrd, List.getElem?_cons_zero, List.getElem?_cons_succ]
      refine wpOrd_run (v := .slice (some ⟨V10.heap.size, 0, none⟩) 1 1) (w' := V10.alloc (.cells RC10 108)) rfl (by simp [execOp, Act.eval, hbs]) S1 ?_
      simp only [Act.put, List.setIfInBounds_toArray, List.set_cons_succ, List.set_cons_zero]
      refine wpOrd_run (v := .slice p10 m10 q10) (w' := V10.alloc (.cells RC10 108)) rfl (by go_simp) S1 ?_
      simp only [Act.put, List.setIfInBounds_toArray, List.set_cons_succ, List.set_cons_zero]
      refine wpOrd_run (v := .slice aa10 am10 ac10) (w' := W10) rfl (by simp [execOp, Act.eval, resolve, invoke, builtin, hr10, Result.andThen]) S5 ?_
      simp only [Act.put, List.setIfInBounds_toArray, List.set_cons_succ, List.set_cons_zero]
      refine wpOrd_yield (v := .pointer (some ⟨g, 0, none⟩)) rfl (fun u _ => by go_simp) ?_
      simp only [Act.put, List.setIfInBounds_toArray, List.set_cons_succ, List.set_cons_zero]
      refine wpOrd_yield (v := .pointer (some ⟨g, 6, none⟩)) rfl (fun u _ => by go_simp) ?_
      simp only [Act.put, List.setIfInBounds_toArray, List.set_cons_succ, List.set_cons_zero]
      refine wpOrd_do (w' := W10.setCell ⟨g, 6, none⟩ (.slice aa10 am10 ac10)) rfl (by go_simp) S6 ?_
      refine wpOrd_nil ?_
      simp only [Act.put]
      clear hr10 S1 S5 k10 z10 c10 c10' hbs hrc10
      generalize W10.setCell ⟨g, 6, none⟩ (.slice aa10 am10 ac10) = Y10 at *
      have e := E10.out
      have e2 : RWrP B g hv wv ov (rWriteS s k f) w Y10 := ⟨_, _, by unfold rWriteS; rw [hS]; exact e, B10'.out⟩
      have HE := Hid.mk' e2
      clear e e2 E10 E9
      go_wp2
      go_ret
      exact ⟨rfl, HE.out⟩
  · simp only [inOrd, List.getElem?_cons_zero, List.getElem?_cons_succ]
    refine wpOrd_run (v := .slice (some ⟨V9.heap.size, 0, none⟩) 1 1) (w' := V9.alloc (.cells RC9 85)) rfl (by simp [execOp, Act.eval, hbs]) S1 ?_
    simp only [Act.put, List.setIfInBounds_toArray, List.set_cons_succ, List.set_cons_zero]
    refine wpOrd_run (v := .slice p9 m9 q9) (w' := V9.alloc (.cells RC9 85)) rfl (by go_simp) S1 ?_
    simp only [Act.put, List.setIfInBounds_toArray, List.set_cons_succ, List.set_cons_zero]
    refine wpOrd_run (v := .slice aa9 am9 ac9) (w' := W9) rfl (by simp [execOp, Act.eval, resolve, invoke, builtin, hr9, Result.andThen]) S5 ?_
    simp only [Act.put, List.setIfInBounds_toArray, List.set_cons_succ, List.set_cons_zero]
    refine wpOrd_yield (v := .pointer (some ⟨g, 0, none⟩)) rfl (fun u _ => by go_simp) ?_
    simp only [Act.put, List.setIfInBounds_toArray, List.set_cons_succ, List.set_cons_zero]
    refine wpOrd_yield (v := .pointer (some ⟨g, 2, none⟩)) rfl (fun u _ => by go_simp) ?_
    simp only [Act.put, List.setIfInBounds_toArray, List.set_cons_succ, List.set_cons_zero]
    refine wpOrd_do (w' := W9.setCell ⟨g, 2, none⟩ (.slice aa9 am9 ac9)) rfl (by go_simp) S6 ?_
    refine wpOrd_nil ?_
    simp only [Act.put]
    clear hr9 S1 S5 k9 z9 c9 c9' hbs hrc9
    generalize W9.setCell ⟨g, 2, none⟩ (.slice aa9 am9 ac9) = Y9 at *
    go_wp2
    have D10 := E9.out.drew
    have X10 : Y9.drew.heap[g0]? = some (.cells (blk f) 58) := S6
    have B10 := Hid.mk' B9'.out.drew
    refine wp_region_fork (S := fun u => u.heap[g0]? = some (.cells (blk f) 58)) [0, 1, 2, 3, 5, 6, 7] 4 8 [(9, false), (10, true), (11, true), (12, false)] (by kernel_rfl) rfl (by kernel_rfl) (fun d _ _ _ _ h => by cases d <;> exact h) X10 ?_
    try simp only [Act.put]
    generalize Y9.drew = V10 at *
    refine wpFork_yield (v := .pointer (some ⟨g, 0, none⟩)) rfl rfl (fun u _ => by simp [execOp, Act.eval]) ?_
    simp only [Act.put, List.setIfInBounds_toArray, List.set_cons_succ, List.set_cons_zero]
    refine wpFork_yield (v := .pointer (some ⟨g, 0, none⟩)) rfl rfl (fun u _ => by simp [execOp, Act.eval]) ?_
    simp only [Act.put, List.setIfInBounds_toArray, List.set_cons_succ, List.set_cons_zero]
    refine wpFork_yield (v := .pointer (some ⟨g, 0, none⟩)) rfl rfl (fun u _ => by go_simp) ?_
    simp only [Act.put, List.setIfInBounds_toArray, List.set_cons_succ, List.set_cons_zero]
    refine wpFork_yield (v := .pointer (some ⟨g, 6, none⟩)) rfl rfl (fun u _ => by go_simp) ?_
    simp only [Act.put, List.setIfInBounds_toArray, List.set_cons_succ, List.set_cons_zero]
    refine wpFork_yield (v := .int .i64 k) rfl rfl (fun u _ => by simp [execOp, Act.eval]) ?_
    simp only [Act.put, List.setIfInBounds_toArray, List.set_cons_succ, List.set_cons_zero]
    refine wpFork_yield (v := .agg (blk f)) rfl rfl (fun u hu => by
      unfold execOp
      simp only [Act.eval]
      have e := loadM (BlkAt.of hu)
      change Sem.run Try.prog (Instr.loadAt 58 (.pointer (some ⟨g0, 0, none⟩)) >>= fun v => pure (Next.value v)) u = _
      simp only [Sem.run_bind, e, Result.andThen_ok, Sem.run_pure]) ?_
    simp only [Act.put, List.setIfInBounds_toArray, List.set_cons_succ, List.set_cons_zero]
    refine wpFork_yield (v := .agg (recCells ⟨1, k, f⟩).toArray) rfl rfl (fun u hu => by
      have e := build108 1 k f u
      simp [execOp, Act.eval, e]) ?_
    simp only [Act.put, List.setIfInBounds_toArray, List.set_cons_succ, List.set_cons_zero]
    obtain ⟨v10, W10, hr10, hw10, hb10, hf10, ho10, hE10⟩ := D10.pushO hl2 ⟨1, k, f⟩
    obtain ⟨aa10, am10, ac10, rfl⟩ : ∃ a m c, v10 = Value.slice a m c := by obtain ⟨p, c, e, _⟩ := own_slice hE10.ops; exact ⟨_, _, _, e⟩
    have E10 := Hid.mk' hE10
    have k10 : W10.cell? ⟨g, 6, none⟩ = some ov := Joins.cell_of_block hw10 6
    have z10 : W10.frozen? ⟨g, 6, none⟩ = false := Joins.unfrozen_of_block hw10 6
    have c10 : V10.cell? ⟨g, 6, none⟩ = some ov := Joins.cell_of_block D10.row 6
    have c10' : (V10.alloc (.cells (recCells ⟨1, k, f⟩).toArray 108)).cell? ⟨g, 6, none⟩ = some ov := by rw [World.cell?_alloc_past _ _ _ D10.lt]; exact c10
    have S1 := heap_kept X10 (below_new V10 (.cells (recCells ⟨1, k, f⟩).toArray 108))
    have S5 : W10.heap[g0]? = some (.cells (blk f) 58) := (hf10.block g0 (Array.getElem?_eq_some_iff.1 X10).1 (own_ne D10.ops X10 (by decide))).trans X10
    have S6 : (W10.setCell ⟨g, 6, none⟩ (.slice aa10 am10 ac10)).heap[g0]? = some (.cells (blk f) 58) := (Below.heap_setCell _ _ _ _ (by show g0 ≠ g; omega)).trans S5
    have B10' := Hid.mk' (B10.out.trans (RTo.stepO hf10 ho10))
    have hbs := build67 ⟨1, k, f⟩ V10
    obtain ⟨p10, q10, e10, -⟩ := own_slice D10.ops
    have hlen10 := hl2
    rw [e10] at hr10 k10 c10 c10'
    clear hE10 hw10 hb10 hf10 ho10 D10 B10
    generalize hrc10 : (recCells ⟨1, k, f⟩).toArray = RC10 at *
    generalize hlm10 : S.ops.length = m10 at *
    refine wpFork_nil rfl rfl ?_ ?_
    · simp only [inOrd, List.getElem?_cons_zero, List.getElem?_cons_succ]
      refine wpOrd_run (v := .slice p10 m10 q10) (w' := V10) rfl (by go_simp) X10 ?_
      simp only [Act.put, List.setIfInBounds_toArray, List.set_cons_succ, List.set_cons_zero]
      refine wpOrd_run (v := .slice (some ⟨V10.heap.size, 0, none⟩) 1 1) (w' := V10.alloc (.cells RC10 108)) rfl (by simp [execOp, Act.eval, hbs]) S1 ?_
      simp only [Act.put, List.setIfInBounds_toArray, List.set_cons_succ, List.set_cons_zero]
      refine wpOrd_run (v := .slice aa10 am10 ac10) (w' := W10) rfl (by simp [execOp, Act.eval, resolve, invoke, builtin, hr10, Result.andThen]) S5 ?_
      simp only [Act.put, List.setIfInBounds_toArray, List.set_cons_succ, List.set_cons_zero]
      refine wpOrd_yield (v := .pointer (some ⟨g, 0, none⟩)) rfl (fun u _ => by go_simp) ?_
      simp only [Act.put, List.setIfInBounds_toArray, List.set_cons_succ, List.set_cons_zero]
      refine wpOrd_yield (v := .pointer (some ⟨g, 6, none⟩)) rfl (fun u _ => by go_simp) ?_
      simp only [Act.put, List.setIfInBounds_toArray, List.set_cons_succ, List.set_cons_zero]
      refine wpOrd_do (w' := W10.setCell ⟨g, 6, none⟩ (.slice aa10 am10 ac10)) rfl (by go_simp) S6 ?_
      refine wpOrd_nil ?_
      simp only [Act.put]
      clear hr10 S1 S5 k10 z10 c10 c10' hbs hrc10
      generalize W10.setCell ⟨g, 6, none⟩ (.slice aa10 am10 ac10) = Y10 at *
      have e := E10.out
      have e2 : RWrP B g hv wv ov (rWriteS s k f) w Y10 := ⟨_, _, by unfold rWriteS; rw [hS]; exact e, B10'.out⟩
      have HE := Hid.mk' e2
      clear e e2 E10 E9
      go_wp2
      go_ret
      exact ⟨rfl, HE.out⟩
    · simp only [inOrd, List.getElem?_cons_zero, List.getElem?_cons_succ]
      refine wpOrd_run (v := .slice (some ⟨V10.heap.size, 0, none⟩) 1 1) (w' := V10.alloc (.cells RC10 108)) rfl (by simp [execOp, Act.eval, hbs]) S1 ?_
      simp only [Act.put, List.setIfInBounds_toArray, List.set_cons_succ, List.set_cons_zero]
      refine wpOrd_run (v := .slice p10 m10 q10) (w' := V10.alloc (.cells RC10 108)) rfl (by go_simp) S1 ?_
      simp only [Act.put, List.setIfInBounds_toArray, List.set_cons_succ, List.set_cons_zero]
      refine wpOrd_run (v := .slice aa10 am10 ac10) (w' := W10) rfl (by simp [execOp, Act.eval, resolve, invoke, builtin, hr10, Result.andThen]) S5 ?_
      simp only [Act.put, List.setIfInBounds_toArray, List.set_cons_succ, List.set_cons_zero]
      refine wpOrd_yield (v := .pointer (some ⟨g, 0, none⟩)) rfl (fun u _ => by go_simp) ?_
      simp only [Act.put, List.setIfInBounds_toArray, List.set_cons_succ, List.set_cons_zero]
      refine wpOrd_yield (v := .pointer (some ⟨g, 6, none⟩)) rfl (fun u _ => by go_simp) ?_
      simp only [Act.put, List.setIfInBounds_toArray, List.set_cons_succ, List.set_cons_zero]
      refine wpOrd_do (w' := W10.setCell ⟨g, 6, none⟩ (.slice aa10 am10 ac10)) rfl (by go_simp) S6 ?_
      refine wpOrd_nil ?_
      simp only [Act.put]
      clear hr10 S1 S5 k10 z10 c10 c10' hbs hrc10
      generalize W10.setCell ⟨g, 6, none⟩ (.slice aa10 am10 ac10) = Y10 at *
      have e := E10.out
      have e2 : RWrP B g hv wv ov (rWriteS s k f) w Y10 := ⟨_, _, by unfold rWriteS; rw [hS]; exact e, B10'.out⟩
      have HE := Hid.mk' e2
      clear e e2 E10 E9
      go_wp2
      go_ret
      exact ⟨rfl, HE.out⟩
end Go.Proofs.Ytembocfghkmieaa
/- The document's disk: what is held is laid anew, what is pending and the history are made empty. -/
namespace Go.Proofs.Ytembocfghkmieaa
open Go.RowKit Go.Maps
section
variable {w W W2 : World} {B g : Nat} {hv wv ov v : Value} {s : RSt}
theorem own_base {e sz n B' : Nat} {xs : List Value} (h : w.ownsRow B' e sz v n xs) (hB : B ≤ B') : w.ownsRow B e sz v n xs := by
  refine ⟨h.1, ?_⟩
  rcases h.2 with q | ⟨g, cap, cur, e, hb, r⟩
  · exact .inl q
  · exact .inr ⟨g, cap, cur, e, Nat.le_trans hB hb, r⟩
/-- A list that is new is held. -/
theorem RDAt.setHeld (h : RDAt W B g hv wv ov s) (hb : Below W.heap.size W W2) {l : List Cel} (ho : W2.ownsRow W.heap.size 85 1025 v l.length (l.flatMap celRow)) : RDAt (W2.setCell ⟨g, 1, none⟩ v) B g v wv ov { s with held := l } := by
  have h2 := h.later hb
  have hBW : B ≤ W.heap.size := by have := h.base; have := h.lt; omega
  refine ⟨?_, ?_, ?_, ?_, ?_, h.base⟩
  · rw [heap_setCell_same W2 g 1 _ 102 v h2.row]; rfl
  · exact ownsRow_setCell_other (own_base ho hBW) (a := ⟨g, 1, none⟩) (own_ne ho h2.row (by decide)) v
  · exact ownsRow_setCell_other h2.wait (a := ⟨g, 1, none⟩) (own_ne h2.wait h2.row (by decide)) v
  · exact ownsRow_setCell_other h2.ops (a := ⟨g, 1, none⟩) (own_ne h2.ops h2.row (by decide)) v
  · intro b q1 q2
    have e1 := (ho.lt b q1).1
    have e2 := (h.wait.lt b q2).2
    omega
/-- Nothing is pending. -/
theorem RDAt.nilW (h : RDAt w B g hv wv ov s) : RDAt (w.setCell ⟨g, 2, none⟩ (.slice none 0 0)) B g hv (.slice none 0 0) ov { s with wait := [] } := by
  refine ⟨?_, ?_, ?_, ?_, ?_, h.base⟩
  · rw [heap_setCell_same w g 2 _ 102 (.slice none 0 0) h.row]; rfl
  · exact ownsRow_setCell_other h.held (a := ⟨g, 2, none⟩) (own_ne h.held h.row (by decide)) _
  · exact World.ownsRow_nil _ _ _ _
  · exact ownsRow_setCell_other h.ops (a := ⟨g, 2, none⟩) (own_ne h.ops h.row (by decide)) _
  · intro b _ q2
    cases q2
/-- The history is empty. -/
theorem RDAt.nilO (h : RDAt w B g hv wv ov s) : RDAt (w.setCell ⟨g, 6, none⟩ (.slice none 0 0)) B g hv wv (.slice none 0 0) { s with ops := [] } := by
  refine ⟨?_, ?_, ?_, ?_, h.two, h.base⟩
  · rw [heap_setCell_same w g 6 _ 102 (.slice none 0 0) h.row]; rfl
  · exact ownsRow_setCell_other h.held (a := ⟨g, 6, none⟩) (own_ne h.held h.row (by decide)) _
  · exact ownsRow_setCell_other h.wait (a := ⟨g, 6, none⟩) (own_ne h.wait h.row (by decide)) _
  · exact World.ownsRow_nil _ _ _ _
end
theorem laidGo_len (k : Int) (b : Nat → Int) : ∀ (d : Bool) (l : List Cel), (laidGo k b d l).length ≤ l.length + (if d then 0 else 1)
  | true, [] => by simp [laidGo]
  | false, [] => by simp [laidGo]
  | d, (y, f) :: t => by
    have ih := laidGo_len k b (d || decide (k ≤ y)) t
    rw [laidGo_at, List.length_append, List.length_append, List.length_cons]
    have h2 : (if y = k then ([] : List Cel) else [(y, f)]).length ≤ 1 := by split <;> simp
    cases d <;> by_cases hk : k ≤ y <;> simp [hk] at ih ⊢ <;> omega
theorem laidL_len (l : List Cel) (k : Int) (b : Nat → Int) : (laidL l k b).length ≤ l.length + 1 := by
  have h := laidGo_len k b (blankB b) l
  unfold laidL
  split at h <;> omega
/-- Many laid, one after another. -/
def rLay (h : List Cel) (ws : List Cel) : List Cel := ws.foldl (fun h c => laidL h c.1 c.2) h
theorem rLay_snoc (h ws : List Cel) (c : Cel) : rLay h (ws ++ [c]) = laidL (rLay h ws) c.1 c.2 := by unfold rLay; rw [List.foldl_append]; rfl
theorem rLay_len (h : List Cel) : ∀ (ws : List Cel), (rLay h ws).length ≤ h.length + ws.length := fun ws => by
  induction ws generalizing h with
  | nil => simp [rLay]
  | cons c t ih =>
    have h1 := ih (laidL h c.1 c.2)
    have h2 := laidL_len h c.1 c.2
    show (rLay (laidL h c.1 c.2) t).length ≤ _
    rw [List.length_cons]
    omega
end Go.Proofs.Ytembocfghkmieaa
