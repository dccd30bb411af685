/- Read: a block as it was written last; for every disk and every number. -/
import Derived.Test.YtiadlcjdpbkbkaaGreatJ1
namespace Go.Proofs.YtiadlcjdpbkbkaaGreatD
open Go.RowKit
variable {w : World} {L : Loc} {s : St}

theorem heap_kept {w w' : World} {g : Nat} {o : Obj} (h : w.heap[g]? = some o) (hb : Below w.heap.size w w') : w'.heap[g]? = some o :=
  (hb.block g (Array.getElem?_eq_some_iff.1 h).1).trans h
theorem below_next {w w1 w2 : World} (h : Below w.heap.size w w1) (hb : Below w1.heap.size w1 w2) : Below w.heap.size w w2 := h.trans (hb.mono h.size)
theorem below_new (w : World) (o : Obj) : Below w.heap.size w (w.alloc o) := (Below.refl _ _).alloc (Nat.le_refl _) _
/-- Results: a block in a cell, and a value. -/
theorem retBT {fn : Func} {p u : Tmp} {R : Ending → World → Prop} {a : Act} {w : World} (h : fn.results = #[.cell p 47, .tmp u]) (g : Nat) (f : Nat → Int)
    (hp : a.tmps.getD p undef = .pointer (some ⟨g, 0, none⟩)) (hg : w.heap[g]? = some (.cells (blk f) 47))
    (hdf : a.defers = []) (hR : R (.returned (.tuple #[.agg (blk f), a.tmps.getD u undef])) w) : bodyPost Tryz.prog fn R .ret a w := by
  refine bodyPost_ret ?_ hdf hR
  rw [results_cell_tmp h]
  rw [hp]
  simp [asAddr, run_loadVar_row w g 47 47 (blk f) (0, 0) _ hg Tryz.underlying47 rfl (by rw [blk_size]; exact size25)]
section
variable {P : Program} {k : TypeId} {b : Nat} {m : Int → Option Value}
variable {ops : Array Oper} {rest : List Oper} {o : Oper} {a : Act} {Q : Exit → Act → World → Prop}
theorem wpList_lookM_some (hg : o.guard = none) (mo xo : Operand) (t : TypeId) (hop : o.op = Op.lookup t mo xo true) (e : TypeId) (hk : P.underlying k = some (.int .i64)) (K : Go.Maps.Keyed P k) (ht : P.underlying t = some (.map k e))
    (hm : a.eval mo = .map (some b)) (h : MapIs P k w b m) {z : Value} (hz : (zeroValue e).run P w = .ok z w) (x : Int) (hx : (Lit.int .i64 x).wf = true) (hxo : a.eval xo = .int .i64 x) (v : Value) (hv : m x = some v)
    (hK : wpList P ops Q rest (a.put o.dst (.tuple #[v, .bool true])) w) : wpList P ops Q (o :: rest) a w :=
  wpList_lookM_ok hg mo xo t hop e hk K ht hm h hz x hx hxo (by rw [hv]; exact hK)
theorem wpList_lookM_none (hg : o.guard = none) (mo xo : Operand) (t : TypeId) (hop : o.op = Op.lookup t mo xo true) (e : TypeId) (hk : P.underlying k = some (.int .i64)) (K : Go.Maps.Keyed P k) (ht : P.underlying t = some (.map k e))
    (hm : a.eval mo = .map (some b)) (h : MapIs P k w b m) {z : Value} (hz : (zeroValue e).run P w = .ok z w) (x : Int) (hx : (Lit.int .i64 x).wf = true) (hxo : a.eval xo = .int .i64 x) (hv : m x = none)
    (hK : wpList P ops Q rest (a.put o.dst (.tuple #[z, .bool false])) w) : wpList P ops Q (o :: rest) a w :=
  wpList_lookM_ok hg mo xo t hop e hk K ht hm h hz x hx hxo (by rw [hv]; exact hK)
end
theorem info3 : (Tryz.prog.info? 3).map (fun i => (i.zero, i.size)) = some (some (.int .i64 0), 1) := by kernel_rfl
theorem zero3 : ∀ w, (zeroValue 3).run Tryz.prog w = .ok (.int .i64 0) w := (zero_of_info info3).1

/-- A block as it was written last, pending or held. -/
def curV (s : St) (k : Int) : Nat → Int := match lastAt s.wait k with
  | some i => match s.wait[i]? with
    | some c => c.2
    | none => nought
  | none => (s.held k).getD nought
def readS (s : St) : St := { s with reads := s.reads + 1 }
def readB (s : St) (k : Int) : Nat → Int := if refV s k = 0 then curV s k else nought
def readV (s : St) (k : Int) : St := if refV s k = 0 then readS s else s
theorem readS_ok (h : Ok s) : Ok (readS s) := ⟨h.n, h.held, h.wait, h.fuse, h.made, by have := h.reads; show 0 ≤ s.reads + 1; omega, h.claims⟩

theorem refV_ok {k : Int} (h : refV s k = 0) : s.stopped = false ∧ 0 ≤ k ∧ k < s.n := by
  unfold refV at h
  cases hs : s.stopped
  · rw [hs] at h
    simp only [Bool.false_eq_true, if_false] at h
    by_cases hk : 0 ≤ k ∧ k < s.n
    · exact ⟨rfl, hk⟩
    · rw [if_neg hk] at h; omega
  · rw [hs] at h; simp at h

set_option maxRecDepth 20000 in
theorem read_bad (h : DiskAt w L s) {k : Int} (hb : refV s k ≠ 0) :
    Calls Tryz.prog 24 #[.pointer (some ⟨L.d, 0, none⟩), .int .i64 k] w fun e w' => e = .returned (.tuple #[.agg (blk nought), .int .i64 (refV s k)]) ∧ Below w.heap.size w w' := by
  have hR := refuses_of (h.later (below_new w (.cells (blk nought) 47))) k
  have hbd := built58
  have z25 := zero25
  have hne : (refV s k != 0) = true := by simp [hb]
  clear h hb
  generalize nought = N at *
  generalize refV s k = r at *
  go_enter Tryz.func24, Tryz.ntmps24
  go_wp2_with (first | (go_at_call 49; refine hR.mono ?_; rintro e W ⟨rfl, rfl⟩) | refine wpList_build58 rfl rfl hbd ?_ | refine wpList_store25_new rfl _ _ rfl _ _ rfl rfl ?_)
  exact retBT rfl w.heap.size _ rfl (heap_alloc_new _ _) rfl ⟨rfl, below_new _ _⟩

theorem Fr.setRow (w : World) (g : Nat) (cs : Array Value) : Fr (fun i => i = g) w (w.setRow g cs) := ⟨rfl, rfl, rfl, by simp, fun k _ hn => setRow_other w g k cs hn⟩
/-- What turns only a block that is new leaves the disk. -/
theorem DiskAt.outside {W W' : World} (h : DiskAt W L s) (hG : Goes w W L L) {g : Nat} (hL : ∀ k, L.has k → k < w.heap.size) (hg : w.heap.size ≤ g) (hf : Fr (fun i => i = g) W W') : DiskAt W' L s ∧ Goes w W' L L :=
  ⟨h.fr hf fun k hk e => by have := hL k hk; omega, ⟨rfl, fun _ h => .inl h, hG.fr.trans hf fun i hi e => by omega⟩⟩
/-- A block that is pending. -/
theorem curV_wait {k : Int} {i : Nat} {c : Cel} (h : lastAt s.wait k = some i) (hc : s.wait[i]? = some c) : curV s k = c.2 := by
  unfold curV
  rw [h]
  simp only [hc]
theorem curV_held {k : Int} (h : lastAt s.wait k = none) : curV s k = (s.held k).getD nought := by
  unfold curV
  rw [h]
set_option maxRecDepth 20000 in
set_option maxHeartbeats 4000000 in
theorem read_ok (h : DiskAt w L s) (hr : Room s) {k : Int} (hb : refV s k = 0) :
    Calls Tryz.prog 24 #[.pointer (some ⟨L.d, 0, none⟩), .int .i64 k] w fun e w' => e = .returned (.tuple #[.agg (blk (curV s k)), .int .i64 0]) ∧ DiskAt w' L (readS s) ∧ Goes w w' L L := by
  have hR := refuses_of (h.later (below_new w (.cells (blk nought) 47))) k
  rw [hb] at hR
  obtain ⟨_, hk⟩ := refV_ok hb
  have hin := inTop_of h.ok hk
  have hW := inTop.wf hin
  have hbd := built58
  have z25 := zero25
  have z3 := zero3
  have D1 := h.later (below_new w (.cells (blk nought) 47))
  have G1 : Goes w (w.alloc (.cells (blk nought) 47)) L L := Goes.ofBelow L (below_new _ _)
  have R1 := heap_alloc_new w (.cells (blk nought) 47)
  have hlt : L.d < w.heap.size := h.lt L.d (.inl rfl)
  have hout : Hid (∀ (W W' : World) (g : Nat), DiskAt W L (readS s) → Goes w W L L → w.heap.size ≤ g → Fr (fun i => i = g) W W' → DiskAt W' L (readS s) ∧ Goes w W' L L) := fun _ _ _ a b c d => a.outside b h.lt c d
  have hm2 := hr.reads
  have hm := h.ok.reads
  have hw9 : IntKind.i64.wrap (s.reads + 1) = s.reads + 1 := by rw [IntKind.wrap_i64]; omega
  clear h hb hk
  generalize hcur : curV s k = F
  go_enter Tryz.func24, Tryz.ntmps24
  go_wp2_with (go_at_call 49; fail)
  refine hR.mono ?_
  rintro e W ⟨rfl, he⟩
  rw [← he] at D1 G1 R1
  clear hR he
  generalize w.heap.size = g0 at *
  have c9 := D1.c9
  have c5 := D1.c5
  have c3 := D1.c3
  have c2 := D1.c2
  have f9 := D1.free 9
  have D2 := D1.put (s' := readS s) 9 (.int .i64 (s.reads + 1)) rfl rfl rfl rfl (readS_ok D1.ok)
  have R2 : (W.setCell ⟨L.d, 9, none⟩ (.int .i64 (s.reads + 1))).heap[g0]? = some (.cells (blk nought) 47) := (Below.heap_setCell _ _ _ _ (by show g0 ≠ L.d; omega)).trans R1
  have G2 := G1.trans (Goes.put W L 9 (.int .i64 (s.reads + 1)))
  cases hl : lastAt s.wait k with
  | some i =>
    obtain ⟨c, hc, _⟩ := lastAt_spec k _ i hl
    rw [curV_wait hl hc] at hcur
    subst hcur
    have hlv : lateV (readS s) k = some (.int .i64 ((s.done.length + i : Nat) : Int)) := by unfold lateV readS; simp only [hl, Option.map]
    obtain ⟨p, cp, h1, h2, h3, h4⟩ := D2.shape
    have hi : i < s.wait.length := (List.getElem?_eq_some_iff.1 hc).1
    have hlen := ops_len s
    have hop : (readS s).ops = s.ops := rfl
    rw [hop] at h1 h2
    rcases h4 with ⟨_, h5⟩ | ⟨g, h5, h6, h7⟩
    · omega
    subst h5
    have hB := D2.histBlk h6 (i := s.done.length + i) (r := wrec c) (by rw [hop]; exact ops_wait s hc)
    rw [h1] at c3
    have hlt2 : s.done.length + i < s.ops.length := by omega
    have hro := hr.ops
    have hLate := D2.late
    have hB' : BlkAt (W.setCell ⟨L.d, 9, none⟩ (.int .i64 (s.reads + 1))) g ((s.done.length + i) * 1026 + 2) c.2 := hB
    generalize s.ops.length = m at *
    generalize s.done.length + i = q at *
    have HF := hout.out _ _ _ D2 G2 (Nat.le_refl _) (Fr.setRow (W.setCell ⟨L.d, 9, none⟩ (.int .i64 (s.reads + 1))) g0 (blk c.2))
    have HD : Hid (DiskAt ((W.setCell ⟨L.d, 9, none⟩ (.int .i64 (s.reads + 1))).setRow g0 (blk c.2)) L (readS s)) := HF.1
    have HG : Hid (Goes w ((W.setCell ⟨L.d, 9, none⟩ (.int .i64 (s.reads + 1))).setRow g0 (blk c.2)) L L) := HF.2
    clear D1 D2 G1 G2 R1 hB hl hc hop h1 h6 h7 hr hlen hi HF hout
    generalize nought = N at *
    go_wp2_with (first | refine wpList_lookM_some rfl (.tmp 29) (.tmp 30) 57 rfl 3 Tryz.underlying3 keyed3 Tryz.underlying57 rfl hLate (z3 _) k hW rfl _ hlv ?_ | refine wpList_loadM rfl (.tmp 41) rfl g (q * 1026 + 2) rfl c.2 hB' ?_ | refine wpList_store25 rfl (.tmp 4) (.tmp 42) rfl g0 c.2 rfl rfl _ R2 ?_)
    exact retBT rfl g0 c.2 rfl (setRow_heap _ _ _ _ _ _ R2) rfl ⟨rfl, HD.out, HG.out⟩
  | none =>
    rw [curV_held hl] at hcur
    have hlv : lateV (readS s) k = none := by unfold lateV readS; simp only [hl, Option.map]
    have hLate := D2.late
    have hHeld := D2.held
    cases hh : s.held k with
    | some f =>
      rw [hh] at hcur
      have hcur' : f = F := hcur
      subst hcur'
      have hhv : heldV (readS s) k = some (.agg (blk f)) := by unfold heldV readS; simp only [hh, Option.map]
      have D3 := D2.later (below_new _ (.cells (blk f) 47))
      have G3 := G2.trans (Goes.ofBelow L (below_new _ (.cells (blk f) 47)))
      have R3 := heap_kept R2 (below_new _ (.cells (blk f) 47))
      have HF := hout.out _ _ _ D3 G3 (Nat.le_refl _) (Fr.setRow _ g0 (blk f))
      have HD : Hid (DiskAt _ L (readS s)) := HF.1
      have HG : Hid (Goes w _ L L) := HF.2
      clear D1 D2 G1 G2 R1 hl hh hr HF hout D3 G3 hcur
      generalize nought = N at *
      go_wp2_with (first | refine wpList_lookM_none rfl (.tmp 29) (.tmp 30) 57 rfl 3 Tryz.underlying3 keyed3 Tryz.underlying57 rfl hLate (z3 _) k hW rfl hlv ?_ | (refine wpList_lookM_some rfl (.tmp 47) (.tmp 48) 55 rfl 47 Tryz.underlying3 keyed3 Tryz.underlying55 rfl hHeld (z25 _) k hW rfl _ hhv ?_; generalize W.setCell ⟨L.d, 9, none⟩ (.int .i64 (s.reads + 1)) = X at *) | refine wpList_store25_new rfl (.tmp 9) (.tmp 50) rfl f N rfl rfl ?_ | refine wpList_load25 rfl (.tmp 9) rfl X.heap.size rfl f (heap_alloc_new _ _) ?_ | refine wpList_store25 rfl (.tmp 4) (.tmp 53) rfl g0 f rfl rfl N R3 ?_)
      exact retBT rfl g0 f rfl (setRow_heap _ _ _ _ _ _ R3) rfl ⟨rfl, HD.out, HG.out⟩
    | none =>
      rw [hh] at hcur
      have hcur' : nought = F := hcur
      have hhv : heldV (readS s) k = none := by unfold heldV readS; simp only [hh, Option.map]
      have D3 := D2.later (below_new _ (.cells (blk nought) 47))
      have G3 := G2.trans (Goes.ofBelow L (below_new _ (.cells (blk nought) 47)))
      have R3 := heap_kept R2 (below_new _ (.cells (blk nought) 47))
      have HF := hout.out _ _ _ D3 G3 (Nat.le_refl _) (Fr.setRow _ g0 (blk nought))
      have HD : Hid (DiskAt _ L (readS s)) := HF.1
      have HG : Hid (Goes w _ L L) := HF.2
      clear D1 D2 G1 G2 R1 hl hh hr HF hout D3 G3 hcur
      generalize nought = N at *
      subst hcur'
      go_wp2_with (first | refine wpList_lookM_none rfl (.tmp 29) (.tmp 30) 57 rfl 3 Tryz.underlying3 keyed3 Tryz.underlying57 rfl hLate (z3 _) k hW rfl hlv ?_ | (refine wpList_lookM_none rfl (.tmp 47) (.tmp 48) 55 rfl 47 Tryz.underlying3 keyed3 Tryz.underlying55 rfl hHeld (z25 _) k hW rfl hhv ?_; generalize W.setCell ⟨L.d, 9, none⟩ (.int .i64 (s.reads + 1)) = X at *) | refine wpList_store25_new rfl (.tmp 9) (.tmp 50) rfl N N rfl rfl ?_ | refine wpList_build58 rfl rfl hbd ?_ | refine wpList_store25 rfl (.tmp 4) (.tmp 54) rfl g0 N rfl rfl N R3 ?_)
      exact retBT rfl g0 N rfl (setRow_heap _ _ _ _ _ _ R3) rfl ⟨rfl, HD.out, HG.out⟩
end Go.Proofs.YtiadlcjdpbkbkaaGreatD
