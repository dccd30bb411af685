/- Read: a block as it was written last; for every disk and every number. -/
import Derived.Test.YtbnbbelkddbndaaPend
namespace Go.Proofs.Ytbnbbelkddbndaa
open Go.RowKit
variable {w : World} {L : Loc} {s : St}

theorem heap_kept {w w' : World} {g : Nat} {o : Obj} (h : w.heap[g]? = some o) (hb : Below w.heap.size w w') : w'.heap[g]? = some o :=
  (hb.block g (Array.getElem?_eq_some_iff.1 h).1).trans h
theorem below_next {w w1 w2 : World} (h : Below w.heap.size w w1) (hb : Below w1.heap.size w1 w2) : Below w.heap.size w w2 := h.trans (hb.mono h.size)
theorem below_new (w : World) (o : Obj) : Below w.heap.size w (w.alloc o) := (Below.refl _ _).alloc (Nat.le_refl _) _
/-- Results: a block in a cell, and a value. -/
theorem retBT {fn : Func} {p u : Tmp} {R : Ending → World → Prop} {a : Act} {w : World} (h : fn.results = #[.cell p 40, .tmp u]) (g : Nat) (f : Nat → Int)
    (hp : a.tmps.getD p undef = .pointer (some ⟨g, 0, none⟩)) (hg : w.heap[g]? = some (.cells (blk f) 40))
    (hdf : a.defers = []) (hR : R (.returned (.tuple #[.agg (blk f), a.tmps.getD u undef])) w) : bodyPost Try.prog fn R .ret a w := by
  refine bodyPost_ret ?_ hdf hR
  rw [results_cell_tmp h]
  rw [hp]
  simp [asAddr, run_loadVar_row w g 40 40 (blk f) (0, 0) _ hg Try.underlying40 rfl (by rw [blk_size]; exact size25)]
section
variable {P : Program} {k : TypeId} {b : Nat} {m : Int → Option Value}
variable {ops : Array Oper} {rest : List Oper} {o : Oper} {a : Act} {Q : Exit → Act → World → Prop}
theorem wpList_lookM_some (hg : o.guard = none) (mo xo : Operand) (t : TypeId) (hop : o.op = Op.lookup t mo xo true) (e : TypeId) (hk : P.underlying k = some (.int .i64)) (K : Go.Maps.Keyed P k) (ht : P.underlying t = some (.map k e))
    (hm : a.eval mo = .map (some b)) (h : MapIs P k w b m) {z : Value} (hz : (zeroValue e).run P w = .ok z w) (x : Int) (hx : (Lit.int .i64 x).wf = true) (hxo : a.eval xo = .int .i64 x) (v : Value) (hv : m x = some v)
    (hK : wpList P ops Q rest (a.put o.dst (.tuple #[v, .bool true])) w) : wpList P ops Q (o :: rest) a w :=
  wpList_lookM_ok hg mo xo t hop e hk K ht hm h hz x hx hxo (by rw [hv]; exact hK)
theorem wpList_lookM_none (hg : o.guard = none) (mo xo : Operand) (t : TypeId) (hop : o.op = Op.lookup t mo xo true) (e : TypeId) (hk : P.underlying k = some (.int .i64)) (K : Go.Maps.Keyed P k) (ht : P.underlying t = some (.map k e))
    (hm : a.eval mo = .map (some b)) (h : MapIs P k w b m) {z : Value} (hz : (zeroValue e).run P w = .ok z w) (x : Int) (hx : (Lit.int .i64 x).wf = true) (hxo : a.eval xo = .int .i64 x) (hv : m x = none)
    (hK : wpList P ops Q rest (a.put o.dst (.tuple #[z, .bool false])) w) : wpList P ops Q (o :: rest) a w :=
  wpList_lookM_ok hg mo xo t hop e hk K ht hm h hz x hx hxo (by rw [hv]; exact hK)
end
theorem info3 : (Try.prog.info? 3).map (fun i => (i.zero, i.size)) = some (some (.int .i64 0), 1) := by kernel_rfl
theorem zero3 : ∀ w, (zeroValue 3).run Try.prog w = .ok (.int .i64 0) w := (zero_of_info info3).1

/-- A block as it was written last, pending or held. -/
def curV (s : St) (k : Int) : Nat → Int := match lastAt s.wait k with
  | some i => match s.wait[i]? with
    | some c => c.2
    | none => nought
  | none => (s.held k).getD nought
def readS (s : St) : St := { s with reads := s.reads + 1 }
def readB (s : St) (k : Int) : Nat → Int := if refV s k = 0 then curV s k else nought
def readV (s : St) (k : Int) : St := if refV s k = 0 then readS s else s
theorem readS_ok (h : Ok s) : Ok (readS s) := ⟨h.n, h.held, h.wait, h.fuse, h.made, by have := h.reads; show 0 ≤ s.reads + 1; omega, h.claims⟩

theorem refV_ok {k : Int} (h : refV s k = 0) : s.stopped = false ∧ 0 ≤ k ∧ k < s.n := by
  unfold refV at h
  cases hs : s.stopped
  · rw [hs] at h
    simp only [Bool.false_eq_true, if_false] at h
    by_cases hk : 0 ≤ k ∧ k < s.n
    · exact ⟨rfl, hk⟩
    · rw [if_neg hk] at h; omega
  · rw [hs] at h; simp at h

theorem Fr.setRow (w : World) (g : Nat) (cs : Array Value) : Fr (fun i => i = g) w (w.setRow g cs) := ⟨rfl, rfl, rfl, by simp, fun k _ hn => setRow_other w g k cs hn⟩
/-- What turns only a block that is new leaves the disk. -/
theorem DiskAt.outside {W W' : World} (h : DiskAt W L s) (hG : Goes w W L L) {g : Nat} (hL : ∀ k, L.has k → k < w.heap.size) (hg : w.heap.size ≤ g) (hf : Fr (fun i => i = g) W W') : DiskAt W' L s ∧ Goes w W' L L :=
  ⟨h.fr hf fun k hk e => by have := hL k hk; omega, ⟨rfl, fun _ h => .inl h, hG.fr.trans hf fun i hi e => by omega⟩⟩
/-- A block that is pending. -/
theorem curV_wait {k : Int} {i : Nat} {c : Cel} (h : lastAt s.wait k = some i) (hc : s.wait[i]? = some c) : curV s k = c.2 := by
  unfold curV
  rw [h]
  simp only [hc]
theorem curV_held {k : Int} (h : lastAt s.wait k = none) : curV s k = (s.held k).getD nought := by
  unfold curV
  rw [h]
end Go.Proofs.Ytbnbbelkddbndaa
