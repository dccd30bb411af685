/- The parts of a disk in memory, each by itself, and what a turn of one of them leaves; no condition. -/
import Derived.Test.YtbnbbelkddbndaaGrow
namespace Go.Proofs.Ytbnbbelkddbndaa
open Go.RowKit

structure RawAt (w : World) (L : Loc) (row : Array Value) (held late : Int → Option Value) (ops : List Rec) : Prop where
  row : w.heap[L.d]? = some (.cells row 107)
  held : MapIs Try.prog 3 w L.hb held
  late : MapIs Try.prog 3 w L.lb late
  hist : w.ownsRow 0 42 1026 L.hv ops.length (opCells ops)
  ne : L.hb ≠ L.lb
variable {w w' : World} {L : Loc} {s : St} {row : Array Value} {held late : Int → Option Value} {ops : List Rec}
theorem DiskAt.raw (h : DiskAt w L s) : RawAt w L (dkRow L s) (heldV s) (lateV s) s.ops := ⟨h.row, h.held, h.late, h.hist, h.ne⟩
theorem RawAt.disk (h : RawAt w L (dkRow L s) (heldV s) (lateV s) s.ops) (ok : Ok s) : DiskAt w L s := ⟨h.row, h.held, h.late, h.hist, h.ne, ok⟩
theorem hist_block {v : Value} {n : Nat} {xs : List Value} (h : w.ownsRow 0 42 1026 v n xs) {k : Nat} (hk : v.ownBlock = some k) : ∃ cur, w.heap[k]? = some (.cells cur 42) := by
  rcases h.2 with ⟨h1, _⟩ | ⟨g, cap, cur, h1, _, h2, _⟩
  · rw [h1] at hk; cases hk
  · rw [h1] at hk
    have e : g = k := by injection hk
    subst e
    exact ⟨cur, h2⟩
theorem map_row {b d : Nat} {m : Int → Option Value} {r : Array Value} {t : TypeId} (h : MapIs Try.prog 3 w b m) (hr : w.heap[d]? = some (.cells r t)) : b ≠ d := fun e => by
  obtain ⟨es, ck, hm⟩ := h.isMap
  rw [e, hr] at hm
  cases hm
theorem hist_row {v : Value} {n : Nat} {xs : List Value} (h : w.ownsRow 0 42 1026 v n xs) {d : Nat} {r : Array Value} (hr : w.heap[d]? = some (.cells r 107)) : v.ownBlock ≠ some d := fun e => by
  obtain ⟨cur, hc⟩ := hist_block h e
  rw [hr] at hc
  cases hc
theorem hist_map {v : Value} {n : Nat} {xs : List Value} (h : w.ownsRow 0 42 1026 v n xs) {b : Nat} {m : Int → Option Value} (hm : MapIs Try.prog 3 w b m) : v.ownBlock ≠ some b := fun e => by
  obtain ⟨cur, hc⟩ := hist_block h e
  exact map_row hm hc rfl
theorem RawAt.lt (h : RawAt w L row held late ops) (k : Nat) (hk : L.has k) : k < w.heap.size := by
  rcases hk with rfl | rfl | rfl | hk
  · exact (Array.getElem?_eq_some_iff.1 h.row).1
  · exact h.held.lt
  · exact h.late.lt
  · exact (h.hist.lt k hk).2
/-- It stays what it is where nothing of it turns. -/
theorem RawAt.fr (h : RawAt w L row held late ops) {T : Nat → Prop} (hf : Fr T w w') (hT : ∀ k, L.has k → ¬ T k) : RawAt w' L row held late ops := by
  have hb : ∀ k, L.has k → w'.heap[k]? = w.heap[k]? := fun k hk => hf.block k (h.lt k hk) (hT k hk)
  exact ⟨(hb _ (.inl rfl)).trans h.row, h.held.kept (hb _ (.inr (.inl rfl))), h.late.kept (hb _ (.inr (.inr (.inl rfl)))), ownsRow_kept0 h.hist fun k hk => hb k (.inr (.inr (.inr hk))), h.ne⟩
/-- The row has turned. -/
theorem RawAt.rowTo (h : RawAt w L row held late ops) {row' : Array Value} (hr : w'.heap[L.d]? = some (.cells row' 107)) (hf : Fr (fun i => i = L.d) w w') : RawAt w' L row' held late ops := by
  have hb : ∀ k, L.has k → k ≠ L.d → w'.heap[k]? = w.heap[k]? := fun k hk hn => hf.block k (h.lt k hk) hn
  exact ⟨hr, h.held.kept (hb _ (.inr (.inl rfl)) (map_row h.held h.row)), h.late.kept (hb _ (.inr (.inr (.inl rfl))) (map_row h.late h.row)), ownsRow_kept0 h.hist fun k hk => hb k (.inr (.inr (.inr hk))) fun e => hist_row h.hist h.row (e ▸ hk), h.ne⟩
theorem RawAt.cell (h : RawAt w L row held late ops) (i : Nat) (v : Value) : RawAt (w.setCell ⟨L.d, i, none⟩ v) L (row.setIfInBounds i v) held late ops :=
  h.rowTo (Joins.block_setCell h.row v) (Fr.setCell w L.d i v)
/-- The map of what is pending has turned. -/
theorem RawAt.lateTo (h : RawAt w L row held late ops) {late' : Int → Option Value} (hm : MapIs Try.prog 3 w' L.lb late') (hf : Fr (fun i => i = L.lb) w w') : RawAt w' L row held late' ops := by
  have hb : ∀ k, L.has k → k ≠ L.lb → w'.heap[k]? = w.heap[k]? := fun k hk hn => hf.block k (h.lt k hk) hn
  exact ⟨(hb _ (.inl rfl) fun e => map_row h.late h.row e.symm).trans h.row, h.held.kept (hb _ (.inr (.inl rfl)) h.ne), hm, ownsRow_kept0 h.hist fun k hk => hb k (.inr (.inr (.inr hk))) fun e => hist_map h.hist h.late (e ▸ hk), h.ne⟩
/-- The map of what is pending is another one. -/
theorem RawAt.lateNew (h : RawAt w L row held late ops) {b : Nat} {late' : Int → Option Value} (hb : L.hb ≠ b) (hm : MapIs Try.prog 3 w b late') : RawAt w ⟨L.d, L.hb, b, L.hv⟩ row held late' ops := ⟨h.row, h.held, hm, h.hist, hb⟩
/-- The history has turned. -/
theorem RawAt.histTo (h : RawAt w L row held late ops) {v : Value} {ops' : List Rec} (ho : w'.ownsRow 0 42 1026 v ops'.length (opCells ops')) (hf : Fr (fun i => L.hv.ownBlock = some i) w w') : RawAt w' ⟨L.d, L.hb, L.lb, v⟩ row held late ops' := by
  have hb : ∀ k, L.has k → L.hv.ownBlock ≠ some k → w'.heap[k]? = w.heap[k]? := fun k hk hn => hf.block k (h.lt k hk) hn
  exact ⟨(hb _ (.inl rfl) (hist_row h.hist h.row)).trans h.row, h.held.kept (hb _ (.inr (.inl rfl)) (hist_map h.hist h.held)), h.late.kept (hb _ (.inr (.inr (.inl rfl))) (hist_map h.hist h.late)), ho, h.ne⟩
/-- From one place to the next, likewise. -/
theorem Goes.of {a b : World} {L L' : Loc} {T : Nat → Prop} (hd : L'.d = L.d) (ho : ∀ k, L'.has k → L.has k ∨ a.heap.size ≤ k) (hf : Fr T a b) (hT : ∀ i, i < a.heap.size → T i → L.has i) : Goes a b L L' := ⟨hd, ho, hf.mono hT⟩
end Go.Proofs.Ytbnbbelkddbndaa
