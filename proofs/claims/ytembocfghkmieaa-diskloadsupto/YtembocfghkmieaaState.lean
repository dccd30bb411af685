/- A disk in memory: its row of twelve cells, its two maps, its history; and what it stands for: what is held, what was done, what is pending; no condition. -/
import Derived.Test.YtembocfghkmieaaRise
import Derived.Test.YtembocfghkmieaaLater
import Derived.Test.YtembocfghkmieaaMaps
import Derived.Lib.SmallJoins
import Derived.Deep.MidRow
namespace Go.Proofs.Ytembocfghkmieaa
open Go.RowKit

/-- Nothing has turned but blocks of T and new ones. -/
structure Fr (T : Nat → Prop) (w w' : World) : Prop where
  os : w'.os = w.os
  tape : w'.tape = w.tape
  output : w'.output = w.output
  size : w.heap.size ≤ w'.heap.size
  block : ∀ k, k < w.heap.size → ¬ T k → w'.heap[k]? = w.heap[k]?
theorem Fr.refl (T : Nat → Prop) (w : World) : Fr T w w := ⟨rfl, rfl, rfl, Nat.le_refl _, fun _ _ _ => rfl⟩
theorem Fr.trans {T T' : Nat → Prop} {a b c : World} (h : Fr T a b) (k : Fr T' b c) (hT : ∀ i, i < a.heap.size → T' i → T i) : Fr T a c :=
  ⟨k.os.trans h.os, k.tape.trans h.tape, k.output.trans h.output, Nat.le_trans h.size k.size, fun i hi hn => (k.block i (Nat.lt_of_lt_of_le hi h.size) (fun q => hn (hT i hi q))).trans (h.block i hi hn)⟩
theorem Fr.mono {T T' : Nat → Prop} {a b : World} (h : Fr T a b) (hT : ∀ i, i < a.heap.size → T i → T' i) : Fr T' a b :=
  ⟨h.os, h.tape, h.output, h.size, fun i hi hn => h.block i hi fun q => hn (hT i hi q)⟩
theorem Fr.ofBelow {T : Nat → Prop} {a b : World} (h : Below a.heap.size a b) : Fr T a b := ⟨h.os, h.tape, h.output, h.size, fun i hi _ => h.block i hi⟩
theorem Fr.below {T : Nat → Prop} {B : Nat} {a b : World} (h : Fr T a b) (hT : ∀ i, T i → B ≤ i) (hB : B ≤ a.heap.size) : Below B a b :=
  ⟨h.os, h.tape, h.output, h.size, fun i hi => h.block i (by omega) fun q => by have := hT i q; omega⟩
theorem Fr.ofGrown {a b : World} {r : Option Nat} (h : a.grownBy b r) : Fr (fun i => r = some i) a b := ⟨h.os, h.tape, h.output, h.size, fun i hi hn => h.block i hi fun q => hn q.symm⟩
theorem Fr.setCell (w : World) (g i : Nat) (v : Value) : Fr (fun k => k = g) w (w.setCell ⟨g, i, none⟩ v) :=
  ⟨rfl, rfl, rfl, by simp, fun k _ hn => Below.heap_setCell w _ v k hn⟩
theorem Fr.alloc (T : Nat → Prop) (w : World) (o : Obj) : Fr T w (w.alloc o) := Fr.ofBelow ((Below.refl _ _).alloc (Nat.le_refl _) o)

/-- A thing that was done. -/
structure Rec where
  kind : Int
  pos : Int
  dat : Nat → Int
def recCells (r : Rec) : List Value := .int .u8 r.kind :: .int .i64 r.pos :: (blk r.dat).toList
def opCells (l : List Rec) : List Value := l.flatMap recCells
theorem blk_list_len (f : Nat → Int) : (blk f).toList.length = 1024 := by rw [Array.length_toList, blk_size]
theorem recCells_len (r : Rec) : (recCells r).length = 1026 := by simp [recCells, blk_size]
theorem opCells_len : ∀ l : List Rec, (opCells l).length = l.length * 1026
  | [] => rfl
  | r :: t => by
    have ih := opCells_len t
    have h1 := recCells_len r
    show (recCells r ++ opCells t).length = _
    rw [List.length_append, ih, h1, List.length_cons]
    omega
theorem opCells_append (a b : List Rec) : opCells (a ++ b) = opCells a ++ opCells b := by simp [opCells]
theorem recCells_one (r : Rec) : ∀ v ∈ recCells r, v.oneCell' = true := by
  intro v hv
  simp only [recCells, List.mem_cons] at hv
  rcases hv with rfl | rfl | h
  · rfl
  · rfl
  · have := blk_one r.dat
    rw [Array.all_eq_true_iff_forall_mem] at this
    exact this v (by simpa using h)

/-- What a disk stands for. -/
structure St where
  n : Int
  held : Int → Option (Nat → Int)
  done : List Rec
  wait : List Cel
  fuse : Int
  stopped : Bool
  made : Int
  reads : Int
  claims : Int
  claimed : Bool
def wrec (c : Cel) : Rec := ⟨1, c.1, c.2⟩
def St.ops (s : St) : List Rec := s.done ++ s.wait.map wrec
/-- Where the last write of a block stands. -/
def lastAt : List Cel → Int → Option Nat
  | [], _ => none
  | c :: t, k => match lastAt t k with
    | some i => some (i + 1)
    | none => if c.1 = k then some 0 else none
theorem lastAt_snoc (c : Cel) (k : Int) : ∀ l : List Cel, lastAt (l ++ [c]) k = if c.1 = k then some l.length else lastAt l k
  | [] => by simp [lastAt]
  | x :: t => by
    show (match lastAt (t ++ [c]) k with | some i => some (i + 1) | none => if x.1 = k then some 0 else none) = _
    rw [lastAt_snoc c k t]
    by_cases h : c.1 = k
    · simp [h]
    · simp [h, lastAt]
theorem lastAt_spec (k : Int) : ∀ (l : List Cel) (i : Nat), lastAt l k = some i → ∃ c, l[i]? = some c ∧ c.1 = k
  | [], i, h => by simp [lastAt] at h
  | x :: t, i, h => by
    unfold lastAt at h
    cases ht : lastAt t k with
    | none =>
      rw [ht] at h
      by_cases hx : x.1 = k
      · simp [hx] at h; subst h; exact ⟨x, rfl, hx⟩
      · simp [hx] at h
    | some j =>
      rw [ht] at h
      simp at h
      subst h
      obtain ⟨c, h1, h2⟩ := lastAt_spec k t j ht
      exact ⟨c, by simpa using h1, h2⟩
def heldV (s : St) : Int → Option Value := fun k => (s.held k).map fun f => .agg (blk f)
def lateV (s : St) : Int → Option Value := fun k => (lastAt s.wait k).map fun i => .int .i64 ((s.done.length + i : Nat) : Int)

/-- What holds of every disk. -/
structure Ok (s : St) : Prop where
  n : 1 ≤ s.n ∧ s.n ≤ 1048576
  held : ∀ k f, s.held k = some f → (0 ≤ k ∧ k < s.n) ∧ Can f ∧ f ≠ nought
  wait : ∀ c ∈ s.wait, (0 ≤ c.1 ∧ c.1 < s.n) ∧ Can c.2
  fuse : -1 ≤ s.fuse ∧ s.fuse ≤ 9223372036854775807
  made : 0 ≤ s.made
  reads : 0 ≤ s.reads
  claims : 0 ≤ s.claims
/-- There is room for more. -/
structure Room (s : St) : Prop where
  ops : s.ops.length < 68719476736
  made : s.made < 1099511627776
  reads : s.reads < 1099511627776
  claims : s.claims < 1099511627776

/-- Where a disk lies: its row, its maps, its history. -/
structure Loc where
  d : Nat
  hb : Nat
  lb : Nat
  hv : Value
def Loc.has (L : Loc) (k : Nat) : Prop := k = L.d ∨ k = L.hb ∨ k = L.lb ∨ L.hv.ownBlock = some k
def dkRow (L : Loc) (s : St) : Array Value :=
  #[.pointer (some ⟨L.d, 0, none⟩), .int .i64 s.n, .map (some L.hb), L.hv, .int .i64 (s.done.length : Int), .map (some L.lb), .int .i64 s.fuse, .bool s.stopped, .int .i64 s.made, .int .i64 s.reads, .int .i64 s.claims, .bool s.claimed]

structure DiskAt (w : World) (L : Loc) (s : St) : Prop where
  row : w.heap[L.d]? = some (.cells (dkRow L s) 74)
  held : MapIs Try.prog 3 w L.hb (heldV s)
  late : MapIs Try.prog 3 w L.lb (lateV s)
  hist : w.ownsRow 0 108 1026 L.hv s.ops.length (opCells s.ops)
  ne : L.hb ≠ L.lb
  ok : Ok s
theorem ownsRow_kept0 {w w' : World} {base e size n : Nat} {v : Value} {xs : List Value} (h : w.ownsRow base e size v n xs) (hb : ∀ k, v.ownBlock = some k → w'.heap[k]? = w.heap[k]?) : w'.ownsRow base e size v n xs := by
  refine ⟨h.1, ?_⟩
  rcases h.2 with h | ⟨g, cap, cur, rfl, h1, h2, h3⟩
  · exact .inl h
  · exact .inr ⟨g, cap, cur, rfl, h1, (hb g rfl).trans h2, h3⟩
theorem DiskAt.lt {w : World} {L : Loc} {s : St} (h : DiskAt w L s) (k : Nat) (hk : L.has k) : k < w.heap.size := by
  rcases hk with rfl | rfl | rfl | hk
  · exact (Array.getElem?_eq_some_iff.1 h.row).1
  · exact h.held.lt
  · exact h.late.lt
  · exact (h.hist.lt k hk).2
/-- It stays what it is where its blocks do. -/
theorem DiskAt.kept {w w' : World} {L : Loc} {s : St} (h : DiskAt w L s) (hb : ∀ k, L.has k → w'.heap[k]? = w.heap[k]?) : DiskAt w' L s :=
  ⟨(hb _ (.inl rfl)).trans h.row, h.held.kept (hb _ (.inr (.inl rfl))), h.late.kept (hb _ (.inr (.inr (.inl rfl)))), ownsRow_kept0 h.hist fun k hk => hb k (.inr (.inr (.inr hk))), h.ne, h.ok⟩
theorem DiskAt.fr {w w' : World} {L : Loc} {s : St} {T : Nat → Prop} (h : DiskAt w L s) (hf : Fr T w w') (hT : ∀ k, L.has k → ¬ T k) : DiskAt w' L s :=
  h.kept fun k hk => hf.block k (h.lt k hk) (hT k hk)
theorem DiskAt.later {w w' : World} {L : Loc} {s : St} (h : DiskAt w L s) (hb : Below w.heap.size w w') : DiskAt w' L s := h.kept fun k hk => hb.block k (h.lt k hk)

/-- From one state to the next: the row stays where it is, nothing turns but the disk's own blocks. -/
structure Goes (w w' : World) (L L' : Loc) : Prop where
  d : L'.d = L.d
  own : ∀ k, L'.has k → L.has k ∨ w.heap.size ≤ k
  fr : Fr L.has w w'
theorem Goes.trans {a b c : World} {L L' L'' : Loc} (h : Goes a b L L') (k : Goes b c L' L'') : Goes a c L L'' := by
  refine ⟨k.d.trans h.d, fun i hi => ?_, h.fr.trans k.fr fun i hi hk => ?_⟩
  · rcases k.own i hi with h1 | h1
    · exact h.own i h1
    · have := h.fr.size; exact .inr (by omega)
  · rcases h.own i hk with h1 | h1
    · exact h1
    · omega
theorem Goes.refl (w : World) (L : Loc) : Goes w w L L := ⟨rfl, fun _ h => .inl h, Fr.refl _ _⟩
theorem Goes.ofBelow {w w' : World} (L : Loc) (h : Below w.heap.size w w') : Goes w w' L L := ⟨rfl, fun _ h => .inl h, Fr.ofBelow h⟩
/-- The cells of the row. -/
theorem DiskAt.cell {w : World} {L : Loc} {s : St} (h : DiskAt w L s) (i : Nat) : w.cell? ⟨L.d, i, none⟩ = (dkRow L s)[i]? := Joins.cell_of_block h.row i
theorem DiskAt.free {w : World} {L : Loc} {s : St} (h : DiskAt w L s) (i : Nat) : w.frozen? ⟨L.d, i, none⟩ = false := Joins.unfrozen_of_block h.row i
end Go.Proofs.Ytembocfghkmieaa
