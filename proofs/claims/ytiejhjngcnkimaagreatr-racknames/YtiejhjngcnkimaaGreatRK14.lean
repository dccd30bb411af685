/- Several texts joined, each with its own remark; no condition. -/
import Derived.Test.YtiejhjngcnkimaaGreatRProg
import Derived.WalkKit
import Derived.WalkSpells
import Derived.WalkLawsBesides
import Derived.Deep.WholeRow
import Derived.Deep.DeepAppendWide
import Derived.Deep.Onto
import Derived.Deep.MidRow
import Derived.Laws.StructEq
import Derived.Lib.SmallJoins
import Derived.Maps.AppendAt
import Derived.Maps.OwnOps
import Derived.Maps.OwnSet
import Derived.Laws.CopyOwn
import Derived.Laws.AppendOwnNone
import Derived.Laws.OwnMore
import Derived.BigQuiet
import Derived.OrdersHeld
/- Rows of any type loaded, stored and returned; what turns and what stays; lists of anything in memory of their own, appended to and written over; no condition. -/
namespace Go.Proofs.YtiejhjngcnkimaaGreatR
open Go.RowKit Go.Maps
theorem pA {α : Type} (l : List α) (i : Nat) (a : α) : l.toArray.setIfInBounds i a = (l.set i a).toArray := List.setIfInBounds_toArray ..
theorem pB {α : Type} {a b : α} {xs : List α} {n : Nat} : (a :: xs).set (n + 1) b = a :: xs.set n b := List.set_cons_succ
theorem pC {α : Type} {a b : α} {xs : List α} : (a :: xs).set 0 b = b :: xs := List.set_cons_zero
theorem below_new (w : World) (o : Obj) : Below w.heap.size w (w.alloc o) := (Below.refl _ _).alloc (Nat.le_refl _) _
theorem below_next {w w1 w2 : World} (h : Below w.heap.size w w1) (hb : Below w1.heap.size w1 w2) : Below w.heap.size w w2 := h.trans (hb.mono h.size)
theorem heap_kept {w w' : World} {g : Nat} {o : Obj} (h : w.heap[g]? = some o) (hb : Below w.heap.size w w') : w'.heap[g]? = some o :=
  (hb.block g (Array.getElem?_eq_some_iff.1 h).1).trans h
theorem belowN {B : Nat} {w W : World} (h : Below B w W) (q : Nat) : Below B w (W.drewN q) := h.trans ⟨rfl, rfl, rfl, Nat.le_refl _, fun _ _ => rfl⟩
section
variable {ops : Array Oper} {rest : List Oper} {Q : Exit → Act → World → Prop} {a : Act} {w : World} {dst : Option Tmp} {x y : Operand} {ty : TypeId} {pos : String} {aft : Array Edge} {gd : Option (Nat × Bool)}
theorem isLoadR (t : TypeId) (h : wpList Tryz.prog ops Q (⟨dst, .load t x, ty, pos, aft, gd⟩ :: rest) a w) : wpList Tryz.prog ops Q (⟨dst, .load t x, ty, pos, aft, gd⟩ :: rest) a w := h
theorem isStoreR (t : TypeId) (h : wpList Tryz.prog ops Q (⟨dst, .store t x y, ty, pos, aft, gd⟩ :: rest) a w) : wpList Tryz.prog ops Q (⟨dst, .store t x y, ty, pos, aft, gd⟩ :: rest) a w := h
theorem isEqR (t t' : TypeId) {bo : BinOp} (h : wpList Tryz.prog ops Q (⟨dst, .binOp bo t x y t', ty, pos, aft, gd⟩ :: rest) a w) : wpList Tryz.prog ops Q (⟨dst, .binOp bo t x y t', ty, pos, aft, gd⟩ :: rest) a w := h
theorem isBuildR (t : TypeId) {ps : Array (Nat × Operand)} (h : wpList Tryz.prog ops Q (⟨dst, .build t ps, ty, pos, aft, gd⟩ :: rest) a w) : wpList Tryz.prog ops Q (⟨dst, .build t ps, ty, pos, aft, gd⟩ :: rest) a w := h
end
section
variable {ops : Array Oper} {rest : List Oper} {o : Oper} {a : Act} {w : World} {Q : Exit → Act → World → Prop}
theorem wpList_ldR (ty : TypeId) {d : TypeDesc} (hu : Tryz.prog.underlying ty = some d) (hd : d.isRow = true) (hw : Region.wanted o (yielded ops a.tmps) = true) (x : Operand) (ho : o.op = .load ty x)
    (g : Nat) (hx : a.eval x = .pointer (some ⟨g, 0, none⟩)) (cs : Array Value) (t : TypeId) (fr : Nat × Nat) (hi : (Tryz.prog.info? ty).map (·.size) = some cs.size) (hg : w.heap[g]? = some (.cells cs t fr))
    (h : wpList Tryz.prog ops Q rest (a.put o.dst (.agg cs)) w) : wpList Tryz.prog ops Q (o :: rest) a w := by
  unfold wpList
  rw [if_pos hw]
  refine .inl ?_
  unfold Oper.wp execOp
  simp only [ho, hx, Instr.loadAt, Instr.sureAddr, Sem.run_bind, Sem.run_pure, Result.andThen_ok, run_loadVar_row w g t ty cs fr d hg hu (by cases d <;> first | rfl | cases hd) hi]
  exact h
theorem wpList_stR (ty : TypeId) (hgd : o.guard = none) (x y : Operand) (ho : o.op = .store ty x y)
    (g : Nat) (cs c0 : Array Value) (t : TypeId) (hi : (Tryz.prog.info? ty).map (·.size) = some cs.size) (hs : c0.size = cs.size) (h1 : cs.all (·.oneCell') = true)
    (hx : a.eval x = .pointer (some ⟨g, 0, none⟩)) (hy : a.eval y = .agg cs) (hg : w.heap[g]? = some (.cells c0 t))
    (h : wpList Tryz.prog ops Q rest (a.put o.dst undef) (w.setRow g cs)) : wpList Tryz.prog ops Q (o :: rest) a w :=
  wpList_plain hgd fun _ hK => by
    unfold Oper.wp execOp
    simp only [ho, hx, hy, Instr.storeAt, Instr.sureAddr, Sem.run_bind, Sem.run_pure, Result.andThen_ok, run_storeVar_row w g t ty c0 cs hg hi hs h1]
    exact hK _ _ h
theorem wpList_stNew (ty : TypeId) (hgd : o.guard = none) (x y : Operand) (ho : o.op = .store ty x y)
    (g : Nat) (cs c0 : Array Value) (t : TypeId) (hi : (Tryz.prog.info? ty).map (·.size) = some cs.size) (hs : c0.size = cs.size) (h1 : cs.all (·.oneCell') = true)
    (hx : a.eval x = .pointer (some ⟨g, 0, none⟩)) (hgw : g = w.heap.size) (hy : a.eval y = .agg cs)
    (h : wpList Tryz.prog ops Q rest (a.put o.dst undef) (w.alloc (.cells cs t))) : wpList Tryz.prog ops Q (o :: rest) a (w.alloc (.cells c0 t)) := by
  subst hgw
  exact wpList_stR ty hgd x y ho w.heap.size cs c0 t hi hs h1 hx hy (heap_alloc_new _ _) (by rw [World.setRow_alloc_new]; exact h)
end
theorem retR {fn : Func} {p : Tmp} {ty : TypeId} {R : Ending → World → Prop} {a : Act} {w : World} {d : TypeDesc} (hu : Tryz.prog.underlying ty = some d) (hd : d.isRow = true)
    (h : fn.results = #[.cell p ty]) (g : Nat) (cs : Array Value) (t : TypeId) (hi : (Tryz.prog.info? ty).map (·.size) = some cs.size)
    (hp : a.tmps.getD p undef = .pointer (some ⟨g, 0, none⟩)) (hg : w.heap[g]? = some (.cells cs t)) (hdf : a.defers = []) (hR : R (.returned (.agg cs)) w) : bodyPost Tryz.prog fn R .ret a w :=
  bodyPost_ret (results_cell_row h a.tmps w g t cs (0, 0) _ hp hg hu (by cases d <;> first | rfl | cases hd) hi) hdf hR
structure Fr (T : Nat → Prop) (w w' : World) : Prop where
  os : w'.os = w.os
  tape : w'.tape = w.tape
  output : w'.output = w.output
  size : w.heap.size ≤ w'.heap.size
  block : ∀ k, k < w.heap.size → ¬ T k → w'.heap[k]? = w.heap[k]?
theorem Fr.refl (T : Nat → Prop) (w : World) : Fr T w w := ⟨rfl, rfl, rfl, Nat.le_refl _, fun _ _ _ => rfl⟩
theorem Fr.trans {T T' : Nat → Prop} {a b c : World} (h : Fr T a b) (k : Fr T' b c) (hT : ∀ i, i < a.heap.size → T' i → T i) : Fr T a c :=
  ⟨k.os.trans h.os, k.tape.trans h.tape, k.output.trans h.output, Nat.le_trans h.size k.size, fun i hi hn => (k.block i (Nat.lt_of_lt_of_le hi h.size) (fun q => hn (hT i hi q))).trans (h.block i hi hn)⟩
theorem Fr.mono {T T' : Nat → Prop} {a b : World} (h : Fr T a b) (hT : ∀ i, i < a.heap.size → T i → T' i) : Fr T' a b :=
  ⟨h.os, h.tape, h.output, h.size, fun i hi hn => h.block i hi fun q => hn (hT i hi q)⟩
theorem Fr.ofBelow {T : Nat → Prop} {a b : World} (h : Below a.heap.size a b) : Fr T a b := ⟨h.os, h.tape, h.output, h.size, fun i hi _ => h.block i hi⟩
theorem Fr.below {T : Nat → Prop} {B : Nat} {a b : World} (h : Fr T a b) (hT : ∀ i, T i → B ≤ i) (hB : B ≤ a.heap.size) : Below B a b :=
  ⟨h.os, h.tape, h.output, h.size, fun i hi => h.block i (by omega) fun q => by have := hT i q; omega⟩
theorem Fr.ofGrown {a b : World} {r : Option Nat} (h : a.grownBy b r) : Fr (fun i => r = some i) a b := ⟨h.os, h.tape, h.output, h.size, fun i hi hn => h.block i hi fun q => hn q.symm⟩
theorem Fr.setCell (w : World) (g i : Nat) (v : Value) : Fr (fun k => k = g) w (w.setCell ⟨g, i, none⟩ v) :=
  ⟨rfl, rfl, rfl, by simp, fun k _ hn => Below.heap_setCell w _ v k hn⟩
theorem Fr.alloc (T : Nat → Prop) (w : World) (o : Obj) : Fr T w (w.alloc o) := Fr.ofBelow ((Below.refl _ _).alloc (Nat.le_refl _) o)
theorem Fr.setRow (w : World) (g : Nat) (cs : Array Value) : Fr (fun k => k = g) w (w.setRow g cs) :=
  ⟨rfl, rfl, rfl, by simp, fun k _ hn => setRow_other w g k cs hn⟩
section
variable {α : Type} (row : α → List Value) (n : Nat)
theorem fm_get (hr : ∀ x, (row x).length = n) : ∀ (l : List α) (i j : Nat) (r : α), l[i]? = some r → j < n → (l.flatMap row)[i * n + j]? = (row r)[j]?
  | [], i, j, r, h, _ => by simp at h
  | x :: t, 0, j, r, h, hj => by
    have h' : x = r := by simpa using h
    subst h'
    rw [List.flatMap_cons, Nat.zero_mul, Nat.zero_add, List.getElem?_append_left (by rw [hr]; exact hj)]
  | x :: t, i + 1, j, r, h, hj => by
    have h' : t[i]? = some r := by simpa using h
    rw [List.flatMap_cons, List.getElem?_append_right (by rw [hr, Nat.add_mul]; omega), hr, show (i + 1) * n + j - n = i * n + j by rw [Nat.add_mul]; omega]
    exact fm_get hr t i j r h' hj
end
section
variable {w W W' : World} {v v' : Value}
theorem append_gen {st e : TypeId} {i : TypeInfo} {z : Value} {size bytes : Nat} (ht : Tryz.prog.underlying st = some (.slice e)) (hi : Tryz.prog.info? e = some i) (hz : i.zero = some z) (hsize : i.size = size) (hby : i.bytes = bytes) (hzs : z.cells.size = size) (hsz : 0 < size)
    {B : Nat} {n : Nat} {xs : List Value} (hown : W.ownsRow B e size v n xs) {ad : Addr} {m c : Nat} {news : List Value} (hm : 0 < m) (hl : news.length = m * size)
    (hnews : ∀ j u, news[j]? = some u → W.cell? (ad.add j) = some u) (h1 : ∀ u ∈ news, u.oneCell' = true) (h63 : n + m ≤ maxLen) (hbytes : ((n + m) + (n + m) / 4 + 192) * bytes ≤ 281474976710656) (hB : B ≤ W.heap.size) (ty : TypeId) :
    ∃ v' w', (Builtin.append_ #[st, st] ty #[v, .slice (some ad) m c]).run Tryz.prog W = .ok v' w' ∧ w'.ownsRow B e size v' (n + m) (xs ++ news) ∧ Fr (fun k => v.ownBlock = some k) W w' ∧ ∀ k, v'.ownBlock = some k → v.ownBlock = some k ∨ W.heap.size ≤ k := by
  obtain ⟨v', w', hr, h2, hg, _⟩ := run_append_own_wide (P := Tryz.prog) W B st ty e i z size bytes ht hi hz hsize hby hzs hsz v n xs hown ad m c news hl hnews h1 h63 hbytes hB
  refine ⟨v', w', hr, h2, Fr.ofGrown hg, fun k hk => ?_⟩
  have hmx : n + m ≤ 9223372036854775807 := by simp only [maxLen] at h63; omega
  have hmb : m * i.bytes ≤ 281474976710656 := by
    rw [hby]
    exact Nat.le_trans (Nat.mul_le_mul_right _ (by omega)) hbytes
  subst hsize
  subst hby
  rcases hown.2 with ⟨rfl, rfl⟩ | ⟨g, cap, cur, rfl, _, hg', hnc, hcm, hcs, htake⟩
  · rw [run_append_nil (P := Tryz.prog) W st ty e i _ ht hi hz ad m c news hl hnews hm (by omega) hmb] at hr
    injection hr with q1 q2
    rw [← q1] at hk
    injection hk with hk
    exact .inr (by rw [← hk]; exact Nat.le_refl _)
  · by_cases hroom : n + m ≤ cap
    · have hfit : n * i.size + news.length ≤ cur.size := by rw [hl, hcs, ← Nat.add_mul]; exact Nat.mul_le_mul_right _ hroom
      rw [run_append_room (P := Tryz.prog) W st ty e i ht hi g n cap cur hg' ad m c news hl hnews h1 hroom hfit] at hr
      injection hr with q1 q2
      rw [← q1] at hk
      exact .inl hk
    · rw [run_append_grow (P := Tryz.prog) W st ty e i _ ht hi hz ⟨g, 0, none⟩ n cap xs hown.1 (hown.cells (g := g) rfl) ad m c news hl hnews (by omega) (by omega) (growslice_fits_wide (by omega) hbytes)] at hr
      injection hr with q1 q2
      rw [← q1] at hk
      injection hk with hk
      exact .inr (by rw [← hk]; exact Nat.le_refl _)
theorem exec_push {o : Oper} {a : Act} {s y : Operand} {st : TypeId} {ad : Addr} {m c : Nat} (ho : o.op = .call { callee := .builtin .append, args := #[s, y], argTypes := #[st, st] }) (hs : a.eval s = v) (hx : a.eval y = .slice (some ad) m c)
    (hr : (Builtin.append_ #[st, st] o.type #[v, .slice (some ad) m c]).run Tryz.prog W = .ok v' W') : (execOp a.eval o).run Tryz.prog W = .ok (.value v') W' := by
  simp [execOp, ho, resolve, invoke, builtin, hs, hx, hr, Result.andThen]
end
section
variable {α : Type} {en : α → List Value} {sz : Nat}
theorem fml (hr : ∀ x, (en x).length = sz) : ∀ l : List α, (l.flatMap en).length = l.length * sz
  | [] => by simp
  | x :: t => by rw [List.flatMap_cons, List.length_append, hr, fml hr t, List.length_cons, Nat.add_mul, Nat.one_mul, Nat.add_comm]
theorem own_later {w w' : World} {base e size : Nat} {v : Value} {n : Nat} {xs : List Value} (h : w.ownsRow base e size v n xs) (hb : Below w.heap.size w w') : w'.ownsRow base e size v n xs := by
  obtain ⟨h1, h2⟩ := h
  refine ⟨h1, ?_⟩
  rcases h2 with h2 | ⟨g, cap, cur, hv, hg, hh, r⟩
  · exact .inl h2
  · exact .inr ⟨g, cap, cur, hv, hg, (hb.block g (Array.getElem?_eq_some_iff.1 hh).1).trans hh, r⟩
theorem own_frame {w w' : World} {base e size : Nat} {v : Value} {n : Nat} {xs : List Value} {T : Nat → Prop} (h : w.ownsRow base e size v n xs) (hf : Fr T w w') (hT : ∀ i, v.ownBlock = some i → ¬ T i) : w'.ownsRow base e size v n xs := by
  obtain ⟨h1, h2⟩ := h
  refine ⟨h1, ?_⟩
  rcases h2 with h2 | ⟨g, cap, cur, rfl, hg, hh, r⟩
  · exact .inl h2
  · exact .inr ⟨g, cap, cur, rfl, hg, (hf.block g (Array.getElem?_eq_some_iff.1 hh).1 (hT g rfl)).trans hh, r⟩
theorem own_get (hr : ∀ x, (en x).length = sz) {B e g n c i : Nat} {w : World} {l : List α} {x : α} (h : w.ownsRow B e sz (.slice (some ⟨g, 0, none⟩) n c) n (l.flatMap en)) (hx : l[i]? = some x) : ∀ j v, (en x)[j]? = some v → w.cell? ⟨g, i * sz + j, none⟩ = some v := fun j v hv => by
  have hj : j < sz := by have := (List.getElem?_eq_some_iff.1 hv).1; rwa [hr] at this
  have hln := h.1
  rw [fml hr] at hln
  have hi : i < l.length := (List.getElem?_eq_some_iff.1 hx).1
  have hlt : i * sz + j < n * sz := by
    rw [← hln]
    have : (i + 1) * sz ≤ l.length * sz := Nat.mul_le_mul_right _ hi
    rw [Nat.add_mul, Nat.one_mul] at this
    omega
  rw [World.ownsRow.cellAt h _ hlt, fm_get (row := en) (n := sz) hr l i j x hx hj]
  exact hv
theorem own_form {w : World} {B e n : Nat} {v : Value} {xs : List Value} (h : w.ownsRow B e sz v n xs) : (v = .slice none 0 0 ∧ n = 0) ∨ ∃ g c, v = .slice (some ⟨g, 0, none⟩) n c ∧ g < w.heap.size := by
  rcases h.2 with q | ⟨g, c, cur, hv, _, hh, _⟩
  · exact .inl q
  · exact .inr ⟨g, c, hv, (Array.getElem?_eq_some_iff.1 hh).1⟩
end
end Go.Proofs.YtiejhjngcnkimaaGreatR
/- Rows of numbers of one kind as functions of their places; compared, loaded from the middle of rows; no condition. -/
namespace Go.Proofs.YtiejhjngcnkimaaGreatR
open Go.RowKit Go.Maps
def rowN (kd : IntKind) (f : Nat → Int) (n : Nat) : Array Value := ((List.range n).map fun i => Value.int kd (f i)).toArray
def updN (f : Nat → Int) (i : Nat) (x : Int) : Nat → Int := fun j => if j = i then x else f j
def nought : Nat → Int := fun _ => 0
def blk (f : Nat → Int) : Array Value := rowN .u8 f 1024
theorem rowN_size (kd : IntKind) (f : Nat → Int) (n : Nat) : (rowN kd f n).size = n := by simp [rowN]
theorem rowN_get (kd : IntKind) (f : Nat → Int) (n i : Nat) (h : i < n) : (rowN kd f n)[i]? = some (.int kd (f i)) := by simp [rowN, h]
theorem rowN_ext {kd : IntKind} {cs : Array Value} {f : Nat → Int} {n : Nat} (hs : cs.size = n) (h : ∀ i, i < n → cs[i]? = some (.int kd (f i))) : cs = rowN kd f n := by
  apply Array.ext_getElem?
  intro j
  by_cases hj : j < n
  · rw [h j hj, rowN_get _ _ _ _ hj]
  · rw [Array.getElem?_eq_none (by omega), Array.getElem?_eq_none (by rw [rowN_size]; omega)]
theorem rowN_congr {kd : IntKind} {f g : Nat → Int} {n : Nat} (h : ∀ i, i < n → f i = g i) : rowN kd f n = rowN kd g n :=
  rowN_ext (rowN_size kd f n) fun i hi => by rw [rowN_get _ _ _ _ hi, h i hi]
theorem rowN_set (kd : IntKind) (f : Nat → Int) (n i : Nat) (x : Int) : (rowN kd f n).setIfInBounds i (.int kd x) = rowN kd (updN f i x) n := by
  refine rowN_ext (by rw [Array.size_setIfInBounds, rowN_size]) fun j hj => ?_
  rw [Array.getElem?_setIfInBounds]
  by_cases e : i = j
  · subst e; simp [rowN_size, hj, updN]
  · have e' : ¬ j = i := fun q => e q.symm
    simp [e, e', rowN_get _ _ _ _ hj, updN]
theorem rowN_one (kd : IntKind) (f : Nat → Int) (n : Nat) : (rowN kd f n).all (·.oneCell') = true := by
  rw [Array.all_eq_true_iff_forall_mem]
  intro v hv
  simp [rowN] at hv
  obtain ⟨i, _, rfl⟩ := hv
  rfl
theorem setCell_rowN {w : World} {g m : Nat} {kd : IntKind} {f : Nat → Int} {t : TypeId} (h : w.heap[g]? = some (.cells (rowN kd f m) t)) (i : Nat) (x : Int) : (w.setCell ⟨g, i, none⟩ (.int kd x)).heap[g]? = some (.cells (rowN kd (updN f i x) m) t) := by
  rw [heap_setCell_same _ _ _ _ _ _ h, rowN_set]
theorem cell_rowN {w : World} {g m : Nat} {kd : IntKind} {f : Nat → Int} {t : TypeId} (h : w.heap[g]? = some (.cells (rowN kd f m) t)) {i : Nat} (hi : i < m) : w.cell? ⟨g, i, none⟩ = some (.int kd (f i)) := by
  rw [cell_of_row _ _ i _ t _ h, rowN_get _ _ _ _ hi]
theorem frozen_row {w : World} {g : Nat} {cs : Array Value} {t : TypeId} (h : w.heap[g]? = some (.cells cs t)) (i : Nat) : w.frozen? ⟨g, i, none⟩ = false := by simp [World.frozen?, h]
theorem heap_two (w : World) (a b : Obj) : ((w.alloc a).alloc b).heap[w.heap.size + 1]? = some b := by
  have := heap_alloc_new (w.alloc a) b
  simpa using this
def NumsAt (w : World) (kd : IntKind) (b off : Nat) (f : Nat → Int) (n : Nat) : Prop := ∀ i, i < n → w.cell? ⟨b, off + i, none⟩ = some (.int kd (f i))
theorem NumsAt.later {w W : World} {kd : IntKind} {b off n : Nat} {f : Nat → Int} (h : NumsAt w kd b off f n) (hb : Below w.heap.size w W) (hlt : b < w.heap.size) : NumsAt W kd b off f n := fun i hi => (hb.cell (p := ⟨b, off + i, none⟩) hlt).trans (h i hi)
theorem NumsAt.of {w : World} {kd : IntKind} {g n : Nat} {f : Nat → Int} {t : TypeId} (h : w.heap[g]? = some (.cells (rowN kd f n) t)) : NumsAt w kd g 0 f n := fun i hi => by rw [Nat.zero_add]; exact cell_rowN h hi
theorem blk_at {w : World} {g : Nat} {f : Nat → Int} {t : TypeId} (h : w.heap[g]? = some (.cells (blk f) t)) : NumsAt w .u8 g 0 f 1024 := NumsAt.of (n := 1024) h
theorem size77 : (Tryz.prog.info? 85).map (·.size) = some 1024 := by kernel_rfl
theorem zero77 : ∀ w, (zeroValue 85).run Tryz.prog w = .ok (.agg (blk nought)) w := (zero_of_info (show (Tryz.prog.info? 85).map (fun i => (i.zero, i.size)) = some (some (.agg (blk nought)), 1024) by kernel_rfl)).1
theorem blk_size (f : Nat → Int) : (blk f).size = 1024 := rowN_size _ _ _
theorem loadB {w : World} {b off : Nat} {f : Nat → Int} (h : NumsAt w .u8 b off f 1024) : (Instr.loadAt 85 (.pointer (some ⟨b, off, none⟩))).run Tryz.prog w = .ok (.agg (blk f)) w := by
  have hr : w.rangeAt b off (blk f).toList := fun j v hv => by
    have hj : j < 1024 := by
      have := (List.getElem?_eq_some_iff.1 hv).1
      rw [Array.length_toList, blk_size] at this
      exact this
    rw [Array.getElem?_toList, show (blk f)[j]? = some (.int .u8 (f j)) from rowN_get _ _ _ _ hj] at hv
    injection hv with hv
    rw [← hv]
    exact h j hj
  have := run_loadAt_mid (P := Tryz.prog) w b off 85 (blk f).toList _ hr Tryz.underlying85 rfl (by rw [Array.length_toList, blk_size]; exact size77)
  rwa [Array.toArray_toList] at this
section
variable {ops : Array Oper} {rest : List Oper} {o : Oper} {a : Act} {w : World} {Q : Exit → Act → World → Prop}
theorem wpList_ldB (hw : Region.wanted o (yielded ops a.tmps) = true) (x : Operand) (ho : o.op = .load 85 x) (b off : Nat) (f : Nat → Int) (hx : a.eval x = .pointer (some ⟨b, off, none⟩)) (hg : NumsAt w .u8 b off f 1024)
    (h : wpList Tryz.prog ops Q rest (a.put o.dst (.agg (blk f))) w) : wpList Tryz.prog ops Q (o :: rest) a w := by
  unfold wpList
  rw [if_pos hw]
  refine .inl ?_
  unfold Oper.wp execOp
  simp only [ho, hx, loadB hg, Sem.run_bind, Result.andThen_ok, Sem.run_pure]
  exact h
theorem wpList_stB (hgd : o.guard = none) (x y : Operand) (ho : o.op = .store 85 x y) (g : Nat) (f f0 : Nat → Int) (t : TypeId) (hx : a.eval x = .pointer (some ⟨g, 0, none⟩)) (hy : a.eval y = .agg (blk f)) (hg : w.heap[g]? = some (.cells (blk f0) t))
    (h : wpList Tryz.prog ops Q rest (a.put o.dst undef) (w.setRow g (blk f))) : wpList Tryz.prog ops Q (o :: rest) a w :=
  wpList_stR 85 hgd x y ho g (blk f) (blk f0) t (by rw [blk_size]; exact size77) (by rw [blk_size, blk_size]) (rowN_one _ _ _) hx hy hg h
theorem wpList_stBn (hgd : o.guard = none) (x y : Operand) (ho : o.op = .store 85 x y) (g : Nat) (f f0 : Nat → Int) (t : TypeId) (hx : a.eval x = .pointer (some ⟨g, 0, none⟩)) (hgw : g = w.heap.size) (hy : a.eval y = .agg (blk f))
    (h : wpList Tryz.prog ops Q rest (a.put o.dst undef) (w.alloc (.cells (blk f) t))) : wpList Tryz.prog ops Q (o :: rest) a (w.alloc (.cells (blk f0) t)) :=
  wpList_stNew 85 hgd x y ho g (blk f) (blk f0) t (by rw [blk_size]; exact size77) (by rw [blk_size, blk_size]) (rowN_one _ _ _) hx hgw hy h
end
theorem retB {fn : Func} {p : Tmp} {R : Ending → World → Prop} {a : Act} {w : World} (h : fn.results = #[.cell p 85]) (g : Nat) (f : Nat → Int) (t : TypeId) (hp : a.tmps.getD p undef = .pointer (some ⟨g, 0, none⟩)) (hg : w.heap[g]? = some (.cells (blk f) t)) (hdf : a.defers = []) (hR : R (.returned (.agg (blk f))) w) : bodyPost Tryz.prog fn R .ret a w :=
  retR Tryz.underlying85 rfl h g (blk f) t (by rw [blk_size]; exact size77) hp hg hdf hR
end Go.Proofs.YtiejhjngcnkimaaGreatR
/- An image in memory, and the document's At and Whole of it; lists of fewer than 2 to the 62nd blocks. -/
namespace Go.Proofs.YtiejhjngcnkimaaGreatR
open Go.RowKit Go.Maps
abbrev Cel := Int × (Nat → Int)
def atL : List Cel → Int → Nat → Int
  | [], _ => nought
  | (i, x) :: t, k => if i = k then x else atL t k
def ImgAt (w : World) (p : Option Addr) (l : List Cel) : Prop := 0 < l.length → ∃ b off, p = some ⟨b, off, none⟩ ∧ b < w.heap.size ∧ ∀ (i : Nat) c, l[i]? = some c → w.cell? ⟨b, off + i * 1025, none⟩ = some (.int .i64 c.1) ∧ NumsAt w .u8 b (off + i * 1025 + 1) c.2 1024
theorem ImgAt.later {w W : World} {p : Option Addr} {l : List Cel} (h : ImgAt w p l) (hb : Below w.heap.size w W) : ImgAt W p l := fun h0 => by
  obtain ⟨b, off, h1, h2, h3⟩ := h h0
  exact ⟨b, off, h1, Nat.lt_of_lt_of_le h2 hb.size, fun i c hc => ⟨(hb.cell (p := ⟨b, off + i * 1025, none⟩) h2).trans (h3 i c hc).1, (h3 i c hc).2.later hb h2⟩⟩
theorem build77 (u : World) : (Instr.build 85 #[]).run Tryz.prog u = .ok (.agg (blk nought)) u := by
  have z := zero77
  simp [Instr.build, z, run_underlying Tryz.underlying85, Instr.fill, Value.cells, go_sem]
theorem wpList_buildB {ops : Array Oper} {rest : List Oper} {o : Oper} {a : Act} {w : World} {Q : Exit → Act → World → Prop} (hw : Region.wanted o (yielded ops a.tmps) = true) (ho : o.op = .build 85 #[])
    (h : wpList Tryz.prog ops Q rest (a.put o.dst (.agg (blk nought))) w) : wpList Tryz.prog ops Q (o :: rest) a w := by
  unfold wpList
  rw [if_pos hw]
  refine .inl ?_
  have hb := build77 w
  generalize blk nought = Z at *
  have e : (execOp a.eval o).run Tryz.prog w = .ok (.value (.agg Z)) w := by
    unfold execOp
    simp only [ho, Array.map_empty, Sem.run_bind]
    simp only [hb, Result.andThen_ok, Sem.run_pure]
  unfold Oper.wp
  rw [e]
  exact h
set_option maxRecDepth 20000 in
set_option maxHeartbeats 1000000 in
theorem at05_any (n : Int) (l : List Cel) (p : Option Addr) (cap : Nat) (k : Int) (w : World) (hl : l.length < 4611686018427387904) (h : ImgAt w p l) :
    Calls Tryz.prog 184 #[.agg #[.int .i64 n, .slice p l.length cap], .int .i64 k] w fun e w' => e = .returned (.agg (blk (atL l k))) ∧ Below w.heap.size w w' := by
  have z := zero77
  have HI : Hid (ImgAt w p l) := h
  obtain ⟨N, hN⟩ : ∃ N, l.length = N := ⟨_, rfl⟩
  have HN : Hid (l.length = N) := hN
  rw [hN] at hl ⊢
  clear h hN
  generalize hR : atL l k = R
  have HR : Hid (atL (l.drop 0) k = R) := hR
  clear hR
  have hX0 : (w.alloc (.cells #[.int .i64 n, .slice p N cap] 97)).heap[w.heap.size]? = some (.cells #[.int .i64 n, .slice p N cap] 97) := heap_alloc_new _ _
  have HB0 : Hid (Below w.heap.size w (w.alloc (.cells #[.int .i64 n, .slice p N cap] 97))) := below_new _ _
  go_enter Tryz.func184, Tryz.ntmps184
  go_wp2
  have HX : Hid (((w.alloc (.cells #[.int .i64 n, .slice p N cap] 97)).alloc (.cells (blk nought) 85)).heap[w.heap.size + 1]? = some (.cells (blk nought) 85)) := heap_two _ _ _
  have HB1 : Hid (Below w.heap.size w ((w.alloc (.cells #[.int .i64 n, .slice p N cap] 97)).alloc (.cells (blk nought) 85))) := below_next HB0.out (below_new _ _)
  have hX1 : ((w.alloc (.cells #[.int .i64 n, .slice p N cap] 97)).alloc (.cells (blk nought) 85)).heap[w.heap.size]? = some (.cells #[.int .i64 n, .slice p N cap] 97) := heap_kept hX0 (below_new _ _)
  generalize ((w.alloc (.cells #[.int .i64 n, .slice p N cap] 97)).alloc (.cells (blk nought) 85)) = V at *
  have c1 : V.cell? ⟨w.heap.size, 1, none⟩ = some (.slice p N cap) := Joins.cell_of_block hX1 1
  clear hX0 hX1 HB0
  go_loopw [5] (fun s5 wx => ∃ j : Nat, j ≤ N ∧ s5 = .int .i64 j ∧ wx = V ∧ Hid (atL (l.drop j) k = R)) (fun s5 _ => N - (intOf s5).toNat)
  case atStart => exact ⟨0, by omega, rfl, rfl, HR.out⟩
  case round =>
    clear HR
    obtain ⟨j, hj, rfl, rfl, HR⟩ := hrel
    by_cases hj2 : (j : Int) < N
    · have hnn := HN.out
      have hc : l[j]? = some l[j] := List.getElem?_eq_getElem (by omega)
      have hd : l.drop j = l[j] :: l.drop (j + 1) := List.drop_eq_getElem_cons (by omega)
      obtain ⟨b, off, rfl, hlt, hC⟩ := HI.out (by omega)
      obtain ⟨a0, a1⟩ := hC j _ hc
      generalize l[j] = c at *
      obtain ⟨y, f⟩ := c
      have q0 : wr.cell? ⟨b, off + j * 1025, none⟩ = some (.int .i64 y) := (HB1.out.cell (p := ⟨b, off + j * 1025, none⟩) hlt).trans a0
      have q1 : NumsAt wr .u8 b (off + j * 1025 + 1) f 1024 := a1.later HB1.out hlt
      have hr := HR.out
      rw [hd, atL] at hr
      clear hC a0 a1 hc hd hnn HR
      by_cases hy : y = k
      · rw [if_pos hy] at hr
        have g0 : (y == k) = true := by simp [hy]
        subst hr
        clear hy
        have hx := HX.out
        go_wp2_with (first | (with_reducible refine isLoadR 85 ?_; refine wpList_ldB rfl (.tmp 25) rfl b (off + j * 1025 + 1) f rfl q1 ?_) | (with_reducible refine isStoreR 85 ?_; refine wpList_stB rfl (.tmp 4) (.tmp 26) rfl (w.heap.size + 1) f nought 85 rfl rfl hx ?_))
        exact retB rfl (w.heap.size + 1) f 85 rfl (setRow_heap _ _ _ _ _ _ hx) rfl ⟨rfl, HB1.out.trans ((Fr.setRow wr (w.heap.size + 1) (blk f)).below (fun i hi => by omega) HB1.out.size)⟩
      · rw [if_neg hy] at hr
        have g0 : (y == k) = false := by simp [hy]
        have HR2 : Hid (atL (l.drop (j + 1)) k = R) := hr
        clear hy hr q1
        go_wp2
        exact ⟨⟨j + 1, by omega, by go_num, trivial, HR2.out⟩, by simp [intOf]; omega⟩
    · have hr := HR.out
      rw [List.drop_of_length_le (by rw [HN.out]; omega), atL] at hr
      have HR2 : Hid (nought = R) := hr
      clear hr HR
      have hx := HX.out
      go_wp2_with (first | (with_reducible refine isBuildR 85 ?_; refine wpList_buildB rfl rfl ?_) | (with_reducible refine isStoreR 85 ?_; refine wpList_stB rfl (.tmp 4) (.tmp 27) rfl (w.heap.size + 1) nought nought 85 rfl rfl hx ?_))
      exact retB rfl (w.heap.size + 1) nought 85 rfl (setRow_heap _ _ _ _ _ _ hx) rfl ⟨by rw [HR2.out], HB1.out.trans ((Fr.setRow wr (w.heap.size + 1) (blk nought)).below (fun i hi => by omega) HB1.out.size)⟩
end Go.Proofs.YtiejhjngcnkimaaGreatR
/- The document's disk of an audit in memory; its At, data, number, Up; the head has no targets. -/
namespace Go.Proofs.YtiejhjngcnkimaaGreatR
open Go.RowKit Go.Maps
structure Lay where
  b : Int
  l : Int
  i : Int
  logAt : Int
  nodeAt : Int
  nodeBlocks : Int
  bitsAt : Int
  bitsBlocks : Int
  dataAt : Int
def layRow (y : Lay) : Array Value := #[.int .i64 y.b, .int .i64 y.l, .int .i64 y.i, .int .i64 y.logAt, .int .i64 y.nodeAt, .int .i64 y.nodeBlocks, .int .i64 y.bitsAt, .int .i64 y.bitsBlocks, .int .i64 y.dataAt]
def dkRow (n : Int) (p : Option Addr) (N cap : Nat) (y : Lay) (hv : Value) : Array Value := #[.int .i64 n, .slice p N cap, .int .i64 y.b, .int .i64 y.l, .int .i64 y.i, .int .i64 y.logAt, .int .i64 y.nodeAt, .int .i64 y.nodeBlocks, .int .i64 y.bitsAt, .int .i64 y.bitsBlocks, .int .i64 y.dataAt, hv]
structure Aud (w : World) (g : Nat) (n : Int) (l : List Cel) (y : Lay) : Prop where
  row : ∃ p cap q c, w.heap[g]? = some (.cells (dkRow n p l.length cap y (.slice q 0 c)) 219) ∧ ImgAt w p l
  len : l.length < 4611686018427387904
  byt : ∀ c ∈ l, ∀ i, 0 ≤ c.2 i ∧ c.2 i ≤ 255
theorem Aud.later {w W : World} {g : Nat} {n : Int} {l : List Cel} {y : Lay} (h : Aud w g n l y) (hb : Below w.heap.size w W) : Aud W g n l y := by
  obtain ⟨⟨p, cap, q, c, h1, h2⟩, h3, h4⟩ := h
  exact ⟨⟨p, cap, q, c, heap_kept h1 hb, h2.later hb⟩, h3, h4⟩
set_option maxRecDepth 20000 in
set_option maxHeartbeats 1000000 in
theorem at29_any {w : World} {g : Nat} {n : Int} {l : List Cel} {y : Lay} (h : Aud w g n l y) (k : Int) :
    Calls Tryz.prog 197 #[.pointer (some ⟨g, 0, none⟩), .int .i64 k] w fun e w' => e = .returned (.agg (blk (atL l k))) ∧ Below w.heap.size w w' := by
  obtain ⟨⟨p, cap, q, c, hr, hi⟩, hl, _⟩ := h
  have z := zero77
  have hr1 := heap_kept hr (below_new w (.cells (blk nought) 85))
  have hc := at05_any n l p cap k _ hl (hi.later (below_new w (.cells (blk nought) 85)))
  have HX : Hid ((w.alloc (.cells (blk nought) 85)).heap[w.heap.size]? = some (.cells (blk nought) 85)) := heap_alloc_new _ _
  have HB : Hid (Below w.heap.size w (w.alloc (.cells (blk nought) 85))) := below_new _ _
  unfold dkRow at hr1
  obtain ⟨f, hf⟩ : ∃ f, atL l k = f := ⟨_, rfl⟩
  rw [hf] at hc ⊢
  clear hf
  generalize l.length = N at *
  have c0 := Joins.cell_of_block hr1 0
  have c1 := Joins.cell_of_block hr1 1
  have c11 := Joins.cell_of_block hr1 11
  clear hr hi hl hr1
  go_enter Tryz.func197, Tryz.ntmps197
  go_wp2
  go_loopw [5] (fun s5 wx => s5 = .int .i64 0 ∧ wx = w.alloc (.cells (blk nought) 85)) (fun _ _ => 0)
  case atStart => exact ⟨rfl, rfl⟩
  case round =>
    obtain ⟨rfl, rfl⟩ := hrel
    go_wp2_with (first | (go_at_call 184; fail))
    refine hc.mono ?_
    rintro e W ⟨rfl, hb⟩
    have hx := heap_kept HX.out hb
    have HB2 : Hid (Below w.heap.size w W) := below_next HB.out hb
    clear hb hc
    go_wp2_with (first | (with_reducible refine isStoreR 85 ?_; refine wpList_stB rfl (.tmp 4) (.tmp 44) rfl w.heap.size f nought 85 rfl rfl hx ?_))
    exact retB rfl w.heap.size f 85 rfl (setRow_heap _ _ _ _ _ _ hx) rfl ⟨rfl, HB2.out.trans ((Fr.setRow W w.heap.size (blk f)).below (fun i hi => by omega) HB2.out.size)⟩
def dataB (y : Lay) (b : Int) : Bool := decide (y.dataAt ≤ b) && decide (b < y.b)
set_option maxHeartbeats 400000 in
theorem data29_any {w : World} {g : Nat} {n : Int} {l : List Cel} {y : Lay} (h : Aud w g n l y) (k : Int) :
    Calls Tryz.prog 236 #[.pointer (some ⟨g, 0, none⟩), .int .i64 k] w fun e w' => e = .returned (.bool (dataB y k)) ∧ w' = w := by
  obtain ⟨⟨p, cap, q, c, hr, hi⟩, hl, _⟩ := h
  unfold dkRow at hr
  have c2 := Joins.cell_of_block hr 2
  have c10 := Joins.cell_of_block hr 10
  clear hr hi hl
  unfold dataB
  by_cases h1 : y.dataAt ≤ k
  · have g1 : decide (y.dataAt ≤ k) = true := decide_eq_true h1
    rw [g1]
    go_enter Tryz.func236, Tryz.ntmps236
    go_wp2
    go_ret
    exact ⟨by simp, rfl⟩
  · have g1 : decide (y.dataAt ≤ k) = false := decide_eq_false h1
    rw [g1]
    go_enter Tryz.func236, Tryz.ntmps236
    go_wp2
    go_ret
    exact ⟨rfl, rfl⟩
def le4 (f : Nat → Int) (i : Nat) : Int := f (4 * i) + 256 * (f (4 * i + 1) + 256 * (f (4 * i + 2) + 256 * f (4 * i + 3)))
def Byt (f : Nat → Int) : Prop := ∀ i, 0 ≤ f i ∧ f i ≤ 255
theorem atL_byt : ∀ {l : List Cel}, (∀ c ∈ l, ∀ i, 0 ≤ c.2 i ∧ c.2 i ≤ 255) → ∀ k, Byt (atL l k)
  | [], _, _ => fun _ => by show (0 : Int) ≤ 0 ∧ (0 : Int) ≤ 255; omega
  | (i, x) :: t, h, k => by
    unfold atL
    split
    · exact h (i, x) (by simp)
    · exact atL_byt (fun c hc => h c (by simp [hc])) k
theorem Aud.blk {w : World} {g : Nat} {n : Int} {l : List Cel} {y : Lay} (h : Aud w g n l y) (k : Int) : Byt (atL l k) := atL_byt h.byt k
theorem le4_bound {f : Nat → Int} (hf : Byt f) (i : Nat) : 0 ≤ le4 f i ∧ le4 f i < 4294967296 := by
  have h0 := hf (4 * i)
  have h1 := hf (4 * i + 1)
  have h2 := hf (4 * i + 2)
  have h3 := hf (4 * i + 3)
  unfold le4
  omega
set_option maxRecDepth 20000 in
set_option maxHeartbeats 400000 in
theorem number29_any (f : Nat → Int) (i : Nat) (w : World) (hf : Byt f) (hi : i < 256) :
    Calls Tryz.prog 245 #[.agg (blk f), .int .i64 (i : Int)] w fun e w' => e = .returned (.int .i64 (le4 f i)) ∧ Below w.heap.size w w' := by
  have HX : Hid ((w.alloc (.cells (blk f) 85)).heap[w.heap.size]? = some (.cells (blk f) 85)) := heap_alloc_new _ _
  have HB : Hid (Below w.heap.size w (w.alloc (.cells (blk f) 85))) := below_new _ _
  have e0 : IntKind.i64.wrap (4 * (i : Int)) = 4 * (i : Int) := by rw [IntKind.wrap_i64]; omega
  have h0 := hf (4 * i)
  have h1 := hf (4 * i + 1)
  have h2 := hf (4 * i + 2)
  have h3 := hf (4 * i + 3)
  have HL : Hid (le4 f i = f (4 * i) + 256 * (f (4 * i + 1) + 256 * (f (4 * i + 2) + 256 * f (4 * i + 3)))) := rfl
  generalize le4 f i = R at *
  go_enter Tryz.func245, Tryz.ntmps245
  go_wp2
  generalize w.alloc (.cells (blk f) 85) = V at *
  have b0 := cell_rowN (i := 4 * i) HX.out (by omega)
  have b1 := cell_rowN (i := 4 * i + 1) HX.out (by omega)
  have b2 := cell_rowN (i := 4 * i + 2) HX.out (by omega)
  have b3 := cell_rowN (i := 4 * i + 3) HX.out (by omega)
  generalize f (4 * i) = f0 at *
  generalize f (4 * i + 1) = f1 at *
  generalize f (4 * i + 2) = f2 at *
  generalize f (4 * i + 3) = f3 at *
  go_loopw [5, 6] (fun s5 s6 wx => wx = V ∧ ((s6 = .int .i64 3 ∧ s5 = .int .i64 0) ∨ (s6 = .int .i64 2 ∧ s5 = .int .i64 f3) ∨ (s6 = .int .i64 1 ∧ s5 = .int .i64 (256 * f3 + f2)) ∨ (s6 = .int .i64 0 ∧ s5 = .int .i64 (256 * (256 * f3 + f2) + f1)) ∨ (s6 = .int .i64 (-1) ∧ s5 = .int .i64 R))) (fun _ s6 _ => (intOf s6 + 1).toNat)
  case atStart => exact ⟨rfl, .inl ⟨rfl, rfl⟩⟩
  case round =>
    obtain ⟨rfl, hcs⟩ := hrel
    have e1 : IntKind.i64.wrap (256 * f3) = 256 * f3 := by rw [IntKind.wrap_i64]; omega
    have e2 : IntKind.i64.wrap (256 * f3 + f2) = 256 * f3 + f2 := by rw [IntKind.wrap_i64]; omega
    have e3 : IntKind.i64.wrap (256 * (256 * f3 + f2)) = 256 * (256 * f3 + f2) := by rw [IntKind.wrap_i64]; omega
    have e4 : IntKind.i64.wrap (256 * (256 * f3 + f2) + f1) = 256 * (256 * f3 + f2) + f1 := by rw [IntKind.wrap_i64]; omega
    have e5 : IntKind.i64.wrap (256 * (256 * (256 * f3 + f2) + f1)) = 256 * (256 * (256 * f3 + f2) + f1) := by rw [IntKind.wrap_i64]; omega
    have e6 : IntKind.i64.wrap (256 * (256 * (256 * f3 + f2) + f1) + f0) = R := by have := HL.out; rw [IntKind.wrap_i64, this]; omega
    rcases hcs with ⟨rfl, rfl⟩ | ⟨rfl, rfl⟩ | ⟨rfl, rfl⟩ | ⟨rfl, rfl⟩ | ⟨rfl, rfl⟩
    · go_wp2
      exact ⟨⟨trivial, .inr (.inl ⟨rfl, rfl⟩)⟩, by simp only [intOf]; omega⟩
    · go_wp2
      exact ⟨⟨trivial, .inr (.inr (.inl ⟨rfl, rfl⟩))⟩, by simp only [intOf]; omega⟩
    · go_wp2
      exact ⟨⟨trivial, .inr (.inr (.inr (.inl ⟨rfl, rfl⟩)))⟩, by simp only [intOf]; omega⟩
    · go_wp2
      exact ⟨⟨trivial, .inr (.inr (.inr (.inr ⟨rfl, rfl⟩)))⟩, by simp only [intOf]; omega⟩
    · go_wp2
      go_ret
      exact ⟨rfl, HB.out⟩
set_option maxHeartbeats 400000 in
theorem up29_any (n : Int) (w : World) (hn : 0 ≤ n ∧ n ≤ 4294967296) : Calls Tryz.prog 260 #[.int .i64 n] w fun e w' => e = .returned (.int .i64 ((n + 1023) / 1024)) ∧ w' = w := by
  have e1 : IntKind.i64.wrap (n + 1024) = n + 1024 := by rw [IntKind.wrap_i64]; omega
  have e2 : IntKind.i64.wrap (n + 1024 - 1) = n + 1023 := by rw [IntKind.wrap_i64]; omega
  have e3 : (n + 1023).tdiv 1024 = (n + 1023) / 1024 := Int.tdiv_eq_ediv_of_nonneg (by omega)
  have e4 : IntKind.i64.wrap ((n + 1023) / 1024) = (n + 1023) / 1024 := by rw [IntKind.wrap_i64]; omega
  go_enter Tryz.func260, Tryz.ntmps260
  go_wp2
  go_ret
  exact ⟨rfl, rfl⟩
end Go.Proofs.YtiejhjngcnkimaaGreatR
/- Lists of anything that a call makes: gone on with one by one, looked at; lists of at most ten million. -/
namespace Go.Proofs.YtiejhjngcnkimaaGreatR
open Go.RowKit Go.Maps
theorem own_pushF {α : Type} {en : α → List Value} {sz e : Nat} {st : TypeId} {i : TypeInfo} {z : Value} {bytes : Nat} (hr : ∀ x, (en x).length = sz) (h1 : ∀ x, ∀ u ∈ en x, u.oneCell' = true) (ht : Tryz.prog.underlying st = some (.slice e)) (hi : Tryz.prog.info? e = some i) (hz : i.zero = some z) (hsize : i.size = sz) (hby : i.bytes = bytes) (hzs : z.cells.size = sz) (hsz : 0 < sz) (hbb : bytes ≤ 2000)
    {B : Nat} {w : World} {v : Value} {l : List α} (h : w.ownsRow B e sz v l.length (l.flatMap en)) (hB : B ≤ w.heap.size) (hn : l.length ≤ 10000000) (x : α) (ty : TypeId) :
    ∃ v' w', (Builtin.append_ #[st, st] ty #[v, .slice (some ⟨w.heap.size, 0, none⟩) 1 1]).run Tryz.prog (w.alloc (.cells (en x).toArray e)) = .ok v' w' ∧ w'.ownsRow B e sz v' (l ++ [x]).length ((l ++ [x]).flatMap en) ∧ Below B w w' ∧ Fr (fun b => v.ownBlock = some b) w w' := by
  have hnews : ∀ j v, (en x)[j]? = some v → (w.alloc (.cells (en x).toArray e)).cell? ((⟨w.heap.size, 0, none⟩ : Addr).add j) = some v := fun j v hv => by
    rw [Go.WideShapes.add_plain, Nat.zero_add, cell_of_row _ _ j _ e _ (heap_alloc_new w _), List.getElem?_toArray]
    exact hv
  have hbt : ((l.length + 1) + (l.length + 1) / 4 + 192) * bytes ≤ 281474976710656 := by
    have : ((l.length + 1) + (l.length + 1) / 4 + 192) * bytes ≤ 12500194 * 2000 := Nat.mul_le_mul (by omega) hbb
    omega
  obtain ⟨v', w', hrun, ho', hf, _⟩ := append_gen (W := w.alloc (.cells (en x).toArray e)) (v := v) ht hi hz hsize hby hzs hsz (World.ownsRow.alloc h (.cells (en x).toArray e)) (ad := ⟨w.heap.size, 0, none⟩) (m := 1) (c := 1) (news := en x) (by omega) (by rw [hr, Nat.one_mul]) hnews (h1 x) (by unfold maxLen; omega) hbt (by simp only [World.alloc, Array.size_push]; omega) ty
  have hF : Fr (fun b => v.ownBlock = some b) w w' := (Fr.alloc _ w (.cells (en x).toArray e)).trans hf fun _ _ q => q
  refine ⟨v', w', hrun, ?_, hF.below (fun j q => (h.lt j q).1) hB, hF⟩
  rw [List.length_append, List.flatMap_append]
  simpa using ho'
theorem rows_apart {W : World} {B B' e e' sz sz' n n' b : Nat} {x v : Value} {xs ys : List Value} (hne : e' ≠ e) (hx : W.ownsRow B e sz x n xs) (hb : x.ownBlock = some b) (hv : W.ownsRow B' e' sz' v n' ys) : v.ownBlock ≠ some b := fun q => by
  obtain ⟨_, hx⟩ := hx
  obtain ⟨_, hv⟩ := hv
  rcases hx with ⟨rfl, _⟩ | ⟨g1, c1, r1, rfl, _, hg1, _⟩
  · cases hb
  · rcases hv with ⟨rfl, _⟩ | ⟨g2, c2, r2, rfl, _, hg2, _⟩
    · cases q
    · injection hb with hb
      injection q with q
      have e1 : g1 = g2 := by rw [show g1 = b from hb, show g2 = b from q]
      subst e1
      rw [hg1] at hg2
      injection hg2 with hg2
      injection hg2 with _ hg2
      exact hne hg2.symm
theorem own_ne {W : World} {B e sz n g t : Nat} {v : Value} {xs : List Value} {Z : Array Value} (h : W.ownsRow B e sz v n xs) (hg : W.heap[g]? = some (.cells Z t)) (hne : e ≠ t) : v.ownBlock ≠ some g := fun q => by
  obtain ⟨_, h⟩ := h
  rcases h with ⟨rfl, _⟩ | ⟨g1, c1, r1, rfl, _, hg1, _⟩
  · cases q
  · injection q with q
    have q' : g1 = g := q
    subst q'
    rw [hg1] at hg
    injection hg with hg
    injection hg with _ hg
    exact hne hg
theorem wpList_app {ops : Array Oper} {rest : List Oper} {o : Oper} {a : Act} {W W' : World} {v v' : Value} {ad : Addr} {m c : Nat} {st : TypeId} {Q : Exit → Act → World → Prop} (hgd : o.guard = none) (s y : Operand)
    (ho : o.op = .call { callee := .builtin .append, args := #[s, y], argTypes := #[st, st] }) (hs : a.eval s = v) (hx : a.eval y = .slice (some ad) m c)
    (hr : (Builtin.append_ #[st, st] o.type #[v, .slice (some ad) m c]).run Tryz.prog W = .ok v' W') (h : wpList Tryz.prog ops Q rest (a.put o.dst v') W') : wpList Tryz.prog ops Q (o :: rest) a W :=
  wpList_plain hgd fun _ hK => by
    unfold Oper.wp
    rw [exec_push ho hs hx hr]
    exact hK _ _ h
def OwnG {α : Type} (en : α → List Value) (e sz : Nat) (w : World) (B : Nat) (v : Value) (l : List α) : Prop := w.ownsRow B e sz v l.length (l.flatMap en)
def LieG {α : Type} (en : α → List Value) (sz : Nat) (w : World) (p : Option Addr) (l : List α) : Prop := 0 < l.length → ∃ g, p = some ⟨g, 0, none⟩ ∧ g < w.heap.size ∧ ∀ (i : Nat) x, l[i]? = some x → ∀ j u, (en x)[j]? = some u → w.cell? ⟨g, i * sz + j, none⟩ = some u
section
variable {α : Type} {en : α → List Value} {e sz : Nat}
theorem OwnG.nil (w : World) (B : Nat) : OwnG en e sz w B (.slice none 0 0) ([] : List α) := World.ownsRow_nil w B e sz
theorem OwnG.later {w W : World} {B : Nat} {v : Value} {l : List α} (h : OwnG en e sz w B v l) (hb : Below w.heap.size w W) : OwnG en e sz W B v l := own_later h hb
theorem OwnG.mono {w : World} {B B' : Nat} {v : Value} {l : List α} (h : OwnG en e sz w B v l) (hb : B' ≤ B) : OwnG en e sz w B' v l := World.ownsRow.mono h hb
theorem OwnG.lie (hr : ∀ x, (en x).length = sz) {w : World} {B : Nat} {v : Value} {l : List α} (h : OwnG en e sz w B v l) : ∃ p c, v = .slice p l.length c ∧ LieG en sz w p l := by
  rcases own_form h with ⟨rfl, h0⟩ | ⟨g, c, rfl, hlt⟩
  · exact ⟨none, 0, by rw [h0], fun q => by omega⟩
  · exact ⟨_, c, rfl, fun _ => ⟨g, rfl, hlt, fun i x hx => own_get hr h hx⟩⟩
theorem LieG.later {w W : World} {p : Option Addr} {l : List α} (h : LieG en sz w p l) (hb : Below w.heap.size w W) : LieG en sz W p l := fun h0 => by
  obtain ⟨g, h1, h2, h3⟩ := h h0
  exact ⟨g, h1, Nat.lt_of_lt_of_le h2 hb.size, fun i x hx j u hu => (hb.cell (p := ⟨g, i * sz + j, none⟩) h2).trans (h3 i x hx j u hu)⟩
end
def pc2 (p : Int × Int) : List Value := [.int .i64 p.1, .int .i64 p.2]
theorem pc2_len (p : Int × Int) : (pc2 p).length = 2 := rfl
theorem pc2_one (p : Int × Int) : ∀ u ∈ pc2 p, u.oneCell' = true := fun u hu => by
  simp [pc2] at hu
  rcases hu with rfl | rfl <;> rfl
end Go.Proofs.YtiejhjngcnkimaaGreatR
/- The numbers of an index block that are not 0, and what an index is mapped to; no condition. -/
namespace Go.Proofs.YtiejhjngcnkimaaGreatR
open Go.RowKit Go.Maps
abbrev OwnS (w : World) (B : Nat) (v : Value) (l : List (Int × Int)) : Prop := OwnG pc2 283 2 w B v l
theorem infoS : (Tryz.prog.info? 283).map (fun i => (i.zero, i.size, i.bytes)) = some (some (.agg #[.int .i64 0, .int .i64 0]), 2, 16) := by kernel_rfl
theorem OwnS.push {w : World} {B : Nat} {v : Value} {l : List (Int × Int)} (h : OwnS w B v l) (hB : B ≤ w.heap.size) (hn : l.length ≤ 10000000) (x y : Int) (ty : TypeId) :
    ∃ v' w', (Builtin.append_ #[221, 221] ty #[v, .slice (some ⟨w.heap.size, 0, none⟩) 1 1]).run Tryz.prog (w.alloc (.cells #[.int .i64 x, .int .i64 y] 283)) = .ok v' w' ∧ OwnS w' B v' (l ++ [(x, y)]) ∧ Below B w w' := by
  obtain ⟨i0, hi0, hz0, hz1, hz2⟩ := info_parts infoS
  obtain ⟨v', w', h1, h2, h3, _⟩ := own_pushF pc2_len pc2_one Tryz.underlying221 hi0 hz0 hz1 hz2 rfl (by omega) (by omega) h hB hn (x, y) ty
  exact ⟨v', w', h1, h2, h3⟩
def underK (f : Nat → Int) (first : Int) (k : Nat) : List (Int × Int) := (List.range k).filterMap fun i => if le4 f i = 0 then none else some (first + i, le4 f i)
def underP (f : Nat → Int) (first : Int) : List (Int × Int) := underK f first 256
theorem underK_len (f : Nat → Int) (first : Int) (k : Nat) : (underK f first k).length ≤ k := by
  unfold underK
  have := List.length_filterMap_le (fun (i : Nat) => if le4 f i = 0 then none else some (first + (i : Int), le4 f i)) (List.range k)
  rwa [List.length_range] at this
theorem underK_zero {f : Nat → Int} {first : Int} {k : Nat} (h : le4 f k = 0) : underK f first (k + 1) = underK f first k := by
  unfold underK
  rw [List.range_succ, List.filterMap_append]
  simp [h]
theorem underK_some {f : Nat → Int} {first : Int} {k : Nat} (h : ¬ le4 f k = 0) : underK f first (k + 1) = underK f first k ++ [(first + (k : Int), le4 f k)] := by
  unfold underK
  rw [List.range_succ, List.filterMap_append]
  simp [h]
set_option maxRecDepth 20000 in
set_option maxHeartbeats 1000000 in
theorem under29_any {w : World} {g : Nat} {n : Int} {l : List Cel} {y : Lay} (h : Aud w g n l y) (b first : Int) (hf : 0 ≤ first ∧ first ≤ 1000000) :
    Calls Tryz.prog 244 #[.pointer (some ⟨g, 0, none⟩), .int .i64 b, .int .i64 first] w fun e w' => ∃ v, e = .returned v ∧ OwnS w' w.heap.size v (underP (atL l b) first) ∧ Below w.heap.size w w' := by
  have z := zero77
  have hc := at29_any h b
  have hbt := h.blk b
  generalize atL l b = f at *
  clear h
  go_enter Tryz.func244, Tryz.ntmps244
  go_wp2_with (first | (go_at_call 197; fail))
  refine hc.mono ?_
  rintro e W1 ⟨rfl, hb1⟩
  have HX : Hid ((W1.alloc (.cells (blk f) 85)).heap[W1.heap.size]? = some (.cells (blk f) 85)) := heap_alloc_new _ _
  have HB : Hid (Below w.heap.size w (W1.alloc (.cells (blk f) 85))) := below_next hb1 (below_new _ _)
  have hs1 := hb1.size
  clear hb1 hc
  go_wp2_with (first | (with_reducible refine isStoreR 85 ?_; refine wpList_stBn rfl (.tmp 8) (.tmp 13) rfl W1.heap.size f nought 85 rfl rfl rfl ?_))
  generalize W1.alloc (.cells (blk f) 85) = V at *
  go_loopw [7, 9] (fun s7 s9 wx => ∃ k : Nat, k ≤ 256 ∧ s9 = .int .i64 k ∧ Hid (OwnS wx V.heap.size s7 (underK f first k)) ∧ Hid (Below V.heap.size V wx)) (fun _ s9 _ => 256 - (intOf s9).toNat)
  case atStart => exact ⟨0, by omega, rfl, OwnG.nil _ _, Below.refl _ _⟩
  case round =>
    obtain ⟨k, hk, rfl, HO, HW⟩ := hrel
    by_cases hk2 : (k : Int) < 256
    · have hx := heap_kept HX.out HW.out
      have hx0 := blk_at hx
      have hnb := number29_any f k wr hbt (by omega)
      have hlb := le4_bound hbt k
      go_wp2_with (first | (with_reducible refine isLoadR 85 ?_; refine wpList_ldB rfl (.tmp 8) rfl W1.heap.size 0 f rfl hx0 ?_) | (go_at_call 245; fail))
      refine hnb.mono ?_
      rintro e W2 ⟨rfl, hb2⟩
      have HW2 : Hid (Below V.heap.size V W2) := below_next HW.out hb2
      have HO2 : Hid (OwnS W2 V.heap.size u7 (underK f first k)) := HO.out.later hb2
      by_cases hz : le4 f k = 0
      · have HE : Hid (underK f first (k + 1) = underK f first k) := underK_zero hz
        rw [hz]
        clear hz hb2 hx hx0 hnb hlb HO HW
        go_wp2
        exact ⟨⟨k + 1, by omega, by go_num, by have := HE.out; rw [this]; exact HO2.out, HW2.out⟩, by simp [intOf]; omega⟩
      · have HE : Hid (underK f first (k + 1) = underK f first k ++ [(first + (k : Int), le4 f k)]) := underK_some hz
        obtain ⟨v', W3, R1, ho3, hb3⟩ := HO2.out.push HW2.out.size (by have := underK_len f first k; omega) (first + (k : Int)) (le4 f k) 221
        have HO3 : Hid (OwnS W3 V.heap.size v' (underK f first (k + 1))) := by have := HE.out; rw [this]; exact ho3
        have HW3 : Hid (Below V.heap.size V W3) := HW2.out.trans hb3
        have e1 : IntKind.i64.wrap (first + (k : Int)) = first + (k : Int) := by rw [IntKind.wrap_i64]; omega
        have gz : (le4 f k == 0) = false := by simp [hz]
        generalize le4 f k = m at *
        clear hz hb2 hx hx0 hnb hlb HO HW ho3 hb3 HO2 HW2 HE
        go_wp2_with (first | (at_builtin; refine wpList_app rfl (.tmp 23) (.tmp 29) rfl rfl rfl R1 ?_))
        exact ⟨⟨k + 1, by omega, by go_num, HO3.out, HW3.out⟩, by simp [intOf]; omega⟩
    · obtain rfl : k = 256 := by omega
      have hs := HB.out.size
      have HO2 : Hid (OwnS wr w.heap.size u7 (underP f first)) := HO.out.mono hs
      have HW2 : Hid (Below w.heap.size w wr) := below_next HB.out HW.out
      clear HO HW hs
      go_wp2
      go_ret
      exact ⟨_, rfl, HO2.out, HW2.out⟩
end Go.Proofs.YtiejhjngcnkimaaGreatR
/- Regions whose order is drawn, walked in an order or a tree of orders that is told; no condition. -/
namespace Go.Proofs.YtiejhjngcnkimaaGreatR
open Go.RowKit
section
variable {P : Program} {ops : Array Oper} {Q : Exit → Act → World → Prop} {S : World → Prop}
def ordB (ops : Array Oper) : List (Nat × Bool) → Array Bool → Bool
  | [], listed => (Region.ready .any ops listed).isEmpty
  | (i, true) :: r, listed => (Region.ready .any ops listed).contains i && Region.free .any ops listed i && (ops[i]?).isSome && ordB ops r (listed.setIfInBounds i true)
  | (i, false) :: r, listed => (Region.ready .any ops listed == [i]) && (ops[i]?).isSome && ordB ops r (listed.setIfInBounds i true)
def inOrd (ol : List Oper) : List (Nat × Bool) → List (Bool × Oper)
  | [] => []
  | (i, b) :: r => match ol[i]? with
    | some o => (b, o) :: inOrd ol r
    | none => inOrd ol r
def wpOrd (P : Program) (ops : Array Oper) (Q : Exit → Act → World → Prop) (S : World → Prop) : List (Bool × Oper) → Act → World → Prop
  | [], a, w => Q .normal a w
  | (true, o) :: r, a, w => ∃ v, YieldsIf P ops S o v a ∧ wpOrd P ops Q S r (a.put o.dst v) w
  | (false, o) :: r, a, w => if Region.wanted o (yielded ops a.tmps) then o.wp P a w (fun a' w' => S w' ∧ wpOrd P ops Q S r a' w') Q else S w ∧ wpOrd P ops Q S r (a.put o.dst undef) w
theorem wpOrd_any {ol : List Oper} (hs : Region.noSelect ol.toArray = true) (hQ : ∀ d v c a w, Q (.panic c) (a.put d v) w → Q (.panic c) a w) : ∀ (l : List (Nat × Bool)) (listed : Array Bool) (a : Act) (w : World), S w →
    ordB ol.toArray l listed = true → wpOrd P ol.toArray Q S (inOrd ol l) a w → wpAnyH P .any ol.toArray Q S l.length listed a w
  | [], listed, a, w, _, hB, h => wpAnyH_done (by simpa [ordB] using hB) h _
  | (i, true) :: r, listed, a, w, hS, hB, h => by
    simp only [ordB, Bool.and_eq_true] at hB
    obtain ⟨⟨⟨h1, h2⟩, h3⟩, h4⟩ := hB
    obtain ⟨o, hi⟩ := Option.isSome_iff_exists.1 h3
    have hi' : ol[i]? = some o := by simpa using hi
    simp only [inOrd, hi', wpOrd] at h
    obtain ⟨v, hy, hr⟩ := h
    exact wpAnyH_take hi hs h2 h1 (fun c a w => hQ _ _ c a w) hy hS (wpOrd_any hs hQ r _ _ w hS h4 hr)
  | (i, false) :: r, listed, a, w, hS, hB, h => by
    simp only [ordB, Bool.and_eq_true, beq_iff_eq] at hB
    obtain ⟨⟨h1, h3⟩, h2⟩ := hB
    obtain ⟨o, hi⟩ := Option.isSome_iff_exists.1 h3
    have hi' : ol[i]? = some o := by simpa using hi
    simp only [inOrd, hi', wpOrd] at h
    refine wpAnyH_all h1 (by simp) fun j hj => ?_
    obtain rfl : j = i := by simpa using hj
    unfold wpOp
    rw [hi]
    simp only
    split
    · rename_i hw
      rw [if_pos hw] at h
      exact .inl (Oper.wp_mono (fun a' w' h' => ⟨h'.1, wpOrd_any hs hQ r _ a' w' h'.1 h2 h'.2⟩) h)
    · rename_i hw
      rw [if_neg hw] at h
      exact ⟨h.1, wpOrd_any hs hQ r _ _ w h.1 h2 h.2⟩
theorem wp_region_ord {id : Nat} {a : Act} {w : World} {ol : List Oper} (l : List (Nat × Bool)) (hm : P.follows .mixedOrders = true) (hl : l.length = ol.length)
    (hB : (Region.noSelect ol.toArray && ordB ol.toArray l (Array.replicate ol.toArray.size false)) = true) (hQ : ∀ d v c a w, Q (.panic c) (a.put d v) w → Q (.panic c) a w)
    (hS : S w.drew) (h : wpOrd P ol.toArray Q S (inOrd ol l) a w.drew) : (Code.region id ol.toArray true).wp P Q a w := by
  simp only [Bool.and_eq_true] at hB
  have h1 := wpOrd_any hB.1 hQ l _ a w.drew hS hB.2 h
  rw [hl] at h1
  exact wp_region_held hm (by simpa using h1)
theorem wpOrd_nil {a : Act} {w : World} (h : Q .normal a w) : wpOrd P ops Q S [] a w := h
theorem wpOrd_yield {r : List (Bool × Oper)} {a : Act} {w : World} {o : Oper} {v : Value} (hw : Region.wanted o (yielded ops a.tmps) = true)
    (hr : ∀ u, S u → (execOp a.eval o).run P u = .ok (.value v) u) (h : wpOrd P ops Q S r (a.put o.dst v) w) : wpOrd P ops Q S ((true, o) :: r) a w :=
  ⟨v, .inl ⟨hw, hr⟩, h⟩
theorem wpOrd_call {r : List (Bool × Oper)} {a : Act} {w : World} {o : Oper} (hw : Region.wanted o (yielded ops a.tmps) = true) (f : FuncId) (xs : List Operand) (ts : Array TypeId)
    (ho : o.op = .call { callee := .value (.func f), args := xs.toArray, argTypes := ts }) (hc : ∀ args u, (callFunc f args).run P u = .ok (.enter f args) u) (args : List Value) (hx : xs.map a.eval = args)
    (h : Calls P f args.toArray w fun e w' => ∃ v, e = .returned v ∧ S w' ∧ wpOrd P ops Q S r (a.put o.dst v) w') : wpOrd P ops Q S ((false, o) :: r) a w := by
  simp only [wpOrd, hw, if_true]
  unfold Oper.wp execOp
  have e : (do let d ← resolve a.eval { callee := .value (.func f), args := xs.toArray, argTypes := ts } o.type; invoke d.target d.args : Sem Next).run P w = .ok (.enter f args.toArray) w := by
    have hx' : xs.toArray.map a.eval = args.toArray := by rw [← hx]; simp
    simp only [resolve, hx']
    simp [Act.eval, Deferred.ofValue, invoke, hc]
  simp only [ho]
  rw [e]
  unfold Oper.upon
  exact h.mono fun e w' ⟨v, he, h1, h2⟩ => by subst he; exact ⟨h1, h2⟩
end
section
variable {P : Program} {ops : Array Oper} {Q : Exit → Act → World → Prop} {S : World → Prop}
def wpAct (P : Program) (ops : Array Oper) (Q : Exit → Act → World → Prop) (S : World → Prop) (o : Oper) (K : Act → World → Prop) (a : Act) (w : World) : Prop :=
  if Region.wanted o (yielded ops a.tmps) then o.wp P a w (fun a' w' => S w' ∧ K a' w') Q else S w ∧ K (a.put o.dst undef) w
theorem wpOp_act {i : Nat} {o : Oper} (hi : ops[i]? = some o) {K K' : Act → World → Prop} (hK : ∀ a w, S w → K a w → K' a w) {a : Act} {w : World} (h : wpAct P ops Q S o K a w) : wpOp P ops Q i (fun a' w' => S w' ∧ K' a' w') a w := by
  unfold wpOp
  rw [hi]
  simp only
  unfold wpAct at h
  split
  · rename_i hw
    rw [if_pos hw] at h
    exact .inl (Oper.wp_mono (fun a' w' h' => ⟨h'.1, hK a' w' h'.1 h'.2⟩) h)
  · rename_i hw
    rw [if_neg hw] at h
    exact ⟨h.1, hK _ w h.1 h.2⟩
end
def OT : Nat → Type
  | 0 => Unit
  | n + 1 => Sum (Nat × OT n) (List (Nat × OT n))
def finT : OT 0 := ()
def rdT {n : Nat} (i : Nat) (r : OT n) : OT (n + 1) := Sum.inl (i, r)
def altT {n : Nat} (l : List (Nat × OT n)) : OT (n + 1) := Sum.inr l
section
variable {P : Program} {Q : Exit → Act → World → Prop} {S : World → Prop}
def okT (ops : Array Oper) : (n : Nat) → OT n → Array Bool → Bool
  | 0, _, L => (Region.ready .any ops L).isEmpty
  | n + 1, .inl (i, r), L => (Region.ready .any ops L).contains i && Region.free .any ops L i && (ops[i]?).isSome && okT ops n r (L.setIfInBounds i true)
  | n + 1, .inr l, L => (Region.ready .any ops L == l.map (·.1)) && !l.isEmpty && l.all fun p => (ops[p.1]?).isSome && okT ops n p.2 (L.setIfInBounds p.1 true)
def wpT (P : Program) (ops : Array Oper) (Q : Exit → Act → World → Prop) (S : World → Prop) (ol : List Oper) : (n : Nat) → OT n → Act → World → Prop
  | 0, _, a, w => Q .normal a w
  | n + 1, .inl (i, r), a, w => ∀ o, ol[i]? = some o → ∃ v, YieldsIf P ops S o v a ∧ wpT P ops Q S ol n r (a.put o.dst v) w
  | n + 1, .inr l, a, w => ∀ p ∈ l, ∀ o, ol[p.1]? = some o → wpAct P ops Q S o (wpT P ops Q S ol n p.2) a w
theorem wpT_any {ol : List Oper} (hs : Region.noSelect ol.toArray = true) (hQ : ∀ d v c a w, Q (.panic c) (a.put d v) w → Q (.panic c) a w) : ∀ (n : Nat) (t : OT n) (L : Array Bool) (a : Act) (w : World), S w →
    okT ol.toArray n t L = true → wpT P ol.toArray Q S ol n t a w → wpAnyH P .any ol.toArray Q S n L a w
  | 0, _, L, a, w, _, hB, h => wpAnyH_done (by simpa [okT] using hB) h _
  | n + 1, .inl (i, r), L, a, w, hS, hB, h => by
    simp only [okT, Bool.and_eq_true] at hB
    obtain ⟨⟨⟨h1, h2⟩, h3⟩, h4⟩ := hB
    obtain ⟨o, hi⟩ := Option.isSome_iff_exists.1 h3
    have hi' : ol[i]? = some o := by simpa using hi
    obtain ⟨v, hy, hr⟩ := h o hi'
    exact wpAnyH_take hi hs h2 h1 (fun c a w => hQ _ _ c a w) hy hS (wpT_any hs hQ n r _ _ w hS h4 hr)
  | n + 1, .inr l, L, a, w, hS, hB, h => by
    simp only [okT, Bool.and_eq_true, beq_iff_eq, List.all_eq_true, Bool.not_eq_true', List.isEmpty_eq_false_iff] at hB
    obtain ⟨⟨h1, hl⟩, h2⟩ := hB
    refine wpAnyH_all h1 (by simpa using hl) fun j hj => ?_
    obtain ⟨p, hp, rfl⟩ := List.mem_map.1 hj
    obtain ⟨h3, h4⟩ := h2 p hp
    obtain ⟨o, hi⟩ := Option.isSome_iff_exists.1 h3
    have hi' : ol[p.1]? = some o := by simpa using hi
    exact wpOp_act hi (fun a' w' hS' hK => wpT_any hs hQ n p.2 _ a' w' hS' h4 hK) (h p hp o hi')
theorem wp_region_tree {id : Nat} {a : Act} {w : World} {ol : List Oper} {n : Nat} (t : OT n) (hm : P.follows .mixedOrders = true) (hn : n = ol.length)
    (hB : (Region.noSelect ol.toArray && okT ol.toArray n t (Array.replicate ol.toArray.size false)) = true) (hQ : ∀ d v c a w, Q (.panic c) (a.put d v) w → Q (.panic c) a w)
    (hS : S w.drew) (h : wpT P ol.toArray Q S ol n t a w.drew) : (Code.region id ol.toArray true).wp P Q a w := by
  simp only [Bool.and_eq_true] at hB
  have h1 := wpT_any hB.1 hQ n t _ a w.drew hS hB.2 h
  rw [hn] at h1
  exact wp_region_held hm (by simpa using h1)
section
variable {ops : Array Oper} {ol : List Oper} {i n : Nat} {r : OT n} {more : List (Nat × OT n)} {a : Act} {w w' : World} {o : Oper} {v : Value}
theorem wpT_fin (h : Q .normal a w) : wpT P ops Q S ol 0 finT a w := h
theorem wpT_stop : wpT P ops Q S ol (n + 1) (altT []) a w := by
  intro p hp
  cases hp
theorem wpT_cons (h : ∀ o, ol[i]? = some o → wpAct P ops Q S o (wpT P ops Q S ol n r) a w) (hm : wpT P ops Q S ol (n + 1) (altT more) a w) : wpT P ops Q S ol (n + 1) (altT ((i, r) :: more)) a w := by
  intro p hp
  rcases List.mem_cons.1 hp with rfl | hp
  · exact h
  · exact hm p hp
theorem wpT_yield (ho : ol[i]? = some o) (hw : Region.wanted o (yielded ops a.tmps) = true) (hr : ∀ u, S u → (execOp a.eval o).run P u = .ok (.value v) u) (h : wpT P ops Q S ol n r (a.put o.dst v) w) : wpT P ops Q S ol (n + 1) (rdT i r) a w := by
  intro o' ho'
  obtain rfl : o = o' := by rw [ho] at ho'; exact Option.some.inj ho'
  exact ⟨v, .inl ⟨hw, hr⟩, h⟩
theorem wpT_make (ho : ol[i]? = some o) (hw : Region.wanted o (yielded ops a.tmps) = true) (hr : (execOp a.eval o).run P w = .ok (.value v) w') (hS : S w') (h : wpT P ops Q S ol n r (a.put o.dst v) w') (hm : wpT P ops Q S ol (n + 1) (altT more) a w) : wpT P ops Q S ol (n + 1) (altT ((i, r) :: more)) a w := by
  refine wpT_cons (fun o' ho' => ?_) hm
  obtain rfl : o = o' := by rw [ho] at ho'; exact Option.some.inj ho'
  unfold wpAct
  rw [if_pos hw]
  unfold Oper.wp
  rw [hr]
  exact ⟨hS, h⟩
theorem wpT_do (ho : ol[i]? = some o) (hw : Region.wanted o (yielded ops a.tmps) = true) (hr : (execOp a.eval o).run P w = .ok .skip w') (hS : S w') (h : wpT P ops Q S ol n r (a.put o.dst undef) w') (hm : wpT P ops Q S ol (n + 1) (altT more) a w) : wpT P ops Q S ol (n + 1) (altT ((i, r) :: more)) a w := by
  refine wpT_cons (fun o' ho' => ?_) hm
  obtain rfl : o = o' := by rw [ho] at ho'; exact Option.some.inj ho'
  unfold wpAct
  rw [if_pos hw]
  unfold Oper.wp
  rw [hr]
  exact ⟨hS, h⟩
theorem wpT_call (ho' : ol[i]? = some o) (hw : Region.wanted o (yielded ops a.tmps) = true) (f : FuncId) (xs : List Operand) (ts : Array TypeId) (ho : o.op = .call { callee := .value (.func f), args := xs.toArray, argTypes := ts }) (hc : ∀ args u, (callFunc f args).run P u = .ok (.enter f args) u) (args : List Value) (hx : xs.map a.eval = args)
    (h : Calls P f args.toArray w fun e w' => ∃ v, e = .returned v ∧ S w' ∧ wpT P ops Q S ol n r (a.put o.dst v) w') (hm : wpT P ops Q S ol (n + 1) (altT more) a w) : wpT P ops Q S ol (n + 1) (altT ((i, r) :: more)) a w := by
  refine wpT_cons (fun o'' ho'' => ?_) hm
  obtain rfl : o = o'' := by rw [ho'] at ho''; exact Option.some.inj ho''
  unfold wpAct
  rw [if_pos hw]
  unfold Oper.wp execOp
  have e : (do let d ← resolve a.eval { callee := .value (.func f), args := xs.toArray, argTypes := ts } o.type; invoke d.target d.args : Sem Next).run P w = .ok (.enter f args.toArray) w := by
    have hx' : xs.toArray.map a.eval = args.toArray := by rw [← hx]; simp
    simp only [resolve, hx']
    simp [Act.eval, Deferred.ofValue, invoke, hc]
  simp only [ho]
  rw [e]
  unfold Oper.upon
  exact h.mono fun e w' ⟨v, he, h1, h2⟩ => by subst he; exact ⟨h1, h2⟩
end
end
end Go.Proofs.YtiejhjngcnkimaaGreatR
/- The document's Decode of an inode; bytes are 0 to 255. -/
namespace Go.Proofs.YtiejhjngcnkimaaGreatR
open Go.RowKit Go.Maps
theorem size29 : (Tryz.prog.info? 180).map (·.size) = some 64 := by kernel_rfl
theorem bel_al {w u : World} (h : Below w.heap.size w u) (o : Obj) : Below w.heap.size w (u.alloc o) := h.alloc h.size o
theorem below_setRow {B : Nat} {a w : World} (h : Below B a w) {g : Nat} (hg : B ≤ g) (cs : Array Value) : Below B a (w.setRow g cs) :=
  h.trans ⟨rfl, rfl, rfl, by simp, fun k hk => setRow_other w g k cs (by omega)⟩
def numN (f : Nat → Int) (k : Nat) : Nat → Int
  | 0 => 0
  | m + 1 => f k + 256 * numN f (k + 1) m
theorem numN_bd (f : Nat → Int) (hf : ∀ i, 0 ≤ f i ∧ f i ≤ 255) : ∀ (m k : Nat), 0 ≤ numN f k m ∧ numN f k m < 256 ^ m
  | 0, _ => by simp [numN]
  | m + 1, k => by
    have h1 := numN_bd f hf m (k + 1)
    have h2 := hf k
    simp only [numN, Int.pow_succ]
    omega
theorem wrap_u16 (n : Int) : IntKind.u16.wrap n = n % 65536 := by simp [IntKind.wrap, IntKind.bits, IntKind.signed]
def node16 (k l s b : Int) (d : Nat → Int) : Array Value :=
  #[.int .u16 k, .int .u16 l, .int .u32 s, .int .u32 b, .int .u32 (d 0), .int .u32 (d 1), .int .u32 (d 2), .int .u32 (d 3), .int .u32 (d 4), .int .u32 (d 5), .int .u32 (d 6), .int .u32 (d 7), .int .u32 (d 8), .int .u32 (d 9), .int .u32 (d 10), .int .u32 (d 11)]
theorem node_size (k l s b : Int) (d : Nat → Int) : (node16 k l s b d).size = 16 := rfl
theorem node_one (k l s b : Int) (d : Nat → Int) : (node16 k l s b d).all (·.oneCell') = true := by simp [node16, Value.oneCell']
theorem node_congr {k l s b k' l' s' b' : Int} {d e : Nat → Int} (hk : k = k') (hl : l = l') (hs : s = s') (hb : b = b') (h : ∀ i, i < 12 → d i = e i) : node16 k l s b d = node16 k' l' s' b' e := by
  subst hk hl hs hb
  unfold node16
  rw [h 0 (by omega), h 1 (by omega), h 2 (by omega), h 3 (by omega), h 4 (by omega), h 5 (by omega), h 6 (by omega), h 7 (by omega), h 8 (by omega), h 9 (by omega), h 10 (by omega), h 11 (by omega)]
theorem size27 : (Tryz.prog.info? 45).map (·.size) = some 16 := by kernel_rfl
theorem zero27 : ∀ w, (zeroValue 45).run Tryz.prog w = .ok (.agg (node16 0 0 0 0 nought)) w := (zero_of_info (show (Tryz.prog.info? 45).map (fun i => (i.zero, i.size)) = some (some (.agg (node16 0 0 0 0 nought)), 16) by kernel_rfl)).1
set_option maxRecDepth 20000 in
set_option maxHeartbeats 400000 in
theorem get_any (f : Nat → Int) (k n : Nat) (w : World) (hk : k + n ≤ 64) (hn : 1 ≤ n ∧ n ≤ 4) (hf : ∀ i, 0 ≤ f i ∧ f i ≤ 255) :
    Calls Tryz.prog 263 #[.agg (rowN .u8 f 64), .int .i64 k, .int .i64 n] w fun e w' => e = .returned (.int .u32 (numN f k n)) ∧ Below w.heap.size w w' := by
  go_enter Tryz.func263, Tryz.ntmps263
  go_wp2
  go_loopw [7, 8] (fun s7 s8 wx => ∃ (j : Nat), j ≤ n ∧ s8 = .int .i64 ((j : Int) - 1) ∧ s7 = .int .u32 (numN f (k + j) (n - j)) ∧ wx = w.alloc (.cells (rowN .u8 f 64) 180)) (fun _ s8 _ => (intOf s8 + 1).toNat)
  case atStart => exact ⟨n, by omega, rfl, by simp [numN], rfl⟩
  case round =>
    obtain ⟨j, hj, rfl, rfl, rfl⟩ := hrel
    cases j with
    | zero =>
      obtain ⟨y, hy⟩ : ∃ y : Int, y = ((0 : Nat) : Int) - 1 := ⟨_, rfl⟩
      rw [← hy]
      have hy0 : ¬ (0 ≤ y) := by omega
      clear hy
      go_wp2
      go_ret
      exact ⟨rfl, below_new _ _⟩
    | succ j =>
      have e1 : ((j + 1 : Nat) : Int) - 1 = (j : Int) := by omega
      rw [e1]
      have hbd := numN_bd f hf (n - (j + 1)) (k + (j + 1))
      have hp : (256 : Int) ^ (n - (j + 1)) ≤ 16777216 := by
        have : n - (j + 1) = 0 ∨ n - (j + 1) = 1 ∨ n - (j + 1) = 2 ∨ n - (j + 1) = 3 := by omega
        rcases this with h | h | h | h <;> rw [h] <;> decide
      have hb2 := hf (k + j)
      have hx0 := hbd.1
      have hx1 : numN f (k + (j + 1)) (n - (j + 1)) < 16777216 := by omega
      have hg := rowN_get .u8 f 64 (k + j) (by omega)
      have e0 : (k : Int) + (j : Int) = ((k + j : Nat) : Int) := by omega
      have hkj : k + j < 64 := by omega
      have HN : Hid (numN f (k + j) (n - j) = f (k + j) + 256 * numN f (k + (j + 1)) (n - (j + 1))) := by
        show _ = _
        rw [show n - j = (n - (j + 1)) + 1 by omega, numN]; rfl
      have HF : Hid _ := hf
      clear hbd hp hf
      generalize numN f (k + (j + 1)) (n - (j + 1)) = x at *
      generalize hfy : f (k + j) = y at *
      obtain ⟨hy0, hy1⟩ := hb2
      generalize hm : k + j = m at *
      have HM : Hid (k + j = m) := hm
      clear hm
      go_wp2
      refine ⟨⟨j, by omega, by go_num, ?_, trivial⟩, by simp [intOf]⟩
      rw [HM.out, HN.out]
      congr 1
      omega
theorem info24 : ∃ i0, Tryz.prog.info? 42 = some i0 ∧ i0.size = 1 := by
  have h : (Tryz.prog.info? 42).map (·.size) = some 1 := by kernel_rfl
  cases hq : Tryz.prog.info? 42 with
  | none => rw [hq] at h; cases h
  | some i => exact ⟨i, rfl, by simpa [hq] using h⟩
theorem run_stC (w : World) (g j : Nat) (cs : Array Value) (t : TypeId) (hg : w.heap[g]? = some (.cells cs t)) (hj : j < cs.size) (x : Int) :
    (Instr.storeAt 42 (.pointer (some ⟨g, j, none⟩)) (.int .u32 x)).run Tryz.prog w = .ok () (w.setRow g (cs.setIfInBounds j (.int .u32 x))) := by
  obtain ⟨i0, hi0, hz⟩ := info24
  have hc : w.cell? ⟨g, j, none⟩ = some cs[j] := by rw [cell_of_row w g j cs t _ hg]; simp
  have hf : w.frozen? ⟨g, j, none⟩ = false := by simp [World.frozen?, hg]
  have hr := setCell_eq_setRow w g j cs t (0, 0) (.int .u32 x) hg
  simp [Instr.storeAt, Instr.sureAddr, storeVar, sizeOf, typeInfo, hi0, hz, storeCells, go_sem, hc, hf, hr]
def decD (f : Nat → Int) : Nat → Int := fun i => numN f (12 + 4 * i) 4
def decN (f : Nat → Int) : Array Value := node16 (numN f 0 2) (numN f 2 2) (numN f 4 4) (numN f 8 4) (decD f)
theorem node_set (k l s b : Int) (e : Nat → Int) (i : Nat) (hi : i < 12) (x : Int) : (node16 k l s b e).setIfInBounds (4 + i) (.int .u32 x) = node16 k l s b (updN e i x) :=
  match i, hi with
  | 0, _ | 1, _ | 2, _ | 3, _ | 4, _ | 5, _ | 6, _ | 7, _ | 8, _ | 9, _ | 10, _ | 11, _ => rfl
theorem wpList_stC {ops : Array Oper} {rest : List Oper} {o : Oper} {a : Act} {w : World} {Q : Exit → Act → World → Prop} (hgd : o.guard = none) (p y : Operand) (ho : o.op = .store 42 p y)
    (g j : Nat) (cs : Array Value) (t : TypeId) (x : Int) (hj : j < cs.size) (hx : a.eval p = .pointer (some ⟨g, j, none⟩)) (hy : a.eval y = .int .u32 x) (hg : w.heap[g]? = some (.cells cs t))
    (h : wpList Tryz.prog ops Q rest (a.put o.dst undef) (w.setRow g (cs.setIfInBounds j (.int .u32 x)))) : wpList Tryz.prog ops Q (o :: rest) a w :=
  wpList_plain hgd fun _ hK => by
    unfold Oper.wp execOp
    simp only [ho, hx, hy, Sem.run_bind, run_stC w g j cs t hg hj x, Sem.run_pure, Result.andThen_ok]
    exact hK _ _ h
structure DR (w W : World) (f : Nat → Int) : Prop where
  row : W.heap[w.heap.size]? = some (.cells (rowN .u8 f 64) 180)
  res : W.heap[w.heap.size + 1]? = some (.cells (node16 0 0 0 0 nought) 45)
  bel : Below w.heap.size w W
structure DRN (w W : World) (f : Nat → Int) (g : Nat) (N : Array Value) : Prop where
  row : W.heap[w.heap.size]? = some (.cells (rowN .u8 f 64) 180)
  res : W.heap[w.heap.size + 1]? = some (.cells (node16 0 0 0 0 nought) 45)
  node : W.heap[g]? = some (.cells N 45)
  far : w.heap.size + 2 ≤ g
  bel : Below w.heap.size w W
theorem DR.call {w W W' : World} {f : Nat → Int} (h : DR w W f) (hb : Below W.heap.size W W') : DR w W' f := ⟨heap_kept h.row hb, heap_kept h.res hb, below_next h.bel hb⟩
theorem DR.alloc {w W : World} {f : Nat → Int} (h : DR w W f) : DRN w (W.alloc (.cells (node16 0 0 0 0 nought) 45)) f W.heap.size (node16 0 0 0 0 nought) :=
  ⟨heap_kept h.row (below_new _ _), heap_kept h.res (below_new _ _), heap_alloc_new _ _, (Array.getElem?_eq_some_iff.1 h.res).1, below_next h.bel (below_new _ _)⟩
theorem DRN.call {w W W' : World} {f : Nat → Int} {g : Nat} {N : Array Value} (h : DRN w W f g N) (hb : Below W.heap.size W W') : DRN w W' f g N := ⟨heap_kept h.row hb, heap_kept h.res hb, heap_kept h.node hb, h.far, below_next h.bel hb⟩
theorem DRN.store {w W : World} {f : Nat → Int} {g : Nat} {N : Array Value} (h : DRN w W f g N) (N' : Array Value) (_ : N'.size = 16) : DRN w (W.setRow g N') f g N' :=
  ⟨(setRow_other _ _ _ _ (by have := h.far; omega)).trans h.row, (setRow_other _ _ _ _ (by have := h.far; omega)).trans h.res, setRow_heap _ _ _ _ _ _ h.node, h.far, below_setRow h.bel (by have := h.far; omega) _⟩
theorem run_alloc27 {o : Oper} {a : Act} (w : World) (ho : o.op = .alloc 45) : (execOp a.eval o).run Tryz.prog w = .ok (.value (.pointer (some ⟨w.heap.size, 0, none⟩))) (w.alloc (.cells (node16 0 0 0 0 nought) 45)) := by
  have z27 := zero27 w
  unfold execOp
  simp only [ho]
  simp [go_sem, z27]
theorem run_st27 {o : Oper} {a : Act} (w : World) (g : Nat) {N0 : Array Value} (hg : w.heap[g]? = some (.cells N0 45)) (x y : Operand) (hx : a.eval x = .pointer (some ⟨g, 0, none⟩)) {N : Array Value} (hy : a.eval y = .agg N) (h0 : N0.size = 16) (hN : N.size = 16) (h1 : N.all (·.oneCell') = true) (ho : o.op = .store 45 x y) : (execOp a.eval o).run Tryz.prog w = .ok .skip (w.setRow g N) := by
  have hi : (Tryz.prog.info? 45).map (·.size) = some N.size := by rw [hN]; exact size27
  unfold execOp
  simp only [ho, hx, hy, Instr.storeAt, Instr.sureAddr, Sem.run_bind, Sem.run_pure, Result.andThen_ok, run_storeVar_row w g 45 45 N0 N hg hi (by rw [h0, hN]) h1]
theorem run_build27 {t : List Value} (x0 x1 x2 x3 : Int) (u : World) (h7 : t.toArray.getD 7 undef = .int .u16 x0) (h10 : t.toArray.getD 10 undef = .int .u16 x1) (h12 : t.toArray.getD 12 undef = .int .u32 x2) (h14 : t.toArray.getD 14 undef = .int .u32 x3) {o : Oper} (ho : o.op = .build 45 #[(0, .tmp 7), (1, .tmp 10), (2, .tmp 12), (3, .tmp 14)]) :
    (execOp (Act.eval ⟨t.toArray, []⟩) o).run Tryz.prog u = .ok (.value (.agg (node16 x0 x1 x2 x3 nought))) u := by
  have e7 : Act.eval ⟨t.toArray, []⟩ (.tmp 7) = .int .u16 x0 := h7
  have e10 : Act.eval ⟨t.toArray, []⟩ (.tmp 10) = .int .u16 x1 := h10
  have e12 : Act.eval ⟨t.toArray, []⟩ (.tmp 12) = .int .u32 x2 := h12
  have e14 : Act.eval ⟨t.toArray, []⟩ (.tmp 14) = .int .u32 x3 := h14
  generalize Act.eval ⟨t.toArray, []⟩ = E at *
  have z27 := zero27 u
  unfold node16 nought at *
  unfold execOp
  simp only [ho]
  simp [go_sem, e7, e10, e12, e14, z27]
theorem run_ldR (ty : TypeId) {d : TypeDesc} (hu : Tryz.prog.underlying ty = some d) (hd : d.isRow = true) {o : Oper} {a : Act} {u : World} (x : Operand) (ho : o.op = .load ty x) (g : Nat) (hx : a.eval x = .pointer (some ⟨g, 0, none⟩)) {cs : Array Value} {t : TypeId} (hg : u.heap[g]? = some (.cells cs t)) (hi : (Tryz.prog.info? ty).map (·.size) = some cs.size) : (execOp a.eval o).run Tryz.prog u = .ok (.value (.agg cs)) u := by
  unfold execOp
  simp only [ho, hx, Instr.loadAt, Instr.sureAddr, Sem.run_bind, Sem.run_pure, Result.andThen_ok, run_loadVar_row u g t ty cs (0, 0) d hg hu (by cases d <;> first | rfl | cases hd) hi]
set_option maxRecDepth 20000 in
set_option maxHeartbeats 4000000 in
theorem refDecode_any (f : Nat → Int) (w : World) (hf : ∀ i, 0 ≤ f i ∧ f i ≤ 255) :
    Calls Tryz.prog 243 #[.agg (rowN .u8 f 64)] w fun e w' => e = .returned (.agg (decN f)) ∧ Below w.heap.size w w' := by
  have z27 := zero27
  have C0 : Hid (∀ W : World, Calls Tryz.prog 263 #[.agg (rowN .u8 f 64), .int .i64 0, .int .i64 2] W fun e w' => e = .returned (.int .u32 (numN f 0 2)) ∧ Below W.heap.size W w') := fun W => get_any f 0 2 W (by omega) (by omega) hf
  have C1 : Hid (∀ W : World, Calls Tryz.prog 263 #[.agg (rowN .u8 f 64), .int .i64 2, .int .i64 2] W fun e w' => e = .returned (.int .u32 (numN f 2 2)) ∧ Below W.heap.size W w') := fun W => get_any f 2 2 W (by omega) (by omega) hf
  have C2 : Hid (∀ W : World, Calls Tryz.prog 263 #[.agg (rowN .u8 f 64), .int .i64 4, .int .i64 4] W fun e w' => e = .returned (.int .u32 (numN f 4 4)) ∧ Below W.heap.size W w') := fun W => get_any f 4 4 W (by omega) (by omega) hf
  have C3 : Hid (∀ W : World, Calls Tryz.prog 263 #[.agg (rowN .u8 f 64), .int .i64 8, .int .i64 4] W fun e w' => e = .returned (.int .u32 (numN f 8 4)) ∧ Below W.heap.size W w') := fun W => get_any f 8 4 W (by omega) (by omega) hf
  have CM : Hid (∀ (m : Nat) (W : World), m < 12 → Calls Tryz.prog 263 #[.agg (rowN .u8 f 64), .int .i64 (12 + 4 * (m : Int)), .int .i64 4] W fun e w' => e = .returned (.int .u32 (decD f m)) ∧ Below W.heap.size W w') := fun m W hm => by
    have := get_any f (12 + 4 * m) 4 W (by omega) (by omega) hf
    rwa [show ((12 + 4 * m : Nat) : Int) = 12 + 4 * (m : Int) by omega] at this
  have C10 : Hid (∀ W : World, Calls Tryz.prog 263 #[.agg (rowN .u8 f 64), .int .i64 52, .int .i64 4] W fun e w' => e = .returned (.int .u32 (decD f 10)) ∧ Below W.heap.size W w') := fun W => CM.out 10 W (by omega)
  have C11 : Hid (∀ W : World, Calls Tryz.prog 263 #[.agg (rowN .u8 f 64), .int .i64 56, .int .i64 4] W fun e w' => e = .returned (.int .u32 (decD f 11)) ∧ Below W.heap.size W w') := fun W => CM.out 11 W (by omega)
  have HW0 : Hid (IntKind.u16.wrap (numN f 0 2) = numN f 0 2) := by show _ = _; rw [wrap_u16]; have := numN_bd f hf 2 0; omega
  have HW1 : Hid (IntKind.u16.wrap (numN f 2 2) = numN f 2 2) := by show _ = _; rw [wrap_u16]; have := numN_bd f hf 2 2; omega
  unfold decN
  generalize numN f 0 2 = x0 at *
  generalize numN f 2 2 = x1 at *
  generalize numN f 4 4 = x2 at *
  generalize numN f 8 4 = x3 at *
  generalize decD f = d at *
  clear hf
  have HD0 : Hid (DR w ((w.alloc (.cells (rowN .u8 f 64) 180)).alloc (.cells (node16 0 0 0 0 nought) 45)).drew f) := ⟨heap_alloc2_old _ _ _, heap_alloc2_new _ _ _, (bel_al (below_new _ _) _).drew⟩
  go_enter Tryz.func243, Tryz.ntmps243
  go_wp2
  refine wp_region_tree (S := fun u => u.heap[w.heap.size]? = some (.cells (rowN .u8 f 64) 180)) (rdT 0 (rdT 3 (rdT 6 (rdT 8 (altT [(1, (rdT 2 (altT [(4, (rdT 5 (altT [(7, (altT [(9, (rdT 10 (altT [(11, (altT [(12, finT)]))]))), (11, (altT [(9, (rdT 10 (altT [(12, finT)])))]))])), (11, (altT [(7, (altT [(9, (rdT 10 (altT [(12, finT)])))]))]))]))), (11, (altT [(4, (rdT 5 (altT [(7, (altT [(9, (rdT 10 (altT [(12, finT)])))]))])))]))]))), (11, (altT [(1, (rdT 2 (altT [(4, (rdT 5 (altT [(7, (altT [(9, (rdT 10 (altT [(12, finT)])))]))])))])))]))])))))
    (by kernel_rfl) rfl (by kernel_rfl) (fun d _ _ _ _ h => by cases d <;> exact h) HD0.out.row ?_
  generalize ((w.alloc (.cells (rowN .u8 f 64) 180)).alloc (.cells (node16 0 0 0 0 nought) 45)).drew = wd at *
  iterate 4
    refine wpT_yield (v := .agg (rowN .u8 f 64)) rfl rfl (fun u hu => run_ldR 180 Tryz.underlying180 rfl _ rfl w.heap.size rfl hu (by rw [rowN_size]; exact size29)) ?_
    simp only [Act.put, pA, pB, pC]
  refine wpT_call rfl rfl 263 _ _ rfl Tryz.call263 [.agg (rowN .u8 f 64), .int .i64 0, .int .i64 2] rfl ?_ ?_
  · refine (C0.out _).mono ?_
    rintro e' X1 ⟨rfl, hb⟩
    have HD1 : Hid _ := HD0.out.call hb
    clear hb
    refine ⟨_, rfl, HD1.out.row, ?_⟩
    simp only [Act.put, pA, pB, pC]
    refine wpT_yield (v := .int .u16 x0) rfl rfl (fun u _ => by go_simp; exact HW0.out) ?_
    simp only [Act.put, pA, pB, pC]
    refine wpT_call rfl rfl 263 _ _ rfl Tryz.call263 [.agg (rowN .u8 f 64), .int .i64 2, .int .i64 2] rfl ?_ ?_
    · refine (C1.out _).mono ?_
      rintro e' X2 ⟨rfl, hb⟩
      have HD2 : Hid _ := HD1.out.call hb
      clear hb
      refine ⟨_, rfl, HD2.out.row, ?_⟩
      simp only [Act.put, pA, pB, pC]
      refine wpT_yield (v := .int .u16 x1) rfl rfl (fun u _ => by go_simp; exact HW1.out) ?_
      simp only [Act.put, pA, pB, pC]
      refine wpT_call rfl rfl 263 _ _ rfl Tryz.call263 [.agg (rowN .u8 f 64), .int .i64 4, .int .i64 4] rfl ?_ ?_
      · refine (C2.out _).mono ?_
        rintro e' X3 ⟨rfl, hb⟩
        have HD3 : Hid _ := HD2.out.call hb
        clear hb
        refine ⟨_, rfl, HD3.out.row, ?_⟩
        simp only [Act.put, pA, pB, pC]
        refine wpT_call rfl rfl 263 _ _ rfl Tryz.call263 [.agg (rowN .u8 f 64), .int .i64 8, .int .i64 4] rfl ?_ ?_
        · refine (C3.out _).mono ?_
          rintro e' X4 ⟨rfl, hb⟩
          have HD4 : Hid _ := HD3.out.call hb
          clear hb
          refine ⟨_, rfl, HD4.out.row, ?_⟩
          simp only [Act.put, pA, pB, pC]
          refine wpT_yield (v := .agg (node16 x0 x1 x2 x3 nought)) rfl rfl (fun u _ => run_build27 x0 x1 x2 x3 u rfl rfl rfl rfl rfl) ?_
          simp only [Act.put, pA, pB, pC]
          refine wpT_make (v := .pointer (some ⟨X4.heap.size, 0, none⟩)) (w' := X4.alloc (.cells (node16 0 0 0 0 nought) 45)) rfl rfl (run_alloc27 _ rfl) (HD4.out.alloc).row ?_ wpT_stop
          have HA : Hid _ := HD4.out.alloc
          simp only [Act.put, pA, pB, pC]
          generalize X4.heap.size = g at *
          generalize X4.alloc (.cells (node16 0 0 0 0 nought) 45) = WA at *
          have HT0 : Hid _ := HA.out.store (node16 x0 x1 x2 x3 nought) rfl
          refine wpT_do (w' := WA.setRow g (node16 x0 x1 x2 x3 nought)) rfl rfl (run_st27 _ _ HA.out.node _ _ rfl rfl rfl rfl (node_one _ _ _ _ _) rfl) HT0.out.row ?_ wpT_stop
          simp only [Act.put]
          generalize WA.setRow g (node16 x0 x1 x2 x3 nought) = Y at *
          refine wpT_fin ?_
          have HH : Hid (DRN w Y f g (node16 x0 x1 x2 x3 nought)) := HT0.out
          have HZ2 : Hid (rowN .u8 f 64 = rowN .u8 f 64) := rfl
          clear HT0 HW0 HW1 C0 C1 C2 C3
          go_wp2
          go_loopw [4] (fun s4 wx => ∃ (m : Nat) (e : Nat → Int), m ≤ 10 ∧ s4 = .int .i64 m ∧ (∀ i, i < m → e i = d i) ∧ DRN w wx f g (node16 x0 x1 x2 x3 e)) (fun s4 _ => 10 - (intOf s4).toNat)
          case atStart => exact ⟨0, nought, by omega, rfl, fun i hi => absurd hi (by omega), HH.out⟩
          case round =>
            obtain ⟨m, e, hm, rfl, he, hst⟩ := hrel
            have HT : Hid _ := hst
            have HE : Hid _ := he
            clear hst he HH
            by_cases h10 : (m : Int) < 10
            · have HST : Hid _ := fun W => CM.out m W (by omega)
              have HU : Hid (∀ i, i < m + 1 → updN e m (d m) i = d i) := fun i hi => by
                unfold updN; split
                · rename_i q; rw [q]
                · exact HE.out i (by omega)
              clear CM C10 C11 HE
              generalize d m = x at *
              go_wp2_with (first | refine wpList_ldR 180 Tryz.underlying180 rfl rfl _ rfl _ rfl _ 180 (0, 0) (by rw [rowN_size]; exact size29) HT.out.row ?_ | (go_at_call 263; fail))
              refine (HST.out _).mono ?_
              rintro e' X ⟨rfl, hbx⟩
              have HX1 : Hid _ := HT.out.call hbx
              have HX2 : Hid _ := HX1.out.store (node16 x0 x1 x2 x3 (updN e m x)) rfl
              have HS : Hid _ := node_set x0 x1 x2 x3 e m (by omega) x
              clear hbx HT HST
              go_wp2_with (first | refine wpList_stC rfl _ _ rfl g (4 + m) (node16 x0 x1 x2 x3 e) 45 x (by rw [node_size]; omega) (by simp [Act.eval]) rfl HX1.out.node ?_)
              rw [HS.out]
              exact ⟨⟨m + 1, updN e m x, by omega, by go_num, HU.out, HX2.out⟩, by simp [intOf]; omega⟩
            · obtain rfl : m = 10 := by omega
              have HC : Hid (node16 x0 x1 x2 x3 (updN (updN e 10 (d 10)) 11 (d 11)) = node16 x0 x1 x2 x3 d) := node_congr rfl rfl rfl rfl fun i hi => by
                unfold updN; split
                · rename_i q; rw [q]
                · split
                  · rename_i q; rw [q]
                  · exact HE.out i (by omega)
              clear hm CM HE
              generalize d 10 = y0 at *
              generalize d 11 = y1 at *
              go_wp2_with (first | refine wpList_ldR 180 Tryz.underlying180 rfl rfl _ rfl _ rfl _ 180 (0, 0) (by rw [rowN_size]; exact size29) HT.out.row ?_ | (go_at_call 263; fail))
              refine (C10.out _).mono ?_
              rintro e' X ⟨rfl, hbx⟩
              have HX1 : Hid _ := HT.out.call hbx
              have HX2 : Hid _ := HX1.out.store (node16 x0 x1 x2 x3 (updN e 10 y0)) rfl
              clear hbx HT C10
              go_wp2_with (first | refine wpList_stC rfl _ _ rfl g 14 (node16 x0 x1 x2 x3 e) 45 y0 (by rw [node_size]; omega) rfl rfl HX1.out.node ?_ | refine wpList_ldR 180 Tryz.underlying180 rfl rfl _ rfl _ rfl _ 180 (0, 0) (by rw [rowN_size]; exact size29) HX2.out.row ?_ | (go_at_call 263; fail))
              refine (C11.out _).mono ?_
              rintro e' X3 ⟨rfl, hbx⟩
              have HX3 : Hid _ := HX2.out.call hbx
              have HX4 : Hid _ := HX3.out.store (node16 x0 x1 x2 x3 (updN (updN e 10 y0) 11 y1)) rfl
              clear hbx HX1 HX2 C11
              go_wp2_with (first | refine wpList_stC rfl _ _ rfl g 15 (node16 x0 x1 x2 x3 (updN e 10 y0)) 45 y1 (by rw [node_size]; omega) rfl rfl HX3.out.node ?_ | refine wpList_ldR 45 Tryz.underlying45 rfl rfl _ rfl _ rfl _ 45 (0, 0) (by exact size27) HX4.out.node ?_ | refine wpList_stR 45 rfl _ _ rfl _ (node16 x0 x1 x2 x3 (updN (updN e 10 y0) 11 y1)) _ 45 (by exact size27) (by rfl) (node_one _ _ _ _ _) rfl rfl HX4.out.res ?_)
              exact retR Tryz.underlying45 rfl rfl (w.heap.size + 1) (node16 x0 x1 x2 x3 (updN (updN e 10 y0) 11 y1)) 45 (by exact size27) rfl (setRow_heap _ _ _ _ _ _ HX4.out.res) rfl ⟨by rw [HC.out], below_setRow HX4.out.bel (by omega) _⟩
        · refine wpT_make (v := .pointer (some ⟨X3.heap.size, 0, none⟩)) (w' := X3.alloc (.cells (node16 0 0 0 0 nought) 45)) rfl rfl (run_alloc27 _ rfl) (HD3.out.alloc).row ?_ wpT_stop
          have HA : Hid _ := HD3.out.alloc
          simp only [Act.put, pA, pB, pC]
          generalize X3.heap.size = g at *
          generalize X3.alloc (.cells (node16 0 0 0 0 nought) 45) = WA at *
          refine wpT_call rfl rfl 263 _ _ rfl Tryz.call263 [.agg (rowN .u8 f 64), .int .i64 8, .int .i64 4] rfl ?_ ?_
          · refine (C3.out _).mono ?_
            rintro e' X5 ⟨rfl, hb⟩
            have HD5 : Hid _ := HA.out.call hb
            clear hb
            refine ⟨_, rfl, HD5.out.row, ?_⟩
            simp only [Act.put, pA, pB, pC]
            refine wpT_yield (v := .agg (node16 x0 x1 x2 x3 nought)) rfl rfl (fun u _ => run_build27 x0 x1 x2 x3 u rfl rfl rfl rfl rfl) ?_
            simp only [Act.put, pA, pB, pC]
            have HT0 : Hid _ := HD5.out.store (node16 x0 x1 x2 x3 nought) rfl
            refine wpT_do (w' := X5.setRow g (node16 x0 x1 x2 x3 nought)) rfl rfl (run_st27 _ _ HD5.out.node _ _ rfl rfl rfl rfl (node_one _ _ _ _ _) rfl) HT0.out.row ?_ wpT_stop
            simp only [Act.put]
            generalize X5.setRow g (node16 x0 x1 x2 x3 nought) = Y at *
            refine wpT_fin ?_
            have HH : Hid (DRN w Y f g (node16 x0 x1 x2 x3 nought)) := HT0.out
            have HZ2 : Hid (rowN .u8 f 64 = rowN .u8 f 64) := rfl
            clear HT0 HW0 HW1 C0 C1 C2 C3
            go_wp2
            go_loopw [4] (fun s4 wx => ∃ (m : Nat) (e : Nat → Int), m ≤ 10 ∧ s4 = .int .i64 m ∧ (∀ i, i < m → e i = d i) ∧ DRN w wx f g (node16 x0 x1 x2 x3 e)) (fun s4 _ => 10 - (intOf s4).toNat)
            case atStart => exact ⟨0, nought, by omega, rfl, fun i hi => absurd hi (by omega), HH.out⟩
            case round =>
              obtain ⟨m, e, hm, rfl, he, hst⟩ := hrel
              have HT : Hid _ := hst
              have HE : Hid _ := he
              clear hst he HH
              by_cases h10 : (m : Int) < 10
              · have HST : Hid _ := fun W => CM.out m W (by omega)
                have HU : Hid (∀ i, i < m + 1 → updN e m (d m) i = d i) := fun i hi => by
                  unfold updN; split
                  · rename_i q; rw [q]
                  · exact HE.out i (by omega)
                clear CM C10 C11 HE
                generalize d m = x at *
                go_wp2_with (first | refine wpList_ldR 180 Tryz.underlying180 rfl rfl _ rfl _ rfl _ 180 (0, 0) (by rw [rowN_size]; exact size29) HT.out.row ?_ | (go_at_call 263; fail))
                refine (HST.out _).mono ?_
                rintro e' X ⟨rfl, hbx⟩
                have HX1 : Hid _ := HT.out.call hbx
                have HX2 : Hid _ := HX1.out.store (node16 x0 x1 x2 x3 (updN e m x)) rfl
                have HS : Hid _ := node_set x0 x1 x2 x3 e m (by omega) x
                clear hbx HT HST
                go_wp2_with (first | refine wpList_stC rfl _ _ rfl g (4 + m) (node16 x0 x1 x2 x3 e) 45 x (by rw [node_size]; omega) (by simp [Act.eval]) rfl HX1.out.node ?_)
                rw [HS.out]
                exact ⟨⟨m + 1, updN e m x, by omega, by go_num, HU.out, HX2.out⟩, by simp [intOf]; omega⟩
              · obtain rfl : m = 10 := by omega
                have HC : Hid (node16 x0 x1 x2 x3 (updN (updN e 10 (d 10)) 11 (d 11)) = node16 x0 x1 x2 x3 d) := node_congr rfl rfl rfl rfl fun i hi => by
                  unfold updN; split
                  · rename_i q; rw [q]
                  · split
                    · rename_i q; rw [q]
                    · exact HE.out i (by omega)
                clear hm CM HE
                generalize d 10 = y0 at *
                generalize d 11 = y1 at *
                go_wp2_with (first | refine wpList_ldR 180 Tryz.underlying180 rfl rfl _ rfl _ rfl _ 180 (0, 0) (by rw [rowN_size]; exact size29) HT.out.row ?_ | (go_at_call 263; fail))
                refine (C10.out _).mono ?_
                rintro e' X ⟨rfl, hbx⟩
                have HX1 : Hid _ := HT.out.call hbx
                have HX2 : Hid _ := HX1.out.store (node16 x0 x1 x2 x3 (updN e 10 y0)) rfl
                clear hbx HT C10
                go_wp2_with (first | refine wpList_stC rfl _ _ rfl g 14 (node16 x0 x1 x2 x3 e) 45 y0 (by rw [node_size]; omega) rfl rfl HX1.out.node ?_ | refine wpList_ldR 180 Tryz.underlying180 rfl rfl _ rfl _ rfl _ 180 (0, 0) (by rw [rowN_size]; exact size29) HX2.out.row ?_ | (go_at_call 263; fail))
                refine (C11.out _).mono ?_
                rintro e' X3 ⟨rfl, hbx⟩
                have HX3 : Hid _ := HX2.out.call hbx
                have HX4 : Hid _ := HX3.out.store (node16 x0 x1 x2 x3 (updN (updN e 10 y0) 11 y1)) rfl
                clear hbx HX1 HX2 C11
                go_wp2_with (first | refine wpList_stC rfl _ _ rfl g 15 (node16 x0 x1 x2 x3 (updN e 10 y0)) 45 y1 (by rw [node_size]; omega) rfl rfl HX3.out.node ?_ | refine wpList_ldR 45 Tryz.underlying45 rfl rfl _ rfl _ rfl _ 45 (0, 0) (by exact size27) HX4.out.node ?_ | refine wpList_stR 45 rfl _ _ rfl _ (node16 x0 x1 x2 x3 (updN (updN e 10 y0) 11 y1)) _ 45 (by exact size27) (by rfl) (node_one _ _ _ _ _) rfl rfl HX4.out.res ?_)
                exact retR Tryz.underlying45 rfl rfl (w.heap.size + 1) (node16 x0 x1 x2 x3 (updN (updN e 10 y0) 11 y1)) 45 (by exact size27) rfl (setRow_heap _ _ _ _ _ _ HX4.out.res) rfl ⟨by rw [HC.out], below_setRow HX4.out.bel (by omega) _⟩
          · exact wpT_stop
      · refine wpT_make (v := .pointer (some ⟨X2.heap.size, 0, none⟩)) (w' := X2.alloc (.cells (node16 0 0 0 0 nought) 45)) rfl rfl (run_alloc27 _ rfl) (HD2.out.alloc).row ?_ wpT_stop
        have HA : Hid _ := HD2.out.alloc
        simp only [Act.put, pA, pB, pC]
        generalize X2.heap.size = g at *
        generalize X2.alloc (.cells (node16 0 0 0 0 nought) 45) = WA at *
        refine wpT_call rfl rfl 263 _ _ rfl Tryz.call263 [.agg (rowN .u8 f 64), .int .i64 4, .int .i64 4] rfl ?_ ?_
        · refine (C2.out _).mono ?_
          rintro e' X6 ⟨rfl, hb⟩
          have HD6 : Hid _ := HA.out.call hb
          clear hb
          refine ⟨_, rfl, HD6.out.row, ?_⟩
          simp only [Act.put, pA, pB, pC]
          refine wpT_call rfl rfl 263 _ _ rfl Tryz.call263 [.agg (rowN .u8 f 64), .int .i64 8, .int .i64 4] rfl ?_ ?_
          · refine (C3.out _).mono ?_
            rintro e' X7 ⟨rfl, hb⟩
            have HD7 : Hid _ := HD6.out.call hb
            clear hb
            refine ⟨_, rfl, HD7.out.row, ?_⟩
            simp only [Act.put, pA, pB, pC]
            refine wpT_yield (v := .agg (node16 x0 x1 x2 x3 nought)) rfl rfl (fun u _ => run_build27 x0 x1 x2 x3 u rfl rfl rfl rfl rfl) ?_
            simp only [Act.put, pA, pB, pC]
            have HT0 : Hid _ := HD7.out.store (node16 x0 x1 x2 x3 nought) rfl
            refine wpT_do (w' := X7.setRow g (node16 x0 x1 x2 x3 nought)) rfl rfl (run_st27 _ _ HD7.out.node _ _ rfl rfl rfl rfl (node_one _ _ _ _ _) rfl) HT0.out.row ?_ wpT_stop
            simp only [Act.put]
            generalize X7.setRow g (node16 x0 x1 x2 x3 nought) = Y at *
            refine wpT_fin ?_
            have HH : Hid (DRN w Y f g (node16 x0 x1 x2 x3 nought)) := HT0.out
            have HZ2 : Hid (rowN .u8 f 64 = rowN .u8 f 64) := rfl
            clear HT0 HW0 HW1 C0 C1 C2 C3
            go_wp2
            go_loopw [4] (fun s4 wx => ∃ (m : Nat) (e : Nat → Int), m ≤ 10 ∧ s4 = .int .i64 m ∧ (∀ i, i < m → e i = d i) ∧ DRN w wx f g (node16 x0 x1 x2 x3 e)) (fun s4 _ => 10 - (intOf s4).toNat)
            case atStart => exact ⟨0, nought, by omega, rfl, fun i hi => absurd hi (by omega), HH.out⟩
            case round =>
              obtain ⟨m, e, hm, rfl, he, hst⟩ := hrel
              have HT : Hid _ := hst
              have HE : Hid _ := he
              clear hst he HH
              by_cases h10 : (m : Int) < 10
              · have HST : Hid _ := fun W => CM.out m W (by omega)
                have HU : Hid (∀ i, i < m + 1 → updN e m (d m) i = d i) := fun i hi => by
                  unfold updN; split
                  · rename_i q; rw [q]
                  · exact HE.out i (by omega)
                clear CM C10 C11 HE
                generalize d m = x at *
                go_wp2_with (first | refine wpList_ldR 180 Tryz.underlying180 rfl rfl _ rfl _ rfl _ 180 (0, 0) (by rw [rowN_size]; exact size29) HT.out.row ?_ | (go_at_call 263; fail))
                refine (HST.out _).mono ?_
                rintro e' X ⟨rfl, hbx⟩
                have HX1 : Hid _ := HT.out.call hbx
                have HX2 : Hid _ := HX1.out.store (node16 x0 x1 x2 x3 (updN e m x)) rfl
                have HS : Hid _ := node_set x0 x1 x2 x3 e m (by omega) x
                clear hbx HT HST
                go_wp2_with (first | refine wpList_stC rfl _ _ rfl g (4 + m) (node16 x0 x1 x2 x3 e) 45 x (by rw [node_size]; omega) (by simp [Act.eval]) rfl HX1.out.node ?_)
                rw [HS.out]
                exact ⟨⟨m + 1, updN e m x, by omega, by go_num, HU.out, HX2.out⟩, by simp [intOf]; omega⟩
              · obtain rfl : m = 10 := by omega
                have HC : Hid (node16 x0 x1 x2 x3 (updN (updN e 10 (d 10)) 11 (d 11)) = node16 x0 x1 x2 x3 d) := node_congr rfl rfl rfl rfl fun i hi => by
                  unfold updN; split
                  · rename_i q; rw [q]
                  · split
                    · rename_i q; rw [q]
                    · exact HE.out i (by omega)
                clear hm CM HE
                generalize d 10 = y0 at *
                generalize d 11 = y1 at *
                go_wp2_with (first | refine wpList_ldR 180 Tryz.underlying180 rfl rfl _ rfl _ rfl _ 180 (0, 0) (by rw [rowN_size]; exact size29) HT.out.row ?_ | (go_at_call 263; fail))
                refine (C10.out _).mono ?_
                rintro e' X ⟨rfl, hbx⟩
                have HX1 : Hid _ := HT.out.call hbx
                have HX2 : Hid _ := HX1.out.store (node16 x0 x1 x2 x3 (updN e 10 y0)) rfl
                clear hbx HT C10
                go_wp2_with (first | refine wpList_stC rfl _ _ rfl g 14 (node16 x0 x1 x2 x3 e) 45 y0 (by rw [node_size]; omega) rfl rfl HX1.out.node ?_ | refine wpList_ldR 180 Tryz.underlying180 rfl rfl _ rfl _ rfl _ 180 (0, 0) (by rw [rowN_size]; exact size29) HX2.out.row ?_ | (go_at_call 263; fail))
                refine (C11.out _).mono ?_
                rintro e' X3 ⟨rfl, hbx⟩
                have HX3 : Hid _ := HX2.out.call hbx
                have HX4 : Hid _ := HX3.out.store (node16 x0 x1 x2 x3 (updN (updN e 10 y0) 11 y1)) rfl
                clear hbx HX1 HX2 C11
                go_wp2_with (first | refine wpList_stC rfl _ _ rfl g 15 (node16 x0 x1 x2 x3 (updN e 10 y0)) 45 y1 (by rw [node_size]; omega) rfl rfl HX3.out.node ?_ | refine wpList_ldR 45 Tryz.underlying45 rfl rfl _ rfl _ rfl _ 45 (0, 0) (by exact size27) HX4.out.node ?_ | refine wpList_stR 45 rfl _ _ rfl _ (node16 x0 x1 x2 x3 (updN (updN e 10 y0) 11 y1)) _ 45 (by exact size27) (by rfl) (node_one _ _ _ _ _) rfl rfl HX4.out.res ?_)
                exact retR Tryz.underlying45 rfl rfl (w.heap.size + 1) (node16 x0 x1 x2 x3 (updN (updN e 10 y0) 11 y1)) 45 (by exact size27) rfl (setRow_heap _ _ _ _ _ _ HX4.out.res) rfl ⟨by rw [HC.out], below_setRow HX4.out.bel (by omega) _⟩
          · exact wpT_stop
        · exact wpT_stop
    · refine wpT_make (v := .pointer (some ⟨X1.heap.size, 0, none⟩)) (w' := X1.alloc (.cells (node16 0 0 0 0 nought) 45)) rfl rfl (run_alloc27 _ rfl) (HD1.out.alloc).row ?_ wpT_stop
      have HA : Hid _ := HD1.out.alloc
      simp only [Act.put, pA, pB, pC]
      generalize X1.heap.size = g at *
      generalize X1.alloc (.cells (node16 0 0 0 0 nought) 45) = WA at *
      refine wpT_call rfl rfl 263 _ _ rfl Tryz.call263 [.agg (rowN .u8 f 64), .int .i64 2, .int .i64 2] rfl ?_ ?_
      · refine (C1.out _).mono ?_
        rintro e' X8 ⟨rfl, hb⟩
        have HD8 : Hid _ := HA.out.call hb
        clear hb
        refine ⟨_, rfl, HD8.out.row, ?_⟩
        simp only [Act.put, pA, pB, pC]
        refine wpT_yield (v := .int .u16 x1) rfl rfl (fun u _ => by go_simp; exact HW1.out) ?_
        simp only [Act.put, pA, pB, pC]
        refine wpT_call rfl rfl 263 _ _ rfl Tryz.call263 [.agg (rowN .u8 f 64), .int .i64 4, .int .i64 4] rfl ?_ ?_
        · refine (C2.out _).mono ?_
          rintro e' X9 ⟨rfl, hb⟩
          have HD9 : Hid _ := HD8.out.call hb
          clear hb
          refine ⟨_, rfl, HD9.out.row, ?_⟩
          simp only [Act.put, pA, pB, pC]
          refine wpT_call rfl rfl 263 _ _ rfl Tryz.call263 [.agg (rowN .u8 f 64), .int .i64 8, .int .i64 4] rfl ?_ ?_
          · refine (C3.out _).mono ?_
            rintro e' X10 ⟨rfl, hb⟩
            have HD10 : Hid _ := HD9.out.call hb
            clear hb
            refine ⟨_, rfl, HD10.out.row, ?_⟩
            simp only [Act.put, pA, pB, pC]
            refine wpT_yield (v := .agg (node16 x0 x1 x2 x3 nought)) rfl rfl (fun u _ => run_build27 x0 x1 x2 x3 u rfl rfl rfl rfl rfl) ?_
            simp only [Act.put, pA, pB, pC]
            have HT0 : Hid _ := HD10.out.store (node16 x0 x1 x2 x3 nought) rfl
            refine wpT_do (w' := X10.setRow g (node16 x0 x1 x2 x3 nought)) rfl rfl (run_st27 _ _ HD10.out.node _ _ rfl rfl rfl rfl (node_one _ _ _ _ _) rfl) HT0.out.row ?_ wpT_stop
            simp only [Act.put]
            generalize X10.setRow g (node16 x0 x1 x2 x3 nought) = Y at *
            refine wpT_fin ?_
            have HH : Hid (DRN w Y f g (node16 x0 x1 x2 x3 nought)) := HT0.out
            have HZ2 : Hid (rowN .u8 f 64 = rowN .u8 f 64) := rfl
            clear HT0 HW0 HW1 C0 C1 C2 C3
            go_wp2
            go_loopw [4] (fun s4 wx => ∃ (m : Nat) (e : Nat → Int), m ≤ 10 ∧ s4 = .int .i64 m ∧ (∀ i, i < m → e i = d i) ∧ DRN w wx f g (node16 x0 x1 x2 x3 e)) (fun s4 _ => 10 - (intOf s4).toNat)
            case atStart => exact ⟨0, nought, by omega, rfl, fun i hi => absurd hi (by omega), HH.out⟩
            case round =>
              obtain ⟨m, e, hm, rfl, he, hst⟩ := hrel
              have HT : Hid _ := hst
              have HE : Hid _ := he
              clear hst he HH
              by_cases h10 : (m : Int) < 10
              · have HST : Hid _ := fun W => CM.out m W (by omega)
                have HU : Hid (∀ i, i < m + 1 → updN e m (d m) i = d i) := fun i hi => by
                  unfold updN; split
                  · rename_i q; rw [q]
                  · exact HE.out i (by omega)
                clear CM C10 C11 HE
                generalize d m = x at *
                go_wp2_with (first | refine wpList_ldR 180 Tryz.underlying180 rfl rfl _ rfl _ rfl _ 180 (0, 0) (by rw [rowN_size]; exact size29) HT.out.row ?_ | (go_at_call 263; fail))
                refine (HST.out _).mono ?_
                rintro e' X ⟨rfl, hbx⟩
                have HX1 : Hid _ := HT.out.call hbx
                have HX2 : Hid _ := HX1.out.store (node16 x0 x1 x2 x3 (updN e m x)) rfl
                have HS : Hid _ := node_set x0 x1 x2 x3 e m (by omega) x
                clear hbx HT HST
                go_wp2_with (first | refine wpList_stC rfl _ _ rfl g (4 + m) (node16 x0 x1 x2 x3 e) 45 x (by rw [node_size]; omega) (by simp [Act.eval]) rfl HX1.out.node ?_)
                rw [HS.out]
                exact ⟨⟨m + 1, updN e m x, by omega, by go_num, HU.out, HX2.out⟩, by simp [intOf]; omega⟩
              · obtain rfl : m = 10 := by omega
                have HC : Hid (node16 x0 x1 x2 x3 (updN (updN e 10 (d 10)) 11 (d 11)) = node16 x0 x1 x2 x3 d) := node_congr rfl rfl rfl rfl fun i hi => by
                  unfold updN; split
                  · rename_i q; rw [q]
                  · split
                    · rename_i q; rw [q]
                    · exact HE.out i (by omega)
                clear hm CM HE
                generalize d 10 = y0 at *
                generalize d 11 = y1 at *
                go_wp2_with (first | refine wpList_ldR 180 Tryz.underlying180 rfl rfl _ rfl _ rfl _ 180 (0, 0) (by rw [rowN_size]; exact size29) HT.out.row ?_ | (go_at_call 263; fail))
                refine (C10.out _).mono ?_
                rintro e' X ⟨rfl, hbx⟩
                have HX1 : Hid _ := HT.out.call hbx
                have HX2 : Hid _ := HX1.out.store (node16 x0 x1 x2 x3 (updN e 10 y0)) rfl
                clear hbx HT C10
                go_wp2_with (first | refine wpList_stC rfl _ _ rfl g 14 (node16 x0 x1 x2 x3 e) 45 y0 (by rw [node_size]; omega) rfl rfl HX1.out.node ?_ | refine wpList_ldR 180 Tryz.underlying180 rfl rfl _ rfl _ rfl _ 180 (0, 0) (by rw [rowN_size]; exact size29) HX2.out.row ?_ | (go_at_call 263; fail))
                refine (C11.out _).mono ?_
                rintro e' X3 ⟨rfl, hbx⟩
                have HX3 : Hid _ := HX2.out.call hbx
                have HX4 : Hid _ := HX3.out.store (node16 x0 x1 x2 x3 (updN (updN e 10 y0) 11 y1)) rfl
                clear hbx HX1 HX2 C11
                go_wp2_with (first | refine wpList_stC rfl _ _ rfl g 15 (node16 x0 x1 x2 x3 (updN e 10 y0)) 45 y1 (by rw [node_size]; omega) rfl rfl HX3.out.node ?_ | refine wpList_ldR 45 Tryz.underlying45 rfl rfl _ rfl _ rfl _ 45 (0, 0) (by exact size27) HX4.out.node ?_ | refine wpList_stR 45 rfl _ _ rfl _ (node16 x0 x1 x2 x3 (updN (updN e 10 y0) 11 y1)) _ 45 (by exact size27) (by rfl) (node_one _ _ _ _ _) rfl rfl HX4.out.res ?_)
                exact retR Tryz.underlying45 rfl rfl (w.heap.size + 1) (node16 x0 x1 x2 x3 (updN (updN e 10 y0) 11 y1)) 45 (by exact size27) rfl (setRow_heap _ _ _ _ _ _ HX4.out.res) rfl ⟨by rw [HC.out], below_setRow HX4.out.bel (by omega) _⟩
          · exact wpT_stop
        · exact wpT_stop
      · exact wpT_stop
  · refine wpT_make (v := .pointer (some ⟨wd.heap.size, 0, none⟩)) (w' := wd.alloc (.cells (node16 0 0 0 0 nought) 45)) rfl rfl (run_alloc27 _ rfl) (HD0.out.alloc).row ?_ wpT_stop
    have HA : Hid _ := HD0.out.alloc
    simp only [Act.put, pA, pB, pC]
    generalize wd.heap.size = g at *
    generalize wd.alloc (.cells (node16 0 0 0 0 nought) 45) = WA at *
    refine wpT_call rfl rfl 263 _ _ rfl Tryz.call263 [.agg (rowN .u8 f 64), .int .i64 0, .int .i64 2] rfl ?_ ?_
    · refine (C0.out _).mono ?_
      rintro e' X11 ⟨rfl, hb⟩
      have HD11 : Hid _ := HA.out.call hb
      clear hb
      refine ⟨_, rfl, HD11.out.row, ?_⟩
      simp only [Act.put, pA, pB, pC]
      refine wpT_yield (v := .int .u16 x0) rfl rfl (fun u _ => by go_simp; exact HW0.out) ?_
      simp only [Act.put, pA, pB, pC]
      refine wpT_call rfl rfl 263 _ _ rfl Tryz.call263 [.agg (rowN .u8 f 64), .int .i64 2, .int .i64 2] rfl ?_ ?_
      · refine (C1.out _).mono ?_
        rintro e' X12 ⟨rfl, hb⟩
        have HD12 : Hid _ := HD11.out.call hb
        clear hb
        refine ⟨_, rfl, HD12.out.row, ?_⟩
        simp only [Act.put, pA, pB, pC]
        refine wpT_yield (v := .int .u16 x1) rfl rfl (fun u _ => by go_simp; exact HW1.out) ?_
        simp only [Act.put, pA, pB, pC]
        refine wpT_call rfl rfl 263 _ _ rfl Tryz.call263 [.agg (rowN .u8 f 64), .int .i64 4, .int .i64 4] rfl ?_ ?_
        · refine (C2.out _).mono ?_
          rintro e' X13 ⟨rfl, hb⟩
          have HD13 : Hid _ := HD12.out.call hb
          clear hb
          refine ⟨_, rfl, HD13.out.row, ?_⟩
          simp only [Act.put, pA, pB, pC]
          refine wpT_call rfl rfl 263 _ _ rfl Tryz.call263 [.agg (rowN .u8 f 64), .int .i64 8, .int .i64 4] rfl ?_ ?_
          · refine (C3.out _).mono ?_
            rintro e' X14 ⟨rfl, hb⟩
            have HD14 : Hid _ := HD13.out.call hb
            clear hb
            refine ⟨_, rfl, HD14.out.row, ?_⟩
            simp only [Act.put, pA, pB, pC]
            refine wpT_yield (v := .agg (node16 x0 x1 x2 x3 nought)) rfl rfl (fun u _ => run_build27 x0 x1 x2 x3 u rfl rfl rfl rfl rfl) ?_
            simp only [Act.put, pA, pB, pC]
            have HT0 : Hid _ := HD14.out.store (node16 x0 x1 x2 x3 nought) rfl
            refine wpT_do (w' := X14.setRow g (node16 x0 x1 x2 x3 nought)) rfl rfl (run_st27 _ _ HD14.out.node _ _ rfl rfl rfl rfl (node_one _ _ _ _ _) rfl) HT0.out.row ?_ wpT_stop
            simp only [Act.put]
            generalize X14.setRow g (node16 x0 x1 x2 x3 nought) = Y at *
            refine wpT_fin ?_
            have HH : Hid (DRN w Y f g (node16 x0 x1 x2 x3 nought)) := HT0.out
            have HZ2 : Hid (rowN .u8 f 64 = rowN .u8 f 64) := rfl
            clear HT0 HW0 HW1 C0 C1 C2 C3
            go_wp2
            go_loopw [4] (fun s4 wx => ∃ (m : Nat) (e : Nat → Int), m ≤ 10 ∧ s4 = .int .i64 m ∧ (∀ i, i < m → e i = d i) ∧ DRN w wx f g (node16 x0 x1 x2 x3 e)) (fun s4 _ => 10 - (intOf s4).toNat)
            case atStart => exact ⟨0, nought, by omega, rfl, fun i hi => absurd hi (by omega), HH.out⟩
            case round =>
              obtain ⟨m, e, hm, rfl, he, hst⟩ := hrel
              have HT : Hid _ := hst
              have HE : Hid _ := he
              clear hst he HH
              by_cases h10 : (m : Int) < 10
              · have HST : Hid _ := fun W => CM.out m W (by omega)
                have HU : Hid (∀ i, i < m + 1 → updN e m (d m) i = d i) := fun i hi => by
                  unfold updN; split
                  · rename_i q; rw [q]
                  · exact HE.out i (by omega)
                clear CM C10 C11 HE
                generalize d m = x at *
                go_wp2_with (first | refine wpList_ldR 180 Tryz.underlying180 rfl rfl _ rfl _ rfl _ 180 (0, 0) (by rw [rowN_size]; exact size29) HT.out.row ?_ | (go_at_call 263; fail))
                refine (HST.out _).mono ?_
                rintro e' X ⟨rfl, hbx⟩
                have HX1 : Hid _ := HT.out.call hbx
                have HX2 : Hid _ := HX1.out.store (node16 x0 x1 x2 x3 (updN e m x)) rfl
                have HS : Hid _ := node_set x0 x1 x2 x3 e m (by omega) x
                clear hbx HT HST
                go_wp2_with (first | refine wpList_stC rfl _ _ rfl g (4 + m) (node16 x0 x1 x2 x3 e) 45 x (by rw [node_size]; omega) (by simp [Act.eval]) rfl HX1.out.node ?_)
                rw [HS.out]
                exact ⟨⟨m + 1, updN e m x, by omega, by go_num, HU.out, HX2.out⟩, by simp [intOf]; omega⟩
              · obtain rfl : m = 10 := by omega
                have HC : Hid (node16 x0 x1 x2 x3 (updN (updN e 10 (d 10)) 11 (d 11)) = node16 x0 x1 x2 x3 d) := node_congr rfl rfl rfl rfl fun i hi => by
                  unfold updN; split
                  · rename_i q; rw [q]
                  · split
                    · rename_i q; rw [q]
                    · exact HE.out i (by omega)
                clear hm CM HE
                generalize d 10 = y0 at *
                generalize d 11 = y1 at *
                go_wp2_with (first | refine wpList_ldR 180 Tryz.underlying180 rfl rfl _ rfl _ rfl _ 180 (0, 0) (by rw [rowN_size]; exact size29) HT.out.row ?_ | (go_at_call 263; fail))
                refine (C10.out _).mono ?_
                rintro e' X ⟨rfl, hbx⟩
                have HX1 : Hid _ := HT.out.call hbx
                have HX2 : Hid _ := HX1.out.store (node16 x0 x1 x2 x3 (updN e 10 y0)) rfl
                clear hbx HT C10
                go_wp2_with (first | refine wpList_stC rfl _ _ rfl g 14 (node16 x0 x1 x2 x3 e) 45 y0 (by rw [node_size]; omega) rfl rfl HX1.out.node ?_ | refine wpList_ldR 180 Tryz.underlying180 rfl rfl _ rfl _ rfl _ 180 (0, 0) (by rw [rowN_size]; exact size29) HX2.out.row ?_ | (go_at_call 263; fail))
                refine (C11.out _).mono ?_
                rintro e' X3 ⟨rfl, hbx⟩
                have HX3 : Hid _ := HX2.out.call hbx
                have HX4 : Hid _ := HX3.out.store (node16 x0 x1 x2 x3 (updN (updN e 10 y0) 11 y1)) rfl
                clear hbx HX1 HX2 C11
                go_wp2_with (first | refine wpList_stC rfl _ _ rfl g 15 (node16 x0 x1 x2 x3 (updN e 10 y0)) 45 y1 (by rw [node_size]; omega) rfl rfl HX3.out.node ?_ | refine wpList_ldR 45 Tryz.underlying45 rfl rfl _ rfl _ rfl _ 45 (0, 0) (by exact size27) HX4.out.node ?_ | refine wpList_stR 45 rfl _ _ rfl _ (node16 x0 x1 x2 x3 (updN (updN e 10 y0) 11 y1)) _ 45 (by exact size27) (by rfl) (node_one _ _ _ _ _) rfl rfl HX4.out.res ?_)
                exact retR Tryz.underlying45 rfl rfl (w.heap.size + 1) (node16 x0 x1 x2 x3 (updN (updN e 10 y0) 11 y1)) 45 (by exact size27) rfl (setRow_heap _ _ _ _ _ _ HX4.out.res) rfl ⟨by rw [HC.out], below_setRow HX4.out.bel (by omega) _⟩
          · exact wpT_stop
        · exact wpT_stop
      · exact wpT_stop
    · exact wpT_stop
end Go.Proofs.YtiejhjngcnkimaaGreatR
/- An inode's bytes and the inode on the document's disk of an audit. -/
namespace Go.Proofs.YtiejhjngcnkimaaGreatR
open Go.RowKit Go.Maps
def rawP (y : Lay) (l : List Cel) (i : Nat) : Nat → Int := fun j => atL l (y.nodeAt + (i / 16 : Nat)) (64 * (i % 16) + j)
theorem zero159 : ∀ w, (zeroValue 180).run Tryz.prog w = .ok (.agg (rowN .u8 nought 64)) w := (zero_of_info (show (Tryz.prog.info? 180).map (fun i => (i.zero, i.size)) = some (some (.agg (rowN .u8 nought 64)), 64) by kernel_rfl)).1
structure RawSt (w W : World) (gb gx : Nat) (f e : Nat → Int) : Prop where
  res : W.heap[w.heap.size]? = some (.cells (rowN .u8 nought 64) 180)
  blk : W.heap[gb]? = some (.cells (blk f) 85)
  row : W.heap[gx]? = some (.cells (rowN .u8 e 64) 180)
  b1 : w.heap.size < gb
  b2 : gb < gx
  bel : Below w.heap.size w W
theorem RawSt.set {w W : World} {gb gx : Nat} {f e : Nat → Int} (h : RawSt w W gb gx f e) (i : Nat) (x : Int) : RawSt w (W.setCell ⟨gx, i, none⟩ (.int .u8 x)) gb gx f (updN e i x) := by
  have hF := Fr.setCell W gx i (.int .u8 x)
  exact ⟨(hF.block _ (Array.getElem?_eq_some_iff.1 h.res).1 (by have := h.b1; have := h.b2; omega)).trans h.res, (hF.block _ (Array.getElem?_eq_some_iff.1 h.blk).1 (by have := h.b2; omega)).trans h.blk, setCell_rowN h.row i x, h.b1, h.b2, h.bel.trans (hF.below (fun j q => by have := h.b1; have := h.b2; omega) h.bel.size)⟩
set_option maxRecDepth 20000 in
set_option maxHeartbeats 1000000 in
theorem raw29_any {w : World} {g : Nat} {n : Int} {l : List Cel} {y : Lay} (h : Aud w g n l y) (hy : 0 ≤ y.nodeAt ∧ y.nodeAt ≤ 1000000000) (i : Nat) (hi : i ≤ 1000000000) :
    Calls Tryz.prog 233 #[.pointer (some ⟨g, 0, none⟩), .int .i64 (i : Int)] w fun e w' => e = .returned (.agg (rowN .u8 (rawP y l i) 64)) ∧ Below w.heap.size w w' := by
  have z := zero77
  have z2 := zero159
  have h1 := h.later (below_new w (.cells (rowN .u8 nought 64) 180))
  have hc := at29_any h1 (y.nodeAt + (i / 16 : Nat))
  obtain ⟨⟨p, cap, q, c, hr, _⟩, _, _⟩ := h1
  unfold dkRow at hr
  have c6 := Joins.cell_of_block hr 6
  clear hr h
  have HX : Hid ((w.alloc (.cells (rowN .u8 nought 64) 180)).heap[w.heap.size]? = some (.cells (rowN .u8 nought 64) 180)) := heap_alloc_new _ _
  have HB : Hid (Below w.heap.size w (w.alloc (.cells (rowN .u8 nought 64) 180))) := below_new _ _
  have HR : Hid (∀ j, atL l (y.nodeAt + (i / 16 : Nat)) (64 * (i % 16) + j) = rawP y l i j) := fun j => rfl
  generalize rawP y l i = rw0 at *
  generalize atL l (y.nodeAt + (i / 16 : Nat)) = f at *
  generalize y.nodeAt = na at *
  have e1 : (i : Int).tdiv 16 = ((i / 16 : Nat) : Int) := by rw [Int.tdiv_eq_ediv_of_nonneg (by omega)]; omega
  have e2 : (i : Int).tmod 16 = ((i % 16 : Nat) : Int) := by rw [Int.tmod_eq_emod_of_nonneg (by omega)]; omega
  have e3 : IntKind.i64.wrap ((i / 16 : Nat) : Int) = ((i / 16 : Nat) : Int) := by rw [IntKind.wrap_i64]; omega
  have e4 : IntKind.i64.wrap (na + ((i / 16 : Nat) : Int)) = na + ((i / 16 : Nat) : Int) := by rw [IntKind.wrap_i64]; omega
  have hm16 : i % 16 < 16 := Nat.mod_lt _ (by omega)
  generalize i / 16 = d at *
  generalize i % 16 = r at *
  go_enter Tryz.func233, Tryz.ntmps233
  go_wp2_with (first | (go_at_call 197; fail))
  refine hc.mono ?_
  rintro e W1 ⟨rfl, hb1⟩
  have hs1 := hb1.size
  have hr1 := heap_kept HX.out hb1
  have hB1 := below_next HB.out hb1
  have HS : Hid (RawSt w ((W1.alloc (.cells (blk f) 85)).alloc (.cells (rowN .u8 nought 64) 180)) W1.heap.size (W1.heap.size + 1) f nought) :=
    ⟨heap_kept (heap_kept hr1 (below_new _ _)) (below_new _ _), heap_kept (heap_alloc_new _ _) (below_new _ _), heap_two _ _ _, by have := (Array.getElem?_eq_some_iff.1 hr1).1; omega, by omega, bel_al (bel_al hB1 _) _⟩
  clear hb1 hc hr1 hB1 hs1
  go_wp2_with (first | (with_reducible refine isStoreR 85 ?_; refine wpList_stBn rfl (.tmp 5) (.tmp 17) rfl W1.heap.size f nought 85 rfl rfl rfl ?_))
  generalize (W1.alloc (.cells (blk f) 85)).alloc (.cells (rowN .u8 nought 64) 180) = V at *
  generalize hgb : W1.heap.size = gb at *
  clear hgb
  go_loopw [7] (fun s7 wx => ∃ (k : Nat) (e : Nat → Int), k ≤ 64 ∧ s7 = .int .i64 k ∧ Hid (∀ j, j < k → e j = rw0 j) ∧ Hid (RawSt w wx gb (gb + 1) f e)) (fun s7 _ => 64 - (intOf s7).toNat)
  case atStart => exact ⟨0, nought, by omega, rfl, fun j hj => absurd hj (by omega), HS.out⟩
  case round =>
    obtain ⟨k, e, hk, rfl, HE, HT⟩ := hrel
    by_cases hk2 : (k : Int) < 64
    · have cb := cell_rowN (i := 64 * r + k) HT.out.blk (by omega)
      have cx := cell_rowN (i := k) HT.out.row (by omega)
      have fx := frozen_row HT.out.row k
      have HT2 : Hid _ := HT.out.set k (f (64 * r + k))
      have HE2 : Hid (∀ j, j < k + 1 → updN e k (f (64 * r + k)) j = rw0 j) := fun j hj => by
        unfold updN
        split
        · rename_i q; rw [q]; exact HR.out k
        · exact HE.out j (by omega)
      have e5 : IntKind.i64.wrap (64 * (r : Int)) = 64 * (r : Int) := by rw [IntKind.wrap_i64]; omega
      have e6 : IntKind.i64.wrap (64 * (r : Int) + (k : Int)) = ((64 * r + k : Nat) : Int) := by rw [IntKind.wrap_i64]; omega
      have e7 : (64 * (r : Int) + (k : Int)) = ((64 * r + k : Nat) : Int) := by omega
      have hlt : 64 * r + k < 1024 := by omega
      generalize f (64 * r + k) = x at *
      generalize 64 * r + k = m at *
      clear HT HE
      go_wp2
      exact ⟨⟨k + 1, _, by omega, by go_num, HE2.out, HT2.out⟩, by simp [intOf]; omega⟩
    · obtain rfl : k = 64 := by omega
      have hrow := HT.out.row
      rw [show rowN .u8 e 64 = rowN .u8 rw0 64 from rowN_congr HE.out] at hrow
      have hres := HT.out.res
      have HB2 : Hid (Below w.heap.size w (wr.setRow w.heap.size (rowN .u8 rw0 64))) := below_setRow HT.out.bel (Nat.le_refl _) _
      clear HT HE
      go_wp2_with (first | (with_reducible refine isLoadR 180 ?_; refine wpList_ldR 180 Tryz.underlying180 rfl rfl _ rfl _ rfl _ 180 (0, 0) (by rw [rowN_size]; exact size29) hrow ?_) | (with_reducible refine isStoreR 180 ?_; refine wpList_stR 180 rfl _ _ rfl w.heap.size (rowN .u8 rw0 64) (rowN .u8 nought 64) 180 (by rw [rowN_size]; exact size29) (by rw [rowN_size, rowN_size]) (rowN_one _ _ _) rfl rfl hres ?_))
      exact retR Tryz.underlying180 rfl rfl w.heap.size (rowN .u8 rw0 64) 180 (by rw [rowN_size]; exact size29) rfl (setRow_heap _ _ _ _ _ _ hres) rfl ⟨rfl, HB2.out⟩
def nodP (y : Lay) (l : List Cel) (i : Nat) : Array Value := decN (rawP y l i)
set_option maxHeartbeats 400000 in
theorem node29_any {w : World} {g : Nat} {n : Int} {l : List Cel} {y : Lay} (h : Aud w g n l y) (hy : 0 ≤ y.nodeAt ∧ y.nodeAt ≤ 1000000000) (i : Nat) (hi : i ≤ 1000000000) :
    Calls Tryz.prog 194 #[.pointer (some ⟨g, 0, none⟩), .int .i64 (i : Int)] w fun e w' => e = .returned (.agg (nodP y l i)) ∧ Below w.heap.size w w' := by
  have z := zero27
  have h1 := h.later (below_new w (.cells (node16 0 0 0 0 nought) 45))
  have hc := raw29_any h1 hy i hi
  have hf : ∀ j, 0 ≤ rawP y l i j ∧ rawP y l i j ≤ 255 := fun j => h.blk _ _
  have HD : Hid (∀ W, Calls Tryz.prog 243 #[.agg (rowN .u8 (rawP y l i) 64)] W fun e w' => e = .returned (.agg (nodP y l i)) ∧ Below W.heap.size W w') := fun W => refDecode_any (rawP y l i) W hf
  have HZ : Hid (∃ k l' s b d, nodP y l i = node16 k l' s b d) := ⟨_, _, _, _, _, rfl⟩
  generalize rawP y l i = f at *
  generalize nodP y l i = N at *
  obtain ⟨x1, x2, x3, x4, x5, hN⟩ := HZ.out
  have hsz : N.size = 16 := by rw [hN]; rfl
  have HO : Hid (N.all (·.oneCell') = true) := by show _ = _; rw [hN]; exact node_one _ _ _ _ _
  have hq : (Tryz.prog.info? 45).map (·.size) = some N.size := by rw [hsz]; exact size27
  have HX : Hid ((w.alloc (.cells (node16 0 0 0 0 nought) 45)).heap[w.heap.size]? = some (.cells (node16 0 0 0 0 nought) 45)) := heap_alloc_new _ _
  have HB : Hid (Below w.heap.size w (w.alloc (.cells (node16 0 0 0 0 nought) 45))) := below_new _ _
  clear h h1 hN HZ hf
  go_enter Tryz.func194, Tryz.ntmps194
  go_wp2_with (first | (go_at_call 233; fail))
  refine hc.mono ?_
  rintro e W1 ⟨rfl, hb1⟩
  have hr1 := heap_kept HX.out hb1
  have hB1 := below_next HB.out hb1
  go_wp2_with (first | (go_at_call 243; fail))
  refine (HD.out _).mono ?_
  rintro e W2 ⟨rfl, hb2⟩
  have hr2 := heap_kept hr1 hb2
  have HB2 : Hid _ := below_next hB1 hb2
  clear hr1 hB1 hb1 hb2 hc
  go_wp2_with (first | (with_reducible refine isStoreR 45 ?_; refine wpList_stR 45 rfl _ _ rfl w.heap.size N (node16 0 0 0 0 nought) 45 hq ((node_size 0 0 0 0 nought).trans hsz.symm) HO.out rfl rfl hr2 ?_))
  exact retR Tryz.underlying45 rfl rfl w.heap.size N 45 hq rfl (setRow_heap _ _ _ _ _ _ hr2) rfl ⟨rfl, below_setRow HB2.out (Nat.le_refl _) _⟩
end Go.Proofs.YtiejhjngcnkimaaGreatR
/- A whole list appended to another; no condition but lists of at most ten million. -/
namespace Go.Proofs.YtiejhjngcnkimaaGreatR
open Go.RowKit Go.Maps
theorem fm_one {α : Type} {en : α → List Value} (h1 : ∀ x, ∀ u ∈ en x, u.oneCell' = true) (l : List α) : ∀ u ∈ l.flatMap en, u.oneCell' = true := fun u hu => by
  obtain ⟨x, _, hx⟩ := List.mem_flatMap.1 hu
  exact h1 x u hx
theorem own_cells {α : Type} {en : α → List Value} {sz : Nat} {B e g n c : Nat} {w : World} {l : List α} (h : w.ownsRow B e sz (.slice (some ⟨g, 0, none⟩) n c) n (l.flatMap en)) :
    ∀ j u, (l.flatMap en)[j]? = some u → w.cell? ((⟨g, 0, none⟩ : Addr).add j) = some u := fun j u hu => h.cells (g := g) rfl j u hu
theorem own_app {α : Type} {en : α → List Value} {sz e : Nat} {st : TypeId} {i : TypeInfo} {z : Value} {bytes : Nat} (hr : ∀ x, (en x).length = sz) (h1 : ∀ x, ∀ u ∈ en x, u.oneCell' = true) (ht : Tryz.prog.underlying st = some (.slice e)) (hi : Tryz.prog.info? e = some i) (hz : i.zero = some z) (hsize : i.size = sz) (hby : i.bytes = bytes) (hzs : z.cells.size = sz) (hsz : 0 < sz) (hbb : bytes ≤ 2000)
    {B B2 : Nat} {w : World} {v v2 : Value} {l l2 : List α} (h : OwnG en e sz w B v l) (h2 : OwnG en e sz w B2 v2 l2) (hB : B ≤ w.heap.size) (hn : l.length + l2.length ≤ 10000000) (ty : TypeId) :
    ∃ v' w', (Builtin.append_ #[st, st] ty #[v, v2]).run Tryz.prog w = .ok v' w' ∧ OwnG en e sz w' B v' (l ++ l2) ∧ Below B w w' ∧ Fr (fun b => v.ownBlock = some b) w w' := by
  rcases own_form h2 with ⟨rfl, h0⟩ | ⟨g, c, rfl, hlt⟩
  · obtain rfl : l2 = [] := List.length_eq_zero_iff.1 h0
    refine ⟨v, w, run_append_owned_none w B st ty e i sz ht hi v _ _ h, ?_, Below.refl _ _, Fr.refl _ _⟩
    rwa [List.append_nil]
  · have hbt : ((l.length + l2.length) + (l.length + l2.length) / 4 + 192) * bytes ≤ 281474976710656 := by
      have : ((l.length + l2.length) + (l.length + l2.length) / 4 + 192) * bytes ≤ 12500192 * 2000 := Nat.mul_le_mul (by omega) hbb
      omega
    obtain ⟨v', w', hrun, ho', hg, _⟩ := run_append_own_wide (P := Tryz.prog) w B st ty e i z sz bytes ht hi hz hsize hby hzs hsz v l.length (l.flatMap en) h ⟨g, 0, none⟩ l2.length c (l2.flatMap en) (fml hr l2) (own_cells h2) (fm_one h1 l2) (by unfold maxLen; omega) hbt hB
    have hF := Fr.ofGrown hg
    refine ⟨v', w', hrun, ?_, hF.below (fun j q => (World.ownsRow.lt h j q).1) hB, hF⟩
    unfold OwnG
    rw [List.length_append, List.flatMap_append]
    exact ho'
theorem wpList_ap2 {ops : Array Oper} {rest : List Oper} {o : Oper} {a : Act} {W W' : World} {v v2 v' : Value} {st : TypeId} {Q : Exit → Act → World → Prop} (hgd : o.guard = none) (s y : Operand)
    (ho : o.op = .call { callee := .builtin .append, args := #[s, y], argTypes := #[st, st] }) (hs : a.eval s = v) (hx : a.eval y = v2)
    (hr : (Builtin.append_ #[st, st] o.type #[v, v2]).run Tryz.prog W = .ok v' W') (h : wpList Tryz.prog ops Q rest (a.put o.dst v') W') : wpList Tryz.prog ops Q (o :: rest) a W :=
  wpList_plain hgd fun _ hK => by
    unfold Oper.wp
    rw [show (execOp a.eval o).run Tryz.prog W = .ok (.value v') W' by simp [execOp, ho, resolve, invoke, builtin, hs, hx, hr, Result.andThen]]
    exact hK _ _ h
end Go.Proofs.YtiejhjngcnkimaaGreatR
