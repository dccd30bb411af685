/- Several texts joined, each with its own remark; no condition. -/
import Derived.Test.YtlcdpmjdnihocaaGreatProg
import Derived.WalkKit
import Derived.WalkSpells
import Derived.WalkLawsBesides
import Derived.Deep.WholeRow
import Derived.Deep.DeepAppendWide
import Derived.Deep.Onto
import Derived.Deep.MidRow
import Derived.Laws.StructEq
import Derived.Lib.SmallJoins
import Derived.Maps.AppendAt
import Derived.Maps.OwnOps
import Derived.Maps.OwnSet
import Derived.Laws.CopyOwn
import Derived.Laws.AppendOwnNone
import Derived.Laws.OwnMore
import Derived.BigQuiet
import Derived.OrdersHeld
import Derived.Laws.ResultCell
import Derived.StillTailTactics
import Derived.Laws.BitsLemmas
import Derived.Lib.ConvBytes
import Derived.Test.YtlcdpmjdnihocaaGreatRows
/- Rows of any type loaded, stored and returned; what turns and what stays; lists of anything in memory of their own, appended to and written over; no condition. -/
namespace Go.Proofs.YtlcdpmjdnihocaaGreat
open Go.RowKit Go.Maps
theorem below_new (w : World) (o : Obj) : Below w.heap.size w (w.alloc o) := (Below.refl _ _).alloc (Nat.le_refl _) _
theorem below_next {w w1 w2 : World} (h : Below w.heap.size w w1) (hb : Below w1.heap.size w1 w2) : Below w.heap.size w w2 := h.trans (hb.mono h.size)
theorem heap_kept {w w' : World} {g : Nat} {o : Obj} (h : w.heap[g]? = some o) (hb : Below w.heap.size w w') : w'.heap[g]? = some o :=
  (hb.block g (Array.getElem?_eq_some_iff.1 h).1).trans h
theorem belowN {B : Nat} {w W : World} (h : Below B w W) (q : Nat) : Below B w (W.drewN q) := h.trans ⟨rfl, rfl, rfl, Nat.le_refl _, fun _ _ => rfl⟩
section
variable {ops : Array Oper} {rest : List Oper} {Q : Exit → Act → World → Prop} {a : Act} {w : World} {dst : Option Tmp} {x y : Operand} {ty : TypeId} {pos : String} {aft : Array Edge} {gd : Option (Nat × Bool)}
theorem isLoadR (t : TypeId) (h : wpList Tryz.prog ops Q (⟨dst, .load t x, ty, pos, aft, gd⟩ :: rest) a w) : wpList Tryz.prog ops Q (⟨dst, .load t x, ty, pos, aft, gd⟩ :: rest) a w := h
theorem isStoreR (t : TypeId) (h : wpList Tryz.prog ops Q (⟨dst, .store t x y, ty, pos, aft, gd⟩ :: rest) a w) : wpList Tryz.prog ops Q (⟨dst, .store t x y, ty, pos, aft, gd⟩ :: rest) a w := h
theorem isEqR (t t' : TypeId) {bo : BinOp} (h : wpList Tryz.prog ops Q (⟨dst, .binOp bo t x y t', ty, pos, aft, gd⟩ :: rest) a w) : wpList Tryz.prog ops Q (⟨dst, .binOp bo t x y t', ty, pos, aft, gd⟩ :: rest) a w := h
theorem isBuildR (t : TypeId) {ps : Array (Nat × Operand)} (h : wpList Tryz.prog ops Q (⟨dst, .build t ps, ty, pos, aft, gd⟩ :: rest) a w) : wpList Tryz.prog ops Q (⟨dst, .build t ps, ty, pos, aft, gd⟩ :: rest) a w := h
end
section
variable {ops : Array Oper} {rest : List Oper} {o : Oper} {a : Act} {w : World} {Q : Exit → Act → World → Prop}
/-- A whole row is loaded, of any type that is a row. -/
theorem wpList_ldR (ty : TypeId) {d : TypeDesc} (hu : Tryz.prog.underlying ty = some d) (hd : d.isRow = true) (hw : Region.wanted o (yielded ops a.tmps) = true) (x : Operand) (ho : o.op = .load ty x)
    (g : Nat) (hx : a.eval x = .pointer (some ⟨g, 0, none⟩)) (cs : Array Value) (t : TypeId) (fr : Nat × Nat) (hi : (Tryz.prog.info? ty).map (·.size) = some cs.size) (hg : w.heap[g]? = some (.cells cs t fr))
    (h : wpList Tryz.prog ops Q rest (a.put o.dst (.agg cs)) w) : wpList Tryz.prog ops Q (o :: rest) a w := by
  unfold wpList
  rw [if_pos hw]
  refine .inl ?_
  unfold Oper.wp execOp
  simp only [ho, hx, Instr.loadAt, Instr.sureAddr, Sem.run_bind, Sem.run_pure, Result.andThen_ok, run_loadVar_row w g t ty cs fr d hg hu (by cases d <;> first | rfl | cases hd) hi]
  exact h
theorem wpList_stR (ty : TypeId) (hgd : o.guard = none) (x y : Operand) (ho : o.op = .store ty x y)
    (g : Nat) (cs c0 : Array Value) (t : TypeId) (hi : (Tryz.prog.info? ty).map (·.size) = some cs.size) (hs : c0.size = cs.size) (h1 : cs.all (·.oneCell') = true)
    (hx : a.eval x = .pointer (some ⟨g, 0, none⟩)) (hy : a.eval y = .agg cs) (hg : w.heap[g]? = some (.cells c0 t))
    (h : wpList Tryz.prog ops Q rest (a.put o.dst undef) (w.setRow g cs)) : wpList Tryz.prog ops Q (o :: rest) a w :=
  wpList_plain hgd fun _ hK => by
    unfold Oper.wp execOp
    simp only [ho, hx, hy, Instr.storeAt, Instr.sureAddr, Sem.run_bind, Sem.run_pure, Result.andThen_ok, run_storeVar_row w g t ty c0 cs hg hi hs h1]
    exact hK _ _ h
theorem wpList_stNew (ty : TypeId) (hgd : o.guard = none) (x y : Operand) (ho : o.op = .store ty x y)
    (g : Nat) (cs c0 : Array Value) (t : TypeId) (hi : (Tryz.prog.info? ty).map (·.size) = some cs.size) (hs : c0.size = cs.size) (h1 : cs.all (·.oneCell') = true)
    (hx : a.eval x = .pointer (some ⟨g, 0, none⟩)) (hgw : g = w.heap.size) (hy : a.eval y = .agg cs)
    (h : wpList Tryz.prog ops Q rest (a.put o.dst undef) (w.alloc (.cells cs t))) : wpList Tryz.prog ops Q (o :: rest) a (w.alloc (.cells c0 t)) := by
  subst hgw
  exact wpList_stR ty hgd x y ho w.heap.size cs c0 t hi hs h1 hx hy (heap_alloc_new _ _) (by rw [World.setRow_alloc_new]; exact h)
end
theorem retR {fn : Func} {p : Tmp} {ty : TypeId} {R : Ending → World → Prop} {a : Act} {w : World} {d : TypeDesc} (hu : Tryz.prog.underlying ty = some d) (hd : d.isRow = true)
    (h : fn.results = #[.cell p ty]) (g : Nat) (cs : Array Value) (t : TypeId) (hi : (Tryz.prog.info? ty).map (·.size) = some cs.size)
    (hp : a.tmps.getD p undef = .pointer (some ⟨g, 0, none⟩)) (hg : w.heap[g]? = some (.cells cs t)) (hdf : a.defers = []) (hR : R (.returned (.agg cs)) w) : bodyPost Tryz.prog fn R .ret a w :=
  bodyPost_ret (results_cell_row h a.tmps w g t cs (0, 0) _ hp hg hu (by cases d <;> first | rfl | cases hd) hi) hdf hR

/-- Nothing has turned but blocks of T and new ones. -/
structure Fr (T : Nat → Prop) (w w' : World) : Prop where
  os : w'.os = w.os
  tape : w'.tape = w.tape
  output : w'.output = w.output
  size : w.heap.size ≤ w'.heap.size
  block : ∀ k, k < w.heap.size → ¬ T k → w'.heap[k]? = w.heap[k]?
theorem Fr.refl (T : Nat → Prop) (w : World) : Fr T w w := ⟨rfl, rfl, rfl, Nat.le_refl _, fun _ _ _ => rfl⟩
theorem Fr.trans {T T' : Nat → Prop} {a b c : World} (h : Fr T a b) (k : Fr T' b c) (hT : ∀ i, i < a.heap.size → T' i → T i) : Fr T a c :=
  ⟨k.os.trans h.os, k.tape.trans h.tape, k.output.trans h.output, Nat.le_trans h.size k.size, fun i hi hn => (k.block i (Nat.lt_of_lt_of_le hi h.size) (fun q => hn (hT i hi q))).trans (h.block i hi hn)⟩
theorem Fr.mono {T T' : Nat → Prop} {a b : World} (h : Fr T a b) (hT : ∀ i, i < a.heap.size → T i → T' i) : Fr T' a b :=
  ⟨h.os, h.tape, h.output, h.size, fun i hi hn => h.block i hi fun q => hn (hT i hi q)⟩
theorem Fr.ofBelow {T : Nat → Prop} {a b : World} (h : Below a.heap.size a b) : Fr T a b := ⟨h.os, h.tape, h.output, h.size, fun i hi _ => h.block i hi⟩
theorem Fr.below {T : Nat → Prop} {B : Nat} {a b : World} (h : Fr T a b) (hT : ∀ i, T i → B ≤ i) (hB : B ≤ a.heap.size) : Below B a b :=
  ⟨h.os, h.tape, h.output, h.size, fun i hi => h.block i (by omega) fun q => by have := hT i q; omega⟩
theorem Fr.ofGrown {a b : World} {r : Option Nat} (h : a.grownBy b r) : Fr (fun i => r = some i) a b := ⟨h.os, h.tape, h.output, h.size, fun i hi hn => h.block i hi fun q => hn q.symm⟩
theorem Fr.setCell (w : World) (g i : Nat) (v : Value) : Fr (fun k => k = g) w (w.setCell ⟨g, i, none⟩ v) :=
  ⟨rfl, rfl, rfl, by simp, fun k _ hn => Below.heap_setCell w _ v k hn⟩
theorem Fr.alloc (T : Nat → Prop) (w : World) (o : Obj) : Fr T w (w.alloc o) := Fr.ofBelow ((Below.refl _ _).alloc (Nat.le_refl _) o)

theorem Fr.setRow (w : World) (g : Nat) (cs : Array Value) : Fr (fun k => k = g) w (w.setRow g cs) :=
  ⟨rfl, rfl, rfl, by simp, fun k _ hn => setRow_other w g k cs hn⟩
section
variable {α : Type} (row : α → List Value) (n : Nat)
theorem fm_len (hr : ∀ x, (row x).length = n) : ∀ l : List α, (l.flatMap row).length = l.length * n
  | [] => by simp
  | x :: t => by rw [List.flatMap_cons, List.length_append, hr x, fm_len hr t, List.length_cons, Nat.add_mul]; omega
theorem fm_get (hr : ∀ x, (row x).length = n) : ∀ (l : List α) (i j : Nat) (r : α), l[i]? = some r → j < n → (l.flatMap row)[i * n + j]? = (row r)[j]?
  | [], i, j, r, h, _ => by simp at h
  | x :: t, 0, j, r, h, hj => by
    have h' : x = r := by simpa using h
    subst h'
    rw [List.flatMap_cons, Nat.zero_mul, Nat.zero_add, List.getElem?_append_left (by rw [hr]; exact hj)]
  | x :: t, i + 1, j, r, h, hj => by
    have h' : t[i]? = some r := by simpa using h
    rw [List.flatMap_cons, List.getElem?_append_right (by rw [hr, Nat.add_mul]; omega), hr, show (i + 1) * n + j - n = i * n + j by rw [Nat.add_mul]; omega]
    exact fm_get hr t i j r h' hj
theorem fm_set (hr : ∀ x, (row x).length = n) : ∀ (l : List α) (i : Nat) (r : α), i < l.length → (l.flatMap row).take (i * n) ++ row r ++ (l.flatMap row).drop (i * n + n) = (l.set i r).flatMap row
  | [], i, r, h => by simp at h
  | x :: t, 0, r, _ => by
    rw [List.set_cons_zero, List.flatMap_cons, List.flatMap_cons, Nat.zero_mul, Nat.zero_add, List.take_zero, List.nil_append, ← hr x, List.drop_left]
  | x :: t, i + 1, r, h => by
    have ih := fm_set hr t i r (by simpa using h)
    have e1 : (i + 1) * n = (row x).length + i * n := by rw [hr, Nat.add_mul]; omega
    rw [List.set_cons_succ, List.flatMap_cons, List.flatMap_cons, ← ih, e1, List.take_length_add_append, Nat.add_assoc, List.drop_length_add_append]
    simp only [List.append_assoc]
end
section
variable {w W W' : World} {v v' : Value}
theorem append_gen {st e : TypeId} {i : TypeInfo} {z : Value} {size bytes : Nat} (ht : Tryz.prog.underlying st = some (.slice e)) (hi : Tryz.prog.info? e = some i) (hz : i.zero = some z) (hsize : i.size = size) (hby : i.bytes = bytes) (hzs : z.cells.size = size) (hsz : 0 < size)
    {B : Nat} {n : Nat} {xs : List Value} (hown : W.ownsRow B e size v n xs) {ad : Addr} {m c : Nat} {news : List Value} (hm : 0 < m) (hl : news.length = m * size)
    (hnews : ∀ j u, news[j]? = some u → W.cell? (ad.add j) = some u) (h1 : ∀ u ∈ news, u.oneCell' = true) (h63 : n + m ≤ maxLen) (hbytes : ((n + m) + (n + m) / 4 + 192) * bytes ≤ 281474976710656) (hB : B ≤ W.heap.size) (ty : TypeId) :
    ∃ v' w', (Builtin.append_ #[st, st] ty #[v, .slice (some ad) m c]).run Tryz.prog W = .ok v' w' ∧ w'.ownsRow B e size v' (n + m) (xs ++ news) ∧ Fr (fun k => v.ownBlock = some k) W w' ∧ ∀ k, v'.ownBlock = some k → v.ownBlock = some k ∨ W.heap.size ≤ k := by
  obtain ⟨v', w', hr, h2, hg, _⟩ := run_append_own_wide (P := Tryz.prog) W B st ty e i z size bytes ht hi hz hsize hby hzs hsz v n xs hown ad m c news hl hnews h1 h63 hbytes hB
  refine ⟨v', w', hr, h2, Fr.ofGrown hg, fun k hk => ?_⟩
  have hmx : n + m ≤ 9223372036854775807 := by simp only [maxLen] at h63; omega
  have hmb : m * i.bytes ≤ 281474976710656 := by
    rw [hby]
    exact Nat.le_trans (Nat.mul_le_mul_right _ (by omega)) hbytes
  subst hsize
  subst hby
  rcases hown.2 with ⟨rfl, rfl⟩ | ⟨g, cap, cur, rfl, _, hg', hnc, hcm, hcs, htake⟩
  · rw [run_append_nil (P := Tryz.prog) W st ty e i _ ht hi hz ad m c news hl hnews hm (by omega) hmb] at hr
    injection hr with q1 q2
    rw [← q1] at hk
    injection hk with hk
    exact .inr (by rw [← hk]; exact Nat.le_refl _)
  · by_cases hroom : n + m ≤ cap
    · have hfit : n * i.size + news.length ≤ cur.size := by rw [hl, hcs, ← Nat.add_mul]; exact Nat.mul_le_mul_right _ hroom
      rw [run_append_room (P := Tryz.prog) W st ty e i ht hi g n cap cur hg' ad m c news hl hnews h1 hroom hfit] at hr
      injection hr with q1 q2
      rw [← q1] at hk
      exact .inl hk
    · rw [run_append_grow (P := Tryz.prog) W st ty e i _ ht hi hz ⟨g, 0, none⟩ n cap xs hown.1 (hown.cells (g := g) rfl) ad m c news hl hnews (by omega) (by omega) (growslice_fits_wide (by omega) hbytes)] at hr
      injection hr with q1 q2
      rw [← q1] at hk
      injection hk with hk
      exact .inr (by rw [← hk]; exact Nat.le_refl _)
theorem exec_push {o : Oper} {a : Act} {s y : Operand} {st : TypeId} {ad : Addr} {m c : Nat} (ho : o.op = .call { callee := .builtin .append, args := #[s, y], argTypes := #[st, st] }) (hs : a.eval s = v) (hx : a.eval y = .slice (some ad) m c)
    (hr : (Builtin.append_ #[st, st] o.type #[v, .slice (some ad) m c]).run Tryz.prog W = .ok v' W') : (execOp a.eval o).run Tryz.prog W = .ok (.value v') W' := by
  simp [execOp, ho, resolve, invoke, builtin, hs, hx, hr, Result.andThen]
end
section
variable {α : Type} {en : α → List Value} {sz : Nat}
theorem fml (hr : ∀ x, (en x).length = sz) : ∀ l : List α, (l.flatMap en).length = l.length * sz
  | [] => by simp
  | x :: t => by rw [List.flatMap_cons, List.length_append, hr, fml hr t, List.length_cons, Nat.add_mul, Nat.one_mul, Nat.add_comm]
/-- A row with some cells written over. -/
def putE (cur : Array Value) (off : Nat) (r : List Value) : Array Value := (cur.toList.take off ++ r ++ cur.toList.drop (off + r.length)).toArray
theorem own_set (hr : ∀ x, (en x).length = sz) {B e g n c i : Nat} {w : World} {l : List α} {x : α} (h : w.ownsRow B e sz (.slice (some ⟨g, 0, none⟩) n c) n (l.flatMap en)) (hl : l.length = n) (hi : i < n) :
    ∃ cur, w.heap[g]? = some (.cells cur e) ∧ i * sz + sz ≤ cur.size ∧ (w.setRow g (putE cur (i * sz) (en x))).ownsRow B e sz (.slice (some ⟨g, 0, none⟩) n c) n ((l.set i x).flatMap en) := by
  obtain ⟨_, h2⟩ := h
  rcases h2 with ⟨q, _⟩ | ⟨g', cap, cur, hv, hB, hg, hnc, hcm, hcs, ht⟩
  · simp at q
  · injection hv with q1 q2 q3
    injection q1 with q1
    injection q1 with q1
    subst q1; subst q3
    have el : l = l.take i ++ l[i] :: l.drop (i + 1) := by rw [← List.drop_eq_getElem_cons (by omega), List.take_append_drop]
    have es : l.set i x = l.take i ++ x :: l.drop (i + 1) := List.set_eq_take_append_cons_drop.trans (if_pos (by omega))
    have hA : ((l.take i).flatMap en).length = i * sz := by rw [fml hr, List.length_take, Nat.min_eq_left (by omega)]
    have hC : ((l.drop (i + 1)).flatMap en).length = (n - (i + 1)) * sz := by rw [fml hr, List.length_drop, hl]
    have hF : l.flatMap en = (l.take i).flatMap en ++ (en l[i] ++ (l.drop (i + 1)).flatMap en) := by
      conv => lhs; rw [el]
      rw [List.flatMap_append, List.flatMap_cons]
    have hcur : cur.toList = (l.take i).flatMap en ++ (en l[i] ++ ((l.drop (i + 1)).flatMap en ++ cur.toList.drop (n * sz))) := by
      conv => lhs; rw [← List.take_append_drop (n * sz) cur.toList]
      rw [ht, hF, List.append_assoc, List.append_assoc]
    have hmul : i * sz + (sz + (n - (i + 1)) * sz) = n * sz := by
      rw [← Nat.add_assoc, show i * sz + sz = (i + 1) * sz by rw [Nat.add_mul, Nat.one_mul], ← Nat.add_mul]
      congr 1
      omega
    have hle : n * sz ≤ cur.size := by rw [hcs]; exact Nat.mul_le_mul_right _ hnc
    have hne : (l.set i x).flatMap en = (l.take i).flatMap en ++ (en x ++ (l.drop (i + 1)).flatMap en) := by rw [es, List.flatMap_append, List.flatMap_cons]
    generalize (l.take i).flatMap en = A at *
    generalize (l.drop (i + 1)).flatMap en = C at *
    generalize cur.toList.drop (n * sz) = R at *
    have hp : putE cur (i * sz) (en x) = (A ++ (en x ++ (C ++ R))).toArray := by
      unfold putE
      rw [hr, hcur, ← hA, List.take_left, show A.length + sz = (A ++ en l[i]).length by rw [List.length_append, hr], ← List.append_assoc, List.drop_left, List.append_assoc]
    have hcl : cur.size = A.length + (sz + (C.length + R.length)) := by
      rw [← Array.length_toList, hcur, List.length_append, List.length_append, List.length_append, hr]
    refine ⟨cur, hg, by omega, ?_⟩
    rw [hp, hne]
    refine ⟨by rw [List.length_append, List.length_append, hr, hA, hC]; exact hmul, .inr ⟨g, c, _, rfl, hB, setRow_heap _ _ _ _ _ _ hg, hnc, hcm, ?_, ?_⟩⟩
    · rw [List.size_toArray, List.length_append, List.length_append, List.length_append, hr, ← hcl, hcs]
    · rw [List.toList_toArray, show n * sz = (A ++ (en x ++ C)).length by rw [List.length_append, List.length_append, hr, hA, hC]; exact hmul.symm, ← List.append_assoc, ← List.append_assoc, ← List.append_assoc, List.take_left]
theorem own_other {B e n g : Nat} {w : World} {v : Value} {xs : List Value} (h : w.ownsRow B e sz v n xs) (hg : v.ownBlock ≠ some g) (cs : Array Value) : (w.setRow g cs).ownsRow B e sz v n xs := by
  obtain ⟨h1, h2⟩ := h
  refine ⟨h1, ?_⟩
  rcases h2 with h2 | ⟨g', cap, cur, rfl, hB, hh, r⟩
  · exact .inl h2
  · refine .inr ⟨g', cap, cur, rfl, hB, ?_, r⟩
    rw [setRow_other w g g' cs fun q => hg (by rw [q]; rfl)]
    exact hh
theorem own_later {w w' : World} {base e size : Nat} {v : Value} {n : Nat} {xs : List Value} (h : w.ownsRow base e size v n xs) (hb : Below w.heap.size w w') : w'.ownsRow base e size v n xs := by
  obtain ⟨h1, h2⟩ := h
  refine ⟨h1, ?_⟩
  rcases h2 with h2 | ⟨g, cap, cur, hv, hg, hh, r⟩
  · exact .inl h2
  · exact .inr ⟨g, cap, cur, hv, hg, (hb.block g (Array.getElem?_eq_some_iff.1 hh).1).trans hh, r⟩
theorem own_frame {w w' : World} {base e size : Nat} {v : Value} {n : Nat} {xs : List Value} {T : Nat → Prop} (h : w.ownsRow base e size v n xs) (hf : Fr T w w') (hT : ∀ i, v.ownBlock = some i → ¬ T i) : w'.ownsRow base e size v n xs := by
  obtain ⟨h1, h2⟩ := h
  refine ⟨h1, ?_⟩
  rcases h2 with h2 | ⟨g, cap, cur, rfl, hg, hh, r⟩
  · exact .inl h2
  · exact .inr ⟨g, cap, cur, rfl, hg, (hf.block g (Array.getElem?_eq_some_iff.1 hh).1 (hT g rfl)).trans hh, r⟩
theorem own_get (hr : ∀ x, (en x).length = sz) {B e g n c i : Nat} {w : World} {l : List α} {x : α} (h : w.ownsRow B e sz (.slice (some ⟨g, 0, none⟩) n c) n (l.flatMap en)) (hx : l[i]? = some x) : ∀ j v, (en x)[j]? = some v → w.cell? ⟨g, i * sz + j, none⟩ = some v := fun j v hv => by
  have hj : j < sz := by have := (List.getElem?_eq_some_iff.1 hv).1; rwa [hr] at this
  have hln := h.1
  rw [fml hr] at hln
  have hi : i < l.length := (List.getElem?_eq_some_iff.1 hx).1
  have hlt : i * sz + j < n * sz := by
    rw [← hln]
    have : (i + 1) * sz ≤ l.length * sz := Nat.mul_le_mul_right _ hi
    rw [Nat.add_mul, Nat.one_mul] at this
    omega
  rw [World.ownsRow.cellAt h _ hlt, fm_get (row := en) (n := sz) hr l i j x hx hj]
  exact hv
theorem own_form {w : World} {B e n : Nat} {v : Value} {xs : List Value} (h : w.ownsRow B e sz v n xs) : (v = .slice none 0 0 ∧ n = 0) ∨ ∃ g c, v = .slice (some ⟨g, 0, none⟩) n c ∧ g < w.heap.size := by
  rcases h.2 with q | ⟨g, c, cur, hv, _, hh, _⟩
  · exact .inl q
  · exact .inr ⟨g, c, hv, (Array.getElem?_eq_some_iff.1 hh).1⟩
/-- Append onto a list: the longer one, what stays, and that the shorter one is as it was. -/
theorem append_keep {st e : TypeId} {i : TypeInfo} {z : Value} {bytes : Nat} (ht : Tryz.prog.underlying st = some (.slice e)) (hi : Tryz.prog.info? e = some i) (hz : i.zero = some z) (hsize : i.size = sz) (hby : i.bytes = bytes) (hzs : z.cells.size = sz) (hsz : 0 < sz)
    {W : World} {v : Value} {B : Nat} {n : Nat} {xs : List Value} (hown : W.ownsRow B e sz v n xs) {ad : Addr} {m c : Nat} {news : List Value} (hm : 0 < m) (hl : news.length = m * sz)
    (hnews : ∀ j u, news[j]? = some u → W.cell? (ad.add j) = some u) (h1 : ∀ u ∈ news, u.oneCell' = true) (h63 : n + m ≤ maxLen) (hbytes : ((n + m) + (n + m) / 4 + 192) * bytes ≤ 281474976710656) (hB : B ≤ W.heap.size) (ty : TypeId) :
    ∃ v' w', (Builtin.append_ #[st, st] ty #[v, .slice (some ad) m c]).run Tryz.prog W = .ok v' w' ∧ w'.ownsRow B e sz v' (n + m) (xs ++ news) ∧ w'.ownsRow B e sz v n xs ∧ Fr (fun k => v.ownBlock = some k) W w' ∧ ∀ k, v'.ownBlock = some k → v.ownBlock = some k ∨ W.heap.size ≤ k := by
  obtain ⟨v', w', hr, h2, hg, h4⟩ := append_gen (W := W) (v := v) ht hi hz hsize hby hzs hsz hown (ad := ad) (m := m) (c := c) hm hl hnews h1 h63 hbytes hB ty
  refine ⟨v', w', hr, h2, ?_, hg, h4⟩
  have hmx : n + m ≤ 9223372036854775807 := by simp only [maxLen] at h63; omega
  subst hsize
  subst hby
  have hown' := hown
  rcases hown.2 with ⟨rfl, rfl⟩ | ⟨g, cap, cur, rfl, hBg, hg', hnc, hcm, hcs, htake⟩
  · exact ⟨hown.1, .inl ⟨rfl, rfl⟩⟩
  · by_cases hroom : n + m ≤ cap
    · have hfit : n * i.size + news.length ≤ cur.size := by rw [hl, hcs, ← Nat.add_mul]; exact Nat.mul_le_mul_right _ hroom
      rw [run_append_room (P := Tryz.prog) W st ty e i ht hi g n cap cur hg' ad m c news hl hnews h1 hroom hfit] at hr
      injection hr with q1 q2
      subst q1
      rcases h2.2 with ⟨q, _⟩ | ⟨g2, cap2, cur2, q, _, hh2, _, _, hcs2, ht2⟩
      · simp at q
      · injection q with q1 q2' q3
        injection q1 with q1
        injection q1 with q1
        subst q1; subst q3
        refine ⟨hown.1, .inr ⟨g, cap, cur2, rfl, hBg, hh2, hnc, hcm, hcs2, ?_⟩⟩
        have hx := hown.1
        rw [show cur2.toList.take (n * i.size) = (cur2.toList.take ((n + m) * i.size)).take (n * i.size) by rw [List.take_take, Nat.min_eq_left (Nat.mul_le_mul_right _ (by omega))], ht2, ← hx, List.take_left]
    · rw [run_append_grow (P := Tryz.prog) W st ty e i _ ht hi hz ⟨g, 0, none⟩ n cap xs hown.1 (hown.cells (g := g) rfl) ad m c news hl hnews (by omega) (by omega) (growslice_fits_wide (by omega) hbytes)] at hr
      injection hr with q1 q2
      rw [← q2]
      exact World.ownsRow.alloc (show W.drew.ownsRow B e i.size _ n xs from hown') _
/-- Marks in a list. -/
def mks (mk : Nat → α) (n : Nat) : List α := (List.range n).map mk
theorem mks_len (mk : Nat → α) (n : Nat) : (mks mk n).length = n := by simp [mks]
theorem mks_succ (mk : Nat → α) (n : Nat) : mks mk (n + 1) = mks mk n ++ [mk n] := by simp [mks, List.range_succ]
theorem mks_get (mk : Nat → α) (n i : Nat) (h : i < n) : (mks mk n)[i]? = some (mk i) := by simp [mks, h]
/-- l, its first i as marks. -/
def asM (mk : Nat → α) (l : List α) (i : Nat) : List α := mks mk i ++ l.drop i
theorem asM_len (mk : Nat → α) (l : List α) (i : Nat) (h : i ≤ l.length) : (asM mk l i).length = l.length := by
  unfold asM
  rw [List.length_append, mks_len, List.length_drop]
  omega
theorem asM_set (mk : Nat → α) (l : List α) (i : Nat) (h : i < l.length) : (asM mk l i).set i (mk i) = asM mk l (i + 1) := by
  unfold asM
  rw [mks_succ, List.set_append_right _ _ (by rw [mks_len]; omega), mks_len, Nat.sub_self, List.drop_eq_getElem_cons h, List.set_cons_zero, List.append_assoc]
  rfl
theorem asM_full (mk : Nat → α) (l : List α) : asM mk l l.length = mks mk l.length := by unfold asM; rw [List.drop_length, List.append_nil]
theorem asM_zero (mk : Nat → α) (l : List α) : asM mk l 0 = l := by unfold asM mks; simp
end
end Go.Proofs.YtlcdpmjdnihocaaGreat
/- Rows of numbers of one kind as functions of their places; compared, loaded from the middle of rows; no condition. -/
namespace Go.Proofs.YtlcdpmjdnihocaaGreat
open Go.RowKit Go.Maps
/-- A row of n numbers of a kind, f of each place. -/
def rowN (kd : IntKind) (f : Nat → Int) (n : Nat) : Array Value := ((List.range n).map fun i => Value.int kd (f i)).toArray
def updN (f : Nat → Int) (i : Nat) (x : Int) : Nat → Int := fun j => if j = i then x else f j
def nought : Nat → Int := fun _ => 0
/-- A block's cells. -/
def blk (f : Nat → Int) : Array Value := rowN .u8 f 1024
theorem rowN_size (kd : IntKind) (f : Nat → Int) (n : Nat) : (rowN kd f n).size = n := by simp [rowN]
theorem rowN_get (kd : IntKind) (f : Nat → Int) (n i : Nat) (h : i < n) : (rowN kd f n)[i]? = some (.int kd (f i)) := by simp [rowN, h]
theorem rowN_ext {kd : IntKind} {cs : Array Value} {f : Nat → Int} {n : Nat} (hs : cs.size = n) (h : ∀ i, i < n → cs[i]? = some (.int kd (f i))) : cs = rowN kd f n := by
  apply Array.ext_getElem?
  intro j
  by_cases hj : j < n
  · rw [h j hj, rowN_get _ _ _ _ hj]
  · rw [Array.getElem?_eq_none (by omega), Array.getElem?_eq_none (by rw [rowN_size]; omega)]
theorem rowN_congr {kd : IntKind} {f g : Nat → Int} {n : Nat} (h : ∀ i, i < n → f i = g i) : rowN kd f n = rowN kd g n :=
  rowN_ext (rowN_size kd f n) fun i hi => by rw [rowN_get _ _ _ _ hi, h i hi]
theorem rowN_set (kd : IntKind) (f : Nat → Int) (n i : Nat) (x : Int) : (rowN kd f n).setIfInBounds i (.int kd x) = rowN kd (updN f i x) n := by
  refine rowN_ext (by rw [Array.size_setIfInBounds, rowN_size]) fun j hj => ?_
  rw [Array.getElem?_setIfInBounds]
  by_cases e : i = j
  · subst e; simp [rowN_size, hj, updN]
  · have e' : ¬ j = i := fun q => e q.symm
    simp [e, e', rowN_get _ _ _ _ hj, updN]
theorem rowN_one (kd : IntKind) (f : Nat → Int) (n : Nat) : (rowN kd f n).all (·.oneCell') = true := by
  rw [Array.all_eq_true_iff_forall_mem]
  intro v hv
  simp [rowN] at hv
  obtain ⟨i, _, rfl⟩ := hv
  rfl
theorem setCell_rowN {w : World} {g m : Nat} {kd : IntKind} {f : Nat → Int} {t : TypeId} (h : w.heap[g]? = some (.cells (rowN kd f m) t)) (i : Nat) (x : Int) : (w.setCell ⟨g, i, none⟩ (.int kd x)).heap[g]? = some (.cells (rowN kd (updN f i x) m) t) := by
  rw [heap_setCell_same _ _ _ _ _ _ h, rowN_set]
theorem cell_rowN {w : World} {g m : Nat} {kd : IntKind} {f : Nat → Int} {t : TypeId} (h : w.heap[g]? = some (.cells (rowN kd f m) t)) {i : Nat} (hi : i < m) : w.cell? ⟨g, i, none⟩ = some (.int kd (f i)) := by
  rw [cell_of_row _ _ i _ t _ h, rowN_get _ _ _ _ hi]
theorem frozen_row {w : World} {g : Nat} {cs : Array Value} {t : TypeId} (h : w.heap[g]? = some (.cells cs t)) (i : Nat) : w.frozen? ⟨g, i, none⟩ = false := by simp [World.frozen?, h]
theorem heap_two (w : World) (a b : Obj) : ((w.alloc a).alloc b).heap[w.heap.size + 1]? = some b := by
  have := heap_alloc_new (w.alloc a) b
  simpa using this
/-- A row of numbers that lies in a larger row. -/
def NumsAt (w : World) (kd : IntKind) (b off : Nat) (f : Nat → Int) (n : Nat) : Prop := ∀ i, i < n → w.cell? ⟨b, off + i, none⟩ = some (.int kd (f i))
theorem NumsAt.later {w W : World} {kd : IntKind} {b off n : Nat} {f : Nat → Int} (h : NumsAt w kd b off f n) (hb : Below w.heap.size w W) (hlt : b < w.heap.size) : NumsAt W kd b off f n := fun i hi => (hb.cell (p := ⟨b, off + i, none⟩) hlt).trans (h i hi)
theorem NumsAt.of {w : World} {kd : IntKind} {g n : Nat} {f : Nat → Int} {t : TypeId} (h : w.heap[g]? = some (.cells (rowN kd f n) t)) : NumsAt w kd g 0 f n := fun i hi => by rw [Nat.zero_add]; exact cell_rowN h hi
theorem blk_at {w : World} {g : Nat} {f : Nat → Int} {t : TypeId} (h : w.heap[g]? = some (.cells (blk f) t)) : NumsAt w .u8 g 0 f 1024 := NumsAt.of (n := 1024) h
theorem size77 : (Tryz.prog.info? 79).map (·.size) = some 1024 := by kernel_rfl
theorem zero77 : ∀ w, (zeroValue 79).run Tryz.prog w = .ok (.agg (blk nought)) w := (zero_of_info (show (Tryz.prog.info? 79).map (fun i => (i.zero, i.size)) = some (some (.agg (blk nought)), 1024) by kernel_rfl)).1
theorem blk_size (f : Nat → Int) : (blk f).size = 1024 := rowN_size _ _ _
/-- A block is loaded from the middle of a row. -/
theorem loadB {w : World} {b off : Nat} {f : Nat → Int} (h : NumsAt w .u8 b off f 1024) : (Instr.loadAt 79 (.pointer (some ⟨b, off, none⟩))).run Tryz.prog w = .ok (.agg (blk f)) w := by
  have hr : w.rangeAt b off (blk f).toList := fun j v hv => by
    have hj : j < 1024 := by
      have := (List.getElem?_eq_some_iff.1 hv).1
      rw [Array.length_toList, blk_size] at this
      exact this
    rw [Array.getElem?_toList, show (blk f)[j]? = some (.int .u8 (f j)) from rowN_get _ _ _ _ hj] at hv
    injection hv with hv
    rw [← hv]
    exact h j hj
  have := run_loadAt_mid (P := Tryz.prog) w b off 79 (blk f).toList _ hr Tryz.underlying79 rfl (by rw [Array.length_toList, blk_size]; exact size77)
  rwa [Array.toArray_toList] at this
section
variable {ops : Array Oper} {rest : List Oper} {o : Oper} {a : Act} {w : World} {Q : Exit → Act → World → Prop}
theorem wpList_ldB (hw : Region.wanted o (yielded ops a.tmps) = true) (x : Operand) (ho : o.op = .load 79 x) (b off : Nat) (f : Nat → Int) (hx : a.eval x = .pointer (some ⟨b, off, none⟩)) (hg : NumsAt w .u8 b off f 1024)
    (h : wpList Tryz.prog ops Q rest (a.put o.dst (.agg (blk f))) w) : wpList Tryz.prog ops Q (o :: rest) a w := by
  unfold wpList
  rw [if_pos hw]
  refine .inl ?_
  unfold Oper.wp execOp
  simp only [ho, hx, loadB hg, Sem.run_bind, Result.andThen_ok, Sem.run_pure]
  exact h
theorem wpList_stB (hgd : o.guard = none) (x y : Operand) (ho : o.op = .store 79 x y) (g : Nat) (f f0 : Nat → Int) (t : TypeId) (hx : a.eval x = .pointer (some ⟨g, 0, none⟩)) (hy : a.eval y = .agg (blk f)) (hg : w.heap[g]? = some (.cells (blk f0) t))
    (h : wpList Tryz.prog ops Q rest (a.put o.dst undef) (w.setRow g (blk f))) : wpList Tryz.prog ops Q (o :: rest) a w :=
  wpList_stR 79 hgd x y ho g (blk f) (blk f0) t (by rw [blk_size]; exact size77) (by rw [blk_size, blk_size]) (rowN_one _ _ _) hx hy hg h
/-- A block is stored into a new row of its own. -/
theorem wpList_stBn (hgd : o.guard = none) (x y : Operand) (ho : o.op = .store 79 x y) (g : Nat) (f f0 : Nat → Int) (t : TypeId) (hx : a.eval x = .pointer (some ⟨g, 0, none⟩)) (hgw : g = w.heap.size) (hy : a.eval y = .agg (blk f))
    (h : wpList Tryz.prog ops Q rest (a.put o.dst undef) (w.alloc (.cells (blk f) t))) : wpList Tryz.prog ops Q (o :: rest) a (w.alloc (.cells (blk f0) t)) :=
  wpList_stNew 79 hgd x y ho g (blk f) (blk f0) t (by rw [blk_size]; exact size77) (by rw [blk_size, blk_size]) (rowN_one _ _ _) hx hgw hy h
end
theorem retB {fn : Func} {p : Tmp} {R : Ending → World → Prop} {a : Act} {w : World} (h : fn.results = #[.cell p 79]) (g : Nat) (f : Nat → Int) (t : TypeId) (hp : a.tmps.getD p undef = .pointer (some ⟨g, 0, none⟩)) (hg : w.heap[g]? = some (.cells (blk f) t)) (hdf : a.defers = []) (hR : R (.returned (.agg (blk f))) w) : bodyPost Tryz.prog fn R .ret a w :=
  retR Tryz.underlying79 rfl h g (blk f) t (by rw [blk_size]; exact size77) hp hg hdf hR
end Go.Proofs.YtlcdpmjdnihocaaGreat
/- Rows of bytes held against each other: equal just where every byte is; of any length. -/
namespace Go.Proofs.YtlcdpmjdnihocaaGreat
open Go.RowKit Go.Maps
def sameN (m : Nat) (f g : Nat → Int) : Bool := (List.range m).all fun i => f i == g i
theorem sameN_iff (m : Nat) (f g : Nat → Int) : sameN m f g = true ↔ ∀ i, i < m → f i = g i := by
  simp [sameN, List.all_eq_true, List.mem_range]
theorem sameN_self (m : Nat) (f : Nat → Int) : sameN m f f = true := (sameN_iff m f f).2 fun _ _ => rfl
theorem part5 (f : Nat → Int) (m i : Nat) (hi : i < m) (w : World) : (part 5 (rowN .u8 f m) (i * 1)).run Tryz.prog w = .ok (.int .u8 (f i)) w := by
  have hb := rowN_get .u8 f m i hi
  simp [part, Tryz.isAgg5, hb]
theorem eachN (d m : Nat) (f g : Nat → Int) (w : World) : ∀ l : List Nat, (∀ i, i ∈ l → i < m) →
    (forIn (m := Sem) l ((none : Option Bool), ()) fun i _ => do
            let x ← part 5 (rowN .u8 f m) (i * 1)
            let y ← part 5 (rowN .u8 g m) (i * 1)
            let b ← Op.equalIn (d + 1) 5 x y
            if (!b) = true then pure (ForInStep.done (some false, ())) else pure (ForInStep.yield (none, ()))).run Tryz.prog w
      = .ok ((if l.all (fun i => f i == g i) then none else some false), ()) w
  | [], _ => by simp
  | i :: l, h => by
    have h1 := part5 f m i (h i (by simp)) w
    have h2 := part5 g m i (h i (by simp)) w
    have ih := eachN d m f g w l fun j hj => h j (by simp [hj])
    have he := run_equalIn_int (P := Tryz.prog) w d 5 .u8 .u8 (f i) (g i) Tryz.underlying5
    simp only [List.forIn_cons, Sem.run_bind, h1, h2, he, Result.andThen_ok, List.all_cons]
    by_cases e : f i = g i
    · simp only [e, beq_self_eq_true, Bool.not_true, Bool.false_eq_true, if_false, Sem.run_pure, Result.andThen_ok, Bool.true_and]
      exact ih
    · have e' : (f i == g i) = false := by simp [e]
      simp [e']
theorem eqIn (d : Nat) {t : TypeId} {m : Nat} (hu : Tryz.prog.underlying t = some (.array m 5)) (f g : Nat → Int) (w : World) : (Op.equalIn (d + 1 + 1) t (.agg (rowN .u8 f m)) (.agg (rowN .u8 g m))).run Tryz.prog w = .ok (sameN m f g) w := by
  have key := eachN d m f g w (List.range' 0 [:m].size) (fun i hi => by simpa [Std.Legacy.Range.size] using hi)
  rw [Op.equalIn]
  simp only [Sem.run_bind, run_underlying hu, Result.andThen_ok]
  rw [show (sizeOf 5).run Tryz.prog w = .ok 1 w by simp [go_sem]]
  simp only [Result.andThen_ok, Std.Legacy.Range.forIn_eq_forIn_range']
  refine (congrArg (fun r => Result.andThen r _) key).trans ?_
  have hr : List.range' 0 [:m].size = List.range m := by simp [Std.Legacy.Range.size, List.range_eq_range']
  rw [hr]
  show Result.andThen (Result.ok ((if sameN m f g = true then none else some false), ()) w) _ = _
  cases sameN m f g <;> simp
section
variable {ops : Array Oper} {rest : List Oper} {o : Oper} {a : Act} {w : World} {Q : Exit → Act → World → Prop}
theorem exec_mv {x : Operand} {v : Value} {W : World} (ho : o.op = .move x) (hx : a.eval x = v) : (execOp a.eval o).run Tryz.prog W = .ok (.value v) W := by simp [execOp, ho, hx]
theorem exec_eqN {t t' : TypeId} {m : Nat} {W : World} (hu : Tryz.prog.underlying t = some (.array m 5)) (hG : Tryz.prog.eqGuardType Tryz.prog.depth t = false) (x y : Operand) (ho : o.op = .binOp .eql t x y t') (f g : Nat → Int) (b : Bool) (hx : a.eval x = .agg (rowN .u8 f m)) (hy : a.eval y = .agg (rowN .u8 g m)) (hb : sameN m f g = b) : (execOp a.eval o).run Tryz.prog W = .ok (.value (.bool b)) W := by
  have e : (binOp .eql t (.agg (rowN .u8 f m)) (.agg (rowN .u8 g m))).run Tryz.prog W = .ok (.bool b) W := by
    have h := eqIn 9998 hu f g W
    rw [hb] at h
    generalize rowN .u8 f m = F at *
    generalize rowN .u8 g m = G at *
    simp only [binOp, Op.equal, Op.maxDepth, Sem.run_bind, h, Result.andThen_ok, Sem.run_pure]
  unfold execOp
  simp only [ho, hx, hy, Sem.run_bind, run_eqGuard_agg W _ t _ _ _ _ hG, e, Result.andThen_ok, Sem.run_pure]
theorem exec_neN {t t' : TypeId} {m : Nat} {W : World} (hu : Tryz.prog.underlying t = some (.array m 5)) (hG : Tryz.prog.eqGuardType Tryz.prog.depth t = false) (x y : Operand) (ho : o.op = .binOp .neq t x y t') (f g : Nat → Int) (b : Bool) (hx : a.eval x = .agg (rowN .u8 f m)) (hy : a.eval y = .agg (rowN .u8 g m)) (hb : sameN m f g = b) : (execOp a.eval o).run Tryz.prog W = .ok (.value (.bool (!b))) W := by
  have e : (binOp .neq t (.agg (rowN .u8 f m)) (.agg (rowN .u8 g m))).run Tryz.prog W = .ok (.bool (!b)) W := by
    have h := eqIn 9998 hu f g W
    rw [hb] at h
    generalize rowN .u8 f m = F at *
    generalize rowN .u8 g m = G at *
    simp only [binOp, Op.equal, Op.maxDepth, Sem.run_bind, h, Result.andThen_ok, Sem.run_pure]
  unfold execOp
  simp only [ho, hx, hy, Sem.run_bind, run_eqGuard_agg W _ t _ _ _ _ hG, e, Result.andThen_ok, Sem.run_pure]
theorem wpList_eqN {t t' : TypeId} {m : Nat} (hu : Tryz.prog.underlying t = some (.array m 5)) (hG : Tryz.prog.eqGuardType Tryz.prog.depth t = false) (hw : Region.wanted o (yielded ops a.tmps) = true) (x y : Operand) (ho : o.op = .binOp .eql t x y t') (f g : Nat → Int) (b : Bool) (hx : a.eval x = .agg (rowN .u8 f m)) (hy : a.eval y = .agg (rowN .u8 g m)) (hb : sameN m f g = b)
    (h : wpList Tryz.prog ops Q rest (a.put o.dst (.bool b)) w) : wpList Tryz.prog ops Q (o :: rest) a w :=
  BigFrame.wpList_want hw fun _ hK => by
    have e : (binOp .eql t (.agg (rowN .u8 f m)) (.agg (rowN .u8 g m))).run Tryz.prog w = .ok (.bool b) w := by
      have h := eqIn 9998 hu f g w
      rw [hb] at h
      generalize rowN .u8 f m = F at *
      generalize rowN .u8 g m = G at *
      simp only [binOp, Op.equal, Op.maxDepth, Sem.run_bind, h, Result.andThen_ok, Sem.run_pure]
    unfold Oper.wp execOp
    simp only [ho, hx, hy, Sem.run_bind, run_eqGuard_agg w _ t _ _ _ _ hG, e, Result.andThen_ok, Sem.run_pure]
    exact hK _ _ h
theorem wpList_neN {t t' : TypeId} {m : Nat} (hu : Tryz.prog.underlying t = some (.array m 5)) (hG : Tryz.prog.eqGuardType Tryz.prog.depth t = false) (hw : Region.wanted o (yielded ops a.tmps) = true) (x y : Operand) (ho : o.op = .binOp .neq t x y t') (f g : Nat → Int) (b : Bool) (hx : a.eval x = .agg (rowN .u8 f m)) (hy : a.eval y = .agg (rowN .u8 g m)) (hb : sameN m f g = b)
    (h : wpList Tryz.prog ops Q rest (a.put o.dst (.bool (!b))) w) : wpList Tryz.prog ops Q (o :: rest) a w :=
  BigFrame.wpList_want hw fun _ hK => by
    have e : (binOp .neq t (.agg (rowN .u8 f m)) (.agg (rowN .u8 g m))).run Tryz.prog w = .ok (.bool (!b)) w := by
      have h := eqIn 9998 hu f g w
      rw [hb] at h
      generalize rowN .u8 f m = F at *
      generalize rowN .u8 g m = G at *
      simp only [binOp, Op.equal, Op.maxDepth, Sem.run_bind, h, Result.andThen_ok, Sem.run_pure]
    unfold Oper.wp execOp
    simp only [ho, hx, hy, Sem.run_bind, run_eqGuard_agg w _ t _ _ _ _ hG, e, Result.andThen_ok, Sem.run_pure]
    exact hK _ _ h
/-- The row of noughts is made. -/
theorem wpList_zeroN {t : TypeId} {m : Nat} (hu : Tryz.prog.underlying t = some (.array m 5)) (hz : ∀ w, (zeroValue t).run Tryz.prog w = .ok (.agg (rowN .u8 nought m)) w) (hw : Region.wanted o (yielded ops a.tmps) = true) (ho : o.op = .build t #[])
    (h : wpList Tryz.prog ops Q rest (a.put o.dst (.agg (rowN .u8 nought m))) w) : wpList Tryz.prog ops Q (o :: rest) a w :=
  BigFrame.wpList_want hw fun _ hK => by
    unfold Oper.wp
    rw [show (execOp a.eval o).run Tryz.prog w = .ok (.value (.agg (rowN .u8 nought m))) w by
      generalize rowN .u8 nought m = Z at *
      simp [execOp, ho, Instr.build, hz, run_underlying hu, Instr.fill, Value.cells]]
    exact hK _ _ h
end
end Go.Proofs.YtlcdpmjdnihocaaGreat
/- Regions whose order is drawn, walked in an order or a tree of orders that is told; no condition. -/
namespace Go.Proofs.YtlcdpmjdnihocaaGreat
open Go.RowKit

section
variable {P : Program} {ops : Array Oper} {Q : Exit → Act → World → Prop} {S : World → Prop}

/-- May the operations be taken in this order? true: it is taken first; false: nothing else may come up. -/
def ordB (ops : Array Oper) : List (Nat × Bool) → Array Bool → Bool
  | [], listed => (Region.ready .any ops listed).isEmpty
  | (i, true) :: r, listed => (Region.ready .any ops listed).contains i && Region.free .any ops listed i && (ops[i]?).isSome && ordB ops r (listed.setIfInBounds i true)
  | (i, false) :: r, listed => (Region.ready .any ops listed == [i]) && (ops[i]?).isSome && ordB ops r (listed.setIfInBounds i true)

/-- The operations themselves, in that order. -/
def inOrd (ol : List Oper) : List (Nat × Bool) → List (Bool × Oper)
  | [] => []
  | (i, b) :: r => match ol[i]? with
    | some o => (b, o) :: inOrd ol r
    | none => inOrd ol r

def wpOrd (P : Program) (ops : Array Oper) (Q : Exit → Act → World → Prop) (S : World → Prop) : List (Bool × Oper) → Act → World → Prop
  | [], a, w => Q .normal a w
  | (true, o) :: r, a, w => ∃ v, YieldsIf P ops S o v a ∧ wpOrd P ops Q S r (a.put o.dst v) w
  | (false, o) :: r, a, w => if Region.wanted o (yielded ops a.tmps) then o.wp P a w (fun a' w' => S w' ∧ wpOrd P ops Q S r a' w') Q else S w ∧ wpOrd P ops Q S r (a.put o.dst undef) w

theorem wpOrd_any {ol : List Oper} (hs : Region.noSelect ol.toArray = true) (hQ : ∀ d v c a w, Q (.panic c) (a.put d v) w → Q (.panic c) a w) : ∀ (l : List (Nat × Bool)) (listed : Array Bool) (a : Act) (w : World), S w →
    ordB ol.toArray l listed = true → wpOrd P ol.toArray Q S (inOrd ol l) a w → wpAnyH P .any ol.toArray Q S l.length listed a w
  | [], listed, a, w, _, hB, h => wpAnyH_done (by simpa [ordB] using hB) h _
  | (i, true) :: r, listed, a, w, hS, hB, h => by
    simp only [ordB, Bool.and_eq_true] at hB
    obtain ⟨⟨⟨h1, h2⟩, h3⟩, h4⟩ := hB
    obtain ⟨o, hi⟩ := Option.isSome_iff_exists.1 h3
    have hi' : ol[i]? = some o := by simpa using hi
    simp only [inOrd, hi', wpOrd] at h
    obtain ⟨v, hy, hr⟩ := h
    exact wpAnyH_take hi hs h2 h1 (fun c a w => hQ _ _ c a w) hy hS (wpOrd_any hs hQ r _ _ w hS h4 hr)
  | (i, false) :: r, listed, a, w, hS, hB, h => by
    simp only [ordB, Bool.and_eq_true, beq_iff_eq] at hB
    obtain ⟨⟨h1, h3⟩, h2⟩ := hB
    obtain ⟨o, hi⟩ := Option.isSome_iff_exists.1 h3
    have hi' : ol[i]? = some o := by simpa using hi
    simp only [inOrd, hi', wpOrd] at h
    refine wpAnyH_all h1 (by simp) fun j hj => ?_
    obtain rfl : j = i := by simpa using hj
    unfold wpOp
    rw [hi]
    simp only
    split
    · rename_i hw
      rw [if_pos hw] at h
      exact .inl (Oper.wp_mono (fun a' w' h' => ⟨h'.1, wpOrd_any hs hQ r _ a' w' h'.1 h2 h'.2⟩) h)
    · rename_i hw
      rw [if_neg hw] at h
      exact ⟨h.1, wpOrd_any hs hQ r _ _ w h.1 h2 h.2⟩

/-- A region that draws its order, walked in the order l. -/
theorem wp_region_ord {id : Nat} {a : Act} {w : World} {ol : List Oper} (l : List (Nat × Bool)) (hm : P.follows .mixedOrders = true) (hl : l.length = ol.length)
    (hB : (Region.noSelect ol.toArray && ordB ol.toArray l (Array.replicate ol.toArray.size false)) = true) (hQ : ∀ d v c a w, Q (.panic c) (a.put d v) w → Q (.panic c) a w)
    (hS : S w.drew) (h : wpOrd P ol.toArray Q S (inOrd ol l) a w.drew) : (Code.region id ol.toArray true).wp P Q a w := by
  simp only [Bool.and_eq_true] at hB
  have h1 := wpOrd_any hB.1 hQ l _ a w.drew hS hB.2 h
  rw [hl] at h1
  exact wp_region_held hm (by simpa using h1)

theorem wpOrd_nil {a : Act} {w : World} (h : Q .normal a w) : wpOrd P ops Q S [] a w := h
theorem wpOrd_skip {r : List (Bool × Oper)} {b : Bool} {a : Act} {w : World} {o : Oper} (hS : S w) (hw : Region.wanted o (yielded ops a.tmps) = false) (h : wpOrd P ops Q S r (a.put o.dst undef) w) :
    wpOrd P ops Q S ((b, o) :: r) a w := by
  cases b
  · simp only [wpOrd, hw, Bool.false_eq_true, if_false]
    exact ⟨hS, h⟩
  · exact ⟨undef, .inr ⟨hw, rfl⟩, h⟩
theorem wpOrd_yield {r : List (Bool × Oper)} {a : Act} {w : World} {o : Oper} {v : Value} (hw : Region.wanted o (yielded ops a.tmps) = true)
    (hr : ∀ u, S u → (execOp a.eval o).run P u = .ok (.value v) u) (h : wpOrd P ops Q S r (a.put o.dst v) w) : wpOrd P ops Q S ((true, o) :: r) a w :=
  ⟨v, .inl ⟨hw, hr⟩, h⟩
theorem wpOrd_move {r : List (Bool × Oper)} {a : Act} {w : World} {o : Oper} (hw : Region.wanted o (yielded ops a.tmps) = true) (x : Operand) (ho : o.op = .move x)
    (h : wpOrd P ops Q S r (a.put o.dst (a.eval x)) w) : wpOrd P ops Q S ((true, o) :: r) a w :=
  wpOrd_yield hw (fun u _ => by simp [execOp, ho]) h
theorem wpOrd_call {r : List (Bool × Oper)} {a : Act} {w : World} {o : Oper} (hw : Region.wanted o (yielded ops a.tmps) = true) (f : FuncId) (xs : List Operand) (ts : Array TypeId)
    (ho : o.op = .call { callee := .value (.func f), args := xs.toArray, argTypes := ts }) (hc : ∀ args u, (callFunc f args).run P u = .ok (.enter f args) u) (args : List Value) (hx : xs.map a.eval = args)
    (h : Calls P f args.toArray w fun e w' => ∃ v, e = .returned v ∧ S w' ∧ wpOrd P ops Q S r (a.put o.dst v) w') : wpOrd P ops Q S ((false, o) :: r) a w := by
  simp only [wpOrd, hw, if_true]
  unfold Oper.wp execOp
  have e : (do let d ← resolve a.eval { callee := .value (.func f), args := xs.toArray, argTypes := ts } o.type; invoke d.target d.args : Sem Next).run P w = .ok (.enter f args.toArray) w := by
    have hx' : xs.toArray.map a.eval = args.toArray := by rw [← hx]; simp
    simp only [resolve, hx']
    simp [Act.eval, Deferred.ofValue, invoke, hc]
  simp only [ho]
  rw [e]
  unfold Oper.upon
  exact h.mono fun e w' ⟨v, he, h1, h2⟩ => by subst he; exact ⟨h1, h2⟩
end

section
variable {P : Program} {ops : Array Oper} {Q : Exit → Act → World → Prop} {S : World → Prop}

/-- First the operations of a list that only read, then i and j in either order, then l. -/
def forkB (ops : Array Oper) (i j : Nat) (l : List (Nat × Bool)) : List Nat → Array Bool → Bool
  | [], listed => (Region.ready .any ops listed == [i, j]) && (ops[i]?).isSome && (ops[j]?).isSome && ordB ops ((j, false) :: l) (listed.setIfInBounds i true) && ordB ops ((i, false) :: l) (listed.setIfInBounds j true)
  | k :: r, listed => (Region.ready .any ops listed).contains k && Region.free .any ops listed k && (ops[k]?).isSome && forkB ops i j l r (listed.setIfInBounds k true)

/-- One operation that acts, and what follows. -/
def wpAct (P : Program) (ops : Array Oper) (Q : Exit → Act → World → Prop) (S : World → Prop) (o : Oper) (K : Act → World → Prop) (a : Act) (w : World) : Prop :=
  if Region.wanted o (yielded ops a.tmps) then o.wp P a w (fun a' w' => S w' ∧ K a' w') Q else S w ∧ K (a.put o.dst undef) w

theorem wpOp_act {i : Nat} {o : Oper} (hi : ops[i]? = some o) {K K' : Act → World → Prop} (hK : ∀ a w, S w → K a w → K' a w) {a : Act} {w : World} (h : wpAct P ops Q S o K a w) : wpOp P ops Q i (fun a' w' => S w' ∧ K' a' w') a w := by
  unfold wpOp
  rw [hi]
  simp only
  unfold wpAct at h
  split
  · rename_i hw
    rw [if_pos hw] at h
    exact .inl (Oper.wp_mono (fun a' w' h' => ⟨h'.1, hK a' w' h'.1 h'.2⟩) h)
  · rename_i hw
    rw [if_neg hw] at h
    exact ⟨h.1, hK _ w h.1 h.2⟩

def wpFork (P : Program) (ops : Array Oper) (Q : Exit → Act → World → Prop) (S : World → Prop) (ol : List Oper) (i j : Nat) (l : List (Nat × Bool)) : List Nat → Act → World → Prop
  | [], a, w => (∀ o, ol[i]? = some o → wpAct P ops Q S o (wpOrd P ops Q S (inOrd ol ((j, false) :: l))) a w) ∧ (∀ o, ol[j]? = some o → wpAct P ops Q S o (wpOrd P ops Q S (inOrd ol ((i, false) :: l))) a w)
  | k :: r, a, w => ∀ o, ol[k]? = some o → ∃ v, YieldsIf P ops S o v a ∧ wpFork P ops Q S ol i j l r (a.put o.dst v) w

theorem wpFork_any {ol : List Oper} (hs : Region.noSelect ol.toArray = true) (hQ : ∀ d v c a w, Q (.panic c) (a.put d v) w → Q (.panic c) a w) (i j : Nat) (l : List (Nat × Bool)) : ∀ (r : List Nat) (listed : Array Bool) (a : Act) (w : World), S w →
    forkB ol.toArray i j l r listed = true → wpFork P ol.toArray Q S ol i j l r a w → wpAnyH P .any ol.toArray Q S (r.length + (l.length + 2)) listed a w
  | [], listed, a, w, hS, hB, h => by
    simp only [forkB, Bool.and_eq_true, beq_iff_eq] at hB
    obtain ⟨⟨⟨⟨h1, h2⟩, h3⟩, h4⟩, h5⟩ := hB
    obtain ⟨oi, hoi⟩ := Option.isSome_iff_exists.1 h2
    obtain ⟨oj, hoj⟩ := Option.isSome_iff_exists.1 h3
    have hoi' : ol[i]? = some oi := by simpa using hoi
    have hoj' : ol[j]? = some oj := by simpa using hoj
    rw [show ([] : List Nat).length + (l.length + 2) = (l.length + 1) + 1 by simp]
    refine wpAnyH_all h1 (by simp) fun k hk => ?_
    simp only [List.mem_cons, List.not_mem_nil, or_false] at hk
    rcases hk with rfl | rfl
    · exact wpOp_act hoi (fun a' w' hS' hK => wpOrd_any hs hQ ((j, false) :: l) _ a' w' hS' h4 hK) (h.1 oi hoi')
    · exact wpOp_act hoj (fun a' w' hS' hK => wpOrd_any hs hQ ((i, false) :: l) _ a' w' hS' h5 hK) (h.2 oj hoj')
  | k :: r, listed, a, w, hS, hB, h => by
    simp only [forkB, Bool.and_eq_true] at hB
    obtain ⟨⟨⟨h1, h2⟩, h3⟩, h4⟩ := hB
    obtain ⟨o, hi⟩ := Option.isSome_iff_exists.1 h3
    have hi' : ol[k]? = some o := by simpa using hi
    obtain ⟨v, hy, hr⟩ := h o hi'
    rw [show (k :: r).length + (l.length + 2) = r.length + (l.length + 2) + 1 by simp; omega]
    exact wpAnyH_take hi hs h2 h1 (fun c a w => hQ _ _ c a w) hy hS (wpFork_any hs hQ i j l r _ _ w hS h4 hr)

/-- A region that draws its order, walked so. -/
theorem wp_region_fork {id : Nat} {a : Act} {w : World} {ol : List Oper} (r : List Nat) (i j : Nat) (l : List (Nat × Bool)) (hm : P.follows .mixedOrders = true) (hl : r.length + (l.length + 2) = ol.length)
    (hB : (Region.noSelect ol.toArray && forkB ol.toArray i j l r (Array.replicate ol.toArray.size false)) = true) (hQ : ∀ d v c a w, Q (.panic c) (a.put d v) w → Q (.panic c) a w)
    (hS : S w.drew) (h : wpFork P ol.toArray Q S ol i j l r a w.drew) : (Code.region id ol.toArray true).wp P Q a w := by
  simp only [Bool.and_eq_true] at hB
  have h1 := wpFork_any hB.1 hQ i j l r _ a w.drew hS hB.2 h
  rw [hl] at h1
  exact wp_region_held hm (by simpa using h1)

theorem wpFork_yield {ol : List Oper} {i j : Nat} {l : List (Nat × Bool)} {k : Nat} {r : List Nat} {a : Act} {w : World} {o : Oper} {v : Value} (ho : ol[k]? = some o) (hw : Region.wanted o (yielded ops a.tmps) = true)
    (hr : ∀ u, S u → (execOp a.eval o).run P u = .ok (.value v) u) (h : wpFork P ops Q S ol i j l r (a.put o.dst v) w) : wpFork P ops Q S ol i j l (k :: r) a w := by
  intro o' ho'
  obtain rfl : o = o' := by rw [ho] at ho'; exact Option.some.inj ho'
  exact ⟨v, .inl ⟨hw, hr⟩, h⟩
theorem wpFork_nil {ol : List Oper} {i j : Nat} {l : List (Nat × Bool)} {a : Act} {w : World} {oi oj : Oper} (hi : ol[i]? = some oi) (hj : ol[j]? = some oj)
    (h1 : wpOrd P ops Q S (inOrd ol ((i, false) :: (j, false) :: l)) a w) (h2 : wpOrd P ops Q S (inOrd ol ((j, false) :: (i, false) :: l)) a w) : wpFork P ops Q S ol i j l [] a w := by
  refine ⟨fun o ho => ?_, fun o ho => ?_⟩
  · obtain rfl : oi = o := by rw [hi] at ho; exact Option.some.inj ho
    simp only [inOrd, hi, hj, wpOrd] at h1 ⊢
    exact h1
  · obtain rfl : oj = o := by rw [hj] at ho; exact Option.some.inj ho
    simp only [inOrd, hi, hj, wpOrd] at h2 ⊢
    exact h2
end

/-- How such a region of n operations is walked: this one only reads, and is taken first; or: those that may come up, and what then. -/
def OT : Nat → Type
  | 0 => Unit
  | n + 1 => Sum (Nat × OT n) (List (Nat × OT n))
def finT : OT 0 := ()
def rdT {n : Nat} (i : Nat) (r : OT n) : OT (n + 1) := Sum.inl (i, r)
def altT {n : Nat} (l : List (Nat × OT n)) : OT (n + 1) := Sum.inr l
section
variable {P : Program} {Q : Exit → Act → World → Prop} {S : World → Prop}
def okT (ops : Array Oper) : (n : Nat) → OT n → Array Bool → Bool
  | 0, _, L => (Region.ready .any ops L).isEmpty
  | n + 1, .inl (i, r), L => (Region.ready .any ops L).contains i && Region.free .any ops L i && (ops[i]?).isSome && okT ops n r (L.setIfInBounds i true)
  | n + 1, .inr l, L => (Region.ready .any ops L == l.map (·.1)) && !l.isEmpty && l.all fun p => (ops[p.1]?).isSome && okT ops n p.2 (L.setIfInBounds p.1 true)
def wpT (P : Program) (ops : Array Oper) (Q : Exit → Act → World → Prop) (S : World → Prop) (ol : List Oper) : (n : Nat) → OT n → Act → World → Prop
  | 0, _, a, w => Q .normal a w
  | n + 1, .inl (i, r), a, w => ∀ o, ol[i]? = some o → ∃ v, YieldsIf P ops S o v a ∧ wpT P ops Q S ol n r (a.put o.dst v) w
  | n + 1, .inr l, a, w => ∀ p ∈ l, ∀ o, ol[p.1]? = some o → wpAct P ops Q S o (wpT P ops Q S ol n p.2) a w
theorem wpT_any {ol : List Oper} (hs : Region.noSelect ol.toArray = true) (hQ : ∀ d v c a w, Q (.panic c) (a.put d v) w → Q (.panic c) a w) : ∀ (n : Nat) (t : OT n) (L : Array Bool) (a : Act) (w : World), S w →
    okT ol.toArray n t L = true → wpT P ol.toArray Q S ol n t a w → wpAnyH P .any ol.toArray Q S n L a w
  | 0, _, L, a, w, _, hB, h => wpAnyH_done (by simpa [okT] using hB) h _
  | n + 1, .inl (i, r), L, a, w, hS, hB, h => by
    simp only [okT, Bool.and_eq_true] at hB
    obtain ⟨⟨⟨h1, h2⟩, h3⟩, h4⟩ := hB
    obtain ⟨o, hi⟩ := Option.isSome_iff_exists.1 h3
    have hi' : ol[i]? = some o := by simpa using hi
    obtain ⟨v, hy, hr⟩ := h o hi'
    exact wpAnyH_take hi hs h2 h1 (fun c a w => hQ _ _ c a w) hy hS (wpT_any hs hQ n r _ _ w hS h4 hr)
  | n + 1, .inr l, L, a, w, hS, hB, h => by
    simp only [okT, Bool.and_eq_true, beq_iff_eq, List.all_eq_true, Bool.not_eq_true', List.isEmpty_eq_false_iff] at hB
    obtain ⟨⟨h1, hl⟩, h2⟩ := hB
    refine wpAnyH_all h1 (by simpa using hl) fun j hj => ?_
    obtain ⟨p, hp, rfl⟩ := List.mem_map.1 hj
    obtain ⟨h3, h4⟩ := h2 p hp
    obtain ⟨o, hi⟩ := Option.isSome_iff_exists.1 h3
    have hi' : ol[p.1]? = some o := by simpa using hi
    exact wpOp_act hi (fun a' w' hS' hK => wpT_any hs hQ n p.2 _ a' w' hS' h4 hK) (h p hp o hi')
/-- A region that draws its order, walked so. -/
theorem wp_region_tree {id : Nat} {a : Act} {w : World} {ol : List Oper} {n : Nat} (t : OT n) (hm : P.follows .mixedOrders = true) (hn : n = ol.length)
    (hB : (Region.noSelect ol.toArray && okT ol.toArray n t (Array.replicate ol.toArray.size false)) = true) (hQ : ∀ d v c a w, Q (.panic c) (a.put d v) w → Q (.panic c) a w)
    (hS : S w.drew) (h : wpT P ol.toArray Q S ol n t a w.drew) : (Code.region id ol.toArray true).wp P Q a w := by
  simp only [Bool.and_eq_true] at hB
  have h1 := wpT_any hB.1 hQ n t _ a w.drew hS hB.2 h
  rw [hn] at h1
  exact wp_region_held hm (by simpa using h1)
section
variable {ops : Array Oper} {ol : List Oper} {i n : Nat} {r : OT n} {more : List (Nat × OT n)} {a : Act} {w w' : World} {o : Oper} {v : Value}
theorem wpT_fin (h : Q .normal a w) : wpT P ops Q S ol 0 finT a w := h
theorem wpT_stop : wpT P ops Q S ol (n + 1) (altT []) a w := by
  intro p hp
  cases hp
theorem wpT_cons (h : ∀ o, ol[i]? = some o → wpAct P ops Q S o (wpT P ops Q S ol n r) a w) (hm : wpT P ops Q S ol (n + 1) (altT more) a w) : wpT P ops Q S ol (n + 1) (altT ((i, r) :: more)) a w := by
  intro p hp
  rcases List.mem_cons.1 hp with rfl | hp
  · exact h
  · exact hm p hp
theorem wpT_yield (ho : ol[i]? = some o) (hw : Region.wanted o (yielded ops a.tmps) = true) (hr : ∀ u, S u → (execOp a.eval o).run P u = .ok (.value v) u) (h : wpT P ops Q S ol n r (a.put o.dst v) w) : wpT P ops Q S ol (n + 1) (rdT i r) a w := by
  intro o' ho'
  obtain rfl : o = o' := by rw [ho] at ho'; exact Option.some.inj ho'
  exact ⟨v, .inl ⟨hw, hr⟩, h⟩
/-- Something is made, or done. -/
theorem wpT_make (ho : ol[i]? = some o) (hw : Region.wanted o (yielded ops a.tmps) = true) (hr : (execOp a.eval o).run P w = .ok (.value v) w') (hS : S w') (h : wpT P ops Q S ol n r (a.put o.dst v) w') (hm : wpT P ops Q S ol (n + 1) (altT more) a w) : wpT P ops Q S ol (n + 1) (altT ((i, r) :: more)) a w := by
  refine wpT_cons (fun o' ho' => ?_) hm
  obtain rfl : o = o' := by rw [ho] at ho'; exact Option.some.inj ho'
  unfold wpAct
  rw [if_pos hw]
  unfold Oper.wp
  rw [hr]
  exact ⟨hS, h⟩
theorem wpT_do (ho : ol[i]? = some o) (hw : Region.wanted o (yielded ops a.tmps) = true) (hr : (execOp a.eval o).run P w = .ok .skip w') (hS : S w') (h : wpT P ops Q S ol n r (a.put o.dst undef) w') (hm : wpT P ops Q S ol (n + 1) (altT more) a w) : wpT P ops Q S ol (n + 1) (altT ((i, r) :: more)) a w := by
  refine wpT_cons (fun o' ho' => ?_) hm
  obtain rfl : o = o' := by rw [ho] at ho'; exact Option.some.inj ho'
  unfold wpAct
  rw [if_pos hw]
  unfold Oper.wp
  rw [hr]
  exact ⟨hS, h⟩
theorem wpT_call (ho' : ol[i]? = some o) (hw : Region.wanted o (yielded ops a.tmps) = true) (f : FuncId) (xs : List Operand) (ts : Array TypeId) (ho : o.op = .call { callee := .value (.func f), args := xs.toArray, argTypes := ts }) (hc : ∀ args u, (callFunc f args).run P u = .ok (.enter f args) u) (args : List Value) (hx : xs.map a.eval = args)
    (h : Calls P f args.toArray w fun e w' => ∃ v, e = .returned v ∧ S w' ∧ wpT P ops Q S ol n r (a.put o.dst v) w') (hm : wpT P ops Q S ol (n + 1) (altT more) a w) : wpT P ops Q S ol (n + 1) (altT ((i, r) :: more)) a w := by
  refine wpT_cons (fun o'' ho'' => ?_) hm
  obtain rfl : o = o'' := by rw [ho'] at ho''; exact Option.some.inj ho''
  unfold wpAct
  rw [if_pos hw]
  unfold Oper.wp execOp
  have e : (do let d ← resolve a.eval { callee := .value (.func f), args := xs.toArray, argTypes := ts } o.type; invoke d.target d.args : Sem Next).run P w = .ok (.enter f args.toArray) w := by
    have hx' : xs.toArray.map a.eval = args.toArray := by rw [← hx]; simp
    simp only [resolve, hx']
    simp [Act.eval, Deferred.ofValue, invoke, hc]
  simp only [ho]
  rw [e]
  unfold Oper.upon
  exact h.mono fun e w' ⟨v, he, h1, h2⟩ => by subst he; exact ⟨h1, h2⟩
end
end
end Go.Proofs.YtlcdpmjdnihocaaGreat
/- Names of entries: what may be one, by the program and by the document; any text. -/
namespace Go.Proofs.YtlcdpmjdnihocaaGreat
open Go.RowKit Go.Maps
theorem bel_al {w u : World} (h : Below w.heap.size w u) (o : Obj) : Below w.heap.size w (u.alloc o) := h.alloc h.size o
theorem below_setRow {B : Nat} {a w : World} (h : Below B a w) {g : Nat} (hg : B ≤ g) (cs : Array Value) : Below B a (w.setRow g cs) :=
  h.trans ⟨rfl, rfl, rfl, by simp, fun k hk => setRow_other w g k cs (by omega)⟩
theorem wrap_u16 (n : Int) : IntKind.u16.wrap n = n % 65536 := by simp [IntKind.wrap, IntKind.bits, IntKind.signed]
/-- The byte at a place. -/
def byt (s : ByteArray) (i : Nat) : Int := if h : i < s.size then ((s[i].toNat : Nat) : Int) else 0
theorem byt_bd (s : ByteArray) (i : Nat) : 0 ≤ byt s i ∧ byt s i ≤ 255 := by
  unfold byt
  split
  · rename_i h
    have := s[i].toNat_lt
    omega
  · omega
/-- A byte that no name has, among the first k. -/
def oddB (s : ByteArray) (k : Nat) : Bool := (List.range k).any fun i => byt s i == 0 || byt s i == 47
theorem oddB_succ (s : ByteArray) (k : Nat) : oddB s (k + 1) = (oddB s k || (byt s k == 0 || byt s k == 47)) := by simp [oddB, List.range_succ]
theorem oddB_later {s : ByteArray} {k n : Nat} (h : oddB s k = true) (hk : k ≤ n) : oddB s n = true := by
  unfold oddB at *
  rw [List.any_eq_true] at *
  obtain ⟨i, hi, hb⟩ := h
  exact ⟨i, List.mem_range.2 (by have := List.mem_range.1 hi; omega), hb⟩
theorem oddB_false {s : ByteArray} {k : Nat} (h : oddB s k = false) (i : Nat) (hi : i < k) : ¬ byt s i = 0 ∧ ¬ byt s i = 47 := by
  unfold oddB at h
  rw [List.any_eq_false] at h
  have := h i (List.mem_range.2 hi)
  simp at this
  exact this
/-- What Name answers. -/
def nmV (s : ByteArray) : Int := if s.size = 0 then 4 else if oddB s s.size then 4 else if 14 < s.size then 12 else 0
theorem nm_empty {s : ByteArray} (h : s.size = 0) : s = ⟨#[]⟩ := by
  apply ByteArray.ext
  exact Array.eq_empty_of_size_eq_zero h
theorem nm_list {s : ByteArray} (h : 0 < s.size) : s.toList.isEmpty = false := by
  rw [ByteArray.toList_eq]
  have : s.data.toList.length = s.size := by cases s; rfl
  cases hq : s.data.toList with
  | nil => rw [hq] at this; simp at this; omega
  | cons a t => rfl
theorem idx_str (s : ByteArray) (i : Nat) (h : i < s.size) (u : World) : (Instr.index 9 (.string s) (.int .i64 (i : Int))).run Tryz.prog u = .ok (.int .u8 (byt s i)) u := by
  rw [run_index_string (P := Tryz.prog) u 9 s .i64 (i : Int) Tryz.underlying9, dif_pos (by omega)]
  simp [byt, h]
set_option maxRecDepth 20000 in
set_option maxHeartbeats 1000000 in
theorem refName_any (s : ByteArray) (w : World) (hs : s.size ≤ 9223372036854775807) :
    Calls Tryz.prog 107 #[.string s] w fun e w' => e = .returned (.int .i64 (nmV s)) ∧ w' = w := by
  by_cases h0 : s.size = 0
  · rw [show nmV s = 4 by unfold nmV; rw [if_pos h0]]
    rw [nm_empty h0]
    go_enter Tryz.func107, Tryz.ntmps107
    go_wp2
    go_ret
    exact ⟨rfl, rfl⟩
  have h3 := nm_list (s := s) (by omega)
  have HV : Hid (nmV s = if oddB s s.size then 4 else if 14 < s.size then 12 else 0) := by show nmV s = _; unfold nmV; rw [if_neg h0]
  go_enter Tryz.func107, Tryz.ntmps107
  go_wp2
  go_loopw [3] (fun s3 wx => wx = w ∧ ∃ i : Nat, i ≤ s.size ∧ Hid (oddB s i = false) ∧ s3 = .int .i64 i) (fun s3 _ => s.size - (intOf s3).toNat)
  case atStart => exact ⟨rfl, 0, by omega, rfl, rfl⟩
  case round =>
    obtain ⟨rfl, i, hi, HO, rfl⟩ := hrel
    by_cases hi2 : (i : Int) < (s.size : Int)
    · have hr := idx_str s i (by omega)
      have HS : Hid _ := oddB_succ s i
      have HL : Hid (oddB s (i + 1) = true → oddB s s.size = true) := fun h => oddB_later h (by omega)
      generalize byt s i = q at *
      by_cases b0 : q = 0
      · subst b0
        have H4 : Hid (nmV s = 4) := by show nmV s = 4; rw [HV.out, if_pos (HL.out (by rw [HS.out]; simp))]
        clear HS
        go_wp2
        go_ret
        exact ⟨by rw [H4.out]; rfl, rfl⟩
      by_cases b1 : q = 47
      · subst b1
        have H4 : Hid (nmV s = 4) := by show nmV s = 4; rw [HV.out, if_pos (HL.out (by rw [HS.out]; simp))]
        clear HS
        go_wp2
        go_ret
        exact ⟨by rw [H4.out]; rfl, rfl⟩
      have g1 : ((q : Int) == 0) = false := beq_eq_false_iff_ne.2 b0
      have g2 : ((q : Int) == 47) = false := beq_eq_false_iff_ne.2 b1
      have HO2 : Hid (oddB s (i + 1) = false) := by show oddB s (i + 1) = false; rw [HS.out, HO.out, g1, g2]; rfl
      clear HS HL
      go_wp2
      exact ⟨⟨trivial, i + 1, by omega, HO2, by go_num⟩, by simp [intOf]; omega⟩
    · obtain rfl : i = s.size := by omega
      have hv : nmV s = if 14 < s.size then 12 else 0 := by rw [HV.out, HO.out]; rfl
      by_cases h14 : 14 < s.size
      · have g1 : decide ((14 : Int) < (s.size : Int)) = true := decide_eq_true (by omega)
        rw [if_pos h14] at hv
        have HV2 : Hid _ := hv
        clear hv
        go_wp2
        go_ret
        exact ⟨by rw [HV2.out]; rfl, rfl⟩
      · have g1 : decide ((14 : Int) < (s.size : Int)) = false := decide_eq_false (by omega)
        rw [if_neg h14] at hv
        have HV2 : Hid _ := hv
        clear hv
        go_wp2
        go_ret
        exact ⟨by rw [HV2.out]; rfl, rfl⟩
set_option maxRecDepth 20000 in
set_option maxHeartbeats 1000000 in
theorem name_any (s : ByteArray) (w : World) (hs : s.size ≤ 9223372036854775807) :
    Calls Tryz.prog 162 #[.string s] w fun e w' => e = .returned (.int .i64 (nmV s)) ∧ w' = w := by
  by_cases h0 : s.size = 0
  · rw [show nmV s = 4 by unfold nmV; rw [if_pos h0]]
    rw [nm_empty h0]
    go_enter Tryz.func162, Tryz.ntmps162
    go_wp2
    go_ret
    exact ⟨rfl, rfl⟩
  have h3 := nm_list (s := s) (by omega)
  have HV : Hid (nmV s = if oddB s s.size then 4 else if 14 < s.size then 12 else 0) := by show nmV s = _; unfold nmV; rw [if_neg h0]
  go_enter Tryz.func162, Tryz.ntmps162
  go_wp2
  go_loopw [8] (fun s3 wx => wx = w ∧ ∃ i : Nat, i ≤ s.size ∧ Hid (oddB s i = false) ∧ s3 = .int .i64 i) (fun s3 _ => s.size - (intOf s3).toNat)
  case atStart => exact ⟨rfl, 0, by omega, rfl, rfl⟩
  case round =>
    obtain ⟨rfl, i, hi, HO, rfl⟩ := hrel
    by_cases hi2 : (i : Int) < (s.size : Int)
    · have hr := idx_str s i (by omega)
      have HS : Hid _ := oddB_succ s i
      have HL : Hid (oddB s (i + 1) = true → oddB s s.size = true) := fun h => oddB_later h (by omega)
      generalize byt s i = q at *
      by_cases b0 : q = 0
      · subst b0
        have H4 : Hid (nmV s = 4) := by show nmV s = 4; rw [HV.out, if_pos (HL.out (by rw [HS.out]; simp))]
        clear HS
        go_wp2
        go_ret
        exact ⟨by rw [H4.out]; rfl, rfl⟩
      by_cases b1 : q = 47
      · subst b1
        have H4 : Hid (nmV s = 4) := by show nmV s = 4; rw [HV.out, if_pos (HL.out (by rw [HS.out]; simp))]
        clear HS
        go_wp2
        go_ret
        exact ⟨by rw [H4.out]; rfl, rfl⟩
      have g1 : ((q : Int) == 0) = false := beq_eq_false_iff_ne.2 b0
      have g2 : ((q : Int) == 47) = false := beq_eq_false_iff_ne.2 b1
      have HO2 : Hid (oddB s (i + 1) = false) := by show oddB s (i + 1) = false; rw [HS.out, HO.out, g1, g2]; rfl
      clear HS HL
      go_wp2
      exact ⟨⟨trivial, i + 1, by omega, HO2, by go_num⟩, by simp [intOf]; omega⟩
    · obtain rfl : i = s.size := by omega
      have hv : nmV s = if 14 < s.size then 12 else 0 := by rw [HV.out, HO.out]; rfl
      by_cases h14 : 14 < s.size
      · have g1 : decide ((14 : Int) < (s.size : Int)) = true := decide_eq_true (by omega)
        rw [if_pos h14] at hv
        have HV2 : Hid _ := hv
        clear hv
        go_wp2
        go_ret
        exact ⟨by rw [HV2.out]; rfl, rfl⟩
      · have g1 : decide ((14 : Int) < (s.size : Int)) = false := decide_eq_false (by omega)
        rw [if_neg h14] at hv
        have HV2 : Hid _ := hv
        clear hv
        go_wp2
        go_ret
        exact ⟨by rw [HV2.out]; rfl, rfl⟩
end Go.Proofs.YtlcdpmjdnihocaaGreat
/- An entry's sixteen bytes, by the document; whatever the entry. -/
namespace Go.Proofs.YtlcdpmjdnihocaaGreat
open Go.RowKit Go.Maps
theorem size204 : (Tryz.prog.info? 120).map (·.size) = some 16 := by kernel_rfl
theorem zero204 : ∀ w, (zeroValue 120).run Tryz.prog w = .ok (.agg (rowN .u8 nought 16)) w := (zero_of_info (show (Tryz.prog.info? 120).map (fun i => (i.zero, i.size)) = some (some (.agg (rowN .u8 nought 16)), 16) by kernel_rfl)).1
theorem retCT {fn : Func} {p u : Tmp} {ty : TypeId} {R : Ending → World → Prop} {a : Act} {w : World} {d : TypeDesc} (hu : Tryz.prog.underlying ty = some d) (hd : d.isRow = true) (h : fn.results = #[.cell p ty, .tmp u]) (g : Nat) (cs : Array Value) (t : TypeId) (hi : (Tryz.prog.info? ty).map (·.size) = some cs.size)
    (hp : a.tmps.getD p undef = .pointer (some ⟨g, 0, none⟩)) (hg : w.heap[g]? = some (.cells cs t))
    (hdf : a.defers = []) (hR : R (.returned (.tuple #[.agg cs, a.tmps.getD u undef])) w) : bodyPost Tryz.prog fn R .ret a w := by
  have hl : (loadVar ty ⟨g, 0, none⟩).run Tryz.prog w = .ok (.agg cs) w := run_loadVar_row w g t ty cs (0, 0) d hg hu (by cases d <;> first | rfl | cases hd) hi
  refine bodyPost_ret ?_ hdf hR
  rw [results_cell_tmp h]
  rw [hp]
  simp [asAddr, hl]
/-- The bytes of an entry. -/
def encP (i : Int) (s : ByteArray) : Nat → Int := fun j => if j = 0 then i % 256 else if j = 1 then i / 256 else byt s (j - 2)
/-- Whether an entry may be. -/
def chV (i : Int) (s : ByteArray) : Int := if i = 0 then (if s.size = 0 then 0 else 4) else nmV s
/-- What is written. -/
def encF (i : Int) (s : ByteArray) : Nat → Int := if chV i s = 0 then encP i s else nought
theorem encF_ok {i : Int} {s : ByteArray} (h : chV i s = 0) : encF i s = encP i s := if_pos h
theorem encF_bad {i : Int} {s : ByteArray} (h : ¬ chV i s = 0) : encF i s = nought := if_neg h
theorem byt_none (i : Nat) : byt ⟨#[]⟩ i = 0 := by unfold byt; rw [dif_neg]; exact Nat.not_lt_zero i
theorem encP_free : encP 0 ⟨#[]⟩ = nought := by
  funext j
  unfold encP nought
  split
  · rfl
  · split
    · rfl
    · exact byt_none _
theorem nmV_size {s : ByteArray} (h : nmV s = 0) : 0 < s.size ∧ s.size ≤ 14 ∧ oddB s s.size = false := by
  unfold nmV at h
  split at h
  · cases h
  · split at h
    · cases h
    · split at h
      · cases h
      · rename_i h1 h2 h3
        exact ⟨by omega, by omega, by simpa using h2⟩
structure En3 (w W : World) (i : Int) (s : ByteArray) (e : Nat → Int) : Prop where
  ent : W.heap[w.heap.size]? = some (.cells #[.int .u16 i, .string s] 69)
  res : W.heap[w.heap.size + 1]? = some (.cells (rowN .u8 nought 16) 120)
  row : W.heap[w.heap.size + 2]? = some (.cells (rowN .u8 e 16) 120)
  bel : Below w.heap.size w W
theorem En3.set {w W : World} {i : Int} {s : ByteArray} {e : Nat → Int} (h : En3 w W i s e) (j : Nat) (x : Int) : En3 w (W.setCell ⟨w.heap.size + 2, j, none⟩ (.int .u8 x)) i s (updN e j x) := by
  have hF := Fr.setCell W (w.heap.size + 2) j (.int .u8 x)
  exact ⟨(hF.block _ (Array.getElem?_eq_some_iff.1 h.ent).1 (by omega)).trans h.ent, (hF.block _ (Array.getElem?_eq_some_iff.1 h.res).1 (by omega)).trans h.res, setCell_rowN h.row j x, h.bel.trans (hF.below (fun j q => by omega) h.bel.size)⟩
theorem En3.start (w : World) (i : Int) (s : ByteArray) : En3 w (((w.alloc (.cells #[.int .u16 i, .string s] 69)).alloc (.cells (rowN .u8 nought 16) 120)).alloc (.cells (rowN .u8 nought 16) 120)) i s nought := by
  refine ⟨heap_kept (heap_kept (heap_alloc_new _ _) (below_new _ _)) (below_new _ _), heap_kept (heap_two _ _ _) (below_new _ _), ?_, bel_al (bel_al (below_new _ _) _) _⟩
  have := heap_alloc_new ((w.alloc (.cells #[.int .u16 i, .string s] 69)).alloc (.cells (rowN .u8 nought 16) 120)) (.cells (rowN .u8 nought 16) 120)
  simpa using this
theorem En3.start2 (w : World) (i : Int) (s : ByteArray) (x y : Int) : En3 w (((w.alloc (.cells #[.int .u16 i, .string s] 69)).alloc (.cells (rowN .u8 nought 16) 120)).alloc (.cells (((rowN .u8 nought 16).setIfInBounds 0 (.int .u8 x)).setIfInBounds 1 (.int .u8 y)) 120)) i s (updN (updN nought 0 x) 1 y) := by
  rw [rowN_set, rowN_set]
  refine ⟨heap_kept (heap_kept (heap_alloc_new _ _) (below_new _ _)) (below_new _ _), heap_kept (heap_two _ _ _) (below_new _ _), ?_, bel_al (bel_al (below_new _ _) _) _⟩
  have := heap_alloc_new ((w.alloc (.cells #[.int .u16 i, .string s] 69)).alloc (.cells (rowN .u8 nought 16) 120)) (.cells (rowN .u8 (updN (updN nought 0 x) 1 y) 16) 120)
  simpa using this
set_option maxRecDepth 20000 in
set_option maxHeartbeats 1000000 in
theorem refEnc_free (w : World) :
    Calls Tryz.prog 69 #[.agg #[.int .u16 0, .string ⟨#[]⟩]] w fun e w' => e = .returned (.tuple #[.agg (rowN .u8 nought 16), .int .i64 0]) ∧ Below w.heap.size w w' := by
  have z := zero204
  have HE := En3.start w 0 ⟨#[]⟩
  have c0 := Joins.cell_of_block HE.ent 0
  have c1 := Joins.cell_of_block HE.ent 1
  have hr := HE.res
  have hrw := HE.row
  have HB : Hid _ := HE.bel
  clear HE
  go_enter Tryz.func69, Tryz.ntmps69
  go_wp2_with (first | (with_reducible refine isLoadR 120 ?_; refine wpList_ldR 120 Tryz.underlying120 rfl rfl _ rfl (w.heap.size + 2) rfl (rowN .u8 nought 16) 120 (0, 0) (by rw [rowN_size]; exact size204) hrw ?_) | (with_reducible refine isStoreR 120 ?_; refine wpList_stR 120 rfl _ _ rfl (w.heap.size + 1) (rowN .u8 nought 16) (rowN .u8 nought 16) 120 (by rw [rowN_size]; exact size204) rfl (rowN_one _ _ _) rfl rfl hr ?_))
  exact retCT Tryz.underlying120 rfl rfl (w.heap.size + 1) (rowN .u8 nought 16) 120 (by rw [rowN_size]; exact size204) rfl (setRow_heap _ _ _ _ _ _ hr) rfl ⟨rfl, below_setRow HB.out (by omega) _⟩
set_option maxRecDepth 20000 in
set_option maxHeartbeats 1000000 in
theorem refEnc_odd (w : World) (s : ByteArray) (hs : 0 < s.size) :
    Calls Tryz.prog 69 #[.agg #[.int .u16 0, .string s]] w fun e w' => e = .returned (.tuple #[.agg (rowN .u8 nought 16), .int .i64 4]) ∧ Below w.heap.size w w' := by
  have z := zero204
  have HE := En3.start w 0 s
  have c0 := Joins.cell_of_block HE.ent 0
  have c1 := Joins.cell_of_block HE.ent 1
  have hr := HE.res
  have hrw := HE.row
  have HB : Hid _ := HE.bel
  clear HE
  have g1 := nm_list hs
  go_enter Tryz.func69, Tryz.ntmps69
  go_wp2_with (first | (with_reducible refine isLoadR 120 ?_; refine wpList_ldR 120 Tryz.underlying120 rfl rfl _ rfl (w.heap.size + 2) rfl (rowN .u8 nought 16) 120 (0, 0) (by rw [rowN_size]; exact size204) hrw ?_) | (with_reducible refine isStoreR 120 ?_; refine wpList_stR 120 rfl _ _ rfl (w.heap.size + 1) (rowN .u8 nought 16) (rowN .u8 nought 16) 120 (by rw [rowN_size]; exact size204) rfl (rowN_one _ _ _) rfl rfl hr ?_))
  exact retCT Tryz.underlying120 rfl rfl (w.heap.size + 1) (rowN .u8 nought 16) 120 (by rw [rowN_size]; exact size204) rfl (setRow_heap _ _ _ _ _ _ hr) rfl ⟨rfl, below_setRow HB.out (by omega) _⟩
set_option maxRecDepth 20000 in
set_option maxHeartbeats 1000000 in
theorem refEnc_bad (w : World) (i : Int) (hi : 0 < i ∧ i < 65536) (s : ByteArray) (hs : ¬ nmV s = 0) (hz : s.size ≤ 9223372036854775807) :
    Calls Tryz.prog 69 #[.agg #[.int .u16 i, .string s]] w fun e w' => e = .returned (.tuple #[.agg (rowN .u8 nought 16), .int .i64 (nmV s)]) ∧ Below w.heap.size w w' := by
  have z := zero204
  have HE := En3.start w i s
  have c0 := Joins.cell_of_block HE.ent 0
  have c1 := Joins.cell_of_block HE.ent 1
  have hr := HE.res
  have hrw := HE.row
  have HB : Hid _ := HE.bel
  clear HE
  have hnm := refName_any s (((w.alloc (.cells #[.int .u16 i, .string s] 69)).alloc (.cells (rowN .u8 nought 16) 120)).alloc (.cells (rowN .u8 nought 16) 120)) hz
  have g1 : (i == 0) = false := beq_eq_false_iff_ne.2 (by omega)
  have g2 : (nmV s == 0) = false := beq_eq_false_iff_ne.2 hs
  generalize nmV s = q at *
  go_enter Tryz.func69, Tryz.ntmps69
  go_wp2_with (first | (go_at_call 107; fail))
  refine hnm.mono ?_
  rintro e W ⟨rfl, rfl⟩
  clear hnm
  go_wp2_with (first | (with_reducible refine isLoadR 120 ?_; refine wpList_ldR 120 Tryz.underlying120 rfl rfl _ rfl (w.heap.size + 2) rfl (rowN .u8 nought 16) 120 (0, 0) (by rw [rowN_size]; exact size204) hrw ?_) | (with_reducible refine isStoreR 120 ?_; refine wpList_stR 120 rfl _ _ rfl (w.heap.size + 1) (rowN .u8 nought 16) (rowN .u8 nought 16) 120 (by rw [rowN_size]; exact size204) rfl (rowN_one _ _ _) rfl rfl hr ?_))
  exact retCT Tryz.underlying120 rfl rfl (w.heap.size + 1) (rowN .u8 nought 16) 120 (by rw [rowN_size]; exact size204) rfl (setRow_heap _ _ _ _ _ _ hr) rfl ⟨rfl, below_setRow HB.out (by omega) _⟩
set_option maxRecDepth 20000 in
set_option maxHeartbeats 2000000 in
theorem refEnc_name (w : World) (i : Int) (hi : 0 < i ∧ i < 65536) (s : ByteArray) (hs : nmV s = 0) :
    Calls Tryz.prog 69 #[.agg #[.int .u16 i, .string s]] w fun e w' => e = .returned (.tuple #[.agg (rowN .u8 (encP i s) 16), .int .i64 0]) ∧ Below w.heap.size w w' := by
  have z := zero204
  have hE := En3.start w i s
  have hnm := refName_any s (((w.alloc (.cells #[.int .u16 i, .string s] 69)).alloc (.cells (rowN .u8 nought 16) 120)).alloc (.cells (rowN .u8 nought 16) 120)) (by have := (nmV_size hs).2.1; omega)
  have c0 := Joins.cell_of_block hE.ent 0
  have c1 := Joins.cell_of_block hE.ent 1
  have g1 : (i == 0) = false := beq_eq_false_iff_ne.2 (by omega)
  have hlen := (nmV_size hs).2.1
  rw [hs] at hnm
  clear hs
  have HS : Hid _ := En3.start2 w i s (i % 256) (i / 256)
  have HE1 := hE.set 0 (i % 256)
  have r0 := cell_rowN (i := 0) hE.row (by omega)
  have f0 := frozen_row hE.row 0
  have r1 := cell_rowN (i := 1) HE1.row (by omega)
  have f1 := frozen_row HE1.row 1
  have d0 := Joins.cell_of_block HE1.ent 0
  clear hE HE1
  have t1 : i.tmod 256 = i % 256 := Int.tmod_eq_emod_of_nonneg (by omega)
  have t2 : i.tdiv 256 = i / 256 := Int.tdiv_eq_ediv_of_nonneg (by omega)
  have t3 : IntKind.u16.wrap (i % 256) = i % 256 := by rw [wrap_u16]; omega
  have t4 : IntKind.u16.wrap (i / 256) = i / 256 := by rw [wrap_u16]; omega
  have t5 : IntKind.u8.wrap (i % 256) = i % 256 := by rw [IntKind.wrap_u8]; omega
  have t6 : IntKind.u8.wrap (i / 256) = i / 256 := by rw [IntKind.wrap_u8]; omega
  go_enter Tryz.func69, Tryz.ntmps69
  go_wp2_with (first | (go_at_call 107; fail))
  refine hnm.mono ?_
  rintro e W ⟨rfl, rfl⟩
  clear hnm
  go_wp2
  generalize (((w.alloc (.cells #[.int .u16 i, .string s] 69)).alloc (.cells (rowN .u8 nought 16) 120)).alloc (.cells (((rowN .u8 nought 16).setIfInBounds 0 (.int .u8 (i % 256))).setIfInBounds 1 (.int .u8 (i / 256))) 120)) = V at *
  clear c0 c1 r0 f0 r1 f1 d0 t1 t2 t3 t4 t5 t6 g1
  have HP : Hid (∀ k, k < s.size → encP i s (2 + k) = byt s k) := fun k h => by
    unfold encP
    rw [if_neg (by omega), if_neg (by omega), Nat.add_sub_cancel_left]
  go_loopw [6] (fun s6 wx => ∃ (k : Nat) (e : Nat → Int), k ≤ s.size ∧ s6 = .int .i64 k ∧ Hid (∀ j, j < 2 + k ∨ 2 + s.size ≤ j → e j = encP i s j) ∧ Hid (En3 w wx i s e)) (fun s6 _ => s.size - (intOf s6).toNat)
  case atStart =>
    refine ⟨0, _, by omega, rfl, ?_, HS.out⟩
    intro j hj
    unfold updN encP nought
    by_cases h1 : j = 1
    · rw [if_pos h1, if_neg (by omega), if_pos h1]
    · rw [if_neg h1]
      by_cases h0 : j = 0
      · rw [if_pos h0, if_pos h0]
      · rw [if_neg h0, if_neg h0, if_neg h1]
        unfold byt
        rw [dif_neg (by omega)]
  case round =>
    obtain ⟨k, e, hk, rfl, HE, HT⟩ := hrel
    have c1 := Joins.cell_of_block HT.out.ent 1
    by_cases hk2 : (k : Int) < (s.size : Int)
    · have hr := idx_str s k (by omega)
      have HPk : Hid _ := HP.out k (by omega)
      have rk := cell_rowN (i := 2 + k) HT.out.row (by omega)
      have fk := frozen_row HT.out.row (2 + k)
      have HT2 : Hid _ := HT.out.set (2 + k) (byt s k)
      have HE2 : Hid (∀ j, j < 2 + (k + 1) ∨ 2 + s.size ≤ j → updN e (2 + k) (byt s k) j = encP i s j) := fun j hj => by
        unfold updN
        split
        · rename_i q; rw [q, HPk.out]
        · exact HE.out j (by omega)
      have e1 : IntKind.i64.wrap (2 + (k : Int)) = ((2 + k : Nat) : Int) := by rw [IntKind.wrap_i64]; omega
      have e2 : 2 + (k : Int) = ((2 + k : Nat) : Int) := by omega
      have hlt : 2 + k < 16 := by omega
      have hks : k < s.size := by omega
      generalize byt s k = x at *
      clear HT HE HPk
      generalize hm : 2 + k = m at *
      have HM : Hid _ := hm
      clear hm
      go_wp2
      refine ⟨⟨k + 1, _, by omega, by go_num, HE2.out, HT2.out⟩, by simp [intOf]; omega⟩
    · obtain rfl : k = s.size := by omega
      have hrow := HT.out.row
      rw [show rowN .u8 e 16 = rowN .u8 (encP i s) 16 from rowN_congr fun j _ => HE.out j (by omega)] at hrow
      have hres := HT.out.res
      have HB2 : Hid (Below w.heap.size w (wr.setRow (w.heap.size + 1) (rowN .u8 (encP i s) 16))) := below_setRow HT.out.bel (by omega) _
      clear HT HE HP
      obtain ⟨F, hF⟩ : ∃ F, encP i s = F := ⟨_, rfl⟩
      rw [hF] at hrow HB2
      have HF : Hid _ := hF
      clear hF
      go_wp2_with (first | (with_reducible refine isLoadR 120 ?_; refine wpList_ldR 120 Tryz.underlying120 rfl rfl _ rfl (w.heap.size + 2) rfl (rowN .u8 F 16) 120 (0, 0) (by rw [rowN_size]; exact size204) hrow ?_) | (with_reducible refine isStoreR 120 ?_; refine wpList_stR 120 rfl _ _ rfl (w.heap.size + 1) (rowN .u8 F 16) (rowN .u8 nought 16) 120 (by rw [rowN_size]; exact size204) (by rw [rowN_size, rowN_size]) (rowN_one _ _ _) rfl rfl hres ?_))
      exact retCT Tryz.underlying120 rfl rfl (w.heap.size + 1) (rowN .u8 F 16) 120 (by rw [rowN_size]; exact size204) rfl (setRow_heap _ _ _ _ _ _ hres) rfl ⟨by rw [HF.out]; rfl, HB2.out⟩
theorem chV_ok {i : Int} {s : ByteArray} (h : chV i s = 0) : (i = 0 ∧ s = ⟨#[]⟩) ∨ (¬ i = 0 ∧ nmV s = 0) := by
  unfold chV at h
  split at h
  · rename_i h0
    split at h
    · rename_i h1; exact .inl ⟨h0, nm_empty h1⟩
    · cases h
  · rename_i h0; exact .inr ⟨h0, h⟩
/-- The document's Encode, whatever the entry. -/
theorem refEnc_any (w : World) (i : Int) (hi : 0 ≤ i ∧ i < 65536) (s : ByteArray) (hz : s.size ≤ 9223372036854775807) :
    Calls Tryz.prog 69 #[.agg #[.int .u16 i, .string s]] w fun e w' => e = .returned (.tuple #[.agg (rowN .u8 (encF i s) 16), .int .i64 (chV i s)]) ∧ Below w.heap.size w w' := by
  by_cases h0 : i = 0
  · subst h0
    by_cases h1 : s.size = 0
    · have e := nm_empty h1
      subst e
      have hc : chV 0 ⟨#[]⟩ = 0 := rfl
      rw [encF_ok hc, encP_free, hc]
      exact refEnc_free w
    · have hc : chV 0 s = 4 := by unfold chV; rw [if_pos rfl, if_neg h1]
      rw [encF_bad (by rw [hc]; decide), hc]
      exact refEnc_odd w s (by omega)
  · have hc : chV i s = nmV s := by unfold chV; rw [if_neg h0]
    by_cases h1 : nmV s = 0
    · rw [encF_ok (by rw [hc, h1]), hc, h1]
      exact refEnc_name w i (by omega) s h1
    · rw [encF_bad (by rw [hc]; exact h1), hc]
      exact refEnc_bad w i (by omega) s h1 hz
end Go.Proofs.YtlcdpmjdnihocaaGreat
/- What a block of 1024 bytes is as cells: a plain function from places to numbers, laid as cells; no condition. -/
namespace Go.Proofs.YtlcdpmjdnihocaaGreatN
open Go.RowKit

/-- The cells of a block whose byte at place i is f i. -/
def blk (f : Nat → Int) : Array Value := ((List.range 1024).map fun i => Value.int .u8 (f i)).toArray
/-- f, but for x at place i. -/
def upd (f : Nat → Int) (i : Nat) (x : Int) : Nat → Int := fun j => if j = i then x else f j
def nought : Nat → Int := fun _ => 0

theorem blk_size (f : Nat → Int) : (blk f).size = 1024 := by simp [blk]
theorem blk_get (f : Nat → Int) (i : Nat) (h : i < 1024) : (blk f)[i]? = some (.int .u8 (f i)) := by
  simp [blk, h]
theorem blk_set (f : Nat → Int) (i : Nat) (x : Int) : (blk f).setIfInBounds i (.int .u8 x) = blk (upd f i x) := by
  apply Array.ext_getElem?
  intro j
  by_cases hj : j < 1024
  · rw [blk_get _ _ hj, Array.getElem?_setIfInBounds]
    by_cases e : i = j
    · subst e; simp [blk_size, hj, upd]
    · have e' : ¬ j = i := fun q => e q.symm
      simp [e, e', blk_get _ _ hj, upd]
  · rw [Array.getElem?_eq_none (by rw [Array.size_setIfInBounds, blk_size]; omega), Array.getElem?_eq_none (by rw [blk_size]; omega)]
theorem blk_congr {f g : Nat → Int} (h : ∀ i, i < 1024 → f i = g i) : blk f = blk g := by
  apply Array.ext_getElem?
  intro j
  by_cases hj : j < 1024
  · rw [blk_get _ _ hj, blk_get _ _ hj, h j hj]
  · rw [Array.getElem?_eq_none (by rw [blk_size]; omega), Array.getElem?_eq_none (by rw [blk_size]; omega)]
theorem blk_one (f : Nat → Int) : (blk f).all (·.oneCell') = true := by
  rw [Array.all_eq_true_iff_forall_mem]
  intro v hv
  simp [blk] at hv
  obtain ⟨i, _, rfl⟩ := hv
  rfl
end Go.Proofs.YtlcdpmjdnihocaaGreatN
/- The block type of this program over its translation: loads, stores and results of whole blocks; fits; no condition. -/
namespace Go.Proofs.YtlcdpmjdnihocaaGreatN
open Go.RowKit

theorem info25 : (Tryz.prog.info? 79).map (fun i => (i.zero, i.size)) = some (some (.agg (blk nought)), 1024) := by kernel_rfl
theorem zero25 : ∀ w, (zeroValue 79).run Tryz.prog w = .ok (.agg (blk nought)) w := (zero_of_info info25).1
theorem size25 : (Tryz.prog.info? 79).map (·.size) = some 1024 := (zero_of_info info25).2

set_option maxHeartbeats 400000 in
theorem fits_any (a n : Int) (w : World) (hn : 0 ≤ n ∧ n ≤ 1024) :
    Calls Tryz.prog 137 #[.int .i64 a, .int .i64 n] w fun e w' => e = .returned (.bool (decide (0 ≤ a ∧ a ≤ 1024 - n))) ∧ w' = w := by
  by_cases h0 : 0 ≤ a
  · by_cases h1 : a ≤ 1024 - n
    · go_enter Tryz.func137, Tryz.ntmps137
      go_wp2
      go_ret
      exact ⟨by simp [h0, h1], rfl⟩
    · go_enter Tryz.func137, Tryz.ntmps137
      go_wp2
      go_ret
      exact ⟨by simp [h1], rfl⟩
  · go_enter Tryz.func137, Tryz.ntmps137
    go_wp2
    go_ret
    exact ⟨by simp; omega, rfl⟩

theorem fits_yes (a n : Int) (w : World) (hn : 0 ≤ n ∧ n ≤ 1024) (h : 0 ≤ a ∧ a ≤ 1024 - n) :
    Calls Tryz.prog 137 #[.int .i64 a, .int .i64 n] w fun e w' => e = .returned (.bool true) ∧ w' = w := by
  have := fits_any a n w hn
  rwa [decide_eq_true h] at this
theorem fits_no (a n : Int) (w : World) (hn : 0 ≤ n ∧ n ≤ 1024) (h : ¬ (0 ≤ a ∧ a ≤ 1024 - n)) :
    Calls Tryz.prog 137 #[.int .i64 a, .int .i64 n] w fun e w' => e = .returned (.bool false) ∧ w' = w := by
  have := fits_any a n w hn
  rwa [decide_eq_false h] at this

/-- The first k of f, noughts behind them. -/
def firsts (f : Nat → Int) (k : Nat) : Nat → Int := fun i => if i < k then f i else 0
theorem firsts_next (f : Nat → Int) (k : Nat) : upd (firsts f k) k (f k) = firsts f (k + 1) := by
  funext j
  unfold upd firsts
  by_cases h : j = k
  · subst h; simp
  · by_cases h2 : j < k
    · simp [h, h2, show j < k + 1 by omega]
    · simp [h, h2, show ¬ j < k + 1 by omega]

theorem wpList_load25 {ops : Array Oper} {rest : List Oper} {o : Oper} {a : Act} {w : World} {Q : Exit → Act → World → Prop} (hgd : o.guard = none) (x : Operand) (ho : o.op = .load 79 x)
    (g : Nat) (hx : a.eval x = .pointer (some ⟨g, 0, none⟩)) (f : Nat → Int) (hg : w.heap[g]? = some (.cells (blk f) 79))
    (h : wpList Tryz.prog ops Q rest (a.put o.dst (.agg (blk f))) w) : wpList Tryz.prog ops Q (o :: rest) a w :=
  wpList_load_row hgd 79 x ho g hx 79 (blk f) (0, 0) _ hg Tryz.underlying79 rfl (by rw [blk_size]; exact size25) h
theorem wpList_store25 {ops : Array Oper} {rest : List Oper} {o : Oper} {a : Act} {w : World} {Q : Exit → Act → World → Prop} (hgd : o.guard = none) (x y : Operand) (ho : o.op = .store 79 x y)
    (g : Nat) (f : Nat → Int) (hx : a.eval x = .pointer (some ⟨g, 0, none⟩)) (hy : a.eval y = .agg (blk f)) (f0 : Nat → Int) (hg : w.heap[g]? = some (.cells (blk f0) 79))
    (h : wpList Tryz.prog ops Q rest (a.put o.dst undef) (w.setRow g (blk f))) : wpList Tryz.prog ops Q (o :: rest) a w :=
  wpList_plain hgd fun _ hK => by
    unfold Oper.wp execOp
    simp only [ho, hx, hy, Instr.storeAt, Instr.sureAddr, Sem.run_bind, Sem.run_pure, Result.andThen_ok, run_storeVar_row w g 79 79 (blk f0) (blk f) hg (by rw [blk_size]; exact size25) (by rw [blk_size, blk_size]) (blk_one f)]
    exact hK _ _ h

/-- A result that is a whole block in a cell. -/
theorem ret25 {fn : Func} {p : Tmp} {R : Ending → World → Prop} {a : Act} {w : World} (h : fn.results = #[.cell p 79]) (g : Nat) (f : Nat → Int)
    (hp : a.tmps.getD p undef = .pointer (some ⟨g, 0, none⟩)) (hg : w.heap[g]? = some (.cells (blk f) 79)) (hd : a.defers = []) (hR : R (.returned (.agg (blk f))) w) : bodyPost Tryz.prog fn R .ret a w :=
  bodyPost_ret (results_cell_row h a.tmps w g 79 (blk f) (0, 0) _ hp hg Tryz.underlying79 rfl (by rw [blk_size]; exact size25)) hd hR
theorem below_setRow {B : Nat} {a w : World} (h : Below B a w) {g : Nat} (hg : B ≤ g) (cs : Array Value) : Below B a (w.setRow g cs) :=
  h.trans ⟨rfl, rfl, rfl, by simp, fun k hk => setRow_other w g k cs (by omega)⟩
theorem below2 (w : World) (a b : Obj) (g : Nat) (hg : w.heap.size ≤ g) (cs : Array Value) : Below w.heap.size w (((w.alloc a).alloc b).setRow g cs) :=
  below_setRow (((Below.refl _ _).alloc (Nat.le_refl _) _).alloc (by simp) _) hg _
end Go.Proofs.YtlcdpmjdnihocaaGreatN
/- Two blocks held against each other: equal just where every byte is; for every two blocks. -/
namespace Go.Proofs.YtlcdpmjdnihocaaGreatN
open Go.RowKit

def sameB (f g : Nat → Int) : Bool := (List.range 1024).all fun i => f i == g i
theorem sameB_iff (f g : Nat → Int) : sameB f g = true ↔ ∀ i, i < 1024 → f i = g i := by
  simp [sameB, List.all_eq_true, List.mem_range]
theorem sameB_self (f : Nat → Int) : sameB f f = true := (sameB_iff f f).2 fun _ _ => rfl

theorem part5 (f : Nat → Int) (i : Nat) (hi : i < 1024) (w : World) : (part 5 (blk f) (i * 1)).run Tryz.prog w = .ok (.int .u8 (f i)) w := by
  have hb := blk_get f i hi
  simp [part, Tryz.isAgg5, hb]
theorem each25 (d : Nat) (f g : Nat → Int) (w : World) : ∀ l : List Nat, (∀ i, i ∈ l → i < 1024) →
    (forIn (m := Sem) l ((none : Option Bool), ()) fun i _ => do
            let x ← part 5 (blk f) (i * 1)
            let y ← part 5 (blk g) (i * 1)
            let b ← Op.equalIn (d + 1) 5 x y
            if (!b) = true then pure (ForInStep.done (some false, ())) else pure (ForInStep.yield (none, ()))).run Tryz.prog w
      = .ok ((if l.all (fun i => f i == g i) then none else some false), ()) w
  | [], _ => by simp
  | i :: l, h => by
    have h1 := part5 f i (h i (by simp)) w
    have h2 := part5 g i (h i (by simp)) w
    have ih := each25 d f g w l fun j hj => h j (by simp [hj])
    have he := run_equalIn_int (P := Tryz.prog) w d 5 .u8 .u8 (f i) (g i) Tryz.underlying5
    simp only [List.forIn_cons, Sem.run_bind, h1, h2, he, Result.andThen_ok, List.all_cons]
    by_cases e : f i = g i
    · simp only [e, beq_self_eq_true, Bool.not_true, Bool.false_eq_true, if_false, Sem.run_pure, Result.andThen_ok, Bool.true_and]
      exact ih
    · have e' : (f i == g i) = false := by simp [e]
      simp [e']
theorem eq25 (f g : Nat → Int) (w : World) : (Op.equalIn 10000 79 (.agg (blk f)) (.agg (blk g))).run Tryz.prog w = .ok (sameB f g) w := by
  have key := each25 9998 f g w (List.range' 0 [:1024].size) (fun i hi => by simpa [Std.Legacy.Range.size] using hi)
  show (Op.equalIn (9998 + 1 + 1) 79 (.agg (blk f)) (.agg (blk g))).run Tryz.prog w = _
  rw [Op.equalIn]
  simp only [Sem.run_bind, run_underlying Tryz.underlying79, Result.andThen_ok]
  rw [show (sizeOf 5).run Tryz.prog w = .ok 1 w by simp [go_sem]]
  simp only [Result.andThen_ok, Std.Legacy.Range.forIn_eq_forIn_range']
  refine (congrArg (fun r => Result.andThen r _) key).trans ?_
  have hr : List.range' 0 [:1024].size = List.range 1024 := by simp [Std.Legacy.Range.size, List.range_eq_range']
  rw [hr]
  show Result.andThen (Result.ok ((if sameB f g = true then none else some false), ()) w) _ = _
  cases sameB f g <;> simp
end Go.Proofs.YtlcdpmjdnihocaaGreatN
/- Regions whose order is drawn and whose calls make memory but turn none that was there: one walk in the text's order serves every order. -/
namespace Go.Proofs.YtlcdpmjdnihocaaGreatN
open Go.RowKit

/-- A world that has all that W has, and perhaps more behind it. -/
structure Later (W : World) where
  val : World
  below : Below W.heap.size W val

theorem later_some (W : World) : Nonempty (Later W) := ⟨⟨W, Below.refl _ _⟩⟩
theorem Later.cell {W : World} (x : Later W) (p : Addr) (h : p.block < W.heap.size) : x.val.cell? p = W.cell? p := x.below.cell h
theorem Later.heap {W : World} (x : Later W) (g : Nat) (h : g < W.heap.size) : x.val.heap[g]? = W.heap[g]? := x.below.block g h

theorem wp_region_later {id : Nat} {Q : Exit → Act → World → Prop} {a : Act} {w : World} {l : List Oper} (hm : Tryz.prog.follows .mixedOrders = true) (hB : Region.lexB .any l.toArray = true)
    (W : World) (hW : Below W.heap.size W w)
    (h : wpQuiet Tryz.prog l.toArray (fun w' => ∃ x : Later W, w' = x.val) (fun a' => ∀ w', (∃ x : Later W, w' = x.val) → Q .normal a' w') l a) : (Code.region id l.toArray true).wp Tryz.prog Q a w :=
  wp_region_quiet (C := fun w' => ∃ x : Later W, w' = x.val) hm hB ⟨⟨_, hW.drew⟩, rfl⟩ (by simpa using h)

theorem Later.call {W : World} (x : Later W) {f : FuncId} {args : Array Value} {v : Value}
    (h : Calls Tryz.prog f args x.val fun e w' => e = .returned v ∧ Below x.val.heap.size x.val w') : Calls Tryz.prog f args x.val fun e w'' => e = .returned v ∧ ∃ y : Later W, w'' = y.val :=
  h.mono fun _ w' ⟨he, hb⟩ => ⟨he, ⟨w', x.below.trans (hb.mono x.below.size)⟩, rfl⟩

theorem quiet_load25 {W : World} {o : Oper} {a : Act} {K : Act → Prop} (x : Operand) (ho : o.op = .load 79 x) (g : Nat) (hx : a.eval x = .pointer (some ⟨g, 0, none⟩)) (f : Nat → Int)
    (hg : W.heap[g]? = some (.cells (blk f) 79)) (hk : K (a.put o.dst (.agg (blk f)))) : o.quiet Tryz.prog a (fun w' => ∃ x : Later W, w' = x.val) K := by
  refine ⟨.agg (blk f), ?_, hk⟩
  rintro _ ⟨y, rfl⟩
  have hlt : g < W.heap.size := (Array.getElem?_eq_some_iff.1 hg).1
  have hh := (y.heap g hlt).trans hg
  unfold Oper.quietAt execOp
  simp only [ho, hx, Instr.loadAt, Instr.sureAddr, Sem.run_bind, Sem.run_pure, Result.andThen_ok, run_loadVar_row y.val g 79 79 (blk f) (0, 0) _ hh Tryz.underlying79 rfl (by rw [blk_size]; exact size25)]
  exact ⟨rfl, rfl⟩

theorem wpList_store25_new {ops : Array Oper} {rest : List Oper} {o : Oper} {a : Act} {w : World} {Q : Exit → Act → World → Prop} (hgd : o.guard = none) (x y : Operand) (ho : o.op = .store 79 x y)
    (f f0 : Nat → Int) (hx : a.eval x = .pointer (some ⟨w.heap.size, 0, none⟩)) (hy : a.eval y = .agg (blk f))
    (h : wpList Tryz.prog ops Q rest (a.put o.dst undef) (w.alloc (.cells (blk f) 79))) : wpList Tryz.prog ops Q (o :: rest) a (w.alloc (.cells (blk f0) 79)) :=
  wpList_store25 hgd x y ho w.heap.size f hx hy f0 (heap_alloc_new _ _) (by rw [World.setRow_alloc_new]; exact h)
end Go.Proofs.YtlcdpmjdnihocaaGreatN
/- slab's inside: which of some places lie in a block; for every place and number. -/
namespace Go.Proofs.YtlcdpmjdnihocaaGreatN
open Go.RowKit

/-- The first of the n places from a on that are inside, and the one behind the last; 0 and 0 if there are none. -/
def insLo (a n : Int) : Nat := if n < 1 ∨ 1024 ≤ a then 0 else a.toNat
def insHi (a n : Int) : Nat := if n < 1 ∨ 1024 ≤ a then 0 else (min (a + n) 1024).toNat
theorem ins_le (a n : Int) : insLo a n ≤ insHi a n ∧ insHi a n ≤ 1024 := by
  unfold insLo insHi; split
  · omega
  · omega
theorem ins_iff (a n : Int) (j : Nat) (hj : j < 1024) : (insLo a n ≤ j ∧ j < insHi a n) ↔ (a ≤ (j : Int) ∧ (j : Int) - a < n) := by
  unfold insLo insHi; split <;> omega
theorem ins_lo (a n : Int) (h : insLo a n < insHi a n) : a ≤ (insLo a n : Int) ∧ (insHi a n : Int) - a ≤ n := by
  unfold insLo insHi at *; split at h <;> split <;> omega
theorem ret_two {a b c d : Int} (h : a = c) (h' : b = d) : Ending.returned (.tuple #[.int .i64 a, .int .i64 b]) = .returned (.tuple #[.int .i64 c, .int .i64 d]) := by rw [h, h']

set_option maxHeartbeats 400000 in
theorem slabInside_any (a n : Int) (w : World) (ha : -9223372036854775808 ≤ a ∧ a ≤ 9223372036854775807) (hn : -9223372036854775808 ≤ n ∧ n ≤ 9223372036854775807) :
    Calls Tryz.prog 141 #[.int .i64 a, .int .i64 n] w fun e w' => e = .returned (.tuple #[.int .i64 (insLo a n), .int .i64 (insHi a n)]) ∧ w' = w := by
  have hlo : ((insLo a n : Nat) : Int) = if n < 1 ∨ 1024 ≤ a then 0 else if a < 0 then 0 else a := by unfold insLo; split <;> (try split) <;> omega
  have hhi : ((insHi a n : Nat) : Int) = if n < 1 ∨ 1024 ≤ a then 0 else if a + n < 0 then 0 else if a + n < 1024 then a + n else 1024 := by
    unfold insHi; split <;> (try split) <;> (try split) <;> omega
  generalize ((insLo a n : Nat) : Int) = lo at *
  generalize ((insHi a n : Nat) : Int) = hi at *
  have HLO : Hid (lo = if n < 1 ∨ 1024 ≤ a then 0 else if a < 0 then 0 else a) := hlo
  have HHI : Hid (hi = if n < 1 ∨ 1024 ≤ a then 0 else if a + n < 0 then 0 else if a + n < 1024 then a + n else 1024) := hhi
  clear hlo hhi
  by_cases h1 : n < 1
  · go_enter Tryz.func141, Tryz.ntmps141
    go_wp2
    go_ret2
    exact ⟨ret_two (by rw [HLO.out, if_pos (.inl h1)]) (by rw [HHI.out, if_pos (.inl h1)]), rfl⟩
  · by_cases h2 : 1024 ≤ a
    · go_enter Tryz.func141, Tryz.ntmps141
      go_wp2
      go_ret2
      exact ⟨ret_two (by rw [HLO.out, if_pos (.inr h2)]) (by rw [HHI.out, if_pos (.inr h2)]), rfl⟩
    · by_cases h3 : a < 0
      · by_cases h4 : a + n < 0
        all_goals by_cases h5 : a + n < 1024
        all_goals
          go_enter Tryz.func141, Tryz.ntmps141
          go_wp2
        all_goals
          go_ret2
          refine ⟨ret_two ?_ ?_, rfl⟩
          · have := HLO.out; rw [if_neg (by omega), if_pos (by omega)] at this; omega
          · have := HHI.out; rw [if_neg (by omega)] at this; split at this <;> (try split at this) <;> omega
      · by_cases h5 : n < 1024 - a
        all_goals
          go_enter Tryz.func141, Tryz.ntmps141
          go_wp2
        all_goals
          go_ret2
          refine ⟨ret_two ?_ ?_, rfl⟩
          · have := HLO.out; rw [if_neg (by omega), if_neg (by omega)] at this; omega
          · have := HHI.out; rw [if_neg (by omega)] at this; split at this <;> (try split at this) <;> omega
end Go.Proofs.YtlcdpmjdnihocaaGreatN
/- The law's own function block: a block that begins with the bytes of a slice; its bytes lie in memory below. -/
namespace Go.Proofs.YtlcdpmjdnihocaaGreatN
open Go.RowKit

/-- The slice v holds n bytes, f 0, f 1 .. -/
def Lies (w : World) (v : Value) (n : Nat) (f : Nat → Int) : Prop :=
  (∃ a cap, v = .slice a 0 cap ∧ n = 0 ∧ (a = none → cap = 0)) ∨ ∃ b off cap, v = .slice (some ⟨b, off, none⟩) n cap ∧ n ≤ maxLen ∧ n ≤ cap ∧ b < w.heap.size ∧ ∀ i, i < n → w.cell? ⟨b, off + i, none⟩ = some (.int .u8 (f i))
theorem Lies.later {w w' : World} {v : Value} {n : Nat} {f : Nat → Int} (h : Lies w v n f) (hb : Below w.heap.size w w') : Lies w' v n f := by
  rcases h with h | ⟨b, off, cap, hv, hn, hcap, hlt, hc⟩
  · exact .inl h
  · exact .inr ⟨b, off, cap, hv, hn, hcap, Nat.lt_of_lt_of_le hlt hb.size, fun i hi => (hb.cell (p := ⟨b, off + i, none⟩) hlt).trans (hc i hi)⟩
end Go.Proofs.YtlcdpmjdnihocaaGreatN
/- Rows of bytes in memory: read, written, copied; whatever their number. -/
namespace Go.Proofs.YtlcdpmjdnihocaaGreatN
open Go.RowKit

theorem info5 : (Tryz.prog.info? 5).map (fun i => (i.zero, i.size, i.bytes)) = some (some (.int .u8 0), 1, 1) := by kernel_rfl
/-- m bytes as cells. -/
def rowA (f : Nat → Int) (m : Nat) : Array Value := ((List.range m).map fun i => Value.int .u8 (f i)).toArray
theorem blk_row (f : Nat → Int) : blk f = rowA f 1024 := rfl
theorem rowA_size (f : Nat → Int) (m : Nat) : (rowA f m).size = m := by simp [rowA]
theorem rowA_get (f : Nat → Int) (m i : Nat) (h : i < m) : (rowA f m)[i]? = some (.int .u8 (f i)) := by simp [rowA, h]
theorem rowA_ext {f : Nat → Int} {m : Nat} {cs : Array Value} (hs : cs.size = m) (h : ∀ i, i < m → cs[i]? = some (.int .u8 (f i))) : cs = rowA f m := by
  apply Array.ext_getElem?
  intro i
  by_cases hi : i < m
  · rw [h i hi, rowA_get f m i hi]
  · rw [Array.getElem?_eq_none (by omega), Array.getElem?_eq_none (by rw [rowA_size]; omega)]
theorem rowA_congr {f g : Nat → Int} {m : Nat} (h : ∀ i, i < m → f i = g i) : rowA f m = rowA g m :=
  rowA_ext (rowA_size f m) fun i hi => by rw [rowA_get f m i hi, h i hi]
theorem rowA_set (f : Nat → Int) (m i : Nat) (x : Int) : (rowA f m).setIfInBounds i (.int .u8 x) = rowA (upd f i x) m := by
  refine rowA_ext (by rw [Array.size_setIfInBounds, rowA_size]) fun j hj => ?_
  rw [Array.getElem?_setIfInBounds]
  by_cases e : i = j
  · subst e; simp [rowA_size, hj, upd]
  · have e' : ¬ j = i := fun q => e q.symm
    simp [e, e', rowA_get _ _ _ hj, upd]
theorem made_row (m : Nat) : madeCells #[Value.int .u8 0] m = rowA nought m :=
  rowA_ext (by simp [madeCells]) fun i hi => by simp [madeCells, hi, nought, Nat.mod_one]
theorem cell_row {w : World} {g m : Nat} {f : Nat → Int} {t : TypeId} (h : w.heap[g]? = some (.cells (rowA f m) t)) (i : Nat) (hi : i < m) : w.cell? ⟨g, i, none⟩ = some (.int .u8 (f i)) := by
  rw [cell_of_row w g i _ t _ h]; exact rowA_get f m i hi
theorem rowA_one (f : Nat → Int) (m : Nat) : ∀ v ∈ (rowA f m).toList, v.oneCell' = true := by
  intro v hv
  simp [rowA] at hv
  obtain ⟨i, _, rfl⟩ := hv
  rfl

/-- F, but for n bytes of G from off on. -/
def over (F : Nat → Int) (off n : Nat) (G : Nat → Int) : Nat → Int := fun i => if off ≤ i ∧ i < off + n then G (i - off) else F i
theorem over_none (F : Nat → Int) (off : Nat) (G : Nat → Int) : over F off 0 G = F := by
  funext i; unfold over; rw [if_neg (by omega)]

theorem run_copy5 (w : World) (ty : TypeId) (g off dLen dCap gs so sLen sCap : Nat)
    (F : Nat → Int) (m : Nat) (t : TypeId) (hF : w.heap[g]? = some (.cells (rowA F m) t)) (G : Nat → Int) (n : Nat) (hn : n = Nat.min sLen dLen)
    (hsrc : ∀ j, j < n → w.cell? ⟨gs, so + j, none⟩ = some (.int .u8 (G j))) (hfit : off + n ≤ m) :
    (Builtin.copy_ #[157, 157] ty #[.slice (some ⟨g, off, none⟩) dLen dCap, .slice (some ⟨gs, so, none⟩) sLen sCap]).run Tryz.prog w = .ok (goInt n) (w.setRow g (rowA (over F off n G) m)) := by
  have hlen : (rowA G n).toList.length = n := by simp [rowA_size]
  have hi5 : (Tryz.prog.info? 5).map (·.size) = some 1 := by
    obtain ⟨i0, hi0, _, hz1, _⟩ := info_parts info5
    rw [hi0]; simp [hz1]
  have key := run_copy_row (P := Tryz.prog) w 157 157 ty 5 g off dLen dCap ⟨gs, so, none⟩ sLen sCap (rowA F m) t (rowA G n).toList Tryz.underlying157 hi5 hF (by rw [hlen]; exact hn) (fun j v hv => by
    have hj : j < n := by rw [← hlen]; exact (List.getElem?_eq_some_iff.1 hv).1
    have e : v = .int .u8 (G j) := by
      have := rowA_get G n j hj
      simp at hv
      rw [hv] at this
      exact Option.some.inj this
    rw [e, Go.WideShapes.add_plain]
    exact hsrc j hj) (by rw [hlen, rowA_size]; exact hfit) (rowA_one G n)
  have e : ((rowA F m).toList.take off ++ ((rowA G n).toList ++ (rowA F m).toList.drop (off + n))).toArray = rowA (over F off n G) m := by
    refine rowA_ext ?_ fun i hi => ?_
    · simp [rowA_size]; omega
    · simp only [List.getElem?_toArray]
      by_cases h1 : i < off
      · rw [List.getElem?_append_left (by simp [rowA_size]; omega), List.getElem?_take_of_lt h1]
        simp only [Array.getElem?_toList, rowA_get F m i hi, over]
        rw [if_neg (by omega)]
      · rw [List.getElem?_append_right (by simp [rowA_size]; omega)]
        have e0 : (List.take off (rowA F m).toList).length = off := by simp [rowA_size]; omega
        rw [e0]
        by_cases h2 : i < off + n
        · rw [List.getElem?_append_left (by simp [rowA_size]; omega)]
          simp only [Array.getElem?_toList, rowA_get G n (i - off) (by omega), over]
          rw [if_pos (by omega)]
        · rw [List.getElem?_append_right (by simp [rowA_size]; omega), hlen, List.getElem?_drop, show off + n + (i - off - n) = i by omega]
          simp only [Array.getElem?_toList, rowA_get F m i hi, over]
          rw [if_neg (by omega)]
  rw [hlen, List.append_assoc, e] at key
  exact key
theorem wp_copy5 {o : Oper} {a : Act} {w : World} {K : Act → World → Prop} {Q : Exit → Act → World → Prop} (d s : Operand)
    (ho : o.op = .call { callee := .builtin .copy, args := #[d, s], argTypes := #[157, 157] }) (g off dLen dCap gs so sLen sCap : Nat)
    (hd : a.eval d = .slice (some ⟨g, off, none⟩) dLen dCap) (hs : a.eval s = .slice (some ⟨gs, so, none⟩) sLen sCap)
    (F : Nat → Int) (m : Nat) (t : TypeId) (hF : w.heap[g]? = some (.cells (rowA F m) t)) (G : Nat → Int) (n : Nat) (hn : n = Nat.min sLen dLen)
    (hsrc : ∀ j, j < n → w.cell? ⟨gs, so + j, none⟩ = some (.int .u8 (G j))) (hfit : off + n ≤ m)
    (h : K (a.put o.dst (goInt n)) (w.setRow g (rowA (over F off n G) m))) : o.wp Tryz.prog a w K Q := by
  have hrun := run_copy5 w o.type g off dLen dCap gs so sLen sCap F m t hF G n hn hsrc hfit
  unfold Oper.wp
  simp [execOp, ho, resolve, invoke, builtin, hd, hs, hrun, Result.andThen]
  exact h
theorem wpList_copy5 {ops : Array Oper} {rest : List Oper} {o : Oper} {a : Act} {w : World} {Q : Exit → Act → World → Prop} (hgd : o.guard = none) (d s : Operand)
    (ho : o.op = .call { callee := .builtin .copy, args := #[d, s], argTypes := #[157, 157] }) (g off dLen dCap gs so sLen sCap : Nat)
    (hd : a.eval d = .slice (some ⟨g, off, none⟩) dLen dCap) (hs : a.eval s = .slice (some ⟨gs, so, none⟩) sLen sCap)
    (F : Nat → Int) (m : Nat) (t : TypeId) (hF : w.heap[g]? = some (.cells (rowA F m) t)) (G : Nat → Int) (n : Nat) (hn : n = Nat.min sLen dLen)
    (hsrc : ∀ j, j < n → w.cell? ⟨gs, so + j, none⟩ = some (.int .u8 (G j))) (hfit : off + n ≤ m)
    (h : wpList Tryz.prog ops Q rest (a.put o.dst (goInt n)) (w.setRow g (rowA (over F off n G) m))) : wpList Tryz.prog ops Q (o :: rest) a w :=
  wpList_plain hgd fun _ hK => wp_copy5 d s ho g off dLen dCap gs so sLen sCap hd hs F m t hF G n hn hsrc hfit (hK _ _ h)
theorem step_copy5 {ops : Array Oper} {o : Oper} {a : Act} {w : World} {K : Act → World → Prop} {Q : Exit → Act → World → Prop} {E : Prop} (hgd : o.guard = none) (d s : Operand)
    (ho : o.op = .call { callee := .builtin .copy, args := #[d, s], argTypes := #[157, 157] }) (g off dLen dCap gs so sLen sCap : Nat)
    (hd : a.eval d = .slice (some ⟨g, off, none⟩) dLen dCap) (hs : a.eval s = .slice (some ⟨gs, so, none⟩) sLen sCap)
    (F : Nat → Int) (m : Nat) (t : TypeId) (hF : w.heap[g]? = some (.cells (rowA F m) t)) (G : Nat → Int) (n : Nat) (hn : n = Nat.min sLen dLen)
    (hsrc : ∀ j, j < n → w.cell? ⟨gs, so + j, none⟩ = some (.int .u8 (G j))) (hfit : off + n ≤ m)
    (h : K (a.put o.dst (goInt n)) (w.setRow g (rowA (over F off n G) m))) : if Region.wanted o (yielded ops a.tmps) = true then Oper.wp Tryz.prog o a w K Q else E := by
  have hw : Region.wanted o (yielded ops a.tmps) = true := by simp [Region.wanted, hgd]
  rw [if_pos hw]
  exact wp_copy5 d s ho g off dLen dCap gs so sLen sCap hd hs F m t hF G n hn hsrc hfit h
end Go.Proofs.YtlcdpmjdnihocaaGreatN
/- Piece of slab: some bytes of a block, those that are inside, in memory of their own; for every block, place and number. -/
namespace Go.Proofs.YtlcdpmjdnihocaaGreatN
open Go.RowKit

theorem ins_lo_lt (a n : Int) : insLo a n < 1024 := by unfold insLo; split <;> omega
theorem slice25 (g lo hi : Nat) (h1 : lo ≤ hi) (h2 : hi ≤ 1024) (h3 : lo < 1024) (u : World) :
    (Instr.sliceAt 79 (.pointer (some ⟨g, 0, none⟩)) (some (.int .i64 (lo : Int))) (some (.int .i64 (hi : Int))) none).run Tryz.prog u = .ok (.slice (some ⟨g, lo, none⟩) (hi - lo) (1024 - lo)) u := by
  have hn : ¬ ((1024 : Nat) = lo) := by omega
  have ea : Tryz.prog.arrayLen 79 = 1024 := by kernel_rfl
  have ee : Tryz.prog.elem 79 = 5 := by kernel_rfl
  have h := run_sliceAt_array_lh (P := Tryz.prog) u 79 ⟨g, 0, none⟩ (by rw [ea, ee]; exact Tryz.underlying79) .i64 .i64 (lo : Int) (hi : Int) (by omega) (by omega) (by rw [ea]; omega)
  rw [h, ea, ee]
  simp [Tryz.sizeOf5, slicedAt, hn, Addr.add]
  intro h0; exact h0.symm

/-- f from lo on. -/
def from' (f : Nat → Int) (lo : Nat) : Nat → Int := fun i => f (lo + i)

set_option maxRecDepth 20000 in
set_option maxHeartbeats 400000 in
theorem piece_any (f : Nat → Int) (k n : Int) (w : World) (ha : -9223372036854775808 ≤ k ∧ k ≤ 9223372036854775807) (hn : -9223372036854775808 ≤ n ∧ n ≤ 9223372036854775807) :
    Calls Tryz.prog 158 #[.agg (blk f), .int .i64 k, .int .i64 n] w fun e w' => e = .returned (.slice (some ⟨w.heap.size + 1, 0, none⟩) (insHi k n - insLo k n) (insHi k n - insLo k n)) ∧
      w'.heap[w.heap.size + 1]? = some (.cells (rowA (from' f (insLo k n)) (insHi k n - insLo k n)) 5) ∧ w'.heap.size = w.heap.size + 2 ∧ Below w.heap.size w w' := by
  obtain ⟨i0, hi0, hz0, hz1, hz2⟩ := info_parts info5
  have hle := ins_le k n
  have hlo := ins_lo_lt k n
  have hcl := slabInside_any k n
  generalize insLo k n = lo at *
  generalize insHi k n = hi at *
  obtain ⟨hl1, hl2⟩ := hle
  have hmk : ∀ u : World, (Instr.makeSlice 157 (.int .i64 ((hi : Int) - (lo : Int))) (.int .i64 ((hi : Int) - (lo : Int)))).run Tryz.prog u =
      .ok (.slice (some ⟨u.heap.size, 0, none⟩) (hi - lo) (hi - lo)) (u.alloc (.cells (rowA nought (hi - lo)) 5)) := fun u => by
    have h := run_make (P := Tryz.prog) u 157 5 i0 (.int .u8 0) Tryz.underlying157 hi0 hz0 .i64 .i64 ((hi : Int) - (lo : Int)) ((hi : Int) - (lo : Int)) (by omega) (Int.le_refl _) (by rw [hz2]; omega) (by omega)
    rw [show ((hi : Int) - (lo : Int)).toNat = hi - lo by omega] at h
    simpa [hz1, Value.cells, made_row] using h
  clear hi0 hz0 hz1 hz2
  have hsl := slice25 w.heap.size lo hi hl1 hl2 hlo
  have hsrc : ∀ j, j < hi - lo → ((w.alloc (.cells (blk f) 79)).alloc (.cells (rowA nought (hi - lo)) 5)).cell? ⟨w.heap.size, lo + j, none⟩ = some (.int .u8 (from' f lo j)) := fun j hj =>
    cell_row (f := f) (m := 1024) (heap_alloc2_old _ _ _) (lo + j) (by omega)
  have HS : Hid (∀ j, j < hi - lo → ((w.alloc (.cells (blk f) 79)).alloc (.cells (rowA nought (hi - lo)) 5)).cell? ⟨w.heap.size, lo + j, none⟩ = some (.int .u8 (from' f lo j))) := hsrc
  have hov : rowA (over nought 0 (hi - lo) (from' f lo)) (hi - lo) = rowA (from' f lo) (hi - lo) := rowA_congr fun i hi => by unfold over; rw [if_pos (by omega), Nat.sub_zero]
  have HO : Hid (rowA (over nought 0 (hi - lo) (from' f lo)) (hi - lo) = rowA (from' f lo) (hi - lo)) := hov
  clear hsrc hov
  go_enter Tryz.func158, Tryz.ntmps158
  go_wp2_with fail
  refine (hcl _ ha hn).mono ?_
  rintro e w1 ⟨rfl, rfl⟩
  clear hcl
  go_wp2_with (first | refine wpList_copy5 rfl _ _ rfl _ _ _ _ _ _ _ _ rfl rfl nought (hi - lo) 5 (heap_alloc2_new _ _ _) (from' f lo) (hi - lo) (Nat.min_self _).symm HS.out (by omega) ?_)
  go_ret
  refine ⟨rfl, ?_, by simp, below2 _ _ _ _ (by omega) _⟩
  rw [← HO.out]
  exact setRow_heap _ _ _ _ _ _ (heap_alloc2_new _ _ _)
end Go.Proofs.YtlcdpmjdnihocaaGreatN
/- Lay of slab: bytes laid into a block, those that come to lie inside; for every block, place and bytes. -/
namespace Go.Proofs.YtlcdpmjdnihocaaGreatN
open Go.RowKit

/-- f with n bytes of q laid from place a on. -/
def layF (f : Nat → Int) (a : Int) (n : Nat) (q : Nat → Int) : Nat → Int := fun j => if a ≤ (j : Int) ∧ (j : Int) - a < (n : Int) then q ((j : Int) - a).toNat else f j

theorem lay_none (f : Nat → Int) (k : Int) (n : Nat) (q : Nat → Int) (h : ¬ insLo k n < insHi k n) : blk f = blk (layF f k n q) := blk_congr fun i hi => by
  unfold layF
  have := ins_iff k n i hi
  rw [if_neg (by omega)]
theorem lay_some (f : Nat → Int) (k : Int) (n : Nat) (q : Nat → Int) (h : insLo k n < insHi k n) :
    rowA (over f (insLo k n) (insHi k n - insLo k n) (from' q ((insLo k n : Int) - k).toNat)) 1024 = blk (layF f k n q) := rowA_congr fun i hi => by
  unfold over layF from'
  have h1 := ins_iff k n i hi
  have h2 := ins_lo k n h
  by_cases h3 : insLo k n ≤ i ∧ i < insHi k n
  · rw [if_pos (by omega), if_pos (h1.1 h3)]
    congr 1
    omega
  · rw [if_neg (by omega), if_neg (by omega)]

set_option maxRecDepth 20000 in
set_option maxHeartbeats 400000 in
theorem lay_skip (f : Nat → Int) (k : Int) (a : Option Addr) (n cap : Nat) (q : Nat → Int) (w : World) (ha : -9223372036854775808 ≤ k ∧ k ≤ 9223372036854775807) (hn : n ≤ 9223372036854775807) (h : ¬ insLo k n < insHi k n) :
    Calls Tryz.prog 102 #[.agg (blk f), .int .i64 k, .slice a n cap] w fun e w' => e = .returned (.agg (blk (layF f k n q))) ∧ Below w.heap.size w w' := by
  have HF : Hid (blk f = blk (layF f k n q)) := lay_none f k n q h
  have hcl := slabInside_any k n
  have z25 := zero25
  generalize insLo k n = lo at *
  generalize insHi k n = hi at *
  have h' : ¬ ((lo : Int) < (hi : Int)) := by omega
  clear h
  go_enter Tryz.func102, Tryz.ntmps102
  go_wp2_with fail
  refine (hcl _ ha (by omega)).mono ?_
  rintro e w1 ⟨rfl, rfl⟩
  clear hcl
  go_wp2_with (first | refine wpList_load25 rfl _ rfl _ rfl _ (heap_alloc2_old _ _ _) ?_ | refine wpList_store25 rfl _ _ rfl _ _ rfl rfl _ (heap_alloc2_new _ _ _) ?_)
  exact ret25 rfl (w.heap.size + 1) _ rfl (setRow_heap _ _ _ _ _ _ (heap_alloc2_new _ _ _)) rfl ⟨by rw [HF.out], below2 _ _ _ _ (by omega) _⟩

set_option maxRecDepth 20000 in
set_option maxHeartbeats 400000 in
theorem lay_copy (f : Nat → Int) (k : Int) (b off n cap : Nat) (q : Nat → Int) (w : World) (ha : -9223372036854775808 ≤ k ∧ k ≤ 9223372036854775807) (hn : n ≤ 9223372036854775807) (hcap : n ≤ cap)
    (hb : b < w.heap.size) (hc : ∀ i, i < n → w.cell? ⟨b, off + i, none⟩ = some (.int .u8 (q i))) (h : insLo k n < insHi k n) :
    Calls Tryz.prog 102 #[.agg (blk f), .int .i64 k, .slice (some ⟨b, off, none⟩) n cap] w fun e w' => e = .returned (.agg (blk (layF f k n q))) ∧ Below w.heap.size w w' := by
  have hle := ins_le k n
  have hlo := ins_lo_lt k n
  have hlk := ins_lo k n h
  have HF : Hid (rowA (over f (insLo k n) (insHi k n - insLo k n) (from' q ((insLo k n : Int) - k).toNat)) 1024 = blk (layF f k n q)) := lay_some f k n q h
  have hcl := slabInside_any k n
  have z25 := zero25
  generalize insLo k n = lo at *
  generalize insHi k n = hi at *
  obtain ⟨l, hl⟩ : ∃ l : Nat, (lo : Int) - k = (l : Int) := ⟨((lo : Int) - k).toNat, by omega⟩
  have hlt : ((lo : Int) - k).toNat = l := by omega
  rw [hlt] at HF
  have h' : ((lo : Int) < (hi : Int)) := by omega
  have hsl := slice25 w.heap.size lo hi hle.1 hle.2 hlo
  have hln : l < n := by omega
  have hwr : IntKind.i64.wrap ((lo : Int) - k) = (l : Int) := by rw [IntKind.wrap_i64]; omega
  have hln' : (l : Int) ≤ (n : Int) := by omega
  have hcp : ¬ cap = l := by omega
  have hsrc : ∀ j, j < hi - lo → ((w.alloc (.cells (blk f) 79)).alloc (.cells (blk nought) 79)).drew.cell? ⟨b, off + l + j, none⟩ = some (.int .u8 (from' q l j)) := fun j hj => by
    have h1 := hc (l + j) (by omega)
    rw [← Nat.add_assoc] at h1
    exact ((((Below.refl w.heap.size w).alloc (Nat.le_refl _) (.cells (blk f) 79)).alloc (by simp) (.cells (blk nought) 79)).cell (p := ⟨b, off + l + j, none⟩) hb).trans h1
  have HS : Hid (∀ j, j < hi - lo → ((w.alloc (.cells (blk f) 79)).alloc (.cells (blk nought) 79)).drew.cell? ⟨b, off + l + j, none⟩ = some (.int .u8 (from' q l j))) := hsrc
  have HB : Hid (((w.alloc (.cells (blk f) 79)).alloc (.cells (blk nought) 79)).drew.heap[w.heap.size]? = some (.cells (rowA f 1024) 79)) := heap_alloc2_old _ _ _
  have hE : lo + (hi - lo) ≤ 1024 := by omega
  have HE : Hid (lo + (hi - lo) ≤ 1024) := hE
  clear hE
  have HN : Hid (hi - lo = Nat.min (n - l) (hi - lo)) := show _ = _ from (Nat.min_eq_right (by omega)).symm
  clear hc hsrc hlt h hlo hln
  clear hl
  go_enter Tryz.func102, Tryz.ntmps102
  go_wp2_with fail
  refine (hcl _ ha (by omega)).mono ?_
  rintro e w1 ⟨rfl, rfl⟩
  clear hcl
  go_wp2
  go_still_tail 8, (by kernel_rfl)
  change wpList _ _ _ _ _ (World.drew _)
  refine wpList_copy5 rfl (.tmp 21) (.tmp 26) rfl w.heap.size lo (hi - lo) (1024 - lo) b (off + l) (n - l) (cap - l) rfl rfl f 1024 79 HB.out (from' q l) (hi - lo) HN.out HS.out HE.out ?_
  rw [HF.out]
  have h1 := setRow_heap _ w.heap.size (rowA f 1024) (blk (layF f k n q)) 79 (0, 0) HB.out
  have h2 : (((w.alloc (.cells (blk f) 79)).alloc (.cells (blk nought) 79)).drew.setRow w.heap.size (blk (layF f k n q))).heap[w.heap.size + 1]? = some (.cells (blk nought) 79) :=
    (setRow_other _ _ _ _ (by omega)).trans (heap_alloc2_new _ _ _)
  have h3 : Below w.heap.size w (((w.alloc (.cells (blk f) 79)).alloc (.cells (blk nought) 79)).drew.setRow w.heap.size (blk (layF f k n q))) :=
    below_setRow (((Below.refl _ _).alloc (Nat.le_refl _) _).alloc (by simp) _).drew (Nat.le_refl _) _
  generalize ((w.alloc (.cells (blk f) 79)).alloc (.cells (blk nought) 79)).drew.setRow w.heap.size (blk (layF f k n q)) = W at h1 h2 h3 ⊢
  clear HB HS HF hsl
  simp only [Act.put, List.setIfInBounds_toArray, List.set_cons_succ, List.set_cons_zero]
  go_wp2_with (first | refine wpList_load25 rfl _ rfl _ rfl _ h1 ?_ | refine wpList_store25 rfl _ _ rfl _ _ rfl rfl _ h2 ?_)
  exact ret25 rfl (w.heap.size + 1) _ rfl (setRow_heap _ _ _ _ _ _ h2) rfl ⟨rfl, below_setRow h3 (by omega) _⟩

theorem lay_any (f : Nat → Int) (k : Int) (p : Value) (n : Nat) (q : Nat → Int) (w : World) (ha : -9223372036854775808 ≤ k ∧ k ≤ 9223372036854775807) (hp : Lies w p n q) :
    Calls Tryz.prog 102 #[.agg (blk f), .int .i64 k, p] w fun e w' => e = .returned (.agg (blk (layF f k n q))) ∧ Below w.heap.size w w' := by
  rcases hp with ⟨a, cap, rfl, rfl, _⟩ | ⟨b, off, cap, rfl, hn, hcap, hb, hc⟩
  · refine lay_skip f k a 0 cap q w ha (by omega) ?_
    unfold insLo insHi; rw [if_pos (.inl (by omega)), if_pos (.inl (by omega))]; omega
  · unfold maxLen at hn
    by_cases h : insLo k n < insHi k n
    · exact lay_copy f k b off n cap q w ha (by omega) hcap hb hc h
    · exact lay_skip f k _ n cap q w ha (by omega) h
end Go.Proofs.YtlcdpmjdnihocaaGreatN
/- Numbers of some bytes, the lowest first: read and laid, as plain functions; the bytes are 0 to 255. -/
namespace Go.Proofs.YtlcdpmjdnihocaaGreatN
open Go.RowKit

/-- The number of m bytes from place k on. -/
def numN (f : Nat → Int) (k : Nat) : Nat → Int
  | 0 => 0
  | m + 1 => f k + 256 * numN f (k + 1) m
/-- The number of n bytes from at on, if all are inside. -/
def num (f : Nat → Int) (at' : Int) (n : Nat) : Int := if 0 ≤ at' ∧ at' ≤ 1024 - (n : Int) then numN f at'.toNat n else 0
/-- f with m bytes of v laid from place k on. -/
def putN (f : Nat → Int) (k : Nat) (v : Int) : Nat → Nat → Int
  | 0 => f
  | m + 1 => putN (upd f k (v % 256)) (k + 1) (v / 256) m
def put (f : Nat → Int) (at' : Int) (n : Nat) (v : Int) : Nat → Int := if 0 ≤ at' ∧ at' ≤ 1024 - (n : Int) then putN f at'.toNat v n else f

theorem numN_bd (f : Nat → Int) (hf : ∀ i, 0 ≤ f i ∧ f i ≤ 255) : ∀ (m k : Nat), 0 ≤ numN f k m ∧ numN f k m < 256 ^ m
  | 0, _ => by simp [numN]
  | m + 1, k => by
    have h1 := numN_bd f hf m (k + 1)
    have h2 := hf k
    simp only [numN, Int.pow_succ]
    omega
theorem num2 (f : Nat → Int) (k : Nat) : numN f k 2 = f k + 256 * f (k + 1) := by simp [numN]
theorem num4 (f : Nat → Int) (k : Nat) : numN f k 4 = f k + 256 * f (k + 1) + 65536 * f (k + 2) + 16777216 * f (k + 3) := by
  simp only [numN, Nat.add_assoc, Nat.reduceAdd]; omega
theorem num_in (f : Nat → Int) (k n : Nat) (h : k + n ≤ 1024) : num f (k : Int) n = numN f k n := by
  unfold num; rw [if_pos (by omega), Int.toNat_natCast]
theorem num_out (f : Nat → Int) (a : Int) (n : Nat) (h : a < 0 ∨ 1024 - (n : Int) < a) : num f a n = 0 := by
  unfold num; rw [if_neg (by omega)]
theorem put_in (f : Nat → Int) (k n : Nat) (v : Int) (h : k + n ≤ 1024) : put f (k : Int) n v = putN f k v n := by
  unfold put; rw [if_pos (by omega), Int.toNat_natCast]
theorem put_out (f : Nat → Int) (a : Int) (n : Nat) (v : Int) (h : a < 0 ∨ 1024 - (n : Int) < a) : put f a n v = f := by
  unfold put; rw [if_neg (by omega)]
theorem put2 (f : Nat → Int) (k : Nat) (v : Int) (hv : 0 ≤ v ∧ v < 65536) : putN f k v 2 = upd (upd f k (v % 256)) (k + 1) (v / 256) := by
  simp only [putN]
  rw [show v / 256 % 256 = v / 256 by omega]
theorem put4 (f : Nat → Int) (k : Nat) (v : Int) (hv : 0 ≤ v ∧ v < 4294967296) : putN f k v 4 = upd (upd (upd (upd f k (v % 256)) (k + 1) (v / 256 % 256)) (k + 2) (v / 65536 % 256)) (k + 3) (v / 16777216) := by
  simp only [putN, Nat.add_assoc, Nat.reduceAdd]
  rw [show v / 256 / 256 % 256 = v / 65536 % 256 by omega, show v / 256 / 256 / 256 % 256 = v / 16777216 by omega]
theorem num_bd (f : Nat → Int) (hf : ∀ i, 0 ≤ f i ∧ f i ≤ 255) (a : Int) (n : Nat) : 0 ≤ num f a n ∧ num f a n < 256 ^ n := by
  unfold num
  split
  · exact numN_bd f hf _ _
  · exact ⟨Int.le_refl _, Int.pow_pos (by decide)⟩

theorem wrap_u8 (n : Int) : IntKind.u8.wrap n = n % 256 := by simp [IntKind.wrap, IntKind.bits, IntKind.signed]
theorem wrap_u16 (n : Int) : IntKind.u16.wrap n = n % 65536 := by simp [IntKind.wrap, IntKind.bits, IntKind.signed]
theorem wrap_u32 (n : Int) : IntKind.u32.wrap n = n % 4294967296 := by simp [IntKind.wrap, IntKind.bits, IntKind.signed]

theorem or_comm' (k : IntKind) (x y : Int) : bits .or k x y = bits .or k y x := by simp only [bits, BitVec.or_comm]
theorem or16 (a b : Int) (ha : 0 ≤ a ∧ a ≤ 255) (hb : 0 ≤ b ∧ b ≤ 255) : bits .or .u16 (IntKind.u16.wrap a) (IntKind.u16.wrap (IntKind.u16.wrap b * 256)) = a + 256 * b := by
  simp only [wrap_u16]
  have h1 : a % 65536 = a := by omega
  have h2 : b % 65536 * 256 % 65536 = 256 * b := by omega
  rw [h1, h2, or_comm', bits_join .u16 16 (by decide) (fun n h0 h1 => by rw [wrap_u16]; omega) 8 (256 * b) a (by omega) (by omega) (by omega) (by omega) (by omega) (by omega)]
  omega
theorem or32 (i : Nat) (x y : Int) (hx0 : 0 ≤ x) (hx : x % 2 ^ i = 0) (hx1 : x < 2 ^ 32) (hy0 : 0 ≤ y) (hy : y < 2 ^ i) (hy1 : y < 2 ^ 32) : bits .or .u32 y x = y + x := by
  rw [or_comm', bits_join .u32 32 (by decide) (fun n h0 h1 => by rw [wrap_u32]; omega) i x y hx0 hx hx1 hy0 hy hy1]
  omega
theorem or32all (a b c d : Int) (ha : 0 ≤ a ∧ a ≤ 255) (hb : 0 ≤ b ∧ b ≤ 255) (hc : 0 ≤ c ∧ c ≤ 255) (hd : 0 ≤ d ∧ d ≤ 255) :
    bits .or .u32 (bits .or .u32 (bits .or .u32 (IntKind.u32.wrap a) (IntKind.u32.wrap (IntKind.u32.wrap b * 256))) (IntKind.u32.wrap (IntKind.u32.wrap c * 65536))) (IntKind.u32.wrap (IntKind.u32.wrap d * 16777216)) = a + 256 * b + 65536 * c + 16777216 * d := by
  simp only [wrap_u32]
  have h1 : a % 4294967296 = a := by omega
  have h2 : b % 4294967296 * 256 % 4294967296 = 256 * b := by omega
  have h3 : c % 4294967296 * 65536 % 4294967296 = 65536 * c := by omega
  have h4 : d % 4294967296 * 16777216 % 4294967296 = 16777216 * d := by omega
  rw [h1, h2, h3, h4, or32 8 (256 * b) a (by omega) (by omega) (by omega) (by omega) (by omega) (by omega),
    or32 16 (65536 * c) (a + 256 * b) (by omega) (by omega) (by omega) (by omega) (by omega) (by omega),
    or32 24 (16777216 * d) (a + 256 * b + 65536 * c) (by omega) (by omega) (by omega) (by omega) (by omega) (by omega)]
end Go.Proofs.YtlcdpmjdnihocaaGreatN
/- U16 and U32 of slab: the number of the bytes at a place, or nought; for every block of bytes and every place. -/
namespace Go.Proofs.YtlcdpmjdnihocaaGreatN
open Go.RowKit

theorem ret_int {k : IntKind} {a b : Int} (h : a = b) : Ending.returned (.int k a) = .returned (.int k b) := by rw [h]

end Go.Proofs.YtlcdpmjdnihocaaGreatN
/- SetU16 and SetU32 of slab: the block in which a number is laid; for every block, place and number. -/
namespace Go.Proofs.YtlcdpmjdnihocaaGreatN
open Go.RowKit

theorem ret_blk {f g : Nat → Int} (h : f = g) : Ending.returned (.agg (blk f)) = .returned (.agg (blk g)) := by rw [h]
set_option maxRecDepth 20000 in
set_option maxHeartbeats 400000 in
theorem set16_in (f : Nat → Int) (k : Nat) (v : Int) (w : World) (hk : (k : Int) ≤ 1022) (hv : 0 ≤ v ∧ v < 65536) :
    Calls Tryz.prog 155 #[.agg (blk f), .int .i64 k, .int .u16 v] w fun e w' => e = .returned (.agg (blk (putN f k v 2))) ∧ Below w.heap.size w w' := by
  have z25 := zero25
  have hb0 := fun g => blk_get g (k) (by omega)
  have hb1 := fun g => blk_get g (k + 1) (by omega)
  have hset := blk_set
  go_enter Tryz.func155, Tryz.ntmps155
  go_wp2_with (first | (go_at_call 137; refine (fits_yes _ _ _ (by omega) (by omega)).mono ?_; rintro e w' ⟨rfl, rfl⟩) | refine wpList_load25 rfl _ rfl _ rfl _ (heap_alloc2_old _ _ _) ?_ | refine wpList_store25 rfl _ _ rfl _ _ rfl rfl _ (heap_alloc2_new _ _ _) ?_)
  exact ret25 rfl (w.heap.size + 1) _ rfl (setRow_heap _ _ _ _ _ _ (heap_alloc2_new _ _ _)) rfl ⟨ret_blk (put2 f k v hv).symm, below2 _ _ _ _ (by omega) _⟩
set_option maxRecDepth 20000 in
set_option maxHeartbeats 400000 in
theorem set16_out (f : Nat → Int) (k : Int) (v : Int) (w : World) (hk : ¬ (0 ≤ k ∧ k ≤ 1024 - 2)) :
    Calls Tryz.prog 155 #[.agg (blk f), .int .i64 k, .int .u16 v] w fun e w' => e = .returned (.agg (blk f)) ∧ Below w.heap.size w w' := by
  have z25 := zero25
  have HK : Hid (¬ (0 ≤ k ∧ k ≤ 1024 - 2)) := hk
  clear hk
  go_enter Tryz.func155, Tryz.ntmps155
  go_wp2_with (first | (go_at_call 137; refine (fits_no _ _ _ (by omega) HK.out).mono ?_; rintro e w' ⟨rfl, rfl⟩) | refine wpList_load25 rfl _ rfl _ rfl _ (heap_alloc2_old _ _ _) ?_ | refine wpList_store25 rfl _ _ rfl _ _ rfl rfl _ (heap_alloc2_new _ _ _) ?_)
  exact ret25 rfl (w.heap.size + 1) _ rfl (setRow_heap _ _ _ _ _ _ (heap_alloc2_new _ _ _)) rfl ⟨rfl, below2 _ _ _ _ (by omega) _⟩
theorem set16_any (f : Nat → Int) (k : Int) (v : Int) (w : World) (hv : 0 ≤ v ∧ v < 65536) :
    Calls Tryz.prog 155 #[.agg (blk f), .int .i64 k, .int .u16 v] w fun e w' => e = .returned (.agg (blk (put f k 2 v))) ∧ Below w.heap.size w w' := by
  by_cases h : 0 ≤ k ∧ k ≤ 1024 - 2
  · obtain ⟨m, rfl⟩ := Int.eq_ofNat_of_zero_le h.1
    rw [put_in f m 2 v (by omega)]; exact set16_in f m v w (by omega) hv
  · rw [put_out f k 2 v (by omega)]; exact set16_out f k v w h

set_option maxRecDepth 20000 in
set_option maxHeartbeats 400000 in
theorem set32_in (f : Nat → Int) (k : Nat) (v : Int) (w : World) (hk : (k : Int) ≤ 1020) (hv : 0 ≤ v ∧ v < 4294967296) :
    Calls Tryz.prog 95 #[.agg (blk f), .int .i64 k, .int .u32 v] w fun e w' => e = .returned (.agg (blk (putN f k v 4))) ∧ Below w.heap.size w w' := by
  have z25 := zero25
  have hb0 := fun g => blk_get g (k) (by omega)
  have hb1 := fun g => blk_get g (k + 1) (by omega)
  have hb2 := fun g => blk_get g (k + 2) (by omega)
  have hb3 := fun g => blk_get g (k + 3) (by omega)
  have hset := blk_set
  go_enter Tryz.func95, Tryz.ntmps95
  go_wp2_with (first | (go_at_call 137; refine (fits_yes _ _ _ (by omega) (by omega)).mono ?_; rintro e w' ⟨rfl, rfl⟩) | refine wpList_load25 rfl _ rfl _ rfl _ (heap_alloc2_old _ _ _) ?_ | refine wpList_store25 rfl _ _ rfl _ _ rfl rfl _ (heap_alloc2_new _ _ _) ?_)
  exact ret25 rfl (w.heap.size + 1) _ rfl (setRow_heap _ _ _ _ _ _ (heap_alloc2_new _ _ _)) rfl ⟨ret_blk (put4 f k v hv).symm, below2 _ _ _ _ (by omega) _⟩
set_option maxRecDepth 20000 in
set_option maxHeartbeats 400000 in
theorem set32_out (f : Nat → Int) (k : Int) (v : Int) (w : World) (hk : ¬ (0 ≤ k ∧ k ≤ 1024 - 4)) :
    Calls Tryz.prog 95 #[.agg (blk f), .int .i64 k, .int .u32 v] w fun e w' => e = .returned (.agg (blk f)) ∧ Below w.heap.size w w' := by
  have z25 := zero25
  have HK : Hid (¬ (0 ≤ k ∧ k ≤ 1024 - 4)) := hk
  clear hk
  go_enter Tryz.func95, Tryz.ntmps95
  go_wp2_with (first | (go_at_call 137; refine (fits_no _ _ _ (by omega) HK.out).mono ?_; rintro e w' ⟨rfl, rfl⟩) | refine wpList_load25 rfl _ rfl _ rfl _ (heap_alloc2_old _ _ _) ?_ | refine wpList_store25 rfl _ _ rfl _ _ rfl rfl _ (heap_alloc2_new _ _ _) ?_)
  exact ret25 rfl (w.heap.size + 1) _ rfl (setRow_heap _ _ _ _ _ _ (heap_alloc2_new _ _ _)) rfl ⟨rfl, below2 _ _ _ _ (by omega) _⟩
theorem set32_any (f : Nat → Int) (k : Int) (v : Int) (w : World) (hv : 0 ≤ v ∧ v < 4294967296) :
    Calls Tryz.prog 95 #[.agg (blk f), .int .i64 k, .int .u32 v] w fun e w' => e = .returned (.agg (blk (put f k 4 v))) ∧ Below w.heap.size w w' := by
  by_cases h : 0 ≤ k ∧ k ≤ 1024 - 4
  · obtain ⟨m, rfl⟩ := Int.eq_ofNat_of_zero_le h.1
    rw [put_in f m 4 v (by omega)]; exact set32_in f m v w (by omega) hv
  · rw [put_out f k 4 v (by omega)]; exact set32_out f k v w h
end Go.Proofs.YtlcdpmjdnihocaaGreatN
/- An entry's sixteen bytes, by the program; whatever the entry. -/
namespace Go.Proofs.YtlcdpmjdnihocaaGreat
open Go.RowKit Go.Maps
theorem blkN (f : Nat → Int) : YtlcdpmjdnihocaaGreatN.blk f = blk f := rfl
theorem noughtN : YtlcdpmjdnihocaaGreatN.nought = nought := rfl
theorem sizeBy : (Tryz.prog.info? 208).map (·.size) = some 16 := by kernel_rfl
theorem zeroBy : ∀ w, (zeroValue 208).run Tryz.prog w = .ok (.agg (rowN .u8 nought 16)) w := (zero_of_info (show (Tryz.prog.info? 208).map (fun i => (i.zero, i.size)) = some (some (.agg (rowN .u8 nought 16)), 16) by kernel_rfl)).1
theorem set_e (w : World) (i : Int) (hi : 0 ≤ i ∧ i < 65536) : Calls Tryz.prog 155 #[.agg (blk nought), .int .i64 0, .int .u16 i] w fun e w' => e = .returned (.agg (blk (encP i ⟨#[]⟩))) ∧ Below w.heap.size w w' := by
  have h := YtlcdpmjdnihocaaGreatN.set16_any nought ((0 : Nat) : Int) i w hi
  rw [YtlcdpmjdnihocaaGreatN.put_in nought 0 2 i (by omega), YtlcdpmjdnihocaaGreatN.put2 _ _ _ hi, blkN, blkN] at h
  have e : blk (YtlcdpmjdnihocaaGreatN.upd (YtlcdpmjdnihocaaGreatN.upd nought 0 (i % 256)) (0 + 1) (i / 256)) = blk (encP i ⟨#[]⟩) := by
    refine rowN_congr fun j _ => ?_
    unfold YtlcdpmjdnihocaaGreatN.upd encP nought
    rw [byt_none]
    by_cases h1 : j = 1
    · rw [if_pos (by omega), if_neg (by omega), if_pos h1]
    · rw [if_neg (by omega)]
      by_cases h0 : j = 0
      · rw [if_pos h0, if_pos h0]
      · rw [if_neg h0, if_neg h0, if_neg h1]
  rw [e] at h
  exact h
theorem lay_e (w : World) (i : Int) (s : ByteArray) (p : Value) (hp : YtlcdpmjdnihocaaGreatN.Lies w p s.size (byt s)) : Calls Tryz.prog 102 #[.agg (blk (encP i ⟨#[]⟩)), .int .i64 2, p] w fun e w' => e = .returned (.agg (blk (encP i s))) ∧ Below w.heap.size w w' := by
  have h := YtlcdpmjdnihocaaGreatN.lay_any (encP i ⟨#[]⟩) 2 p s.size (byt s) w (by omega) hp
  rw [blkN, blkN] at h
  have e : blk (YtlcdpmjdnihocaaGreatN.layF (encP i ⟨#[]⟩) 2 s.size (byt s)) = blk (encP i s) := by
    refine rowN_congr fun j _ => ?_
    unfold YtlcdpmjdnihocaaGreatN.layF encP
    by_cases h1 : (2 : Int) ≤ (j : Int) ∧ (j : Int) - 2 < (s.size : Int)
    · rw [if_pos h1, if_neg (by omega), if_neg (by omega), show ((j : Int) - 2).toNat = j - 2 by omega]
    · rw [if_neg h1, byt_none]
      by_cases h0 : j = 0
      · rw [if_pos h0, if_pos h0]
      rw [if_neg h0, if_neg h0]
      by_cases h2 : j = 1
      · rw [if_pos h2, if_pos h2]
      rw [if_neg h2, if_neg h2]
      unfold byt
      rw [dif_neg (by omega)]
  rw [e] at h
  exact h
theorem piece_e (w : World) (F : Nat → Int) : Calls Tryz.prog 158 #[.agg (blk F), .int .i64 0, .int .i64 16] w fun e w' => e = .returned (.slice (some ⟨w.heap.size + 1, 0, none⟩) 16 16) ∧
      w'.heap[w.heap.size + 1]? = some (.cells (rowN .u8 F 16) 5) ∧ Below w.heap.size w w' := by
  have hpc := YtlcdpmjdnihocaaGreatN.piece_any F 0 16 w (by omega) (by omega)
  have e1 : YtlcdpmjdnihocaaGreatN.insLo 0 16 = 0 := by decide
  have e2 : YtlcdpmjdnihocaaGreatN.insHi 0 16 = 16 := by decide
  rw [e1, e2, blkN] at hpc
  refine hpc.mono ?_
  rintro e X ⟨rfl, hX, _, hb⟩
  refine ⟨rfl, hX.trans ?_, hb⟩
  show some (Obj.cells (rowN .u8 (YtlcdpmjdnihocaaGreatN.from' F 0) 16) 5 (0, 0)) = _
  rw [rowN_congr (g := F) fun j _ => by unfold YtlcdpmjdnihocaaGreatN.from'; rw [Nat.zero_add]]
/-- What a walk of Encode holds. -/
structure Ec (w W : World) (i : Int) (s : ByteArray) : Prop where
  ent : W.heap[w.heap.size]? = some (.cells #[.int .u16 i, .string s] 69)
  res : W.heap[w.heap.size + 1]? = some (.cells (rowN .u8 nought 16) 208)
  bel : Below w.heap.size w W
theorem Ec.start (w : World) (i : Int) (s : ByteArray) : Ec w ((w.alloc (.cells #[.int .u16 i, .string s] 69)).alloc (.cells (rowN .u8 nought 16) 208)) i s :=
  ⟨heap_kept (heap_alloc_new _ _) (below_new _ _), heap_two _ _ _, bel_al (below_new _ _) _⟩
theorem Ec.call {w W W' : World} {i : Int} {s : ByteArray} (h : Ec w W i s) (hb : Below W.heap.size W W') : Ec w W' i s := ⟨heap_kept h.ent hb, heap_kept h.res hb, below_next h.bel hb⟩
set_option maxRecDepth 20000 in
set_option maxHeartbeats 1000000 in
theorem check_any (w : World) (i : Int) (hi : 0 ≤ i ∧ i < 65536) (s : ByteArray) (hz : s.size ≤ 9223372036854775807) :
    Calls Tryz.prog 159 #[.agg #[.int .u16 i, .string s]] w fun e w' => e = .returned (.int .i64 (chV i s)) ∧ Below w.heap.size w w' := by
  have hn := name_any s (w.alloc (.cells #[.int .u16 i, .string s] 69)) hz
  have HB : Hid _ := below_new w (.cells #[.int .u16 i, .string s] 69)
  by_cases h0 : i = 0
  · subst h0
    by_cases h1 : s.size = 0
    · have e := nm_empty h1
      subst e
      clear h1 hn
      go_enter Tryz.func159, Tryz.ntmps159
      go_wp2
      go_ret
      exact ⟨rfl, HB.out⟩
    · have g1 := nm_list (s := s) (by omega)
      have HC : Hid (chV 0 s = 4) := by show chV 0 s = 4; unfold chV; rw [if_pos rfl, if_neg h1]
      clear hn
      go_enter Tryz.func159, Tryz.ntmps159
      go_wp2
      go_ret
      exact ⟨by rw [HC.out]; rfl, HB.out⟩
  · have g1 : (i == 0) = false := beq_eq_false_iff_ne.2 h0
    have HC : Hid (chV i s = nmV s) := by show chV i s = _; unfold chV; rw [if_neg h0]
    go_enter Tryz.func159, Tryz.ntmps159
    go_wp2_with (first | (go_at_call 162; fail))
    refine hn.mono ?_
    rintro e W ⟨rfl, rfl⟩
    go_wp2
    go_ret
    exact ⟨by rw [HC.out]; rfl, HB.out⟩
set_option maxRecDepth 20000 in
set_option maxHeartbeats 1000000 in
theorem enc_bad (w : World) (i : Int) (hi : 0 ≤ i ∧ i < 65536) (s : ByteArray) (hz : s.size ≤ 9223372036854775807) (hc : ¬ chV i s = 0) :
    Calls Tryz.prog 140 #[.agg #[.int .u16 i, .string s]] w fun e w' => e = .returned (.tuple #[.agg (rowN .u8 nought 16), .int .i64 (chV i s)]) ∧ Below w.heap.size w w' := by
  have z := zeroBy
  have HE := Ec.start w i s
  have c0 := Joins.cell_of_block HE.ent 0
  have c1 := Joins.cell_of_block HE.ent 1
  have HE' : Hid _ := HE
  clear HE
  have hck := check_any ((w.alloc (.cells #[.int .u16 i, .string s] 69)).alloc (.cells (rowN .u8 nought 16) 208)) i hi s hz
  have g1 : (chV i s == 0) = false := beq_eq_false_iff_ne.2 hc
  clear hc
  generalize chV i s = q at *
  go_enter Tryz.func140, Tryz.ntmps140
  go_wp2_with (first | (go_at_call 159; fail))
  refine hck.mono ?_
  rintro e W ⟨rfl, hb⟩
  have hT := HE'.out.call hb
  have hr := hT.res
  have HB : Hid _ := hT.bel
  clear hT HE' hck c0 c1 hb
  go_wp2_with (first | (with_reducible refine isStoreR 208 ?_; refine wpList_stR 208 rfl _ _ rfl (w.heap.size + 1) (rowN .u8 nought 16) (rowN .u8 nought 16) 208 (by rw [rowN_size]; exact sizeBy) rfl (rowN_one _ _ _) rfl rfl hr ?_))
  exact retCT Tryz.underlying208 rfl rfl (w.heap.size + 1) (rowN .u8 nought 16) 208 (by rw [rowN_size]; exact sizeBy) rfl (setRow_heap _ _ _ _ _ _ hr) rfl ⟨rfl, below_setRow HB.out (by omega) _⟩
end Go.Proofs.YtlcdpmjdnihocaaGreat
/- An entry that may be is written, by the program. -/
namespace Go.Proofs.YtlcdpmjdnihocaaGreat
open Go.RowKit Go.Maps
theorem below_bytes (w : World) (e : TypeId) (s : ByteArray) : Below w.heap.size w (Lib.bytesWorld w e s) :=
  ⟨rfl, rfl, rfl, by rw [Lib.bytesWorld_size]; omega, fun k hk => Lib.bytesWorld_at_old w e s k hk⟩
theorem byt_data (s : ByteArray) (j : Nat) (h : j < s.size) : (((s.data.toList.getD j 0).toNat : Nat) : Int) = byt s j := by
  have h2 : j < s.data.toList.length := by cases s; exact h
  unfold byt
  rw [dif_pos h, List.getD_eq_getElem?_getD, List.getElem?_eq_getElem h2]
  rfl
theorem lies_bytes (w : World) (s : ByteArray) (h : s.size ≤ 14) : YtlcdpmjdnihocaaGreatN.Lies (Lib.bytesWorld w 5 s) (.slice (some ⟨w.heap.size, 0, none⟩) s.size (grownCap w s.size 0 5)) s.size (byt s) := by
  refine .inr ⟨w.heap.size, 0, _, rfl, by unfold maxLen; omega, grownCap_ge _ _ _ _, by rw [Lib.bytesWorld_size]; omega, fun i hi => ?_⟩
  rw [Nat.zero_add, Lib.bytesWorld_cell w 5 s i hi, ← byt_data s i hi]
set_option maxRecDepth 20000 in
set_option maxHeartbeats 2000000 in
theorem enc_ok (w : World) (i : Int) (hi : 0 ≤ i ∧ i < 65536) (s : ByteArray) (hz : s.size ≤ 14) (hc : chV i s = 0) :
    Calls Tryz.prog 140 #[.agg #[.int .u16 i, .string s]] w fun e w' => e = .returned (.tuple #[.agg (rowN .u8 (encP i s) 16), .int .i64 0]) ∧ Below w.heap.size w w' := by
  have z := zeroBy
  have zb := zero77
  have HE := Ec.start w i s
  have c0 := Joins.cell_of_block HE.ent 0
  have c1 := Joins.cell_of_block HE.ent 1
  have HE' : Hid _ := HE
  clear HE
  have hck := check_any ((w.alloc (.cells #[.int .u16 i, .string s] 69)).alloc (.cells (rowN .u8 nought 16) 208)) i hi s (by omega)
  rw [hc] at hck
  clear hc
  have HS : Hid _ := fun W => set_e W i hi
  have HL : Hid _ := fun W p hp => lay_e W i s p hp
  have HP : Hid _ := fun W => piece_e W (encP i s)
  go_enter Tryz.func140, Tryz.ntmps140
  go_wp2_with (first | (go_at_call 159; fail))
  refine hck.mono ?_
  rintro e W ⟨rfl, hb⟩
  have hT := HE'.out.call hb
  clear HE' hck c0 c1 hb
  have c0 := Joins.cell_of_block hT.ent 0
  have HT : Hid _ := hT
  clear hT
  go_wp2_with (first | (go_at_call 155; fail))
  refine (HS.out _).mono ?_
  rintro e W1 ⟨rfl, hb⟩
  have HT1 : Hid (Ec w (W1.alloc (.cells (blk (encP i ⟨#[]⟩)) 79)) i s) := (HT.out.call hb).call (below_new _ _)
  have hbk : (W1.alloc (.cells (blk (encP i ⟨#[]⟩)) 79)).heap[W1.heap.size]? = some (.cells (blk (encP i ⟨#[]⟩)) 79) := heap_alloc_new _ _
  have hW1 : w.heap.size ≤ W1.heap.size ∧ w.heap.size + 1 < W1.heap.size := by
    have h1 := (HT.out.call hb).res
    have := (Array.getElem?_eq_some_iff.1 h1).1
    omega
  clear HT HS c0 hb
  have c1 := Joins.cell_of_block HT1.out.ent 1
  have hcv := fun u : World => Lib.run_convert_string_bytes (P := Tryz.prog) u 9 157 5 s Tryz.underlying9 Tryz.underlying157 Tryz.underlying5
  go_wp2_with (first | (with_reducible refine isStoreR 79 ?_; refine wpList_stBn rfl _ _ rfl W1.heap.size (encP i ⟨#[]⟩) nought 79 rfl rfl rfl ?_) | (with_reducible refine isLoadR 79 ?_; refine wpList_ldB rfl _ rfl W1.heap.size 0 (encP i ⟨#[]⟩) rfl (blk_at hbk) ?_) | (go_at_call 102; fail))
  have hls : YtlcdpmjdnihocaaGreatN.Lies (Lib.bytesWorld (W1.alloc (.cells (blk (encP i ⟨#[]⟩)) 79)) 5 s) (.slice (some ⟨W1.heap.size + 1, 0, none⟩) s.size (grownCap (W1.alloc (.cells (blk (encP i ⟨#[]⟩)) 79)) s.size 0 5)) s.size (byt s) := by
    have := lies_bytes (W1.alloc (.cells (blk (encP i ⟨#[]⟩)) 79)) s hz
    rwa [show (W1.alloc (.cells (blk (encP i ⟨#[]⟩)) 79)).heap.size = W1.heap.size + 1 by simp] at this
  refine (HL.out _ _ hls).mono ?_
  rintro e W2 ⟨rfl, hb⟩
  have hT2 := (HT1.out.call (below_bytes _ 5 s)).call hb
  have hbk2 := heap_kept (heap_kept hbk (below_bytes _ 5 s)) hb
  clear hls hbk HT1 HL hcv c1 hb
  generalize hF : encP i s = F at *
  have HF : Hid _ := hF
  clear hF
  have hbk3 := setRow_heap W2 W1.heap.size _ (blk F) 79 (0, 0) hbk2
  have HT3 : Hid (Ec w (W2.setRow W1.heap.size (blk F)) i s) := ⟨(setRow_other _ _ _ _ (by omega)).trans hT2.ent, (setRow_other _ _ _ _ (by omega)).trans hT2.res, below_setRow hT2.bel (by omega) _⟩
  clear hT2
  go_wp2_with (first | (with_reducible refine isStoreR 79 ?_; refine wpList_stB rfl _ _ rfl W1.heap.size F (encP i ⟨#[]⟩) 79 rfl rfl hbk2 ?_) | (with_reducible refine isLoadR 79 ?_; refine wpList_ldB rfl _ rfl W1.heap.size 0 F rfl (blk_at hbk3) ?_) | (go_at_call 158; fail))
  refine (HP.out _).mono ?_
  rintro e X ⟨rfl, hX, hb⟩
  have hT4 := HT3.out.call hb
  have hr := hT4.res
  have HB : Hid _ := hT4.bel
  clear HT3 hbk2 hbk3 HP hT4 hb
  have ha := fun u => run_arrayAt (P := Tryz.prog) u 208 _ 16 (some ⟨(W2.setRow W1.heap.size (blk F)).heap.size + 1, 0, none⟩) 16 16 Tryz.underlying208 (by omega)
  generalize (W2.setRow W1.heap.size (blk F)).heap.size + 1 = g at *
  go_wp2_with (first | (with_reducible refine isLoadR 208 ?_; refine wpList_ldR 208 Tryz.underlying208 rfl rfl _ rfl g rfl (rowN .u8 F 16) 5 (0, 0) (by rw [rowN_size]; exact sizeBy) hX ?_) | (with_reducible refine isStoreR 208 ?_; refine wpList_stR 208 rfl _ _ rfl (w.heap.size + 1) (rowN .u8 F 16) (rowN .u8 nought 16) 208 (by rw [rowN_size]; exact sizeBy) (by rw [rowN_size, rowN_size]) (rowN_one _ _ _) rfl rfl hr ?_))
  exact retCT Tryz.underlying208 rfl rfl (w.heap.size + 1) (rowN .u8 F 16) 208 (by rw [rowN_size]; exact sizeBy) rfl (setRow_heap _ _ _ _ _ _ hr) rfl ⟨by rw [HF.out]; rfl, below_setRow HB.out (by omega) _⟩
/-- Encode, whatever the entry. -/
theorem enc_any (w : World) (i : Int) (hi : 0 ≤ i ∧ i < 65536) (s : ByteArray) (hz : s.size ≤ 9223372036854775807) :
    Calls Tryz.prog 140 #[.agg #[.int .u16 i, .string s]] w fun e w' => e = .returned (.tuple #[.agg (rowN .u8 (encF i s) 16), .int .i64 (chV i s)]) ∧ Below w.heap.size w w' := by
  by_cases hc : chV i s = 0
  · rw [encF_ok hc, hc]
    refine enc_ok w i hi s ?_ hc
    rcases chV_ok hc with ⟨_, rfl⟩ | ⟨_, h⟩
    · exact Nat.zero_le _
    · exact (nmV_size h).2.1
  · rw [encF_bad hc]
    exact enc_bad w i hi s hz hc
end Go.Proofs.YtlcdpmjdnihocaaGreat
/- What a block of 1024 bytes is as cells: a plain function from places to numbers, laid as cells; no condition. -/
namespace Go.Proofs.YtlcdpmjdnihocaaGreatK
open Go.RowKit

/-- The cells of a block whose byte at place i is f i. -/
def blk (f : Nat → Int) : Array Value := ((List.range 1024).map fun i => Value.int .u8 (f i)).toArray
/-- f, but for x at place i. -/
def upd (f : Nat → Int) (i : Nat) (x : Int) : Nat → Int := fun j => if j = i then x else f j
def nought : Nat → Int := fun _ => 0

theorem blk_size (f : Nat → Int) : (blk f).size = 1024 := by simp [blk]
theorem blk_get (f : Nat → Int) (i : Nat) (h : i < 1024) : (blk f)[i]? = some (.int .u8 (f i)) := by
  simp [blk, h]
theorem blk_set (f : Nat → Int) (i : Nat) (x : Int) : (blk f).setIfInBounds i (.int .u8 x) = blk (upd f i x) := by
  apply Array.ext_getElem?
  intro j
  by_cases hj : j < 1024
  · rw [blk_get _ _ hj, Array.getElem?_setIfInBounds]
    by_cases e : i = j
    · subst e; simp [blk_size, hj, upd]
    · have e' : ¬ j = i := fun q => e q.symm
      simp [e, e', blk_get _ _ hj, upd]
  · rw [Array.getElem?_eq_none (by rw [Array.size_setIfInBounds, blk_size]; omega), Array.getElem?_eq_none (by rw [blk_size]; omega)]
theorem blk_congr {f g : Nat → Int} (h : ∀ i, i < 1024 → f i = g i) : blk f = blk g := by
  apply Array.ext_getElem?
  intro j
  by_cases hj : j < 1024
  · rw [blk_get _ _ hj, blk_get _ _ hj, h j hj]
  · rw [Array.getElem?_eq_none (by rw [blk_size]; omega), Array.getElem?_eq_none (by rw [blk_size]; omega)]
theorem blk_one (f : Nat → Int) : (blk f).all (·.oneCell') = true := by
  rw [Array.all_eq_true_iff_forall_mem]
  intro v hv
  simp [blk] at hv
  obtain ⟨i, _, rfl⟩ := hv
  rfl
end Go.Proofs.YtlcdpmjdnihocaaGreatK
/- The block type of this program over its translation: loads, stores and results of whole blocks; fits; no condition. -/
namespace Go.Proofs.YtlcdpmjdnihocaaGreatK
open Go.RowKit

theorem info25 : (Tryz.prog.info? 79).map (fun i => (i.zero, i.size)) = some (some (.agg (blk nought)), 1024) := by kernel_rfl
theorem zero25 : ∀ w, (zeroValue 79).run Tryz.prog w = .ok (.agg (blk nought)) w := (zero_of_info info25).1
theorem size25 : (Tryz.prog.info? 79).map (·.size) = some 1024 := (zero_of_info info25).2

set_option maxHeartbeats 400000 in
theorem fits_any (a n : Int) (w : World) (hn : 0 ≤ n ∧ n ≤ 1024) :
    Calls Tryz.prog 137 #[.int .i64 a, .int .i64 n] w fun e w' => e = .returned (.bool (decide (0 ≤ a ∧ a ≤ 1024 - n))) ∧ w' = w := by
  by_cases h0 : 0 ≤ a
  · by_cases h1 : a ≤ 1024 - n
    · go_enter Tryz.func137, Tryz.ntmps137
      go_wp2
      go_ret
      exact ⟨by simp [h0, h1], rfl⟩
    · go_enter Tryz.func137, Tryz.ntmps137
      go_wp2
      go_ret
      exact ⟨by simp [h1], rfl⟩
  · go_enter Tryz.func137, Tryz.ntmps137
    go_wp2
    go_ret
    exact ⟨by simp; omega, rfl⟩

theorem fits_yes (a n : Int) (w : World) (hn : 0 ≤ n ∧ n ≤ 1024) (h : 0 ≤ a ∧ a ≤ 1024 - n) :
    Calls Tryz.prog 137 #[.int .i64 a, .int .i64 n] w fun e w' => e = .returned (.bool true) ∧ w' = w := by
  have := fits_any a n w hn
  rwa [decide_eq_true h] at this
theorem fits_no (a n : Int) (w : World) (hn : 0 ≤ n ∧ n ≤ 1024) (h : ¬ (0 ≤ a ∧ a ≤ 1024 - n)) :
    Calls Tryz.prog 137 #[.int .i64 a, .int .i64 n] w fun e w' => e = .returned (.bool false) ∧ w' = w := by
  have := fits_any a n w hn
  rwa [decide_eq_false h] at this

/-- The first k of f, noughts behind them. -/
def firsts (f : Nat → Int) (k : Nat) : Nat → Int := fun i => if i < k then f i else 0
theorem firsts_next (f : Nat → Int) (k : Nat) : upd (firsts f k) k (f k) = firsts f (k + 1) := by
  funext j
  unfold upd firsts
  by_cases h : j = k
  · subst h; simp
  · by_cases h2 : j < k
    · simp [h, h2, show j < k + 1 by omega]
    · simp [h, h2, show ¬ j < k + 1 by omega]

theorem wpList_load25 {ops : Array Oper} {rest : List Oper} {o : Oper} {a : Act} {w : World} {Q : Exit → Act → World → Prop} (hgd : o.guard = none) (x : Operand) (ho : o.op = .load 79 x)
    (g : Nat) (hx : a.eval x = .pointer (some ⟨g, 0, none⟩)) (f : Nat → Int) (hg : w.heap[g]? = some (.cells (blk f) 79))
    (h : wpList Tryz.prog ops Q rest (a.put o.dst (.agg (blk f))) w) : wpList Tryz.prog ops Q (o :: rest) a w :=
  wpList_load_row hgd 79 x ho g hx 79 (blk f) (0, 0) _ hg Tryz.underlying79 rfl (by rw [blk_size]; exact size25) h
theorem wpList_store25 {ops : Array Oper} {rest : List Oper} {o : Oper} {a : Act} {w : World} {Q : Exit → Act → World → Prop} (hgd : o.guard = none) (x y : Operand) (ho : o.op = .store 79 x y)
    (g : Nat) (f : Nat → Int) (hx : a.eval x = .pointer (some ⟨g, 0, none⟩)) (hy : a.eval y = .agg (blk f)) (f0 : Nat → Int) (hg : w.heap[g]? = some (.cells (blk f0) 79))
    (h : wpList Tryz.prog ops Q rest (a.put o.dst undef) (w.setRow g (blk f))) : wpList Tryz.prog ops Q (o :: rest) a w :=
  wpList_plain hgd fun _ hK => by
    unfold Oper.wp execOp
    simp only [ho, hx, hy, Instr.storeAt, Instr.sureAddr, Sem.run_bind, Sem.run_pure, Result.andThen_ok, run_storeVar_row w g 79 79 (blk f0) (blk f) hg (by rw [blk_size]; exact size25) (by rw [blk_size, blk_size]) (blk_one f)]
    exact hK _ _ h

/-- A result that is a whole block in a cell. -/
theorem ret25 {fn : Func} {p : Tmp} {R : Ending → World → Prop} {a : Act} {w : World} (h : fn.results = #[.cell p 79]) (g : Nat) (f : Nat → Int)
    (hp : a.tmps.getD p undef = .pointer (some ⟨g, 0, none⟩)) (hg : w.heap[g]? = some (.cells (blk f) 79)) (hd : a.defers = []) (hR : R (.returned (.agg (blk f))) w) : bodyPost Tryz.prog fn R .ret a w :=
  bodyPost_ret (results_cell_row h a.tmps w g 79 (blk f) (0, 0) _ hp hg Tryz.underlying79 rfl (by rw [blk_size]; exact size25)) hd hR
theorem below_setRow {B : Nat} {a w : World} (h : Below B a w) {g : Nat} (hg : B ≤ g) (cs : Array Value) : Below B a (w.setRow g cs) :=
  h.trans ⟨rfl, rfl, rfl, by simp, fun k hk => setRow_other w g k cs (by omega)⟩
theorem below2 (w : World) (a b : Obj) (g : Nat) (hg : w.heap.size ≤ g) (cs : Array Value) : Below w.heap.size w (((w.alloc a).alloc b).setRow g cs) :=
  below_setRow (((Below.refl _ _).alloc (Nat.le_refl _) _).alloc (by simp) _) hg _
end Go.Proofs.YtlcdpmjdnihocaaGreatK
