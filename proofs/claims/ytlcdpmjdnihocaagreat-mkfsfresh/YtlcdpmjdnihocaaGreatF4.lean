/- Several texts joined, each with its own remark; no condition. -/
import Derived.Test.YtlcdpmjdnihocaaGreatF3
import Derived.Test.YtlcdpmjdnihocaaGreatF2
import Derived.Test.YtlcdpmjdnihocaaGreatProg
import Derived.WalkKit
import Derived.WalkSpells
import Derived.WalkLawsBesides
import Derived.Deep.WholeRow
import Derived.Deep.DeepAppendWide
import Derived.Deep.Onto
import Derived.Deep.MidRow
import Derived.Laws.StructEq
import Derived.Lib.SmallJoins
import Derived.Maps.AppendAt
import Derived.Maps.OwnOps
import Derived.Maps.OwnSet
import Derived.Laws.CopyOwn
import Derived.Laws.AppendOwnNone
import Derived.Laws.OwnMore
import Derived.BigQuiet
/- Load: a disk of every image that may be, none of any other; no condition. -/
namespace Go.Proofs.YtlcdpmjdnihocaaGreatD
open Go.RowKit
/-- The disk of an image. -/
def loadV (n : Int) (l : List Cel) : St := holdAll (newV n) l
theorem rises_bounds {n : Int} : ∀ (l : List Cel) (a : Int), -1 ≤ a → risesB n a l = true → ∀ c ∈ l, 0 ≤ c.1 ∧ c.1 < n ∧ blankB c.2 = false
  | [], _, _, _, c, hc => by simp at hc
  | x :: t, a, ha, h, c, hc => by
    unfold risesB at h
    simp at h
    obtain ⟨⟨⟨h1, h2⟩, h3⟩, h4⟩ := h
    rcases List.mem_cons.1 hc with rfl | hc
    · exact ⟨by omega, by omega, h3⟩
    · exact rises_bounds t x.1 (by omega) h4 c hc
theorem may_bounds {n : Int} {l : List Cel} (h : mayB n l = true) : bndB n = true ∧ ∀ c ∈ l, 0 ≤ c.1 ∧ c.1 < n ∧ blankB c.2 = false := by
  unfold mayB at h
  simp at h
  exact ⟨h.1, rises_bounds l (-1) (by omega) h.2⟩
theorem ImgAt.later {w W : World} {p : Option Addr} {l : List Cel} (h : ImgAt w p l) (hb : Below w.heap.size w W) : ImgAt W p l := fun h0 => by
  obtain ⟨b, off, h1, h2, h3⟩ := h h0
  exact ⟨b, off, h1, Nat.lt_of_lt_of_le h2 hb.size, h3.later hb h2⟩
set_option maxRecDepth 20000 in
set_option maxHeartbeats 2000000 in
theorem load_ok (n : Int) (l : List Cel) (p : Option Addr) (cap : Nat) (w : World) (hl : l.length < 9223372036854775807) (h : ImgAt w p l) (hcan : ∀ c ∈ l, Can c.2) (hm : mayB n l = true) :
    Calls Tryz.prog 7 #[.agg #[.int .i64 n, .slice p l.length cap]] w fun e w' => ∃ L : Loc, e = .returned (.tuple #[.pointer (some ⟨L.d, 0, none⟩), .int .i64 0]) ∧ DiskAt w' L (loadV n l) ∧ L.from w.heap.size ∧ Below w.heap.size w w' := by
  have hB := below_new w (.cells #[.int .i64 n, .slice p l.length cap] 24)
  have hG := heap_alloc_new w (.cells #[.int .i64 n, .slice p l.length cap] 24)
  have hM := may_any n l p cap _ hl (h.later hB)
  rw [hm] at hM
  have HI : Hid (ImgAt w p l) := h
  have HC : Hid (∀ c ∈ l, Can c.2) := hcan
  obtain ⟨hbn, hbs⟩ := may_bounds hm
  have HBs : Hid (∀ c ∈ l, 0 ≤ c.1 ∧ c.1 < n ∧ blankB c.2 = false) := hbs
  clear h hcan hm hbs
  go_enter Tryz.func7, Tryz.ntmps7
  go_wp2_with (go_at_call 34; fail)
  refine hM.mono ?_
  rintro e W1 ⟨rfl, hb1⟩
  have hG1 := heap_kept hG hb1
  have hB1 := below_next hB hb1
  have i0 : W1.cell? ⟨w.heap.size, 0, none⟩ = some (.int .i64 n) := Joins.cell_of_block hG1 0
  clear hM hG hB hb1
  go_wp2_with (go_at_call 35; fail)
  refine (new_ok hbn W1).mono ?_
  rintro e W2 ⟨L, rfl, hD2, hL2, hb2⟩
  have hG2 := heap_kept hG1 hb2
  have HB2 : Hid (Below w.heap.size w W2) := below_next hB1 hb2
  have i1 : W2.cell? ⟨w.heap.size, 1, none⟩ = some (.slice p l.length cap) := Joins.cell_of_block hG2 1
  have HD2 : Hid (DiskAt W2 L (newV n)) := hD2
  have HL2 : Hid (L.from w.heap.size ∧ ¬ L.has w.heap.size) := by
    have hs := hB1.size
    have hlt : w.heap.size < W1.heap.size := (Array.getElem?_eq_some_iff.1 hG1).1
    exact ⟨fun k hk => by have := hL2 k hk; omega, fun q => by have := hL2 _ q; omega⟩
  have HG2 : Hid (W2.heap[w.heap.size]? = some (.cells #[.int .i64 n, .slice p l.length cap] 24)) := hG2
  clear hD2 hL2 hb2 hB1 hG1 i0 hG2
  go_wp2
  go_loopw [19] (fun s19 wx => ∃ k : Nat, k ≤ l.length ∧ s19 = .int .i64 k ∧ Hid (DiskAt wx L (holdAll (newV n) (l.take k))) ∧ Hid (Below w.heap.size w wx) ∧ Hid (wx.heap[w.heap.size]? = some (.cells #[.int .i64 n, .slice p l.length cap] 24))) (fun s19 _ => l.length - (intOf s19).toNat)
  case atStart => exact ⟨0, by omega, rfl, HD2.out, HB2.out, HG2.out⟩
  case round =>
    obtain ⟨k, hk, rfl, HD, HB, HG⟩ := hrel
    clear HD2 HB2 HG2 i1
    by_cases hk2 : (k : Int) < l.length
    · have hc : l[k]? = some l[k] := List.getElem?_eq_getElem (by omega)
      obtain ⟨b, off, rfl, hlt, hC⟩ := HI.out (by omega)
      generalize l[k] = c at hc
      have hmem := List.mem_of_getElem? hc
      obtain ⟨q1, _⟩ := (hC.later HB.out hlt) k c hc
      have hbd : Below w.heap.size w wr.drew := HB.out.drew
      obtain ⟨_, q2⟩ := (hC.later hbd hlt) k c hc
      have HDd : DiskAt wr.drew L (holdAll (newV n) (l.take k)) := HD.out.fr (Fr.drew (T := fun _ => False) wr) fun _ _ q => q
      obtain ⟨y1, y2, _⟩ := HBs.out c hmem
      have hH := hold_of HDd (k := c.1) (by rw [holdAll_n]; exact ⟨y1, y2⟩) (HC.out c hmem) q2
      rw [← holdAll_snoc, ← take_snoc hc] at hH
      have HH : Hid (Calls Tryz.prog 36 #[.pointer (some ⟨L.d, 0, none⟩), .int .i64 c.1, .pointer (some ⟨b, off + k * 1025 + 1, none⟩)] wr.drew fun e w' => e = .returned (.tuple #[]) ∧ DiskAt w' L (holdAll (newV n) (l.take (k + 1))) ∧ Below w.heap.size w w' ∧ w'.heap[w.heap.size]? = some (.cells #[.int .i64 n, .slice (some ⟨b, off, none⟩) l.length cap] 24)) :=
        hH.mono fun e w' ⟨h1, h2, h3⟩ => ⟨h1, h2, hbd.trans ((h3.mono fun i _ q => (.inr (.inl q) : L.has i)).below HL2.out.1 hbd.size), (h3.block _ (Array.getElem?_eq_some_iff.1 HG.out).1 fun q => HL2.out.2 (.inr (.inl q))).trans HG.out⟩
      have i1 : wr.cell? ⟨w.heap.size, 1, none⟩ = some (.slice (some ⟨b, off, none⟩) l.length cap) := Joins.cell_of_block HG.out 1
      clear hH q2 HDd hbd hC hmem hc HD HB HG
      go_wp2
      go_still_tail 12, (by kernel_rfl)
      change wpList _ _ _ _ _ (World.drew _)
      go_wp2_with (go_at_call 36; fail)
      refine HH.out.mono ?_
      rintro e W3 ⟨rfl, hD3, hB3, hG3⟩
      have HD3 : Hid (DiskAt W3 L (holdAll (newV n) (l.take (k + 1)))) := hD3
      have HB3 : Hid (Below w.heap.size w W3) := hB3
      have HG3 : Hid (W3.heap[w.heap.size]? = some (.cells #[.int .i64 n, .slice (some ⟨b, off, none⟩) l.length cap] 24)) := hG3
      clear hD3 hB3 hG3 HH i1
      go_wp2
      exact ⟨⟨k + 1, by omega, by go_num, HD3.out, HB3.out, HG3.out⟩, by simp [intOf]; omega⟩
    · obtain rfl : k = l.length := by omega
      have hD := HD.out
      rw [List.take_length] at hD
      have HD3 : Hid (DiskAt wr L (loadV n l)) := hD
      clear hD HD HG
      go_wp2
      go_ret2
      exact ⟨L, rfl, HD3.out, HL2.out.1, HB.out⟩
end Go.Proofs.YtlcdpmjdnihocaaGreatD
/- Crash, for a choice of any length that a list can have; no condition. -/
namespace Go.Proofs.YtlcdpmjdnihocaaGreatD
open Go.RowKit
variable {w : World} {L : Loc} {s : St}
end Go.Proofs.YtlcdpmjdnihocaaGreatD
/- Blocks with their numbers held against each other; Equal, oneSize, Same; no condition but that lists are not longer than lists can be. -/
namespace Go.Proofs.YtlcdpmjdnihocaaGreatD
open Go.RowKit Go.Maps
/-- A block with its number lies at a place. -/
def CelAt (w : World) (g off : Nat) (c : Cel) : Prop := w.cell? ⟨g, off, none⟩ = some (.int .i64 c.1) ∧ BlkAt w g (off + 1) c.2
theorem CelAt.range {w : World} {g off : Nat} {c : Cel} (h : CelAt w g off c) : w.rangeAt g off (celRow c) := fun j v hv => by
  cases j with
  | zero =>
    have e : Value.int .i64 c.1 = v := by simpa [celRow] using hv
    rw [← e]
    exact h.1
  | succ j =>
    have hv' : (blk c.2).toList[j]? = some v := by simpa [celRow] using hv
    have := h.2 j v hv'
    rwa [show off + 1 + j = off + (j + 1) by omega] at this
theorem load85 {w : World} {g off : Nat} {c : Cel} (h : CelAt w g off c) : (Instr.loadAt 81 (.pointer (some ⟨g, off, none⟩))).run Tryz.prog w = .ok (.agg (celRow c).toArray) w :=
  run_loadAt_mid (P := Tryz.prog) w g off 81 (celRow c) _ h.range Tryz.underlying81 rfl (by rw [celRow_len]; exact size85)
end Go.Proofs.YtlcdpmjdnihocaaGreatD
/- slices.Equal of blocks with their numbers; no condition but that lists are not longer than lists can be. -/
namespace Go.Proofs.YtlcdpmjdnihocaaGreatD
open Go.RowKit Go.Maps
end Go.Proofs.YtlcdpmjdnihocaaGreatD
/- Rows of any type loaded, stored and returned; what turns and what stays; lists of anything in memory of their own, appended to and written over; no condition. -/
namespace Go.Proofs.YtlcdpmjdnihocaaGreat
open Go.RowKit Go.Maps
theorem below_new (w : World) (o : Obj) : Below w.heap.size w (w.alloc o) := (Below.refl _ _).alloc (Nat.le_refl _) _
theorem below_next {w w1 w2 : World} (h : Below w.heap.size w w1) (hb : Below w1.heap.size w1 w2) : Below w.heap.size w w2 := h.trans (hb.mono h.size)
theorem heap_kept {w w' : World} {g : Nat} {o : Obj} (h : w.heap[g]? = some o) (hb : Below w.heap.size w w') : w'.heap[g]? = some o :=
  (hb.block g (Array.getElem?_eq_some_iff.1 h).1).trans h
theorem belowN {B : Nat} {w W : World} (h : Below B w W) (q : Nat) : Below B w (W.drewN q) := h.trans ⟨rfl, rfl, rfl, Nat.le_refl _, fun _ _ => rfl⟩
section
variable {ops : Array Oper} {rest : List Oper} {Q : Exit → Act → World → Prop} {a : Act} {w : World} {dst : Option Tmp} {x y : Operand} {ty : TypeId} {pos : String} {aft : Array Edge} {gd : Option (Nat × Bool)}
theorem isLoadR (t : TypeId) (h : wpList Tryz.prog ops Q (⟨dst, .load t x, ty, pos, aft, gd⟩ :: rest) a w) : wpList Tryz.prog ops Q (⟨dst, .load t x, ty, pos, aft, gd⟩ :: rest) a w := h
theorem isStoreR (t : TypeId) (h : wpList Tryz.prog ops Q (⟨dst, .store t x y, ty, pos, aft, gd⟩ :: rest) a w) : wpList Tryz.prog ops Q (⟨dst, .store t x y, ty, pos, aft, gd⟩ :: rest) a w := h
theorem isEqR (t t' : TypeId) {bo : BinOp} (h : wpList Tryz.prog ops Q (⟨dst, .binOp bo t x y t', ty, pos, aft, gd⟩ :: rest) a w) : wpList Tryz.prog ops Q (⟨dst, .binOp bo t x y t', ty, pos, aft, gd⟩ :: rest) a w := h
theorem isBuildR (t : TypeId) {ps : Array (Nat × Operand)} (h : wpList Tryz.prog ops Q (⟨dst, .build t ps, ty, pos, aft, gd⟩ :: rest) a w) : wpList Tryz.prog ops Q (⟨dst, .build t ps, ty, pos, aft, gd⟩ :: rest) a w := h
end
section
variable {ops : Array Oper} {rest : List Oper} {o : Oper} {a : Act} {w : World} {Q : Exit → Act → World → Prop}
/-- A whole row is loaded, of any type that is a row. -/
theorem wpList_ldR (ty : TypeId) {d : TypeDesc} (hu : Tryz.prog.underlying ty = some d) (hd : d.isRow = true) (hw : Region.wanted o (yielded ops a.tmps) = true) (x : Operand) (ho : o.op = .load ty x)
    (g : Nat) (hx : a.eval x = .pointer (some ⟨g, 0, none⟩)) (cs : Array Value) (t : TypeId) (fr : Nat × Nat) (hi : (Tryz.prog.info? ty).map (·.size) = some cs.size) (hg : w.heap[g]? = some (.cells cs t fr))
    (h : wpList Tryz.prog ops Q rest (a.put o.dst (.agg cs)) w) : wpList Tryz.prog ops Q (o :: rest) a w := by
  unfold wpList
  rw [if_pos hw]
  refine .inl ?_
  unfold Oper.wp execOp
  simp only [ho, hx, Instr.loadAt, Instr.sureAddr, Sem.run_bind, Sem.run_pure, Result.andThen_ok, run_loadVar_row w g t ty cs fr d hg hu (by cases d <;> first | rfl | cases hd) hi]
  exact h
theorem wpList_stR (ty : TypeId) (hgd : o.guard = none) (x y : Operand) (ho : o.op = .store ty x y)
    (g : Nat) (cs c0 : Array Value) (t : TypeId) (hi : (Tryz.prog.info? ty).map (·.size) = some cs.size) (hs : c0.size = cs.size) (h1 : cs.all (·.oneCell') = true)
    (hx : a.eval x = .pointer (some ⟨g, 0, none⟩)) (hy : a.eval y = .agg cs) (hg : w.heap[g]? = some (.cells c0 t))
    (h : wpList Tryz.prog ops Q rest (a.put o.dst undef) (w.setRow g cs)) : wpList Tryz.prog ops Q (o :: rest) a w :=
  wpList_plain hgd fun _ hK => by
    unfold Oper.wp execOp
    simp only [ho, hx, hy, Instr.storeAt, Instr.sureAddr, Sem.run_bind, Sem.run_pure, Result.andThen_ok, run_storeVar_row w g t ty c0 cs hg hi hs h1]
    exact hK _ _ h
theorem wpList_stNew (ty : TypeId) (hgd : o.guard = none) (x y : Operand) (ho : o.op = .store ty x y)
    (g : Nat) (cs c0 : Array Value) (t : TypeId) (hi : (Tryz.prog.info? ty).map (·.size) = some cs.size) (hs : c0.size = cs.size) (h1 : cs.all (·.oneCell') = true)
    (hx : a.eval x = .pointer (some ⟨g, 0, none⟩)) (hgw : g = w.heap.size) (hy : a.eval y = .agg cs)
    (h : wpList Tryz.prog ops Q rest (a.put o.dst undef) (w.alloc (.cells cs t))) : wpList Tryz.prog ops Q (o :: rest) a (w.alloc (.cells c0 t)) := by
  subst hgw
  exact wpList_stR ty hgd x y ho w.heap.size cs c0 t hi hs h1 hx hy (heap_alloc_new _ _) (by rw [World.setRow_alloc_new]; exact h)
end
theorem retR {fn : Func} {p : Tmp} {ty : TypeId} {R : Ending → World → Prop} {a : Act} {w : World} {d : TypeDesc} (hu : Tryz.prog.underlying ty = some d) (hd : d.isRow = true)
    (h : fn.results = #[.cell p ty]) (g : Nat) (cs : Array Value) (t : TypeId) (hi : (Tryz.prog.info? ty).map (·.size) = some cs.size)
    (hp : a.tmps.getD p undef = .pointer (some ⟨g, 0, none⟩)) (hg : w.heap[g]? = some (.cells cs t)) (hdf : a.defers = []) (hR : R (.returned (.agg cs)) w) : bodyPost Tryz.prog fn R .ret a w :=
  bodyPost_ret (results_cell_row h a.tmps w g t cs (0, 0) _ hp hg hu (by cases d <;> first | rfl | cases hd) hi) hdf hR

/-- Nothing has turned but blocks of T and new ones. -/
structure Fr (T : Nat → Prop) (w w' : World) : Prop where
  os : w'.os = w.os
  tape : w'.tape = w.tape
  output : w'.output = w.output
  size : w.heap.size ≤ w'.heap.size
  block : ∀ k, k < w.heap.size → ¬ T k → w'.heap[k]? = w.heap[k]?
theorem Fr.refl (T : Nat → Prop) (w : World) : Fr T w w := ⟨rfl, rfl, rfl, Nat.le_refl _, fun _ _ _ => rfl⟩
theorem Fr.trans {T T' : Nat → Prop} {a b c : World} (h : Fr T a b) (k : Fr T' b c) (hT : ∀ i, i < a.heap.size → T' i → T i) : Fr T a c :=
  ⟨k.os.trans h.os, k.tape.trans h.tape, k.output.trans h.output, Nat.le_trans h.size k.size, fun i hi hn => (k.block i (Nat.lt_of_lt_of_le hi h.size) (fun q => hn (hT i hi q))).trans (h.block i hi hn)⟩
theorem Fr.ofBelow {T : Nat → Prop} {a b : World} (h : Below a.heap.size a b) : Fr T a b := ⟨h.os, h.tape, h.output, h.size, fun i hi _ => h.block i hi⟩
theorem Fr.below {T : Nat → Prop} {B : Nat} {a b : World} (h : Fr T a b) (hT : ∀ i, T i → B ≤ i) (hB : B ≤ a.heap.size) : Below B a b :=
  ⟨h.os, h.tape, h.output, h.size, fun i hi => h.block i (by omega) fun q => by have := hT i q; omega⟩
theorem Fr.ofGrown {a b : World} {r : Option Nat} (h : a.grownBy b r) : Fr (fun i => r = some i) a b := ⟨h.os, h.tape, h.output, h.size, fun i hi hn => h.block i hi fun q => hn q.symm⟩
theorem Fr.setCell (w : World) (g i : Nat) (v : Value) : Fr (fun k => k = g) w (w.setCell ⟨g, i, none⟩ v) :=
  ⟨rfl, rfl, rfl, by simp, fun k _ hn => Below.heap_setCell w _ v k hn⟩
theorem Fr.alloc (T : Nat → Prop) (w : World) (o : Obj) : Fr T w (w.alloc o) := Fr.ofBelow ((Below.refl _ _).alloc (Nat.le_refl _) o)

theorem Fr.setRow (w : World) (g : Nat) (cs : Array Value) : Fr (fun k => k = g) w (w.setRow g cs) :=
  ⟨rfl, rfl, rfl, by simp, fun k _ hn => setRow_other w g k cs hn⟩
section
variable {α : Type} (row : α → List Value) (n : Nat)
theorem fm_get (hr : ∀ x, (row x).length = n) : ∀ (l : List α) (i j : Nat) (r : α), l[i]? = some r → j < n → (l.flatMap row)[i * n + j]? = (row r)[j]?
  | [], i, j, r, h, _ => by simp at h
  | x :: t, 0, j, r, h, hj => by
    have h' : x = r := by simpa using h
    subst h'
    rw [List.flatMap_cons, Nat.zero_mul, Nat.zero_add, List.getElem?_append_left (by rw [hr]; exact hj)]
  | x :: t, i + 1, j, r, h, hj => by
    have h' : t[i]? = some r := by simpa using h
    rw [List.flatMap_cons, List.getElem?_append_right (by rw [hr, Nat.add_mul]; omega), hr, show (i + 1) * n + j - n = i * n + j by rw [Nat.add_mul]; omega]
    exact fm_get hr t i j r h' hj
end
section
variable {w W W' : World} {v v' : Value}
theorem append_gen {st e : TypeId} {i : TypeInfo} {z : Value} {size bytes : Nat} (ht : Tryz.prog.underlying st = some (.slice e)) (hi : Tryz.prog.info? e = some i) (hz : i.zero = some z) (hsize : i.size = size) (hby : i.bytes = bytes) (hzs : z.cells.size = size) (hsz : 0 < size)
    {B : Nat} {n : Nat} {xs : List Value} (hown : W.ownsRow B e size v n xs) {ad : Addr} {m c : Nat} {news : List Value} (hm : 0 < m) (hl : news.length = m * size)
    (hnews : ∀ j u, news[j]? = some u → W.cell? (ad.add j) = some u) (h1 : ∀ u ∈ news, u.oneCell' = true) (h63 : n + m ≤ maxLen) (hbytes : ((n + m) + (n + m) / 4 + 192) * bytes ≤ 281474976710656) (hB : B ≤ W.heap.size) (ty : TypeId) :
    ∃ v' w', (Builtin.append_ #[st, st] ty #[v, .slice (some ad) m c]).run Tryz.prog W = .ok v' w' ∧ w'.ownsRow B e size v' (n + m) (xs ++ news) ∧ Fr (fun k => v.ownBlock = some k) W w' ∧ ∀ k, v'.ownBlock = some k → v.ownBlock = some k ∨ W.heap.size ≤ k := by
  obtain ⟨v', w', hr, h2, hg, _⟩ := run_append_own_wide (P := Tryz.prog) W B st ty e i z size bytes ht hi hz hsize hby hzs hsz v n xs hown ad m c news hl hnews h1 h63 hbytes hB
  refine ⟨v', w', hr, h2, Fr.ofGrown hg, fun k hk => ?_⟩
  have hmx : n + m ≤ 9223372036854775807 := by simp only [maxLen] at h63; omega
  have hmb : m * i.bytes ≤ 281474976710656 := by
    rw [hby]
    exact Nat.le_trans (Nat.mul_le_mul_right _ (by omega)) hbytes
  subst hsize
  subst hby
  rcases hown.2 with ⟨rfl, rfl⟩ | ⟨g, cap, cur, rfl, _, hg', hnc, hcm, hcs, htake⟩
  · rw [run_append_nil (P := Tryz.prog) W st ty e i _ ht hi hz ad m c news hl hnews hm (by omega) hmb] at hr
    injection hr with q1 q2
    rw [← q1] at hk
    injection hk with hk
    exact .inr (by rw [← hk]; exact Nat.le_refl _)
  · by_cases hroom : n + m ≤ cap
    · have hfit : n * i.size + news.length ≤ cur.size := by rw [hl, hcs, ← Nat.add_mul]; exact Nat.mul_le_mul_right _ hroom
      rw [run_append_room (P := Tryz.prog) W st ty e i ht hi g n cap cur hg' ad m c news hl hnews h1 hroom hfit] at hr
      injection hr with q1 q2
      rw [← q1] at hk
      exact .inl hk
    · rw [run_append_grow (P := Tryz.prog) W st ty e i _ ht hi hz ⟨g, 0, none⟩ n cap xs hown.1 (hown.cells (g := g) rfl) ad m c news hl hnews (by omega) (by omega) (growslice_fits_wide (by omega) hbytes)] at hr
      injection hr with q1 q2
      rw [← q1] at hk
      injection hk with hk
      exact .inr (by rw [← hk]; exact Nat.le_refl _)
theorem exec_push {o : Oper} {a : Act} {s y : Operand} {st : TypeId} {ad : Addr} {m c : Nat} (ho : o.op = .call { callee := .builtin .append, args := #[s, y], argTypes := #[st, st] }) (hs : a.eval s = v) (hx : a.eval y = .slice (some ad) m c)
    (hr : (Builtin.append_ #[st, st] o.type #[v, .slice (some ad) m c]).run Tryz.prog W = .ok v' W') : (execOp a.eval o).run Tryz.prog W = .ok (.value v') W' := by
  simp [execOp, ho, resolve, invoke, builtin, hs, hx, hr, Result.andThen]
end
section
variable {α : Type} {en : α → List Value} {sz : Nat}
theorem fml (hr : ∀ x, (en x).length = sz) : ∀ l : List α, (l.flatMap en).length = l.length * sz
  | [] => by simp
  | x :: t => by rw [List.flatMap_cons, List.length_append, hr, fml hr t, List.length_cons, Nat.add_mul, Nat.one_mul, Nat.add_comm]
theorem own_later {w w' : World} {base e size : Nat} {v : Value} {n : Nat} {xs : List Value} (h : w.ownsRow base e size v n xs) (hb : Below w.heap.size w w') : w'.ownsRow base e size v n xs := by
  obtain ⟨h1, h2⟩ := h
  refine ⟨h1, ?_⟩
  rcases h2 with h2 | ⟨g, cap, cur, hv, hg, hh, r⟩
  · exact .inl h2
  · exact .inr ⟨g, cap, cur, hv, hg, (hb.block g (Array.getElem?_eq_some_iff.1 hh).1).trans hh, r⟩
theorem own_frame {w w' : World} {base e size : Nat} {v : Value} {n : Nat} {xs : List Value} {T : Nat → Prop} (h : w.ownsRow base e size v n xs) (hf : Fr T w w') (hT : ∀ i, v.ownBlock = some i → ¬ T i) : w'.ownsRow base e size v n xs := by
  obtain ⟨h1, h2⟩ := h
  refine ⟨h1, ?_⟩
  rcases h2 with h2 | ⟨g, cap, cur, rfl, hg, hh, r⟩
  · exact .inl h2
  · exact .inr ⟨g, cap, cur, rfl, hg, (hf.block g (Array.getElem?_eq_some_iff.1 hh).1 (hT g rfl)).trans hh, r⟩
theorem own_get (hr : ∀ x, (en x).length = sz) {B e g n c i : Nat} {w : World} {l : List α} {x : α} (h : w.ownsRow B e sz (.slice (some ⟨g, 0, none⟩) n c) n (l.flatMap en)) (hx : l[i]? = some x) : ∀ j v, (en x)[j]? = some v → w.cell? ⟨g, i * sz + j, none⟩ = some v := fun j v hv => by
  have hj : j < sz := by have := (List.getElem?_eq_some_iff.1 hv).1; rwa [hr] at this
  have hln := h.1
  rw [fml hr] at hln
  have hi : i < l.length := (List.getElem?_eq_some_iff.1 hx).1
  have hlt : i * sz + j < n * sz := by
    rw [← hln]
    have : (i + 1) * sz ≤ l.length * sz := Nat.mul_le_mul_right _ hi
    rw [Nat.add_mul, Nat.one_mul] at this
    omega
  rw [World.ownsRow.cellAt h _ hlt, fm_get (row := en) (n := sz) hr l i j x hx hj]
  exact hv
theorem own_form {w : World} {B e n : Nat} {v : Value} {xs : List Value} (h : w.ownsRow B e sz v n xs) : (v = .slice none 0 0 ∧ n = 0) ∨ ∃ g c, v = .slice (some ⟨g, 0, none⟩) n c ∧ g < w.heap.size := by
  rcases h.2 with q | ⟨g, c, cur, hv, _, hh, _⟩
  · exact .inl q
  · exact .inr ⟨g, c, hv, (Array.getElem?_eq_some_iff.1 hh).1⟩
end
end Go.Proofs.YtlcdpmjdnihocaaGreat
/- Rows of numbers of one kind as functions of their places; compared, loaded from the middle of rows; no condition. -/
namespace Go.Proofs.YtlcdpmjdnihocaaGreat
open Go.RowKit Go.Maps
/-- A row of n numbers of a kind, f of each place. -/
def rowN (kd : IntKind) (f : Nat → Int) (n : Nat) : Array Value := ((List.range n).map fun i => Value.int kd (f i)).toArray
def updN (f : Nat → Int) (i : Nat) (x : Int) : Nat → Int := fun j => if j = i then x else f j
def nought : Nat → Int := fun _ => 0
/-- A block's cells. -/
def blk (f : Nat → Int) : Array Value := rowN .u8 f 1024
theorem rowN_size (kd : IntKind) (f : Nat → Int) (n : Nat) : (rowN kd f n).size = n := by simp [rowN]
theorem rowN_get (kd : IntKind) (f : Nat → Int) (n i : Nat) (h : i < n) : (rowN kd f n)[i]? = some (.int kd (f i)) := by simp [rowN, h]
theorem rowN_ext {kd : IntKind} {cs : Array Value} {f : Nat → Int} {n : Nat} (hs : cs.size = n) (h : ∀ i, i < n → cs[i]? = some (.int kd (f i))) : cs = rowN kd f n := by
  apply Array.ext_getElem?
  intro j
  by_cases hj : j < n
  · rw [h j hj, rowN_get _ _ _ _ hj]
  · rw [Array.getElem?_eq_none (by omega), Array.getElem?_eq_none (by rw [rowN_size]; omega)]
theorem rowN_congr {kd : IntKind} {f g : Nat → Int} {n : Nat} (h : ∀ i, i < n → f i = g i) : rowN kd f n = rowN kd g n :=
  rowN_ext (rowN_size kd f n) fun i hi => by rw [rowN_get _ _ _ _ hi, h i hi]
theorem rowN_set (kd : IntKind) (f : Nat → Int) (n i : Nat) (x : Int) : (rowN kd f n).setIfInBounds i (.int kd x) = rowN kd (updN f i x) n := by
  refine rowN_ext (by rw [Array.size_setIfInBounds, rowN_size]) fun j hj => ?_
  rw [Array.getElem?_setIfInBounds]
  by_cases e : i = j
  · subst e; simp [rowN_size, hj, updN]
  · have e' : ¬ j = i := fun q => e q.symm
    simp [e, e', rowN_get _ _ _ _ hj, updN]
theorem rowN_one (kd : IntKind) (f : Nat → Int) (n : Nat) : (rowN kd f n).all (·.oneCell') = true := by
  rw [Array.all_eq_true_iff_forall_mem]
  intro v hv
  simp [rowN] at hv
  obtain ⟨i, _, rfl⟩ := hv
  rfl
theorem setCell_rowN {w : World} {g m : Nat} {kd : IntKind} {f : Nat → Int} {t : TypeId} (h : w.heap[g]? = some (.cells (rowN kd f m) t)) (i : Nat) (x : Int) : (w.setCell ⟨g, i, none⟩ (.int kd x)).heap[g]? = some (.cells (rowN kd (updN f i x) m) t) := by
  rw [heap_setCell_same _ _ _ _ _ _ h, rowN_set]
theorem cell_rowN {w : World} {g m : Nat} {kd : IntKind} {f : Nat → Int} {t : TypeId} (h : w.heap[g]? = some (.cells (rowN kd f m) t)) {i : Nat} (hi : i < m) : w.cell? ⟨g, i, none⟩ = some (.int kd (f i)) := by
  rw [cell_of_row _ _ i _ t _ h, rowN_get _ _ _ _ hi]
theorem frozen_row {w : World} {g : Nat} {cs : Array Value} {t : TypeId} (h : w.heap[g]? = some (.cells cs t)) (i : Nat) : w.frozen? ⟨g, i, none⟩ = false := by simp [World.frozen?, h]
theorem heap_two (w : World) (a b : Obj) : ((w.alloc a).alloc b).heap[w.heap.size + 1]? = some b := by
  have := heap_alloc_new (w.alloc a) b
  simpa using this
/-- A row of numbers that lies in a larger row. -/
def NumsAt (w : World) (kd : IntKind) (b off : Nat) (f : Nat → Int) (n : Nat) : Prop := ∀ i, i < n → w.cell? ⟨b, off + i, none⟩ = some (.int kd (f i))
theorem NumsAt.later {w W : World} {kd : IntKind} {b off n : Nat} {f : Nat → Int} (h : NumsAt w kd b off f n) (hb : Below w.heap.size w W) (hlt : b < w.heap.size) : NumsAt W kd b off f n := fun i hi => (hb.cell (p := ⟨b, off + i, none⟩) hlt).trans (h i hi)
theorem NumsAt.of {w : World} {kd : IntKind} {g n : Nat} {f : Nat → Int} {t : TypeId} (h : w.heap[g]? = some (.cells (rowN kd f n) t)) : NumsAt w kd g 0 f n := fun i hi => by rw [Nat.zero_add]; exact cell_rowN h hi
theorem blk_at {w : World} {g : Nat} {f : Nat → Int} {t : TypeId} (h : w.heap[g]? = some (.cells (blk f) t)) : NumsAt w .u8 g 0 f 1024 := NumsAt.of (n := 1024) h
theorem size77 : (Tryz.prog.info? 79).map (·.size) = some 1024 := by kernel_rfl
theorem zero77 : ∀ w, (zeroValue 79).run Tryz.prog w = .ok (.agg (blk nought)) w := (zero_of_info (show (Tryz.prog.info? 79).map (fun i => (i.zero, i.size)) = some (some (.agg (blk nought)), 1024) by kernel_rfl)).1
theorem blk_size (f : Nat → Int) : (blk f).size = 1024 := rowN_size _ _ _
/-- A block is loaded from the middle of a row. -/
theorem loadB {w : World} {b off : Nat} {f : Nat → Int} (h : NumsAt w .u8 b off f 1024) : (Instr.loadAt 79 (.pointer (some ⟨b, off, none⟩))).run Tryz.prog w = .ok (.agg (blk f)) w := by
  have hr : w.rangeAt b off (blk f).toList := fun j v hv => by
    have hj : j < 1024 := by
      have := (List.getElem?_eq_some_iff.1 hv).1
      rw [Array.length_toList, blk_size] at this
      exact this
    rw [Array.getElem?_toList, show (blk f)[j]? = some (.int .u8 (f j)) from rowN_get _ _ _ _ hj] at hv
    injection hv with hv
    rw [← hv]
    exact h j hj
  have := run_loadAt_mid (P := Tryz.prog) w b off 79 (blk f).toList _ hr Tryz.underlying79 rfl (by rw [Array.length_toList, blk_size]; exact size77)
  rwa [Array.toArray_toList] at this
section
variable {ops : Array Oper} {rest : List Oper} {o : Oper} {a : Act} {w : World} {Q : Exit → Act → World → Prop}
theorem wpList_ldB (hw : Region.wanted o (yielded ops a.tmps) = true) (x : Operand) (ho : o.op = .load 79 x) (b off : Nat) (f : Nat → Int) (hx : a.eval x = .pointer (some ⟨b, off, none⟩)) (hg : NumsAt w .u8 b off f 1024)
    (h : wpList Tryz.prog ops Q rest (a.put o.dst (.agg (blk f))) w) : wpList Tryz.prog ops Q (o :: rest) a w := by
  unfold wpList
  rw [if_pos hw]
  refine .inl ?_
  unfold Oper.wp execOp
  simp only [ho, hx, loadB hg, Sem.run_bind, Result.andThen_ok, Sem.run_pure]
  exact h
theorem wpList_stB (hgd : o.guard = none) (x y : Operand) (ho : o.op = .store 79 x y) (g : Nat) (f f0 : Nat → Int) (t : TypeId) (hx : a.eval x = .pointer (some ⟨g, 0, none⟩)) (hy : a.eval y = .agg (blk f)) (hg : w.heap[g]? = some (.cells (blk f0) t))
    (h : wpList Tryz.prog ops Q rest (a.put o.dst undef) (w.setRow g (blk f))) : wpList Tryz.prog ops Q (o :: rest) a w :=
  wpList_stR 79 hgd x y ho g (blk f) (blk f0) t (by rw [blk_size]; exact size77) (by rw [blk_size, blk_size]) (rowN_one _ _ _) hx hy hg h
/-- A block is stored into a new row of its own. -/
theorem wpList_stBn (hgd : o.guard = none) (x y : Operand) (ho : o.op = .store 79 x y) (g : Nat) (f f0 : Nat → Int) (t : TypeId) (hx : a.eval x = .pointer (some ⟨g, 0, none⟩)) (hgw : g = w.heap.size) (hy : a.eval y = .agg (blk f))
    (h : wpList Tryz.prog ops Q rest (a.put o.dst undef) (w.alloc (.cells (blk f) t))) : wpList Tryz.prog ops Q (o :: rest) a (w.alloc (.cells (blk f0) t)) :=
  wpList_stNew 79 hgd x y ho g (blk f) (blk f0) t (by rw [blk_size]; exact size77) (by rw [blk_size, blk_size]) (rowN_one _ _ _) hx hgw hy h
end
theorem retB {fn : Func} {p : Tmp} {R : Ending → World → Prop} {a : Act} {w : World} (h : fn.results = #[.cell p 79]) (g : Nat) (f : Nat → Int) (t : TypeId) (hp : a.tmps.getD p undef = .pointer (some ⟨g, 0, none⟩)) (hg : w.heap[g]? = some (.cells (blk f) t)) (hdf : a.defers = []) (hR : R (.returned (.agg (blk f))) w) : bodyPost Tryz.prog fn R .ret a w :=
  retR Tryz.underlying79 rfl h g (blk f) t (by rw [blk_size]; exact size77) hp hg hdf hR
end Go.Proofs.YtlcdpmjdnihocaaGreat
