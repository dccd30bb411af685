/- What the document's examples say: the law's own first look at a disk answers true; no condition. -/
import Derived.Test.YtbnbbelkddbndaaSits
namespace Go.Proofs.Ytbnbbelkddbndaa
open Go.RowKit

theorem built58c (x : Int) (u : World) : (Instr.build 40 #[(0, .int .u8 x)]).run Try.prog u = .ok (.agg (blk (upd nought 0 x))) u := by
  have z25 := zero25
  have hs := blk_set
  have hz := blk_size
  generalize nought = N at *
  have hne : blk N ≠ #[] := fun q => by have := hz N; rw [q] at this; simp at this
  simp [Instr.build, z25, run_underlying Try.underlying40, Try.sizeOf5, Instr.fill, Value.cells, hs, hne]
section
variable {ops : Array Oper} {rest : List Oper} {o : Oper} {a : Act} {w : World} {Q : Exit → Act → World → Prop}
theorem wpList_build58c (hw : Region.wanted o (yielded ops a.tmps) = true) (x : Int) (ho : o.op = .build 40 #[(0, .const (.int .u8 x))]) (F : Nat → Int) (hF : F = upd nought 0 x)
    (h : wpList Try.prog ops Q rest (a.put o.dst (.agg (blk F))) w) : wpList Try.prog ops Q (o :: rest) a w :=
  BigFrame.wpList_want hw fun _ hK => by
    have e := built58c x w
    rw [← hF] at e
    have e' : (execOp a.eval o).run Try.prog w = .ok (.value (.agg (blk F))) w := by simp [execOp, ho, Act.eval, e]
    unfold Oper.wp
    rw [e']
    exact hK _ _ h
theorem wpList_build58w (hw : Region.wanted o (yielded ops a.tmps) = true) (ho : o.op = .build 40 #[]) {N : Nat → Int}
    (hb : ∀ u, (Instr.build 40 #[]).run Try.prog u = .ok (.agg (blk N)) u) (h : wpList Try.prog ops Q rest (a.put o.dst (.agg (blk N))) w) : wpList Try.prog ops Q (o :: rest) a w :=
  BigFrame.wpList_want hw fun _ hK => by
    have e : (execOp a.eval o).run Try.prog w = .ok (.value (.agg (blk N))) w := by
      unfold execOp
      simp only [ho, Array.map_empty, Sem.run_bind]
      simp only [hb, Result.andThen_ok, Sem.run_pure]
    unfold Oper.wp
    rw [e]
    exact hK _ _ h
theorem wpList_load58w (hw : Region.wanted o (yielded ops a.tmps) = true) (x : Operand) (ho : o.op = .load 40 x)
    (g : Nat) (hx : a.eval x = .pointer (some ⟨g, 0, none⟩)) (f : Nat → Int) (hg : w.heap[g]? = some (.cells (blk f) 40))
    (h : wpList Try.prog ops Q rest (a.put o.dst (.agg (blk f))) w) : wpList Try.prog ops Q (o :: rest) a w :=
  BigFrame.wpList_want hw fun _ hK => by
    unfold Oper.wp execOp
    simp only [ho, hx, loadM (BlkAt.of hg), Sem.run_bind, Result.andThen_ok, Sem.run_pure]
    exact hK _ _ h
theorem eq58 (f g : Nat → Int) (b : Bool) (hb : sameB f g = b) (u : World) : (binOp .eql 40 (.agg (blk f)) (.agg (blk g))).run Try.prog u = .ok (.bool b) u := by
  have h := eq25 f g u
  rw [hb] at h
  generalize blk f = F at *
  generalize blk g = G at *
  simp only [binOp, Op.equal, Op.maxDepth, Sem.run_bind, h, Result.andThen_ok, Sem.run_pure]
theorem eqg58 (x y : Operand) (F G : Array Value) (u : World) : (eqGuard .eql 40 x y (.agg F) (.agg G)).run Try.prog u = .ok () u := by
  unfold eqGuard
  simp
theorem wpList_eq58 (hw : Region.wanted o (yielded ops a.tmps) = true) (x y : Operand) (ho : o.op = .binOp .eql 40 x y 40) (f g : Nat → Int) (b : Bool) (hx : a.eval x = .agg (blk f)) (hy : a.eval y = .agg (blk g)) (hb : sameB f g = b)
    (h : wpList Try.prog ops Q rest (a.put o.dst (.bool b)) w) : wpList Try.prog ops Q (o :: rest) a w :=
  BigFrame.wpList_want hw fun _ hK => by
    have e := eq58 f g b hb w
    unfold Oper.wp execOp
    simp only [ho, hx, hy, Sem.run_bind, eqg58, e, Result.andThen_ok, Sem.run_pure]
    exact hK _ _ h
theorem wpList_store58_new (hgd : o.guard = none) (x y : Operand) (ho : o.op = .store 40 x y)
    (f f0 : Nat → Int) (g : Nat) (hg : g = w.heap.size) (hx : a.eval x = .pointer (some ⟨g, 0, none⟩)) (hy : a.eval y = .agg (blk f))
    (h : wpList Try.prog ops Q rest (a.put o.dst undef) (w.alloc (.cells (blk f) 40))) : wpList Try.prog ops Q (o :: rest) a (w.alloc (.cells (blk f0) 40)) := by
  subst hg
  exact wpList_store25_new hgd x y ho f f0 hx hy h
end
theorem field32 (a b : Value) (u : World) : (Instr.field 24 (.agg #[a, b]) 1).run Try.prog u = .ok b u := by
  simp [Instr.field, run_underlying Try.underlying24, go_sem, asAgg]
theorem field32n (a b : Value) (u : World) : (Instr.field 24 (.agg #[a, b]) 0).run Try.prog u = .ok a u := by
  simp [Instr.field, run_underlying Try.underlying24, go_sem, asAgg]
theorem can_one (x : Int) (h : 0 ≤ x ∧ x ≤ 255) : Can (upd nought 0 x) := by
  refine ⟨fun i => ?_, fun i hi => ?_⟩
  · unfold upd nought; split <;> omega
  · unfold upd nought; rw [if_neg (by omega)]
theorem one_ne (x : Int) (h : x ≠ 0) : upd nought 0 x ≠ nought := fun q => h (by have := congrFun q 0; simpa [upd, nought] using this)
theorem roomN {s : St} (h1 : s.ops.length < 1000) (h2 : s.made < 1000) (h3 : s.reads < 1000) (h4 : s.claims < 1000) : Room s := ⟨by omega, by omega, by omega, by omega⟩
theorem roomR {s : St} (a : Nat) (b c e : Int) (h1 : s.ops.length = a) (h2 : s.made = b) (h3 : s.reads = c) (h4 : s.claims = e) (ha : a < 1000 ∧ b < 1000 ∧ c < 1000 ∧ e < 1000) : Room s := roomN (by omega) (by omega) (by omega) (by omega)
theorem bools_new (W : World) (l : List Bool) : BoolsAt (W.alloc (.cells (l.map Value.bool).toArray 4)) (.slice (some ⟨W.heap.size, 0, none⟩) l.length l.length) l := by
  refine ⟨_, _, rfl, fun _ => ⟨W.heap.size, 0, rfl, fun i x hx => ?_⟩⟩
  rw [cell_of_row _ _ _ _ 4 _ (heap_alloc_new W _), Nat.zero_add, List.getElem?_toArray, List.getElem?_map, hx]
  rfl
theorem bools_nil (W : World) : BoolsAt W (.slice none 0 0) [] := ⟨none, 0, rfl, fun h => by simp at h⟩
section
variable (X Y : Nat → Int)
def aw1 : St := writeS (newV 4) 1 X
def aw2 : St := barS (aw1 X)
def aw3 : St := writeS (aw2 X) 1 Y
def aw4 : St := writeS (aw3 X Y) 2 Y
def aw5 : St := crashS (aw4 X Y) [false, true]
end
theorem sound_one {k : Int} {X : Nat → Int} (h : Can X) (hn : X ≠ nought) : Sound [(k, X)] := fun c hc => by
  have e : c = (k, X) := by simpa using hc
  subst e
  exact ⟨h, hn⟩
theorem blank_no {X : Nat → Int} (h : Can X) (hn : X ≠ nought) : blankB X = false := by
  cases q : blankB X
  · rfl
  · exact absurd (h.blank.1 q) hn
theorem aw2_held {X : Nat → Int} (h : blankB X = false) (k : Int) : (aw2 X).held k = if k = 1 then some X else none := by
  show (if k = 1 then (if blankB X then none else some X) else none) = _
  rw [h]
  rfl
theorem aw5_held {X Y : Nat → Int} (hX : blankB X = false) (hY : blankB Y = false) (k : Int) : (aw5 X Y).held k = if k = 2 then some Y else if k = 1 then some X else none := by
  show (if k = 2 then (if blankB Y then none else some Y) else (aw2 X).held k) = _
  rw [hY, aw2_held hX]
  rfl
theorem readS_held (s : St) : (readS s).held = s.held := rfl
theorem aw1_e : writeE (newV 4) 1 = 0 := rfl
theorem aw1_v (X : Nat → Int) : writeV (newV 4) 1 X = aw1 X := rfl
theorem aw1_held (X : Nat → Int) (k : Int) : (aw1 X).held k = none := rfl
theorem aw1_room (X : Nat → Int) : Room (aw1 X) := roomR 1 1 0 0 rfl rfl rfl rfl (by omega)
theorem aw2_e (X : Nat → Int) : barE (aw1 X) = 0 := rfl
theorem aw2_v (X : Nat → Int) : barV (aw1 X) = aw2 X := rfl
theorem aw2_room (X : Nat → Int) : Room (aw2 X) := roomR 2 2 0 0 rfl rfl rfl rfl (by omega)
theorem aw3_e (X : Nat → Int) : writeE (aw2 X) 1 = 0 := rfl
theorem aw3_v (X Y : Nat → Int) : writeV (aw2 X) 1 Y = aw3 X Y := rfl
theorem aw3_room (X Y : Nat → Int) : Room (aw3 X Y) := roomR 3 3 0 0 rfl rfl rfl rfl (by omega)
theorem aw4_e (X Y : Nat → Int) : writeE (aw3 X Y) 2 = 0 := rfl
theorem aw4_v (X Y : Nat → Int) : writeV (aw3 X Y) 2 Y = aw4 X Y := rfl
theorem aw4_wait (X Y : Nat → Int) : (aw4 X Y).wait.length = 2 := rfl
theorem aw5_room (X Y : Nat → Int) : Room (aw5 X Y) := roomR 0 4 0 0 rfl rfl rfl rfl (by omega)
theorem aw6_e (X Y : Nat → Int) : refV (aw5 X Y) 1 = 0 := rfl
theorem aw6_v (X Y : Nat → Int) : readV (aw5 X Y) 1 = readS (aw5 X Y) := rfl
theorem aw6_room (X Y : Nat → Int) : Room (readS (aw5 X Y)) := roomR 0 4 1 0 rfl rfl rfl rfl (by omega)
theorem aw7_e (X Y : Nat → Int) : refV (readS (aw5 X Y)) 2 = 0 := rfl
theorem aw7_v (X Y : Nat → Int) : readV (readS (aw5 X Y)) 2 = readS (readS (aw5 X Y)) := rfl
theorem aw7_made (X Y : Nat → Int) : (readS (readS (aw5 X Y))).made = 4 := rfl
theorem aw6_b {X Y : Nat → Int} (hX : blankB X = false) (hY : blankB Y = false) : readB (aw5 X Y) 1 = X := by
  unfold readB
  rw [if_pos (aw6_e X Y), curV_held rfl, aw5_held hX hY]
  rfl
theorem aw7_b {X Y : Nat → Int} (hX : blankB X = false) (hY : blankB Y = false) : readB (readS (aw5 X Y)) 2 = Y := by
  unfold readB
  rw [if_pos (aw7_e X Y), curV_held rfl, readS_held, aw5_held hX hY]
  rfl
end Go.Proofs.Ytbnbbelkddbndaa
