/- Several texts joined, each with its own remark; no condition. -/
import Derived.Test.YtiadlcjdpbkbkaaGreatJ3
import Derived.WalkKit
import Derived.WalkSpells
import Derived.WalkLawsBesides
import Derived.Deep.WholeRow
import Derived.Laws.StructEq
import Derived.Test.YtiadlcjdpbkbkaaGreatProg
import Derived.BigQuiet
import Derived.Laws.CopyOwn
import Derived.StillTailTactics
import Derived.Laws.BitsLemmas
import Derived.Test.YtiadlcjdpbkbkaaGreatJ8
import Derived.Lib.ConvBytes
import Derived.Test.YtiadlcjdpbkbkaaGreatJ9
import Derived.Test.YtiadlcjdpbkbkaaGreatJ12
/- Blocks built, loaded and stored whole in a walk. -/
namespace Go.Proofs.YtiadlcjdpbkbkaaGreatD
open Go.RowKit
variable {ops : Array Oper} {rest : List Oper} {o : Oper} {a : Act} {w : World} {Q : Exit → Act → World → Prop}
theorem wpList_load58w (hw : Region.wanted o (yielded ops a.tmps) = true) (x : Operand) (ho : o.op = .load 47 x)
    (g : Nat) (hx : a.eval x = .pointer (some ⟨g, 0, none⟩)) (f : Nat → Int) (hg : w.heap[g]? = some (.cells (blk f) 47))
    (h : wpList Tryz.prog ops Q rest (a.put o.dst (.agg (blk f))) w) : wpList Tryz.prog ops Q (o :: rest) a w :=
  BigFrame.wpList_want hw fun _ hK => by
    unfold Oper.wp execOp
    simp only [ho, hx, loadM (BlkAt.of hg), Sem.run_bind, Result.andThen_ok, Sem.run_pure]
    exact hK _ _ h
theorem wpList_build58w (hw : Region.wanted o (yielded ops a.tmps) = true) (ho : o.op = .build 47 #[]) {N : Nat → Int}
    (hb : ∀ u, (Instr.build 47 #[]).run Tryz.prog u = .ok (.agg (blk N)) u) (h : wpList Tryz.prog ops Q rest (a.put o.dst (.agg (blk N))) w) : wpList Tryz.prog ops Q (o :: rest) a w :=
  BigFrame.wpList_want hw fun _ hK => by
    have e : (execOp a.eval o).run Tryz.prog w = .ok (.value (.agg (blk N))) w := by
      unfold execOp
      simp only [ho, Array.map_empty, Sem.run_bind]
      simp only [hb, Result.andThen_ok, Sem.run_pure]
    unfold Oper.wp
    rw [e]
    exact hK _ _ h
theorem wpList_store58_new (hgd : o.guard = none) (x y : Operand) (ho : o.op = .store 47 x y)
    (f f0 : Nat → Int) (g : Nat) (hg : g = w.heap.size) (hx : a.eval x = .pointer (some ⟨g, 0, none⟩)) (hy : a.eval y = .agg (blk f))
    (h : wpList Tryz.prog ops Q rest (a.put o.dst undef) (w.alloc (.cells (blk f) 47))) : wpList Tryz.prog ops Q (o :: rest) a (w.alloc (.cells (blk f0) 47)) := by
  subst hg
  exact wpList_store25_new hgd x y ho f f0 hx hy h
end Go.Proofs.YtiadlcjdpbkbkaaGreatD
/- What a block of 1024 bytes is as cells: a plain function from places to numbers, laid as cells; no condition. -/
namespace Go.Proofs.YtiadlcjdpbkbkaaGreatN
open Go.RowKit

/-- The cells of a block whose byte at place i is f i. -/
def blk (f : Nat → Int) : Array Value := ((List.range 1024).map fun i => Value.int .u8 (f i)).toArray
/-- f, but for x at place i. -/
def upd (f : Nat → Int) (i : Nat) (x : Int) : Nat → Int := fun j => if j = i then x else f j
def nought : Nat → Int := fun _ => 0

theorem blk_size (f : Nat → Int) : (blk f).size = 1024 := by simp [blk]
theorem blk_get (f : Nat → Int) (i : Nat) (h : i < 1024) : (blk f)[i]? = some (.int .u8 (f i)) := by
  simp [blk, h]
theorem blk_set (f : Nat → Int) (i : Nat) (x : Int) : (blk f).setIfInBounds i (.int .u8 x) = blk (upd f i x) := by
  apply Array.ext_getElem?
  intro j
  by_cases hj : j < 1024
  · rw [blk_get _ _ hj, Array.getElem?_setIfInBounds]
    by_cases e : i = j
    · subst e; simp [blk_size, hj, upd]
    · have e' : ¬ j = i := fun q => e q.symm
      simp [e, e', blk_get _ _ hj, upd]
  · rw [Array.getElem?_eq_none (by rw [Array.size_setIfInBounds, blk_size]; omega), Array.getElem?_eq_none (by rw [blk_size]; omega)]
theorem blk_congr {f g : Nat → Int} (h : ∀ i, i < 1024 → f i = g i) : blk f = blk g := by
  apply Array.ext_getElem?
  intro j
  by_cases hj : j < 1024
  · rw [blk_get _ _ hj, blk_get _ _ hj, h j hj]
  · rw [Array.getElem?_eq_none (by rw [blk_size]; omega), Array.getElem?_eq_none (by rw [blk_size]; omega)]
theorem blk_one (f : Nat → Int) : (blk f).all (·.oneCell') = true := by
  rw [Array.all_eq_true_iff_forall_mem]
  intro v hv
  simp [blk] at hv
  obtain ⟨i, _, rfl⟩ := hv
  rfl
end Go.Proofs.YtiadlcjdpbkbkaaGreatN
/- The block type of this program over its translation: loads, stores and results of whole blocks; fits; no condition. -/
namespace Go.Proofs.YtiadlcjdpbkbkaaGreatN
open Go.RowKit

theorem info25 : (Tryz.prog.info? 47).map (fun i => (i.zero, i.size)) = some (some (.agg (blk nought)), 1024) := by kernel_rfl
theorem zero25 : ∀ w, (zeroValue 47).run Tryz.prog w = .ok (.agg (blk nought)) w := (zero_of_info info25).1
theorem size25 : (Tryz.prog.info? 47).map (·.size) = some 1024 := (zero_of_info info25).2

set_option maxHeartbeats 400000 in
theorem fits_any (a n : Int) (w : World) (hn : 0 ≤ n ∧ n ≤ 1024) :
    Calls Tryz.prog 68 #[.int .i64 a, .int .i64 n] w fun e w' => e = .returned (.bool (decide (0 ≤ a ∧ a ≤ 1024 - n))) ∧ w' = w := by
  by_cases h0 : 0 ≤ a
  · by_cases h1 : a ≤ 1024 - n
    · go_enter Tryz.func68, Tryz.ntmps68
      go_wp2
      go_ret
      exact ⟨by simp [h0, h1], rfl⟩
    · go_enter Tryz.func68, Tryz.ntmps68
      go_wp2
      go_ret
      exact ⟨by simp [h1], rfl⟩
  · go_enter Tryz.func68, Tryz.ntmps68
    go_wp2
    go_ret
    exact ⟨by simp; omega, rfl⟩

theorem fits_yes (a n : Int) (w : World) (hn : 0 ≤ n ∧ n ≤ 1024) (h : 0 ≤ a ∧ a ≤ 1024 - n) :
    Calls Tryz.prog 68 #[.int .i64 a, .int .i64 n] w fun e w' => e = .returned (.bool true) ∧ w' = w := by
  have := fits_any a n w hn
  rwa [decide_eq_true h] at this
theorem fits_no (a n : Int) (w : World) (hn : 0 ≤ n ∧ n ≤ 1024) (h : ¬ (0 ≤ a ∧ a ≤ 1024 - n)) :
    Calls Tryz.prog 68 #[.int .i64 a, .int .i64 n] w fun e w' => e = .returned (.bool false) ∧ w' = w := by
  have := fits_any a n w hn
  rwa [decide_eq_false h] at this

/-- The first k of f, noughts behind them. -/
def firsts (f : Nat → Int) (k : Nat) : Nat → Int := fun i => if i < k then f i else 0
theorem firsts_next (f : Nat → Int) (k : Nat) : upd (firsts f k) k (f k) = firsts f (k + 1) := by
  funext j
  unfold upd firsts
  by_cases h : j = k
  · subst h; simp
  · by_cases h2 : j < k
    · simp [h, h2, show j < k + 1 by omega]
    · simp [h, h2, show ¬ j < k + 1 by omega]

theorem wpList_load25 {ops : Array Oper} {rest : List Oper} {o : Oper} {a : Act} {w : World} {Q : Exit → Act → World → Prop} (hgd : o.guard = none) (x : Operand) (ho : o.op = .load 47 x)
    (g : Nat) (hx : a.eval x = .pointer (some ⟨g, 0, none⟩)) (f : Nat → Int) (hg : w.heap[g]? = some (.cells (blk f) 47))
    (h : wpList Tryz.prog ops Q rest (a.put o.dst (.agg (blk f))) w) : wpList Tryz.prog ops Q (o :: rest) a w :=
  wpList_load_row hgd 47 x ho g hx 47 (blk f) (0, 0) _ hg Tryz.underlying47 rfl (by rw [blk_size]; exact size25) h
theorem wpList_store25 {ops : Array Oper} {rest : List Oper} {o : Oper} {a : Act} {w : World} {Q : Exit → Act → World → Prop} (hgd : o.guard = none) (x y : Operand) (ho : o.op = .store 47 x y)
    (g : Nat) (f : Nat → Int) (hx : a.eval x = .pointer (some ⟨g, 0, none⟩)) (hy : a.eval y = .agg (blk f)) (f0 : Nat → Int) (hg : w.heap[g]? = some (.cells (blk f0) 47))
    (h : wpList Tryz.prog ops Q rest (a.put o.dst undef) (w.setRow g (blk f))) : wpList Tryz.prog ops Q (o :: rest) a w :=
  wpList_plain hgd fun _ hK => by
    unfold Oper.wp execOp
    simp only [ho, hx, hy, Instr.storeAt, Instr.sureAddr, Sem.run_bind, Sem.run_pure, Result.andThen_ok, run_storeVar_row w g 47 47 (blk f0) (blk f) hg (by rw [blk_size]; exact size25) (by rw [blk_size, blk_size]) (blk_one f)]
    exact hK _ _ h

/-- A result that is a whole block in a cell. -/
theorem ret25 {fn : Func} {p : Tmp} {R : Ending → World → Prop} {a : Act} {w : World} (h : fn.results = #[.cell p 47]) (g : Nat) (f : Nat → Int)
    (hp : a.tmps.getD p undef = .pointer (some ⟨g, 0, none⟩)) (hg : w.heap[g]? = some (.cells (blk f) 47)) (hd : a.defers = []) (hR : R (.returned (.agg (blk f))) w) : bodyPost Tryz.prog fn R .ret a w :=
  bodyPost_ret (results_cell_row h a.tmps w g 47 (blk f) (0, 0) _ hp hg Tryz.underlying47 rfl (by rw [blk_size]; exact size25)) hd hR
theorem below_setRow {B : Nat} {a w : World} (h : Below B a w) {g : Nat} (hg : B ≤ g) (cs : Array Value) : Below B a (w.setRow g cs) :=
  h.trans ⟨rfl, rfl, rfl, by simp, fun k hk => setRow_other w g k cs (by omega)⟩
theorem below2 (w : World) (a b : Obj) (g : Nat) (hg : w.heap.size ≤ g) (cs : Array Value) : Below w.heap.size w (((w.alloc a).alloc b).setRow g cs) :=
  below_setRow (((Below.refl _ _).alloc (Nat.le_refl _) _).alloc (by simp) _) hg _
end Go.Proofs.YtiadlcjdpbkbkaaGreatN
/- Two blocks held against each other: equal just where every byte is; for every two blocks. -/
namespace Go.Proofs.YtiadlcjdpbkbkaaGreatN
open Go.RowKit

def sameB (f g : Nat → Int) : Bool := (List.range 1024).all fun i => f i == g i
theorem sameB_iff (f g : Nat → Int) : sameB f g = true ↔ ∀ i, i < 1024 → f i = g i := by
  simp [sameB, List.all_eq_true, List.mem_range]
theorem sameB_self (f : Nat → Int) : sameB f f = true := (sameB_iff f f).2 fun _ _ => rfl

theorem part5 (f : Nat → Int) (i : Nat) (hi : i < 1024) (w : World) : (part 5 (blk f) (i * 1)).run Tryz.prog w = .ok (.int .u8 (f i)) w := by
  have hb := blk_get f i hi
  simp [part, Tryz.isAgg5, hb]
theorem each25 (d : Nat) (f g : Nat → Int) (w : World) : ∀ l : List Nat, (∀ i, i ∈ l → i < 1024) →
    (forIn (m := Sem) l ((none : Option Bool), ()) fun i _ => do
            let x ← part 5 (blk f) (i * 1)
            let y ← part 5 (blk g) (i * 1)
            let b ← Op.equalIn (d + 1) 5 x y
            if (!b) = true then pure (ForInStep.done (some false, ())) else pure (ForInStep.yield (none, ()))).run Tryz.prog w
      = .ok ((if l.all (fun i => f i == g i) then none else some false), ()) w
  | [], _ => by simp
  | i :: l, h => by
    have h1 := part5 f i (h i (by simp)) w
    have h2 := part5 g i (h i (by simp)) w
    have ih := each25 d f g w l fun j hj => h j (by simp [hj])
    have he := run_equalIn_int (P := Tryz.prog) w d 5 .u8 .u8 (f i) (g i) Tryz.underlying5
    simp only [List.forIn_cons, Sem.run_bind, h1, h2, he, Result.andThen_ok, List.all_cons]
    by_cases e : f i = g i
    · simp only [e, beq_self_eq_true, Bool.not_true, Bool.false_eq_true, if_false, Sem.run_pure, Result.andThen_ok, Bool.true_and]
      exact ih
    · have e' : (f i == g i) = false := by simp [e]
      simp [e']
theorem eq25 (f g : Nat → Int) (w : World) : (Op.equalIn 10000 47 (.agg (blk f)) (.agg (blk g))).run Tryz.prog w = .ok (sameB f g) w := by
  have key := each25 9998 f g w (List.range' 0 [:1024].size) (fun i hi => by simpa [Std.Legacy.Range.size] using hi)
  show (Op.equalIn (9998 + 1 + 1) 47 (.agg (blk f)) (.agg (blk g))).run Tryz.prog w = _
  rw [Op.equalIn]
  simp only [Sem.run_bind, run_underlying Tryz.underlying47, Result.andThen_ok]
  rw [show (sizeOf 5).run Tryz.prog w = .ok 1 w by simp [go_sem]]
  simp only [Result.andThen_ok, Std.Legacy.Range.forIn_eq_forIn_range']
  refine (congrArg (fun r => Result.andThen r _) key).trans ?_
  have hr : List.range' 0 [:1024].size = List.range 1024 := by simp [Std.Legacy.Range.size, List.range_eq_range']
  rw [hr]
  show Result.andThen (Result.ok ((if sameB f g = true then none else some false), ()) w) _ = _
  cases sameB f g <;> simp
end Go.Proofs.YtiadlcjdpbkbkaaGreatN
/- Regions whose order is drawn and whose calls make memory but turn none that was there: one walk in the text's order serves every order. -/
namespace Go.Proofs.YtiadlcjdpbkbkaaGreatN
open Go.RowKit

/-- A world that has all that W has, and perhaps more behind it. -/
structure Later (W : World) where
  val : World
  below : Below W.heap.size W val

theorem later_some (W : World) : Nonempty (Later W) := ⟨⟨W, Below.refl _ _⟩⟩
theorem Later.cell {W : World} (x : Later W) (p : Addr) (h : p.block < W.heap.size) : x.val.cell? p = W.cell? p := x.below.cell h
theorem Later.heap {W : World} (x : Later W) (g : Nat) (h : g < W.heap.size) : x.val.heap[g]? = W.heap[g]? := x.below.block g h

theorem wp_region_later {id : Nat} {Q : Exit → Act → World → Prop} {a : Act} {w : World} {l : List Oper} (hm : Tryz.prog.follows .mixedOrders = true) (hB : Region.lexB .any l.toArray = true)
    (W : World) (hW : Below W.heap.size W w)
    (h : wpQuiet Tryz.prog l.toArray (fun w' => ∃ x : Later W, w' = x.val) (fun a' => ∀ w', (∃ x : Later W, w' = x.val) → Q .normal a' w') l a) : (Code.region id l.toArray true).wp Tryz.prog Q a w :=
  wp_region_quiet (C := fun w' => ∃ x : Later W, w' = x.val) hm hB ⟨⟨_, hW.drew⟩, rfl⟩ (by simpa using h)

theorem Later.call {W : World} (x : Later W) {f : FuncId} {args : Array Value} {v : Value}
    (h : Calls Tryz.prog f args x.val fun e w' => e = .returned v ∧ Below x.val.heap.size x.val w') : Calls Tryz.prog f args x.val fun e w'' => e = .returned v ∧ ∃ y : Later W, w'' = y.val :=
  h.mono fun _ w' ⟨he, hb⟩ => ⟨he, ⟨w', x.below.trans (hb.mono x.below.size)⟩, rfl⟩

theorem quiet_load25 {W : World} {o : Oper} {a : Act} {K : Act → Prop} (x : Operand) (ho : o.op = .load 47 x) (g : Nat) (hx : a.eval x = .pointer (some ⟨g, 0, none⟩)) (f : Nat → Int)
    (hg : W.heap[g]? = some (.cells (blk f) 47)) (hk : K (a.put o.dst (.agg (blk f)))) : o.quiet Tryz.prog a (fun w' => ∃ x : Later W, w' = x.val) K := by
  refine ⟨.agg (blk f), ?_, hk⟩
  rintro _ ⟨y, rfl⟩
  have hlt : g < W.heap.size := (Array.getElem?_eq_some_iff.1 hg).1
  have hh := (y.heap g hlt).trans hg
  unfold Oper.quietAt execOp
  simp only [ho, hx, Instr.loadAt, Instr.sureAddr, Sem.run_bind, Sem.run_pure, Result.andThen_ok, run_loadVar_row y.val g 47 47 (blk f) (0, 0) _ hh Tryz.underlying47 rfl (by rw [blk_size]; exact size25)]
  exact ⟨rfl, rfl⟩

theorem wpList_store25_new {ops : Array Oper} {rest : List Oper} {o : Oper} {a : Act} {w : World} {Q : Exit → Act → World → Prop} (hgd : o.guard = none) (x y : Operand) (ho : o.op = .store 47 x y)
    (f f0 : Nat → Int) (hx : a.eval x = .pointer (some ⟨w.heap.size, 0, none⟩)) (hy : a.eval y = .agg (blk f))
    (h : wpList Tryz.prog ops Q rest (a.put o.dst undef) (w.alloc (.cells (blk f) 47))) : wpList Tryz.prog ops Q (o :: rest) a (w.alloc (.cells (blk f0) 47)) :=
  wpList_store25 hgd x y ho w.heap.size f hx hy f0 (heap_alloc_new _ _) (by rw [World.setRow_alloc_new]; exact h)
end Go.Proofs.YtiadlcjdpbkbkaaGreatN
/- slab's inside: which of some places lie in a block; for every place and number. -/
namespace Go.Proofs.YtiadlcjdpbkbkaaGreatN
open Go.RowKit

/-- The first of the n places from a on that are inside, and the one behind the last; 0 and 0 if there are none. -/
def insLo (a n : Int) : Nat := if n < 1 ∨ 1024 ≤ a then 0 else a.toNat
def insHi (a n : Int) : Nat := if n < 1 ∨ 1024 ≤ a then 0 else (min (a + n) 1024).toNat
theorem ins_le (a n : Int) : insLo a n ≤ insHi a n ∧ insHi a n ≤ 1024 := by
  unfold insLo insHi; split
  · omega
  · omega
theorem ins_iff (a n : Int) (j : Nat) (hj : j < 1024) : (insLo a n ≤ j ∧ j < insHi a n) ↔ (a ≤ (j : Int) ∧ (j : Int) - a < n) := by
  unfold insLo insHi; split <;> omega
theorem ins_lo (a n : Int) (h : insLo a n < insHi a n) : a ≤ (insLo a n : Int) ∧ (insHi a n : Int) - a ≤ n := by
  unfold insLo insHi at *; split at h <;> split <;> omega
theorem ret_two {a b c d : Int} (h : a = c) (h' : b = d) : Ending.returned (.tuple #[.int .i64 a, .int .i64 b]) = .returned (.tuple #[.int .i64 c, .int .i64 d]) := by rw [h, h']

set_option maxHeartbeats 400000 in
theorem slabInside_any (a n : Int) (w : World) (ha : -9223372036854775808 ≤ a ∧ a ≤ 9223372036854775807) (hn : -9223372036854775808 ≤ n ∧ n ≤ 9223372036854775807) :
    Calls Tryz.prog 105 #[.int .i64 a, .int .i64 n] w fun e w' => e = .returned (.tuple #[.int .i64 (insLo a n), .int .i64 (insHi a n)]) ∧ w' = w := by
  have hlo : ((insLo a n : Nat) : Int) = if n < 1 ∨ 1024 ≤ a then 0 else if a < 0 then 0 else a := by unfold insLo; split <;> (try split) <;> omega
  have hhi : ((insHi a n : Nat) : Int) = if n < 1 ∨ 1024 ≤ a then 0 else if a + n < 0 then 0 else if a + n < 1024 then a + n else 1024 := by
    unfold insHi; split <;> (try split) <;> (try split) <;> omega
  generalize ((insLo a n : Nat) : Int) = lo at *
  generalize ((insHi a n : Nat) : Int) = hi at *
  have HLO : Hid (lo = if n < 1 ∨ 1024 ≤ a then 0 else if a < 0 then 0 else a) := hlo
  have HHI : Hid (hi = if n < 1 ∨ 1024 ≤ a then 0 else if a + n < 0 then 0 else if a + n < 1024 then a + n else 1024) := hhi
  clear hlo hhi
  by_cases h1 : n < 1
  · go_enter Tryz.func105, Tryz.ntmps105
    go_wp2
    go_ret2
    exact ⟨ret_two (by rw [HLO.out, if_pos (.inl h1)]) (by rw [HHI.out, if_pos (.inl h1)]), rfl⟩
  · by_cases h2 : 1024 ≤ a
    · go_enter Tryz.func105, Tryz.ntmps105
      go_wp2
      go_ret2
      exact ⟨ret_two (by rw [HLO.out, if_pos (.inr h2)]) (by rw [HHI.out, if_pos (.inr h2)]), rfl⟩
    · by_cases h3 : a < 0
      · by_cases h4 : a + n < 0
        all_goals by_cases h5 : a + n < 1024
        all_goals
          go_enter Tryz.func105, Tryz.ntmps105
          go_wp2
        all_goals
          go_ret2
          refine ⟨ret_two ?_ ?_, rfl⟩
          · have := HLO.out; rw [if_neg (by omega), if_pos (by omega)] at this; omega
          · have := HHI.out; rw [if_neg (by omega)] at this; split at this <;> (try split at this) <;> omega
      · by_cases h5 : n < 1024 - a
        all_goals
          go_enter Tryz.func105, Tryz.ntmps105
          go_wp2
        all_goals
          go_ret2
          refine ⟨ret_two ?_ ?_, rfl⟩
          · have := HLO.out; rw [if_neg (by omega), if_neg (by omega)] at this; omega
          · have := HHI.out; rw [if_neg (by omega)] at this; split at this <;> (try split at this) <;> omega
end Go.Proofs.YtiadlcjdpbkbkaaGreatN
/- The law's own function block: a block that begins with the bytes of a slice; its bytes lie in memory below. -/
namespace Go.Proofs.YtiadlcjdpbkbkaaGreatN
open Go.RowKit

/-- The slice v holds n bytes, f 0, f 1 .. -/
def Lies (w : World) (v : Value) (n : Nat) (f : Nat → Int) : Prop :=
  (∃ a cap, v = .slice a 0 cap ∧ n = 0 ∧ (a = none → cap = 0)) ∨ ∃ b off cap, v = .slice (some ⟨b, off, none⟩) n cap ∧ n ≤ maxLen ∧ n ≤ cap ∧ b < w.heap.size ∧ ∀ i, i < n → w.cell? ⟨b, off + i, none⟩ = some (.int .u8 (f i))
theorem Lies.later {w w' : World} {v : Value} {n : Nat} {f : Nat → Int} (h : Lies w v n f) (hb : Below w.heap.size w w') : Lies w' v n f := by
  rcases h with h | ⟨b, off, cap, hv, hn, hcap, hlt, hc⟩
  · exact .inl h
  · exact .inr ⟨b, off, cap, hv, hn, hcap, Nat.lt_of_lt_of_le hlt hb.size, fun i hi => (hb.cell (p := ⟨b, off + i, none⟩) hlt).trans (hc i hi)⟩
end Go.Proofs.YtiadlcjdpbkbkaaGreatN
/- Rows of bytes in memory: read, written, copied; whatever their number. -/
namespace Go.Proofs.YtiadlcjdpbkbkaaGreatN
open Go.RowKit

theorem info5 : (Tryz.prog.info? 5).map (fun i => (i.zero, i.size, i.bytes)) = some (some (.int .u8 0), 1, 1) := by kernel_rfl
/-- m bytes as cells. -/
def rowA (f : Nat → Int) (m : Nat) : Array Value := ((List.range m).map fun i => Value.int .u8 (f i)).toArray
theorem blk_row (f : Nat → Int) : blk f = rowA f 1024 := rfl
theorem rowA_size (f : Nat → Int) (m : Nat) : (rowA f m).size = m := by simp [rowA]
theorem rowA_get (f : Nat → Int) (m i : Nat) (h : i < m) : (rowA f m)[i]? = some (.int .u8 (f i)) := by simp [rowA, h]
theorem rowA_ext {f : Nat → Int} {m : Nat} {cs : Array Value} (hs : cs.size = m) (h : ∀ i, i < m → cs[i]? = some (.int .u8 (f i))) : cs = rowA f m := by
  apply Array.ext_getElem?
  intro i
  by_cases hi : i < m
  · rw [h i hi, rowA_get f m i hi]
  · rw [Array.getElem?_eq_none (by omega), Array.getElem?_eq_none (by rw [rowA_size]; omega)]
theorem rowA_congr {f g : Nat → Int} {m : Nat} (h : ∀ i, i < m → f i = g i) : rowA f m = rowA g m :=
  rowA_ext (rowA_size f m) fun i hi => by rw [rowA_get f m i hi, h i hi]
theorem rowA_set (f : Nat → Int) (m i : Nat) (x : Int) : (rowA f m).setIfInBounds i (.int .u8 x) = rowA (upd f i x) m := by
  refine rowA_ext (by rw [Array.size_setIfInBounds, rowA_size]) fun j hj => ?_
  rw [Array.getElem?_setIfInBounds]
  by_cases e : i = j
  · subst e; simp [rowA_size, hj, upd]
  · have e' : ¬ j = i := fun q => e q.symm
    simp [e, e', rowA_get _ _ _ hj, upd]
theorem made_row (m : Nat) : madeCells #[Value.int .u8 0] m = rowA nought m :=
  rowA_ext (by simp [madeCells]) fun i hi => by simp [madeCells, hi, nought, Nat.mod_one]
theorem cell_row {w : World} {g m : Nat} {f : Nat → Int} {t : TypeId} (h : w.heap[g]? = some (.cells (rowA f m) t)) (i : Nat) (hi : i < m) : w.cell? ⟨g, i, none⟩ = some (.int .u8 (f i)) := by
  rw [cell_of_row w g i _ t _ h]; exact rowA_get f m i hi
theorem rowA_one (f : Nat → Int) (m : Nat) : ∀ v ∈ (rowA f m).toList, v.oneCell' = true := by
  intro v hv
  simp [rowA] at hv
  obtain ⟨i, _, rfl⟩ := hv
  rfl

/-- F, but for n bytes of G from off on. -/
def over (F : Nat → Int) (off n : Nat) (G : Nat → Int) : Nat → Int := fun i => if off ≤ i ∧ i < off + n then G (i - off) else F i
theorem over_none (F : Nat → Int) (off : Nat) (G : Nat → Int) : over F off 0 G = F := by
  funext i; unfold over; rw [if_neg (by omega)]

theorem run_copy5 (w : World) (ty : TypeId) (g off dLen dCap gs so sLen sCap : Nat)
    (F : Nat → Int) (m : Nat) (t : TypeId) (hF : w.heap[g]? = some (.cells (rowA F m) t)) (G : Nat → Int) (n : Nat) (hn : n = Nat.min sLen dLen)
    (hsrc : ∀ j, j < n → w.cell? ⟨gs, so + j, none⟩ = some (.int .u8 (G j))) (hfit : off + n ≤ m) :
    (Builtin.copy_ #[135, 135] ty #[.slice (some ⟨g, off, none⟩) dLen dCap, .slice (some ⟨gs, so, none⟩) sLen sCap]).run Tryz.prog w = .ok (goInt n) (w.setRow g (rowA (over F off n G) m)) := by
  have hlen : (rowA G n).toList.length = n := by simp [rowA_size]
  have hi5 : (Tryz.prog.info? 5).map (·.size) = some 1 := by
    obtain ⟨i0, hi0, _, hz1, _⟩ := info_parts info5
    rw [hi0]; simp [hz1]
  have key := run_copy_row (P := Tryz.prog) w 135 135 ty 5 g off dLen dCap ⟨gs, so, none⟩ sLen sCap (rowA F m) t (rowA G n).toList Tryz.underlying135 hi5 hF (by rw [hlen]; exact hn) (fun j v hv => by
    have hj : j < n := by rw [← hlen]; exact (List.getElem?_eq_some_iff.1 hv).1
    have e : v = .int .u8 (G j) := by
      have := rowA_get G n j hj
      simp at hv
      rw [hv] at this
      exact Option.some.inj this
    rw [e, Go.WideShapes.add_plain]
    exact hsrc j hj) (by rw [hlen, rowA_size]; exact hfit) (rowA_one G n)
  have e : ((rowA F m).toList.take off ++ ((rowA G n).toList ++ (rowA F m).toList.drop (off + n))).toArray = rowA (over F off n G) m := by
    refine rowA_ext ?_ fun i hi => ?_
    · simp [rowA_size]; omega
    · simp only [List.getElem?_toArray]
      by_cases h1 : i < off
      · rw [List.getElem?_append_left (by simp [rowA_size]; omega), List.getElem?_take_of_lt h1]
        simp only [Array.getElem?_toList, rowA_get F m i hi, over]
        rw [if_neg (by omega)]
      · rw [List.getElem?_append_right (by simp [rowA_size]; omega)]
        have e0 : (List.take off (rowA F m).toList).length = off := by simp [rowA_size]; omega
        rw [e0]
        by_cases h2 : i < off + n
        · rw [List.getElem?_append_left (by simp [rowA_size]; omega)]
          simp only [Array.getElem?_toList, rowA_get G n (i - off) (by omega), over]
          rw [if_pos (by omega)]
        · rw [List.getElem?_append_right (by simp [rowA_size]; omega), hlen, List.getElem?_drop, show off + n + (i - off - n) = i by omega]
          simp only [Array.getElem?_toList, rowA_get F m i hi, over]
          rw [if_neg (by omega)]
  rw [hlen, List.append_assoc, e] at key
  exact key
theorem wp_copy5 {o : Oper} {a : Act} {w : World} {K : Act → World → Prop} {Q : Exit → Act → World → Prop} (d s : Operand)
    (ho : o.op = .call { callee := .builtin .copy, args := #[d, s], argTypes := #[135, 135] }) (g off dLen dCap gs so sLen sCap : Nat)
    (hd : a.eval d = .slice (some ⟨g, off, none⟩) dLen dCap) (hs : a.eval s = .slice (some ⟨gs, so, none⟩) sLen sCap)
    (F : Nat → Int) (m : Nat) (t : TypeId) (hF : w.heap[g]? = some (.cells (rowA F m) t)) (G : Nat → Int) (n : Nat) (hn : n = Nat.min sLen dLen)
    (hsrc : ∀ j, j < n → w.cell? ⟨gs, so + j, none⟩ = some (.int .u8 (G j))) (hfit : off + n ≤ m)
    (h : K (a.put o.dst (goInt n)) (w.setRow g (rowA (over F off n G) m))) : o.wp Tryz.prog a w K Q := by
  have hrun := run_copy5 w o.type g off dLen dCap gs so sLen sCap F m t hF G n hn hsrc hfit
  unfold Oper.wp
  simp [execOp, ho, resolve, invoke, builtin, hd, hs, hrun, Result.andThen]
  exact h
theorem wpList_copy5 {ops : Array Oper} {rest : List Oper} {o : Oper} {a : Act} {w : World} {Q : Exit → Act → World → Prop} (hgd : o.guard = none) (d s : Operand)
    (ho : o.op = .call { callee := .builtin .copy, args := #[d, s], argTypes := #[135, 135] }) (g off dLen dCap gs so sLen sCap : Nat)
    (hd : a.eval d = .slice (some ⟨g, off, none⟩) dLen dCap) (hs : a.eval s = .slice (some ⟨gs, so, none⟩) sLen sCap)
    (F : Nat → Int) (m : Nat) (t : TypeId) (hF : w.heap[g]? = some (.cells (rowA F m) t)) (G : Nat → Int) (n : Nat) (hn : n = Nat.min sLen dLen)
    (hsrc : ∀ j, j < n → w.cell? ⟨gs, so + j, none⟩ = some (.int .u8 (G j))) (hfit : off + n ≤ m)
    (h : wpList Tryz.prog ops Q rest (a.put o.dst (goInt n)) (w.setRow g (rowA (over F off n G) m))) : wpList Tryz.prog ops Q (o :: rest) a w :=
  wpList_plain hgd fun _ hK => wp_copy5 d s ho g off dLen dCap gs so sLen sCap hd hs F m t hF G n hn hsrc hfit (hK _ _ h)
theorem step_copy5 {ops : Array Oper} {o : Oper} {a : Act} {w : World} {K : Act → World → Prop} {Q : Exit → Act → World → Prop} {E : Prop} (hgd : o.guard = none) (d s : Operand)
    (ho : o.op = .call { callee := .builtin .copy, args := #[d, s], argTypes := #[135, 135] }) (g off dLen dCap gs so sLen sCap : Nat)
    (hd : a.eval d = .slice (some ⟨g, off, none⟩) dLen dCap) (hs : a.eval s = .slice (some ⟨gs, so, none⟩) sLen sCap)
    (F : Nat → Int) (m : Nat) (t : TypeId) (hF : w.heap[g]? = some (.cells (rowA F m) t)) (G : Nat → Int) (n : Nat) (hn : n = Nat.min sLen dLen)
    (hsrc : ∀ j, j < n → w.cell? ⟨gs, so + j, none⟩ = some (.int .u8 (G j))) (hfit : off + n ≤ m)
    (h : K (a.put o.dst (goInt n)) (w.setRow g (rowA (over F off n G) m))) : if Region.wanted o (yielded ops a.tmps) = true then Oper.wp Tryz.prog o a w K Q else E := by
  have hw : Region.wanted o (yielded ops a.tmps) = true := by simp [Region.wanted, hgd]
  rw [if_pos hw]
  exact wp_copy5 d s ho g off dLen dCap gs so sLen sCap hd hs F m t hF G n hn hsrc hfit h
end Go.Proofs.YtiadlcjdpbkbkaaGreatN
/- Piece of slab: some bytes of a block, those that are inside, in memory of their own; for every block, place and number. -/
namespace Go.Proofs.YtiadlcjdpbkbkaaGreatN
open Go.RowKit

theorem ins_lo_lt (a n : Int) : insLo a n < 1024 := by unfold insLo; split <;> omega
theorem slice25 (g lo hi : Nat) (h1 : lo ≤ hi) (h2 : hi ≤ 1024) (h3 : lo < 1024) (u : World) :
    (Instr.sliceAt 47 (.pointer (some ⟨g, 0, none⟩)) (some (.int .i64 (lo : Int))) (some (.int .i64 (hi : Int))) none).run Tryz.prog u = .ok (.slice (some ⟨g, lo, none⟩) (hi - lo) (1024 - lo)) u := by
  have hn : ¬ ((1024 : Nat) = lo) := by omega
  have ea : Tryz.prog.arrayLen 47 = 1024 := by kernel_rfl
  have ee : Tryz.prog.elem 47 = 5 := by kernel_rfl
  have h := run_sliceAt_array_lh (P := Tryz.prog) u 47 ⟨g, 0, none⟩ (by rw [ea, ee]; exact Tryz.underlying47) .i64 .i64 (lo : Int) (hi : Int) (by omega) (by omega) (by rw [ea]; omega)
  rw [h, ea, ee]
  simp [Tryz.sizeOf5, slicedAt, hn, Addr.add]
  intro h0; exact h0.symm

/-- f from lo on. -/
def from' (f : Nat → Int) (lo : Nat) : Nat → Int := fun i => f (lo + i)

set_option maxRecDepth 20000 in
set_option maxHeartbeats 400000 in
theorem piece_any (f : Nat → Int) (k n : Int) (w : World) (ha : -9223372036854775808 ≤ k ∧ k ≤ 9223372036854775807) (hn : -9223372036854775808 ≤ n ∧ n ≤ 9223372036854775807) :
    Calls Tryz.prog 126 #[.agg (blk f), .int .i64 k, .int .i64 n] w fun e w' => e = .returned (.slice (some ⟨w.heap.size + 1, 0, none⟩) (insHi k n - insLo k n) (insHi k n - insLo k n)) ∧
      w'.heap[w.heap.size + 1]? = some (.cells (rowA (from' f (insLo k n)) (insHi k n - insLo k n)) 5) ∧ w'.heap.size = w.heap.size + 2 ∧ Below w.heap.size w w' := by
  obtain ⟨i0, hi0, hz0, hz1, hz2⟩ := info_parts info5
  have hle := ins_le k n
  have hlo := ins_lo_lt k n
  have hcl := slabInside_any k n
  generalize insLo k n = lo at *
  generalize insHi k n = hi at *
  obtain ⟨hl1, hl2⟩ := hle
  have hmk : ∀ u : World, (Instr.makeSlice 135 (.int .i64 ((hi : Int) - (lo : Int))) (.int .i64 ((hi : Int) - (lo : Int)))).run Tryz.prog u =
      .ok (.slice (some ⟨u.heap.size, 0, none⟩) (hi - lo) (hi - lo)) (u.alloc (.cells (rowA nought (hi - lo)) 5)) := fun u => by
    have h := run_make (P := Tryz.prog) u 135 5 i0 (.int .u8 0) Tryz.underlying135 hi0 hz0 .i64 .i64 ((hi : Int) - (lo : Int)) ((hi : Int) - (lo : Int)) (by omega) (Int.le_refl _) (by rw [hz2]; omega) (by omega)
    rw [show ((hi : Int) - (lo : Int)).toNat = hi - lo by omega] at h
    simpa [hz1, Value.cells, made_row] using h
  clear hi0 hz0 hz1 hz2
  have hsl := slice25 w.heap.size lo hi hl1 hl2 hlo
  have hsrc : ∀ j, j < hi - lo → ((w.alloc (.cells (blk f) 47)).alloc (.cells (rowA nought (hi - lo)) 5)).cell? ⟨w.heap.size, lo + j, none⟩ = some (.int .u8 (from' f lo j)) := fun j hj =>
    cell_row (f := f) (m := 1024) (heap_alloc2_old _ _ _) (lo + j) (by omega)
  have HS : Hid (∀ j, j < hi - lo → ((w.alloc (.cells (blk f) 47)).alloc (.cells (rowA nought (hi - lo)) 5)).cell? ⟨w.heap.size, lo + j, none⟩ = some (.int .u8 (from' f lo j))) := hsrc
  have hov : rowA (over nought 0 (hi - lo) (from' f lo)) (hi - lo) = rowA (from' f lo) (hi - lo) := rowA_congr fun i hi => by unfold over; rw [if_pos (by omega), Nat.sub_zero]
  have HO : Hid (rowA (over nought 0 (hi - lo) (from' f lo)) (hi - lo) = rowA (from' f lo) (hi - lo)) := hov
  clear hsrc hov
  go_enter Tryz.func126, Tryz.ntmps126
  go_wp2_with fail
  refine (hcl _ ha hn).mono ?_
  rintro e w1 ⟨rfl, rfl⟩
  clear hcl
  go_wp2_with (first | refine wpList_copy5 rfl _ _ rfl _ _ _ _ _ _ _ _ rfl rfl nought (hi - lo) 5 (heap_alloc2_new _ _ _) (from' f lo) (hi - lo) (Nat.min_self _).symm HS.out (by omega) ?_)
  go_ret
  refine ⟨rfl, ?_, by simp, below2 _ _ _ _ (by omega) _⟩
  rw [← HO.out]
  exact setRow_heap _ _ _ _ _ _ (heap_alloc2_new _ _ _)
end Go.Proofs.YtiadlcjdpbkbkaaGreatN
/- Lay of slab: bytes laid into a block, those that come to lie inside; for every block, place and bytes. -/
namespace Go.Proofs.YtiadlcjdpbkbkaaGreatN
open Go.RowKit

/-- f with n bytes of q laid from place a on. -/
def layF (f : Nat → Int) (a : Int) (n : Nat) (q : Nat → Int) : Nat → Int := fun j => if a ≤ (j : Int) ∧ (j : Int) - a < (n : Int) then q ((j : Int) - a).toNat else f j

theorem lay_none (f : Nat → Int) (k : Int) (n : Nat) (q : Nat → Int) (h : ¬ insLo k n < insHi k n) : blk f = blk (layF f k n q) := blk_congr fun i hi => by
  unfold layF
  have := ins_iff k n i hi
  rw [if_neg (by omega)]
theorem lay_some (f : Nat → Int) (k : Int) (n : Nat) (q : Nat → Int) (h : insLo k n < insHi k n) :
    rowA (over f (insLo k n) (insHi k n - insLo k n) (from' q ((insLo k n : Int) - k).toNat)) 1024 = blk (layF f k n q) := rowA_congr fun i hi => by
  unfold over layF from'
  have h1 := ins_iff k n i hi
  have h2 := ins_lo k n h
  by_cases h3 : insLo k n ≤ i ∧ i < insHi k n
  · rw [if_pos (by omega), if_pos (h1.1 h3)]
    congr 1
    omega
  · rw [if_neg (by omega), if_neg (by omega)]

set_option maxRecDepth 20000 in
set_option maxHeartbeats 400000 in
theorem lay_skip (f : Nat → Int) (k : Int) (a : Option Addr) (n cap : Nat) (q : Nat → Int) (w : World) (ha : -9223372036854775808 ≤ k ∧ k ≤ 9223372036854775807) (hn : n ≤ 9223372036854775807) (h : ¬ insLo k n < insHi k n) :
    Calls Tryz.prog 89 #[.agg (blk f), .int .i64 k, .slice a n cap] w fun e w' => e = .returned (.agg (blk (layF f k n q))) ∧ Below w.heap.size w w' := by
  have HF : Hid (blk f = blk (layF f k n q)) := lay_none f k n q h
  have hcl := slabInside_any k n
  have z25 := zero25
  generalize insLo k n = lo at *
  generalize insHi k n = hi at *
  have h' : ¬ ((lo : Int) < (hi : Int)) := by omega
  clear h
  go_enter Tryz.func89, Tryz.ntmps89
  go_wp2_with fail
  refine (hcl _ ha (by omega)).mono ?_
  rintro e w1 ⟨rfl, rfl⟩
  clear hcl
  go_wp2_with (first | refine wpList_load25 rfl _ rfl _ rfl _ (heap_alloc2_old _ _ _) ?_ | refine wpList_store25 rfl _ _ rfl _ _ rfl rfl _ (heap_alloc2_new _ _ _) ?_)
  exact ret25 rfl (w.heap.size + 1) _ rfl (setRow_heap _ _ _ _ _ _ (heap_alloc2_new _ _ _)) rfl ⟨by rw [HF.out], below2 _ _ _ _ (by omega) _⟩

set_option maxRecDepth 20000 in
set_option maxHeartbeats 400000 in
theorem lay_copy (f : Nat → Int) (k : Int) (b off n cap : Nat) (q : Nat → Int) (w : World) (ha : -9223372036854775808 ≤ k ∧ k ≤ 9223372036854775807) (hn : n ≤ 9223372036854775807) (hcap : n ≤ cap)
    (hb : b < w.heap.size) (hc : ∀ i, i < n → w.cell? ⟨b, off + i, none⟩ = some (.int .u8 (q i))) (h : insLo k n < insHi k n) :
    Calls Tryz.prog 89 #[.agg (blk f), .int .i64 k, .slice (some ⟨b, off, none⟩) n cap] w fun e w' => e = .returned (.agg (blk (layF f k n q))) ∧ Below w.heap.size w w' := by
  have hle := ins_le k n
  have hlo := ins_lo_lt k n
  have hlk := ins_lo k n h
  have HF : Hid (rowA (over f (insLo k n) (insHi k n - insLo k n) (from' q ((insLo k n : Int) - k).toNat)) 1024 = blk (layF f k n q)) := lay_some f k n q h
  have hcl := slabInside_any k n
  have z25 := zero25
  generalize insLo k n = lo at *
  generalize insHi k n = hi at *
  obtain ⟨l, hl⟩ : ∃ l : Nat, (lo : Int) - k = (l : Int) := ⟨((lo : Int) - k).toNat, by omega⟩
  have hlt : ((lo : Int) - k).toNat = l := by omega
  rw [hlt] at HF
  have h' : ((lo : Int) < (hi : Int)) := by omega
  have hsl := slice25 w.heap.size lo hi hle.1 hle.2 hlo
  have hln : l < n := by omega
  have hwr : IntKind.i64.wrap ((lo : Int) - k) = (l : Int) := by rw [IntKind.wrap_i64]; omega
  have hln' : (l : Int) ≤ (n : Int) := by omega
  have hcp : ¬ cap = l := by omega
  have hsrc : ∀ j, j < hi - lo → ((w.alloc (.cells (blk f) 47)).alloc (.cells (blk nought) 47)).drew.cell? ⟨b, off + l + j, none⟩ = some (.int .u8 (from' q l j)) := fun j hj => by
    have h1 := hc (l + j) (by omega)
    rw [← Nat.add_assoc] at h1
    exact ((((Below.refl w.heap.size w).alloc (Nat.le_refl _) (.cells (blk f) 47)).alloc (by simp) (.cells (blk nought) 47)).cell (p := ⟨b, off + l + j, none⟩) hb).trans h1
  have HS : Hid (∀ j, j < hi - lo → ((w.alloc (.cells (blk f) 47)).alloc (.cells (blk nought) 47)).drew.cell? ⟨b, off + l + j, none⟩ = some (.int .u8 (from' q l j))) := hsrc
  have HB : Hid (((w.alloc (.cells (blk f) 47)).alloc (.cells (blk nought) 47)).drew.heap[w.heap.size]? = some (.cells (rowA f 1024) 47)) := heap_alloc2_old _ _ _
  have hE : lo + (hi - lo) ≤ 1024 := by omega
  have HE : Hid (lo + (hi - lo) ≤ 1024) := hE
  clear hE
  have HN : Hid (hi - lo = Nat.min (n - l) (hi - lo)) := show _ = _ from (Nat.min_eq_right (by omega)).symm
  clear hc hsrc hlt h hlo hln
  clear hl
  go_enter Tryz.func89, Tryz.ntmps89
  go_wp2_with fail
  refine (hcl _ ha (by omega)).mono ?_
  rintro e w1 ⟨rfl, rfl⟩
  clear hcl
  go_wp2
  go_still_tail 8, (by kernel_rfl)
  change wpList _ _ _ _ _ (World.drew _)
  refine wpList_copy5 rfl (.tmp 21) (.tmp 26) rfl w.heap.size lo (hi - lo) (1024 - lo) b (off + l) (n - l) (cap - l) rfl rfl f 1024 47 HB.out (from' q l) (hi - lo) HN.out HS.out HE.out ?_
  rw [HF.out]
  have h1 := setRow_heap _ w.heap.size (rowA f 1024) (blk (layF f k n q)) 47 (0, 0) HB.out
  have h2 : (((w.alloc (.cells (blk f) 47)).alloc (.cells (blk nought) 47)).drew.setRow w.heap.size (blk (layF f k n q))).heap[w.heap.size + 1]? = some (.cells (blk nought) 47) :=
    (setRow_other _ _ _ _ (by omega)).trans (heap_alloc2_new _ _ _)
  have h3 : Below w.heap.size w (((w.alloc (.cells (blk f) 47)).alloc (.cells (blk nought) 47)).drew.setRow w.heap.size (blk (layF f k n q))) :=
    below_setRow (((Below.refl _ _).alloc (Nat.le_refl _) _).alloc (by simp) _).drew (Nat.le_refl _) _
  generalize ((w.alloc (.cells (blk f) 47)).alloc (.cells (blk nought) 47)).drew.setRow w.heap.size (blk (layF f k n q)) = W at h1 h2 h3 ⊢
  clear HB HS HF hsl
  simp only [Act.put, List.setIfInBounds_toArray, List.set_cons_succ, List.set_cons_zero]
  go_wp2_with (first | refine wpList_load25 rfl _ rfl _ rfl _ h1 ?_ | refine wpList_store25 rfl _ _ rfl _ _ rfl rfl _ h2 ?_)
  exact ret25 rfl (w.heap.size + 1) _ rfl (setRow_heap _ _ _ _ _ _ h2) rfl ⟨rfl, below_setRow h3 (by omega) _⟩

theorem lay_any (f : Nat → Int) (k : Int) (p : Value) (n : Nat) (q : Nat → Int) (w : World) (ha : -9223372036854775808 ≤ k ∧ k ≤ 9223372036854775807) (hp : Lies w p n q) :
    Calls Tryz.prog 89 #[.agg (blk f), .int .i64 k, p] w fun e w' => e = .returned (.agg (blk (layF f k n q))) ∧ Below w.heap.size w w' := by
  rcases hp with ⟨a, cap, rfl, rfl, _⟩ | ⟨b, off, cap, rfl, hn, hcap, hb, hc⟩
  · refine lay_skip f k a 0 cap q w ha (by omega) ?_
    unfold insLo insHi; rw [if_pos (.inl (by omega)), if_pos (.inl (by omega))]; omega
  · unfold maxLen at hn
    by_cases h : insLo k n < insHi k n
    · exact lay_copy f k b off n cap q w ha (by omega) hcap hb hc h
    · exact lay_skip f k _ n cap q w ha (by omega) h
end Go.Proofs.YtiadlcjdpbkbkaaGreatN
/- Numbers of some bytes, the lowest first: read and laid, as plain functions; the bytes are 0 to 255. -/
namespace Go.Proofs.YtiadlcjdpbkbkaaGreatN
open Go.RowKit

/-- The number of m bytes from place k on. -/
def numN (f : Nat → Int) (k : Nat) : Nat → Int
  | 0 => 0
  | m + 1 => f k + 256 * numN f (k + 1) m
/-- The number of n bytes from at on, if all are inside. -/
def num (f : Nat → Int) (at' : Int) (n : Nat) : Int := if 0 ≤ at' ∧ at' ≤ 1024 - (n : Int) then numN f at'.toNat n else 0
/-- f with m bytes of v laid from place k on. -/
def putN (f : Nat → Int) (k : Nat) (v : Int) : Nat → Nat → Int
  | 0 => f
  | m + 1 => putN (upd f k (v % 256)) (k + 1) (v / 256) m
def put (f : Nat → Int) (at' : Int) (n : Nat) (v : Int) : Nat → Int := if 0 ≤ at' ∧ at' ≤ 1024 - (n : Int) then putN f at'.toNat v n else f

theorem numN_bd (f : Nat → Int) (hf : ∀ i, 0 ≤ f i ∧ f i ≤ 255) : ∀ (m k : Nat), 0 ≤ numN f k m ∧ numN f k m < 256 ^ m
  | 0, _ => by simp [numN]
  | m + 1, k => by
    have h1 := numN_bd f hf m (k + 1)
    have h2 := hf k
    simp only [numN, Int.pow_succ]
    omega
theorem num2 (f : Nat → Int) (k : Nat) : numN f k 2 = f k + 256 * f (k + 1) := by simp [numN]
theorem num4 (f : Nat → Int) (k : Nat) : numN f k 4 = f k + 256 * f (k + 1) + 65536 * f (k + 2) + 16777216 * f (k + 3) := by
  simp only [numN, Nat.add_assoc, Nat.reduceAdd]; omega
theorem num_in (f : Nat → Int) (k n : Nat) (h : k + n ≤ 1024) : num f (k : Int) n = numN f k n := by
  unfold num; rw [if_pos (by omega), Int.toNat_natCast]
theorem num_out (f : Nat → Int) (a : Int) (n : Nat) (h : a < 0 ∨ 1024 - (n : Int) < a) : num f a n = 0 := by
  unfold num; rw [if_neg (by omega)]
theorem put_in (f : Nat → Int) (k n : Nat) (v : Int) (h : k + n ≤ 1024) : put f (k : Int) n v = putN f k v n := by
  unfold put; rw [if_pos (by omega), Int.toNat_natCast]
theorem put_out (f : Nat → Int) (a : Int) (n : Nat) (v : Int) (h : a < 0 ∨ 1024 - (n : Int) < a) : put f a n v = f := by
  unfold put; rw [if_neg (by omega)]
theorem put2 (f : Nat → Int) (k : Nat) (v : Int) (hv : 0 ≤ v ∧ v < 65536) : putN f k v 2 = upd (upd f k (v % 256)) (k + 1) (v / 256) := by
  simp only [putN]
  rw [show v / 256 % 256 = v / 256 by omega]
theorem put4 (f : Nat → Int) (k : Nat) (v : Int) (hv : 0 ≤ v ∧ v < 4294967296) : putN f k v 4 = upd (upd (upd (upd f k (v % 256)) (k + 1) (v / 256 % 256)) (k + 2) (v / 65536 % 256)) (k + 3) (v / 16777216) := by
  simp only [putN, Nat.add_assoc, Nat.reduceAdd]
  rw [show v / 256 / 256 % 256 = v / 65536 % 256 by omega, show v / 256 / 256 / 256 % 256 = v / 16777216 by omega]
theorem num_bd (f : Nat → Int) (hf : ∀ i, 0 ≤ f i ∧ f i ≤ 255) (a : Int) (n : Nat) : 0 ≤ num f a n ∧ num f a n < 256 ^ n := by
  unfold num
  split
  · exact numN_bd f hf _ _
  · exact ⟨Int.le_refl _, Int.pow_pos (by decide)⟩

theorem wrap_u8 (n : Int) : IntKind.u8.wrap n = n % 256 := by simp [IntKind.wrap, IntKind.bits, IntKind.signed]
theorem wrap_u16 (n : Int) : IntKind.u16.wrap n = n % 65536 := by simp [IntKind.wrap, IntKind.bits, IntKind.signed]
theorem wrap_u32 (n : Int) : IntKind.u32.wrap n = n % 4294967296 := by simp [IntKind.wrap, IntKind.bits, IntKind.signed]

theorem or_comm' (k : IntKind) (x y : Int) : bits .or k x y = bits .or k y x := by simp only [bits, BitVec.or_comm]
theorem or16 (a b : Int) (ha : 0 ≤ a ∧ a ≤ 255) (hb : 0 ≤ b ∧ b ≤ 255) : bits .or .u16 (IntKind.u16.wrap a) (IntKind.u16.wrap (IntKind.u16.wrap b * 256)) = a + 256 * b := by
  simp only [wrap_u16]
  have h1 : a % 65536 = a := by omega
  have h2 : b % 65536 * 256 % 65536 = 256 * b := by omega
  rw [h1, h2, or_comm', bits_join .u16 16 (by decide) (fun n h0 h1 => by rw [wrap_u16]; omega) 8 (256 * b) a (by omega) (by omega) (by omega) (by omega) (by omega) (by omega)]
  omega
theorem or32 (i : Nat) (x y : Int) (hx0 : 0 ≤ x) (hx : x % 2 ^ i = 0) (hx1 : x < 2 ^ 32) (hy0 : 0 ≤ y) (hy : y < 2 ^ i) (hy1 : y < 2 ^ 32) : bits .or .u32 y x = y + x := by
  rw [or_comm', bits_join .u32 32 (by decide) (fun n h0 h1 => by rw [wrap_u32]; omega) i x y hx0 hx hx1 hy0 hy hy1]
  omega
theorem or32all (a b c d : Int) (ha : 0 ≤ a ∧ a ≤ 255) (hb : 0 ≤ b ∧ b ≤ 255) (hc : 0 ≤ c ∧ c ≤ 255) (hd : 0 ≤ d ∧ d ≤ 255) :
    bits .or .u32 (bits .or .u32 (bits .or .u32 (IntKind.u32.wrap a) (IntKind.u32.wrap (IntKind.u32.wrap b * 256))) (IntKind.u32.wrap (IntKind.u32.wrap c * 65536))) (IntKind.u32.wrap (IntKind.u32.wrap d * 16777216)) = a + 256 * b + 65536 * c + 16777216 * d := by
  simp only [wrap_u32]
  have h1 : a % 4294967296 = a := by omega
  have h2 : b % 4294967296 * 256 % 4294967296 = 256 * b := by omega
  have h3 : c % 4294967296 * 65536 % 4294967296 = 65536 * c := by omega
  have h4 : d % 4294967296 * 16777216 % 4294967296 = 16777216 * d := by omega
  rw [h1, h2, h3, h4, or32 8 (256 * b) a (by omega) (by omega) (by omega) (by omega) (by omega) (by omega),
    or32 16 (65536 * c) (a + 256 * b) (by omega) (by omega) (by omega) (by omega) (by omega) (by omega),
    or32 24 (16777216 * d) (a + 256 * b + 65536 * c) (by omega) (by omega) (by omega) (by omega) (by omega) (by omega)]
end Go.Proofs.YtiadlcjdpbkbkaaGreatN
/- U16 and U32 of slab: the number of the bytes at a place, or nought; for every block of bytes and every place. -/
namespace Go.Proofs.YtiadlcjdpbkbkaaGreatN
open Go.RowKit

theorem ret_int {k : IntKind} {a b : Int} (h : a = b) : Ending.returned (.int k a) = .returned (.int k b) := by rw [h]

set_option maxRecDepth 20000 in
set_option maxHeartbeats 400000 in
theorem u16_in (f : Nat → Int) (k : Nat) (w : World) (hk : (k : Int) ≤ 1022) (hf : ∀ i, 0 ≤ f i ∧ f i ≤ 255) :
    Calls Tryz.prog 129 #[.agg (blk f), .int .i64 k] w fun e w' => e = .returned (.int .u16 (f k + 256 * f (k + 1))) ∧ Below w.heap.size w w' := by
  have hb0 := blk_get f k (by omega)
  have hb1 := blk_get f (k + 1) (by omega)
  go_enter Tryz.func129, Tryz.ntmps129
  go_wp2
  go_quiet (fail)
  go_wp2
  go_ret
  exact ⟨ret_int (or16 _ _ (hf k) (hf (k + 1))), below_drewN ((Below.refl _ _).alloc (Nat.le_refl _) _) _⟩
set_option maxRecDepth 20000 in
set_option maxHeartbeats 400000 in
theorem u16_out (f : Nat → Int) (k : Int) (w : World) (hk : k < 0 ∨ 1022 < k) :
    Calls Tryz.prog 129 #[.agg (blk f), .int .i64 k] w fun e w' => e = .returned (.int .u16 0) ∧ Below w.heap.size w w' := by
  rcases hk with hk | hk
  · have hk' : ¬ (0 ≤ k) := by omega
    go_enter Tryz.func129, Tryz.ntmps129
    go_wp2
    go_ret
    exact ⟨rfl, (Below.refl _ _).alloc (Nat.le_refl _) _⟩
  · have hk' : ¬ (k ≤ 1022) := by omega
    have hk0 : 0 ≤ k := by omega
    go_enter Tryz.func129, Tryz.ntmps129
    go_wp2
    go_ret
    exact ⟨rfl, (Below.refl _ _).alloc (Nat.le_refl _) _⟩
theorem u16_any (f : Nat → Int) (k : Int) (w : World) (hf : ∀ i, 0 ≤ f i ∧ f i ≤ 255) :
    Calls Tryz.prog 129 #[.agg (blk f), .int .i64 k] w fun e w' => e = .returned (.int .u16 (num f k 2)) ∧ Below w.heap.size w w' := by
  by_cases h : k < 0 ∨ 1022 < k
  · rw [num_out f k 2 (by omega)]; exact u16_out f k w h
  · obtain ⟨m, rfl⟩ := Int.eq_ofNat_of_zero_le (show 0 ≤ k by omega)
    rw [num_in f m 2 (by omega), num2]; exact u16_in f m w (by omega) hf

set_option maxRecDepth 20000 in
set_option maxHeartbeats 400000 in
theorem u32_in (f : Nat → Int) (k : Nat) (w : World) (hk : (k : Int) ≤ 1020) (hf : ∀ i, 0 ≤ f i ∧ f i ≤ 255) :
    Calls Tryz.prog 106 #[.agg (blk f), .int .i64 k] w fun e w' => e = .returned (.int .u32 (f k + 256 * f (k + 1) + 65536 * f (k + 2) + 16777216 * f (k + 3))) ∧ Below w.heap.size w w' := by
  have hb0 := blk_get f k (by omega)
  have hb1 := blk_get f (k + 1) (by omega)
  have hb2 := blk_get f (k + 2) (by omega)
  have hb3 := blk_get f (k + 3) (by omega)
  go_enter Tryz.func106, Tryz.ntmps106
  go_wp2
  go_quiet (fail)
  go_wp2
  go_ret
  exact ⟨ret_int (or32all _ _ _ _ (hf k) (hf (k + 1)) (hf (k + 2)) (hf (k + 3))), below_drewN ((Below.refl _ _).alloc (Nat.le_refl _) _) _⟩
set_option maxRecDepth 20000 in
set_option maxHeartbeats 400000 in
theorem u32_out (f : Nat → Int) (k : Int) (w : World) (hk : k < 0 ∨ 1020 < k) :
    Calls Tryz.prog 106 #[.agg (blk f), .int .i64 k] w fun e w' => e = .returned (.int .u32 0) ∧ Below w.heap.size w w' := by
  rcases hk with hk | hk
  · have hk' : ¬ (0 ≤ k) := by omega
    go_enter Tryz.func106, Tryz.ntmps106
    go_wp2
    go_ret
    exact ⟨rfl, (Below.refl _ _).alloc (Nat.le_refl _) _⟩
  · have hk' : ¬ (k ≤ 1020) := by omega
    have hk0 : 0 ≤ k := by omega
    go_enter Tryz.func106, Tryz.ntmps106
    go_wp2
    go_ret
    exact ⟨rfl, (Below.refl _ _).alloc (Nat.le_refl _) _⟩
theorem u32_any (f : Nat → Int) (k : Int) (w : World) (hf : ∀ i, 0 ≤ f i ∧ f i ≤ 255) :
    Calls Tryz.prog 106 #[.agg (blk f), .int .i64 k] w fun e w' => e = .returned (.int .u32 (num f k 4)) ∧ Below w.heap.size w w' := by
  by_cases h : k < 0 ∨ 1020 < k
  · rw [num_out f k 4 (by omega)]; exact u32_out f k w h
  · obtain ⟨m, rfl⟩ := Int.eq_ofNat_of_zero_le (show 0 ≤ k by omega)
    rw [num_in f m 4 (by omega), num4]; exact u32_in f m w (by omega) hf

end Go.Proofs.YtiadlcjdpbkbkaaGreatN
/- SetU16 and SetU32 of slab: the block in which a number is laid; for every block, place and number. -/
namespace Go.Proofs.YtiadlcjdpbkbkaaGreatN
open Go.RowKit

theorem ret_blk {f g : Nat → Int} (h : f = g) : Ending.returned (.agg (blk f)) = .returned (.agg (blk g)) := by rw [h]
set_option maxRecDepth 20000 in
set_option maxHeartbeats 400000 in
theorem set16_in (f : Nat → Int) (k : Nat) (v : Int) (w : World) (hk : (k : Int) ≤ 1022) (hv : 0 ≤ v ∧ v < 65536) :
    Calls Tryz.prog 123 #[.agg (blk f), .int .i64 k, .int .u16 v] w fun e w' => e = .returned (.agg (blk (putN f k v 2))) ∧ Below w.heap.size w w' := by
  have z25 := zero25
  have hb0 := fun g => blk_get g (k) (by omega)
  have hb1 := fun g => blk_get g (k + 1) (by omega)
  have hset := blk_set
  go_enter Tryz.func123, Tryz.ntmps123
  go_wp2_with (first | (go_at_call 68; refine (fits_yes _ _ _ (by omega) (by omega)).mono ?_; rintro e w' ⟨rfl, rfl⟩) | refine wpList_load25 rfl _ rfl _ rfl _ (heap_alloc2_old _ _ _) ?_ | refine wpList_store25 rfl _ _ rfl _ _ rfl rfl _ (heap_alloc2_new _ _ _) ?_)
  exact ret25 rfl (w.heap.size + 1) _ rfl (setRow_heap _ _ _ _ _ _ (heap_alloc2_new _ _ _)) rfl ⟨ret_blk (put2 f k v hv).symm, below2 _ _ _ _ (by omega) _⟩
set_option maxRecDepth 20000 in
set_option maxHeartbeats 400000 in
theorem set16_out (f : Nat → Int) (k : Int) (v : Int) (w : World) (hk : ¬ (0 ≤ k ∧ k ≤ 1024 - 2)) :
    Calls Tryz.prog 123 #[.agg (blk f), .int .i64 k, .int .u16 v] w fun e w' => e = .returned (.agg (blk f)) ∧ Below w.heap.size w w' := by
  have z25 := zero25
  have HK : Hid (¬ (0 ≤ k ∧ k ≤ 1024 - 2)) := hk
  clear hk
  go_enter Tryz.func123, Tryz.ntmps123
  go_wp2_with (first | (go_at_call 68; refine (fits_no _ _ _ (by omega) HK.out).mono ?_; rintro e w' ⟨rfl, rfl⟩) | refine wpList_load25 rfl _ rfl _ rfl _ (heap_alloc2_old _ _ _) ?_ | refine wpList_store25 rfl _ _ rfl _ _ rfl rfl _ (heap_alloc2_new _ _ _) ?_)
  exact ret25 rfl (w.heap.size + 1) _ rfl (setRow_heap _ _ _ _ _ _ (heap_alloc2_new _ _ _)) rfl ⟨rfl, below2 _ _ _ _ (by omega) _⟩
theorem set16_any (f : Nat → Int) (k : Int) (v : Int) (w : World) (hv : 0 ≤ v ∧ v < 65536) :
    Calls Tryz.prog 123 #[.agg (blk f), .int .i64 k, .int .u16 v] w fun e w' => e = .returned (.agg (blk (put f k 2 v))) ∧ Below w.heap.size w w' := by
  by_cases h : 0 ≤ k ∧ k ≤ 1024 - 2
  · obtain ⟨m, rfl⟩ := Int.eq_ofNat_of_zero_le h.1
    rw [put_in f m 2 v (by omega)]; exact set16_in f m v w (by omega) hv
  · rw [put_out f k 2 v (by omega)]; exact set16_out f k v w h

set_option maxRecDepth 20000 in
set_option maxHeartbeats 400000 in
theorem set32_in (f : Nat → Int) (k : Nat) (v : Int) (w : World) (hk : (k : Int) ≤ 1020) (hv : 0 ≤ v ∧ v < 4294967296) :
    Calls Tryz.prog 47 #[.agg (blk f), .int .i64 k, .int .u32 v] w fun e w' => e = .returned (.agg (blk (putN f k v 4))) ∧ Below w.heap.size w w' := by
  have z25 := zero25
  have hb0 := fun g => blk_get g (k) (by omega)
  have hb1 := fun g => blk_get g (k + 1) (by omega)
  have hb2 := fun g => blk_get g (k + 2) (by omega)
  have hb3 := fun g => blk_get g (k + 3) (by omega)
  have hset := blk_set
  go_enter Tryz.func47, Tryz.ntmps47
  go_wp2_with (first | (go_at_call 68; refine (fits_yes _ _ _ (by omega) (by omega)).mono ?_; rintro e w' ⟨rfl, rfl⟩) | refine wpList_load25 rfl _ rfl _ rfl _ (heap_alloc2_old _ _ _) ?_ | refine wpList_store25 rfl _ _ rfl _ _ rfl rfl _ (heap_alloc2_new _ _ _) ?_)
  exact ret25 rfl (w.heap.size + 1) _ rfl (setRow_heap _ _ _ _ _ _ (heap_alloc2_new _ _ _)) rfl ⟨ret_blk (put4 f k v hv).symm, below2 _ _ _ _ (by omega) _⟩
set_option maxRecDepth 20000 in
set_option maxHeartbeats 400000 in
theorem set32_out (f : Nat → Int) (k : Int) (v : Int) (w : World) (hk : ¬ (0 ≤ k ∧ k ≤ 1024 - 4)) :
    Calls Tryz.prog 47 #[.agg (blk f), .int .i64 k, .int .u32 v] w fun e w' => e = .returned (.agg (blk f)) ∧ Below w.heap.size w w' := by
  have z25 := zero25
  have HK : Hid (¬ (0 ≤ k ∧ k ≤ 1024 - 4)) := hk
  clear hk
  go_enter Tryz.func47, Tryz.ntmps47
  go_wp2_with (first | (go_at_call 68; refine (fits_no _ _ _ (by omega) HK.out).mono ?_; rintro e w' ⟨rfl, rfl⟩) | refine wpList_load25 rfl _ rfl _ rfl _ (heap_alloc2_old _ _ _) ?_ | refine wpList_store25 rfl _ _ rfl _ _ rfl rfl _ (heap_alloc2_new _ _ _) ?_)
  exact ret25 rfl (w.heap.size + 1) _ rfl (setRow_heap _ _ _ _ _ _ (heap_alloc2_new _ _ _)) rfl ⟨rfl, below2 _ _ _ _ (by omega) _⟩
theorem set32_any (f : Nat → Int) (k : Int) (v : Int) (w : World) (hv : 0 ≤ v ∧ v < 4294967296) :
    Calls Tryz.prog 47 #[.agg (blk f), .int .i64 k, .int .u32 v] w fun e w' => e = .returned (.agg (blk (put f k 4 v))) ∧ Below w.heap.size w w' := by
  by_cases h : 0 ≤ k ∧ k ≤ 1024 - 4
  · obtain ⟨m, rfl⟩ := Int.eq_ofNat_of_zero_le h.1
    rw [put_in f m 4 v (by omega)]; exact set32_in f m v w (by omega) hv
  · rw [put_out f k 4 v (by omega)]; exact set32_out f k v w h
end Go.Proofs.YtiadlcjdpbkbkaaGreatN
/- An entry's sixteen bytes, by the program; whatever the entry. -/
namespace Go.Proofs.YtiadlcjdpbkbkaaGreat
open Go.RowKit Go.Maps
theorem blkN (f : Nat → Int) : YtiadlcjdpbkbkaaGreatN.blk f = blk f := rfl
theorem noughtN : YtiadlcjdpbkbkaaGreatN.nought = nought := rfl
theorem sizeBy : (Tryz.prog.info? 172).map (·.size) = some 16 := by kernel_rfl
theorem zeroBy : ∀ w, (zeroValue 172).run Tryz.prog w = .ok (.agg (rowN .u8 nought 16)) w := (zero_of_info (show (Tryz.prog.info? 172).map (fun i => (i.zero, i.size)) = some (some (.agg (rowN .u8 nought 16)), 16) by kernel_rfl)).1
theorem set_e (w : World) (i : Int) (hi : 0 ≤ i ∧ i < 65536) : Calls Tryz.prog 123 #[.agg (blk nought), .int .i64 0, .int .u16 i] w fun e w' => e = .returned (.agg (blk (encP i ⟨#[]⟩))) ∧ Below w.heap.size w w' := by
  have h := YtiadlcjdpbkbkaaGreatN.set16_any nought ((0 : Nat) : Int) i w hi
  rw [YtiadlcjdpbkbkaaGreatN.put_in nought 0 2 i (by omega), YtiadlcjdpbkbkaaGreatN.put2 _ _ _ hi, blkN, blkN] at h
  have e : blk (YtiadlcjdpbkbkaaGreatN.upd (YtiadlcjdpbkbkaaGreatN.upd nought 0 (i % 256)) (0 + 1) (i / 256)) = blk (encP i ⟨#[]⟩) := by
    refine rowN_congr fun j _ => ?_
    unfold YtiadlcjdpbkbkaaGreatN.upd encP nought
    rw [byt_none]
    by_cases h1 : j = 1
    · rw [if_pos (by omega), if_neg (by omega), if_pos h1]
    · rw [if_neg (by omega)]
      by_cases h0 : j = 0
      · rw [if_pos h0, if_pos h0]
      · rw [if_neg h0, if_neg h0, if_neg h1]
  rw [e] at h
  exact h
theorem lay_e (w : World) (i : Int) (s : ByteArray) (p : Value) (hp : YtiadlcjdpbkbkaaGreatN.Lies w p s.size (byt s)) : Calls Tryz.prog 89 #[.agg (blk (encP i ⟨#[]⟩)), .int .i64 2, p] w fun e w' => e = .returned (.agg (blk (encP i s))) ∧ Below w.heap.size w w' := by
  have h := YtiadlcjdpbkbkaaGreatN.lay_any (encP i ⟨#[]⟩) 2 p s.size (byt s) w (by omega) hp
  rw [blkN, blkN] at h
  have e : blk (YtiadlcjdpbkbkaaGreatN.layF (encP i ⟨#[]⟩) 2 s.size (byt s)) = blk (encP i s) := by
    refine rowN_congr fun j _ => ?_
    unfold YtiadlcjdpbkbkaaGreatN.layF encP
    by_cases h1 : (2 : Int) ≤ (j : Int) ∧ (j : Int) - 2 < (s.size : Int)
    · rw [if_pos h1, if_neg (by omega), if_neg (by omega), show ((j : Int) - 2).toNat = j - 2 by omega]
    · rw [if_neg h1, byt_none]
      by_cases h0 : j = 0
      · rw [if_pos h0, if_pos h0]
      rw [if_neg h0, if_neg h0]
      by_cases h2 : j = 1
      · rw [if_pos h2, if_pos h2]
      rw [if_neg h2, if_neg h2]
      unfold byt
      rw [dif_neg (by omega)]
  rw [e] at h
  exact h
theorem piece_e (w : World) (F : Nat → Int) : Calls Tryz.prog 126 #[.agg (blk F), .int .i64 0, .int .i64 16] w fun e w' => e = .returned (.slice (some ⟨w.heap.size + 1, 0, none⟩) 16 16) ∧
      w'.heap[w.heap.size + 1]? = some (.cells (rowN .u8 F 16) 5) ∧ Below w.heap.size w w' := by
  have hpc := YtiadlcjdpbkbkaaGreatN.piece_any F 0 16 w (by omega) (by omega)
  have e1 : YtiadlcjdpbkbkaaGreatN.insLo 0 16 = 0 := by decide
  have e2 : YtiadlcjdpbkbkaaGreatN.insHi 0 16 = 16 := by decide
  rw [e1, e2, blkN] at hpc
  refine hpc.mono ?_
  rintro e X ⟨rfl, hX, _, hb⟩
  refine ⟨rfl, hX.trans ?_, hb⟩
  show some (Obj.cells (rowN .u8 (YtiadlcjdpbkbkaaGreatN.from' F 0) 16) 5 (0, 0)) = _
  rw [rowN_congr (g := F) fun j _ => by unfold YtiadlcjdpbkbkaaGreatN.from'; rw [Nat.zero_add]]
/-- What a walk of Encode holds. -/
structure Ec (w W : World) (i : Int) (s : ByteArray) : Prop where
  ent : W.heap[w.heap.size]? = some (.cells #[.int .u16 i, .string s] 178)
  res : W.heap[w.heap.size + 1]? = some (.cells (rowN .u8 nought 16) 172)
  bel : Below w.heap.size w W
theorem Ec.start (w : World) (i : Int) (s : ByteArray) : Ec w ((w.alloc (.cells #[.int .u16 i, .string s] 178)).alloc (.cells (rowN .u8 nought 16) 172)) i s :=
  ⟨heap_kept (heap_alloc_new _ _) (below_new _ _), heap_two _ _ _, bel_al (below_new _ _) _⟩
theorem Ec.call {w W W' : World} {i : Int} {s : ByteArray} (h : Ec w W i s) (hb : Below W.heap.size W W') : Ec w W' i s := ⟨heap_kept h.ent hb, heap_kept h.res hb, below_next h.bel hb⟩
set_option maxRecDepth 20000 in
set_option maxHeartbeats 1000000 in
theorem check_any (w : World) (i : Int) (hi : 0 ≤ i ∧ i < 65536) (s : ByteArray) (hz : s.size ≤ 9223372036854775807) :
    Calls Tryz.prog 127 #[.agg #[.int .u16 i, .string s]] w fun e w' => e = .returned (.int .i64 (chV i s)) ∧ Below w.heap.size w w' := by
  have hn := name_any s (w.alloc (.cells #[.int .u16 i, .string s] 178)) hz
  have HB : Hid _ := below_new w (.cells #[.int .u16 i, .string s] 178)
  by_cases h0 : i = 0
  · subst h0
    by_cases h1 : s.size = 0
    · have e := nm_empty h1
      subst e
      clear h1 hn
      go_enter Tryz.func127, Tryz.ntmps127
      go_wp2
      go_ret
      exact ⟨rfl, HB.out⟩
    · have g1 := nm_list (s := s) (by omega)
      have HC : Hid (chV 0 s = 4) := by show chV 0 s = 4; unfold chV; rw [if_pos rfl, if_neg h1]
      clear hn
      go_enter Tryz.func127, Tryz.ntmps127
      go_wp2
      go_ret
      exact ⟨by rw [HC.out]; rfl, HB.out⟩
  · have g1 : (i == 0) = false := beq_eq_false_iff_ne.2 h0
    have HC : Hid (chV i s = nmV s) := by show chV i s = _; unfold chV; rw [if_neg h0]
    go_enter Tryz.func127, Tryz.ntmps127
    go_wp2_with (first | (go_at_call 138; fail))
    refine hn.mono ?_
    rintro e W ⟨rfl, rfl⟩
    go_wp2
    go_ret
    exact ⟨by rw [HC.out]; rfl, HB.out⟩
set_option maxRecDepth 20000 in
set_option maxHeartbeats 1000000 in
theorem enc_bad (w : World) (i : Int) (hi : 0 ≤ i ∧ i < 65536) (s : ByteArray) (hz : s.size ≤ 9223372036854775807) (hc : ¬ chV i s = 0) :
    Calls Tryz.prog 104 #[.agg #[.int .u16 i, .string s]] w fun e w' => e = .returned (.tuple #[.agg (rowN .u8 nought 16), .int .i64 (chV i s)]) ∧ Below w.heap.size w w' := by
  have z := zeroBy
  have HE := Ec.start w i s
  have c0 := Joins.cell_of_block HE.ent 0
  have c1 := Joins.cell_of_block HE.ent 1
  have HE' : Hid _ := HE
  clear HE
  have hck := check_any ((w.alloc (.cells #[.int .u16 i, .string s] 178)).alloc (.cells (rowN .u8 nought 16) 172)) i hi s hz
  have g1 : (chV i s == 0) = false := beq_eq_false_iff_ne.2 hc
  clear hc
  generalize chV i s = q at *
  go_enter Tryz.func104, Tryz.ntmps104
  go_wp2_with (first | (go_at_call 127; fail))
  refine hck.mono ?_
  rintro e W ⟨rfl, hb⟩
  have hT := HE'.out.call hb
  have hr := hT.res
  have HB : Hid _ := hT.bel
  clear hT HE' hck c0 c1 hb
  go_wp2_with (first | (with_reducible refine isStoreR 172 ?_; refine wpList_stR 172 rfl _ _ rfl (w.heap.size + 1) (rowN .u8 nought 16) (rowN .u8 nought 16) 172 (by rw [rowN_size]; exact sizeBy) rfl (rowN_one _ _ _) rfl rfl hr ?_))
  exact retCT Tryz.underlying172 rfl rfl (w.heap.size + 1) (rowN .u8 nought 16) 172 (by rw [rowN_size]; exact sizeBy) rfl (setRow_heap _ _ _ _ _ _ hr) rfl ⟨rfl, below_setRow HB.out (by omega) _⟩
end Go.Proofs.YtiadlcjdpbkbkaaGreat
/- An entry that may be is written, by the program. -/
namespace Go.Proofs.YtiadlcjdpbkbkaaGreat
open Go.RowKit Go.Maps
theorem below_bytes (w : World) (e : TypeId) (s : ByteArray) : Below w.heap.size w (Lib.bytesWorld w e s) :=
  ⟨rfl, rfl, rfl, by rw [Lib.bytesWorld_size]; omega, fun k hk => Lib.bytesWorld_at_old w e s k hk⟩
theorem byt_data (s : ByteArray) (j : Nat) (h : j < s.size) : (((s.data.toList.getD j 0).toNat : Nat) : Int) = byt s j := by
  have h2 : j < s.data.toList.length := by cases s; exact h
  unfold byt
  rw [dif_pos h, List.getD_eq_getElem?_getD, List.getElem?_eq_getElem h2]
  rfl
theorem lies_bytes (w : World) (s : ByteArray) (h : s.size ≤ 14) : YtiadlcjdpbkbkaaGreatN.Lies (Lib.bytesWorld w 5 s) (.slice (some ⟨w.heap.size, 0, none⟩) s.size (grownCap w s.size 0 5)) s.size (byt s) := by
  refine .inr ⟨w.heap.size, 0, _, rfl, by unfold maxLen; omega, grownCap_ge _ _ _ _, by rw [Lib.bytesWorld_size]; omega, fun i hi => ?_⟩
  rw [Nat.zero_add, Lib.bytesWorld_cell w 5 s i hi, ← byt_data s i hi]
set_option maxRecDepth 20000 in
set_option maxHeartbeats 2000000 in
theorem enc_ok (w : World) (i : Int) (hi : 0 ≤ i ∧ i < 65536) (s : ByteArray) (hz : s.size ≤ 14) (hc : chV i s = 0) :
    Calls Tryz.prog 104 #[.agg #[.int .u16 i, .string s]] w fun e w' => e = .returned (.tuple #[.agg (rowN .u8 (encP i s) 16), .int .i64 0]) ∧ Below w.heap.size w w' := by
  have z := zeroBy
  have zb := zero77
  have HE := Ec.start w i s
  have c0 := Joins.cell_of_block HE.ent 0
  have c1 := Joins.cell_of_block HE.ent 1
  have HE' : Hid _ := HE
  clear HE
  have hck := check_any ((w.alloc (.cells #[.int .u16 i, .string s] 178)).alloc (.cells (rowN .u8 nought 16) 172)) i hi s (by omega)
  rw [hc] at hck
  clear hc
  have HS : Hid _ := fun W => set_e W i hi
  have HL : Hid _ := fun W p hp => lay_e W i s p hp
  have HP : Hid _ := fun W => piece_e W (encP i s)
  go_enter Tryz.func104, Tryz.ntmps104
  go_wp2_with (first | (go_at_call 127; fail))
  refine hck.mono ?_
  rintro e W ⟨rfl, hb⟩
  have hT := HE'.out.call hb
  clear HE' hck c0 c1 hb
  have c0 := Joins.cell_of_block hT.ent 0
  have HT : Hid _ := hT
  clear hT
  go_wp2_with (first | (go_at_call 123; fail))
  refine (HS.out _).mono ?_
  rintro e W1 ⟨rfl, hb⟩
  have HT1 : Hid (Ec w (W1.alloc (.cells (blk (encP i ⟨#[]⟩)) 47)) i s) := (HT.out.call hb).call (below_new _ _)
  have hbk : (W1.alloc (.cells (blk (encP i ⟨#[]⟩)) 47)).heap[W1.heap.size]? = some (.cells (blk (encP i ⟨#[]⟩)) 47) := heap_alloc_new _ _
  have hW1 : w.heap.size ≤ W1.heap.size ∧ w.heap.size + 1 < W1.heap.size := by
    have h1 := (HT.out.call hb).res
    have := (Array.getElem?_eq_some_iff.1 h1).1
    omega
  clear HT HS c0 hb
  have c1 := Joins.cell_of_block HT1.out.ent 1
  have hcv := fun u : World => Lib.run_convert_string_bytes (P := Tryz.prog) u 9 135 5 s Tryz.underlying9 Tryz.underlying135 Tryz.underlying5
  go_wp2_with (first | (with_reducible refine isStoreR 47 ?_; refine wpList_stBn rfl _ _ rfl W1.heap.size (encP i ⟨#[]⟩) nought 47 rfl rfl rfl ?_) | (with_reducible refine isLoadR 47 ?_; refine wpList_ldB rfl _ rfl W1.heap.size 0 (encP i ⟨#[]⟩) rfl (blk_at hbk) ?_) | (go_at_call 89; fail))
  have hls : YtiadlcjdpbkbkaaGreatN.Lies (Lib.bytesWorld (W1.alloc (.cells (blk (encP i ⟨#[]⟩)) 47)) 5 s) (.slice (some ⟨W1.heap.size + 1, 0, none⟩) s.size (grownCap (W1.alloc (.cells (blk (encP i ⟨#[]⟩)) 47)) s.size 0 5)) s.size (byt s) := by
    have := lies_bytes (W1.alloc (.cells (blk (encP i ⟨#[]⟩)) 47)) s hz
    rwa [show (W1.alloc (.cells (blk (encP i ⟨#[]⟩)) 47)).heap.size = W1.heap.size + 1 by simp] at this
  refine (HL.out _ _ hls).mono ?_
  rintro e W2 ⟨rfl, hb⟩
  have hT2 := (HT1.out.call (below_bytes _ 5 s)).call hb
  have hbk2 := heap_kept (heap_kept hbk (below_bytes _ 5 s)) hb
  clear hls hbk HT1 HL hcv c1 hb
  generalize hF : encP i s = F at *
  have HF : Hid _ := hF
  clear hF
  have hbk3 := setRow_heap W2 W1.heap.size _ (blk F) 47 (0, 0) hbk2
  have HT3 : Hid (Ec w (W2.setRow W1.heap.size (blk F)) i s) := ⟨(setRow_other _ _ _ _ (by omega)).trans hT2.ent, (setRow_other _ _ _ _ (by omega)).trans hT2.res, below_setRow hT2.bel (by omega) _⟩
  clear hT2
  go_wp2_with (first | (with_reducible refine isStoreR 47 ?_; refine wpList_stB rfl _ _ rfl W1.heap.size F (encP i ⟨#[]⟩) 47 rfl rfl hbk2 ?_) | (with_reducible refine isLoadR 47 ?_; refine wpList_ldB rfl _ rfl W1.heap.size 0 F rfl (blk_at hbk3) ?_) | (go_at_call 126; fail))
  refine (HP.out _).mono ?_
  rintro e X ⟨rfl, hX, hb⟩
  have hT4 := HT3.out.call hb
  have hr := hT4.res
  have HB : Hid _ := hT4.bel
  clear HT3 hbk2 hbk3 HP hT4 hb
  have ha := fun u => run_arrayAt (P := Tryz.prog) u 172 _ 16 (some ⟨(W2.setRow W1.heap.size (blk F)).heap.size + 1, 0, none⟩) 16 16 Tryz.underlying172 (by omega)
  generalize (W2.setRow W1.heap.size (blk F)).heap.size + 1 = g at *
  go_wp2_with (first | (with_reducible refine isLoadR 172 ?_; refine wpList_ldR 172 Tryz.underlying172 rfl rfl _ rfl g rfl (rowN .u8 F 16) 5 (0, 0) (by rw [rowN_size]; exact sizeBy) hX ?_) | (with_reducible refine isStoreR 172 ?_; refine wpList_stR 172 rfl _ _ rfl (w.heap.size + 1) (rowN .u8 F 16) (rowN .u8 nought 16) 172 (by rw [rowN_size]; exact sizeBy) (by rw [rowN_size, rowN_size]) (rowN_one _ _ _) rfl rfl hr ?_))
  exact retCT Tryz.underlying172 rfl rfl (w.heap.size + 1) (rowN .u8 F 16) 172 (by rw [rowN_size]; exact sizeBy) rfl (setRow_heap _ _ _ _ _ _ hr) rfl ⟨by rw [HF.out]; rfl, below_setRow HB.out (by omega) _⟩
/-- Encode, whatever the entry. -/
theorem enc_any (w : World) (i : Int) (hi : 0 ≤ i ∧ i < 65536) (s : ByteArray) (hz : s.size ≤ 9223372036854775807) :
    Calls Tryz.prog 104 #[.agg #[.int .u16 i, .string s]] w fun e w' => e = .returned (.tuple #[.agg (rowN .u8 (encF i s) 16), .int .i64 (chV i s)]) ∧ Below w.heap.size w w' := by
  by_cases hc : chV i s = 0
  · rw [encF_ok hc, hc]
    refine enc_ok w i hi s ?_ hc
    rcases chV_ok hc with ⟨_, rfl⟩ | ⟨_, h⟩
    · exact Nat.zero_le _
    · exact (nmV_size h).2.1
  · rw [encF_bad hc]
    exact enc_bad w i hi s hz hc
end Go.Proofs.YtiadlcjdpbkbkaaGreat
/- Mkfs by the program: the root's inode; no condition but that its block's number fits in four bytes. -/
namespace Go.Proofs.YtiadlcjdpbkbkaaGreat
open Go.RowKit Go.Maps
/-- The root's twelve numbers. -/
def rtD (g : Int) : Nat → Int := updN nought 0 g
/-- The root's inode. -/
def rtN (g : Int) : Array Value := YtiadlcjdpbkbkaaGreatK.node16 2 2 32 1 (rtD g)
theorem zeroW10 : ∀ w, (zeroValue 154).run Tryz.prog w = .ok (.agg (rowN .u32 nought 10)) w := (zero_of_info (show (Tryz.prog.info? 154).map (fun i => (i.zero, i.size)) = some (some (.agg (rowN .u32 nought 10)), 10) by kernel_rfl)).1
theorem zeroNd : ∀ w, (zeroValue 156).run Tryz.prog w = .ok (.agg (YtiadlcjdpbkbkaaGreatK.node16 0 0 0 0 nought)) w := (zero_of_info (show (Tryz.prog.info? 156).map (fun i => (i.zero, i.size)) = some (some (.agg (YtiadlcjdpbkbkaaGreatK.node16 0 0 0 0 nought)), 16) by kernel_rfl)).1
theorem nd_size (g : Int) : (Tryz.prog.info? 156).map (·.size) = some (rtN g).size := by kernel_rfl
theorem buildW10 (g : Int) (u : World) : (Instr.build 154 #[(0, .int .u32 g)]).run Tryz.prog u = .ok (.agg (rowN .u32 (rtD g) 10)) u := by
  have z := zeroW10 u
  have e : rowN .u32 (rtD g) 10 = (rowN .u32 nought 10).setIfInBounds 0 (.int .u32 g) := (rowN_set _ _ _ _ _).symm
  rw [e]
  have hR : (rowN .u32 nought 10).size = 10 := rowN_size _ _ _
  generalize rowN .u32 nought 10 = R at *
  have hne : ¬ R = #[] := fun q => by rw [q] at hR; simp at hR
  simp [go_sem, z, hne]
theorem buildNd (g : Int) (u : World) : (Instr.build 156 #[(0, .int .u16 2), (1, .int .u16 2), (2, .int .u32 32), (3, .int .u32 1), (4, .agg (rowN .u32 (rtD g) 10))]).run Tryz.prog u = .ok (.agg (rtN g)) u := by
  have z := zeroNd u
  have e : rowN .u32 (rtD g) 10 = #[.int .u32 g, .int .u32 0, .int .u32 0, .int .u32 0, .int .u32 0, .int .u32 0, .int .u32 0, .int .u32 0, .int .u32 0, .int .u32 0] := rfl
  have e2 : rtN g = #[.int .u16 2, .int .u16 2, .int .u32 32, .int .u32 1, .int .u32 g, .int .u32 0, .int .u32 0, .int .u32 0, .int .u32 0, .int .u32 0, .int .u32 0, .int .u32 0, .int .u32 0, .int .u32 0, .int .u32 0, .int .u32 0] := rfl
  rw [e, e2]
  unfold YtiadlcjdpbkbkaaGreatK.node16 nought at z
  simp [go_sem, z]
/-- The root's inode, cell by cell. -/
def rtL (g : Int) : Array Value := #[.int .u16 2, .int .u16 2, .int .u32 32, .int .u32 1, .int .u32 g, .int .u32 0, .int .u32 0, .int .u32 0, .int .u32 0, .int .u32 0, .int .u32 0, .int .u32 0, .int .u32 0, .int .u32 0, .int .u32 0, .int .u32 0]
theorem rtL_eq (g : Int) : rtL g = rtN g := rfl
theorem rtL_size (g : Int) : (Tryz.prog.info? 156).map (·.size) = some (rtL g).size := nd_size g
set_option maxRecDepth 20000 in
set_option maxHeartbeats 1000000 in
theorem root_ok (b l i a c d e f g : Int) (w : World) (hg : 0 ≤ g ∧ g < 4294967296) :
    Calls Tryz.prog 103 #[.agg (YtiadlcjdpbkbkaaGreatP.lay9 b l i a c d e f g)] w fun e' w' => e' = .returned (.agg (rtN g)) ∧ Below w.heap.size w w' := by
  have z := zeroNd
  have hw : IntKind.u32.wrap g = g := by rw [YtiadlcjdpbkbkaaGreatK.wrap_u32]; omega
  have h0 : Hid ((Tryz.prog.info? 156).map (·.size) = some (rtL g).size) := rtL_size g
  rw [← rtL_eq]
  unfold YtiadlcjdpbkbkaaGreatP.lay9
  unfold YtiadlcjdpbkbkaaGreatK.node16 nought at z
  unfold rtL at *
  go_enter Tryz.func103, Tryz.ntmps103
  go_wp2_with (first | (with_reducible refine isStoreR 156 ?_; refine wpList_stNew 156 rfl _ _ rfl (w.heap.size + 1) _ _ 156 h0.out rfl rfl rfl rfl rfl ?_))
  exact retR Tryz.underlying156 rfl rfl (w.heap.size + 1) _ 156 h0.out rfl (heap_two _ _ _) rfl ⟨rfl, below_next (below_new _ _) (below_new _ _)⟩
end Go.Proofs.YtiadlcjdpbkbkaaGreat
/- Rows of bytes stored into the middle of rows of bytes, and copied piece by piece; no condition but that they fit. -/
namespace Go.Proofs.YtiadlcjdpbkbkaaGreat
open Go.RowKit Go.Maps
theorem rowN_len (f : Nat → Int) (n : Nat) : (rowN .u8 f n).toList.length = n := by rw [Array.length_toList, rowN_size]
theorem over_row (F E : Nat → Int) (off n m : Nat) (h : off + n ≤ m) : ((rowN .u8 F m).toList.take off ++ (rowN .u8 E n).toList ++ (rowN .u8 F m).toList.drop (off + n)).toArray = rowN .u8 (YtiadlcjdpbkbkaaGreatN.over F off n E) m := by
  refine rowN_ext ?_ fun i hi => ?_
  · simp [rowN_size]; omega
  · simp only [List.getElem?_toArray]
    by_cases h1 : i < off
    · rw [List.getElem?_append_left (by simp [rowN_size]; omega), List.getElem?_append_left (by simp [rowN_size]; omega), List.getElem?_take_of_lt h1]
      simp only [Array.getElem?_toList, rowN_get _ F m i hi, YtiadlcjdpbkbkaaGreatN.over]
      rw [if_neg (by omega)]
    · have e0 : (List.take off (rowN .u8 F m).toList).length = off := by simp [rowN_size]; omega
      by_cases h2 : i < off + n
      · rw [List.getElem?_append_left (by simp [rowN_size]; omega), List.getElem?_append_right (by rw [e0]; omega), e0]
        simp only [Array.getElem?_toList, rowN_get _ E n (i - off) (by omega), YtiadlcjdpbkbkaaGreatN.over]
        rw [if_pos (by omega)]
      · rw [List.getElem?_append_right (by rw [List.length_append, e0, rowN_len]; omega), List.length_append, e0, rowN_len, List.getElem?_drop, show off + n + (i - (off + n)) = i by omega]
        simp only [Array.getElem?_toList, rowN_get _ F m i hi, YtiadlcjdpbkbkaaGreatN.over]
        rw [if_neg (by omega)]
section
variable {ops : Array Oper} {rest : List Oper} {o : Oper} {a : Act} {w : World} {Q : Exit → Act → World → Prop}
/-- A row of bytes is stored into the middle of a row of bytes. -/
theorem wpList_stMid (ty : TypeId) (hgd : o.guard = none) (x y : Operand) (ho : o.op = .store ty x y) (g off n m : Nat) (F E : Nat → Int) (t : TypeId) (hi : (Tryz.prog.info? ty).map (·.size) = some n)
    (hx : a.eval x = .pointer (some ⟨g, off, none⟩)) (hy : a.eval y = .agg (rowN .u8 E n)) (hg : w.heap[g]? = some (.cells (rowN .u8 F m) t)) (hfit : off + n ≤ m)
    (h : wpList Tryz.prog ops Q rest (a.put o.dst undef) (w.setRow g (rowN .u8 (YtiadlcjdpbkbkaaGreatN.over F off n E) m))) : wpList Tryz.prog ops Q (o :: rest) a w :=
  wpList_plain hgd fun _ hK => by
    have hl := rowN_len E n
    have hst := run_storeCells_at Tryz.prog g off t (rowN .u8 E n).toList 0 (rowN .u8 F m) w hg (by rw [hl, Nat.add_zero, rowN_size]; exact hfit) (fun v hv => by
      have := rowN_one .u8 E n
      rw [Array.all_eq_true_iff_forall_mem] at this
      exact this v (by simpa using hv))
    rw [Nat.add_zero, hl, over_row F E off n m hfit] at hst
    have hr : (Instr.storeAt ty (.pointer (some ⟨g, off, none⟩)) (.agg (rowN .u8 E n))).run Tryz.prog w = .ok () (w.setRow g (rowN .u8 (YtiadlcjdpbkbkaaGreatN.over F off n E) m)) := by
      obtain ⟨i0, hi0⟩ := Option.isSome_iff_exists.1 (show (Tryz.prog.info? ty).isSome = true by cases hq : Tryz.prog.info? ty with | none => rw [hq] at hi; simp at hi | some _ => rfl)
      have hz : i0.size = n := by rw [hi0] at hi; simpa using hi
      have hs := rowN_size .u8 E n
      generalize rowN .u8 E n = R at *
      simp [Instr.storeAt, Instr.sureAddr, storeVar, sizeOf, typeInfo, hi0, Value.cells, hs, hz, hst]
    unfold Oper.wp execOp
    simp only [ho, hx, hy, Sem.run_bind, hr, Result.andThen_ok, Sem.run_pure]
    exact hK _ _ h
end
section
variable {o : Oper} {a : Act} {W : World}
theorem exec_copyB {d s : Operand} (ho : o.op = .call { callee := .builtin .copy, args := #[d, s], argTypes := #[135, 135] }) (g off dLen dCap gs so sLen sCap : Nat)
    (hd : a.eval d = .slice (some ⟨g, off, none⟩) dLen dCap) (hs : a.eval s = .slice (some ⟨gs, so, none⟩) sLen sCap)
    (F : Nat → Int) (m : Nat) (t : TypeId) (hF : W.heap[g]? = some (.cells (rowN .u8 F m) t)) (G : Nat → Int) (n : Nat) (hn : n = Nat.min sLen dLen)
    (hsrc : ∀ j, j < n → W.cell? ⟨gs, so + j, none⟩ = some (.int .u8 (G j))) (hfit : off + n ≤ m) : (execOp a.eval o).run Tryz.prog W = .ok (.value (goInt n)) (W.setRow g (rowN .u8 (YtiadlcjdpbkbkaaGreatN.over F off n G) m)) := by
  have hrun : (Builtin.copy_ #[135, 135] o.type #[.slice (some ⟨g, off, none⟩) dLen dCap, .slice (some ⟨gs, so, none⟩) sLen sCap]).run Tryz.prog W = .ok (goInt n) (W.setRow g (rowN .u8 (YtiadlcjdpbkbkaaGreatN.over F off n G) m)) :=
    YtiadlcjdpbkbkaaGreatN.run_copy5 W o.type g off dLen dCap gs so sLen sCap F m t hF G n hn hsrc hfit
  simp [execOp, ho, resolve, invoke, builtin, hd, hs, hrun, Result.andThen]
theorem sliceB (g off lo : Nat) (h : lo < 1024) (u : World) :
    (Instr.sliceAt 47 (.pointer (some ⟨g, off, none⟩)) (some (.int .i64 (lo : Int))) none none).run Tryz.prog u = .ok (.slice (some ⟨g, off + lo, none⟩) (1024 - lo) (1024 - lo)) u := by
  have hn : ¬ ((1024 : Nat) = lo) := by omega
  have ea : Tryz.prog.arrayLen 47 = 1024 := by kernel_rfl
  have ee : Tryz.prog.elem 47 = 5 := by kernel_rfl
  have h := run_sliceAt_array_l (P := Tryz.prog) u 47 ⟨g, off, none⟩ (by rw [ea, ee]; exact Tryz.underlying47) .i64 (lo : Int) (by omega) (by rw [ea]; omega)
  rw [h, ea, ee]
  simp [Tryz.sizeOf5, slicedAt, hn, Addr.add]
theorem exec_slB {x y : Operand} {g off lo : Nat} (ho : o.op = .slice 47 x (some y) none none) (hx : a.eval x = .pointer (some ⟨g, off, none⟩)) (hy : a.eval y = .int .i64 (lo : Int)) (h : lo < 1024) : (execOp a.eval o).run Tryz.prog W = .ok (.value (.slice (some ⟨g, off + lo, none⟩) (1024 - lo) (1024 - lo))) W := by
  have e := sliceB g off lo h W
  simp [execOp, ho, hx, hy, e]
theorem sliceY (g off : Nat) (u : World) : (Instr.sliceAt 167 (.pointer (some ⟨g, off, none⟩)) none none none).run Tryz.prog u = .ok (.slice (some ⟨g, off, none⟩) 64 64) u := by
  have ea : Tryz.prog.arrayLen 167 = 64 := by kernel_rfl
  have ee : Tryz.prog.elem 167 = 5 := by kernel_rfl
  have h := run_sliceAt_array_all (P := Tryz.prog) u 167 ⟨g, off, none⟩ (by rw [ea, ee]; exact Tryz.underlying167)
  rw [h, ea, ee]
  simp [Tryz.sizeOf5, slicedAt, Addr.add]
theorem exec_slY {x : Operand} {g off : Nat} (ho : o.op = .slice 167 x none none none) (hx : a.eval x = .pointer (some ⟨g, off, none⟩)) : (execOp a.eval o).run Tryz.prog W = .ok (.value (.slice (some ⟨g, off, none⟩) 64 64)) W := by
  have e := sliceY g off W
  simp [execOp, ho, hx, e]
theorem sliceE (g off : Nat) (u : World) : (Instr.sliceAt 172 (.pointer (some ⟨g, off, none⟩)) none none none).run Tryz.prog u = .ok (.slice (some ⟨g, off, none⟩) 16 16) u := by
  have ea : Tryz.prog.arrayLen 172 = 16 := by kernel_rfl
  have ee : Tryz.prog.elem 172 = 5 := by kernel_rfl
  have h := run_sliceAt_array_all (P := Tryz.prog) u 172 ⟨g, off, none⟩ (by rw [ea, ee]; exact Tryz.underlying172)
  rw [h, ea, ee]
  simp [Tryz.sizeOf5, slicedAt, Addr.add]
theorem exec_slE {x : Operand} {g off : Nat} (ho : o.op = .slice 172 x none none none) (hx : a.eval x = .pointer (some ⟨g, off, none⟩)) : (execOp a.eval o).run Tryz.prog W = .ok (.value (.slice (some ⟨g, off, none⟩) 16 16)) W := by
  have e := sliceE g off W
  simp [execOp, ho, hx, e]
theorem wpOrd_actM {ops : Array Oper} {Q : Exit → Act → World → Prop} {S : World → Prop} {r : List (Bool × Oper)} {W' : World} {v : Value} (hw : Region.wanted o (yielded ops a.tmps) = true) (hr : (execOp a.eval o).run Tryz.prog W = .ok (.value v) W') (hS : S W') (h : wpOrd Tryz.prog ops Q S r (a.put o.dst v) W') : wpOrd Tryz.prog ops Q S ((false, o) :: r) a W := by
  simp only [wpOrd, hw, if_true]
  unfold Oper.wp
  rw [hr]
  exact ⟨hS, h⟩
theorem wpOrd_doM {ops : Array Oper} {Q : Exit → Act → World → Prop} {S : World → Prop} {r : List (Bool × Oper)} {W' : World} (hw : Region.wanted o (yielded ops a.tmps) = true) (hr : (execOp a.eval o).run Tryz.prog W = .ok .skip W') (hS : S W') (h : wpOrd Tryz.prog ops Q S r (a.put o.dst undef) W') : wpOrd Tryz.prog ops Q S ((false, o) :: r) a W := by
  simp only [wpOrd, hw, if_true]
  unfold Oper.wp
  rw [hr]
  exact ⟨hS, h⟩
end
/-- The first k bytes of a row, noughts behind them. -/
def uptoF (F : Nat → Int) (k : Nat) : Nat → Int := fun j => if j < k then F j else 0
theorem upto_zero (F : Nat → Int) : uptoF F 0 = nought := by funext j; unfold uptoF; rw [if_neg (by omega)]; rfl
theorem upto_over (F : Nat → Int) (k n : Nat) : YtiadlcjdpbkbkaaGreatN.over (uptoF F k) k n (fun j => F (k + j)) = uptoF F (k + n) := by
  funext j
  unfold YtiadlcjdpbkbkaaGreatN.over uptoF
  by_cases h : k ≤ j ∧ j < k + n
  · rw [if_pos h, if_pos (by omega)]
    show F (k + (j - k)) = F j
    rw [show k + (j - k) = j by omega]
  · rw [if_neg h]
    by_cases h2 : j < k
    · rw [if_pos h2, if_pos (by omega)]
    · rw [if_neg h2, if_neg (by omega)]
theorem upto_row (F : Nat → Int) (n : Nat) : rowN .u8 (uptoF F n) n = rowN .u8 F n := rowN_congr fun i hi => by unfold uptoF; rw [if_pos hi]
end Go.Proofs.YtiadlcjdpbkbkaaGreat
