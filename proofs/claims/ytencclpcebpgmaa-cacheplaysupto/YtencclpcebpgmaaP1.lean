/- Several texts joined, each with its own remark; no condition. -/
import Derived.WalkKit
import Derived.WalkSpells
import Derived.WalkLawsBesides
import Derived.Deep.WholeRow
import Derived.Laws.StructEq
import Derived.Test.YtencclpcebpgmaaRows
import Derived.BigQuiet
import Derived.Maps.RangeWalk
import Derived.Lib.SmallJoins
import Derived.Deep.MidRow
import Derived.LaidEqlPtr
import Derived.StillTailTactics
import Derived.OrdersHeld
/- What a block of 1024 bytes is as cells: a plain function from places to numbers, laid as cells; no condition. -/
namespace Go.Proofs.Ytencclpcebpgmaa
open Go.RowKit

/-- The cells of a block whose byte at place i is f i. -/
def blk (f : Nat → Int) : Array Value := ((List.range 1024).map fun i => Value.int .u8 (f i)).toArray
/-- f, but for x at place i. -/
def upd (f : Nat → Int) (i : Nat) (x : Int) : Nat → Int := fun j => if j = i then x else f j
def nought : Nat → Int := fun _ => 0

theorem blk_size (f : Nat → Int) : (blk f).size = 1024 := by simp [blk]
theorem blk_get (f : Nat → Int) (i : Nat) (h : i < 1024) : (blk f)[i]? = some (.int .u8 (f i)) := by
  simp [blk, h]
theorem blk_set (f : Nat → Int) (i : Nat) (x : Int) : (blk f).setIfInBounds i (.int .u8 x) = blk (upd f i x) := by
  apply Array.ext_getElem?
  intro j
  by_cases hj : j < 1024
  · rw [blk_get _ _ hj, Array.getElem?_setIfInBounds]
    by_cases e : i = j
    · subst e; simp [blk_size, hj, upd]
    · have e' : ¬ j = i := fun q => e q.symm
      simp [e, e', blk_get _ _ hj, upd]
  · rw [Array.getElem?_eq_none (by rw [Array.size_setIfInBounds, blk_size]; omega), Array.getElem?_eq_none (by rw [blk_size]; omega)]
theorem blk_congr {f g : Nat → Int} (h : ∀ i, i < 1024 → f i = g i) : blk f = blk g := by
  apply Array.ext_getElem?
  intro j
  by_cases hj : j < 1024
  · rw [blk_get _ _ hj, blk_get _ _ hj, h j hj]
  · rw [Array.getElem?_eq_none (by rw [blk_size]; omega), Array.getElem?_eq_none (by rw [blk_size]; omega)]
theorem blk_one (f : Nat → Int) : (blk f).all (·.oneCell') = true := by
  rw [Array.all_eq_true_iff_forall_mem]
  intro v hv
  simp [blk] at hv
  obtain ⟨i, _, rfl⟩ := hv
  rfl
end Go.Proofs.Ytencclpcebpgmaa
/- The block type of this program over its translation: loads, stores and results of whole blocks; fits; no condition. -/
namespace Go.Proofs.Ytencclpcebpgmaa
open Go.RowKit

theorem info25 : (Try.prog.info? 59).map (fun i => (i.zero, i.size)) = some (some (.agg (blk nought)), 1024) := by kernel_rfl
theorem zero25 : ∀ w, (zeroValue 59).run Try.prog w = .ok (.agg (blk nought)) w := (zero_of_info info25).1
theorem size25 : (Try.prog.info? 59).map (·.size) = some 1024 := (zero_of_info info25).2

def firsts (f : Nat → Int) (k : Nat) : Nat → Int := fun i => if i < k then f i else 0
theorem firsts_next (f : Nat → Int) (k : Nat) : upd (firsts f k) k (f k) = firsts f (k + 1) := by
  funext j
  unfold upd firsts
  by_cases h : j = k
  · subst h; simp
  · by_cases h2 : j < k
    · simp [h, h2, show j < k + 1 by omega]
    · simp [h, h2, show ¬ j < k + 1 by omega]

theorem wpList_load25 {ops : Array Oper} {rest : List Oper} {o : Oper} {a : Act} {w : World} {Q : Exit → Act → World → Prop} (hgd : o.guard = none) (x : Operand) (ho : o.op = .load 59 x)
    (g : Nat) (hx : a.eval x = .pointer (some ⟨g, 0, none⟩)) (f : Nat → Int) (hg : w.heap[g]? = some (.cells (blk f) 59))
    (h : wpList Try.prog ops Q rest (a.put o.dst (.agg (blk f))) w) : wpList Try.prog ops Q (o :: rest) a w :=
  wpList_load_row hgd 59 x ho g hx 59 (blk f) (0, 0) _ hg Try.underlying59 rfl (by rw [blk_size]; exact size25) h
theorem wpList_store25 {ops : Array Oper} {rest : List Oper} {o : Oper} {a : Act} {w : World} {Q : Exit → Act → World → Prop} (hgd : o.guard = none) (x y : Operand) (ho : o.op = .store 59 x y)
    (g : Nat) (f : Nat → Int) (hx : a.eval x = .pointer (some ⟨g, 0, none⟩)) (hy : a.eval y = .agg (blk f)) (f0 : Nat → Int) (hg : w.heap[g]? = some (.cells (blk f0) 59))
    (h : wpList Try.prog ops Q rest (a.put o.dst undef) (w.setRow g (blk f))) : wpList Try.prog ops Q (o :: rest) a w :=
  wpList_plain hgd fun _ hK => by
    unfold Oper.wp execOp
    simp only [ho, hx, hy, Instr.storeAt, Instr.sureAddr, Sem.run_bind, Sem.run_pure, Result.andThen_ok, run_storeVar_row w g 59 59 (blk f0) (blk f) hg (by rw [blk_size]; exact size25) (by rw [blk_size, blk_size]) (blk_one f)]
    exact hK _ _ h

/-- A result that is a whole block in a cell. -/
theorem ret25 {fn : Func} {p : Tmp} {R : Ending → World → Prop} {a : Act} {w : World} (h : fn.results = #[.cell p 59]) (g : Nat) (f : Nat → Int)
    (hp : a.tmps.getD p undef = .pointer (some ⟨g, 0, none⟩)) (hg : w.heap[g]? = some (.cells (blk f) 59)) (hd : a.defers = []) (hR : R (.returned (.agg (blk f))) w) : bodyPost Try.prog fn R .ret a w :=
  bodyPost_ret (results_cell_row h a.tmps w g 59 (blk f) (0, 0) _ hp hg Try.underlying59 rfl (by rw [blk_size]; exact size25)) hd hR
theorem below_setRow {B : Nat} {a w : World} (h : Below B a w) {g : Nat} (hg : B ≤ g) (cs : Array Value) : Below B a (w.setRow g cs) :=
  h.trans ⟨rfl, rfl, rfl, by simp, fun k hk => setRow_other w g k cs (by omega)⟩
theorem below2 (w : World) (a b : Obj) (g : Nat) (hg : w.heap.size ≤ g) (cs : Array Value) : Below w.heap.size w (((w.alloc a).alloc b).setRow g cs) :=
  below_setRow (((Below.refl _ _).alloc (Nat.le_refl _) _).alloc (by simp) _) hg _
end Go.Proofs.Ytencclpcebpgmaa
/- Two blocks held against each other: equal just where every byte is; for every two blocks. -/
namespace Go.Proofs.Ytencclpcebpgmaa
open Go.RowKit

def sameB (f g : Nat → Int) : Bool := (List.range 1024).all fun i => f i == g i
theorem sameB_iff (f g : Nat → Int) : sameB f g = true ↔ ∀ i, i < 1024 → f i = g i := by
  simp [sameB, List.all_eq_true, List.mem_range]
theorem sameB_self (f : Nat → Int) : sameB f f = true := (sameB_iff f f).2 fun _ _ => rfl

theorem part5 (f : Nat → Int) (i : Nat) (hi : i < 1024) (w : World) : (part 5 (blk f) (i * 1)).run Try.prog w = .ok (.int .u8 (f i)) w := by
  have hb := blk_get f i hi
  simp [part, Try.isAgg5, hb]
theorem each25 (d : Nat) (f g : Nat → Int) (w : World) : ∀ l : List Nat, (∀ i, i ∈ l → i < 1024) →
    (forIn (m := Sem) l ((none : Option Bool), ()) fun i _ => do
            let x ← part 5 (blk f) (i * 1)
            let y ← part 5 (blk g) (i * 1)
            let b ← Op.equalIn (d + 1) 5 x y
            if (!b) = true then pure (ForInStep.done (some false, ())) else pure (ForInStep.yield (none, ()))).run Try.prog w
      = .ok ((if l.all (fun i => f i == g i) then none else some false), ()) w
  | [], _ => by simp
  | i :: l, h => by
    have h1 := part5 f i (h i (by simp)) w
    have h2 := part5 g i (h i (by simp)) w
    have ih := each25 d f g w l fun j hj => h j (by simp [hj])
    have he := run_equalIn_int (P := Try.prog) w d 5 .u8 .u8 (f i) (g i) Try.underlying5
    simp only [List.forIn_cons, Sem.run_bind, h1, h2, he, Result.andThen_ok, List.all_cons]
    by_cases e : f i = g i
    · simp only [e, beq_self_eq_true, Bool.not_true, Bool.false_eq_true, if_false, Sem.run_pure, Result.andThen_ok, Bool.true_and]
      exact ih
    · have e' : (f i == g i) = false := by simp [e]
      simp [e']
theorem eq25 (f g : Nat → Int) (w : World) : (Op.equalIn 10000 59 (.agg (blk f)) (.agg (blk g))).run Try.prog w = .ok (sameB f g) w := by
  have key := each25 9998 f g w (List.range' 0 [:1024].size) (fun i hi => by simpa [Std.Legacy.Range.size] using hi)
  show (Op.equalIn (9998 + 1 + 1) 59 (.agg (blk f)) (.agg (blk g))).run Try.prog w = _
  rw [Op.equalIn]
  simp only [Sem.run_bind, run_underlying Try.underlying59, Result.andThen_ok]
  rw [show (sizeOf 5).run Try.prog w = .ok 1 w by simp [go_sem]]
  simp only [Result.andThen_ok, Std.Legacy.Range.forIn_eq_forIn_range']
  refine (congrArg (fun r => Result.andThen r _) key).trans ?_
  have hr : List.range' 0 [:1024].size = List.range 1024 := by simp [Std.Legacy.Range.size, List.range_eq_range']
  rw [hr]
  show Result.andThen (Result.ok ((if sameB f g = true then none else some false), ()) w) _ = _
  cases sameB f g <;> simp
end Go.Proofs.Ytencclpcebpgmaa
/- Rising lists of blocks by their numbers, as plain lists: what stands at a number, a block laid into a list; no condition but that the list rises. (Made ahead for stage 4.) -/
namespace Go.Proofs.Ytencclpcebpgmaa

/-- A block's bytes behind a number. -/
abbrev Cel := Int × (Nat → Int)
/-- A block of bytes of which nothing but noughts stands behind byte 1023. -/
def Can (f : Nat → Int) : Prop := (∀ i, 0 ≤ f i ∧ f i ≤ 255) ∧ ∀ i, 1024 ≤ i → f i = 0
theorem can_nought : Can nought := ⟨fun _ => by unfold nought; omega, fun _ _ => rfl⟩
theorem Can.ext {f g : Nat → Int} (hf : Can f) (hg : Can g) (h : ∀ i, i < 1024 → f i = g i) : f = g := by
  funext i
  by_cases hi : i < 1024
  · exact h i hi
  · rw [hf.2 i (by omega), hg.2 i (by omega)]
theorem Can.same {f g : Nat → Int} (hf : Can f) (hg : Can g) : sameB f g = true ↔ f = g :=
  ⟨fun h => hf.ext hg ((sameB_iff f g).1 h), fun h => by subst h; exact sameB_self f⟩
/-- Is a block blank? -/
def blankB (f : Nat → Int) : Bool := sameB f nought
theorem Can.blank {f : Nat → Int} (hf : Can f) : blankB f = true ↔ f = nought := hf.same can_nought

/-- What stands at a number; noughts, if nothing does. -/
def atL : List Cel → Int → Nat → Int
  | [], _ => nought
  | (i, x) :: t, k => if i = k then x else atL t k
/-- All numbers are greater than m, and they rise. -/
def Rise : Int → List Cel → Prop
  | _, [] => True
  | m, (i, _) :: t => m < i ∧ Rise i t
/-- All blocks are blocks, none of them blank. -/
def Sound (l : List Cel) : Prop := ∀ c ∈ l, Can c.2 ∧ c.2 ≠ nought
/-- A block laid into a list: the numbers from k on are met; done: nothing is to be laid any more. -/
def laidGo (k : Int) (b : Nat → Int) : Bool → List Cel → List Cel
  | done, [] => if done then [] else [(k, b)]
  | done, (i, x) :: t => (if !done && decide (k ≤ i) then [(k, b)] else []) ++ ((if i = k then [] else [(i, x)]) ++ laidGo k b (done || decide (k ≤ i)) t)
def laidL (l : List Cel) (k : Int) (b : Nat → Int) : List Cel := laidGo k b (blankB b) l

theorem Rise.mono {m m' : Int} (h : m' ≤ m) : ∀ {l : List Cel}, Rise m l → Rise m' l
  | [], _ => trivial
  | (_, _) :: _, hl => ⟨by have := hl.1; omega, hl.2⟩
theorem at_above {m : Int} : ∀ {l : List Cel}, Rise m l → ∀ k, k ≤ m → atL l k = nought
  | [], _, _, _ => rfl
  | (i, x) :: t, hl, k, hk => by
    have h1 := hl.1
    unfold atL
    rw [if_neg (by omega)]
    exact at_above hl.2 k (by omega)
theorem at_can {l : List Cel} (hl : Sound l) (k : Int) : Can (atL l k) := by
  induction l with
  | nil => exact can_nought
  | cons c t ih =>
    obtain ⟨i, x⟩ := c
    unfold atL
    split
    · exact (hl (i, x) (by simp)).1
    · exact ih fun c hc => hl c (by simp [hc])
/-- Two rising lists with the same blocks at all numbers are one. -/
theorem rise_ext : ∀ {m m' : Int} {l l' : List Cel}, Rise m l → Rise m' l' → Sound l → Sound l' → (∀ k, atL l k = atL l' k) → l = l'
  | _, _, [], [], _, _, _, _, _ => rfl
  | _, _, [], (i, x) :: t, _, _, _, s', h => by
    have := h i
    simp only [atL, if_pos] at this
    exact absurd this.symm (s' (i, x) (by simp)).2
  | _, _, (i, x) :: t, [], _, _, s, _, h => by
    have := h i
    simp only [atL, if_pos] at this
    exact absurd this (s (i, x) (by simp)).2
  | _, _, (i, x) :: t, (j, y) :: t', r, r', s, s', h => by
    have hij : i = j := by
      by_cases h1 : i < j
      · have := h i
        rw [show atL ((j, y) :: t') i = nought from at_above (show Rise i ((j, y) :: t') from ⟨h1, r'.2⟩) i (Int.le_refl _)] at this
        simp only [atL, if_pos] at this
        exact absurd this (s (i, x) (by simp)).2
      · by_cases h2 : j < i
        · have := h j
          rw [show atL ((i, x) :: t) j = nought from at_above (show Rise j ((i, x) :: t) from ⟨h2, r.2⟩) j (Int.le_refl _)] at this
          simp only [atL, if_pos] at this
          exact absurd this.symm (s' (j, y) (by simp)).2
        · omega
    subst hij
    have hxy : x = y := by
      have := h i
      simpa only [atL, if_pos] using this
    subst hxy
    have ht : t = t' := by
      refine rise_ext r.2 r'.2 (fun c hc => s c (by simp [hc])) (fun c hc => s' c (by simp [hc])) fun k => ?_
      by_cases hk : i = k
      · subst hk
        rw [at_above r.2 i (Int.le_refl _), at_above r'.2 i (Int.le_refl _)]
      · have := h k
        simpa only [atL, if_neg hk] using this
    rw [ht]

theorem laid_done (k : Int) (b : Nat → Int) : ∀ {m : Int} {l : List Cel}, k ≤ m → Rise m l → laidGo k b true l = l
  | _, [], _, _ => rfl
  | m, (i, x) :: t, hk, hl => by
    have h1 := hl.1
    unfold laidGo
    simp only [Bool.not_true, Bool.false_and, Bool.false_eq_true, if_false, List.nil_append, Bool.true_or]
    rw [if_neg (by omega), laid_done k b (m := i) (by omega) hl.2]
    rfl
/-- What a list is behind the laying: it rises, it is sound, and at k stands b; all else stays. -/
theorem laid_spec (k : Int) (b : Nat → Int) (hb : Can b) : ∀ {m : Int} {l : List Cel}, m < k → Rise m l → Sound l →
    Rise m (laidL l k b) ∧ Sound (laidL l k b) ∧ ∀ j, atL (laidL l k b) j = if j = k then b else atL l j := by
  unfold laidL
  cases hbl : blankB b
  · have hne : b ≠ nought := fun h => by rw [hb.blank.2 h] at hbl; cases hbl
    intro m l
    induction l generalizing m with
    | nil =>
      intro hk _ _
      refine ⟨⟨hk, trivial⟩, fun c hc => ?_, fun j => ?_⟩
      · have : c = (k, b) := by simpa [laidGo] using hc
        subst this
        exact ⟨hb, hne⟩
      · simp only [laidGo, Bool.false_eq_true, if_false, atL]
        by_cases hj : j = k
        · rw [if_pos hj.symm, if_pos hj]
        · rw [if_neg (fun h => hj h.symm), if_neg hj]
    | cons c t ih =>
      obtain ⟨i, x⟩ := c
      intro hk hl hs
      have h1 := hl.1
      have hst : Sound t := fun c hc => hs c (by simp [hc])
      unfold laidGo
      simp only [Bool.not_false, Bool.true_and, Bool.false_or]
      by_cases hki : k ≤ i
      · rw [if_pos (by simpa using hki), decide_eq_true hki, laid_done k b hki hl.2]
        by_cases hik : i = k
        · subst hik
          rw [if_pos rfl]
          refine ⟨⟨hk, hl.2⟩, fun c hc => ?_, fun j => ?_⟩
          · have : c = (i, b) ∨ c ∈ t := by simpa using hc
            rcases this with rfl | h
            · exact ⟨hb, hne⟩
            · exact hst c h
          · simp only [List.singleton_append, List.nil_append, atL]
            by_cases hj : j = i
            · rw [if_pos hj.symm, if_pos hj]
            · rw [if_neg (fun h => hj h.symm), if_neg hj, if_neg (fun h => hj h.symm)]
        · rw [if_neg hik]
          refine ⟨⟨hk, by omega, hl.2⟩, fun c hc => ?_, fun j => ?_⟩
          · have : c = (k, b) ∨ c = (i, x) ∨ c ∈ t := by simpa using hc
            rcases this with rfl | rfl | h
            · exact ⟨hb, hne⟩
            · exact hs _ (by simp)
            · exact hst c h
          · simp only [List.singleton_append, atL]
            by_cases hj : j = k
            · rw [if_pos hj.symm, if_pos hj]
            · rw [if_neg (fun h => hj h.symm), if_neg hj]
      · rw [if_neg (by simpa using hki), if_neg (by omega), decide_eq_false hki]
        obtain ⟨r1, r2, r3⟩ := ih (m := i) (by omega) hl.2 hst
        refine ⟨⟨h1, r1⟩, fun c hc => ?_, fun j => ?_⟩
        · have : c = (i, x) ∨ c ∈ laidGo k b false t := by simpa using hc
          rcases this with rfl | h
          · exact hs _ (by simp)
          · exact r2 c h
        · simp only [List.nil_append, List.singleton_append, atL]
          rw [r3 j]
          by_cases hj : i = j
          · rw [if_pos hj, if_pos hj, if_neg (by omega)]
          · rw [if_neg hj, if_neg hj]
  · have hb0 : b = nought := hb.blank.1 hbl
    subst hb0
    intro m l
    induction l generalizing m with
    | nil =>
      intro _ _ _
      refine ⟨trivial, fun c hc => by simp [laidGo] at hc, fun j => ?_⟩
      simp [laidGo, atL]
    | cons c t ih =>
      obtain ⟨i, x⟩ := c
      intro hk hl hs
      have h1 := hl.1
      have hst : Sound t := fun c hc => hs c (by simp [hc])
      unfold laidGo
      simp only [Bool.not_true, Bool.false_and, Bool.false_eq_true, if_false, List.nil_append, Bool.true_or]
      by_cases hik : i = k
      · subst hik
        rw [if_pos rfl, laid_done i nought (Int.le_refl _) hl.2, List.nil_append]
        refine ⟨hl.2.mono (by omega), hst, fun j => ?_⟩
        simp only [atL]
        by_cases hj : j = i
        · rw [if_pos hj, hj]; exact at_above hl.2 i (Int.le_refl _)
        · rw [if_neg hj, if_neg (fun h => hj h.symm)]
      · rw [if_neg hik]
        by_cases hlt : i < k
        · obtain ⟨r1, r2, r3⟩ := ih (m := i) hlt hl.2 hst
          refine ⟨⟨h1, r1⟩, fun c hc => ?_, fun j => ?_⟩
          · have : c = (i, x) ∨ c ∈ laidGo k nought true t := by simpa using hc
            rcases this with rfl | h
            · exact hs _ (by simp)
            · exact r2 c h
          · simp only [List.singleton_append, atL]
            rw [r3 j]
            by_cases hj : i = j
            · rw [if_pos hj, if_pos hj, if_neg (by omega)]
            · rw [if_neg hj, if_neg hj]
        · rw [laid_done k nought (m := i) (by omega) hl.2]
          refine ⟨⟨h1, hl.2⟩, hs, fun j => ?_⟩
          simp only [List.singleton_append]
          by_cases hj : j = k
          · rw [if_pos hj, hj]
            exact at_above (show Rise k ((i, x) :: t) from ⟨by omega, hl.2⟩) k (Int.le_refl _)
          · rw [if_neg hj]
end Go.Proofs.Ytencclpcebpgmaa
/- Regions whose order is drawn and whose calls make memory but turn none that was there: one walk in the text's order serves every order. -/
namespace Go.Proofs.Ytencclpcebpgmaa
open Go.RowKit

/-- A world that has all that W has, and perhaps more behind it. -/
structure Later (W : World) where
  val : World
  below : Below W.heap.size W val

theorem later_some (W : World) : Nonempty (Later W) := ⟨⟨W, Below.refl _ _⟩⟩
theorem Later.cell {W : World} (x : Later W) (p : Addr) (h : p.block < W.heap.size) : x.val.cell? p = W.cell? p := x.below.cell h
theorem Later.heap {W : World} (x : Later W) (g : Nat) (h : g < W.heap.size) : x.val.heap[g]? = W.heap[g]? := x.below.block g h

theorem wp_region_later {id : Nat} {Q : Exit → Act → World → Prop} {a : Act} {w : World} {l : List Oper} (hm : Try.prog.follows .mixedOrders = true) (hB : Region.lexB .any l.toArray = true)
    (W : World) (hW : Below W.heap.size W w)
    (h : wpQuiet Try.prog l.toArray (fun w' => ∃ x : Later W, w' = x.val) (fun a' => ∀ w', (∃ x : Later W, w' = x.val) → Q .normal a' w') l a) : (Code.region id l.toArray true).wp Try.prog Q a w :=
  wp_region_quiet (C := fun w' => ∃ x : Later W, w' = x.val) hm hB ⟨⟨_, hW.drew⟩, rfl⟩ (by simpa using h)

theorem Later.call {W : World} (x : Later W) {f : FuncId} {args : Array Value} {v : Value}
    (h : Calls Try.prog f args x.val fun e w' => e = .returned v ∧ Below x.val.heap.size x.val w') : Calls Try.prog f args x.val fun e w'' => e = .returned v ∧ ∃ y : Later W, w'' = y.val :=
  h.mono fun _ w' ⟨he, hb⟩ => ⟨he, ⟨w', x.below.trans (hb.mono x.below.size)⟩, rfl⟩

theorem quiet_load25 {W : World} {o : Oper} {a : Act} {K : Act → Prop} (x : Operand) (ho : o.op = .load 59 x) (g : Nat) (hx : a.eval x = .pointer (some ⟨g, 0, none⟩)) (f : Nat → Int)
    (hg : W.heap[g]? = some (.cells (blk f) 59)) (hk : K (a.put o.dst (.agg (blk f)))) : o.quiet Try.prog a (fun w' => ∃ x : Later W, w' = x.val) K := by
  refine ⟨.agg (blk f), ?_, hk⟩
  rintro _ ⟨y, rfl⟩
  have hlt : g < W.heap.size := (Array.getElem?_eq_some_iff.1 hg).1
  have hh := (y.heap g hlt).trans hg
  unfold Oper.quietAt execOp
  simp only [ho, hx, Instr.loadAt, Instr.sureAddr, Sem.run_bind, Sem.run_pure, Result.andThen_ok, run_loadVar_row y.val g 59 59 (blk f) (0, 0) _ hh Try.underlying59 rfl (by rw [blk_size]; exact size25)]
  exact ⟨rfl, rfl⟩

theorem wpList_store25_new {ops : Array Oper} {rest : List Oper} {o : Oper} {a : Act} {w : World} {Q : Exit → Act → World → Prop} (hgd : o.guard = none) (x y : Operand) (ho : o.op = .store 59 x y)
    (f f0 : Nat → Int) (hx : a.eval x = .pointer (some ⟨w.heap.size, 0, none⟩)) (hy : a.eval y = .agg (blk f))
    (h : wpList Try.prog ops Q rest (a.put o.dst undef) (w.alloc (.cells (blk f) 59))) : wpList Try.prog ops Q (o :: rest) a (w.alloc (.cells (blk f0) 59)) :=
  wpList_store25 hgd x y ho w.heap.size f hx hy f0 (heap_alloc_new _ _) (by rw [World.setRow_alloc_new]; exact h)
end Go.Proofs.Ytencclpcebpgmaa
/- Maps from numbers to values, told as functions: what is looked up, written, struck; the numbers lie from 0 to 2 to the 20th. -/
namespace Go.Proofs.Ytencclpcebpgmaa
open Go.Maps

/-- An element reads as itself. -/
def valElem (v : Value) : Option (DataW Value × List MemPlace) := some (.held v, [])

theorem nodup_le : ∀ (N : Nat) (l : List Int), l.Nodup → (∀ x ∈ l, 0 ≤ x ∧ x < (N : Int)) → l.length ≤ N
  | 0, l, _, h => by
    cases l with
    | nil => simp
    | cons a t => have := h a (by simp); omega
  | N + 1, l, hn, h => by
    by_cases hm : (N : Int) ∈ l
    · have h1 := nodup_le N (l.erase (N : Int)) (hn.erase _) (fun x hx => by
        have hx' := (hn.mem_erase_iff).1 hx
        have := h x hx'.2
        have hne := hx'.1
        omega)
      rw [List.length_erase_of_mem hm] at h1
      omega
    · have h1 := nodup_le N l hn (fun x hx => by
        have := h x hx
        have hne : x ≠ (N : Int) := fun e => hm (e ▸ hx)
        omega)
      omega

/-- The greatest number of blocks. -/
abbrev top : Nat := 1048576
def inTop (x : Int) : Prop := 0 ≤ x ∧ x < 1048576
theorem inTop.wf {x : Int} (h : inTop x) : (Lit.int .i64 x).wf = true := by
  obtain ⟨h1, h2⟩ := h
  exact WalkArith.wf_i64 (by omega)

/-- The datum D reads as the function m. -/
structure Views (D : DataW Value) (m : Int → Option Value) : Prop where
  some : ∀ x v, m x = .some v → inTop x ∧ has D (.int .i64 x) = true ∧ ∀ z, D.atKey (.int .i64 x) z = .held v
  none : ∀ x, m x = .none → has D (.int .i64 x) = false

/-- Block b is a map that reads as the function m. -/
def MapIs (P : Program) (k : TypeId) (w : World) (b : Nat) (m : Int → Option Value) : Prop :=
  ∃ D, w.ownsMap P k valElem b top D ∧ Views D m

variable {P : Program} {k : TypeId} {w : World} {b : Nat} {m : Int → Option Value}

theorem MapIs.lt (h : MapIs P k w b m) : b < w.heap.size := by obtain ⟨D, h, _⟩ := h; exact h.lt
theorem MapIs.kept {w' : World} (h : MapIs P k w b m) (hb : w'.heap[b]? = w.heap[b]?) : MapIs P k w' b m := by
  obtain ⟨D, ⟨es, clock, h1, h2⟩, hv⟩ := h
  exact ⟨D, ⟨es, clock, hb.trans h1, h2⟩, hv⟩
theorem MapIs.isMap (h : MapIs P k w b m) : ∃ es clock, w.heap[b]? = some (.map es clock) := by
  obtain ⟨D, ⟨es, clock, h1, _⟩, _⟩ := h
  exact ⟨es, clock, h1⟩
theorem MapIs.made (w : World) : MapIs P k (w.alloc (.map #[] 0)) w.heap.size (fun _ => none) := by
  refine ⟨.map [], (World.ownsMap_made w P k valElem).mono (by unfold top; omega), ⟨fun x v h => by simp at h, fun x _ => rfl⟩⟩

theorem size_top (hk : P.underlying k = some (.int .i64)) {n : Nat} {D : DataW Value} (h : w.ownsMap P k valElem b n D) (K : Keyed P k) (hv : Views D m) : Maps.size D ≤ top := by
  obtain ⟨es, rfl, hp, _⟩ := h.entries K
  have hko : ∀ p ∈ es, ∃ x, p.1 = .int .i64 x := by
    obtain ⟨es', clock, _, F, _, hD⟩ := h
    intro p hp
    have e : es = (es'.toList.map (Go.WideElems.rg P k valElem)).foldr DataW.insert [] := by simpa using hD
    rw [e] at hp
    obtain ⟨y, hy, rfl⟩ := List.mem_map.1 (mem_sorted.1 hp)
    obtain ⟨z, hz⟩ := F.reads y hy
    obtain ⟨x, _, hx, _⟩ := Maps.keyOf_int_inv hk (Go.WideElems.rd_key hz)
    exact ⟨x, by rw [Go.WideElems.rg_of hz]; exact hx⟩
  let f : Lit × DataW Value → Int := fun p => match p.1 with | .int _ x => x | _ => 0
  have h1 := nodup_le top (es.map f) ?_ ?_
  · simpa [Maps.size] using h1
  · refine List.pairwise_map.2 (hp.imp_of_mem fun {p q} hp' hq' hne e => hne ?_)
    obtain ⟨a, ha⟩ := hko p hp'
    obtain ⟨c, hc⟩ := hko q hq'
    simp only [f, ha, hc] at e
    rw [ha, hc, e]
  · intro x hx
    obtain ⟨p, hp', rfl⟩ := List.mem_map.1 hx
    obtain ⟨a, ha⟩ := hko p hp'
    have hh : has (.map es) (.int .i64 a) = true := List.any_eq_true.2 ⟨p, hp', by rw [ha]; simp [Lit.sameKey]⟩
    have hfa : f p = a := by simp only [f, ha]
    rw [hfa]
    cases hm : m a with
    | none => rw [hv.none a hm] at hh; cases hh
    | some v => exact (hv.some a v hm).1
theorem owns_top (hk : P.underlying k = some (.int .i64)) {n : Nat} {D : DataW Value} (h : w.ownsMap P k valElem b n D) (K : Keyed P k) (hv : Views D m) : w.ownsMap P k valElem b top D := by
  have h1 := size_top hk h K hv
  obtain ⟨es, clock, hb, F, _, rfl⟩ := h
  exact ⟨es, clock, hb, F, by simpa [Maps.size, length_sorted] using h1, rfl⟩

theorem views_put {D : DataW Value} (hD : IsMap D) (hv : Views D m) {x : Int} (hx : inTop x) (v : Value) : Views (D.put (.int .i64 x) (.held v)) (fun y => if y = x then some v else m y) := by
  have hkl : WideAt.IsKeyLit (.int .i64 x) := by first | trivial | simp [WideAt.IsKeyLit]
  constructor
  · intro y u hy
    by_cases e : y = x
    · subst e
      simp only [if_pos] at hy
      cases hy
      exact ⟨hx, has_put_same hD hkl _, fun z => atKey_put_same hD hkl _ z⟩
    · simp only [if_neg e] at hy
      obtain ⟨h1, h2, h3⟩ := hv.some y u hy
      have hne : (Lit.int .i64 y) ≠ .int .i64 x := fun q => e (by injection q)
      exact ⟨h1, by rw [has_put_other hne]; exact h2, fun z => by rw [atKey_put_other hne]; exact h3 z⟩
  · intro y hy
    by_cases e : y = x
    · subst e; simp at hy
    · simp only [if_neg e] at hy
      have hne : (Lit.int .i64 y) ≠ .int .i64 x := fun q => e (by injection q)
      rw [has_put_other hne]; exact hv.none y hy
theorem views_del {D : DataW Value} (hv : Views D m) (x : Int) : Views (D.del (.int .i64 x)) (fun y => if y = x then none else m y) := by
  constructor
  · intro y u hy
    by_cases e : y = x
    · subst e; simp at hy
    · simp only [if_neg e] at hy
      obtain ⟨h1, h2, h3⟩ := hv.some y u hy
      have hne : (Lit.int .i64 y) ≠ .int .i64 x := fun q => e (by injection q)
      exact ⟨h1, by rw [has_del_other hne]; exact h2, fun z => by rw [atKey_del_other hne]; exact h3 z⟩
  · intro y hy
    by_cases e : y = x
    · subst e; exact has_del_same
    · simp only [if_neg e] at hy
      have hne : (Lit.int .i64 y) ≠ .int .i64 x := fun q => e (by injection q)
      rw [has_del_other hne]; exact hv.none y hy

section
variable {ops : Array Oper} {rest : List Oper} {o : Oper} {a : Act} {Q : Exit → Act → World → Prop}

theorem key_int (hk : P.underlying k = some (.int .i64)) {x : Int} (hx : (Lit.int .i64 x).wf = true) : keyOf P k (.int .i64 x) = some (.int .i64 x) := keyOf_int_mk hk hx

theorem valElem_inv {v : Value} {z : DataW Value} {ps : List MemPlace} (h : valElem v = some (z, ps)) : z = .held v := by
  unfold valElem at h
  cases h
  rfl

/-- What is looked up, with 'ok'. -/
theorem look_ok {t e : TypeId} (hk : P.underlying k = some (.int .i64)) (K : Keyed P k) (ht : P.underlying t = some (.map k e)) (h : MapIs P k w b m) {z : Value} (hz : (zeroValue e).run P w = .ok z w) {x : Int} (hx : (Lit.int .i64 x).wf = true) :
    (Instr.lookup t (.map (some b)) (.int .i64 x) true).run P w = .ok (.tuple #[(m x).getD z, .bool (m x).isSome]) w := by
  obtain ⟨D, hown, hv⟩ := h
  obtain ⟨v, ps, hrun, hR⟩ := hown.look_ok K ht hz (zd := .held z) (zp := []) rfl (key_int hk hx)
  rw [hrun]
  cases hm : m x with
  | none =>
    have h1 := hv.none x hm
    rw [atKey_of_not_has h1] at hR
    unfold valElem at hR
    simp at hR
    rw [h1, hR.1]; rfl
  | some u =>
    obtain ⟨_, h1, h2⟩ := hv.some x u hm
    rw [h2] at hR
    unfold valElem at hR
    simp at hR
    rw [h1, hR.1]; rfl
theorem wpList_lookM_ok (hg : o.guard = none) (mo xo : Operand) (t : TypeId) (hop : o.op = Op.lookup t mo xo true) (e : TypeId) (hk : P.underlying k = some (.int .i64)) (K : Keyed P k) (ht : P.underlying t = some (.map k e))
    (hm : a.eval mo = .map (some b)) (h : MapIs P k w b m) {z : Value} (hz : (zeroValue e).run P w = .ok z w) (x : Int) (hx : (Lit.int .i64 x).wf = true) (hxo : a.eval xo = .int .i64 x)
    (hK : wpList P ops Q rest (a.put o.dst (.tuple #[(m x).getD z, .bool (m x).isSome])) w) : wpList P ops Q (o :: rest) a w := by
  refine wpList_plain hg fun K' hK' => ?_
  unfold Oper.wp
  simp [execOp, hop, hm, hxo, look_ok hk K ht h hz hx, Result.andThen]
  exact hK' _ _ hK
/-- .. without it. -/
theorem look_at {t e : TypeId} (hk : P.underlying k = some (.int .i64)) (K : Keyed P k) (ht : P.underlying t = some (.map k e)) (h : MapIs P k w b m) {z : Value} (hz : (zeroValue e).run P w = .ok z w) {x : Int} (hx : (Lit.int .i64 x).wf = true) :
    (Instr.lookup t (.map (some b)) (.int .i64 x) false).run P w = .ok ((m x).getD z) w := by
  obtain ⟨D, hown, hv⟩ := h
  obtain ⟨v, ps, hrun, hR⟩ := hown.lookup K ht hz (zd := .held z) (zp := []) rfl (key_int hk hx)
  rw [hrun]
  cases hm : m x with
  | none =>
    have h1 := hv.none x hm
    rw [atKey_of_not_has h1] at hR
    unfold valElem at hR
    simp at hR
    rw [hR.1]; rfl
  | some u =>
    obtain ⟨_, h1, h2⟩ := hv.some x u hm
    rw [h2] at hR
    unfold valElem at hR
    simp at hR
    rw [hR.1]; rfl
/-- What is written. -/
theorem wpList_putM (hg : o.guard = none) (mo xo vo : Operand) (t : TypeId) (hop : o.op = Op.mapUpdate t mo xo vo) (e : TypeId) (hk : P.underlying k = some (.int .i64)) (K : Keyed P k) (ht : P.underlying t = some (.map k e))
    (b : Nat) (m : Int → Option Value) (hm : a.eval mo = .map (some b)) (h : MapIs P k w b m) (x : Int) (hx : inTop x) (hxo : a.eval xo = .int .i64 x) (v : Value) (hvo : a.eval vo = v)
    (hK : ∀ w', MapIs P k w' b (fun y => if y = x then some v else m y) → w.grownBy w' (some b) → wpList P ops Q rest (a.put o.dst undef) w') : wpList P ops Q (o :: rest) a w := by
  obtain ⟨D, hown, hv⟩ := h
  refine wpList_mapUpdate_own w hg mo xo vo t hop k e K ht valElem b top D hm hown (by unfold top maxLen; omega) _ _ (.int .i64 x) hxo hvo (key_int hk hx.wf) (.held v) [] rfl fun w' h1 h2 => ?_
  have hv' := views_put hown.isMap hv hx v
  exact hK w' ⟨_, owns_top hk h1 K hv', hv'⟩ h2
/-- What is struck. -/
theorem wpList_delM (hg : o.guard = none) (mo xo : Operand) (t : TypeId) (hop : o.op = Op.call { callee := Callee.builtin Builtin.delete, args := #[mo, xo], argTypes := #[t, k] }) (e : TypeId) (hk : P.underlying k = some (.int .i64)) (K : Keyed P k) (ht : P.underlying t = some (.map k e))
    (b : Nat) (m : Int → Option Value) (hm : a.eval mo = .map (some b)) (h : MapIs P k w b m) (x : Int) (hx : (Lit.int .i64 x).wf = true) (hxo : a.eval xo = .int .i64 x)
    (hK : ∀ w', MapIs P k w' b (fun y => if y = x then none else m y) → w.grownBy w' (some b) → wpList P ops Q rest (a.put o.dst (.tuple #[])) w') : wpList P ops Q (o :: rest) a w := by
  obtain ⟨D, hown, hv⟩ := h
  refine wpList_delete_own w hg mo xo t k hop e K ht valElem b top D hm hown _ (.int .i64 x) hxo (key_int hk hx) fun w' h1 h2 => ?_
  exact hK w' ⟨_, h1, views_del hv x⟩ h2.grown
end
end Go.Proofs.Ytencclpcebpgmaa
/- A disk in memory: its row of twelve cells, its two maps, its history; and what it stands for: what is held, what was done, what is pending; no condition. -/
namespace Go.Proofs.Ytencclpcebpgmaa
open Go.RowKit

/-- Nothing has turned but blocks of T and new ones. -/
structure Fr (T : Nat → Prop) (w w' : World) : Prop where
  os : w'.os = w.os
  tape : w'.tape = w.tape
  output : w'.output = w.output
  size : w.heap.size ≤ w'.heap.size
  block : ∀ k, k < w.heap.size → ¬ T k → w'.heap[k]? = w.heap[k]?
theorem Fr.refl (T : Nat → Prop) (w : World) : Fr T w w := ⟨rfl, rfl, rfl, Nat.le_refl _, fun _ _ _ => rfl⟩
theorem Fr.trans {T T' : Nat → Prop} {a b c : World} (h : Fr T a b) (k : Fr T' b c) (hT : ∀ i, i < a.heap.size → T' i → T i) : Fr T a c :=
  ⟨k.os.trans h.os, k.tape.trans h.tape, k.output.trans h.output, Nat.le_trans h.size k.size, fun i hi hn => (k.block i (Nat.lt_of_lt_of_le hi h.size) (fun q => hn (hT i hi q))).trans (h.block i hi hn)⟩
theorem Fr.mono {T T' : Nat → Prop} {a b : World} (h : Fr T a b) (hT : ∀ i, i < a.heap.size → T i → T' i) : Fr T' a b :=
  ⟨h.os, h.tape, h.output, h.size, fun i hi hn => h.block i hi fun q => hn (hT i hi q)⟩
theorem Fr.ofBelow {T : Nat → Prop} {a b : World} (h : Below a.heap.size a b) : Fr T a b := ⟨h.os, h.tape, h.output, h.size, fun i hi _ => h.block i hi⟩
theorem Fr.below {T : Nat → Prop} {B : Nat} {a b : World} (h : Fr T a b) (hT : ∀ i, T i → B ≤ i) (hB : B ≤ a.heap.size) : Below B a b :=
  ⟨h.os, h.tape, h.output, h.size, fun i hi => h.block i (by omega) fun q => by have := hT i q; omega⟩
theorem Fr.ofGrown {a b : World} {r : Option Nat} (h : a.grownBy b r) : Fr (fun i => r = some i) a b := ⟨h.os, h.tape, h.output, h.size, fun i hi hn => h.block i hi fun q => hn q.symm⟩
theorem Fr.setCell (w : World) (g i : Nat) (v : Value) : Fr (fun k => k = g) w (w.setCell ⟨g, i, none⟩ v) :=
  ⟨rfl, rfl, rfl, by simp, fun k _ hn => Below.heap_setCell w _ v k hn⟩
theorem Fr.alloc (T : Nat → Prop) (w : World) (o : Obj) : Fr T w (w.alloc o) := Fr.ofBelow ((Below.refl _ _).alloc (Nat.le_refl _) o)

/-- A thing that was done. -/
structure Rec where
  kind : Int
  pos : Int
  dat : Nat → Int
def recCells (r : Rec) : List Value := .int .u8 r.kind :: .int .i64 r.pos :: (blk r.dat).toList
def opCells (l : List Rec) : List Value := l.flatMap recCells
theorem blk_list_len (f : Nat → Int) : (blk f).toList.length = 1024 := by rw [Array.length_toList, blk_size]
theorem recCells_len (r : Rec) : (recCells r).length = 1026 := by simp [recCells, blk_size]
theorem opCells_len : ∀ l : List Rec, (opCells l).length = l.length * 1026
  | [] => rfl
  | r :: t => by
    have ih := opCells_len t
    have h1 := recCells_len r
    show (recCells r ++ opCells t).length = _
    rw [List.length_append, ih, h1, List.length_cons]
    omega
theorem opCells_append (a b : List Rec) : opCells (a ++ b) = opCells a ++ opCells b := by simp [opCells]
theorem recCells_one (r : Rec) : ∀ v ∈ recCells r, v.oneCell' = true := by
  intro v hv
  simp only [recCells, List.mem_cons] at hv
  rcases hv with rfl | rfl | h
  · rfl
  · rfl
  · have := blk_one r.dat
    rw [Array.all_eq_true_iff_forall_mem] at this
    exact this v (by simpa using h)

/-- What a disk stands for. -/
structure St where
  n : Int
  held : Int → Option (Nat → Int)
  done : List Rec
  wait : List Cel
  fuse : Int
  stopped : Bool
  made : Int
  reads : Int
  claims : Int
  claimed : Bool
def wrec (c : Cel) : Rec := ⟨1, c.1, c.2⟩
def St.ops (s : St) : List Rec := s.done ++ s.wait.map wrec
/-- Where the last write of a block stands. -/
def lastAt : List Cel → Int → Option Nat
  | [], _ => none
  | c :: t, k => match lastAt t k with
    | some i => some (i + 1)
    | none => if c.1 = k then some 0 else none
theorem lastAt_snoc (c : Cel) (k : Int) : ∀ l : List Cel, lastAt (l ++ [c]) k = if c.1 = k then some l.length else lastAt l k
  | [] => by simp [lastAt]
  | x :: t => by
    show (match lastAt (t ++ [c]) k with | some i => some (i + 1) | none => if x.1 = k then some 0 else none) = _
    rw [lastAt_snoc c k t]
    by_cases h : c.1 = k
    · simp [h]
    · simp [h, lastAt]
theorem lastAt_spec (k : Int) : ∀ (l : List Cel) (i : Nat), lastAt l k = some i → ∃ c, l[i]? = some c ∧ c.1 = k
  | [], i, h => by simp [lastAt] at h
  | x :: t, i, h => by
    unfold lastAt at h
    cases ht : lastAt t k with
    | none =>
      rw [ht] at h
      by_cases hx : x.1 = k
      · simp [hx] at h; subst h; exact ⟨x, rfl, hx⟩
      · simp [hx] at h
    | some j =>
      rw [ht] at h
      simp at h
      subst h
      obtain ⟨c, h1, h2⟩ := lastAt_spec k t j ht
      exact ⟨c, by simpa using h1, h2⟩
def heldV (s : St) : Int → Option Value := fun k => (s.held k).map fun f => .agg (blk f)
def lateV (s : St) : Int → Option Value := fun k => (lastAt s.wait k).map fun i => .int .i64 ((s.done.length + i : Nat) : Int)

/-- What holds of every disk. -/
structure Ok (s : St) : Prop where
  n : 1 ≤ s.n ∧ s.n ≤ 1048576
  held : ∀ k f, s.held k = some f → (0 ≤ k ∧ k < s.n) ∧ Can f ∧ f ≠ nought
  wait : ∀ c ∈ s.wait, (0 ≤ c.1 ∧ c.1 < s.n) ∧ Can c.2
  fuse : -1 ≤ s.fuse ∧ s.fuse ≤ 9223372036854775807
  made : 0 ≤ s.made
  reads : 0 ≤ s.reads
  claims : 0 ≤ s.claims
/-- There is room for more. -/
structure Room (s : St) : Prop where
  ops : s.ops.length < 68719476736
  made : s.made < 1099511627776
  reads : s.reads < 1099511627776
  claims : s.claims < 1099511627776

/-- Where a disk lies: its row, its maps, its history. -/
structure Loc where
  d : Nat
  hb : Nat
  lb : Nat
  hv : Value
def Loc.has (L : Loc) (k : Nat) : Prop := k = L.d ∨ k = L.hb ∨ k = L.lb ∨ L.hv.ownBlock = some k
def dkRow (L : Loc) (s : St) : Array Value :=
  #[.pointer (some ⟨L.d, 0, none⟩), .int .i64 s.n, .map (some L.hb), L.hv, .int .i64 (s.done.length : Int), .map (some L.lb), .int .i64 s.fuse, .bool s.stopped, .int .i64 s.made, .int .i64 s.reads, .int .i64 s.claims, .bool s.claimed]

structure DiskAt (w : World) (L : Loc) (s : St) : Prop where
  row : w.heap[L.d]? = some (.cells (dkRow L s) 78)
  held : MapIs Try.prog 3 w L.hb (heldV s)
  late : MapIs Try.prog 3 w L.lb (lateV s)
  hist : w.ownsRow 0 108 1026 L.hv s.ops.length (opCells s.ops)
  ne : L.hb ≠ L.lb
  ok : Ok s
theorem ownsRow_kept0 {w w' : World} {base e size n : Nat} {v : Value} {xs : List Value} (h : w.ownsRow base e size v n xs) (hb : ∀ k, v.ownBlock = some k → w'.heap[k]? = w.heap[k]?) : w'.ownsRow base e size v n xs := by
  refine ⟨h.1, ?_⟩
  rcases h.2 with h | ⟨g, cap, cur, rfl, h1, h2, h3⟩
  · exact .inl h
  · exact .inr ⟨g, cap, cur, rfl, h1, (hb g rfl).trans h2, h3⟩
theorem DiskAt.lt {w : World} {L : Loc} {s : St} (h : DiskAt w L s) (k : Nat) (hk : L.has k) : k < w.heap.size := by
  rcases hk with rfl | rfl | rfl | hk
  · exact (Array.getElem?_eq_some_iff.1 h.row).1
  · exact h.held.lt
  · exact h.late.lt
  · exact (h.hist.lt k hk).2
/-- It stays what it is where its blocks do. -/
theorem DiskAt.kept {w w' : World} {L : Loc} {s : St} (h : DiskAt w L s) (hb : ∀ k, L.has k → w'.heap[k]? = w.heap[k]?) : DiskAt w' L s :=
  ⟨(hb _ (.inl rfl)).trans h.row, h.held.kept (hb _ (.inr (.inl rfl))), h.late.kept (hb _ (.inr (.inr (.inl rfl)))), ownsRow_kept0 h.hist fun k hk => hb k (.inr (.inr (.inr hk))), h.ne, h.ok⟩
theorem DiskAt.fr {w w' : World} {L : Loc} {s : St} {T : Nat → Prop} (h : DiskAt w L s) (hf : Fr T w w') (hT : ∀ k, L.has k → ¬ T k) : DiskAt w' L s :=
  h.kept fun k hk => hf.block k (h.lt k hk) (hT k hk)
theorem DiskAt.later {w w' : World} {L : Loc} {s : St} (h : DiskAt w L s) (hb : Below w.heap.size w w') : DiskAt w' L s := h.kept fun k hk => hb.block k (h.lt k hk)

/-- From one state to the next: the row stays where it is, nothing turns but the disk's own blocks. -/
structure Goes (w w' : World) (L L' : Loc) : Prop where
  d : L'.d = L.d
  own : ∀ k, L'.has k → L.has k ∨ w.heap.size ≤ k
  fr : Fr L.has w w'
theorem Goes.trans {a b c : World} {L L' L'' : Loc} (h : Goes a b L L') (k : Goes b c L' L'') : Goes a c L L'' := by
  refine ⟨k.d.trans h.d, fun i hi => ?_, h.fr.trans k.fr fun i hi hk => ?_⟩
  · rcases k.own i hi with h1 | h1
    · exact h.own i h1
    · have := h.fr.size; exact .inr (by omega)
  · rcases h.own i hk with h1 | h1
    · exact h1
    · omega
theorem Goes.refl (w : World) (L : Loc) : Goes w w L L := ⟨rfl, fun _ h => .inl h, Fr.refl _ _⟩
theorem Goes.ofBelow {w w' : World} (L : Loc) (h : Below w.heap.size w w') : Goes w w' L L := ⟨rfl, fun _ h => .inl h, Fr.ofBelow h⟩
/-- The cells of the row. -/
theorem DiskAt.cell {w : World} {L : Loc} {s : St} (h : DiskAt w L s) (i : Nat) : w.cell? ⟨L.d, i, none⟩ = (dkRow L s)[i]? := Joins.cell_of_block h.row i
theorem DiskAt.free {w : World} {L : Loc} {s : St} (h : DiskAt w L s) (i : Nat) : w.frozen? ⟨L.d, i, none⟩ = false := Joins.unfrozen_of_block h.row i
end Go.Proofs.Ytencclpcebpgmaa
/- A row of holdings linked both ways and closed to a ring, as plain functions: what leaving it and standing last in it do; no condition. -/
namespace Go.Proofs.Ytencclpcebpgmaa
open Go.RowKit
/-- A holding's numbers. -/
structure Nd where
  pos : Int
  fast : Bool
  pv : Nat
  nx : Nat
  dat : Nat → Int
def setM (M : Nat → Nd) (g : Nat) (n : Nd) : Nat → Nd := fun k => if k = g then n else M k
def Lnk (M : Nat → Nd) (x y : Nat) : Prop := (M x).nx = y ∧ (M y).pv = x
def seg (R : Nat → Nat → Prop) : Nat → List Nat → Nat → Prop
  | a, [], b => R a b
  | a, x :: t, b => R a x ∧ seg R x t b
theorem seg_append (R : Nat → Nat → Prop) (x b : Nat) (q : List Nat) : ∀ (a : Nat) (p : List Nat), seg R a (p ++ x :: q) b ↔ seg R a p x ∧ seg R x q b
  | a, [] => Iff.rfl
  | a, c :: t => by
    show R a c ∧ seg R c (t ++ x :: q) b ↔ (R a c ∧ seg R c t x) ∧ seg R x q b
    rw [seg_append R x b q c t, and_assoc]
theorem seg_mono {R R' : Nat → Nat → Prop} (b : Nat) : ∀ (a : Nat) (l : List Nat), seg R a l b → (∀ x y, x ∈ a :: l → y ∈ l ++ [b] → R x y → R' x y) → seg R' a l b
  | a, [], h, hm => hm a b (by simp) (by simp) h
  | a, c :: t, h, hm => ⟨hm a c (by simp) (by simp) h.1, seg_mono b c t h.2 fun x y hx hy => hm x y (List.mem_cons_of_mem _ hx) (by simp only [List.cons_append]; exact List.mem_cons_of_mem _ hy)⟩
def setPv (M : Nat → Nd) (g z : Nat) : Nat → Nd := setM M g { M g with pv := z }
def setNx (M : Nat → Nd) (g z : Nat) : Nat → Nd := setM M g { M g with nx := z }
theorem setPv_pv (M : Nat → Nd) (g z k : Nat) : (setPv M g z k).pv = if k = g then z else (M k).pv := by unfold setPv setM; split <;> rfl
theorem setPv_nx (M : Nat → Nd) (g z k : Nat) : (setPv M g z k).nx = (M k).nx := by
  unfold setPv setM
  split
  · next h => rw [h]
  · rfl
theorem setPv_rest (M : Nat → Nd) (g z k : Nat) : (setPv M g z k).pos = (M k).pos ∧ (setPv M g z k).fast = (M k).fast ∧ (setPv M g z k).dat = (M k).dat := by
  unfold setPv setM
  split
  · next h => rw [h]; exact ⟨rfl, rfl, rfl⟩
  · exact ⟨rfl, rfl, rfl⟩
theorem setNx_nx (M : Nat → Nd) (g z k : Nat) : (setNx M g z k).nx = if k = g then z else (M k).nx := by unfold setNx setM; split <;> rfl
theorem setNx_pv (M : Nat → Nd) (g z k : Nat) : (setNx M g z k).pv = (M k).pv := by
  unfold setNx setM
  split
  · next h => rw [h]
  · rfl
theorem setNx_rest (M : Nat → Nd) (g z k : Nat) : (setNx M g z k).pos = (M k).pos ∧ (setNx M g z k).fast = (M k).fast ∧ (setNx M g z k).dat = (M k).dat := by
  unfold setNx setM
  split
  · next h => rw [h]; exact ⟨rfl, rfl, rfl⟩
  · exact ⟨rfl, rfl, rfl⟩
/-- A holding leaves its row. -/
def leaveM (M : Nat → Nd) (h : Nat) : Nat → Nd := setPv (setNx M (M h).pv (M h).nx) (M h).nx (M h).pv
theorem leave_nx (M : Nat → Nd) (h k : Nat) : (leaveM M h k).nx = if k = (M h).pv then (M h).nx else (M k).nx := by
  unfold leaveM
  rw [setPv_nx, setNx_nx]
theorem leave_pv (M : Nat → Nd) (h k : Nat) : (leaveM M h k).pv = if k = (M h).nx then (M h).pv else (M k).pv := by
  unfold leaveM
  rw [setPv_pv, setNx_pv]
theorem leave_rest (M : Nat → Nd) (h k : Nat) : (leaveM M h k).pos = (M k).pos ∧ (leaveM M h k).fast = (M k).fast ∧ (leaveM M h k).dat = (M k).dat := by
  unfold leaveM
  obtain ⟨a1, a2, a3⟩ := setPv_rest (setNx M (M h).pv (M h).nx) (M h).nx (M h).pv k
  obtain ⟨b1, b2, b3⟩ := setNx_rest M (M h).pv (M h).nx k
  exact ⟨a1.trans b1, a2.trans b2, a3.trans b3⟩
theorem snoc_cases (p : List Nat) : p = [] ∨ ∃ p0 z, p = p0 ++ [z] := by
  rcases List.eq_nil_or_concat p with h | ⟨a, b, h⟩
  · exact .inl h
  · exact .inr ⟨a, b, by simpa using h⟩
/-- Where h stands in the row, its neighbours are of the row, or the end. -/
theorem seg_near {M : Nat → Nd} {e h : Nat} {p q : List Nat} (hs : seg (Lnk M) e (p ++ h :: q) e) : (M h).pv ∈ e :: p ∧ (M h).nx ∈ q ++ [e] := by
  obtain ⟨h1, h2⟩ := (seg_append _ _ _ _ _ _).1 hs
  constructor
  · rcases snoc_cases p with rfl | ⟨p0, z, rfl⟩
    · simp [h1.2]
    · have := ((seg_append _ _ _ _ _ _).1 h1).2.2
      simp [this]
  · cases q with
    | nil => simp [h2.1]
    | cons y t => simp [h2.1.1]
theorem leave_seg {M : Nat → Nd} {e h : Nat} {p q : List Nat} (hn : (e :: (p ++ h :: q)).Nodup) (hs : seg (Lnk M) e (p ++ h :: q) e) : seg (Lnk (leaveM M h)) e (p ++ q) e := by
  obtain ⟨h1, h2⟩ := (seg_append _ _ _ _ _ _).1 hs
  have hL : ∀ x y, x ≠ (M h).pv → y ≠ (M h).nx → Lnk M x y → Lnk (leaveM M h) x y := by
    intro x y hx hy hl
    unfold Lnk
    rw [leave_nx, leave_pv, if_neg hx, if_neg hy]
    exact hl
  have hJ : Lnk (leaveM M h) (M h).pv (M h).nx := by
    unfold Lnk
    rw [leave_nx, leave_pv, if_pos rfl, if_pos rfl]
    exact ⟨rfl, rfl⟩
  rcases snoc_cases p with rfl | ⟨p0, z, rfl⟩
  · have hz : (M h).pv = e := h1.2
    cases q with
    | nil =>
      have hy : (M h).nx = e := h2.1
      rw [hz, hy] at hJ
      exact hJ
    | cons y t =>
      have hy : (M h).nx = y := h2.1.1
      rw [hz, hy] at hJ
      refine ⟨hJ, seg_mono e y t h2.2 fun a b ha hb => hL a b ?_ ?_⟩
      · rw [hz]; rintro rfl; simp at hn; simp at ha; rcases ha with rfl | ha
        · exact hn.1.2.1 rfl
        · exact hn.1.2.2 ha
      · rw [hy]; rintro rfl; simp at hn; simp at hb; rcases hb with hb | rfl
        · exact hn.2.2.1 hb
        · exact hn.1.2.1 rfl
  · obtain ⟨h3, h4⟩ := (seg_append _ _ _ _ _ _).1 h1
    have hz : (M h).pv = z := h4.2
    have hne : ∀ a, a ∈ e :: p0 → a ≠ z := by
      rintro a ha rfl
      simp at hn ha
      rcases ha with rfl | ha
      · simp at hn
      · have := hn.2
        rw [List.nodup_append] at this
        exact this.2.2 a ha a (by simp) rfl
    have hyz : ∀ b, b ∈ p0 ++ [z] → b ∉ h :: q := by
      intro b hb hb'
      have := (List.nodup_cons.1 hn).2
      rw [List.nodup_append] at this
      exact this.2.2 b hb b hb' rfl
    have hnq : (e :: (h :: q)).Nodup := by
      rw [List.nodup_cons] at hn ⊢
      refine ⟨fun q' => hn.1 (List.mem_append.2 (.inr q')), (List.nodup_append.1 hn.2).2.1⟩
    rw [List.append_assoc]
    show seg _ e (p0 ++ z :: q) e
    refine (seg_append _ _ _ _ _ _).2 ⟨seg_mono z e p0 h3 fun a b ha hb => hL a b (by rw [hz]; exact hne a ha) ?_, ?_⟩
    · rintro rfl
      cases q with
      | nil =>
        have hy : (M h).nx = e := h2.1
        rw [hy] at hb
        exact (List.nodup_cons.1 hn).1 (List.mem_append.2 (.inl hb))
      | cons y t =>
        have hy : (M h).nx = y := h2.1.1
        rw [hy] at hb
        exact hyz y hb (by simp)
    · cases q with
      | nil =>
        have hy : (M h).nx = e := h2.1
        rw [hz, hy] at hJ
        exact hJ
      | cons y t =>
        have hy : (M h).nx = y := h2.1.1
        rw [hz, hy] at hJ
        refine ⟨hJ, seg_mono e y t h2.2 fun a b ha hb => hL a b ?_ ?_⟩
        · rw [hz]; rintro rfl
          exact hyz a (by simp) (List.mem_cons_of_mem _ ha)
        · rw [hy]; rintro rfl; simp at hnq; simp at hb; rcases hb with hb | rfl
          · exact hnq.2.2.1 hb
          · exact hnq.1.2.1 rfl
/-- A holding is put ahead of the end. -/
def standM (M : Nat → Nd) (h e : Nat) : Nat → Nd := setPv (setNx (setNx (setPv M h (M e).pv) h e) (M e).pv h) e h
theorem stand_nx (M : Nat → Nd) (h e k : Nat) : (standM M h e k).nx = if k = (M e).pv then h else if k = h then e else (M k).nx := by
  unfold standM
  rw [setPv_nx, setNx_nx, setNx_nx, setPv_nx]
theorem stand_pv (M : Nat → Nd) (h e k : Nat) : (standM M h e k).pv = if k = e then h else if k = h then (M e).pv else (M k).pv := by
  unfold standM
  rw [setPv_pv, setNx_pv, setNx_pv, setPv_pv]
theorem stand_rest (M : Nat → Nd) (h e k : Nat) : (standM M h e k).pos = (M k).pos ∧ (standM M h e k).fast = (M k).fast ∧ (standM M h e k).dat = (M k).dat := by
  unfold standM
  obtain ⟨a1, a2, a3⟩ := setPv_rest (setNx (setNx (setPv M h (M e).pv) h e) (M e).pv h) e h k
  obtain ⟨b1, b2, b3⟩ := setNx_rest (setNx (setPv M h (M e).pv) h e) (M e).pv h k
  obtain ⟨c1, c2, c3⟩ := setNx_rest (setPv M h (M e).pv) h e k
  obtain ⟨d1, d2, d3⟩ := setPv_rest M h (M e).pv k
  exact ⟨a1.trans (b1.trans (c1.trans d1)), a2.trans (b2.trans (c2.trans d2)), a3.trans (b3.trans (c3.trans d3))⟩
/-- The last of the row, or the end. -/
theorem seg_last {M : Nat → Nd} {e : Nat} {l : List Nat} (hs : seg (Lnk M) e l e) : (M e).pv ∈ e :: l := by
  rcases snoc_cases l with rfl | ⟨p0, z, rfl⟩
  · simp [hs.2]
  · have := ((seg_append _ _ _ _ _ _).1 hs).2.2
    simp [this]
theorem seg_first {M : Nat → Nd} {e : Nat} {l : List Nat} (hs : seg (Lnk M) e l e) : (M e).nx = (l ++ [e]).headD 0 := by
  cases l with
  | nil => exact hs.1
  | cons y t => exact hs.1.1
theorem stand_seg {M : Nat → Nd} {e h : Nat} {l : List Nat} (hn : (h :: e :: l).Nodup) (hs : seg (Lnk M) e l e) : seg (Lnk (standM M h e)) e (l ++ [h]) e := by
  have hhe : h ≠ e := by rintro rfl; simp at hn
  have hlast := seg_last hs
  have hz : h ≠ (M e).pv := by
    intro q
    rw [← q] at hlast
    exact (List.nodup_cons.1 hn).1 hlast
  have hN := fun k => stand_nx M h e k
  have hP := fun k => stand_pv M h e k
  have hfin : seg (Lnk (standM M h e)) h [] e := by
    show Lnk _ h e
    unfold Lnk
    rw [hN, hP, if_neg hz, if_pos rfl, if_pos rfl]
    exact ⟨rfl, rfl⟩
  refine (seg_append _ _ _ _ _ _).2 ⟨?_, hfin⟩
  have hJ : Lnk (standM M h e) (M e).pv h := by
    unfold Lnk
    rw [hN, hP, if_pos rfl, if_neg hhe, if_pos rfl]
    exact ⟨rfl, rfl⟩
  rcases snoc_cases l with rfl | ⟨p0, z, rfl⟩
  · have : (M e).pv = e := hs.2
    rw [this] at hJ
    exact hJ
  · obtain ⟨h3, h4⟩ := (seg_append _ _ _ _ _ _).1 hs
    have hez : (M e).pv = z := h4.2
    rw [hez] at hJ
    refine (seg_append _ _ _ _ _ _).2 ⟨seg_mono z e p0 h3 fun a b ha hb hl => ?_, hJ⟩
    have hae : a ≠ z := by
      rintro rfl
      simp at hn ha
      rcases ha with rfl | ha
      · simp at hn
      · have := hn.2.2
        rw [List.nodup_append] at this
        exact this.2.2 a ha a (by simp) rfl
    have hah : a ≠ h := by
      rintro rfl
      refine (List.nodup_cons.1 hn).1 ?_
      simp at ha ⊢
      rcases ha with rfl | ha
      · exact .inl rfl
      · exact .inr (.inl ha)
    have hbe : b ≠ e := by
      rintro rfl
      exact (List.nodup_cons.1 (List.nodup_cons.1 hn).2).1 hb
    have hbh : b ≠ h := by
      rintro rfl
      exact (List.nodup_cons.1 hn).1 (List.mem_cons_of_mem _ hb)
    unfold Lnk
    rw [hN, hP, if_neg (by rw [hez]; exact hae), if_neg hah, if_neg hbe, if_neg hbh]
    exact hl
end Go.Proofs.Ytencclpcebpgmaa
/- What a disk tells of itself, its fuse and its claims; of a disk that was made, and of one that is none; no condition but that numbers do not pass the greatest int. -/
namespace Go.Proofs.Ytencclpcebpgmaa
open Go.RowKit

theorem neq_same {P : Program} {tp te : TypeId} {j : TypeInfo} (w : World) (a : Addr) (hp : P.underlying tp = some (.pointer te)) (hte : P.info? te = some j) :
    (binOp .neq tp (.pointer (some a)) (.pointer (some a))).run P w = .ok (.bool false) w := by
  have h : ∀ d : Nat, (Op.equalIn (d + 1) tp (.pointer (some a)) (.pointer (some a))).run P w = .ok true w := fun d => by
    simp [Op.equalIn, run_underlying hp, sizeOf, typeInfo, hte, run_sameAddr_same]
  simp only [binOp]
  simp [Op.equal, Op.maxDepth, h 9999]
theorem neq_nil {P : Program} {tp te : TypeId} (w : World) (a : Addr) (hp : P.underlying tp = some (.pointer te)) :
    (binOp .neq tp (.pointer none) (.pointer (some a))).run P w = .ok (.bool true) w := by
  have h : ∀ d : Nat, (Op.equalIn (d + 1) tp (.pointer none) (.pointer (some a))).run P w = .ok false w := fun d => by
    simp [Op.equalIn, run_underlying hp]
  simp only [binOp]
  simp [Op.equal, Op.maxDepth, h 9999]
theorem info74 : ∃ j, Try.prog.info? 78 = some j := Option.isSome_iff_exists.1 (by kernel_rfl)
theorem neq24 (w : World) (a : Addr) : (binOp .neq 25 (.pointer (some a)) (.pointer (some a))).run Try.prog w = .ok (.bool false) w := by
  obtain ⟨j, hj⟩ := info74
  exact neq_same w a Try.underlying25 hj
theorem neq24n (w : World) (a : Addr) : (binOp .neq 25 (.pointer none) (.pointer (some a))).run Try.prog w = .ok (.bool true) w := by
  exact neq_nil w a Try.underlying25

/-- v is a disk that is nil, or that nobody made. -/
def NoneAt (w : World) (v : Value) : Prop := v = .pointer none ∨ ∃ g, v = .pointer (some ⟨g, 0, none⟩) ∧ w.cell? ⟨g, 0, none⟩ = some (.pointer none)
theorem none_yes {w : World} {v : Value} (h : NoneAt w v) : Calls Try.prog 47 #[v] w fun e w' => e = .returned (.bool true) ∧ w' = w := by
  have hn := neq24n
  rcases h with rfl | ⟨g, rfl, c0⟩
  · go_enter Try.func47, Try.ntmps47
    go_wp2
    go_ret
    exact ⟨rfl, rfl⟩
  · go_enter Try.func47, Try.ntmps47
    go_wp2
    go_ret
    exact ⟨rfl, rfl⟩
theorem none_no {w : World} {d : Nat} (c0 : w.cell? ⟨d, 0, none⟩ = some (.pointer (some ⟨d, 0, none⟩))) :
    Calls Try.prog 47 #[.pointer (some ⟨d, 0, none⟩)] w fun e w' => e = .returned (.bool false) ∧ w' = w := by
  have hn := neq24
  go_enter Try.func47, Try.ntmps47
  go_wp2
  go_ret
  exact ⟨rfl, rfl⟩

variable {w : World} {L : Loc} {s : St}
theorem DiskAt.c0 (h : DiskAt w L s) : w.cell? ⟨L.d, 0, none⟩ = some (.pointer (some ⟨L.d, 0, none⟩)) := h.cell 0
theorem DiskAt.c1 (h : DiskAt w L s) : w.cell? ⟨L.d, 1, none⟩ = some (.int .i64 s.n) := h.cell 1
theorem DiskAt.c2 (h : DiskAt w L s) : w.cell? ⟨L.d, 2, none⟩ = some (.map (some L.hb)) := h.cell 2
theorem DiskAt.c3 (h : DiskAt w L s) : w.cell? ⟨L.d, 3, none⟩ = some L.hv := h.cell 3
theorem DiskAt.c4 (h : DiskAt w L s) : w.cell? ⟨L.d, 4, none⟩ = some (.int .i64 (s.done.length : Int)) := h.cell 4
theorem DiskAt.c5 (h : DiskAt w L s) : w.cell? ⟨L.d, 5, none⟩ = some (.map (some L.lb)) := h.cell 5
theorem DiskAt.c6 (h : DiskAt w L s) : w.cell? ⟨L.d, 6, none⟩ = some (.int .i64 s.fuse) := h.cell 6
theorem DiskAt.c7 (h : DiskAt w L s) : w.cell? ⟨L.d, 7, none⟩ = some (.bool s.stopped) := h.cell 7
theorem DiskAt.c8 (h : DiskAt w L s) : w.cell? ⟨L.d, 8, none⟩ = some (.int .i64 s.made) := h.cell 8
theorem DiskAt.c9 (h : DiskAt w L s) : w.cell? ⟨L.d, 9, none⟩ = some (.int .i64 s.reads) := h.cell 9
theorem DiskAt.c10 (h : DiskAt w L s) : w.cell? ⟨L.d, 10, none⟩ = some (.int .i64 s.claims) := h.cell 10
theorem DiskAt.c11 (h : DiskAt w L s) : w.cell? ⟨L.d, 11, none⟩ = some (.bool s.claimed) := h.cell 11

theorem len_of (h : DiskAt w L s) : Calls Try.prog 41 #[.pointer (some ⟨L.d, 0, none⟩)] w fun e w' => e = .returned (.int .i64 s.n) ∧ w' = w := by
  have c1 := h.c1
  have h0 := h.c0
  clear h
  go_enter Try.func41, Try.ntmps41
  go_wp2_with (first | (go_at_call 47; refine (none_no h0).mono ?_; rintro e W ⟨rfl, rfl⟩))
  go_ret
  exact ⟨rfl, rfl⟩
theorem len_none {v : Value} (h : NoneAt w v) : Calls Try.prog 41 #[v] w fun e w' => e = .returned (.int .i64 0) ∧ w' = w := by
  go_enter Try.func41, Try.ntmps41
  go_wp2_with (first | (go_at_call 47; refine (none_yes h).mono ?_; rintro e W ⟨rfl, rfl⟩))
  go_ret
  exact ⟨rfl, rfl⟩
theorem made_of (h : DiskAt w L s) : Calls Try.prog 16 #[.pointer (some ⟨L.d, 0, none⟩)] w fun e w' => e = .returned (.int .i64 s.made) ∧ w' = w := by
  have c8 := h.c8
  have h0 := h.c0
  clear h
  go_enter Try.func16, Try.ntmps16
  go_wp2_with (first | (go_at_call 47; refine (none_no h0).mono ?_; rintro e W ⟨rfl, rfl⟩))
  go_ret
  exact ⟨rfl, rfl⟩
theorem made_none {v : Value} (h : NoneAt w v) : Calls Try.prog 16 #[v] w fun e w' => e = .returned (.int .i64 0) ∧ w' = w := by
  go_enter Try.func16, Try.ntmps16
  go_wp2_with (first | (go_at_call 47; refine (none_yes h).mono ?_; rintro e W ⟨rfl, rfl⟩))
  go_ret
  exact ⟨rfl, rfl⟩
theorem reads_of (h : DiskAt w L s) : Calls Try.prog 15 #[.pointer (some ⟨L.d, 0, none⟩)] w fun e w' => e = .returned (.int .i64 s.reads) ∧ w' = w := by
  have c9 := h.c9
  have h0 := h.c0
  clear h
  go_enter Try.func15, Try.ntmps15
  go_wp2_with (first | (go_at_call 47; refine (none_no h0).mono ?_; rintro e W ⟨rfl, rfl⟩))
  go_ret
  exact ⟨rfl, rfl⟩
theorem reads_none {v : Value} (h : NoneAt w v) : Calls Try.prog 15 #[v] w fun e w' => e = .returned (.int .i64 0) ∧ w' = w := by
  go_enter Try.func15, Try.ntmps15
  go_wp2_with (first | (go_at_call 47; refine (none_yes h).mono ?_; rintro e W ⟨rfl, rfl⟩))
  go_ret
  exact ⟨rfl, rfl⟩
theorem stopped_of (h : DiskAt w L s) : Calls Try.prog 17 #[.pointer (some ⟨L.d, 0, none⟩)] w fun e w' => e = .returned (.bool s.stopped) ∧ w' = w := by
  have c7 := h.c7
  have h0 := h.c0
  clear h
  go_enter Try.func17, Try.ntmps17
  go_wp2_with (first | (go_at_call 47; refine (none_no h0).mono ?_; rintro e W ⟨rfl, rfl⟩))
  go_ret
  exact ⟨rfl, rfl⟩
theorem stopped_none {v : Value} (h : NoneAt w v) : Calls Try.prog 17 #[v] w fun e w' => e = .returned (.bool false) ∧ w' = w := by
  go_enter Try.func17, Try.ntmps17
  go_wp2_with (first | (go_at_call 47; refine (none_yes h).mono ?_; rintro e W ⟨rfl, rfl⟩))
  go_ret
  exact ⟨rfl, rfl⟩
/-- Why a block may be neither read nor written; 0: it may. -/
def refV (s : St) (k : Int) : Int := if s.stopped then 3 else if 0 ≤ k ∧ k < s.n then 0 else 2
theorem refuses_of (h : DiskAt w L s) (k : Int) : Calls Try.prog 56 #[.pointer (some ⟨L.d, 0, none⟩), .int .i64 k] w fun e w' => e = .returned (.int .i64 (refV s k)) ∧ w' = w := by
  have c7 := h.c7
  have c1 := h.c1
  have h0 := h.c0
  clear h
  unfold refV
  cases hs : s.stopped
  · rw [hs] at c7
    by_cases h1 : k < 0
    · have e : ¬ (0 ≤ k ∧ k < s.n) := by omega
      simp only [e, if_false, Bool.false_eq_true]
      go_enter Try.func56, Try.ntmps56
      go_wp2_with (first | (go_at_call 47; refine (none_no h0).mono ?_; rintro e W ⟨rfl, rfl⟩))
      go_ret
      exact ⟨rfl, rfl⟩
    · by_cases h2 : k < s.n
      · have e : (0 ≤ k ∧ k < s.n) := by omega
        have h3 : ¬ k ≥ s.n := by omega
        simp only [e, if_true, if_false, Bool.false_eq_true, and_self]
        go_enter Try.func56, Try.ntmps56
        go_wp2_with (first | (go_at_call 47; refine (none_no h0).mono ?_; rintro e W ⟨rfl, rfl⟩))
        go_ret
        exact ⟨rfl, rfl⟩
      · have e : ¬ (0 ≤ k ∧ k < s.n) := by omega
        have h3 : k ≥ s.n := by omega
        simp only [e, if_false, Bool.false_eq_true]
        go_enter Try.func56, Try.ntmps56
        go_wp2_with (first | (go_at_call 47; refine (none_no h0).mono ?_; rintro e W ⟨rfl, rfl⟩))
        go_ret
        exact ⟨rfl, rfl⟩
  · rw [hs] at c7
    simp only [if_true]
    go_enter Try.func56, Try.ntmps56
    go_wp2_with (first | (go_at_call 47; refine (none_no h0).mono ?_; rintro e W ⟨rfl, rfl⟩))
    go_ret
    exact ⟨rfl, rfl⟩
theorem refuses_none {v : Value} (h : NoneAt w v) (k : Int) : Calls Try.prog 56 #[v, .int .i64 k] w fun e w' => e = .returned (.int .i64 1) ∧ w' = w := by
  go_enter Try.func56, Try.ntmps56
  go_wp2_with (first | (go_at_call 47; refine (none_yes h).mono ?_; rintro e W ⟨rfl, rfl⟩))
  go_ret
  exact ⟨rfl, rfl⟩
def claimedV (s : St) (k : Int) : Bool := !s.stopped && s.claimed && k == s.claims
end Go.Proofs.Ytencclpcebpgmaa
/- What turns a disk's own cells: its fuse, its claims, a write or barrier that is let through or not; no condition but that numbers do not pass the greatest int. -/
namespace Go.Proofs.Ytencclpcebpgmaa
open Go.RowKit
variable {w : World} {L : Loc} {s : St}

/-- One cell of the row is written: what it stands for is s'. -/
theorem DiskAt.put {s' : St} (h : DiskAt w L s) (i : Nat) (v : Value) (hr : (dkRow L s).setIfInBounds i v = dkRow L s') (hh : s'.held = s.held) (hw : s'.wait = s.wait) (hd : s'.done = s.done) (hok : Ok s') :
    DiskAt (w.setCell ⟨L.d, i, none⟩ v) L s' := by
  have hne : ∀ k, k ≠ L.d → (w.setCell ⟨L.d, i, none⟩ v).heap[k]? = w.heap[k]? := fun k hk => Below.heap_setCell w _ v k hk
  obtain ⟨es, ck, hm⟩ := h.held.isMap
  obtain ⟨es2, ck2, hm2⟩ := h.late.isMap
  refine ⟨?_, ?_, ?_, ?_, h.ne, hok⟩
  · rw [Joins.block_setCell h.row, hr]
  · have : heldV s' = heldV s := by unfold heldV; rw [hh]
    rw [this]
    exact h.held.kept (hne _ fun e => by rw [e, h.row] at hm; cases hm)
  · have : lateV s' = lateV s := by unfold lateV; rw [hw, hd]
    rw [this]
    exact h.late.kept (hne _ fun e => by rw [e, h.row] at hm2; cases hm2)
  · have : s'.ops = s.ops := by unfold St.ops; rw [hw, hd]
    rw [this]
    refine ownsRow_kept0 h.hist fun k hk => hne _ fun e => ?_
    rcases h.hist.2 with ⟨h1, _⟩ | ⟨g, cap, cur, h1, _, h2, _⟩
    · rw [h1] at hk; cases hk
    · rw [h1] at hk
      injection hk with hk
      rw [← hk] at e
      simp only at e
      rw [e, h.row] at h2
      cases h2
theorem Goes.put (w : World) (L : Loc) (i : Nat) (v : Value) : Goes w (w.setCell ⟨L.d, i, none⟩ v) L L :=
  ⟨rfl, fun _ h => .inl h, (Fr.setCell w L.d i v).mono fun _ _ h => .inl h⟩

/-- The fuse is asked: s, if it is none, lets through. -/
def lets (s : St) : Bool := s.fuse != 0
def letV (s : St) : St := if s.fuse = 0 then { s with stopped := true } else { s with fuse := (if s.fuse = -1 then -1 else s.fuse - 1), made := s.made + 1 }
theorem letV_ok (h : Ok s) : Ok (letV s) := by
  unfold letV
  split
  · exact ⟨h.n, h.held, h.wait, h.fuse, h.made, h.reads, h.claims⟩
  · rename_i h0
    have := h.fuse
    have := h.made
    refine ⟨h.n, h.held, h.wait, ?_, ?_, h.reads, h.claims⟩
    · show -1 ≤ (if s.fuse = -1 then -1 else s.fuse - 1) ∧ (if s.fuse = -1 then -1 else s.fuse - 1) ≤ 9223372036854775807
      split <;> omega
    · show 0 ≤ s.made + 1
      omega
theorem letThrough_of (h : DiskAt w L s) (hr : Room s) : Calls Try.prog 48 #[.pointer (some ⟨L.d, 0, none⟩)] w fun e w' => e = .returned (.bool (lets s)) ∧ DiskAt w' L (letV s) ∧ Goes w w' L L := by
  have c6 := h.c6
  have c8 := h.c8
  have c7 := h.c7
  have f6 := h.free 6
  have f7 := h.free 7
  have f8 := h.free 8
  have hf := h.ok.fuse
  have hm := h.ok.made
  have hm2 := hr.made
  by_cases h0 : s.fuse = 0
  · rw [h0] at c6
    have e1 : letV s = { s with stopped := true } := by unfold letV; rw [if_pos h0]
    have hA := h.put (s' := letV s) 7 (.bool true) (by rw [e1]; rfl) (by rw [e1]) (by rw [e1]) (by rw [e1]) (letV_ok h.ok)
    have hA' : Hid (DiskAt (w.setCell ⟨L.d, 7, none⟩ (.bool true)) L (letV s)) := hA
    have hl : lets s = false := by unfold lets; simp [h0]
    rw [hl]
    clear hA h hr e1
    go_enter Try.func48, Try.ntmps48
    go_wp2
    go_ret
    exact ⟨rfl, hA'.out, Goes.put _ _ _ _⟩
  · have hl : lets s = true := by unfold lets; simp [h0]
    rw [hl]
    have hw8 : IntKind.i64.wrap (s.made + 1) = s.made + 1 := by rw [IntKind.wrap_i64]; omega
    by_cases h1 : s.fuse = -1
    · rw [h1] at c6
      have e1 : letV s = { s with made := s.made + 1 } := by unfold letV; rw [if_neg h0, if_pos h1, ← h1]
      have hA : Hid (DiskAt (w.setCell ⟨L.d, 8, none⟩ (.int .i64 (s.made + 1))) L (letV s)) := h.put (s' := letV s) 8 _ (by rw [e1]; rfl) (by rw [e1]) (by rw [e1]) (by rw [e1]) (letV_ok h.ok)
      clear h hr e1
      go_enter Try.func48, Try.ntmps48
      go_wp2
      go_ret
      exact ⟨rfl, hA.out, Goes.put _ _ _ _⟩
    · have hw6 : IntKind.i64.wrap (s.fuse - 1) = s.fuse - 1 := by rw [IntKind.wrap_i64]; omega
      let s1 : St := { s with fuse := s.fuse - 1 }
      have ok1 : Ok s1 := ⟨h.ok.n, h.ok.held, h.ok.wait, ⟨by show -1 ≤ s.fuse - 1; omega, by show s.fuse - 1 ≤ _; omega⟩, h.ok.made, h.ok.reads, h.ok.claims⟩
      have h1' : DiskAt (w.setCell ⟨L.d, 6, none⟩ (.int .i64 (s.fuse - 1))) L s1 := h.put (s' := s1) 6 _ rfl rfl rfl rfl ok1
      have e1 : letV s = { s with fuse := s.fuse - 1, made := s.made + 1 } := by unfold letV; rw [if_neg h0, if_neg h1]
      have hA : Hid (DiskAt ((w.setCell ⟨L.d, 6, none⟩ (.int .i64 (s.fuse - 1))).setCell ⟨L.d, 8, none⟩ (.int .i64 (s.made + 1))) L (letV s)) := h1'.put (s' := letV s) 8 _ (by rw [e1]; rfl) (by rw [e1]) (by rw [e1]) (by rw [e1]) (letV_ok h.ok)
      have hG : Hid (Goes w ((w.setCell ⟨L.d, 6, none⟩ (.int .i64 (s.fuse - 1))).setCell ⟨L.d, 8, none⟩ (.int .i64 (s.made + 1))) L L) := (Goes.put _ _ _ _).trans (Goes.put _ _ _ _)
      clear h hr e1 h1' ok1
      clear s1
      go_enter Try.func48, Try.ntmps48
      go_wp2
      go_ret
      exact ⟨rfl, hA.out, hG.out⟩

/-- A fuse of n. -/
def fuseV (s : St) (n : Int) : St := if s.stopped then s else { s with fuse := max n (-1) }
theorem fuse_of (h : DiskAt w L s) (n : Int) (hn : n ≤ 9223372036854775807) : Calls Try.prog 20 #[.pointer (some ⟨L.d, 0, none⟩), .int .i64 n] w fun e w' => e = .returned (.tuple #[]) ∧ DiskAt w' L (fuseV s n) ∧ Goes w w' L L := by
  have c7 := h.c7
  have f6 := h.free 6
  have c6 := h.c6
  have h0 := h.c0
  unfold fuseV
  cases hs : s.stopped
  · rw [hs] at c7
    have hA : Hid (DiskAt (w.setCell ⟨L.d, 6, none⟩ (.int .i64 (max n (-1)))) L { s with fuse := max n (-1) }) :=
      h.put (s' := { s with fuse := max n (-1) }) 6 _ rfl rfl rfl rfl ⟨h.ok.n, h.ok.held, h.ok.wait, ⟨by show -1 ≤ max n (-1); omega, by show max n (-1) ≤ _; omega⟩, h.ok.made, h.ok.reads, h.ok.claims⟩
    rw [hs] at hA
    clear h
    by_cases hn1 : -1 ≤ n
    · have e : max n (-1) = n := by omega
      rw [e] at hA ⊢
      go_enter Try.func20, Try.ntmps20
      go_wp2_with (first | (go_at_call 47; refine (none_no h0).mono ?_; rintro e W ⟨rfl, rfl⟩))
      go_end0
      exact ⟨rfl, hA.out, Goes.put _ _ _ _⟩
    · have e : max n (-1) = -1 := by omega
      rw [e] at hA ⊢
      go_enter Try.func20, Try.ntmps20
      go_wp2_with (first | (go_at_call 47; refine (none_no h0).mono ?_; rintro e W ⟨rfl, rfl⟩))
      go_end0
      exact ⟨rfl, hA.out, Goes.put _ _ _ _⟩
  · rw [hs] at c7
    have hA : Hid (DiskAt w L s) := h
    clear h
    go_enter Try.func20, Try.ntmps20
    go_wp2_with (first | (go_at_call 47; refine (none_no h0).mono ?_; rintro e W ⟨rfl, rfl⟩))
    refine bodyPost_ret (results_none rfl _ _ _) rfl ?_
    exact ⟨rfl, hA.out, Goes.refl _ _⟩
theorem fuse_none {v : Value} (h : NoneAt w v) (n : Int) : Calls Try.prog 20 #[v, .int .i64 n] w fun e w' => e = .returned (.tuple #[]) ∧ w' = w := by
  go_enter Try.func20, Try.ntmps20
  go_wp2_with (first | (go_at_call 47; refine (none_yes h).mono ?_; rintro e W ⟨rfl, rfl⟩))
  refine bodyPost_ret (results_none rfl _ _ _) rfl ?_
  exact ⟨rfl, rfl⟩
/-- A claim. -/
def claimV (s : St) : St := if s.stopped then s else { s with claims := s.claims + 1, claimed := true }
def claimN (s : St) : Int := if s.stopped then 0 else s.claims + 1
end Go.Proofs.Ytencclpcebpgmaa
/- A disk is made: of noughts, if its number of blocks may be; no condition. -/
namespace Go.Proofs.Ytencclpcebpgmaa
open Go.RowKit
variable {w : World} {L : Loc} {s : St}

def bndB (n : Int) : Bool := decide (1 ≤ n ∧ n ≤ 1048576)
theorem bounded_any (n : Int) (w : World) : Calls Try.prog 57 #[.int .i64 n] w fun e w' => e = .returned (.bool (bndB n)) ∧ w' = w := by
  by_cases h1 : 1 ≤ n
  · by_cases h2 : n ≤ 1048576
    · have e : bndB n = true := by unfold bndB; simp [h1, h2]
      rw [e]
      go_enter Try.func57, Try.ntmps57
      go_wp2
      go_ret
      exact ⟨rfl, rfl⟩
    · have e : bndB n = false := by unfold bndB; simp [h2]
      rw [e]
      go_enter Try.func57, Try.ntmps57
      go_wp2
      go_ret
      exact ⟨rfl, rfl⟩
  · have e : bndB n = false := by unfold bndB; simp [h1]
    rw [e]
    go_enter Try.func57, Try.ntmps57
    go_wp2
    go_ret
    exact ⟨rfl, rfl⟩
def newV (n : Int) : St := ⟨n, fun _ => none, [], [], -1, false, 0, 0, 0, false⟩
theorem newV_ok {n : Int} (h : bndB n = true) : Ok (newV n) := by
  have h' : 1 ≤ n ∧ n ≤ 1048576 := by simpa [bndB] using h
  exact ⟨h', fun k f hk => by simp [newV] at hk, fun c hc => by simp [newV] at hc, ⟨by show (-1 : Int) ≤ -1; omega, by show (-1 : Int) ≤ _; omega⟩, by show (0 : Int) ≤ 0; omega, by show (0 : Int) ≤ 0; omega, by show (0 : Int) ≤ 0; omega⟩
/-- All of the disk lies in memory from b on. -/
def Loc.from (L : Loc) (b : Nat) : Prop := ∀ k, L.has k → b ≤ k
def newL (w : World) : Loc := ⟨w.heap.size + 2, w.heap.size, w.heap.size + 1, .slice none 0 0⟩
theorem newL_from (w : World) : (newL w).from w.heap.size := by
  intro k hk
  rcases hk with h | h | h | h
  · have : k = w.heap.size + 2 := h
    omega
  · have : k = w.heap.size := h
    omega
  · have : k = w.heap.size + 1 := h
    omega
  · simp [newL, Value.ownBlock] at h
theorem new_at {n : Int} (h : bndB n = true) (w : World) :
    DiskAt (((w.alloc (.map #[] 0)).alloc (.map #[] 0)).alloc (.cells (dkRow (newL w) (newV n)) 78)) (newL w) (newV n) := by
  have s1 : (w.alloc (.map #[] 0)).heap.size = w.heap.size + 1 := by simp
  have s2 : ((w.alloc (.map #[] 0)).alloc (.map #[] 0)).heap.size = w.heap.size + 2 := by simp
  have m1 : MapIs Try.prog 3 (w.alloc (.map #[] 0)) w.heap.size (fun _ => none) := MapIs.made w
  have m2 : MapIs Try.prog 3 ((w.alloc (.map #[] 0)).alloc (.map #[] 0)) (w.heap.size + 1) (fun _ => none) := by
    have := MapIs.made (P := Try.prog) (k := 3) (w.alloc (.map #[] 0))
    rwa [s1] at this
  refine ⟨?_, ?_, ?_, ?_, ?_, newV_ok h⟩
  · have := heap_alloc_new ((w.alloc (.map #[] 0)).alloc (.map #[] 0)) (.cells (dkRow (newL w) (newV n)) 78)
    rw [s2] at this
    exact this
  · refine m1.kept ?_
    have b1 : Below (w.heap.size + 1) (w.alloc (.map #[] 0)) (((w.alloc (.map #[] 0)).alloc (.map #[] 0)).alloc (.cells (dkRow (newL w) (newV n)) 78)) :=
      ((Below.refl _ _).alloc (by omega) _).alloc (by omega) _
    exact b1.block _ (by show w.heap.size < _; omega)
  · have e : lateV (newV n) = fun _ => none := by funext k; simp [lateV, newV, lastAt]
    rw [e]
    refine m2.kept ?_
    have b1 : Below (w.heap.size + 2) ((w.alloc (.map #[] 0)).alloc (.map #[] 0)) (((w.alloc (.map #[] 0)).alloc (.map #[] 0)).alloc (.cells (dkRow (newL w) (newV n)) 78)) :=
      ((Below.refl _ _).alloc (by omega) _)
    exact b1.block _ (by show w.heap.size + 1 < _; omega)
  · exact World.ownsRow_nil _ 0 108 1026
  · show w.heap.size ≠ w.heap.size + 1
    omega
theorem new_bad {n : Int} (h : bndB n = false) (w : World) : Calls Try.prog 38 #[.int .i64 n] w fun e w' => e = .returned (.tuple #[.pointer none, .int .i64 2]) ∧ w' = w := by
  go_enter Try.func38, Try.ntmps38
  go_wp2_with (first | (go_at_call 57; refine (bounded_any n w).mono ?_; rw [h]; rintro e W ⟨rfl, rfl⟩))
  go_ret2
  exact ⟨rfl, rfl⟩
theorem new_ok {n : Int} (h : bndB n = true) (w : World) :
    Calls Try.prog 38 #[.int .i64 n] w fun e w' => ∃ L : Loc, e = .returned (.tuple #[.pointer (some ⟨L.d, 0, none⟩), .int .i64 0]) ∧ DiskAt w' L (newV n) ∧ L.from w.heap.size ∧ Below w.heap.size w w' := by
  have hA : Hid (DiskAt (((w.alloc (.map #[] 0)).alloc (.map #[] 0)).alloc (.cells (dkRow (newL w) (newV n)) 78)) (newL w) (newV n)) := new_at h w
  have hmm := @run_makeMap Try.prog
  go_enter Try.func38, Try.ntmps38
  go_wp2_with (first | (go_at_call 57; refine (bounded_any n w).mono ?_; rw [h]; rintro e W ⟨rfl, rfl⟩))
  go_ret2
  refine ⟨newL _, rfl, hA.out, newL_from _, ?_⟩
  exact (((Below.refl _ _).alloc (Nat.le_refl _) _).alloc (by simp) _).alloc (by simp; omega) _
end Go.Proofs.Ytencclpcebpgmaa
/- A block is held for good; what is pending, and that nothing is; no condition but that the block's number is one of the disk's. -/
namespace Go.Proofs.Ytencclpcebpgmaa
open Go.RowKit
variable {w : World} {L : Loc} {s : St}

/-- The bytes f lie in memory behind a place. -/
def BlkAt (w : World) (g off : Nat) (f : Nat → Int) : Prop := w.rangeAt g off (blk f).toList
theorem BlkAt.kept {w w' : World} {g off : Nat} {f : Nat → Int} (h : BlkAt w g off f) (hg : w'.heap[g]? = w.heap[g]?) : BlkAt w' g off f := fun j v hv => by
  have := h j v hv
  unfold World.cell? at this ⊢
  simp only at this ⊢
  rw [hg]
  exact this
theorem BlkAt.of {w : World} {g : Nat} {f : Nat → Int} {t : TypeId} (h : w.heap[g]? = some (.cells (blk f) t)) : BlkAt w g 0 f := fun j v hv => by
  rw [cell_of_row w g _ _ t _ h, Nat.zero_add, ← Array.getElem?_toList]
  exact hv
theorem loadM {w : World} {g off : Nat} {f : Nat → Int} (h : BlkAt w g off f) : (Instr.loadAt 59 (.pointer (some ⟨g, off, none⟩))).run Try.prog w = .ok (.agg (blk f)) w := by
  have hr := run_loadAt_mid (P := Try.prog) w g off 59 (blk f).toList _ h Try.underlying59 rfl (by rw [blk_list_len]; exact size25)
  rwa [Array.toArray_toList] at hr
theorem wpList_loadM {ops : Array Oper} {rest : List Oper} {o : Oper} {a : Act} {w : World} {Q : Exit → Act → World → Prop} (hgd : o.guard = none) (x : Operand) (ho : o.op = .load 59 x)
    (g off : Nat) (hx : a.eval x = .pointer (some ⟨g, off, none⟩)) (f : Nat → Int) (hg : BlkAt w g off f)
    (h : wpList Try.prog ops Q rest (a.put o.dst (.agg (blk f))) w) : wpList Try.prog ops Q (o :: rest) a w :=
  wpList_plain hgd fun _ hK => by
    unfold Oper.wp execOp
    simp only [ho, hx, loadM hg, Sem.run_bind, Result.andThen_ok, Sem.run_pure]
    exact hK _ _ h
theorem wpStill_loadM {ops : Array Oper} {Q : Act → Prop} {a : Act} {o : Oper} {rest : List Oper} {w : World} (hgd : o.guard = none) (x : Operand) (ho : o.op = .load 59 x)
    (g off : Nat) (hx : a.eval x = .pointer (some ⟨g, off, none⟩)) (f : Nat → Int) (hg : BlkAt w g off f)
    (h : wpStill Try.prog ops w Q rest (a.put o.dst (.agg (blk f)))) : wpStill Try.prog ops w Q (o :: rest) a := by
  unfold wpStill
  rw [if_pos (by simp [Region.wanted, hgd])]
  unfold Oper.still execOp
  simp only [ho, hx, loadM hg, Sem.run_bind, Result.andThen_ok, Sem.run_pure, Oper.stillUpon]
  exact ⟨trivial, h⟩
theorem built58 (u : World) : (Instr.build 59 #[]).run Try.prog u = .ok (.agg (blk nought)) u := by
  have z25 := zero25
  simp [Instr.build, z25, run_underlying Try.underlying59, Try.sizeOf5, Instr.fill, Value.cells]

theorem wpList_build58 {ops : Array Oper} {rest : List Oper} {o : Oper} {a : Act} {w : World} {Q : Exit → Act → World → Prop} (hgd : o.guard = none) (ho : o.op = .build 59 #[]) {N : Nat → Int}
    (hb : ∀ u, (Instr.build 59 #[]).run Try.prog u = .ok (.agg (blk N)) u) (h : wpList Try.prog ops Q rest (a.put o.dst (.agg (blk N))) w) : wpList Try.prog ops Q (o :: rest) a w :=
  wpList_plain hgd fun _ hK => by
    have e : (execOp a.eval o).run Try.prog w = .ok (.value (.agg (blk N))) w := by
      unfold execOp
      simp only [ho, Array.map_empty, Sem.run_bind]
      simp only [hb, Result.andThen_ok, Sem.run_pure]
    unfold Oper.wp
    rw [e]
    exact hK _ _ h

/-- Block k is held as f. -/
def holdV (s : St) (k : Int) (f : Nat → Int) : St := { s with held := fun j => if j = k then (if blankB f then none else some f) else s.held j }
theorem holdV_ok (h : Ok s) {k : Int} (hk : 0 ≤ k ∧ k < s.n) {f : Nat → Int} (hf : Can f) : Ok (holdV s k f) := by
  refine ⟨h.n, fun j g hj => ?_, h.wait, h.fuse, h.made, h.reads, h.claims⟩
  unfold holdV at hj
  simp only at hj
  by_cases e : j = k
  · rw [if_pos e] at hj
    cases hb : blankB f
    · rw [hb] at hj
      simp at hj
      subst hj
      exact ⟨by rw [e]; exact hk, hf, fun q => by rw [hf.blank.2 q] at hb; cases hb⟩
    · rw [hb] at hj; simp at hj
  · rw [if_neg e] at hj
    exact h.held j g hj
theorem holdV_heldV (s : St) (k : Int) (f : Nat → Int) : heldV (holdV s k f) = fun y => if y = k then (if blankB f then none else some (.agg (blk f))) else heldV s y := by
  funext y
  unfold heldV holdV
  simp only
  by_cases e : y = k
  · rw [if_pos e, if_pos e]
    cases blankB f <;> rfl
  · rw [if_neg e, if_neg e]
/-- Only the map of what is held has turned. -/
theorem DiskAt.hold (h : DiskAt w L s) {k : Int} (hk : 0 ≤ k ∧ k < s.n) {f : Nat → Int} (hf : Can f) {w' : World} (hm : MapIs Try.prog 3 w' L.hb (heldV (holdV s k f))) (hfr : Fr (fun i => i = L.hb) w w') : DiskAt w' L (holdV s k f) := by
  have hne : ∀ i, L.has i → i ≠ L.hb → w'.heap[i]? = w.heap[i]? := fun i hi q => hfr.block i (h.lt i hi) q
  obtain ⟨es, ck, hmm⟩ := h.held.isMap
  refine ⟨?_, hm, ?_, ?_, h.ne, holdV_ok h.ok hk hf⟩
  · rw [hne L.d (.inl rfl) fun e => by rw [← e, h.row] at hmm; cases hmm]
    exact h.row
  · exact h.late.kept (hne _ (.inr (.inr (.inl rfl))) fun e => h.ne e.symm)
  · refine ownsRow_kept0 h.hist fun i hi => hne i (.inr (.inr (.inr hi))) fun e => ?_
    rcases h.hist.2 with ⟨h1, _⟩ | ⟨g, cap, cur, h1, _, h2, _⟩
    · rw [h1] at hi; cases hi
    · rw [h1] at hi
      injection hi with hi
      rw [← hi] at e
      simp only at e
      rw [e, hmm] at h2
      cases h2
theorem keyed3 : Go.Maps.Keyed Try.prog 3 := Go.Maps.int_keyed Try.underlying3
theorem Fr.drew {T : Nat → Prop} (w : World) : Fr T w w.drew := ⟨rfl, rfl, rfl, Nat.le_refl _, fun _ _ _ => rfl⟩
theorem inTop_of (h : Ok s) {k : Int} (hk : 0 ≤ k ∧ k < s.n) : inTop k := by
  have := h.n
  unfold inTop
  omega

set_option maxRecDepth 20000 in
theorem hold_of (h : DiskAt w L s) {k : Int} (hk : 0 ≤ k ∧ k < s.n) {f : Nat → Int} (hf : Can f) {g off : Nat} (hg : BlkAt w g off f) :
    Calls Try.prog 50 #[.pointer (some ⟨L.d, 0, none⟩), .int .i64 k, .pointer (some ⟨g, off, none⟩)] w fun e w' => e = .returned (.tuple #[]) ∧ DiskAt w' L (holdV s k f) ∧ Fr (fun i => i = L.hb) w w' := by
  have hq := eq25
  have hbd := built58
  have c2 := h.c2
  have hin := inTop_of h.ok hk
  have hW := inTop.wf hin
  have HA : Hid (∀ w', MapIs Try.prog 3 w' L.hb (heldV (holdV s k f)) → Fr (fun i => i = L.hb) w w' → DiskAt w' L (holdV s k f)) := fun w' => h.hold hk hf
  rw [holdV_heldV] at HA
  have hM := h.held
  have hl : L.hb < w.heap.size := hM.lt
  cases hb : blankB f
  · rw [hb] at HA
    unfold blankB at hb
    clear h hf hk
    generalize nought = N at *
    go_enter Try.func50, Try.ntmps50
    go_wp2_with (first | refine wpList_loadM rfl _ rfl g off rfl f hg ?_ | refine wpList_build58 rfl rfl hbd ?_)
    go_still_tail 8, (by kernel_rfl)
    refine wpStill_loadM rfl _ rfl g off rfl f hg ?_
    refine wpStill_nil ?_
    change wpList _ _ _ _ _ (World.drew _)
    refine wpList_putM rfl _ _ _ 74 rfl 59 Try.underlying3 keyed3 Try.underlying74 L.hb _ rfl (hM.kept (w' := w.drew) rfl) k hin rfl _ rfl ?_
    intro w' hm' hg'
    have hF : Hid (Fr (fun i => i = L.hb) w w') := (Fr.drew w).trans ((Fr.ofGrown hg').mono fun i _ q => by injection q with q; exact q.symm) fun _ _ q => q
    have hD : Hid (DiskAt w' L (holdV s k f)) := HA.out w' hm' hF.out
    clear hm' hg' HA
    go_wp2
    go_end0
    exact ⟨rfl, hD.out, hF.out⟩
  · rw [hb] at HA
    unfold blankB at hb
    clear h hf hk
    generalize nought = N at *
    have HB : Hid (∀ w' : World, MapIs Try.prog 3 w' L.hb (fun y => if y = k then none else heldV s y) → w.grownBy w' (some L.hb) → DiskAt w' L (holdV s k f) ∧ Fr (fun i => i = L.hb) w w') := fun w' hm' hg' => by
      have hF : Fr (fun i => i = L.hb) w w' := (Fr.ofGrown hg').mono fun i _ q => by injection q with q; exact q.symm
      exact ⟨HA.out w' hm' hF, hF⟩
    clear HA
    go_enter Try.func50, Try.ntmps50
    go_wp2_with (first | refine wpList_loadM rfl _ rfl g off rfl f hg ?_ | refine wpList_build58 rfl rfl hbd ?_ | (refine wpList_delM rfl (.tmp 14) (.tmp 15) 74 rfl 59 Try.underlying3 keyed3 Try.underlying74 L.hb _ rfl hM k hW rfl ?_; intro w' hm' hg'))
    refine bodyPost_ret (results_none rfl _ _ _) rfl ?_
    exact ⟨rfl, HB.out _ hm' hg'⟩
end Go.Proofs.Ytencclpcebpgmaa
/- A holding in memory: its row of 1028 cells; what a store of one of its fields turns; no condition. -/
namespace Go.Proofs.Ytencclpcebpgmaa
open Go.RowKit

def ptr (g : Nat) : Value := .pointer (some ⟨g, 0, none⟩)
/-- A holding's cells, whatever stands where its neighbours do. -/
def rowV (k : Int) (b : Bool) (p q : Value) (f : Nat → Int) : Array Value := (.int .i64 k :: .bool b :: p :: q :: (blk f).toList).toArray
def ndRow (n : Nd) : Array Value := rowV n.pos n.fast (ptr n.pv) (ptr n.nx) n.dat
theorem rowV_size (k : Int) (b : Bool) (p q : Value) (f : Nat → Int) : (rowV k b p q f).size = 1028 := by simp [rowV, blk_size]
theorem rowV_set1 (k : Int) (b c : Bool) (p q : Value) (f : Nat → Int) : (rowV k b p q f).setIfInBounds 1 (.bool c) = rowV k c p q f := by unfold rowV; rw [List.setIfInBounds_toArray]; rfl
theorem rowV_set2 (k : Int) (b : Bool) (p q r : Value) (f : Nat → Int) : (rowV k b p q f).setIfInBounds 2 r = rowV k b r q f := by unfold rowV; rw [List.setIfInBounds_toArray]; rfl
theorem rowV_set3 (k : Int) (b : Bool) (p q r : Value) (f : Nat → Int) : (rowV k b p q f).setIfInBounds 3 r = rowV k b p r f := by unfold rowV; rw [List.setIfInBounds_toArray]; rfl
variable {w : World} {g : Nat} {k : Int} {b : Bool} {p q : Value} {f : Nat → Int}
/-- A row at g. -/
def RowAt (w : World) (g : Nat) (k : Int) (b : Bool) (p q : Value) (f : Nat → Int) : Prop := w.heap[g]? = some (.cells (rowV k b p q f) 98)
theorem RowAt.c0 (h : RowAt w g k b p q f) : w.cell? ⟨g, 0, none⟩ = some (.int .i64 k) := Joins.cell_of_block h 0
theorem RowAt.c1 (h : RowAt w g k b p q f) : w.cell? ⟨g, 1, none⟩ = some (.bool b) := Joins.cell_of_block h 1
theorem RowAt.c2 (h : RowAt w g k b p q f) : w.cell? ⟨g, 2, none⟩ = some p := Joins.cell_of_block h 2
theorem RowAt.c3 (h : RowAt w g k b p q f) : w.cell? ⟨g, 3, none⟩ = some q := Joins.cell_of_block h 3
theorem RowAt.free (h : RowAt w g k b p q f) (i : Nat) : w.frozen? ⟨g, i, none⟩ = false := Joins.unfrozen_of_block h i
theorem RowAt.bytes (h : RowAt w g k b p q f) : BlkAt w g 4 f := fun j v hv => by
  rw [Joins.cell_of_block h]
  unfold rowV
  generalize (blk f).toList = l at *
  rw [List.getElem?_toArray, show 4 + j = j + 4 by omega]
  exact hv
theorem RowAt.set1 (h : RowAt w g k b p q f) (c : Bool) : RowAt (w.setCell ⟨g, 1, none⟩ (.bool c)) g k c p q f := (Joins.block_setCell h _).trans (by rw [rowV_set1])
theorem RowAt.set2 (h : RowAt w g k b p q f) (r : Value) : RowAt (w.setCell ⟨g, 2, none⟩ r) g k b r q f := (Joins.block_setCell h _).trans (by rw [rowV_set2])
theorem RowAt.set3 (h : RowAt w g k b p q f) (r : Value) : RowAt (w.setCell ⟨g, 3, none⟩ r) g k b p r f := (Joins.block_setCell h _).trans (by rw [rowV_set3])
theorem RowAt.other (h : RowAt w g k b p q f) {j : Nat} (i : Nat) (v : Value) (hne : g ≠ j) : RowAt (w.setCell ⟨j, i, none⟩ v) g k b p q f := (Below.heap_setCell w _ v g hne).trans h
/-- Some cells of a block stored one behind the other. -/
theorem block_setCells (g : Nat) (t : TypeId) (post : List Value) : ∀ (vs mid pre : List Value) (w : World), mid.length = vs.length → w.heap[g]? = some (.cells (pre ++ (mid ++ post)).toArray t) →
    (w.setCells g pre.length vs).heap[g]? = some (.cells (pre ++ (vs ++ post)).toArray t)
  | [], mid, pre, w, hl, h => by
    have : mid = [] := List.eq_nil_of_length_eq_zero hl
    subst this
    exact h
  | v :: r, [], pre, w, hl, h => by simp at hl
  | v :: r, m :: mid, pre, w, hl, h => by
    have h1 := Joins.block_setCell (i := pre.length) h v
    have e : (pre ++ (m :: mid ++ post)).toArray.setIfInBounds pre.length v = ((pre ++ [v]) ++ (mid ++ post)).toArray := by
      rw [List.setIfInBounds_toArray, List.set_append_right _ _ (Nat.le_refl _)]
      simp
    rw [e] at h1
    have h2 := block_setCells g t post r mid (pre ++ [v]) _ (by simpa using hl) h1
    simp only [List.length_append, List.length_cons, List.length_nil] at h2
    show ((w.setCell ⟨g, pre.length, none⟩ v).setCells g (pre.length + 1) r).heap[g]? = _
    rw [h2]
    simp
theorem heap_setCells (b : Nat) : ∀ (vs : List Value) (o : Nat) (w : World) (k : Nat), k ≠ b → (w.setCells b o vs).heap[k]? = w.heap[k]?
  | [], _, _, _, _ => rfl
  | v :: r, o, w, k, h => (heap_setCells b r (o + 1) _ k h).trans (Below.heap_setCell w _ v k h)
theorem size_setCells (b : Nat) : ∀ (vs : List Value) (o : Nat) (w : World), (w.setCells b o vs).heap.size = w.heap.size
  | [], _, _ => rfl
  | v :: r, o, w => (size_setCells b r (o + 1) _).trans (by simp)
theorem rest_setCells (b : Nat) : ∀ (vs : List Value) (o : Nat) (w : World), (w.setCells b o vs).os = w.os ∧ (w.setCells b o vs).tape = w.tape ∧ (w.setCells b o vs).output = w.output
  | [], _, _ => ⟨rfl, rfl, rfl⟩
  | v :: r, o, w => rest_setCells b r (o + 1) (w.setCell ⟨b, o, none⟩ v)
theorem Fr.setCells (w : World) (g o : Nat) (vs : List Value) : Fr (fun k => k = g) w (w.setCells g o vs) :=
  have h := rest_setCells g vs o w
  ⟨h.1, h.2.1, h.2.2, Nat.le_of_eq (size_setCells g vs o w).symm, fun k _ hn => heap_setCells g vs o w k hn⟩
theorem RowAt.setD (h : RowAt w g k b p q f) (f' : Nat → Int) : RowAt (w.setCells g 4 (blk f').toList) g k b p q f' := by
  have hl : (blk f).toList.length = (blk f').toList.length := by rw [blk_list_len, blk_list_len]
  unfold RowAt rowV at *
  generalize (blk f).toList = l at *
  generalize (blk f').toList = l' at *
  have := block_setCells g 98 [] l' l [.int .i64 k, .bool b, p, q] w hl (by simpa using h)
  simpa using this
theorem RowAt.there (h : RowAt w g k b p q f) : w.there g 4 1024 := fun j hj => by
  refine ⟨?_, h.free _⟩
  rw [Joins.cell_of_block h, Array.getElem?_eq_getElem (by rw [rowV_size]; omega)]
  rfl
theorem wpList_storeM {ops : Array Oper} {rest : List Oper} {o : Oper} {a : Act} {Q : Exit → Act → World → Prop} (hgd : o.guard = none) (x y : Operand) (ho : o.op = .store 59 x y)
    (hx : a.eval x = .pointer (some ⟨g, 4, none⟩)) (f' : Nat → Int) (hy : a.eval y = .agg (blk f')) (h : w.there g 4 1024)
    (hK : wpList Try.prog ops Q rest (a.put o.dst undef) (w.setCells g 4 (blk f').toList)) : wpList Try.prog ops Q (o :: rest) a w :=
  wpList_store_mid hgd 59 x y ho g 4 (blk f') hx hy (by rw [blk_size]; exact h) (by rw [blk_size]; exact size25) (blk_one f') hK
end Go.Proofs.Ytencclpcebpgmaa
/- Regions whose order is drawn, walked in one order that is told: what only reads may come at any time, what acts comes where nothing else may; S holds all along. -/
namespace Go.Proofs.Ytencclpcebpgmaa
open Go.RowKit

section
variable {P : Program} {ops : Array Oper} {Q : Exit → Act → World → Prop} {S : World → Prop}

/-- May the operations be taken in this order? true: it is taken first; false: nothing else may come up. -/
def ordB (ops : Array Oper) : List (Nat × Bool) → Array Bool → Bool
  | [], listed => (Region.ready .any ops listed).isEmpty
  | (i, true) :: r, listed => (Region.ready .any ops listed).contains i && Region.free .any ops listed i && (ops[i]?).isSome && ordB ops r (listed.setIfInBounds i true)
  | (i, false) :: r, listed => (Region.ready .any ops listed == [i]) && (ops[i]?).isSome && ordB ops r (listed.setIfInBounds i true)

/-- The operations themselves, in that order. -/
def inOrd (ol : List Oper) : List (Nat × Bool) → List (Bool × Oper)
  | [] => []
  | (i, b) :: r => match ol[i]? with
    | some o => (b, o) :: inOrd ol r
    | none => inOrd ol r

def wpOrd (P : Program) (ops : Array Oper) (Q : Exit → Act → World → Prop) (S : World → Prop) : List (Bool × Oper) → Act → World → Prop
  | [], a, w => Q .normal a w
  | (true, o) :: r, a, w => ∃ v, YieldsIf P ops S o v a ∧ wpOrd P ops Q S r (a.put o.dst v) w
  | (false, o) :: r, a, w => if Region.wanted o (yielded ops a.tmps) then o.wp P a w (fun a' w' => S w' ∧ wpOrd P ops Q S r a' w') Q else S w ∧ wpOrd P ops Q S r (a.put o.dst undef) w

theorem wpOrd_any {ol : List Oper} (hs : Region.noSelect ol.toArray = true) (hQ : ∀ d v c a w, Q (.panic c) (a.put d v) w → Q (.panic c) a w) : ∀ (l : List (Nat × Bool)) (listed : Array Bool) (a : Act) (w : World), S w →
    ordB ol.toArray l listed = true → wpOrd P ol.toArray Q S (inOrd ol l) a w → wpAnyH P .any ol.toArray Q S l.length listed a w
  | [], listed, a, w, _, hB, h => wpAnyH_done (by simpa [ordB] using hB) h _
  | (i, true) :: r, listed, a, w, hS, hB, h => by
    simp only [ordB, Bool.and_eq_true] at hB
    obtain ⟨⟨⟨h1, h2⟩, h3⟩, h4⟩ := hB
    obtain ⟨o, hi⟩ := Option.isSome_iff_exists.1 h3
    have hi' : ol[i]? = some o := by simpa using hi
    simp only [inOrd, hi', wpOrd] at h
    obtain ⟨v, hy, hr⟩ := h
    exact wpAnyH_take hi hs h2 h1 (fun c a w => hQ _ _ c a w) hy hS (wpOrd_any hs hQ r _ _ w hS h4 hr)
  | (i, false) :: r, listed, a, w, hS, hB, h => by
    simp only [ordB, Bool.and_eq_true, beq_iff_eq] at hB
    obtain ⟨⟨h1, h3⟩, h2⟩ := hB
    obtain ⟨o, hi⟩ := Option.isSome_iff_exists.1 h3
    have hi' : ol[i]? = some o := by simpa using hi
    simp only [inOrd, hi', wpOrd] at h
    refine wpAnyH_all h1 (by simp) fun j hj => ?_
    obtain rfl : j = i := by simpa using hj
    unfold wpOp
    rw [hi]
    simp only
    split
    · rename_i hw
      rw [if_pos hw] at h
      exact .inl (Oper.wp_mono (fun a' w' h' => ⟨h'.1, wpOrd_any hs hQ r _ a' w' h'.1 h2 h'.2⟩) h)
    · rename_i hw
      rw [if_neg hw] at h
      exact ⟨h.1, wpOrd_any hs hQ r _ _ w h.1 h2 h.2⟩

/-- A region that draws its order, walked in the order l. -/
theorem wp_region_ord {id : Nat} {a : Act} {w : World} {ol : List Oper} (l : List (Nat × Bool)) (hm : P.follows .mixedOrders = true) (hl : l.length = ol.length)
    (hB : (Region.noSelect ol.toArray && ordB ol.toArray l (Array.replicate ol.toArray.size false)) = true) (hQ : ∀ d v c a w, Q (.panic c) (a.put d v) w → Q (.panic c) a w)
    (hS : S w.drew) (h : wpOrd P ol.toArray Q S (inOrd ol l) a w.drew) : (Code.region id ol.toArray true).wp P Q a w := by
  simp only [Bool.and_eq_true] at hB
  have h1 := wpOrd_any hB.1 hQ l _ a w.drew hS hB.2 h
  rw [hl] at h1
  exact wp_region_held hm (by simpa using h1)

theorem wpOrd_nil {a : Act} {w : World} (h : Q .normal a w) : wpOrd P ops Q S [] a w := h
theorem wpOrd_skip {r : List (Bool × Oper)} {b : Bool} {a : Act} {w : World} {o : Oper} (hS : S w) (hw : Region.wanted o (yielded ops a.tmps) = false) (h : wpOrd P ops Q S r (a.put o.dst undef) w) :
    wpOrd P ops Q S ((b, o) :: r) a w := by
  cases b
  · simp only [wpOrd, hw, Bool.false_eq_true, if_false]
    exact ⟨hS, h⟩
  · exact ⟨undef, .inr ⟨hw, rfl⟩, h⟩
theorem wpOrd_yield {r : List (Bool × Oper)} {a : Act} {w : World} {o : Oper} {v : Value} (hw : Region.wanted o (yielded ops a.tmps) = true)
    (hr : ∀ u, S u → (execOp a.eval o).run P u = .ok (.value v) u) (h : wpOrd P ops Q S r (a.put o.dst v) w) : wpOrd P ops Q S ((true, o) :: r) a w :=
  ⟨v, .inl ⟨hw, hr⟩, h⟩
theorem wpOrd_move {r : List (Bool × Oper)} {a : Act} {w : World} {o : Oper} (hw : Region.wanted o (yielded ops a.tmps) = true) (x : Operand) (ho : o.op = .move x)
    (h : wpOrd P ops Q S r (a.put o.dst (a.eval x)) w) : wpOrd P ops Q S ((true, o) :: r) a w :=
  wpOrd_yield hw (fun u _ => by simp [execOp, ho]) h
theorem wpOrd_call {r : List (Bool × Oper)} {a : Act} {w : World} {o : Oper} (hw : Region.wanted o (yielded ops a.tmps) = true) (f : FuncId) (xs : List Operand) (ts : Array TypeId)
    (ho : o.op = .call { callee := .value (.func f), args := xs.toArray, argTypes := ts }) (hc : ∀ args u, (callFunc f args).run P u = .ok (.enter f args) u) (args : List Value) (hx : xs.map a.eval = args)
    (h : Calls P f args.toArray w fun e w' => ∃ v, e = .returned v ∧ S w' ∧ wpOrd P ops Q S r (a.put o.dst v) w') : wpOrd P ops Q S ((false, o) :: r) a w := by
  simp only [wpOrd, hw, if_true]
  unfold Oper.wp execOp
  have e : (do let d ← resolve a.eval { callee := .value (.func f), args := xs.toArray, argTypes := ts } o.type; invoke d.target d.args : Sem Next).run P w = .ok (.enter f args.toArray) w := by
    have hx' : xs.toArray.map a.eval = args.toArray := by rw [← hx]; simp
    simp only [resolve, hx']
    simp [Act.eval, Deferred.ofValue, invoke, hc]
  simp only [ho]
  rw [e]
  unfold Oper.upon
  exact h.mono fun e w' ⟨v, he, h1, h2⟩ => by subst he; exact ⟨h1, h2⟩
end
end Go.Proofs.Ytencclpcebpgmaa
