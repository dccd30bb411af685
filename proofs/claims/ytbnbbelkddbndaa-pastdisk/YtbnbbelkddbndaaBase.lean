import Derived.WalkKit
import Derived.WalkSpells
import Derived.WalkLawsBesides
import Derived.Deep.WholeRow
import Derived.Laws.StructEq
import Derived.Test.YtbnbbelkddbndaaRows
import Derived.BigQuiet
/- What a block of 1024 bytes is as cells: a plain function from places to numbers, laid as cells; no condition. -/
namespace Go.Proofs.Ytbnbbelkddbndaa
open Go.RowKit

/-- The cells of a block whose byte at place i is f i. -/
def blk (f : Nat → Int) : Array Value := ((List.range 1024).map fun i => Value.int .u8 (f i)).toArray
/-- f, but for x at place i. -/
def upd (f : Nat → Int) (i : Nat) (x : Int) : Nat → Int := fun j => if j = i then x else f j
def nought : Nat → Int := fun _ => 0

theorem blk_size (f : Nat → Int) : (blk f).size = 1024 := by simp [blk]
theorem blk_get (f : Nat → Int) (i : Nat) (h : i < 1024) : (blk f)[i]? = some (.int .u8 (f i)) := by
  simp [blk, h]
theorem blk_set (f : Nat → Int) (i : Nat) (x : Int) : (blk f).setIfInBounds i (.int .u8 x) = blk (upd f i x) := by
  apply Array.ext_getElem?
  intro j
  by_cases hj : j < 1024
  · rw [blk_get _ _ hj, Array.getElem?_setIfInBounds]
    by_cases e : i = j
    · subst e; simp [blk_size, hj, upd]
    · have e' : ¬ j = i := fun q => e q.symm
      simp [e, e', blk_get _ _ hj, upd]
  · rw [Array.getElem?_eq_none (by rw [Array.size_setIfInBounds, blk_size]; omega), Array.getElem?_eq_none (by rw [blk_size]; omega)]
theorem blk_congr {f g : Nat → Int} (h : ∀ i, i < 1024 → f i = g i) : blk f = blk g := by
  apply Array.ext_getElem?
  intro j
  by_cases hj : j < 1024
  · rw [blk_get _ _ hj, blk_get _ _ hj, h j hj]
  · rw [Array.getElem?_eq_none (by rw [blk_size]; omega), Array.getElem?_eq_none (by rw [blk_size]; omega)]
theorem blk_one (f : Nat → Int) : (blk f).all (·.oneCell') = true := by
  rw [Array.all_eq_true_iff_forall_mem]
  intro v hv
  simp [blk] at hv
  obtain ⟨i, _, rfl⟩ := hv
  rfl
end Go.Proofs.Ytbnbbelkddbndaa
/- The block type of this program over its translation: loads, stores and results of whole blocks; fits; no condition. -/
namespace Go.Proofs.Ytbnbbelkddbndaa
open Go.RowKit

theorem info25 : (Try.prog.info? 40).map (fun i => (i.zero, i.size)) = some (some (.agg (blk nought)), 1024) := by kernel_rfl
theorem zero25 : ∀ w, (zeroValue 40).run Try.prog w = .ok (.agg (blk nought)) w := (zero_of_info info25).1
theorem size25 : (Try.prog.info? 40).map (·.size) = some 1024 := (zero_of_info info25).2

def firsts (f : Nat → Int) (k : Nat) : Nat → Int := fun i => if i < k then f i else 0
theorem firsts_next (f : Nat → Int) (k : Nat) : upd (firsts f k) k (f k) = firsts f (k + 1) := by
  funext j
  unfold upd firsts
  by_cases h : j = k
  · subst h; simp
  · by_cases h2 : j < k
    · simp [h, h2, show j < k + 1 by omega]
    · simp [h, h2, show ¬ j < k + 1 by omega]

theorem wpList_load25 {ops : Array Oper} {rest : List Oper} {o : Oper} {a : Act} {w : World} {Q : Exit → Act → World → Prop} (hgd : o.guard = none) (x : Operand) (ho : o.op = .load 40 x)
    (g : Nat) (hx : a.eval x = .pointer (some ⟨g, 0, none⟩)) (f : Nat → Int) (hg : w.heap[g]? = some (.cells (blk f) 40))
    (h : wpList Try.prog ops Q rest (a.put o.dst (.agg (blk f))) w) : wpList Try.prog ops Q (o :: rest) a w :=
  wpList_load_row hgd 40 x ho g hx 40 (blk f) (0, 0) _ hg Try.underlying40 rfl (by rw [blk_size]; exact size25) h
theorem wpList_store25 {ops : Array Oper} {rest : List Oper} {o : Oper} {a : Act} {w : World} {Q : Exit → Act → World → Prop} (hgd : o.guard = none) (x y : Operand) (ho : o.op = .store 40 x y)
    (g : Nat) (f : Nat → Int) (hx : a.eval x = .pointer (some ⟨g, 0, none⟩)) (hy : a.eval y = .agg (blk f)) (f0 : Nat → Int) (hg : w.heap[g]? = some (.cells (blk f0) 40))
    (h : wpList Try.prog ops Q rest (a.put o.dst undef) (w.setRow g (blk f))) : wpList Try.prog ops Q (o :: rest) a w :=
  wpList_plain hgd fun _ hK => by
    unfold Oper.wp execOp
    simp only [ho, hx, hy, Instr.storeAt, Instr.sureAddr, Sem.run_bind, Sem.run_pure, Result.andThen_ok, run_storeVar_row w g 40 40 (blk f0) (blk f) hg (by rw [blk_size]; exact size25) (by rw [blk_size, blk_size]) (blk_one f)]
    exact hK _ _ h

/-- A result that is a whole block in a cell. -/
theorem ret25 {fn : Func} {p : Tmp} {R : Ending → World → Prop} {a : Act} {w : World} (h : fn.results = #[.cell p 40]) (g : Nat) (f : Nat → Int)
    (hp : a.tmps.getD p undef = .pointer (some ⟨g, 0, none⟩)) (hg : w.heap[g]? = some (.cells (blk f) 40)) (hd : a.defers = []) (hR : R (.returned (.agg (blk f))) w) : bodyPost Try.prog fn R .ret a w :=
  bodyPost_ret (results_cell_row h a.tmps w g 40 (blk f) (0, 0) _ hp hg Try.underlying40 rfl (by rw [blk_size]; exact size25)) hd hR
theorem below_setRow {B : Nat} {a w : World} (h : Below B a w) {g : Nat} (hg : B ≤ g) (cs : Array Value) : Below B a (w.setRow g cs) :=
  h.trans ⟨rfl, rfl, rfl, by simp, fun k hk => setRow_other w g k cs (by omega)⟩
theorem below2 (w : World) (a b : Obj) (g : Nat) (hg : w.heap.size ≤ g) (cs : Array Value) : Below w.heap.size w (((w.alloc a).alloc b).setRow g cs) :=
  below_setRow (((Below.refl _ _).alloc (Nat.le_refl _) _).alloc (by simp) _) hg _
end Go.Proofs.Ytbnbbelkddbndaa
/- Two blocks held against each other: equal just where every byte is; for every two blocks. -/
namespace Go.Proofs.Ytbnbbelkddbndaa
open Go.RowKit

def sameB (f g : Nat → Int) : Bool := (List.range 1024).all fun i => f i == g i
theorem sameB_iff (f g : Nat → Int) : sameB f g = true ↔ ∀ i, i < 1024 → f i = g i := by
  simp [sameB, List.all_eq_true, List.mem_range]
theorem sameB_self (f : Nat → Int) : sameB f f = true := (sameB_iff f f).2 fun _ _ => rfl

theorem part5 (f : Nat → Int) (i : Nat) (hi : i < 1024) (w : World) : (part 5 (blk f) (i * 1)).run Try.prog w = .ok (.int .u8 (f i)) w := by
  have hb := blk_get f i hi
  simp [part, Try.isAgg5, hb]
theorem each25 (d : Nat) (f g : Nat → Int) (w : World) : ∀ l : List Nat, (∀ i, i ∈ l → i < 1024) →
    (forIn (m := Sem) l ((none : Option Bool), ()) fun i _ => do
            let x ← part 5 (blk f) (i * 1)
            let y ← part 5 (blk g) (i * 1)
            let b ← Op.equalIn (d + 1) 5 x y
            if (!b) = true then pure (ForInStep.done (some false, ())) else pure (ForInStep.yield (none, ()))).run Try.prog w
      = .ok ((if l.all (fun i => f i == g i) then none else some false), ()) w
  | [], _ => by simp
  | i :: l, h => by
    have h1 := part5 f i (h i (by simp)) w
    have h2 := part5 g i (h i (by simp)) w
    have ih := each25 d f g w l fun j hj => h j (by simp [hj])
    have he := run_equalIn_int (P := Try.prog) w d 5 .u8 .u8 (f i) (g i) Try.underlying5
    simp only [List.forIn_cons, Sem.run_bind, h1, h2, he, Result.andThen_ok, List.all_cons]
    by_cases e : f i = g i
    · simp only [e, beq_self_eq_true, Bool.not_true, Bool.false_eq_true, if_false, Sem.run_pure, Result.andThen_ok, Bool.true_and]
      exact ih
    · have e' : (f i == g i) = false := by simp [e]
      simp [e']
theorem eq25 (f g : Nat → Int) (w : World) : (Op.equalIn 10000 40 (.agg (blk f)) (.agg (blk g))).run Try.prog w = .ok (sameB f g) w := by
  have key := each25 9998 f g w (List.range' 0 [:1024].size) (fun i hi => by simpa [Std.Legacy.Range.size] using hi)
  show (Op.equalIn (9998 + 1 + 1) 40 (.agg (blk f)) (.agg (blk g))).run Try.prog w = _
  rw [Op.equalIn]
  simp only [Sem.run_bind, run_underlying Try.underlying40, Result.andThen_ok]
  rw [show (sizeOf 5).run Try.prog w = .ok 1 w by simp [go_sem]]
  simp only [Result.andThen_ok, Std.Legacy.Range.forIn_eq_forIn_range']
  refine (congrArg (fun r => Result.andThen r _) key).trans ?_
  have hr : List.range' 0 [:1024].size = List.range 1024 := by simp [Std.Legacy.Range.size, List.range_eq_range']
  rw [hr]
  show Result.andThen (Result.ok ((if sameB f g = true then none else some false), ()) w) _ = _
  cases sameB f g <;> simp
end Go.Proofs.Ytbnbbelkddbndaa
/- Rising lists of blocks by their numbers, as plain lists: what stands at a number, a block laid into a list; no condition but that the list rises. (Made ahead for stage 4.) -/
namespace Go.Proofs.Ytbnbbelkddbndaa

/-- A block's bytes behind a number. -/
abbrev Cel := Int × (Nat → Int)
/-- A block of bytes of which nothing but noughts stands behind byte 1023. -/
def Can (f : Nat → Int) : Prop := (∀ i, 0 ≤ f i ∧ f i ≤ 255) ∧ ∀ i, 1024 ≤ i → f i = 0
theorem can_nought : Can nought := ⟨fun _ => by unfold nought; omega, fun _ _ => rfl⟩
theorem Can.ext {f g : Nat → Int} (hf : Can f) (hg : Can g) (h : ∀ i, i < 1024 → f i = g i) : f = g := by
  funext i
  by_cases hi : i < 1024
  · exact h i hi
  · rw [hf.2 i (by omega), hg.2 i (by omega)]
theorem Can.same {f g : Nat → Int} (hf : Can f) (hg : Can g) : sameB f g = true ↔ f = g :=
  ⟨fun h => hf.ext hg ((sameB_iff f g).1 h), fun h => by subst h; exact sameB_self f⟩
/-- Is a block blank? -/
def blankB (f : Nat → Int) : Bool := sameB f nought
theorem Can.blank {f : Nat → Int} (hf : Can f) : blankB f = true ↔ f = nought := hf.same can_nought

/-- What stands at a number; noughts, if nothing does. -/
def atL : List Cel → Int → Nat → Int
  | [], _ => nought
  | (i, x) :: t, k => if i = k then x else atL t k
/-- All numbers are greater than m, and they rise. -/
def Rise : Int → List Cel → Prop
  | _, [] => True
  | m, (i, _) :: t => m < i ∧ Rise i t
/-- All blocks are blocks, none of them blank. -/
def Sound (l : List Cel) : Prop := ∀ c ∈ l, Can c.2 ∧ c.2 ≠ nought
/-- A block laid into a list: the numbers from k on are met; done: nothing is to be laid any more. -/
def laidGo (k : Int) (b : Nat → Int) : Bool → List Cel → List Cel
  | done, [] => if done then [] else [(k, b)]
  | done, (i, x) :: t => (if !done && decide (k ≤ i) then [(k, b)] else []) ++ ((if i = k then [] else [(i, x)]) ++ laidGo k b (done || decide (k ≤ i)) t)
def laidL (l : List Cel) (k : Int) (b : Nat → Int) : List Cel := laidGo k b (blankB b) l

theorem Rise.mono {m m' : Int} (h : m' ≤ m) : ∀ {l : List Cel}, Rise m l → Rise m' l
  | [], _ => trivial
  | (_, _) :: _, hl => ⟨by have := hl.1; omega, hl.2⟩
theorem at_above {m : Int} : ∀ {l : List Cel}, Rise m l → ∀ k, k ≤ m → atL l k = nought
  | [], _, _, _ => rfl
  | (i, x) :: t, hl, k, hk => by
    have h1 := hl.1
    unfold atL
    rw [if_neg (by omega)]
    exact at_above hl.2 k (by omega)
theorem at_can {l : List Cel} (hl : Sound l) (k : Int) : Can (atL l k) := by
  induction l with
  | nil => exact can_nought
  | cons c t ih =>
    obtain ⟨i, x⟩ := c
    unfold atL
    split
    · exact (hl (i, x) (by simp)).1
    · exact ih fun c hc => hl c (by simp [hc])
/-- Two rising lists with the same blocks at all numbers are one. -/
theorem rise_ext : ∀ {m m' : Int} {l l' : List Cel}, Rise m l → Rise m' l' → Sound l → Sound l' → (∀ k, atL l k = atL l' k) → l = l'
  | _, _, [], [], _, _, _, _, _ => rfl
  | _, _, [], (i, x) :: t, _, _, _, s', h => by
    have := h i
    simp only [atL, if_pos] at this
    exact absurd this.symm (s' (i, x) (by simp)).2
  | _, _, (i, x) :: t, [], _, _, s, _, h => by
    have := h i
    simp only [atL, if_pos] at this
    exact absurd this (s (i, x) (by simp)).2
  | _, _, (i, x) :: t, (j, y) :: t', r, r', s, s', h => by
    have hij : i = j := by
      by_cases h1 : i < j
      · have := h i
        rw [show atL ((j, y) :: t') i = nought from at_above (show Rise i ((j, y) :: t') from ⟨h1, r'.2⟩) i (Int.le_refl _)] at this
        simp only [atL, if_pos] at this
        exact absurd this (s (i, x) (by simp)).2
      · by_cases h2 : j < i
        · have := h j
          rw [show atL ((i, x) :: t) j = nought from at_above (show Rise j ((i, x) :: t) from ⟨h2, r.2⟩) j (Int.le_refl _)] at this
          simp only [atL, if_pos] at this
          exact absurd this.symm (s' (j, y) (by simp)).2
        · omega
    subst hij
    have hxy : x = y := by
      have := h i
      simpa only [atL, if_pos] using this
    subst hxy
    have ht : t = t' := by
      refine rise_ext r.2 r'.2 (fun c hc => s c (by simp [hc])) (fun c hc => s' c (by simp [hc])) fun k => ?_
      by_cases hk : i = k
      · subst hk
        rw [at_above r.2 i (Int.le_refl _), at_above r'.2 i (Int.le_refl _)]
      · have := h k
        simpa only [atL, if_neg hk] using this
    rw [ht]

theorem laid_done (k : Int) (b : Nat → Int) : ∀ {m : Int} {l : List Cel}, k ≤ m → Rise m l → laidGo k b true l = l
  | _, [], _, _ => rfl
  | m, (i, x) :: t, hk, hl => by
    have h1 := hl.1
    unfold laidGo
    simp only [Bool.not_true, Bool.false_and, Bool.false_eq_true, if_false, List.nil_append, Bool.true_or]
    rw [if_neg (by omega), laid_done k b (m := i) (by omega) hl.2]
    rfl
/-- What a list is behind the laying: it rises, it is sound, and at k stands b; all else stays. -/
theorem laid_spec (k : Int) (b : Nat → Int) (hb : Can b) : ∀ {m : Int} {l : List Cel}, m < k → Rise m l → Sound l →
    Rise m (laidL l k b) ∧ Sound (laidL l k b) ∧ ∀ j, atL (laidL l k b) j = if j = k then b else atL l j := by
  unfold laidL
  cases hbl : blankB b
  · have hne : b ≠ nought := fun h => by rw [hb.blank.2 h] at hbl; cases hbl
    intro m l
    induction l generalizing m with
    | nil =>
      intro hk _ _
      refine ⟨⟨hk, trivial⟩, fun c hc => ?_, fun j => ?_⟩
      · have : c = (k, b) := by simpa [laidGo] using hc
        subst this
        exact ⟨hb, hne⟩
      · simp only [laidGo, Bool.false_eq_true, if_false, atL]
        by_cases hj : j = k
        · rw [if_pos hj.symm, if_pos hj]
        · rw [if_neg (fun h => hj h.symm), if_neg hj]
    | cons c t ih =>
      obtain ⟨i, x⟩ := c
      intro hk hl hs
      have h1 := hl.1
      have hst : Sound t := fun c hc => hs c (by simp [hc])
      unfold laidGo
      simp only [Bool.not_false, Bool.true_and, Bool.false_or]
      by_cases hki : k ≤ i
      · rw [if_pos (by simpa using hki), decide_eq_true hki, laid_done k b hki hl.2]
        by_cases hik : i = k
        · subst hik
          rw [if_pos rfl]
          refine ⟨⟨hk, hl.2⟩, fun c hc => ?_, fun j => ?_⟩
          · have : c = (i, b) ∨ c ∈ t := by simpa using hc
            rcases this with rfl | h
            · exact ⟨hb, hne⟩
            · exact hst c h
          · simp only [List.singleton_append, List.nil_append, atL]
            by_cases hj : j = i
            · rw [if_pos hj.symm, if_pos hj]
            · rw [if_neg (fun h => hj h.symm), if_neg hj, if_neg (fun h => hj h.symm)]
        · rw [if_neg hik]
          refine ⟨⟨hk, by omega, hl.2⟩, fun c hc => ?_, fun j => ?_⟩
          · have : c = (k, b) ∨ c = (i, x) ∨ c ∈ t := by simpa using hc
            rcases this with rfl | rfl | h
            · exact ⟨hb, hne⟩
            · exact hs _ (by simp)
            · exact hst c h
          · simp only [List.singleton_append, atL]
            by_cases hj : j = k
            · rw [if_pos hj.symm, if_pos hj]
            · rw [if_neg (fun h => hj h.symm), if_neg hj]
      · rw [if_neg (by simpa using hki), if_neg (by omega), decide_eq_false hki]
        obtain ⟨r1, r2, r3⟩ := ih (m := i) (by omega) hl.2 hst
        refine ⟨⟨h1, r1⟩, fun c hc => ?_, fun j => ?_⟩
        · have : c = (i, x) ∨ c ∈ laidGo k b false t := by simpa using hc
          rcases this with rfl | h
          · exact hs _ (by simp)
          · exact r2 c h
        · simp only [List.nil_append, List.singleton_append, atL]
          rw [r3 j]
          by_cases hj : i = j
          · rw [if_pos hj, if_pos hj, if_neg (by omega)]
          · rw [if_neg hj, if_neg hj]
  · have hb0 : b = nought := hb.blank.1 hbl
    subst hb0
    intro m l
    induction l generalizing m with
    | nil =>
      intro _ _ _
      refine ⟨trivial, fun c hc => by simp [laidGo] at hc, fun j => ?_⟩
      simp [laidGo, atL]
    | cons c t ih =>
      obtain ⟨i, x⟩ := c
      intro hk hl hs
      have h1 := hl.1
      have hst : Sound t := fun c hc => hs c (by simp [hc])
      unfold laidGo
      simp only [Bool.not_true, Bool.false_and, Bool.false_eq_true, if_false, List.nil_append, Bool.true_or]
      by_cases hik : i = k
      · subst hik
        rw [if_pos rfl, laid_done i nought (Int.le_refl _) hl.2, List.nil_append]
        refine ⟨hl.2.mono (by omega), hst, fun j => ?_⟩
        simp only [atL]
        by_cases hj : j = i
        · rw [if_pos hj, hj]; exact at_above hl.2 i (Int.le_refl _)
        · rw [if_neg hj, if_neg (fun h => hj h.symm)]
      · rw [if_neg hik]
        by_cases hlt : i < k
        · obtain ⟨r1, r2, r3⟩ := ih (m := i) hlt hl.2 hst
          refine ⟨⟨h1, r1⟩, fun c hc => ?_, fun j => ?_⟩
          · have : c = (i, x) ∨ c ∈ laidGo k nought true t := by simpa using hc
            rcases this with rfl | h
            · exact hs _ (by simp)
            · exact r2 c h
          · simp only [List.singleton_append, atL]
            rw [r3 j]
            by_cases hj : i = j
            · rw [if_pos hj, if_pos hj, if_neg (by omega)]
            · rw [if_neg hj, if_neg hj]
        · rw [laid_done k nought (m := i) (by omega) hl.2]
          refine ⟨⟨h1, hl.2⟩, hs, fun j => ?_⟩
          simp only [List.singleton_append]
          by_cases hj : j = k
          · rw [if_pos hj, hj]
            exact at_above (show Rise k ((i, x) :: t) from ⟨by omega, hl.2⟩) k (Int.le_refl _)
          · rw [if_neg hj]
end Go.Proofs.Ytbnbbelkddbndaa
/- Regions whose order is drawn and whose calls make memory but turn none that was there: one walk in the text's order serves every order. -/
namespace Go.Proofs.Ytbnbbelkddbndaa
open Go.RowKit

/-- A world that has all that W has, and perhaps more behind it. -/
structure Later (W : World) where
  val : World
  below : Below W.heap.size W val

theorem later_some (W : World) : Nonempty (Later W) := ⟨⟨W, Below.refl _ _⟩⟩
theorem Later.cell {W : World} (x : Later W) (p : Addr) (h : p.block < W.heap.size) : x.val.cell? p = W.cell? p := x.below.cell h
theorem Later.heap {W : World} (x : Later W) (g : Nat) (h : g < W.heap.size) : x.val.heap[g]? = W.heap[g]? := x.below.block g h

theorem wp_region_later {id : Nat} {Q : Exit → Act → World → Prop} {a : Act} {w : World} {l : List Oper} (hm : Try.prog.follows .mixedOrders = true) (hB : Region.lexB .any l.toArray = true)
    (W : World) (hW : Below W.heap.size W w)
    (h : wpQuiet Try.prog l.toArray (fun w' => ∃ x : Later W, w' = x.val) (fun a' => ∀ w', (∃ x : Later W, w' = x.val) → Q .normal a' w') l a) : (Code.region id l.toArray true).wp Try.prog Q a w :=
  wp_region_quiet (C := fun w' => ∃ x : Later W, w' = x.val) hm hB ⟨⟨_, hW.drew⟩, rfl⟩ (by simpa using h)

theorem Later.call {W : World} (x : Later W) {f : FuncId} {args : Array Value} {v : Value}
    (h : Calls Try.prog f args x.val fun e w' => e = .returned v ∧ Below x.val.heap.size x.val w') : Calls Try.prog f args x.val fun e w'' => e = .returned v ∧ ∃ y : Later W, w'' = y.val :=
  h.mono fun _ w' ⟨he, hb⟩ => ⟨he, ⟨w', x.below.trans (hb.mono x.below.size)⟩, rfl⟩

theorem quiet_load25 {W : World} {o : Oper} {a : Act} {K : Act → Prop} (x : Operand) (ho : o.op = .load 40 x) (g : Nat) (hx : a.eval x = .pointer (some ⟨g, 0, none⟩)) (f : Nat → Int)
    (hg : W.heap[g]? = some (.cells (blk f) 40)) (hk : K (a.put o.dst (.agg (blk f)))) : o.quiet Try.prog a (fun w' => ∃ x : Later W, w' = x.val) K := by
  refine ⟨.agg (blk f), ?_, hk⟩
  rintro _ ⟨y, rfl⟩
  have hlt : g < W.heap.size := (Array.getElem?_eq_some_iff.1 hg).1
  have hh := (y.heap g hlt).trans hg
  unfold Oper.quietAt execOp
  simp only [ho, hx, Instr.loadAt, Instr.sureAddr, Sem.run_bind, Sem.run_pure, Result.andThen_ok, run_loadVar_row y.val g 40 40 (blk f) (0, 0) _ hh Try.underlying40 rfl (by rw [blk_size]; exact size25)]
  exact ⟨rfl, rfl⟩

theorem wpList_store25_new {ops : Array Oper} {rest : List Oper} {o : Oper} {a : Act} {w : World} {Q : Exit → Act → World → Prop} (hgd : o.guard = none) (x y : Operand) (ho : o.op = .store 40 x y)
    (f f0 : Nat → Int) (hx : a.eval x = .pointer (some ⟨w.heap.size, 0, none⟩)) (hy : a.eval y = .agg (blk f))
    (h : wpList Try.prog ops Q rest (a.put o.dst undef) (w.alloc (.cells (blk f) 40))) : wpList Try.prog ops Q (o :: rest) a (w.alloc (.cells (blk f0) 40)) :=
  wpList_store25 hgd x y ho w.heap.size f hx hy f0 (heap_alloc_new _ _) (by rw [World.setRow_alloc_new]; exact h)
end Go.Proofs.Ytbnbbelkddbndaa
