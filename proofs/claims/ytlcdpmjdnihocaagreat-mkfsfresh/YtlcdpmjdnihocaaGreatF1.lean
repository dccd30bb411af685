/- Several texts joined, each with its own remark; no condition. -/
import Derived.WalkKit
import Derived.WalkSpells
import Derived.WalkLawsBesides
import Derived.Deep.WholeRow
import Derived.Laws.StructEq
import Derived.Test.YtlcdpmjdnihocaaGreatRows
import Derived.BigQuiet
import Derived.Maps.RangeWalk
import Derived.Lib.SmallJoins
import Derived.Deep.MidRow
import Derived.LaidEqlPtr
import Derived.StillTailTactics
import Derived.Deep.DeepAppendWide
/- What a block of 1024 bytes is as cells: a plain function from places to numbers, laid as cells; no condition. -/
namespace Go.Proofs.YtlcdpmjdnihocaaGreatD
open Go.RowKit

/-- The cells of a block whose byte at place i is f i. -/
def blk (f : Nat → Int) : Array Value := ((List.range 1024).map fun i => Value.int .u8 (f i)).toArray
/-- f, but for x at place i. -/
def upd (f : Nat → Int) (i : Nat) (x : Int) : Nat → Int := fun j => if j = i then x else f j
def nought : Nat → Int := fun _ => 0

theorem blk_size (f : Nat → Int) : (blk f).size = 1024 := by simp [blk]
theorem blk_get (f : Nat → Int) (i : Nat) (h : i < 1024) : (blk f)[i]? = some (.int .u8 (f i)) := by
  simp [blk, h]
theorem blk_congr {f g : Nat → Int} (h : ∀ i, i < 1024 → f i = g i) : blk f = blk g := by
  apply Array.ext_getElem?
  intro j
  by_cases hj : j < 1024
  · rw [blk_get _ _ hj, blk_get _ _ hj, h j hj]
  · rw [Array.getElem?_eq_none (by rw [blk_size]; omega), Array.getElem?_eq_none (by rw [blk_size]; omega)]
theorem blk_one (f : Nat → Int) : (blk f).all (·.oneCell') = true := by
  rw [Array.all_eq_true_iff_forall_mem]
  intro v hv
  simp [blk] at hv
  obtain ⟨i, _, rfl⟩ := hv
  rfl
end Go.Proofs.YtlcdpmjdnihocaaGreatD
/- The block type of this program over its translation: loads, stores and results of whole blocks; fits; no condition. -/
namespace Go.Proofs.YtlcdpmjdnihocaaGreatD
open Go.RowKit

theorem info25 : (Tryz.prog.info? 79).map (fun i => (i.zero, i.size)) = some (some (.agg (blk nought)), 1024) := by kernel_rfl
theorem zero25 : ∀ w, (zeroValue 79).run Tryz.prog w = .ok (.agg (blk nought)) w := (zero_of_info info25).1
theorem size25 : (Tryz.prog.info? 79).map (·.size) = some 1024 := (zero_of_info info25).2

def firsts (f : Nat → Int) (k : Nat) : Nat → Int := fun i => if i < k then f i else 0
theorem firsts_next (f : Nat → Int) (k : Nat) : upd (firsts f k) k (f k) = firsts f (k + 1) := by
  funext j
  unfold upd firsts
  by_cases h : j = k
  · subst h; simp
  · by_cases h2 : j < k
    · simp [h, h2, show j < k + 1 by omega]
    · simp [h, h2, show ¬ j < k + 1 by omega]

theorem wpList_store25 {ops : Array Oper} {rest : List Oper} {o : Oper} {a : Act} {w : World} {Q : Exit → Act → World → Prop} (hgd : o.guard = none) (x y : Operand) (ho : o.op = .store 79 x y)
    (g : Nat) (f : Nat → Int) (hx : a.eval x = .pointer (some ⟨g, 0, none⟩)) (hy : a.eval y = .agg (blk f)) (f0 : Nat → Int) (hg : w.heap[g]? = some (.cells (blk f0) 79))
    (h : wpList Tryz.prog ops Q rest (a.put o.dst undef) (w.setRow g (blk f))) : wpList Tryz.prog ops Q (o :: rest) a w :=
  wpList_plain hgd fun _ hK => by
    unfold Oper.wp execOp
    simp only [ho, hx, hy, Instr.storeAt, Instr.sureAddr, Sem.run_bind, Sem.run_pure, Result.andThen_ok, run_storeVar_row w g 79 79 (blk f0) (blk f) hg (by rw [blk_size]; exact size25) (by rw [blk_size, blk_size]) (blk_one f)]
    exact hK _ _ h

theorem below_setRow {B : Nat} {a w : World} (h : Below B a w) {g : Nat} (hg : B ≤ g) (cs : Array Value) : Below B a (w.setRow g cs) :=
  h.trans ⟨rfl, rfl, rfl, by simp, fun k hk => setRow_other w g k cs (by omega)⟩
end Go.Proofs.YtlcdpmjdnihocaaGreatD
/- Two blocks held against each other: equal just where every byte is; for every two blocks. -/
namespace Go.Proofs.YtlcdpmjdnihocaaGreatD
open Go.RowKit

def sameB (f g : Nat → Int) : Bool := (List.range 1024).all fun i => f i == g i
theorem sameB_iff (f g : Nat → Int) : sameB f g = true ↔ ∀ i, i < 1024 → f i = g i := by
  simp [sameB, List.all_eq_true, List.mem_range]
theorem sameB_self (f : Nat → Int) : sameB f f = true := (sameB_iff f f).2 fun _ _ => rfl

theorem part5 (f : Nat → Int) (i : Nat) (hi : i < 1024) (w : World) : (part 5 (blk f) (i * 1)).run Tryz.prog w = .ok (.int .u8 (f i)) w := by
  have hb := blk_get f i hi
  simp [part, Tryz.isAgg5, hb]
theorem each25 (d : Nat) (f g : Nat → Int) (w : World) : ∀ l : List Nat, (∀ i, i ∈ l → i < 1024) →
    (forIn (m := Sem) l ((none : Option Bool), ()) fun i _ => do
            let x ← part 5 (blk f) (i * 1)
            let y ← part 5 (blk g) (i * 1)
            let b ← Op.equalIn (d + 1) 5 x y
            if (!b) = true then pure (ForInStep.done (some false, ())) else pure (ForInStep.yield (none, ()))).run Tryz.prog w
      = .ok ((if l.all (fun i => f i == g i) then none else some false), ()) w
  | [], _ => by simp
  | i :: l, h => by
    have h1 := part5 f i (h i (by simp)) w
    have h2 := part5 g i (h i (by simp)) w
    have ih := each25 d f g w l fun j hj => h j (by simp [hj])
    have he := run_equalIn_int (P := Tryz.prog) w d 5 .u8 .u8 (f i) (g i) Tryz.underlying5
    simp only [List.forIn_cons, Sem.run_bind, h1, h2, he, Result.andThen_ok, List.all_cons]
    by_cases e : f i = g i
    · simp only [e, beq_self_eq_true, Bool.not_true, Bool.false_eq_true, if_false, Sem.run_pure, Result.andThen_ok, Bool.true_and]
      exact ih
    · have e' : (f i == g i) = false := by simp [e]
      simp [e']
theorem eq25 (f g : Nat → Int) (w : World) : (Op.equalIn 10000 79 (.agg (blk f)) (.agg (blk g))).run Tryz.prog w = .ok (sameB f g) w := by
  have key := each25 9998 f g w (List.range' 0 [:1024].size) (fun i hi => by simpa [Std.Legacy.Range.size] using hi)
  show (Op.equalIn (9998 + 1 + 1) 79 (.agg (blk f)) (.agg (blk g))).run Tryz.prog w = _
  rw [Op.equalIn]
  simp only [Sem.run_bind, run_underlying Tryz.underlying79, Result.andThen_ok]
  rw [show (sizeOf 5).run Tryz.prog w = .ok 1 w by simp [go_sem]]
  simp only [Result.andThen_ok, Std.Legacy.Range.forIn_eq_forIn_range']
  refine (congrArg (fun r => Result.andThen r _) key).trans ?_
  have hr : List.range' 0 [:1024].size = List.range 1024 := by simp [Std.Legacy.Range.size, List.range_eq_range']
  rw [hr]
  show Result.andThen (Result.ok ((if sameB f g = true then none else some false), ()) w) _ = _
  cases sameB f g <;> simp
end Go.Proofs.YtlcdpmjdnihocaaGreatD
/- Rising lists of blocks by their numbers, as plain lists: what stands at a number, a block laid into a list; no condition but that the list rises. (Made ahead for stage 4.) -/
namespace Go.Proofs.YtlcdpmjdnihocaaGreatD

/-- A block's bytes behind a number. -/
abbrev Cel := Int × (Nat → Int)
/-- A block of bytes of which nothing but noughts stands behind byte 1023. -/
def Can (f : Nat → Int) : Prop := (∀ i, 0 ≤ f i ∧ f i ≤ 255) ∧ ∀ i, 1024 ≤ i → f i = 0
theorem can_nought : Can nought := ⟨fun _ => by unfold nought; omega, fun _ _ => rfl⟩
theorem Can.ext {f g : Nat → Int} (hf : Can f) (hg : Can g) (h : ∀ i, i < 1024 → f i = g i) : f = g := by
  funext i
  by_cases hi : i < 1024
  · exact h i hi
  · rw [hf.2 i (by omega), hg.2 i (by omega)]
theorem Can.same {f g : Nat → Int} (hf : Can f) (hg : Can g) : sameB f g = true ↔ f = g :=
  ⟨fun h => hf.ext hg ((sameB_iff f g).1 h), fun h => by subst h; exact sameB_self f⟩
/-- Is a block blank? -/
def blankB (f : Nat → Int) : Bool := sameB f nought
theorem Can.blank {f : Nat → Int} (hf : Can f) : blankB f = true ↔ f = nought := hf.same can_nought

/-- What stands at a number; noughts, if nothing does. -/
def atL : List Cel → Int → Nat → Int
  | [], _ => nought
  | (i, x) :: t, k => if i = k then x else atL t k
/-- All numbers are greater than m, and they rise. -/
def Rise : Int → List Cel → Prop
  | _, [] => True
  | m, (i, _) :: t => m < i ∧ Rise i t
/-- All blocks are blocks, none of them blank. -/
def Sound (l : List Cel) : Prop := ∀ c ∈ l, Can c.2 ∧ c.2 ≠ nought
end Go.Proofs.YtlcdpmjdnihocaaGreatD
/- Regions whose order is drawn and whose calls make memory but turn none that was there: one walk in the text's order serves every order. -/
namespace Go.Proofs.YtlcdpmjdnihocaaGreatD
open Go.RowKit

theorem wpList_store25_new {ops : Array Oper} {rest : List Oper} {o : Oper} {a : Act} {w : World} {Q : Exit → Act → World → Prop} (hgd : o.guard = none) (x y : Operand) (ho : o.op = .store 79 x y)
    (f f0 : Nat → Int) (hx : a.eval x = .pointer (some ⟨w.heap.size, 0, none⟩)) (hy : a.eval y = .agg (blk f))
    (h : wpList Tryz.prog ops Q rest (a.put o.dst undef) (w.alloc (.cells (blk f) 79))) : wpList Tryz.prog ops Q (o :: rest) a (w.alloc (.cells (blk f0) 79)) :=
  wpList_store25 hgd x y ho w.heap.size f hx hy f0 (heap_alloc_new _ _) (by rw [World.setRow_alloc_new]; exact h)
end Go.Proofs.YtlcdpmjdnihocaaGreatD
/- Maps from numbers to values, told as functions: what is looked up, written, struck; the numbers lie from 0 to 2 to the 20th. -/
namespace Go.Proofs.YtlcdpmjdnihocaaGreatD
open Go.Maps

/-- An element reads as itself. -/
def valElem (v : Value) : Option (DataW Value × List MemPlace) := some (.held v, [])

theorem nodup_le : ∀ (N : Nat) (l : List Int), l.Nodup → (∀ x ∈ l, 0 ≤ x ∧ x < (N : Int)) → l.length ≤ N
  | 0, l, _, h => by
    cases l with
    | nil => simp
    | cons a t => have := h a (by simp); omega
  | N + 1, l, hn, h => by
    by_cases hm : (N : Int) ∈ l
    · have h1 := nodup_le N (l.erase (N : Int)) (hn.erase _) (fun x hx => by
        have hx' := (hn.mem_erase_iff).1 hx
        have := h x hx'.2
        have hne := hx'.1
        omega)
      rw [List.length_erase_of_mem hm] at h1
      omega
    · have h1 := nodup_le N l hn (fun x hx => by
        have := h x hx
        have hne : x ≠ (N : Int) := fun e => hm (e ▸ hx)
        omega)
      omega

/-- The greatest number of blocks. -/
abbrev top : Nat := 1048576
def inTop (x : Int) : Prop := 0 ≤ x ∧ x < 1048576
theorem inTop.wf {x : Int} (h : inTop x) : (Lit.int .i64 x).wf = true := by
  obtain ⟨h1, h2⟩ := h
  exact WalkArith.wf_i64 (by omega)

/-- The datum D reads as the function m. -/
structure Views (D : DataW Value) (m : Int → Option Value) : Prop where
  some : ∀ x v, m x = .some v → inTop x ∧ has D (.int .i64 x) = true ∧ ∀ z, D.atKey (.int .i64 x) z = .held v
  none : ∀ x, m x = .none → has D (.int .i64 x) = false

/-- Block b is a map that reads as the function m. -/
def MapIs (P : Program) (k : TypeId) (w : World) (b : Nat) (m : Int → Option Value) : Prop :=
  ∃ D, w.ownsMap P k valElem b top D ∧ Views D m

variable {P : Program} {k : TypeId} {w : World} {b : Nat} {m : Int → Option Value}

theorem MapIs.lt (h : MapIs P k w b m) : b < w.heap.size := by obtain ⟨D, h, _⟩ := h; exact h.lt
theorem MapIs.kept {w' : World} (h : MapIs P k w b m) (hb : w'.heap[b]? = w.heap[b]?) : MapIs P k w' b m := by
  obtain ⟨D, ⟨es, clock, h1, h2⟩, hv⟩ := h
  exact ⟨D, ⟨es, clock, hb.trans h1, h2⟩, hv⟩
theorem MapIs.isMap (h : MapIs P k w b m) : ∃ es clock, w.heap[b]? = some (.map es clock) := by
  obtain ⟨D, ⟨es, clock, h1, _⟩, _⟩ := h
  exact ⟨es, clock, h1⟩
theorem MapIs.made (w : World) : MapIs P k (w.alloc (.map #[] 0)) w.heap.size (fun _ => none) := by
  refine ⟨.map [], (World.ownsMap_made w P k valElem).mono (by unfold top; omega), ⟨fun x v h => by simp at h, fun x _ => rfl⟩⟩

theorem size_top (hk : P.underlying k = some (.int .i64)) {n : Nat} {D : DataW Value} (h : w.ownsMap P k valElem b n D) (K : Keyed P k) (hv : Views D m) : Maps.size D ≤ top := by
  obtain ⟨es, rfl, hp, _⟩ := h.entries K
  have hko : ∀ p ∈ es, ∃ x, p.1 = .int .i64 x := by
    obtain ⟨es', clock, _, F, _, hD⟩ := h
    intro p hp
    have e : es = (es'.toList.map (Go.WideElems.rg P k valElem)).foldr DataW.insert [] := by simpa using hD
    rw [e] at hp
    obtain ⟨y, hy, rfl⟩ := List.mem_map.1 (mem_sorted.1 hp)
    obtain ⟨z, hz⟩ := F.reads y hy
    obtain ⟨x, _, hx, _⟩ := Maps.keyOf_int_inv hk (Go.WideElems.rd_key hz)
    exact ⟨x, by rw [Go.WideElems.rg_of hz]; exact hx⟩
  let f : Lit × DataW Value → Int := fun p => match p.1 with | .int _ x => x | _ => 0
  have h1 := nodup_le top (es.map f) ?_ ?_
  · simpa [Maps.size] using h1
  · refine List.pairwise_map.2 (hp.imp_of_mem fun {p q} hp' hq' hne e => hne ?_)
    obtain ⟨a, ha⟩ := hko p hp'
    obtain ⟨c, hc⟩ := hko q hq'
    simp only [f, ha, hc] at e
    rw [ha, hc, e]
  · intro x hx
    obtain ⟨p, hp', rfl⟩ := List.mem_map.1 hx
    obtain ⟨a, ha⟩ := hko p hp'
    have hh : has (.map es) (.int .i64 a) = true := List.any_eq_true.2 ⟨p, hp', by rw [ha]; simp [Lit.sameKey]⟩
    have hfa : f p = a := by simp only [f, ha]
    rw [hfa]
    cases hm : m a with
    | none => rw [hv.none a hm] at hh; cases hh
    | some v => exact (hv.some a v hm).1
theorem owns_top (hk : P.underlying k = some (.int .i64)) {n : Nat} {D : DataW Value} (h : w.ownsMap P k valElem b n D) (K : Keyed P k) (hv : Views D m) : w.ownsMap P k valElem b top D := by
  have h1 := size_top hk h K hv
  obtain ⟨es, clock, hb, F, _, rfl⟩ := h
  exact ⟨es, clock, hb, F, by simpa [Maps.size, length_sorted] using h1, rfl⟩

theorem views_put {D : DataW Value} (hD : IsMap D) (hv : Views D m) {x : Int} (hx : inTop x) (v : Value) : Views (D.put (.int .i64 x) (.held v)) (fun y => if y = x then some v else m y) := by
  have hkl : WideAt.IsKeyLit (.int .i64 x) := by first | trivial | simp [WideAt.IsKeyLit]
  constructor
  · intro y u hy
    by_cases e : y = x
    · subst e
      simp only [if_pos] at hy
      cases hy
      exact ⟨hx, has_put_same hD hkl _, fun z => atKey_put_same hD hkl _ z⟩
    · simp only [if_neg e] at hy
      obtain ⟨h1, h2, h3⟩ := hv.some y u hy
      have hne : (Lit.int .i64 y) ≠ .int .i64 x := fun q => e (by injection q)
      exact ⟨h1, by rw [has_put_other hne]; exact h2, fun z => by rw [atKey_put_other hne]; exact h3 z⟩
  · intro y hy
    by_cases e : y = x
    · subst e; simp at hy
    · simp only [if_neg e] at hy
      have hne : (Lit.int .i64 y) ≠ .int .i64 x := fun q => e (by injection q)
      rw [has_put_other hne]; exact hv.none y hy
theorem views_del {D : DataW Value} (hv : Views D m) (x : Int) : Views (D.del (.int .i64 x)) (fun y => if y = x then none else m y) := by
  constructor
  · intro y u hy
    by_cases e : y = x
    · subst e; simp at hy
    · simp only [if_neg e] at hy
      obtain ⟨h1, h2, h3⟩ := hv.some y u hy
      have hne : (Lit.int .i64 y) ≠ .int .i64 x := fun q => e (by injection q)
      exact ⟨h1, by rw [has_del_other hne]; exact h2, fun z => by rw [atKey_del_other hne]; exact h3 z⟩
  · intro y hy
    by_cases e : y = x
    · subst e; exact has_del_same
    · simp only [if_neg e] at hy
      have hne : (Lit.int .i64 y) ≠ .int .i64 x := fun q => e (by injection q)
      rw [has_del_other hne]; exact hv.none y hy

section
variable {ops : Array Oper} {rest : List Oper} {o : Oper} {a : Act} {Q : Exit → Act → World → Prop}

theorem key_int (hk : P.underlying k = some (.int .i64)) {x : Int} (hx : (Lit.int .i64 x).wf = true) : keyOf P k (.int .i64 x) = some (.int .i64 x) := keyOf_int_mk hk hx

/-- .. without it. -/
theorem look_at {t e : TypeId} (hk : P.underlying k = some (.int .i64)) (K : Keyed P k) (ht : P.underlying t = some (.map k e)) (h : MapIs P k w b m) {z : Value} (hz : (zeroValue e).run P w = .ok z w) {x : Int} (hx : (Lit.int .i64 x).wf = true) :
    (Instr.lookup t (.map (some b)) (.int .i64 x) false).run P w = .ok ((m x).getD z) w := by
  obtain ⟨D, hown, hv⟩ := h
  obtain ⟨v, ps, hrun, hR⟩ := hown.lookup K ht hz (zd := .held z) (zp := []) rfl (key_int hk hx)
  rw [hrun]
  cases hm : m x with
  | none =>
    have h1 := hv.none x hm
    rw [atKey_of_not_has h1] at hR
    unfold valElem at hR
    simp at hR
    rw [hR.1]; rfl
  | some u =>
    obtain ⟨_, h1, h2⟩ := hv.some x u hm
    rw [h2] at hR
    unfold valElem at hR
    simp at hR
    rw [hR.1]; rfl
/-- What is written. -/
theorem wpList_putM (hg : o.guard = none) (mo xo vo : Operand) (t : TypeId) (hop : o.op = Op.mapUpdate t mo xo vo) (e : TypeId) (hk : P.underlying k = some (.int .i64)) (K : Keyed P k) (ht : P.underlying t = some (.map k e))
    (b : Nat) (m : Int → Option Value) (hm : a.eval mo = .map (some b)) (h : MapIs P k w b m) (x : Int) (hx : inTop x) (hxo : a.eval xo = .int .i64 x) (v : Value) (hvo : a.eval vo = v)
    (hK : ∀ w', MapIs P k w' b (fun y => if y = x then some v else m y) → w.grownBy w' (some b) → wpList P ops Q rest (a.put o.dst undef) w') : wpList P ops Q (o :: rest) a w := by
  obtain ⟨D, hown, hv⟩ := h
  refine wpList_mapUpdate_own w hg mo xo vo t hop k e K ht valElem b top D hm hown (by unfold top maxLen; omega) _ _ (.int .i64 x) hxo hvo (key_int hk hx.wf) (.held v) [] rfl fun w' h1 h2 => ?_
  have hv' := views_put hown.isMap hv hx v
  exact hK w' ⟨_, owns_top hk h1 K hv', hv'⟩ h2
/-- What is struck. -/
theorem wpList_delM (hg : o.guard = none) (mo xo : Operand) (t : TypeId) (hop : o.op = Op.call { callee := Callee.builtin Builtin.delete, args := #[mo, xo], argTypes := #[t, k] }) (e : TypeId) (hk : P.underlying k = some (.int .i64)) (K : Keyed P k) (ht : P.underlying t = some (.map k e))
    (b : Nat) (m : Int → Option Value) (hm : a.eval mo = .map (some b)) (h : MapIs P k w b m) (x : Int) (hx : (Lit.int .i64 x).wf = true) (hxo : a.eval xo = .int .i64 x)
    (hK : ∀ w', MapIs P k w' b (fun y => if y = x then none else m y) → w.grownBy w' (some b) → wpList P ops Q rest (a.put o.dst (.tuple #[])) w') : wpList P ops Q (o :: rest) a w := by
  obtain ⟨D, hown, hv⟩ := h
  refine wpList_delete_own w hg mo xo t k hop e K ht valElem b top D hm hown _ (.int .i64 x) hxo (key_int hk hx) fun w' h1 h2 => ?_
  exact hK w' ⟨_, h1, views_del hv x⟩ h2.grown
end
end Go.Proofs.YtlcdpmjdnihocaaGreatD
/- A disk in memory: its row of twelve cells, its two maps, its history; and what it stands for: what is held, what was done, what is pending; no condition. -/
namespace Go.Proofs.YtlcdpmjdnihocaaGreatD
open Go.RowKit

/-- Nothing has turned but blocks of T and new ones. -/
structure Fr (T : Nat → Prop) (w w' : World) : Prop where
  os : w'.os = w.os
  tape : w'.tape = w.tape
  output : w'.output = w.output
  size : w.heap.size ≤ w'.heap.size
  block : ∀ k, k < w.heap.size → ¬ T k → w'.heap[k]? = w.heap[k]?
theorem Fr.refl (T : Nat → Prop) (w : World) : Fr T w w := ⟨rfl, rfl, rfl, Nat.le_refl _, fun _ _ _ => rfl⟩
theorem Fr.trans {T T' : Nat → Prop} {a b c : World} (h : Fr T a b) (k : Fr T' b c) (hT : ∀ i, i < a.heap.size → T' i → T i) : Fr T a c :=
  ⟨k.os.trans h.os, k.tape.trans h.tape, k.output.trans h.output, Nat.le_trans h.size k.size, fun i hi hn => (k.block i (Nat.lt_of_lt_of_le hi h.size) (fun q => hn (hT i hi q))).trans (h.block i hi hn)⟩
theorem Fr.mono {T T' : Nat → Prop} {a b : World} (h : Fr T a b) (hT : ∀ i, i < a.heap.size → T i → T' i) : Fr T' a b :=
  ⟨h.os, h.tape, h.output, h.size, fun i hi hn => h.block i hi fun q => hn (hT i hi q)⟩
theorem Fr.ofBelow {T : Nat → Prop} {a b : World} (h : Below a.heap.size a b) : Fr T a b := ⟨h.os, h.tape, h.output, h.size, fun i hi _ => h.block i hi⟩
theorem Fr.below {T : Nat → Prop} {B : Nat} {a b : World} (h : Fr T a b) (hT : ∀ i, T i → B ≤ i) (hB : B ≤ a.heap.size) : Below B a b :=
  ⟨h.os, h.tape, h.output, h.size, fun i hi => h.block i (by omega) fun q => by have := hT i q; omega⟩
theorem Fr.ofGrown {a b : World} {r : Option Nat} (h : a.grownBy b r) : Fr (fun i => r = some i) a b := ⟨h.os, h.tape, h.output, h.size, fun i hi hn => h.block i hi fun q => hn q.symm⟩
theorem Fr.setCell (w : World) (g i : Nat) (v : Value) : Fr (fun k => k = g) w (w.setCell ⟨g, i, none⟩ v) :=
  ⟨rfl, rfl, rfl, by simp, fun k _ hn => Below.heap_setCell w _ v k hn⟩
theorem Fr.alloc (T : Nat → Prop) (w : World) (o : Obj) : Fr T w (w.alloc o) := Fr.ofBelow ((Below.refl _ _).alloc (Nat.le_refl _) o)

/-- A thing that was done. -/
structure Rec where
  kind : Int
  pos : Int
  dat : Nat → Int
def recCells (r : Rec) : List Value := .int .u8 r.kind :: .int .i64 r.pos :: (blk r.dat).toList
def opCells (l : List Rec) : List Value := l.flatMap recCells
theorem blk_list_len (f : Nat → Int) : (blk f).toList.length = 1024 := by rw [Array.length_toList, blk_size]
theorem recCells_len (r : Rec) : (recCells r).length = 1026 := by simp [recCells, blk_size]
theorem opCells_append (a b : List Rec) : opCells (a ++ b) = opCells a ++ opCells b := by simp [opCells]
theorem recCells_one (r : Rec) : ∀ v ∈ recCells r, v.oneCell' = true := by
  intro v hv
  simp only [recCells, List.mem_cons] at hv
  rcases hv with rfl | rfl | h
  · rfl
  · rfl
  · have := blk_one r.dat
    rw [Array.all_eq_true_iff_forall_mem] at this
    exact this v (by simpa using h)

/-- What a disk stands for. -/
structure St where
  n : Int
  held : Int → Option (Nat → Int)
  done : List Rec
  wait : List Cel
  fuse : Int
  stopped : Bool
  made : Int
  reads : Int
  claims : Int
  claimed : Bool
def wrec (c : Cel) : Rec := ⟨1, c.1, c.2⟩
def St.ops (s : St) : List Rec := s.done ++ s.wait.map wrec
/-- Where the last write of a block stands. -/
def lastAt : List Cel → Int → Option Nat
  | [], _ => none
  | c :: t, k => match lastAt t k with
    | some i => some (i + 1)
    | none => if c.1 = k then some 0 else none
theorem lastAt_snoc (c : Cel) (k : Int) : ∀ l : List Cel, lastAt (l ++ [c]) k = if c.1 = k then some l.length else lastAt l k
  | [] => by simp [lastAt]
  | x :: t => by
    show (match lastAt (t ++ [c]) k with | some i => some (i + 1) | none => if x.1 = k then some 0 else none) = _
    rw [lastAt_snoc c k t]
    by_cases h : c.1 = k
    · simp [h]
    · simp [h, lastAt]
def heldV (s : St) : Int → Option Value := fun k => (s.held k).map fun f => .agg (blk f)
def lateV (s : St) : Int → Option Value := fun k => (lastAt s.wait k).map fun i => .int .i64 ((s.done.length + i : Nat) : Int)

/-- What holds of every disk. -/
structure Ok (s : St) : Prop where
  n : 1 ≤ s.n ∧ s.n ≤ 1048576
  held : ∀ k f, s.held k = some f → (0 ≤ k ∧ k < s.n) ∧ Can f ∧ f ≠ nought
  wait : ∀ c ∈ s.wait, (0 ≤ c.1 ∧ c.1 < s.n) ∧ Can c.2
  fuse : -1 ≤ s.fuse ∧ s.fuse ≤ 9223372036854775807
  made : 0 ≤ s.made
  reads : 0 ≤ s.reads
  claims : 0 ≤ s.claims
/-- There is room for more. -/
structure Room (s : St) : Prop where
  ops : s.ops.length < 68719476736
  made : s.made < 1099511627776
  reads : s.reads < 1099511627776
  claims : s.claims < 1099511627776

/-- Where a disk lies: its row, its maps, its history. -/
structure Loc where
  d : Nat
  hb : Nat
  lb : Nat
  hv : Value
def Loc.has (L : Loc) (k : Nat) : Prop := k = L.d ∨ k = L.hb ∨ k = L.lb ∨ L.hv.ownBlock = some k
def dkRow (L : Loc) (s : St) : Array Value :=
  #[.pointer (some ⟨L.d, 0, none⟩), .int .i64 s.n, .map (some L.hb), L.hv, .int .i64 (s.done.length : Int), .map (some L.lb), .int .i64 s.fuse, .bool s.stopped, .int .i64 s.made, .int .i64 s.reads, .int .i64 s.claims, .bool s.claimed]

structure DiskAt (w : World) (L : Loc) (s : St) : Prop where
  row : w.heap[L.d]? = some (.cells (dkRow L s) 49)
  held : MapIs Tryz.prog 3 w L.hb (heldV s)
  late : MapIs Tryz.prog 3 w L.lb (lateV s)
  hist : w.ownsRow 0 94 1026 L.hv s.ops.length (opCells s.ops)
  ne : L.hb ≠ L.lb
  ok : Ok s
theorem ownsRow_kept0 {w w' : World} {base e size n : Nat} {v : Value} {xs : List Value} (h : w.ownsRow base e size v n xs) (hb : ∀ k, v.ownBlock = some k → w'.heap[k]? = w.heap[k]?) : w'.ownsRow base e size v n xs := by
  refine ⟨h.1, ?_⟩
  rcases h.2 with h | ⟨g, cap, cur, rfl, h1, h2, h3⟩
  · exact .inl h
  · exact .inr ⟨g, cap, cur, rfl, h1, (hb g rfl).trans h2, h3⟩
theorem DiskAt.lt {w : World} {L : Loc} {s : St} (h : DiskAt w L s) (k : Nat) (hk : L.has k) : k < w.heap.size := by
  rcases hk with rfl | rfl | rfl | hk
  · exact (Array.getElem?_eq_some_iff.1 h.row).1
  · exact h.held.lt
  · exact h.late.lt
  · exact (h.hist.lt k hk).2
/-- It stays what it is where its blocks do. -/
theorem DiskAt.kept {w w' : World} {L : Loc} {s : St} (h : DiskAt w L s) (hb : ∀ k, L.has k → w'.heap[k]? = w.heap[k]?) : DiskAt w' L s :=
  ⟨(hb _ (.inl rfl)).trans h.row, h.held.kept (hb _ (.inr (.inl rfl))), h.late.kept (hb _ (.inr (.inr (.inl rfl)))), ownsRow_kept0 h.hist fun k hk => hb k (.inr (.inr (.inr hk))), h.ne, h.ok⟩
theorem DiskAt.fr {w w' : World} {L : Loc} {s : St} {T : Nat → Prop} (h : DiskAt w L s) (hf : Fr T w w') (hT : ∀ k, L.has k → ¬ T k) : DiskAt w' L s :=
  h.kept fun k hk => hf.block k (h.lt k hk) (hT k hk)
theorem DiskAt.later {w w' : World} {L : Loc} {s : St} (h : DiskAt w L s) (hb : Below w.heap.size w w') : DiskAt w' L s := h.kept fun k hk => hb.block k (h.lt k hk)

/-- From one state to the next: the row stays where it is, nothing turns but the disk's own blocks. -/
structure Goes (w w' : World) (L L' : Loc) : Prop where
  d : L'.d = L.d
  own : ∀ k, L'.has k → L.has k ∨ w.heap.size ≤ k
  fr : Fr L.has w w'
theorem Goes.trans {a b c : World} {L L' L'' : Loc} (h : Goes a b L L') (k : Goes b c L' L'') : Goes a c L L'' := by
  refine ⟨k.d.trans h.d, fun i hi => ?_, h.fr.trans k.fr fun i hi hk => ?_⟩
  · rcases k.own i hi with h1 | h1
    · exact h.own i h1
    · have := h.fr.size; exact .inr (by omega)
  · rcases h.own i hk with h1 | h1
    · exact h1
    · omega
theorem Goes.refl (w : World) (L : Loc) : Goes w w L L := ⟨rfl, fun _ h => .inl h, Fr.refl _ _⟩
theorem Goes.ofBelow {w w' : World} (L : Loc) (h : Below w.heap.size w w') : Goes w w' L L := ⟨rfl, fun _ h => .inl h, Fr.ofBelow h⟩
/-- The cells of the row. -/
theorem DiskAt.cell {w : World} {L : Loc} {s : St} (h : DiskAt w L s) (i : Nat) : w.cell? ⟨L.d, i, none⟩ = (dkRow L s)[i]? := Joins.cell_of_block h.row i
theorem DiskAt.free {w : World} {L : Loc} {s : St} (h : DiskAt w L s) (i : Nat) : w.frozen? ⟨L.d, i, none⟩ = false := Joins.unfrozen_of_block h.row i
end Go.Proofs.YtlcdpmjdnihocaaGreatD
/- What a disk tells of itself, its fuse and its claims; of a disk that was made, and of one that is none; no condition but that numbers do not pass the greatest int. -/
namespace Go.Proofs.YtlcdpmjdnihocaaGreatD
open Go.RowKit

theorem neq_same {P : Program} {tp te : TypeId} {j : TypeInfo} (w : World) (a : Addr) (hp : P.underlying tp = some (.pointer te)) (hte : P.info? te = some j) :
    (binOp .neq tp (.pointer (some a)) (.pointer (some a))).run P w = .ok (.bool false) w := by
  have h : ∀ d : Nat, (Op.equalIn (d + 1) tp (.pointer (some a)) (.pointer (some a))).run P w = .ok true w := fun d => by
    simp [Op.equalIn, run_underlying hp, sizeOf, typeInfo, hte, run_sameAddr_same]
  simp only [binOp]
  simp [Op.equal, Op.maxDepth, h 9999]
theorem info74 : ∃ j, Tryz.prog.info? 49 = some j := Option.isSome_iff_exists.1 (by kernel_rfl)
theorem neq24 (w : World) (a : Addr) : (binOp .neq 32 (.pointer (some a)) (.pointer (some a))).run Tryz.prog w = .ok (.bool false) w := by
  obtain ⟨j, hj⟩ := info74
  exact neq_same w a Tryz.underlying32 hj
theorem none_no {w : World} {d : Nat} (c0 : w.cell? ⟨d, 0, none⟩ = some (.pointer (some ⟨d, 0, none⟩))) :
    Calls Tryz.prog 37 #[.pointer (some ⟨d, 0, none⟩)] w fun e w' => e = .returned (.bool false) ∧ w' = w := by
  have hn := neq24
  go_enter Tryz.func37, Tryz.ntmps37
  go_wp2
  go_ret
  exact ⟨rfl, rfl⟩

variable {w : World} {L : Loc} {s : St}
theorem DiskAt.c0 (h : DiskAt w L s) : w.cell? ⟨L.d, 0, none⟩ = some (.pointer (some ⟨L.d, 0, none⟩)) := h.cell 0
theorem DiskAt.c1 (h : DiskAt w L s) : w.cell? ⟨L.d, 1, none⟩ = some (.int .i64 s.n) := h.cell 1
theorem DiskAt.c2 (h : DiskAt w L s) : w.cell? ⟨L.d, 2, none⟩ = some (.map (some L.hb)) := h.cell 2
theorem DiskAt.c3 (h : DiskAt w L s) : w.cell? ⟨L.d, 3, none⟩ = some L.hv := h.cell 3
theorem DiskAt.c4 (h : DiskAt w L s) : w.cell? ⟨L.d, 4, none⟩ = some (.int .i64 (s.done.length : Int)) := h.cell 4
theorem DiskAt.c5 (h : DiskAt w L s) : w.cell? ⟨L.d, 5, none⟩ = some (.map (some L.lb)) := h.cell 5
theorem DiskAt.c6 (h : DiskAt w L s) : w.cell? ⟨L.d, 6, none⟩ = some (.int .i64 s.fuse) := h.cell 6
theorem DiskAt.c7 (h : DiskAt w L s) : w.cell? ⟨L.d, 7, none⟩ = some (.bool s.stopped) := h.cell 7
theorem DiskAt.c8 (h : DiskAt w L s) : w.cell? ⟨L.d, 8, none⟩ = some (.int .i64 s.made) := h.cell 8
theorem DiskAt.c10 (h : DiskAt w L s) : w.cell? ⟨L.d, 10, none⟩ = some (.int .i64 s.claims) := h.cell 10
theorem DiskAt.c11 (h : DiskAt w L s) : w.cell? ⟨L.d, 11, none⟩ = some (.bool s.claimed) := h.cell 11

theorem len_of (h : DiskAt w L s) : Calls Tryz.prog 57 #[.pointer (some ⟨L.d, 0, none⟩)] w fun e w' => e = .returned (.int .i64 s.n) ∧ w' = w := by
  have c1 := h.c1
  have h0 := h.c0
  clear h
  go_enter Tryz.func57, Tryz.ntmps57
  go_wp2_with (first | (go_at_call 37; refine (none_no h0).mono ?_; rintro e W ⟨rfl, rfl⟩))
  go_ret
  exact ⟨rfl, rfl⟩
theorem made_of (h : DiskAt w L s) : Calls Tryz.prog 25 #[.pointer (some ⟨L.d, 0, none⟩)] w fun e w' => e = .returned (.int .i64 s.made) ∧ w' = w := by
  have c8 := h.c8
  have h0 := h.c0
  clear h
  go_enter Tryz.func25, Tryz.ntmps25
  go_wp2_with (first | (go_at_call 37; refine (none_no h0).mono ?_; rintro e W ⟨rfl, rfl⟩))
  go_ret
  exact ⟨rfl, rfl⟩
theorem stopped_of (h : DiskAt w L s) : Calls Tryz.prog 23 #[.pointer (some ⟨L.d, 0, none⟩)] w fun e w' => e = .returned (.bool s.stopped) ∧ w' = w := by
  have c7 := h.c7
  have h0 := h.c0
  clear h
  go_enter Tryz.func23, Tryz.ntmps23
  go_wp2_with (first | (go_at_call 37; refine (none_no h0).mono ?_; rintro e W ⟨rfl, rfl⟩))
  go_ret
  exact ⟨rfl, rfl⟩
/-- Why a block may be neither read nor written; 0: it may. -/
def refV (s : St) (k : Int) : Int := if s.stopped then 3 else if 0 ≤ k ∧ k < s.n then 0 else 2
theorem refuses_of (h : DiskAt w L s) (k : Int) : Calls Tryz.prog 92 #[.pointer (some ⟨L.d, 0, none⟩), .int .i64 k] w fun e w' => e = .returned (.int .i64 (refV s k)) ∧ w' = w := by
  have c7 := h.c7
  have c1 := h.c1
  have h0 := h.c0
  clear h
  unfold refV
  cases hs : s.stopped
  · rw [hs] at c7
    by_cases h1 : k < 0
    · have e : ¬ (0 ≤ k ∧ k < s.n) := by omega
      simp only [e, if_false, Bool.false_eq_true]
      go_enter Tryz.func92, Tryz.ntmps92
      go_wp2_with (first | (go_at_call 37; refine (none_no h0).mono ?_; rintro e W ⟨rfl, rfl⟩))
      go_ret
      exact ⟨rfl, rfl⟩
    · by_cases h2 : k < s.n
      · have e : (0 ≤ k ∧ k < s.n) := by omega
        have h3 : ¬ k ≥ s.n := by omega
        simp only [e, if_true, if_false, Bool.false_eq_true, and_self]
        go_enter Tryz.func92, Tryz.ntmps92
        go_wp2_with (first | (go_at_call 37; refine (none_no h0).mono ?_; rintro e W ⟨rfl, rfl⟩))
        go_ret
        exact ⟨rfl, rfl⟩
      · have e : ¬ (0 ≤ k ∧ k < s.n) := by omega
        have h3 : k ≥ s.n := by omega
        simp only [e, if_false, Bool.false_eq_true]
        go_enter Tryz.func92, Tryz.ntmps92
        go_wp2_with (first | (go_at_call 37; refine (none_no h0).mono ?_; rintro e W ⟨rfl, rfl⟩))
        go_ret
        exact ⟨rfl, rfl⟩
  · rw [hs] at c7
    simp only [if_true]
    go_enter Tryz.func92, Tryz.ntmps92
    go_wp2_with (first | (go_at_call 37; refine (none_no h0).mono ?_; rintro e W ⟨rfl, rfl⟩))
    go_ret
    exact ⟨rfl, rfl⟩
end Go.Proofs.YtlcdpmjdnihocaaGreatD
/- What turns a disk's own cells: its fuse, its claims, a write or barrier that is let through or not; no condition but that numbers do not pass the greatest int. -/
namespace Go.Proofs.YtlcdpmjdnihocaaGreatD
open Go.RowKit
variable {w : World} {L : Loc} {s : St}

/-- One cell of the row is written: what it stands for is s'. -/
theorem DiskAt.put {s' : St} (h : DiskAt w L s) (i : Nat) (v : Value) (hr : (dkRow L s).setIfInBounds i v = dkRow L s') (hh : s'.held = s.held) (hw : s'.wait = s.wait) (hd : s'.done = s.done) (hok : Ok s') :
    DiskAt (w.setCell ⟨L.d, i, none⟩ v) L s' := by
  have hne : ∀ k, k ≠ L.d → (w.setCell ⟨L.d, i, none⟩ v).heap[k]? = w.heap[k]? := fun k hk => Below.heap_setCell w _ v k hk
  obtain ⟨es, ck, hm⟩ := h.held.isMap
  obtain ⟨es2, ck2, hm2⟩ := h.late.isMap
  refine ⟨?_, ?_, ?_, ?_, h.ne, hok⟩
  · rw [Joins.block_setCell h.row, hr]
  · have : heldV s' = heldV s := by unfold heldV; rw [hh]
    rw [this]
    exact h.held.kept (hne _ fun e => by rw [e, h.row] at hm; cases hm)
  · have : lateV s' = lateV s := by unfold lateV; rw [hw, hd]
    rw [this]
    exact h.late.kept (hne _ fun e => by rw [e, h.row] at hm2; cases hm2)
  · have : s'.ops = s.ops := by unfold St.ops; rw [hw, hd]
    rw [this]
    refine ownsRow_kept0 h.hist fun k hk => hne _ fun e => ?_
    rcases h.hist.2 with ⟨h1, _⟩ | ⟨g, cap, cur, h1, _, h2, _⟩
    · rw [h1] at hk; cases hk
    · rw [h1] at hk
      injection hk with hk
      rw [← hk] at e
      simp only at e
      rw [e, h.row] at h2
      cases h2
theorem Goes.put (w : World) (L : Loc) (i : Nat) (v : Value) : Goes w (w.setCell ⟨L.d, i, none⟩ v) L L :=
  ⟨rfl, fun _ h => .inl h, (Fr.setCell w L.d i v).mono fun _ _ h => .inl h⟩

/-- The fuse is asked: s, if it is none, lets through. -/
def lets (s : St) : Bool := s.fuse != 0
def letV (s : St) : St := if s.fuse = 0 then { s with stopped := true } else { s with fuse := (if s.fuse = -1 then -1 else s.fuse - 1), made := s.made + 1 }
theorem letV_ok (h : Ok s) : Ok (letV s) := by
  unfold letV
  split
  · exact ⟨h.n, h.held, h.wait, h.fuse, h.made, h.reads, h.claims⟩
  · rename_i h0
    have := h.fuse
    have := h.made
    refine ⟨h.n, h.held, h.wait, ?_, ?_, h.reads, h.claims⟩
    · show -1 ≤ (if s.fuse = -1 then -1 else s.fuse - 1) ∧ (if s.fuse = -1 then -1 else s.fuse - 1) ≤ 9223372036854775807
      split <;> omega
    · show 0 ≤ s.made + 1
      omega
theorem letThrough_of (h : DiskAt w L s) (hr : Room s) : Calls Tryz.prog 63 #[.pointer (some ⟨L.d, 0, none⟩)] w fun e w' => e = .returned (.bool (lets s)) ∧ DiskAt w' L (letV s) ∧ Goes w w' L L := by
  have c6 := h.c6
  have c8 := h.c8
  have c7 := h.c7
  have f6 := h.free 6
  have f7 := h.free 7
  have f8 := h.free 8
  have hf := h.ok.fuse
  have hm := h.ok.made
  have hm2 := hr.made
  by_cases h0 : s.fuse = 0
  · rw [h0] at c6
    have e1 : letV s = { s with stopped := true } := by unfold letV; rw [if_pos h0]
    have hA := h.put (s' := letV s) 7 (.bool true) (by rw [e1]; rfl) (by rw [e1]) (by rw [e1]) (by rw [e1]) (letV_ok h.ok)
    have hA' : Hid (DiskAt (w.setCell ⟨L.d, 7, none⟩ (.bool true)) L (letV s)) := hA
    have hl : lets s = false := by unfold lets; simp [h0]
    rw [hl]
    clear hA h hr e1
    go_enter Tryz.func63, Tryz.ntmps63
    go_wp2
    go_ret
    exact ⟨rfl, hA'.out, Goes.put _ _ _ _⟩
  · have hl : lets s = true := by unfold lets; simp [h0]
    rw [hl]
    have hw8 : IntKind.i64.wrap (s.made + 1) = s.made + 1 := by rw [IntKind.wrap_i64]; omega
    by_cases h1 : s.fuse = -1
    · rw [h1] at c6
      have e1 : letV s = { s with made := s.made + 1 } := by unfold letV; rw [if_neg h0, if_pos h1, ← h1]
      have hA : Hid (DiskAt (w.setCell ⟨L.d, 8, none⟩ (.int .i64 (s.made + 1))) L (letV s)) := h.put (s' := letV s) 8 _ (by rw [e1]; rfl) (by rw [e1]) (by rw [e1]) (by rw [e1]) (letV_ok h.ok)
      clear h hr e1
      go_enter Tryz.func63, Tryz.ntmps63
      go_wp2
      go_ret
      exact ⟨rfl, hA.out, Goes.put _ _ _ _⟩
    · have hw6 : IntKind.i64.wrap (s.fuse - 1) = s.fuse - 1 := by rw [IntKind.wrap_i64]; omega
      let s1 : St := { s with fuse := s.fuse - 1 }
      have ok1 : Ok s1 := ⟨h.ok.n, h.ok.held, h.ok.wait, ⟨by show -1 ≤ s.fuse - 1; omega, by show s.fuse - 1 ≤ _; omega⟩, h.ok.made, h.ok.reads, h.ok.claims⟩
      have h1' : DiskAt (w.setCell ⟨L.d, 6, none⟩ (.int .i64 (s.fuse - 1))) L s1 := h.put (s' := s1) 6 _ rfl rfl rfl rfl ok1
      have e1 : letV s = { s with fuse := s.fuse - 1, made := s.made + 1 } := by unfold letV; rw [if_neg h0, if_neg h1]
      have hA : Hid (DiskAt ((w.setCell ⟨L.d, 6, none⟩ (.int .i64 (s.fuse - 1))).setCell ⟨L.d, 8, none⟩ (.int .i64 (s.made + 1))) L (letV s)) := h1'.put (s' := letV s) 8 _ (by rw [e1]; rfl) (by rw [e1]) (by rw [e1]) (by rw [e1]) (letV_ok h.ok)
      have hG : Hid (Goes w ((w.setCell ⟨L.d, 6, none⟩ (.int .i64 (s.fuse - 1))).setCell ⟨L.d, 8, none⟩ (.int .i64 (s.made + 1))) L L) := (Goes.put _ _ _ _).trans (Goes.put _ _ _ _)
      clear h hr e1 h1' ok1
      clear s1
      go_enter Tryz.func63, Tryz.ntmps63
      go_wp2
      go_ret
      exact ⟨rfl, hA.out, hG.out⟩

/-- A claim. -/
def claimV (s : St) : St := if s.stopped then s else { s with claims := s.claims + 1, claimed := true }
def claimN (s : St) : Int := if s.stopped then 0 else s.claims + 1
theorem claim_of (h : DiskAt w L s) (hr : Room s) : Calls Tryz.prog 9 #[.pointer (some ⟨L.d, 0, none⟩)] w fun e w' => e = .returned (.int .i64 (claimN s)) ∧ DiskAt w' L (claimV s) ∧ Goes w w' L L := by
  have c7 := h.c7
  have c10 := h.c10
  have c11 := h.c11
  have f10 := h.free 10
  have f11 := h.free 11
  have h0 := h.c0
  have hc := h.ok.claims
  have hc2 := hr.claims
  unfold claimV claimN
  cases hs : s.stopped
  · rw [hs] at c7
    have hw : IntKind.i64.wrap (s.claims + 1) = s.claims + 1 := by rw [IntKind.wrap_i64]; omega
    let s1 : St := { s with claims := s.claims + 1 }
    have ok1 : Ok s1 := ⟨h.ok.n, h.ok.held, h.ok.wait, h.ok.fuse, h.ok.made, h.ok.reads, by show 0 ≤ s.claims + 1; omega⟩
    have h1 : DiskAt (w.setCell ⟨L.d, 10, none⟩ (.int .i64 (s.claims + 1))) L s1 := h.put (s' := s1) 10 _ rfl rfl rfl rfl ok1
    have hA : Hid (DiskAt ((w.setCell ⟨L.d, 10, none⟩ (.int .i64 (s.claims + 1))).setCell ⟨L.d, 11, none⟩ (.bool true)) L { s1 with claimed := true }) :=
      h1.put (s' := { s1 with claimed := true }) 11 _ rfl rfl rfl rfl ⟨ok1.n, ok1.held, ok1.wait, ok1.fuse, ok1.made, ok1.reads, ok1.claims⟩
    have hG : Hid (Goes w ((w.setCell ⟨L.d, 10, none⟩ (.int .i64 (s.claims + 1))).setCell ⟨L.d, 11, none⟩ (.bool true)) L L) := (Goes.put _ _ _ _).trans (Goes.put _ _ _ _)
    have e1 : ({ s1 with claimed := true } : St) = { s with claims := s.claims + 1, claimed := true } := rfl
    rw [e1] at hA
    clear h hr ok1 h1 e1
    clear s1
    rw [hs] at hA
    simp only [Bool.false_eq_true, if_false]
    go_enter Tryz.func9, Tryz.ntmps9
    go_wp2_with (first | (go_at_call 37; refine (none_no h0).mono ?_; rintro e W ⟨rfl, rfl⟩))
    go_ret
    exact ⟨rfl, hA.out, hG.out⟩
  · rw [hs] at c7
    have hA : Hid (DiskAt w L s) := h
    clear h
    simp only [if_true]
    go_enter Tryz.func9, Tryz.ntmps9
    go_wp2_with (first | (go_at_call 37; refine (none_no h0).mono ?_; rintro e W ⟨rfl, rfl⟩))
    go_ret
    exact ⟨rfl, hA.out, Goes.refl _ _⟩
end Go.Proofs.YtlcdpmjdnihocaaGreatD
/- A disk is made: of noughts, if its number of blocks may be; no condition. -/
namespace Go.Proofs.YtlcdpmjdnihocaaGreatD
open Go.RowKit
variable {w : World} {L : Loc} {s : St}

def bndB (n : Int) : Bool := decide (1 ≤ n ∧ n ≤ 1048576)
theorem bounded_any (n : Int) (w : World) : Calls Tryz.prog 56 #[.int .i64 n] w fun e w' => e = .returned (.bool (bndB n)) ∧ w' = w := by
  by_cases h1 : 1 ≤ n
  · by_cases h2 : n ≤ 1048576
    · have e : bndB n = true := by unfold bndB; simp [h1, h2]
      rw [e]
      go_enter Tryz.func56, Tryz.ntmps56
      go_wp2
      go_ret
      exact ⟨rfl, rfl⟩
    · have e : bndB n = false := by unfold bndB; simp [h2]
      rw [e]
      go_enter Tryz.func56, Tryz.ntmps56
      go_wp2
      go_ret
      exact ⟨rfl, rfl⟩
  · have e : bndB n = false := by unfold bndB; simp [h1]
    rw [e]
    go_enter Tryz.func56, Tryz.ntmps56
    go_wp2
    go_ret
    exact ⟨rfl, rfl⟩
def newV (n : Int) : St := ⟨n, fun _ => none, [], [], -1, false, 0, 0, 0, false⟩
theorem newV_ok {n : Int} (h : bndB n = true) : Ok (newV n) := by
  have h' : 1 ≤ n ∧ n ≤ 1048576 := by simpa [bndB] using h
  exact ⟨h', fun k f hk => by simp [newV] at hk, fun c hc => by simp [newV] at hc, ⟨by show (-1 : Int) ≤ -1; omega, by show (-1 : Int) ≤ _; omega⟩, by show (0 : Int) ≤ 0; omega, by show (0 : Int) ≤ 0; omega, by show (0 : Int) ≤ 0; omega⟩
/-- All of the disk lies in memory from b on. -/
def Loc.from (L : Loc) (b : Nat) : Prop := ∀ k, L.has k → b ≤ k
def newL (w : World) : Loc := ⟨w.heap.size + 2, w.heap.size, w.heap.size + 1, .slice none 0 0⟩
theorem newL_from (w : World) : (newL w).from w.heap.size := by
  intro k hk
  rcases hk with h | h | h | h
  · have : k = w.heap.size + 2 := h
    omega
  · have : k = w.heap.size := h
    omega
  · have : k = w.heap.size + 1 := h
    omega
  · simp [newL, Value.ownBlock] at h
theorem new_at {n : Int} (h : bndB n = true) (w : World) :
    DiskAt (((w.alloc (.map #[] 0)).alloc (.map #[] 0)).alloc (.cells (dkRow (newL w) (newV n)) 49)) (newL w) (newV n) := by
  have s1 : (w.alloc (.map #[] 0)).heap.size = w.heap.size + 1 := by simp
  have s2 : ((w.alloc (.map #[] 0)).alloc (.map #[] 0)).heap.size = w.heap.size + 2 := by simp
  have m1 : MapIs Tryz.prog 3 (w.alloc (.map #[] 0)) w.heap.size (fun _ => none) := MapIs.made w
  have m2 : MapIs Tryz.prog 3 ((w.alloc (.map #[] 0)).alloc (.map #[] 0)) (w.heap.size + 1) (fun _ => none) := by
    have := MapIs.made (P := Tryz.prog) (k := 3) (w.alloc (.map #[] 0))
    rwa [s1] at this
  refine ⟨?_, ?_, ?_, ?_, ?_, newV_ok h⟩
  · have := heap_alloc_new ((w.alloc (.map #[] 0)).alloc (.map #[] 0)) (.cells (dkRow (newL w) (newV n)) 49)
    rw [s2] at this
    exact this
  · refine m1.kept ?_
    have b1 : Below (w.heap.size + 1) (w.alloc (.map #[] 0)) (((w.alloc (.map #[] 0)).alloc (.map #[] 0)).alloc (.cells (dkRow (newL w) (newV n)) 49)) :=
      ((Below.refl _ _).alloc (by omega) _).alloc (by omega) _
    exact b1.block _ (by show w.heap.size < _; omega)
  · have e : lateV (newV n) = fun _ => none := by funext k; simp [lateV, newV, lastAt]
    rw [e]
    refine m2.kept ?_
    have b1 : Below (w.heap.size + 2) ((w.alloc (.map #[] 0)).alloc (.map #[] 0)) (((w.alloc (.map #[] 0)).alloc (.map #[] 0)).alloc (.cells (dkRow (newL w) (newV n)) 49)) :=
      ((Below.refl _ _).alloc (by omega) _)
    exact b1.block _ (by show w.heap.size + 1 < _; omega)
  · exact World.ownsRow_nil _ 0 94 1026
  · show w.heap.size ≠ w.heap.size + 1
    omega
theorem new_ok {n : Int} (h : bndB n = true) (w : World) :
    Calls Tryz.prog 35 #[.int .i64 n] w fun e w' => ∃ L : Loc, e = .returned (.tuple #[.pointer (some ⟨L.d, 0, none⟩), .int .i64 0]) ∧ DiskAt w' L (newV n) ∧ L.from w.heap.size ∧ Below w.heap.size w w' := by
  have hA : Hid (DiskAt (((w.alloc (.map #[] 0)).alloc (.map #[] 0)).alloc (.cells (dkRow (newL w) (newV n)) 49)) (newL w) (newV n)) := new_at h w
  have hmm := @run_makeMap Tryz.prog
  go_enter Tryz.func35, Tryz.ntmps35
  go_wp2_with (first | (go_at_call 56; refine (bounded_any n w).mono ?_; rw [h]; rintro e W ⟨rfl, rfl⟩))
  go_ret2
  refine ⟨newL _, rfl, hA.out, newL_from _, ?_⟩
  exact (((Below.refl _ _).alloc (Nat.le_refl _) _).alloc (by simp) _).alloc (by simp; omega) _
end Go.Proofs.YtlcdpmjdnihocaaGreatD
/- A block is held for good; what is pending, and that nothing is; no condition but that the block's number is one of the disk's. -/
namespace Go.Proofs.YtlcdpmjdnihocaaGreatD
open Go.RowKit
variable {w : World} {L : Loc} {s : St}

/-- The bytes f lie in memory behind a place. -/
def BlkAt (w : World) (g off : Nat) (f : Nat → Int) : Prop := w.rangeAt g off (blk f).toList
theorem BlkAt.of {w : World} {g : Nat} {f : Nat → Int} {t : TypeId} (h : w.heap[g]? = some (.cells (blk f) t)) : BlkAt w g 0 f := fun j v hv => by
  rw [cell_of_row w g _ _ t _ h, Nat.zero_add, ← Array.getElem?_toList]
  exact hv
theorem loadM {w : World} {g off : Nat} {f : Nat → Int} (h : BlkAt w g off f) : (Instr.loadAt 79 (.pointer (some ⟨g, off, none⟩))).run Tryz.prog w = .ok (.agg (blk f)) w := by
  have hr := run_loadAt_mid (P := Tryz.prog) w g off 79 (blk f).toList _ h Tryz.underlying79 rfl (by rw [blk_list_len]; exact size25)
  rwa [Array.toArray_toList] at hr
theorem wpList_loadM {ops : Array Oper} {rest : List Oper} {o : Oper} {a : Act} {w : World} {Q : Exit → Act → World → Prop} (hgd : o.guard = none) (x : Operand) (ho : o.op = .load 79 x)
    (g off : Nat) (hx : a.eval x = .pointer (some ⟨g, off, none⟩)) (f : Nat → Int) (hg : BlkAt w g off f)
    (h : wpList Tryz.prog ops Q rest (a.put o.dst (.agg (blk f))) w) : wpList Tryz.prog ops Q (o :: rest) a w :=
  wpList_plain hgd fun _ hK => by
    unfold Oper.wp execOp
    simp only [ho, hx, loadM hg, Sem.run_bind, Result.andThen_ok, Sem.run_pure]
    exact hK _ _ h
theorem wpStill_loadM {ops : Array Oper} {Q : Act → Prop} {a : Act} {o : Oper} {rest : List Oper} {w : World} (hgd : o.guard = none) (x : Operand) (ho : o.op = .load 79 x)
    (g off : Nat) (hx : a.eval x = .pointer (some ⟨g, off, none⟩)) (f : Nat → Int) (hg : BlkAt w g off f)
    (h : wpStill Tryz.prog ops w Q rest (a.put o.dst (.agg (blk f)))) : wpStill Tryz.prog ops w Q (o :: rest) a := by
  unfold wpStill
  rw [if_pos (by simp [Region.wanted, hgd])]
  unfold Oper.still execOp
  simp only [ho, hx, loadM hg, Sem.run_bind, Result.andThen_ok, Sem.run_pure, Oper.stillUpon]
  exact ⟨trivial, h⟩
theorem built58 (u : World) : (Instr.build 79 #[]).run Tryz.prog u = .ok (.agg (blk nought)) u := by
  have z25 := zero25
  simp [Instr.build, z25, run_underlying Tryz.underlying79, Tryz.sizeOf5, Instr.fill, Value.cells]

theorem wpList_build58 {ops : Array Oper} {rest : List Oper} {o : Oper} {a : Act} {w : World} {Q : Exit → Act → World → Prop} (hgd : o.guard = none) (ho : o.op = .build 79 #[]) {N : Nat → Int}
    (hb : ∀ u, (Instr.build 79 #[]).run Tryz.prog u = .ok (.agg (blk N)) u) (h : wpList Tryz.prog ops Q rest (a.put o.dst (.agg (blk N))) w) : wpList Tryz.prog ops Q (o :: rest) a w :=
  wpList_plain hgd fun _ hK => by
    have e : (execOp a.eval o).run Tryz.prog w = .ok (.value (.agg (blk N))) w := by
      unfold execOp
      simp only [ho, Array.map_empty, Sem.run_bind]
      simp only [hb, Result.andThen_ok, Sem.run_pure]
    unfold Oper.wp
    rw [e]
    exact hK _ _ h

/-- Block k is held as f. -/
def holdV (s : St) (k : Int) (f : Nat → Int) : St := { s with held := fun j => if j = k then (if blankB f then none else some f) else s.held j }
theorem holdV_ok (h : Ok s) {k : Int} (hk : 0 ≤ k ∧ k < s.n) {f : Nat → Int} (hf : Can f) : Ok (holdV s k f) := by
  refine ⟨h.n, fun j g hj => ?_, h.wait, h.fuse, h.made, h.reads, h.claims⟩
  unfold holdV at hj
  simp only at hj
  by_cases e : j = k
  · rw [if_pos e] at hj
    cases hb : blankB f
    · rw [hb] at hj
      simp at hj
      subst hj
      exact ⟨by rw [e]; exact hk, hf, fun q => by rw [hf.blank.2 q] at hb; cases hb⟩
    · rw [hb] at hj; simp at hj
  · rw [if_neg e] at hj
    exact h.held j g hj
theorem holdV_heldV (s : St) (k : Int) (f : Nat → Int) : heldV (holdV s k f) = fun y => if y = k then (if blankB f then none else some (.agg (blk f))) else heldV s y := by
  funext y
  unfold heldV holdV
  simp only
  by_cases e : y = k
  · rw [if_pos e, if_pos e]
    cases blankB f <;> rfl
  · rw [if_neg e, if_neg e]
/-- Only the map of what is held has turned. -/
theorem DiskAt.hold (h : DiskAt w L s) {k : Int} (hk : 0 ≤ k ∧ k < s.n) {f : Nat → Int} (hf : Can f) {w' : World} (hm : MapIs Tryz.prog 3 w' L.hb (heldV (holdV s k f))) (hfr : Fr (fun i => i = L.hb) w w') : DiskAt w' L (holdV s k f) := by
  have hne : ∀ i, L.has i → i ≠ L.hb → w'.heap[i]? = w.heap[i]? := fun i hi q => hfr.block i (h.lt i hi) q
  obtain ⟨es, ck, hmm⟩ := h.held.isMap
  refine ⟨?_, hm, ?_, ?_, h.ne, holdV_ok h.ok hk hf⟩
  · rw [hne L.d (.inl rfl) fun e => by rw [← e, h.row] at hmm; cases hmm]
    exact h.row
  · exact h.late.kept (hne _ (.inr (.inr (.inl rfl))) fun e => h.ne e.symm)
  · refine ownsRow_kept0 h.hist fun i hi => hne i (.inr (.inr (.inr hi))) fun e => ?_
    rcases h.hist.2 with ⟨h1, _⟩ | ⟨g, cap, cur, h1, _, h2, _⟩
    · rw [h1] at hi; cases hi
    · rw [h1] at hi
      injection hi with hi
      rw [← hi] at e
      simp only at e
      rw [e, hmm] at h2
      cases h2
theorem keyed3 : Go.Maps.Keyed Tryz.prog 3 := Go.Maps.int_keyed Tryz.underlying3
theorem Fr.drew {T : Nat → Prop} (w : World) : Fr T w w.drew := ⟨rfl, rfl, rfl, Nat.le_refl _, fun _ _ _ => rfl⟩
theorem inTop_of (h : Ok s) {k : Int} (hk : 0 ≤ k ∧ k < s.n) : inTop k := by
  have := h.n
  unfold inTop
  omega

set_option maxRecDepth 20000 in
theorem hold_of (h : DiskAt w L s) {k : Int} (hk : 0 ≤ k ∧ k < s.n) {f : Nat → Int} (hf : Can f) {g off : Nat} (hg : BlkAt w g off f) :
    Calls Tryz.prog 36 #[.pointer (some ⟨L.d, 0, none⟩), .int .i64 k, .pointer (some ⟨g, off, none⟩)] w fun e w' => e = .returned (.tuple #[]) ∧ DiskAt w' L (holdV s k f) ∧ Fr (fun i => i = L.hb) w w' := by
  have hq := eq25
  have hbd := built58
  have c2 := h.c2
  have hin := inTop_of h.ok hk
  have hW := inTop.wf hin
  have HA : Hid (∀ w', MapIs Tryz.prog 3 w' L.hb (heldV (holdV s k f)) → Fr (fun i => i = L.hb) w w' → DiskAt w' L (holdV s k f)) := fun w' => h.hold hk hf
  rw [holdV_heldV] at HA
  have hM := h.held
  have hl : L.hb < w.heap.size := hM.lt
  cases hb : blankB f
  · rw [hb] at HA
    unfold blankB at hb
    clear h hf hk
    generalize nought = N at *
    go_enter Tryz.func36, Tryz.ntmps36
    go_wp2_with (first | refine wpList_loadM rfl _ rfl g off rfl f hg ?_ | refine wpList_build58 rfl rfl hbd ?_)
    go_still_tail 8, (by kernel_rfl)
    refine wpStill_loadM rfl _ rfl g off rfl f hg ?_
    refine wpStill_nil ?_
    change wpList _ _ _ _ _ (World.drew _)
    refine wpList_putM rfl _ _ _ 46 rfl 79 Tryz.underlying3 keyed3 Tryz.underlying46 L.hb _ rfl (hM.kept (w' := w.drew) rfl) k hin rfl _ rfl ?_
    intro w' hm' hg'
    have hF : Hid (Fr (fun i => i = L.hb) w w') := (Fr.drew w).trans ((Fr.ofGrown hg').mono fun i _ q => by injection q with q; exact q.symm) fun _ _ q => q
    have hD : Hid (DiskAt w' L (holdV s k f)) := HA.out w' hm' hF.out
    clear hm' hg' HA
    go_wp2
    go_end0
    exact ⟨rfl, hD.out, hF.out⟩
  · rw [hb] at HA
    unfold blankB at hb
    clear h hf hk
    generalize nought = N at *
    have HB : Hid (∀ w' : World, MapIs Tryz.prog 3 w' L.hb (fun y => if y = k then none else heldV s y) → w.grownBy w' (some L.hb) → DiskAt w' L (holdV s k f) ∧ Fr (fun i => i = L.hb) w w') := fun w' hm' hg' => by
      have hF : Fr (fun i => i = L.hb) w w' := (Fr.ofGrown hg').mono fun i _ q => by injection q with q; exact q.symm
      exact ⟨HA.out w' hm' hF, hF⟩
    clear HA
    go_enter Tryz.func36, Tryz.ntmps36
    go_wp2_with (first | refine wpList_loadM rfl _ rfl g off rfl f hg ?_ | refine wpList_build58 rfl rfl hbd ?_ | (refine wpList_delM rfl (.tmp 14) (.tmp 15) 46 rfl 79 Tryz.underlying3 keyed3 Tryz.underlying46 L.hb _ rfl hM k hW rfl ?_; intro w' hm' hg'))
    refine bodyPost_ret (results_none rfl _ _ _) rfl ?_
    exact ⟨rfl, HB.out _ hm' hg'⟩
end Go.Proofs.YtlcdpmjdnihocaaGreatD
/- The history in memory; what is pending of it, and that nothing is; no condition. -/
namespace Go.Proofs.YtlcdpmjdnihocaaGreatD
open Go.RowKit
variable {w : World} {L : Loc} {s : St}

theorem opCells_get : ∀ (l : List Rec) (i j : Nat) (r : Rec), l[i]? = some r → j < 1026 → (opCells l)[i * 1026 + j]? = (recCells r)[j]?
  | [], i, j, r, h, _ => by simp at h
  | x :: t, 0, j, r, h, hj => by
    have h' : x = r := by simpa using h
    subst h'
    show (recCells x ++ opCells t)[0 * 1026 + j]? = _
    rw [Nat.zero_mul, Nat.zero_add, List.getElem?_append_left (by rw [recCells_len]; exact hj)]
  | x :: t, i + 1, j, r, h, hj => by
    have h' : t[i]? = some r := by simpa using h
    show (recCells x ++ opCells t)[(i + 1) * 1026 + j]? = _
    rw [List.getElem?_append_right (by rw [recCells_len, Nat.add_mul]; omega), recCells_len, show (i + 1) * 1026 + j - 1026 = i * 1026 + j by rw [Nat.add_mul]; omega]
    exact opCells_get t i j r h' hj
theorem DiskAt.histAt (h : DiskAt w L s) {g : Nat} (hg : L.hv.ownBlock = some g) {i j : Nat} {r : Rec} (hi : s.ops[i]? = some r) (hj : j < 1026) : w.cell? ⟨g, i * 1026 + j, none⟩ = (recCells r)[j]? := by
  rcases h.hist.2 with ⟨h1, _⟩ | ⟨g', cap, cur, h1, _, hh, hc, hm, hs, ht⟩
  · rw [h1] at hg; cases hg
  · rw [h1] at hg
    have e : g' = g := by injection hg
    subst e
    have hlt : i < s.ops.length := (List.getElem?_eq_some_iff.1 hi).1
    have hin : i * 1026 + j < s.ops.length * 1026 := by simp only [Nat.mul_comm _ 1026] at *; omega
    rw [cell_of_row w g' _ cur 94 _ hh, ← Array.getElem?_toList, ← opCells_get _ i j r hi hj, ← ht, List.getElem?_take_of_lt hin]
theorem DiskAt.histPos (h : DiskAt w L s) {g : Nat} (hg : L.hv.ownBlock = some g) {i : Nat} {r : Rec} (hi : s.ops[i]? = some r) : w.cell? ⟨g, i * 1026 + 1, none⟩ = some (.int .i64 r.pos) :=
  (h.histAt hg hi (by omega)).trans rfl
theorem DiskAt.histBlk (h : DiskAt w L s) {g : Nat} (hg : L.hv.ownBlock = some g) {i : Nat} {r : Rec} (hi : s.ops[i]? = some r) : BlkAt w g (i * 1026 + 2) r.dat := fun j v hv => by
  have hj : j < 1024 := by have := (List.getElem?_eq_some_iff.1 hv).1; rwa [blk_list_len] at this
  rw [Nat.add_assoc, Nat.add_comm 2 j, h.histAt hg hi (by omega)]
  rw [show (recCells r)[j + 2]? = (blk r.dat).toList[j]? by simp only [recCells, List.getElem?_cons_succ]]
  exact hv
theorem DiskAt.shape (h : DiskAt w L s) : ∃ p c, L.hv = .slice p s.ops.length c ∧ s.ops.length ≤ c ∧ c ≤ maxLen ∧ (p = none ∧ c = 0 ∨ ∃ g, p = some ⟨g, 0, none⟩ ∧ L.hv.ownBlock = some g ∧ g < w.heap.size) := by
  rcases h.hist.2 with ⟨h1, h2⟩ | ⟨g', cap, cur, h1, _, hh, hc, hm, hs, ht⟩
  · exact ⟨none, 0, by rw [h1, h2], by omega, by unfold maxLen; omega, .inl ⟨rfl, rfl⟩⟩
  · exact ⟨_, cap, h1, hc, hm, .inr ⟨g', rfl, by rw [h1]; rfl, (Array.getElem?_eq_some_iff.1 hh).1⟩⟩
theorem ops_len (s : St) : s.ops.length = s.done.length + s.wait.length := by simp [St.ops]
theorem ops_wait (s : St) {i : Nat} {c : Cel} (h : s.wait[i]? = some c) : s.ops[s.done.length + i]? = some (wrec c) := by
  unfold St.ops
  rw [List.getElem?_append_right (by omega), Nat.add_sub_cancel_left, List.getElem?_map, h]
  rfl
/-- The part of the history behind l. -/
def pendV (v : Value) (l : Nat) : Value := match v with
  | .slice a n c => sliced a l n c 1026
  | _ => v
theorem DiskAt.pend (h : DiskAt w L s) : ∃ p c, pendV L.hv s.done.length = .slice p s.wait.length c ∧ s.wait.length ≤ c ∧ (0 < s.wait.length → ∃ g, L.hv.ownBlock = some g ∧ p = some ⟨g, s.done.length * 1026, none⟩) := by
  obtain ⟨p, c, h1, h2, h3, h4⟩ := h.shape
  have hl := ops_len s
  refine ⟨if c = s.done.length then p else p.map (·.add (s.done.length * 1026)), c - s.done.length, ?_, by omega, fun hw => ?_⟩
  · rw [h1]
    show sliced p s.done.length s.ops.length c 1026 = _
    unfold sliced
    rw [hl, Nat.add_sub_cancel_left]
  · rw [if_neg (by omega)]
    rcases h4 with ⟨_, h5⟩ | ⟨g, h5, h6, _⟩
    · omega
    · refine ⟨g, h6, ?_⟩
      rw [h5]
      show some (Addr.add ⟨g, 0, none⟩ _) = _
      rw [Go.WideShapes.add_plain, Nat.zero_add]
theorem elem67 : Tryz.prog.elem 42 = 94 := by kernel_rfl
theorem slice67 (p : Option Addr) (n c l : Nat) (hl : l ≤ n) (u : World) :
    (Instr.sliceAt 42 (.slice p n c) (some (.int .i64 (l : Int))) none none).run Tryz.prog u = .ok (pendV (.slice p n c) l) u := by
  have hu : Tryz.prog.underlying 42 = some (.slice (Tryz.prog.elem 42)) := by rw [elem67]; exact Tryz.underlying42
  rw [run_sliceAt_slice (P := Tryz.prog) u 42 _ _ _ _ hu, run_slice_l (P := Tryz.prog) u 42 p n c hu .i64 l (by omega) (by omega), elem67, Tryz.sizeOf94 u]
  rw [Result.andThen_ok, Int.toNat_natCast]
  rfl
theorem wpStill_slice67 {ops : Array Oper} {Q : Act → Prop} {a : Act} {o : Oper} {rest : List Oper} {w : World} (hgd : o.guard = none) (x y : Operand) (ho : o.op = .slice 42 x (some y) none none)
    (vx vy V : Value) (hx : a.eval x = vx) (hy : a.eval y = vy) (hr : (Instr.sliceAt 42 vx (some vy) none none).run Tryz.prog w = .ok V w)
    (h : wpStill Tryz.prog ops w Q rest (a.put o.dst V)) : wpStill Tryz.prog ops w Q (o :: rest) a := by
  unfold wpStill
  rw [if_pos (by simp [Region.wanted, hgd])]
  unfold Oper.still execOp
  simp only [ho, hx, hy, Option.map, Sem.run_bind, hr, Result.andThen_ok, Sem.run_pure, Oper.stillUpon]
  exact ⟨trivial, h⟩
set_option maxRecDepth 20000 in
theorem pending_of (h : DiskAt w L s) : Calls Tryz.prog 54 #[.pointer (some ⟨L.d, 0, none⟩)] w fun e w' => e = .returned (pendV L.hv s.done.length) ∧ w' = w.drew := by
  have c3 := h.c3
  have c4 := h.c4
  obtain ⟨p, c, h1, h2, h3, h4⟩ := h.shape
  have hl := ops_len s
  rw [h1] at c3 ⊢
  have hs := slice67 p s.ops.length c s.done.length (by omega)
  generalize pendV (.slice p s.ops.length c) s.done.length = V at *
  clear h h1 h4 hl h2 h3
  generalize s.ops.length = m at *
  generalize s.done.length = l at *
  go_enter Tryz.func54, Tryz.ntmps54
  go_wp2
  refine wp_region_still_lit (by kernel_rfl) (by kernel_rfl) ?_
  iterate 8 still_step
  refine wpStill_slice67 rfl _ _ rfl _ _ V rfl rfl (hs _) ?_
  simp only [Act.put, List.setIfInBounds_toArray, List.set_cons_succ, List.set_cons_zero]
  iterate 1 still_step
  refine wpStill_nil ?_
  change Exit.then _ _ _ _ (World.drew _)
  go_wp2
  go_ret
  exact ⟨rfl, rfl⟩
/-- The cells of a disk, one by one. -/
def row12 (d : Nat) (n : Int) (hb : Nat) (hv : Value) (bh : Int) (lb : Nat) (fu : Int) (st : Bool) (ma re cl : Int) (cd : Bool) : Array Value :=
  #[.pointer (some ⟨d, 0, none⟩), .int .i64 n, .map (some hb), hv, .int .i64 bh, .map (some lb), .int .i64 fu, .bool st, .int .i64 ma, .int .i64 re, .int .i64 cl, .bool cd]
theorem nothing_of {d : Nat} {n : Int} {hb : Nat} {p : Option Addr} {m c : Nat} {bh : Int} {lb : Nat} {fu : Int} {st : Bool} {ma re cl : Int} {cd : Bool} (h : w.heap[d]? = some (.cells (row12 d n hb (.slice p m c) bh lb fu st ma re cl cd) 49)) :
    Calls Tryz.prog 64 #[.pointer (some ⟨d, 0, none⟩)] w fun e w' => e = .returned (.tuple #[]) ∧ w'.heap[d]? = some (.cells (row12 d n hb (.slice p m c) m w.heap.size fu st ma re cl cd) 49) ∧ MapIs Tryz.prog 3 w' w.heap.size (fun _ => none) ∧ Fr (fun i => i = d) w w' := by
  have hmm := @run_makeMap Tryz.prog
  have hlt : d < w.heap.size := (Array.getElem?_eq_some_iff.1 h).1
  have c3 : w.cell? ⟨d, 3, none⟩ = some (.slice p m c) := Joins.cell_of_block h 3
  have c4 : w.cell? ⟨d, 4, none⟩ = some (.int .i64 bh) := Joins.cell_of_block h 4
  have f4 : w.frozen? ⟨d, 4, none⟩ = false := Joins.unfrozen_of_block h 4
  have c5 : w.cell? ⟨d, 5, none⟩ = some (.map (some lb)) := Joins.cell_of_block h 5
  have f5 : w.frozen? ⟨d, 5, none⟩ = false := Joins.unfrozen_of_block h 5
  have hS : ((w.setCell ⟨d, 4, none⟩ (.int .i64 (m : Int))).setCell ⟨d, 5, none⟩ (.map (some w.heap.size))).heap.size = w.heap.size := by simp
  have hR : Hid ((((w.setCell ⟨d, 4, none⟩ (.int .i64 (m : Int))).setCell ⟨d, 5, none⟩ (.map (some w.heap.size))).alloc (.map #[] 0)).heap[d]? = some (.cells (row12 d n hb (.slice p m c) m w.heap.size fu st ma re cl cd) 49)) := by
    have h1 := Joins.block_setCell h (i := 4) (.int .i64 (m : Int))
    have h3 := Joins.block_setCell h1 (i := 5) (.map (some w.heap.size))
    exact (((Below.refl (d + 1) _).alloc (by rw [hS]; omega) _).block d (by omega)).trans h3
  have hM : Hid (MapIs Tryz.prog 3 (((w.setCell ⟨d, 4, none⟩ (.int .i64 (m : Int))).setCell ⟨d, 5, none⟩ (.map (some w.heap.size))).alloc (.map #[] 0)) w.heap.size (fun _ => none)) := by
    have h1 := MapIs.made (P := Tryz.prog) (k := 3) ((w.setCell ⟨d, 4, none⟩ (.int .i64 (m : Int))).setCell ⟨d, 5, none⟩ (.map (some w.heap.size)))
    rwa [hS] at h1
  have hF : Hid (Fr (fun i => i = d) w (((w.setCell ⟨d, 4, none⟩ (.int .i64 (m : Int))).setCell ⟨d, 5, none⟩ (.map (some w.heap.size))).alloc (.map #[] 0))) :=
    ((Fr.setCell w d 4 _).trans (Fr.setCell _ d 5 _) fun _ _ q => q).trans (Fr.alloc (fun i => i = d) _ _) fun _ _ q => q
  clear h hS
  go_enter Tryz.func64, Tryz.ntmps64
  go_wp2
  go_end0
  exact ⟨rfl, hR.out, hM.out, hF.out⟩
end Go.Proofs.YtlcdpmjdnihocaaGreatD
/- Read: a block as it was written last; for every disk and every number. -/
namespace Go.Proofs.YtlcdpmjdnihocaaGreatD
open Go.RowKit
variable {w : World} {L : Loc} {s : St}

theorem heap_kept {w w' : World} {g : Nat} {o : Obj} (h : w.heap[g]? = some o) (hb : Below w.heap.size w w') : w'.heap[g]? = some o :=
  (hb.block g (Array.getElem?_eq_some_iff.1 h).1).trans h
theorem below_next {w w1 w2 : World} (h : Below w.heap.size w w1) (hb : Below w1.heap.size w1 w2) : Below w.heap.size w w2 := h.trans (hb.mono h.size)
theorem below_new (w : World) (o : Obj) : Below w.heap.size w (w.alloc o) := (Below.refl _ _).alloc (Nat.le_refl _) _
section
variable {P : Program} {k : TypeId} {b : Nat} {m : Int → Option Value}
variable {ops : Array Oper} {rest : List Oper} {o : Oper} {a : Act} {Q : Exit → Act → World → Prop}
end
theorem refV_ok {k : Int} (h : refV s k = 0) : s.stopped = false ∧ 0 ≤ k ∧ k < s.n := by
  unfold refV at h
  cases hs : s.stopped
  · rw [hs] at h
    simp only [Bool.false_eq_true, if_false] at h
    by_cases hk : 0 ≤ k ∧ k < s.n
    · exact ⟨rfl, hk⟩
    · rw [if_neg hk] at h; omega
  · rw [hs] at h; simp at h

end Go.Proofs.YtlcdpmjdnihocaaGreatD
/- A thing more in the history; no condition but that it is not too long. -/
namespace Go.Proofs.YtlcdpmjdnihocaaGreatD
open Go.RowKit
variable {w : World} {L : Loc} {s : St}

theorem info108 : (Tryz.prog.info? 94).map (fun i => (i.zero, i.size, i.bytes)) = some (some (.agg (recCells ⟨0, 0, nought⟩).toArray), 1026, 1040) := by kernel_rfl
theorem zero108 : ∀ w, (zeroValue 94).run Tryz.prog w = .ok (.agg (recCells ⟨0, 0, nought⟩).toArray) w := by
  obtain ⟨i0, hi0, hz0, hz1, hz2⟩ := info_parts info108
  exact (zero_of_info (t := 94) (P := Tryz.prog) (by rw [hi0]; exact congrArg some (Prod.ext hz0 hz1))).1
theorem fold_set (b : Nat) : ∀ (l : List Value) (k : Nat) (cs : Array Value), b + k + l.length ≤ cs.size → ∀ j,
    ((l.zipIdx k).foldl (fun (cs : Array Value) (p : Value × Nat) => cs.setIfInBounds (b + p.2) p.1) cs)[j]? = if b + k ≤ j ∧ j < b + k + l.length then l[j - (b + k)]? else cs[j]?
  | [], k, cs, _, j => by simp; intro h1 h2; omega
  | v :: l, k, cs, h, j => by
    simp only [List.length_cons] at h
    rw [List.zipIdx_cons, List.foldl_cons, fold_set b l (k + 1) _ (by simp; omega) j]
    by_cases h1 : b + (k + 1) ≤ j ∧ j < b + (k + 1) + l.length
    · rw [if_pos h1, if_pos (by simp only [List.length_cons]; omega), show j - (b + k) = (j - (b + (k + 1))) + 1 by omega, List.getElem?_cons_succ]
    · rw [if_neg h1, Array.getElem?_setIfInBounds]
      by_cases h2 : b + k = j
      · subst h2; rw [if_pos rfl, if_pos (by omega), if_pos (by simp only [List.length_cons]; omega), Nat.sub_self]; rfl
      · rw [if_neg h2, if_neg (by simp only [List.length_cons]; omega)]
/-- Cells laid over cells. -/
theorem fold_over (b : Nat) (c cs : Array Value) (h : b + c.size ≤ cs.size) :
    Array.foldl (fun (cs : Array Value) (p : Value × Nat) => cs.setIfInBounds (b + p.2) p.1) cs c.zipIdx = (cs.toList.take b ++ (c.toList ++ cs.toList.drop (b + c.size))).toArray := by
  apply Array.ext_getElem?
  intro j
  rw [← Array.foldl_toList, Array.toList_zipIdx, fold_set b c.toList 0 _ (by rw [Array.length_toList]; omega), Array.length_toList]
  rw [show ((cs.toList.take b ++ (c.toList ++ cs.toList.drop (b + c.size))).toArray)[j]? = (cs.toList.take b ++ (c.toList ++ cs.toList.drop (b + c.size)))[j]? from List.getElem?_toArray]
  by_cases h1 : j < b
  · rw [if_neg (by omega), List.getElem?_append_left (by rw [List.length_take, Array.length_toList]; omega), List.getElem?_take_of_lt h1, Array.getElem?_toList]
  · rw [List.getElem?_append_right (by rw [List.length_take, Array.length_toList]; omega), List.length_take, Array.length_toList, Nat.min_eq_left (by omega)]
    by_cases h2 : j < b + c.size
    · rw [if_pos (by omega), List.getElem?_append_left (by rw [Array.length_toList]; omega), Nat.add_zero]
    · rw [if_neg (by omega), List.getElem?_append_right (by rw [Array.length_toList]; omega), Array.length_toList, List.getElem?_drop, Array.getElem?_toList, show b + c.size + (j - b - c.size) = j by omega]
theorem fill_rec (k p : Int) (f : Nat → Int) (Z : Array Value) (hZ : Z.size = 1026) (place : Nat → Option (Nat × Nat)) (h0 : place 0 = some (0, 1)) (h1 : place 1 = some (1, 1)) (h2 : place 2 = some (2, 1024)) :
    Instr.fill place Z [(0, .int .u8 k), (1, .int .i64 p), (2, .agg (blk f))] = some (recCells ⟨k, p, f⟩).toArray := by
  have hb := blk_size f
  unfold Instr.fill
  rw [h0]
  simp only [Value.cells, List.size_toArray, List.length_cons, List.length_nil, hZ]
  rw [if_neg (by simp)]
  unfold Instr.fill
  rw [h1]
  simp only [Value.cells, List.size_toArray, List.length_cons, List.length_nil]
  rw [fold_over 0 #[.int .u8 k] Z (by rw [hZ]; simp)]
  rw [if_neg (by simp [hZ])]
  unfold Instr.fill
  rw [h2]
  simp only [Value.cells, hb]
  rw [fold_over 1 #[.int .i64 p] _ (by simp [hZ])]
  rw [if_neg (by simp [hZ])]
  rw [fold_over 2 (blk f) _ (by simp [hZ, hb])]
  have hl : Z.toList.length = 1026 := by rw [Array.length_toList, hZ]
  obtain ⟨z0, z1, r, hz, hr⟩ : ∃ z0 z1 r, Z.toList = z0 :: z1 :: r ∧ r.length = 1024 := by
    cases hz : Z.toList with
    | nil => rw [hz, List.length_nil] at hl; omega
    | cons z0 t =>
      cases t with
      | nil => rw [hz, List.length_cons, List.length_nil] at hl; omega
      | cons z1 r => exact ⟨z0, z1, r, rfl, by rw [hz, List.length_cons, List.length_cons] at hl; omega⟩
  rw [hz]
  simp only [List.take_zero, List.nil_append, List.take_succ_cons, List.drop_succ_cons, List.drop_zero, List.singleton_append, List.size_toArray, List.length_cons, List.length_nil, hb, Nat.zero_add, Nat.reduceAdd]
  unfold Instr.fill
  rw [List.drop_eq_nil_of_le (by omega), List.append_nil]
  rfl
theorem build108 (k p : Int) (f : Nat → Int) (u : World) : (Instr.build 94 #[(0, .int .u8 k), (1, .int .i64 p), (2, .agg (blk f))]).run Tryz.prog u = .ok (.agg (recCells ⟨k, p, f⟩).toArray) u := by
  have z := zero108
  have hZ : (recCells ⟨0, 0, nought⟩).toArray.size = 1026 := by rw [List.size_toArray, recCells_len]
  generalize (recCells ⟨0, 0, nought⟩).toArray = Z at *
  have hf := fill_rec k p f Z hZ
  simp [Instr.build, z, run_underlying Tryz.underlying94, Value.cells]
  rw [hf _ rfl rfl rfl]
  simp only [Sem.run_pure]
theorem fill_bar (k : Int) (place : Nat → Option (Nat × Nat)) (h0 : place 0 = some (0, 1)) :
    Instr.fill place (recCells ⟨0, 0, nought⟩).toArray [(0, .int .u8 k)] = some (recCells ⟨k, 0, nought⟩).toArray := by
  have hb := blk_list_len nought
  unfold recCells
  simp only
  generalize (blk nought).toList = B at *
  unfold Instr.fill
  rw [h0]
  simp only [Value.cells, List.size_toArray, List.length_cons, List.length_nil]
  rw [if_neg (by simp), fold_over 0 #[.int .u8 k] _ (by simp)]
  unfold Instr.fill
  simp only [List.take_zero, List.nil_append, List.size_toArray, List.length_cons, List.length_nil, Nat.zero_add, List.drop_succ_cons, List.drop_zero, List.singleton_append]
theorem build108b (k : Int) (u : World) : (Instr.build 94 #[(0, .int .u8 k)]).run Tryz.prog u = .ok (.agg (recCells ⟨k, 0, nought⟩).toArray) u := by
  have z := zero108
  have hf := fill_bar k
  generalize (recCells ⟨0, 0, nought⟩).toArray = Z at *
  generalize (recCells ⟨k, 0, nought⟩).toArray = Z' at *
  simp [Instr.build, z, run_underlying Tryz.underlying94, Value.cells]
  rw [hf _ rfl]
  simp only [Sem.run_pure]
theorem run_buildSlice_gen {P : Program} (u : World) (t e : TypeId) (len size : Nat) (zero : Value) (parts : Array (Nat × Value)) (cells : Array Value) (hu : P.underlying t = some (.slice e)) (hs : (sizeOf e).run P u = .ok size u)
    (hb : ¬ len * size > 2 ^ 24) (h0 : ¬ len * size = 0) (hz : (zeroValue e).run P u = .ok zero u)
    (hf : Instr.fill (fun i => some (i * size, size)) ((Array.range (len * size)).map (zero.cells[· % zero.cells.size]!)) parts.toList = some cells) :
    (Instr.buildSlice t len parts).run P u = .ok (.slice (some ⟨u.heap.size, 0, none⟩) len len) (u.alloc (.cells cells e)) := by
  simp only [Instr.buildSlice, Sem.run_bind, run_underlying hu, Result.andThen_ok, hs]
  rw [if_neg hb, if_neg h0]
  simp only [Sem.run_bind, hz, Result.andThen_ok, Sem.run_pure, hf, newRow, run_newObj_alloc]
theorem fill_one (c z : Array Value) (n : Nat) (hc : c.size = n) (hz : z.size = n) : Instr.fill (fun i => some (i * n, n)) z [(0, .agg c)] = some c := by
  unfold Instr.fill
  simp only [Value.cells, Nat.zero_mul]
  rw [if_neg (by simp [hc, hz]), fold_over 0 c z (by omega)]
  unfold Instr.fill
  rw [List.take_zero, List.nil_append, List.drop_eq_nil_of_le (by rw [Array.length_toList]; omega), List.append_nil]
/-- A list of one element that is a whole row. -/
theorem build1 (t e n : Nat) (zero : Value) (c : Array Value) (hu : Tryz.prog.underlying t = some (.slice e)) (hs : ∀ u, (sizeOf e).run Tryz.prog u = .ok n u) (hn : 0 < n ∧ n ≤ 16777216) (hz : ∀ u, (zeroValue e).run Tryz.prog u = .ok zero u) (hc : c.size = n) (u : World) :
    (Instr.buildSlice t 1 #[(0, .agg c)]).run Tryz.prog u = .ok (.slice (some ⟨u.heap.size, 0, none⟩) 1 1) (u.alloc (.cells c e)) :=
  run_buildSlice_gen u t e 1 n zero #[(0, .agg c)] c hu (hs u) (by omega) (by omega) (hz u) (fill_one c _ n hc (by rw [Array.size_map, Array.size_range]; omega))
theorem wpList_build1 {ops : Array Oper} {rest : List Oper} {o : Oper} {a : Act} {w : World} {Q : Exit → Act → World → Prop} (hgd : o.guard = none) (t e : TypeId) (x : Operand) (ho : o.op = .buildSlice t 1 #[(0, x)])
    (c : Array Value) (hx : a.eval x = .agg c) (hr : (Instr.buildSlice t 1 #[(0, .agg c)]).run Tryz.prog w = .ok (.slice (some ⟨w.heap.size, 0, none⟩) 1 1) (w.alloc (.cells c e)))
    (h : wpList Tryz.prog ops Q rest (a.put o.dst (.slice (some ⟨w.heap.size, 0, none⟩) 1 1)) (w.alloc (.cells c e))) : wpList Tryz.prog ops Q (o :: rest) a w :=
  wpList_plain hgd fun _ hK => by
    have hm : (#[(0, x)] : Array (Nat × Operand)).map (fun p => (p.1, a.eval p.2)) = #[(0, .agg c)] := by simp [hx]
    have e' : (execOp a.eval o).run Tryz.prog w = .ok (.value (.slice (some ⟨w.heap.size, 0, none⟩) 1 1)) (w.alloc (.cells c e)) := by
      unfold execOp
      simp only [ho, hm, Sem.run_bind]
      simp only [hr, Result.andThen_ok, Sem.run_pure]
    unfold Oper.wp
    rw [e']
    exact hK _ _ h
theorem rec_size (r : Rec) : (recCells r).toArray.size = 1026 := by rw [List.size_toArray, recCells_len]
theorem build67 (r : Rec) (u : World) : (Instr.buildSlice 42 1 #[(0, .agg (recCells r).toArray)]).run Tryz.prog u = .ok (.slice (some ⟨u.heap.size, 0, none⟩) 1 1) (u.alloc (.cells (recCells r).toArray 94)) :=
  build1 42 94 1026 _ _ Tryz.underlying42 Tryz.sizeOf94 (by omega) zero108 (rec_size r) u
theorem opCells_one (r : Rec) : opCells [r] = recCells r := by simp [opCells]
/-- Where a row lies behind an append: where it was, or in new memory. -/
theorem append_where {W : World} {v : Value} {n : Nat} {xs : List Value} (hown : W.ownsRow 0 94 1026 v n xs) {ad : Addr} {c : Nat} {news : List Value} (hl : news.length = 1 * 1026)
    (hnews : ∀ j u, news[j]? = some u → W.cell? (ad.add j) = some u) (h1 : ∀ u ∈ news, u.oneCell' = true) (hn : n < 68719476736) {ty : TypeId} {v' : Value} {w' : World}
    (hr : (Builtin.append_ #[42, 42] ty #[v, .slice (some ad) 1 c]).run Tryz.prog W = .ok v' w') : v'.ownBlock = v.ownBlock ∨ v'.ownBlock = some W.heap.size := by
  obtain ⟨i0, hi0, hz0, hz1, hz2⟩ := info_parts info108
  rcases hown.2 with ⟨rfl, rfl⟩ | ⟨g, cap, cur, rfl, _, hg, hnc, hcm, hcs, htake⟩
  · rw [run_append_nil (P := Tryz.prog) W 42 ty 94 i0 _ Tryz.underlying42 hi0 hz0 ad 1 c news (by rw [hz1]; exact hl) hnews (by omega) (by omega) (by rw [hz2]; omega)] at hr
    injection hr with h1 h2
    rw [← h1]
    exact .inr rfl
  · by_cases hroom : n + 1 ≤ cap
    · rw [run_append_room (P := Tryz.prog) W 42 ty 94 i0 Tryz.underlying42 hi0 g n cap cur hg ad 1 c news (by rw [hz1]; exact hl) hnews h1 hroom (by rw [hz1, hl, hcs]; simp only [Nat.mul_comm _ 1026]; omega)] at hr
      injection hr with h1 h2
      rw [← h1]
      exact .inl rfl
    · rw [run_append_grow (P := Tryz.prog) W 42 ty 94 i0 _ Tryz.underlying42 hi0 hz0 ⟨g, 0, none⟩ n cap xs (by rw [hz1]; exact hown.1) (hown.cells (g := g) rfl) ad 1 c news (by rw [hz1]; exact hl) hnews (by omega) (by omega) (growslice_fits_wide (by omega) (by rw [hz2]; omega))] at hr
      injection hr with h1 h2
      rw [← h1]
      exact .inr rfl
/-- A thing behind all that was done. -/
theorem push_run {W : World} {v : Value} {l : List Rec} (r : Rec) (ty : TypeId) (hown : W.ownsRow 0 94 1026 v l.length (opCells l)) (hn : l.length < 68719476736) :
    ∃ v' w', (Builtin.append_ #[42, 42] ty #[v, .slice (some ⟨W.heap.size, 0, none⟩) 1 1]).run Tryz.prog (W.alloc (.cells (recCells r).toArray 94)) = .ok v' w' ∧
      w'.ownsRow 0 94 1026 v' (l ++ [r]).length (opCells (l ++ [r])) ∧ Fr (fun i => v.ownBlock = some i) W w' ∧ (∀ k, v'.ownBlock = some k → v.ownBlock = some k ∨ W.heap.size ≤ k) := by
  obtain ⟨i0, hi0, hz0, hz1, hz2⟩ := info_parts info108
  have hown1 := World.ownsRow.alloc hown (.cells (recCells r).toArray 94)
  have hnews : ∀ j u, (recCells r)[j]? = some u → (W.alloc (.cells (recCells r).toArray 94)).cell? ((⟨W.heap.size, 0, none⟩ : Addr).add j) = some u := fun j u hu => by
    rw [Go.WideShapes.add_plain, Nat.zero_add, cell_of_row _ _ j _ 94 _ (heap_alloc_new W _), List.getElem?_toArray]
    exact hu
  obtain ⟨v', w', hr, h2, hg, _⟩ := run_append_own_wide (P := Tryz.prog) (W.alloc (.cells (recCells r).toArray 94)) 0 42 ty 94 i0 _ 1026 1040 Tryz.underlying42 hi0 hz0 hz1 hz2 (rec_size _) (by decide) v l.length _ hown1 ⟨W.heap.size, 0, none⟩ 1 1 (recCells r) (by rw [recCells_len]) hnews
    (recCells_one r) (by unfold maxLen; omega) (by omega) (Nat.zero_le _)
  refine ⟨v', w', hr, ?_, (Fr.alloc _ W _).trans (Fr.ofGrown hg) fun _ _ q => q, fun k hk => ?_⟩
  · rw [List.length_append, List.length_singleton, opCells_append, opCells_one]
    exact h2
  · rcases append_where hown1 (by rw [recCells_len]) hnews (recCells_one r) hn hr with h | h
    · exact .inl (h ▸ hk)
    · rw [h] at hk
      injection hk with hk
      simp at hk
      exact .inr (by omega)
theorem wpList_pushR {ops : Array Oper} {rest : List Oper} {o : Oper} {a : Act} {W : World} {Q : Exit → Act → World → Prop} (hgd : o.guard = none) (s x : Operand)
    (ho : o.op = .call { callee := .builtin .append, args := #[s, x], argTypes := #[42, 42] }) (v : Value) (l : List Rec) (r : Rec) (hs : a.eval s = v)
    (hx : a.eval x = .slice (some ⟨W.heap.size, 0, none⟩) 1 1) (hown : W.ownsRow 0 94 1026 v l.length (opCells l)) (hn : l.length < 68719476736)
    (h : ∀ v' w', w'.ownsRow 0 94 1026 v' (l ++ [r]).length (opCells (l ++ [r])) → Fr (fun i => v.ownBlock = some i) W w' → (∀ k, v'.ownBlock = some k → v.ownBlock = some k ∨ W.heap.size ≤ k) → wpList Tryz.prog ops Q rest (a.put o.dst v') w') :
    wpList Tryz.prog ops Q (o :: rest) a (W.alloc (.cells (recCells r).toArray 94)) := by
  refine wpList_plain hgd fun K' hK' => ?_
  obtain ⟨v', w', hr, h1, h2, h3⟩ := push_run r o.type hown hn
  unfold Oper.wp
  simp [execOp, ho, resolve, invoke, builtin, hs, hx, hr, Result.andThen]
  exact hK' _ _ (h v' w' h1 h2 h3)
end Go.Proofs.YtlcdpmjdnihocaaGreatD
