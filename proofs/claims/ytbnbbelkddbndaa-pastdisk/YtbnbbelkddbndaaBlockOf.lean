/- Block: all that a block may be; no condition but a bound that no list of this program passes. -/
import Derived.Test.YtbnbbelkddbndaaTellOf
import Derived.Test.YtbnbbelkddbndaaSame
namespace Go.Proofs.Ytbnbbelkddbndaa
open Go.RowKit Go.Maps
/-- Numbers that lie in memory. -/
def IntsAt (w : World) (p : Option Addr) (zs : List Int) : Prop := 0 < zs.length → ∃ b off, p = some ⟨b, off, none⟩ ∧ b < w.heap.size ∧ ∀ j x, zs[j]? = some x → w.cell? ⟨b, off + j, none⟩ = some (.int .i64 x)
theorem ints_of_row {w : World} {base : Nat} {v : Value} {zs : List Int} (h : w.ownsRow base 3 1 v zs.length (zs.map (Value.int .i64))) : ∃ p c, v = .slice p zs.length c ∧ IntsAt w p zs ∧ zs.length ≤ c ∧ ∀ b off, p = some ⟨b, off, none⟩ → base ≤ b := by
  rcases h.2 with ⟨h1, h2⟩ | ⟨g, cap, cur, h1, hg, hh, hc, _⟩
  · exact ⟨none, 0, by rw [h1, h2], fun q => by omega, by omega, fun _ _ q => by cases q⟩
  · refine ⟨_, cap, h1, fun _ => ⟨g, 0, rfl, (h.lt g (by rw [h1]; rfl)).2, fun j x hx => ?_⟩, hc, fun b off q => by injection q with q; injection q with q1; omega⟩
    have q := h.cells (g := g) (by rw [h1]; rfl) j (.int .i64 x) (by rw [List.getElem?_map, hx]; rfl)
    rw [Go.WideShapes.add_plain] at q
    exact q
theorem IntsAt.later {w W : World} {p : Option Addr} {l : List Int} (h : IntsAt w p l) (hb : Below w.heap.size w W) : IntsAt W p l := fun h0 => by
  obtain ⟨b, off, h1, h2, h3⟩ := h h0
  exact ⟨b, off, h1, Nat.lt_of_lt_of_le h2 hb.size, fun j x hx => (hb.cell (p := ⟨b, off + j, none⟩) h2).trans (h3 j x hx)⟩
/-- One pending place more is looked at. -/
def stepB (fs : List Rec) (k : Int) (l : List (Nat → Int)) (i : Int) : List (Nat → Int) := match fs[i.toNat]? with
  | some r => if r.pos = k then tellL l r.dat else l
  | none => l
/-- All that Block tells of block k. -/
def blockL (l : List Cel) (fs : List Rec) (k : Int) : List (Nat → Int) := (pendL fs).foldl (stepB fs k) [lastB k nought (l ++ madeL [] fs)]
theorem pendL_spec {fs : List Rec} {j : Nat} {x : Int} (h : (pendL fs)[j]? = some x) : ∃ i : Nat, x = (i : Int) ∧ i < fs.length ∧ sureN fs ≤ i ∧ isWrite fs i = true := by
  have hm := List.mem_of_getElem? h
  unfold pendL pendUpto at hm
  obtain ⟨i, hi, rfl⟩ := List.mem_map.1 hm
  rw [List.mem_filter] at hi
  obtain ⟨h1, h2⟩ := hi
  simp only [Bool.and_eq_true, decide_eq_true_eq] at h2
  exact ⟨i, rfl, List.mem_range.1 h1, h2.1, h2.2⟩
theorem stepB_len (fs : List Rec) (k : Int) (l : List (Nat → Int)) (i : Int) : (stepB fs k l i).length ≤ l.length + 1 := by
  unfold stepB
  split
  · split
    · unfold tellL
      split
      · omega
      · simp
    · omega
  · omega
theorem foldB_len (fs : List Rec) (k : Int) : ∀ (ps : List Int) (l : List (Nat → Int)), (ps.foldl (stepB fs k) l).length ≤ l.length + ps.length
  | [], l => by simp
  | i :: t, l => by
    have h1 := foldB_len fs k t (stepB fs k l i)
    have h2 := stepB_len fs k l i
    simp only [List.foldl_cons, List.length_cons]
    omega
section
variable {P : Program} {ops : Array Oper} {Q : Exit → Act → World → Prop} {S : World → Prop}
theorem wpOrd_callV {r : List (Bool × Oper)} {a : Act} {w : World} {o : Oper} (hw : Region.wanted o (yielded ops a.tmps) = true) (f : FuncId) (x : Operand) (xs : List Operand) (ts : Array TypeId) (cap : List Value)
    (ho : o.op = .call { callee := .value x, args := xs.toArray, argTypes := ts }) (hf : a.eval x = .func (.func f) #[] cap.toArray) (hc : ∀ args u, (callFunc f args).run P u = .ok (.enter f args) u) (args : List Value) (hx : xs.map a.eval = args)
    (h : Calls P f (args ++ cap).toArray w fun e w' => ∃ v, e = .returned v ∧ S w' ∧ wpOrd P ops Q S r (a.put o.dst v) w') : wpOrd P ops Q S ((false, o) :: r) a w := by
  simp only [wpOrd, hw, if_true]
  unfold Oper.wp execOp
  have e : (do let d ← resolve a.eval { callee := .value x, args := xs.toArray, argTypes := ts } o.type; invoke d.target d.args : Sem Next).run P w = .ok (.enter f (args ++ cap).toArray) w := by
    have hx' : xs.toArray.map a.eval = args.toArray := by rw [← hx]; simp
    simp only [resolve, hx', hf]
    simp [Deferred.ofValue, invoke, hc]
  simp only [ho]
  rw [e]
  unfold Oper.upon
  exact h.mono fun e w' ⟨v, he, h1, h2⟩ => by subst he; exact ⟨h1, h2⟩
end
set_option maxRecDepth 20000 in
set_option maxHeartbeats 1000000 in
theorem block_bad (n : Int) (l : List Cel) (p : Option Addr) (cap : Nat) (ops : List Rec) (po : Option Addr) (co : Nat) (k : Int) (q : Int) (w : World) (hl : l.length < 9223372036854775807) (h : ImgAt w p l) (hlo : ops.length < 9223372036854775807) (ho : OpsAt w po ops) (hm : pmayB n l ops k = false ∨ q < 0 ∨ n ≤ q) :
    Calls Try.prog 24 #[.agg #[.int .i64 n, .slice p l.length cap], .slice po ops.length co, .int .i64 k, .int .i64 q] w fun e w' => e = .returned (.tuple #[.slice none 0 0, .int .i64 2]) ∧ Below w.heap.size w w' := by
  have hB : Below w.heap.size w ((w.alloc (.cells #[.int .i64 n, .slice p l.length cap] 24)).alloc (.cells #[.int .i64 q] 3)) := (((Below.refl _ _).alloc (Nat.le_refl _) _).alloc (by simp) _)
  have hM := maybe_any n l p cap ops po co k _ hl (h.later hB) hlo (ho.later hB)
  have hs : ((w.alloc (.cells #[.int .i64 n, .slice p l.length cap] 24)).alloc (.cells #[.int .i64 q] 3)).heap.size = w.heap.size + 2 := by simp
  have hI : ((w.alloc (.cells #[.int .i64 n, .slice p l.length cap] 24)).alloc (.cells #[.int .i64 q] 3)).heap[w.heap.size]? = some (.cells #[.int .i64 n, .slice p l.length cap] 24) := heap_kept (heap_alloc_new w _) (below_new _ _)
  have hA : ((w.alloc (.cells #[.int .i64 n, .slice p l.length cap] 24)).alloc (.cells #[.int .i64 q] 3)).heap[w.heap.size + 1]? = some (.cells #[.int .i64 q] 3) := by
    have := heap_alloc_new (w.alloc (.cells #[.int .i64 n, .slice p l.length cap] 24)) (.cells #[.int .i64 q] 3)
    rwa [show (w.alloc (.cells #[.int .i64 n, .slice p l.length cap] 24)).heap.size = w.heap.size + 1 by simp] at this
  clear h ho
  cases hp : pmayB n l ops k
  · rw [hp] at hM
    clear hm
    go_enter Try.func24, Try.ntmps24
    go_wp2_with (go_at_call 53; refine hM.mono ?_; rintro e W1 ⟨rfl, hb1⟩)
    go_ret2
    exact ⟨rfl, below3 hB hb1⟩
  · rw [hp] at hM
    have hm' : q < 0 ∨ (0 ≤ q ∧ n ≤ q) := by
      rcases hm with h | h | h
      · rw [hp] at h; cases h
      · exact .inl h
      · by_cases q0 : q < 0
        · exact .inl q0
        · exact .inr ⟨by omega, h⟩
    clear hm
    go_enter Try.func24, Try.ntmps24
    go_wp2_with (go_at_call 53; fail)
    refine hM.mono ?_
    rintro e W1 ⟨rfl, hb1⟩
    have hA1 := (hb1.block (w.heap.size + 1) (by omega)).trans hA
    have hI1 := (hb1.block w.heap.size (by omega)).trans hI
    have a0 : W1.cell? ⟨w.heap.size + 1, 0, none⟩ = some (.int .i64 q) := Joins.cell_of_block hA1 0
    have i0 : W1.cell? ⟨w.heap.size, 0, none⟩ = some (.int .i64 n) := Joins.cell_of_block hI1 0
    have HB1 : Hid (Below w.heap.size w W1) := below3 hB hb1
    clear hM hb1 hA hI hA1 hI1 hB hs
    rcases hm' with h0 | ⟨h0, h1⟩
    · go_wp2
      go_ret2
      exact ⟨rfl, HB1.out⟩
    · go_wp2
      go_ret2
      exact ⟨rfl, HB1.out⟩
end Go.Proofs.Ytbnbbelkddbndaa
