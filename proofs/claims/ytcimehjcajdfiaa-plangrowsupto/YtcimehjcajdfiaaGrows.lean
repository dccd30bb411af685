/- PlanGrows answers true, of any index and of at most 1048576 indices. -/
import Derived.Test.YtcimehjcajdfiaaRefTot2
import Derived.Test.YtcimehjcajdfiaaAwake
import Derived.Test.YtcimehjcajdfiaaOrd
namespace Go.Proofs.Ytcimehjcajdfiaa
open Go.RowKit Go.Maps
theorem totalC_any (zs : List Int) (p : Option Addr) (cap : Nat) (w : World) (hlen : zs.length < 1152921504606846976) (hzs : IntsAt w p zs) :
    Calls Try.prog 20 #[.slice p zs.length cap] w fun e' w' => e' = .returned (.int .i64 (cnt (keysL zs))) ∧ Below w.heap.size w w' := by
  have := total_any zs p cap w hlen hzs
  rwa [size_cnt _ (keysL_keys zs)] at this
theorem field29 (d f s : Int) (w : World) : (Instr.field 29 (.agg #[.int .u8 d, .int .i64 f, .int .i64 s]) 0).run Try.prog w = .ok (.int .u8 d) w := by
  simp [Instr.field, go_sem, run_underlying Try.underlying29, asAgg]
section
variable {ops : Array Oper} {rest : List Oper} {o : Oper} {a : Act} {W : World} {Q : Exit → Act → World → Prop}
/-- A whole list appended to none. -/
theorem wpList_appAll (hgd : o.guard = none) (s x : Operand) (ho : o.op = .call { callee := .builtin .append, args := #[s, x], argTypes := #[32, 32] }) (base : Nat) (zs : List Int) (p : Option Addr) (cap : Nat) (hcap : p = none → cap = 0) (n : Nat) (hnn : zs.length = n) (hn : n ≤ 1048576)
    (hs : a.eval s = .slice none 0 0) (hx : a.eval x = .slice p n cap) (hz : IntsAt W p zs) (hbase : base ≤ W.heap.size)
    (h : ∀ v' w', OwnZ w' base v' zs → Below base W w' → wpList Try.prog ops Q rest (a.put o.dst v') w') : wpList Try.prog ops Q (o :: rest) a W := by
  obtain ⟨i0, hi0, hz0, hz1, hz2⟩ := info_parts info3
  subst hnn
  cases p with
  | none =>
    rcases Nat.eq_zero_or_pos zs.length with h0 | h0
    · have e := List.length_eq_zero_iff.1 h0
      subst e
      rw [hcap rfl] at hx
      refine wpList_append_own_none hgd s x 32 ho base 3 i0 1 Try.underlying32 hi0 _ 0 [] hs (World.ownsRow_nil _ _ _ _) hx ?_
      exact h _ _ (OwnZ.nil _ _) (Below.refl _ _)
    · obtain ⟨b, off, e, _⟩ := hz h0
      cases e
  | some ad =>
    have hc : ∀ j u, (zs.map (Value.int .i64))[j]? = some u → W.cell? (ad.add j) = some u := fun j u hu => by
      rw [List.getElem?_map] at hu
      obtain ⟨y, hy, rfl⟩ := Option.map_eq_some_iff.1 hu
      obtain ⟨b, off, e, _, hc⟩ := hz (by have := (List.getElem?_eq_some_iff.1 hy).1; omega)
      injection e with e
      subst e
      rw [Go.WideShapes.add_plain]
      exact hc j y hy
    refine wpList_append_own _ hgd s x 32 ho base 3 i0 (.int .i64 0) 1 8 Try.underlying32 hi0 hz0 hz1 hz2 rfl (by decide) _ 0 [] hs (World.ownsRow_nil _ _ _ _) ad zs.length cap (zs.map (Value.int .i64)) hx (by simp) hc (ints_one zs) (by unfold maxLen; omega) (by omega) hbase ?_
    intro v' w1 hown hg _
    refine h v' w1 ?_ ((Below.refl _ _).grown hg hbase (fun k hk => by simp [Value.ownBlock] at hk))
    unfold OwnZ
    simpa using hown
end
def dup (x : Int) : List Int := [x, x]
def backL (l : List Int) (j : Nat) : List Int := (l.drop j).reverse.flatMap dup
theorem backL_end (l : List Int) : backL l l.length = [] := by unfold backL; rw [List.drop_length]; rfl
theorem backL_step (l : List Int) (j : Nat) (h : j < l.length) : backL l j = backL l (j + 1) ++ [l[j], l[j]] := by
  unfold backL
  rw [List.drop_eq_getElem_cons h, List.reverse_cons, List.flatMap_append]
  simp [dup]
theorem backL_len (l : List Int) (j : Nat) : (backL l j).length ≤ 2 * l.length := by
  unfold backL
  have : ∀ m : List Int, (m.flatMap dup).length = 2 * m.length := fun m => by
    induction m with
    | nil => rfl
    | cons x t ih => rw [List.flatMap_cons, List.length_append, ih, List.length_cons]; simp [dup]; omega
  rw [this, List.length_reverse, List.length_drop]
  omega
theorem backL_mem (l : List Int) (x : Int) : x ∈ backL l 0 ↔ x ∈ l := by
  unfold backL dup
  rw [List.drop_zero, List.mem_flatMap]
  constructor
  · rintro ⟨y, hy, hx⟩
    simp at hx
    rw [hx]
    simpa using hy
  · intro h
    exact ⟨x, by simpa using h, by simp⟩
theorem keysL_congr {l m : List Int} (h : ∀ x, x ∈ l ↔ x ∈ m) (x : Int) : x ∈ keysL l ↔ x ∈ keysL m := by
  unfold keysL
  rw [List.mem_flatMap, List.mem_flatMap]
  constructor
  · rintro ⟨y, hy, hx⟩
    exact ⟨y, (h y).1 hy, hx⟩
  · rintro ⟨y, hy, hx⟩
    exact ⟨y, (h y).2 hy, hx⟩
def isIdx (i : Int) : Bool := depthN i != 0
theorem isIdx_iff (i : Int) : isIdx i = true ↔ 0 ≤ i ∧ i < 65802 := by
  unfold isIdx depthN
  by_cases h : i < 0 ∨ 65802 ≤ i
  · rw [if_pos h]
    simp
    omega
  · rw [if_neg h]
    have : (if i < 10 then (1 : Int) else if i < 266 then 2 else 3) ≠ 0 := by
      split
      · omega
      · split <;> omega
    simp [this]
    omega
/-- One index more. -/
theorem grows (l : List Int) (i : Int) : cnt (keysL l) ≤ cnt (keysL (l ++ [i])) ∧ cnt (keysL (l ++ [i])) ≤ cnt (keysL l) + 3 ∧ (isIdx i && !l.contains i) = decide (cnt (keysL l) < cnt (keysL (l ++ [i]))) := by
  rw [keysL_snoc]
  refine ⟨cnt_sub fun x hx => List.mem_append_left _ hx, ?_, ?_⟩
  · have := cnt_append_le (keysL l) (kOf i) (kOf_keys i)
    have := kOf_len i
    omega
  · by_cases h1 : isIdx i = true
    · have h0 := (isIdx_iff i).1 h1
      rw [h1, Bool.true_and]
      by_cases h2 : l.contains i = true
      · rw [h2]
        have e : cnt (keysL l ++ kOf i) = cnt (keysL l) := cnt_congr fun x => by
          rw [List.mem_append]
          constructor
          · rintro (q | q)
            · exact q
            · exact keysL_of_mem (List.contains_iff_mem.1 h2) x q
          · exact .inl
        rw [e]
        simp
      · have h3 : l.contains i = false := Bool.eq_false_iff.2 h2
        rw [h3]
        have : cnt (keysL l) < cnt (keysL l ++ kOf i) := by
          obtain ⟨j, rfl⟩ : ∃ j : Nat, i = j := ⟨i.toNat, by omega⟩
          refine cn_lt (x := j) ((inK_false _ _).2 fun q => h2 (List.contains_iff_mem.2 (keysL_low q (by omega)))) ((inK_iff _ _).2 (List.mem_append_right _ (kOf_self (by omega) (by omega)))) 66060 (by omega) fun m _ hm => (inK_iff _ _).2 (List.mem_append_left _ ((inK_iff _ _).1 hm))
        simp [this]
    · have h3 : isIdx i = false := Bool.eq_false_iff.2 h1
      have h4 : kOf i = [] := kOf_none (by
        have : ¬ (0 ≤ i ∧ i < 65802) := fun q => h1 ((isIdx_iff i).2 q)
        omega)
      rw [h3, h4, List.append_nil]
      simp
end Go.Proofs.Ytcimehjcajdfiaa
