/- The program's table of things of one type: New, Get, Set, Open, Close, beside whatever lies apart; fewer than ten million rows; no other condition. -/
import Derived.Test.YtbchbappdpbkiaaFdaA
import Derived.Test.YtbchbappdpbkiaaFdX
namespace Go.Proofs.Ytbchbappdpbkiaa
open Go.RowKit Go.Maps
def thA : Option Ac → Value
  | none => .agg #[.int .i64 0, .int .i64 0, .int .i64 0, .int .i64 0]
  | some x => .agg #[.int .i64 x.1, .int .i64 x.2.1, .int .i64 x.2.2.1, .int .i64 x.2.2.2]
theorem infA : (Try.prog.info? 89).map (fun i => (i.zero, i.size, i.bytes)) = some (some (.agg #[.bool false, .int .i64 0, .int .i64 0, .int .i64 0, .int .i64 0]), 5, 40) := by kernel_rfl
theorem pushA {w : World} {v : Value} {R : List (Option Ac)} (h : w.ownsRow 0 89 5 v R.length (R.flatMap enA)) (hn : R.length ≤ 10000000) (ty : TypeId) :
    ∃ v' w', (Builtin.append_ #[85, 85] ty #[v, .slice (some ⟨w.heap.size, 0, none⟩) 1 1]).run Try.prog (w.alloc (.cells #[.bool false, .int .i64 0, .int .i64 0, .int .i64 0, .int .i64 0] 89)) = .ok v' w' ∧ w'.ownsRow 0 89 5 v' (R ++ [none]).length ((R ++ [none]).flatMap enA) ∧ Fr (fun b => v.ownBlock = some b) w w' ∧ ∀ k, v'.ownBlock = some k → v.ownBlock = some k ∨ w.heap.size ≤ k := by
  obtain ⟨i0, hi0, hz0, hz1, hz2⟩ := info_parts infA
  exact own_pushG lenA oneA Try.underlying85 hi0 hz0 hz1 hz2 rfl (by omega) (by omega) h (Nat.zero_le _) hn none ty
/-- A table as a part of memory. -/
def tpA (g : Nat) (v : Value) (le : Nat) (m : Int) (R : List (Option Ac)) : Part := ⟨fun k => k = g ∨ v.ownBlock = some k, fun W => TabA W g v le m R⟩
theorem tpA_good (g : Nat) (v : Value) (le : Nat) (m : Int) (R : List (Option Ac)) : (tpA g v le m R).Good := fun _ _ hs _ h => TabA.frame hs (h g (.inl rfl)) fun k hk => h k (.inr hk)
/-- What a call makes of a table: it holds R' then, and nothing else has turned. -/
def ToA (W : World) (g : Nat) (v : Value) (m : Int) (R' : List (Option Ac)) (W' : World) : Prop :=
  ∃ v' le', TabA W' g v' le' m R' ∧ Fr (fun k => k = g ∨ v.ownBlock = some k) W W' ∧ ∀ k, v'.ownBlock = some k → v.ownBlock = some k ∨ W.heap.size ≤ k
section
variable {w W W' : World} {g le : Nat} {v : Value} {m : Int} {R : List (Option Ac)} {l : List Part}
theorem tab_of_sepA (h : Sep w W (tpA g v le m R :: l)) : TabA W g v le m R := h.head
theorem sep_toA (h : Sep w W (tpA g v le m R :: l)) {R' : List (Option Ac)} (hT : ToA W g v m R' W') : ∃ v' le', Sep w W' (tpA g v' le' m R' :: l) := by
  obtain ⟨v', le', h1, h2, h3⟩ := hT
  refine ⟨v', le', h.turn h2 (fun k _ q => q) (tpA_good _ _ _ _ _) h1 ?_⟩
  rintro k (rfl | q)
  · exact ⟨.inl (.inl rfl), h1.lt⟩
  · refine ⟨?_, h1.vlt q⟩
    rcases h3 k q with r | r
    · exact .inl (.inr r)
    · exact .inr r
theorem newA (n : Int) (hn : n ≤ 9223372036854775807) (w : World) : Calls Try.prog 16 #[.int .i64 n] w fun e w' => ∃ g, e = .returned (.pointer (some ⟨g, 0, none⟩)) ∧ TabA w' g (.slice none 0 0) 0 (max n 0) [] ∧ Below w.heap.size w w' ∧ w.heap.size ≤ g := by
  go_enter Try.func16, Try.ntmps16
  go_wp2
  all_goals go_ret
  all_goals refine ⟨_, rfl, ⟨?_, World.ownsRow_nil _ _ _ _, Nat.le_refl _, ?_, ?_⟩, below_new w _, Nat.le_refl _⟩
  all_goals first
    | (have := heap_alloc_new w (.cells (tbA w.heap.size (max n 0) (cnt ([] : List (Option Ac))) (0 : Nat) (.slice none 0 0)) 87); exact this)
    | (show (_ : Int) ≤ max n 0; simp only [cnt]; omega)
    | omega
    | (rw [show max n 0 = 0 by omega]; have := heap_alloc_new w (.cells (tbA w.heap.size 0 (cnt ([] : List (Option Ac))) (0 : Nat) (.slice none 0 0)) 87); exact this)
    | (rw [show max n 0 = n by omega]; have := heap_alloc_new w (.cells (tbA w.heap.size n (cnt ([] : List (Option Ac))) (0 : Nat) (.slice none 0 0)) 87); exact this)
theorem sep_newA (h : Sep w W l) (n : Int) (hn : n ≤ 9223372036854775807) : Calls Try.prog 16 #[.int .i64 n] W fun e W' => ∃ g, e = .returned (.pointer (some ⟨g, 0, none⟩)) ∧ Sep w W' (tpA g (.slice none 0 0) 0 (max n 0) [] :: l) := by
  refine (newA n hn W).mono ?_
  rintro e W' ⟨g, rfl, h1, h2, h3⟩
  refine ⟨g, rfl, h.add h2 (tpA_good _ _ _ _ _) h1 ?_⟩
  rintro k (rfl | q)
  · exact ⟨h3, h1.lt⟩
  · cases q
end
end Go.Proofs.Ytbchbappdpbkiaa
