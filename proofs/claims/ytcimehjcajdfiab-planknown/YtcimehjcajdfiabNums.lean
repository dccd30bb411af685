/- The numbers of plan: ways, blocks, groups, and the document's beside them; no condition. -/
import Derived.Test.YtcimehjcajdfiabBase
namespace Go.Proofs.Ytcimehjcajdfiab
open Go.RowKit
def depthN (i : Int) : Int := if i < 0 ∨ 65802 ≤ i then 0 else if i < 10 then 1 else if i < 266 then 2 else 3
def firstN (i : Int) : Int := if i < 0 ∨ 65802 ≤ i then 0 else if i < 10 then i else if i < 266 then i - 10 else (i - 266) / 256
def secondN (i : Int) : Int := if i < 266 ∨ 65802 ≤ i then 0 else (i - 266) % 256
def way3 (d f s : Int) : Array Value := #[.int .u8 d, .int .i64 f, .int .i64 s]
def wayA (i : Int) : Array Value := way3 (depthN i) (firstN i) (secondN i)
theorem way_none {i : Int} (h : i < 0 ∨ 65802 ≤ i) : depthN i = 0 ∧ firstN i = 0 ∧ secondN i = 0 := by
  refine ⟨if_pos h, if_pos h, if_pos (by omega)⟩
theorem way_direct {i : Int} (h0 : 0 ≤ i) (h1 : i < 10) : depthN i = 1 ∧ firstN i = i ∧ secondN i = 0 := by
  have h : ¬ (i < 0 ∨ 65802 ≤ i) := by omega
  refine ⟨?_, ?_, if_pos (by omega)⟩
  · unfold depthN; rw [if_neg h, if_pos h1]
  · unfold firstN; rw [if_neg h, if_pos h1]
theorem way_single {i : Int} (h0 : 10 ≤ i) (h1 : i < 266) : depthN i = 2 ∧ firstN i = i - 10 ∧ secondN i = 0 := by
  have h : ¬ (i < 0 ∨ 65802 ≤ i) := by omega
  have h3 : ¬ i < 10 := by omega
  refine ⟨?_, ?_, if_pos (by omega)⟩
  · unfold depthN; rw [if_neg h, if_neg h3, if_pos h1]
  · unfold firstN; rw [if_neg h, if_neg h3, if_pos h1]
theorem way_double {i : Int} (h0 : 266 ≤ i) (h1 : i < 65802) : depthN i = 3 ∧ firstN i = (i - 266) / 256 ∧ secondN i = (i - 266) % 256 := by
  have h : ¬ (i < 0 ∨ 65802 ≤ i) := by omega
  have h3 : ¬ i < 10 := by omega
  have h4 : ¬ i < 266 := by omega
  refine ⟨?_, ?_, if_neg (by omega)⟩
  · unfold depthN; rw [if_neg h, if_neg h3, if_neg h4]
  · unfold firstN; rw [if_neg h, if_neg h3, if_neg h4]
theorem size29 : (Try.prog.info? 29).map (·.size) = some 3 := by kernel_rfl
theorem ret29 {fn : Func} {p : Tmp} {R : Ending → World → Prop} {a : Act} {w : World} (h : fn.results = #[.cell p 29]) (g : Nat) (d f s : Int)
    (hp : a.tmps.getD p undef = .pointer (some ⟨g, 0, none⟩)) (hg : w.heap[g]? = some (.cells #[.int .u8 d, .int .i64 f, .int .i64 s] 29)) (hdf : a.defers = []) (hR : R (.returned (.agg #[.int .u8 d, .int .i64 f, .int .i64 s])) w) : bodyPost Try.prog fn R .ret a w :=
  retR Try.underlying29 rfl h g #[.int .u8 d, .int .i64 f, .int .i64 s] 29 size29 hp hg hdf hR
set_option maxHeartbeats 400000 in
theorem way_any (i : Int) (w : World) : Calls Try.prog 7 #[.int .i64 i] w fun e w' => e = .returned (.agg (wayA i)) ∧ Below w.heap.size w w' := by
  by_cases h0 : i < 0
  · have he := way_none (.inl h0)
    unfold wayA way3
    rw [he.1, he.2.1, he.2.2]
    clear he
    go_enter Try.func7, Try.ntmps7
    go_wp2
    exact ret29 rfl _ _ _ _ rfl (heap_alloc_new _ _) rfl ⟨rfl, below_new _ _⟩
  · by_cases h1 : 65802 ≤ i
    · have he := way_none (.inr h1)
      unfold wayA way3
      rw [he.1, he.2.1, he.2.2]
      clear he
      go_enter Try.func7, Try.ntmps7
      go_wp2
      exact ret29 rfl _ _ _ _ rfl (heap_alloc_new _ _) rfl ⟨rfl, below_new _ _⟩
    · by_cases h2 : i < 10
      · have he := way_direct (by omega) h2
        unfold wayA way3
        rw [he.1, he.2.1, he.2.2]
        clear he
        go_enter Try.func7, Try.ntmps7
        go_wp2
        exact ret29 rfl _ _ _ _ rfl (heap_alloc_new _ _) rfl ⟨rfl, below_new _ _⟩
      · by_cases h3 : i < 266
        · have he := way_single (by omega) h3
          unfold wayA way3
          rw [he.1, he.2.1, he.2.2]
          clear he
          have e1 : IntKind.i64.wrap (i - 10) = i - 10 := by rw [IntKind.wrap_i64]; omega
          have g1 : decide (i - 10 < 256) = true := decide_eq_true (by omega)
          go_enter Try.func7, Try.ntmps7
          go_wp2
          exact ret29 rfl _ _ _ _ rfl (heap_alloc_new _ _) rfl ⟨rfl, below_new _ _⟩
        · have he := way_double (i := i) (by omega) (by omega)
          unfold wayA way3
          rw [he.1, he.2.1, he.2.2]
          clear he
          have e0 : IntKind.i64.wrap (i - 10) = i - 10 := by rw [IntKind.wrap_i64]; omega
          have e1 : IntKind.i64.wrap (i - 266) = i - 266 := by rw [IntKind.wrap_i64]; omega
          have e2 : IntKind.i64.wrap (i - 10 - 256) = i - 266 := by rw [IntKind.wrap_i64]; omega
          have g1 : decide (i - 10 < 256) = false := decide_eq_false (by omega)
          have e3 : (i - 266).tdiv 256 = (i - 266) / 256 := Int.tdiv_eq_ediv_of_nonneg (by omega)
          have e4 : (i - 266).tmod 256 = (i - 266) % 256 := Int.tmod_eq_emod_of_nonneg (by omega)
          have e5 : IntKind.i64.wrap ((i - 266) / 256) = (i - 266) / 256 := by rw [IntKind.wrap_i64]; omega
          have e6 : IntKind.i64.wrap ((i - 266) % 256) = (i - 266) % 256 := by rw [IntKind.wrap_i64]; omega
          go_enter Try.func7, Try.ntmps7
          go_wp2
          exact ret29 rfl _ _ _ _ rfl (heap_alloc_new _ _) rfl ⟨rfl, below_new _ _⟩
abbrev I64 (n : Int) : Prop := -9223372036854775808 ≤ n ∧ n ≤ 9223372036854775807
def blocksN (n : Int) : Int := if n < 1 then 0 else n / 1024 + (if n % 1024 = 0 then 0 else 1)
def groupN (n : Int) : Int := if n < 0 then -1 else n / 8
set_option maxHeartbeats 400000 in
theorem group_any (n : Int) (hn : I64 n) (w : World) : Calls Try.prog 6 #[.int .i64 n] w fun e w' => e = .returned (.int .i64 (groupN n)) ∧ w' = w := by
  by_cases h : n < 0
  · have e : groupN n = -1 := if_pos h
    rw [e]
    go_enter Try.func6, Try.ntmps6
    go_wp2
    go_ret
    exact ⟨rfl, rfl⟩
  · have e : groupN n = n / 8 := if_neg h
    rw [e]
    have e3 : n.tdiv 8 = n / 8 := Int.tdiv_eq_ediv_of_nonneg (by omega)
    have e5 : IntKind.i64.wrap (n / 8) = n / 8 := by rw [IntKind.wrap_i64]; omega
    go_enter Try.func6, Try.ntmps6
    go_wp2
    go_ret
    exact ⟨rfl, rfl⟩
set_option maxHeartbeats 400000 in
theorem blocks_any (n : Int) (hn : I64 n) (w : World) : Calls Try.prog 5 #[.int .i64 n] w fun e w' => e = .returned (.int .i64 (blocksN n)) ∧ w' = w := by
  by_cases h : n < 1
  · have e : blocksN n = 0 := if_pos h
    rw [e]
    have g0 : (if (0 : Int) < n then n else 0) = 0 := if_neg (by omega)
    go_enter Try.func5, Try.ntmps5
    go_wp2
    go_ret
    exact ⟨rfl, rfl⟩
  · have e : blocksN n = n / 1024 + (if n % 1024 = 0 then 0 else 1) := if_neg h
    rw [e]
    have g0 : (if (0 : Int) < n then n else 0) = n := if_pos (by omega)
    have e3 : n.tdiv 1024 = n / 1024 := Int.tdiv_eq_ediv_of_nonneg (by omega)
    have e4 : n.tmod 1024 = n % 1024 := Int.tmod_eq_emod_of_nonneg (by omega)
    have e5 : IntKind.i64.wrap (n / 1024) = n / 1024 := by rw [IntKind.wrap_i64]; omega
    have e6 : IntKind.i64.wrap (n % 1024) = n % 1024 := by rw [IntKind.wrap_i64]; omega
    go_enter Try.func5, Try.ntmps5
    go_wp2
    all_goals
      go_ret
      exact ⟨rfl, rfl⟩
end Go.Proofs.Ytcimehjcajdfiab
