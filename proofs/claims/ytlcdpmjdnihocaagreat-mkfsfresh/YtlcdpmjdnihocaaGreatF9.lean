/- Several texts joined, each with its own remark; no condition. -/
import Derived.Test.YtlcdpmjdnihocaaGreatF8
import Derived.Laws.CopyOwn
import Derived.StillTailTactics
import Derived.Test.YtlcdpmjdnihocaaGreatF7
import Derived.OrdersHeld
import Derived.WalkKit
import Derived.Lib.SmallJoins
/- stands of shape, and the document's Fits: is a layout just what its geometry says? For every layout. -/
namespace Go.Proofs.YtlcdpmjdnihocaaGreatP
open Go.RowKit

/-- Is a layout just what its geometry says? -/
def standsB (b l i a c d e f g : Int) : Bool := decide (Fine b l i ∧ a = 1 ∧ c = 1 + l ∧ d = nodeB i ∧ e = bitsAt l i ∧ f = bitsB b ∧ g = dataAt b l i)
theorem heap_kept {w w' : World} {g : Nat} {o : Obj} (h : w.heap[g]? = some o) (hb : Below w.heap.size w w') : w'.heap[g]? = some o :=
  (hb.block g (Array.getElem?_eq_some_iff.1 h).1).trans h
theorem below_next {w w1 w2 : World} (h : Below w.heap.size w w1) (hb : Below w1.heap.size w1 w2) : Below w.heap.size w w2 := h.trans (hb.mono h.size)
theorem below_new (w : World) (o : Obj) : Below w.heap.size w (w.alloc o) := (Below.refl _ _).alloc (Nat.le_refl _) _

theorem wpList_loadL {ops : Array Oper} {rest : List Oper} {o : Oper} {a : Act} {w : World} {Q : Exit → Act → World → Prop} (hgd : o.guard = none) (x : Operand) (ho : o.op = .load 52 x)
    (g : Nat) (hx : a.eval x = .pointer (some ⟨g, 0, none⟩)) (cs : Array Value) (hs : cs.size = 9) (hg : w.heap[g]? = some (.cells cs 52))
    (h : wpList Tryz.prog ops Q rest (a.put o.dst (.agg cs)) w) : wpList Tryz.prog ops Q (o :: rest) a w :=
  wpList_load_row hgd 52 x ho g hx 52 cs (0, 0) _ hg Tryz.underlying52 rfl (by rw [hs]; exact size25L) h

theorem lay_cells {w : World} {h0 : Nat} {b l i a c d e f g : Int} (h : w.heap[h0]? = some (.cells (lay9 b l i a c d e f g) 52)) :
    w.cell? ⟨h0, 0, none⟩ = some (.int .i64 b) ∧ w.cell? ⟨h0, 1, none⟩ = some (.int .i64 l) ∧ w.cell? ⟨h0, 2, none⟩ = some (.int .i64 i) ∧ w.cell? ⟨h0, 3, none⟩ = some (.int .i64 a) ∧ w.cell? ⟨h0, 4, none⟩ = some (.int .i64 c) ∧ w.cell? ⟨h0, 5, none⟩ = some (.int .i64 d) ∧ w.cell? ⟨h0, 6, none⟩ = some (.int .i64 e) ∧ w.cell? ⟨h0, 7, none⟩ = some (.int .i64 f) ∧ w.cell? ⟨h0, 8, none⟩ = some (.int .i64 g) ∧ h0 < w.heap.size := by
  refine ⟨?_, ?_, ?_, ?_, ?_, ?_, ?_, ?_, ?_, (Array.getElem?_eq_some_iff.1 h).1⟩ <;> (rw [cell_of_row w h0 _ _ 52 _ h]; rfl)
set_option maxRecDepth 20000 in
set_option maxHeartbeats 400000 in
theorem stands_fine (b l i a c d e f g : Int) (w : World) (hb : I64 b) (hf : Fine b l i) :
    Calls Tryz.prog 101 #[.agg (lay9 b l i a c d e f g)] w fun e' w' => e' = .returned (.bool (standsB b l i a c d e f g)) ∧ Below w.heap.size w w' := by
  have hc := fun w => of_any b l i w hb
  rw [show ofV b l i = layV b l i from if_pos hf, show ofE b l i = 0 from if_pos hf] at hc
  have HF : Hid (Fine b l i) := hf
  clear hf
  unfold layV at hc
  have e1 : ∀ (w : World), (w.alloc (.cells (lay9 b l i a c d e f g) 52)).heap[w.heap.size]? = some (.cells (lay9 b l i a c d e f g) 52) := fun w => heap_alloc_new _ _
  have e2 := fun (W1 : World) (h : W1.heap[w.heap.size]? = some (.cells (lay9 b l i a c d e f g) 52)) => lay_cells h
  unfold lay9 at *
  go_enter Tryz.func101, Tryz.ntmps101
  go_wp2_with (first | (go_at_call 58; fail))
  refine (hc _).mono ?_
  rintro e' W1 ⟨rfl, hb1⟩
  have h1 := heap_kept (e1 w) hb1
  have HB : Hid (Below w.heap.size w W1) := below_next (below_new _ _) hb1
  obtain ⟨c0, c1, c2, c3, c4, c5, c6, c7, c8, hlt⟩ := e2 W1 h1
  clear hb1 hc e1 h1 e2
  go_wp2
  all_goals
    go_ret
    refine ⟨ret_bool ?_, bel_al HB.out _⟩
    clear c0 c1 c2 c3 c4 c5 c6 c7 c8
    first
      | exact (show true = standsB b l i a c d e f g from (decide_eq_true ⟨HF.out, by omega, by omega, by omega, by omega, by omega, by omega⟩).symm)
      | exact (show false = standsB b l i a c d e f g from (decide_eq_false fun ⟨_, q1, q2, q3, q4, q5, q6⟩ => by omega).symm)

set_option maxRecDepth 20000 in
set_option maxHeartbeats 400000 in
theorem stands_not (b l i a c d e f g : Int) (w : World) (hb : I64 b) (hf : ¬ Fine b l i) :
    Calls Tryz.prog 101 #[.agg (lay9 b l i a c d e f g)] w fun e' w' => e' = .returned (.bool (standsB b l i a c d e f g)) ∧ Below w.heap.size w w' := by
  have hc := fun w => of_any b l i w hb
  rw [show ofV b l i = layZ from if_neg hf, show ofE b l i = 2 from if_neg hf] at hc
  have HF : Hid (¬ Fine b l i) := hf
  clear hf
  unfold layZ at hc
  unfold lay9 at *
  go_enter Tryz.func101, Tryz.ntmps101
  go_wp2_with (first | (go_at_call 58; fail))
  refine (hc _).mono ?_
  rintro e' W1 ⟨rfl, hb1⟩
  have HB : Hid (Below w.heap.size w W1) := below_next (below_new _ _) hb1
  clear hb1 hc
  go_wp2
  go_ret
  exact ⟨ret_bool (show false = standsB b l i a c d e f g from (decide_eq_false fun q => HF.out q.1).symm), bel_al HB.out _⟩
theorem stands_any (b l i a c d e f g : Int) (w : World) (hb : I64 b) :
    Calls Tryz.prog 101 #[.agg (lay9 b l i a c d e f g)] w fun e' w' => e' = .returned (.bool (standsB b l i a c d e f g)) ∧ Below w.heap.size w w' := by
  by_cases hf : Fine b l i
  · exact stands_fine b l i a c d e f g w hb hf
  · exact stands_not b l i a c d e f g w hb hf
end Go.Proofs.YtlcdpmjdnihocaaGreatP
/- Where of shape, and the document's: the region of a block; for every layout and block. -/
namespace Go.Proofs.YtlcdpmjdnihocaaGreatP
open Go.RowKit

/-- The region of a block: its number. -/
def whereN (b l i a c d e f g k : Int) : Int :=
  if 0 ≤ k ∧ k < b ∧ standsB b l i a c d e f g = true then (if k < a then 1 else if k < c then 2 else if k < e then 3 else if k < g then 4 else 5) else 0
theorem wN0 {b l i a c d e f g k : Int} (h : k < 0 ∨ b ≤ k ∨ standsB b l i a c d e f g = false) : 0 = whereN b l i a c d e f g k := by
  unfold whereN
  rw [if_neg]
  rintro ⟨h1, h2, h3⟩
  rcases h with h | h | h
  · omega
  · omega
  · rw [h] at h3; cases h3
theorem wN {b l i a c d e f g k : Int} (h0 : 0 ≤ k) (h1 : k < b) (h : standsB b l i a c d e f g = true) : whereN b l i a c d e f g k = (if k < a then 1 else if k < c then 2 else if k < e then 3 else if k < g then 4 else 5) := by
  unfold whereN
  rw [if_pos ⟨h0, h1, h⟩]

set_option maxRecDepth 20000 in
set_option maxHeartbeats 400000 in
theorem where_any (b l i a c d e f g k : Int) (w : World) (hb : I64 b) :
    Calls Tryz.prog 97 #[.agg (lay9 b l i a c d e f g), .int .i64 k] w fun e' w' => e' = .returned (.int .u8 (whereN b l i a c d e f g k)) ∧ Below w.heap.size w w' := by
  have hc := fun w => stands_any b l i a c d e f g w hb
  have e1 : ∀ (w : World), (w.alloc (.cells (lay9 b l i a c d e f g) 52)).heap[w.heap.size]? = some (.cells (lay9 b l i a c d e f g) 52) := fun w => heap_alloc_new _ _
  have e2 := fun (W1 : World) (h : W1.heap[w.heap.size]? = some (.cells (lay9 b l i a c d e f g) 52)) => lay_cells h
  have z0 := @wN0 b l i a c d e f g k
  have z1 := @wN b l i a c d e f g k
  generalize whereN b l i a c d e f g k = n at *
  have Z0 : Hid _ := z0
  have Z1 : Hid _ := z1
  clear z0 z1
  generalize standsB b l i a c d e f g = v at *
  by_cases h0 : k < 0
  · unfold lay9 at *
    go_enter Tryz.func97, Tryz.ntmps97
    go_wp2
    go_ret
    exact ⟨ret_int (Z0.out (.inl h0)), below_new _ _⟩
  · by_cases h1 : b ≤ k
    · unfold lay9 at *
      go_enter Tryz.func97, Tryz.ntmps97
      go_wp2
      go_ret
      exact ⟨ret_int (Z0.out (.inr (.inl h1))), below_new _ _⟩
    · cases v
      · have ZZ : Hid (0 = n) := Z0.out (.inr (.inr rfl))
        clear Z0 Z1
        unfold lay9 at *
        go_enter Tryz.func97, Tryz.ntmps97
        go_wp2_with (first | (go_at_call 101; refine (hc _).mono ?_; rintro e' W1 ⟨rfl, hb1⟩))
        go_ret
        exact ⟨ret_int ZZ.out, below_next (below_new _ _) hb1⟩
      · have hn := Z1.out (by omega) (by omega) rfl
        have HN : Hid _ := hn
        clear Z0 Z1 hn
        unfold lay9 at *
        go_enter Tryz.func97, Tryz.ntmps97
        go_wp2_with (first | (go_at_call 101; fail))
        refine (hc _).mono ?_
        rintro e' W1 ⟨rfl, hb1⟩
        have h2 := heap_kept (e1 w) hb1
        have HB : Hid (Below w.heap.size w W1) := below_next (below_new _ _) hb1
        obtain ⟨c0, c1, c2, c3, c4, c5, c6, c7, c8, hlt⟩ := e2 W1 h2
        clear hb1 hc e1 h2 e2
        go_wp2
        all_goals
          go_ret
          refine ⟨ret_int ?_, HB.out⟩
          have h := HN.out
          clear c0 c1 c2 c3 c4 c5 c6 c7 c8 HN
          (repeat' split at h) <;> omega

theorem place_any (k : Int) (w : World) (h : 0 ≤ k ∧ k ≤ 100) : Calls Tryz.prog 104 #[.int .i64 k] w fun e w' => e = .returned (.int .i64 (8 + 4 * k)) ∧ w' = w := by
  obtain ⟨h0, h1⟩ := h
  go_enter Tryz.func104, Tryz.ntmps104
  go_wp2
  go_ret
  exact ⟨rfl, rfl⟩
theorem ret48 {fn : Func} {p : Tmp} {R : Ending → World → Prop} {a : Act} {w : World} (h : fn.results = #[.cell p 124]) (g : Nat) (cs : Array Value) (hs : cs.size = 9)
    (hp : a.tmps.getD p undef = .pointer (some ⟨g, 0, none⟩)) (hg : w.heap[g]? = some (.cells cs 124)) (hd : a.defers = []) (hR : R (.returned (.agg cs)) w) : bodyPost Tryz.prog fn R .ret a w :=
  bodyPost_ret (results_cell_row h a.tmps w g 124 cs (0, 0) _ hp hg Tryz.underlying124 rfl (by rw [hs]; kernel_rfl)) hd hR
set_option maxRecDepth 20000 in
set_option maxHeartbeats 400000 in
theorem numbers_any (b l i a c d e f g : Int) (w : World) :
    Calls Tryz.prog 103 #[.agg (lay9 b l i a c d e f g)] w fun e' w' => e' = .returned (.agg (lay9 b l i a c d e f g)) ∧ Below w.heap.size w w' := by
  unfold lay9
  go_enter Tryz.func103, Tryz.ntmps103
  go_wp2
  refine ret48 rfl (w.heap.size + 1) _ rfl rfl (heap3 _ _ _ _) rfl ⟨rfl, ?_⟩
  repeat refine bel_al ?_ _
  exact Below.refl _ _
end Go.Proofs.YtlcdpmjdnihocaaGreatP
/- slab's inside: which of some places lie in a block; for every place and number. -/
namespace Go.Proofs.YtlcdpmjdnihocaaGreatP
open Go.RowKit

/-- The first of the n places from a on that are inside, and the one behind the last; 0 and 0 if there are none. -/
def insLo (a n : Int) : Nat := if n < 1 ∨ 1024 ≤ a then 0 else a.toNat
def insHi (a n : Int) : Nat := if n < 1 ∨ 1024 ≤ a then 0 else (min (a + n) 1024).toNat
theorem ins_le (a n : Int) : insLo a n ≤ insHi a n ∧ insHi a n ≤ 1024 := by
  unfold insLo insHi; split
  · omega
  · omega
theorem ins_iff (a n : Int) (j : Nat) (hj : j < 1024) : (insLo a n ≤ j ∧ j < insHi a n) ↔ (a ≤ (j : Int) ∧ (j : Int) - a < n) := by
  unfold insLo insHi; split <;> omega
theorem ins_lo (a n : Int) (h : insLo a n < insHi a n) : a ≤ (insLo a n : Int) ∧ (insHi a n : Int) - a ≤ n := by
  unfold insLo insHi at *; split at h <;> split <;> omega
theorem ret_two {a b c d : Int} (h : a = c) (h' : b = d) : Ending.returned (.tuple #[.int .i64 a, .int .i64 b]) = .returned (.tuple #[.int .i64 c, .int .i64 d]) := by rw [h, h']

set_option maxHeartbeats 400000 in
theorem slabInside_any (a n : Int) (w : World) (ha : -9223372036854775808 ≤ a ∧ a ≤ 9223372036854775807) (hn : -9223372036854775808 ≤ n ∧ n ≤ 9223372036854775807) :
    Calls Tryz.prog 141 #[.int .i64 a, .int .i64 n] w fun e w' => e = .returned (.tuple #[.int .i64 (insLo a n), .int .i64 (insHi a n)]) ∧ w' = w := by
  have hlo : ((insLo a n : Nat) : Int) = if n < 1 ∨ 1024 ≤ a then 0 else if a < 0 then 0 else a := by unfold insLo; split <;> (try split) <;> omega
  have hhi : ((insHi a n : Nat) : Int) = if n < 1 ∨ 1024 ≤ a then 0 else if a + n < 0 then 0 else if a + n < 1024 then a + n else 1024 := by
    unfold insHi; split <;> (try split) <;> (try split) <;> omega
  generalize ((insLo a n : Nat) : Int) = lo at *
  generalize ((insHi a n : Nat) : Int) = hi at *
  have HLO : Hid (lo = if n < 1 ∨ 1024 ≤ a then 0 else if a < 0 then 0 else a) := hlo
  have HHI : Hid (hi = if n < 1 ∨ 1024 ≤ a then 0 else if a + n < 0 then 0 else if a + n < 1024 then a + n else 1024) := hhi
  clear hlo hhi
  by_cases h1 : n < 1
  · go_enter Tryz.func141, Tryz.ntmps141
    go_wp2
    go_ret2
    exact ⟨ret_two (by rw [HLO.out, if_pos (.inl h1)]) (by rw [HHI.out, if_pos (.inl h1)]), rfl⟩
  · by_cases h2 : 1024 ≤ a
    · go_enter Tryz.func141, Tryz.ntmps141
      go_wp2
      go_ret2
      exact ⟨ret_two (by rw [HLO.out, if_pos (.inr h2)]) (by rw [HHI.out, if_pos (.inr h2)]), rfl⟩
    · by_cases h3 : a < 0
      · by_cases h4 : a + n < 0
        all_goals by_cases h5 : a + n < 1024
        all_goals
          go_enter Tryz.func141, Tryz.ntmps141
          go_wp2
        all_goals
          go_ret2
          refine ⟨ret_two ?_ ?_, rfl⟩
          · have := HLO.out; rw [if_neg (by omega), if_pos (by omega)] at this; omega
          · have := HHI.out; rw [if_neg (by omega)] at this; split at this <;> (try split at this) <;> omega
      · by_cases h5 : n < 1024 - a
        all_goals
          go_enter Tryz.func141, Tryz.ntmps141
          go_wp2
        all_goals
          go_ret2
          refine ⟨ret_two ?_ ?_, rfl⟩
          · have := HLO.out; rw [if_neg (by omega), if_neg (by omega)] at this; omega
          · have := HHI.out; rw [if_neg (by omega)] at this; split at this <;> (try split at this) <;> omega
end Go.Proofs.YtlcdpmjdnihocaaGreatP
/- Rows of bytes in memory: read, written, copied; whatever their number. -/
namespace Go.Proofs.YtlcdpmjdnihocaaGreatP
open Go.RowKit

theorem info5 : (Tryz.prog.info? 5).map (fun i => (i.zero, i.size, i.bytes)) = some (some (.int .u8 0), 1, 1) := by kernel_rfl
/-- m bytes as cells. -/
def rowA (f : Nat → Int) (m : Nat) : Array Value := ((List.range m).map fun i => Value.int .u8 (f i)).toArray
theorem rowA_size (f : Nat → Int) (m : Nat) : (rowA f m).size = m := by simp [rowA]
theorem rowA_get (f : Nat → Int) (m i : Nat) (h : i < m) : (rowA f m)[i]? = some (.int .u8 (f i)) := by simp [rowA, h]
theorem rowA_ext {f : Nat → Int} {m : Nat} {cs : Array Value} (hs : cs.size = m) (h : ∀ i, i < m → cs[i]? = some (.int .u8 (f i))) : cs = rowA f m := by
  apply Array.ext_getElem?
  intro i
  by_cases hi : i < m
  · rw [h i hi, rowA_get f m i hi]
  · rw [Array.getElem?_eq_none (by omega), Array.getElem?_eq_none (by rw [rowA_size]; omega)]
theorem rowA_congr {f g : Nat → Int} {m : Nat} (h : ∀ i, i < m → f i = g i) : rowA f m = rowA g m :=
  rowA_ext (rowA_size f m) fun i hi => by rw [rowA_get f m i hi, h i hi]
theorem rowA_one (f : Nat → Int) (m : Nat) : ∀ v ∈ (rowA f m).toList, v.oneCell' = true := by
  intro v hv
  simp [rowA] at hv
  obtain ⟨i, _, rfl⟩ := hv
  rfl

/-- F, but for n bytes of G from off on. -/
def over (F : Nat → Int) (off n : Nat) (G : Nat → Int) : Nat → Int := fun i => if off ≤ i ∧ i < off + n then G (i - off) else F i
theorem run_copy5 (w : World) (ty : TypeId) (g off dLen dCap gs so sLen sCap : Nat)
    (F : Nat → Int) (m : Nat) (t : TypeId) (hF : w.heap[g]? = some (.cells (rowA F m) t)) (G : Nat → Int) (n : Nat) (hn : n = Nat.min sLen dLen)
    (hsrc : ∀ j, j < n → w.cell? ⟨gs, so + j, none⟩ = some (.int .u8 (G j))) (hfit : off + n ≤ m) :
    (Builtin.copy_ #[157, 157] ty #[.slice (some ⟨g, off, none⟩) dLen dCap, .slice (some ⟨gs, so, none⟩) sLen sCap]).run Tryz.prog w = .ok (goInt n) (w.setRow g (rowA (over F off n G) m)) := by
  have hlen : (rowA G n).toList.length = n := by simp [rowA_size]
  have hi5 : (Tryz.prog.info? 5).map (·.size) = some 1 := by
    obtain ⟨i0, hi0, _, hz1, _⟩ := info_parts info5
    rw [hi0]; simp [hz1]
  have key := run_copy_row (P := Tryz.prog) w 157 157 ty 5 g off dLen dCap ⟨gs, so, none⟩ sLen sCap (rowA F m) t (rowA G n).toList Tryz.underlying157 hi5 hF (by rw [hlen]; exact hn) (fun j v hv => by
    have hj : j < n := by rw [← hlen]; exact (List.getElem?_eq_some_iff.1 hv).1
    have e : v = .int .u8 (G j) := by
      have := rowA_get G n j hj
      simp at hv
      rw [hv] at this
      exact Option.some.inj this
    rw [e, Go.WideShapes.add_plain]
    exact hsrc j hj) (by rw [hlen, rowA_size]; exact hfit) (rowA_one G n)
  have e : ((rowA F m).toList.take off ++ ((rowA G n).toList ++ (rowA F m).toList.drop (off + n))).toArray = rowA (over F off n G) m := by
    refine rowA_ext ?_ fun i hi => ?_
    · simp [rowA_size]; omega
    · simp only [List.getElem?_toArray]
      by_cases h1 : i < off
      · rw [List.getElem?_append_left (by simp [rowA_size]; omega), List.getElem?_take_of_lt h1]
        simp only [Array.getElem?_toList, rowA_get F m i hi, over]
        rw [if_neg (by omega)]
      · rw [List.getElem?_append_right (by simp [rowA_size]; omega)]
        have e0 : (List.take off (rowA F m).toList).length = off := by simp [rowA_size]; omega
        rw [e0]
        by_cases h2 : i < off + n
        · rw [List.getElem?_append_left (by simp [rowA_size]; omega)]
          simp only [Array.getElem?_toList, rowA_get G n (i - off) (by omega), over]
          rw [if_pos (by omega)]
        · rw [List.getElem?_append_right (by simp [rowA_size]; omega), hlen, List.getElem?_drop, show off + n + (i - off - n) = i by omega]
          simp only [Array.getElem?_toList, rowA_get F m i hi, over]
          rw [if_neg (by omega)]
  rw [hlen, List.append_assoc, e] at key
  exact key
theorem wp_copy5 {o : Oper} {a : Act} {w : World} {K : Act → World → Prop} {Q : Exit → Act → World → Prop} (d s : Operand)
    (ho : o.op = .call { callee := .builtin .copy, args := #[d, s], argTypes := #[157, 157] }) (g off dLen dCap gs so sLen sCap : Nat)
    (hd : a.eval d = .slice (some ⟨g, off, none⟩) dLen dCap) (hs : a.eval s = .slice (some ⟨gs, so, none⟩) sLen sCap)
    (F : Nat → Int) (m : Nat) (t : TypeId) (hF : w.heap[g]? = some (.cells (rowA F m) t)) (G : Nat → Int) (n : Nat) (hn : n = Nat.min sLen dLen)
    (hsrc : ∀ j, j < n → w.cell? ⟨gs, so + j, none⟩ = some (.int .u8 (G j))) (hfit : off + n ≤ m)
    (h : K (a.put o.dst (goInt n)) (w.setRow g (rowA (over F off n G) m))) : o.wp Tryz.prog a w K Q := by
  have hrun := run_copy5 w o.type g off dLen dCap gs so sLen sCap F m t hF G n hn hsrc hfit
  unfold Oper.wp
  simp [execOp, ho, resolve, invoke, builtin, hd, hs, hrun, Result.andThen]
  exact h
theorem wpList_copy5 {ops : Array Oper} {rest : List Oper} {o : Oper} {a : Act} {w : World} {Q : Exit → Act → World → Prop} (hgd : o.guard = none) (d s : Operand)
    (ho : o.op = .call { callee := .builtin .copy, args := #[d, s], argTypes := #[157, 157] }) (g off dLen dCap gs so sLen sCap : Nat)
    (hd : a.eval d = .slice (some ⟨g, off, none⟩) dLen dCap) (hs : a.eval s = .slice (some ⟨gs, so, none⟩) sLen sCap)
    (F : Nat → Int) (m : Nat) (t : TypeId) (hF : w.heap[g]? = some (.cells (rowA F m) t)) (G : Nat → Int) (n : Nat) (hn : n = Nat.min sLen dLen)
    (hsrc : ∀ j, j < n → w.cell? ⟨gs, so + j, none⟩ = some (.int .u8 (G j))) (hfit : off + n ≤ m)
    (h : wpList Tryz.prog ops Q rest (a.put o.dst (goInt n)) (w.setRow g (rowA (over F off n G) m))) : wpList Tryz.prog ops Q (o :: rest) a w :=
  wpList_plain hgd fun _ hK => wp_copy5 d s ho g off dLen dCap gs so sLen sCap hd hs F m t hF G n hn hsrc hfit (hK _ _ h)
end Go.Proofs.YtlcdpmjdnihocaaGreatP
/- Piece of slab: some bytes of a block, those that are inside, in memory of their own; for every block, place and number. -/
namespace Go.Proofs.YtlcdpmjdnihocaaGreatP
open Go.RowKit

theorem ins_lo_lt (a n : Int) : insLo a n < 1024 := by unfold insLo; split <;> omega
theorem slice25 (g lo hi : Nat) (h1 : lo ≤ hi) (h2 : hi ≤ 1024) (h3 : lo < 1024) (u : World) :
    (Instr.sliceAt 79 (.pointer (some ⟨g, 0, none⟩)) (some (.int .i64 (lo : Int))) (some (.int .i64 (hi : Int))) none).run Tryz.prog u = .ok (.slice (some ⟨g, lo, none⟩) (hi - lo) (1024 - lo)) u := by
  have hn : ¬ ((1024 : Nat) = lo) := by omega
  have ea : Tryz.prog.arrayLen 79 = 1024 := by kernel_rfl
  have ee : Tryz.prog.elem 79 = 5 := by kernel_rfl
  have h := run_sliceAt_array_lh (P := Tryz.prog) u 79 ⟨g, 0, none⟩ (by rw [ea, ee]; exact Tryz.underlying79) .i64 .i64 (lo : Int) (hi : Int) (by omega) (by omega) (by rw [ea]; omega)
  rw [h, ea, ee]
  simp [Tryz.sizeOf5, slicedAt, hn, Addr.add]
  intro h0; exact h0.symm

/-- f from lo on. -/
def from' (f : Nat → Int) (lo : Nat) : Nat → Int := fun i => f (lo + i)

end Go.Proofs.YtlcdpmjdnihocaaGreatP
/- Lay of slab: bytes laid into a block, those that come to lie inside; for every block, place and bytes. -/
namespace Go.Proofs.YtlcdpmjdnihocaaGreatP
open Go.RowKit

/-- f with n bytes of q laid from place a on. -/
def layF (f : Nat → Int) (a : Int) (n : Nat) (q : Nat → Int) : Nat → Int := fun j => if a ≤ (j : Int) ∧ (j : Int) - a < (n : Int) then q ((j : Int) - a).toNat else f j

theorem lay_none (f : Nat → Int) (k : Int) (n : Nat) (q : Nat → Int) (h : ¬ insLo k n < insHi k n) : blk f = blk (layF f k n q) := blk_congr fun i hi => by
  unfold layF
  have := ins_iff k n i hi
  rw [if_neg (by omega)]
theorem lay_some (f : Nat → Int) (k : Int) (n : Nat) (q : Nat → Int) (h : insLo k n < insHi k n) :
    rowA (over f (insLo k n) (insHi k n - insLo k n) (from' q ((insLo k n : Int) - k).toNat)) 1024 = blk (layF f k n q) := rowA_congr fun i hi => by
  unfold over layF from'
  have h1 := ins_iff k n i hi
  have h2 := ins_lo k n h
  by_cases h3 : insLo k n ≤ i ∧ i < insHi k n
  · rw [if_pos (by omega), if_pos (h1.1 h3)]
    congr 1
    omega
  · rw [if_neg (by omega), if_neg (by omega)]

set_option maxRecDepth 20000 in
set_option maxHeartbeats 400000 in
theorem lay_skip (f : Nat → Int) (k : Int) (a : Option Addr) (n cap : Nat) (q : Nat → Int) (w : World) (ha : -9223372036854775808 ≤ k ∧ k ≤ 9223372036854775807) (hn : n ≤ 9223372036854775807) (h : ¬ insLo k n < insHi k n) :
    Calls Tryz.prog 102 #[.agg (blk f), .int .i64 k, .slice a n cap] w fun e w' => e = .returned (.agg (blk (layF f k n q))) ∧ Below w.heap.size w w' := by
  have HF : Hid (blk f = blk (layF f k n q)) := lay_none f k n q h
  have hcl := slabInside_any k n
  have z25 := zero25
  generalize insLo k n = lo at *
  generalize insHi k n = hi at *
  have h' : ¬ ((lo : Int) < (hi : Int)) := by omega
  clear h
  go_enter Tryz.func102, Tryz.ntmps102
  go_wp2_with fail
  refine (hcl _ ha (by omega)).mono ?_
  rintro e w1 ⟨rfl, rfl⟩
  clear hcl
  go_wp2_with (first | refine wpList_load25 rfl _ rfl _ rfl _ (heap_alloc2_old _ _ _) ?_ | refine wpList_store25 rfl _ _ rfl _ _ rfl rfl _ (heap_alloc2_new _ _ _) ?_)
  exact ret25 rfl (w.heap.size + 1) _ rfl (setRow_heap _ _ _ _ _ _ (heap_alloc2_new _ _ _)) rfl ⟨by rw [HF.out], below2 _ _ _ _ (by omega) _⟩

set_option maxRecDepth 20000 in
set_option maxHeartbeats 400000 in
theorem lay_copy (f : Nat → Int) (k : Int) (b off n cap : Nat) (q : Nat → Int) (w : World) (ha : -9223372036854775808 ≤ k ∧ k ≤ 9223372036854775807) (hn : n ≤ 9223372036854775807) (hcap : n ≤ cap)
    (hb : b < w.heap.size) (hc : ∀ i, i < n → w.cell? ⟨b, off + i, none⟩ = some (.int .u8 (q i))) (h : insLo k n < insHi k n) :
    Calls Tryz.prog 102 #[.agg (blk f), .int .i64 k, .slice (some ⟨b, off, none⟩) n cap] w fun e w' => e = .returned (.agg (blk (layF f k n q))) ∧ Below w.heap.size w w' := by
  have hle := ins_le k n
  have hlo := ins_lo_lt k n
  have hlk := ins_lo k n h
  have HF : Hid (rowA (over f (insLo k n) (insHi k n - insLo k n) (from' q ((insLo k n : Int) - k).toNat)) 1024 = blk (layF f k n q)) := lay_some f k n q h
  have hcl := slabInside_any k n
  have z25 := zero25
  generalize insLo k n = lo at *
  generalize insHi k n = hi at *
  obtain ⟨l, hl⟩ : ∃ l : Nat, (lo : Int) - k = (l : Int) := ⟨((lo : Int) - k).toNat, by omega⟩
  have hlt : ((lo : Int) - k).toNat = l := by omega
  rw [hlt] at HF
  have h' : ((lo : Int) < (hi : Int)) := by omega
  have hsl := slice25 w.heap.size lo hi hle.1 hle.2 hlo
  have hln : l < n := by omega
  have hwr : IntKind.i64.wrap ((lo : Int) - k) = (l : Int) := by rw [IntKind.wrap_i64]; omega
  have hln' : (l : Int) ≤ (n : Int) := by omega
  have hcp : ¬ cap = l := by omega
  have hsrc : ∀ j, j < hi - lo → ((w.alloc (.cells (blk f) 79)).alloc (.cells (blk nought) 79)).drew.cell? ⟨b, off + l + j, none⟩ = some (.int .u8 (from' q l j)) := fun j hj => by
    have h1 := hc (l + j) (by omega)
    rw [← Nat.add_assoc] at h1
    exact ((((Below.refl w.heap.size w).alloc (Nat.le_refl _) (.cells (blk f) 79)).alloc (by simp) (.cells (blk nought) 79)).cell (p := ⟨b, off + l + j, none⟩) hb).trans h1
  have HS : Hid (∀ j, j < hi - lo → ((w.alloc (.cells (blk f) 79)).alloc (.cells (blk nought) 79)).drew.cell? ⟨b, off + l + j, none⟩ = some (.int .u8 (from' q l j))) := hsrc
  have HB : Hid (((w.alloc (.cells (blk f) 79)).alloc (.cells (blk nought) 79)).drew.heap[w.heap.size]? = some (.cells (rowA f 1024) 79)) := heap_alloc2_old _ _ _
  have hE : lo + (hi - lo) ≤ 1024 := by omega
  have HE : Hid (lo + (hi - lo) ≤ 1024) := hE
  clear hE
  have HN : Hid (hi - lo = Nat.min (n - l) (hi - lo)) := show _ = _ from (Nat.min_eq_right (by omega)).symm
  clear hc hsrc hlt h hlo hln
  clear hl
  go_enter Tryz.func102, Tryz.ntmps102
  go_wp2_with fail
  refine (hcl _ ha (by omega)).mono ?_
  rintro e w1 ⟨rfl, rfl⟩
  clear hcl
  go_wp2
  go_still_tail 8, (by kernel_rfl)
  change wpList _ _ _ _ _ (World.drew _)
  refine wpList_copy5 rfl (.tmp 21) (.tmp 26) rfl w.heap.size lo (hi - lo) (1024 - lo) b (off + l) (n - l) (cap - l) rfl rfl f 1024 79 HB.out (from' q l) (hi - lo) HN.out HS.out HE.out ?_
  rw [HF.out]
  have h1 := setRow_heap _ w.heap.size (rowA f 1024) (blk (layF f k n q)) 79 (0, 0) HB.out
  have h2 : (((w.alloc (.cells (blk f) 79)).alloc (.cells (blk nought) 79)).drew.setRow w.heap.size (blk (layF f k n q))).heap[w.heap.size + 1]? = some (.cells (blk nought) 79) :=
    (setRow_other _ _ _ _ (by omega)).trans (heap_alloc2_new _ _ _)
  have h3 : Below w.heap.size w (((w.alloc (.cells (blk f) 79)).alloc (.cells (blk nought) 79)).drew.setRow w.heap.size (blk (layF f k n q))) :=
    below_setRow (((Below.refl _ _).alloc (Nat.le_refl _) _).alloc (by simp) _).drew (Nat.le_refl _) _
  generalize ((w.alloc (.cells (blk f) 79)).alloc (.cells (blk nought) 79)).drew.setRow w.heap.size (blk (layF f k n q)) = W at h1 h2 h3 ⊢
  clear HB HS HF hsl
  simp only [Act.put, List.setIfInBounds_toArray, List.set_cons_succ, List.set_cons_zero]
  go_wp2_with (first | refine wpList_load25 rfl _ rfl _ rfl _ h1 ?_ | refine wpList_store25 rfl _ _ rfl _ _ rfl rfl _ h2 ?_)
  exact ret25 rfl (w.heap.size + 1) _ rfl (setRow_heap _ _ _ _ _ _ h2) rfl ⟨rfl, below_setRow h3 (by omega) _⟩

theorem lay_any (f : Nat → Int) (k : Int) (p : Value) (n : Nat) (q : Nat → Int) (w : World) (ha : -9223372036854775808 ≤ k ∧ k ≤ 9223372036854775807) (hp : Lies w p n q) :
    Calls Tryz.prog 102 #[.agg (blk f), .int .i64 k, p] w fun e w' => e = .returned (.agg (blk (layF f k n q))) ∧ Below w.heap.size w w' := by
  rcases hp with ⟨a, cap, rfl, rfl, _⟩ | ⟨b, off, cap, rfl, hn, hcap, hb, hc⟩
  · refine lay_skip f k a 0 cap q w ha (by omega) ?_
    unfold insLo insHi; rw [if_pos (.inl (by omega)), if_pos (.inl (by omega))]; omega
  · unfold maxLen at hn
    by_cases h : insLo k n < insHi k n
    · exact lay_copy f k b off n cap q w ha (by omega) hcap hb hc h
    · exact lay_skip f k _ n cap q w ha (by omega) h
end Go.Proofs.YtlcdpmjdnihocaaGreatP
/- The bytes of a superblock, as a plain function of its nine numbers: written and read; no condition but the numbers' size. -/
namespace Go.Proofs.YtlcdpmjdnihocaaGreatP
open Go.RowKit

def magicF : Nat → Int
  | 0 => 99 | 1 => 114 | 2 => 111 | 3 => 102 | 4 => 116 | 5 => 102 | 6 => 115 | 7 => 49 | _ => 0
def nine (b l i a c d e f g : Int) : Nat → Int
  | 0 => b | 1 => l | 2 => i | 3 => a | 4 => c | 5 => d | 6 => e | 7 => f | 8 => g | _ => 0
theorem nine_get (b l i a c d e f g : Int) (k : Nat) (h : k < 9) : (lay9 b l i a c d e f g)[k]? = some (.int .i64 (nine b l i a c d e f g k)) := by
  match k, h with
  | 0, _ => rfl
  | 1, _ => rfl
  | 2, _ => rfl
  | 3, _ => rfl
  | 4, _ => rfl
  | 5, _ => rfl
  | 6, _ => rfl
  | 7, _ => rfl
  | 8, _ => rfl
/-- Numbers that four bytes hold. -/
def Four (n : Nat → Int) : Prop := ∀ k, 0 ≤ n k ∧ n k < 4294967296
/-- The bytes of a superblock of the numbers n. -/
def supF (n : Nat → Int) : Nat → Int := fun j => if j < 8 then magicF j else if j < 44 then n ((j - 8) / 4) / 256 ^ ((j - 8) % 4) % 256 else 0
/-- Its first m bytes, noughts behind them. -/
def supK (n : Nat → Int) (m : Nat) : Nat → Int := fun j => if j < m then supF n j else 0
theorem supF_at (n : Nat → Int) (k j : Nat) (hk : k < 9) (hj : j < 4) : supF n (8 + 4 * k + j) = n k / 256 ^ j % 256 := by
  unfold supF
  rw [if_neg (by omega), if_pos (by omega), show (8 + 4 * k + j - 8) / 4 = k by omega, show (8 + 4 * k + j - 8) % 4 = j by omega]
theorem supK_step (n : Nat → Int) (m : Nat) : upd (supK n m) m (supF n m) = supK n (m + 1) := by
  funext j
  unfold upd supK
  by_cases h : j = m
  · subst h; simp
  · by_cases h2 : j < m
    · simp [h, h2, show j < m + 1 by omega]
    · simp [h, h2, show ¬ j < m + 1 by omega]
theorem supK_byte (n : Nat → Int) (k j : Nat) (hk : k < 9) (hj : j < 4) : upd (supK n (8 + 4 * k + j)) (8 + 4 * k + j) (n k / 256 ^ j % 256) = supK n (8 + 4 * k + j + 1) := by
  rw [← supF_at n k j hk hj, supK_step]
theorem supK_put (n : Nat → Int) (k : Nat) (hk : k < 9) : putN (supK n (8 + 4 * k)) (8 + 4 * k) (n k) 4 = supK n (8 + 4 * (k + 1)) := by
  have h0 := supK_byte n k 0 hk (by omega)
  have h1 := supK_byte n k 1 hk (by omega)
  have h2 := supK_byte n k 2 hk (by omega)
  have h3 := supK_byte n k 3 hk (by omega)
  simp only [Nat.add_zero, Int.pow_zero, Int.ediv_one] at h0
  simp only [Int.pow_succ, Int.pow_zero, Int.one_mul] at h1 h2 h3
  simp only [putN]
  rw [h0, h1, show n k / 256 / 256 % 256 = n k / (256 * 256) % 256 by omega, show n k / 256 / 256 / 256 % 256 = n k / (256 * 256 * 256) % 256 by omega]
  rw [show 8 + 4 * k + 1 + 1 = 8 + 4 * k + 2 by omega, h2, show 8 + 4 * k + 2 + 1 = 8 + 4 * k + 3 by omega, h3]
  congr 1
theorem supK_all (n : Nat → Int) : supK n 44 = supF n := by
  funext j
  unfold supK
  split
  · rfl
  · unfold supF; rw [if_neg (by omega), if_neg (by omega)]
theorem sup_lay (n : Nat → Int) : layF nought 0 8 magicF = supK n 8 := by
  funext j
  unfold layF supK supF
  by_cases h : j < 8
  · rw [if_pos (by omega), if_pos h, if_pos h]; congr 1
  · rw [if_neg (by omega), if_neg h]; rfl
theorem supF_byte (n : Nat → Int) (j : Nat) : 0 ≤ supF n j ∧ supF n j ≤ 255 := by
  unfold supF
  split
  · unfold magicF; split <;> omega
  · split <;> omega
/-- The numbers of a geometry's layout. -/
def nineG (b l i : Int) : Nat → Int := nine b l i 1 (1 + l) (nodeB i) (bitsAt l i) (bitsB b) (dataAt b l i)
theorem Fine.four {b l i : Int} (h : Fine b l i) : Four (nineG b l i) := by
  have hp := h.pos
  unfold Fine dataAt bitsAt nodeB bitsB at h
  intro k
  unfold nineG nine dataAt bitsAt nodeB bitsB
  split <;> omega
/-- The superblock of a geometry. -/
def superF (b l i : Int) : Nat → Int := supF (nineG b l i)
end Go.Proofs.YtlcdpmjdnihocaaGreatP
/- Regions whose order is drawn, walked in one order that is told: what only reads may come at any time, what acts comes where nothing else may; S holds all along. -/
namespace Go.Proofs.YtlcdpmjdnihocaaGreatP
open Go.RowKit

section
variable {P : Program} {ops : Array Oper} {Q : Exit → Act → World → Prop} {S : World → Prop}

/-- May the operations be taken in this order? true: it is taken first; false: nothing else may come up. -/
def ordB (ops : Array Oper) : List (Nat × Bool) → Array Bool → Bool
  | [], listed => (Region.ready .any ops listed).isEmpty
  | (i, true) :: r, listed => (Region.ready .any ops listed).contains i && Region.free .any ops listed i && (ops[i]?).isSome && ordB ops r (listed.setIfInBounds i true)
  | (i, false) :: r, listed => (Region.ready .any ops listed == [i]) && (ops[i]?).isSome && ordB ops r (listed.setIfInBounds i true)

/-- The operations themselves, in that order. -/
def inOrd (ol : List Oper) : List (Nat × Bool) → List (Bool × Oper)
  | [] => []
  | (i, b) :: r => match ol[i]? with
    | some o => (b, o) :: inOrd ol r
    | none => inOrd ol r

def wpOrd (P : Program) (ops : Array Oper) (Q : Exit → Act → World → Prop) (S : World → Prop) : List (Bool × Oper) → Act → World → Prop
  | [], a, w => Q .normal a w
  | (true, o) :: r, a, w => ∃ v, YieldsIf P ops S o v a ∧ wpOrd P ops Q S r (a.put o.dst v) w
  | (false, o) :: r, a, w => if Region.wanted o (yielded ops a.tmps) then o.wp P a w (fun a' w' => S w' ∧ wpOrd P ops Q S r a' w') Q else S w ∧ wpOrd P ops Q S r (a.put o.dst undef) w

theorem wpOrd_any {ol : List Oper} (hs : Region.noSelect ol.toArray = true) (hQ : ∀ d v c a w, Q (.panic c) (a.put d v) w → Q (.panic c) a w) : ∀ (l : List (Nat × Bool)) (listed : Array Bool) (a : Act) (w : World), S w →
    ordB ol.toArray l listed = true → wpOrd P ol.toArray Q S (inOrd ol l) a w → wpAnyH P .any ol.toArray Q S l.length listed a w
  | [], listed, a, w, _, hB, h => wpAnyH_done (by simpa [ordB] using hB) h _
  | (i, true) :: r, listed, a, w, hS, hB, h => by
    simp only [ordB, Bool.and_eq_true] at hB
    obtain ⟨⟨⟨h1, h2⟩, h3⟩, h4⟩ := hB
    obtain ⟨o, hi⟩ := Option.isSome_iff_exists.1 h3
    have hi' : ol[i]? = some o := by simpa using hi
    simp only [inOrd, hi', wpOrd] at h
    obtain ⟨v, hy, hr⟩ := h
    exact wpAnyH_take hi hs h2 h1 (fun c a w => hQ _ _ c a w) hy hS (wpOrd_any hs hQ r _ _ w hS h4 hr)
  | (i, false) :: r, listed, a, w, hS, hB, h => by
    simp only [ordB, Bool.and_eq_true, beq_iff_eq] at hB
    obtain ⟨⟨h1, h3⟩, h2⟩ := hB
    obtain ⟨o, hi⟩ := Option.isSome_iff_exists.1 h3
    have hi' : ol[i]? = some o := by simpa using hi
    simp only [inOrd, hi', wpOrd] at h
    refine wpAnyH_all h1 (by simp) fun j hj => ?_
    obtain rfl : j = i := by simpa using hj
    unfold wpOp
    rw [hi]
    simp only
    split
    · rename_i hw
      rw [if_pos hw] at h
      exact .inl (Oper.wp_mono (fun a' w' h' => ⟨h'.1, wpOrd_any hs hQ r _ a' w' h'.1 h2 h'.2⟩) h)
    · rename_i hw
      rw [if_neg hw] at h
      exact ⟨h.1, wpOrd_any hs hQ r _ _ w h.1 h2 h.2⟩

theorem wpOrd_nil {a : Act} {w : World} (h : Q .normal a w) : wpOrd P ops Q S [] a w := h
theorem wpOrd_call {r : List (Bool × Oper)} {a : Act} {w : World} {o : Oper} (hw : Region.wanted o (yielded ops a.tmps) = true) (f : FuncId) (xs : List Operand) (ts : Array TypeId)
    (ho : o.op = .call { callee := .value (.func f), args := xs.toArray, argTypes := ts }) (hc : ∀ args u, (callFunc f args).run P u = .ok (.enter f args) u) (args : List Value) (hx : xs.map a.eval = args)
    (h : Calls P f args.toArray w fun e w' => ∃ v, e = .returned v ∧ S w' ∧ wpOrd P ops Q S r (a.put o.dst v) w') : wpOrd P ops Q S ((false, o) :: r) a w := by
  simp only [wpOrd, hw, if_true]
  unfold Oper.wp execOp
  have e : (do let d ← resolve a.eval { callee := .value (.func f), args := xs.toArray, argTypes := ts } o.type; invoke d.target d.args : Sem Next).run P w = .ok (.enter f args.toArray) w := by
    have hx' : xs.toArray.map a.eval = args.toArray := by rw [← hx]; simp
    simp only [resolve, hx']
    simp [Act.eval, Deferred.ofValue, invoke, hc]
  simp only [ho]
  rw [e]
  unfold Oper.upon
  exact h.mono fun e w' ⟨v, he, h1, h2⟩ => by subst he; exact ⟨h1, h2⟩
end
end Go.Proofs.YtlcdpmjdnihocaaGreatP
/- Regions whose order is drawn, where two operations may come up in either order: both orders are walked. -/
namespace Go.Proofs.YtlcdpmjdnihocaaGreatP
open Go.RowKit

section
variable {P : Program} {ops : Array Oper} {Q : Exit → Act → World → Prop} {S : World → Prop}

/-- First the operations of a list that only read, then i and j in either order, then l. -/
def forkB (ops : Array Oper) (i j : Nat) (l : List (Nat × Bool)) : List Nat → Array Bool → Bool
  | [], listed => (Region.ready .any ops listed == [i, j]) && (ops[i]?).isSome && (ops[j]?).isSome && ordB ops ((j, false) :: l) (listed.setIfInBounds i true) && ordB ops ((i, false) :: l) (listed.setIfInBounds j true)
  | k :: r, listed => (Region.ready .any ops listed).contains k && Region.free .any ops listed k && (ops[k]?).isSome && forkB ops i j l r (listed.setIfInBounds k true)

/-- One operation that acts, and what follows. -/
def wpAct (P : Program) (ops : Array Oper) (Q : Exit → Act → World → Prop) (S : World → Prop) (o : Oper) (K : Act → World → Prop) (a : Act) (w : World) : Prop :=
  if Region.wanted o (yielded ops a.tmps) then o.wp P a w (fun a' w' => S w' ∧ K a' w') Q else S w ∧ K (a.put o.dst undef) w

theorem wpOp_act {i : Nat} {o : Oper} (hi : ops[i]? = some o) {K K' : Act → World → Prop} (hK : ∀ a w, S w → K a w → K' a w) {a : Act} {w : World} (h : wpAct P ops Q S o K a w) : wpOp P ops Q i (fun a' w' => S w' ∧ K' a' w') a w := by
  unfold wpOp
  rw [hi]
  simp only
  unfold wpAct at h
  split
  · rename_i hw
    rw [if_pos hw] at h
    exact .inl (Oper.wp_mono (fun a' w' h' => ⟨h'.1, hK a' w' h'.1 h'.2⟩) h)
  · rename_i hw
    rw [if_neg hw] at h
    exact ⟨h.1, hK _ w h.1 h.2⟩

def wpFork (P : Program) (ops : Array Oper) (Q : Exit → Act → World → Prop) (S : World → Prop) (ol : List Oper) (i j : Nat) (l : List (Nat × Bool)) : List Nat → Act → World → Prop
  | [], a, w => (∀ o, ol[i]? = some o → wpAct P ops Q S o (wpOrd P ops Q S (inOrd ol ((j, false) :: l))) a w) ∧ (∀ o, ol[j]? = some o → wpAct P ops Q S o (wpOrd P ops Q S (inOrd ol ((i, false) :: l))) a w)
  | k :: r, a, w => ∀ o, ol[k]? = some o → ∃ v, YieldsIf P ops S o v a ∧ wpFork P ops Q S ol i j l r (a.put o.dst v) w

theorem wpFork_any {ol : List Oper} (hs : Region.noSelect ol.toArray = true) (hQ : ∀ d v c a w, Q (.panic c) (a.put d v) w → Q (.panic c) a w) (i j : Nat) (l : List (Nat × Bool)) : ∀ (r : List Nat) (listed : Array Bool) (a : Act) (w : World), S w →
    forkB ol.toArray i j l r listed = true → wpFork P ol.toArray Q S ol i j l r a w → wpAnyH P .any ol.toArray Q S (r.length + (l.length + 2)) listed a w
  | [], listed, a, w, hS, hB, h => by
    simp only [forkB, Bool.and_eq_true, beq_iff_eq] at hB
    obtain ⟨⟨⟨⟨h1, h2⟩, h3⟩, h4⟩, h5⟩ := hB
    obtain ⟨oi, hoi⟩ := Option.isSome_iff_exists.1 h2
    obtain ⟨oj, hoj⟩ := Option.isSome_iff_exists.1 h3
    have hoi' : ol[i]? = some oi := by simpa using hoi
    have hoj' : ol[j]? = some oj := by simpa using hoj
    rw [show ([] : List Nat).length + (l.length + 2) = (l.length + 1) + 1 by simp]
    refine wpAnyH_all h1 (by simp) fun k hk => ?_
    simp only [List.mem_cons, List.not_mem_nil, or_false] at hk
    rcases hk with rfl | rfl
    · exact wpOp_act hoi (fun a' w' hS' hK => wpOrd_any hs hQ ((j, false) :: l) _ a' w' hS' h4 hK) (h.1 oi hoi')
    · exact wpOp_act hoj (fun a' w' hS' hK => wpOrd_any hs hQ ((i, false) :: l) _ a' w' hS' h5 hK) (h.2 oj hoj')
  | k :: r, listed, a, w, hS, hB, h => by
    simp only [forkB, Bool.and_eq_true] at hB
    obtain ⟨⟨⟨h1, h2⟩, h3⟩, h4⟩ := hB
    obtain ⟨o, hi⟩ := Option.isSome_iff_exists.1 h3
    have hi' : ol[k]? = some o := by simpa using hi
    obtain ⟨v, hy, hr⟩ := h o hi'
    rw [show (k :: r).length + (l.length + 2) = r.length + (l.length + 2) + 1 by simp; omega]
    exact wpAnyH_take hi hs h2 h1 (fun c a w => hQ _ _ c a w) hy hS (wpFork_any hs hQ i j l r _ _ w hS h4 hr)

/-- A region that draws its order, walked so. -/
theorem wp_region_fork {id : Nat} {a : Act} {w : World} {ol : List Oper} (r : List Nat) (i j : Nat) (l : List (Nat × Bool)) (hm : P.follows .mixedOrders = true) (hl : r.length + (l.length + 2) = ol.length)
    (hB : (Region.noSelect ol.toArray && forkB ol.toArray i j l r (Array.replicate ol.toArray.size false)) = true) (hQ : ∀ d v c a w, Q (.panic c) (a.put d v) w → Q (.panic c) a w)
    (hS : S w.drew) (h : wpFork P ol.toArray Q S ol i j l r a w.drew) : (Code.region id ol.toArray true).wp P Q a w := by
  simp only [Bool.and_eq_true] at hB
  have h1 := wpFork_any hB.1 hQ i j l r _ a w.drew hS hB.2 h
  rw [hl] at h1
  exact wp_region_held hm (by simpa using h1)

theorem wpFork_yield {ol : List Oper} {i j : Nat} {l : List (Nat × Bool)} {k : Nat} {r : List Nat} {a : Act} {w : World} {o : Oper} {v : Value} (ho : ol[k]? = some o) (hw : Region.wanted o (yielded ops a.tmps) = true)
    (hr : ∀ u, S u → (execOp a.eval o).run P u = .ok (.value v) u) (h : wpFork P ops Q S ol i j l r (a.put o.dst v) w) : wpFork P ops Q S ol i j l (k :: r) a w := by
  intro o' ho'
  obtain rfl : o = o' := by rw [ho] at ho'; exact Option.some.inj ho'
  exact ⟨v, .inl ⟨hw, hr⟩, h⟩
theorem wpFork_nil {ol : List Oper} {i j : Nat} {l : List (Nat × Bool)} {a : Act} {w : World} {oi oj : Oper} (hi : ol[i]? = some oi) (hj : ol[j]? = some oj)
    (h1 : wpOrd P ops Q S (inOrd ol ((i, false) :: (j, false) :: l)) a w) (h2 : wpOrd P ops Q S (inOrd ol ((j, false) :: (i, false) :: l)) a w) : wpFork P ops Q S ol i j l [] a w := by
  refine ⟨fun o ho => ?_, fun o ho => ?_⟩
  · obtain rfl : oi = o := by rw [hi] at ho; exact Option.some.inj ho
    simp only [inOrd, hi, hj, wpOrd] at h1 ⊢
    exact h1
  · obtain rfl : oj = o := by rw [hj] at ho; exact Option.some.inj ho
    simp only [inOrd, hi, hj, wpOrd] at h2 ⊢
    exact h2
end
end Go.Proofs.YtlcdpmjdnihocaaGreatP
/- SetU16 and SetU32 of slab: the block in which a number is laid; for every block, place and number. -/
namespace Go.Proofs.YtlcdpmjdnihocaaGreatP
open Go.RowKit

theorem ret_blk {f g : Nat → Int} (h : f = g) : Ending.returned (.agg (blk f)) = .returned (.agg (blk g)) := by rw [h]
set_option maxRecDepth 20000 in
set_option maxHeartbeats 400000 in
theorem set32_in (f : Nat → Int) (k : Nat) (v : Int) (w : World) (hk : (k : Int) ≤ 1020) (hv : 0 ≤ v ∧ v < 4294967296) :
    Calls Tryz.prog 95 #[.agg (blk f), .int .i64 k, .int .u32 v] w fun e w' => e = .returned (.agg (blk (putN f k v 4))) ∧ Below w.heap.size w w' := by
  have z25 := zero25
  have hb0 := fun g => blk_get g (k) (by omega)
  have hb1 := fun g => blk_get g (k + 1) (by omega)
  have hb2 := fun g => blk_get g (k + 2) (by omega)
  have hb3 := fun g => blk_get g (k + 3) (by omega)
  have hset := blk_set
  go_enter Tryz.func95, Tryz.ntmps95
  go_wp2_with (first | (go_at_call 137; refine (fits_yes _ _ _ (by omega) (by omega)).mono ?_; rintro e w' ⟨rfl, rfl⟩) | refine wpList_load25 rfl _ rfl _ rfl _ (heap_alloc2_old _ _ _) ?_ | refine wpList_store25 rfl _ _ rfl _ _ rfl rfl _ (heap_alloc2_new _ _ _) ?_)
  exact ret25 rfl (w.heap.size + 1) _ rfl (setRow_heap _ _ _ _ _ _ (heap_alloc2_new _ _ _)) rfl ⟨ret_blk (put4 f k v hv).symm, below2 _ _ _ _ (by omega) _⟩
set_option maxRecDepth 20000 in
set_option maxHeartbeats 400000 in
theorem set32_out (f : Nat → Int) (k : Int) (v : Int) (w : World) (hk : ¬ (0 ≤ k ∧ k ≤ 1024 - 4)) :
    Calls Tryz.prog 95 #[.agg (blk f), .int .i64 k, .int .u32 v] w fun e w' => e = .returned (.agg (blk f)) ∧ Below w.heap.size w w' := by
  have z25 := zero25
  have HK : Hid (¬ (0 ≤ k ∧ k ≤ 1024 - 4)) := hk
  clear hk
  go_enter Tryz.func95, Tryz.ntmps95
  go_wp2_with (first | (go_at_call 137; refine (fits_no _ _ _ (by omega) HK.out).mono ?_; rintro e w' ⟨rfl, rfl⟩) | refine wpList_load25 rfl _ rfl _ rfl _ (heap_alloc2_old _ _ _) ?_ | refine wpList_store25 rfl _ _ rfl _ _ rfl rfl _ (heap_alloc2_new _ _ _) ?_)
  exact ret25 rfl (w.heap.size + 1) _ rfl (setRow_heap _ _ _ _ _ _ (heap_alloc2_new _ _ _)) rfl ⟨rfl, below2 _ _ _ _ (by omega) _⟩
theorem set32_any (f : Nat → Int) (k : Int) (v : Int) (w : World) (hv : 0 ≤ v ∧ v < 4294967296) :
    Calls Tryz.prog 95 #[.agg (blk f), .int .i64 k, .int .u32 v] w fun e w' => e = .returned (.agg (blk (put f k 4 v))) ∧ Below w.heap.size w w' := by
  by_cases h : 0 ≤ k ∧ k ≤ 1024 - 4
  · obtain ⟨m, rfl⟩ := Int.eq_ofNat_of_zero_le h.1
    rw [put_in f m 4 v (by omega)]; exact set32_in f m v w (by omega) hv
  · rw [put_out f k 4 v (by omega)]; exact set32_out f k v w h
end Go.Proofs.YtlcdpmjdnihocaaGreatP
/- Encode of shape: the superblock of a layout, or none; for every layout. -/
namespace Go.Proofs.YtlcdpmjdnihocaaGreatP
open Go.RowKit

/-- What Encode answers. -/
def encF (b l i a c d e f g : Int) : Nat → Int := if standsB b l i a c d e f g = true then superF b l i else nought
def magicA : Array Value := #[.int .u8 99, .int .u8 114, .int .u8 111, .int .u8 102, .int .u8 116, .int .u8 102, .int .u8 115, .int .u8 49]
theorem idx48 (L : Array Value) (k : Nat) (hk : k < 9) (x : Int) (h : L[k]? = some (.int .i64 x)) (w : World) : (Instr.index 124 (.agg L) (.int .i64 k)).run Tryz.prog w = .ok (.int .i64 x) w := by
  simp [Instr.index, run_underlying Tryz.underlying124, asIntOf, part, Tryz.isAgg3, h, go_sem]
  intro h9; omega
theorem load35L (w : World) (g : Nat) (f : Nat → Int) (h : w.heap[g]? = some (.cells (blk f) 79)) : (loadVar 79 ⟨g, 0, none⟩).run Tryz.prog w = .ok (.agg (blk f)) w :=
  run_loadVar_row w g 79 79 (blk f) (0, 0) _ h Tryz.underlying79 rfl (by rw [blk_size]; exact size25)

theorem wpOrd_loadF {ops : Array Oper} {Q : Exit → Act → World → Prop} {S : World → Prop} {r : List (Bool × Oper)} {a : Act} {w : World} {o : Oper} (hw : Region.wanted o (yielded ops a.tmps) = true)
    (x : Operand) (ho : o.op = .load 79 x) (g : Nat) (hx : a.eval x = .pointer (some ⟨g, 0, none⟩)) (f : Nat → Int) (hg : w.heap[g]? = some (.cells (blk f) 79))
    (h : S w ∧ wpOrd Tryz.prog ops Q S r (a.put o.dst (.agg (blk f))) w) : wpOrd Tryz.prog ops Q S ((false, o) :: r) a w := by
  simp only [wpOrd, hw, if_true]
  unfold Oper.wp execOp
  simp only [ho, hx, Instr.loadAt, Instr.sureAddr, Sem.run_bind, Sem.run_pure, Result.andThen_ok, run_loadVar_row w g 79 79 (blk f) (0, 0) _ hg Tryz.underlying79 rfl (by rw [blk_size]; exact size25)]
  exact h
theorem wpOrd_storeB {ops : Array Oper} {Q : Exit → Act → World → Prop} {S : World → Prop} {r : List (Bool × Oper)} {a : Act} {w : World} {o : Oper} (hw : Region.wanted o (yielded ops a.tmps) = true)
    (x y : Operand) (ho : o.op = .store 79 x y) (g : Nat) (f f0 : Nat → Int) (hx : a.eval x = .pointer (some ⟨g, 0, none⟩)) (hy : a.eval y = .agg (blk f)) (hg : w.heap[g]? = some (.cells (blk f0) 79))
    (h : S (w.setRow g (blk f)) ∧ wpOrd Tryz.prog ops Q S r (a.put o.dst undef) (w.setRow g (blk f))) : wpOrd Tryz.prog ops Q S ((false, o) :: r) a w := by
  simp only [wpOrd, hw, if_true]
  unfold Oper.wp execOp
  simp only [ho, hx, hy, Instr.storeAt, Instr.sureAddr, Sem.run_bind, Sem.run_pure, Result.andThen_ok, run_storeVar_row w g 79 79 (blk f0) (blk f) hg (by rw [blk_size]; exact size25) (by rw [blk_size, blk_size]) (blk_one f)]
  exact h

set_option maxRecDepth 20000 in
set_option maxHeartbeats 400000 in
theorem encode_fine (b l i : Int) (w : World) (hf : Fine b l i) :
    Calls Tryz.prog 62 #[layV b l i] w fun e' w' => e' = .returned (.tuple #[.agg (blk (superF b l i)), .int .i64 0]) ∧ Below w.heap.size w w' := by
  have hb : I64 b := by have := hf.pos; have := hf.2.2.2.2.1; unfold I64; omega
  have hc := fun w => stands_any b l i 1 (1 + l) (nodeB i) (bitsAt l i) (bitsB b) (dataAt b l i) w hb
  rw [show standsB b l i 1 (1 + l) (nodeB i) (bitsAt l i) (bitsB b) (dataAt b l i) = true from decide_eq_true ⟨hf, rfl, rfl, rfl, rfl, rfl, rfl⟩] at hc
  have hnum := fun w => numbers_any b l i 1 (1 + l) (nodeB i) (bitsAt l i) (bitsB b) (dataAt b l i) w
  have hget := nine_get b l i 1 (1 + l) (nodeB i) (bitsAt l i) (bitsB b) (dataAt b l i)
  have hfour := hf.four
  have HL : Hid (∀ n : Nat → Int, blk (layF nought 0 8 magicF) = blk (supK n 8)) := fun n => by rw [sup_lay n]
  have z25 := zero25
  unfold layV superF
  change ∀ k, k < 9 → (lay9 b l i 1 (1 + l) (nodeB i) (bitsAt l i) (bitsB b) (dataAt b l i))[k]? = some (.int .i64 (nineG b l i k)) at hget
  generalize nineG b l i = n at *
  have e1 : ∀ (w : World), (w.alloc (.cells (lay9 b l i 1 (1 + l) (nodeB i) (bitsAt l i) (bitsB b) (dataAt b l i)) 52)).heap[w.heap.size]? = some (.cells (lay9 b l i 1 (1 + l) (nodeB i) (bitsAt l i) (bitsB b) (dataAt b l i)) 52) := fun w => heap_alloc_new _ _
  have hsz : (lay9 b l i 1 (1 + l) (nodeB i) (bitsAt l i) (bitsB b) (dataAt b l i)).size = 9 := rfl
  generalize lay9 b l i 1 (1 + l) (nodeB i) (bitsAt l i) (bitsB b) (dataAt b l i) = L at *
  clear hf
  have HG : Hid _ := hget
  have H4 : Hid _ := hfour
  clear hget hfour
  go_enter Tryz.func62, Tryz.ntmps62
  go_wp2_with (first | refine wpList_loadL rfl _ rfl _ rfl _ hsz (heap_alloc2_old _ _ _) ?_ | (go_at_call 101; fail))
  refine (hc _).mono ?_
  rintro e' W1 ⟨rfl, hb1⟩
  have h1 := heap_kept (heap_alloc2_old w (.cells L 52) (.cells (blk nought) 79)) hb1
  have h2 := heap_kept (heap_alloc2_new w (.cells L 52) (.cells (blk nought) 79)) hb1
  have HB1 : Hid (Below w.heap.size w W1) := below_next (bel_al (below_new _ _) _) hb1
  clear hb1 hc e1
  have hconv := Lib.run_convert_bytes_const (P := Tryz.prog) W1 157 5 magicA 8 8 Tryz.underlying157 Tryz.underlying5
  unfold magicA at hconv
  go_wp2_with (first | (go_at_call 102; fail))
  have hlies : Lies (W1.alloc (.cells magicA 5 (magicA.size, magicA.size + 1))) (.slice (some ⟨W1.heap.size, 0, none⟩) 8 8) 8 magicF :=
    .inr ⟨_, 0, 8, rfl, by unfold maxLen; omega, by omega, by simp, fun i hi => by
      rw [World.cell?_alloc_mark]
      match i, hi with
      | 0, _ => rfl
      | 1, _ => rfl
      | 2, _ => rfl
      | 3, _ => rfl
      | 4, _ => rfl
      | 5, _ => rfl
      | 6, _ => rfl
      | 7, _ => rfl⟩
  refine (lay_any nought 0 _ 8 magicF _ (by omega) hlies).mono ?_
  rintro e' W2 ⟨rfl, hb2⟩
  have h3 := heap_kept (heap_kept h1 (below_new _ _)) hb2
  have h4 := heap_kept (heap_kept h2 (below_new _ _)) hb2
  have HB2 : Hid (Below w.heap.size w W2) := below_next (below_next HB1.out (below_new _ _)) hb2
  rw [HL.out n]
  clear hlies hb2 hconv h1 h2 HB1
  go_wp2_with (first | refine wpList_store25_new rfl _ _ rfl _ _ rfl rfl ?_ | refine wpList_loadL rfl _ rfl _ rfl _ hsz (heap_kept h3 (below_new _ _)) ?_ | (go_at_call 103; fail))
  refine (hnum _).mono ?_
  rintro e' W3 ⟨rfl, hb3⟩
  have h5 := heap_kept (heap_alloc_new W2 (.cells (blk (supK n 8)) 79)) hb3
  have HB3 : Hid (Below W2.heap.size W2 W3) := below_next (below_new _ _) hb3
  clear hb3 hnum h3
  go_wp2
  go_loopw [17] (fun s17 wx => ∃ k : Nat, k ≤ 9 ∧ s17 = .int .i64 k ∧ wx.heap[W2.heap.size]? = some (.cells (blk (supK n (8 + 4 * k))) 79) ∧ Below W2.heap.size W2 wx) (fun s17 _ => 9 - (intOf s17).toNat)
  case atStart => exact ⟨0, by omega, rfl, h5, HB3.out⟩
  case round =>
    obtain ⟨k, hk, rfl, hg, hbel⟩ := hrel
    have HB : Hid _ := hbel
    clear hbel h5 HB3
    by_cases hk9 : (k : Int) < 9
    · have hgk := HG.out k (by omega)
      have h4k := H4.out k
      have hst := fun (w : World) => set32_any (supK n (8 + 4 * k)) (8 + 4 * (k : Int)) (n k) w h4k
      have hpl := fun (w : World) => place_any k w (by omega)
      rw [show (8 + 4 * (k : Int)) = ((8 + 4 * k : Nat) : Int) by omega, put_in _ _ _ _ (by omega), supK_put n k (by omega)] at hst
      have HST : Hid _ := hst
      have HPL : Hid _ := hpl
      generalize n k = x at *
      have hwr : IntKind.u32.wrap x = x := by rw [wrap_u32]; omega
      clear hst hpl
      have hidx := idx48 L k (by omega) x hgk
      have hx0 := h4k.1
      have hx1 := h4k.2
      go_wp2
      refine wp_region_fork (S := fun _ => True) [1, 3, 4] 0 2 [(5, false), (6, false)] (by kernel_rfl) rfl (by kernel_rfl) (fun d _ _ _ _ h => by cases d <;> exact h) trivial ?_
      refine wpFork_yield (v := .int .i64 (k : Int)) rfl rfl (fun u _ => by simp [execOp, Act.eval]) ?_
      simp only [Act.put, List.setIfInBounds_toArray, List.set_cons_succ, List.set_cons_zero]
      refine wpFork_yield (v := .int .i64 x) rfl rfl (fun u _ => by simp [execOp, Act.eval]) ?_
      simp only [Act.put, List.setIfInBounds_toArray, List.set_cons_succ, List.set_cons_zero]
      refine wpFork_yield (v := .int .u32 x) rfl rfl (fun u _ => by go_simp) ?_
      simp only [Act.put, List.setIfInBounds_toArray, List.set_cons_succ, List.set_cons_zero]
      have hg0 : wr.drew.heap[W2.heap.size]? = some (.cells (blk (supK n (8 + 4 * k))) 79) := hg
      have HBd : Hid (Below W2.heap.size W2 wr.drew) := HB.out.drew
      clear hg HB
      generalize wr.drew = wd at *
      refine wpFork_nil rfl rfl ?_ ?_
      · simp only [inOrd, List.getElem?_cons_zero, List.getElem?_cons_succ]
        refine wpOrd_loadF rfl _ rfl _ rfl _ hg0 ⟨trivial, ?_⟩
        simp only [Act.put, List.setIfInBounds_toArray, List.set_cons_succ, List.set_cons_zero]
        refine wpOrd_call rfl 104 _ _ rfl Tryz.call104 [.int .i64 (k : Int)] rfl ?_
        refine (HPL.out _).mono ?_
        rintro e' X ⟨rfl, rfl⟩
        refine ⟨_, rfl, trivial, ?_⟩
        simp only [Act.put, List.setIfInBounds_toArray, List.set_cons_succ, List.set_cons_zero]
        refine wpOrd_call rfl 95 _ _ rfl Tryz.call95 [.agg (blk (supK n (8 + 4 * k))), .int .i64 (8 + 4 * (k : Int)), .int .u32 x] rfl ?_
        refine (HST.out _).mono ?_
        rintro e' X ⟨rfl, hbx⟩
        refine ⟨_, rfl, trivial, ?_⟩
        simp only [Act.put, List.setIfInBounds_toArray, List.set_cons_succ, List.set_cons_zero]
        have hg1 := heap_kept hg0 hbx
        have HB1 : Hid (Below W2.heap.size W2 X) := below_next HBd.out hbx
        refine wpOrd_storeB rfl _ _ rfl W2.heap.size (supK n (8 + 4 * (k + 1))) _ rfl rfl hg1 ⟨trivial, ?_⟩
        refine wpOrd_nil ?_
        have hg2 := setRow_heap X W2.heap.size (blk (supK n (8 + 4 * k))) (blk (supK n (8 + 4 * (k + 1)))) 79 (0, 0) hg1
        have HB2' : Hid (Below W2.heap.size W2 (X.setRow W2.heap.size (blk (supK n (8 + 4 * (k + 1)))))) := below_setRow HB1.out (Nat.le_refl _) _
        simp only [Act.put]
        generalize X.setRow W2.heap.size (blk (supK n (8 + 4 * (k + 1)))) = Y at hg2 HB2' ⊢
        clear hg1 hg0 HB1 HBd hbx HST HPL
        go_wp2
        exact ⟨⟨k + 1, by omega, by go_num, hg2, HB2'.out⟩, by simp [intOf]; omega⟩
      · simp only [inOrd, List.getElem?_cons_zero, List.getElem?_cons_succ]
        refine wpOrd_call rfl 104 _ _ rfl Tryz.call104 [.int .i64 (k : Int)] rfl ?_
        refine (HPL.out _).mono ?_
        rintro e' X ⟨rfl, rfl⟩
        refine ⟨_, rfl, trivial, ?_⟩
        simp only [Act.put, List.setIfInBounds_toArray, List.set_cons_succ, List.set_cons_zero]
        refine wpOrd_loadF rfl _ rfl _ rfl _ hg0 ⟨trivial, ?_⟩
        simp only [Act.put, List.setIfInBounds_toArray, List.set_cons_succ, List.set_cons_zero]
        refine wpOrd_call rfl 95 _ _ rfl Tryz.call95 [.agg (blk (supK n (8 + 4 * k))), .int .i64 (8 + 4 * (k : Int)), .int .u32 x] rfl ?_
        refine (HST.out _).mono ?_
        rintro e' X ⟨rfl, hbx⟩
        refine ⟨_, rfl, trivial, ?_⟩
        simp only [Act.put, List.setIfInBounds_toArray, List.set_cons_succ, List.set_cons_zero]
        have hg1 := heap_kept hg0 hbx
        have HB1 : Hid (Below W2.heap.size W2 X) := below_next HBd.out hbx
        refine wpOrd_storeB rfl _ _ rfl W2.heap.size (supK n (8 + 4 * (k + 1))) _ rfl rfl hg1 ⟨trivial, ?_⟩
        refine wpOrd_nil ?_
        have hg2 := setRow_heap X W2.heap.size (blk (supK n (8 + 4 * k))) (blk (supK n (8 + 4 * (k + 1)))) 79 (0, 0) hg1
        have HB2' : Hid (Below W2.heap.size W2 (X.setRow W2.heap.size (blk (supK n (8 + 4 * (k + 1)))))) := below_setRow HB1.out (Nat.le_refl _) _
        simp only [Act.put]
        generalize X.setRow W2.heap.size (blk (supK n (8 + 4 * (k + 1)))) = Y at hg2 HB2' ⊢
        clear hg1 hg0 HB1 HBd hbx HST HPL
        go_wp2
        exact ⟨⟨k + 1, by omega, by go_num, hg2, HB2'.out⟩, by simp [intOf]; omega⟩
    · obtain rfl : k = 9 := by omega
      rw [show 8 + 4 * 9 = 44 by omega, supK_all] at hg
      have h4' := (HB.out.block _ (Array.getElem?_eq_some_iff.1 h4).1).trans h4
      clear hk HG H4
      go_wp2_with (first | refine wpList_load25 rfl _ rfl _ rfl _ hg ?_ | refine wpList_store25 rfl _ _ rfl _ _ rfl rfl _ h4' ?_)
      exact retCT rfl (w.heap.size + 1) _ rfl (load35L _ _ _ (setRow_heap _ _ _ _ _ _ h4')) rfl ⟨rfl, below_setRow (below_next HB2.out HB.out) (by omega) _⟩
end Go.Proofs.YtlcdpmjdnihocaaGreatP
