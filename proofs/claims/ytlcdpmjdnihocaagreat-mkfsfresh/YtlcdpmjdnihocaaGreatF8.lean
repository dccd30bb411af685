/- Several texts joined, each with its own remark; no condition. -/
import Derived.Test.YtlcdpmjdnihocaaGreatF7
import Derived.BigQuiet
import Derived.Laws.ResultCell
/- Two blocks held against each other: equal just where every byte is; for every two blocks. -/
namespace Go.Proofs.YtlcdpmjdnihocaaGreatP
open Go.RowKit

end Go.Proofs.YtlcdpmjdnihocaaGreatP
/- Regions whose order is drawn and whose calls make memory but turn none that was there: one walk in the text's order serves every order. -/
namespace Go.Proofs.YtlcdpmjdnihocaaGreatP
open Go.RowKit

theorem wpList_store25_new {ops : Array Oper} {rest : List Oper} {o : Oper} {a : Act} {w : World} {Q : Exit → Act → World → Prop} (hgd : o.guard = none) (x y : Operand) (ho : o.op = .store 79 x y)
    (f f0 : Nat → Int) (hx : a.eval x = .pointer (some ⟨w.heap.size, 0, none⟩)) (hy : a.eval y = .agg (blk f))
    (h : wpList Tryz.prog ops Q rest (a.put o.dst undef) (w.alloc (.cells (blk f) 79))) : wpList Tryz.prog ops Q (o :: rest) a (w.alloc (.cells (blk f0) 79)) :=
  wpList_store25 hgd x y ho w.heap.size f hx hy f0 (heap_alloc_new _ _) (by rw [World.setRow_alloc_new]; exact h)
end Go.Proofs.YtlcdpmjdnihocaaGreatP
/- The law's own function block: a block that begins with the bytes of a slice; its bytes lie in memory below. -/
namespace Go.Proofs.YtlcdpmjdnihocaaGreatP
open Go.RowKit

def Lies (w : World) (v : Value) (n : Nat) (f : Nat → Int) : Prop :=
  (∃ a cap, v = .slice a 0 cap ∧ n = 0 ∧ (a = none → cap = 0)) ∨ ∃ b off cap, v = .slice (some ⟨b, off, none⟩) n cap ∧ n ≤ maxLen ∧ n ≤ cap ∧ b < w.heap.size ∧ ∀ i, i < n → w.cell? ⟨b, off + i, none⟩ = some (.int .u8 (f i))
end Go.Proofs.YtlcdpmjdnihocaaGreatP
/- U16 and U32 of slab: the number of the bytes at a place, or nought; for every block of bytes and every place. -/
namespace Go.Proofs.YtlcdpmjdnihocaaGreatP
open Go.RowKit

theorem ret_int {k : IntKind} {a b : Int} (h : a = b) : Ending.returned (.int k a) = .returned (.int k b) := by rw [h]

end Go.Proofs.YtlcdpmjdnihocaaGreatP
/- Of of shape: the layout of a geometry, or none; for every geometry. -/
namespace Go.Proofs.YtlcdpmjdnihocaaGreatP
open Go.RowKit

theorem ret_bool {a b : Bool} (h : a = b) : Ending.returned (.bool a) = .returned (.bool b) := by rw [h]
/-- A result of two: a row in a cell, and a value. -/
theorem retCT {fn : Func} {p u : Tmp} {ty : TypeId} {R : Ending → World → Prop} {a : Act} {w : World} (h : fn.results = #[.cell p ty, .tmp u]) (g : Nat) (cs : Array Value)
    (hp : a.tmps.getD p undef = .pointer (some ⟨g, 0, none⟩)) (hl : (loadVar ty ⟨g, 0, none⟩).run Tryz.prog w = .ok (.agg cs) w)
    (hdf : a.defers = []) (hR : R (.returned (.tuple #[.agg cs, a.tmps.getD u undef])) w) : bodyPost Tryz.prog fn R .ret a w := by
  refine bodyPost_ret ?_ hdf hR
  rw [results_cell_tmp h]
  rw [hp]
  simp [asAddr, hl]

theorem load25L (w : World) (g : Nat) (cs : Array Value) (h : w.heap[g]? = some (.cells cs 52)) (hs : cs.size = 9) : (loadVar 52 ⟨g, 0, none⟩).run Tryz.prog w = .ok (.agg cs) w :=
  run_loadVar_row w g 52 52 cs (0, 0) _ h Tryz.underlying52 rfl (by rw [hs]; kernel_rfl)
theorem size25L : (Tryz.prog.info? 52).map (·.size) = some 9 := by kernel_rfl
theorem bounded_any (b l i : Int) (w : World) :
    Calls Tryz.prog 91 #[geoV b l i] w fun e w' => e = .returned (.bool (bndB b l i)) ∧ w' = w.alloc (.cells #[.int .i64 b, .int .i64 l, .int .i64 i] 26) := by
  unfold geoV
  by_cases h0 : 32 ≤ l
  · by_cases h1 : l ≤ 256
    · by_cases h2 : 1 ≤ i
      · by_cases h3 : i ≤ 65535
        · by_cases h4 : b ≤ 1048576
          · go_enter Tryz.func91, Tryz.ntmps91
            go_wp2
            go_ret
            exact ⟨ret_bool (show true = bndB b l i from (decide_eq_true (by omega)).symm), rfl⟩
          · go_enter Tryz.func91, Tryz.ntmps91
            go_wp2
            go_ret
            exact ⟨ret_bool (show false = bndB b l i from (decide_eq_false (by omega)).symm), rfl⟩
        · go_enter Tryz.func91, Tryz.ntmps91
          go_wp2
          go_ret
          exact ⟨ret_bool (show false = bndB b l i from (decide_eq_false (by omega)).symm), rfl⟩
      · go_enter Tryz.func91, Tryz.ntmps91
        go_wp2
        go_ret
        exact ⟨ret_bool (show false = bndB b l i from (decide_eq_false (by omega)).symm), rfl⟩
    · go_enter Tryz.func91, Tryz.ntmps91
      go_wp2
      go_ret
      exact ⟨ret_bool (show false = bndB b l i from (decide_eq_false (by omega)).symm), rfl⟩
  · go_enter Tryz.func91, Tryz.ntmps91
    go_wp2
    go_ret
    exact ⟨ret_bool (show false = bndB b l i from (decide_eq_false (by omega)).symm), rfl⟩

theorem bel_al {w u : World} (h : Below w.heap.size w u) (o : Obj) : Below w.heap.size w (u.alloc o) := h.alloc h.size o
theorem heap3 (w : World) (A B C : Obj) : (((w.alloc A).alloc B).alloc C).heap[w.heap.size + 1]? = some B := by
  rw [heap_alloc_old _ _ (by simp)]; exact heap_alloc2_new _ _ _
theorem heap4 (w : World) (A B C D : Obj) : ((((w.alloc A).alloc B).alloc C).alloc D).heap[w.heap.size + 1]? = some B := by
  rw [heap_alloc_old _ _ (by simp)]; exact heap3 _ _ _ _

set_option maxRecDepth 20000 in
set_option maxHeartbeats 400000 in
theorem of_out (b l i : Int) (w : World) (h : ¬ (32 ≤ l ∧ l ≤ 256 ∧ 1 ≤ i ∧ i ≤ 65535 ∧ b ≤ 1048576)) :
    Calls Tryz.prog 58 #[geoV b l i] w fun e w' => e = .returned (.tuple #[layZ, .int .i64 2]) ∧ Below w.heap.size w w' := by
  have hc := fun w => bounded_any b l i w
  rw [show bndB b l i = false from decide_eq_false h] at hc
  clear h
  unfold geoV at *
  go_enter Tryz.func58, Tryz.ntmps58
  go_wp2_with (first | (go_at_call 91; refine (hc _).mono ?_; rintro e w' ⟨rfl, rfl⟩))
  refine retCT rfl (w.heap.size + 1) _ rfl (load25L _ _ _ (heap3 _ _ _ _) rfl) rfl ⟨rfl, ?_⟩
  repeat refine bel_al ?_ _
  exact Below.refl _ _

set_option maxRecDepth 20000 in
set_option maxHeartbeats 400000 in
theorem of_fine (b l i : Int) (w : World) (h : 32 ≤ l ∧ l ≤ 256 ∧ 1 ≤ i ∧ i ≤ 65535 ∧ b ≤ 1048576) (h0 : 1 ≤ b) (hd : dataAt b l i < b) :
    Calls Tryz.prog 58 #[geoV b l i] w fun e w' => e = .returned (.tuple #[layV b l i, .int .i64 0]) ∧ Below w.heap.size w w' := by
  have hc := fun w => bounded_any b l i w
  rw [show bndB b l i = true from decide_eq_true h] at hc
  have hd' : ¬ b ≤ 1 + l + (i + 16) / 16 + (b + 8192 - 1) / 8192 := by unfold dataAt bitsAt nodeB bitsB at hd; omega
  have HL : Hid (lay9 b l i 1 (1 + l) ((i + 16) / 16) (1 + l + (i + 16) / 16) ((b + 8192 - 1) / 8192) (1 + l + (i + 16) / 16 + (b + 8192 - 1) / 8192) = lay9 b l i 1 (1 + l) (nodeB i) (bitsAt l i) (bitsB b) (dataAt b l i)) := by
    show _ = _
    unfold dataAt bitsAt nodeB bitsB
    rw [show b + 8192 - 1 = b + 8191 by omega]
  clear hd
  obtain ⟨h1, h2, h3, h4, h5⟩ := h
  unfold geoV at *
  go_enter Tryz.func58, Tryz.ntmps58
  go_wp2_with (first | (go_at_call 91; refine (hc _).mono ?_; rintro e w' ⟨rfl, rfl⟩))
  refine retCT rfl (w.heap.size + 1) _ rfl (load25L _ _ _ (heap4 _ _ _ _ _) rfl) rfl ⟨?_, ?_⟩
  · exact congrArg (fun x => Ending.returned (.tuple #[.agg x, .int .i64 0])) HL.out
  repeat refine bel_al ?_ _
  exact Below.refl _ _

set_option maxRecDepth 20000 in
set_option maxHeartbeats 400000 in
theorem of_full (b l i : Int) (w : World) (h : 32 ≤ l ∧ l ≤ 256 ∧ 1 ≤ i ∧ i ≤ 65535 ∧ b ≤ 1048576) (h0 : 1 ≤ b) (hd : b ≤ dataAt b l i) :
    Calls Tryz.prog 58 #[geoV b l i] w fun e w' => e = .returned (.tuple #[layZ, .int .i64 2]) ∧ Below w.heap.size w w' := by
  have hc := fun w => bounded_any b l i w
  rw [show bndB b l i = true from decide_eq_true h] at hc
  have hd' : b ≤ 1 + l + (i + 16) / 16 + (b + 8192 - 1) / 8192 := by unfold dataAt bitsAt nodeB bitsB at hd; omega
  clear hd
  obtain ⟨h1, h2, h3, h4, h5⟩ := h
  unfold geoV at *
  go_enter Tryz.func58, Tryz.ntmps58
  go_wp2_with (first | (go_at_call 91; refine (hc _).mono ?_; rintro e w' ⟨rfl, rfl⟩))
  refine retCT rfl (w.heap.size + 1) _ rfl (load25L _ _ _ (heap4 _ _ _ _ _) rfl) rfl ⟨rfl, ?_⟩
  repeat refine bel_al ?_ _
  exact Below.refl _ _

theorem tdiv_neg (b : Int) (h : b ≤ 0) : b ≤ (b + 8192 - 1).tdiv 8192 ∧ (b + 8192 - 1).tdiv 8192 ≤ 0 := by
  rw [Int.tdiv_eq_ediv]
  split
  · omega
  · rw [show Int.sign 8192 = 1 by rfl]; omega
set_option maxRecDepth 20000 in
set_option maxHeartbeats 400000 in
theorem of_neg (b l i : Int) (w : World) (h : 32 ≤ l ∧ l ≤ 256 ∧ 1 ≤ i ∧ i ≤ 65535 ∧ b ≤ 1048576) (h0 : b ≤ 0) (hb : -9223372036854775808 ≤ b) :
    Calls Tryz.prog 58 #[geoV b l i] w fun e w' => e = .returned (.tuple #[layZ, .int .i64 2]) ∧ Below w.heap.size w w' := by
  have hc := fun w => bounded_any b l i w
  rw [show bndB b l i = true from decide_eq_true h] at hc
  have ht := tdiv_neg b h0
  obtain ⟨h1, h2, h3, h4, h5⟩ := h
  have hw : b ≤ wrap64 (1 + l + (i + 16) / 16 + (b + 8192 - 1).tdiv 8192) := by
    generalize (b + 8192 - 1).tdiv 8192 = t at ht
    unfold wrap64; omega
  have e1 : wrap64 (b + 8192) = b + 8192 := by unfold wrap64; omega
  clear ht
  unfold geoV at *
  go_enter Tryz.func58, Tryz.ntmps58
  go_wp2_with (first | (go_at_call 91; refine (hc _).mono ?_; rintro e w' ⟨rfl, rfl⟩))
  refine retCT rfl (w.heap.size + 1) _ rfl (load25L _ _ _ (heap4 _ _ _ _ _) rfl) rfl ⟨rfl, ?_⟩
  repeat refine bel_al ?_ _
  exact Below.refl _ _

theorem of_any (b l i : Int) (w : World) (hb : I64 b) :
    Calls Tryz.prog 58 #[geoV b l i] w fun e w' => e = .returned (.tuple #[ofV b l i, .int .i64 (ofE b l i)]) ∧ Below w.heap.size w w' := by
  unfold ofV ofE
  by_cases h : 32 ≤ l ∧ l ≤ 256 ∧ 1 ≤ i ∧ i ≤ 65535 ∧ b ≤ 1048576
  · by_cases h0 : 1 ≤ b
    · by_cases h1 : dataAt b l i < b
      · have hf : Fine b l i := ⟨h.1, h.2.1, h.2.2.1, h.2.2.2.1, h.2.2.2.2, h1⟩
        rw [if_pos hf, if_pos hf]
        exact of_fine b l i w h h0 h1
      · have hf : ¬ Fine b l i := fun q => h1 q.2.2.2.2.2
        rw [if_neg hf, if_neg hf]
        exact of_full b l i w h h0 (by omega)
    · have hf : ¬ Fine b l i := fun q => by have := q.pos; omega
      rw [if_neg hf, if_neg hf]
      exact of_neg b l i w h (by omega) hb.1
  · have hf : ¬ Fine b l i := fun q => h ⟨q.1, q.2.1, q.2.2.1, q.2.2.2.1, q.2.2.2.2.1⟩
    rw [if_neg hf, if_neg hf]
    exact of_out b l i w h
end Go.Proofs.YtlcdpmjdnihocaaGreatP
/- The document's Of: the layout of a geometry, or none; for every geometry. -/
namespace Go.Proofs.YtlcdpmjdnihocaaGreatP
open Go.RowKit

/-- The number in a cell. -/
def cellN (w : World) (g off : Nat) : Nat := (intOf ((w.cell? ⟨g, off, none⟩).getD undef)).toNat
theorem cellN_of {w : World} {g off : Nat} {t : TypeId} {cs : Array Value} {x : Int} (h : w.heap[g]? = some (.cells cs t)) (hx : cs[off]? = some (.int .i64 x)) : cellN w g off = x.toNat := by
  unfold cellN
  rw [cell_of_row w g off _ t _ h, hx]
  rfl
theorem heap3n (w : World) (A B C : Obj) : (((w.alloc A).alloc B).alloc C).heap[w.heap.size + 2]? = some C := by
  have h := heap_alloc_new ((w.alloc A).alloc B) C
  have e : ((w.alloc A).alloc B).heap.size = w.heap.size + 2 := by simp
  rwa [e] at h
set_option maxRecDepth 20000 in
set_option maxHeartbeats 400000 in
theorem refOf_out (b l i : Int) (w : World) (h : ¬ (32 ≤ l ∧ l ≤ 256 ∧ 1 ≤ i ∧ i ≤ 65535 ∧ b ≤ 1048576 ∧ 1 ≤ b)) :
    Calls Tryz.prog 27 #[geoV b l i] w fun e w' => e = .returned (.tuple #[layZ, .int .i64 2]) ∧ Below w.heap.size w w' := by
  unfold geoV at *
  have fin : Below w.heap.size w ((w.alloc (.cells #[.int .i64 b, .int .i64 l, .int .i64 i] 26)).alloc (.cells (lay9 0 0 0 0 0 0 0 0 0) 52)) := bel_al (bel_al (Below.refl _ _) _) _
  have HF : Hid _ := fin
  clear fin
  by_cases h0 : l < 32
  · clear h
    go_enter Tryz.func27, Tryz.ntmps27
    go_wp2
    exact retCT rfl (w.heap.size + 1) _ rfl (load25L _ _ _ (heap_alloc2_new _ _ _) rfl) rfl ⟨rfl, HF.out⟩
  · by_cases h1 : 256 < l
    · clear h
      go_enter Tryz.func27, Tryz.ntmps27
      go_wp2
      exact retCT rfl (w.heap.size + 1) _ rfl (load25L _ _ _ (heap_alloc2_new _ _ _) rfl) rfl ⟨rfl, HF.out⟩
    · by_cases h2 : i < 1
      · clear h
        go_enter Tryz.func27, Tryz.ntmps27
        go_wp2
        exact retCT rfl (w.heap.size + 1) _ rfl (load25L _ _ _ (heap_alloc2_new _ _ _) rfl) rfl ⟨rfl, HF.out⟩
      · by_cases h3 : 65535 < i
        · clear h
          go_enter Tryz.func27, Tryz.ntmps27
          go_wp2
          exact retCT rfl (w.heap.size + 1) _ rfl (load25L _ _ _ (heap_alloc2_new _ _ _) rfl) rfl ⟨rfl, HF.out⟩
        · by_cases h4 : 1048576 < b
          · clear h
            go_enter Tryz.func27, Tryz.ntmps27
            go_wp2
            exact retCT rfl (w.heap.size + 1) _ rfl (load25L _ _ _ (heap_alloc2_new _ _ _) rfl) rfl ⟨rfl, HF.out⟩
          · have h5 : b < 1 := by omega
            clear h
            go_enter Tryz.func27, Tryz.ntmps27
            go_wp2
            exact retCT rfl (w.heap.size + 1) _ rfl (load25L _ _ _ (heap_alloc2_new _ _ _) rfl) rfl ⟨rfl, HF.out⟩

set_option maxRecDepth 20000 in
set_option maxHeartbeats 400000 in
theorem refOf_in (b l i : Int) (w : World) (h : 32 ≤ l ∧ l ≤ 256 ∧ 1 ≤ i ∧ i ≤ 65535 ∧ b ≤ 1048576 ∧ 1 ≤ b) :
    Calls Tryz.prog 27 #[geoV b l i] w fun e w' => e = .returned (.tuple #[ofV b l i, .int .i64 (ofE b l i)]) ∧ Below w.heap.size w w' := by
  obtain ⟨h1, h2, h3, h4, h5, h6⟩ := h
  unfold geoV at *
  go_enter Tryz.func27, Tryz.ntmps27
  go_wp2
  go_loopw [] (fun wx => ∃ k : Nat, k ≤ 5000 ∧ 16 * ((k : Int) - 1) < i + 1 ∧ wx = ((w.alloc (.cells #[.int .i64 b, .int .i64 l, .int .i64 i] 26)).alloc (.cells (lay9 0 0 0 0 0 0 0 0 0) 52)).alloc (.cells (lay9 b l i 1 (1 + l) k 0 0 0) 52)) (fun wx => 5000 - cellN wx (w.heap.size + 2) 5)
  case atStart => exact ⟨0, by omega, by omega, rfl⟩
  case round =>
    obtain ⟨k, hk1, hk2, rfl⟩ := hrel
    unfold lay9 at *
    by_cases hk : 16 * (k : Int) < i + 1
    · go_wp2
      refine ⟨⟨k + 1, by omega, by omega, ?_⟩, ?_⟩
      · simp
      · rw [cellN_of (heap3n _ _ _ _) rfl, cellN_of (heap3n _ _ _ _) rfl]; omega
    · have hkn : (k : Int) = nodeB i := by unfold nodeB; omega
      have HK : Hid ((k : Int) = nodeB i) := hkn
      clear hkn
      have hkb : (k : Int) ≤ 5000 := by omega
      go_wp2
      go_loopw [] (fun wx => ∃ m : Nat, m ≤ 200 ∧ 8192 * ((m : Int) - 1) < b ∧ wx = ((w.alloc (.cells #[.int .i64 b, .int .i64 l, .int .i64 i] 26)).alloc (.cells (lay9 0 0 0 0 0 0 0 0 0) 52)).alloc (.cells (lay9 b l i 1 (1 + l) k (1 + l + k) m 0) 52)) (fun wx => 200 - cellN wx (w.heap.size + 2) 7)
      case atStart => exact ⟨0, by omega, by omega, rfl⟩
      case round =>
        obtain ⟨m, hm1, hm2, rfl⟩ := hrel
        unfold lay9 at *
        by_cases hm : 8192 * (m : Int) < b
        · go_wp2
          refine ⟨⟨m + 1, by omega, by omega, ?_⟩, ?_⟩
          · simp
          · rw [cellN_of (heap3n _ _ _ _) rfl, cellN_of (heap3n _ _ _ _) rfl]; omega
        · have HM : Hid ((m : Int) = bitsB b) := by show _ = _; unfold bitsB; omega
          have hmb : (m : Int) ≤ 200 := by omega
          by_cases hd : b ≤ 1 + l + k + m
          · have hf : ¬ Fine b l i := fun q => by
              have q1 := q.2.2.2.2.2
              have q2 := HK.out
              have q3 := HM.out
              unfold dataAt bitsAt at q1
              omega
            have HE : Hid (Ending.returned (.tuple #[layZ, .int .i64 2]) = .returned (.tuple #[ofV b l i, .int .i64 (ofE b l i)])) := by
              show _ = _
              rw [show ofV b l i = layZ from if_neg hf, show ofE b l i = 2 from if_neg hf]
            clear hf
            go_wp2
            refine retCT rfl (w.heap.size + 1) _ rfl (load25L _ _ _ (heap3 _ _ _ _) rfl) rfl ⟨HE.out, ?_⟩
            repeat refine bel_al ?_ _
            exact Below.refl _ _
          · have hf : Fine b l i := ⟨h1, h2, h3, h4, h5, by
              have q2 := HK.out
              have q3 := HM.out
              unfold dataAt bitsAt
              omega⟩
            have HE : Hid (Ending.returned (.tuple #[layV b l i, .int .i64 0]) = .returned (.tuple #[ofV b l i, .int .i64 (ofE b l i)])) := by
              show _ = _
              rw [show ofV b l i = layV b l i from if_pos hf, show ofE b l i = 0 from if_pos hf]
            have HL : Hid (lay9 b l i 1 (1 + l) k (1 + l + k) m (1 + l + k + m) = lay9 b l i 1 (1 + l) (nodeB i) (bitsAt l i) (bitsB b) (dataAt b l i)) := by
              show _ = _
              unfold dataAt bitsAt
              rw [HK.out, HM.out]
            clear hf
            go_wp2
            refine retCT rfl (w.heap.size + 1) _ rfl (load25L _ _ _ (heap3 _ _ _ _) rfl) rfl ⟨?_, ?_⟩
            · exact (congrArg (fun x => Ending.returned (.tuple #[.agg x, .int .i64 0])) HL.out).trans HE.out
            repeat refine bel_al ?_ _
            exact Below.refl _ _

theorem refOf_any (b l i : Int) (w : World) :
    Calls Tryz.prog 27 #[geoV b l i] w fun e w' => e = .returned (.tuple #[ofV b l i, .int .i64 (ofE b l i)]) ∧ Below w.heap.size w w' := by
  by_cases h : 32 ≤ l ∧ l ≤ 256 ∧ 1 ≤ i ∧ i ≤ 65535 ∧ b ≤ 1048576 ∧ 1 ≤ b
  · exact refOf_in b l i w h
  · have hf : ¬ Fine b l i := fun q => h ⟨q.1, q.2.1, q.2.2.1, q.2.2.2.1, q.2.2.2.2.1, by have := q.pos; omega⟩
    rw [show ofV b l i = layZ from if_neg hf, show ofE b l i = 2 from if_neg hf]
    exact refOf_out b l i w h
end Go.Proofs.YtlcdpmjdnihocaaGreatP
