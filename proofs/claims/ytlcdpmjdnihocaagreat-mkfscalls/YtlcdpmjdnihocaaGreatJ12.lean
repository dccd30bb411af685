/- Several texts joined, each with its own remark; no condition. -/
import Derived.Test.YtlcdpmjdnihocaaGreatJ11
import Derived.Laws.ResultCell
import Derived.Maps.AppendAt
import Derived.Maps.OwnOps
import Derived.Maps.OwnSet
import Derived.Deep.LoopGhost

/- Where the regions of a geometry lie, as plain numbers, and the values that stand for them; no condition. -/
namespace Go.Proofs.YtlcdpmjdnihocaaGreatH.H
open Go.RowKit

def nodeB (i : Int) : Int := (i + 16) / 16
def bitsB (b : Int) : Int := (b + 8191) / 8192
def bitsAt (l i : Int) : Int := 1 + l + nodeB i
def dataAt (b l i : Int) : Int := bitsAt l i + bitsB b
/-- Is there a layout of the geometry b, l, i? -/
abbrev Fine (b l i : Int) : Prop := 32 ≤ l ∧ l ≤ 256 ∧ 1 ≤ i ∧ i ≤ 65535 ∧ b ≤ 1048576 ∧ dataAt b l i < b
theorem Fine.pos {b l i : Int} (h : Fine b l i) : 23 ≤ b := by
  unfold Fine dataAt bitsAt nodeB bitsB at h; omega

/-- Is a geometry within its bounds? -/
def bndB (b l i : Int) : Bool := decide (32 ≤ l ∧ l ≤ 256 ∧ 1 ≤ i ∧ i ≤ 65535 ∧ b ≤ 1048576)

def geoV (b l i : Int) : Value := .agg #[.int .i64 b, .int .i64 l, .int .i64 i]
def lay9 (b l i a c d e f g : Int) : Array Value := #[.int .i64 b, .int .i64 l, .int .i64 i, .int .i64 a, .int .i64 c, .int .i64 d, .int .i64 e, .int .i64 f, .int .i64 g]
def layV (b l i : Int) : Value := .agg (lay9 b l i 1 (1 + l) (nodeB i) (bitsAt l i) (bitsB b) (dataAt b l i))
def layZ : Value := .agg (lay9 0 0 0 0 0 0 0 0 0)
/-- What Of answers. -/
def ofV (b l i : Int) : Value := if Fine b l i then layV b l i else layZ
def ofE (b l i : Int) : Int := if Fine b l i then 0 else 2
def I64 (x : Int) : Prop := -9223372036854775808 ≤ x ∧ x ≤ 9223372036854775807
end Go.Proofs.YtlcdpmjdnihocaaGreatH.H
/- Of of shape: the layout of a geometry, or none; for every geometry. -/
namespace Go.Proofs.YtlcdpmjdnihocaaGreatH.H
open Go.RowKit

theorem ret_bool {a b : Bool} (h : a = b) : Ending.returned (.bool a) = .returned (.bool b) := by rw [h]
/-- A result of two: a row in a cell, and a value. -/
theorem retCT {fn : Func} {p u : Tmp} {ty : TypeId} {R : Ending → World → Prop} {a : Act} {w : World} (h : fn.results = #[.cell p ty, .tmp u]) (g : Nat) (cs : Array Value)
    (hp : a.tmps.getD p undef = .pointer (some ⟨g, 0, none⟩)) (hl : (loadVar ty ⟨g, 0, none⟩).run Tryz.prog w = .ok (.agg cs) w)
    (hdf : a.defers = []) (hR : R (.returned (.tuple #[.agg cs, a.tmps.getD u undef])) w) : bodyPost Tryz.prog fn R .ret a w := by
  refine bodyPost_ret ?_ hdf hR
  rw [results_cell_tmp h]
  rw [hp]
  simp [asAddr, hl]

theorem load25L (w : World) (g : Nat) (cs : Array Value) (h : w.heap[g]? = some (.cells cs 52)) (hs : cs.size = 9) : (loadVar 52 ⟨g, 0, none⟩).run Tryz.prog w = .ok (.agg cs) w :=
  run_loadVar_row w g 52 52 cs (0, 0) _ h Tryz.underlying52 rfl (by rw [hs]; kernel_rfl)
theorem size25L : (Tryz.prog.info? 52).map (·.size) = some 9 := by kernel_rfl
theorem size23G : (Tryz.prog.info? 26).map (·.size) = some 3 := by kernel_rfl

theorem bounded_any (b l i : Int) (w : World) :
    Calls Tryz.prog 91 #[geoV b l i] w fun e w' => e = .returned (.bool (bndB b l i)) ∧ w' = w.alloc (.cells #[.int .i64 b, .int .i64 l, .int .i64 i] 26) := by
  unfold geoV
  by_cases h0 : 32 ≤ l
  · by_cases h1 : l ≤ 256
    · by_cases h2 : 1 ≤ i
      · by_cases h3 : i ≤ 65535
        · by_cases h4 : b ≤ 1048576
          · go_enter Tryz.func91, Tryz.ntmps91
            go_wp2
            go_ret
            exact ⟨ret_bool (show true = bndB b l i from (decide_eq_true (by omega)).symm), rfl⟩
          · go_enter Tryz.func91, Tryz.ntmps91
            go_wp2
            go_ret
            exact ⟨ret_bool (show false = bndB b l i from (decide_eq_false (by omega)).symm), rfl⟩
        · go_enter Tryz.func91, Tryz.ntmps91
          go_wp2
          go_ret
          exact ⟨ret_bool (show false = bndB b l i from (decide_eq_false (by omega)).symm), rfl⟩
      · go_enter Tryz.func91, Tryz.ntmps91
        go_wp2
        go_ret
        exact ⟨ret_bool (show false = bndB b l i from (decide_eq_false (by omega)).symm), rfl⟩
    · go_enter Tryz.func91, Tryz.ntmps91
      go_wp2
      go_ret
      exact ⟨ret_bool (show false = bndB b l i from (decide_eq_false (by omega)).symm), rfl⟩
  · go_enter Tryz.func91, Tryz.ntmps91
    go_wp2
    go_ret
    exact ⟨ret_bool (show false = bndB b l i from (decide_eq_false (by omega)).symm), rfl⟩

theorem bel_al {w u : World} (h : Below w.heap.size w u) (o : Obj) : Below w.heap.size w (u.alloc o) := h.alloc h.size o
theorem heap3 (w : World) (A B C : Obj) : (((w.alloc A).alloc B).alloc C).heap[w.heap.size + 1]? = some B := by
  rw [heap_alloc_old _ _ (by simp)]; exact heap_alloc2_new _ _ _
theorem heap4 (w : World) (A B C D : Obj) : ((((w.alloc A).alloc B).alloc C).alloc D).heap[w.heap.size + 1]? = some B := by
  rw [heap_alloc_old _ _ (by simp)]; exact heap3 _ _ _ _

set_option maxRecDepth 20000 in
set_option maxHeartbeats 400000 in
theorem of_out (b l i : Int) (w : World) (h : ¬ (32 ≤ l ∧ l ≤ 256 ∧ 1 ≤ i ∧ i ≤ 65535 ∧ b ≤ 1048576)) :
    Calls Tryz.prog 58 #[geoV b l i] w fun e w' => e = .returned (.tuple #[layZ, .int .i64 2]) ∧ Below w.heap.size w w' := by
  have hc := fun w => bounded_any b l i w
  rw [show bndB b l i = false from decide_eq_false h] at hc
  clear h
  unfold geoV at *
  go_enter Tryz.func58, Tryz.ntmps58
  go_wp2_with (first | (go_at_call 91; refine (hc _).mono ?_; rintro e w' ⟨rfl, rfl⟩))
  refine retCT rfl (w.heap.size + 1) _ rfl (load25L _ _ _ (heap3 _ _ _ _) rfl) rfl ⟨rfl, ?_⟩
  repeat refine bel_al ?_ _
  exact Below.refl _ _

set_option maxRecDepth 20000 in
set_option maxHeartbeats 400000 in
theorem of_fine (b l i : Int) (w : World) (h : 32 ≤ l ∧ l ≤ 256 ∧ 1 ≤ i ∧ i ≤ 65535 ∧ b ≤ 1048576) (h0 : 1 ≤ b) (hd : dataAt b l i < b) :
    Calls Tryz.prog 58 #[geoV b l i] w fun e w' => e = .returned (.tuple #[layV b l i, .int .i64 0]) ∧ Below w.heap.size w w' := by
  have hc := fun w => bounded_any b l i w
  rw [show bndB b l i = true from decide_eq_true h] at hc
  have hd' : ¬ b ≤ 1 + l + (i + 16) / 16 + (b + 8192 - 1) / 8192 := by unfold dataAt bitsAt nodeB bitsB at hd; omega
  have HL : Hid (lay9 b l i 1 (1 + l) ((i + 16) / 16) (1 + l + (i + 16) / 16) ((b + 8192 - 1) / 8192) (1 + l + (i + 16) / 16 + (b + 8192 - 1) / 8192) = lay9 b l i 1 (1 + l) (nodeB i) (bitsAt l i) (bitsB b) (dataAt b l i)) := by
    show _ = _
    unfold dataAt bitsAt nodeB bitsB
    rw [show b + 8192 - 1 = b + 8191 by omega]
  clear hd
  obtain ⟨h1, h2, h3, h4, h5⟩ := h
  unfold geoV at *
  go_enter Tryz.func58, Tryz.ntmps58
  go_wp2_with (first | (go_at_call 91; refine (hc _).mono ?_; rintro e w' ⟨rfl, rfl⟩))
  refine retCT rfl (w.heap.size + 1) _ rfl (load25L _ _ _ (heap4 _ _ _ _ _) rfl) rfl ⟨?_, ?_⟩
  · exact congrArg (fun x => Ending.returned (.tuple #[.agg x, .int .i64 0])) HL.out
  repeat refine bel_al ?_ _
  exact Below.refl _ _

set_option maxRecDepth 20000 in
set_option maxHeartbeats 400000 in
theorem of_full (b l i : Int) (w : World) (h : 32 ≤ l ∧ l ≤ 256 ∧ 1 ≤ i ∧ i ≤ 65535 ∧ b ≤ 1048576) (h0 : 1 ≤ b) (hd : b ≤ dataAt b l i) :
    Calls Tryz.prog 58 #[geoV b l i] w fun e w' => e = .returned (.tuple #[layZ, .int .i64 2]) ∧ Below w.heap.size w w' := by
  have hc := fun w => bounded_any b l i w
  rw [show bndB b l i = true from decide_eq_true h] at hc
  have hd' : b ≤ 1 + l + (i + 16) / 16 + (b + 8192 - 1) / 8192 := by unfold dataAt bitsAt nodeB bitsB at hd; omega
  clear hd
  obtain ⟨h1, h2, h3, h4, h5⟩ := h
  unfold geoV at *
  go_enter Tryz.func58, Tryz.ntmps58
  go_wp2_with (first | (go_at_call 91; refine (hc _).mono ?_; rintro e w' ⟨rfl, rfl⟩))
  refine retCT rfl (w.heap.size + 1) _ rfl (load25L _ _ _ (heap4 _ _ _ _ _) rfl) rfl ⟨rfl, ?_⟩
  repeat refine bel_al ?_ _
  exact Below.refl _ _

theorem tdiv_neg (b : Int) (h : b ≤ 0) : b ≤ (b + 8192 - 1).tdiv 8192 ∧ (b + 8192 - 1).tdiv 8192 ≤ 0 := by
  rw [Int.tdiv_eq_ediv]
  split
  · omega
  · rw [show Int.sign 8192 = 1 by rfl]; omega
set_option maxRecDepth 20000 in
set_option maxHeartbeats 400000 in
theorem of_neg (b l i : Int) (w : World) (h : 32 ≤ l ∧ l ≤ 256 ∧ 1 ≤ i ∧ i ≤ 65535 ∧ b ≤ 1048576) (h0 : b ≤ 0) (hb : -9223372036854775808 ≤ b) :
    Calls Tryz.prog 58 #[geoV b l i] w fun e w' => e = .returned (.tuple #[layZ, .int .i64 2]) ∧ Below w.heap.size w w' := by
  have hc := fun w => bounded_any b l i w
  rw [show bndB b l i = true from decide_eq_true h] at hc
  have ht := tdiv_neg b h0
  obtain ⟨h1, h2, h3, h4, h5⟩ := h
  have hw : b ≤ wrap64 (1 + l + (i + 16) / 16 + (b + 8192 - 1).tdiv 8192) := by
    generalize (b + 8192 - 1).tdiv 8192 = t at ht
    unfold wrap64; omega
  have e1 : wrap64 (b + 8192) = b + 8192 := by unfold wrap64; omega
  clear ht
  unfold geoV at *
  go_enter Tryz.func58, Tryz.ntmps58
  go_wp2_with (first | (go_at_call 91; refine (hc _).mono ?_; rintro e w' ⟨rfl, rfl⟩))
  refine retCT rfl (w.heap.size + 1) _ rfl (load25L _ _ _ (heap4 _ _ _ _ _) rfl) rfl ⟨rfl, ?_⟩
  repeat refine bel_al ?_ _
  exact Below.refl _ _

theorem of_any (b l i : Int) (w : World) (hb : I64 b) :
    Calls Tryz.prog 58 #[geoV b l i] w fun e w' => e = .returned (.tuple #[ofV b l i, .int .i64 (ofE b l i)]) ∧ Below w.heap.size w w' := by
  unfold ofV ofE
  by_cases h : 32 ≤ l ∧ l ≤ 256 ∧ 1 ≤ i ∧ i ≤ 65535 ∧ b ≤ 1048576
  · by_cases h0 : 1 ≤ b
    · by_cases h1 : dataAt b l i < b
      · have hf : Fine b l i := ⟨h.1, h.2.1, h.2.2.1, h.2.2.2.1, h.2.2.2.2, h1⟩
        rw [if_pos hf, if_pos hf]
        exact of_fine b l i w h h0 h1
      · have hf : ¬ Fine b l i := fun q => h1 q.2.2.2.2.2
        rw [if_neg hf, if_neg hf]
        exact of_full b l i w h h0 (by omega)
    · have hf : ¬ Fine b l i := fun q => by have := q.pos; omega
      rw [if_neg hf, if_neg hf]
      exact of_neg b l i w h (by omega) hb.1
  · have hf : ¬ Fine b l i := fun q => h ⟨q.1, q.2.1, q.2.2.1, q.2.2.2.1, q.2.2.2.2.1⟩
    rw [if_neg hf, if_neg hf]
    exact of_out b l i w h
end Go.Proofs.YtlcdpmjdnihocaaGreatH.H
/- The document's Of: the layout of a geometry, or none; for every geometry. -/
namespace Go.Proofs.YtlcdpmjdnihocaaGreatH.H
open Go.RowKit

/-- The number in a cell. -/
def cellN (w : World) (g off : Nat) : Nat := (intOf ((w.cell? ⟨g, off, none⟩).getD undef)).toNat
theorem cellN_of {w : World} {g off : Nat} {t : TypeId} {cs : Array Value} {x : Int} (h : w.heap[g]? = some (.cells cs t)) (hx : cs[off]? = some (.int .i64 x)) : cellN w g off = x.toNat := by
  unfold cellN
  rw [cell_of_row w g off _ t _ h, hx]
  rfl
theorem heap3n (w : World) (A B C : Obj) : (((w.alloc A).alloc B).alloc C).heap[w.heap.size + 2]? = some C := by
  have h := heap_alloc_new ((w.alloc A).alloc B) C
  have e : ((w.alloc A).alloc B).heap.size = w.heap.size + 2 := by simp
  rwa [e] at h
set_option maxRecDepth 20000 in
set_option maxHeartbeats 400000 in
theorem refOf_out (b l i : Int) (w : World) (h : ¬ (32 ≤ l ∧ l ≤ 256 ∧ 1 ≤ i ∧ i ≤ 65535 ∧ b ≤ 1048576 ∧ 1 ≤ b)) :
    Calls Tryz.prog 27 #[geoV b l i] w fun e w' => e = .returned (.tuple #[layZ, .int .i64 2]) ∧ Below w.heap.size w w' := by
  unfold geoV at *
  have fin : Below w.heap.size w ((w.alloc (.cells #[.int .i64 b, .int .i64 l, .int .i64 i] 26)).alloc (.cells (lay9 0 0 0 0 0 0 0 0 0) 52)) := bel_al (bel_al (Below.refl _ _) _) _
  have HF : Hid _ := fin
  clear fin
  by_cases h0 : l < 32
  · clear h
    go_enter Tryz.func27, Tryz.ntmps27
    go_wp2
    exact retCT rfl (w.heap.size + 1) _ rfl (load25L _ _ _ (heap_alloc2_new _ _ _) rfl) rfl ⟨rfl, HF.out⟩
  · by_cases h1 : 256 < l
    · clear h
      go_enter Tryz.func27, Tryz.ntmps27
      go_wp2
      exact retCT rfl (w.heap.size + 1) _ rfl (load25L _ _ _ (heap_alloc2_new _ _ _) rfl) rfl ⟨rfl, HF.out⟩
    · by_cases h2 : i < 1
      · clear h
        go_enter Tryz.func27, Tryz.ntmps27
        go_wp2
        exact retCT rfl (w.heap.size + 1) _ rfl (load25L _ _ _ (heap_alloc2_new _ _ _) rfl) rfl ⟨rfl, HF.out⟩
      · by_cases h3 : 65535 < i
        · clear h
          go_enter Tryz.func27, Tryz.ntmps27
          go_wp2
          exact retCT rfl (w.heap.size + 1) _ rfl (load25L _ _ _ (heap_alloc2_new _ _ _) rfl) rfl ⟨rfl, HF.out⟩
        · by_cases h4 : 1048576 < b
          · clear h
            go_enter Tryz.func27, Tryz.ntmps27
            go_wp2
            exact retCT rfl (w.heap.size + 1) _ rfl (load25L _ _ _ (heap_alloc2_new _ _ _) rfl) rfl ⟨rfl, HF.out⟩
          · have h5 : b < 1 := by omega
            clear h
            go_enter Tryz.func27, Tryz.ntmps27
            go_wp2
            exact retCT rfl (w.heap.size + 1) _ rfl (load25L _ _ _ (heap_alloc2_new _ _ _) rfl) rfl ⟨rfl, HF.out⟩

set_option maxRecDepth 20000 in
set_option maxHeartbeats 400000 in
theorem refOf_in (b l i : Int) (w : World) (h : 32 ≤ l ∧ l ≤ 256 ∧ 1 ≤ i ∧ i ≤ 65535 ∧ b ≤ 1048576 ∧ 1 ≤ b) :
    Calls Tryz.prog 27 #[geoV b l i] w fun e w' => e = .returned (.tuple #[ofV b l i, .int .i64 (ofE b l i)]) ∧ Below w.heap.size w w' := by
  obtain ⟨h1, h2, h3, h4, h5, h6⟩ := h
  unfold geoV at *
  go_enter Tryz.func27, Tryz.ntmps27
  go_wp2
  go_loopw [] (fun wx => ∃ k : Nat, k ≤ 5000 ∧ 16 * ((k : Int) - 1) < i + 1 ∧ wx = ((w.alloc (.cells #[.int .i64 b, .int .i64 l, .int .i64 i] 26)).alloc (.cells (lay9 0 0 0 0 0 0 0 0 0) 52)).alloc (.cells (lay9 b l i 1 (1 + l) k 0 0 0) 52)) (fun wx => 5000 - cellN wx (w.heap.size + 2) 5)
  case atStart => exact ⟨0, by omega, by omega, rfl⟩
  case round =>
    obtain ⟨k, hk1, hk2, rfl⟩ := hrel
    unfold lay9 at *
    by_cases hk : 16 * (k : Int) < i + 1
    · go_wp2
      refine ⟨⟨k + 1, by omega, by omega, ?_⟩, ?_⟩
      · simp
      · rw [cellN_of (heap3n _ _ _ _) rfl, cellN_of (heap3n _ _ _ _) rfl]; omega
    · have hkn : (k : Int) = nodeB i := by unfold nodeB; omega
      have HK : Hid ((k : Int) = nodeB i) := hkn
      clear hkn
      have hkb : (k : Int) ≤ 5000 := by omega
      go_wp2
      go_loopw [] (fun wx => ∃ m : Nat, m ≤ 200 ∧ 8192 * ((m : Int) - 1) < b ∧ wx = ((w.alloc (.cells #[.int .i64 b, .int .i64 l, .int .i64 i] 26)).alloc (.cells (lay9 0 0 0 0 0 0 0 0 0) 52)).alloc (.cells (lay9 b l i 1 (1 + l) k (1 + l + k) m 0) 52)) (fun wx => 200 - cellN wx (w.heap.size + 2) 7)
      case atStart => exact ⟨0, by omega, by omega, rfl⟩
      case round =>
        obtain ⟨m, hm1, hm2, rfl⟩ := hrel
        unfold lay9 at *
        by_cases hm : 8192 * (m : Int) < b
        · go_wp2
          refine ⟨⟨m + 1, by omega, by omega, ?_⟩, ?_⟩
          · simp
          · rw [cellN_of (heap3n _ _ _ _) rfl, cellN_of (heap3n _ _ _ _) rfl]; omega
        · have HM : Hid ((m : Int) = bitsB b) := by show _ = _; unfold bitsB; omega
          have hmb : (m : Int) ≤ 200 := by omega
          by_cases hd : b ≤ 1 + l + k + m
          · have hf : ¬ Fine b l i := fun q => by
              have q1 := q.2.2.2.2.2
              have q2 := HK.out
              have q3 := HM.out
              unfold dataAt bitsAt at q1
              omega
            have HE : Hid (Ending.returned (.tuple #[layZ, .int .i64 2]) = .returned (.tuple #[ofV b l i, .int .i64 (ofE b l i)])) := by
              show _ = _
              rw [show ofV b l i = layZ from if_neg hf, show ofE b l i = 2 from if_neg hf]
            clear hf
            go_wp2
            refine retCT rfl (w.heap.size + 1) _ rfl (load25L _ _ _ (heap3 _ _ _ _) rfl) rfl ⟨HE.out, ?_⟩
            repeat refine bel_al ?_ _
            exact Below.refl _ _
          · have hf : Fine b l i := ⟨h1, h2, h3, h4, h5, by
              have q2 := HK.out
              have q3 := HM.out
              unfold dataAt bitsAt
              omega⟩
            have HE : Hid (Ending.returned (.tuple #[layV b l i, .int .i64 0]) = .returned (.tuple #[ofV b l i, .int .i64 (ofE b l i)])) := by
              show _ = _
              rw [show ofV b l i = layV b l i from if_pos hf, show ofE b l i = 0 from if_pos hf]
            have HL : Hid (lay9 b l i 1 (1 + l) k (1 + l + k) m (1 + l + k + m) = lay9 b l i 1 (1 + l) (nodeB i) (bitsAt l i) (bitsB b) (dataAt b l i)) := by
              show _ = _
              unfold dataAt bitsAt
              rw [HK.out, HM.out]
            clear hf
            go_wp2
            refine retCT rfl (w.heap.size + 1) _ rfl (load25L _ _ _ (heap3 _ _ _ _) rfl) rfl ⟨?_, ?_⟩
            · exact (congrArg (fun x => Ending.returned (.tuple #[.agg x, .int .i64 0])) HL.out).trans HE.out
            repeat refine bel_al ?_ _
            exact Below.refl _ _

theorem refOf_any (b l i : Int) (w : World) :
    Calls Tryz.prog 27 #[geoV b l i] w fun e w' => e = .returned (.tuple #[ofV b l i, .int .i64 (ofE b l i)]) ∧ Below w.heap.size w w' := by
  by_cases h : 32 ≤ l ∧ l ≤ 256 ∧ 1 ≤ i ∧ i ≤ 65535 ∧ b ≤ 1048576 ∧ 1 ≤ b
  · exact refOf_in b l i w h
  · have hf : ¬ Fine b l i := fun q => h ⟨q.1, q.2.1, q.2.2.1, q.2.2.2.1, q.2.2.2.2.1, by have := q.pos; omega⟩
    rw [show ofV b l i = layZ from if_neg hf, show ofE b l i = 2 from if_neg hf]
    exact refOf_out b l i w h
end Go.Proofs.YtlcdpmjdnihocaaGreatH.H
/- stands of shape, and the document's Fits: is a layout just what its geometry says? For every layout. -/
namespace Go.Proofs.YtlcdpmjdnihocaaGreatH.H
open Go.RowKit

/-- Is a layout just what its geometry says? -/
def standsB (b l i a c d e f g : Int) : Bool := decide (Fine b l i ∧ a = 1 ∧ c = 1 + l ∧ d = nodeB i ∧ e = bitsAt l i ∧ f = bitsB b ∧ g = dataAt b l i)
theorem heap_kept {w w' : World} {g : Nat} {o : Obj} (h : w.heap[g]? = some o) (hb : Below w.heap.size w w') : w'.heap[g]? = some o :=
  (hb.block g (Array.getElem?_eq_some_iff.1 h).1).trans h
theorem below_next {w w1 w2 : World} (h : Below w.heap.size w w1) (hb : Below w1.heap.size w1 w2) : Below w.heap.size w w2 := h.trans (hb.mono h.size)
theorem below_new (w : World) (o : Obj) : Below w.heap.size w (w.alloc o) := (Below.refl _ _).alloc (Nat.le_refl _) _

theorem wpList_loadL {ops : Array Oper} {rest : List Oper} {o : Oper} {a : Act} {w : World} {Q : Exit → Act → World → Prop} (hgd : o.guard = none) (x : Operand) (ho : o.op = .load 52 x)
    (g : Nat) (hx : a.eval x = .pointer (some ⟨g, 0, none⟩)) (cs : Array Value) (hs : cs.size = 9) (hg : w.heap[g]? = some (.cells cs 52))
    (h : wpList Tryz.prog ops Q rest (a.put o.dst (.agg cs)) w) : wpList Tryz.prog ops Q (o :: rest) a w :=
  wpList_load_row hgd 52 x ho g hx 52 cs (0, 0) _ hg Tryz.underlying52 rfl (by rw [hs]; exact size25L) h

theorem lay_cells {w : World} {h0 : Nat} {b l i a c d e f g : Int} (h : w.heap[h0]? = some (.cells (lay9 b l i a c d e f g) 52)) :
    w.cell? ⟨h0, 0, none⟩ = some (.int .i64 b) ∧ w.cell? ⟨h0, 1, none⟩ = some (.int .i64 l) ∧ w.cell? ⟨h0, 2, none⟩ = some (.int .i64 i) ∧ w.cell? ⟨h0, 3, none⟩ = some (.int .i64 a) ∧ w.cell? ⟨h0, 4, none⟩ = some (.int .i64 c) ∧ w.cell? ⟨h0, 5, none⟩ = some (.int .i64 d) ∧ w.cell? ⟨h0, 6, none⟩ = some (.int .i64 e) ∧ w.cell? ⟨h0, 7, none⟩ = some (.int .i64 f) ∧ w.cell? ⟨h0, 8, none⟩ = some (.int .i64 g) ∧ h0 < w.heap.size := by
  refine ⟨?_, ?_, ?_, ?_, ?_, ?_, ?_, ?_, ?_, (Array.getElem?_eq_some_iff.1 h).1⟩ <;> (rw [cell_of_row w h0 _ _ 52 _ h]; rfl)
end Go.Proofs.YtlcdpmjdnihocaaGreatH.H
/- head's own look at a layout: is it just what its geometry says; for every layout. -/
namespace Go.Proofs.YtlcdpmjdnihocaaGreatH.H
open Go.RowKit
set_option maxRecDepth 20000 in
set_option maxHeartbeats 400000 in
theorem hstands_fine (b l i a c d e f g : Int) (w : World) (hb : I64 b) (hf : Fine b l i) :
    Calls Tryz.prog 93 #[.agg (lay9 b l i a c d e f g)] w fun e' w' => e' = .returned (.bool (standsB b l i a c d e f g)) ∧ Below w.heap.size w w' := by
  have hc := fun w => of_any b l i w hb
  rw [show ofV b l i = layV b l i from if_pos hf, show ofE b l i = 0 from if_pos hf] at hc
  have HF : Hid (Fine b l i) := hf
  clear hf
  unfold layV at hc
  have e1 : ∀ (w : World), (w.alloc (.cells (lay9 b l i a c d e f g) 52)).heap[w.heap.size]? = some (.cells (lay9 b l i a c d e f g) 52) := fun w => heap_alloc_new _ _
  have e2 := fun (W1 : World) (h : W1.heap[w.heap.size]? = some (.cells (lay9 b l i a c d e f g) 52)) => lay_cells h
  unfold lay9 at *
  go_enter Tryz.func93, Tryz.ntmps93
  go_wp2_with (first | (go_at_call 58; fail))
  refine (hc _).mono ?_
  rintro e' W1 ⟨rfl, hb1⟩
  have h1 := heap_kept (e1 w) hb1
  have HB : Hid (Below w.heap.size w W1) := below_next (below_new _ _) hb1
  obtain ⟨c0, c1, c2, c3, c4, c5, c6, c7, c8, hlt⟩ := e2 W1 h1
  clear hb1 hc e1 h1 e2
  go_wp2
  all_goals
    go_ret
    refine ⟨ret_bool ?_, bel_al HB.out _⟩
    clear c0 c1 c2 c3 c4 c5 c6 c7 c8
    first
      | exact (show true = standsB b l i a c d e f g from (decide_eq_true ⟨HF.out, by omega, by omega, by omega, by omega, by omega, by omega⟩).symm)
      | exact (show false = standsB b l i a c d e f g from (decide_eq_false fun ⟨_, q1, q2, q3, q4, q5, q6⟩ => by omega).symm)

set_option maxRecDepth 20000 in
set_option maxHeartbeats 400000 in
theorem hstands_not (b l i a c d e f g : Int) (w : World) (hb : I64 b) (hf : ¬ Fine b l i) :
    Calls Tryz.prog 93 #[.agg (lay9 b l i a c d e f g)] w fun e' w' => e' = .returned (.bool (standsB b l i a c d e f g)) ∧ Below w.heap.size w w' := by
  have hc := fun w => of_any b l i w hb
  rw [show ofV b l i = layZ from if_neg hf, show ofE b l i = 2 from if_neg hf] at hc
  have HF : Hid (¬ Fine b l i) := hf
  clear hf
  unfold layZ at hc
  unfold lay9 at *
  go_enter Tryz.func93, Tryz.ntmps93
  go_wp2_with (first | (go_at_call 58; fail))
  refine (hc _).mono ?_
  rintro e' W1 ⟨rfl, hb1⟩
  have HB : Hid (Below w.heap.size w W1) := below_next (below_new _ _) hb1
  clear hb1 hc
  go_wp2
  go_ret
  exact ⟨ret_bool (show false = standsB b l i a c d e f g from (decide_eq_false fun q => HF.out q.1).symm), bel_al HB.out _⟩
theorem hstands_any (b l i a c d e f g : Int) (w : World) (hb : I64 b) :
    Calls Tryz.prog 93 #[.agg (lay9 b l i a c d e f g)] w fun e' w' => e' = .returned (.bool (standsB b l i a c d e f g)) ∧ Below w.heap.size w w' := by
  by_cases hf : Fine b l i
  · exact hstands_fine b l i a c d e f g w hb hf
  · exact hstands_not b l i a c d e f g w hb hf
end Go.Proofs.YtlcdpmjdnihocaaGreatH.H

/- Lists of numbers in memory, held against each other; no condition. -/
namespace Go.Proofs.YtlcdpmjdnihocaaGreatH.H
open Go.RowKit Go.Maps
/-- Numbers that lie in memory. -/
def IntsAt (w : World) (p : Option Addr) (zs : List Int) : Prop := 0 < zs.length → ∃ b off, p = some ⟨b, off, none⟩ ∧ b < w.heap.size ∧ ∀ j x, zs[j]? = some x → w.cell? ⟨b, off + j, none⟩ = some (.int .i64 x)
theorem ints_of_row {w : World} {base : Nat} {v : Value} {zs : List Int} (h : w.ownsRow base 3 1 v zs.length (zs.map (Value.int .i64))) : ∃ p c, v = .slice p zs.length c ∧ IntsAt w p zs ∧ zs.length ≤ c ∧ ∀ b off, p = some ⟨b, off, none⟩ → base ≤ b := by
  rcases h.2 with ⟨h1, h2⟩ | ⟨g, cap, cur, h1, hg, hh, hc, _⟩
  · exact ⟨none, 0, by rw [h1, h2], fun q => by omega, by omega, fun _ _ q => by cases q⟩
  · refine ⟨_, cap, h1, fun _ => ⟨g, 0, rfl, (h.lt g (by rw [h1]; rfl)).2, fun j x hx => ?_⟩, hc, fun b off q => by injection q with q; injection q with q1; omega⟩
    have q := h.cells (g := g) (by rw [h1]; rfl) j (.int .i64 x) (by rw [List.getElem?_map, hx]; rfl)
    rw [Go.WideShapes.add_plain] at q
    exact q
theorem IntsAt.later {w W : World} {p : Option Addr} {l : List Int} (h : IntsAt w p l) (hb : Below w.heap.size w W) : IntsAt W p l := fun h0 => by
  obtain ⟨b, off, h1, h2, h3⟩ := h h0
  exact ⟨b, off, h1, Nat.lt_of_lt_of_le h2 hb.size, fun j x hx => (hb.cell (p := ⟨b, off + j, none⟩) h2).trans (h3 j x hx)⟩
theorem belowN {B : Nat} {w W : World} (h : Below B w W) (q : Nat) : Below B w (W.drewN q) := h.trans ⟨rfl, rfl, rfl, Nat.le_refl _, fun _ _ => rfl⟩
end Go.Proofs.YtlcdpmjdnihocaaGreatH.H
/- May a header have these targets: head's own look, with a set of those that were met; on a layout whose log has 32 to 256 blocks. -/
namespace Go.Proofs.YtlcdpmjdnihocaaGreatH.H
open Go.RowKit Go.Maps
/-- At most m targets, each from lo on and below hi, none twice. -/
abbrev MayP (lo hi m : Int) (ts : List Int) : Prop := (ts.length : Int) ≤ m ∧ (∀ t ∈ ts, lo ≤ t ∧ t < hi) ∧ ts.Nodup
def mayB (lo hi m : Int) (ts : List Int) : Bool := decide (MayP lo hi m ts)
abbrev WfI (ts : List Int) : Prop := ∀ t ∈ ts, (Lit.int .i64 t).wf = true
theorem lawK : Keyed Tryz.prog 3 := int_keyed Tryz.underlying3
theorem zero70 (w : World) : (zeroValue 202).run Tryz.prog w = .ok (.agg #[]) w := by kernel_rfl
def Sd (ts : List Int) : DataW Unit := setOf (.agg []) (ts.map (Lit.int .i64))
theorem any_int (x : Int) : ∀ l : List Int, l.any ((fun y : Lit => y.sameKey (.int .i64 x)) ∘ Lit.int .i64) = l.contains x
  | [] => rfl
  | a :: r => by
    rw [List.any_cons, List.contains_cons, any_int x r]
    congr 1
    show decide (IntKind.i64 = IntKind.i64 ∧ a = x) = (x == a)
    by_cases e : a = x
    · subst e
      simp
    · have e' : ¬ x = a := fun h => e h.symm
      simp [e, e']
theorem has_Sd (ts : List Int) (x : Int) : Maps.has (Sd ts) (.int .i64 x) = ts.contains x := by
  unfold Sd
  rw [has_setOf _ _ _ (fun y hy => by obtain ⟨_, _, rfl⟩ := List.mem_map.1 hy; trivial), List.any_map]
  exact any_int x _
theorem Sd_snoc (ts : List Int) (x : Int) : Sd (ts ++ [x]) = (Sd ts).put (.int .i64 x) (.agg []) := by
  unfold Sd
  rw [List.map_append]
  exact setOf_snoc _ _ _
theorem makeHint (n : Nat) (w : World) : (Instr.makeMap 201 (some (.int .i64 (n : Int)))).run Tryz.prog w = .ok (.map (some w.heap.size)) (w.alloc (.map #[] 0)) := by
  simp [Instr.makeMap, run_underlying Tryz.underlying201, go_sem]
set_option maxRecDepth 20000 in
theorem most_any (b l i a c d e f g : Int) (w : World) (hl : 32 ≤ l ∧ l ≤ 256) :
    Calls Tryz.prog 136 #[.agg (lay9 b l i a c d e f g)] w fun e' w' => e' = .returned (.int .i64 (l - 1)) ∧ Below w.heap.size w w' := by
  unfold lay9
  go_enter Tryz.func136, Tryz.ntmps136
  go_wp2
  go_ret
  refine ⟨?_, below_new _ _⟩
  congr 2
set_option maxRecDepth 20000 in
set_option maxHeartbeats 2000000 in
theorem may_any (b l i a c d e f g : Int) (ts : List Int) (p : Option Addr) (cap : Nat) (w : World) (hl : 32 ≤ l ∧ l ≤ 256) (hlen : ts.length < 9223372036854775807) (hts : IntsAt w p ts) (hwf : WfI ts) :
    Calls Tryz.prog 94 #[.agg (lay9 b l i a c d e f g), .slice p ts.length cap] w fun e' w' => e' = .returned (.bool (mayB c b (l - 1) ts)) ∧ Below w.heap.size w w' := by
  have hc := fun w => most_any b l i a c d e f g w hl
  have hmm := makeHint
  have e1 : (w.alloc (.cells (lay9 b l i a c d e f g) 52)).heap[w.heap.size]? = some (.cells (lay9 b l i a c d e f g) 52) := heap_alloc_new _ _
  have e2 := fun (W1 : World) (h : W1.heap[w.heap.size]? = some (.cells (lay9 b l i a c d e f g) 52)) => lay_cells h
  obtain ⟨n, hn⟩ : ∃ n, ts.length = n := ⟨_, rfl⟩
  have HT : Hid (IntsAt w p ts ∧ WfI ts ∧ ts.length = n) := ⟨hts, hwf, hn⟩
  rw [hn]
  rw [hn] at hlen
  clear hts hwf hn
  obtain ⟨m, hm⟩ : ∃ m, m = l - 1 := ⟨_, rfl⟩
  have hm2 : 27 ≤ m ∧ m ≤ 255 := by omega
  rw [← hm]
  simp only [← hm] at hc
  clear hm hl
  by_cases hbig : (n : Int) > m
  · have er : mayB c b m ts = false := decide_eq_false fun q => by have := q.1; have := HT.out.2.2; omega
    rw [er]
    have g0 : decide (m < (n : Int)) = true := decide_eq_true hbig
    unfold lay9 at *
    go_enter Tryz.func94, Tryz.ntmps94
    go_wp2_with (first | (go_at_call 136; fail))
    refine (hc _).mono ?_
    rintro e' W1 ⟨rfl, hb1⟩
    have HB : Hid (Below w.heap.size w W1) := below_next (below_new _ _) hb1
    clear hb1 hc e1 e2 hmm
    go_wp2
    go_ret
    exact ⟨rfl, HB.out⟩
  · have g0 : decide (m < (n : Int)) = false := decide_eq_false hbig
    generalize hq : mayB c b m ts = res
    have HQ : Hid (mayB c b m ts = res) := hq
    clear hq
    unfold lay9 at *
    go_enter Tryz.func94, Tryz.ntmps94
    go_wp2_with (first | (go_at_call 136; fail))
    refine (hc _).mono ?_
    rintro e' W1 ⟨rfl, hb1⟩
    have HB : Hid (Below w.heap.size w W1 ∧ W1.heap[w.heap.size]? = some (.cells #[.int .i64 b, .int .i64 l, .int .i64 i, .int .i64 a, .int .i64 c, .int .i64 d, .int .i64 e, .int .i64 f, .int .i64 g] 52) ∧ w.heap.size < W1.heap.size) :=
      ⟨below_next (below_new _ _) hb1, heap_kept e1 hb1, by have := hb1.size; simp at this; omega⟩
    clear hb1 hc e1
    go_wp2
    go_loopw [20] (fun s20 wr => ∃ k : Nat, k ≤ n ∧ s20 = .int .i64 k ∧ Hid (wr.ownsMap Tryz.prog 3 unitElem W1.heap.size k (Sd (ts.take k))) ∧ Hid (Below W1.heap.size W1 wr) ∧ Hid ((∀ t ∈ ts.take k, c ≤ t ∧ t < b) ∧ (ts.take k).Nodup))
      (fun s20 _ => n - (intOf s20).toNat)
    case atStart => exact ⟨0, by omega, rfl, World.ownsMap_made _ _ _ _, below_new _ _, by simp; exact trivial⟩
    case round =>
      obtain ⟨k, hk, rfl, Hown, HW, HG⟩ := hrel
      by_cases hk2 : (k : Int) < n
      · obtain ⟨hts, hwf, hn⟩ := HT.out
        have hx : ts[k]? = some ts[k] := List.getElem?_eq_getElem (by omega)
        have htk : ts.take (k + 1) = ts.take k ++ [ts[k]] := by rw [List.take_add_one, hx]; rfl
        have hmem : ts[k] ∈ ts := List.getElem_mem _
        have hxw := hwf _ hmem
        obtain ⟨b1, o1, rfl, l1, C1⟩ := hts (by omega)
        generalize ts[k] = x at hx htk hmem hxw
        have hs1 := HB.out.1.size
        have q1 : wr.cell? ⟨b1, o1 + k, none⟩ = some (.int .i64 x) := (HW.out.cell (p := ⟨b1, o1 + k, none⟩) (by show b1 < W1.heap.size; omega)).trans ((HB.out.1.cell (p := ⟨b1, o1 + k, none⟩) l1).trans (C1 k x hx))
        obtain ⟨c0, c1, c2, c3, c4, c5, c6, c7, c8, hlt⟩ := e2 wr (heap_kept HB.out.2.1 HW.out)
        have hkey : keyOf Tryz.prog 3 (.int .i64 x) = some (.int .i64 x) := keyOf_int_mk Tryz.underlying3 hxw
        have hhas := has_Sd (ts.take k) x
        have hown := Hown.out
        have hr : (x ∈ ts.take k ∨ x < c ∨ b ≤ x) → res = false := fun h => by
          rw [← HQ.out]
          refine decide_eq_false fun q => ?_
          rcases h with h | h | h
          · have q3 := q.2.2
            rw [← List.take_append_drop (k + 1) ts, htk] at q3
            exact (List.nodup_append.1 (List.nodup_append.1 q3).1).2.2 x h x (by simp) rfl
          · have := q.2.1 x hmem; omega
          · have := q.2.1 x hmem; omega
        have hD : Sd (ts.take (k + 1)) = (Sd (ts.take k)).put (.int .i64 x) (.agg []) := by rw [htk]; exact Sd_snoc _ _
        generalize Sd (ts.take k) = D at *
        have HX : Hid (ts.take (k + 1) = ts.take k ++ [x] ∧ Sd (ts.take (k + 1)) = D.put (.int .i64 x) (.agg [])) := ⟨htk, hD⟩
        have HWB : Hid (Below w.heap.size w wr) := HB.out.1.trans (HW.out.mono hs1)
        clear e2 hx htk hmem hxw hwf hts hn C1 hD
        by_cases h1 : (ts.take k).contains x = true
        · have hres := hr (.inl (List.contains_iff_mem.1 h1))
          rw [h1] at hhas
          subst hres
          clear hr h1 HQ
          go_wp2_with (first
            | (at_lookup; refine wpList_lookup_own_unit _ rfl _ _ 201 rfl 3 202 lawK Tryz.underlying201 (zero70 _) W1.heap.size k _ rfl hown _ _ rfl hkey ?_; rw [hhas])
            | go_in)
          go_ret
          exact ⟨rfl, HWB.out.alloc HWB.out.size _⟩
        · have h1 : (ts.take k).contains x = false := by simpa using h1
          rw [h1] at hhas
          by_cases h2 : x < c ∨ b ≤ x
          · have hres := hr (.inr h2)
            subst hres
            clear hr h1 HQ
            rcases h2 with h2 | h2
            · have g2 : decide (x < c) = true := decide_eq_true h2
              clear h2
              go_wp2_with (first
                | (at_lookup; refine wpList_lookup_own_unit _ rfl _ _ 201 rfl 3 202 lawK Tryz.underlying201 (zero70 _) W1.heap.size k _ rfl hown _ _ rfl hkey ?_; rw [hhas])
                | go_in)
              go_ret
              exact ⟨rfl, HWB.out.alloc HWB.out.size _⟩
            · have g3 : decide (b ≤ x) = true := decide_eq_true h2
              clear h2
              go_wp2_with (first
                | (at_lookup; refine wpList_lookup_own_unit _ rfl _ _ 201 rfl 3 202 lawK Tryz.underlying201 (zero70 _) W1.heap.size k _ rfl hown _ _ rfl hkey ?_; rw [hhas])
                | go_in)
              all_goals
                go_ret
                exact ⟨rfl, HWB.out.alloc HWB.out.size _⟩
          · have g2 : decide (x < c) = false := decide_eq_false (by omega)
            have g3 : decide (b ≤ x) = false := decide_eq_false (by omega)
            have HG2 : Hid ((∀ t ∈ ts.take (k + 1), c ≤ t ∧ t < b) ∧ (ts.take (k + 1)).Nodup) := by
              have h1' : x ∉ ts.take k := fun q => by rw [List.contains_iff_mem.2 q] at h1; cases h1
              rw [show ts.take (k + 1) = ts.take k ++ [x] from HX.out.1]
              refine ⟨fun t ht => ?_, List.nodup_append.2 ⟨HG.out.2, by simp, fun y hy z hz e => ?_⟩⟩
              · rcases List.mem_append.1 ht with ht | ht
                · exact HG.out.1 t ht
                · rw [List.mem_singleton.1 ht]; omega
              · rw [List.mem_singleton.1 hz] at e; exact h1' (e ▸ hy)
            clear hr h1 h2
            have hkm : k < maxLen := by unfold maxLen; omega
            go_wp2_with (first
              | (at_lookup; refine wpList_lookup_own_unit _ rfl _ _ 201 rfl 3 202 lawK Tryz.underlying201 (zero70 _) W1.heap.size k _ rfl hown _ _ rfl hkey ?_; rw [hhas])
              | (at_mapUpdate; refine wpList_mapUpdate_own _ rfl _ _ _ 201 rfl 3 202 lawK Tryz.underlying201 (unitElem (H := Unit)) W1.heap.size k _ rfl (hown.alloc _) hkm _ _ _ rfl rfl hkey _ [] unitElem_mk ?_; intro w1 hown1 hgrow1)
              | go_in)
            go_roundw
            case rel =>
              refine ⟨k + 1, by omega, by go_num, ?_, ?_, HG2.out⟩
              · have := HX.out.2
                rw [this]
                exact hown1
              · exact (HW.out.alloc HW.out.size _).grown hgrow1 (by have := HW.out.size; simp; omega) (fun j hj => by cases hj; exact Nat.le_refl _)
            case measure => simp [intOf]; omega
      · obtain rfl : k = n := by omega
        have hres : res = true := by
          rw [← HQ.out]
          have hn := HT.out.2.2
          have hg := HG.out
          rw [List.take_of_length_le (by omega)] at hg
          exact decide_eq_true ⟨by omega, hg.1, hg.2⟩
        subst hres
        have HWB : Hid (Below w.heap.size w wr) := HB.out.1.trans (HW.out.mono HB.out.1.size)
        clear HQ e2
        go_wp2
        go_ret
        exact ⟨rfl, HWB.out⟩
end Go.Proofs.YtlcdpmjdnihocaaGreatH.H
