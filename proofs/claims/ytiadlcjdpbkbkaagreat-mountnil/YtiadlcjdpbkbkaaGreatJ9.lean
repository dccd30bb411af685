/- Several texts joined, each with its own remark; no condition. -/
import Derived.Test.YtiadlcjdpbkbkaaGreatJ8
import Derived.Laws.ResultCell
import Derived.OrdersHeld
import Derived.WalkKit
import Derived.Deep.MidRow
/- SetU16 and SetU32 of slab: the block in which a number is laid; for every block, place and number. -/
namespace Go.Proofs.YtiadlcjdpbkbkaaGreatK
open Go.RowKit

theorem ret_blk {f g : Nat → Int} (h : f = g) : Ending.returned (.agg (blk f)) = .returned (.agg (blk g)) := by rw [h]
set_option maxRecDepth 20000 in
set_option maxHeartbeats 400000 in
theorem set16_in (f : Nat → Int) (k : Nat) (v : Int) (w : World) (hk : (k : Int) ≤ 1022) (hv : 0 ≤ v ∧ v < 65536) :
    Calls Tryz.prog 123 #[.agg (blk f), .int .i64 k, .int .u16 v] w fun e w' => e = .returned (.agg (blk (putN f k v 2))) ∧ Below w.heap.size w w' := by
  have z25 := zero25
  have hb0 := fun g => blk_get g (k) (by omega)
  have hb1 := fun g => blk_get g (k + 1) (by omega)
  have hset := blk_set
  go_enter Tryz.func123, Tryz.ntmps123
  go_wp2_with (first | (go_at_call 68; refine (fits_yes _ _ _ (by omega) (by omega)).mono ?_; rintro e w' ⟨rfl, rfl⟩) | refine wpList_load25 rfl _ rfl _ rfl _ (heap_alloc2_old _ _ _) ?_ | refine wpList_store25 rfl _ _ rfl _ _ rfl rfl _ (heap_alloc2_new _ _ _) ?_)
  exact ret25 rfl (w.heap.size + 1) _ rfl (setRow_heap _ _ _ _ _ _ (heap_alloc2_new _ _ _)) rfl ⟨ret_blk (put2 f k v hv).symm, below2 _ _ _ _ (by omega) _⟩
set_option maxRecDepth 20000 in
set_option maxHeartbeats 400000 in
theorem set16_out (f : Nat → Int) (k : Int) (v : Int) (w : World) (hk : ¬ (0 ≤ k ∧ k ≤ 1024 - 2)) :
    Calls Tryz.prog 123 #[.agg (blk f), .int .i64 k, .int .u16 v] w fun e w' => e = .returned (.agg (blk f)) ∧ Below w.heap.size w w' := by
  have z25 := zero25
  have HK : Hid (¬ (0 ≤ k ∧ k ≤ 1024 - 2)) := hk
  clear hk
  go_enter Tryz.func123, Tryz.ntmps123
  go_wp2_with (first | (go_at_call 68; refine (fits_no _ _ _ (by omega) HK.out).mono ?_; rintro e w' ⟨rfl, rfl⟩) | refine wpList_load25 rfl _ rfl _ rfl _ (heap_alloc2_old _ _ _) ?_ | refine wpList_store25 rfl _ _ rfl _ _ rfl rfl _ (heap_alloc2_new _ _ _) ?_)
  exact ret25 rfl (w.heap.size + 1) _ rfl (setRow_heap _ _ _ _ _ _ (heap_alloc2_new _ _ _)) rfl ⟨rfl, below2 _ _ _ _ (by omega) _⟩
theorem set16_any (f : Nat → Int) (k : Int) (v : Int) (w : World) (hv : 0 ≤ v ∧ v < 65536) :
    Calls Tryz.prog 123 #[.agg (blk f), .int .i64 k, .int .u16 v] w fun e w' => e = .returned (.agg (blk (put f k 2 v))) ∧ Below w.heap.size w w' := by
  by_cases h : 0 ≤ k ∧ k ≤ 1024 - 2
  · obtain ⟨m, rfl⟩ := Int.eq_ofNat_of_zero_le h.1
    rw [put_in f m 2 v (by omega)]; exact set16_in f m v w (by omega) hv
  · rw [put_out f k 2 v (by omega)]; exact set16_out f k v w h

set_option maxRecDepth 20000 in
set_option maxHeartbeats 400000 in
theorem set32_in (f : Nat → Int) (k : Nat) (v : Int) (w : World) (hk : (k : Int) ≤ 1020) (hv : 0 ≤ v ∧ v < 4294967296) :
    Calls Tryz.prog 47 #[.agg (blk f), .int .i64 k, .int .u32 v] w fun e w' => e = .returned (.agg (blk (putN f k v 4))) ∧ Below w.heap.size w w' := by
  have z25 := zero25
  have hb0 := fun g => blk_get g (k) (by omega)
  have hb1 := fun g => blk_get g (k + 1) (by omega)
  have hb2 := fun g => blk_get g (k + 2) (by omega)
  have hb3 := fun g => blk_get g (k + 3) (by omega)
  have hset := blk_set
  go_enter Tryz.func47, Tryz.ntmps47
  go_wp2_with (first | (go_at_call 68; refine (fits_yes _ _ _ (by omega) (by omega)).mono ?_; rintro e w' ⟨rfl, rfl⟩) | refine wpList_load25 rfl _ rfl _ rfl _ (heap_alloc2_old _ _ _) ?_ | refine wpList_store25 rfl _ _ rfl _ _ rfl rfl _ (heap_alloc2_new _ _ _) ?_)
  exact ret25 rfl (w.heap.size + 1) _ rfl (setRow_heap _ _ _ _ _ _ (heap_alloc2_new _ _ _)) rfl ⟨ret_blk (put4 f k v hv).symm, below2 _ _ _ _ (by omega) _⟩
set_option maxRecDepth 20000 in
set_option maxHeartbeats 400000 in
theorem set32_out (f : Nat → Int) (k : Int) (v : Int) (w : World) (hk : ¬ (0 ≤ k ∧ k ≤ 1024 - 4)) :
    Calls Tryz.prog 47 #[.agg (blk f), .int .i64 k, .int .u32 v] w fun e w' => e = .returned (.agg (blk f)) ∧ Below w.heap.size w w' := by
  have z25 := zero25
  have HK : Hid (¬ (0 ≤ k ∧ k ≤ 1024 - 4)) := hk
  clear hk
  go_enter Tryz.func47, Tryz.ntmps47
  go_wp2_with (first | (go_at_call 68; refine (fits_no _ _ _ (by omega) HK.out).mono ?_; rintro e w' ⟨rfl, rfl⟩) | refine wpList_load25 rfl _ rfl _ rfl _ (heap_alloc2_old _ _ _) ?_ | refine wpList_store25 rfl _ _ rfl _ _ rfl rfl _ (heap_alloc2_new _ _ _) ?_)
  exact ret25 rfl (w.heap.size + 1) _ rfl (setRow_heap _ _ _ _ _ _ (heap_alloc2_new _ _ _)) rfl ⟨rfl, below2 _ _ _ _ (by omega) _⟩
theorem set32_any (f : Nat → Int) (k : Int) (v : Int) (w : World) (hv : 0 ≤ v ∧ v < 4294967296) :
    Calls Tryz.prog 47 #[.agg (blk f), .int .i64 k, .int .u32 v] w fun e w' => e = .returned (.agg (blk (put f k 4 v))) ∧ Below w.heap.size w w' := by
  by_cases h : 0 ≤ k ∧ k ≤ 1024 - 4
  · obtain ⟨m, rfl⟩ := Int.eq_ofNat_of_zero_le h.1
    rw [put_in f m 4 v (by omega)]; exact set32_in f m v w (by omega) hv
  · rw [put_out f k 4 v (by omega)]; exact set32_out f k v w h
end Go.Proofs.YtiadlcjdpbkbkaaGreatK
/- Where the regions of a geometry lie, as plain numbers, and the values that stand for them; no condition. -/
namespace Go.Proofs.YtiadlcjdpbkbkaaGreatK
open Go.RowKit

def nodeB (i : Int) : Int := (i + 16) / 16
def bitsB (b : Int) : Int := (b + 8191) / 8192
def bitsAt (l i : Int) : Int := 1 + l + nodeB i
def dataAt (b l i : Int) : Int := bitsAt l i + bitsB b
/-- Is there a layout of the geometry b, l, i? -/
abbrev Fine (b l i : Int) : Prop := 32 ≤ l ∧ l ≤ 256 ∧ 1 ≤ i ∧ i ≤ 65535 ∧ b ≤ 1048576 ∧ dataAt b l i < b
theorem Fine.pos {b l i : Int} (h : Fine b l i) : 35 ≤ b := by
  unfold Fine dataAt bitsAt nodeB bitsB at h; omega

/-- Is a geometry within its bounds? -/
def bndB (b l i : Int) : Bool := decide (32 ≤ l ∧ l ≤ 256 ∧ 1 ≤ i ∧ i ≤ 65535 ∧ b ≤ 1048576)

def geoV (b l i : Int) : Value := .agg #[.int .i64 b, .int .i64 l, .int .i64 i]
def lay9 (b l i a c d e f g : Int) : Array Value := #[.int .i64 b, .int .i64 l, .int .i64 i, .int .i64 a, .int .i64 c, .int .i64 d, .int .i64 e, .int .i64 f, .int .i64 g]
def layV (b l i : Int) : Value := .agg (lay9 b l i 1 (1 + l) (nodeB i) (bitsAt l i) (bitsB b) (dataAt b l i))
def layZ : Value := .agg (lay9 0 0 0 0 0 0 0 0 0)
/-- What Of answers. -/
def ofV (b l i : Int) : Value := if Fine b l i then layV b l i else layZ
def ofE (b l i : Int) : Int := if Fine b l i then 0 else 2
def I64 (x : Int) : Prop := -9223372036854775808 ≤ x ∧ x ≤ 9223372036854775807
end Go.Proofs.YtiadlcjdpbkbkaaGreatK
/- Of of shape: the layout of a geometry, or none; for every geometry. -/
namespace Go.Proofs.YtiadlcjdpbkbkaaGreatK
open Go.RowKit

theorem ret_bool {a b : Bool} (h : a = b) : Ending.returned (.bool a) = .returned (.bool b) := by rw [h]
/-- A result of two: a row in a cell, and a value. -/
theorem retCT {fn : Func} {p u : Tmp} {ty : TypeId} {R : Ending → World → Prop} {a : Act} {w : World} (h : fn.results = #[.cell p ty, .tmp u]) (g : Nat) (cs : Array Value)
    (hp : a.tmps.getD p undef = .pointer (some ⟨g, 0, none⟩)) (hl : (loadVar ty ⟨g, 0, none⟩).run Tryz.prog w = .ok (.agg cs) w)
    (hdf : a.defers = []) (hR : R (.returned (.tuple #[.agg cs, a.tmps.getD u undef])) w) : bodyPost Tryz.prog fn R .ret a w := by
  refine bodyPost_ret ?_ hdf hR
  rw [results_cell_tmp h]
  rw [hp]
  simp [asAddr, hl]

theorem load25L (w : World) (g : Nat) (cs : Array Value) (h : w.heap[g]? = some (.cells cs 43)) (hs : cs.size = 9) : (loadVar 43 ⟨g, 0, none⟩).run Tryz.prog w = .ok (.agg cs) w :=
  run_loadVar_row w g 43 43 cs (0, 0) _ h Tryz.underlying43 rfl (by rw [hs]; kernel_rfl)
theorem size25L : (Tryz.prog.info? 43).map (·.size) = some 9 := by kernel_rfl
theorem size23G : (Tryz.prog.info? 41).map (·.size) = some 3 := by kernel_rfl

theorem bounded_any (b l i : Int) (w : World) :
    Calls Tryz.prog 44 #[geoV b l i] w fun e w' => e = .returned (.bool (bndB b l i)) ∧ w' = w.alloc (.cells #[.int .i64 b, .int .i64 l, .int .i64 i] 41) := by
  unfold geoV
  by_cases h0 : 32 ≤ l
  · by_cases h1 : l ≤ 256
    · by_cases h2 : 1 ≤ i
      · by_cases h3 : i ≤ 65535
        · by_cases h4 : b ≤ 1048576
          · go_enter Tryz.func44, Tryz.ntmps44
            go_wp2
            go_ret
            exact ⟨ret_bool (show true = bndB b l i from (decide_eq_true (by omega)).symm), rfl⟩
          · go_enter Tryz.func44, Tryz.ntmps44
            go_wp2
            go_ret
            exact ⟨ret_bool (show false = bndB b l i from (decide_eq_false (by omega)).symm), rfl⟩
        · go_enter Tryz.func44, Tryz.ntmps44
          go_wp2
          go_ret
          exact ⟨ret_bool (show false = bndB b l i from (decide_eq_false (by omega)).symm), rfl⟩
      · go_enter Tryz.func44, Tryz.ntmps44
        go_wp2
        go_ret
        exact ⟨ret_bool (show false = bndB b l i from (decide_eq_false (by omega)).symm), rfl⟩
    · go_enter Tryz.func44, Tryz.ntmps44
      go_wp2
      go_ret
      exact ⟨ret_bool (show false = bndB b l i from (decide_eq_false (by omega)).symm), rfl⟩
  · go_enter Tryz.func44, Tryz.ntmps44
    go_wp2
    go_ret
    exact ⟨ret_bool (show false = bndB b l i from (decide_eq_false (by omega)).symm), rfl⟩

theorem bel_al {w u : World} (h : Below w.heap.size w u) (o : Obj) : Below w.heap.size w (u.alloc o) := h.alloc h.size o
theorem heap3 (w : World) (A B C : Obj) : (((w.alloc A).alloc B).alloc C).heap[w.heap.size + 1]? = some B := by
  rw [heap_alloc_old _ _ (by simp)]; exact heap_alloc2_new _ _ _
theorem heap4 (w : World) (A B C D : Obj) : ((((w.alloc A).alloc B).alloc C).alloc D).heap[w.heap.size + 1]? = some B := by
  rw [heap_alloc_old _ _ (by simp)]; exact heap3 _ _ _ _

set_option maxRecDepth 20000 in
set_option maxHeartbeats 400000 in
theorem of_out (b l i : Int) (w : World) (h : ¬ (32 ≤ l ∧ l ≤ 256 ∧ 1 ≤ i ∧ i ≤ 65535 ∧ b ≤ 1048576)) :
    Calls Tryz.prog 21 #[geoV b l i] w fun e w' => e = .returned (.tuple #[layZ, .int .i64 2]) ∧ Below w.heap.size w w' := by
  have hc := fun w => bounded_any b l i w
  rw [show bndB b l i = false from decide_eq_false h] at hc
  clear h
  unfold geoV at *
  go_enter Tryz.func21, Tryz.ntmps21
  go_wp2_with (first | (go_at_call 44; refine (hc _).mono ?_; rintro e w' ⟨rfl, rfl⟩))
  refine retCT rfl (w.heap.size + 1) _ rfl (load25L _ _ _ (heap3 _ _ _ _) rfl) rfl ⟨rfl, ?_⟩
  repeat refine bel_al ?_ _
  exact Below.refl _ _

set_option maxRecDepth 20000 in
set_option maxHeartbeats 400000 in
theorem of_fine (b l i : Int) (w : World) (h : 32 ≤ l ∧ l ≤ 256 ∧ 1 ≤ i ∧ i ≤ 65535 ∧ b ≤ 1048576) (h0 : 1 ≤ b) (hd : dataAt b l i < b) :
    Calls Tryz.prog 21 #[geoV b l i] w fun e w' => e = .returned (.tuple #[layV b l i, .int .i64 0]) ∧ Below w.heap.size w w' := by
  have hc := fun w => bounded_any b l i w
  rw [show bndB b l i = true from decide_eq_true h] at hc
  have hd' : ¬ b ≤ 1 + l + (i + 16) / 16 + (b + 8192 - 1) / 8192 := by unfold dataAt bitsAt nodeB bitsB at hd; omega
  have HL : Hid (lay9 b l i 1 (1 + l) ((i + 16) / 16) (1 + l + (i + 16) / 16) ((b + 8192 - 1) / 8192) (1 + l + (i + 16) / 16 + (b + 8192 - 1) / 8192) = lay9 b l i 1 (1 + l) (nodeB i) (bitsAt l i) (bitsB b) (dataAt b l i)) := by
    show _ = _
    unfold dataAt bitsAt nodeB bitsB
    rw [show b + 8192 - 1 = b + 8191 by omega]
  clear hd
  obtain ⟨h1, h2, h3, h4, h5⟩ := h
  unfold geoV at *
  go_enter Tryz.func21, Tryz.ntmps21
  go_wp2_with (first | (go_at_call 44; refine (hc _).mono ?_; rintro e w' ⟨rfl, rfl⟩))
  refine retCT rfl (w.heap.size + 1) _ rfl (load25L _ _ _ (heap4 _ _ _ _ _) rfl) rfl ⟨?_, ?_⟩
  · exact congrArg (fun x => Ending.returned (.tuple #[.agg x, .int .i64 0])) HL.out
  repeat refine bel_al ?_ _
  exact Below.refl _ _

set_option maxRecDepth 20000 in
set_option maxHeartbeats 400000 in
theorem of_full (b l i : Int) (w : World) (h : 32 ≤ l ∧ l ≤ 256 ∧ 1 ≤ i ∧ i ≤ 65535 ∧ b ≤ 1048576) (h0 : 1 ≤ b) (hd : b ≤ dataAt b l i) :
    Calls Tryz.prog 21 #[geoV b l i] w fun e w' => e = .returned (.tuple #[layZ, .int .i64 2]) ∧ Below w.heap.size w w' := by
  have hc := fun w => bounded_any b l i w
  rw [show bndB b l i = true from decide_eq_true h] at hc
  have hd' : b ≤ 1 + l + (i + 16) / 16 + (b + 8192 - 1) / 8192 := by unfold dataAt bitsAt nodeB bitsB at hd; omega
  clear hd
  obtain ⟨h1, h2, h3, h4, h5⟩ := h
  unfold geoV at *
  go_enter Tryz.func21, Tryz.ntmps21
  go_wp2_with (first | (go_at_call 44; refine (hc _).mono ?_; rintro e w' ⟨rfl, rfl⟩))
  refine retCT rfl (w.heap.size + 1) _ rfl (load25L _ _ _ (heap4 _ _ _ _ _) rfl) rfl ⟨rfl, ?_⟩
  repeat refine bel_al ?_ _
  exact Below.refl _ _

theorem tdiv_neg (b : Int) (h : b ≤ 0) : b ≤ (b + 8192 - 1).tdiv 8192 ∧ (b + 8192 - 1).tdiv 8192 ≤ 0 := by
  rw [Int.tdiv_eq_ediv]
  split
  · omega
  · rw [show Int.sign 8192 = 1 by rfl]; omega
set_option maxRecDepth 20000 in
set_option maxHeartbeats 400000 in
theorem of_neg (b l i : Int) (w : World) (h : 32 ≤ l ∧ l ≤ 256 ∧ 1 ≤ i ∧ i ≤ 65535 ∧ b ≤ 1048576) (h0 : b ≤ 0) (hb : -9223372036854775808 ≤ b) :
    Calls Tryz.prog 21 #[geoV b l i] w fun e w' => e = .returned (.tuple #[layZ, .int .i64 2]) ∧ Below w.heap.size w w' := by
  have hc := fun w => bounded_any b l i w
  rw [show bndB b l i = true from decide_eq_true h] at hc
  have ht := tdiv_neg b h0
  obtain ⟨h1, h2, h3, h4, h5⟩ := h
  have hw : b ≤ wrap64 (1 + l + (i + 16) / 16 + (b + 8192 - 1).tdiv 8192) := by
    generalize (b + 8192 - 1).tdiv 8192 = t at ht
    unfold wrap64; omega
  have e1 : wrap64 (b + 8192) = b + 8192 := by unfold wrap64; omega
  clear ht
  unfold geoV at *
  go_enter Tryz.func21, Tryz.ntmps21
  go_wp2_with (first | (go_at_call 44; refine (hc _).mono ?_; rintro e w' ⟨rfl, rfl⟩))
  refine retCT rfl (w.heap.size + 1) _ rfl (load25L _ _ _ (heap4 _ _ _ _ _) rfl) rfl ⟨rfl, ?_⟩
  repeat refine bel_al ?_ _
  exact Below.refl _ _

theorem of_any (b l i : Int) (w : World) (hb : I64 b) :
    Calls Tryz.prog 21 #[geoV b l i] w fun e w' => e = .returned (.tuple #[ofV b l i, .int .i64 (ofE b l i)]) ∧ Below w.heap.size w w' := by
  unfold ofV ofE
  by_cases h : 32 ≤ l ∧ l ≤ 256 ∧ 1 ≤ i ∧ i ≤ 65535 ∧ b ≤ 1048576
  · by_cases h0 : 1 ≤ b
    · by_cases h1 : dataAt b l i < b
      · have hf : Fine b l i := ⟨h.1, h.2.1, h.2.2.1, h.2.2.2.1, h.2.2.2.2, h1⟩
        rw [if_pos hf, if_pos hf]
        exact of_fine b l i w h h0 h1
      · have hf : ¬ Fine b l i := fun q => h1 q.2.2.2.2.2
        rw [if_neg hf, if_neg hf]
        exact of_full b l i w h h0 (by omega)
    · have hf : ¬ Fine b l i := fun q => by have := q.pos; omega
      rw [if_neg hf, if_neg hf]
      exact of_neg b l i w h (by omega) hb.1
  · have hf : ¬ Fine b l i := fun q => h ⟨q.1, q.2.1, q.2.2.1, q.2.2.2.1, q.2.2.2.2.1⟩
    rw [if_neg hf, if_neg hf]
    exact of_out b l i w h
end Go.Proofs.YtiadlcjdpbkbkaaGreatK
/- Regions whose order is drawn, walked in one order that is told: what only reads may come at any time, what acts comes where nothing else may; S holds all along. -/
namespace Go.Proofs.YtiadlcjdpbkbkaaGreatK
open Go.RowKit

section
variable {P : Program} {ops : Array Oper} {Q : Exit → Act → World → Prop} {S : World → Prop}

/-- May the operations be taken in this order? true: it is taken first; false: nothing else may come up. -/
def ordB (ops : Array Oper) : List (Nat × Bool) → Array Bool → Bool
  | [], listed => (Region.ready .any ops listed).isEmpty
  | (i, true) :: r, listed => (Region.ready .any ops listed).contains i && Region.free .any ops listed i && (ops[i]?).isSome && ordB ops r (listed.setIfInBounds i true)
  | (i, false) :: r, listed => (Region.ready .any ops listed == [i]) && (ops[i]?).isSome && ordB ops r (listed.setIfInBounds i true)

/-- The operations themselves, in that order. -/
def inOrd (ol : List Oper) : List (Nat × Bool) → List (Bool × Oper)
  | [] => []
  | (i, b) :: r => match ol[i]? with
    | some o => (b, o) :: inOrd ol r
    | none => inOrd ol r

def wpOrd (P : Program) (ops : Array Oper) (Q : Exit → Act → World → Prop) (S : World → Prop) : List (Bool × Oper) → Act → World → Prop
  | [], a, w => Q .normal a w
  | (true, o) :: r, a, w => ∃ v, YieldsIf P ops S o v a ∧ wpOrd P ops Q S r (a.put o.dst v) w
  | (false, o) :: r, a, w => if Region.wanted o (yielded ops a.tmps) then o.wp P a w (fun a' w' => S w' ∧ wpOrd P ops Q S r a' w') Q else S w ∧ wpOrd P ops Q S r (a.put o.dst undef) w

theorem wpOrd_any {ol : List Oper} (hs : Region.noSelect ol.toArray = true) (hQ : ∀ d v c a w, Q (.panic c) (a.put d v) w → Q (.panic c) a w) : ∀ (l : List (Nat × Bool)) (listed : Array Bool) (a : Act) (w : World), S w →
    ordB ol.toArray l listed = true → wpOrd P ol.toArray Q S (inOrd ol l) a w → wpAnyH P .any ol.toArray Q S l.length listed a w
  | [], listed, a, w, _, hB, h => wpAnyH_done (by simpa [ordB] using hB) h _
  | (i, true) :: r, listed, a, w, hS, hB, h => by
    simp only [ordB, Bool.and_eq_true] at hB
    obtain ⟨⟨⟨h1, h2⟩, h3⟩, h4⟩ := hB
    obtain ⟨o, hi⟩ := Option.isSome_iff_exists.1 h3
    have hi' : ol[i]? = some o := by simpa using hi
    simp only [inOrd, hi', wpOrd] at h
    obtain ⟨v, hy, hr⟩ := h
    exact wpAnyH_take hi hs h2 h1 (fun c a w => hQ _ _ c a w) hy hS (wpOrd_any hs hQ r _ _ w hS h4 hr)
  | (i, false) :: r, listed, a, w, hS, hB, h => by
    simp only [ordB, Bool.and_eq_true, beq_iff_eq] at hB
    obtain ⟨⟨h1, h3⟩, h2⟩ := hB
    obtain ⟨o, hi⟩ := Option.isSome_iff_exists.1 h3
    have hi' : ol[i]? = some o := by simpa using hi
    simp only [inOrd, hi', wpOrd] at h
    refine wpAnyH_all h1 (by simp) fun j hj => ?_
    obtain rfl : j = i := by simpa using hj
    unfold wpOp
    rw [hi]
    simp only
    split
    · rename_i hw
      rw [if_pos hw] at h
      exact .inl (Oper.wp_mono (fun a' w' h' => ⟨h'.1, wpOrd_any hs hQ r _ a' w' h'.1 h2 h'.2⟩) h)
    · rename_i hw
      rw [if_neg hw] at h
      exact ⟨h.1, wpOrd_any hs hQ r _ _ w h.1 h2 h.2⟩

/-- A region that draws its order, walked in the order l. -/
theorem wp_region_ord {id : Nat} {a : Act} {w : World} {ol : List Oper} (l : List (Nat × Bool)) (hm : P.follows .mixedOrders = true) (hl : l.length = ol.length)
    (hB : (Region.noSelect ol.toArray && ordB ol.toArray l (Array.replicate ol.toArray.size false)) = true) (hQ : ∀ d v c a w, Q (.panic c) (a.put d v) w → Q (.panic c) a w)
    (hS : S w.drew) (h : wpOrd P ol.toArray Q S (inOrd ol l) a w.drew) : (Code.region id ol.toArray true).wp P Q a w := by
  simp only [Bool.and_eq_true] at hB
  have h1 := wpOrd_any hB.1 hQ l _ a w.drew hS hB.2 h
  rw [hl] at h1
  exact wp_region_held hm (by simpa using h1)

theorem wpOrd_nil {a : Act} {w : World} (h : Q .normal a w) : wpOrd P ops Q S [] a w := h
theorem wpOrd_skip {r : List (Bool × Oper)} {b : Bool} {a : Act} {w : World} {o : Oper} (hS : S w) (hw : Region.wanted o (yielded ops a.tmps) = false) (h : wpOrd P ops Q S r (a.put o.dst undef) w) :
    wpOrd P ops Q S ((b, o) :: r) a w := by
  cases b
  · simp only [wpOrd, hw, Bool.false_eq_true, if_false]
    exact ⟨hS, h⟩
  · exact ⟨undef, .inr ⟨hw, rfl⟩, h⟩
theorem wpOrd_yield {r : List (Bool × Oper)} {a : Act} {w : World} {o : Oper} {v : Value} (hw : Region.wanted o (yielded ops a.tmps) = true)
    (hr : ∀ u, S u → (execOp a.eval o).run P u = .ok (.value v) u) (h : wpOrd P ops Q S r (a.put o.dst v) w) : wpOrd P ops Q S ((true, o) :: r) a w :=
  ⟨v, .inl ⟨hw, hr⟩, h⟩
theorem wpOrd_move {r : List (Bool × Oper)} {a : Act} {w : World} {o : Oper} (hw : Region.wanted o (yielded ops a.tmps) = true) (x : Operand) (ho : o.op = .move x)
    (h : wpOrd P ops Q S r (a.put o.dst (a.eval x)) w) : wpOrd P ops Q S ((true, o) :: r) a w :=
  wpOrd_yield hw (fun u _ => by simp [execOp, ho]) h
theorem wpOrd_call {r : List (Bool × Oper)} {a : Act} {w : World} {o : Oper} (hw : Region.wanted o (yielded ops a.tmps) = true) (f : FuncId) (xs : List Operand) (ts : Array TypeId)
    (ho : o.op = .call { callee := .value (.func f), args := xs.toArray, argTypes := ts }) (hc : ∀ args u, (callFunc f args).run P u = .ok (.enter f args) u) (args : List Value) (hx : xs.map a.eval = args)
    (h : Calls P f args.toArray w fun e w' => ∃ v, e = .returned v ∧ S w' ∧ wpOrd P ops Q S r (a.put o.dst v) w') : wpOrd P ops Q S ((false, o) :: r) a w := by
  simp only [wpOrd, hw, if_true]
  unfold Oper.wp execOp
  have e : (do let d ← resolve a.eval { callee := .value (.func f), args := xs.toArray, argTypes := ts } o.type; invoke d.target d.args : Sem Next).run P w = .ok (.enter f args.toArray) w := by
    have hx' : xs.toArray.map a.eval = args.toArray := by rw [← hx]; simp
    simp only [resolve, hx']
    simp [Act.eval, Deferred.ofValue, invoke, hc]
  simp only [ho]
  rw [e]
  unfold Oper.upon
  exact h.mono fun e w' ⟨v, he, h1, h2⟩ => by subst he; exact ⟨h1, h2⟩
end
end Go.Proofs.YtiadlcjdpbkbkaaGreatK
/- Regions whose order is drawn, where two operations may come up in either order: both orders are walked. -/
namespace Go.Proofs.YtiadlcjdpbkbkaaGreatK
open Go.RowKit

section
variable {P : Program} {ops : Array Oper} {Q : Exit → Act → World → Prop} {S : World → Prop}

/-- First the operations of a list that only read, then i and j in either order, then l. -/
def forkB (ops : Array Oper) (i j : Nat) (l : List (Nat × Bool)) : List Nat → Array Bool → Bool
  | [], listed => (Region.ready .any ops listed == [i, j]) && (ops[i]?).isSome && (ops[j]?).isSome && ordB ops ((j, false) :: l) (listed.setIfInBounds i true) && ordB ops ((i, false) :: l) (listed.setIfInBounds j true)
  | k :: r, listed => (Region.ready .any ops listed).contains k && Region.free .any ops listed k && (ops[k]?).isSome && forkB ops i j l r (listed.setIfInBounds k true)

/-- One operation that acts, and what follows. -/
def wpAct (P : Program) (ops : Array Oper) (Q : Exit → Act → World → Prop) (S : World → Prop) (o : Oper) (K : Act → World → Prop) (a : Act) (w : World) : Prop :=
  if Region.wanted o (yielded ops a.tmps) then o.wp P a w (fun a' w' => S w' ∧ K a' w') Q else S w ∧ K (a.put o.dst undef) w

theorem wpOp_act {i : Nat} {o : Oper} (hi : ops[i]? = some o) {K K' : Act → World → Prop} (hK : ∀ a w, S w → K a w → K' a w) {a : Act} {w : World} (h : wpAct P ops Q S o K a w) : wpOp P ops Q i (fun a' w' => S w' ∧ K' a' w') a w := by
  unfold wpOp
  rw [hi]
  simp only
  unfold wpAct at h
  split
  · rename_i hw
    rw [if_pos hw] at h
    exact .inl (Oper.wp_mono (fun a' w' h' => ⟨h'.1, hK a' w' h'.1 h'.2⟩) h)
  · rename_i hw
    rw [if_neg hw] at h
    exact ⟨h.1, hK _ w h.1 h.2⟩

def wpFork (P : Program) (ops : Array Oper) (Q : Exit → Act → World → Prop) (S : World → Prop) (ol : List Oper) (i j : Nat) (l : List (Nat × Bool)) : List Nat → Act → World → Prop
  | [], a, w => (∀ o, ol[i]? = some o → wpAct P ops Q S o (wpOrd P ops Q S (inOrd ol ((j, false) :: l))) a w) ∧ (∀ o, ol[j]? = some o → wpAct P ops Q S o (wpOrd P ops Q S (inOrd ol ((i, false) :: l))) a w)
  | k :: r, a, w => ∀ o, ol[k]? = some o → ∃ v, YieldsIf P ops S o v a ∧ wpFork P ops Q S ol i j l r (a.put o.dst v) w

theorem wpFork_any {ol : List Oper} (hs : Region.noSelect ol.toArray = true) (hQ : ∀ d v c a w, Q (.panic c) (a.put d v) w → Q (.panic c) a w) (i j : Nat) (l : List (Nat × Bool)) : ∀ (r : List Nat) (listed : Array Bool) (a : Act) (w : World), S w →
    forkB ol.toArray i j l r listed = true → wpFork P ol.toArray Q S ol i j l r a w → wpAnyH P .any ol.toArray Q S (r.length + (l.length + 2)) listed a w
  | [], listed, a, w, hS, hB, h => by
    simp only [forkB, Bool.and_eq_true, beq_iff_eq] at hB
    obtain ⟨⟨⟨⟨h1, h2⟩, h3⟩, h4⟩, h5⟩ := hB
    obtain ⟨oi, hoi⟩ := Option.isSome_iff_exists.1 h2
    obtain ⟨oj, hoj⟩ := Option.isSome_iff_exists.1 h3
    have hoi' : ol[i]? = some oi := by simpa using hoi
    have hoj' : ol[j]? = some oj := by simpa using hoj
    rw [show ([] : List Nat).length + (l.length + 2) = (l.length + 1) + 1 by simp]
    refine wpAnyH_all h1 (by simp) fun k hk => ?_
    simp only [List.mem_cons, List.not_mem_nil, or_false] at hk
    rcases hk with rfl | rfl
    · exact wpOp_act hoi (fun a' w' hS' hK => wpOrd_any hs hQ ((j, false) :: l) _ a' w' hS' h4 hK) (h.1 oi hoi')
    · exact wpOp_act hoj (fun a' w' hS' hK => wpOrd_any hs hQ ((i, false) :: l) _ a' w' hS' h5 hK) (h.2 oj hoj')
  | k :: r, listed, a, w, hS, hB, h => by
    simp only [forkB, Bool.and_eq_true] at hB
    obtain ⟨⟨⟨h1, h2⟩, h3⟩, h4⟩ := hB
    obtain ⟨o, hi⟩ := Option.isSome_iff_exists.1 h3
    have hi' : ol[k]? = some o := by simpa using hi
    obtain ⟨v, hy, hr⟩ := h o hi'
    rw [show (k :: r).length + (l.length + 2) = r.length + (l.length + 2) + 1 by simp; omega]
    exact wpAnyH_take hi hs h2 h1 (fun c a w => hQ _ _ c a w) hy hS (wpFork_any hs hQ i j l r _ _ w hS h4 hr)

/-- A region that draws its order, walked so. -/
theorem wp_region_fork {id : Nat} {a : Act} {w : World} {ol : List Oper} (r : List Nat) (i j : Nat) (l : List (Nat × Bool)) (hm : P.follows .mixedOrders = true) (hl : r.length + (l.length + 2) = ol.length)
    (hB : (Region.noSelect ol.toArray && forkB ol.toArray i j l r (Array.replicate ol.toArray.size false)) = true) (hQ : ∀ d v c a w, Q (.panic c) (a.put d v) w → Q (.panic c) a w)
    (hS : S w.drew) (h : wpFork P ol.toArray Q S ol i j l r a w.drew) : (Code.region id ol.toArray true).wp P Q a w := by
  simp only [Bool.and_eq_true] at hB
  have h1 := wpFork_any hB.1 hQ i j l r _ a w.drew hS hB.2 h
  rw [hl] at h1
  exact wp_region_held hm (by simpa using h1)

theorem wpFork_yield {ol : List Oper} {i j : Nat} {l : List (Nat × Bool)} {k : Nat} {r : List Nat} {a : Act} {w : World} {o : Oper} {v : Value} (ho : ol[k]? = some o) (hw : Region.wanted o (yielded ops a.tmps) = true)
    (hr : ∀ u, S u → (execOp a.eval o).run P u = .ok (.value v) u) (h : wpFork P ops Q S ol i j l r (a.put o.dst v) w) : wpFork P ops Q S ol i j l (k :: r) a w := by
  intro o' ho'
  obtain rfl : o = o' := by rw [ho] at ho'; exact Option.some.inj ho'
  exact ⟨v, .inl ⟨hw, hr⟩, h⟩
theorem wpFork_nil {ol : List Oper} {i j : Nat} {l : List (Nat × Bool)} {a : Act} {w : World} {oi oj : Oper} (hi : ol[i]? = some oi) (hj : ol[j]? = some oj)
    (h1 : wpOrd P ops Q S (inOrd ol ((i, false) :: (j, false) :: l)) a w) (h2 : wpOrd P ops Q S (inOrd ol ((j, false) :: (i, false) :: l)) a w) : wpFork P ops Q S ol i j l [] a w := by
  refine ⟨fun o ho => ?_, fun o ho => ?_⟩
  · obtain rfl : oi = o := by rw [hi] at ho; exact Option.some.inj ho
    simp only [inOrd, hi, hj, wpOrd] at h1 ⊢
    exact h1
  · obtain rfl : oj = o := by rw [hj] at ho; exact Option.some.inj ho
    simp only [inOrd, hi, hj, wpOrd] at h2 ⊢
    exact h2
end
end Go.Proofs.YtiadlcjdpbkbkaaGreatK
/- An inode, its twelve numbers and its sixty-four bytes as values: loads, stores and results of them; no condition. -/
namespace Go.Proofs.YtiadlcjdpbkbkaaGreatK
open Go.RowKit

/-- An inode: its kind, links, size, blocks, and its twelve numbers. -/
def node16 (k l s b : Int) (d : Nat → Int) : Array Value :=
  #[.int .u16 k, .int .u16 l, .int .u32 s, .int .u32 b, .int .u32 (d 0), .int .u32 (d 1), .int .u32 (d 2), .int .u32 (d 3), .int .u32 (d 4), .int .u32 (d 5), .int .u32 (d 6), .int .u32 (d 7), .int .u32 (d 8), .int .u32 (d 9), .int .u32 (d 10), .int .u32 (d 11)]
def w12 (d : Nat → Int) : Array Value :=
  #[.int .u32 (d 0), .int .u32 (d 1), .int .u32 (d 2), .int .u32 (d 3), .int .u32 (d 4), .int .u32 (d 5), .int .u32 (d 6), .int .u32 (d 7), .int .u32 (d 8), .int .u32 (d 9), .int .u32 (d 10), .int .u32 (d 11)]
/-- Its fields are within their bounds. -/
structure NodeOk (k l s b : Int) (d : Nat → Int) : Prop where
  k : 0 ≤ k ∧ k < 65536
  l : 0 ≤ l ∧ l < 65536
  s : 0 ≤ s ∧ s < 4294967296
  b : 0 ≤ b ∧ b < 4294967296
  d : ∀ i, 0 ≤ d i ∧ d i < 4294967296

theorem w12_size (d : Nat → Int) : (w12 d).size = 12 := rfl
theorem node_size (k l s b : Int) (d : Nat → Int) : (node16 k l s b d).size = 16 := rfl
theorem w12_get (d : Nat → Int) (i : Nat) (h : i < 12) : (w12 d)[i]? = some (.int .u32 (d i)) :=
  match i, h with
  | 0, _ => rfl | 1, _ => rfl | 2, _ => rfl | 3, _ => rfl | 4, _ => rfl | 5, _ => rfl | 6, _ => rfl | 7, _ => rfl | 8, _ => rfl | 9, _ => rfl | 10, _ => rfl | 11, _ => rfl
theorem w12_ext {d : Nat → Int} {cs : Array Value} (hs : cs.size = 12) (h : ∀ i, i < 12 → cs[i]? = some (.int .u32 (d i))) : cs = w12 d := by
  apply Array.ext_getElem?
  intro i
  by_cases hi : i < 12
  · rw [h i hi, w12_get d i hi]
  · rw [Array.getElem?_eq_none (by omega), Array.getElem?_eq_none (by rw [w12_size]; omega)]
theorem w12_set (d : Nat → Int) (i : Nat) (x : Int) : (w12 d).setIfInBounds i (.int .u32 x) = w12 (upd d i x) := by
  refine w12_ext (by rw [Array.size_setIfInBounds, w12_size]) fun j hj => ?_
  rw [Array.getElem?_setIfInBounds]
  by_cases e : i = j
  · subst e; simp [w12_size, hj, upd]
  · have e' : ¬ j = i := fun q => e q.symm
    simp [e, e', w12_get _ _ hj, upd]
theorem w12_congr {d e : Nat → Int} (h : ∀ i, i < 12 → d i = e i) : w12 d = w12 e := w12_ext (w12_size d) fun i hi => by rw [w12_get d i hi, h i hi]
theorem w12_one (d : Nat → Int) : (w12 d).all (·.oneCell') = true := by simp [w12, Value.oneCell']
theorem node_one (k l s b : Int) (d : Nat → Int) : (node16 k l s b d).all (·.oneCell') = true := by simp [node16, Value.oneCell']
theorem node_congr {k l s b k' l' s' b' : Int} {d e : Nat → Int} (hk : k = k') (hl : l = l') (hs : s = s') (hb : b = b') (h : ∀ i, i < 12 → d i = e i) : node16 k l s b d = node16 k' l' s' b' e := by
  subst hk hl hs hb
  unfold node16
  rw [h 0 (by omega), h 1 (by omega), h 2 (by omega), h 3 (by omega), h 4 (by omega), h 5 (by omega), h 6 (by omega), h 7 (by omega), h 8 (by omega), h 9 (by omega), h 10 (by omega), h 11 (by omega)]
theorem row64_one (f : Nat → Int) : (rowA f 64).all (·.oneCell') = true := by
  rw [Array.all_eq_true_iff_forall_mem]
  intro v hv
  exact rowA_one f 64 v (by simpa using hv)

theorem size27 : (Tryz.prog.info? 156).map (·.size) = some 16 := by kernel_rfl
theorem size62 : (Tryz.prog.info? 191).map (·.size) = some 12 := by kernel_rfl
theorem size29 : (Tryz.prog.info? 166).map (·.size) = some 64 := by kernel_rfl
theorem size31 : (Tryz.prog.info? 167).map (·.size) = some 64 := by kernel_rfl
theorem size43 : (Tryz.prog.info? 43).map (·.size) = some 9 := by kernel_rfl
theorem size41 : (Tryz.prog.info? 41).map (·.size) = some 3 := by kernel_rfl
theorem zero29 : ∀ w, (zeroValue 166).run Tryz.prog w = .ok (.agg (rowA nought 64)) w := (zero_of_info (show (Tryz.prog.info? 166).map (fun i => (i.zero, i.size)) = some (some (.agg (rowA nought 64)), 64) by kernel_rfl)).1
theorem zero31 : ∀ w, (zeroValue 167).run Tryz.prog w = .ok (.agg (rowA nought 64)) w := (zero_of_info (show (Tryz.prog.info? 167).map (fun i => (i.zero, i.size)) = some (some (.agg (rowA nought 64)), 64) by kernel_rfl)).1
theorem zero62 : ∀ w, (zeroValue 191).run Tryz.prog w = .ok (.agg (w12 nought)) w := (zero_of_info (show (Tryz.prog.info? 191).map (fun i => (i.zero, i.size)) = some (some (.agg (w12 nought)), 12) by kernel_rfl)).1
theorem zero27 : ∀ w, (zeroValue 156).run Tryz.prog w = .ok (.agg (node16 0 0 0 0 nought)) w := (zero_of_info (show (Tryz.prog.info? 156).map (fun i => (i.zero, i.size)) = some (some (.agg (node16 0 0 0 0 nought)), 16) by kernel_rfl)).1

section
variable {ops : Array Oper} {rest : List Oper} {o : Oper} {a : Act} {w : World} {Q : Exit → Act → World → Prop}
/-- A whole row is loaded, of any type that is a row. -/
theorem wpList_ldR (ty : TypeId) {d : TypeDesc} (hu : Tryz.prog.underlying ty = some d) (hd : d.isRow = true) (hw : Region.wanted o (yielded ops a.tmps) = true) (x : Operand) (ho : o.op = .load ty x)
    (g : Nat) (hx : a.eval x = .pointer (some ⟨g, 0, none⟩)) (cs : Array Value) (t : TypeId) (fr : Nat × Nat) (hi : (Tryz.prog.info? ty).map (·.size) = some cs.size) (hg : w.heap[g]? = some (.cells cs t fr))
    (h : wpList Tryz.prog ops Q rest (a.put o.dst (.agg cs)) w) : wpList Tryz.prog ops Q (o :: rest) a w := by
  unfold wpList
  rw [if_pos hw]
  refine .inl ?_
  unfold Oper.wp execOp
  simp only [ho, hx, Instr.loadAt, Instr.sureAddr, Sem.run_bind, Sem.run_pure, Result.andThen_ok, run_loadVar_row w g t ty cs fr d hg hu (by cases d <;> first | rfl | cases hd) hi]
  exact h
theorem wpList_stR (ty : TypeId) (hgd : o.guard = none) (x y : Operand) (ho : o.op = .store ty x y)
    (g : Nat) (cs c0 : Array Value) (t : TypeId) (hi : (Tryz.prog.info? ty).map (·.size) = some cs.size) (hs : c0.size = cs.size) (h1 : cs.all (·.oneCell') = true)
    (hx : a.eval x = .pointer (some ⟨g, 0, none⟩)) (hy : a.eval y = .agg cs) (hg : w.heap[g]? = some (.cells c0 t))
    (h : wpList Tryz.prog ops Q rest (a.put o.dst undef) (w.setRow g cs)) : wpList Tryz.prog ops Q (o :: rest) a w :=
  wpList_plain hgd fun _ hK => by
    unfold Oper.wp execOp
    simp only [ho, hx, hy, Instr.storeAt, Instr.sureAddr, Sem.run_bind, Sem.run_pure, Result.andThen_ok, run_storeVar_row w g t ty c0 cs hg hi hs h1]
    exact hK _ _ h
theorem wpList_stNew (ty : TypeId) (hgd : o.guard = none) (x y : Operand) (ho : o.op = .store ty x y)
    (g : Nat) (cs c0 : Array Value) (t : TypeId) (hi : (Tryz.prog.info? ty).map (·.size) = some cs.size) (hs : c0.size = cs.size) (h1 : cs.all (·.oneCell') = true)
    (hx : a.eval x = .pointer (some ⟨g, 0, none⟩)) (hgw : g = w.heap.size) (hy : a.eval y = .agg cs)
    (h : wpList Tryz.prog ops Q rest (a.put o.dst undef) (w.alloc (.cells cs t))) : wpList Tryz.prog ops Q (o :: rest) a (w.alloc (.cells c0 t)) := by
  subst hgw
  exact wpList_stR ty hgd x y ho w.heap.size cs c0 t hi hs h1 hx hy (heap_alloc_new _ _) (by rw [World.setRow_alloc_new]; exact h)
end
theorem retR {fn : Func} {p : Tmp} {ty : TypeId} {R : Ending → World → Prop} {a : Act} {w : World} {d : TypeDesc} (hu : Tryz.prog.underlying ty = some d) (hd : d.isRow = true)
    (h : fn.results = #[.cell p ty]) (g : Nat) (cs : Array Value) (t : TypeId) (hi : (Tryz.prog.info? ty).map (·.size) = some cs.size)
    (hp : a.tmps.getD p undef = .pointer (some ⟨g, 0, none⟩)) (hg : w.heap[g]? = some (.cells cs t)) (hdf : a.defers = []) (hR : R (.returned (.agg cs)) w) : bodyPost Tryz.prog fn R .ret a w :=
  bodyPost_ret (results_cell_row h a.tmps w g t cs (0, 0) _ hp hg hu (by cases d <;> first | rfl | cases hd) hi) hdf hR

theorem idx62 (d : Nat → Int) (k : Nat) (hk : k < 12) (w : World) : (Instr.index 191 (.agg (w12 d)) (.int .i64 k)).run Tryz.prog w = .ok (.int .u32 (d k)) w := by
  have h := w12_get d k hk
  simp [Instr.index, run_underlying Tryz.underlying191, asIntOf, part, Tryz.isAgg92, h, go_sem]
  intro h9; omega
theorem arrayAt31 (a : Option Addr) (n c : Nat) (h : 64 ≤ n) (w : World) : (Instr.arrayAt 167 (.slice a n c)).run Tryz.prog w = .ok (.pointer a) w := by
  have : ¬ n < 64 := by omega
  simp [Instr.arrayAt, run_underlying Tryz.underlying167, this]
theorem arrayAt25 (a : Option Addr) (n c : Nat) (h : 10 ≤ n) (w : World) : (Instr.arrayAt 154 (.slice a n c)).run Tryz.prog w = .ok (.pointer a) w := by
  have : ¬ n < 10 := by omega
  simp [Instr.arrayAt, run_underlying Tryz.underlying154, this]
end Go.Proofs.YtiadlcjdpbkbkaaGreatK
/- The document's Of: the layout of a geometry, or none; for every geometry. -/
namespace Go.Proofs.YtiadlcjdpbkbkaaGreatK
open Go.RowKit

/-- The number in a cell. -/
def cellN (w : World) (g off : Nat) : Nat := (intOf ((w.cell? ⟨g, off, none⟩).getD undef)).toNat
theorem cellN_of {w : World} {g off : Nat} {t : TypeId} {cs : Array Value} {x : Int} (h : w.heap[g]? = some (.cells cs t)) (hx : cs[off]? = some (.int .i64 x)) : cellN w g off = x.toNat := by
  unfold cellN
  rw [cell_of_row w g off _ t _ h, hx]
  rfl
theorem heap3n (w : World) (A B C : Obj) : (((w.alloc A).alloc B).alloc C).heap[w.heap.size + 2]? = some C := by
  have h := heap_alloc_new ((w.alloc A).alloc B) C
  have e : ((w.alloc A).alloc B).heap.size = w.heap.size + 2 := by simp
  rwa [e] at h
end Go.Proofs.YtiadlcjdpbkbkaaGreatK
/- stands of shape, and the document's Fits: is a layout just what its geometry says? For every layout. -/
namespace Go.Proofs.YtiadlcjdpbkbkaaGreatK
open Go.RowKit

/-- Is a layout just what its geometry says? -/
def standsB (b l i a c d e f g : Int) : Bool := decide (Fine b l i ∧ a = 1 ∧ c = 1 + l ∧ d = nodeB i ∧ e = bitsAt l i ∧ f = bitsB b ∧ g = dataAt b l i)
theorem heap_kept {w w' : World} {g : Nat} {o : Obj} (h : w.heap[g]? = some o) (hb : Below w.heap.size w w') : w'.heap[g]? = some o :=
  (hb.block g (Array.getElem?_eq_some_iff.1 h).1).trans h
theorem below_next {w w1 w2 : World} (h : Below w.heap.size w w1) (hb : Below w1.heap.size w1 w2) : Below w.heap.size w w2 := h.trans (hb.mono h.size)
theorem below_new (w : World) (o : Obj) : Below w.heap.size w (w.alloc o) := (Below.refl _ _).alloc (Nat.le_refl _) _

theorem wpList_loadL {ops : Array Oper} {rest : List Oper} {o : Oper} {a : Act} {w : World} {Q : Exit → Act → World → Prop} (hgd : o.guard = none) (x : Operand) (ho : o.op = .load 43 x)
    (g : Nat) (hx : a.eval x = .pointer (some ⟨g, 0, none⟩)) (cs : Array Value) (hs : cs.size = 9) (hg : w.heap[g]? = some (.cells cs 43))
    (h : wpList Tryz.prog ops Q rest (a.put o.dst (.agg cs)) w) : wpList Tryz.prog ops Q (o :: rest) a w :=
  wpList_load_row hgd 43 x ho g hx 43 cs (0, 0) _ hg Tryz.underlying43 rfl (by rw [hs]; exact size25L) h

theorem lay_cells {w : World} {h0 : Nat} {b l i a c d e f g : Int} (h : w.heap[h0]? = some (.cells (lay9 b l i a c d e f g) 43)) :
    w.cell? ⟨h0, 0, none⟩ = some (.int .i64 b) ∧ w.cell? ⟨h0, 1, none⟩ = some (.int .i64 l) ∧ w.cell? ⟨h0, 2, none⟩ = some (.int .i64 i) ∧ w.cell? ⟨h0, 3, none⟩ = some (.int .i64 a) ∧ w.cell? ⟨h0, 4, none⟩ = some (.int .i64 c) ∧ w.cell? ⟨h0, 5, none⟩ = some (.int .i64 d) ∧ w.cell? ⟨h0, 6, none⟩ = some (.int .i64 e) ∧ w.cell? ⟨h0, 7, none⟩ = some (.int .i64 f) ∧ w.cell? ⟨h0, 8, none⟩ = some (.int .i64 g) ∧ h0 < w.heap.size := by
  refine ⟨?_, ?_, ?_, ?_, ?_, ?_, ?_, ?_, ?_, (Array.getElem?_eq_some_iff.1 h).1⟩ <;> (rw [cell_of_row w h0 _ _ 43 _ h]; rfl)
end Go.Proofs.YtiadlcjdpbkbkaaGreatK
/- The twelve numbers of an inode, the program's and the document's; what is told of an inode; sixty-four bytes of a slice; no condition. -/
namespace Go.Proofs.YtiadlcjdpbkbkaaGreatK
open Go.RowKit

def w10 (d e : Nat → Int) : Array Value :=
  #[.int .u32 (d 0), .int .u32 (d 1), .int .u32 (d 2), .int .u32 (d 3), .int .u32 (d 4), .int .u32 (d 5), .int .u32 (d 6), .int .u32 (d 7), .int .u32 (d 8), .int .u32 (d 9), .int .u32 (e 10), .int .u32 (e 11)]
theorem run_copyN (W : World) (ty : TypeId) (g gs : Nat) (k l s b : Int) (d : Nat → Int) (t t' : TypeId) (hF : W.heap[g]? = some (.cells (w12 nought) t)) (hG : W.heap[gs]? = some (.cells (node16 k l s b d) t')) :
    (Builtin.copy_ #[196, 196] ty #[.slice (some ⟨g, 0, none⟩) 12 12, .slice (some ⟨gs, 4, none⟩) 10 10]).run Tryz.prog W = .ok (goInt 10) (W.setRow g (w10 d nought)) := by
  have hi : (Tryz.prog.info? 92).map (·.size) = some 1 := by kernel_rfl
  have key := run_copy_row (P := Tryz.prog) W 196 196 ty 92 g 0 12 12 ⟨gs, 4, none⟩ 10 10 (w12 nought) t
    [.int .u32 (d 0), .int .u32 (d 1), .int .u32 (d 2), .int .u32 (d 3), .int .u32 (d 4), .int .u32 (d 5), .int .u32 (d 6), .int .u32 (d 7), .int .u32 (d 8), .int .u32 (d 9)] Tryz.underlying196 hi hF rfl (fun j v hv => by
      rw [Go.WideShapes.add_plain, cell_of_row W gs _ _ t' _ hG]
      match j, hv with
      | 0, hv | 1, hv | 2, hv | 3, hv | 4, hv | 5, hv | 6, hv | 7, hv | 8, hv | 9, hv => exact hv
      | j + 10, hv => simp at hv) (by rw [w12_size]; simp) (by simp [Value.oneCell'])
  exact key
theorem wpList_copyN {ops : Array Oper} {rest : List Oper} {o : Oper} {a : Act} {w : World} {Q : Exit → Act → World → Prop} (hgd : o.guard = none) (x y : Operand)
    (ho : o.op = .call { callee := .builtin .copy, args := #[x, y], argTypes := #[196, 196] }) (g gs : Nat) (k l s b : Int) (d : Nat → Int) (t t' : TypeId)
    (hd : a.eval x = .slice (some ⟨g, 0, none⟩) 12 12) (hs : a.eval y = .slice (some ⟨gs, 4, none⟩) 10 10)
    (hF : w.heap[g]? = some (.cells (w12 nought) t)) (hG : w.heap[gs]? = some (.cells (node16 k l s b d) t'))
    (h : wpList Tryz.prog ops Q rest (a.put o.dst (goInt 10)) (w.setRow g (w10 d nought))) : wpList Tryz.prog ops Q (o :: rest) a w :=
  wpList_plain hgd fun _ hK => by
    have hrun := run_copyN w o.type g gs k l s b d t t' hF hG
    unfold Oper.wp
    simp [execOp, ho, resolve, invoke, builtin, hd, hs, hrun, Result.andThen]
    exact hK _ _ h

theorem heap_new3 (w : World) (A B C : Obj) : (((w.alloc A).alloc B).alloc C).heap[w.heap.size + 2]? = some C := by
  have h := heap_alloc_new ((w.alloc A).alloc B) C
  rwa [World.size_alloc, World.size_alloc] at h
set_option maxRecDepth 20000 in
set_option maxHeartbeats 400000 in
theorem numbers_any (k l s b : Int) (d : Nat → Int) (w : World) :
    Calls Tryz.prog 124 #[.agg (node16 k l s b d)] w fun e w' => e = .returned (.agg (w12 d)) ∧ Below w.heap.size w w' := by
  have z62 := zero62
  go_enter Tryz.func124, Tryz.ntmps124
  go_wp2
  go_still_tail 3, (by kernel_rfl)
  change wpList _ _ _ _ _ (World.drew _)
  have hF : (((w.alloc (.cells (node16 k l s b d) 156)).alloc (.cells (w12 nought) 191)).alloc (.cells (w12 nought) 191)).drew.heap[w.heap.size + 2]? = some (.cells (w12 nought) 191) := by
    show (((w.alloc (.cells (node16 k l s b d) 156)).alloc (.cells (w12 nought) 191)).alloc (.cells (w12 nought) 191)).heap[w.heap.size + 2]? = _
    exact heap_new3 _ _ _ _
  have hG : (((w.alloc (.cells (node16 k l s b d) 156)).alloc (.cells (w12 nought) 191)).alloc (.cells (w12 nought) 191)).drew.heap[w.heap.size]? = some (.cells (node16 k l s b d) 156) := by
    show (((w.alloc (.cells (node16 k l s b d) 156)).alloc (.cells (w12 nought) 191)).alloc (.cells (w12 nought) 191)).heap[w.heap.size]? = _
    rw [heap_alloc_old _ _ (by simp; omega)]
    exact heap_alloc2_old _ _ _
  refine wpList_copyN rfl _ _ rfl (w.heap.size + 2) w.heap.size k l s b d 191 156 rfl rfl hF hG ?_
  have hW : (((w.alloc (.cells (node16 k l s b d) 156)).alloc (.cells (w12 nought) 191)).alloc (.cells (w12 nought) 191)).drew.setRow (w.heap.size + 2) (w10 d nought) = (((w.alloc (.cells (node16 k l s b d) 156)).alloc (.cells (w12 nought) 191)).alloc (.cells (w10 d nought) 191)).drew := by
    have h := World.setRow_alloc_new ((w.alloc (.cells (node16 k l s b d) 156)).alloc (.cells (w12 nought) 191)) (w12 nought) (w10 d nought) 191
    rw [World.size_alloc, World.size_alloc] at h
    exact congrArg World.drew h
  rw [hW]
  clear hF hG hW
  simp only [Act.put, List.setIfInBounds_toArray, List.set_cons_succ, List.set_cons_zero]
  unfold node16 w10
  go_wp2_with (first | refine wpList_stR 191 rfl _ _ rfl _ (w12 d) _ 191 (by rw [w12_size]; exact size62) (by rfl) (w12_one d) rfl rfl (heap3 _ _ _ _) ?_)
  refine retR Tryz.underlying191 rfl rfl (w.heap.size + 1) (w12 d) 191 (by rw [w12_size]; exact size62) rfl (setRow_heap _ _ _ _ _ _ (heap3 _ _ _ _)) rfl ⟨rfl, ?_⟩
  exact below_setRow (bel_al (bel_al (below_new _ _) _) _).drew (by omega) _

end Go.Proofs.YtiadlcjdpbkbkaaGreatK
/- The document's put and get over sixty-four bytes, and where a number of an inode stands; places inside. -/
namespace Go.Proofs.YtiadlcjdpbkbkaaGreatK
open Go.RowKit

theorem nplace_any (k : Int) (w : World) (h : 0 ≤ k ∧ k ≤ 100) : Calls Tryz.prog 125 #[.int .i64 k] w fun e w' => e = .returned (.int .i64 (12 + 4 * k)) ∧ w' = w := by
  obtain ⟨h0, h1⟩ := h
  go_enter Tryz.func125, Tryz.ntmps125
  go_wp2
  go_ret
  exact ⟨rfl, rfl⟩

end Go.Proofs.YtiadlcjdpbkbkaaGreatK
/- Encode of node: the sixty-four bytes of an inode; for every inode. -/
namespace Go.Proofs.YtiadlcjdpbkbkaaGreatK
open Go.RowKit

/-- The bytes of an inode with its first m numbers. -/
def encN (k l s b : Int) (d : Nat → Int) : Nat → Nat → Int
  | 0 => putN (putN (putN (putN nought 0 k 2) 2 l 2) 4 s 4) 8 b 4
  | m + 1 => putN (encN k l s b d m) (12 + 4 * m) (d m) 4

theorem wpList_ldC {ops : Array Oper} {rest : List Oper} {o : Oper} {a : Act} {w : World} {Q : Exit → Act → World → Prop} (ty : TypeId) (hagg : ∀ w, (isAgg ty).run Tryz.prog w = .ok false w) (hw : Region.wanted o (yielded ops a.tmps) = true) (x : Operand) (ho : o.op = .load ty x)
    (g j : Nat) (hx : a.eval x = .pointer (some ⟨g, j, none⟩)) (v : Value) (hc : w.cell? ⟨g, j, none⟩ = some v)
    (h : wpList Tryz.prog ops Q rest (a.put o.dst v) w) : wpList Tryz.prog ops Q (o :: rest) a w := by
  unfold wpList
  rw [if_pos hw]
  refine .inl ?_
  unfold Oper.wp execOp
  simp only [ho, hx]
  simp [Instr.loadAt, Instr.sureAddr, loadVar, hagg, hc, go_sem]
  exact h

theorem load59 (w : World) (g : Nat) (f : Nat → Int) (h : w.heap[g]? = some (.cells (blk f) 47)) : (loadVar 47 ⟨g, 0, none⟩).run Tryz.prog w = .ok (.agg (blk f)) w :=
  run_loadVar_row w g 47 47 (blk f) (0, 0) _ h Tryz.underlying47 rfl (by rw [blk_size]; exact size25)
theorem wpOrd_loadF {ops : Array Oper} {Q : Exit → Act → World → Prop} {S : World → Prop} {r : List (Bool × Oper)} {a : Act} {w : World} {o : Oper} (hw : Region.wanted o (yielded ops a.tmps) = true)
    (x : Operand) (ho : o.op = .load 47 x) (g : Nat) (hx : a.eval x = .pointer (some ⟨g, 0, none⟩)) (f : Nat → Int) (hg : w.heap[g]? = some (.cells (blk f) 47))
    (h : S w ∧ wpOrd Tryz.prog ops Q S r (a.put o.dst (.agg (blk f))) w) : wpOrd Tryz.prog ops Q S ((false, o) :: r) a w := by
  simp only [wpOrd, hw, if_true]
  unfold Oper.wp execOp
  simp only [ho, hx, Instr.loadAt, Instr.sureAddr, Sem.run_bind, Sem.run_pure, Result.andThen_ok, load59 w g f hg]
  exact h
theorem wpOrd_storeB {ops : Array Oper} {Q : Exit → Act → World → Prop} {S : World → Prop} {r : List (Bool × Oper)} {a : Act} {w : World} {o : Oper} (hw : Region.wanted o (yielded ops a.tmps) = true)
    (x y : Operand) (ho : o.op = .store 47 x y) (g : Nat) (f f0 : Nat → Int) (hx : a.eval x = .pointer (some ⟨g, 0, none⟩)) (hy : a.eval y = .agg (blk f)) (hg : w.heap[g]? = some (.cells (blk f0) 47))
    (h : S (w.setRow g (blk f)) ∧ wpOrd Tryz.prog ops Q S r (a.put o.dst undef) (w.setRow g (blk f))) : wpOrd Tryz.prog ops Q S ((false, o) :: r) a w := by
  simp only [wpOrd, hw, if_true]
  unfold Oper.wp execOp
  simp only [ho, hx, hy, Instr.storeAt, Instr.sureAddr, Sem.run_bind, Sem.run_pure, Result.andThen_ok, run_storeVar_row w g 47 47 (blk f0) (blk f) hg (by rw [blk_size]; exact size25) (by rw [blk_size, blk_size]) (blk_one f)]
  exact h

/-- An inode's row, a row for the result and a block beside them, made since w. -/
structure EncS (w W : World) (N : Array Value) (g : Nat) (f : Nat → Int) : Prop where
  node : W.heap[w.heap.size]? = some (.cells N 156)
  res : W.heap[w.heap.size + 1]? = some (.cells (rowA nought 64) 167)
  blk : W.heap[g]? = some (.cells (blk f) 47)
  far : w.heap.size + 2 ≤ g
  bel : Below w.heap.size w W
theorem EncS.call {w W W' : World} {N : Array Value} {g : Nat} {f : Nat → Int} (h : EncS w W N g f) (hb : Below W.heap.size W W') : EncS w W' N g f :=
  ⟨heap_kept h.node hb, heap_kept h.res hb, heap_kept h.blk hb, h.far, below_next h.bel hb⟩
theorem EncS.store {w W : World} {N : Array Value} {g : Nat} {f : Nat → Int} (h : EncS w W N g f) (f' : Nat → Int) : EncS w (W.setRow g (Proofs.YtiadlcjdpbkbkaaGreatK.blk f')) N g f' :=
  ⟨(setRow_other _ _ _ _ (by have := h.far; omega)).trans h.node, (setRow_other _ _ _ _ (by have := h.far; omega)).trans h.res, setRow_heap _ _ _ _ _ _ h.blk, h.far, below_setRow h.bel (by have := h.far; omega) _⟩
theorem EncS.drew {w W : World} {N : Array Value} {g : Nat} {f : Nat → Int} (h : EncS w W N g f) : EncS w W.drew N g f := ⟨h.node, h.res, h.blk, h.far, h.bel.drew⟩
theorem EncS.cell {w W : World} {N : Array Value} {g : Nat} {f : Nat → Int} (h : EncS w W N g f) (j : Nat) (v : Value) (hv : N[j]? = some v) : W.cell? ⟨w.heap.size, j, none⟩ = some v :=
  (cell_of_row W _ j N 156 _ h.node).trans hv

set_option maxRecDepth 20000 in
set_option maxHeartbeats 1000000 in
theorem encode_any (k l s b : Int) (d : Nat → Int) (w : World) (h : NodeOk k l s b d) :
    Calls Tryz.prog 102 #[.agg (node16 k l s b d)] w fun e w' => e = .returned (.agg (rowA (encN k l s b d 12) 64)) ∧ Below w.heap.size w w' := by
  have z31 := zero31
  have z25 := zero25
  have c0 : ∀ W : World, Calls Tryz.prog 123 #[.agg (blk nought), .int .i64 0, .int .u16 k] W fun e w' => e = .returned (.agg (blk (putN nought 0 k 2))) ∧ Below W.heap.size W w' := fun W => set16_in _ 0 k W (by omega) h.k
  have c1 : ∀ W : World, Calls Tryz.prog 123 #[.agg (blk (putN nought 0 k 2)), .int .i64 2, .int .u16 l] W fun e w' => e = .returned (.agg (blk (putN (putN nought 0 k 2) 2 l 2))) ∧ Below W.heap.size W w' := fun W => set16_in _ 2 l W (by omega) h.l
  have c2 : ∀ W : World, Calls Tryz.prog 47 #[.agg (blk (putN (putN nought 0 k 2) 2 l 2)), .int .i64 4, .int .u32 s] W fun e w' => e = .returned (.agg (blk (putN (putN (putN nought 0 k 2) 2 l 2) 4 s 4))) ∧ Below W.heap.size W w' := fun W => set32_in _ 4 s W (by omega) h.s
  have c3 : ∀ W : World, Calls Tryz.prog 47 #[.agg (blk (putN (putN (putN nought 0 k 2) 2 l 2) 4 s 4)), .int .i64 8, .int .u32 b] W fun e w' => e = .returned (.agg (blk (encN k l s b d 0))) ∧ Below W.heap.size W w' := fun W => set32_in _ 8 b W (by omega) h.b
  have H4 : Hid (∀ i, 0 ≤ d i ∧ d i < 4294967296) := h.d
  have HS : Hid (∀ (m : Nat) (W : World), m < 12 → Calls Tryz.prog 47 #[.agg (blk (encN k l s b d m)), .int .i64 (12 + 4 * (m : Int)), .int .u32 (d m)] W fun e w' => e = .returned (.agg (blk (encN k l s b d (m + 1)))) ∧ Below W.heap.size W w') := fun m W hm => by
    have := set32_in (encN k l s b d m) (12 + 4 * m) (d m) W (by omega) (h.d m)
    rwa [show ((12 + 4 * m : Nat) : Int) = 12 + 4 * (m : Int) by omega] at this
  have HF : Hid (∀ f : Nat → Int, rowA (from' f 0) 64 = rowA f 64) := fun f => rowA_congr fun i _ => by simp [from']
  have hnum := fun W => numbers_any k l s b d W
  have n0 : (node16 k l s b d)[0]? = some (.int .u16 k) := rfl
  have n1 : (node16 k l s b d)[1]? = some (.int .u16 l) := rfl
  have n2 : (node16 k l s b d)[2]? = some (.int .u32 s) := rfl
  have n3 : (node16 k l s b d)[3]? = some (.int .u32 b) := rfl
  have hsz : (Tryz.prog.info? 156).map (·.size) = some (node16 k l s b d).size := size27
  have N1 : Hid _ := n1
  have N2 : Hid _ := n2
  have N3 : Hid _ := n3
  have HZ : Hid _ := hsz
  clear h n1 n2 n3 hsz
  generalize node16 k l s b d = N at *
  generalize encN k l s b d = E at *
  generalize putN (putN (putN nought 0 k 2) 2 l 2) 4 s 4 = f3 at *
  generalize putN (putN nought 0 k 2) 2 l 2 = f2 at *
  generalize putN nought 0 k 2 = f1 at *
  go_enter Tryz.func102, Tryz.ntmps102
  go_wp2_with (first | (go_at_call 123; fail))
  refine (c0 _).mono ?_
  rintro e W1 ⟨rfl, hb1⟩
  have S1 : EncS w (W1.alloc (.cells (blk f1) 47)) N W1.heap.size f1 :=
    ⟨heap_kept (heap_kept (heap_alloc2_old w _ _) hb1) (below_new _ _), heap_kept (heap_kept (heap_alloc2_new w _ _) hb1) (below_new _ _), heap_alloc_new _ _, by have := hb1.size; simpa using this, below_next (below_next (bel_al (below_new _ _) _) hb1) (below_new _ _)⟩
  have HS1 : Hid _ := S1
  clear c0 S1 hb1 n0
  go_wp2_with (first | refine wpList_store25_new rfl _ _ rfl _ _ rfl rfl ?_ | refine wpList_load25 rfl _ rfl _ rfl _ HS1.out.blk ?_ | refine wpList_ldC 152 (fun w => Tryz.isAgg152 w) rfl _ rfl _ _ rfl _ (HS1.out.cell 1 _ N1.out) ?_ | (go_at_call 123; fail))
  refine (c1 _).mono ?_
  rintro e W2 ⟨rfl, hb⟩
  have HS2 : Hid _ := HS1.out.call hb
  clear hb HS1 c1 N1
  go_wp2_with (first | refine wpList_store25 rfl _ _ rfl _ _ rfl rfl _ HS2.out.blk ?_ | refine wpList_load25 rfl _ rfl _ rfl _ (HS2.out.store f2).blk ?_ | refine wpList_ldC 92 (fun w => Tryz.isAgg92 w) rfl _ rfl _ _ rfl _ ((HS2.out.store f2).cell 2 _ N2.out) ?_ | (go_at_call 47; fail))
  refine (c2 _).mono ?_
  rintro e W3 ⟨rfl, hb⟩
  have HS3 : Hid _ := (HS2.out.store f2).call hb
  clear hb HS2 c2 N2
  go_wp2_with (first | refine wpList_store25 rfl _ _ rfl _ _ rfl rfl _ HS3.out.blk ?_ | refine wpList_load25 rfl _ rfl _ rfl _ (HS3.out.store f3).blk ?_ | refine wpList_ldC 92 (fun w => Tryz.isAgg92 w) rfl _ rfl _ _ rfl _ ((HS3.out.store f3).cell 3 _ N3.out) ?_ | (go_at_call 47; fail))
  refine (c3 _).mono ?_
  rintro e W4 ⟨rfl, hb⟩
  have HS4 : Hid _ := (HS3.out.store f3).call hb
  clear hb HS3 c3 N3
  go_wp2_with (first | refine wpList_store25 rfl _ _ rfl _ _ rfl rfl _ HS4.out.blk ?_ | refine wpList_ldR 156 Tryz.underlying156 rfl rfl _ rfl _ rfl _ 156 (0, 0) HZ.out (HS4.out.store (E 0)).node ?_ | (go_at_call 124; fail))
  refine (hnum _).mono ?_
  rintro e W5 ⟨rfl, hb⟩
  have HS5 : Hid _ := (HS4.out.store (E 0)).call hb
  clear hb HS4 hnum HZ
  go_wp2
  go_loopw [24] (fun s24 wx => ∃ m : Nat, m ≤ 12 ∧ s24 = .int .i64 m ∧ EncS w wx N W1.heap.size (E m)) (fun s24 _ => 12 - (intOf s24).toNat)
  case atStart => exact ⟨0, by omega, rfl, HS5.out⟩
  case round =>
    obtain ⟨m, hm, rfl, hst⟩ := hrel
    have HT : Hid _ := hst
    clear hst HS5
    by_cases h12 : (m : Int) < 12
    · have hidx := idx62 d m (by omega)
      have hst := fun W => HS.out m W (by omega)
      have hx := H4.out m
      generalize d m = x at *
      have HST : Hid _ := hst
      have HX : Hid _ := hx
      have HPL : Hid _ := fun (W : World) => nplace_any m W (by omega)
      clear hst hx HS H4
      go_wp2
      refine wp_region_fork (S := fun _ => True) [1, 3] 0 2 [(4, false), (5, false)] (by kernel_rfl) rfl (by kernel_rfl) (fun d _ _ _ _ h => by cases d <;> exact h) trivial ?_
      refine wpFork_yield (v := .int .i64 (m : Int)) rfl rfl (fun u _ => by simp [execOp, Act.eval]) ?_
      simp only [Act.put, List.setIfInBounds_toArray, List.set_cons_succ, List.set_cons_zero]
      refine wpFork_yield (v := .int .u32 x) rfl rfl (fun u _ => by simp [execOp, Act.eval]) ?_
      simp only [Act.put, List.setIfInBounds_toArray, List.set_cons_succ, List.set_cons_zero]
      have HD : Hid _ := HT.out.drew
      clear HT
      generalize wr.drew = wd at *
      refine wpFork_nil rfl rfl ?_ ?_
      · simp only [inOrd, List.getElem?_cons_zero, List.getElem?_cons_succ]
        refine wpOrd_loadF rfl _ rfl _ rfl _ HD.out.blk ⟨trivial, ?_⟩
        simp only [Act.put, List.setIfInBounds_toArray, List.set_cons_succ, List.set_cons_zero]
        refine wpOrd_call rfl 125 _ _ rfl Tryz.call125 [.int .i64 (m : Int)] rfl ?_
        refine (HPL.out _).mono ?_
        rintro e' X ⟨rfl, rfl⟩
        refine ⟨_, rfl, trivial, ?_⟩
        simp only [Act.put, List.setIfInBounds_toArray, List.set_cons_succ, List.set_cons_zero]
        refine wpOrd_call rfl 47 _ _ rfl Tryz.call47 [.agg (blk (E m)), .int .i64 (12 + 4 * (m : Int)), .int .u32 x] rfl ?_
        refine (HST.out _).mono ?_
        rintro e' X ⟨rfl, hbx⟩
        refine ⟨_, rfl, trivial, ?_⟩
        simp only [Act.put, List.setIfInBounds_toArray, List.set_cons_succ, List.set_cons_zero]
        have HX1 : Hid _ := HD.out.call hbx
        refine wpOrd_storeB rfl _ _ rfl W1.heap.size (E (m + 1)) _ rfl rfl HX1.out.blk ⟨trivial, ?_⟩
        refine wpOrd_nil ?_
        have HX2 : Hid _ := HX1.out.store (E (m + 1))
        simp only [Act.put]
        generalize X.setRow W1.heap.size (blk (E (m + 1))) = Y at HX2 ⊢
        clear HX1 HD hbx HST HPL
        go_wp2
        exact ⟨⟨m + 1, by omega, by go_num, HX2.out⟩, by simp [intOf]; omega⟩
      · simp only [inOrd, List.getElem?_cons_zero, List.getElem?_cons_succ]
        refine wpOrd_call rfl 125 _ _ rfl Tryz.call125 [.int .i64 (m : Int)] rfl ?_
        refine (HPL.out _).mono ?_
        rintro e' X ⟨rfl, rfl⟩
        refine ⟨_, rfl, trivial, ?_⟩
        simp only [Act.put, List.setIfInBounds_toArray, List.set_cons_succ, List.set_cons_zero]
        refine wpOrd_loadF rfl _ rfl _ rfl _ HD.out.blk ⟨trivial, ?_⟩
        simp only [Act.put, List.setIfInBounds_toArray, List.set_cons_succ, List.set_cons_zero]
        refine wpOrd_call rfl 47 _ _ rfl Tryz.call47 [.agg (blk (E m)), .int .i64 (12 + 4 * (m : Int)), .int .u32 x] rfl ?_
        refine (HST.out _).mono ?_
        rintro e' X ⟨rfl, hbx⟩
        refine ⟨_, rfl, trivial, ?_⟩
        simp only [Act.put, List.setIfInBounds_toArray, List.set_cons_succ, List.set_cons_zero]
        have HX1 : Hid _ := HD.out.call hbx
        refine wpOrd_storeB rfl _ _ rfl W1.heap.size (E (m + 1)) _ rfl rfl HX1.out.blk ⟨trivial, ?_⟩
        refine wpOrd_nil ?_
        have HX2 : Hid _ := HX1.out.store (E (m + 1))
        simp only [Act.put]
        generalize X.setRow W1.heap.size (blk (E (m + 1))) = Y at HX2 ⊢
        clear HX1 HD hbx HST HPL
        go_wp2
        exact ⟨⟨m + 1, by omega, by go_num, HX2.out⟩, by simp [intOf]; omega⟩
    · obtain rfl : m = 12 := by omega
      clear hm HS H4
      have hpc := fun W => piece_any (E 12) 0 64 W (by omega) (by omega)
      have e1 : insLo 0 64 = 0 := by decide
      have e2 : insHi 0 64 = 64 := by decide
      rw [e1, e2] at hpc
      simp only [Nat.sub_zero] at hpc
      rw [HF.out] at hpc
      clear HF e1 e2
      go_wp2_with (first | refine wpList_load25 rfl _ rfl _ rfl _ HT.out.blk ?_ | (go_at_call 126; fail))
      refine (hpc _).mono ?_
      rintro e' X ⟨rfl, hX, hXs, hbx⟩
      have HX1 : Hid _ := HT.out.call hbx
      have HR : Hid _ := hX
      clear hpc hX hXs hbx HT
      have ha := fun u => arrayAt31 (some ⟨wr.heap.size + 1, 0, none⟩) 64 64 (by omega) u
      go_wp2_with (first | refine wpList_ldR 167 Tryz.underlying167 rfl rfl _ rfl _ rfl _ 5 (0, 0) (by rw [rowA_size]; exact size31) HR.out ?_ | refine wpList_stR 167 rfl _ _ rfl _ _ _ 167 (by rw [rowA_size]; exact size31) (by simp only [rowA_size]) (row64_one _) rfl rfl HX1.out.res ?_)
      exact retR Tryz.underlying167 rfl rfl (w.heap.size + 1) _ 167 (by rw [rowA_size]; exact size31) rfl (setRow_heap _ _ _ _ _ _ HX1.out.res) rfl ⟨rfl, below_setRow HX1.out.bel (by omega) _⟩
end Go.Proofs.YtiadlcjdpbkbkaaGreatK
/- Rows loaded and stored in regions whose order is drawn; no condition. -/
namespace Go.Proofs.YtiadlcjdpbkbkaaGreatK
open Go.RowKit
section
variable {ops : Array Oper} {Q : Exit → Act → World → Prop} {S : World → Prop} {r : List (Bool × Oper)} {a : Act} {w : World} {o : Oper}
/-- A row is loaded, where nothing else may come up. -/
theorem wpOrd_ldR (ty : TypeId) {d : TypeDesc} (hu : Tryz.prog.underlying ty = some d) (hd : d.isRow = true) (hw : Region.wanted o (yielded ops a.tmps) = true)
    (x : Operand) (ho : o.op = .load ty x) (g : Nat) (hx : a.eval x = .pointer (some ⟨g, 0, none⟩)) (cs : Array Value) (t : TypeId) (fr : Nat × Nat) (hi : (Tryz.prog.info? ty).map (·.size) = some cs.size) (hg : w.heap[g]? = some (.cells cs t fr))
    (h : S w ∧ wpOrd Tryz.prog ops Q S r (a.put o.dst (.agg cs)) w) : wpOrd Tryz.prog ops Q S ((false, o) :: r) a w := by
  simp only [wpOrd, hw, if_true]
  unfold Oper.wp execOp
  simp only [ho, hx, Instr.loadAt, Instr.sureAddr, Sem.run_bind, Sem.run_pure, Result.andThen_ok, run_loadVar_row w g t ty cs fr d hg hu (by cases d <;> first | rfl | cases hd) hi]
  exact h
/-- A row is loaded at any time. -/
theorem wpOrd_ldRT (ty : TypeId) {d : TypeDesc} (hu : Tryz.prog.underlying ty = some d) (hd : d.isRow = true) (hw : Region.wanted o (yielded ops a.tmps) = true)
    (x : Operand) (ho : o.op = .load ty x) (g : Nat) (hx : a.eval x = .pointer (some ⟨g, 0, none⟩)) (cs : Array Value) (t : TypeId) (fr : Nat × Nat) (hi : (Tryz.prog.info? ty).map (·.size) = some cs.size) (hg : ∀ u, S u → u.heap[g]? = some (.cells cs t fr))
    (h : wpOrd Tryz.prog ops Q S r (a.put o.dst (.agg cs)) w) : wpOrd Tryz.prog ops Q S ((true, o) :: r) a w := by
  refine wpOrd_yield hw (fun u hS => ?_) h
  unfold execOp
  simp only [ho, hx, Instr.loadAt, Instr.sureAddr, Sem.run_bind, Sem.run_pure, Result.andThen_ok, run_loadVar_row u g t ty cs fr d (hg u hS) hu (by cases d <;> first | rfl | cases hd) hi]
/-- A cell is loaded at any time. -/
theorem wpOrd_ldCT (ty : TypeId) (hagg : ∀ w, (isAgg ty).run Tryz.prog w = .ok false w) (hw : Region.wanted o (yielded ops a.tmps) = true)
    (x : Operand) (ho : o.op = .load ty x) (g j : Nat) (hx : a.eval x = .pointer (some ⟨g, j, none⟩)) (v : Value) (hc : ∀ u, S u → u.cell? ⟨g, j, none⟩ = some v)
    (h : wpOrd Tryz.prog ops Q S r (a.put o.dst v) w) : wpOrd Tryz.prog ops Q S ((true, o) :: r) a w := by
  refine wpOrd_yield hw (fun u hS => ?_) h
  have hc' := hc u hS
  unfold execOp
  simp only [ho, hx]
  simp [Instr.loadAt, Instr.sureAddr, loadVar, hagg, hc', go_sem]
theorem wpOrd_stR (ty : TypeId) (hw : Region.wanted o (yielded ops a.tmps) = true)
    (x y : Operand) (ho : o.op = .store ty x y) (g : Nat) (cs c0 : Array Value) (t : TypeId) (hi : (Tryz.prog.info? ty).map (·.size) = some cs.size) (hs : c0.size = cs.size) (h1 : cs.all (·.oneCell') = true)
    (hx : a.eval x = .pointer (some ⟨g, 0, none⟩)) (hy : a.eval y = .agg cs) (hg : w.heap[g]? = some (.cells c0 t))
    (h : S (w.setRow g cs) ∧ wpOrd Tryz.prog ops Q S r (a.put o.dst undef) (w.setRow g cs)) : wpOrd Tryz.prog ops Q S ((false, o) :: r) a w := by
  simp only [wpOrd, hw, if_true]
  unfold Oper.wp execOp
  simp only [ho, hx, hy, Instr.storeAt, Instr.sureAddr, Sem.run_bind, Sem.run_pure, Result.andThen_ok, run_storeVar_row w g t ty c0 cs hg hi hs h1]
  exact h
end
end Go.Proofs.YtiadlcjdpbkbkaaGreatK
