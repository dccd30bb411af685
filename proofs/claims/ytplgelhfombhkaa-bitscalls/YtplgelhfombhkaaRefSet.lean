/- The document's own Set: for every block of bytes, every number and either way. -/
import Derived.Test.YtplgelhfombhkaaRefs
namespace Go.Proofs.Ytplgelhfombhkaa
open Go.RowKit

theorem add_tab : ∀ x : Fin 256, ∀ m : Fin 8, x.val.testBit m.val = false → x.val + 2 ^ m.val = x.val ||| 2 ^ m.val ∧ x.val + 2 ^ m.val < 256 := by decide +kernel
theorem sub_tab : ∀ x : Fin 256, ∀ m : Fin 8, x.val.testBit m.val = true → x.val - 2 ^ m.val = x.val &&& (255 - 2 ^ m.val) ∧ 2 ^ m.val ≤ x.val := by decide +kernel
theorem pow_le (k r : Nat) (h : k < r) (hr : r < 8) : 2 ^ k ≤ 64 := by
  have : 2 ^ k ≤ 2 ^ 6 := Nat.pow_le_pow_right (by decide) (by omega)
  omega

set_option maxRecDepth 20000 in
set_option maxHeartbeats 1000000 in
theorem refSet_out (f : Nat → Int) (i : Int) (on : Bool) (w : World) (hk : ¬ (0 ≤ i ∧ i < 8192)) :
    Calls Try.prog 13 #[.agg (blk f), .int .i64 i, .bool on] w fun e w' => e = .returned (.agg (blk f)) ∧ Below w.heap.size w w' := by
  have z25 := zero25
  by_cases h : i < 0
  all_goals
    first | skip | (have h2 : 8192 ≤ i := by omega)
    have h3 : i < 0 ∨ 8192 ≤ i := by omega
    clear hk
    rcases h3 with h3 | h3
    all_goals
      first
        | (exfalso; omega)
        | (go_enter Try.func13, Try.ntmps13
           go_wp2_with (first | refine wpList_load25 rfl _ rfl _ rfl _ (heap_alloc2_old _ _ _) ?_ | refine wpList_store25 rfl _ _ rfl _ _ rfl rfl _ (heap_alloc2_new _ _ _) ?_)
           exact ret25 rfl (w.heap.size + 1) _ rfl (setRow_heap _ _ _ _ _ _ (heap_alloc2_new _ _ _)) rfl ⟨rfl, below2 _ _ _ _ (by omega) _⟩)

set_option maxRecDepth 20000 in
set_option maxHeartbeats 1000000 in
theorem refSet_same (f : Nat → Int) (hf : Byte f) (i : Int) (on : Bool) (w : World) (h0 : 0 ≤ i) (h1 : i < 8192) (hs : has f i = on) :
    Calls Try.prog 13 #[.agg (blk f), .int .i64 i, .bool on] w fun e w' => e = .returned (.agg (blk f)) ∧ Below w.heap.size w w' := by
  have z25 := zero25
  have hh := fun w => refHas_any f hf i w
  rw [hs] at hh
  clear hf hs
  have d0 : decide (i < 0) = false := decide_eq_false (by omega)
  have d1 : decide (8192 ≤ i) = false := decide_eq_false (by omega)
  obtain ⟨W0, hW0⟩ : ∃ W0, ((w.alloc (.cells (blk f) 23)).alloc (.cells (blk nought) 23)) = W0 := ⟨_, rfl⟩
  have g0 : W0.heap[w.heap.size]? = some (.cells (blk f) 23) := by rw [← hW0]; exact heap_alloc2_old _ _ _
  have g1 : W0.heap[w.heap.size + 1]? = some (.cells (blk nought) 23) := by rw [← hW0]; exact heap_alloc2_new _ _ _
  have HB : Hid (Below w.heap.size w W0) := by rw [← hW0]; exact below_two w _ _
  have hne := later_some W0
  go_enter Try.func13, Try.ntmps13
  go_wp2_with (first | refine wpList_later_in _ rfl W0 (Below.refl _ _) ?_)
  repeat (first
    | (go_big_quiet_want; refine quiet_load25 _ rfl _ rfl _ g0 ?_; simp only [Act.put, List.setIfInBounds_toArray, List.set_cons_succ, List.set_cons_zero]; go_big_quiet_on)
    | go_big_quiet_step (first | (go_at_call 11; exact Later.call _ (hh _))))
  refine wpQuiet_nil ?_
  rintro _ ⟨y, rfl⟩
  have y0 := heap_kept g0 y.below
  have y1 := heap_kept g1 y.below
  have HBy : Hid (Below w.heap.size w y.val) := below_next HB.out y.below
  clear g0 g1 HB hh hW0
  go_wp2_with (first | refine wpList_load25 rfl _ rfl _ rfl _ y0 ?_ | refine wpList_store25 rfl _ _ rfl _ _ rfl rfl _ y1 ?_)
  exact ret25 rfl (w.heap.size + 1) _ rfl (setRow_heap _ _ _ _ _ _ y1) rfl ⟨rfl, below_setRow HBy.out (by omega) _⟩

set_option maxRecDepth 20000 in
set_option maxHeartbeats 4000000 in
theorem refSet_on (f : Nat → Int) (i : Int) (q r x : Nat) (w : World) (hh : ∀ w, Calls Try.prog 11 #[.agg (blk f), .int .i64 i] w fun e w' => e = .returned (.bool false) ∧ Below w.heap.size w w')
    (h0 : 0 ≤ i) (h1 : i < 8192) (hq : i / 8 = q) (hq9 : (q : Int) < 1024) (hr : i % 8 = r) (hr8 : r < 8) (hfq : f q = x) (hx : x < 256) (hon : x + 2 ^ r < 256) :
    Calls Try.prog 13 #[.agg (blk f), .int .i64 i, .bool true] w fun e w' => e = .returned (.agg (blk (upd f q ((x + 2 ^ r : Nat) : Int)))) ∧ Below w.heap.size w w' := by
  have z25 := zero25
  have d0 : decide (i < 0) = false := decide_eq_false (by omega)
  have d1 : decide (8192 ≤ i) = false := decide_eq_false (by omega)
  obtain ⟨W0, hW0⟩ : ∃ W0, ((w.alloc (.cells (blk f) 23)).alloc (.cells (blk nought) 23)) = W0 := ⟨_, rfl⟩
  have g0 : W0.heap[w.heap.size]? = some (.cells (blk f) 23) := by rw [← hW0]; exact heap_alloc2_old _ _ _
  have g1 : W0.heap[w.heap.size + 1]? = some (.cells (blk nought) 23) := by rw [← hW0]; exact heap_alloc2_new _ _ _
  have HB : Hid (Below w.heap.size w W0) := by rw [← hW0]; exact below_two w _ _
  have hne := later_some W0
  have HOn : Hid (x + 2 ^ r < 256) := hon
  have HR8 : Hid (r < 8) := hr8
  clear hon hr8
  go_enter Try.func13, Try.ntmps13
  go_wp2_with (first | refine wpList_later_in _ rfl W0 (Below.refl _ _) ?_)
  repeat (first
    | (go_big_quiet_want; refine quiet_load25 _ rfl _ rfl _ g0 ?_; simp only [Act.put, List.setIfInBounds_toArray, List.set_cons_succ, List.set_cons_zero]; go_big_quiet_on)
    | go_big_quiet_step (first | (go_at_call 11; exact Later.call _ (hh _))))
  refine wpQuiet_nil ?_
  rintro _ ⟨y, rfl⟩
  have y0 := heap_kept g0 y.below
  have y1 := heap_kept g1 y.below
  have HBy : Hid (Below w.heap.size w y.val) := below_next HB.out y.below
  clear g0 g1 HB hh hW0 hne
  generalize y.val = Y at y0 y1 HBy ⊢
  clear y W0
  have hc := blk_cell y0 q (by omega)
  rw [hfq] at hc
  go_wp2
  go_loopw [7, 8] (fun s7 s8 wx => ∃ k : Nat, k ≤ r ∧ s8 = .int .i64 k ∧ s7 = .int .u8 ((2 ^ k : Nat) : Int) ∧ wx = Y) (fun _ s8 _ => 8 - (RowKit.intOf s8).toNat)
  case atStart => exact ⟨0, by omega, rfl, rfl, rfl⟩
  case round =>
    obtain ⟨k, hk, rfl, rfl, rfl⟩ := hrel
    by_cases hk2 : k < r
    · have hp := pow_le k r hk2 HR8.out
      have HN : Hid (2 ^ (k + 1) = 2 * 2 ^ k) := (by rw [Nat.pow_succ, Nat.mul_comm] : 2 ^ (k + 1) = 2 * 2 ^ k)
      generalize 2 ^ k = z at hp HN ⊢
      have hk3 : (k : Int) < (r : Int) := by omega
      have hk8 := HR8.out
      go_wp2
      refine ⟨⟨k + 1, by omega, by go_num, ?_, by first | rfl | trivial⟩, by simp [RowKit.intOf]; omega⟩
      rw [HN.out]
      go_num
    · have e : k = r := by omega
      rw [e]
      have hp := HOn.out
      have HN : Hid (∀ z, z = 2 ^ r → blk (upd f q ((x + z : Nat) : Int)) = blk (upd f q ((x + 2 ^ r : Nat) : Int))) := fun z h => by rw [h]
      generalize hz : 2 ^ r = z at hp ⊢
      have HZ := (show Hid _ from hz)
      have hk3 : ¬ (r : Int) < (r : Int) := by omega
      clear e hz hk hk2
      have hval : ((x + z : Nat) : Int) = (x : Int) + (z : Int) := by omega
      have hq10 : q < 1024 := by omega
      have z0 := blk_stored y0 q ((x + z : Nat) : Int)
      have z1 : (wr.setCell ⟨w.heap.size, q, none⟩ (.int .u8 ((x + z : Nat) : Int))).heap[w.heap.size + 1]? = some (.cells (blk nought) 23) := (heap_setCell_other _ _ _ _ (by simp)).trans y1
      have HBz : Hid (Below w.heap.size w (wr.setCell ⟨w.heap.size, q, none⟩ (.int .u8 ((x + z : Nat) : Int)))) := HBy.out.setCell (p := ⟨w.heap.size, q, none⟩) (Nat.le_refl _) _
      rw [HN.out z HZ.out.symm] at z0
      rw [hval] at z0 z1 HBz
      clear hval HN HZ HOn HR8
      go_wp2_with (first | (refine wpList_storeIn rfl _ _ rfl w.heap.size q _ f rfl rfl y0 hq10 ?_; generalize wr.setCell ⟨w.heap.size, q, none⟩ (.int .u8 ((x : Int) + (z : Int))) = Z at z0 z1 HBz ⊢) | refine wpList_load25 rfl _ rfl _ rfl _ z0 ?_ | refine wpList_store25 rfl _ _ rfl _ _ rfl rfl _ z1 ?_)
      exact ret25 rfl (w.heap.size + 1) _ rfl (setRow_heap _ _ _ _ _ _ z1) rfl ⟨rfl, below_setRow HBz.out (by omega) _⟩
set_option maxRecDepth 20000 in
set_option maxHeartbeats 4000000 in
theorem refSet_off (f : Nat → Int) (i : Int) (q r x : Nat) (w : World) (hh : ∀ w, Calls Try.prog 11 #[.agg (blk f), .int .i64 i] w fun e w' => e = .returned (.bool true) ∧ Below w.heap.size w w')
    (h0 : 0 ≤ i) (h1 : i < 8192) (hq : i / 8 = q) (hq9 : (q : Int) < 1024) (hr : i % 8 = r) (hr8 : r < 8) (hfq : f q = x) (hx : x < 256) (hon : 2 ^ r ≤ x) :
    Calls Try.prog 13 #[.agg (blk f), .int .i64 i, .bool false] w fun e w' => e = .returned (.agg (blk (upd f q ((x - 2 ^ r : Nat) : Int)))) ∧ Below w.heap.size w w' := by
  have z25 := zero25
  have d0 : decide (i < 0) = false := decide_eq_false (by omega)
  have d1 : decide (8192 ≤ i) = false := decide_eq_false (by omega)
  obtain ⟨W0, hW0⟩ : ∃ W0, ((w.alloc (.cells (blk f) 23)).alloc (.cells (blk nought) 23)) = W0 := ⟨_, rfl⟩
  have g0 : W0.heap[w.heap.size]? = some (.cells (blk f) 23) := by rw [← hW0]; exact heap_alloc2_old _ _ _
  have g1 : W0.heap[w.heap.size + 1]? = some (.cells (blk nought) 23) := by rw [← hW0]; exact heap_alloc2_new _ _ _
  have HB : Hid (Below w.heap.size w W0) := by rw [← hW0]; exact below_two w _ _
  have hne := later_some W0
  have HOn : Hid (2 ^ r ≤ x) := hon
  have HR8 : Hid (r < 8) := hr8
  clear hon hr8
  go_enter Try.func13, Try.ntmps13
  go_wp2_with (first | refine wpList_later_in _ rfl W0 (Below.refl _ _) ?_)
  repeat (first
    | (go_big_quiet_want; refine quiet_load25 _ rfl _ rfl _ g0 ?_; simp only [Act.put, List.setIfInBounds_toArray, List.set_cons_succ, List.set_cons_zero]; go_big_quiet_on)
    | go_big_quiet_step (first | (go_at_call 11; exact Later.call _ (hh _))))
  refine wpQuiet_nil ?_
  rintro _ ⟨y, rfl⟩
  have y0 := heap_kept g0 y.below
  have y1 := heap_kept g1 y.below
  have HBy : Hid (Below w.heap.size w y.val) := below_next HB.out y.below
  clear g0 g1 HB hh hW0 hne
  generalize y.val = Y at y0 y1 HBy ⊢
  clear y W0
  have hc := blk_cell y0 q (by omega)
  rw [hfq] at hc
  go_wp2
  go_loopw [7, 8] (fun s7 s8 wx => ∃ k : Nat, k ≤ r ∧ s8 = .int .i64 k ∧ s7 = .int .u8 ((2 ^ k : Nat) : Int) ∧ wx = Y) (fun _ s8 _ => 8 - (RowKit.intOf s8).toNat)
  case atStart => exact ⟨0, by omega, rfl, rfl, rfl⟩
  case round =>
    obtain ⟨k, hk, rfl, rfl, rfl⟩ := hrel
    by_cases hk2 : k < r
    · have hp := pow_le k r hk2 HR8.out
      have HN : Hid (2 ^ (k + 1) = 2 * 2 ^ k) := (by rw [Nat.pow_succ, Nat.mul_comm] : 2 ^ (k + 1) = 2 * 2 ^ k)
      generalize 2 ^ k = z at hp HN ⊢
      have hk3 : (k : Int) < (r : Int) := by omega
      have hk8 := HR8.out
      go_wp2
      refine ⟨⟨k + 1, by omega, by go_num, ?_, by first | rfl | trivial⟩, by simp [RowKit.intOf]; omega⟩
      rw [HN.out]
      go_num
    · have e : k = r := by omega
      rw [e]
      have hp := HOn.out
      have HN : Hid (∀ z, z = 2 ^ r → blk (upd f q ((x - z : Nat) : Int)) = blk (upd f q ((x - 2 ^ r : Nat) : Int))) := fun z h => by rw [h]
      generalize hz : 2 ^ r = z at hp ⊢
      have HZ := (show Hid _ from hz)
      have hk3 : ¬ (r : Int) < (r : Int) := by omega
      clear e hz hk hk2
      have hval : ((x - z : Nat) : Int) = (x : Int) - (z : Int) := by omega
      have hq10 : q < 1024 := by omega
      have z0 := blk_stored y0 q ((x - z : Nat) : Int)
      have z1 : (wr.setCell ⟨w.heap.size, q, none⟩ (.int .u8 ((x - z : Nat) : Int))).heap[w.heap.size + 1]? = some (.cells (blk nought) 23) := (heap_setCell_other _ _ _ _ (by simp)).trans y1
      have HBz : Hid (Below w.heap.size w (wr.setCell ⟨w.heap.size, q, none⟩ (.int .u8 ((x - z : Nat) : Int)))) := HBy.out.setCell (p := ⟨w.heap.size, q, none⟩) (Nat.le_refl _) _
      rw [HN.out z HZ.out.symm] at z0
      rw [hval] at z0 z1 HBz
      clear hval HN HZ HOn HR8
      go_wp2_with (first | (refine wpList_storeIn rfl _ _ rfl w.heap.size q _ f rfl rfl y0 hq10 ?_; generalize wr.setCell ⟨w.heap.size, q, none⟩ (.int .u8 ((x : Int) - (z : Int))) = Z at z0 z1 HBz ⊢) | refine wpList_load25 rfl _ rfl _ rfl _ z0 ?_ | refine wpList_store25 rfl _ _ rfl _ _ rfl rfl _ z1 ?_)
      exact ret25 rfl (w.heap.size + 1) _ rfl (setRow_heap _ _ _ _ _ _ z1) rfl ⟨rfl, below_setRow HBz.out (by omega) _⟩
theorem refSet_any (f : Nat → Int) (hf : Byte f) (i : Int) (on : Bool) (w : World) :
    Calls Try.prog 13 #[.agg (blk f), .int .i64 i, .bool on] w fun e w' => e = .returned (.agg (blk (setB f i on))) ∧ Below w.heap.size w w' := by
  by_cases h : 0 ≤ i ∧ i < 8192
  · obtain ⟨k, rfl⟩ := Int.eq_ofNat_of_zero_le h.1
    have hk : k < 8192 := by omega
    rw [setB_in f k on hk]
    by_cases hs : has f k = on
    · have e : blk (setN f k on) = blk f := blk_of_bits (byte_setN hf k on) hf fun j _ => by
        rw [bit_setN]
        by_cases e : j = k
        · rw [if_pos e, e, ← hs, has_in f k hk]
        · rw [if_neg e]
      rw [e]
      exact refSet_same f hf k on w h.1 h.2 hs
    · have hx := hf (k / 8)
      obtain ⟨x, hxe⟩ : ∃ x : Nat, f (k / 8) = (x : Int) := ⟨(f (k / 8)).toNat, by omega⟩
      have hb : has f k = x.testBit (k % 8) := by
        rw [has_in f k hk]
        unfold bit
        rw [hxe, Int.toNat_natCast]
      have hx8 : x < 256 := by omega
      cases on with
      | true =>
        have hb' : has f k = false := by cases hv : has f k <;> simp_all
        have ht := add_tab ⟨x, hx8⟩ ⟨k % 8, by omega⟩ (by rw [← hb]; exact hb')
        have e : setN f k true = upd f (k / 8) ((x + 2 ^ (k % 8) : Nat) : Int) := by
          unfold setN orN
          rw [if_pos rfl, hxe, Int.toNat_natCast, ← ht.1]
        rw [e]
        exact refSet_on f k (k / 8) (k % 8) x w (fun w => by have := refHas_any f hf k w; rwa [hb'] at this) h.1 h.2 (by omega) (by omega) (by omega) (by omega) hxe hx8 ht.2
      | false =>
        have hb' : has f k = true := by cases hv : has f k <;> simp_all
        have ht := sub_tab ⟨x, hx8⟩ ⟨k % 8, by omega⟩ (by rw [← hb]; exact hb')
        have e : setN f k false = upd f (k / 8) ((x - 2 ^ (k % 8) : Nat) : Int) := by
          unfold setN clN
          rw [if_neg (by simp), hxe, Int.toNat_natCast, ← ht.1]
        rw [e]
        exact refSet_off f k (k / 8) (k % 8) x w (fun w => by have := refHas_any f hf k w; rwa [hb'] at this) h.1 h.2 (by omega) (by omega) (by omega) (by omega) hxe hx8 ht.2
  · rw [setB_out f i on h]
    exact refSet_out f i on w h
end Go.Proofs.Ytplgelhfombhkaa
