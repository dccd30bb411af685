/- The law's own sixty-four bytes of a slice and its small file; what is told of an inode, by the program and the document; bytes that lie in memory below. -/
import Derived.Test.YtohknfoljnddjaaNums
namespace Go.Proofs.Ytohknfoljnddjaa
open Go.RowKit

theorem rowA_firsts {f : Nat → Int} {k n : Nat} (h : k = n ∨ 64 ≤ k ∧ 64 ≤ n) : rowA (firsts f k) 64 = rowA (firsts f n) 64 := rowA_congr fun i hi => by
  unfold firsts
  rcases h with h | h
  · rw [h]
  · rw [if_pos (by omega), if_pos (by omega)]
set_option maxRecDepth 20000 in
set_option maxHeartbeats 400000 in
theorem sixty_some (b off n cap : Nat) (f : Nat → Int) (w : World) (hn : n ≤ maxLen) (hc : ∀ i, i < n → w.cell? ⟨b, off + i, none⟩ = some (.int .u8 (f i))) :
    Calls Try.prog 8 #[.slice (some ⟨b, off, none⟩) n cap] w fun e w' => e = .returned (.agg (rowA (firsts f n) 64)) ∧ Below w.heap.size w w' := by
  unfold maxLen at hn
  have z29 := zero29
  have HZ : Hid (rowA nought 64 = rowA (firsts f 0) 64) := rowA_congr fun i _ => by simp [nought, firsts]
  go_enter Try.func8, Try.ntmps8
  go_wp2
  go_loopw [4] (fun s4 wx => ∃ k : Nat, k ≤ n ∧ k ≤ 64 ∧ s4 = .int .i64 k ∧ wx = (w.alloc (.cells (rowA nought 64) 29)).alloc (.cells (rowA (firsts f k) 64) 29)) (fun s4 _ => 64 - (intOf s4).toNat)
  case atStart => exact ⟨0, by omega, by omega, rfl, by rw [← HZ.out]⟩
  case round =>
    obtain ⟨k, hk1, hk2, rfl, rfl⟩ := hrel
    clear HZ
    by_cases h1 : k < n ∧ k < 64
    · obtain ⟨h1, h2⟩ := h1
      have hck := hc k h1
      have hb : b < w.heap.size := block_lt_of_cell hck
      have hbk := rowA_get (firsts f k) 64 k h2
      have hset := rowA_set (firsts f k) 64 k
      clear hc
      go_wp2
      refine ⟨⟨k + 1, by omega, by omega, by go_num, ?_⟩, by simp [intOf]; omega⟩
      rw [firsts_next]
    · have HF : Hid (rowA (firsts f k) 64 = rowA (firsts f n) 64) := rowA_firsts (by omega)
      clear hc
      by_cases h2 : k < n
      all_goals
        go_wp2_with (first | refine wpList_ldR 29 Try.underlying29 rfl rfl _ rfl _ rfl _ 29 (0, 0) (by rw [rowA_size]; exact size29) (heap_alloc2_new _ _ _) ?_ | refine wpList_stR 29 rfl _ _ rfl _ _ _ 29 (by rw [rowA_size]; exact size29) (by simp only [rowA_size]) (row64_one _) rfl rfl (heap_alloc2_old _ _ _) ?_)
        refine retR Try.underlying29 rfl rfl w.heap.size _ 29 (by rw [rowA_size]; exact size29) rfl (setRow_heap _ _ _ _ _ _ (heap_alloc2_old _ _ _)) rfl ⟨by rw [HF.out], ?_⟩
        exact below_setRow (bel_al (below_new _ _) _) (Nat.le_refl _) _

set_option maxRecDepth 20000 in
set_option maxHeartbeats 400000 in
theorem sixty_nil (a : Option Addr) (cap : Nat) (f : Nat → Int) (w : World) :
    Calls Try.prog 8 #[.slice a 0 cap] w fun e w' => e = .returned (.agg (rowA (firsts f 0) 64)) ∧ Below w.heap.size w w' := by
  have z29 := zero29
  have HF : Hid (rowA nought 64 = rowA (firsts f 0) 64) := rowA_congr fun i _ => by simp [nought, firsts]
  go_enter Try.func8, Try.ntmps8
  go_wp2
  go_loopw [4] (fun s4 wx => s4 = .int .i64 0 ∧ wx = (w.alloc (.cells (rowA nought 64) 29)).alloc (.cells (rowA nought 64) 29)) (fun _ _ => 0)
  case atStart => exact ⟨rfl, rfl⟩
  case round =>
    obtain ⟨rfl, rfl⟩ := hrel
    go_wp2_with (first | refine wpList_ldR 29 Try.underlying29 rfl rfl _ rfl _ rfl _ 29 (0, 0) (by rw [rowA_size]; exact size29) (heap_alloc2_new _ _ _) ?_ | refine wpList_stR 29 rfl _ _ rfl _ _ _ 29 (by rw [rowA_size]; exact size29) (by simp only [rowA_size]) (row64_one _) rfl rfl (heap_alloc2_old _ _ _) ?_)
    refine retR Try.underlying29 rfl rfl w.heap.size _ 29 (by rw [rowA_size]; exact size29) rfl (setRow_heap _ _ _ _ _ _ (heap_alloc2_old _ _ _)) rfl ⟨by rw [HF.out], ?_⟩
    exact below_setRow (bel_al (below_new _ _) _) (Nat.le_refl _) _
theorem sixty_any {w : World} {v : Value} {n : Nat} {f : Nat → Int} (h : Lies w v n f) :
    Calls Try.prog 8 #[v] w fun e w' => e = .returned (.agg (rowA (firsts f n) 64)) ∧ Below w.heap.size w w' := by
  rcases h with ⟨a, cap, rfl, rfl, _⟩ | ⟨b, off, cap, rfl, hn, _, _, hc⟩
  · exact sixty_nil a cap f w
  · exact sixty_some b off n cap f w hn hc

/-- What is told of an inode. -/
def statV (i k l s b : Int) : Array Value := #[.int .i64 i, .int .u16 k, .int .i64 l, .int .i64 s, .int .i64 b]
set_option maxRecDepth 20000 in
set_option maxHeartbeats 400000 in
theorem stat_any (i k l s b : Int) (d : Nat → Int) (w : World) (h : NodeOk k l s b d) :
    Calls Try.prog 13 #[.int .i64 i, .agg (node16 k l s b d)] w fun e w' => e = .returned (.agg (statV i k l s b)) ∧ Below w.heap.size w w' := by
  obtain ⟨hl0, hl1⟩ := h.l
  obtain ⟨hs0, hs1⟩ := h.s
  obtain ⟨hb0, hb1⟩ := h.b
  clear h
  unfold node16 statV
  go_enter Try.func13, Try.ntmps13
  go_wp2
  refine retR Try.underlying37 rfl rfl (w.heap.size + 1) _ 37 (by exact size37) rfl (heap_alloc2_new _ _ _) rfl ⟨rfl, bel_al (below_new _ _) _⟩
set_option maxRecDepth 20000 in
set_option maxHeartbeats 400000 in
theorem refStat_any (i k l s b : Int) (d : Nat → Int) (w : World) (h : NodeOk k l s b d) :
    Calls Try.prog 14 #[.int .i64 i, .agg (node16 k l s b d)] w fun e w' => e = .returned (.agg (statV i k l s b)) ∧ Below w.heap.size w w' := by
  obtain ⟨hl0, hl1⟩ := h.l
  obtain ⟨hs0, hs1⟩ := h.s
  obtain ⟨hb0, hb1⟩ := h.b
  clear h
  unfold node16 statV
  go_enter Try.func14, Try.ntmps14
  go_wp2
  refine retR Try.underlying37 rfl rfl (w.heap.size + 1) _ 37 (by exact size37) rfl (heap_alloc2_new _ _ _) rfl ⟨rfl, bel_al (below_new _ _) _⟩
/-- The first number is x, all others noughts. -/
def one0 (x : Int) : Nat → Int := fun i => if i = 0 then x else 0
set_option maxRecDepth 20000 in
set_option maxHeartbeats 400000 in
theorem small_any (w : World) : Calls Try.prog 21 #[] w fun e w' => e = .returned (.agg (node16 1 1 3 1 (one0 39))) ∧ Below w.heap.size w w' := by
  unfold node16 one0
  go_enter Try.func21, Try.ntmps21
  go_wp2
  refine retR Try.underlying27 rfl rfl w.heap.size _ 27 (by exact size27) rfl (heap_alloc_new _ _) rfl ⟨rfl, below_new _ _⟩
end Go.Proofs.Ytohknfoljnddjaa
