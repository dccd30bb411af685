/- The law's own function block: a block that begins with the bytes of a slice; its bytes lie in memory below. -/
import Derived.Test.YtembocfghkmieaaAwake
namespace Go.Proofs.Ytembocfghkmieaa
open Go.RowKit

set_option maxRecDepth 20000 in
set_option maxHeartbeats 400000 in
theorem block_any (b off n cap : Nat) (f : Nat → Int) (w : World) (hn : n ≤ maxLen) (hc : ∀ i, i < n → w.cell? ⟨b, off + i, none⟩ = some (.int .u8 (f i))) :
    Calls Try.prog 21 #[.slice (some ⟨b, off, none⟩) n cap] w fun e w' => e = .returned (.agg (blk (firsts f n))) ∧ Below w.heap.size w w' := by
  unfold maxLen at hn
  have z25 := zero25
  go_enter Try.func21, Try.ntmps21
  go_wp2
  go_loopw [4] (fun s4 wx => ∃ k : Nat, k ≤ n ∧ k ≤ 1024 ∧ s4 = .int .i64 k ∧ wx = (w.alloc (.cells (blk nought) 58)).alloc (.cells (blk (firsts f k)) 58)) (fun s4 _ => 1024 - (intOf s4).toNat)
  case atStart => exact ⟨0, by omega, by omega, rfl, rfl⟩
  case round =>
    obtain ⟨k, hk1, hk2, rfl, rfl⟩ := hrel
    have fin : ∀ m, k = m ∨ 1024 ≤ k → m = n → blk (firsts f k) = blk (firsts f n) := fun m h e => blk_congr fun i hi => by
      unfold firsts
      subst e
      rcases h with h | h
      · rw [h]
      · rw [if_pos (by omega), if_pos (by omega)]
    by_cases h1 : k < n ∧ k < 1024
    · obtain ⟨h1, h2⟩ := h1
      have hck := hc k h1
      have hb : b < w.heap.size := block_lt_of_cell hck
      have hbk := blk_get (firsts f k) k h2
      clear hc fin
      go_wp2
      refine ⟨⟨k + 1, by omega, by omega, by go_num, ?_⟩, by simp [intOf]; omega⟩
      rw [blk_set, firsts_next]
    · have hfin : blk (firsts f k) = blk (firsts f n) := fin n (by omega) rfl
      have HF : Hid (blk (firsts f k) = blk (firsts f n)) := hfin
      clear hc fin hfin
      by_cases h2 : k < n
      all_goals
        go_wp2_with (first | refine wpList_load25 rfl _ rfl _ rfl _ (heap_alloc2_new _ _ _) ?_ | refine wpList_store25 rfl _ _ rfl _ _ rfl rfl _ (heap_alloc2_old _ _ _) ?_)
        refine ret25 rfl w.heap.size (firsts f k) rfl ?_ rfl ⟨by rw [HF.out], ?_⟩
        · exact setRow_heap _ _ _ _ _ _ (heap_alloc2_old _ _ _)
        · exact below_setRow (((Below.refl _ _).alloc (Nat.le_refl _) _).alloc (by simp) _) (Nat.le_refl _) _


set_option maxRecDepth 20000 in
set_option maxHeartbeats 400000 in
theorem block_nil (a : Option Addr) (cap : Nat) (f : Nat → Int) (w : World) :
    Calls Try.prog 21 #[.slice a 0 cap] w fun e w' => e = .returned (.agg (blk (firsts f 0))) ∧ Below w.heap.size w w' := by
  have z25 := zero25
  have HF : Hid (blk nought = blk (firsts f 0)) := blk_congr fun i _ => by simp [nought, firsts]
  go_enter Try.func21, Try.ntmps21
  go_wp2
  go_loopw [4] (fun s4 wx => s4 = .int .i64 0 ∧ wx = (w.alloc (.cells (blk nought) 58)).alloc (.cells (blk nought) 58)) (fun _ _ => 0)
  case atStart => exact ⟨rfl, rfl⟩
  case round =>
    obtain ⟨rfl, rfl⟩ := hrel
    go_wp2_with (first | refine wpList_load25 rfl _ rfl _ rfl _ (heap_alloc2_new _ _ _) ?_ | refine wpList_store25 rfl _ _ rfl _ _ rfl rfl _ (heap_alloc2_old _ _ _) ?_)
    refine ret25 rfl w.heap.size nought rfl ?_ rfl ⟨by rw [HF.out], ?_⟩
    · exact setRow_heap _ _ _ _ _ _ (heap_alloc2_old _ _ _)
    · exact below_setRow (((Below.refl _ _).alloc (Nat.le_refl _) _).alloc (by simp) _) (Nat.le_refl _) _

/-- The slice v holds n bytes, f 0, f 1 .. -/
def Lies (w : World) (v : Value) (n : Nat) (f : Nat → Int) : Prop :=
  (∃ a cap, v = .slice a 0 cap ∧ n = 0 ∧ (a = none → cap = 0)) ∨ ∃ b off cap, v = .slice (some ⟨b, off, none⟩) n cap ∧ n ≤ maxLen ∧ n ≤ cap ∧ b < w.heap.size ∧ ∀ i, i < n → w.cell? ⟨b, off + i, none⟩ = some (.int .u8 (f i))
theorem Lies.later {w w' : World} {v : Value} {n : Nat} {f : Nat → Int} (h : Lies w v n f) (hb : Below w.heap.size w w') : Lies w' v n f := by
  rcases h with h | ⟨b, off, cap, hv, hn, hcap, hlt, hc⟩
  · exact .inl h
  · exact .inr ⟨b, off, cap, hv, hn, hcap, Nat.lt_of_lt_of_le hlt hb.size, fun i hi => (hb.cell (p := ⟨b, off + i, none⟩) hlt).trans (hc i hi)⟩
theorem block_lies {w : World} {v : Value} {n : Nat} {f : Nat → Int} (h : Lies w v n f) :
    Calls Try.prog 21 #[v] w fun e w' => e = .returned (.agg (blk (firsts f n))) ∧ Below w.heap.size w w' := by
  rcases h with ⟨a, cap, rfl, rfl, _⟩ | ⟨b, off, cap, rfl, hn, _, _, hc⟩
  · exact block_nil a cap f w
  · exact block_any b off n cap f w hn hc
end Go.Proofs.Ytembocfghkmieaa
