/- The document's own Lay: bytes laid into a block, those that come to lie inside; for every block, place and bytes. -/
import Derived.Test.YtedbgeibhaiheaaLay
namespace Go.Proofs.Ytedbgeibhaiheaa
open Go.RowKit

/-- f, its first k places as G. -/
def upto (f G : Nat → Int) (k : Nat) : Nat → Int := fun j => if j < k then G j else f j
theorem upto_zero (f G : Nat → Int) : upto f G 0 = f := by funext j; unfold upto; rw [if_neg (by omega)]
theorem upto_next (f G : Nat → Int) (k : Nat) : upd (upto f G k) k (G k) = upto f G (k + 1) := by
  funext j
  unfold upd upto
  by_cases h : j = k
  · subst h; rw [if_pos rfl, if_pos (by omega)]
  · by_cases h2 : j < k
    · rw [if_neg h, if_pos h2, if_pos (by omega)]
    · rw [if_neg h, if_neg h2, if_neg (by omega)]
theorem upto_same (f G : Nat → Int) (k : Nat) (h : G k = f k) : upto f G k = upto f G (k + 1) := by
  funext j
  unfold upto
  by_cases h0 : j = k
  · subst h0; rw [if_neg (by omega), if_pos (by omega), h]
  · by_cases h2 : j < k
    · rw [if_pos h2, if_pos (by omega)]
    · rw [if_neg h2, if_neg (by omega)]
theorem upto_all (f G : Nat → Int) : blk (upto f G 1024) = blk G := blk_congr fun i hi => by unfold upto; rw [if_pos hi]

set_option maxRecDepth 20000 in
set_option maxHeartbeats 1000000 in
theorem refLay_in (f : Nat → Int) (a : Int) (b off n cap : Nat) (q : Nat → Int) (w : World) (ha : -9223372036854775808 ≤ a ∧ a ≤ 9223372036854775807) (hn : (n : Int) ≤ 9223372036854775807)
    (hb : b < w.heap.size) (hc : ∀ i, i < n → w.cell? ⟨b, off + i, none⟩ = some (.int .u8 (q i))) :
    Calls Try.prog 24 #[.agg (blk f), .int .i64 a, .slice (some ⟨b, off, none⟩) n cap] w fun e w' => e = .returned (.agg (blk (layF f a n q))) ∧ Below w.heap.size w w' := by
  have z25 := zero25
  go_enter Try.func24, Try.ntmps24
  go_wp2
  go_loopw [7] (fun s7 wx => ∃ k : Nat, (k : Int) ≤ 1024 ∧ s7 = .int .i64 k ∧ wx = (w.alloc (.cells (blk (upto f (layF f a n q) k)) 25)).alloc (.cells (blk nought) 25)) (fun s7 _ => 1024 - (intOf s7).toNat)
  case atStart => exact ⟨0, by omega, rfl, by rw [upto_zero]⟩
  case round =>
    obtain ⟨k, hk, rfl, rfl⟩ := hrel
    by_cases hk2 : (k : Int) < 1024
    · by_cases h1 : (k : Int) < a
      · have e : upto f (layF f a n q) k = upto f (layF f a n q) (k + 1) := upto_same _ _ _ (by unfold layF; rw [if_neg (by omega)])
        rw [e]
        clear e hc hb
        go_wp2
        exact ⟨⟨k + 1, by omega, by go_num, rfl⟩, by simp [intOf]; omega⟩
      · by_cases h2 : (k : Int) - a ≤ 9223372036854775807
        · by_cases h3 : (k : Int) - a < n
          · obtain ⟨l, hl⟩ : ∃ l : Nat, (k : Int) - a = (l : Int) := ⟨((k : Int) - a).toNat, by omega⟩
            have hq : layF f a n q k = q l := by unfold layF; rw [if_pos (by omega)]; congr 1; omega
            have hcl := hc l (by omega)
            have hbk := blk_get (upto f (layF f a n q) k) k (by omega)
            have e : upd (upto f (layF f a n q) k) k (q l) = upto f (layF f a n q) (k + 1) := by rw [← hq]; exact upto_next _ _ _
            have E : Hid (upd (upto f (layF f a n q) k) k (q l) = upto f (layF f a n q) (k + 1)) := e
            have eidx : ((k : Int) - a).toNat = l := by omega
            clear e hc hq
            generalize upto f (layF f a n q) k = U at *
            have hset := blk_set U
            go_wp2
            exact ⟨⟨k + 1, by omega, by go_num, by rw [E.out]⟩, by simp [intOf]; omega⟩
          · have e : upto f (layF f a n q) k = upto f (layF f a n q) (k + 1) := upto_same _ _ _ (by unfold layF; rw [if_neg (by omega)])
            rw [e]
            clear e hc hb
            go_wp2
            exact ⟨⟨k + 1, by omega, by go_num, rfl⟩, by simp [intOf]; omega⟩
        · have e : upto f (layF f a n q) k = upto f (layF f a n q) (k + 1) := upto_same _ _ _ (by unfold layF; rw [if_neg (by omega)])
          rw [e]
          have hwr : wrap64 ((k : Int) - a) < 0 := by unfold wrap64; omega
          clear e hc hb h2
          go_wp2
          exact ⟨⟨k + 1, by omega, by go_num, rfl⟩, by simp [intOf]; omega⟩
    · have e : k = 1024 := by omega
      subst e
      have hall := upto_all f (layF f a n q)
      rw [hall]
      clear hall hc hb
      go_wp2_with (first | refine wpList_load25 rfl _ rfl _ rfl _ (heap_alloc2_old _ _ _) ?_ | refine wpList_store25 rfl _ _ rfl _ _ rfl rfl _ (heap_alloc2_new _ _ _) ?_)
      exact ret25 rfl (w.heap.size + 1) _ rfl (setRow_heap _ _ _ _ _ _ (heap_alloc2_new _ _ _)) rfl ⟨rfl, below2 _ _ _ _ (by omega) _⟩

set_option maxRecDepth 20000 in
set_option maxHeartbeats 1000000 in
theorem refLay_none (f : Nat → Int) (a : Int) (x : Option Addr) (cap : Nat) (q : Nat → Int) (w : World) (ha : -9223372036854775808 ≤ a ∧ a ≤ 9223372036854775807) :
    Calls Try.prog 24 #[.agg (blk f), .int .i64 a, .slice x 0 cap] w fun e w' => e = .returned (.agg (blk (layF f a 0 q))) ∧ Below w.heap.size w w' := by
  have HF : Hid (blk f = blk (layF f a 0 q)) := blk_congr fun i _ => by unfold layF; rw [if_neg (by omega)]
  have z25 := zero25
  go_enter Try.func24, Try.ntmps24
  go_wp2
  go_loopw [7] (fun s7 wx => ∃ k : Nat, (k : Int) ≤ 1024 ∧ s7 = .int .i64 k ∧ wx = (w.alloc (.cells (blk f) 25)).alloc (.cells (blk nought) 25)) (fun s7 _ => 1024 - (intOf s7).toNat)
  case atStart => exact ⟨0, by omega, rfl, rfl⟩
  case round =>
    obtain ⟨k, hk, rfl, rfl⟩ := hrel
    by_cases hk2 : (k : Int) < 1024
    · by_cases h1 : (k : Int) < a
      · go_wp2
        exact ⟨⟨k + 1, by omega, by go_num, by trivial⟩, by simp [intOf]; omega⟩
      · by_cases h2 : (k : Int) - a ≤ 9223372036854775807
        · go_wp2
          exact ⟨⟨k + 1, by omega, by go_num, by trivial⟩, by simp [intOf]; omega⟩
        · have hwr : wrap64 ((k : Int) - a) < 0 := by unfold wrap64; omega
          clear h2
          go_wp2
          exact ⟨⟨k + 1, by omega, by go_num, by trivial⟩, by simp [intOf]; omega⟩
    · have e : k = 1024 := by omega
      subst e
      go_wp2_with (first | refine wpList_load25 rfl _ rfl _ rfl _ (heap_alloc2_old _ _ _) ?_ | refine wpList_store25 rfl _ _ rfl _ _ rfl rfl _ (heap_alloc2_new _ _ _) ?_)
      exact ret25 rfl (w.heap.size + 1) _ rfl (setRow_heap _ _ _ _ _ _ (heap_alloc2_new _ _ _)) rfl ⟨by rw [HF.out], below2 _ _ _ _ (by omega) _⟩
theorem refLay_any (f : Nat → Int) (k : Int) (p : Value) (n : Nat) (q : Nat → Int) (w : World) (ha : -9223372036854775808 ≤ k ∧ k ≤ 9223372036854775807) (hp : Lies w p n q) :
    Calls Try.prog 24 #[.agg (blk f), .int .i64 k, p] w fun e w' => e = .returned (.agg (blk (layF f k n q))) ∧ Below w.heap.size w w' := by
  rcases hp with ⟨a, cap, rfl, rfl, _⟩ | ⟨b, off, cap, rfl, hn, _, hb, hc⟩
  · exact refLay_none f k a cap q w ha
  · unfold maxLen at hn
    exact refLay_in f k b off n cap q w ha (by omega) hb hc
end Go.Proofs.Ytedbgeibhaiheaa
