/- The document's put and get over sixty-four bytes, and where a number of an inode stands; places inside. -/
import Derived.Test.YtohknfoljnddjaaInode
import Derived.Test.YtohknfoljnddjaaStands
namespace Go.Proofs.Ytohknfoljnddjaa
open Go.RowKit

theorem nplace_any (k : Int) (w : World) (h : 0 ≤ k ∧ k ≤ 100) : Calls Try.prog 26 #[.int .i64 k] w fun e w' => e = .returned (.int .i64 (12 + 4 * k)) ∧ w' = w := by
  obtain ⟨h0, h1⟩ := h
  go_enter Try.func26, Try.ntmps26
  go_wp2
  go_ret
  exact ⟨rfl, rfl⟩

set_option maxRecDepth 20000 in
set_option maxHeartbeats 400000 in
theorem put_any (f : Nat → Int) (k n : Nat) (v : Int) (w : World) (hk : k + n ≤ 64) (hv : 0 ≤ v ∧ v < 4294967296) :
    Calls Try.prog 28 #[.agg (rowA f 64), .int .i64 k, .int .i64 n, .int .u32 v] w fun e w' => e = .returned (.agg (rowA (putN f k v n) 64)) ∧ Below w.heap.size w w' := by
  have z29 := zero29
  go_enter Try.func28, Try.ntmps28
  go_wp2
  go_loopw [3, 9] (fun s3 s9 wx => ∃ (j : Nat) (u : Int) (F : Nat → Int), j ≤ n ∧ s9 = .int .i64 j ∧ s3 = .int .u32 u ∧ 0 ≤ u ∧ u < 4294967296 ∧ putN F (k + j) u (n - j) = putN f k v n ∧ wx = (w.alloc (.cells (rowA F 64) 29)).alloc (.cells (rowA nought 64) 29)) (fun _ s9 _ => n - (intOf s9).toNat)
  case atStart => exact ⟨0, v, f, by omega, rfl, rfl, hv.1, hv.2, by simp, rfl⟩
  case round =>
    obtain ⟨j, u, F, hj, rfl, rfl, hu0, hu1, hp, rfl⟩ := hrel
    have HQ : Hid (putN F (k + j) u (n - j) = putN f k v n) := hp
    clear hp
    by_cases hjn : (j : Int) < n
    · have hg := rowA_get F 64 (k + j) (by omega)
      have hset := rowA_set F 64 (k + j)
      have e0 : (k : Int) + (j : Int) = ((k + j : Nat) : Int) := by omega
      have hkj : k + j < 64 := by omega
      have HN : Hid (putN (upd F (k + j) (u % 256)) (k + j + 1) (u / 256) (n - (j + 1)) = putN f k v n) := by
        show _ = _
        rw [← HQ.out, show n - j = (n - (j + 1)) + 1 by omega, putN]
      have HM : Hid (k + j + 1 = k + (j + 1)) := by show _ = _; omega
      clear HQ
      generalize k + j = m at *
      go_wp2
      refine ⟨⟨j + 1, u / 256, upd F m (u % 256), by omega, by go_num, rfl, by omega, by omega, by rw [← HM.out]; exact HN.out, rfl⟩, by simp [intOf]; omega⟩
    · obtain rfl : j = n := by omega
      have HE : Hid (rowA F 64 = rowA (putN f k v j) 64) := by
        show _ = _
        rw [← HQ.out, Nat.sub_self, putN]
      clear HQ
      go_wp2_with (first | refine wpList_ldR 29 Try.underlying29 rfl rfl _ rfl _ rfl _ 29 (0, 0) (by rw [rowA_size]; exact size29) (heap_alloc2_old _ _ _) ?_ | refine wpList_stR 29 rfl _ _ rfl _ _ _ 29 (by rw [rowA_size]; exact size29) (by simp only [rowA_size]) (row64_one _) rfl rfl (heap_alloc2_new _ _ _) ?_)
      refine retR Try.underlying29 rfl rfl (w.heap.size + 1) _ 29 (by rw [rowA_size]; exact size29) rfl (setRow_heap _ _ _ _ _ _ (heap_alloc2_new _ _ _)) rfl ⟨by rw [HE.out], below2 _ _ _ _ (by omega) _⟩

set_option maxRecDepth 20000 in
set_option maxHeartbeats 400000 in
theorem get_any (f : Nat → Int) (k n : Nat) (w : World) (hk : k + n ≤ 64) (hn : 1 ≤ n ∧ n ≤ 4) (hf : ∀ i, 0 ≤ f i ∧ f i ≤ 255) :
    Calls Try.prog 33 #[.agg (rowA f 64), .int .i64 k, .int .i64 n] w fun e w' => e = .returned (.int .u32 (numN f k n)) ∧ Below w.heap.size w w' := by
  go_enter Try.func33, Try.ntmps33
  go_wp2
  go_loopw [7, 8] (fun s7 s8 wx => ∃ (j : Nat), j ≤ n ∧ s8 = .int .i64 ((j : Int) - 1) ∧ s7 = .int .u32 (numN f (k + j) (n - j)) ∧ wx = w.alloc (.cells (rowA f 64) 29)) (fun _ s8 _ => (intOf s8 + 1).toNat)
  case atStart => exact ⟨n, by omega, rfl, by simp [numN], rfl⟩
  case round =>
    obtain ⟨j, hj, rfl, rfl, rfl⟩ := hrel
    cases j with
    | zero =>
      obtain ⟨y, hy⟩ : ∃ y : Int, y = ((0 : Nat) : Int) - 1 := ⟨_, rfl⟩
      rw [← hy]
      have hy0 : ¬ (0 ≤ y) := by omega
      clear hy
      go_wp2
      go_ret
      exact ⟨rfl, below_new _ _⟩
    | succ j =>
      have e1 : ((j + 1 : Nat) : Int) - 1 = (j : Int) := by omega
      rw [e1]
      have hbd := numN_bd f hf (n - (j + 1)) (k + (j + 1))
      have hp : (256 : Int) ^ (n - (j + 1)) ≤ 16777216 := by
        have : n - (j + 1) = 0 ∨ n - (j + 1) = 1 ∨ n - (j + 1) = 2 ∨ n - (j + 1) = 3 := by omega
        rcases this with h | h | h | h <;> rw [h] <;> decide
      have hb2 := hf (k + j)
      have hx0 := hbd.1
      have hx1 : numN f (k + (j + 1)) (n - (j + 1)) < 16777216 := by omega
      have hg := rowA_get f 64 (k + j) (by omega)
      have e0 : (k : Int) + (j : Int) = ((k + j : Nat) : Int) := by omega
      have hkj : k + j < 64 := by omega
      have HN : Hid (numN f (k + j) (n - j) = f (k + j) + 256 * numN f (k + (j + 1)) (n - (j + 1))) := by
        show _ = _
        rw [show n - j = (n - (j + 1)) + 1 by omega, numN]; rfl
      have HF : Hid _ := hf
      clear hbd hp hf
      generalize numN f (k + (j + 1)) (n - (j + 1)) = x at *
      generalize hfy : f (k + j) = y at *
      obtain ⟨hy0, hy1⟩ := hb2
      generalize hm : k + j = m at *
      have HM : Hid (k + j = m) := hm
      clear hm
      go_wp2
      refine ⟨⟨j, by omega, by go_num, ?_, trivial⟩, by simp [intOf]⟩
      rw [HM.out, HN.out]
      congr 1
      omega
end Go.Proofs.Ytohknfoljnddjaa
