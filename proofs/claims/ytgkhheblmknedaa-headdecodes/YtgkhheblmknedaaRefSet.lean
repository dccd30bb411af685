/- The document's own SetU16, SetU32: the block in which a number is laid; for every block, place and number. -/
import Derived.Test.YtgkhheblmknedaaRefNum
namespace Go.Proofs.Ytgkhheblmknedaa
open Go.RowKit

theorem putN_step (g : Nat → Int) (k n i : Nat) (u : Int) (hi : i + 1 ≤ n) : putN g (k + i) u (n - i) = putN (upd g (k + i) (u % 256)) (k + (i + 1)) (u / 256) (n - (i + 1)) := by
  rw [show n - i = (n - (i + 1)) + 1 by omega, putN, Nat.add_assoc]

set_option maxRecDepth 20000 in
set_option maxHeartbeats 400000 in
theorem rset_in (f : Nat → Int) (k n : Nat) (v : Int) (w : World) (hn : 1 ≤ (n : Int) ∧ (n : Int) ≤ 4) (hk : (k : Int) + (n : Int) ≤ 1024) (hv : 0 ≤ v ∧ v < 4294967296) :
    Calls Try.prog 42 #[.agg (blk f), .int .i64 k, .int .i64 n, .int .u32 v] w fun e w' => e = .returned (.agg (blk (putN f k v n))) ∧ Below w.heap.size w w' := by
  have z25 := zero25
  go_enter Try.func42, Try.ntmps42
  go_wp2_with (first | (go_at_call 44; refine (inside_yes _ _ (by omega)).mono ?_; rintro e w' ⟨rfl, rfl⟩))
  go_loopw [3, 9] (fun s3 s9 wx => ∃ (i : Nat) (g : Nat → Int) (u : Int), (i : Int) ≤ n ∧ s9 = .int .i64 i ∧ s3 = .int .u32 u ∧ 0 ≤ u ∧ u < 4294967296 ∧ Hid (putN g (k + i) u (n - i) = putN f k v n) ∧ wx = (w.alloc (.cells (blk g) 30)).alloc (.cells (blk nought) 30)) (fun _ s9 _ => n - (intOf s9).toNat)
  case atStart => exact ⟨0, f, v, by omega, rfl, rfl, hv.1, hv.2, rfl, rfl⟩
  case round =>
    obtain ⟨i, g, u, hi, rfl, rfl, hu0, hu1, hg, rfl⟩ := hrel
    by_cases h : (i : Int) < n
    · have hst := putN_step g k n i u (by omega)
      have HG : Hid (putN (upd g (k + i) (u % 256)) (k + (i + 1)) (u / 256) (n - (i + 1)) = putN f k v n) := hst.symm.trans hg.out
      clear hg hst
      have hbm := fun q => blk_get q (k + i) (by omega)
      have eadd : ((k : Int) + (i : Int)).toNat = k + i := by omega
      have hset := blk_set
      go_wp2
      exact ⟨⟨i + 1, _, _, by omega, by go_num, rfl, by omega, by omega, HG, rfl⟩, by simp [intOf]; omega⟩
    · have hin : i = n := by omega
      subst hin
      have hG : g = putN f k v i := by have := hg.out; rwa [Nat.sub_self, putN] at this
      have HG : Hid (g = putN f k v i) := hG
      clear hg hG
      go_wp2_with (first | refine wpList_load25 rfl _ rfl _ rfl _ (heap_alloc2_old _ _ _) ?_ | refine wpList_store25 rfl _ _ rfl _ _ rfl rfl _ (heap_alloc2_new _ _ _) ?_)
      exact ret25 rfl (w.heap.size + 1) _ rfl (setRow_heap _ _ _ _ _ _ (heap_alloc2_new _ _ _)) rfl ⟨ret_blk HG.out, below2 _ _ _ _ (by omega) _⟩
set_option maxRecDepth 20000 in
set_option maxHeartbeats 400000 in
theorem rset_out (f : Nat → Int) (k : Int) (n : Nat) (v : Int) (w : World) (hn : 1 ≤ (n : Int) ∧ (n : Int) ≤ 4) (hk : ¬ (0 ≤ k ∧ k ≤ 1024 - (n : Int))) :
    Calls Try.prog 42 #[.agg (blk f), .int .i64 k, .int .i64 n, .int .u32 v] w fun e w' => e = .returned (.agg (blk f)) ∧ Below w.heap.size w w' := by
  have z25 := zero25
  by_cases h : 0 ≤ k ∧ k < 1024
  · obtain ⟨h0, h1⟩ := h
    have HK : Hid (¬ (0 ≤ k + (n : Int) - 1 ∧ k + (n : Int) - 1 < 1024)) := show ¬ _ by omega
    clear hk
    go_enter Try.func42, Try.ntmps42
    go_wp2_with fail
    refine (inside_yes _ _ ⟨h0, h1⟩).mono ?_
    rintro e w' ⟨rfl, rfl⟩
    go_wp2_with fail
    refine (inside_no _ _ HK.out).mono ?_
    rintro e w' ⟨rfl, rfl⟩
    go_wp2_with (first | refine wpList_load25 rfl _ rfl _ rfl _ (heap_alloc2_old _ _ _) ?_ | refine wpList_store25 rfl _ _ rfl _ _ rfl rfl _ (heap_alloc2_new _ _ _) ?_)
    exact ret25 rfl (w.heap.size + 1) _ rfl (setRow_heap _ _ _ _ _ _ (heap_alloc2_new _ _ _)) rfl ⟨rfl, below2 _ _ _ _ (by omega) _⟩
  · have HK : Hid (¬ (0 ≤ k ∧ k < 1024)) := h
    clear hk h
    go_enter Try.func42, Try.ntmps42
    go_wp2_with fail
    refine (inside_no _ _ HK.out).mono ?_
    rintro e w' ⟨rfl, rfl⟩
    go_wp2_with (first | refine wpList_load25 rfl _ rfl _ rfl _ (heap_alloc2_old _ _ _) ?_ | refine wpList_store25 rfl _ _ rfl _ _ rfl rfl _ (heap_alloc2_new _ _ _) ?_)
    exact ret25 rfl (w.heap.size + 1) _ rfl (setRow_heap _ _ _ _ _ _ (heap_alloc2_new _ _ _)) rfl ⟨rfl, below2 _ _ _ _ (by omega) _⟩
theorem rset_any (f : Nat → Int) (k : Int) (n : Nat) (v : Int) (w : World) (hn : 1 ≤ (n : Int) ∧ (n : Int) ≤ 4) (hv : 0 ≤ v ∧ v < 4294967296) :
    Calls Try.prog 42 #[.agg (blk f), .int .i64 k, .int .i64 n, .int .u32 v] w fun e w' => e = .returned (.agg (blk (put f k n v))) ∧ Below w.heap.size w w' := by
  by_cases h : 0 ≤ k ∧ k ≤ 1024 - (n : Int)
  · obtain ⟨m, rfl⟩ := Int.eq_ofNat_of_zero_le h.1
    rw [put_in f m n v (by omega)]; exact rset_in f m n v w hn (by omega) hv
  · rw [put_out f k n v (by omega)]; exact rset_out f k n v w hn h

theorem later1 {w W : World} {o o1 : Obj} (hb : Below ((w.alloc o).alloc o1).heap.size ((w.alloc o).alloc o1) W) : W.heap[w.heap.size + 1]? = some o1 :=
  (hb.block (w.heap.size + 1) (by simp)).trans (heap_alloc2_new _ _ _)
theorem later2 {w W : World} {o o1 : Obj} (hb : Below ((w.alloc o).alloc o1).heap.size ((w.alloc o).alloc o1) W) (g : Nat) (hg : w.heap.size ≤ g) (cs : Array Value) : Below w.heap.size w (W.setRow g cs) :=
  below_setRow ((((Below.refl _ _).alloc (Nat.le_refl _) _).alloc (by simp) _).trans (hb.mono (by simp; omega))) hg cs
set_option maxRecDepth 20000 in
set_option maxHeartbeats 400000 in
theorem refSet32_any (f : Nat → Int) (k : Int) (v : Int) (w : World) (hv : 0 ≤ v ∧ v < 4294967296) :
    Calls Try.prog 32 #[.agg (blk f), .int .i64 k, .int .u32 v] w fun e w' => e = .returned (.agg (blk (put f k 4 v))) ∧ Below w.heap.size w w' := by
  have z25 := zero25
  go_enter Try.func32, Try.ntmps32
  go_wp2_with (first | refine wpList_load25 rfl _ rfl _ rfl _ (heap_alloc2_old _ _ _) ?_)
  refine (rset_any f k 4 v _ (by omega) (by omega)).mono ?_
  rintro e W ⟨rfl, hb⟩
  have hW := later1 hb
  have hb2 := later2 hb
  go_wp2_with (first | refine wpList_store25 rfl _ _ rfl _ _ rfl rfl _ hW ?_)
  exact ret25 rfl (w.heap.size + 1) _ rfl (setRow_heap _ _ _ _ _ _ hW) rfl ⟨rfl, hb2 _ (by omega) _⟩
end Go.Proofs.Ytgkhheblmknedaa
