/- sureBlock: the walk. -/
import Derived.Test.YtbnbbelkddbndaaSureBlock
namespace Go.Proofs.Ytbnbbelkddbndaa
open Go.RowKit Go.Maps
set_option maxRecDepth 20000 in
set_option maxHeartbeats 1000000 in
theorem sureBlock_of (n : Int) (l : List Cel) (p : Option Addr) (cap : Nat) (ops : List Rec) (po : Option Addr) (co : Nat) (k : Int) (w : World) (hl : l.length < 9223372036854775807) (h : ImgAt w p l) (hlo : ops.length < 9223372036854775807) (ho : OpsAt w po ops) :
    Calls Try.prog 62 #[.agg #[.int .i64 n, .slice p l.length cap], .slice po ops.length co, .int .i64 k] w fun e w' => e = .returned (.agg (blk (lastB k nought (l ++ madeL [] ops)))) ∧ Below w.heap.size w w' := by
  rw [lastB_append]
  obtain ⟨N, hz, eN⟩ : ∃ N, (∀ w : World, (zeroValue 40).run Try.prog w = .ok (.agg (blk N)) w) ∧ N = nought := ⟨nought, zero25, rfl⟩
  rw [← eN]
  clear eN
  obtain ⟨W0, hW0⟩ : ∃ W0, W0 = (((w.alloc (.cells #[.int .i64 n, .slice p l.length cap] 24)).alloc (.cells #[.int .i64 k] 3)).alloc (.cells (blk N) 40)).alloc (.cells (blk N) 40) := ⟨_, rfl⟩
  have hB : Below w.heap.size w W0 := by
    rw [hW0]
    exact (((((Below.refl _ _).alloc (Nat.le_refl _) _).alloc (by simp) _).alloc (by simp; omega) _).alloc (by simp; omega) _)
  have hs : W0.heap.size = w.heap.size + 4 := by rw [hW0]; simp
  have s1 : (w.alloc (.cells #[.int .i64 n, .slice p l.length cap] 24)).heap.size = w.heap.size + 1 := by simp
  have s2 : ((w.alloc (.cells #[.int .i64 n, .slice p l.length cap] 24)).alloc (.cells #[.int .i64 k] 3)).heap.size = w.heap.size + 2 := by simp
  have s3 : (((w.alloc (.cells #[.int .i64 n, .slice p l.length cap] 24)).alloc (.cells #[.int .i64 k] 3)).alloc (.cells (blk N) 40)).heap.size = w.heap.size + 3 := by simp
  have hI : W0.heap[w.heap.size]? = some (.cells #[.int .i64 n, .slice p l.length cap] 24) := by
    rw [hW0]
    exact heap_kept (heap_kept (heap_kept (heap_alloc_new w _) (below_new _ _)) (below_new _ _)) (below_new _ _)
  have hA : W0.heap[w.heap.size + 1]? = some (.cells #[.int .i64 k] 3) := by
    rw [hW0]
    have := heap_alloc_new (w.alloc (.cells #[.int .i64 n, .slice p l.length cap] 24)) (.cells #[.int .i64 k] 3)
    rw [s1] at this
    exact heap_kept (heap_kept this (below_new _ _)) (below_new _ _)
  have hR : W0.heap[w.heap.size + 2]? = some (.cells (blk N) 40) := by
    rw [hW0]
    have := heap_alloc_new ((w.alloc (.cells #[.int .i64 n, .slice p l.length cap] 24)).alloc (.cells #[.int .i64 k] 3)) (.cells (blk N) 40)
    rw [s2] at this
    exact heap_kept this (below_new _ _)
  have hC : W0.heap[w.heap.size + 3]? = some (.cells (blk N) 40) := by
    rw [hW0]
    have := heap_alloc_new (((w.alloc (.cells #[.int .i64 n, .slice p l.length cap] 24)).alloc (.cells #[.int .i64 k] 3)).alloc (.cells (blk N) 40)) (.cells (blk N) 40)
    rw [s3] at this
    exact this
  have HI : Hid (ImgAt w p l) := h
  have HO : Hid (OpsAt w po ops) := ho
  have HB : Hid (Below w.heap.size w W0) := hB
  have HIm : Hid (W0.heap[w.heap.size]? = some (.cells #[.int .i64 n, .slice p l.length cap] 24)) := hI
  have HA : Hid (W0.heap[w.heap.size + 1]? = some (.cells #[.int .i64 k] 3)) := hA
  have HRs : Hid (W0.heap[w.heap.size + 2]? = some (.cells (blk N) 40)) := hR
  have HC : Hid (W0.heap[w.heap.size + 3]? = some (.cells (blk N) 40)) := hC
  have i1 : W0.cell? ⟨w.heap.size, 1, none⟩ = some (.slice p l.length cap) := Joins.cell_of_block hI 1
  clear h ho hB hI hA hR hC s1 s2 s3
  go_enter Try.func62, Try.ntmps62
  go_wp2_with (fail)
  rw [← hW0]
  go_wp2
  clear hW0 hz
  go_loopw [13] (fun s13 wx => ∃ j : Nat, j ≤ l.length ∧ s13 = .int .i64 j ∧ Hid (wx.heap[w.heap.size + 3]? = some (.cells (blk (lastB k N (l.take j))) 40)) ∧ Hid (Fr (fun i => i = w.heap.size + 3) W0 wx)) (fun s13 _ => l.length - (intOf s13).toNat)
  case atStart => exact ⟨0, by omega, rfl, HC.out, Fr.refl _ _⟩
  case round =>
    obtain ⟨j, hj, rfl, HP1, HF1⟩ := hrel
    clear HC i1
    have hIr : wr.heap[w.heap.size]? = some (.cells #[.int .i64 n, .slice p l.length cap] 24) := (HF1.out.block _ (by omega) (by omega)).trans HIm.out
    have hAr : wr.heap[w.heap.size + 1]? = some (.cells #[.int .i64 k] 3) := (HF1.out.block _ (by omega) (by omega)).trans HA.out
    have i1 : wr.cell? ⟨w.heap.size, 1, none⟩ = some (.slice p l.length cap) := Joins.cell_of_block hIr 1
    have a0 : wr.cell? ⟨w.heap.size + 1, 0, none⟩ = some (.int .i64 k) := Joins.cell_of_block hAr 0
    have hBr : Below w.heap.size w wr := HB.out.trans (HF1.out.below (fun i hi => by omega) (by omega))
    by_cases hj2 : (j : Int) < l.length
    · have hc : l[j]? = some l[j] := List.getElem?_eq_getElem (by omega)
      obtain ⟨b, off, rfl, hlt, hCl⟩ := HI.out (by omega)
      have ht := take_snoc hc
      generalize l[j] = c at hc ht
      obtain ⟨q1, q2⟩ := (hCl.later hBr hlt) j c hc
      by_cases hk : c.1 = k
      · have HN : Hid (∀ q, ((wr.drewN q).setRow (w.heap.size + 3) (blk c.2)).heap[w.heap.size + 3]? = some (.cells (blk (lastB k N (l.take (j + 1)))) 40) ∧ Fr (fun i => i = w.heap.size + 3) W0 ((wr.drewN q).setRow (w.heap.size + 3) (blk c.2))) := fun q => by
          refine ⟨?_, HF1.out.trans ⟨rfl, rfl, rfl, by simp, fun i _ hi => setRow_other (wr.drewN q) _ i _ (by omega)⟩ fun _ _ q => q⟩
          rw [ht, lastB_snoc, if_pos hk]
          exact setRow_heap _ _ _ _ _ _ (show (wr.drewN q).heap[w.heap.size + 3]? = _ from HP1.out)
        have q2q : ∀ q, BlkAt (wr.drewN q) b (off + j * 1025 + 1) c.2 := fun _ => q2
        have hPq : ∀ q, (wr.drewN q).heap[w.heap.size + 3]? = some (.cells (blk (lastB k N (l.take j))) 40) := fun _ => HP1.out
        have i1q : ∀ q, (wr.drewN q).cell? ⟨w.heap.size, 1, none⟩ = some (.slice (some ⟨b, off, none⟩) l.length cap) := fun _ => i1
        rw [hk] at q1
        have g0 : decide (k = k) = true := by simp
        clear hk q2 HP1 HF1 hBr hCl ht hc hIr hAr
        go_wp2
        go_quiet (fail)
        go_wp2_with (first | refine wpList_loadM rfl _ rfl b (off + j * 1025 + 1) rfl c.2 (q2q _) ?_ | refine wpList_store25 rfl _ _ rfl (w.heap.size + 3) c.2 rfl rfl _ (hPq _) ?_)
        exact ⟨⟨j + 1, by omega, by go_num, (HN.out _).1, (HN.out _).2⟩, by simp [intOf]; omega⟩
      · have HN : Hid (wr.heap[w.heap.size + 3]? = some (.cells (blk (lastB k N (l.take (j + 1)))) 40)) := by
          rw [ht, lastB_snoc, if_neg hk]
          exact HP1.out
        have HF2 : Hid (∀ q, Fr (fun i => i = w.heap.size + 3) W0 (wr.drewN q)) := fun q => HF1.out.trans ⟨rfl, rfl, rfl, Nat.le_refl _, fun _ _ _ => rfl⟩ fun _ _ q => q
        have g0 : decide (c.1 = k) = false := decide_eq_false hk
        clear q2 HP1 HF1 hBr hCl ht hc hIr hAr
        go_wp2
        go_quiet (fail)
        go_wp2
        exact ⟨⟨j + 1, by omega, by go_num, HN.out, HF2.out _⟩, by simp [intOf]; omega⟩
    · obtain rfl : j = l.length := by omega
      have hP := HP1.out
      rw [List.take_length] at hP
      have hE := each_sure (B := w.heap.size) (w := wr) (ca := w.heap.size + 1) (cb := w.heap.size + 3) (k := k) (ops := ops) (po := po) (co := co) (g := lastB k N l)
        (OpsIn.kept (w := w) HO.out.toIn fun i hi => hBr.block i hi) hBr.size (by omega) hAr hP hlo
      have hRr : wr.heap[w.heap.size + 2]? = some (.cells (blk N) 40) := (HF1.out.block _ (by omega) (by omega)).trans HRs.out
      have HBr : Hid (Below w.heap.size w wr) := hBr
      have HRr : Hid (wr.heap[w.heap.size + 2]? = some (.cells (blk N) 40)) := hRr
      have hws : w.heap.size + 4 ≤ wr.heap.size := by have := HF1.out.size; omega
      clear hP HP1 HF1 hIr hAr hBr hRr i1 a0
      go_wp2_with (go_at_call 56; fail)
      refine hE.mono ?_
      rintro e W2 ⟨rfl, hP2, hF2⟩
      have hR2 : W2.heap[w.heap.size + 2]? = some (.cells (blk N) 40) := (hF2.block _ (by omega) (by omega)).trans HRr.out
      have HB2 : Hid (Below w.heap.size w W2) := HBr.out.trans (hF2.below (fun i hi => by omega) HBr.out.size)
      clear hE hF2
      go_wp2_with (first | refine wpList_load25 rfl _ rfl (w.heap.size + 3) rfl _ hP2 ?_ | refine wpList_store25 rfl _ _ rfl (w.heap.size + 2) _ rfl rfl _ hR2 ?_)
      exact ret25 rfl (w.heap.size + 2) _ rfl (setRow_heap _ _ _ _ _ _ hR2) rfl ⟨rfl, below_setRow HB2.out (by omega) _⟩
end Go.Proofs.Ytbnbbelkddbndaa
