/- Encode of head where the header may be; no condition. -/
import Derived.Test.YtgkhheblmknedaaEnc
namespace Go.Proofs.Ytgkhheblmknedaa
open Go.RowKit
theorem MayP.u {lo hi m : Int} {ts : List Int} (h : MayP lo hi m ts) (h0 : 0 ≤ lo) (h1 : hi ≤ 4294967296) : AllU ts := fun x hx => by
  have := h.2.1 x hx
  exact ⟨by omega, by omega⟩
set_option maxRecDepth 20000 in
set_option maxHeartbeats 2000000 in
theorem enc_ok (b l i a c d e f g : Int) (ts : List Int) (p : Option Addr) (cap : Nat) (w : World) (hb : I64 b) (hs : standsB b l i a c d e f g = true) (hl : 32 ≤ l ∧ l ≤ 256) (hts : IntsAt w p ts) (hu : AllU ts) (hn : ts.length ≤ 255)
    (hm : mayB c b (l - 1) ts = true) :
    Calls Try.prog 11 #[.agg (lay9 b l i a c d e f g), .agg #[.slice p ts.length cap]] w fun e' w' => e' = .returned (.tuple #[.agg (blk (headF ts)), .int .i64 0]) ∧ Below w.heap.size w w' := by
  have hc := fun w => hstands_any b l i a c d e f g w hb
  rw [hs] at hc
  have hM := fun W (h : IntsAt W p ts) => may_any b l i a c d e f g ts p cap W hl (by omega) h (allU_wf hu)
  rw [hm] at hM
  clear hs hm
  have z25 := zero25
  have hsz : (lay9 b l i a c d e f g).size = 9 := rfl
  obtain ⟨n, hnn⟩ : ∃ n, ts.length = n := ⟨_, rfl⟩
  have HT : Hid (IntsAt w p ts ∧ AllU ts ∧ ts.length = n) := ⟨hts, hu, hnn⟩
  unfold headF
  rw [hnn] at hn hM ⊢
  clear hts hu hnn
  generalize lay9 b l i a c d e f g = L at *
  have HM : Hid (∀ W, IntsAt W p ts → Calls Try.prog 34 #[.agg L, .slice p n cap] W fun e' w' => e' = .returned (.bool true) ∧ Below W.heap.size W w') := hM
  clear hM
  have HS0 : Hid (put nought 0 4 (n : Int) = wordF [(n : Int)]) := by
    have := wordF_snoc [] (n : Int) ⟨by omega, by omega⟩ (by simp)
    rw [wordF_nil] at this
    exact this
  go_enter Try.func11, Try.ntmps11
  go_wp2_with (first | refine wpList_loadL rfl _ rfl _ rfl _ hsz (heap3o _ _ _ _) ?_ | (go_at_call 33; fail))
  refine (hc _).mono ?_
  rintro e' W1 ⟨rfl, hb1⟩
  have h0 := heap_kept (heap3o w _ _ _) hb1
  have h1 := heap_kept (heap3 w _ _ _) hb1
  have h2 := heap_kept (heap3n w _ _ _) hb1
  have HB : Hid (Below w.heap.size w W1) := below_next (below3 _ _ _ _) hb1
  clear hb1 hc
  have h1c := cell_one h1
  go_wp2_with (first | refine wpList_loadL rfl _ rfl _ rfl _ hsz h0 ?_ | (go_at_call 34; fail))
  refine (HM.out _ (HT.out.1.later HB.out)).mono ?_
  rintro e' W2 ⟨rfl, hb2⟩
  have h3 := heap_kept h2 hb2
  have h4 := heap_kept h1 hb2
  have HB2 : Hid (Below w.heap.size w W2) := below_next HB.out hb2
  clear hb2 HM h0 h1 h2 HB h1c
  have h4c := cell_one h4
  have hwr : IntKind.u32.wrap (n : Int) = n := by rw [wrap_u32]; omega
  go_wp2_with (first | (go_at_call 23; fail))
  refine (set32_any nought 0 (n : Int) _ (by omega)).mono ?_
  rintro e' W3 ⟨rfl, hb3⟩
  rw [HS0.out]
  have h5 := heap_kept h3 hb3
  have h6 := heap_kept h4 hb3
  have HB3 : Hid (Below w.heap.size w W3) := below_next HB2.out hb3
  have hlt : w.heap.size + 2 < W3.heap.size := (Array.getElem?_eq_some_iff.1 h5).1
  clear hb3 h3 h4 HB2 h4c
  have h6c := cell_one h6
  have h6d := cell_one (heap_kept h6 (below_new W3 (.cells (blk (wordF [(n : Int)])) 30)))
  go_wp2_with (first | refine wpList_store25_new rfl _ _ rfl _ _ rfl rfl ?_)
  go_loopw [28] (fun s28 wx => ∃ k : Nat, k ≤ n ∧ s28 = .int .i64 k ∧ wx.heap[W3.heap.size]? = some (.cells (blk (wordF ((n : Int) :: ts.take k))) 30) ∧ Below W3.heap.size W3 wx) (fun s28 _ => n - (intOf s28).toNat)
  case atStart => exact ⟨0, by omega, rfl, heap_alloc_new _ _, below_new _ _⟩
  case round =>
    obtain ⟨k, hk, rfl, hg, hbel⟩ := hrel
    have HW : Hid _ := hbel
    clear hbel
    by_cases hk2 : (k : Int) < n
    · obtain ⟨hts, hu, hnn⟩ := HT.out
      have hx : ts[k]? = some ts[k] := List.getElem?_eq_getElem (by omega)
      have htk : ts.take (k + 1) = ts.take k ++ [ts[k]] := by rw [List.take_add_one, hx]; rfl
      have hxu := hu _ (List.getElem_mem (by omega : k < ts.length))
      obtain ⟨b1, o1, rfl, l1, C1⟩ := hts (by omega)
      generalize ts[k] = x at hx htk hxu
      have q1 : wr.cell? ⟨b1, o1 + k, none⟩ = some (.int .i64 x) := (HW.out.cell (p := ⟨b1, o1 + k, none⟩) (by show b1 < W3.heap.size; omega)).trans ((HB3.out.cell (p := ⟨b1, o1 + k, none⟩) l1).trans (C1 k x hx))
      have hst := fun (w : World) => set32_any (wordF ((n : Int) :: ts.take k)) (4 * ((k : Int) + 1)) x w hxu
      have hpl := fun (w : World) => place_any k w (by omega)
      have hsn := wordF_snoc ((n : Int) :: ts.take k) x hxu (by simp; omega)
      rw [show (((n : Int) :: ts.take k).length : Nat) = k + 1 by simp; omega, List.cons_append, ← htk] at hsn
      rw [show 4 * ((k : Int) + 1) = ((4 * (k + 1) : Nat) : Int) by omega, hsn, show ((4 * (k + 1) : Nat) : Int) = 4 * ((k : Int) + 1) by omega] at hst
      have HST : Hid _ := hst
      have HPL : Hid _ := hpl
      have hwx : IntKind.u32.wrap x = x := by rw [wrap_u32]; omega
      generalize wordF ((n : Int) :: ts.take k) = F at *
      generalize hF' : wordF ((n : Int) :: ts.take (k + 1)) = F' at *
      have HF' : Hid _ := hF'
      clear hst hpl hsn hx htk hu hts hnn C1 hF'
      go_wp2
      refine wp_region_fork (S := fun _ => True) [1, 3, 4] 0 2 [(5, false), (6, false)] (by kernel_rfl) rfl (by kernel_rfl) (fun d _ _ _ _ h => by cases d <;> exact h) trivial ?_
      refine wpFork_yield (v := .int .i64 (k : Int)) rfl rfl (fun u _ => by simp [execOp, Act.eval]) ?_
      simp only [Act.put, List.setIfInBounds_toArray, List.set_cons_succ, List.set_cons_zero]
      refine wpFork_yield (v := .int .i64 x) rfl rfl (fun u _ => by simp [execOp, Act.eval]) ?_
      simp only [Act.put, List.setIfInBounds_toArray, List.set_cons_succ, List.set_cons_zero]
      refine wpFork_yield (v := .int .u32 x) rfl rfl (fun u _ => by go_simp) ?_
      simp only [Act.put, List.setIfInBounds_toArray, List.set_cons_succ, List.set_cons_zero]
      have hg0 : wr.drew.heap[W3.heap.size]? = some (.cells (blk F) 30) := hg
      have HBd : Hid (Below W3.heap.size W3 wr.drew) := HW.out.drew
      clear hg HW q1
      generalize wr.drew = wd at *
      refine wpFork_nil rfl rfl ?_ ?_
      · simp only [inOrd, List.getElem?_cons_zero, List.getElem?_cons_succ]
        refine wpOrd_loadF rfl _ rfl _ rfl _ hg0 ⟨trivial, ?_⟩
        simp only [Act.put, List.setIfInBounds_toArray, List.set_cons_succ, List.set_cons_zero]
        refine wpOrd_call rfl 35 _ _ rfl Try.call35 [.int .i64 (k : Int)] rfl ?_
        refine (HPL.out _).mono ?_
        rintro e' X ⟨rfl, rfl⟩
        refine ⟨_, rfl, trivial, ?_⟩
        simp only [Act.put, List.setIfInBounds_toArray, List.set_cons_succ, List.set_cons_zero]
        refine wpOrd_call rfl 23 _ _ rfl Try.call23 [.agg (blk F), .int .i64 (4 * ((k : Int) + 1)), .int .u32 x] rfl ?_
        refine (HST.out _).mono ?_
        rintro e' X ⟨rfl, hbx⟩
        refine ⟨_, rfl, trivial, ?_⟩
        simp only [Act.put, List.setIfInBounds_toArray, List.set_cons_succ, List.set_cons_zero]
        have hg1 := heap_kept hg0 hbx
        have HB1 : Hid (Below W3.heap.size W3 X) := below_next HBd.out hbx
        refine wpOrd_storeB rfl _ _ rfl W3.heap.size F' _ rfl rfl hg1 ⟨trivial, ?_⟩
        refine wpOrd_nil ?_
        have hg2 := setRow_heap X W3.heap.size (blk F) (blk F') 30 (0, 0) hg1
        have HB2' : Hid (Below W3.heap.size W3 (X.setRow W3.heap.size (blk F'))) := below_setRow HB1.out (Nat.le_refl _) _
        simp only [Act.put]
        generalize X.setRow W3.heap.size (blk F') = Y at hg2 HB2' ⊢
        clear hg1 hg0 HB1 HBd hbx HST HPL
        go_wp2
        exact ⟨⟨k + 1, by omega, by go_num, by rw [HF'.out]; exact hg2, HB2'.out⟩, by simp [intOf]; omega⟩
      · simp only [inOrd, List.getElem?_cons_zero, List.getElem?_cons_succ]
        refine wpOrd_call rfl 35 _ _ rfl Try.call35 [.int .i64 (k : Int)] rfl ?_
        refine (HPL.out _).mono ?_
        rintro e' X ⟨rfl, rfl⟩
        refine ⟨_, rfl, trivial, ?_⟩
        simp only [Act.put, List.setIfInBounds_toArray, List.set_cons_succ, List.set_cons_zero]
        refine wpOrd_loadF rfl _ rfl _ rfl _ hg0 ⟨trivial, ?_⟩
        simp only [Act.put, List.setIfInBounds_toArray, List.set_cons_succ, List.set_cons_zero]
        refine wpOrd_call rfl 23 _ _ rfl Try.call23 [.agg (blk F), .int .i64 (4 * ((k : Int) + 1)), .int .u32 x] rfl ?_
        refine (HST.out _).mono ?_
        rintro e' X ⟨rfl, hbx⟩
        refine ⟨_, rfl, trivial, ?_⟩
        simp only [Act.put, List.setIfInBounds_toArray, List.set_cons_succ, List.set_cons_zero]
        have hg1 := heap_kept hg0 hbx
        have HB1 : Hid (Below W3.heap.size W3 X) := below_next HBd.out hbx
        refine wpOrd_storeB rfl _ _ rfl W3.heap.size F' _ rfl rfl hg1 ⟨trivial, ?_⟩
        refine wpOrd_nil ?_
        have hg2 := setRow_heap X W3.heap.size (blk F) (blk F') 30 (0, 0) hg1
        have HB2' : Hid (Below W3.heap.size W3 (X.setRow W3.heap.size (blk F'))) := below_setRow HB1.out (Nat.le_refl _) _
        simp only [Act.put]
        generalize X.setRow W3.heap.size (blk F') = Y at hg2 HB2' ⊢
        clear hg1 hg0 HB1 HBd hbx HST HPL
        go_wp2
        exact ⟨⟨k + 1, by omega, by go_num, by rw [HF'.out]; exact hg2, HB2'.out⟩, by simp [intOf]; omega⟩
    · obtain rfl : k = n := by omega
      rw [List.take_of_length_le (by have := HT.out.2.2; omega)] at hg
      have h5' := (HW.out.block _ hlt).trans h5
      generalize hF : wordF ((k : Int) :: ts) = F at *
      have HF : Hid _ := hF
      clear hk HT hF
      go_wp2_with (first | refine wpList_load25 rfl _ rfl _ rfl _ hg ?_ | refine wpList_store25 rfl _ _ rfl _ _ rfl rfl _ h5' ?_)
      exact retCT rfl (w.heap.size + 2) _ rfl (load30L _ _ _ (setRow_heap _ _ _ _ _ _ h5')) rfl ⟨by rw [HF.out]; rfl, below_setRow (below_next HB3.out HW.out) (by omega) _⟩
end Go.Proofs.Ytgkhheblmknedaa
