/- Encode of the document: the header's block, or none; for every layout and every list of targets. -/
import Derived.Test.YtichojdcoegboaaGreatK28
import Derived.StillTailTactics
namespace Go.Proofs.YtichojdcoegboaaGreatW.H
open Go.RowKit
theorem wpStill_loadB30 {ops : Array Oper} {Q : Act → Prop} {a : Act} {o : Oper} {rest : List Oper} {w : World} (hgd : o.guard = none) (x : Operand) (ho : o.op = .load 64 x)
  (g : Nat) (hx : a.eval x = .pointer (some ⟨g, 0, none⟩)) (f : Nat → Int) (hg : w.heap[g]? = some (.cells (blk f) 64))
  (h : wpStill Tryz.prog ops w Q rest (a.put o.dst (.agg (blk f)))) : wpStill Tryz.prog ops w Q (o :: rest) a := by
 unfold wpStill
 rw [if_pos (by simp [Region.wanted, hgd])]
 unfold Oper.still execOp
 simp only [ho, hx, Instr.loadAt, Instr.sureAddr, Sem.run_bind, Sem.run_pure, Result.andThen_ok, load30L w g f hg, Oper.stillUpon]
 exact ⟨trivial, h⟩
set_option maxRecDepth 20000 in
set_option maxHeartbeats 2000000 in
theorem refEnc_ok (b l i a c d e f g : Int) (ts : List Int) (p : Option Addr) (cap : Nat) (w : World) (hs : standsB b l i a c d e f g = true) (hl : 32 ≤ l ∧ l ≤ 256) (hts : IntsAt w p ts) (hu : AllU ts) (hn : ts.length ≤ 255)
  (hm : mayB (1 + l) b (l - 1) ts = true) :
  Calls Tryz.prog 108 #[.agg (lay9 b l i a c d e f g), .agg #[.slice p ts.length cap]] w fun e' w' => e' = .returned (.tuple #[.agg (blk (headF ts)), .int .i64 0]) ∧ Below w.heap.size w w' := by
 have hc := fun w => fits3_any b l i a c d e f g w
 rw [hs] at hc
 have hM := fun W (h : IntsAt W p ts) => refMay_any b l i a c d e f g ts p cap W hl (by omega) h
 rw [hm] at hM
 clear hs hm
 have z25 := zero25
 have hsz : (lay9 b l i a c d e f g).size = 9 := rfl
 obtain ⟨n, hnn⟩ : ∃ n, ts.length = n := ⟨_, rfl⟩
 have HT : Hid (IntsAt w p ts ∧ AllU ts ∧ ts.length = n) := ⟨hts, hu, hnn⟩
 unfold headF
 rw [hnn] at hn hM ⊢
 clear hts hu hnn
 generalize lay9 b l i a c d e f g = L at *
 have HM : Hid (∀ W, IntsAt W p ts → Calls Tryz.prog 139 #[.agg L, .agg #[.slice p n cap]] W fun e' w' => e' = .returned (.bool true) ∧ Below W.heap.size W w') := hM
 clear hM
 have HS0 : Hid (put nought 0 4 (n : Int) = wordF [(n : Int)]) := by
  have := wordF_snoc [] (n : Int) ⟨by omega, by omega⟩ (by simp)
  rw [wordF_nil] at this
  exact this
 go_enter Tryz.func108, Tryz.ntmps108
 go_wp2_with (first | refine wpList_loadL rfl _ rfl _ rfl _ hsz (heap3o _ _ _ _) ?_ | (go_at_call 138; fail))
 refine (hc _).mono ?_
 rintro e' W1 ⟨rfl, hb1⟩
 have h0 := heap_kept (heap3o w _ _ _) hb1
 have h1 := heap_kept (heap3 w _ _ _) hb1
 have h2 := heap_kept (heap3n w _ _ _) hb1
 have HB : Hid (Below w.heap.size w W1) := below_next (below3 _ _ _ _) hb1
 clear hb1 hc
 go_wp2_with (first | (with_reducible refine isLoad 59 ?_; refine wpList_loadL rfl _ rfl _ rfl _ hsz h0 ?_) | (with_reducible refine isLoad 129 ?_; refine wpList_load35H rfl _ rfl _ rfl _ h1 ?_) | (go_at_call 139; fail))
 refine (HM.out _ (HT.out.1.later HB.out)).mono ?_
 rintro e' W2 ⟨rfl, hb2⟩
 have h3 := heap_kept h2 hb2
 have h4 := heap_kept h1 hb2
 have HB2 : Hid (Below w.heap.size w W2) := below_next HB.out hb2
 clear hb2 HM h0 h1 h2 HB
 have h4c := cell_one h4
 have hwr : IntKind.u32.wrap (n : Int) = n := by rw [wrap_u32]; omega
 go_wp2_with (first | (go_at_call 140; fail))
 refine (refSet32_any nought 0 (n : Int) _ (by omega)).mono ?_
 rintro e' W3 ⟨rfl, hb3⟩
 rw [HS0.out]
 have h5 := heap_kept h3 hb3
 have h6 := heap_kept h4 hb3
 have HB3 : Hid (Below w.heap.size w W3) := below_next HB2.out hb3
 have hlt : w.heap.size + 2 < W3.heap.size := (Array.getElem?_eq_some_iff.1 h5).1
 clear hb3 h3 h4 HB2 h4c
 have h6c := cell_one h6
 have h6d := cell_one (heap_kept h6 (below_new W3 (.cells (blk (wordF [(n : Int)])) 64)))
 go_wp2_with (first | refine wpList_store25_new rfl _ _ rfl _ _ rfl rfl ?_)
 go_loopw [7] (fun s28 wx => ∃ k : Nat, k ≤ n ∧ s28 = .int .i64 k ∧ wx.heap[W3.heap.size]? = some (.cells (blk (wordF ((n : Int) :: ts.take k))) 64) ∧ Below W3.heap.size W3 wx) (fun s28 _ => n - (intOf s28).toNat)
 case atStart => exact ⟨0, by omega, rfl, heap_alloc_new _ _, below_new _ _⟩
 case round =>
  obtain ⟨k, hk, rfl, hg, hbel⟩ := hrel
  have HW : Hid _ := hbel
  have hSr := (hbel.cell (p := ⟨w.heap.size + 1, 0, none⟩) (by show w.heap.size + 1 < W3.heap.size; omega)).trans h6c
  clear hbel
  by_cases hk2 : (k : Int) < n
  ·obtain ⟨hts, hu, hnn⟩ := HT.out
   have hx : ts[k]? = some ts[k] := List.getElem?_eq_getElem (by omega)
   have htk : ts.take (k + 1) = ts.take k ++ [ts[k]] := by rw [List.take_add_one, hx]; rfl
   have hxu := hu _ (List.getElem_mem (by omega : k < ts.length))
   obtain ⟨b1, o1, rfl, l1, C1⟩ := hts (by omega)
   generalize ts[k] = x at hx htk hxu
   have q1 : wr.cell? ⟨b1, o1 + k, none⟩ = some (.int .i64 x) := (HW.out.cell (p := ⟨b1, o1 + k, none⟩) (by show b1 < W3.heap.size; omega)).trans ((HB3.out.cell (p := ⟨b1, o1 + k, none⟩) l1).trans (C1 k x hx))
   have hst := fun (w : World) => refSet32_any (wordF ((n : Int) :: ts.take k)) (4 * ((k : Int) + 1)) x w hxu
   have hsn := wordF_snoc ((n : Int) :: ts.take k) x hxu (by simp; omega)
   rw [show (((n : Int) :: ts.take k).length : Nat) = k + 1 by simp; omega, List.cons_append, ← htk] at hsn
   rw [show 4 * ((k : Int) + 1) = ((4 * (k + 1) : Nat) : Int) by omega, hsn, show ((4 * (k + 1) : Nat) : Int) = 4 * ((k : Int) + 1) by omega] at hst
   have HST : Hid _ := hst
   have hwx : IntKind.u32.wrap x = x := by rw [wrap_u32]; omega
   generalize wordF ((n : Int) :: ts.take k) = F at *
   generalize hF' : wordF ((n : Int) :: ts.take (k + 1)) = F' at *
   have HF' : Hid _ := hF'
   clear hst hsn hx htk hu hts hnn C1 hF'
   have hwa : IntKind.i64.wrap ((k : Int) + 1) = (k : Int) + 1 := by rw [IntKind.wrap_i64]; omega
   have hwm : IntKind.i64.wrap (4 * ((k : Int) + 1)) = 4 * ((k : Int) + 1) := by rw [IntKind.wrap_i64]; omega
   go_wp2
   have hg0 : wr.drew.heap[W3.heap.size]? = some (.cells (blk F) 64) := hg
   have hSd : wr.drew.cell? ⟨w.heap.size + 1, 0, none⟩ = some (.slice (some ⟨b1, o1, none⟩) n cap) := hSr
   have q1d : wr.drew.cell? ⟨b1, o1 + k, none⟩ = some (.int .i64 x) := q1
   have HBd : Hid (Below W3.heap.size W3 wr.drew) := HW.out.drew
   clear hg HW q1 hSr
   go_still_tail 10, (by kernel_rfl)
   change wpStill _ _ (World.drew wr) (fun a' => wpList _ _ _ _ a' (World.drew wr)) _ _
   generalize World.drew wr = V at *
   refine wpStill_loadB30 rfl _ rfl _ rfl F hg0 ?_
   repeat still_step
   refine wpStill_nil ?_
   go_wp2_with (first | (go_at_call 140; fail))
   refine (HST.out _).mono ?_
   rintro e' X ⟨rfl, hbx⟩
   have hg1 := heap_kept hg0 hbx
   have HB1 : Hid (Below W3.heap.size W3 X) := below_next HBd.out hbx
   have hg2 := setRow_heap X W3.heap.size (blk F) (blk F') 64 (0, 0) hg1
   have HB2' : Hid (Below W3.heap.size W3 (X.setRow W3.heap.size (blk F'))) := below_setRow HB1.out (Nat.le_refl _) _
   clear hg0 HB1 HBd hbx HST hSd q1d
   go_wp2_with (first | (with_reducible refine isStore 64 ?_; refine wpList_store25 rfl _ _ rfl _ _ rfl rfl _ hg1 ?_))
   exact ⟨⟨k + 1, by omega, by go_num, by rw [HF'.out]; exact hg2, HB2'.out⟩, by simp [intOf]; omega⟩
  ·obtain rfl : k = n := by omega
   rw [List.take_of_length_le (by have := HT.out.2.2; omega)] at hg
   have h5' := (HW.out.block _ hlt).trans h5
   generalize hF : wordF ((k : Int) :: ts) = F at *
   have HF : Hid _ := hF
   clear hk HT hF
   go_wp2_with (first | refine wpList_load25 rfl _ rfl _ rfl _ hg ?_ | refine wpList_store25 rfl _ _ rfl _ _ rfl rfl _ h5' ?_)
   exact retCT rfl (w.heap.size + 2) _ rfl (load30L _ _ _ (setRow_heap _ _ _ _ _ _ h5')) rfl ⟨by rw [HF.out]; rfl, below_setRow (below_next HB3.out HW.out) (by omega) _⟩
end Go.Proofs.YtichojdcoegboaaGreatW.H
