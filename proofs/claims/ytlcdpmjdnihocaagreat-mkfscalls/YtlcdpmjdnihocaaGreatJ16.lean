/- The document's Encode: the superblock of a layout, or none; for every layout. -/
import Derived.Test.YtlcdpmjdnihocaaGreatJ4
import Derived.Test.YtlcdpmjdnihocaaGreatJ15
namespace Go.Proofs.YtlcdpmjdnihocaaGreatP
open Go.RowKit

set_option maxRecDepth 20000 in
set_option maxHeartbeats 400000 in
theorem refNumbers_exact (b l i a c d e f g : Int) (w : World) :
    Calls Tryz.prog 71 #[.agg (lay9 b l i a c d e f g)] w fun e' w' => e' = .returned (.agg (lay9 b l i a c d e f g)) ∧ w' = (w.alloc (.cells (lay9 b l i a c d e f g) 52)).alloc (.cells (lay9 b l i a c d e f g) 124) := by
  unfold lay9
  go_enter Tryz.func71, Tryz.ntmps71
  go_wp2
  exact ret48 rfl (w.heap.size + 1) _ rfl rfl (heap_alloc2_new _ _ _) rfl ⟨rfl, rfl⟩

set_option maxRecDepth 20000 in
set_option maxHeartbeats 400000 in
theorem refEncode_not (b l i a c d e f g : Int) (w : World) (hs : standsB b l i a c d e f g = false) :
    Calls Tryz.prog 47 #[.agg (lay9 b l i a c d e f g)] w fun e' w' => e' = .returned (.tuple #[.agg (blk nought), .int .i64 2]) ∧ Below w.heap.size w w' := by
  have hc := fun w => fits3_any b l i a c d e f g w
  rw [hs] at hc
  clear hs
  have z25 := zero25
  unfold lay9 at *
  go_enter Tryz.func47, Tryz.ntmps47
  go_wp2_with (first | (go_at_call 70; fail))
  refine (hc _).mono ?_
  rintro e' W1 ⟨rfl, hb1⟩
  have h2 := heap_kept (heap_alloc2_new w _ _) hb1
  have HB : Hid (Below w.heap.size w W1) := below_next (bel_al (below_new _ _) _) hb1
  clear hb1 hc
  go_wp2_with (first | refine wpList_store25 rfl _ _ rfl _ _ rfl rfl _ h2 ?_)
  refine retCT rfl (w.heap.size + 1) _ rfl (load35L _ _ _ (setRow_heap _ _ _ _ _ _ h2)) rfl ⟨rfl, below_setRow HB.out (by omega) _⟩

theorem magicB (k : Nat) (hk : k < 8) (n : Nat → Int) : magicF k = supF n k := by unfold supF; rw [if_pos hk]
theorem blk_sup8 (n : Nat → Int) (k : Nat) (hk : k < 8) (x : Int) (hx : x = magicF k) : (blk (supK n k)).setIfInBounds k (.int .u8 x) = blk (supK n (k + 1)) := by
  rw [blk_set, hx, magicB k hk n, supK_step]

theorem wpList_store48_new {ops : Array Oper} {rest : List Oper} {o : Oper} {a : Act} {w : World} {Q : Exit → Act → World → Prop} (hgd : o.guard = none) (x y : Operand) (ho : o.op = .store 124 x y)
    (L L0 : Array Value) (hs : L.size = 9) (hs0 : L0.size = 9) (hone : L.all (·.oneCell') = true) (g : Nat) (hx : a.eval x = .pointer (some ⟨g, 0, none⟩)) (hgw : g = w.heap.size) (hy : a.eval y = .agg L)
    (h : wpList Tryz.prog ops Q rest (a.put o.dst undef) (w.alloc (.cells L 124))) : wpList Tryz.prog ops Q (o :: rest) a (w.alloc (.cells L0 124)) :=
  wpList_plain hgd fun _ hK => by
    subst hgw
    unfold Oper.wp execOp
    have hsz : (Tryz.prog.info? 124).map (·.size) = some L.size := by rw [hs]; kernel_rfl
    simp only [ho, hx, hy, Instr.storeAt, Instr.sureAddr, Sem.run_bind, Sem.run_pure, Result.andThen_ok, run_storeVar_row (w.alloc (.cells L0 124)) w.heap.size 124 124 L0 L (heap_alloc_new _ _) hsz (by rw [hs, hs0]) hone]
    refine hK _ _ ?_
    rw [World.setRow_alloc_new]
    exact h

set_option maxRecDepth 20000 in
set_option maxHeartbeats 1000000 in
theorem refEncode_fine (b l i : Int) (w : World) (hf : Fine b l i) :
    Calls Tryz.prog 47 #[layV b l i] w fun e' w' => e' = .returned (.tuple #[.agg (blk (superF b l i)), .int .i64 0]) ∧ Below w.heap.size w w' := by
  have hc := fun w => fits3_any b l i 1 (1 + l) (nodeB i) (bitsAt l i) (bitsB b) (dataAt b l i) w
  rw [show standsB b l i 1 (1 + l) (nodeB i) (bitsAt l i) (bitsB b) (dataAt b l i) = true from decide_eq_true ⟨hf, rfl, rfl, rfl, rfl, rfl, rfl⟩] at hc
  have hnum := fun w => refNumbers_exact b l i 1 (1 + l) (nodeB i) (bitsAt l i) (bitsB b) (dataAt b l i) w
  have hget := nine_get b l i 1 (1 + l) (nodeB i) (bitsAt l i) (bitsB b) (dataAt b l i)
  have hfour := hf.four
  have z25 := zero25
  unfold layV superF
  change ∀ k, k < 9 → (lay9 b l i 1 (1 + l) (nodeB i) (bitsAt l i) (bitsB b) (dataAt b l i))[k]? = some (.int .i64 (nineG b l i k)) at hget
  generalize nineG b l i = n at *
  have hsz : (lay9 b l i 1 (1 + l) (nodeB i) (bitsAt l i) (bitsB b) (dataAt b l i)).size = 9 := rfl
  have hone : (lay9 b l i 1 (1 + l) (nodeB i) (bitsAt l i) (bitsB b) (dataAt b l i)).all (·.oneCell') = true := by simp [lay9, Value.oneCell']
  have z48 : ∀ w, (zeroValue 124).run Tryz.prog w = .ok (.agg (lay9 0 0 0 0 0 0 0 0 0)) w := fun w => by
    exact (zero_of_info (show (Tryz.prog.info? 124).map (fun i => (i.zero, i.size)) = some (some (.agg (lay9 0 0 0 0 0 0 0 0 0)), 9) by kernel_rfl)).1 w
  generalize lay9 b l i 1 (1 + l) (nodeB i) (bitsAt l i) (bitsB b) (dataAt b l i) = L at *
  clear hf
  have HG : Hid _ := hget
  have H4 : Hid _ := hfour
  have HN : Hid (blk nought = blk (supK n 0)) := by
    show _ = _
    exact blk_congr fun i _ => rfl
  clear hget hfour
  go_enter Tryz.func47, Tryz.ntmps47
  go_wp2_with (first | refine wpList_loadL rfl _ rfl _ rfl _ hsz (heap_alloc2_old _ _ _) ?_ | (go_at_call 70; fail))
  refine (hc _).mono ?_
  rintro e' W1 ⟨rfl, hb1⟩
  have h1 := heap_kept (heap_alloc2_old w (.cells L 52) (.cells (blk nought) 79)) hb1
  have h2 := heap_kept (heap_alloc2_new w (.cells L 52) (.cells (blk nought) 79)) hb1
  have HB1 : Hid (Below w.heap.size w W1) := below_next (bel_al (below_new _ _) _) hb1
  clear hb1 hc
  go_wp2
  go_loopw [7] (fun s7 wx => ∃ k : Nat, k ≤ 8 ∧ s7 = .int .i64 k ∧ wx = W1.alloc (.cells (blk (supK n k)) 79)) (fun s7 _ => 8 - (intOf s7).toNat)
  case atStart => exact ⟨0, by omega, rfl, by rw [HN.out]⟩
  case round =>
    obtain ⟨k, hk, rfl, rfl⟩ := hrel
    by_cases hk8 : (k : Int) < 8
    · have hbk := blk_get (supK n k) k (by omega)
      have hbs := blk_sup8 n k (by omega)
      have HK : k = 0 ∨ k = 1 ∨ k = 2 ∨ k = 3 ∨ k = 4 ∨ k = 5 ∨ k = 6 ∨ k = 7 := by omega
      have HB : Hid _ := hbs
      clear hbs hk hk8
      rcases HK with rfl | rfl | rfl | rfl | rfl | rfl | rfl | rfl
      · go_wp2
        exact ⟨⟨1, by omega, by go_num, congrArg (fun c => W1.alloc (.cells c 79)) (HB.out _ (by rfl))⟩, by simp [intOf]⟩
      · go_wp2
        exact ⟨⟨2, by omega, by go_num, congrArg (fun c => W1.alloc (.cells c 79)) (HB.out _ (by rfl))⟩, by simp [intOf]⟩
      · go_wp2
        exact ⟨⟨3, by omega, by go_num, congrArg (fun c => W1.alloc (.cells c 79)) (HB.out _ (by rfl))⟩, by simp [intOf]⟩
      · go_wp2
        exact ⟨⟨4, by omega, by go_num, congrArg (fun c => W1.alloc (.cells c 79)) (HB.out _ (by rfl))⟩, by simp [intOf]⟩
      · go_wp2
        exact ⟨⟨5, by omega, by go_num, congrArg (fun c => W1.alloc (.cells c 79)) (HB.out _ (by rfl))⟩, by simp [intOf]⟩
      · go_wp2
        exact ⟨⟨6, by omega, by go_num, congrArg (fun c => W1.alloc (.cells c 79)) (HB.out _ (by rfl))⟩, by simp [intOf]⟩
      · go_wp2
        exact ⟨⟨7, by omega, by go_num, congrArg (fun c => W1.alloc (.cells c 79)) (HB.out _ (by rfl))⟩, by simp [intOf]⟩
      · go_wp2
        exact ⟨⟨8, by omega, by go_num, congrArg (fun c => W1.alloc (.cells c 79)) (HB.out _ (by rfl))⟩, by simp [intOf]⟩
    · obtain rfl : k = 8 := by omega
      clear hk HN
      go_wp2_with (first | refine wpList_loadL rfl _ rfl _ rfl _ hsz (heap_kept h1 (below_new _ _)) ?_ | (go_at_call 71; fail))
      refine (hnum _).mono ?_
      rintro e' W3 ⟨rfl, rfl⟩
      clear hnum
      go_wp2_with (first | refine wpList_store48_new rfl _ _ rfl _ _ hsz rfl hone _ rfl (by simp) rfl ?_)
      go_loopw [9] (fun s9 wx => ∃ k : Nat, k ≤ 9 ∧ s9 = .int .i64 k ∧ wx = (((W1.alloc (.cells (blk (supK n (8 + 4 * k))) 79)).alloc (.cells L 52)).alloc (.cells L 124)).alloc (.cells L 124)) (fun s9 _ => 9 - (intOf s9).toNat)
      case atStart => exact ⟨0, by omega, rfl, rfl⟩
      case round =>
        obtain ⟨k, hk, rfl, rfl⟩ := hrel
        by_cases hk9 : (k : Int) < 9
        · have hgk := HG.out k (by omega)
          have h4k := H4.out k
          have hstep := fun j => supK_byte n k j (by omega)
          have HS : Hid _ := hstep
          clear hstep HG H4
          generalize n k = x at *
          go_wp2
          go_loopw [10, 11] (fun s10 s11 wx => ∃ j : Nat, j ≤ 4 ∧ s10 = .int .i64 (x / 256 ^ j) ∧ s11 = .int .i64 j ∧ wx = (((W1.alloc (.cells (blk (supK n (8 + 4 * k + j))) 79)).alloc (.cells L 52)).alloc (.cells L 124)).alloc (.cells L 124)) (fun _ s11 _ => 4 - (intOf s11).toNat)
          case atStart => exact ⟨0, by omega, by simp, rfl, rfl⟩
          case round =>
            obtain ⟨j, hj, rfl, rfl, rfl⟩ := hrel
            by_cases hj4 : (j : Int) < 4
            · have hst := HS.out j (by omega)
              have hnx : x / 256 ^ j / 256 = x / 256 ^ (j + 1) := by rw [Int.pow_succ, Int.ediv_ediv_of_nonneg (Int.pow_nonneg (by omega))]
              have hy0 : 0 ≤ x / 256 ^ j := Int.ediv_nonneg h4k.1 (Int.pow_nonneg (by omega))
              have hy1 : x / 256 ^ j < 4294967296 := Int.lt_of_le_of_lt (Int.ediv_le_self _ h4k.1) h4k.2
              have HX : Hid _ := hnx
              have hbk := blk_get (supK n (8 + 4 * k + j)) (8 + 4 * k + j) (by omega)
              have HST : Hid ((blk (supK n (8 + 4 * k + j))).setIfInBounds (8 + 4 * k + j) (.int .u8 (x / 256 ^ j % 256)) = blk (supK n (8 + 4 * k + j + 1))) := by
                show _ = _
                rw [blk_set, hst]
              have e0 : (8 + 4 * (k : Int) + (j : Int)) = ((8 + 4 * k + j : Nat) : Int) := by omega
              clear hst hnx
              generalize x / 256 ^ j = y at *
              generalize hme : 8 + 4 * k + j = m at *
              have hm : m < 1024 := by omega
              have HM : Hid (8 + 4 * k + (j + 1) = m + 1) := by show _ = _; omega
              clear hme
              go_wp2
              refine ⟨⟨j + 1, by omega, by rw [HX.out], by go_num, ?_⟩, by simp [intOf]; omega⟩
              rw [HST.out, HM.out]
            · obtain rfl : j = 4 := by omega
              clear hj HS
              go_wp2
              refine ⟨⟨k + 1, by omega, by go_num, ?_⟩, by simp [intOf]; omega⟩
              rw [show 8 + 4 * k + 4 = 8 + 4 * (k + 1) by omega]
        · obtain rfl : k = 9 := by omega
          rw [show 8 + 4 * 9 = 44 by omega, supK_all]
          clear hk HG H4
          have hg : ((((W1.alloc (.cells (blk (supF n)) 79)).alloc (.cells L 52)).alloc (.cells L 124)).alloc (.cells L 124)).heap[W1.heap.size]? = some (.cells (blk (supF n)) 79) := by
            rw [heap_alloc_old _ _ (by simp; omega), heap_alloc_old _ _ (by simp; omega), heap_alloc_old _ _ (by simp)]
            exact heap_alloc_new _ _
          have hb4 : Below W1.heap.size W1 ((((W1.alloc (.cells (blk (supF n)) 79)).alloc (.cells L 52)).alloc (.cells L 124)).alloc (.cells L 124)) := bel_al (bel_al (bel_al (below_new _ _) _) _) _
          have h4' := heap_kept h2 hb4
          have HB : Hid _ := hb4
          clear hb4
          generalize (((W1.alloc (.cells (blk (supF n)) 79)).alloc (.cells L 52)).alloc (.cells L 124)).alloc (.cells L 124) = W4 at *
          go_wp2_with (first | refine wpList_load25 rfl _ rfl _ rfl _ hg ?_ | refine wpList_store25 rfl _ _ rfl _ _ rfl rfl _ h4' ?_)
          exact retCT rfl (w.heap.size + 1) _ rfl (load35L _ _ _ (setRow_heap _ _ _ _ _ _ h4')) rfl ⟨rfl, below_setRow (below_next HB1.out HB.out) (by omega) _⟩
theorem refEncode_any (b l i a c d e f g : Int) (w : World) :
    Calls Tryz.prog 47 #[.agg (lay9 b l i a c d e f g)] w fun e' w' => e' = .returned (.tuple #[.agg (blk (encF b l i a c d e f g)), .int .i64 (encE b l i a c d e f g)]) ∧ Below w.heap.size w w' := by
  unfold encF encE
  by_cases h : standsB b l i a c d e f g = true
  · rw [if_pos h, if_pos h]
    obtain ⟨hf, h1, h2, h3, h4, h5, h6⟩ := of_decide_eq_true h
    rw [h1, h2, h3, h4, h5, h6]
    exact refEncode_fine b l i w hf
  · rw [if_neg h, if_neg h]
    exact refEncode_not b l i a c d e f g w (by simpa using h)
end Go.Proofs.YtlcdpmjdnihocaaGreatP
