/- Several texts joined, each with its own remark; no condition. -/
import Derived.Test.YtiejhjngcnkimaaGreatRK19
import Derived.Test.YtiejhjngcnkimaaGreatRK16
import Derived.Test.YtiejhjngcnkimaaGreatRK17
import Derived.Test.YtiejhjngcnkimaaGreatRK14
import Derived.Test.YtiejhjngcnkimaaGreatRK15
import Derived.Deep.CutRange
import Derived.Test.YtiejhjngcnkimaaGreatRK18
/- A layout's superblock, written; the document's own words. -/
namespace Go.Proofs.YtiejhjngcnkimaaGreatR
open Go.RowKit Go.Maps
theorem sizeN9 : (Tryz.prog.info? 229).map (·.size) = some 9 := by kernel_rfl
theorem zeroN9 : ∀ w, (zeroValue 229).run Tryz.prog w = .ok (.agg (layRow lay0)) w := (zero_of_info (show (Tryz.prog.info? 229).map (fun i => (i.zero, i.size)) = some (some (.agg (layRow lay0)), 9) by kernel_rfl)).1
theorem n9_info (y : Lay) : (Tryz.prog.info? 229).map (·.size) = some (layRow y).size := sizeN9
set_option maxRecDepth 20000 in
set_option maxHeartbeats 1000000 in
theorem numbers03_any (y : Lay) (w : World) : Calls Tryz.prog 136 #[.agg (layRow y)] w fun e w' => e = .returned (.agg (layRow y)) ∧ Below w.heap.size w w' := by
  have z := zeroN9
  obtain ⟨A, hA⟩ : ∃ A, A = (w.alloc (.cells (layRow y) 61)).alloc (.cells (layRow lay0) 229) := ⟨_, rfl⟩
  have hx : A.heap[w.heap.size]? = some (.cells (layRow y) 61) := by rw [hA]; exact heap_kept (heap_alloc_new _ _) (below_new _ _)
  have HR : Hid (A.heap[w.heap.size + 1]? = some (.cells (layRow lay0) 229)) := by rw [hA]; exact heap_two _ _ _
  have HB : Hid (Below w.heap.size w A) := by rw [hA]; exact below_next (below_new _ _) (below_new _ _)
  have c0 : A.cell? ⟨w.heap.size, 0, none⟩ = some (.int .i64 y.b) := Joins.cell_of_block hx 0
  have c1 : A.cell? ⟨w.heap.size, 1, none⟩ = some (.int .i64 y.l) := Joins.cell_of_block hx 1
  have c2 : A.cell? ⟨w.heap.size, 2, none⟩ = some (.int .i64 y.i) := Joins.cell_of_block hx 2
  have c3 : A.cell? ⟨w.heap.size, 3, none⟩ = some (.int .i64 y.logAt) := Joins.cell_of_block hx 3
  have c4 : A.cell? ⟨w.heap.size, 4, none⟩ = some (.int .i64 y.nodeAt) := Joins.cell_of_block hx 4
  have c5 : A.cell? ⟨w.heap.size, 5, none⟩ = some (.int .i64 y.nodeBlocks) := Joins.cell_of_block hx 5
  have c6 : A.cell? ⟨w.heap.size, 6, none⟩ = some (.int .i64 y.bitsAt) := Joins.cell_of_block hx 6
  have c7 : A.cell? ⟨w.heap.size, 7, none⟩ = some (.int .i64 y.bitsBlocks) := Joins.cell_of_block hx 7
  have c8 : A.cell? ⟨w.heap.size, 8, none⟩ = some (.int .i64 y.dataAt) := Joins.cell_of_block hx 8
  have HA : Hid (A = _) := hA
  clear hA hx
  have HbR : Hid (∀ (E : Operand → Value) (u : World), (Instr.build 229 #[(0, .int .i64 y.b), (1, .int .i64 y.l), (2, .int .i64 y.i), (3, .int .i64 y.logAt), (4, .int .i64 y.nodeAt), (5, .int .i64 y.nodeBlocks), (6, .int .i64 y.bitsAt), (7, .int .i64 y.bitsBlocks), (8, .int .i64 y.dataAt)]).run Tryz.prog u = .ok (.agg (layRow y)) u) := fun _ u => by
    have z1 := zeroN9 u
    unfold layRow lay0 at z1
    unfold layRow
    simp [go_sem, z1]
  go_enter Tryz.func136, Tryz.ntmps136
  go_upto_region 1 with fail
  rw [← HA.out]
  clear HA
  have hbr := HbR.out (fun _ => undef)
  have HOr := HR.out
  clear HbR HR z
  go_wp2_with (first | (with_reducible refine isStoreR 229 ?_; refine wpList_stR 229 rfl (.tmp 2) (.tmp 24) rfl (w.heap.size + 1) (layRow y) (layRow lay0) 229 (n9_info _) (lay_two _ _) (lay_one _) rfl rfl HOr ?_))
  exact retR Tryz.underlying229 rfl rfl (w.heap.size + 1) (layRow y) 229 (n9_info _) rfl (setRow_heap _ _ _ _ _ _ HOr) rfl ⟨rfl, HB.out.trans ((Fr.setRow A (w.heap.size + 1) _).below (fun j q => by omega) HB.out.size)⟩
def numL (y : Lay) : Nat → Int
  | 0 => y.b
  | 1 => y.l
  | 2 => y.i
  | 3 => y.logAt
  | 4 => y.nodeAt
  | 5 => y.nodeBlocks
  | 6 => y.bitsAt
  | 7 => y.bitsBlocks
  | 8 => y.dataAt
  | _ => 0
theorem layRow_get (y : Lay) (i : Nat) (h : i < 9) : (layRow y)[i]? = some (.int .i64 (numL y i)) := by
  rcases (show i = 0 ∨ i = 1 ∨ i = 2 ∨ i = 3 ∨ i = 4 ∨ i = 5 ∨ i = 6 ∨ i = 7 ∨ i = 8 by omega) with rfl | rfl | rfl | rfl | rfl | rfl | rfl | rfl | rfl <;> rfl
def magicB : Nat → Int
  | 0 => 99
  | 1 => 114
  | 2 => 111
  | 3 => 102
  | 4 => 116
  | 5 => 102
  | 6 => 115
  | 7 => 49
  | _ => 0
def supP (y : Lay) : Nat → Int := fun j => if j < 8 then magicB j else if j < 44 then numL y ((j - 8) / 4) / 256 ^ ((j - 8) % 4) % 256 else 0
def supK (y : Lay) (m : Nat) : Nat → Int := fun j => if j < m then supP y j else 0
theorem supK_zero (y : Lay) : supK y 0 = nought := by funext j; unfold supK; rw [if_neg (by omega)]; rfl
theorem supK_step (y : Lay) (m : Nat) : updN (supK y m) m (supP y m) = supK y (m + 1) := by
  funext j
  unfold updN supK
  by_cases e : j = m
  · rw [if_pos e, if_pos (by omega), e]
  · rw [if_neg e]
    by_cases h : j < m
    · rw [if_pos h, if_pos (by omega)]
    · rw [if_neg h, if_neg (by omega)]
theorem supK_end (y : Lay) : supK y 44 = supP y := by
  funext j
  unfold supK
  split
  · rfl
  · unfold supP
    rw [if_neg (by omega), if_neg (by omega)]
theorem supP_num (y : Lay) (i k : Nat) (hi : i < 9) (hk : k < 4) : supP y (8 + 4 * i + k) = numL y i / 256 ^ k % 256 := by
  unfold supP
  rw [if_neg (by omega), if_pos (by omega), show (8 + 4 * i + k - 8) / 4 = i by omega, show (8 + 4 * i + k - 8) % 4 = k by omega]
theorem supP_mag (y : Lay) (i : Nat) (hi : i < 8) : supP y i = magicB i := by unfold supP; rw [if_pos hi]
structure EnS (w W : World) (y : Lay) (gb : Nat) (m : Nat) : Prop where
  lay : W.heap[w.heap.size]? = some (.cells (layRow y) 61)
  res : W.heap[w.heap.size + 1]? = some (.cells (blk nought) 85)
  row : W.heap[gb]? = some (.cells (blk (supK y m)) 85)
  far : w.heap.size + 1 < gb
  bel : Below w.heap.size w W
theorem EnS.call {w W W' : World} {y : Lay} {gb m : Nat} (h : EnS w W y gb m) (hb : Below W.heap.size W W') : EnS w W' y gb m := ⟨heap_kept h.lay hb, heap_kept h.res hb, heap_kept h.row hb, h.far, below_next h.bel hb⟩
theorem EnS.step {w W : World} {y : Lay} {gb m : Nat} (h : EnS w W y gb m) : EnS w (W.setCell ⟨gb, m, none⟩ (.int .u8 (supP y m))) y gb (m + 1) := by
  have hF := Fr.setCell W gb m (.int .u8 (supP y m))
  refine ⟨(hF.block _ (Array.getElem?_eq_some_iff.1 h.lay).1 (by have := h.far; omega)).trans h.lay, (hF.block _ (Array.getElem?_eq_some_iff.1 h.res).1 (by have := h.far; omega)).trans h.res, ?_, h.far, h.bel.trans (hF.below (fun j q => by have := h.far; omega) h.bel.size)⟩
  have := setCell_rowN (m := 1024) h.row m (supP y m)
  rwa [supK_step] at this
structure EnN (w W : World) (y : Lay) (gb gn : Nat) (m : Nat) : Prop where
  en : EnS w W y gb m
  num : W.heap[gn]? = some (.cells (layRow y) 229)
  ne : gb < gn
theorem EnN.step {w W : World} {y : Lay} {gb gn m : Nat} (h : EnN w W y gb gn m) : EnN w (W.setCell ⟨gb, m, none⟩ (.int .u8 (supP y m))) y gb gn (m + 1) :=
  ⟨h.en.step, ((Fr.setCell W gb m (.int .u8 (supP y m))).block _ (Array.getElem?_eq_some_iff.1 h.num).1 (by have := h.ne; omega)).trans h.num, h.ne⟩
set_option maxRecDepth 20000 in
set_option maxHeartbeats 4000000 in
theorem enc03_ok {b l i : Nat} (h : GeoOk b l i) (w : World) :
    Calls Tryz.prog 82 #[.agg (layRow (layOf b l i))] w fun e w' => e = .returned (.tuple #[.agg (blk (supP (layOf b l i))), .int .i64 0]) ∧ Below w.heap.size w w' := by
  have z := zero77
  have z9 := zeroN9
  obtain ⟨y, hy⟩ : ∃ y, layOf b l i = y := ⟨_, rfl⟩
  have hbd : ∀ j, 0 ≤ numL y j ∧ numL y j ≤ 9223372036854775807 := fun j => by
    rw [← hy]
    obtain ⟨h1, h2, h3, h4, h5, h6, h7⟩ := h
    match j with
    | 0 => show 0 ≤ (b : Int) ∧ (b : Int) ≤ _; omega
    | 1 => show 0 ≤ (l : Int) ∧ (l : Int) ≤ _; omega
    | 2 => show 0 ≤ (i : Int) ∧ (i : Int) ≤ _; omega
    | 3 => show 0 ≤ (1 : Int) ∧ (1 : Int) ≤ _; omega
    | 4 => show 0 ≤ ((1 + l : Nat) : Int) ∧ ((1 + l : Nat) : Int) ≤ _; omega
    | 5 => show 0 ≤ (((i + 16) / 16 : Nat) : Int) ∧ (((i + 16) / 16 : Nat) : Int) ≤ _; omega
    | 6 => show 0 ≤ ((1 + l + (i + 16) / 16 : Nat) : Int) ∧ ((1 + l + (i + 16) / 16 : Nat) : Int) ≤ _; omega
    | 7 => show 0 ≤ (((b + 8191) / 8192 : Nat) : Int) ∧ (((b + 8191) / 8192 : Nat) : Int) ≤ _; omega
    | 8 => show 0 ≤ ((1 + l + (i + 16) / 16 + (b + 8191) / 8192 : Nat) : Int) ∧ ((1 + l + (i + 16) / 16 + (b + 8191) / 8192 : Nat) : Int) ≤ _; omega
    | _ + 9 => show 0 ≤ (0 : Int) ∧ (0 : Int) ≤ _; omega
  have HBd : Hid _ := hbd
  obtain ⟨A, hA⟩ : ∃ A, A = (w.alloc (.cells (layRow y) 61)).alloc (.cells (blk nought) 85) := ⟨_, rfl⟩
  have HX : Hid (A.heap[w.heap.size]? = some (.cells (layRow y) 61)) := by rw [hA]; exact heap_kept (heap_alloc_new _ _) (below_new _ _)
  have HR : Hid (A.heap[w.heap.size + 1]? = some (.cells (blk nought) 85)) := by rw [hA]; exact heap_two _ _ _
  have HB : Hid (Below w.heap.size w A) := by rw [hA]; exact below_next (below_new _ _) (below_new _ _)
  have HsA : Hid (A.heap.size = w.heap.size + 2) := by rw [hA]; show _ = _; simp
  have hfit := fits03_ok h A
  rw [hy] at hfit ⊢
  have HA : Hid (A = _) := hA
  clear hA h hy hbd
  go_enter Tryz.func82, Tryz.ntmps82
  go_upto_region 1 with fail
  rw [← HA.out]
  clear HA
  go_wp2_with (first | (with_reducible refine isLoadR 61 ?_; refine wpList_ldR 61 Tryz.underlying61 rfl rfl (.tmp 1) rfl w.heap.size rfl (layRow y) 61 (0, 0) (lay_info _) HX.out ?_) | (go_at_call 135; fail))
  refine hfit.mono ?_
  rintro e W1 ⟨rfl, hb⟩
  have HE0 : Hid (EnS w (W1.alloc (.cells (blk nought) 85)) y W1.heap.size 0) := by
    have hs := hb.size
    have hs2 := HsA.out
    refine ⟨heap_kept (heap_kept HX.out hb) (below_new _ _), heap_kept (heap_kept HR.out hb) (below_new _ _), ?_, by omega, below_next (below_next HB.out hb) (below_new _ _)⟩
    rw [supK_zero]
    exact heap_alloc_new _ _
  clear hfit hb HX HR HB HsA
  go_wp2
  generalize W1.alloc (.cells (blk nought) 85) = V at *
  generalize W1.heap.size = gb at *
  go_loopw [7] (fun s7 wx => ∃ j : Nat, j ≤ 8 ∧ s7 = .int .i64 j ∧ Hid (EnS w wx y gb j)) (fun s7 _ => 8 - (intOf s7).toNat)
  case atStart => exact ⟨0, by omega, rfl, HE0.out⟩
  case round =>
    clear HE0
    obtain ⟨j, hj, rfl, HE⟩ := hrel
    by_cases hj2 : (j : Int) < 8
    · have cb := cell_rowN (i := j) (m := 1024) HE.out.row (by omega)
      have fb := frozen_row HE.out.row j
      have HE2 : Hid _ := HE.out.step
      rw [supP_mag y j (by omega)] at HE2
      have hr : ∀ u : World, (Instr.index 9 (.string ⟨#[99, 114, 111, 102, 116, 102, 115, 49]⟩) (.int .i64 (j : Int))).run Tryz.prog u = .ok (.int .u8 (magicB j)) u := fun u => by
        rw [run_index_string (P := Tryz.prog) u 9 _ .i64 (j : Int) Tryz.underlying9]
        split
        · rcases (show j = 0 ∨ j = 1 ∨ j = 2 ∨ j = 3 ∨ j = 4 ∨ j = 5 ∨ j = 6 ∨ j = 7 by omega) with rfl | rfl | rfl | rfl | rfl | rfl | rfl | rfl <;> rfl
        · rename_i hn
          exact absurd ⟨by omega, hj2⟩ hn
      generalize supK y j j = old at *
      generalize magicB j = mb at *
      have hj3 : j < 1024 := by omega
      clear HE
      go_wp2
      exact ⟨⟨j + 1, by omega, by go_num, HE2.out⟩, by simp [intOf]; omega⟩
    · obtain rfl : j = 8 := by omega
      have hnum := numbers03_any y wr
      go_wp2_with (first | (with_reducible refine isLoadR 61 ?_; refine wpList_ldR 61 Tryz.underlying61 rfl rfl (.tmp 1) rfl w.heap.size rfl (layRow y) 61 (0, 0) (lay_info _) HE.out.lay ?_) | (go_at_call 136; fail))
      refine hnum.mono ?_
      rintro e W2 ⟨rfl, hb⟩
      have hgb : gb < wr.heap.size := (Array.getElem?_eq_some_iff.1 HE.out.row).1
      have HN0 : Hid (EnN w (W2.alloc (.cells (layRow y) 229)) y gb W2.heap.size (8 + 4 * 0 + 0)) := ⟨(HE.out.call hb).call (below_new _ _), heap_alloc_new _ _, by have := hb.size; omega⟩
      clear hnum hb HE hgb
      go_wp2_with (first | (with_reducible refine isStoreR 229 ?_; refine wpList_stNew 229 rfl (.tmp 8) (.tmp 29) rfl W2.heap.size (layRow y) (layRow lay0) 229 (n9_info _) (lay_two _ _) (lay_one _) rfl rfl rfl ?_))
      generalize W2.alloc (.cells (layRow y) 229) = V2 at *
      generalize W2.heap.size = gn at *
      go_loopw [9, 10, 11] (fun s9 _ _ wx => ∃ i : Nat, i ≤ 9 ∧ s9 = .int .i64 i ∧ Hid (EnN w wx y gb gn (8 + 4 * i + 0))) (fun s9 _ _ _ => 9 - (intOf s9).toNat)
      case atStart => exact ⟨0, by omega, rfl, HN0.out⟩
      case round =>
        clear HN0
        obtain ⟨i, hi, rfl, HN⟩ := hrel
        by_cases hi2 : (i : Int) < 9
        · have cn : wr.cell? ⟨gn, i, none⟩ = some (.int .i64 (numL y i)) := (cell_of_row _ _ i _ _ _ HN.out.num).trans (layRow_get y i (by omega))
          have hi9 : i < 9 := by omega
          have HBi : Hid (0 ≤ numL y i) := (HBd.out i).1
          have HBj : Hid (numL y i ≤ 9223372036854775807) := (HBd.out i).2
          have HSp : Hid (∀ k, k < 4 → supP y (8 + 4 * i + k) = numL y i / 256 ^ k % 256) := fun k hk => supP_num y i k hi9 hk
          generalize hv : numL y i = v at *
          go_wp2
          go_loopw [10, 11] (fun s10 s11 wx => ∃ k : Nat, k ≤ 4 ∧ s11 = .int .i64 k ∧ s10 = .int .i64 (v / 256 ^ k) ∧ Hid (EnN w wx y gb gn (8 + 4 * i + k))) (fun _ s11 _ => 4 - (intOf s11).toNat)
          case atStart => exact ⟨0, by omega, rfl, by simp, HN.out⟩
          case round =>
            clear HN cn
            obtain ⟨k, hk, rfl, rfl, HN⟩ := hrel
            by_cases hk2 : (k : Int) < 4
            · have hk4 : k < 4 := by omega
              have hv0 : 0 ≤ v / 256 ^ k := Int.ediv_nonneg HBi.out (Int.le_of_lt (Int.pow_pos (by decide)))
              have HV : Hid (v / 256 ^ k / 256 = v / 256 ^ (k + 1)) := by
                show _ = _
                rw [Int.ediv_ediv_of_nonneg (Int.le_of_lt (Int.pow_pos (by decide))), Int.pow_succ]
              have HSk : Hid (supP y (8 + 4 * i + k) = v / 256 ^ k % 256) := HSp.out k hk4
              have cb := cell_rowN (i := 8 + 4 * i + k) (m := 1024) HN.out.en.row (by omega)
              have fb := frozen_row HN.out.en.row (8 + 4 * i + k)
              have HN2 : Hid (EnN w (wr.setCell ⟨gb, 8 + 4 * i + k, none⟩ (.int .u8 (supP y (8 + 4 * i + k)))) y gb gn (8 + 4 * i + (k + 1))) := HN.out.step
              rw [HSk.out] at HN2
              have HQ : Hid (v / 256 ^ k ≤ 9223372036854775807) := Int.le_trans (Int.ediv_le_self _ HBi.out) HBj.out
              generalize hq : v / 256 ^ k = q at *
              have e1 : q.tmod 256 = q % 256 := Int.tmod_eq_emod_of_nonneg hv0
              have e2 : IntKind.i64.wrap (q % 256) = q % 256 := by rw [IntKind.wrap_i64]; omega
              have e3 : IntKind.u8.wrap (q % 256) = q % 256 := by rw [IntKind.wrap_u8]; omega
              have e4 : q.tdiv 256 = q / 256 := Int.tdiv_eq_ediv_of_nonneg hv0
              have hqb : q ≤ 9223372036854775807 := HQ.out
              have e8 : IntKind.i64.wrap (q / 256) = q / 256 := by rw [IntKind.wrap_i64]; omega
              have e5 : IntKind.i64.wrap (4 * (i : Int)) = 4 * (i : Int) := by rw [IntKind.wrap_i64]; omega
              have e6 : IntKind.i64.wrap (8 + 4 * (i : Int)) = 8 + 4 * (i : Int) := by rw [IntKind.wrap_i64]; omega
              have e7 : IntKind.i64.wrap (8 + 4 * (i : Int) + (k : Int)) = ((8 + 4 * i + k : Nat) : Int) := by rw [IntKind.wrap_i64]; omega
              have e7' : 8 + 4 * (i : Int) + (k : Int) = ((8 + 4 * i + k : Nat) : Int) := by omega
              have hm : 8 + 4 * i + k < 1024 := by omega
              have HNe : Hid (8 + 4 * i + (k + 1) = 8 + 4 * i + k + 1) := by show _ = _; omega
              rw [HNe.out] at HN2
              clear HN HSk HSp
              generalize hmm : 8 + 4 * i + k = m at *
              generalize supK y m m = old at *
              go_wp2
              exact ⟨⟨k + 1, by omega, by go_num, by rw [HV.out], by rw [HNe.out]; exact HN2.out⟩, by simp [intOf]; omega⟩
            · obtain rfl : k = 4 := by omega
              have HN2 : Hid (EnN w wr y gb gn (8 + 4 * (i + 1) + 0)) := by
                have := HN.out
                rwa [show 8 + 4 * i + 4 = 8 + 4 * (i + 1) + 0 by omega] at this
              clear HN HSp
              generalize v / 256 ^ 4 = q at *
              go_wp2
              exact ⟨⟨i + 1, by omega, by go_num, HN2.out⟩, by simp [intOf]; omega⟩
        · obtain rfl : i = 9 := by omega
          have hrow := HN.out.en.row
          rw [show 8 + 4 * 9 + 0 = 44 from rfl, supK_end] at hrow
          have hres := HN.out.en.res
          have HBe : Hid _ := HN.out.en.bel
          have hx0 := blk_at hrow
          clear HN
          go_wp2_with (first | (with_reducible refine isLoadR 85 ?_; refine wpList_ldB rfl (.tmp 5) rfl gb 0 (supP y) rfl hx0 ?_) | (with_reducible refine isStoreR 85 ?_; refine wpList_stB rfl (.tmp 2) (.tmp 52) rfl (w.heap.size + 1) (supP y) nought 85 rfl rfl hres ?_))
          exact retCT Tryz.underlying85 rfl rfl (w.heap.size + 1) (blk (supP y)) 85 (by rw [blk_size]; exact size77) rfl (setRow_heap _ _ _ _ _ _ hres) rfl ⟨rfl, HBe.out.trans ((Fr.setRow wr (w.heap.size + 1) _).below (fun j q => by omega) HBe.out.size)⟩
end Go.Proofs.YtiejhjngcnkimaaGreatR
/- A superblock, read; the document's own words. -/
namespace Go.Proofs.YtiejhjngcnkimaaGreatR
open Go.RowKit Go.Maps
theorem zero3i : ∀ w, (zeroValue 321).run Tryz.prog w = .ok (.agg (rowN .i64 nought 3)) w := (zero_of_info (show (Tryz.prog.info? 321).map (fun i => (i.zero, i.size)) = some (some (.agg (rowN .i64 nought 3)), 3) by kernel_rfl)).1
structure DeS (w W : World) (y : Lay) (f : Nat → Int) : Prop where
  blk : W.heap[w.heap.size]? = some (.cells (blk (supP y)) 85)
  res : W.heap[w.heap.size + 1]? = some (.cells (layRow lay0) 61)
  row : W.heap[w.heap.size + 2]? = some (.cells (rowN .i64 f 3) 321)
  bel : Below w.heap.size w W
theorem DeS.call {w W W' : World} {y : Lay} {f : Nat → Int} (h : DeS w W y f) (hb : Below W.heap.size W W') : DeS w W' y f := ⟨heap_kept h.blk hb, heap_kept h.res hb, heap_kept h.row hb, below_next h.bel hb⟩
theorem DeS.set {w W : World} {y : Lay} {f : Nat → Int} (h : DeS w W y f) (i : Nat) (x : Int) : DeS w (W.setCell ⟨w.heap.size + 2, i, none⟩ (.int .i64 x)) y (updN f i x) := by
  have hF := Fr.setCell W (w.heap.size + 2) i (.int .i64 x)
  exact ⟨(hF.block _ (Array.getElem?_eq_some_iff.1 h.blk).1 (by omega)).trans h.blk, (hF.block _ (Array.getElem?_eq_some_iff.1 h.res).1 (by omega)).trans h.res, setCell_rowN h.row i x, h.bel.trans (hF.below (fun j q => by omega) h.bel.size)⟩
theorem four_step {v : Int} (m : Nat) : 256 * (v / 256 ^ (m + 1)) + v / 256 ^ m % 256 = v / 256 ^ m := by
  have : v / 256 ^ (m + 1) = v / 256 ^ m / 256 := by rw [Int.ediv_ediv_of_nonneg (Int.le_of_lt (Int.pow_pos (by decide))), Int.pow_succ]
  rw [this]
  omega
theorem exec_st3 {o : Oper} {a : Act} {W : World} {x y : Operand} {g i : Nat} {v : Int} {old : Value} (ho : o.op = .store 3 x y) (hx : a.eval x = .pointer (some ⟨g, i, none⟩)) (hy : a.eval y = .int .i64 v) (hc : W.cell? ⟨g, i, none⟩ = some old) (hf : W.frozen? ⟨g, i, none⟩ = false) : (execOp a.eval o).run Tryz.prog W = .ok .skip (W.setCell ⟨g, i, none⟩ (.int .i64 v)) := by
  obtain ⟨i0, hi0, hz1⟩ : ∃ i0, Tryz.prog.info? 3 = some i0 ∧ i0.size = 1 := by
    have h : (Tryz.prog.info? 3).map (·.size) = some 1 := by kernel_rfl
    cases hq : Tryz.prog.info? 3 with
    | none => rw [hq] at h; cases h
    | some i => rw [hq] at h; exact ⟨i, rfl, by simpa using h⟩
  generalize a.eval = E at *
  unfold execOp
  simp only [ho]
  simp [hx, hy, Instr.storeAt, Instr.sureAddr, storeVar, sizeOf, typeInfo, hi0, hz1, storeCells, go_sem, hc, hf]
set_option maxRecDepth 20000 in
set_option maxHeartbeats 4000000 in
theorem dec03_ok {b l i : Nat} (h : GeoOk b l i) (n : Int) (hn : (b : Int) ≤ n) (w : World) :
    Calls Tryz.prog 183 #[.agg (blk (supP (layOf b l i))), .int .i64 n] w fun e w' => e = .returned (.tuple #[.agg (layRow (layOf b l i)), .int .i64 0]) ∧ Below w.heap.size w w' := by
  have z := zeroLay
  have z3 := zero3i
  have z76 := zero77
  obtain ⟨y, hy⟩ : ∃ y, layOf b l i = y := ⟨_, rfl⟩
  have HBd : Hid (∀ j, j < 3 → 0 ≤ numL y j ∧ numL y j < 4294967296) := fun j hj => by
    rw [← hy]
    obtain ⟨h1, h2, h3, h4, h5, h6, h7⟩ := h
    rcases (show j = 0 ∨ j = 1 ∨ j = 2 by omega) with rfl | rfl | rfl
    · show 0 ≤ (b : Int) ∧ (b : Int) < _; omega
    · show 0 ≤ (l : Int) ∧ (l : Int) < _; omega
    · show 0 ≤ (i : Int) ∧ (i : Int) < _; omega
  have HNm : Hid (numL y 0 = b ∧ numL y 1 = l ∧ numL y 2 = i) := by rw [← hy]; exact ⟨rfl, rfl, rfl⟩
  obtain ⟨A, hA⟩ : ∃ A, A = ((w.alloc (.cells (blk (supP y)) 85)).alloc (.cells (layRow lay0) 61)).alloc (.cells (rowN .i64 nought 3) 321) := ⟨_, rfl⟩
  have HD : Hid (DeS w A y nought) := by
    rw [hA]
    refine ⟨heap_kept (heap_kept (heap_alloc_new _ _) (below_new _ _)) (below_new _ _), heap_kept (heap_two _ _ _) (below_new _ _), ?_, below_next (below_next (below_new _ _) (below_new _ _)) (below_new _ _)⟩
    have := heap_alloc_new ((w.alloc (.cells (blk (supP y)) 85)).alloc (.cells (layRow lay0) 61)) (.cells (rowN .i64 nought 3) 321)
    simpa using this
  have HG : Hid (GeoOk b l i) := h
  have HY : Hid (layOf b l i = y) := hy
  rw [hy]
  have HA : Hid (A = _) := hA
  clear hA h hy
  go_enter Tryz.func183, Tryz.ntmps183
  go_wp2
  rw [← HA.out]
  clear HA
  go_loopw [7, 8] (fun s7 _ wx => ∃ (j : Nat) (f : Nat → Int), j ≤ 3 ∧ s7 = .int .i64 j ∧ Hid ((∀ q, q < j → f q = numL y q) ∧ ∀ q, j ≤ q → f q = 0) ∧ Hid (DeS w wx y f)) (fun s7 _ _ => 3 - (intOf s7).toNat)
  case atStart => exact ⟨0, nought, by omega, rfl, ⟨fun q hq => absurd hq (by omega), fun _ _ => rfl⟩, HD.out⟩
  case round =>
    clear HD
    obtain ⟨j, f, hj, rfl, HF, HD⟩ := hrel
    by_cases hj2 : (j : Int) < 3
    · have hj3 : j < 3 := by omega
      have hbd := HBd.out j hj3
      have HSp : Hid (∀ k, k < 4 → supP y (8 + 4 * j + k) = numL y j / 256 ^ k % 256) := fun k hk => supP_num y j k (by omega) hk
      have HF0 : Hid (f j = numL y j / 256 ^ 4) := by show _ = _; rw [HF.out.2 j (Nat.le_refl _)]; omega
      generalize hv : numL y j = v at *
      go_wp2
      go_loopw [8] (fun s8 wx => ∃ (m : Nat) (f' : Nat → Int), m ≤ 4 ∧ s8 = .int .i64 ((m : Int) - 1) ∧ Hid (f' j = v / 256 ^ m ∧ ∀ q, ¬ q = j → f' q = f q) ∧ Hid (DeS w wx y f')) (fun s8 _ => (intOf s8 + 1).toNat)
      case atStart => exact ⟨4, f, by omega, rfl, ⟨HF0.out, fun _ _ => rfl⟩, HD.out⟩
      case round =>
        clear HD HF0
        obtain ⟨m, f', hm, rfl, HF', HD⟩ := hrel
        by_cases hm0 : m = 0
        · subst hm0
          have HFj : Hid ((∀ q, q < j + 1 → f' q = numL y q) ∧ ∀ q, j + 1 ≤ q → f' q = 0) := by
            refine ⟨fun q hq => ?_, fun q hq => ?_⟩
            · by_cases e : q = j
              · rw [e, HF'.out.1, hv]; simp
              · rw [HF'.out.2 q e]; exact HF.out.1 q (by omega)
            · rw [HF'.out.2 q (by omega)]; exact HF.out.2 q (by omega)
          clear HF' HF
          go_wp2
          exact ⟨⟨j + 1, f', by omega, by go_num, HFj.out, HD.out⟩, by simp [intOf]; omega⟩
        · obtain ⟨k, rfl⟩ : ∃ k, m = k + 1 := ⟨m - 1, by omega⟩
          have hk : (((k + 1 : Nat) : Int) - 1) = (k : Int) := by omega
          have hfj := HF'.out.1
          have hbs : supP y (8 + 4 * j + k) = v / 256 ^ k % 256 := HSp.out k (by omega)
          have hst := four_step (v := v) k
          have hbb : v / 256 ^ (k + 1) ≤ v := Int.ediv_le_self _ hbd.1
          have hbc : v / 256 ^ k ≤ v := Int.ediv_le_self _ hbd.1
          have hb0 : 0 ≤ v / 256 ^ (k + 1) := Int.ediv_nonneg hbd.1 (Int.le_of_lt (Int.pow_pos (by decide)))
          have hc0 : 0 ≤ v / 256 ^ k := Int.ediv_nonneg hbd.1 (Int.le_of_lt (Int.pow_pos (by decide)))
          have cb := cell_rowN (i := 8 + 4 * j + k) (m := 1024) HD.out.blk (by omega)
          rw [hbs] at cb
          have cj := cell_rowN (i := j) HD.out.row hj3
          rw [hfj] at cj
          have fj := frozen_row HD.out.row j
          have HDd : Hid (DeS w wr.drew y f') := HD.out.call (Below.refl _ _).drew
          have HD2 : Hid (DeS w (wr.drew.setCell ⟨w.heap.size + 2, j, none⟩ (.int .i64 (v / 256 ^ k))) y (updN f' j (v / 256 ^ k))) := HDd.out.set j _
          have HFn : Hid (updN f' j (v / 256 ^ k) j = v / 256 ^ k ∧ ∀ q, ¬ q = j → updN f' j (v / 256 ^ k) q = f q) := ⟨by simp [updN], fun q hq => by unfold updN; rw [if_neg hq]; exact HF'.out.2 q hq⟩
          rw [hk]
          generalize v / 256 ^ (k + 1) = p at *
          generalize hr : v / 256 ^ k = r at *
          have HRv : Hid (v / 256 ^ k = r) := hr
          clear hr
          have e1 : IntKind.i64.wrap (256 * p) = 256 * p := by rw [IntKind.wrap_i64]; omega
          have e2 : IntKind.i64.wrap (r % 256) = r % 256 := by rw [IntKind.wrap_i64]; omega
          have e3 : IntKind.i64.wrap (256 * p + r % 256) = r := by rw [hst, IntKind.wrap_i64]; omega
          have e5 : IntKind.i64.wrap (4 * (j : Int)) = 4 * (j : Int) := by rw [IntKind.wrap_i64]; omega
          have e6 : IntKind.i64.wrap (8 + 4 * (j : Int)) = 8 + 4 * (j : Int) := by rw [IntKind.wrap_i64]; omega
          have e7 : IntKind.i64.wrap (8 + 4 * (j : Int) + (k : Int)) = ((8 + 4 * j + k : Nat) : Int) := by rw [IntKind.wrap_i64]; omega
          have e7' : 8 + 4 * (j : Int) + (k : Int) = ((8 + 4 * j + k : Nat) : Int) := by omega
          have hml : 8 + 4 * j + k < 1024 := by omega
          have HSb : Hid ((wr.drew.setCell ⟨w.heap.size + 2, j, none⟩ (.int .i64 r)).cell? ⟨w.heap.size, 8 + 4 * j + k, none⟩ = some (.int .u8 (r % 256))) := by
            have := cell_rowN (i := 8 + 4 * j + k) (m := 1024) HD2.out.blk (by omega)
            rwa [hbs] at this
          clear hbs hfj HF' HD HDd hbb hk
          generalize hmm : 8 + 4 * j + k = mm at *
          have e8 : IntKind.i64.wrap (mm : Int) = (mm : Int) := by rw [IntKind.wrap_i64]; omega
          have hmI : (mm : Int) < 1024 := by omega
          have e9 : IntKind.i64.wrap r = r := by rw [IntKind.wrap_i64]; omega
          go_upto_region 8 with fail
          refine wp_region_ord (S := fun u => u.cell? ⟨w.heap.size, mm, none⟩ = some (.int .u8 (r % 256))) [(0, true), (1, true), (2, true), (5, true), (6, true), (7, true), (8, true), (9, true), (10, true), (11, true), (12, true), (3, false), (4, true), (13, true), (14, true), (15, false)] (by kernel_rfl) rfl (by kernel_rfl) (fun d _ _ _ _ h => by cases d <;> exact h) cb ?_
          have cjd : wr.drew.cell? ⟨w.heap.size + 2, j, none⟩ = some (.int .i64 p) := cj
          have fjd : wr.drew.frozen? ⟨w.heap.size + 2, j, none⟩ = false := fj
          simp only [inOrd, List.getElem?_cons_zero, List.getElem?_cons_succ]
          refine wpOrd_yield (v := .int .i64 (j : Int)) rfl (fun u _ => exec_mv rfl rfl) ?_
          simp only [Act.put, pA, pB, pC]
          refine wpOrd_yield (v := .int .i64 (j : Int)) rfl (fun u _ => exec_mv rfl rfl) ?_
          simp only [Act.put, pA, pB, pC]
          refine wpOrd_yield (v := .pointer (some ⟨w.heap.size + 2, j, none⟩)) rfl (fun u _ => by go_simp) ?_
          simp only [Act.put, pA, pB, pC]
          refine wpOrd_yield (v := .int .i64 (j : Int)) rfl (fun u _ => exec_mv rfl rfl) ?_
          simp only [Act.put, pA, pB, pC]
          refine wpOrd_yield (v := .int .i64 (4 * (j : Int))) rfl (fun u _ => by go_simp) ?_
          simp only [Act.put, pA, pB, pC]
          refine wpOrd_yield (v := .int .i64 (8 + 4 * (j : Int))) rfl (fun u _ => by go_simp) ?_
          simp only [Act.put, pA, pB, pC]
          refine wpOrd_yield (v := .int .i64 (k : Int)) rfl (fun u _ => exec_mv rfl rfl) ?_
          simp only [Act.put, pA, pB, pC]
          refine wpOrd_yield (v := .int .i64 (mm : Int)) rfl (fun u _ => by go_simp) ?_
          simp only [Act.put, pA, pB, pC]
          refine wpOrd_yield (v := .pointer (some ⟨w.heap.size, mm, none⟩)) rfl (fun u _ => by go_simp) ?_
          simp only [Act.put, pA, pB, pC]
          refine wpOrd_yield (v := .int .u8 (r % 256)) rfl (fun u hu => by have := hu; go_simp) ?_
          simp only [Act.put, pA, pB, pC]
          refine wpOrd_yield (v := .int .i64 (r % 256)) rfl (fun u _ => by go_simp) ?_
          simp only [Act.put, pA, pB, pC]
          refine wpOrd_act (W' := wr.drew) (v := .int .i64 p) rfl (by go_simp) cb ?_
          simp only [Act.put, pA, pB, pC]
          refine wpOrd_yield (v := .int .i64 (256 * p)) rfl (fun u _ => by go_simp) ?_
          simp only [Act.put, pA, pB, pC]
          refine wpOrd_yield (v := .int .i64 r) rfl (fun u _ => by go_simp) ?_
          simp only [Act.put, pA, pB, pC]
          refine wpOrd_yield (v := .pointer (some ⟨w.heap.size + 2, j, none⟩)) rfl (fun u _ => by go_simp) ?_
          simp only [Act.put, pA, pB, pC]
          refine wpOrd_do rfl (exec_st3 rfl rfl rfl cjd fjd) HSb.out ?_
          simp only [Act.put]
          refine wpOrd_nil ?_
          clear cj fj cjd fjd cb e1 e2 e3 e5 e6 e7 e7' e8 e9 hst
          generalize wr.drew.setCell ⟨w.heap.size + 2, j, none⟩ (.int .i64 r) = X at *
          go_wp2
          exact ⟨⟨k, _, by omega, by go_num, by rw [HRv.out]; exact HFn.out, HD2.out⟩, by simp [intOf]⟩
    · obtain rfl : j = 3 := by omega
      obtain ⟨n0, n1, n2⟩ := HNm.out
      have q0 := cell_rowN (i := 0) HD.out.row (by omega)
      have q1 := cell_rowN (i := 1) HD.out.row (by omega)
      have q2 := cell_rowN (i := 2) HD.out.row (by omega)
      rw [HF.out.1 0 (by omega), n0] at q0
      rw [HF.out.1 1 (by omega), n1] at q1
      rw [HF.out.1 2 (by omega), n2] at q2
      have hof := of03_ok HG.out wr
      rw [HY.out] at hof
      unfold geoRow at hof
      have HF0 : Hid (f 0 = (b : Int)) := by show _ = _; rw [HF.out.1 0 (by omega), n0]
      clear n0 n1 n2 HF
      go_wp2_with (first | (go_at_call 39; fail))
      refine hof.mono ?_
      rintro e W1 ⟨rfl, hb⟩
      have HD1 : Hid (DeS w (W1.alloc (.cells (layRow y) 61)) y f) := (HD.out.call hb).call (below_new _ _)
      have HY1 : Hid ((W1.alloc (.cells (layRow y) 61)).heap[W1.heap.size]? = some (.cells (layRow y) 61)) := heap_alloc_new _ _
      clear hof hb HD
      have henc := enc03_ok HG.out (W1.alloc (.cells (layRow y) 61))
      rw [HY.out] at henc
      clear q1 q2
      go_upto_region 10 with (first | (with_reducible refine isStoreR 61 ?_; refine wpList_stNew 61 rfl (.tmp 9) (.tmp 45) rfl W1.heap.size (layRow y) (layRow lay0) 61 (lay_info _) (lay_two _ _) (lay_one _) rfl rfl rfl ?_))
      generalize W1.alloc (.cells (layRow y) 61) = X1 at *
      generalize W1.heap.size = gy at *
      go_wp2_with (first | (with_reducible refine isLoadR 61 ?_; refine wpList_ldR 61 Tryz.underlying61 rfl rfl (.tmp 9) rfl gy rfl (layRow y) 61 (0, 0) (lay_info _) HY1.out ?_) | (go_at_call 82; fail))
      refine henc.mono ?_
      rintro e W2 ⟨rfl, hb⟩
      have HD2 : Hid (DeS w (W2.alloc (.cells (blk (supP y)) 85)) y f) := (HD1.out.call hb).call (below_new _ _)
      have HY2 : Hid _ := heap_kept (heap_kept HY1.out hb) (below_new W2 (.cells (blk (supP y)) 85))
      have HB2 : Hid ((W2.alloc (.cells (blk (supP y)) 85)).heap[W2.heap.size]? = some (.cells (blk (supP y)) 85)) := heap_alloc_new _ _
      clear henc hb HD1 HY1 q0
      go_upto_region 11 with (first | (with_reducible refine isStoreR 85 ?_; refine wpList_stBn rfl (.tmp 11) (.tmp 50) rfl W2.heap.size (supP y) nought 85 rfl rfl rfl ?_))
      generalize W2.alloc (.cells (blk (supP y)) 85) = X2 at *
      generalize W2.heap.size = gc at *
      have q0 := cell_rowN (i := 0) HD2.out.row (by omega)
      rw [HF0.out] at q0
      have hc0 := blk_at HB2.out
      have hb0 := blk_at HD2.out.blk
      have g1 : decide (n < (b : Int)) = false := decide_eq_false (by omega)
      have hsame := sameN_self 1024 (supP y)
      have HOr := HD2.out.res
      have HBe : Hid _ := HD2.out.bel
      clear HD2 HB2
      generalize supP y = fs at *
      go_wp2_with (first | (with_reducible refine isLoadR 85 ?_; refine wpList_ldB rfl (.tmp 11) rfl gc 0 fs rfl hc0 ?_) | (with_reducible refine isLoadR 85 ?_; refine wpList_ldB rfl (.tmp 2) rfl w.heap.size 0 fs rfl hb0 ?_) | (with_reducible refine isEqR 85 85 ?_; refine wpList_neN Tryz.underlying85 eg77 rfl (.tmp 59) (.tmp 60) rfl fs fs true rfl rfl hsame ?_) | (with_reducible refine isLoadR 61 ?_; refine wpList_ldR 61 Tryz.underlying61 rfl rfl (.tmp 9) rfl gy rfl (layRow y) 61 (0, 0) (lay_info _) HY2.out ?_) | (with_reducible refine isStoreR 61 ?_; refine wpList_stR 61 rfl (.tmp 4) (.tmp 70) rfl (w.heap.size + 1) (layRow y) (layRow lay0) 61 (lay_info _) (lay_two _ _) (lay_one _) rfl rfl HOr ?_))
      exact retCT Tryz.underlying61 rfl rfl (w.heap.size + 1) _ 61 (lay_info _) rfl (setRow_heap _ _ _ _ _ _ HOr) rfl ⟨rfl, HBe.out.trans ((Fr.setRow X2 (w.heap.size + 1) _).below (fun j q => by omega) HBe.out.size)⟩
end Go.Proofs.YtiejhjngcnkimaaGreatR
/- A log's header that names no block, read; the document's own words. -/
namespace Go.Proofs.YtiejhjngcnkimaaGreatR
open Go.RowKit Go.Maps
set_option maxHeartbeats 400000 in
theorem inside01_ok (i : Int) (h : 0 ≤ i ∧ i < 1024) (w : World) : Calls Tryz.prog 264 #[.int .i64 i] w fun e w' => e = .returned (.bool true) ∧ w' = w := by
  obtain ⟨h1, h2⟩ := h
  have g1 : decide (0 ≤ i) = true := decide_eq_true h1
  have g2 : decide (i < 1024) = true := decide_eq_true h2
  go_enter Tryz.func264, Tryz.ntmps264
  go_wp2
  go_ret
  exact ⟨rfl, rfl⟩
set_option maxRecDepth 20000 in
set_option maxHeartbeats 1000000 in
theorem number01_zero (f : Nat → Int) (h : ∀ j, j < 4 → f j = 0) (w : World) : Calls Tryz.prog 249 #[.agg (blk f), .int .i64 0, .int .i64 4] w fun e w' => e = .returned (.int .u32 0) ∧ Below w.heap.size w w' := by
  have HX : Hid _ := heap_alloc_new w (.cells (blk f) 85)
  have HB : Hid _ := below_new w (.cells (blk f) 85)
  have i0 := inside01_ok 0 (by decide)
  have i3 := inside01_ok 3 (by decide)
  have HF : Hid _ := h
  clear h
  go_enter Tryz.func249, Tryz.ntmps249
  go_upto_region 1 with fail
  generalize w.alloc (.cells (blk f) 85) = V at *
  go_wp2_with (first | (go_at_call 264; fail))
  refine (i0 _).mono ?_
  rintro e W1 ⟨rfl, rfl⟩
  go_wp2_with (first | (go_at_call 264; fail))
  refine (i3 _).mono ?_
  rintro e W1 ⟨rfl, rfl⟩
  go_wp2
  go_loopw [7, 8] (fun s7 s8 wx => wx = W1 ∧ s7 = .int .u32 0 ∧ ∃ m : Nat, m ≤ 4 ∧ s8 = .int .i64 ((m : Int) - 1)) (fun _ s8 _ => (intOf s8 + 1).toNat)
  case atStart => exact ⟨rfl, rfl, 4, by omega, rfl⟩
  case round =>
    obtain ⟨rfl, rfl, m, hm, rfl⟩ := hrel
    by_cases hm0 : m = 0
    · subst hm0
      go_wp2
      go_ret
      exact ⟨rfl, HB.out⟩
    · obtain ⟨k, rfl⟩ : ∃ k, m = k + 1 := ⟨m - 1, by omega⟩
      have hk : (((k + 1 : Nat) : Int) - 1) = (k : Int) := by omega
      have cb := cell_rowN (i := k) (m := 1024) HX.out (by omega)
      rw [HF.out k (by omega)] at cb
      rw [hk]
      have hk4 : (k : Int) < 1024 := by omega
      have hk5 : k < 1024 := by omega
      go_wp2
      exact ⟨⟨trivial, rfl, k, by omega, by go_num⟩, by simp [intOf]⟩
set_option maxRecDepth 20000 in
set_option maxHeartbeats 1000000 in
theorem u32_zero (f : Nat → Int) (h : ∀ j, j < 4 → f j = 0) (w : World) : Calls Tryz.prog 211 #[.agg (blk f), .int .i64 0] w fun e w' => e = .returned (.int .u32 0) ∧ Below w.heap.size w w' := by
  have hX := heap_alloc_new w (.cells (blk f) 85)
  have HB : Hid _ := below_new w (.cells (blk f) 85)
  have hn := number01_zero f h (w.alloc (.cells (blk f) 85))
  have hx0 := blk_at hX
  clear h hX
  go_enter Tryz.func211, Tryz.ntmps211
  go_wp2_with (first | (with_reducible refine isLoadR 85 ?_; refine wpList_ldB rfl (.tmp 2) rfl w.heap.size 0 f rfl hx0 ?_) | (go_at_call 249; fail))
  refine hn.mono ?_
  rintro e W1 ⟨rfl, hb⟩
  have HB1 : Hid (Below w.heap.size w W1) := below_next HB.out hb
  clear hn hb
  go_wp2
  go_ret
  exact ⟨rfl, HB1.out⟩
def hd0 : Array Value := #[.slice none 0 0]
theorem hd_info : (Tryz.prog.info? 169).map (·.size) = some hd0.size := by show _ = some 1; kernel_rfl
theorem hd_one : hd0.all (·.oneCell') = true := by simp [hd0, Value.oneCell']
theorem zeroHd : ∀ w, (zeroValue 169).run Tryz.prog w = .ok (.agg hd0) w := (zero_of_info (show (Tryz.prog.info? 169).map (fun i => (i.zero, i.size)) = some (some (.agg hd0), 1) by kernel_rfl)).1
set_option maxRecDepth 20000 in
set_option maxHeartbeats 1000000 in
theorem may07_none (y : Lay) (h : 1 ≤ y.l ∧ y.l ≤ 1000000) (w : World) : Calls Tryz.prog 212 #[.agg (layRow y), .agg hd0] w fun e w' => e = .returned (.bool true) ∧ Below w.heap.size w w' := by
  obtain ⟨A, hA⟩ : ∃ A, A = (w.alloc (.cells (layRow y) 61)).alloc (.cells hd0 169) := ⟨_, rfl⟩
  have hx : A.heap[w.heap.size]? = some (.cells (layRow y) 61) := by rw [hA]; exact heap_kept (heap_alloc_new _ _) (below_new _ _)
  have hh : A.heap[w.heap.size + 1]? = some (.cells hd0 169) := by rw [hA]; exact heap_two _ _ _
  have HB : Hid (Below w.heap.size w A) := by rw [hA]; exact below_next (below_new _ _) (below_new _ _)
  have c1 : A.cell? ⟨w.heap.size, 1, none⟩ = some (.int .i64 y.l) := Joins.cell_of_block hx 1
  have d0 : A.cell? ⟨w.heap.size + 1, 0, none⟩ = some (.slice none 0 0) := Joins.cell_of_block hh 0
  have HA : Hid (A = _) := hA
  clear hA hx hh
  have e1 : IntKind.i64.wrap (y.l - 1) = y.l - 1 := by rw [IntKind.wrap_i64]; omega
  have g1 : decide (y.l - 1 < 0) = false := decide_eq_false (by omega)
  go_enter Tryz.func212, Tryz.ntmps212
  go_upto_region 1 with fail
  rw [← HA.out]
  clear HA
  generalize y.l = ll at *
  go_wp2
  go_loopw [5, 6, 7] (fun s5 _ _ wx => s5 = .int .i64 0 ∧ wx = A) (fun _ _ _ _ => 0)
  case atStart => exact ⟨rfl, rfl⟩
  case round =>
    obtain ⟨rfl, rfl⟩ := hrel
    go_wp2
    go_ret
    exact ⟨rfl, HB.out⟩
structure D7 (w W : World) (y : Lay) (f : Nat → Int) : Prop where
  lay : W.heap[w.heap.size]? = some (.cells (layRow y) 61)
  blk : W.heap[w.heap.size + 1]? = some (.cells (blk f) 85)
  res : W.heap[w.heap.size + 2]? = some (.cells hd0 169)
  bel : Below w.heap.size w W
theorem D7.call {w W W' : World} {y : Lay} {f : Nat → Int} (h : D7 w W y f) (hb : Below W.heap.size W W') : D7 w W' y f := ⟨heap_kept h.lay hb, heap_kept h.blk hb, heap_kept h.res hb, below_next h.bel hb⟩
set_option maxRecDepth 20000 in
set_option maxHeartbeats 4000000 in
theorem dec07_none {b l i : Nat} (h : GeoOk b l i) (f : Nat → Int) (hf : ∀ j, j < 4 → f j = 0) (w : World) :
    Calls Tryz.prog 146 #[.agg (layRow (layOf b l i)), .agg (blk f)] w fun e w' => e = .returned (.tuple #[.agg hd0, .int .i64 0]) ∧ Below w.heap.size w w' := by
  have zh := zeroHd
  obtain ⟨y, hy⟩ : ∃ y, layOf b l i = y := ⟨_, rfl⟩
  have hl : y.l = (l : Int) := by rw [← hy]; rfl
  obtain ⟨A, hA⟩ : ∃ A, A = ((w.alloc (.cells (layRow y) 61)).alloc (.cells (blk f) 85)).alloc (.cells hd0 169) := ⟨_, rfl⟩
  have HD : Hid (D7 w A y f) := by
    rw [hA]
    refine ⟨heap_kept (heap_kept (heap_alloc_new _ _) (below_new _ _)) (below_new _ _), heap_kept (heap_two _ _ _) (below_new _ _), ?_, below_next (below_next (below_new _ _) (below_new _ _)) (below_new _ _)⟩
    have := heap_alloc_new ((w.alloc (.cells (layRow y) 61)).alloc (.cells (blk f) 85)) (.cells hd0 169)
    simpa using this
  have hfit := fits03_ok h A
  have hl1 := h.l1
  have hl2 := h.l2
  rw [hy] at hfit ⊢
  have HFz : Hid _ := hf
  have HA : Hid (A = _) := hA
  clear hA h hy hf
  go_enter Tryz.func146, Tryz.ntmps146
  go_upto_region 1 with fail
  rw [← HA.out]
  clear HA
  go_wp2_with (first | (with_reducible refine isLoadR 61 ?_; refine wpList_ldR 61 Tryz.underlying61 rfl rfl (.tmp 2) rfl w.heap.size rfl (layRow y) 61 (0, 0) (lay_info _) HD.out.lay ?_) | (go_at_call 135; fail))
  refine hfit.mono ?_
  rintro e W1 ⟨rfl, hb⟩
  have HD1 : Hid (D7 w W1 y f) := HD.out.call hb
  clear hfit hb HD
  have hu := u32_zero f HFz.out W1
  have hb0 := blk_at HD1.out.blk
  go_wp2_with (first | (with_reducible refine isLoadR 85 ?_; refine wpList_ldB rfl (.tmp 3) rfl (w.heap.size + 1) 0 f rfl hb0 ?_) | (go_at_call 211; fail))
  refine hu.mono ?_
  rintro e W2 ⟨rfl, hb⟩
  have HD2 : Hid (D7 w W2 y f) := HD1.out.call hb
  clear hu hb HD1 hb0
  have c1 : W2.cell? ⟨w.heap.size, 1, none⟩ = some (.int .i64 (l : Int)) := by rw [← hl]; exact Joins.cell_of_block HD2.out.lay 1
  have e1 : IntKind.i64.wrap ((l : Int) - 1) = (l : Int) - 1 := by rw [IntKind.wrap_i64]; omega
  have g1 : decide ((l : Int) - 1 < 0) = false := decide_eq_false (by omega)
  have HD3 : Hid (D7 w (W2.alloc (.cells hd0 169)) y f) := HD2.out.call (below_new _ _)
  have HH3 : Hid ((W2.alloc (.cells hd0 169)).heap[W2.heap.size]? = some (.cells hd0 169)) := heap_alloc_new _ _
  clear HD2
  go_wp2
  generalize W2.alloc (.cells hd0 169) = V at *
  generalize W2.heap.size = gh at *
  clear c1 e1 g1
  have hmay := may07_none y (by omega) V
  go_loopw [8] (fun s8 wx => s8 = .int .i64 0 ∧ wx = V) (fun _ _ => 0)
  case atStart => exact ⟨rfl, rfl⟩
  case round =>
    obtain ⟨rfl, rfl⟩ := hrel
    go_wp2_with (first | (with_reducible refine isLoadR 61 ?_; refine wpList_ldR 61 Tryz.underlying61 rfl rfl (.tmp 2) rfl w.heap.size rfl (layRow y) 61 (0, 0) (lay_info _) HD3.out.lay ?_) | (with_reducible refine isLoadR 169 ?_; refine wpList_ldR 169 Tryz.underlying169 rfl rfl (.tmp 7) rfl gh rfl hd0 169 (0, 0) hd_info HH3.out ?_) | (go_at_call 212; fail))
    refine hmay.mono ?_
    rintro e W4 ⟨rfl, hb⟩
    have HD4 : Hid (D7 w W4 y f) := HD3.out.call hb
    have hh4 := heap_kept HH3.out hb
    have HOr := HD4.out.res
    clear hmay hb HD3 HH3
    go_wp2_with (first | (with_reducible refine isLoadR 169 ?_; refine wpList_ldR 169 Tryz.underlying169 rfl rfl (.tmp 7) rfl gh rfl hd0 169 (0, 0) hd_info hh4 ?_) | (with_reducible refine isStoreR 169 ?_; refine wpList_stR 169 rfl (.tmp 4) (.tmp 44) rfl (w.heap.size + 2) hd0 hd0 169 hd_info rfl hd_one rfl rfl HOr ?_))
    exact retCT Tryz.underlying169 rfl rfl (w.heap.size + 2) hd0 169 hd_info rfl (setRow_heap _ _ _ _ _ _ HOr) rfl ⟨rfl, HD4.out.bel.trans ((Fr.setRow W4 (w.heap.size + 2) _).below (fun j q => by omega) HD4.out.bel.size)⟩
end Go.Proofs.YtiejhjngcnkimaaGreatR
/- Blocks with their numbers as rows; an image that may be: the document's Whole. -/
namespace Go.Proofs.YtiejhjngcnkimaaGreatR
open Go.RowKit Go.Maps
def celRow (c : Cel) : List Value := .int .i64 c.1 :: (blk c.2).toList
theorem celRow_len (c : Cel) : (celRow c).length = 1025 := by
  show (blk c.2).toList.length + 1 = 1025
  rw [Array.length_toList, blk_size]
theorem celRow_one (c : Cel) : ∀ u ∈ celRow c, u.oneCell' = true := fun u hu => by
  rcases List.mem_cons.1 hu with rfl | h
  · rfl
  · have := rowN_one .u8 c.2 1024
    rw [Array.all_eq_true_iff_forall_mem] at this
    exact this u (by simpa [blk] using h)
theorem celRow_get (c : Cel) (j : Nat) (h : j < 1024) : (celRow c)[j + 1]? = some (.int .u8 (c.2 j)) := by
  unfold celRow
  rw [List.getElem?_cons_succ, Array.getElem?_toList]
  exact rowN_get _ _ _ _ h
theorem celRow_zero (c : Cel) : (celRow c)[0]? = some (.int .i64 c.1) := by unfold celRow; rw [List.getElem?_cons_zero]
theorem celRow_all (c : Cel) : (celRow c).toArray.all (·.oneCell') = true := by
  rw [Array.all_eq_true_iff_forall_mem]
  intro v hv
  exact celRow_one c v (by simpa using hv)
theorem sizeHeld : (Tryz.prog.info? 87).map (·.size) = some 1025 := by kernel_rfl
theorem cel_info (c : Cel) : (Tryz.prog.info? 87).map (·.size) = some (celRow c).toArray.size := by rw [List.size_toArray, celRow_len]; exact sizeHeld
theorem cel_two (c d : Cel) : (celRow c).toArray.size = (celRow d).toArray.size := by rw [List.size_toArray, List.size_toArray, celRow_len, celRow_len]
theorem zeroHeld : ∀ w, (zeroValue 87).run Tryz.prog w = .ok (.agg (celRow (0, nought)).toArray) w := (zero_of_info (show (Tryz.prog.info? 87).map (fun i => (i.zero, i.size)) = some (some (.agg (celRow (0, nought)).toArray), 1025) by kernel_rfl)).1
theorem loadH {w : World} {b off : Nat} {c : Cel} (h0 : w.cell? ⟨b, off, none⟩ = some (.int .i64 c.1)) (h1 : NumsAt w .u8 b (off + 1) c.2 1024) : (Instr.loadAt 87 (.pointer (some ⟨b, off, none⟩))).run Tryz.prog w = .ok (.agg (celRow c).toArray) w :=
  run_loadAt_mid (P := Tryz.prog) w b off 87 (celRow c) _ (fun j v hv => by
    have hj : j < 1025 := by have := (List.getElem?_eq_some_iff.1 hv).1; rwa [celRow_len] at this
    cases j with
    | zero =>
      rw [celRow_zero] at hv
      injection hv with hv
      rw [← hv]
      exact h0
    | succ j =>
      rw [celRow_get c j (by omega)] at hv
      injection hv with hv
      rw [← hv]
      have := h1 j (by omega)
      rwa [show off + 1 + j = off + (j + 1) by omega] at this) Tryz.underlying87 rfl (by rw [celRow_len]; exact sizeHeld)
theorem wpList_ldH {ops : Array Oper} {rest : List Oper} {o : Oper} {a : Act} {w : World} {Q : Exit → Act → World → Prop} (hw : Region.wanted o (yielded ops a.tmps) = true) (x : Operand) (ho : o.op = .load 87 x) (b off : Nat) (c : Cel) (hx : a.eval x = .pointer (some ⟨b, off, none⟩)) (h0 : w.cell? ⟨b, off, none⟩ = some (.int .i64 c.1)) (h1 : NumsAt w .u8 b (off + 1) c.2 1024)
    (h : wpList Tryz.prog ops Q rest (a.put o.dst (.agg (celRow c).toArray)) w) : wpList Tryz.prog ops Q (o :: rest) a w := by
  unfold wpList
  rw [if_pos hw]
  refine .inl ?_
  unfold Oper.wp execOp
  simp only [ho, hx, loadH h0 h1, Sem.run_bind, Result.andThen_ok, Sem.run_pure]
  exact h
theorem cel_num {w : World} {g : Nat} {c : Cel} {t : TypeId} (h : w.heap[g]? = some (.cells (celRow c).toArray t)) : w.cell? ⟨g, 0, none⟩ = some (.int .i64 c.1) := by rw [cell_of_row w g 0 _ t _ h, List.getElem?_toArray]; exact celRow_zero c
theorem cel_blk {w : World} {g : Nat} {c : Cel} {t : TypeId} (h : w.heap[g]? = some (.cells (celRow c).toArray t)) : NumsAt w .u8 g 1 c.2 1024 := fun j hj => by
  rw [cell_of_row w g (1 + j) _ t _ h, List.getElem?_toArray, show 1 + j = j + 1 by omega]
  exact celRow_get c j hj
def lastK (l : List Cel) : Nat → Int
  | 0 => -1
  | i + 1 => ((l[i]?).map (·.1)).getD 0
structure WholeOk (n : Int) (l : List Cel) : Prop where
  n1 : 1 ≤ n
  n2 : n ≤ 1048576
  len : l.length ≤ 1048576
  rise : ∀ (i : Nat) c, l[i]? = some c → lastK l i < c.1
  top : ∀ (i : Nat) c, l[i]? = some c → c.1 < n
  full : ∀ (i : Nat) c, l[i]? = some c → sameN 1024 c.2 nought = false
set_option maxRecDepth 20000 in
set_option maxHeartbeats 4000000 in
theorem whole05_ok (n : Int) (l : List Cel) (p : Option Addr) (cap : Nat) (w : World) (hi : ImgAt w p l) (h : WholeOk n l) :
    Calls Tryz.prog 181 #[.agg #[.int .i64 n, .slice p l.length cap]] w fun e w' => e = .returned (.int .i64 0) ∧ Below w.heap.size w w' := by
  have z := zero77
  have zh := zeroHeld
  have HI : Hid (ImgAt w p l) := hi
  obtain ⟨n1, n2, hl, hr, ht, hf⟩ := h
  have HR : Hid _ := hr
  have HT : Hid _ := ht
  have HF : Hid _ := hf
  clear hi hr ht hf
  generalize hN : l.length = N at *
  have hX0 := heap_alloc_new w (.cells #[.int .i64 n, .slice p N cap] 97)
  have t1 : decide (n < 1) = false := decide_eq_false (by omega)
  have t2 : decide (1048576 < n) = false := decide_eq_false (by omega)
  have HX : Hid (((w.alloc (.cells #[.int .i64 n, .slice p N cap] 97)).alloc (.cells (blk nought) 85)).heap[w.heap.size + 1]? = some (.cells (blk nought) 85)) := heap_two _ _ _
  have HB : Hid (Below w.heap.size w ((w.alloc (.cells #[.int .i64 n, .slice p N cap] 97)).alloc (.cells (blk nought) 85))) := below_next (below_new _ _) (below_new _ _)
  have HX1 : Hid _ := heap_kept hX0 (below_new _ (.cells (blk nought) 85))
  have c0 : (w.alloc (.cells #[.int .i64 n, .slice p N cap] 97)).cell? ⟨w.heap.size, 0, none⟩ = some (.int .i64 n) := Joins.cell_of_block hX0 0
  clear hX0
  go_enter Tryz.func181, Tryz.ntmps181
  go_wp2
  generalize ((w.alloc (.cells #[.int .i64 n, .slice p N cap] 97)).alloc (.cells (blk nought) 85)) = V at *
  clear c0 t1 t2
  go_loopw [4, 5, 6] (fun s4 s5 _ wx => ∃ i : Nat, i ≤ N ∧ s5 = .int .i64 i ∧ s4 = .int .i64 (lastK l i) ∧ Hid (Below V.heap.size V wx)) (fun _ s5 _ _ => N - (intOf s5).toNat)
  case atStart => exact ⟨0, by omega, rfl, rfl, Below.refl _ _⟩
  case round =>
    obtain ⟨i, hi, rfl, rfl, HW⟩ := hrel
    have hx1 := heap_kept HX1.out HW.out
    have c0 : wr.cell? ⟨w.heap.size, 0, none⟩ = some (.int .i64 n) := Joins.cell_of_block hx1 0
    have c1 : wr.cell? ⟨w.heap.size, 1, none⟩ = some (.slice p N cap) := Joins.cell_of_block hx1 1
    by_cases hi2 : (i : Int) < (N : Int)
    · have hc : l[i]? = some l[i] := List.getElem?_eq_getElem (by omega)
      obtain ⟨b, off, rfl, hlt, hC⟩ := HI.out (by omega)
      obtain ⟨a0, a1⟩ := hC i _ hc
      have hlt0 : b < w.heap.size := hlt
      have hr := HR.out i _ hc
      have ht := HT.out i _ hc
      have hf := HF.out i _ hc
      have HL : Hid (lastK l (i + 1) = (l[i]).1) := by show ((l[i]?).map (·.1)).getD 0 = _; rw [hc]; rfl
      generalize l[i] = cl at *
      have hbw := below_next HB.out HW.out
      have q0 : wr.cell? ⟨b, off + i * 1025, none⟩ = some (.int .i64 cl.1) := (hbw.cell (p := ⟨b, off + i * 1025, none⟩) hlt).trans a0
      have q1 : NumsAt wr .u8 b (off + i * 1025 + 1) cl.2 1024 := a1.later hbw hlt
      have hiN : i < N := by omega
      have HW2 : Hid (Below V.heap.size V (wr.alloc (.cells (celRow cl).toArray 87))) := below_next HW.out (below_new _ _)
      have hH : (wr.alloc (.cells (celRow cl).toArray 87)).heap[wr.heap.size]? = some (.cells (celRow cl).toArray 87) := heap_alloc_new _ _
      have hx2 := heap_kept hx1 (below_new wr (.cells (celRow cl).toArray 87))
      have hz := heap_kept (heap_kept HX.out HW.out) (below_new wr (.cells (celRow cl).toArray 87))
      clear a0 a1 hC hc hlt hbw hx1 HW
      generalize lastK l i = la at *
      go_upto_region 9 with (first | (with_reducible refine isLoadR 87 ?_; refine wpList_ldH rfl (.tmp 25) rfl b (off + i * 1025) cl rfl q0 q1 ?_) | (with_reducible refine isStoreR 87 ?_; refine wpList_stNew 87 rfl (.tmp 6) (.tmp 26) rfl wr.heap.size (celRow cl).toArray (celRow (0, nought)).toArray 87 (cel_info _) (cel_two _ _) (celRow_all _) rfl rfl rfl ?_))
      clear q0 q1 c0 c1
      generalize wr.alloc (.cells (celRow cl).toArray 87) = X at *
      generalize wr.heap.size = gx at *
      have d0 := cel_num hH
      have d1 := cel_blk hH
      have dz := blk_at hz
      have c0 : X.cell? ⟨w.heap.size, 0, none⟩ = some (.int .i64 n) := Joins.cell_of_block hx2 0
      have g1 : decide (cl.1 ≤ la) = false := decide_eq_false (by omega)
      have g2 : decide (n ≤ cl.1) = false := decide_eq_false (by omega)
      clear hH hz hx2 hr ht
      generalize cl.2 = f at *
      generalize cl.1 = q at *
      go_wp2_with (first | (with_reducible refine isLoadR 85 ?_; refine wpList_ldB rfl (.tmp 39) rfl gx 1 f rfl d1 ?_) | (with_reducible refine isLoadR 85 ?_; refine wpList_ldB rfl (.tmp 3) rfl (w.heap.size + 1) 0 nought rfl dz ?_) | (with_reducible refine isEqR 85 85 ?_; refine wpList_eqN Tryz.underlying85 eg77 rfl (.tmp 40) (.tmp 41) rfl f nought false rfl rfl hf ?_))
      exact ⟨⟨i + 1, by omega, by go_num, by rw [HL.out], HW2.out⟩, by simp [intOf]; omega⟩
    · obtain rfl : i = N := by omega
      have HR2 : Hid (Below w.heap.size w wr) := below_next HB.out HW.out
      clear hx1 HW
      generalize lastK l i = la at *
      go_wp2
      go_ret
      exact ⟨rfl, HR2.out⟩
end Go.Proofs.YtiejhjngcnkimaaGreatR
/- An image, read so far that its inodes can be looked at: the document's Open, where the superblock and the log's header are as they must be. -/
namespace Go.Proofs.YtiejhjngcnkimaaGreatR
open Go.RowKit Go.Maps
section
variable {o : Oper} {a : Act} {w : World}
theorem exec_allocR {ty : TypeId} {z : Array Value} (hz : ∀ w, (zeroValue ty).run Tryz.prog w = .ok (.agg z) w) (ho : o.op = .alloc ty) : (execOp a.eval o).run Tryz.prog w = .ok (.value (.pointer (some ⟨w.heap.size, 0, none⟩))) (w.alloc (.cells z ty)) := by
  have z1 := hz w
  unfold execOp
  simp only [ho]
  simp [go_sem, z1]
theorem exec_stR (ty : TypeId) (x y : Operand) (ho : o.op = .store ty x y) (g : Nat) {cs c0 : Array Value} (hx : a.eval x = .pointer (some ⟨g, 0, none⟩)) (hy : a.eval y = .agg cs) {t : TypeId} (hg : w.heap[g]? = some (.cells c0 t)) (hi : (Tryz.prog.info? ty).map (·.size) = some cs.size) (hs : c0.size = cs.size) (h1 : cs.all (·.oneCell') = true) : (execOp a.eval o).run Tryz.prog w = .ok .skip (w.setRow g cs) := by
  unfold execOp
  simp only [ho, hx, hy, Instr.storeAt, Instr.sureAddr, Sem.run_bind, Sem.run_pure, Result.andThen_ok, run_storeVar_row w g t ty c0 cs hg hi hs h1]
end
theorem im_info (n : Int) (p : Option Addr) (N cap : Nat) : (Tryz.prog.info? 97).map (·.size) = some (#[Value.int .i64 n, .slice p N cap] : Array Value).size := by show _ = some 2; kernel_rfl
structure SupOk (b l i : Nat) (im : List Cel) : Prop where
  geo : GeoOk b l i
  sup : ∀ j, j < 1024 → atL im 0 j = supP (layOf b l i) j
  head : ∀ j, j < 4 → atL im 1 j = 0
theorem SupOk.blk {b l i : Nat} {im : List Cel} (h : SupOk b l i im) : blk (atL im 0) = blk (supP (layOf b l i)) := rowN_congr h.sup
theorem wpList_buildDk {ops : Array Oper} {rest : List Oper} {o : Oper} {a : Act} {w : World} {Q : Exit → Act → World → Prop} (hw : Region.wanted o (yielded ops a.tmps) = true) (x0 x1 x2 : Operand) (ho : o.op = .build 219 #[(0, x0), (1, x1), (2, x2)]) (n : Int) (p : Option Addr) (N cap : Nat) (y : Lay)
    (h0 : a.eval x0 = .agg #[.int .i64 n, .slice p N cap]) (h1 : a.eval x1 = .agg (layRow y)) (h2 : a.eval x2 = .agg hd0)
    (h : wpList Tryz.prog ops Q rest (a.put o.dst (.agg (dkRow n p N cap y (.slice none 0 0)))) w) : wpList Tryz.prog ops Q (o :: rest) a w := by
  unfold wpList
  rw [if_pos hw]
  refine .inl ?_
  have z := (zero_of_info (show (Tryz.prog.info? 219).map (fun i => (i.zero, i.size)) = some (some (.agg (dkRow 0 none 0 0 lay0 (.slice none 0 0))), 12) by kernel_rfl)).1 w
  have e : (execOp a.eval o).run Tryz.prog w = .ok (.value (.agg (dkRow n p N cap y (.slice none 0 0)))) w := by
    unfold layRow at h1
    unfold hd0 at h2
    unfold dkRow lay0 at *
    generalize a.eval = E at *
    unfold execOp
    simp only [ho]
    simp [go_sem, h0, h1, h2, z]
  unfold Oper.wp
  rw [e]
  exact h
set_option maxRecDepth 20000 in
set_option maxHeartbeats 8000000 in
theorem open29_ok {b l i : Nat} {n : Int} {im : List Cel} {p : Option Addr} {cap : Nat} {w : World} (hi : ImgAt w p im) (hw : WholeOk n im) (hs : SupOk b l i im) (hbn : (b : Int) ≤ n) (hbyt : ∀ c ∈ im, ∀ i, 0 ≤ c.2 i ∧ c.2 i ≤ 255) :
    Calls Tryz.prog 127 #[.agg #[.int .i64 n, .slice p im.length cap]] w fun e w' => ∃ g, e = .returned (.tuple #[.pointer (some ⟨g, 0, none⟩), .slice none 0 0]) ∧ Aud w' g n im (layOf b l i) ∧ Below w.heap.size w w' := by
  have zl := zeroLay
  have zh := zeroHd
  have HBy : Hid _ := hbyt
  have hlen : im.length < 4611686018427387904 := by have := hw.len; omega
  have HLen : Hid _ := hlen
  have HI : Hid (ImgAt w p im) := hi
  have hX := heap_alloc_new w (.cells #[.int .i64 n, .slice p im.length cap] 97)
  have hbX := below_new w (.cells #[.int .i64 n, .slice p im.length cap] 97)
  have hwh := whole05_ok n im p cap (w.alloc (.cells #[.int .i64 n, .slice p im.length cap] 97)) (hi.later hbX) hw
  have HBk : Hid _ := hs.blk
  have HG : Hid _ := hs.geo
  have HH : Hid _ := hs.head
  have HX : Hid _ := hX
  have HB : Hid _ := hbX
  clear hi hw hs hbyt hX hbX hlen
  obtain ⟨y, hy⟩ : ∃ y, layOf b l i = y := ⟨_, rfl⟩
  have HY : Hid (layOf b l i = y) := hy
  rw [hy] at HBk ⊢
  clear hy
  obtain ⟨N, hN⟩ : ∃ N, im.length = N := ⟨_, rfl⟩
  have HN : Hid (im.length = N) := hN
  rw [hN] at hwh HX HB ⊢
  clear hN
  go_enter Tryz.func127, Tryz.ntmps127
  go_upto_region 1 with fail
  generalize w.alloc (.cells #[.int .i64 n, .slice p N cap] 97) = V0 at *
  go_wp2_with (first | (with_reducible refine isLoadR 97 ?_; refine wpList_ldR 97 Tryz.underlying97 rfl rfl (.tmp 1) rfl w.heap.size rfl #[.int .i64 n, .slice p N cap] 97 (0, 0) (im_info _ _ _ _) HX.out ?_) | (go_at_call 181; fail))
  refine hwh.mono ?_
  rintro e A ⟨rfl, hb⟩
  have HXA : Hid (A.heap[w.heap.size]? = some (.cells #[.int .i64 n, .slice p N cap] 97)) := heap_kept HX.out hb
  have HBA : Hid (Below w.heap.size w A) := below_next HB.out hb
  clear hwh hb HX HB
  have HAt : Hid (∀ (k : Int) (W : World), Below A.heap.size A W → Calls Tryz.prog 184 #[.agg #[.int .i64 n, .slice p N cap], .int .i64 k] W fun e w' => e = .returned (.agg (blk (atL im k))) ∧ Below W.heap.size W w') := fun k W hW => by
    have := at05_any n im p cap k W HLen.out (HI.out.later (below_next HBA.out hW))
    rwa [HN.out] at this
  have HD3 : Hid (∀ W, Calls Tryz.prog 183 #[.agg (blk (supP y)), .int .i64 n] W fun e w' => e = .returned (.tuple #[.agg (layRow y), .int .i64 0]) ∧ Below W.heap.size W w') := fun W => by
    have := dec03_ok HG.out n hbn W
    rwa [HY.out] at this
  have HD7 : Hid (∀ W, Calls Tryz.prog 146 #[.agg (layRow y), .agg (blk (atL im 1))] W fun e w' => e = .returned (.tuple #[.agg hd0, .int .i64 0]) ∧ Below W.heap.size W w') := fun W => by
    have := dec07_none HG.out (atL im 1) HH.out W
    rwa [HY.out] at this
  have HAt0 : Hid (∀ (W : World), Below A.heap.size A W → Calls Tryz.prog 184 #[.agg #[.int .i64 n, .slice p N cap], .int .i64 0] W fun e w' => e = .returned (.agg (blk (supP y))) ∧ Below W.heap.size W w') := fun W hW => by
    have := HAt.out 0 W hW
    rwa [HBk.out] at this
  have hLg : y.logAt = 1 := by rw [← HY.out]; rfl
  go_upto_region 3 with fail
  go_cut [4, 5] from 11 to 18 (fun sp se wc => ∃ gH : Nat, sp = .pointer (some ⟨gH, 0, none⟩) ∧ se = .int .i64 0 ∧ Hid (Below A.heap.size A wc ∧ A.heap.size ≤ gH ∧ wc.heap[gH]? = some (.cells (layRow y) 61)))
  case first =>
    refine wp_region_tree (S := fun u => Below A.heap.size A u) (rdT 0 (rdT 2 (rdT 3 (altT [(1, (altT [(4, (rdT 5 (rdT 6 (rdT 7 (altT [(8, (altT [(9, (rdT 10 finT))]))]))))), (8, (altT [(4, (rdT 5 (rdT 6 (rdT 7 (altT [(9, (rdT 10 finT))])))))]))])), (8, (altT [(1, (altT [(4, (rdT 5 (rdT 6 (rdT 7 (altT [(9, (rdT 10 finT))])))))]))]))])))) (by kernel_rfl) rfl (by kernel_rfl) (fun d _ _ _ _ h => by cases d <;> exact h) (Below.refl _ _).drew ?_
    have hq : Below A.heap.size A A.drew := (Below.refl _ _).drew
    generalize A.drew = V at *
    refine wpT_yield (v := .agg #[.int .i64 n, .slice p N cap]) rfl rfl (fun u hu => run_ldR 97 Tryz.underlying97 rfl (.tmp 1) rfl w.heap.size rfl (heap_kept HXA.out hu) (im_info _ _ _ _)) ?_
    simp only [Act.put, pA, pB, pC]
    refine wpT_yield (v := .pointer (some ⟨w.heap.size, 0, none⟩)) rfl rfl (fun u _ => by go_simp) ?_
    simp only [Act.put, pA, pB, pC]
    refine wpT_yield (v := .int .i64 n) rfl rfl (fun u hu => by have c0 : u.cell? ⟨w.heap.size, 0, none⟩ = some (.int .i64 n) := Joins.cell_of_block (heap_kept HXA.out hu) 0; go_simp) ?_
    simp only [Act.put, pA, pB, pC]
    refine wpT_call rfl rfl 184 _ _ rfl Tryz.call184 [.agg #[.int .i64 n, .slice p N cap], .int .i64 0] rfl ?_ ?_
    · refine Calls.mono (HAt0.out _ hq) ?_
      rintro e1 X ⟨rfl, hbX⟩
      have hqX := below_next hq hbX
      refine ⟨_, rfl, hqX, ?_⟩
      simp only [Act.put, pA, pB, pC]
      refine wpT_call rfl rfl 183 _ _ rfl Tryz.call183 [.agg (blk (supP y)), .int .i64 n] rfl ?_ ?_
      · refine Calls.mono (HD3.out _) ?_
        rintro e2 Y ⟨rfl, hbY⟩
        have hqY := below_next hqX hbY
        refine ⟨_, rfl, hqY, ?_⟩
        simp only [Act.put, pA, pB, pC]
        refine wpT_yield (v := .tuple #[.agg (layRow y), .int .i64 0]) rfl rfl (fun u _ => exec_mv rfl rfl) ?_
        simp only [Act.put, pA, pB, pC]
        refine wpT_yield (v := .agg (layRow y)) rfl rfl (fun u _ => by go_simp) ?_
        simp only [Act.put, pA, pB, pC]
        refine wpT_yield (v := .int .i64 0) rfl rfl (fun u _ => by go_simp) ?_
        simp only [Act.put, pA, pB, pC]
        refine wpT_make (v := .pointer (some ⟨Y.heap.size, 0, none⟩)) (w' := Y.alloc (.cells (layRow lay0) 61)) rfl rfl (exec_allocR zeroLay rfl) (hqY.alloc hqY.size _) ?_ ?_
        · simp only [Act.put, pA, pB, pC]
          have hgA : (Y.alloc (.cells (layRow lay0) 61)).heap[Y.heap.size]? = some (.cells (layRow lay0) 61) := heap_alloc_new _ _
          have hqA : Below A.heap.size A (Y.alloc (.cells (layRow lay0) 61)) := hqY.alloc hqY.size _
          refine wpT_do (w' := (Y.alloc (.cells (layRow lay0) 61)).setRow Y.heap.size (layRow y)) rfl rfl (exec_stR 61 (.tmp 4) (.tmp 17) rfl Y.heap.size rfl rfl hgA (lay_info _) (lay_two _ _) (lay_one _)) (hqA.trans ((Fr.setRow (Y.alloc (.cells (layRow lay0) 61)) Y.heap.size _).below (fun j q => by have := hqY.size; omega) hqA.size)) ?_ wpT_stop
          simp only [Act.put]
          refine wpT_yield (v := .int .i64 0) rfl rfl (fun u _ => by go_simp) ?_
          simp only [Act.put, pA, pB, pC]
          refine wpT_fin ?_
          have HRel : Hid (Below A.heap.size A ((Y.alloc (.cells (layRow lay0) 61)).setRow Y.heap.size (layRow y)) ∧ A.heap.size ≤ Y.heap.size ∧ ((Y.alloc (.cells (layRow lay0) 61)).setRow Y.heap.size (layRow y)).heap[Y.heap.size]? = some (.cells (layRow y) 61)) := ⟨hqA.trans ((Fr.setRow (Y.alloc (.cells (layRow lay0) 61)) Y.heap.size _).below (fun j q => by have := hqY.size; omega) hqA.size), hqY.size, setRow_heap _ _ _ _ _ _ hgA⟩
          generalize (Y.alloc (.cells (layRow lay0) 61)).setRow Y.heap.size (layRow y) = ZZ at HRel ⊢
          go_wp2_with fail
          go_meet
          case rel => exact ⟨_, rfl, rfl, HRel.out⟩
        · exact wpT_stop
      refine wpT_make (v := .pointer (some ⟨X.heap.size, 0, none⟩)) (w' := X.alloc (.cells (layRow lay0) 61)) rfl rfl (exec_allocR zeroLay rfl) (hqX.alloc hqX.size _) ?_ ?_
      · simp only [Act.put, pA, pB, pC]
        have hqA : Below A.heap.size A (X.alloc (.cells (layRow lay0) 61)) := hqX.alloc hqX.size _
        refine wpT_call rfl rfl 183 _ _ rfl Tryz.call183 [.agg (blk (supP y)), .int .i64 n] rfl ?_ ?_
        · refine Calls.mono (HD3.out _) ?_
          rintro e2 Y ⟨rfl, hbY⟩
          have hqY := below_next hqA hbY
          refine ⟨_, rfl, hqY, ?_⟩
          simp only [Act.put, pA, pB, pC]
          refine wpT_yield (v := .tuple #[.agg (layRow y), .int .i64 0]) rfl rfl (fun u _ => exec_mv rfl rfl) ?_
          simp only [Act.put, pA, pB, pC]
          refine wpT_yield (v := .agg (layRow y)) rfl rfl (fun u _ => by go_simp) ?_
          simp only [Act.put, pA, pB, pC]
          refine wpT_yield (v := .int .i64 0) rfl rfl (fun u _ => by go_simp) ?_
          simp only [Act.put, pA, pB, pC]
          have hgA : Y.heap[X.heap.size]? = some (.cells (layRow lay0) 61) := heap_kept (heap_alloc_new _ _) hbY
          refine wpT_do (w' := Y.setRow X.heap.size (layRow y)) rfl rfl (exec_stR 61 (.tmp 4) (.tmp 17) rfl X.heap.size rfl rfl hgA (lay_info _) (lay_two _ _) (lay_one _)) (hqY.trans ((Fr.setRow Y X.heap.size _).below (fun j q => by have := hqX.size; omega) hqY.size)) ?_ wpT_stop
          simp only [Act.put]
          refine wpT_yield (v := .int .i64 0) rfl rfl (fun u _ => by go_simp) ?_
          simp only [Act.put, pA, pB, pC]
          refine wpT_fin ?_
          have HRel : Hid (Below A.heap.size A (Y.setRow X.heap.size (layRow y)) ∧ A.heap.size ≤ X.heap.size ∧ (Y.setRow X.heap.size (layRow y)).heap[X.heap.size]? = some (.cells (layRow y) 61)) := ⟨hqY.trans ((Fr.setRow Y X.heap.size _).below (fun j q => by have := hqX.size; omega) hqY.size), hqX.size, setRow_heap _ _ _ _ _ _ hgA⟩
          generalize Y.setRow X.heap.size (layRow y) = ZZ at HRel ⊢
          go_wp2_with fail
          go_meet
          case rel => exact ⟨_, rfl, rfl, HRel.out⟩
        · exact wpT_stop
      · exact wpT_stop
    refine wpT_make (v := .pointer (some ⟨V.heap.size, 0, none⟩)) (w' := V.alloc (.cells (layRow lay0) 61)) rfl rfl (exec_allocR zeroLay rfl) (hq.alloc hq.size _) ?_ ?_
    · simp only [Act.put, pA, pB, pC]
      have hqA : Below A.heap.size A (V.alloc (.cells (layRow lay0) 61)) := hq.alloc hq.size _
      refine wpT_call rfl rfl 184 _ _ rfl Tryz.call184 [.agg #[.int .i64 n, .slice p N cap], .int .i64 0] rfl ?_ ?_
      · refine Calls.mono (HAt0.out _ hqA) ?_
        rintro e1 X ⟨rfl, hbX⟩
        have hqX := below_next hqA hbX
        refine ⟨_, rfl, hqX, ?_⟩
        simp only [Act.put, pA, pB, pC]
        refine wpT_call rfl rfl 183 _ _ rfl Tryz.call183 [.agg (blk (supP y)), .int .i64 n] rfl ?_ ?_
        · refine Calls.mono (HD3.out _) ?_
          rintro e2 Y ⟨rfl, hbY⟩
          have hqY := below_next hqX hbY
          refine ⟨_, rfl, hqY, ?_⟩
          simp only [Act.put, pA, pB, pC]
          refine wpT_yield (v := .tuple #[.agg (layRow y), .int .i64 0]) rfl rfl (fun u _ => exec_mv rfl rfl) ?_
          simp only [Act.put, pA, pB, pC]
          refine wpT_yield (v := .agg (layRow y)) rfl rfl (fun u _ => by go_simp) ?_
          simp only [Act.put, pA, pB, pC]
          refine wpT_yield (v := .int .i64 0) rfl rfl (fun u _ => by go_simp) ?_
          simp only [Act.put, pA, pB, pC]
          have hgA : Y.heap[V.heap.size]? = some (.cells (layRow lay0) 61) := heap_kept (heap_kept (heap_alloc_new _ _) hbX) hbY
          refine wpT_do (w' := Y.setRow V.heap.size (layRow y)) rfl rfl (exec_stR 61 (.tmp 4) (.tmp 17) rfl V.heap.size rfl rfl hgA (lay_info _) (lay_two _ _) (lay_one _)) (hqY.trans ((Fr.setRow Y V.heap.size _).below (fun j q => by have := hq.size; omega) hqY.size)) ?_ wpT_stop
          simp only [Act.put]
          refine wpT_yield (v := .int .i64 0) rfl rfl (fun u _ => by go_simp) ?_
          simp only [Act.put, pA, pB, pC]
          refine wpT_fin ?_
          have HRel : Hid (Below A.heap.size A (Y.setRow V.heap.size (layRow y)) ∧ A.heap.size ≤ V.heap.size ∧ (Y.setRow V.heap.size (layRow y)).heap[V.heap.size]? = some (.cells (layRow y) 61)) := ⟨hqY.trans ((Fr.setRow Y V.heap.size _).below (fun j q => by have := hq.size; omega) hqY.size), hq.size, setRow_heap _ _ _ _ _ _ hgA⟩
          generalize Y.setRow V.heap.size (layRow y) = ZZ at HRel ⊢
          go_wp2_with fail
          go_meet
          case rel => exact ⟨_, rfl, rfl, HRel.out⟩
        · exact wpT_stop
      · exact wpT_stop
    · exact wpT_stop
  case rest =>
    obtain ⟨gy, rfl, rfl, HR⟩ := hcut
    have HXB : Hid (wc.heap[w.heap.size]? = some (.cells #[.int .i64 n, .slice p N cap] 97)) := heap_kept HXA.out HR.out.1
    have HYB : Hid (wc.heap[gy]? = some (.cells (layRow y) 61)) := HR.out.2.2
    have HBB : Hid (Below w.heap.size w wc) := below_next HBA.out HR.out.1
    have HAt1 : Hid (∀ (W : World), Below wc.heap.size wc W → Calls Tryz.prog 184 #[.agg #[.int .i64 n, .slice p N cap], .int .i64 1] W fun e w' => e = .returned (.agg (blk (atL im 1))) ∧ Below W.heap.size W w') := fun W hW => HAt.out 1 W (below_next HR.out.1 hW)
    have HL3 : Hid (∀ u : World, Below wc.heap.size wc u → u.cell? ⟨gy, 3, none⟩ = some (.int .i64 1)) := fun u hu => by rw [← hLg]; exact Joins.cell_of_block (heap_kept HYB.out hu) 3
    clear HAt HAt0 HD3 HR HXA HBA
    generalize wc = A2 at *
    go_upto_region 6 with fail
    go_cut [6, 5] from 22 to 30 (fun sp se wc => ∃ gH : Nat, sp = .pointer (some ⟨gH, 0, none⟩) ∧ se = .int .i64 0 ∧ Hid (Below A2.heap.size A2 wc ∧ A2.heap.size ≤ gH ∧ wc.heap[gH]? = some (.cells hd0 169)))
    case first =>
      refine wp_region_tree (S := fun u => Below A2.heap.size A2 u) (rdT 0 (rdT 1 (rdT 2 (rdT 3 (altT [(4, (altT [(5, (rdT 6 (rdT 7 (rdT 8 (altT [(9, (altT [(10, (rdT 11 finT))]))]))))), (9, (altT [(5, (rdT 6 (rdT 7 (rdT 8 (altT [(10, (rdT 11 finT))])))))]))])), (9, (altT [(4, (altT [(5, (rdT 6 (rdT 7 (rdT 8 (altT [(10, (rdT 11 finT))])))))]))]))]))))) (by kernel_rfl) rfl (by kernel_rfl) (fun d _ _ _ _ h => by cases d <;> exact h) (Below.refl _ _).drew ?_
      have hq : Below A2.heap.size A2 A2.drew := (Below.refl _ _).drew
      generalize A2.drew = V at *
      refine wpT_yield (v := .agg (layRow y)) rfl rfl (fun u hu => run_ldR 61 Tryz.underlying61 rfl (.tmp 4) rfl gy rfl (heap_kept HYB.out hu) (lay_info _)) ?_
      simp only [Act.put, pA, pB, pC]
      refine wpT_yield (v := .agg #[.int .i64 n, .slice p N cap]) rfl rfl (fun u hu => run_ldR 97 Tryz.underlying97 rfl (.tmp 1) rfl w.heap.size rfl (heap_kept HXB.out hu) (im_info _ _ _ _)) ?_
      simp only [Act.put, pA, pB, pC]
      refine wpT_yield (v := .pointer (some ⟨gy, 3, none⟩)) rfl rfl (fun u _ => by go_simp) ?_
      simp only [Act.put, pA, pB, pC]
      refine wpT_yield (v := .int .i64 1) rfl rfl (fun u hu => by have := HL3.out u hu; go_simp) ?_
      simp only [Act.put, pA, pB, pC]
      refine wpT_call rfl rfl 184 _ _ rfl Tryz.call184 [.agg #[.int .i64 n, .slice p N cap], .int .i64 1] rfl ?_ ?_
      · refine Calls.mono (HAt1.out _ hq) ?_
        rintro e1 X ⟨rfl, hbX⟩
        have hqX := below_next hq hbX
        refine ⟨_, rfl, hqX, ?_⟩
        simp only [Act.put, pA, pB, pC]
        refine wpT_call rfl rfl 146 _ _ rfl Tryz.call146 [.agg (layRow y), .agg (blk (atL im 1))] rfl ?_ ?_
        · refine Calls.mono (HD7.out _) ?_
          rintro e2 Y ⟨rfl, hbY⟩
          have hqY := below_next hqX hbY
          refine ⟨_, rfl, hqY, ?_⟩
          simp only [Act.put, pA, pB, pC]
          refine wpT_yield (v := .tuple #[.agg hd0, .int .i64 0]) rfl rfl (fun u _ => exec_mv rfl rfl) ?_
          simp only [Act.put, pA, pB, pC]
          refine wpT_yield (v := .agg hd0) rfl rfl (fun u _ => by go_simp) ?_
          simp only [Act.put, pA, pB, pC]
          refine wpT_yield (v := .int .i64 0) rfl rfl (fun u _ => by go_simp) ?_
          simp only [Act.put, pA, pB, pC]
          refine wpT_make (v := .pointer (some ⟨Y.heap.size, 0, none⟩)) (w' := Y.alloc (.cells hd0 169)) rfl rfl (exec_allocR zeroHd rfl) (hqY.alloc hqY.size _) ?_ ?_
          · simp only [Act.put, pA, pB, pC]
            have hgA : (Y.alloc (.cells hd0 169)).heap[Y.heap.size]? = some (.cells hd0 169) := heap_alloc_new _ _
            have hqA : Below A2.heap.size A2 (Y.alloc (.cells hd0 169)) := hqY.alloc hqY.size _
            refine wpT_do (w' := (Y.alloc (.cells hd0 169)).setRow Y.heap.size hd0) rfl rfl (exec_stR 169 (.tmp 6) (.tmp 29) rfl Y.heap.size rfl rfl hgA hd_info rfl hd_one) (hqA.trans ((Fr.setRow (Y.alloc (.cells hd0 169)) Y.heap.size _).below (fun j q => by have := hqY.size; omega) hqA.size)) ?_ wpT_stop
            simp only [Act.put]
            refine wpT_yield (v := .int .i64 0) rfl rfl (fun u _ => by go_simp) ?_
            simp only [Act.put, pA, pB, pC]
            refine wpT_fin ?_
            have HRel : Hid (Below A2.heap.size A2 ((Y.alloc (.cells hd0 169)).setRow Y.heap.size hd0) ∧ A2.heap.size ≤ Y.heap.size ∧ ((Y.alloc (.cells hd0 169)).setRow Y.heap.size hd0).heap[Y.heap.size]? = some (.cells hd0 169)) := ⟨hqA.trans ((Fr.setRow (Y.alloc (.cells hd0 169)) Y.heap.size _).below (fun j q => by have := hqY.size; omega) hqA.size), hqY.size, setRow_heap _ _ _ _ _ _ hgA⟩
            generalize (Y.alloc (.cells hd0 169)).setRow Y.heap.size hd0 = ZZ at HRel ⊢
            go_wp2_with fail
            go_meet
            case rel => exact ⟨_, rfl, rfl, HRel.out⟩
          · exact wpT_stop
        refine wpT_make (v := .pointer (some ⟨X.heap.size, 0, none⟩)) (w' := X.alloc (.cells hd0 169)) rfl rfl (exec_allocR zeroHd rfl) (hqX.alloc hqX.size _) ?_ ?_
        · simp only [Act.put, pA, pB, pC]
          have hqA : Below A2.heap.size A2 (X.alloc (.cells hd0 169)) := hqX.alloc hqX.size _
          refine wpT_call rfl rfl 146 _ _ rfl Tryz.call146 [.agg (layRow y), .agg (blk (atL im 1))] rfl ?_ ?_
          · refine Calls.mono (HD7.out _) ?_
            rintro e2 Y ⟨rfl, hbY⟩
            have hqY := below_next hqA hbY
            refine ⟨_, rfl, hqY, ?_⟩
            simp only [Act.put, pA, pB, pC]
            refine wpT_yield (v := .tuple #[.agg hd0, .int .i64 0]) rfl rfl (fun u _ => exec_mv rfl rfl) ?_
            simp only [Act.put, pA, pB, pC]
            refine wpT_yield (v := .agg hd0) rfl rfl (fun u _ => by go_simp) ?_
            simp only [Act.put, pA, pB, pC]
            refine wpT_yield (v := .int .i64 0) rfl rfl (fun u _ => by go_simp) ?_
            simp only [Act.put, pA, pB, pC]
            have hgA : Y.heap[X.heap.size]? = some (.cells hd0 169) := heap_kept (heap_alloc_new _ _) hbY
            refine wpT_do (w' := Y.setRow X.heap.size hd0) rfl rfl (exec_stR 169 (.tmp 6) (.tmp 29) rfl X.heap.size rfl rfl hgA hd_info rfl hd_one) (hqY.trans ((Fr.setRow Y X.heap.size _).below (fun j q => by have := hqX.size; omega) hqY.size)) ?_ wpT_stop
            simp only [Act.put]
            refine wpT_yield (v := .int .i64 0) rfl rfl (fun u _ => by go_simp) ?_
            simp only [Act.put, pA, pB, pC]
            refine wpT_fin ?_
            have HRel : Hid (Below A2.heap.size A2 (Y.setRow X.heap.size hd0) ∧ A2.heap.size ≤ X.heap.size ∧ (Y.setRow X.heap.size hd0).heap[X.heap.size]? = some (.cells hd0 169)) := ⟨hqY.trans ((Fr.setRow Y X.heap.size _).below (fun j q => by have := hqX.size; omega) hqY.size), hqX.size, setRow_heap _ _ _ _ _ _ hgA⟩
            generalize Y.setRow X.heap.size hd0 = ZZ at HRel ⊢
            go_wp2_with fail
            go_meet
            case rel => exact ⟨_, rfl, rfl, HRel.out⟩
          · exact wpT_stop
        · exact wpT_stop
      refine wpT_make (v := .pointer (some ⟨V.heap.size, 0, none⟩)) (w' := V.alloc (.cells hd0 169)) rfl rfl (exec_allocR zeroHd rfl) (hq.alloc hq.size _) ?_ ?_
      · simp only [Act.put, pA, pB, pC]
        have hqA : Below A2.heap.size A2 (V.alloc (.cells hd0 169)) := hq.alloc hq.size _
        refine wpT_call rfl rfl 184 _ _ rfl Tryz.call184 [.agg #[.int .i64 n, .slice p N cap], .int .i64 1] rfl ?_ ?_
        · refine Calls.mono (HAt1.out _ hqA) ?_
          rintro e1 X ⟨rfl, hbX⟩
          have hqX := below_next hqA hbX
          refine ⟨_, rfl, hqX, ?_⟩
          simp only [Act.put, pA, pB, pC]
          refine wpT_call rfl rfl 146 _ _ rfl Tryz.call146 [.agg (layRow y), .agg (blk (atL im 1))] rfl ?_ ?_
          · refine Calls.mono (HD7.out _) ?_
            rintro e2 Y ⟨rfl, hbY⟩
            have hqY := below_next hqX hbY
            refine ⟨_, rfl, hqY, ?_⟩
            simp only [Act.put, pA, pB, pC]
            refine wpT_yield (v := .tuple #[.agg hd0, .int .i64 0]) rfl rfl (fun u _ => exec_mv rfl rfl) ?_
            simp only [Act.put, pA, pB, pC]
            refine wpT_yield (v := .agg hd0) rfl rfl (fun u _ => by go_simp) ?_
            simp only [Act.put, pA, pB, pC]
            refine wpT_yield (v := .int .i64 0) rfl rfl (fun u _ => by go_simp) ?_
            simp only [Act.put, pA, pB, pC]
            have hgA : Y.heap[V.heap.size]? = some (.cells hd0 169) := heap_kept (heap_kept (heap_alloc_new _ _) hbX) hbY
            refine wpT_do (w' := Y.setRow V.heap.size hd0) rfl rfl (exec_stR 169 (.tmp 6) (.tmp 29) rfl V.heap.size rfl rfl hgA hd_info rfl hd_one) (hqY.trans ((Fr.setRow Y V.heap.size _).below (fun j q => by have := hq.size; omega) hqY.size)) ?_ wpT_stop
            simp only [Act.put]
            refine wpT_yield (v := .int .i64 0) rfl rfl (fun u _ => by go_simp) ?_
            simp only [Act.put, pA, pB, pC]
            refine wpT_fin ?_
            have HRel : Hid (Below A2.heap.size A2 (Y.setRow V.heap.size hd0) ∧ A2.heap.size ≤ V.heap.size ∧ (Y.setRow V.heap.size hd0).heap[V.heap.size]? = some (.cells hd0 169)) := ⟨hqY.trans ((Fr.setRow Y V.heap.size _).below (fun j q => by have := hq.size; omega) hqY.size), hq.size, setRow_heap _ _ _ _ _ _ hgA⟩
            generalize Y.setRow V.heap.size hd0 = ZZ at HRel ⊢
            go_wp2_with fail
            go_meet
            case rel => exact ⟨_, rfl, rfl, HRel.out⟩
          · exact wpT_stop
        · exact wpT_stop
      · exact wpT_stop
    case rest =>
      obtain ⟨gh, rfl, rfl, HR⟩ := hcut
      have hxc := heap_kept HXB.out HR.out.1
      have hyc := heap_kept HYB.out HR.out.1
      have hhc := HR.out.2.2
      have HBC : Hid (Below w.heap.size w wc) := below_next HBB.out HR.out.1
      have HF : Hid (Aud (wc.alloc (.cells (dkRow n p N cap y (.slice none 0 0)) 219)) wc.heap.size n im y) := by
        refine ⟨⟨p, cap, none, 0, ?_, HI.out.later (below_next HBC.out (below_new _ _))⟩, HLen.out, HBy.out⟩
        rw [HN.out]
        exact heap_alloc_new _ _
      have HBF : Hid (Below w.heap.size w (wc.alloc (.cells (dkRow n p N cap y (.slice none 0 0)) 219))) := below_next HBC.out (below_new _ _)
      clear HR HXB HYB HBB HAt1 HD7 HBC
      go_wp2_with (first | (with_reducible refine isLoadR 97 ?_; refine wpList_ldR 97 Tryz.underlying97 rfl rfl (.tmp 1) rfl w.heap.size rfl #[.int .i64 n, .slice p N cap] 97 (0, 0) (im_info _ _ _ _) hxc ?_) | (with_reducible refine isLoadR 61 ?_; refine wpList_ldR 61 Tryz.underlying61 rfl rfl (.tmp 4) rfl gy rfl (layRow y) 61 (0, 0) (lay_info _) hyc ?_) | (with_reducible refine isLoadR 169 ?_; refine wpList_ldR 169 Tryz.underlying169 rfl rfl (.tmp 6) rfl gh rfl hd0 169 (0, 0) hd_info hhc ?_) | (with_reducible refine isBuildR 219 ?_; refine wpList_buildDk rfl (.tmp 34) (.tmp 35) (.tmp 36) rfl n p N cap y rfl rfl rfl ?_))
      go_ret2
      exact ⟨_, rfl, HF.out, HBF.out⟩
end Go.Proofs.YtiejhjngcnkimaaGreatR
/- The page on which a disk's blocks are laid: in memory; its next data block taken, where that one is free. -/
namespace Go.Proofs.YtiejhjngcnkimaaGreatR
open Go.RowKit Go.Maps
def pgRow (y : Lay) (gl gu n : Nat) (turn next : Int) (full : Bool) : Array Value := #[.int .i64 y.b, .int .i64 y.l, .int .i64 y.i, .int .i64 y.logAt, .int .i64 y.nodeAt, .int .i64 y.nodeBlocks, .int .i64 y.bitsAt, .int .i64 y.bitsBlocks, .int .i64 y.dataAt, .slice (some ⟨gl, 0, none⟩) n n, .slice (some ⟨gu, 0, none⟩) n n, .int .i64 turn, .int .i64 next, .bool full]
def pgCells (F : Nat → Nat → Int) (n : Nat) : Array Value := rowN .u8 (fun i => F (i / 1024) (i % 1024)) (n * 1024)
structure PgAt (W : World) (gp gl gu n : Nat) (y : Lay) (F : Nat → Nat → Int) (U : Nat → Bool) (turn next : Int) : Prop where
  row : W.heap[gp]? = some (.cells (pgRow y gl gu n turn next false) 149)
  blks : W.heap[gl]? = some (.cells (pgCells F n) 85)
  used : W.heap[gu]? = some (.cells (rowB U n) 4)
  ne1 : gp ≠ gl
  ne2 : gp ≠ gu
  ne3 : gl ≠ gu
abbrev PgFr (gp gl gu : Nat) (W W' : World) : Prop := Fr (fun b => b = gp ∨ b = gl ∨ b = gu) W W'
theorem PgFr.trans' {gp gl gu : Nat} {a b c : World} (h : PgFr gp gl gu a b) (k : PgFr gp gl gu b c) : PgFr gp gl gu a c := Fr.trans h k fun _ _ q => q
section
variable {W : World} {gp gl gu n : Nat} {y : Lay} {F : Nat → Nat → Int} {U : Nat → Bool} {turn next : Int}
theorem PgAt.later {W' : World} (h : PgAt W gp gl gu n y F U turn next) (hb : Below W.heap.size W W') : PgAt W' gp gl gu n y F U turn next := ⟨heap_kept h.row hb, heap_kept h.blks hb, heap_kept h.used hb, h.ne1, h.ne2, h.ne3⟩
theorem PgAt.frame {W' : World} {T : Nat → Prop} (h : PgAt W gp gl gu n y F U turn next) (hf : Fr T W W') (h1 : ¬ T gp) (h2 : ¬ T gl) (h3 : ¬ T gu) : PgAt W' gp gl gu n y F U turn next := ⟨(hf.block _ (Array.getElem?_eq_some_iff.1 h.row).1 h1).trans h.row, (hf.block _ (Array.getElem?_eq_some_iff.1 h.blks).1 h2).trans h.blks, (hf.block _ (Array.getElem?_eq_some_iff.1 h.used).1 h3).trans h.used, h.ne1, h.ne2, h.ne3⟩
theorem PgAt.setNext (h : PgAt W gp gl gu n y F U turn next) (x : Int) : PgAt (W.setCell ⟨gp, 12, none⟩ (.int .i64 x)) gp gl gu n y F U turn x := by
  have hF := Fr.setCell W gp 12 (.int .i64 x)
  refine ⟨?_, (hF.block _ (Array.getElem?_eq_some_iff.1 h.blks).1 (fun q => h.ne1 q.symm)).trans h.blks, (hF.block _ (Array.getElem?_eq_some_iff.1 h.used).1 (fun q => h.ne2 q.symm)).trans h.used, h.ne1, h.ne2, h.ne3⟩
  rw [heap_setCell_same _ _ _ _ _ _ h.row]
  rfl
theorem PgAt.setUsed (h : PgAt W gp gl gu n y F U turn next) (k : Nat) : PgAt (W.setCell ⟨gu, k, none⟩ (.bool true)) gp gl gu n y F (updB U k true) turn next := by
  have hF := Fr.setCell W gu k (.bool true)
  exact ⟨(hF.block _ (Array.getElem?_eq_some_iff.1 h.row).1 h.ne2).trans h.row, (hF.block _ (Array.getElem?_eq_some_iff.1 h.blks).1 h.ne3).trans h.blks, setCell_rowB h.used k true, h.ne1, h.ne2, h.ne3⟩
end
set_option maxRecDepth 20000 in
set_option maxHeartbeats 4000000 in
theorem take_hit {W : World} {gp gl gu n : Nat} {y : Lay} {F : Nat → Nat → Int} {U : Nat → Bool} {turn : Int} {next da m : Nat} (h : PgAt W gp gl gu n y F U turn next) (hda : y.dataAt = da) (hm : n = da + m) (hnx : next < m) (hn : n ≤ 1048576) (ht : 0 ≤ turn ∧ turn ≤ 1048576) (hu : U (da + next) = false) :
    Calls Tryz.prog 201 #[.pointer (some ⟨gp, 0, none⟩)] W fun e w' => e = .returned (.int .i64 ((da + next : Nat) : Int)) ∧ PgAt w' gp gl gu n y F (updB U (da + next) true) turn (((next : Int) + turn) % (m : Int)) ∧ PgFr gp gl gu W w' := by
  have HP : Hid _ := h
  have c8 : W.cell? ⟨gp, 8, none⟩ = some (.int .i64 (da : Int)) := by rw [← hda]; exact Joins.cell_of_block h.row 8
  have c9 : W.cell? ⟨gp, 9, none⟩ = some (.slice (some ⟨gl, 0, none⟩) n n) := Joins.cell_of_block h.row 9
  have e1 : IntKind.i64.wrap ((n : Int) - (da : Int)) = (m : Int) := by rw [IntKind.wrap_i64]; omega
  have e1' : (n : Int) - (da : Int) = (m : Int) := by omega
  have HM : Hid (n = da + m) := hm
  have HDa : Hid (y.dataAt = (da : Int)) := hda
  clear h hm hda
  go_enter Tryz.func201, Tryz.ntmps201
  go_upto_region 1 with fail
  go_quiet (fail)
  have HPd : Hid (∀ q, PgAt (W.drewN q) gp gl gu n y F U turn next ∧ PgFr gp gl gu W (W.drewN q)) := fun q => ⟨HP.out.later (belowN (Below.refl _ _) q), Fr.ofBelow (belowN (Below.refl _ _) q)⟩
  clear c8 c9
  go_wp2
  go_loopw [4, 5] (fun s4 _ wx => s4 = .int .i64 0 ∧ Hid (PgAt wx gp gl gu n y F U turn next ∧ PgFr gp gl gu W wx)) (fun _ _ _ => 0)
  case atStart => exact ⟨rfl, HPd.out _⟩
  case round =>
    clear HPd HP
    obtain ⟨rfl, HP⟩ := hrel
    have hm0 : (0 : Int) < (m : Int) := by omega
    have hm := HM.out
    have c8 : wr.cell? ⟨gp, 8, none⟩ = some (.int .i64 (da : Int)) := by rw [← HDa.out]; exact Joins.cell_of_block HP.out.1.row 8
    have c12 : wr.cell? ⟨gp, 12, none⟩ = some (.int .i64 (next : Int)) := Joins.cell_of_block HP.out.1.row 12
    have e2 : IntKind.i64.wrap ((da : Int) + (next : Int)) = ((da + next : Nat) : Int) := by rw [IntKind.wrap_i64]; omega
    have e2' : (da : Int) + (next : Int) = ((da + next : Nat) : Int) := by omega
    have hlt : da + next < n := by omega
    have hmn : m ≤ 1048576 := by omega
    clear hm e1 e1'
    generalize hat : da + next = at' at *
    have HAt : Hid (da + next = at') := hat
    clear hat
    go_upto_region 5 with fail
    go_quiet (fail)
    clear c8 c12
    have HPd : Hid (∀ q, PgAt (wr.drewN q) gp gl gu n y F U turn next ∧ PgFr gp gl gu W (wr.drewN q)) := fun q => ⟨HP.out.1.later (belowN (Below.refl _ _) q), HP.out.2.trans' (Fr.ofBelow (belowN (Below.refl _ _) q))⟩
    go_upto_region 6 with fail
    obtain ⟨X0, hX0⟩ : ∃ X0, X0 = wr.drewN nq := ⟨_, rfl⟩
    rw [← hX0]
    have HPx : Hid (PgAt X0.drew gp gl gu n y F U turn next ∧ PgFr gp gl gu W X0.drew) := by
      have := HPd.out nq
      rw [← hX0] at this
      exact ⟨this.1.later (Below.refl _ _).drew, this.2.trans' (Fr.ofBelow (Below.refl _ _).drew)⟩
    clear hX0 HPd HP
    have c11 : X0.drew.cell? ⟨gp, 11, none⟩ = some (.int .i64 turn) := Joins.cell_of_block HPx.out.1.row 11
    have c12 : X0.drew.cell? ⟨gp, 12, none⟩ = some (.int .i64 (next : Int)) := Joins.cell_of_block HPx.out.1.row 12
    have f12 := frozen_row HPx.out.1.row 12
    have e3 : IntKind.i64.wrap ((next : Int) + turn) = (next : Int) + turn := by rw [IntKind.wrap_i64]; omega
    have e4 : ((next : Int) + turn).tmod (m : Int) = ((next : Int) + turn) % (m : Int) := Int.tmod_eq_emod_of_nonneg (by omega)
    have hmb : 0 ≤ ((next : Int) + turn) % (m : Int) ∧ ((next : Int) + turn) % (m : Int) < (m : Int) := ⟨Int.emod_nonneg _ (by omega), Int.emod_lt_of_pos _ hm0⟩
    have HP2 : Hid (PgAt (X0.drew.setCell ⟨gp, 12, none⟩ (.int .i64 (((next : Int) + turn) % (m : Int)))) gp gl gu n y F U turn (((next : Int) + turn) % (m : Int)) ∧ PgFr gp gl gu W (X0.drew.setCell ⟨gp, 12, none⟩ (.int .i64 (((next : Int) + turn) % (m : Int))))) := ⟨HPx.out.1.setNext _, HPx.out.2.trans' ((Fr.setCell _ _ _ _).mono fun _ _ q => .inl q)⟩
    have c11' : (X0.drew.setCell ⟨gp, 12, none⟩ (.int .i64 (((next : Int) + turn) % (m : Int)))).cell? ⟨gp, 11, none⟩ = some (.int .i64 turn) := Joins.cell_of_block HP2.out.1.row 11
    clear HPx
    generalize hnn : ((next : Int) + turn) % (m : Int) = nn at *
    have HNn : Hid (((next : Int) + turn) % (m : Int) = nn) := hnn
    clear hnn
    have e5 : IntKind.i64.wrap nn = nn := by rw [IntKind.wrap_i64]; omega
    have hmz : ((m : Int) == 0) = false := by simp; omega
    have hmz' : ¬ (m : Int) = 0 := by omega
    have hmz'' : ¬ m = 0 := by omega
    refine wp_region_ord (S := fun u => u.cell? ⟨gp, 11, none⟩ = some (.int .i64 turn)) [(0, true), (1, true), (2, true), (3, true), (5, true), (6, true), (7, true), (8, true), (10, true), (4, false), (9, true), (11, true), (12, true), (13, true), (14, false)] (by kernel_rfl) rfl (by kernel_rfl) (fun d _ _ _ _ h => by cases d <;> exact h) c11 ?_
    simp only [inOrd, List.getElem?_cons_zero, List.getElem?_cons_succ]
    refine wpOrd_yield (v := .pointer (some ⟨gp, 0, none⟩)) rfl (fun u _ => exec_mv rfl rfl) ?_
    simp only [Act.put, pA, pB, pC]
    refine wpOrd_yield (v := .pointer (some ⟨gp, 0, none⟩)) rfl (fun u _ => exec_mv rfl rfl) ?_
    simp only [Act.put, pA, pB, pC]
    refine wpOrd_yield (v := .pointer (some ⟨gp, 0, none⟩)) rfl (fun u _ => by go_simp) ?_
    simp only [Act.put, pA, pB, pC]
    refine wpOrd_yield (v := .pointer (some ⟨gp, 12, none⟩)) rfl (fun u _ => by go_simp) ?_
    simp only [Act.put, pA, pB, pC]
    refine wpOrd_yield (v := .pointer (some ⟨gp, 0, none⟩)) rfl (fun u _ => exec_mv rfl rfl) ?_
    simp only [Act.put, pA, pB, pC]
    refine wpOrd_yield (v := .pointer (some ⟨gp, 0, none⟩)) rfl (fun u _ => by go_simp) ?_
    simp only [Act.put, pA, pB, pC]
    refine wpOrd_yield (v := .pointer (some ⟨gp, 11, none⟩)) rfl (fun u _ => by go_simp) ?_
    simp only [Act.put, pA, pB, pC]
    refine wpOrd_yield (v := .int .i64 turn) rfl (fun u hu => by have := hu; go_simp) ?_
    simp only [Act.put, pA, pB, pC]
    refine wpOrd_yield (v := .int .i64 (m : Int)) rfl (fun u _ => exec_mv rfl rfl) ?_
    simp only [Act.put, pA, pB, pC]
    refine wpOrd_act (W' := X0.drew) (v := .int .i64 (next : Int)) rfl (by go_simp) c11 ?_
    simp only [Act.put, pA, pB, pC]
    refine wpOrd_yield (v := .int .i64 ((next : Int) + turn)) rfl (fun u _ => by go_simp) ?_
    simp only [Act.put, pA, pB, pC]
    refine wpOrd_yield (v := .int .i64 nn) rfl (fun u _ => by go_simp) ?_
    simp only [Act.put, pA, pB, pC]
    refine wpOrd_yield (v := .pointer (some ⟨gp, 0, none⟩)) rfl (fun u _ => by go_simp) ?_
    simp only [Act.put, pA, pB, pC]
    refine wpOrd_yield (v := .pointer (some ⟨gp, 12, none⟩)) rfl (fun u _ => by go_simp) ?_
    simp only [Act.put, pA, pB, pC]
    refine wpOrd_do rfl (exec_st3 rfl rfl rfl c12 f12) c11' ?_
    simp only [Act.put]
    refine wpOrd_nil ?_
    clear c11 c12 f12 c11' e3 e4
    generalize X0.drew.setCell ⟨gp, 12, none⟩ (.int .i64 nn) = X at *
    have c10 : X.cell? ⟨gp, 10, none⟩ = some (.slice (some ⟨gu, 0, none⟩) n n) := Joins.cell_of_block HP2.out.1.row 10
    have cu := cell_rowB (i := at') HP2.out.1.used hlt
    rw [hu] at cu
    have fu := frozen_row HP2.out.1.used at'
    have HP3 : Hid (PgAt (X.setCell ⟨gu, at', none⟩ (.bool true)) gp gl gu n y F (updB U (at') true) turn nn ∧ PgFr gp gl gu W (X.setCell ⟨gu, at', none⟩ (.bool true))) := ⟨HP2.out.1.setUsed _, HP2.out.2.trans' ((Fr.setCell _ _ _ _).mono fun _ _ q => .inr (.inr q))⟩
    clear HP2
    go_wp2
    go_ret
    rw [HAt.out, HNn.out]
    exact ⟨rfl, HP3.out.1, HP3.out.2⟩
end Go.Proofs.YtiejhjngcnkimaaGreatR
/- An inode's bytes, written; the document's own words. -/
namespace Go.Proofs.YtiejhjngcnkimaaGreatR
open Go.RowKit Go.Maps
def putP (f : Nat → Int) (at' n : Nat) (v : Int) : Nat → Int := fun j => if at' ≤ j ∧ j < at' + n then v / 256 ^ (j - at') % 256 else f j
theorem putP_zero (f : Nat → Int) (at' : Nat) (v : Int) : putP f at' 0 v = f := by funext j; unfold putP; rw [if_neg (by omega)]
theorem putP_step (f : Nat → Int) (at' k : Nat) (v : Int) : updN (putP f at' k v) (at' + k) (v / 256 ^ k % 256) = putP f at' (k + 1) v := by
  funext j
  unfold updN putP
  by_cases e : j = at' + k
  · rw [if_pos e, if_pos (by omega), e, show at' + k - at' = k by omega]
  · rw [if_neg e]
    by_cases h : at' ≤ j ∧ j < at' + k
    · rw [if_pos h, if_pos (by omega)]
    · rw [if_neg h, if_neg (by omega)]
theorem putP_byt {f : Nat → Int} (hf : ∀ i, 0 ≤ f i ∧ f i ≤ 255) (at' n : Nat) (v : Int) : ∀ i, 0 ≤ putP f at' n v i ∧ putP f at' n v i ≤ 255 := fun i => by
  unfold putP
  split
  · omega
  · exact hf i
structure PtS (w W : World) (f : Nat → Int) : Prop where
  row : W.heap[w.heap.size]? = some (.cells (rowN .u8 f 64) 180)
  res : W.heap[w.heap.size + 1]? = some (.cells (rowN .u8 nought 64) 180)
  bel : Below w.heap.size w W
theorem PtS.set {w W : World} {f : Nat → Int} (h : PtS w W f) (j : Nat) (x : Int) : PtS w (W.setCell ⟨w.heap.size, j, none⟩ (.int .u8 x)) (updN f j x) := by
  have hF := Fr.setCell W w.heap.size j (.int .u8 x)
  exact ⟨setCell_rowN h.row j x, (hF.block _ (Array.getElem?_eq_some_iff.1 h.res).1 (by omega)).trans h.res, h.bel.trans (hF.below (fun j q => by omega) h.bel.size)⟩
theorem r64_info (f : Nat → Int) : (Tryz.prog.info? 180).map (·.size) = some (rowN .u8 f 64).size := by rw [rowN_size]; exact size29
theorem r64_two (f g : Nat → Int) : (rowN .u8 f 64).size = (rowN .u8 g 64).size := by rw [rowN_size, rowN_size]
theorem wrap_u32 (n : Int) : IntKind.u32.wrap n = n % 4294967296 := by simp [IntKind.wrap, IntKind.bits, IntKind.signed]
set_option maxRecDepth 20000 in
set_option maxHeartbeats 4000000 in
theorem put10_any (f : Nat → Int) (at' n : Nat) (v : Int) (hn : n ≤ 4) (ha : at' + n ≤ 64) (hv : 0 ≤ v ∧ v < 4294967296) (w : World) :
    Calls Tryz.prog 204 #[.agg (rowN .u8 f 64), .int .i64 (at' : Int), .int .i64 (n : Int), .int .u32 v] w fun e w' => e = .returned (.agg (rowN .u8 (putP f at' n v) 64)) ∧ Below w.heap.size w w' := by
  have z := zero159
  obtain ⟨A, hA⟩ : ∃ A, A = (w.alloc (.cells (rowN .u8 f 64) 180)).alloc (.cells (rowN .u8 nought 64) 180) := ⟨_, rfl⟩
  have HP : Hid (PtS w A (putP f at' 0 v)) := by
    rw [putP_zero, hA]
    exact ⟨heap_kept (heap_alloc_new _ _) (below_new _ _), heap_two _ _ _, below_next (below_new _ _) (below_new _ _)⟩
  have HA : Hid (A = _) := hA
  clear hA
  go_enter Tryz.func204, Tryz.ntmps204
  go_wp2
  rw [← HA.out]
  clear HA
  go_loopw [3, 9] (fun s3 s9 wx => ∃ k : Nat, k ≤ n ∧ s9 = .int .i64 k ∧ s3 = .int .u32 (v / 256 ^ k) ∧ Hid (PtS w wx (putP f at' k v))) (fun _ s9 _ => n - (intOf s9).toNat)
  case atStart => exact ⟨0, by omega, rfl, by simp, HP.out⟩
  case round =>
    clear HP
    obtain ⟨k, hk, rfl, rfl, HP⟩ := hrel
    by_cases hk2 : (k : Int) < (n : Int)
    · have hq0 : 0 ≤ v / 256 ^ k := Int.ediv_nonneg hv.1 (Int.le_of_lt (Int.pow_pos (by decide)))
      have hq1 : v / 256 ^ k ≤ v := Int.ediv_le_self _ hv.1
      have HV : Hid (v / 256 ^ k / 256 = v / 256 ^ (k + 1)) := by
        show _ = _
        rw [Int.ediv_ediv_of_nonneg (Int.le_of_lt (Int.pow_pos (by decide))), Int.pow_succ]
      have cb := cell_rowN (i := at' + k) HP.out.row (by omega)
      have fb := frozen_row HP.out.row (at' + k)
      have HP2 : Hid _ := HP.out.set (at' + k) (v / 256 ^ k % 256)
      rw [putP_step] at HP2
      have e7 : IntKind.i64.wrap ((at' : Int) + (k : Int)) = ((at' + k : Nat) : Int) := by rw [IntKind.wrap_i64]; omega
      have e7' : (at' : Int) + (k : Int) = ((at' + k : Nat) : Int) := by omega
      have hm : at' + k < 64 := by omega
      have hkn : k < n := by omega
      generalize hq : v / 256 ^ k = q at *
      have e1 : q.tmod 256 = q % 256 := Int.tmod_eq_emod_of_nonneg hq0
      have e2 : IntKind.u32.wrap (q % 256) = q % 256 := by rw [wrap_u32]; omega
      have e3 : IntKind.u8.wrap (q % 256) = q % 256 := by rw [IntKind.wrap_u8]; omega
      have e4 : q.tdiv 256 = q / 256 := Int.tdiv_eq_ediv_of_nonneg hq0
      have e5 : IntKind.u32.wrap (q / 256) = q / 256 := by rw [wrap_u32]; omega
      clear HP hq
      generalize hmm : at' + k = m at *
      generalize putP f at' k v m = old at *
      go_wp2
      exact ⟨⟨k + 1, by omega, by go_num, by rw [HV.out], HP2.out⟩, by simp [intOf]; omega⟩
    · obtain rfl : k = n := by omega
      have hrow := HP.out.row
      have hres := HP.out.res
      have HB : Hid _ := HP.out.bel
      clear HP
      obtain ⟨fk, hfk⟩ : ∃ fk, putP f at' k v = fk := ⟨_, rfl⟩
      have HFk : Hid (putP f at' k v = fk) := hfk
      rw [hfk] at hrow
      clear hfk
      generalize v / 256 ^ k = q at *
      go_wp2_with (first | (with_reducible refine isLoadR 180 ?_; refine wpList_ldR 180 Tryz.underlying180 rfl rfl (.tmp 4) rfl w.heap.size rfl (rowN .u8 fk 64) 180 (0, 0) (r64_info _) hrow ?_) | (with_reducible refine isStoreR 180 ?_; refine wpList_stR 180 rfl (.tmp 8) (.tmp 24) rfl (w.heap.size + 1) (rowN .u8 fk 64) (rowN .u8 nought 64) 180 (r64_info _) (r64_two _ _) (rowN_one _ _ _) rfl rfl hres ?_))
      exact retR Tryz.underlying180 rfl rfl (w.heap.size + 1) _ 180 (r64_info _) rfl (setRow_heap _ _ _ _ _ _ hres) rfl ⟨by rw [HFk.out], HB.out.trans ((Fr.setRow wr (w.heap.size + 1) _).below (fun j q => by omega) HB.out.size)⟩
theorem size12 : (Tryz.prog.info? 246).map (·.size) = some 12 := by kernel_rfl
theorem zero12 : ∀ w, (zeroValue 246).run Tryz.prog w = .ok (.agg (rowN .u32 nought 12)) w := (zero_of_info (show (Tryz.prog.info? 246).map (fun i => (i.zero, i.size)) = some (some (.agg (rowN .u32 nought 12)), 12) by kernel_rfl)).1
theorem r12_info (f : Nat → Int) : (Tryz.prog.info? 246).map (·.size) = some (rowN .u32 f 12).size := by rw [rowN_size]; exact size12
theorem r12_two (f g : Nat → Int) : (rowN .u32 f 12).size = (rowN .u32 g 12).size := by rw [rowN_size, rowN_size]
theorem node_get (k l s b : Int) (d : Nat → Int) (i : Nat) (h : i < 12) : (node16 k l s b d)[4 + i]? = some (.int .u32 (d i)) := by
  rcases (show i = 0 ∨ i = 1 ∨ i = 2 ∨ i = 3 ∨ i = 4 ∨ i = 5 ∨ i = 6 ∨ i = 7 ∨ i = 8 ∨ i = 9 ∨ i = 10 ∨ i = 11 by omega) with rfl | rfl | rfl | rfl | rfl | rfl | rfl | rfl | rfl | rfl | rfl | rfl <;> rfl
structure NuS (w W : World) (N : Array Value) (f : Nat → Int) : Prop where
  nod : W.heap[w.heap.size]? = some (.cells N 45)
  res : W.heap[w.heap.size + 1]? = some (.cells (rowN .u32 nought 12) 246)
  row : W.heap[w.heap.size + 2]? = some (.cells (rowN .u32 f 12) 246)
  bel : Below w.heap.size w W
theorem NuS.set {w W : World} {N : Array Value} {f : Nat → Int} (h : NuS w W N f) (j : Nat) (x : Int) : NuS w (W.setCell ⟨w.heap.size + 2, j, none⟩ (.int .u32 x)) N (updN f j x) := by
  have hF := Fr.setCell W (w.heap.size + 2) j (.int .u32 x)
  exact ⟨(hF.block _ (Array.getElem?_eq_some_iff.1 h.nod).1 (by omega)).trans h.nod, (hF.block _ (Array.getElem?_eq_some_iff.1 h.res).1 (by omega)).trans h.res, setCell_rowN h.row j x, h.bel.trans (hF.below (fun j q => by omega) h.bel.size)⟩
set_option maxRecDepth 20000 in
set_option maxHeartbeats 4000000 in
theorem numbers10_any (k l s b : Int) (d : Nat → Int) (w : World) :
    Calls Tryz.prog 205 #[.agg (node16 k l s b d)] w fun e w' => e = .returned (.agg (rowN .u32 d 12)) ∧ Below w.heap.size w w' := by
  have z := zero12
  have HNg : Hid (∀ i, i < 12 → (node16 k l s b d)[4 + i]? = some (.int .u32 (d i))) := fun i h => node_get k l s b d i h
  generalize node16 k l s b d = N at *
  obtain ⟨A, hA⟩ : ∃ A, A = ((w.alloc (.cells N 45)).alloc (.cells (rowN .u32 nought 12) 246)).alloc (.cells (rowN .u32 nought 12) 246) := ⟨_, rfl⟩
  have HP : Hid (NuS w A N nought) := by
    rw [hA]
    refine ⟨heap_kept (heap_kept (heap_alloc_new _ _) (below_new _ _)) (below_new _ _), heap_kept (heap_two _ _ _) (below_new _ _), ?_, below_next (below_next (below_new _ _) (below_new _ _)) (below_new _ _)⟩
    have := heap_alloc_new ((w.alloc (.cells N 45)).alloc (.cells (rowN .u32 nought 12) 246)) (.cells (rowN .u32 nought 12) 246)
    simpa using this
  have HA : Hid (A = _) := hA
  clear hA
  go_enter Tryz.func205, Tryz.ntmps205
  go_wp2
  rw [← HA.out]
  clear HA
  go_loopw [4] (fun s4 wx => ∃ (i : Nat) (f : Nat → Int), i ≤ 10 ∧ s4 = .int .i64 i ∧ Hid (∀ q, q < i → f q = d q) ∧ Hid (NuS w wx N f)) (fun s4 _ => 10 - (intOf s4).toNat)
  case atStart => exact ⟨0, nought, by omega, rfl, fun q hq => absurd hq (by omega), HP.out⟩
  case round =>
    clear HP
    obtain ⟨i, f, hi, rfl, HF, HP⟩ := hrel
    by_cases hi2 : (i : Int) < 10
    · have cn : wr.cell? ⟨w.heap.size, 4 + i, none⟩ = some (.int .u32 (d i)) := (cell_of_row _ _ (4 + i) _ _ _ HP.out.nod).trans (HNg.out i (by omega))
      have cb := cell_rowN (i := i) HP.out.row (by omega)
      have fb := frozen_row HP.out.row i
      have HP2 : Hid _ := HP.out.set i (d i)
      have HF2 : Hid (∀ q, q < i + 1 → updN f i (d i) q = d q) := fun q hq => by
        unfold updN
        split
        · rename_i e; rw [e]
        · exact HF.out q (by omega)
      have hi3 : i < 10 := by omega
      have hi4 : i < 12 := by omega
      have hi5 : (i : Int) < 12 := by omega
      generalize d i = di at *
      generalize f i = old at *
      clear HF HP
      go_wp2
      exact ⟨⟨i + 1, _, by omega, by go_num, HF2.out, HP2.out⟩, by simp [intOf]; omega⟩
    · obtain rfl : i = 10 := by omega
      have c14 : wr.cell? ⟨w.heap.size, 14, none⟩ = some (.int .u32 (d 10)) := (cell_of_row _ _ 14 _ _ _ HP.out.nod).trans (HNg.out 10 (by omega))
      have cb := cell_rowN (i := 10) HP.out.row (by omega)
      have fb := frozen_row HP.out.row 10
      have HP2 : Hid _ := HP.out.set 10 (d 10)
      have HF2 : Hid (∀ q, q < 11 → updN f 10 (d 10) q = d q) := fun q hq => by
        unfold updN
        split
        · rename_i e; rw [e]
        · exact HF.out q (by omega)
      clear HP HF
      generalize f 10 = old at *
      generalize updN f 10 (d 10) = f2 at *
      go_upto_region 7 with fail
      generalize wr.setCell ⟨w.heap.size + 2, 10, none⟩ (.int .u32 (d 10)) = X at *
      clear c14 cb fb
      have c15 : X.cell? ⟨w.heap.size, 15, none⟩ = some (.int .u32 (d 11)) := (cell_of_row _ _ 15 _ _ _ HP2.out.nod).trans (HNg.out 11 (by omega))
      have cb := cell_rowN (i := 11) HP2.out.row (by omega)
      have fb := frozen_row HP2.out.row 11
      have HP3 : Hid _ := HP2.out.set 11 (d 11)
      have HE : Hid (rowN .u32 (updN f2 11 (d 11)) 12 = rowN .u32 d 12) := rowN_congr fun q hq => by
        unfold updN
        split
        · rename_i e; rw [e]
        · exact HF2.out q (by omega)
      clear HP2 HF2
      generalize f2 11 = old2 at *
      go_upto_region 8 with fail
      generalize X.setCell ⟨w.heap.size + 2, 11, none⟩ (.int .u32 (d 11)) = Y at *
      clear c15 cb fb
      have hrow := HP3.out.row
      rw [HE.out] at hrow
      have hres := HP3.out.res
      have HB : Hid _ := HP3.out.bel
      clear HP3 HE
      go_wp2_with (first | (with_reducible refine isLoadR 246 ?_; refine wpList_ldR 246 Tryz.underlying246 rfl rfl (.tmp 3) rfl (w.heap.size + 2) rfl (rowN .u32 d 12) 246 (0, 0) (r12_info _) hrow ?_) | (with_reducible refine isStoreR 246 ?_; refine wpList_stR 246 rfl (.tmp 2) (.tmp 21) rfl (w.heap.size + 1) (rowN .u32 d 12) (rowN .u32 nought 12) 246 (r12_info _) (r12_two _ _) (rowN_one _ _ _) rfl rfl hres ?_))
      exact retR Tryz.underlying246 rfl rfl (w.heap.size + 1) _ 246 (r12_info _) rfl (setRow_heap _ _ _ _ _ _ hres) rfl ⟨rfl, HB.out.trans ((Fr.setRow Y (w.heap.size + 1) _).below (fun j q => by omega) HB.out.size)⟩
end Go.Proofs.YtiejhjngcnkimaaGreatR
