/- Several texts joined, each with its own remark; no condition. -/
import Derived.Test.YtiadlcjdpbkbkaaGreatJ13
import Derived.Deep.Cut
import Derived.Deep.CutRange
import Derived.Test.YtiadlcjdpbkbkaaGreatJ12
import Derived.Test.YtiadlcjdpbkbkaaGreatJ5
import Derived.Test.YtiadlcjdpbkbkaaGreatJ4
/- Mkfs by the program: a block of the inodes' region; no condition but that the root's block's number fits in four bytes. -/
namespace Go.Proofs.YtiadlcjdpbkbkaaGreat
open Go.RowKit Go.Maps
/-- The layout, a row for the result, the inodes and a block beside them, made since w. -/
structure NdT (w W : World) (L : Array Value) (X : Nat → Int) : Prop where
  lay : W.heap[w.heap.size]? = some (.cells L 43)
  res : W.heap[w.heap.size + 1]? = some (.cells (blk nought) 47)
  row : W.heap[w.heap.size + 2]? = some (.cells (rowN .u8 X 1024) 168)
  bel : Below w.heap.size w W
structure NdS (w W : World) (L : Array Value) (X : Nat → Int) (gb : Nat) (Y : Nat → Int) : Prop where
  lay : W.heap[w.heap.size]? = some (.cells L 43)
  res : W.heap[w.heap.size + 1]? = some (.cells (blk nought) 47)
  row : W.heap[w.heap.size + 2]? = some (.cells (rowN .u8 X 1024) 168)
  far : w.heap.size + 2 < gb
  blk : W.heap[gb]? = some (.cells (blk Y) 47)
  bel : Below w.heap.size w W
section
variable {w W W' : World} {L : Array Value} {X Y : Nat → Int} {gb : Nat}
theorem NdT.later (h : NdT w W L X) (hb : Below W.heap.size W W') : NdT w W' L X := ⟨heap_kept h.lay hb, heap_kept h.res hb, heap_kept h.row hb, below_next h.bel hb⟩
theorem NdS.later (h : NdS w W L X gb Y) (hb : Below W.heap.size W W') : NdS w W' L X gb Y := ⟨heap_kept h.lay hb, heap_kept h.res hb, heap_kept h.row hb, h.far, heap_kept h.blk hb, below_next h.bel hb⟩
theorem NdT.blkNew (h : NdT w W L X) : NdS w (W.alloc (.cells (blk nought) 47)) L X W.heap.size nought := by
  have h2 := h.later (below_new W (.cells (blk nought) 47))
  exact ⟨h2.lay, h2.res, h2.row, (Array.getElem?_eq_some_iff.1 h.row).1, heap_alloc_new _ _, h2.bel⟩
theorem NdT.set (h : NdT w W L X) (E : Nat → Int) : NdT w (W.setRow (w.heap.size + 2) (rowN .u8 E 1024)) L E :=
  ⟨(setRow_other _ _ _ _ (by omega)).trans h.lay, (setRow_other _ _ _ _ (by omega)).trans h.res, setRow_heap _ _ _ _ _ _ h.row, below_setRow h.bel (by omega) _⟩
theorem NdS.set (h : NdS w W L X gb Y) (E : Nat → Int) : NdS w (W.setRow gb (rowN .u8 E 1024)) L X gb E := by
  have := h.far
  exact ⟨(setRow_other _ _ _ _ (by omega)).trans h.lay, (setRow_other _ _ _ _ (by omega)).trans h.res, (setRow_other _ _ _ _ (by omega)).trans h.row, h.far, setRow_heap _ _ _ _ _ _ h.blk, below_setRow h.bel (by omega) _⟩
end
theorem zeroL16 : ∀ w, (zeroValue 168).run Tryz.prog w = .ok (.agg (rowN .u8 nought 1024)) w := (zero_of_info (show (Tryz.prog.info? 168).map (fun i => (i.zero, i.size)) = some (some (.agg (rowN .u8 nought 1024)), 1024) by kernel_rfl)).1
theorem sizeBy64 : (Tryz.prog.info? 167).map (·.size) = some 64 := by kernel_rfl
/-- A block of the inodes' region, as mkfs writes it: the root in the first one. -/
def ndE (g : Int) : Nat → Int := YtiadlcjdpbkbkaaGreatK.encN 2 2 32 1 (rtD g) 12
def ndF (g : Int) (rt : Bool) : Nat → Int := if rt then YtiadlcjdpbkbkaaGreatN.over nought 64 64 (ndE g) else nought
theorem rt_ok {g : Int} (hg : 0 ≤ g ∧ g < 4294967296) : YtiadlcjdpbkbkaaGreatK.NodeOk 2 2 32 1 (rtD g) := ⟨by omega, by omega, by omega, by omega, fun i => by
  unfold rtD updN nought
  split <;> omega⟩
set_option maxRecDepth 20000 in
set_option maxHeartbeats 4000000 in
theorem nodes_ok (b l i a c d e f g k : Int) (w : World) (hg : 0 ≤ g ∧ g < 4294967296) (hc : -9223372036854775808 ≤ c ∧ c ≤ 9223372036854775807) :
    Calls Tryz.prog 85 #[.agg (YtiadlcjdpbkbkaaGreatP.lay9 b l i a c d e f g), .int .i64 k] w fun e' w' => e' = .returned (.agg (blk (ndF g (k == c)))) ∧ Below w.heap.size w w' := by
  have zb := zero77
  have zl := zeroL16
  have hrt := fun u => root_ok b l i a c d e f g u hg
  have hen : ∀ V : World, Calls Tryz.prog 102 #[.agg (rtN g)] V fun e w' => e = .returned (.agg (rowN .u8 (ndE g) 64)) ∧ Below V.heap.size V w' := fun V => YtiadlcjdpbkbkaaGreatK.encode_any 2 2 32 1 (rtD g) V (rt_ok hg)
  have HRt : Hid _ := hrt
  have HEn : Hid _ := hen
  clear hrt hen
  have hl : (YtiadlcjdpbkbkaaGreatP.lay9 b l i a c d e f g)[4]? = some (.int .i64 c) := rfl
  have hlL : (Tryz.prog.info? 43).map (·.size) = some (YtiadlcjdpbkbkaaGreatP.lay9 b l i a c d e f g).size := by kernel_rfl
  have HSl : Hid _ := hlL
  clear hlL
  generalize YtiadlcjdpbkbkaaGreatP.lay9 b l i a c d e f g = L at *
  generalize rtN g = N at *
  obtain ⟨A, hA⟩ : ∃ A, A = ((w.alloc (.cells L 43)).alloc (.cells (blk nought) 47)).alloc (.cells (rowN .u8 nought 1024) 168) := ⟨_, rfl⟩
  have hT : NdT w A L nought := by
    rw [hA]
    refine ⟨heap_kept (heap_kept (heap_alloc_new _ _) (below_new _ _)) (below_new _ _), heap_kept (heap_two _ _ _) (below_new _ _), ?_, below_next (below_next (below_new _ _) (below_new _ _)) (below_new _ _)⟩
    have := heap_two (w.alloc (.cells L 43)) (.cells (blk nought) 47) (.cells (rowN .u8 nought 1024) 168)
    rwa [show (w.alloc (.cells L 43)).heap.size + 1 = w.heap.size + 2 by simp] at this
  have HT : Hid _ := hT
  have c4 : A.cell? ⟨w.heap.size, 4, none⟩ = some (.int .i64 c) := (cell_of_row _ _ 4 _ _ _ hT.lay).trans hl
  have e0 : IntKind.i64.wrap c = c := by rw [IntKind.wrap_i64]; omega
  have HA : Hid (A = _) := hA
  clear hA hT hl
  by_cases hk : k = c
  · subst hk
    have hkk : (k == k) = true := by simp
    rw [hkk]
    have HX : Hid (ndF g true = YtiadlcjdpbkbkaaGreatN.over nought 64 64 (ndE g)) := rfl
    go_enter Tryz.func85, Tryz.ntmps85
    go_upto_region 2 with fail
    rw [← HA.out]
    clear HA
    go_wp2_with (first | (with_reducible refine isLoadR 43 ?_; refine wpList_ldR 43 Tryz.underlying43 rfl rfl _ rfl w.heap.size rfl L 43 (0, 0) HSl.out HT.out.lay ?_) | (go_at_call 103; fail))
    refine (HRt.out _).mono ?_
    rintro e' W1 ⟨rfl, hb1⟩
    have HT1 : Hid _ := HT.out.later hb1
    clear HT hb1
    go_wp2_with (go_at_call 102; fail)
    refine (HEn.out _).mono ?_
    rintro e' W2 ⟨rfl, hb2⟩
    have HT2 : Hid _ := HT1.out.later hb2
    clear HT1 hb2 c4
    go_upto_region 4 with (first | (with_reducible refine isStoreR 167 ?_; refine wpList_stMid 167 rfl _ _ rfl (w.heap.size + 2) 64 64 1024 nought (ndE g) 168 sizeBy64 rfl rfl HT2.out.row (by omega) ?_))
    have HV : Hid (NdT w (W2.setRow (w.heap.size + 2) (rowN .u8 (YtiadlcjdpbkbkaaGreatN.over nought 64 64 (ndE g)) 1024)) L (YtiadlcjdpbkbkaaGreatN.over nought 64 64 (ndE g))) := HT2.out.set _
    clear HT2
    generalize YtiadlcjdpbkbkaaGreatN.over nought 64 64 (ndE g) = X at *
    generalize W2.setRow (w.heap.size + 2) (rowN .u8 X 1024) = V at *
    clear HRt HEn
    go_wp2_with fail
    have HS : Hid (NdS w (V.alloc (.cells (blk nought) 47)) L X V.heap.size nought) := HV.out.blkNew
    clear HV
    generalize V.alloc (.cells (blk nought) 47) = V1 at *
    generalize V.heap.size = gb at *
    go_loopw [17] (fun s17 wx => ∃ m : Nat, m ≤ 16 ∧ s17 = .int .i64 m ∧ Hid (NdS w wx L X gb (uptoF X (64 * m)))) (fun s17 _ => 16 - (intOf s17).toNat)
    case atStart =>
      refine ⟨0, by omega, rfl, ?_⟩
      rw [show 64 * 0 = 0 from rfl, upto_zero]
      exact HS.out
    case round =>
      obtain ⟨m, hm, rfl, HM⟩ := hrel
      clear HS
      by_cases hm2 : (m : Int) < 16
      · have hm3 : m < 16 := by omega
        go_wp2_with fail
        have HB : Hid (NdS w wr.drew L X gb (uptoF X (64 * m))) := HM.out.later (Below.refl _ _).drew
        clear HM
        have e1 : IntKind.i64.wrap ((m : Int) * 64) = ((64 * m : Nat) : Int) := by rw [IntKind.wrap_i64]; omega
        have HQ : Hid (64 * m + 64 = 64 * (m + 1) ∧ 64 * m < 1024 ∧ 64 * m + 64 ≤ 1024) := ⟨by omega, by omega, by omega⟩
        have HG : Hid (NdS w (wr.drew.setRow gb (rowN .u8 (YtiadlcjdpbkbkaaGreatN.over (uptoF X (64 * m)) (64 * m) 64 fun j => X (64 * m + j)) 1024)) L X gb (uptoF X (64 * (m + 1)))) := by
          have := HB.out.set (YtiadlcjdpbkbkaaGreatN.over (uptoF X (64 * m)) (64 * m) 64 fun j => X (64 * m + j))
          rw [← HQ.out.1, ← upto_over]
          exact this
        refine wp_region_ord (S := fun _ => True) [(0, true), (1, true), (2, true), (3, true), (4, true), (5, true), (6, false)] (by kernel_rfl) rfl (by kernel_rfl) (fun d _ _ _ _ h => by cases d <;> exact h) trivial ?_
        simp only [inOrd, List.getElem?_cons_zero, List.getElem?_cons_succ]
        generalize wr.drew = U at *
        refine wpOrd_yield (v := .int .i64 (m : Int)) rfl (fun u _ => by go_simp) ?_
        simp only [Act.put, List.setIfInBounds_toArray, List.set_cons_succ, List.set_cons_zero]
        refine wpOrd_yield (v := .int .i64 ((64 * m : Nat) : Int)) rfl (fun u _ => by go_simp) ?_
        simp only [Act.put, List.setIfInBounds_toArray, List.set_cons_succ, List.set_cons_zero]
        refine wpOrd_yield (v := .slice (some ⟨gb, 0 + 64 * m, none⟩) (1024 - 64 * m) (1024 - 64 * m)) rfl (fun u _ => exec_slB rfl rfl rfl HQ.out.2.1) ?_
        simp only [Act.put, List.setIfInBounds_toArray, List.set_cons_succ, List.set_cons_zero]
        refine wpOrd_yield (v := .int .i64 (m : Int)) rfl (fun u _ => by go_simp) ?_
        simp only [Act.put, List.setIfInBounds_toArray, List.set_cons_succ, List.set_cons_zero]
        refine wpOrd_yield (v := .pointer (some ⟨w.heap.size + 2, 64 * m, none⟩)) rfl (fun u _ => by have hc := Nat.mul_comm m 64; go_simp) ?_
        simp only [Act.put, List.setIfInBounds_toArray, List.set_cons_succ, List.set_cons_zero]
        refine wpOrd_yield (v := .slice (some ⟨w.heap.size + 2, 64 * m, none⟩) 64 64) rfl (fun u _ => exec_slY rfl rfl) ?_
        simp only [Act.put, List.setIfInBounds_toArray, List.set_cons_succ, List.set_cons_zero]
        refine wpOrd_actM rfl (exec_copyB rfl gb (0 + 64 * m) (1024 - 64 * m) (1024 - 64 * m) (w.heap.size + 2) (64 * m) 64 64 rfl rfl (uptoF X (64 * m)) 1024 47 HB.out.blk (fun j => X (64 * m + j)) 64 (by have := HQ.out; exact (Nat.min_eq_left (show 64 ≤ 1024 - 64 * m by omega)).symm) (fun j hj => cell_rowN HB.out.row (by have := HQ.out; omega)) (by have := HQ.out; omega)) trivial ?_
        simp only [Act.put, List.setIfInBounds_toArray, List.set_cons_succ, List.set_cons_zero]
        refine wpOrd_nil ?_
        rw [Nat.zero_add]
        generalize U.setRow gb (rowN .u8 (YtiadlcjdpbkbkaaGreatN.over (uptoF X (64 * m)) (64 * m) 64 fun j => X (64 * m + j)) 1024) = U2 at *
        clear HB e1 HQ
        go_wp2_with fail
        exact ⟨⟨m + 1, by omega, by go_num, HG.out⟩, by simp [intOf]; omega⟩
      · obtain rfl : m = 16 := by omega
        have hb := HM.out.blk
        rw [show blk (uptoF X (64 * 16)) = blk X from upto_row X 1024] at hb
        have hr := HM.out.res
        have HBe : Hid _ := HM.out.bel
        clear HM
        go_wp2_with (first | (with_reducible refine isLoadR 47 ?_; refine wpList_ldB rfl _ rfl gb 0 X rfl (blk_at hb) ?_) | (with_reducible refine isStoreR 47 ?_; refine wpList_stB rfl _ _ rfl (w.heap.size + 1) X nought 47 rfl rfl hr ?_))
        exact retB rfl (w.heap.size + 1) X 47 rfl (setRow_heap _ _ _ _ _ _ hr) rfl ⟨by rw [HX.out], below_setRow HBe.out (by omega) _⟩
  · have hkk : (k == c) = false := by simp [hk]
    rw [hkk]
    have HX : Hid (ndF g false = nought) := rfl
    go_enter Tryz.func85, Tryz.ntmps85
    go_upto_region 2 with fail
    rw [← HA.out]
    clear HA
    go_upto_region 4 with fail
    have HV : Hid _ := HT.out
    clear HT c4
    obtain ⟨X, hX⟩ : ∃ X : Nat → Int, nought = X := ⟨_, rfl⟩
    have HV2 : Hid (NdT w A L X) := hX ▸ HV.out
    rw [hX] at HX
    clear HV hX
    have HV : Hid _ := HV2.out
    clear HV2
    generalize A = V at *
    clear HRt HEn
    go_wp2_with fail
    have HS : Hid (NdS w (V.alloc (.cells (blk nought) 47)) L X V.heap.size nought) := HV.out.blkNew
    clear HV
    generalize V.alloc (.cells (blk nought) 47) = V1 at *
    generalize V.heap.size = gb at *
    go_loopw [17] (fun s17 wx => ∃ m : Nat, m ≤ 16 ∧ s17 = .int .i64 m ∧ Hid (NdS w wx L X gb (uptoF X (64 * m)))) (fun s17 _ => 16 - (intOf s17).toNat)
    case atStart =>
      refine ⟨0, by omega, rfl, ?_⟩
      rw [show 64 * 0 = 0 from rfl, upto_zero]
      exact HS.out
    case round =>
      obtain ⟨m, hm, rfl, HM⟩ := hrel
      clear HS
      by_cases hm2 : (m : Int) < 16
      · have hm3 : m < 16 := by omega
        go_wp2_with fail
        have HB : Hid (NdS w wr.drew L X gb (uptoF X (64 * m))) := HM.out.later (Below.refl _ _).drew
        clear HM
        have e1 : IntKind.i64.wrap ((m : Int) * 64) = ((64 * m : Nat) : Int) := by rw [IntKind.wrap_i64]; omega
        have HQ : Hid (64 * m + 64 = 64 * (m + 1) ∧ 64 * m < 1024 ∧ 64 * m + 64 ≤ 1024) := ⟨by omega, by omega, by omega⟩
        have HG : Hid (NdS w (wr.drew.setRow gb (rowN .u8 (YtiadlcjdpbkbkaaGreatN.over (uptoF X (64 * m)) (64 * m) 64 fun j => X (64 * m + j)) 1024)) L X gb (uptoF X (64 * (m + 1)))) := by
          have := HB.out.set (YtiadlcjdpbkbkaaGreatN.over (uptoF X (64 * m)) (64 * m) 64 fun j => X (64 * m + j))
          rw [← HQ.out.1, ← upto_over]
          exact this
        refine wp_region_ord (S := fun _ => True) [(0, true), (1, true), (2, true), (3, true), (4, true), (5, true), (6, false)] (by kernel_rfl) rfl (by kernel_rfl) (fun d _ _ _ _ h => by cases d <;> exact h) trivial ?_
        simp only [inOrd, List.getElem?_cons_zero, List.getElem?_cons_succ]
        generalize wr.drew = U at *
        refine wpOrd_yield (v := .int .i64 (m : Int)) rfl (fun u _ => by go_simp) ?_
        simp only [Act.put, List.setIfInBounds_toArray, List.set_cons_succ, List.set_cons_zero]
        refine wpOrd_yield (v := .int .i64 ((64 * m : Nat) : Int)) rfl (fun u _ => by go_simp) ?_
        simp only [Act.put, List.setIfInBounds_toArray, List.set_cons_succ, List.set_cons_zero]
        refine wpOrd_yield (v := .slice (some ⟨gb, 0 + 64 * m, none⟩) (1024 - 64 * m) (1024 - 64 * m)) rfl (fun u _ => exec_slB rfl rfl rfl HQ.out.2.1) ?_
        simp only [Act.put, List.setIfInBounds_toArray, List.set_cons_succ, List.set_cons_zero]
        refine wpOrd_yield (v := .int .i64 (m : Int)) rfl (fun u _ => by go_simp) ?_
        simp only [Act.put, List.setIfInBounds_toArray, List.set_cons_succ, List.set_cons_zero]
        refine wpOrd_yield (v := .pointer (some ⟨w.heap.size + 2, 64 * m, none⟩)) rfl (fun u _ => by have hc := Nat.mul_comm m 64; go_simp) ?_
        simp only [Act.put, List.setIfInBounds_toArray, List.set_cons_succ, List.set_cons_zero]
        refine wpOrd_yield (v := .slice (some ⟨w.heap.size + 2, 64 * m, none⟩) 64 64) rfl (fun u _ => exec_slY rfl rfl) ?_
        simp only [Act.put, List.setIfInBounds_toArray, List.set_cons_succ, List.set_cons_zero]
        refine wpOrd_actM rfl (exec_copyB rfl gb (0 + 64 * m) (1024 - 64 * m) (1024 - 64 * m) (w.heap.size + 2) (64 * m) 64 64 rfl rfl (uptoF X (64 * m)) 1024 47 HB.out.blk (fun j => X (64 * m + j)) 64 (by have := HQ.out; exact (Nat.min_eq_left (show 64 ≤ 1024 - 64 * m by omega)).symm) (fun j hj => cell_rowN HB.out.row (by have := HQ.out; omega)) (by have := HQ.out; omega)) trivial ?_
        simp only [Act.put, List.setIfInBounds_toArray, List.set_cons_succ, List.set_cons_zero]
        refine wpOrd_nil ?_
        rw [Nat.zero_add]
        generalize U.setRow gb (rowN .u8 (YtiadlcjdpbkbkaaGreatN.over (uptoF X (64 * m)) (64 * m) 64 fun j => X (64 * m + j)) 1024) = U2 at *
        clear HB e1 HQ
        go_wp2_with fail
        exact ⟨⟨m + 1, by omega, by go_num, HG.out⟩, by simp [intOf]; omega⟩
      · obtain rfl : m = 16 := by omega
        have hb := HM.out.blk
        rw [show blk (uptoF X (64 * 16)) = blk X from upto_row X 1024] at hb
        have hr := HM.out.res
        have HBe : Hid _ := HM.out.bel
        clear HM
        go_wp2_with (first | (with_reducible refine isLoadR 47 ?_; refine wpList_ldB rfl _ rfl gb 0 X rfl (blk_at hb) ?_) | (with_reducible refine isStoreR 47 ?_; refine wpList_stB rfl _ _ rfl (w.heap.size + 1) X nought 47 rfl rfl hr ?_))
        exact retB rfl (w.heap.size + 1) X 47 rfl (setRow_heap _ _ _ _ _ _ hr) rfl ⟨by rw [HX.out], below_setRow HBe.out (by omega) _⟩
end Go.Proofs.YtiadlcjdpbkbkaaGreat
/- Mkfs by the program: the root's block; no condition. -/
namespace Go.Proofs.YtiadlcjdpbkbkaaGreat
open Go.RowKit Go.Maps
def dotS : ByteArray := ⟨#[46]⟩
def dotdotS : ByteArray := ⟨#[46, 46]⟩
/-- The root's block with its first entries. -/
def slK : Nat → Nat → Int
  | 0 => nought
  | 1 => YtiadlcjdpbkbkaaGreatN.over nought 0 16 (encF 1 dotS)
  | _ => YtiadlcjdpbkbkaaGreatN.over (YtiadlcjdpbkbkaaGreatN.over nought 0 16 (encF 1 dotS)) 16 16 (encF 1 dotdotS)
def slF : Nat → Int := slK 2
theorem slK_zero : slK 0 = nought := rfl
theorem slK_one : slK 1 = YtiadlcjdpbkbkaaGreatN.over nought 0 16 (encF 1 dotS) := rfl
theorem slK_two : slK 2 = YtiadlcjdpbkbkaaGreatN.over (slK 1) 16 16 (encF 1 dotdotS) := rfl
/-- A row for the result and the entries beside it, made since w. -/
structure SlT (w W : World) (X : Nat → Int) : Prop where
  res : W.heap[w.heap.size]? = some (.cells (blk nought) 47)
  row : W.heap[w.heap.size + 1]? = some (.cells (rowN .u8 X 1024) 173)
  bel : Below w.heap.size w W
structure SlS (w W : World) (X : Nat → Int) (gb : Nat) (Y : Nat → Int) : Prop where
  res : W.heap[w.heap.size]? = some (.cells (blk nought) 47)
  row : W.heap[w.heap.size + 1]? = some (.cells (rowN .u8 X 1024) 173)
  far : w.heap.size + 1 < gb
  blk : W.heap[gb]? = some (.cells (blk Y) 47)
  bel : Below w.heap.size w W
section
variable {w W W' : World} {X Y : Nat → Int} {gb : Nat}
theorem SlT.later (h : SlT w W X) (hb : Below W.heap.size W W') : SlT w W' X := ⟨heap_kept h.res hb, heap_kept h.row hb, below_next h.bel hb⟩
theorem SlS.later (h : SlS w W X gb Y) (hb : Below W.heap.size W W') : SlS w W' X gb Y := ⟨heap_kept h.res hb, heap_kept h.row hb, h.far, heap_kept h.blk hb, below_next h.bel hb⟩
theorem SlT.blkNew (h : SlT w W X) : SlS w (W.alloc (.cells (blk nought) 47)) X W.heap.size nought := by
  have h2 := h.later (below_new W (.cells (blk nought) 47))
  exact ⟨h2.res, h2.row, (Array.getElem?_eq_some_iff.1 h.row).1, heap_alloc_new _ _, h2.bel⟩
theorem SlT.set (h : SlT w W X) (E : Nat → Int) : SlT w (W.setRow (w.heap.size + 1) (rowN .u8 E 1024)) E :=
  ⟨(setRow_other _ _ _ _ (by omega)).trans h.res, setRow_heap _ _ _ _ _ _ h.row, below_setRow h.bel (by omega) _⟩
theorem SlS.set (h : SlS w W X gb Y) (E : Nat → Int) : SlS w (W.setRow gb (rowN .u8 E 1024)) X gb E := by
  have := h.far
  exact ⟨(setRow_other _ _ _ _ (by omega)).trans h.res, (setRow_other _ _ _ _ (by omega)).trans h.row, h.far, setRow_heap _ _ _ _ _ _ h.blk, below_setRow h.bel (by omega) _⟩
end
theorem zeroL64 : ∀ w, (zeroValue 173).run Tryz.prog w = .ok (.agg (rowN .u8 nought 1024)) w := (zero_of_info (show (Tryz.prog.info? 173).map (fun i => (i.zero, i.size)) = some (some (.agg (rowN .u8 nought 1024)), 1024) by kernel_rfl)).1
theorem sizeBy16 : (Tryz.prog.info? 172).map (·.size) = some 16 := by kernel_rfl
theorem idx2a (u : World) : (Instr.index 174 (.agg #[.string ⟨#[46]⟩, .string ⟨#[46, 46]⟩]) (.int .i64 0)).run Tryz.prog u = .ok (.string ⟨#[46]⟩) u := by
  simp [Instr.index, run_underlying Tryz.underlying174, asIntOf, part, Tryz.isAgg9, go_sem]
theorem idx2b (u : World) : (Instr.index 174 (.agg #[.string ⟨#[46]⟩, .string ⟨#[46, 46]⟩]) (.int .i64 1)).run Tryz.prog u = .ok (.string ⟨#[46, 46]⟩) u := by
  simp [Instr.index, run_underlying Tryz.underlying174, asIntOf, part, Tryz.isAgg9, go_sem]
set_option maxRecDepth 20000 in
set_option maxHeartbeats 4000000 in
theorem slots_ok (w : World) : Calls Tryz.prog 87 #[] w fun e w' => e = .returned (.agg (blk slF)) ∧ Below w.heap.size w w' := by
  have zb := zero77
  have zl := zeroL64
  have hi0 := idx2a
  have hi1 := idx2b
  have he0 : ∀ V : World, Calls Tryz.prog 104 #[.agg #[.int .u16 1, .string ⟨#[46]⟩]] V fun e w' => e = .returned (.tuple #[.agg (rowN .u8 (encF 1 dotS) 16), .int .i64 (chV 1 dotS)]) ∧ Below V.heap.size V w' := fun V => enc_any V 1 (by omega) dotS (by decide)
  have he1 : ∀ V : World, Calls Tryz.prog 104 #[.agg #[.int .u16 1, .string ⟨#[46, 46]⟩]] V fun e w' => e = .returned (.tuple #[.agg (rowN .u8 (encF 1 dotdotS) 16), .int .i64 (chV 1 dotdotS)]) ∧ Below V.heap.size V w' := fun V => enc_any V 1 (by omega) dotdotS (by decide)
  have HE0 : Hid _ := he0
  have HE1 : Hid _ := he1
  clear he0 he1
  have HK0 : Hid _ := slK_zero
  have HK1 : Hid _ := slK_one
  have HK2 : Hid _ := slK_two
  have HX : Hid (slF = slK 2) := rfl
  generalize slF = F at *
  generalize encF 1 dotS = E0 at *
  generalize encF 1 dotdotS = E1 at *
  generalize chV 1 dotS = q0 at *
  generalize chV 1 dotdotS = q1 at *
  generalize slK = K at *
  obtain ⟨A, hA⟩ : ∃ A, A = (w.alloc (.cells (blk nought) 47)).alloc (.cells (rowN .u8 nought 1024) 173) := ⟨_, rfl⟩
  have hT : SlT w A (K 0) := by
    rw [hA, HK0.out]
    exact ⟨heap_kept (heap_alloc_new _ _) (below_new _ _), heap_two _ _ _, below_next (below_new _ _) (below_new _ _)⟩
  have HT : Hid _ := hT
  have HA : Hid (A = _) := hA
  clear hA hT
  go_enter Tryz.func87, Tryz.ntmps87
  go_upto_region 3 with fail
  rw [← HA.out]
  clear HA
  go_loopw [7] (fun s7 wx => ∃ m : Nat, m ≤ 2 ∧ s7 = .int .i64 m ∧ Hid (SlT w wx (K m))) (fun s7 _ => 2 - (intOf s7).toNat)
  case atStart => exact ⟨0, by omega, rfl, HT.out⟩
  case round =>
    obtain ⟨m, hm, rfl, HM⟩ := hrel
    clear HT
    by_cases h0 : m = 0
    · subst h0
      go_wp2_with (go_at_call 104; fail)
      refine (HE0.out _).mono ?_
      rintro e W1 ⟨rfl, hb1⟩
      have HM1 : Hid _ := HM.out.later hb1
      clear hb1 HM
      have HM2 : Hid (SlT w (W1.setRow (w.heap.size + 1) (rowN .u8 (YtiadlcjdpbkbkaaGreatN.over (K 0) 0 16 E0) 1024)) (K 1)) := by
        rw [HK1.out, ← HK0.out]
        exact HM1.out.set _
      go_wp2_with (first | (with_reducible refine isStoreR 172 ?_; refine wpList_stMid 172 rfl _ _ rfl (w.heap.size + 1) 0 16 1024 (K 0) E0 173 sizeBy16 rfl rfl HM1.out.row (by omega) ?_))
      exact ⟨⟨1, by omega, by go_num, HM2.out⟩, by simp [intOf]⟩
    by_cases h1 : m = 1
    · subst h1
      go_wp2_with (go_at_call 104; fail)
      refine (HE1.out _).mono ?_
      rintro e W1 ⟨rfl, hb1⟩
      have HM1 : Hid _ := HM.out.later hb1
      clear hb1 HM
      have HM2 : Hid (SlT w (W1.setRow (w.heap.size + 1) (rowN .u8 (YtiadlcjdpbkbkaaGreatN.over (K 1) 16 16 E1) 1024)) (K 2)) := by
        rw [HK2.out]
        exact HM1.out.set _
      go_wp2_with (first | (with_reducible refine isStoreR 172 ?_; refine wpList_stMid 172 rfl _ _ rfl (w.heap.size + 1) 16 16 1024 (K 1) E1 173 sizeBy16 rfl rfl HM1.out.row (by omega) ?_))
      exact ⟨⟨2, by omega, by go_num, HM2.out⟩, by simp [intOf]⟩
    obtain rfl : m = 2 := by omega
    have HV : Hid _ := HM.out
    rw [← HX.out] at HV
    clear HM HE0 HE1 HK0 HK1 HK2 HX
    go_upto_region 9 with fail
    have HS : Hid (SlS w (wr.alloc (.cells (blk nought) 47)) F wr.heap.size nought) := HV.out.blkNew
    clear HV
    generalize wr.alloc (.cells (blk nought) 47) = V1 at *
    generalize wr.heap.size = gb at *
    go_loopw [20] (fun s20 wx => ∃ m : Nat, m ≤ 64 ∧ s20 = .int .i64 m ∧ Hid (SlS w wx F gb (uptoF F (16 * m)))) (fun s20 _ => 64 - (intOf s20).toNat)
    case atStart =>
      refine ⟨0, by omega, rfl, ?_⟩
      rw [show 16 * 0 = 0 from rfl, upto_zero]
      exact HS.out
    case round =>
      obtain ⟨m, hm, rfl, HM⟩ := hrel
      clear HS
      by_cases hm2 : (m : Int) < 64
      · have hm3 : m < 64 := by omega
        go_wp2_with fail
        have HB : Hid (SlS w wr.drew F gb (uptoF F (16 * m))) := HM.out.later (Below.refl _ _).drew
        clear HM
        have e1 : IntKind.i64.wrap ((m : Int) * 16) = ((16 * m : Nat) : Int) := by rw [IntKind.wrap_i64]; omega
        have HQ : Hid (16 * m + 16 = 16 * (m + 1) ∧ 16 * m < 1024 ∧ 16 * m + 16 ≤ 1024) := ⟨by omega, by omega, by omega⟩
        have HG : Hid (SlS w (wr.drew.setRow gb (rowN .u8 (YtiadlcjdpbkbkaaGreatN.over (uptoF F (16 * m)) (16 * m) 16 fun j => F (16 * m + j)) 1024)) F gb (uptoF F (16 * (m + 1)))) := by
          have := HB.out.set (YtiadlcjdpbkbkaaGreatN.over (uptoF F (16 * m)) (16 * m) 16 fun j => F (16 * m + j))
          rw [← HQ.out.1, ← upto_over]
          exact this
        refine wp_region_ord (S := fun _ => True) [(0, true), (1, true), (2, true), (3, true), (4, true), (5, true), (6, false)] (by kernel_rfl) rfl (by kernel_rfl) (fun d _ _ _ _ h => by cases d <;> exact h) trivial ?_
        simp only [inOrd, List.getElem?_cons_zero, List.getElem?_cons_succ]
        generalize wr.drew = U at *
        refine wpOrd_yield (v := .int .i64 (m : Int)) rfl (fun u _ => by go_simp) ?_
        simp only [Act.put, List.setIfInBounds_toArray, List.set_cons_succ, List.set_cons_zero]
        refine wpOrd_yield (v := .int .i64 ((16 * m : Nat) : Int)) rfl (fun u _ => by go_simp) ?_
        simp only [Act.put, List.setIfInBounds_toArray, List.set_cons_succ, List.set_cons_zero]
        refine wpOrd_yield (v := .slice (some ⟨gb, 0 + 16 * m, none⟩) (1024 - 16 * m) (1024 - 16 * m)) rfl (fun u _ => exec_slB rfl rfl rfl HQ.out.2.1) ?_
        simp only [Act.put, List.setIfInBounds_toArray, List.set_cons_succ, List.set_cons_zero]
        refine wpOrd_yield (v := .int .i64 (m : Int)) rfl (fun u _ => by go_simp) ?_
        simp only [Act.put, List.setIfInBounds_toArray, List.set_cons_succ, List.set_cons_zero]
        refine wpOrd_yield (v := .pointer (some ⟨w.heap.size + 1, 16 * m, none⟩)) rfl (fun u _ => by have hc := Nat.mul_comm m 16; go_simp) ?_
        simp only [Act.put, List.setIfInBounds_toArray, List.set_cons_succ, List.set_cons_zero]
        refine wpOrd_yield (v := .slice (some ⟨w.heap.size + 1, 16 * m, none⟩) 16 16) rfl (fun u _ => exec_slE rfl rfl) ?_
        simp only [Act.put, List.setIfInBounds_toArray, List.set_cons_succ, List.set_cons_zero]
        refine wpOrd_actM rfl (exec_copyB rfl gb (0 + 16 * m) (1024 - 16 * m) (1024 - 16 * m) (w.heap.size + 1) (16 * m) 16 16 rfl rfl (uptoF F (16 * m)) 1024 47 HB.out.blk (fun j => F (16 * m + j)) 16 (by have := HQ.out; exact (Nat.min_eq_left (show 16 ≤ 1024 - 16 * m by omega)).symm) (fun j hj => cell_rowN HB.out.row (by have := HQ.out; omega)) (by have := HQ.out; omega)) trivial ?_
        simp only [Act.put, List.setIfInBounds_toArray, List.set_cons_succ, List.set_cons_zero]
        refine wpOrd_nil ?_
        rw [Nat.zero_add]
        generalize U.setRow gb (rowN .u8 (YtiadlcjdpbkbkaaGreatN.over (uptoF F (16 * m)) (16 * m) 16 fun j => F (16 * m + j)) 1024) = U2 at *
        clear HB e1 HQ
        go_wp2_with fail
        exact ⟨⟨m + 1, by omega, by go_num, HG.out⟩, by simp [intOf]; omega⟩
      · obtain rfl : m = 64 := by omega
        have hb := HM.out.blk
        rw [show blk (uptoF F (16 * 64)) = blk F from upto_row F 1024] at hb
        have hr := HM.out.res
        have HBe : Hid _ := HM.out.bel
        clear HM
        go_wp2_with (first | (with_reducible refine isLoadR 47 ?_; refine wpList_ldB rfl _ rfl gb 0 F rfl (blk_at hb) ?_) | (with_reducible refine isStoreR 47 ?_; refine wpList_stB rfl _ _ rfl w.heap.size F nought 47 rfl rfl hr ?_))
        exact retB rfl w.heap.size F 47 rfl (setRow_heap _ _ _ _ _ _ hr) rfl ⟨rfl, below_setRow HBe.out (Nat.le_refl _) _⟩
end Go.Proofs.YtiadlcjdpbkbkaaGreat
/- Mkfs by the program: a block of the bitmap; the block lies in the bitmap, and numbers are within their bounds. -/
namespace Go.Proofs.YtiadlcjdpbkbkaaGreat
open Go.RowKit Go.Maps
/-- Bytes of which the first n bits are 1. -/
def btF (n : Nat) : Nat → Int := fun j => if 8 * j + 8 ≤ n then 255 else if n ≤ 8 * j then 0 else 2 ^ (n - 8 * j) - 1
theorem btF_zero : btF 0 = nought := by funext j; unfold btF nought; rw [if_neg (by omega), if_pos (by omega)]
theorem eight {P : Nat → Prop} (h : P 0 ∧ P 1 ∧ P 2 ∧ P 3 ∧ P 4 ∧ P 5 ∧ P 6 ∧ P 7) (k : Nat) (hk : k < 8) : P k := by
  rcases (show k = 0 ∨ k = 1 ∨ k = 2 ∨ k = 3 ∨ k = 4 ∨ k = 5 ∨ k = 6 ∨ k = 7 by omega) with rfl | rfl | rfl | rfl | rfl | rfl | rfl | rfl
  · exact h.1
  · exact h.2.1
  · exact h.2.2.1
  · exact h.2.2.2.1
  · exact h.2.2.2.2.1
  · exact h.2.2.2.2.2.1
  · exact h.2.2.2.2.2.2.1
  · exact h.2.2.2.2.2.2.2
theorem btF_at (t : Nat) : btF t (t / 8) = 2 ^ (t % 8) - 1 := by
  unfold btF
  rw [if_neg (by omega)]
  by_cases h : t ≤ 8 * (t / 8)
  · rw [if_pos h, show t % 8 = 0 by omega]; rfl
  · rw [if_neg h, show t - 8 * (t / 8) = t % 8 by omega]
theorem btF_step (t : Nat) : updN (btF t) (t / 8) (2 ^ (t % 8 + 1) - 1) = btF (t + 1) := by
  funext j
  unfold updN
  by_cases e : j = t / 8
  · subst e
    rw [if_pos rfl]
    unfold btF
    by_cases h : 8 * (t / 8) + 8 ≤ t + 1
    · rw [if_pos h, show t % 8 + 1 = 8 by omega]; rfl
    · rw [if_neg h, if_neg (by omega), show t + 1 - 8 * (t / 8) = t % 8 + 1 by omega]
  · rw [if_neg e]
    unfold btF
    by_cases h : 8 * j + 8 ≤ t
    · rw [if_pos h, if_pos (by omega)]
    · by_cases h2 : t ≤ 8 * j
      · rw [if_neg h, if_pos h2, if_neg (show ¬ 8 * j + 8 ≤ t + 1 by omega), if_pos (show t + 1 ≤ 8 * j by omega)]
      · exact absurd (show j = t / 8 by omega) e
theorem or_bit (r : Nat) (h : r < 8) : bits .or .u8 (2 ^ r - 1) (2 ^ r) = 2 ^ (r + 1) - 1 :=
  eight (P := fun r => bits .or .u8 (2 ^ r - 1) (2 ^ r) = 2 ^ (r + 1) - 1) ⟨by decide, by decide, by decide, by decide, by decide, by decide, by decide, by decide⟩ r h
theorem pow8 (r : Nat) (h : r < 8) : (0 : Int) < 2 ^ r ∧ (2 : Int) ^ r ≤ 128 :=
  eight (P := fun r => (0 : Int) < 2 ^ r ∧ (2 : Int) ^ r ≤ 128) ⟨by decide, by decide, by decide, by decide, by decide, by decide, by decide, by decide⟩ r h
theorem exec_shl {o : Oper} {a : Act} {W : World} {x y : Operand} {ty : TypeId} {r : Nat} (ho : o.op = .binOp .shl 5 x y ty) (hx : a.eval x = .int .u8 1) (hy : a.eval y = .int .i64 (r : Int)) (h : r < 8) : (execOp a.eval o).run Tryz.prog W = .ok (.value (.int .u8 (2 ^ r))) W := by
  have key : ∀ r : Nat, r < 8 → (binOp .shl 5 (.int .u8 1) (.int .i64 (r : Int))).run Tryz.prog W = .ok (.int .u8 (2 ^ r)) W := fun r hr =>
    eight (P := fun r => (binOp .shl 5 (.int .u8 1) (.int .i64 ((r : Nat) : Int))).run Tryz.prog W = .ok (.int .u8 (2 ^ r)) W) ⟨by rfl, by rfl, by rfl, by rfl, by rfl, by rfl, by rfl, by rfl⟩ r hr
  have e := key r h
  have eg : (eqGuard .shl 5 x y (.int .u8 1) (.int .i64 (r : Int))).run Tryz.prog W = .ok () W := rfl
  simp [execOp, ho, hx, hy, e, eg]
structure BtS (w W : World) (L : Array Value) (Y : Nat → Int) : Prop where
  lay : W.heap[w.heap.size]? = some (.cells L 43)
  res : W.heap[w.heap.size + 1]? = some (.cells (blk nought) 47)
  blk : W.heap[w.heap.size + 1 + 1]? = some (.cells (blk Y) 47)
  bel : Below w.heap.size w W
theorem BtS.later {w W W' : World} {L : Array Value} {Y : Nat → Int} (h : BtS w W L Y) (hb : Below W.heap.size W W') : BtS w W' L Y := ⟨heap_kept h.lay hb, heap_kept h.res hb, heap_kept h.blk hb, below_next h.bel hb⟩
theorem BtS.set {w W : World} {L : Array Value} {Y : Nat → Int} (h : BtS w W L Y) (j : Nat) (x : Int) : BtS w (W.setCell ⟨w.heap.size + 1 + 1, j, none⟩ (.int .u8 x)) L (updN Y j x) := by
  have hF := Fr.setCell W (w.heap.size + 1 + 1) j (.int .u8 x)
  exact ⟨(hF.block _ (Array.getElem?_eq_some_iff.1 h.lay).1 (by omega)).trans h.lay, (hF.block _ (Array.getElem?_eq_some_iff.1 h.res).1 (by omega)).trans h.res, setCell_rowN (m := 1024) h.blk j x, h.bel.trans (hF.below (fun j q => by omega) h.bel.size)⟩
set_option maxRecDepth 20000 in
set_option maxHeartbeats 4000000 in
theorem bitmap_ok (b l i a c d e f : Int) (D q : Nat) (w : World) (hq : q ≤ 128) :
    Calls Tryz.prog 86 #[.agg (YtiadlcjdpbkbkaaGreatP.lay9 b l i a c d e f D), .int .i64 (e + q)] w fun e' w' => e' = .returned (.agg (blk (btF (min 8192 (D + 1 - 8192 * q))))) ∧ Below w.heap.size w w' := by
  have zb := zero77
  have l6 : (YtiadlcjdpbkbkaaGreatP.lay9 b l i a c d e f D)[6]? = some (.int .i64 e) := rfl
  have l8 : (YtiadlcjdpbkbkaaGreatP.lay9 b l i a c d e f D)[8]? = some (.int .i64 (D : Int)) := rfl
  have HL8 : Hid _ := l8
  clear l8
  generalize YtiadlcjdpbkbkaaGreatP.lay9 b l i a c d e f D = L at *
  obtain ⟨A, hA⟩ : ∃ A, A = ((w.alloc (.cells L 43)).alloc (.cells (blk nought) 47)).alloc (.cells (blk nought) 47) := ⟨_, rfl⟩
  have hT : BtS w A L (btF 0) := by
    rw [hA, btF_zero]
    refine ⟨heap_kept (heap_kept (heap_alloc_new _ _) (below_new _ _)) (below_new _ _), heap_kept (heap_two _ _ _) (below_new _ _), ?_, below_next (below_next (below_new _ _) (below_new _ _)) (below_new _ _)⟩
    have := heap_two (w.alloc (.cells L 43)) (.cells (blk nought) 47) (.cells (blk nought) 47)
    rwa [show (w.alloc (.cells L 43)).heap.size + 1 = w.heap.size + 1 + 1 by simp] at this
  have HT : Hid _ := hT
  have c6 : A.cell? ⟨w.heap.size, 6, none⟩ = some (.int .i64 e) := (cell_of_row _ _ 6 _ _ _ hT.lay).trans l6
  have HA : Hid (A = _) := hA
  clear hA hT l6
  obtain ⟨n, hn⟩ : ∃ n, min 8192 (D + 1 - 8192 * q) = n := ⟨_, rfl⟩
  rw [hn]
  have HN : Hid (n ≤ 8192 ∧ ∀ t : Nat, t < n ↔ t < 8192 ∧ 8192 * q + t ≤ D) := ⟨by omega, fun t => by omega⟩
  clear hn
  have e0 : e + (q : Int) - e = (q : Int) := by omega
  have e1 : IntKind.i64.wrap (q : Int) = (q : Int) := by rw [IntKind.wrap_i64]; omega
  obtain ⟨fi, hfi⟩ : ∃ fi : Int, fi = 8192 * (q : Int) := ⟨_, rfl⟩
  have e2 : IntKind.i64.wrap ((q : Int) * 8192) = fi := by rw [IntKind.wrap_i64]; omega
  obtain ⟨fj, hfj⟩ : ∃ fj : Int, fj = fi + 8192 := ⟨_, rfl⟩
  have e4 : IntKind.i64.wrap (fi + 8192) = fj := by rw [IntKind.wrap_i64]; omega
  have HFi : Hid (fi = 8192 * (q : Int) ∧ 0 ≤ fi ∧ fi ≤ 1048576 ∧ fj = fi + 8192) := ⟨hfi, by omega, by omega, hfj⟩
  clear hfi hfj
  go_enter Tryz.func86, Tryz.ntmps86
  go_upto_region 2 with fail
  rw [← HA.out]
  clear HA
  go_wp2_with fail
  clear e0 e1 e2 c6
  go_loopw [7] (fun s7 wx => ∃ t : Nat, t ≤ n ∧ s7 = .int .i64 (fi + t) ∧ Hid (BtS w wx L (btF t))) (fun s7 _ => (fi + n - (intOf s7)).toNat)
  case atStart => exact ⟨0, by omega, by simp, HT.out⟩
  case round =>
    obtain ⟨t, ht, rfl, HM⟩ := hrel
    clear HT
    have c8 : wr.cell? ⟨w.heap.size, 8, none⟩ = some (.int .i64 (D : Int)) := (cell_of_row _ _ 8 _ _ _ HM.out.lay).trans HL8.out
    by_cases h1 : t < n
    · obtain ⟨h2, h3⟩ := (HN.out.2 t).1 h1
      have k1 : decide (fi + (t : Int) ≤ (D : Int)) = true := decide_eq_true (by have := HFi.out; omega)
      have k2 : decide (fi + (t : Int) < fj) = true := decide_eq_true (by have := HFi.out; omega)
      have HT2 : Hid (t < n ∧ t < 8192 ∧ n ≤ 8192) := ⟨h1, h2, HN.out.1⟩
      clear h1 h2 h3 ht
      go_wp2_with fail
      have hB : BtS w wr.drew L (btF t) := HM.out.later (Below.refl _ _).drew
      clear HM c8 k1 k2
      have cb := cell_rowN (i := t / 8) (m := 1024) hB.blk (by have := HT2.out; omega)
      have fb := frozen_row hB.blk (t / 8)
      rw [btF_at] at cb
      have HG : Hid (BtS w (wr.drew.setCell ⟨w.heap.size + 1 + 1, t / 8, none⟩ (.int .u8 (2 ^ (t % 8 + 1) - 1))) L (btF (t + 1))) := by
        have := hB.set (t / 8) (2 ^ (t % 8 + 1) - 1)
        rwa [btF_step] at this
      have ho := or_bit (t % 8) (by omega)
      have W2 : IntKind.i64.wrap (t : Int) = (t : Int) := by have := HT2.out; rw [IntKind.wrap_i64]; omega
      have W3 : (t : Int).tdiv 8 = ((t / 8 : Nat) : Int) := by rw [Int.tdiv_eq_ediv_of_nonneg (by omega)]; omega
      have W4 : IntKind.i64.wrap ((t / 8 : Nat) : Int) = ((t / 8 : Nat) : Int) := by have := HT2.out; rw [IntKind.wrap_i64]; omega
      have W5 : (fi + (t : Int)).tmod 8 = ((t % 8 : Nat) : Int) := by have := HFi.out; rw [Int.tmod_eq_emod_of_nonneg (by omega)]; omega
      have W6 : IntKind.i64.wrap ((t % 8 : Nat) : Int) = ((t % 8 : Nat) : Int) := by rw [IntKind.wrap_i64]; omega
      have W7 : fi + (t : Int) - fi = (t : Int) := by omega
      have W8 : IntKind.i64.wrap (fi + (t : Int) + 1) = fi + ((t + 1 : Nat) : Int) := by have := HFi.out; have := HT2.out; rw [IntKind.wrap_i64]; omega
      have HR : Hid (t % 8 < 8) := Nat.mod_lt _ (by omega)
      have hq8 : t / 8 < 1024 := by have := HT2.out; omega
      clear hB
      refine wp_region_ord (S := fun _ => True) [(0, true), (1, true), (2, true), (3, true), (4, true), (6, true), (7, true), (8, true), (5, false), (9, true), (10, true), (11, false)] (by kernel_rfl) rfl (by kernel_rfl) (fun d _ _ _ _ h => by cases d <;> exact h) trivial ?_
      simp only [inOrd, List.getElem?_cons_zero, List.getElem?_cons_succ]
      generalize wr.drew = U at *
      generalize t / 8 = Q at *
      generalize t % 8 = r at *
      have hq9 : ¬ (1024 : Int) ≤ (Q : Int) := by omega
      have hq7 : (Q : Int) < 1024 := by omega
      refine wpOrd_yield (v := .int .i64 (fi + (t : Int))) rfl (fun u _ => by go_simp) ?_
      simp only [Act.put, List.setIfInBounds_toArray, List.set_cons_succ, List.set_cons_zero]
      refine wpOrd_yield (v := .int .i64 fi) rfl (fun u _ => by go_simp) ?_
      simp only [Act.put, List.setIfInBounds_toArray, List.set_cons_succ, List.set_cons_zero]
      refine wpOrd_yield (v := .int .i64 (t : Int)) rfl (fun u _ => by go_simp) ?_
      simp only [Act.put, List.setIfInBounds_toArray, List.set_cons_succ, List.set_cons_zero]
      refine wpOrd_yield (v := .int .i64 (Q : Int)) rfl (fun u _ => by go_simp) ?_
      simp only [Act.put, List.setIfInBounds_toArray, List.set_cons_succ, List.set_cons_zero]
      refine wpOrd_yield (v := .pointer (some ⟨w.heap.size + 1 + 1, Q, none⟩)) rfl (fun u _ => by go_simp) ?_
      simp only [Act.put, List.setIfInBounds_toArray, List.set_cons_succ, List.set_cons_zero]
      refine wpOrd_yield (v := .int .i64 (fi + (t : Int))) rfl (fun u _ => by go_simp) ?_
      simp only [Act.put, List.setIfInBounds_toArray, List.set_cons_succ, List.set_cons_zero]
      refine wpOrd_yield (v := .int .i64 (r : Int)) rfl (fun u _ => by go_simp) ?_
      simp only [Act.put, List.setIfInBounds_toArray, List.set_cons_succ, List.set_cons_zero]
      refine wpOrd_yield (v := .int .u8 (2 ^ r)) rfl (fun u _ => exec_shl rfl rfl rfl HR.out) ?_
      simp only [Act.put, List.setIfInBounds_toArray, List.set_cons_succ, List.set_cons_zero]
      refine wpOrd_actM (W' := U) (v := .int .u8 (2 ^ r - 1)) rfl (by have := cb; go_simp) trivial ?_
      simp only [Act.put, List.setIfInBounds_toArray, List.set_cons_succ, List.set_cons_zero]
      refine wpOrd_yield (v := .int .u8 (2 ^ (r + 1) - 1)) rfl (fun u _ => by generalize (2 : Int) ^ (r + 1) - 1 = p2 at *; generalize (2 : Int) ^ r = p at *; go_simp) ?_
      simp only [Act.put, List.setIfInBounds_toArray, List.set_cons_succ, List.set_cons_zero]
      refine wpOrd_yield (v := .pointer (some ⟨w.heap.size + 1 + 1, Q, none⟩)) rfl (fun u _ => by go_simp) ?_
      simp only [Act.put, List.setIfInBounds_toArray, List.set_cons_succ, List.set_cons_zero]
      generalize (2 : Int) ^ (r + 1) - 1 = p2 at *
      generalize (2 : Int) ^ r = p at *
      refine wpOrd_doM (W' := U.setCell ⟨w.heap.size + 1 + 1, Q, none⟩ (.int .u8 p2)) rfl (by have := cb; go_simp) trivial ?_
      simp only [Act.put]
      refine wpOrd_nil ?_
      generalize U.setCell ⟨w.heap.size + 1 + 1, Q, none⟩ (.int .u8 p2) = U2 at *
      clear cb fb ho
      go_wp2_with fail
      exact ⟨⟨t + 1, by have := HT2.out; omega, by rw [Int.natCast_add] at *; go_num, HG.out⟩, by have := HT2.out; simp [intOf]; omega⟩
    · obtain rfl : t = n := by omega
      have hr := HM.out.res
      have hb := HM.out.blk
      have HBe : Hid _ := HM.out.bel
      have hN := (HN.out.2 t)
      clear HM
      by_cases h2 : fi + (t : Int) ≤ (D : Int)
      · have k1 : decide (fi + (t : Int) ≤ (D : Int)) = true := decide_eq_true h2
        have k2 : decide (fi + (t : Int) < fj) = false := decide_eq_false (by have := HFi.out; omega)
        clear h2 hN
        go_wp2_with (first | (with_reducible refine isLoadR 47 ?_; refine wpList_ldB rfl _ rfl (w.heap.size + 1 + 1) 0 (btF t) rfl (blk_at hb) ?_) | (with_reducible refine isStoreR 47 ?_; refine wpList_stB rfl _ _ rfl (w.heap.size + 1) (btF t) nought 47 rfl rfl hr ?_))
        exact retB rfl (w.heap.size + 1) (btF t) 47 rfl (setRow_heap _ _ _ _ _ _ hr) rfl ⟨rfl, below_setRow HBe.out (by omega) _⟩
      · have k1 : decide (fi + (t : Int) ≤ (D : Int)) = false := decide_eq_false h2
        clear h2 hN
        go_wp2_with (first | (with_reducible refine isLoadR 47 ?_; refine wpList_ldB rfl _ rfl (w.heap.size + 1 + 1) 0 (btF t) rfl (blk_at hb) ?_) | (with_reducible refine isStoreR 47 ?_; refine wpList_stB rfl _ _ rfl (w.heap.size + 1) (btF t) nought 47 rfl rfl hr ?_))
        exact retB rfl (w.heap.size + 1) (btF t) 47 rfl (setRow_heap _ _ _ _ _ _ hr) rfl ⟨rfl, below_setRow HBe.out (by omega) _⟩
end Go.Proofs.YtiadlcjdpbkbkaaGreat
/- Mkfs by the program: what a block from the inodes' region to the first data block holds; for every layout that may be. -/
namespace Go.Proofs.YtiadlcjdpbkbkaaGreat
open Go.RowKit Go.Maps
/-- What the second part writes to a block from the inodes' region on. -/
def coF (b l i k : Int) : Nat → Int :=
  if k < YtiadlcjdpbkbkaaGreatP.bitsAt l i then ndF (YtiadlcjdpbkbkaaGreatP.dataAt b l i) (k == 1 + l)
  else if k < YtiadlcjdpbkbkaaGreatP.dataAt b l i then btF (min 8192 ((YtiadlcjdpbkbkaaGreatP.dataAt b l i).toNat + 1 - 8192 * (k - YtiadlcjdpbkbkaaGreatP.bitsAt l i).toNat))
  else slF
theorem stands_lay {b l i : Int} (hf : YtiadlcjdpbkbkaaGreatP.Fine b l i) : YtiadlcjdpbkbkaaGreatP.standsB b l i 1 (1 + l) (YtiadlcjdpbkbkaaGreatP.nodeB i) (YtiadlcjdpbkbkaaGreatP.bitsAt l i) (YtiadlcjdpbkbkaaGreatP.bitsB b) (YtiadlcjdpbkbkaaGreatP.dataAt b l i) = true := decide_eq_true ⟨hf, rfl, rfl, rfl, rfl, rfl, rfl⟩
theorem fine_bd {b l i : Int} (hf : YtiadlcjdpbkbkaaGreatP.Fine b l i) : 35 ≤ b ∧ b ≤ 1048576 ∧ 32 ≤ l ∧ l ≤ 256 ∧ 1 + l < YtiadlcjdpbkbkaaGreatP.bitsAt l i ∧ YtiadlcjdpbkbkaaGreatP.bitsAt l i < YtiadlcjdpbkbkaaGreatP.dataAt b l i ∧ YtiadlcjdpbkbkaaGreatP.dataAt b l i < b ∧ YtiadlcjdpbkbkaaGreatP.dataAt b l i - YtiadlcjdpbkbkaaGreatP.bitsAt l i ≤ 128 := by
  have hp := hf.pos
  obtain ⟨h1, h2, h3, h4, h5, h6⟩ := hf
  unfold YtiadlcjdpbkbkaaGreatP.dataAt YtiadlcjdpbkbkaaGreatP.bitsAt YtiadlcjdpbkbkaaGreatP.nodeB YtiadlcjdpbkbkaaGreatP.bitsB at *
  omega
set_option maxRecDepth 20000 in
set_option maxHeartbeats 4000000 in
theorem content_ok (b l i k : Int) (hf : YtiadlcjdpbkbkaaGreatP.Fine b l i) (hk : 1 + l ≤ k ∧ k ≤ YtiadlcjdpbkbkaaGreatP.dataAt b l i) (w : World) :
    Calls Tryz.prog 70 #[YtiadlcjdpbkbkaaGreatP.layV b l i, .int .i64 k] w fun e w' => e = .returned (.agg (blk (coF b l i k))) ∧ Below w.heap.size w w' := by
  have zb := zero77
  obtain ⟨b1, b2, b3, b4, b5, b6, b7, b8⟩ := fine_bd hf
  have hI : YtiadlcjdpbkbkaaGreatP.I64 b := by unfold YtiadlcjdpbkbkaaGreatP.I64; omega
  have hw := fun u => YtiadlcjdpbkbkaaGreatP.where_any b l i 1 (1 + l) (YtiadlcjdpbkbkaaGreatP.nodeB i) (YtiadlcjdpbkbkaaGreatP.bitsAt l i) (YtiadlcjdpbkbkaaGreatP.bitsB b) (YtiadlcjdpbkbkaaGreatP.dataAt b l i) k u hI
  have hN := YtiadlcjdpbkbkaaGreatP.wN (k := k) (b := b) (by omega) (by omega) (stands_lay hf)
  rw [if_neg (by omega), if_neg (by omega)] at hN
  rw [hN] at hw
  have hnd := fun u => nodes_ok b l i 1 (1 + l) (YtiadlcjdpbkbkaaGreatP.nodeB i) (YtiadlcjdpbkbkaaGreatP.bitsAt l i) (YtiadlcjdpbkbkaaGreatP.bitsB b) (YtiadlcjdpbkbkaaGreatP.dataAt b l i) k u ⟨by omega, by omega⟩ ⟨by omega, by omega⟩
  have hsl := slots_ok
  have hbt : ∀ u, YtiadlcjdpbkbkaaGreatP.bitsAt l i ≤ k → k < YtiadlcjdpbkbkaaGreatP.dataAt b l i → Calls Tryz.prog 86 #[.agg (YtiadlcjdpbkbkaaGreatP.lay9 b l i 1 (1 + l) (YtiadlcjdpbkbkaaGreatP.nodeB i) (YtiadlcjdpbkbkaaGreatP.bitsAt l i) (YtiadlcjdpbkbkaaGreatP.bitsB b) (YtiadlcjdpbkbkaaGreatP.dataAt b l i)), .int .i64 k] u fun e' w' => e' = .returned (.agg (blk (btF (min 8192 ((YtiadlcjdpbkbkaaGreatP.dataAt b l i).toNat + 1 - 8192 * (k - YtiadlcjdpbkbkaaGreatP.bitsAt l i).toNat))))) ∧ Below u.heap.size u w' := fun u h1 h2 => by
    have := bitmap_ok b l i 1 (1 + l) (YtiadlcjdpbkbkaaGreatP.nodeB i) (YtiadlcjdpbkbkaaGreatP.bitsAt l i) (YtiadlcjdpbkbkaaGreatP.bitsB b) (YtiadlcjdpbkbkaaGreatP.dataAt b l i).toNat (k - YtiadlcjdpbkbkaaGreatP.bitsAt l i).toNat u (by omega)
    rwa [show (((YtiadlcjdpbkbkaaGreatP.dataAt b l i).toNat : Nat) : Int) = YtiadlcjdpbkbkaaGreatP.dataAt b l i by omega, show YtiadlcjdpbkbkaaGreatP.bitsAt l i + (((k - YtiadlcjdpbkbkaaGreatP.bitsAt l i).toNat : Nat) : Int) = k by omega] at this
  have HBt : Hid _ := hbt
  have HNd : Hid _ := hnd
  have HSl : Hid _ := hsl
  clear hbt hnd hsl hN
  have hlL : (Tryz.prog.info? 43).map (·.size) = some (YtiadlcjdpbkbkaaGreatP.lay9 b l i 1 (1 + l) (YtiadlcjdpbkbkaaGreatP.nodeB i) (YtiadlcjdpbkbkaaGreatP.bitsAt l i) (YtiadlcjdpbkbkaaGreatP.bitsB b) (YtiadlcjdpbkbkaaGreatP.dataAt b l i)).size := by kernel_rfl
  have HSz : Hid _ := hlL
  clear hlL
  unfold YtiadlcjdpbkbkaaGreatP.layV
  obtain ⟨F, hF⟩ : ∃ F, coF b l i k = F := ⟨_, rfl⟩
  have HF : Hid (F = if k < YtiadlcjdpbkbkaaGreatP.bitsAt l i then ndF (YtiadlcjdpbkbkaaGreatP.dataAt b l i) (k == 1 + l) else if k < YtiadlcjdpbkbkaaGreatP.dataAt b l i then btF (min 8192 ((YtiadlcjdpbkbkaaGreatP.dataAt b l i).toNat + 1 - 8192 * (k - YtiadlcjdpbkbkaaGreatP.bitsAt l i).toNat)) else slF) := hF ▸ rfl
  rw [hF]
  clear hF
  generalize YtiadlcjdpbkbkaaGreatP.lay9 b l i 1 (1 + l) (YtiadlcjdpbkbkaaGreatP.nodeB i) (YtiadlcjdpbkbkaaGreatP.bitsAt l i) (YtiadlcjdpbkbkaaGreatP.bitsB b) (YtiadlcjdpbkbkaaGreatP.dataAt b l i) = L at *
  generalize ndF (YtiadlcjdpbkbkaaGreatP.dataAt b l i) (k == 1 + l) = X1 at *
  generalize btF (min 8192 ((YtiadlcjdpbkbkaaGreatP.dataAt b l i).toNat + 1 - 8192 * (k - YtiadlcjdpbkbkaaGreatP.bitsAt l i).toNat)) = X2 at *
  generalize slF = X3 at *
  obtain ⟨A, hA⟩ : ∃ A, A = (w.alloc (.cells L 43)).alloc (.cells (blk nought) 47) := ⟨_, rfl⟩
  have HL : Hid (A.heap[w.heap.size]? = some (.cells L 43)) := by rw [hA]; exact heap_kept (heap_alloc_new _ _) (below_new _ _)
  have HR : Hid (A.heap[w.heap.size + 1]? = some (.cells (blk nought) 47)) := by rw [hA]; exact heap_two _ _ _
  have HB : Hid (Below w.heap.size w A) := by rw [hA]; exact below_next (below_new _ _) (below_new _ _)
  have HA : Hid (A = _) := hA
  clear hA
  by_cases h1 : k < YtiadlcjdpbkbkaaGreatP.bitsAt l i
  · rw [if_pos h1] at hw
    have HE : Hid (F = X1) := by show _ = _; rw [HF.out, if_pos h1]
    clear HF HBt HSl
    go_enter Tryz.func70, Tryz.ntmps70
    go_upto_region 1 with fail
    rw [← HA.out]
    clear HA
    go_wp2_with (first | (with_reducible refine isLoadR 43 ?_; refine wpList_ldR 43 Tryz.underlying43 rfl rfl _ rfl w.heap.size rfl L 43 (0, 0) HSz.out HL.out ?_) | (go_at_call 84; fail))
    refine (hw _).mono ?_
    rintro e W1 ⟨rfl, hb⟩
    have HL1 : Hid _ := heap_kept HL.out hb
    have HR1 : Hid _ := heap_kept HR.out hb
    have HB1 : Hid _ := below_next HB.out hb
    clear HL HR HB hb hw
    go_wp2_with (first | (with_reducible refine isLoadR 43 ?_; refine wpList_ldR 43 Tryz.underlying43 rfl rfl _ rfl w.heap.size rfl L 43 (0, 0) HSz.out HL1.out ?_) | (go_at_call 85; fail))
    refine (HNd.out _).mono ?_
    rintro e W2 ⟨rfl, hb⟩
    have hr := heap_kept HR1.out hb
    have HB2 : Hid _ := below_next HB1.out hb
    clear HL1 HR1 HB1 hb HNd
    go_wp2_with (first | (with_reducible refine isStoreR 47 ?_; refine wpList_stB rfl _ _ rfl (w.heap.size + 1) X1 nought 47 rfl rfl hr ?_))
    exact retB rfl (w.heap.size + 1) X1 47 rfl (setRow_heap _ _ _ _ _ _ hr) rfl ⟨by rw [HE.out], below_setRow HB2.out (by omega) _⟩
  · rw [if_neg h1] at hw
    by_cases h2 : k < YtiadlcjdpbkbkaaGreatP.dataAt b l i
    · rw [if_pos h2] at hw
      have HE : Hid (F = X2) := by show _ = _; rw [HF.out, if_neg h1, if_pos h2]
      have HB3 : Hid _ := fun u => HBt.out u (by omega) h2
      clear HF HBt HSl HNd
      go_enter Tryz.func70, Tryz.ntmps70
      go_upto_region 1 with fail
      rw [← HA.out]
      clear HA
      go_wp2_with (first | (with_reducible refine isLoadR 43 ?_; refine wpList_ldR 43 Tryz.underlying43 rfl rfl _ rfl w.heap.size rfl L 43 (0, 0) HSz.out HL.out ?_) | (go_at_call 84; fail))
      refine (hw _).mono ?_
      rintro e W1 ⟨rfl, hb⟩
      have HL1 : Hid _ := heap_kept HL.out hb
      have HR1 : Hid _ := heap_kept HR.out hb
      have HB1 : Hid _ := below_next HB.out hb
      clear HL HR HB hb hw
      go_wp2_with (first | (with_reducible refine isLoadR 43 ?_; refine wpList_ldR 43 Tryz.underlying43 rfl rfl _ rfl w.heap.size rfl L 43 (0, 0) HSz.out HL1.out ?_) | (go_at_call 86; fail))
      refine (HB3.out _).mono ?_
      rintro e W2 ⟨rfl, hb⟩
      have hr := heap_kept HR1.out hb
      have HB2 : Hid _ := below_next HB1.out hb
      clear HL1 HR1 HB1 hb HB3
      go_wp2_with (first | (with_reducible refine isStoreR 47 ?_; refine wpList_stB rfl _ _ rfl (w.heap.size + 1) X2 nought 47 rfl rfl hr ?_))
      exact retB rfl (w.heap.size + 1) X2 47 rfl (setRow_heap _ _ _ _ _ _ hr) rfl ⟨by rw [HE.out], below_setRow HB2.out (by omega) _⟩
    · rw [if_neg h2] at hw
      have HE : Hid (F = X3) := by show _ = _; rw [HF.out, if_neg h1, if_neg h2]
      clear HF HBt HNd
      go_enter Tryz.func70, Tryz.ntmps70
      go_upto_region 1 with fail
      rw [← HA.out]
      clear HA
      go_wp2_with (first | (with_reducible refine isLoadR 43 ?_; refine wpList_ldR 43 Tryz.underlying43 rfl rfl _ rfl w.heap.size rfl L 43 (0, 0) HSz.out HL.out ?_) | (go_at_call 84; fail))
      refine (hw _).mono ?_
      rintro e W1 ⟨rfl, hb⟩
      have HR1 : Hid _ := heap_kept HR.out hb
      have HB1 : Hid _ := below_next HB.out hb
      clear HL HR HB hb hw
      go_wp2_with (go_at_call 87; fail)
      refine (HSl.out _).mono ?_
      rintro e W2 ⟨rfl, hb⟩
      have hr := heap_kept HR1.out hb
      have HB2 : Hid _ := below_next HB1.out hb
      clear HR1 HB1 hb HSl
      go_wp2_with (first | (with_reducible refine isStoreR 47 ?_; refine wpList_stB rfl _ _ rfl (w.heap.size + 1) X3 nought 47 rfl rfl hr ?_))
      exact retB rfl (w.heap.size + 1) X3 47 rfl (setRow_heap _ _ _ _ _ _ hr) rfl ⟨by rw [HE.out], below_setRow HB2.out (by omega) _⟩
end Go.Proofs.YtiadlcjdpbkbkaaGreat
/- Writes and barriers made one behind the other until one is refused; what mkfs makes of a disk; no condition. -/
namespace Go.Proofs.YtiadlcjdpbkbkaaGreatD
open Go.RowKit
/-- A write, or a barrier. -/
abbrev MOp := Option Cel
def doV (s : St) : MOp → St
  | some c => writeV s c.1 c.2
  | none => barV s
def doE (s : St) : MOp → Int
  | some c => writeE s c.1
  | none => barE s
/-- One behind the other, until one is refused. -/
def runL (s : St) : List MOp → St × Int
  | [] => (s, 0)
  | o :: t => if doE s o = 0 then runL (doV s o) t else (doV s o, doE s o)
theorem runL_cons (s : St) (o : MOp) (t : List MOp) : runL s (o :: t) = if doE s o = 0 then runL (doV s o) t else (doV s o, doE s o) := rfl
theorem runL_append (a b : List MOp) : ∀ s : St, runL s (a ++ b) = if (runL s a).2 = 0 then runL (runL s a).1 b else runL s a := by
  induction a with
  | nil => intro s; rfl
  | cons o t ih =>
    intro s
    rw [List.cons_append, runL_cons, runL_cons]
    by_cases h : doE s o = 0
    · rw [if_pos h, if_pos h]; exact ih _
    · rw [if_neg h, if_neg h, if_neg h]
/-- There is room for k more. -/
structure Wide (s : St) (k : Nat) : Prop where
  ops : s.ops.length + k < 68719476736
  made : s.made + k < 1099511627776
  reads : s.reads < 1099511627776
  claims : s.claims < 1099511627776
theorem Wide.room {s : St} {k : Nat} (h : Wide s k) : Room s := ⟨by have := h.ops; omega, by have := h.made; omega, h.reads, h.claims⟩
theorem Wide.less {s : St} {k m : Nat} (h : Wide s k) (hm : m ≤ k) : Wide s m := ⟨by have := h.ops; omega, by have := h.made; omega, h.reads, h.claims⟩
theorem letV_most (s : St) : (letV s).made ≤ s.made + 1 ∧ (letV s).reads = s.reads ∧ (letV s).claims = s.claims ∧ (letV s).claimed = s.claimed := by
  unfold letV
  split
  · exact ⟨by show s.made ≤ s.made + 1; omega, rfl, rfl, rfl⟩
  · exact ⟨Int.le_refl _, rfl, rfl, rfl⟩
theorem barS_rest (s : St) : (barS s).n = s.n ∧ (barS s).made = (letV s).made ∧ (barS s).reads = (letV s).reads ∧ (barS s).claims = (letV s).claims ∧ (barS s).fuse = (letV s).fuse ∧ (barS s).stopped = (letV s).stopped ∧ (barS s).claimed = (letV s).claimed ∧ (barS s).wait = [] ∧ (barS s).held = (holdAll s s.wait).held := by
  obtain ⟨hh, he⟩ := holdAll_same s.wait (letV s)
  have e1 : barS s = { letV s with held := hh, done := s.ops ++ [⟨2, 0, nought⟩], wait := [] } := by unfold barS; rw [he]
  refine ⟨by rw [e1]; exact letV_n s, by rw [e1], by rw [e1], by rw [e1], by rw [e1], by rw [e1], by rw [e1], rfl, ?_⟩
  show (holdAll (letV s) s.wait).held = _
  have key : ∀ (l : List Cel) (a b : St), a.held = b.held → (holdAll a l).held = (holdAll b l).held := fun l => by
    induction l with
    | nil => exact fun a b q => q
    | cons c t ih =>
      intro a b q
      exact ih (holdV a c.1 c.2) (holdV b c.1 c.2) (by unfold holdV; rw [q])
  exact key _ _ _ (letV_held s)
theorem Wide.doV {s : St} {k : Nat} (h : Wide s (k + 1)) (o : MOp) : Wide (doV s o) k := by
  have h1 := h.ops
  have h2 := h.made
  obtain ⟨l1, l2, l3, _⟩ := letV_most s
  cases o with
  | none =>
    show Wide (barV s) k
    unfold barV
    split
    · exact h.less (by omega)
    · split
      · obtain ⟨b1, b2, b3, b4, _⟩ := barS_rest s
        exact ⟨by rw [barS_ops, List.length_append, List.length_singleton]; omega, by rw [b2]; omega, by rw [b3, l2]; exact h.reads, by rw [b4, l3]; exact h.claims⟩
      · exact ⟨by rw [letV_ops]; omega, by omega, by rw [l2]; exact h.reads, by rw [l3]; exact h.claims⟩
  | some c =>
    show Wide (writeV s c.1 c.2) k
    unfold writeV
    split
    · split
      · exact ⟨by rw [writeS_ops, List.length_append, List.length_singleton]; omega, by show (letV s).made + _ < _; omega, by show (letV s).reads < _; rw [l2]; exact h.reads, by show (letV s).claims < _; rw [l3]; exact h.claims⟩
      · exact ⟨by rw [letV_ops]; omega, by omega, by rw [l2]; exact h.reads, by rw [l3]; exact h.claims⟩
    · exact h.less (by omega)
theorem Wide.run : ∀ {l : List MOp} {s : St} {k : Nat}, Wide s (l.length + k) → Wide (runL s l).1 k
  | [], s, k, h => h.less (by simp)
  | o :: t, s, k, h => by
    have h2 : Wide (Go.Proofs.YtiadlcjdpbkbkaaGreatD.doV s o) (t.length + k) := Wide.doV (by rw [List.length_cons] at h; exact h.less (by omega)) o
    rw [runL_cons]
    split
    · exact h2.run
    · exact h2.less (by omega)
section
variable {P : World → Loc → Prop} {W : World} {d : Nat} {s : St}
theorem has_len (h : Has P W d s) : Calls Tryz.prog 56 #[.pointer (some ⟨d, 0, none⟩)] W fun e W' => e = .returned (.int .i64 s.n) ∧ W' = W := by
  obtain ⟨L, rfl, hD, _⟩ := h
  exact len_of hD
theorem has_claim (hP : Stays P) (h : Has P W d s) (hr : Room s) : Calls Tryz.prog 51 #[.pointer (some ⟨d, 0, none⟩)] W fun e W' => e = .returned (.int .i64 (claimN s)) ∧ Has P W' d (claimV s) := by
  obtain ⟨L, rfl, hD, hp⟩ := h
  exact (claim_of hD hr).mono fun e W' ⟨h1, h2, h3⟩ => ⟨h1, Has.goes hP rfl hD hp h2 h3⟩
end
/-- The blocks from the inodes' region to the first data block: their number. -/
def mkN (b l i : Int) : Nat := (YtiadlcjdpbkbkaaGreatP.dataAt b l i - l).toNat
/-- The second part, from the j-th block of the inodes' region on. -/
def mkR (b l i : Int) (j : Nat) : List MOp := ((List.range (mkN b l i)).drop j).map fun (q : Nat) => some (1 + l + (q : Int), YtiadlcjdpbkbkaaGreat.coF b l i (1 + l + (q : Int)))
def mkA : List MOp := [some (0, nought)]
def mkB (b l i : Int) : List MOp := some (1, nought) :: mkR b l i 0
def mkC (b l i : Int) : List MOp := [some (0, YtiadlcjdpbkbkaaGreatP.superF b l i)]
/-- What mkfs does from the m-th part on. -/
def mkL (b l i : Int) : Nat → List MOp
  | 0 => mkA ++ (none :: (mkB b l i ++ (none :: (mkC b l i ++ [none]))))
  | 1 => mkB b l i ++ (none :: (mkC b l i ++ [none]))
  | 2 => mkC b l i ++ [none]
  | _ => []
theorem mkR_step (b l i : Int) (j : Nat) (h : j < mkN b l i) : mkR b l i j = some (1 + l + (j : Int), YtiadlcjdpbkbkaaGreat.coF b l i (1 + l + (j : Int))) :: mkR b l i (j + 1) := by
  unfold mkR
  rw [List.drop_eq_getElem_cons (by simpa using h), List.map_cons, List.getElem_range]
theorem mkR_end (b l i : Int) : mkR b l i (mkN b l i) = [] := by
  unfold mkR
  rw [List.drop_eq_nil_of_le (by simp)]
  rfl
theorem mkR_len (b l i : Int) (j : Nat) : (mkR b l i j).length = mkN b l i - j := by unfold mkR; simp
theorem mkL_len (b l i : Int) : (mkL b l i 0).length = mkN b l i + 6 := by
  unfold mkL mkA mkB mkC
  simp [mkR_len]
/-- What mkfs answers ahead of all, and then. -/
def rdyE (b l i : Int) (s : St) : Int := if YtiadlcjdpbkbkaaGreatP.ofE b l i ≠ 0 ∨ b > s.n then 2 else if s.stopped then 3 else 0
def mkE (b l i : Int) (s : St) : Int := if rdyE b l i s = 0 then (runL (claimV s) (mkL b l i 0)).2 else rdyE b l i s
def mkV (b l i : Int) (s : St) : St := if rdyE b l i s = 0 then (runL (claimV s) (mkL b l i 0)).1 else s
end Go.Proofs.YtiadlcjdpbkbkaaGreatD
/- Mkfs by the program: whether a file system may be made on a disk; for every disk and geometry. -/
namespace Go.Proofs.YtiadlcjdpbkbkaaGreatD
open Go.RowKit
variable {P : World → Loc → Prop} {W : World} {d : Nat} {s : St}
theorem layIn (b l i : Int) : (Tryz.prog.info? 43).map (·.size) = some (YtiadlcjdpbkbkaaGreatP.lay9 b l i 1 (1 + l) (YtiadlcjdpbkbkaaGreatP.nodeB i) (YtiadlcjdpbkbkaaGreatP.bitsAt l i) (YtiadlcjdpbkbkaaGreatP.bitsB b) (YtiadlcjdpbkbkaaGreatP.dataAt b l i)).size := by kernel_rfl
theorem lay9_size (b l i a c d e f g : Int) : (Tryz.prog.info? 43).map (·.size) = some (YtiadlcjdpbkbkaaGreatP.lay9 b l i a c d e f g).size := by kernel_rfl
theorem lay9_one (b l i a c d e f g : Int) : (YtiadlcjdpbkbkaaGreatP.lay9 b l i a c d e f g).all (·.oneCell') = true := by simp [YtiadlcjdpbkbkaaGreatP.lay9, Value.oneCell']
theorem lay9_two (b l i a c d e f g b' l' i' a' c' d' e' f' g' : Int) : (YtiadlcjdpbkbkaaGreatP.lay9 b l i a c d e f g).size = (YtiadlcjdpbkbkaaGreatP.lay9 b' l' i' a' c' d' e' f' g').size := rfl
theorem zeroLy : ∀ w, (zeroValue 43).run Tryz.prog w = .ok (.agg (YtiadlcjdpbkbkaaGreatP.lay9 0 0 0 0 0 0 0 0 0)) w := (zero_of_info (show (Tryz.prog.info? 43).map (fun i => (i.zero, i.size)) = some (some (.agg (YtiadlcjdpbkbkaaGreatP.lay9 0 0 0 0 0 0 0 0 0)), 9) by kernel_rfl)).1
theorem buildLy (u : World) : (Instr.build 43 #[]).run Tryz.prog u = .ok (.agg (YtiadlcjdpbkbkaaGreatP.lay9 0 0 0 0 0 0 0 0 0)) u := by
  have z := zeroLy u
  generalize YtiadlcjdpbkbkaaGreatP.lay9 0 0 0 0 0 0 0 0 0 = L at *
  simp [go_sem, z]
/-- What is beside the disk while ready goes: its own two rows. -/
structure RyS (P : World → Loc → Prop) (W0 W : World) (d : Nat) (s : St) (b l i : Int) (Z : Array Value) : Prop where
  has : Has P W d s
  geo : W.heap[W0.heap.size]? = some (.cells #[.int .i64 b, .int .i64 l, .int .i64 i] 41)
  res : W.heap[W0.heap.size + 1]? = some (.cells Z 43)
  bel : Below W0.heap.size W0 W
theorem RyS.later (hP : Stays P) {W0 W' : World} {b l i : Int} {Z : Array Value} (h : RyS P W0 W d s b l i Z) (hb : Below W.heap.size W W') : RyS P W0 W' d s b l i Z := ⟨h.has.later hP hb, heap_kept h.geo hb, heap_kept h.res hb, below_next h.bel hb⟩
theorem RyS.set (hP : Stays P) {W0 : World} {b l i : Int} {Z : Array Value} (hH : Has P W0 d s) (h : RyS P W0 W d s b l i Z) (cs : Array Value) : Has P (W.setRow (W0.heap.size + 1) cs) d s := hH.later hP (below_setRow h.bel (by omega) _)
set_option maxRecDepth 20000 in
set_option maxHeartbeats 4000000 in
theorem ready_ok (hP : Stays P) (h : Has P W d s) (b l i : Int) (hb : YtiadlcjdpbkbkaaGreatP.I64 b) :
    Calls Tryz.prog 50 #[.pointer (some ⟨d, 0, none⟩), YtiadlcjdpbkbkaaGreatP.geoV b l i] W fun e W' => e = .returned (.tuple #[if rdyE b l i s = 0 then YtiadlcjdpbkbkaaGreatP.layV b l i else YtiadlcjdpbkbkaaGreatP.layZ, .int .i64 (rdyE b l i s)]) ∧ Has P W' d s := by
  have hOf := fun u => YtiadlcjdpbkbkaaGreatP.of_any b l i u hb
  have hn1 := h.ok.n
  have zl := zeroLy
  have zb := buildLy
  have HH : Hid (Has P W d s) := h
  have HLn : Hid (∀ V, Has P V d s → Calls Tryz.prog 56 #[.pointer (some ⟨d, 0, none⟩)] V fun e W' => e = .returned (.int .i64 s.n) ∧ W' = V) := fun V hV => has_len hV
  have HSt : Hid (∀ V, Has P V d s → Calls Tryz.prog 69 #[.pointer (some ⟨d, 0, none⟩)] V fun e W' => e = .returned (.bool s.stopped) ∧ W' = V) := fun V hV => has_stopped hV
  have HRd : Hid (rdyE b l i s = if YtiadlcjdpbkbkaaGreatP.ofE b l i ≠ 0 ∨ b > s.n then 2 else if s.stopped then 3 else 0) := rfl
  have HOE : Hid (YtiadlcjdpbkbkaaGreatP.ofE b l i = if YtiadlcjdpbkbkaaGreatP.Fine b l i then 0 else 2) := rfl
  have HOV : Hid (YtiadlcjdpbkbkaaGreatP.ofV b l i = if YtiadlcjdpbkbkaaGreatP.Fine b l i then YtiadlcjdpbkbkaaGreatP.layV b l i else YtiadlcjdpbkbkaaGreatP.layZ) := rfl
  unfold YtiadlcjdpbkbkaaGreatP.geoV at *
  unfold YtiadlcjdpbkbkaaGreatP.layZ YtiadlcjdpbkbkaaGreatP.layV at *
  have HLI : Hid _ := layIn b l i
  have HL0 : Hid _ := lay9_size 0 0 0 0 0 0 0 0 0
  have HL1 : Hid _ := lay9_one 0 0 0 0 0 0 0 0 0
  have HL3 : Hid _ := lay9_one b l i 1 (1 + l) (YtiadlcjdpbkbkaaGreatP.nodeB i) (YtiadlcjdpbkbkaaGreatP.bitsAt l i) (YtiadlcjdpbkbkaaGreatP.bitsB b) (YtiadlcjdpbkbkaaGreatP.dataAt b l i)
  have HL2 : Hid ((YtiadlcjdpbkbkaaGreatP.lay9 0 0 0 0 0 0 0 0 0).size = (YtiadlcjdpbkbkaaGreatP.lay9 b l i 1 (1 + l) (YtiadlcjdpbkbkaaGreatP.nodeB i) (YtiadlcjdpbkbkaaGreatP.bitsAt l i) (YtiadlcjdpbkbkaaGreatP.bitsB b) (YtiadlcjdpbkbkaaGreatP.dataAt b l i)).size) := rfl
  have hS0 : RyS P W ((W.alloc (.cells #[.int .i64 b, .int .i64 l, .int .i64 i] 41)).alloc (.cells (YtiadlcjdpbkbkaaGreatP.lay9 0 0 0 0 0 0 0 0 0) 43)) d s b l i (YtiadlcjdpbkbkaaGreatP.lay9 0 0 0 0 0 0 0 0 0) := by
    have hbb : Below W.heap.size W ((W.alloc (.cells #[.int .i64 b, .int .i64 l, .int .i64 i] 41)).alloc (.cells (YtiadlcjdpbkbkaaGreatP.lay9 0 0 0 0 0 0 0 0 0) 43)) := below_next (below_new _ _) (below_new _ _)
    exact ⟨h.later hP hbb, heap_kept (heap_alloc_new _ _) (below_new _ _), YtiadlcjdpbkbkaaGreat.heap_two _ _ _, hbb⟩
  generalize YtiadlcjdpbkbkaaGreatP.lay9 b l i 1 (1 + l) (YtiadlcjdpbkbkaaGreatP.nodeB i) (YtiadlcjdpbkbkaaGreatP.bitsAt l i) (YtiadlcjdpbkbkaaGreatP.bitsB b) (YtiadlcjdpbkbkaaGreatP.dataAt b l i) = Y at *
  generalize YtiadlcjdpbkbkaaGreatP.lay9 0 0 0 0 0 0 0 0 0 = Z at *
  generalize YtiadlcjdpbkbkaaGreatP.ofV b l i = ov at *
  generalize YtiadlcjdpbkbkaaGreatP.ofE b l i = oe at *
  obtain ⟨A, hA⟩ : ∃ A, A = (W.alloc (.cells #[.int .i64 b, .int .i64 l, .int .i64 i] 41)).alloc (.cells Z 43) := ⟨_, rfl⟩
  rw [← hA] at hS0
  have HA : Hid (A = _) := hA
  have HS0 : Hid _ := hS0
  have HGi : Hid ((Tryz.prog.info? 41).map (·.size) = some (#[Value.int .i64 b, .int .i64 l, .int .i64 i] : Array Value).size) := by show _ = _; kernel_rfl
  clear hA hS0 h
  generalize hsn : s.n = n at *
  have hn0 : (n == 0) = false := by simp; omega
  by_cases hF : YtiadlcjdpbkbkaaGreatP.Fine b l i
  · have hoe : oe = 0 := by rw [HOE.out, if_pos hF]
    have hov : ov = .agg Y := by rw [HOV.out, if_pos hF]
    subst hoe hov
    clear HOE HOV hF
    by_cases hbn : b > n
    · have HE : Hid (rdyE b l i s = 2) := by show _ = _; rw [HRd.out, if_pos (.inr hbn)]
      clear HRd
      rw [HE.out]
      have hgt : decide (n < b) = true := decide_eq_true hbn
      have HVi : Hid _ := HLI.out
      have HVs : Hid _ := HL2.out
      have HVo : Hid _ := HL3.out
      go_enter Tryz.func50, Tryz.ntmps50
      go_upto_region 1 with fail
      rw [← HA.out]
      clear HA
      go_wp2_with (go_at_call 56; fail)
      refine (HLn.out _ HS0.out.has).mono ?_
      rintro e V ⟨rfl, he⟩
      obtain rfl := he.symm
      clear he
      have HS1 : Hid _ := HS0.out
      clear HS0
      go_wp2_with (first | (with_reducible refine YtiadlcjdpbkbkaaGreat.isLoadR 41 ?_; refine YtiadlcjdpbkbkaaGreat.wpList_ldR 41 Tryz.underlying41 rfl rfl _ rfl W.heap.size rfl #[.int .i64 b, .int .i64 l, .int .i64 i] 41 (0, 0) HGi.out HS1.out.geo ?_) | (go_at_call 21; fail))
      refine (hOf _).mono ?_
      rintro e V1 ⟨rfl, hb1⟩
      have HS2 : Hid _ := HS1.out.later hP (below_next hb1 (below_new V1 (.cells Y 43)))
      have HV2 : Hid ((V1.alloc (.cells Y 43)).heap[V1.heap.size]? = some (.cells Y 43)) := heap_alloc_new _ _
      clear HS1 hb1 hOf
      go_upto_region 4 with (first | (with_reducible refine YtiadlcjdpbkbkaaGreat.isStoreR 43 ?_; refine YtiadlcjdpbkbkaaGreat.wpList_stNew 43 rfl _ _ rfl V1.heap.size Y Z 43 HVi.out HVs.out HVo.out rfl rfl rfl ?_))
      generalize V1.alloc (.cells Y 43) = V2 at *
      generalize V1.heap.size = gl at *
      have HS3 : Hid (RyS P W V2.drew d s b l i Z) := HS2.out.later hP (Below.refl _ _).drew
      have HV3 : Hid (V2.drew.heap[gl]? = some (.cells Y 43)) := HV2.out
      clear HS2 HV2
      refine wp_region_ord (S := fun u => u.cell? ⟨W.heap.size, 0, none⟩ = some (.int .i64 b)) [(0, true), (1, true), (2, true), (3, true), (4, true), (5, true), (6, false), (7, true), (8, true), (9, true)] (by kernel_rfl) rfl (by kernel_rfl) (fun d _ _ _ _ h => by cases d <;> exact h) (Joins.cell_of_block HS3.out.geo 0) ?_
      simp only [inOrd, List.getElem?_cons_zero, List.getElem?_cons_succ]
      generalize V2.drew = U at *
      refine wpOrd_yield (v := .int .i64 0) rfl (fun u _ => by go_simp) ?_
      simp only [Act.put, List.setIfInBounds_toArray, List.set_cons_succ, List.set_cons_zero]
      refine wpOrd_yield (v := .bool false) rfl (fun u _ => by go_simp) ?_
      simp only [Act.put, List.setIfInBounds_toArray, List.set_cons_succ, List.set_cons_zero]
      refine wpOrd_yield (v := .bool false) rfl (fun u _ => by go_simp) ?_
      simp only [Act.put, List.setIfInBounds_toArray, List.set_cons_succ, List.set_cons_zero]
      refine wpOrd_yield (v := .pointer (some ⟨W.heap.size, 0, none⟩)) rfl (fun u _ => by go_simp) ?_
      simp only [Act.put, List.setIfInBounds_toArray, List.set_cons_succ, List.set_cons_zero]
      refine wpOrd_yield (v := .int .i64 b) rfl (fun u hu => by go_simp) ?_
      simp only [Act.put, List.setIfInBounds_toArray, List.set_cons_succ, List.set_cons_zero]
      refine wpOrd_yield (v := .pointer (some ⟨d, 0, none⟩)) rfl (fun u _ => by go_simp) ?_
      simp only [Act.put, List.setIfInBounds_toArray, List.set_cons_succ, List.set_cons_zero]
      refine wpOrd_call rfl 56 _ _ rfl Tryz.call56 [.pointer (some ⟨d, 0, none⟩)] rfl ?_
      refine (HLn.out U HS3.out.has).mono ?_
      rintro e U2 ⟨rfl, he⟩
      obtain rfl := he.symm
      clear he
      refine ⟨_, rfl, Joins.cell_of_block HS3.out.geo 0, ?_⟩
      simp only [Act.put, List.setIfInBounds_toArray, List.set_cons_succ, List.set_cons_zero]
      refine wpOrd_yield (v := .bool true) rfl (fun u _ => by go_simp) ?_
      simp only [Act.put, List.setIfInBounds_toArray, List.set_cons_succ, List.set_cons_zero]
      refine wpOrd_yield (v := .bool true) rfl (fun u _ => by go_simp) ?_
      simp only [Act.put, List.setIfInBounds_toArray, List.set_cons_succ, List.set_cons_zero]
      refine wpOrd_yield (v := .bool true) rfl (fun u _ => by go_simp) ?_
      simp only [Act.put, List.setIfInBounds_toArray, List.set_cons_succ, List.set_cons_zero]
      refine wpOrd_nil ?_
      go_wp2_with (first | (with_reducible refine YtiadlcjdpbkbkaaGreat.isStoreR 43 ?_; refine YtiadlcjdpbkbkaaGreat.wpList_stR 43 rfl _ _ rfl (W.heap.size + 1) Z Z 43 HL0.out rfl HL1.out rfl rfl HS3.out.res ?_))
      exact YtiadlcjdpbkbkaaGreat.retCT Tryz.underlying43 rfl rfl (W.heap.size + 1) Z 43 HL0.out rfl (setRow_heap _ _ _ _ _ _ HS3.out.res) rfl ⟨rfl, HS3.out.set hP HH.out _⟩
    · have hgt : decide (n < b) = false := decide_eq_false hbn
      cases hst : s.stopped
      · have HE : Hid (rdyE b l i s = 0) := by show _ = _; rw [HRd.out, if_neg (by rintro (q | q); exact q rfl; exact hbn q), hst]; rfl
        clear HRd
        rw [HE.out]
        rw [hst] at HSt
        have HVi : Hid _ := HLI.out
        have HVs : Hid _ := HL2.out
        have HVo : Hid _ := HL3.out
        go_enter Tryz.func50, Tryz.ntmps50
        go_upto_region 1 with fail
        rw [← HA.out]
        clear HA
        go_wp2_with (go_at_call 56; fail)
        refine (HLn.out _ HS0.out.has).mono ?_
        rintro e V ⟨rfl, he⟩
        obtain rfl := he.symm
        clear he
        have HS1 : Hid _ := HS0.out
        clear HS0
        go_wp2_with (first | (with_reducible refine YtiadlcjdpbkbkaaGreat.isLoadR 41 ?_; refine YtiadlcjdpbkbkaaGreat.wpList_ldR 41 Tryz.underlying41 rfl rfl _ rfl W.heap.size rfl #[.int .i64 b, .int .i64 l, .int .i64 i] 41 (0, 0) HGi.out HS1.out.geo ?_) | (go_at_call 21; fail))
        refine (hOf _).mono ?_
        rintro e V1 ⟨rfl, hb1⟩
        have HS2 : Hid _ := HS1.out.later hP (below_next hb1 (below_new V1 (.cells Y 43)))
        have HV2 : Hid ((V1.alloc (.cells Y 43)).heap[V1.heap.size]? = some (.cells Y 43)) := heap_alloc_new _ _
        clear HS1 hb1 hOf
        go_upto_region 4 with (first | (with_reducible refine YtiadlcjdpbkbkaaGreat.isStoreR 43 ?_; refine YtiadlcjdpbkbkaaGreat.wpList_stNew 43 rfl _ _ rfl V1.heap.size Y Z 43 HVi.out HVs.out HVo.out rfl rfl rfl ?_))
        generalize V1.alloc (.cells Y 43) = V2 at *
        generalize V1.heap.size = gl at *
        have HS3 : Hid (RyS P W V2.drew d s b l i Z) := HS2.out.later hP (Below.refl _ _).drew
        have HV3 : Hid (V2.drew.heap[gl]? = some (.cells Y 43)) := HV2.out
        clear HS2 HV2
        refine wp_region_ord (S := fun u => u.cell? ⟨W.heap.size, 0, none⟩ = some (.int .i64 b)) [(0, true), (1, true), (2, true), (3, true), (4, true), (5, true), (6, false), (7, true), (8, true), (9, true)] (by kernel_rfl) rfl (by kernel_rfl) (fun d _ _ _ _ h => by cases d <;> exact h) (Joins.cell_of_block HS3.out.geo 0) ?_
        simp only [inOrd, List.getElem?_cons_zero, List.getElem?_cons_succ]
        generalize V2.drew = U at *
        refine wpOrd_yield (v := .int .i64 0) rfl (fun u _ => by go_simp) ?_
        simp only [Act.put, List.setIfInBounds_toArray, List.set_cons_succ, List.set_cons_zero]
        refine wpOrd_yield (v := .bool false) rfl (fun u _ => by go_simp) ?_
        simp only [Act.put, List.setIfInBounds_toArray, List.set_cons_succ, List.set_cons_zero]
        refine wpOrd_yield (v := .bool false) rfl (fun u _ => by go_simp) ?_
        simp only [Act.put, List.setIfInBounds_toArray, List.set_cons_succ, List.set_cons_zero]
        refine wpOrd_yield (v := .pointer (some ⟨W.heap.size, 0, none⟩)) rfl (fun u _ => by go_simp) ?_
        simp only [Act.put, List.setIfInBounds_toArray, List.set_cons_succ, List.set_cons_zero]
        refine wpOrd_yield (v := .int .i64 b) rfl (fun u hu => by go_simp) ?_
        simp only [Act.put, List.setIfInBounds_toArray, List.set_cons_succ, List.set_cons_zero]
        refine wpOrd_yield (v := .pointer (some ⟨d, 0, none⟩)) rfl (fun u _ => by go_simp) ?_
        simp only [Act.put, List.setIfInBounds_toArray, List.set_cons_succ, List.set_cons_zero]
        refine wpOrd_call rfl 56 _ _ rfl Tryz.call56 [.pointer (some ⟨d, 0, none⟩)] rfl ?_
        refine (HLn.out U HS3.out.has).mono ?_
        rintro e U2 ⟨rfl, he⟩
        obtain rfl := he.symm
        clear he
        refine ⟨_, rfl, Joins.cell_of_block HS3.out.geo 0, ?_⟩
        simp only [Act.put, List.setIfInBounds_toArray, List.set_cons_succ, List.set_cons_zero]
        refine wpOrd_yield (v := .bool false) rfl (fun u _ => by go_simp) ?_
        simp only [Act.put, List.setIfInBounds_toArray, List.set_cons_succ, List.set_cons_zero]
        refine wpOrd_yield (v := .bool false) rfl (fun u _ => by go_simp) ?_
        simp only [Act.put, List.setIfInBounds_toArray, List.set_cons_succ, List.set_cons_zero]
        refine wpOrd_yield (v := .bool false) rfl (fun u _ => by go_simp) ?_
        simp only [Act.put, List.setIfInBounds_toArray, List.set_cons_succ, List.set_cons_zero]
        refine wpOrd_nil ?_
        go_upto_region 6 with fail
        go_wp2_with (go_at_call 69; fail)
        refine (HSt.out _ HS3.out.has).mono ?_
        rintro e V ⟨rfl, he⟩
        obtain rfl := he.symm
        clear he
        go_wp2_with (first | (with_reducible refine YtiadlcjdpbkbkaaGreat.isLoadR 43 ?_; refine YtiadlcjdpbkbkaaGreat.wpList_ldR 43 Tryz.underlying43 rfl rfl _ rfl gl rfl Y 43 (0, 0) HVi.out HV3.out ?_) | (with_reducible refine YtiadlcjdpbkbkaaGreat.isStoreR 43 ?_; refine YtiadlcjdpbkbkaaGreat.wpList_stR 43 rfl _ _ rfl (W.heap.size + 1) Y Z 43 HVi.out HVs.out HVo.out rfl rfl HS3.out.res ?_))
        exact YtiadlcjdpbkbkaaGreat.retCT Tryz.underlying43 rfl rfl (W.heap.size + 1) Y 43 HVi.out rfl (setRow_heap _ _ _ _ _ _ HS3.out.res) rfl ⟨rfl, HS3.out.set hP HH.out _⟩
      · have HE : Hid (rdyE b l i s = 3) := by show _ = _; rw [HRd.out, if_neg (by rintro (q | q); exact q rfl; exact hbn q), hst]; rfl
        clear HRd
        rw [HE.out]
        rw [hst] at HSt
        have HVi : Hid _ := HLI.out
        have HVs : Hid _ := HL2.out
        have HVo : Hid _ := HL3.out
        go_enter Tryz.func50, Tryz.ntmps50
        go_upto_region 1 with fail
        rw [← HA.out]
        clear HA
        go_wp2_with (go_at_call 56; fail)
        refine (HLn.out _ HS0.out.has).mono ?_
        rintro e V ⟨rfl, he⟩
        obtain rfl := he.symm
        clear he
        have HS1 : Hid _ := HS0.out
        clear HS0
        go_wp2_with (first | (with_reducible refine YtiadlcjdpbkbkaaGreat.isLoadR 41 ?_; refine YtiadlcjdpbkbkaaGreat.wpList_ldR 41 Tryz.underlying41 rfl rfl _ rfl W.heap.size rfl #[.int .i64 b, .int .i64 l, .int .i64 i] 41 (0, 0) HGi.out HS1.out.geo ?_) | (go_at_call 21; fail))
        refine (hOf _).mono ?_
        rintro e V1 ⟨rfl, hb1⟩
        have HS2 : Hid _ := HS1.out.later hP (below_next hb1 (below_new V1 (.cells Y 43)))
        have HV2 : Hid ((V1.alloc (.cells Y 43)).heap[V1.heap.size]? = some (.cells Y 43)) := heap_alloc_new _ _
        clear HS1 hb1 hOf
        go_upto_region 4 with (first | (with_reducible refine YtiadlcjdpbkbkaaGreat.isStoreR 43 ?_; refine YtiadlcjdpbkbkaaGreat.wpList_stNew 43 rfl _ _ rfl V1.heap.size Y Z 43 HVi.out HVs.out HVo.out rfl rfl rfl ?_))
        generalize V1.alloc (.cells Y 43) = V2 at *
        generalize V1.heap.size = gl at *
        have HS3 : Hid (RyS P W V2.drew d s b l i Z) := HS2.out.later hP (Below.refl _ _).drew
        have HV3 : Hid (V2.drew.heap[gl]? = some (.cells Y 43)) := HV2.out
        clear HS2 HV2
        refine wp_region_ord (S := fun u => u.cell? ⟨W.heap.size, 0, none⟩ = some (.int .i64 b)) [(0, true), (1, true), (2, true), (3, true), (4, true), (5, true), (6, false), (7, true), (8, true), (9, true)] (by kernel_rfl) rfl (by kernel_rfl) (fun d _ _ _ _ h => by cases d <;> exact h) (Joins.cell_of_block HS3.out.geo 0) ?_
        simp only [inOrd, List.getElem?_cons_zero, List.getElem?_cons_succ]
        generalize V2.drew = U at *
        refine wpOrd_yield (v := .int .i64 0) rfl (fun u _ => by go_simp) ?_
        simp only [Act.put, List.setIfInBounds_toArray, List.set_cons_succ, List.set_cons_zero]
        refine wpOrd_yield (v := .bool false) rfl (fun u _ => by go_simp) ?_
        simp only [Act.put, List.setIfInBounds_toArray, List.set_cons_succ, List.set_cons_zero]
        refine wpOrd_yield (v := .bool false) rfl (fun u _ => by go_simp) ?_
        simp only [Act.put, List.setIfInBounds_toArray, List.set_cons_succ, List.set_cons_zero]
        refine wpOrd_yield (v := .pointer (some ⟨W.heap.size, 0, none⟩)) rfl (fun u _ => by go_simp) ?_
        simp only [Act.put, List.setIfInBounds_toArray, List.set_cons_succ, List.set_cons_zero]
        refine wpOrd_yield (v := .int .i64 b) rfl (fun u hu => by go_simp) ?_
        simp only [Act.put, List.setIfInBounds_toArray, List.set_cons_succ, List.set_cons_zero]
        refine wpOrd_yield (v := .pointer (some ⟨d, 0, none⟩)) rfl (fun u _ => by go_simp) ?_
        simp only [Act.put, List.setIfInBounds_toArray, List.set_cons_succ, List.set_cons_zero]
        refine wpOrd_call rfl 56 _ _ rfl Tryz.call56 [.pointer (some ⟨d, 0, none⟩)] rfl ?_
        refine (HLn.out U HS3.out.has).mono ?_
        rintro e U2 ⟨rfl, he⟩
        obtain rfl := he.symm
        clear he
        refine ⟨_, rfl, Joins.cell_of_block HS3.out.geo 0, ?_⟩
        simp only [Act.put, List.setIfInBounds_toArray, List.set_cons_succ, List.set_cons_zero]
        refine wpOrd_yield (v := .bool false) rfl (fun u _ => by go_simp) ?_
        simp only [Act.put, List.setIfInBounds_toArray, List.set_cons_succ, List.set_cons_zero]
        refine wpOrd_yield (v := .bool false) rfl (fun u _ => by go_simp) ?_
        simp only [Act.put, List.setIfInBounds_toArray, List.set_cons_succ, List.set_cons_zero]
        refine wpOrd_yield (v := .bool false) rfl (fun u _ => by go_simp) ?_
        simp only [Act.put, List.setIfInBounds_toArray, List.set_cons_succ, List.set_cons_zero]
        refine wpOrd_nil ?_
        go_upto_region 6 with fail
        go_wp2_with (go_at_call 69; fail)
        refine (HSt.out _ HS3.out.has).mono ?_
        rintro e V ⟨rfl, he⟩
        obtain rfl := he.symm
        clear he
        go_wp2_with (first | (with_reducible refine YtiadlcjdpbkbkaaGreat.isStoreR 43 ?_; refine YtiadlcjdpbkbkaaGreat.wpList_stR 43 rfl _ _ rfl (W.heap.size + 1) Z Z 43 HL0.out rfl HL1.out rfl rfl HS3.out.res ?_))
        exact YtiadlcjdpbkbkaaGreat.retCT Tryz.underlying43 rfl rfl (W.heap.size + 1) Z 43 HL0.out rfl (setRow_heap _ _ _ _ _ _ HS3.out.res) rfl ⟨rfl, HS3.out.set hP HH.out _⟩
  · have hoe : oe = 2 := by rw [HOE.out, if_neg hF]
    have hov : ov = .agg Z := by rw [HOV.out, if_neg hF]
    have HE : Hid (rdyE b l i s = 2) := by show _ = _; rw [HRd.out, hoe, if_pos (.inl (by decide))]
    subst hoe hov
    clear HOE HOV HRd hF
    rw [HE.out]
    have HVi : Hid _ := HL0.out
    have HVo : Hid _ := HL1.out
    obtain ⟨VR, hVR⟩ : ∃ VR, VR = Z := ⟨_, rfl⟩
    rw [← hVR] at hOf HVi HVo
    have HVs : Hid (Z.size = VR.size) := by rw [hVR]; exact (rfl : Z.size = Z.size)
    clear hVR
    go_enter Tryz.func50, Tryz.ntmps50
    go_upto_region 1 with fail
    rw [← HA.out]
    clear HA
    go_wp2_with (go_at_call 56; fail)
    refine (HLn.out _ HS0.out.has).mono ?_
    rintro e V ⟨rfl, he⟩
    obtain rfl := he.symm
    clear he
    have HS1 : Hid _ := HS0.out
    clear HS0
    go_wp2_with (first | (with_reducible refine YtiadlcjdpbkbkaaGreat.isLoadR 41 ?_; refine YtiadlcjdpbkbkaaGreat.wpList_ldR 41 Tryz.underlying41 rfl rfl _ rfl W.heap.size rfl #[.int .i64 b, .int .i64 l, .int .i64 i] 41 (0, 0) HGi.out HS1.out.geo ?_) | (go_at_call 21; fail))
    refine (hOf _).mono ?_
    rintro e V1 ⟨rfl, hb1⟩
    have HS2 : Hid _ := HS1.out.later hP (below_next hb1 (below_new V1 (.cells VR 43)))
    have HV2 : Hid ((V1.alloc (.cells VR 43)).heap[V1.heap.size]? = some (.cells VR 43)) := heap_alloc_new _ _
    clear HS1 hb1 hOf
    go_upto_region 4 with (first | (with_reducible refine YtiadlcjdpbkbkaaGreat.isStoreR 43 ?_; refine YtiadlcjdpbkbkaaGreat.wpList_stNew 43 rfl _ _ rfl V1.heap.size VR Z 43 HVi.out HVs.out HVo.out rfl rfl rfl ?_))
    generalize V1.alloc (.cells VR 43) = V2 at *
    generalize V1.heap.size = gl at *
    have HS3 : Hid (RyS P W V2.drew d s b l i Z) := HS2.out.later hP (Below.refl _ _).drew
    have HV3 : Hid (V2.drew.heap[gl]? = some (.cells VR 43)) := HV2.out
    clear HS2 HV2
    refine wp_region_ord (S := fun u => u.cell? ⟨W.heap.size, 0, none⟩ = some (.int .i64 b)) [(0, true), (1, true), (2, true), (3, true), (4, true), (5, true), (6, false), (7, true), (8, true), (9, true)] (by kernel_rfl) rfl (by kernel_rfl) (fun d _ _ _ _ h => by cases d <;> exact h) (Joins.cell_of_block HS3.out.geo 0) ?_
    simp only [inOrd, List.getElem?_cons_zero, List.getElem?_cons_succ]
    generalize V2.drew = U at *
    refine wpOrd_yield (v := .int .i64 2) rfl (fun u _ => by go_simp) ?_
    simp only [Act.put, List.setIfInBounds_toArray, List.set_cons_succ, List.set_cons_zero]
    refine wpOrd_yield (v := .bool true) rfl (fun u _ => by go_simp) ?_
    simp only [Act.put, List.setIfInBounds_toArray, List.set_cons_succ, List.set_cons_zero]
    refine wpOrd_yield (v := .bool true) rfl (fun u _ => by go_simp) ?_
    simp only [Act.put, List.setIfInBounds_toArray, List.set_cons_succ, List.set_cons_zero]
    refine wpOrd_skip (Joins.cell_of_block HS3.out.geo 0) rfl ?_
    simp only [Act.put, List.setIfInBounds_toArray, List.set_cons_succ, List.set_cons_zero]
    refine wpOrd_skip (Joins.cell_of_block HS3.out.geo 0) rfl ?_
    simp only [Act.put, List.setIfInBounds_toArray, List.set_cons_succ, List.set_cons_zero]
    refine wpOrd_skip (Joins.cell_of_block HS3.out.geo 0) rfl ?_
    simp only [Act.put, List.setIfInBounds_toArray, List.set_cons_succ, List.set_cons_zero]
    refine wpOrd_skip (Joins.cell_of_block HS3.out.geo 0) rfl ?_
    simp only [Act.put, List.setIfInBounds_toArray, List.set_cons_succ, List.set_cons_zero]
    refine wpOrd_skip (Joins.cell_of_block HS3.out.geo 0) rfl ?_
    simp only [Act.put, List.setIfInBounds_toArray, List.set_cons_succ, List.set_cons_zero]
    refine wpOrd_yield (v := .bool true) rfl (fun u _ => by go_simp) ?_
    simp only [Act.put, List.setIfInBounds_toArray, List.set_cons_succ, List.set_cons_zero]
    refine wpOrd_yield (v := .bool true) rfl (fun u _ => by go_simp) ?_
    simp only [Act.put, List.setIfInBounds_toArray, List.set_cons_succ, List.set_cons_zero]
    refine wpOrd_nil ?_
    go_wp2_with (first | (with_reducible refine YtiadlcjdpbkbkaaGreat.isStoreR 43 ?_; refine YtiadlcjdpbkbkaaGreat.wpList_stR 43 rfl _ _ rfl (W.heap.size + 1) Z Z 43 HL0.out rfl HL1.out rfl rfl HS3.out.res ?_))
    exact YtiadlcjdpbkbkaaGreat.retCT Tryz.underlying43 rfl rfl (W.heap.size + 1) Z 43 HL0.out rfl (setRow_heap _ _ _ _ _ _ HS3.out.res) rfl ⟨rfl, HS3.out.set hP HH.out _⟩
end Go.Proofs.YtiadlcjdpbkbkaaGreatD
/- Mkfs by the program: its three parts; the blocks are blocks of bytes; for every layout that may be. -/
namespace Go.Proofs.YtiadlcjdpbkbkaaGreatD
open Go.RowKit
/-- Bytes. -/
def ByF (f : Nat → Int) : Prop := ∀ i, 0 ≤ f i ∧ f i ≤ 255
theorem by_nought : ByF YtiadlcjdpbkbkaaGreat.nought := fun _ => by unfold YtiadlcjdpbkbkaaGreat.nought; omega
theorem by_over {F E : Nat → Int} (hF : ByF F) (hE : ByF E) (o n : Nat) : ByF (YtiadlcjdpbkbkaaGreatN.over F o n E) := fun i => by
  unfold YtiadlcjdpbkbkaaGreatN.over
  split
  · exact hE _
  · exact hF _
theorem by_putN : ∀ (n : Nat) {f : Nat → Int} (k : Nat) (v : Int), ByF f → ByF (YtiadlcjdpbkbkaaGreatK.putN f k v n)
  | 0, f, k, v, h => h
  | n + 1, f, k, v, h => by
    unfold YtiadlcjdpbkbkaaGreatK.putN
    refine by_putN n (k + 1) (v / 256) fun i => ?_
    unfold YtiadlcjdpbkbkaaGreatK.upd
    split
    · omega
    · exact h i
theorem by_encN (k l s b : Int) (d : Nat → Int) : ∀ m : Nat, ByF (YtiadlcjdpbkbkaaGreatK.encN k l s b d m)
  | 0 => by
    unfold YtiadlcjdpbkbkaaGreatK.encN
    refine by_putN _ _ _ (by_putN _ _ _ (by_putN _ _ _ (by_putN _ _ _ fun i => ?_)))
    unfold YtiadlcjdpbkbkaaGreatK.nought
    omega
  | m + 1 => by
    unfold YtiadlcjdpbkbkaaGreatK.encN
    exact by_putN _ _ _ (by_encN k l s b d m)
theorem by_enc (s : ByteArray) : ByF (YtiadlcjdpbkbkaaGreat.encF 1 s) := by
  unfold YtiadlcjdpbkbkaaGreat.encF
  split
  · intro j
    unfold YtiadlcjdpbkbkaaGreat.encP
    split
    · omega
    · split
      · omega
      · exact YtiadlcjdpbkbkaaGreat.byt_bd _ _
  · exact by_nought
theorem can_nd (g : Int) (rt : Bool) : Can (YtiadlcjdpbkbkaaGreat.ndF g rt) := by
  cases rt
  · exact ⟨by_nought, fun _ _ => rfl⟩
  · refine ⟨by_over by_nought (by_encN _ _ _ _ _ _) _ _, fun i hi => ?_⟩
    show YtiadlcjdpbkbkaaGreatN.over YtiadlcjdpbkbkaaGreat.nought 64 64 _ i = 0
    unfold YtiadlcjdpbkbkaaGreatN.over
    rw [if_neg (by omega)]
    rfl
theorem can_sl : Can YtiadlcjdpbkbkaaGreat.slF := by
  refine ⟨by_over (by_over by_nought (by_enc _) _ _) (by_enc _) _ _, fun i hi => ?_⟩
  show YtiadlcjdpbkbkaaGreatN.over (YtiadlcjdpbkbkaaGreatN.over YtiadlcjdpbkbkaaGreat.nought 0 16 _) 16 16 _ i = 0
  unfold YtiadlcjdpbkbkaaGreatN.over
  rw [if_neg (by omega), if_neg (by omega)]
  rfl
theorem can_bt (n : Nat) (hn : n ≤ 8192) : Can (YtiadlcjdpbkbkaaGreat.btF n) := by
  refine ⟨fun j => ?_, fun j hj => ?_⟩
  · unfold YtiadlcjdpbkbkaaGreat.btF
    split
    · omega
    · split
      · omega
      · have := YtiadlcjdpbkbkaaGreat.pow8 (n - 8 * j) (by omega)
        omega
  · unfold YtiadlcjdpbkbkaaGreat.btF
    rw [if_neg (by omega), if_pos (by omega)]
theorem can_co (b l i k : Int) : Can (YtiadlcjdpbkbkaaGreat.coF b l i k) := by
  unfold YtiadlcjdpbkbkaaGreat.coF
  split
  · exact can_nd _ _
  · split
    · exact can_bt _ (by omega)
    · exact can_sl
theorem can_super (b l i : Int) : Can (YtiadlcjdpbkbkaaGreatP.superF b l i) := by
  refine ⟨fun j => YtiadlcjdpbkbkaaGreatP.supF_byte _ j, fun j hj => ?_⟩
  unfold YtiadlcjdpbkbkaaGreatP.superF YtiadlcjdpbkbkaaGreatP.supF
  rw [if_neg (by omega), if_neg (by omega)]
theorem head_nil : blk (YtiadlcjdpbkbkaaGreatD.H.headF []) = blk nought := blk_congr fun j hj => by
  show YtiadlcjdpbkbkaaGreatD.H.wordF [((0 : Nat) : Int)] j = 0
  unfold YtiadlcjdpbkbkaaGreatD.H.wordF
  rcases (show j / 4 = 0 ∨ 1 ≤ j / 4 by omega) with h | h
  · rw [h]; simp
  · rw [List.getD_eq_getElem?_getD, List.getElem?_eq_none (by simpa using h)]; simp
theorem headEnc_ok {b l i : Int} (hf : YtiadlcjdpbkbkaaGreatP.Fine b l i) (w : World) :
    Calls Tryz.prog 22 #[YtiadlcjdpbkbkaaGreatP.layV b l i, .agg #[.slice none 0 0]] w fun e w' => e = .returned (.tuple #[.agg (blk nought), .int .i64 0]) ∧ Below w.heap.size w w' := by
  obtain ⟨b1, b2, b3, b4, _⟩ := YtiadlcjdpbkbkaaGreat.fine_bd hf
  have h := YtiadlcjdpbkbkaaGreatD.H.enc_ok b l i 1 (1 + l) (YtiadlcjdpbkbkaaGreatP.nodeB i) (YtiadlcjdpbkbkaaGreatP.bitsAt l i) (YtiadlcjdpbkbkaaGreatP.bitsB b) (YtiadlcjdpbkbkaaGreatP.dataAt b l i) [] none 0 w (by unfold YtiadlcjdpbkbkaaGreatD.H.I64; omega) (decide_eq_true ⟨hf, rfl, rfl, rfl, rfl, rfl, rfl⟩) ⟨b3, b4⟩ (fun q => by simp at q) (fun x hx => by simp at hx) (by simp) (decide_eq_true ⟨by simp; omega, fun t ht => by simp at ht, List.Pairwise.nil⟩)
  rw [show YtiadlcjdpbkbkaaGreatD.blk (YtiadlcjdpbkbkaaGreatD.H.headF []) = blk nought from head_nil] at h
  exact h
theorem superEnc_ok {b l i : Int} (hf : YtiadlcjdpbkbkaaGreatP.Fine b l i) (w : World) :
    Calls Tryz.prog 71 #[YtiadlcjdpbkbkaaGreatP.layV b l i] w fun e w' => e = .returned (.tuple #[.agg (blk (YtiadlcjdpbkbkaaGreatP.superF b l i)), .int .i64 0]) ∧ Below w.heap.size w w' := YtiadlcjdpbkbkaaGreatP.encode_fine b l i w hf
theorem contentD_ok {b l i k : Int} (hf : YtiadlcjdpbkbkaaGreatP.Fine b l i) (hk : 1 + l ≤ k ∧ k ≤ YtiadlcjdpbkbkaaGreatP.dataAt b l i) (w : World) :
    Calls Tryz.prog 70 #[YtiadlcjdpbkbkaaGreatP.layV b l i, .int .i64 k] w fun e w' => e = .returned (.agg (blk (YtiadlcjdpbkbkaaGreat.coF b l i k))) ∧ Below w.heap.size w w' := YtiadlcjdpbkbkaaGreat.content_ok b l i k hf hk w
variable {P : World → Loc → Prop} {W : World} {d : Nat} {s : St}
theorem zeroBk : ∀ w, (zeroValue 47).run Tryz.prog w = .ok (.agg (blk nought)) w := YtiadlcjdpbkbkaaGreat.zero77
theorem buildBk (u : World) : (Instr.build 47 #[]).run Tryz.prog u = .ok (.agg (blk nought)) u := by
  have z := zeroBk u
  generalize blk nought = B at *
  simp [go_sem, z]
set_option maxRecDepth 20000 in
set_option maxHeartbeats 1000000 in
theorem erase_ok (hP : Stays P) (h : Has P W d s) (hr : Room s) (b l i : Int) :
    Calls Tryz.prog 52 #[.pointer (some ⟨d, 0, none⟩), YtiadlcjdpbkbkaaGreatP.layV b l i] W fun e W' => e = .returned (.int .i64 (runL s mkA).2) ∧ Has P W' d (runL s mkA).1 := by
  have hb := buildBk
  have hwr := has_write hP (h.later hP (below_new W (.cells (YtiadlcjdpbkbkaaGreatP.lay9 b l i 1 (1 + l) (YtiadlcjdpbkbkaaGreatP.nodeB i) (YtiadlcjdpbkbkaaGreatP.bitsAt l i) (YtiadlcjdpbkbkaaGreatP.bitsB b) (YtiadlcjdpbkbkaaGreatP.dataAt b l i)) 43))) hr 0 can_nought
  have hE : (runL s mkA) = (writeV s 0 nought, writeE s 0) := by
    unfold mkA
    rw [runL_cons]
    show (if writeE s 0 = 0 then (writeV s 0 nought, 0) else (writeV s 0 nought, writeE s 0)) = _
    split
    · rename_i q; rw [q]
    · rfl
  rw [hE]
  clear hE
  unfold YtiadlcjdpbkbkaaGreatP.layV
  generalize YtiadlcjdpbkbkaaGreatP.lay9 b l i 1 (1 + l) (YtiadlcjdpbkbkaaGreatP.nodeB i) (YtiadlcjdpbkbkaaGreatP.bitsAt l i) (YtiadlcjdpbkbkaaGreatP.bitsB b) (YtiadlcjdpbkbkaaGreatP.dataAt b l i) = L at *
  generalize nought = N at *
  clear h
  go_enter Tryz.func52, Tryz.ntmps52
  go_wp2_with (first | refine wpList_build58w rfl rfl hb ?_ | (go_at_call 23; fail))
  refine hwr.mono ?_
  rintro e W1 ⟨rfl, h1⟩
  go_wp2
  go_ret
  exact ⟨rfl, h1⟩
set_option maxRecDepth 20000 in
set_option maxHeartbeats 2000000 in
theorem sign_ok (hP : Stays P) (h : Has P W d s) (hr : Room s) {b l i : Int} (hf : YtiadlcjdpbkbkaaGreatP.Fine b l i) :
    Calls Tryz.prog 54 #[.pointer (some ⟨d, 0, none⟩), YtiadlcjdpbkbkaaGreatP.layV b l i] W fun e W' => e = .returned (.int .i64 (runL s (mkC b l i)).2) ∧ Has P W' d (runL s (mkC b l i)).1 := by
  have hen := fun u => superEnc_ok hf u
  have hcs := can_super b l i
  have hE : runL s (mkC b l i) = (writeV s 0 (YtiadlcjdpbkbkaaGreatP.superF b l i), writeE s 0) := by
    unfold mkC
    rw [runL_cons]
    show (if writeE s 0 = 0 then (writeV s 0 (YtiadlcjdpbkbkaaGreatP.superF b l i), 0) else (writeV s 0 (YtiadlcjdpbkbkaaGreatP.superF b l i), writeE s 0)) = _
    split
    · rename_i q; rw [q]
    · rfl
  rw [hE]
  clear hE
  have hz := zeroBk
  have HI : Hid _ := layIn b l i
  unfold YtiadlcjdpbkbkaaGreatP.layV at *
  generalize YtiadlcjdpbkbkaaGreatP.lay9 b l i 1 (1 + l) (YtiadlcjdpbkbkaaGreatP.nodeB i) (YtiadlcjdpbkbkaaGreatP.bitsAt l i) (YtiadlcjdpbkbkaaGreatP.bitsB b) (YtiadlcjdpbkbkaaGreatP.dataAt b l i) = L at *
  generalize YtiadlcjdpbkbkaaGreatP.superF b l i = F at *
  have HP : Hid (∀ V, Has P V d s → Calls Tryz.prog 23 #[.pointer (some ⟨d, 0, none⟩), .int .i64 0, .agg (blk F)] V fun e W' => e = .returned (.int .i64 (writeE s 0)) ∧ Has P W' d (writeV s 0 F)) := fun V hV => has_write hP hV hr 0 hcs
  have HH : Hid (Has P (W.alloc (.cells L 43)) d s) := h.later hP (below_new _ _)
  have HL : Hid ((W.alloc (.cells L 43)).heap[W.heap.size]? = some (.cells L 43)) := heap_alloc_new _ _
  clear h
  go_enter Tryz.func54, Tryz.ntmps54
  go_upto_region 1 with fail
  generalize W.alloc (.cells L 43) = V at *
  go_wp2_with (first | (with_reducible refine YtiadlcjdpbkbkaaGreat.isLoadR 43 ?_; refine YtiadlcjdpbkbkaaGreat.wpList_ldR 43 Tryz.underlying43 rfl rfl _ rfl W.heap.size rfl L 43 (0, 0) HI.out HL.out ?_) | (go_at_call 71; fail))
  refine (hen _).mono ?_
  rintro e V1 ⟨rfl, hb⟩
  have HH1 : Hid (Has P (V1.alloc (.cells (blk F) 47)) d s) := (HH.out.later hP hb).later hP (below_new _ _)
  have HB : Hid ((V1.alloc (.cells (blk F) 47)).heap[V1.heap.size]? = some (.cells (blk F) 47)) := heap_alloc_new _ _
  clear HH hb hen
  go_upto_region 2 with (first | refine wpList_store58_new rfl _ _ rfl F _ V1.heap.size rfl rfl rfl ?_)
  generalize V1.alloc (.cells (blk F) 47) = V2 at *
  generalize V1.heap.size = gb at *
  go_wp2_with (first | refine wpList_load58w rfl _ rfl gb rfl F HB.out ?_ | (go_at_call 23; fail))
  refine (HP.out _ HH1.out).mono ?_
  rintro e W1 ⟨rfl, h1⟩
  go_wp2
  go_ret
  exact ⟨rfl, h1⟩
theorem buildHd (u : World) : (Instr.build 52 #[]).run Tryz.prog u = .ok (.agg #[.slice none 0 0]) u := by
  have z : ∀ w, (zeroValue 52).run Tryz.prog w = .ok (.agg #[.slice none 0 0]) w := (zero_of_info (show (Tryz.prog.info? 52).map (fun i => (i.zero, i.size)) = some (some (.agg #[.slice none 0 0]), 1) by kernel_rfl)).1
  simp [go_sem, z]
/-- What is beside the disk while fill goes: the layout and the header. -/
structure FlS (P : World → Loc → Prop) (W0 W : World) (d : Nat) (s : St) (L : Array Value) (gb : Nat) : Prop where
  has : Has P W d s
  lay : W.heap[W0.heap.size]? = some (.cells L 43)
  hdr : W.heap[gb]? = some (.cells (blk nought) 47)
  bel : W0.heap.size < W.heap.size
/-- Blocks stay beside a disk that stays apart from them. -/
def Keep2 (P : World → Loc → Prop) (g : Nat) (o : Obj) (W : World) (L : Loc) : Prop := P W L ∧ W.heap[g]? = some o ∧ ¬ L.has g
theorem keep2_stays {P : World → Loc → Prop} (hP : Stays P) (g : Nat) (o : Obj) : Stays (Keep2 P g o) := fun W W' L L' hlt ⟨h1, h2, h3⟩ hG => by
  have hg : g < W.heap.size := (Array.getElem?_eq_some_iff.1 h2).1
  refine ⟨hP W W' L L' hlt h1 hG, (hG.fr.block g hg h3).trans h2, fun q => ?_⟩
  rcases hG.own g q with r | r
  · exact h3 r
  · omega
theorem Has.keep2 {P : World → Loc → Prop} {W : World} {d : Nat} {s : St} (hP : Stays P) (h : Has P W d s) (o : Obj) : Has (Keep2 P W.heap.size o) (W.alloc o) d s := by
  obtain ⟨L, hd, hD, hp⟩ := h
  exact ⟨L, hd, hD.later (below_new W o), hP _ _ L L hD.lt hp (Goes.ofBelow L (below_new W o)), heap_alloc_new _ _, fun q => by have := hD.lt _ q; omega⟩
theorem Has.unkeep2 {P : World → Loc → Prop} {W : World} {d g : Nat} {s : St} {o : Obj} (h : Has (Keep2 P g o) W d s) : Has P W d s ∧ W.heap[g]? = some o := by
  obtain ⟨L, hd, hD, h1, h2, _⟩ := h
  exact ⟨⟨L, hd, hD, h1⟩, h2⟩
set_option maxRecDepth 20000 in
set_option maxHeartbeats 4000000 in
theorem fill_ok (hP : Stays P) (h : Has P W d s) {b l i : Int} (hf : YtiadlcjdpbkbkaaGreatP.Fine b l i) (hw : Wide s (mkN b l i + 2)) :
    Calls Tryz.prog 53 #[.pointer (some ⟨d, 0, none⟩), YtiadlcjdpbkbkaaGreatP.layV b l i] W fun e W' => e = .returned (.int .i64 (runL s (mkB b l i)).2) ∧ Has P W' d (runL s (mkB b l i)).1 := by
  have hen := fun u => headEnc_ok hf u
  have hco : ∀ k : Nat, k < mkN b l i → ∀ u, Calls Tryz.prog 70 #[YtiadlcjdpbkbkaaGreatP.layV b l i, .int .i64 (1 + l + (k : Int))] u fun e w' => e = .returned (.agg (blk (YtiadlcjdpbkbkaaGreat.coF b l i (1 + l + (k : Int))))) ∧ Below u.heap.size u w' := fun k hk u => contentD_ok hf (by unfold mkN at hk; obtain ⟨b1, b2, b3, b4, b5, b6, b7, b8⟩ := YtiadlcjdpbkbkaaGreat.fine_bd hf; omega) u
  have HF : Hid (35 ≤ b ∧ b ≤ 1048576 ∧ 32 ≤ l ∧ l ≤ 256 ∧ (mkN b l i : Int) = YtiadlcjdpbkbkaaGreatP.dataAt b l i - l ∧ YtiadlcjdpbkbkaaGreatP.dataAt b l i < b) := by
    obtain ⟨b1, b2, b3, b4, b5, b6, b7, b8⟩ := YtiadlcjdpbkbkaaGreat.fine_bd hf
    show _ ∧ _
    unfold mkN
    omega
  have HR : Hid (∀ j, j < mkN b l i → mkR b l i j = some (1 + l + (j : Int), YtiadlcjdpbkbkaaGreat.coF b l i (1 + l + (j : Int))) :: mkR b l i (j + 1)) := fun j hj => mkR_step b l i j hj
  have HRe : Hid (mkR b l i (mkN b l i) = []) := mkR_end b l i
  have HB0 : Hid (runL s (mkB b l i) = if writeE s 1 = 0 then runL (writeV s 1 nought) (mkR b l i 0) else (writeV s 1 nought, writeE s 1)) := by
    show _ = _
    unfold mkB
    exact runL_cons _ _ _
  have HCn : Hid (∀ k : Int, Can (YtiadlcjdpbkbkaaGreat.coF b l i k)) := can_co b l i
  have HCz : Hid (Can nought) := can_nought
  have hbh := buildHd
  have HI : Hid _ := layIn b l i
  have l3 : (YtiadlcjdpbkbkaaGreatP.lay9 b l i 1 (1 + l) (YtiadlcjdpbkbkaaGreatP.nodeB i) (YtiadlcjdpbkbkaaGreatP.bitsAt l i) (YtiadlcjdpbkbkaaGreatP.bitsB b) (YtiadlcjdpbkbkaaGreatP.dataAt b l i))[3]? = some (.int .i64 1) := rfl
  have l4 : (YtiadlcjdpbkbkaaGreatP.lay9 b l i 1 (1 + l) (YtiadlcjdpbkbkaaGreatP.nodeB i) (YtiadlcjdpbkbkaaGreatP.bitsAt l i) (YtiadlcjdpbkbkaaGreatP.bitsB b) (YtiadlcjdpbkbkaaGreatP.dataAt b l i))[4]? = some (.int .i64 (1 + l)) := rfl
  have l8 : (YtiadlcjdpbkbkaaGreatP.lay9 b l i 1 (1 + l) (YtiadlcjdpbkbkaaGreatP.nodeB i) (YtiadlcjdpbkbkaaGreatP.bitsAt l i) (YtiadlcjdpbkbkaaGreatP.bitsB b) (YtiadlcjdpbkbkaaGreatP.dataAt b l i))[8]? = some (.int .i64 (YtiadlcjdpbkbkaaGreatP.dataAt b l i)) := rfl
  have HL3 : Hid _ := l3
  have HL4 : Hid _ := l4
  have HL8 : Hid _ := l8
  clear l3 l4 l8
  unfold YtiadlcjdpbkbkaaGreatP.layV at *
  generalize YtiadlcjdpbkbkaaGreatP.lay9 b l i 1 (1 + l) (YtiadlcjdpbkbkaaGreatP.nodeB i) (YtiadlcjdpbkbkaaGreatP.bitsAt l i) (YtiadlcjdpbkbkaaGreatP.bitsB b) (YtiadlcjdpbkbkaaGreatP.dataAt b l i) = L at *
  have HCo : Hid (∀ k : Nat, k < mkN b l i → ∀ u, Calls Tryz.prog 70 #[.agg L, .int .i64 (1 + l + (k : Int))] u fun e w' => e = .returned (.agg (blk (YtiadlcjdpbkbkaaGreat.coF b l i (1 + l + (k : Int))))) ∧ Below u.heap.size u w') := hco
  clear hco
  obtain ⟨R, hR⟩ : ∃ R, runL s (mkB b l i) = R := ⟨_, rfl⟩
  rw [hR] at HB0 ⊢
  generalize YtiadlcjdpbkbkaaGreatP.dataAt b l i = D at *
  generalize mkR b l i = mr at *
  generalize YtiadlcjdpbkbkaaGreat.coF b l i = cf at *
  generalize mkN b l i = n at *
  have HWr : Hid (∀ (Q : World → Loc → Prop), Stays Q → ∀ (t : St) (V : World) (k : Int) (f : Nat → Int), Room t → Can f → Has Q V d t → Calls Tryz.prog 23 #[.pointer (some ⟨d, 0, none⟩), .int .i64 k, .agg (blk f)] V fun e W' => e = .returned (.int .i64 (writeE t k)) ∧ Has Q W' d (writeV t k f)) := fun Q hQ t V k f hr hc hV => has_write hQ hV hr k hc
  have HK : Hid (Has (Keep2 P W.heap.size (.cells L 43)) (W.alloc (.cells L 43)) d s) := h.keep2 hP _
  have hKs := keep2_stays hP W.heap.size (.cells L 43)
  have HKs : Hid _ := hKs
  have HU : Hid (∀ V t, Has (Keep2 P W.heap.size (.cells L 43)) V d t → Has P V d t) := fun V t q => q.unkeep2.1
  have HUl : Hid (∀ V t, Has (Keep2 P W.heap.size (.cells L 43)) V d t → V.heap[W.heap.size]? = some (.cells L 43)) := fun V t q => q.unkeep2.2
  clear h hR
  generalize Keep2 P W.heap.size (.cells L 43) = KP at *
  go_enter Tryz.func53, Tryz.ntmps53
  go_upto_region 1 with fail
  generalize W.alloc (.cells L 43) = V at *
  have HLy : Hid _ := HUl.out _ _ HK.out
  have hz := zeroBk
  go_wp2_with (first | (with_reducible refine YtiadlcjdpbkbkaaGreat.isLoadR 43 ?_; refine YtiadlcjdpbkbkaaGreat.wpList_ldR 43 Tryz.underlying43 rfl rfl _ rfl W.heap.size rfl L 43 (0, 0) HI.out HLy.out ?_) | (go_at_call 22; fail))
  refine (hen _).mono ?_
  rintro e V1 ⟨rfl, hb⟩
  have HK1 : Hid (Has KP (V1.alloc (.cells (blk nought) 47)) d s) := (HK.out.later hKs hb).later hKs (below_new _ _)
  have HB : Hid ((V1.alloc (.cells (blk nought) 47)).heap[V1.heap.size]? = some (.cells (blk nought) 47)) := heap_alloc_new _ _
  clear HK hb hen HLy
  generalize nought = N at *
  go_upto_region 2 with (first | refine wpList_store58_new rfl _ _ rfl N _ V1.heap.size rfl rfl rfl ?_)
  generalize V1.alloc (.cells (blk N) 47) = V2 at *
  generalize V1.heap.size = gb at *
  have hLy2 := HUl.out _ _ HK1.out
  have c3 : V2.cell? ⟨W.heap.size, 3, none⟩ = some (.int .i64 1) := (cell_of_row _ _ 3 _ _ _ hLy2).trans HL3.out
  clear hLy2
  go_wp2_with (first | refine wpList_load58w rfl _ rfl gb rfl N HB.out ?_ | (go_at_call 23; fail))
  refine (HWr.out KP hKs s V2 1 N hw.room HCz.out HK1.out).mono ?_
  rintro e V3 ⟨rfl, hK3⟩
  have HK3 : Hid (Has KP V3 d (writeV s 1 N)) := hK3
  have HW3 : Hid (Wide (writeV s 1 N) (n + 1)) := Wide.doV hw (some (1, N))
  have c4 : V3.cell? ⟨W.heap.size, 4, none⟩ = some (.int .i64 (1 + l)) := (cell_of_row _ _ 4 _ _ _ (HUl.out _ _ hK3)).trans HL4.out
  clear hK3 HK1 c3 HB hw
  generalize writeV s 1 N = t0 at *
  generalize writeE s 1 = e0 at *
  go_wp2_with fail
  clear c4
  go_loopw [6, 7] (fun s6 s7 wx => ∃ (j : Nat) (t : St) (er : Int), j ≤ n ∧ s7 = .int .i64 (1 + l + (j : Int)) ∧ s6 = .int .i64 er ∧ Hid (Has KP wx d t) ∧ Hid (R = if er = 0 then runL t (mr j) else (t, er)) ∧ Hid (Wide t (n + 1 - j))) (fun _ s7 _ => (1 + l + n - intOf s7).toNat)
  case atStart => exact ⟨0, t0, e0, by omega, by simp, rfl, HK3.out, HB0.out, HW3.out⟩
  case round =>
    obtain ⟨j, t, er, hj, rfl, rfl, HT, HRt, HWt⟩ := hrel
    clear HK3 HB0 HW3
    have c8 : wr.cell? ⟨W.heap.size, 8, none⟩ = some (.int .i64 D) := (cell_of_row _ _ 8 _ _ _ (HUl.out _ _ HT.out)).trans HL8.out
    by_cases her : er = 0
    · subst her
      have hRt := HRt.out
      rw [if_pos rfl] at hRt
      by_cases hjn : j < n
      · have hd : decide (1 + l + (j : Int) ≤ D) = true := decide_eq_true (by have := HF.out; omega)
        have HR2 : Hid (R = if writeE t (1 + l + (j : Int)) = 0 then runL (writeV t (1 + l + (j : Int)) (cf (1 + l + (j : Int)))) (mr (j + 1)) else (writeV t (1 + l + (j : Int)) (cf (1 + l + (j : Int))), writeE t (1 + l + (j : Int)))) := by
          show _ = _
          rw [hRt, HR.out j hjn]
          exact runL_cons _ _ _
        have HJ : Hid (j < n ∧ n + 1 - j = (n + 1 - (j + 1)) + 1) := ⟨hjn, by omega⟩
        have HCj : Hid _ := HCo.out j hjn
        have W1 : IntKind.i64.wrap (1 + l + (j : Int) + 1) = 1 + l + ((j + 1 : Nat) : Int) := by have := HF.out; rw [IntKind.wrap_i64]; omega
        clear HRt hRt hjn hj
        go_wp2_with (first | (with_reducible refine YtiadlcjdpbkbkaaGreat.isLoadR 43 ?_; refine YtiadlcjdpbkbkaaGreat.wpList_ldR 43 Tryz.underlying43 rfl rfl _ rfl W.heap.size rfl L 43 (0, 0) HI.out (HUl.out _ _ HT.out) ?_) | (go_at_call 70; fail))
        refine (HCj.out _).mono ?_
        rintro e V4 ⟨rfl, hb4⟩
        have HT4 : Hid _ := HT.out.later hKs hb4
        have hWj := HWt.out
        rw [HJ.out.2] at hWj
        clear HT hb4 HCj c8
        go_wp2_with (go_at_call 23; fail)
        refine (HWr.out KP hKs t V4 (1 + l + (j : Int)) (cf (1 + l + (j : Int))) hWj.room (HCn.out _) HT4.out).mono ?_
        rintro e V5 ⟨rfl, hK5⟩
        have HK5 : Hid _ := hK5
        have HW5 : Hid (Wide (writeV t (1 + l + (j : Int)) (cf (1 + l + (j : Int)))) (n + 1 - (j + 1))) := hWj.doV (some (1 + l + (j : Int), cf (1 + l + (j : Int))))
        clear hK5 hWj HT4 HWt
        generalize writeV t (1 + l + (j : Int)) (cf (1 + l + (j : Int))) = t2 at *
        generalize writeE t (1 + l + (j : Int)) = e2 at *
        go_wp2_with fail
        exact ⟨⟨j + 1, t2, e2, by have := HJ.out; omega, rfl, rfl, HK5.out, HR2.out, HW5.out⟩, by have := HJ.out; simp [intOf]; omega⟩
      · obtain rfl : j = n := by omega
        have hd : decide (1 + l + (j : Int) ≤ D) = false := decide_eq_false (by have := HF.out; omega)
        have HRr : Hid (R = (t, 0)) := by show _ = _; rw [hRt, HRe.out]; rfl
        clear HRt hRt hjn HWt
        go_wp2_with fail
        go_ret
        exact ⟨by rw [HRr.out]; rfl, by rw [HRr.out]; exact HU.out _ _ HT.out⟩
    · have HRr : Hid (R = (t, er)) := by show _ = _; rw [HRt.out, if_neg her]
      have her2 : (er == 0) = false := by simpa using her
      clear HRt HWt her
      by_cases hd0 : 1 + l + (j : Int) ≤ D
      · have hd : decide (1 + l + (j : Int) ≤ D) = true := decide_eq_true hd0
        clear hd0
        go_wp2_with fail
        go_ret
        exact ⟨by rw [HRr.out]; rfl, by rw [HRr.out]; exact HU.out _ _ HT.out⟩
      · have hd : decide (1 + l + (j : Int) ≤ D) = false := decide_eq_false hd0
        clear hd0
        go_wp2_with fail
        go_ret
        exact ⟨by rw [HRr.out]; rfl, by rw [HRr.out]; exact HU.out _ _ HT.out⟩
end Go.Proofs.YtiadlcjdpbkbkaaGreatD
/- Mkfs by the program: Make; for every disk and geometry, numbers of calls not past their greatest. -/
namespace Go.Proofs.YtiadlcjdpbkbkaaGreatD
open Go.RowKit
theorem runL_part (p r : List MOp) (t : St) : runL t (p ++ none :: r) = if (runL t p).2 = 0 then (if barE (runL t p).1 = 0 then runL (barV (runL t p).1) r else (barV (runL t p).1, barE (runL t p).1)) else runL t p := by
  rw [runL_append]
  rfl
theorem mkL_zero (b l i : Int) : mkL b l i 0 = mkA ++ none :: mkL b l i 1 := rfl
theorem mkL_one (b l i : Int) : mkL b l i 1 = mkB b l i ++ none :: mkL b l i 2 := rfl
theorem mkL_two (b l i : Int) : mkL b l i 2 = mkC b l i ++ none :: mkL b l i 3 := rfl
theorem Wide.bar {t : St} {k : Nat} (h : Wide t (k + 1)) : Wide (barV t) k := h.doV none
theorem mkN_le {b l i : Int} (hf : YtiadlcjdpbkbkaaGreatP.Fine b l i) : mkN b l i ≤ 4300 := by
  obtain ⟨h1, h2, h3, h4, h5, h6⟩ := hf
  unfold mkN
  unfold YtiadlcjdpbkbkaaGreatP.dataAt YtiadlcjdpbkbkaaGreatP.bitsAt YtiadlcjdpbkbkaaGreatP.nodeB YtiadlcjdpbkbkaaGreatP.bitsB at *
  omega
theorem mkA_len : mkA.length = 1 := rfl
theorem mkB_len (b l i : Int) : (mkB b l i).length = mkN b l i + 1 := by unfold mkB; rw [List.length_cons, mkR_len]; rfl
theorem mkC_len (b l i : Int) : (mkC b l i).length = 1 := rfl
theorem claimV_wide {s : St} {k : Nat} (h : Wide s k) (hc : s.claims < 1000000000) : Wide (claimV s) k := by
  unfold claimV
  split
  · exact h
  · exact ⟨h.ops, h.made, h.reads, by show s.claims + 1 < _; omega⟩
def wdN (n m : Nat) : Nat := if m = 0 then n + 100 else if m = 1 then n + 98 else if m = 2 then 90 else 80
def ptV : Value := .agg #[.func (.func 52) #[] #[], .func (.func 53) #[] #[], .func (.func 54) #[] #[]]
theorem idx3a (u : World) : (Instr.index 99 ptV (.int .i64 0)).run Tryz.prog u = .ok (.func (.func 52) #[] #[]) u := by
  unfold ptV
  simp [Instr.index, run_underlying Tryz.underlying99, asIntOf, part, Tryz.isAgg98, go_sem]
theorem idx3b (u : World) : (Instr.index 99 ptV (.int .i64 1)).run Tryz.prog u = .ok (.func (.func 53) #[] #[]) u := by
  unfold ptV
  simp [Instr.index, run_underlying Tryz.underlying99, asIntOf, part, Tryz.isAgg98, go_sem]
theorem idx3c (u : World) : (Instr.index 99 ptV (.int .i64 2)).run Tryz.prog u = .ok (.func (.func 54) #[] #[]) u := by
  unfold ptV
  simp [Instr.index, run_underlying Tryz.underlying99, asIntOf, part, Tryz.isAgg98, go_sem]
variable {P : World → Loc → Prop} {W : World} {d : Nat} {s : St}
theorem rdy_fine {b l i : Int} {s : St} (h : rdyE b l i s = 0) : YtiadlcjdpbkbkaaGreatP.Fine b l i := by
  unfold rdyE YtiadlcjdpbkbkaaGreatP.ofE at h
  by_cases hf : YtiadlcjdpbkbkaaGreatP.Fine b l i
  · exact hf
  · rw [if_neg hf] at h
    rw [if_pos (.inl (by decide))] at h
    omega
set_option maxRecDepth 20000 in
set_option maxHeartbeats 4000000 in
theorem make_ok (hP : Stays P) (h : Has P W d s) (b l i : Int) (hb : YtiadlcjdpbkbkaaGreatP.I64 b) (hw : Wide s 10000) (hc : s.claims < 1000000000) :
    Calls Tryz.prog 25 #[.pointer (some ⟨d, 0, none⟩), YtiadlcjdpbkbkaaGreatP.geoV b l i] W fun e W' => e = .returned (.int .i64 (mkE b l i s)) ∧ Has P W' d (mkV b l i s) := by
  have hK : Has P (W.alloc (.cells #[.int .i64 b, .int .i64 l, .int .i64 i] 41)) d s := h.later hP (below_new _ _)
  have hrd := ready_ok hP hK b l i hb
  have hG : (W.alloc (.cells #[.int .i64 b, .int .i64 l, .int .i64 i] 41)).heap[W.heap.size]? = some (.cells #[.int .i64 b, .int .i64 l, .int .i64 i] 41) := heap_alloc_new _ _
  have HGi : Hid ((Tryz.prog.info? 41).map (·.size) = some (#[Value.int .i64 b, .int .i64 l, .int .i64 i] : Array Value).size) := by show _ = _; kernel_rfl
  have HG : Hid _ := hG
  have zl := zeroLy
  have HI : Hid _ := layIn b l i
  have HZi : Hid _ := lay9_size 0 0 0 0 0 0 0 0 0
  have HZo : Hid _ := lay9_one 0 0 0 0 0 0 0 0 0
  have HLo : Hid _ := lay9_one b l i 1 (1 + l) (YtiadlcjdpbkbkaaGreatP.nodeB i) (YtiadlcjdpbkbkaaGreatP.bitsAt l i) (YtiadlcjdpbkbkaaGreatP.bitsB b) (YtiadlcjdpbkbkaaGreatP.dataAt b l i)
  have HLs : Hid ((YtiadlcjdpbkbkaaGreatP.lay9 0 0 0 0 0 0 0 0 0).size = (YtiadlcjdpbkbkaaGreatP.lay9 b l i 1 (1 + l) (YtiadlcjdpbkbkaaGreatP.nodeB i) (YtiadlcjdpbkbkaaGreatP.bitsAt l i) (YtiadlcjdpbkbkaaGreatP.bitsB b) (YtiadlcjdpbkbkaaGreatP.dataAt b l i)).size) := rfl
  clear hG hK
  unfold YtiadlcjdpbkbkaaGreatP.geoV at *
  by_cases hr : rdyE b l i s = 0
  · have hf := rdy_fine hr
    have HE : Hid (mkE b l i s = (runL (claimV s) (mkL b l i 0)).2) := by show _ = _; unfold mkE; rw [if_pos hr]
    have HV : Hid (mkV b l i s = (runL (claimV s) (mkL b l i 0)).1) := by show _ = _; unfold mkV; rw [if_pos hr]
    rw [if_pos hr, hr] at hrd
    rw [HE.out, HV.out]
    have HWd : Hid (Wide (claimV s) (mkN b l i + 100)) := (claimV_wide hw hc).less (by have := mkN_le hf; omega)
    obtain ⟨R, hR⟩ : ∃ R, runL (claimV s) (mkL b l i 0) = R := ⟨_, rfl⟩
    rw [hR]
    have HR0 : Hid (R = runL (claimV s) (mkL b l i 0)) := hR.symm
    have HR1 : Hid (∀ t, runL t (mkL b l i 0) = if (runL t mkA).2 = 0 then (if barE (runL t mkA).1 = 0 then runL (barV (runL t mkA).1) (mkL b l i 1) else (barV (runL t mkA).1, barE (runL t mkA).1)) else runL t mkA) := fun t => runL_part mkA (mkL b l i 1) t
    have HR2 : Hid (∀ t, runL t (mkL b l i 1) = if (runL t (mkB b l i)).2 = 0 then (if barE (runL t (mkB b l i)).1 = 0 then runL (barV (runL t (mkB b l i)).1) (mkL b l i 2) else (barV (runL t (mkB b l i)).1, barE (runL t (mkB b l i)).1)) else runL t (mkB b l i)) := fun t => runL_part (mkB b l i) (mkL b l i 2) t
    have HR3 : Hid (∀ t, runL t (mkL b l i 2) = if (runL t (mkC b l i)).2 = 0 then (if barE (runL t (mkC b l i)).1 = 0 then runL (barV (runL t (mkC b l i)).1) (mkL b l i 3) else (barV (runL t (mkC b l i)).1, barE (runL t (mkC b l i)).1)) else runL t (mkC b l i)) := fun t => runL_part (mkC b l i) (mkL b l i 3) t
    have HR4 : Hid (∀ t, runL t (mkL b l i 3) = (t, 0)) := fun t => rfl
    have HA : Hid (∀ (Q : World → Loc → Prop), Stays Q → ∀ V t, Has Q V d t → Room t → Calls Tryz.prog 52 #[.pointer (some ⟨d, 0, none⟩), YtiadlcjdpbkbkaaGreatP.layV b l i] V fun e W' => e = .returned (.int .i64 (runL t mkA).2) ∧ Has Q W' d (runL t mkA).1) := fun Q hQ V t hV hT => erase_ok hQ hV hT b l i
    have HB : Hid (∀ (Q : World → Loc → Prop), Stays Q → ∀ V t, Has Q V d t → Wide t (mkN b l i + 2) → Calls Tryz.prog 53 #[.pointer (some ⟨d, 0, none⟩), YtiadlcjdpbkbkaaGreatP.layV b l i] V fun e W' => e = .returned (.int .i64 (runL t (mkB b l i)).2) ∧ Has Q W' d (runL t (mkB b l i)).1) := fun Q hQ V t hV hT => fill_ok hQ hV hf hT
    have HC : Hid (∀ (Q : World → Loc → Prop), Stays Q → ∀ V t, Has Q V d t → Room t → Calls Tryz.prog 54 #[.pointer (some ⟨d, 0, none⟩), YtiadlcjdpbkbkaaGreatP.layV b l i] V fun e W' => e = .returned (.int .i64 (runL t (mkC b l i)).2) ∧ Has Q W' d (runL t (mkC b l i)).1) := fun Q hQ V t hV hT => sign_ok hQ hV hT hf
    have HWA : Hid (∀ t k, Wide t (k + 2) → Wide (runL t mkA).1 (k + 1)) := fun t k q => Wide.run (by rw [mkA_len]; exact q.less (by omega))
    have HWB : Hid (∀ t k, Wide t (mkN b l i + k + 2) → Wide (runL t (mkB b l i)).1 (k + 1)) := fun t k q => Wide.run (by rw [mkB_len]; exact q.less (by omega))
    have HWC : Hid (∀ t k, Wide t (k + 2) → Wide (runL t (mkC b l i)).1 (k + 1)) := fun t k q => Wide.run (by rw [mkC_len]; exact q.less (by omega))
    have HBr : Hid (∀ (Q : World → Loc → Prop), Stays Q → ∀ V t, Has Q V d t → Room t → Calls Tryz.prog 11 #[.pointer (some ⟨d, 0, none⟩)] V fun e W' => e = .returned (.int .i64 (barE t)) ∧ Has Q W' d (barV t)) := fun Q hQ V t hV hT => has_barrier hQ hV hT
    have HCl : Hid (∀ (Q : World → Loc → Prop), Stays Q → ∀ V t, Has Q V d t → Room t → Calls Tryz.prog 51 #[.pointer (some ⟨d, 0, none⟩)] V fun e W' => e = .returned (.int .i64 (claimN t)) ∧ Has Q W' d (claimV t)) := fun Q hQ V t hV hT => has_claim hQ hV hT
    have HRm : Hid (Room s) := hw.room
    clear hR hf hw hc hr h
    unfold YtiadlcjdpbkbkaaGreatP.layV at *
    generalize YtiadlcjdpbkbkaaGreatP.lay9 b l i 1 (1 + l) (YtiadlcjdpbkbkaaGreatP.nodeB i) (YtiadlcjdpbkbkaaGreatP.bitsAt l i) (YtiadlcjdpbkbkaaGreatP.bitsB b) (YtiadlcjdpbkbkaaGreatP.dataAt b l i) = L at *
    generalize YtiadlcjdpbkbkaaGreatP.lay9 0 0 0 0 0 0 0 0 0 = Z at *
    generalize mkN b l i = n at *
    generalize mkL b l i = ml at *
    generalize mkB b l i = pB at *
    generalize mkC b l i = pC at *
    generalize mkA = pA at *
    have hi0 := idx3a
    have hi1 := idx3b
    have hi2 := idx3c
    unfold ptV at hi0 hi1 hi2
    go_enter Tryz.func25, Tryz.ntmps25
    go_upto_region 1 with fail
    generalize W.alloc (.cells #[.int .i64 b, .int .i64 l, .int .i64 i] 41) = V0 at *
    go_wp2_with (first | (with_reducible refine YtiadlcjdpbkbkaaGreat.isLoadR 41 ?_; refine YtiadlcjdpbkbkaaGreat.wpList_ldR 41 Tryz.underlying41 rfl rfl _ rfl W.heap.size rfl #[.int .i64 b, .int .i64 l, .int .i64 i] 41 (0, 0) HGi.out HG.out ?_) | (go_at_call 50; fail))
    refine hrd.mono ?_
    rintro e V1 ⟨rfl, hH1⟩
    have HK : Hid (Has (Keep2 P V1.heap.size (.cells L 43)) (V1.alloc (.cells L 43)) d s) := hH1.keep2 hP _
    have HKs : Hid (Stays (Keep2 P V1.heap.size (.cells L 43))) := keep2_stays hP V1.heap.size (.cells L 43)
    have HU : Hid (∀ V t, Has (Keep2 P V1.heap.size (.cells L 43)) V d t → Has P V d t) := fun V t q => q.unkeep2.1
    have HUl : Hid (∀ V t, Has (Keep2 P V1.heap.size (.cells L 43)) V d t → V.heap[V1.heap.size]? = some (.cells L 43)) := fun V t q => q.unkeep2.2
    clear hH1 hrd HG
    generalize Keep2 P V1.heap.size (.cells L 43) = KP at *
    go_upto_region 2 with (first | (with_reducible refine YtiadlcjdpbkbkaaGreat.isStoreR 43 ?_; refine YtiadlcjdpbkbkaaGreat.wpList_stNew 43 rfl _ _ rfl V1.heap.size L Z 43 HI.out HLs.out HLo.out rfl rfl rfl ?_))
    generalize V1.alloc (.cells L 43) = V2 at *
    generalize V1.heap.size = gl at *
    go_wp2_with (go_at_call 51; fail)
    refine (HCl.out KP HKs.out V2 s HK.out HRm.out).mono ?_
    rintro e V3 ⟨rfl, hK3⟩
    have HK3 : Hid (Has KP V3 d (claimV s)) := hK3
    clear hK3 HK HRm HCl
    generalize claimV s = t0 at *
    generalize claimN s = c0 at *
    go_wp2_with fail
    go_loopw [23] (fun s23 wx => ∃ (m : Nat) (t : St), m ≤ 3 ∧ s23 = .int .i64 (m : Int) ∧ Hid (Has KP wx d t) ∧ Hid (R = runL t (ml m)) ∧ Hid (Wide t (wdN n m)))  (fun s23 _ => (3 - intOf s23).toNat)
    case atStart => exact ⟨0, t0, by omega, rfl, HK3.out, HR0.out, HWd.out⟩
    case round =>
      obtain ⟨m, t, hm, rfl, HT, HRt, HWt⟩ := hrel
      clear HK3 HR0 HWd
      have HLy : Hid _ := HUl.out _ _ HT.out
      by_cases h0 : m = 0
      · subst h0
        have hWt : Wide t (n + 100) := HWt.out
        have hW1 : Wide (runL t pA).1 (n + 98 + 1) := HWA.out t (n + 98) (hWt.less (by omega))
        have hRt := HRt.out
        rw [HR1.out t] at hRt
        have HRm : Hid _ := hRt
        go_wp2_with (first | (with_reducible refine YtiadlcjdpbkbkaaGreat.isLoadR 43 ?_; refine YtiadlcjdpbkbkaaGreat.wpList_ldR 43 Tryz.underlying43 rfl rfl _ rfl gl rfl L 43 (0, 0) HI.out HLy.out ?_) | (go_at_call 52; fail))
        refine (HA.out KP HKs.out wr t HT.out hWt.room).mono ?_
        rintro e V4 ⟨rfl, hK4⟩
        have HK4 : Hid (Has KP V4 d (runL t pA).1) := hK4
        have HW4 : Hid (Wide (runL t pA).1 (n + 98 + 1)) := hW1
        clear hK4 hWt hW1 HT HRt HWt HLy hRt
        obtain ⟨q, hq⟩ : ∃ q, runL t pA = q := ⟨_, rfl⟩
        rw [hq] at HK4 HW4 HRm ⊢
        clear hq
        obtain ⟨t1, e1⟩ := q
        dsimp only at HK4 HW4 HRm ⊢
        by_cases he : e1 = 0
        · subst he
          have hRm := HRm.out
          rw [if_pos rfl] at hRm
          have HRm : Hid _ := hRm
          go_wp2_with (go_at_call 11; fail)
          refine (HBr.out KP HKs.out V4 t1 HK4.out HW4.out.room).mono ?_
          rintro e V5 ⟨rfl, hK5⟩
          have HK5 : Hid (Has KP V5 d (barV t1)) := hK5
          have HW5 : Hid (Wide (barV t1) (n + 98)) := HW4.out.bar
          clear hK5 HK4 HW4 hRm
          generalize barV t1 = t2 at *
          generalize barE t1 = e2 at *
          by_cases he2 : e2 = 0
          · subst he2
            have hRm := HRm.out
            rw [if_pos rfl] at hRm
            have HRn : Hid (R = runL t2 (ml 1)) := hRm
            clear HRm hRm
            go_wp2_with fail
            exact ⟨⟨1, t2, by omega, by go_num, HK5.out, HRn.out, HW5.out.less (by unfold wdN; simp)⟩, by simp [intOf]⟩
          · have hRm := HRm.out
            rw [if_neg he2] at hRm
            have HRn : Hid (R = (t2, e2)) := hRm
            have hne : (e2 != 0) = true := by simpa using he2
            clear HRm hRm he2
            go_wp2_with fail
            go_ret
            exact ⟨by rw [HRn.out]; rfl, by rw [HRn.out]; exact HU.out _ _ HK5.out⟩
        · have hRm := HRm.out
          rw [if_neg he] at hRm
          have HRn : Hid (R = (t1, e1)) := hRm
          have hne : (e1 != 0) = true := by simpa using he
          clear HRm hRm he
          go_wp2_with fail
          go_ret
          exact ⟨by rw [HRn.out]; rfl, by rw [HRn.out]; exact HU.out _ _ HK4.out⟩
      by_cases h1 : m = 1
      · subst h1
        have hWt : Wide t (n + 98) := HWt.out
        have hW1 : Wide (runL t pB).1 (90 + 1) := HWB.out t 90 (hWt.less (by omega))
        have hRt := HRt.out
        rw [HR2.out t] at hRt
        have HRm : Hid _ := hRt
        go_wp2_with (first | (with_reducible refine YtiadlcjdpbkbkaaGreat.isLoadR 43 ?_; refine YtiadlcjdpbkbkaaGreat.wpList_ldR 43 Tryz.underlying43 rfl rfl _ rfl gl rfl L 43 (0, 0) HI.out HLy.out ?_) | (go_at_call 53; fail))
        refine (HB.out KP HKs.out wr t HT.out (hWt.less (by omega))).mono ?_
        rintro e V4 ⟨rfl, hK4⟩
        have HK4 : Hid (Has KP V4 d (runL t pB).1) := hK4
        have HW4 : Hid (Wide (runL t pB).1 (90 + 1)) := hW1
        clear hK4 hWt hW1 HT HRt HWt HLy hRt
        obtain ⟨q, hq⟩ : ∃ q, runL t pB = q := ⟨_, rfl⟩
        rw [hq] at HK4 HW4 HRm ⊢
        clear hq
        obtain ⟨t1, e1⟩ := q
        dsimp only at HK4 HW4 HRm ⊢
        by_cases he : e1 = 0
        · subst he
          have hRm := HRm.out
          rw [if_pos rfl] at hRm
          have HRm : Hid _ := hRm
          go_wp2_with (go_at_call 11; fail)
          refine (HBr.out KP HKs.out V4 t1 HK4.out HW4.out.room).mono ?_
          rintro e V5 ⟨rfl, hK5⟩
          have HK5 : Hid (Has KP V5 d (barV t1)) := hK5
          have HW5 : Hid (Wide (barV t1) (90)) := HW4.out.bar
          clear hK5 HK4 HW4 hRm
          generalize barV t1 = t2 at *
          generalize barE t1 = e2 at *
          by_cases he2 : e2 = 0
          · subst he2
            have hRm := HRm.out
            rw [if_pos rfl] at hRm
            have HRn : Hid (R = runL t2 (ml 2)) := hRm
            clear HRm hRm
            go_wp2_with fail
            exact ⟨⟨2, t2, by omega, by go_num, HK5.out, HRn.out, HW5.out.less (by unfold wdN; simp)⟩, by simp [intOf]⟩
          · have hRm := HRm.out
            rw [if_neg he2] at hRm
            have HRn : Hid (R = (t2, e2)) := hRm
            have hne : (e2 != 0) = true := by simpa using he2
            clear HRm hRm he2
            go_wp2_with fail
            go_ret
            exact ⟨by rw [HRn.out]; rfl, by rw [HRn.out]; exact HU.out _ _ HK5.out⟩
        · have hRm := HRm.out
          rw [if_neg he] at hRm
          have HRn : Hid (R = (t1, e1)) := hRm
          have hne : (e1 != 0) = true := by simpa using he
          clear HRm hRm he
          go_wp2_with fail
          go_ret
          exact ⟨by rw [HRn.out]; rfl, by rw [HRn.out]; exact HU.out _ _ HK4.out⟩
      by_cases h2 : m = 2
      · subst h2
        have hWt : Wide t 90 := HWt.out
        have hW1 : Wide (runL t pC).1 (80 + 1) := HWC.out t 80 (hWt.less (by omega))
        have hRt := HRt.out
        rw [HR3.out t] at hRt
        have HRm : Hid _ := hRt
        go_wp2_with (first | (with_reducible refine YtiadlcjdpbkbkaaGreat.isLoadR 43 ?_; refine YtiadlcjdpbkbkaaGreat.wpList_ldR 43 Tryz.underlying43 rfl rfl _ rfl gl rfl L 43 (0, 0) HI.out HLy.out ?_) | (go_at_call 54; fail))
        refine (HC.out KP HKs.out wr t HT.out hWt.room).mono ?_
        rintro e V4 ⟨rfl, hK4⟩
        have HK4 : Hid (Has KP V4 d (runL t pC).1) := hK4
        have HW4 : Hid (Wide (runL t pC).1 (80 + 1)) := hW1
        clear hK4 hWt hW1 HT HRt HWt HLy hRt
        obtain ⟨q, hq⟩ : ∃ q, runL t pC = q := ⟨_, rfl⟩
        rw [hq] at HK4 HW4 HRm ⊢
        clear hq
        obtain ⟨t1, e1⟩ := q
        dsimp only at HK4 HW4 HRm ⊢
        by_cases he : e1 = 0
        · subst he
          have hRm := HRm.out
          rw [if_pos rfl] at hRm
          have HRm : Hid _ := hRm
          go_wp2_with (go_at_call 11; fail)
          refine (HBr.out KP HKs.out V4 t1 HK4.out HW4.out.room).mono ?_
          rintro e V5 ⟨rfl, hK5⟩
          have HK5 : Hid (Has KP V5 d (barV t1)) := hK5
          have HW5 : Hid (Wide (barV t1) (80)) := HW4.out.bar
          clear hK5 HK4 HW4 hRm
          generalize barV t1 = t2 at *
          generalize barE t1 = e2 at *
          by_cases he2 : e2 = 0
          · subst he2
            have hRm := HRm.out
            rw [if_pos rfl] at hRm
            have HRn : Hid (R = runL t2 (ml 3)) := hRm
            clear HRm hRm
            go_wp2_with fail
            exact ⟨⟨3, t2, by omega, by go_num, HK5.out, HRn.out, HW5.out.less (by unfold wdN; simp)⟩, by simp [intOf]⟩
          · have hRm := HRm.out
            rw [if_neg he2] at hRm
            have HRn : Hid (R = (t2, e2)) := hRm
            have hne : (e2 != 0) = true := by simpa using he2
            clear HRm hRm he2
            go_wp2_with fail
            go_ret
            exact ⟨by rw [HRn.out]; rfl, by rw [HRn.out]; exact HU.out _ _ HK5.out⟩
        · have hRm := HRm.out
          rw [if_neg he] at hRm
          have HRn : Hid (R = (t1, e1)) := hRm
          have hne : (e1 != 0) = true := by simpa using he
          clear HRm hRm he
          go_wp2_with fail
          go_ret
          exact ⟨by rw [HRn.out]; rfl, by rw [HRn.out]; exact HU.out _ _ HK4.out⟩
      obtain rfl : m = 3 := by omega
      have hRt := HRt.out
      rw [HR4.out t] at hRt
      have HRn : Hid (R = (t, 0)) := hRt
      clear hRt HRt HWt HLy
      go_wp2_with fail
      go_ret
      exact ⟨by rw [HRn.out]; rfl, by rw [HRn.out]; exact HU.out _ _ HT.out⟩
  · have HE : Hid (mkE b l i s = rdyE b l i s) := by show _ = _; unfold mkE; rw [if_neg hr]
    have HV : Hid (mkV b l i s = s) := by show _ = _; unfold mkV; rw [if_neg hr]
    rw [if_neg hr] at hrd
    rw [HE.out, HV.out]
    have hne : (rdyE b l i s != 0) = true := by simpa using hr
    clear hr h hw hc HE HV
    unfold YtiadlcjdpbkbkaaGreatP.layZ at *
    generalize rdyE b l i s = re at *
    generalize YtiadlcjdpbkbkaaGreatP.lay9 0 0 0 0 0 0 0 0 0 = Z at *
    have HZs : Hid (Z.size = Z.size) := (rfl : Z.size = Z.size)
    go_enter Tryz.func25, Tryz.ntmps25
    go_upto_region 1 with fail
    generalize W.alloc (.cells #[.int .i64 b, .int .i64 l, .int .i64 i] 41) = V0 at *
    go_wp2_with (first | (with_reducible refine YtiadlcjdpbkbkaaGreat.isLoadR 41 ?_; refine YtiadlcjdpbkbkaaGreat.wpList_ldR 41 Tryz.underlying41 rfl rfl _ rfl W.heap.size rfl #[.int .i64 b, .int .i64 l, .int .i64 i] 41 (0, 0) HGi.out HG.out ?_) | (go_at_call 50; fail))
    refine hrd.mono ?_
    rintro e V1 ⟨rfl, hH1⟩
    have HK : Hid (Has P (V1.alloc (.cells Z 43)) d s) := hH1.later hP (below_new _ _)
    clear hH1 hrd HG
    go_wp2_with (first | (with_reducible refine YtiadlcjdpbkbkaaGreat.isStoreR 43 ?_; refine YtiadlcjdpbkbkaaGreat.wpList_stNew 43 rfl _ _ rfl V1.heap.size Z Z 43 HZi.out (rfl : Z.size = Z.size) HZo.out rfl rfl rfl ?_))
    go_ret
    exact ⟨rfl, HK.out⟩
end Go.Proofs.YtiadlcjdpbkbkaaGreatD
/- What a disk holds behind mkfs of a disk that does not stop; a disk beside rows. -/
namespace Go.Proofs.YtiadlcjdpbkbkaaGreatD
open Go.RowKit
theorem letV_live {s : St} (hl : lets s = true) : (letV s).stopped = s.stopped ∧ (letV s).made = s.made + 1 ∧ (letV s).reads = s.reads ∧ (letV s).claims = s.claims ∧ (letV s).fuse = (if s.fuse = -1 then -1 else s.fuse - 1) := by
  have h0 : s.fuse ≠ 0 := by unfold lets at hl; simpa using hl
  unfold letV
  rw [if_neg h0]
  exact ⟨rfl, rfl, rfl, rfl, rfl⟩
def goV (s : St) : MOp → St
  | some c => writeS s c.1 c.2
  | none => barS s
def allV (s : St) (l : List MOp) : St := l.foldl goV s
theorem allV_cons (s : St) (o : MOp) (l : List MOp) : allV s (o :: l) = allV (goV s o) l := rfl
theorem allV_append (s : St) (a b : List MOp) : allV s (a ++ b) = allV (allV s a) b := by unfold allV; rw [List.foldl_append]
def InOp (n : Int) : MOp → Prop
  | some c => 0 ≤ c.1 ∧ c.1 < n
  | none => True
theorem goV_rest (s : St) (o : MOp) : (goV s o).n = s.n ∧ (goV s o).made = (letV s).made ∧ (goV s o).reads = s.reads ∧ (goV s o).claims = s.claims ∧ (goV s o).fuse = (letV s).fuse ∧ (goV s o).stopped = (letV s).stopped ∧ (goV s o).claimed = s.claimed := by
  obtain ⟨_, l2, l3, l4⟩ := letV_most s
  cases o with
  | none =>
    obtain ⟨b1, b2, b3, b4, b5, b6, b7, _, _⟩ := barS_rest s
    exact ⟨b1, b2, b3.trans l2, b4.trans l3, b5, b6, b7.trans l4⟩
  | some c => exact ⟨letV_n s, rfl, l2, l3, rfl, rfl, l4⟩
theorem do_goes {s : St} {o : MOp} (hs : s.stopped = false) (hl : lets s = true) (ho : InOp s.n o) : doE s o = 0 ∧ doV s o = goV s o := by
  cases o with
  | none => exact ⟨by show barE s = 0; unfold barE; rw [hs, hl]; rfl, by show barV s = barS s; unfold barV; rw [hs, hl]; rfl⟩
  | some c =>
    have hr : refV s c.1 = 0 := by unfold refV; rw [hs, if_neg (by simp), if_pos (show 0 ≤ c.1 ∧ c.1 < s.n from ho)]
    exact ⟨by show writeE s c.1 = 0; unfold writeE; rw [if_pos hr, if_pos hl], by show writeV s c.1 c.2 = writeS s c.1 c.2; unfold writeV; rw [if_pos hr, if_pos hl]⟩
theorem lets_fuse {s : St} (h : s.fuse ≠ 0) : lets s = true ∧ (letV s).fuse = (if s.fuse = -1 then -1 else s.fuse - 1) ∧ (letV s).made = s.made + 1 ∧ (letV s).stopped = s.stopped := by
  have hl : lets s = true := by unfold lets; simpa using h
  obtain ⟨h1, h2, _, _, h5⟩ := letV_live hl
  exact ⟨hl, h5, h2, h1⟩
theorem run_goes : ∀ (l : List MOp) (s : St), s.stopped = false → (∀ o ∈ l, InOp s.n o) → (s.fuse = -1 ∨ (l.length : Int) ≤ s.fuse) → runL s l = (allV s l, 0) ∧ (allV s l).stopped = false ∧ (allV s l).made = s.made + l.length ∧ (allV s l).n = s.n ∧ (allV s l).reads = s.reads ∧ (allV s l).claims = s.claims ∧ (allV s l).fuse = (if s.fuse = -1 then -1 else s.fuse - l.length) ∧ (allV s l).claimed = s.claimed
  | [], s, hs, _, _ => by
    refine ⟨rfl, hs, by simp [allV], rfl, rfl, rfl, ?_, rfl⟩
    show s.fuse = _
    split
    · assumption
    · simp
  | o :: t, s, hs, ho, hf => by
    have h0 : s.fuse ≠ 0 := by rw [List.length_cons] at hf; omega
    obtain ⟨hl, f1, f2, f3⟩ := lets_fuse h0
    obtain ⟨d1, d2⟩ := do_goes hs hl (ho o (by simp))
    obtain ⟨g1, g2, g3, g4, g5, g6, g7⟩ := goV_rest s o
    have hs2 : (goV s o).stopped = false := g6.trans (f3.trans hs)
    have ih := run_goes t (goV s o) hs2 (fun x hx => by rw [g1]; exact ho x (by simp [hx])) (by
      rw [g5, f1]
      rw [List.length_cons] at hf
      split
      · exact .inl rfl
      · exact .inr (by omega))
    obtain ⟨i1, i2, i3, i4, i5, i6, i7, i8⟩ := ih
    rw [runL_cons, d1, if_pos rfl, d2, allV_cons]
    refine ⟨i1, i2, by rw [i3, g2, f2, List.length_cons]; omega, i4.trans g1, i5.trans g3, i6.trans g4, ?_, i8.trans g7⟩
    rw [i7, g5, f1, List.length_cons]
    by_cases q : s.fuse = -1
    · rw [if_pos q, if_pos rfl, if_pos q]
    · rw [if_neg q, if_neg q, if_neg (by rw [List.length_cons] at hf; omega)]
      omega
theorem allV_writes : ∀ (cs : List Cel) (s : St), (allV s (cs.map some)).held = s.held ∧ (allV s (cs.map some)).wait = s.wait ++ cs
  | [], s => ⟨rfl, by simp [allV]⟩
  | c :: t, s => by
    obtain ⟨h1, h2⟩ := allV_writes t (goV s (some c))
    rw [List.map_cons, allV_cons]
    refine ⟨h1.trans (letV_held s), ?_⟩
    rw [h2]
    show (s.wait ++ [(c.1, c.2)]) ++ t = _
    simp
theorem allV_bar (s : St) : (allV s [none]).held = (holdAll s s.wait).held ∧ (allV s [none]).wait = [] := by
  obtain ⟨_, _, _, _, _, _, _, h1, h2⟩ := barS_rest s
  exact ⟨h2, h1⟩
theorem holdAll_held {s t : St} (h : s.held = t.held) (l : List Cel) : (holdAll s l).held = (holdAll t l).held := by
  induction l generalizing s t with
  | nil => exact h
  | cons c l ih => exact ih (s := holdV s c.1 c.2) (t := holdV t c.1 c.2) (by unfold holdV; rw [h])
def mkBs (b l i : Int) : List Cel := (1, nought) :: (List.range (mkN b l i)).map fun (q : Nat) => (1 + l + (q : Int), YtiadlcjdpbkbkaaGreat.coF b l i (1 + l + (q : Int)))
theorem mkB_eq (b l i : Int) : mkB b l i = (mkBs b l i).map some := by
  unfold mkB mkBs mkR
  rw [List.map_cons, List.map_map, List.drop_zero]
  rfl
theorem mkBs_pos {b l i : Int} (hf : YtiadlcjdpbkbkaaGreatP.Fine b l i) : ∀ c ∈ mkBs b l i, (1 ≤ c.1 ∧ c.1 < b) ∧ Can c.2 := fun c hc => by
  obtain ⟨b1, b2, b3, b4, b5, b6, b7, b8⟩ := YtiadlcjdpbkbkaaGreat.fine_bd hf
  unfold mkBs at hc
  rcases List.mem_cons.1 hc with rfl | hc
  · exact ⟨⟨by show (1 : Int) ≤ 1; omega, by show (1 : Int) < b; omega⟩, can_nought⟩
  · obtain ⟨q, hq, rfl⟩ := List.mem_map.1 hc
    have hq := List.mem_range.1 hq
    unfold mkN at hq
    exact ⟨⟨by show 1 ≤ 1 + l + (q : Int); omega, by show 1 + l + (q : Int) < b; omega⟩, can_co _ _ _ _⟩
theorem mkL_in {b l i n : Int} (hf : YtiadlcjdpbkbkaaGreatP.Fine b l i) (hn : b ≤ n) : ∀ o ∈ mkL b l i 0, InOp n o := fun o ho => by
  obtain ⟨b1, _⟩ := YtiadlcjdpbkbkaaGreat.fine_bd hf
  have hz : InOp n (some (0, nought)) := ⟨by show (0 : Int) ≤ 0; omega, by show (0 : Int) < n; omega⟩
  unfold mkL mkA mkC at ho
  rw [mkB_eq] at ho
  simp only [List.mem_append, List.mem_cons, List.mem_nil_iff, or_false] at ho
  rcases ho with rfl | rfl | ho | rfl | rfl | rfl
  · exact hz
  · trivial
  · obtain ⟨c, hc, rfl⟩ := List.mem_map.1 ho
    have := (mkBs_pos hf c hc).1
    exact ⟨by omega, by omega⟩
  · trivial
  · exact ⟨by show (0 : Int) ≤ 0; omega, by show (0 : Int) < n; omega⟩
  · trivial
theorem claimV_hw (s : St) : (claimV s).held = s.held ∧ (claimV s).wait = s.wait := by
  unfold claimV
  split
  · exact ⟨rfl, rfl⟩
  · exact ⟨rfl, rfl⟩
variable {w W W' : World} {d : Nat} {s : St} {ks : List (Nat × Obj)}
structure SoP (w : World) (ks : List (Nat × Obj)) (W : World) (L : Loc) : Prop where
  new : L.from w.heap.size
  below : Below w.heap.size w W
  keep : ∀ p ∈ ks, W.heap[p.1]? = some p.2 ∧ ¬ L.has p.1
theorem soP_stays (w : World) (ks : List (Nat × Obj)) : Stays (SoP w ks) := fun W W' L L' hlt h hG => by
  refine ⟨fun k hk => ?_, h.below.trans (hG.fr.below h.new h.below.size), fun p hp => ?_⟩
  · rcases hG.own k hk with q | q
    · exact h.new k q
    · have := h.below.size; omega
  · obtain ⟨h1, h2⟩ := h.keep p hp
    have hg := (Array.getElem?_eq_some_iff.1 h1).1
    refine ⟨(hG.fr.block _ hg h2).trans h1, fun q => ?_⟩
    rcases hG.own _ q with r | r
    · exact h2 r
    · omega
theorem mk_done {b l i : Int} {s : St} (hf : YtiadlcjdpbkbkaaGreatP.Fine b l i) (hn : b ≤ s.n) (hs : s.stopped = false) (hfu : s.fuse = -1 ∨ ((mkN b l i + 6 : Nat) : Int) ≤ s.fuse) :
    mkE b l i s = 0 ∧ mkV b l i s = allV (claimV s) (mkL b l i 0) ∧ (mkV b l i s).made = s.made + (mkN b l i + 6 : Nat) ∧ (mkV b l i s).n = s.n ∧ (mkV b l i s).stopped = false ∧ (mkV b l i s).reads = s.reads ∧ (mkV b l i s).claims = s.claims + 1 ∧ (mkV b l i s).fuse = (if s.fuse = -1 then -1 else s.fuse - (mkN b l i + 6 : Nat)) := by
  have hr : rdyE b l i s = 0 := by
    unfold rdyE YtiadlcjdpbkbkaaGreatP.ofE
    rw [if_pos hf, if_neg (by rintro (q | q); exact q rfl; omega), hs]
    rfl
  have hc : claimV s = { s with claims := s.claims + 1, claimed := true } := by unfold claimV; rw [hs]; rfl
  have hg := run_goes (mkL b l i 0) (claimV s) (by rw [hc]; exact hs) (by rw [hc]; exact mkL_in hf hn) (by rw [hc, mkL_len]; exact hfu)
  obtain ⟨g1, g2, g3, g4, g5, g6, g7, g8⟩ := hg
  have hE : mkE b l i s = 0 := by unfold mkE; rw [if_pos hr, g1]
  have hV : mkV b l i s = allV (claimV s) (mkL b l i 0) := by unfold mkV; rw [if_pos hr, g1]
  refine ⟨hE, hV, ?_, ?_, ?_, ?_, ?_, ?_⟩
  · rw [hV, g3, hc, mkL_len]
  · rw [hV, g4, hc]
  · rw [hV]; exact g2
  · rw [hV, g5, hc]
  · rw [hV, g6, hc]
  · rw [hV, g7, hc, mkL_len]
theorem fine_small : YtiadlcjdpbkbkaaGreatP.Fine 400 32 60 := by
  unfold YtiadlcjdpbkbkaaGreatP.Fine YtiadlcjdpbkbkaaGreatP.dataAt YtiadlcjdpbkbkaaGreatP.bitsAt YtiadlcjdpbkbkaaGreatP.nodeB YtiadlcjdpbkbkaaGreatP.bitsB
  decide
theorem mkN_small : mkN 400 32 60 = 6 := by
  unfold mkN YtiadlcjdpbkbkaaGreatP.dataAt YtiadlcjdpbkbkaaGreatP.bitsAt YtiadlcjdpbkbkaaGreatP.nodeB YtiadlcjdpbkbkaaGreatP.bitsB
  decide
theorem wide_new (n : Int) : Wide (newV n) 10000 := ⟨by show (0 : Nat) + 10000 < _; omega, by show (0 : Int) + _ < _; omega, by show (0 : Int) < _; omega, by show (0 : Int) < _; omega⟩
theorem lastV_none {k : Int} : ∀ (l : List Cel) (x : Nat → Int), (∀ c ∈ l, c.1 ≠ k) → lastV x l k = x
  | [], _, _ => rfl
  | c :: t, x, h => by
    unfold lastV
    rw [if_neg (h c (by simp))]
    exact lastV_none t x fun c hc => h c (by simp [hc])
def gt (s : St) (k : Int) : Nat → Int := (s.held k).getD nought
theorem mk_get {b l i : Int} (hf : YtiadlcjdpbkbkaaGreatP.Fine b l i) (s : St) (hw : s.wait = []) : (allV s (mkL b l i 0)).wait = [] ∧ ∀ k, gt (allV s (mkL b l i 0)) k = if k = 0 then YtiadlcjdpbkbkaaGreatP.superF b l i else lastV (gt s k) (mkBs b l i) k := by
  obtain ⟨cs, hcs⟩ : ∃ cs, mkBs b l i = cs := ⟨_, rfl⟩
  obtain ⟨F, hF⟩ : ∃ F, YtiadlcjdpbkbkaaGreatP.superF b l i = F := ⟨_, rfl⟩
  have hcF : Can F := hF ▸ can_super b l i
  have hpos : ∀ c ∈ cs, c.1 ≠ 0 := fun c hc => by have := (mkBs_pos hf c (hcs ▸ hc)).1.1; omega
  have hcan : ∀ c ∈ cs, Can c.2 := fun c hc => (mkBs_pos hf c (hcs ▸ hc)).2
  have hL : mkL b l i 0 = [some (0, nought), none] ++ ((cs.map some ++ [none]) ++ [some (0, F), none]) := by
    unfold mkL mkA mkC
    rw [mkB_eq, hcs, hF]
    simp
  rw [hL, hF, hcs, allV_append, allV_append]
  have w2 : (allV s [some (0, nought), none]).wait = [] ∧ (allV s [some (0, nought), none]).held = (holdAll s [(0, nought)]).held := by
    obtain ⟨h1, h2⟩ := allV_writes [(0, nought)] s
    rw [hw] at h2
    have h := allV_bar (allV s [some (0, nought)])
    rw [← allV_append] at h
    refine ⟨h.2, ?_⟩
    have e : (allV s [some ((0, nought) : Cel)]).wait = [(0, nought)] := h2
    rw [show [some ((0, nought) : Cel)] ++ [none] = [some (0, nought), none] from rfl, e] at h
    rw [h.1]
    exact holdAll_held h1 _
  generalize allV s [some (0, nought), none] = s1 at *
  have w4 : (allV s1 (cs.map some ++ [none])).wait = [] ∧ (allV s1 (cs.map some ++ [none])).held = (holdAll s1 cs).held := by
    obtain ⟨h1, h2⟩ := allV_writes cs s1
    rw [w2.1] at h2
    have h := allV_bar (allV s1 (cs.map some))
    rw [← allV_append, h2] at h
    refine ⟨h.2, ?_⟩
    rw [h.1]
    exact holdAll_held h1 _
  generalize allV s1 (cs.map some ++ [none]) = s2 at *
  have w6 : (allV s2 [some (0, F), none]).wait = [] ∧ (allV s2 [some (0, F), none]).held = (holdAll s2 [(0, F)]).held := by
    obtain ⟨h1, h2⟩ := allV_writes [(0, F)] s2
    rw [w4.1] at h2
    have h := allV_bar (allV s2 [some (0, F)])
    rw [← allV_append] at h
    refine ⟨h.2, ?_⟩
    have e : (allV s2 [some ((0, F) : Cel)]).wait = [(0, F)] := h2
    rw [show [some ((0, F) : Cel)] ++ [none] = [some (0, F), none] from rfl, e] at h
    rw [h.1]
    exact holdAll_held h1 _
  refine ⟨w6.1, fun k => ?_⟩
  have g1 : gt s1 k = if k = 0 then nought else gt s k := by
    unfold gt
    rw [w2.2]
    exact holdV_get s 0 can_nought k
  have g2 : gt s2 k = lastV (gt s1 k) cs k := by
    unfold gt
    rw [w4.2]
    exact holdAll_get cs s1 hcan
  have g3 : gt (allV s2 [some (0, F), none]) k = if k = 0 then F else gt s2 k := by
    unfold gt
    rw [w6.2]
    exact holdV_get s2 0 hcF k
  rw [g3]
  by_cases hk : k = 0
  · rw [if_pos hk, if_pos hk]
  · rw [if_neg hk, if_neg hk, g2, g1, if_neg hk]
theorem lastV_some {k : Int} : ∀ (l : List Cel) (x y : Nat → Int), (∃ c ∈ l, c.1 = k) → lastV x l k = lastV y l k
  | [], _, _, h => by obtain ⟨c, hc, _⟩ := h; simp at hc
  | c :: t, x, y, h => by
    unfold lastV
    by_cases e : c.1 = k
    · rw [if_pos e, if_pos e]
    · rw [if_neg e, if_neg e]
      obtain ⟨d, hd, hk⟩ := h
      rcases List.mem_cons.1 hd with rfl | hd
      · exact absurd hk e
      · exact lastV_some t x y ⟨d, hd, hk⟩
theorem mkBs_mem {b l i k : Int} (hf : YtiadlcjdpbkbkaaGreatP.Fine b l i) : (∃ c ∈ mkBs b l i, c.1 = k) ↔ (k = 1 ∨ (1 + l ≤ k ∧ k ≤ YtiadlcjdpbkbkaaGreatP.dataAt b l i)) := by
  obtain ⟨b1, b2, b3, b4, b5, b6, b7, b8⟩ := YtiadlcjdpbkbkaaGreat.fine_bd hf
  constructor
  · rintro ⟨c, hc, rfl⟩
    unfold mkBs at hc
    rcases List.mem_cons.1 hc with rfl | hc
    · exact .inl rfl
    · obtain ⟨q, hq, rfl⟩ := List.mem_map.1 hc
      have hq := List.mem_range.1 hq
      unfold mkN at hq
      exact .inr ⟨by show 1 + l ≤ 1 + l + (q : Int); omega, by show 1 + l + (q : Int) ≤ _; omega⟩
  · rintro (rfl | ⟨h1, h2⟩)
    · exact ⟨(1, nought), by unfold mkBs; simp, rfl⟩
    · refine ⟨(k, YtiadlcjdpbkbkaaGreat.coF b l i k), ?_, rfl⟩
      unfold mkBs
      refine List.mem_cons_of_mem _ (List.mem_map.2 ⟨(k - 1 - l).toNat, List.mem_range.2 (by unfold mkN; omega), ?_⟩)
      rw [show 1 + l + (((k - 1 - l).toNat : Nat) : Int) = k by omega]
theorem lastV_co {b l i k : Int} (hf : YtiadlcjdpbkbkaaGreatP.Fine b l i) (hk : 1 + l ≤ k ∧ k ≤ YtiadlcjdpbkbkaaGreatP.dataAt b l i) (x : Nat → Int) : lastV x (mkBs b l i) k = YtiadlcjdpbkbkaaGreat.coF b l i k := by
  obtain ⟨b1, b2, b3, b4, b5, b6, b7, b8⟩ := YtiadlcjdpbkbkaaGreat.fine_bd hf
  have key : ∀ (m : Nat) (f : Nat → Nat → Int) (x : Nat → Int) (j : Nat), j < m → lastV x ((List.range m).map fun (q : Nat) => ((1 + l + (q : Int), f q) : Cel)) (1 + l + (j : Int)) = f j := fun m f => by
    induction m with
    | zero => intro x j hj; omega
    | succ m ih =>
      intro x j hj
      rw [List.range_succ, List.map_append, lastV_append]
      show (if 1 + l + (m : Int) = 1 + l + (j : Int) then f m else _) = f j
      by_cases e : j = m
      · subst e; rw [if_pos rfl]
      · rw [if_neg (by omega)]; exact ih x j (by omega)
  unfold mkBs
  show lastV (if (1 : Int) = k then nought else x) _ k = _
  rw [if_neg (by omega)]
  have := key (mkN b l i) (fun q => YtiadlcjdpbkbkaaGreat.coF b l i (1 + l + (q : Int))) x (k - 1 - l).toNat (by unfold mkN; omega)
  rw [show 1 + l + (((k - 1 - l).toNat : Nat) : Int) = k by omega] at this
  exact this
theorem allV_ops : ∀ (l : List MOp) (s : St), (allV s l).ops.length = s.ops.length + l.length
  | [], s => rfl
  | o :: t, s => by
    rw [allV_cons, allV_ops t]
    have : (goV s o).ops.length = s.ops.length + 1 := by
      cases o with
      | none => show (barS s).ops.length = _; rw [barS_ops]; simp
      | some c => show (writeS s c.1 c.2).ops.length = _; rw [writeS_ops]; simp
    rw [this, List.length_cons]
    omega
end Go.Proofs.YtiadlcjdpbkbkaaGreatD
