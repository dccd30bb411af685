/- The law DiskLoads walked: of every image whether it may be, and what the disk tells then; at most two million cells. -/
import Derived.Test.YtembocfghkmieaaLoadsAid
namespace Go.Proofs.Ytembocfghkmieaa
open Go.RowKit Go.Maps
set_option maxRecDepth 20000 in
set_option maxHeartbeats 8000000 in
theorem loads_walk (n : Int) (a : Option Addr) (len cap b off : Nat) (q : Nat → Cel) (v : Nat → Option Addr × Nat × Nat) (w : World) (hlen : len ≤ 2000000) (hcan : ∀ r, Can (q r).2) (h : CinsQ w a len b off q v) :
    Calls Try.prog 4 #[.int .i64 n, .slice a len cap] w fun e w' => e = .returned (.bool true) ∧ Below w.heap.size w w' := by
  have HIm := Hid.mk' (image_any n a len cap b off q v w hlen h)
  have HCin := Hid.mk' h
  have HCan := Hid.mk' (celsQ_can hcan len)
  have HLen := Hid.mk' (celsQ_len q len)
  clear h hcan
  have HGet := Hid.mk' (celsQ_get q len)
  generalize celsQ q len = l at *
  go_enter Try.func4, Try.ntmps4
  go_wp2_with (go_at_call 10; fail)
  refine Calls.mono HIm.out ?_
  rintro e W1 ⟨p, c, rfl, hI1, hb1⟩
  have HI2 := Hid.mk' (hI1.later (below_new W1 (.cells #[.int .i64 n, .slice p len c] 32)))
  have HB2 := Hid.mk' (below_next hb1 (below_new W1 (.cells #[.int .i64 n, .slice p len c] 32)))
  have HR2 := Hid.mk' (heap_alloc_new W1 (.cells #[.int .i64 n, .slice p len c] 32))
  clear hI1 hb1 HIm
  cases hm : mayB n l
  · have HLb := Hid.mk' (load_bad n l p c (W1.alloc (.cells #[.int .i64 n, .slice p len c] 32)) (by have := HLen.out; omega) HI2.out hm)
    rw [HLen.out] at HLb
    go_wp2_with (go_at_call 15; fail)
    refine Calls.mono HLb.out ?_
    rintro e W2 ⟨rfl, hb2⟩
    have HI3 := Hid.mk' (HI2.out.later hb2)
    have HB3 := Hid.mk' (below_next HB2.out hb2)
    have HR3 := Hid.mk' (heap_kept HR2.out hb2)
    clear hb2 HLb HI2 HB2 HR2
    have HRb := Hid.mk' (refLoad_bad n l p c W2 (by have := HLen.out; omega) HI3.out hm)
    rw [HLen.out] at HRb
    generalize W1.heap.size = gI at *
    have c50 : W2.cell? ⟨gI, 0, none⟩ = some (.int .i64 n) := Joins.cell_of_block HR3.out 0
    have c51 : W2.cell? ⟨gI, 1, none⟩ = some (.slice p len c) := Joins.cell_of_block HR3.out 1
    go_wp2_with (go_at_call 16; fail)
    refine Calls.mono HRb.out ?_
    rintro e W3 ⟨rfl, hb3⟩
    have HB4 := Hid.mk' (below_next HB3.out hb3)
    clear hb3 c50 c51 HRb
    go_wp2
    go_ret
    exact ⟨rfl, HB4.out⟩
  · have HLk := Hid.mk' (sits_load n l p c (by have := HLen.out; omega) HI2.out HCan.out hm)
    rw [HLen.out] at HLk
    go_wp2_with (go_at_call 15; fail)
    refine Calls.mono HLk.out ?_
    rintro e W2 ⟨d, rfl, hs2⟩
    clear HLk
    generalize hA : W1.alloc (.cells #[.int .i64 n, .slice p len c] 32) = A at *
    generalize W1.heap.size = gI at *
    clear hA
    have HI3 := Hid.mk' (HI2.out.later hs2.below)
    have HR3 := Hid.mk' (heap_kept HR2.out hs2.below)
    have HS2 := Hid.mk' hs2
    clear hs2
    have HRk := Hid.mk' (refLoad_ok n l p c W2 (by have := HLen.out; omega) HI3.out hm)
    rw [HLen.out] at HRk
    have c50 : W2.cell? ⟨gI, 0, none⟩ = some (.int .i64 n) := Joins.cell_of_block HR3.out 0
    have c51 : W2.cell? ⟨gI, 1, none⟩ = some (.slice p len c) := Joins.cell_of_block HR3.out 1
    go_wp2_with (go_at_call 16; fail)
    refine Calls.mono HRk.out ?_
    rintro e W3 ⟨gr, rfl, hb3⟩
    have HS3 := Hid.mk' (HS2.out.later hb3)
    clear hb3 c50 c51 HRk HI3 HR3 HS2
    obtain ⟨hn0, hw0, hst0, hrd0, hmd0, hcl0, hop0⟩ := loadV_same n l
    have HOne := Hid.mk' (fun (s : St) (lx : List Cel) (hs : s.held = (loadV n l).held) (hi : IsImage s lx) => load_one hm HCan.out hs hi)
    have HAt := Hid.mk' (fun k => load_get hm HCan.out k)
    have HRise := Hid.mk' (rises_rise l _ (may_rises hm).2)
    have HBd := Hid.mk' (may_bounds hm)
    have HN : Hid _ := hn0
    have HW : Hid _ := hw0
    have HSt : Hid _ := hst0
    have HRd : Hid _ := hrd0
    have HMd : Hid _ := hmd0
    have HCl : Hid _ := hcl0
    have HOp : Hid _ := hop0
    clear hn0 hw0 hst0 hrd0 hmd0 hcl0 hop0 hm
    generalize loadV n l = s0 at *
    go_wp2_with (go_at_call 17; fail)
    refine Calls.mono (sits_image2 HS3.out) ?_
    rintro e W4 ⟨gx, lx, rfl, hi4, hgx, hs4⟩
    obtain rfl := (HOne.out s0 lx rfl hi4).symm
    rw [HN.out, HLen.out]
    have HS4 := Hid.mk' (hs4.add (.cells #[.int .i64 n, .slice (some ⟨gx, 0, none⟩) len len] 32))
    have HGx := Hid.mk' (show A.heap.size ≤ gx from Nat.le_trans HS3.out.below.size hgx)
    have HGxl := Hid.mk' (show gx < W4.heap.size from (Array.getElem?_eq_some_iff.1 (hs4.blk (List.mem_cons_self ..))).1)
    clear hi4 hgx hs4 HS3
    go_wp2_with (go_at_call 17; fail)
    generalize W4.alloc (.cells #[.int .i64 n, .slice (some ⟨gx, 0, none⟩) len len] 32) = X4 at *
    have HGX := Hid.mk' (show gx < W4.heap.size from HGxl.out)
    have HGXl := Hid.mk' (show W4.heap.size < X4.heap.size from (Array.getElem?_eq_some_iff.1 (HS4.out.blk (List.mem_cons_self ..))).1)
    have HAX := Hid.mk' (show A.heap.size ≤ X4.heap.size from HS4.out.below.size)
    clear HGxl
    generalize W4.heap.size = gX at *
    refine Calls.mono (sits_image2 HS4.out) ?_
    rintro e W5 ⟨gy, ly, rfl, hi5, hgy, hs5⟩
    obtain rfl := (HOne.out s0 ly rfl hi5).symm
    rw [HN.out, HLen.out]
    have HS5 := Hid.mk' (hs5.add (.cells #[.int .i64 n, .slice (some ⟨gy, 0, none⟩) len len] 32))
    have HGy := Hid.mk' (show A.heap.size ≤ gy ∧ X4.heap.size ≤ gy from ⟨Nat.le_trans HAX.out hgy, hgy⟩)
    have HGyl := Hid.mk' (show gy < W5.heap.size from (Array.getElem?_eq_some_iff.1 (hs5.blk (List.mem_cons_self ..))).1)
    clear hi5 hgy hs5 HS4
    go_wp2_with (go_at_call 18; fail)
    generalize W5.alloc (.cells #[.int .i64 n, .slice (some ⟨gy, 0, none⟩) len len] 32) = X5 at *
    have HGY := Hid.mk' (show gy < W5.heap.size from HGyl.out)
    clear HGyl
    generalize W5.heap.size = gY at *
    have HTell := Hid.mk' (fun (W : World) (s : St) (hs : Sits A W d s [(gY, .cells #[.int .i64 n, .slice (some ⟨gy, 0, none⟩) len len] 32), (gy, .cells (celCells l).toArray 85), (gX, .cells #[.int .i64 n, .slice (some ⟨gx, 0, none⟩) len len] 32), (gx, .cells (celCells l).toArray 85)]) =>
      show (W.cell? ⟨gX, 0, none⟩ = some (.int .i64 n) ∧ W.cell? ⟨gX, 1, none⟩ = some (.slice (some ⟨gx, 0, none⟩) len len) ∧ W.cell? ⟨gY, 0, none⟩ = some (.int .i64 n) ∧ W.cell? ⟨gY, 1, none⟩ = some (.slice (some ⟨gy, 0, none⟩) len len) ∧ W.cell? ⟨gI, 0, none⟩ = some (.int .i64 n) ∧ W.cell? ⟨gI, 1, none⟩ = some (.slice p len c)) ∧ (ImgAt W (some ⟨gx, 0, none⟩) l ∧ ImgAt W (some ⟨gy, 0, none⟩) l ∧ ImgAt W p l) from by
        have bX := hs.blk (show (gX, Obj.cells #[.int .i64 n, .slice (some ⟨gx, 0, none⟩) len len] 32) ∈ _ by simp)
        have bY := hs.blk (show (gY, Obj.cells #[.int .i64 n, .slice (some ⟨gy, 0, none⟩) len len] 32) ∈ _ by simp)
        have bx := hs.blk (show (gx, Obj.cells (celCells l).toArray 85) ∈ _ by simp)
        have by' := hs.blk (show (gy, Obj.cells (celCells l).toArray 85) ∈ _ by simp)
        have bI := heap_kept HR2.out hs.below
        exact ⟨⟨Joins.cell_of_block bX 0, Joins.cell_of_block bX 1, Joins.cell_of_block bY 0, Joins.cell_of_block bY 1, Joins.cell_of_block bI 0, Joins.cell_of_block bI 1⟩, img_cells bx, img_cells by', HI2.out.later hs.below⟩)
    have HSame := Hid.mk' (fun (W : World) (g : Nat) (h1 : ImgAt W (some ⟨g, 0, none⟩) l) (h2 : ImgAt W p l) => show Calls Try.prog 19 #[.slice (some ⟨g, 0, none⟩) len len, .slice p len c] W (fun e w' => e = .returned (.bool true) ∧ Below W.heap.size W w') from by
      have := sameHelds_any l l (some ⟨g, 0, none⟩) p len c W (by have := HLen.out; omega) (by have := HLen.out; omega) h1 h2
      rwa [HLen.out, celsB_self HCan.out] at this)
    refine Calls.mono (sits_len HS5.out) ?_
    rintro e W6 ⟨rfl, hs6⟩
    rw [HN.out]
    have HS6 := Hid.mk' hs6
    obtain ⟨⟨x0, x1, y0, y1, i0, i1⟩, j1, j2, j3⟩ := HTell.out W6 s0 hs6
    have HJ1 := Hid.mk' (HSame.out W6 gx j1 j3)
    clear hs6 HS5 j1 j2 j3
    go_wp2_with (go_at_call 19; fail)
    refine Calls.mono HJ1.out ?_
    rintro e W7 ⟨rfl, hb7⟩
    have hs7 := HS6.out.later hb7
    clear x0 x1 y0 y1 i0 i1 HJ1 hb7 HS6
    obtain ⟨⟨x0, x1, y0, y1, i0, i1⟩, j1, j2, j3⟩ := HTell.out W7 s0 hs7
    have HJ1 := Hid.mk' (HSame.out W7 gy j2 j3)
    have HS7 := Hid.mk' hs7
    clear j1 j2 j3 hs7
    go_wp2_with (go_at_call 19; fail)
    refine Calls.mono HJ1.out ?_
    rintro e W8 ⟨rfl, hb8⟩
    have HS8 := Hid.mk' (HS7.out.later hb8)
    clear x0 x1 y0 y1 i0 i1 HJ1 hb8 HS7 HSame
    have HS8' : Hid (Sits A W8 d (rdK s0 0) [(gY, .cells #[.int .i64 n, .slice (some ⟨gy, 0, none⟩) len len] 32), (gy, .cells (celCells l).toArray 85), (gX, .cells #[.int .i64 n, .slice (some ⟨gx, 0, none⟩) len len] 32), (gx, .cells (celCells l).toArray 85)]) := by rw [rdK_zero]; exact HS8.out
    clear HS8
    go_wp2
    go_loopw [12] (fun s12 wx => ∃ k : Nat, k ≤ len ∧ s12 = .int .i64 k ∧ Hid (Sits A wx d (rdK s0 k) [(gY, .cells #[.int .i64 n, .slice (some ⟨gy, 0, none⟩) len len] 32), (gy, .cells (celCells l).toArray 85), (gX, .cells #[.int .i64 n, .slice (some ⟨gx, 0, none⟩) len len] 32), (gx, .cells (celCells l).toArray 85)])) (fun s12 _ => len - (intOf s12).toNat)
    case atStart => exact ⟨0, by omega, rfl, HS8'.out⟩
    case round =>
      obtain ⟨k, hk, rfl, HS⟩ := hrel
      clear HS8'
      by_cases hk2 : (k : Int) < len
      · obtain ⟨rfl, hqb, hW⟩ := HCin.out k (by omega)
        have hgk := HGet.out k (by omega)
        have hBw := below_next HB2.out HS.out.below
        obtain ⟨ca, cb, _⟩ := hW wr hBw
        have hb5 := HBd.out.2 (q k) (List.mem_of_getElem? hgk)
        have href : refV (rdK s0 k) (q k).1 = 0 := by
          unfold refV
          rw [show (rdK s0 k).stopped = s0.stopped from rfl, HSt.out, show (rdK s0 k).n = s0.n from rfl, HN.out]
          simp only [Bool.false_eq_true, if_false]
          exact if_pos ⟨hb5.1, hb5.2.1⟩
        have hcur : readB (rdK s0 k) (q k).1 = (q k).2 := by
          unfold readB curV
          rw [if_pos href, show (rdK s0 k).wait = s0.wait from rfl, HW.out]
          show (s0.held (q k).1).getD nought = _
          rw [HAt.out, rise_at HRise.out hgk]
        have hrd := sits_read HS.out ⟨by rw [show (rdK s0 k).ops = s0.ops from rfl, HOp.out]; decide, by rw [show (rdK s0 k).made = s0.made from rfl, HMd.out]; decide, by rw [show (rdK s0 k).reads = s0.reads + k from rfl, HRd.out]; omega, by rw [show (rdK s0 k).claims = s0.claims from rfl, HCl.out]; decide⟩ (q k).1
        rw [hcur, href, show readV (rdK s0 k) (q k).1 = rdK s0 (k + 1) from by unfold readV; rw [if_pos href, rdK_succ]] at hrd
        have HRD := Hid.mk' hrd
        have HWW := Hid.mk' hW
        clear hrd hcur href hb5 hBw hgk hW
        generalize hqk : q k = qk at *
        obtain ⟨y, f⟩ := qk
        generalize hvk : v k = vk at *
        obtain ⟨va, vn, vc⟩ := vk
        clear hqk hvk
        have z25 := zero25
        go_wp2_with (go_at_call 20; fail)
        refine Calls.mono HRD.out ?_
        rintro e W9 ⟨rfl, hs9⟩
        have HS9 := Hid.mk' (hs9.later (below_new W9 (.cells (blk f) 58)))
        have HG9 := Hid.mk' (heap_alloc_new W9 (.cells (blk f) 58))
        clear hs9 HRD ca cb HS
        go_wp2_with (first | refine wpList_store25_new rfl (.tmp 13) (.tmp 90) rfl f _ rfl rfl ?_)
        generalize W9.alloc (.cells (blk f) 58) = X9 at *
        generalize W9.heap.size = g13 at *
        have HB9 := Hid.mk' (below_next HB2.out HS9.out.below)
        have HC9 := Hid.mk' (HWW.out X9.drew HB9.out.drew).2.2
        refine wp_region_ord (S := fun u => u.heap[g13]? = some (.cells (blk f) 58) ∧ Below w.heap.size w u) [(0, true), (1, true), (2, true), (3, true), (4, true), (5, true), (6, true), (7, true), (8, true), (9, false), (10, true), (11, true)]
          (by kernel_rfl) rfl (by kernel_rfl) (fun d _ _ _ _ h => by cases d <;> exact h) ⟨HG9.out, HB9.out.drew⟩ ?_
        simp only [inOrd, List.getElem?_cons_zero, List.getElem?_cons_succ]
        refine wpOrd_yield (v := .int .i64 0) rfl (fun u _ => exec_mv rfl rfl) ?_
        simp only [Act.put, List.setIfInBounds_toArray, List.set_cons_succ, List.set_cons_zero]
        refine wpOrd_yield (v := .bool false) rfl (fun u _ => by go_simp) ?_
        simp only [Act.put, List.setIfInBounds_toArray, List.set_cons_succ, List.set_cons_zero]
        refine wpOrd_yield (v := .bool false) rfl (fun u _ => exec_mv rfl rfl) ?_
        simp only [Act.put, List.setIfInBounds_toArray, List.set_cons_succ, List.set_cons_zero]
        refine wpOrd_yield (v := .agg (blk f)) rfl (fun u hu => exec_load58 rfl rfl hu.1) ?_
        simp only [Act.put, List.setIfInBounds_toArray, List.set_cons_succ, List.set_cons_zero]
        refine wpOrd_yield (v := .slice (some ⟨b, off, none⟩) len cap) rfl (fun u _ => exec_mv rfl rfl) ?_
        simp only [Act.put, List.setIfInBounds_toArray, List.set_cons_succ, List.set_cons_zero]
        refine wpOrd_yield (v := .int .i64 (k : Int)) rfl (fun u _ => exec_mv rfl rfl) ?_
        simp only [Act.put, List.setIfInBounds_toArray, List.set_cons_succ, List.set_cons_zero]
        refine wpOrd_yield (v := .pointer (some ⟨b, off + k * 2, none⟩)) rfl (fun u _ => by go_simp) ?_
        simp only [Act.put, List.setIfInBounds_toArray, List.set_cons_succ, List.set_cons_zero]
        refine wpOrd_yield (v := .pointer (some ⟨b, off + k * 2 + 1, none⟩)) rfl (fun u _ => by go_simp) ?_
        simp only [Act.put, List.setIfInBounds_toArray, List.set_cons_succ, List.set_cons_zero]
        refine wpOrd_yield (v := .slice va vn vc) rfl (fun u hu => by have := (HWW.out u hu.2).2.1; go_simp) ?_
        simp only [Act.put, List.setIfInBounds_toArray, List.set_cons_succ, List.set_cons_zero]
        refine wpOrd_call rfl 21 _ _ rfl Try.call21 [.slice va vn vc] rfl ?_
        refine Calls.mono HC9.out ?_
        rintro e W10 ⟨rfl, hb10⟩
        have hg10 : W10.heap[g13]? = some (.cells (blk f) 58) := (hb10.block g13 (Array.getElem?_eq_some_iff.1 HG9.out).1).trans HG9.out
        have HS10 := Hid.mk' (HS9.out.later ((Below.refl _ _).drew.trans hb10))
        refine ⟨_, rfl, ⟨hg10, below_next HB9.out.drew hb10⟩, ?_⟩
        clear hg10 hb10 HC9 HS9 HB9 HG9
        simp only [Act.put, List.setIfInBounds_toArray, List.set_cons_succ, List.set_cons_zero]
        refine wpOrd_yield (v := .bool false) rfl (fun u _ => exec_neq58 (f := f) rfl rfl rfl) ?_
        simp only [Act.put, List.setIfInBounds_toArray, List.set_cons_succ, List.set_cons_zero]
        refine wpOrd_yield (v := .bool false) rfl (fun u _ => by go_simp) ?_
        simp only [Act.put, List.setIfInBounds_toArray, List.set_cons_succ, List.set_cons_zero]
        refine wpOrd_nil ?_
        go_wp2
        exact ⟨⟨k + 1, by omega, by go_num, HS10.out⟩, by simp [intOf]; omega⟩
      · obtain rfl : len = k := by omega
        clear hk2 hk
        have hlt := HS.out.blk (show (gY, Obj.cells #[.int .i64 n, .slice (some ⟨gy, 0, none⟩) len len] 32) ∈ _ by simp)
        have hltY : gY < wr.heap.size := (Array.getElem?_eq_some_iff.1 hlt).1
        have h1 := HGX.out
        have h2 := HGXl.out
        have h3 := HGy.out
        have h4 := HGY.out
        have h5 := HGx.out
        have hsX : Sits A (wr.drew.alloc (.cells #[.slice (some ⟨gx, 0, none⟩) len len, .slice (some ⟨gy, 0, none⟩) len len] 30)) d (rdK s0 len) [(gY, .cells #[.int .i64 n, .slice (some ⟨gy, 0, none⟩) len len] 32), (gy, .cells (celCells l).toArray 85), (gX, .cells #[.int .i64 n, .slice (some ⟨gx, 0, none⟩) len len] 32), (gx, .cells (celCells l).toArray 85)] := HS.out.later ((Below.refl _ _).drew.trans (below_new wr.drew (.cells #[.slice (some ⟨gx, 0, none⟩) len len, .slice (some ⟨gy, 0, none⟩) len len] 30)))
        have HToS := Hid.mk' (fun (W : World) (s : St) (hs : Sits A W d s [(gY, .cells #[.int .i64 n, .slice (some ⟨gy, 0, none⟩) len len] 32), (gX, .cells #[.int .i64 n, .slice (some ⟨gx, 0, none⟩) len len] 32)]) => show W.cell? ⟨gX, 1, none⟩ = some (.slice (some ⟨gx, 0, none⟩) len len) ∧ W.cell? ⟨gY, 1, none⟩ = some (.slice (some ⟨gy, 0, none⟩) len len) ∧ W.heap[gI]? = some (.cells #[.int .i64 n, .slice p len c] 32) from
          ⟨Joins.cell_of_block (hs.blk (show (gX, Obj.cells #[.int .i64 n, .slice (some ⟨gx, 0, none⟩) len len] 32) ∈ _ by simp)) 1, Joins.cell_of_block (hs.blk (show (gY, Obj.cells #[.int .i64 n, .slice (some ⟨gy, 0, none⟩) len len] 32) ∈ _ by simp)) 1, heap_kept HR2.out hs.below⟩)
        have HSX := Hid.mk' (HToS.out _ _ (hsX.drop (ks' := [(gY, .cells #[.int .i64 n, .slice (some ⟨gy, 0, none⟩) len len] 32), (gX, .cells #[.int .i64 n, .slice (some ⟨gx, 0, none⟩) len len] 32)]) (fun x hx => by simp at hx ⊢; rcases hx with q | q <;> simp [q])))
        have HSD := Hid.mk' (HToS.out _ _ ((HS.out.drop (ks' := [(gY, .cells #[.int .i64 n, .slice (some ⟨gy, 0, none⟩) len len] 32), (gX, .cells #[.int .i64 n, .slice (some ⟨gx, 0, none⟩) len len] 32)]) (fun x hx => by simp at hx ⊢; rcases hx with q | q <;> simp [q])).later (Below.refl _ _).drew))
        have hrow := heap_alloc_new wr.drew (.cells #[.slice (some ⟨gx, 0, none⟩) len len, .slice (some ⟨gy, 0, none⟩) len len] 30)
        have HAp := Hid.mk' (apartH_any 2 wr.heap.size (fun k => if k = 0 then gx else gy) (fun _ => len) (wr.drew.alloc (.cells #[.slice (some ⟨gx, 0, none⟩) len len, .slice (some ⟨gy, 0, none⟩) len len] 30)) (fun _ => l) (by omega) (by decide) (fun _ _ => ⟨HLen.out, by omega⟩)
          (fun k _ => by split <;> omega)
          (fun j k hj hk hne => by
            have ej : j = 0 ∨ j = 1 := by omega
            have ek : k = 0 ∨ k = 1 := by omega
            rcases ej with rfl | rfl <;> rcases ek with rfl | rfl <;> simp at hne ⊢ <;> omega)
          ⟨Fr.refl _ _, fun k hk => by
            have ek : k = 0 ∨ k = 1 := by omega
            rcases ek with rfl | rfl
            · exact Joins.cell_of_block hrow 0
            · exact Joins.cell_of_block hrow 1, fun k hk => by
            have ek : k = 0 ∨ k = 1 := by omega
            rcases ek with rfl | rfl
            · exact hsX.blk (show (gx, Obj.cells (celCells l).toArray 85) ∈ _ by simp)
            · exact hsX.blk (show (gy, Obj.cells (celCells l).toArray 85) ∈ _ by simp)⟩)
        have HTurn := Hid.mk' (fun (W : World) (hf : Fr (TG 2 (fun k => if k = 0 then gx else gy)) (wr.drew.alloc (.cells #[.slice (some ⟨gx, 0, none⟩) len len, .slice (some ⟨gy, 0, none⟩) len len] 30)) W) => show Sits A W d (rdK s0 len) [(gY, .cells #[.int .i64 n, .slice (some ⟨gy, 0, none⟩) len len] 32), (gX, .cells #[.int .i64 n, .slice (some ⟨gx, 0, none⟩) len len] 32)] from
          hsX.turn hf (fun i hi => by
            obtain ⟨k, hk, rfl⟩ := hi
            have ek : k = 0 ∨ k = 1 := by omega
            rcases ek with rfl | rfl
            · exact ⟨.cells (celCells l).toArray 85, by simp⟩
            · exact ⟨.cells (celCells l).toArray 85, by simp⟩) (fun i hi => by
            obtain ⟨k, hk, rfl⟩ := hi
            have ek : k = 0 ∨ k = 1 := by omega
            rcases ek with rfl | rfl
            · exact h5
            · exact h3.1) (fun x hx => by
            refine ⟨by simp at hx ⊢; rcases hx with q | q <;> simp [q], fun hi => ?_⟩
            obtain ⟨k, hk, hq⟩ := hi
            simp at hx
            rcases hx with rfl | rfl <;> (simp only at hq; split at hq <;> omega)))
        clear h1 h2 h3 h4 h5 hlt hltY hsX hrow HS HTell HCin HGet HAt HRise HBd HGX HGXl HGy HGY HGx HAX
        go_wp2
        refine wp_region_ord (S := fun u => u.cell? ⟨gX, 1, none⟩ = some (.slice (some ⟨gx, 0, none⟩) len len) ∧ u.cell? ⟨gY, 1, none⟩ = some (.slice (some ⟨gy, 0, none⟩) len len) ∧ u.heap[gI]? = some (.cells #[.int .i64 n, .slice p len c] 32)) [(0, true), (1, true), (2, true), (3, true), (4, false), (5, false), (6, true), (7, true), (8, false), (9, true), (10, true), (11, true), (12, true), (14, true), (15, true), (13, false), (16, true), (17, true), (18, true), (19, true), (20, false), (21, true), (22, true), (23, true), (24, true), (25, true), (26, false), (27, true), (28, true), (29, true), (30, true), (31, true), (33, true), (32, false), (34, false), (35, true), (36, true)]
          (by kernel_rfl) rfl (by kernel_rfl) (fun d _ _ _ _ h => by cases d <;> exact h) HSD.out ?_
        simp only [inOrd, List.getElem?_cons_zero, List.getElem?_cons_succ]
        refine wpOrd_yield (v := .pointer (some ⟨gX, 1, none⟩)) rfl (fun u _ => by go_simp) ?_
        simp only [Act.put, List.setIfInBounds_toArray, List.set_cons_succ, List.set_cons_zero]
        refine wpOrd_yield (v := .slice (some ⟨gx, 0, none⟩) len len) rfl (fun u hu => by have := hu.1; go_simp) ?_
        simp only [Act.put, List.setIfInBounds_toArray, List.set_cons_succ, List.set_cons_zero]
        refine wpOrd_yield (v := .pointer (some ⟨gY, 1, none⟩)) rfl (fun u _ => by go_simp) ?_
        simp only [Act.put, List.setIfInBounds_toArray, List.set_cons_succ, List.set_cons_zero]
        refine wpOrd_yield (v := .slice (some ⟨gy, 0, none⟩) len len) rfl (fun u hu => by have := hu.2.1; go_simp) ?_
        simp only [Act.put, List.setIfInBounds_toArray, List.set_cons_succ, List.set_cons_zero]
        refine wpOrd_run (v := .slice (some ⟨wr.heap.size, 0, none⟩) 2 2) (w' := wr.drew.alloc (.cells #[.slice (some ⟨gx, 0, none⟩) len len, .slice (some ⟨gy, 0, none⟩) len len] 30)) rfl (by go_simp) HSX.out ?_
        simp only [Act.put, List.setIfInBounds_toArray, List.set_cons_succ, List.set_cons_zero]
        refine wpOrd_call rfl 22 _ _ rfl Try.call22 [.slice (some ⟨wr.heap.size, 0, none⟩) 2 2] rfl ?_
        refine Calls.mono HAp.out ?_
        rintro e Z1 ⟨rfl, hfr⟩
        have HZ1 := Hid.mk' (HTurn.out Z1 hfr)
        refine ⟨_, rfl, HToS.out _ _ HZ1.out, ?_⟩
        clear hfr HAp HTurn HSX
        simp only [Act.put, List.setIfInBounds_toArray, List.set_cons_succ, List.set_cons_zero]
        refine wpOrd_yield (v := .bool true) rfl (fun u _ => exec_mv rfl rfl) ?_
        simp only [Act.put, List.setIfInBounds_toArray, List.set_cons_succ, List.set_cons_zero]
        refine wpOrd_yield (v := .pointer (some ⟨d, 0, none⟩)) rfl (fun u _ => exec_mv rfl rfl) ?_
        simp only [Act.put, List.setIfInBounds_toArray, List.set_cons_succ, List.set_cons_zero]
        refine wpOrd_call rfl 23 _ _ rfl Try.call23 [.pointer (some ⟨d, 0, none⟩)] rfl ?_
        refine Calls.mono (sits_made HZ1.out) ?_
        rintro e Z2 ⟨rfl, hz2⟩
        rw [show (rdK s0 len).made = 0 from HMd.out]
        have HZ2 := Hid.mk' hz2
        refine ⟨_, rfl, HToS.out _ _ HZ2.out, ?_⟩
        clear hz2
        simp only [Act.put, List.setIfInBounds_toArray, List.set_cons_succ, List.set_cons_zero]
        refine wpOrd_yield (v := .bool true) rfl (fun u _ => by go_simp) ?_
        simp only [Act.put, List.setIfInBounds_toArray, List.set_cons_succ, List.set_cons_zero]
        refine wpOrd_yield (v := .bool true) rfl (fun u _ => by go_simp) ?_
        simp only [Act.put, List.setIfInBounds_toArray, List.set_cons_succ, List.set_cons_zero]
        refine wpOrd_yield (v := .bool true) rfl (fun u _ => exec_mv rfl rfl) ?_
        simp only [Act.put, List.setIfInBounds_toArray, List.set_cons_succ, List.set_cons_zero]
        refine wpOrd_yield (v := .pointer (some ⟨d, 0, none⟩)) rfl (fun u _ => exec_mv rfl rfl) ?_
        simp only [Act.put, List.setIfInBounds_toArray, List.set_cons_succ, List.set_cons_zero]
        refine wpOrd_yield (v := .slice a len cap) rfl (fun u _ => exec_mv rfl rfl) ?_
        simp only [Act.put, List.setIfInBounds_toArray, List.set_cons_succ, List.set_cons_zero]
        refine wpOrd_yield (v := .int .i64 (len : Int)) rfl (fun u _ => by go_simp) ?_
        simp only [Act.put, List.setIfInBounds_toArray, List.set_cons_succ, List.set_cons_zero]
        refine wpOrd_call rfl 24 _ _ rfl Try.call24 [.pointer (some ⟨d, 0, none⟩)] rfl ?_
        refine Calls.mono (sits_reads HZ2.out) ?_
        rintro e Z3 ⟨rfl, hz3⟩
        rw [show (rdK s0 len).reads = (len : Int) by show s0.reads + (len : Int) = _; rw [HRd.out]; omega]
        have HZ3 := Hid.mk' hz3
        refine ⟨_, rfl, HToS.out _ _ HZ3.out, ?_⟩
        clear hz3
        simp only [Act.put, List.setIfInBounds_toArray, List.set_cons_succ, List.set_cons_zero]
        refine wpOrd_yield (v := .bool true) rfl (fun u _ => by go_simp) ?_
        simp only [Act.put, List.setIfInBounds_toArray, List.set_cons_succ, List.set_cons_zero]
        refine wpOrd_yield (v := .bool true) rfl (fun u _ => by go_simp) ?_
        simp only [Act.put, List.setIfInBounds_toArray, List.set_cons_succ, List.set_cons_zero]
        refine wpOrd_yield (v := .bool true) rfl (fun u _ => exec_mv rfl rfl) ?_
        simp only [Act.put, List.setIfInBounds_toArray, List.set_cons_succ, List.set_cons_zero]
        refine wpOrd_yield (v := .pointer (some ⟨d, 0, none⟩)) rfl (fun u _ => exec_mv rfl rfl) ?_
        simp only [Act.put, List.setIfInBounds_toArray, List.set_cons_succ, List.set_cons_zero]
        refine wpOrd_call rfl 25 _ _ rfl Try.call25 [.pointer (some ⟨d, 0, none⟩)] rfl ?_
        refine Calls.mono (sits_pending HZ3.out (by rw [show (rdK s0 len).wait = [] from HW.out]; decide)) ?_
        rintro e Z4 ⟨rfl, _, hz4⟩
        rw [show (rdK s0 len).wait = [] from HW.out]
        have HZ4 := Hid.mk' hz4
        refine ⟨_, rfl, HToS.out _ _ HZ4.out, ?_⟩
        clear hz4
        simp only [Act.put, List.setIfInBounds_toArray, List.set_cons_succ, List.set_cons_zero]
        refine wpOrd_yield (v := .int .i64 0) rfl (fun u _ => by go_simp) ?_
        simp only [Act.put, List.setIfInBounds_toArray, List.set_cons_succ, List.set_cons_zero]
        refine wpOrd_yield (v := .bool true) rfl (fun u _ => by go_simp) ?_
        simp only [Act.put, List.setIfInBounds_toArray, List.set_cons_succ, List.set_cons_zero]
        refine wpOrd_yield (v := .bool true) rfl (fun u _ => by go_simp) ?_
        simp only [Act.put, List.setIfInBounds_toArray, List.set_cons_succ, List.set_cons_zero]
        refine wpOrd_yield (v := .bool true) rfl (fun u _ => exec_mv rfl rfl) ?_
        simp only [Act.put, List.setIfInBounds_toArray, List.set_cons_succ, List.set_cons_zero]
        refine wpOrd_yield (v := .pointer (some ⟨d, 0, none⟩)) rfl (fun u _ => exec_mv rfl rfl) ?_
        simp only [Act.put, List.setIfInBounds_toArray, List.set_cons_succ, List.set_cons_zero]
        refine wpOrd_call rfl 26 _ _ rfl Try.call26 [.pointer (some ⟨d, 0, none⟩)] rfl ?_
        refine Calls.mono (sits_history HZ4.out (by rw [show (rdK s0 len).ops = [] from HOp.out]; decide)) ?_
        rintro e Z5 ⟨rfl, _, hz5⟩
        rw [show (rdK s0 len).ops = [] from HOp.out]
        have HZ5 := Hid.mk' hz5
        refine ⟨_, rfl, HToS.out _ _ HZ5.out, ?_⟩
        clear hz5
        simp only [Act.put, List.setIfInBounds_toArray, List.set_cons_succ, List.set_cons_zero]
        refine wpOrd_yield (v := .int .i64 0) rfl (fun u _ => by go_simp) ?_
        simp only [Act.put, List.setIfInBounds_toArray, List.set_cons_succ, List.set_cons_zero]
        refine wpOrd_yield (v := .bool true) rfl (fun u _ => by go_simp) ?_
        simp only [Act.put, List.setIfInBounds_toArray, List.set_cons_succ, List.set_cons_zero]
        refine wpOrd_yield (v := .bool true) rfl (fun u _ => by go_simp) ?_
        simp only [Act.put, List.setIfInBounds_toArray, List.set_cons_succ, List.set_cons_zero]
        refine wpOrd_yield (v := .bool true) rfl (fun u _ => exec_mv rfl rfl) ?_
        simp only [Act.put, List.setIfInBounds_toArray, List.set_cons_succ, List.set_cons_zero]
        refine wpOrd_yield (v := .pointer (some ⟨d, 0, none⟩)) rfl (fun u _ => exec_mv rfl rfl) ?_
        simp only [Act.put, List.setIfInBounds_toArray, List.set_cons_succ, List.set_cons_zero]
        refine wpOrd_yield (v := .agg #[.int .i64 n, .slice p len c]) rfl (fun u hu => by have c0 : u.cell? ⟨gI, 0, none⟩ = some (.int .i64 n) := Joins.cell_of_block hu.2.2 0; have c1 : u.cell? ⟨gI, 1, none⟩ = some (.slice p len c) := Joins.cell_of_block hu.2.2 1; go_simp) ?_
        simp only [Act.put, List.setIfInBounds_toArray, List.set_cons_succ, List.set_cons_zero]
        refine wpOrd_call rfl 17 _ _ rfl Try.call17 [.pointer (some ⟨d, 0, none⟩)] rfl ?_
        refine Calls.mono (sits_image2 HZ5.out) ?_
        rintro e Z6 ⟨gz, lz, rfl, hiz, _, hz6'⟩
        obtain rfl := (HOne.out (rdK s0 len) lz rfl hiz).symm
        have HImz := Hid.mk' (img_cells (hz6'.blk (List.mem_cons_self ..)))
        have hz6 := hz6'.drop (ks' := [(gY, .cells #[.int .i64 n, .slice (some ⟨gy, 0, none⟩) len len] 32), (gX, .cells #[.int .i64 n, .slice (some ⟨gx, 0, none⟩) len len] 32)]) (fun x hx => List.mem_cons_of_mem _ hx)
        clear hz6' hiz
        rw [show (rdK s0 len).n = n from HN.out, HLen.out]
        have HZ6 := Hid.mk' hz6
        refine ⟨_, rfl, HToS.out _ _ HZ6.out, ?_⟩
        clear hz6
        simp only [Act.put, List.setIfInBounds_toArray, List.set_cons_succ, List.set_cons_zero]
        have HSI := Hid.mk' (sameImage_any n n l l (some ⟨gz, 0, none⟩) p len c Z6 (by have := HLen.out; omega) (by have := HLen.out; omega) HImz.out (HI2.out.later HZ6.out.below))
        rw [HLen.out, celsB_self HCan.out, show ((n == n) && true) = true by simp] at HSI
        refine wpOrd_call rfl 27 _ _ rfl Try.call27 [.agg #[.int .i64 n, .slice (some ⟨gz, 0, none⟩) len len], .agg #[.int .i64 n, .slice p len c]] rfl ?_
        refine Calls.mono HSI.out ?_
        rintro e Z7 ⟨rfl, hb7⟩
        have HZ7 := Hid.mk' (HZ6.out.later hb7)
        refine ⟨_, rfl, HToS.out _ _ HZ7.out, ?_⟩
        clear hb7 HSI
        simp only [Act.put, List.setIfInBounds_toArray, List.set_cons_succ, List.set_cons_zero]
        refine wpOrd_yield (v := .bool true) rfl (fun u _ => by go_simp) ?_
        simp only [Act.put, List.setIfInBounds_toArray, List.set_cons_succ, List.set_cons_zero]
        refine wpOrd_yield (v := .bool true) rfl (fun u _ => by go_simp) ?_
        simp only [Act.put, List.setIfInBounds_toArray, List.set_cons_succ, List.set_cons_zero]
        refine wpOrd_nil ?_
        have HFin := Hid.mk' (below_next HB2.out HZ7.out.below)
        go_wp2
        go_ret
        exact ⟨rfl, HFin.out⟩
end Go.Proofs.Ytembocfghkmieaa
