/- rising and Changed, once more: what they tell lies in memory of their own; no condition. -/
import Derived.Test.YtbnbbelkddbndaaChanged
import Derived.Sort.OwnSortedInts
import Derived.Deep.Onto
namespace Go.Proofs.Ytbnbbelkddbndaa
open Go.RowKit Go.Maps
open Go.Sort in
theorem sort_own {w : World} {base g cap : Nat} {cur : Array Value} (zs : List Int) (hc : ∀ j, j < zs.length → w.cell? ⟨g, 0 + j, none⟩ = some (.int .i64 (zs.getD j 0))) (hf : ∀ j, j < zs.length → w.frozen? ⟨g, 0 + j, none⟩ = false) (hg : g < w.heap.size) (hn : zs.length < 4611686018427387904)
    (hbase : base ≤ g) (hb : w.heap[g]? = some (.cells cur 3)) (h1 : zs.length ≤ cap) (h2 : cap ≤ maxLen) (h3 : cur.size = cap * 1) :
    Calls Try.prog 73 #[.slice (some ⟨g, 0, none⟩) zs.length cap] w fun e w' => e = .returned (.tuple #[]) ∧ w'.ownsRow base 3 1 (.slice (some ⟨g, 0, none⟩) zs.length cap) zs.length ((sortL zs).map (Value.int .i64)) ∧ Fr (fun i => i = g) w w' := by
  have hH : Go.Sort.Holds (Value.int .i64) w g 0 zs.toArray := by
    have := Lib.holds_of_ints (n := zs.length) (Nat.le_refl _) hc hf
    rwa [List.take_length] at this
  refine (Try.slices_Sort_int g 0 cap zs w hH hg hn).mono ?_
  rintro e w' ⟨rfl, q, os, hw⟩
  have hl : (sortL zs).length = zs.length := (List.mergeSort_perm _ _).length_eq
  refine ⟨rfl, ?_, ?_⟩
  · rw [hw]
    exact Go.ownsRow_sortedI hl hbase hb h1 h2 h3
  · rw [Lib.sorted_world _ w g 0 q _ _ os hH (by simp)] at hw
    rw [hw]
    have hr := rest_setCells g ((sortL zs).map (Value.int .i64)) 0 (w.drewN q)
    have hs := size_setCells g ((sortL zs).map (Value.int .i64)) 0 (w.drewN q)
    have hs' : ((w.drewN q).setCells g 0 ((sortL zs).map (Value.int .i64))).heap.size = w.heap.size := hs.trans (by simp)
    refine ⟨hr.1.trans rfl, hr.2.1.trans rfl, hr.2.2.trans rfl, by rw [size_grow]; show w.heap.size ≤ ((w.drewN q).setCells g 0 ((sortL zs).map (Value.int .i64))).heap.size + _; omega, fun k hk hn => ?_⟩
    rw [heap_grow_old _ _ (by show k < ((w.drewN q).setCells g 0 ((sortL zs).map (Value.int .i64))).heap.size; omega)]
    exact (heap_setCells g _ 0 _ k hn).trans (by simp)
set_option maxRecDepth 20000 in
set_option maxHeartbeats 1000000 in
theorem rising_own {w : World} {mb : Nat} {m : Int → Option Value} (h : MapIs Try.prog 3 w mb m) :
    Calls Try.prog 64 #[.map (some mb)] w fun e w' => ∃ (g cap : Nat) (zs : List Int), e = .returned (.slice (some ⟨g, 0, none⟩) zs.length cap) ∧ w'.ownsRow w.heap.size 3 1 (.slice (some ⟨g, 0, none⟩) zs.length cap) zs.length (zs.map (Value.int .i64)) ∧ zs.Pairwise (fun a b => a < b) ∧ (∀ x, x ∈ zs ↔ (m x).isSome = true) ∧
      zs.length ≤ 1048576 ∧ zs.length ≤ cap ∧ w.heap.size ≤ g ∧ g < w'.heap.size ∧ Below w.heap.size w w' := by
  obtain ⟨D, hown, hv⟩ := h
  have hbl : mb < w.heap.size := hown.lt
  have hsz : Maps.size D ≤ 1048576 := size_top Try.underlying3 hown keyed3 hv
  have hmk := fun u => run_make65c u (Maps.size D) (by omega)
  go_enter Try.func64, Try.ntmps64
  go_wp2_with (first | (at_len; refine wpList_len_own _ rfl (.tmp 5) 84 rfl 3 89 Try.underlying84 valElem mb top D rfl hown ?_) | (at_range; refine wpList_range_own _ rfl (.tmp 8) 84 rfl 3 89 keyed3 Try.underlying84 _ mb top D rfl (hown.alloc _) ?_; intro w0 hrg0 hg0 hs0))
  have e1 : (w.alloc (.cells (iRow nought (Maps.size D)) 3)).heap.size = w.heap.size + 1 := by simp
  rw [e1] at hrg0 hs0 ⊢
  go_frame
  have hB0 : Below w.heap.size w w0 := ((Below.refl _ _).alloc (Nat.le_refl _) _).grown hg0 (by simp) (fun j hj => by cases hj)
  have hO0 : w0.ownsRow w.heap.size 3 1 (.slice (some ⟨w.heap.size, 0, none⟩) 0 (Maps.size D)) 0 [] := by
    refine ⟨rfl, .inr ⟨w.heap.size, Maps.size D, iRow nought (Maps.size D), rfl, Nat.le_refl _, ?_, Nat.zero_le _, by unfold maxLen; omega, by rw [iRow_size]; omega, by simp⟩⟩
    rw [hg0.block w.heap.size (by simp) (by simp)]
    exact heap_alloc_new w (.cells (iRow nought (Maps.size D)) 3)
  have HB0 : Hid (Below w.heap.size w w0) := hB0
  have HO0 : Hid (w0.ownsRow w.heap.size 3 1 (.slice (some ⟨w.heap.size, 0, none⟩) 0 (Maps.size D)) 0 []) := hO0
  have HV : Hid (Views D m) := hv
  clear hB0 hO0 hg0 hs0 hmk hown hv e1
  obtain ⟨i0, hi0, hz0, hz1, hz2⟩ := info_parts info3b
  generalize hBB : w.heap.size = B at *
  go_loopw [3] (fun s3 wx => ∃ (left : Lit → Bool) (cnt : Nat) (zs : List Int) (g cap : Nat), wx.ranges Try.prog 3 valElem mb (B + 1) top D left cnt ∧ Hid (Col m left zs) ∧ s3 = .slice (some ⟨g, 0, none⟩) zs.length cap ∧
      Hid (wx.ownsRow B 3 1 (.slice (some ⟨g, 0, none⟩) zs.length cap) zs.length (zs.map (Value.int .i64))) ∧ g ≠ B + 1 ∧ Hid (Below B w wx)) (fun _ wx => wx.rangeLeft mb (B + 1))
  case atStart => exact ⟨_, _, [], B, Maps.size D, hrg0, Col.start HV.out, rfl, HO0.out, by omega, HB0.out⟩
  case round =>
    obtain ⟨left, cnt, zs, g, cap, hrg, HC, rfl, HO, hgne, HB⟩ := hrel
    clear HB0 HO0 hrg0
    go_wp2_with (at_next; refine wpList_next_ranges _ rfl (.tmp 9) rfl 3 keyed3 valElem (Value.int .i64) (fun v : Value => v) (fun key kl hk => by obtain ⟨x, hx, _⟩ := Maps.keyOf_int_inv Try.underlying3 hk; exact ⟨x, hx⟩) (fun v _ _ => ⟨v, rfl⟩) mb (B + 1) top _ _ _ rfl hrg ?_ ?_)
    · intro hc0 hl0
      have hmem := HC.out.done hl0
      have hzl : zs.length ≤ 1048576 := nodup_le 1048576 zs HC.out.nodup fun y hy => by
        cases hm : m y with
        | none => have := (hmem y).1 hy; rw [hm] at this; cases this
        | some v => exact (HV.out.some y v hm).1
      have hgl := HO.out.lt g rfl
      have hcap : zs.length ≤ cap := by
        rcases HO.out.2 with ⟨h, _⟩ | ⟨g'', cap'', cur, h, _, hh, hc, _⟩
        · cases h
        · injection h with h1 h2 h3
          omega
      have hcells : ∀ j, j < zs.length → wr.cell? ⟨g, 0 + j, none⟩ = some (.int .i64 (zs.getD j 0)) := fun j hj => by
        have q := HO.out.cells (g := g) rfl j (.int .i64 (zs.getD j 0)) (by rw [List.getElem?_map, List.getElem?_eq_getElem hj]; simp [List.getD, hj])
        rw [Go.WideShapes.add_plain] at q
        exact q
      have hfroz : ∀ j, j < zs.length → wr.frozen? ⟨g, 0 + j, none⟩ = false := fun j hj => by
        rcases HO.out.2 with ⟨h, _⟩ | ⟨g'', cap'', cur, h, _, hh, _⟩
        · cases h
        · injection h with h1 h2 h3
          injection h1 with h1
          injection h1 with h1
          rw [← h1] at hh
          exact Joins.unfrozen_of_block hh _
      obtain ⟨cur, hcur, hcapm, hcurs⟩ : ∃ cur, wr.heap[g]? = some (.cells cur 3) ∧ cap ≤ maxLen ∧ cur.size = cap * 1 := by
        rcases HO.out.2 with ⟨h, _⟩ | ⟨g'', cap'', cur, h, _, hh, _, hm, hcs, _⟩
        · cases h
        · injection h with h1 h2 h3
          injection h1 with h1
          injection h1 with h1
          rw [← h1] at hh
          exact ⟨cur, hh, by omega, by rw [h3]; exact hcs⟩
      have hS := sort_own (base := B) (cap := cap) zs hcells hfroz hgl.2 (by omega) hgl.1 hcur hcap hcapm hcurs
      have hsl : (sortL zs).length = zs.length := (List.mergeSort_perm _ _).length_eq
      have hp : (sortL zs).Perm zs := List.mergeSort_perm _ _
      have hsm : ∀ x, x ∈ sortL zs ↔ (m x).isSome = true := fun x => hp.mem_iff.trans (hmem x)
      have hpw : (sortL zs).Pairwise (fun a b => a < b) := by
        have h1 : (sortL zs).Pairwise (fun a b => decide (a ≤ b) = true) := List.pairwise_mergeSort (fun a b c h1 h2 => by simp at *; omega) (fun a b => by simp; omega) zs
        have h2 : (sortL zs).Nodup := hp.nodup_iff.2 HC.out.nodup
        exact (h1.and h2).imp fun {a b} q => by
          have q1 : a ≤ b := by simpa using q.1
          have q2 : a ≠ b := q.2
          omega
      have HSM : Hid (∀ x, x ∈ sortL zs ↔ (m x).isSome = true) := hsm
      have HPW : Hid ((sortL zs).Pairwise (fun a b => a < b)) := hpw
      have hgB := hgl.1
      have hgW := hgl.2
      clear hcur hcurs HC HO hrg hmem hcells hfroz hl0 hc0 hsm HV hpw hp hgl
      go_wp2_with (go_at_call 73; fail)
      refine hS.mono ?_
      rintro e W2 ⟨rfl, hcs, hF2⟩
      have hB2 : Below B w W2 := ⟨hF2.os.trans HB.out.os, hF2.tape.trans HB.out.tape, hF2.output.trans HB.out.output, Nat.le_trans HB.out.size hF2.size, fun k hk => (hF2.block k (by have := HB.out.size; omega) (by omega)).trans (HB.out.block k hk)⟩
      have HC0 := Hid.mk' hcs
      have HB2 : Hid (Below B w W2) := hB2
      have hg2 : g < W2.heap.size := Nat.lt_of_lt_of_le hgW hF2.size
      clear hS HB hF2 hcs hB2
      go_wp2
      go_ret
      refine ⟨g, cap, sortL zs, by simp only [hsl]; rfl, by rw [hsl, hBB]; exact HC0.out, HPW.out, HSM.out, by omega, by omega, by omega, hg2, by rw [hBB]; exact HB2.out⟩
    · intro x c kl yd yp w1 cnt1 hkey hlk hval hat hrg1 hlt1 hg1 hs1 hen
      obtain ⟨x', ex, rfl, hwx⟩ := Maps.keyOf_int_inv Try.underlying3 hkey
      obtain rfl : x = x' := by injection ex
      obtain ⟨hC1, hsome⟩ := HC.out.step HV.out hlk hat
      have hlen : zs.length + 1 ≤ 1048576 := by
        have q := nodup_le 1048576 (zs ++ [x]) hC1.nodup fun y hy => by
          have q1 := ((hC1.mem y).1 hy).1
          cases hm : m y with
          | none => rw [hm] at q1; cases q1
          | some v => exact (HV.out.some y v hm).1
        simpa using q
      have HC1 : Hid (Col m (fun z => left z && !z.sameKey (.int .i64 x)) (zs ++ [x])) := hC1
      have hgl := (HO.out.lt g rfl).1
      have hown1 := HO.out.kept hg1 (.inr (by simp only [Value.ownBlock]; exact fun q => hgne (by injection q)))
      have hB1 : Below B w w1 := HB.out.grown hg1 (by have := HB.out.size; omega) (fun j hj => by cases hj; omega)
      have hBs : B ≤ wr.heap.size := by have := HB.out.size; omega
      have hBs1 : B + 1 < w1.heap.size := hrg1.lt
      clear hs1 hC1 HC HO HB hkey hval hat hsome
      have HRG : Hid (w1.ranges Try.prog 3 valElem mb (B + 1) top D (fun z => left z && !z.sameKey (.int .i64 x)) cnt1) := hrg1
      have HLE : Hid (wr.rangeLeft mb (B + 1) = cnt) := hrg.left_eq
      clear hrg1 hrg hg1
      go_wp2_with (at_builtin; refine wpList_append_own_at _ rfl (.tmp 14) (.tmp 16) 57 rfl B 3 i0 (.int .i64 0) 1 8 Try.underlying57 hi0 hz0 hz1 hz2 rfl (by decide) (.slice (some ⟨g, 0, none⟩) zs.length cap) zs.length _ rfl (hown1.alloc _) ⟨w1.heap.size, 0, none⟩ 1 1 [.int .i64 x] rfl rfl (cell_one_new _ _ _) (ints_oneCell .i64 [x]) (by unfold maxLen; omega) (by omega) (by simp; omega) ?_; intro v' w2 hown2 hg2 hnil hloc)
      obtain ⟨g', cap', rfl⟩ : ∃ g' cap', v' = .slice (some ⟨g', 0, none⟩) (zs.length + 1) cap' := by
        rcases hown2.2 with ⟨_, h⟩ | ⟨g', cap', _, h, _⟩
        · omega
        · exact ⟨g', cap', h⟩
      have hg2' : (w1.alloc (.cells #[.int .i64 x] 3)).grownBy w2 (some g) := hg2
      have hrg2 := (HRG.out.alloc (.cells #[.int .i64 x] 3)).kept hg2' (fun q => by injection q with q; omega) (fun q => by injection q with q; omega)
      have hg'ne : g' ≠ B + 1 := by
        rcases hloc with q | q
        · have q' : some g' = some g := q
          injection q' with q'
          omega
        · have q' : some g' = some (w1.alloc (.cells #[.int .i64 x] 3)).heap.size := q
          injection q' with q'
          simp at q'
          omega
      have hl1 : (zs ++ [x]).length = zs.length + 1 := by simp
      refine ⟨⟨_, cnt1, zs ++ [x], g', cap', hrg2, HC1.out, by rw [hl1], ?_, hg'ne, ?_⟩, ?_⟩
      · rw [hl1, List.map_append]
        exact hown2
      · exact ((hB1.alloc (by have := hB1.size; omega) _).grown hg2' (by simp; omega) (fun j hj => by cases hj; omega))
      · rw [hrg2.left_eq, HLE.out]
        exact hlt1
set_option maxRecDepth 20000 in
set_option maxHeartbeats 1000000 in
theorem changed_own (n : Int) (s : List Cel) (p : Option Addr) (cp : Nat) (t : List Cel) (q : Option Addr) (cq : Nat) (w : World) (hls : s.length < 9223372036854775807) (hlt : t.length < 9223372036854775807) (hs : ImgAt w p s) (ht : ImgAt w q t) (hms : mayB n s = true) (hmt : mayB n t = true) (hcs : ∀ c ∈ s, Can c.2) (hct : ∀ c ∈ t, Can c.2) :
    Calls Try.prog 28 #[.agg #[.int .i64 n, .slice p s.length cp], .agg #[.int .i64 n, .slice q t.length cq]] w fun e w' => ∃ (g cap : Nat) (zs : List Int), e = .returned (.slice (some ⟨g, 0, none⟩) zs.length cap) ∧ w'.ownsRow w.heap.size 3 1 (.slice (some ⟨g, 0, none⟩) zs.length cap) zs.length (zs.map (Value.int .i64)) ∧ zs.Pairwise (fun a b => a < b) ∧ (∀ x, x ∈ zs ↔ atL s x ≠ atL t x) ∧ zs.length ≤ 1048576 ∧ w.heap.size ≤ g ∧ g < w'.heap.size ∧ Below w.heap.size w w' := by
  have hB : Below w.heap.size w ((w.alloc (.cells #[.int .i64 n, .slice p s.length cp] 24)).alloc (.cells #[.int .i64 n, .slice q t.length cq] 24)) := (((Below.refl _ _).alloc (Nat.le_refl _) _).alloc (by simp) _)
  have hG : ((w.alloc (.cells #[.int .i64 n, .slice p s.length cp] 24)).alloc (.cells #[.int .i64 n, .slice q t.length cq] 24)).heap[w.heap.size + 1]? = some (.cells #[.int .i64 n, .slice q t.length cq] 24) := by
    have := heap_alloc_new (w.alloc (.cells #[.int .i64 n, .slice p s.length cp] 24)) (.cells #[.int .i64 n, .slice q t.length cq] 24)
    rwa [show (w.alloc (.cells #[.int .i64 n, .slice p s.length cp] 24)).heap.size = w.heap.size + 1 by simp] at this
  have hG0 : ((w.alloc (.cells #[.int .i64 n, .slice p s.length cp] 24)).alloc (.cells #[.int .i64 n, .slice q t.length cq] 24)).heap[w.heap.size]? = some (.cells #[.int .i64 n, .slice p s.length cp] 24) := heap_kept (heap_alloc_new w _) (below_new _ _)
  have h1 := one_any n s p cp n t q cq _ hls hlt (hs.later hB) (ht.later hB)
  rw [show oneB n s n t = true by unfold oneB; rw [hms, hmt]; simp] at h1
  obtain ⟨rs, ss⟩ := may_parts hms hcs
  obtain ⟨rt, st⟩ := may_parts hmt hct
  have HSome : Hid (∀ k, (chgC (holdCs noC s) t k).isSome = true ↔ atL s k ≠ atL t k) := fun k => chg_some rs ss rt st k
  have HBs : Hid (∀ c ∈ t, inTop c.1 ∧ blankB c.2 = false) := fun c hc => by
    obtain ⟨b1, b2⟩ := may_bounds hmt
    obtain ⟨y1, y2, y3⟩ := b2 c hc
    exact ⟨inTop_bnd b1 ⟨y1, y2⟩, y3⟩
  have HS : Hid (ImgAt w p s) := hs
  have HT : Hid (ImgAt w q t) := ht
  clear hs ht rs ss rt st hcs hct hmt
  go_enter Try.func28, Try.ntmps28
  go_wp2_with (go_at_call 59; fail)
  refine h1.mono ?_
  rintro e W1 ⟨rfl, hb1⟩
  have hB1 := below3 hB hb1
  have hG1 := (hb1.block (w.heap.size + 1) (Array.getElem?_eq_some_iff.1 hG).1).trans hG
  have hG2 := (hb1.block w.heap.size (Array.getElem?_eq_some_iff.1 hG0).1).trans hG0
  have j0 : W1.cell? ⟨w.heap.size, 0, none⟩ = some (.int .i64 n) := Joins.cell_of_block hG2 0
  have j1 : W1.cell? ⟨w.heap.size, 1, none⟩ = some (.slice p s.length cp) := Joins.cell_of_block hG2 1
  have hN := byNumber_of n s p cp W1 hls (HS.out.later hB1) hms
  have hlt1 : w.heap.size + 1 < W1.heap.size := (Array.getElem?_eq_some_iff.1 hG1).1
  clear h1 hb1 hG hG0 hG2 hB HS
  go_wp2_with (go_at_call 54; fail)
  refine hN.mono ?_
  rintro e W2 ⟨mb, rfl, hP2, hmb, hb2⟩
  have hG3 := (hb2.block (w.heap.size + 1) hlt1).trans hG1
  have k1 : W2.cell? ⟨w.heap.size + 1, 1, none⟩ = some (.slice q t.length cq) := Joins.cell_of_block hG3 1
  have HP2 : Hid (PtrsAt W1.heap.size W2 mb (chgC (holdCs noC s) (t.take 0))) := hP2
  have HB2 : Hid (Below w.heap.size w W2) := below3 hB1 hb2
  have HG3 : Hid (W2.heap[w.heap.size + 1]? = some (.cells #[.int .i64 n, .slice q t.length cq] 24)) := hG3
  have hs2 : W1.heap.size ≤ W2.heap.size := hb2.size
  clear hN hP2 hb2 hB1 hG1 hG3 j0 j1 hms
  go_wp2
  go_loopw [19] (fun s19 wx => ∃ k : Nat, k ≤ t.length ∧ s19 = .int .i64 k ∧ Hid (PtrsAt W1.heap.size wx mb (chgC (holdCs noC s) (t.take k))) ∧ Hid (Fr (fun i => i = mb) W2 wx)) (fun s19 _ => t.length - (intOf s19).toNat)
  case atStart => exact ⟨0, by omega, rfl, HP2.out, Fr.refl _ _⟩
  case round =>
    obtain ⟨k, hk, rfl, HP, HF⟩ := hrel
    clear HP2 k1
    have hGr : wr.heap[w.heap.size + 1]? = some (.cells #[.int .i64 n, .slice q t.length cq] 24) := (HF.out.block _ (by omega) (by omega)).trans HG3.out
    have hBr : Below w.heap.size w wr := HB2.out.trans (HF.out.below (fun i hi => by omega) (by have := HB2.out.size; omega))
    have k1 : wr.cell? ⟨w.heap.size + 1, 1, none⟩ = some (.slice q t.length cq) := Joins.cell_of_block hGr 1
    by_cases hk2 : (k : Int) < t.length
    · have hc : t[k]? = some t[k] := List.getElem?_eq_getElem (by omega)
      obtain ⟨b, off, rfl, hlt, hC⟩ := HT.out (by omega)
      have htk := take_snoc hc
      generalize t[k] = c at hc htk
      obtain ⟨hin, hbl⟩ := HBs.out c (List.mem_of_getElem? hc)
      obtain ⟨q1, q2⟩ := (hC.later hBr hlt) k c hc
      have hW := hin.wf
      have hnx : chgC (holdCs noC s) (t.take (k + 1)) = stepC (chgC (holdCs noC s) (t.take k)) c := by rw [htk, chgC_snoc]
      obtain ⟨m, hM, h2, h3⟩ := HP.out
      have hbB : b < W1.heap.size := by omega
      have HPut : Hid (hasB (chgC (holdCs noC s) (t.take k)) c = false → ∀ (u w' : World), Fr (fun _ => False) wr u → MapIs Try.prog 3 w' mb (fun y => if y = c.1 then some (.pointer (some ⟨b, off + k * 1025 + 1, none⟩)) else m y) → u.grownBy w' (some mb) → PtrsAt W1.heap.size w' mb (chgC (holdCs noC s) (t.take (k + 1))) ∧ Fr (fun i => i = mb) W2 w') := fun hh u w' hu hm' hg' => by
        have hF : Fr (fun i => i = mb) wr w' := (hu.mono fun _ _ q => q.elim).trans ((Fr.ofGrown hg').mono fun i _ q => by injection q with q; exact q.symm) fun _ _ q => q
        refine ⟨?_, HF.out.trans hF fun _ _ q => q⟩
        rw [hnx]
        unfold stepC
        rw [hh]
        exact putP h2 h3 hbB q2 hbl hm' fun i hi => hF.block i (by have := HF.out.size; omega) (by omega)
      have HDel : Hid (hasB (chgC (holdCs noC s) (t.take k)) c = true → ∀ (u w' : World), Fr (fun _ => False) wr u → MapIs Try.prog 3 w' mb (fun y => if y = c.1 then none else m y) → u.grownBy w' (some mb) → PtrsAt W1.heap.size w' mb (chgC (holdCs noC s) (t.take (k + 1))) ∧ Fr (fun i => i = mb) W2 w') := fun hh u w' hu hm' hg' => by
        have hF : Fr (fun i => i = mb) wr w' := (hu.mono fun _ _ q => q.elim).trans ((Fr.ofGrown hg').mono fun i _ q => by injection q with q; exact q.symm) fun _ _ q => q
        refine ⟨?_, HF.out.trans hF fun _ _ q => q⟩
        rw [hnx]
        unfold stepC
        rw [hh]
        exact strikeP h2 h3 hm' fun i hi => hF.block i (by have := HF.out.size; omega) (by omega)
      have hlk := look_ok Try.underlying3 keyed3 Try.underlying84 hM (zero89 wr) hW
      have HHas : Hid (hasB (chgC (holdCs noC s) (t.take k)) c = match chgC (holdCs noC s) (t.take k) c.1 with | some g => sameB g c.2 | none => false) := rfl
      cases hcv : chgC (holdCs noC s) (t.take k) c.1 with
      | none =>
        have hmc := h2 c.1 hcv
        rw [hmc] at hlk
        have hh : hasB (chgC (holdCs noC s) (t.take k)) c = false := by rw [HHas.out, hcv]
        have hput := HPut.out hh
        have HPut' : Hid (∀ (u w' : World), Fr (fun _ => False) wr u → MapIs Try.prog 3 w' mb (fun y => if y = c.1 then some (.pointer (some ⟨b, off + k * 1025 + 1, none⟩)) else m y) → u.grownBy w' (some mb) → PtrsAt W1.heap.size w' mb (chgC (holdCs noC s) (t.take (k + 1))) ∧ Fr (fun i => i = mb) W2 w') := hput
        have hMq : ∀ dr, MapIs Try.prog 3 ((wr.drewN dr).drew) mb m := fun dr => hM.kept rfl
        have q1q : ∀ dr, (wr.drewN dr).cell? ⟨b, off + k * 1025, none⟩ = some (.int .i64 c.1) := fun _ => q1
        have FrN : Hid (∀ dr, Fr (fun _ => False) wr ((wr.drewN dr).drew)) := fun dr => ⟨rfl, rfl, rfl, Nat.le_refl _, fun _ _ _ => rfl⟩
        clear hput HPut HDel h2 h3 HP HF hnx hcv hmc hh HHas hGr hBr hC htk hc q2 hM hbl
        go_wp2_with (at_lookup; refine wpList_lookR rfl _ _ rfl (.map (some mb)) (.int .i64 c.1) _ rfl rfl hlk ?_)
        go_quiet (fail)
        generalize hU : wr.drewN _ = U
        have q1U : U.cell? ⟨b, off + k * 1025, none⟩ = some (.int .i64 c.1) := by rw [← hU]; exact q1q _
        have hMU : MapIs Try.prog 3 U.drew mb m := by rw [← hU]; exact hMq _
        have FrU : Hid (Fr (fun _ => False) wr U.drew) := by rw [← hU]; exact FrN.out _
        clear hU q1q hMq FrN
        go_wp2
        go_still_tail 8, (by kernel_rfl)
        change wpList _ _ _ _ _ (World.drew _)
        refine wpList_putM rfl _ _ _ 84 rfl 89 Try.underlying3 keyed3 Try.underlying84 mb m rfl hMU c.1 hin rfl _ rfl ?_
        intro w' hm' hg'
        have n1 : Hid (PtrsAt W1.heap.size w' mb (chgC (holdCs noC s) (t.take (k + 1))) ∧ Fr (fun i => i = mb) W2 w') := HPut'.out _ w' FrU.out hm' hg'
        clear hm' hg' HPut' hMU hlk
        go_wp2
        exact ⟨⟨k + 1, by omega, by go_num, n1.out.1, n1.out.2⟩, by simp [intOf]; omega⟩
      | some f0 =>
        obtain ⟨g0, o0, hmc, hg0, hb0⟩ := h3 c.1 f0 hcv
        rw [hmc] at hlk
        have hh : hasB (chgC (holdCs noC s) (t.take k)) c = sameB f0 c.2 := by rw [HHas.out, hcv]
        obtain ⟨F0, hF0⟩ : ∃ F0, blk f0 = F0 := ⟨_, rfl⟩
        obtain ⟨F1, hF1⟩ : ∃ F1, blk c.2 = F1 := ⟨_, rfl⟩
        have ld0 : ∀ u, BlkAt u g0 o0 f0 ∧ BlkAt u b (off + k * 1025 + 1) c.2 → (Instr.loadAt 40 (.pointer (some ⟨g0, o0, none⟩))).run Try.prog u = .ok (.agg F0) u := fun u hu => by rw [← hF0]; exact loadM hu.1
        have ld1 : ∀ u, BlkAt u g0 o0 f0 ∧ BlkAt u b (off + k * 1025 + 1) c.2 → (Instr.loadAt 40 (.pointer (some ⟨b, off + k * 1025 + 1, none⟩))).run Try.prog u = .ok (.agg F1) u := fun u hu => by rw [← hF1]; exact loadM hu.2
        have hSt : BlkAt wr.drew g0 o0 f0 ∧ BlkAt wr.drew b (off + k * 1025 + 1) c.2 := ⟨hb0, q2⟩
        have hMd : MapIs Try.prog 3 wr.drew mb m := hM.kept rfl
        have hMdd : MapIs Try.prog 3 wr.drew.drew mb m := hM.kept rfl
        have q1d : wr.drew.cell? ⟨b, off + k * 1025, none⟩ = some (.int .i64 c.1) := q1
        cases hsb : sameB f0 c.2
        · rw [hsb] at hh
          have HPut' : Hid (∀ (u w' : World), Fr (fun _ => False) wr u → MapIs Try.prog 3 w' mb (fun y => if y = c.1 then some (.pointer (some ⟨b, off + k * 1025 + 1, none⟩)) else m y) → u.grownBy w' (some mb) → PtrsAt W1.heap.size w' mb (chgC (holdCs noC s) (t.take (k + 1))) ∧ Fr (fun i => i = mb) W2 w') := HPut.out hh
          have FrN : Hid (Fr (fun _ => False) wr wr.drew.drew) := ⟨rfl, rfl, rfl, Nat.le_refl _, fun _ _ _ => rfl⟩
          clear HPut HDel h2 h3 HP HF hnx hcv hmc hh HHas hGr hBr hC htk hc q2 hM hbl hb0
          go_wp2_with (at_lookup; refine wpList_lookR rfl _ _ rfl (.map (some mb)) (.int .i64 c.1) _ rfl rfl hlk ?_)
          refine wp_region_ord (S := fun u => BlkAt u g0 o0 f0 ∧ BlkAt u b (off + k * 1025 + 1) c.2) [(0, true), (1, true), (2, true), (3, true), (4, true), (5, true), (6, true), (7, true), (8, true), (9, true), (10, true)]
            (by kernel_rfl) rfl (by kernel_rfl) (fun d _ _ _ _ h => by cases d <;> exact h) hSt ?_
          simp only [inOrd, List.getElem?_cons_zero, List.getElem?_cons_succ]
          refine wpOrd_move rfl _ rfl ?_
          simp only [Act.put, List.setIfInBounds_toArray, List.set_cons_succ, List.set_cons_zero]
          refine wpOrd_move rfl _ rfl ?_
          simp only [Act.put, List.setIfInBounds_toArray, List.set_cons_succ, List.set_cons_zero]
          refine wpOrd_move rfl _ rfl ?_
          simp only [Act.put, List.setIfInBounds_toArray, List.set_cons_succ, List.set_cons_zero]
          refine wpOrd_yield (v := .pointer (some ⟨g0, o0, none⟩)) rfl (fun u hu => by go_simp) ?_
          simp only [Act.put, List.setIfInBounds_toArray, List.set_cons_succ, List.set_cons_zero]
          refine wpOrd_yield (v := .agg F0) rfl (fun u hu => exec_load rfl rfl (ld0 u hu)) ?_
          simp only [Act.put, List.setIfInBounds_toArray, List.set_cons_succ, List.set_cons_zero]
          refine wpOrd_move rfl _ rfl ?_
          simp only [Act.put, List.setIfInBounds_toArray, List.set_cons_succ, List.set_cons_zero]
          refine wpOrd_yield (v := .pointer (some ⟨b, off + k * 1025, none⟩)) rfl (fun u hu => by go_simp) ?_
          simp only [Act.put, List.setIfInBounds_toArray, List.set_cons_succ, List.set_cons_zero]
          refine wpOrd_yield (v := .pointer (some ⟨b, off + k * 1025 + 1, none⟩)) rfl (fun u hu => by go_simp) ?_
          simp only [Act.put, List.setIfInBounds_toArray, List.set_cons_succ, List.set_cons_zero]
          refine wpOrd_yield (v := .agg F1) rfl (fun u hu => exec_load rfl rfl (ld1 u hu)) ?_
          simp only [Act.put, List.setIfInBounds_toArray, List.set_cons_succ, List.set_cons_zero]
          refine wpOrd_yield (v := .bool false) rfl (fun u hu => exec_eq40 rfl rfl rfl hF0 hF1 hsb) ?_
          simp only [Act.put, List.setIfInBounds_toArray, List.set_cons_succ, List.set_cons_zero]
          refine wpOrd_yield (v := .bool false) rfl (fun u hu => by go_simp) ?_
          simp only [Act.put, List.setIfInBounds_toArray, List.set_cons_succ, List.set_cons_zero]
          refine wpOrd_nil ?_
          generalize hU : wr.drew = U
          rw [hU] at q1d hMdd FrN
          clear hU
          go_wp2
          go_still_tail 8, (by kernel_rfl)
          change wpList _ _ _ _ _ (World.drew _)
          refine wpList_putM rfl _ _ _ 84 rfl 89 Try.underlying3 keyed3 Try.underlying84 mb m rfl hMdd c.1 hin rfl _ rfl ?_
          intro w' hm' hg'
          have n1 : Hid (PtrsAt W1.heap.size w' mb (chgC (holdCs noC s) (t.take (k + 1))) ∧ Fr (fun i => i = mb) W2 w') := HPut'.out _ w' FrN.out hm' hg'
          clear hm' hg' HPut' hMdd hMd hlk
          go_wp2
          exact ⟨⟨k + 1, by omega, by go_num, n1.out.1, n1.out.2⟩, by simp [intOf]; omega⟩
        · rw [hsb] at hh
          have HDel' : Hid (∀ (u w' : World), Fr (fun _ => False) wr u → MapIs Try.prog 3 w' mb (fun y => if y = c.1 then none else m y) → u.grownBy w' (some mb) → PtrsAt W1.heap.size w' mb (chgC (holdCs noC s) (t.take (k + 1))) ∧ Fr (fun i => i = mb) W2 w') := HDel.out hh
          have FrN : Hid (Fr (fun _ => False) wr wr.drew) := ⟨rfl, rfl, rfl, Nat.le_refl _, fun _ _ _ => rfl⟩
          clear HPut HDel h2 h3 HP HF hnx hcv hmc hh HHas hGr hBr hC htk hc q2 hM hbl hb0
          go_wp2_with (at_lookup; refine wpList_lookR rfl _ _ rfl (.map (some mb)) (.int .i64 c.1) _ rfl rfl hlk ?_)
          refine wp_region_ord (S := fun u => BlkAt u g0 o0 f0 ∧ BlkAt u b (off + k * 1025 + 1) c.2) [(0, true), (1, true), (2, true), (3, true), (4, true), (5, true), (6, true), (7, true), (8, true), (9, true), (10, true)]
            (by kernel_rfl) rfl (by kernel_rfl) (fun d _ _ _ _ h => by cases d <;> exact h) hSt ?_
          simp only [inOrd, List.getElem?_cons_zero, List.getElem?_cons_succ]
          refine wpOrd_move rfl _ rfl ?_
          simp only [Act.put, List.setIfInBounds_toArray, List.set_cons_succ, List.set_cons_zero]
          refine wpOrd_move rfl _ rfl ?_
          simp only [Act.put, List.setIfInBounds_toArray, List.set_cons_succ, List.set_cons_zero]
          refine wpOrd_move rfl _ rfl ?_
          simp only [Act.put, List.setIfInBounds_toArray, List.set_cons_succ, List.set_cons_zero]
          refine wpOrd_yield (v := .pointer (some ⟨g0, o0, none⟩)) rfl (fun u hu => by go_simp) ?_
          simp only [Act.put, List.setIfInBounds_toArray, List.set_cons_succ, List.set_cons_zero]
          refine wpOrd_yield (v := .agg F0) rfl (fun u hu => exec_load rfl rfl (ld0 u hu)) ?_
          simp only [Act.put, List.setIfInBounds_toArray, List.set_cons_succ, List.set_cons_zero]
          refine wpOrd_move rfl _ rfl ?_
          simp only [Act.put, List.setIfInBounds_toArray, List.set_cons_succ, List.set_cons_zero]
          refine wpOrd_yield (v := .pointer (some ⟨b, off + k * 1025, none⟩)) rfl (fun u hu => by go_simp) ?_
          simp only [Act.put, List.setIfInBounds_toArray, List.set_cons_succ, List.set_cons_zero]
          refine wpOrd_yield (v := .pointer (some ⟨b, off + k * 1025 + 1, none⟩)) rfl (fun u hu => by go_simp) ?_
          simp only [Act.put, List.setIfInBounds_toArray, List.set_cons_succ, List.set_cons_zero]
          refine wpOrd_yield (v := .agg F1) rfl (fun u hu => exec_load rfl rfl (ld1 u hu)) ?_
          simp only [Act.put, List.setIfInBounds_toArray, List.set_cons_succ, List.set_cons_zero]
          refine wpOrd_yield (v := .bool true) rfl (fun u hu => exec_eq40 rfl rfl rfl hF0 hF1 hsb) ?_
          simp only [Act.put, List.setIfInBounds_toArray, List.set_cons_succ, List.set_cons_zero]
          refine wpOrd_yield (v := .bool true) rfl (fun u hu => by go_simp) ?_
          simp only [Act.put, List.setIfInBounds_toArray, List.set_cons_succ, List.set_cons_zero]
          refine wpOrd_nil ?_
          go_wp2_with (at_delete; refine wpList_delM rfl _ _ 84 rfl 89 Try.underlying3 keyed3 Try.underlying84 mb m rfl hMd c.1 hW rfl ?_; intro w' hm' hg')
          have n1 : Hid (PtrsAt W1.heap.size w' mb (chgC (holdCs noC s) (t.take (k + 1))) ∧ Fr (fun i => i = mb) W2 w') := HDel'.out _ w' FrN.out hm' hg'
          exact ⟨⟨k + 1, by omega, by go_num, n1.out.1, n1.out.2⟩, by simp [intOf]; omega⟩
    · obtain rfl : k = t.length := by omega
      have hP := HP.out
      rw [List.take_length] at hP
      obtain ⟨m, hM, h2, h3⟩ := hP
      have hRs := rising_own hM
      have HBr : Hid (Below w.heap.size w wr) := hBr
      have HMm : Hid (∀ x, (m x).isSome = true ↔ atL s x ≠ atL t x) := fun x => by
        rw [← HSome.out x]
        cases hcx : chgC (holdCs noC s) t x with
        | none => rw [h2 x hcx]; simp
        | some f => obtain ⟨g, off, z, _⟩ := h3 x f hcx; rw [z]; simp
      clear hM h2 h3 HP hGr hBr k1
      go_wp2_with (go_at_call 64; fail)
      refine hRs.mono ?_
      rintro e W3 ⟨g, cap, zs, rfl, hcs, hpw, hmem, hl, _, hg1, hg2, hb3⟩
      have HC := Hid.mk' (World.ownsRow.mono hcs HBr.out.size)
      have HPw : Hid (zs.Pairwise (fun a b => a < b)) := hpw
      have HMem : Hid (∀ x, x ∈ zs ↔ atL s x ≠ atL t x) := fun x => (hmem x).trans (HMm.out x)
      have HB3 : Hid (Below w.heap.size w W3) := below3 HBr.out hb3
      clear hcs hpw hmem hb3 hRs HMm
      go_wp2
      go_ret
      exact ⟨g, cap, zs, rfl, HC.out, HPw.out, HMem.out, hl, by have := HBr.out.size; omega, hg2, HB3.out⟩
end Go.Proofs.Ytbnbbelkddbndaa
