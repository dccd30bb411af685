/- rising: the numbers of a map, in order; no condition. -/
import Derived.Test.YtbnbbelkddbndaaEach
namespace Go.Proofs.Ytbnbbelkddbndaa
open Go.RowKit Go.Maps
set_option maxRecDepth 20000 in
set_option maxHeartbeats 1000000 in
theorem rising_of {w : World} {mb : Nat} {m : Int → Option Value} (h : MapIs Try.prog 3 w mb m) :
    Calls Try.prog 64 #[.map (some mb)] w fun e w' => ∃ (g cap : Nat) (zs : List Int), e = .returned (.slice (some ⟨g, 0, none⟩) zs.length cap) ∧ (∀ j, j < zs.length → w'.cell? ⟨g, j, none⟩ = some (.int .i64 (zs.getD j 0))) ∧ zs.Pairwise (fun a b => a < b) ∧ (∀ x, x ∈ zs ↔ (m x).isSome = true) ∧
      zs.length ≤ 1048576 ∧ zs.length ≤ cap ∧ w.heap.size ≤ g ∧ g < w'.heap.size ∧ Below w.heap.size w w' := by
  obtain ⟨D, hown, hv⟩ := h
  have hbl : mb < w.heap.size := hown.lt
  have hsz : Maps.size D ≤ 1048576 := size_top Try.underlying3 hown keyed3 hv
  have hmk := fun u => run_make65c u (Maps.size D) (by omega)
  go_enter Try.func64, Try.ntmps64
  go_wp2_with (first | (at_len; refine wpList_len_own _ rfl (.tmp 5) 84 rfl 3 89 Try.underlying84 valElem mb top D rfl hown ?_) | (at_range; refine wpList_range_own _ rfl (.tmp 8) 84 rfl 3 89 keyed3 Try.underlying84 _ mb top D rfl (hown.alloc _) ?_; intro w0 hrg0 hg0 hs0))
  have e1 : (w.alloc (.cells (iRow nought (Maps.size D)) 3)).heap.size = w.heap.size + 1 := by simp
  rw [e1] at hrg0 hs0 ⊢
  go_frame
  have hB0 : Below w.heap.size w w0 := ((Below.refl _ _).alloc (Nat.le_refl _) _).grown hg0 (by simp) (fun j hj => by cases hj)
  have hO0 : w0.ownsRow w.heap.size 3 1 (.slice (some ⟨w.heap.size, 0, none⟩) 0 (Maps.size D)) 0 [] := by
    refine ⟨rfl, .inr ⟨w.heap.size, Maps.size D, iRow nought (Maps.size D), rfl, Nat.le_refl _, ?_, Nat.zero_le _, by unfold maxLen; omega, by rw [iRow_size]; omega, by simp⟩⟩
    rw [hg0.block w.heap.size (by simp) (by simp)]
    exact heap_alloc_new w (.cells (iRow nought (Maps.size D)) 3)
  have HB0 : Hid (Below w.heap.size w w0) := hB0
  have HO0 : Hid (w0.ownsRow w.heap.size 3 1 (.slice (some ⟨w.heap.size, 0, none⟩) 0 (Maps.size D)) 0 []) := hO0
  have HV : Hid (Views D m) := hv
  clear hB0 hO0 hg0 hs0 hmk hown hv e1
  obtain ⟨i0, hi0, hz0, hz1, hz2⟩ := info_parts info3b
  generalize hBB : w.heap.size = B at *
  go_loopw [3] (fun s3 wx => ∃ (left : Lit → Bool) (cnt : Nat) (zs : List Int) (g cap : Nat), wx.ranges Try.prog 3 valElem mb (B + 1) top D left cnt ∧ Hid (Col m left zs) ∧ s3 = .slice (some ⟨g, 0, none⟩) zs.length cap ∧
      Hid (wx.ownsRow B 3 1 (.slice (some ⟨g, 0, none⟩) zs.length cap) zs.length (zs.map (Value.int .i64))) ∧ g ≠ B + 1 ∧ Hid (Below B w wx)) (fun _ wx => wx.rangeLeft mb (B + 1))
  case atStart => exact ⟨_, _, [], B, Maps.size D, hrg0, Col.start HV.out, rfl, HO0.out, by omega, HB0.out⟩
  case round =>
    obtain ⟨left, cnt, zs, g, cap, hrg, HC, rfl, HO, hgne, HB⟩ := hrel
    clear HB0 HO0 hrg0
    go_wp2_with (at_next; refine wpList_next_ranges _ rfl (.tmp 9) rfl 3 keyed3 valElem (Value.int .i64) (fun v : Value => v) (fun key kl hk => by obtain ⟨x, hx, _⟩ := Maps.keyOf_int_inv Try.underlying3 hk; exact ⟨x, hx⟩) (fun v _ _ => ⟨v, rfl⟩) mb (B + 1) top _ _ _ rfl hrg ?_ ?_)
    · intro hc0 hl0
      have hmem := HC.out.done hl0
      have hzl : zs.length ≤ 1048576 := nodup_le 1048576 zs HC.out.nodup fun y hy => by
        cases hm : m y with
        | none => have := (hmem y).1 hy; rw [hm] at this; cases this
        | some v => exact (HV.out.some y v hm).1
      have hgl := HO.out.lt g rfl
      have hcap : zs.length ≤ cap := by
        rcases HO.out.2 with ⟨h, _⟩ | ⟨g'', cap'', cur, h, _, hh, hc, _⟩
        · cases h
        · injection h with h1 h2 h3
          omega
      have hcells : ∀ j, j < zs.length → wr.cell? ⟨g, 0 + j, none⟩ = some (.int .i64 (zs.getD j 0)) := fun j hj => by
        have q := HO.out.cells (g := g) rfl j (.int .i64 (zs.getD j 0)) (by rw [List.getElem?_map, List.getElem?_eq_getElem hj]; simp [List.getD, hj])
        rw [Go.WideShapes.add_plain] at q
        exact q
      have hfroz : ∀ j, j < zs.length → wr.frozen? ⟨g, 0 + j, none⟩ = false := fun j hj => by
        rcases HO.out.2 with ⟨h, _⟩ | ⟨g'', cap'', cur, h, _, hh, _⟩
        · cases h
        · injection h with h1 h2 h3
          injection h1 with h1
          injection h1 with h1
          rw [← h1] at hh
          exact Joins.unfrozen_of_block hh _
      have hS := sort_ints (cap := cap) zs hcells hfroz hgl.2 (by omega)
      have hsl : (sortL zs).length = zs.length := (List.mergeSort_perm _ _).length_eq
      have hp : (sortL zs).Perm zs := List.mergeSort_perm _ _
      have hsm : ∀ x, x ∈ sortL zs ↔ (m x).isSome = true := fun x => hp.mem_iff.trans (hmem x)
      have hpw : (sortL zs).Pairwise (fun a b => a < b) := by
        have h1 : (sortL zs).Pairwise (fun a b => decide (a ≤ b) = true) := List.pairwise_mergeSort (fun a b c h1 h2 => by simp at *; omega) (fun a b => by simp; omega) zs
        have h2 : (sortL zs).Nodup := hp.nodup_iff.2 HC.out.nodup
        exact (h1.and h2).imp fun {a b} q => by
          have q1 : a ≤ b := by simpa using q.1
          have q2 : a ≠ b := q.2
          omega
      have HSM : Hid (∀ x, x ∈ sortL zs ↔ (m x).isSome = true) := hsm
      have HPW : Hid ((sortL zs).Pairwise (fun a b => a < b)) := hpw
      have hgB := hgl.1
      have hgW := hgl.2
      clear HC HO hrg hmem hcells hfroz hl0 hc0 hsm HV hpw hp hgl
      go_wp2_with (go_at_call 73; fail)
      refine hS.mono ?_
      rintro e W2 ⟨rfl, hcs, hF2⟩
      have hB2 : Below B w W2 := ⟨hF2.os.trans HB.out.os, hF2.tape.trans HB.out.tape, hF2.output.trans HB.out.output, Nat.le_trans HB.out.size hF2.size, fun k hk => (hF2.block k (by have := HB.out.size; omega) (by omega)).trans (HB.out.block k hk)⟩
      have HC0 : Hid (∀ j, j < zs.length → W2.cell? ⟨g, j, none⟩ = some (.int .i64 ((sortL zs).getD j 0))) := hcs
      have HB2 : Hid (Below B w W2) := hB2
      have hg2 : g < W2.heap.size := Nat.lt_of_lt_of_le hgW hF2.size
      clear hS HB hF2 hcs hB2
      go_wp2
      go_ret
      refine ⟨g, cap, sortL zs, by simp only [hsl]; rfl, fun j hj => HC0.out j (by omega), HPW.out, HSM.out, by omega, by omega, by omega, hg2, by rw [hBB]; exact HB2.out⟩
    · intro x c kl yd yp w1 cnt1 hkey hlk hval hat hrg1 hlt1 hg1 hs1 hen
      obtain ⟨x', ex, rfl, hwx⟩ := Maps.keyOf_int_inv Try.underlying3 hkey
      obtain rfl : x = x' := by injection ex
      obtain ⟨hC1, hsome⟩ := HC.out.step HV.out hlk hat
      have hlen : zs.length + 1 ≤ 1048576 := by
        have q := nodup_le 1048576 (zs ++ [x]) hC1.nodup fun y hy => by
          have q1 := ((hC1.mem y).1 hy).1
          cases hm : m y with
          | none => rw [hm] at q1; cases q1
          | some v => exact (HV.out.some y v hm).1
        simpa using q
      have HC1 : Hid (Col m (fun z => left z && !z.sameKey (.int .i64 x)) (zs ++ [x])) := hC1
      have hgl := (HO.out.lt g rfl).1
      have hown1 := HO.out.kept hg1 (.inr (by simp only [Value.ownBlock]; exact fun q => hgne (by injection q)))
      have hB1 : Below B w w1 := HB.out.grown hg1 (by have := HB.out.size; omega) (fun j hj => by cases hj; omega)
      have hBs : B ≤ wr.heap.size := by have := HB.out.size; omega
      have hBs1 : B + 1 < w1.heap.size := hrg1.lt
      clear hs1 hC1 HC HO HB hkey hval hat hsome
      have HRG : Hid (w1.ranges Try.prog 3 valElem mb (B + 1) top D (fun z => left z && !z.sameKey (.int .i64 x)) cnt1) := hrg1
      have HLE : Hid (wr.rangeLeft mb (B + 1) = cnt) := hrg.left_eq
      clear hrg1 hrg hg1
      go_wp2_with (at_builtin; refine wpList_append_own_at _ rfl (.tmp 14) (.tmp 16) 57 rfl B 3 i0 (.int .i64 0) 1 8 Try.underlying57 hi0 hz0 hz1 hz2 rfl (by decide) (.slice (some ⟨g, 0, none⟩) zs.length cap) zs.length _ rfl (hown1.alloc _) ⟨w1.heap.size, 0, none⟩ 1 1 [.int .i64 x] rfl rfl (cell_one_new _ _ _) (ints_oneCell .i64 [x]) (by unfold maxLen; omega) (by omega) (by simp; omega) ?_; intro v' w2 hown2 hg2 hnil hloc)
      obtain ⟨g', cap', rfl⟩ : ∃ g' cap', v' = .slice (some ⟨g', 0, none⟩) (zs.length + 1) cap' := by
        rcases hown2.2 with ⟨_, h⟩ | ⟨g', cap', _, h, _⟩
        · omega
        · exact ⟨g', cap', h⟩
      have hg2' : (w1.alloc (.cells #[.int .i64 x] 3)).grownBy w2 (some g) := hg2
      have hrg2 := (HRG.out.alloc (.cells #[.int .i64 x] 3)).kept hg2' (fun q => by injection q with q; omega) (fun q => by injection q with q; omega)
      have hg'ne : g' ≠ B + 1 := by
        rcases hloc with q | q
        · have q' : some g' = some g := q
          injection q' with q'
          omega
        · have q' : some g' = some (w1.alloc (.cells #[.int .i64 x] 3)).heap.size := q
          injection q' with q'
          simp at q'
          omega
      have hl1 : (zs ++ [x]).length = zs.length + 1 := by simp
      refine ⟨⟨_, cnt1, zs ++ [x], g', cap', hrg2, HC1.out, by rw [hl1], ?_, hg'ne, ?_⟩, ?_⟩
      · rw [hl1, List.map_append]
        exact hown2
      · exact ((hB1.alloc (by have := hB1.size; omega) _).grown hg2' (by simp; omega) (fun j hj => by cases hj; omega))
      · rw [hrg2.left_eq, HLE.out]
        exact hlt1
end Go.Proofs.Ytbnbbelkddbndaa
