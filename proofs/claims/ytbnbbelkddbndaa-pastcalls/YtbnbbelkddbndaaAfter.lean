import Derived.Test.YtbnbbelkddbndaaEach
/- rising: the numbers of a map, in order; no condition. -/
namespace Go.Proofs.Ytbnbbelkddbndaa
open Go.RowKit Go.Maps
set_option maxRecDepth 20000 in
set_option maxHeartbeats 1000000 in
theorem rising_of {w : World} {mb : Nat} {m : Int → Option Value} (h : MapIs Try.prog 3 w mb m) :
    Calls Try.prog 64 #[.map (some mb)] w fun e w' => ∃ (g cap : Nat) (zs : List Int), e = .returned (.slice (some ⟨g, 0, none⟩) zs.length cap) ∧ (∀ j, j < zs.length → w'.cell? ⟨g, j, none⟩ = some (.int .i64 (zs.getD j 0))) ∧ zs.Pairwise (fun a b => a < b) ∧ (∀ x, x ∈ zs ↔ (m x).isSome = true) ∧
      zs.length ≤ 1048576 ∧ zs.length ≤ cap ∧ w.heap.size ≤ g ∧ g < w'.heap.size ∧ Below w.heap.size w w' := by
  obtain ⟨D, hown, hv⟩ := h
  have hbl : mb < w.heap.size := hown.lt
  have hsz : Maps.size D ≤ 1048576 := size_top Try.underlying3 hown keyed3 hv
  have hmk := fun u => run_make65c u (Maps.size D) (by omega)
  go_enter Try.func64, Try.ntmps64
  go_wp2_with (first | (at_len; refine wpList_len_own _ rfl (.tmp 5) 84 rfl 3 89 Try.underlying84 valElem mb top D rfl hown ?_) | (at_range; refine wpList_range_own _ rfl (.tmp 8) 84 rfl 3 89 keyed3 Try.underlying84 _ mb top D rfl (hown.alloc _) ?_; intro w0 hrg0 hg0 hs0))
  have e1 : (w.alloc (.cells (iRow nought (Maps.size D)) 3)).heap.size = w.heap.size + 1 := by simp
  rw [e1] at hrg0 hs0 ⊢
  go_frame
  have hB0 : Below w.heap.size w w0 := ((Below.refl _ _).alloc (Nat.le_refl _) _).grown hg0 (by simp) (fun j hj => by cases hj)
  have hO0 : w0.ownsRow w.heap.size 3 1 (.slice (some ⟨w.heap.size, 0, none⟩) 0 (Maps.size D)) 0 [] := by
    refine ⟨rfl, .inr ⟨w.heap.size, Maps.size D, iRow nought (Maps.size D), rfl, Nat.le_refl _, ?_, Nat.zero_le _, by unfold maxLen; omega, by rw [iRow_size]; omega, by simp⟩⟩
    rw [hg0.block w.heap.size (by simp) (by simp)]
    exact heap_alloc_new w (.cells (iRow nought (Maps.size D)) 3)
  have HB0 : Hid (Below w.heap.size w w0) := hB0
  have HO0 : Hid (w0.ownsRow w.heap.size 3 1 (.slice (some ⟨w.heap.size, 0, none⟩) 0 (Maps.size D)) 0 []) := hO0
  have HV : Hid (Views D m) := hv
  clear hB0 hO0 hg0 hs0 hmk hown hv e1
  obtain ⟨i0, hi0, hz0, hz1, hz2⟩ := info_parts info3b
  generalize hBB : w.heap.size = B at *
  go_loopw [3] (fun s3 wx => ∃ (left : Lit → Bool) (cnt : Nat) (zs : List Int) (g cap : Nat), wx.ranges Try.prog 3 valElem mb (B + 1) top D left cnt ∧ Hid (Col m left zs) ∧ s3 = .slice (some ⟨g, 0, none⟩) zs.length cap ∧
      Hid (wx.ownsRow B 3 1 (.slice (some ⟨g, 0, none⟩) zs.length cap) zs.length (zs.map (Value.int .i64))) ∧ g ≠ B + 1 ∧ Hid (Below B w wx)) (fun _ wx => wx.rangeLeft mb (B + 1))
  case atStart => exact ⟨_, _, [], B, Maps.size D, hrg0, Col.start HV.out, rfl, HO0.out, by omega, HB0.out⟩
  case round =>
    obtain ⟨left, cnt, zs, g, cap, hrg, HC, rfl, HO, hgne, HB⟩ := hrel
    clear HB0 HO0 hrg0
    go_wp2_with (at_next; refine wpList_next_ranges _ rfl (.tmp 9) rfl 3 keyed3 valElem (Value.int .i64) (fun v : Value => v) (fun key kl hk => by obtain ⟨x, hx, _⟩ := Maps.keyOf_int_inv Try.underlying3 hk; exact ⟨x, hx⟩) (fun v _ _ => ⟨v, rfl⟩) mb (B + 1) top _ _ _ rfl hrg ?_ ?_)
    · intro hc0 hl0
      have hmem := HC.out.done hl0
      have hzl : zs.length ≤ 1048576 := nodup_le 1048576 zs HC.out.nodup fun y hy => by
        cases hm : m y with
        | none => have := (hmem y).1 hy; rw [hm] at this; cases this
        | some v => exact (HV.out.some y v hm).1
      have hgl := HO.out.lt g rfl
      have hcap : zs.length ≤ cap := by
        rcases HO.out.2 with ⟨h, _⟩ | ⟨g'', cap'', cur, h, _, hh, hc, _⟩
        · cases h
        · injection h with h1 h2 h3
          omega
      have hcells : ∀ j, j < zs.length → wr.cell? ⟨g, 0 + j, none⟩ = some (.int .i64 (zs.getD j 0)) := fun j hj => by
        have q := HO.out.cells (g := g) rfl j (.int .i64 (zs.getD j 0)) (by rw [List.getElem?_map, List.getElem?_eq_getElem hj]; simp [List.getD, hj])
        rw [Go.WideShapes.add_plain] at q
        exact q
      have hfroz : ∀ j, j < zs.length → wr.frozen? ⟨g, 0 + j, none⟩ = false := fun j hj => by
        rcases HO.out.2 with ⟨h, _⟩ | ⟨g'', cap'', cur, h, _, hh, _⟩
        · cases h
        · injection h with h1 h2 h3
          injection h1 with h1
          injection h1 with h1
          rw [← h1] at hh
          exact Joins.unfrozen_of_block hh _
      have hS := sort_ints (cap := cap) zs hcells hfroz hgl.2 (by omega)
      have hsl : (sortL zs).length = zs.length := (List.mergeSort_perm _ _).length_eq
      have hp : (sortL zs).Perm zs := List.mergeSort_perm _ _
      have hsm : ∀ x, x ∈ sortL zs ↔ (m x).isSome = true := fun x => hp.mem_iff.trans (hmem x)
      have hpw : (sortL zs).Pairwise (fun a b => a < b) := by
        have h1 : (sortL zs).Pairwise (fun a b => decide (a ≤ b) = true) := List.pairwise_mergeSort (fun a b c h1 h2 => by simp at *; omega) (fun a b => by simp; omega) zs
        have h2 : (sortL zs).Nodup := hp.nodup_iff.2 HC.out.nodup
        exact (h1.and h2).imp fun {a b} q => by
          have q1 : a ≤ b := by simpa using q.1
          have q2 : a ≠ b := q.2
          omega
      have HSM : Hid (∀ x, x ∈ sortL zs ↔ (m x).isSome = true) := hsm
      have HPW : Hid ((sortL zs).Pairwise (fun a b => a < b)) := hpw
      have hgB := hgl.1
      have hgW := hgl.2
      clear HC HO hrg hmem hcells hfroz hl0 hc0 hsm HV hpw hp hgl
      go_wp2_with (go_at_call 73; fail)
      refine hS.mono ?_
      rintro e W2 ⟨rfl, hcs, hF2⟩
      have hB2 : Below B w W2 := ⟨hF2.os.trans HB.out.os, hF2.tape.trans HB.out.tape, hF2.output.trans HB.out.output, Nat.le_trans HB.out.size hF2.size, fun k hk => (hF2.block k (by have := HB.out.size; omega) (by omega)).trans (HB.out.block k hk)⟩
      have HC0 : Hid (∀ j, j < zs.length → W2.cell? ⟨g, j, none⟩ = some (.int .i64 ((sortL zs).getD j 0))) := hcs
      have HB2 : Hid (Below B w W2) := hB2
      have hg2 : g < W2.heap.size := Nat.lt_of_lt_of_le hgW hF2.size
      clear hS HB hF2 hcs hB2
      go_wp2
      go_ret
      refine ⟨g, cap, sortL zs, by simp only [hsl]; rfl, fun j hj => HC0.out j (by omega), HPW.out, HSM.out, by omega, by omega, by omega, hg2, by rw [hBB]; exact HB2.out⟩
    · intro x c kl yd yp w1 cnt1 hkey hlk hval hat hrg1 hlt1 hg1 hs1 hen
      obtain ⟨x', ex, rfl, hwx⟩ := Maps.keyOf_int_inv Try.underlying3 hkey
      obtain rfl : x = x' := by injection ex
      obtain ⟨hC1, hsome⟩ := HC.out.step HV.out hlk hat
      have hlen : zs.length + 1 ≤ 1048576 := by
        have q := nodup_le 1048576 (zs ++ [x]) hC1.nodup fun y hy => by
          have q1 := ((hC1.mem y).1 hy).1
          cases hm : m y with
          | none => rw [hm] at q1; cases q1
          | some v => exact (HV.out.some y v hm).1
        simpa using q
      have HC1 : Hid (Col m (fun z => left z && !z.sameKey (.int .i64 x)) (zs ++ [x])) := hC1
      have hgl := (HO.out.lt g rfl).1
      have hown1 := HO.out.kept hg1 (.inr (by simp only [Value.ownBlock]; exact fun q => hgne (by injection q)))
      have hB1 : Below B w w1 := HB.out.grown hg1 (by have := HB.out.size; omega) (fun j hj => by cases hj; omega)
      have hBs : B ≤ wr.heap.size := by have := HB.out.size; omega
      have hBs1 : B + 1 < w1.heap.size := hrg1.lt
      clear hs1 hC1 HC HO HB hkey hval hat hsome
      have HRG : Hid (w1.ranges Try.prog 3 valElem mb (B + 1) top D (fun z => left z && !z.sameKey (.int .i64 x)) cnt1) := hrg1
      have HLE : Hid (wr.rangeLeft mb (B + 1) = cnt) := hrg.left_eq
      clear hrg1 hrg hg1
      go_wp2_with (at_builtin; refine wpList_append_own_at _ rfl (.tmp 14) (.tmp 16) 57 rfl B 3 i0 (.int .i64 0) 1 8 Try.underlying57 hi0 hz0 hz1 hz2 rfl (by decide) (.slice (some ⟨g, 0, none⟩) zs.length cap) zs.length _ rfl (hown1.alloc _) ⟨w1.heap.size, 0, none⟩ 1 1 [.int .i64 x] rfl rfl (cell_one_new _ _ _) (ints_oneCell .i64 [x]) (by unfold maxLen; omega) (by omega) (by simp; omega) ?_; intro v' w2 hown2 hg2 hnil hloc)
      obtain ⟨g', cap', rfl⟩ : ∃ g' cap', v' = .slice (some ⟨g', 0, none⟩) (zs.length + 1) cap' := by
        rcases hown2.2 with ⟨_, h⟩ | ⟨g', cap', _, h, _⟩
        · omega
        · exact ⟨g', cap', h⟩
      have hg2' : (w1.alloc (.cells #[.int .i64 x] 3)).grownBy w2 (some g) := hg2
      have hrg2 := (HRG.out.alloc (.cells #[.int .i64 x] 3)).kept hg2' (fun q => by injection q with q; omega) (fun q => by injection q with q; omega)
      have hg'ne : g' ≠ B + 1 := by
        rcases hloc with q | q
        · have q' : some g' = some g := q
          injection q' with q'
          omega
        · have q' : some g' = some (w1.alloc (.cells #[.int .i64 x] 3)).heap.size := q
          injection q' with q'
          simp at q'
          omega
      have hl1 : (zs ++ [x]).length = zs.length + 1 := by simp
      refine ⟨⟨_, cnt1, zs ++ [x], g', cap', hrg2, HC1.out, by rw [hl1], ?_, hg'ne, ?_⟩, ?_⟩
      · rw [hl1, List.map_append]
        exact hown2
      · exact ((hB1.alloc (by have := hB1.size; omega) _).grown hg2' (by simp; omega) (fun j hj => by cases hj; omega))
      · rw [hrg2.left_eq, HLE.out]
        exact hlt1
end Go.Proofs.Ytbnbbelkddbndaa
/- imageOf: an image of the blocks that a map says, in new memory; no condition. -/
namespace Go.Proofs.Ytbnbbelkddbndaa
open Go.RowKit Go.Maps
theorem size_eq {P : Program} {k : TypeId} {w : World} {b : Nat} {m : Int → Option Value} (hk : P.underlying k = some (.int .i64)) {n : Nat} {D : DataW Value} (h : w.ownsMap P k valElem b n D) (K : Keyed P k) (hv : Views D m) (zs : List Int) (hn : zs.Nodup) (hz : ∀ x, x ∈ zs ↔ (m x).isSome = true) : Maps.size D = zs.length := by
  obtain ⟨es, rfl, hp, _⟩ := h.entries K
  have hko : ∀ p ∈ es, ∃ x, p.1 = .int .i64 x := by
    obtain ⟨es', clock, _, F, _, hD⟩ := h
    intro p hp
    have e : es = (es'.toList.map (Go.WideElems.rg P k valElem)).foldr DataW.insert [] := by simpa using hD
    rw [e] at hp
    obtain ⟨y, hy, rfl⟩ := List.mem_map.1 (mem_sorted.1 hp)
    obtain ⟨z, hz⟩ := F.reads y hy
    obtain ⟨x, _, hx, _⟩ := Maps.keyOf_int_inv hk (Go.WideElems.rd_key hz)
    exact ⟨x, by rw [Go.WideElems.rg_of hz]; exact hx⟩
  let f : Lit × DataW Value → Int := fun p => match p.1 with | .int _ x => x | _ => 0
  have hnd : (es.map f).Nodup := by
    refine List.pairwise_map.2 (hp.imp_of_mem fun {p q} hp' hq' hne e => hne ?_)
    obtain ⟨a, ha⟩ := hko p hp'
    obtain ⟨c, hc⟩ := hko q hq'
    simp only [f, ha, hc] at e
    rw [ha, hc, e]
  have hmem : ∀ x, x ∈ es.map f ↔ x ∈ zs := fun x => by
    rw [hz x]
    constructor
    · intro hx
      obtain ⟨p, hp', rfl⟩ := List.mem_map.1 hx
      obtain ⟨a, ha⟩ := hko p hp'
      have hh : has (.map es) (.int .i64 a) = true := List.any_eq_true.2 ⟨p, hp', by rw [ha]; simp [Lit.sameKey]⟩
      have hfa : f p = a := by simp only [f, ha]
      rw [hfa]
      cases hm : m a with
      | none => rw [hv.none a hm] at hh; cases hh
      | some v => rfl
    · intro hx
      obtain ⟨v, hm⟩ := Option.isSome_iff_exists.1 hx
      have hh := (hv.some x v hm).2.1
      rw [has_eq] at hh
      obtain ⟨p, hp', hs⟩ := List.any_eq_true.1 hh
      have e := WideAt.sameKey_eq hs
      exact List.mem_map.2 ⟨p, hp', by simp only [f, e]⟩
  have := ((List.perm_ext_iff_of_nodup hnd hn).2 hmem).length_eq
  simpa [Maps.size] using this
/-- Blocks that may be of n. -/
def OkC (n : Int) (c : Con) : Prop := ∀ k f, c k = some f → (0 ≤ k ∧ k < n) ∧ Can f ∧ f ≠ nought
/-- The state of a disk that holds them. -/
def conS (n : Int) (c : Con) : St := { newV n with held := c }
theorem conS_ok {n : Int} {c : Con} (hn : bndB n = true) (h : OkC n c) : Ok (conS n c) := by
  have h' := newV_ok hn
  exact ⟨h'.n, h, h'.wait, h'.fuse, h'.made, h'.reads, h'.claims⟩
/-- The list of an image that holds them. -/
abbrev IsImg (n : Int) (c : Con) (l : List Cel) : Prop := IsImage (conS n c) l
theorem image_sorted {s : St} (h : Ok s) (zs : List Int) (hp : zs.Pairwise (fun a b => a < b)) (hm : ∀ x, x ∈ zs ↔ (s.held x).isSome = true) : IsImage s (withHeld s zs) := by
  have hb : ∀ x ∈ zs, ∃ f, s.held x = some f ∧ (0 ≤ x ∧ x < s.n) ∧ Can f ∧ f ≠ nought := fun x hx => by
    obtain ⟨f, hf⟩ := Option.isSome_iff_exists.1 ((hm x).1 hx)
    exact ⟨f, hf, h.held x f hf⟩
  refine ⟨rise_of s _ _ (fun x hx => by obtain ⟨f, _, h1, _⟩ := hb x hx; omega) hp, fun c hc => ?_, fun c hc => ?_, fun k => ?_⟩
  · obtain ⟨x, hx, rfl⟩ := List.mem_map.1 hc
    obtain ⟨f, hf, _, h2, h3⟩ := hb x hx
    simp only [hf, Option.getD_some]
    exact ⟨h2, h3⟩
  · obtain ⟨x, hx, rfl⟩ := List.mem_map.1 hc
    obtain ⟨f, hf, h1, _⟩ := hb x hx
    exact h1.2
  · by_cases hk : k ∈ zs
    · exact (atL_in s _ k).1 hk
    · rw [(atL_in s _ k).2 hk]
      cases hh : s.held k with
      | none => rfl
      | some f => exact absurd ((hm k).2 (by rw [hh]; rfl)) hk
theorem zero89 : ∀ w : World, (zeroValue 89).run Try.prog w = .ok (.pointer none) w := fun w => by simp [go_sem]
set_option maxRecDepth 20000 in
set_option maxHeartbeats 1000000 in
theorem imageOf_of {B : Nat} {w : World} {mb : Nat} {c : Con} {n : Int} (hBw : B ≤ w.heap.size) (h : PtrsAt B w mb c) (hn : bndB n = true) (hok : OkC n c) :
    Calls Try.prog 58 #[.int .i64 n, .map (some mb)] w fun e w' => ∃ (g : Nat) (l : List Cel), e = .returned (.agg #[.int .i64 n, .slice (some ⟨g, 0, none⟩) l.length l.length]) ∧ IsImg n c l ∧ w'.heap[g]? = some (.cells (celCells l).toArray 44) ∧ w.heap.size ≤ g ∧ Below w.heap.size w w' := by
  obtain ⟨m, hM, h2, h3⟩ := h
  have hms : ∀ x, (m x).isSome = true ↔ (c x).isSome = true := fun x => by
    cases hc : c x with
    | none => rw [h2 x hc]; simp
    | some f => obtain ⟨g, off, q, _⟩ := h3 x f hc; rw [q]; simp
  have HM : Hid (∀ x, (m x).isSome = true ↔ (c x).isSome = true) := hms
  have H3 : Hid (∀ k f, c k = some f → ∃ g off, m k = some (.pointer (some ⟨g, off, none⟩)) ∧ g < B ∧ BlkAt w g off f) := h3
  have HO : Hid (Ok (conS n c)) := conS_ok hn hok
  have hMl := hM.lt
  have hM1 : MapIs Try.prog 3 (w.alloc (.cells #[.int .i64 0, .slice none 0 0] 24)) mb m := hM.kept ((below_new w _).block mb hMl)
  have HMw : Hid (MapIs Try.prog 3 w mb m) := hM
  obtain ⟨D, hown, hv⟩ := hM1
  have hsz : Maps.size D ≤ 1048576 := size_top Try.underlying3 hown keyed3 hv
  obtain ⟨cur, hcz, hmk⟩ := run_make30 (w.alloc (.cells #[.int .i64 0, .slice none 0 0] 24)) (Maps.size D) (by omega)
  have HSz : Hid (∀ zs : List Int, zs.Nodup → (∀ x, x ∈ zs ↔ (m x).isSome = true) → Maps.size D = zs.length) := fun zs => size_eq Try.underlying3 hown keyed3 hv zs
  have hmk2 := hmk
  have eS : (w.alloc (.cells #[.int .i64 0, .slice none 0 0] 24)).heap.size = w.heap.size + 1 := by simp
  rw [eS] at hmk
  have HB1 : Hid (Below w.heap.size w ((w.alloc (.cells #[.int .i64 0, .slice none 0 0] 24)).alloc (.cells cur 44))) := (((Below.refl _ _).alloc (Nat.le_refl _) _).alloc (by simp) _)
  have HR1 : Hid (((w.alloc (.cells #[.int .i64 0, .slice none 0 0] 24)).alloc (.cells cur 44)).heap[w.heap.size]? = some (.cells #[.int .i64 0, .slice none 0 0] 24)) := heap_kept (heap_alloc_new w _) (below_new _ _)
  have HC1 : Hid (((w.alloc (.cells #[.int .i64 0, .slice none 0 0] 24)).alloc (.cells cur 44)).heap[w.heap.size + 1]? = some (.cells cur 44)) := by
    have := heap_alloc_new (w.alloc (.cells #[.int .i64 0, .slice none 0 0] 24)) (.cells cur 44)
    rw [eS] at this
    exact this
  have hs2 : ((w.alloc (.cells #[.int .i64 0, .slice none 0 0] 24)).alloc (.cells cur 44)).heap.size = w.heap.size + 2 := by simp
  have hM2 : MapIs Try.prog 3 ((w.alloc (.cells #[.int .i64 0, .slice none 0 0] 24)).alloc (.cells cur 44)) mb m := hM.kept (HB1.out.block mb hMl)
  have hRs := rising_of hM2
  clear hv hms h2 h3 hok hn hmk2 eS hM2 hM
  go_enter Try.func58, Try.ntmps58
  go_wp2_with (first | (at_len; refine wpList_len_own _ rfl (.tmp 8) 84 rfl 3 89 Try.underlying84 valElem mb top D rfl hown ?_) | (go_at_call 64; fail))
  generalize hWW : (w.alloc (.cells #[.int .i64 0, .slice none 0 0] 24)).alloc (.cells cur 44) = W1 at *
  refine hRs.mono ?_
  rintro e W2 ⟨g, cap, ys, rfl, hcs, hpw, hmem, hyl, hyc, hg1, hg2, hb2⟩
  have hsy := HSz.out ys (hpw.imp fun {a b} q => by omega) hmem
  rw [hsy] at hcz hmk ⊢
  have hmem' : ∀ x, x ∈ ys ↔ ((conS n c).held x).isSome = true := fun x => (hmem x).trans (HM.out x)
  have HI : Hid (IsImg n c (withHeld (conS n c) ys)) := image_sorted HO.out ys hpw hmem'
  have HSM : Hid (∀ x, x ∈ ys ↔ (c x).isSome = true) := hmem'
  have HC0 : Hid (∀ j, j < ys.length → W2.cell? ⟨g, j, none⟩ = some (.int .i64 (ys.getD j 0))) := hcs
  have HB2 : Hid (Below w.heap.size w W2) := HB1.out.trans (hb2.mono (by omega))
  have HR2 : Hid (W2.heap[w.heap.size]? = some (.cells #[.int .i64 0, .slice none 0 0] 24)) := (hb2.block _ (by omega)).trans HR1.out
  have HN : Hid (W2.heap[w.heap.size + 1]? = some (.cells cur 44)) := (hb2.block _ (by omega)).trans HC1.out
  have hW2s : w.heap.size + 2 ≤ W2.heap.size := by have := hb2.size; omega
  clear hRs hown hmem hmem' hpw hcs hb2 HSz HB1 HR1 HC1 hsy hmk hWW
  generalize hBB : w.heap.size = A at *
  generalize hm : ys.length = k0 at *
  go_wp2
  go_loopw [14] (fun s14 wx => ∃ (k : Nat) (cur : Array Value), k ≤ k0 ∧ s14 = .int .i64 k ∧ Hid (wx.heap[A + 1]? = some (.cells cur 44) ∧ cur.size = k0 * 1025 ∧ cur.toList.take (k * 1025) = celCells ((withHeld (conS n c) ys).take k)) ∧ Hid (Fr (fun i => i = A + 1) W2 wx)) (fun s14 _ => k0 - (intOf s14).toNat)
  case atStart => exact ⟨0, cur, by omega, rfl, ⟨HN.out, hcz, by rw [Nat.zero_mul, List.take_zero, List.take_zero]; rfl⟩, Fr.refl _ _⟩
  case round =>
    obtain ⟨k, cu, hk, rfl, HC, HF⟩ := hrel
    clear HN
    by_cases hk2 : (k : Int) < k0
    · have hky : k < ys.length := by omega
      have hy : ys[k]? = some ys[k] := List.getElem?_eq_getElem hky
      have hyd : ys.getD k 0 = ys[k] := by simp [List.getD, hky]
      have hca := HC0.out k (by omega)
      rw [hyd] at hca
      have hmy : ys[k] ∈ ys := List.getElem_mem hky
      generalize ys[k] = y at *
      have hsome := (HSM.out y).1 hmy
      obtain ⟨f, hf⟩ := Option.isSome_iff_exists.1 hsome
      have hin := inTop_of HO.out (HO.out.held y f hf).1
      have hW := inTop.wf hin
      have hcl : (withHeld (conS n c) ys)[k]? = some (y, f) := by unfold withHeld conS; rw [List.getElem?_map, hy]; simp [hf]
      have hca' : wr.cell? ⟨g, k, none⟩ = some (.int .i64 y) := (World.cell?_of_block (HF.out.block g (by omega) (by omega))).trans hca
      obtain ⟨pg, poff, hpm, hpB, hpb⟩ := H3.out y f hf
      have hbw : ∀ i, i < A → wr.heap[i]? = w.heap[i]? := fun i hi => (HF.out.block i (by omega) (by omega)).trans (HB2.out.block i hi)
      have hbr : BlkAt wr pg poff f := hpb.kept (hbw pg (by omega))
      have hMr : MapIs Try.prog 3 wr mb m := HMw.out.kept (hbw mb (by omega))
      obtain ⟨hn1, hn2, hn3⟩ := HC.out
      have hfit : (k + 1) * 1025 ≤ k0 * 1025 := Nat.mul_le_mul_right _ (by omega)
      have hfit2 : k * 1025 + 1025 ≤ cu.size := by rw [hn2, ← Nat.succ_mul]; exact hfit
      have HC2 : Hid ((wr.setRow (A + 1) (putCel cu (k * 1025) (y, f))).heap[A + 1]? = some (.cells (putCel cu (k * 1025) (y, f)) 44) ∧ (putCel cu (k * 1025) (y, f)).size = k0 * 1025 ∧ (putCel cu (k * 1025) (y, f)).toList.take ((k + 1) * 1025) = celCells ((withHeld (conS n c) ys).take (k + 1))) :=
        ⟨setRow_heap _ _ _ _ _ _ hn1, size_cel hn2 (by rw [← hn2]; exact hfit2), take_cel hcl hn3 (by rw [hn2]; exact hfit)⟩
      have HF3 : Hid (Fr (fun i => i = A + 1) W2 (wr.setRow (A + 1) (putCel cu (k * 1025) (y, f)))) := HF.out.trans ⟨rfl, rfl, rfl, by simp, fun i _ hi => setRow_other wr (A + 1) i _ (by omega)⟩ fun _ _ q => q
      have z89 := zero89
      clear hn2 hn3 HC HF hfit hcl hca hmy hsome hf hy hyd hbw hpb
      go_wp2_with (first | refine wpList_lookM1 rfl (.tmp 22) (.tmp 23) 84 rfl 89 Try.underlying3 keyed3 Try.underlying84 rfl hMr (z89 _) y hW rfl _ hpm ?_ | refine wpList_loadM rfl (.tmp 25) rfl pg poff rfl f hbr ?_ | refine wpList_build85 rfl (.tmp 21) (.tmp 26) rfl y f rfl rfl ?_ | refine wpList_store85 rfl (.tmp 28) (.tmp 27) rfl (A + 1) (k * 1025) (y, f) rfl rfl cu hn1 hfit2 ?_)
      exact ⟨⟨k + 1, _, by omega, by go_num, HC2.out, HF3.out⟩, by simp [intOf]; omega⟩
    · obtain rfl : k = k0 := by omega
      have hl : (withHeld (conS n c) ys).length = k := by unfold withHeld; rw [List.length_map]; omega
      have hfin : (wr.heap[A + 1]? = some (.cells (celCells (withHeld (conS n c) ys)).toArray 44)) := by
        obtain ⟨hn1, hn2, hn3⟩ := HC.out
        rw [← hn2, ← Array.length_toList, List.take_length, ← hl, List.take_length] at hn3
        rw [hn1, ← hn3, Array.toArray_toList]
      have hRr : wr.heap[A]? = some (.cells #[.int .i64 0, .slice none 0 0] 24) := (HF.out.block A (by omega) (by omega)).trans HR2.out
      have cB0 : wr.cell? ⟨A, 0, none⟩ = some (.int .i64 0) := Joins.cell_of_block hRr 0
      have cB1 : wr.cell? ⟨A, 1, none⟩ = some (.slice none 0 0) := Joins.cell_of_block hRr 1
      have fB0 : wr.frozen? ⟨A, 0, none⟩ = false := Joins.unfrozen_of_block hRr 0
      have fB1 : wr.frozen? ⟨A, 1, none⟩ = false := Joins.unfrozen_of_block hRr 1
      have HFin : Hid (wr.heap[A + 1]? = some (.cells (celCells (withHeld (conS n c) ys)).toArray 44)) := hfin
      have HRr : Hid (wr.heap[A]? = some (.cells #[.int .i64 0, .slice none 0 0] 24)) := hRr
      have HBr : Hid (Below A w wr) := HB2.out.trans (HF.out.below (fun i hi => by omega) (by omega))
      clear hfin HC hRr HF
      go_wp2
      have hrow := Joins.block_setCell (Joins.block_setCell HRr.out (i := 0) (.int .i64 n)) (i := 1) (.slice (some ⟨A + 1, 0, none⟩) k k)
      refine ret32 rfl A _ rfl hrow rfl rfl ⟨A + 1, withHeld (conS n c) ys, by rw [hl]; rfl, HI.out, ?_, by omega, ?_⟩
      · rw [Below.heap_setCell _ _ _ _ (by show A + 1 ≠ A; omega), Below.heap_setCell _ _ _ _ (by show A + 1 ≠ A; omega)]
        exact HFin.out
      · exact (HBr.out.setCell (Nat.le_refl _) _).setCell (Nat.le_refl _) _
end Go.Proofs.Ytbnbbelkddbndaa
/- After: the image in which the sure writes are made, and those pending ones that are kept; no condition but that lists are not longer than lists can be. -/
namespace Go.Proofs.Ytbnbbelkddbndaa
open Go.RowKit Go.Maps
theorem retCT {fn : Func} {p u : Tmp} {ty : TypeId} {R : Ending → World → Prop} {a : Act} {w : World} (h : fn.results = #[.cell p ty, .tmp u]) (g : Nat) (cs : Array Value)
    (hp : a.tmps.getD p undef = .pointer (some ⟨g, 0, none⟩)) (hl : (loadVar ty ⟨g, 0, none⟩).run Try.prog w = .ok (.agg cs) w)
    (hdf : a.defers = []) (hR : R (.returned (.tuple #[.agg cs, a.tmps.getD u undef])) w) : bodyPost Try.prog fn R .ret a w := by
  refine bodyPost_ret ?_ hdf hR
  rw [results_cell_tmp h]
  rw [hp]
  simp [asAddr, hl]
theorem load24 (w : World) (g : Nat) (cs : Array Value) (h : w.heap[g]? = some (.cells cs 24)) (hs : cs.size = 2) : (loadVar 24 ⟨g, 0, none⟩).run Try.prog w = .ok (.agg cs) w :=
  run_loadVar_row w g 24 24 cs (0, 0) _ h Try.underlying24 rfl (by rw [hs]; exact size32)
theorem okC_hold {n : Int} {c : Con} (h : OkC n c) {x : Int} {f : Nat → Int} (hx : 0 ≤ x ∧ x < n) (hf : Can f) : OkC n (holdC c x f) := fun k g hk => by
  unfold holdC at hk
  by_cases e : k = x
  · rw [if_pos e] at hk
    cases hb : blankB f
    · rw [hb] at hk
      have e2 : f = g := by simpa using hk
      subst e2
      exact ⟨by rw [e]; exact hx, hf, fun q => by rw [hf.blank.2 q] at hb; cases hb⟩
    · rw [hb] at hk; cases hk
  · rw [if_neg e] at hk
    exact h k g hk
theorem okC_holds {n : Int} : ∀ (l : List Cel) (c : Con), OkC n c → (∀ x ∈ l, (0 ≤ x.1 ∧ x.1 < n) ∧ Can x.2) → OkC n (holdCs c l)
  | [], _, h, _ => h
  | x :: t, c, h, hl => by
    show OkC n (holdCs (holdC c x.1 x.2) t)
    exact okC_holds t _ (okC_hold h (hl x (by simp)).1 (hl x (by simp)).2) fun y hy => hl y (by simp [hy])
theorem okC_no (n : Int) : OkC n noC := fun k f h => by simp [noC] at h
/-- What stands in the image that After tells. -/
def afterC (l : List Cel) (ops : List Rec) (keep : List Bool) : Con := holdCs noC (l ++ madeL keep ops)
theorem afterC_ok {n : Int} {l : List Cel} {ops : List Rec} {keep : List Bool} (hm : mayB n l = true) (ho : ∀ r ∈ ops, opOk n r = true) (hl : ∀ c ∈ l, Can c.2) (hc : ∀ r ∈ ops, Can r.dat) : OkC n (afterC l ops keep) := by
  refine okC_holds _ _ (okC_no n) fun x hx => ?_
  rcases List.mem_append.1 hx with h | h
  · obtain ⟨h1, h2, _⟩ := (may_bounds hm).2 x h
    exact ⟨⟨h1, h2⟩, hl x h⟩
  · obtain ⟨r, h1, h2, rfl⟩ := madeGo_mem h
    obtain ⟨_, p1, p2⟩ := opOk_write (ho r h1) (by omega)
    exact ⟨⟨p1, p2⟩, hc r h1⟩
theorem slice25 (p : Option Addr) (n c m : Nat) (hm : m ≤ c) (u : World) :
    (Instr.sliceAt 25 (.slice p n c) none (some (.int .i64 (m : Int))) none).run Try.prog u = .ok (.slice p m c) u := by
  have hu : Try.prog.underlying 25 = some (.slice (Try.prog.elem 25)) := by rw [elem67]; exact Try.underlying25
  rw [run_sliceAt_slice (P := Try.prog) u 25 _ _ _ _ hu, run_slice_h (P := Try.prog) u 25 p n c hu .i64 m (by omega) (by omega), elem67, Try.sizeOf42 u]
  rw [Result.andThen_ok, Int.toNat_natCast]
  unfold sliced
  simp [Addr.add]
theorem wpList_slice25 {ops : Array Oper} {rest : List Oper} {o : Oper} {a : Act} {w : World} {Q : Exit → Act → World → Prop} (hgd : o.guard = none) (x y : Operand) (ho : o.op = .slice 25 x none (some y) none)
    (p : Option Addr) (n c m : Nat) (hm : m ≤ c) (hx : a.eval x = .slice p n c) (hy : a.eval y = .int .i64 (m : Int)) (h : wpList Try.prog ops Q rest (a.put o.dst (.slice p m c)) w) : wpList Try.prog ops Q (o :: rest) a w :=
  wpList_plain hgd fun _ hK => by
    unfold Oper.wp execOp
    simp only [ho, hx, hy, Option.map, Sem.run_bind, slice25 p n c m hm, Result.andThen_ok, Sem.run_pure]
    exact hK _ _ h
set_option maxRecDepth 20000 in
set_option maxHeartbeats 1000000 in
theorem after_bad (n : Int) (l : List Cel) (p : Option Addr) (cap : Nat) (ops : List Rec) (po : Option Addr) (co : Nat) (k : Int) (kv : Value) (w : World) (hl : l.length < 9223372036854775807) (h : ImgAt w p l) (hlo : ops.length < 9223372036854775807) (ho : OpsAt w po ops) (hkv : ∃ ka kl kc, kv = .slice ka kl kc) (hm : pmayB n l ops k = false) :
    Calls Try.prog 21 #[.agg #[.int .i64 n, .slice p l.length cap], .slice po ops.length co, .int .i64 k, kv] w fun e w' => e = .returned (.tuple #[.agg #[.int .i64 0, .slice none 0 0], .int .i64 2]) ∧ Below w.heap.size w w' := by
  obtain ⟨ka, kl, kc, rfl⟩ := hkv
  have hB : Below w.heap.size w (((w.alloc (.cells #[.int .i64 n, .slice p l.length cap] 24)).alloc (.cells #[.slice ka kl kc] 26)).alloc (.cells #[.int .i64 0, .slice none 0 0] 24)) := ((((Below.refl _ _).alloc (Nat.le_refl _) _).alloc (by simp) _).alloc (by simp; omega) _)
  have hM := maybe_any n l p cap ops po co k _ hl (h.later hB) hlo (ho.later hB)
  rw [hm] at hM
  have hs : (((w.alloc (.cells #[.int .i64 n, .slice p l.length cap] 24)).alloc (.cells #[.slice ka kl kc] 26)).alloc (.cells #[.int .i64 0, .slice none 0 0] 24)).heap.size = w.heap.size + 3 := by simp
  have hR : (((w.alloc (.cells #[.int .i64 n, .slice p l.length cap] 24)).alloc (.cells #[.slice ka kl kc] 26)).alloc (.cells #[.int .i64 0, .slice none 0 0] 24)).heap[w.heap.size + 2]? = some (.cells #[.int .i64 0, .slice none 0 0] 24) := by
    have := heap_alloc_new ((w.alloc (.cells #[.int .i64 n, .slice p l.length cap] 24)).alloc (.cells #[.slice ka kl kc] 26)) (.cells #[.int .i64 0, .slice none 0 0] 24)
    rwa [show ((w.alloc (.cells #[.int .i64 n, .slice p l.length cap] 24)).alloc (.cells #[.slice ka kl kc] 26)).heap.size = w.heap.size + 2 by simp] at this
  clear h ho hm
  go_enter Try.func21, Try.ntmps21
  go_wp2_with (go_at_call 53; fail)
  refine hM.mono ?_
  rintro e W1 ⟨rfl, hb1⟩
  have HR1 : Hid (W1.heap[w.heap.size + 2]? = some (.cells #[.int .i64 0, .slice none 0 0] 24)) := (hb1.block _ (by omega)).trans hR
  have HB1 : Hid (Below w.heap.size w W1) := hB.trans (hb1.mono (by omega))
  have cB0 : W1.cell? ⟨w.heap.size + 2, 0, none⟩ = some (.int .i64 0) := Joins.cell_of_block HR1.out 0
  have cB1 : W1.cell? ⟨w.heap.size + 2, 1, none⟩ = some (.slice none 0 0) := Joins.cell_of_block HR1.out 1
  have fB0 : W1.frozen? ⟨w.heap.size + 2, 0, none⟩ = false := Joins.unfrozen_of_block HR1.out 0
  have fB1 : W1.frozen? ⟨w.heap.size + 2, 1, none⟩ = false := Joins.unfrozen_of_block HR1.out 1
  clear hM hb1 hR hs hB
  go_wp2
  have hrow := Joins.block_setCell (Joins.block_setCell HR1.out (i := 0) (.int .i64 0)) (i := 1) (.slice none 0 0)
  refine retCT rfl (w.heap.size + 2) _ rfl (load24 _ _ _ hrow rfl) rfl ⟨rfl, ?_⟩
  exact (HB1.out.setCell (by show w.heap.size ≤ w.heap.size + 2; omega) _).setCell (by show w.heap.size ≤ w.heap.size + 2; omega) _
set_option maxRecDepth 20000 in
set_option maxHeartbeats 2000000 in
theorem after_ok (n : Int) (l : List Cel) (p : Option Addr) (cap : Nat) (ops : List Rec) (po : Option Addr) (co k : Nat) (keep : List Bool) (ka : Option Addr) (kcap : Nat) (w : World) (hl : l.length < 9223372036854775807) (h : ImgAt w p l) (hlo : ops.length < 9223372036854775807) (ho : OpsAt w po ops) (hco : ops.length ≤ co)
    (hlk : keep.length < 9223372036854775807) (hk : BoolsAt w (.slice ka keep.length kcap) keep) (hm : pmayB n l ops k = true) (hcl : ∀ c ∈ l, Can c.2) (hcr : ∀ r ∈ ops, Can r.dat) :
    Calls Try.prog 21 #[.agg #[.int .i64 n, .slice p l.length cap], .slice po ops.length co, .int .i64 k, .slice ka keep.length kcap] w fun e w' => ∃ (g : Nat) (l' : List Cel), e = .returned (.tuple #[.agg #[.int .i64 n, .slice (some ⟨g, 0, none⟩) l'.length l'.length], .int .i64 0]) ∧
      IsImg n (afterC l (ops.take k) keep) l' ∧ w'.heap[g]? = some (.cells (celCells l').toArray 44) ∧ w.heap.size ≤ g ∧ Below w.heap.size w w' := by
  have hB : Below w.heap.size w (((w.alloc (.cells #[.int .i64 n, .slice p l.length cap] 24)).alloc (.cells #[.slice ka keep.length kcap] 26)).alloc (.cells #[.int .i64 0, .slice none 0 0] 24)) := ((((Below.refl _ _).alloc (Nat.le_refl _) _).alloc (by simp) _).alloc (by simp; omega) _)
  have hM := maybe_any n l p cap ops po co k _ hl (h.later hB) hlo (ho.later hB)
  rw [hm] at hM
  obtain ⟨hmi, hk0, hk1, hok⟩ := pmay_parts hm
  have hokt : ∀ r ∈ ops.take k, opOk n r = true := fun r hr => hok r (List.mem_of_mem_take hr)
  have HOkC : Hid (OkC n (afterC l (ops.take k) keep)) := afterC_ok hmi hokt hcl fun r hr => hcr r (List.mem_of_mem_take hr)
  have hbn := (may_bounds hmi).1
  have hs : (((w.alloc (.cells #[.int .i64 n, .slice p l.length cap] 24)).alloc (.cells #[.slice ka keep.length kcap] 26)).alloc (.cells #[.int .i64 0, .slice none 0 0] 24)).heap.size = w.heap.size + 3 := by simp
  have hR : (((w.alloc (.cells #[.int .i64 n, .slice p l.length cap] 24)).alloc (.cells #[.slice ka keep.length kcap] 26)).alloc (.cells #[.int .i64 0, .slice none 0 0] 24)).heap[w.heap.size + 2]? = some (.cells #[.int .i64 0, .slice none 0 0] 24) := by
    have := heap_alloc_new ((w.alloc (.cells #[.int .i64 n, .slice p l.length cap] 24)).alloc (.cells #[.slice ka keep.length kcap] 26)) (.cells #[.int .i64 0, .slice none 0 0] 24)
    rwa [show ((w.alloc (.cells #[.int .i64 n, .slice p l.length cap] 24)).alloc (.cells #[.slice ka keep.length kcap] 26)).heap.size = w.heap.size + 2 by simp] at this
  have hK : (((w.alloc (.cells #[.int .i64 n, .slice p l.length cap] 24)).alloc (.cells #[.slice ka keep.length kcap] 26)).alloc (.cells #[.int .i64 0, .slice none 0 0] 24)).heap[w.heap.size + 1]? = some (.cells #[.slice ka keep.length kcap] 26) := by
    have := heap_alloc_new (w.alloc (.cells #[.int .i64 n, .slice p l.length cap] 24)) (.cells #[.slice ka keep.length kcap] 26)
    rw [show (w.alloc (.cells #[.int .i64 n, .slice p l.length cap] 24)).heap.size = w.heap.size + 1 by simp] at this
    exact heap_kept this (below_new _ _)
  have hI : (((w.alloc (.cells #[.int .i64 n, .slice p l.length cap] 24)).alloc (.cells #[.slice ka keep.length kcap] 26)).alloc (.cells #[.int .i64 0, .slice none 0 0] 24)).heap[w.heap.size]? = some (.cells #[.int .i64 n, .slice p l.length cap] 24) :=
    heap_kept (heap_kept (heap_alloc_new w _) (below_new _ _)) (below_new _ _)
  go_enter Try.func21, Try.ntmps21
  go_wp2_with (go_at_call 53; fail)
  refine hM.mono ?_
  rintro e W1 ⟨rfl, hb1⟩
  have hR1 := (hb1.block (w.heap.size + 2) (by omega)).trans hR
  have hK1 := (hb1.block (w.heap.size + 1) (by omega)).trans hK
  have hI1 := (hb1.block w.heap.size (by omega)).trans hI
  have hB1 : Below w.heap.size w W1 := hB.trans (hb1.mono (by omega))
  have hs1 : w.heap.size + 3 ≤ W1.heap.size := by have := hb1.size; omega
  have i0 : W1.cell? ⟨w.heap.size, 0, none⟩ = some (.int .i64 n) := Joins.cell_of_block hI1 0
  have i1 : W1.cell? ⟨w.heap.size, 1, none⟩ = some (.slice p l.length cap) := Joins.cell_of_block hI1 1
  have hN := byNumber_of n l p cap W1 hl (h.later hB1) hmi
  clear hM hb1 hR hs hB hK hI hm
  go_wp2_with (go_at_call 54; fail)
  refine hN.mono ?_
  rintro e W2 ⟨mb, rfl, hP2, hmb, hb2⟩
  have hlm : mb < W2.heap.size := hP2.lt
  have hb3 : Below W2.heap.size W2 (W2.alloc (.cells #[.map (some mb)] 84)) := below_new _ _
  have hL3 : (W2.alloc (.cells #[.map (some mb)] 84)).heap[W2.heap.size]? = some (.cells #[.map (some mb)] 84) := heap_alloc_new _ _
  have hB3 : Below W1.heap.size W1 (W2.alloc (.cells #[.map (some mb)] 84)) := hb2.trans (hb3.mono hb2.size)
  have hBw : Below w.heap.size w (W2.alloc (.cells #[.map (some mb)] 84)) := hB1.trans (hB3.mono hB1.size)
  have hs3 : W1.heap.size ≤ (W2.alloc (.cells #[.map (some mb)] 84)).heap.size := hB3.size
  have hE := each_after (n := n) (ops := ops.take k) (keep := keep) (po := po) (co := co) (B := W1.heap.size) (w := W2.alloc (.cells #[.map (some mb)] 84)) (mb := mb) (lc := W2.heap.size) (kc := w.heap.size + 1) (c := holdCs noC l) (ka := ka) (kcap := kcap)
    (OpsIn.kept (w := W1) (fun h0 => (ho.take k).later hB1 h0) fun i hi => hB3.block i hi) hmb hs3 (hP2.later hb2.size hb3) hL3 ((hB3.block _ (by omega)).trans hK1) (hk.kept (Fr.ofBelow (T := fun _ => False) hBw) fun _ _ _ _ q => q) hokt hbn (by rw [List.length_take]; omega) hlk
  have etl : (ops.take k).length = k := by rw [List.length_take]; omega
  rw [etl] at hE
  have HOut : Hid (∀ w4 : World, PtrsAt W1.heap.size w4 mb (holdCs (holdCs noC l) (madeL keep (ops.take k))) → Fr (fun i => i = mb) (W2.alloc (.cells #[.map (some mb)] 84)) w4 →
      PtrsAt W1.heap.size w4 mb (afterC l (ops.take k) keep) ∧ Below w.heap.size w w4 ∧ W1.heap.size ≤ w4.heap.size ∧ w4.heap[w.heap.size + 2]? = some (.cells #[.int .i64 0, .slice none 0 0] 24) ∧ w4.heap[w.heap.size]? = some (.cells #[.int .i64 n, .slice p l.length cap] 24) ∧ w4.heap[W2.heap.size]? = some (.cells #[.map (some mb)] 84)) := fun w4 hP4 hF4 => by
    refine ⟨by unfold afterC; rw [holdCs_append]; exact hP4, hBw.trans (hF4.below (fun i hi => by omega) hBw.size), Nat.le_trans hs3 hF4.size, (hF4.block _ (by omega) (by omega)).trans ((hB3.block _ (by omega)).trans hR1), (hF4.block _ (by omega) (by omega)).trans ((hB3.block _ (by omega)).trans hI1), (hF4.block _ (by simp) (by omega)).trans hL3⟩
  have hsl := fun u => slice25 po ops.length co k (by omega) u
  clear hN h hP2 hb2 hb3 hB3 hBw hL3 hR1 hK1 hI1 hB1 hk ho hok hokt hcl hcr
  go_wp2_with (first | refine wpList_slice25 rfl (.tmp 21) (.tmp 22) rfl po ops.length co k (by omega) rfl rfl ?_ | (go_at_call 56; fail))
  refine hE.mono ?_
  rintro e W4 ⟨rfl, hP4, hF4⟩
  obtain ⟨p4, b4, s4, r4, i4, l4⟩ := HOut.out W4 hP4 hF4
  have j0 : W4.cell? ⟨w.heap.size, 0, none⟩ = some (.int .i64 n) := Joins.cell_of_block i4 0
  have j1 : W4.cell? ⟨W2.heap.size, 0, none⟩ = some (.map (some mb)) := Joins.cell_of_block l4 0
  have hIm := imageOf_of s4 p4 hbn HOkC.out
  have HB4 : Hid (Below w.heap.size w W4) := b4
  have HR4 : Hid (W4.heap[w.heap.size + 2]? = some (.cells #[.int .i64 0, .slice none 0 0] 24)) := r4
  clear hE HOut hP4 hF4 p4 b4 r4 i4 l4 hsl
  go_wp2_with (go_at_call 58; fail)
  refine hIm.mono ?_
  rintro e W5 ⟨g, l', rfl, hI5, hg5, hgl, hb5⟩
  have hR5 : W5.heap[w.heap.size + 2]? = some (.cells #[.int .i64 0, .slice none 0 0] 24) := (hb5.block _ (by omega)).trans HR4.out
  have hB5 : Below w.heap.size w W5 := HB4.out.trans (hb5.mono HB4.out.size)
  have cB0 : W5.cell? ⟨w.heap.size + 2, 0, none⟩ = some (.int .i64 0) := Joins.cell_of_block hR5 0
  have cB1 : W5.cell? ⟨w.heap.size + 2, 1, none⟩ = some (.slice none 0 0) := Joins.cell_of_block hR5 1
  have fB0 : W5.frozen? ⟨w.heap.size + 2, 0, none⟩ = false := Joins.unfrozen_of_block hR5 0
  have fB1 : W5.frozen? ⟨w.heap.size + 2, 1, none⟩ = false := Joins.unfrozen_of_block hR5 1
  have HI5 : Hid (IsImg n (afterC l (ops.take k) keep) l') := hI5
  have HG5 : Hid (W5.heap[g]? = some (.cells (celCells l').toArray 44)) := hg5
  have HB5 : Hid (Below w.heap.size w W5) := hB5
  have HR5 : Hid (W5.heap[w.heap.size + 2]? = some (.cells #[.int .i64 0, .slice none 0 0] 24)) := hR5
  clear hIm hI5 hg5 hb5 hR5 hB5 HB4 HR4 HOkC
  go_wp2
  have hrow := Joins.block_setCell (Joins.block_setCell HR5.out (i := 0) (.int .i64 n)) (i := 1) (.slice (some ⟨g, 0, none⟩) l'.length l'.length)
  refine retCT rfl (w.heap.size + 2) _ rfl (load24 _ _ _ hrow rfl) rfl ⟨g, l', rfl, HI5.out, ?_, by omega, ?_⟩
  · rw [Below.heap_setCell _ _ _ _ (by show g ≠ w.heap.size + 2; omega), Below.heap_setCell _ _ _ _ (by show g ≠ w.heap.size + 2; omega)]
    exact HG5.out
  · exact (HB5.out.setCell (by show w.heap.size ≤ w.heap.size + 2; omega) _).setCell (by show w.heap.size ≤ w.heap.size + 2; omega) _
end Go.Proofs.Ytbnbbelkddbndaa
