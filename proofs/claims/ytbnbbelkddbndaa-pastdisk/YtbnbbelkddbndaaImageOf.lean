/- imageOf: an image of the blocks that a map says, in new memory; no condition. -/
import Derived.Test.YtbnbbelkddbndaaRising
namespace Go.Proofs.Ytbnbbelkddbndaa
open Go.RowKit Go.Maps
theorem size_eq {P : Program} {k : TypeId} {w : World} {b : Nat} {m : Int → Option Value} (hk : P.underlying k = some (.int .i64)) {n : Nat} {D : DataW Value} (h : w.ownsMap P k valElem b n D) (K : Keyed P k) (hv : Views D m) (zs : List Int) (hn : zs.Nodup) (hz : ∀ x, x ∈ zs ↔ (m x).isSome = true) : Maps.size D = zs.length := by
  obtain ⟨es, rfl, hp, _⟩ := h.entries K
  have hko : ∀ p ∈ es, ∃ x, p.1 = .int .i64 x := by
    obtain ⟨es', clock, _, F, _, hD⟩ := h
    intro p hp
    have e : es = (es'.toList.map (Go.WideElems.rg P k valElem)).foldr DataW.insert [] := by simpa using hD
    rw [e] at hp
    obtain ⟨y, hy, rfl⟩ := List.mem_map.1 (mem_sorted.1 hp)
    obtain ⟨z, hz⟩ := F.reads y hy
    obtain ⟨x, _, hx, _⟩ := Maps.keyOf_int_inv hk (Go.WideElems.rd_key hz)
    exact ⟨x, by rw [Go.WideElems.rg_of hz]; exact hx⟩
  let f : Lit × DataW Value → Int := fun p => match p.1 with | .int _ x => x | _ => 0
  have hnd : (es.map f).Nodup := by
    refine List.pairwise_map.2 (hp.imp_of_mem fun {p q} hp' hq' hne e => hne ?_)
    obtain ⟨a, ha⟩ := hko p hp'
    obtain ⟨c, hc⟩ := hko q hq'
    simp only [f, ha, hc] at e
    rw [ha, hc, e]
  have hmem : ∀ x, x ∈ es.map f ↔ x ∈ zs := fun x => by
    rw [hz x]
    constructor
    · intro hx
      obtain ⟨p, hp', rfl⟩ := List.mem_map.1 hx
      obtain ⟨a, ha⟩ := hko p hp'
      have hh : has (.map es) (.int .i64 a) = true := List.any_eq_true.2 ⟨p, hp', by rw [ha]; simp [Lit.sameKey]⟩
      have hfa : f p = a := by simp only [f, ha]
      rw [hfa]
      cases hm : m a with
      | none => rw [hv.none a hm] at hh; cases hh
      | some v => rfl
    · intro hx
      obtain ⟨v, hm⟩ := Option.isSome_iff_exists.1 hx
      have hh := (hv.some x v hm).2.1
      rw [has_eq] at hh
      obtain ⟨p, hp', hs⟩ := List.any_eq_true.1 hh
      have e := WideAt.sameKey_eq hs
      exact List.mem_map.2 ⟨p, hp', by simp only [f, e]⟩
  have := ((List.perm_ext_iff_of_nodup hnd hn).2 hmem).length_eq
  simpa [Maps.size] using this
/-- Blocks that may be of n. -/
def OkC (n : Int) (c : Con) : Prop := ∀ k f, c k = some f → (0 ≤ k ∧ k < n) ∧ Can f ∧ f ≠ nought
/-- The state of a disk that holds them. -/
def conS (n : Int) (c : Con) : St := { newV n with held := c }
theorem conS_ok {n : Int} {c : Con} (hn : bndB n = true) (h : OkC n c) : Ok (conS n c) := by
  have h' := newV_ok hn
  exact ⟨h'.n, h, h'.wait, h'.fuse, h'.made, h'.reads, h'.claims⟩
/-- The list of an image that holds them. -/
abbrev IsImg (n : Int) (c : Con) (l : List Cel) : Prop := IsImage (conS n c) l
theorem image_sorted {s : St} (h : Ok s) (zs : List Int) (hp : zs.Pairwise (fun a b => a < b)) (hm : ∀ x, x ∈ zs ↔ (s.held x).isSome = true) : IsImage s (withHeld s zs) := by
  have hb : ∀ x ∈ zs, ∃ f, s.held x = some f ∧ (0 ≤ x ∧ x < s.n) ∧ Can f ∧ f ≠ nought := fun x hx => by
    obtain ⟨f, hf⟩ := Option.isSome_iff_exists.1 ((hm x).1 hx)
    exact ⟨f, hf, h.held x f hf⟩
  refine ⟨rise_of s _ _ (fun x hx => by obtain ⟨f, _, h1, _⟩ := hb x hx; omega) hp, fun c hc => ?_, fun c hc => ?_, fun k => ?_⟩
  · obtain ⟨x, hx, rfl⟩ := List.mem_map.1 hc
    obtain ⟨f, hf, _, h2, h3⟩ := hb x hx
    simp only [hf, Option.getD_some]
    exact ⟨h2, h3⟩
  · obtain ⟨x, hx, rfl⟩ := List.mem_map.1 hc
    obtain ⟨f, hf, h1, _⟩ := hb x hx
    exact h1.2
  · by_cases hk : k ∈ zs
    · exact (atL_in s _ k).1 hk
    · rw [(atL_in s _ k).2 hk]
      cases hh : s.held k with
      | none => rfl
      | some f => exact absurd ((hm k).2 (by rw [hh]; rfl)) hk
theorem zero89 : ∀ w : World, (zeroValue 89).run Try.prog w = .ok (.pointer none) w := fun w => by simp [go_sem]
set_option maxRecDepth 20000 in
set_option maxHeartbeats 1000000 in
theorem imageOf_of {B : Nat} {w : World} {mb : Nat} {c : Con} {n : Int} (hBw : B ≤ w.heap.size) (h : PtrsAt B w mb c) (hn : bndB n = true) (hok : OkC n c) :
    Calls Try.prog 58 #[.int .i64 n, .map (some mb)] w fun e w' => ∃ (g : Nat) (l : List Cel), e = .returned (.agg #[.int .i64 n, .slice (some ⟨g, 0, none⟩) l.length l.length]) ∧ IsImg n c l ∧ w'.heap[g]? = some (.cells (celCells l).toArray 44) ∧ w.heap.size ≤ g ∧ Below w.heap.size w w' := by
  obtain ⟨m, hM, h2, h3⟩ := h
  have hms : ∀ x, (m x).isSome = true ↔ (c x).isSome = true := fun x => by
    cases hc : c x with
    | none => rw [h2 x hc]; simp
    | some f => obtain ⟨g, off, q, _⟩ := h3 x f hc; rw [q]; simp
  have HM : Hid (∀ x, (m x).isSome = true ↔ (c x).isSome = true) := hms
  have H3 : Hid (∀ k f, c k = some f → ∃ g off, m k = some (.pointer (some ⟨g, off, none⟩)) ∧ g < B ∧ BlkAt w g off f) := h3
  have HO : Hid (Ok (conS n c)) := conS_ok hn hok
  have hMl := hM.lt
  have hM1 : MapIs Try.prog 3 (w.alloc (.cells #[.int .i64 0, .slice none 0 0] 24)) mb m := hM.kept ((below_new w _).block mb hMl)
  have HMw : Hid (MapIs Try.prog 3 w mb m) := hM
  obtain ⟨D, hown, hv⟩ := hM1
  have hsz : Maps.size D ≤ 1048576 := size_top Try.underlying3 hown keyed3 hv
  obtain ⟨cur, hcz, hmk⟩ := run_make30 (w.alloc (.cells #[.int .i64 0, .slice none 0 0] 24)) (Maps.size D) (by omega)
  have HSz : Hid (∀ zs : List Int, zs.Nodup → (∀ x, x ∈ zs ↔ (m x).isSome = true) → Maps.size D = zs.length) := fun zs => size_eq Try.underlying3 hown keyed3 hv zs
  have hmk2 := hmk
  have eS : (w.alloc (.cells #[.int .i64 0, .slice none 0 0] 24)).heap.size = w.heap.size + 1 := by simp
  rw [eS] at hmk
  have HB1 : Hid (Below w.heap.size w ((w.alloc (.cells #[.int .i64 0, .slice none 0 0] 24)).alloc (.cells cur 44))) := (((Below.refl _ _).alloc (Nat.le_refl _) _).alloc (by simp) _)
  have HR1 : Hid (((w.alloc (.cells #[.int .i64 0, .slice none 0 0] 24)).alloc (.cells cur 44)).heap[w.heap.size]? = some (.cells #[.int .i64 0, .slice none 0 0] 24)) := heap_kept (heap_alloc_new w _) (below_new _ _)
  have HC1 : Hid (((w.alloc (.cells #[.int .i64 0, .slice none 0 0] 24)).alloc (.cells cur 44)).heap[w.heap.size + 1]? = some (.cells cur 44)) := by
    have := heap_alloc_new (w.alloc (.cells #[.int .i64 0, .slice none 0 0] 24)) (.cells cur 44)
    rw [eS] at this
    exact this
  have hs2 : ((w.alloc (.cells #[.int .i64 0, .slice none 0 0] 24)).alloc (.cells cur 44)).heap.size = w.heap.size + 2 := by simp
  have hM2 : MapIs Try.prog 3 ((w.alloc (.cells #[.int .i64 0, .slice none 0 0] 24)).alloc (.cells cur 44)) mb m := hM.kept (HB1.out.block mb hMl)
  have hRs := rising_of hM2
  clear hv hms h2 h3 hok hn hmk2 eS hM2 hM
  go_enter Try.func58, Try.ntmps58
  go_wp2_with (first | (at_len; refine wpList_len_own _ rfl (.tmp 8) 84 rfl 3 89 Try.underlying84 valElem mb top D rfl hown ?_) | (go_at_call 64; fail))
  generalize hWW : (w.alloc (.cells #[.int .i64 0, .slice none 0 0] 24)).alloc (.cells cur 44) = W1 at *
  refine hRs.mono ?_
  rintro e W2 ⟨g, cap, ys, rfl, hcs, hpw, hmem, hyl, hyc, hg1, hg2, hb2⟩
  have hsy := HSz.out ys (hpw.imp fun {a b} q => by omega) hmem
  rw [hsy] at hcz hmk ⊢
  have hmem' : ∀ x, x ∈ ys ↔ ((conS n c).held x).isSome = true := fun x => (hmem x).trans (HM.out x)
  have HI : Hid (IsImg n c (withHeld (conS n c) ys)) := image_sorted HO.out ys hpw hmem'
  have HSM : Hid (∀ x, x ∈ ys ↔ (c x).isSome = true) := hmem'
  have HC0 : Hid (∀ j, j < ys.length → W2.cell? ⟨g, j, none⟩ = some (.int .i64 (ys.getD j 0))) := hcs
  have HB2 : Hid (Below w.heap.size w W2) := HB1.out.trans (hb2.mono (by omega))
  have HR2 : Hid (W2.heap[w.heap.size]? = some (.cells #[.int .i64 0, .slice none 0 0] 24)) := (hb2.block _ (by omega)).trans HR1.out
  have HN : Hid (W2.heap[w.heap.size + 1]? = some (.cells cur 44)) := (hb2.block _ (by omega)).trans HC1.out
  have hW2s : w.heap.size + 2 ≤ W2.heap.size := by have := hb2.size; omega
  clear hRs hown hmem hmem' hpw hcs hb2 HSz HB1 HR1 HC1 hsy hmk hWW
  generalize hBB : w.heap.size = A at *
  generalize hm : ys.length = k0 at *
  go_wp2
  go_loopw [14] (fun s14 wx => ∃ (k : Nat) (cur : Array Value), k ≤ k0 ∧ s14 = .int .i64 k ∧ Hid (wx.heap[A + 1]? = some (.cells cur 44) ∧ cur.size = k0 * 1025 ∧ cur.toList.take (k * 1025) = celCells ((withHeld (conS n c) ys).take k)) ∧ Hid (Fr (fun i => i = A + 1) W2 wx)) (fun s14 _ => k0 - (intOf s14).toNat)
  case atStart => exact ⟨0, cur, by omega, rfl, ⟨HN.out, hcz, by rw [Nat.zero_mul, List.take_zero, List.take_zero]; rfl⟩, Fr.refl _ _⟩
  case round =>
    obtain ⟨k, cu, hk, rfl, HC, HF⟩ := hrel
    clear HN
    by_cases hk2 : (k : Int) < k0
    · have hky : k < ys.length := by omega
      have hy : ys[k]? = some ys[k] := List.getElem?_eq_getElem hky
      have hyd : ys.getD k 0 = ys[k] := by simp [List.getD, hky]
      have hca := HC0.out k (by omega)
      rw [hyd] at hca
      have hmy : ys[k] ∈ ys := List.getElem_mem hky
      generalize ys[k] = y at *
      have hsome := (HSM.out y).1 hmy
      obtain ⟨f, hf⟩ := Option.isSome_iff_exists.1 hsome
      have hin := inTop_of HO.out (HO.out.held y f hf).1
      have hW := inTop.wf hin
      have hcl : (withHeld (conS n c) ys)[k]? = some (y, f) := by unfold withHeld conS; rw [List.getElem?_map, hy]; simp [hf]
      have hca' : wr.cell? ⟨g, k, none⟩ = some (.int .i64 y) := (World.cell?_of_block (HF.out.block g (by omega) (by omega))).trans hca
      obtain ⟨pg, poff, hpm, hpB, hpb⟩ := H3.out y f hf
      have hbw : ∀ i, i < A → wr.heap[i]? = w.heap[i]? := fun i hi => (HF.out.block i (by omega) (by omega)).trans (HB2.out.block i hi)
      have hbr : BlkAt wr pg poff f := hpb.kept (hbw pg (by omega))
      have hMr : MapIs Try.prog 3 wr mb m := HMw.out.kept (hbw mb (by omega))
      obtain ⟨hn1, hn2, hn3⟩ := HC.out
      have hfit : (k + 1) * 1025 ≤ k0 * 1025 := Nat.mul_le_mul_right _ (by omega)
      have hfit2 : k * 1025 + 1025 ≤ cu.size := by rw [hn2, ← Nat.succ_mul]; exact hfit
      have HC2 : Hid ((wr.setRow (A + 1) (putCel cu (k * 1025) (y, f))).heap[A + 1]? = some (.cells (putCel cu (k * 1025) (y, f)) 44) ∧ (putCel cu (k * 1025) (y, f)).size = k0 * 1025 ∧ (putCel cu (k * 1025) (y, f)).toList.take ((k + 1) * 1025) = celCells ((withHeld (conS n c) ys).take (k + 1))) :=
        ⟨setRow_heap _ _ _ _ _ _ hn1, size_cel hn2 (by rw [← hn2]; exact hfit2), take_cel hcl hn3 (by rw [hn2]; exact hfit)⟩
      have HF3 : Hid (Fr (fun i => i = A + 1) W2 (wr.setRow (A + 1) (putCel cu (k * 1025) (y, f)))) := HF.out.trans ⟨rfl, rfl, rfl, by simp, fun i _ hi => setRow_other wr (A + 1) i _ (by omega)⟩ fun _ _ q => q
      have z89 := zero89
      clear hn2 hn3 HC HF hfit hcl hca hmy hsome hf hy hyd hbw hpb
      go_wp2_with (first | refine wpList_lookM1 rfl (.tmp 22) (.tmp 23) 84 rfl 89 Try.underlying3 keyed3 Try.underlying84 rfl hMr (z89 _) y hW rfl _ hpm ?_ | refine wpList_loadM rfl (.tmp 25) rfl pg poff rfl f hbr ?_ | refine wpList_build85 rfl (.tmp 21) (.tmp 26) rfl y f rfl rfl ?_ | refine wpList_store85 rfl (.tmp 28) (.tmp 27) rfl (A + 1) (k * 1025) (y, f) rfl rfl cu hn1 hfit2 ?_)
      exact ⟨⟨k + 1, _, by omega, by go_num, HC2.out, HF3.out⟩, by simp [intOf]; omega⟩
    · obtain rfl : k = k0 := by omega
      have hl : (withHeld (conS n c) ys).length = k := by unfold withHeld; rw [List.length_map]; omega
      have hfin : (wr.heap[A + 1]? = some (.cells (celCells (withHeld (conS n c) ys)).toArray 44)) := by
        obtain ⟨hn1, hn2, hn3⟩ := HC.out
        rw [← hn2, ← Array.length_toList, List.take_length, ← hl, List.take_length] at hn3
        rw [hn1, ← hn3, Array.toArray_toList]
      have hRr : wr.heap[A]? = some (.cells #[.int .i64 0, .slice none 0 0] 24) := (HF.out.block A (by omega) (by omega)).trans HR2.out
      have cB0 : wr.cell? ⟨A, 0, none⟩ = some (.int .i64 0) := Joins.cell_of_block hRr 0
      have cB1 : wr.cell? ⟨A, 1, none⟩ = some (.slice none 0 0) := Joins.cell_of_block hRr 1
      have fB0 : wr.frozen? ⟨A, 0, none⟩ = false := Joins.unfrozen_of_block hRr 0
      have fB1 : wr.frozen? ⟨A, 1, none⟩ = false := Joins.unfrozen_of_block hRr 1
      have HFin : Hid (wr.heap[A + 1]? = some (.cells (celCells (withHeld (conS n c) ys)).toArray 44)) := hfin
      have HRr : Hid (wr.heap[A]? = some (.cells #[.int .i64 0, .slice none 0 0] 24)) := hRr
      have HBr : Hid (Below A w wr) := HB2.out.trans (HF.out.below (fun i hi => by omega) (by omega))
      clear hfin HC hRr HF
      go_wp2
      have hrow := Joins.block_setCell (Joins.block_setCell HRr.out (i := 0) (.int .i64 n)) (i := 1) (.slice (some ⟨A + 1, 0, none⟩) k k)
      refine ret32 rfl A _ rfl hrow rfl rfl ⟨A + 1, withHeld (conS n c) ys, by rw [hl]; rfl, HI.out, ?_, by omega, ?_⟩
      · rw [Below.heap_setCell _ _ _ _ (by show A + 1 ≠ A; omega), Below.heap_setCell _ _ _ _ (by show A + 1 ≠ A; omega)]
        exact HFin.out
      · exact (HBr.out.setCell (Nat.le_refl _) _).setCell (Nat.le_refl _) _
end Go.Proofs.Ytbnbbelkddbndaa
