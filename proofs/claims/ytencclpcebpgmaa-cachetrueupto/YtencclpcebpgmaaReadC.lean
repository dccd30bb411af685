/- Read of a cache, in one form; no condition but that numbers do not pass their greatest. -/
import Derived.Test.YtencclpcebpgmaaUsed
namespace Go.Proofs.Ytencclpcebpgmaa
open Go.RowKit Go.Maps
variable {w : World} {K : KLoc} {L : Loc} {s : CSt} {t : St}

def rdB (s : CSt) (t : St) (k : Int) : Nat → Int := if usedE s t k = 0 then (match atR s.row k with | some h => h.dat | none => curV t k) else nought
def rdC (s : CSt) (t : St) (k : Int) : CSt := if usedE s t k = 0 then (match atR s.row k with | some h => { s with row := goneR s.row k ++ [h] } | none => { s with row := placeR s.size s.row ++ [⟨k, false, curV t k⟩] }) else s
def rdD (s : CSt) (t : St) (k : Int) : St := if usedE s t k = 0 then (match atR s.row k with | some _ => t | none => readS t) else t
theorem curV_can (ok : Ok t) (k : Int) : Can (curV t k) := by
  cases hl : lastAt t.wait k with
  | some i =>
    obtain ⟨c, hc, _⟩ := lastAt_spec k _ i hl
    rw [curV_wait hl hc]
    exact (ok.wait c (List.mem_of_getElem? hc)).2
  | none =>
    rw [curV_held hl]
    cases hh : t.held k with
    | some f => exact (ok.held k f hh).2.1
    | none => exact can_nought
theorem used_ref {k : Int} (hu : usedE s t k = 0) : refV t k = 0 := by
  apply Classical.byContradiction
  intro hb
  unfold usedE at hu
  rw [if_pos hb] at hu
  exact hb hu
theorem map_snoc {f : Nat → Hld} {l : List Nat} {g : Nat} {r : List Hld} {x : Hld} (h : r ++ [x] = (l ++ [g]).map f) : r = l.map f ∧ x = f g := by
  rw [List.map_append] at h
  exact List.append_inj' h rfl |>.imp id (fun q => by simpa using q)
/-- The last one's bytes are stored. -/
theorem CD.bytesLast {sz : Int} {r : List Hld} {x : Hld} (h : CD w K L ⟨sz, r ++ [x]⟩ t) {l : List Nat} {g : Nat} (hns : K.ns = l ++ [g]) {f : Nat → Int} (hf : Can f) :
    ∃ K', CD (w.setCells g 4 (blk f).toList) K' L ⟨sz, r ++ [⟨x.pos, x.fast, f⟩]⟩ t ∧ GoesC w (w.setCells g 4 (blk f).toList) K L K' L ∧ K'.ns = K.ns ∧ K'.c = K.c ∧ hld K'.M g = ⟨x.pos, x.fast, f⟩ := by
  have h1 := h.cache.holds
  rw [hns] at h1
  obtain ⟨rfl, rfl⟩ := map_snoc h1
  obtain ⟨a1, a2⟩ := h.cache.bytes (p := l) (q := []) (g := g) hns hf
  have hgm : K.has g := .inr (.inr (.inr (by rw [hns]; simp)))
  obtain ⟨b1, b2⟩ := h.caches a1 rfl rfl (fun _ q => .inl q) (a2.mono fun i _ q => by rw [q]; exact hgm)
  refine ⟨_, b1, b2, rfl, rfl, ?_⟩
  show hld (setM K.M g _) g = _
  unfold hld
  rw [setM_same]
/-- A holding of the row, as cells. -/
theorem CD.node {g : Nat} {x : Hld} (h : CD w K L s t) (hg : g ∈ K.ns) (hx : hld K.M g = x) : ∃ p q, RowAt w g x.pos x.fast p q x.dat := by
  subst hx
  exact ⟨_, _, h.cache.nodes g (.inr hg)⟩
/-- A block that is new stays out of it. -/
theorem GoesC.out {a b c : World} {K' : KLoc} {L' : Loc} (h : GoesC a b K L K' L') {g : Nat} (hg : a.heap.size ≤ g) (hf : Fr (fun i => i = g) b c) : GoesC a c K L K' L' :=
  ⟨h.c, h.d, h.ownK, h.ownL, h.fr.trans hf fun i hi q => by omega⟩
/-- What a use of the last answers, with a block that was new ahead of it. -/
theorem CD.setRow {g : Nat} (h : CD w K L s t) (hK : ¬ K.has g) (hL : ¬ L.has g) (cs : Array Value) : CD (w.setRow g cs) K L s t := by
  have hf := Fr.setRow w g cs
  exact ⟨h.cache.fr hf fun k hk e => hK (e ▸ hk), h.disk.fr hf fun k hk e => hL (e ▸ hk), h.d, h.apart⟩
set_option maxRecDepth 20000 in
set_option maxHeartbeats 4000000 in
theorem readC_of (h : CD w K L s t) (hr : Room t) (k : Int) : Calls Try.prog 24 #[ptr K.c, .int .i64 k] w fun e w' => e = .returned (.tuple #[.agg (blk (rdB s t k)), .int .i64 (usedE s t k)]) ∧
    ∃ K' L', CD w' K' L' (rdC s t k) (rdD s t k) ∧ GoesC w w' K L K' L' := by
  have hA := h.later (below_new w (.cells (blk nought) 59))
  have hA0 := GoesC.ofBelow K L (below_new w (.cells (blk nought) 59))
  have R0 := heap_alloc_new w (.cells (blk nought) 59)
  have hltK : ∀ i, K.has i → i < w.heap.size := h.cache.lt
  have hltL : ∀ i, L.has i → i < w.heap.size := h.disk.lt
  have hs0 : (w.alloc (.cells (blk nought) 59)).heap.size = w.heap.size + 1 := by simp
  have z25 := zero25
  have hbd := built58
  unfold rdB rdC rdD
  by_cases hu : usedE s t k = 0
  · rw [if_pos hu, if_pos hu, if_pos hu, hu]
    have hb := used_ref hu
    have hU := use_ok hA hu
    cases ha : atR s.row k with
    | some x =>
      have eP : useP s k = (goneR s.row k, x, false) := by unfold useP; rw [ha]
      rw [eP] at hU
      have HF : Hid (∀ W1 K1 g l, K1.ns = l ++ [g] → hld K1.M g = x → CD W1 K1 L { s with row := goneR s.row k ++ [x] } t → GoesC (w.alloc (.cells (blk nought) 59)) W1 K L K1 L →
          BlkAt W1 g 4 x.dat ∧ W1.heap[w.heap.size]? = some (.cells (blk nought) 59) ∧ ∃ K' L', CD (W1.setRow w.heap.size (blk x.dat)) K' L' { s with row := goneR s.row k ++ [x] } t ∧ GoesC w (W1.setRow w.heap.size (blk x.dat)) K L K' L') := by
        intro W1 K1 g l hns hx h1 hG
        obtain ⟨pp, qq, hrow⟩ := h1.node (g := g) (by rw [hns]; simp) hx
        have hnK : ¬ K1.has w.heap.size := fun q => by
          rcases hG.ownK _ q with q | q
          · have := hltK _ q; omega
          · omega
        have hnL : ¬ L.has w.heap.size := fun q => by have := hltL _ q; omega
        refine ⟨hrow.bytes, (hG.fr.block _ (by omega) ?_).trans R0, K1, L, h1.setRow hnK hnL _, ?_⟩
        · rintro (q | q)
          · have := hltK _ q; omega
          · exact hnL q
        · exact (hA0.trans hG).out (Nat.le_refl _) (Fr.setRow _ _ _)
      clear h hA hA0 R0 hltK hltL hs0 hu ha eP hb
      generalize nought = N at *
      have HU : Hid (Calls Try.prog 53 _ _ _) := hU
      clear hU
      unfold ptr
      go_enter Try.func24, Try.ntmps24
      go_wp2_with (go_at_call 53; fail)
      refine HU.out.mono ?_
      rintro e W1 ⟨K1, g, l, rfl, hns, hx, h1, hG⟩
      obtain ⟨hB, hR0, hfin⟩ := HF.out W1 K1 g l hns hx h1 hG
      have HFin : Hid _ := hfin
      clear HU HF hns hx h1 hG hfin
      generalize w.heap.size = g0 at *
      unfold ptr
      go_wp2_with (first | refine wpList_loadM rfl (.tmp 35) rfl g 4 rfl x.dat hB ?_ | refine wpList_store25 rfl (.tmp 4) (.tmp 36) rfl g0 x.dat rfl rfl _ hR0 ?_)
      exact retBT rfl g0 x.dat rfl (setRow_heap _ _ _ _ _ _ hR0) rfl ⟨rfl, HFin.out⟩
    | none =>
      have eP : useP s k = (placeR s.size s.row, ⟨k, false, nought⟩, true) := by unfold useP; rw [ha]
      rw [eP] at hU
      have hcan := curV_can h.disk.ok k
      generalize hF0 : curV t k = f at *
      have HF : Hid (∀ W1 K1 g l, K1.ns = l ++ [g] → CD W1 K1 L { s with row := placeR s.size s.row ++ [⟨k, false, nought⟩] } t → GoesC (w.alloc (.cells (blk nought) 59)) W1 K L K1 L →
          W1.cell? ⟨K.c, 1, none⟩ = some (ptr L.d) ∧ Calls Try.prog 37 #[ptr L.d, .int .i64 k] W1 fun e W2 => e = .returned (.tuple #[.agg (blk f), .int .i64 0]) ∧ W2.there g 4 1024 ∧ BlkAt (W2.setCells g 4 (blk f).toList) g 4 f ∧
          (W2.setCells g 4 (blk f).toList).heap[w.heap.size]? = some (.cells (blk nought) 59) ∧ ∃ K' L', CD ((W2.setCells g 4 (blk f).toList).setRow w.heap.size (blk f)) K' L' { s with row := placeR s.size s.row ++ [⟨k, false, f⟩] } (readS t) ∧
            GoesC w ((W2.setCells g 4 (blk f).toList).setRow w.heap.size (blk f)) K L K' L') := by
        intro W1 K1 g l hns h1 hG
        refine ⟨?_, ?_⟩
        · have := h1.cache.c1
          rw [hG.c, h1.d] at this
          exact this
        · have hrd := read_ok h1.disk hr hb
          rw [hF0] at hrd
          refine hrd.mono ?_
          rintro e W2 ⟨rfl, hD2, hG2⟩
          obtain ⟨b1, b2⟩ := h1.disks hD2 hG2
          obtain ⟨K3, c1, c2, c3, c4, c5⟩ := b1.bytesLast hns hcan
          have hgm : g ∈ K1.ns := by rw [hns]; simp
          have hg1 := b1.cache.nodes g (.inr hgm)
          obtain ⟨pp, qq, hrow3⟩ := c1.node (g := g) (by rw [c3]; exact hgm) c5
          have hG3 := hG.trans (b2.trans c2)
          have hnK : ¬ K3.has w.heap.size := fun q => by
            rcases hG3.ownK _ q with q | q
            · have := hltK _ q; omega
            · omega
          have hnL : ¬ L.has w.heap.size := fun q => by have := hltL _ q; omega
          refine ⟨rfl, hg1.there, hrow3.bytes, (hG3.fr.block _ (by omega) ?_).trans R0, K3, L, c1.setRow hnK hnL _, (hA0.trans hG3).out (Nat.le_refl _) (Fr.setRow _ _ _)⟩
          rintro (q | q)
          · have := hltK _ q; omega
          · exact hnL q
      clear h hA hA0 R0 hltK hltL hs0 hu ha eP hb hF0 hcan hr
      have HU : Hid (Calls Try.prog 53 _ _ _) := hU
      clear hU
      generalize nought = N at *
      unfold ptr
      go_enter Try.func24, Try.ntmps24
      go_wp2_with (go_at_call 53; fail)
      refine HU.out.mono ?_
      rintro e W1 ⟨K1, g, l, rfl, hns, hx, h1, hG⟩
      obtain ⟨d1, hcall⟩ := HF.out W1 K1 g l hns h1 hG
      have HC : Hid (Calls Try.prog 37 _ _ _) := hcall
      clear HU HF hns hx h1 hG hcall
      generalize w.heap.size = g0 at *
      unfold ptr at d1 ⊢
      go_wp2_with (go_at_call 37; fail)
      refine HC.out.mono ?_
      rintro e W2 ⟨rfl, hth, hB, hR0, hfin⟩
      have HFin : Hid _ := hfin
      clear hfin HC
      generalize hW3 : W2.setCells g 4 (blk f).toList = W3 at *
      go_wp2_with (first | (refine wpList_storeM rfl (.tmp 32) (.tmp 29) rfl rfl f rfl hth ?_; rw [hW3]) | refine wpList_loadM rfl (.tmp 35) rfl g 4 rfl f hB ?_ | refine wpList_store25 rfl (.tmp 4) (.tmp 36) rfl g0 f rfl rfl _ hR0 ?_)
      exact retBT rfl g0 f rfl (setRow_heap _ _ _ _ _ _ hR0) rfl ⟨rfl, HFin.out⟩
  · rw [if_neg hu, if_neg hu, if_neg hu]
    have hU := use_err hA hu
    have hne : (usedE s t k != 0) = true := by simp [hu]
    have HF : Hid (∀ W1, Below (w.alloc (.cells (blk nought) 59)).heap.size (w.alloc (.cells (blk nought) 59)) W1 → W1.heap[w.heap.size]? = some (.cells (blk nought) 59) ∧ ∃ K' L', CD (W1.setRow w.heap.size (blk nought)) K' L' s t ∧ GoesC w (W1.setRow w.heap.size (blk nought)) K L K' L') := by
      intro W1 hB
      have hnK : ¬ K.has w.heap.size := fun q => by have := hltK _ q; omega
      have hnL : ¬ L.has w.heap.size := fun q => by have := hltL _ q; omega
      exact ⟨(hB.block _ (by omega)).trans R0, K, L, (hA.later hB).setRow hnK hnL _, (hA0.trans (GoesC.ofBelow K L hB)).out (Nat.le_refl _) (Fr.setRow _ _ _)⟩
    clear h hA hA0 R0 hltK hltL hs0 hu
    generalize nought = N at *
    generalize usedE s t k = E at *
    have HU : Hid (Calls Try.prog 53 _ _ _) := hU
    clear hU
    unfold ptr
    go_enter Try.func24, Try.ntmps24
    go_wp2_with (go_at_call 53; fail)
    refine HU.out.mono ?_
    rintro e W1 ⟨rfl, hB⟩
    obtain ⟨hR0, hfin⟩ := HF.out W1 hB
    have HFin : Hid _ := hfin
    clear HU HF hB hfin
    generalize w.heap.size = g0 at *
    unfold nilp
    go_wp2_with (first | refine wpList_build58 rfl rfl hbd ?_ | refine wpList_store25 rfl (.tmp 4) (.tmp 18) rfl g0 N rfl rfl _ hR0 ?_)
    exact retBT rfl g0 N rfl (setRow_heap _ _ _ _ _ _ hR0) rfl ⟨rfl, HFin.out⟩
end Go.Proofs.Ytencclpcebpgmaa
