/- Several texts joined, each with its own remark; no condition. -/
import Derived.Test.YtkcgbhagjkhcmaaGreatK5
import Derived.Test.YtkcgbhagjkhcmaaGreatK2
import Derived.Laws.BitsLemmas
import Derived.BigQuiet

/- Read of a cache, in one form; no condition but that numbers do not pass their greatest. -/
namespace Go.Proofs.YtkcgbhagjkhcmaaGreatW
open Go.RowKit Go.Maps
variable {w : World} {K : KLoc} {L : Loc} {s : CSt} {t : St}

def rdB (s : CSt) (t : St) (k : Int) : Nat → Int := if usedE s t k = 0 then (match atR s.row k with | some h => h.dat | none => curV t k) else nought
def rdC (s : CSt) (t : St) (k : Int) : CSt := if usedE s t k = 0 then (match atR s.row k with | some h => { s with row := goneR s.row k ++ [h] } | none => { s with row := placeR s.size s.row ++ [⟨k, false, curV t k⟩] }) else s
def rdD (s : CSt) (t : St) (k : Int) : St := if usedE s t k = 0 then (match atR s.row k with | some _ => t | none => readS t) else t
theorem curV_can (ok : Ok t) (k : Int) : Can (curV t k) := by
  cases hl : lastAt t.wait k with
  | some i =>
    obtain ⟨c, hc, _⟩ := lastAt_spec k _ i hl
    rw [curV_wait hl hc]
    exact (ok.wait c (List.mem_of_getElem? hc)).2
  | none =>
    rw [curV_held hl]
    cases hh : t.held k with
    | some f => exact (ok.held k f hh).2.1
    | none => exact can_nought
theorem used_ref {k : Int} (hu : usedE s t k = 0) : refV t k = 0 := by
  apply Classical.byContradiction
  intro hb
  unfold usedE at hu
  rw [if_pos hb] at hu
  exact hb hu
theorem map_snoc {f : Nat → Hld} {l : List Nat} {g : Nat} {r : List Hld} {x : Hld} (h : r ++ [x] = (l ++ [g]).map f) : r = l.map f ∧ x = f g := by
  rw [List.map_append] at h
  exact List.append_inj' h rfl |>.imp id (fun q => by simpa using q)
/-- The last one's bytes are stored. -/
theorem CD.bytesLast {sz : Int} {r : List Hld} {x : Hld} (h : CD w K L ⟨sz, r ++ [x]⟩ t) {l : List Nat} {g : Nat} (hns : K.ns = l ++ [g]) {f : Nat → Int} (hf : Can f) :
    ∃ K', CD (w.setCells g 4 (blk f).toList) K' L ⟨sz, r ++ [⟨x.pos, x.fast, f⟩]⟩ t ∧ GoesC w (w.setCells g 4 (blk f).toList) K L K' L ∧ K'.ns = K.ns ∧ K'.c = K.c ∧ hld K'.M g = ⟨x.pos, x.fast, f⟩ := by
  have h1 := h.cache.holds
  rw [hns] at h1
  obtain ⟨rfl, rfl⟩ := map_snoc h1
  obtain ⟨a1, a2⟩ := h.cache.bytes (p := l) (q := []) (g := g) hns hf
  have hgm : K.has g := .inr (.inr (.inr (by rw [hns]; simp)))
  obtain ⟨b1, b2⟩ := h.caches a1 rfl rfl (fun _ q => .inl q) (a2.mono fun i _ q => by rw [q]; exact hgm)
  refine ⟨_, b1, b2, rfl, rfl, ?_⟩
  show hld (setM K.M g _) g = _
  unfold hld
  rw [setM_same]
/-- A holding of the row, as cells. -/
theorem CD.node {g : Nat} {x : Hld} (h : CD w K L s t) (hg : g ∈ K.ns) (hx : hld K.M g = x) : ∃ p q, RowAt w g x.pos x.fast p q x.dat := by
  subst hx
  exact ⟨_, _, h.cache.nodes g (.inr hg)⟩
/-- A block that is new stays out of it. -/
theorem GoesC.out {a b c : World} {K' : KLoc} {L' : Loc} (h : GoesC a b K L K' L') {g : Nat} (hg : a.heap.size ≤ g) (hf : Fr (fun i => i = g) b c) : GoesC a c K L K' L' :=
  ⟨h.c, h.d, h.ownK, h.ownL, h.fr.trans hf fun i hi q => by omega⟩
/-- What a use of the last answers, with a block that was new ahead of it. -/
theorem CD.setRow {g : Nat} (h : CD w K L s t) (hK : ¬ K.has g) (hL : ¬ L.has g) (cs : Array Value) : CD (w.setRow g cs) K L s t := by
  have hf := Fr.setRow w g cs
  exact ⟨h.cache.fr hf fun k hk e => hK (e ▸ hk), h.disk.fr hf fun k hk e => hL (e ▸ hk), h.d, h.apart⟩
set_option maxRecDepth 20000 in
set_option maxHeartbeats 4000000 in
theorem readC_of (h : CD w K L s t) (hr : Room t) (k : Int) : Calls Tryz.prog 105 #[ptr K.c, .int .i64 k] w fun e w' => e = .returned (.tuple #[.agg (blk (rdB s t k)), .int .i64 (usedE s t k)]) ∧
    ∃ K' L', CD w' K' L' (rdC s t k) (rdD s t k) ∧ GoesC w w' K L K' L' := by
  have hA := h.later (below_new w (.cells (blk nought) 76))
  have hA0 := GoesC.ofBelow K L (below_new w (.cells (blk nought) 76))
  have R0 := heap_alloc_new w (.cells (blk nought) 76)
  have hltK : ∀ i, K.has i → i < w.heap.size := h.cache.lt
  have hltL : ∀ i, L.has i → i < w.heap.size := h.disk.lt
  have hs0 : (w.alloc (.cells (blk nought) 76)).heap.size = w.heap.size + 1 := by simp
  have z25 := zero25
  have hbd := built58
  unfold rdB rdC rdD
  by_cases hu : usedE s t k = 0
  · rw [if_pos hu, if_pos hu, if_pos hu, hu]
    have hb := used_ref hu
    have hU := use_ok hA hu
    cases ha : atR s.row k with
    | some x =>
      have eP : useP s k = (goneR s.row k, x, false) := by unfold useP; rw [ha]
      rw [eP] at hU
      have HF : Hid (∀ W1 K1 g l, K1.ns = l ++ [g] → hld K1.M g = x → CD W1 K1 L { s with row := goneR s.row k ++ [x] } t → GoesC (w.alloc (.cells (blk nought) 76)) W1 K L K1 L →
          BlkAt W1 g 4 x.dat ∧ W1.heap[w.heap.size]? = some (.cells (blk nought) 76) ∧ ∃ K' L', CD (W1.setRow w.heap.size (blk x.dat)) K' L' { s with row := goneR s.row k ++ [x] } t ∧ GoesC w (W1.setRow w.heap.size (blk x.dat)) K L K' L') := by
        intro W1 K1 g l hns hx h1 hG
        obtain ⟨pp, qq, hrow⟩ := h1.node (g := g) (by rw [hns]; simp) hx
        have hnK : ¬ K1.has w.heap.size := fun q => by
          rcases hG.ownK _ q with q | q
          · have := hltK _ q; omega
          · omega
        have hnL : ¬ L.has w.heap.size := fun q => by have := hltL _ q; omega
        refine ⟨hrow.bytes, (hG.fr.block _ (by omega) ?_).trans R0, K1, L, h1.setRow hnK hnL _, ?_⟩
        · rintro (q | q)
          · have := hltK _ q; omega
          · exact hnL q
        · exact (hA0.trans hG).out (Nat.le_refl _) (Fr.setRow _ _ _)
      clear h hA hA0 R0 hltK hltL hs0 hu ha eP hb
      generalize nought = N at *
      have HU : Hid (Calls Tryz.prog 100 _ _ _) := hU
      clear hU
      unfold ptr
      go_enter Tryz.func105, Tryz.ntmps105
      go_wp2_with (go_at_call 100; fail)
      refine HU.out.mono ?_
      rintro e W1 ⟨K1, g, l, rfl, hns, hx, h1, hG⟩
      obtain ⟨hB, hR0, hfin⟩ := HF.out W1 K1 g l hns hx h1 hG
      have HFin : Hid _ := hfin
      clear HU HF hns hx h1 hG hfin
      generalize w.heap.size = g0 at *
      unfold ptr
      go_wp2_with (first | refine wpList_loadM rfl (.tmp 35) rfl g 4 rfl x.dat hB ?_ | refine wpList_store25 rfl (.tmp 4) (.tmp 36) rfl g0 x.dat rfl rfl _ hR0 ?_)
      exact retBT rfl g0 x.dat rfl (setRow_heap _ _ _ _ _ _ hR0) rfl ⟨rfl, HFin.out⟩
    | none =>
      have eP : useP s k = (placeR s.size s.row, ⟨k, false, nought⟩, true) := by unfold useP; rw [ha]
      rw [eP] at hU
      have hcan := curV_can h.disk.ok k
      generalize hF0 : curV t k = f at *
      have HF : Hid (∀ W1 K1 g l, K1.ns = l ++ [g] → CD W1 K1 L { s with row := placeR s.size s.row ++ [⟨k, false, nought⟩] } t → GoesC (w.alloc (.cells (blk nought) 76)) W1 K L K1 L →
          W1.cell? ⟨K.c, 1, none⟩ = some (ptr L.d) ∧ Calls Tryz.prog 89 #[ptr L.d, .int .i64 k] W1 fun e W2 => e = .returned (.tuple #[.agg (blk f), .int .i64 0]) ∧ W2.there g 4 1024 ∧ BlkAt (W2.setCells g 4 (blk f).toList) g 4 f ∧
          (W2.setCells g 4 (blk f).toList).heap[w.heap.size]? = some (.cells (blk nought) 76) ∧ ∃ K' L', CD ((W2.setCells g 4 (blk f).toList).setRow w.heap.size (blk f)) K' L' { s with row := placeR s.size s.row ++ [⟨k, false, f⟩] } (readS t) ∧
            GoesC w ((W2.setCells g 4 (blk f).toList).setRow w.heap.size (blk f)) K L K' L') := by
        intro W1 K1 g l hns h1 hG
        refine ⟨?_, ?_⟩
        · have := h1.cache.c1
          rw [hG.c, h1.d] at this
          exact this
        · have hrd := read_ok h1.disk hr hb
          rw [hF0] at hrd
          refine hrd.mono ?_
          rintro e W2 ⟨rfl, hD2, hG2⟩
          obtain ⟨b1, b2⟩ := h1.disks hD2 hG2
          obtain ⟨K3, c1, c2, c3, c4, c5⟩ := b1.bytesLast hns hcan
          have hgm : g ∈ K1.ns := by rw [hns]; simp
          have hg1 := b1.cache.nodes g (.inr hgm)
          obtain ⟨pp, qq, hrow3⟩ := c1.node (g := g) (by rw [c3]; exact hgm) c5
          have hG3 := hG.trans (b2.trans c2)
          have hnK : ¬ K3.has w.heap.size := fun q => by
            rcases hG3.ownK _ q with q | q
            · have := hltK _ q; omega
            · omega
          have hnL : ¬ L.has w.heap.size := fun q => by have := hltL _ q; omega
          refine ⟨rfl, hg1.there, hrow3.bytes, (hG3.fr.block _ (by omega) ?_).trans R0, K3, L, c1.setRow hnK hnL _, (hA0.trans hG3).out (Nat.le_refl _) (Fr.setRow _ _ _)⟩
          rintro (q | q)
          · have := hltK _ q; omega
          · exact hnL q
      clear h hA hA0 R0 hltK hltL hs0 hu ha eP hb hF0 hcan hr
      have HU : Hid (Calls Tryz.prog 100 _ _ _) := hU
      clear hU
      generalize nought = N at *
      unfold ptr
      go_enter Tryz.func105, Tryz.ntmps105
      go_wp2_with (go_at_call 100; fail)
      refine HU.out.mono ?_
      rintro e W1 ⟨K1, g, l, rfl, hns, hx, h1, hG⟩
      obtain ⟨d1, hcall⟩ := HF.out W1 K1 g l hns h1 hG
      have HC : Hid (Calls Tryz.prog 89 _ _ _) := hcall
      clear HU HF hns hx h1 hG hcall
      generalize w.heap.size = g0 at *
      unfold ptr at d1 ⊢
      go_wp2_with (go_at_call 89; fail)
      refine HC.out.mono ?_
      rintro e W2 ⟨rfl, hth, hB, hR0, hfin⟩
      have HFin : Hid _ := hfin
      clear hfin HC
      generalize hW3 : W2.setCells g 4 (blk f).toList = W3 at *
      go_wp2_with (first | (refine wpList_storeM rfl (.tmp 32) (.tmp 29) rfl rfl f rfl hth ?_; rw [hW3]) | refine wpList_loadM rfl (.tmp 35) rfl g 4 rfl f hB ?_ | refine wpList_store25 rfl (.tmp 4) (.tmp 36) rfl g0 f rfl rfl _ hR0 ?_)
      exact retBT rfl g0 f rfl (setRow_heap _ _ _ _ _ _ hR0) rfl ⟨rfl, HFin.out⟩
  · rw [if_neg hu, if_neg hu, if_neg hu]
    have hU := use_err hA hu
    have hne : (usedE s t k != 0) = true := by simp [hu]
    have HF : Hid (∀ W1, Below (w.alloc (.cells (blk nought) 76)).heap.size (w.alloc (.cells (blk nought) 76)) W1 → W1.heap[w.heap.size]? = some (.cells (blk nought) 76) ∧ ∃ K' L', CD (W1.setRow w.heap.size (blk nought)) K' L' s t ∧ GoesC w (W1.setRow w.heap.size (blk nought)) K L K' L') := by
      intro W1 hB
      have hnK : ¬ K.has w.heap.size := fun q => by have := hltK _ q; omega
      have hnL : ¬ L.has w.heap.size := fun q => by have := hltL _ q; omega
      exact ⟨(hB.block _ (by omega)).trans R0, K, L, (hA.later hB).setRow hnK hnL _, (hA0.trans (GoesC.ofBelow K L hB)).out (Nat.le_refl _) (Fr.setRow _ _ _)⟩
    clear h hA hA0 R0 hltK hltL hs0 hu
    generalize nought = N at *
    generalize usedE s t k = E at *
    have HU : Hid (Calls Tryz.prog 100 _ _ _) := hU
    clear hU
    unfold ptr
    go_enter Tryz.func105, Tryz.ntmps105
    go_wp2_with (go_at_call 100; fail)
    refine HU.out.mono ?_
    rintro e W1 ⟨rfl, hB⟩
    obtain ⟨hR0, hfin⟩ := HF.out W1 hB
    have HFin : Hid _ := hfin
    clear HU HF hB hfin
    generalize w.heap.size = g0 at *
    unfold nilp
    go_wp2_with (first | refine wpList_build58 rfl rfl hbd ?_ | refine wpList_store25 rfl (.tmp 4) (.tmp 18) rfl g0 N rfl rfl _ hR0 ?_)
    exact retBT rfl g0 N rfl (setRow_heap _ _ _ _ _ _ hR0) rfl ⟨rfl, HFin.out⟩
end Go.Proofs.YtkcgbhagjkhcmaaGreatW
/- Put of a cache, in one form; no condition. -/
namespace Go.Proofs.YtkcgbhagjkhcmaaGreatW
open Go.RowKit Go.Maps
variable {w : World} {K : KLoc} {L : Loc} {s : CSt} {t : St}

def putC (s : CSt) (t : St) (k : Int) (f : Nat → Int) : CSt := if usedE s t k = 0 then { s with row := (useP s k).1 ++ [⟨k, true, f⟩] } else s
theorem useP_pos (s : CSt) (k : Int) : (useP s k).2.1.pos = k := by
  unfold useP
  cases ha : atR s.row k with
  | some x =>
    have := List.find?_some ha
    simpa using this
  | none => rfl
/-- The last one is held fast. -/
theorem CD.fastLast {sz : Int} {r : List Hld} {x : Hld} (h : CD w K L ⟨sz, r ++ [x]⟩ t) {l : List Nat} {g : Nat} (hns : K.ns = l ++ [g]) (hx : x.fast = false) {m : Int} (hm : m = (fastN (r ++ [x]) : Int) + 1) :
    ∃ K', CD ((w.setCell ⟨g, 1, none⟩ (.bool true)).setCell ⟨K.c, 5, none⟩ (.int .i64 m)) K' L ⟨sz, r ++ [⟨x.pos, true, x.dat⟩]⟩ t ∧ GoesC w ((w.setCell ⟨g, 1, none⟩ (.bool true)).setCell ⟨K.c, 5, none⟩ (.int .i64 m)) K L K' L := by
  have h1 := h.cache.holds
  rw [hns] at h1
  obtain ⟨rfl, rfl⟩ := map_snoc h1
  have hx' : (K.M g).fast = false := hx
  obtain ⟨a1, a2⟩ := h.cache.flag (p := l) (q := []) (g := g) hns true (m := m) (by
    rw [hm]
    simp [fastN, List.countP_append, hld, hx']) rfl
  obtain ⟨b1, b2⟩ := h.caches a1 rfl rfl (fun _ q => .inl q) a2
  exact ⟨_, b1, b2⟩
set_option maxRecDepth 20000 in
set_option maxHeartbeats 4000000 in
theorem putC_of (h : CD w K L s t) (k : Int) {f : Nat → Int} (hf : Can f) : Calls Tryz.prog 67 #[ptr K.c, .int .i64 k, .agg (blk f)] w fun e w' => e = .returned (.int .i64 (usedE s t k)) ∧
    ∃ K' L', CD w' K' L' (putC s t k f) t ∧ GoesC w w' K L K' L' := by
  have hA := h.later (below_new w (.cells (blk f) 76))
  have hA0 := GoesC.ofBelow K L (below_new w (.cells (blk f) 76))
  have R0 := heap_alloc_new w (.cells (blk f) 76)
  have hltK : ∀ i, K.has i → i < w.heap.size := h.cache.lt
  have hltL : ∀ i, L.has i → i < w.heap.size := h.disk.lt
  have hs0 : (w.alloc (.cells (blk f) 76)).heap.size = w.heap.size + 1 := by simp
  unfold putC
  by_cases hu : usedE s t k = 0
  · rw [if_pos hu, hu]
    have hU := use_ok hA hu
    have hpos := useP_pos s k
    generalize (useP s k).1 = r at *
    generalize (useP s k).2.2 = nw at *
    generalize (useP s k).2.1 = x at *
    have HF : Hid (∀ W1 K1 g l, K1.ns = l ++ [g] → hld K1.M g = x → CD W1 K1 L ⟨s.size, r ++ [x]⟩ t → GoesC (w.alloc (.cells (blk f) 76)) W1 K L K1 L →
        W1.heap[w.heap.size]? = some (.cells (blk f) 76) ∧ W1.there g 4 1024 ∧ K.c ≠ g ∧
        (W1.setCells g 4 (blk f).toList).cell? ⟨g, 1, none⟩ = some (.bool x.fast) ∧ (W1.setCells g 4 (blk f).toList).frozen? ⟨g, 1, none⟩ = false ∧
        (W1.setCells g 4 (blk f).toList).cell? ⟨K.c, 5, none⟩ = some (.int .i64 (fastN (r ++ [x]) : Int)) ∧ (W1.setCells g 4 (blk f).toList).frozen? ⟨K.c, 5, none⟩ = false ∧ (fastN (r ++ [x]) : Int) ≤ 4096 ∧
        (x.fast = true → ∃ K' L', CD (W1.setCells g 4 (blk f).toList) K' L' { s with row := r ++ [⟨k, true, f⟩] } t ∧ GoesC w (W1.setCells g 4 (blk f).toList) K L K' L') ∧
        (x.fast = false → ∃ K' L', CD (((W1.setCells g 4 (blk f).toList).setCell ⟨g, 1, none⟩ (.bool true)).setCell ⟨K.c, 5, none⟩ (.int .i64 ((fastN (r ++ [x]) : Int) + 1))) K' L' { s with row := r ++ [⟨k, true, f⟩] } t ∧
          GoesC w (((W1.setCells g 4 (blk f).toList).setCell ⟨g, 1, none⟩ (.bool true)).setCell ⟨K.c, 5, none⟩ (.int .i64 ((fastN (r ++ [x]) : Int) + 1))) K L K' L')) := by
      intro W1 K1 g l hns hx h1 hG
      have hgm : g ∈ K1.ns := by rw [hns]; simp
      have hnd := h1.cache.nodes g (.inr hgm)
      obtain ⟨K3, c1, c2, c3, c4, c5⟩ := h1.bytesLast hns hf
      obtain ⟨pp, qq, hrow3⟩ := c1.node (g := g) (by rw [c3]; exact hgm) c5
      have hfn : fastN (r ++ [⟨x.pos, x.fast, f⟩]) = fastN (r ++ [x]) := by simp [fastN, List.countP_append]
      have hcc : K3.c = K.c := c4.trans hG.c
      have d5 := c1.cache.c5
      have ff := c1.cache.free 5
      rw [hcc] at d5 ff
      rw [show (({ size := s.size, row := r ++ [⟨x.pos, x.fast, f⟩] } : CSt)).row = r ++ [⟨x.pos, x.fast, f⟩] from rfl, hfn] at d5
      have hle : (fastN (r ++ [x]) : Int) ≤ 4096 := by
        have a1 := fastN_le (r ++ [x])
        have a2 := h1.cache.ok.len
        have a3 := h1.cache.ok.size
        simp only at a2 a3
        omega
      refine ⟨(hG.fr.block _ (by omega) ?_).trans R0, hnd.there, ?_, hrow3.c1, hrow3.free 1, d5, ff, hle, ?_, ?_⟩
      · rintro (q | q)
        · have := hltK _ q; omega
        · have := hltL _ q; omega
      · rw [← hG.c]
        exact (h1.cache.cne (.inr hgm)).symm
      · intro hx1
        rw [hpos, hx1] at c1
        exact ⟨K3, L, c1, hA0.trans (hG.trans c2)⟩
      · intro hx0
        obtain ⟨K4, e1, e2⟩ := c1.fastLast (by rw [c3]; exact hns) hx0 (m := (fastN (r ++ [x]) : Int) + 1) (by rw [hfn])
        rw [hcc] at e1 e2
        rw [show (⟨x.pos, x.fast, f⟩ : Hld).pos = x.pos from rfl, hpos] at e1
        exact ⟨K4, L, e1, hA0.trans (hG.trans (c2.trans e2))⟩
    clear h hA hA0 R0 hltK hltL hs0 hu hpos hf
    have HU : Hid (Calls Tryz.prog 100 _ _ _) := hU
    clear hU
    unfold ptr
    go_enter Tryz.func67, Tryz.ntmps67
    go_wp2_with (go_at_call 100; fail)
    refine HU.out.mono ?_
    rintro e W1 ⟨K1, g, l, rfl, hns, hx, h1, hG⟩
    obtain ⟨hR0, hth, hcg, g1, fg, d5, ff, hle, hA1, hA2⟩ := HF.out W1 K1 g l hns hx h1 hG
    have H1 : Hid _ := hA1
    have H2 : Hid _ := hA2
    clear HU HF hns hx h1 hG hA1 hA2
    generalize w.heap.size = g0 at *
    generalize hW3 : W1.setCells g 4 (blk f).toList = W3 at *
    generalize fastN (r ++ [x]) = n at *
    have hw5 : IntKind.i64.wrap ((n : Int) + 1) = (n : Int) + 1 := by rw [IntKind.wrap_i64]; omega
    unfold ptr
    cases hxf : x.fast
    · rw [hxf] at g1
      have H3 := H2.out hxf
      have H4 : Hid _ := H3
      clear H1 H2 H3
      go_wp2_with (first | (refine wpList_load25 rfl (.tmp 5) rfl g0 rfl f hR0 ?_) | (refine wpList_storeM rfl (.tmp 23) (.tmp 21) rfl rfl f rfl hth ?_; rw [hW3]))
      go_ret
      exact ⟨rfl, H4.out⟩
    · rw [hxf] at g1
      have H3 := H1.out hxf
      have H4 : Hid _ := H3
      clear H1 H2 H3
      go_wp2_with (first | (refine wpList_load25 rfl (.tmp 5) rfl g0 rfl f hR0 ?_) | (refine wpList_storeM rfl (.tmp 23) (.tmp 21) rfl rfl f rfl hth ?_; rw [hW3]))
      go_ret
      exact ⟨rfl, H4.out⟩
  · rw [if_neg hu]
    have hU := use_err hA hu
    have hne : (usedE s t k != 0) = true := by simp [hu]
    have HF : Hid (∀ W1, Below (w.alloc (.cells (blk f) 76)).heap.size (w.alloc (.cells (blk f) 76)) W1 → ∃ K' L', CD W1 K' L' s t ∧ GoesC w W1 K L K' L') := fun W1 hB => ⟨K, L, hA.later hB, hA0.trans (GoesC.ofBelow K L hB)⟩
    clear h hA hA0 R0 hltK hltL hs0 hu hf
    generalize usedE s t k = E at *
    have HU : Hid (Calls Tryz.prog 100 _ _ _) := hU
    clear hU
    unfold ptr
    go_enter Tryz.func67, Tryz.ntmps67
    go_wp2_with (go_at_call 100; fail)
    refine HU.out.mono ?_
    rintro e W1 ⟨rfl, hB⟩
    have HFin : Hid _ := HF.out W1 hB
    clear HU HF hB
    unfold nilp
    go_wp2
    go_ret
    exact ⟨rfl, HFin.out⟩
end Go.Proofs.YtkcgbhagjkhcmaaGreatW
/- Flush of a cache, in one form; no condition but that numbers do not pass their greatest. -/
namespace Go.Proofs.YtkcgbhagjkhcmaaGreatW
open Go.RowKit Go.Maps
variable {w : World} {K : KLoc} {L : Loc} {s : CSt} {t : St}

end Go.Proofs.YtkcgbhagjkhcmaaGreatW
/- A cache and its disk that a function made itself, with blocks beside them that stay: each call once more, in one form; no condition but that numbers do not pass their greatest. -/
namespace Go.Proofs.YtkcgbhagjkhcmaaGreatW
open Go.RowKit Go.Maps

structure CS (w W : World) (K : KLoc) (L : Loc) (s : CSt) (t : St) (ks : List (Nat × Obj)) : Prop where
  cd : CD W K L s t
  newK : ∀ k, K.has k → w.heap.size ≤ k
  newL : ∀ k, L.has k → w.heap.size ≤ k
  below : Below w.heap.size w W
  keep : ∀ p ∈ ks, W.heap[p.1]? = some p.2 ∧ ¬ K.has p.1 ∧ ¬ L.has p.1
def Sit (w W : World) (c d : Nat) (s : CSt) (t : St) (ks : List (Nat × Obj)) : Prop := ∃ K L, K.c = c ∧ L.d = d ∧ CS w W K L s t ks
variable {w W : World} {c d : Nat} {s : CSt} {t : St} {ks : List (Nat × Obj)} {K : KLoc} {L : Loc}
theorem CS.goes {W' : World} {K' : KLoc} {L' : Loc} {s' : CSt} {t' : St} (h : CS w W K L s t ks) (hD : CD W' K' L' s' t') (hG : GoesC W W' K L K' L') : CS w W' K' L' s' t' ks := by
  have hsz := h.below.size
  refine ⟨hD, fun k hk => ?_, fun k hk => ?_, h.below.trans (hG.fr.below (fun i q => q.elim (h.newK i) (h.newL i)) hsz), fun p hp => ?_⟩
  · rcases hG.ownK k hk with q | q
    · exact h.newK k q
    · omega
  · rcases hG.ownL k hk with q | q
    · exact h.newL k q
    · omega
  · obtain ⟨h1, h2, h3⟩ := h.keep p hp
    have hlt := (Array.getElem?_eq_some_iff.1 h1).1
    refine ⟨(hG.fr.block p.1 hlt fun q => q.elim h2 h3).trans h1, fun q => ?_, fun q => ?_⟩
    · rcases hG.ownK p.1 q with q | q
      · exact h2 q
      · omega
    · rcases hG.ownL p.1 q with q | q
      · exact h3 q
      · omega
theorem Sit.goes {W' : World} {K' : KLoc} {L' : Loc} {s' : CSt} {t' : St} (hc : K.c = c) (hd : L.d = d) (h : CS w W K L s t ks) (hD : CD W' K' L' s' t') (hG : GoesC W W' K L K' L') : Sit w W' c d s' t' ks := ⟨K', L', hG.c.trans hc, hG.d.trans hd, h.goes hD hG⟩
theorem Sit.later {W' : World} (h : Sit w W c d s t ks) (hb : Below W.heap.size W W') : Sit w W' c d s t ks := by
  obtain ⟨K, L, hc, hd, h⟩ := h
  exact Sit.goes hc hd h (h.cd.later hb) (GoesC.ofBelow K L hb)
theorem Sit.drew (h : Sit w W c d s t ks) : Sit w W.drew c d s t ks := h.later ⟨rfl, rfl, rfl, Nat.le_refl _, fun _ _ => rfl⟩
theorem Sit.add (h : Sit w W c d s t ks) (o : Obj) : Sit w (W.alloc o) c d s t ((W.heap.size, o) :: ks) := by
  obtain ⟨K, L, hc, hd, h⟩ := h
  have h2 := h.goes (h.cd.later (below_new W o)) (GoesC.ofBelow K L (below_new W o))
  refine ⟨K, L, hc, hd, h2.cd, h2.newK, h2.newL, h2.below, fun p hp => ?_⟩
  rcases List.mem_cons.1 hp with rfl | hp
  · exact ⟨heap_alloc_new W o, fun q => by have := h.cd.cache.lt _ q; simp only at this; omega, fun q => by have := h.cd.disk.lt _ q; simp only at this; omega⟩
  · exact h2.keep p hp
theorem Sit.blk (h : Sit w W c d s t ks) {g : Nat} {o : Obj} (hm : (g, o) ∈ ks) : W.heap[g]? = some o := by
  obtain ⟨K, L, hc, hd, h⟩ := h
  exact (h.keep _ hm).1
theorem Sit.below (h : Sit w W c d s t ks) : Below w.heap.size w W := by
  obtain ⟨K, L, hc, hd, h⟩ := h
  exact h.below
theorem Sit.ok (h : Sit w W c d s t ks) : COk s ∧ Ok t := by
  obtain ⟨K, L, hc, hd, h⟩ := h
  exact ⟨h.cd.cache.ok, h.cd.disk.ok⟩
theorem Sit.drop (h : Sit w W c d s t ks) {ks' : List (Nat × Obj)} (hs : ∀ p ∈ ks', p ∈ ks) : Sit w W c d s t ks' := by
  obtain ⟨K, L, hc, hd, h⟩ := h
  exact ⟨K, L, hc, hd, h.cd, h.newK, h.newL, h.below, fun p hp => h.keep p (hs p hp)⟩
/-- A cache of a disk. -/
theorem sit_new {n : Int} (h : Sits w W d t ks) (hs : 1 ≤ n ∧ n ≤ 4096) :
    Calls Tryz.prog 51 #[ptr d, .int .i64 n] W fun e W' => ∃ c, e = .returned (.tuple #[ptr c, .int .i64 0]) ∧ Sit w W' c d (newC n) t ks := by
  obtain ⟨L, rfl, h⟩ := h
  refine (newC_ok h.disk hs).mono ?_
  rintro e W' ⟨rfl, h1, h2⟩
  have hsz := h.below.size
  refine ⟨_, rfl, newK W L.d, L, rfl, rfl, ⟨h1, h.disk.later h2, rfl, ?_⟩, ?_, h.new, below_next h.below h2, fun p hp => ?_⟩
  · rintro k hk hl
    have := h.disk.lt k hl
    rcases hk with q | q | q | q
    · simp only [newK] at q; omega
    · simp only [newK] at q; omega
    · simp only [newK] at q; omega
    · simp [newK] at q
  · rintro k (q | q | q | q)
    · simp only [newK] at q; omega
    · simp only [newK] at q; omega
    · simp only [newK] at q; omega
    · simp [newK] at q
  · obtain ⟨a1, a2⟩ := h.keep p hp
    have hlt := (Array.getElem?_eq_some_iff.1 a1).1
    refine ⟨heap_kept a1 h2, ?_, a2⟩
    rintro (q | q | q | q)
    · simp only [newK] at q; omega
    · simp only [newK] at q; omega
    · simp only [newK] at q; omega
    · simp [newK] at q
theorem sit_read (h : Sit w W c d s t ks) (hr : Room t) (k : Int) : Calls Tryz.prog 105 #[ptr c, .int .i64 k] W fun e W' => e = .returned (.tuple #[.agg (blk (rdB s t k)), .int .i64 (usedE s t k)]) ∧ Sit w W' c d (rdC s t k) (rdD s t k) ks := by
  obtain ⟨K, L, rfl, rfl, h⟩ := h
  exact (readC_of h.cd hr k).mono fun e W' ⟨h1, K', L', h2, h3⟩ => ⟨h1, Sit.goes rfl rfl h h2 h3⟩
theorem sit_put (h : Sit w W c d s t ks) (k : Int) {f : Nat → Int} (hf : Can f) : Calls Tryz.prog 67 #[ptr c, .int .i64 k, .agg (Go.Proofs.YtkcgbhagjkhcmaaGreatW.blk f)] W fun e W' => e = .returned (.int .i64 (usedE s t k)) ∧ Sit w W' c d (putC s t k f) t ks := by
  obtain ⟨K, L, rfl, rfl, h⟩ := h
  exact (putC_of h.cd k hf).mono fun e W' ⟨h1, K', L', h2, h3⟩ => ⟨h1, Sit.goes rfl rfl h h2 h3⟩
end Go.Proofs.YtkcgbhagjkhcmaaGreatW
/- The plain side of a log: what its cache holds and what the disk has, told by a book; what reads, puts, flushes, writes and barriers make of it; no condition. -/
namespace Go.Proofs.YtkcgbhagjkhcmaaGreatW
open Go.RowKit Go.Maps

/-- A block of the layout that is none of the log's own. -/
def Dat (b l k : Int) : Prop := (0 ≤ k ∧ k < b) ∧ ¬ (1 ≤ k ∧ k < 1 + l)
/-- The book agrees with the cache and the disk; F: what is held fast. -/
structure CInv (b l : Int) (s : CSt) (t : St) (book : Int → Nat → Int) (F : Int → Bool) : Prop where
  n : b ≤ t.n
  ok : COk s
  size : s.size = l
  row : ∀ h ∈ s.row, Dat b l h.pos ∧ h.dat = book h.pos ∧ h.fast = F h.pos
  held : ∀ k, F k = true → ∃ h ∈ s.row, h.pos = k
  same : ∀ k, Dat b l k → F k = false → book k = curV t k
variable {b l : Int} {s : CSt} {t : St} {book : Int → Nat → Int} {F : Int → Bool} {k : Int}
theorem CInv.ref (h : CInv b l s t book F) (hs : t.stopped = false) (hk : Dat b l k) : refV t k = 0 := by
  have := h.n
  obtain ⟨⟨h1, h2⟩, _⟩ := hk
  unfold refV
  rw [hs, if_neg (by simp), if_pos ⟨h1, by omega⟩]
theorem atR_mem {r : List Hld} {x : Hld} (h : atR r k = some x) : x ∈ r ∧ x.pos = k := ⟨List.mem_of_find?_eq_some h, by have := List.find?_some h; simpa using this⟩
theorem atR_not {r : List Hld} (h : atR r k = none) : ∀ x ∈ r, x.pos ≠ k := fun x hx e => by
  have := List.find?_eq_none.1 h x hx
  exact this (by simp [e])
theorem CInv.used (h : CInv b l s t book F) (hs : t.stopped = false) (hk : Dat b l k) (hf : (fastN s.row : Int) < l) : usedE s t k = 0 := by
  unfold usedE
  have := h.size
  rw [h.ref hs hk, if_neg (by simp), if_neg fun q => by have := q.2; omega]
theorem CInv.notHeld (h : CInv b l s t book F) (ha : atR s.row k = none) : F k = false := by
  cases hq : F k
  · rfl
  · obtain ⟨x, hx, e⟩ := h.held k hq
    exact absurd e (atR_not ha x hx)
theorem CInv.reads (h : CInv b l s t book F) (hk : Dat b l k) (hu : usedE s t k = 0) : rdB s t k = book k := by
  unfold rdB
  rw [if_pos hu]
  cases ha : atR s.row k with
  | some x =>
    obtain ⟨hx, e⟩ := atR_mem ha
    simp only
    rw [(h.row x hx).2.1, e]
  | none =>
    simp only
    exact (h.same k hk (h.notHeld ha)).symm
theorem mem_gone {r : List Hld} {x : Hld} (hx : x ∈ r) (hn : x.pos ≠ k) : x ∈ goneR r k := List.mem_eraseP_of_neg (by simp [hn]) |>.2 hx
theorem fast_gone {r : List Hld} {x : Hld} (h : atR r k = some x) : fastN r = fastN (goneR r k) + (if x.fast then 1 else 0) := by
  induction r with
  | nil => simp [atR] at h
  | cons a l ih =>
    unfold atR at h
    rw [List.find?_cons] at h
    cases hp : a.pos == k with
    | true =>
      rw [hp] at h
      injection h with h
      subst h
      unfold goneR fastN
      rw [List.eraseP_cons_of_pos (by exact hp), List.countP_cons]
    | false =>
      rw [hp] at h
      have := ih h
      unfold goneR fastN at this ⊢
      rw [List.eraseP_cons_of_neg (by simp [hp]), List.countP_cons, List.countP_cons]
      omega
theorem fast_erase : ∀ r : List Hld, fastN (r.eraseP (fun h => !h.fast)) = fastN r
  | [] => rfl
  | a :: l => by
    have ih := fast_erase l
    unfold fastN at ih ⊢
    cases ha : a.fast
    · rw [List.eraseP_cons_of_pos (by simp [ha]), List.countP_cons]
      simp [ha]
    · rw [List.eraseP_cons_of_neg (by simp [ha]), List.countP_cons, List.countP_cons]
      omega
theorem fast_place (n : Int) (r : List Hld) : fastN (placeR n r) = fastN r := by
  unfold placeR
  split
  · rfl
  · exact fast_erase r
theorem place_keeps {n : Int} {r : List Hld} {x : Hld} (hx : x ∈ r) (hf : x.fast = true) : x ∈ placeR n r := by
  unfold placeR
  split
  · exact hx
  · exact (List.mem_eraseP_of_neg (by simp [hf])).2 hx
theorem mem_place {n : Int} {r : List Hld} {x : Hld} (hx : x ∈ placeR n r) : x ∈ r := (placeR_sub n r).subset hx
theorem gone_mem {r : List Hld} {x : Hld} (hx : x ∈ goneR r k) : x ∈ r := List.eraseP_subset hx
/-- A read that is answered. -/
theorem CInv.read (h : CInv b l s t book F) (hk : Dat b l k) (hu : usedE s t k = 0) (hok : COk (rdC s t k)) : CInv b l (rdC s t k) (rdD s t k) book F ∧ fastN (rdC s t k).row = fastN s.row ∧ (F k = true → rdD s t k = t) ∧ (rdD s t k = t ∨ rdD s t k = readS t) := by
  have hD : b ≤ (rdD s t k).n ∧ curV (rdD s t k) = curV t ∧ (F k = true → rdD s t k = t) ∧ (rdD s t k = t ∨ rdD s t k = readS t) := by
    unfold rdD
    rw [if_pos hu]
    cases ha : atR s.row k with
    | some x => exact ⟨h.n, rfl, fun _ => rfl, .inl rfl⟩
    | none => exact ⟨h.n, rfl, fun hF => (by rw [h.notHeld ha] at hF; cases hF), .inr rfl⟩
  refine ⟨?_, ?_, hD.2.2⟩
  · unfold rdC at hok ⊢
    rw [if_pos hu] at hok ⊢
    cases ha : atR s.row k with
    | some x =>
      rw [ha] at hok
      simp only at hok ⊢
      obtain ⟨hx, e⟩ := atR_mem ha
      refine ⟨hD.1, hok, h.size, fun y hy => ?_, fun j hf => ?_, fun j hj hf => by rw [hD.2.1]; exact h.same j hj hf⟩
      · rcases List.mem_append.1 hy with hy | hy
        · exact h.row y (gone_mem hy)
        · obtain rfl : y = x := by simpa using hy
          exact h.row y hx
      · obtain ⟨y, hy, ey⟩ := h.held j hf
        by_cases hjk : y.pos = k
        · exact ⟨x, by simp, by rw [e, ← hjk, ey]⟩
        · exact ⟨y, List.mem_append.2 (.inl (mem_gone hy hjk)), ey⟩
    | none =>
      rw [ha] at hok
      simp only at hok ⊢
      have hn := h.notHeld ha
      refine ⟨hD.1, hok, h.size, fun y hy => ?_, fun j hf => ?_, fun j hj hf => by rw [hD.2.1]; exact h.same j hj hf⟩
      · rcases List.mem_append.1 hy with hy | hy
        · exact h.row y (mem_place hy)
        · obtain rfl : y = ⟨k, false, curV t k⟩ := by simpa using hy
          exact ⟨hk, (h.same k hk hn).symm, hn.symm⟩
      · obtain ⟨y, hy, ey⟩ := h.held j hf
        have hyf : y.fast = true := by rw [(h.row y hy).2.2, ey]; exact hf
        exact ⟨y, List.mem_append.2 (.inl (place_keeps hy hyf)), ey⟩
  · unfold rdC
    rw [if_pos hu]
    cases ha : atR s.row k with
    | some x =>
      have := fast_gone ha
      unfold fastN at this ⊢
      simp only
      rw [List.countP_append, this]
      simp
    | none =>
      have := fast_place s.size s.row
      unfold fastN at this ⊢
      simp only
      rw [List.countP_append, this]
      simp
/-- A put that is answered. -/
theorem CInv.put (h : CInv b l s t book F) (hk : Dat b l k) (hu : usedE s t k = 0) (f : Nat → Int) (hok : COk (putC s t k f)) :
    CInv b l (putC s t k f) t (fun j => if j = k then f else book j) (fun j => if j = k then true else F j) ∧ (fastN (putC s t k f).row : Int) = fastN s.row + (if F k then 0 else 1) := by
  unfold putC at hok ⊢
  rw [if_pos hu] at hok ⊢
  have hsame : ∀ j, Dat b l j → (if j = k then true else F j) = false → (if j = k then f else book j) = curV t j := by
    intro j hj hf
    by_cases e : j = k
    · rw [if_pos e] at hf; cases hf
    · rw [if_neg e] at hf ⊢
      exact h.same j hj hf
  have hnew : ∀ y : Hld, y ∈ s.row → y.pos ≠ k → Dat b l y.pos ∧ y.dat = (if y.pos = k then f else book y.pos) ∧ y.fast = (if y.pos = k then true else F y.pos) := by
    intro y hy hne
    rw [if_neg hne, if_neg hne]
    exact h.row y hy
  unfold useP at hok ⊢
  cases ha : atR s.row k with
  | some z =>
    rw [ha] at hok
    simp only at hok ⊢
    obtain ⟨hz, e⟩ := atR_mem ha
    have hzf : z.fast = F k := by rw [(h.row z hz).2.2, e]
    have hgn : ∀ y ∈ goneR s.row k, y.pos ≠ k := by
      intro y hy hyk
      have hnd := h.ok.nodup
      obtain ⟨l1, l2, h1, h2⟩ : ∃ l1 l2, s.row = l1 ++ z :: l2 ∧ goneR s.row k = l1 ++ l2 := by
        obtain ⟨a, l1, l2, a1, a2, a3, a4⟩ := List.exists_of_eraseP hz (p := fun h => h.pos == k) (by simp [e])
        have haz : a = z := by
          have hm : a ∈ s.row := by rw [a3]; simp
          exact nodup_map_inj s.row hnd a z hm hz (by have : a.pos = k := by simpa using a2
                                                      rw [this, e])
        subst haz
        exact ⟨l1, l2, a3, a4⟩
      rw [h2] at hy
      rw [h1] at hnd
      have h4 := ((List.perm_middle.map (fun x : Hld => x.pos)).nodup_iff).1 hnd
      rw [List.map_cons, List.nodup_cons] at h4
      exact h4.1 (List.mem_map.2 ⟨y, hy, by rw [hyk, e]⟩)
    refine ⟨⟨h.n, hok, h.size, fun y hy => ?_, fun j hf => ?_, hsame⟩, ?_⟩
    · rcases List.mem_append.1 hy with hy | hy
      · exact hnew y (gone_mem hy) (hgn y hy)
      · obtain rfl : y = ⟨k, true, f⟩ := by simpa using hy
        exact ⟨hk, by simp, by simp⟩
    · by_cases ej : j = k
      · exact ⟨⟨k, true, f⟩, by simp, ej.symm⟩
      · rw [if_neg ej] at hf
        obtain ⟨y, hy, ey⟩ := h.held j hf
        exact ⟨y, List.mem_append.2 (.inl (mem_gone hy (by rw [ey]; exact ej))), ey⟩
    · have := fast_gone ha
      rw [hzf] at this
      unfold fastN at this ⊢
      rw [List.countP_append, this]
      cases F k <;> simp
  | none =>
    rw [ha] at hok
    simp only at hok ⊢
    have hno := atR_not ha
    have hn := h.notHeld ha
    refine ⟨⟨h.n, hok, h.size, fun y hy => ?_, fun j hf => ?_, hsame⟩, ?_⟩
    · rcases List.mem_append.1 hy with hy | hy
      · exact hnew y (mem_place hy) (hno y (mem_place hy))
      · obtain rfl : y = ⟨k, true, f⟩ := by simpa using hy
        exact ⟨hk, by simp, by simp⟩
    · by_cases ej : j = k
      · exact ⟨⟨k, true, f⟩, by simp, ej.symm⟩
      · rw [if_neg ej] at hf
        obtain ⟨y, hy, ey⟩ := h.held j hf
        have hyf : y.fast = true := by rw [(h.row y hy).2.2, ey]; exact hf
        exact ⟨y, List.mem_append.2 (.inl (place_keeps hy hyf)), ey⟩
    · have := fast_place s.size s.row
      unfold fastN at this ⊢
      rw [List.countP_append, this, hn]
      simp
theorem CInv.new (t : St) (hb : b ≤ t.n) (hl : 1 ≤ l ∧ l ≤ 4096) : CInv b l (newC l) t (curV t) (fun _ => false) := by
  refine ⟨hb, ⟨hl, ?_, fun h hh => ?_, ?_⟩, rfl, fun h hh => ?_, fun k hk => (by cases hk), fun _ _ _ => rfl⟩
  · show (([] : List Hld).length : Int) ≤ l
    simp; omega
  · simp [newC] at hh
  · simp [newC]
  · simp [newC] at hh
end Go.Proofs.YtkcgbhagjkhcmaaGreatW

/- Numbers of some bytes, the lowest first: read and laid, as plain functions; the bytes are 0 to 255. -/
namespace Go.Proofs.YtkcgbhagjkhcmaaGreatW.H
open Go.RowKit

/-- The number of m bytes from place k on. -/
def numN (f : Nat → Int) (k : Nat) : Nat → Int
  | 0 => 0
  | m + 1 => f k + 256 * numN f (k + 1) m
/-- The number of n bytes from at on, if all are inside. -/
def num (f : Nat → Int) (at' : Int) (n : Nat) : Int := if 0 ≤ at' ∧ at' ≤ 1024 - (n : Int) then numN f at'.toNat n else 0
/-- f with m bytes of v laid from place k on. -/
def putN (f : Nat → Int) (k : Nat) (v : Int) : Nat → Nat → Int
  | 0 => f
  | m + 1 => putN (upd f k (v % 256)) (k + 1) (v / 256) m
def put (f : Nat → Int) (at' : Int) (n : Nat) (v : Int) : Nat → Int := if 0 ≤ at' ∧ at' ≤ 1024 - (n : Int) then putN f at'.toNat v n else f

theorem numN_bd (f : Nat → Int) (hf : ∀ i, 0 ≤ f i ∧ f i ≤ 255) : ∀ (m k : Nat), 0 ≤ numN f k m ∧ numN f k m < 256 ^ m
  | 0, _ => by simp [numN]
  | m + 1, k => by
    have h1 := numN_bd f hf m (k + 1)
    have h2 := hf k
    simp only [numN, Int.pow_succ]
    omega
theorem num4 (f : Nat → Int) (k : Nat) : numN f k 4 = f k + 256 * f (k + 1) + 65536 * f (k + 2) + 16777216 * f (k + 3) := by
  simp only [numN, Nat.add_assoc, Nat.reduceAdd]; omega
theorem num_in (f : Nat → Int) (k n : Nat) (h : k + n ≤ 1024) : num f (k : Int) n = numN f k n := by
  unfold num; rw [if_pos (by omega), Int.toNat_natCast]
theorem num_out (f : Nat → Int) (a : Int) (n : Nat) (h : a < 0 ∨ 1024 - (n : Int) < a) : num f a n = 0 := by
  unfold num; rw [if_neg (by omega)]
theorem put_in (f : Nat → Int) (k n : Nat) (v : Int) (h : k + n ≤ 1024) : put f (k : Int) n v = putN f k v n := by
  unfold put; rw [if_pos (by omega), Int.toNat_natCast]
theorem put_out (f : Nat → Int) (a : Int) (n : Nat) (v : Int) (h : a < 0 ∨ 1024 - (n : Int) < a) : put f a n v = f := by
  unfold put; rw [if_neg (by omega)]
theorem put4 (f : Nat → Int) (k : Nat) (v : Int) (hv : 0 ≤ v ∧ v < 4294967296) : putN f k v 4 = upd (upd (upd (upd f k (v % 256)) (k + 1) (v / 256 % 256)) (k + 2) (v / 65536 % 256)) (k + 3) (v / 16777216) := by
  simp only [putN, Nat.add_assoc, Nat.reduceAdd]
  rw [show v / 256 / 256 % 256 = v / 65536 % 256 by omega, show v / 256 / 256 / 256 % 256 = v / 16777216 by omega]
theorem wrap_u32 (n : Int) : IntKind.u32.wrap n = n % 4294967296 := by simp [IntKind.wrap, IntKind.bits, IntKind.signed]

theorem or_comm' (k : IntKind) (x y : Int) : bits .or k x y = bits .or k y x := by simp only [bits, BitVec.or_comm]
theorem or32 (i : Nat) (x y : Int) (hx0 : 0 ≤ x) (hx : x % 2 ^ i = 0) (hx1 : x < 2 ^ 32) (hy0 : 0 ≤ y) (hy : y < 2 ^ i) (hy1 : y < 2 ^ 32) : bits .or .u32 y x = y + x := by
  rw [or_comm', bits_join .u32 32 (by decide) (fun n h0 h1 => by rw [wrap_u32]; omega) i x y hx0 hx hx1 hy0 hy hy1]
  omega
theorem or32all (a b c d : Int) (ha : 0 ≤ a ∧ a ≤ 255) (hb : 0 ≤ b ∧ b ≤ 255) (hc : 0 ≤ c ∧ c ≤ 255) (hd : 0 ≤ d ∧ d ≤ 255) :
    bits .or .u32 (bits .or .u32 (bits .or .u32 (IntKind.u32.wrap a) (IntKind.u32.wrap (IntKind.u32.wrap b * 256))) (IntKind.u32.wrap (IntKind.u32.wrap c * 65536))) (IntKind.u32.wrap (IntKind.u32.wrap d * 16777216)) = a + 256 * b + 65536 * c + 16777216 * d := by
  simp only [wrap_u32]
  have h1 : a % 4294967296 = a := by omega
  have h2 : b % 4294967296 * 256 % 4294967296 = 256 * b := by omega
  have h3 : c % 4294967296 * 65536 % 4294967296 = 65536 * c := by omega
  have h4 : d % 4294967296 * 16777216 % 4294967296 = 16777216 * d := by omega
  rw [h1, h2, h3, h4, or32 8 (256 * b) a (by omega) (by omega) (by omega) (by omega) (by omega) (by omega),
    or32 16 (65536 * c) (a + 256 * b) (by omega) (by omega) (by omega) (by omega) (by omega) (by omega),
    or32 24 (16777216 * d) (a + 256 * b + 65536 * c) (by omega) (by omega) (by omega) (by omega) (by omega) (by omega)]
end Go.Proofs.YtkcgbhagjkhcmaaGreatW.H
/- The law's own function block: a block that begins with the bytes of a slice; its bytes lie in memory below. -/
namespace Go.Proofs.YtkcgbhagjkhcmaaGreatW.H
open Go.RowKit
set_option maxHeartbeats 400000 in
theorem fits_any (a n : Int) (w : World) (hn : 0 ≤ n ∧ n ≤ 1024) :
    Calls Tryz.prog 148 #[.int .i64 a, .int .i64 n] w fun e w' => e = .returned (.bool (decide (0 ≤ a ∧ a ≤ 1024 - n))) ∧ w' = w := by
  by_cases h0 : 0 ≤ a
  · by_cases h1 : a ≤ 1024 - n
    · go_enter Tryz.func148, Tryz.ntmps148
      go_wp2
      go_ret
      exact ⟨by simp [h0, h1], rfl⟩
    · go_enter Tryz.func148, Tryz.ntmps148
      go_wp2
      go_ret
      exact ⟨by simp [h1], rfl⟩
  · go_enter Tryz.func148, Tryz.ntmps148
    go_wp2
    go_ret
    exact ⟨by simp; omega, rfl⟩

theorem fits_yes (a n : Int) (w : World) (hn : 0 ≤ n ∧ n ≤ 1024) (h : 0 ≤ a ∧ a ≤ 1024 - n) :
    Calls Tryz.prog 148 #[.int .i64 a, .int .i64 n] w fun e w' => e = .returned (.bool true) ∧ w' = w := by
  have := fits_any a n w hn
  rwa [decide_eq_true h] at this
theorem fits_no (a n : Int) (w : World) (hn : 0 ≤ n ∧ n ≤ 1024) (h : ¬ (0 ≤ a ∧ a ≤ 1024 - n)) :
    Calls Tryz.prog 148 #[.int .i64 a, .int .i64 n] w fun e w' => e = .returned (.bool false) ∧ w' = w := by
  have := fits_any a n w hn
  rwa [decide_eq_false h] at this


end Go.Proofs.YtkcgbhagjkhcmaaGreatW.H
/- U16 and U32 of slab: the number of the bytes at a place, or nought; for every block of bytes and every place. -/
namespace Go.Proofs.YtkcgbhagjkhcmaaGreatW.H
open Go.RowKit

theorem ret_int {k : IntKind} {a b : Int} (h : a = b) : Ending.returned (.int k a) = .returned (.int k b) := by rw [h]

set_option maxRecDepth 20000 in
set_option maxHeartbeats 400000 in
theorem u32_in (f : Nat → Int) (k : Nat) (w : World) (hk : (k : Int) ≤ 1020) (hf : ∀ i, 0 ≤ f i ∧ f i ≤ 255) :
    Calls Tryz.prog 136 #[.agg (blk f), .int .i64 k] w fun e w' => e = .returned (.int .u32 (f k + 256 * f (k + 1) + 65536 * f (k + 2) + 16777216 * f (k + 3))) ∧ Below w.heap.size w w' := by
  have hb0 := blk_get f k (by omega)
  have hb1 := blk_get f (k + 1) (by omega)
  have hb2 := blk_get f (k + 2) (by omega)
  have hb3 := blk_get f (k + 3) (by omega)
  go_enter Tryz.func136, Tryz.ntmps136
  go_wp2
  go_quiet (fail)
  go_wp2
  go_ret
  exact ⟨ret_int (or32all _ _ _ _ (hf k) (hf (k + 1)) (hf (k + 2)) (hf (k + 3))), below_drewN ((Below.refl _ _).alloc (Nat.le_refl _) _) _⟩
set_option maxRecDepth 20000 in
set_option maxHeartbeats 400000 in
theorem u32_out (f : Nat → Int) (k : Int) (w : World) (hk : k < 0 ∨ 1020 < k) :
    Calls Tryz.prog 136 #[.agg (blk f), .int .i64 k] w fun e w' => e = .returned (.int .u32 0) ∧ Below w.heap.size w w' := by
  rcases hk with hk | hk
  · have hk' : ¬ (0 ≤ k) := by omega
    go_enter Tryz.func136, Tryz.ntmps136
    go_wp2
    go_ret
    exact ⟨rfl, (Below.refl _ _).alloc (Nat.le_refl _) _⟩
  · have hk' : ¬ (k ≤ 1020) := by omega
    have hk0 : 0 ≤ k := by omega
    go_enter Tryz.func136, Tryz.ntmps136
    go_wp2
    go_ret
    exact ⟨rfl, (Below.refl _ _).alloc (Nat.le_refl _) _⟩
theorem u32_any (f : Nat → Int) (k : Int) (w : World) (hf : ∀ i, 0 ≤ f i ∧ f i ≤ 255) :
    Calls Tryz.prog 136 #[.agg (blk f), .int .i64 k] w fun e w' => e = .returned (.int .u32 (num f k 4)) ∧ Below w.heap.size w w' := by
  by_cases h : k < 0 ∨ 1020 < k
  · rw [num_out f k 4 (by omega)]; exact u32_out f k w h
  · obtain ⟨m, rfl⟩ := Int.eq_ofNat_of_zero_le (show 0 ≤ k by omega)
    rw [num_in f m 4 (by omega), num4]; exact u32_in f m w (by omega) hf

end Go.Proofs.YtkcgbhagjkhcmaaGreatW.H
/- SetU16 and SetU32 of slab: the block in which a number is laid; for every block, place and number. -/
namespace Go.Proofs.YtkcgbhagjkhcmaaGreatW.H
open Go.RowKit

theorem ret_blk {f g : Nat → Int} (h : f = g) : Ending.returned (.agg (blk f)) = .returned (.agg (blk g)) := by rw [h]
set_option maxRecDepth 20000 in
set_option maxHeartbeats 400000 in
theorem set32_in (f : Nat → Int) (k : Nat) (v : Int) (w : World) (hk : (k : Int) ≤ 1020) (hv : 0 ≤ v ∧ v < 4294967296) :
    Calls Tryz.prog 103 #[.agg (blk f), .int .i64 k, .int .u32 v] w fun e w' => e = .returned (.agg (blk (putN f k v 4))) ∧ Below w.heap.size w w' := by
  have z25 := zero25
  have hb0 := fun g => blk_get g (k) (by omega)
  have hb1 := fun g => blk_get g (k + 1) (by omega)
  have hb2 := fun g => blk_get g (k + 2) (by omega)
  have hb3 := fun g => blk_get g (k + 3) (by omega)
  have hset := blk_set
  go_enter Tryz.func103, Tryz.ntmps103
  go_wp2_with (first | (go_at_call 148; refine (fits_yes _ _ _ (by omega) (by omega)).mono ?_; rintro e w' ⟨rfl, rfl⟩) | refine wpList_load25 rfl _ rfl _ rfl _ (heap_alloc2_old _ _ _) ?_ | refine wpList_store25 rfl _ _ rfl _ _ rfl rfl _ (heap_alloc2_new _ _ _) ?_)
  exact ret25 rfl (w.heap.size + 1) _ rfl (setRow_heap _ _ _ _ _ _ (heap_alloc2_new _ _ _)) rfl ⟨ret_blk (put4 f k v hv).symm, below2 _ _ _ _ (by omega) _⟩
set_option maxRecDepth 20000 in
set_option maxHeartbeats 400000 in
theorem set32_out (f : Nat → Int) (k : Int) (v : Int) (w : World) (hk : ¬ (0 ≤ k ∧ k ≤ 1024 - 4)) :
    Calls Tryz.prog 103 #[.agg (blk f), .int .i64 k, .int .u32 v] w fun e w' => e = .returned (.agg (blk f)) ∧ Below w.heap.size w w' := by
  have z25 := zero25
  have HK : Hid (¬ (0 ≤ k ∧ k ≤ 1024 - 4)) := hk
  clear hk
  go_enter Tryz.func103, Tryz.ntmps103
  go_wp2_with (first | (go_at_call 148; refine (fits_no _ _ _ (by omega) HK.out).mono ?_; rintro e w' ⟨rfl, rfl⟩) | refine wpList_load25 rfl _ rfl _ rfl _ (heap_alloc2_old _ _ _) ?_ | refine wpList_store25 rfl _ _ rfl _ _ rfl rfl _ (heap_alloc2_new _ _ _) ?_)
  exact ret25 rfl (w.heap.size + 1) _ rfl (setRow_heap _ _ _ _ _ _ (heap_alloc2_new _ _ _)) rfl ⟨rfl, below2 _ _ _ _ (by omega) _⟩
theorem set32_any (f : Nat → Int) (k : Int) (v : Int) (w : World) (hv : 0 ≤ v ∧ v < 4294967296) :
    Calls Tryz.prog 103 #[.agg (blk f), .int .i64 k, .int .u32 v] w fun e w' => e = .returned (.agg (blk (put f k 4 v))) ∧ Below w.heap.size w w' := by
  by_cases h : 0 ≤ k ∧ k ≤ 1024 - 4
  · obtain ⟨m, rfl⟩ := Int.eq_ofNat_of_zero_le h.1
    rw [put_in f m 4 v (by omega)]; exact set32_in f m v w (by omega) hv
  · rw [put_out f k 4 v (by omega)]; exact set32_out f k v w h
end Go.Proofs.YtkcgbhagjkhcmaaGreatW.H
