import Derived.Test.YtglcliokhlafoaaUsed
import Derived.Test.YtglcliokhlafoaaBase
/- Read of a cache, in one form; no condition but that numbers do not pass their greatest. -/
namespace Go.Proofs.Ytglcliokhlafoaa
open Go.RowKit Go.Maps
variable {w : World} {K : KLoc} {L : Loc} {s : CSt} {t : St}

def rdB (s : CSt) (t : St) (k : Int) : Nat → Int := if usedE s t k = 0 then (match atR s.row k with | some h => h.dat | none => curV t k) else nought
def rdC (s : CSt) (t : St) (k : Int) : CSt := if usedE s t k = 0 then (match atR s.row k with | some h => { s with row := goneR s.row k ++ [h] } | none => { s with row := placeR s.size s.row ++ [⟨k, false, curV t k⟩] }) else s
def rdD (s : CSt) (t : St) (k : Int) : St := if usedE s t k = 0 then (match atR s.row k with | some _ => t | none => readS t) else t
theorem curV_can (ok : Ok t) (k : Int) : Can (curV t k) := by
  cases hl : lastAt t.wait k with
  | some i =>
    obtain ⟨c, hc, _⟩ := lastAt_spec k _ i hl
    rw [curV_wait hl hc]
    exact (ok.wait c (List.mem_of_getElem? hc)).2
  | none =>
    rw [curV_held hl]
    cases hh : t.held k with
    | some f => exact (ok.held k f hh).2.1
    | none => exact can_nought
theorem used_ref {k : Int} (hu : usedE s t k = 0) : refV t k = 0 := by
  apply Classical.byContradiction
  intro hb
  unfold usedE at hu
  rw [if_pos hb] at hu
  exact hb hu
theorem map_snoc {f : Nat → Hld} {l : List Nat} {g : Nat} {r : List Hld} {x : Hld} (h : r ++ [x] = (l ++ [g]).map f) : r = l.map f ∧ x = f g := by
  rw [List.map_append] at h
  exact List.append_inj' h rfl |>.imp id (fun q => by simpa using q)
/-- The last one's bytes are stored. -/
theorem CD.bytesLast {sz : Int} {r : List Hld} {x : Hld} (h : CD w K L ⟨sz, r ++ [x]⟩ t) {l : List Nat} {g : Nat} (hns : K.ns = l ++ [g]) {f : Nat → Int} (hf : Can f) :
    ∃ K', CD (w.setCells g 4 (blk f).toList) K' L ⟨sz, r ++ [⟨x.pos, x.fast, f⟩]⟩ t ∧ GoesC w (w.setCells g 4 (blk f).toList) K L K' L ∧ K'.ns = K.ns ∧ K'.c = K.c ∧ hld K'.M g = ⟨x.pos, x.fast, f⟩ := by
  have h1 := h.cache.holds
  rw [hns] at h1
  obtain ⟨rfl, rfl⟩ := map_snoc h1
  obtain ⟨a1, a2⟩ := h.cache.bytes (p := l) (q := []) (g := g) hns hf
  have hgm : K.has g := .inr (.inr (.inr (by rw [hns]; simp)))
  obtain ⟨b1, b2⟩ := h.caches a1 rfl rfl (fun _ q => .inl q) (a2.mono fun i _ q => by rw [q]; exact hgm)
  refine ⟨_, b1, b2, rfl, rfl, ?_⟩
  show hld (setM K.M g _) g = _
  unfold hld
  rw [setM_same]
/-- A holding of the row, as cells. -/
theorem CD.node {g : Nat} {x : Hld} (h : CD w K L s t) (hg : g ∈ K.ns) (hx : hld K.M g = x) : ∃ p q, RowAt w g x.pos x.fast p q x.dat := by
  subst hx
  exact ⟨_, _, h.cache.nodes g (.inr hg)⟩
/-- A block that is new stays out of it. -/
theorem GoesC.out {a b c : World} {K' : KLoc} {L' : Loc} (h : GoesC a b K L K' L') {g : Nat} (hg : a.heap.size ≤ g) (hf : Fr (fun i => i = g) b c) : GoesC a c K L K' L' :=
  ⟨h.c, h.d, h.ownK, h.ownL, h.fr.trans hf fun i hi q => by omega⟩
/-- What a use of the last answers, with a block that was new ahead of it. -/
theorem CD.setRow {g : Nat} (h : CD w K L s t) (hK : ¬ K.has g) (hL : ¬ L.has g) (cs : Array Value) : CD (w.setRow g cs) K L s t := by
  have hf := Fr.setRow w g cs
  exact ⟨h.cache.fr hf fun k hk e => hK (e ▸ hk), h.disk.fr hf fun k hk e => hL (e ▸ hk), h.d, h.apart⟩
set_option maxRecDepth 20000 in
set_option maxHeartbeats 4000000 in
theorem readC_of (h : CD w K L s t) (hr : Room t) (k : Int) : Calls Try.prog 85 #[ptr K.c, .int .i64 k] w fun e w' => e = .returned (.tuple #[.agg (blk (rdB s t k)), .int .i64 (usedE s t k)]) ∧
    ∃ K' L', CD w' K' L' (rdC s t k) (rdD s t k) ∧ GoesC w w' K L K' L' := by
  have hA := h.later (below_new w (.cells (blk nought) 46))
  have hA0 := GoesC.ofBelow K L (below_new w (.cells (blk nought) 46))
  have R0 := heap_alloc_new w (.cells (blk nought) 46)
  have hltK : ∀ i, K.has i → i < w.heap.size := h.cache.lt
  have hltL : ∀ i, L.has i → i < w.heap.size := h.disk.lt
  have hs0 : (w.alloc (.cells (blk nought) 46)).heap.size = w.heap.size + 1 := by simp
  have z25 := zero25
  have hbd := built58
  unfold rdB rdC rdD
  by_cases hu : usedE s t k = 0
  · rw [if_pos hu, if_pos hu, if_pos hu, hu]
    have hb := used_ref hu
    have hU := use_ok hA hu
    cases ha : atR s.row k with
    | some x =>
      have eP : useP s k = (goneR s.row k, x, false) := by unfold useP; rw [ha]
      rw [eP] at hU
      have HF : Hid (∀ W1 K1 g l, K1.ns = l ++ [g] → hld K1.M g = x → CD W1 K1 L { s with row := goneR s.row k ++ [x] } t → GoesC (w.alloc (.cells (blk nought) 46)) W1 K L K1 L →
          BlkAt W1 g 4 x.dat ∧ W1.heap[w.heap.size]? = some (.cells (blk nought) 46) ∧ ∃ K' L', CD (W1.setRow w.heap.size (blk x.dat)) K' L' { s with row := goneR s.row k ++ [x] } t ∧ GoesC w (W1.setRow w.heap.size (blk x.dat)) K L K' L') := by
        intro W1 K1 g l hns hx h1 hG
        obtain ⟨pp, qq, hrow⟩ := h1.node (g := g) (by rw [hns]; simp) hx
        have hnK : ¬ K1.has w.heap.size := fun q => by
          rcases hG.ownK _ q with q | q
          · have := hltK _ q; omega
          · omega
        have hnL : ¬ L.has w.heap.size := fun q => by have := hltL _ q; omega
        refine ⟨hrow.bytes, (hG.fr.block _ (by omega) ?_).trans R0, K1, L, h1.setRow hnK hnL _, ?_⟩
        · rintro (q | q)
          · have := hltK _ q; omega
          · exact hnL q
        · exact (hA0.trans hG).out (Nat.le_refl _) (Fr.setRow _ _ _)
      clear h hA hA0 R0 hltK hltL hs0 hu ha eP hb
      generalize nought = N at *
      have HU : Hid (Calls Try.prog 70 _ _ _) := hU
      clear hU
      unfold ptr
      go_enter Try.func85, Try.ntmps85
      go_wp2_with (go_at_call 70; fail)
      refine HU.out.mono ?_
      rintro e W1 ⟨K1, g, l, rfl, hns, hx, h1, hG⟩
      obtain ⟨hB, hR0, hfin⟩ := HF.out W1 K1 g l hns hx h1 hG
      have HFin : Hid _ := hfin
      clear HU HF hns hx h1 hG hfin
      generalize w.heap.size = g0 at *
      unfold ptr
      go_wp2_with (first | refine wpList_loadM rfl (.tmp 35) rfl g 4 rfl x.dat hB ?_ | refine wpList_store25 rfl (.tmp 4) (.tmp 36) rfl g0 x.dat rfl rfl _ hR0 ?_)
      exact retBT rfl g0 x.dat rfl (setRow_heap _ _ _ _ _ _ hR0) rfl ⟨rfl, HFin.out⟩
    | none =>
      have eP : useP s k = (placeR s.size s.row, ⟨k, false, nought⟩, true) := by unfold useP; rw [ha]
      rw [eP] at hU
      have hcan := curV_can h.disk.ok k
      generalize hF0 : curV t k = f at *
      have HF : Hid (∀ W1 K1 g l, K1.ns = l ++ [g] → CD W1 K1 L { s with row := placeR s.size s.row ++ [⟨k, false, nought⟩] } t → GoesC (w.alloc (.cells (blk nought) 46)) W1 K L K1 L →
          W1.cell? ⟨K.c, 1, none⟩ = some (ptr L.d) ∧ Calls Try.prog 30 #[ptr L.d, .int .i64 k] W1 fun e W2 => e = .returned (.tuple #[.agg (blk f), .int .i64 0]) ∧ W2.there g 4 1024 ∧ BlkAt (W2.setCells g 4 (blk f).toList) g 4 f ∧
          (W2.setCells g 4 (blk f).toList).heap[w.heap.size]? = some (.cells (blk nought) 46) ∧ ∃ K' L', CD ((W2.setCells g 4 (blk f).toList).setRow w.heap.size (blk f)) K' L' { s with row := placeR s.size s.row ++ [⟨k, false, f⟩] } (readS t) ∧
            GoesC w ((W2.setCells g 4 (blk f).toList).setRow w.heap.size (blk f)) K L K' L') := by
        intro W1 K1 g l hns h1 hG
        refine ⟨?_, ?_⟩
        · have := h1.cache.c1
          rw [hG.c, h1.d] at this
          exact this
        · have hrd := read_ok h1.disk hr hb
          rw [hF0] at hrd
          refine hrd.mono ?_
          rintro e W2 ⟨rfl, hD2, hG2⟩
          obtain ⟨b1, b2⟩ := h1.disks hD2 hG2
          obtain ⟨K3, c1, c2, c3, c4, c5⟩ := b1.bytesLast hns hcan
          have hgm : g ∈ K1.ns := by rw [hns]; simp
          have hg1 := b1.cache.nodes g (.inr hgm)
          obtain ⟨pp, qq, hrow3⟩ := c1.node (g := g) (by rw [c3]; exact hgm) c5
          have hG3 := hG.trans (b2.trans c2)
          have hnK : ¬ K3.has w.heap.size := fun q => by
            rcases hG3.ownK _ q with q | q
            · have := hltK _ q; omega
            · omega
          have hnL : ¬ L.has w.heap.size := fun q => by have := hltL _ q; omega
          refine ⟨rfl, hg1.there, hrow3.bytes, (hG3.fr.block _ (by omega) ?_).trans R0, K3, L, c1.setRow hnK hnL _, (hA0.trans hG3).out (Nat.le_refl _) (Fr.setRow _ _ _)⟩
          rintro (q | q)
          · have := hltK _ q; omega
          · exact hnL q
      clear h hA hA0 R0 hltK hltL hs0 hu ha eP hb hF0 hcan hr
      have HU : Hid (Calls Try.prog 70 _ _ _) := hU
      clear hU
      generalize nought = N at *
      unfold ptr
      go_enter Try.func85, Try.ntmps85
      go_wp2_with (go_at_call 70; fail)
      refine HU.out.mono ?_
      rintro e W1 ⟨K1, g, l, rfl, hns, hx, h1, hG⟩
      obtain ⟨d1, hcall⟩ := HF.out W1 K1 g l hns h1 hG
      have HC : Hid (Calls Try.prog 30 _ _ _) := hcall
      clear HU HF hns hx h1 hG hcall
      generalize w.heap.size = g0 at *
      unfold ptr at d1 ⊢
      go_wp2_with (go_at_call 30; fail)
      refine HC.out.mono ?_
      rintro e W2 ⟨rfl, hth, hB, hR0, hfin⟩
      have HFin : Hid _ := hfin
      clear hfin HC
      generalize hW3 : W2.setCells g 4 (blk f).toList = W3 at *
      go_wp2_with (first | (refine wpList_storeM rfl (.tmp 32) (.tmp 29) rfl rfl f rfl hth ?_; rw [hW3]) | refine wpList_loadM rfl (.tmp 35) rfl g 4 rfl f hB ?_ | refine wpList_store25 rfl (.tmp 4) (.tmp 36) rfl g0 f rfl rfl _ hR0 ?_)
      exact retBT rfl g0 f rfl (setRow_heap _ _ _ _ _ _ hR0) rfl ⟨rfl, HFin.out⟩
  · rw [if_neg hu, if_neg hu, if_neg hu]
    have hU := use_err hA hu
    have hne : (usedE s t k != 0) = true := by simp [hu]
    have HF : Hid (∀ W1, Below (w.alloc (.cells (blk nought) 46)).heap.size (w.alloc (.cells (blk nought) 46)) W1 → W1.heap[w.heap.size]? = some (.cells (blk nought) 46) ∧ ∃ K' L', CD (W1.setRow w.heap.size (blk nought)) K' L' s t ∧ GoesC w (W1.setRow w.heap.size (blk nought)) K L K' L') := by
      intro W1 hB
      have hnK : ¬ K.has w.heap.size := fun q => by have := hltK _ q; omega
      have hnL : ¬ L.has w.heap.size := fun q => by have := hltL _ q; omega
      exact ⟨(hB.block _ (by omega)).trans R0, K, L, (hA.later hB).setRow hnK hnL _, (hA0.trans (GoesC.ofBelow K L hB)).out (Nat.le_refl _) (Fr.setRow _ _ _)⟩
    clear h hA hA0 R0 hltK hltL hs0 hu
    generalize nought = N at *
    generalize usedE s t k = E at *
    have HU : Hid (Calls Try.prog 70 _ _ _) := hU
    clear hU
    unfold ptr
    go_enter Try.func85, Try.ntmps85
    go_wp2_with (go_at_call 70; fail)
    refine HU.out.mono ?_
    rintro e W1 ⟨rfl, hB⟩
    obtain ⟨hR0, hfin⟩ := HF.out W1 hB
    have HFin : Hid _ := hfin
    clear HU HF hB hfin
    generalize w.heap.size = g0 at *
    unfold nilp
    go_wp2_with (first | refine wpList_build58 rfl rfl hbd ?_ | refine wpList_store25 rfl (.tmp 4) (.tmp 18) rfl g0 N rfl rfl _ hR0 ?_)
    exact retBT rfl g0 N rfl (setRow_heap _ _ _ _ _ _ hR0) rfl ⟨rfl, HFin.out⟩
end Go.Proofs.Ytglcliokhlafoaa
/- Put of a cache, in one form; no condition. -/
namespace Go.Proofs.Ytglcliokhlafoaa
open Go.RowKit Go.Maps
variable {w : World} {K : KLoc} {L : Loc} {s : CSt} {t : St}

def putC (s : CSt) (t : St) (k : Int) (f : Nat → Int) : CSt := if usedE s t k = 0 then { s with row := (useP s k).1 ++ [⟨k, true, f⟩] } else s
theorem useP_pos (s : CSt) (k : Int) : (useP s k).2.1.pos = k := by
  unfold useP
  cases ha : atR s.row k with
  | some x =>
    have := List.find?_some ha
    simpa using this
  | none => rfl
/-- The last one is held fast. -/
theorem CD.fastLast {sz : Int} {r : List Hld} {x : Hld} (h : CD w K L ⟨sz, r ++ [x]⟩ t) {l : List Nat} {g : Nat} (hns : K.ns = l ++ [g]) (hx : x.fast = false) {m : Int} (hm : m = (fastN (r ++ [x]) : Int) + 1) :
    ∃ K', CD ((w.setCell ⟨g, 1, none⟩ (.bool true)).setCell ⟨K.c, 5, none⟩ (.int .i64 m)) K' L ⟨sz, r ++ [⟨x.pos, true, x.dat⟩]⟩ t ∧ GoesC w ((w.setCell ⟨g, 1, none⟩ (.bool true)).setCell ⟨K.c, 5, none⟩ (.int .i64 m)) K L K' L := by
  have h1 := h.cache.holds
  rw [hns] at h1
  obtain ⟨rfl, rfl⟩ := map_snoc h1
  have hx' : (K.M g).fast = false := hx
  obtain ⟨a1, a2⟩ := h.cache.flag (p := l) (q := []) (g := g) hns true (m := m) (by
    rw [hm]
    simp [fastN, List.countP_append, hld, hx']) rfl
  obtain ⟨b1, b2⟩ := h.caches a1 rfl rfl (fun _ q => .inl q) a2
  exact ⟨_, b1, b2⟩
set_option maxRecDepth 20000 in
set_option maxHeartbeats 4000000 in
theorem putC_of (h : CD w K L s t) (k : Int) {f : Nat → Int} (hf : Can f) : Calls Try.prog 55 #[ptr K.c, .int .i64 k, .agg (blk f)] w fun e w' => e = .returned (.int .i64 (usedE s t k)) ∧
    ∃ K' L', CD w' K' L' (putC s t k f) t ∧ GoesC w w' K L K' L' := by
  have hA := h.later (below_new w (.cells (blk f) 46))
  have hA0 := GoesC.ofBelow K L (below_new w (.cells (blk f) 46))
  have R0 := heap_alloc_new w (.cells (blk f) 46)
  have hltK : ∀ i, K.has i → i < w.heap.size := h.cache.lt
  have hltL : ∀ i, L.has i → i < w.heap.size := h.disk.lt
  have hs0 : (w.alloc (.cells (blk f) 46)).heap.size = w.heap.size + 1 := by simp
  unfold putC
  by_cases hu : usedE s t k = 0
  · rw [if_pos hu, hu]
    have hU := use_ok hA hu
    have hpos := useP_pos s k
    generalize (useP s k).1 = r at *
    generalize (useP s k).2.2 = nw at *
    generalize (useP s k).2.1 = x at *
    have HF : Hid (∀ W1 K1 g l, K1.ns = l ++ [g] → hld K1.M g = x → CD W1 K1 L ⟨s.size, r ++ [x]⟩ t → GoesC (w.alloc (.cells (blk f) 46)) W1 K L K1 L →
        W1.heap[w.heap.size]? = some (.cells (blk f) 46) ∧ W1.there g 4 1024 ∧ K.c ≠ g ∧
        (W1.setCells g 4 (blk f).toList).cell? ⟨g, 1, none⟩ = some (.bool x.fast) ∧ (W1.setCells g 4 (blk f).toList).frozen? ⟨g, 1, none⟩ = false ∧
        (W1.setCells g 4 (blk f).toList).cell? ⟨K.c, 5, none⟩ = some (.int .i64 (fastN (r ++ [x]) : Int)) ∧ (W1.setCells g 4 (blk f).toList).frozen? ⟨K.c, 5, none⟩ = false ∧ (fastN (r ++ [x]) : Int) ≤ 4096 ∧
        (x.fast = true → ∃ K' L', CD (W1.setCells g 4 (blk f).toList) K' L' { s with row := r ++ [⟨k, true, f⟩] } t ∧ GoesC w (W1.setCells g 4 (blk f).toList) K L K' L') ∧
        (x.fast = false → ∃ K' L', CD (((W1.setCells g 4 (blk f).toList).setCell ⟨g, 1, none⟩ (.bool true)).setCell ⟨K.c, 5, none⟩ (.int .i64 ((fastN (r ++ [x]) : Int) + 1))) K' L' { s with row := r ++ [⟨k, true, f⟩] } t ∧
          GoesC w (((W1.setCells g 4 (blk f).toList).setCell ⟨g, 1, none⟩ (.bool true)).setCell ⟨K.c, 5, none⟩ (.int .i64 ((fastN (r ++ [x]) : Int) + 1))) K L K' L')) := by
      intro W1 K1 g l hns hx h1 hG
      have hgm : g ∈ K1.ns := by rw [hns]; simp
      have hnd := h1.cache.nodes g (.inr hgm)
      obtain ⟨K3, c1, c2, c3, c4, c5⟩ := h1.bytesLast hns hf
      obtain ⟨pp, qq, hrow3⟩ := c1.node (g := g) (by rw [c3]; exact hgm) c5
      have hfn : fastN (r ++ [⟨x.pos, x.fast, f⟩]) = fastN (r ++ [x]) := by simp [fastN, List.countP_append]
      have hcc : K3.c = K.c := c4.trans hG.c
      have d5 := c1.cache.c5
      have ff := c1.cache.free 5
      rw [hcc] at d5 ff
      rw [show (({ size := s.size, row := r ++ [⟨x.pos, x.fast, f⟩] } : CSt)).row = r ++ [⟨x.pos, x.fast, f⟩] from rfl, hfn] at d5
      have hle : (fastN (r ++ [x]) : Int) ≤ 4096 := by
        have a1 := fastN_le (r ++ [x])
        have a2 := h1.cache.ok.len
        have a3 := h1.cache.ok.size
        simp only at a2 a3
        omega
      refine ⟨(hG.fr.block _ (by omega) ?_).trans R0, hnd.there, ?_, hrow3.c1, hrow3.free 1, d5, ff, hle, ?_, ?_⟩
      · rintro (q | q)
        · have := hltK _ q; omega
        · have := hltL _ q; omega
      · rw [← hG.c]
        exact (h1.cache.cne (.inr hgm)).symm
      · intro hx1
        rw [hpos, hx1] at c1
        exact ⟨K3, L, c1, hA0.trans (hG.trans c2)⟩
      · intro hx0
        obtain ⟨K4, e1, e2⟩ := c1.fastLast (by rw [c3]; exact hns) hx0 (m := (fastN (r ++ [x]) : Int) + 1) (by rw [hfn])
        rw [hcc] at e1 e2
        rw [show (⟨x.pos, x.fast, f⟩ : Hld).pos = x.pos from rfl, hpos] at e1
        exact ⟨K4, L, e1, hA0.trans (hG.trans (c2.trans e2))⟩
    clear h hA hA0 R0 hltK hltL hs0 hu hpos hf
    have HU : Hid (Calls Try.prog 70 _ _ _) := hU
    clear hU
    unfold ptr
    go_enter Try.func55, Try.ntmps55
    go_wp2_with (go_at_call 70; fail)
    refine HU.out.mono ?_
    rintro e W1 ⟨K1, g, l, rfl, hns, hx, h1, hG⟩
    obtain ⟨hR0, hth, hcg, g1, fg, d5, ff, hle, hA1, hA2⟩ := HF.out W1 K1 g l hns hx h1 hG
    have H1 : Hid _ := hA1
    have H2 : Hid _ := hA2
    clear HU HF hns hx h1 hG hA1 hA2
    generalize w.heap.size = g0 at *
    generalize hW3 : W1.setCells g 4 (blk f).toList = W3 at *
    generalize fastN (r ++ [x]) = n at *
    have hw5 : IntKind.i64.wrap ((n : Int) + 1) = (n : Int) + 1 := by rw [IntKind.wrap_i64]; omega
    unfold ptr
    cases hxf : x.fast
    · rw [hxf] at g1
      have H3 := H2.out hxf
      have H4 : Hid _ := H3
      clear H1 H2 H3
      go_wp2_with (first | (refine wpList_load25 rfl (.tmp 5) rfl g0 rfl f hR0 ?_) | (refine wpList_storeM rfl (.tmp 23) (.tmp 21) rfl rfl f rfl hth ?_; rw [hW3]))
      go_ret
      exact ⟨rfl, H4.out⟩
    · rw [hxf] at g1
      have H3 := H1.out hxf
      have H4 : Hid _ := H3
      clear H1 H2 H3
      go_wp2_with (first | (refine wpList_load25 rfl (.tmp 5) rfl g0 rfl f hR0 ?_) | (refine wpList_storeM rfl (.tmp 23) (.tmp 21) rfl rfl f rfl hth ?_; rw [hW3]))
      go_ret
      exact ⟨rfl, H4.out⟩
  · rw [if_neg hu]
    have hU := use_err hA hu
    have hne : (usedE s t k != 0) = true := by simp [hu]
    have HF : Hid (∀ W1, Below (w.alloc (.cells (blk f) 46)).heap.size (w.alloc (.cells (blk f) 46)) W1 → ∃ K' L', CD W1 K' L' s t ∧ GoesC w W1 K L K' L') := fun W1 hB => ⟨K, L, hA.later hB, hA0.trans (GoesC.ofBelow K L hB)⟩
    clear h hA hA0 R0 hltK hltL hs0 hu hf
    generalize usedE s t k = E at *
    have HU : Hid (Calls Try.prog 70 _ _ _) := hU
    clear hU
    unfold ptr
    go_enter Try.func55, Try.ntmps55
    go_wp2_with (go_at_call 70; fail)
    refine HU.out.mono ?_
    rintro e W1 ⟨rfl, hB⟩
    have HFin : Hid _ := HF.out W1 hB
    clear HU HF hB
    unfold nilp
    go_wp2
    go_ret
    exact ⟨rfl, HFin.out⟩
end Go.Proofs.Ytglcliokhlafoaa
/- Flush of a cache, in one form; no condition but that numbers do not pass their greatest. -/
namespace Go.Proofs.Ytglcliokhlafoaa
open Go.RowKit Go.Maps
variable {w : World} {K : KLoc} {L : Loc} {s : CSt} {t : St}

theorem write_any (h : DiskAt w L t) (hr : Room t) (k : Int) {f : Nat → Int} (hf : Can f) :
    Calls Try.prog 63 #[.pointer (some ⟨L.d, 0, none⟩), .int .i64 k, .agg (blk f)] w fun e w' => e = .returned (.int .i64 (writeE t k)) ∧ ∃ L', DiskAt w' L' (writeV t k f) ∧ Goes w w' L L' := by
  unfold writeE writeV
  by_cases hb : refV t k = 0
  · rw [if_pos hb, if_pos hb]
    cases hl : lets t
    · exact (write_dead h hr hb hl f).mono fun e W' ⟨h1, h2, h3⟩ => ⟨h1, L, h2, h3⟩
    · exact (write_ok h hr hb hl hf).mono fun e W' ⟨h1, L', h2, h3⟩ => ⟨h1, L', h2, h3⟩
  · rw [if_neg hb, if_neg hb]
    exact (write_bad h hb f).mono fun e W' ⟨h1, h2⟩ => ⟨h1, L, h.later h2, Goes.ofBelow L h2⟩
def unfast (r : List Hld) (k : Int) : List Hld := r.map fun x => if x.pos = k then ⟨x.pos, false, x.dat⟩ else x
def flushE (s : CSt) (t : St) (k : Int) : Int := if refV t k = 0 then (match atR s.row k with | some h => if h.fast then writeE t k else 0 | none => 0) else refV t k
def flushC (s : CSt) (t : St) (k : Int) : CSt := if refV t k = 0 then (match atR s.row k with | some h => if h.fast ∧ writeE t k = 0 then { s with row := unfast s.row k } else s | none => s) else s
def flushD (s : CSt) (t : St) (k : Int) : St := if refV t k = 0 then (match atR s.row k with | some h => if h.fast then writeV t k h.dat else t | none => t) else t
theorem unfast_split (h : CacheAt w K s) {p q : List Nat} {g : Nat} (hns : K.ns = p ++ g :: q) {k : Int} (hk : posOf K.M g = k) : unfast s.row k = p.map (hld K.M) ++ ⟨(K.M g).pos, false, (K.M g).dat⟩ :: q.map (hld K.M) := by
  have hnd := h.posNd
  rw [hns] at hnd
  have h4 := ((List.perm_middle.map (posOf K.M)).nodup_iff).1 hnd
  rw [List.map_cons, List.nodup_cons] at h4
  have hne : ∀ x ∈ p ++ q, posOf K.M x ≠ k := fun x hx e => h4.1 (List.mem_map.2 ⟨x, hx, by rw [e, hk]⟩)
  have hk' : (K.M g).pos = k := hk
  unfold unfast
  rw [h.holds, hns, List.map_append, List.map_append, List.map_cons, List.map_cons, List.map_map, List.map_map]
  have e1 : ∀ l : List Nat, (∀ x ∈ l, x ∈ p ++ q) → l.map ((fun x : Hld => if x.pos = k then ⟨x.pos, false, x.dat⟩ else x) ∘ hld K.M) = l.map (hld K.M) := fun l hl =>
    List.map_congr_left fun x hx => by
      have : (hld K.M x).pos ≠ k := hne x (hl x hx)
      simp [this]
  rw [e1 p fun x hx => by simp [hx], e1 q fun x hx => by simp [hx]]
  congr 2
  show (if (K.M g).pos = k then (⟨(K.M g).pos, false, (K.M g).dat⟩ : Hld) else hld K.M g) = _
  rw [if_pos hk']
set_option maxRecDepth 20000 in
set_option maxHeartbeats 4000000 in
theorem flushC_of (h : CD w K L s t) (hr : Room t) (k : Int) : Calls Try.prog 86 #[ptr K.c, .int .i64 k] w fun e w' => e = .returned (.int .i64 (flushE s t k)) ∧
    ∃ K' L', CD w' K' L' (flushC s t k) (flushD s t k) ∧ GoesC w w' K L K' L' := by
  have hR := refusesC_of h k
  have hmap := h.cache.map
  have c3 := h.cache.c3
  have c1 := h.cache.c1
  rw [h.d] at c1
  have z71 := zero71
  unfold flushE flushC flushD
  by_cases hb : refV t k = 0
  · rw [if_pos hb, if_pos hb, if_pos hb]
    rw [hb] at hR
    have hwf : (Lit.int .i64 k).wf = true := inTop.wf (inTop_of h.disk.ok (refV_ok hb).2)
    cases ha : atR s.row k with
    | none =>
      have hmv := mapV_none (atR_none h.cache ha)
      have HFin : Hid (∃ K' L', CD w K' L' s t ∧ GoesC w w K L K' L') := ⟨K, L, h, GoesC.refl _ _ _⟩
      clear h hb ha hr
      unfold nilp at z71
      unfold ptr at c1 hR ⊢
      go_enter Try.func86, Try.ntmps86
      go_wp2_with (first | (go_at_call 87; refine hR.mono ?_; rintro e W ⟨rfl, rfl⟩) | (refine wpList_lookM_none rfl (.tmp 19) (.tmp 20) 115 rfl 112 Try.underlying3 keyed3 Try.underlying115 rfl hmap (z71 _) k hwf rfl hmv ?_))
      go_ret
      exact ⟨rfl, HFin.out⟩
    | some x =>
      obtain ⟨p, g, q, hns, hx, hg, _, _⟩ := atR_some h.cache ha
      have hgm : g ∈ K.ns := by rw [hns]; simp
      have hmv : mapV K.M K.ns k = some (ptr g) := by rw [← hg]; exact mapV_some h.cache.posNd hgm
      obtain ⟨pp, qq, hrow⟩ := h.node hgm hx
      have g1 := hrow.c1
      simp only
      cases hxf : x.fast
      · rw [hxf] at g1
        rw [if_neg (by simp), if_neg (by simp), if_neg (by simp)]
        have HFin : Hid (∃ K' L', CD w K' L' s t ∧ GoesC w w K L K' L') := ⟨K, L, h, GoesC.refl _ _ _⟩
        clear h hb ha hr hns hx hg hgm hrow
        unfold nilp at z71
        unfold ptr at c1 hR hmv ⊢
        go_enter Try.func86, Try.ntmps86
        go_wp2_with (first | (go_at_call 87; refine hR.mono ?_; rintro e W ⟨rfl, rfl⟩) | (refine wpList_lookM_some rfl (.tmp 19) (.tmp 20) 115 rfl 112 Try.underlying3 keyed3 Try.underlying115 rfl hmap (z71 _) k hwf rfl _ hmv ?_))
        go_ret
        exact ⟨rfl, HFin.out⟩
      · rw [hxf] at g1
        rw [if_pos rfl, if_pos rfl]
        simp only [true_and]
        have hB : BlkAt w g 4 x.dat := hrow.bytes
        have hcan : Can x.dat := (h.cache.ok.pos x (by rw [h.cache.holds]; exact List.mem_map.2 ⟨g, hgm, hx⟩)).2
        have hDd : CD w.drew K L s t := h.later ⟨rfl, rfl, rfl, Nat.le_refl _, fun _ _ => rfl⟩
        have hwr := write_any hDd.disk hr k hcan
        have HF : Hid (∀ W2 L2, DiskAt W2 L2 (writeV t k x.dat) → Goes w.drew W2 L L2 →
            (writeE t k ≠ 0 → ∃ K' L', CD W2 K' L' s (writeV t k x.dat) ∧ GoesC w W2 K L K' L') ∧
            W2.cell? ⟨g, 1, none⟩ = some (.bool true) ∧ W2.frozen? ⟨g, 1, none⟩ = false ∧ W2.cell? ⟨K.c, 5, none⟩ = some (.int .i64 (fastN s.row : Int)) ∧ W2.frozen? ⟨K.c, 5, none⟩ = false ∧ K.c ≠ g ∧ (1 ≤ (fastN s.row : Int) ∧ (fastN s.row : Int) ≤ 4096) ∧
            (∃ K' L', CD ((W2.setCell ⟨g, 1, none⟩ (.bool false)).setCell ⟨K.c, 5, none⟩ (.int .i64 ((fastN s.row : Int) - 1))) K' L' { s with row := unfast s.row k } (writeV t k x.dat) ∧
              GoesC w ((W2.setCell ⟨g, 1, none⟩ (.bool false)).setCell ⟨K.c, 5, none⟩ (.int .i64 ((fastN s.row : Int) - 1))) K L K' L')) := by
          intro W2 L2 hD2 hG2
          obtain ⟨b1, b2⟩ := hDd.disks hD2 hG2
          have hGd : GoesC w w.drew K L K L := GoesC.ofBelow K L ⟨rfl, rfl, rfl, Nat.le_refl _, fun _ _ => rfl⟩
          obtain ⟨p2, q2, hrow2⟩ := b1.node hgm hx
          have e1 := hrow2.c1
          rw [hxf] at e1
          have hsp := unfast_split b1.cache hns hg
          have hfm : (K.M g).fast = true := by have := congrArg Hld.fast hx; rw [hxf] at this; exact this
          have hcnt : fastN s.row = fastN (p.map (hld K.M) ++ ⟨(K.M g).pos, false, (K.M g).dat⟩ :: q.map (hld K.M)) + 1 := by
            rw [h.cache.holds, hns]
            simp [fastN, List.countP_append, hld, hfm]
            omega
          have hle : (fastN s.row : Int) ≤ 4096 := by
            have a1 := fastN_le s.row
            have a2 := h.cache.ok.len
            have a3 := h.cache.ok.size
            omega
          obtain ⟨a1, a2⟩ := b1.cache.flag hns false (m := (fastN s.row : Int) - 1) (by rw [hcnt]; omega) rfl
          rw [← hsp] at a1
          obtain ⟨d1, d2⟩ := b1.caches a1 rfl rfl (fun _ q => .inl q) a2
          exact ⟨fun _ => ⟨K, L2, b1, hGd.trans b2⟩, e1, hrow2.free 1, b1.cache.c5, b1.cache.free 5, (b1.cache.cne (.inr hgm)).symm, ⟨by omega, hle⟩, _, L2, d1, hGd.trans (b2.trans d2)⟩
        clear h hb ha hr hns hx hg hgm hrow hDd
        have HW : Hid (Calls Try.prog 63 _ _ _) := hwr
        clear hwr
        generalize hE : writeE t k = E at *
        generalize writeV t k x.dat = t' at *
        generalize hn : (fastN s.row : Int) = n at *
        have HE : Hid (E = 0 ∨ E ≠ 0) := Classical.em _
        have hBd : BlkAt w g 4 x.dat := hB
        generalize x.dat = f at *
        unfold nilp at z71
        unfold ptr at c1 hR hmv ⊢
        go_enter Try.func86, Try.ntmps86
        go_wp2_with (first | (go_at_call 87; refine hR.mono ?_; rintro e W ⟨rfl, rfl⟩) | (refine wpList_lookM_some rfl (.tmp 19) (.tmp 20) 115 rfl 112 Try.underlying3 keyed3 Try.underlying115 rfl hmap (z71 _) k hwf rfl _ hmv ?_))
        go_still_tail 9, (by kernel_rfl)
        refine wpStill_loadM rfl (.tmp 40) rfl g 4 rfl f hBd ?_
        refine wpStill_nil ?_
        change wpList _ _ _ _ _ (World.drew _)
        clear hB hBd hmap hR c3 g1 hwf z71 hmv
        go_wp2_with (go_at_call 63; fail)
        refine HW.out.mono ?_
        rintro e W2 ⟨rfl, L2, hD2, hG2⟩
        obtain ⟨a1, g1, fg, d5, f5, hcg, hn1, a2⟩ := HF.out W2 L2 hD2 hG2
        have HA1 : Hid _ := a1
        have HA2 : Hid _ := a2
        have hw5 : IntKind.i64.wrap (n - 1) = n - 1 := by rw [IntKind.wrap_i64]; omega
        clear HF HW hD2 hG2 a1 a2
        rcases HE.out with rfl | hE0
        · have HR : Hid _ := HA2.out
          clear HA1 HA2 HE
          go_wp2
          go_ret
          exact ⟨rfl, HR.out⟩
        · have HR : Hid _ := HA1.out hE0
          have hne : (E != 0) = true := by simp [hE0]
          clear HA1 HA2 HE
          go_wp2
          go_ret
          exact ⟨rfl, HR.out⟩
  · rw [if_neg hb, if_neg hb, if_neg hb]
    have hne : (refV t k != 0) = true := by simp [hb]
    have HFin : Hid (∃ K' L', CD w K' L' s t ∧ GoesC w w K L K' L') := ⟨K, L, h, GoesC.refl _ _ _⟩
    clear h hb hr
    generalize refV t k = r at *
    unfold ptr at *
    go_enter Try.func86, Try.ntmps86
    go_wp2_with (first | (go_at_call 87; refine hR.mono ?_; rintro e W ⟨rfl, rfl⟩))
    go_ret
    exact ⟨rfl, HFin.out⟩
end Go.Proofs.Ytglcliokhlafoaa
/- A cache and its disk that a function made itself, with blocks beside them that stay: each call once more, in one form; no condition but that numbers do not pass their greatest. -/
namespace Go.Proofs.Ytglcliokhlafoaa
open Go.RowKit Go.Maps

structure CS (w W : World) (K : KLoc) (L : Loc) (s : CSt) (t : St) (ks : List (Nat × Obj)) : Prop where
  cd : CD W K L s t
  newK : ∀ k, K.has k → w.heap.size ≤ k
  newL : ∀ k, L.has k → w.heap.size ≤ k
  below : Below w.heap.size w W
  keep : ∀ p ∈ ks, W.heap[p.1]? = some p.2 ∧ ¬ K.has p.1 ∧ ¬ L.has p.1
def Sit (w W : World) (c d : Nat) (s : CSt) (t : St) (ks : List (Nat × Obj)) : Prop := ∃ K L, K.c = c ∧ L.d = d ∧ CS w W K L s t ks
variable {w W : World} {c d : Nat} {s : CSt} {t : St} {ks : List (Nat × Obj)} {K : KLoc} {L : Loc}
theorem CS.goes {W' : World} {K' : KLoc} {L' : Loc} {s' : CSt} {t' : St} (h : CS w W K L s t ks) (hD : CD W' K' L' s' t') (hG : GoesC W W' K L K' L') : CS w W' K' L' s' t' ks := by
  have hsz := h.below.size
  refine ⟨hD, fun k hk => ?_, fun k hk => ?_, h.below.trans (hG.fr.below (fun i q => q.elim (h.newK i) (h.newL i)) hsz), fun p hp => ?_⟩
  · rcases hG.ownK k hk with q | q
    · exact h.newK k q
    · omega
  · rcases hG.ownL k hk with q | q
    · exact h.newL k q
    · omega
  · obtain ⟨h1, h2, h3⟩ := h.keep p hp
    have hlt := (Array.getElem?_eq_some_iff.1 h1).1
    refine ⟨(hG.fr.block p.1 hlt fun q => q.elim h2 h3).trans h1, fun q => ?_, fun q => ?_⟩
    · rcases hG.ownK p.1 q with q | q
      · exact h2 q
      · omega
    · rcases hG.ownL p.1 q with q | q
      · exact h3 q
      · omega
theorem Sit.goes {W' : World} {K' : KLoc} {L' : Loc} {s' : CSt} {t' : St} (hc : K.c = c) (hd : L.d = d) (h : CS w W K L s t ks) (hD : CD W' K' L' s' t') (hG : GoesC W W' K L K' L') : Sit w W' c d s' t' ks := ⟨K', L', hG.c.trans hc, hG.d.trans hd, h.goes hD hG⟩
theorem Sit.later {W' : World} (h : Sit w W c d s t ks) (hb : Below W.heap.size W W') : Sit w W' c d s t ks := by
  obtain ⟨K, L, hc, hd, h⟩ := h
  exact Sit.goes hc hd h (h.cd.later hb) (GoesC.ofBelow K L hb)
theorem Sit.drew (h : Sit w W c d s t ks) : Sit w W.drew c d s t ks := h.later ⟨rfl, rfl, rfl, Nat.le_refl _, fun _ _ => rfl⟩
theorem Sit.add (h : Sit w W c d s t ks) (o : Obj) : Sit w (W.alloc o) c d s t ((W.heap.size, o) :: ks) := by
  obtain ⟨K, L, hc, hd, h⟩ := h
  have h2 := h.goes (h.cd.later (below_new W o)) (GoesC.ofBelow K L (below_new W o))
  refine ⟨K, L, hc, hd, h2.cd, h2.newK, h2.newL, h2.below, fun p hp => ?_⟩
  rcases List.mem_cons.1 hp with rfl | hp
  · exact ⟨heap_alloc_new W o, fun q => by have := h.cd.cache.lt _ q; simp only at this; omega, fun q => by have := h.cd.disk.lt _ q; simp only at this; omega⟩
  · exact h2.keep p hp
/-- A block beside is written. -/
theorem Sit.setRow {g : Nat} {cs cs' : Array Value} {ty : TypeId} (h : Sit w W c d s t ((g, .cells cs ty) :: ks)) (hg : w.heap.size ≤ g) (hks : ∀ p ∈ ks, p.1 ≠ g) : Sit w (W.setRow g cs') c d s t ((g, .cells cs' ty) :: ks) := by
  obtain ⟨K, L, hc, hd, h⟩ := h
  obtain ⟨h1, h2, h3⟩ := h.keep _ (List.mem_cons_self ..)
  refine ⟨K, L, hc, hd, h.cd.setRow h2 h3 _, h.newK, h.newL, h.below.trans ⟨rfl, rfl, rfl, by simp, fun k hk => setRow_other W g k _ (by omega)⟩, fun p hp => ?_⟩
  rcases List.mem_cons.1 hp with rfl | hp
  · exact ⟨setRow_heap _ _ _ _ _ _ h1, h2, h3⟩
  · obtain ⟨a1, a2, a3⟩ := h.keep p (List.mem_cons_of_mem _ hp)
    exact ⟨(setRow_other W g p.1 _ (hks p hp)).trans a1, a2, a3⟩
theorem Sit.blk (h : Sit w W c d s t ks) {g : Nat} {o : Obj} (hm : (g, o) ∈ ks) : W.heap[g]? = some o := by
  obtain ⟨K, L, hc, hd, h⟩ := h
  exact (h.keep _ hm).1
theorem Sit.below (h : Sit w W c d s t ks) : Below w.heap.size w W := by
  obtain ⟨K, L, hc, hd, h⟩ := h
  exact h.below
theorem Sit.ok (h : Sit w W c d s t ks) : COk s ∧ Ok t := by
  obtain ⟨K, L, hc, hd, h⟩ := h
  exact ⟨h.cd.cache.ok, h.cd.disk.ok⟩
theorem Sit.drop (h : Sit w W c d s t ks) {ks' : List (Nat × Obj)} (hs : ∀ p ∈ ks', p ∈ ks) : Sit w W c d s t ks' := by
  obtain ⟨K, L, hc, hd, h⟩ := h
  exact ⟨K, L, hc, hd, h.cd, h.newK, h.newL, h.below, fun p hp => h.keep p (hs p hp)⟩
/-- A cache of a disk. -/
theorem sit_new {n : Int} (h : Sits w W d t ks) (hs : 1 ≤ n ∧ n ≤ 4096) :
    Calls Try.prog 37 #[ptr d, .int .i64 n] W fun e W' => ∃ c, e = .returned (.tuple #[ptr c, .int .i64 0]) ∧ Sit w W' c d (newC n) t ks := by
  obtain ⟨L, rfl, h⟩ := h
  refine (newC_ok h.disk hs).mono ?_
  rintro e W' ⟨rfl, h1, h2⟩
  have hsz := h.below.size
  refine ⟨_, rfl, newK W L.d, L, rfl, rfl, ⟨h1, h.disk.later h2, rfl, ?_⟩, ?_, h.new, below_next h.below h2, fun p hp => ?_⟩
  · rintro k hk hl
    have := h.disk.lt k hl
    rcases hk with q | q | q | q
    · simp only [newK] at q; omega
    · simp only [newK] at q; omega
    · simp only [newK] at q; omega
    · simp [newK] at q
  · rintro k (q | q | q | q)
    · simp only [newK] at q; omega
    · simp only [newK] at q; omega
    · simp only [newK] at q; omega
    · simp [newK] at q
  · obtain ⟨a1, a2⟩ := h.keep p hp
    have hlt := (Array.getElem?_eq_some_iff.1 a1).1
    refine ⟨heap_kept a1 h2, ?_, a2⟩
    rintro (q | q | q | q)
    · simp only [newK] at q; omega
    · simp only [newK] at q; omega
    · simp only [newK] at q; omega
    · simp [newK] at q
theorem sit_read (h : Sit w W c d s t ks) (hr : Room t) (k : Int) : Calls Try.prog 85 #[ptr c, .int .i64 k] W fun e W' => e = .returned (.tuple #[.agg (blk (rdB s t k)), .int .i64 (usedE s t k)]) ∧ Sit w W' c d (rdC s t k) (rdD s t k) ks := by
  obtain ⟨K, L, rfl, rfl, h⟩ := h
  exact (readC_of h.cd hr k).mono fun e W' ⟨h1, K', L', h2, h3⟩ => ⟨h1, Sit.goes rfl rfl h h2 h3⟩
theorem sit_put (h : Sit w W c d s t ks) (k : Int) {f : Nat → Int} (hf : Can f) : Calls Try.prog 55 #[ptr c, .int .i64 k, .agg (Go.Proofs.Ytglcliokhlafoaa.blk f)] W fun e W' => e = .returned (.int .i64 (usedE s t k)) ∧ Sit w W' c d (putC s t k f) t ks := by
  obtain ⟨K, L, rfl, rfl, h⟩ := h
  exact (putC_of h.cd k hf).mono fun e W' ⟨h1, K', L', h2, h3⟩ => ⟨h1, Sit.goes rfl rfl h h2 h3⟩
theorem sit_flush (h : Sit w W c d s t ks) (hr : Room t) (k : Int) : Calls Try.prog 86 #[ptr c, .int .i64 k] W fun e W' => e = .returned (.int .i64 (flushE s t k)) ∧ Sit w W' c d (flushC s t k) (flushD s t k) ks := by
  obtain ⟨K, L, rfl, rfl, h⟩ := h
  exact (flushC_of h.cd hr k).mono fun e W' ⟨h1, K', L', h2, h3⟩ => ⟨h1, Sit.goes rfl rfl h h2 h3⟩
theorem dsit_read (h : Sit w W c d s t ks) (hr : Room t) (k : Int) : Calls Try.prog 30 #[ptr d, .int .i64 k] W fun e W' => e = .returned (.tuple #[.agg (Go.Proofs.Ytglcliokhlafoaa.blk (readB t k)), .int .i64 (refV t k)]) ∧ Sit w W' c d s (readV t k) ks := by
  obtain ⟨K, L, rfl, rfl, h⟩ := h
  unfold readB readV
  by_cases hb : refV t k = 0
  · rw [if_pos hb, if_pos hb, hb]
    refine (read_ok h.cd.disk hr hb).mono ?_
    rintro e W' ⟨rfl, h2, h3⟩
    obtain ⟨a1, a2⟩ := h.cd.disks h2 h3
    exact ⟨rfl, Sit.goes rfl rfl h a1 a2⟩
  · rw [if_neg hb, if_neg hb]
    refine (read_bad h.cd.disk hb).mono ?_
    rintro e W' ⟨rfl, h2⟩
    exact ⟨rfl, Sit.later ⟨K, L, rfl, rfl, h⟩ h2⟩
theorem dsit_made (h : Sit w W c d s t ks) : Calls Try.prog 12 #[ptr d] W fun e W' => e = .returned (.int .i64 t.made) ∧ W' = W := by
  obtain ⟨K, L, rfl, rfl, h⟩ := h
  exact made_of h.cd.disk
/-- New of a size that is none. -/
theorem newC_bad (hD : DiskAt W L t) {n : Int} (hs : n < 1 ∨ 4096 < n) : Calls Try.prog 37 #[ptr L.d, .int .i64 n] W fun e W' => e = .returned (.tuple #[nilp, .int .i64 2]) ∧ W' = W := by
  have hl := len_of hD
  have hn := hD.ok.n
  have hz0 : ¬ t.n = 0 := by omega
  clear hD
  unfold ptr nilp
  rcases hs with hs | hs
  · go_enter Try.func37, Try.ntmps37
    go_wp2_with (first | (go_at_call 61; refine hl.mono ?_; rintro e W ⟨rfl, rfl⟩))
    go_ret2
    exact ⟨rfl, rfl⟩
  · have hs' : ¬ n < 1 := by omega
    go_enter Try.func37, Try.ntmps37
    go_wp2_with (first | (go_at_call 61; refine hl.mono ?_; rintro e W ⟨rfl, rfl⟩))
    go_ret2
    exact ⟨rfl, rfl⟩
theorem newC_none {v : Value} (h : NoneAt W v) (n : Int) : Calls Try.prog 37 #[v, .int .i64 n] W fun e W' => e = .returned (.tuple #[nilp, .int .i64 1]) ∧ W' = W := by
  have hl := len_none h
  clear h
  unfold nilp
  go_enter Try.func37, Try.ntmps37
  go_wp2_with (first | (go_at_call 61; refine hl.mono ?_; rintro e W ⟨rfl, rfl⟩))
  go_ret2
  exact ⟨rfl, rfl⟩
theorem sit_bad (h : Sit w W c d s t ks) {n : Int} (hs : n < 1 ∨ 4096 < n) : Calls Try.prog 37 #[ptr d, .int .i64 n] W fun e W' => e = .returned (.tuple #[nilp, .int .i64 2]) ∧ W' = W := by
  obtain ⟨K, L, rfl, rfl, h⟩ := h
  exact newC_bad h.cd.disk hs
end Go.Proofs.Ytglcliokhlafoaa
