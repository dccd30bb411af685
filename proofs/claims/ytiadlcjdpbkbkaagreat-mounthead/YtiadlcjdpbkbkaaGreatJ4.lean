/- Several texts joined, each with its own remark; no condition. -/
import Derived.Test.YtiadlcjdpbkbkaaGreatJ3
import Derived.Test.YtiadlcjdpbkbkaaGreatJ1
import Derived.Laws.BitsLemmas
import Derived.BigQuiet
import Derived.Laws.ResultCell

/- Read of a cache, in one form; no condition but that numbers do not pass their greatest. -/
namespace Go.Proofs.YtiadlcjdpbkbkaaGreatD
open Go.RowKit Go.Maps
variable {w : World} {K : KLoc} {L : Loc} {s : CSt} {t : St}

def rdB (s : CSt) (t : St) (k : Int) : Nat → Int := if usedE s t k = 0 then (match atR s.row k with | some h => h.dat | none => curV t k) else nought
def rdC (s : CSt) (t : St) (k : Int) : CSt := if usedE s t k = 0 then (match atR s.row k with | some h => { s with row := goneR s.row k ++ [h] } | none => { s with row := placeR s.size s.row ++ [⟨k, false, curV t k⟩] }) else s
def rdD (s : CSt) (t : St) (k : Int) : St := if usedE s t k = 0 then (match atR s.row k with | some _ => t | none => readS t) else t
theorem curV_can (ok : Ok t) (k : Int) : Can (curV t k) := by
  cases hl : lastAt t.wait k with
  | some i =>
    obtain ⟨c, hc, _⟩ := lastAt_spec k _ i hl
    rw [curV_wait hl hc]
    exact (ok.wait c (List.mem_of_getElem? hc)).2
  | none =>
    rw [curV_held hl]
    cases hh : t.held k with
    | some f => exact (ok.held k f hh).2.1
    | none => exact can_nought
theorem used_ref {k : Int} (hu : usedE s t k = 0) : refV t k = 0 := by
  apply Classical.byContradiction
  intro hb
  unfold usedE at hu
  rw [if_pos hb] at hu
  exact hb hu
theorem map_snoc {f : Nat → Hld} {l : List Nat} {g : Nat} {r : List Hld} {x : Hld} (h : r ++ [x] = (l ++ [g]).map f) : r = l.map f ∧ x = f g := by
  rw [List.map_append] at h
  exact List.append_inj' h rfl |>.imp id (fun q => by simpa using q)
/-- The last one's bytes are stored. -/
theorem CD.bytesLast {sz : Int} {r : List Hld} {x : Hld} (h : CD w K L ⟨sz, r ++ [x]⟩ t) {l : List Nat} {g : Nat} (hns : K.ns = l ++ [g]) {f : Nat → Int} (hf : Can f) :
    ∃ K', CD (w.setCells g 4 (blk f).toList) K' L ⟨sz, r ++ [⟨x.pos, x.fast, f⟩]⟩ t ∧ GoesC w (w.setCells g 4 (blk f).toList) K L K' L ∧ K'.ns = K.ns ∧ K'.c = K.c ∧ hld K'.M g = ⟨x.pos, x.fast, f⟩ := by
  have h1 := h.cache.holds
  rw [hns] at h1
  obtain ⟨rfl, rfl⟩ := map_snoc h1
  obtain ⟨a1, a2⟩ := h.cache.bytes (p := l) (q := []) (g := g) hns hf
  have hgm : K.has g := .inr (.inr (.inr (by rw [hns]; simp)))
  obtain ⟨b1, b2⟩ := h.caches a1 rfl rfl (fun _ q => .inl q) (a2.mono fun i _ q => by rw [q]; exact hgm)
  refine ⟨_, b1, b2, rfl, rfl, ?_⟩
  show hld (setM K.M g _) g = _
  unfold hld
  rw [setM_same]
/-- A holding of the row, as cells. -/
theorem CD.node {g : Nat} {x : Hld} (h : CD w K L s t) (hg : g ∈ K.ns) (hx : hld K.M g = x) : ∃ p q, RowAt w g x.pos x.fast p q x.dat := by
  subst hx
  exact ⟨_, _, h.cache.nodes g (.inr hg)⟩
/-- A block that is new stays out of it. -/
theorem GoesC.out {a b c : World} {K' : KLoc} {L' : Loc} (h : GoesC a b K L K' L') {g : Nat} (hg : a.heap.size ≤ g) (hf : Fr (fun i => i = g) b c) : GoesC a c K L K' L' :=
  ⟨h.c, h.d, h.ownK, h.ownL, h.fr.trans hf fun i hi q => by omega⟩
/-- What a use of the last answers, with a block that was new ahead of it. -/
theorem CD.setRow {g : Nat} (h : CD w K L s t) (hK : ¬ K.has g) (hL : ¬ L.has g) (cs : Array Value) : CD (w.setRow g cs) K L s t := by
  have hf := Fr.setRow w g cs
  exact ⟨h.cache.fr hf fun k hk e => hK (e ▸ hk), h.disk.fr hf fun k hk e => hL (e ▸ hk), h.d, h.apart⟩
set_option maxRecDepth 20000 in
set_option maxHeartbeats 4000000 in
theorem readC_of (h : CD w K L s t) (hr : Room t) (k : Int) : Calls Tryz.prog 82 #[ptr K.c, .int .i64 k] w fun e w' => e = .returned (.tuple #[.agg (blk (rdB s t k)), .int .i64 (usedE s t k)]) ∧
    ∃ K' L', CD w' K' L' (rdC s t k) (rdD s t k) ∧ GoesC w w' K L K' L' := by
  have hA := h.later (below_new w (.cells (blk nought) 47))
  have hA0 := GoesC.ofBelow K L (below_new w (.cells (blk nought) 47))
  have R0 := heap_alloc_new w (.cells (blk nought) 47)
  have hltK : ∀ i, K.has i → i < w.heap.size := h.cache.lt
  have hltL : ∀ i, L.has i → i < w.heap.size := h.disk.lt
  have hs0 : (w.alloc (.cells (blk nought) 47)).heap.size = w.heap.size + 1 := by simp
  have z25 := zero25
  have hbd := built58
  unfold rdB rdC rdD
  by_cases hu : usedE s t k = 0
  · rw [if_pos hu, if_pos hu, if_pos hu, hu]
    have hb := used_ref hu
    have hU := use_ok hA hu
    cases ha : atR s.row k with
    | some x =>
      have eP : useP s k = (goneR s.row k, x, false) := by unfold useP; rw [ha]
      rw [eP] at hU
      have HF : Hid (∀ W1 K1 g l, K1.ns = l ++ [g] → hld K1.M g = x → CD W1 K1 L { s with row := goneR s.row k ++ [x] } t → GoesC (w.alloc (.cells (blk nought) 47)) W1 K L K1 L →
          BlkAt W1 g 4 x.dat ∧ W1.heap[w.heap.size]? = some (.cells (blk nought) 47) ∧ ∃ K' L', CD (W1.setRow w.heap.size (blk x.dat)) K' L' { s with row := goneR s.row k ++ [x] } t ∧ GoesC w (W1.setRow w.heap.size (blk x.dat)) K L K' L') := by
        intro W1 K1 g l hns hx h1 hG
        obtain ⟨pp, qq, hrow⟩ := h1.node (g := g) (by rw [hns]; simp) hx
        have hnK : ¬ K1.has w.heap.size := fun q => by
          rcases hG.ownK _ q with q | q
          · have := hltK _ q; omega
          · omega
        have hnL : ¬ L.has w.heap.size := fun q => by have := hltL _ q; omega
        refine ⟨hrow.bytes, (hG.fr.block _ (by omega) ?_).trans R0, K1, L, h1.setRow hnK hnL _, ?_⟩
        · rintro (q | q)
          · have := hltK _ q; omega
          · exact hnL q
        · exact (hA0.trans hG).out (Nat.le_refl _) (Fr.setRow _ _ _)
      clear h hA hA0 R0 hltK hltL hs0 hu ha eP hb
      generalize nought = N at *
      have HU : Hid (Calls Tryz.prog 100 _ _ _) := hU
      clear hU
      unfold ptr
      go_enter Tryz.func82, Tryz.ntmps82
      go_wp2_with (go_at_call 100; fail)
      refine HU.out.mono ?_
      rintro e W1 ⟨K1, g, l, rfl, hns, hx, h1, hG⟩
      obtain ⟨hB, hR0, hfin⟩ := HF.out W1 K1 g l hns hx h1 hG
      have HFin : Hid _ := hfin
      clear HU HF hns hx h1 hG hfin
      generalize w.heap.size = g0 at *
      unfold ptr
      go_wp2_with (first | refine wpList_loadM rfl (.tmp 35) rfl g 4 rfl x.dat hB ?_ | refine wpList_store25 rfl (.tmp 4) (.tmp 36) rfl g0 x.dat rfl rfl _ hR0 ?_)
      exact retBT rfl g0 x.dat rfl (setRow_heap _ _ _ _ _ _ hR0) rfl ⟨rfl, HFin.out⟩
    | none =>
      have eP : useP s k = (placeR s.size s.row, ⟨k, false, nought⟩, true) := by unfold useP; rw [ha]
      rw [eP] at hU
      have hcan := curV_can h.disk.ok k
      generalize hF0 : curV t k = f at *
      have HF : Hid (∀ W1 K1 g l, K1.ns = l ++ [g] → CD W1 K1 L { s with row := placeR s.size s.row ++ [⟨k, false, nought⟩] } t → GoesC (w.alloc (.cells (blk nought) 47)) W1 K L K1 L →
          W1.cell? ⟨K.c, 1, none⟩ = some (ptr L.d) ∧ Calls Tryz.prog 24 #[ptr L.d, .int .i64 k] W1 fun e W2 => e = .returned (.tuple #[.agg (blk f), .int .i64 0]) ∧ W2.there g 4 1024 ∧ BlkAt (W2.setCells g 4 (blk f).toList) g 4 f ∧
          (W2.setCells g 4 (blk f).toList).heap[w.heap.size]? = some (.cells (blk nought) 47) ∧ ∃ K' L', CD ((W2.setCells g 4 (blk f).toList).setRow w.heap.size (blk f)) K' L' { s with row := placeR s.size s.row ++ [⟨k, false, f⟩] } (readS t) ∧
            GoesC w ((W2.setCells g 4 (blk f).toList).setRow w.heap.size (blk f)) K L K' L') := by
        intro W1 K1 g l hns h1 hG
        refine ⟨?_, ?_⟩
        · have := h1.cache.c1
          rw [hG.c, h1.d] at this
          exact this
        · have hrd := read_ok h1.disk hr hb
          rw [hF0] at hrd
          refine hrd.mono ?_
          rintro e W2 ⟨rfl, hD2, hG2⟩
          obtain ⟨b1, b2⟩ := h1.disks hD2 hG2
          obtain ⟨K3, c1, c2, c3, c4, c5⟩ := b1.bytesLast hns hcan
          have hgm : g ∈ K1.ns := by rw [hns]; simp
          have hg1 := b1.cache.nodes g (.inr hgm)
          obtain ⟨pp, qq, hrow3⟩ := c1.node (g := g) (by rw [c3]; exact hgm) c5
          have hG3 := hG.trans (b2.trans c2)
          have hnK : ¬ K3.has w.heap.size := fun q => by
            rcases hG3.ownK _ q with q | q
            · have := hltK _ q; omega
            · omega
          have hnL : ¬ L.has w.heap.size := fun q => by have := hltL _ q; omega
          refine ⟨rfl, hg1.there, hrow3.bytes, (hG3.fr.block _ (by omega) ?_).trans R0, K3, L, c1.setRow hnK hnL _, (hA0.trans hG3).out (Nat.le_refl _) (Fr.setRow _ _ _)⟩
          rintro (q | q)
          · have := hltK _ q; omega
          · exact hnL q
      clear h hA hA0 R0 hltK hltL hs0 hu ha eP hb hF0 hcan hr
      have HU : Hid (Calls Tryz.prog 100 _ _ _) := hU
      clear hU
      generalize nought = N at *
      unfold ptr
      go_enter Tryz.func82, Tryz.ntmps82
      go_wp2_with (go_at_call 100; fail)
      refine HU.out.mono ?_
      rintro e W1 ⟨K1, g, l, rfl, hns, hx, h1, hG⟩
      obtain ⟨d1, hcall⟩ := HF.out W1 K1 g l hns h1 hG
      have HC : Hid (Calls Tryz.prog 24 _ _ _) := hcall
      clear HU HF hns hx h1 hG hcall
      generalize w.heap.size = g0 at *
      unfold ptr at d1 ⊢
      go_wp2_with (go_at_call 24; fail)
      refine HC.out.mono ?_
      rintro e W2 ⟨rfl, hth, hB, hR0, hfin⟩
      have HFin : Hid _ := hfin
      clear hfin HC
      generalize hW3 : W2.setCells g 4 (blk f).toList = W3 at *
      go_wp2_with (first | (refine wpList_storeM rfl (.tmp 32) (.tmp 29) rfl rfl f rfl hth ?_; rw [hW3]) | refine wpList_loadM rfl (.tmp 35) rfl g 4 rfl f hB ?_ | refine wpList_store25 rfl (.tmp 4) (.tmp 36) rfl g0 f rfl rfl _ hR0 ?_)
      exact retBT rfl g0 f rfl (setRow_heap _ _ _ _ _ _ hR0) rfl ⟨rfl, HFin.out⟩
  · rw [if_neg hu, if_neg hu, if_neg hu]
    have hU := use_err hA hu
    have hne : (usedE s t k != 0) = true := by simp [hu]
    have HF : Hid (∀ W1, Below (w.alloc (.cells (blk nought) 47)).heap.size (w.alloc (.cells (blk nought) 47)) W1 → W1.heap[w.heap.size]? = some (.cells (blk nought) 47) ∧ ∃ K' L', CD (W1.setRow w.heap.size (blk nought)) K' L' s t ∧ GoesC w (W1.setRow w.heap.size (blk nought)) K L K' L') := by
      intro W1 hB
      have hnK : ¬ K.has w.heap.size := fun q => by have := hltK _ q; omega
      have hnL : ¬ L.has w.heap.size := fun q => by have := hltL _ q; omega
      exact ⟨(hB.block _ (by omega)).trans R0, K, L, (hA.later hB).setRow hnK hnL _, (hA0.trans (GoesC.ofBelow K L hB)).out (Nat.le_refl _) (Fr.setRow _ _ _)⟩
    clear h hA hA0 R0 hltK hltL hs0 hu
    generalize nought = N at *
    generalize usedE s t k = E at *
    have HU : Hid (Calls Tryz.prog 100 _ _ _) := hU
    clear hU
    unfold ptr
    go_enter Tryz.func82, Tryz.ntmps82
    go_wp2_with (go_at_call 100; fail)
    refine HU.out.mono ?_
    rintro e W1 ⟨rfl, hB⟩
    obtain ⟨hR0, hfin⟩ := HF.out W1 hB
    have HFin : Hid _ := hfin
    clear HU HF hB hfin
    generalize w.heap.size = g0 at *
    unfold nilp
    go_wp2_with (first | refine wpList_build58 rfl rfl hbd ?_ | refine wpList_store25 rfl (.tmp 4) (.tmp 18) rfl g0 N rfl rfl _ hR0 ?_)
    exact retBT rfl g0 N rfl (setRow_heap _ _ _ _ _ _ hR0) rfl ⟨rfl, HFin.out⟩
end Go.Proofs.YtiadlcjdpbkbkaaGreatD
/- Put of a cache, in one form; no condition. -/
namespace Go.Proofs.YtiadlcjdpbkbkaaGreatD
open Go.RowKit Go.Maps
variable {w : World} {K : KLoc} {L : Loc} {s : CSt} {t : St}

def putC (s : CSt) (t : St) (k : Int) (f : Nat → Int) : CSt := if usedE s t k = 0 then { s with row := (useP s k).1 ++ [⟨k, true, f⟩] } else s
theorem useP_pos (s : CSt) (k : Int) : (useP s k).2.1.pos = k := by
  unfold useP
  cases ha : atR s.row k with
  | some x =>
    have := List.find?_some ha
    simpa using this
  | none => rfl
/-- The last one is held fast. -/
theorem CD.fastLast {sz : Int} {r : List Hld} {x : Hld} (h : CD w K L ⟨sz, r ++ [x]⟩ t) {l : List Nat} {g : Nat} (hns : K.ns = l ++ [g]) (hx : x.fast = false) {m : Int} (hm : m = (fastN (r ++ [x]) : Int) + 1) :
    ∃ K', CD ((w.setCell ⟨g, 1, none⟩ (.bool true)).setCell ⟨K.c, 5, none⟩ (.int .i64 m)) K' L ⟨sz, r ++ [⟨x.pos, true, x.dat⟩]⟩ t ∧ GoesC w ((w.setCell ⟨g, 1, none⟩ (.bool true)).setCell ⟨K.c, 5, none⟩ (.int .i64 m)) K L K' L := by
  have h1 := h.cache.holds
  rw [hns] at h1
  obtain ⟨rfl, rfl⟩ := map_snoc h1
  have hx' : (K.M g).fast = false := hx
  obtain ⟨a1, a2⟩ := h.cache.flag (p := l) (q := []) (g := g) hns true (m := m) (by
    rw [hm]
    simp [fastN, List.countP_append, hld, hx']) rfl
  obtain ⟨b1, b2⟩ := h.caches a1 rfl rfl (fun _ q => .inl q) a2
  exact ⟨_, b1, b2⟩
set_option maxRecDepth 20000 in
set_option maxHeartbeats 4000000 in
theorem putC_of (h : CD w K L s t) (k : Int) {f : Nat → Int} (hf : Can f) : Calls Tryz.prog 150 #[ptr K.c, .int .i64 k, .agg (blk f)] w fun e w' => e = .returned (.int .i64 (usedE s t k)) ∧
    ∃ K' L', CD w' K' L' (putC s t k f) t ∧ GoesC w w' K L K' L' := by
  have hA := h.later (below_new w (.cells (blk f) 47))
  have hA0 := GoesC.ofBelow K L (below_new w (.cells (blk f) 47))
  have R0 := heap_alloc_new w (.cells (blk f) 47)
  have hltK : ∀ i, K.has i → i < w.heap.size := h.cache.lt
  have hltL : ∀ i, L.has i → i < w.heap.size := h.disk.lt
  have hs0 : (w.alloc (.cells (blk f) 47)).heap.size = w.heap.size + 1 := by simp
  unfold putC
  by_cases hu : usedE s t k = 0
  · rw [if_pos hu, hu]
    have hU := use_ok hA hu
    have hpos := useP_pos s k
    generalize (useP s k).1 = r at *
    generalize (useP s k).2.2 = nw at *
    generalize (useP s k).2.1 = x at *
    have HF : Hid (∀ W1 K1 g l, K1.ns = l ++ [g] → hld K1.M g = x → CD W1 K1 L ⟨s.size, r ++ [x]⟩ t → GoesC (w.alloc (.cells (blk f) 47)) W1 K L K1 L →
        W1.heap[w.heap.size]? = some (.cells (blk f) 47) ∧ W1.there g 4 1024 ∧ K.c ≠ g ∧
        (W1.setCells g 4 (blk f).toList).cell? ⟨g, 1, none⟩ = some (.bool x.fast) ∧ (W1.setCells g 4 (blk f).toList).frozen? ⟨g, 1, none⟩ = false ∧
        (W1.setCells g 4 (blk f).toList).cell? ⟨K.c, 5, none⟩ = some (.int .i64 (fastN (r ++ [x]) : Int)) ∧ (W1.setCells g 4 (blk f).toList).frozen? ⟨K.c, 5, none⟩ = false ∧ (fastN (r ++ [x]) : Int) ≤ 4096 ∧
        (x.fast = true → ∃ K' L', CD (W1.setCells g 4 (blk f).toList) K' L' { s with row := r ++ [⟨k, true, f⟩] } t ∧ GoesC w (W1.setCells g 4 (blk f).toList) K L K' L') ∧
        (x.fast = false → ∃ K' L', CD (((W1.setCells g 4 (blk f).toList).setCell ⟨g, 1, none⟩ (.bool true)).setCell ⟨K.c, 5, none⟩ (.int .i64 ((fastN (r ++ [x]) : Int) + 1))) K' L' { s with row := r ++ [⟨k, true, f⟩] } t ∧
          GoesC w (((W1.setCells g 4 (blk f).toList).setCell ⟨g, 1, none⟩ (.bool true)).setCell ⟨K.c, 5, none⟩ (.int .i64 ((fastN (r ++ [x]) : Int) + 1))) K L K' L')) := by
      intro W1 K1 g l hns hx h1 hG
      have hgm : g ∈ K1.ns := by rw [hns]; simp
      have hnd := h1.cache.nodes g (.inr hgm)
      obtain ⟨K3, c1, c2, c3, c4, c5⟩ := h1.bytesLast hns hf
      obtain ⟨pp, qq, hrow3⟩ := c1.node (g := g) (by rw [c3]; exact hgm) c5
      have hfn : fastN (r ++ [⟨x.pos, x.fast, f⟩]) = fastN (r ++ [x]) := by simp [fastN, List.countP_append]
      have hcc : K3.c = K.c := c4.trans hG.c
      have d5 := c1.cache.c5
      have ff := c1.cache.free 5
      rw [hcc] at d5 ff
      rw [show (({ size := s.size, row := r ++ [⟨x.pos, x.fast, f⟩] } : CSt)).row = r ++ [⟨x.pos, x.fast, f⟩] from rfl, hfn] at d5
      have hle : (fastN (r ++ [x]) : Int) ≤ 4096 := by
        have a1 := fastN_le (r ++ [x])
        have a2 := h1.cache.ok.len
        have a3 := h1.cache.ok.size
        simp only at a2 a3
        omega
      refine ⟨(hG.fr.block _ (by omega) ?_).trans R0, hnd.there, ?_, hrow3.c1, hrow3.free 1, d5, ff, hle, ?_, ?_⟩
      · rintro (q | q)
        · have := hltK _ q; omega
        · have := hltL _ q; omega
      · rw [← hG.c]
        exact (h1.cache.cne (.inr hgm)).symm
      · intro hx1
        rw [hpos, hx1] at c1
        exact ⟨K3, L, c1, hA0.trans (hG.trans c2)⟩
      · intro hx0
        obtain ⟨K4, e1, e2⟩ := c1.fastLast (by rw [c3]; exact hns) hx0 (m := (fastN (r ++ [x]) : Int) + 1) (by rw [hfn])
        rw [hcc] at e1 e2
        rw [show (⟨x.pos, x.fast, f⟩ : Hld).pos = x.pos from rfl, hpos] at e1
        exact ⟨K4, L, e1, hA0.trans (hG.trans (c2.trans e2))⟩
    clear h hA hA0 R0 hltK hltL hs0 hu hpos hf
    have HU : Hid (Calls Tryz.prog 100 _ _ _) := hU
    clear hU
    unfold ptr
    go_enter Tryz.func150, Tryz.ntmps150
    go_wp2_with (go_at_call 100; fail)
    refine HU.out.mono ?_
    rintro e W1 ⟨K1, g, l, rfl, hns, hx, h1, hG⟩
    obtain ⟨hR0, hth, hcg, g1, fg, d5, ff, hle, hA1, hA2⟩ := HF.out W1 K1 g l hns hx h1 hG
    have H1 : Hid _ := hA1
    have H2 : Hid _ := hA2
    clear HU HF hns hx h1 hG hA1 hA2
    generalize w.heap.size = g0 at *
    generalize hW3 : W1.setCells g 4 (blk f).toList = W3 at *
    generalize fastN (r ++ [x]) = n at *
    have hw5 : IntKind.i64.wrap ((n : Int) + 1) = (n : Int) + 1 := by rw [IntKind.wrap_i64]; omega
    unfold ptr
    cases hxf : x.fast
    · rw [hxf] at g1
      have H3 := H2.out hxf
      have H4 : Hid _ := H3
      clear H1 H2 H3
      go_wp2_with (first | (refine wpList_load25 rfl (.tmp 5) rfl g0 rfl f hR0 ?_) | (refine wpList_storeM rfl (.tmp 23) (.tmp 21) rfl rfl f rfl hth ?_; rw [hW3]))
      go_ret
      exact ⟨rfl, H4.out⟩
    · rw [hxf] at g1
      have H3 := H1.out hxf
      have H4 : Hid _ := H3
      clear H1 H2 H3
      go_wp2_with (first | (refine wpList_load25 rfl (.tmp 5) rfl g0 rfl f hR0 ?_) | (refine wpList_storeM rfl (.tmp 23) (.tmp 21) rfl rfl f rfl hth ?_; rw [hW3]))
      go_ret
      exact ⟨rfl, H4.out⟩
  · rw [if_neg hu]
    have hU := use_err hA hu
    have hne : (usedE s t k != 0) = true := by simp [hu]
    have HF : Hid (∀ W1, Below (w.alloc (.cells (blk f) 47)).heap.size (w.alloc (.cells (blk f) 47)) W1 → ∃ K' L', CD W1 K' L' s t ∧ GoesC w W1 K L K' L') := fun W1 hB => ⟨K, L, hA.later hB, hA0.trans (GoesC.ofBelow K L hB)⟩
    clear h hA hA0 R0 hltK hltL hs0 hu hf
    generalize usedE s t k = E at *
    have HU : Hid (Calls Tryz.prog 100 _ _ _) := hU
    clear hU
    unfold ptr
    go_enter Tryz.func150, Tryz.ntmps150
    go_wp2_with (go_at_call 100; fail)
    refine HU.out.mono ?_
    rintro e W1 ⟨rfl, hB⟩
    have HFin : Hid _ := HF.out W1 hB
    clear HU HF hB
    unfold nilp
    go_wp2
    go_ret
    exact ⟨rfl, HFin.out⟩
end Go.Proofs.YtiadlcjdpbkbkaaGreatD
/- Flush of a cache, in one form; no condition but that numbers do not pass their greatest. -/
namespace Go.Proofs.YtiadlcjdpbkbkaaGreatD
open Go.RowKit Go.Maps
variable {w : World} {K : KLoc} {L : Loc} {s : CSt} {t : St}

theorem write_any (h : DiskAt w L t) (hr : Room t) (k : Int) {f : Nat → Int} (hf : Can f) :
    Calls Tryz.prog 23 #[.pointer (some ⟨L.d, 0, none⟩), .int .i64 k, .agg (blk f)] w fun e w' => e = .returned (.int .i64 (writeE t k)) ∧ ∃ L', DiskAt w' L' (writeV t k f) ∧ Goes w w' L L' := by
  unfold writeE writeV
  by_cases hb : refV t k = 0
  · rw [if_pos hb, if_pos hb]
    cases hl : lets t
    · exact (write_dead h hr hb hl f).mono fun e W' ⟨h1, h2, h3⟩ => ⟨h1, L, h2, h3⟩
    · exact (write_ok h hr hb hl hf).mono fun e W' ⟨h1, L', h2, h3⟩ => ⟨h1, L', h2, h3⟩
  · rw [if_neg hb, if_neg hb]
    exact (write_bad h hb f).mono fun e W' ⟨h1, h2⟩ => ⟨h1, L, h.later h2, Goes.ofBelow L h2⟩
def unfast (r : List Hld) (k : Int) : List Hld := r.map fun x => if x.pos = k then ⟨x.pos, false, x.dat⟩ else x
def flushE (s : CSt) (t : St) (k : Int) : Int := if refV t k = 0 then (match atR s.row k with | some h => if h.fast then writeE t k else 0 | none => 0) else refV t k
def flushC (s : CSt) (t : St) (k : Int) : CSt := if refV t k = 0 then (match atR s.row k with | some h => if h.fast ∧ writeE t k = 0 then { s with row := unfast s.row k } else s | none => s) else s
def flushD (s : CSt) (t : St) (k : Int) : St := if refV t k = 0 then (match atR s.row k with | some h => if h.fast then writeV t k h.dat else t | none => t) else t
theorem unfast_split (h : CacheAt w K s) {p q : List Nat} {g : Nat} (hns : K.ns = p ++ g :: q) {k : Int} (hk : posOf K.M g = k) : unfast s.row k = p.map (hld K.M) ++ ⟨(K.M g).pos, false, (K.M g).dat⟩ :: q.map (hld K.M) := by
  have hnd := h.posNd
  rw [hns] at hnd
  have h4 := ((List.perm_middle.map (posOf K.M)).nodup_iff).1 hnd
  rw [List.map_cons, List.nodup_cons] at h4
  have hne : ∀ x ∈ p ++ q, posOf K.M x ≠ k := fun x hx e => h4.1 (List.mem_map.2 ⟨x, hx, by rw [e, hk]⟩)
  have hk' : (K.M g).pos = k := hk
  unfold unfast
  rw [h.holds, hns, List.map_append, List.map_append, List.map_cons, List.map_cons, List.map_map, List.map_map]
  have e1 : ∀ l : List Nat, (∀ x ∈ l, x ∈ p ++ q) → l.map ((fun x : Hld => if x.pos = k then ⟨x.pos, false, x.dat⟩ else x) ∘ hld K.M) = l.map (hld K.M) := fun l hl =>
    List.map_congr_left fun x hx => by
      have : (hld K.M x).pos ≠ k := hne x (hl x hx)
      simp [this]
  rw [e1 p fun x hx => by simp [hx], e1 q fun x hx => by simp [hx]]
  congr 2
  show (if (K.M g).pos = k then (⟨(K.M g).pos, false, (K.M g).dat⟩ : Hld) else hld K.M g) = _
  rw [if_pos hk']
set_option maxRecDepth 20000 in
set_option maxHeartbeats 4000000 in
theorem flushC_of (h : CD w K L s t) (hr : Room t) (k : Int) : Calls Tryz.prog 83 #[ptr K.c, .int .i64 k] w fun e w' => e = .returned (.int .i64 (flushE s t k)) ∧
    ∃ K' L', CD w' K' L' (flushC s t k) (flushD s t k) ∧ GoesC w w' K L K' L' := by
  have hR := refusesC_of h k
  have hmap := h.cache.map
  have c3 := h.cache.c3
  have c1 := h.cache.c1
  rw [h.d] at c1
  have z71 := zero71
  unfold flushE flushC flushD
  by_cases hb : refV t k = 0
  · rw [if_pos hb, if_pos hb, if_pos hb]
    rw [hb] at hR
    have hwf : (Lit.int .i64 k).wf = true := inTop.wf (inTop_of h.disk.ok (refV_ok hb).2)
    cases ha : atR s.row k with
    | none =>
      have hmv := mapV_none (atR_none h.cache ha)
      have HFin : Hid (∃ K' L', CD w K' L' s t ∧ GoesC w w K L K' L') := ⟨K, L, h, GoesC.refl _ _ _⟩
      clear h hb ha hr
      unfold nilp at z71
      unfold ptr at c1 hR ⊢
      go_enter Tryz.func83, Tryz.ntmps83
      go_wp2_with (first | (go_at_call 101; refine hR.mono ?_; rintro e W ⟨rfl, rfl⟩) | (refine wpList_lookM_none rfl (.tmp 19) (.tmp 20) 144 rfl 141 Tryz.underlying3 keyed3 Tryz.underlying144 rfl hmap (z71 _) k hwf rfl hmv ?_))
      go_ret
      exact ⟨rfl, HFin.out⟩
    | some x =>
      obtain ⟨p, g, q, hns, hx, hg, _, _⟩ := atR_some h.cache ha
      have hgm : g ∈ K.ns := by rw [hns]; simp
      have hmv : mapV K.M K.ns k = some (ptr g) := by rw [← hg]; exact mapV_some h.cache.posNd hgm
      obtain ⟨pp, qq, hrow⟩ := h.node hgm hx
      have g1 := hrow.c1
      simp only
      cases hxf : x.fast
      · rw [hxf] at g1
        rw [if_neg (by simp), if_neg (by simp), if_neg (by simp)]
        have HFin : Hid (∃ K' L', CD w K' L' s t ∧ GoesC w w K L K' L') := ⟨K, L, h, GoesC.refl _ _ _⟩
        clear h hb ha hr hns hx hg hgm hrow
        unfold nilp at z71
        unfold ptr at c1 hR hmv ⊢
        go_enter Tryz.func83, Tryz.ntmps83
        go_wp2_with (first | (go_at_call 101; refine hR.mono ?_; rintro e W ⟨rfl, rfl⟩) | (refine wpList_lookM_some rfl (.tmp 19) (.tmp 20) 144 rfl 141 Tryz.underlying3 keyed3 Tryz.underlying144 rfl hmap (z71 _) k hwf rfl _ hmv ?_))
        go_ret
        exact ⟨rfl, HFin.out⟩
      · rw [hxf] at g1
        rw [if_pos rfl, if_pos rfl]
        simp only [true_and]
        have hB : BlkAt w g 4 x.dat := hrow.bytes
        have hcan : Can x.dat := (h.cache.ok.pos x (by rw [h.cache.holds]; exact List.mem_map.2 ⟨g, hgm, hx⟩)).2
        have hDd : CD w.drew K L s t := h.later ⟨rfl, rfl, rfl, Nat.le_refl _, fun _ _ => rfl⟩
        have hwr := write_any hDd.disk hr k hcan
        have HF : Hid (∀ W2 L2, DiskAt W2 L2 (writeV t k x.dat) → Goes w.drew W2 L L2 →
            (writeE t k ≠ 0 → ∃ K' L', CD W2 K' L' s (writeV t k x.dat) ∧ GoesC w W2 K L K' L') ∧
            W2.cell? ⟨g, 1, none⟩ = some (.bool true) ∧ W2.frozen? ⟨g, 1, none⟩ = false ∧ W2.cell? ⟨K.c, 5, none⟩ = some (.int .i64 (fastN s.row : Int)) ∧ W2.frozen? ⟨K.c, 5, none⟩ = false ∧ K.c ≠ g ∧ (1 ≤ (fastN s.row : Int) ∧ (fastN s.row : Int) ≤ 4096) ∧
            (∃ K' L', CD ((W2.setCell ⟨g, 1, none⟩ (.bool false)).setCell ⟨K.c, 5, none⟩ (.int .i64 ((fastN s.row : Int) - 1))) K' L' { s with row := unfast s.row k } (writeV t k x.dat) ∧
              GoesC w ((W2.setCell ⟨g, 1, none⟩ (.bool false)).setCell ⟨K.c, 5, none⟩ (.int .i64 ((fastN s.row : Int) - 1))) K L K' L')) := by
          intro W2 L2 hD2 hG2
          obtain ⟨b1, b2⟩ := hDd.disks hD2 hG2
          have hGd : GoesC w w.drew K L K L := GoesC.ofBelow K L ⟨rfl, rfl, rfl, Nat.le_refl _, fun _ _ => rfl⟩
          obtain ⟨p2, q2, hrow2⟩ := b1.node hgm hx
          have e1 := hrow2.c1
          rw [hxf] at e1
          have hsp := unfast_split b1.cache hns hg
          have hfm : (K.M g).fast = true := by have := congrArg Hld.fast hx; rw [hxf] at this; exact this
          have hcnt : fastN s.row = fastN (p.map (hld K.M) ++ ⟨(K.M g).pos, false, (K.M g).dat⟩ :: q.map (hld K.M)) + 1 := by
            rw [h.cache.holds, hns]
            simp [fastN, List.countP_append, hld, hfm]
            omega
          have hle : (fastN s.row : Int) ≤ 4096 := by
            have a1 := fastN_le s.row
            have a2 := h.cache.ok.len
            have a3 := h.cache.ok.size
            omega
          obtain ⟨a1, a2⟩ := b1.cache.flag hns false (m := (fastN s.row : Int) - 1) (by rw [hcnt]; omega) rfl
          rw [← hsp] at a1
          obtain ⟨d1, d2⟩ := b1.caches a1 rfl rfl (fun _ q => .inl q) a2
          exact ⟨fun _ => ⟨K, L2, b1, hGd.trans b2⟩, e1, hrow2.free 1, b1.cache.c5, b1.cache.free 5, (b1.cache.cne (.inr hgm)).symm, ⟨by omega, hle⟩, _, L2, d1, hGd.trans (b2.trans d2)⟩
        clear h hb ha hr hns hx hg hgm hrow hDd
        have HW : Hid (Calls Tryz.prog 23 _ _ _) := hwr
        clear hwr
        generalize hE : writeE t k = E at *
        generalize writeV t k x.dat = t' at *
        generalize hn : (fastN s.row : Int) = n at *
        have HE : Hid (E = 0 ∨ E ≠ 0) := Classical.em _
        have hBd : BlkAt w g 4 x.dat := hB
        generalize x.dat = f at *
        unfold nilp at z71
        unfold ptr at c1 hR hmv ⊢
        go_enter Tryz.func83, Tryz.ntmps83
        go_wp2_with (first | (go_at_call 101; refine hR.mono ?_; rintro e W ⟨rfl, rfl⟩) | (refine wpList_lookM_some rfl (.tmp 19) (.tmp 20) 144 rfl 141 Tryz.underlying3 keyed3 Tryz.underlying144 rfl hmap (z71 _) k hwf rfl _ hmv ?_))
        go_still_tail 9, (by kernel_rfl)
        refine wpStill_loadM rfl (.tmp 40) rfl g 4 rfl f hBd ?_
        refine wpStill_nil ?_
        change wpList _ _ _ _ _ (World.drew _)
        clear hB hBd hmap hR c3 g1 hwf z71 hmv
        go_wp2_with (go_at_call 23; fail)
        refine HW.out.mono ?_
        rintro e W2 ⟨rfl, L2, hD2, hG2⟩
        obtain ⟨a1, g1, fg, d5, f5, hcg, hn1, a2⟩ := HF.out W2 L2 hD2 hG2
        have HA1 : Hid _ := a1
        have HA2 : Hid _ := a2
        have hw5 : IntKind.i64.wrap (n - 1) = n - 1 := by rw [IntKind.wrap_i64]; omega
        clear HF HW hD2 hG2 a1 a2
        rcases HE.out with rfl | hE0
        · have HR : Hid _ := HA2.out
          clear HA1 HA2 HE
          go_wp2
          go_ret
          exact ⟨rfl, HR.out⟩
        · have HR : Hid _ := HA1.out hE0
          have hne : (E != 0) = true := by simp [hE0]
          clear HA1 HA2 HE
          go_wp2
          go_ret
          exact ⟨rfl, HR.out⟩
  · rw [if_neg hb, if_neg hb, if_neg hb]
    have hne : (refV t k != 0) = true := by simp [hb]
    have HFin : Hid (∃ K' L', CD w K' L' s t ∧ GoesC w w K L K' L') := ⟨K, L, h, GoesC.refl _ _ _⟩
    clear h hb hr
    generalize refV t k = r at *
    unfold ptr at *
    go_enter Tryz.func83, Tryz.ntmps83
    go_wp2_with (first | (go_at_call 101; refine hR.mono ?_; rintro e W ⟨rfl, rfl⟩))
    go_ret
    exact ⟨rfl, HFin.out⟩
end Go.Proofs.YtiadlcjdpbkbkaaGreatD
/- A cache and its disk that a function made itself, with blocks beside them that stay: each call once more, in one form; no condition but that numbers do not pass their greatest. -/
namespace Go.Proofs.YtiadlcjdpbkbkaaGreatD
open Go.RowKit Go.Maps

structure CS (w W : World) (K : KLoc) (L : Loc) (s : CSt) (t : St) (ks : List (Nat × Obj)) : Prop where
  cd : CD W K L s t
  newK : ∀ k, K.has k → w.heap.size ≤ k
  newL : ∀ k, L.has k → w.heap.size ≤ k
  below : Below w.heap.size w W
  keep : ∀ p ∈ ks, W.heap[p.1]? = some p.2 ∧ ¬ K.has p.1 ∧ ¬ L.has p.1
def Sit (w W : World) (c d : Nat) (s : CSt) (t : St) (ks : List (Nat × Obj)) : Prop := ∃ K L, K.c = c ∧ L.d = d ∧ CS w W K L s t ks
variable {w W : World} {c d : Nat} {s : CSt} {t : St} {ks : List (Nat × Obj)} {K : KLoc} {L : Loc}
theorem CS.goes {W' : World} {K' : KLoc} {L' : Loc} {s' : CSt} {t' : St} (h : CS w W K L s t ks) (hD : CD W' K' L' s' t') (hG : GoesC W W' K L K' L') : CS w W' K' L' s' t' ks := by
  have hsz := h.below.size
  refine ⟨hD, fun k hk => ?_, fun k hk => ?_, h.below.trans (hG.fr.below (fun i q => q.elim (h.newK i) (h.newL i)) hsz), fun p hp => ?_⟩
  · rcases hG.ownK k hk with q | q
    · exact h.newK k q
    · omega
  · rcases hG.ownL k hk with q | q
    · exact h.newL k q
    · omega
  · obtain ⟨h1, h2, h3⟩ := h.keep p hp
    have hlt := (Array.getElem?_eq_some_iff.1 h1).1
    refine ⟨(hG.fr.block p.1 hlt fun q => q.elim h2 h3).trans h1, fun q => ?_, fun q => ?_⟩
    · rcases hG.ownK p.1 q with q | q
      · exact h2 q
      · omega
    · rcases hG.ownL p.1 q with q | q
      · exact h3 q
      · omega
theorem Sit.goes {W' : World} {K' : KLoc} {L' : Loc} {s' : CSt} {t' : St} (hc : K.c = c) (hd : L.d = d) (h : CS w W K L s t ks) (hD : CD W' K' L' s' t') (hG : GoesC W W' K L K' L') : Sit w W' c d s' t' ks := ⟨K', L', hG.c.trans hc, hG.d.trans hd, h.goes hD hG⟩
theorem Sit.later {W' : World} (h : Sit w W c d s t ks) (hb : Below W.heap.size W W') : Sit w W' c d s t ks := by
  obtain ⟨K, L, hc, hd, h⟩ := h
  exact Sit.goes hc hd h (h.cd.later hb) (GoesC.ofBelow K L hb)
theorem Sit.drew (h : Sit w W c d s t ks) : Sit w W.drew c d s t ks := h.later ⟨rfl, rfl, rfl, Nat.le_refl _, fun _ _ => rfl⟩
theorem Sit.add (h : Sit w W c d s t ks) (o : Obj) : Sit w (W.alloc o) c d s t ((W.heap.size, o) :: ks) := by
  obtain ⟨K, L, hc, hd, h⟩ := h
  have h2 := h.goes (h.cd.later (below_new W o)) (GoesC.ofBelow K L (below_new W o))
  refine ⟨K, L, hc, hd, h2.cd, h2.newK, h2.newL, h2.below, fun p hp => ?_⟩
  rcases List.mem_cons.1 hp with rfl | hp
  · exact ⟨heap_alloc_new W o, fun q => by have := h.cd.cache.lt _ q; simp only at this; omega, fun q => by have := h.cd.disk.lt _ q; simp only at this; omega⟩
  · exact h2.keep p hp
/-- A block beside is written. -/
theorem Sit.setRow {g : Nat} {cs cs' : Array Value} {ty : TypeId} (h : Sit w W c d s t ((g, .cells cs ty) :: ks)) (hg : w.heap.size ≤ g) (hks : ∀ p ∈ ks, p.1 ≠ g) : Sit w (W.setRow g cs') c d s t ((g, .cells cs' ty) :: ks) := by
  obtain ⟨K, L, hc, hd, h⟩ := h
  obtain ⟨h1, h2, h3⟩ := h.keep _ (List.mem_cons_self ..)
  refine ⟨K, L, hc, hd, h.cd.setRow h2 h3 _, h.newK, h.newL, h.below.trans ⟨rfl, rfl, rfl, by simp, fun k hk => setRow_other W g k _ (by omega)⟩, fun p hp => ?_⟩
  rcases List.mem_cons.1 hp with rfl | hp
  · exact ⟨setRow_heap _ _ _ _ _ _ h1, h2, h3⟩
  · obtain ⟨a1, a2, a3⟩ := h.keep p (List.mem_cons_of_mem _ hp)
    exact ⟨(setRow_other W g p.1 _ (hks p hp)).trans a1, a2, a3⟩
theorem Sit.blk (h : Sit w W c d s t ks) {g : Nat} {o : Obj} (hm : (g, o) ∈ ks) : W.heap[g]? = some o := by
  obtain ⟨K, L, hc, hd, h⟩ := h
  exact (h.keep _ hm).1
theorem Sit.below (h : Sit w W c d s t ks) : Below w.heap.size w W := by
  obtain ⟨K, L, hc, hd, h⟩ := h
  exact h.below
theorem Sit.ok (h : Sit w W c d s t ks) : COk s ∧ Ok t := by
  obtain ⟨K, L, hc, hd, h⟩ := h
  exact ⟨h.cd.cache.ok, h.cd.disk.ok⟩
theorem Sit.drop (h : Sit w W c d s t ks) {ks' : List (Nat × Obj)} (hs : ∀ p ∈ ks', p ∈ ks) : Sit w W c d s t ks' := by
  obtain ⟨K, L, hc, hd, h⟩ := h
  exact ⟨K, L, hc, hd, h.cd, h.newK, h.newL, h.below, fun p hp => h.keep p (hs p hp)⟩
/-- A cache of a disk. -/
theorem sit_new {n : Int} (h : Sits w W d t ks) (hs : 1 ≤ n ∧ n ≤ 4096) :
    Calls Tryz.prog 76 #[ptr d, .int .i64 n] W fun e W' => ∃ c, e = .returned (.tuple #[ptr c, .int .i64 0]) ∧ Sit w W' c d (newC n) t ks := by
  obtain ⟨L, rfl, h⟩ := h
  refine (newC_ok h.disk hs).mono ?_
  rintro e W' ⟨rfl, h1, h2⟩
  have hsz := h.below.size
  refine ⟨_, rfl, newK W L.d, L, rfl, rfl, ⟨h1, h.disk.later h2, rfl, ?_⟩, ?_, h.new, below_next h.below h2, fun p hp => ?_⟩
  · rintro k hk hl
    have := h.disk.lt k hl
    rcases hk with q | q | q | q
    · simp only [newK] at q; omega
    · simp only [newK] at q; omega
    · simp only [newK] at q; omega
    · simp [newK] at q
  · rintro k (q | q | q | q)
    · simp only [newK] at q; omega
    · simp only [newK] at q; omega
    · simp only [newK] at q; omega
    · simp [newK] at q
  · obtain ⟨a1, a2⟩ := h.keep p hp
    have hlt := (Array.getElem?_eq_some_iff.1 a1).1
    refine ⟨heap_kept a1 h2, ?_, a2⟩
    rintro (q | q | q | q)
    · simp only [newK] at q; omega
    · simp only [newK] at q; omega
    · simp only [newK] at q; omega
    · simp [newK] at q
theorem sit_read (h : Sit w W c d s t ks) (hr : Room t) (k : Int) : Calls Tryz.prog 82 #[ptr c, .int .i64 k] W fun e W' => e = .returned (.tuple #[.agg (blk (rdB s t k)), .int .i64 (usedE s t k)]) ∧ Sit w W' c d (rdC s t k) (rdD s t k) ks := by
  obtain ⟨K, L, rfl, rfl, h⟩ := h
  exact (readC_of h.cd hr k).mono fun e W' ⟨h1, K', L', h2, h3⟩ => ⟨h1, Sit.goes rfl rfl h h2 h3⟩
theorem sit_put (h : Sit w W c d s t ks) (k : Int) {f : Nat → Int} (hf : Can f) : Calls Tryz.prog 150 #[ptr c, .int .i64 k, .agg (Go.Proofs.YtiadlcjdpbkbkaaGreatD.blk f)] W fun e W' => e = .returned (.int .i64 (usedE s t k)) ∧ Sit w W' c d (putC s t k f) t ks := by
  obtain ⟨K, L, rfl, rfl, h⟩ := h
  exact (putC_of h.cd k hf).mono fun e W' ⟨h1, K', L', h2, h3⟩ => ⟨h1, Sit.goes rfl rfl h h2 h3⟩
theorem sit_flush (h : Sit w W c d s t ks) (hr : Room t) (k : Int) : Calls Tryz.prog 83 #[ptr c, .int .i64 k] W fun e W' => e = .returned (.int .i64 (flushE s t k)) ∧ Sit w W' c d (flushC s t k) (flushD s t k) ks := by
  obtain ⟨K, L, rfl, rfl, h⟩ := h
  exact (flushC_of h.cd hr k).mono fun e W' ⟨h1, K', L', h2, h3⟩ => ⟨h1, Sit.goes rfl rfl h h2 h3⟩
theorem dsit_read (h : Sit w W c d s t ks) (hr : Room t) (k : Int) : Calls Tryz.prog 24 #[ptr d, .int .i64 k] W fun e W' => e = .returned (.tuple #[.agg (Go.Proofs.YtiadlcjdpbkbkaaGreatD.blk (readB t k)), .int .i64 (refV t k)]) ∧ Sit w W' c d s (readV t k) ks := by
  obtain ⟨K, L, rfl, rfl, h⟩ := h
  unfold readB readV
  by_cases hb : refV t k = 0
  · rw [if_pos hb, if_pos hb, hb]
    refine (read_ok h.cd.disk hr hb).mono ?_
    rintro e W' ⟨rfl, h2, h3⟩
    obtain ⟨a1, a2⟩ := h.cd.disks h2 h3
    exact ⟨rfl, Sit.goes rfl rfl h a1 a2⟩
  · rw [if_neg hb, if_neg hb]
    refine (read_bad h.cd.disk hb).mono ?_
    rintro e W' ⟨rfl, h2⟩
    exact ⟨rfl, Sit.later ⟨K, L, rfl, rfl, h⟩ h2⟩
/-- New of a size that is none. -/
theorem newC_bad (hD : DiskAt W L t) {n : Int} (hs : n < 1 ∨ 4096 < n) : Calls Tryz.prog 76 #[ptr L.d, .int .i64 n] W fun e W' => e = .returned (.tuple #[nilp, .int .i64 2]) ∧ W' = W := by
  have hl := len_of hD
  have hn := hD.ok.n
  have hz0 : ¬ t.n = 0 := by omega
  clear hD
  unfold ptr nilp
  rcases hs with hs | hs
  · go_enter Tryz.func76, Tryz.ntmps76
    go_wp2_with (first | (go_at_call 56; refine hl.mono ?_; rintro e W ⟨rfl, rfl⟩))
    go_ret2
    exact ⟨rfl, rfl⟩
  · have hs' : ¬ n < 1 := by omega
    go_enter Tryz.func76, Tryz.ntmps76
    go_wp2_with (first | (go_at_call 56; refine hl.mono ?_; rintro e W ⟨rfl, rfl⟩))
    go_ret2
    exact ⟨rfl, rfl⟩
theorem newC_none {v : Value} (h : NoneAt W v) (n : Int) : Calls Tryz.prog 76 #[v, .int .i64 n] W fun e W' => e = .returned (.tuple #[nilp, .int .i64 1]) ∧ W' = W := by
  have hl := len_none h
  clear h
  unfold nilp
  go_enter Tryz.func76, Tryz.ntmps76
  go_wp2_with (first | (go_at_call 56; refine hl.mono ?_; rintro e W ⟨rfl, rfl⟩))
  go_ret2
  exact ⟨rfl, rfl⟩
theorem sit_bad (h : Sit w W c d s t ks) {n : Int} (hs : n < 1 ∨ 4096 < n) : Calls Tryz.prog 76 #[ptr d, .int .i64 n] W fun e W' => e = .returned (.tuple #[nilp, .int .i64 2]) ∧ W' = W := by
  obtain ⟨K, L, rfl, rfl, h⟩ := h
  exact newC_bad h.cd.disk hs
end Go.Proofs.YtiadlcjdpbkbkaaGreatD
/- The plain side of a log: what its cache holds and what the disk has, told by a book; what reads, puts, flushes, writes and barriers make of it; no condition. -/
namespace Go.Proofs.YtiadlcjdpbkbkaaGreatD
open Go.RowKit Go.Maps

/-- A block of the layout that is none of the log's own. -/
def Dat (b l k : Int) : Prop := (0 ≤ k ∧ k < b) ∧ ¬ (1 ≤ k ∧ k < 1 + l)
/-- The book agrees with the cache and the disk; F: what is held fast. -/
structure CInv (b l : Int) (s : CSt) (t : St) (book : Int → Nat → Int) (F : Int → Bool) : Prop where
  n : b ≤ t.n
  ok : COk s
  size : s.size = l
  row : ∀ h ∈ s.row, Dat b l h.pos ∧ h.dat = book h.pos ∧ h.fast = F h.pos
  held : ∀ k, F k = true → ∃ h ∈ s.row, h.pos = k
  same : ∀ k, Dat b l k → F k = false → book k = curV t k
variable {b l : Int} {s : CSt} {t : St} {book : Int → Nat → Int} {F : Int → Bool} {k : Int}
theorem CInv.ref (h : CInv b l s t book F) (hs : t.stopped = false) (hk : Dat b l k) : refV t k = 0 := by
  have := h.n
  obtain ⟨⟨h1, h2⟩, _⟩ := hk
  unfold refV
  rw [hs, if_neg (by simp), if_pos ⟨h1, by omega⟩]
theorem atR_mem {r : List Hld} {x : Hld} (h : atR r k = some x) : x ∈ r ∧ x.pos = k := ⟨List.mem_of_find?_eq_some h, by have := List.find?_some h; simpa using this⟩
theorem atR_not {r : List Hld} (h : atR r k = none) : ∀ x ∈ r, x.pos ≠ k := fun x hx e => by
  have := List.find?_eq_none.1 h x hx
  exact this (by simp [e])
theorem CInv.used (h : CInv b l s t book F) (hs : t.stopped = false) (hk : Dat b l k) (hf : (fastN s.row : Int) < l) : usedE s t k = 0 := by
  unfold usedE
  have := h.size
  rw [h.ref hs hk, if_neg (by simp), if_neg fun q => by have := q.2; omega]
theorem CInv.notHeld (h : CInv b l s t book F) (ha : atR s.row k = none) : F k = false := by
  cases hq : F k
  · rfl
  · obtain ⟨x, hx, e⟩ := h.held k hq
    exact absurd e (atR_not ha x hx)
theorem CInv.fastAt (h : CInv b l s t book F) (hF : F k = true) : ∃ x, atR s.row k = some x ∧ x ∈ s.row ∧ x.pos = k ∧ x.fast = true ∧ x.dat = book k := by
  cases ha : atR s.row k with
  | none => rw [h.notHeld ha] at hF; cases hF
  | some x =>
    obtain ⟨hx, e⟩ := atR_mem ha
    obtain ⟨_, h2, h3⟩ := h.row x hx
    exact ⟨x, rfl, hx, e, by rw [h3, e]; exact hF, by rw [h2, e]⟩
theorem CInv.reads (h : CInv b l s t book F) (hk : Dat b l k) (hu : usedE s t k = 0) : rdB s t k = book k := by
  unfold rdB
  rw [if_pos hu]
  cases ha : atR s.row k with
  | some x =>
    obtain ⟨hx, e⟩ := atR_mem ha
    simp only
    rw [(h.row x hx).2.1, e]
  | none =>
    simp only
    exact (h.same k hk (h.notHeld ha)).symm
theorem mem_gone {r : List Hld} {x : Hld} (hx : x ∈ r) (hn : x.pos ≠ k) : x ∈ goneR r k := List.mem_eraseP_of_neg (by simp [hn]) |>.2 hx
theorem fast_gone {r : List Hld} {x : Hld} (h : atR r k = some x) : fastN r = fastN (goneR r k) + (if x.fast then 1 else 0) := by
  induction r with
  | nil => simp [atR] at h
  | cons a l ih =>
    unfold atR at h
    rw [List.find?_cons] at h
    cases hp : a.pos == k with
    | true =>
      rw [hp] at h
      injection h with h
      subst h
      unfold goneR fastN
      rw [List.eraseP_cons_of_pos (by exact hp), List.countP_cons]
    | false =>
      rw [hp] at h
      have := ih h
      unfold goneR fastN at this ⊢
      rw [List.eraseP_cons_of_neg (by simp [hp]), List.countP_cons, List.countP_cons]
      omega
theorem fast_erase : ∀ r : List Hld, fastN (r.eraseP (fun h => !h.fast)) = fastN r
  | [] => rfl
  | a :: l => by
    have ih := fast_erase l
    unfold fastN at ih ⊢
    cases ha : a.fast
    · rw [List.eraseP_cons_of_pos (by simp [ha]), List.countP_cons]
      simp [ha]
    · rw [List.eraseP_cons_of_neg (by simp [ha]), List.countP_cons, List.countP_cons]
      omega
theorem fast_place (n : Int) (r : List Hld) : fastN (placeR n r) = fastN r := by
  unfold placeR
  split
  · rfl
  · exact fast_erase r
theorem place_keeps {n : Int} {r : List Hld} {x : Hld} (hx : x ∈ r) (hf : x.fast = true) : x ∈ placeR n r := by
  unfold placeR
  split
  · exact hx
  · exact (List.mem_eraseP_of_neg (by simp [hf])).2 hx
theorem mem_place {n : Int} {r : List Hld} {x : Hld} (hx : x ∈ placeR n r) : x ∈ r := (placeR_sub n r).subset hx
theorem gone_mem {r : List Hld} {x : Hld} (hx : x ∈ goneR r k) : x ∈ r := List.eraseP_subset hx
theorem curV_readS (t : St) : curV (readS t) = curV t := rfl
/-- A read that is answered. -/
theorem CInv.read (h : CInv b l s t book F) (hk : Dat b l k) (hu : usedE s t k = 0) (hok : COk (rdC s t k)) : CInv b l (rdC s t k) (rdD s t k) book F ∧ fastN (rdC s t k).row = fastN s.row ∧ (F k = true → rdD s t k = t) ∧ (rdD s t k = t ∨ rdD s t k = readS t) := by
  have hD : b ≤ (rdD s t k).n ∧ curV (rdD s t k) = curV t ∧ (F k = true → rdD s t k = t) ∧ (rdD s t k = t ∨ rdD s t k = readS t) := by
    unfold rdD
    rw [if_pos hu]
    cases ha : atR s.row k with
    | some x => exact ⟨h.n, rfl, fun _ => rfl, .inl rfl⟩
    | none => exact ⟨h.n, rfl, fun hF => (by rw [h.notHeld ha] at hF; cases hF), .inr rfl⟩
  refine ⟨?_, ?_, hD.2.2⟩
  · unfold rdC at hok ⊢
    rw [if_pos hu] at hok ⊢
    cases ha : atR s.row k with
    | some x =>
      rw [ha] at hok
      simp only at hok ⊢
      obtain ⟨hx, e⟩ := atR_mem ha
      refine ⟨hD.1, hok, h.size, fun y hy => ?_, fun j hf => ?_, fun j hj hf => by rw [hD.2.1]; exact h.same j hj hf⟩
      · rcases List.mem_append.1 hy with hy | hy
        · exact h.row y (gone_mem hy)
        · obtain rfl : y = x := by simpa using hy
          exact h.row y hx
      · obtain ⟨y, hy, ey⟩ := h.held j hf
        by_cases hjk : y.pos = k
        · exact ⟨x, by simp, by rw [e, ← hjk, ey]⟩
        · exact ⟨y, List.mem_append.2 (.inl (mem_gone hy hjk)), ey⟩
    | none =>
      rw [ha] at hok
      simp only at hok ⊢
      have hn := h.notHeld ha
      refine ⟨hD.1, hok, h.size, fun y hy => ?_, fun j hf => ?_, fun j hj hf => by rw [hD.2.1]; exact h.same j hj hf⟩
      · rcases List.mem_append.1 hy with hy | hy
        · exact h.row y (mem_place hy)
        · obtain rfl : y = ⟨k, false, curV t k⟩ := by simpa using hy
          exact ⟨hk, (h.same k hk hn).symm, hn.symm⟩
      · obtain ⟨y, hy, ey⟩ := h.held j hf
        have hyf : y.fast = true := by rw [(h.row y hy).2.2, ey]; exact hf
        exact ⟨y, List.mem_append.2 (.inl (place_keeps hy hyf)), ey⟩
  · unfold rdC
    rw [if_pos hu]
    cases ha : atR s.row k with
    | some x =>
      have := fast_gone ha
      unfold fastN at this ⊢
      simp only
      rw [List.countP_append, this]
      simp
    | none =>
      have := fast_place s.size s.row
      unfold fastN at this ⊢
      simp only
      rw [List.countP_append, this]
      simp
/-- A put that is answered. -/
theorem CInv.put (h : CInv b l s t book F) (hk : Dat b l k) (hu : usedE s t k = 0) (f : Nat → Int) (hok : COk (putC s t k f)) :
    CInv b l (putC s t k f) t (fun j => if j = k then f else book j) (fun j => if j = k then true else F j) ∧ (fastN (putC s t k f).row : Int) = fastN s.row + (if F k then 0 else 1) := by
  unfold putC at hok ⊢
  rw [if_pos hu] at hok ⊢
  have hsame : ∀ j, Dat b l j → (if j = k then true else F j) = false → (if j = k then f else book j) = curV t j := by
    intro j hj hf
    by_cases e : j = k
    · rw [if_pos e] at hf; cases hf
    · rw [if_neg e] at hf ⊢
      exact h.same j hj hf
  have hnew : ∀ y : Hld, y ∈ s.row → y.pos ≠ k → Dat b l y.pos ∧ y.dat = (if y.pos = k then f else book y.pos) ∧ y.fast = (if y.pos = k then true else F y.pos) := by
    intro y hy hne
    rw [if_neg hne, if_neg hne]
    exact h.row y hy
  unfold useP at hok ⊢
  cases ha : atR s.row k with
  | some z =>
    rw [ha] at hok
    simp only at hok ⊢
    obtain ⟨hz, e⟩ := atR_mem ha
    have hzf : z.fast = F k := by rw [(h.row z hz).2.2, e]
    have hgn : ∀ y ∈ goneR s.row k, y.pos ≠ k := by
      intro y hy hyk
      have hnd := h.ok.nodup
      obtain ⟨l1, l2, h1, h2⟩ : ∃ l1 l2, s.row = l1 ++ z :: l2 ∧ goneR s.row k = l1 ++ l2 := by
        obtain ⟨a, l1, l2, a1, a2, a3, a4⟩ := List.exists_of_eraseP hz (p := fun h => h.pos == k) (by simp [e])
        have haz : a = z := by
          have hm : a ∈ s.row := by rw [a3]; simp
          exact nodup_map_inj s.row hnd a z hm hz (by have : a.pos = k := by simpa using a2
                                                      rw [this, e])
        subst haz
        exact ⟨l1, l2, a3, a4⟩
      rw [h2] at hy
      rw [h1] at hnd
      have h4 := ((List.perm_middle.map (fun x : Hld => x.pos)).nodup_iff).1 hnd
      rw [List.map_cons, List.nodup_cons] at h4
      exact h4.1 (List.mem_map.2 ⟨y, hy, by rw [hyk, e]⟩)
    refine ⟨⟨h.n, hok, h.size, fun y hy => ?_, fun j hf => ?_, hsame⟩, ?_⟩
    · rcases List.mem_append.1 hy with hy | hy
      · exact hnew y (gone_mem hy) (hgn y hy)
      · obtain rfl : y = ⟨k, true, f⟩ := by simpa using hy
        exact ⟨hk, by simp, by simp⟩
    · by_cases ej : j = k
      · exact ⟨⟨k, true, f⟩, by simp, ej.symm⟩
      · rw [if_neg ej] at hf
        obtain ⟨y, hy, ey⟩ := h.held j hf
        exact ⟨y, List.mem_append.2 (.inl (mem_gone hy (by rw [ey]; exact ej))), ey⟩
    · have := fast_gone ha
      rw [hzf] at this
      unfold fastN at this ⊢
      rw [List.countP_append, this]
      cases F k <;> simp
  | none =>
    rw [ha] at hok
    simp only at hok ⊢
    have hno := atR_not ha
    have hn := h.notHeld ha
    refine ⟨⟨h.n, hok, h.size, fun y hy => ?_, fun j hf => ?_, hsame⟩, ?_⟩
    · rcases List.mem_append.1 hy with hy | hy
      · exact hnew y (mem_place hy) (hno y (mem_place hy))
      · obtain rfl : y = ⟨k, true, f⟩ := by simpa using hy
        exact ⟨hk, by simp, by simp⟩
    · by_cases ej : j = k
      · exact ⟨⟨k, true, f⟩, by simp, ej.symm⟩
      · rw [if_neg ej] at hf
        obtain ⟨y, hy, ey⟩ := h.held j hf
        have hyf : y.fast = true := by rw [(h.row y hy).2.2, ey]; exact hf
        exact ⟨y, List.mem_append.2 (.inl (place_keeps hy hyf)), ey⟩
    · have := fast_place s.size s.row
      unfold fastN at this ⊢
      rw [List.countP_append, this, hn]
      simp
theorem lastAt_put (l : List Cel) (j : Int) (f : Nat → Int) : lastAt (l ++ [(k, f)]) j = if k = j then some l.length else lastAt l j := lastAt_snoc (k, f) j l
theorem cur_write (hl : lets t = true) (hk : refV t k = 0) (f : Nat → Int) (j : Int) : curV (writeV t k f) j = if k = j then f else curV t j := by
  unfold writeV
  rw [if_pos hk, hl, if_pos rfl]
  have hw : (writeS t k f).wait = t.wait ++ [(k, f)] := rfl
  have hh : (writeS t k f).held = t.held := letV_held t
  by_cases e : k = j
  · rw [if_pos e, curV_wait (i := t.wait.length) (c := (k, f)) (by rw [hw, lastAt_put, if_pos e]) (by rw [hw]; simp)]
  · rw [if_neg e]
    have hla : lastAt (writeS t k f).wait j = lastAt t.wait j := by rw [hw, lastAt_put, if_neg e]
    cases hq : lastAt t.wait j with
    | some i =>
      obtain ⟨c, hc, _⟩ := lastAt_spec j _ i hq
      have hi := (List.getElem?_eq_some_iff.1 hc).1
      rw [curV_wait (hla.trans hq) (c := c) (by rw [hw, List.getElem?_append_left hi]; exact hc), curV_wait hq hc]
    | none => rw [curV_held (hla.trans hq), curV_held hq, hh]
theorem fast_unfast {r : List Hld} {z : Hld} (hnd : (r.map (·.pos)).Nodup) (hz : z ∈ r) (e : z.pos = k) (hf : z.fast = true) : (fastN (unfast r k) : Int) = fastN r - 1 := by
  induction r with
  | nil => simp at hz
  | cons a l ih =>
    rw [List.map_cons, List.nodup_cons] at hnd
    unfold unfast fastN
    rw [List.map_cons, List.countP_cons, List.countP_cons]
    by_cases ha : a.pos = k
    · have hza : z = a := by
        rcases List.mem_cons.1 hz with h | h
        · exact h
        · exact absurd (List.mem_map.2 ⟨z, h, by rw [e, ha]⟩) hnd.1
      subst hza
      have hl : l.map (fun x : Hld => if x.pos = k then (⟨x.pos, false, x.dat⟩ : Hld) else x) = l := by
        have : ∀ x ∈ l, (if x.pos = k then (⟨x.pos, false, x.dat⟩ : Hld) else x) = x := fun x hx => by
          rw [if_neg fun q => hnd.1 (List.mem_map.2 ⟨x, hx, by rw [q, ha]⟩)]
        rw [List.map_congr_left this]
        exact List.map_id' _
      rw [hl, if_pos ha, hf]
      simp
    · have hz' : z ∈ l := by
        rcases List.mem_cons.1 hz with h | h
        · exact absurd (h ▸ e) ha
        · exact h
      have := ih hnd.2 hz'
      unfold unfast fastN at this
      rw [if_neg ha]
      omega
/-- What is held fast, let go: its write. -/
theorem CInv.flushed (h : CInv b l s t book F) (hs : t.stopped = false) (hk : Dat b l k) (hF : F k = true) : flushE s t k = writeE t k ∧ flushD s t k = writeV t k (book k) := by
  have hr := h.ref hs hk
  obtain ⟨x, ha, _, _, h3, h4⟩ := h.fastAt hF
  unfold flushE flushD
  rw [if_pos hr, if_pos hr, ha]
  simp only [h3, if_true, h4, and_self]
theorem CInv.flush (h : CInv b l s t book F) (hs : t.stopped = false) (hk : Dat b l k) (hF : F k = true) (hl : lets t = true) (hok : COk (flushC s t k)) :
    CInv b l (flushC s t k) (writeV t k (book k)) book (fun j => if j = k then false else F j) ∧ (fastN (flushC s t k).row : Int) = fastN s.row - 1 := by
  have hr := h.ref hs hk
  have hwE : writeE t k = 0 := by unfold writeE; rw [if_pos hr, hl, if_pos rfl]
  obtain ⟨z, ha, hz, e, z3, z2⟩ := h.fastAt hF
  unfold flushC at hok ⊢
  rw [if_pos hr, ha] at hok ⊢
  simp only [z3, hwE, and_self, if_true] at hok ⊢
  have hcw := cur_write hl hr (book k)
  have hwn : (writeV t k (book k)).n = t.n := by
    unfold writeV
    rw [if_pos hr, hl, if_pos rfl]
    exact letV_n t
  refine ⟨⟨by rw [hwn]; exact h.n, hok, h.size, fun y hy => ?_, fun j hg => ?_, fun j hj hg => ?_⟩, fast_unfast h.ok.nodup hz e z3⟩
  · obtain ⟨y', hy', rfl⟩ := List.mem_map.1 hy
    obtain ⟨a1, a2, a3⟩ := h.row y' hy'
    by_cases ey : y'.pos = k
    · rw [if_pos ey]
      exact ⟨a1, a2, by show false = _; rw [if_pos ey]⟩
    · rw [if_neg ey]
      exact ⟨a1, a2, by rw [if_neg ey]; exact a3⟩
  · by_cases ej : j = k
    · rw [if_pos ej] at hg; cases hg
    · rw [if_neg ej] at hg
      obtain ⟨y, hy, ey⟩ := h.held j hg
      refine ⟨y, List.mem_map.2 ⟨y, hy, ?_⟩, ey⟩
      rw [if_neg (by rw [ey]; exact ej)]
  · rw [hcw j]
    by_cases ej : j = k
    · subst ej; rw [if_pos rfl]
    · rw [if_neg ej] at hg
      rw [if_neg fun q => ej q.symm]
      exact h.same j hj hg
/-- The disk alone has turned, and no data with it. -/
theorem CInv.disk {t' : St} (h : CInv b l s t book F) (hn : t'.n = t.n) (hc : ∀ j, Dat b l j → curV t' j = curV t j) : CInv b l s t' book F :=
  ⟨by rw [hn]; exact h.n, h.ok, h.size, h.row, h.held, fun j hj hf => by rw [hc j hj]; exact h.same j hj hf⟩
theorem CInv.new (t : St) (hb : b ≤ t.n) (hl : 1 ≤ l ∧ l ≤ 4096) : CInv b l (newC l) t (curV t) (fun _ => false) := by
  refine ⟨hb, ⟨hl, ?_, fun h hh => ?_, ?_⟩, rfl, fun h hh => ?_, fun k hk => (by cases hk), fun _ _ _ => rfl⟩
  · show (([] : List Hld).length : Int) ≤ l
    simp; omega
  · simp [newC] at hh
  · simp [newC]
  · simp [newC] at hh
/-- The last of writes. -/
def lastV (x : Nat → Int) : List Cel → Int → Nat → Int
  | [], _ => x
  | c :: t, k => lastV (if c.1 = k then c.2 else x) t k
theorem lastV_append {k : Int} : ∀ (l m : List Cel) (x : Nat → Int), lastV x (l ++ m) k = lastV (lastV x l k) m k
  | [], _, _ => rfl
  | c :: t, m, x => by
    show lastV (if c.1 = k then c.2 else x) (t ++ m) k = _
    rw [lastV_append t m]
    rfl
theorem holdV_get (s : St) (k : Int) {f : Nat → Int} (hf : Can f) (j : Int) : ((holdV s k f).held j).getD nought = if j = k then f else (s.held j).getD nought := by
  show (if j = k then (if blankB f then none else some f) else s.held j).getD nought = _
  by_cases e : j = k
  · rw [if_pos e, if_pos e]
    cases hb : blankB f
    · rfl
    · rw [hf.blank.1 hb]; rfl
  · rw [if_neg e, if_neg e]
theorem holdAll_get {k : Int} : ∀ (l : List Cel) (s : St), (∀ c ∈ l, Can c.2) → ((holdAll s l).held k).getD nought = lastV ((s.held k).getD nought) l k
  | [], _, _ => rfl
  | c :: t, s, h => by
    show ((holdAll (holdV s c.1 c.2) t).held k).getD nought = _
    rw [holdAll_get t _ fun c hc => h c (by simp [hc]), holdV_get s c.1 (h c (by simp)) k]
    show _ = lastV (if c.1 = k then c.2 else (s.held k).getD nought) t k
    by_cases e : k = c.1
    · rw [if_pos e, if_pos e.symm]
    · rw [if_neg e, if_neg fun q => e q.symm]
theorem lastAt_last {k : Int} : ∀ (l : List Cel) (x : Nat → Int), (match lastAt l k with | some i => (match l[i]? with | some c => c.2 | none => nought) | none => x) = lastV x l k
  | [], _ => rfl
  | c :: t, x => by
    have ih := lastAt_last (k := k) t (if c.1 = k then c.2 else x)
    unfold lastV
    rw [← ih]
    show (match (match lastAt t k with | some i => some (i + 1) | none => if c.1 = k then some 0 else none) with | some i => (match (c :: t)[i]? with | some c => c.2 | none => nought) | none => x) = _
    cases lastAt t k with
    | some i => rfl
    | none =>
      by_cases e : c.1 = k
      · rw [if_pos e, if_pos e]; rfl
      · rw [if_neg e, if_neg e]
theorem curV_last (s : St) (k : Int) : curV s k = lastV ((s.held k).getD nought) s.wait k := by
  rw [← lastAt_last]
  rfl
theorem cur_bar (ok : Ok t) (j : Int) : curV (barS t) j = curV t j := by
  have h1 : (barS t).held = (holdAll (letV t) t.wait).held := rfl
  rw [curV_last, curV_last, show (barS t).wait = [] from rfl, h1]
  show ((holdAll (letV t) t.wait).held j).getD nought = _
  rw [holdAll_get t.wait (letV t) fun c hc => (ok.wait c hc).2, letV_held]
end Go.Proofs.YtiadlcjdpbkbkaaGreatD

/- Numbers of some bytes, the lowest first: read and laid, as plain functions; the bytes are 0 to 255. -/
namespace Go.Proofs.YtiadlcjdpbkbkaaGreatD.H
open Go.RowKit

/-- The number of m bytes from place k on. -/
def numN (f : Nat → Int) (k : Nat) : Nat → Int
  | 0 => 0
  | m + 1 => f k + 256 * numN f (k + 1) m
/-- The number of n bytes from at on, if all are inside. -/
def num (f : Nat → Int) (at' : Int) (n : Nat) : Int := if 0 ≤ at' ∧ at' ≤ 1024 - (n : Int) then numN f at'.toNat n else 0
/-- f with m bytes of v laid from place k on. -/
def putN (f : Nat → Int) (k : Nat) (v : Int) : Nat → Nat → Int
  | 0 => f
  | m + 1 => putN (upd f k (v % 256)) (k + 1) (v / 256) m
def put (f : Nat → Int) (at' : Int) (n : Nat) (v : Int) : Nat → Int := if 0 ≤ at' ∧ at' ≤ 1024 - (n : Int) then putN f at'.toNat v n else f

theorem numN_bd (f : Nat → Int) (hf : ∀ i, 0 ≤ f i ∧ f i ≤ 255) : ∀ (m k : Nat), 0 ≤ numN f k m ∧ numN f k m < 256 ^ m
  | 0, _ => by simp [numN]
  | m + 1, k => by
    have h1 := numN_bd f hf m (k + 1)
    have h2 := hf k
    simp only [numN, Int.pow_succ]
    omega
theorem num2 (f : Nat → Int) (k : Nat) : numN f k 2 = f k + 256 * f (k + 1) := by simp [numN]
theorem num4 (f : Nat → Int) (k : Nat) : numN f k 4 = f k + 256 * f (k + 1) + 65536 * f (k + 2) + 16777216 * f (k + 3) := by
  simp only [numN, Nat.add_assoc, Nat.reduceAdd]; omega
theorem num_in (f : Nat → Int) (k n : Nat) (h : k + n ≤ 1024) : num f (k : Int) n = numN f k n := by
  unfold num; rw [if_pos (by omega), Int.toNat_natCast]
theorem num_out (f : Nat → Int) (a : Int) (n : Nat) (h : a < 0 ∨ 1024 - (n : Int) < a) : num f a n = 0 := by
  unfold num; rw [if_neg (by omega)]
theorem put_in (f : Nat → Int) (k n : Nat) (v : Int) (h : k + n ≤ 1024) : put f (k : Int) n v = putN f k v n := by
  unfold put; rw [if_pos (by omega), Int.toNat_natCast]
theorem put_out (f : Nat → Int) (a : Int) (n : Nat) (v : Int) (h : a < 0 ∨ 1024 - (n : Int) < a) : put f a n v = f := by
  unfold put; rw [if_neg (by omega)]
theorem put2 (f : Nat → Int) (k : Nat) (v : Int) (hv : 0 ≤ v ∧ v < 65536) : putN f k v 2 = upd (upd f k (v % 256)) (k + 1) (v / 256) := by
  simp only [putN]
  rw [show v / 256 % 256 = v / 256 by omega]
theorem put4 (f : Nat → Int) (k : Nat) (v : Int) (hv : 0 ≤ v ∧ v < 4294967296) : putN f k v 4 = upd (upd (upd (upd f k (v % 256)) (k + 1) (v / 256 % 256)) (k + 2) (v / 65536 % 256)) (k + 3) (v / 16777216) := by
  simp only [putN, Nat.add_assoc, Nat.reduceAdd]
  rw [show v / 256 / 256 % 256 = v / 65536 % 256 by omega, show v / 256 / 256 / 256 % 256 = v / 16777216 by omega]
theorem num_bd (f : Nat → Int) (hf : ∀ i, 0 ≤ f i ∧ f i ≤ 255) (a : Int) (n : Nat) : 0 ≤ num f a n ∧ num f a n < 256 ^ n := by
  unfold num
  split
  · exact numN_bd f hf _ _
  · exact ⟨Int.le_refl _, Int.pow_pos (by decide)⟩

theorem wrap_u8 (n : Int) : IntKind.u8.wrap n = n % 256 := by simp [IntKind.wrap, IntKind.bits, IntKind.signed]
theorem wrap_u16 (n : Int) : IntKind.u16.wrap n = n % 65536 := by simp [IntKind.wrap, IntKind.bits, IntKind.signed]
theorem wrap_u32 (n : Int) : IntKind.u32.wrap n = n % 4294967296 := by simp [IntKind.wrap, IntKind.bits, IntKind.signed]

theorem or_comm' (k : IntKind) (x y : Int) : bits .or k x y = bits .or k y x := by simp only [bits, BitVec.or_comm]
theorem or16 (a b : Int) (ha : 0 ≤ a ∧ a ≤ 255) (hb : 0 ≤ b ∧ b ≤ 255) : bits .or .u16 (IntKind.u16.wrap a) (IntKind.u16.wrap (IntKind.u16.wrap b * 256)) = a + 256 * b := by
  simp only [wrap_u16]
  have h1 : a % 65536 = a := by omega
  have h2 : b % 65536 * 256 % 65536 = 256 * b := by omega
  rw [h1, h2, or_comm', bits_join .u16 16 (by decide) (fun n h0 h1 => by rw [wrap_u16]; omega) 8 (256 * b) a (by omega) (by omega) (by omega) (by omega) (by omega) (by omega)]
  omega
theorem or32 (i : Nat) (x y : Int) (hx0 : 0 ≤ x) (hx : x % 2 ^ i = 0) (hx1 : x < 2 ^ 32) (hy0 : 0 ≤ y) (hy : y < 2 ^ i) (hy1 : y < 2 ^ 32) : bits .or .u32 y x = y + x := by
  rw [or_comm', bits_join .u32 32 (by decide) (fun n h0 h1 => by rw [wrap_u32]; omega) i x y hx0 hx hx1 hy0 hy hy1]
  omega
theorem or32all (a b c d : Int) (ha : 0 ≤ a ∧ a ≤ 255) (hb : 0 ≤ b ∧ b ≤ 255) (hc : 0 ≤ c ∧ c ≤ 255) (hd : 0 ≤ d ∧ d ≤ 255) :
    bits .or .u32 (bits .or .u32 (bits .or .u32 (IntKind.u32.wrap a) (IntKind.u32.wrap (IntKind.u32.wrap b * 256))) (IntKind.u32.wrap (IntKind.u32.wrap c * 65536))) (IntKind.u32.wrap (IntKind.u32.wrap d * 16777216)) = a + 256 * b + 65536 * c + 16777216 * d := by
  simp only [wrap_u32]
  have h1 : a % 4294967296 = a := by omega
  have h2 : b % 4294967296 * 256 % 4294967296 = 256 * b := by omega
  have h3 : c % 4294967296 * 65536 % 4294967296 = 65536 * c := by omega
  have h4 : d % 4294967296 * 16777216 % 4294967296 = 16777216 * d := by omega
  rw [h1, h2, h3, h4, or32 8 (256 * b) a (by omega) (by omega) (by omega) (by omega) (by omega) (by omega),
    or32 16 (65536 * c) (a + 256 * b) (by omega) (by omega) (by omega) (by omega) (by omega) (by omega),
    or32 24 (16777216 * d) (a + 256 * b + 65536 * c) (by omega) (by omega) (by omega) (by omega) (by omega) (by omega)]
end Go.Proofs.YtiadlcjdpbkbkaaGreatD.H
/- The law's own function block: a block that begins with the bytes of a slice; its bytes lie in memory below. -/
namespace Go.Proofs.YtiadlcjdpbkbkaaGreatD.H
open Go.RowKit
set_option maxHeartbeats 400000 in
theorem fits_any (a n : Int) (w : World) (hn : 0 ≤ n ∧ n ≤ 1024) :
    Calls Tryz.prog 68 #[.int .i64 a, .int .i64 n] w fun e w' => e = .returned (.bool (decide (0 ≤ a ∧ a ≤ 1024 - n))) ∧ w' = w := by
  by_cases h0 : 0 ≤ a
  · by_cases h1 : a ≤ 1024 - n
    · go_enter Tryz.func68, Tryz.ntmps68
      go_wp2
      go_ret
      exact ⟨by simp [h0, h1], rfl⟩
    · go_enter Tryz.func68, Tryz.ntmps68
      go_wp2
      go_ret
      exact ⟨by simp [h1], rfl⟩
  · go_enter Tryz.func68, Tryz.ntmps68
    go_wp2
    go_ret
    exact ⟨by simp; omega, rfl⟩

theorem fits_yes (a n : Int) (w : World) (hn : 0 ≤ n ∧ n ≤ 1024) (h : 0 ≤ a ∧ a ≤ 1024 - n) :
    Calls Tryz.prog 68 #[.int .i64 a, .int .i64 n] w fun e w' => e = .returned (.bool true) ∧ w' = w := by
  have := fits_any a n w hn
  rwa [decide_eq_true h] at this
theorem fits_no (a n : Int) (w : World) (hn : 0 ≤ n ∧ n ≤ 1024) (h : ¬ (0 ≤ a ∧ a ≤ 1024 - n)) :
    Calls Tryz.prog 68 #[.int .i64 a, .int .i64 n] w fun e w' => e = .returned (.bool false) ∧ w' = w := by
  have := fits_any a n w hn
  rwa [decide_eq_false h] at this


def Lies (w : World) (v : Value) (n : Nat) (f : Nat → Int) : Prop :=
  (∃ a cap, v = .slice a 0 cap ∧ n = 0 ∧ (a = none → cap = 0)) ∨ ∃ b off cap, v = .slice (some ⟨b, off, none⟩) n cap ∧ n ≤ maxLen ∧ n ≤ cap ∧ b < w.heap.size ∧ ∀ i, i < n → w.cell? ⟨b, off + i, none⟩ = some (.int .u8 (f i))
theorem Lies.later {w w' : World} {v : Value} {n : Nat} {f : Nat → Int} (h : Lies w v n f) (hb : Below w.heap.size w w') : Lies w' v n f := by
  rcases h with h | ⟨b, off, cap, hv, hn, hcap, hlt, hc⟩
  · exact .inl h
  · exact .inr ⟨b, off, cap, hv, hn, hcap, Nat.lt_of_lt_of_le hlt hb.size, fun i hi => (hb.cell (p := ⟨b, off + i, none⟩) hlt).trans (hc i hi)⟩
end Go.Proofs.YtiadlcjdpbkbkaaGreatD.H
/- U16 and U32 of slab: the number of the bytes at a place, or nought; for every block of bytes and every place. -/
namespace Go.Proofs.YtiadlcjdpbkbkaaGreatD.H
open Go.RowKit

theorem ret_int {k : IntKind} {a b : Int} (h : a = b) : Ending.returned (.int k a) = .returned (.int k b) := by rw [h]

set_option maxRecDepth 20000 in
set_option maxHeartbeats 400000 in
theorem u32_in (f : Nat → Int) (k : Nat) (w : World) (hk : (k : Int) ≤ 1020) (hf : ∀ i, 0 ≤ f i ∧ f i ≤ 255) :
    Calls Tryz.prog 106 #[.agg (blk f), .int .i64 k] w fun e w' => e = .returned (.int .u32 (f k + 256 * f (k + 1) + 65536 * f (k + 2) + 16777216 * f (k + 3))) ∧ Below w.heap.size w w' := by
  have hb0 := blk_get f k (by omega)
  have hb1 := blk_get f (k + 1) (by omega)
  have hb2 := blk_get f (k + 2) (by omega)
  have hb3 := blk_get f (k + 3) (by omega)
  go_enter Tryz.func106, Tryz.ntmps106
  go_wp2
  go_quiet (fail)
  go_wp2
  go_ret
  exact ⟨ret_int (or32all _ _ _ _ (hf k) (hf (k + 1)) (hf (k + 2)) (hf (k + 3))), below_drewN ((Below.refl _ _).alloc (Nat.le_refl _) _) _⟩
set_option maxRecDepth 20000 in
set_option maxHeartbeats 400000 in
theorem u32_out (f : Nat → Int) (k : Int) (w : World) (hk : k < 0 ∨ 1020 < k) :
    Calls Tryz.prog 106 #[.agg (blk f), .int .i64 k] w fun e w' => e = .returned (.int .u32 0) ∧ Below w.heap.size w w' := by
  rcases hk with hk | hk
  · have hk' : ¬ (0 ≤ k) := by omega
    go_enter Tryz.func106, Tryz.ntmps106
    go_wp2
    go_ret
    exact ⟨rfl, (Below.refl _ _).alloc (Nat.le_refl _) _⟩
  · have hk' : ¬ (k ≤ 1020) := by omega
    have hk0 : 0 ≤ k := by omega
    go_enter Tryz.func106, Tryz.ntmps106
    go_wp2
    go_ret
    exact ⟨rfl, (Below.refl _ _).alloc (Nat.le_refl _) _⟩
theorem u32_any (f : Nat → Int) (k : Int) (w : World) (hf : ∀ i, 0 ≤ f i ∧ f i ≤ 255) :
    Calls Tryz.prog 106 #[.agg (blk f), .int .i64 k] w fun e w' => e = .returned (.int .u32 (num f k 4)) ∧ Below w.heap.size w w' := by
  by_cases h : k < 0 ∨ 1020 < k
  · rw [num_out f k 4 (by omega)]; exact u32_out f k w h
  · obtain ⟨m, rfl⟩ := Int.eq_ofNat_of_zero_le (show 0 ≤ k by omega)
    rw [num_in f m 4 (by omega), num4]; exact u32_in f m w (by omega) hf

end Go.Proofs.YtiadlcjdpbkbkaaGreatD.H
/- SetU16 and SetU32 of slab: the block in which a number is laid; for every block, place and number. -/
namespace Go.Proofs.YtiadlcjdpbkbkaaGreatD.H
open Go.RowKit

theorem ret_blk {f g : Nat → Int} (h : f = g) : Ending.returned (.agg (blk f)) = .returned (.agg (blk g)) := by rw [h]
set_option maxRecDepth 20000 in
set_option maxHeartbeats 400000 in
theorem set32_in (f : Nat → Int) (k : Nat) (v : Int) (w : World) (hk : (k : Int) ≤ 1020) (hv : 0 ≤ v ∧ v < 4294967296) :
    Calls Tryz.prog 47 #[.agg (blk f), .int .i64 k, .int .u32 v] w fun e w' => e = .returned (.agg (blk (putN f k v 4))) ∧ Below w.heap.size w w' := by
  have z25 := zero25
  have hb0 := fun g => blk_get g (k) (by omega)
  have hb1 := fun g => blk_get g (k + 1) (by omega)
  have hb2 := fun g => blk_get g (k + 2) (by omega)
  have hb3 := fun g => blk_get g (k + 3) (by omega)
  have hset := blk_set
  go_enter Tryz.func47, Tryz.ntmps47
  go_wp2_with (first | (go_at_call 68; refine (fits_yes _ _ _ (by omega) (by omega)).mono ?_; rintro e w' ⟨rfl, rfl⟩) | refine wpList_load25 rfl _ rfl _ rfl _ (heap_alloc2_old _ _ _) ?_ | refine wpList_store25 rfl _ _ rfl _ _ rfl rfl _ (heap_alloc2_new _ _ _) ?_)
  exact ret25 rfl (w.heap.size + 1) _ rfl (setRow_heap _ _ _ _ _ _ (heap_alloc2_new _ _ _)) rfl ⟨ret_blk (put4 f k v hv).symm, below2 _ _ _ _ (by omega) _⟩
set_option maxRecDepth 20000 in
set_option maxHeartbeats 400000 in
theorem set32_out (f : Nat → Int) (k : Int) (v : Int) (w : World) (hk : ¬ (0 ≤ k ∧ k ≤ 1024 - 4)) :
    Calls Tryz.prog 47 #[.agg (blk f), .int .i64 k, .int .u32 v] w fun e w' => e = .returned (.agg (blk f)) ∧ Below w.heap.size w w' := by
  have z25 := zero25
  have HK : Hid (¬ (0 ≤ k ∧ k ≤ 1024 - 4)) := hk
  clear hk
  go_enter Tryz.func47, Tryz.ntmps47
  go_wp2_with (first | (go_at_call 68; refine (fits_no _ _ _ (by omega) HK.out).mono ?_; rintro e w' ⟨rfl, rfl⟩) | refine wpList_load25 rfl _ rfl _ rfl _ (heap_alloc2_old _ _ _) ?_ | refine wpList_store25 rfl _ _ rfl _ _ rfl rfl _ (heap_alloc2_new _ _ _) ?_)
  exact ret25 rfl (w.heap.size + 1) _ rfl (setRow_heap _ _ _ _ _ _ (heap_alloc2_new _ _ _)) rfl ⟨rfl, below2 _ _ _ _ (by omega) _⟩
theorem set32_any (f : Nat → Int) (k : Int) (v : Int) (w : World) (hv : 0 ≤ v ∧ v < 4294967296) :
    Calls Tryz.prog 47 #[.agg (blk f), .int .i64 k, .int .u32 v] w fun e w' => e = .returned (.agg (blk (put f k 4 v))) ∧ Below w.heap.size w w' := by
  by_cases h : 0 ≤ k ∧ k ≤ 1024 - 4
  · obtain ⟨m, rfl⟩ := Int.eq_ofNat_of_zero_le h.1
    rw [put_in f m 4 v (by omega)]; exact set32_in f m v w (by omega) hv
  · rw [put_out f k 4 v (by omega)]; exact set32_out f k v w h
end Go.Proofs.YtiadlcjdpbkbkaaGreatD.H

/- Where the regions of a geometry lie, as plain numbers, and the values that stand for them; no condition. -/
namespace Go.Proofs.YtiadlcjdpbkbkaaGreatD.H
open Go.RowKit

def nodeB (i : Int) : Int := (i + 16) / 16
def bitsB (b : Int) : Int := (b + 8191) / 8192
def bitsAt (l i : Int) : Int := 1 + l + nodeB i
def dataAt (b l i : Int) : Int := bitsAt l i + bitsB b
/-- Is there a layout of the geometry b, l, i? -/
abbrev Fine (b l i : Int) : Prop := 32 ≤ l ∧ l ≤ 256 ∧ 1 ≤ i ∧ i ≤ 65535 ∧ b ≤ 1048576 ∧ dataAt b l i < b
theorem Fine.pos {b l i : Int} (h : Fine b l i) : 23 ≤ b := by
  unfold Fine dataAt bitsAt nodeB bitsB at h; omega

/-- Is a geometry within its bounds? -/
def bndB (b l i : Int) : Bool := decide (32 ≤ l ∧ l ≤ 256 ∧ 1 ≤ i ∧ i ≤ 65535 ∧ b ≤ 1048576)

def geoV (b l i : Int) : Value := .agg #[.int .i64 b, .int .i64 l, .int .i64 i]
def lay9 (b l i a c d e f g : Int) : Array Value := #[.int .i64 b, .int .i64 l, .int .i64 i, .int .i64 a, .int .i64 c, .int .i64 d, .int .i64 e, .int .i64 f, .int .i64 g]
def layV (b l i : Int) : Value := .agg (lay9 b l i 1 (1 + l) (nodeB i) (bitsAt l i) (bitsB b) (dataAt b l i))
def layZ : Value := .agg (lay9 0 0 0 0 0 0 0 0 0)
/-- What Of answers. -/
def ofV (b l i : Int) : Value := if Fine b l i then layV b l i else layZ
def ofE (b l i : Int) : Int := if Fine b l i then 0 else 2
def I64 (x : Int) : Prop := -9223372036854775808 ≤ x ∧ x ≤ 9223372036854775807
end Go.Proofs.YtiadlcjdpbkbkaaGreatD.H
/- Of of shape: the layout of a geometry, or none; for every geometry. -/
namespace Go.Proofs.YtiadlcjdpbkbkaaGreatD.H
open Go.RowKit

theorem ret_bool {a b : Bool} (h : a = b) : Ending.returned (.bool a) = .returned (.bool b) := by rw [h]
/-- A result of two: a row in a cell, and a value. -/
theorem retCT {fn : Func} {p u : Tmp} {ty : TypeId} {R : Ending → World → Prop} {a : Act} {w : World} (h : fn.results = #[.cell p ty, .tmp u]) (g : Nat) (cs : Array Value)
    (hp : a.tmps.getD p undef = .pointer (some ⟨g, 0, none⟩)) (hl : (loadVar ty ⟨g, 0, none⟩).run Tryz.prog w = .ok (.agg cs) w)
    (hdf : a.defers = []) (hR : R (.returned (.tuple #[.agg cs, a.tmps.getD u undef])) w) : bodyPost Tryz.prog fn R .ret a w := by
  refine bodyPost_ret ?_ hdf hR
  rw [results_cell_tmp h]
  rw [hp]
  simp [asAddr, hl]

theorem load25L (w : World) (g : Nat) (cs : Array Value) (h : w.heap[g]? = some (.cells cs 43)) (hs : cs.size = 9) : (loadVar 43 ⟨g, 0, none⟩).run Tryz.prog w = .ok (.agg cs) w :=
  run_loadVar_row w g 43 43 cs (0, 0) _ h Tryz.underlying43 rfl (by rw [hs]; kernel_rfl)
theorem size25L : (Tryz.prog.info? 43).map (·.size) = some 9 := by kernel_rfl
theorem size23G : (Tryz.prog.info? 41).map (·.size) = some 3 := by kernel_rfl

theorem bounded_any (b l i : Int) (w : World) :
    Calls Tryz.prog 44 #[geoV b l i] w fun e w' => e = .returned (.bool (bndB b l i)) ∧ w' = w.alloc (.cells #[.int .i64 b, .int .i64 l, .int .i64 i] 41) := by
  unfold geoV
  by_cases h0 : 32 ≤ l
  · by_cases h1 : l ≤ 256
    · by_cases h2 : 1 ≤ i
      · by_cases h3 : i ≤ 65535
        · by_cases h4 : b ≤ 1048576
          · go_enter Tryz.func44, Tryz.ntmps44
            go_wp2
            go_ret
            exact ⟨ret_bool (show true = bndB b l i from (decide_eq_true (by omega)).symm), rfl⟩
          · go_enter Tryz.func44, Tryz.ntmps44
            go_wp2
            go_ret
            exact ⟨ret_bool (show false = bndB b l i from (decide_eq_false (by omega)).symm), rfl⟩
        · go_enter Tryz.func44, Tryz.ntmps44
          go_wp2
          go_ret
          exact ⟨ret_bool (show false = bndB b l i from (decide_eq_false (by omega)).symm), rfl⟩
      · go_enter Tryz.func44, Tryz.ntmps44
        go_wp2
        go_ret
        exact ⟨ret_bool (show false = bndB b l i from (decide_eq_false (by omega)).symm), rfl⟩
    · go_enter Tryz.func44, Tryz.ntmps44
      go_wp2
      go_ret
      exact ⟨ret_bool (show false = bndB b l i from (decide_eq_false (by omega)).symm), rfl⟩
  · go_enter Tryz.func44, Tryz.ntmps44
    go_wp2
    go_ret
    exact ⟨ret_bool (show false = bndB b l i from (decide_eq_false (by omega)).symm), rfl⟩

theorem bel_al {w u : World} (h : Below w.heap.size w u) (o : Obj) : Below w.heap.size w (u.alloc o) := h.alloc h.size o
theorem heap3 (w : World) (A B C : Obj) : (((w.alloc A).alloc B).alloc C).heap[w.heap.size + 1]? = some B := by
  rw [heap_alloc_old _ _ (by simp)]; exact heap_alloc2_new _ _ _
theorem heap4 (w : World) (A B C D : Obj) : ((((w.alloc A).alloc B).alloc C).alloc D).heap[w.heap.size + 1]? = some B := by
  rw [heap_alloc_old _ _ (by simp)]; exact heap3 _ _ _ _

set_option maxRecDepth 20000 in
set_option maxHeartbeats 400000 in
theorem of_out (b l i : Int) (w : World) (h : ¬ (32 ≤ l ∧ l ≤ 256 ∧ 1 ≤ i ∧ i ≤ 65535 ∧ b ≤ 1048576)) :
    Calls Tryz.prog 21 #[geoV b l i] w fun e w' => e = .returned (.tuple #[layZ, .int .i64 2]) ∧ Below w.heap.size w w' := by
  have hc := fun w => bounded_any b l i w
  rw [show bndB b l i = false from decide_eq_false h] at hc
  clear h
  unfold geoV at *
  go_enter Tryz.func21, Tryz.ntmps21
  go_wp2_with (first | (go_at_call 44; refine (hc _).mono ?_; rintro e w' ⟨rfl, rfl⟩))
  refine retCT rfl (w.heap.size + 1) _ rfl (load25L _ _ _ (heap3 _ _ _ _) rfl) rfl ⟨rfl, ?_⟩
  repeat refine bel_al ?_ _
  exact Below.refl _ _

set_option maxRecDepth 20000 in
set_option maxHeartbeats 400000 in
theorem of_fine (b l i : Int) (w : World) (h : 32 ≤ l ∧ l ≤ 256 ∧ 1 ≤ i ∧ i ≤ 65535 ∧ b ≤ 1048576) (h0 : 1 ≤ b) (hd : dataAt b l i < b) :
    Calls Tryz.prog 21 #[geoV b l i] w fun e w' => e = .returned (.tuple #[layV b l i, .int .i64 0]) ∧ Below w.heap.size w w' := by
  have hc := fun w => bounded_any b l i w
  rw [show bndB b l i = true from decide_eq_true h] at hc
  have hd' : ¬ b ≤ 1 + l + (i + 16) / 16 + (b + 8192 - 1) / 8192 := by unfold dataAt bitsAt nodeB bitsB at hd; omega
  have HL : Hid (lay9 b l i 1 (1 + l) ((i + 16) / 16) (1 + l + (i + 16) / 16) ((b + 8192 - 1) / 8192) (1 + l + (i + 16) / 16 + (b + 8192 - 1) / 8192) = lay9 b l i 1 (1 + l) (nodeB i) (bitsAt l i) (bitsB b) (dataAt b l i)) := by
    show _ = _
    unfold dataAt bitsAt nodeB bitsB
    rw [show b + 8192 - 1 = b + 8191 by omega]
  clear hd
  obtain ⟨h1, h2, h3, h4, h5⟩ := h
  unfold geoV at *
  go_enter Tryz.func21, Tryz.ntmps21
  go_wp2_with (first | (go_at_call 44; refine (hc _).mono ?_; rintro e w' ⟨rfl, rfl⟩))
  refine retCT rfl (w.heap.size + 1) _ rfl (load25L _ _ _ (heap4 _ _ _ _ _) rfl) rfl ⟨?_, ?_⟩
  · exact congrArg (fun x => Ending.returned (.tuple #[.agg x, .int .i64 0])) HL.out
  repeat refine bel_al ?_ _
  exact Below.refl _ _

set_option maxRecDepth 20000 in
set_option maxHeartbeats 400000 in
theorem of_full (b l i : Int) (w : World) (h : 32 ≤ l ∧ l ≤ 256 ∧ 1 ≤ i ∧ i ≤ 65535 ∧ b ≤ 1048576) (h0 : 1 ≤ b) (hd : b ≤ dataAt b l i) :
    Calls Tryz.prog 21 #[geoV b l i] w fun e w' => e = .returned (.tuple #[layZ, .int .i64 2]) ∧ Below w.heap.size w w' := by
  have hc := fun w => bounded_any b l i w
  rw [show bndB b l i = true from decide_eq_true h] at hc
  have hd' : b ≤ 1 + l + (i + 16) / 16 + (b + 8192 - 1) / 8192 := by unfold dataAt bitsAt nodeB bitsB at hd; omega
  clear hd
  obtain ⟨h1, h2, h3, h4, h5⟩ := h
  unfold geoV at *
  go_enter Tryz.func21, Tryz.ntmps21
  go_wp2_with (first | (go_at_call 44; refine (hc _).mono ?_; rintro e w' ⟨rfl, rfl⟩))
  refine retCT rfl (w.heap.size + 1) _ rfl (load25L _ _ _ (heap4 _ _ _ _ _) rfl) rfl ⟨rfl, ?_⟩
  repeat refine bel_al ?_ _
  exact Below.refl _ _

theorem tdiv_neg (b : Int) (h : b ≤ 0) : b ≤ (b + 8192 - 1).tdiv 8192 ∧ (b + 8192 - 1).tdiv 8192 ≤ 0 := by
  rw [Int.tdiv_eq_ediv]
  split
  · omega
  · rw [show Int.sign 8192 = 1 by rfl]; omega
set_option maxRecDepth 20000 in
set_option maxHeartbeats 400000 in
theorem of_neg (b l i : Int) (w : World) (h : 32 ≤ l ∧ l ≤ 256 ∧ 1 ≤ i ∧ i ≤ 65535 ∧ b ≤ 1048576) (h0 : b ≤ 0) (hb : -9223372036854775808 ≤ b) :
    Calls Tryz.prog 21 #[geoV b l i] w fun e w' => e = .returned (.tuple #[layZ, .int .i64 2]) ∧ Below w.heap.size w w' := by
  have hc := fun w => bounded_any b l i w
  rw [show bndB b l i = true from decide_eq_true h] at hc
  have ht := tdiv_neg b h0
  obtain ⟨h1, h2, h3, h4, h5⟩ := h
  have hw : b ≤ wrap64 (1 + l + (i + 16) / 16 + (b + 8192 - 1).tdiv 8192) := by
    generalize (b + 8192 - 1).tdiv 8192 = t at ht
    unfold wrap64; omega
  have e1 : wrap64 (b + 8192) = b + 8192 := by unfold wrap64; omega
  clear ht
  unfold geoV at *
  go_enter Tryz.func21, Tryz.ntmps21
  go_wp2_with (first | (go_at_call 44; refine (hc _).mono ?_; rintro e w' ⟨rfl, rfl⟩))
  refine retCT rfl (w.heap.size + 1) _ rfl (load25L _ _ _ (heap4 _ _ _ _ _) rfl) rfl ⟨rfl, ?_⟩
  repeat refine bel_al ?_ _
  exact Below.refl _ _

theorem of_any (b l i : Int) (w : World) (hb : I64 b) :
    Calls Tryz.prog 21 #[geoV b l i] w fun e w' => e = .returned (.tuple #[ofV b l i, .int .i64 (ofE b l i)]) ∧ Below w.heap.size w w' := by
  unfold ofV ofE
  by_cases h : 32 ≤ l ∧ l ≤ 256 ∧ 1 ≤ i ∧ i ≤ 65535 ∧ b ≤ 1048576
  · by_cases h0 : 1 ≤ b
    · by_cases h1 : dataAt b l i < b
      · have hf : Fine b l i := ⟨h.1, h.2.1, h.2.2.1, h.2.2.2.1, h.2.2.2.2, h1⟩
        rw [if_pos hf, if_pos hf]
        exact of_fine b l i w h h0 h1
      · have hf : ¬ Fine b l i := fun q => h1 q.2.2.2.2.2
        rw [if_neg hf, if_neg hf]
        exact of_full b l i w h h0 (by omega)
    · have hf : ¬ Fine b l i := fun q => by have := q.pos; omega
      rw [if_neg hf, if_neg hf]
      exact of_neg b l i w h (by omega) hb.1
  · have hf : ¬ Fine b l i := fun q => h ⟨q.1, q.2.1, q.2.2.1, q.2.2.2.1, q.2.2.2.2.1⟩
    rw [if_neg hf, if_neg hf]
    exact of_out b l i w h
end Go.Proofs.YtiadlcjdpbkbkaaGreatD.H
/- The document's Of: the layout of a geometry, or none; for every geometry. -/
namespace Go.Proofs.YtiadlcjdpbkbkaaGreatD.H
open Go.RowKit

/-- The number in a cell. -/
def cellN (w : World) (g off : Nat) : Nat := (intOf ((w.cell? ⟨g, off, none⟩).getD undef)).toNat
theorem cellN_of {w : World} {g off : Nat} {t : TypeId} {cs : Array Value} {x : Int} (h : w.heap[g]? = some (.cells cs t)) (hx : cs[off]? = some (.int .i64 x)) : cellN w g off = x.toNat := by
  unfold cellN
  rw [cell_of_row w g off _ t _ h, hx]
  rfl
theorem heap3n (w : World) (A B C : Obj) : (((w.alloc A).alloc B).alloc C).heap[w.heap.size + 2]? = some C := by
  have h := heap_alloc_new ((w.alloc A).alloc B) C
  have e : ((w.alloc A).alloc B).heap.size = w.heap.size + 2 := by simp
  rwa [e] at h
end Go.Proofs.YtiadlcjdpbkbkaaGreatD.H
/- stands of shape, and the document's Fits: is a layout just what its geometry says? For every layout. -/
namespace Go.Proofs.YtiadlcjdpbkbkaaGreatD.H
open Go.RowKit

/-- Is a layout just what its geometry says? -/
def standsB (b l i a c d e f g : Int) : Bool := decide (Fine b l i ∧ a = 1 ∧ c = 1 + l ∧ d = nodeB i ∧ e = bitsAt l i ∧ f = bitsB b ∧ g = dataAt b l i)
theorem heap_kept {w w' : World} {g : Nat} {o : Obj} (h : w.heap[g]? = some o) (hb : Below w.heap.size w w') : w'.heap[g]? = some o :=
  (hb.block g (Array.getElem?_eq_some_iff.1 h).1).trans h
theorem below_next {w w1 w2 : World} (h : Below w.heap.size w w1) (hb : Below w1.heap.size w1 w2) : Below w.heap.size w w2 := h.trans (hb.mono h.size)
theorem below_new (w : World) (o : Obj) : Below w.heap.size w (w.alloc o) := (Below.refl _ _).alloc (Nat.le_refl _) _

theorem wpList_loadL {ops : Array Oper} {rest : List Oper} {o : Oper} {a : Act} {w : World} {Q : Exit → Act → World → Prop} (hgd : o.guard = none) (x : Operand) (ho : o.op = .load 43 x)
    (g : Nat) (hx : a.eval x = .pointer (some ⟨g, 0, none⟩)) (cs : Array Value) (hs : cs.size = 9) (hg : w.heap[g]? = some (.cells cs 43))
    (h : wpList Tryz.prog ops Q rest (a.put o.dst (.agg cs)) w) : wpList Tryz.prog ops Q (o :: rest) a w :=
  wpList_load_row hgd 43 x ho g hx 43 cs (0, 0) _ hg Tryz.underlying43 rfl (by rw [hs]; exact size25L) h

theorem lay_cells {w : World} {h0 : Nat} {b l i a c d e f g : Int} (h : w.heap[h0]? = some (.cells (lay9 b l i a c d e f g) 43)) :
    w.cell? ⟨h0, 0, none⟩ = some (.int .i64 b) ∧ w.cell? ⟨h0, 1, none⟩ = some (.int .i64 l) ∧ w.cell? ⟨h0, 2, none⟩ = some (.int .i64 i) ∧ w.cell? ⟨h0, 3, none⟩ = some (.int .i64 a) ∧ w.cell? ⟨h0, 4, none⟩ = some (.int .i64 c) ∧ w.cell? ⟨h0, 5, none⟩ = some (.int .i64 d) ∧ w.cell? ⟨h0, 6, none⟩ = some (.int .i64 e) ∧ w.cell? ⟨h0, 7, none⟩ = some (.int .i64 f) ∧ w.cell? ⟨h0, 8, none⟩ = some (.int .i64 g) ∧ h0 < w.heap.size := by
  refine ⟨?_, ?_, ?_, ?_, ?_, ?_, ?_, ?_, ?_, (Array.getElem?_eq_some_iff.1 h).1⟩ <;> (rw [cell_of_row w h0 _ _ 43 _ h]; rfl)
end Go.Proofs.YtiadlcjdpbkbkaaGreatD.H
/- head's own look at a layout: is it just what its geometry says; for every layout. -/
namespace Go.Proofs.YtiadlcjdpbkbkaaGreatD.H
open Go.RowKit
set_option maxRecDepth 20000 in
set_option maxHeartbeats 400000 in
theorem hstands_fine (b l i a c d e f g : Int) (w : World) (hb : I64 b) (hf : Fine b l i) :
    Calls Tryz.prog 45 #[.agg (lay9 b l i a c d e f g)] w fun e' w' => e' = .returned (.bool (standsB b l i a c d e f g)) ∧ Below w.heap.size w w' := by
  have hc := fun w => of_any b l i w hb
  rw [show ofV b l i = layV b l i from if_pos hf, show ofE b l i = 0 from if_pos hf] at hc
  have HF : Hid (Fine b l i) := hf
  clear hf
  unfold layV at hc
  have e1 : ∀ (w : World), (w.alloc (.cells (lay9 b l i a c d e f g) 43)).heap[w.heap.size]? = some (.cells (lay9 b l i a c d e f g) 43) := fun w => heap_alloc_new _ _
  have e2 := fun (W1 : World) (h : W1.heap[w.heap.size]? = some (.cells (lay9 b l i a c d e f g) 43)) => lay_cells h
  unfold lay9 at *
  go_enter Tryz.func45, Tryz.ntmps45
  go_wp2_with (first | (go_at_call 21; fail))
  refine (hc _).mono ?_
  rintro e' W1 ⟨rfl, hb1⟩
  have h1 := heap_kept (e1 w) hb1
  have HB : Hid (Below w.heap.size w W1) := below_next (below_new _ _) hb1
  obtain ⟨c0, c1, c2, c3, c4, c5, c6, c7, c8, hlt⟩ := e2 W1 h1
  clear hb1 hc e1 h1 e2
  go_wp2
  all_goals
    go_ret
    refine ⟨ret_bool ?_, bel_al HB.out _⟩
    clear c0 c1 c2 c3 c4 c5 c6 c7 c8
    first
      | exact (show true = standsB b l i a c d e f g from (decide_eq_true ⟨HF.out, by omega, by omega, by omega, by omega, by omega, by omega⟩).symm)
      | exact (show false = standsB b l i a c d e f g from (decide_eq_false fun ⟨_, q1, q2, q3, q4, q5, q6⟩ => by omega).symm)

set_option maxRecDepth 20000 in
set_option maxHeartbeats 400000 in
theorem hstands_not (b l i a c d e f g : Int) (w : World) (hb : I64 b) (hf : ¬ Fine b l i) :
    Calls Tryz.prog 45 #[.agg (lay9 b l i a c d e f g)] w fun e' w' => e' = .returned (.bool (standsB b l i a c d e f g)) ∧ Below w.heap.size w w' := by
  have hc := fun w => of_any b l i w hb
  rw [show ofV b l i = layZ from if_neg hf, show ofE b l i = 2 from if_neg hf] at hc
  have HF : Hid (¬ Fine b l i) := hf
  clear hf
  unfold layZ at hc
  unfold lay9 at *
  go_enter Tryz.func45, Tryz.ntmps45
  go_wp2_with (first | (go_at_call 21; fail))
  refine (hc _).mono ?_
  rintro e' W1 ⟨rfl, hb1⟩
  have HB : Hid (Below w.heap.size w W1) := below_next (below_new _ _) hb1
  clear hb1 hc
  go_wp2
  go_ret
  exact ⟨ret_bool (show false = standsB b l i a c d e f g from (decide_eq_false fun q => HF.out q.1).symm), bel_al HB.out _⟩
theorem hstands_any (b l i a c d e f g : Int) (w : World) (hb : I64 b) :
    Calls Tryz.prog 45 #[.agg (lay9 b l i a c d e f g)] w fun e' w' => e' = .returned (.bool (standsB b l i a c d e f g)) ∧ Below w.heap.size w w' := by
  by_cases hf : Fine b l i
  · exact hstands_fine b l i a c d e f g w hb hf
  · exact hstands_not b l i a c d e f g w hb hf
end Go.Proofs.YtiadlcjdpbkbkaaGreatD.H
