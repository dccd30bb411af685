/- Put of a cache, in one form; no condition. -/
import Derived.Test.YtencclpcebpgmaaReadC
namespace Go.Proofs.Ytencclpcebpgmaa
open Go.RowKit Go.Maps
variable {w : World} {K : KLoc} {L : Loc} {s : CSt} {t : St}

def putC (s : CSt) (t : St) (k : Int) (f : Nat → Int) : CSt := if usedE s t k = 0 then { s with row := (useP s k).1 ++ [⟨k, true, f⟩] } else s
theorem useP_pos (s : CSt) (k : Int) : (useP s k).2.1.pos = k := by
  unfold useP
  cases ha : atR s.row k with
  | some x =>
    have := List.find?_some ha
    simpa using this
  | none => rfl
/-- The last one is held fast. -/
theorem CD.fastLast {sz : Int} {r : List Hld} {x : Hld} (h : CD w K L ⟨sz, r ++ [x]⟩ t) {l : List Nat} {g : Nat} (hns : K.ns = l ++ [g]) (hx : x.fast = false) {m : Int} (hm : m = (fastN (r ++ [x]) : Int) + 1) :
    ∃ K', CD ((w.setCell ⟨g, 1, none⟩ (.bool true)).setCell ⟨K.c, 5, none⟩ (.int .i64 m)) K' L ⟨sz, r ++ [⟨x.pos, true, x.dat⟩]⟩ t ∧ GoesC w ((w.setCell ⟨g, 1, none⟩ (.bool true)).setCell ⟨K.c, 5, none⟩ (.int .i64 m)) K L K' L := by
  have h1 := h.cache.holds
  rw [hns] at h1
  obtain ⟨rfl, rfl⟩ := map_snoc h1
  have hx' : (K.M g).fast = false := hx
  obtain ⟨a1, a2⟩ := h.cache.flag (p := l) (q := []) (g := g) hns true (m := m) (by
    rw [hm]
    simp [fastN, List.countP_append, hld, hx']) rfl
  obtain ⟨b1, b2⟩ := h.caches a1 rfl rfl (fun _ q => .inl q) a2
  exact ⟨_, b1, b2⟩
set_option maxRecDepth 20000 in
set_option maxHeartbeats 4000000 in
theorem putC_of (h : CD w K L s t) (k : Int) {f : Nat → Int} (hf : Can f) : Calls Try.prog 25 #[ptr K.c, .int .i64 k, .agg (blk f)] w fun e w' => e = .returned (.int .i64 (usedE s t k)) ∧
    ∃ K' L', CD w' K' L' (putC s t k f) t ∧ GoesC w w' K L K' L' := by
  have hA := h.later (below_new w (.cells (blk f) 59))
  have hA0 := GoesC.ofBelow K L (below_new w (.cells (blk f) 59))
  have R0 := heap_alloc_new w (.cells (blk f) 59)
  have hltK : ∀ i, K.has i → i < w.heap.size := h.cache.lt
  have hltL : ∀ i, L.has i → i < w.heap.size := h.disk.lt
  have hs0 : (w.alloc (.cells (blk f) 59)).heap.size = w.heap.size + 1 := by simp
  unfold putC
  by_cases hu : usedE s t k = 0
  · rw [if_pos hu, hu]
    have hU := use_ok hA hu
    have hpos := useP_pos s k
    generalize (useP s k).1 = r at *
    generalize (useP s k).2.2 = nw at *
    generalize (useP s k).2.1 = x at *
    have HF : Hid (∀ W1 K1 g l, K1.ns = l ++ [g] → hld K1.M g = x → CD W1 K1 L ⟨s.size, r ++ [x]⟩ t → GoesC (w.alloc (.cells (blk f) 59)) W1 K L K1 L →
        W1.heap[w.heap.size]? = some (.cells (blk f) 59) ∧ W1.there g 4 1024 ∧ K.c ≠ g ∧
        (W1.setCells g 4 (blk f).toList).cell? ⟨g, 1, none⟩ = some (.bool x.fast) ∧ (W1.setCells g 4 (blk f).toList).frozen? ⟨g, 1, none⟩ = false ∧
        (W1.setCells g 4 (blk f).toList).cell? ⟨K.c, 5, none⟩ = some (.int .i64 (fastN (r ++ [x]) : Int)) ∧ (W1.setCells g 4 (blk f).toList).frozen? ⟨K.c, 5, none⟩ = false ∧ (fastN (r ++ [x]) : Int) ≤ 4096 ∧
        (x.fast = true → ∃ K' L', CD (W1.setCells g 4 (blk f).toList) K' L' { s with row := r ++ [⟨k, true, f⟩] } t ∧ GoesC w (W1.setCells g 4 (blk f).toList) K L K' L') ∧
        (x.fast = false → ∃ K' L', CD (((W1.setCells g 4 (blk f).toList).setCell ⟨g, 1, none⟩ (.bool true)).setCell ⟨K.c, 5, none⟩ (.int .i64 ((fastN (r ++ [x]) : Int) + 1))) K' L' { s with row := r ++ [⟨k, true, f⟩] } t ∧
          GoesC w (((W1.setCells g 4 (blk f).toList).setCell ⟨g, 1, none⟩ (.bool true)).setCell ⟨K.c, 5, none⟩ (.int .i64 ((fastN (r ++ [x]) : Int) + 1))) K L K' L')) := by
      intro W1 K1 g l hns hx h1 hG
      have hgm : g ∈ K1.ns := by rw [hns]; simp
      have hnd := h1.cache.nodes g (.inr hgm)
      obtain ⟨K3, c1, c2, c3, c4, c5⟩ := h1.bytesLast hns hf
      obtain ⟨pp, qq, hrow3⟩ := c1.node (g := g) (by rw [c3]; exact hgm) c5
      have hfn : fastN (r ++ [⟨x.pos, x.fast, f⟩]) = fastN (r ++ [x]) := by simp [fastN, List.countP_append]
      have hcc : K3.c = K.c := c4.trans hG.c
      have d5 := c1.cache.c5
      have ff := c1.cache.free 5
      rw [hcc] at d5 ff
      rw [show (({ size := s.size, row := r ++ [⟨x.pos, x.fast, f⟩] } : CSt)).row = r ++ [⟨x.pos, x.fast, f⟩] from rfl, hfn] at d5
      have hle : (fastN (r ++ [x]) : Int) ≤ 4096 := by
        have a1 := fastN_le (r ++ [x])
        have a2 := h1.cache.ok.len
        have a3 := h1.cache.ok.size
        simp only at a2 a3
        omega
      refine ⟨(hG.fr.block _ (by omega) ?_).trans R0, hnd.there, ?_, hrow3.c1, hrow3.free 1, d5, ff, hle, ?_, ?_⟩
      · rintro (q | q)
        · have := hltK _ q; omega
        · have := hltL _ q; omega
      · rw [← hG.c]
        exact (h1.cache.cne (.inr hgm)).symm
      · intro hx1
        rw [hpos, hx1] at c1
        exact ⟨K3, L, c1, hA0.trans (hG.trans c2)⟩
      · intro hx0
        obtain ⟨K4, e1, e2⟩ := c1.fastLast (by rw [c3]; exact hns) hx0 (m := (fastN (r ++ [x]) : Int) + 1) (by rw [hfn])
        rw [hcc] at e1 e2
        rw [show (⟨x.pos, x.fast, f⟩ : Hld).pos = x.pos from rfl, hpos] at e1
        exact ⟨K4, L, e1, hA0.trans (hG.trans (c2.trans e2))⟩
    clear h hA hA0 R0 hltK hltL hs0 hu hpos hf
    have HU : Hid (Calls Try.prog 53 _ _ _) := hU
    clear hU
    unfold ptr
    go_enter Try.func25, Try.ntmps25
    go_wp2_with (go_at_call 53; fail)
    refine HU.out.mono ?_
    rintro e W1 ⟨K1, g, l, rfl, hns, hx, h1, hG⟩
    obtain ⟨hR0, hth, hcg, g1, fg, d5, ff, hle, hA1, hA2⟩ := HF.out W1 K1 g l hns hx h1 hG
    have H1 : Hid _ := hA1
    have H2 : Hid _ := hA2
    clear HU HF hns hx h1 hG hA1 hA2
    generalize w.heap.size = g0 at *
    generalize hW3 : W1.setCells g 4 (blk f).toList = W3 at *
    generalize fastN (r ++ [x]) = n at *
    have hw5 : IntKind.i64.wrap ((n : Int) + 1) = (n : Int) + 1 := by rw [IntKind.wrap_i64]; omega
    unfold ptr
    cases hxf : x.fast
    · rw [hxf] at g1
      have H3 := H2.out hxf
      have H4 : Hid _ := H3
      clear H1 H2 H3
      go_wp2_with (first | (refine wpList_load25 rfl (.tmp 5) rfl g0 rfl f hR0 ?_) | (refine wpList_storeM rfl (.tmp 23) (.tmp 21) rfl rfl f rfl hth ?_; rw [hW3]))
      go_ret
      exact ⟨rfl, H4.out⟩
    · rw [hxf] at g1
      have H3 := H1.out hxf
      have H4 : Hid _ := H3
      clear H1 H2 H3
      go_wp2_with (first | (refine wpList_load25 rfl (.tmp 5) rfl g0 rfl f hR0 ?_) | (refine wpList_storeM rfl (.tmp 23) (.tmp 21) rfl rfl f rfl hth ?_; rw [hW3]))
      go_ret
      exact ⟨rfl, H4.out⟩
  · rw [if_neg hu]
    have hU := use_err hA hu
    have hne : (usedE s t k != 0) = true := by simp [hu]
    have HF : Hid (∀ W1, Below (w.alloc (.cells (blk f) 59)).heap.size (w.alloc (.cells (blk f) 59)) W1 → ∃ K' L', CD W1 K' L' s t ∧ GoesC w W1 K L K' L') := fun W1 hB => ⟨K, L, hA.later hB, hA0.trans (GoesC.ofBelow K L hB)⟩
    clear h hA hA0 R0 hltK hltL hs0 hu hf
    generalize usedE s t k = E at *
    have HU : Hid (Calls Try.prog 53 _ _ _) := hU
    clear hU
    unfold ptr
    go_enter Try.func25, Try.ntmps25
    go_wp2_with (go_at_call 53; fail)
    refine HU.out.mono ?_
    rintro e W1 ⟨rfl, hB⟩
    have HFin : Hid _ := HF.out W1 hB
    clear HU HF hB
    unfold nilp
    go_wp2
    go_ret
    exact ⟨rfl, HFin.out⟩
end Go.Proofs.Ytencclpcebpgmaa
