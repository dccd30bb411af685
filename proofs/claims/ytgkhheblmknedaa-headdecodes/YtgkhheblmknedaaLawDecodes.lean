/- HeadDecodes' walk; for every geometry, every number and every list. -/
import Derived.Test.YtgkhheblmknedaaRefDec
import Derived.Test.YtgkhheblmknedaaApart2
import Derived.Test.YtgkhheblmknedaaLayout
import Derived.Test.YtgkhheblmknedaaNumbered
import Derived.Test.YtgkhheblmknedaaEncAny
import Derived.OpenShut
namespace Go.Proofs.Ytgkhheblmknedaa
open Go.RowKit
def dL (b l i a c d e f g : Int) (F : Nat → Int) : List Int := if standsB b l i a c d e f g = true then decL (1 + l) b (l - 1) F else []
def dN (b l i a c d e f g : Int) (F : Nat → Int) : Int := if standsB b l i a c d e f g = true then decN (1 + l) b (l - 1) F else 2
theorem listRow_rowI (T : List Int) : listRow T = rowI (fun i => T.getD i 0) T.length := by
  refine rowI_ext (by simp [listRow]) fun i hi => ?_
  unfold listRow
  rw [List.getElem?_toArray, List.getElem?_map, List.getElem?_eq_getElem hi, List.getD_eq_getElem?_getD, List.getElem?_eq_getElem hi]
  rfl
theorem dL_len (b l i a c d e f g : Int) (F : Nat → Int) : (dL b l i a c d e f g F).length ≤ 255 := by
  unfold dL
  by_cases hs : standsB b l i a c d e f g = true
  · rw [if_pos hs]
    obtain ⟨hf, _⟩ := stands_is hs
    have h2 := hf.2.1
    rcases dec_may (lo := 1 + l) (hi := b) (m := l - 1) (F := F) with ⟨_, h⟩ | ⟨_, h⟩
    · rw [h]; simp
    · have := h.1; omega
  · rw [if_neg hs]; simp
theorem decX_any (b l i a c d e f g : Int) (F : Nat → Int) (w : World) (hb : I64 b) (hF : ∀ i, 0 ≤ F i ∧ F i ≤ 255) :
    Calls Try.prog 16 #[.agg (lay9 b l i a c d e f g), .agg (blk F)] w fun e' w' => ∃ p, e' = .returned (.tuple #[.agg #[.slice p (dL b l i a c d e f g F).length (dL b l i a c d e f g F).length], .int .i64 (dN b l i a c d e f g F)]) ∧
      (dN b l i a c d e f g F ≠ 0 ∧ p = none ∧ dL b l i a c d e f g F = [] ∨ dN b l i a c d e f g F = 0 ∧ ∃ q, p = some ⟨q, 0, none⟩ ∧ w.heap.size ≤ q ∧ w'.heap[q]? = some (.cells (listRow (dL b l i a c d e f g F)) 3)) ∧ Below w.heap.size w w' := by
  unfold dL dN
  by_cases hs : standsB b l i a c d e f g = true
  · rw [if_pos hs, if_pos hs]
    obtain ⟨hf, rfl⟩ := stands_is hs
    have hl : 32 ≤ l ∧ l ≤ 256 := ⟨hf.1, hf.2.1⟩
    have h0 := numN_bd F hF 4 0
    by_cases h1 : numN F 0 4 ≤ l - 1
    · have hN : numN F 0 4 = ((numN F 0 4).toNat : Int) := by omega
      by_cases h2 : mayB (1 + l) b (l - 1) (tgts F (numN F 0 4).toNat) = true
      · unfold decL decN
        rw [if_pos ⟨h1, h2⟩, if_pos ⟨h1, h2⟩, tgts_len]
        refine (dec_ok b l i a (1 + l) d e f g F _ w hb hs hl hF hN (by omega) h2).mono ?_
        rintro e' W ⟨q, rfl, hq, hr, hB⟩
        exact ⟨_, rfl, .inr ⟨rfl, q, rfl, hq, hr⟩, hB⟩
      · unfold decL decN
        rw [if_neg (fun q => h2 q.2), if_neg (fun q => h2 q.2)]
        refine (dec_bad b l i a (1 + l) d e f g F _ w hb hs hl hF hN (by omega) (by simpa using h2)).mono ?_
        rintro e' W ⟨rfl, hB⟩
        exact ⟨none, rfl, .inl ⟨by decide, rfl, rfl⟩, hB⟩
    · unfold decL decN
      rw [if_neg (fun q => h1 q.1), if_neg (fun q => h1 q.1)]
      refine (dec_more b l i a (1 + l) d e f g F w hb hs hl hF (by omega)).mono ?_
      rintro e' W ⟨rfl, hB⟩
      exact ⟨none, rfl, .inl ⟨by decide, rfl, rfl⟩, hB⟩
  · rw [if_neg hs, if_neg hs]
    refine (dec_not b l i a c d e f g F w hb (by simpa using hs)).mono ?_
    rintro e' W ⟨rfl, hB⟩
    exact ⟨none, rfl, .inl ⟨by decide, rfl, rfl⟩, hB⟩
theorem refDecX_any (b l i a c d e f g : Int) (F : Nat → Int) (w : World) (hF : ∀ i, 0 ≤ F i ∧ F i ≤ 255) :
    Calls Try.prog 15 #[.agg (lay9 b l i a c d e f g), .agg (blk F)] w fun e' w' => ∃ p c', e' = .returned (.tuple #[.agg #[.slice p (dL b l i a c d e f g F).length c'], .int .i64 (dN b l i a c d e f g F)]) ∧
      IntsAt w' p (dL b l i a c d e f g F) ∧ Below w.heap.size w w' := by
  have nilI : ∀ (W : World) (q : Option Addr), IntsAt W q [] := fun W q h => by simp at h
  unfold dL dN
  by_cases hs : standsB b l i a c d e f g = true
  · rw [if_pos hs, if_pos hs]
    obtain ⟨hf, _⟩ := stands_is hs
    have hl : 32 ≤ l ∧ l ≤ 256 := ⟨hf.1, hf.2.1⟩
    have h0 := numN_bd F hF 4 0
    by_cases h1 : numN F 0 4 ≤ l - 1
    · have hN : numN F 0 4 = ((numN F 0 4).toNat : Int) := by omega
      refine (refDec_in b l i a c d e f g F (numN F 0 4).toNat w hs hl hF hN (by omega)).mono ?_
      rintro e' W ⟨p, c', rfl, hI, hB⟩
      unfold decL decN
      by_cases h2 : mayB (1 + l) b (l - 1) (tgts F (numN F 0 4).toNat) = true
      · rw [if_pos h2, if_pos h2, if_pos ⟨h1, h2⟩, if_pos ⟨h1, h2⟩, tgts_len]
        exact ⟨p, c', rfl, hI h2, hB⟩
      · rw [if_neg h2, if_neg h2, if_neg (fun q => h2 q.2), if_neg (fun q => h2 q.2)]
        exact ⟨p, c', rfl, nilI _ _, hB⟩
    · unfold decL decN
      rw [if_neg (fun q => h1 q.1), if_neg (fun q => h1 q.1)]
      refine (refDec_more b l i a c d e f g F w hs hl hF (by omega)).mono ?_
      rintro e' W ⟨rfl, hB⟩
      exact ⟨none, 0, rfl, nilI _ _, hB⟩
  · rw [if_neg hs, if_neg hs]
    refine (refDec_not b l i a c d e f g F w (by simpa using hs)).mono ?_
    rintro e' W ⟨rfl, hB⟩
    exact ⟨none, 0, rfl, nilI _ _, hB⟩
set_option maxRecDepth 20000 in
set_option maxHeartbeats 4000000 in
theorem law_decodes {w : World} (b l i : Int) (hb : I64 b) (_ : I64 l) (_ : I64 i) (turn : Int) (_ : (Lit.int .i64 turn).wf = true) (ws : List Int) (p : Option Addr) (cap : Nat) (hlen : ws.length < 9223372036854775807) (hws : WordsAt w p ws) (hwf : ∀ x ∈ ws, (Lit.int .u32 x).wf = true) :
    Calls Try.prog 4 #[geoV b l i, .int .i64 turn, .slice p ws.length cap] w fun e W => e = .returned (.bool true) ∧ Below w.heap.size w W := by
  have hLa := fun W => layout_any b l i turn W hb
  have hN := fun W (h : WordsAt W p ws) => numbered_any ws p cap W hlen h (fun x hx => by have := bounds_u32 (hwf x hx); exact ⟨by omega, by omega⟩)
  obtain ⟨n, hn⟩ : ∃ n, ws.length = n := ⟨_, rfl⟩
  rw [hn] at hN ⊢
  have HI : Hid (WordsAt w p ws) := hws
  have hFb : ∀ i, 0 ≤ wordF (ws.take 256) i ∧ wordF (ws.take 256) i ≤ 255 := wordF_byte _
  generalize wordF (ws.take 256) = F at *
  have HN : Hid (∀ W, WordsAt W p ws → Calls Try.prog 14 #[.slice p n cap] W fun e w' => e = .returned (.agg (blk F)) ∧ Below W.heap.size W w') := hN
  have HFb : Hid (∀ i, 0 ≤ F i ∧ F i ≤ 255) := hFb
  have z25 := zero25
  clear hN hws hn hwf hb hlen hFb
  unfold geoV at *
  go_enter Try.func4, Try.ntmps4
  go_wp2_with (first | (go_at_call 8; fail))
  refine (hLa _).mono ?_
  rintro e W1 ⟨x0, x1, x2, x3, x4, x5, x6, x7, x8, rfl, hx0, hb1⟩
  have hD := fun W => decX_any x0 x1 x2 x3 x4 x5 x6 x7 x8 F W hx0 HFb.out
  have hR := fun W => refDecX_any x0 x1 x2 x3 x4 x5 x6 x7 x8 F W HFb.out
  have hTl := dL_len x0 x1 x2 x3 x4 x5 x6 x7 x8 F
  have hsz : (lay9 x0 x1 x2 x3 x4 x5 x6 x7 x8).size = 9 := rfl
  have h1 := lay_one x0 x1 x2 x3 x4 x5 x6 x7 x8
  generalize dL x0 x1 x2 x3 x4 x5 x6 x7 x8 F = T at *
  generalize dN x0 x1 x2 x3 x4 x5 x6 x7 x8 F = E at *
  generalize lay9 x0 x1 x2 x3 x4 x5 x6 x7 x8 = L at *
  have HB1 : Hid (Below w.heap.size w (W1.alloc (.cells L 26))) := bel_al (below_next (below_new _ _) hb1) _
  have hL1 := heap_alloc_new W1 (.cells L 26)
  obtain ⟨t, ht⟩ : ∃ t, T.length = t := ⟨_, rfl⟩
  rw [ht] at hD hR hTl
  have HT : Hid (T.length = t) := ht
  have HD : Hid (∀ W, Calls Try.prog 16 #[.agg L, .agg (blk F)] W fun e' w' => ∃ p, e' = .returned (.tuple #[.agg #[.slice p t t], .int .i64 E]) ∧ (E ≠ 0 ∧ p = none ∧ T = [] ∨ E = 0 ∧ ∃ q, p = some ⟨q, 0, none⟩ ∧ W.heap.size ≤ q ∧ w'.heap[q]? = some (.cells (listRow T) 3)) ∧ Below W.heap.size W w') := hD
  have HR : Hid (∀ W, Calls Try.prog 15 #[.agg L, .agg (blk F)] W fun e' w' => ∃ p c', e' = .returned (.tuple #[.agg #[.slice p t c'], .int .i64 E]) ∧ IntsAt w' p T ∧ Below W.heap.size W w') := hR
  have HSI : Hid (∀ W q1 q2 c1 c2, IntsAt W q1 T → IntsAt W q2 T → Calls Try.prog 17 #[.slice q1 t c1, .slice q2 t c2] W fun e' w' => e' = .returned (.bool true) ∧ Below W.heap.size W w') := fun W q1 q2 c1 c2 h h' => by
    have := sameInts_any T T q1 q2 c1 c2 W (by omega) h h'
    rw [ht] at this
    simpa using this
  clear hb1 hLa hD hR hx0 HFb ht
  go_wp2_with (first | (with_reducible refine isStore 26 ?_; refine wpList_storeL_new rfl _ _ rfl _ _ hsz rfl h1 _ rfl rfl rfl ?_) | (go_at_call 14; fail))
  generalize W1.alloc (.cells L 26) = X1 at *
  generalize W1.heap.size = gL at *
  refine (HN.out _ (HI.out.later HB1.out)).mono ?_
  rintro e W2 ⟨rfl, hb2⟩
  have hL2 := heap_kept (heap_kept hL1 hb2) (below_new W2 (.cells (blk F) 30))
  have hF2 := heap_alloc_new W2 (.cells (blk F) 30)
  have HB2 : Hid (Below w.heap.size w (W2.alloc (.cells (blk F) 30))) := bel_al (below_next HB1.out hb2) _
  clear hb2 hL1 HB1 HN HI
  go_wp2_with (first | (with_reducible refine isStore 30 ?_; refine wpList_store25_new rfl _ _ rfl _ _ rfl rfl ?_) | (with_reducible refine isLoad 26 ?_; refine wpList_loadL rfl _ rfl _ rfl _ hsz hL2 ?_) | (with_reducible refine isLoad 30 ?_; refine wpList_load25 rfl _ rfl _ rfl _ hF2 ?_) | (go_at_call 15; fail))
  generalize W2.alloc (.cells (blk F) 30) = X2 at *
  generalize W2.heap.size = gF at *
  refine (HR.out _).mono ?_
  rintro e W3 ⟨p3, c3, rfl, hi3, hb3⟩
  have hbb := below_new W3 (.cells #[.slice p3 t c3] 35)
  have hL3 := heap_kept (heap_kept hL2 hb3) hbb
  have hF3 := heap_kept (heap_kept hF2 hb3) hbb
  have hA3 := heap_alloc_new W3 (.cells #[.slice p3 t c3] 35)
  have HI3 : Hid (IntsAt (W3.alloc (.cells #[.slice p3 t c3] 35)) p3 T) := hi3.later hbb
  have HB3 : Hid (Below w.heap.size w (W3.alloc (.cells #[.slice p3 t c3] 35))) := bel_al (below_next HB2.out hb3) _
  clear hb3 hbb hL2 hF2 HB2 hi3 HR
  go_wp2_with (first | (with_reducible refine isLoad 26 ?_; refine wpList_loadL rfl _ rfl _ rfl _ hsz hL3 ?_) | (with_reducible refine isLoad 30 ?_; refine wpList_load25 rfl _ rfl _ rfl _ hF3 ?_) | (go_at_call 16; fail))
  generalize W3.alloc (.cells #[.slice p3 t c3] 35) = X3 at *
  generalize W3.heap.size = g9 at *
  refine (HD.out _).mono ?_
  rintro e W4 ⟨p4, rfl, hd4, hb4⟩
  have hbb := below_new W4 (.cells #[.slice p4 t t] 35)
  have hL4 := heap_kept (heap_kept hL3 hb4) hbb
  have hF4 := heap_kept (heap_kept hF3 hb4) hbb
  have hA4 := heap_kept (heap_kept hA3 hb4) hbb
  have hC4 := heap_alloc_new W4 (.cells #[.slice p4 t t] 35)
  have HI4 : Hid (IntsAt (W4.alloc (.cells #[.slice p4 t t] 35)) p3 T) := (HI3.out.later hb4).later hbb
  have HB4 : Hid (Below w.heap.size w (W4.alloc (.cells #[.slice p4 t t] 35))) := bel_al (below_next HB3.out hb4) _
  have HD4 : Hid (E ≠ 0 ∧ p4 = none ∧ T = [] ∨ E = 0 ∧ ∃ q, p4 = some ⟨q, 0, none⟩ ∧ w.heap.size ≤ q ∧ (W4.alloc (.cells #[.slice p4 t t] 35)).heap[q]? = some (.cells (listRow T) 3)) := by
    rcases hd4 with h | ⟨h0, q, hq, hq1, hq2⟩
    · exact .inl h
    · exact .inr ⟨h0, q, hq, Nat.le_trans HB3.out.size hq1, heap_kept hq2 hbb⟩
  clear hb4 hbb hL3 hF3 hA3 HI3 HB3 hd4
  go_wp2_with (first | (with_reducible refine isLoad 26 ?_; refine wpList_loadL rfl _ rfl _ rfl _ hsz hL4 ?_) | (with_reducible refine isLoad 30 ?_; refine wpList_load25 rfl _ rfl _ rfl _ hF4 ?_) | (go_at_call 16; fail))
  generalize W4.alloc (.cells #[.slice p4 t t] 35) = X4 at *
  generalize W4.heap.size = g11 at *
  refine (HD.out _).mono ?_
  rintro e W5 ⟨p5, rfl, hd5, hb5⟩
  have hbb := below_new W5 (.cells #[.slice p5 t t] 35)
  have hA5 := heap_kept (heap_kept hA4 hb5) hbb
  have hC5 := heap_kept (heap_kept hC4 hb5) hbb
  have hE5 := heap_alloc_new W5 (.cells #[.slice p5 t t] 35)
  have HI5 : Hid (IntsAt (W5.alloc (.cells #[.slice p5 t t] 35)) p3 T) := (HI4.out.later hb5).later hbb
  have HB5 : Hid (Below w.heap.size w (W5.alloc (.cells #[.slice p5 t t] 35))) := bel_al (below_next HB4.out hb5) _
  have HD5 : Hid ((E ≠ 0 ∧ p4 = none ∧ p5 = none ∧ T = []) ∨ ∃ q4 q5, p4 = some ⟨q4, 0, none⟩ ∧ p5 = some ⟨q5, 0, none⟩ ∧ w.heap.size ≤ q4 ∧ w.heap.size ≤ q5 ∧ q4 ≠ q5 ∧ (W5.alloc (.cells #[.slice p5 t t] 35)).heap[q4]? = some (.cells (listRow T) 3) ∧ (W5.alloc (.cells #[.slice p5 t t] 35)).heap[q5]? = some (.cells (listRow T) 3)) := by
    rcases HD4.out with ⟨h0, h, hT⟩ | ⟨h0, q4, hq, hq1, hq2⟩
    · rcases hd5 with ⟨_, h', _⟩ | ⟨h0', _⟩
      · exact .inl ⟨h0, h, h', hT⟩
      · exact absurd h0' h0
    · rcases hd5 with ⟨h0', _⟩ | ⟨_, q5, hq', hq1', hq2'⟩
      · exact absurd h0 h0'
      · have := (Array.getElem?_eq_some_iff.1 hq2).1
        exact .inr ⟨q4, q5, hq, hq', hq1, Nat.le_trans HB4.out.size hq1', by omega, heap_kept (heap_kept hq2 hb5) hbb, heap_kept hq2' hbb⟩
  clear hb5 hbb hL4 hF4 hA4 hC4 HI4 HB4 hd5 HD4 HD
  have HIh : Hid (IntsAt (W5.alloc (.cells #[.slice p5 t t] 35)) p4 T ∧ IntsAt (W5.alloc (.cells #[.slice p5 t t] 35)) p5 T) := by
    rcases HD5.out with ⟨_, rfl, rfl, rfl⟩ | ⟨q4, q5, rfl, rfl, _, _, _, h4, h5⟩
    · exact ⟨fun h => by simp at h, fun h => by simp at h⟩
    · exact ⟨listRow_at h4, listRow_at h5⟩
  have cA := cell_one hA5
  have cC := cell_one hC5
  have cE := cell_one hE5
  go_wp2_with (first | (go_at_call 17; fail))
  generalize W5.alloc (.cells #[.slice p5 t t] 35) = X5 at *
  generalize W5.heap.size = g13 at *
  refine (HSI.out _ _ _ _ _ HIh.out.1 HI5.out).mono ?_
  rintro e W6 ⟨rfl, hb6⟩
  have cA6 := cell_one (heap_kept hA5 hb6)
  have cC6 := cell_one (heap_kept hC5 hb6)
  have cE6 := cell_one (heap_kept hE5 hb6)
  have hC6 := heap_kept hC5 hb6
  have hE6 := heap_kept hE5 hb6
  have HI6 : Hid (IntsAt W6 p5 T ∧ IntsAt W6 p3 T) := ⟨HIh.out.2.later hb6, HI5.out.later hb6⟩
  have HB6 : Hid (Below w.heap.size w W6) := below_next HB5.out hb6
  have HD6 : Hid ((E ≠ 0 ∧ p4 = none ∧ p5 = none ∧ T = []) ∨ ∃ q4 q5, p4 = some ⟨q4, 0, none⟩ ∧ p5 = some ⟨q5, 0, none⟩ ∧ w.heap.size ≤ q4 ∧ w.heap.size ≤ q5 ∧ q4 ≠ q5 ∧ W6.heap[q4]? = some (.cells (listRow T) 3) ∧ W6.heap[q5]? = some (.cells (listRow T) 3)) := by
    rcases HD5.out with h | ⟨q4, q5, a1, a2, a3, a4, a5, a6, a7⟩
    · exact .inl h
    · exact .inr ⟨q4, q5, a1, a2, a3, a4, a5, heap_kept a6 hb6, heap_kept a7 hb6⟩
  clear hb6 hA5 hC5 hE5 HI5 HIh HB5 HD5 cA cC cE
  go_wp2_with (first | (go_at_call 17; fail))
  refine (HSI.out _ _ _ _ _ HI6.out.1 HI6.out.2).mono ?_
  rintro e W7 ⟨rfl, hb7⟩
  have cC7 := cell_one (heap_kept hC6 hb7)
  have cE7 := cell_one (heap_kept hE6 hb7)
  have HB7 : Hid (Below w.heap.size w W7) := below_next HB6.out hb7
  have HD7 : Hid ((E ≠ 0 ∧ p4 = none ∧ p5 = none ∧ T = []) ∨ ∃ q4 q5, p4 = some ⟨q4, 0, none⟩ ∧ p5 = some ⟨q5, 0, none⟩ ∧ w.heap.size ≤ q4 ∧ w.heap.size ≤ q5 ∧ q4 ≠ q5 ∧ W7.heap[q4]? = some (.cells (listRow T) 3) ∧ W7.heap[q5]? = some (.cells (listRow T) 3)) := by
    rcases HD6.out with h | ⟨q4, q5, a1, a2, a3, a4, a5, a6, a7⟩
    · exact .inl h
    · exact .inr ⟨q4, q5, a1, a2, a3, a4, a5, heap_kept a6 hb7, heap_kept a7 hb7⟩
  clear hb7 hC6 hE6 HI6 HB6 HD6 cA6 cC6 cE6 HSI
  go_wp2_with (first | (go_at_call 18; fail))
  have hfin : Calls Try.prog 18 #[.slice (some ⟨W7.heap.size, 0, none⟩) 2 2] (W7.alloc (.cells #[.slice p4 t t, .slice p5 t t] 24)) fun e w' => e = .returned (.bool true) ∧ Below w.heap.size W7 w' := by
    rcases HD7.out with ⟨_, rfl, rfl, hT⟩ | ⟨q4, q5, rfl, rfl, a3, a4, a5, a6, a7⟩
    · have ht0 : t = 0 := by rw [← HT.out, hT]; rfl
      subst ht0
      exact (apart_two_nil W7).mono fun e w' h => ⟨h.1, h.2.mono HB7.out.size⟩
    · rw [listRow_rowI, HT.out] at a6 a7
      exact apart_two w.heap.size q4 q5 t _ W7 a6 a7 a3 a4 a5 (by omega)
  refine hfin.mono ?_
  rintro e W8 ⟨rfl, hb8⟩
  have HB8 : Hid (Below w.heap.size w W8) := HB7.out.trans hb8
  clear hb8 hfin
  go_wp2
  go_ret
  exact ⟨rfl, HB8.out⟩
end Go.Proofs.Ytgkhheblmknedaa
