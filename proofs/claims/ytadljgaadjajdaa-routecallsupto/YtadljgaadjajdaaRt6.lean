/- What the chapter's examples say: lives; no condition. -/
import Derived.Test.YtadljgaadjajdaaRt5
namespace Go.Proofs.Ytadljgaadjajdaa
open Go.RowKit Go.Maps
theorem tx_row {w : World} {g : Nat} {l : List ByteArray} {cs : Array Value} (hcs : cs.toList = l.map Value.string) {t : TypeId} (h : w.heap[g]? = some (.cells cs t)) : TxAt w (some ⟨g, 0, none⟩) l := fun _ =>
  ⟨g, 0, rfl, (Array.getElem?_eq_some_iff.1 h).1, fun j x hx => by
    rw [Nat.zero_add, cell_of_row _ _ j _ t _ h, ← Array.getElem?_toList, hcs, List.getElem?_map, hx]
    rfl⟩
theorem tx_nil (w : World) (p : Option Addr) : TxAt w p [] := fun h => absurd h (by simp)
/-- Parse of a text that is known. -/
theorem parse_known (s : ByteArray) (E : Int) (R : List ByteArray) (n : Nat) (hn : R.length = n) (hE : prE (bl s) = E) (hR : prL (bl s) = R.map bl) (hs : s.size ≤ 9223372036854775807) (w : World) :
    Calls Try.prog 7 #[.string s] w fun e w' => ∃ p c, e = .returned (.tuple #[.slice p n c, .int .i64 E]) ∧ TxAt w' p R ∧ (∀ b off, p = some ⟨b, off, none⟩ → w.heap.size ≤ b) ∧ Below w.heap.size w w' :=
  (parse_any s w hs).mono fun e w' ⟨v, he, hv, hb⟩ => by
    rw [hR, show (R.map bl).map mkT = R from mk_bls R] at hv
    obtain ⟨p, c, h1, h2, _, h3⟩ := hv.texts
    exact ⟨p, c, by rw [he, h1, hE, hn], h2, h3, hb⟩
theorem same_known {w : World} {p q : Option Addr} {s t : List ByteArray} (c d m n : Nat) (hs : TxAt w p s) (ht : TxAt w q t) (hm : s.length = m) (hn : t.length = n) (hl : m < 9223372036854775807) (b : Bool) (hb : decide (s = t) = b) :
    Calls Try.prog 12 #[.slice p m c, .slice q n d] w fun e w' => e = .returned (.bool b) ∧ Below w.heap.size w w' := by
  subst hm; subst hn; subst hb
  exact sameTexts_any s t p q c d w hl hs ht
theorem join_known {w : World} {p : Option Addr} {l : List ByteArray} (c n : Nat) (h : TxAt w p l) (hn : l.length = n) (hl : n < 9223372036854775807) (hb : (jl (bls l)).length ≤ 140737488355327) (r : ByteArray) (hr : jnT l = r) :
    Calls Try.prog 10 #[.slice p n c] w fun e w' => e = .returned (.string r) ∧ Below w.heap.size w w' := by
  subst hn; subst hr
  exact join_any l p c w hl h hb
theorem special_known {w : World} {p : Option Addr} {l : List ByteArray} (c n : Nat) (h : TxAt w p l) (hn : l.length = n) (hl : n < 9223372036854775807) (r : Bool) (hr : spV l = r) :
    Calls Try.prog 11 #[.slice p n c] w fun e w' => e = .returned (.bool r) ∧ w' = w := by
  subst hn; subst hr
  exact special_any l p c w hl h
set_option maxRecDepth 20000 in
set_option maxHeartbeats 2000000 in
theorem lives_any (w : World) : Calls Try.prog 17 #[] w fun e w' => e = .returned (.bool true) ∧ Below w.heap.size w w' := by
  have H1 : Hid _ := fun u => parse_known ⟨#[47, 97, 47, 47, 98, 47]⟩ 0 [⟨#[97]⟩, ⟨#[98]⟩] 2 rfl (by decide) (by decide) (by decide) u
  have H2 : Hid _ := fun u => parse_known ⟨#[97, 47, 98]⟩ 4 [] 0 rfl (by decide) (by decide) (by decide) u
  have H3 : Hid _ := fun u => parse_known ⟨#[47, 97, 98, 99, 100, 101, 102, 103, 104, 105, 106, 107, 108, 109, 110, 111]⟩ 12 [] 0 rfl (by decide) (by decide) (by decide) u
  go_enter Try.func17, Try.ntmps17
  go_wp2_with (first | (go_at_call 7; fail))
  refine (H1.out _).mono ?_
  rintro e w1 ⟨p1, c1, rfl, ht, _, hb⟩
  have HT1 : Hid (TxAt w1 p1 [⟨#[97]⟩, ⟨#[98]⟩]) := ht
  have HB1 : Hid _ := hb
  clear hb ht
  go_wp2_with (first | (go_at_call 7; fail))
  refine (H2.out _).mono ?_
  rintro e w2 ⟨p2, c2, rfl, _, _, hb⟩
  have HT2 : Hid (TxAt w2 p1 [⟨#[97]⟩, ⟨#[98]⟩]) := TxAt.later HT1.out hb
  have HB2 : Hid _ := below_next HB1.out hb
  clear hb HT1 HB1
  go_wp2_with (first | (go_at_call 7; fail))
  refine (H3.out _).mono ?_
  rintro e w3 ⟨p3, c3, rfl, _, _, hb⟩
  have HT3 : Hid (TxAt w3 p1 [⟨#[97]⟩, ⟨#[98]⟩]) := TxAt.later HT2.out hb
  have HB3 : Hid _ := below_next HB2.out hb
  clear hb HT2 HB2 H1 H2 H3
  go_wp2_with (first | (go_at_call 12; fail))
  have HR : Hid _ := tx_row (l := [⟨#[97]⟩, ⟨#[98]⟩]) rfl (heap_alloc_new w3 (.cells #[.string ⟨#[97]⟩, .string ⟨#[98]⟩] 9))
  have hbn := below_new w3 (.cells #[.string ⟨#[97]⟩, .string ⟨#[98]⟩] 9)
  refine (same_known _ _ _ _ (TxAt.later HT3.out hbn) HR.out rfl rfl (by decide) true (by decide)).mono ?_
  rintro e w4 ⟨rfl, hb⟩
  have HB4 : Hid _ := below_next (below_next HB3.out hbn) hb
  clear hb hbn HR HT3 HB3
  go_wp2_with (first | (go_at_call 10; fail))
  have HR : Hid _ := tx_row (l := [⟨#[97]⟩, ⟨#[98]⟩]) rfl (heap_alloc_new w4 (.cells #[.string ⟨#[97]⟩, .string ⟨#[98]⟩] 9))
  have hbn := below_new w4 (.cells #[.string ⟨#[97]⟩, .string ⟨#[98]⟩] 9)
  refine (join_known _ _ HR.out rfl (by decide) (by decide) ⟨#[47, 97, 47, 98]⟩ rfl).mono ?_
  rintro e w5 ⟨rfl, hb⟩
  have HB5 : Hid _ := below_next (below_next HB4.out hbn) hb
  clear hb hbn HR HB4
  go_wp2_with (first | (go_at_call 10; fail))
  refine (join_known (l := []) _ _ (tx_nil _ _) rfl (by decide) (by decide) ⟨#[47]⟩ rfl).mono ?_
  rintro e w6 ⟨rfl, hb⟩
  have HB6 : Hid _ := below_next HB5.out hb
  clear hb HB5
  go_wp2_with (first | (go_at_call 11; fail))
  refine (special_known (l := []) _ _ (tx_nil _ _) rfl (by decide) true rfl).mono ?_
  rintro e w7 ⟨rfl, rfl⟩
  go_wp2_with (first | (go_at_call 11; fail))
  have HR : Hid _ := tx_row (l := [⟨#[46, 46]⟩, ⟨#[97]⟩]) rfl (heap_alloc_new w7 (.cells #[.string ⟨#[46, 46]⟩, .string ⟨#[97]⟩] 9))
  have HB7 : Hid _ := below_next HB6.out (below_new w7 (.cells #[.string ⟨#[46, 46]⟩, .string ⟨#[97]⟩] 9))
  refine (special_known _ _ HR.out rfl (by decide) false rfl).mono ?_
  rintro e w8 ⟨rfl, rfl⟩
  clear HR HB6
  go_wp2
  go_ret
  exact ⟨rfl, HB7.out⟩
end Go.Proofs.Ytadljgaadjajdaa
