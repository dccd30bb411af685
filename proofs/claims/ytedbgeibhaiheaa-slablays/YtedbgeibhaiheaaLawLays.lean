/- SlabLays's walk: of every slice of bytes, place and bytes the call answers true and turns nothing that was there; the bytes are fewer than 2 to the 47th, less 4096. -/
import Derived.Test.YtedbgeibhaiheaaOver
import Derived.Test.YtedbgeibhaiheaaRefLay
import Derived.Test.YtedbgeibhaiheaaBlank
namespace Go.Proofs.Ytedbgeibhaiheaa
open Go.RowKit

set_option maxRecDepth 20000 in
set_option maxHeartbeats 1000000 in
theorem law_lays (p : Value) (n : Nat) (f : Nat → Int) (k : Int) (aq : Option Addr) (m cq : Nat) (q : Nat → Int) (w : World) (hp : Lies w p n f) (ha : -9223372036854775808 ≤ k ∧ k ≤ 9223372036854775807)
    (hq : Lies w (.slice aq m cq) m q) (hm : m ≤ 140737488351232) :
    Calls Try.prog 5 #[p, .int .i64 k, .slice aq m cq] w fun e w' => e = .returned (.bool true) ∧ Below w.heap.size w w' := by
  have z25 := zero25
  have heq := eq25
  have hself := sameB_self
  go_enter Try.func5, Try.ntmps5
  go_wp2_with fail
  refine (block_lies hp).mono ?_
  rintro e W1 ⟨rfl, hb1⟩
  go_wp2_with (first | refine wpList_store25_new rfl _ _ rfl _ _ rfl rfl ?_)
  generalize hF : firsts f n = F
  generalize hW : W1.alloc (.cells (blk F) 25) = W2
  have hWg : W2.heap[W1.heap.size]? = some (.cells (blk F) 25) := by rw [← hW]; exact heap_alloc_new _ _
  have hWb : Below w.heap.size w W2 := by rw [← hW]; exact hb1.alloc hb1.size _
  have hlt : W1.heap.size < W2.heap.size := by rw [← hW]; simp
  clear hW hF
  refine (lent_lies (hq.later hWb) hm).mono ?_
  rintro e W3 ⟨v, rfl, hown, hb3⟩
  obtain ⟨g, cap, rfl, hg1, hg2, hg3, hg4⟩ := hown.some (by omega)
  have hsl := slice22h g m cap (by omega)
  go_wp2
  have hWg3 : W3.heap[W1.heap.size]? = some (.cells (blk F) 25) := (hb3.block _ hlt).trans hWg
  have hWb3 : Below w.heap.size w W3 := hWb.trans (hb3.mono hWb.size)
  have HQ : ∀ y : Later W3, Lies y.val (.slice aq m cq) m q := fun y => (hq.later hWb3).later y.below
  have HL : ∀ y : Later W3, Lies y.val (.slice (some ⟨g, 0, none⟩) m cap) m q := fun y => (hown.later y.below).start (by omega) fun i hi => by unfold lentF; rw [if_pos hi]
  have HO : ∀ y : Later W3, Lies y.val (.slice (some ⟨g, 0, none⟩) (m + 6) cap) (m + 6) (lentF q m 7) := fun y => (hown.later y.below).lies
  have hne := later_some W3
  refine wp_region_later (by kernel_rfl) (by kernel_rfl) W3 (Below.refl _ _) ?_
  repeat (first
    | (go_big_quiet_want; refine quiet_load25 _ rfl _ rfl _ hWg3 ?_; simp only [Act.put, List.setIfInBounds_toArray, List.set_cons_succ, List.set_cons_zero]; go_big_quiet_on)
    | go_big_quiet_step (first
        | (go_at_call 23; exact Later.call _ (lay_any _ _ _ _ _ _ ha (HL _)))
        | (go_at_call 24; exact Later.call _ (refLay_any _ _ _ _ _ _ ha (HQ _)))
        | (go_at_call 25; exact Later.call _ (blank_any _ _))
        | (go_at_call 26; exact Later.call _ (refBlank_any _ _))
        | (go_at_call 27; exact Later.call _ (kept_lies (HO _) (HQ _) (fun _ _ => rfl) hm))))
  refine wpQuiet_nil ?_
  rintro _ ⟨x, rfl⟩
  go_wp2_with fail
  refine (over_some W2.heap.size g cap (m + 6) _ x.val (hown.later x.below) hg1 (by omega)).mono ?_
  rintro e W4 ⟨rfl, hown4, hb4⟩
  have hs3 : W3.heap.size ≤ x.val.heap.size := x.below.size
  have hs4 : x.val.heap.size ≤ W4.heap.size := hb4.size
  have hWg4 : W4.heap[W1.heap.size]? = some (.cells (blk F) 25) := (hb4.block _ hlt).trans ((x.below.block _ (Nat.lt_of_lt_of_le hlt hb3.size)).trans hWg3)
  have hWb4 : Below w.heap.size w W4 := (hWb3.trans (x.below.mono hWb3.size)).trans (hb4.mono hWb.size)
  have hl4 : Lies W4 (.slice (some ⟨g, 0, none⟩) m cap) m (markF 9) := hown4.start (by omega) fun _ _ => rfl
  clear HQ HL HO hown hne hWg3 hWb3 hWg
  go_wp2_with fail
  refine (copy_lies hl4 (by omega)).mono ?_
  rintro e W5 ⟨v5, rfl, hown5, hb5⟩
  have hWg5 : W5.heap[W1.heap.size]? = some (.cells (blk F) 25) := (hb5.block _ (Array.getElem?_eq_some_iff.1 hWg4).1).trans hWg4
  have hWb5 : Below w.heap.size w W5 := hWb4.trans (hb5.mono hWb4.size)
  have HL : ∀ y : Later W5, Lies y.val (.slice (some ⟨g, 0, none⟩) m cap) m (markF 9) := fun y => (hl4.later hb5).later y.below
  have HT : ∀ y : Later W5, Lies y.val v5 m (markF 9) := fun y => (hown5.later y.below).lies
  have hne := later_some W5
  go_wp2_with fail
  refine wp_region_later (by kernel_rfl) (by kernel_rfl) W5 (Below.refl _ _) ?_
  repeat (first
    | (go_big_quiet_want; refine quiet_load25 _ rfl _ rfl _ hWg5 ?_; simp only [Act.put, List.setIfInBounds_toArray, List.set_cons_succ, List.set_cons_zero]; go_big_quiet_on)
    | go_big_quiet_step (first
        | (go_at_call 23; exact Later.call _ (lay_any _ _ _ _ _ _ ha (HL _)))
        | (go_at_call 24; exact Later.call _ (refLay_any _ _ _ _ _ _ ha (HT _)))
        | (go_at_call 25; exact Later.call _ (blank_any _ _))
        | (go_at_call 26; exact Later.call _ (refBlank_any _ _))))
  refine wpQuiet_nil ?_
  rintro _ ⟨y, rfl⟩
  go_wp2
  go_ret
  exact ⟨rfl, hWb5.trans (y.below.mono hWb5.size)⟩
end Go.Proofs.Ytedbgeibhaiheaa
