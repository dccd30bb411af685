/- SlabNumbers's walk: of every slice of bytes, place and number the call answers true and turns nothing that was there. -/
import Derived.Test.YtedbgeibhaiheaaRefSet
import Derived.Test.YtedbgeibhaiheaaLater
namespace Go.Proofs.Ytedbgeibhaiheaa
open Go.RowKit

set_option maxRecDepth 20000 in
set_option maxHeartbeats 400000 in
theorem law_numbers (p : Value) (n : Nat) (f : Nat → Int) (k v : Int) (w : World) (hp : Lies w p n f) (hf : ∀ i, 0 ≤ f i ∧ f i ≤ 255) (hv : 0 ≤ v ∧ v < 4294967296) :
    Calls Try.prog 3 #[p, .int .i64 k, .int .u32 v] w fun e w' => e = .returned (.bool true) ∧ Below w.heap.size w w' := by
  have z25 := zero25
  have hF : ∀ i, 0 ≤ firsts f n i ∧ firsts f n i ≤ 255 := fun i => by
    unfold firsts; split
    · exact hf i
    · omega
  have HF : Hid (∀ i, 0 ≤ firsts f n i ∧ firsts f n i ≤ 255) := hF
  have hV : 0 ≤ IntKind.u16.wrap v ∧ IntKind.u16.wrap v < 65536 := by rw [wrap_u16]; omega
  have HV : Hid (0 ≤ IntKind.u16.wrap v ∧ IntKind.u16.wrap v < 65536) := hV
  clear hf hF hV
  go_enter Try.func3, Try.ntmps3
  go_wp2_with fail
  refine (block_lies hp).mono ?_
  rintro e W1 ⟨rfl, hb1⟩
  go_wp2_with (first | refine wpList_store25_new rfl _ _ rfl _ _ rfl rfl ?_)
  generalize hW : W1.alloc (.cells (blk (firsts f n)) 25) = W
  have hWg : W.heap[W1.heap.size]? = some (.cells (blk (firsts f n)) 25) := by rw [← hW]; exact heap_alloc_new _ _
  have hWb : Below w.heap.size w W := by rw [← hW]; exact hb1.alloc hb1.size _
  have HL : ∀ y : Later W, Lies y.val p n f := fun y => (hp.later hWb).later y.below
  clear hW
  refine wp_region_later (by kernel_rfl) (by kernel_rfl) W (Below.refl _ _) ?_
  have hne := later_some W
  repeat (first
    | (go_big_quiet_want; refine quiet_load25 _ rfl _ rfl _ hWg ?_; simp only [Act.put, List.setIfInBounds_toArray, List.set_cons_succ, List.set_cons_zero]; go_big_quiet_on)
    | go_big_quiet_step (first
        | (go_at_call 10; exact Later.call _ (u16_any _ _ _ HF.out))
        | (go_at_call 11; exact Later.call _ (refU16_any _ _ _ HF.out))
        | (go_at_call 12; exact Later.call _ (u32_any _ _ _ HF.out))
        | (go_at_call 13; exact Later.call _ (refU32_any _ _ _ HF.out))))
  refine wpQuiet_nil ?_
  rintro _ ⟨x, rfl⟩
  go_wp2
  refine wp_region_later (by kernel_rfl) (by kernel_rfl) W x.below ?_
  have hq := eq25
  have hs := sameB_self
  repeat (first
    | (go_big_quiet_want; refine quiet_load25 _ rfl _ rfl _ hWg ?_; simp only [Act.put, List.setIfInBounds_toArray, List.set_cons_succ, List.set_cons_zero]; go_big_quiet_on)
    | go_big_quiet_step (first
        | (go_at_call 14; exact Later.call _ (set16_any _ _ _ _ HV.out))
        | (go_at_call 15; exact Later.call _ (refSet16_any _ _ _ _ HV.out))
        | (go_at_call 16; exact Later.call _ (set32_any _ _ _ _ hv))
        | (go_at_call 17; exact Later.call _ (refSet32_any _ _ _ _ hv))
        | (go_at_call 9; exact Later.call _ (block_lies (HL _)))))
  refine wpQuiet_nil ?_
  rintro _ ⟨y, rfl⟩
  go_wp2
  go_ret
  exact ⟨rfl, hWb.trans (y.below.mono hWb.size)⟩
end Go.Proofs.Ytedbgeibhaiheaa
