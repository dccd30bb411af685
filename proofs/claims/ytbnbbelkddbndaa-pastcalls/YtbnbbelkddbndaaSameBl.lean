/- Lists of blocks held against each other: of two that are one list SameBlocks says yes. -/
import Derived.Test.YtbnbbelkddbndaaRChg
namespace Go.Proofs.Ytbnbbelkddbndaa
open Go.RowKit Go.Maps
/-- Blocks lie one behind the other. -/
def BlksAt (w : World) (p : Option Addr) (l : List (Nat → Int)) : Prop := 0 < l.length → ∃ b off, p = some ⟨b, off, none⟩ ∧ b < w.heap.size ∧ ∀ k f, l[k]? = some f → BlkAt w b (off + k * 1024) f
theorem BlksAt.later {w W : World} {p : Option Addr} {l : List (Nat → Int)} (h : BlksAt w p l) (hb : Below w.heap.size w W) : BlksAt W p l := fun h0 => by
  obtain ⟨b, off, h1, h2, h3⟩ := h h0
  exact ⟨b, off, h1, Nat.lt_of_lt_of_le h2 hb.size, fun k r hr => (h3 k r hr).kept (hb.block b h2)⟩
set_option maxRecDepth 20000 in
set_option maxHeartbeats 1000000 in
theorem sameBlocks_one (s : List (Nat → Int)) (p q : Option Addr) (cp cq : Nat) (w : World) (hls : s.length < 9223372036854775807) (hs : BlksAt w p s) (ht : BlksAt w q s) :
    Calls Try.prog 44 #[.slice p s.length cp, .slice q s.length cq] w fun e w' => e = .returned (.bool true) ∧ Below w.heap.size w w' := by
  have HS : Hid (BlksAt w p s) := hs
  have HT : Hid (BlksAt w q s) := ht
  obtain ⟨n, hn⟩ : ∃ n, s.length = n := ⟨_, rfl⟩
  rw [hn]
  rw [hn] at hls
  have HL : Hid (s.length = n) := hn
  clear hs ht hn
  go_enter Try.func44, Try.ntmps44
  go_wp2
  go_loopw [5] (fun s5 wx => ∃ k : Nat, k ≤ n ∧ s5 = .int .i64 k ∧ Hid (Below w.heap.size w wx)) (fun s5 _ => n - (intOf s5).toNat)
  case atStart => exact ⟨0, by omega, rfl, Below.refl _ _⟩
  case round =>
    obtain ⟨k, hk, rfl, HB⟩ := hrel
    by_cases hk2 : (k : Int) < n
    · have hsk : k < s.length := by have := HL.out; omega
      have hc : s[k]? = some (s[k]'hsk) := List.getElem?_eq_getElem hsk
      obtain ⟨b1, o1, rfl, l1, C1⟩ := (HS.out.later HB.out) (by omega)
      obtain ⟨b2, o2, rfl, l2, C2⟩ := (HT.out.later HB.out) (by omega)
      generalize s[k]'hsk = c at hc
      have q1 := C1 k c hc
      have q2 := C2 k c hc
      clear C1 C2 hc hsk
      go_wp2
      refine wp_region_still_lit (by kernel_rfl) (by kernel_rfl) ?_
      repeat still_step
      refine wpStill_loadM rfl (.tmp 19) rfl b1 (o1 + k * 1024) rfl c q1 ?_
      repeat still_step
      refine wpStill_loadM rfl (.tmp 23) rfl b2 (o2 + k * 1024) rfl c q2 ?_
      repeat still_step
      refine wpStill_neqB rfl (.tmp 20) (.tmp 24) rfl c c true rfl rfl (sameB_self c) ?_
      simp only [Act.put, List.setIfInBounds_toArray, List.set_cons_succ, List.set_cons_zero, Bool.not_true]
      refine wpStill_nil ?_
      go_wp2
      exact ⟨⟨k + 1, by omega, by go_num, HB.out.drew⟩, by simp [intOf]; omega⟩
    · obtain rfl : k = n := by omega
      go_wp2
      go_ret
      exact ⟨rfl, HB.out⟩
end Go.Proofs.Ytbnbbelkddbndaa
