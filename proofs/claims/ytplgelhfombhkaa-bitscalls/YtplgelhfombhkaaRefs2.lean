/- The document's own First and All: for every block of bytes and every span. -/
import Derived.Test.YtplgelhfombhkaaRefs
import Derived.Test.YtplgelhfombhkaaAgain
namespace Go.Proofs.Ytplgelhfombhkaa
open Go.RowKit

set_option maxRecDepth 20000 in
set_option maxHeartbeats 4000000 in
theorem refFirst_any (f : Nat → Int) (hf : Byte f) (a b : Int) (w : World) :
    Calls Try.prog 15 #[.agg (blk f), .int .i64 a, .int .i64 b] w fun e w' => e = .returned (.int .i64 (firstZ f a b)) ∧ Below w.heap.size w w' := by
  have HF : Hid (Byte f) := hf
  clear hf
  have h1 := heap_alloc_new w (.cells (blk f) 23)
  have H2 : Hid (Below w.heap.size w (w.alloc (.cells (blk f) 23))) := below_new _ _
  go_enter Try.func15, Try.ntmps15
  go_wp2
  go_loopw [7] (fun s7 wx => ∃ i : Nat, i ≤ 8192 ∧ s7 = .int .i64 i ∧ (∀ j, j < i → hole f a b j = false) ∧ wx.heap[w.heap.size]? = some (.cells (blk f) 23) ∧ Below w.heap.size w wx) (fun s7 _ => 8192 - (RowKit.intOf s7).toNat)
  case atStart => exact ⟨0, by omega, rfl, fun j hj => absurd hj (by omega), h1, H2.out⟩
  case round =>
    obtain ⟨i, hi, rfl, hno, hg, hbel⟩ := hrel
    have HNo : Hid (∀ j, j < i → hole f a b j = false) := hno
    clear hno h1 H2
    by_cases hi2 : (i : Int) < 8192
    · have hh := fun w => refHas_any f HF.out (i : Int) w
      rw [has_in f i (by omega)] at hh
      have HNext : Hid (hole f a b i = false → ∀ j, j < i + 1 → hole f a b j = false) := fun h j hj => if e : j = i then e ▸ h else HNo.out j (by omega)
      have HFound : Hid (hole f a b i = true → firstZ f a b = i) := fun h => firstZ_some f a b i (by omega) h HNo.out
      have HHole : Hid (hole f a b i = (decide (a ≤ (i : Int) ∧ (i : Int) < b) && !bit f i)) := (rfl : hole f a b i = _)
      generalize bit f i = v at hh HHole
      generalize hole f a b i = u at HNext HFound HHole
      clear HNo
      go_wp2_with (first | refine wpList_load25 rfl _ rfl _ rfl _ hg ?_ | (go_at_call 11; fail))
      refine (hh _).mono ?_
      rintro e X ⟨rfl, hx⟩
      have hgX := heap_kept hg hx
      have HBX : Hid (Below w.heap.size w X) := below_next hbel hx
      clear hx hg hbel hh
      cases v with
      | true =>
        have hu := HHole.out
        rw [Bool.not_true, Bool.and_false] at hu
        have HU := (show Hid _ from hu)
        clear hu HHole
        go_wp2
        exact ⟨⟨i + 1, by omega, by go_num, HNext.out HU.out, hgX, HBX.out⟩, by simp [RowKit.intOf]; omega⟩
      | false =>
        by_cases g1 : a ≤ (i : Int)
        · by_cases g2 : (i : Int) < b
          · have hu := HHole.out
            rw [decide_eq_true (show a ≤ (i : Int) ∧ (i : Int) < b from ⟨g1, g2⟩)] at hu
            have HU : Hid (u = true) := hu.trans rfl
            clear hu HHole
            go_wp2
            go_ret
            exact ⟨ret_int (HFound.out HU.out).symm, HBX.out⟩
          · have hu := HHole.out
            rw [decide_eq_false (show ¬ (a ≤ (i : Int) ∧ (i : Int) < b) from fun h => g2 h.2)] at hu
            have HU : Hid (u = false) := hu.trans rfl
            have d2 : decide ((i : Int) < b) = false := decide_eq_false g2
            clear hu HHole g2
            go_wp2
            exact ⟨⟨i + 1, by omega, by go_num, HNext.out HU.out, hgX, HBX.out⟩, by simp [RowKit.intOf]; omega⟩
        · have hu := HHole.out
          rw [decide_eq_false (show ¬ (a ≤ (i : Int) ∧ (i : Int) < b) from fun h => g1 h.1)] at hu
          have HU : Hid (u = false) := hu.trans rfl
          have d1 : decide (a ≤ (i : Int)) = false := decide_eq_false g1
          clear hu HHole g1
          go_wp2
          exact ⟨⟨i + 1, by omega, by go_num, HNext.out HU.out, hgX, HBX.out⟩, by simp [RowKit.intOf]; omega⟩
    · have HE : Hid (firstZ f a b = -1) := firstZ_none f a b fun j hj => HNo.out j (by omega)
      go_wp2
      go_ret
      exact ⟨by rw [HE.out]; rfl, hbel⟩

set_option maxRecDepth 20000 in
set_option maxHeartbeats 4000000 in
theorem refAll_any (f : Nat → Int) (hf : Byte f) (a b : Int) (w : World) :
    Calls Try.prog 9 #[.agg (blk f), .int .i64 a, .int .i64 b] w fun e w' => ∃ v, e = .returned v ∧ LiesI w' v (ones f a b 8192) ∧ Below w.heap.size w w' := by
  have HF : Hid (Byte f) := hf
  clear hf
  have h1 := heap_alloc_new w (.cells (blk f) 23)
  have H2 : Hid (Below w.heap.size w (w.alloc (.cells (blk f) 23))) := below_new _ _
  obtain ⟨B, hB⟩ : ∃ B, w.heap.size + 1 = B := ⟨_, rfl⟩
  have hs0 : B ≤ (w.alloc (.cells (blk f) 23)).heap.size := by rw [World.size_alloc]; omega
  go_enter Try.func9, Try.ntmps9
  go_wp2
  go_loopw [7, 8] (fun s7 s8 wx => ∃ i : Nat, i ≤ 8192 ∧ s8 = .int .i64 i ∧ OwnI wx B s7 (ones f a b i) ∧ wx.heap[w.heap.size]? = some (.cells (blk f) 23) ∧ B ≤ wx.heap.size ∧ Below w.heap.size w wx) (fun _ s8 _ => 8192 - (RowKit.intOf s8).toNat)
  case atStart => exact ⟨0, by omega, rfl, OwnI.nil _ _, h1, hs0, H2.out⟩
  case round =>
    obtain ⟨i, hi, rfl, hown, hg, hsz, hbel⟩ := hrel
    clear h1 H2 hs0
    by_cases hi2 : (i : Int) < 8192
    · have hh := fun w => refHas_any f HF.out (i : Int) w
      rw [has_in f i (by omega)] at hh
      have HS : Hid (ones f a b (i + 1) = ones f a b i ++ if ind f a b i then [i] else []) := ones_succ f a b i
      have HI : Hid (ind f a b i = (decide (a ≤ (i : Int) ∧ (i : Int) < b) && bit f i)) := (rfl : ind f a b i = _)
      have hl := ones_len f a b i
      generalize bit f i = v at hh HI
      generalize ind f a b i = u at HS HI
      generalize ones f a b i = T at hown HS hl
      go_wp2_with (first | refine wpList_load25 rfl _ rfl _ rfl _ hg ?_ | (go_at_call 11; fail))
      refine (hh _).mono ?_
      rintro e X ⟨rfl, hx⟩
      have hgX := heap_kept hg hx
      have HBX : Hid (Below w.heap.size w X) := below_next hbel hx
      have HO : Hid (OwnI X B u7 T) := hown.later hx
      have hszX : B ≤ X.heap.size := Nat.le_trans hsz hx.size
      clear hx hg hbel hh hown hsz
      cases v with
      | false =>
        have hu := HI.out
        rw [Bool.and_false] at hu
        have HU : Hid (ones f a b (i + 1) = T) := show ones f a b (i + 1) = T by
          have := HS.out
          rw [hu] at this
          simpa using this
        clear hu HI HS
        go_wp2
        exact ⟨⟨i + 1, by omega, by go_num, by rw [HU.out]; exact HO.out, hgX, hszX, HBX.out⟩, by simp [RowKit.intOf]; omega⟩
      | true =>
        by_cases hin : a ≤ (i : Int) ∧ (i : Int) < b
        · have hu := HI.out
          rw [decide_eq_true hin] at hu
          have HU : Hid (ones f a b (i + 1) = T ++ [i]) := show ones f a b (i + 1) = T ++ [i] by
            have := HS.out
            rw [hu] at this
            simpa using this
          obtain ⟨g1, g2⟩ := hin
          clear hu HI HS
          go_wp2_with (first | (at_builtin; refine wpList_pushI rfl (.tmp 28) (.tmp 30) rfl B _ T i rfl rfl HO.out (by omega) hszX ?_; intro v' w2 hown' _ hb2))
          exact ⟨⟨i + 1, by omega, by go_num, by rw [HU.out]; exact hown', (hb2.block _ (by omega)).trans hgX, Nat.le_trans hszX hb2.size, HBX.out.trans (hb2.mono (by omega))⟩, by simp [RowKit.intOf]; omega⟩
        · have hu := HI.out
          rw [decide_eq_false hin] at hu
          have HU : Hid (ones f a b (i + 1) = T) := show ones f a b (i + 1) = T by
            have := HS.out
            rw [hu] at this
            simpa using this
          clear hu HI HS
          by_cases g1 : a ≤ (i : Int)
          · have g2 : ¬ (i : Int) < b := fun h => hin ⟨g1, h⟩
            have d2 : decide ((i : Int) < b) = false := decide_eq_false g2
            clear hin g2
            go_wp2
            exact ⟨⟨i + 1, by omega, by go_num, by rw [HU.out]; exact HO.out, hgX, hszX, HBX.out⟩, by simp [RowKit.intOf]; omega⟩
          · have d1 : decide (a ≤ (i : Int)) = false := decide_eq_false g1
            clear hin g1
            go_wp2
            exact ⟨⟨i + 1, by omega, by go_num, by rw [HU.out]; exact HO.out, hgX, hszX, HBX.out⟩, by simp [RowKit.intOf]; omega⟩
    · have e : i = 8192 := by omega
      rw [e] at hown
      have HO : Hid (LiesI wr u7 (ones f a b 8192)) := hown.lies
      clear hown e
      go_wp2
      go_ret
      exact ⟨_, rfl, HO.out, hbel⟩
end Go.Proofs.Ytplgelhfombhkaa
