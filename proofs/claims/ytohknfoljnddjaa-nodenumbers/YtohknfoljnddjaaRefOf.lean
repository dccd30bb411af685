/- The document's Of: the layout of a geometry, or none; for every geometry. -/
import Derived.Test.YtohknfoljnddjaaOf
namespace Go.Proofs.Ytohknfoljnddjaa
open Go.RowKit

/-- The number in a cell. -/
def cellN (w : World) (g off : Nat) : Nat := (intOf ((w.cell? ⟨g, off, none⟩).getD undef)).toNat
theorem cellN_of {w : World} {g off : Nat} {t : TypeId} {cs : Array Value} {x : Int} (h : w.heap[g]? = some (.cells cs t)) (hx : cs[off]? = some (.int .i64 x)) : cellN w g off = x.toNat := by
  unfold cellN
  rw [cell_of_row w g off _ t _ h, hx]
  rfl
theorem heap3n (w : World) (A B C : Obj) : (((w.alloc A).alloc B).alloc C).heap[w.heap.size + 2]? = some C := by
  have h := heap_alloc_new ((w.alloc A).alloc B) C
  have e : ((w.alloc A).alloc B).heap.size = w.heap.size + 2 := by simp
  rwa [e] at h
set_option maxRecDepth 20000 in
set_option maxHeartbeats 400000 in
theorem refOf_out (b l i : Int) (w : World) (h : ¬ (32 ≤ l ∧ l ≤ 256 ∧ 1 ≤ i ∧ i ≤ 65535 ∧ b ≤ 1048576 ∧ 1 ≤ b)) :
    Calls Try.prog 34 #[geoV b l i] w fun e w' => e = .returned (.tuple #[layZ, .int .i64 2]) ∧ Below w.heap.size w w' := by
  unfold geoV at *
  have fin : Below w.heap.size w ((w.alloc (.cells #[.int .i64 b, .int .i64 l, .int .i64 i] 41)).alloc (.cells (lay9 0 0 0 0 0 0 0 0 0) 43)) := bel_al (bel_al (Below.refl _ _) _) _
  have HF : Hid _ := fin
  clear fin
  by_cases h0 : l < 32
  · clear h
    go_enter Try.func34, Try.ntmps34
    go_wp2
    exact retCT rfl (w.heap.size + 1) _ rfl (load25L _ _ _ (heap_alloc2_new _ _ _) rfl) rfl ⟨rfl, HF.out⟩
  · by_cases h1 : 256 < l
    · clear h
      go_enter Try.func34, Try.ntmps34
      go_wp2
      exact retCT rfl (w.heap.size + 1) _ rfl (load25L _ _ _ (heap_alloc2_new _ _ _) rfl) rfl ⟨rfl, HF.out⟩
    · by_cases h2 : i < 1
      · clear h
        go_enter Try.func34, Try.ntmps34
        go_wp2
        exact retCT rfl (w.heap.size + 1) _ rfl (load25L _ _ _ (heap_alloc2_new _ _ _) rfl) rfl ⟨rfl, HF.out⟩
      · by_cases h3 : 65535 < i
        · clear h
          go_enter Try.func34, Try.ntmps34
          go_wp2
          exact retCT rfl (w.heap.size + 1) _ rfl (load25L _ _ _ (heap_alloc2_new _ _ _) rfl) rfl ⟨rfl, HF.out⟩
        · by_cases h4 : 1048576 < b
          · clear h
            go_enter Try.func34, Try.ntmps34
            go_wp2
            exact retCT rfl (w.heap.size + 1) _ rfl (load25L _ _ _ (heap_alloc2_new _ _ _) rfl) rfl ⟨rfl, HF.out⟩
          · have h5 : b < 1 := by omega
            clear h
            go_enter Try.func34, Try.ntmps34
            go_wp2
            exact retCT rfl (w.heap.size + 1) _ rfl (load25L _ _ _ (heap_alloc2_new _ _ _) rfl) rfl ⟨rfl, HF.out⟩

set_option maxRecDepth 20000 in
set_option maxHeartbeats 400000 in
theorem refOf_in (b l i : Int) (w : World) (h : 32 ≤ l ∧ l ≤ 256 ∧ 1 ≤ i ∧ i ≤ 65535 ∧ b ≤ 1048576 ∧ 1 ≤ b) :
    Calls Try.prog 34 #[geoV b l i] w fun e w' => e = .returned (.tuple #[ofV b l i, .int .i64 (ofE b l i)]) ∧ Below w.heap.size w w' := by
  obtain ⟨h1, h2, h3, h4, h5, h6⟩ := h
  unfold geoV at *
  go_enter Try.func34, Try.ntmps34
  go_wp2
  go_loopw [] (fun wx => ∃ k : Nat, k ≤ 5000 ∧ 16 * ((k : Int) - 1) < i + 1 ∧ wx = ((w.alloc (.cells #[.int .i64 b, .int .i64 l, .int .i64 i] 41)).alloc (.cells (lay9 0 0 0 0 0 0 0 0 0) 43)).alloc (.cells (lay9 b l i 1 (1 + l) k 0 0 0) 43)) (fun wx => 5000 - cellN wx (w.heap.size + 2) 5)
  case atStart => exact ⟨0, by omega, by omega, rfl⟩
  case round =>
    obtain ⟨k, hk1, hk2, rfl⟩ := hrel
    unfold lay9 at *
    by_cases hk : 16 * (k : Int) < i + 1
    · go_wp2
      refine ⟨⟨k + 1, by omega, by omega, ?_⟩, ?_⟩
      · simp
      · rw [cellN_of (heap3n _ _ _ _) rfl, cellN_of (heap3n _ _ _ _) rfl]; omega
    · have hkn : (k : Int) = nodeB i := by unfold nodeB; omega
      have HK : Hid ((k : Int) = nodeB i) := hkn
      clear hkn
      have hkb : (k : Int) ≤ 5000 := by omega
      go_wp2
      go_loopw [] (fun wx => ∃ m : Nat, m ≤ 200 ∧ 8192 * ((m : Int) - 1) < b ∧ wx = ((w.alloc (.cells #[.int .i64 b, .int .i64 l, .int .i64 i] 41)).alloc (.cells (lay9 0 0 0 0 0 0 0 0 0) 43)).alloc (.cells (lay9 b l i 1 (1 + l) k (1 + l + k) m 0) 43)) (fun wx => 200 - cellN wx (w.heap.size + 2) 7)
      case atStart => exact ⟨0, by omega, by omega, rfl⟩
      case round =>
        obtain ⟨m, hm1, hm2, rfl⟩ := hrel
        unfold lay9 at *
        by_cases hm : 8192 * (m : Int) < b
        · go_wp2
          refine ⟨⟨m + 1, by omega, by omega, ?_⟩, ?_⟩
          · simp
          · rw [cellN_of (heap3n _ _ _ _) rfl, cellN_of (heap3n _ _ _ _) rfl]; omega
        · have HM : Hid ((m : Int) = bitsB b) := by show _ = _; unfold bitsB; omega
          have hmb : (m : Int) ≤ 200 := by omega
          by_cases hd : b ≤ 1 + l + k + m
          · have hf : ¬ Fine b l i := fun q => by
              have q1 := q.2.2.2.2.2
              have q2 := HK.out
              have q3 := HM.out
              unfold dataAt bitsAt at q1
              omega
            have HE : Hid (Ending.returned (.tuple #[layZ, .int .i64 2]) = .returned (.tuple #[ofV b l i, .int .i64 (ofE b l i)])) := by
              show _ = _
              rw [show ofV b l i = layZ from if_neg hf, show ofE b l i = 2 from if_neg hf]
            clear hf
            go_wp2
            refine retCT rfl (w.heap.size + 1) _ rfl (load25L _ _ _ (heap3 _ _ _ _) rfl) rfl ⟨HE.out, ?_⟩
            repeat refine bel_al ?_ _
            exact Below.refl _ _
          · have hf : Fine b l i := ⟨h1, h2, h3, h4, h5, by
              have q2 := HK.out
              have q3 := HM.out
              unfold dataAt bitsAt
              omega⟩
            have HE : Hid (Ending.returned (.tuple #[layV b l i, .int .i64 0]) = .returned (.tuple #[ofV b l i, .int .i64 (ofE b l i)])) := by
              show _ = _
              rw [show ofV b l i = layV b l i from if_pos hf, show ofE b l i = 0 from if_pos hf]
            have HL : Hid (lay9 b l i 1 (1 + l) k (1 + l + k) m (1 + l + k + m) = lay9 b l i 1 (1 + l) (nodeB i) (bitsAt l i) (bitsB b) (dataAt b l i)) := by
              show _ = _
              unfold dataAt bitsAt
              rw [HK.out, HM.out]
            clear hf
            go_wp2
            refine retCT rfl (w.heap.size + 1) _ rfl (load25L _ _ _ (heap3 _ _ _ _) rfl) rfl ⟨?_, ?_⟩
            · exact (congrArg (fun x => Ending.returned (.tuple #[.agg x, .int .i64 0])) HL.out).trans HE.out
            repeat refine bel_al ?_ _
            exact Below.refl _ _

theorem refOf_any (b l i : Int) (w : World) :
    Calls Try.prog 34 #[geoV b l i] w fun e w' => e = .returned (.tuple #[ofV b l i, .int .i64 (ofE b l i)]) ∧ Below w.heap.size w w' := by
  by_cases h : 32 ≤ l ∧ l ≤ 256 ∧ 1 ≤ i ∧ i ≤ 65535 ∧ b ≤ 1048576 ∧ 1 ≤ b
  · exact refOf_in b l i w h
  · have hf : ¬ Fine b l i := fun q => h ⟨q.1, q.2.1, q.2.2.1, q.2.2.2.1, q.2.2.2.2.1, by have := q.pos; omega⟩
    rw [show ofV b l i = layZ from if_neg hf, show ofE b l i = 2 from if_neg hf]
    exact refOf_out b l i w h
end Go.Proofs.Ytohknfoljnddjaa
