/- The law FilesNil walked: whatever the call; no other memory turns. -/
import Derived.Test.YtanmfagghhijaaaGreatFl8
namespace Go.Proofs.YtanmfagghhijaaaGreat
open Go.RowKit
set_option maxRecDepth 20000 in
set_option maxHeartbeats 4000000 in
theorem filesNil_walk (k : Int) (s u : ByteArray) (d z f : Int) (b : Value) (w : World) : Calls Tryz.prog 3 #[.agg (caR k s u d z f b)] w fun e W' => e = .returned (.bool true) ∧ Below w.heap.size w W' := by
  have HCI := Hid.mk' (caR_info k s u d z f b)
  have HE : Hid (∀ {W : World} {v : Value}, NoRow W v → Calls Tryz.prog 5 #[v, .agg (caR k s u d z f b)] W fun e W' => e = .returned (.bool true) ∧ Below W.heap.size W W') := fun q => flempty q k s u d z f b
  generalize caR k s u d z f b = X at *
  have HW0 := Hid.mk' (heap_alloc_new w (.cells X 25))
  have HB0 := Hid.mk' (below_new w (.cells X 25))
  have hbv := below_new (w.alloc (.cells X 25)) (.cells #[.pointer none, .pointer none, .pointer none] 32)
  have HN : Hid (∀ W, NoRow W (.pointer none)) := fun W => .inl rfl
  have hv := heap_alloc_new (w.alloc (.cells X 25)) (.cells #[.pointer none, .pointer none, .pointer none] 32)
  rw [World.size_alloc] at hv
  have HV : Hid (NoRow ((w.alloc (.cells X 25)).alloc (.cells #[.pointer none, .pointer none, .pointer none] 32)) (.pointer (some ⟨w.heap.size + 1, 0, none⟩))) := .inr ⟨_, rfl, Joins.cell_of_block hv 0⟩
  have HW1 := Hid.mk' (heap_kept HW0.out hbv)
  have HB1 := Hid.mk' (below_next HB0.out hbv)
  clear hbv hv
  go_enter Tryz.func3, Tryz.ntmps3
  go_wp2_with (first | (go_at_call 4; fail))
  refine (flnew (HN.out _)).mono ?_
  rintro e W ⟨rfl, q⟩
  obtain rfl := q.symm
  clear q
  go_wp2_with (first | (go_at_call 4; fail))
  refine (flnew HV.out).mono ?_
  rintro e W ⟨rfl, q⟩
  obtain rfl := q.symm
  clear q
  go_wp2_with (first | (with_reducible refine isLoadR 25 ?_; refine wpList_ldR 25 Tryz.underlying25 rfl rfl _ rfl w.heap.size rfl X 25 (0, 0) HCI.out HW1.out ?_) | (go_at_call 5; fail))
  refine (HE.out (HN.out _)).mono ?_
  rintro e W2 ⟨rfl, hb⟩
  have hbf := below_new W2 (.cells #[.pointer none, .pointer none, .pointer none] 36)
  have hf := heap_alloc_new W2 (.cells #[.pointer none, .pointer none, .pointer none] 36)
  have HF : Hid (NoRow (W2.alloc (.cells #[.pointer none, .pointer none, .pointer none] 36)) (.pointer (some ⟨W2.heap.size, 0, none⟩))) := .inr ⟨_, rfl, Joins.cell_of_block hf 0⟩
  have HW2 := Hid.mk' (heap_kept HW1.out (below_next hb hbf))
  have HB2 := Hid.mk' (below_next HB1.out (below_next hb hbf))
  clear hb hbf hf
  go_wp2_with (first | (with_reducible refine isLoadR 25 ?_; refine wpList_ldR 25 Tryz.underlying25 rfl rfl _ rfl w.heap.size rfl X 25 (0, 0) HCI.out HW2.out ?_) | (go_at_call 5; fail))
  refine (HE.out HF.out).mono ?_
  rintro e W3 ⟨rfl, hb⟩
  have HB3 := Hid.mk' (below_next HB2.out hb)
  clear hb
  go_wp2
  go_ret
  exact ⟨rfl, HB3.out⟩
end Go.Proofs.YtanmfagghhijaaaGreat
