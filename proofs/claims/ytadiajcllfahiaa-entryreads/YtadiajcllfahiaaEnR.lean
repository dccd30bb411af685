/- EntryReads: of every sixteen bytes the entry, or the error. -/
import Derived.Test.YtadiajcllfahiaaEn8
namespace Go.Proofs.Ytadiajcllfahiaa
open Go.RowKit Go.Maps
theorem decR_is (f : Nat → Int) : ∃ i s, decR f = enR i s := by
  unfold decR
  split
  · exact ⟨_, _, rfl⟩
  · exact ⟨_, _, rfl⟩
set_option maxRecDepth 20000 in
set_option maxHeartbeats 2000000 in
theorem reads_walk (w : World) (f : Nat → Int) (hf : Byt16 f) : Calls Try.prog 4 #[.agg (rowN .u8 f 16)] w fun e w' => e = .returned (.bool true) ∧ Below w.heap.size w w' := by
  have hd : Hid _ := fun W => dec_any W f hf
  have hr : Hid _ := fun W => refDec_any W f hf
  have ha : Hid _ := fun W => awake_any W
  obtain ⟨i, s, hR⟩ := decR_is f
  rw [hR] at hd hr
  clear hR hf
  generalize decE f = q at *
  have hS := sameE_self i s
  have z := zeroEn
  have hrow : (w.alloc (.cells (rowN .u8 f 16) 25)).heap[w.heap.size]? = some (.cells (rowN .u8 f 16) 25) := heap_alloc_new _ _
  go_enter Try.func4, Try.ntmps4
  go_wp2_with (first | (with_reducible refine isLoadR 25 ?_; refine wpList_ldR 25 Try.underlying25 rfl rfl _ rfl w.heap.size rfl (rowN .u8 f 16) 25 (0, 0) (by rw [rowN_size]; exact size204) hrow ?_) | (go_at_call 13; fail))
  refine (hd.out _).mono ?_
  rintro e W1 ⟨rfl, hb⟩
  have hrow1 := heap_kept (heap_kept hrow hb) (below_new W1 (.cells (enR i s) 24))
  have hx1 : (W1.alloc (.cells (enR i s) 24)).heap[W1.heap.size]? = some (.cells (enR i s) 24) := heap_alloc_new _ _
  have HB1 : Hid (Below w.heap.size w (W1.alloc (.cells (enR i s) 24))) := bel_al (below_next (below_new _ _) hb) _
  clear hb hrow hd
  go_wp2_with (first | (with_reducible refine isStoreR 24 ?_; refine wpList_stNew 24 rfl _ _ rfl W1.heap.size (enR i s) #[.int .u16 0, .string ⟨#[]⟩] 24 (enR_info _ _) (enR_two _ _) (enR_one _ _) rfl rfl rfl ?_) | (with_reducible refine isLoadR 25 ?_; refine wpList_ldR 25 Try.underlying25 rfl rfl _ rfl w.heap.size rfl (rowN .u8 f 16) 25 (0, 0) (by rw [rowN_size]; exact size204) hrow1 ?_) | (go_at_call 14; fail))
  refine (hr.out _).mono ?_
  rintro e W2 ⟨rfl, hb⟩
  have hx2 := heap_kept (heap_kept hx1 hb) (below_new W2 (.cells (enR i s) 24))
  have hy2 : (W2.alloc (.cells (enR i s) 24)).heap[W2.heap.size]? = some (.cells (enR i s) 24) := heap_alloc_new _ _
  have HB2 : Hid (Below w.heap.size w (W2.alloc (.cells (enR i s) 24))) := bel_al (below_next HB1.out hb) _
  clear hb hrow1 hx1 HB1 hr
  go_wp2_with (first | (with_reducible refine isStoreR 24 ?_; refine wpList_stNew 24 rfl _ _ rfl W2.heap.size (enR i s) #[.int .u16 0, .string ⟨#[]⟩] 24 (enR_info _ _) (enR_two _ _) (enR_one _ _) rfl rfl rfl ?_) | (with_reducible refine isLoadR 24 ?_; refine wpList_ldR 24 Try.underlying24 rfl rfl _ rfl W1.heap.size rfl (enR i s) 24 (0, 0) (enR_info _ _) hx2 ?_) | (with_reducible refine isLoadR 24 ?_; refine wpList_ldR 24 Try.underlying24 rfl rfl _ rfl W2.heap.size rfl (enR i s) 24 (0, 0) (enR_info _ _) hy2 ?_) | (with_reducible refine isEqR 24 24 ?_; refine wpList_exec rfl (exec_eqE rfl rfl rfl hS) ?_) | (go_at_call 12; fail))
  refine (ha.out _).mono ?_
  rintro e W3 ⟨rfl, hb⟩
  have HB3 : Hid _ := below_next HB2.out hb
  clear hb HB2 ha hx2 hy2
  go_wp2
  go_ret
  exact ⟨rfl, HB3.out⟩
end Go.Proofs.Ytadiajcllfahiaa
