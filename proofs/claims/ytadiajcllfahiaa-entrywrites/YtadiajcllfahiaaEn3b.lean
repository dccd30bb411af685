/- An entry that may be is written, by the program. -/
import Derived.Test.YtadiajcllfahiaaEn3
namespace Go.Proofs.Ytadiajcllfahiaa
open Go.RowKit Go.Maps
theorem below_bytes (w : World) (e : TypeId) (s : ByteArray) : Below w.heap.size w (Lib.bytesWorld w e s) :=
  ⟨rfl, rfl, rfl, by rw [Lib.bytesWorld_size]; omega, fun k hk => Lib.bytesWorld_at_old w e s k hk⟩
theorem byt_data (s : ByteArray) (j : Nat) (h : j < s.size) : (((s.data.toList.getD j 0).toNat : Nat) : Int) = byt s j := by
  have h2 : j < s.data.toList.length := by cases s; exact h
  unfold byt
  rw [dif_pos h, List.getD_eq_getElem?_getD, List.getElem?_eq_getElem h2]
  rfl
theorem lies_bytes (w : World) (s : ByteArray) (h : s.size ≤ 14) : YtadiajcllfahiaaN.Lies (Lib.bytesWorld w 5 s) (.slice (some ⟨w.heap.size, 0, none⟩) s.size (grownCap w s.size 0 5)) s.size (byt s) := by
  refine .inr ⟨w.heap.size, 0, _, rfl, by unfold maxLen; omega, grownCap_ge _ _ _ _, by rw [Lib.bytesWorld_size]; omega, fun i hi => ?_⟩
  rw [Nat.zero_add, Lib.bytesWorld_cell w 5 s i hi, ← byt_data s i hi]
set_option maxRecDepth 20000 in
set_option maxHeartbeats 2000000 in
theorem enc_ok (w : World) (i : Int) (hi : 0 ≤ i ∧ i < 65536) (s : ByteArray) (hz : s.size ≤ 14) (hc : chV i s = 0) :
    Calls Try.prog 8 #[.agg #[.int .u16 i, .string s]] w fun e w' => e = .returned (.tuple #[.agg (rowN .u8 (encP i s) 16), .int .i64 0]) ∧ Below w.heap.size w w' := by
  have z := zeroBy
  have zb := zero77
  have HE := Ec.start w i s
  have c0 := Joins.cell_of_block HE.ent 0
  have c1 := Joins.cell_of_block HE.ent 1
  have HE' : Hid _ := HE
  clear HE
  have hck := check_any ((w.alloc (.cells #[.int .u16 i, .string s] 24)).alloc (.cells (rowN .u8 nought 16) 26)) i hi s (by omega)
  rw [hc] at hck
  clear hc
  have HS : Hid _ := fun W => set_e W i hi
  have HL : Hid _ := fun W p hp => lay_e W i s p hp
  have HP : Hid _ := fun W => piece_e W (encP i s)
  go_enter Try.func8, Try.ntmps8
  go_wp2_with (first | (go_at_call 15; fail))
  refine hck.mono ?_
  rintro e W ⟨rfl, hb⟩
  have hT := HE'.out.call hb
  clear HE' hck c0 c1 hb
  have c0 := Joins.cell_of_block hT.ent 0
  have HT : Hid _ := hT
  clear hT
  go_wp2_with (first | (go_at_call 16; fail))
  refine (HS.out _).mono ?_
  rintro e W1 ⟨rfl, hb⟩
  have HT1 : Hid (Ec w (W1.alloc (.cells (blk (encP i ⟨#[]⟩)) 43)) i s) := (HT.out.call hb).call (below_new _ _)
  have hbk : (W1.alloc (.cells (blk (encP i ⟨#[]⟩)) 43)).heap[W1.heap.size]? = some (.cells (blk (encP i ⟨#[]⟩)) 43) := heap_alloc_new _ _
  have hW1 : w.heap.size ≤ W1.heap.size ∧ w.heap.size + 1 < W1.heap.size := by
    have h1 := (HT.out.call hb).res
    have := (Array.getElem?_eq_some_iff.1 h1).1
    omega
  clear HT HS c0 hb
  have c1 := Joins.cell_of_block HT1.out.ent 1
  have hcv := fun u : World => Lib.run_convert_string_bytes (P := Try.prog) u 9 46 5 s Try.underlying9 Try.underlying46 Try.underlying5
  go_wp2_with (first | (with_reducible refine isStoreR 43 ?_; refine wpList_stBn rfl _ _ rfl W1.heap.size (encP i ⟨#[]⟩) nought 43 rfl rfl rfl ?_) | (with_reducible refine isLoadR 43 ?_; refine wpList_ldB rfl _ rfl W1.heap.size 0 (encP i ⟨#[]⟩) rfl (blk_at hbk) ?_) | (go_at_call 17; fail))
  have hls : YtadiajcllfahiaaN.Lies (Lib.bytesWorld (W1.alloc (.cells (blk (encP i ⟨#[]⟩)) 43)) 5 s) (.slice (some ⟨W1.heap.size + 1, 0, none⟩) s.size (grownCap (W1.alloc (.cells (blk (encP i ⟨#[]⟩)) 43)) s.size 0 5)) s.size (byt s) := by
    have := lies_bytes (W1.alloc (.cells (blk (encP i ⟨#[]⟩)) 43)) s hz
    rwa [show (W1.alloc (.cells (blk (encP i ⟨#[]⟩)) 43)).heap.size = W1.heap.size + 1 by simp] at this
  refine (HL.out _ _ hls).mono ?_
  rintro e W2 ⟨rfl, hb⟩
  have hT2 := (HT1.out.call (below_bytes _ 5 s)).call hb
  have hbk2 := heap_kept (heap_kept hbk (below_bytes _ 5 s)) hb
  clear hls hbk HT1 HL hcv c1 hb
  generalize hF : encP i s = F at *
  have HF : Hid _ := hF
  clear hF
  have hbk3 := setRow_heap W2 W1.heap.size _ (blk F) 43 (0, 0) hbk2
  have HT3 : Hid (Ec w (W2.setRow W1.heap.size (blk F)) i s) := ⟨(setRow_other _ _ _ _ (by omega)).trans hT2.ent, (setRow_other _ _ _ _ (by omega)).trans hT2.res, below_setRow hT2.bel (by omega) _⟩
  clear hT2
  go_wp2_with (first | (with_reducible refine isStoreR 43 ?_; refine wpList_stB rfl _ _ rfl W1.heap.size F (encP i ⟨#[]⟩) 43 rfl rfl hbk2 ?_) | (with_reducible refine isLoadR 43 ?_; refine wpList_ldB rfl _ rfl W1.heap.size 0 F rfl (blk_at hbk3) ?_) | (go_at_call 18; fail))
  refine (HP.out _).mono ?_
  rintro e X ⟨rfl, hX, hb⟩
  have hT4 := HT3.out.call hb
  have hr := hT4.res
  have HB : Hid _ := hT4.bel
  clear HT3 hbk2 hbk3 HP hT4 hb
  have ha := fun u => run_arrayAt (P := Try.prog) u 26 _ 16 (some ⟨(W2.setRow W1.heap.size (blk F)).heap.size + 1, 0, none⟩) 16 16 Try.underlying26 (by omega)
  generalize (W2.setRow W1.heap.size (blk F)).heap.size + 1 = g at *
  go_wp2_with (first | (with_reducible refine isLoadR 26 ?_; refine wpList_ldR 26 Try.underlying26 rfl rfl _ rfl g rfl (rowN .u8 F 16) 5 (0, 0) (by rw [rowN_size]; exact sizeBy) hX ?_) | (with_reducible refine isStoreR 26 ?_; refine wpList_stR 26 rfl _ _ rfl (w.heap.size + 1) (rowN .u8 F 16) (rowN .u8 nought 16) 26 (by rw [rowN_size]; exact sizeBy) (by rw [rowN_size, rowN_size]) (rowN_one _ _ _) rfl rfl hr ?_))
  exact retCT Try.underlying26 rfl rfl (w.heap.size + 1) (rowN .u8 F 16) 26 (by rw [rowN_size]; exact sizeBy) rfl (setRow_heap _ _ _ _ _ _ hr) rfl ⟨by rw [HF.out]; rfl, below_setRow HB.out (by omega) _⟩
/-- Encode, whatever the entry. -/
theorem enc_any (w : World) (i : Int) (hi : 0 ≤ i ∧ i < 65536) (s : ByteArray) (hz : s.size ≤ 9223372036854775807) :
    Calls Try.prog 8 #[.agg #[.int .u16 i, .string s]] w fun e w' => e = .returned (.tuple #[.agg (rowN .u8 (encF i s) 16), .int .i64 (chV i s)]) ∧ Below w.heap.size w w' := by
  by_cases hc : chV i s = 0
  · rw [encF_ok hc, hc]
    refine enc_ok w i hi s ?_ hc
    rcases chV_ok hc with ⟨_, rfl⟩ | ⟨_, h⟩
    · exact Nat.zero_le _
    · exact (nmV_size h).2.1
  · rw [encF_bad hc]
    exact enc_bad w i hi s hz hc
end Go.Proofs.Ytadiajcllfahiaa
