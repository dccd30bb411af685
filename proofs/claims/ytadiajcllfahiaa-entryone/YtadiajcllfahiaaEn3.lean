/- An entry's sixteen bytes, by the program; whatever the entry. -/
import Derived.Test.YtadiajcllfahiaaEn2
import Derived.Test.YtadiajcllfahiaaNLay
import Derived.Test.YtadiajcllfahiaaNSets
import Derived.Lib.ConvBytes
namespace Go.Proofs.Ytadiajcllfahiaa
open Go.RowKit Go.Maps
theorem blkN (f : Nat → Int) : YtadiajcllfahiaaN.blk f = blk f := rfl
theorem noughtN : YtadiajcllfahiaaN.nought = nought := rfl
theorem sizeBy : (Try.prog.info? 26).map (·.size) = some 16 := by kernel_rfl
theorem zeroBy : ∀ w, (zeroValue 26).run Try.prog w = .ok (.agg (rowN .u8 nought 16)) w := (zero_of_info (show (Try.prog.info? 26).map (fun i => (i.zero, i.size)) = some (some (.agg (rowN .u8 nought 16)), 16) by kernel_rfl)).1
theorem set_e (w : World) (i : Int) (hi : 0 ≤ i ∧ i < 65536) : Calls Try.prog 16 #[.agg (blk nought), .int .i64 0, .int .u16 i] w fun e w' => e = .returned (.agg (blk (encP i ⟨#[]⟩))) ∧ Below w.heap.size w w' := by
  have h := YtadiajcllfahiaaN.set16_any nought ((0 : Nat) : Int) i w hi
  rw [YtadiajcllfahiaaN.put_in nought 0 2 i (by omega), YtadiajcllfahiaaN.put2 _ _ _ hi, blkN, blkN] at h
  have e : blk (YtadiajcllfahiaaN.upd (YtadiajcllfahiaaN.upd nought 0 (i % 256)) (0 + 1) (i / 256)) = blk (encP i ⟨#[]⟩) := by
    refine rowN_congr fun j _ => ?_
    unfold YtadiajcllfahiaaN.upd encP nought
    rw [byt_none]
    by_cases h1 : j = 1
    · rw [if_pos (by omega), if_neg (by omega), if_pos h1]
    · rw [if_neg (by omega)]
      by_cases h0 : j = 0
      · rw [if_pos h0, if_pos h0]
      · rw [if_neg h0, if_neg h0, if_neg h1]
  rw [e] at h
  exact h
theorem lay_e (w : World) (i : Int) (s : ByteArray) (p : Value) (hp : YtadiajcllfahiaaN.Lies w p s.size (byt s)) : Calls Try.prog 17 #[.agg (blk (encP i ⟨#[]⟩)), .int .i64 2, p] w fun e w' => e = .returned (.agg (blk (encP i s))) ∧ Below w.heap.size w w' := by
  have h := YtadiajcllfahiaaN.lay_any (encP i ⟨#[]⟩) 2 p s.size (byt s) w (by omega) hp
  rw [blkN, blkN] at h
  have e : blk (YtadiajcllfahiaaN.layF (encP i ⟨#[]⟩) 2 s.size (byt s)) = blk (encP i s) := by
    refine rowN_congr fun j _ => ?_
    unfold YtadiajcllfahiaaN.layF encP
    by_cases h1 : (2 : Int) ≤ (j : Int) ∧ (j : Int) - 2 < (s.size : Int)
    · rw [if_pos h1, if_neg (by omega), if_neg (by omega), show ((j : Int) - 2).toNat = j - 2 by omega]
    · rw [if_neg h1, byt_none]
      by_cases h0 : j = 0
      · rw [if_pos h0, if_pos h0]
      rw [if_neg h0, if_neg h0]
      by_cases h2 : j = 1
      · rw [if_pos h2, if_pos h2]
      rw [if_neg h2, if_neg h2]
      unfold byt
      rw [dif_neg (by omega)]
  rw [e] at h
  exact h
theorem piece_e (w : World) (F : Nat → Int) : Calls Try.prog 18 #[.agg (blk F), .int .i64 0, .int .i64 16] w fun e w' => e = .returned (.slice (some ⟨w.heap.size + 1, 0, none⟩) 16 16) ∧
      w'.heap[w.heap.size + 1]? = some (.cells (rowN .u8 F 16) 5) ∧ Below w.heap.size w w' := by
  have hpc := YtadiajcllfahiaaN.piece_any F 0 16 w (by omega) (by omega)
  have e1 : YtadiajcllfahiaaN.insLo 0 16 = 0 := by decide
  have e2 : YtadiajcllfahiaaN.insHi 0 16 = 16 := by decide
  rw [e1, e2, blkN] at hpc
  refine hpc.mono ?_
  rintro e X ⟨rfl, hX, _, hb⟩
  refine ⟨rfl, hX.trans ?_, hb⟩
  show some (Obj.cells (rowN .u8 (YtadiajcllfahiaaN.from' F 0) 16) 5 (0, 0)) = _
  rw [rowN_congr (g := F) fun j _ => by unfold YtadiajcllfahiaaN.from'; rw [Nat.zero_add]]
/-- What a walk of Encode holds. -/
structure Ec (w W : World) (i : Int) (s : ByteArray) : Prop where
  ent : W.heap[w.heap.size]? = some (.cells #[.int .u16 i, .string s] 24)
  res : W.heap[w.heap.size + 1]? = some (.cells (rowN .u8 nought 16) 26)
  bel : Below w.heap.size w W
theorem Ec.start (w : World) (i : Int) (s : ByteArray) : Ec w ((w.alloc (.cells #[.int .u16 i, .string s] 24)).alloc (.cells (rowN .u8 nought 16) 26)) i s :=
  ⟨heap_kept (heap_alloc_new _ _) (below_new _ _), heap_two _ _ _, bel_al (below_new _ _) _⟩
theorem Ec.call {w W W' : World} {i : Int} {s : ByteArray} (h : Ec w W i s) (hb : Below W.heap.size W W') : Ec w W' i s := ⟨heap_kept h.ent hb, heap_kept h.res hb, below_next h.bel hb⟩
set_option maxRecDepth 20000 in
set_option maxHeartbeats 1000000 in
theorem check_any (w : World) (i : Int) (hi : 0 ≤ i ∧ i < 65536) (s : ByteArray) (hz : s.size ≤ 9223372036854775807) :
    Calls Try.prog 15 #[.agg #[.int .u16 i, .string s]] w fun e w' => e = .returned (.int .i64 (chV i s)) ∧ Below w.heap.size w w' := by
  have hn := name_any s (w.alloc (.cells #[.int .u16 i, .string s] 24)) hz
  have HB : Hid _ := below_new w (.cells #[.int .u16 i, .string s] 24)
  by_cases h0 : i = 0
  · subst h0
    by_cases h1 : s.size = 0
    · have e := nm_empty h1
      subst e
      clear h1 hn
      go_enter Try.func15, Try.ntmps15
      go_wp2
      go_ret
      exact ⟨rfl, HB.out⟩
    · have g1 := nm_list (s := s) (by omega)
      have HC : Hid (chV 0 s = 4) := by show chV 0 s = 4; unfold chV; rw [if_pos rfl, if_neg h1]
      clear hn
      go_enter Try.func15, Try.ntmps15
      go_wp2
      go_ret
      exact ⟨by rw [HC.out]; rfl, HB.out⟩
  · have g1 : (i == 0) = false := beq_eq_false_iff_ne.2 h0
    have HC : Hid (chV i s = nmV s) := by show chV i s = _; unfold chV; rw [if_neg h0]
    go_enter Try.func15, Try.ntmps15
    go_wp2_with (first | (go_at_call 10; fail))
    refine hn.mono ?_
    rintro e W ⟨rfl, rfl⟩
    go_wp2
    go_ret
    exact ⟨by rw [HC.out]; rfl, HB.out⟩
set_option maxRecDepth 20000 in
set_option maxHeartbeats 1000000 in
theorem enc_bad (w : World) (i : Int) (hi : 0 ≤ i ∧ i < 65536) (s : ByteArray) (hz : s.size ≤ 9223372036854775807) (hc : ¬ chV i s = 0) :
    Calls Try.prog 8 #[.agg #[.int .u16 i, .string s]] w fun e w' => e = .returned (.tuple #[.agg (rowN .u8 nought 16), .int .i64 (chV i s)]) ∧ Below w.heap.size w w' := by
  have z := zeroBy
  have HE := Ec.start w i s
  have c0 := Joins.cell_of_block HE.ent 0
  have c1 := Joins.cell_of_block HE.ent 1
  have HE' : Hid _ := HE
  clear HE
  have hck := check_any ((w.alloc (.cells #[.int .u16 i, .string s] 24)).alloc (.cells (rowN .u8 nought 16) 26)) i hi s hz
  have g1 : (chV i s == 0) = false := beq_eq_false_iff_ne.2 hc
  clear hc
  generalize chV i s = q at *
  go_enter Try.func8, Try.ntmps8
  go_wp2_with (first | (go_at_call 15; fail))
  refine hck.mono ?_
  rintro e W ⟨rfl, hb⟩
  have hT := HE'.out.call hb
  have hr := hT.res
  have HB : Hid _ := hT.bel
  clear hT HE' hck c0 c1 hb
  go_wp2_with (first | (with_reducible refine isStoreR 26 ?_; refine wpList_stR 26 rfl _ _ rfl (w.heap.size + 1) (rowN .u8 nought 16) (rowN .u8 nought 16) 26 (by rw [rowN_size]; exact sizeBy) rfl (rowN_one _ _ _) rfl rfl hr ?_))
  exact retCT Try.underlying26 rfl rfl (w.heap.size + 1) (rowN .u8 nought 16) 26 (by rw [rowN_size]; exact sizeBy) rfl (setRow_heap _ _ _ _ _ _ hr) rfl ⟨rfl, below_setRow HB.out (by omega) _⟩
end Go.Proofs.Ytadiajcllfahiaa
