/- An entry's sixteen bytes, by the document; whatever the entry. -/
import Derived.Test.YtadiajcllfahiaaEn1
namespace Go.Proofs.Ytadiajcllfahiaa
open Go.RowKit Go.Maps
theorem size204 : (Try.prog.info? 25).map (·.size) = some 16 := by kernel_rfl
theorem zero204 : ∀ w, (zeroValue 25).run Try.prog w = .ok (.agg (rowN .u8 nought 16)) w := (zero_of_info (show (Try.prog.info? 25).map (fun i => (i.zero, i.size)) = some (some (.agg (rowN .u8 nought 16)), 16) by kernel_rfl)).1
theorem retCT {fn : Func} {p u : Tmp} {ty : TypeId} {R : Ending → World → Prop} {a : Act} {w : World} {d : TypeDesc} (hu : Try.prog.underlying ty = some d) (hd : d.isRow = true) (h : fn.results = #[.cell p ty, .tmp u]) (g : Nat) (cs : Array Value) (t : TypeId) (hi : (Try.prog.info? ty).map (·.size) = some cs.size)
    (hp : a.tmps.getD p undef = .pointer (some ⟨g, 0, none⟩)) (hg : w.heap[g]? = some (.cells cs t))
    (hdf : a.defers = []) (hR : R (.returned (.tuple #[.agg cs, a.tmps.getD u undef])) w) : bodyPost Try.prog fn R .ret a w := by
  have hl : (loadVar ty ⟨g, 0, none⟩).run Try.prog w = .ok (.agg cs) w := run_loadVar_row w g t ty cs (0, 0) d hg hu (by cases d <;> first | rfl | cases hd) hi
  refine bodyPost_ret ?_ hdf hR
  rw [results_cell_tmp h]
  rw [hp]
  simp [asAddr, hl]
/-- The bytes of an entry. -/
def encP (i : Int) (s : ByteArray) : Nat → Int := fun j => if j = 0 then i % 256 else if j = 1 then i / 256 else byt s (j - 2)
/-- Whether an entry may be. -/
def chV (i : Int) (s : ByteArray) : Int := if i = 0 then (if s.size = 0 then 0 else 4) else nmV s
/-- What is written. -/
def encF (i : Int) (s : ByteArray) : Nat → Int := if chV i s = 0 then encP i s else nought
theorem encF_ok {i : Int} {s : ByteArray} (h : chV i s = 0) : encF i s = encP i s := if_pos h
theorem encF_bad {i : Int} {s : ByteArray} (h : ¬ chV i s = 0) : encF i s = nought := if_neg h
theorem byt_none (i : Nat) : byt ⟨#[]⟩ i = 0 := by unfold byt; rw [dif_neg]; exact Nat.not_lt_zero i
theorem encP_free : encP 0 ⟨#[]⟩ = nought := by
  funext j
  unfold encP nought
  split
  · rfl
  · split
    · rfl
    · exact byt_none _
theorem nmV_size {s : ByteArray} (h : nmV s = 0) : 0 < s.size ∧ s.size ≤ 14 ∧ oddB s s.size = false := by
  unfold nmV at h
  split at h
  · cases h
  · split at h
    · cases h
    · split at h
      · cases h
      · rename_i h1 h2 h3
        exact ⟨by omega, by omega, by simpa using h2⟩
structure En3 (w W : World) (i : Int) (s : ByteArray) (e : Nat → Int) : Prop where
  ent : W.heap[w.heap.size]? = some (.cells #[.int .u16 i, .string s] 24)
  res : W.heap[w.heap.size + 1]? = some (.cells (rowN .u8 nought 16) 25)
  row : W.heap[w.heap.size + 2]? = some (.cells (rowN .u8 e 16) 25)
  bel : Below w.heap.size w W
theorem En3.set {w W : World} {i : Int} {s : ByteArray} {e : Nat → Int} (h : En3 w W i s e) (j : Nat) (x : Int) : En3 w (W.setCell ⟨w.heap.size + 2, j, none⟩ (.int .u8 x)) i s (updN e j x) := by
  have hF := Fr.setCell W (w.heap.size + 2) j (.int .u8 x)
  exact ⟨(hF.block _ (Array.getElem?_eq_some_iff.1 h.ent).1 (by omega)).trans h.ent, (hF.block _ (Array.getElem?_eq_some_iff.1 h.res).1 (by omega)).trans h.res, setCell_rowN h.row j x, h.bel.trans (hF.below (fun j q => by omega) h.bel.size)⟩
theorem En3.start (w : World) (i : Int) (s : ByteArray) : En3 w (((w.alloc (.cells #[.int .u16 i, .string s] 24)).alloc (.cells (rowN .u8 nought 16) 25)).alloc (.cells (rowN .u8 nought 16) 25)) i s nought := by
  refine ⟨heap_kept (heap_kept (heap_alloc_new _ _) (below_new _ _)) (below_new _ _), heap_kept (heap_two _ _ _) (below_new _ _), ?_, bel_al (bel_al (below_new _ _) _) _⟩
  have := heap_alloc_new ((w.alloc (.cells #[.int .u16 i, .string s] 24)).alloc (.cells (rowN .u8 nought 16) 25)) (.cells (rowN .u8 nought 16) 25)
  simpa using this
theorem En3.start2 (w : World) (i : Int) (s : ByteArray) (x y : Int) : En3 w (((w.alloc (.cells #[.int .u16 i, .string s] 24)).alloc (.cells (rowN .u8 nought 16) 25)).alloc (.cells (((rowN .u8 nought 16).setIfInBounds 0 (.int .u8 x)).setIfInBounds 1 (.int .u8 y)) 25)) i s (updN (updN nought 0 x) 1 y) := by
  rw [rowN_set, rowN_set]
  refine ⟨heap_kept (heap_kept (heap_alloc_new _ _) (below_new _ _)) (below_new _ _), heap_kept (heap_two _ _ _) (below_new _ _), ?_, bel_al (bel_al (below_new _ _) _) _⟩
  have := heap_alloc_new ((w.alloc (.cells #[.int .u16 i, .string s] 24)).alloc (.cells (rowN .u8 nought 16) 25)) (.cells (rowN .u8 (updN (updN nought 0 x) 1 y) 16) 25)
  simpa using this
set_option maxRecDepth 20000 in
set_option maxHeartbeats 1000000 in
theorem refEnc_free (w : World) :
    Calls Try.prog 9 #[.agg #[.int .u16 0, .string ⟨#[]⟩]] w fun e w' => e = .returned (.tuple #[.agg (rowN .u8 nought 16), .int .i64 0]) ∧ Below w.heap.size w w' := by
  have z := zero204
  have HE := En3.start w 0 ⟨#[]⟩
  have c0 := Joins.cell_of_block HE.ent 0
  have c1 := Joins.cell_of_block HE.ent 1
  have hr := HE.res
  have hrw := HE.row
  have HB : Hid _ := HE.bel
  clear HE
  go_enter Try.func9, Try.ntmps9
  go_wp2_with (first | (with_reducible refine isLoadR 25 ?_; refine wpList_ldR 25 Try.underlying25 rfl rfl _ rfl (w.heap.size + 2) rfl (rowN .u8 nought 16) 25 (0, 0) (by rw [rowN_size]; exact size204) hrw ?_) | (with_reducible refine isStoreR 25 ?_; refine wpList_stR 25 rfl _ _ rfl (w.heap.size + 1) (rowN .u8 nought 16) (rowN .u8 nought 16) 25 (by rw [rowN_size]; exact size204) rfl (rowN_one _ _ _) rfl rfl hr ?_))
  exact retCT Try.underlying25 rfl rfl (w.heap.size + 1) (rowN .u8 nought 16) 25 (by rw [rowN_size]; exact size204) rfl (setRow_heap _ _ _ _ _ _ hr) rfl ⟨rfl, below_setRow HB.out (by omega) _⟩
set_option maxRecDepth 20000 in
set_option maxHeartbeats 1000000 in
theorem refEnc_odd (w : World) (s : ByteArray) (hs : 0 < s.size) :
    Calls Try.prog 9 #[.agg #[.int .u16 0, .string s]] w fun e w' => e = .returned (.tuple #[.agg (rowN .u8 nought 16), .int .i64 4]) ∧ Below w.heap.size w w' := by
  have z := zero204
  have HE := En3.start w 0 s
  have c0 := Joins.cell_of_block HE.ent 0
  have c1 := Joins.cell_of_block HE.ent 1
  have hr := HE.res
  have hrw := HE.row
  have HB : Hid _ := HE.bel
  clear HE
  have g1 := nm_list hs
  go_enter Try.func9, Try.ntmps9
  go_wp2_with (first | (with_reducible refine isLoadR 25 ?_; refine wpList_ldR 25 Try.underlying25 rfl rfl _ rfl (w.heap.size + 2) rfl (rowN .u8 nought 16) 25 (0, 0) (by rw [rowN_size]; exact size204) hrw ?_) | (with_reducible refine isStoreR 25 ?_; refine wpList_stR 25 rfl _ _ rfl (w.heap.size + 1) (rowN .u8 nought 16) (rowN .u8 nought 16) 25 (by rw [rowN_size]; exact size204) rfl (rowN_one _ _ _) rfl rfl hr ?_))
  exact retCT Try.underlying25 rfl rfl (w.heap.size + 1) (rowN .u8 nought 16) 25 (by rw [rowN_size]; exact size204) rfl (setRow_heap _ _ _ _ _ _ hr) rfl ⟨rfl, below_setRow HB.out (by omega) _⟩
set_option maxRecDepth 20000 in
set_option maxHeartbeats 1000000 in
theorem refEnc_bad (w : World) (i : Int) (hi : 0 < i ∧ i < 65536) (s : ByteArray) (hs : ¬ nmV s = 0) (hz : s.size ≤ 9223372036854775807) :
    Calls Try.prog 9 #[.agg #[.int .u16 i, .string s]] w fun e w' => e = .returned (.tuple #[.agg (rowN .u8 nought 16), .int .i64 (nmV s)]) ∧ Below w.heap.size w w' := by
  have z := zero204
  have HE := En3.start w i s
  have c0 := Joins.cell_of_block HE.ent 0
  have c1 := Joins.cell_of_block HE.ent 1
  have hr := HE.res
  have hrw := HE.row
  have HB : Hid _ := HE.bel
  clear HE
  have hnm := refName_any s (((w.alloc (.cells #[.int .u16 i, .string s] 24)).alloc (.cells (rowN .u8 nought 16) 25)).alloc (.cells (rowN .u8 nought 16) 25)) hz
  have g1 : (i == 0) = false := beq_eq_false_iff_ne.2 (by omega)
  have g2 : (nmV s == 0) = false := beq_eq_false_iff_ne.2 hs
  generalize nmV s = q at *
  go_enter Try.func9, Try.ntmps9
  go_wp2_with (first | (go_at_call 11; fail))
  refine hnm.mono ?_
  rintro e W ⟨rfl, rfl⟩
  clear hnm
  go_wp2_with (first | (with_reducible refine isLoadR 25 ?_; refine wpList_ldR 25 Try.underlying25 rfl rfl _ rfl (w.heap.size + 2) rfl (rowN .u8 nought 16) 25 (0, 0) (by rw [rowN_size]; exact size204) hrw ?_) | (with_reducible refine isStoreR 25 ?_; refine wpList_stR 25 rfl _ _ rfl (w.heap.size + 1) (rowN .u8 nought 16) (rowN .u8 nought 16) 25 (by rw [rowN_size]; exact size204) rfl (rowN_one _ _ _) rfl rfl hr ?_))
  exact retCT Try.underlying25 rfl rfl (w.heap.size + 1) (rowN .u8 nought 16) 25 (by rw [rowN_size]; exact size204) rfl (setRow_heap _ _ _ _ _ _ hr) rfl ⟨rfl, below_setRow HB.out (by omega) _⟩
set_option maxRecDepth 20000 in
set_option maxHeartbeats 2000000 in
theorem refEnc_name (w : World) (i : Int) (hi : 0 < i ∧ i < 65536) (s : ByteArray) (hs : nmV s = 0) :
    Calls Try.prog 9 #[.agg #[.int .u16 i, .string s]] w fun e w' => e = .returned (.tuple #[.agg (rowN .u8 (encP i s) 16), .int .i64 0]) ∧ Below w.heap.size w w' := by
  have z := zero204
  have hE := En3.start w i s
  have hnm := refName_any s (((w.alloc (.cells #[.int .u16 i, .string s] 24)).alloc (.cells (rowN .u8 nought 16) 25)).alloc (.cells (rowN .u8 nought 16) 25)) (by have := (nmV_size hs).2.1; omega)
  have c0 := Joins.cell_of_block hE.ent 0
  have c1 := Joins.cell_of_block hE.ent 1
  have g1 : (i == 0) = false := beq_eq_false_iff_ne.2 (by omega)
  have hlen := (nmV_size hs).2.1
  rw [hs] at hnm
  clear hs
  have HS : Hid _ := En3.start2 w i s (i % 256) (i / 256)
  have HE1 := hE.set 0 (i % 256)
  have r0 := cell_rowN (i := 0) hE.row (by omega)
  have f0 := frozen_row hE.row 0
  have r1 := cell_rowN (i := 1) HE1.row (by omega)
  have f1 := frozen_row HE1.row 1
  have d0 := Joins.cell_of_block HE1.ent 0
  clear hE HE1
  have t1 : i.tmod 256 = i % 256 := Int.tmod_eq_emod_of_nonneg (by omega)
  have t2 : i.tdiv 256 = i / 256 := Int.tdiv_eq_ediv_of_nonneg (by omega)
  have t3 : IntKind.u16.wrap (i % 256) = i % 256 := by rw [wrap_u16]; omega
  have t4 : IntKind.u16.wrap (i / 256) = i / 256 := by rw [wrap_u16]; omega
  have t5 : IntKind.u8.wrap (i % 256) = i % 256 := by rw [IntKind.wrap_u8]; omega
  have t6 : IntKind.u8.wrap (i / 256) = i / 256 := by rw [IntKind.wrap_u8]; omega
  go_enter Try.func9, Try.ntmps9
  go_wp2_with (first | (go_at_call 11; fail))
  refine hnm.mono ?_
  rintro e W ⟨rfl, rfl⟩
  clear hnm
  go_wp2
  generalize (((w.alloc (.cells #[.int .u16 i, .string s] 24)).alloc (.cells (rowN .u8 nought 16) 25)).alloc (.cells (((rowN .u8 nought 16).setIfInBounds 0 (.int .u8 (i % 256))).setIfInBounds 1 (.int .u8 (i / 256))) 25)) = V at *
  clear c0 c1 r0 f0 r1 f1 d0 t1 t2 t3 t4 t5 t6 g1
  have HP : Hid (∀ k, k < s.size → encP i s (2 + k) = byt s k) := fun k h => by
    unfold encP
    rw [if_neg (by omega), if_neg (by omega), Nat.add_sub_cancel_left]
  go_loopw [6] (fun s6 wx => ∃ (k : Nat) (e : Nat → Int), k ≤ s.size ∧ s6 = .int .i64 k ∧ Hid (∀ j, j < 2 + k ∨ 2 + s.size ≤ j → e j = encP i s j) ∧ Hid (En3 w wx i s e)) (fun s6 _ => s.size - (intOf s6).toNat)
  case atStart =>
    refine ⟨0, _, by omega, rfl, ?_, HS.out⟩
    intro j hj
    unfold updN encP nought
    by_cases h1 : j = 1
    · rw [if_pos h1, if_neg (by omega), if_pos h1]
    · rw [if_neg h1]
      by_cases h0 : j = 0
      · rw [if_pos h0, if_pos h0]
      · rw [if_neg h0, if_neg h0, if_neg h1]
        unfold byt
        rw [dif_neg (by omega)]
  case round =>
    obtain ⟨k, e, hk, rfl, HE, HT⟩ := hrel
    have c1 := Joins.cell_of_block HT.out.ent 1
    by_cases hk2 : (k : Int) < (s.size : Int)
    · have hr := idx_str s k (by omega)
      have HPk : Hid _ := HP.out k (by omega)
      have rk := cell_rowN (i := 2 + k) HT.out.row (by omega)
      have fk := frozen_row HT.out.row (2 + k)
      have HT2 : Hid _ := HT.out.set (2 + k) (byt s k)
      have HE2 : Hid (∀ j, j < 2 + (k + 1) ∨ 2 + s.size ≤ j → updN e (2 + k) (byt s k) j = encP i s j) := fun j hj => by
        unfold updN
        split
        · rename_i q; rw [q, HPk.out]
        · exact HE.out j (by omega)
      have e1 : IntKind.i64.wrap (2 + (k : Int)) = ((2 + k : Nat) : Int) := by rw [IntKind.wrap_i64]; omega
      have e2 : 2 + (k : Int) = ((2 + k : Nat) : Int) := by omega
      have hlt : 2 + k < 16 := by omega
      have hks : k < s.size := by omega
      generalize byt s k = x at *
      clear HT HE HPk
      generalize hm : 2 + k = m at *
      have HM : Hid _ := hm
      clear hm
      go_wp2
      refine ⟨⟨k + 1, _, by omega, by go_num, HE2.out, HT2.out⟩, by simp [intOf]; omega⟩
    · obtain rfl : k = s.size := by omega
      have hrow := HT.out.row
      rw [show rowN .u8 e 16 = rowN .u8 (encP i s) 16 from rowN_congr fun j _ => HE.out j (by omega)] at hrow
      have hres := HT.out.res
      have HB2 : Hid (Below w.heap.size w (wr.setRow (w.heap.size + 1) (rowN .u8 (encP i s) 16))) := below_setRow HT.out.bel (by omega) _
      clear HT HE HP
      obtain ⟨F, hF⟩ : ∃ F, encP i s = F := ⟨_, rfl⟩
      rw [hF] at hrow HB2
      have HF : Hid _ := hF
      clear hF
      go_wp2_with (first | (with_reducible refine isLoadR 25 ?_; refine wpList_ldR 25 Try.underlying25 rfl rfl _ rfl (w.heap.size + 2) rfl (rowN .u8 F 16) 25 (0, 0) (by rw [rowN_size]; exact size204) hrow ?_) | (with_reducible refine isStoreR 25 ?_; refine wpList_stR 25 rfl _ _ rfl (w.heap.size + 1) (rowN .u8 F 16) (rowN .u8 nought 16) 25 (by rw [rowN_size]; exact size204) (by rw [rowN_size, rowN_size]) (rowN_one _ _ _) rfl rfl hres ?_))
      exact retCT Try.underlying25 rfl rfl (w.heap.size + 1) (rowN .u8 F 16) 25 (by rw [rowN_size]; exact size204) rfl (setRow_heap _ _ _ _ _ _ hres) rfl ⟨by rw [HF.out]; rfl, HB2.out⟩
theorem chV_ok {i : Int} {s : ByteArray} (h : chV i s = 0) : (i = 0 ∧ s = ⟨#[]⟩) ∨ (¬ i = 0 ∧ nmV s = 0) := by
  unfold chV at h
  split at h
  · rename_i h0
    split at h
    · rename_i h1; exact .inl ⟨h0, nm_empty h1⟩
    · cases h
  · rename_i h0; exact .inr ⟨h0, h⟩
/-- The document's Encode, whatever the entry. -/
theorem refEnc_any (w : World) (i : Int) (hi : 0 ≤ i ∧ i < 65536) (s : ByteArray) (hz : s.size ≤ 9223372036854775807) :
    Calls Try.prog 9 #[.agg #[.int .u16 i, .string s]] w fun e w' => e = .returned (.tuple #[.agg (rowN .u8 (encF i s) 16), .int .i64 (chV i s)]) ∧ Below w.heap.size w w' := by
  by_cases h0 : i = 0
  · subst h0
    by_cases h1 : s.size = 0
    · have e := nm_empty h1
      subst e
      have hc : chV 0 ⟨#[]⟩ = 0 := rfl
      rw [encF_ok hc, encP_free, hc]
      exact refEnc_free w
    · have hc : chV 0 s = 4 := by unfold chV; rw [if_pos rfl, if_neg h1]
      rw [encF_bad (by rw [hc]; decide), hc]
      exact refEnc_odd w s (by omega)
  · have hc : chV i s = nmV s := by unfold chV; rw [if_neg h0]
    by_cases h1 : nmV s = 0
    · rw [encF_ok (by rw [hc, h1]), hc, h1]
      exact refEnc_name w i (by omega) s h1
    · rw [encF_bad (by rw [hc]; exact h1), hc]
      exact refEnc_bad w i (by omega) s h1 hz
end Go.Proofs.Ytadiajcllfahiaa
