/- After: the image in which the sure writes are made, and those pending ones that are kept; no condition but that lists are not longer than lists can be. -/
import Derived.Test.YtbnbbelkddbndaaImageOf
namespace Go.Proofs.Ytbnbbelkddbndaa
open Go.RowKit Go.Maps
theorem retCT {fn : Func} {p u : Tmp} {ty : TypeId} {R : Ending → World → Prop} {a : Act} {w : World} (h : fn.results = #[.cell p ty, .tmp u]) (g : Nat) (cs : Array Value)
    (hp : a.tmps.getD p undef = .pointer (some ⟨g, 0, none⟩)) (hl : (loadVar ty ⟨g, 0, none⟩).run Try.prog w = .ok (.agg cs) w)
    (hdf : a.defers = []) (hR : R (.returned (.tuple #[.agg cs, a.tmps.getD u undef])) w) : bodyPost Try.prog fn R .ret a w := by
  refine bodyPost_ret ?_ hdf hR
  rw [results_cell_tmp h]
  rw [hp]
  simp [asAddr, hl]
theorem load24 (w : World) (g : Nat) (cs : Array Value) (h : w.heap[g]? = some (.cells cs 24)) (hs : cs.size = 2) : (loadVar 24 ⟨g, 0, none⟩).run Try.prog w = .ok (.agg cs) w :=
  run_loadVar_row w g 24 24 cs (0, 0) _ h Try.underlying24 rfl (by rw [hs]; exact size32)
theorem okC_hold {n : Int} {c : Con} (h : OkC n c) {x : Int} {f : Nat → Int} (hx : 0 ≤ x ∧ x < n) (hf : Can f) : OkC n (holdC c x f) := fun k g hk => by
  unfold holdC at hk
  by_cases e : k = x
  · rw [if_pos e] at hk
    cases hb : blankB f
    · rw [hb] at hk
      have e2 : f = g := by simpa using hk
      subst e2
      exact ⟨by rw [e]; exact hx, hf, fun q => by rw [hf.blank.2 q] at hb; cases hb⟩
    · rw [hb] at hk; cases hk
  · rw [if_neg e] at hk
    exact h k g hk
theorem okC_holds {n : Int} : ∀ (l : List Cel) (c : Con), OkC n c → (∀ x ∈ l, (0 ≤ x.1 ∧ x.1 < n) ∧ Can x.2) → OkC n (holdCs c l)
  | [], _, h, _ => h
  | x :: t, c, h, hl => by
    show OkC n (holdCs (holdC c x.1 x.2) t)
    exact okC_holds t _ (okC_hold h (hl x (by simp)).1 (hl x (by simp)).2) fun y hy => hl y (by simp [hy])
theorem okC_no (n : Int) : OkC n noC := fun k f h => by simp [noC] at h
/-- What stands in the image that After tells. -/
def afterC (l : List Cel) (ops : List Rec) (keep : List Bool) : Con := holdCs noC (l ++ madeL keep ops)
theorem afterC_ok {n : Int} {l : List Cel} {ops : List Rec} {keep : List Bool} (hm : mayB n l = true) (ho : ∀ r ∈ ops, opOk n r = true) (hl : ∀ c ∈ l, Can c.2) (hc : ∀ r ∈ ops, Can r.dat) : OkC n (afterC l ops keep) := by
  refine okC_holds _ _ (okC_no n) fun x hx => ?_
  rcases List.mem_append.1 hx with h | h
  · obtain ⟨h1, h2, _⟩ := (may_bounds hm).2 x h
    exact ⟨⟨h1, h2⟩, hl x h⟩
  · obtain ⟨r, h1, h2, rfl⟩ := madeGo_mem h
    obtain ⟨_, p1, p2⟩ := opOk_write (ho r h1) (by omega)
    exact ⟨⟨p1, p2⟩, hc r h1⟩
theorem slice25 (p : Option Addr) (n c m : Nat) (hm : m ≤ c) (u : World) :
    (Instr.sliceAt 25 (.slice p n c) none (some (.int .i64 (m : Int))) none).run Try.prog u = .ok (.slice p m c) u := by
  have hu : Try.prog.underlying 25 = some (.slice (Try.prog.elem 25)) := by rw [elem67]; exact Try.underlying25
  rw [run_sliceAt_slice (P := Try.prog) u 25 _ _ _ _ hu, run_slice_h (P := Try.prog) u 25 p n c hu .i64 m (by omega) (by omega), elem67, Try.sizeOf42 u]
  rw [Result.andThen_ok, Int.toNat_natCast]
  unfold sliced
  simp [Addr.add]
theorem wpList_slice25 {ops : Array Oper} {rest : List Oper} {o : Oper} {a : Act} {w : World} {Q : Exit → Act → World → Prop} (hgd : o.guard = none) (x y : Operand) (ho : o.op = .slice 25 x none (some y) none)
    (p : Option Addr) (n c m : Nat) (hm : m ≤ c) (hx : a.eval x = .slice p n c) (hy : a.eval y = .int .i64 (m : Int)) (h : wpList Try.prog ops Q rest (a.put o.dst (.slice p m c)) w) : wpList Try.prog ops Q (o :: rest) a w :=
  wpList_plain hgd fun _ hK => by
    unfold Oper.wp execOp
    simp only [ho, hx, hy, Option.map, Sem.run_bind, slice25 p n c m hm, Result.andThen_ok, Sem.run_pure]
    exact hK _ _ h
set_option maxRecDepth 20000 in
set_option maxHeartbeats 1000000 in
theorem after_bad (n : Int) (l : List Cel) (p : Option Addr) (cap : Nat) (ops : List Rec) (po : Option Addr) (co : Nat) (k : Int) (kv : Value) (w : World) (hl : l.length < 9223372036854775807) (h : ImgAt w p l) (hlo : ops.length < 9223372036854775807) (ho : OpsAt w po ops) (hkv : ∃ ka kl kc, kv = .slice ka kl kc) (hm : pmayB n l ops k = false) :
    Calls Try.prog 21 #[.agg #[.int .i64 n, .slice p l.length cap], .slice po ops.length co, .int .i64 k, kv] w fun e w' => e = .returned (.tuple #[.agg #[.int .i64 0, .slice none 0 0], .int .i64 2]) ∧ Below w.heap.size w w' := by
  obtain ⟨ka, kl, kc, rfl⟩ := hkv
  have hB : Below w.heap.size w (((w.alloc (.cells #[.int .i64 n, .slice p l.length cap] 24)).alloc (.cells #[.slice ka kl kc] 26)).alloc (.cells #[.int .i64 0, .slice none 0 0] 24)) := ((((Below.refl _ _).alloc (Nat.le_refl _) _).alloc (by simp) _).alloc (by simp; omega) _)
  have hM := maybe_any n l p cap ops po co k _ hl (h.later hB) hlo (ho.later hB)
  rw [hm] at hM
  have hs : (((w.alloc (.cells #[.int .i64 n, .slice p l.length cap] 24)).alloc (.cells #[.slice ka kl kc] 26)).alloc (.cells #[.int .i64 0, .slice none 0 0] 24)).heap.size = w.heap.size + 3 := by simp
  have hR : (((w.alloc (.cells #[.int .i64 n, .slice p l.length cap] 24)).alloc (.cells #[.slice ka kl kc] 26)).alloc (.cells #[.int .i64 0, .slice none 0 0] 24)).heap[w.heap.size + 2]? = some (.cells #[.int .i64 0, .slice none 0 0] 24) := by
    have := heap_alloc_new ((w.alloc (.cells #[.int .i64 n, .slice p l.length cap] 24)).alloc (.cells #[.slice ka kl kc] 26)) (.cells #[.int .i64 0, .slice none 0 0] 24)
    rwa [show ((w.alloc (.cells #[.int .i64 n, .slice p l.length cap] 24)).alloc (.cells #[.slice ka kl kc] 26)).heap.size = w.heap.size + 2 by simp] at this
  clear h ho hm
  go_enter Try.func21, Try.ntmps21
  go_wp2_with (go_at_call 53; fail)
  refine hM.mono ?_
  rintro e W1 ⟨rfl, hb1⟩
  have HR1 : Hid (W1.heap[w.heap.size + 2]? = some (.cells #[.int .i64 0, .slice none 0 0] 24)) := (hb1.block _ (by omega)).trans hR
  have HB1 : Hid (Below w.heap.size w W1) := hB.trans (hb1.mono (by omega))
  have cB0 : W1.cell? ⟨w.heap.size + 2, 0, none⟩ = some (.int .i64 0) := Joins.cell_of_block HR1.out 0
  have cB1 : W1.cell? ⟨w.heap.size + 2, 1, none⟩ = some (.slice none 0 0) := Joins.cell_of_block HR1.out 1
  have fB0 : W1.frozen? ⟨w.heap.size + 2, 0, none⟩ = false := Joins.unfrozen_of_block HR1.out 0
  have fB1 : W1.frozen? ⟨w.heap.size + 2, 1, none⟩ = false := Joins.unfrozen_of_block HR1.out 1
  clear hM hb1 hR hs hB
  go_wp2
  have hrow := Joins.block_setCell (Joins.block_setCell HR1.out (i := 0) (.int .i64 0)) (i := 1) (.slice none 0 0)
  refine retCT rfl (w.heap.size + 2) _ rfl (load24 _ _ _ hrow rfl) rfl ⟨rfl, ?_⟩
  exact (HB1.out.setCell (by show w.heap.size ≤ w.heap.size + 2; omega) _).setCell (by show w.heap.size ≤ w.heap.size + 2; omega) _
set_option maxRecDepth 20000 in
set_option maxHeartbeats 2000000 in
theorem after_ok (n : Int) (l : List Cel) (p : Option Addr) (cap : Nat) (ops : List Rec) (po : Option Addr) (co k : Nat) (keep : List Bool) (ka : Option Addr) (kcap : Nat) (w : World) (hl : l.length < 9223372036854775807) (h : ImgAt w p l) (hlo : ops.length < 9223372036854775807) (ho : OpsAt w po ops) (hco : ops.length ≤ co)
    (hlk : keep.length < 9223372036854775807) (hk : BoolsAt w (.slice ka keep.length kcap) keep) (hm : pmayB n l ops k = true) (hcl : ∀ c ∈ l, Can c.2) (hcr : ∀ r ∈ ops, Can r.dat) :
    Calls Try.prog 21 #[.agg #[.int .i64 n, .slice p l.length cap], .slice po ops.length co, .int .i64 k, .slice ka keep.length kcap] w fun e w' => ∃ (g : Nat) (l' : List Cel), e = .returned (.tuple #[.agg #[.int .i64 n, .slice (some ⟨g, 0, none⟩) l'.length l'.length], .int .i64 0]) ∧
      IsImg n (afterC l (ops.take k) keep) l' ∧ w'.heap[g]? = some (.cells (celCells l').toArray 44) ∧ w.heap.size ≤ g ∧ Below w.heap.size w w' := by
  have hB : Below w.heap.size w (((w.alloc (.cells #[.int .i64 n, .slice p l.length cap] 24)).alloc (.cells #[.slice ka keep.length kcap] 26)).alloc (.cells #[.int .i64 0, .slice none 0 0] 24)) := ((((Below.refl _ _).alloc (Nat.le_refl _) _).alloc (by simp) _).alloc (by simp; omega) _)
  have hM := maybe_any n l p cap ops po co k _ hl (h.later hB) hlo (ho.later hB)
  rw [hm] at hM
  obtain ⟨hmi, hk0, hk1, hok⟩ := pmay_parts hm
  have hokt : ∀ r ∈ ops.take k, opOk n r = true := fun r hr => hok r (List.mem_of_mem_take hr)
  have HOkC : Hid (OkC n (afterC l (ops.take k) keep)) := afterC_ok hmi hokt hcl fun r hr => hcr r (List.mem_of_mem_take hr)
  have hbn := (may_bounds hmi).1
  have hs : (((w.alloc (.cells #[.int .i64 n, .slice p l.length cap] 24)).alloc (.cells #[.slice ka keep.length kcap] 26)).alloc (.cells #[.int .i64 0, .slice none 0 0] 24)).heap.size = w.heap.size + 3 := by simp
  have hR : (((w.alloc (.cells #[.int .i64 n, .slice p l.length cap] 24)).alloc (.cells #[.slice ka keep.length kcap] 26)).alloc (.cells #[.int .i64 0, .slice none 0 0] 24)).heap[w.heap.size + 2]? = some (.cells #[.int .i64 0, .slice none 0 0] 24) := by
    have := heap_alloc_new ((w.alloc (.cells #[.int .i64 n, .slice p l.length cap] 24)).alloc (.cells #[.slice ka keep.length kcap] 26)) (.cells #[.int .i64 0, .slice none 0 0] 24)
    rwa [show ((w.alloc (.cells #[.int .i64 n, .slice p l.length cap] 24)).alloc (.cells #[.slice ka keep.length kcap] 26)).heap.size = w.heap.size + 2 by simp] at this
  have hK : (((w.alloc (.cells #[.int .i64 n, .slice p l.length cap] 24)).alloc (.cells #[.slice ka keep.length kcap] 26)).alloc (.cells #[.int .i64 0, .slice none 0 0] 24)).heap[w.heap.size + 1]? = some (.cells #[.slice ka keep.length kcap] 26) := by
    have := heap_alloc_new (w.alloc (.cells #[.int .i64 n, .slice p l.length cap] 24)) (.cells #[.slice ka keep.length kcap] 26)
    rw [show (w.alloc (.cells #[.int .i64 n, .slice p l.length cap] 24)).heap.size = w.heap.size + 1 by simp] at this
    exact heap_kept this (below_new _ _)
  have hI : (((w.alloc (.cells #[.int .i64 n, .slice p l.length cap] 24)).alloc (.cells #[.slice ka keep.length kcap] 26)).alloc (.cells #[.int .i64 0, .slice none 0 0] 24)).heap[w.heap.size]? = some (.cells #[.int .i64 n, .slice p l.length cap] 24) :=
    heap_kept (heap_kept (heap_alloc_new w _) (below_new _ _)) (below_new _ _)
  go_enter Try.func21, Try.ntmps21
  go_wp2_with (go_at_call 53; fail)
  refine hM.mono ?_
  rintro e W1 ⟨rfl, hb1⟩
  have hR1 := (hb1.block (w.heap.size + 2) (by omega)).trans hR
  have hK1 := (hb1.block (w.heap.size + 1) (by omega)).trans hK
  have hI1 := (hb1.block w.heap.size (by omega)).trans hI
  have hB1 : Below w.heap.size w W1 := hB.trans (hb1.mono (by omega))
  have hs1 : w.heap.size + 3 ≤ W1.heap.size := by have := hb1.size; omega
  have i0 : W1.cell? ⟨w.heap.size, 0, none⟩ = some (.int .i64 n) := Joins.cell_of_block hI1 0
  have i1 : W1.cell? ⟨w.heap.size, 1, none⟩ = some (.slice p l.length cap) := Joins.cell_of_block hI1 1
  have hN := byNumber_of n l p cap W1 hl (h.later hB1) hmi
  clear hM hb1 hR hs hB hK hI hm
  go_wp2_with (go_at_call 54; fail)
  refine hN.mono ?_
  rintro e W2 ⟨mb, rfl, hP2, hmb, hb2⟩
  have hlm : mb < W2.heap.size := hP2.lt
  have hb3 : Below W2.heap.size W2 (W2.alloc (.cells #[.map (some mb)] 84)) := below_new _ _
  have hL3 : (W2.alloc (.cells #[.map (some mb)] 84)).heap[W2.heap.size]? = some (.cells #[.map (some mb)] 84) := heap_alloc_new _ _
  have hB3 : Below W1.heap.size W1 (W2.alloc (.cells #[.map (some mb)] 84)) := hb2.trans (hb3.mono hb2.size)
  have hBw : Below w.heap.size w (W2.alloc (.cells #[.map (some mb)] 84)) := hB1.trans (hB3.mono hB1.size)
  have hs3 : W1.heap.size ≤ (W2.alloc (.cells #[.map (some mb)] 84)).heap.size := hB3.size
  have hE := each_after (n := n) (ops := ops.take k) (keep := keep) (po := po) (co := co) (B := W1.heap.size) (w := W2.alloc (.cells #[.map (some mb)] 84)) (mb := mb) (lc := W2.heap.size) (kc := w.heap.size + 1) (c := holdCs noC l) (ka := ka) (kcap := kcap)
    (OpsIn.kept (w := W1) (fun h0 => (ho.take k).later hB1 h0) fun i hi => hB3.block i hi) hmb hs3 (hP2.later hb2.size hb3) hL3 ((hB3.block _ (by omega)).trans hK1) (hk.kept (Fr.ofBelow (T := fun _ => False) hBw) fun _ _ _ _ q => q) hokt hbn (by rw [List.length_take]; omega) hlk
  have etl : (ops.take k).length = k := by rw [List.length_take]; omega
  rw [etl] at hE
  have HOut : Hid (∀ w4 : World, PtrsAt W1.heap.size w4 mb (holdCs (holdCs noC l) (madeL keep (ops.take k))) → Fr (fun i => i = mb) (W2.alloc (.cells #[.map (some mb)] 84)) w4 →
      PtrsAt W1.heap.size w4 mb (afterC l (ops.take k) keep) ∧ Below w.heap.size w w4 ∧ W1.heap.size ≤ w4.heap.size ∧ w4.heap[w.heap.size + 2]? = some (.cells #[.int .i64 0, .slice none 0 0] 24) ∧ w4.heap[w.heap.size]? = some (.cells #[.int .i64 n, .slice p l.length cap] 24) ∧ w4.heap[W2.heap.size]? = some (.cells #[.map (some mb)] 84)) := fun w4 hP4 hF4 => by
    refine ⟨by unfold afterC; rw [holdCs_append]; exact hP4, hBw.trans (hF4.below (fun i hi => by omega) hBw.size), Nat.le_trans hs3 hF4.size, (hF4.block _ (by omega) (by omega)).trans ((hB3.block _ (by omega)).trans hR1), (hF4.block _ (by omega) (by omega)).trans ((hB3.block _ (by omega)).trans hI1), (hF4.block _ (by simp) (by omega)).trans hL3⟩
  have hsl := fun u => slice25 po ops.length co k (by omega) u
  clear hN h hP2 hb2 hb3 hB3 hBw hL3 hR1 hK1 hI1 hB1 hk ho hok hokt hcl hcr
  go_wp2_with (first | refine wpList_slice25 rfl (.tmp 21) (.tmp 22) rfl po ops.length co k (by omega) rfl rfl ?_ | (go_at_call 56; fail))
  refine hE.mono ?_
  rintro e W4 ⟨rfl, hP4, hF4⟩
  obtain ⟨p4, b4, s4, r4, i4, l4⟩ := HOut.out W4 hP4 hF4
  have j0 : W4.cell? ⟨w.heap.size, 0, none⟩ = some (.int .i64 n) := Joins.cell_of_block i4 0
  have j1 : W4.cell? ⟨W2.heap.size, 0, none⟩ = some (.map (some mb)) := Joins.cell_of_block l4 0
  have hIm := imageOf_of s4 p4 hbn HOkC.out
  have HB4 : Hid (Below w.heap.size w W4) := b4
  have HR4 : Hid (W4.heap[w.heap.size + 2]? = some (.cells #[.int .i64 0, .slice none 0 0] 24)) := r4
  clear hE HOut hP4 hF4 p4 b4 r4 i4 l4 hsl
  go_wp2_with (go_at_call 58; fail)
  refine hIm.mono ?_
  rintro e W5 ⟨g, l', rfl, hI5, hg5, hgl, hb5⟩
  have hR5 : W5.heap[w.heap.size + 2]? = some (.cells #[.int .i64 0, .slice none 0 0] 24) := (hb5.block _ (by omega)).trans HR4.out
  have hB5 : Below w.heap.size w W5 := HB4.out.trans (hb5.mono HB4.out.size)
  have cB0 : W5.cell? ⟨w.heap.size + 2, 0, none⟩ = some (.int .i64 0) := Joins.cell_of_block hR5 0
  have cB1 : W5.cell? ⟨w.heap.size + 2, 1, none⟩ = some (.slice none 0 0) := Joins.cell_of_block hR5 1
  have fB0 : W5.frozen? ⟨w.heap.size + 2, 0, none⟩ = false := Joins.unfrozen_of_block hR5 0
  have fB1 : W5.frozen? ⟨w.heap.size + 2, 1, none⟩ = false := Joins.unfrozen_of_block hR5 1
  have HI5 : Hid (IsImg n (afterC l (ops.take k) keep) l') := hI5
  have HG5 : Hid (W5.heap[g]? = some (.cells (celCells l').toArray 44)) := hg5
  have HB5 : Hid (Below w.heap.size w W5) := hB5
  have HR5 : Hid (W5.heap[w.heap.size + 2]? = some (.cells #[.int .i64 0, .slice none 0 0] 24)) := hR5
  clear hIm hI5 hg5 hb5 hR5 hB5 HB4 HR4 HOkC
  go_wp2
  have hrow := Joins.block_setCell (Joins.block_setCell HR5.out (i := 0) (.int .i64 n)) (i := 1) (.slice (some ⟨g, 0, none⟩) l'.length l'.length)
  refine retCT rfl (w.heap.size + 2) _ rfl (load24 _ _ _ hrow rfl) rfl ⟨g, l', rfl, HI5.out, ?_, by omega, ?_⟩
  · rw [Below.heap_setCell _ _ _ _ (by show g ≠ w.heap.size + 2; omega), Below.heap_setCell _ _ _ _ (by show g ≠ w.heap.size + 2; omega)]
    exact HG5.out
  · exact (HB5.out.setCell (by show w.heap.size ≤ w.heap.size + 2; omega) _).setCell (by show w.heap.size ≤ w.heap.size + 2; omega) _
end Go.Proofs.Ytbnbbelkddbndaa
