/- Image: the walk. -/
import Derived.Test.YtglcliokhlafoaaImage
namespace Go.Proofs.Ytglcliokhlafoaa
open Go.RowKit Go.Maps
variable {w : World} {L : Loc} {s : St}

theorem size32 : (Try.prog.info? 24).map (·.size) = some 2 := by kernel_rfl
theorem ret32 {fn : Func} {p : Tmp} {R : Ending → World → Prop} {a : Act} {w : World} (h : fn.results = #[.cell p 24]) (g : Nat) (cs : Array Value)
    (hp : a.tmps.getD p undef = .pointer (some ⟨g, 0, none⟩)) (hg : w.heap[g]? = some (.cells cs 24)) (hs : cs.size = 2) (hd : a.defers = []) (hR : R (.returned (.agg cs)) w) : bodyPost Try.prog fn R .ret a w :=
  bodyPost_ret (results_cell_row h a.tmps w g 24 cs (0, 0) _ hp hg Try.underlying24 rfl (by rw [hs]; exact size32)) hd hR
theorem take_cel {l : List Cel} {k : Nat} {c : Cel} {cur : Array Value} (hc : l[k]? = some c) (ht : cur.toList.take (k * 1025) = celCells (l.take k)) (hs : (k + 1) * 1025 ≤ cur.size) :
    (putCel cur (k * 1025) c).toList.take ((k + 1) * 1025) = celCells (l.take (k + 1)) := by
  have h0 : k * 1025 ≤ cur.size := Nat.le_trans (Nat.mul_le_mul_right _ (Nat.le_succ k)) hs
  have h1 : (cur.toList.take (k * 1025) ++ celRow c).length = (k + 1) * 1025 := by
    rw [List.length_append, List.length_take, celRow_len, Array.length_toList, Nat.min_eq_left h0, Nat.succ_mul]
  unfold putCel
  rw [List.toList_toArray, ← h1, List.take_left, ht, take_snoc hc, celCells_append, celCells_one]
theorem size_cel {off n : Nat} {c : Cel} {cur : Array Value} (hn : cur.size = n) (hs : off + 1025 ≤ n) : (putCel cur off c).size = n := by
  unfold putCel
  rw [List.size_toArray, List.length_append, List.length_append, List.length_take, List.length_drop, celRow_len, Array.length_toList, hn]
  omega
set_option maxRecDepth 20000 in
theorem image_none {v : Value} (h : NoneAt w v) : Calls Try.prog 17 #[v] w fun e w' => e = .returned (.agg #[.int .i64 0, .slice none 0 0]) ∧ Below w.heap.size w w' := by
  go_enter Try.func17, Try.ntmps17
  go_wp2_with (go_at_call 40; fail)
  have h' : NoneAt (w.alloc (.cells #[.int .i64 0, .slice none 0 0] 24)) v := by
    rcases h with h | ⟨g, h1, h2⟩
    · exact .inl h
    · refine .inr ⟨g, h1, ?_⟩
      have hlt : g < w.heap.size := by
        by_cases q : g < w.heap.size
        · exact q
        · unfold World.cell? at h2
          simp only [Array.getElem?_eq_none (show w.heap.size ≤ g by omega)] at h2
          simp at h2
      rw [World.cell?_alloc_past _ _ _ hlt]
      exact h2
  refine (none_yes h').mono ?_
  rintro e W ⟨rfl, rfl⟩
  go_wp2
  exact ret32 rfl w.heap.size _ rfl (heap_alloc_new _ _) rfl rfl ⟨rfl, below_new _ _⟩
set_option maxRecDepth 20000 in
set_option maxHeartbeats 1000000 in
theorem image_walk (h : DiskAt w L s) : Calls Try.prog 17 #[.pointer (some ⟨L.d, 0, none⟩)] w fun e w' => ∃ (g : Nat) (l : List Cel), e = .returned (.agg #[.int .i64 s.n, .slice (some ⟨g, 0, none⟩) l.length l.length]) ∧ IsImage s l ∧ w'.heap[g]? = some (.cells (celCells l).toArray 59) ∧ w.heap.size ≤ g ∧ Below w.heap.size w w' := by
  have h1 := h.later (below_new w (.cells #[.int .i64 0, .slice none 0 0] 24))
  have h0 := h1.c0
  have c2 := h1.c2
  have hlt := h.lt L.d (.inl rfl)
  obtain ⟨D, hown, hv⟩ := h1.held
  have hbl : L.hb < w.heap.size := h.lt L.hb (.inr (.inl rfl))
  have hsz : Maps.size D ≤ 1048576 := size_top Try.underlying3 hown keyed3 hv
  have hmk := fun u => run_make65c u (Maps.size D) (by omega)
  have HD : Hid (DiskAt w L s) := h
  clear h h1
  go_enter Try.func17, Try.ntmps17
  go_wp2_with (first | (go_at_call 40; refine (none_no h0).mono ?_; rintro e W ⟨rfl, he⟩; obtain rfl := he.symm) | (at_len; refine wpList_len_own _ rfl (.tmp 14) 87 rfl 3 46 Try.underlying87 valElem L.hb top D rfl hown ?_) | (at_range; refine wpList_range_own _ rfl (.tmp 20) 87 rfl 3 46 keyed3 Try.underlying87 _ L.hb top D rfl (hown.alloc _) ?_; intro w0 hrg0 hg0 hs0))
  have e1 : ((w.alloc (.cells #[.int .i64 0, .slice none 0 0] 24)).alloc (.cells (iRow nought (Maps.size D)) 3)).heap.size = w.heap.size + 2 := by simp
  rw [e1] at hrg0 hs0 ⊢
  go_frame
  have hB0 : Below w.heap.size w w0 := (((Below.refl _ _).alloc (Nat.le_refl _) _).alloc (by simp) _).grown hg0 (by simp; omega) (fun j hj => by cases hj)
  have hR0 : w0.heap[w.heap.size]? = some (.cells #[.int .i64 0, .slice none 0 0] 24) := by
    rw [hg0.block w.heap.size (by simp; omega) (by simp)]
    exact heap_kept (heap_alloc_new w _) (below_new _ _)
  have hO0 : w0.ownsRow (w.heap.size + 1) 3 1 (.slice (some ⟨w.heap.size + 1, 0, none⟩) 0 (Maps.size D)) 0 [] := by
    refine ⟨rfl, .inr ⟨w.heap.size + 1, Maps.size D, iRow nought (Maps.size D), rfl, Nat.le_refl _, ?_, Nat.zero_le _, by unfold maxLen; omega, by rw [iRow_size]; omega, by simp⟩⟩
    rw [hg0.block (w.heap.size + 1) (by simp) (by simp)]
    have q := heap_alloc_new (w.alloc (.cells #[.int .i64 0, .slice none 0 0] 24)) (.cells (iRow nought (Maps.size D)) 3)
    rw [show (w.alloc (.cells #[.int .i64 0, .slice none 0 0] 24)).heap.size = w.heap.size + 1 by simp] at q
    exact q
  have HB0 : Hid (Below w.heap.size w w0) := hB0
  have HR0 : Hid (w0.heap[w.heap.size]? = some (.cells #[.int .i64 0, .slice none 0 0] 24)) := hR0
  have HO0 : Hid (w0.ownsRow (w.heap.size + 1) 3 1 (.slice (some ⟨w.heap.size + 1, 0, none⟩) 0 (Maps.size D)) 0 []) := hO0
  have HV : Hid (Views D (heldV s)) := hv
  clear hB0 hR0 hO0 hg0 hs0 hmk hown h0 c2 hv e1
  obtain ⟨i0, hi0, hz0, hz1, hz2⟩ := info_parts info3b
  generalize hBB : w.heap.size = B at *
  go_loopw [3] (fun s3 wx => ∃ (left : Lit → Bool) (cnt : Nat) (zs : List Int) (g cap : Nat), wx.ranges Try.prog 3 valElem L.hb (B + 2) top D left cnt ∧ Hid (Col (heldV s) left zs) ∧ s3 = .slice (some ⟨g, 0, none⟩) zs.length cap ∧
      Hid (wx.ownsRow (B + 1) 3 1 (.slice (some ⟨g, 0, none⟩) zs.length cap) zs.length (zs.map (Value.int .i64))) ∧ g ≠ B + 2 ∧ Hid (wx.heap[B]? = some (.cells #[.int .i64 0, .slice none 0 0] 24)) ∧ Hid (Below B w wx)) (fun _ wx => wx.rangeLeft L.hb (B + 2))
  case atStart => exact ⟨_, _, [], B + 1, Maps.size D, hrg0, Col.start HV.out, rfl, HO0.out, by omega, HR0.out, HB0.out⟩
  case round =>
    obtain ⟨left, cnt, zs, g, cap, hrg, HC, rfl, HO, hgne, HR, HB⟩ := hrel
    clear HB0 HR0 HO0 hrg0
    go_wp2_with (at_next; refine wpList_next_ranges _ rfl (.tmp 21) rfl 3 keyed3 valElem (Value.int .i64) (fun v : Value => v) (fun key kl hk => by obtain ⟨x, hx, _⟩ := Maps.keyOf_int_inv Try.underlying3 hk; exact ⟨x, hx⟩) (fun v _ _ => ⟨v, rfl⟩) L.hb (B + 2) top _ _ _ rfl hrg ?_ ?_)
    · intro hc0 hl0
      have hmem := HC.out.done hl0
      have hmem' : ∀ x, x ∈ zs ↔ (s.held x).isSome = true := fun x => (hmem x).trans (by unfold heldV; cases s.held x <;> simp)
      have hI := image_of HD.out.ok zs HC.out.nodup hmem'
      have hzl : zs.length ≤ 1048576 := nodup_le 1048576 zs HC.out.nodup fun y hy => by
        cases hm : heldV s y with
        | none => have := (hmem y).1 hy; rw [hm] at this; cases this
        | some v => exact (HV.out.some y v hm).1
      have hgl := HO.out.lt g rfl
      have hcells : ∀ j, j < zs.length → wr.cell? ⟨g, 0 + j, none⟩ = some (.int .i64 (zs.getD j 0)) := fun j hj => by
        have q := HO.out.cells (g := g) rfl j (.int .i64 (zs.getD j 0)) (by rw [List.getElem?_map, List.getElem?_eq_getElem hj]; simp [List.getD, hj])
        rw [Go.WideShapes.add_plain] at q
        exact q
      have hfroz : ∀ j, j < zs.length → wr.frozen? ⟨g, 0 + j, none⟩ = false := fun j hj => by
        rcases HO.out.2 with ⟨h, _⟩ | ⟨g'', cap'', cur, h, _, hh, _⟩
        · cases h
        · injection h with h1 h2 h3
          injection h1 with h1
          injection h1 with h1
          rw [← h1] at hh
          exact Joins.unfrozen_of_block hh _
      have hS := sort_ints (cap := cap) zs hcells hfroz hgl.2 (by omega)
      have HI : Hid (IsImage s (withHeld s (sortL zs))) := hI
      have hsl : (sortL zs).length = zs.length := (List.mergeSort_perm _ _).length_eq
      have hsm : ∀ x, x ∈ sortL zs ↔ (s.held x).isSome = true := fun x => (List.mergeSort_perm zs _).mem_iff.trans (hmem' x)
      have HSM : Hid (∀ x, x ∈ sortL zs ↔ (s.held x).isSome = true) := hsm
      clear HC HO hrg hmem hmem' hI hcells hfroz hl0 hc0 hsm HV
      go_wp2_with (go_at_call 47; fail)
      refine hS.mono ?_
      rintro e W2 ⟨rfl, hcs, hF2⟩
      have hD2 : DiskAt W2 L s := HD.out.kept fun k hk => by
        have hk2 := HD.out.lt k hk
        rw [hBB] at hk2
        have q := HB.out.block k hk2
        exact (hF2.block k (by have := HB.out.size; omega) (by omega)).trans q
      have hB2 : Below B w W2 := ⟨hF2.os.trans HB.out.os, hF2.tape.trans HB.out.tape, hF2.output.trans HB.out.output, Nat.le_trans HB.out.size hF2.size, fun k hk => (hF2.block k (by have := HB.out.size; omega) (by omega)).trans (HB.out.block k hk)⟩
      have hR2 : W2.heap[B]? = some (.cells #[.int .i64 0, .slice none 0 0] 24) := (hF2.block B (Array.getElem?_eq_some_iff.1 HR.out).1 (by omega)).trans HR.out
      have hg2 : g < W2.heap.size := Nat.lt_of_lt_of_le hgl.2 hF2.size
      clear hS HB HR hF2 HD
      obtain ⟨cur, hcz, hmk⟩ := run_make30 W2 zs.length (by omega)
      have HC0 : Hid (∀ j, j < zs.length → W2.cell? ⟨g, j, none⟩ = some (.int .i64 ((sortL zs).getD j 0))) := hcs
      have HD2 : Hid (DiskAt W2 L s) := hD2
      have HB2 : Hid (Below B w W2) := hB2
      have HR2 : Hid (W2.heap[B]? = some (.cells #[.int .i64 0, .slice none 0 0] 24)) := hR2
      have hdlt : L.d < W2.heap.size := hD2.lt L.d (.inl rfl)
      have hBlt : B < W2.heap.size := (Array.getElem?_eq_some_iff.1 hR2).1
      clear hcs hD2 hB2 hR2
      go_wp2
      have HN : Hid ((W2.alloc (.cells cur 59)).heap[W2.heap.size]? = some (.cells cur 59)) := heap_alloc_new W2 _
      have HBn : Hid (Below W2.heap.size W2 (W2.alloc (.cells cur 59))) := below_new W2 _
      clear hmk
      generalize W2.alloc (.cells cur 59) = W3 at *
      generalize hG : W2.heap.size = G at *
      generalize hm : zs.length = m at *
      generalize hys : sortL zs = ys at *
      go_loopw [37] (fun s37 wx => ∃ (k : Nat) (cur : Array Value), k ≤ m ∧ s37 = .int .i64 k ∧ Hid (wx.heap[G]? = some (.cells cur 59) ∧ cur.size = m * 1025 ∧ cur.toList.take (k * 1025) = celCells ((withHeld s ys).take k)) ∧ Hid (Below G W2 wx)) (fun s37 _ => m - (intOf s37).toNat)
      case atStart => exact ⟨0, cur, by omega, rfl, ⟨HN.out, hcz, by rw [Nat.zero_mul, List.take_zero, List.take_zero]; rfl⟩, HBn.out⟩
      case round =>
        obtain ⟨k, cu, hk, rfl, HC, HB⟩ := hrel
        clear HN HBn
        by_cases hk2 : (k : Int) < m
        · have hky : k < ys.length := by omega
          have hy : ys[k]? = some ys[k] := List.getElem?_eq_getElem hky
          have hyd : ys.getD k 0 = ys[k] := by simp [List.getD, hky]
          have hca := HC0.out k (by omega)
          rw [hyd] at hca
          have hmy : ys[k] ∈ ys := List.getElem_mem hky
          generalize ys[k] = y at *
          have hsome := (HSM.out y).1 hmy
          obtain ⟨f, hf⟩ := Option.isSome_iff_exists.1 hsome
          have hin := inTop_of HD2.out.ok (HD2.out.ok.held y f hf).1
          have hW := inTop.wf hin
          have hcl : (withHeld s ys)[k]? = some (y, f) := by unfold withHeld; rw [List.getElem?_map, hy]; simp [hf]
          have hca' : wr.cell? ⟨g, k, none⟩ = some (.int .i64 y) := (HB.out.cell (p := ⟨g, k, none⟩) (by show g < G; omega)).trans hca
          have hDr := HD2.out.kept (w' := wr) fun k hk => HB.out.block k (by have := HD2.out.lt k hk; omega)
          have c2 := hDr.c2
          have hHeld := hDr.held
          have hhv : heldV s y = some (.agg (blk f)) := by unfold heldV; simp only [hf, Option.map]
          obtain ⟨hn1, hn2, hn3⟩ := HC.out
          have hfit : (k + 1) * 1025 ≤ m * 1025 := Nat.mul_le_mul_right _ (by omega)
          have hfit2 : k * 1025 + 1025 ≤ cu.size := by rw [hn2, ← Nat.succ_mul]; exact hfit
          have HC2 : Hid ((wr.setRow G (putCel cu (k * 1025) (y, f))).heap[G]? = some (.cells (putCel cu (k * 1025) (y, f)) 59) ∧ (putCel cu (k * 1025) (y, f)).size = m * 1025 ∧ (putCel cu (k * 1025) (y, f)).toList.take ((k + 1) * 1025) = celCells ((withHeld s ys).take (k + 1))) :=
            ⟨setRow_heap _ _ _ _ _ _ hn1, size_cel hn2 (by rw [← hn2]; exact hfit2), take_cel hcl hn3 (by rw [hn2]; exact hfit)⟩
          have HB3 : Hid (Below G W2 (wr.setRow G (putCel cu (k * 1025) (y, f)))) := below_setRow HB.out (Nat.le_refl _) _
          have z25 := zero25
          clear hn2 hn3 HC HB hfit hDr hcl hca hmy hsome hf hy hyd
          generalize nought = N at *
          go_wp2_with (first | refine wpList_lookM1 rfl (.tmp 48) (.tmp 49) 87 rfl 46 Try.underlying3 keyed3 Try.underlying87 rfl hHeld (z25 _) y hW rfl _ hhv ?_ | refine wpList_build85 rfl (.tmp 44) (.tmp 50) rfl y f rfl rfl ?_ | refine wpList_store85 rfl (.tmp 52) (.tmp 51) rfl G (k * 1025) (y, f) rfl rfl cu hn1 hfit2 ?_)
          exact ⟨⟨k + 1, _, by omega, by go_num, HC2.out, HB3.out⟩, by simp [intOf]; omega⟩
        · obtain rfl : k = m := by omega
          have hfin : (wr.heap[G]? = some (.cells (celCells (withHeld s ys)).toArray 59)) := by
            obtain ⟨hn1, hn2, hn3⟩ := HC.out
            have hl : (withHeld s ys).length = k := by unfold withHeld; rw [List.length_map]; omega
            rw [← hn2, ← Array.length_toList, List.take_length, ← hl, List.take_length] at hn3
            rw [hn1, ← hn3, Array.toArray_toList]
          have hDr := HD2.out.kept (w' := wr) fun k hk => HB.out.block k (by have := HD2.out.lt k hk; omega)
          have c1 := hDr.c1
          have hRr : wr.heap[B]? = some (.cells #[.int .i64 0, .slice none 0 0] 24) := (HB.out.block B hBlt).trans HR2.out
          have cB0 : wr.cell? ⟨B, 0, none⟩ = some (.int .i64 0) := Joins.cell_of_block hRr 0
          have cB1 : wr.cell? ⟨B, 1, none⟩ = some (.slice none 0 0) := Joins.cell_of_block hRr 1
          have fB0 : wr.frozen? ⟨B, 0, none⟩ = false := Joins.unfrozen_of_block hRr 0
          have fB1 : wr.frozen? ⟨B, 1, none⟩ = false := Joins.unfrozen_of_block hRr 1
          have hl : (withHeld s ys).length = k := by unfold withHeld; rw [List.length_map]; omega
          have HFin : Hid (wr.heap[G]? = some (.cells (celCells (withHeld s ys)).toArray 59)) := hfin
          have HRr : Hid (wr.heap[B]? = some (.cells #[.int .i64 0, .slice none 0 0] 24)) := hRr
          clear hfin hDr HC hRr
          go_wp2
          have hrow := Joins.block_setCell (Joins.block_setCell HRr.out (i := 0) (.int .i64 s.n)) (i := 1) (.slice (some ⟨G, 0, none⟩) k k)
          refine ret32 rfl B _ rfl hrow rfl rfl ⟨G, withHeld s ys, by rw [hl]; rfl, HI.out, ?_, by omega, ?_⟩
          · rw [Below.heap_setCell _ _ _ _ (by show G ≠ B; omega), Below.heap_setCell _ _ _ _ (by show G ≠ B; omega)]
            exact HFin.out
          · exact ((HB2.out.trans (HB.out.mono (by omega))).setCell (Nat.le_refl _) _).setCell (Nat.le_refl _) _
    · intro x c kl yd yp w1 cnt1 hkey hlk hval hat hrg1 hlt1 hg1 hs1 hen
      obtain ⟨x', ex, rfl, hwx⟩ := Maps.keyOf_int_inv Try.underlying3 hkey
      obtain rfl : x = x' := by injection ex
      obtain ⟨hC1, hsome⟩ := HC.out.step HV.out hlk hat
      have hlen : zs.length + 1 ≤ 1048576 := by
        have q := nodup_le 1048576 (zs ++ [x]) hC1.nodup fun y hy => by
          have q1 := ((hC1.mem y).1 hy).1
          cases hm : heldV s y with
          | none => rw [hm] at q1; cases q1
          | some v => exact (HV.out.some y v hm).1
        simpa using q
      have HC1 : Hid (Col (heldV s) (fun z => left z && !z.sameKey (.int .i64 x)) (zs ++ [x])) := hC1
      have hgl := (HO.out.lt g rfl).1
      have hown1 := HO.out.kept hg1 (.inr (by simp only [Value.ownBlock]; exact fun q => hgne (by injection q)))
      have hR1 : w1.heap[B]? = some (.cells #[.int .i64 0, .slice none 0 0] 24) := (hg1.block B (Array.getElem?_eq_some_iff.1 HR.out).1 (fun q => by injection q with q; omega)).trans HR.out
      have hB1 : Below B w w1 := HB.out.grown hg1 (by rw [← hBB]; exact HB.out.size |> fun q => by rw [← hBB] at *; exact q) (fun j hj => by cases hj; omega)
      have hBs : B ≤ wr.heap.size := by have := HB.out.size; omega
      have hBs1 : B + 2 < w1.heap.size := hrg1.lt
      clear hs1 hC1 HC HO HR HB hkey hval hat hsome
      have HRG : Hid (w1.ranges Try.prog 3 valElem L.hb (B + 2) top D (fun z => left z && !z.sameKey (.int .i64 x)) cnt1) := hrg1
      have HLE : Hid (wr.rangeLeft L.hb (B + 2) = cnt) := hrg.left_eq
      clear hrg1 hrg hg1
      go_wp2_with (at_builtin; refine wpList_append_own_at _ rfl (.tmp 26) (.tmp 28) 40 rfl (B + 1) 3 i0 (.int .i64 0) 1 8 Try.underlying40 hi0 hz0 hz1 hz2 rfl (by decide) (.slice (some ⟨g, 0, none⟩) zs.length cap) zs.length _ rfl (hown1.alloc _) ⟨w1.heap.size, 0, none⟩ 1 1 [.int .i64 x] rfl rfl (cell_one_new _ _ _) (ints_oneCell .i64 [x]) (by unfold maxLen; omega) (by omega) (by simp; omega) ?_; intro v' w2 hown2 hg2 hnil hloc)
      obtain ⟨g', cap', rfl⟩ : ∃ g' cap', v' = .slice (some ⟨g', 0, none⟩) (zs.length + 1) cap' := by
        rcases hown2.2 with ⟨_, h⟩ | ⟨g', cap', _, h, _⟩
        · omega
        · exact ⟨g', cap', h⟩
      have hg2' : (w1.alloc (.cells #[.int .i64 x] 3)).grownBy w2 (some g) := hg2
      have hrg2 := (HRG.out.alloc (.cells #[.int .i64 x] 3)).kept hg2' (fun q => by injection q with q; omega) (fun q => by injection q with q; omega)
      have hg'ne : g' ≠ B + 2 := by
        rcases hloc with q | q
        · have q' : some g' = some g := q
          injection q' with q'
          omega
        · have q' : some g' = some (w1.alloc (.cells #[.int .i64 x] 3)).heap.size := q
          injection q' with q'
          simp at q'
          omega
      have hl1 : (zs ++ [x]).length = zs.length + 1 := by simp
      refine ⟨⟨_, cnt1, zs ++ [x], g', cap', hrg2, HC1.out, by rw [hl1], ?_, hg'ne, ?_, ?_⟩, ?_⟩
      · rw [hl1, List.map_append]
        exact hown2
      · exact (hg2'.block B (by simp; omega) (fun q => by injection q with q; omega)).trans (heap_kept hR1 (below_new _ _))
      · exact ((hB1.alloc (by have := hB1.size; omega) _).grown hg2' (by simp; omega) (fun j hj => by cases hj; omega))
      · rw [hrg2.left_eq, HLE.out]
        exact hlt1
end Go.Proofs.Ytglcliokhlafoaa
