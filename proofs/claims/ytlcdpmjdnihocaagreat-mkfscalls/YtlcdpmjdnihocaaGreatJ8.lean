/- Several texts joined, each with its own remark; no condition. -/
import Derived.Test.YtlcdpmjdnihocaaGreatJ7
/- Image: the walk. -/
namespace Go.Proofs.YtlcdpmjdnihocaaGreatD
open Go.RowKit Go.Maps
variable {w : World} {L : Loc} {s : St}

theorem size32 : (Tryz.prog.info? 24).map (·.size) = some 2 := by kernel_rfl
theorem ret32 {fn : Func} {p : Tmp} {R : Ending → World → Prop} {a : Act} {w : World} (h : fn.results = #[.cell p 24]) (g : Nat) (cs : Array Value)
    (hp : a.tmps.getD p undef = .pointer (some ⟨g, 0, none⟩)) (hg : w.heap[g]? = some (.cells cs 24)) (hs : cs.size = 2) (hd : a.defers = []) (hR : R (.returned (.agg cs)) w) : bodyPost Tryz.prog fn R .ret a w :=
  bodyPost_ret (results_cell_row h a.tmps w g 24 cs (0, 0) _ hp hg Tryz.underlying24 rfl (by rw [hs]; exact size32)) hd hR
theorem take_cel {l : List Cel} {k : Nat} {c : Cel} {cur : Array Value} (hc : l[k]? = some c) (ht : cur.toList.take (k * 1025) = celCells (l.take k)) (hs : (k + 1) * 1025 ≤ cur.size) :
    (putCel cur (k * 1025) c).toList.take ((k + 1) * 1025) = celCells (l.take (k + 1)) := by
  have h0 : k * 1025 ≤ cur.size := Nat.le_trans (Nat.mul_le_mul_right _ (Nat.le_succ k)) hs
  have h1 : (cur.toList.take (k * 1025) ++ celRow c).length = (k + 1) * 1025 := by
    rw [List.length_append, List.length_take, celRow_len, Array.length_toList, Nat.min_eq_left h0, Nat.succ_mul]
  unfold putCel
  rw [List.toList_toArray, ← h1, List.take_left, ht, take_snoc hc, celCells_append, celCells_one]
theorem size_cel {off n : Nat} {c : Cel} {cur : Array Value} (hn : cur.size = n) (hs : off + 1025 ≤ n) : (putCel cur off c).size = n := by
  unfold putCel
  rw [List.size_toArray, List.length_append, List.length_append, List.length_take, List.length_drop, celRow_len, Array.length_toList, hn]
  omega
set_option maxRecDepth 20000 in
theorem image_none {v : Value} (h : NoneAt w v) : Calls Tryz.prog 21 #[v] w fun e w' => e = .returned (.agg #[.int .i64 0, .slice none 0 0]) ∧ Below w.heap.size w w' := by
  go_enter Tryz.func21, Tryz.ntmps21
  go_wp2_with (go_at_call 37; fail)
  have h' : NoneAt (w.alloc (.cells #[.int .i64 0, .slice none 0 0] 24)) v := by
    rcases h with h | ⟨g, h1, h2⟩
    · exact .inl h
    · refine .inr ⟨g, h1, ?_⟩
      have hlt : g < w.heap.size := by
        by_cases q : g < w.heap.size
        · exact q
        · unfold World.cell? at h2
          simp only [Array.getElem?_eq_none (show w.heap.size ≤ g by omega)] at h2
          simp at h2
      rw [World.cell?_alloc_past _ _ _ hlt]
      exact h2
  refine (none_yes h').mono ?_
  rintro e W ⟨rfl, rfl⟩
  go_wp2
  exact ret32 rfl w.heap.size _ rfl (heap_alloc_new _ _) rfl rfl ⟨rfl, below_new _ _⟩
set_option maxRecDepth 20000 in
set_option maxHeartbeats 1000000 in
theorem image_walk (h : DiskAt w L s) : Calls Tryz.prog 21 #[.pointer (some ⟨L.d, 0, none⟩)] w fun e w' => ∃ (g : Nat) (l : List Cel), e = .returned (.agg #[.int .i64 s.n, .slice (some ⟨g, 0, none⟩) l.length l.length]) ∧ IsImage s l ∧ w'.heap[g]? = some (.cells (celCells l).toArray 81) ∧ w.heap.size ≤ g ∧ Below w.heap.size w w' := by
  have h1 := h.later (below_new w (.cells #[.int .i64 0, .slice none 0 0] 24))
  have h0 := h1.c0
  have c2 := h1.c2
  have hlt := h.lt L.d (.inl rfl)
  obtain ⟨D, hown, hv⟩ := h1.held
  have hbl : L.hb < w.heap.size := h.lt L.hb (.inr (.inl rfl))
  have hsz : Maps.size D ≤ 1048576 := size_top Tryz.underlying3 hown keyed3 hv
  have hmk := fun u => run_make65c u (Maps.size D) (by omega)
  have HD : Hid (DiskAt w L s) := h
  clear h h1
  go_enter Tryz.func21, Tryz.ntmps21
  go_wp2_with (first | (go_at_call 37; refine (none_no h0).mono ?_; rintro e W ⟨rfl, he⟩; obtain rfl := he.symm) | (at_len; refine wpList_len_own _ rfl (.tmp 14) 46 rfl 3 79 Tryz.underlying46 valElem L.hb top D rfl hown ?_) | (at_range; refine wpList_range_own _ rfl (.tmp 20) 46 rfl 3 79 keyed3 Tryz.underlying46 _ L.hb top D rfl (hown.alloc _) ?_; intro w0 hrg0 hg0 hs0))
  have e1 : ((w.alloc (.cells #[.int .i64 0, .slice none 0 0] 24)).alloc (.cells (iRow nought (Maps.size D)) 3)).heap.size = w.heap.size + 2 := by simp
  rw [e1] at hrg0 hs0 ⊢
  go_frame
  have hB0 : Below w.heap.size w w0 := (((Below.refl _ _).alloc (Nat.le_refl _) _).alloc (by simp) _).grown hg0 (by simp; omega) (fun j hj => by cases hj)
  have hR0 : w0.heap[w.heap.size]? = some (.cells #[.int .i64 0, .slice none 0 0] 24) := by
    rw [hg0.block w.heap.size (by simp; omega) (by simp)]
    exact heap_kept (heap_alloc_new w _) (below_new _ _)
  have hO0 : w0.ownsRow (w.heap.size + 1) 3 1 (.slice (some ⟨w.heap.size + 1, 0, none⟩) 0 (Maps.size D)) 0 [] := by
    refine ⟨rfl, .inr ⟨w.heap.size + 1, Maps.size D, iRow nought (Maps.size D), rfl, Nat.le_refl _, ?_, Nat.zero_le _, by unfold maxLen; omega, by rw [iRow_size]; omega, by simp⟩⟩
    rw [hg0.block (w.heap.size + 1) (by simp) (by simp)]
    have q := heap_alloc_new (w.alloc (.cells #[.int .i64 0, .slice none 0 0] 24)) (.cells (iRow nought (Maps.size D)) 3)
    rw [show (w.alloc (.cells #[.int .i64 0, .slice none 0 0] 24)).heap.size = w.heap.size + 1 by simp] at q
    exact q
  have HB0 : Hid (Below w.heap.size w w0) := hB0
  have HR0 : Hid (w0.heap[w.heap.size]? = some (.cells #[.int .i64 0, .slice none 0 0] 24)) := hR0
  have HO0 : Hid (w0.ownsRow (w.heap.size + 1) 3 1 (.slice (some ⟨w.heap.size + 1, 0, none⟩) 0 (Maps.size D)) 0 []) := hO0
  have HV : Hid (Views D (heldV s)) := hv
  clear hB0 hR0 hO0 hg0 hs0 hmk hown h0 c2 hv e1
  obtain ⟨i0, hi0, hz0, hz1, hz2⟩ := info_parts info3b
  generalize hBB : w.heap.size = B at *
  go_loopw [3] (fun s3 wx => ∃ (left : Lit → Bool) (cnt : Nat) (zs : List Int) (g cap : Nat), wx.ranges Tryz.prog 3 valElem L.hb (B + 2) top D left cnt ∧ Hid (Col (heldV s) left zs) ∧ s3 = .slice (some ⟨g, 0, none⟩) zs.length cap ∧
      Hid (wx.ownsRow (B + 1) 3 1 (.slice (some ⟨g, 0, none⟩) zs.length cap) zs.length (zs.map (Value.int .i64))) ∧ g ≠ B + 2 ∧ Hid (wx.heap[B]? = some (.cells #[.int .i64 0, .slice none 0 0] 24)) ∧ Hid (Below B w wx)) (fun _ wx => wx.rangeLeft L.hb (B + 2))
  case atStart => exact ⟨_, _, [], B + 1, Maps.size D, hrg0, Col.start HV.out, rfl, HO0.out, by omega, HR0.out, HB0.out⟩
  case round =>
    obtain ⟨left, cnt, zs, g, cap, hrg, HC, rfl, HO, hgne, HR, HB⟩ := hrel
    clear HB0 HR0 HO0 hrg0
    go_wp2_with (at_next; refine wpList_next_ranges _ rfl (.tmp 21) rfl 3 keyed3 valElem (Value.int .i64) (fun v : Value => v) (fun key kl hk => by obtain ⟨x, hx, _⟩ := Maps.keyOf_int_inv Tryz.underlying3 hk; exact ⟨x, hx⟩) (fun v _ _ => ⟨v, rfl⟩) L.hb (B + 2) top _ _ _ rfl hrg ?_ ?_)
    · intro hc0 hl0
      have hmem := HC.out.done hl0
      have hmem' : ∀ x, x ∈ zs ↔ (s.held x).isSome = true := fun x => (hmem x).trans (by unfold heldV; cases s.held x <;> simp)
      have hI := image_of HD.out.ok zs HC.out.nodup hmem'
      have hzl : zs.length ≤ 1048576 := nodup_le 1048576 zs HC.out.nodup fun y hy => by
        cases hm : heldV s y with
        | none => have := (hmem y).1 hy; rw [hm] at this; cases this
        | some v => exact (HV.out.some y v hm).1
      have hgl := HO.out.lt g rfl
      have hcells : ∀ j, j < zs.length → wr.cell? ⟨g, 0 + j, none⟩ = some (.int .i64 (zs.getD j 0)) := fun j hj => by
        have q := HO.out.cells (g := g) rfl j (.int .i64 (zs.getD j 0)) (by rw [List.getElem?_map, List.getElem?_eq_getElem hj]; simp [List.getD, hj])
        rw [Go.WideShapes.add_plain] at q
        exact q
      have hfroz : ∀ j, j < zs.length → wr.frozen? ⟨g, 0 + j, none⟩ = false := fun j hj => by
        rcases HO.out.2 with ⟨h, _⟩ | ⟨g'', cap'', cur, h, _, hh, _⟩
        · cases h
        · injection h with h1 h2 h3
          injection h1 with h1
          injection h1 with h1
          rw [← h1] at hh
          exact Joins.unfrozen_of_block hh _
      have hS := sort_ints (cap := cap) zs hcells hfroz hgl.2 (by omega)
      have HI : Hid (IsImage s (withHeld s (sortL zs))) := hI
      have hsl : (sortL zs).length = zs.length := (List.mergeSort_perm _ _).length_eq
      have hsm : ∀ x, x ∈ sortL zs ↔ (s.held x).isSome = true := fun x => (List.mergeSort_perm zs _).mem_iff.trans (hmem' x)
      have HSM : Hid (∀ x, x ∈ sortL zs ↔ (s.held x).isSome = true) := hsm
      clear HC HO hrg hmem hmem' hI hcells hfroz hl0 hc0 hsm HV
      go_wp2_with (go_at_call 49; fail)
      refine hS.mono ?_
      rintro e W2 ⟨rfl, hcs, hF2⟩
      have hD2 : DiskAt W2 L s := HD.out.kept fun k hk => by
        have hk2 := HD.out.lt k hk
        rw [hBB] at hk2
        have q := HB.out.block k hk2
        exact (hF2.block k (by have := HB.out.size; omega) (by omega)).trans q
      have hB2 : Below B w W2 := ⟨hF2.os.trans HB.out.os, hF2.tape.trans HB.out.tape, hF2.output.trans HB.out.output, Nat.le_trans HB.out.size hF2.size, fun k hk => (hF2.block k (by have := HB.out.size; omega) (by omega)).trans (HB.out.block k hk)⟩
      have hR2 : W2.heap[B]? = some (.cells #[.int .i64 0, .slice none 0 0] 24) := (hF2.block B (Array.getElem?_eq_some_iff.1 HR.out).1 (by omega)).trans HR.out
      have hg2 : g < W2.heap.size := Nat.lt_of_lt_of_le hgl.2 hF2.size
      clear hS HB HR hF2 HD
      obtain ⟨cur, hcz, hmk⟩ := run_make30 W2 zs.length (by omega)
      have HC0 : Hid (∀ j, j < zs.length → W2.cell? ⟨g, j, none⟩ = some (.int .i64 ((sortL zs).getD j 0))) := hcs
      have HD2 : Hid (DiskAt W2 L s) := hD2
      have HB2 : Hid (Below B w W2) := hB2
      have HR2 : Hid (W2.heap[B]? = some (.cells #[.int .i64 0, .slice none 0 0] 24)) := hR2
      have hdlt : L.d < W2.heap.size := hD2.lt L.d (.inl rfl)
      have hBlt : B < W2.heap.size := (Array.getElem?_eq_some_iff.1 hR2).1
      clear hcs hD2 hB2 hR2
      go_wp2
      have HN : Hid ((W2.alloc (.cells cur 81)).heap[W2.heap.size]? = some (.cells cur 81)) := heap_alloc_new W2 _
      have HBn : Hid (Below W2.heap.size W2 (W2.alloc (.cells cur 81))) := below_new W2 _
      clear hmk
      generalize W2.alloc (.cells cur 81) = W3 at *
      generalize hG : W2.heap.size = G at *
      generalize hm : zs.length = m at *
      generalize hys : sortL zs = ys at *
      go_loopw [37] (fun s37 wx => ∃ (k : Nat) (cur : Array Value), k ≤ m ∧ s37 = .int .i64 k ∧ Hid (wx.heap[G]? = some (.cells cur 81) ∧ cur.size = m * 1025 ∧ cur.toList.take (k * 1025) = celCells ((withHeld s ys).take k)) ∧ Hid (Below G W2 wx)) (fun s37 _ => m - (intOf s37).toNat)
      case atStart => exact ⟨0, cur, by omega, rfl, ⟨HN.out, hcz, by rw [Nat.zero_mul, List.take_zero, List.take_zero]; rfl⟩, HBn.out⟩
      case round =>
        obtain ⟨k, cu, hk, rfl, HC, HB⟩ := hrel
        clear HN HBn
        by_cases hk2 : (k : Int) < m
        · have hky : k < ys.length := by omega
          have hy : ys[k]? = some ys[k] := List.getElem?_eq_getElem hky
          have hyd : ys.getD k 0 = ys[k] := by simp [List.getD, hky]
          have hca := HC0.out k (by omega)
          rw [hyd] at hca
          have hmy : ys[k] ∈ ys := List.getElem_mem hky
          generalize ys[k] = y at *
          have hsome := (HSM.out y).1 hmy
          obtain ⟨f, hf⟩ := Option.isSome_iff_exists.1 hsome
          have hin := inTop_of HD2.out.ok (HD2.out.ok.held y f hf).1
          have hW := inTop.wf hin
          have hcl : (withHeld s ys)[k]? = some (y, f) := by unfold withHeld; rw [List.getElem?_map, hy]; simp [hf]
          have hca' : wr.cell? ⟨g, k, none⟩ = some (.int .i64 y) := (HB.out.cell (p := ⟨g, k, none⟩) (by show g < G; omega)).trans hca
          have hDr := HD2.out.kept (w' := wr) fun k hk => HB.out.block k (by have := HD2.out.lt k hk; omega)
          have c2 := hDr.c2
          have hHeld := hDr.held
          have hhv : heldV s y = some (.agg (blk f)) := by unfold heldV; simp only [hf, Option.map]
          obtain ⟨hn1, hn2, hn3⟩ := HC.out
          have hfit : (k + 1) * 1025 ≤ m * 1025 := Nat.mul_le_mul_right _ (by omega)
          have hfit2 : k * 1025 + 1025 ≤ cu.size := by rw [hn2, ← Nat.succ_mul]; exact hfit
          have HC2 : Hid ((wr.setRow G (putCel cu (k * 1025) (y, f))).heap[G]? = some (.cells (putCel cu (k * 1025) (y, f)) 81) ∧ (putCel cu (k * 1025) (y, f)).size = m * 1025 ∧ (putCel cu (k * 1025) (y, f)).toList.take ((k + 1) * 1025) = celCells ((withHeld s ys).take (k + 1))) :=
            ⟨setRow_heap _ _ _ _ _ _ hn1, size_cel hn2 (by rw [← hn2]; exact hfit2), take_cel hcl hn3 (by rw [hn2]; exact hfit)⟩
          have HB3 : Hid (Below G W2 (wr.setRow G (putCel cu (k * 1025) (y, f)))) := below_setRow HB.out (Nat.le_refl _) _
          have z25 := zero25
          clear hn2 hn3 HC HB hfit hDr hcl hca hmy hsome hf hy hyd
          generalize nought = N at *
          go_wp2_with (first | refine wpList_lookM1 rfl (.tmp 48) (.tmp 49) 46 rfl 79 Tryz.underlying3 keyed3 Tryz.underlying46 rfl hHeld (z25 _) y hW rfl _ hhv ?_ | refine wpList_build85 rfl (.tmp 44) (.tmp 50) rfl y f rfl rfl ?_ | refine wpList_store85 rfl (.tmp 52) (.tmp 51) rfl G (k * 1025) (y, f) rfl rfl cu hn1 hfit2 ?_)
          exact ⟨⟨k + 1, _, by omega, by go_num, HC2.out, HB3.out⟩, by simp [intOf]; omega⟩
        · obtain rfl : k = m := by omega
          have hfin : (wr.heap[G]? = some (.cells (celCells (withHeld s ys)).toArray 81)) := by
            obtain ⟨hn1, hn2, hn3⟩ := HC.out
            have hl : (withHeld s ys).length = k := by unfold withHeld; rw [List.length_map]; omega
            rw [← hn2, ← Array.length_toList, List.take_length, ← hl, List.take_length] at hn3
            rw [hn1, ← hn3, Array.toArray_toList]
          have hDr := HD2.out.kept (w' := wr) fun k hk => HB.out.block k (by have := HD2.out.lt k hk; omega)
          have c1 := hDr.c1
          have hRr : wr.heap[B]? = some (.cells #[.int .i64 0, .slice none 0 0] 24) := (HB.out.block B hBlt).trans HR2.out
          have cB0 : wr.cell? ⟨B, 0, none⟩ = some (.int .i64 0) := Joins.cell_of_block hRr 0
          have cB1 : wr.cell? ⟨B, 1, none⟩ = some (.slice none 0 0) := Joins.cell_of_block hRr 1
          have fB0 : wr.frozen? ⟨B, 0, none⟩ = false := Joins.unfrozen_of_block hRr 0
          have fB1 : wr.frozen? ⟨B, 1, none⟩ = false := Joins.unfrozen_of_block hRr 1
          have hl : (withHeld s ys).length = k := by unfold withHeld; rw [List.length_map]; omega
          have HFin : Hid (wr.heap[G]? = some (.cells (celCells (withHeld s ys)).toArray 81)) := hfin
          have HRr : Hid (wr.heap[B]? = some (.cells #[.int .i64 0, .slice none 0 0] 24)) := hRr
          clear hfin hDr HC hRr
          go_wp2
          have hrow := Joins.block_setCell (Joins.block_setCell HRr.out (i := 0) (.int .i64 s.n)) (i := 1) (.slice (some ⟨G, 0, none⟩) k k)
          refine ret32 rfl B _ rfl hrow rfl rfl ⟨G, withHeld s ys, by rw [hl]; rfl, HI.out, ?_, by omega, ?_⟩
          · rw [Below.heap_setCell _ _ _ _ (by show G ≠ B; omega), Below.heap_setCell _ _ _ _ (by show G ≠ B; omega)]
            exact HFin.out
          · exact ((HB2.out.trans (HB.out.mono (by omega))).setCell (Nat.le_refl _) _).setCell (Nat.le_refl _) _
    · intro x c kl yd yp w1 cnt1 hkey hlk hval hat hrg1 hlt1 hg1 hs1 hen
      obtain ⟨x', ex, rfl, hwx⟩ := Maps.keyOf_int_inv Tryz.underlying3 hkey
      obtain rfl : x = x' := by injection ex
      obtain ⟨hC1, hsome⟩ := HC.out.step HV.out hlk hat
      have hlen : zs.length + 1 ≤ 1048576 := by
        have q := nodup_le 1048576 (zs ++ [x]) hC1.nodup fun y hy => by
          have q1 := ((hC1.mem y).1 hy).1
          cases hm : heldV s y with
          | none => rw [hm] at q1; cases q1
          | some v => exact (HV.out.some y v hm).1
        simpa using q
      have HC1 : Hid (Col (heldV s) (fun z => left z && !z.sameKey (.int .i64 x)) (zs ++ [x])) := hC1
      have hgl := (HO.out.lt g rfl).1
      have hown1 := HO.out.kept hg1 (.inr (by simp only [Value.ownBlock]; exact fun q => hgne (by injection q)))
      have hR1 : w1.heap[B]? = some (.cells #[.int .i64 0, .slice none 0 0] 24) := (hg1.block B (Array.getElem?_eq_some_iff.1 HR.out).1 (fun q => by injection q with q; omega)).trans HR.out
      have hB1 : Below B w w1 := HB.out.grown hg1 (by rw [← hBB]; exact HB.out.size |> fun q => by rw [← hBB] at *; exact q) (fun j hj => by cases hj; omega)
      have hBs : B ≤ wr.heap.size := by have := HB.out.size; omega
      have hBs1 : B + 2 < w1.heap.size := hrg1.lt
      clear hs1 hC1 HC HO HR HB hkey hval hat hsome
      have HRG : Hid (w1.ranges Tryz.prog 3 valElem L.hb (B + 2) top D (fun z => left z && !z.sameKey (.int .i64 x)) cnt1) := hrg1
      have HLE : Hid (wr.rangeLeft L.hb (B + 2) = cnt) := hrg.left_eq
      clear hrg1 hrg hg1
      go_wp2_with (at_builtin; refine wpList_append_own_at _ rfl (.tmp 26) (.tmp 28) 70 rfl (B + 1) 3 i0 (.int .i64 0) 1 8 Tryz.underlying70 hi0 hz0 hz1 hz2 rfl (by decide) (.slice (some ⟨g, 0, none⟩) zs.length cap) zs.length _ rfl (hown1.alloc _) ⟨w1.heap.size, 0, none⟩ 1 1 [.int .i64 x] rfl rfl (cell_one_new _ _ _) (ints_oneCell .i64 [x]) (by unfold maxLen; omega) (by omega) (by simp; omega) ?_; intro v' w2 hown2 hg2 hnil hloc)
      obtain ⟨g', cap', rfl⟩ : ∃ g' cap', v' = .slice (some ⟨g', 0, none⟩) (zs.length + 1) cap' := by
        rcases hown2.2 with ⟨_, h⟩ | ⟨g', cap', _, h, _⟩
        · omega
        · exact ⟨g', cap', h⟩
      have hg2' : (w1.alloc (.cells #[.int .i64 x] 3)).grownBy w2 (some g) := hg2
      have hrg2 := (HRG.out.alloc (.cells #[.int .i64 x] 3)).kept hg2' (fun q => by injection q with q; omega) (fun q => by injection q with q; omega)
      have hg'ne : g' ≠ B + 2 := by
        rcases hloc with q | q
        · have q' : some g' = some g := q
          injection q' with q'
          omega
        · have q' : some g' = some (w1.alloc (.cells #[.int .i64 x] 3)).heap.size := q
          injection q' with q'
          simp at q'
          omega
      have hl1 : (zs ++ [x]).length = zs.length + 1 := by simp
      refine ⟨⟨_, cnt1, zs ++ [x], g', cap', hrg2, HC1.out, by rw [hl1], ?_, hg'ne, ?_, ?_⟩, ?_⟩
      · rw [hl1, List.map_append]
        exact hown2
      · exact (hg2'.block B (by simp; omega) (fun q => by injection q with q; omega)).trans (heap_kept hR1 (below_new _ _))
      · exact ((hB1.alloc (by have := hB1.size; omega) _).grown hg2' (by simp; omega) (fun j hj => by cases hj; omega))
      · rw [hrg2.left_eq, HLE.out]
        exact hlt1
end Go.Proofs.YtlcdpmjdnihocaaGreatD
/- A disk that a function made itself, with blocks beside it that stay: each call once more, in one form; no condition but that numbers do not pass their greatest. -/
namespace Go.Proofs.YtlcdpmjdnihocaaGreatD
open Go.RowKit

/-- In W, which has come of w, the disk at d stands for s; all of it is new since w; so nothing that w had has turned; the blocks of ks hold what is told, and are none of the disk's. -/
structure SitsL (w W : World) (L : Loc) (s : St) (ks : List (Nat × Obj)) : Prop where
  disk : DiskAt W L s
  new : L.from w.heap.size
  below : Below w.heap.size w W
  keep : ∀ p ∈ ks, W.heap[p.1]? = some p.2 ∧ ¬ L.has p.1
def Sits (w W : World) (d : Nat) (s : St) (ks : List (Nat × Obj)) : Prop := ∃ L : Loc, L.d = d ∧ SitsL w W L s ks
theorem SitsL.goes {w W W' : World} {L L' : Loc} {s s' : St} {ks : List (Nat × Obj)} (h : SitsL w W L s ks) (hD : DiskAt W' L' s') (hG : Goes W W' L L') : SitsL w W' L' s' ks := by
  refine ⟨hD, fun k hk => ?_, h.below.trans (hG.fr.below h.new h.below.size), fun p hp => ?_⟩
  · rcases hG.own k hk with q | q
    · exact h.new k q
    · have := h.below.size
      omega
  · obtain ⟨h1, h2⟩ := h.keep p hp
    have hlt := (Array.getElem?_eq_some_iff.1 h1).1
    refine ⟨(hG.fr.block p.1 hlt h2).trans h1, fun q => ?_⟩
    rcases hG.own p.1 q with q | q
    · exact h2 q
    · omega
variable {w W : World} {d : Nat} {s : St} {ks : List (Nat × Obj)}
theorem Sits.later {W' : World} (h : Sits w W d s ks) (hb : Below W.heap.size W W') : Sits w W' d s ks := by
  obtain ⟨L, hd, h⟩ := h
  exact ⟨L, hd, h.goes (h.disk.later hb) (Goes.ofBelow L hb)⟩
/-- Another block is told. -/
theorem Sits.add (h : Sits w W d s ks) (o : Obj) : Sits w (W.alloc o) d s ((W.heap.size, o) :: ks) := by
  obtain ⟨L, hd, h⟩ := h
  have h2 := h.goes (h.disk.later (below_new W o)) (Goes.ofBelow L (below_new W o))
  refine ⟨L, hd, h2.disk, h2.new, h2.below, fun p hp => ?_⟩
  rcases List.mem_cons.1 hp with rfl | hp
  · exact ⟨heap_alloc_new W o, fun q => by have := h.disk.lt _ q; simp only at this; omega⟩
  · exact h2.keep p hp
theorem Sits.blk (h : Sits w W d s ks) {g : Nat} {o : Obj} (hm : (g, o) ∈ ks) : W.heap[g]? = some o := by
  obtain ⟨L, hd, h⟩ := h
  exact (h.keep _ hm).1
theorem Sits.below (h : Sits w W d s ks) : Below w.heap.size w W := by
  obtain ⟨L, hd, h⟩ := h
  exact h.below
theorem Sits.ok (h : Sits w W d s ks) : Ok s := by
  obtain ⟨L, hd, h⟩ := h
  exact h.disk.ok
theorem Sits.drop (h : Sits w W d s ks) {ks' : List (Nat × Obj)} (hs : ∀ p ∈ ks', p ∈ ks) : Sits w W d s ks' := by
  obtain ⟨L, hd, h⟩ := h
  exact ⟨L, hd, h.disk, h.new, h.below, fun p hp => h.keep p (hs p hp)⟩
/-- A disk is made, with blocks that are there. -/
theorem sits_new {n : Int} (hn : bndB n = true) (hB : Below w.heap.size w W) (hk : ∀ p ∈ ks, W.heap[p.1]? = some p.2) :
    Calls Tryz.prog 35 #[.int .i64 n] W fun e W' => ∃ d, e = .returned (.tuple #[.pointer (some ⟨d, 0, none⟩), .int .i64 0]) ∧ Sits w W' d (newV n) ks := by
  refine (new_ok hn W).mono ?_
  rintro e W' ⟨L, rfl, hD, hL, hb⟩
  refine ⟨L.d, rfl, L, rfl, hD, fun k hk => by have := hL k hk; have := hB.size; omega, below_next hB hb, fun p hp => ?_⟩
  have h1 := hk p hp
  have hlt := (Array.getElem?_eq_some_iff.1 h1).1
  exact ⟨heap_kept h1 hb, fun q => by have := hL _ q; omega⟩
theorem sits_len (h : Sits w W d s ks) : Calls Tryz.prog 57 #[.pointer (some ⟨d, 0, none⟩)] W fun e W' => e = .returned (.int .i64 s.n) ∧ Sits w W' d s ks := by
  obtain ⟨L, rfl, hS⟩ := h
  exact (len_of hS.disk).mono fun e W' ⟨h1, h2⟩ => ⟨h1, by rw [h2]; exact ⟨L, rfl, hS⟩⟩
theorem sits_made (h : Sits w W d s ks) : Calls Tryz.prog 25 #[.pointer (some ⟨d, 0, none⟩)] W fun e W' => e = .returned (.int .i64 s.made) ∧ Sits w W' d s ks := by
  obtain ⟨L, rfl, hS⟩ := h
  exact (made_of hS.disk).mono fun e W' ⟨h1, h2⟩ => ⟨h1, by rw [h2]; exact ⟨L, rfl, hS⟩⟩
theorem sits_stopped (h : Sits w W d s ks) : Calls Tryz.prog 23 #[.pointer (some ⟨d, 0, none⟩)] W fun e W' => e = .returned (.bool s.stopped) ∧ Sits w W' d s ks := by
  obtain ⟨L, rfl, hS⟩ := h
  exact (stopped_of hS.disk).mono fun e W' ⟨h1, h2⟩ => ⟨h1, by rw [h2]; exact ⟨L, rfl, hS⟩⟩
theorem sits_fuse (h : Sits w W d s ks) (n : Int) (hn : n ≤ 9223372036854775807) : Calls Tryz.prog 11 #[.pointer (some ⟨d, 0, none⟩), .int .i64 n] W fun e W' => e = .returned (.tuple #[]) ∧ Sits w W' d (fuseV s n) ks := by
  obtain ⟨L, rfl, hS⟩ := h
  exact (fuse_of hS.disk n hn).mono fun e W' ⟨h1, h2, h3⟩ => ⟨h1, L, rfl, hS.goes h2 h3⟩
theorem sits_claim (h : Sits w W d s ks) (hr : Room s) : Calls Tryz.prog 9 #[.pointer (some ⟨d, 0, none⟩)] W fun e W' => e = .returned (.int .i64 (claimN s)) ∧ Sits w W' d (claimV s) ks := by
  obtain ⟨L, rfl, hS⟩ := h
  exact (claim_of hS.disk hr).mono fun e W' ⟨h1, h2, h3⟩ => ⟨h1, L, rfl, hS.goes h2 h3⟩
def writeV (s : St) (k : Int) (f : Nat → Int) : St := if refV s k = 0 then (if lets s then writeS s k f else letV s) else s
def writeE (s : St) (k : Int) : Int := if refV s k = 0 then (if lets s then 0 else 3) else refV s k
theorem sits_write (h : Sits w W d s ks) (hr : Room s) (k : Int) {f : Nat → Int} (hf : Can f) :
    Calls Tryz.prog 59 #[.pointer (some ⟨d, 0, none⟩), .int .i64 k, .agg (blk f)] W fun e W' => e = .returned (.int .i64 (writeE s k)) ∧ Sits w W' d (writeV s k f) ks := by
  obtain ⟨L, rfl, hS⟩ := h
  unfold writeE writeV
  by_cases hb : refV s k = 0
  · rw [if_pos hb, if_pos hb]
    cases hl : lets s
    · exact (write_dead hS.disk hr hb hl f).mono fun e W' ⟨h1, h2, h3⟩ => ⟨h1, L, rfl, hS.goes h2 h3⟩
    · exact (write_ok hS.disk hr hb hl hf).mono fun e W' ⟨h1, L', h2, h3⟩ => ⟨h1, L', h3.d, hS.goes h2 h3⟩
  · rw [if_neg hb, if_neg hb]
    exact (write_bad hS.disk hb f).mono fun e W' ⟨h1, h2⟩ => ⟨h1, L, rfl, hS.goes (hS.disk.later h2) (Goes.ofBelow L h2)⟩
def barV (s : St) : St := if s.stopped then s else (if lets s then barS s else letV s)
def barE (s : St) : Int := if s.stopped then 3 else (if lets s then 0 else 3)
theorem sits_barrier (h : Sits w W d s ks) (hr : Room s) :
    Calls Tryz.prog 42 #[.pointer (some ⟨d, 0, none⟩)] W fun e W' => e = .returned (.int .i64 (barE s)) ∧ Sits w W' d (barV s) ks := by
  obtain ⟨L, rfl, hS⟩ := h
  unfold barE barV
  cases hs : s.stopped
  · cases hl : lets s
    · exact (barrier_dead hS.disk hr hs hl).mono fun e W' ⟨h1, h2, h3⟩ => ⟨h1, L, rfl, hS.goes h2 h3⟩
    · exact (barrier_ok hS.disk hr hs hl).mono fun e W' ⟨h1, L', h2, h3⟩ => ⟨h1, L', h3.d, hS.goes h2 h3⟩
  · exact (barrier_stopped hS.disk hs).mono fun e W' ⟨h1, h2⟩ => ⟨h1, by rw [h2]; exact ⟨L, rfl, hS⟩⟩
theorem sits_image (h : Sits w W d s ks) :
    Calls Tryz.prog 21 #[.pointer (some ⟨d, 0, none⟩)] W fun e W' => ∃ (g : Nat) (l : List Cel), e = .returned (.agg #[.int .i64 s.n, .slice (some ⟨g, 0, none⟩) l.length l.length]) ∧ IsImage s l ∧ W'.heap[g]? = some (.cells (celCells l).toArray 81) ∧ W.heap.size ≤ g ∧ Sits w W' d s ks := by
  have h' := h
  obtain ⟨L, rfl, hS⟩ := h
  exact (image_walk hS.disk).mono fun e W' ⟨g, l, h1, h2, h3, h4, h5⟩ => ⟨g, l, h1, h2, h3, h4, h'.later h5⟩
/-- Of what is held alone an image knows. -/
theorem IsImage.one {s : St} {l m : List Cel} (h : IsImage s l) (hr : Rise (-1) m) (hs : Sound m) (ha : ∀ k, atL m k = (s.held k).getD nought) : l = m := rise_ext h.rise hr h.sound hs fun k => (h.at_ k).trans (ha k).symm
theorem IsImage.none {s : St} {l : List Cel} (h : IsImage s l) (hn : ∀ k, s.held k = none) : l = [] := h.one (m := []) trivial (fun c hc => by simp at hc) fun k => by rw [hn k]; rfl
end Go.Proofs.YtlcdpmjdnihocaaGreatD
/- Rows of elements of several cells; lists of puts that came in; a number taken into bounds; no condition. -/
namespace Go.Proofs.YtlcdpmjdnihocaaGreatD
open Go.RowKit

section
variable {α : Type} (row : α → List Value) (n : Nat)
theorem fm_len (hr : ∀ x, (row x).length = n) : ∀ l : List α, (l.flatMap row).length = l.length * n
  | [] => by simp
  | x :: t => by rw [List.flatMap_cons, List.length_append, hr x, fm_len hr t, List.length_cons, Nat.add_mul]; omega
theorem fm_get (hr : ∀ x, (row x).length = n) : ∀ (l : List α) (i j : Nat) (r : α), l[i]? = some r → j < n → (l.flatMap row)[i * n + j]? = (row r)[j]?
  | [], i, j, r, h, _ => by simp at h
  | x :: t, 0, j, r, h, hj => by
    have h' : x = r := by simpa using h
    subst h'
    rw [List.flatMap_cons, Nat.zero_mul, Nat.zero_add, List.getElem?_append_left (by rw [hr]; exact hj)]
  | x :: t, i + 1, j, r, h, hj => by
    have h' : t[i]? = some r := by simpa using h
    rw [List.flatMap_cons, List.getElem?_append_right (by rw [hr, Nat.add_mul]; omega), hr, show (i + 1) * n + j - n = i * n + j by rw [Nat.add_mul]; omega]
    exact fm_get hr t i j r h' hj
theorem fm_set (hr : ∀ x, (row x).length = n) : ∀ (l : List α) (i : Nat) (r : α), i < l.length → (l.flatMap row).take (i * n) ++ row r ++ (l.flatMap row).drop (i * n + n) = (l.set i r).flatMap row
  | [], i, r, h => by simp at h
  | x :: t, 0, r, _ => by
    rw [List.set_cons_zero, List.flatMap_cons, List.flatMap_cons, Nat.zero_mul, Nat.zero_add, List.take_zero, List.nil_append, ← hr x, List.drop_left]
  | x :: t, i + 1, r, h => by
    have ih := fm_set hr t i r (by simpa using h)
    have e1 : (i + 1) * n = (row x).length + i * n := by rw [hr, Nat.add_mul]; omega
    rw [List.set_cons_succ, List.flatMap_cons, List.flatMap_cons, ← ih, e1, List.take_length_add_append, Nat.add_assoc, List.drop_length_add_append]
    simp only [List.append_assoc]
end
/-- Blocks one behind the other. -/
def blkCells (l : List (Nat → Int)) : List Value := l.flatMap fun f => (blk f).toList
theorem blkCells_len (l : List (Nat → Int)) : (blkCells l).length = l.length * 1024 := fm_len _ 1024 blk_list_len l
theorem blkCells_set {l : List (Nat → Int)} {i : Nat} {f : Nat → Int} (h : i < l.length) : (blkCells l).take (i * 1024) ++ (blk f).toList ++ (blkCells l).drop (i * 1024 + 1024) = blkCells (l.set i f) := fm_set _ 1024 blk_list_len l i f h
theorem blkCells_at {w : World} {g i : Nat} {t : TypeId} {l : List (Nat → Int)} {f : Nat → Int} (h : w.heap[g]? = some (.cells (blkCells l).toArray t)) (hi : l[i]? = some f) : BlkAt w g (i * 1024) f := fun j v hv => by
  have hj : j < 1024 := by have := (List.getElem?_eq_some_iff.1 hv).1; rwa [blk_list_len] at this
  rw [cell_of_row w g _ _ t _ h, List.getElem?_toArray]
  exact (fm_get _ 1024 blk_list_len l i j f hi hj).trans hv
/-- A block is written into the middle of a row of blocks. -/
theorem wpList_storeB {ops : Array Oper} {rest : List Oper} {o : Oper} {a : Act} {w : World} {Q : Exit → Act → World → Prop} (hgd : o.guard = none) (x y : Operand) (ho : o.op = .store 79 x y)
    (g i off : Nat) (hoff : off = i * 1024) (f : Nat → Int) (hx : a.eval x = .pointer (some ⟨g, off, none⟩)) (hy : a.eval y = .agg (blk f)) (t : TypeId) (l : List (Nat → Int)) (hg : w.heap[g]? = some (.cells (blkCells l).toArray t)) (hi : i < l.length)
    (h : wpList Tryz.prog ops Q rest (a.put o.dst undef) (w.setRow g (blkCells (l.set i f)).toArray)) : wpList Tryz.prog ops Q (o :: rest) a w :=
  wpList_plain hgd fun _ hK => by
    have hl := blk_list_len f
    have hfit : off + 1024 ≤ (blkCells l).toArray.size := by
      rw [List.size_toArray, blkCells_len l, hoff, ← Nat.succ_mul]
      exact Nat.mul_le_mul_right _ hi
    have key : (blkCells l).take off ++ (blk f).toList ++ (blkCells l).drop (off + 1024) = blkCells (l.set i f) := by
      rw [hoff]
      exact blkCells_set hi
    clear hoff
    have hst := run_storeCells_at Tryz.prog g off t (blk f).toList 0 (blkCells l).toArray w hg (by rw [hl, Nat.add_zero]; exact hfit) (fun v hv => by
      have := blk_one f
      rw [Array.all_eq_true_iff_forall_mem] at this
      exact this v (by simpa using hv))
    rw [Nat.add_zero, hl] at hst
    have e1 : (blkCells l).toArray.toList = blkCells l := List.toList_toArray ..
    rw [e1, key] at hst
    have hr : (Instr.storeAt 79 (.pointer (some ⟨g, off, none⟩)) (.agg (blk f))).run Tryz.prog w = .ok () (w.setRow g (blkCells (l.set i f)).toArray) := by
      obtain ⟨i0, hi0⟩ := Option.isSome_iff_exists.1 (show (Tryz.prog.info? 79).isSome = true by kernel_rfl)
      have hz : i0.size = 1024 := by have := size25; rw [hi0] at this; simpa using this
      have hs := blk_size f
      generalize blk f = F at *
      simp [Instr.storeAt, Instr.sureAddr, storeVar, sizeOf, typeInfo, hi0, Value.cells, hs, hz, hst]
    unfold Oper.wp execOp
    simp only [ho, hx, hy, Sem.run_bind, hr, Result.andThen_ok, Sem.run_pure]
    exact hK _ _ h
theorem info58b : (Tryz.prog.info? 79).map (fun i => (i.zero, i.size, i.bytes)) = some (some (.agg (blk nought)), 1024, 1024) := by kernel_rfl
theorem blkCells_rep (n i : Nat) (hi : i < n * 1024) : (blkCells (List.replicate n nought))[i]? = some (.int .u8 0) := by
  have h1 : i / 1024 < n := Nat.div_lt_of_lt_mul (by rw [Nat.mul_comm]; exact hi)
  have h2 : i % 1024 < 1024 := Nat.mod_lt _ (by omega)
  have h3 := fm_get (fun f => (blk f).toList) 1024 blk_list_len (List.replicate n nought) (i / 1024) (i % 1024) nought (by rw [List.getElem?_replicate, if_pos h1]) h2
  have h4 : i / 1024 * 1024 + i % 1024 = i := Nat.div_add_mod' i 1024
  rw [h4] at h3
  unfold blkCells
  rw [h3, Array.getElem?_toList, blk_get nought _ h2]
  rfl
theorem made_blocks (n : Nat) : madeCells (blk nought) (n * 1024) = (blkCells (List.replicate n nought)).toArray := by
  apply Array.ext_getElem?
  intro i
  by_cases hi : i < n * 1024
  · have h : i % 1024 < 1024 := Nat.mod_lt _ (by decide)
    have hb := blk_get nought (i % 1024) h
    have hb' : (blk nought)[i % 1024]! = .int .u8 0 := by
      rw [Array.getElem!_eq_getD, Array.getD_eq_getD_getElem?, hb]; rfl
    rw [show ((blkCells (List.replicate n nought)).toArray)[i]? = (blkCells (List.replicate n nought))[i]? from List.getElem?_toArray, blkCells_rep n i hi]
    simp [madeCells, hi, blk_size, hb']
  · rw [Array.getElem?_eq_none (by simp [madeCells]; omega), show ((blkCells (List.replicate n nought)).toArray)[i]? = (blkCells (List.replicate n nought))[i]? from List.getElem?_toArray, List.getElem?_eq_none (by rw [blkCells_len, List.length_replicate]; omega)]
/-- An element of a list of blocks with numbers in memory. -/
theorem cel_at {w : World} {base g n cap : Nat} {l : List Cel} (h : w.ownsRow base 81 1025 (.slice (some ⟨g, 0, none⟩) n cap) n (celCells l)) {k K : Nat} {c : Cel} (hK : K = k * 1025) (hk : l[k]? = some c) :
    w.cell? ⟨g, K, none⟩ = some (.int .i64 c.1) ∧ BlkAt w g (K + 1) c.2 := by
  have hc := h.cells (g := g) rfl
  have key : ∀ j, j < 1025 → ∀ v, (celRow c)[j]? = some v → w.cell? ⟨g, K + j, none⟩ = some v := fun j hj v hv => by
    have q0 := (fm_get celRow 1025 celRow_len l k j c hk hj).trans hv
    rw [← hK] at q0
    have q := hc (K + j) v q0
    rwa [Go.WideShapes.add_plain, Nat.zero_add] at q
  clear hK hk hc h
  refine ⟨key 0 (by omega) _ rfl, fun j v hv => ?_⟩
  have hj : j < 1024 := by have := (List.getElem?_eq_some_iff.1 hv).1; rwa [blk_list_len] at this
  rw [Nat.add_assoc, Nat.add_comm 1 j]
  refine key (j + 1) (by omega) v ?_
  rw [show (celRow c)[j + 1]? = (blk c.2).toList[j]? by simp only [celRow, List.getElem?_cons_succ]]
  exact hv

end Go.Proofs.YtlcdpmjdnihocaaGreatD
/- What the document's examples say: the law's own first look at a disk answers true; no condition. -/
namespace Go.Proofs.YtlcdpmjdnihocaaGreatD
open Go.RowKit

theorem built58c (x : Int) (u : World) : (Instr.build 79 #[(0, .int .u8 x)]).run Tryz.prog u = .ok (.agg (blk (upd nought 0 x))) u := by
  have z25 := zero25
  have hs := blk_set
  have hz := blk_size
  generalize nought = N at *
  have hne : blk N ≠ #[] := fun q => by have := hz N; rw [q] at this; simp at this
  simp [Instr.build, z25, run_underlying Tryz.underlying79, Tryz.sizeOf5, Instr.fill, Value.cells, hs, hne]
section
variable {ops : Array Oper} {rest : List Oper} {o : Oper} {a : Act} {w : World} {Q : Exit → Act → World → Prop}
theorem wpList_build58c (hw : Region.wanted o (yielded ops a.tmps) = true) (x : Int) (ho : o.op = .build 79 #[(0, .const (.int .u8 x))]) (F : Nat → Int) (hF : F = upd nought 0 x)
    (h : wpList Tryz.prog ops Q rest (a.put o.dst (.agg (blk F))) w) : wpList Tryz.prog ops Q (o :: rest) a w :=
  BigFrame.wpList_want hw fun _ hK => by
    have e := built58c x w
    rw [← hF] at e
    have e' : (execOp a.eval o).run Tryz.prog w = .ok (.value (.agg (blk F))) w := by simp [execOp, ho, Act.eval, e]
    unfold Oper.wp
    rw [e']
    exact hK _ _ h
theorem wpList_build58w (hw : Region.wanted o (yielded ops a.tmps) = true) (ho : o.op = .build 79 #[]) {N : Nat → Int}
    (hb : ∀ u, (Instr.build 79 #[]).run Tryz.prog u = .ok (.agg (blk N)) u) (h : wpList Tryz.prog ops Q rest (a.put o.dst (.agg (blk N))) w) : wpList Tryz.prog ops Q (o :: rest) a w :=
  BigFrame.wpList_want hw fun _ hK => by
    have e : (execOp a.eval o).run Tryz.prog w = .ok (.value (.agg (blk N))) w := by
      unfold execOp
      simp only [ho, Array.map_empty, Sem.run_bind]
      simp only [hb, Result.andThen_ok, Sem.run_pure]
    unfold Oper.wp
    rw [e]
    exact hK _ _ h
theorem wpList_load58w (hw : Region.wanted o (yielded ops a.tmps) = true) (x : Operand) (ho : o.op = .load 79 x)
    (g : Nat) (hx : a.eval x = .pointer (some ⟨g, 0, none⟩)) (f : Nat → Int) (hg : w.heap[g]? = some (.cells (blk f) 79))
    (h : wpList Tryz.prog ops Q rest (a.put o.dst (.agg (blk f))) w) : wpList Tryz.prog ops Q (o :: rest) a w :=
  BigFrame.wpList_want hw fun _ hK => by
    unfold Oper.wp execOp
    simp only [ho, hx, loadM (BlkAt.of hg), Sem.run_bind, Result.andThen_ok, Sem.run_pure]
    exact hK _ _ h
theorem eq58 (f g : Nat → Int) (b : Bool) (hb : sameB f g = b) (u : World) : (binOp .eql 79 (.agg (blk f)) (.agg (blk g))).run Tryz.prog u = .ok (.bool b) u := by
  have h := eq25 f g u
  rw [hb] at h
  generalize blk f = F at *
  generalize blk g = G at *
  simp only [binOp, Op.equal, Op.maxDepth, Sem.run_bind, h, Result.andThen_ok, Sem.run_pure]
theorem eqg58 (x y : Operand) (F G : Array Value) (u : World) : (eqGuard .eql 79 x y (.agg F) (.agg G)).run Tryz.prog u = .ok () u := by
  unfold eqGuard
  simp
theorem wpList_eq58 (hw : Region.wanted o (yielded ops a.tmps) = true) (x y : Operand) (ho : o.op = .binOp .eql 79 x y 79) (f g : Nat → Int) (b : Bool) (hx : a.eval x = .agg (blk f)) (hy : a.eval y = .agg (blk g)) (hb : sameB f g = b)
    (h : wpList Tryz.prog ops Q rest (a.put o.dst (.bool b)) w) : wpList Tryz.prog ops Q (o :: rest) a w :=
  BigFrame.wpList_want hw fun _ hK => by
    have e := eq58 f g b hb w
    unfold Oper.wp execOp
    simp only [ho, hx, hy, Sem.run_bind, eqg58, e, Result.andThen_ok, Sem.run_pure]
    exact hK _ _ h
theorem wpList_store58_new (hgd : o.guard = none) (x y : Operand) (ho : o.op = .store 79 x y)
    (f f0 : Nat → Int) (g : Nat) (hg : g = w.heap.size) (hx : a.eval x = .pointer (some ⟨g, 0, none⟩)) (hy : a.eval y = .agg (blk f))
    (h : wpList Tryz.prog ops Q rest (a.put o.dst undef) (w.alloc (.cells (blk f) 79))) : wpList Tryz.prog ops Q (o :: rest) a (w.alloc (.cells (blk f0) 79)) := by
  subst hg
  exact wpList_store25_new hgd x y ho f f0 hx hy h
end
theorem field32 (a b : Value) (u : World) : (Instr.field 24 (.agg #[a, b]) 1).run Tryz.prog u = .ok b u := by
  simp [Instr.field, run_underlying Tryz.underlying24, go_sem, asAgg]
theorem field32n (a b : Value) (u : World) : (Instr.field 24 (.agg #[a, b]) 0).run Tryz.prog u = .ok a u := by
  simp [Instr.field, run_underlying Tryz.underlying24, go_sem, asAgg]
theorem can_one (x : Int) (h : 0 ≤ x ∧ x ≤ 255) : Can (upd nought 0 x) := by
  refine ⟨fun i => ?_, fun i hi => ?_⟩
  · unfold upd nought; split <;> omega
  · unfold upd nought; rw [if_neg (by omega)]
theorem one_ne (x : Int) (h : x ≠ 0) : upd nought 0 x ≠ nought := fun q => h (by have := congrFun q 0; simpa [upd, nought] using this)
theorem roomN {s : St} (h1 : s.ops.length < 1000) (h2 : s.made < 1000) (h3 : s.reads < 1000) (h4 : s.claims < 1000) : Room s := ⟨by omega, by omega, by omega, by omega⟩
theorem roomR {s : St} (a : Nat) (b c e : Int) (h1 : s.ops.length = a) (h2 : s.made = b) (h3 : s.reads = c) (h4 : s.claims = e) (ha : a < 1000 ∧ b < 1000 ∧ c < 1000 ∧ e < 1000) : Room s := roomN (by omega) (by omega) (by omega) (by omega)
theorem bools_new (W : World) (l : List Bool) : BoolsAt (W.alloc (.cells (l.map Value.bool).toArray 4)) (.slice (some ⟨W.heap.size, 0, none⟩) l.length l.length) l := by
  refine ⟨_, _, rfl, fun _ => ⟨W.heap.size, 0, rfl, fun i x hx => ?_⟩⟩
  rw [cell_of_row _ _ _ _ 4 _ (heap_alloc_new W _), Nat.zero_add, List.getElem?_toArray, List.getElem?_map, hx]
  rfl
theorem bools_nil (W : World) : BoolsAt W (.slice none 0 0) [] := ⟨none, 0, rfl, fun h => by simp at h⟩
section
variable (X Y : Nat → Int)
def aw1 : St := writeS (newV 4) 1 X
def aw2 : St := barS (aw1 X)
def aw3 : St := writeS (aw2 X) 1 Y
def aw4 : St := writeS (aw3 X Y) 2 Y
def aw5 : St := crashS (aw4 X Y) [false, true]
end
theorem sound_one {k : Int} {X : Nat → Int} (h : Can X) (hn : X ≠ nought) : Sound [(k, X)] := fun c hc => by
  have e : c = (k, X) := by simpa using hc
  subst e
  exact ⟨h, hn⟩
theorem blank_no {X : Nat → Int} (h : Can X) (hn : X ≠ nought) : blankB X = false := by
  cases q : blankB X
  · rfl
  · exact absurd (h.blank.1 q) hn
theorem aw2_held {X : Nat → Int} (h : blankB X = false) (k : Int) : (aw2 X).held k = if k = 1 then some X else none := by
  show (if k = 1 then (if blankB X then none else some X) else none) = _
  rw [h]
  rfl
theorem aw5_held {X Y : Nat → Int} (hX : blankB X = false) (hY : blankB Y = false) (k : Int) : (aw5 X Y).held k = if k = 2 then some Y else if k = 1 then some X else none := by
  show (if k = 2 then (if blankB Y then none else some Y) else (aw2 X).held k) = _
  rw [hY, aw2_held hX]
  rfl
theorem readS_held (s : St) : (readS s).held = s.held := rfl
theorem aw1_e : writeE (newV 4) 1 = 0 := rfl
theorem aw1_v (X : Nat → Int) : writeV (newV 4) 1 X = aw1 X := rfl
theorem aw1_held (X : Nat → Int) (k : Int) : (aw1 X).held k = none := rfl
theorem aw1_room (X : Nat → Int) : Room (aw1 X) := roomR 1 1 0 0 rfl rfl rfl rfl (by omega)
theorem aw2_e (X : Nat → Int) : barE (aw1 X) = 0 := rfl
theorem aw2_v (X : Nat → Int) : barV (aw1 X) = aw2 X := rfl
theorem aw2_room (X : Nat → Int) : Room (aw2 X) := roomR 2 2 0 0 rfl rfl rfl rfl (by omega)
theorem aw3_e (X : Nat → Int) : writeE (aw2 X) 1 = 0 := rfl
theorem aw3_v (X Y : Nat → Int) : writeV (aw2 X) 1 Y = aw3 X Y := rfl
theorem aw3_room (X Y : Nat → Int) : Room (aw3 X Y) := roomR 3 3 0 0 rfl rfl rfl rfl (by omega)
theorem aw4_e (X Y : Nat → Int) : writeE (aw3 X Y) 2 = 0 := rfl
theorem aw4_v (X Y : Nat → Int) : writeV (aw3 X Y) 2 Y = aw4 X Y := rfl
theorem aw4_wait (X Y : Nat → Int) : (aw4 X Y).wait.length = 2 := rfl
theorem aw5_room (X Y : Nat → Int) : Room (aw5 X Y) := roomR 0 4 0 0 rfl rfl rfl rfl (by omega)
theorem aw6_e (X Y : Nat → Int) : refV (aw5 X Y) 1 = 0 := rfl
theorem aw6_v (X Y : Nat → Int) : readV (aw5 X Y) 1 = readS (aw5 X Y) := rfl
theorem aw6_room (X Y : Nat → Int) : Room (readS (aw5 X Y)) := roomR 0 4 1 0 rfl rfl rfl rfl (by omega)
theorem aw7_e (X Y : Nat → Int) : refV (readS (aw5 X Y)) 2 = 0 := rfl
theorem aw7_v (X Y : Nat → Int) : readV (readS (aw5 X Y)) 2 = readS (readS (aw5 X Y)) := rfl
theorem aw7_made (X Y : Nat → Int) : (readS (readS (aw5 X Y))).made = 4 := rfl
theorem aw6_b {X Y : Nat → Int} (hX : blankB X = false) (hY : blankB Y = false) : readB (aw5 X Y) 1 = X := by
  unfold readB
  rw [if_pos (aw6_e X Y), curV_held rfl, aw5_held hX hY]
  rfl
theorem aw7_b {X Y : Nat → Int} (hX : blankB X = false) (hY : blankB Y = false) : readB (readS (aw5 X Y)) 2 = Y := by
  unfold readB
  rw [if_pos (aw7_e X Y), curV_held rfl, readS_held, aw5_held hX hY]
  rfl
end Go.Proofs.YtlcdpmjdnihocaaGreatD
/- mayBe: of every image whether it may be; no condition. -/
namespace Go.Proofs.YtlcdpmjdnihocaaGreatD
open Go.RowKit
/-- Cells that lie one behind the other from a place on. -/
def CelsAt (w : World) (b off : Nat) (l : List Cel) : Prop := ∀ k c, l[k]? = some c → w.cell? ⟨b, off + k * 1025, none⟩ = some (.int .i64 c.1) ∧ BlkAt w b (off + k * 1025 + 1) c.2
/-- A list of cells that came in or was made. -/
def ImgAt (w : World) (p : Option Addr) (l : List Cel) : Prop := 0 < l.length → ∃ b off, p = some ⟨b, off, none⟩ ∧ b < w.heap.size ∧ CelsAt w b off l
theorem CelsAt.later {w W : World} {b off : Nat} {l : List Cel} (h : CelsAt w b off l) (hb : Below w.heap.size w W) (hlt : b < w.heap.size) : CelsAt W b off l := fun k c hc => by
  obtain ⟨h1, h2⟩ := h k c hc
  exact ⟨(hb.cell (p := ⟨b, off + k * 1025, none⟩) hlt).trans h1, fun j v hv => (hb.cell (p := ⟨b, off + k * 1025 + 1 + j, none⟩) hlt).trans (h2 j v hv)⟩
/-- Do they rise, each below n and none blank? -/
def risesB (n : Int) : Int → List Cel → Bool
  | _, [] => true
  | a, c :: t => !decide (c.1 ≤ a) && !decide (c.1 ≥ n) && !blankB c.2 && risesB n c.1 t
def mayB (n : Int) (l : List Cel) : Bool := bndB n && risesB n (-1) l
theorem wpList_loadMw {ops : Array Oper} {rest : List Oper} {o : Oper} {a : Act} {w : World} {Q : Exit → Act → World → Prop} (hw : Region.wanted o (yielded ops a.tmps) = true) (x : Operand) (ho : o.op = .load 79 x)
    (g off : Nat) (hx : a.eval x = .pointer (some ⟨g, off, none⟩)) (f : Nat → Int) (hg : BlkAt w g off f)
    (h : wpList Tryz.prog ops Q rest (a.put o.dst (.agg (blk f))) w) : wpList Tryz.prog ops Q (o :: rest) a w :=
  BigFrame.wpList_want hw fun _ hK => by
    unfold Oper.wp execOp
    simp only [ho, hx, loadM hg, Sem.run_bind, Result.andThen_ok, Sem.run_pure]
    exact hK _ _ h
set_option maxRecDepth 20000 in
set_option maxHeartbeats 2000000 in
theorem may_any (n : Int) (l : List Cel) (p : Option Addr) (cap : Nat) (w : World) (hl : l.length < 9223372036854775807) (h : ImgAt w p l) :
    Calls Tryz.prog 34 #[.agg #[.int .i64 n, .slice p l.length cap]] w fun e w' => e = .returned (.bool (mayB n l)) ∧ Below w.heap.size w w' := by
  have hB := below_new w (.cells #[.int .i64 n, .slice p l.length cap] 24)
  have hG := heap_alloc_new w (.cells #[.int .i64 n, .slice p l.length cap] 24)
  have HI : Hid (ImgAt w p l) := h
  have hbd := built58
  clear h
  cases hb : bndB n
  · go_enter Tryz.func34, Tryz.ntmps34
    go_wp2_with (go_at_call 56; refine (bounded_any n _).mono ?_; rw [hb]; rintro e W ⟨rfl, rfl⟩)
    go_ret
    exact ⟨by unfold mayB; rw [hb]; rfl, hB⟩
  · have HR : Hid (mayB n l = risesB n (-1) (l.drop 0)) := by unfold mayB; rw [hb]; rfl
    generalize mayB n l = res at *
    generalize hW : w.alloc (.cells #[.int .i64 n, .slice p l.length cap] 24) = W0 at *
    have i0 : W0.cell? ⟨w.heap.size, 0, none⟩ = some (.int .i64 n) := Joins.cell_of_block hG 0
    have i1 : W0.cell? ⟨w.heap.size, 1, none⟩ = some (.slice p l.length cap) := Joins.cell_of_block hG 1
    go_enter Tryz.func34, Tryz.ntmps34
    go_wp2_with (go_at_call 56; refine (bounded_any n _).mono ?_; rw [hb]; rintro e W ⟨rfl, rfl⟩)
    obtain ⟨N, hbd', eN⟩ : ∃ N, (∀ u : World, (Instr.build 79 #[]).run Tryz.prog u = .ok (.agg (blk N)) u) ∧ N = nought := ⟨nought, built58, rfl⟩
    have HN : Hid (N = nought) := eN
    clear eN hbd
    go_loopw [3, 13] (fun s3 s13 wx => ∃ (k : Nat) (x : Int), k ≤ l.length ∧ s3 = .int .i64 x ∧ s13 = .int .i64 k ∧ wx = W ∧ Hid (res = risesB n x (l.drop k))) (fun s3 s13 _ => l.length - (intOf s13).toNat)
    case atStart => exact ⟨0, -1, by omega, rfl, rfl, rfl, HR.out⟩
    case round =>
      obtain ⟨k, x, hk, rfl, rfl, rfl, HR2⟩ := hrel
      clear HR
      by_cases hk2 : (k : Int) < l.length
      · have hc : l[k]? = some l[k] := List.getElem?_eq_getElem (by omega)
        obtain ⟨b, off, rfl, hlt, hC⟩ := HI.out (by omega)
        have hd : l.drop k = l[k] :: l.drop (k + 1) := List.drop_eq_getElem_cons (by omega)
        generalize l[k] = c at hc hd
        obtain ⟨q1, q2⟩ := (hC.later hB hlt) k c hc
        obtain ⟨y, f⟩ := c
        have hR := HR2.out
        rw [hd] at hR
        unfold risesB at hR
        simp only at hR q1 q2
        clear hd hc HR2 hC
        by_cases h1 : y ≤ x
        · have hr0 : res = false := by rw [hR]; simp [h1]
          clear hR
          subst hr0
          go_wp2
          go_ret
          exact ⟨rfl, hB⟩
        · by_cases h2 : y ≥ n
          · have hr0 : res = false := by rw [hR]; simp [h2]
            clear hR
            subst hr0
            go_wp2
            go_ret
            exact ⟨rfl, hB⟩
          · cases h3 : blankB f
            · have HR3 : Hid (res = risesB n y (l.drop (k + 1))) := by
                have e : res = risesB n y (l.drop (k + 1)) := by rw [hR, h3]; simp [h1, h2]
                exact e
              have h3' : sameB f N = false := by rw [HN.out]; exact h3
              clear hR
              go_wp2_with (first | refine wpList_loadMw rfl (.tmp 36) rfl b (off + k * 1025 + 1) rfl f q2 ?_ | refine wpList_build58w rfl rfl hbd' ?_ | refine wpList_eq58 rfl (.tmp 37) (.tmp 38) rfl f N false rfl rfl h3' ?_)
              exact ⟨⟨k + 1, y, by omega, rfl, by go_num, by trivial, HR3.out⟩, by simp [intOf]; omega⟩
            · have hr0 : res = false := by rw [hR, h3]; simp
              clear hR
              have h3' : sameB f N = true := by rw [HN.out]; exact h3
              subst hr0
              go_wp2_with (first | refine wpList_loadMw rfl (.tmp 36) rfl b (off + k * 1025 + 1) rfl f q2 ?_ | refine wpList_build58w rfl rfl hbd' ?_ | refine wpList_eq58 rfl (.tmp 37) (.tmp 38) rfl f N true rfl rfl h3' ?_)
              go_ret
              exact ⟨rfl, hB⟩
      · obtain rfl : k = l.length := by omega
        have hr0 : res = true := by rw [HR2.out, List.drop_length]; rfl
        subst hr0
        go_wp2
        go_ret
        exact ⟨rfl, hB⟩
end Go.Proofs.YtlcdpmjdnihocaaGreatD
/- A disk with whatever stays beside it while the disk alone turns: each call in one form; no condition but that numbers do not pass their greatest. -/
namespace Go.Proofs.YtlcdpmjdnihocaaGreatD
open Go.RowKit

/-- P stays while nothing turns but the disk's own blocks and new ones. -/
def Stays (P : World → Loc → Prop) : Prop := ∀ W W' L L', (∀ k, L.has k → k < W.heap.size) → P W L → Goes W W' L L' → P W' L'
/-- The disk at d stands for s, and P. -/
def Has (P : World → Loc → Prop) (W : World) (d : Nat) (s : St) : Prop := ∃ L : Loc, L.d = d ∧ DiskAt W L s ∧ P W L
variable {P : World → Loc → Prop} {W : World} {d : Nat} {s : St}
theorem Has.ok (h : Has P W d s) : Ok s := by
  obtain ⟨L, _, hD, _⟩ := h
  exact hD.ok
theorem Has.later (hP : Stays P) {W' : World} (h : Has P W d s) (hb : Below W.heap.size W W') : Has P W' d s := by
  obtain ⟨L, hd, hD, hp⟩ := h
  exact ⟨L, hd, hD.later hb, hP W W' L L hD.lt hp (Goes.ofBelow L hb)⟩
theorem Has.goes (hP : Stays P) {W' : World} {L L' : Loc} {s' : St} (hd : L.d = d) (hD : DiskAt W L s) (hp : P W L) (hD' : DiskAt W' L' s') (hG : Goes W W' L L') : Has P W' d s' := ⟨L', hG.d.trans hd, hD', hP W W' L L' hD.lt hp hG⟩
theorem has_stopped (h : Has P W d s) : Calls Tryz.prog 23 #[.pointer (some ⟨d, 0, none⟩)] W fun e W' => e = .returned (.bool s.stopped) ∧ W' = W := by
  obtain ⟨L, rfl, hD, _⟩ := h
  exact stopped_of hD
theorem has_made (h : Has P W d s) : Calls Tryz.prog 25 #[.pointer (some ⟨d, 0, none⟩)] W fun e W' => e = .returned (.int .i64 s.made) ∧ W' = W := by
  obtain ⟨L, rfl, hD, _⟩ := h
  exact made_of hD
theorem has_fuse (hP : Stays P) (h : Has P W d s) (n : Int) (hn : n ≤ 9223372036854775807) : Calls Tryz.prog 11 #[.pointer (some ⟨d, 0, none⟩), .int .i64 n] W fun e W' => e = .returned (.tuple #[]) ∧ Has P W' d (fuseV s n) := by
  obtain ⟨L, rfl, hD, hp⟩ := h
  exact (fuse_of hD n hn).mono fun e W' ⟨h1, h2, h3⟩ => ⟨h1, Has.goes hP rfl hD hp h2 h3⟩
theorem has_write (hP : Stays P) (h : Has P W d s) (hr : Room s) (k : Int) {f : Nat → Int} (hf : Can f) :
    Calls Tryz.prog 59 #[.pointer (some ⟨d, 0, none⟩), .int .i64 k, .agg (blk f)] W fun e W' => e = .returned (.int .i64 (writeE s k)) ∧ Has P W' d (writeV s k f) := by
  obtain ⟨L, rfl, hD, hp⟩ := h
  unfold writeE writeV
  by_cases hb : refV s k = 0
  · rw [if_pos hb, if_pos hb]
    cases hl : lets s
    · exact (write_dead hD hr hb hl f).mono fun e W' ⟨h1, h2, h3⟩ => ⟨h1, Has.goes hP rfl hD hp h2 h3⟩
    · exact (write_ok hD hr hb hl hf).mono fun e W' ⟨h1, L', h2, h3⟩ => ⟨h1, Has.goes hP rfl hD hp h2 h3⟩
  · rw [if_neg hb, if_neg hb]
    exact (write_bad hD hb f).mono fun e W' ⟨h1, h2⟩ => ⟨h1, Has.goes hP rfl hD hp (hD.later h2) (Goes.ofBelow L h2)⟩
theorem has_barrier (hP : Stays P) (h : Has P W d s) (hr : Room s) :
    Calls Tryz.prog 42 #[.pointer (some ⟨d, 0, none⟩)] W fun e W' => e = .returned (.int .i64 (barE s)) ∧ Has P W' d (barV s) := by
  obtain ⟨L, rfl, hD, hp⟩ := h
  unfold barE barV
  cases hs : s.stopped
  · cases hl : lets s
    · exact (barrier_dead hD hr hs hl).mono fun e W' ⟨h1, h2, h3⟩ => ⟨h1, Has.goes hP rfl hD hp h2 h3⟩
    · exact (barrier_ok hD hr hs hl).mono fun e W' ⟨h1, L', h2, h3⟩ => ⟨h1, Has.goes hP rfl hD hp h2 h3⟩
  · exact (barrier_stopped hD hs).mono fun e W' ⟨h1, h2⟩ => ⟨h1, by rw [h2]; exact ⟨L, rfl, hD, hp⟩⟩
/-- Beside the disk: the law's own blocks (a row of blocks at g) and the writes that it waits for (a list at v); all of it new since w. -/
structure Side (w : World) (g : Nat) (hs : List (Nat → Int)) (v : Value) (wl : List Cel) (W : World) (L : Loc) : Prop where
  new : L.from w.heap.size
  below : Below w.heap.size w W
  row : W.heap[g]? = some (.cells (blkCells hs).toArray 79)
  apart : ¬ L.has g
  own : W.ownsRow (g + 1) 81 1025 v wl.length (celCells wl)
  far : ∀ k, v.ownBlock = some k → ¬ L.has k
  gnew : w.heap.size ≤ g
variable {w : World} {g : Nat} {hs : List (Nat → Int)} {v : Value} {wl : List Cel}
theorem side_stays (w : World) (g : Nat) (hs : List (Nat → Int)) (v : Value) (wl : List Cel) : Stays (Side w g hs v wl) := by
  intro W W' L L' hlt h hG
  have hgl : g < W.heap.size := (Array.getElem?_eq_some_iff.1 h.row).1
  have hne : ∀ k, k < W.heap.size → ¬ L.has k → ¬ L'.has k := fun k hk hn q => by
    rcases hG.own k q with q | q
    · exact hn q
    · omega
  refine ⟨fun k hk => ?_, h.below.trans (hG.fr.below h.new h.below.size), (hG.fr.block g hgl h.apart).trans h.row, hne g hgl h.apart, ownsRow_kept0 h.own fun k hk => hG.fr.block k (h.own.lt k hk).2 (h.far k hk), fun k hk => hne k (h.own.lt k hk).2 (h.far k hk), h.gnew⟩
  rcases hG.own k hk with q | q
  · exact h.new k q
  · have := h.below.size
    omega
/-- The law's own blocks turn. -/
theorem Has.setH (h : Has (Side w g hs v wl) W d s) (hs' : List (Nat → Int)) : Has (Side w g hs' v wl) (W.setRow g (blkCells hs').toArray) d s := by
  obtain ⟨L, hd, hD, h⟩ := h
  have hF := Fr.setRow W g (blkCells hs').toArray
  refine ⟨L, hd, hD.fr hF fun k hk e => h.apart (e ▸ hk), h.new, below_setRow h.below h.gnew _, setRow_heap _ _ _ _ _ _ h.row, h.apart, ownsRow_kept0 h.own fun k hk => ?_, h.far, h.gnew⟩
  exact setRow_other W g k _ (by have := (h.own.lt k hk).1; omega)
theorem Has.noWait (h : Has (Side w g hs v wl) W d s) : Has (Side w g hs (.slice none 0 0) []) W d s := by
  obtain ⟨L, hd, hD, h⟩ := h
  exact ⟨L, hd, hD, h.new, h.below, h.row, h.apart, World.ownsRow_nil W _ 81 1025, fun k hk => by simp [Value.ownBlock] at hk, h.gnew⟩
theorem Has.below (h : Has (Side w g hs v wl) W d s) : Below w.heap.size w W := by
  obtain ⟨L, hd, hD, h⟩ := h
  exact h.below
theorem Has.row (h : Has (Side w g hs v wl) W d s) : W.heap[g]? = some (.cells (blkCells hs).toArray 79) := by
  obtain ⟨L, hd, hD, h⟩ := h
  exact h.row
theorem Has.own (h : Has (Side w g hs v wl) W d s) : W.ownsRow (g + 1) 81 1025 v wl.length (celCells wl) := by
  obtain ⟨L, hd, hD, h⟩ := h
  exact h.own
/-- A write more is waited for. -/
theorem Has.push {W' : World} {v' : Value} {c : Cel} {o : Obj} (h : Has (Side w g hs v wl) W d s) (ho : W'.ownsRow (g + 1) 81 1025 v' (wl.length + 1) (celCells wl ++ celRow c)) (hg : (W.alloc o).grownBy W' v.ownBlock)
    (hl : v'.ownBlock = v.ownBlock ∨ v'.ownBlock = some (W.alloc o).heap.size) : Has (Side w g hs v' (wl ++ [c])) W' d s := by
  obtain ⟨L, hd, hD, h⟩ := h
  have hF : Fr (fun i => v.ownBlock = some i) W W' := (Fr.alloc _ W o).trans (Fr.ofGrown hg) fun _ _ q => q
  have hgl : g < W.heap.size := (Array.getElem?_eq_some_iff.1 h.row).1
  have hgv : v.ownBlock ≠ some g := fun q => by have := (h.own.lt g q).1; omega
  refine ⟨L, hd, hD.fr hF fun k hk q => h.far k q hk, h.new, ?_, (hF.block g hgl hgv).trans h.row, h.apart, ?_, fun k hk => ?_, h.gnew⟩
  · exact ⟨hF.os.trans h.below.os, hF.tape.trans h.below.tape, hF.output.trans h.below.output, Nat.le_trans h.below.size hF.size, fun k hk => (hF.block k (by have := h.below.size; omega) fun q => by have := (h.own.lt k q).1; have := h.gnew; omega).trans (h.below.block k hk)⟩
  · rw [List.length_append, List.length_singleton, celCells_append, celCells_one]
    exact ho
  · rcases hl with q | q
    · exact h.far k (q ▸ hk)
    · rw [q] at hk
      injection hk with hk
      simp at hk
      exact fun r => by have := hD.lt k r; omega
end Go.Proofs.YtlcdpmjdnihocaaGreatD
