/- Several texts joined, each with its own remark; no condition. -/
import Derived.Test.YtembocfghkmieaaK3
/- Image: the walk. -/
namespace Go.Proofs.Ytembocfghkmieaa
open Go.RowKit Go.Maps
variable {w : World} {L : Loc} {s : St}

theorem size32 : (Try.prog.info? 32).map (·.size) = some 2 := by kernel_rfl
theorem ret32 {fn : Func} {p : Tmp} {R : Ending → World → Prop} {a : Act} {w : World} (h : fn.results = #[.cell p 32]) (g : Nat) (cs : Array Value)
    (hp : a.tmps.getD p undef = .pointer (some ⟨g, 0, none⟩)) (hg : w.heap[g]? = some (.cells cs 32)) (hs : cs.size = 2) (hd : a.defers = []) (hR : R (.returned (.agg cs)) w) : bodyPost Try.prog fn R .ret a w :=
  bodyPost_ret (results_cell_row h a.tmps w g 32 cs (0, 0) _ hp hg Try.underlying32 rfl (by rw [hs]; exact size32)) hd hR
theorem take_cel {l : List Cel} {k : Nat} {c : Cel} {cur : Array Value} (hc : l[k]? = some c) (ht : cur.toList.take (k * 1025) = celCells (l.take k)) (hs : (k + 1) * 1025 ≤ cur.size) :
    (putCel cur (k * 1025) c).toList.take ((k + 1) * 1025) = celCells (l.take (k + 1)) := by
  have h0 : k * 1025 ≤ cur.size := Nat.le_trans (Nat.mul_le_mul_right _ (Nat.le_succ k)) hs
  have h1 : (cur.toList.take (k * 1025) ++ celRow c).length = (k + 1) * 1025 := by
    rw [List.length_append, List.length_take, celRow_len, Array.length_toList, Nat.min_eq_left h0, Nat.succ_mul]
  unfold putCel
  rw [List.toList_toArray, ← h1, List.take_left, ht, take_snoc hc, celCells_append, celCells_one]
theorem size_cel {off n : Nat} {c : Cel} {cur : Array Value} (hn : cur.size = n) (hs : off + 1025 ≤ n) : (putCel cur off c).size = n := by
  unfold putCel
  rw [List.size_toArray, List.length_append, List.length_append, List.length_take, List.length_drop, celRow_len, Array.length_toList, hn]
  omega
set_option maxRecDepth 20000 in
theorem image_none {v : Value} (h : NoneAt w v) : Calls Try.prog 17 #[v] w fun e w' => e = .returned (.agg #[.int .i64 0, .slice none 0 0]) ∧ Below w.heap.size w w' := by
  go_enter Try.func17, Try.ntmps17
  go_wp2_with (go_at_call 64; fail)
  have h' : NoneAt (w.alloc (.cells #[.int .i64 0, .slice none 0 0] 32)) v := by
    rcases h with h | ⟨g, h1, h2⟩
    · exact .inl h
    · refine .inr ⟨g, h1, ?_⟩
      have hlt : g < w.heap.size := by
        by_cases q : g < w.heap.size
        · exact q
        · unfold World.cell? at h2
          simp only [Array.getElem?_eq_none (show w.heap.size ≤ g by omega)] at h2
          simp at h2
      rw [World.cell?_alloc_past _ _ _ hlt]
      exact h2
  refine (none_yes h').mono ?_
  rintro e W ⟨rfl, rfl⟩
  go_wp2
  exact ret32 rfl w.heap.size _ rfl (heap_alloc_new _ _) rfl rfl ⟨rfl, below_new _ _⟩
set_option maxRecDepth 20000 in
set_option maxHeartbeats 1000000 in
theorem image_walk (h : DiskAt w L s) : Calls Try.prog 17 #[.pointer (some ⟨L.d, 0, none⟩)] w fun e w' => ∃ (g : Nat) (l : List Cel), e = .returned (.agg #[.int .i64 s.n, .slice (some ⟨g, 0, none⟩) l.length l.length]) ∧ IsImage s l ∧ w'.heap[g]? = some (.cells (celCells l).toArray 85) ∧ w.heap.size ≤ g ∧ Below w.heap.size w w' := by
  have h1 := h.later (below_new w (.cells #[.int .i64 0, .slice none 0 0] 32))
  have h0 := h1.c0
  have c2 := h1.c2
  have hlt := h.lt L.d (.inl rfl)
  obtain ⟨D, hown, hv⟩ := h1.held
  have hbl : L.hb < w.heap.size := h.lt L.hb (.inr (.inl rfl))
  have hsz : Maps.size D ≤ 1048576 := size_top Try.underlying3 hown keyed3 hv
  have hmk := fun u => run_make65c u (Maps.size D) (by omega)
  have HD : Hid (DiskAt w L s) := h
  clear h h1
  go_enter Try.func17, Try.ntmps17
  go_wp2_with (first | (go_at_call 64; refine (none_no h0).mono ?_; rintro e W ⟨rfl, he⟩; obtain rfl := he.symm) | (at_len; refine wpList_len_own _ rfl (.tmp 14) 71 rfl 3 58 Try.underlying71 valElem L.hb top D rfl hown ?_) | (at_range; refine wpList_range_own _ rfl (.tmp 20) 71 rfl 3 58 keyed3 Try.underlying71 _ L.hb top D rfl (hown.alloc _) ?_; intro w0 hrg0 hg0 hs0))
  have e1 : ((w.alloc (.cells #[.int .i64 0, .slice none 0 0] 32)).alloc (.cells (iRow nought (Maps.size D)) 3)).heap.size = w.heap.size + 2 := by simp
  rw [e1] at hrg0 hs0 ⊢
  go_frame
  have hB0 : Below w.heap.size w w0 := (((Below.refl _ _).alloc (Nat.le_refl _) _).alloc (by simp) _).grown hg0 (by simp; omega) (fun j hj => by cases hj)
  have hR0 : w0.heap[w.heap.size]? = some (.cells #[.int .i64 0, .slice none 0 0] 32) := by
    rw [hg0.block w.heap.size (by simp; omega) (by simp)]
    exact heap_kept (heap_alloc_new w _) (below_new _ _)
  have hO0 : w0.ownsRow (w.heap.size + 1) 3 1 (.slice (some ⟨w.heap.size + 1, 0, none⟩) 0 (Maps.size D)) 0 [] := by
    refine ⟨rfl, .inr ⟨w.heap.size + 1, Maps.size D, iRow nought (Maps.size D), rfl, Nat.le_refl _, ?_, Nat.zero_le _, by unfold maxLen; omega, by rw [iRow_size]; omega, by simp⟩⟩
    rw [hg0.block (w.heap.size + 1) (by simp) (by simp)]
    have q := heap_alloc_new (w.alloc (.cells #[.int .i64 0, .slice none 0 0] 32)) (.cells (iRow nought (Maps.size D)) 3)
    rw [show (w.alloc (.cells #[.int .i64 0, .slice none 0 0] 32)).heap.size = w.heap.size + 1 by simp] at q
    exact q
  have HB0 : Hid (Below w.heap.size w w0) := hB0
  have HR0 : Hid (w0.heap[w.heap.size]? = some (.cells #[.int .i64 0, .slice none 0 0] 32)) := hR0
  have HO0 : Hid (w0.ownsRow (w.heap.size + 1) 3 1 (.slice (some ⟨w.heap.size + 1, 0, none⟩) 0 (Maps.size D)) 0 []) := hO0
  have HV : Hid (Views D (heldV s)) := hv
  clear hB0 hR0 hO0 hg0 hs0 hmk hown h0 c2 hv e1
  obtain ⟨i0, hi0, hz0, hz1, hz2⟩ := info_parts info3b
  generalize hBB : w.heap.size = B at *
  go_loopw [3] (fun s3 wx => ∃ (left : Lit → Bool) (cnt : Nat) (zs : List Int) (g cap : Nat), wx.ranges Try.prog 3 valElem L.hb (B + 2) top D left cnt ∧ Hid (Col (heldV s) left zs) ∧ s3 = .slice (some ⟨g, 0, none⟩) zs.length cap ∧
      Hid (wx.ownsRow (B + 1) 3 1 (.slice (some ⟨g, 0, none⟩) zs.length cap) zs.length (zs.map (Value.int .i64))) ∧ g ≠ B + 2 ∧ Hid (wx.heap[B]? = some (.cells #[.int .i64 0, .slice none 0 0] 32)) ∧ Hid (Below B w wx)) (fun _ wx => wx.rangeLeft L.hb (B + 2))
  case atStart => exact ⟨_, _, [], B + 1, Maps.size D, hrg0, Col.start HV.out, rfl, HO0.out, by omega, HR0.out, HB0.out⟩
  case round =>
    obtain ⟨left, cnt, zs, g, cap, hrg, HC, rfl, HO, hgne, HR, HB⟩ := hrel
    clear HB0 HR0 HO0 hrg0
    go_wp2_with (at_next; refine wpList_next_ranges _ rfl (.tmp 21) rfl 3 keyed3 valElem (Value.int .i64) (fun v : Value => v) (fun key kl hk => by obtain ⟨x, hx, _⟩ := Maps.keyOf_int_inv Try.underlying3 hk; exact ⟨x, hx⟩) (fun v _ _ => ⟨v, rfl⟩) L.hb (B + 2) top _ _ _ rfl hrg ?_ ?_)
    · intro hc0 hl0
      have hmem := HC.out.done hl0
      have hmem' : ∀ x, x ∈ zs ↔ (s.held x).isSome = true := fun x => (hmem x).trans (by unfold heldV; cases s.held x <;> simp)
      have hI := image_of HD.out.ok zs HC.out.nodup hmem'
      have hzl : zs.length ≤ 1048576 := nodup_le 1048576 zs HC.out.nodup fun y hy => by
        cases hm : heldV s y with
        | none => have := (hmem y).1 hy; rw [hm] at this; cases this
        | some v => exact (HV.out.some y v hm).1
      have hgl := HO.out.lt g rfl
      have hcells : ∀ j, j < zs.length → wr.cell? ⟨g, 0 + j, none⟩ = some (.int .i64 (zs.getD j 0)) := fun j hj => by
        have q := HO.out.cells (g := g) rfl j (.int .i64 (zs.getD j 0)) (by rw [List.getElem?_map, List.getElem?_eq_getElem hj]; simp [List.getD, hj])
        rw [Go.WideShapes.add_plain] at q
        exact q
      have hfroz : ∀ j, j < zs.length → wr.frozen? ⟨g, 0 + j, none⟩ = false := fun j hj => by
        rcases HO.out.2 with ⟨h, _⟩ | ⟨g'', cap'', cur, h, _, hh, _⟩
        · cases h
        · injection h with h1 h2 h3
          injection h1 with h1
          injection h1 with h1
          rw [← h1] at hh
          exact Joins.unfrozen_of_block hh _
      have hS := sort_ints (cap := cap) zs hcells hfroz hgl.2 (by omega)
      have HI : Hid (IsImage s (withHeld s (sortL zs))) := hI
      have hsl : (sortL zs).length = zs.length := (List.mergeSort_perm _ _).length_eq
      have hsm : ∀ x, x ∈ sortL zs ↔ (s.held x).isSome = true := fun x => (List.mergeSort_perm zs _).mem_iff.trans (hmem' x)
      have HSM : Hid (∀ x, x ∈ sortL zs ↔ (s.held x).isSome = true) := hsm
      clear HC HO hrg hmem hmem' hI hcells hfroz hl0 hc0 hsm HV
      go_wp2_with (go_at_call 65; fail)
      refine hS.mono ?_
      rintro e W2 ⟨rfl, hcs, hF2⟩
      have hD2 : DiskAt W2 L s := HD.out.kept fun k hk => by
        have hk2 := HD.out.lt k hk
        rw [hBB] at hk2
        have q := HB.out.block k hk2
        exact (hF2.block k (by have := HB.out.size; omega) (by omega)).trans q
      have hB2 : Below B w W2 := ⟨hF2.os.trans HB.out.os, hF2.tape.trans HB.out.tape, hF2.output.trans HB.out.output, Nat.le_trans HB.out.size hF2.size, fun k hk => (hF2.block k (by have := HB.out.size; omega) (by omega)).trans (HB.out.block k hk)⟩
      have hR2 : W2.heap[B]? = some (.cells #[.int .i64 0, .slice none 0 0] 32) := (hF2.block B (Array.getElem?_eq_some_iff.1 HR.out).1 (by omega)).trans HR.out
      have hg2 : g < W2.heap.size := Nat.lt_of_lt_of_le hgl.2 hF2.size
      clear hS HB HR hF2 HD
      obtain ⟨cur, hcz, hmk⟩ := run_make30 W2 zs.length (by omega)
      have HC0 : Hid (∀ j, j < zs.length → W2.cell? ⟨g, j, none⟩ = some (.int .i64 ((sortL zs).getD j 0))) := hcs
      have HD2 : Hid (DiskAt W2 L s) := hD2
      have HB2 : Hid (Below B w W2) := hB2
      have HR2 : Hid (W2.heap[B]? = some (.cells #[.int .i64 0, .slice none 0 0] 32)) := hR2
      have hdlt : L.d < W2.heap.size := hD2.lt L.d (.inl rfl)
      have hBlt : B < W2.heap.size := (Array.getElem?_eq_some_iff.1 hR2).1
      clear hcs hD2 hB2 hR2
      go_wp2
      have HN : Hid ((W2.alloc (.cells cur 85)).heap[W2.heap.size]? = some (.cells cur 85)) := heap_alloc_new W2 _
      have HBn : Hid (Below W2.heap.size W2 (W2.alloc (.cells cur 85))) := below_new W2 _
      clear hmk
      generalize W2.alloc (.cells cur 85) = W3 at *
      generalize hG : W2.heap.size = G at *
      generalize hm : zs.length = m at *
      generalize hys : sortL zs = ys at *
      go_loopw [37] (fun s37 wx => ∃ (k : Nat) (cur : Array Value), k ≤ m ∧ s37 = .int .i64 k ∧ Hid (wx.heap[G]? = some (.cells cur 85) ∧ cur.size = m * 1025 ∧ cur.toList.take (k * 1025) = celCells ((withHeld s ys).take k)) ∧ Hid (Below G W2 wx)) (fun s37 _ => m - (intOf s37).toNat)
      case atStart => exact ⟨0, cur, by omega, rfl, ⟨HN.out, hcz, by rw [Nat.zero_mul, List.take_zero, List.take_zero]; rfl⟩, HBn.out⟩
      case round =>
        obtain ⟨k, cu, hk, rfl, HC, HB⟩ := hrel
        clear HN HBn
        by_cases hk2 : (k : Int) < m
        · have hky : k < ys.length := by omega
          have hy : ys[k]? = some ys[k] := List.getElem?_eq_getElem hky
          have hyd : ys.getD k 0 = ys[k] := by simp [List.getD, hky]
          have hca := HC0.out k (by omega)
          rw [hyd] at hca
          have hmy : ys[k] ∈ ys := List.getElem_mem hky
          generalize ys[k] = y at *
          have hsome := (HSM.out y).1 hmy
          obtain ⟨f, hf⟩ := Option.isSome_iff_exists.1 hsome
          have hin := inTop_of HD2.out.ok (HD2.out.ok.held y f hf).1
          have hW := inTop.wf hin
          have hcl : (withHeld s ys)[k]? = some (y, f) := by unfold withHeld; rw [List.getElem?_map, hy]; simp [hf]
          have hca' : wr.cell? ⟨g, k, none⟩ = some (.int .i64 y) := (HB.out.cell (p := ⟨g, k, none⟩) (by show g < G; omega)).trans hca
          have hDr := HD2.out.kept (w' := wr) fun k hk => HB.out.block k (by have := HD2.out.lt k hk; omega)
          have c2 := hDr.c2
          have hHeld := hDr.held
          have hhv : heldV s y = some (.agg (blk f)) := by unfold heldV; simp only [hf, Option.map]
          obtain ⟨hn1, hn2, hn3⟩ := HC.out
          have hfit : (k + 1) * 1025 ≤ m * 1025 := Nat.mul_le_mul_right _ (by omega)
          have hfit2 : k * 1025 + 1025 ≤ cu.size := by rw [hn2, ← Nat.succ_mul]; exact hfit
          have HC2 : Hid ((wr.setRow G (putCel cu (k * 1025) (y, f))).heap[G]? = some (.cells (putCel cu (k * 1025) (y, f)) 85) ∧ (putCel cu (k * 1025) (y, f)).size = m * 1025 ∧ (putCel cu (k * 1025) (y, f)).toList.take ((k + 1) * 1025) = celCells ((withHeld s ys).take (k + 1))) :=
            ⟨setRow_heap _ _ _ _ _ _ hn1, size_cel hn2 (by rw [← hn2]; exact hfit2), take_cel hcl hn3 (by rw [hn2]; exact hfit)⟩
          have HB3 : Hid (Below G W2 (wr.setRow G (putCel cu (k * 1025) (y, f)))) := below_setRow HB.out (Nat.le_refl _) _
          have z25 := zero25
          clear hn2 hn3 HC HB hfit hDr hcl hca hmy hsome hf hy hyd
          generalize nought = N at *
          go_wp2_with (first | refine wpList_lookM1 rfl (.tmp 48) (.tmp 49) 71 rfl 58 Try.underlying3 keyed3 Try.underlying71 rfl hHeld (z25 _) y hW rfl _ hhv ?_ | refine wpList_build85 rfl (.tmp 44) (.tmp 50) rfl y f rfl rfl ?_ | refine wpList_store85 rfl (.tmp 52) (.tmp 51) rfl G (k * 1025) (y, f) rfl rfl cu hn1 hfit2 ?_)
          exact ⟨⟨k + 1, _, by omega, by go_num, HC2.out, HB3.out⟩, by simp [intOf]; omega⟩
        · obtain rfl : k = m := by omega
          have hfin : (wr.heap[G]? = some (.cells (celCells (withHeld s ys)).toArray 85)) := by
            obtain ⟨hn1, hn2, hn3⟩ := HC.out
            have hl : (withHeld s ys).length = k := by unfold withHeld; rw [List.length_map]; omega
            rw [← hn2, ← Array.length_toList, List.take_length, ← hl, List.take_length] at hn3
            rw [hn1, ← hn3, Array.toArray_toList]
          have hDr := HD2.out.kept (w' := wr) fun k hk => HB.out.block k (by have := HD2.out.lt k hk; omega)
          have c1 := hDr.c1
          have hRr : wr.heap[B]? = some (.cells #[.int .i64 0, .slice none 0 0] 32) := (HB.out.block B hBlt).trans HR2.out
          have cB0 : wr.cell? ⟨B, 0, none⟩ = some (.int .i64 0) := Joins.cell_of_block hRr 0
          have cB1 : wr.cell? ⟨B, 1, none⟩ = some (.slice none 0 0) := Joins.cell_of_block hRr 1
          have fB0 : wr.frozen? ⟨B, 0, none⟩ = false := Joins.unfrozen_of_block hRr 0
          have fB1 : wr.frozen? ⟨B, 1, none⟩ = false := Joins.unfrozen_of_block hRr 1
          have hl : (withHeld s ys).length = k := by unfold withHeld; rw [List.length_map]; omega
          have HFin : Hid (wr.heap[G]? = some (.cells (celCells (withHeld s ys)).toArray 85)) := hfin
          have HRr : Hid (wr.heap[B]? = some (.cells #[.int .i64 0, .slice none 0 0] 32)) := hRr
          clear hfin hDr HC hRr
          go_wp2
          have hrow := Joins.block_setCell (Joins.block_setCell HRr.out (i := 0) (.int .i64 s.n)) (i := 1) (.slice (some ⟨G, 0, none⟩) k k)
          refine ret32 rfl B _ rfl hrow rfl rfl ⟨G, withHeld s ys, by rw [hl]; rfl, HI.out, ?_, by omega, ?_⟩
          · rw [Below.heap_setCell _ _ _ _ (by show G ≠ B; omega), Below.heap_setCell _ _ _ _ (by show G ≠ B; omega)]
            exact HFin.out
          · exact ((HB2.out.trans (HB.out.mono (by omega))).setCell (Nat.le_refl _) _).setCell (Nat.le_refl _) _
    · intro x c kl yd yp w1 cnt1 hkey hlk hval hat hrg1 hlt1 hg1 hs1 hen
      obtain ⟨x', ex, rfl, hwx⟩ := Maps.keyOf_int_inv Try.underlying3 hkey
      obtain rfl : x = x' := by injection ex
      obtain ⟨hC1, hsome⟩ := HC.out.step HV.out hlk hat
      have hlen : zs.length + 1 ≤ 1048576 := by
        have q := nodup_le 1048576 (zs ++ [x]) hC1.nodup fun y hy => by
          have q1 := ((hC1.mem y).1 hy).1
          cases hm : heldV s y with
          | none => rw [hm] at q1; cases q1
          | some v => exact (HV.out.some y v hm).1
        simpa using q
      have HC1 : Hid (Col (heldV s) (fun z => left z && !z.sameKey (.int .i64 x)) (zs ++ [x])) := hC1
      have hgl := (HO.out.lt g rfl).1
      have hown1 := HO.out.kept hg1 (.inr (by simp only [Value.ownBlock]; exact fun q => hgne (by injection q)))
      have hR1 : w1.heap[B]? = some (.cells #[.int .i64 0, .slice none 0 0] 32) := (hg1.block B (Array.getElem?_eq_some_iff.1 HR.out).1 (fun q => by injection q with q; omega)).trans HR.out
      have hB1 : Below B w w1 := HB.out.grown hg1 (by rw [← hBB]; exact HB.out.size |> fun q => by rw [← hBB] at *; exact q) (fun j hj => by cases hj; omega)
      have hBs : B ≤ wr.heap.size := by have := HB.out.size; omega
      have hBs1 : B + 2 < w1.heap.size := hrg1.lt
      clear hs1 hC1 HC HO HR HB hkey hval hat hsome
      have HRG : Hid (w1.ranges Try.prog 3 valElem L.hb (B + 2) top D (fun z => left z && !z.sameKey (.int .i64 x)) cnt1) := hrg1
      have HLE : Hid (wr.rangeLeft L.hb (B + 2) = cnt) := hrg.left_eq
      clear hrg1 hrg hg1
      go_wp2_with (at_builtin; refine wpList_append_own_at _ rfl (.tmp 26) (.tmp 28) 65 rfl (B + 1) 3 i0 (.int .i64 0) 1 8 Try.underlying65 hi0 hz0 hz1 hz2 rfl (by decide) (.slice (some ⟨g, 0, none⟩) zs.length cap) zs.length _ rfl (hown1.alloc _) ⟨w1.heap.size, 0, none⟩ 1 1 [.int .i64 x] rfl rfl (cell_one_new _ _ _) (ints_oneCell .i64 [x]) (by unfold maxLen; omega) (by omega) (by simp; omega) ?_; intro v' w2 hown2 hg2 hnil hloc)
      obtain ⟨g', cap', rfl⟩ : ∃ g' cap', v' = .slice (some ⟨g', 0, none⟩) (zs.length + 1) cap' := by
        rcases hown2.2 with ⟨_, h⟩ | ⟨g', cap', _, h, _⟩
        · omega
        · exact ⟨g', cap', h⟩
      have hg2' : (w1.alloc (.cells #[.int .i64 x] 3)).grownBy w2 (some g) := hg2
      have hrg2 := (HRG.out.alloc (.cells #[.int .i64 x] 3)).kept hg2' (fun q => by injection q with q; omega) (fun q => by injection q with q; omega)
      have hg'ne : g' ≠ B + 2 := by
        rcases hloc with q | q
        · have q' : some g' = some g := q
          injection q' with q'
          omega
        · have q' : some g' = some (w1.alloc (.cells #[.int .i64 x] 3)).heap.size := q
          injection q' with q'
          simp at q'
          omega
      have hl1 : (zs ++ [x]).length = zs.length + 1 := by simp
      refine ⟨⟨_, cnt1, zs ++ [x], g', cap', hrg2, HC1.out, by rw [hl1], ?_, hg'ne, ?_, ?_⟩, ?_⟩
      · rw [hl1, List.map_append]
        exact hown2
      · exact (hg2'.block B (by simp; omega) (fun q => by injection q with q; omega)).trans (heap_kept hR1 (below_new _ _))
      · exact ((hB1.alloc (by have := hB1.size; omega) _).grown hg2' (by simp; omega) (fun j hj => by cases hj; omega))
      · rw [hrg2.left_eq, HLE.out]
        exact hlt1
end Go.Proofs.Ytembocfghkmieaa
/- A disk that a function made itself, with blocks beside it that stay: each call once more, in one form; no condition but that numbers do not pass their greatest. -/
namespace Go.Proofs.Ytembocfghkmieaa
open Go.RowKit

/-- In W, which has come of w, the disk at d stands for s; all of it is new since w; so nothing that w had has turned; the blocks of ks hold what is told, and are none of the disk's. -/
structure SitsL (w W : World) (L : Loc) (s : St) (ks : List (Nat × Obj)) : Prop where
  disk : DiskAt W L s
  new : L.from w.heap.size
  below : Below w.heap.size w W
  keep : ∀ p ∈ ks, W.heap[p.1]? = some p.2 ∧ ¬ L.has p.1
def Sits (w W : World) (d : Nat) (s : St) (ks : List (Nat × Obj)) : Prop := ∃ L : Loc, L.d = d ∧ SitsL w W L s ks
theorem SitsL.goes {w W W' : World} {L L' : Loc} {s s' : St} {ks : List (Nat × Obj)} (h : SitsL w W L s ks) (hD : DiskAt W' L' s') (hG : Goes W W' L L') : SitsL w W' L' s' ks := by
  refine ⟨hD, fun k hk => ?_, h.below.trans (hG.fr.below h.new h.below.size), fun p hp => ?_⟩
  · rcases hG.own k hk with q | q
    · exact h.new k q
    · have := h.below.size
      omega
  · obtain ⟨h1, h2⟩ := h.keep p hp
    have hlt := (Array.getElem?_eq_some_iff.1 h1).1
    refine ⟨(hG.fr.block p.1 hlt h2).trans h1, fun q => ?_⟩
    rcases hG.own p.1 q with q | q
    · exact h2 q
    · omega
variable {w W : World} {d : Nat} {s : St} {ks : List (Nat × Obj)}
theorem Sits.later {W' : World} (h : Sits w W d s ks) (hb : Below W.heap.size W W') : Sits w W' d s ks := by
  obtain ⟨L, hd, h⟩ := h
  exact ⟨L, hd, h.goes (h.disk.later hb) (Goes.ofBelow L hb)⟩
/-- Another block is told. -/
theorem Sits.add (h : Sits w W d s ks) (o : Obj) : Sits w (W.alloc o) d s ((W.heap.size, o) :: ks) := by
  obtain ⟨L, hd, h⟩ := h
  have h2 := h.goes (h.disk.later (below_new W o)) (Goes.ofBelow L (below_new W o))
  refine ⟨L, hd, h2.disk, h2.new, h2.below, fun p hp => ?_⟩
  rcases List.mem_cons.1 hp with rfl | hp
  · exact ⟨heap_alloc_new W o, fun q => by have := h.disk.lt _ q; simp only at this; omega⟩
  · exact h2.keep p hp
theorem Sits.blk (h : Sits w W d s ks) {g : Nat} {o : Obj} (hm : (g, o) ∈ ks) : W.heap[g]? = some o := by
  obtain ⟨L, hd, h⟩ := h
  exact (h.keep _ hm).1
theorem Sits.below (h : Sits w W d s ks) : Below w.heap.size w W := by
  obtain ⟨L, hd, h⟩ := h
  exact h.below
theorem Sits.ok (h : Sits w W d s ks) : Ok s := by
  obtain ⟨L, hd, h⟩ := h
  exact h.disk.ok
theorem Sits.drop (h : Sits w W d s ks) {ks' : List (Nat × Obj)} (hs : ∀ p ∈ ks', p ∈ ks) : Sits w W d s ks' := by
  obtain ⟨L, hd, h⟩ := h
  exact ⟨L, hd, h.disk, h.new, h.below, fun p hp => h.keep p (hs p hp)⟩
/-- A disk is made, with blocks that are there. -/
theorem sits_new {n : Int} (hn : bndB n = true) (hB : Below w.heap.size w W) (hk : ∀ p ∈ ks, W.heap[p.1]? = some p.2) :
    Calls Try.prog 30 #[.int .i64 n] W fun e W' => ∃ d, e = .returned (.tuple #[.pointer (some ⟨d, 0, none⟩), .int .i64 0]) ∧ Sits w W' d (newV n) ks := by
  refine (new_ok hn W).mono ?_
  rintro e W' ⟨L, rfl, hD, hL, hb⟩
  refine ⟨L.d, rfl, L, rfl, hD, fun k hk => by have := hL k hk; have := hB.size; omega, below_next hB hb, fun p hp => ?_⟩
  have h1 := hk p hp
  have hlt := (Array.getElem?_eq_some_iff.1 h1).1
  exact ⟨heap_kept h1 hb, fun q => by have := hL _ q; omega⟩
theorem sits_len (h : Sits w W d s ks) : Calls Try.prog 18 #[.pointer (some ⟨d, 0, none⟩)] W fun e W' => e = .returned (.int .i64 s.n) ∧ Sits w W' d s ks := by
  obtain ⟨L, rfl, hS⟩ := h
  exact (len_of hS.disk).mono fun e W' ⟨h1, h2⟩ => ⟨h1, by rw [h2]; exact ⟨L, rfl, hS⟩⟩
theorem sits_made (h : Sits w W d s ks) : Calls Try.prog 23 #[.pointer (some ⟨d, 0, none⟩)] W fun e W' => e = .returned (.int .i64 s.made) ∧ Sits w W' d s ks := by
  obtain ⟨L, rfl, hS⟩ := h
  exact (made_of hS.disk).mono fun e W' ⟨h1, h2⟩ => ⟨h1, by rw [h2]; exact ⟨L, rfl, hS⟩⟩
theorem sits_reads (h : Sits w W d s ks) : Calls Try.prog 24 #[.pointer (some ⟨d, 0, none⟩)] W fun e W' => e = .returned (.int .i64 s.reads) ∧ Sits w W' d s ks := by
  obtain ⟨L, rfl, hS⟩ := h
  exact (reads_of hS.disk).mono fun e W' ⟨h1, h2⟩ => ⟨h1, by rw [h2]; exact ⟨L, rfl, hS⟩⟩
theorem sits_stopped (h : Sits w W d s ks) : Calls Try.prog 34 #[.pointer (some ⟨d, 0, none⟩)] W fun e W' => e = .returned (.bool s.stopped) ∧ Sits w W' d s ks := by
  obtain ⟨L, rfl, hS⟩ := h
  exact (stopped_of hS.disk).mono fun e W' ⟨h1, h2⟩ => ⟨h1, by rw [h2]; exact ⟨L, rfl, hS⟩⟩
theorem sits_claimed (h : Sits w W d s ks) (k : Int) : Calls Try.prog 37 #[.pointer (some ⟨d, 0, none⟩), .int .i64 k] W fun e W' => e = .returned (.bool (claimedV s k)) ∧ Sits w W' d s ks := by
  obtain ⟨L, rfl, hS⟩ := h
  exact (claimed_of hS.disk k).mono fun e W' ⟨h1, h2⟩ => ⟨h1, by rw [h2]; exact ⟨L, rfl, hS⟩⟩
theorem sits_fuse (h : Sits w W d s ks) (n : Int) (hn : n ≤ 9223372036854775807) : Calls Try.prog 31 #[.pointer (some ⟨d, 0, none⟩), .int .i64 n] W fun e W' => e = .returned (.tuple #[]) ∧ Sits w W' d (fuseV s n) ks := by
  obtain ⟨L, rfl, hS⟩ := h
  exact (fuse_of hS.disk n hn).mono fun e W' ⟨h1, h2, h3⟩ => ⟨h1, L, rfl, hS.goes h2 h3⟩
theorem sits_claim (h : Sits w W d s ks) (hr : Room s) : Calls Try.prog 36 #[.pointer (some ⟨d, 0, none⟩)] W fun e W' => e = .returned (.int .i64 (claimN s)) ∧ Sits w W' d (claimV s) ks := by
  obtain ⟨L, rfl, hS⟩ := h
  exact (claim_of hS.disk hr).mono fun e W' ⟨h1, h2, h3⟩ => ⟨h1, L, rfl, hS.goes h2 h3⟩
theorem sits_read (h : Sits w W d s ks) (hr : Room s) (k : Int) :
    Calls Try.prog 20 #[.pointer (some ⟨d, 0, none⟩), .int .i64 k] W fun e W' => e = .returned (.tuple #[.agg (blk (readB s k)), .int .i64 (refV s k)]) ∧ Sits w W' d (readV s k) ks := by
  obtain ⟨L, rfl, hS⟩ := h
  unfold readB readV
  by_cases hb : refV s k = 0
  · rw [if_pos hb, if_pos hb, hb]
    exact (read_ok hS.disk hr hb).mono fun e W' ⟨h1, h2, h3⟩ => ⟨h1, L, rfl, hS.goes h2 h3⟩
  · rw [if_neg hb, if_neg hb]
    exact (read_bad hS.disk hb).mono fun e W' ⟨h1, h2⟩ => ⟨h1, L, rfl, hS.goes (hS.disk.later h2) (Goes.ofBelow L h2)⟩
def writeV (s : St) (k : Int) (f : Nat → Int) : St := if refV s k = 0 then (if lets s then writeS s k f else letV s) else s
def writeE (s : St) (k : Int) : Int := if refV s k = 0 then (if lets s then 0 else 3) else refV s k
theorem sits_write (h : Sits w W d s ks) (hr : Room s) (k : Int) {f : Nat → Int} (hf : Can f) :
    Calls Try.prog 33 #[.pointer (some ⟨d, 0, none⟩), .int .i64 k, .agg (blk f)] W fun e W' => e = .returned (.int .i64 (writeE s k)) ∧ Sits w W' d (writeV s k f) ks := by
  obtain ⟨L, rfl, hS⟩ := h
  unfold writeE writeV
  by_cases hb : refV s k = 0
  · rw [if_pos hb, if_pos hb]
    cases hl : lets s
    · exact (write_dead hS.disk hr hb hl f).mono fun e W' ⟨h1, h2, h3⟩ => ⟨h1, L, rfl, hS.goes h2 h3⟩
    · exact (write_ok hS.disk hr hb hl hf).mono fun e W' ⟨h1, L', h2, h3⟩ => ⟨h1, L', h3.d, hS.goes h2 h3⟩
  · rw [if_neg hb, if_neg hb]
    exact (write_bad hS.disk hb f).mono fun e W' ⟨h1, h2⟩ => ⟨h1, L, rfl, hS.goes (hS.disk.later h2) (Goes.ofBelow L h2)⟩
def barV (s : St) : St := if s.stopped then s else (if lets s then barS s else letV s)
def barE (s : St) : Int := if s.stopped then 3 else (if lets s then 0 else 3)
theorem sits_barrier (h : Sits w W d s ks) (hr : Room s) :
    Calls Try.prog 32 #[.pointer (some ⟨d, 0, none⟩)] W fun e W' => e = .returned (.int .i64 (barE s)) ∧ Sits w W' d (barV s) ks := by
  obtain ⟨L, rfl, hS⟩ := h
  unfold barE barV
  cases hs : s.stopped
  · cases hl : lets s
    · exact (barrier_dead hS.disk hr hs hl).mono fun e W' ⟨h1, h2, h3⟩ => ⟨h1, L, rfl, hS.goes h2 h3⟩
    · exact (barrier_ok hS.disk hr hs hl).mono fun e W' ⟨h1, L', h2, h3⟩ => ⟨h1, L', h3.d, hS.goes h2 h3⟩
  · exact (barrier_stopped hS.disk hs).mono fun e W' ⟨h1, h2⟩ => ⟨h1, by rw [h2]; exact ⟨L, rfl, hS⟩⟩
theorem sits_crash (h : Sits w W d s ks) {kv : Value} {kl : List Bool} (hkv : BoolsAt W kv kl) (hwl : s.wait.length < 68719476736) (hkl : kl.length < 9223372036854775807) :
    Calls Try.prog 35 #[.pointer (some ⟨d, 0, none⟩), kv] W fun e W' => e = .returned (.int .i64 0) ∧ Sits w W' d (crashS s kl) ks := by
  obtain ⟨L, rfl, hS⟩ := h
  exact (crash_of hS.disk hkv hwl hkl).mono fun e W' ⟨h1, L', h2, h3⟩ => ⟨h1, L', h3.d, hS.goes h2 h3⟩
theorem sits_pending (h : Sits w W d s ks) (hwl : s.wait.length < 68719476736) :
    Calls Try.prog 25 #[.pointer (some ⟨d, 0, none⟩)] W fun e W' => e = .returned (.slice (some ⟨W.heap.size, 0, none⟩) s.wait.length s.wait.length) ∧ W'.heap[W.heap.size]? = some (.cells (iRow (posF s.wait) s.wait.length) 3) ∧ Sits w W' d s ks := by
  have h' := h
  obtain ⟨L, rfl, hS⟩ := h
  exact (pend_of hS.disk hwl).mono fun e W' ⟨h1, h2, h3⟩ => ⟨h1, h2, h'.later h3⟩
theorem sits_history (h : Sits w W d s ks) (hol : s.ops.length < 68719476736) :
    Calls Try.prog 26 #[.pointer (some ⟨d, 0, none⟩)] W fun e W' => e = .returned (.slice (some ⟨W.heap.size, 0, none⟩) s.ops.length s.ops.length) ∧ W'.heap[W.heap.size]? = some (.cells (opCells s.ops).toArray 108) ∧ Sits w W' d s ks := by
  have h' := h
  obtain ⟨L, rfl, hS⟩ := h
  exact (history_of hS.disk hol).mono fun e W' ⟨h1, h2, h3⟩ => ⟨h1, h2, h'.later h3⟩
theorem sits_image (h : Sits w W d s ks) :
    Calls Try.prog 17 #[.pointer (some ⟨d, 0, none⟩)] W fun e W' => ∃ (g : Nat) (l : List Cel), e = .returned (.agg #[.int .i64 s.n, .slice (some ⟨g, 0, none⟩) l.length l.length]) ∧ IsImage s l ∧ W'.heap[g]? = some (.cells (celCells l).toArray 85) ∧ W.heap.size ≤ g ∧ Sits w W' d s ks := by
  have h' := h
  obtain ⟨L, rfl, hS⟩ := h
  exact (image_walk hS.disk).mono fun e W' ⟨g, l, h1, h2, h3, h4, h5⟩ => ⟨g, l, h1, h2, h3, h4, h'.later h5⟩
/-- Of what is held alone an image knows. -/
theorem IsImage.one {s : St} {l m : List Cel} (h : IsImage s l) (hr : Rise (-1) m) (hs : Sound m) (ha : ∀ k, atL m k = (s.held k).getD nought) : l = m := rise_ext h.rise hr h.sound hs fun k => (h.at_ k).trans (ha k).symm
theorem IsImage.none {s : St} {l : List Cel} (h : IsImage s l) (hn : ∀ k, s.held k = none) : l = [] := h.one (m := []) trivial (fun c hc => by simp at hc) fun k => by rw [hn k]; rfl
end Go.Proofs.Ytembocfghkmieaa
/- What the document's examples say: the law's own first look at a disk answers true; no condition. -/
namespace Go.Proofs.Ytembocfghkmieaa
open Go.RowKit

theorem built58c (x : Int) (u : World) : (Instr.build 58 #[(0, .int .u8 x)]).run Try.prog u = .ok (.agg (blk (upd nought 0 x))) u := by
  have z25 := zero25
  have hs := blk_set
  have hz := blk_size
  generalize nought = N at *
  have hne : blk N ≠ #[] := fun q => by have := hz N; rw [q] at this; simp at this
  simp [Instr.build, z25, run_underlying Try.underlying58, Try.sizeOf5, Instr.fill, Value.cells, hs, hne]
section
variable {ops : Array Oper} {rest : List Oper} {o : Oper} {a : Act} {w : World} {Q : Exit → Act → World → Prop}
theorem wpList_build58c (hw : Region.wanted o (yielded ops a.tmps) = true) (x : Int) (ho : o.op = .build 58 #[(0, .const (.int .u8 x))]) (F : Nat → Int) (hF : F = upd nought 0 x)
    (h : wpList Try.prog ops Q rest (a.put o.dst (.agg (blk F))) w) : wpList Try.prog ops Q (o :: rest) a w :=
  BigFrame.wpList_want hw fun _ hK => by
    have e := built58c x w
    rw [← hF] at e
    have e' : (execOp a.eval o).run Try.prog w = .ok (.value (.agg (blk F))) w := by simp [execOp, ho, Act.eval, e]
    unfold Oper.wp
    rw [e']
    exact hK _ _ h
theorem wpList_build58w (hw : Region.wanted o (yielded ops a.tmps) = true) (ho : o.op = .build 58 #[]) {N : Nat → Int}
    (hb : ∀ u, (Instr.build 58 #[]).run Try.prog u = .ok (.agg (blk N)) u) (h : wpList Try.prog ops Q rest (a.put o.dst (.agg (blk N))) w) : wpList Try.prog ops Q (o :: rest) a w :=
  BigFrame.wpList_want hw fun _ hK => by
    have e : (execOp a.eval o).run Try.prog w = .ok (.value (.agg (blk N))) w := by
      unfold execOp
      simp only [ho, Array.map_empty, Sem.run_bind]
      simp only [hb, Result.andThen_ok, Sem.run_pure]
    unfold Oper.wp
    rw [e]
    exact hK _ _ h
theorem wpList_load58w (hw : Region.wanted o (yielded ops a.tmps) = true) (x : Operand) (ho : o.op = .load 58 x)
    (g : Nat) (hx : a.eval x = .pointer (some ⟨g, 0, none⟩)) (f : Nat → Int) (hg : w.heap[g]? = some (.cells (blk f) 58))
    (h : wpList Try.prog ops Q rest (a.put o.dst (.agg (blk f))) w) : wpList Try.prog ops Q (o :: rest) a w :=
  BigFrame.wpList_want hw fun _ hK => by
    unfold Oper.wp execOp
    simp only [ho, hx, loadM (BlkAt.of hg), Sem.run_bind, Result.andThen_ok, Sem.run_pure]
    exact hK _ _ h
theorem eq58 (f g : Nat → Int) (b : Bool) (hb : sameB f g = b) (u : World) : (binOp .eql 58 (.agg (blk f)) (.agg (blk g))).run Try.prog u = .ok (.bool b) u := by
  have h := eq25 f g u
  rw [hb] at h
  generalize blk f = F at *
  generalize blk g = G at *
  simp only [binOp, Op.equal, Op.maxDepth, Sem.run_bind, h, Result.andThen_ok, Sem.run_pure]
theorem eqg58 (x y : Operand) (F G : Array Value) (u : World) : (eqGuard .eql 58 x y (.agg F) (.agg G)).run Try.prog u = .ok () u := by
  unfold eqGuard
  simp
theorem wpList_eq58 (hw : Region.wanted o (yielded ops a.tmps) = true) (x y : Operand) (ho : o.op = .binOp .eql 58 x y 58) (f g : Nat → Int) (b : Bool) (hx : a.eval x = .agg (blk f)) (hy : a.eval y = .agg (blk g)) (hb : sameB f g = b)
    (h : wpList Try.prog ops Q rest (a.put o.dst (.bool b)) w) : wpList Try.prog ops Q (o :: rest) a w :=
  BigFrame.wpList_want hw fun _ hK => by
    have e := eq58 f g b hb w
    unfold Oper.wp execOp
    simp only [ho, hx, hy, Sem.run_bind, eqg58, e, Result.andThen_ok, Sem.run_pure]
    exact hK _ _ h
theorem wpList_store58_new (hgd : o.guard = none) (x y : Operand) (ho : o.op = .store 58 x y)
    (f f0 : Nat → Int) (g : Nat) (hg : g = w.heap.size) (hx : a.eval x = .pointer (some ⟨g, 0, none⟩)) (hy : a.eval y = .agg (blk f))
    (h : wpList Try.prog ops Q rest (a.put o.dst undef) (w.alloc (.cells (blk f) 58))) : wpList Try.prog ops Q (o :: rest) a (w.alloc (.cells (blk f0) 58)) := by
  subst hg
  exact wpList_store25_new hgd x y ho f f0 hx hy h
end
theorem field32 (a b : Value) (u : World) : (Instr.field 32 (.agg #[a, b]) 1).run Try.prog u = .ok b u := by
  simp [Instr.field, run_underlying Try.underlying32, go_sem, asAgg]
theorem field32n (a b : Value) (u : World) : (Instr.field 32 (.agg #[a, b]) 0).run Try.prog u = .ok a u := by
  simp [Instr.field, run_underlying Try.underlying32, go_sem, asAgg]
theorem can_one (x : Int) (h : 0 ≤ x ∧ x ≤ 255) : Can (upd nought 0 x) := by
  refine ⟨fun i => ?_, fun i hi => ?_⟩
  · unfold upd nought; split <;> omega
  · unfold upd nought; rw [if_neg (by omega)]
theorem one_ne (x : Int) (h : x ≠ 0) : upd nought 0 x ≠ nought := fun q => h (by have := congrFun q 0; simpa [upd, nought] using this)
theorem roomN {s : St} (h1 : s.ops.length < 1000) (h2 : s.made < 1000) (h3 : s.reads < 1000) (h4 : s.claims < 1000) : Room s := ⟨by omega, by omega, by omega, by omega⟩
theorem roomR {s : St} (a : Nat) (b c e : Int) (h1 : s.ops.length = a) (h2 : s.made = b) (h3 : s.reads = c) (h4 : s.claims = e) (ha : a < 1000 ∧ b < 1000 ∧ c < 1000 ∧ e < 1000) : Room s := roomN (by omega) (by omega) (by omega) (by omega)
theorem bools_new (W : World) (l : List Bool) : BoolsAt (W.alloc (.cells (l.map Value.bool).toArray 4)) (.slice (some ⟨W.heap.size, 0, none⟩) l.length l.length) l := by
  refine ⟨_, _, rfl, fun _ => ⟨W.heap.size, 0, rfl, fun i x hx => ?_⟩⟩
  rw [cell_of_row _ _ _ _ 4 _ (heap_alloc_new W _), Nat.zero_add, List.getElem?_toArray, List.getElem?_map, hx]
  rfl
theorem bools_nil (W : World) : BoolsAt W (.slice none 0 0) [] := ⟨none, 0, rfl, fun h => by simp at h⟩
section
variable (X Y : Nat → Int)
def aw1 : St := writeS (newV 4) 1 X
def aw2 : St := barS (aw1 X)
def aw3 : St := writeS (aw2 X) 1 Y
def aw4 : St := writeS (aw3 X Y) 2 Y
def aw5 : St := crashS (aw4 X Y) [false, true]
end
theorem sound_one {k : Int} {X : Nat → Int} (h : Can X) (hn : X ≠ nought) : Sound [(k, X)] := fun c hc => by
  have e : c = (k, X) := by simpa using hc
  subst e
  exact ⟨h, hn⟩
theorem blank_no {X : Nat → Int} (h : Can X) (hn : X ≠ nought) : blankB X = false := by
  cases q : blankB X
  · rfl
  · exact absurd (h.blank.1 q) hn
theorem aw2_held {X : Nat → Int} (h : blankB X = false) (k : Int) : (aw2 X).held k = if k = 1 then some X else none := by
  show (if k = 1 then (if blankB X then none else some X) else none) = _
  rw [h]
  rfl
theorem aw5_held {X Y : Nat → Int} (hX : blankB X = false) (hY : blankB Y = false) (k : Int) : (aw5 X Y).held k = if k = 2 then some Y else if k = 1 then some X else none := by
  show (if k = 2 then (if blankB Y then none else some Y) else (aw2 X).held k) = _
  rw [hY, aw2_held hX]
  rfl
theorem readS_held (s : St) : (readS s).held = s.held := rfl
theorem aw1_e : writeE (newV 4) 1 = 0 := rfl
theorem aw1_v (X : Nat → Int) : writeV (newV 4) 1 X = aw1 X := rfl
theorem aw1_held (X : Nat → Int) (k : Int) : (aw1 X).held k = none := rfl
theorem aw1_room (X : Nat → Int) : Room (aw1 X) := roomR 1 1 0 0 rfl rfl rfl rfl (by omega)
theorem aw2_e (X : Nat → Int) : barE (aw1 X) = 0 := rfl
theorem aw2_v (X : Nat → Int) : barV (aw1 X) = aw2 X := rfl
theorem aw2_room (X : Nat → Int) : Room (aw2 X) := roomR 2 2 0 0 rfl rfl rfl rfl (by omega)
theorem aw3_e (X : Nat → Int) : writeE (aw2 X) 1 = 0 := rfl
theorem aw3_v (X Y : Nat → Int) : writeV (aw2 X) 1 Y = aw3 X Y := rfl
theorem aw3_room (X Y : Nat → Int) : Room (aw3 X Y) := roomR 3 3 0 0 rfl rfl rfl rfl (by omega)
theorem aw4_e (X Y : Nat → Int) : writeE (aw3 X Y) 2 = 0 := rfl
theorem aw4_v (X Y : Nat → Int) : writeV (aw3 X Y) 2 Y = aw4 X Y := rfl
theorem aw4_wait (X Y : Nat → Int) : (aw4 X Y).wait.length = 2 := rfl
theorem aw5_room (X Y : Nat → Int) : Room (aw5 X Y) := roomR 0 4 0 0 rfl rfl rfl rfl (by omega)
theorem aw6_e (X Y : Nat → Int) : refV (aw5 X Y) 1 = 0 := rfl
theorem aw6_v (X Y : Nat → Int) : readV (aw5 X Y) 1 = readS (aw5 X Y) := rfl
theorem aw6_room (X Y : Nat → Int) : Room (readS (aw5 X Y)) := roomR 0 4 1 0 rfl rfl rfl rfl (by omega)
theorem aw7_e (X Y : Nat → Int) : refV (readS (aw5 X Y)) 2 = 0 := rfl
theorem aw7_v (X Y : Nat → Int) : readV (readS (aw5 X Y)) 2 = readS (readS (aw5 X Y)) := rfl
theorem aw7_made (X Y : Nat → Int) : (readS (readS (aw5 X Y))).made = 4 := rfl
theorem aw6_b {X Y : Nat → Int} (hX : blankB X = false) (hY : blankB Y = false) : readB (aw5 X Y) 1 = X := by
  unfold readB
  rw [if_pos (aw6_e X Y), curV_held rfl, aw5_held hX hY]
  rfl
theorem aw7_b {X Y : Nat → Int} (hX : blankB X = false) (hY : blankB Y = false) : readB (readS (aw5 X Y)) 2 = Y := by
  unfold readB
  rw [if_pos (aw7_e X Y), curV_held rfl, readS_held, aw5_held hX hY]
  rfl
set_option maxRecDepth 20000 in
set_option maxHeartbeats 2000000 in
theorem awake_any (w : World) : Calls Try.prog 28 #[] w fun e w' => e = .returned (.bool true) ∧ Below w.heap.size w w' := by
  have hX := can_one 1 (by omega)
  have hY := can_one 2 (by omega)
  have nX := one_ne 1 (by omega)
  have nY := one_ne 2 (by omega)
  obtain ⟨N, z25⟩ : ∃ N, ∀ w, (zeroValue 58).run Try.prog w = .ok (.agg (blk N)) w := ⟨nought, zero25⟩
  have hbX : blankB (upd nought 0 1) = false := blank_no hX nX
  have hbY : blankB (upd nought 0 2) = false := blank_no hY nY
  generalize eX : upd nought 0 1 = X at *
  generalize eY : upd nought 0 2 = Y at *
  have HX : Hid (X = upd nought 0 1) := eX.symm
  have HY : Hid (Y = upd nought 0 2) := eY.symm
  clear eX eY
  have hN := sits_new (w := w) (W := w) (n := 4) (ks := []) (by decide) (Below.refl _ _) (fun p hp => by simp at hp)
  go_enter Try.func28, Try.ntmps28
  go_wp2_with (go_at_call 30; fail)
  refine hN.mono ?_
  rintro e W0 ⟨d, rfl, hS0⟩
  clear hN
  have hSx := hS0.add (.cells (blk X) 58)
  have hSy := hSx.add (.cells (blk Y) 58)
  have e1 : (W0.alloc (.cells (blk X) 58)).heap.size = W0.heap.size + 1 := by simp
  rw [e1] at hSy
  clear hSx hS0
  have hx := hSy.blk (g := W0.heap.size) (o := .cells (blk X) 58) (.tail _ (.head _))
  go_wp2_with (first | refine wpList_build58c rfl 1 rfl X HX.out ?_ | refine wpList_build58c rfl 2 rfl Y HY.out ?_ | refine wpList_store58_new rfl (.tmp 3) (.tmp 21) rfl X _ W0.heap.size rfl rfl rfl ?_ | refine wpList_store58_new rfl (.tmp 4) (.tmp 22) rfl Y _ (W0.heap.size + 1) e1.symm rfl rfl ?_ | refine wpList_load58w rfl (.tmp 3) rfl W0.heap.size rfl X hx ?_ | (go_at_call 33; fail))
  generalize (W0.alloc (.cells (blk X) 58)).alloc (.cells (blk Y) 58) = W1 at *
  generalize W0.heap.size = g at *
  refine (sits_write hSy (roomR 0 0 0 0 rfl rfl rfl rfl (by omega)) 1 hX).mono ?_
  rw [aw1_e, aw1_v]
  rintro e W2 ⟨rfl, hS2'⟩
  clear hSy hx e1
  go_wp2_with (go_at_call 17; fail)
  refine (sits_image hS2').mono ?_
  rintro e W3 ⟨g3, l3, rfl, hI3, _, _, hS3⟩
  obtain rfl := hI3.none (aw1_held X)
  clear hI3 hS2'
  have hf := field32
  go_wp2_with (go_at_call 32; fail)
  refine (sits_barrier hS3 (aw1_room X)).mono ?_
  rw [aw2_e, aw2_v]
  rintro e W4 ⟨rfl, hS4'⟩
  clear hS3
  go_wp2_with (go_at_call 17; fail)
  refine (sits_image hS4').mono ?_
  rintro e W5 ⟨g5, l5, rfl, hI5, _, _, hS5⟩
  obtain rfl := hI5.one (m := [(1, X)]) ⟨by omega, trivial⟩ (sound_one hX nX) fun k => by
    rw [aw2_held hbX]
    by_cases e : k = 1
    · subst e; rfl
    · rw [if_neg e]
      show (if (1 : Int) = k then X else nought) = _
      rw [if_neg (fun q => e q.symm)]
      rfl
  clear hI5 hS4'
  have hy := hS5.blk (g := g + 1) (o := .cells (blk Y) 58) (.head _)
  go_wp2_with (first | refine wpList_load58w rfl (.tmp 4) rfl (g + 1) rfl Y hy ?_ | (go_at_call 33; fail))
  refine (sits_write hS5 (aw2_room X) 1 hY).mono ?_
  rw [aw3_e, aw3_v]
  rintro e W6 ⟨rfl, hS6'⟩
  clear hS5 hy
  have hy := hS6'.blk (g := g + 1) (o := .cells (blk Y) 58) (.head _)
  go_wp2_with (first | refine wpList_load58w rfl (.tmp 4) rfl (g + 1) rfl Y hy ?_ | (go_at_call 33; fail))
  refine (sits_write hS6' (aw3_room X Y) 2 hY).mono ?_
  rw [aw4_e, aw4_v]
  rintro e W7 ⟨rfl, hS7'⟩
  clear hS6' hy
  go_wp2_with (go_at_call 25; fail)
  refine (sits_pending hS7' (by rw [aw4_wait]; omega)).mono ?_
  rw [aw4_wait]
  rintro e W8 ⟨rfl, _, hS8⟩
  clear hS7'
  go_wp2_with (go_at_call 35; fail)
  have hS8' := hS8.later (below_new W8 (.cells #[.bool false, .bool true] 4))
  refine (sits_crash hS8' (kl := [false, true]) (bools_new W8 [false, true]) (by rw [aw4_wait]; omega) (by show 2 < 9223372036854775807; omega)).mono ?_
  rw [show crashS (aw4 X Y) [false, true] = aw5 X Y from rfl]
  rintro e W9 ⟨rfl, hS9'⟩
  clear hS8 hS8'
  go_wp2_with (go_at_call 20; fail)
  refine (sits_read hS9' (aw5_room X Y) 1).mono ?_
  rw [aw6_e, aw6_v]
  have q1 : sameB (readB (aw5 X Y) 1) X = true := by rw [aw6_b hbX hbY]; exact sameB_self X
  generalize readB (aw5 X Y) 1 = Z1 at *
  rintro e W10 ⟨rfl, hS10'⟩
  clear hS9'
  have hS11 := hS10'.add (.cells (blk Z1) 58)
  go_wp2_with (first | refine wpList_store25_new rfl (.tmp 7) (.tmp 71) rfl Z1 _ rfl rfl ?_ | (go_at_call 20; fail))
  refine (sits_read hS11 (aw6_room X Y) 2).mono ?_
  rw [aw7_e, aw7_v]
  have q2 : sameB (readB (readS (aw5 X Y)) 2) Y = true := by rw [aw7_b hbX hbY]; exact sameB_self Y
  generalize readB (readS (aw5 X Y)) 2 = Z2 at *
  rintro e W12 ⟨rfl, hS12'⟩
  clear hS10' hS11
  have hS13 := hS12'.add (.cells (blk Z2) 58)
  have k1 := hS13.blk (g := W10.heap.size) (o := .cells (blk Z1) 58) (.tail _ (.head _))
  have k2 := hS13.blk (g := g) (o := .cells (blk X) 58) (.tail _ (.tail _ (.tail _ (.head _))))
  have k3 := hS13.blk (g := W12.heap.size) (o := .cells (blk Z2) 58) (.head _)
  have k4 := hS13.blk (g := g + 1) (o := .cells (blk Y) 58) (.tail _ (.tail _ (.head _)))
  clear hS12'
  go_wp2_with (first | refine wpList_store25_new rfl (.tmp 9) (.tmp 76) rfl Z2 _ rfl rfl ?_ | refine wpList_load58w rfl (.tmp 7) rfl W10.heap.size rfl Z1 k1 ?_ | refine wpList_load58w rfl (.tmp 3) rfl g rfl X k2 ?_ | refine wpList_load58w rfl (.tmp 9) rfl W12.heap.size rfl Z2 k3 ?_ | refine wpList_load58w rfl (.tmp 4) rfl (g + 1) rfl Y k4 ?_ | refine wpList_eq58 rfl (.tmp 91) (.tmp 92) rfl Z1 X true rfl rfl q1 ?_ | refine wpList_eq58 rfl (.tmp 96) (.tmp 97) rfl Z2 Y true rfl rfl q2 ?_ | (go_at_call 23; fail))
  refine (sits_made hS13).mono ?_
  rw [aw7_made]
  rintro e W14 ⟨rfl, hS14⟩
  have HB : Hid (Below w.heap.size w W14) := hS14.below
  clear hS13 hS14
  go_wp2
  go_ret
  exact ⟨rfl, HB.out⟩
end Go.Proofs.Ytembocfghkmieaa
/- The law's own function block: a block that begins with the bytes of a slice; its bytes lie in memory below. -/
namespace Go.Proofs.Ytembocfghkmieaa
open Go.RowKit

set_option maxRecDepth 20000 in
set_option maxHeartbeats 400000 in
theorem block_any (b off n cap : Nat) (f : Nat → Int) (w : World) (hn : n ≤ maxLen) (hc : ∀ i, i < n → w.cell? ⟨b, off + i, none⟩ = some (.int .u8 (f i))) :
    Calls Try.prog 21 #[.slice (some ⟨b, off, none⟩) n cap] w fun e w' => e = .returned (.agg (blk (firsts f n))) ∧ Below w.heap.size w w' := by
  unfold maxLen at hn
  have z25 := zero25
  go_enter Try.func21, Try.ntmps21
  go_wp2
  go_loopw [4] (fun s4 wx => ∃ k : Nat, k ≤ n ∧ k ≤ 1024 ∧ s4 = .int .i64 k ∧ wx = (w.alloc (.cells (blk nought) 58)).alloc (.cells (blk (firsts f k)) 58)) (fun s4 _ => 1024 - (intOf s4).toNat)
  case atStart => exact ⟨0, by omega, by omega, rfl, rfl⟩
  case round =>
    obtain ⟨k, hk1, hk2, rfl, rfl⟩ := hrel
    have fin : ∀ m, k = m ∨ 1024 ≤ k → m = n → blk (firsts f k) = blk (firsts f n) := fun m h e => blk_congr fun i hi => by
      unfold firsts
      subst e
      rcases h with h | h
      · rw [h]
      · rw [if_pos (by omega), if_pos (by omega)]
    by_cases h1 : k < n ∧ k < 1024
    · obtain ⟨h1, h2⟩ := h1
      have hck := hc k h1
      have hb : b < w.heap.size := block_lt_of_cell hck
      have hbk := blk_get (firsts f k) k h2
      clear hc fin
      go_wp2
      refine ⟨⟨k + 1, by omega, by omega, by go_num, ?_⟩, by simp [intOf]; omega⟩
      rw [blk_set, firsts_next]
    · have hfin : blk (firsts f k) = blk (firsts f n) := fin n (by omega) rfl
      have HF : Hid (blk (firsts f k) = blk (firsts f n)) := hfin
      clear hc fin hfin
      by_cases h2 : k < n
      all_goals
        go_wp2_with (first | refine wpList_load25 rfl _ rfl _ rfl _ (heap_alloc2_new _ _ _) ?_ | refine wpList_store25 rfl _ _ rfl _ _ rfl rfl _ (heap_alloc2_old _ _ _) ?_)
        refine ret25 rfl w.heap.size (firsts f k) rfl ?_ rfl ⟨by rw [HF.out], ?_⟩
        · exact setRow_heap _ _ _ _ _ _ (heap_alloc2_old _ _ _)
        · exact below_setRow (((Below.refl _ _).alloc (Nat.le_refl _) _).alloc (by simp) _) (Nat.le_refl _) _


set_option maxRecDepth 20000 in
set_option maxHeartbeats 400000 in
theorem block_nil (a : Option Addr) (cap : Nat) (f : Nat → Int) (w : World) :
    Calls Try.prog 21 #[.slice a 0 cap] w fun e w' => e = .returned (.agg (blk (firsts f 0))) ∧ Below w.heap.size w w' := by
  have z25 := zero25
  have HF : Hid (blk nought = blk (firsts f 0)) := blk_congr fun i _ => by simp [nought, firsts]
  go_enter Try.func21, Try.ntmps21
  go_wp2
  go_loopw [4] (fun s4 wx => s4 = .int .i64 0 ∧ wx = (w.alloc (.cells (blk nought) 58)).alloc (.cells (blk nought) 58)) (fun _ _ => 0)
  case atStart => exact ⟨rfl, rfl⟩
  case round =>
    obtain ⟨rfl, rfl⟩ := hrel
    go_wp2_with (first | refine wpList_load25 rfl _ rfl _ rfl _ (heap_alloc2_new _ _ _) ?_ | refine wpList_store25 rfl _ _ rfl _ _ rfl rfl _ (heap_alloc2_old _ _ _) ?_)
    refine ret25 rfl w.heap.size nought rfl ?_ rfl ⟨by rw [HF.out], ?_⟩
    · exact setRow_heap _ _ _ _ _ _ (heap_alloc2_old _ _ _)
    · exact below_setRow (((Below.refl _ _).alloc (Nat.le_refl _) _).alloc (by simp) _) (Nat.le_refl _) _

/-- The slice v holds n bytes, f 0, f 1 .. -/
def Lies (w : World) (v : Value) (n : Nat) (f : Nat → Int) : Prop :=
  (∃ a cap, v = .slice a 0 cap ∧ n = 0 ∧ (a = none → cap = 0)) ∨ ∃ b off cap, v = .slice (some ⟨b, off, none⟩) n cap ∧ n ≤ maxLen ∧ n ≤ cap ∧ b < w.heap.size ∧ ∀ i, i < n → w.cell? ⟨b, off + i, none⟩ = some (.int .u8 (f i))
theorem Lies.later {w w' : World} {v : Value} {n : Nat} {f : Nat → Int} (h : Lies w v n f) (hb : Below w.heap.size w w') : Lies w' v n f := by
  rcases h with h | ⟨b, off, cap, hv, hn, hcap, hlt, hc⟩
  · exact .inl h
  · exact .inr ⟨b, off, cap, hv, hn, hcap, Nat.lt_of_lt_of_le hlt hb.size, fun i hi => (hb.cell (p := ⟨b, off + i, none⟩) hlt).trans (hc i hi)⟩
theorem block_lies {w : World} {v : Value} {n : Nat} {f : Nat → Int} (h : Lies w v n f) :
    Calls Try.prog 21 #[v] w fun e w' => e = .returned (.agg (blk (firsts f n))) ∧ Below w.heap.size w w' := by
  rcases h with ⟨a, cap, rfl, rfl, _⟩ | ⟨b, off, cap, rfl, hn, _, _, hc⟩
  · exact block_nil a cap f w
  · exact block_any b off n cap f w hn hc
end Go.Proofs.Ytembocfghkmieaa
/- A disk that is none answers as rule 4 says, whatever is asked; no condition. -/
namespace Go.Proofs.Ytembocfghkmieaa
open Go.RowKit
variable {w : World}

theorem cell_lt {w : World} {g off : Nat} {v : Value} (h : w.cell? ⟨g, off, none⟩ = some v) : g < w.heap.size := by
  by_cases q : g < w.heap.size
  · exact q
  · unfold World.cell? at h
    simp only [Array.getElem?_eq_none (show w.heap.size ≤ g by omega)] at h
    simp at h
theorem NoneAt.later {w' : World} {v : Value} (h : NoneAt w v) (hb : Below w.heap.size w w') : NoneAt w' v := by
  rcases h with h | ⟨g, h1, h2⟩
  · exact .inl h
  · exact .inr ⟨g, h1, (hb.cell (p := ⟨g, 0, none⟩) (cell_lt h2)).trans h2⟩
set_option maxRecDepth 20000 in
theorem read_none {v : Value} (h : NoneAt w v) (k : Int) : Calls Try.prog 20 #[v, .int .i64 k] w fun e w' => e = .returned (.tuple #[.agg (blk nought), .int .i64 1]) ∧ Below w.heap.size w w' := by
  have hR := refuses_none (h.later (below_new w (.cells (blk nought) 58))) k
  have hbd := built58
  have z25 := zero25
  clear h
  generalize nought = N at *
  go_enter Try.func20, Try.ntmps20
  go_wp2_with (first | (go_at_call 66; refine hR.mono ?_; rintro e W ⟨rfl, rfl⟩) | refine wpList_build58 rfl rfl hbd ?_ | refine wpList_store25_new rfl _ _ rfl _ _ rfl rfl ?_)
  exact retBT rfl w.heap.size _ rfl (heap_alloc_new _ _) rfl ⟨rfl, below_new _ _⟩
set_option maxRecDepth 20000 in
theorem write_none {v : Value} (h : NoneAt w v) (k : Int) (f : Nat → Int) : Calls Try.prog 33 #[v, .int .i64 k, .agg (blk f)] w fun e w' => e = .returned (.int .i64 1) ∧ Below w.heap.size w w' := by
  have hR := refuses_none (h.later (below_new w (.cells (blk f) 58))) k
  clear h
  go_enter Try.func33, Try.ntmps33
  go_wp2_with (first | (go_at_call 66; refine hR.mono ?_; rintro e W ⟨rfl, rfl⟩))
  go_ret
  exact ⟨rfl, below_new _ _⟩
theorem same_below {f : FuncId} {args : Array Value} {w : World} {v : Value} (h : Calls Try.prog f args w fun e w' => e = .returned v ∧ w' = w) : Calls Try.prog f args w fun e w' => e = .returned v ∧ Below w.heap.size w w' :=
  h.mono fun e w' ⟨h1, h2⟩ => ⟨h1, by rw [h2]; exact Below.refl _ _⟩
/-- The cells of an act. -/
def actC (o k at_ : Int) (p : Value) (n : Int) (kv : Value) : Array Value := #[.int .i64 o, .int .i64 k, .int .i64 at_, p, .int .i64 n, kv]
set_option maxRecDepth 20000 in
set_option maxHeartbeats 2000000 in
theorem none_any {v : Value} (h : NoneAt w v) (o k at_ n : Int) {pa : Option Addr} {pl pc : Nat} {pn : Nat} {pf : Nat → Int} (hp : Lies w (.slice pa pl pc) pn pf) (ka : Option Addr) (kl kc : Nat) :
    Calls Try.prog 29 #[v, .agg (actC o k at_ (.slice pa pl pc) n (.slice ka kl kc))] w fun e w' => e = .returned (.bool true) ∧ Below w.heap.size w w' := by
  obtain ⟨N, z25, hbd, eN⟩ : ∃ N, (∀ w, (zeroValue 58).run Try.prog w = .ok (.agg (blk N)) w) ∧ (∀ u : World, (Instr.build 58 #[]).run Try.prog u = .ok (.agg (blk N)) u) ∧ N = nought := ⟨nought, zero25, built58, rfl⟩
  have HN : Hid (N = nought) := eN
  clear eN
  have hb0 := below_new w (.cells (actC o k at_ (.slice pa pl pc) n (.slice ka kl kc)) 44)
  have hA := heap_alloc_new w (.cells (actC o k at_ (.slice pa pl pc) n (.slice ka kl kc)) 44)
  have h0 := h.later hb0
  have hp0 := hp.later hb0
  unfold actC at *
  clear h hp
  go_enter Try.func29, Try.ntmps29
  go_wp2_with (go_at_call 20; fail)
  generalize w.alloc (.cells #[.int .i64 o, .int .i64 k, .int .i64 at_, .slice pa pl pc, .int .i64 n, .slice ka kl kc] 44) = W0 at *
  refine (read_none h0 at_).mono ?_
  rw [← HN.out]
  rintro e W1 ⟨rfl, hb1⟩
  have h1 := h0.later hb1
  have hp1 := hp0.later hb1
  have hA1 := heap_kept hA hb1
  have HB1 : Hid (Below w.heap.size w W1) := below_next hb0 hb1
  clear h0 hp0 hA hb0 hb1
  have h2 := h1.later (below_new W1 (.cells (blk N) 58))
  have hp2 := hp1.later (below_new W1 (.cells (blk N) 58))
  have hA2 := heap_kept hA1 (below_new W1 (.cells (blk N) 58))
  have HB2 : Hid (Below w.heap.size w (W1.alloc (.cells (blk N) 58))) := below_next HB1.out (below_new _ _)
  have hZ := heap_alloc_new W1 (.cells (blk N) 58)
  have a4 : W1.cell? ⟨w.heap.size, 4, none⟩ = some (.int .i64 n) := Joins.cell_of_block hA1 4
  have hlt : w.heap.size < W1.heap.size := (Array.getElem?_eq_some_iff.1 hA1).1
  clear h1 hp1 HB1
  go_wp2_with (first | refine wpList_store25_new rfl (.tmp 5) (.tmp 15) rfl N _ rfl rfl ?_ | (go_at_call 31; fail))
  clear hA1 a4 hlt
  generalize W1.alloc (.cells (blk N) 58) = W2 at *
  generalize W1.heap.size = g1 at *
  refine (fuse_none h2 n).mono ?_
  rintro e W ⟨rfl, he⟩
  obtain rfl := he.symm
  clear he
  have a2 : W2.cell? ⟨w.heap.size, 2, none⟩ = some (.int .i64 at_) := Joins.cell_of_block hA2 2
  have a3 : W2.cell? ⟨w.heap.size, 3, none⟩ = some (.slice pa pl pc) := Joins.cell_of_block hA2 3
  have a5 : W2.cell? ⟨w.heap.size, 5, none⟩ = some (.slice ka kl kc) := Joins.cell_of_block hA2 5
  have hg0 : w.heap.size < W2.heap.size := (Array.getElem?_eq_some_iff.1 hA2).1
  have hq := eq25
  have hs := sameB_self N
  have HNn : ∀ y : Later W2, NoneAt y.val v := fun y => h2.later y.below
  have HPp : ∀ y : Later W2, Lies y.val (.slice pa pl pc) pn pf := fun y => hp2.later y.below
  go_wp2
  refine wp_region_later (by kernel_rfl) (by kernel_rfl) W2 (Below.refl _ _) ?_
  have hne := later_some W2
  have b2 : ∀ y : Later W2, y.val.cell? ⟨w.heap.size, 2, none⟩ = some (.int .i64 at_) := fun y => (y.cell _ hg0).trans a2
  have b3 : ∀ y : Later W2, y.val.cell? ⟨w.heap.size, 3, none⟩ = some (.slice pa pl pc) := fun y => (y.cell _ hg0).trans a3
  have b5 : ∀ y : Later W2, y.val.cell? ⟨w.heap.size, 5, none⟩ = some (.slice ka kl kc) := fun y => (y.cell _ hg0).trans a5
  repeat (first
    | (go_big_quiet_want; refine quiet_load25 (.tmp 5) rfl g1 rfl N hZ ?_; simp only [Act.put, List.setIfInBounds_toArray, List.set_cons_succ, List.set_cons_zero]; go_big_quiet_on)
    | go_big_quiet_step (first
        | (go_at_call 21; exact Later.call _ (block_lies (HPp _)))
        | (go_at_call 33; exact Later.call _ (write_none (HNn _) _ _))
        | (go_at_call 32; exact Later.call _ (same_below (barrier_none (HNn _))))
        | (go_at_call 35; exact Later.call _ (same_below (crash_none (HNn _) _)))))
  refine wpQuiet_nil ?_
  rintro _ ⟨x, rfl⟩
  have h3 := HNn x
  have hA3 := (x.heap w.heap.size hg0).trans hA2
  have HB3 : Hid (Below w.heap.size w x.val) := HB2.out.trans (x.below.mono HB2.out.size)
  clear HNn HPp b2 b3 b5 a2 a3 a5 hA2 hZ hne hq h2 hp2
  generalize x.val = X at *
  clear x hg0 HB2
  go_wp2_with (first | (go_at_call 18; refine (len_none h3).mono ?_; rintro e W ⟨rfl, he⟩; obtain rfl := he.symm) | (go_at_call 25; refine (pend_none h3).mono ?_; rintro e W ⟨rfl, he⟩; obtain rfl := he.symm) | (go_at_call 34; refine (stopped_none h3).mono ?_; rintro e W ⟨rfl, he⟩; obtain rfl := he.symm) | (go_at_call 23; refine (made_none h3).mono ?_; rintro e W ⟨rfl, he⟩; obtain rfl := he.symm) | (go_at_call 24; refine (reads_none h3).mono ?_; rintro e W ⟨rfl, he⟩; obtain rfl := he.symm) | (go_at_call 26; refine (history_none h3).mono ?_; rintro e W ⟨rfl, he⟩; obtain rfl := he.symm) | (go_at_call 17; fail))
  refine (image_none h3).mono ?_
  rintro e X4 ⟨rfl, hb4⟩
  have h4 := (h3.later hb4).later (below_new X4 (.cells #[.int .i64 0, .slice none 0 0] 32))
  have hA4 := heap_kept (heap_kept hA3 hb4) (below_new X4 (.cells #[.int .i64 0, .slice none 0 0] 32))
  have a4 : X4.cell? ⟨w.heap.size, 4, none⟩ = some (.int .i64 n) := Joins.cell_of_block (heap_kept hA3 hb4) 4
  have hlt4 : w.heap.size < X4.heap.size := (Array.getElem?_eq_some_iff.1 (heap_kept hA3 hb4)).1
  have HB4 : Hid (Below w.heap.size w (X4.alloc (.cells #[.int .i64 0, .slice none 0 0] 32))) := (HB3.out.trans (hb4.mono HB3.out.size)).trans ((below_new X4 _).mono (by omega))
  clear hb4 h3 hA3 HB3
  go_wp2_with (first | (go_at_call 36; refine (claim_none h4).mono ?_; rintro e W ⟨rfl, he⟩; obtain rfl := he.symm) | (go_at_call 37; refine (claimed_none h4 n).mono ?_; rintro e W ⟨rfl, he⟩; obtain rfl := he.symm))
  go_ret
  exact ⟨rfl, HB4.out⟩
end Go.Proofs.Ytembocfghkmieaa
