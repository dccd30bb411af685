/- Several texts joined, each with its own remark; no condition. -/
import Derived.Test.YtiejhjngcnkimaaGreatRK21
import Derived.Test.YtiejhjngcnkimaaGreatRK20
import Derived.Test.YtiejhjngcnkimaaGreatRK16
import Derived.Deep.Cut
/- Blocks as an image: the document's image of a page. -/
namespace Go.Proofs.YtiejhjngcnkimaaGreatR
open Go.RowKit Go.Maps
theorem fold_set (b : Nat) : ∀ (l : List Value) (k : Nat) (cs : Array Value), b + k + l.length ≤ cs.size → ∀ j,
    ((l.zipIdx k).foldl (fun (cs : Array Value) (p : Value × Nat) => cs.setIfInBounds (b + p.2) p.1) cs)[j]? = if b + k ≤ j ∧ j < b + k + l.length then l[j - (b + k)]? else cs[j]?
  | [], k, cs, _, j => by simp; intro h1 h2; omega
  | v :: l, k, cs, h, j => by
    simp only [List.length_cons] at h
    rw [List.zipIdx_cons, List.foldl_cons, fold_set b l (k + 1) _ (by simp; omega) j]
    by_cases h1 : b + (k + 1) ≤ j ∧ j < b + (k + 1) + l.length
    · rw [if_pos h1, if_pos (by simp only [List.length_cons]; omega), show j - (b + k) = (j - (b + (k + 1))) + 1 by omega, List.getElem?_cons_succ]
    · rw [if_neg h1, Array.getElem?_setIfInBounds]
      by_cases h2 : b + k = j
      · subst h2; rw [if_pos rfl, if_pos (by omega), if_pos (by simp only [List.length_cons]; omega), Nat.sub_self]; rfl
      · rw [if_neg h2, if_neg (by simp only [List.length_cons]; omega)]
theorem fold_over (b : Nat) (c cs : Array Value) (h : b + c.size ≤ cs.size) :
    Array.foldl (fun (cs : Array Value) (p : Value × Nat) => cs.setIfInBounds (b + p.2) p.1) cs c.zipIdx = (cs.toList.take b ++ (c.toList ++ cs.toList.drop (b + c.size))).toArray := by
  apply Array.ext_getElem?
  intro j
  rw [← Array.foldl_toList, Array.toList_zipIdx, fold_set b c.toList 0 _ (by rw [Array.length_toList]; omega), Array.length_toList]
  rw [show ((cs.toList.take b ++ (c.toList ++ cs.toList.drop (b + c.size))).toArray)[j]? = (cs.toList.take b ++ (c.toList ++ cs.toList.drop (b + c.size)))[j]? from List.getElem?_toArray]
  by_cases h1 : j < b
  · rw [if_neg (by omega), List.getElem?_append_left (by rw [List.length_take, Array.length_toList]; omega), List.getElem?_take_of_lt h1, Array.getElem?_toList]
  · rw [List.getElem?_append_right (by rw [List.length_take, Array.length_toList]; omega), List.length_take, Array.length_toList, Nat.min_eq_left (by omega)]
    by_cases h2 : j < b + c.size
    · rw [if_pos (by omega), List.getElem?_append_left (by rw [Array.length_toList]; omega), Nat.add_zero]
    · rw [if_neg (by omega), List.getElem?_append_right (by rw [Array.length_toList]; omega), Array.length_toList, List.getElem?_drop, Array.getElem?_toList, show b + c.size + (j - b - c.size) = j by omega]
theorem run_buildSlice_gen {P : Program} (u : World) (t e : TypeId) (len size : Nat) (zero : Value) (parts : Array (Nat × Value)) (cells : Array Value) (hu : P.underlying t = some (.slice e)) (hs : (sizeOf e).run P u = .ok size u)
    (hb : ¬ len * size > 2 ^ 24) (h0 : ¬ len * size = 0) (hz : (zeroValue e).run P u = .ok zero u)
    (hf : Instr.fill (fun i => some (i * size, size)) ((Array.range (len * size)).map (zero.cells[· % zero.cells.size]!)) parts.toList = some cells) :
    (Instr.buildSlice t len parts).run P u = .ok (.slice (some ⟨u.heap.size, 0, none⟩) len len) (u.alloc (.cells cells e)) := by
  simp only [Instr.buildSlice, Sem.run_bind, run_underlying hu, Result.andThen_ok, hs]
  rw [if_neg hb, if_neg h0]
  simp only [Sem.run_bind, hz, Result.andThen_ok, Sem.run_pure, hf, newRow, run_newObj_alloc]
theorem fill_one (c z : Array Value) (n : Nat) (hc : c.size = n) (hz : z.size = n) : Instr.fill (fun i => some (i * n, n)) z [(0, .agg c)] = some c := by
  unfold Instr.fill
  simp only [Value.cells, Nat.zero_mul]
  rw [if_neg (by simp [hc, hz]), fold_over 0 c z (by omega)]
  unfold Instr.fill
  rw [List.take_zero, List.nil_append, List.drop_eq_nil_of_le (by rw [Array.length_toList]; omega), List.append_nil]
theorem build1 (t e n : Nat) (zero : Value) (c : Array Value) (hu : Tryz.prog.underlying t = some (.slice e)) (hs : ∀ u, (sizeOf e).run Tryz.prog u = .ok n u) (hn : 0 < n ∧ n ≤ 16777216) (hz : ∀ u, (zeroValue e).run Tryz.prog u = .ok zero u) (hc : c.size = n) (u : World) :
    (Instr.buildSlice t 1 #[(0, .agg c)]).run Tryz.prog u = .ok (.slice (some ⟨u.heap.size, 0, none⟩) 1 1) (u.alloc (.cells c e)) :=
  run_buildSlice_gen u t e 1 n zero #[(0, .agg c)] c hu (hs u) (by omega) (by omega) (hz u) (fill_one c _ n hc (by rw [Array.size_map, Array.size_range]; omega))
theorem fill_cel (p : Int) (f : Nat → Int) (Z : Array Value) (hZ : Z.size = 1025) (place : Nat → Option (Nat × Nat)) (h0 : place 0 = some (0, 1)) (h1 : place 1 = some (1, 1024)) :
    Instr.fill place Z [(0, .int .i64 p), (1, .agg (blk f))] = some (celRow (p, f)).toArray := by
  have hb := blk_size f
  unfold Instr.fill
  rw [h0]
  simp only [Value.cells, List.size_toArray, List.length_cons, List.length_nil, hZ]
  rw [if_neg (by simp)]
  unfold Instr.fill
  rw [h1]
  simp only [Value.cells, hb]
  rw [fold_over 0 #[.int .i64 p] Z (by rw [hZ]; simp)]
  rw [if_neg (by simp [hZ])]
  rw [fold_over 1 (blk f) _ (by simp [hZ, hb])]
  have hl : Z.toList.length = 1025 := by rw [Array.length_toList, hZ]
  obtain ⟨z0, r, hz, hr⟩ : ∃ z0 r, Z.toList = z0 :: r ∧ r.length = 1024 := by
    cases hz : Z.toList with
    | nil => rw [hz, List.length_nil] at hl; omega
    | cons z0 r => exact ⟨z0, r, rfl, by rw [hz, List.length_cons] at hl; omega⟩
  rw [hz]
  simp only [List.take_zero, List.nil_append, List.take_succ_cons, List.drop_succ_cons, List.drop_zero, List.singleton_append, List.size_toArray, List.length_cons, List.length_nil, hb, Nat.zero_add, Nat.reduceAdd]
  unfold Instr.fill
  rw [List.drop_eq_nil_of_le (by omega), List.append_nil]
  rfl
theorem cel_size (c : Cel) : (celRow c).toArray.size = 1025 := by rw [List.size_toArray, celRow_len]
theorem infoHeld : (Tryz.prog.info? 87).map (fun i => (i.zero, i.size, i.bytes)) = some (some (.agg (celRow (0, nought)).toArray), 1025, 1032) := by kernel_rfl
theorem sizeOfHeld : ∀ u, (sizeOf 87).run Tryz.prog u = .ok 1025 u := fun u => by
  obtain ⟨i0, hi0, hz0, hz1, hz2⟩ := info_parts infoHeld
  simp [sizeOf, typeInfo, hi0, hz1, go_sem]
theorem buildHeld (p : Int) (f : Nat → Int) (u : World) : (Instr.build 87 #[(0, .int .i64 p), (1, .agg (blk f))]).run Tryz.prog u = .ok (.agg (celRow (p, f)).toArray) u := by
  have z := zeroHeld
  have hZ : (celRow (0, nought)).toArray.size = 1025 := cel_size _
  generalize (celRow (0, nought)).toArray = Z at *
  have hf := fill_cel p f Z hZ
  simp [Instr.build, z, run_underlying Tryz.underlying87, Value.cells]
  rw [hf _ rfl rfl]
  simp only [Sem.run_pure]
section
variable {o : Oper} {a : Act} {W : World}
theorem exec_buildHeld {x y : Operand} {p : Int} {f : Nat → Int} (ho : o.op = .build 87 #[(0, x), (1, y)]) (hx : a.eval x = .int .i64 p) (hy : a.eval y = .agg (blk f)) : (execOp a.eval o).run Tryz.prog W = .ok (.value (.agg (celRow (p, f)).toArray)) W := by
  have e := buildHeld p f W
  generalize (celRow (p, f)).toArray = Z at *
  generalize blk f = Y at *
  simp [execOp, ho, hx, hy, e]
theorem exec_sliceHeld {y : Operand} {c : Cel} (ho : o.op = .buildSlice 78 1 #[(0, y)]) (hy : a.eval y = .agg (celRow c).toArray) : (execOp a.eval o).run Tryz.prog W = .ok (.value (.slice (some ⟨W.heap.size, 0, none⟩) 1 1)) (W.alloc (.cells (celRow c).toArray 87)) := by
  have e := build1 78 87 1025 _ _ Tryz.underlying78 sizeOfHeld (by omega) zeroHeld (cel_size c) W
  generalize (celRow c).toArray = Z at *
  simp [execOp, ho, hy, e]
end
theorem sizeHs : (Tryz.prog.info? 78).map (·.size) = some 1 := by kernel_rfl
abbrev OwnH (w : World) (B : Nat) (v : Value) (l : List Cel) : Prop := OwnG celRow 87 1025 w B v l
theorem OwnH.img {w : World} {B : Nat} {v : Value} {l : List Cel} (h : OwnH w B v l) : ∃ p c, v = .slice p l.length c ∧ ImgAt w p l := by
  obtain ⟨p, c, hv, hl⟩ := OwnG.lie celRow_len h
  refine ⟨p, c, hv, fun h0 => ?_⟩
  obtain ⟨g, h1, h2, h3⟩ := hl h0
  refine ⟨g, 0, h1, h2, fun i c hc => ⟨?_, fun j hj => ?_⟩⟩
  · have := h3 i c hc 0 _ (celRow_zero c)
    rwa [Nat.add_zero, ← Nat.zero_add (i * 1025)] at this
  · have := h3 i c hc (j + 1) _ (celRow_get c j hj)
    rwa [show i * 1025 + (j + 1) = 0 + i * 1025 + 1 + j by omega] at this
def imgL (F : Nat → Nat → Int) (k : Nat) : List Cel := (List.range k).filterMap fun i => if sameN 1024 (F i) nought then none else some ((i : Int), F i)
theorem imgL_zero {F : Nat → Nat → Int} {k : Nat} (h : sameN 1024 (F k) nought = true) : imgL F (k + 1) = imgL F k := by unfold imgL; rw [List.range_succ, List.filterMap_append]; simp [h]
theorem imgL_some {F : Nat → Nat → Int} {k : Nat} (h : sameN 1024 (F k) nought = false) : imgL F (k + 1) = imgL F k ++ [((k : Int), F k)] := by unfold imgL; rw [List.range_succ, List.filterMap_append]; simp [h]
theorem imgL_len (F : Nat → Nat → Int) (k : Nat) : (imgL F k).length ≤ k := by
  unfold imgL
  have := List.length_filterMap_le (fun (i : Nat) => if sameN 1024 (F i) nought then none else some ((i : Int), F i)) (List.range k)
  rwa [List.length_range] at this
def imRow (n : Int) (v : Value) : Array Value := #[.int .i64 n, v]
theorem imr_info (n : Int) (v : Value) : (Tryz.prog.info? 97).map (·.size) = some (imRow n v).size := by show _ = some 2; kernel_rfl
theorem imr_two (n m : Int) (v u : Value) : (imRow n v).size = (imRow m u).size := rfl
theorem imr_one (n : Int) (p : Option Addr) (m c : Nat) : (imRow n (.slice p m c)).all (·.oneCell') = true := by simp [imRow, Value.oneCell']
theorem zeroIm : ∀ w, (zeroValue 97).run Tryz.prog w = .ok (.agg (imRow 0 (.slice none 0 0))) w := (zero_of_info (show (Tryz.prog.info? 97).map (fun i => (i.zero, i.size)) = some (some (.agg (imRow 0 (.slice none 0 0))), 2) by kernel_rfl)).1
theorem wpList_buildIm {ops : Array Oper} {rest : List Oper} {o : Oper} {a : Act} {w : World} {Q : Exit → Act → World → Prop} (hw : Region.wanted o (yielded ops a.tmps) = true) (x : Operand) (ho : o.op = .build 97 #[(0, x)]) (n : Int) (hx : a.eval x = .int .i64 n)
    (h : wpList Tryz.prog ops Q rest (a.put o.dst (.agg (imRow n (.slice none 0 0)))) w) : wpList Tryz.prog ops Q (o :: rest) a w := by
  unfold wpList
  rw [if_pos hw]
  refine .inl ?_
  have z := zeroIm w
  have e : (execOp a.eval o).run Tryz.prog w = .ok (.value (.agg (imRow n (.slice none 0 0)))) w := by
    unfold imRow at *
    generalize a.eval = E at *
    unfold execOp
    simp only [ho]
    simp [go_sem, hx, z]
  unfold Oper.wp
  rw [e]
  exact h
structure ImS (w W : World) (n : Int) (v : Value) (l : List Cel) : Prop where
  res : W.heap[w.heap.size]? = some (.cells (imRow 0 (.slice none 0 0)) 97)
  row : W.heap[w.heap.size + 1]? = some (.cells (imRow n v) 97)
  own : OwnH W (w.heap.size + 2) v l
  bel : Below w.heap.size w W
theorem ImS.call {w W W' : World} {n : Int} {v : Value} {l : List Cel} (h : ImS w W n v l) (hb : Below W.heap.size W W') : ImS w W' n v l := ⟨heap_kept h.res hb, heap_kept h.row hb, h.own.later hb, below_next h.bel hb⟩
theorem ImS.push {w W : World} {n : Int} {v : Value} {l : List Cel} (h : ImS w W n v l) (hn : l.length ≤ 10000000) (x : Cel) (ty : TypeId) :
    ∃ p m c w', (Builtin.append_ #[78, 78] ty #[v, .slice (some ⟨W.heap.size, 0, none⟩) 1 1]).run Tryz.prog (W.alloc (.cells (celRow x).toArray 87)) = .ok (.slice p m c) w' ∧ w'.cell? ⟨w.heap.size + 1, 1, none⟩ = some v ∧ w'.frozen? ⟨w.heap.size + 1, 1, none⟩ = false ∧ Below w.heap.size w w' ∧ ImS w (w'.setCell ⟨w.heap.size + 1, 1, none⟩ (.slice p m c)) n (.slice p m c) (l ++ [x]) := by
  obtain ⟨i0, hi0, hz0, hz1, hz2⟩ := info_parts infoHeld
  have hsz : w.heap.size + 2 ≤ W.heap.size := by have := (Array.getElem?_eq_some_iff.1 h.row).1; omega
  obtain ⟨v', w', h1, h2, h3, h4⟩ := own_pushF celRow_len celRow_one Tryz.underlying78 hi0 hz0 hz1 hz2 (cel_size _) (by omega) (by omega) h.own hsz hn x ty
  obtain ⟨p, c, rfl, _⟩ := OwnG.lie celRow_len (show OwnH w' (w.heap.size + 2) v' (l ++ [x]) from h2)
  have hrow : w'.heap[w.heap.size + 1]? = some (.cells (imRow n v) 97) := (h4.block _ (Array.getElem?_eq_some_iff.1 h.row).1 (own_ne h.own h.row (by decide))).trans h.row
  have hres : w'.heap[w.heap.size]? = some (.cells (imRow 0 (.slice none 0 0)) 97) := (h4.block _ (Array.getElem?_eq_some_iff.1 h.res).1 (own_ne h.own h.res (by decide))).trans h.res
  have hbel := h.bel.trans (h3.mono (by omega))
  have hF := Fr.setCell w' (w.heap.size + 1) 1 (.slice p (l ++ [x]).length c)
  refine ⟨p, _, c, w', h1, Joins.cell_of_block hrow 1, frozen_row hrow 1, hbel, (hF.block _ (Array.getElem?_eq_some_iff.1 hres).1 (by omega)).trans hres, ?_, own_frame h2 hF fun b hb hT => own_ne h2 hrow (by decide) (hT ▸ hb), hbel.trans (hF.below (fun j q => by omega) hbel.size)⟩
  rw [heap_setCell_same _ _ _ _ _ _ hrow]
  rfl
set_option maxRecDepth 20000 in
set_option maxHeartbeats 8000000 in
theorem image_any {w : World} {gl n : Nat} {F : Nat → Nat → Int} (h : w.heap[gl]? = some (.cells (pgCells F n) 85)) (hn : n ≤ 1048576) :
    Calls Tryz.prog 85 #[.slice (some ⟨gl, 0, none⟩) n n] w fun e w' => ∃ v, e = .returned (.agg (imRow n v)) ∧ OwnH w' w.heap.size v (imgL F n) ∧ Below w.heap.size w w' := by
  have z := zeroIm
  have zb := zero77
  have hgl : gl < w.heap.size := (Array.getElem?_eq_some_iff.1 h).1
  obtain ⟨A, hA⟩ : ∃ A, A = (w.alloc (.cells (imRow 0 (.slice none 0 0)) 97)).alloc (.cells (imRow n (.slice none 0 0)) 97) := ⟨_, rfl⟩
  have HS : Hid (ImS w A n (.slice none 0 0) (imgL F 0)) := by
    rw [hA]
    exact ⟨heap_kept (heap_alloc_new _ _) (below_new _ _), heap_two _ _ _, OwnG.nil _ _, below_next (below_new _ _) (below_new _ _)⟩
  have HL : Hid (∀ W : World, Below w.heap.size w W → ∀ k, k < n → NumsAt W .u8 gl (k * 1024) (F k) 1024) := fun W hW k hk j hj => by
    have := cell_rowN (i := k * 1024 + j) (m := n * 1024) (heap_kept h hW) (by omega)
    rw [this, show (k * 1024 + j) / 1024 = k by omega, show (k * 1024 + j) % 1024 = j by omega]
  have HA : Hid (A = _) := hA
  clear hA h
  go_enter Tryz.func85, Tryz.ntmps85
  go_wp2_with (first | (with_reducible refine isBuildR 97 ?_; refine wpList_buildIm rfl (.tmp 6) rfl n rfl ?_) | (with_reducible refine isStoreR 97 ?_; refine wpList_stNew 97 rfl (.tmp 3) (.tmp 7) rfl (w.heap.size + 1) (imRow n (.slice none 0 0)) (imRow 0 (.slice none 0 0)) 97 (imr_info _ _) (imr_two _ _ _ _) (imr_one _ _ _ _) rfl (by simp) rfl ?_))
  rw [← HA.out]
  clear HA
  go_loopw [4] (fun s4 wx => ∃ (k : Nat) (v : Value), k ≤ n ∧ s4 = .int .i64 k ∧ Hid (ImS w wx n v (imgL F k))) (fun s4 _ => n - (intOf s4).toNat)
  case atStart => exact ⟨0, _, by omega, rfl, HS.out⟩
  case round =>
    clear HS
    obtain ⟨k, v, hk, rfl, HS⟩ := hrel
    by_cases hk2 : (k : Int) < (n : Int)
    · have hkn : k < n := by omega
      have hnum := HL.out wr HS.out.bel k hkn
      have HNum : Hid (∀ W : World, Below w.heap.size w W → NumsAt W .u8 gl (k * 1024) (F k) 1024) := fun W hW => HL.out W hW k hkn
      have HZ : Hid (sameN 1024 (F k) nought = true → imgL F (k + 1) = imgL F k) := imgL_zero
      have HO : Hid (sameN 1024 (F k) nought = false → imgL F (k + 1) = imgL F k ++ [((k : Int), F k)]) := imgL_some
      have hlen := imgL_len F k
      generalize imgL F k = lk at *
      generalize F k = fk at *
      cases hb : sameN 1024 fk nought with
      | true =>
        have HE : Hid _ := HZ.out hb
        go_wp2_with (first | (with_reducible refine isLoadR 85 ?_; refine wpList_ldB rfl (.tmp 16) rfl gl (k * 1024) fk rfl hnum ?_) | (with_reducible refine isBuildR 85 ?_; refine wpList_buildB rfl rfl ?_) | (with_reducible refine isEqR 85 85 ?_; refine wpList_neN Tryz.underlying85 eg77 rfl (.tmp 17) (.tmp 18) rfl fk nought true rfl rfl hb ?_))
        exact ⟨⟨k + 1, v, by omega, by go_num, by rw [HE.out]; exact HS.out⟩, by simp [intOf]; omega⟩
      | false =>
        have HE : Hid _ := HO.out hb
        go_upto_region 6 with (first | (with_reducible refine isLoadR 85 ?_; refine wpList_ldB rfl (.tmp 16) rfl gl (k * 1024) fk rfl hnum ?_) | (with_reducible refine isBuildR 85 ?_; refine wpList_buildB rfl rfl ?_) | (with_reducible refine isEqR 85 85 ?_; refine wpList_neN Tryz.underlying85 eg77 rfl (.tmp 17) (.tmp 18) rfl fk nought false rfl rfl hb ?_))
        clear hb HZ HO hnum
        have HSd : Hid (ImS w wr.drew n v lk) := HS.out.call (Below.refl _ _).drew
        have hc0 : wr.drew.cell? ⟨w.heap.size + 1, 1, none⟩ = some v := Joins.cell_of_block HSd.out.row 1
        have hc1 : (wr.drew.alloc (.cells (celRow ((k : Int), fk)).toArray 87)).cell? ⟨w.heap.size + 1, 1, none⟩ = some v := Joins.cell_of_block (heap_kept HSd.out.row (below_new _ _)) 1
        have hba : Below w.heap.size w (wr.drew.alloc (.cells (celRow ((k : Int), fk)).toArray 87)) := below_next HSd.out.bel (below_new _ _)
        obtain ⟨p', m', c', w', hR1, hcv, hfv, hb1, hK1⟩ := HSd.out.push (by omega) ((k : Int), fk) 78
        have HK1 : Hid (ImS w (w'.setCell ⟨w.heap.size + 1, 1, none⟩ (.slice p' m' c')) n (.slice p' m' c') (imgL F (k + 1))) := by rw [HE.out]; exact hK1
        have hbK := hK1.bel
        clear hK1 HE HS
        refine wp_region_tree (S := fun u => Below w.heap.size w u) (rdT 0 (rdT 2 (rdT 3 (rdT 4 (rdT 5 (rdT 6 (rdT 7 (altT [(1, altT [(8, altT [(9, rdT 10 (altT [(11, finT)]))])]), (8, altT [(1, altT [(9, rdT 10 (altT [(11, finT)]))])])])))))))) (by kernel_rfl) rfl (by kernel_rfl) (fun d _ _ _ _ h => by cases d <;> exact h) HSd.out.bel ?_
        generalize wr.drew = X0 at *
        refine wpT_yield (v := .pointer (some ⟨w.heap.size + 1, 1, none⟩)) rfl rfl (fun u _ => by go_simp) ?_
        simp only [Act.put, pA, pB, pC]
        refine wpT_yield (v := .int .i64 (k : Int)) rfl rfl (fun u _ => exec_mv rfl rfl) ?_
        simp only [Act.put, pA, pB, pC]
        refine wpT_yield (v := .slice (some ⟨gl, 0, none⟩) n n) rfl rfl (fun u _ => exec_mv rfl rfl) ?_
        simp only [Act.put, pA, pB, pC]
        refine wpT_yield (v := .int .i64 (k : Int)) rfl rfl (fun u _ => exec_mv rfl rfl) ?_
        simp only [Act.put, pA, pB, pC]
        refine wpT_yield (v := .pointer (some ⟨gl, k * 1024, none⟩)) rfl rfl (fun u _ => by go_simp) ?_
        simp only [Act.put, pA, pB, pC]
        refine wpT_yield (v := .agg (blk fk)) rfl rfl (fun u hu => exec_ldB rfl rfl (HNum.out u hu)) ?_
        simp only [Act.put, pA, pB, pC]
        refine wpT_yield (v := .agg (celRow ((k : Int), fk)).toArray) rfl rfl (fun u _ => exec_buildHeld (p := (k : Int)) (f := fk) rfl rfl rfl) ?_
        simp only [Act.put, pA, pB, pC]
        refine wpT_make (v := v) (w' := X0) rfl rfl (by have := hc0; go_simp) HSd.out.bel ?_ ?_
        · simp only [Act.put, pA, pB, pC]
          refine wpT_make (v := .slice (some ⟨X0.heap.size, 0, none⟩) 1 1) (w' := X0.alloc (.cells (celRow ((k : Int), fk)).toArray 87)) rfl rfl (exec_sliceHeld (c := ((k : Int), fk)) rfl rfl) hba ?_ wpT_stop
          simp only [Act.put, pA, pB, pC]
          refine wpT_make (v := .slice p' m' c') (w' := w') rfl rfl (exec_push (ad := ⟨X0.heap.size, 0, none⟩) (m := 1) (c := 1) (v := v) rfl rfl rfl hR1) hb1 ?_ wpT_stop
          simp only [Act.put, pA, pB, pC]
          refine wpT_yield (v := .pointer (some ⟨w.heap.size + 1, 1, none⟩)) rfl rfl (fun u _ => by go_simp) ?_
          simp only [Act.put, pA, pB, pC]
          refine wpT_do rfl rfl (exec_st1 sizeHs rfl rfl rfl hcv hfv) hbK ?_ wpT_stop
          simp only [Act.put]
          refine wpT_fin ?_
          generalize w'.setCell ⟨w.heap.size + 1, 1, none⟩ (.slice p' m' c') = ZZ at HK1 ⊢
          clear hcv hfv hb1 hbK hR1 hc0 hc1 hba
          go_wp2
          exact ⟨⟨k + 1, _, by omega, by go_num, HK1.out⟩, by simp [intOf]; omega⟩
        refine wpT_make (v := .slice (some ⟨X0.heap.size, 0, none⟩) 1 1) (w' := X0.alloc (.cells (celRow ((k : Int), fk)).toArray 87)) rfl rfl (exec_sliceHeld (c := ((k : Int), fk)) rfl rfl) hba ?_ wpT_stop
        simp only [Act.put, pA, pB, pC]
        refine wpT_make (v := v) (w' := X0.alloc (.cells (celRow ((k : Int), fk)).toArray 87)) rfl rfl (by have := hc1; go_simp) hba ?_ wpT_stop
        simp only [Act.put, pA, pB, pC]
        refine wpT_make (v := .slice p' m' c') (w' := w') rfl rfl (exec_push (ad := ⟨X0.heap.size, 0, none⟩) (m := 1) (c := 1) (v := v) rfl rfl rfl hR1) hb1 ?_ wpT_stop
        simp only [Act.put, pA, pB, pC]
        refine wpT_yield (v := .pointer (some ⟨w.heap.size + 1, 1, none⟩)) rfl rfl (fun u _ => by go_simp) ?_
        simp only [Act.put, pA, pB, pC]
        refine wpT_do rfl rfl (exec_st1 sizeHs rfl rfl rfl hcv hfv) hbK ?_ wpT_stop
        simp only [Act.put]
        refine wpT_fin ?_
        generalize w'.setCell ⟨w.heap.size + 1, 1, none⟩ (.slice p' m' c') = ZZ at HK1 ⊢
        clear hcv hfv hb1 hbK hR1 hc0 hc1 hba
        go_wp2
        exact ⟨⟨k + 1, _, by omega, by go_num, HK1.out⟩, by simp [intOf]; omega⟩
    · obtain rfl : k = n := by omega
      have hrow := HS.out.row
      have hres := HS.out.res
      obtain ⟨pv, cv, rfl, _⟩ := OwnG.lie celRow_len HS.out.own
      have hF := Fr.setRow wr w.heap.size (imRow k (.slice pv (imgL F k).length cv))
      have HRes : Hid (OwnH (wr.setRow w.heap.size (imRow k (.slice pv (imgL F k).length cv))) w.heap.size (.slice pv (imgL F k).length cv) (imgL F k) ∧ Below w.heap.size w (wr.setRow w.heap.size (imRow k (.slice pv (imgL F k).length cv)))) := by
        refine ⟨own_frame (HS.out.own.mono (by omega)) hF fun b hb hT => ?_, HS.out.bel.trans (hF.below (fun j q => by omega) HS.out.bel.size)⟩
        have := World.ownsRow.lt HS.out.own b hb
        omega
      clear HS hF
      obtain ⟨N, hN⟩ : ∃ N, (imgL F k).length = N := ⟨_, rfl⟩
      rw [hN] at hrow HRes
      clear hN
      go_wp2_with (first | (with_reducible refine isLoadR 97 ?_; refine wpList_ldR 97 Tryz.underlying97 rfl rfl (.tmp 3) rfl (w.heap.size + 1) rfl (imRow k (.slice pv N cv)) 97 (0, 0) (imr_info _ _) hrow ?_) | (with_reducible refine isStoreR 97 ?_; refine wpList_stR 97 rfl (.tmp 2) (.tmp 31) rfl w.heap.size (imRow k (.slice pv N cv)) (imRow 0 (.slice none 0 0)) 97 (imr_info _ _) (imr_two _ _ _ _) (imr_one _ _ _ _) rfl rfl hres ?_))
      exact retR Tryz.underlying97 rfl rfl w.heap.size _ 97 (imr_info _ _) rfl (setRow_heap _ _ _ _ _ _ hres) rfl ⟨_, rfl, HRes.out.1, HRes.out.2⟩
end Go.Proofs.YtiejhjngcnkimaaGreatR
/- A bit of a block set; the document's own words. -/
namespace Go.Proofs.YtiejhjngcnkimaaGreatR
open Go.RowKit Go.Maps
def setP (f : Nat → Int) (i : Nat) : Nat → Int := if hasP f i = true then f else updN f (i / 8) (f (i / 8) + 2 ^ (i % 8))
theorem bit_cases {P : Nat → Prop} (h : P 0 ∧ P 1 ∧ P 2 ∧ P 3 ∧ P 4 ∧ P 5 ∧ P 6 ∧ P 7) (k : Nat) (hk : k < 8) : P k := by
  rcases (show k = 0 ∨ k = 1 ∨ k = 2 ∨ k = 3 ∨ k = 4 ∨ k = 5 ∨ k = 6 ∨ k = 7 by omega) with rfl | rfl | rfl | rfl | rfl | rfl | rfl | rfl
  · exact h.1
  · exact h.2.1
  · exact h.2.2.1
  · exact h.2.2.2.1
  · exact h.2.2.2.2.1
  · exact h.2.2.2.2.2.1
  · exact h.2.2.2.2.2.2.1
  · exact h.2.2.2.2.2.2.2
theorem bit_room {a : Int} (ha : 0 ≤ a ∧ a ≤ 255) (k : Nat) (hk : k < 8) (h : ¬ a / 2 ^ k % 2 = 1) : a + 2 ^ k ≤ 255 := by
  revert h
  refine bit_cases (P := fun k => ¬ a / 2 ^ k % 2 = 1 → a + 2 ^ k ≤ 255) ⟨?_, ?_, ?_, ?_, ?_, ?_, ?_, ?_⟩ k hk <;> (intro h; omega)
theorem setP_byt {f : Nat → Int} (hf : Byt f) (i : Nat) : Byt (setP f i) := fun j => by
  unfold setP
  split
  · exact hf j
  · rename_i h
    unfold updN
    split
    · have h1 := hf (i / 8)
      have h2 := bit_room h1 (i % 8) (by omega) (by unfold hasP at h; simpa using h)
      have h3 : (0 : Int) < 2 ^ (i % 8) := Int.pow_pos (by decide)
      omega
    · exact hf j
theorem bit_same {a : Int} (ha : 0 ≤ a ∧ a ≤ 255) (k m : Nat) (hk : k < 8) (hm : m < 8) (h : ¬ a / 2 ^ k % 2 = 1) : ((a + 2 ^ k) / 2 ^ m % 2 = 1) ↔ (m = k ∨ a / 2 ^ m % 2 = 1) := by
  rcases (show k = 0 ∨ k = 1 ∨ k = 2 ∨ k = 3 ∨ k = 4 ∨ k = 5 ∨ k = 6 ∨ k = 7 by omega) with rfl | rfl | rfl | rfl | rfl | rfl | rfl | rfl <;>
    rcases (show m = 0 ∨ m = 1 ∨ m = 2 ∨ m = 3 ∨ m = 4 ∨ m = 5 ∨ m = 6 ∨ m = 7 by omega) with rfl | rfl | rfl | rfl | rfl | rfl | rfl | rfl <;> omega
theorem setP_has {f : Nat → Int} (hf : Byt f) (i j : Nat) : hasP (setP f i) j = (decide (j = i) || hasP f j) := by
  unfold setP
  split
  · rename_i h
    by_cases e : j = i
    · subst e; rw [h]; simp
    · simp [e]
  · rename_i h
    have h' : ¬ f (i / 8) / 2 ^ (i % 8) % 2 = 1 := by unfold hasP at h; simpa using h
    unfold hasP updN
    by_cases e : j / 8 = i / 8
    · rw [if_pos e, e]
      have hb := bit_same (hf (i / 8)) (i % 8) (j % 8) (by omega) (by omega) h'
      by_cases q : (f (i / 8) + 2 ^ (i % 8)) / 2 ^ (j % 8) % 2 = 1
      · have := hb.1 q
        rw [show ((f (i / 8) + 2 ^ (i % 8)) / 2 ^ (j % 8) % 2 == 1) = true by simp [q]]
        rcases this with r | r
        · rw [show j = i by omega]; simp
        · simp [r]
      · have h1 : ¬ j % 8 = i % 8 := fun r => q (hb.2 (.inl r))
        have h2 : ¬ f (i / 8) / 2 ^ (j % 8) % 2 = 1 := fun r => q (hb.2 (.inr r))
        rw [beq_eq_false_iff_ne.2 q, beq_eq_false_iff_ne.2 h2, decide_eq_false (show ¬ j = i by omega)]
        rfl
    · rw [if_neg e, decide_eq_false (show ¬ j = i from fun q => e (by rw [q]))]
      rfl
structure StS (w W : World) (f : Nat → Int) : Prop where
  row : W.heap[w.heap.size]? = some (.cells (blk f) 85)
  res : W.heap[w.heap.size + 1]? = some (.cells (blk nought) 85)
  bel : Below w.heap.size w W
theorem StS.call {w W W' : World} {f : Nat → Int} (h : StS w W f) (hb : Below W.heap.size W W') : StS w W' f := ⟨heap_kept h.row hb, heap_kept h.res hb, below_next h.bel hb⟩
theorem StS.set {w W : World} {f : Nat → Int} (h : StS w W f) (j : Nat) (x : Int) : StS w (W.setCell ⟨w.heap.size, j, none⟩ (.int .u8 x)) (updN f j x) := by
  have hF := Fr.setCell W w.heap.size j (.int .u8 x)
  exact ⟨setCell_rowN (m := 1024) h.row j x, (hF.block _ (Array.getElem?_eq_some_iff.1 h.res).1 (by omega)).trans h.res, h.bel.trans (hF.below (fun j q => by omega) h.bel.size)⟩
set_option maxRecDepth 20000 in
set_option maxHeartbeats 4000000 in
theorem set02_any (f : Nat → Int) (i : Nat) (w : World) (hf : Byt f) (hi : i < 8192) :
    Calls Tryz.prog 83 #[.agg (blk f), .int .i64 (i : Int), .bool true] w fun e w' => e = .returned (.agg (blk (setP f i))) ∧ Below w.heap.size w w' := by
  have z := zero77
  obtain ⟨A, hA⟩ : ∃ A, A = (w.alloc (.cells (blk f) 85)).alloc (.cells (blk nought) 85) := ⟨_, rfl⟩
  have HS : Hid (StS w A f) := by rw [hA]; exact ⟨heap_kept (heap_alloc_new _ _) (below_new _ _), heap_two _ _ _, below_next (below_new _ _) (below_new _ _)⟩
  have hhas := has02_any f i A hf hi
  have HA : Hid (A = _) := hA
  have HF : Hid _ := hf
  clear hA hf
  have t1 : decide ((i : Int) < 0) = false := decide_eq_false (by omega)
  have t2 : decide ((8192 : Int) ≤ (i : Int)) = false := decide_eq_false (by omega)
  have t2' : decide (8192 ≤ i) = false := decide_eq_false (by omega)
  have hb0 := blk_at HS.out.row
  have HSt : Hid (hasP f i = true → setP f i = f) := fun h => by unfold setP; rw [if_pos h]
  have HSf : Hid (hasP f i = false → setP f i = updN f (i / 8) (f (i / 8) + 2 ^ (i % 8))) := fun h => by unfold setP; rw [if_neg (by rw [h]; decide)]
  have HRm : Hid (hasP f i = false → f (i / 8) + 2 ^ (i % 8) ≤ 255) := fun h => bit_room (HF.out _) (i % 8) (by omega) (by unfold hasP at h; simpa using h)
  go_enter Tryz.func83, Tryz.ntmps83
  go_upto_region 1 with fail
  rw [← HA.out]
  clear HA
  go_wp2_with (first | (with_reducible refine isLoadR 85 ?_; refine wpList_ldB rfl (.tmp 3) rfl w.heap.size 0 f rfl hb0 ?_) | (go_at_call 137; fail))
  refine hhas.mono ?_
  rintro e W1 ⟨rfl, hb⟩
  have HS1 : Hid (StS w W1 f) := HS.out.call hb
  clear hhas hb HS hb0 t1 t2 t2'
  have hb1 := blk_at HS1.out.row
  have hres := HS1.out.res
  cases hh : hasP f i with
  | true =>
    have HE : Hid _ := HSt.out hh
    clear HSt HSf HRm hh
    go_wp2_with (first | (with_reducible refine isLoadR 85 ?_; refine wpList_ldB rfl (.tmp 3) rfl w.heap.size 0 f rfl hb1 ?_) | (with_reducible refine isStoreR 85 ?_; refine wpList_stB rfl (.tmp 6) (.tmp 22) rfl (w.heap.size + 1) f nought 85 rfl rfl hres ?_))
    exact retB rfl (w.heap.size + 1) f 85 rfl (setRow_heap _ _ _ _ _ _ hres) rfl ⟨by rw [HE.out], HS1.out.bel.trans ((Fr.setRow W1 (w.heap.size + 1) (blk f)).below (fun i hi => by omega) HS1.out.bel.size)⟩
  | false =>
    have HE : Hid _ := HSf.out hh
    have hrm := HRm.out hh
    have hf8 := HF.out (i / 8)
    clear HSt HSf HRm hh hb1 hres
    have e1 : (i : Int).tmod 8 = ((i % 8 : Nat) : Int) := by rw [Int.tmod_eq_emod_of_nonneg (by omega)]; omega
    have e2 : IntKind.i64.wrap ((i % 8 : Nat) : Int) = ((i % 8 : Nat) : Int) := by rw [IntKind.wrap_i64]; omega
    have e3 : (i : Int).tdiv 8 = ((i / 8 : Nat) : Int) := by rw [Int.tdiv_eq_ediv_of_nonneg (by omega)]; omega
    have e4 : IntKind.i64.wrap ((i / 8 : Nat) : Int) = ((i / 8 : Nat) : Int) := by rw [IntKind.wrap_i64]; omega
    have hi8 : i / 8 < 1024 := by omega
    have hr8 : i % 8 < 8 := by omega
    generalize i / 8 = q at *
    generalize i % 8 = r at *
    go_wp2
    go_loopw [7, 8] (fun s7 s8 wx => wx = W1 ∧ ∃ k : Nat, k ≤ r ∧ s8 = .int .i64 k ∧ s7 = .int .u8 (2 ^ k)) (fun _ s8 _ => r - (intOf s8).toNat)
    case atStart => exact ⟨rfl, 0, by omega, rfl, rfl⟩
    case round =>
      obtain ⟨rfl, k, hk, rfl, rfl⟩ := hrel
      by_cases hk2 : (k : Int) < (r : Int)
      · have hp : (2 : Int) ^ k ≤ 64 := bit_cases (P := fun k => k < 7 → (2 : Int) ^ k ≤ 64) ⟨by decide, by decide, by decide, by decide, by decide, by decide, by decide, by omega⟩ k (by omega) (by omega)
        have hp0 : (0 : Int) < 2 ^ k := Int.pow_pos (by decide)
        have HP : Hid ((2 : Int) ^ (k + 1) = 2 * 2 ^ k) := by show _ = _; rw [Int.pow_succ]; omega
        generalize (2 : Int) ^ k = pk at *
        have e5 : IntKind.u8.wrap (2 * pk) = 2 * pk := by rw [IntKind.wrap_u8]; omega
        have hkr : k < r := by omega
        go_wp2
        exact ⟨⟨trivial, k + 1, by omega, by go_num, by rw [HP.out]⟩, by simp [intOf]; omega⟩
      · obtain rfl : k = r := by omega
        have cb := cell_rowN (i := q) (m := 1024) HS1.out.row hi8
        have fb := frozen_row HS1.out.row q
        have hp0 : (0 : Int) < 2 ^ k := Int.pow_pos (by decide)
        have HS2 : Hid (StS w (wr.setCell ⟨w.heap.size, q, none⟩ (.int .u8 (f q + 2 ^ k))) (setP f i)) := by
          rw [HE.out]
          exact HS1.out.set q _
        obtain ⟨f2, hf2⟩ : ∃ f2, setP f i = f2 := ⟨_, rfl⟩
        have HF2 : Hid (setP f i = f2) := hf2
        rw [hf2] at HS2
        clear hf2
        generalize (2 : Int) ^ k = pk at *
        generalize f q = fq at *
        have e5 : IntKind.u8.wrap (fq + pk) = fq + pk := by rw [IntKind.wrap_u8]; omega
        clear HE HS1
        go_upto_region 11 with fail
        generalize wr.setCell ⟨w.heap.size, q, none⟩ (.int .u8 (fq + pk)) = X at *
        clear cb fb
        have hb2 := blk_at HS2.out.row
        have hres := HS2.out.res
        have HB : Hid _ := HS2.out.bel
        clear HS2
        go_wp2_with (first | (with_reducible refine isLoadR 85 ?_; refine wpList_ldB rfl (.tmp 3) rfl w.heap.size 0 f2 rfl hb2 ?_) | (with_reducible refine isStoreR 85 ?_; refine wpList_stB rfl (.tmp 6) (.tmp 50) rfl (w.heap.size + 1) f2 nought 85 rfl rfl hres ?_))
        exact retB rfl (w.heap.size + 1) f2 85 rfl (setRow_heap _ _ _ _ _ _ hres) rfl ⟨by rw [HF2.out], HB.out.trans ((Fr.setRow X (w.heap.size + 1) (blk f2)).below (fun i hi => by omega) HB.out.size)⟩
end Go.Proofs.YtiejhjngcnkimaaGreatR
/- A disk's image that holds a state, laid without a seed: the document's Laid, over what is said of each item. -/
namespace Go.Proofs.YtiejhjngcnkimaaGreatR
open Go.RowKit Go.Maps
set_option maxRecDepth 20000 in
set_option maxHeartbeats 1000000 in
theorem divisor_one (m : Nat) (hm : 1 < m) (hm2 : m ≤ 1048576) (w : World) : Calls Tryz.prog 80 #[.int .i64 1, .int .i64 (m : Int)] w fun e w' => e = .returned (.int .i64 1) ∧ Below w.heap.size w w' := by
  go_enter Tryz.func80, Tryz.ntmps80
  go_wp2
  go_loopw [0, 1] (fun s0 s1 wx => ((s0 = .int .i64 1 ∧ s1 = .int .i64 (m : Int)) ∨ (s0 = .int .i64 (m : Int) ∧ s1 = .int .i64 1) ∨ (s0 = .int .i64 1 ∧ s1 = .int .i64 0)) ∧ Hid (Below w.heap.size w wx)) (fun _ s1 _ => (intOf s1).toNat)
  case atStart => exact ⟨.inl ⟨rfl, rfl⟩, Below.refl _ _⟩
  case round =>
    obtain ⟨hc, HW⟩ := hrel
    have HW2 : Hid (∀ q, Below w.heap.size w (wr.drewN q)) := fun q => belowN HW.out q
    have e1 : (1 : Int).tmod (m : Int) = 1 := by rw [Int.tmod_eq_emod_of_nonneg (by omega)]; exact Int.emod_eq_of_lt (by omega) (by omega)
    have e2 : (m : Int).tmod 1 = 0 := by simp
    have hm0 : ((m : Int) == 0) = false := by simp; omega
    have hm1 : (0 : Int) < (m : Int) := by omega
    have hm2' : 0 < m := by omega
    have hmz : ¬ (m : Int) = 0 := by omega
    have hmz' : ¬ m = 0 := by omega
    rcases hc with ⟨rfl, rfl⟩ | ⟨rfl, rfl⟩ | ⟨rfl, rfl⟩
    · go_wp2_with fail
      go_quiet (fail)
      go_wp2
      exact ⟨⟨.inr (.inl ⟨rfl, rfl⟩), HW2.out _⟩, by simp [intOf]; omega⟩
    · go_wp2_with fail
      go_quiet (fail)
      go_wp2
      exact ⟨⟨.inr (.inr ⟨rfl, rfl⟩), HW2.out _⟩, by simp [intOf]⟩
    · go_wp2
      go_ret
      exact ⟨rfl, HW.out⟩
set_option maxHeartbeats 400000 in
theorem pick_zero (w : World) : Calls Tryz.prog 79 #[.int .i64 0, .int .i64 1000003] w fun e w' => e = .returned (.int .i64 0) ∧ w' = w := by
  go_enter Tryz.func79, Tryz.ntmps79
  go_wp2
  go_ret
  exact ⟨rfl, rfl⟩
def bitsR (f : Nat → Int) (want : Nat → Bool) : Nat → Nat → Int
  | 0 => f
  | k + 1 => if want k then setP (bitsR f want k) k else bitsR f want k
theorem bitsR_byt {f : Nat → Int} (hf : Byt f) (want : Nat → Bool) : ∀ k, Byt (bitsR f want k)
  | 0 => hf
  | k + 1 => by
    unfold bitsR
    split
    · exact setP_byt (bitsR_byt hf want k) k
    · exact bitsR_byt hf want k
theorem bitsR_has {f : Nat → Int} (hf : Byt f) (want : Nat → Bool) : ∀ k j, hasP (bitsR f want k) j = (decide (j < k) && want j || hasP f j)
  | 0, j => by unfold bitsR; simp
  | k + 1, j => by
    unfold bitsR
    have ih := bitsR_has hf want k j
    split
    · rename_i h
      rw [setP_has (bitsR_byt hf want k), ih]
      by_cases e : j = k
      · subst e; simp [h]
      · by_cases q : j < k
        · simp [e, q, show j < k + 1 by omega]
        · simp [e, q, show ¬ j < k + 1 by omega]
    · rename_i h
      rw [ih]
      by_cases e : j = k
      · subst e; simp [h]
      · by_cases q : j < k
        · simp [q, show j < k + 1 by omega]
        · simp [q, show ¬ j < k + 1 by omega]
theorem infoBlk : (Tryz.prog.info? 85).map (fun i => (i.zero, i.size, i.bytes)) = some (some (.agg (blk nought)), 1024, 1024) := by kernel_rfl
theorem blk_got (f : Nat → Int) (j : Nat) (h : j < 1024) : (blk f)[j]? = some (.int .u8 (f j)) := rowN_get _ _ _ _ h
def noF : Nat → Nat → Int := fun _ => nought
theorem made_blks (n : Nat) : madeCells (blk nought) (n * 1024) = pgCells noF n := by
  unfold pgCells
  refine rowN_ext ?_ fun j hj => ?_
  · generalize blk nought = Z at *
    simp [madeCells]
  · have h1 := blk_size nought
    have h2 : ∀ q, q < 1024 → (blk nought)[q]? = some (.int .u8 0) := fun q hq => blk_got nought q hq
    generalize blk nought = Z at *
    have h3 := h2 (j % 1024) (by omega)
    simp only [madeCells, h1]
    rw [Array.getElem?_map, Array.getElem?_range, if_pos hj]
    simp only [Option.map_some]
    rw [getElem!_def, h3]
    rfl
theorem run_makeBlk (u : World) (n : Nat) (hn : n ≤ 1048576) :
    (Instr.makeSlice 146 (.int .i64 (n : Int)) (.int .i64 (n : Int))).run Tryz.prog u = .ok (.slice (some ⟨u.heap.size, 0, none⟩) n n) (u.alloc (.cells (pgCells noF n) 85)) := by
  obtain ⟨i0, hi0, hz0, hz1, hz2⟩ := info_parts infoBlk
  have h := run_make (P := Tryz.prog) u 146 85 i0 (.agg (blk nought)) Tryz.underlying146 hi0 hz0 .i64 .i64 n n (by omega) (Int.le_refl _) (by rw [hz2]; omega) (by omega)
  rw [Int.toNat_natCast, hz1] at h
  rw [h]
  have e : (Value.agg (blk nought)).cells = blk nought := rfl
  rw [e, made_blks]
theorem exec_buildPg {o : Oper} {a : Act} {W : World} {x0 x1 x2 : Operand} {y : Lay} {gl gu n : Nat} (ho : o.op = .build 149 #[(0, x0), (1, x1), (2, x2)]) (h0 : a.eval x0 = .agg (layRow y)) (h1 : a.eval x1 = .slice (some ⟨gl, 0, none⟩) n n) (h2 : a.eval x2 = .slice (some ⟨gu, 0, none⟩) n n) : (execOp a.eval o).run Tryz.prog W = .ok (.value (.agg (pgRow y gl gu n 0 0 false))) W := by
  have z := (zero_of_info (show (Tryz.prog.info? 149).map (fun i => (i.zero, i.size)) = some (some (.agg #[.int .i64 0, .int .i64 0, .int .i64 0, .int .i64 0, .int .i64 0, .int .i64 0, .int .i64 0, .int .i64 0, .int .i64 0, .slice none 0 0, .slice none 0 0, .int .i64 0, .int .i64 0, .bool false]), 14) by kernel_rfl)).1 W
  unfold layRow at h0
  unfold pgRow
  generalize a.eval = E at *
  unfold execOp
  simp only [ho]
  simp [go_sem, h0, h1, h2, z]
structure LaS (w W : World) (gw gp gl gu n : Nat) (y : Lay) (F : Nat → Nat → Int) (U : Nat → Bool) (turn next : Int) (b l i : Int) (sv : Value) (fr sp : Int) : Prop where
  geo : W.heap[w.heap.size]? = some (.cells (geoRow b l i) 26)
  st : W.heap[w.heap.size + 1]? = some (.cells (stRow sv fr sp) 29)
  res : W.heap[w.heap.size + 2]? = some (.cells (imRow 0 (.slice none 0 0)) 97)
  lay : W.heap[gw]? = some (.cells (layRow y) 61)
  pg : PgAt W gp gl gu n y F U turn next
  far : w.heap.size + 2 < gw ∧ gw < gp ∧ gw < gl ∧ gw < gu
  bel : Below w.heap.size w W
section
variable {w W W' : World} {gw gp gl gu n : Nat} {y : Lay} {F F' : Nat → Nat → Int} {U U' : Nat → Bool} {turn next turn' next' : Int} {b l i : Int} {sv : Value} {fr sp : Int}
theorem LaS.call (h : LaS w W gw gp gl gu n y F U turn next b l i sv fr sp) (hb : Below W.heap.size W W') : LaS w W' gw gp gl gu n y F U turn next b l i sv fr sp := ⟨heap_kept h.geo hb, heap_kept h.st hb, heap_kept h.res hb, heap_kept h.lay hb, h.pg.later hb, h.far, below_next h.bel hb⟩
theorem LaS.page (h : LaS w W gw gp gl gu n y F U turn next b l i sv fr sp) (hp : PgAt W' gp gl gu n y F' U' turn' next') (hf : PgFr gp gl gu W W') : LaS w W' gw gp gl gu n y F' U' turn' next' b l i sv fr sp := by
  have hq := h.far
  exact ⟨(hf.block _ (Array.getElem?_eq_some_iff.1 h.geo).1 (by omega)).trans h.geo, (hf.block _ (Array.getElem?_eq_some_iff.1 h.st).1 (by omega)).trans h.st, (hf.block _ (Array.getElem?_eq_some_iff.1 h.res).1 (by omega)).trans h.res, (hf.block _ (Array.getElem?_eq_some_iff.1 h.lay).1 (by omega)).trans h.lay, hp, hq, h.bel.trans (hf.below (fun j q => by omega) h.bel.size)⟩
theorem PgAt.setTurn (h : PgAt W gp gl gu n y F U turn next) (x : Int) : PgAt (W.setCell ⟨gp, 11, none⟩ (.int .i64 x)) gp gl gu n y F U x next := by
  have hF := Fr.setCell W gp 11 (.int .i64 x)
  refine ⟨?_, (hF.block _ (Array.getElem?_eq_some_iff.1 h.blks).1 (fun q => h.ne1 q.symm)).trans h.blks, (hF.block _ (Array.getElem?_eq_some_iff.1 h.used).1 (fun q => h.ne2 q.symm)).trans h.used, h.ne1, h.ne2, h.ne3⟩
  rw [heap_setCell_same _ _ _ _ _ _ h.row]
  rfl
end
end Go.Proofs.YtiejhjngcnkimaaGreatR
/- Two states that are the same: the document's Same says so. -/
namespace Go.Proofs.YtiejhjngcnkimaaGreatR
open Go.RowKit Go.Maps
set_option maxRecDepth 20000 in
set_option maxHeartbeats 1000000 in
theorem sameHeld28_none (w : World) (p q : Option Addr) (c d : Nat) : Calls Tryz.prog 198 #[.slice p 0 c, .slice q 0 d] w fun e w' => e = .returned (.bool true) ∧ w' = w := by
  go_enter Tryz.func198, Tryz.ntmps198
  go_wp2
  go_loopw [5] (fun s5 wx => s5 = .int .i64 0 ∧ wx = w) (fun _ _ => 0)
  case atStart => exact ⟨rfl, rfl⟩
  case round =>
    obtain ⟨rfl, rfl⟩ := hrel
    go_wp2
    go_ret
    exact ⟨rfl, rfl⟩
set_option maxRecDepth 20000 in
set_option maxHeartbeats 1000000 in
theorem sameEntries28_eq {w : World} {p q : Option Addr} {es : List (Int × ByteArray)} (c d : Nat) (h1 : LieG enE 2 w p es) (h2 : LieG enE 2 w q es) (hl : es.length ≤ 1000000) : Calls Tryz.prog 199 #[.slice p es.length c, .slice q es.length d] w fun e w' => e = .returned (.bool true) ∧ Below w.heap.size w w' := by
  have H1 : Hid (LieG enE 2 w p es) := h1
  have H2 : Hid (LieG enE 2 w q es) := h2
  clear h1 h2
  generalize hM : es.length = M at *
  have HM : Hid (es.length = M) := hM
  clear hM
  go_enter Tryz.func199, Tryz.ntmps199
  go_wp2
  go_loopw [5] (fun s5 wx => ∃ i : Nat, i ≤ M ∧ s5 = .int .i64 i ∧ Hid (Below w.heap.size w wx)) (fun s5 _ => M - (intOf s5).toNat)
  case atStart => exact ⟨0, by omega, rfl, Below.refl _ _⟩
  case round =>
    obtain ⟨i, hi, rfl, HW⟩ := hrel
    by_cases hi2 : (i : Int) < (M : Int)
    · have hil : i < es.length := by rw [HM.out]; omega
      obtain ⟨g1, rfl, hg1, hc1⟩ := (H1.out.later HW.out) (by omega)
      obtain ⟨g2, rfl, hg2, hc2⟩ := (H2.out.later HW.out) (by omega)
      have he : es[i]? = some es[i] := List.getElem?_eq_getElem hil
      have a0 : wr.cell? ⟨g1, i * 2, none⟩ = some (.int .u16 (es[i]).1) := hc1 i _ he 0 _ rfl
      have a1 : wr.cell? ⟨g1, i * 2 + 1, none⟩ = some (.string (es[i]).2) := hc1 i _ he 1 _ rfl
      have b0 : wr.cell? ⟨g2, i * 2, none⟩ = some (.int .u16 (es[i]).1) := hc2 i _ he 0 _ rfl
      have b1 : wr.cell? ⟨g2, i * 2 + 1, none⟩ = some (.string (es[i]).2) := hc2 i _ he 1 _ rfl
      have hiM : i < M := by omega
      have HW2 : Hid (∀ q, Below w.heap.size w (wr.drewN q)) := fun q => belowN HW.out q
      generalize (es[i]).1 = x at *
      generalize (es[i]).2 = s at *
      clear hc1 hc2 he hil hg1 hg2 HW
      go_upto_region 6 with fail
      go_quiet (fail)
      go_wp2
      exact ⟨⟨i + 1, by omega, by go_num, HW2.out _⟩, by simp [intOf]; omega⟩
    · obtain rfl : i = M := by omega
      go_wp2
      go_ret
      exact ⟨rfl, HW.out⟩
structure SameIt (w : World) (t u : It) (es : List (Int × ByteArray)) : Prop where
  i : t.i = u.i
  k : t.k = u.k
  lk : t.lk = u.lk
  s : t.s = u.s
  b : t.b = u.b
  d1 : t.m = 0
  d2 : u.m = 0
  n1 : t.n = es.length
  n2 : u.n = es.length
  e1 : LieG enE 2 w t.q es
  e2 : LieG enE 2 w u.q es
  len : es.length ≤ 1000000
theorem SameIt.later {w W : World} {t u : It} {es : List (Int × ByteArray)} (h : SameIt w t u es) (hb : Below w.heap.size w W) : SameIt W t u es := ⟨h.i, h.k, h.lk, h.s, h.b, h.d1, h.d2, h.n1, h.n2, h.e1.later hb, h.e2.later hb, h.len⟩
theorem itC_info (t : It) : (Tryz.prog.info? 81).map (·.size) = some (itCells t).toArray.size := sizeIt
theorem loadI {w : World} {b off : Nat} {t : It} (h : ∀ j u, (itCells t)[j]? = some u → w.cell? ⟨b, off + j, none⟩ = some u) : (Instr.loadAt 81 (.pointer (some ⟨b, off, none⟩))).run Tryz.prog w = .ok (.agg (itCells t).toArray) w :=
  run_loadAt_mid (P := Tryz.prog) w b off 81 (itCells t) _ (fun j v hv => h j v hv) Tryz.underlying81 rfl (by rw [itCells_len]; exact sizeIt)
theorem exec_ldI {o : Oper} {a : Act} {W : World} {x : Operand} {b off : Nat} {t : It} (ho : o.op = .load 81 x) (hx : a.eval x = .pointer (some ⟨b, off, none⟩)) (hg : ∀ j u, (itCells t)[j]? = some u → W.cell? ⟨b, off + j, none⟩ = some u) : (execOp a.eval o).run Tryz.prog W = .ok (.value (.agg (itCells t).toArray)) W := by
  unfold execOp
  simp only [ho, hx, loadI hg, Sem.run_bind, Result.andThen_ok, Sem.run_pure]
set_option maxRecDepth 20000 in
set_option maxHeartbeats 4000000 in
theorem sameItem28_eq {w : World} {t u : It} {es : List (Int × ByteArray)} (h : SameIt w t u es) : Calls Tryz.prog 131 #[.agg (itCells t).toArray, .agg (itCells u).toArray] w fun e w' => e = .returned (.bool true) ∧ Below w.heap.size w w' := by
  obtain ⟨ti, tk, tlk, ts, tb, tp, tm, tc, tq, tn, td⟩ := t
  obtain ⟨ui, uk, ulk, us, ub, up, um, uc, uq, un, ud⟩ := u
  obtain ⟨h1, h2, h3, h4, h5, h6, h7, h8, h9, h10, h11, h12⟩ := h
  simp only at h1 h2 h3 h4 h5 h6 h7 h8 h9 h10 h11
  subst h1 h2 h3 h4 h5 h6 h7 h8 h9
  obtain ⟨A, hA⟩ : ∃ A, A = (w.alloc (.cells (itCells ⟨ti, tk, tlk, ts, tb, tp, 0, tc, tq, es.length, td⟩).toArray 81)).alloc (.cells (itCells ⟨ti, tk, tlk, ts, tb, up, 0, uc, uq, es.length, ud⟩).toArray 81) := ⟨_, rfl⟩
  have hx : A.heap[w.heap.size]? = some (.cells (itCells ⟨ti, tk, tlk, ts, tb, tp, 0, tc, tq, es.length, td⟩).toArray 81) := by rw [hA]; exact heap_kept (heap_alloc_new _ _) (below_new _ _)
  have hy : A.heap[w.heap.size + 1]? = some (.cells (itCells ⟨ti, tk, tlk, ts, tb, up, 0, uc, uq, es.length, ud⟩).toArray 81) := by rw [hA]; exact heap_two _ _ _
  have hb : Below w.heap.size w A := by rw [hA]; exact below_next (below_new _ _) (below_new _ _)
  have HB : Hid _ := hb
  have hse := sameEntries28_eq td ud (h10.later hb) (h11.later hb) h12
  have hsh := sameHeld28_none A tp up tc uc
  have HA : Hid (A = _) := hA
  clear hA h10 h11 h12 hb
  generalize es.length = M at *
  have a0 : A.cell? ⟨w.heap.size, 0, none⟩ = some (.int .i64 ti) := Joins.cell_of_block hx 0
  have a1 : A.cell? ⟨w.heap.size, 1, none⟩ = some (.int .u16 tk) := Joins.cell_of_block hx 1
  have a2 : A.cell? ⟨w.heap.size, 2, none⟩ = some (.int .i64 tlk) := Joins.cell_of_block hx 2
  have a3 : A.cell? ⟨w.heap.size, 3, none⟩ = some (.int .i64 ts) := Joins.cell_of_block hx 3
  have a4 : A.cell? ⟨w.heap.size, 4, none⟩ = some (.int .i64 tb) := Joins.cell_of_block hx 4
  have a5 : A.cell? ⟨w.heap.size, 5, none⟩ = some (.slice tp 0 tc) := Joins.cell_of_block hx 5
  have a6 : A.cell? ⟨w.heap.size, 6, none⟩ = some (.slice tq M td) := Joins.cell_of_block hx 6
  have b0 : A.cell? ⟨w.heap.size + 1, 0, none⟩ = some (.int .i64 ti) := Joins.cell_of_block hy 0
  have b1 : A.cell? ⟨w.heap.size + 1, 1, none⟩ = some (.int .u16 tk) := Joins.cell_of_block hy 1
  have b2 : A.cell? ⟨w.heap.size + 1, 2, none⟩ = some (.int .i64 tlk) := Joins.cell_of_block hy 2
  have b3 : A.cell? ⟨w.heap.size + 1, 3, none⟩ = some (.int .i64 ts) := Joins.cell_of_block hy 3
  have b4 : A.cell? ⟨w.heap.size + 1, 4, none⟩ = some (.int .i64 tb) := Joins.cell_of_block hy 4
  have b5 : A.cell? ⟨w.heap.size + 1, 5, none⟩ = some (.slice up 0 uc) := Joins.cell_of_block hy 5
  have b6 : A.cell? ⟨w.heap.size + 1, 6, none⟩ = some (.slice uq M ud) := Joins.cell_of_block hy 6
  clear hx hy
  go_enter Tryz.func131, Tryz.ntmps131
  go_upto_region 1 with fail
  rw [← HA.out]
  clear HA
  go_wp2_with (first | (go_at_call 198; fail))
  refine hsh.mono ?_
  rintro e W1 ⟨rfl, rfl⟩
  go_wp2_with (first | (go_at_call 199; fail))
  refine hse.mono ?_
  rintro e W2 ⟨rfl, hb⟩
  have HB2 : Hid (Below w.heap.size w W2) := below_next HB.out hb
  clear hse hb hsh a0 a1 a2 a3 a4 a5 a6 b0 b1 b2 b3 b4 b5 b6
  go_wp2
  go_ret
  exact ⟨rfl, HB2.out⟩
structure SameSt (w : World) (p q : Option Addr) (ts us : List It) (E : Nat → List (Int × ByteArray)) : Prop where
  len : us.length = ts.length
  max : ts.length ≤ 1000000
  l1 : LieG itCells 7 w p ts
  l2 : LieG itCells 7 w q us
  eq : ∀ (j : Nat) t u, ts[j]? = some t → us[j]? = some u → SameIt w t u (E j)
set_option maxRecDepth 20000 in
set_option maxHeartbeats 4000000 in
theorem same28_eq {w : World} {p q : Option Addr} {ts us : List It} {E : Nat → List (Int × ByteArray)} (c d : Nat) (fr sp : Int) (h : SameSt w p q ts us E) : Calls Tryz.prog 78 #[.agg (stRow (.slice p ts.length c) fr sp), .agg (stRow (.slice q us.length d) fr sp)] w fun e w' => e = .returned (.bool true) ∧ Below w.heap.size w w' := by
  have HS : Hid _ := h
  have hlen := h.len
  have hmax := h.max
  clear h
  rw [hlen]
  clear hlen
  obtain ⟨M, hM⟩ : ∃ M, ts.length = M := ⟨_, rfl⟩
  have HM : Hid (ts.length = M) := hM
  rw [hM] at hmax ⊢
  clear hM
  obtain ⟨A, hA⟩ : ∃ A, A = (w.alloc (.cells (stRow (.slice p M c) fr sp) 29)).alloc (.cells (stRow (.slice q M d) fr sp) 29) := ⟨_, rfl⟩
  have hx : A.heap[w.heap.size]? = some (.cells (stRow (.slice p M c) fr sp) 29) := by rw [hA]; exact heap_kept (heap_alloc_new _ _) (below_new _ _)
  have hy : A.heap[w.heap.size + 1]? = some (.cells (stRow (.slice q M d) fr sp) 29) := by rw [hA]; exact heap_two _ _ _
  have HB : Hid (Below w.heap.size w A) := by rw [hA]; exact below_next (below_new _ _) (below_new _ _)
  have HX : Hid _ := hx
  have HY : Hid _ := hy
  have HA : Hid (A = _) := hA
  clear hA
  have a0 : A.cell? ⟨w.heap.size, 0, none⟩ = some (.slice p M c) := Joins.cell_of_block hx 0
  have a1 : A.cell? ⟨w.heap.size, 1, none⟩ = some (.int .i64 fr) := Joins.cell_of_block hx 1
  have a2 : A.cell? ⟨w.heap.size, 2, none⟩ = some (.int .i64 sp) := Joins.cell_of_block hx 2
  have b0 : A.cell? ⟨w.heap.size + 1, 0, none⟩ = some (.slice q M d) := Joins.cell_of_block hy 0
  have b1 : A.cell? ⟨w.heap.size + 1, 1, none⟩ = some (.int .i64 fr) := Joins.cell_of_block hy 1
  have b2 : A.cell? ⟨w.heap.size + 1, 2, none⟩ = some (.int .i64 sp) := Joins.cell_of_block hy 2
  clear hx hy
  go_enter Tryz.func78, Tryz.ntmps78
  go_upto_region 1 with fail
  rw [← HA.out]
  clear HA
  go_wp2
  clear a0 a1 a2 b0 b1 b2
  go_loopw [5] (fun s5 wx => ∃ i : Nat, i ≤ M ∧ s5 = .int .i64 i ∧ Hid (Below A.heap.size A wx)) (fun s5 _ => M - (intOf s5).toNat)
  case atStart => exact ⟨0, by omega, rfl, Below.refl _ _⟩
  case round =>
    obtain ⟨i, hi, rfl, HW⟩ := hrel
    have a0 : wr.cell? ⟨w.heap.size, 0, none⟩ = some (.slice p M c) := Joins.cell_of_block (heap_kept HX.out HW.out) 0
    by_cases hi2 : (i : Int) < (M : Int)
    · have hbw := below_next HB.out HW.out
      have hil : i < ts.length := by rw [HM.out]; omega
      have hiu : i < us.length := by rw [HS.out.len]; exact hil
      have ht : ts[i]? = some ts[i] := List.getElem?_eq_getElem hil
      have hu : us[i]? = some us[i] := List.getElem?_eq_getElem hiu
      have hsi := HS.out.eq i _ _ ht hu
      obtain ⟨g1, rfl, hg1, hc1⟩ := HS.out.l1 (by omega)
      obtain ⟨g2, rfl, hg2, hc2⟩ := HS.out.l2 (by omega)
      generalize ts[i] = t at *
      generalize us[i] = u0 at *
      have b0 : wr.cell? ⟨w.heap.size + 1, 0, none⟩ = some (.slice (some ⟨g2, 0, none⟩) M d) := Joins.cell_of_block (heap_kept HY.out HW.out) 0
      have HTc : Hid (∀ x, Below wr.heap.size wr x → (∀ j v, (itCells t)[j]? = some v → x.cell? ⟨g1, i * 7 + j, none⟩ = some v) ∧ (∀ j v, (itCells u0)[j]? = some v → x.cell? ⟨g2, i * 7 + j, none⟩ = some v) ∧ x.cell? ⟨w.heap.size, 0, none⟩ = some (.slice (some ⟨g1, 0, none⟩) M c) ∧ x.cell? ⟨w.heap.size + 1, 0, none⟩ = some (.slice (some ⟨g2, 0, none⟩) M d)) := fun x hx =>
        ⟨fun j v hv => ((below_next hbw hx).cell (p := ⟨g1, i * 7 + j, none⟩) hg1).trans (hc1 i _ ht j v hv), fun j v hv => ((below_next hbw hx).cell (p := ⟨g2, i * 7 + j, none⟩) hg2).trans (hc2 i _ hu j v hv), (hx.cell (p := ⟨w.heap.size, 0, none⟩) (block_lt_of_cell a0)).trans a0, (hx.cell (p := ⟨w.heap.size + 1, 0, none⟩) (block_lt_of_cell b0)).trans b0⟩
      have HSi : Hid (∀ x, Below wr.heap.size wr x → SameIt x t u0 (E i)) := fun x hx => hsi.later (below_next hbw hx)
      have HWx : Hid (∀ x, Below wr.heap.size wr x → Below A.heap.size A x) := fun x hx => below_next HW.out hx
      have hiM : i < M := by omega
      clear hbw ht hu hsi hc1 hc2 hil hiu b0 HW hg1 hg2
      go_upto_region 6 with fail
      clear a0
      refine wp_region_ord (S := fun x => Below wr.heap.size wr x) [(0, true), (1, true), (2, true), (3, true), (4, true), (5, true), (6, true), (7, true), (8, true), (9, true), (10, false), (11, true)] (by kernel_rfl) rfl (by kernel_rfl) (fun d _ _ _ _ h => by cases d <;> exact h) (Below.refl _ _).drew ?_
      have hbd : Below wr.heap.size wr wr.drew := (Below.refl _ _).drew
      generalize wr.drew = X at *
      simp only [inOrd, List.getElem?_cons_zero, List.getElem?_cons_succ]
      refine wpOrd_yield (v := .pointer (some ⟨w.heap.size, 0, none⟩)) rfl (fun u _ => by go_simp) ?_
      simp only [Act.put, pA, pB, pC]
      refine wpOrd_yield (v := .slice (some ⟨g1, 0, none⟩) M c) rfl (fun u hu => by have := (HTc.out u hu).2.2.1; go_simp) ?_
      simp only [Act.put, pA, pB, pC]
      refine wpOrd_yield (v := .int .i64 (i : Int)) rfl (fun u _ => exec_mv rfl rfl) ?_
      simp only [Act.put, pA, pB, pC]
      refine wpOrd_yield (v := .pointer (some ⟨g1, i * 7, none⟩)) rfl (fun u _ => by go_simp) ?_
      simp only [Act.put, pA, pB, pC]
      refine wpOrd_yield (v := .agg (itCells t).toArray) rfl (fun u hu => exec_ldI rfl rfl (HTc.out u hu).1) ?_
      simp only [Act.put, pA, pB, pC]
      refine wpOrd_yield (v := .pointer (some ⟨w.heap.size + 1, 0, none⟩)) rfl (fun u _ => by go_simp) ?_
      simp only [Act.put, pA, pB, pC]
      refine wpOrd_yield (v := .slice (some ⟨g2, 0, none⟩) M d) rfl (fun u hu => by have := (HTc.out u hu).2.2.2; go_simp) ?_
      simp only [Act.put, pA, pB, pC]
      refine wpOrd_yield (v := .int .i64 (i : Int)) rfl (fun u _ => exec_mv rfl rfl) ?_
      simp only [Act.put, pA, pB, pC]
      refine wpOrd_yield (v := .pointer (some ⟨g2, i * 7, none⟩)) rfl (fun u _ => by go_simp) ?_
      simp only [Act.put, pA, pB, pC]
      refine wpOrd_yield (v := .agg (itCells u0).toArray) rfl (fun u hu => exec_ldI rfl rfl (HTc.out u hu).2.1) ?_
      simp only [Act.put, pA, pB, pC]
      refine wpOrd_call rfl 131 _ _ rfl Tryz.call131 [.agg (itCells t).toArray, .agg (itCells u0).toArray] rfl ?_
      refine (sameItem28_eq (HSi.out X hbd)).mono ?_
      rintro e X2 ⟨rfl, hb2⟩
      refine ⟨_, rfl, below_next hbd hb2, ?_⟩
      simp only [Act.put, pA, pB, pC]
      refine wpOrd_yield (v := .bool false) rfl (fun u _ => by go_simp) ?_
      simp only [Act.put, pA, pB, pC]
      refine wpOrd_nil ?_
      have HW2 : Hid (Below A.heap.size A X2) := HWx.out _ (below_next hbd hb2)
      clear hb2 hbd HWx HSi HTc
      go_wp2
      exact ⟨⟨i + 1, by omega, by go_num, HW2.out⟩, by simp [intOf]; omega⟩
    · obtain rfl : i = M := by omega
      have HR : Hid (Below w.heap.size w wr) := below_next HB.out HW.out
      clear HW HX HY HS
      go_wp2
      go_ret
      exact ⟨rfl, HR.out⟩
end Go.Proofs.YtiejhjngcnkimaaGreatR
