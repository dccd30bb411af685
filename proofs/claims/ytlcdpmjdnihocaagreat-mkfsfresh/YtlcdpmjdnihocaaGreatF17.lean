/- Several texts joined, each with its own remark; no condition. -/
import Derived.Test.YtlcdpmjdnihocaaGreatF15
import Derived.Test.YtlcdpmjdnihocaaGreatF16
import Derived.Deep.CutRange
import Derived.Test.YtlcdpmjdnihocaaGreatF5
import Derived.Deep.Cut
/- An inode's bytes and the inode on the document's disk of an audit. -/
namespace Go.Proofs.YtlcdpmjdnihocaaGreat
open Go.RowKit Go.Maps
def rawP (y : Lay) (l : List Cel) (i : Nat) : Nat → Int := fun j => atL l (y.nodeAt + (i / 16 : Nat)) (64 * (i % 16) + j)
theorem zero159 : ∀ w, (zeroValue 158).run Tryz.prog w = .ok (.agg (rowN .u8 nought 64)) w := (zero_of_info (show (Tryz.prog.info? 158).map (fun i => (i.zero, i.size)) = some (some (.agg (rowN .u8 nought 64)), 64) by kernel_rfl)).1
structure RawSt (w W : World) (gb gx : Nat) (f e : Nat → Int) : Prop where
  res : W.heap[w.heap.size]? = some (.cells (rowN .u8 nought 64) 158)
  blk : W.heap[gb]? = some (.cells (blk f) 79)
  row : W.heap[gx]? = some (.cells (rowN .u8 e 64) 158)
  b1 : w.heap.size < gb
  b2 : gb < gx
  bel : Below w.heap.size w W
theorem RawSt.set {w W : World} {gb gx : Nat} {f e : Nat → Int} (h : RawSt w W gb gx f e) (i : Nat) (x : Int) : RawSt w (W.setCell ⟨gx, i, none⟩ (.int .u8 x)) gb gx f (updN e i x) := by
  have hF := Fr.setCell W gx i (.int .u8 x)
  exact ⟨(hF.block _ (Array.getElem?_eq_some_iff.1 h.res).1 (by have := h.b1; have := h.b2; omega)).trans h.res, (hF.block _ (Array.getElem?_eq_some_iff.1 h.blk).1 (by have := h.b2; omega)).trans h.blk, setCell_rowN h.row i x, h.b1, h.b2, h.bel.trans (hF.below (fun j q => by have := h.b1; have := h.b2; omega) h.bel.size)⟩
set_option maxRecDepth 20000 in
set_option maxHeartbeats 1000000 in
theorem raw29_any {w : World} {g : Nat} {n : Int} {l : List Cel} {y : Lay} (h : Aud w g n l y) (hy : 0 ≤ y.nodeAt ∧ y.nodeAt ≤ 1000000000) (i : Nat) (hi : i ≤ 1000000000) :
    Calls Tryz.prog 121 #[.pointer (some ⟨g, 0, none⟩), .int .i64 (i : Int)] w fun e w' => e = .returned (.agg (rowN .u8 (rawP y l i) 64)) ∧ Below w.heap.size w w' := by
  have z := zero77
  have z2 := zero159
  have h1 := h.later (below_new w (.cells (rowN .u8 nought 64) 158))
  have hc := at29_any h1 (y.nodeAt + (i / 16 : Nat))
  obtain ⟨⟨p, cap, q, c, hr, _⟩, _, _⟩ := h1
  unfold dkRow at hr
  have c6 := Joins.cell_of_block hr 6
  clear hr h
  have HX : Hid ((w.alloc (.cells (rowN .u8 nought 64) 158)).heap[w.heap.size]? = some (.cells (rowN .u8 nought 64) 158)) := heap_alloc_new _ _
  have HB : Hid (Below w.heap.size w (w.alloc (.cells (rowN .u8 nought 64) 158))) := below_new _ _
  have HR : Hid (∀ j, atL l (y.nodeAt + (i / 16 : Nat)) (64 * (i % 16) + j) = rawP y l i j) := fun j => rfl
  generalize rawP y l i = rw0 at *
  generalize atL l (y.nodeAt + (i / 16 : Nat)) = f at *
  generalize y.nodeAt = na at *
  have e1 : (i : Int).tdiv 16 = ((i / 16 : Nat) : Int) := by rw [Int.tdiv_eq_ediv_of_nonneg (by omega)]; omega
  have e2 : (i : Int).tmod 16 = ((i % 16 : Nat) : Int) := by rw [Int.tmod_eq_emod_of_nonneg (by omega)]; omega
  have e3 : IntKind.i64.wrap ((i / 16 : Nat) : Int) = ((i / 16 : Nat) : Int) := by rw [IntKind.wrap_i64]; omega
  have e4 : IntKind.i64.wrap (na + ((i / 16 : Nat) : Int)) = na + ((i / 16 : Nat) : Int) := by rw [IntKind.wrap_i64]; omega
  have hm16 : i % 16 < 16 := Nat.mod_lt _ (by omega)
  generalize i / 16 = d at *
  generalize i % 16 = r at *
  go_enter Tryz.func121, Tryz.ntmps121
  go_wp2_with (first | (go_at_call 90; fail))
  refine hc.mono ?_
  rintro e W1 ⟨rfl, hb1⟩
  have hs1 := hb1.size
  have hr1 := heap_kept HX.out hb1
  have hB1 := below_next HB.out hb1
  have HS : Hid (RawSt w ((W1.alloc (.cells (blk f) 79)).alloc (.cells (rowN .u8 nought 64) 158)) W1.heap.size (W1.heap.size + 1) f nought) :=
    ⟨heap_kept (heap_kept hr1 (below_new _ _)) (below_new _ _), heap_kept (heap_alloc_new _ _) (below_new _ _), heap_two _ _ _, by have := (Array.getElem?_eq_some_iff.1 hr1).1; omega, by omega, bel_alA (bel_alA hB1 _) _⟩
  clear hb1 hc hr1 hB1 hs1
  go_wp2_with (first | (with_reducible refine isStoreR 79 ?_; refine wpList_stBn rfl (.tmp 5) (.tmp 17) rfl W1.heap.size f nought 79 rfl rfl rfl ?_))
  generalize (W1.alloc (.cells (blk f) 79)).alloc (.cells (rowN .u8 nought 64) 158) = V at *
  generalize hgb : W1.heap.size = gb at *
  clear hgb
  go_loopw [7] (fun s7 wx => ∃ (k : Nat) (e : Nat → Int), k ≤ 64 ∧ s7 = .int .i64 k ∧ Hid (∀ j, j < k → e j = rw0 j) ∧ Hid (RawSt w wx gb (gb + 1) f e)) (fun s7 _ => 64 - (intOf s7).toNat)
  case atStart => exact ⟨0, nought, by omega, rfl, fun j hj => absurd hj (by omega), HS.out⟩
  case round =>
    obtain ⟨k, e, hk, rfl, HE, HT⟩ := hrel
    by_cases hk2 : (k : Int) < 64
    · have cb := cell_rowN (i := 64 * r + k) HT.out.blk (by omega)
      have cx := cell_rowN (i := k) HT.out.row (by omega)
      have fx := frozen_row HT.out.row k
      have HT2 : Hid _ := HT.out.set k (f (64 * r + k))
      have HE2 : Hid (∀ j, j < k + 1 → updN e k (f (64 * r + k)) j = rw0 j) := fun j hj => by
        unfold updN
        split
        · rename_i q; rw [q]; exact HR.out k
        · exact HE.out j (by omega)
      have e5 : IntKind.i64.wrap (64 * (r : Int)) = 64 * (r : Int) := by rw [IntKind.wrap_i64]; omega
      have e6 : IntKind.i64.wrap (64 * (r : Int) + (k : Int)) = ((64 * r + k : Nat) : Int) := by rw [IntKind.wrap_i64]; omega
      have e7 : (64 * (r : Int) + (k : Int)) = ((64 * r + k : Nat) : Int) := by omega
      have hlt : 64 * r + k < 1024 := by omega
      generalize f (64 * r + k) = x at *
      generalize 64 * r + k = m at *
      clear HT HE
      go_wp2
      exact ⟨⟨k + 1, _, by omega, by go_num, HE2.out, HT2.out⟩, by simp [intOf]; omega⟩
    · obtain rfl : k = 64 := by omega
      have hrow := HT.out.row
      rw [show rowN .u8 e 64 = rowN .u8 rw0 64 from rowN_congr HE.out] at hrow
      have hres := HT.out.res
      have HB2 : Hid (Below w.heap.size w (wr.setRow w.heap.size (rowN .u8 rw0 64))) := below_setRowA HT.out.bel (Nat.le_refl _) _
      clear HT HE
      go_wp2_with (first | (with_reducible refine isLoadR 158 ?_; refine wpList_ldR 158 Tryz.underlying158 rfl rfl _ rfl _ rfl _ 158 (0, 0) (by rw [rowN_size]; exact size29) hrow ?_) | (with_reducible refine isStoreR 158 ?_; refine wpList_stR 158 rfl _ _ rfl w.heap.size (rowN .u8 rw0 64) (rowN .u8 nought 64) 158 (by rw [rowN_size]; exact size29) (by rw [rowN_size, rowN_size]) (rowN_one _ _ _) rfl rfl hres ?_))
      exact retR Tryz.underlying158 rfl rfl w.heap.size (rowN .u8 rw0 64) 158 (by rw [rowN_size]; exact size29) rfl (setRow_heap _ _ _ _ _ _ hres) rfl ⟨rfl, HB2.out⟩
/-- The inode's numbers as its bytes say. -/
def nodP (y : Lay) (l : List Cel) (i : Nat) : Array Value := decN (rawP y l i)
set_option maxHeartbeats 400000 in
theorem node29_any {w : World} {g : Nat} {n : Int} {l : List Cel} {y : Lay} (h : Aud w g n l y) (hy : 0 ≤ y.nodeAt ∧ y.nodeAt ≤ 1000000000) (i : Nat) (hi : i ≤ 1000000000) :
    Calls Tryz.prog 87 #[.pointer (some ⟨g, 0, none⟩), .int .i64 (i : Int)] w fun e w' => e = .returned (.agg (nodP y l i)) ∧ Below w.heap.size w w' := by
  have z := zero27
  have h1 := h.later (below_new w (.cells (node16 0 0 0 0 nought) 111))
  have hc := raw29_any h1 hy i hi
  have hf : ∀ j, 0 ≤ rawP y l i j ∧ rawP y l i j ≤ 255 := fun j => h.blk _ _
  have HD : Hid (∀ W, Calls Tryz.prog 131 #[.agg (rowN .u8 (rawP y l i) 64)] W fun e w' => e = .returned (.agg (nodP y l i)) ∧ Below W.heap.size W w') := fun W => refDecode_any (rawP y l i) W hf
  have HZ : Hid (∃ k l' s b d, nodP y l i = node16 k l' s b d) := ⟨_, _, _, _, _, rfl⟩
  generalize rawP y l i = f at *
  generalize nodP y l i = N at *
  obtain ⟨x1, x2, x3, x4, x5, hN⟩ := HZ.out
  have hsz : N.size = 16 := by rw [hN]; rfl
  have HO : Hid (N.all (·.oneCell') = true) := by show _ = _; rw [hN]; exact node_one _ _ _ _ _
  have hq : (Tryz.prog.info? 111).map (·.size) = some N.size := by rw [hsz]; exact size27
  have HX : Hid ((w.alloc (.cells (node16 0 0 0 0 nought) 111)).heap[w.heap.size]? = some (.cells (node16 0 0 0 0 nought) 111)) := heap_alloc_new _ _
  have HB : Hid (Below w.heap.size w (w.alloc (.cells (node16 0 0 0 0 nought) 111))) := below_new _ _
  clear h h1 hN HZ hf
  go_enter Tryz.func87, Tryz.ntmps87
  go_wp2_with (first | (go_at_call 121; fail))
  refine hc.mono ?_
  rintro e W1 ⟨rfl, hb1⟩
  have hr1 := heap_kept HX.out hb1
  have hB1 := below_next HB.out hb1
  go_wp2_with (first | (go_at_call 131; fail))
  refine (HD.out _).mono ?_
  rintro e W2 ⟨rfl, hb2⟩
  have hr2 := heap_kept hr1 hb2
  have HB2 : Hid _ := below_next hB1 hb2
  clear hr1 hB1 hb1 hb2 hc
  go_wp2_with (first | (with_reducible refine isStoreR 111 ?_; refine wpList_stR 111 rfl _ _ rfl w.heap.size N (node16 0 0 0 0 nought) 111 hq ((node_size 0 0 0 0 nought).trans hsz.symm) HO.out rfl rfl hr2 ?_))
  exact retR Tryz.underlying111 rfl rfl w.heap.size N 111 hq rfl (setRow_heap _ _ _ _ _ _ hr2) rfl ⟨rfl, below_setRowA HB2.out (Nat.le_refl _) _⟩
end Go.Proofs.YtlcdpmjdnihocaaGreat
/- A whole list appended to another; no condition but lists of at most ten million. -/
namespace Go.Proofs.YtlcdpmjdnihocaaGreat
open Go.RowKit Go.Maps
theorem fm_one {α : Type} {en : α → List Value} (h1 : ∀ x, ∀ u ∈ en x, u.oneCell' = true) (l : List α) : ∀ u ∈ l.flatMap en, u.oneCell' = true := fun u hu => by
  obtain ⟨x, _, hx⟩ := List.mem_flatMap.1 hu
  exact h1 x u hx
theorem own_cells {α : Type} {en : α → List Value} {sz : Nat} {B e g n c : Nat} {w : World} {l : List α} (h : w.ownsRow B e sz (.slice (some ⟨g, 0, none⟩) n c) n (l.flatMap en)) :
    ∀ j u, (l.flatMap en)[j]? = some u → w.cell? ((⟨g, 0, none⟩ : Addr).add j) = some u := fun j u hu => h.cells (g := g) rfl j u hu
theorem own_app {α : Type} {en : α → List Value} {sz e : Nat} {st : TypeId} {i : TypeInfo} {z : Value} {bytes : Nat} (hr : ∀ x, (en x).length = sz) (h1 : ∀ x, ∀ u ∈ en x, u.oneCell' = true) (ht : Tryz.prog.underlying st = some (.slice e)) (hi : Tryz.prog.info? e = some i) (hz : i.zero = some z) (hsize : i.size = sz) (hby : i.bytes = bytes) (hzs : z.cells.size = sz) (hsz : 0 < sz) (hbb : bytes ≤ 2000)
    {B B2 : Nat} {w : World} {v v2 : Value} {l l2 : List α} (h : OwnG en e sz w B v l) (h2 : OwnG en e sz w B2 v2 l2) (hB : B ≤ w.heap.size) (hn : l.length + l2.length ≤ 10000000) (ty : TypeId) :
    ∃ v' w', (Builtin.append_ #[st, st] ty #[v, v2]).run Tryz.prog w = .ok v' w' ∧ OwnG en e sz w' B v' (l ++ l2) ∧ Below B w w' ∧ Fr (fun b => v.ownBlock = some b) w w' := by
  rcases own_form h2 with ⟨rfl, h0⟩ | ⟨g, c, rfl, hlt⟩
  · obtain rfl : l2 = [] := List.length_eq_zero_iff.1 h0
    refine ⟨v, w, run_append_owned_none w B st ty e i sz ht hi v _ _ h, ?_, Below.refl _ _, Fr.refl _ _⟩
    rwa [List.append_nil]
  · have hbt : ((l.length + l2.length) + (l.length + l2.length) / 4 + 192) * bytes ≤ 281474976710656 := by
      have : ((l.length + l2.length) + (l.length + l2.length) / 4 + 192) * bytes ≤ 12500192 * 2000 := Nat.mul_le_mul (by omega) hbb
      omega
    obtain ⟨v', w', hrun, ho', hg, _⟩ := run_append_own_wide (P := Tryz.prog) w B st ty e i z sz bytes ht hi hz hsize hby hzs hsz v l.length (l.flatMap en) h ⟨g, 0, none⟩ l2.length c (l2.flatMap en) (fml hr l2) (own_cells h2) (fm_one h1 l2) (by unfold maxLen; omega) hbt hB
    have hF := Fr.ofGrown hg
    refine ⟨v', w', hrun, ?_, hF.below (fun j q => (World.ownsRow.lt h j q).1) hB, hF⟩
    unfold OwnG
    rw [List.length_append, List.flatMap_append]
    exact ho'
theorem wpList_ap2 {ops : Array Oper} {rest : List Oper} {o : Oper} {a : Act} {W W' : World} {v v2 v' : Value} {st : TypeId} {Q : Exit → Act → World → Prop} (hgd : o.guard = none) (s y : Operand)
    (ho : o.op = .call { callee := .builtin .append, args := #[s, y], argTypes := #[st, st] }) (hs : a.eval s = v) (hx : a.eval y = v2)
    (hr : (Builtin.append_ #[st, st] o.type #[v, v2]).run Tryz.prog W = .ok v' W') (h : wpList Tryz.prog ops Q rest (a.put o.dst v') W') : wpList Tryz.prog ops Q (o :: rest) a W :=
  wpList_plain hgd fun _ hK => by
    unfold Oper.wp
    rw [show (execOp a.eval o).run Tryz.prog W = .ok (.value v') W' by simp [execOp, ho, resolve, invoke, builtin, hs, hx, hr, Result.andThen]]
    exact hK _ _ h
end Go.Proofs.YtlcdpmjdnihocaaGreat
/- All block numbers of an inode. -/
namespace Go.Proofs.YtlcdpmjdnihocaaGreat
open Go.RowKit Go.Maps
def spD (d : Nat → Int) (k : Nat) : List (Int × Int) := (List.range k).filterMap fun i => if d i = 0 then none else some ((i : Int), d i)
def spOne (b : Int) : List (Int × Int) := if b = 0 then [] else [(-1, b)]
def spIn (y : Lay) (l : List Cel) (b first : Int) : List (Int × Int) := if dataB y b then underP (atL l b) first else []
def spDbl (y : Lay) (l : List Cel) (f : Nat → Int) (k : Nat) : List (Int × Int) := (List.range k).flatMap fun i => spOne (le4 f i) ++ spIn y l (le4 f i) (266 + 256 * (i : Int))
/-- All numbers of an inode that are not 0, d its twelve. -/
def spotsP (y : Lay) (l : List Cel) (d : Nat → Int) : List (Int × Int) := spD d 10 ++ spOne (d 10) ++ spIn y l (d 10) 10 ++ spOne (d 11) ++ if dataB y (d 11) then spDbl y l (atL l (d 11)) 256 else []
theorem spD_zero {d : Nat → Int} {k : Nat} (h : d k = 0) : spD d (k + 1) = spD d k := by unfold spD; rw [List.range_succ, List.filterMap_append]; simp [h]
theorem spD_some {d : Nat → Int} {k : Nat} (h : ¬ d k = 0) : spD d (k + 1) = spD d k ++ [((k : Int), d k)] := by unfold spD; rw [List.range_succ, List.filterMap_append]; simp [h]
theorem spD_len (d : Nat → Int) (k : Nat) : (spD d k).length ≤ k := by
  have := List.length_filterMap_le (fun (i : Nat) => if d i = 0 then none else some ((i : Int), d i)) (List.range k)
  rwa [List.length_range] at this
theorem spOne_len (b : Int) : (spOne b).length ≤ 1 := by unfold spOne; split <;> simp
theorem spIn_len (y : Lay) (l : List Cel) (b first : Int) : (spIn y l b first).length ≤ 256 := by
  unfold spIn; split
  · exact underK_len _ _ _
  · simp
theorem spDbl_succ (y : Lay) (l : List Cel) (f : Nat → Int) (k : Nat) : spDbl y l f (k + 1) = spDbl y l f k ++ spOne (le4 f k) ++ spIn y l (le4 f k) (266 + 256 * (k : Int)) := by
  unfold spDbl; rw [List.range_succ, List.flatMap_append]; simp
theorem spDbl_len (y : Lay) (l : List Cel) (f : Nat → Int) : ∀ k, (spDbl y l f k).length ≤ 257 * k
  | 0 => by simp [spDbl]
  | k + 1 => by
    rw [spDbl_succ, List.length_append, List.length_append]
    have := spDbl_len y l f k
    have := spOne_len (le4 f k)
    have := spIn_len y l (le4 f k) (266 + 256 * (k : Int))
    omega
theorem OwnS.app {w : World} {B B2 : Nat} {v v2 : Value} {l l2 : List (Int × Int)} (h : OwnS w B v l) (h2 : OwnS w B2 v2 l2) (hB : B ≤ w.heap.size) (hn : l.length + l2.length ≤ 10000000) (ty : TypeId) :
    ∃ v' w', (Builtin.append_ #[112, 112] ty #[v, v2]).run Tryz.prog w = .ok v' w' ∧ OwnS w' B v' (l ++ l2) ∧ Below B w w' := by
  obtain ⟨i0, hi0, hz0, hz1, hz2⟩ := info_parts infoS
  obtain ⟨v', w', h1, h2, h3, _⟩ := own_app pc2_len pc2_one Tryz.underlying112 hi0 hz0 hz1 hz2 rfl (by omega) (by omega) h h2 hB hn ty
  exact ⟨v', w', h1, h2, h3⟩
/-- In the midst of it: V is where it began, l what was gathered. -/
structure SpSt (V W : World) (v : Value) (l : List (Int × Int)) : Prop where
  own : OwnS W V.heap.size v l
  bel : Below V.heap.size V W
theorem SpSt.call {V W W' : World} {v : Value} {l : List (Int × Int)} (h : SpSt V W v l) (hb : Below W.heap.size W W') : SpSt V W' v l := ⟨h.own.later hb, below_next h.bel hb⟩
theorem SpSt.push {V W : World} {v : Value} {l : List (Int × Int)} (h : SpSt V W v l) (hn : l.length ≤ 10000000) (x y : Int) (ty : TypeId) :
    ∃ v' w', (Builtin.append_ #[112, 112] ty #[v, .slice (some ⟨W.heap.size, 0, none⟩) 1 1]).run Tryz.prog (W.alloc (.cells #[.int .i64 x, .int .i64 y] 146)) = .ok v' w' ∧ Hid (SpSt V w' v' (l ++ [(x, y)])) := by
  obtain ⟨v', w', h1, h2, h3⟩ := h.own.push h.bel.size hn x y ty
  exact ⟨v', w', h1, h2, h.bel.trans h3⟩
theorem SpSt.app {V W : World} {B2 : Nat} {v v2 : Value} {l l2 : List (Int × Int)} (h : SpSt V W v l) (h2 : OwnS W B2 v2 l2) (hn : l.length + l2.length ≤ 10000000) (ty : TypeId) :
    ∃ v' w', (Builtin.append_ #[112, 112] ty #[v, v2]).run Tryz.prog W = .ok v' w' ∧ Hid (SpSt V w' v' (l ++ l2)) := by
  obtain ⟨v', w', h1, h2, h3⟩ := h.own.app h2 h.bel.size hn ty
  exact ⟨v', w', h1, h2, h.bel.trans h3⟩
/-- A block lies beside it. -/
structure SpX (V W : World) (v : Value) (l : List (Int × Int)) (gb : Nat) (f : Nat → Int) : Prop where
  st : SpSt V W v l
  row : W.heap[gb]? = some (.cells (blk f) 79)
theorem SpX.call {V W W' : World} {v : Value} {l : List (Int × Int)} {gb : Nat} {f : Nat → Int} (h : SpX V W v l gb f) (hb : Below W.heap.size W W') : SpX V W' v l gb f := ⟨h.st.call hb, heap_kept h.row hb⟩
theorem SpX.push {V W : World} {v : Value} {l : List (Int × Int)} {gb : Nat} {f : Nat → Int} (h : SpX V W v l gb f) (hn : l.length ≤ 10000000) (x y : Int) (ty : TypeId) :
    ∃ v' w', (Builtin.append_ #[112, 112] ty #[v, .slice (some ⟨W.heap.size, 0, none⟩) 1 1]).run Tryz.prog (W.alloc (.cells #[.int .i64 x, .int .i64 y] 146)) = .ok v' w' ∧ Hid (SpX V w' v' (l ++ [(x, y)]) gb f) := by
  obtain ⟨i0, hi0, hz0, hz1, hz2⟩ := info_parts infoS
  obtain ⟨v', w', h1, h2, h3, h4⟩ := own_pushF pc2_len pc2_one Tryz.underlying112 hi0 hz0 hz1 hz2 rfl (by omega) (by omega) h.st.own h.st.bel.size hn (x, y) ty
  exact ⟨v', w', h1, ⟨h2, h.st.bel.trans h3⟩, (h4.block gb (Array.getElem?_eq_some_iff.1 h.row).1 (own_ne h.st.own h.row (by decide))).trans h.row⟩
theorem SpX.app {V W : World} {B2 : Nat} {v v2 : Value} {l l2 : List (Int × Int)} {gb : Nat} {f : Nat → Int} (h : SpX V W v l gb f) (h2 : OwnS W B2 v2 l2) (hn : l.length + l2.length ≤ 10000000) (ty : TypeId) :
    ∃ v' w', (Builtin.append_ #[112, 112] ty #[v, v2]).run Tryz.prog W = .ok v' w' ∧ Hid (SpX V w' v' (l ++ l2) gb f) := by
  obtain ⟨i0, hi0, hz0, hz1, hz2⟩ := info_parts infoS
  obtain ⟨v', w', h1, h2, h3, h4⟩ := own_app pc2_len pc2_one Tryz.underlying112 hi0 hz0 hz1 hz2 rfl (by omega) (by omega) h.st.own h2 h.st.bel.size hn ty
  exact ⟨v', w', h1, ⟨h2, h.st.bel.trans h3⟩, (h4.block gb (Array.getElem?_eq_some_iff.1 h.row).1 (own_ne h.st.own h.row (by decide))).trans h.row⟩
set_option maxRecDepth 20000 in
set_option maxHeartbeats 4000000 in
theorem spots29_any {w : World} {g : Nat} {n : Int} {l : List Cel} {y : Lay} (h : Aud w g n l y) (x0 x1 x2 x3 : Int) (d : Nat → Int) (hd : ∀ i, 0 ≤ d i ∧ d i < 4294967296) :
    Calls Tryz.prog 88 #[.pointer (some ⟨g, 0, none⟩), .agg (node16 x0 x1 x2 x3 d)] w fun e w' => ∃ v, e = .returned v ∧ OwnS w' w.heap.size v (spotsP y l d) ∧ Below w.heap.size w w' := by
  have z := zero77
  have HA : Hid (Aud (w.alloc (.cells (node16 x0 x1 x2 x3 d) 111)) g n l y) := h.later (below_new _ _)
  have HX : Hid ((w.alloc (.cells (node16 x0 x1 x2 x3 d) 111)).heap[w.heap.size]? = some (.cells (node16 x0 x1 x2 x3 d) 111)) := heap_alloc_new _ _
  have HB : Hid (Below w.heap.size w (w.alloc (.cells (node16 x0 x1 x2 x3 d) 111))) := below_new _ _
  have HV : Hid (∃ V, V = w.alloc (.cells (node16 x0 x1 x2 x3 d) 111)) := ⟨_, rfl⟩
  have HD : Hid (∀ i, 0 ≤ d i ∧ d i < 4294967296) := hd
  have HC : Hid (∀ (W : World), Below (w.alloc (.cells (node16 x0 x1 x2 x3 d) 111)).heap.size (w.alloc (.cells (node16 x0 x1 x2 x3 d) 111)) W → ∀ k, k < 12 → W.cell? ⟨w.heap.size, 4 + k, none⟩ = some (.int .u32 (d k))) := fun W hb k hk => by
    have := heap_kept HX.out hb
    rw [cell_of_row W w.heap.size (4 + k) _ _ _ this]
    match k, hk with
    | 0, _ | 1, _ | 2, _ | 3, _ | 4, _ | 5, _ | 6, _ | 7, _ | 8, _ | 9, _ | 10, _ | 11, _ => rfl
  clear h hd
  go_enter Tryz.func88, Tryz.ntmps88
  go_wp2
  generalize w.alloc (.cells (node16 x0 x1 x2 x3 d) 111) = V at *
  go_loopw [5, 6] (fun s5 s6 wx => ∃ k : Nat, k ≤ 10 ∧ s6 = .int .i64 k ∧ Hid (SpSt V wx s5 (spD d k))) (fun _ s6 _ => 10 - (intOf s6).toNat)
  case atStart => exact ⟨0, by omega, rfl, OwnG.nil _ _, Below.refl _ _⟩
  case round =>
    obtain ⟨k, hk, rfl, HO⟩ := hrel
    by_cases hk2 : (k : Int) < 10
    · have hc := HC.out wr HO.out.bel k (by omega)
      by_cases hz : d k = 0
      · have HE : Hid (spD d (k + 1) = spD d k) := spD_zero hz
        rw [hz] at hc
        clear hz
        go_wp2
        exact ⟨⟨k + 1, by omega, by go_num, by have := HE.out; rw [this]; exact HO.out⟩, by simp [intOf]; omega⟩
      · have HE : Hid (spD d (k + 1) = spD d k ++ [((k : Int), d k)]) := spD_some hz
        have hl := spD_len d k
        obtain ⟨v', W3, R1, HO3⟩ := HO.out.push (by omega) (k : Int) (d k) 112
        have gz : (d k == 0) = false := by simp [hz]
        have hdk := HD.out k
        have ew : IntKind.i64.wrap (d k) = d k := by rw [IntKind.wrap_i64]; omega
        generalize d k = m at *
        clear hz hl HO
        go_wp2_with (first | (at_builtin; refine wpList_app rfl (.tmp 22) (.tmp 30) rfl rfl rfl R1 ?_))
        exact ⟨⟨k + 1, by omega, by go_num, by have := HE.out; rw [this]; exact HO3.out⟩, by simp [intOf]; omega⟩
    · obtain rfl : k = 10 := by omega
      have c10 := HC.out wr HO.out.bel 10 (by omega)
      have hd10 := HD.out 10
      have ew : IntKind.i64.wrap (d 10) = d 10 := by rw [IntKind.wrap_i64]; omega
      have hl0 := spD_len d 10
      go_upto_if 36 with fail
      go_cut [5] from 32 to 96 (fun s5 wc => Hid (SpSt V wc s5 (spD d 10 ++ spOne (d 10))))
      case first =>
        by_cases hz : d 10 = 0
        · have HE : Hid (spD d 10 ++ spOne (d 10) = spD d 10) := by show _ = _; unfold spOne; rw [if_pos hz, List.append_nil]
          have gz : (d 10 == 0) = true := by simp [hz]
          clear hz
          go_wp2
          go_meet
          case rel => have := HE.out; rw [this]; exact HO.out
        · have HE : Hid (spD d 10 ++ spOne (d 10) = spD d 10 ++ [(-1, d 10)]) := by show _ = _; unfold spOne; rw [if_neg hz]
          have gz : (d 10 == 0) = false := by simp [hz]
          obtain ⟨v', W3, R1, HO3⟩ := HO.out.push (by omega) (-1) (d 10) 112
          generalize d 10 = m at *
          clear HO
          go_wp2_with (first | (at_builtin; refine wpList_app rfl (.tmp 37) (.tmp 40) rfl rfl rfl R1 ?_))
          go_meet
          case rel => have := HE.out; rw [this]; exact HO3.out
      case rest =>
        have HO1 : Hid _ := hcut.out
        clear hcut HO c10 hk hk2
        have hl1 : (spD d 10 ++ spOne (d 10)).length ≤ 11 := by rw [List.length_append]; have := spOne_len (d 10); omega
        clear hl0
        obtain ⟨l1, HL1⟩ : ∃ l1, Hid (l1 = spD d 10 ++ spOne (d 10)) := ⟨_, rfl⟩
        rw [← HL1.out] at HO1 hl1
        have hA1 := HA.out.later HO1.out.bel
        have hdt := data29_any hA1 (d 10)
        have hun := under29_any hA1 (d 10) 10 (by omega)
        go_wp2_with (first | (go_at_call 124; fail))
        refine hdt.mono ?_
        rintro e W1 ⟨rfl, rfl⟩
        clear hdt
        go_upto_if 45 with fail
        go_cut [5, 8] from 32 to 96 (fun s5 _ wc => Hid (SpSt V wc s5 (l1 ++ spIn y l (d 10) 10)))
        case first =>
          cases hz : dataB y (d 10) with
          | false =>
            have HE : Hid (l1 ++ spIn y l (d 10) 10 = l1) := by show _ = _; unfold spIn; rw [hz]; exact List.append_nil _
            go_wp2
            go_meet
            case rel => have := HE.out; rw [this]; exact HO1.out
          | true =>
            have HE : Hid (l1 ++ spIn y l (d 10) 10 = l1 ++ underP (atL l (d 10)) 10) := by show _ = _; unfold spIn; rw [hz]; rfl
            go_wp2_with (first | (go_at_call 132; fail))
            refine hun.mono ?_
            rintro e W2 ⟨v2, rfl, ho2, hb2⟩
            have HO2 : Hid _ := HO1.out.call hb2
            obtain ⟨v', W3, R1, HO3⟩ := HO2.out.app ho2 (by have := underK_len (atL l (d 10)) 10 256; unfold underP; omega) 112
            clear ho2 hb2 hun
            go_wp2_with (first | (at_builtin; refine wpList_ap2 rfl (.tmp 46) (.tmp 49) rfl rfl rfl R1 ?_))
            go_meet
            case rel => have := HE.out; rw [this]; exact HO3.out
        case rest =>
          have HO2 : Hid _ := hcut.out
          clear hcut HO1 hun hA1
          have hl2 : (l1 ++ spIn y l (d 10) 10).length ≤ 300 := by rw [List.length_append]; have := spIn_len y l (d 10) 10; omega
          clear hd10 ew
          obtain ⟨l2, HL2⟩ : ∃ l2, Hid (l2 = l1 ++ spIn y l (d 10) 10) := ⟨_, rfl⟩
          rw [← HL2.out] at HO2 hl2
          have c11 := HC.out wc HO2.out.bel 11 (by omega)
          have hd11 := HD.out 11
          have ew : IntKind.i64.wrap (d 11) = d 11 := by rw [IntKind.wrap_i64]; omega
          go_upto_if 55 with fail
          go_cut [5] from 32 to 96 (fun s5 wc => Hid (SpSt V wc s5 (l2 ++ spOne (d 11))))
          case first =>
            by_cases hz : d 11 = 0
            · have HE : Hid (l2 ++ spOne (d 11) = l2) := by show _ = _; unfold spOne; rw [if_pos hz, List.append_nil]
              have gz : (d 11 == 0) = true := by simp [hz]
              clear hz
              go_wp2
              go_meet
              case rel => have := HE.out; rw [this]; exact HO2.out
            · have HE : Hid (l2 ++ spOne (d 11) = l2 ++ [(-1, d 11)]) := by show _ = _; unfold spOne; rw [if_neg hz]
              have gz : (d 11 == 0) = false := by simp [hz]
              obtain ⟨v', W3, R1, HO3⟩ := HO2.out.push (by omega) (-1) (d 11) 112
              generalize d 11 = m at *
              clear HO2
              go_wp2_with (first | (at_builtin; refine wpList_app rfl (.tmp 56) (.tmp 59) rfl rfl rfl R1 ?_))
              go_meet
              case rel => have := HE.out; rw [this]; exact HO3.out
          case rest =>
            have HO3 : Hid _ := hcut.out
            clear hcut HO2 c11
            have hl3 : (l2 ++ spOne (d 11)).length ≤ 301 := by rw [List.length_append]; have := spOne_len (d 11); omega
            clear hl2
            obtain ⟨l3, HL3⟩ : ∃ l3, Hid (l3 = l2 ++ spOne (d 11)) := ⟨_, rfl⟩
            rw [← HL3.out] at HO3 hl3
            have HF : Hid (spotsP y l d = l3 ++ if dataB y (d 11) then spDbl y l (atL l (d 11)) 256 else []) := by
              show _ = _
              unfold spotsP
              rw [HL3.out, HL2.out, HL1.out]
            have hA1 := HA.out.later HO3.out.bel
            have hdt := data29_any hA1 (d 11)
            have hat := at29_any hA1 (d 11)
            go_wp2_with (first | (go_at_call 124; fail))
            refine hdt.mono ?_
            rintro e W1 ⟨rfl, rfl⟩
            clear hdt
            cases hz : dataB y (d 11) with
            | false =>
              have HR : Hid (OwnS W1 w.heap.size u5 (spotsP y l d)) := by
                have := HF.out
                rw [hz] at this
                simp only [Bool.false_eq_true, if_false, List.append_nil] at this
                show OwnS _ _ _ _
                rw [this]
                exact HO3.out.own.mono HB.out.size
              have HR2 : Hid (Below w.heap.size w W1) := below_next HB.out HO3.out.bel
              go_wp2
              go_ret
              exact ⟨_, rfl, HR.out, HR2.out⟩
            | true =>
              have HF2 : Hid (spotsP y l d = l3 ++ spDbl y l (atL l (d 11)) 256) := by
                show _ = _
                rw [HF.out, hz, if_pos rfl]
              go_wp2_with (first | (go_at_call 90; fail))
              refine hat.mono ?_
              rintro e W2 ⟨rfl, hb2⟩
              have HX2 : Hid (SpX V (W2.alloc (.cells (blk (atL l (d 11))) 79)) u5 l3 W2.heap.size (atL l (d 11))) := ⟨(HO3.out.call hb2).call (below_new _ _), heap_alloc_new _ _⟩
              have HBt : Hid (Byt (atL l (d 11))) := hA1.blk (d 11)
              clear hb2 HO3 hA1 hat hz HF
              generalize atL l (d 11) = f at *
              clear hd11 ew HL3 HL2 HL1 hl1
              go_wp2_with (first | (with_reducible refine isStoreR 79 ?_; refine wpList_stBn rfl (.tmp 10) (.tmp 69) rfl W2.heap.size f nought 79 rfl rfl rfl ?_))
              generalize W2.alloc (.cells (blk f) 79) = V2 at *
              generalize hgb : W2.heap.size = gb at *
              clear hgb
              go_loopw [5, 8, 11, 12] (fun s5 _ s11 _ wx => ∃ k : Nat, k ≤ 256 ∧ s11 = .int .i64 k ∧ Hid (SpX V wx s5 (l3 ++ spDbl y l f k) gb f)) (fun _ _ s11 _ _ => 256 - (intOf s11).toNat)
              case atStart => exact ⟨0, by omega, rfl, by simp only [spDbl, List.range_zero, List.flatMap_nil, List.append_nil]; exact HX2.out⟩
              case round =>
                obtain ⟨k, hk, rfl, HK⟩ := hrel
                by_cases hk2 : (k : Int) < 256
                · have hx0 := blk_at HK.out.row
                  have hnb := number29_any f k wr HBt.out (by omega)
                  have hlb := le4_bound HBt.out k
                  have hll := spDbl_len y l f k
                  obtain ⟨L', HL'⟩ : ∃ L', Hid (L' = l3 ++ spDbl y l f (k + 1)) := ⟨_, rfl⟩
                  have HEk : Hid (L' = (l3 ++ spDbl y l f k) ++ spOne (le4 f k) ++ spIn y l (le4 f k) (266 + 256 * (k : Int))) := by show _ = _; rw [HL'.out, spDbl_succ]; simp only [List.append_assoc]
                  have hln : (l3 ++ spDbl y l f k).length ≤ 100000 := by rw [List.length_append]; omega
                  go_wp2_with (first | (with_reducible refine isLoadR 79 ?_; refine wpList_ldB rfl (.tmp 10) rfl gb 0 f rfl hx0 ?_) | (go_at_call 133; fail))
                  refine hnb.mono ?_
                  rintro e X1 ⟨rfl, hb3⟩
                  have HK1 : Hid _ := HK.out.call hb3
                  clear hnb hx0 hb3 HK hll hl3
                  generalize l3 ++ spDbl y l f k = L at *
                  generalize le4 f k = m at *
                  have e1 : IntKind.i64.wrap (256 * (k : Int)) = 256 * (k : Int) := by rw [IntKind.wrap_i64]; omega
                  have e2 : IntKind.i64.wrap (266 + 256 * (k : Int)) = 266 + 256 * (k : Int) := by rw [IntKind.wrap_i64]; omega
                  by_cases hz : m = 0
                  · have HE1 : Hid (L' = L ++ spIn y l m (266 + 256 * (k : Int))) := by show _ = _; rw [HEk.out]; unfold spOne; rw [if_pos hz, List.append_nil]
                    have hA2 := HA.out.later HK1.out.st.bel
                    have hdt := data29_any hA2 m
                    have hun := under29_any hA2 m (266 + 256 * (k : Int)) (by omega)
                    subst hz
                    clear HEk
                    go_wp2_with (first | (go_at_call 124; fail))
                    refine hdt.mono ?_
                    rintro e X2 ⟨rfl, rfl⟩
                    clear hdt
                    cases hz : dataB y 0 with
                    | false =>
                      have HE2 : Hid (L' = L) := by show _ = _; rw [HE1.out]; unfold spIn; rw [hz]; exact List.append_nil _
                      clear hun hA2 HE1
                      go_wp2
                      exact ⟨⟨k + 1, by omega, by go_num, by have := HE2.out; rw [← HL'.out, this]; exact HK1.out⟩, by simp [intOf]; omega⟩
                    | true =>
                      have HE2 : Hid (L' = L ++ underP (atL l 0) (266 + 256 * (k : Int))) := by show _ = _; rw [HE1.out]; unfold spIn; rw [hz]; rfl
                      go_wp2_with (first | (go_at_call 132; fail))
                      refine hun.mono ?_
                      rintro e X3 ⟨v2, rfl, ho2, hb2⟩
                      have HK2 : Hid _ := HK1.out.call hb2
                      obtain ⟨v', W3, R1, HK3⟩ := HK2.out.app ho2 (by have := underK_len (atL l 0) (266 + 256 * (k : Int)) 256; unfold underP; omega) 112
                      clear ho2 hb2 hun hA2 HE1
                      go_wp2_with (first | (at_builtin; refine wpList_ap2 rfl (.tmp 88) (.tmp 94) rfl rfl rfl R1 ?_))
                      exact ⟨⟨k + 1, by omega, by go_num, by have := HE2.out; rw [← HL'.out, this]; exact HK3.out⟩, by simp [intOf]; omega⟩
                  · have HE0 : Hid (L' = (L ++ [(-1, m)]) ++ spIn y l m (266 + 256 * (k : Int))) := by show _ = _; rw [HEk.out]; unfold spOne; rw [if_neg hz]
                    obtain ⟨v', X4, R1, HK2⟩ := HK1.out.push (by omega) (-1) m 112
                    have hln2 : (L ++ [(-1, m)]).length ≤ 100001 := by rw [List.length_append, List.length_singleton]; omega
                    have hA2 := HA.out.later HK2.out.st.bel
                    have hdt := data29_any hA2 m
                    have hun := under29_any hA2 m (266 + 256 * (k : Int)) (by omega)
                    have gz : (m == 0) = false := by simp [hz]
                    clear HEk hz HK1
                    generalize L ++ [(-1, m)] = L1 at *
                    go_wp2_with (first | (at_builtin; refine wpList_app rfl (.tmp 79) (.tmp 82) rfl rfl rfl R1 ?_) | (go_at_call 124; fail))
                    refine hdt.mono ?_
                    rintro e X2 ⟨rfl, rfl⟩
                    clear hdt R1
                    cases hz : dataB y m with
                    | false =>
                      have HE2 : Hid (L' = L1) := by show _ = _; rw [HE0.out]; unfold spIn; rw [hz]; exact List.append_nil _
                      clear hun hA2 HE0
                      go_wp2
                      exact ⟨⟨k + 1, by omega, by go_num, by have := HE2.out; rw [← HL'.out, this]; exact HK2.out⟩, by simp [intOf]; omega⟩
                    | true =>
                      have HE2 : Hid (L' = L1 ++ underP (atL l m) (266 + 256 * (k : Int))) := by show _ = _; rw [HE0.out]; unfold spIn; rw [hz]; rfl
                      go_wp2_with (first | (go_at_call 132; fail))
                      refine hun.mono ?_
                      rintro e X3 ⟨v2, rfl, ho2, hb2⟩
                      have HK3 : Hid _ := HK2.out.call hb2
                      obtain ⟨v'', W3, R1, HK4⟩ := HK3.out.app ho2 (by have := underK_len (atL l m) (266 + 256 * (k : Int)) 256; unfold underP; omega) 112
                      clear ho2 hb2 hun hA2 HE0
                      go_wp2_with (first | (at_builtin; refine wpList_ap2 rfl (.tmp 88) (.tmp 94) rfl rfl rfl R1 ?_))
                      exact ⟨⟨k + 1, by omega, by go_num, by have := HE2.out; rw [← HL'.out, this]; exact HK4.out⟩, by simp [intOf]; omega⟩
                · obtain rfl : k = 256 := by omega
                  have HR : Hid (OwnS wr w.heap.size u5 (spotsP y l d)) := by
                    have := HF2.out
                    show OwnS _ _ _ _
                    rw [this]
                    exact HK.out.st.own.mono HB.out.size
                  have HR2 : Hid (Below w.heap.size w wr) := below_next HB.out HK.out.st.bel
                  clear HK
                  go_wp2
                  go_ret
                  exact ⟨_, rfl, HR.out, HR2.out⟩
end Go.Proofs.YtlcdpmjdnihocaaGreat
/- Inodes that may be, by their fields alone, on the document's disk of an audit: no fault is found. -/
namespace Go.Proofs.YtlcdpmjdnihocaaGreat
open Go.RowKit Go.Maps
theorem nod_info (k l s b : Int) (d : Nat → Int) : (Tryz.prog.info? 111).map (·.size) = some (node16 k l s b d).size := size27
theorem nod_two (k l s b k' l' s' b' : Int) (d d' : Nat → Int) : (node16 k l s b d).size = (node16 k' l' s' b' d').size := rfl
section
variable {w : World} {g : Nat} {k l s b : Int} {d : Nat → Int} {t : TypeId}
theorem nod_k (h : w.heap[g]? = some (.cells (node16 k l s b d) t)) : w.cell? ⟨g, 0, none⟩ = some (.int .u16 k) := by rw [cell_of_row w g 0 _ t _ h]; rfl
theorem nod_l (h : w.heap[g]? = some (.cells (node16 k l s b d) t)) : w.cell? ⟨g, 1, none⟩ = some (.int .u16 l) := by rw [cell_of_row w g 1 _ t _ h]; rfl
theorem nod_s (h : w.heap[g]? = some (.cells (node16 k l s b d) t)) : w.cell? ⟨g, 2, none⟩ = some (.int .u32 s) := by rw [cell_of_row w g 2 _ t _ h]; rfl
end
structure OddOk (f : Nat → Int) (k l s : Int) : Prop where
  tail : ∀ j, 60 ≤ j → j < 64 → f j = 0
  hk : 0 ≤ k ∧ k ≤ 2
  hs : 0 ≤ s ∧ s ≤ 67381248
  hl : 0 ≤ l ∧ l ≤ 1000
  dir : k = 2 → s % 16 = 0 ∧ (l = 0 ∨ (32 ≤ s ∧ ¬ l = 1))
set_option maxRecDepth 20000 in
set_option maxHeartbeats 1000000 in
theorem odd29_ok (f : Nat → Int) (k l s b : Int) (d : Nat → Int) (w : World) (h : OddOk f k l s) :
    Calls Tryz.prog 122 #[.agg (rowN .u8 f 64), .agg (node16 k l s b d)] w fun e w' => e = .returned (.bool false) ∧ Below w.heap.size w w' := by
  have HX : Hid (((w.alloc (.cells (rowN .u8 f 64) 158)).alloc (.cells (node16 k l s b d) 111)).heap[w.heap.size]? = some (.cells (rowN .u8 f 64) 158)) := heap_kept (heap_alloc_new _ _) (below_new _ _)
  have hn : ((w.alloc (.cells (rowN .u8 f 64) 158)).alloc (.cells (node16 k l s b d) 111)).heap[w.heap.size + 1]? = some (.cells (node16 k l s b d) 111) := heap_two _ _ _
  have HB : Hid (Below w.heap.size w ((w.alloc (.cells (rowN .u8 f 64) 158)).alloc (.cells (node16 k l s b d) 111))) := bel_alA (below_new _ _) _
  have c0 := nod_k hn
  have c1 := nod_l hn
  have c2 := nod_s hn
  clear hn
  obtain ⟨ht, hk, hs, hl, hd⟩ := h
  have HT : Hid _ := ht
  clear ht
  go_enter Tryz.func122, Tryz.ntmps122
  go_wp2
  generalize (w.alloc (.cells (rowN .u8 f 64) 158)).alloc (.cells (node16 k l s b d) 111) = V at *
  go_loopw [5] (fun s5 wx => wx = V ∧ ∃ j : Nat, 60 ≤ j ∧ j ≤ 64 ∧ s5 = .int .i64 j) (fun s5 _ => 64 - (intOf s5).toNat)
  case atStart => exact ⟨rfl, 60, by omega, by omega, rfl⟩
  case round =>
    obtain ⟨rfl, j, hj1, hj2, rfl⟩ := hrel
    by_cases hj : (j : Int) < 64
    · have cx := cell_rowN (i := j) HX.out (by omega)
      rw [HT.out j hj1 (by omega)] at cx
      go_wp2
      exact ⟨⟨trivial, j + 1, by omega, by omega, by go_num⟩, by simp [intOf]; omega⟩
    · obtain rfl : j = 64 := by omega
      have g1 : decide (2 < k) = false := decide_eq_false (by omega)
      have g2 : decide (67381248 < s) = false := decide_eq_false (by omega)
      have g3 : decide (1000 < l) = false := decide_eq_false (by omega)
      by_cases hk2 : k = 2
      · obtain ⟨h16, hl2⟩ := hd hk2
        subst hk2
        have e1 : s.tmod 16 = 0 := by rw [Int.tmod_eq_emod_of_nonneg (by omega)]; exact h16
        rcases hl2 with rfl | ⟨h32, hl1⟩
        · go_wp2
          go_ret
          exact ⟨rfl, HB.out⟩
        · have g4 : decide (s < 32) = false := decide_eq_false (by omega)
          have g5 : (l == 1) = false := by simp [hl1]
          by_cases hl0 : l = 0
          · subst hl0
            go_wp2
            go_ret
            exact ⟨rfl, HB.out⟩
          · have g6 : (l == 0) = false := by simp [hl0]
            go_wp2
            go_ret
            exact ⟨rfl, HB.out⟩
      · have g7 : (k == 2) = false := by simp [hk2]
        go_wp2
        go_ret
        exact ⟨rfl, HB.out⟩
/-- An inode that may be. -/
def NdOk (i : Nat) (f : Nat → Int) : Prop := (¬ i = 1 ∧ ∀ j, j < 64 → f j = 0) ∨ (¬ i = 0 ∧ ¬ numN f 0 2 = 0 ∧ OddOk f (numN f 0 2) (numN f 2 2) (numN f 4 4) ∧ (i = 1 → numN f 0 2 = 2 ∧ ¬ numN f 2 2 = 0))
structure NodesOk (y : Lay) (l : List Cel) (nI nB : Nat) : Prop where
  i : y.i = nI
  i1 : nI ≤ 1000000
  nb : y.nodeBlocks = nB
  nb1 : nB ≤ 1000000
  at' : 0 ≤ y.nodeAt ∧ y.nodeAt ≤ 1000000000
  used : ∀ i, i ≤ nI → NdOk i (rawP y l i)
  rest : ∀ i, nI < i → i < 16 * nB → ∀ j, j < 64 → rawP y l i j = 0
theorem zero230 : ∀ w, (zeroValue 181).run Tryz.prog w = .ok (.agg #[.int .u8 0, .slice none 0 0]) w := (zero_of_info (show (Tryz.prog.info? 181).map (fun i => (i.zero, i.size)) = some (some (.agg #[.int .u8 0, .slice none 0 0]), 2) by kernel_rfl)).1
theorem eg159 : Tryz.prog.eqGuardType Tryz.prog.depth 158 = false := by kernel_rfl
set_option maxRecDepth 20000 in
set_option maxHeartbeats 4000000 in
theorem nodes29_ok {w : World} {g : Nat} {n : Int} {l : List Cel} {y : Lay} (h : Aud w g n l y) {nI nB : Nat} (hok : NodesOk y l nI nB) :
    Calls Tryz.prog 78 #[.pointer (some ⟨g, 0, none⟩)] w fun e w' => e = .returned (.slice none 0 0) ∧ Below w.heap.size w w' := by
  have z := zero230
  have z2 := zero159
  have z3 := zero27
  have HA : Hid (Aud (w.alloc (.cells #[.int .u8 4, .slice none 0 0] 181)) g n l y) := h.later (below_new _ _)
  have HX : Hid ((w.alloc (.cells #[.int .u8 4, .slice none 0 0] 181)).heap[w.heap.size]? = some (.cells #[.int .u8 4, .slice none 0 0] 181)) := heap_alloc_new _ _
  have HB : Hid (Below w.heap.size w (w.alloc (.cells #[.int .u8 4, .slice none 0 0] 181))) := below_new _ _
  have HC : Hid (∀ W, Aud W g n l y → W.cell? ⟨g, 4, none⟩ = some (.int .i64 nI) ∧ W.cell? ⟨g, 7, none⟩ = some (.int .i64 nB)) := fun W hW => by
    obtain ⟨⟨p, cap, q, c, hr, _⟩, _, _⟩ := hW
    have c4 := Joins.cell_of_block hr 4
    have c7 := Joins.cell_of_block hr 7
    unfold dkRow at c4 c7
    rw [show y.i = nI from hok.i] at c4
    rw [show y.nodeBlocks = nB from hok.nb] at c7
    exact ⟨c4, c7⟩
  have HO : Hid _ := hok
  have hi1 := hok.i1
  have hb1 := hok.nb1
  clear h hok
  have c4 := (HC.out _ HA.out).1
  go_enter Tryz.func78, Tryz.ntmps78
  go_wp2
  generalize w.alloc (.cells #[.int .u8 4, .slice none 0 0] 181) = V at *
  clear c4
  go_loopw [5, 6, 7, 8, 9] (fun s5 _ _ _ _ wx => ∃ k : Nat, k ≤ nI + 1 ∧ s5 = .int .i64 k ∧ Hid (Below V.heap.size V wx)) (fun s5 _ _ _ _ _ => nI + 1 - (intOf s5).toNat)
  case atStart => exact ⟨0, by omega, rfl, Below.refl _ _⟩
  case round =>
    obtain ⟨k, hk, rfl, HW⟩ := hrel
    by_cases hk2 : (k : Int) ≤ (nI : Int)
    · have hraw := raw29_any (HA.out.later HW.out) HO.out.at' k (by omega)
      have HN : Hid (∀ W, Below V.heap.size V W → Calls Tryz.prog 87 #[.pointer (some ⟨g, 0, none⟩), .int .i64 (k : Int)] W fun e w' => e = .returned (.agg (decN (rawP y l k))) ∧ Below W.heap.size W w') := fun W hW => node29_any (HA.out.later hW) HO.out.at' k (by omega)
      have hu := HO.out.used k (by omega)
      have hby : Byt (rawP y l k) := fun j => HA.out.blk _ _
      generalize rawP y l k = f at *
      have HBy : Hid _ := hby
      clear hby
      go_wp2_with (first | (go_at_call 121; fail))
      refine hraw.mono ?_
      rintro e W1 ⟨rfl, hb1⟩
      have HW1 : Hid (Below V.heap.size V (W1.alloc (.cells (rowN .u8 f 64) 158))) := below_next (below_next HW.out hb1) (below_new _ _)
      have hnod := HN.out _ HW1.out
      have hr1 : (W1.alloc (.cells (rowN .u8 f 64) 158)).heap[W1.heap.size]? = some (.cells (rowN .u8 f 64) 158) := heap_alloc_new _ _
      clear hb1 hraw HN HW
      go_wp2_with (first | (with_reducible refine isStoreR 158 ?_; refine wpList_stNew 158 rfl (.tmp 6) (.tmp 27) rfl W1.heap.size (rowN .u8 f 64) (rowN .u8 nought 64) 158 (by rw [rowN_size]; exact size29) (by rw [rowN_size, rowN_size]) (rowN_one _ _ _) rfl rfl rfl ?_) | (go_at_call 87; fail))
      generalize W1.alloc (.cells (rowN .u8 f 64) 158) = X1 at *
      generalize W1.heap.size = gx at *
      refine hnod.mono ?_
      rintro e W2 ⟨rfl, hb2⟩
      have hr2 := heap_kept hr1 hb2
      have hr3 := heap_kept hr2 (below_new W2 (.cells (decN f) 111))
      have hn3 : (W2.alloc (.cells (decN f) 111)).heap[W2.heap.size]? = some (.cells (decN f) 111) := heap_alloc_new _ _
      have HW2 : Hid (Below V.heap.size V (W2.alloc (.cells (decN f) 111))) := below_next (below_next HW1.out hb2) (below_new _ _)
      have HSt : Hid (∀ K : Prop, K → K) := fun _ h => h
      unfold decN at hn3 hr3 HW2 ⊢
      have ck := nod_k hn3
      have cl := nod_l hn3
      clear hr1 hr2 hb2 hnod HW1
      obtain ⟨b0, hb0⟩ : ∃ b0, sameN 64 f nought = b0 := ⟨_, rfl⟩
      rcases hu with ⟨hn1, hz⟩ | ⟨hn0, hnz, hodd, h1⟩
      · have ek : numN f 0 2 = 0 := by simp only [numN, hz 0 (by omega), hz 1 (by omega)]; rfl
        have hb1 : sameN 64 f nought = true := (sameN_iff 64 f nought).2 fun i hi => hz i hi
        rw [ek] at hn3 hr3 HW2 ck cl ⊢
        generalize numN f 2 2 = x1 at *
        generalize numN f 4 4 = x2 at *
        generalize numN f 8 4 = x3 at *
        generalize decD f = dd at *
        have g0 : ((k : Int) == 1) = false := by simp; omega
        go_wp2_with (first | (with_reducible refine isStoreR 111 ?_; refine wpList_stNew 111 rfl (.tmp 7) (.tmp 30) rfl W2.heap.size (node16 0 x1 x2 x3 dd) (node16 0 0 0 0 nought) 111 (nod_info _ _ _ _ _) (nod_two _ _ _ _ _ _ _ _ _ _) (node_one _ _ _ _ _) rfl rfl rfl ?_) | (with_reducible refine isLoadR 158 ?_; refine wpList_ldR 158 Tryz.underlying158 rfl rfl _ rfl gx rfl (rowN .u8 f 64) 158 (0, 0) (by rw [rowN_size]; exact size29) hr3 ?_) | (with_reducible refine isBuildR 158 ?_; refine wpList_zeroN Tryz.underlying158 zero159 rfl rfl ?_) | (with_reducible refine isEqR 158 158 ?_; refine wpList_eqN Tryz.underlying158 eg159 rfl _ _ rfl f nought true rfl rfl hb1 ?_))
        all_goals exact ⟨⟨k + 1, by omega, by go_num, HW2.out⟩, by simp [intOf]; omega⟩
      · generalize hx0 : numN f 0 2 = x0 at *
        generalize numN f 2 2 = x1 at *
        generalize numN f 4 4 = x2 at *
        generalize numN f 8 4 = x3 at *
        generalize decD f = dd at *
        clear hx0
        have g0 : ((k : Int) == 0) = false := by simp; omega
        have g1 : (x0 == 0) = false := by simp [hnz]
        have g1b : (x0 != 0) = true := by simp [hnz]
        have hcall := odd29_ok f x0 x1 x2 x3 dd (W2.alloc (.cells (node16 x0 x1 x2 x3 dd) 111)) hodd
        go_wp2_with (first | (with_reducible refine isStoreR 111 ?_; refine wpList_stNew 111 rfl (.tmp 7) (.tmp 30) rfl W2.heap.size (node16 x0 x1 x2 x3 dd) (node16 0 0 0 0 nought) 111 (nod_info _ _ _ _ _) (nod_two _ _ _ _ _ _ _ _ _ _) (node_one _ _ _ _ _) rfl rfl rfl ?_) | (with_reducible refine isLoadR 158 ?_; refine wpList_ldR 158 Tryz.underlying158 rfl rfl _ rfl gx rfl (rowN .u8 f 64) 158 (0, 0) (by rw [rowN_size]; exact size29) hr3 ?_) | (with_reducible refine isLoadR 111 ?_; refine wpList_ldR 111 Tryz.underlying111 rfl rfl _ rfl W2.heap.size rfl (node16 x0 x1 x2 x3 dd) 111 (0, 0) (nod_info _ _ _ _ _) hn3 ?_) | (with_reducible refine isBuildR 158 ?_; refine wpList_zeroN Tryz.underlying158 zero159 rfl rfl ?_) | (with_reducible refine isEqR 158 158 ?_; refine wpList_eqN Tryz.underlying158 eg159 rfl _ _ rfl f nought b0 rfl rfl hb0 ?_) | (go_at_call 122; fail))
        generalize W2.alloc (.cells (node16 x0 x1 x2 x3 dd) 111) = X2 at *
        refine hcall.mono ?_
        rintro e W3 ⟨rfl, hb3⟩
        have HW3 : Hid (Below V.heap.size V W3) := below_next HW2.out hb3
        have hn4 := heap_kept hn3 hb3
        have ck4 := nod_k hn4
        have cl4 := nod_l hn4
        clear hcall hb3 hn3 hr3 ck cl hodd hb0
        by_cases hk1 : (k : Int) = 1
        · obtain ⟨q1, q2⟩ := h1 (by omega)
          subst q1
          have g2 : ((k : Int) == 1) = true := by simp; omega
          have g3 : (x1 == 0) = false := by simp [q2]
          go_wp2
          exact ⟨⟨k + 1, by omega, by go_num, HW3.out⟩, by simp [intOf]; omega⟩
        · have g2 : ((k : Int) == 1) = false := by simp; omega
          clear h1
          go_wp2
          exact ⟨⟨k + 1, by omega, by go_num, HW3.out⟩, by simp [intOf]; omega⟩
    · obtain rfl : k = nI + 1 := by omega
      have hx1 := HA.out.later HW.out
      have hxx := heap_kept HX.out HW.out
      have HW1 : Hid (Below V.heap.size V (wr.alloc (.cells (rowN .u8 nought 64) 158))) := below_next HW.out (below_new _ _)
      have hz1 : (wr.alloc (.cells (rowN .u8 nought 64) 158)).heap[wr.heap.size]? = some (.cells (rowN .u8 nought 64) 158) := heap_alloc_new _ _
      have HZ : Hid _ := hz1
      clear hz1 hx1 hxx HW
      have e1 : ((nI + 1 : Nat) : Int) = (nI : Int) + 1 := by omega
      go_wp2
      generalize wr.alloc (.cells (rowN .u8 nought 64) 158) = X at *
      generalize wr.heap.size = gz at *
      go_loopw [11] (fun s11 wx => ∃ k : Nat, nI < k ∧ s11 = .int .i64 k ∧ Hid (Below X.heap.size X wx)) (fun s11 _ => 16 * nB - (intOf s11).toNat)
      case atStart => exact ⟨nI + 1, by omega, by go_num, Below.refl _ _⟩
      case round =>
        obtain ⟨k, hk, rfl, HW⟩ := hrel
        have HWV : Hid (Below V.heap.size V wr) := below_next HW1.out HW.out
        have hA2 := HA.out.later HWV.out
        have c7 := (HC.out _ hA2).2
        have e2 : IntKind.i64.wrap (16 * (nB : Int)) = 16 * (nB : Int) := by rw [IntKind.wrap_i64]; omega
        by_cases hk2 : (k : Int) < 16 * (nB : Int)
        · have hraw := raw29_any (HA.out.later HWV.out.drew) HO.out.at' k (by omega)
          have hz := HO.out.rest k hk (by omega)
          have hsame : sameN 64 (rawP y l k) nought = true := (sameN_iff 64 _ nought).2 fun i hi => hz i hi
          generalize rawP y l k = f at *
          have hgz : wr.drew.heap[gz]? = some (.cells (rowN .u8 nought 64) 158) := heap_kept HZ.out HW.out.drew
          clear hz hA2
          go_upto_region 16 with fail
          refine wp_region_ord (S := fun u => u.heap[gz]? = some (.cells (rowN .u8 nought 64) 158)) [(0, true), (1, true), (3, true), (2, false), (4, true)] (by kernel_rfl) rfl (by kernel_rfl) (fun d _ _ _ _ h => by cases d <;> exact h) hgz ?_
          have HWd : Hid (Below X.heap.size X wr.drew) := HW.out.drew
          clear HWV HW c7
          generalize wr.drew = wd at *
          simp only [inOrd, List.getElem?_cons_zero, List.getElem?_cons_succ]
          refine wpOrd_yield (v := .pointer (some ⟨g, 0, none⟩)) rfl (fun u _ => exec_mv rfl rfl) ?_
          simp only [Act.put, List.setIfInBounds_toArray, List.set_cons_succ, List.set_cons_zero]
          refine wpOrd_yield (v := .int .i64 (k : Int)) rfl (fun u _ => exec_mv rfl rfl) ?_
          simp only [Act.put, List.setIfInBounds_toArray, List.set_cons_succ, List.set_cons_zero]
          refine wpOrd_yield (v := .agg (rowN .u8 nought 64)) rfl (fun u hu => run_ldR 158 Tryz.underlying158 rfl _ rfl gz rfl hu (by rw [rowN_size]; exact size29)) ?_
          simp only [Act.put, List.setIfInBounds_toArray, List.set_cons_succ, List.set_cons_zero]
          refine wpOrd_call rfl 121 _ _ rfl Tryz.call121 [.pointer (some ⟨g, 0, none⟩), .int .i64 (k : Int)] rfl ?_
          refine hraw.mono ?_
          rintro e' W2 ⟨rfl, hb2⟩
          have HW2 : Hid (Below X.heap.size X W2) := below_next HWd.out hb2
          refine ⟨_, rfl, heap_kept hgz hb2, ?_⟩
          simp only [Act.put, List.setIfInBounds_toArray, List.set_cons_succ, List.set_cons_zero]
          refine wpOrd_yield (v := .bool false) rfl (fun u _ => exec_neN Tryz.underlying158 eg159 _ _ rfl f nought true rfl rfl hsame) ?_
          simp only [Act.put, List.setIfInBounds_toArray, List.set_cons_succ, List.set_cons_zero]
          refine wpOrd_nil ?_
          clear hb2 hraw hgz HWd hsame
          go_wp2
          exact ⟨⟨k + 1, by omega, by go_num, HW2.out⟩, by simp [intOf]; omega⟩
        · have hxx := heap_kept HX.out HWV.out
          have cx := Joins.cell_of_block hxx 1
          have HR : Hid (Below w.heap.size w wr) := below_next HB.out HWV.out
          clear hA2 HWV HW
          go_wp2
          go_ret
          exact ⟨rfl, HR.out⟩
end Go.Proofs.YtlcdpmjdnihocaaGreat
/- The inodes that are not free, with their block numbers, as a list in memory. -/
namespace Go.Proofs.YtlcdpmjdnihocaaGreat
open Go.RowKit Go.Maps
/-- An inode that is not free: its number, fields, twelve numbers, and its list of block numbers, which lies at p. -/
structure Fl where
  inum : Nat
  k : Int
  lk : Int
  s : Int
  b : Int
  d : Nat → Int
  p : Option Addr
  c : Nat
  sp : List (Int × Int)
def flCells (x : Fl) : List Value := [.int .i64 x.inum, .int .u16 x.k, .int .u16 x.lk, .int .u32 x.s, .int .u32 x.b, .int .u32 (x.d 0), .int .u32 (x.d 1), .int .u32 (x.d 2), .int .u32 (x.d 3), .int .u32 (x.d 4), .int .u32 (x.d 5), .int .u32 (x.d 6), .int .u32 (x.d 7), .int .u32 (x.d 8), .int .u32 (x.d 9), .int .u32 (x.d 10), .int .u32 (x.d 11), .slice x.p x.sp.length x.c]
theorem flCells_len (x : Fl) : (flCells x).length = 18 := rfl
theorem flCells_one (x : Fl) : ∀ u ∈ flCells x, u.oneCell' = true := fun u hu => by
  simp only [flCells, List.mem_cons, List.not_mem_nil, or_false] at hu
  rcases hu with rfl | rfl | rfl | rfl | rfl | rfl | rfl | rfl | rfl | rfl | rfl | rfl | rfl | rfl | rfl | rfl | rfl | rfl <;> rfl
theorem info155 : (Tryz.prog.info? 114).map (fun i => (i.zero, i.size, i.bytes)) = some (some (.agg #[.int .i64 0, .int .u16 0, .int .u16 0, .int .u32 0, .int .u32 0, .int .u32 0, .int .u32 0, .int .u32 0, .int .u32 0, .int .u32 0, .int .u32 0, .int .u32 0, .int .u32 0, .int .u32 0, .int .u32 0, .int .u32 0, .int .u32 0, .slice none 0 0]), 18, 96) := by kernel_rfl
theorem zero155 : ∀ w, (zeroValue 114).run Tryz.prog w = .ok (.agg #[.int .i64 0, .int .u16 0, .int .u16 0, .int .u32 0, .int .u32 0, .int .u32 0, .int .u32 0, .int .u32 0, .int .u32 0, .int .u32 0, .int .u32 0, .int .u32 0, .int .u32 0, .int .u32 0, .int .u32 0, .int .u32 0, .int .u32 0, .slice none 0 0]) w := (zero_of_info (show (Tryz.prog.info? 114).map (fun i => (i.zero, i.size)) = some (some (.agg #[.int .i64 0, .int .u16 0, .int .u16 0, .int .u32 0, .int .u32 0, .int .u32 0, .int .u32 0, .int .u32 0, .int .u32 0, .int .u32 0, .int .u32 0, .int .u32 0, .int .u32 0, .int .u32 0, .int .u32 0, .int .u32 0, .int .u32 0, .slice none 0 0]), 18) by kernel_rfl)).1
section
variable {o : Oper} {a : Act} {W : World}
theorem exec_build155 {x y z : Operand} {i : Nat} {k l s b : Int} {d : Nat → Int} {p : Option Addr} {c : Nat} {sp : List (Int × Int)} (ho : o.op = .build 114 #[(0, x), (1, y), (2, z)]) (hx : a.eval x = .int .i64 (i : Int)) (hy : a.eval y = .agg (node16 k l s b d)) (hz : a.eval z = .slice p sp.length c) :
    (execOp a.eval o).run Tryz.prog W = .ok (.value (.agg (flCells ⟨i, k, l, s, b, d, p, c, sp⟩).toArray)) W := by
  have z155 := zero155 W
  unfold node16 at hy
  generalize a.eval = E at *
  unfold execOp
  simp only [ho]
  simp [go_sem, hx, hy, hz, z155, flCells]
theorem exec_slice155 {y : Operand} {x : Fl} (ho : o.op = .buildSlice 101 1 #[(0, y)]) (hy : a.eval y = .agg (flCells x).toArray) : (execOp a.eval o).run Tryz.prog W = .ok (.value (.slice (some ⟨W.heap.size, 0, none⟩) 1 1)) (W.alloc (.cells (flCells x).toArray 114)) := by
  have z155 := zero155
  unfold flCells at *
  generalize a.eval = E at *
  unfold execOp
  simp only [ho]
  simp [go_sem, hy, z155]
theorem wpOrd_act {ops : Array Oper} {Q : Exit → Act → World → Prop} {S : World → Prop} {r : List (Bool × Oper)} {W' : World} {v : Value} (hw : Region.wanted o (yielded ops a.tmps) = true) (hr : (execOp a.eval o).run Tryz.prog W = .ok (.value v) W') (hS : S W') (h : wpOrd Tryz.prog ops Q S r (a.put o.dst v) W') : wpOrd Tryz.prog ops Q S ((false, o) :: r) a W := by
  simp only [wpOrd, hw, if_true]
  unfold Oper.wp
  rw [hr]
  exact ⟨hS, h⟩
end
/-- What it is, wherever its list lies. -/
structure FC where
  inum : Nat
  k : Int
  lk : Int
  s : Int
  b : Int
  d : Nat → Int
  sp : List (Int × Int)
def Fl.core (x : Fl) : FC := ⟨x.inum, x.k, x.lk, x.s, x.b, x.d, x.sp⟩
def flP (y : Lay) (l : List Cel) (i : Nat) : FC := ⟨i, numN (rawP y l i) 0 2, numN (rawP y l i) 2 2, numN (rawP y l i) 4 4, numN (rawP y l i) 8 4, decD (rawP y l i), spotsP y l (decD (rawP y l i))⟩
/-- The inodes 1 to k that are not free. -/
def filesK (y : Lay) (l : List Cel) (k : Nat) : List FC := (List.range k).filterMap fun i => if numN (rawP y l (i + 1)) 0 2 = 0 then none else some (flP y l (i + 1))
theorem filesK_zero {y : Lay} {l : List Cel} {k : Nat} (h : numN (rawP y l (k + 1)) 0 2 = 0) : filesK y l (k + 1) = filesK y l k := by unfold filesK; rw [List.range_succ, List.filterMap_append]; simp [h]
theorem filesK_some {y : Lay} {l : List Cel} {k : Nat} (h : ¬ numN (rawP y l (k + 1)) 0 2 = 0) : filesK y l (k + 1) = filesK y l k ++ [flP y l (k + 1)] := by unfold filesK; rw [List.range_succ, List.filterMap_append]; simp [h]
theorem filesK_len (y : Lay) (l : List Cel) (k : Nat) : (filesK y l k).length ≤ k := by
  have := List.length_filterMap_le (fun (i : Nat) => if numN (rawP y l (i + 1)) 0 2 = 0 then none else some (flP y l (i + 1))) (List.range k)
  rwa [List.length_range] at this
structure FilesAt (w : World) (B : Nat) (v : Value) (L : List Fl) : Prop where
  own : OwnG flCells 114 18 w B v L
  sp : ∀ x ∈ L, ∃ B', OwnS w B' (.slice x.p x.sp.length x.c) x.sp
theorem FilesAt.nil (w : World) (B : Nat) : FilesAt w B (.slice none 0 0) [] := ⟨OwnG.nil _ _, fun _ h => by cases h⟩
theorem FilesAt.later {w W : World} {B : Nat} {v : Value} {L : List Fl} (h : FilesAt w B v L) (hb : Below w.heap.size w W) : FilesAt W B v L := ⟨h.own.later hb, fun x hx => by obtain ⟨B', h'⟩ := h.sp x hx; exact ⟨B', h'.later hb⟩⟩
theorem FilesAt.push {w : World} {B : Nat} {v : Value} {L : List Fl} (h : FilesAt w B v L) (hB : B ≤ w.heap.size) (hn : L.length ≤ 10000000) (x : Fl) {B' : Nat} (hx : OwnS w B' (.slice x.p x.sp.length x.c) x.sp) (ty : TypeId) :
    ∃ v' w', (Builtin.append_ #[101, 101] ty #[v, .slice (some ⟨w.heap.size, 0, none⟩) 1 1]).run Tryz.prog (w.alloc (.cells (flCells x).toArray 114)) = .ok v' w' ∧ FilesAt w' B v' (L ++ [x]) ∧ Below B w w' ∧ Fr (fun b => v.ownBlock = some b) w w' := by
  obtain ⟨i0, hi0, hz0, hz1, hz2⟩ := info_parts info155
  obtain ⟨v', w', h1, h2, h3, h4⟩ := own_pushF flCells_len flCells_one Tryz.underlying101 hi0 hz0 hz1 hz2 rfl (by omega) (by omega) h.own hB hn x ty
  have key : ∀ {B'' : Nat} {q : Value} {sp : List (Int × Int)}, OwnS w B'' q sp → OwnS w' B'' q sp := fun {B'' q sp} hq => by
    refine own_frame hq h4 fun b hb hT => ?_
    exact rows_apart (by decide) h.own hT hq hb
  refine ⟨v', w', h1, ⟨h2, fun z hz => ?_⟩, h3, h4⟩
  rcases List.mem_append.1 hz with hz | hz
  · obtain ⟨B'', h'⟩ := h.sp z hz
    exact ⟨B'', key h'⟩
  · obtain rfl : z = x := by simpa using hz
    exact ⟨B', key hx⟩
end Go.Proofs.YtlcdpmjdnihocaaGreat
/- Files: the walk. -/
namespace Go.Proofs.YtlcdpmjdnihocaaGreat
open Go.RowKit Go.Maps
structure FiSt (w W : World) (v : Value) (l : List FC) : Prop where
  own : ∃ L : List Fl, FilesAt W w.heap.size v L ∧ L.map Fl.core = l
  bel : Below w.heap.size w W
theorem FiSt.call {w W W' : World} {v : Value} {l : List FC} (h : FiSt w W v l) (hb : Below W.heap.size W W') : FiSt w W' v l := by
  obtain ⟨⟨L, h1, h2⟩, h3⟩ := h
  exact ⟨⟨L, h1.later hb, h2⟩, below_next h3 hb⟩
theorem FiSt.push {w W : World} {v : Value} {l : List FC} (h : FiSt w W v l) (hn : l.length ≤ 10000000) (x : Fl) {B' : Nat} (hx : OwnS W B' (.slice x.p x.sp.length x.c) x.sp) (ty : TypeId) :
    ∃ v' w', (Builtin.append_ #[101, 101] ty #[v, .slice (some ⟨W.heap.size, 0, none⟩) 1 1]).run Tryz.prog (W.alloc (.cells (flCells x).toArray 114)) = .ok v' w' ∧ Hid (FiSt w w' v' (l ++ [x.core])) ∧ ∀ (q : Nat) (Z : Array Value) (t : TypeId), 114 ≠ t → W.heap[q]? = some (.cells Z t) → w'.heap[q]? = some (.cells Z t) := by
  obtain ⟨⟨L, h1, h2⟩, h3⟩ := h
  obtain ⟨v', w', q1, q2, q3, q4⟩ := h1.push h3.size (by rw [← h2, List.length_map] at hn; exact hn) x hx ty
  exact ⟨v', w', q1, ⟨⟨L ++ [x], q2, by rw [List.map_append, h2]; rfl⟩, h3.trans q3⟩, fun q Z t hne hq => (q4.block q (Array.getElem?_eq_some_iff.1 hq).1 (own_ne h1.own hq hne)).trans hq⟩
theorem decD_bound {f : Nat → Int} (hf : Byt f) (i : Nat) : 0 ≤ decD f i ∧ decD f i < 4294967296 := by
  have := numN_bd f hf 4 (12 + 4 * i)
  unfold decD
  omega
set_option maxRecDepth 20000 in
set_option maxHeartbeats 4000000 in
theorem files29_any {w : World} {g : Nat} {n : Int} {l : List Cel} {y : Lay} (h : Aud w g n l y) {nI : Nat} (hi : y.i = nI) (hi1 : nI ≤ 1000000) (hy : 0 ≤ y.nodeAt ∧ y.nodeAt ≤ 1000000000) :
    Calls Tryz.prog 52 #[.pointer (some ⟨g, 0, none⟩)] w fun e w' => ∃ v, e = .returned v ∧ FiSt w w' v (filesK y l nI) := by
  have z3 := zero27
  have HA : Hid (Aud w g n l y) := h
  have HC : Hid (∀ W, Aud W g n l y → W.cell? ⟨g, 4, none⟩ = some (.int .i64 nI)) := fun W hW => by
    obtain ⟨⟨p, cap, q, c, hr, _⟩, _, _⟩ := hW
    have c4 := Joins.cell_of_block hr 4
    unfold dkRow at c4
    rwa [show y.i = nI from hi] at c4
  clear h hi
  go_enter Tryz.func52, Tryz.ntmps52
  go_wp2
  go_loopw [3, 4, 5] (fun s3 s4 _ wx => ∃ k : Nat, k ≤ nI ∧ s4 = .int .i64 ((k + 1 : Nat) : Int) ∧ Hid (FiSt w wx s3 (filesK y l k))) (fun _ s4 _ _ => nI + 1 - (intOf s4).toNat)
  case atStart => exact ⟨0, by omega, rfl, ⟨[], FilesAt.nil _ _, rfl⟩, Below.refl _ _⟩
  case round =>
    obtain ⟨k, hk, rfl, HF⟩ := hrel
    have hA := HA.out.later HF.out.bel
    have c4 := HC.out _ hA
    by_cases hk2 : ((k + 1 : Nat) : Int) ≤ (nI : Int)
    · have hnod := node29_any hA hy (k + 1) (by omega)
      have hby : Byt (rawP y l (k + 1)) := fun j => HA.out.blk _ _
      have hdb := decD_bound hby
      have HS : Hid (∀ W, Aud W g n l y → Calls Tryz.prog 88 #[.pointer (some ⟨g, 0, none⟩), .agg (decN (rawP y l (k + 1)))] W fun e w' => ∃ v, e = .returned v ∧ OwnS w' W.heap.size v (spotsP y l (decD (rawP y l (k + 1)))) ∧ Below W.heap.size W w') := fun W hW => spots29_any hW _ _ _ _ _ hdb
      have HZ : Hid (numN (rawP y l (k + 1)) 0 2 = 0 → filesK y l (k + 1) = filesK y l k) := filesK_zero
      have HN : Hid (¬ numN (rawP y l (k + 1)) 0 2 = 0 → filesK y l (k + 1) = filesK y l k ++ [flP y l (k + 1)]) := filesK_some
      have hle := filesK_len y l k
      unfold flP at HN
      unfold nodP at hnod
      unfold decN at HS hnod
      generalize spotsP y l (decD (rawP y l (k + 1))) = sps at *
      generalize numN (rawP y l (k + 1)) 0 2 = x0 at *
      generalize numN (rawP y l (k + 1)) 2 2 = x1 at *
      generalize numN (rawP y l (k + 1)) 4 4 = x2 at *
      generalize numN (rawP y l (k + 1)) 8 4 = x3 at *
      generalize decD (rawP y l (k + 1)) = dd at *
      clear hby hdb
      have ek1 : (((k + 1 : Nat) : Int)) = (k : Int) + 1 := by omega
      have HL : Hid (∃ LL, LL = filesK y l (k + 1)) := ⟨_, rfl⟩
      go_wp2_with (first | (go_at_call 87; fail))
      refine hnod.mono ?_
      rintro e W1 ⟨rfl, hb1⟩
      have HF1 : Hid (FiSt w (W1.alloc (.cells (node16 x0 x1 x2 x3 dd) 111)) u3 (filesK y l k)) := (HF.out.call hb1).call (below_new _ _)
      have hn1 : (W1.alloc (.cells (node16 x0 x1 x2 x3 dd) 111)).heap[W1.heap.size]? = some (.cells (node16 x0 x1 x2 x3 dd) 111) := heap_alloc_new _ _
      have ck := nod_k hn1
      clear hb1 hnod HF hA c4
      by_cases hz : x0 = 0
      · have HE := HZ.out hz
        subst hz
        have HE2 : Hid (filesK y l (k + 1) = filesK y l k) := HE
        clear HE
        go_wp2_with (first | (with_reducible refine isStoreR 111 ?_; refine wpList_stNew 111 rfl (.tmp 5) (.tmp 18) rfl W1.heap.size (node16 0 x1 x2 x3 dd) (node16 0 0 0 0 nought) 111 (nod_info _ _ _ _ _) (nod_two _ _ _ _ _ _ _ _ _ _) (node_one _ _ _ _ _) rfl rfl rfl ?_))
        exact ⟨⟨k + 1, by omega, by go_num, by have := HE2.out; rw [this]; exact HF1.out⟩, by simp [intOf]; omega⟩
      · have HE2 : Hid _ := HN.out hz
        have gz : (x0 == 0) = false := by simp [hz]
        have gzb : (x0 != 0) = true := by simp [hz]
        go_wp2_with (first | (with_reducible refine isStoreR 111 ?_; refine wpList_stNew 111 rfl (.tmp 5) (.tmp 18) rfl W1.heap.size (node16 x0 x1 x2 x3 dd) (node16 0 0 0 0 nought) 111 (nod_info _ _ _ _ _) (nod_two _ _ _ _ _ _ _ _ _ _) (node_one _ _ _ _ _) rfl rfl rfl ?_))
        generalize W1.alloc (.cells (node16 x0 x1 x2 x3 dd) 111) = X1 at *
        generalize W1.heap.size = gn at *
        refine wp_region_ord (S := fun u => u.heap[gn]? = some (.cells (node16 x0 x1 x2 x3 dd) 111)) [(0, true), (1, true), (3, true), (2, true), (4, true), (5, false), (6, true), (7, false), (8, false), (9, true)] (by kernel_rfl) rfl (by kernel_rfl) (fun d _ _ _ _ h => by cases d <;> exact h) hn1 ?_
        have HF2 : Hid (FiSt w X1.drew u3 (filesK y l k)) := ⟨by obtain ⟨⟨L, h1, h2⟩, _⟩ := HF1.out; exact ⟨L, h1.later (Below.refl _ _).drew, h2⟩, HF1.out.bel.drew⟩
        have hn2 : X1.drew.heap[gn]? = some (.cells (node16 x0 x1 x2 x3 dd) 111) := hn1
        have hsp := HS.out X1.drew (HA.out.later HF2.out.bel)
        clear HF1 hn1 ck HS
        generalize X1.drew = wd at *
        simp only [inOrd, List.getElem?_cons_zero, List.getElem?_cons_succ]
        refine wpOrd_yield (v := u3) rfl (fun u _ => exec_mv rfl rfl) ?_
        simp only [Act.put, List.setIfInBounds_toArray, List.set_cons_succ, List.set_cons_zero]
        refine wpOrd_yield (v := .int .i64 ((k + 1 : Nat) : Int)) rfl (fun u _ => exec_mv rfl rfl) ?_
        simp only [Act.put, List.setIfInBounds_toArray, List.set_cons_succ, List.set_cons_zero]
        refine wpOrd_yield (v := .pointer (some ⟨g, 0, none⟩)) rfl (fun u _ => exec_mv rfl rfl) ?_
        simp only [Act.put, List.setIfInBounds_toArray, List.set_cons_succ, List.set_cons_zero]
        refine wpOrd_yield (v := .agg (node16 x0 x1 x2 x3 dd)) rfl (fun u hu => run_ldR 111 Tryz.underlying111 rfl _ rfl gn rfl hu (nod_info _ _ _ _ _)) ?_
        simp only [Act.put, List.setIfInBounds_toArray, List.set_cons_succ, List.set_cons_zero]
        refine wpOrd_yield (v := .agg (node16 x0 x1 x2 x3 dd)) rfl (fun u hu => run_ldR 111 Tryz.underlying111 rfl _ rfl gn rfl hu (nod_info _ _ _ _ _)) ?_
        simp only [Act.put, List.setIfInBounds_toArray, List.set_cons_succ, List.set_cons_zero]
        refine wpOrd_call rfl 88 _ _ rfl Tryz.call88 [.pointer (some ⟨g, 0, none⟩), .agg (node16 x0 x1 x2 x3 dd)] rfl ?_
        refine hsp.mono ?_
        rintro e' W2 ⟨vs, rfl, hos, hb2⟩
        have HF3 : Hid (FiSt w W2 u3 (filesK y l k)) := HF2.out.call hb2
        have hn3 := heap_kept hn2 hb2
        obtain ⟨p, c, rfl, _⟩ := OwnG.lie pc2_len hos
        obtain ⟨v', W3, R1, HF4, hkp⟩ := HF3.out.push (by omega) ⟨k + 1, x0, x1, x2, x3, dd, p, c, sps⟩ hos 101
        refine ⟨_, rfl, hn3, ?_⟩
        simp only [Act.put, List.setIfInBounds_toArray, List.set_cons_succ, List.set_cons_zero]
        refine wpOrd_yield (v := .agg (flCells ⟨k + 1, x0, x1, x2, x3, dd, p, c, sps⟩).toArray) rfl (fun u _ => exec_build155 rfl rfl rfl rfl) ?_
        simp only [Act.put, List.setIfInBounds_toArray, List.set_cons_succ, List.set_cons_zero]
        refine wpOrd_act rfl (exec_slice155 rfl rfl) (heap_kept hn3 (below_new _ _)) ?_
        simp only [Act.put, List.setIfInBounds_toArray, List.set_cons_succ, List.set_cons_zero]
        refine wpOrd_act rfl (exec_push rfl rfl rfl R1) (hkp _ _ _ (by decide) hn3) ?_
        simp only [Act.put, List.setIfInBounds_toArray, List.set_cons_succ, List.set_cons_zero]
        refine wpOrd_yield (v := v') rfl (fun u _ => by simp [execOp, Act.eval]) ?_
        simp only [Act.put, List.setIfInBounds_toArray, List.set_cons_succ, List.set_cons_zero]
        refine wpOrd_nil ?_
        have HF5 : Hid (FiSt w W3 v' (filesK y l (k + 1))) := by rw [HE2.out]; exact HF4.out
        clear HF4 HF3 HF2 hos hb2 hn2 hn3 R1 hkp hsp HE2 HN HZ
        go_wp2
        exact ⟨⟨k + 1, by omega, by go_num, HF5.out⟩, by simp [intOf]; omega⟩
    · obtain rfl : k = nI := by omega
      clear hA
      go_wp2
      go_ret
      exact ⟨_, rfl, HF.out⟩
end Go.Proofs.YtlcdpmjdnihocaaGreat
