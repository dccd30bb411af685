/- Several texts joined, each with its own remark; no condition. -/
import Derived.Test.YtlcdpmjdnihocaaGreatF6
import Derived.Test.YtlcdpmjdnihocaaGreatF7
import Derived.Test.YtlcdpmjdnihocaaGreatF9
import Derived.Deep.Cut
import Derived.Deep.CutRange
import Derived.WalkKit
import Derived.WalkSpells
import Derived.WalkLawsBesides
import Derived.Deep.WholeRow
import Derived.Laws.StructEq
import Derived.Test.YtlcdpmjdnihocaaGreatRows
import Derived.BigQuiet
import Derived.OrdersHeld
/- Mkfs by the program: the root's inode; no condition but that its block's number fits in four bytes. -/
namespace Go.Proofs.YtlcdpmjdnihocaaGreat
open Go.RowKit Go.Maps
/-- The root's twelve numbers. -/
def rtD (g : Int) : Nat → Int := updN nought 0 g
/-- The root's inode. -/
def rtN (g : Int) : Array Value := YtlcdpmjdnihocaaGreatK.node16 2 2 32 1 (rtD g)
theorem zeroNd : ∀ w, (zeroValue 111).run Tryz.prog w = .ok (.agg (YtlcdpmjdnihocaaGreatK.node16 0 0 0 0 nought)) w := (zero_of_info (show (Tryz.prog.info? 111).map (fun i => (i.zero, i.size)) = some (some (.agg (YtlcdpmjdnihocaaGreatK.node16 0 0 0 0 nought)), 16) by kernel_rfl)).1
theorem nd_size (g : Int) : (Tryz.prog.info? 111).map (·.size) = some (rtN g).size := by kernel_rfl
/-- The root's inode, cell by cell. -/
def rtL (g : Int) : Array Value := #[.int .u16 2, .int .u16 2, .int .u32 32, .int .u32 1, .int .u32 g, .int .u32 0, .int .u32 0, .int .u32 0, .int .u32 0, .int .u32 0, .int .u32 0, .int .u32 0, .int .u32 0, .int .u32 0, .int .u32 0, .int .u32 0]
theorem rtL_eq (g : Int) : rtL g = rtN g := rfl
theorem rtL_size (g : Int) : (Tryz.prog.info? 111).map (·.size) = some (rtL g).size := nd_size g
set_option maxRecDepth 20000 in
set_option maxHeartbeats 1000000 in
theorem root_ok (b l i a c d e f g : Int) (w : World) (hg : 0 ≤ g ∧ g < 4294967296) :
    Calls Tryz.prog 139 #[.agg (YtlcdpmjdnihocaaGreatP.lay9 b l i a c d e f g)] w fun e' w' => e' = .returned (.agg (rtN g)) ∧ Below w.heap.size w w' := by
  have z := zeroNd
  have hw : IntKind.u32.wrap g = g := by rw [YtlcdpmjdnihocaaGreatK.wrap_u32]; omega
  have h0 : Hid ((Tryz.prog.info? 111).map (·.size) = some (rtL g).size) := rtL_size g
  rw [← rtL_eq]
  unfold YtlcdpmjdnihocaaGreatP.lay9
  unfold YtlcdpmjdnihocaaGreatK.node16 nought at z
  unfold rtL at *
  go_enter Tryz.func139, Tryz.ntmps139
  go_wp2_with (first | (with_reducible refine isStoreR 111 ?_; refine wpList_stNew 111 rfl _ _ rfl (w.heap.size + 1) _ _ 111 h0.out rfl rfl rfl rfl rfl ?_))
  exact retR Tryz.underlying111 rfl rfl (w.heap.size + 1) _ 111 h0.out rfl (heap_two _ _ _) rfl ⟨rfl, below_next (below_new _ _) (below_new _ _)⟩
end Go.Proofs.YtlcdpmjdnihocaaGreat
/- Rows of bytes stored into the middle of rows of bytes, and copied piece by piece; no condition but that they fit. -/
namespace Go.Proofs.YtlcdpmjdnihocaaGreat
open Go.RowKit Go.Maps
theorem rowN_len (f : Nat → Int) (n : Nat) : (rowN .u8 f n).toList.length = n := by rw [Array.length_toList, rowN_size]
theorem over_row (F E : Nat → Int) (off n m : Nat) (h : off + n ≤ m) : ((rowN .u8 F m).toList.take off ++ (rowN .u8 E n).toList ++ (rowN .u8 F m).toList.drop (off + n)).toArray = rowN .u8 (YtlcdpmjdnihocaaGreatN.over F off n E) m := by
  refine rowN_ext ?_ fun i hi => ?_
  · simp [rowN_size]; omega
  · simp only [List.getElem?_toArray]
    by_cases h1 : i < off
    · rw [List.getElem?_append_left (by simp [rowN_size]; omega), List.getElem?_append_left (by simp [rowN_size]; omega), List.getElem?_take_of_lt h1]
      simp only [Array.getElem?_toList, rowN_get _ F m i hi, YtlcdpmjdnihocaaGreatN.over]
      rw [if_neg (by omega)]
    · have e0 : (List.take off (rowN .u8 F m).toList).length = off := by simp [rowN_size]; omega
      by_cases h2 : i < off + n
      · rw [List.getElem?_append_left (by simp [rowN_size]; omega), List.getElem?_append_right (by rw [e0]; omega), e0]
        simp only [Array.getElem?_toList, rowN_get _ E n (i - off) (by omega), YtlcdpmjdnihocaaGreatN.over]
        rw [if_pos (by omega)]
      · rw [List.getElem?_append_right (by rw [List.length_append, e0, rowN_len]; omega), List.length_append, e0, rowN_len, List.getElem?_drop, show off + n + (i - (off + n)) = i by omega]
        simp only [Array.getElem?_toList, rowN_get _ F m i hi, YtlcdpmjdnihocaaGreatN.over]
        rw [if_neg (by omega)]
section
variable {ops : Array Oper} {rest : List Oper} {o : Oper} {a : Act} {w : World} {Q : Exit → Act → World → Prop}
/-- A row of bytes is stored into the middle of a row of bytes. -/
theorem wpList_stMid (ty : TypeId) (hgd : o.guard = none) (x y : Operand) (ho : o.op = .store ty x y) (g off n m : Nat) (F E : Nat → Int) (t : TypeId) (hi : (Tryz.prog.info? ty).map (·.size) = some n)
    (hx : a.eval x = .pointer (some ⟨g, off, none⟩)) (hy : a.eval y = .agg (rowN .u8 E n)) (hg : w.heap[g]? = some (.cells (rowN .u8 F m) t)) (hfit : off + n ≤ m)
    (h : wpList Tryz.prog ops Q rest (a.put o.dst undef) (w.setRow g (rowN .u8 (YtlcdpmjdnihocaaGreatN.over F off n E) m))) : wpList Tryz.prog ops Q (o :: rest) a w :=
  wpList_plain hgd fun _ hK => by
    have hl := rowN_len E n
    have hst := run_storeCells_at Tryz.prog g off t (rowN .u8 E n).toList 0 (rowN .u8 F m) w hg (by rw [hl, Nat.add_zero, rowN_size]; exact hfit) (fun v hv => by
      have := rowN_one .u8 E n
      rw [Array.all_eq_true_iff_forall_mem] at this
      exact this v (by simpa using hv))
    rw [Nat.add_zero, hl, over_row F E off n m hfit] at hst
    have hr : (Instr.storeAt ty (.pointer (some ⟨g, off, none⟩)) (.agg (rowN .u8 E n))).run Tryz.prog w = .ok () (w.setRow g (rowN .u8 (YtlcdpmjdnihocaaGreatN.over F off n E) m)) := by
      obtain ⟨i0, hi0⟩ := Option.isSome_iff_exists.1 (show (Tryz.prog.info? ty).isSome = true by cases hq : Tryz.prog.info? ty with | none => rw [hq] at hi; simp at hi | some _ => rfl)
      have hz : i0.size = n := by rw [hi0] at hi; simpa using hi
      have hs := rowN_size .u8 E n
      generalize rowN .u8 E n = R at *
      simp [Instr.storeAt, Instr.sureAddr, storeVar, sizeOf, typeInfo, hi0, Value.cells, hs, hz, hst]
    unfold Oper.wp execOp
    simp only [ho, hx, hy, Sem.run_bind, hr, Result.andThen_ok, Sem.run_pure]
    exact hK _ _ h
end
section
variable {o : Oper} {a : Act} {W : World}
theorem exec_copyB {d s : Operand} (ho : o.op = .call { callee := .builtin .copy, args := #[d, s], argTypes := #[157, 157] }) (g off dLen dCap gs so sLen sCap : Nat)
    (hd : a.eval d = .slice (some ⟨g, off, none⟩) dLen dCap) (hs : a.eval s = .slice (some ⟨gs, so, none⟩) sLen sCap)
    (F : Nat → Int) (m : Nat) (t : TypeId) (hF : W.heap[g]? = some (.cells (rowN .u8 F m) t)) (G : Nat → Int) (n : Nat) (hn : n = Nat.min sLen dLen)
    (hsrc : ∀ j, j < n → W.cell? ⟨gs, so + j, none⟩ = some (.int .u8 (G j))) (hfit : off + n ≤ m) : (execOp a.eval o).run Tryz.prog W = .ok (.value (goInt n)) (W.setRow g (rowN .u8 (YtlcdpmjdnihocaaGreatN.over F off n G) m)) := by
  have hrun : (Builtin.copy_ #[157, 157] o.type #[.slice (some ⟨g, off, none⟩) dLen dCap, .slice (some ⟨gs, so, none⟩) sLen sCap]).run Tryz.prog W = .ok (goInt n) (W.setRow g (rowN .u8 (YtlcdpmjdnihocaaGreatN.over F off n G) m)) :=
    YtlcdpmjdnihocaaGreatN.run_copy5 W o.type g off dLen dCap gs so sLen sCap F m t hF G n hn hsrc hfit
  simp [execOp, ho, resolve, invoke, builtin, hd, hs, hrun, Result.andThen]
theorem sliceB (g off lo : Nat) (h : lo < 1024) (u : World) :
    (Instr.sliceAt 79 (.pointer (some ⟨g, off, none⟩)) (some (.int .i64 (lo : Int))) none none).run Tryz.prog u = .ok (.slice (some ⟨g, off + lo, none⟩) (1024 - lo) (1024 - lo)) u := by
  have hn : ¬ ((1024 : Nat) = lo) := by omega
  have ea : Tryz.prog.arrayLen 79 = 1024 := by kernel_rfl
  have ee : Tryz.prog.elem 79 = 5 := by kernel_rfl
  have h := run_sliceAt_array_l (P := Tryz.prog) u 79 ⟨g, off, none⟩ (by rw [ea, ee]; exact Tryz.underlying79) .i64 (lo : Int) (by omega) (by rw [ea]; omega)
  rw [h, ea, ee]
  simp [Tryz.sizeOf5, slicedAt, hn, Addr.add]
theorem exec_slB {x y : Operand} {g off lo : Nat} (ho : o.op = .slice 79 x (some y) none none) (hx : a.eval x = .pointer (some ⟨g, off, none⟩)) (hy : a.eval y = .int .i64 (lo : Int)) (h : lo < 1024) : (execOp a.eval o).run Tryz.prog W = .ok (.value (.slice (some ⟨g, off + lo, none⟩) (1024 - lo) (1024 - lo))) W := by
  have e := sliceB g off lo h W
  simp [execOp, ho, hx, hy, e]
theorem sliceY (g off : Nat) (u : World) : (Instr.sliceAt 204 (.pointer (some ⟨g, off, none⟩)) none none none).run Tryz.prog u = .ok (.slice (some ⟨g, off, none⟩) 64 64) u := by
  have ea : Tryz.prog.arrayLen 204 = 64 := by kernel_rfl
  have ee : Tryz.prog.elem 204 = 5 := by kernel_rfl
  have h := run_sliceAt_array_all (P := Tryz.prog) u 204 ⟨g, off, none⟩ (by rw [ea, ee]; exact Tryz.underlying204)
  rw [h, ea, ee]
  simp [Tryz.sizeOf5, slicedAt, Addr.add]
theorem exec_slY {x : Operand} {g off : Nat} (ho : o.op = .slice 204 x none none none) (hx : a.eval x = .pointer (some ⟨g, off, none⟩)) : (execOp a.eval o).run Tryz.prog W = .ok (.value (.slice (some ⟨g, off, none⟩) 64 64)) W := by
  have e := sliceY g off W
  simp [execOp, ho, hx, e]
theorem sliceE (g off : Nat) (u : World) : (Instr.sliceAt 208 (.pointer (some ⟨g, off, none⟩)) none none none).run Tryz.prog u = .ok (.slice (some ⟨g, off, none⟩) 16 16) u := by
  have ea : Tryz.prog.arrayLen 208 = 16 := by kernel_rfl
  have ee : Tryz.prog.elem 208 = 5 := by kernel_rfl
  have h := run_sliceAt_array_all (P := Tryz.prog) u 208 ⟨g, off, none⟩ (by rw [ea, ee]; exact Tryz.underlying208)
  rw [h, ea, ee]
  simp [Tryz.sizeOf5, slicedAt, Addr.add]
theorem exec_slE {x : Operand} {g off : Nat} (ho : o.op = .slice 208 x none none none) (hx : a.eval x = .pointer (some ⟨g, off, none⟩)) : (execOp a.eval o).run Tryz.prog W = .ok (.value (.slice (some ⟨g, off, none⟩) 16 16)) W := by
  have e := sliceE g off W
  simp [execOp, ho, hx, e]
theorem wpOrd_actM {ops : Array Oper} {Q : Exit → Act → World → Prop} {S : World → Prop} {r : List (Bool × Oper)} {W' : World} {v : Value} (hw : Region.wanted o (yielded ops a.tmps) = true) (hr : (execOp a.eval o).run Tryz.prog W = .ok (.value v) W') (hS : S W') (h : wpOrd Tryz.prog ops Q S r (a.put o.dst v) W') : wpOrd Tryz.prog ops Q S ((false, o) :: r) a W := by
  simp only [wpOrd, hw, if_true]
  unfold Oper.wp
  rw [hr]
  exact ⟨hS, h⟩
theorem wpOrd_doM {ops : Array Oper} {Q : Exit → Act → World → Prop} {S : World → Prop} {r : List (Bool × Oper)} {W' : World} (hw : Region.wanted o (yielded ops a.tmps) = true) (hr : (execOp a.eval o).run Tryz.prog W = .ok .skip W') (hS : S W') (h : wpOrd Tryz.prog ops Q S r (a.put o.dst undef) W') : wpOrd Tryz.prog ops Q S ((false, o) :: r) a W := by
  simp only [wpOrd, hw, if_true]
  unfold Oper.wp
  rw [hr]
  exact ⟨hS, h⟩
end
/-- The first k bytes of a row, noughts behind them. -/
def uptoF (F : Nat → Int) (k : Nat) : Nat → Int := fun j => if j < k then F j else 0
theorem upto_zero (F : Nat → Int) : uptoF F 0 = nought := by funext j; unfold uptoF; rw [if_neg (by omega)]; rfl
theorem upto_over (F : Nat → Int) (k n : Nat) : YtlcdpmjdnihocaaGreatN.over (uptoF F k) k n (fun j => F (k + j)) = uptoF F (k + n) := by
  funext j
  unfold YtlcdpmjdnihocaaGreatN.over uptoF
  by_cases h : k ≤ j ∧ j < k + n
  · rw [if_pos h, if_pos (by omega)]
    show F (k + (j - k)) = F j
    rw [show k + (j - k) = j by omega]
  · rw [if_neg h]
    by_cases h2 : j < k
    · rw [if_pos h2, if_pos (by omega)]
    · rw [if_neg h2, if_neg (by omega)]
theorem upto_row (F : Nat → Int) (n : Nat) : rowN .u8 (uptoF F n) n = rowN .u8 F n := rowN_congr fun i hi => by unfold uptoF; rw [if_pos hi]
end Go.Proofs.YtlcdpmjdnihocaaGreat
/- Mkfs by the program: a block of the inodes' region; no condition but that the root's block's number fits in four bytes. -/
namespace Go.Proofs.YtlcdpmjdnihocaaGreat
open Go.RowKit Go.Maps
/-- The layout, a row for the result, the inodes and a block beside them, made since w. -/
structure NdT (w W : World) (L : Array Value) (X : Nat → Int) : Prop where
  lay : W.heap[w.heap.size]? = some (.cells L 52)
  res : W.heap[w.heap.size + 1]? = some (.cells (blk nought) 79)
  row : W.heap[w.heap.size + 2]? = some (.cells (rowN .u8 X 1024) 205)
  bel : Below w.heap.size w W
structure NdS (w W : World) (L : Array Value) (X : Nat → Int) (gb : Nat) (Y : Nat → Int) : Prop where
  lay : W.heap[w.heap.size]? = some (.cells L 52)
  res : W.heap[w.heap.size + 1]? = some (.cells (blk nought) 79)
  row : W.heap[w.heap.size + 2]? = some (.cells (rowN .u8 X 1024) 205)
  far : w.heap.size + 2 < gb
  blk : W.heap[gb]? = some (.cells (blk Y) 79)
  bel : Below w.heap.size w W
section
variable {w W W' : World} {L : Array Value} {X Y : Nat → Int} {gb : Nat}
theorem NdT.later (h : NdT w W L X) (hb : Below W.heap.size W W') : NdT w W' L X := ⟨heap_kept h.lay hb, heap_kept h.res hb, heap_kept h.row hb, below_next h.bel hb⟩
theorem NdS.later (h : NdS w W L X gb Y) (hb : Below W.heap.size W W') : NdS w W' L X gb Y := ⟨heap_kept h.lay hb, heap_kept h.res hb, heap_kept h.row hb, h.far, heap_kept h.blk hb, below_next h.bel hb⟩
theorem NdT.blkNew (h : NdT w W L X) : NdS w (W.alloc (.cells (blk nought) 79)) L X W.heap.size nought := by
  have h2 := h.later (below_new W (.cells (blk nought) 79))
  exact ⟨h2.lay, h2.res, h2.row, (Array.getElem?_eq_some_iff.1 h.row).1, heap_alloc_new _ _, h2.bel⟩
theorem NdT.set (h : NdT w W L X) (E : Nat → Int) : NdT w (W.setRow (w.heap.size + 2) (rowN .u8 E 1024)) L E :=
  ⟨(setRow_other _ _ _ _ (by omega)).trans h.lay, (setRow_other _ _ _ _ (by omega)).trans h.res, setRow_heap _ _ _ _ _ _ h.row, below_setRow h.bel (by omega) _⟩
theorem NdS.set (h : NdS w W L X gb Y) (E : Nat → Int) : NdS w (W.setRow gb (rowN .u8 E 1024)) L X gb E := by
  have := h.far
  exact ⟨(setRow_other _ _ _ _ (by omega)).trans h.lay, (setRow_other _ _ _ _ (by omega)).trans h.res, (setRow_other _ _ _ _ (by omega)).trans h.row, h.far, setRow_heap _ _ _ _ _ _ h.blk, below_setRow h.bel (by omega) _⟩
end
theorem zeroL16 : ∀ w, (zeroValue 205).run Tryz.prog w = .ok (.agg (rowN .u8 nought 1024)) w := (zero_of_info (show (Tryz.prog.info? 205).map (fun i => (i.zero, i.size)) = some (some (.agg (rowN .u8 nought 1024)), 1024) by kernel_rfl)).1
theorem sizeBy64 : (Tryz.prog.info? 204).map (·.size) = some 64 := by kernel_rfl
/-- A block of the inodes' region, as mkfs writes it: the root in the first one. -/
def ndE (g : Int) : Nat → Int := YtlcdpmjdnihocaaGreatK.encN 2 2 32 1 (rtD g) 12
def ndF (g : Int) (rt : Bool) : Nat → Int := if rt then YtlcdpmjdnihocaaGreatN.over nought 64 64 (ndE g) else nought
theorem rt_ok {g : Int} (hg : 0 ≤ g ∧ g < 4294967296) : YtlcdpmjdnihocaaGreatK.NodeOk 2 2 32 1 (rtD g) := ⟨by omega, by omega, by omega, by omega, fun i => by
  unfold rtD updN nought
  split <;> omega⟩
set_option maxRecDepth 20000 in
set_option maxHeartbeats 4000000 in
theorem nodes_ok (b l i a c d e f g k : Int) (w : World) (hg : 0 ≤ g ∧ g < 4294967296) (hc : -9223372036854775808 ≤ c ∧ c ≤ 9223372036854775807) :
    Calls Tryz.prog 98 #[.agg (YtlcdpmjdnihocaaGreatP.lay9 b l i a c d e f g), .int .i64 k] w fun e' w' => e' = .returned (.agg (blk (ndF g (k == c)))) ∧ Below w.heap.size w w' := by
  have zb := zero77
  have zl := zeroL16
  have hrt := fun u => root_ok b l i a c d e f g u hg
  have hen : ∀ V : World, Calls Tryz.prog 138 #[.agg (rtN g)] V fun e w' => e = .returned (.agg (rowN .u8 (ndE g) 64)) ∧ Below V.heap.size V w' := fun V => YtlcdpmjdnihocaaGreatK.encode_any 2 2 32 1 (rtD g) V (rt_ok hg)
  have HRt : Hid _ := hrt
  have HEn : Hid _ := hen
  clear hrt hen
  have hl : (YtlcdpmjdnihocaaGreatP.lay9 b l i a c d e f g)[4]? = some (.int .i64 c) := rfl
  have hlL : (Tryz.prog.info? 52).map (·.size) = some (YtlcdpmjdnihocaaGreatP.lay9 b l i a c d e f g).size := by kernel_rfl
  have HSl : Hid _ := hlL
  clear hlL
  generalize YtlcdpmjdnihocaaGreatP.lay9 b l i a c d e f g = L at *
  generalize rtN g = N at *
  obtain ⟨A, hA⟩ : ∃ A, A = ((w.alloc (.cells L 52)).alloc (.cells (blk nought) 79)).alloc (.cells (rowN .u8 nought 1024) 205) := ⟨_, rfl⟩
  have hT : NdT w A L nought := by
    rw [hA]
    refine ⟨heap_kept (heap_kept (heap_alloc_new _ _) (below_new _ _)) (below_new _ _), heap_kept (heap_two _ _ _) (below_new _ _), ?_, below_next (below_next (below_new _ _) (below_new _ _)) (below_new _ _)⟩
    have := heap_two (w.alloc (.cells L 52)) (.cells (blk nought) 79) (.cells (rowN .u8 nought 1024) 205)
    rwa [show (w.alloc (.cells L 52)).heap.size + 1 = w.heap.size + 2 by simp] at this
  have HT : Hid _ := hT
  have c4 : A.cell? ⟨w.heap.size, 4, none⟩ = some (.int .i64 c) := (cell_of_row _ _ 4 _ _ _ hT.lay).trans hl
  have e0 : IntKind.i64.wrap c = c := by rw [IntKind.wrap_i64]; omega
  have HA : Hid (A = _) := hA
  clear hA hT hl
  by_cases hk : k = c
  · subst hk
    have hkk : (k == k) = true := by simp
    rw [hkk]
    have HX : Hid (ndF g true = YtlcdpmjdnihocaaGreatN.over nought 64 64 (ndE g)) := rfl
    go_enter Tryz.func98, Tryz.ntmps98
    go_upto_region 2 with fail
    rw [← HA.out]
    clear HA
    go_wp2_with (first | (with_reducible refine isLoadR 52 ?_; refine wpList_ldR 52 Tryz.underlying52 rfl rfl _ rfl w.heap.size rfl L 52 (0, 0) HSl.out HT.out.lay ?_) | (go_at_call 139; fail))
    refine (HRt.out _).mono ?_
    rintro e' W1 ⟨rfl, hb1⟩
    have HT1 : Hid _ := HT.out.later hb1
    clear HT hb1
    go_wp2_with (go_at_call 138; fail)
    refine (HEn.out _).mono ?_
    rintro e' W2 ⟨rfl, hb2⟩
    have HT2 : Hid _ := HT1.out.later hb2
    clear HT1 hb2 c4
    go_upto_region 4 with (first | (with_reducible refine isStoreR 204 ?_; refine wpList_stMid 204 rfl _ _ rfl (w.heap.size + 2) 64 64 1024 nought (ndE g) 205 sizeBy64 rfl rfl HT2.out.row (by omega) ?_))
    have HV : Hid (NdT w (W2.setRow (w.heap.size + 2) (rowN .u8 (YtlcdpmjdnihocaaGreatN.over nought 64 64 (ndE g)) 1024)) L (YtlcdpmjdnihocaaGreatN.over nought 64 64 (ndE g))) := HT2.out.set _
    clear HT2
    generalize YtlcdpmjdnihocaaGreatN.over nought 64 64 (ndE g) = X at *
    generalize W2.setRow (w.heap.size + 2) (rowN .u8 X 1024) = V at *
    clear HRt HEn
    go_wp2_with fail
    have HS : Hid (NdS w (V.alloc (.cells (blk nought) 79)) L X V.heap.size nought) := HV.out.blkNew
    clear HV
    generalize V.alloc (.cells (blk nought) 79) = V1 at *
    generalize V.heap.size = gb at *
    go_loopw [17] (fun s17 wx => ∃ m : Nat, m ≤ 16 ∧ s17 = .int .i64 m ∧ Hid (NdS w wx L X gb (uptoF X (64 * m)))) (fun s17 _ => 16 - (intOf s17).toNat)
    case atStart =>
      refine ⟨0, by omega, rfl, ?_⟩
      rw [show 64 * 0 = 0 from rfl, upto_zero]
      exact HS.out
    case round =>
      obtain ⟨m, hm, rfl, HM⟩ := hrel
      clear HS
      by_cases hm2 : (m : Int) < 16
      · have hm3 : m < 16 := by omega
        go_wp2_with fail
        have HB : Hid (NdS w wr.drew L X gb (uptoF X (64 * m))) := HM.out.later (Below.refl _ _).drew
        clear HM
        have e1 : IntKind.i64.wrap ((m : Int) * 64) = ((64 * m : Nat) : Int) := by rw [IntKind.wrap_i64]; omega
        have HQ : Hid (64 * m + 64 = 64 * (m + 1) ∧ 64 * m < 1024 ∧ 64 * m + 64 ≤ 1024) := ⟨by omega, by omega, by omega⟩
        have HG : Hid (NdS w (wr.drew.setRow gb (rowN .u8 (YtlcdpmjdnihocaaGreatN.over (uptoF X (64 * m)) (64 * m) 64 fun j => X (64 * m + j)) 1024)) L X gb (uptoF X (64 * (m + 1)))) := by
          have := HB.out.set (YtlcdpmjdnihocaaGreatN.over (uptoF X (64 * m)) (64 * m) 64 fun j => X (64 * m + j))
          rw [← HQ.out.1, ← upto_over]
          exact this
        refine wp_region_ord (S := fun _ => True) [(0, true), (1, true), (2, true), (3, true), (4, true), (5, true), (6, false)] (by kernel_rfl) rfl (by kernel_rfl) (fun d _ _ _ _ h => by cases d <;> exact h) trivial ?_
        simp only [inOrd, List.getElem?_cons_zero, List.getElem?_cons_succ]
        generalize wr.drew = U at *
        refine wpOrd_yield (v := .int .i64 (m : Int)) rfl (fun u _ => by go_simp) ?_
        simp only [Act.put, List.setIfInBounds_toArray, List.set_cons_succ, List.set_cons_zero]
        refine wpOrd_yield (v := .int .i64 ((64 * m : Nat) : Int)) rfl (fun u _ => by go_simp) ?_
        simp only [Act.put, List.setIfInBounds_toArray, List.set_cons_succ, List.set_cons_zero]
        refine wpOrd_yield (v := .slice (some ⟨gb, 0 + 64 * m, none⟩) (1024 - 64 * m) (1024 - 64 * m)) rfl (fun u _ => exec_slB rfl rfl rfl HQ.out.2.1) ?_
        simp only [Act.put, List.setIfInBounds_toArray, List.set_cons_succ, List.set_cons_zero]
        refine wpOrd_yield (v := .int .i64 (m : Int)) rfl (fun u _ => by go_simp) ?_
        simp only [Act.put, List.setIfInBounds_toArray, List.set_cons_succ, List.set_cons_zero]
        refine wpOrd_yield (v := .pointer (some ⟨w.heap.size + 2, 64 * m, none⟩)) rfl (fun u _ => by have hc := Nat.mul_comm m 64; go_simp) ?_
        simp only [Act.put, List.setIfInBounds_toArray, List.set_cons_succ, List.set_cons_zero]
        refine wpOrd_yield (v := .slice (some ⟨w.heap.size + 2, 64 * m, none⟩) 64 64) rfl (fun u _ => exec_slY rfl rfl) ?_
        simp only [Act.put, List.setIfInBounds_toArray, List.set_cons_succ, List.set_cons_zero]
        refine wpOrd_actM rfl (exec_copyB rfl gb (0 + 64 * m) (1024 - 64 * m) (1024 - 64 * m) (w.heap.size + 2) (64 * m) 64 64 rfl rfl (uptoF X (64 * m)) 1024 79 HB.out.blk (fun j => X (64 * m + j)) 64 (by have := HQ.out; exact (Nat.min_eq_left (show 64 ≤ 1024 - 64 * m by omega)).symm) (fun j hj => cell_rowN HB.out.row (by have := HQ.out; omega)) (by have := HQ.out; omega)) trivial ?_
        simp only [Act.put, List.setIfInBounds_toArray, List.set_cons_succ, List.set_cons_zero]
        refine wpOrd_nil ?_
        rw [Nat.zero_add]
        generalize U.setRow gb (rowN .u8 (YtlcdpmjdnihocaaGreatN.over (uptoF X (64 * m)) (64 * m) 64 fun j => X (64 * m + j)) 1024) = U2 at *
        clear HB e1 HQ
        go_wp2_with fail
        exact ⟨⟨m + 1, by omega, by go_num, HG.out⟩, by simp [intOf]; omega⟩
      · obtain rfl : m = 16 := by omega
        have hb := HM.out.blk
        rw [show blk (uptoF X (64 * 16)) = blk X from upto_row X 1024] at hb
        have hr := HM.out.res
        have HBe : Hid _ := HM.out.bel
        clear HM
        go_wp2_with (first | (with_reducible refine isLoadR 79 ?_; refine wpList_ldB rfl _ rfl gb 0 X rfl (blk_at hb) ?_) | (with_reducible refine isStoreR 79 ?_; refine wpList_stB rfl _ _ rfl (w.heap.size + 1) X nought 79 rfl rfl hr ?_))
        exact retB rfl (w.heap.size + 1) X 79 rfl (setRow_heap _ _ _ _ _ _ hr) rfl ⟨by rw [HX.out], below_setRow HBe.out (by omega) _⟩
  · have hkk : (k == c) = false := by simp [hk]
    rw [hkk]
    have HX : Hid (ndF g false = nought) := rfl
    go_enter Tryz.func98, Tryz.ntmps98
    go_upto_region 2 with fail
    rw [← HA.out]
    clear HA
    go_upto_region 4 with fail
    have HV : Hid _ := HT.out
    clear HT c4
    obtain ⟨X, hX⟩ : ∃ X : Nat → Int, nought = X := ⟨_, rfl⟩
    have HV2 : Hid (NdT w A L X) := hX ▸ HV.out
    rw [hX] at HX
    clear HV hX
    have HV : Hid _ := HV2.out
    clear HV2
    generalize A = V at *
    clear HRt HEn
    go_wp2_with fail
    have HS : Hid (NdS w (V.alloc (.cells (blk nought) 79)) L X V.heap.size nought) := HV.out.blkNew
    clear HV
    generalize V.alloc (.cells (blk nought) 79) = V1 at *
    generalize V.heap.size = gb at *
    go_loopw [17] (fun s17 wx => ∃ m : Nat, m ≤ 16 ∧ s17 = .int .i64 m ∧ Hid (NdS w wx L X gb (uptoF X (64 * m)))) (fun s17 _ => 16 - (intOf s17).toNat)
    case atStart =>
      refine ⟨0, by omega, rfl, ?_⟩
      rw [show 64 * 0 = 0 from rfl, upto_zero]
      exact HS.out
    case round =>
      obtain ⟨m, hm, rfl, HM⟩ := hrel
      clear HS
      by_cases hm2 : (m : Int) < 16
      · have hm3 : m < 16 := by omega
        go_wp2_with fail
        have HB : Hid (NdS w wr.drew L X gb (uptoF X (64 * m))) := HM.out.later (Below.refl _ _).drew
        clear HM
        have e1 : IntKind.i64.wrap ((m : Int) * 64) = ((64 * m : Nat) : Int) := by rw [IntKind.wrap_i64]; omega
        have HQ : Hid (64 * m + 64 = 64 * (m + 1) ∧ 64 * m < 1024 ∧ 64 * m + 64 ≤ 1024) := ⟨by omega, by omega, by omega⟩
        have HG : Hid (NdS w (wr.drew.setRow gb (rowN .u8 (YtlcdpmjdnihocaaGreatN.over (uptoF X (64 * m)) (64 * m) 64 fun j => X (64 * m + j)) 1024)) L X gb (uptoF X (64 * (m + 1)))) := by
          have := HB.out.set (YtlcdpmjdnihocaaGreatN.over (uptoF X (64 * m)) (64 * m) 64 fun j => X (64 * m + j))
          rw [← HQ.out.1, ← upto_over]
          exact this
        refine wp_region_ord (S := fun _ => True) [(0, true), (1, true), (2, true), (3, true), (4, true), (5, true), (6, false)] (by kernel_rfl) rfl (by kernel_rfl) (fun d _ _ _ _ h => by cases d <;> exact h) trivial ?_
        simp only [inOrd, List.getElem?_cons_zero, List.getElem?_cons_succ]
        generalize wr.drew = U at *
        refine wpOrd_yield (v := .int .i64 (m : Int)) rfl (fun u _ => by go_simp) ?_
        simp only [Act.put, List.setIfInBounds_toArray, List.set_cons_succ, List.set_cons_zero]
        refine wpOrd_yield (v := .int .i64 ((64 * m : Nat) : Int)) rfl (fun u _ => by go_simp) ?_
        simp only [Act.put, List.setIfInBounds_toArray, List.set_cons_succ, List.set_cons_zero]
        refine wpOrd_yield (v := .slice (some ⟨gb, 0 + 64 * m, none⟩) (1024 - 64 * m) (1024 - 64 * m)) rfl (fun u _ => exec_slB rfl rfl rfl HQ.out.2.1) ?_
        simp only [Act.put, List.setIfInBounds_toArray, List.set_cons_succ, List.set_cons_zero]
        refine wpOrd_yield (v := .int .i64 (m : Int)) rfl (fun u _ => by go_simp) ?_
        simp only [Act.put, List.setIfInBounds_toArray, List.set_cons_succ, List.set_cons_zero]
        refine wpOrd_yield (v := .pointer (some ⟨w.heap.size + 2, 64 * m, none⟩)) rfl (fun u _ => by have hc := Nat.mul_comm m 64; go_simp) ?_
        simp only [Act.put, List.setIfInBounds_toArray, List.set_cons_succ, List.set_cons_zero]
        refine wpOrd_yield (v := .slice (some ⟨w.heap.size + 2, 64 * m, none⟩) 64 64) rfl (fun u _ => exec_slY rfl rfl) ?_
        simp only [Act.put, List.setIfInBounds_toArray, List.set_cons_succ, List.set_cons_zero]
        refine wpOrd_actM rfl (exec_copyB rfl gb (0 + 64 * m) (1024 - 64 * m) (1024 - 64 * m) (w.heap.size + 2) (64 * m) 64 64 rfl rfl (uptoF X (64 * m)) 1024 79 HB.out.blk (fun j => X (64 * m + j)) 64 (by have := HQ.out; exact (Nat.min_eq_left (show 64 ≤ 1024 - 64 * m by omega)).symm) (fun j hj => cell_rowN HB.out.row (by have := HQ.out; omega)) (by have := HQ.out; omega)) trivial ?_
        simp only [Act.put, List.setIfInBounds_toArray, List.set_cons_succ, List.set_cons_zero]
        refine wpOrd_nil ?_
        rw [Nat.zero_add]
        generalize U.setRow gb (rowN .u8 (YtlcdpmjdnihocaaGreatN.over (uptoF X (64 * m)) (64 * m) 64 fun j => X (64 * m + j)) 1024) = U2 at *
        clear HB e1 HQ
        go_wp2_with fail
        exact ⟨⟨m + 1, by omega, by go_num, HG.out⟩, by simp [intOf]; omega⟩
      · obtain rfl : m = 16 := by omega
        have hb := HM.out.blk
        rw [show blk (uptoF X (64 * 16)) = blk X from upto_row X 1024] at hb
        have hr := HM.out.res
        have HBe : Hid _ := HM.out.bel
        clear HM
        go_wp2_with (first | (with_reducible refine isLoadR 79 ?_; refine wpList_ldB rfl _ rfl gb 0 X rfl (blk_at hb) ?_) | (with_reducible refine isStoreR 79 ?_; refine wpList_stB rfl _ _ rfl (w.heap.size + 1) X nought 79 rfl rfl hr ?_))
        exact retB rfl (w.heap.size + 1) X 79 rfl (setRow_heap _ _ _ _ _ _ hr) rfl ⟨by rw [HX.out], below_setRow HBe.out (by omega) _⟩
end Go.Proofs.YtlcdpmjdnihocaaGreat
/- Mkfs by the program: the root's block; no condition. -/
namespace Go.Proofs.YtlcdpmjdnihocaaGreat
open Go.RowKit Go.Maps
def dotS : ByteArray := ⟨#[46]⟩
def dotdotS : ByteArray := ⟨#[46, 46]⟩
/-- The root's block with its first entries. -/
def slK : Nat → Nat → Int
  | 0 => nought
  | 1 => YtlcdpmjdnihocaaGreatN.over nought 0 16 (encF 1 dotS)
  | _ => YtlcdpmjdnihocaaGreatN.over (YtlcdpmjdnihocaaGreatN.over nought 0 16 (encF 1 dotS)) 16 16 (encF 1 dotdotS)
def slF : Nat → Int := slK 2
theorem slK_zero : slK 0 = nought := rfl
theorem slK_one : slK 1 = YtlcdpmjdnihocaaGreatN.over nought 0 16 (encF 1 dotS) := rfl
theorem slK_two : slK 2 = YtlcdpmjdnihocaaGreatN.over (slK 1) 16 16 (encF 1 dotdotS) := rfl
/-- A row for the result and the entries beside it, made since w. -/
structure SlT (w W : World) (X : Nat → Int) : Prop where
  res : W.heap[w.heap.size]? = some (.cells (blk nought) 79)
  row : W.heap[w.heap.size + 1]? = some (.cells (rowN .u8 X 1024) 209)
  bel : Below w.heap.size w W
structure SlS (w W : World) (X : Nat → Int) (gb : Nat) (Y : Nat → Int) : Prop where
  res : W.heap[w.heap.size]? = some (.cells (blk nought) 79)
  row : W.heap[w.heap.size + 1]? = some (.cells (rowN .u8 X 1024) 209)
  far : w.heap.size + 1 < gb
  blk : W.heap[gb]? = some (.cells (blk Y) 79)
  bel : Below w.heap.size w W
section
variable {w W W' : World} {X Y : Nat → Int} {gb : Nat}
theorem SlT.later (h : SlT w W X) (hb : Below W.heap.size W W') : SlT w W' X := ⟨heap_kept h.res hb, heap_kept h.row hb, below_next h.bel hb⟩
theorem SlS.later (h : SlS w W X gb Y) (hb : Below W.heap.size W W') : SlS w W' X gb Y := ⟨heap_kept h.res hb, heap_kept h.row hb, h.far, heap_kept h.blk hb, below_next h.bel hb⟩
theorem SlT.blkNew (h : SlT w W X) : SlS w (W.alloc (.cells (blk nought) 79)) X W.heap.size nought := by
  have h2 := h.later (below_new W (.cells (blk nought) 79))
  exact ⟨h2.res, h2.row, (Array.getElem?_eq_some_iff.1 h.row).1, heap_alloc_new _ _, h2.bel⟩
theorem SlT.set (h : SlT w W X) (E : Nat → Int) : SlT w (W.setRow (w.heap.size + 1) (rowN .u8 E 1024)) E :=
  ⟨(setRow_other _ _ _ _ (by omega)).trans h.res, setRow_heap _ _ _ _ _ _ h.row, below_setRow h.bel (by omega) _⟩
theorem SlS.set (h : SlS w W X gb Y) (E : Nat → Int) : SlS w (W.setRow gb (rowN .u8 E 1024)) X gb E := by
  have := h.far
  exact ⟨(setRow_other _ _ _ _ (by omega)).trans h.res, (setRow_other _ _ _ _ (by omega)).trans h.row, h.far, setRow_heap _ _ _ _ _ _ h.blk, below_setRow h.bel (by omega) _⟩
end
theorem zeroL64 : ∀ w, (zeroValue 209).run Tryz.prog w = .ok (.agg (rowN .u8 nought 1024)) w := (zero_of_info (show (Tryz.prog.info? 209).map (fun i => (i.zero, i.size)) = some (some (.agg (rowN .u8 nought 1024)), 1024) by kernel_rfl)).1
theorem sizeBy16 : (Tryz.prog.info? 208).map (·.size) = some 16 := by kernel_rfl
theorem idx2a (u : World) : (Instr.index 210 (.agg #[.string ⟨#[46]⟩, .string ⟨#[46, 46]⟩]) (.int .i64 0)).run Tryz.prog u = .ok (.string ⟨#[46]⟩) u := by
  simp [Instr.index, run_underlying Tryz.underlying210, asIntOf, part, Tryz.isAgg9, go_sem]
theorem idx2b (u : World) : (Instr.index 210 (.agg #[.string ⟨#[46]⟩, .string ⟨#[46, 46]⟩]) (.int .i64 1)).run Tryz.prog u = .ok (.string ⟨#[46, 46]⟩) u := by
  simp [Instr.index, run_underlying Tryz.underlying210, asIntOf, part, Tryz.isAgg9, go_sem]
set_option maxRecDepth 20000 in
set_option maxHeartbeats 4000000 in
theorem slots_ok (w : World) : Calls Tryz.prog 100 #[] w fun e w' => e = .returned (.agg (blk slF)) ∧ Below w.heap.size w w' := by
  have zb := zero77
  have zl := zeroL64
  have hi0 := idx2a
  have hi1 := idx2b
  have he0 : ∀ V : World, Calls Tryz.prog 140 #[.agg #[.int .u16 1, .string ⟨#[46]⟩]] V fun e w' => e = .returned (.tuple #[.agg (rowN .u8 (encF 1 dotS) 16), .int .i64 (chV 1 dotS)]) ∧ Below V.heap.size V w' := fun V => enc_any V 1 (by omega) dotS (by decide)
  have he1 : ∀ V : World, Calls Tryz.prog 140 #[.agg #[.int .u16 1, .string ⟨#[46, 46]⟩]] V fun e w' => e = .returned (.tuple #[.agg (rowN .u8 (encF 1 dotdotS) 16), .int .i64 (chV 1 dotdotS)]) ∧ Below V.heap.size V w' := fun V => enc_any V 1 (by omega) dotdotS (by decide)
  have HE0 : Hid _ := he0
  have HE1 : Hid _ := he1
  clear he0 he1
  have HK0 : Hid _ := slK_zero
  have HK1 : Hid _ := slK_one
  have HK2 : Hid _ := slK_two
  have HX : Hid (slF = slK 2) := rfl
  generalize slF = F at *
  generalize encF 1 dotS = E0 at *
  generalize encF 1 dotdotS = E1 at *
  generalize chV 1 dotS = q0 at *
  generalize chV 1 dotdotS = q1 at *
  generalize slK = K at *
  obtain ⟨A, hA⟩ : ∃ A, A = (w.alloc (.cells (blk nought) 79)).alloc (.cells (rowN .u8 nought 1024) 209) := ⟨_, rfl⟩
  have hT : SlT w A (K 0) := by
    rw [hA, HK0.out]
    exact ⟨heap_kept (heap_alloc_new _ _) (below_new _ _), heap_two _ _ _, below_next (below_new _ _) (below_new _ _)⟩
  have HT : Hid _ := hT
  have HA : Hid (A = _) := hA
  clear hA hT
  go_enter Tryz.func100, Tryz.ntmps100
  go_upto_region 3 with fail
  rw [← HA.out]
  clear HA
  go_loopw [7] (fun s7 wx => ∃ m : Nat, m ≤ 2 ∧ s7 = .int .i64 m ∧ Hid (SlT w wx (K m))) (fun s7 _ => 2 - (intOf s7).toNat)
  case atStart => exact ⟨0, by omega, rfl, HT.out⟩
  case round =>
    obtain ⟨m, hm, rfl, HM⟩ := hrel
    clear HT
    by_cases h0 : m = 0
    · subst h0
      go_wp2_with (go_at_call 140; fail)
      refine (HE0.out _).mono ?_
      rintro e W1 ⟨rfl, hb1⟩
      have HM1 : Hid _ := HM.out.later hb1
      clear hb1 HM
      have HM2 : Hid (SlT w (W1.setRow (w.heap.size + 1) (rowN .u8 (YtlcdpmjdnihocaaGreatN.over (K 0) 0 16 E0) 1024)) (K 1)) := by
        rw [HK1.out, ← HK0.out]
        exact HM1.out.set _
      go_wp2_with (first | (with_reducible refine isStoreR 208 ?_; refine wpList_stMid 208 rfl _ _ rfl (w.heap.size + 1) 0 16 1024 (K 0) E0 209 sizeBy16 rfl rfl HM1.out.row (by omega) ?_))
      exact ⟨⟨1, by omega, by go_num, HM2.out⟩, by simp [intOf]⟩
    by_cases h1 : m = 1
    · subst h1
      go_wp2_with (go_at_call 140; fail)
      refine (HE1.out _).mono ?_
      rintro e W1 ⟨rfl, hb1⟩
      have HM1 : Hid _ := HM.out.later hb1
      clear hb1 HM
      have HM2 : Hid (SlT w (W1.setRow (w.heap.size + 1) (rowN .u8 (YtlcdpmjdnihocaaGreatN.over (K 1) 16 16 E1) 1024)) (K 2)) := by
        rw [HK2.out]
        exact HM1.out.set _
      go_wp2_with (first | (with_reducible refine isStoreR 208 ?_; refine wpList_stMid 208 rfl _ _ rfl (w.heap.size + 1) 16 16 1024 (K 1) E1 209 sizeBy16 rfl rfl HM1.out.row (by omega) ?_))
      exact ⟨⟨2, by omega, by go_num, HM2.out⟩, by simp [intOf]⟩
    obtain rfl : m = 2 := by omega
    have HV : Hid _ := HM.out
    rw [← HX.out] at HV
    clear HM HE0 HE1 HK0 HK1 HK2 HX
    go_upto_region 9 with fail
    have HS : Hid (SlS w (wr.alloc (.cells (blk nought) 79)) F wr.heap.size nought) := HV.out.blkNew
    clear HV
    generalize wr.alloc (.cells (blk nought) 79) = V1 at *
    generalize wr.heap.size = gb at *
    go_loopw [20] (fun s20 wx => ∃ m : Nat, m ≤ 64 ∧ s20 = .int .i64 m ∧ Hid (SlS w wx F gb (uptoF F (16 * m)))) (fun s20 _ => 64 - (intOf s20).toNat)
    case atStart =>
      refine ⟨0, by omega, rfl, ?_⟩
      rw [show 16 * 0 = 0 from rfl, upto_zero]
      exact HS.out
    case round =>
      obtain ⟨m, hm, rfl, HM⟩ := hrel
      clear HS
      by_cases hm2 : (m : Int) < 64
      · have hm3 : m < 64 := by omega
        go_wp2_with fail
        have HB : Hid (SlS w wr.drew F gb (uptoF F (16 * m))) := HM.out.later (Below.refl _ _).drew
        clear HM
        have e1 : IntKind.i64.wrap ((m : Int) * 16) = ((16 * m : Nat) : Int) := by rw [IntKind.wrap_i64]; omega
        have HQ : Hid (16 * m + 16 = 16 * (m + 1) ∧ 16 * m < 1024 ∧ 16 * m + 16 ≤ 1024) := ⟨by omega, by omega, by omega⟩
        have HG : Hid (SlS w (wr.drew.setRow gb (rowN .u8 (YtlcdpmjdnihocaaGreatN.over (uptoF F (16 * m)) (16 * m) 16 fun j => F (16 * m + j)) 1024)) F gb (uptoF F (16 * (m + 1)))) := by
          have := HB.out.set (YtlcdpmjdnihocaaGreatN.over (uptoF F (16 * m)) (16 * m) 16 fun j => F (16 * m + j))
          rw [← HQ.out.1, ← upto_over]
          exact this
        refine wp_region_ord (S := fun _ => True) [(0, true), (1, true), (2, true), (3, true), (4, true), (5, true), (6, false)] (by kernel_rfl) rfl (by kernel_rfl) (fun d _ _ _ _ h => by cases d <;> exact h) trivial ?_
        simp only [inOrd, List.getElem?_cons_zero, List.getElem?_cons_succ]
        generalize wr.drew = U at *
        refine wpOrd_yield (v := .int .i64 (m : Int)) rfl (fun u _ => by go_simp) ?_
        simp only [Act.put, List.setIfInBounds_toArray, List.set_cons_succ, List.set_cons_zero]
        refine wpOrd_yield (v := .int .i64 ((16 * m : Nat) : Int)) rfl (fun u _ => by go_simp) ?_
        simp only [Act.put, List.setIfInBounds_toArray, List.set_cons_succ, List.set_cons_zero]
        refine wpOrd_yield (v := .slice (some ⟨gb, 0 + 16 * m, none⟩) (1024 - 16 * m) (1024 - 16 * m)) rfl (fun u _ => exec_slB rfl rfl rfl HQ.out.2.1) ?_
        simp only [Act.put, List.setIfInBounds_toArray, List.set_cons_succ, List.set_cons_zero]
        refine wpOrd_yield (v := .int .i64 (m : Int)) rfl (fun u _ => by go_simp) ?_
        simp only [Act.put, List.setIfInBounds_toArray, List.set_cons_succ, List.set_cons_zero]
        refine wpOrd_yield (v := .pointer (some ⟨w.heap.size + 1, 16 * m, none⟩)) rfl (fun u _ => by have hc := Nat.mul_comm m 16; go_simp) ?_
        simp only [Act.put, List.setIfInBounds_toArray, List.set_cons_succ, List.set_cons_zero]
        refine wpOrd_yield (v := .slice (some ⟨w.heap.size + 1, 16 * m, none⟩) 16 16) rfl (fun u _ => exec_slE rfl rfl) ?_
        simp only [Act.put, List.setIfInBounds_toArray, List.set_cons_succ, List.set_cons_zero]
        refine wpOrd_actM rfl (exec_copyB rfl gb (0 + 16 * m) (1024 - 16 * m) (1024 - 16 * m) (w.heap.size + 1) (16 * m) 16 16 rfl rfl (uptoF F (16 * m)) 1024 79 HB.out.blk (fun j => F (16 * m + j)) 16 (by have := HQ.out; exact (Nat.min_eq_left (show 16 ≤ 1024 - 16 * m by omega)).symm) (fun j hj => cell_rowN HB.out.row (by have := HQ.out; omega)) (by have := HQ.out; omega)) trivial ?_
        simp only [Act.put, List.setIfInBounds_toArray, List.set_cons_succ, List.set_cons_zero]
        refine wpOrd_nil ?_
        rw [Nat.zero_add]
        generalize U.setRow gb (rowN .u8 (YtlcdpmjdnihocaaGreatN.over (uptoF F (16 * m)) (16 * m) 16 fun j => F (16 * m + j)) 1024) = U2 at *
        clear HB e1 HQ
        go_wp2_with fail
        exact ⟨⟨m + 1, by omega, by go_num, HG.out⟩, by simp [intOf]; omega⟩
      · obtain rfl : m = 64 := by omega
        have hb := HM.out.blk
        rw [show blk (uptoF F (16 * 64)) = blk F from upto_row F 1024] at hb
        have hr := HM.out.res
        have HBe : Hid _ := HM.out.bel
        clear HM
        go_wp2_with (first | (with_reducible refine isLoadR 79 ?_; refine wpList_ldB rfl _ rfl gb 0 F rfl (blk_at hb) ?_) | (with_reducible refine isStoreR 79 ?_; refine wpList_stB rfl _ _ rfl w.heap.size F nought 79 rfl rfl hr ?_))
        exact retB rfl w.heap.size F 79 rfl (setRow_heap _ _ _ _ _ _ hr) rfl ⟨rfl, below_setRow HBe.out (Nat.le_refl _) _⟩
end Go.Proofs.YtlcdpmjdnihocaaGreat
/- Mkfs by the program: a block of the bitmap; the block lies in the bitmap, and numbers are within their bounds. -/
namespace Go.Proofs.YtlcdpmjdnihocaaGreat
open Go.RowKit Go.Maps
/-- Bytes of which the first n bits are 1. -/
def btF (n : Nat) : Nat → Int := fun j => if 8 * j + 8 ≤ n then 255 else if n ≤ 8 * j then 0 else 2 ^ (n - 8 * j) - 1
theorem btF_zero : btF 0 = nought := by funext j; unfold btF nought; rw [if_neg (by omega), if_pos (by omega)]
theorem eight {P : Nat → Prop} (h : P 0 ∧ P 1 ∧ P 2 ∧ P 3 ∧ P 4 ∧ P 5 ∧ P 6 ∧ P 7) (k : Nat) (hk : k < 8) : P k := by
  rcases (show k = 0 ∨ k = 1 ∨ k = 2 ∨ k = 3 ∨ k = 4 ∨ k = 5 ∨ k = 6 ∨ k = 7 by omega) with rfl | rfl | rfl | rfl | rfl | rfl | rfl | rfl
  · exact h.1
  · exact h.2.1
  · exact h.2.2.1
  · exact h.2.2.2.1
  · exact h.2.2.2.2.1
  · exact h.2.2.2.2.2.1
  · exact h.2.2.2.2.2.2.1
  · exact h.2.2.2.2.2.2.2
theorem btF_at (t : Nat) : btF t (t / 8) = 2 ^ (t % 8) - 1 := by
  unfold btF
  rw [if_neg (by omega)]
  by_cases h : t ≤ 8 * (t / 8)
  · rw [if_pos h, show t % 8 = 0 by omega]; rfl
  · rw [if_neg h, show t - 8 * (t / 8) = t % 8 by omega]
theorem btF_step (t : Nat) : updN (btF t) (t / 8) (2 ^ (t % 8 + 1) - 1) = btF (t + 1) := by
  funext j
  unfold updN
  by_cases e : j = t / 8
  · subst e
    rw [if_pos rfl]
    unfold btF
    by_cases h : 8 * (t / 8) + 8 ≤ t + 1
    · rw [if_pos h, show t % 8 + 1 = 8 by omega]; rfl
    · rw [if_neg h, if_neg (by omega), show t + 1 - 8 * (t / 8) = t % 8 + 1 by omega]
  · rw [if_neg e]
    unfold btF
    by_cases h : 8 * j + 8 ≤ t
    · rw [if_pos h, if_pos (by omega)]
    · by_cases h2 : t ≤ 8 * j
      · rw [if_neg h, if_pos h2, if_neg (show ¬ 8 * j + 8 ≤ t + 1 by omega), if_pos (show t + 1 ≤ 8 * j by omega)]
      · exact absurd (show j = t / 8 by omega) e
theorem or_bit (r : Nat) (h : r < 8) : bits .or .u8 (2 ^ r - 1) (2 ^ r) = 2 ^ (r + 1) - 1 :=
  eight (P := fun r => bits .or .u8 (2 ^ r - 1) (2 ^ r) = 2 ^ (r + 1) - 1) ⟨by decide, by decide, by decide, by decide, by decide, by decide, by decide, by decide⟩ r h
theorem pow8 (r : Nat) (h : r < 8) : (0 : Int) < 2 ^ r ∧ (2 : Int) ^ r ≤ 128 :=
  eight (P := fun r => (0 : Int) < 2 ^ r ∧ (2 : Int) ^ r ≤ 128) ⟨by decide, by decide, by decide, by decide, by decide, by decide, by decide, by decide⟩ r h
theorem exec_shl {o : Oper} {a : Act} {W : World} {x y : Operand} {ty : TypeId} {r : Nat} (ho : o.op = .binOp .shl 5 x y ty) (hx : a.eval x = .int .u8 1) (hy : a.eval y = .int .i64 (r : Int)) (h : r < 8) : (execOp a.eval o).run Tryz.prog W = .ok (.value (.int .u8 (2 ^ r))) W := by
  have key : ∀ r : Nat, r < 8 → (binOp .shl 5 (.int .u8 1) (.int .i64 (r : Int))).run Tryz.prog W = .ok (.int .u8 (2 ^ r)) W := fun r hr =>
    eight (P := fun r => (binOp .shl 5 (.int .u8 1) (.int .i64 ((r : Nat) : Int))).run Tryz.prog W = .ok (.int .u8 (2 ^ r)) W) ⟨by rfl, by rfl, by rfl, by rfl, by rfl, by rfl, by rfl, by rfl⟩ r hr
  have e := key r h
  have eg : (eqGuard .shl 5 x y (.int .u8 1) (.int .i64 (r : Int))).run Tryz.prog W = .ok () W := rfl
  simp [execOp, ho, hx, hy, e, eg]
structure BtS (w W : World) (L : Array Value) (Y : Nat → Int) : Prop where
  lay : W.heap[w.heap.size]? = some (.cells L 52)
  res : W.heap[w.heap.size + 1]? = some (.cells (blk nought) 79)
  blk : W.heap[w.heap.size + 1 + 1]? = some (.cells (blk Y) 79)
  bel : Below w.heap.size w W
theorem BtS.later {w W W' : World} {L : Array Value} {Y : Nat → Int} (h : BtS w W L Y) (hb : Below W.heap.size W W') : BtS w W' L Y := ⟨heap_kept h.lay hb, heap_kept h.res hb, heap_kept h.blk hb, below_next h.bel hb⟩
theorem BtS.set {w W : World} {L : Array Value} {Y : Nat → Int} (h : BtS w W L Y) (j : Nat) (x : Int) : BtS w (W.setCell ⟨w.heap.size + 1 + 1, j, none⟩ (.int .u8 x)) L (updN Y j x) := by
  have hF := Fr.setCell W (w.heap.size + 1 + 1) j (.int .u8 x)
  exact ⟨(hF.block _ (Array.getElem?_eq_some_iff.1 h.lay).1 (by omega)).trans h.lay, (hF.block _ (Array.getElem?_eq_some_iff.1 h.res).1 (by omega)).trans h.res, setCell_rowN (m := 1024) h.blk j x, h.bel.trans (hF.below (fun j q => by omega) h.bel.size)⟩
set_option maxRecDepth 20000 in
set_option maxHeartbeats 4000000 in
theorem bitmap_ok (b l i a c d e f : Int) (D q : Nat) (w : World) (hq : q ≤ 128) :
    Calls Tryz.prog 99 #[.agg (YtlcdpmjdnihocaaGreatP.lay9 b l i a c d e f D), .int .i64 (e + q)] w fun e' w' => e' = .returned (.agg (blk (btF (min 8192 (D + 1 - 8192 * q))))) ∧ Below w.heap.size w w' := by
  have zb := zero77
  have l6 : (YtlcdpmjdnihocaaGreatP.lay9 b l i a c d e f D)[6]? = some (.int .i64 e) := rfl
  have l8 : (YtlcdpmjdnihocaaGreatP.lay9 b l i a c d e f D)[8]? = some (.int .i64 (D : Int)) := rfl
  have HL8 : Hid _ := l8
  clear l8
  generalize YtlcdpmjdnihocaaGreatP.lay9 b l i a c d e f D = L at *
  obtain ⟨A, hA⟩ : ∃ A, A = ((w.alloc (.cells L 52)).alloc (.cells (blk nought) 79)).alloc (.cells (blk nought) 79) := ⟨_, rfl⟩
  have hT : BtS w A L (btF 0) := by
    rw [hA, btF_zero]
    refine ⟨heap_kept (heap_kept (heap_alloc_new _ _) (below_new _ _)) (below_new _ _), heap_kept (heap_two _ _ _) (below_new _ _), ?_, below_next (below_next (below_new _ _) (below_new _ _)) (below_new _ _)⟩
    have := heap_two (w.alloc (.cells L 52)) (.cells (blk nought) 79) (.cells (blk nought) 79)
    rwa [show (w.alloc (.cells L 52)).heap.size + 1 = w.heap.size + 1 + 1 by simp] at this
  have HT : Hid _ := hT
  have c6 : A.cell? ⟨w.heap.size, 6, none⟩ = some (.int .i64 e) := (cell_of_row _ _ 6 _ _ _ hT.lay).trans l6
  have HA : Hid (A = _) := hA
  clear hA hT l6
  obtain ⟨n, hn⟩ : ∃ n, min 8192 (D + 1 - 8192 * q) = n := ⟨_, rfl⟩
  rw [hn]
  have HN : Hid (n ≤ 8192 ∧ ∀ t : Nat, t < n ↔ t < 8192 ∧ 8192 * q + t ≤ D) := ⟨by omega, fun t => by omega⟩
  clear hn
  have e0 : e + (q : Int) - e = (q : Int) := by omega
  have e1 : IntKind.i64.wrap (q : Int) = (q : Int) := by rw [IntKind.wrap_i64]; omega
  obtain ⟨fi, hfi⟩ : ∃ fi : Int, fi = 8192 * (q : Int) := ⟨_, rfl⟩
  have e2 : IntKind.i64.wrap ((q : Int) * 8192) = fi := by rw [IntKind.wrap_i64]; omega
  obtain ⟨fj, hfj⟩ : ∃ fj : Int, fj = fi + 8192 := ⟨_, rfl⟩
  have e4 : IntKind.i64.wrap (fi + 8192) = fj := by rw [IntKind.wrap_i64]; omega
  have HFi : Hid (fi = 8192 * (q : Int) ∧ 0 ≤ fi ∧ fi ≤ 1048576 ∧ fj = fi + 8192) := ⟨hfi, by omega, by omega, hfj⟩
  clear hfi hfj
  go_enter Tryz.func99, Tryz.ntmps99
  go_upto_region 2 with fail
  rw [← HA.out]
  clear HA
  go_wp2_with fail
  clear e0 e1 e2 c6
  go_loopw [7] (fun s7 wx => ∃ t : Nat, t ≤ n ∧ s7 = .int .i64 (fi + t) ∧ Hid (BtS w wx L (btF t))) (fun s7 _ => (fi + n - (intOf s7)).toNat)
  case atStart => exact ⟨0, by omega, by simp, HT.out⟩
  case round =>
    obtain ⟨t, ht, rfl, HM⟩ := hrel
    clear HT
    have c8 : wr.cell? ⟨w.heap.size, 8, none⟩ = some (.int .i64 (D : Int)) := (cell_of_row _ _ 8 _ _ _ HM.out.lay).trans HL8.out
    by_cases h1 : t < n
    · obtain ⟨h2, h3⟩ := (HN.out.2 t).1 h1
      have k1 : decide (fi + (t : Int) ≤ (D : Int)) = true := decide_eq_true (by have := HFi.out; omega)
      have k2 : decide (fi + (t : Int) < fj) = true := decide_eq_true (by have := HFi.out; omega)
      have HT2 : Hid (t < n ∧ t < 8192 ∧ n ≤ 8192) := ⟨h1, h2, HN.out.1⟩
      clear h1 h2 h3 ht
      go_wp2_with fail
      have hB : BtS w wr.drew L (btF t) := HM.out.later (Below.refl _ _).drew
      clear HM c8 k1 k2
      have cb := cell_rowN (i := t / 8) (m := 1024) hB.blk (by have := HT2.out; omega)
      have fb := frozen_row hB.blk (t / 8)
      rw [btF_at] at cb
      have HG : Hid (BtS w (wr.drew.setCell ⟨w.heap.size + 1 + 1, t / 8, none⟩ (.int .u8 (2 ^ (t % 8 + 1) - 1))) L (btF (t + 1))) := by
        have := hB.set (t / 8) (2 ^ (t % 8 + 1) - 1)
        rwa [btF_step] at this
      have ho := or_bit (t % 8) (by omega)
      have W2 : IntKind.i64.wrap (t : Int) = (t : Int) := by have := HT2.out; rw [IntKind.wrap_i64]; omega
      have W3 : (t : Int).tdiv 8 = ((t / 8 : Nat) : Int) := by rw [Int.tdiv_eq_ediv_of_nonneg (by omega)]; omega
      have W4 : IntKind.i64.wrap ((t / 8 : Nat) : Int) = ((t / 8 : Nat) : Int) := by have := HT2.out; rw [IntKind.wrap_i64]; omega
      have W5 : (fi + (t : Int)).tmod 8 = ((t % 8 : Nat) : Int) := by have := HFi.out; rw [Int.tmod_eq_emod_of_nonneg (by omega)]; omega
      have W6 : IntKind.i64.wrap ((t % 8 : Nat) : Int) = ((t % 8 : Nat) : Int) := by rw [IntKind.wrap_i64]; omega
      have W7 : fi + (t : Int) - fi = (t : Int) := by omega
      have W8 : IntKind.i64.wrap (fi + (t : Int) + 1) = fi + ((t + 1 : Nat) : Int) := by have := HFi.out; have := HT2.out; rw [IntKind.wrap_i64]; omega
      have HR : Hid (t % 8 < 8) := Nat.mod_lt _ (by omega)
      have hq8 : t / 8 < 1024 := by have := HT2.out; omega
      clear hB
      refine wp_region_ord (S := fun _ => True) [(0, true), (1, true), (2, true), (3, true), (4, true), (6, true), (7, true), (8, true), (5, false), (9, true), (10, true), (11, false)] (by kernel_rfl) rfl (by kernel_rfl) (fun d _ _ _ _ h => by cases d <;> exact h) trivial ?_
      simp only [inOrd, List.getElem?_cons_zero, List.getElem?_cons_succ]
      generalize wr.drew = U at *
      generalize t / 8 = Q at *
      generalize t % 8 = r at *
      have hq9 : ¬ (1024 : Int) ≤ (Q : Int) := by omega
      have hq7 : (Q : Int) < 1024 := by omega
      refine wpOrd_yield (v := .int .i64 (fi + (t : Int))) rfl (fun u _ => by go_simp) ?_
      simp only [Act.put, List.setIfInBounds_toArray, List.set_cons_succ, List.set_cons_zero]
      refine wpOrd_yield (v := .int .i64 fi) rfl (fun u _ => by go_simp) ?_
      simp only [Act.put, List.setIfInBounds_toArray, List.set_cons_succ, List.set_cons_zero]
      refine wpOrd_yield (v := .int .i64 (t : Int)) rfl (fun u _ => by go_simp) ?_
      simp only [Act.put, List.setIfInBounds_toArray, List.set_cons_succ, List.set_cons_zero]
      refine wpOrd_yield (v := .int .i64 (Q : Int)) rfl (fun u _ => by go_simp) ?_
      simp only [Act.put, List.setIfInBounds_toArray, List.set_cons_succ, List.set_cons_zero]
      refine wpOrd_yield (v := .pointer (some ⟨w.heap.size + 1 + 1, Q, none⟩)) rfl (fun u _ => by go_simp) ?_
      simp only [Act.put, List.setIfInBounds_toArray, List.set_cons_succ, List.set_cons_zero]
      refine wpOrd_yield (v := .int .i64 (fi + (t : Int))) rfl (fun u _ => by go_simp) ?_
      simp only [Act.put, List.setIfInBounds_toArray, List.set_cons_succ, List.set_cons_zero]
      refine wpOrd_yield (v := .int .i64 (r : Int)) rfl (fun u _ => by go_simp) ?_
      simp only [Act.put, List.setIfInBounds_toArray, List.set_cons_succ, List.set_cons_zero]
      refine wpOrd_yield (v := .int .u8 (2 ^ r)) rfl (fun u _ => exec_shl rfl rfl rfl HR.out) ?_
      simp only [Act.put, List.setIfInBounds_toArray, List.set_cons_succ, List.set_cons_zero]
      refine wpOrd_actM (W' := U) (v := .int .u8 (2 ^ r - 1)) rfl (by have := cb; go_simp) trivial ?_
      simp only [Act.put, List.setIfInBounds_toArray, List.set_cons_succ, List.set_cons_zero]
      refine wpOrd_yield (v := .int .u8 (2 ^ (r + 1) - 1)) rfl (fun u _ => by generalize (2 : Int) ^ (r + 1) - 1 = p2 at *; generalize (2 : Int) ^ r = p at *; go_simp) ?_
      simp only [Act.put, List.setIfInBounds_toArray, List.set_cons_succ, List.set_cons_zero]
      refine wpOrd_yield (v := .pointer (some ⟨w.heap.size + 1 + 1, Q, none⟩)) rfl (fun u _ => by go_simp) ?_
      simp only [Act.put, List.setIfInBounds_toArray, List.set_cons_succ, List.set_cons_zero]
      generalize (2 : Int) ^ (r + 1) - 1 = p2 at *
      generalize (2 : Int) ^ r = p at *
      refine wpOrd_doM (W' := U.setCell ⟨w.heap.size + 1 + 1, Q, none⟩ (.int .u8 p2)) rfl (by have := cb; go_simp) trivial ?_
      simp only [Act.put]
      refine wpOrd_nil ?_
      generalize U.setCell ⟨w.heap.size + 1 + 1, Q, none⟩ (.int .u8 p2) = U2 at *
      clear cb fb ho
      go_wp2_with fail
      exact ⟨⟨t + 1, by have := HT2.out; omega, by rw [Int.natCast_add] at *; go_num, HG.out⟩, by have := HT2.out; simp [intOf]; omega⟩
    · obtain rfl : t = n := by omega
      have hr := HM.out.res
      have hb := HM.out.blk
      have HBe : Hid _ := HM.out.bel
      have hN := (HN.out.2 t)
      clear HM
      by_cases h2 : fi + (t : Int) ≤ (D : Int)
      · have k1 : decide (fi + (t : Int) ≤ (D : Int)) = true := decide_eq_true h2
        have k2 : decide (fi + (t : Int) < fj) = false := decide_eq_false (by have := HFi.out; omega)
        clear h2 hN
        go_wp2_with (first | (with_reducible refine isLoadR 79 ?_; refine wpList_ldB rfl _ rfl (w.heap.size + 1 + 1) 0 (btF t) rfl (blk_at hb) ?_) | (with_reducible refine isStoreR 79 ?_; refine wpList_stB rfl _ _ rfl (w.heap.size + 1) (btF t) nought 79 rfl rfl hr ?_))
        exact retB rfl (w.heap.size + 1) (btF t) 79 rfl (setRow_heap _ _ _ _ _ _ hr) rfl ⟨rfl, below_setRow HBe.out (by omega) _⟩
      · have k1 : decide (fi + (t : Int) ≤ (D : Int)) = false := decide_eq_false h2
        clear h2 hN
        go_wp2_with (first | (with_reducible refine isLoadR 79 ?_; refine wpList_ldB rfl _ rfl (w.heap.size + 1 + 1) 0 (btF t) rfl (blk_at hb) ?_) | (with_reducible refine isStoreR 79 ?_; refine wpList_stB rfl _ _ rfl (w.heap.size + 1) (btF t) nought 79 rfl rfl hr ?_))
        exact retB rfl (w.heap.size + 1) (btF t) 79 rfl (setRow_heap _ _ _ _ _ _ hr) rfl ⟨rfl, below_setRow HBe.out (by omega) _⟩
end Go.Proofs.YtlcdpmjdnihocaaGreat
/- Mkfs by the program: what a block from the inodes' region to the first data block holds; for every layout that may be. -/
namespace Go.Proofs.YtlcdpmjdnihocaaGreat
open Go.RowKit Go.Maps
/-- What the second part writes to a block from the inodes' region on. -/
def coF (b l i k : Int) : Nat → Int :=
  if k < YtlcdpmjdnihocaaGreatP.bitsAt l i then ndF (YtlcdpmjdnihocaaGreatP.dataAt b l i) (k == 1 + l)
  else if k < YtlcdpmjdnihocaaGreatP.dataAt b l i then btF (min 8192 ((YtlcdpmjdnihocaaGreatP.dataAt b l i).toNat + 1 - 8192 * (k - YtlcdpmjdnihocaaGreatP.bitsAt l i).toNat))
  else slF
theorem stands_lay {b l i : Int} (hf : YtlcdpmjdnihocaaGreatP.Fine b l i) : YtlcdpmjdnihocaaGreatP.standsB b l i 1 (1 + l) (YtlcdpmjdnihocaaGreatP.nodeB i) (YtlcdpmjdnihocaaGreatP.bitsAt l i) (YtlcdpmjdnihocaaGreatP.bitsB b) (YtlcdpmjdnihocaaGreatP.dataAt b l i) = true := decide_eq_true ⟨hf, rfl, rfl, rfl, rfl, rfl, rfl⟩
theorem fine_bd {b l i : Int} (hf : YtlcdpmjdnihocaaGreatP.Fine b l i) : 35 ≤ b ∧ b ≤ 1048576 ∧ 32 ≤ l ∧ l ≤ 256 ∧ 1 + l < YtlcdpmjdnihocaaGreatP.bitsAt l i ∧ YtlcdpmjdnihocaaGreatP.bitsAt l i < YtlcdpmjdnihocaaGreatP.dataAt b l i ∧ YtlcdpmjdnihocaaGreatP.dataAt b l i < b ∧ YtlcdpmjdnihocaaGreatP.dataAt b l i - YtlcdpmjdnihocaaGreatP.bitsAt l i ≤ 128 := by
  have hp := hf.pos
  obtain ⟨h1, h2, h3, h4, h5, h6⟩ := hf
  unfold YtlcdpmjdnihocaaGreatP.dataAt YtlcdpmjdnihocaaGreatP.bitsAt YtlcdpmjdnihocaaGreatP.nodeB YtlcdpmjdnihocaaGreatP.bitsB at *
  omega
set_option maxRecDepth 20000 in
set_option maxHeartbeats 4000000 in
theorem content_ok (b l i k : Int) (hf : YtlcdpmjdnihocaaGreatP.Fine b l i) (hk : 1 + l ≤ k ∧ k ≤ YtlcdpmjdnihocaaGreatP.dataAt b l i) (w : World) :
    Calls Tryz.prog 61 #[YtlcdpmjdnihocaaGreatP.layV b l i, .int .i64 k] w fun e w' => e = .returned (.agg (blk (coF b l i k))) ∧ Below w.heap.size w w' := by
  have zb := zero77
  obtain ⟨b1, b2, b3, b4, b5, b6, b7, b8⟩ := fine_bd hf
  have hI : YtlcdpmjdnihocaaGreatP.I64 b := by unfold YtlcdpmjdnihocaaGreatP.I64; omega
  have hw := fun u => YtlcdpmjdnihocaaGreatP.where_any b l i 1 (1 + l) (YtlcdpmjdnihocaaGreatP.nodeB i) (YtlcdpmjdnihocaaGreatP.bitsAt l i) (YtlcdpmjdnihocaaGreatP.bitsB b) (YtlcdpmjdnihocaaGreatP.dataAt b l i) k u hI
  have hN := YtlcdpmjdnihocaaGreatP.wN (k := k) (b := b) (by omega) (by omega) (stands_lay hf)
  rw [if_neg (by omega), if_neg (by omega)] at hN
  rw [hN] at hw
  have hnd := fun u => nodes_ok b l i 1 (1 + l) (YtlcdpmjdnihocaaGreatP.nodeB i) (YtlcdpmjdnihocaaGreatP.bitsAt l i) (YtlcdpmjdnihocaaGreatP.bitsB b) (YtlcdpmjdnihocaaGreatP.dataAt b l i) k u ⟨by omega, by omega⟩ ⟨by omega, by omega⟩
  have hsl := slots_ok
  have hbt : ∀ u, YtlcdpmjdnihocaaGreatP.bitsAt l i ≤ k → k < YtlcdpmjdnihocaaGreatP.dataAt b l i → Calls Tryz.prog 99 #[.agg (YtlcdpmjdnihocaaGreatP.lay9 b l i 1 (1 + l) (YtlcdpmjdnihocaaGreatP.nodeB i) (YtlcdpmjdnihocaaGreatP.bitsAt l i) (YtlcdpmjdnihocaaGreatP.bitsB b) (YtlcdpmjdnihocaaGreatP.dataAt b l i)), .int .i64 k] u fun e' w' => e' = .returned (.agg (blk (btF (min 8192 ((YtlcdpmjdnihocaaGreatP.dataAt b l i).toNat + 1 - 8192 * (k - YtlcdpmjdnihocaaGreatP.bitsAt l i).toNat))))) ∧ Below u.heap.size u w' := fun u h1 h2 => by
    have := bitmap_ok b l i 1 (1 + l) (YtlcdpmjdnihocaaGreatP.nodeB i) (YtlcdpmjdnihocaaGreatP.bitsAt l i) (YtlcdpmjdnihocaaGreatP.bitsB b) (YtlcdpmjdnihocaaGreatP.dataAt b l i).toNat (k - YtlcdpmjdnihocaaGreatP.bitsAt l i).toNat u (by omega)
    rwa [show (((YtlcdpmjdnihocaaGreatP.dataAt b l i).toNat : Nat) : Int) = YtlcdpmjdnihocaaGreatP.dataAt b l i by omega, show YtlcdpmjdnihocaaGreatP.bitsAt l i + (((k - YtlcdpmjdnihocaaGreatP.bitsAt l i).toNat : Nat) : Int) = k by omega] at this
  have HBt : Hid _ := hbt
  have HNd : Hid _ := hnd
  have HSl : Hid _ := hsl
  clear hbt hnd hsl hN
  have hlL : (Tryz.prog.info? 52).map (·.size) = some (YtlcdpmjdnihocaaGreatP.lay9 b l i 1 (1 + l) (YtlcdpmjdnihocaaGreatP.nodeB i) (YtlcdpmjdnihocaaGreatP.bitsAt l i) (YtlcdpmjdnihocaaGreatP.bitsB b) (YtlcdpmjdnihocaaGreatP.dataAt b l i)).size := by kernel_rfl
  have HSz : Hid _ := hlL
  clear hlL
  unfold YtlcdpmjdnihocaaGreatP.layV
  obtain ⟨F, hF⟩ : ∃ F, coF b l i k = F := ⟨_, rfl⟩
  have HF : Hid (F = if k < YtlcdpmjdnihocaaGreatP.bitsAt l i then ndF (YtlcdpmjdnihocaaGreatP.dataAt b l i) (k == 1 + l) else if k < YtlcdpmjdnihocaaGreatP.dataAt b l i then btF (min 8192 ((YtlcdpmjdnihocaaGreatP.dataAt b l i).toNat + 1 - 8192 * (k - YtlcdpmjdnihocaaGreatP.bitsAt l i).toNat)) else slF) := hF ▸ rfl
  rw [hF]
  clear hF
  generalize YtlcdpmjdnihocaaGreatP.lay9 b l i 1 (1 + l) (YtlcdpmjdnihocaaGreatP.nodeB i) (YtlcdpmjdnihocaaGreatP.bitsAt l i) (YtlcdpmjdnihocaaGreatP.bitsB b) (YtlcdpmjdnihocaaGreatP.dataAt b l i) = L at *
  generalize ndF (YtlcdpmjdnihocaaGreatP.dataAt b l i) (k == 1 + l) = X1 at *
  generalize btF (min 8192 ((YtlcdpmjdnihocaaGreatP.dataAt b l i).toNat + 1 - 8192 * (k - YtlcdpmjdnihocaaGreatP.bitsAt l i).toNat)) = X2 at *
  generalize slF = X3 at *
  obtain ⟨A, hA⟩ : ∃ A, A = (w.alloc (.cells L 52)).alloc (.cells (blk nought) 79) := ⟨_, rfl⟩
  have HL : Hid (A.heap[w.heap.size]? = some (.cells L 52)) := by rw [hA]; exact heap_kept (heap_alloc_new _ _) (below_new _ _)
  have HR : Hid (A.heap[w.heap.size + 1]? = some (.cells (blk nought) 79)) := by rw [hA]; exact heap_two _ _ _
  have HB : Hid (Below w.heap.size w A) := by rw [hA]; exact below_next (below_new _ _) (below_new _ _)
  have HA : Hid (A = _) := hA
  clear hA
  by_cases h1 : k < YtlcdpmjdnihocaaGreatP.bitsAt l i
  · rw [if_pos h1] at hw
    have HE : Hid (F = X1) := by show _ = _; rw [HF.out, if_pos h1]
    clear HF HBt HSl
    go_enter Tryz.func61, Tryz.ntmps61
    go_upto_region 1 with fail
    rw [← HA.out]
    clear HA
    go_wp2_with (first | (with_reducible refine isLoadR 52 ?_; refine wpList_ldR 52 Tryz.underlying52 rfl rfl _ rfl w.heap.size rfl L 52 (0, 0) HSz.out HL.out ?_) | (go_at_call 97; fail))
    refine (hw _).mono ?_
    rintro e W1 ⟨rfl, hb⟩
    have HL1 : Hid _ := heap_kept HL.out hb
    have HR1 : Hid _ := heap_kept HR.out hb
    have HB1 : Hid _ := below_next HB.out hb
    clear HL HR HB hb hw
    go_wp2_with (first | (with_reducible refine isLoadR 52 ?_; refine wpList_ldR 52 Tryz.underlying52 rfl rfl _ rfl w.heap.size rfl L 52 (0, 0) HSz.out HL1.out ?_) | (go_at_call 98; fail))
    refine (HNd.out _).mono ?_
    rintro e W2 ⟨rfl, hb⟩
    have hr := heap_kept HR1.out hb
    have HB2 : Hid _ := below_next HB1.out hb
    clear HL1 HR1 HB1 hb HNd
    go_wp2_with (first | (with_reducible refine isStoreR 79 ?_; refine wpList_stB rfl _ _ rfl (w.heap.size + 1) X1 nought 79 rfl rfl hr ?_))
    exact retB rfl (w.heap.size + 1) X1 79 rfl (setRow_heap _ _ _ _ _ _ hr) rfl ⟨by rw [HE.out], below_setRow HB2.out (by omega) _⟩
  · rw [if_neg h1] at hw
    by_cases h2 : k < YtlcdpmjdnihocaaGreatP.dataAt b l i
    · rw [if_pos h2] at hw
      have HE : Hid (F = X2) := by show _ = _; rw [HF.out, if_neg h1, if_pos h2]
      have HB3 : Hid _ := fun u => HBt.out u (by omega) h2
      clear HF HBt HSl HNd
      go_enter Tryz.func61, Tryz.ntmps61
      go_upto_region 1 with fail
      rw [← HA.out]
      clear HA
      go_wp2_with (first | (with_reducible refine isLoadR 52 ?_; refine wpList_ldR 52 Tryz.underlying52 rfl rfl _ rfl w.heap.size rfl L 52 (0, 0) HSz.out HL.out ?_) | (go_at_call 97; fail))
      refine (hw _).mono ?_
      rintro e W1 ⟨rfl, hb⟩
      have HL1 : Hid _ := heap_kept HL.out hb
      have HR1 : Hid _ := heap_kept HR.out hb
      have HB1 : Hid _ := below_next HB.out hb
      clear HL HR HB hb hw
      go_wp2_with (first | (with_reducible refine isLoadR 52 ?_; refine wpList_ldR 52 Tryz.underlying52 rfl rfl _ rfl w.heap.size rfl L 52 (0, 0) HSz.out HL1.out ?_) | (go_at_call 99; fail))
      refine (HB3.out _).mono ?_
      rintro e W2 ⟨rfl, hb⟩
      have hr := heap_kept HR1.out hb
      have HB2 : Hid _ := below_next HB1.out hb
      clear HL1 HR1 HB1 hb HB3
      go_wp2_with (first | (with_reducible refine isStoreR 79 ?_; refine wpList_stB rfl _ _ rfl (w.heap.size + 1) X2 nought 79 rfl rfl hr ?_))
      exact retB rfl (w.heap.size + 1) X2 79 rfl (setRow_heap _ _ _ _ _ _ hr) rfl ⟨by rw [HE.out], below_setRow HB2.out (by omega) _⟩
    · rw [if_neg h2] at hw
      have HE : Hid (F = X3) := by show _ = _; rw [HF.out, if_neg h1, if_neg h2]
      clear HF HBt HNd
      go_enter Tryz.func61, Tryz.ntmps61
      go_upto_region 1 with fail
      rw [← HA.out]
      clear HA
      go_wp2_with (first | (with_reducible refine isLoadR 52 ?_; refine wpList_ldR 52 Tryz.underlying52 rfl rfl _ rfl w.heap.size rfl L 52 (0, 0) HSz.out HL.out ?_) | (go_at_call 97; fail))
      refine (hw _).mono ?_
      rintro e W1 ⟨rfl, hb⟩
      have HR1 : Hid _ := heap_kept HR.out hb
      have HB1 : Hid _ := below_next HB.out hb
      clear HL HR HB hb hw
      go_wp2_with (go_at_call 100; fail)
      refine (HSl.out _).mono ?_
      rintro e W2 ⟨rfl, hb⟩
      have hr := heap_kept HR1.out hb
      have HB2 : Hid _ := below_next HB1.out hb
      clear HR1 HB1 hb HSl
      go_wp2_with (first | (with_reducible refine isStoreR 79 ?_; refine wpList_stB rfl _ _ rfl (w.heap.size + 1) X3 nought 79 rfl rfl hr ?_))
      exact retB rfl (w.heap.size + 1) X3 79 rfl (setRow_heap _ _ _ _ _ _ hr) rfl ⟨by rw [HE.out], below_setRow HB2.out (by omega) _⟩
end Go.Proofs.YtlcdpmjdnihocaaGreat

/- What a block of 1024 bytes is as cells: a plain function from places to numbers, laid as cells; no condition. -/
namespace Go.Proofs.YtlcdpmjdnihocaaGreatH
open Go.RowKit

/-- The cells of a block whose byte at place i is f i. -/
def blk (f : Nat → Int) : Array Value := ((List.range 1024).map fun i => Value.int .u8 (f i)).toArray
/-- f, but for x at place i. -/
def upd (f : Nat → Int) (i : Nat) (x : Int) : Nat → Int := fun j => if j = i then x else f j
def nought : Nat → Int := fun _ => 0

theorem blk_size (f : Nat → Int) : (blk f).size = 1024 := by simp [blk]
theorem blk_get (f : Nat → Int) (i : Nat) (h : i < 1024) : (blk f)[i]? = some (.int .u8 (f i)) := by
  simp [blk, h]
theorem blk_set (f : Nat → Int) (i : Nat) (x : Int) : (blk f).setIfInBounds i (.int .u8 x) = blk (upd f i x) := by
  apply Array.ext_getElem?
  intro j
  by_cases hj : j < 1024
  · rw [blk_get _ _ hj, Array.getElem?_setIfInBounds]
    by_cases e : i = j
    · subst e; simp [blk_size, hj, upd]
    · have e' : ¬ j = i := fun q => e q.symm
      simp [e, e', blk_get _ _ hj, upd]
  · rw [Array.getElem?_eq_none (by rw [Array.size_setIfInBounds, blk_size]; omega), Array.getElem?_eq_none (by rw [blk_size]; omega)]
theorem blk_one (f : Nat → Int) : (blk f).all (·.oneCell') = true := by
  rw [Array.all_eq_true_iff_forall_mem]
  intro v hv
  simp [blk] at hv
  obtain ⟨i, _, rfl⟩ := hv
  rfl
end Go.Proofs.YtlcdpmjdnihocaaGreatH
/- The block type of this program over its translation: loads, stores and results of whole blocks; fits; no condition. -/
namespace Go.Proofs.YtlcdpmjdnihocaaGreatH
open Go.RowKit

theorem info25 : (Tryz.prog.info? 79).map (fun i => (i.zero, i.size)) = some (some (.agg (blk nought)), 1024) := by kernel_rfl
theorem zero25 : ∀ w, (zeroValue 79).run Tryz.prog w = .ok (.agg (blk nought)) w := (zero_of_info info25).1
theorem size25 : (Tryz.prog.info? 79).map (·.size) = some 1024 := (zero_of_info info25).2

theorem wpList_load25 {ops : Array Oper} {rest : List Oper} {o : Oper} {a : Act} {w : World} {Q : Exit → Act → World → Prop} (hgd : o.guard = none) (x : Operand) (ho : o.op = .load 79 x)
    (g : Nat) (hx : a.eval x = .pointer (some ⟨g, 0, none⟩)) (f : Nat → Int) (hg : w.heap[g]? = some (.cells (blk f) 79))
    (h : wpList Tryz.prog ops Q rest (a.put o.dst (.agg (blk f))) w) : wpList Tryz.prog ops Q (o :: rest) a w :=
  wpList_load_row hgd 79 x ho g hx 79 (blk f) (0, 0) _ hg Tryz.underlying79 rfl (by rw [blk_size]; exact size25) h
theorem wpList_store25 {ops : Array Oper} {rest : List Oper} {o : Oper} {a : Act} {w : World} {Q : Exit → Act → World → Prop} (hgd : o.guard = none) (x y : Operand) (ho : o.op = .store 79 x y)
    (g : Nat) (f : Nat → Int) (hx : a.eval x = .pointer (some ⟨g, 0, none⟩)) (hy : a.eval y = .agg (blk f)) (f0 : Nat → Int) (hg : w.heap[g]? = some (.cells (blk f0) 79))
    (h : wpList Tryz.prog ops Q rest (a.put o.dst undef) (w.setRow g (blk f))) : wpList Tryz.prog ops Q (o :: rest) a w :=
  wpList_plain hgd fun _ hK => by
    unfold Oper.wp execOp
    simp only [ho, hx, hy, Instr.storeAt, Instr.sureAddr, Sem.run_bind, Sem.run_pure, Result.andThen_ok, run_storeVar_row w g 79 79 (blk f0) (blk f) hg (by rw [blk_size]; exact size25) (by rw [blk_size, blk_size]) (blk_one f)]
    exact hK _ _ h

/-- A result that is a whole block in a cell. -/
theorem ret25 {fn : Func} {p : Tmp} {R : Ending → World → Prop} {a : Act} {w : World} (h : fn.results = #[.cell p 79]) (g : Nat) (f : Nat → Int)
    (hp : a.tmps.getD p undef = .pointer (some ⟨g, 0, none⟩)) (hg : w.heap[g]? = some (.cells (blk f) 79)) (hd : a.defers = []) (hR : R (.returned (.agg (blk f))) w) : bodyPost Tryz.prog fn R .ret a w :=
  bodyPost_ret (results_cell_row h a.tmps w g 79 (blk f) (0, 0) _ hp hg Tryz.underlying79 rfl (by rw [blk_size]; exact size25)) hd hR
theorem below_setRow {B : Nat} {a w : World} (h : Below B a w) {g : Nat} (hg : B ≤ g) (cs : Array Value) : Below B a (w.setRow g cs) :=
  h.trans ⟨rfl, rfl, rfl, by simp, fun k hk => setRow_other w g k cs (by omega)⟩
theorem below2 (w : World) (a b : Obj) (g : Nat) (hg : w.heap.size ≤ g) (cs : Array Value) : Below w.heap.size w (((w.alloc a).alloc b).setRow g cs) :=
  below_setRow (((Below.refl _ _).alloc (Nat.le_refl _) _).alloc (by simp) _) hg _
end Go.Proofs.YtlcdpmjdnihocaaGreatH
/- Two blocks held against each other: equal just where every byte is; for every two blocks. -/
namespace Go.Proofs.YtlcdpmjdnihocaaGreatH
open Go.RowKit

end Go.Proofs.YtlcdpmjdnihocaaGreatH
/- Regions whose order is drawn and whose calls make memory but turn none that was there: one walk in the text's order serves every order. -/
namespace Go.Proofs.YtlcdpmjdnihocaaGreatH
open Go.RowKit

theorem wpList_store25_new {ops : Array Oper} {rest : List Oper} {o : Oper} {a : Act} {w : World} {Q : Exit → Act → World → Prop} (hgd : o.guard = none) (x y : Operand) (ho : o.op = .store 79 x y)
    (f f0 : Nat → Int) (hx : a.eval x = .pointer (some ⟨w.heap.size, 0, none⟩)) (hy : a.eval y = .agg (blk f))
    (h : wpList Tryz.prog ops Q rest (a.put o.dst undef) (w.alloc (.cells (blk f) 79))) : wpList Tryz.prog ops Q (o :: rest) a (w.alloc (.cells (blk f0) 79)) :=
  wpList_store25 hgd x y ho w.heap.size f hx hy f0 (heap_alloc_new _ _) (by rw [World.setRow_alloc_new]; exact h)
end Go.Proofs.YtlcdpmjdnihocaaGreatH
/- Regions whose order is drawn, walked in one order that is told: what only reads may come at any time, what acts comes where nothing else may; S holds all along. -/
namespace Go.Proofs.YtlcdpmjdnihocaaGreatH
open Go.RowKit

section
variable {P : Program} {ops : Array Oper} {Q : Exit → Act → World → Prop} {S : World → Prop}

/-- May the operations be taken in this order? true: it is taken first; false: nothing else may come up. -/
def ordB (ops : Array Oper) : List (Nat × Bool) → Array Bool → Bool
  | [], listed => (Region.ready .any ops listed).isEmpty
  | (i, true) :: r, listed => (Region.ready .any ops listed).contains i && Region.free .any ops listed i && (ops[i]?).isSome && ordB ops r (listed.setIfInBounds i true)
  | (i, false) :: r, listed => (Region.ready .any ops listed == [i]) && (ops[i]?).isSome && ordB ops r (listed.setIfInBounds i true)

/-- The operations themselves, in that order. -/
def inOrd (ol : List Oper) : List (Nat × Bool) → List (Bool × Oper)
  | [] => []
  | (i, b) :: r => match ol[i]? with
    | some o => (b, o) :: inOrd ol r
    | none => inOrd ol r

def wpOrd (P : Program) (ops : Array Oper) (Q : Exit → Act → World → Prop) (S : World → Prop) : List (Bool × Oper) → Act → World → Prop
  | [], a, w => Q .normal a w
  | (true, o) :: r, a, w => ∃ v, YieldsIf P ops S o v a ∧ wpOrd P ops Q S r (a.put o.dst v) w
  | (false, o) :: r, a, w => if Region.wanted o (yielded ops a.tmps) then o.wp P a w (fun a' w' => S w' ∧ wpOrd P ops Q S r a' w') Q else S w ∧ wpOrd P ops Q S r (a.put o.dst undef) w

theorem wpOrd_any {ol : List Oper} (hs : Region.noSelect ol.toArray = true) (hQ : ∀ d v c a w, Q (.panic c) (a.put d v) w → Q (.panic c) a w) : ∀ (l : List (Nat × Bool)) (listed : Array Bool) (a : Act) (w : World), S w →
    ordB ol.toArray l listed = true → wpOrd P ol.toArray Q S (inOrd ol l) a w → wpAnyH P .any ol.toArray Q S l.length listed a w
  | [], listed, a, w, _, hB, h => wpAnyH_done (by simpa [ordB] using hB) h _
  | (i, true) :: r, listed, a, w, hS, hB, h => by
    simp only [ordB, Bool.and_eq_true] at hB
    obtain ⟨⟨⟨h1, h2⟩, h3⟩, h4⟩ := hB
    obtain ⟨o, hi⟩ := Option.isSome_iff_exists.1 h3
    have hi' : ol[i]? = some o := by simpa using hi
    simp only [inOrd, hi', wpOrd] at h
    obtain ⟨v, hy, hr⟩ := h
    exact wpAnyH_take hi hs h2 h1 (fun c a w => hQ _ _ c a w) hy hS (wpOrd_any hs hQ r _ _ w hS h4 hr)
  | (i, false) :: r, listed, a, w, hS, hB, h => by
    simp only [ordB, Bool.and_eq_true, beq_iff_eq] at hB
    obtain ⟨⟨h1, h3⟩, h2⟩ := hB
    obtain ⟨o, hi⟩ := Option.isSome_iff_exists.1 h3
    have hi' : ol[i]? = some o := by simpa using hi
    simp only [inOrd, hi', wpOrd] at h
    refine wpAnyH_all h1 (by simp) fun j hj => ?_
    obtain rfl : j = i := by simpa using hj
    unfold wpOp
    rw [hi]
    simp only
    split
    · rename_i hw
      rw [if_pos hw] at h
      exact .inl (Oper.wp_mono (fun a' w' h' => ⟨h'.1, wpOrd_any hs hQ r _ a' w' h'.1 h2 h'.2⟩) h)
    · rename_i hw
      rw [if_neg hw] at h
      exact ⟨h.1, wpOrd_any hs hQ r _ _ w h.1 h2 h.2⟩

theorem wpOrd_nil {a : Act} {w : World} (h : Q .normal a w) : wpOrd P ops Q S [] a w := h
theorem wpOrd_call {r : List (Bool × Oper)} {a : Act} {w : World} {o : Oper} (hw : Region.wanted o (yielded ops a.tmps) = true) (f : FuncId) (xs : List Operand) (ts : Array TypeId)
    (ho : o.op = .call { callee := .value (.func f), args := xs.toArray, argTypes := ts }) (hc : ∀ args u, (callFunc f args).run P u = .ok (.enter f args) u) (args : List Value) (hx : xs.map a.eval = args)
    (h : Calls P f args.toArray w fun e w' => ∃ v, e = .returned v ∧ S w' ∧ wpOrd P ops Q S r (a.put o.dst v) w') : wpOrd P ops Q S ((false, o) :: r) a w := by
  simp only [wpOrd, hw, if_true]
  unfold Oper.wp execOp
  have e : (do let d ← resolve a.eval { callee := .value (.func f), args := xs.toArray, argTypes := ts } o.type; invoke d.target d.args : Sem Next).run P w = .ok (.enter f args.toArray) w := by
    have hx' : xs.toArray.map a.eval = args.toArray := by rw [← hx]; simp
    simp only [resolve, hx']
    simp [Act.eval, Deferred.ofValue, invoke, hc]
  simp only [ho]
  rw [e]
  unfold Oper.upon
  exact h.mono fun e w' ⟨v, he, h1, h2⟩ => by subst he; exact ⟨h1, h2⟩
end
end Go.Proofs.YtlcdpmjdnihocaaGreatH
/- Regions whose order is drawn, where two operations may come up in either order: both orders are walked. -/
namespace Go.Proofs.YtlcdpmjdnihocaaGreatH
open Go.RowKit

section
variable {P : Program} {ops : Array Oper} {Q : Exit → Act → World → Prop} {S : World → Prop}

/-- First the operations of a list that only read, then i and j in either order, then l. -/
def forkB (ops : Array Oper) (i j : Nat) (l : List (Nat × Bool)) : List Nat → Array Bool → Bool
  | [], listed => (Region.ready .any ops listed == [i, j]) && (ops[i]?).isSome && (ops[j]?).isSome && ordB ops ((j, false) :: l) (listed.setIfInBounds i true) && ordB ops ((i, false) :: l) (listed.setIfInBounds j true)
  | k :: r, listed => (Region.ready .any ops listed).contains k && Region.free .any ops listed k && (ops[k]?).isSome && forkB ops i j l r (listed.setIfInBounds k true)

/-- One operation that acts, and what follows. -/
def wpAct (P : Program) (ops : Array Oper) (Q : Exit → Act → World → Prop) (S : World → Prop) (o : Oper) (K : Act → World → Prop) (a : Act) (w : World) : Prop :=
  if Region.wanted o (yielded ops a.tmps) then o.wp P a w (fun a' w' => S w' ∧ K a' w') Q else S w ∧ K (a.put o.dst undef) w

theorem wpOp_act {i : Nat} {o : Oper} (hi : ops[i]? = some o) {K K' : Act → World → Prop} (hK : ∀ a w, S w → K a w → K' a w) {a : Act} {w : World} (h : wpAct P ops Q S o K a w) : wpOp P ops Q i (fun a' w' => S w' ∧ K' a' w') a w := by
  unfold wpOp
  rw [hi]
  simp only
  unfold wpAct at h
  split
  · rename_i hw
    rw [if_pos hw] at h
    exact .inl (Oper.wp_mono (fun a' w' h' => ⟨h'.1, hK a' w' h'.1 h'.2⟩) h)
  · rename_i hw
    rw [if_neg hw] at h
    exact ⟨h.1, hK _ w h.1 h.2⟩

def wpFork (P : Program) (ops : Array Oper) (Q : Exit → Act → World → Prop) (S : World → Prop) (ol : List Oper) (i j : Nat) (l : List (Nat × Bool)) : List Nat → Act → World → Prop
  | [], a, w => (∀ o, ol[i]? = some o → wpAct P ops Q S o (wpOrd P ops Q S (inOrd ol ((j, false) :: l))) a w) ∧ (∀ o, ol[j]? = some o → wpAct P ops Q S o (wpOrd P ops Q S (inOrd ol ((i, false) :: l))) a w)
  | k :: r, a, w => ∀ o, ol[k]? = some o → ∃ v, YieldsIf P ops S o v a ∧ wpFork P ops Q S ol i j l r (a.put o.dst v) w

theorem wpFork_any {ol : List Oper} (hs : Region.noSelect ol.toArray = true) (hQ : ∀ d v c a w, Q (.panic c) (a.put d v) w → Q (.panic c) a w) (i j : Nat) (l : List (Nat × Bool)) : ∀ (r : List Nat) (listed : Array Bool) (a : Act) (w : World), S w →
    forkB ol.toArray i j l r listed = true → wpFork P ol.toArray Q S ol i j l r a w → wpAnyH P .any ol.toArray Q S (r.length + (l.length + 2)) listed a w
  | [], listed, a, w, hS, hB, h => by
    simp only [forkB, Bool.and_eq_true, beq_iff_eq] at hB
    obtain ⟨⟨⟨⟨h1, h2⟩, h3⟩, h4⟩, h5⟩ := hB
    obtain ⟨oi, hoi⟩ := Option.isSome_iff_exists.1 h2
    obtain ⟨oj, hoj⟩ := Option.isSome_iff_exists.1 h3
    have hoi' : ol[i]? = some oi := by simpa using hoi
    have hoj' : ol[j]? = some oj := by simpa using hoj
    rw [show ([] : List Nat).length + (l.length + 2) = (l.length + 1) + 1 by simp]
    refine wpAnyH_all h1 (by simp) fun k hk => ?_
    simp only [List.mem_cons, List.not_mem_nil, or_false] at hk
    rcases hk with rfl | rfl
    · exact wpOp_act hoi (fun a' w' hS' hK => wpOrd_any hs hQ ((j, false) :: l) _ a' w' hS' h4 hK) (h.1 oi hoi')
    · exact wpOp_act hoj (fun a' w' hS' hK => wpOrd_any hs hQ ((i, false) :: l) _ a' w' hS' h5 hK) (h.2 oj hoj')
  | k :: r, listed, a, w, hS, hB, h => by
    simp only [forkB, Bool.and_eq_true] at hB
    obtain ⟨⟨⟨h1, h2⟩, h3⟩, h4⟩ := hB
    obtain ⟨o, hi⟩ := Option.isSome_iff_exists.1 h3
    have hi' : ol[k]? = some o := by simpa using hi
    obtain ⟨v, hy, hr⟩ := h o hi'
    rw [show (k :: r).length + (l.length + 2) = r.length + (l.length + 2) + 1 by simp; omega]
    exact wpAnyH_take hi hs h2 h1 (fun c a w => hQ _ _ c a w) hy hS (wpFork_any hs hQ i j l r _ _ w hS h4 hr)

/-- A region that draws its order, walked so. -/
theorem wp_region_fork {id : Nat} {a : Act} {w : World} {ol : List Oper} (r : List Nat) (i j : Nat) (l : List (Nat × Bool)) (hm : P.follows .mixedOrders = true) (hl : r.length + (l.length + 2) = ol.length)
    (hB : (Region.noSelect ol.toArray && forkB ol.toArray i j l r (Array.replicate ol.toArray.size false)) = true) (hQ : ∀ d v c a w, Q (.panic c) (a.put d v) w → Q (.panic c) a w)
    (hS : S w.drew) (h : wpFork P ol.toArray Q S ol i j l r a w.drew) : (Code.region id ol.toArray true).wp P Q a w := by
  simp only [Bool.and_eq_true] at hB
  have h1 := wpFork_any hB.1 hQ i j l r _ a w.drew hS hB.2 h
  rw [hl] at h1
  exact wp_region_held hm (by simpa using h1)

theorem wpFork_yield {ol : List Oper} {i j : Nat} {l : List (Nat × Bool)} {k : Nat} {r : List Nat} {a : Act} {w : World} {o : Oper} {v : Value} (ho : ol[k]? = some o) (hw : Region.wanted o (yielded ops a.tmps) = true)
    (hr : ∀ u, S u → (execOp a.eval o).run P u = .ok (.value v) u) (h : wpFork P ops Q S ol i j l r (a.put o.dst v) w) : wpFork P ops Q S ol i j l (k :: r) a w := by
  intro o' ho'
  obtain rfl : o = o' := by rw [ho] at ho'; exact Option.some.inj ho'
  exact ⟨v, .inl ⟨hw, hr⟩, h⟩
theorem wpFork_nil {ol : List Oper} {i j : Nat} {l : List (Nat × Bool)} {a : Act} {w : World} {oi oj : Oper} (hi : ol[i]? = some oi) (hj : ol[j]? = some oj)
    (h1 : wpOrd P ops Q S (inOrd ol ((i, false) :: (j, false) :: l)) a w) (h2 : wpOrd P ops Q S (inOrd ol ((j, false) :: (i, false) :: l)) a w) : wpFork P ops Q S ol i j l [] a w := by
  refine ⟨fun o ho => ?_, fun o ho => ?_⟩
  · obtain rfl : oi = o := by rw [hi] at ho; exact Option.some.inj ho
    simp only [inOrd, hi, hj, wpOrd] at h1 ⊢
    exact h1
  · obtain rfl : oj = o := by rw [hj] at ho; exact Option.some.inj ho
    simp only [inOrd, hi, hj, wpOrd] at h2 ⊢
    exact h2
end
end Go.Proofs.YtlcdpmjdnihocaaGreatH
/- Regions whose order is drawn, walked step by step: what only reads may come at any time, what acts comes where nothing else may, two that act come in either order; S holds all along. -/
namespace Go.Proofs.YtlcdpmjdnihocaaGreatH
open Go.RowKit

abbrev StO : Type := Oper ⊕ (Oper ⊕ (Oper × Oper))
section
variable {P : Program} {ops : Array Oper} {Q : Exit → Act → World → Prop} {S : World → Prop}
variable {r : List StO} {a : Act} {w : World} {o x y : Oper} {K : Act → World → Prop}
end
end Go.Proofs.YtlcdpmjdnihocaaGreatH
/- Regions whose order is drawn, walked by a plan: reads, what acts alone, and one of two that act, each with its own plan behind it; S holds all along. -/
namespace Go.Proofs.YtlcdpmjdnihocaaGreatH
open Go.RowKit
/-- A step of a plan: what only reads (.inl i), what acts alone (.inr (.inl i)), one of two that act (.inr (.inr (i, j, k))): the first one's plan is the next k steps, the other's is what is left behind them. -/
abbrev Ins : Type := Nat ⊕ (Nat ⊕ (Nat × Nat × Nat))
section
variable {P : Program} {ops : Array Oper} {Q : Exit → Act → World → Prop} {S : World → Prop}
variable {a : Act} {w : World} {o x y : Oper} {ol : List Oper} {i j k f : Nat} {r : List Ins}
end
end Go.Proofs.YtlcdpmjdnihocaaGreatH
