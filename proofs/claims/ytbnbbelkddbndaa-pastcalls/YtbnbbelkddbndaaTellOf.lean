/- Block's closure: the walk. -/
import Derived.Test.YtbnbbelkddbndaaTell
namespace Go.Proofs.Ytbnbbelkddbndaa
open Go.RowKit Go.Maps
section
variable {ops : Array Oper} {rest : List Oper} {o : Oper} {a : Act} {w : World} {Q : Exit → Act → World → Prop}
variable {dst : Option Tmp} {x y : Operand} {ty : TypeId} {pos : String} {aft : Array Edge} {gd : Option (Nat × Bool)}
theorem isLoad (t : TypeId) (h : wpList Try.prog ops Q (⟨dst, .load t x, ty, pos, aft, gd⟩ :: rest) a w) : wpList Try.prog ops Q (⟨dst, .load t x, ty, pos, aft, gd⟩ :: rest) a w := h
theorem isLoadAt (t : TypeId) (w : World) (h : wpList Try.prog ops Q (⟨dst, .load t x, ty, pos, aft, gd⟩ :: rest) a w) : wpList Try.prog ops Q (⟨dst, .load t x, ty, pos, aft, gd⟩ :: rest) a w := h
theorem isStore (t : TypeId) (h : wpList Try.prog ops Q (⟨dst, .store t x y, ty, pos, aft, gd⟩ :: rest) a w) : wpList Try.prog ops Q (⟨dst, .store t x y, ty, pos, aft, gd⟩ :: rest) a w := h
theorem isBuild (t : TypeId) {ps : Array (Nat × Operand)} (h : wpList Try.prog ops Q (⟨dst, .build t ps, ty, pos, aft, gd⟩ :: rest) a w) : wpList Try.prog ops Q (⟨dst, .build t ps, ty, pos, aft, gd⟩ :: rest) a w := h
theorem isList (t : TypeId) {n : Nat} {ps : Array (Nat × Operand)} (h : wpList Try.prog ops Q (⟨dst, .buildSlice t n ps, ty, pos, aft, gd⟩ :: rest) a w) : wpList Try.prog ops Q (⟨dst, .buildSlice t n ps, ty, pos, aft, gd⟩ :: rest) a w := h
theorem isEq (t t' : TypeId) {bo : BinOp} (h : wpList Try.prog ops Q (⟨dst, .binOp bo t x y t', ty, pos, aft, gd⟩ :: rest) a w) : wpList Try.prog ops Q (⟨dst, .binOp bo t x y t', ty, pos, aft, gd⟩ :: rest) a w := h
theorem celAt_row {g : Nat} {c : Cel} {t : TypeId} (h : w.heap[g]? = some (.cells (celRow c).toArray t)) : CelAt w g 0 c := by
  refine ⟨?_, fun j v hv => ?_⟩
  · rw [cell_of_row w g _ _ t _ h]
    rfl
  · rw [cell_of_row w g _ _ t _ h, List.getElem?_toArray]
    rw [show 0 + 1 + j = j + 1 by omega]
    unfold celRow
    rw [List.getElem?_cons_succ]
    exact hv
theorem wpList_load44 (hgd : o.guard = none) (x : Operand) (ho : o.op = .load 44 x) (g off : Nat) (hx : a.eval x = .pointer (some ⟨g, off, none⟩)) (c : Cel) (hg : CelAt w g off c)
    (h : wpList Try.prog ops Q rest (a.put o.dst (.agg (celRow c).toArray)) w) : wpList Try.prog ops Q (o :: rest) a w :=
  wpList_plain hgd fun _ hK => by
    unfold Oper.wp execOp
    simp only [ho, hx, load44 hg, Sem.run_bind, Result.andThen_ok, Sem.run_pure]
    exact hK _ _ h
theorem wpList_storeNew (t : TypeId) (n : Nat) (hsz : (Try.prog.info? t).map (·.size) = some n) (hgd : o.guard = none) (x y : Operand) (ho : o.op = .store t x y) (Z R : Array Value) (hZ : Z.size = n) (hR : R.size = n) (h1 : R.all (·.oneCell') = true) (g : Nat) (hg : g = w.heap.size)
    (hx : a.eval x = .pointer (some ⟨g, 0, none⟩)) (hy : a.eval y = .agg R)
    (h : wpList Try.prog ops Q rest (a.put o.dst undef) (w.alloc (.cells R t))) : wpList Try.prog ops Q (o :: rest) a (w.alloc (.cells Z t)) := by
  subst hg
  refine wpList_plain hgd fun _ hK => ?_
  have e := run_storeVar_row (P := Try.prog) (w.alloc (.cells Z t)) w.heap.size t t Z R (heap_alloc_new _ _) (by rw [hR]; exact hsz) (by rw [hZ, hR]) h1
  rw [World.setRow_alloc_new] at e
  unfold Oper.wp execOp
  simp only [ho, hx, hy, Instr.storeAt, Instr.sureAddr, Sem.run_bind, Sem.run_pure, Result.andThen_ok, e]
  exact hK _ _ h
theorem wpList_build44A (hgd : o.guard = none) (x y : Operand) (ho : o.op = .build 44 #[(0, x), (1, y)]) (u v : Value) (R : Array Value) (hx : a.eval x = u) (hy : a.eval y = v) (hr : (Instr.build 44 #[(0, u), (1, v)]).run Try.prog w = .ok (.agg R) w)
    (h : wpList Try.prog ops Q rest (a.put o.dst (.agg R)) w) : wpList Try.prog ops Q (o :: rest) a w :=
  wpList_plain hgd fun _ hK => by
    have e' : (execOp a.eval o).run Try.prog w = .ok (.value (.agg R)) w := by simp [execOp, ho, hx, hy, hr]
    unfold Oper.wp
    rw [e']
    exact hK _ _ h
theorem wpList_look92 (hgd : o.guard = none) (m x : Operand) (ho : o.op = Op.lookup 92 m x true) (b : Nat) (R : Array Value) (r : Bool) (hm : a.eval m = .map (some b)) (hx : a.eval x = .agg R)
    (hr : (Instr.lookup 92 (.map (some b)) (.agg R) true).run Try.prog w = .ok (.tuple #[.agg #[], .bool r]) w)
    (h : wpList Try.prog ops Q rest (a.put o.dst (.tuple #[.agg #[], .bool r])) w) : wpList Try.prog ops Q (o :: rest) a w :=
  wpList_plain hgd fun _ hK => by
    unfold Oper.wp
    simp [execOp, ho, hm, hx, hr, Result.andThen]
    exact hK _ _ h
theorem wpList_put92 {w' : World} (hgd : o.guard = none) (m x y : Operand) (ho : o.op = Op.mapUpdate 92 m x y) (b : Nat) (R : Array Value) (hm : a.eval m = .map (some b)) (hx : a.eval x = .agg R) (hy : a.eval y = .agg #[])
    (hr : (Instr.mapUpdate 92 (.map (some b)) (.agg R) (.agg #[])).run Try.prog w = .ok () w')
    (h : wpList Try.prog ops Q rest (a.put o.dst undef) w') : wpList Try.prog ops Q (o :: rest) a w :=
  wpList_plain hgd fun _ hK => by
    unfold Oper.wp
    simp [execOp, ho, hm, hx, hy, hr, Result.andThen]
    exact hK _ _ h
theorem wpList_load40A (hgd : o.guard = none) (x : Operand) (ho : o.op = .load 40 x) (g : Nat) (hx : a.eval x = .pointer (some ⟨g, 0, none⟩)) (F : Array Value) (hF : F.size = 1024) (hg : w.heap[g]? = some (.cells F 40))
    (h : wpList Try.prog ops Q rest (a.put o.dst (.agg F)) w) : wpList Try.prog ops Q (o :: rest) a w :=
  wpList_load_row hgd 40 x ho g hx 40 F (0, 0) _ hg Try.underlying40 rfl (by rw [hF]; exact size25) h
theorem wpList_load44A (hgd : o.guard = none) (x : Operand) (ho : o.op = .load 44 x) (g : Nat) (hx : a.eval x = .pointer (some ⟨g, 0, none⟩)) (R : Array Value) (hR : R.size = 1025) (hg : w.heap[g]? = some (.cells R 44))
    (h : wpList Try.prog ops Q rest (a.put o.dst (.agg R)) w) : wpList Try.prog ops Q (o :: rest) a w :=
  wpList_load_row hgd 44 x ho g hx 44 R (0, 0) _ hg Try.underlying44 rfl (by rw [hR]; exact size85) h
end
theorem size93 : (Try.prog.info? 93).map (·.size) = some 0 := by kernel_rfl
theorem store93 (g off : Nat) (u : World) : (Instr.storeAt 93 (.pointer (some ⟨g, off, none⟩)) (.agg #[])).run Try.prog u = .ok () u := by
  obtain ⟨i0, hi0, hz⟩ : ∃ i, Try.prog.info? 93 = some i ∧ i.size = 0 := by
    have := size93
    cases h : Try.prog.info? 93 with
    | none => rw [h] at this; cases this
    | some i => exact ⟨i, rfl, by rw [h] at this; simpa using this⟩
  simp [Instr.storeAt, Instr.sureAddr, storeVar, sizeOf, typeInfo, hi0, Value.cells, hz, storeCells]
theorem wpList_store93 {ops : Array Oper} {rest : List Oper} {o : Oper} {a : Act} {w : World} {Q : Exit → Act → World → Prop} (hgd : o.guard = none) (x y : Operand) (ho : o.op = .store 93 x y) (g off : Nat) (hx : a.eval x = .pointer (some ⟨g, off, none⟩)) (hy : a.eval y = .agg #[])
    (h : wpList Try.prog ops Q rest (a.put o.dst undef) w) : wpList Try.prog ops Q (o :: rest) a w :=
  wpList_plain hgd fun _ hK => by
    unfold Oper.wp execOp
    simp only [ho, hx, hy, store93, Sem.run_bind, Sem.run_pure, Result.andThen_ok]
    exact hK _ _ h
theorem build93 (u : World) : (Instr.build 93 #[]).run Try.prog u = .ok (.agg #[]) u := by
  simp [Instr.build, run_underlying Try.underlying93, Instr.fill, Value.cells]
theorem build52 (f : Nat → Int) (u : World) : (Instr.buildSlice 52 1 #[(0, .agg (blk f))]).run Try.prog u = .ok (.slice (some ⟨u.heap.size, 0, none⟩) 1 1) (u.alloc (.cells (blk f) 40)) :=
  build1 52 40 1024 _ _ Try.underlying52 Try.sizeOf40 (by omega) zero25 (blk_size f) u
/-- A block of memory that what was told does not lie in. -/
def Off (w : World) (cb sb i : Nat) : Prop := i ≠ cb ∧ i ≠ sb ∧ ∀ v, w.heap[cb]? = some (.cells #[v] 52) → v.ownBlock ≠ some i
set_option maxRecDepth 20000 in
set_option maxHeartbeats 400000 in
theorem tell_any {B : Nat} {w : World} {ca cs cb sb : Nat} {k : Int} {l : List (Nat → Int)} (h : TellAt B w ca cs cb sb k l) {f : Nat → Int} (hf : Can f) (hk : (Lit.int .i64 k).wf = true) (hn : l.length < 68719476735) (hBw : B ≤ w.heap.size) :
    Calls Try.prog 61 #[.agg (blk f), .pointer (some ⟨ca, 0, none⟩), .pointer (some ⟨cs, 0, none⟩), .pointer (some ⟨cb, 0, none⟩)] w fun e w' => e = .returned (.tuple #[]) ∧ TellAt B w' ca cs cb sb k (tellL l f) ∧ Below B w w' ∧ ∀ i, i < w.heap.size → Off w cb sb i → w'.heap[i]? = w.heap[i]? ∧ Off w' cb sb i := by
  obtain ⟨v, hcb, hrow⟩ := h.list
  obtain ⟨Z, hZ, hz44⟩ : ∃ Z : Array Value, Z.size = 1025 ∧ ∀ u : World, (zeroValue 44).run Try.prog u = .ok (.agg Z) u := ⟨_, cel_size (0, nought), zero85⟩
  have hz93 := zero93
  have hs93 := store93
  have hb93 := build93
  obtain ⟨W3, hW3⟩ : ∃ W3, W3 = ((w.alloc (.cells (blk f) 40)).alloc (.cells (celRow (k, f)).toArray 44)).alloc (.cells #[] 93) := ⟨_, rfl⟩
  have hB3 : Below w.heap.size w W3 := by
    rw [hW3]
    exact ((((Below.refl _ _).alloc (Nat.le_refl _) _).alloc (by simp) _).alloc (by simp; omega) _)
  have hs3 : W3.heap.size = w.heap.size + 3 := by rw [hW3]; simp
  have hl3 : (w.alloc (.cells (blk f) 40)).heap.size = w.heap.size + 1 := by simp
  have hF3 : W3.heap[w.heap.size]? = some (.cells (blk f) 40) := by
    rw [hW3]
    exact heap_kept (heap_kept (heap_alloc_new w _) (below_new _ _)) (below_new _ _)
  have hH3 : W3.heap[w.heap.size + 1]? = some (.cells (celRow (k, f)).toArray 44) := by
    rw [hW3]
    have := heap_alloc_new (w.alloc (.cells (blk f) 40)) (.cells (celRow (k, f)).toArray 44)
    rw [hl3] at this
    exact heap_kept this (below_new _ _)
  have hlt : ∀ {i : Nat} {o : Obj}, w.heap[i]? = some o → i < w.heap.size := fun hi => (Array.getElem?_eq_some_iff.1 hi).1
  have hca3 := (hB3.block ca (hlt h.num)).trans h.num
  have hcs3 := (hB3.block cs (hlt h.seen)).trans h.seen
  have hcb3 := (hB3.block cb (hlt hcb)).trans hcb
  have c1 : w.cell? ⟨ca, 0, none⟩ = some (.int .i64 k) := Joins.cell_of_block h.num 0
  have c2 : w.cell? ⟨cs, 0, none⟩ = some (.map (some sb)) := Joins.cell_of_block h.seen 0
  have hcal := hlt h.num
  have hcsl := hlt h.seen
  obtain ⟨W2, hW2⟩ : ∃ W2, W2 = (w.alloc (.cells (blk f) 40)).alloc (.cells (celRow (k, f)).toArray 44) := ⟨_, rfl⟩
  have hB2 : Below w.heap.size w W2 := by
    rw [hW2]
    exact (((Below.refl _ _).alloc (Nat.le_refl _) _).alloc (by simp) _)
  have hsbl : sb < w.heap.size := by
    obtain ⟨es, ck, hm⟩ := h.set.isMap
    exact hlt hm
  have hS2 : SeenAt W2 sb k l := h.set.kept (hB2.block sb hsbl)
  have hlook := seen_look hS2 hf hk
  have hH2 : W2.heap[w.heap.size + 1]? = some (.cells (celRow (k, f)).toArray 44) := by
    rw [hW2]
    have := heap_alloc_new (w.alloc (.cells (blk f) 40)) (.cells (celRow (k, f)).toArray 44)
    rwa [hl3] at this
  rw [hW2] at hlook
  have hH2' := hH2
  rw [hW2] at hH2'
  have hbld := build85 k f
  have hb52 := build52 f
  have hFs := blk_size f
  have hRs := cel_size (k, f)
  have hR1 : (celRow (k, f)).toArray.all (·.oneCell') = true := by
    rw [Array.all_eq_true_iff_forall_mem]
    intro v hv
    exact celRow_one (k, f) v (by simpa using hv)
  have hF1 := blk_ones f
  have hbc : blkCells (l ++ [f]) = blkCells l ++ (blk f).toList := by rw [blkCells_append, blkCells_one]
  have HBc : Hid (blkCells (l ++ [f]) = blkCells l ++ (blk f).toList) := hbc
  clear hbc
  have hS3 : SeenAt W3 sb k l := h.set.kept (hB3.block sb hsbl)
  have hrow3 : W3.ownsRow B 40 1024 v l.length (blkCells l) := ownsRow_kept0 hrow fun i hi => hB3.block i (hrow.lt i hi).2
  have HUp : Hid (B ≤ cb ∧ B ≤ sb) := h.up
  have HCbw : Hid (w.heap[cb]? = some (.cells #[v] 52)) := hcb
  have HRow : Hid (W3.ownsRow B 40 1024 v l.length (blkCells l)) := hrow3
  have HS3 : Hid (SeenAt W3 sb k l) := hS3
  have HB3 : Hid (Below w.heap.size w W3) := hB3
  have HCa3 : Hid (W3.heap[ca]? = some (.cells #[.int .i64 k] 3)) := hca3
  have HCs3 : Hid (W3.heap[cs]? = some (.cells #[.map (some sb)] 92)) := hcs3
  have HCb3 : Hid (W3.heap[cb]? = some (.cells #[v] 52)) := hcb3
  cases hin : inB l f
  · rw [hin] at hlook
    have et : tellL l f = l ++ [f] := by unfold tellL; rw [hin]; rfl
    rw [et]
    obtain ⟨w4, hput, hS4, hg4⟩ := seen_put hS3 hf hk (by omega)
    have hH3' := hH3
    have cs3 : W3.cell? ⟨cs, 0, none⟩ = some (.map (some sb)) := Joins.cell_of_block hcs3 0
    have hcbn : cb ≠ sb := hS3.ne hcb3
    have hcan : ca ≠ sb := hS3.ne hca3
    have hcsn : cs ≠ sb := hS3.ne hcs3
    have hfn : w.heap.size ≠ sb := by omega
    have hcbl : cb < W3.heap.size := (Array.getElem?_eq_some_iff.1 hcb3).1
    have hca4 := (hg4.block ca (Array.getElem?_eq_some_iff.1 hca3).1 (fun q => hcan (by injection q))).trans hca3
    have hcs4 := (hg4.block cs (Array.getElem?_eq_some_iff.1 hcs3).1 (fun q => hcsn (by injection q))).trans hcs3
    have hcb4 := (hg4.block cb hcbl (fun q => hcbn (by injection q))).trans hcb3
    have hF4 := (hg4.block w.heap.size (by omega) (fun q => hfn (by injection q))).trans hF3
    have hrow4 : w4.ownsRow B 40 1024 v l.length (blkCells l) := ownsRow_kept0 hrow3 fun i hi => hg4.block i (hrow3.lt i hi).2 (fun q => row_map hrow3 hi hS3 (by injection q with q; exact q.symm))
    have c4 : w4.cell? ⟨cb, 0, none⟩ = some v := Joins.cell_of_block hcb4 0
    have hB4 : Below B w w4 := (hB3.mono hBw).grown hg4 (by omega) (fun j hj => by injection hj with hj; have := HUp.out; omega)
    have hs4 : w.heap.size + 3 ≤ w4.heap.size := by have := hg4.size; omega
    have hcb4l : cb < w4.heap.size := (Array.getElem?_eq_some_iff.1 hcb4).1
    have HB4 : Hid (Below B w w4) := hB4
    have HOff : Hid (∀ i, i < w.heap.size → i ≠ sb → w4.heap[i]? = w.heap[i]?) := fun i hi hne => (hg4.block i (by omega) (fun q => hne (by injection q))).trans (hB3.block i hi)
    have hs4w : w.heap.size ≤ w4.heap.size := by omega
    have HS4 : Hid (SeenAt w4 sb k (l ++ [f])) := hS4
    have HCa4 : Hid (w4.heap[ca]? = some (.cells #[.int .i64 k] 3)) := hca4
    have HCs4 : Hid (w4.heap[cs]? = some (.cells #[.map (some sb)] 92)) := hcs4
    have HCb4 : Hid (w4.heap[cb]? = some (.cells #[v] 52)) := hcb4
    have HRow4 : Hid (w4.ownsRow B 40 1024 v l.length (blkCells l)) := hrow4
    obtain ⟨i0, z0, hi0, hz0, hz1, hz2, hzs⟩ : ∃ i0 z0, Try.prog.info? 40 = some i0 ∧ i0.zero = some z0 ∧ i0.size = 1024 ∧ i0.bytes = 1024 ∧ z0.cells.size = 1024 := by
      obtain ⟨i0, hi0, hz0, hz1, hz2⟩ := info_parts info40
      exact ⟨i0, _, hi0, hz0, hz1, hz2, blk_size nought⟩
    have HI0 : Hid (Try.prog.info? 40 = some i0 ∧ i0.zero = some z0 ∧ i0.size = 1024 ∧ i0.bytes = 1024 ∧ z0.cells.size = 1024) := ⟨hi0, hz0, hz1, hz2, hzs⟩
    clear hi0 hz0 hz1 hz2 hzs
    have HF1 : Hid (∀ v ∈ (blk f).toList, v.oneCell' = true) := hF1
    have HFs : Hid ((blk f).size = 1024) := hFs
    clear hF1
    have HW3 : Hid (W3 = ((w.alloc (.cells (blk f) 40)).alloc (.cells (celRow (k, f)).toArray 44)).alloc (.cells #[] 93)) := hW3
    clear h hcb hrow hB3 hF3 hH3 hca3 hcs3 hcb3 hB2 hS2 hH2 hS3 hrow3 hin et hg4 hca4 hcs4 hcb4 hB4 hS4 hW2 hlt hk hf hl3 HB3 HS3 HRow HCa3 HCs3 HCb3
    have HNews : Hid (∀ j u, (blk f).toList[j]? = some u → (w4.alloc (.cells (blk f) 40)).cell? ((⟨w4.heap.size, 0, none⟩ : Addr).add j) = some u) := fun j u hu => by
      rw [Go.WideShapes.add_plain, Nat.zero_add, cell_of_row _ _ j _ 40 _ (heap_alloc_new w4 _), ← Array.getElem?_toList]
      exact hu
    have HRn : Hid (∀ g, v.ownBlock = some g → cb ≠ g ∧ ca ≠ g ∧ cs ≠ g ∧ sb ≠ g ∧ B ≤ g ∧ g < w4.heap.size) := fun g hg => ⟨row_ne hrow4 hg HCb4.out (by decide), row_ne hrow4 hg HCa4.out (by decide), row_ne hrow4 hg HCs4.out (by decide), row_map hrow4 hg HS4.out, (hrow4.lt g hg).1, (hrow4.lt g hg).2⟩
    have HNe : Hid (ca ≠ cb ∧ cs ≠ cb ∧ cb ≠ sb ∧ ca < w4.heap.size ∧ cs < w4.heap.size ∧ sb < w4.heap.size) := by
      have l1 := (Array.getElem?_eq_some_iff.1 HCa4.out).1
      have l2 := (Array.getElem?_eq_some_iff.1 HCs4.out).1
      obtain ⟨es, ck, hm⟩ := HS4.out.isMap
      have l3 := (Array.getElem?_eq_some_iff.1 hm).1
      refine ⟨fun e => ?_, fun e => ?_, hcbn, l1, l2, l3⟩
      · have := HCa4.out
        rw [e, HCb4.out] at this
        injection this with this
        injection this with _ this
        cases this
      · have := HCs4.out
        rw [e, HCb4.out] at this
        injection this with this
        injection this with _ this
        cases this
    have hcb5 : ∀ w5 : World, (w4.alloc (.cells (blk f) 40)).grownBy w5 v.ownBlock → w5.heap[cb]? = some (.cells #[v] 52) := fun w5 hg => by
      refine ((hg.block cb (by simp; omega) fun q => (HRn.out cb q.symm).1 rfl).trans ?_)
      exact heap_kept HCb4.out (below_new _ _)
    clear hW3 hs3 hcbl hcbn hcan hcsn hfn hsbl hs4 hrow4
    generalize blk f = F at *
    generalize (celRow (k, f)).toArray = R at *
    go_enter Try.func61, Try.ntmps61
    go_wp2_with (first | (with_reducible refine isLoadAt 40 w4 ?_; refine wpList_load40A rfl (.tmp 4) rfl w.heap.size rfl F hFs hF4 ?_) | (with_reducible refine isLoad 40 ?_; refine wpList_load40A rfl (.tmp 4) rfl w.heap.size rfl F hFs (heap_alloc_new w _) ?_) | (with_reducible refine isBuild 44 ?_; refine wpList_build44A rfl (.tmp 8) (.tmp 9) rfl (.int .i64 k) (.agg F) R rfl rfl (hbld _) ?_) | (with_reducible refine isStore 44 ?_; refine wpList_storeNew 44 1025 size85 rfl (.tmp 5) (.tmp 10) rfl Z R hZ hRs hR1 (w.heap.size + 1) (by simp) rfl rfl ?_) | (with_reducible refine isLoadAt 44 W3 ?_; refine wpList_load44A rfl (.tmp 5) rfl (w.heap.size + 1) rfl R hRs hH3' ?_) | (with_reducible refine isLoad 44 ?_; refine wpList_load44A rfl (.tmp 5) rfl (w.heap.size + 1) rfl R hRs hH2' ?_) | (at_lookup; refine wpList_look92 rfl (.tmp 12) (.tmp 13) rfl sb R false rfl rfl hlook ?_) | (with_reducible refine isStore 93 ?_; refine wpList_store93 rfl (.tmp 6) (.tmp 15) rfl (w.heap.size + 2) 0 rfl rfl ?_; rw [← HW3.out]) | (at_mapUpdate; refine wpList_put92 rfl (.tmp 19) (.tmp 20) (.tmp 21) rfl sb R rfl rfl rfl hput ?_) | (at_builtin; refine wpList_append_own_at _ rfl (.tmp 22) (.tmp 24) 52 rfl B 40 i0 z0 1024 1024 Try.underlying52 HI0.out.1 HI0.out.2.1 HI0.out.2.2.1 HI0.out.2.2.2.1 HI0.out.2.2.2.2 (by decide) v l.length (blkCells l) rfl (HRow4.out.alloc _) ⟨w4.heap.size, 0, none⟩ 1 1 F.toList rfl (by rw [Array.length_toList]; exact HFs.out) HNews.out HF1.out (by unfold maxLen; omega) (by omega) (by have := HB4.out.size; simp; omega) ?_; intro v' w5 hown5 hg5 hnil5 hloc5; have hcb5' := hcb5 w5 hg5; have c5 : w5.cell? ⟨cb, 0, none⟩ = some v := Joins.cell_of_block hcb5' 0; have f5 : w5.frozen? ⟨cb, 0, none⟩ = false := Joins.unfrozen_of_block hcb5' 0; clear hnil5; obtain ⟨g', cap', rfl⟩ : ∃ g' cap', v' = .slice (some ⟨g', 0, none⟩) (l.length + 1) cap' := (hown5.2.elim (fun q => absurd q.2 (by omega)) fun ⟨g', cap', _, q, _⟩ => ⟨g', cap', q⟩)) | (with_reducible refine isList 52 ?_; refine wpList_build1 rfl 52 40 (.tmp 23) rfl F rfl (hb52 _) ?_))
    go_end0
    have hown5' : w5.ownsRow B 40 1024 (.slice (some ⟨g', 0, none⟩) (l.length + 1) cap') (l ++ [f]).length (blkCells (l ++ [f])) := by
      rw [List.length_append, List.length_singleton, HBc.out]
      exact hown5
    have hlt5 := hg5.size
    have hsz : (w4.alloc (.cells F 40)).heap.size = w4.heap.size + 1 := by simp
    rw [hsz] at hlt5
    obtain ⟨n1, n2, n3, n4, n5, n6⟩ := HNe.out
    have hk5 : ∀ i, i < w4.heap.size → v.ownBlock ≠ some i → w5.heap[i]? = w4.heap[i]? := fun i hi hv => (hg5.block i (by omega) (fun q => hv q.symm)).trans ((below_new w4 _).block i hi)
    have hrw : ∀ g, (Value.slice (some ⟨g', 0, none⟩) (l.length + 1) cap').ownBlock = some g → g ≠ cb := fun g hg e => by
      have := row_ne hown5 hg hcb5' (by decide)
      exact this e.symm
    have hset := Joins.block_setCell hcb5' (i := 0) (.slice (some ⟨g', 0, none⟩) (l.length + 1) cap')
    refine ⟨rfl, ⟨?_, ?_, ?_, ⟨_, hset, ownsRow_kept0 hown5' fun i hi => Below.heap_setCell _ _ _ _ (hrw i hi)⟩, HUp.out⟩, ?_, fun i hi ho => ?_⟩
    · exact ((Below.heap_setCell _ _ _ _ n1).trans (hk5 ca n4 fun q => (HRn.out ca q).2.1 rfl)).trans HCa4.out
    · exact ((Below.heap_setCell _ _ _ _ n2).trans (hk5 cs n5 fun q => (HRn.out cs q).2.2.1 rfl)).trans HCs4.out
    · exact HS4.out.kept ((Below.heap_setCell _ _ _ _ n3.symm).trans (hk5 sb n6 fun q => (HRn.out sb q).2.2.2.1 rfl))
    · have hb5 : Below B w w5 := (HB4.out.alloc (by have := HB4.out.size; omega) _).grown hg5 (by have := HB4.out.size; omega) (fun j hj => (HRn.out j hj).2.2.2.2.1)
      exact hb5.setCell (by show B ≤ cb; exact HUp.out.1) _
    · obtain ⟨o1, o2, o3⟩ := ho
      have ov := o3 v HCbw.out
      refine ⟨((Below.heap_setCell _ _ _ _ o1).trans (hk5 i (by omega) ov)).trans (HOff.out i hi o2), o1, o2, fun u hu => ?_⟩
      rw [hset] at hu
      have eu : u = .slice (some ⟨g', 0, none⟩) (l.length + 1) cap' := by
        injection hu with hu
        injection hu with hu
        have := congrArg Array.toList hu
        simpa using this.symm
      rw [eu]
      rcases hloc5 with q | q
      · rw [q]
        exact ov
      · rw [q, hsz]
        intro hq
        injection hq with hq
        omega
  · rw [hin] at hlook
    have et : tellL l f = l := by unfold tellL; rw [hin]; rfl
    rw [et]
    have HW3 : Hid (W3 = ((w.alloc (.cells (blk f) 40)).alloc (.cells (celRow (k, f)).toArray 44)).alloc (.cells #[] 93)) := hW3
    clear hW3 hs3 hrow hB3 hF3 hH3 hca3 hcs3 hcb3 hB2 hS2 hH2 hS3 hrow3 hin et hW2 hlt hk hf hl3 hcb hF1 HBc hb52
    generalize blk f = F at *
    generalize (celRow (k, f)).toArray = R at *
    go_enter Try.func61, Try.ntmps61
    go_wp2_with (first | (with_reducible refine isLoad 40 ?_; refine wpList_load40A rfl (.tmp 4) rfl w.heap.size rfl F hFs (heap_alloc_new w _) ?_) | (with_reducible refine isBuild 44 ?_; refine wpList_build44A rfl (.tmp 8) (.tmp 9) rfl (.int .i64 k) (.agg F) R rfl rfl (hbld _) ?_) | (with_reducible refine isStore 44 ?_; refine wpList_storeNew 44 1025 size85 rfl (.tmp 5) (.tmp 10) rfl Z R hZ hRs hR1 (w.heap.size + 1) (by simp) rfl rfl ?_) | (with_reducible refine isLoad 44 ?_; refine wpList_load44A rfl (.tmp 5) rfl (w.heap.size + 1) rfl R hRs hH2' ?_) | (at_lookup; refine wpList_look92 rfl (.tmp 12) (.tmp 13) rfl sb R true rfl rfl hlook ?_) | (with_reducible refine isStore 93 ?_; refine wpList_store93 rfl (.tmp 6) (.tmp 15) rfl (w.heap.size + 2) 0 rfl rfl ?_; rw [← HW3.out]))
    go_end0
    exact ⟨rfl, ⟨HCa3.out, HCs3.out, HS3.out, ⟨v, HCb3.out, HRow.out⟩, HUp.out⟩, HB3.out.mono hBw, fun i hi ho => ⟨HB3.out.block i hi, ho.1, ho.2.1, fun u hu => by
      rw [HCb3.out] at hu
      exact ho.2.2 u (by rw [← hu]; exact HCbw.out)⟩⟩
end Go.Proofs.Ytbnbbelkddbndaa
