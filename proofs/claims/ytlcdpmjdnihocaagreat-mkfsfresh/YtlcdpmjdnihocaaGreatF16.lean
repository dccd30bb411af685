/- Several texts joined, each with its own remark; no condition. -/
import Derived.Test.YtlcdpmjdnihocaaGreatF4
import Derived.Test.YtlcdpmjdnihocaaGreatF5
import Derived.Laws.ResultCell
import Derived.Test.YtlcdpmjdnihocaaGreatF15
import Derived.BigQuiet
import Derived.Deep.Cut
/- The document's Decode of an inode; bytes are 0 to 255. -/
namespace Go.Proofs.YtlcdpmjdnihocaaGreat
open Go.RowKit Go.Maps
theorem size29 : (Tryz.prog.info? 158).map (·.size) = some 64 := by kernel_rfl
theorem bel_alA {w u : World} (h : Below w.heap.size w u) (o : Obj) : Below w.heap.size w (u.alloc o) := h.alloc h.size o
theorem below_setRowA {B : Nat} {a w : World} (h : Below B a w) {g : Nat} (hg : B ≤ g) (cs : Array Value) : Below B a (w.setRow g cs) :=
  h.trans ⟨rfl, rfl, rfl, by simp, fun k hk => setRow_other w g k cs (by omega)⟩
/-- The number of m bytes from place k on. -/
def numN (f : Nat → Int) (k : Nat) : Nat → Int
  | 0 => 0
  | m + 1 => f k + 256 * numN f (k + 1) m
theorem numN_bd (f : Nat → Int) (hf : ∀ i, 0 ≤ f i ∧ f i ≤ 255) : ∀ (m k : Nat), 0 ≤ numN f k m ∧ numN f k m < 256 ^ m
  | 0, _ => by simp [numN]
  | m + 1, k => by
    have h1 := numN_bd f hf m (k + 1)
    have h2 := hf k
    simp only [numN, Int.pow_succ]
    omega
theorem wrap_u16A (n : Int) : IntKind.u16.wrap n = n % 65536 := by simp [IntKind.wrap, IntKind.bits, IntKind.signed]
/-- An inode: its kind, links, size, blocks, and its twelve numbers. -/
def node16 (k l s b : Int) (d : Nat → Int) : Array Value :=
  #[.int .u16 k, .int .u16 l, .int .u32 s, .int .u32 b, .int .u32 (d 0), .int .u32 (d 1), .int .u32 (d 2), .int .u32 (d 3), .int .u32 (d 4), .int .u32 (d 5), .int .u32 (d 6), .int .u32 (d 7), .int .u32 (d 8), .int .u32 (d 9), .int .u32 (d 10), .int .u32 (d 11)]
theorem node_size (k l s b : Int) (d : Nat → Int) : (node16 k l s b d).size = 16 := rfl
theorem node_one (k l s b : Int) (d : Nat → Int) : (node16 k l s b d).all (·.oneCell') = true := by simp [node16, Value.oneCell']
theorem node_congr {k l s b k' l' s' b' : Int} {d e : Nat → Int} (hk : k = k') (hl : l = l') (hs : s = s') (hb : b = b') (h : ∀ i, i < 12 → d i = e i) : node16 k l s b d = node16 k' l' s' b' e := by
  subst hk hl hs hb
  unfold node16
  rw [h 0 (by omega), h 1 (by omega), h 2 (by omega), h 3 (by omega), h 4 (by omega), h 5 (by omega), h 6 (by omega), h 7 (by omega), h 8 (by omega), h 9 (by omega), h 10 (by omega), h 11 (by omega)]
theorem size27 : (Tryz.prog.info? 111).map (·.size) = some 16 := by kernel_rfl
theorem zero27 : ∀ w, (zeroValue 111).run Tryz.prog w = .ok (.agg (node16 0 0 0 0 nought)) w := (zero_of_info (show (Tryz.prog.info? 111).map (fun i => (i.zero, i.size)) = some (some (.agg (node16 0 0 0 0 nought)), 16) by kernel_rfl)).1
set_option maxRecDepth 20000 in
set_option maxHeartbeats 400000 in
theorem get_any (f : Nat → Int) (k n : Nat) (w : World) (hk : k + n ≤ 64) (hn : 1 ≤ n ∧ n ≤ 4) (hf : ∀ i, 0 ≤ f i ∧ f i ≤ 255) :
    Calls Tryz.prog 154 #[.agg (rowN .u8 f 64), .int .i64 k, .int .i64 n] w fun e w' => e = .returned (.int .u32 (numN f k n)) ∧ Below w.heap.size w w' := by
  go_enter Tryz.func154, Tryz.ntmps154
  go_wp2
  go_loopw [7, 8] (fun s7 s8 wx => ∃ (j : Nat), j ≤ n ∧ s8 = .int .i64 ((j : Int) - 1) ∧ s7 = .int .u32 (numN f (k + j) (n - j)) ∧ wx = w.alloc (.cells (rowN .u8 f 64) 158)) (fun _ s8 _ => (intOf s8 + 1).toNat)
  case atStart => exact ⟨n, by omega, rfl, by simp [numN], rfl⟩
  case round =>
    obtain ⟨j, hj, rfl, rfl, rfl⟩ := hrel
    cases j with
    | zero =>
      obtain ⟨y, hy⟩ : ∃ y : Int, y = ((0 : Nat) : Int) - 1 := ⟨_, rfl⟩
      rw [← hy]
      have hy0 : ¬ (0 ≤ y) := by omega
      clear hy
      go_wp2
      go_ret
      exact ⟨rfl, below_new _ _⟩
    | succ j =>
      have e1 : ((j + 1 : Nat) : Int) - 1 = (j : Int) := by omega
      rw [e1]
      have hbd := numN_bd f hf (n - (j + 1)) (k + (j + 1))
      have hp : (256 : Int) ^ (n - (j + 1)) ≤ 16777216 := by
        have : n - (j + 1) = 0 ∨ n - (j + 1) = 1 ∨ n - (j + 1) = 2 ∨ n - (j + 1) = 3 := by omega
        rcases this with h | h | h | h <;> rw [h] <;> decide
      have hb2 := hf (k + j)
      have hx0 := hbd.1
      have hx1 : numN f (k + (j + 1)) (n - (j + 1)) < 16777216 := by omega
      have hg := rowN_get .u8 f 64 (k + j) (by omega)
      have e0 : (k : Int) + (j : Int) = ((k + j : Nat) : Int) := by omega
      have hkj : k + j < 64 := by omega
      have HN : Hid (numN f (k + j) (n - j) = f (k + j) + 256 * numN f (k + (j + 1)) (n - (j + 1))) := by
        show _ = _
        rw [show n - j = (n - (j + 1)) + 1 by omega, numN]; rfl
      have HF : Hid _ := hf
      clear hbd hp hf
      generalize numN f (k + (j + 1)) (n - (j + 1)) = x at *
      generalize hfy : f (k + j) = y at *
      obtain ⟨hy0, hy1⟩ := hb2
      generalize hm : k + j = m at *
      have HM : Hid (k + j = m) := hm
      clear hm
      go_wp2
      refine ⟨⟨j, by omega, by go_num, ?_, trivial⟩, by simp [intOf]⟩
      rw [HM.out, HN.out]
      congr 1
      omega
theorem info24 : ∃ i0, Tryz.prog.info? 108 = some i0 ∧ i0.size = 1 := by
  have h : (Tryz.prog.info? 108).map (·.size) = some 1 := by kernel_rfl
  cases hq : Tryz.prog.info? 108 with
  | none => rw [hq] at h; cases h
  | some i => exact ⟨i, rfl, by simpa [hq] using h⟩
theorem run_stC (w : World) (g j : Nat) (cs : Array Value) (t : TypeId) (hg : w.heap[g]? = some (.cells cs t)) (hj : j < cs.size) (x : Int) :
    (Instr.storeAt 108 (.pointer (some ⟨g, j, none⟩)) (.int .u32 x)).run Tryz.prog w = .ok () (w.setRow g (cs.setIfInBounds j (.int .u32 x))) := by
  obtain ⟨i0, hi0, hz⟩ := info24
  have hc : w.cell? ⟨g, j, none⟩ = some cs[j] := by rw [cell_of_row w g j cs t _ hg]; simp
  have hf : w.frozen? ⟨g, j, none⟩ = false := by simp [World.frozen?, hg]
  have hr := setCell_eq_setRow w g j cs t (0, 0) (.int .u32 x) hg
  simp [Instr.storeAt, Instr.sureAddr, storeVar, sizeOf, typeInfo, hi0, hz, storeCells, go_sem, hc, hf, hr]
/-- The twelve numbers that bytes say. -/
def decD (f : Nat → Int) : Nat → Int := fun i => numN f (12 + 4 * i) 4
def decN (f : Nat → Int) : Array Value := node16 (numN f 0 2) (numN f 2 2) (numN f 4 4) (numN f 8 4) (decD f)

theorem node_set (k l s b : Int) (e : Nat → Int) (i : Nat) (hi : i < 12) (x : Int) : (node16 k l s b e).setIfInBounds (4 + i) (.int .u32 x) = node16 k l s b (updN e i x) :=
  match i, hi with
  | 0, _ | 1, _ | 2, _ | 3, _ | 4, _ | 5, _ | 6, _ | 7, _ | 8, _ | 9, _ | 10, _ | 11, _ => rfl
theorem wpList_stC {ops : Array Oper} {rest : List Oper} {o : Oper} {a : Act} {w : World} {Q : Exit → Act → World → Prop} (hgd : o.guard = none) (p y : Operand) (ho : o.op = .store 108 p y)
    (g j : Nat) (cs : Array Value) (t : TypeId) (x : Int) (hj : j < cs.size) (hx : a.eval p = .pointer (some ⟨g, j, none⟩)) (hy : a.eval y = .int .u32 x) (hg : w.heap[g]? = some (.cells cs t))
    (h : wpList Tryz.prog ops Q rest (a.put o.dst undef) (w.setRow g (cs.setIfInBounds j (.int .u32 x)))) : wpList Tryz.prog ops Q (o :: rest) a w :=
  wpList_plain hgd fun _ hK => by
    unfold Oper.wp execOp
    simp only [ho, hx, hy, Sem.run_bind, run_stC w g j cs t hg hj x, Sem.run_pure, Result.andThen_ok]
    exact hK _ _ h
/-- The bytes' row, a row for the result, and (g) one for the inode. -/
structure DR (w W : World) (f : Nat → Int) : Prop where
  row : W.heap[w.heap.size]? = some (.cells (rowN .u8 f 64) 158)
  res : W.heap[w.heap.size + 1]? = some (.cells (node16 0 0 0 0 nought) 111)
  bel : Below w.heap.size w W
structure DRN (w W : World) (f : Nat → Int) (g : Nat) (N : Array Value) : Prop where
  row : W.heap[w.heap.size]? = some (.cells (rowN .u8 f 64) 158)
  res : W.heap[w.heap.size + 1]? = some (.cells (node16 0 0 0 0 nought) 111)
  node : W.heap[g]? = some (.cells N 111)
  far : w.heap.size + 2 ≤ g
  bel : Below w.heap.size w W
theorem DR.call {w W W' : World} {f : Nat → Int} (h : DR w W f) (hb : Below W.heap.size W W') : DR w W' f := ⟨heap_kept h.row hb, heap_kept h.res hb, below_next h.bel hb⟩
theorem DR.alloc {w W : World} {f : Nat → Int} (h : DR w W f) : DRN w (W.alloc (.cells (node16 0 0 0 0 nought) 111)) f W.heap.size (node16 0 0 0 0 nought) :=
  ⟨heap_kept h.row (below_new _ _), heap_kept h.res (below_new _ _), heap_alloc_new _ _, (Array.getElem?_eq_some_iff.1 h.res).1, below_next h.bel (below_new _ _)⟩
theorem DRN.call {w W W' : World} {f : Nat → Int} {g : Nat} {N : Array Value} (h : DRN w W f g N) (hb : Below W.heap.size W W') : DRN w W' f g N := ⟨heap_kept h.row hb, heap_kept h.res hb, heap_kept h.node hb, h.far, below_next h.bel hb⟩
theorem DRN.store {w W : World} {f : Nat → Int} {g : Nat} {N : Array Value} (h : DRN w W f g N) (N' : Array Value) (_ : N'.size = 16) : DRN w (W.setRow g N') f g N' :=
  ⟨(setRow_other _ _ _ _ (by have := h.far; omega)).trans h.row, (setRow_other _ _ _ _ (by have := h.far; omega)).trans h.res, setRow_heap _ _ _ _ _ _ h.node, h.far, below_setRowA h.bel (by have := h.far; omega) _⟩
theorem run_alloc27 {o : Oper} {a : Act} (w : World) (ho : o.op = .alloc 111) : (execOp a.eval o).run Tryz.prog w = .ok (.value (.pointer (some ⟨w.heap.size, 0, none⟩))) (w.alloc (.cells (node16 0 0 0 0 nought) 111)) := by
  have z27 := zero27 w
  unfold execOp
  simp only [ho]
  simp [go_sem, z27]
theorem run_st27 {o : Oper} {a : Act} (w : World) (g : Nat) {N0 : Array Value} (hg : w.heap[g]? = some (.cells N0 111)) (x y : Operand) (hx : a.eval x = .pointer (some ⟨g, 0, none⟩)) {N : Array Value} (hy : a.eval y = .agg N) (h0 : N0.size = 16) (hN : N.size = 16) (h1 : N.all (·.oneCell') = true) (ho : o.op = .store 111 x y) : (execOp a.eval o).run Tryz.prog w = .ok .skip (w.setRow g N) := by
  have hi : (Tryz.prog.info? 111).map (·.size) = some N.size := by rw [hN]; exact size27
  unfold execOp
  simp only [ho, hx, hy, Instr.storeAt, Instr.sureAddr, Sem.run_bind, Sem.run_pure, Result.andThen_ok, run_storeVar_row w g 111 111 N0 N hg hi (by rw [h0, hN]) h1]

theorem run_build27 {t : List Value} (x0 x1 x2 x3 : Int) (u : World) (h7 : t.toArray.getD 7 undef = .int .u16 x0) (h10 : t.toArray.getD 10 undef = .int .u16 x1) (h12 : t.toArray.getD 12 undef = .int .u32 x2) (h14 : t.toArray.getD 14 undef = .int .u32 x3) {o : Oper} (ho : o.op = .build 111 #[(0, .tmp 7), (1, .tmp 10), (2, .tmp 12), (3, .tmp 14)]) :
    (execOp (Act.eval ⟨t.toArray, []⟩) o).run Tryz.prog u = .ok (.value (.agg (node16 x0 x1 x2 x3 nought))) u := by
  have e7 : Act.eval ⟨t.toArray, []⟩ (.tmp 7) = .int .u16 x0 := h7
  have e10 : Act.eval ⟨t.toArray, []⟩ (.tmp 10) = .int .u16 x1 := h10
  have e12 : Act.eval ⟨t.toArray, []⟩ (.tmp 12) = .int .u32 x2 := h12
  have e14 : Act.eval ⟨t.toArray, []⟩ (.tmp 14) = .int .u32 x3 := h14
  generalize Act.eval ⟨t.toArray, []⟩ = E at *
  have z27 := zero27 u
  unfold node16 nought at *
  unfold execOp
  simp only [ho]
  simp [go_sem, e7, e10, e12, e14, z27]
theorem run_ldR (ty : TypeId) {d : TypeDesc} (hu : Tryz.prog.underlying ty = some d) (hd : d.isRow = true) {o : Oper} {a : Act} {u : World} (x : Operand) (ho : o.op = .load ty x) (g : Nat) (hx : a.eval x = .pointer (some ⟨g, 0, none⟩)) {cs : Array Value} {t : TypeId} (hg : u.heap[g]? = some (.cells cs t)) (hi : (Tryz.prog.info? ty).map (·.size) = some cs.size) : (execOp a.eval o).run Tryz.prog u = .ok (.value (.agg cs)) u := by
  unfold execOp
  simp only [ho, hx, Instr.loadAt, Instr.sureAddr, Sem.run_bind, Sem.run_pure, Result.andThen_ok, run_loadVar_row u g t ty cs (0, 0) d hg hu (by cases d <;> first | rfl | cases hd) hi]
set_option maxRecDepth 20000 in
set_option maxHeartbeats 4000000 in
theorem refDecode_any (f : Nat → Int) (w : World) (hf : ∀ i, 0 ≤ f i ∧ f i ≤ 255) :
    Calls Tryz.prog 131 #[.agg (rowN .u8 f 64)] w fun e w' => e = .returned (.agg (decN f)) ∧ Below w.heap.size w w' := by
  have z27 := zero27
  have C0 : Hid (∀ W : World, Calls Tryz.prog 154 #[.agg (rowN .u8 f 64), .int .i64 0, .int .i64 2] W fun e w' => e = .returned (.int .u32 (numN f 0 2)) ∧ Below W.heap.size W w') := fun W => get_any f 0 2 W (by omega) (by omega) hf
  have C1 : Hid (∀ W : World, Calls Tryz.prog 154 #[.agg (rowN .u8 f 64), .int .i64 2, .int .i64 2] W fun e w' => e = .returned (.int .u32 (numN f 2 2)) ∧ Below W.heap.size W w') := fun W => get_any f 2 2 W (by omega) (by omega) hf
  have C2 : Hid (∀ W : World, Calls Tryz.prog 154 #[.agg (rowN .u8 f 64), .int .i64 4, .int .i64 4] W fun e w' => e = .returned (.int .u32 (numN f 4 4)) ∧ Below W.heap.size W w') := fun W => get_any f 4 4 W (by omega) (by omega) hf
  have C3 : Hid (∀ W : World, Calls Tryz.prog 154 #[.agg (rowN .u8 f 64), .int .i64 8, .int .i64 4] W fun e w' => e = .returned (.int .u32 (numN f 8 4)) ∧ Below W.heap.size W w') := fun W => get_any f 8 4 W (by omega) (by omega) hf
  have CM : Hid (∀ (m : Nat) (W : World), m < 12 → Calls Tryz.prog 154 #[.agg (rowN .u8 f 64), .int .i64 (12 + 4 * (m : Int)), .int .i64 4] W fun e w' => e = .returned (.int .u32 (decD f m)) ∧ Below W.heap.size W w') := fun m W hm => by
    have := get_any f (12 + 4 * m) 4 W (by omega) (by omega) hf
    rwa [show ((12 + 4 * m : Nat) : Int) = 12 + 4 * (m : Int) by omega] at this
  have C10 : Hid (∀ W : World, Calls Tryz.prog 154 #[.agg (rowN .u8 f 64), .int .i64 52, .int .i64 4] W fun e w' => e = .returned (.int .u32 (decD f 10)) ∧ Below W.heap.size W w') := fun W => CM.out 10 W (by omega)
  have C11 : Hid (∀ W : World, Calls Tryz.prog 154 #[.agg (rowN .u8 f 64), .int .i64 56, .int .i64 4] W fun e w' => e = .returned (.int .u32 (decD f 11)) ∧ Below W.heap.size W w') := fun W => CM.out 11 W (by omega)
  have HW0 : Hid (IntKind.u16.wrap (numN f 0 2) = numN f 0 2) := by show _ = _; rw [wrap_u16A]; have := numN_bd f hf 2 0; omega
  have HW1 : Hid (IntKind.u16.wrap (numN f 2 2) = numN f 2 2) := by show _ = _; rw [wrap_u16A]; have := numN_bd f hf 2 2; omega
  unfold decN
  generalize numN f 0 2 = x0 at *
  generalize numN f 2 2 = x1 at *
  generalize numN f 4 4 = x2 at *
  generalize numN f 8 4 = x3 at *
  generalize decD f = d at *
  clear hf
  have HD0 : Hid (DR w ((w.alloc (.cells (rowN .u8 f 64) 158)).alloc (.cells (node16 0 0 0 0 nought) 111)).drew f) := ⟨heap_alloc2_old _ _ _, heap_alloc2_new _ _ _, (bel_alA (below_new _ _) _).drew⟩
  go_enter Tryz.func131, Tryz.ntmps131
  go_wp2
  refine wp_region_tree (S := fun u => u.heap[w.heap.size]? = some (.cells (rowN .u8 f 64) 158)) (rdT 0 (rdT 3 (rdT 6 (rdT 8 (altT [(1, (rdT 2 (altT [(4, (rdT 5 (altT [(7, (altT [(9, (rdT 10 (altT [(11, (altT [(12, finT)]))]))), (11, (altT [(9, (rdT 10 (altT [(12, finT)])))]))])), (11, (altT [(7, (altT [(9, (rdT 10 (altT [(12, finT)])))]))]))]))), (11, (altT [(4, (rdT 5 (altT [(7, (altT [(9, (rdT 10 (altT [(12, finT)])))]))])))]))]))), (11, (altT [(1, (rdT 2 (altT [(4, (rdT 5 (altT [(7, (altT [(9, (rdT 10 (altT [(12, finT)])))]))])))])))]))])))))
    (by kernel_rfl) rfl (by kernel_rfl) (fun d _ _ _ _ h => by cases d <;> exact h) HD0.out.row ?_
  generalize ((w.alloc (.cells (rowN .u8 f 64) 158)).alloc (.cells (node16 0 0 0 0 nought) 111)).drew = wd at *
  iterate 4
    refine wpT_yield (v := .agg (rowN .u8 f 64)) rfl rfl (fun u hu => run_ldR 158 Tryz.underlying158 rfl _ rfl w.heap.size rfl hu (by rw [rowN_size]; exact size29)) ?_
    simp only [Act.put, List.setIfInBounds_toArray, List.set_cons_succ, List.set_cons_zero]
  refine wpT_call rfl rfl 154 _ _ rfl Tryz.call154 [.agg (rowN .u8 f 64), .int .i64 0, .int .i64 2] rfl ?_ ?_
  · refine (C0.out _).mono ?_
    rintro e' X1 ⟨rfl, hb⟩
    have HD1 : Hid _ := HD0.out.call hb
    clear hb
    refine ⟨_, rfl, HD1.out.row, ?_⟩
    simp only [Act.put, List.setIfInBounds_toArray, List.set_cons_succ, List.set_cons_zero]
    refine wpT_yield (v := .int .u16 x0) rfl rfl (fun u _ => by go_simp; exact HW0.out) ?_
    simp only [Act.put, List.setIfInBounds_toArray, List.set_cons_succ, List.set_cons_zero]
    refine wpT_call rfl rfl 154 _ _ rfl Tryz.call154 [.agg (rowN .u8 f 64), .int .i64 2, .int .i64 2] rfl ?_ ?_
    · refine (C1.out _).mono ?_
      rintro e' X2 ⟨rfl, hb⟩
      have HD2 : Hid _ := HD1.out.call hb
      clear hb
      refine ⟨_, rfl, HD2.out.row, ?_⟩
      simp only [Act.put, List.setIfInBounds_toArray, List.set_cons_succ, List.set_cons_zero]
      refine wpT_yield (v := .int .u16 x1) rfl rfl (fun u _ => by go_simp; exact HW1.out) ?_
      simp only [Act.put, List.setIfInBounds_toArray, List.set_cons_succ, List.set_cons_zero]
      refine wpT_call rfl rfl 154 _ _ rfl Tryz.call154 [.agg (rowN .u8 f 64), .int .i64 4, .int .i64 4] rfl ?_ ?_
      · refine (C2.out _).mono ?_
        rintro e' X3 ⟨rfl, hb⟩
        have HD3 : Hid _ := HD2.out.call hb
        clear hb
        refine ⟨_, rfl, HD3.out.row, ?_⟩
        simp only [Act.put, List.setIfInBounds_toArray, List.set_cons_succ, List.set_cons_zero]
        refine wpT_call rfl rfl 154 _ _ rfl Tryz.call154 [.agg (rowN .u8 f 64), .int .i64 8, .int .i64 4] rfl ?_ ?_
        · refine (C3.out _).mono ?_
          rintro e' X4 ⟨rfl, hb⟩
          have HD4 : Hid _ := HD3.out.call hb
          clear hb
          refine ⟨_, rfl, HD4.out.row, ?_⟩
          simp only [Act.put, List.setIfInBounds_toArray, List.set_cons_succ, List.set_cons_zero]
          refine wpT_yield (v := .agg (node16 x0 x1 x2 x3 nought)) rfl rfl (fun u _ => run_build27 x0 x1 x2 x3 u rfl rfl rfl rfl rfl) ?_
          simp only [Act.put, List.setIfInBounds_toArray, List.set_cons_succ, List.set_cons_zero]
          refine wpT_make (v := .pointer (some ⟨X4.heap.size, 0, none⟩)) (w' := X4.alloc (.cells (node16 0 0 0 0 nought) 111)) rfl rfl (run_alloc27 _ rfl) (HD4.out.alloc).row ?_ wpT_stop
          have HA : Hid _ := HD4.out.alloc
          simp only [Act.put, List.setIfInBounds_toArray, List.set_cons_succ, List.set_cons_zero]
          generalize X4.heap.size = g at *
          generalize X4.alloc (.cells (node16 0 0 0 0 nought) 111) = WA at *
          have HT0 : Hid _ := HA.out.store (node16 x0 x1 x2 x3 nought) rfl
          refine wpT_do (w' := WA.setRow g (node16 x0 x1 x2 x3 nought)) rfl rfl (run_st27 _ _ HA.out.node _ _ rfl rfl rfl rfl (node_one _ _ _ _ _) rfl) HT0.out.row ?_ wpT_stop
          simp only [Act.put]
          generalize WA.setRow g (node16 x0 x1 x2 x3 nought) = Y at *
          refine wpT_fin ?_
          have HH : Hid (DRN w Y f g (node16 x0 x1 x2 x3 nought)) := HT0.out
          have HZ2 : Hid (rowN .u8 f 64 = rowN .u8 f 64) := rfl
          clear HT0 HW0 HW1 C0 C1 C2 C3
          go_wp2
          go_loopw [4] (fun s4 wx => ∃ (m : Nat) (e : Nat → Int), m ≤ 10 ∧ s4 = .int .i64 m ∧ (∀ i, i < m → e i = d i) ∧ DRN w wx f g (node16 x0 x1 x2 x3 e)) (fun s4 _ => 10 - (intOf s4).toNat)
          case atStart => exact ⟨0, nought, by omega, rfl, fun i hi => absurd hi (by omega), HH.out⟩
          case round =>
            obtain ⟨m, e, hm, rfl, he, hst⟩ := hrel
            have HT : Hid _ := hst
            have HE : Hid _ := he
            clear hst he HH
            by_cases h10 : (m : Int) < 10
            · have HST : Hid _ := fun W => CM.out m W (by omega)
              have HU : Hid (∀ i, i < m + 1 → updN e m (d m) i = d i) := fun i hi => by
                unfold updN; split
                · rename_i q; rw [q]
                · exact HE.out i (by omega)
              clear CM C10 C11 HE
              generalize d m = x at *
              go_wp2_with (first | refine wpList_ldR 158 Tryz.underlying158 rfl rfl _ rfl _ rfl _ 158 (0, 0) (by rw [rowN_size]; exact size29) HT.out.row ?_ | (go_at_call 154; fail))
              refine (HST.out _).mono ?_
              rintro e' X ⟨rfl, hbx⟩
              have HX1 : Hid _ := HT.out.call hbx
              have HX2 : Hid _ := HX1.out.store (node16 x0 x1 x2 x3 (updN e m x)) rfl
              have HS : Hid _ := node_set x0 x1 x2 x3 e m (by omega) x
              clear hbx HT HST
              go_wp2_with (first | refine wpList_stC rfl _ _ rfl g (4 + m) (node16 x0 x1 x2 x3 e) 111 x (by rw [node_size]; omega) (by simp [Act.eval]) rfl HX1.out.node ?_)
              rw [HS.out]
              exact ⟨⟨m + 1, updN e m x, by omega, by go_num, HU.out, HX2.out⟩, by simp [intOf]; omega⟩
            · obtain rfl : m = 10 := by omega
              have HC : Hid (node16 x0 x1 x2 x3 (updN (updN e 10 (d 10)) 11 (d 11)) = node16 x0 x1 x2 x3 d) := node_congr rfl rfl rfl rfl fun i hi => by
                unfold updN; split
                · rename_i q; rw [q]
                · split
                  · rename_i q; rw [q]
                  · exact HE.out i (by omega)
              clear hm CM HE
              generalize d 10 = y0 at *
              generalize d 11 = y1 at *
              go_wp2_with (first | refine wpList_ldR 158 Tryz.underlying158 rfl rfl _ rfl _ rfl _ 158 (0, 0) (by rw [rowN_size]; exact size29) HT.out.row ?_ | (go_at_call 154; fail))
              refine (C10.out _).mono ?_
              rintro e' X ⟨rfl, hbx⟩
              have HX1 : Hid _ := HT.out.call hbx
              have HX2 : Hid _ := HX1.out.store (node16 x0 x1 x2 x3 (updN e 10 y0)) rfl
              clear hbx HT C10
              go_wp2_with (first | refine wpList_stC rfl _ _ rfl g 14 (node16 x0 x1 x2 x3 e) 111 y0 (by rw [node_size]; omega) rfl rfl HX1.out.node ?_ | refine wpList_ldR 158 Tryz.underlying158 rfl rfl _ rfl _ rfl _ 158 (0, 0) (by rw [rowN_size]; exact size29) HX2.out.row ?_ | (go_at_call 154; fail))
              refine (C11.out _).mono ?_
              rintro e' X3 ⟨rfl, hbx⟩
              have HX3 : Hid _ := HX2.out.call hbx
              have HX4 : Hid _ := HX3.out.store (node16 x0 x1 x2 x3 (updN (updN e 10 y0) 11 y1)) rfl
              clear hbx HX1 HX2 C11
              go_wp2_with (first | refine wpList_stC rfl _ _ rfl g 15 (node16 x0 x1 x2 x3 (updN e 10 y0)) 111 y1 (by rw [node_size]; omega) rfl rfl HX3.out.node ?_ | refine wpList_ldR 111 Tryz.underlying111 rfl rfl _ rfl _ rfl _ 111 (0, 0) (by exact size27) HX4.out.node ?_ | refine wpList_stR 111 rfl _ _ rfl _ (node16 x0 x1 x2 x3 (updN (updN e 10 y0) 11 y1)) _ 111 (by exact size27) (by rfl) (node_one _ _ _ _ _) rfl rfl HX4.out.res ?_)
              exact retR Tryz.underlying111 rfl rfl (w.heap.size + 1) (node16 x0 x1 x2 x3 (updN (updN e 10 y0) 11 y1)) 111 (by exact size27) rfl (setRow_heap _ _ _ _ _ _ HX4.out.res) rfl ⟨by rw [HC.out], below_setRowA HX4.out.bel (by omega) _⟩
        · refine wpT_make (v := .pointer (some ⟨X3.heap.size, 0, none⟩)) (w' := X3.alloc (.cells (node16 0 0 0 0 nought) 111)) rfl rfl (run_alloc27 _ rfl) (HD3.out.alloc).row ?_ wpT_stop
          have HA : Hid _ := HD3.out.alloc
          simp only [Act.put, List.setIfInBounds_toArray, List.set_cons_succ, List.set_cons_zero]
          generalize X3.heap.size = g at *
          generalize X3.alloc (.cells (node16 0 0 0 0 nought) 111) = WA at *
          refine wpT_call rfl rfl 154 _ _ rfl Tryz.call154 [.agg (rowN .u8 f 64), .int .i64 8, .int .i64 4] rfl ?_ ?_
          · refine (C3.out _).mono ?_
            rintro e' X5 ⟨rfl, hb⟩
            have HD5 : Hid _ := HA.out.call hb
            clear hb
            refine ⟨_, rfl, HD5.out.row, ?_⟩
            simp only [Act.put, List.setIfInBounds_toArray, List.set_cons_succ, List.set_cons_zero]
            refine wpT_yield (v := .agg (node16 x0 x1 x2 x3 nought)) rfl rfl (fun u _ => run_build27 x0 x1 x2 x3 u rfl rfl rfl rfl rfl) ?_
            simp only [Act.put, List.setIfInBounds_toArray, List.set_cons_succ, List.set_cons_zero]
            have HT0 : Hid _ := HD5.out.store (node16 x0 x1 x2 x3 nought) rfl
            refine wpT_do (w' := X5.setRow g (node16 x0 x1 x2 x3 nought)) rfl rfl (run_st27 _ _ HD5.out.node _ _ rfl rfl rfl rfl (node_one _ _ _ _ _) rfl) HT0.out.row ?_ wpT_stop
            simp only [Act.put]
            generalize X5.setRow g (node16 x0 x1 x2 x3 nought) = Y at *
            refine wpT_fin ?_
            have HH : Hid (DRN w Y f g (node16 x0 x1 x2 x3 nought)) := HT0.out
            have HZ2 : Hid (rowN .u8 f 64 = rowN .u8 f 64) := rfl
            clear HT0 HW0 HW1 C0 C1 C2 C3
            go_wp2
            go_loopw [4] (fun s4 wx => ∃ (m : Nat) (e : Nat → Int), m ≤ 10 ∧ s4 = .int .i64 m ∧ (∀ i, i < m → e i = d i) ∧ DRN w wx f g (node16 x0 x1 x2 x3 e)) (fun s4 _ => 10 - (intOf s4).toNat)
            case atStart => exact ⟨0, nought, by omega, rfl, fun i hi => absurd hi (by omega), HH.out⟩
            case round =>
              obtain ⟨m, e, hm, rfl, he, hst⟩ := hrel
              have HT : Hid _ := hst
              have HE : Hid _ := he
              clear hst he HH
              by_cases h10 : (m : Int) < 10
              · have HST : Hid _ := fun W => CM.out m W (by omega)
                have HU : Hid (∀ i, i < m + 1 → updN e m (d m) i = d i) := fun i hi => by
                  unfold updN; split
                  · rename_i q; rw [q]
                  · exact HE.out i (by omega)
                clear CM C10 C11 HE
                generalize d m = x at *
                go_wp2_with (first | refine wpList_ldR 158 Tryz.underlying158 rfl rfl _ rfl _ rfl _ 158 (0, 0) (by rw [rowN_size]; exact size29) HT.out.row ?_ | (go_at_call 154; fail))
                refine (HST.out _).mono ?_
                rintro e' X ⟨rfl, hbx⟩
                have HX1 : Hid _ := HT.out.call hbx
                have HX2 : Hid _ := HX1.out.store (node16 x0 x1 x2 x3 (updN e m x)) rfl
                have HS : Hid _ := node_set x0 x1 x2 x3 e m (by omega) x
                clear hbx HT HST
                go_wp2_with (first | refine wpList_stC rfl _ _ rfl g (4 + m) (node16 x0 x1 x2 x3 e) 111 x (by rw [node_size]; omega) (by simp [Act.eval]) rfl HX1.out.node ?_)
                rw [HS.out]
                exact ⟨⟨m + 1, updN e m x, by omega, by go_num, HU.out, HX2.out⟩, by simp [intOf]; omega⟩
              · obtain rfl : m = 10 := by omega
                have HC : Hid (node16 x0 x1 x2 x3 (updN (updN e 10 (d 10)) 11 (d 11)) = node16 x0 x1 x2 x3 d) := node_congr rfl rfl rfl rfl fun i hi => by
                  unfold updN; split
                  · rename_i q; rw [q]
                  · split
                    · rename_i q; rw [q]
                    · exact HE.out i (by omega)
                clear hm CM HE
                generalize d 10 = y0 at *
                generalize d 11 = y1 at *
                go_wp2_with (first | refine wpList_ldR 158 Tryz.underlying158 rfl rfl _ rfl _ rfl _ 158 (0, 0) (by rw [rowN_size]; exact size29) HT.out.row ?_ | (go_at_call 154; fail))
                refine (C10.out _).mono ?_
                rintro e' X ⟨rfl, hbx⟩
                have HX1 : Hid _ := HT.out.call hbx
                have HX2 : Hid _ := HX1.out.store (node16 x0 x1 x2 x3 (updN e 10 y0)) rfl
                clear hbx HT C10
                go_wp2_with (first | refine wpList_stC rfl _ _ rfl g 14 (node16 x0 x1 x2 x3 e) 111 y0 (by rw [node_size]; omega) rfl rfl HX1.out.node ?_ | refine wpList_ldR 158 Tryz.underlying158 rfl rfl _ rfl _ rfl _ 158 (0, 0) (by rw [rowN_size]; exact size29) HX2.out.row ?_ | (go_at_call 154; fail))
                refine (C11.out _).mono ?_
                rintro e' X3 ⟨rfl, hbx⟩
                have HX3 : Hid _ := HX2.out.call hbx
                have HX4 : Hid _ := HX3.out.store (node16 x0 x1 x2 x3 (updN (updN e 10 y0) 11 y1)) rfl
                clear hbx HX1 HX2 C11
                go_wp2_with (first | refine wpList_stC rfl _ _ rfl g 15 (node16 x0 x1 x2 x3 (updN e 10 y0)) 111 y1 (by rw [node_size]; omega) rfl rfl HX3.out.node ?_ | refine wpList_ldR 111 Tryz.underlying111 rfl rfl _ rfl _ rfl _ 111 (0, 0) (by exact size27) HX4.out.node ?_ | refine wpList_stR 111 rfl _ _ rfl _ (node16 x0 x1 x2 x3 (updN (updN e 10 y0) 11 y1)) _ 111 (by exact size27) (by rfl) (node_one _ _ _ _ _) rfl rfl HX4.out.res ?_)
                exact retR Tryz.underlying111 rfl rfl (w.heap.size + 1) (node16 x0 x1 x2 x3 (updN (updN e 10 y0) 11 y1)) 111 (by exact size27) rfl (setRow_heap _ _ _ _ _ _ HX4.out.res) rfl ⟨by rw [HC.out], below_setRowA HX4.out.bel (by omega) _⟩
          · exact wpT_stop
      · refine wpT_make (v := .pointer (some ⟨X2.heap.size, 0, none⟩)) (w' := X2.alloc (.cells (node16 0 0 0 0 nought) 111)) rfl rfl (run_alloc27 _ rfl) (HD2.out.alloc).row ?_ wpT_stop
        have HA : Hid _ := HD2.out.alloc
        simp only [Act.put, List.setIfInBounds_toArray, List.set_cons_succ, List.set_cons_zero]
        generalize X2.heap.size = g at *
        generalize X2.alloc (.cells (node16 0 0 0 0 nought) 111) = WA at *
        refine wpT_call rfl rfl 154 _ _ rfl Tryz.call154 [.agg (rowN .u8 f 64), .int .i64 4, .int .i64 4] rfl ?_ ?_
        · refine (C2.out _).mono ?_
          rintro e' X6 ⟨rfl, hb⟩
          have HD6 : Hid _ := HA.out.call hb
          clear hb
          refine ⟨_, rfl, HD6.out.row, ?_⟩
          simp only [Act.put, List.setIfInBounds_toArray, List.set_cons_succ, List.set_cons_zero]
          refine wpT_call rfl rfl 154 _ _ rfl Tryz.call154 [.agg (rowN .u8 f 64), .int .i64 8, .int .i64 4] rfl ?_ ?_
          · refine (C3.out _).mono ?_
            rintro e' X7 ⟨rfl, hb⟩
            have HD7 : Hid _ := HD6.out.call hb
            clear hb
            refine ⟨_, rfl, HD7.out.row, ?_⟩
            simp only [Act.put, List.setIfInBounds_toArray, List.set_cons_succ, List.set_cons_zero]
            refine wpT_yield (v := .agg (node16 x0 x1 x2 x3 nought)) rfl rfl (fun u _ => run_build27 x0 x1 x2 x3 u rfl rfl rfl rfl rfl) ?_
            simp only [Act.put, List.setIfInBounds_toArray, List.set_cons_succ, List.set_cons_zero]
            have HT0 : Hid _ := HD7.out.store (node16 x0 x1 x2 x3 nought) rfl
            refine wpT_do (w' := X7.setRow g (node16 x0 x1 x2 x3 nought)) rfl rfl (run_st27 _ _ HD7.out.node _ _ rfl rfl rfl rfl (node_one _ _ _ _ _) rfl) HT0.out.row ?_ wpT_stop
            simp only [Act.put]
            generalize X7.setRow g (node16 x0 x1 x2 x3 nought) = Y at *
            refine wpT_fin ?_
            have HH : Hid (DRN w Y f g (node16 x0 x1 x2 x3 nought)) := HT0.out
            have HZ2 : Hid (rowN .u8 f 64 = rowN .u8 f 64) := rfl
            clear HT0 HW0 HW1 C0 C1 C2 C3
            go_wp2
            go_loopw [4] (fun s4 wx => ∃ (m : Nat) (e : Nat → Int), m ≤ 10 ∧ s4 = .int .i64 m ∧ (∀ i, i < m → e i = d i) ∧ DRN w wx f g (node16 x0 x1 x2 x3 e)) (fun s4 _ => 10 - (intOf s4).toNat)
            case atStart => exact ⟨0, nought, by omega, rfl, fun i hi => absurd hi (by omega), HH.out⟩
            case round =>
              obtain ⟨m, e, hm, rfl, he, hst⟩ := hrel
              have HT : Hid _ := hst
              have HE : Hid _ := he
              clear hst he HH
              by_cases h10 : (m : Int) < 10
              · have HST : Hid _ := fun W => CM.out m W (by omega)
                have HU : Hid (∀ i, i < m + 1 → updN e m (d m) i = d i) := fun i hi => by
                  unfold updN; split
                  · rename_i q; rw [q]
                  · exact HE.out i (by omega)
                clear CM C10 C11 HE
                generalize d m = x at *
                go_wp2_with (first | refine wpList_ldR 158 Tryz.underlying158 rfl rfl _ rfl _ rfl _ 158 (0, 0) (by rw [rowN_size]; exact size29) HT.out.row ?_ | (go_at_call 154; fail))
                refine (HST.out _).mono ?_
                rintro e' X ⟨rfl, hbx⟩
                have HX1 : Hid _ := HT.out.call hbx
                have HX2 : Hid _ := HX1.out.store (node16 x0 x1 x2 x3 (updN e m x)) rfl
                have HS : Hid _ := node_set x0 x1 x2 x3 e m (by omega) x
                clear hbx HT HST
                go_wp2_with (first | refine wpList_stC rfl _ _ rfl g (4 + m) (node16 x0 x1 x2 x3 e) 111 x (by rw [node_size]; omega) (by simp [Act.eval]) rfl HX1.out.node ?_)
                rw [HS.out]
                exact ⟨⟨m + 1, updN e m x, by omega, by go_num, HU.out, HX2.out⟩, by simp [intOf]; omega⟩
              · obtain rfl : m = 10 := by omega
                have HC : Hid (node16 x0 x1 x2 x3 (updN (updN e 10 (d 10)) 11 (d 11)) = node16 x0 x1 x2 x3 d) := node_congr rfl rfl rfl rfl fun i hi => by
                  unfold updN; split
                  · rename_i q; rw [q]
                  · split
                    · rename_i q; rw [q]
                    · exact HE.out i (by omega)
                clear hm CM HE
                generalize d 10 = y0 at *
                generalize d 11 = y1 at *
                go_wp2_with (first | refine wpList_ldR 158 Tryz.underlying158 rfl rfl _ rfl _ rfl _ 158 (0, 0) (by rw [rowN_size]; exact size29) HT.out.row ?_ | (go_at_call 154; fail))
                refine (C10.out _).mono ?_
                rintro e' X ⟨rfl, hbx⟩
                have HX1 : Hid _ := HT.out.call hbx
                have HX2 : Hid _ := HX1.out.store (node16 x0 x1 x2 x3 (updN e 10 y0)) rfl
                clear hbx HT C10
                go_wp2_with (first | refine wpList_stC rfl _ _ rfl g 14 (node16 x0 x1 x2 x3 e) 111 y0 (by rw [node_size]; omega) rfl rfl HX1.out.node ?_ | refine wpList_ldR 158 Tryz.underlying158 rfl rfl _ rfl _ rfl _ 158 (0, 0) (by rw [rowN_size]; exact size29) HX2.out.row ?_ | (go_at_call 154; fail))
                refine (C11.out _).mono ?_
                rintro e' X3 ⟨rfl, hbx⟩
                have HX3 : Hid _ := HX2.out.call hbx
                have HX4 : Hid _ := HX3.out.store (node16 x0 x1 x2 x3 (updN (updN e 10 y0) 11 y1)) rfl
                clear hbx HX1 HX2 C11
                go_wp2_with (first | refine wpList_stC rfl _ _ rfl g 15 (node16 x0 x1 x2 x3 (updN e 10 y0)) 111 y1 (by rw [node_size]; omega) rfl rfl HX3.out.node ?_ | refine wpList_ldR 111 Tryz.underlying111 rfl rfl _ rfl _ rfl _ 111 (0, 0) (by exact size27) HX4.out.node ?_ | refine wpList_stR 111 rfl _ _ rfl _ (node16 x0 x1 x2 x3 (updN (updN e 10 y0) 11 y1)) _ 111 (by exact size27) (by rfl) (node_one _ _ _ _ _) rfl rfl HX4.out.res ?_)
                exact retR Tryz.underlying111 rfl rfl (w.heap.size + 1) (node16 x0 x1 x2 x3 (updN (updN e 10 y0) 11 y1)) 111 (by exact size27) rfl (setRow_heap _ _ _ _ _ _ HX4.out.res) rfl ⟨by rw [HC.out], below_setRowA HX4.out.bel (by omega) _⟩
          · exact wpT_stop
        · exact wpT_stop
    · refine wpT_make (v := .pointer (some ⟨X1.heap.size, 0, none⟩)) (w' := X1.alloc (.cells (node16 0 0 0 0 nought) 111)) rfl rfl (run_alloc27 _ rfl) (HD1.out.alloc).row ?_ wpT_stop
      have HA : Hid _ := HD1.out.alloc
      simp only [Act.put, List.setIfInBounds_toArray, List.set_cons_succ, List.set_cons_zero]
      generalize X1.heap.size = g at *
      generalize X1.alloc (.cells (node16 0 0 0 0 nought) 111) = WA at *
      refine wpT_call rfl rfl 154 _ _ rfl Tryz.call154 [.agg (rowN .u8 f 64), .int .i64 2, .int .i64 2] rfl ?_ ?_
      · refine (C1.out _).mono ?_
        rintro e' X8 ⟨rfl, hb⟩
        have HD8 : Hid _ := HA.out.call hb
        clear hb
        refine ⟨_, rfl, HD8.out.row, ?_⟩
        simp only [Act.put, List.setIfInBounds_toArray, List.set_cons_succ, List.set_cons_zero]
        refine wpT_yield (v := .int .u16 x1) rfl rfl (fun u _ => by go_simp; exact HW1.out) ?_
        simp only [Act.put, List.setIfInBounds_toArray, List.set_cons_succ, List.set_cons_zero]
        refine wpT_call rfl rfl 154 _ _ rfl Tryz.call154 [.agg (rowN .u8 f 64), .int .i64 4, .int .i64 4] rfl ?_ ?_
        · refine (C2.out _).mono ?_
          rintro e' X9 ⟨rfl, hb⟩
          have HD9 : Hid _ := HD8.out.call hb
          clear hb
          refine ⟨_, rfl, HD9.out.row, ?_⟩
          simp only [Act.put, List.setIfInBounds_toArray, List.set_cons_succ, List.set_cons_zero]
          refine wpT_call rfl rfl 154 _ _ rfl Tryz.call154 [.agg (rowN .u8 f 64), .int .i64 8, .int .i64 4] rfl ?_ ?_
          · refine (C3.out _).mono ?_
            rintro e' X10 ⟨rfl, hb⟩
            have HD10 : Hid _ := HD9.out.call hb
            clear hb
            refine ⟨_, rfl, HD10.out.row, ?_⟩
            simp only [Act.put, List.setIfInBounds_toArray, List.set_cons_succ, List.set_cons_zero]
            refine wpT_yield (v := .agg (node16 x0 x1 x2 x3 nought)) rfl rfl (fun u _ => run_build27 x0 x1 x2 x3 u rfl rfl rfl rfl rfl) ?_
            simp only [Act.put, List.setIfInBounds_toArray, List.set_cons_succ, List.set_cons_zero]
            have HT0 : Hid _ := HD10.out.store (node16 x0 x1 x2 x3 nought) rfl
            refine wpT_do (w' := X10.setRow g (node16 x0 x1 x2 x3 nought)) rfl rfl (run_st27 _ _ HD10.out.node _ _ rfl rfl rfl rfl (node_one _ _ _ _ _) rfl) HT0.out.row ?_ wpT_stop
            simp only [Act.put]
            generalize X10.setRow g (node16 x0 x1 x2 x3 nought) = Y at *
            refine wpT_fin ?_
            have HH : Hid (DRN w Y f g (node16 x0 x1 x2 x3 nought)) := HT0.out
            have HZ2 : Hid (rowN .u8 f 64 = rowN .u8 f 64) := rfl
            clear HT0 HW0 HW1 C0 C1 C2 C3
            go_wp2
            go_loopw [4] (fun s4 wx => ∃ (m : Nat) (e : Nat → Int), m ≤ 10 ∧ s4 = .int .i64 m ∧ (∀ i, i < m → e i = d i) ∧ DRN w wx f g (node16 x0 x1 x2 x3 e)) (fun s4 _ => 10 - (intOf s4).toNat)
            case atStart => exact ⟨0, nought, by omega, rfl, fun i hi => absurd hi (by omega), HH.out⟩
            case round =>
              obtain ⟨m, e, hm, rfl, he, hst⟩ := hrel
              have HT : Hid _ := hst
              have HE : Hid _ := he
              clear hst he HH
              by_cases h10 : (m : Int) < 10
              · have HST : Hid _ := fun W => CM.out m W (by omega)
                have HU : Hid (∀ i, i < m + 1 → updN e m (d m) i = d i) := fun i hi => by
                  unfold updN; split
                  · rename_i q; rw [q]
                  · exact HE.out i (by omega)
                clear CM C10 C11 HE
                generalize d m = x at *
                go_wp2_with (first | refine wpList_ldR 158 Tryz.underlying158 rfl rfl _ rfl _ rfl _ 158 (0, 0) (by rw [rowN_size]; exact size29) HT.out.row ?_ | (go_at_call 154; fail))
                refine (HST.out _).mono ?_
                rintro e' X ⟨rfl, hbx⟩
                have HX1 : Hid _ := HT.out.call hbx
                have HX2 : Hid _ := HX1.out.store (node16 x0 x1 x2 x3 (updN e m x)) rfl
                have HS : Hid _ := node_set x0 x1 x2 x3 e m (by omega) x
                clear hbx HT HST
                go_wp2_with (first | refine wpList_stC rfl _ _ rfl g (4 + m) (node16 x0 x1 x2 x3 e) 111 x (by rw [node_size]; omega) (by simp [Act.eval]) rfl HX1.out.node ?_)
                rw [HS.out]
                exact ⟨⟨m + 1, updN e m x, by omega, by go_num, HU.out, HX2.out⟩, by simp [intOf]; omega⟩
              · obtain rfl : m = 10 := by omega
                have HC : Hid (node16 x0 x1 x2 x3 (updN (updN e 10 (d 10)) 11 (d 11)) = node16 x0 x1 x2 x3 d) := node_congr rfl rfl rfl rfl fun i hi => by
                  unfold updN; split
                  · rename_i q; rw [q]
                  · split
                    · rename_i q; rw [q]
                    · exact HE.out i (by omega)
                clear hm CM HE
                generalize d 10 = y0 at *
                generalize d 11 = y1 at *
                go_wp2_with (first | refine wpList_ldR 158 Tryz.underlying158 rfl rfl _ rfl _ rfl _ 158 (0, 0) (by rw [rowN_size]; exact size29) HT.out.row ?_ | (go_at_call 154; fail))
                refine (C10.out _).mono ?_
                rintro e' X ⟨rfl, hbx⟩
                have HX1 : Hid _ := HT.out.call hbx
                have HX2 : Hid _ := HX1.out.store (node16 x0 x1 x2 x3 (updN e 10 y0)) rfl
                clear hbx HT C10
                go_wp2_with (first | refine wpList_stC rfl _ _ rfl g 14 (node16 x0 x1 x2 x3 e) 111 y0 (by rw [node_size]; omega) rfl rfl HX1.out.node ?_ | refine wpList_ldR 158 Tryz.underlying158 rfl rfl _ rfl _ rfl _ 158 (0, 0) (by rw [rowN_size]; exact size29) HX2.out.row ?_ | (go_at_call 154; fail))
                refine (C11.out _).mono ?_
                rintro e' X3 ⟨rfl, hbx⟩
                have HX3 : Hid _ := HX2.out.call hbx
                have HX4 : Hid _ := HX3.out.store (node16 x0 x1 x2 x3 (updN (updN e 10 y0) 11 y1)) rfl
                clear hbx HX1 HX2 C11
                go_wp2_with (first | refine wpList_stC rfl _ _ rfl g 15 (node16 x0 x1 x2 x3 (updN e 10 y0)) 111 y1 (by rw [node_size]; omega) rfl rfl HX3.out.node ?_ | refine wpList_ldR 111 Tryz.underlying111 rfl rfl _ rfl _ rfl _ 111 (0, 0) (by exact size27) HX4.out.node ?_ | refine wpList_stR 111 rfl _ _ rfl _ (node16 x0 x1 x2 x3 (updN (updN e 10 y0) 11 y1)) _ 111 (by exact size27) (by rfl) (node_one _ _ _ _ _) rfl rfl HX4.out.res ?_)
                exact retR Tryz.underlying111 rfl rfl (w.heap.size + 1) (node16 x0 x1 x2 x3 (updN (updN e 10 y0) 11 y1)) 111 (by exact size27) rfl (setRow_heap _ _ _ _ _ _ HX4.out.res) rfl ⟨by rw [HC.out], below_setRowA HX4.out.bel (by omega) _⟩
          · exact wpT_stop
        · exact wpT_stop
      · exact wpT_stop
  · refine wpT_make (v := .pointer (some ⟨wd.heap.size, 0, none⟩)) (w' := wd.alloc (.cells (node16 0 0 0 0 nought) 111)) rfl rfl (run_alloc27 _ rfl) (HD0.out.alloc).row ?_ wpT_stop
    have HA : Hid _ := HD0.out.alloc
    simp only [Act.put, List.setIfInBounds_toArray, List.set_cons_succ, List.set_cons_zero]
    generalize wd.heap.size = g at *
    generalize wd.alloc (.cells (node16 0 0 0 0 nought) 111) = WA at *
    refine wpT_call rfl rfl 154 _ _ rfl Tryz.call154 [.agg (rowN .u8 f 64), .int .i64 0, .int .i64 2] rfl ?_ ?_
    · refine (C0.out _).mono ?_
      rintro e' X11 ⟨rfl, hb⟩
      have HD11 : Hid _ := HA.out.call hb
      clear hb
      refine ⟨_, rfl, HD11.out.row, ?_⟩
      simp only [Act.put, List.setIfInBounds_toArray, List.set_cons_succ, List.set_cons_zero]
      refine wpT_yield (v := .int .u16 x0) rfl rfl (fun u _ => by go_simp; exact HW0.out) ?_
      simp only [Act.put, List.setIfInBounds_toArray, List.set_cons_succ, List.set_cons_zero]
      refine wpT_call rfl rfl 154 _ _ rfl Tryz.call154 [.agg (rowN .u8 f 64), .int .i64 2, .int .i64 2] rfl ?_ ?_
      · refine (C1.out _).mono ?_
        rintro e' X12 ⟨rfl, hb⟩
        have HD12 : Hid _ := HD11.out.call hb
        clear hb
        refine ⟨_, rfl, HD12.out.row, ?_⟩
        simp only [Act.put, List.setIfInBounds_toArray, List.set_cons_succ, List.set_cons_zero]
        refine wpT_yield (v := .int .u16 x1) rfl rfl (fun u _ => by go_simp; exact HW1.out) ?_
        simp only [Act.put, List.setIfInBounds_toArray, List.set_cons_succ, List.set_cons_zero]
        refine wpT_call rfl rfl 154 _ _ rfl Tryz.call154 [.agg (rowN .u8 f 64), .int .i64 4, .int .i64 4] rfl ?_ ?_
        · refine (C2.out _).mono ?_
          rintro e' X13 ⟨rfl, hb⟩
          have HD13 : Hid _ := HD12.out.call hb
          clear hb
          refine ⟨_, rfl, HD13.out.row, ?_⟩
          simp only [Act.put, List.setIfInBounds_toArray, List.set_cons_succ, List.set_cons_zero]
          refine wpT_call rfl rfl 154 _ _ rfl Tryz.call154 [.agg (rowN .u8 f 64), .int .i64 8, .int .i64 4] rfl ?_ ?_
          · refine (C3.out _).mono ?_
            rintro e' X14 ⟨rfl, hb⟩
            have HD14 : Hid _ := HD13.out.call hb
            clear hb
            refine ⟨_, rfl, HD14.out.row, ?_⟩
            simp only [Act.put, List.setIfInBounds_toArray, List.set_cons_succ, List.set_cons_zero]
            refine wpT_yield (v := .agg (node16 x0 x1 x2 x3 nought)) rfl rfl (fun u _ => run_build27 x0 x1 x2 x3 u rfl rfl rfl rfl rfl) ?_
            simp only [Act.put, List.setIfInBounds_toArray, List.set_cons_succ, List.set_cons_zero]
            have HT0 : Hid _ := HD14.out.store (node16 x0 x1 x2 x3 nought) rfl
            refine wpT_do (w' := X14.setRow g (node16 x0 x1 x2 x3 nought)) rfl rfl (run_st27 _ _ HD14.out.node _ _ rfl rfl rfl rfl (node_one _ _ _ _ _) rfl) HT0.out.row ?_ wpT_stop
            simp only [Act.put]
            generalize X14.setRow g (node16 x0 x1 x2 x3 nought) = Y at *
            refine wpT_fin ?_
            have HH : Hid (DRN w Y f g (node16 x0 x1 x2 x3 nought)) := HT0.out
            have HZ2 : Hid (rowN .u8 f 64 = rowN .u8 f 64) := rfl
            clear HT0 HW0 HW1 C0 C1 C2 C3
            go_wp2
            go_loopw [4] (fun s4 wx => ∃ (m : Nat) (e : Nat → Int), m ≤ 10 ∧ s4 = .int .i64 m ∧ (∀ i, i < m → e i = d i) ∧ DRN w wx f g (node16 x0 x1 x2 x3 e)) (fun s4 _ => 10 - (intOf s4).toNat)
            case atStart => exact ⟨0, nought, by omega, rfl, fun i hi => absurd hi (by omega), HH.out⟩
            case round =>
              obtain ⟨m, e, hm, rfl, he, hst⟩ := hrel
              have HT : Hid _ := hst
              have HE : Hid _ := he
              clear hst he HH
              by_cases h10 : (m : Int) < 10
              · have HST : Hid _ := fun W => CM.out m W (by omega)
                have HU : Hid (∀ i, i < m + 1 → updN e m (d m) i = d i) := fun i hi => by
                  unfold updN; split
                  · rename_i q; rw [q]
                  · exact HE.out i (by omega)
                clear CM C10 C11 HE
                generalize d m = x at *
                go_wp2_with (first | refine wpList_ldR 158 Tryz.underlying158 rfl rfl _ rfl _ rfl _ 158 (0, 0) (by rw [rowN_size]; exact size29) HT.out.row ?_ | (go_at_call 154; fail))
                refine (HST.out _).mono ?_
                rintro e' X ⟨rfl, hbx⟩
                have HX1 : Hid _ := HT.out.call hbx
                have HX2 : Hid _ := HX1.out.store (node16 x0 x1 x2 x3 (updN e m x)) rfl
                have HS : Hid _ := node_set x0 x1 x2 x3 e m (by omega) x
                clear hbx HT HST
                go_wp2_with (first | refine wpList_stC rfl _ _ rfl g (4 + m) (node16 x0 x1 x2 x3 e) 111 x (by rw [node_size]; omega) (by simp [Act.eval]) rfl HX1.out.node ?_)
                rw [HS.out]
                exact ⟨⟨m + 1, updN e m x, by omega, by go_num, HU.out, HX2.out⟩, by simp [intOf]; omega⟩
              · obtain rfl : m = 10 := by omega
                have HC : Hid (node16 x0 x1 x2 x3 (updN (updN e 10 (d 10)) 11 (d 11)) = node16 x0 x1 x2 x3 d) := node_congr rfl rfl rfl rfl fun i hi => by
                  unfold updN; split
                  · rename_i q; rw [q]
                  · split
                    · rename_i q; rw [q]
                    · exact HE.out i (by omega)
                clear hm CM HE
                generalize d 10 = y0 at *
                generalize d 11 = y1 at *
                go_wp2_with (first | refine wpList_ldR 158 Tryz.underlying158 rfl rfl _ rfl _ rfl _ 158 (0, 0) (by rw [rowN_size]; exact size29) HT.out.row ?_ | (go_at_call 154; fail))
                refine (C10.out _).mono ?_
                rintro e' X ⟨rfl, hbx⟩
                have HX1 : Hid _ := HT.out.call hbx
                have HX2 : Hid _ := HX1.out.store (node16 x0 x1 x2 x3 (updN e 10 y0)) rfl
                clear hbx HT C10
                go_wp2_with (first | refine wpList_stC rfl _ _ rfl g 14 (node16 x0 x1 x2 x3 e) 111 y0 (by rw [node_size]; omega) rfl rfl HX1.out.node ?_ | refine wpList_ldR 158 Tryz.underlying158 rfl rfl _ rfl _ rfl _ 158 (0, 0) (by rw [rowN_size]; exact size29) HX2.out.row ?_ | (go_at_call 154; fail))
                refine (C11.out _).mono ?_
                rintro e' X3 ⟨rfl, hbx⟩
                have HX3 : Hid _ := HX2.out.call hbx
                have HX4 : Hid _ := HX3.out.store (node16 x0 x1 x2 x3 (updN (updN e 10 y0) 11 y1)) rfl
                clear hbx HX1 HX2 C11
                go_wp2_with (first | refine wpList_stC rfl _ _ rfl g 15 (node16 x0 x1 x2 x3 (updN e 10 y0)) 111 y1 (by rw [node_size]; omega) rfl rfl HX3.out.node ?_ | refine wpList_ldR 111 Tryz.underlying111 rfl rfl _ rfl _ rfl _ 111 (0, 0) (by exact size27) HX4.out.node ?_ | refine wpList_stR 111 rfl _ _ rfl _ (node16 x0 x1 x2 x3 (updN (updN e 10 y0) 11 y1)) _ 111 (by exact size27) (by rfl) (node_one _ _ _ _ _) rfl rfl HX4.out.res ?_)
                exact retR Tryz.underlying111 rfl rfl (w.heap.size + 1) (node16 x0 x1 x2 x3 (updN (updN e 10 y0) 11 y1)) 111 (by exact size27) rfl (setRow_heap _ _ _ _ _ _ HX4.out.res) rfl ⟨by rw [HC.out], below_setRowA HX4.out.bel (by omega) _⟩
          · exact wpT_stop
        · exact wpT_stop
      · exact wpT_stop
    · exact wpT_stop
end Go.Proofs.YtlcdpmjdnihocaaGreat
/- Names of entries that may be. -/
namespace Go.Proofs.YtlcdpmjdnihocaaGreat
open Go.RowKit Go.Maps
/-- A name that may be. -/
structure NmOk (s : ByteArray) : Prop where
  pos : 0 < s.size
  len : s.size ≤ 14
  byt : ∀ i (h : i < s.size), ¬ ((s[i].toNat : Nat) : Int) = 0 ∧ ¬ ((s[i].toNat : Nat) : Int) = 47
theorem nm_listA {s : ByteArray} (h : 0 < s.size) : s.toList.isEmpty = false := by
  rw [ByteArray.toList_eq]
  have : s.data.toList.length = s.size := by cases s; rfl
  cases hq : s.data.toList with
  | nil => rw [hq] at this; simp at this; omega
  | cons a t => rfl
set_option maxRecDepth 20000 in
set_option maxHeartbeats 1000000 in
theorem name18_ok (s : ByteArray) (w : World) (h : NmOk s) :
    Calls Tryz.prog 107 #[.string s] w fun e w' => e = .returned (.int .i64 0) ∧ w' = w := by
  obtain ⟨h1, h2, hb⟩ := h
  have h3 := nm_listA h1
  have HB : Hid (∀ i (h : i < s.size), ¬ ((s[i].toNat : Nat) : Int) = 0 ∧ ¬ ((s[i].toNat : Nat) : Int) = 47) := hb
  clear hb
  go_enter Tryz.func107, Tryz.ntmps107
  go_wp2
  go_loopw [3] (fun s3 wx => wx = w ∧ ∃ i : Nat, i ≤ s.size ∧ s3 = .int .i64 i) (fun s3 _ => s.size - (intOf s3).toNat)
  case atStart => exact ⟨rfl, 0, by omega, rfl⟩
  case round =>
    obtain ⟨rfl, i, hi, rfl⟩ := hrel
    by_cases hi2 : (i : Int) < (s.size : Int)
    · obtain ⟨b0, b47⟩ := HB.out i (by omega)
      have hr : ∀ u : World, (Instr.index 9 (.string s) (.int .i64 (i : Int))).run Tryz.prog u = .ok (.int .u8 ((s[i]'(by omega)).toNat : Nat)) u := fun u => by
        rw [run_index_string (P := Tryz.prog) u 9 s .i64 (i : Int) Tryz.underlying9, dif_pos (by omega)]
        simp
      generalize (s[i]'(by omega)).toNat = q at *
      have g1 : ((q : Int) == 0) = false := beq_eq_false_iff_ne.2 b0
      have g2 : ((q : Int) == 47) = false := beq_eq_false_iff_ne.2 b47
      generalize (q : Int) = q' at *
      go_wp2
      exact ⟨⟨trivial, i + 1, by omega, by go_num⟩, by simp [intOf]; omega⟩
    · have g1 : decide ((14 : Int) < (s.size : Int)) = false := decide_eq_false (by omega)
      go_wp2
      go_ret
      exact ⟨rfl, rfl⟩
end Go.Proofs.YtlcdpmjdnihocaaGreat
/- An entry's sixteen bytes, where the entry may be. -/
namespace Go.Proofs.YtlcdpmjdnihocaaGreat
open Go.RowKit Go.Maps
theorem size204A : (Tryz.prog.info? 120).map (·.size) = some 16 := by kernel_rfl
theorem zero204A : ∀ w, (zeroValue 120).run Tryz.prog w = .ok (.agg (rowN .u8 nought 16)) w := (zero_of_info (show (Tryz.prog.info? 120).map (fun i => (i.zero, i.size)) = some (some (.agg (rowN .u8 nought 16)), 16) by kernel_rfl)).1
theorem retCTA {fn : Func} {p u : Tmp} {ty : TypeId} {R : Ending → World → Prop} {a : Act} {w : World} {d : TypeDesc} (hu : Tryz.prog.underlying ty = some d) (hd : d.isRow = true) (h : fn.results = #[.cell p ty, .tmp u]) (g : Nat) (cs : Array Value) (t : TypeId) (hi : (Tryz.prog.info? ty).map (·.size) = some cs.size)
    (hp : a.tmps.getD p undef = .pointer (some ⟨g, 0, none⟩)) (hg : w.heap[g]? = some (.cells cs t))
    (hdf : a.defers = []) (hR : R (.returned (.tuple #[.agg cs, a.tmps.getD u undef])) w) : bodyPost Tryz.prog fn R .ret a w := by
  have hl : (loadVar ty ⟨g, 0, none⟩).run Tryz.prog w = .ok (.agg cs) w := run_loadVar_row w g t ty cs (0, 0) d hg hu (by cases d <;> first | rfl | cases hd) hi
  refine bodyPost_ret ?_ hdf hR
  rw [results_cell_tmp h]
  rw [hp]
  simp [asAddr, hl]
/-- The bytes of an entry. -/
def encPA (i : Int) (s : ByteArray) : Nat → Int := fun j => if j = 0 then i % 256 else if j = 1 then i / 256 else if h : j - 2 < s.size then (s[j - 2].toNat : Nat) else 0
structure En3A (w W : World) (i : Int) (s : ByteArray) (e : Nat → Int) : Prop where
  ent : W.heap[w.heap.size]? = some (.cells #[.int .u16 i, .string s] 69)
  res : W.heap[w.heap.size + 1]? = some (.cells (rowN .u8 nought 16) 120)
  row : W.heap[w.heap.size + 2]? = some (.cells (rowN .u8 e 16) 120)
  bel : Below w.heap.size w W
theorem En3A.set {w W : World} {i : Int} {s : ByteArray} {e : Nat → Int} (h : En3A w W i s e) (j : Nat) (x : Int) : En3A w (W.setCell ⟨w.heap.size + 2, j, none⟩ (.int .u8 x)) i s (updN e j x) := by
  have hF := Fr.setCell W (w.heap.size + 2) j (.int .u8 x)
  exact ⟨(hF.block _ (Array.getElem?_eq_some_iff.1 h.ent).1 (by omega)).trans h.ent, (hF.block _ (Array.getElem?_eq_some_iff.1 h.res).1 (by omega)).trans h.res, setCell_rowN h.row j x, h.bel.trans (hF.below (fun j q => by omega) h.bel.size)⟩
theorem En3A.start (w : World) (i : Int) (s : ByteArray) : En3A w (((w.alloc (.cells #[.int .u16 i, .string s] 69)).alloc (.cells (rowN .u8 nought 16) 120)).alloc (.cells (rowN .u8 nought 16) 120)) i s nought := by
  refine ⟨heap_kept (heap_kept (heap_alloc_new _ _) (below_new _ _)) (below_new _ _), heap_kept (heap_two _ _ _) (below_new _ _), ?_, bel_alA (bel_alA (below_new _ _) _) _⟩
  have := heap_alloc_new ((w.alloc (.cells #[.int .u16 i, .string s] 69)).alloc (.cells (rowN .u8 nought 16) 120)) (.cells (rowN .u8 nought 16) 120)
  simpa using this
theorem En3A.start2 (w : World) (i : Int) (s : ByteArray) (x y : Int) : En3A w (((w.alloc (.cells #[.int .u16 i, .string s] 69)).alloc (.cells (rowN .u8 nought 16) 120)).alloc (.cells (((rowN .u8 nought 16).setIfInBounds 0 (.int .u8 x)).setIfInBounds 1 (.int .u8 y)) 120)) i s (updN (updN nought 0 x) 1 y) := by
  rw [rowN_set, rowN_set]
  refine ⟨heap_kept (heap_kept (heap_alloc_new _ _) (below_new _ _)) (below_new _ _), heap_kept (heap_two _ _ _) (below_new _ _), ?_, bel_alA (bel_alA (below_new _ _) _) _⟩
  have := heap_alloc_new ((w.alloc (.cells #[.int .u16 i, .string s] 69)).alloc (.cells (rowN .u8 nought 16) 120)) (.cells (rowN .u8 (updN (updN nought 0 x) 1 y) 16) 120)
  simpa using this
set_option maxRecDepth 20000 in
set_option maxHeartbeats 1000000 in
theorem enc18_free (w : World) :
    Calls Tryz.prog 69 #[.agg #[.int .u16 0, .string ⟨#[]⟩]] w fun e w' => e = .returned (.tuple #[.agg (rowN .u8 nought 16), .int .i64 0]) ∧ Below w.heap.size w w' := by
  have z := zero204A
  have HE := En3A.start w 0 ⟨#[]⟩
  have c0 := Joins.cell_of_block HE.ent 0
  have c1 := Joins.cell_of_block HE.ent 1
  have hr := HE.res
  have hrw := HE.row
  have HB : Hid _ := HE.bel
  clear HE
  go_enter Tryz.func69, Tryz.ntmps69
  go_wp2_with (first | (with_reducible refine isLoadR 120 ?_; refine wpList_ldR 120 Tryz.underlying120 rfl rfl _ rfl (w.heap.size + 2) rfl (rowN .u8 nought 16) 120 (0, 0) (by rw [rowN_size]; exact size204A) hrw ?_) | (with_reducible refine isStoreR 120 ?_; refine wpList_stR 120 rfl _ _ rfl (w.heap.size + 1) (rowN .u8 nought 16) (rowN .u8 nought 16) 120 (by rw [rowN_size]; exact size204A) rfl (rowN_one _ _ _) rfl rfl hr ?_))
  exact retCTA Tryz.underlying120 rfl rfl (w.heap.size + 1) (rowN .u8 nought 16) 120 (by rw [rowN_size]; exact size204A) rfl (setRow_heap _ _ _ _ _ _ hr) rfl ⟨rfl, below_setRowA HB.out (by omega) _⟩
set_option maxRecDepth 20000 in
set_option maxHeartbeats 2000000 in
theorem enc18_name (w : World) (i : Int) (hi : 0 < i ∧ i < 65536) (s : ByteArray) (hs : NmOk s) :
    Calls Tryz.prog 69 #[.agg #[.int .u16 i, .string s]] w fun e w' => e = .returned (.tuple #[.agg (rowN .u8 (encPA i s) 16), .int .i64 0]) ∧ Below w.heap.size w w' := by
  have z := zero204A
  have hE := En3A.start w i s
  have hnm := name18_ok s (((w.alloc (.cells #[.int .u16 i, .string s] 69)).alloc (.cells (rowN .u8 nought 16) 120)).alloc (.cells (rowN .u8 nought 16) 120)) hs
  have c0 := Joins.cell_of_block hE.ent 0
  have c1 := Joins.cell_of_block hE.ent 1
  have g1 : (i == 0) = false := beq_eq_false_iff_ne.2 (by omega)
  have hlen := hs.len
  have HS : Hid _ := En3A.start2 w i s (i % 256) (i / 256)
  have HE1 := hE.set 0 (i % 256)
  have r0 := cell_rowN (i := 0) hE.row (by omega)
  have f0 := frozen_row hE.row 0
  have r1 := cell_rowN (i := 1) HE1.row (by omega)
  have f1 := frozen_row HE1.row 1
  have d0 := Joins.cell_of_block HE1.ent 0
  clear hE HE1
  have t1 : i.tmod 256 = i % 256 := Int.tmod_eq_emod_of_nonneg (by omega)
  have t2 : i.tdiv 256 = i / 256 := Int.tdiv_eq_ediv_of_nonneg (by omega)
  have t3 : IntKind.u16.wrap (i % 256) = i % 256 := by rw [wrap_u16A]; omega
  have t4 : IntKind.u16.wrap (i / 256) = i / 256 := by rw [wrap_u16A]; omega
  have t5 : IntKind.u8.wrap (i % 256) = i % 256 := by rw [IntKind.wrap_u8]; omega
  have t6 : IntKind.u8.wrap (i / 256) = i / 256 := by rw [IntKind.wrap_u8]; omega
  go_enter Tryz.func69, Tryz.ntmps69
  go_wp2_with (first | (go_at_call 107; fail))
  refine hnm.mono ?_
  rintro e W ⟨rfl, rfl⟩
  clear hnm
  go_wp2
  generalize (((w.alloc (.cells #[.int .u16 i, .string s] 69)).alloc (.cells (rowN .u8 nought 16) 120)).alloc (.cells (((rowN .u8 nought 16).setIfInBounds 0 (.int .u8 (i % 256))).setIfInBounds 1 (.int .u8 (i / 256))) 120)) = V at *
  clear c0 c1 r0 f0 r1 f1 d0 t1 t2 t3 t4 t5 t6 g1
  have HP : Hid (∀ k (h : k < s.size), encPA i s (2 + k) = (s[k].toNat : Nat)) := fun k h => by
    unfold encPA
    rw [if_neg (by omega), if_neg (by omega), dif_pos (by omega)]
    simp
  go_loopw [6] (fun s6 wx => ∃ (k : Nat) (e : Nat → Int), k ≤ s.size ∧ s6 = .int .i64 k ∧ Hid (∀ j, j < 2 + k ∨ 2 + s.size ≤ j → e j = encPA i s j) ∧ Hid (En3A w wx i s e)) (fun s6 _ => s.size - (intOf s6).toNat)
  case atStart =>
    refine ⟨0, _, by omega, rfl, ?_, HS.out⟩
    intro j hj
    unfold updN encPA nought
    by_cases h1 : j = 1
    · rw [if_pos h1, if_neg (by omega), if_pos h1]
    · rw [if_neg h1]
      by_cases h0 : j = 0
      · rw [if_pos h0, if_pos h0]
      · rw [if_neg h0, if_neg h0, if_neg h1, dif_neg (by omega)]
  case round =>
    obtain ⟨k, e, hk, rfl, HE, HT⟩ := hrel
    have c1 := Joins.cell_of_block HT.out.ent 1
    by_cases hk2 : (k : Int) < (s.size : Int)
    · have hr : ∀ u : World, (Instr.index 9 (.string s) (.int .i64 (k : Int))).run Tryz.prog u = .ok (.int .u8 ((s[k]'(by omega)).toNat : Nat)) u := fun u => by
        rw [run_index_string (P := Tryz.prog) u 9 s .i64 (k : Int) Tryz.underlying9, dif_pos (by omega)]
        simp
      have HPk : Hid _ := HP.out k (by omega)
      have rk := cell_rowN (i := 2 + k) HT.out.row (by omega)
      have fk := frozen_row HT.out.row (2 + k)
      have HT2 : Hid _ := HT.out.set (2 + k) ((s[k]'(by omega)).toNat : Nat)
      have HE2 : Hid (∀ j, j < 2 + (k + 1) ∨ 2 + s.size ≤ j → updN e (2 + k) ((s[k]'(by omega)).toNat : Nat) j = encPA i s j) := fun j hj => by
        unfold updN
        split
        · rename_i q; rw [q, HPk.out]
        · exact HE.out j (by omega)
      have e1 : IntKind.i64.wrap (2 + (k : Int)) = ((2 + k : Nat) : Int) := by rw [IntKind.wrap_i64]; omega
      have e2 : 2 + (k : Int) = ((2 + k : Nat) : Int) := by omega
      have hlt : 2 + k < 16 := by omega
      have hks : k < s.size := by omega
      generalize ((s[k]'(by omega)).toNat : Nat) = q at *
      generalize (q : Int) = x at *
      clear HT HE HPk
      generalize hm : 2 + k = m at *
      have HM : Hid _ := hm
      clear hm
      go_wp2
      refine ⟨⟨k + 1, _, by omega, by go_num, HE2.out, HT2.out⟩, by simp [intOf]; omega⟩
    · obtain rfl : k = s.size := by omega
      have hrow := HT.out.row
      rw [show rowN .u8 e 16 = rowN .u8 (encPA i s) 16 from rowN_congr fun j _ => HE.out j (by omega)] at hrow
      have hres := HT.out.res
      have HB2 : Hid (Below w.heap.size w (wr.setRow (w.heap.size + 1) (rowN .u8 (encPA i s) 16))) := below_setRowA HT.out.bel (by omega) _
      clear HT HE HP
      obtain ⟨F, hF⟩ : ∃ F, encPA i s = F := ⟨_, rfl⟩
      rw [hF] at hrow HB2
      have HF : Hid _ := hF
      clear hF
      go_wp2_with (first | (with_reducible refine isLoadR 120 ?_; refine wpList_ldR 120 Tryz.underlying120 rfl rfl _ rfl (w.heap.size + 2) rfl (rowN .u8 F 16) 120 (0, 0) (by rw [rowN_size]; exact size204A) hrow ?_) | (with_reducible refine isStoreR 120 ?_; refine wpList_stR 120 rfl _ _ rfl (w.heap.size + 1) (rowN .u8 F 16) (rowN .u8 nought 16) 120 (by rw [rowN_size]; exact size204A) (by rw [rowN_size, rowN_size]) (rowN_one _ _ _) rfl rfl hres ?_))
      exact retCTA Tryz.underlying120 rfl rfl (w.heap.size + 1) (rowN .u8 F 16) 120 (by rw [rowN_size]; exact size204A) rfl (setRow_heap _ _ _ _ _ _ hres) rfl ⟨by rw [HF.out]; rfl, HB2.out⟩
end Go.Proofs.YtlcdpmjdnihocaaGreat
/- The layout of a geometry that may be; the document's own words. -/
namespace Go.Proofs.YtlcdpmjdnihocaaGreat
open Go.RowKit Go.Maps
structure GeoOk (b l i : Nat) : Prop where
  b1 : 1 ≤ b
  b2 : b ≤ 1048576
  l1 : 32 ≤ l
  l2 : l ≤ 256
  i1 : 1 ≤ i
  i2 : i ≤ 65535
  fit : 1 + l + (i + 16) / 16 + (b + 8191) / 8192 < b
def layOf (b l i : Nat) : Lay := ⟨b, l, i, 1, ((1 + l : Nat) : Int), (((i + 16) / 16 : Nat) : Int), ((1 + l + (i + 16) / 16 : Nat) : Int), (((b + 8191) / 8192 : Nat) : Int), ((1 + l + (i + 16) / 16 + (b + 8191) / 8192 : Nat) : Int)⟩
def lay0 : Lay := ⟨0, 0, 0, 0, 0, 0, 0, 0, 0⟩
theorem sizeLay : (Tryz.prog.info? 52).map (·.size) = some 9 := by kernel_rfl
theorem zeroLay : ∀ w, (zeroValue 52).run Tryz.prog w = .ok (.agg (layRow lay0)) w := (zero_of_info (show (Tryz.prog.info? 52).map (fun i => (i.zero, i.size)) = some (some (.agg (layRow lay0)), 9) by kernel_rfl)).1
theorem lay_info (y : Lay) : (Tryz.prog.info? 52).map (·.size) = some (layRow y).size := sizeLay
theorem lay_two (y z : Lay) : (layRow y).size = (layRow z).size := rfl
theorem lay_one (y : Lay) : (layRow y).all (·.oneCell') = true := by simp [layRow, Value.oneCell']
def geoRow (b l i : Int) : Array Value := #[.int .i64 b, .int .i64 l, .int .i64 i]
theorem geo_info (b l i : Int) : (Tryz.prog.info? 26).map (·.size) = some (geoRow b l i).size := by show _ = some 3; kernel_rfl
/-- The number in a cell. -/
def numAt (w : World) (g j : Nat) : Int := match w.cell? ⟨g, j, none⟩ with
  | some (.int _ x) => x
  | _ => 0
theorem numAt_eq {w : World} {g j : Nat} {k : IntKind} {x : Int} (h : w.cell? ⟨g, j, none⟩ = some (.int k x)) : numAt w g j = x := by unfold numAt; rw [h]
structure OfS (w W : World) (b l i : Int) (y : Lay) : Prop where
  geo : W.heap[w.heap.size]? = some (.cells (geoRow b l i) 26)
  res : W.heap[w.heap.size + 1]? = some (.cells (layRow lay0) 52)
  lay : W.heap[w.heap.size + 2]? = some (.cells (layRow y) 52)
  bel : Below w.heap.size w W
theorem OfS.set {w W : World} {b l i : Int} {y : Lay} (h : OfS w W b l i y) (j : Nat) (x : Int) (z : Lay) (hz : (layRow y).setIfInBounds j (.int .i64 x) = layRow z) : OfS w (W.setCell ⟨w.heap.size + 2, j, none⟩ (.int .i64 x)) b l i z := by
  have hF := Fr.setCell W (w.heap.size + 2) j (.int .i64 x)
  refine ⟨(hF.block _ (Array.getElem?_eq_some_iff.1 h.geo).1 (by omega)).trans h.geo, (hF.block _ (Array.getElem?_eq_some_iff.1 h.res).1 (by omega)).trans h.res, ?_, h.bel.trans (hF.below (fun j q => by omega) h.bel.size)⟩
  rw [heap_setCell_same _ _ _ _ _ _ h.lay, hz]
theorem wpList_buildLay {ops : Array Oper} {rest : List Oper} {o : Oper} {a : Act} {w : World} {Q : Exit → Act → World → Prop} (hw : Region.wanted o (yielded ops a.tmps) = true) (x0 x2 : Operand) (ho : o.op = .build 52 #[(0, x0), (1, .const (.int .i64 1)), (2, x2)]) (b l i q : Int)
    (h0 : a.eval x0 = .agg (geoRow b l i)) (h2 : a.eval x2 = .int .i64 q)
    (h : wpList Tryz.prog ops Q rest (a.put o.dst (.agg (layRow ⟨b, l, i, 1, q, 0, 0, 0, 0⟩))) w) : wpList Tryz.prog ops Q (o :: rest) a w := by
  unfold wpList
  rw [if_pos hw]
  refine .inl ?_
  have z := zeroLay w
  have hc : a.eval (.const (.int .i64 1)) = .int .i64 1 := rfl
  have e : (execOp a.eval o).run Tryz.prog w = .ok (.value (.agg (layRow ⟨b, l, i, 1, q, 0, 0, 0, 0⟩))) w := by
    unfold layRow lay0 at z
    unfold layRow
    unfold geoRow at h0
    generalize a.eval = E at *
    unfold execOp
    simp only [ho]
    simp [go_sem, h0, h2, hc, z]
  unfold Oper.wp
  rw [e]
  exact h
set_option maxRecDepth 20000 in
set_option maxHeartbeats 4000000 in
theorem of03_ok {b l i : Nat} (h : GeoOk b l i) (w : World) :
    Calls Tryz.prog 27 #[.agg (geoRow b l i)] w fun e w' => e = .returned (.tuple #[.agg (layRow (layOf b l i)), .int .i64 0]) ∧ Below w.heap.size w w' := by
  have z := zeroLay
  obtain ⟨h1, h2, h3, h4, h5, h6, h7⟩ := h
  obtain ⟨A, hA⟩ : ∃ A, A = (w.alloc (.cells (geoRow b l i) 26)).alloc (.cells (layRow lay0) 52) := ⟨_, rfl⟩
  have hbA : Below w.heap.size w A := by rw [hA]; exact below_next (below_new _ _) (below_new _ _)
  have hgA : A.heap[w.heap.size]? = some (.cells (geoRow b l i) 26) := by rw [hA]; exact heap_kept (heap_alloc_new _ _) (below_new _ _)
  have hrA : A.heap[w.heap.size + 1]? = some (.cells (layRow lay0) 52) := by rw [hA]; exact heap_two _ _ _
  have hsA : A.heap.size = w.heap.size + 2 := by rw [hA]; simp
  have c0 : A.cell? ⟨w.heap.size, 0, none⟩ = some (.int .i64 (b : Int)) := Joins.cell_of_block hgA 0
  have c1 : A.cell? ⟨w.heap.size, 1, none⟩ = some (.int .i64 (l : Int)) := Joins.cell_of_block hgA 1
  have c2 : A.cell? ⟨w.heap.size, 2, none⟩ = some (.int .i64 (i : Int)) := Joins.cell_of_block hgA 2
  have e1 : IntKind.i64.wrap (1 + (l : Int)) = ((1 + l : Nat) : Int) := by rw [IntKind.wrap_i64]; omega
  have HOf : Hid (OfS w (A.alloc (.cells (layRow ⟨b, l, i, 1, ((1 + l : Nat) : Int), 0, 0, 0, 0⟩) 52)) b l i ⟨b, l, i, 1, ((1 + l : Nat) : Int), ((0 : Nat) : Int), 0, ((0 : Nat) : Int), 0⟩) :=
    ⟨heap_kept hgA (below_new _ _), heap_kept hrA (below_new _ _), by rw [← hsA]; exact heap_alloc_new _ _, below_next hbA (below_new _ _)⟩
  have HA : Hid (A = _) := hA
  have HsA : Hid (A.heap.size = _) := hsA
  have HgA : Hid _ := hgA
  clear hA hsA hgA hrA hbA
  have t1 : decide ((l : Int) < 32) = false := decide_eq_false (by omega)
  have t2 : decide ((256 : Int) < (l : Int)) = false := decide_eq_false (by omega)
  have t3 : decide ((i : Int) < 1) = false := decide_eq_false (by omega)
  have t4 : decide ((65535 : Int) < (i : Int)) = false := decide_eq_false (by omega)
  have t5 : decide ((1048576 : Int) < (b : Int)) = false := decide_eq_false (by omega)
  have t6 : decide ((b : Int) < 1) = false := decide_eq_false (by omega)
  have t1' : decide (l < 32) = false := decide_eq_false (by omega)
  have t2' : decide (256 < l) = false := decide_eq_false (by omega)
  have t3' : decide (i < 1) = false := decide_eq_false (by omega)
  have t4' : decide (65535 < i) = false := decide_eq_false (by omega)
  have t5' : decide (1048576 < b) = false := decide_eq_false (by omega)
  have t6' : decide (b < 1) = false := decide_eq_false (by omega)
  go_enter Tryz.func27, Tryz.ntmps27
  go_upto_region 1 with fail
  rw [← HA.out]
  go_wp2_with (first | (with_reducible refine isLoadR 26 ?_; refine wpList_ldR 26 Tryz.underlying26 rfl rfl (.tmp 1) rfl w.heap.size rfl (geoRow b l i) 26 (0, 0) (geo_info _ _ _) HgA.out ?_) | (with_reducible refine isBuildR 52 ?_; refine wpList_buildLay rfl (.tmp 34) (.tmp 37) rfl b l i ((1 + l : Nat) : Int) rfl rfl ?_) | (with_reducible refine isStoreR 52 ?_; refine wpList_stNew 52 rfl (.tmp 4) (.tmp 38) rfl A.heap.size (layRow ⟨b, l, i, 1, ((1 + l : Nat) : Int), 0, 0, 0, 0⟩) (layRow lay0) 52 (lay_info _) (lay_two _ _) (lay_one _) rfl rfl rfl ?_))
  rw [HsA.out]
  generalize A.alloc (.cells (layRow ⟨b, l, i, 1, ((1 + l : Nat) : Int), 0, 0, 0, 0⟩) 52) = V at *
  clear HA HsA HgA t1 t2 t3 t4 t5 t6 t1' t2' t3' t4' t5' t6' c0 c1 c2 e1
  simp only [Act.put]
  go_loopw [45] (fun _ wx => ∃ k : Nat, k ≤ (i + 16) / 16 ∧ Hid (OfS w wx b l i ⟨b, l, i, 1, ((1 + l : Nat) : Int), (k : Int), 0, ((0 : Nat) : Int), 0⟩)) (fun _ wx => (i + 16) / 16 - (numAt wx (w.heap.size + 2) 5).toNat)
  case atStart => exact ⟨0, by omega, HOf.out⟩
  case round =>
    clear HOf
    obtain ⟨k, hk, HOf⟩ := hrel
    have d2 : wr.cell? ⟨w.heap.size, 2, none⟩ = some (.int .i64 (i : Int)) := Joins.cell_of_block HOf.out.geo 2
    have d5 : wr.cell? ⟨w.heap.size + 2, 5, none⟩ = some (.int .i64 (k : Int)) := Joins.cell_of_block HOf.out.lay 5
    have e2 : IntKind.i64.wrap (16 * (k : Int)) = 16 * (k : Int) := by rw [IntKind.wrap_i64]; omega
    have e3 : IntKind.i64.wrap ((i : Int) + 1) = (i : Int) + 1 := by rw [IntKind.wrap_i64]; omega
    by_cases hkl : 16 * (k : Int) < (i : Int) + 1
    · have f5 := frozen_row HOf.out.lay 5
      have e4 : IntKind.i64.wrap ((k : Int) + 1) = ((k + 1 : Nat) : Int) := by rw [IntKind.wrap_i64]; omega
      have HO2 : Hid (OfS w (wr.setCell ⟨w.heap.size + 2, 5, none⟩ (.int .i64 ((k + 1 : Nat) : Int))) b l i ⟨b, l, i, 1, ((1 + l : Nat) : Int), ((k + 1 : Nat) : Int), 0, ((0 : Nat) : Int), 0⟩) := HOf.out.set 5 _ _ rfl
      have HM1 : Hid (numAt wr (w.heap.size + 2) 5 = (k : Int)) := numAt_eq d5
      have HM2 : Hid (numAt (wr.setCell ⟨w.heap.size + 2, 5, none⟩ (.int .i64 ((k + 1 : Nat) : Int))) (w.heap.size + 2) 5 = ((k + 1 : Nat) : Int)) := numAt_eq (Joins.cell_of_block HO2.out.lay 5)
      have g1 : decide (16 * (k : Int) < (i : Int) + 1) = true := decide_eq_true hkl
      have e5 : (k : Int) + 1 = ((k + 1 : Nat) : Int) := by omega
      clear HOf
      generalize hkk : k + 1 = k' at *
      go_wp2
      exact ⟨⟨k', by omega, HO2.out⟩, by rw [HM1.out, HM2.out]; omega⟩
    · have g1 : decide (16 * (k : Int) < (i : Int) + 1) = false := decide_eq_false hkl
      obtain rfl : k = (i + 16) / 16 := by omega
      obtain ⟨nb, hnb⟩ : ∃ nb, (i + 16) / 16 = nb := ⟨_, rfl⟩
      have HNb : Hid ((i + 16) / 16 = nb) := hnb
      rw [hnb] at d5 e2 g1 HOf hkl h7
      have hnb1 : nb ≤ 5000 := by omega
      clear hk hnb
      have d4 : wr.cell? ⟨w.heap.size + 2, 4, none⟩ = some (.int .i64 ((1 + l : Nat) : Int)) := Joins.cell_of_block HOf.out.lay 4
      have d6 : wr.cell? ⟨w.heap.size + 2, 6, none⟩ = some (.int .i64 0) := Joins.cell_of_block HOf.out.lay 6
      have f6 := frozen_row HOf.out.lay 6
      have e6 : IntKind.i64.wrap (((1 + l : Nat) : Int) + (nb : Int)) = ((1 + l + nb : Nat) : Int) := by rw [IntKind.wrap_i64]; omega
      have e6' : ((1 + l : Nat) : Int) + (nb : Int) = ((1 + l + nb : Nat) : Int) := by omega
      have HO2 : Hid (OfS w (wr.setCell ⟨w.heap.size + 2, 6, none⟩ (.int .i64 ((1 + l + nb : Nat) : Int))) b l i ⟨b, l, i, 1, ((1 + l : Nat) : Int), (nb : Int), ((1 + l + nb : Nat) : Int), ((0 : Nat) : Int), 0⟩) := HOf.out.set 6 _ _ rfl
      clear HOf
      obtain ⟨ba, hba⟩ : ∃ ba, 1 + l + nb = ba := ⟨_, rfl⟩
      obtain ⟨na, hna⟩ : ∃ na, 1 + l = na := ⟨_, rfl⟩
      have HBa : Hid (1 + l + nb = ba) := hba
      have HNa : Hid (1 + l = na) := hna
      rw [hba] at e6 e6' HO2 h7
      rw [hna] at e6 e6' HO2 d4
      clear hba hna
      go_wp2
      generalize wr.setCell ⟨w.heap.size + 2, 6, none⟩ (.int .i64 (ba : Int)) = V2 at *
      clear d2 d5 d4 d6 f6 e6 e6' e2 e3 g1
      go_loopw [61] (fun _ wx => ∃ k : Nat, k ≤ (b + 8191) / 8192 ∧ Hid (OfS w wx b l i ⟨b, l, i, 1, (na : Int), (nb : Int), (ba : Int), (k : Int), 0⟩)) (fun _ wx => (b + 8191) / 8192 - (numAt wx (w.heap.size + 2) 7).toNat)
      case atStart => exact ⟨0, by omega, HO2.out⟩
      case round =>
        clear HO2
        obtain ⟨k, hk, HOf⟩ := hrel
        have d0 : wr.cell? ⟨w.heap.size, 0, none⟩ = some (.int .i64 (b : Int)) := Joins.cell_of_block HOf.out.geo 0
        have d7 : wr.cell? ⟨w.heap.size + 2, 7, none⟩ = some (.int .i64 (k : Int)) := Joins.cell_of_block HOf.out.lay 7
        have e2 : IntKind.i64.wrap (8192 * (k : Int)) = 8192 * (k : Int) := by rw [IntKind.wrap_i64]; omega
        by_cases hkb : 8192 * (k : Int) < (b : Int)
        · have f7 := frozen_row HOf.out.lay 7
          have e4 : IntKind.i64.wrap ((k : Int) + 1) = ((k + 1 : Nat) : Int) := by rw [IntKind.wrap_i64]; omega
          have e5 : (k : Int) + 1 = ((k + 1 : Nat) : Int) := by omega
          have HO2 : Hid (OfS w (wr.setCell ⟨w.heap.size + 2, 7, none⟩ (.int .i64 ((k + 1 : Nat) : Int))) b l i ⟨b, l, i, 1, (na : Int), (nb : Int), (ba : Int), ((k + 1 : Nat) : Int), 0⟩) := HOf.out.set 7 _ _ rfl
          have HM1 : Hid (numAt wr (w.heap.size + 2) 7 = (k : Int)) := numAt_eq d7
          have HM2 : Hid (numAt (wr.setCell ⟨w.heap.size + 2, 7, none⟩ (.int .i64 ((k + 1 : Nat) : Int))) (w.heap.size + 2) 7 = ((k + 1 : Nat) : Int)) := numAt_eq (Joins.cell_of_block HO2.out.lay 7)
          have g1 : decide (8192 * (k : Int) < (b : Int)) = true := decide_eq_true hkb
          clear HOf
          generalize hkk : k + 1 = k' at *
          go_wp2
          exact ⟨⟨k', by omega, HO2.out⟩, by rw [HM1.out, HM2.out]; omega⟩
        · have g1 : decide (8192 * (k : Int) < (b : Int)) = false := decide_eq_false hkb
          obtain rfl : k = (b + 8191) / 8192 := by omega
          obtain ⟨bb, hbb⟩ : ∃ bb, (b + 8191) / 8192 = bb := ⟨_, rfl⟩
          have HBb : Hid ((b + 8191) / 8192 = bb) := hbb
          rw [hbb] at d7 e2 g1 HOf hkb h7
          have hbb1 : bb ≤ 5000 := by omega
          clear hk hbb
          have d6 : wr.cell? ⟨w.heap.size + 2, 6, none⟩ = some (.int .i64 (ba : Int)) := Joins.cell_of_block HOf.out.lay 6
          have d8 : wr.cell? ⟨w.heap.size + 2, 8, none⟩ = some (.int .i64 0) := Joins.cell_of_block HOf.out.lay 8
          have f8 := frozen_row HOf.out.lay 8
          have e6 : IntKind.i64.wrap ((ba : Int) + (bb : Int)) = ((ba + bb : Nat) : Int) := by rw [IntKind.wrap_i64]; omega
          have e6' : (ba : Int) + (bb : Int) = ((ba + bb : Nat) : Int) := by omega
          have HO2 : Hid (OfS w (wr.setCell ⟨w.heap.size + 2, 8, none⟩ (.int .i64 ((ba + bb : Nat) : Int))) b l i ⟨b, l, i, 1, (na : Int), (nb : Int), (ba : Int), (bb : Int), ((ba + bb : Nat) : Int)⟩) := HOf.out.set 8 _ _ rfl
          have HY : Hid (layOf b l i = ⟨b, l, i, 1, (na : Int), (nb : Int), (ba : Int), (bb : Int), ((ba + bb : Nat) : Int)⟩) := by
            show _ = _
            unfold layOf
            rw [HNb.out, HBb.out, HBa.out, HNa.out]
          have hda : ba + bb < b := by have := HBa.out; omega
          clear HOf h7
          generalize ba + bb = da at *
          have g2 : decide ((b : Int) ≤ (da : Int)) = false := decide_eq_false (by omega)
          have g2' : decide (b ≤ da) = false := decide_eq_false (by omega)
          go_upto_region 10 with fail
          generalize wr.setCell ⟨w.heap.size + 2, 8, none⟩ (.int .i64 (da : Int)) = V3 at *
          clear d0 d7 e2 g1 d6 d8 f8 e6 e6'
          have d0 : V3.cell? ⟨w.heap.size, 0, none⟩ = some (.int .i64 (b : Int)) := Joins.cell_of_block HO2.out.geo 0
          have d8 : V3.cell? ⟨w.heap.size + 2, 8, none⟩ = some (.int .i64 (da : Int)) := Joins.cell_of_block HO2.out.lay 8
          have HOl : Hid _ := HO2.out.lay
          have HOr : Hid _ := HO2.out.res
          go_wp2_with (first | (with_reducible refine isLoadR 52 ?_; refine wpList_ldR 52 Tryz.underlying52 rfl rfl (.tmp 4) rfl (w.heap.size + 2) rfl (layRow ⟨b, l, i, 1, (na : Int), (nb : Int), (ba : Int), (bb : Int), (da : Int)⟩) 52 (0, 0) (lay_info _) HOl.out ?_) | (with_reducible refine isStoreR 52 ?_; refine wpList_stR 52 rfl (.tmp 2) (.tmp 78) rfl (w.heap.size + 1) (layRow ⟨b, l, i, 1, (na : Int), (nb : Int), (ba : Int), (bb : Int), (da : Int)⟩) (layRow lay0) 52 (lay_info _) (lay_two _ _) (lay_one _) rfl rfl HOr.out ?_))
          rw [HY.out]
          exact retCTA Tryz.underlying52 rfl rfl (w.heap.size + 1) _ 52 (lay_info _) rfl (setRow_heap _ _ _ _ _ _ HOr.out) rfl ⟨rfl, HO2.out.bel.trans ((Fr.setRow V3 (w.heap.size + 1) _).below (fun j q => by omega) HO2.out.bel.size)⟩
end Go.Proofs.YtlcdpmjdnihocaaGreat
/- A layout that fits; its superblock; the document's own words. -/
namespace Go.Proofs.YtlcdpmjdnihocaaGreat
open Go.RowKit Go.Maps
set_option maxRecDepth 20000 in
theorem eqLay (y : Lay) : ∀ w, (Op.equalIn 10000 52 (.agg (layRow y)) (.agg (layRow y))).run Tryz.prog w = .ok true w := by
  intro w
  unfold layRow
  simp [go_sem]
set_option maxRecDepth 20000 in
set_option maxHeartbeats 1000000 in
theorem fits03_ok {b l i : Nat} (h : GeoOk b l i) (w : World) :
    Calls Tryz.prog 70 #[.agg (layRow (layOf b l i))] w fun e w' => e = .returned (.bool true) ∧ Below w.heap.size w w' := by
  have z := zeroLay
  have hX := heap_alloc_new w (.cells (layRow (layOf b l i)) 52)
  have HB : Hid _ := below_new w (.cells (layRow (layOf b l i)) 52)
  have hof := of03_ok h (w.alloc (.cells (layRow (layOf b l i)) 52))
  have HE : Hid _ := eqLay (layOf b l i)
  have c0 : (w.alloc (.cells (layRow (layOf b l i)) 52)).cell? ⟨w.heap.size, 0, none⟩ = some (.int .i64 (b : Int)) := Joins.cell_of_block hX 0
  have c1 : (w.alloc (.cells (layRow (layOf b l i)) 52)).cell? ⟨w.heap.size, 1, none⟩ = some (.int .i64 (l : Int)) := Joins.cell_of_block hX 1
  have c2 : (w.alloc (.cells (layRow (layOf b l i)) 52)).cell? ⟨w.heap.size, 2, none⟩ = some (.int .i64 (i : Int)) := Joins.cell_of_block hX 2
  have HX : Hid _ := hX
  clear hX h
  generalize layOf b l i = y at *
  unfold geoRow at hof
  go_enter Tryz.func70, Tryz.ntmps70
  go_upto_region 1 with fail
  generalize w.alloc (.cells (layRow y) 52) = V at *
  go_wp2_with (first | (go_at_call 27; fail))
  refine hof.mono ?_
  rintro e W1 ⟨rfl, hb⟩
  have HX1 : Hid _ := heap_kept (heap_kept HX.out hb) (below_new W1 (.cells (layRow y) 52))
  have HX2 : Hid _ := heap_alloc_new W1 (.cells (layRow y) 52)
  have HB1 : Hid (Below w.heap.size w (W1.alloc (.cells (layRow y) 52))) := below_next (below_next HB.out hb) (below_new _ _)
  clear hof hb HX HB c0 c1 c2
  go_upto_region 2 with (first | (with_reducible refine isStoreR 52 ?_; refine wpList_stNew 52 rfl (.tmp 3) (.tmp 9) rfl W1.heap.size (layRow y) (layRow lay0) 52 (lay_info _) (lay_two _ _) (lay_one _) rfl rfl rfl ?_))
  generalize W1.alloc (.cells (layRow y) 52) = X at *
  generalize W1.heap.size = gx at *
  have heq := HE.out
  go_wp2_with (first | (with_reducible refine isLoadR 52 ?_; refine wpList_ldR 52 Tryz.underlying52 rfl rfl (.tmp 3) rfl gx rfl (layRow y) 52 (0, 0) (lay_info _) HX2.out ?_) | (with_reducible refine isLoadR 52 ?_; refine wpList_ldR 52 Tryz.underlying52 rfl rfl (.tmp 1) rfl w.heap.size rfl (layRow y) 52 (0, 0) (lay_info _) HX1.out ?_))
  go_ret
  exact ⟨rfl, HB1.out⟩
end Go.Proofs.YtlcdpmjdnihocaaGreat
/- A layout's superblock, written; the document's own words. -/
namespace Go.Proofs.YtlcdpmjdnihocaaGreat
open Go.RowKit Go.Maps
theorem sizeN9 : (Tryz.prog.info? 124).map (·.size) = some 9 := by kernel_rfl
theorem zeroN9 : ∀ w, (zeroValue 124).run Tryz.prog w = .ok (.agg (layRow lay0)) w := (zero_of_info (show (Tryz.prog.info? 124).map (fun i => (i.zero, i.size)) = some (some (.agg (layRow lay0)), 9) by kernel_rfl)).1
theorem n9_info (y : Lay) : (Tryz.prog.info? 124).map (·.size) = some (layRow y).size := sizeN9
set_option maxRecDepth 20000 in
set_option maxHeartbeats 1000000 in
theorem numbers03_any (y : Lay) (w : World) : Calls Tryz.prog 71 #[.agg (layRow y)] w fun e w' => e = .returned (.agg (layRow y)) ∧ Below w.heap.size w w' := by
  have z := zeroN9
  obtain ⟨A, hA⟩ : ∃ A, A = (w.alloc (.cells (layRow y) 52)).alloc (.cells (layRow lay0) 124) := ⟨_, rfl⟩
  have hx : A.heap[w.heap.size]? = some (.cells (layRow y) 52) := by rw [hA]; exact heap_kept (heap_alloc_new _ _) (below_new _ _)
  have HR : Hid (A.heap[w.heap.size + 1]? = some (.cells (layRow lay0) 124)) := by rw [hA]; exact heap_two _ _ _
  have HB : Hid (Below w.heap.size w A) := by rw [hA]; exact below_next (below_new _ _) (below_new _ _)
  have c0 : A.cell? ⟨w.heap.size, 0, none⟩ = some (.int .i64 y.b) := Joins.cell_of_block hx 0
  have c1 : A.cell? ⟨w.heap.size, 1, none⟩ = some (.int .i64 y.l) := Joins.cell_of_block hx 1
  have c2 : A.cell? ⟨w.heap.size, 2, none⟩ = some (.int .i64 y.i) := Joins.cell_of_block hx 2
  have c3 : A.cell? ⟨w.heap.size, 3, none⟩ = some (.int .i64 y.logAt) := Joins.cell_of_block hx 3
  have c4 : A.cell? ⟨w.heap.size, 4, none⟩ = some (.int .i64 y.nodeAt) := Joins.cell_of_block hx 4
  have c5 : A.cell? ⟨w.heap.size, 5, none⟩ = some (.int .i64 y.nodeBlocks) := Joins.cell_of_block hx 5
  have c6 : A.cell? ⟨w.heap.size, 6, none⟩ = some (.int .i64 y.bitsAt) := Joins.cell_of_block hx 6
  have c7 : A.cell? ⟨w.heap.size, 7, none⟩ = some (.int .i64 y.bitsBlocks) := Joins.cell_of_block hx 7
  have c8 : A.cell? ⟨w.heap.size, 8, none⟩ = some (.int .i64 y.dataAt) := Joins.cell_of_block hx 8
  have HA : Hid (A = _) := hA
  clear hA hx
  have HbR : Hid (∀ (E : Operand → Value) (u : World), (Instr.build 124 #[(0, .int .i64 y.b), (1, .int .i64 y.l), (2, .int .i64 y.i), (3, .int .i64 y.logAt), (4, .int .i64 y.nodeAt), (5, .int .i64 y.nodeBlocks), (6, .int .i64 y.bitsAt), (7, .int .i64 y.bitsBlocks), (8, .int .i64 y.dataAt)]).run Tryz.prog u = .ok (.agg (layRow y)) u) := fun _ u => by
    have z1 := zeroN9 u
    unfold layRow lay0 at z1
    unfold layRow
    simp [go_sem, z1]
  go_enter Tryz.func71, Tryz.ntmps71
  go_upto_region 1 with fail
  rw [← HA.out]
  clear HA
  have hbr := HbR.out (fun _ => undef)
  have HOr := HR.out
  clear HbR HR z
  go_wp2_with (first | (with_reducible refine isStoreR 124 ?_; refine wpList_stR 124 rfl (.tmp 2) (.tmp 24) rfl (w.heap.size + 1) (layRow y) (layRow lay0) 124 (n9_info _) (lay_two _ _) (lay_one _) rfl rfl HOr ?_))
  exact retR Tryz.underlying124 rfl rfl (w.heap.size + 1) (layRow y) 124 (n9_info _) rfl (setRow_heap _ _ _ _ _ _ HOr) rfl ⟨rfl, HB.out.trans ((Fr.setRow A (w.heap.size + 1) _).below (fun j q => by omega) HB.out.size)⟩
/-- A layout's numbers in their order. -/
def numL (y : Lay) : Nat → Int
  | 0 => y.b
  | 1 => y.l
  | 2 => y.i
  | 3 => y.logAt
  | 4 => y.nodeAt
  | 5 => y.nodeBlocks
  | 6 => y.bitsAt
  | 7 => y.bitsBlocks
  | 8 => y.dataAt
  | _ => 0
theorem layRow_get (y : Lay) (i : Nat) (h : i < 9) : (layRow y)[i]? = some (.int .i64 (numL y i)) := by
  rcases (show i = 0 ∨ i = 1 ∨ i = 2 ∨ i = 3 ∨ i = 4 ∨ i = 5 ∨ i = 6 ∨ i = 7 ∨ i = 8 by omega) with rfl | rfl | rfl | rfl | rfl | rfl | rfl | rfl | rfl <;> rfl
def magicB : Nat → Int
  | 0 => 99
  | 1 => 114
  | 2 => 111
  | 3 => 102
  | 4 => 116
  | 5 => 102
  | 6 => 115
  | 7 => 49
  | _ => 0
/-- The bytes of a superblock. -/
def supP (y : Lay) : Nat → Int := fun j => if j < 8 then magicB j else if j < 44 then numL y ((j - 8) / 4) / 256 ^ ((j - 8) % 4) % 256 else 0
def supK (y : Lay) (m : Nat) : Nat → Int := fun j => if j < m then supP y j else 0
theorem supK_zero (y : Lay) : supK y 0 = nought := by funext j; unfold supK; rw [if_neg (by omega)]; rfl
theorem supK_step (y : Lay) (m : Nat) : updN (supK y m) m (supP y m) = supK y (m + 1) := by
  funext j
  unfold updN supK
  by_cases e : j = m
  · rw [if_pos e, if_pos (by omega), e]
  · rw [if_neg e]
    by_cases h : j < m
    · rw [if_pos h, if_pos (by omega)]
    · rw [if_neg h, if_neg (by omega)]
theorem supK_end (y : Lay) : supK y 44 = supP y := by
  funext j
  unfold supK
  split
  · rfl
  · unfold supP
    rw [if_neg (by omega), if_neg (by omega)]
theorem supP_num (y : Lay) (i k : Nat) (hi : i < 9) (hk : k < 4) : supP y (8 + 4 * i + k) = numL y i / 256 ^ k % 256 := by
  unfold supP
  rw [if_neg (by omega), if_pos (by omega), show (8 + 4 * i + k - 8) / 4 = i by omega, show (8 + 4 * i + k - 8) % 4 = k by omega]
theorem supP_mag (y : Lay) (i : Nat) (hi : i < 8) : supP y i = magicB i := by unfold supP; rw [if_pos hi]
structure EnS (w W : World) (y : Lay) (gb : Nat) (m : Nat) : Prop where
  lay : W.heap[w.heap.size]? = some (.cells (layRow y) 52)
  res : W.heap[w.heap.size + 1]? = some (.cells (blk nought) 79)
  row : W.heap[gb]? = some (.cells (blk (supK y m)) 79)
  far : w.heap.size + 1 < gb
  bel : Below w.heap.size w W
theorem EnS.call {w W W' : World} {y : Lay} {gb m : Nat} (h : EnS w W y gb m) (hb : Below W.heap.size W W') : EnS w W' y gb m := ⟨heap_kept h.lay hb, heap_kept h.res hb, heap_kept h.row hb, h.far, below_next h.bel hb⟩
theorem EnS.step {w W : World} {y : Lay} {gb m : Nat} (h : EnS w W y gb m) : EnS w (W.setCell ⟨gb, m, none⟩ (.int .u8 (supP y m))) y gb (m + 1) := by
  have hF := Fr.setCell W gb m (.int .u8 (supP y m))
  refine ⟨(hF.block _ (Array.getElem?_eq_some_iff.1 h.lay).1 (by have := h.far; omega)).trans h.lay, (hF.block _ (Array.getElem?_eq_some_iff.1 h.res).1 (by have := h.far; omega)).trans h.res, ?_, h.far, h.bel.trans (hF.below (fun j q => by have := h.far; omega) h.bel.size)⟩
  have := setCell_rowN (m := 1024) h.row m (supP y m)
  rwa [supK_step] at this
structure EnN (w W : World) (y : Lay) (gb gn : Nat) (m : Nat) : Prop where
  en : EnS w W y gb m
  num : W.heap[gn]? = some (.cells (layRow y) 124)
  ne : gb < gn
theorem EnN.step {w W : World} {y : Lay} {gb gn m : Nat} (h : EnN w W y gb gn m) : EnN w (W.setCell ⟨gb, m, none⟩ (.int .u8 (supP y m))) y gb gn (m + 1) :=
  ⟨h.en.step, ((Fr.setCell W gb m (.int .u8 (supP y m))).block _ (Array.getElem?_eq_some_iff.1 h.num).1 (by have := h.ne; omega)).trans h.num, h.ne⟩
set_option maxRecDepth 20000 in
set_option maxHeartbeats 4000000 in
theorem enc03_ok {b l i : Nat} (h : GeoOk b l i) (w : World) :
    Calls Tryz.prog 47 #[.agg (layRow (layOf b l i))] w fun e w' => e = .returned (.tuple #[.agg (blk (supP (layOf b l i))), .int .i64 0]) ∧ Below w.heap.size w w' := by
  have z := zero77
  have z9 := zeroN9
  obtain ⟨y, hy⟩ : ∃ y, layOf b l i = y := ⟨_, rfl⟩
  have hbd : ∀ j, 0 ≤ numL y j ∧ numL y j ≤ 9223372036854775807 := fun j => by
    rw [← hy]
    obtain ⟨h1, h2, h3, h4, h5, h6, h7⟩ := h
    match j with
    | 0 => show 0 ≤ (b : Int) ∧ (b : Int) ≤ _; omega
    | 1 => show 0 ≤ (l : Int) ∧ (l : Int) ≤ _; omega
    | 2 => show 0 ≤ (i : Int) ∧ (i : Int) ≤ _; omega
    | 3 => show 0 ≤ (1 : Int) ∧ (1 : Int) ≤ _; omega
    | 4 => show 0 ≤ ((1 + l : Nat) : Int) ∧ ((1 + l : Nat) : Int) ≤ _; omega
    | 5 => show 0 ≤ (((i + 16) / 16 : Nat) : Int) ∧ (((i + 16) / 16 : Nat) : Int) ≤ _; omega
    | 6 => show 0 ≤ ((1 + l + (i + 16) / 16 : Nat) : Int) ∧ ((1 + l + (i + 16) / 16 : Nat) : Int) ≤ _; omega
    | 7 => show 0 ≤ (((b + 8191) / 8192 : Nat) : Int) ∧ (((b + 8191) / 8192 : Nat) : Int) ≤ _; omega
    | 8 => show 0 ≤ ((1 + l + (i + 16) / 16 + (b + 8191) / 8192 : Nat) : Int) ∧ ((1 + l + (i + 16) / 16 + (b + 8191) / 8192 : Nat) : Int) ≤ _; omega
    | _ + 9 => show 0 ≤ (0 : Int) ∧ (0 : Int) ≤ _; omega
  have HBd : Hid _ := hbd
  obtain ⟨A, hA⟩ : ∃ A, A = (w.alloc (.cells (layRow y) 52)).alloc (.cells (blk nought) 79) := ⟨_, rfl⟩
  have HX : Hid (A.heap[w.heap.size]? = some (.cells (layRow y) 52)) := by rw [hA]; exact heap_kept (heap_alloc_new _ _) (below_new _ _)
  have HR : Hid (A.heap[w.heap.size + 1]? = some (.cells (blk nought) 79)) := by rw [hA]; exact heap_two _ _ _
  have HB : Hid (Below w.heap.size w A) := by rw [hA]; exact below_next (below_new _ _) (below_new _ _)
  have HsA : Hid (A.heap.size = w.heap.size + 2) := by rw [hA]; show _ = _; simp
  have hfit := fits03_ok h A
  rw [hy] at hfit ⊢
  have HA : Hid (A = _) := hA
  clear hA h hy hbd
  go_enter Tryz.func47, Tryz.ntmps47
  go_upto_region 1 with fail
  rw [← HA.out]
  clear HA
  go_wp2_with (first | (with_reducible refine isLoadR 52 ?_; refine wpList_ldR 52 Tryz.underlying52 rfl rfl (.tmp 1) rfl w.heap.size rfl (layRow y) 52 (0, 0) (lay_info _) HX.out ?_) | (go_at_call 70; fail))
  refine hfit.mono ?_
  rintro e W1 ⟨rfl, hb⟩
  have HE0 : Hid (EnS w (W1.alloc (.cells (blk nought) 79)) y W1.heap.size 0) := by
    have hs := hb.size
    have hs2 := HsA.out
    refine ⟨heap_kept (heap_kept HX.out hb) (below_new _ _), heap_kept (heap_kept HR.out hb) (below_new _ _), ?_, by omega, below_next (below_next HB.out hb) (below_new _ _)⟩
    rw [supK_zero]
    exact heap_alloc_new _ _
  clear hfit hb HX HR HB HsA
  go_wp2
  generalize W1.alloc (.cells (blk nought) 79) = V at *
  generalize W1.heap.size = gb at *
  go_loopw [7] (fun s7 wx => ∃ j : Nat, j ≤ 8 ∧ s7 = .int .i64 j ∧ Hid (EnS w wx y gb j)) (fun s7 _ => 8 - (intOf s7).toNat)
  case atStart => exact ⟨0, by omega, rfl, HE0.out⟩
  case round =>
    clear HE0
    obtain ⟨j, hj, rfl, HE⟩ := hrel
    by_cases hj2 : (j : Int) < 8
    · have cb := cell_rowN (i := j) (m := 1024) HE.out.row (by omega)
      have fb := frozen_row HE.out.row j
      have HE2 : Hid _ := HE.out.step
      rw [supP_mag y j (by omega)] at HE2
      have hr : ∀ u : World, (Instr.index 9 (.string ⟨#[99, 114, 111, 102, 116, 102, 115, 49]⟩) (.int .i64 (j : Int))).run Tryz.prog u = .ok (.int .u8 (magicB j)) u := fun u => by
        rw [run_index_string (P := Tryz.prog) u 9 _ .i64 (j : Int) Tryz.underlying9]
        split
        · rcases (show j = 0 ∨ j = 1 ∨ j = 2 ∨ j = 3 ∨ j = 4 ∨ j = 5 ∨ j = 6 ∨ j = 7 by omega) with rfl | rfl | rfl | rfl | rfl | rfl | rfl | rfl <;> rfl
        · rename_i hn
          exact absurd ⟨by omega, hj2⟩ hn
      generalize supK y j j = old at *
      generalize magicB j = mb at *
      have hj3 : j < 1024 := by omega
      clear HE
      go_wp2
      exact ⟨⟨j + 1, by omega, by go_num, HE2.out⟩, by simp [intOf]; omega⟩
    · obtain rfl : j = 8 := by omega
      have hnum := numbers03_any y wr
      go_wp2_with (first | (with_reducible refine isLoadR 52 ?_; refine wpList_ldR 52 Tryz.underlying52 rfl rfl (.tmp 1) rfl w.heap.size rfl (layRow y) 52 (0, 0) (lay_info _) HE.out.lay ?_) | (go_at_call 71; fail))
      refine hnum.mono ?_
      rintro e W2 ⟨rfl, hb⟩
      have hgb : gb < wr.heap.size := (Array.getElem?_eq_some_iff.1 HE.out.row).1
      have HN0 : Hid (EnN w (W2.alloc (.cells (layRow y) 124)) y gb W2.heap.size (8 + 4 * 0 + 0)) := ⟨(HE.out.call hb).call (below_new _ _), heap_alloc_new _ _, by have := hb.size; omega⟩
      clear hnum hb HE hgb
      go_wp2_with (first | (with_reducible refine isStoreR 124 ?_; refine wpList_stNew 124 rfl (.tmp 8) (.tmp 29) rfl W2.heap.size (layRow y) (layRow lay0) 124 (n9_info _) (lay_two _ _) (lay_one _) rfl rfl rfl ?_))
      generalize W2.alloc (.cells (layRow y) 124) = V2 at *
      generalize W2.heap.size = gn at *
      go_loopw [9, 10, 11] (fun s9 _ _ wx => ∃ i : Nat, i ≤ 9 ∧ s9 = .int .i64 i ∧ Hid (EnN w wx y gb gn (8 + 4 * i + 0))) (fun s9 _ _ _ => 9 - (intOf s9).toNat)
      case atStart => exact ⟨0, by omega, rfl, HN0.out⟩
      case round =>
        clear HN0
        obtain ⟨i, hi, rfl, HN⟩ := hrel
        by_cases hi2 : (i : Int) < 9
        · have cn : wr.cell? ⟨gn, i, none⟩ = some (.int .i64 (numL y i)) := (cell_of_row _ _ i _ _ _ HN.out.num).trans (layRow_get y i (by omega))
          have hi9 : i < 9 := by omega
          have HBi : Hid (0 ≤ numL y i) := (HBd.out i).1
          have HBj : Hid (numL y i ≤ 9223372036854775807) := (HBd.out i).2
          have HSp : Hid (∀ k, k < 4 → supP y (8 + 4 * i + k) = numL y i / 256 ^ k % 256) := fun k hk => supP_num y i k hi9 hk
          generalize hv : numL y i = v at *
          go_wp2
          go_loopw [10, 11] (fun s10 s11 wx => ∃ k : Nat, k ≤ 4 ∧ s11 = .int .i64 k ∧ s10 = .int .i64 (v / 256 ^ k) ∧ Hid (EnN w wx y gb gn (8 + 4 * i + k))) (fun _ s11 _ => 4 - (intOf s11).toNat)
          case atStart => exact ⟨0, by omega, rfl, by simp, HN.out⟩
          case round =>
            clear HN cn
            obtain ⟨k, hk, rfl, rfl, HN⟩ := hrel
            by_cases hk2 : (k : Int) < 4
            · have hk4 : k < 4 := by omega
              have hv0 : 0 ≤ v / 256 ^ k := Int.ediv_nonneg HBi.out (Int.le_of_lt (Int.pow_pos (by decide)))
              have HV : Hid (v / 256 ^ k / 256 = v / 256 ^ (k + 1)) := by
                show _ = _
                rw [Int.ediv_ediv_of_nonneg (Int.le_of_lt (Int.pow_pos (by decide))), Int.pow_succ]
              have HSk : Hid (supP y (8 + 4 * i + k) = v / 256 ^ k % 256) := HSp.out k hk4
              have cb := cell_rowN (i := 8 + 4 * i + k) (m := 1024) HN.out.en.row (by omega)
              have fb := frozen_row HN.out.en.row (8 + 4 * i + k)
              have HN2 : Hid (EnN w (wr.setCell ⟨gb, 8 + 4 * i + k, none⟩ (.int .u8 (supP y (8 + 4 * i + k)))) y gb gn (8 + 4 * i + (k + 1))) := HN.out.step
              rw [HSk.out] at HN2
              have HQ : Hid (v / 256 ^ k ≤ 9223372036854775807) := Int.le_trans (Int.ediv_le_self _ HBi.out) HBj.out
              generalize hq : v / 256 ^ k = q at *
              have e1 : q.tmod 256 = q % 256 := Int.tmod_eq_emod_of_nonneg hv0
              have e2 : IntKind.i64.wrap (q % 256) = q % 256 := by rw [IntKind.wrap_i64]; omega
              have e3 : IntKind.u8.wrap (q % 256) = q % 256 := by rw [IntKind.wrap_u8]; omega
              have e4 : q.tdiv 256 = q / 256 := Int.tdiv_eq_ediv_of_nonneg hv0
              have hqb : q ≤ 9223372036854775807 := HQ.out
              have e8 : IntKind.i64.wrap (q / 256) = q / 256 := by rw [IntKind.wrap_i64]; omega
              have e5 : IntKind.i64.wrap (4 * (i : Int)) = 4 * (i : Int) := by rw [IntKind.wrap_i64]; omega
              have e6 : IntKind.i64.wrap (8 + 4 * (i : Int)) = 8 + 4 * (i : Int) := by rw [IntKind.wrap_i64]; omega
              have e7 : IntKind.i64.wrap (8 + 4 * (i : Int) + (k : Int)) = ((8 + 4 * i + k : Nat) : Int) := by rw [IntKind.wrap_i64]; omega
              have e7' : 8 + 4 * (i : Int) + (k : Int) = ((8 + 4 * i + k : Nat) : Int) := by omega
              have hm : 8 + 4 * i + k < 1024 := by omega
              have HNe : Hid (8 + 4 * i + (k + 1) = 8 + 4 * i + k + 1) := by show _ = _; omega
              rw [HNe.out] at HN2
              clear HN HSk HSp
              generalize hmm : 8 + 4 * i + k = m at *
              generalize supK y m m = old at *
              go_wp2
              exact ⟨⟨k + 1, by omega, by go_num, by rw [HV.out], by rw [HNe.out]; exact HN2.out⟩, by simp [intOf]; omega⟩
            · obtain rfl : k = 4 := by omega
              have HN2 : Hid (EnN w wr y gb gn (8 + 4 * (i + 1) + 0)) := by
                have := HN.out
                rwa [show 8 + 4 * i + 4 = 8 + 4 * (i + 1) + 0 by omega] at this
              clear HN HSp
              generalize v / 256 ^ 4 = q at *
              go_wp2
              exact ⟨⟨i + 1, by omega, by go_num, HN2.out⟩, by simp [intOf]; omega⟩
        · obtain rfl : i = 9 := by omega
          have hrow := HN.out.en.row
          rw [show 8 + 4 * 9 + 0 = 44 from rfl, supK_end] at hrow
          have hres := HN.out.en.res
          have HBe : Hid _ := HN.out.en.bel
          have hx0 := blk_at hrow
          clear HN
          go_wp2_with (first | (with_reducible refine isLoadR 79 ?_; refine wpList_ldB rfl (.tmp 5) rfl gb 0 (supP y) rfl hx0 ?_) | (with_reducible refine isStoreR 79 ?_; refine wpList_stB rfl (.tmp 2) (.tmp 52) rfl (w.heap.size + 1) (supP y) nought 79 rfl rfl hres ?_))
          exact retCTA Tryz.underlying79 rfl rfl (w.heap.size + 1) (blk (supP y)) 79 (by rw [blk_size]; exact size77) rfl (setRow_heap _ _ _ _ _ _ hres) rfl ⟨rfl, HBe.out.trans ((Fr.setRow wr (w.heap.size + 1) _).below (fun j q => by omega) HBe.out.size)⟩
end Go.Proofs.YtlcdpmjdnihocaaGreat
/- Lists of anything that a call makes: gone on with one by one, looked at; lists of at most ten million. -/
namespace Go.Proofs.YtlcdpmjdnihocaaGreat
open Go.RowKit Go.Maps
theorem own_pushF {α : Type} {en : α → List Value} {sz e : Nat} {st : TypeId} {i : TypeInfo} {z : Value} {bytes : Nat} (hr : ∀ x, (en x).length = sz) (h1 : ∀ x, ∀ u ∈ en x, u.oneCell' = true) (ht : Tryz.prog.underlying st = some (.slice e)) (hi : Tryz.prog.info? e = some i) (hz : i.zero = some z) (hsize : i.size = sz) (hby : i.bytes = bytes) (hzs : z.cells.size = sz) (hsz : 0 < sz) (hbb : bytes ≤ 2000)
    {B : Nat} {w : World} {v : Value} {l : List α} (h : w.ownsRow B e sz v l.length (l.flatMap en)) (hB : B ≤ w.heap.size) (hn : l.length ≤ 10000000) (x : α) (ty : TypeId) :
    ∃ v' w', (Builtin.append_ #[st, st] ty #[v, .slice (some ⟨w.heap.size, 0, none⟩) 1 1]).run Tryz.prog (w.alloc (.cells (en x).toArray e)) = .ok v' w' ∧ w'.ownsRow B e sz v' (l ++ [x]).length ((l ++ [x]).flatMap en) ∧ Below B w w' ∧ Fr (fun b => v.ownBlock = some b) w w' := by
  have hnews : ∀ j v, (en x)[j]? = some v → (w.alloc (.cells (en x).toArray e)).cell? ((⟨w.heap.size, 0, none⟩ : Addr).add j) = some v := fun j v hv => by
    rw [Go.WideShapes.add_plain, Nat.zero_add, cell_of_row _ _ j _ e _ (heap_alloc_new w _), List.getElem?_toArray]
    exact hv
  have hbt : ((l.length + 1) + (l.length + 1) / 4 + 192) * bytes ≤ 281474976710656 := by
    have : ((l.length + 1) + (l.length + 1) / 4 + 192) * bytes ≤ 12500194 * 2000 := Nat.mul_le_mul (by omega) hbb
    omega
  obtain ⟨v', w', hrun, ho', hf, _⟩ := append_gen (W := w.alloc (.cells (en x).toArray e)) (v := v) ht hi hz hsize hby hzs hsz (World.ownsRow.alloc h (.cells (en x).toArray e)) (ad := ⟨w.heap.size, 0, none⟩) (m := 1) (c := 1) (news := en x) (by omega) (by rw [hr, Nat.one_mul]) hnews (h1 x) (by unfold maxLen; omega) hbt (by simp only [World.alloc, Array.size_push]; omega) ty
  have hF : Fr (fun b => v.ownBlock = some b) w w' := (Fr.alloc _ w (.cells (en x).toArray e)).trans hf fun _ _ q => q
  refine ⟨v', w', hrun, ?_, hF.below (fun j q => (h.lt j q).1) hB, hF⟩
  rw [List.length_append, List.flatMap_append]
  simpa using ho'
theorem rows_apart {W : World} {B B' e e' sz sz' n n' b : Nat} {x v : Value} {xs ys : List Value} (hne : e' ≠ e) (hx : W.ownsRow B e sz x n xs) (hb : x.ownBlock = some b) (hv : W.ownsRow B' e' sz' v n' ys) : v.ownBlock ≠ some b := fun q => by
  obtain ⟨_, hx⟩ := hx
  obtain ⟨_, hv⟩ := hv
  rcases hx with ⟨rfl, _⟩ | ⟨g1, c1, r1, rfl, _, hg1, _⟩
  · cases hb
  · rcases hv with ⟨rfl, _⟩ | ⟨g2, c2, r2, rfl, _, hg2, _⟩
    · cases q
    · injection hb with hb
      injection q with q
      have e1 : g1 = g2 := by rw [show g1 = b from hb, show g2 = b from q]
      subst e1
      rw [hg1] at hg2
      injection hg2 with hg2
      injection hg2 with _ hg2
      exact hne hg2.symm
theorem own_ne {W : World} {B e sz n g t : Nat} {v : Value} {xs : List Value} {Z : Array Value} (h : W.ownsRow B e sz v n xs) (hg : W.heap[g]? = some (.cells Z t)) (hne : e ≠ t) : v.ownBlock ≠ some g := fun q => by
  obtain ⟨_, h⟩ := h
  rcases h with ⟨rfl, _⟩ | ⟨g1, c1, r1, rfl, _, hg1, _⟩
  · cases q
  · injection q with q
    have q' : g1 = g := q
    subst q'
    rw [hg1] at hg
    injection hg with hg
    injection hg with _ hg
    exact hne hg
theorem wpList_app {ops : Array Oper} {rest : List Oper} {o : Oper} {a : Act} {W W' : World} {v v' : Value} {ad : Addr} {m c : Nat} {st : TypeId} {Q : Exit → Act → World → Prop} (hgd : o.guard = none) (s y : Operand)
    (ho : o.op = .call { callee := .builtin .append, args := #[s, y], argTypes := #[st, st] }) (hs : a.eval s = v) (hx : a.eval y = .slice (some ad) m c)
    (hr : (Builtin.append_ #[st, st] o.type #[v, .slice (some ad) m c]).run Tryz.prog W = .ok v' W') (h : wpList Tryz.prog ops Q rest (a.put o.dst v') W') : wpList Tryz.prog ops Q (o :: rest) a W :=
  wpList_plain hgd fun _ hK => by
    unfold Oper.wp
    rw [exec_push ho hs hx hr]
    exact hK _ _ h
/-- The slice v owns the list l, each element by its cells. -/
def OwnG {α : Type} (en : α → List Value) (e sz : Nat) (w : World) (B : Nat) (v : Value) (l : List α) : Prop := w.ownsRow B e sz v l.length (l.flatMap en)
/-- A list that lies in memory, from the beginning of a block. -/
def LieG {α : Type} (en : α → List Value) (sz : Nat) (w : World) (p : Option Addr) (l : List α) : Prop := 0 < l.length → ∃ g, p = some ⟨g, 0, none⟩ ∧ g < w.heap.size ∧ ∀ (i : Nat) x, l[i]? = some x → ∀ j u, (en x)[j]? = some u → w.cell? ⟨g, i * sz + j, none⟩ = some u
section
variable {α : Type} {en : α → List Value} {e sz : Nat}
theorem OwnG.nil (w : World) (B : Nat) : OwnG en e sz w B (.slice none 0 0) ([] : List α) := World.ownsRow_nil w B e sz
theorem OwnG.later {w W : World} {B : Nat} {v : Value} {l : List α} (h : OwnG en e sz w B v l) (hb : Below w.heap.size w W) : OwnG en e sz W B v l := own_later h hb
theorem OwnG.mono {w : World} {B B' : Nat} {v : Value} {l : List α} (h : OwnG en e sz w B v l) (hb : B' ≤ B) : OwnG en e sz w B' v l := World.ownsRow.mono h hb
theorem OwnG.lie (hr : ∀ x, (en x).length = sz) {w : World} {B : Nat} {v : Value} {l : List α} (h : OwnG en e sz w B v l) : ∃ p c, v = .slice p l.length c ∧ LieG en sz w p l := by
  rcases own_form h with ⟨rfl, h0⟩ | ⟨g, c, rfl, hlt⟩
  · exact ⟨none, 0, by rw [h0], fun q => by omega⟩
  · exact ⟨_, c, rfl, fun _ => ⟨g, rfl, hlt, fun i x hx => own_get hr h hx⟩⟩
theorem LieG.later {w W : World} {p : Option Addr} {l : List α} (h : LieG en sz w p l) (hb : Below w.heap.size w W) : LieG en sz W p l := fun h0 => by
  obtain ⟨g, h1, h2, h3⟩ := h h0
  exact ⟨g, h1, Nat.lt_of_lt_of_le h2 hb.size, fun i x hx j u hu => (hb.cell (p := ⟨g, i * sz + j, none⟩) h2).trans (h3 i x hx j u hu)⟩
end
/-- Pairs of numbers. -/
def pc2 (p : Int × Int) : List Value := [.int .i64 p.1, .int .i64 p.2]
theorem pc2_len (p : Int × Int) : (pc2 p).length = 2 := rfl
theorem pc2_one (p : Int × Int) : ∀ u ∈ pc2 p, u.oneCell' = true := fun u hu => by
  simp [pc2] at hu
  rcases hu with rfl | rfl <;> rfl
end Go.Proofs.YtlcdpmjdnihocaaGreat
/- The numbers of an index block that are not 0, and what an index is mapped to; no condition. -/
namespace Go.Proofs.YtlcdpmjdnihocaaGreat
open Go.RowKit Go.Maps
abbrev OwnS (w : World) (B : Nat) (v : Value) (l : List (Int × Int)) : Prop := OwnG pc2 146 2 w B v l
theorem infoS : (Tryz.prog.info? 146).map (fun i => (i.zero, i.size, i.bytes)) = some (some (.agg #[.int .i64 0, .int .i64 0]), 2, 16) := by kernel_rfl
theorem OwnS.push {w : World} {B : Nat} {v : Value} {l : List (Int × Int)} (h : OwnS w B v l) (hB : B ≤ w.heap.size) (hn : l.length ≤ 10000000) (x y : Int) (ty : TypeId) :
    ∃ v' w', (Builtin.append_ #[112, 112] ty #[v, .slice (some ⟨w.heap.size, 0, none⟩) 1 1]).run Tryz.prog (w.alloc (.cells #[.int .i64 x, .int .i64 y] 146)) = .ok v' w' ∧ OwnS w' B v' (l ++ [(x, y)]) ∧ Below B w w' := by
  obtain ⟨i0, hi0, hz0, hz1, hz2⟩ := info_parts infoS
  obtain ⟨v', w', h1, h2, h3, _⟩ := own_pushF pc2_len pc2_one Tryz.underlying112 hi0 hz0 hz1 hz2 rfl (by omega) (by omega) h hB hn (x, y) ty
  exact ⟨v', w', h1, h2, h3⟩
def underK (f : Nat → Int) (first : Int) (k : Nat) : List (Int × Int) := (List.range k).filterMap fun i => if le4 f i = 0 then none else some (first + i, le4 f i)
def underP (f : Nat → Int) (first : Int) : List (Int × Int) := underK f first 256
theorem underK_len (f : Nat → Int) (first : Int) (k : Nat) : (underK f first k).length ≤ k := by
  unfold underK
  have := List.length_filterMap_le (fun (i : Nat) => if le4 f i = 0 then none else some (first + (i : Int), le4 f i)) (List.range k)
  rwa [List.length_range] at this
theorem underK_zero {f : Nat → Int} {first : Int} {k : Nat} (h : le4 f k = 0) : underK f first (k + 1) = underK f first k := by
  unfold underK
  rw [List.range_succ, List.filterMap_append]
  simp [h]
theorem underK_some {f : Nat → Int} {first : Int} {k : Nat} (h : ¬ le4 f k = 0) : underK f first (k + 1) = underK f first k ++ [(first + (k : Int), le4 f k)] := by
  unfold underK
  rw [List.range_succ, List.filterMap_append]
  simp [h]
set_option maxRecDepth 20000 in
set_option maxHeartbeats 1000000 in
theorem under29_any {w : World} {g : Nat} {n : Int} {l : List Cel} {y : Lay} (h : Aud w g n l y) (b first : Int) (hf : 0 ≤ first ∧ first ≤ 1000000) :
    Calls Tryz.prog 132 #[.pointer (some ⟨g, 0, none⟩), .int .i64 b, .int .i64 first] w fun e w' => ∃ v, e = .returned v ∧ OwnS w' w.heap.size v (underP (atL l b) first) ∧ Below w.heap.size w w' := by
  have z := zero77
  have hc := at29_any h b
  have hbt := h.blk b
  generalize atL l b = f at *
  clear h
  go_enter Tryz.func132, Tryz.ntmps132
  go_wp2_with (first | (go_at_call 90; fail))
  refine hc.mono ?_
  rintro e W1 ⟨rfl, hb1⟩
  have HX : Hid ((W1.alloc (.cells (blk f) 79)).heap[W1.heap.size]? = some (.cells (blk f) 79)) := heap_alloc_new _ _
  have HB : Hid (Below w.heap.size w (W1.alloc (.cells (blk f) 79))) := below_next hb1 (below_new _ _)
  have hs1 := hb1.size
  clear hb1 hc
  go_wp2_with (first | (with_reducible refine isStoreR 79 ?_; refine wpList_stBn rfl (.tmp 8) (.tmp 13) rfl W1.heap.size f nought 79 rfl rfl rfl ?_))
  generalize W1.alloc (.cells (blk f) 79) = V at *
  go_loopw [7, 9] (fun s7 s9 wx => ∃ k : Nat, k ≤ 256 ∧ s9 = .int .i64 k ∧ Hid (OwnS wx V.heap.size s7 (underK f first k)) ∧ Hid (Below V.heap.size V wx)) (fun _ s9 _ => 256 - (intOf s9).toNat)
  case atStart => exact ⟨0, by omega, rfl, OwnG.nil _ _, Below.refl _ _⟩
  case round =>
    obtain ⟨k, hk, rfl, HO, HW⟩ := hrel
    by_cases hk2 : (k : Int) < 256
    · have hx := heap_kept HX.out HW.out
      have hx0 := blk_at hx
      have hnb := number29_any f k wr hbt (by omega)
      have hlb := le4_bound hbt k
      go_wp2_with (first | (with_reducible refine isLoadR 79 ?_; refine wpList_ldB rfl (.tmp 8) rfl W1.heap.size 0 f rfl hx0 ?_) | (go_at_call 133; fail))
      refine hnb.mono ?_
      rintro e W2 ⟨rfl, hb2⟩
      have HW2 : Hid (Below V.heap.size V W2) := below_next HW.out hb2
      have HO2 : Hid (OwnS W2 V.heap.size u7 (underK f first k)) := HO.out.later hb2
      by_cases hz : le4 f k = 0
      · have HE : Hid (underK f first (k + 1) = underK f first k) := underK_zero hz
        rw [hz]
        clear hz hb2 hx hx0 hnb hlb HO HW
        go_wp2
        exact ⟨⟨k + 1, by omega, by go_num, by have := HE.out; rw [this]; exact HO2.out, HW2.out⟩, by simp [intOf]; omega⟩
      · have HE : Hid (underK f first (k + 1) = underK f first k ++ [(first + (k : Int), le4 f k)]) := underK_some hz
        obtain ⟨v', W3, R1, ho3, hb3⟩ := HO2.out.push HW2.out.size (by have := underK_len f first k; omega) (first + (k : Int)) (le4 f k) 112
        have HO3 : Hid (OwnS W3 V.heap.size v' (underK f first (k + 1))) := by have := HE.out; rw [this]; exact ho3
        have HW3 : Hid (Below V.heap.size V W3) := HW2.out.trans hb3
        have e1 : IntKind.i64.wrap (first + (k : Int)) = first + (k : Int) := by rw [IntKind.wrap_i64]; omega
        have gz : (le4 f k == 0) = false := by simp [hz]
        generalize le4 f k = m at *
        clear hz hb2 hx hx0 hnb hlb HO HW ho3 hb3 HO2 HW2 HE
        go_wp2_with (first | (at_builtin; refine wpList_app rfl (.tmp 23) (.tmp 29) rfl rfl rfl R1 ?_))
        exact ⟨⟨k + 1, by omega, by go_num, HO3.out, HW3.out⟩, by simp [intOf]; omega⟩
    · obtain rfl : k = 256 := by omega
      have hs := HB.out.size
      have HO2 : Hid (OwnS wr w.heap.size u7 (underP f first)) := HO.out.mono hs
      have HW2 : Hid (Below w.heap.size w wr) := below_next HB.out HW.out
      clear HO HW hs
      go_wp2
      go_ret
      exact ⟨_, rfl, HO2.out, HW2.out⟩
end Go.Proofs.YtlcdpmjdnihocaaGreat
