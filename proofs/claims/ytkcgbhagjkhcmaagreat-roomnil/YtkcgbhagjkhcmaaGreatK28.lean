/- Several texts joined, each with its own remark; no condition. -/
import Derived.Test.YtkcgbhagjkhcmaaGreatK27
import Derived.Test.YtkcgbhagjkhcmaaGreatQWLRead
import Derived.Test.YtkcgbhagjkhcmaaGreatK1
import Derived.WalkMore
/- What a log that lives tells of its layout; a sheet of the bitmap read. -/
namespace Go.Proofs.YtkcgbhagjkhcmaaGreat
open Go.RowKit Go.Maps
section
variable {w W : World} {g d : Nat} {x : Go.Proofs.YtkcgbhagjkhcmaaGreatW.LSt} {t : Go.Proofs.YtkcgbhagjkhcmaaGreatW.St} {book : Int → Nat → Int} {ks : List (Nat × Obj)}
def layL (x : Go.Proofs.YtkcgbhagjkhcmaaGreatW.LSt) : Lay := ⟨x.b, x.l, x.i, 1, 1 + x.l, Go.Proofs.YtkcgbhagjkhcmaaGreatW.H.nodeB x.i, Go.Proofs.YtkcgbhagjkhcmaaGreatW.H.bitsAt x.l x.i, Go.Proofs.YtkcgbhagjkhcmaaGreatW.H.bitsB x.b, Go.Proofs.YtkcgbhagjkhcmaaGreatW.H.dataAt x.b x.l x.i⟩
def layC (y : Lay) : List Value := [.int .i64 y.b, .int .i64 y.l, .int .i64 y.i, .int .i64 y.logAt, .int .i64 y.nodeAt, .int .i64 y.nodeBlocks, .int .i64 y.bitsAt, .int .i64 y.bitsBlocks, .int .i64 y.dataAt]
theorem layC_row (y : Lay) : (layC y).toArray = layRow y := rfl
theorem layC_info (y : Lay) : (Tryz.prog.info? 49).map (·.size) = some (layC y).length := lay_info y
theorem log_lay {c mb base : Nat} {v : Value} (h : Go.Proofs.YtkcgbhagjkhcmaaGreatW.LogAt W base g d c mb v x) : ∀ j u, (layC (layL x))[j]? = some u → W.cell? ⟨g, 3 + j, none⟩ = some u := fun j u hu => by
  rw [Joins.cell_of_block h.row]
  match j, hu with
  | 0, hu | 1, hu | 2, hu | 3, hu | 4, hu | 5, hu | 6, hu | 7, hu | 8, hu => exact hu
  | j + 9, hu => simp [layC] at hu
set_option maxRecDepth 20000 in
set_option maxHeartbeats 1600000 in
theorem layoutL_ok (h : Go.Proofs.YtkcgbhagjkhcmaaGreatW.LogI w W g d x t book ks) (hc : Go.Proofs.YtkcgbhagjkhcmaaGreatW.chkE x t = 0) : Calls Tryz.prog 33 #[.pointer (some ⟨g, 0, none⟩)] W fun e W' => e = .returned (.agg (layRow (layL x))) ∧ Go.Proofs.YtkcgbhagjkhcmaaGreatW.LogI w W' g d x t book ks := by
  obtain ⟨s, ⟨c, mb, v, os, h⟩, hI⟩ := h
  have zl := zeroLay
  have hksz := h.ksLt
  have hbase := h.sit.below.size
  have hA := h.add (.cells (layRow lay0) 49)
  have hck : Calls Tryz.prog 23 #[.pointer (some ⟨g, 0, none⟩)] (W.alloc (.cells (layRow lay0) 49)) fun e W' => e = .returned (.int .i64 0) ∧ (∀ j u, (layC (layL x))[j]? = some u → W'.cell? ⟨g, 3 + j, none⟩ = some u) ∧ W'.heap[W.heap.size]? = some (.cells (layRow lay0) 49) ∧ Hid (Go.Proofs.YtkcgbhagjkhcmaaGreatW.LogI w (W'.setRow W.heap.size (layRow (layL x))) g d x t book ks) := by
    refine hA.check.mono ?_
    rintro e W' ⟨rfl, m, rfl⟩
    have hB := hA.later (Go.Proofs.YtkcgbhagjkhcmaaGreatW.below_drewN _ m)
    exact ⟨by rw [hc], log_lay hB.log, hB.sit.blk (List.mem_append.2 (.inr (List.mem_cons_self ..))), s, hB.beside (Go.Proofs.YtkcgbhagjkhcmaaGreatW.Fr.setRow _ W.heap.size _) hbase hksz, hI⟩
  clear h hA hI hksz hbase
  generalize layL x = y at *
  go_enter Tryz.func33, Tryz.ntmps33
  go_wp2_with (go_at_call 23; fail)
  refine hck.mono ?_
  rintro e W1 ⟨rfl, hl, hg, HP⟩
  clear hck
  go_wp2_with (first | (with_reducible refine isLoadR 49 ?_; refine wpList_ldMid 49 Tryz.underlying49 rfl rfl (.tmp 9) rfl g 3 (layC y) (layRow y) (layC_row y) (layC_info y) rfl hl ?_) | (with_reducible refine isStoreR 49 ?_; refine wpList_stR 49 rfl (.tmp 2) (.tmp 10) rfl W.heap.size (layRow y) (layRow lay0) 49 (lay_info _) (lay_two _ _) (lay_one _) rfl rfl hg ?_))
  exact retR Tryz.underlying49 rfl rfl W.heap.size _ 49 (lay_info _) rfl (setRow_heap _ _ _ _ _ _ hg) rfl ⟨rfl, HP.out⟩
end
end Go.Proofs.YtkcgbhagjkhcmaaGreat
/- A sheet of the bitmap read: room's own read. -/
namespace Go.Proofs.YtkcgbhagjkhcmaaGreat
open Go.RowKit Go.Maps
def shL (a b : Int) (f : Nat → Int) : List Value := .int .i64 a :: .int .i64 b :: (blk f).toList
def shRow (a b : Int) (f : Nat → Int) : Array Value := (shL a b f).toArray
theorem shRow_size (a b : Int) (f : Nat → Int) : (shRow a b f).size = 1026 := by unfold shRow shL; rw [List.size_toArray, List.length_cons, List.length_cons, Array.length_toList, blk_size]
theorem sh_info (a b : Int) (f : Nat → Int) : (Tryz.prog.info? 78).map (·.size) = some (shRow a b f).size := by rw [shRow_size]; kernel_rfl
theorem zeroSh : ∀ w, (zeroValue 78).run Tryz.prog w = .ok (.agg (shRow 0 0 nought)) w := (zero_of_info (show (Tryz.prog.info? 78).map (fun i => (i.zero, i.size)) = some (some (.agg (shRow 0 0 nought)), 1026) by kernel_rfl)).1
theorem sh_two (a b a' b' : Int) (f f' : Nat → Int) : (shRow a b f).size = (shRow a' b' f').size := by rw [shRow_size, shRow_size]
theorem sh_one (a b : Int) (f : Nat → Int) : (shRow a b f).all (·.oneCell') = true := by
  rw [Array.all_eq_true_iff_forall_mem]
  intro v hv
  unfold shRow shL at hv
  simp only [List.mem_toArray, List.mem_cons, Array.mem_toList_iff] at hv
  rcases hv with rfl | rfl | hv
  · rfl
  · rfl
  · exact Array.all_eq_true_iff_forall_mem.1 (rowN_one _ _ _) v hv
theorem fill_sh (a b : Int) (f : Nat → Int) (Z : Array Value) (hZ : Z.size = 1026) (place : Nat → Option (Nat × Nat)) (h0 : place 0 = some (0, 1)) (h1 : place 1 = some (1, 1)) (h2 : place 2 = some (2, 1024)) :
    Instr.fill place Z [(0, .int .i64 a), (1, .int .i64 b), (2, .agg (blk f))] = some (shRow a b f) := by
  have hb := blk_size f
  have hl : Z.toList.length = 1026 := by rw [Array.length_toList, hZ]
  obtain ⟨z0, z1, r, hz, hr⟩ : ∃ z0 z1 r, Z.toList = z0 :: z1 :: r ∧ r.length = 1024 := by
    match hz : Z.toList with
    | [] => rw [hz, List.length_nil] at hl; omega
    | [z0] => rw [hz] at hl; simp at hl
    | z0 :: z1 :: r => exact ⟨z0, z1, r, rfl, by rw [hz] at hl; simp at hl; omega⟩
  unfold Instr.fill
  rw [h0]
  simp only [Value.cells, List.size_toArray, List.length_cons, List.length_nil, hZ]
  rw [if_neg (by simp)]
  rw [fold_over 0 #[.int .i64 a] Z (by rw [hZ]; simp), hz]
  unfold Instr.fill
  rw [h1]
  simp only [Value.cells, List.size_toArray, List.length_cons, List.length_nil, List.take_zero, List.nil_append, List.drop_succ_cons, List.drop_zero, List.singleton_append, Nat.zero_add]
  rw [if_neg (by simp [hr])]
  rw [fold_over 1 #[.int .i64 b] _ (by simp [hr])]
  unfold Instr.fill
  rw [h2]
  simp only [Value.cells, hb, List.size_toArray, List.length_cons, List.length_nil, List.take_succ_cons, List.take_zero, List.drop_succ_cons, List.drop_zero, List.cons_append, List.nil_append, Nat.reduceAdd]
  rw [if_neg (by simp [hr])]
  rw [fold_over 2 (blk f) _ (by simp [hr, hb])]
  unfold Instr.fill
  simp only [List.take_succ_cons, List.take_zero, hb, Nat.reduceAdd]
  rw [List.drop_eq_nil_of_le (by simp [hr]), List.append_nil]
  rfl
theorem buildSh (a b : Int) (f : Nat → Int) (u : World) : (Instr.build 78 #[(0, .int .i64 a), (1, .int .i64 b), (2, .agg (blk f))]).run Tryz.prog u = .ok (.agg (shRow a b f)) u := by
  have z := zeroSh
  have hZ : (shRow 0 0 nought).size = 1026 := shRow_size _ _ _
  generalize shRow 0 0 nought = Z at *
  have hf := fill_sh a b f Z hZ
  simp [Instr.build, z, run_underlying Tryz.underlying78, Value.cells]
  rw [hf _ rfl rfl rfl]
  simp only [Sem.run_pure]
theorem exec_buildSh {o : Oper} {a : Act} {W : World} {x y u : Operand} {p q : Int} {f : Nat → Int} (ho : o.op = .build 78 #[(0, x), (1, y), (2, u)]) (hx : a.eval x = .int .i64 p) (hy : a.eval y = .int .i64 q) (hu : a.eval u = .agg (blk f)) : (execOp a.eval o).run Tryz.prog W = .ok (.value (.agg (shRow p q f))) W := by
  have e := buildSh p q f W
  generalize shRow p q f = Z at *
  generalize blk f = Y at *
  simp [execOp, ho, hx, hy, hu, e]
end Go.Proofs.YtkcgbhagjkhcmaaGreat
/- A sheet of the bitmap read over a log that lives: room's read and sheetOf. -/
namespace Go.Proofs.YtkcgbhagjkhcmaaGreat
open Go.RowKit Go.Maps
theorem field_bitsAt (y : Lay) (W : World) : (Instr.field 49 (.agg (layRow y)) 4).run Tryz.prog W = .ok (.int .i64 y.bitsAt) W := by kernel_rfl
theorem exec_bitsAt {o : Oper} {a : Act} {W : World} {x : Operand} {y : Lay} (ho : o.op = .field 49 x 4) (hx : a.eval x = .agg (layRow y)) : (execOp a.eval o).run Tryz.prog W = .ok (.value (.int .i64 y.bitsAt)) W := by
  have e := field_bitsAt y W
  unfold execOp
  simp only [ho, hx, e, Sem.run_bind, Result.andThen_ok, Sem.run_pure]
section
variable {ops : Array Oper} {rest : List Oper} {a : Act} {w : World} {Q : Exit → Act → World → Prop} {dst : Option Tmp} {ty : TypeId} {pos : String} {aft : Array Edge} {gd : Option (Nat × Bool)} {x : Operand}
theorem isFdR (t : TypeId) {n : Nat} (h : wpList Tryz.prog ops Q (⟨dst, .field t x n, ty, pos, aft, gd⟩ :: rest) a w) : wpList Tryz.prog ops Q (⟨dst, .field t x n, ty, pos, aft, gd⟩ :: rest) a w := h
end
section
variable {w W : World} {g d : Nat} {x : Go.Proofs.YtkcgbhagjkhcmaaGreatW.LSt} {t : Go.Proofs.YtkcgbhagjkhcmaaGreatW.St} {book : Int → Nat → Int} {ks : List (Nat × Obj)}
theorem logI_beside {W' : World} {q : Nat} {o : Obj} (h : Go.Proofs.YtkcgbhagjkhcmaaGreatW.LogI w W g d x t book ((q, o) :: ks)) (hf : Go.Proofs.YtkcgbhagjkhcmaaGreatW.Fr (fun k => k = q) W W') (hq : w.heap.size ≤ q) (hks : ∀ p ∈ ks, p.1 ≠ q) : Go.Proofs.YtkcgbhagjkhcmaaGreatW.LogI w W' g d x t book ks := by
  obtain ⟨s, ⟨c, mb, v, os, h⟩, hI⟩ := h
  exact ⟨s, h.beside hf hq hks, hI⟩
theorem logI_ks (h : Go.Proofs.YtkcgbhagjkhcmaaGreatW.LogI w W g d x t book ks) : ∀ p ∈ ks, p.1 ≠ W.heap.size := by
  obtain ⟨s, ⟨c, mb, v, os, h⟩, hI⟩ := h
  exact h.ksLt
/-- What a sheet's reading leaves. -/
def ShPost (w : World) (g d : Nat) (x : Go.Proofs.YtkcgbhagjkhcmaaGreatW.LSt) (t : Go.Proofs.YtkcgbhagjkhcmaaGreatW.St) (book : Int → Nat → Int) (ks : List (Nat × Obj)) (R : Array Value) (e : Ending) (W' : World) : Prop :=
  e = .returned (.tuple #[.agg R, .int .i64 0]) ∧ ∃ t', (t' = t ∨ t' = Go.Proofs.YtkcgbhagjkhcmaaGreatW.readS t) ∧ Go.Proofs.YtkcgbhagjkhcmaaGreatW.LogI w W' g d x t' book ks
set_option maxRecDepth 20000 in
set_option maxHeartbeats 1600000 in
theorem readR_ok (h : Go.Proofs.YtkcgbhagjkhcmaaGreatW.LogI w W g d x t book ks) (hc : Go.Proofs.YtkcgbhagjkhcmaaGreatW.chkE x t = 0) (hs : t.stopped = false) (hr : Go.Proofs.YtkcgbhagjkhcmaaGreatW.Room t) (i : Int) (hi : 0 ≤ i ∧ i ≤ 1000) (hba : 0 ≤ Go.Proofs.YtkcgbhagjkhcmaaGreatW.H.bitsAt x.l x.i ∧ Go.Proofs.YtkcgbhagjkhcmaaGreatW.H.bitsAt x.l x.i ≤ 1000000) (hk : Go.Proofs.YtkcgbhagjkhcmaaGreatW.Dat x.b x.l (Go.Proofs.YtkcgbhagjkhcmaaGreatW.H.bitsAt x.l x.i + i)) :
    Calls Tryz.prog 59 #[.pointer (some ⟨g, 0, none⟩), .int .i64 i] W (ShPost w g d x t book ks (shRow (Go.Proofs.YtkcgbhagjkhcmaaGreatW.H.bitsAt x.l x.i + i) (i * 8192) (book (Go.Proofs.YtkcgbhagjkhcmaaGreatW.H.bitsAt x.l x.i + i)))) := by
  have zs := zeroSh
  have zb := zero77
  have HK : Hid _ := logI_ks h
  have HS0 : Hid (w.heap.size ≤ W.heap.size) := (Go.Proofs.YtkcgbhagjkhcmaaGreatW.LogI.below h).size
  have hlay := layoutL_ok (Go.Proofs.YtkcgbhagjkhcmaaGreatW.LogI.add h (.cells (shRow 0 0 nought) 78)) hc
  clear h
  have HRd : Hid (∀ V, Go.Proofs.YtkcgbhagjkhcmaaGreatW.LogI w V g d x t book ((W.heap.size, .cells (shRow 0 0 nought) 78) :: ks) → Calls Tryz.prog 96 #[.pointer (some ⟨g, 0, none⟩), .int .i64 (Go.Proofs.YtkcgbhagjkhcmaaGreatW.H.bitsAt x.l x.i + i)] V (Go.Proofs.YtkcgbhagjkhcmaaGreatW.RdPost w g d x t book ((W.heap.size, .cells (shRow 0 0 nought) 78) :: ks) (book (Go.Proofs.YtkcgbhagjkhcmaaGreatW.H.bitsAt x.l x.i + i)))) := fun V hV => Go.Proofs.YtkcgbhagjkhcmaaGreatW.LogI.read hV hc hk hs hr
  have HyB : Hid ((layL x).bitsAt = Go.Proofs.YtkcgbhagjkhcmaaGreatW.H.bitsAt x.l x.i) := rfl
  generalize hy : layL x = y at *
  clear hy
  generalize Go.Proofs.YtkcgbhagjkhcmaaGreatW.H.bitsAt x.l x.i = ba at *
  generalize book (ba + i) = F at *
  have e1 : IntKind.i64.wrap (ba + i) = ba + i := by rw [IntKind.wrap_i64]; omega
  have e2 : IntKind.i64.wrap (i * 8192) = i * 8192 := by rw [IntKind.wrap_i64]; omega
  clear hc hs hr hk
  go_enter Tryz.func59, Tryz.ntmps59
  go_upto_region 1 with fail
  generalize W.alloc (.cells (shRow 0 0 nought) 78) = V at *
  go_wp2_with (go_at_call 33; fail)
  refine hlay.mono ?_
  rintro e V1 ⟨rfl, hL1⟩
  have hrd := HRd.out V1 hL1
  clear hlay hL1 HRd
  have hyb := HyB.out
  go_wp2_with (first | (with_reducible refine isFdR 49 ?_; refine wpList_ex rfl (v := .int .i64 ba) (by rw [← hyb]; exact exec_bitsAt rfl rfl) ?_) | (go_at_call 96; fail))
  refine hrd.mono ?_
  rintro e V2 ⟨rfl, t', ht', hL2⟩
  rw [blkW]
  have HT : Hid _ := ht'
  have HL3 : Hid _ := Go.Proofs.YtkcgbhagjkhcmaaGreatW.LogI.later hL2 (below_new V2 (.cells (blk F) 76))
  have hbk := blk_at (heap_alloc_new V2 (.cells (blk F) 76))
  clear hrd hL2 ht'
  go_upto_region 3 with (first | (with_reducible refine isStoreR 76 ?_; refine wpList_stNew 76 rfl (.tmp 7) (.tmp 18) rfl V2.heap.size (blk F) (blk nought) 76 (blk_info _) (blk_two _ _) (blk_one _) rfl rfl rfl ?_))
  generalize V2.alloc (.cells (blk F) 76) = V3 at *
  generalize V2.heap.size = gb at *
  have hres := Go.Proofs.YtkcgbhagjkhcmaaGreatW.LogI.obj HL3.out (List.mem_cons_self ..)
  have HL4 : Hid _ := logI_beside HL3.out (Go.Proofs.YtkcgbhagjkhcmaaGreatW.Fr.setRow V3 W.heap.size (shRow (ba + i) (i * 8192) F)) HS0.out HK.out
  clear HL3
  go_wp2_with (first | (with_reducible refine isLoadR 76 ?_; refine wpList_ldB rfl (.tmp 7) rfl gb 0 F rfl hbk ?_) | (with_reducible refine isBuildR 78 ?_; refine wpList_ex rfl (exec_buildSh (p := ba + i) (q := i * 8192) (f := F) rfl rfl rfl rfl) ?_) | (with_reducible refine isStoreR 78 ?_; refine wpList_stR 78 rfl (.tmp 4) (.tmp 28) rfl W.heap.size (shRow (ba + i) (i * 8192) F) (shRow 0 0 nought) 78 (sh_info _ _ _) (sh_two _ _ _ _ _ _) (sh_one _ _ _) rfl rfl hres ?_))
  exact retCT Tryz.underlying78 rfl rfl W.heap.size (shRow (ba + i) (i * 8192) F) 78 (sh_info _ _ _) rfl (setRow_heap _ _ _ _ _ _ hres) rfl ⟨rfl, t', HT.out, HL4.out⟩
end
end Go.Proofs.YtkcgbhagjkhcmaaGreat
/- The sheet of a data block: room's sheetOf; whether it is marked. -/
namespace Go.Proofs.YtkcgbhagjkhcmaaGreat
open Go.RowKit Go.Maps
section
variable {w W : World} {g d : Nat} {x : Go.Proofs.YtkcgbhagjkhcmaaGreatW.LSt} {t : Go.Proofs.YtkcgbhagjkhcmaaGreatW.St} {book : Int → Nat → Int} {ks : List (Nat × Obj)}
set_option maxRecDepth 20000 in
set_option maxHeartbeats 1600000 in
theorem sheetOf_ok (h : Go.Proofs.YtkcgbhagjkhcmaaGreatW.LogI w W g d x t book ks) (hc : Go.Proofs.YtkcgbhagjkhcmaaGreatW.chkE x t = 0) (hs : t.stopped = false) (hr : Go.Proofs.YtkcgbhagjkhcmaaGreatW.Room t) (at' : Int) (hat : Go.Proofs.YtkcgbhagjkhcmaaGreatW.H.dataAt x.b x.l x.i ≤ at' ∧ at' < x.b ∧ 0 ≤ at' ∧ at' < 8192) (hba : 0 ≤ Go.Proofs.YtkcgbhagjkhcmaaGreatW.H.bitsAt x.l x.i ∧ Go.Proofs.YtkcgbhagjkhcmaaGreatW.H.bitsAt x.l x.i ≤ 1000000) (hk : Go.Proofs.YtkcgbhagjkhcmaaGreatW.Dat x.b x.l (Go.Proofs.YtkcgbhagjkhcmaaGreatW.H.bitsAt x.l x.i + 0)) :
    Calls Tryz.prog 24 #[.pointer (some ⟨g, 0, none⟩), .int .i64 at'] W (ShPost w g d x t book ks (shRow (Go.Proofs.YtkcgbhagjkhcmaaGreatW.H.bitsAt x.l x.i + 0) (0 * 8192) (book (Go.Proofs.YtkcgbhagjkhcmaaGreatW.H.bitsAt x.l x.i + 0)))) := by
  have zs := zeroSh
  have zl := zeroLay
  have HK : Hid _ := logI_ks h
  have HS0 : Hid (w.heap.size ≤ W.heap.size) := (Go.Proofs.YtkcgbhagjkhcmaaGreatW.LogI.below h).size
  have hlay := layoutL_ok (Go.Proofs.YtkcgbhagjkhcmaaGreatW.LogI.add h (.cells (shRow 0 0 nought) 78)) hc
  clear h
  have HRd : Hid (∀ V, Go.Proofs.YtkcgbhagjkhcmaaGreatW.LogI w V g d x t book ((W.heap.size, .cells (shRow 0 0 nought) 78) :: ks) → Calls Tryz.prog 59 #[.pointer (some ⟨g, 0, none⟩), .int .i64 0] V (ShPost w g d x t book ((W.heap.size, .cells (shRow 0 0 nought) 78) :: ks) (shRow (Go.Proofs.YtkcgbhagjkhcmaaGreatW.H.bitsAt x.l x.i + 0) (0 * 8192) (book (Go.Proofs.YtkcgbhagjkhcmaaGreatW.H.bitsAt x.l x.i + 0))))) := fun V hV => readR_ok hV hc hs hr 0 (by omega) hba hk
  have HyD : Hid ((layL x).dataAt = Go.Proofs.YtkcgbhagjkhcmaaGreatW.H.dataAt x.b x.l x.i) := rfl
  have HyN : Hid ((layL x).b = x.b) := rfl
  generalize hy : layL x = y at *
  clear hy hba hk hc hs hr
  obtain ⟨h1, h2, h3, h4⟩ := hat
  have t1 : decide (at' < Go.Proofs.YtkcgbhagjkhcmaaGreatW.H.dataAt x.b x.l x.i) = false := decide_eq_false (by omega)
  have t2 : decide (x.b ≤ at') = false := decide_eq_false (by omega)
  have q1 : at'.tdiv 8192 = 0 := Int.tdiv_eq_zero_of_lt (by omega) (by omega)
  have q0 : IntKind.i64.wrap (0 : Int) = 0 := by decide
  generalize Go.Proofs.YtkcgbhagjkhcmaaGreatW.H.dataAt x.b x.l x.i = da at *
  generalize book (Go.Proofs.YtkcgbhagjkhcmaaGreatW.H.bitsAt x.l x.i + 0) = F at *
  generalize Go.Proofs.YtkcgbhagjkhcmaaGreatW.H.bitsAt x.l x.i + 0 = A0 at *
  generalize (0 : Int) * 8192 = B0' at *
  go_enter Tryz.func24, Tryz.ntmps24
  go_upto_region 1 with fail
  generalize W.alloc (.cells (shRow 0 0 nought) 78) = V at *
  go_wp2_with (go_at_call 33; fail)
  refine hlay.mono ?_
  rintro e V1 ⟨rfl, hL1⟩
  have hL2 := Go.Proofs.YtkcgbhagjkhcmaaGreatW.LogI.later hL1 (below_new V1 (.cells (layRow y) 49))
  have hrd := HRd.out _ hL2
  have HLy : Hid ((V1.alloc (.cells (layRow y) 49)).heap[V1.heap.size]? = some (.cells (layRow y) 49)) := heap_alloc_new _ _
  clear hlay hL1 HRd hL2
  go_upto_region 2 with (first | (with_reducible refine isStoreR 49 ?_; refine wpList_stNew 49 rfl (.tmp 6) (.tmp 8) rfl V1.heap.size (layRow y) (layRow lay0) 49 (lay_info _) (lay_two _ _) (lay_one _) rfl rfl rfl ?_))
  generalize V1.alloc (.cells (layRow y) 49) = V2 at *
  generalize V1.heap.size = gy at *
  have c8 : V2.cell? ⟨gy, 8, none⟩ = some (.int .i64 da) := by rw [← HyD.out]; exact Joins.cell_of_block HLy.out 8
  have c0 : V2.cell? ⟨gy, 0, none⟩ = some (.int .i64 x.b) := by rw [← HyN.out]; exact Joins.cell_of_block HLy.out 0
  go_wp2_with (go_at_call 59; fail)
  refine hrd.mono ?_
  rintro e V3 ⟨rfl, t', ht', hL3⟩
  have hres := Go.Proofs.YtkcgbhagjkhcmaaGreatW.LogI.obj hL3 (List.mem_cons_self ..)
  have HL4 : Hid _ := logI_beside hL3 (Go.Proofs.YtkcgbhagjkhcmaaGreatW.Fr.setRow V3 W.heap.size (shRow A0 B0' F)) HS0.out HK.out
  have HT : Hid _ := ht'
  clear hrd hL3 c8 c0 ht'
  go_wp2_with (first | (with_reducible refine isStoreR 78 ?_; refine wpList_stR 78 rfl (.tmp 4) (.tmp 25) rfl W.heap.size (shRow A0 B0' F) (shRow 0 0 nought) 78 (sh_info _ _ _) (sh_two _ _ _ _ _ _) (sh_one _ _ _) rfl rfl hres ?_))
  exact retCT Tryz.underlying78 rfl rfl W.heap.size (shRow A0 B0' F) 78 (sh_info _ _ _) rfl (setRow_heap _ _ _ _ _ _ hres) rfl ⟨rfl, t', HT.out, HL4.out⟩
end
end Go.Proofs.YtkcgbhagjkhcmaaGreat
/- Whether a sheet marks a block, over what bits.Has answers; room's Used. -/
namespace Go.Proofs.YtkcgbhagjkhcmaaGreat
open Go.RowKit Go.Maps
theorem sh_blk {W : World} {g : Nat} {a b : Int} {f : Nat → Int} (h : W.heap[g]? = some (.cells (shRow a b f) 78)) : NumsAt W .u8 g 2 f 1024 := fun j hj => by
  rw [Joins.cell_of_block h]
  unfold shRow shL
  rw [List.getElem?_toArray, show 2 + j = j + 1 + 1 by omega, List.getElem?_cons_succ, List.getElem?_cons_succ, Array.getElem?_toList]
  exact blk_got f j hj
theorem sh_base {W : World} {g : Nat} {a b : Int} {f : Nat → Int} (h : W.heap[g]? = some (.cells (shRow a b f) 78)) : W.cell? ⟨g, 1, none⟩ = some (.int .i64 b) := by
  rw [Joins.cell_of_block h]
  rfl
set_option maxRecDepth 20000 in
set_option maxHeartbeats 1000000 in
theorem shHas_ok {W : World} {a b at' : Int} {f : Nat → Int} {r : Bool} (hb : -1000000 ≤ at' - b ∧ at' - b ≤ 1000000) (hh : ∀ V, Calls Tryz.prog 60 #[.agg (blk f), .int .i64 (at' - b)] V fun e V' => e = .returned (.bool r) ∧ Below V.heap.size V V') :
    Calls Tryz.prog 25 #[.agg (shRow a b f), .int .i64 at'] W fun e W' => e = .returned (.bool r) ∧ Below W.heap.size W W' := by
  have hX := heap_alloc_new W (.cells (shRow a b f) 78)
  have HB : Hid _ := below_new W (.cells (shRow a b f) 78)
  have c1 := sh_base hX
  have hbk := sh_blk hX
  have HH : Hid _ := hh
  have e1 : IntKind.i64.wrap (at' - b) = at' - b := by rw [IntKind.wrap_i64]; omega
  clear hX hh
  generalize shRow a b f = R at *
  go_enter Tryz.func25, Tryz.ntmps25
  go_upto_region 1 with fail
  generalize W.alloc (.cells R 78) = V at *
  have hhV := HH.out V
  go_wp2_with (first | (with_reducible refine isLoadR 76 ?_; refine wpList_ldB rfl (.tmp 5) rfl W.heap.size 2 f rfl hbk ?_) | (go_at_call 60; fail))
  refine hhV.mono ?_
  rintro e V2 ⟨rfl, hb2⟩
  have HB2 : Hid _ := below_next HB.out hb2
  clear hhV hb2
  go_wp2
  go_ret
  exact ⟨rfl, HB2.out⟩
section
variable {w W : World} {g d : Nat} {x : Go.Proofs.YtkcgbhagjkhcmaaGreatW.LSt} {t : Go.Proofs.YtkcgbhagjkhcmaaGreatW.St} {book : Int → Nat → Int} {ks : List (Nat × Obj)}
theorem logI_chk (h : Go.Proofs.YtkcgbhagjkhcmaaGreatW.LogI w W g d x t book ks) (hc : Go.Proofs.YtkcgbhagjkhcmaaGreatW.chkE x t = 0) : Calls Tryz.prog 23 #[.pointer (some ⟨g, 0, none⟩)] W fun e W' => e = .returned (.int .i64 0) ∧ Go.Proofs.YtkcgbhagjkhcmaaGreatW.LogI w W' g d x t book ks := by
  obtain ⟨s, ⟨c, mb, v, os, h⟩, hI⟩ := h
  refine h.check.mono ?_
  rintro e W' ⟨rfl, m, rfl⟩
  exact ⟨by rw [hc], s, ⟨c, mb, v, os, h.later (Go.Proofs.YtkcgbhagjkhcmaaGreatW.below_drewN _ m)⟩, hI⟩
set_option maxRecDepth 20000 in
set_option maxHeartbeats 1600000 in
theorem usedR_ok (h : Go.Proofs.YtkcgbhagjkhcmaaGreatW.LogI w W g d x t book ks) (hc : Go.Proofs.YtkcgbhagjkhcmaaGreatW.chkE x t = 0) (hs : t.stopped = false) (hr : Go.Proofs.YtkcgbhagjkhcmaaGreatW.Room t) (at' : Int) (hat : Go.Proofs.YtkcgbhagjkhcmaaGreatW.H.dataAt x.b x.l x.i ≤ at' ∧ at' < x.b ∧ 0 ≤ at' ∧ at' < 8192) (hba : 0 ≤ Go.Proofs.YtkcgbhagjkhcmaaGreatW.H.bitsAt x.l x.i ∧ Go.Proofs.YtkcgbhagjkhcmaaGreatW.H.bitsAt x.l x.i ≤ 1000000) (hk : Go.Proofs.YtkcgbhagjkhcmaaGreatW.Dat x.b x.l (Go.Proofs.YtkcgbhagjkhcmaaGreatW.H.bitsAt x.l x.i + 0)) {r : Bool} (hh : ∀ V, Calls Tryz.prog 60 #[.agg (blk (book (Go.Proofs.YtkcgbhagjkhcmaaGreatW.H.bitsAt x.l x.i + 0))), .int .i64 (at' - 0 * 8192)] V fun e V' => e = .returned (.bool r) ∧ Below V.heap.size V V') :
    Calls Tryz.prog 8 #[.pointer (some ⟨g, 0, none⟩), .int .i64 at'] W fun e W' => e = .returned (.tuple #[.bool r, .int .i64 0]) ∧ ∃ t', (t' = t ∨ t' = Go.Proofs.YtkcgbhagjkhcmaaGreatW.readS t) ∧ Go.Proofs.YtkcgbhagjkhcmaaGreatW.LogI w W' g d x t' book ks := by
  have zs := zeroSh
  have hck := logI_chk h hc
  have HSh : Hid (∀ V, Go.Proofs.YtkcgbhagjkhcmaaGreatW.LogI w V g d x t book ks → Calls Tryz.prog 24 #[.pointer (some ⟨g, 0, none⟩), .int .i64 at'] V (ShPost w g d x t book ks (shRow (Go.Proofs.YtkcgbhagjkhcmaaGreatW.H.bitsAt x.l x.i + 0) (0 * 8192) (book (Go.Proofs.YtkcgbhagjkhcmaaGreatW.H.bitsAt x.l x.i + 0))))) := fun V hV => sheetOf_ok hV hc hs hr at' hat hba hk
  have HHas : Hid (∀ V, Calls Tryz.prog 25 #[.agg (shRow (Go.Proofs.YtkcgbhagjkhcmaaGreatW.H.bitsAt x.l x.i + 0) (0 * 8192) (book (Go.Proofs.YtkcgbhagjkhcmaaGreatW.H.bitsAt x.l x.i + 0))), .int .i64 at'] V fun e W' => e = .returned (.bool r) ∧ Below V.heap.size V W') := fun V => shHas_ok (by omega) hh
  clear h hc hs hr hat hba hk hh
  generalize book (Go.Proofs.YtkcgbhagjkhcmaaGreatW.H.bitsAt x.l x.i + 0) = F at *
  generalize Go.Proofs.YtkcgbhagjkhcmaaGreatW.H.bitsAt x.l x.i + 0 = A0 at *
  generalize (0 : Int) * 8192 = B0' at *
  go_enter Tryz.func8, Tryz.ntmps8
  go_wp2_with (go_at_call 23; fail)
  refine hck.mono ?_
  rintro e V1 ⟨rfl, hL1⟩
  have hsh := HSh.out V1 hL1
  clear hck hL1 HSh
  go_wp2_with (go_at_call 24; fail)
  refine hsh.mono ?_
  rintro e V2 ⟨rfl, t', ht', hL2⟩
  have HT : Hid _ := ht'
  have HL3 : Hid _ := Go.Proofs.YtkcgbhagjkhcmaaGreatW.LogI.later hL2 (below_new V2 (.cells (shRow A0 B0' F) 78))
  have HR3 : Hid ((V2.alloc (.cells (shRow A0 B0' F) 78)).heap[V2.heap.size]? = some (.cells (shRow A0 B0' F) 78)) := heap_alloc_new _ _
  clear hsh hL2 ht'
  go_upto_region 5 with (first | (with_reducible refine isStoreR 78 ?_; refine wpList_stNew 78 rfl (.tmp 7) (.tmp 18) rfl V2.heap.size (shRow A0 B0' F) (shRow 0 0 nought) 78 (sh_info _ _ _) (sh_two _ _ _ _ _ _) (sh_one _ _ _) rfl rfl rfl ?_))
  generalize V2.alloc (.cells (shRow A0 B0' F) 78) = V3 at *
  generalize V2.heap.size = gb at *
  have hhas := HHas.out V3
  go_wp2_with (first | (with_reducible refine isLoadR 78 ?_; refine wpList_ldR 78 Tryz.underlying78 rfl rfl (.tmp 7) rfl gb rfl (shRow A0 B0' F) 78 (0, 0) (sh_info _ _ _) HR3.out ?_) | (go_at_call 25; fail))
  refine hhas.mono ?_
  rintro e V4 ⟨rfl, hb4⟩
  have HL4 : Hid _ := Go.Proofs.YtkcgbhagjkhcmaaGreatW.LogI.later HL3.out hb4
  clear hhas hb4 HL3 HR3
  go_wp2
  exact bodyPost_ret (results_tmp2 rfl _ _ _) rfl ⟨rfl, t', HT.out, HL4.out⟩
end
end Go.Proofs.YtkcgbhagjkhcmaaGreat
/- The bits of a sheet: the program's Has and Set beside the plain words; room's with. -/
namespace Go.Proofs.YtkcgbhagjkhcmaaGreat
open Go.RowKit Go.Maps
theorem blkV (f : Nat → Int) : Go.Proofs.YtkcgbhagjkhcmaaGreatV.blk f = blk f := by unfold Go.Proofs.YtkcgbhagjkhcmaaGreatV.blk blk rowN; simp
theorem bitV {f : Nat → Int} (hf : Byt f) (i : Nat) : Go.Proofs.YtkcgbhagjkhcmaaGreatV.bit f i = hasP f i := by
  unfold Go.Proofs.YtkcgbhagjkhcmaaGreatV.bit hasP
  obtain ⟨n, hn⟩ : ∃ n : Nat, f (i / 8) = (n : Int) := ⟨(f (i / 8)).toNat, by have := hf (i / 8); omega⟩
  rw [hn, Int.toNat_natCast, Nat.testBit_eq_decide_div_mod_eq]
  have e : ((n : Int) / 2 ^ (i % 8) % 2 = 1) ↔ (n / 2 ^ (i % 8) % 2 = 1) := by
    have : ((n : Int) / 2 ^ (i % 8) % 2) = ((n / 2 ^ (i % 8) % 2 : Nat) : Int) := by
      rw [Int.natCast_emod, Int.natCast_ediv, Int.natCast_pow]; rfl
    rw [this]
    omega
  by_cases h : n / 2 ^ (i % 8) % 2 = 1
  · rw [decide_eq_true h, beq_iff_eq.2 (e.2 h)]
  · rw [decide_eq_false h, beq_eq_false_iff_ne.2 fun q => h (e.1 q)]
theorem hasV {f : Nat → Int} (hf : Byt f) (i : Nat) (hi : i < 8192) (V : World) : Calls Tryz.prog 60 #[.agg (blk f), .int .i64 (i : Int)] V fun e V' => e = .returned (.bool (hasP f i)) ∧ Below V.heap.size V V' := by
  have := Go.Proofs.YtkcgbhagjkhcmaaGreatV.has_any f hf (i : Int) V
  rw [blkV, show Go.Proofs.YtkcgbhagjkhcmaaGreatV.has f (i : Int) = hasP f i by unfold Go.Proofs.YtkcgbhagjkhcmaaGreatV.has; rw [decide_eq_true (by omega), Bool.true_and, Int.toNat_natCast, bitV hf]] at this
  exact this
set_option maxRecDepth 20000 in
set_option maxHeartbeats 1000000 in
theorem shWith_ok {W : World} {a b at' : Int} {f F : Nat → Int} {on : Bool} (hb : -1000000 ≤ at' - b ∧ at' - b ≤ 1000000) (hh : ∀ V, Calls Tryz.prog 68 #[.agg (blk f), .int .i64 (at' - b), .bool on] V fun e V' => e = .returned (.agg (blk F)) ∧ Below V.heap.size V V') :
    Calls Tryz.prog 29 #[.agg (shRow a b f), .int .i64 at', .bool on] W fun e W' => e = .returned (.agg (blk F)) ∧ Below W.heap.size W W' := by
  have zb := zero77
  obtain ⟨A, hA⟩ : ∃ A, A = (W.alloc (.cells (shRow a b f) 78)).alloc (.cells (blk nought) 76) := ⟨_, rfl⟩
  have hX : A.heap[W.heap.size]? = some (.cells (shRow a b f) 78) := by rw [hA]; exact heap_kept (heap_alloc_new _ _) (below_new _ _)
  have HR : Hid (A.heap[W.heap.size + 1]? = some (.cells (blk nought) 76)) := by rw [hA]; exact heap_two _ _ _
  have HB : Hid (Below W.heap.size W A) := by rw [hA]; exact below_next (below_new _ _) (below_new _ _)
  have c1 := sh_base hX
  have hbk := sh_blk hX
  have hhA := hh A
  have e1 : IntKind.i64.wrap (at' - b) = at' - b := by rw [IntKind.wrap_i64]; omega
  have HA : Hid (A = _) := hA
  clear hX hh hA
  generalize shRow a b f = R at *
  go_enter Tryz.func29, Tryz.ntmps29
  go_upto_region 1 with fail
  rw [← HA.out]
  clear HA
  go_wp2_with (first | (with_reducible refine isLoadR 76 ?_; refine wpList_ldB rfl (.tmp 7) rfl W.heap.size 2 f rfl hbk ?_) | (go_at_call 68; fail))
  refine hhA.mono ?_
  rintro e V2 ⟨rfl, hb2⟩
  have hres := heap_kept HR.out hb2
  have HB2 : Hid _ := below_next HB.out hb2
  clear hhA hb2 HR HB
  go_wp2_with (first | (with_reducible refine isStoreR 76 ?_; refine wpList_stB rfl (.tmp 6) (.tmp 14) rfl (W.heap.size + 1) F nought 76 rfl rfl hres ?_))
  exact retB rfl (W.heap.size + 1) F 76 rfl (setRow_heap _ _ _ _ _ _ hres) rfl ⟨rfl, HB2.out.trans ((Fr.setRow V2 (W.heap.size + 1) (blk F)).below (fun i hi => by omega) HB2.out.size)⟩
end Go.Proofs.YtkcgbhagjkhcmaaGreat
/- The least free block of a sheet: the closure that room's leastFree hands to search. -/
namespace Go.Proofs.YtkcgbhagjkhcmaaGreat
open Go.RowKit Go.Maps
set_option maxRecDepth 20000 in
set_option maxHeartbeats 1000000 in
theorem lf1_ok {W : World} {gy gz : Nat} {y : Lay} {a b0 z r : Int} {f : Nat → Int} (hy : W.heap[gy]? = some (.cells (layRow y) 49)) (hz : W.heap[gz]? = some (.cells #[.int .i64 z] 3)) (hb : 0 ≤ b0 ∧ b0 ≤ 1000000) (hyb : 0 ≤ y.dataAt ∧ y.dataAt ≤ 1000000 ∧ 0 ≤ y.b ∧ y.b ≤ 1048576) (hr : 0 ≤ r ∧ r ≤ 8192) (hpos : 0 < b0 + r)
    (hh : ∀ V, Calls Tryz.prog 63 #[.agg (blk f), .int .i64 (y.dataAt - b0), .int .i64 (y.b - b0)] V fun e V' => e = .returned (.int .i64 r) ∧ Below V.heap.size V V') :
    Calls Tryz.prog 62 #[.agg (shRow a b0 f), .pointer (some ⟨gy, 0, none⟩), .pointer (some ⟨gz, 0, none⟩)] W fun e W' => e = .returned (.bool true) ∧ W'.heap[gz]? = some (.cells #[.int .i64 (b0 + r)] 3) ∧ Fr (fun k => k = gz) W W' := by
  have hgz : gz < W.heap.size := (Array.getElem?_eq_some_iff.1 hz).1
  have hX := heap_alloc_new W (.cells (shRow a b0 f) 78)
  have hbX := below_new W (.cells (shRow a b0 f) 78)
  have hyX := heap_kept hy hbX
  have HZ : Hid _ := heap_kept hz hbX
  have HX : Hid _ := hX
  have HB : Hid _ := hbX
  have c1 := sh_base hX
  have hbk := sh_blk hX
  have c8 : (W.alloc (.cells (shRow a b0 f) 78)).cell? ⟨gy, 8, none⟩ = some (.int .i64 y.dataAt) := Joins.cell_of_block hyX 8
  have c0 : (W.alloc (.cells (shRow a b0 f) 78)).cell? ⟨gy, 0, none⟩ = some (.int .i64 y.b) := Joins.cell_of_block hyX 0
  have hhA := hh (W.alloc (.cells (shRow a b0 f) 78))
  have e1 : IntKind.i64.wrap (y.dataAt - b0) = y.dataAt - b0 := by rw [IntKind.wrap_i64]; omega
  have e2 : IntKind.i64.wrap (y.b - b0) = y.b - b0 := by rw [IntKind.wrap_i64]; omega
  have e3 : IntKind.i64.wrap (b0 + r) = b0 + r := by rw [IntKind.wrap_i64]; omega
  have t1 : decide (0 ≤ r) = true := decide_eq_true (by omega)
  clear hX hh hy hz hbX hyX
  go_enter Tryz.func62, Tryz.ntmps62
  go_upto_region 1 with fail
  generalize W.alloc (.cells (shRow a b0 f) 78) = V at *
  go_wp2_with (first | (with_reducible refine isLoadR 76 ?_; refine wpList_ldB rfl (.tmp 6) rfl W.heap.size 2 f rfl hbk ?_) | (go_at_call 63; fail))
  refine hhA.mono ?_
  rintro e V2 ⟨rfl, hb2⟩
  have d1 := sh_base (heap_kept HX.out hb2)
  have hz2 := heap_kept HZ.out hb2
  have z0 : V2.cell? ⟨gz, 0, none⟩ = some (.int .i64 z) := Joins.cell_of_block hz2 0
  have f0 := frozen_row hz2 0
  have H3 : Hid ((V2.setCell ⟨gz, 0, none⟩ (.int .i64 (b0 + r))).heap[gz]? = some (.cells #[.int .i64 (b0 + r)] 3)) := by rw [heap_setCell_same _ _ _ _ _ _ hz2]; rfl
  have H4 : Hid (Fr (fun k => k = gz) W (V2.setCell ⟨gz, 0, none⟩ (.int .i64 (b0 + r)))) := Fr.trans (Fr.ofBelow (T := fun k => k = gz) (below_next HB.out hb2)) (Fr.setCell V2 gz 0 _) fun _ _ q => q
  clear hhA hb2 hz2 HZ HX HB c1 hbk c8 c0
  go_upto_region 4 with fail
  generalize V2.setCell ⟨gz, 0, none⟩ (.int .i64 (b0 + r)) = V3 at *
  clear d1 z0 f0
  have z0 : V3.cell? ⟨gz, 0, none⟩ = some (.int .i64 (b0 + r)) := Joins.cell_of_block H3.out 0
  have t2 : decide (0 < b0 + r) = true := decide_eq_true hpos
  go_wp2
  go_ret
  exact ⟨rfl, H3.out, H4.out⟩
end Go.Proofs.YtkcgbhagjkhcmaaGreat
/- The search of the sheets: one sheet, at which leastFree's closure is content. -/
namespace Go.Proofs.YtkcgbhagjkhcmaaGreat
open Go.RowKit Go.Maps
theorem field_bitsBl (y : Lay) (W : World) : (Instr.field 49 (.agg (layRow y)) 5).run Tryz.prog W = .ok (.int .i64 y.bitsBlocks) W := by kernel_rfl
theorem exec_bitsBl {o : Oper} {a : Act} {W : World} {x : Operand} {y : Lay} (ho : o.op = .field 49 x 5) (hx : a.eval x = .agg (layRow y)) : (execOp a.eval o).run Tryz.prog W = .ok (.value (.int .i64 y.bitsBlocks)) W := by
  have e := field_bitsBl y W
  unfold execOp
  simp only [ho, hx, e, Sem.run_bind, Result.andThen_ok, Sem.run_pure]
section
variable {w W : World} {g d : Nat} {x : Go.Proofs.YtkcgbhagjkhcmaaGreatW.LSt} {t : Go.Proofs.YtkcgbhagjkhcmaaGreatW.St} {book : Int → Nat → Int} {ks : List (Nat × Obj)}
set_option maxRecDepth 20000 in
set_option maxHeartbeats 1600000 in
theorem searchLf_ok (h : Go.Proofs.YtkcgbhagjkhcmaaGreatW.LogI w W g d x t book ks) (hc : Go.Proofs.YtkcgbhagjkhcmaaGreatW.chkE x t = 0) (hs : t.stopped = false) (hr : Go.Proofs.YtkcgbhagjkhcmaaGreatW.Room t) (hbb : Go.Proofs.YtkcgbhagjkhcmaaGreatW.H.bitsB x.b = 1) (hba : 0 ≤ Go.Proofs.YtkcgbhagjkhcmaaGreatW.H.bitsAt x.l x.i ∧ Go.Proofs.YtkcgbhagjkhcmaaGreatW.H.bitsAt x.l x.i ≤ 1000000) (hk : Go.Proofs.YtkcgbhagjkhcmaaGreatW.Dat x.b x.l (Go.Proofs.YtkcgbhagjkhcmaaGreatW.H.bitsAt x.l x.i + 0)) (gy gz : Nat) (Q : World → Prop)
    (hcl : ∀ V t', (t' = t ∨ t' = Go.Proofs.YtkcgbhagjkhcmaaGreatW.readS t) → Go.Proofs.YtkcgbhagjkhcmaaGreatW.LogI w V g d x t' book ks → Calls Tryz.prog 62 #[.agg (shRow (Go.Proofs.YtkcgbhagjkhcmaaGreatW.H.bitsAt x.l x.i + 0) (0 * 8192) (book (Go.Proofs.YtkcgbhagjkhcmaaGreatW.H.bitsAt x.l x.i + 0))), .pointer (some ⟨gy, 0, none⟩), .pointer (some ⟨gz, 0, none⟩)] V fun e V' => e = .returned (.bool true) ∧ Q V') :
    Calls Tryz.prog 34 #[.pointer (some ⟨g, 0, none⟩), .func (.func 62) #[] #[.pointer (some ⟨gy, 0, none⟩), .pointer (some ⟨gz, 0, none⟩)]] W fun e W' => e = .returned (.int .i64 0) ∧ Q W' := by
  have zs := zeroSh
  have hlay := layoutL_ok h hc
  have HRd : Hid (∀ V, Go.Proofs.YtkcgbhagjkhcmaaGreatW.LogI w V g d x t book ks → Calls Tryz.prog 59 #[.pointer (some ⟨g, 0, none⟩), .int .i64 0] V (ShPost w g d x t book ks (shRow (Go.Proofs.YtkcgbhagjkhcmaaGreatW.H.bitsAt x.l x.i + 0) (0 * 8192) (book (Go.Proofs.YtkcgbhagjkhcmaaGreatW.H.bitsAt x.l x.i + 0))))) := fun V hV => readR_ok hV hc hs hr 0 (by omega) hba hk
  have HCl : Hid _ := hcl
  have HyB : Hid ((layL x).bitsBlocks = 1) := hbb
  generalize hy : layL x = y at *
  clear hy hba hk hc hs hr h hcl hbb
  generalize book (Go.Proofs.YtkcgbhagjkhcmaaGreatW.H.bitsAt x.l x.i + 0) = F at *
  generalize Go.Proofs.YtkcgbhagjkhcmaaGreatW.H.bitsAt x.l x.i + 0 = A0 at *
  generalize (0 : Int) * 8192 = B0' at *
  go_enter Tryz.func34, Tryz.ntmps34
  go_wp2_with fail
  go_step3
  go_wp2_with fail
  go_step3
  go_wp2_with (go_at_call 33; fail)
  refine hlay.mono ?_
  rintro e V1 ⟨rfl, hL1⟩
  have HL1 : Hid _ := hL1
  have hyb := HyB.out
  clear hlay hL1
  go_wp2_with (first | (with_reducible refine isFdR 49 ?_; refine wpList_ex rfl (v := .int .i64 1) (by rw [← hyb]; exact exec_bitsBl rfl rfl) ?_))
  go_loopw [11] (fun s11 wx => s11 = .int .i64 0 ∧ Hid (Go.Proofs.YtkcgbhagjkhcmaaGreatW.LogI w wx g d x t book ks)) (fun _ _ => 0)
  case atStart => exact ⟨rfl, HL1.out⟩
  case round =>
    obtain ⟨rfl, HL⟩ := hrel
    have hrd := HRd.out wr HL.out
    clear HL HRd HL1
    go_wp2_with (go_at_call 59; fail)
    refine hrd.mono ?_
    rintro e V2 ⟨rfl, t', ht', hL2⟩
    have hcl := HCl.out (V2.alloc (.cells (shRow A0 B0' F) 78)) t' ht' (Go.Proofs.YtkcgbhagjkhcmaaGreatW.LogI.later hL2 (below_new _ _))
    have HR3 : Hid ((V2.alloc (.cells (shRow A0 B0' F) 78)).heap[V2.heap.size]? = some (.cells (shRow A0 B0' F) 78)) := heap_alloc_new _ _
    clear hrd hL2 HCl
    go_upto_region 5 with (first | (with_reducible refine isStoreR 78 ?_; refine wpList_stNew 78 rfl (.tmp 6) (.tmp 18) rfl V2.heap.size (shRow A0 B0' F) (shRow 0 0 nought) 78 (sh_info _ _ _) (sh_two _ _ _ _ _ _) (sh_one _ _ _) rfl rfl rfl ?_))
    generalize V2.alloc (.cells (shRow A0 B0' F) 78) = V3 at *
    generalize V2.heap.size = gb at *
    go_wp2_with (first | (with_reducible refine isLoadR 78 ?_; refine wpList_ldR 78 Tryz.underlying78 rfl rfl (.tmp 6) rfl gb rfl (shRow A0 B0' F) 78 (0, 0) (sh_info _ _ _) HR3.out ?_) | (go_at_call 62; fail))
    refine hcl.mono ?_
    rintro e V4 ⟨rfl, hq⟩
    have HQ : Hid _ := hq
    clear hcl hq HR3
    go_wp2
    rw [Exit.noGoto_ret]
    go_ret
    exact ⟨rfl, HQ.out⟩
end
end Go.Proofs.YtkcgbhagjkhcmaaGreat
