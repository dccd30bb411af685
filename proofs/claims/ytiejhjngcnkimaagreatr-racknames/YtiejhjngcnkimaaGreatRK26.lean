/- Several texts joined, each with its own remark; no condition. -/
import Derived.Test.YtiejhjngcnkimaaGreatRK25
import Derived.WalkMore
import Derived.Test.YtiejhjngcnkimaaGreatRK12
import Derived.WalkKit
import Derived.WalkSpells
import Derived.WalkLawsBesides
import Derived.Deep.WholeRow
import Derived.Laws.StructEq
import Derived.Test.YtiejhjngcnkimaaGreatRRows
import Derived.BigQuiet
import Derived.Laws.CopyOwn
/- The least free block of a sheet: the closure that room's leastFree hands to search. -/
namespace Go.Proofs.YtiejhjngcnkimaaGreatR
open Go.RowKit Go.Maps
end Go.Proofs.YtiejhjngcnkimaaGreatR
/- The search of the sheets: one sheet, at which leastFree's closure is content. -/
namespace Go.Proofs.YtiejhjngcnkimaaGreatR
open Go.RowKit Go.Maps
section
variable {w W : World} {g d : Nat} {x : Go.Proofs.YtiejhjngcnkimaaGreatRW.LSt} {t : Go.Proofs.YtiejhjngcnkimaaGreatRW.St} {book : Int → Nat → Int} {ks : List (Nat × Obj)}
end
end Go.Proofs.YtiejhjngcnkimaaGreatR
/- The least free block of a disk of one sheet: room's leastFree. -/
namespace Go.Proofs.YtiejhjngcnkimaaGreatR
open Go.RowKit Go.Maps
section
variable {w W : World} {g d : Nat} {x : Go.Proofs.YtiejhjngcnkimaaGreatRW.LSt} {t : Go.Proofs.YtiejhjngcnkimaaGreatRW.St} {book : Int → Nat → Int} {ks : List (Nat × Obj)}
end
end Go.Proofs.YtiejhjngcnkimaaGreatR
/- The bits of a disk's one sheet as a plain predicate; the least free block, how many are used, a bit set. -/
namespace Go.Proofs.YtiejhjngcnkimaaGreatR
open Go.RowKit Go.Maps
end Go.Proofs.YtiejhjngcnkimaaGreatR
/- A log that lives and may go on, its disk's state hidden; the example's geometry. -/
namespace Go.Proofs.YtiejhjngcnkimaaGreatR
open Go.RowKit Go.Maps
structure RLog (w W : World) (g d : Nat) (x : Go.Proofs.YtiejhjngcnkimaaGreatRW.LSt) (book : Int → Nat → Int) (n : Nat) (ks : List (Nat × Obj)) : Prop where
  ex : ∃ t, Go.Proofs.YtiejhjngcnkimaaGreatRW.LogI w W g d x t book ks ∧ Go.Proofs.YtiejhjngcnkimaaGreatRW.claimedV t x.claim = true ∧ Go.Proofs.YtiejhjngcnkimaaGreatRW.Rm t (n + 1)
structure Ge (x : Go.Proofs.YtiejhjngcnkimaaGreatRW.LSt) : Prop where
  b : x.b = 400
  l : x.l = 32
  i : x.i = 60
section
variable {w W W' : World} {g d n : Nat} {x : Go.Proofs.YtiejhjngcnkimaaGreatRW.LSt} {t : Go.Proofs.YtiejhjngcnkimaaGreatRW.St} {book : Int → Nat → Int} {ks ks' : List (Nat × Obj)}
theorem Ge.dat (h : Ge x) {k : Int} (hk : 33 ≤ k ∧ k < 400) : Go.Proofs.YtiejhjngcnkimaaGreatRW.Dat x.b x.l k := by
  unfold Go.Proofs.YtiejhjngcnkimaaGreatRW.Dat
  rw [h.b, h.l]
  omega
theorem chk_of (h : Go.Proofs.YtiejhjngcnkimaaGreatRW.claimedV t x.claim = true) : Go.Proofs.YtiejhjngcnkimaaGreatRW.chkE x t = 0 := by unfold Go.Proofs.YtiejhjngcnkimaaGreatRW.chkE; rw [if_pos h]
theorem ref_of {o : Bool} (h : Go.Proofs.YtiejhjngcnkimaaGreatRW.claimedV t x.claim = true) (ho : x.opn = o) : Go.Proofs.YtiejhjngcnkimaaGreatRW.refL x t o = 0 := by unfold Go.Proofs.YtiejhjngcnkimaaGreatRW.refL; rw [if_pos h, if_pos ho]
theorem rm_read (h : Go.Proofs.YtiejhjngcnkimaaGreatRW.Rm t (n + 1)) : Go.Proofs.YtiejhjngcnkimaaGreatRW.Rm (Go.Proofs.YtiejhjngcnkimaaGreatRW.readS t) n := by
  obtain ⟨h1, h2, h3, h4⟩ := h
  refine ⟨?_, ?_, ?_, ?_⟩
  · show t.ops.length + n < _; omega
  · show t.made + n < _; omega
  · show t.reads + 1 + n < _; omega
  · show t.claims + n < _; omega
theorem RLog.of {t' : Go.Proofs.YtiejhjngcnkimaaGreatRW.St} (ht : t' = t ∨ t' = Go.Proofs.YtiejhjngcnkimaaGreatRW.readS t) (hc : Go.Proofs.YtiejhjngcnkimaaGreatRW.claimedV t x.claim = true) (hr : Go.Proofs.YtiejhjngcnkimaaGreatRW.Rm t (n + 1 + 1)) (h : Go.Proofs.YtiejhjngcnkimaaGreatRW.LogI w W g d x t' book ks) : RLog w W g d x book n ks := by
  rcases ht with rfl | rfl
  · exact ⟨_, h, hc, hr.le (by omega)⟩
  · exact ⟨_, h, hc, rm_read hr⟩
theorem RLog.later (h : RLog w W g d x book n ks) (hb : Below W.heap.size W W') : RLog w W' g d x book n ks := by
  obtain ⟨t, h, h1, h2⟩ := h
  exact ⟨t, h.later hb, h1, h2⟩
theorem RLog.add (h : RLog w W g d x book n ks) (o : Obj) : RLog w (W.alloc o) g d x book n ((W.heap.size, o) :: ks) := by
  obtain ⟨t, h, h1, h2⟩ := h
  exact ⟨t, h.add o, h1, h2⟩
theorem RLog.drop (h : RLog w W g d x book n ks) (hs : ∀ p ∈ ks', p ∈ ks) : RLog w W g d x book n ks' := by
  obtain ⟨t, h, h1, h2⟩ := h
  exact ⟨t, h.drop hs, h1, h2⟩
theorem RLog.obj (h : RLog w W g d x book n ks) {q : Nat} {o : Obj} (hm : (q, o) ∈ ks) : W.heap[q]? = some o := by
  obtain ⟨t, h, h1, h2⟩ := h
  exact h.obj hm
theorem RLog.below (h : RLog w W g d x book n ks) : Below w.heap.size w W := by
  obtain ⟨t, h, h1, h2⟩ := h
  exact h.below
theorem RLog.ksLt (h : RLog w W g d x book n ks) : ∀ p ∈ ks, p.1 ≠ W.heap.size := by
  obtain ⟨t, h, h1, h2⟩ := h
  exact logI_ks h
theorem RLog.beside {q : Nat} {o : Obj} (h : RLog w W g d x book n ((q, o) :: ks)) (hf : Fr (fun k => k = q) W W') (hq : w.heap.size ≤ q) (hks : ∀ p ∈ ks, p.1 ≠ q) : RLog w W' g d x book n ks := by
  obtain ⟨t, h, h1, h2⟩ := h
  exact ⟨t, logI_beside h ⟨hf.os, hf.tape, hf.output, hf.size, hf.block⟩ hq hks, h1, h2⟩
theorem RLog.less {m : Nat} (h : RLog w W g d x book n ks) (hm : m ≤ n) : RLog w W g d x book m ks := by
  obtain ⟨t, h, h1, h2⟩ := h
  exact ⟨t, h, h1, h2.le (by omega)⟩
def WrX (x : Go.Proofs.YtiejhjngcnkimaaGreatRW.LSt) (k : Int) (x' : Go.Proofs.YtiejhjngcnkimaaGreatRW.LSt) : Prop := (Go.Proofs.YtiejhjngcnkimaaGreatRW.byB x k x.steps = false ∧ x.room ≠ 0 ∧ x' = { Go.Proofs.YtiejhjngcnkimaaGreatRW.changeL x k x.steps with room := x.room - 1 }) ∨ (Go.Proofs.YtiejhjngcnkimaaGreatRW.byB x k x.steps = true ∧ x' = x)
theorem WrX.first {k : Int} (hb : Go.Proofs.YtiejhjngcnkimaaGreatRW.byB x k x.steps = false) (hz : x.room ≠ 0) : WrX x k { Go.Proofs.YtiejhjngcnkimaaGreatRW.changeL x k x.steps with room := x.room - 1 } := .inl ⟨hb, hz, rfl⟩
theorem WrX.again {k : Int} (hb : Go.Proofs.YtiejhjngcnkimaaGreatRW.byB x k x.steps = true) : WrX x k x := .inr ⟨hb, rfl⟩
theorem WrX.same {x' : Go.Proofs.YtiejhjngcnkimaaGreatRW.LSt} {k : Int} (h : WrX x k x') : x'.b = x.b ∧ x'.l = x.l ∧ x'.i = x.i ∧ x'.claim = x.claim ∧ x'.opn = x.opn ∧ x'.steps = x.steps ∧ x'.commits = x.commits := by
  rcases h with ⟨_, _, rfl⟩ | ⟨_, rfl⟩
  · exact ⟨rfl, rfl, rfl, rfl, rfl, rfl, rfl⟩
  · exact ⟨rfl, rfl, rfl, rfl, rfl, rfl, rfl⟩
theorem WrX.ge {x' : Go.Proofs.YtiejhjngcnkimaaGreatRW.LSt} {k : Int} (h : WrX x k x') (hg : Ge x) : Ge x' := by
  obtain ⟨h1, h2, h3, _⟩ := h.same
  exact ⟨h1.trans hg.b, h2.trans hg.l, h3.trans hg.i⟩
theorem RLog.write {x' : Go.Proofs.YtiejhjngcnkimaaGreatRW.LSt} {k : Int} {f : Nat → Int} (h : RLog w W g d x book n ks) (hf : Go.Proofs.YtiejhjngcnkimaaGreatRW.Can f) (ho : x.opn = true) (hg : Ge x) (hk : 33 ≤ k ∧ k < 400) (hx : WrX x k x') :
    Calls Tryz.prog 103 #[.pointer (some ⟨g, 0, none⟩), .int .i64 k, .agg (blk f)] W fun e W' => e = .returned (.int .i64 0) ∧ RLog w W' g d x' (fun j => if j = k then f else book j) n ks := by
  obtain ⟨t, h, h1, h2⟩ := h
  have hk' : 1 + x.l ≤ k ∧ k < x.b := by rw [hg.l, hg.b]; omega
  rw [← blkW]
  rcases hx with ⟨hb, hz, rfl⟩ | ⟨hb, rfl⟩
  · refine (h.write hf (ref_of h1 ho) hk' hb hz).mono ?_
    rintro e W' ⟨rfl, h3⟩
    exact ⟨rfl, t, h3, h1, h2⟩
  · refine (h.rewrite hf (ref_of h1 ho) hk' hb).mono ?_
    rintro e W' ⟨rfl, h3⟩
    exact ⟨rfl, t, h3, h1, h2⟩
theorem RLog.begin (h : RLog w W g d x book n ks) (ho : x.opn = false) (hg : Ge x) {r : Int} (hr : 1 ≤ r) (hr2 : (x.blocks.length : Int) + r ≤ 31) :
    Calls Tryz.prog 14 #[.pointer (some ⟨g, 0, none⟩), .int .i64 r] W fun e W' => e = .returned (.int .i64 0) ∧ RLog w W' g d { x with opn := true, room := r } book n ks := by
  obtain ⟨t, h, h1, h2⟩ := h
  refine (h.begin (ref_of h1 ho) hr (by rw [hg.l]; exact hr2)).mono ?_
  rintro e W' ⟨rfl, h3⟩
  exact ⟨rfl, t, h3, h1, h2⟩
theorem RLog.check (h : RLog w W g d x book n ks) : Calls Tryz.prog 45 #[.pointer (some ⟨g, 0, none⟩)] W fun e W' => e = .returned (.int .i64 0) ∧ RLog w W' g d x book n ks := by
  obtain ⟨t, h, h1, h2⟩ := h
  refine (logI_chk h (chk_of h1)).mono ?_
  rintro e W' ⟨rfl, h3⟩
  exact ⟨rfl, t, h3, h1, h2⟩
theorem RLog.layout (h : RLog w W g d x book n ks) : Calls Tryz.prog 98 #[.pointer (some ⟨g, 0, none⟩)] W fun e W' => e = .returned (.agg (layRow (layL x))) ∧ RLog w W' g d x book n ks := by
  obtain ⟨t, h, h1, h2⟩ := h
  refine (layoutL_ok h (chk_of h1)).mono ?_
  rintro e W' ⟨rfl, h3⟩
  exact ⟨rfl, t, h3, h1, h2⟩
end
end Go.Proofs.YtiejhjngcnkimaaGreatR
/- Whether a step is open; why room refuses; a sheet of a block that is none. -/
namespace Go.Proofs.YtiejhjngcnkimaaGreatR
open Go.RowKit Go.Maps
section
variable {w W W' : World} {g d n : Nat} {x : Go.Proofs.YtiejhjngcnkimaaGreatRW.LSt} {book : Int → Nat → Int} {ks ks' : List (Nat × Obj)}
theorem RLog.c15 (h : RLog w W g d x book n ks) : W.cell? ⟨g, 15, none⟩ = some (.bool x.opn) := by
  obtain ⟨t, ⟨s, h3, _⟩, h1, h2⟩ := h
  exact h3.c1516.1
set_option maxHeartbeats 800000 in
theorem RLog.open (h : RLog w W g d x book n ks) : Calls Tryz.prog 102 #[.pointer (some ⟨g, 0, none⟩)] W fun e W' => e = .returned (.bool x.opn) ∧ RLog w W' g d x book n ks := by
  have hck := h.check
  clear h
  obtain ⟨o, ho⟩ : ∃ o, x.opn = o := ⟨_, rfl⟩
  have HO : Hid (x.opn = o) := ho
  rw [ho]
  clear ho
  go_enter Tryz.func102, Tryz.ntmps102
  go_wp2_with (go_at_call 45; fail)
  refine hck.mono ?_
  rintro e V1 ⟨rfl, hL1⟩
  have c15 := hL1.c15
  rw [HO.out] at c15
  have HL : Hid _ := hL1
  clear hck hL1
  go_wp2
  go_ret
  exact ⟨rfl, HL.out⟩
end
end Go.Proofs.YtiejhjngcnkimaaGreatR
/- A shelf of the inodes' region as a row; the rack's shelfOf. -/
namespace Go.Proofs.YtiejhjngcnkimaaGreatR
open Go.RowKit Go.Maps
theorem sf_info (a b : Int) (f : Nat → Int) : (Tryz.prog.info? 111).map (·.size) = some (shRow a b f).size := by rw [shRow_size]; kernel_rfl
theorem zeroSf : ∀ w, (zeroValue 111).run Tryz.prog w = .ok (.agg (shRow 0 0 nought)) w := (zero_of_info (show (Tryz.prog.info? 111).map (fun i => (i.zero, i.size)) = some (some (.agg (shRow 0 0 nought)), 1026) by kernel_rfl)).1
theorem buildSf (a b : Int) (f : Nat → Int) (u : World) : (Instr.build 111 #[(0, .int .i64 a), (1, .int .i64 b), (2, .agg (blk f))]).run Tryz.prog u = .ok (.agg (shRow a b f)) u := by
  have z := zeroSf
  have hZ : (shRow 0 0 nought).size = 1026 := shRow_size _ _ _
  generalize shRow 0 0 nought = Z at *
  have hf := fill_sh a b f Z hZ
  simp [Instr.build, z, run_underlying Tryz.underlying111, Value.cells]
  rw [hf _ rfl rfl rfl]
  simp only [Sem.run_pure]
theorem exec_buildSf {o : Oper} {a : Act} {W : World} {x y u : Operand} {p q : Int} {f : Nat → Int} (ho : o.op = .build 111 #[(0, x), (1, y), (2, u)]) (hx : a.eval x = .int .i64 p) (hy : a.eval y = .int .i64 q) (hu : a.eval u = .agg (blk f)) : (execOp a.eval o).run Tryz.prog W = .ok (.value (.agg (shRow p q f))) W := by
  have e := buildSf p q f W
  generalize shRow p q f = Z at *
  generalize blk f = Y at *
  simp [execOp, ho, hx, hy, hu, e]
theorem build0Sf (u : World) : (Instr.build 111 #[]).run Tryz.prog u = .ok (.agg (shRow 0 0 nought)) u := by
  have z := zeroSf
  generalize shRow 0 0 nought = Z at *
  simp [Instr.build, z, run_underlying Tryz.underlying111, Instr.fill, Value.cells, go_sem]
theorem exec_build0Sf {o : Oper} {a : Act} {W : World} (ho : o.op = .build 111 #[]) : (execOp a.eval o).run Tryz.prog W = .ok (.value (.agg (shRow 0 0 nought))) W := by
  have e := build0Sf W
  generalize shRow 0 0 nought = Z at *
  simp [execOp, ho, e]
section
variable {w W W' : World} {g d n : Nat} {x : Go.Proofs.YtiejhjngcnkimaaGreatRW.LSt} {book : Int → Nat → Int} {ks ks' : List (Nat × Obj)}
theorem RLog.rd (h : RLog w W g d x book (n + 1) ks) (hg : Ge x) (k : Int) (hk : 33 ≤ k ∧ k < 400) :
    Calls Tryz.prog 99 #[.pointer (some ⟨g, 0, none⟩), .int .i64 k] W fun e W' => e = .returned (.tuple #[.agg (blk (book k)), .int .i64 0]) ∧ RLog w W' g d x book n ks := by
  obtain ⟨t, h, h1, h2⟩ := h
  refine (Go.Proofs.YtiejhjngcnkimaaGreatRW.LogI.read h (chk_of h1) (hg.dat hk) (Go.Proofs.YtiejhjngcnkimaaGreatRW.claimed_live h1) h2.room).mono ?_
  rintro e W' ⟨rfl, t', ht, h3⟩
  exact ⟨by rw [blkW], .of ht h1 h2 h3⟩
set_option maxRecDepth 20000 in
set_option maxHeartbeats 1600000 in
theorem RLog.shelfOf (h : RLog w W g d x book (n + 1) ks) (hg : Ge x) (k q : Nat) (hk : 1 ≤ k ∧ k ≤ 60) (hq : k / 16 = q) :
    Calls Tryz.prog 46 #[.pointer (some ⟨g, 0, none⟩), .int .i64 (k : Int)] W fun e W' => e = .returned (.tuple #[.agg (shRow (33 + (q : Int)) ((q : Int) * 16) (book (33 + (q : Int)))), .int .i64 0]) ∧ RLog w W' g d x book n ks := by
  have zs := zeroSf
  have zl := zeroLay
  have zb := zero77
  have hqb : q ≤ 3 := by omega
  have HK : Hid _ := h.ksLt
  have HS0 : Hid (w.heap.size ≤ W.heap.size) := h.below.size
  have hlay := (h.add (.cells (shRow 0 0 nought) 111)).layout
  clear h
  have HRd : Hid (∀ V ks0, RLog w V g d x book (n + 1) ks0 → Calls Tryz.prog 99 #[.pointer (some ⟨g, 0, none⟩), .int .i64 (33 + (q : Int))] V fun e W' => e = .returned (.tuple #[.agg (blk (book (33 + (q : Int)))), .int .i64 0]) ∧ RLog w W' g d x book n ks0) := fun V ks0 hV => hV.rd hg _ (by omega)
  have HyA : Hid ((layL x).nodeAt = 33) := by show 1 + x.l = 33; rw [hg.l]; rfl
  have HyI : Hid ((layL x).i = 60) := hg.i
  generalize hy : layL x = y at *
  clear hy hg
  have t1 : decide ((k : Int) < 1) = false := decide_eq_false (by omega)
  have t2 : decide (60 < (k : Int)) = false := decide_eq_false (by omega)
  have q1 : (k : Int).tdiv 16 = (q : Int) := by rw [Int.tdiv_eq_ediv_of_nonneg (by omega)]; omega
  have q0 : IntKind.i64.wrap (q : Int) = (q : Int) := by rw [IntKind.wrap_i64]; omega
  have q2 : IntKind.i64.wrap (33 + (q : Int)) = 33 + (q : Int) := by rw [IntKind.wrap_i64]; omega
  have q3 : IntKind.i64.wrap ((q : Int) * 16) = (q : Int) * 16 := by rw [IntKind.wrap_i64]; omega
  clear hk hq hqb
  generalize book (33 + (q : Int)) = F at *
  generalize (k : Int) = K at *
  generalize (q : Int) = Q at *
  go_enter Tryz.func46, Tryz.ntmps46
  go_upto_region 1 with fail
  generalize W.alloc (.cells (shRow 0 0 nought) 111) = V at *
  go_wp2_with (go_at_call 98; fail)
  refine hlay.mono ?_
  rintro e V1 ⟨rfl, hL1⟩
  have HK1 : Hid _ := hL1.ksLt
  have HW1 : Hid _ := hL1.below.size
  have HL2 : Hid _ := hL1.add (.cells (layRow y) 61)
  clear hlay hL1
  go_upto_region 2 with (first | (with_reducible refine isStoreR 61 ?_; refine wpList_stNew 61 rfl (.tmp 6) (.tmp 11) rfl V1.heap.size (layRow y) (layRow lay0) 61 (lay_info _) (lay_two _ _) (lay_one _) rfl rfl rfl ?_))
  generalize V1.alloc (.cells (layRow y) 61) = V2 at *
  generalize V1.heap.size = gy at *
  have hly := HL2.out.obj (List.mem_cons_self ..)
  have c4 : V2.cell? ⟨gy, 4, none⟩ = some (.int .i64 33) := by rw [← HyA.out]; exact Joins.cell_of_block hly 4
  have c2 : V2.cell? ⟨gy, 2, none⟩ = some (.int .i64 60) := by rw [← HyI.out]; exact Joins.cell_of_block hly 2
  have hrd := HRd.out V2 _ HL2.out
  clear HL2 hly
  go_wp2_with (go_at_call 99; fail)
  refine hrd.mono ?_
  rintro e V3 ⟨rfl, hL3⟩
  have HL4 : Hid _ := hL3.add (.cells (blk F) 85)
  clear hrd hL3 c4 c2
  go_upto_region 6 with (first | (with_reducible refine isStoreR 85 ?_; refine wpList_stNew 85 rfl (.tmp 8) (.tmp 31) rfl V3.heap.size (blk F) (blk nought) 85 (blk_info _) (blk_two _ _) (blk_one _) rfl rfl rfl ?_))
  generalize V3.alloc (.cells (blk F) 85) = V4 at *
  generalize V3.heap.size = gb at *
  have hbk := blk_at (HL4.out.obj (List.mem_cons_self ..))
  have hly := HL4.out.obj (List.mem_cons_of_mem _ (List.mem_cons_self ..))
  have hres := HL4.out.obj (List.mem_cons_of_mem _ (List.mem_cons_of_mem _ (List.mem_cons_self ..)))
  have c4 : V4.cell? ⟨gy, 4, none⟩ = some (.int .i64 33) := by rw [← HyA.out]; exact Joins.cell_of_block hly 4
  have HL5 : Hid _ := (HL4.out.drop (ks' := (W.heap.size, .cells (shRow 0 0 nought) 111) :: ks) fun p hp => List.mem_cons_of_mem _ (List.mem_cons_of_mem _ hp)).beside (Fr.setRow V4 W.heap.size (shRow (33 + Q) (Q * 16) F)) HS0.out HK.out
  clear HL4 hly
  go_wp2_with (first | (with_reducible refine isLoadR 85 ?_; refine wpList_ldB rfl (.tmp 8) rfl gb 0 F rfl hbk ?_) | (with_reducible refine isBuildR 111 ?_; refine wpList_ex rfl (exec_buildSf (p := 33 + Q) (q := Q * 16) (f := F) rfl rfl rfl rfl) ?_) | (with_reducible refine isStoreR 111 ?_; refine wpList_stR 111 rfl (.tmp 4) (.tmp 44) rfl W.heap.size (shRow (33 + Q) (Q * 16) F) (shRow 0 0 nought) 111 (sf_info _ _ _) (sh_two _ _ _ _ _ _) (sh_one _ _ _) rfl rfl hres ?_))
  exact retCT Tryz.underlying111 rfl rfl W.heap.size (shRow (33 + Q) (Q * 16) F) 111 (sf_info _ _ _) rfl (setRow_heap _ _ _ _ _ _ hres) rfl ⟨rfl, HL5.out⟩
set_option maxRecDepth 20000 in
set_option maxHeartbeats 1600000 in
theorem RLog.shelfBad (h : RLog w W g d x book n ks) (hg : Ge x) (k : Int) (hk : k < 1 ∨ 60 < k) :
    Calls Tryz.prog 46 #[.pointer (some ⟨g, 0, none⟩), .int .i64 k] W fun e W' => e = .returned (.tuple #[.agg (shRow 0 0 nought), .int .i64 2]) ∧ RLog w W' g d x book n ks := by
  have zs := zeroSf
  have zl := zeroLay
  have HK : Hid _ := h.ksLt
  have HS0 : Hid (w.heap.size ≤ W.heap.size) := h.below.size
  have hlay := (h.add (.cells (shRow 0 0 nought) 111)).layout
  clear h
  have HyI : Hid ((layL x).i = 60) := hg.i
  generalize hy : layL x = y at *
  clear hy hg
  go_enter Tryz.func46, Tryz.ntmps46
  go_upto_region 1 with fail
  generalize W.alloc (.cells (shRow 0 0 nought) 111) = V at *
  go_wp2_with (go_at_call 98; fail)
  refine hlay.mono ?_
  rintro e V1 ⟨rfl, hL1⟩
  have HL2 : Hid _ := hL1.later (below_new V1 (.cells (layRow y) 61))
  have HLy : Hid ((V1.alloc (.cells (layRow y) 61)).heap[V1.heap.size]? = some (.cells (layRow y) 61)) := heap_alloc_new _ _
  clear hlay hL1
  go_upto_region 2 with (first | (with_reducible refine isStoreR 61 ?_; refine wpList_stNew 61 rfl (.tmp 6) (.tmp 11) rfl V1.heap.size (layRow y) (layRow lay0) 61 (lay_info _) (lay_two _ _) (lay_one _) rfl rfl rfl ?_))
  generalize V1.alloc (.cells (layRow y) 61) = V2 at *
  generalize V1.heap.size = gy at *
  have c2 : V2.cell? ⟨gy, 2, none⟩ = some (.int .i64 60) := by rw [← HyI.out]; exact Joins.cell_of_block HLy.out 2
  have hres := HL2.out.obj (List.mem_cons_self ..)
  have HL4 : Hid _ := HL2.out.beside (Fr.setRow V2 W.heap.size (shRow 0 0 nought)) HS0.out HK.out
  clear HL2 HLy
  by_cases h1 : k < 1
  · have t1 : decide (k < 1) = true := decide_eq_true h1
    go_wp2_with (first | (with_reducible refine isBuildR 111 ?_; refine wpList_ex rfl (exec_build0Sf rfl) ?_) | (with_reducible refine isStoreR 111 ?_; refine wpList_stR 111 rfl (.tmp 4) (.tmp 21) rfl W.heap.size (shRow 0 0 nought) (shRow 0 0 nought) 111 (sf_info _ _ _) (sh_two _ _ _ _ _ _) (sh_one _ _ _) rfl rfl hres ?_))
    exact retCT Tryz.underlying111 rfl rfl W.heap.size (shRow 0 0 nought) 111 (sf_info _ _ _) rfl (setRow_heap _ _ _ _ _ _ hres) rfl ⟨rfl, HL4.out⟩
  · have t1 : decide (k < 1) = false := decide_eq_false h1
    have t2 : decide (60 < k) = true := decide_eq_true (by omega)
    go_wp2_with (first | (with_reducible refine isBuildR 111 ?_; refine wpList_ex rfl (exec_build0Sf rfl) ?_) | (with_reducible refine isStoreR 111 ?_; refine wpList_stR 111 rfl (.tmp 4) (.tmp 21) rfl W.heap.size (shRow 0 0 nought) (shRow 0 0 nought) 111 (sf_info _ _ _) (sh_two _ _ _ _ _ _) (sh_one _ _ _) rfl rfl hres ?_))
    exact retCT Tryz.underlying111 rfl rfl W.heap.size (shRow 0 0 nought) 111 (sf_info _ _ _) rfl (setRow_heap _ _ _ _ _ _ hres) rfl ⟨rfl, HL4.out⟩
end
end Go.Proofs.YtiejhjngcnkimaaGreatR
/- What a block of 1024 bytes is as cells: a plain function from places to numbers, laid as cells; no condition. -/
namespace Go.Proofs.YtiejhjngcnkimaaGreatRN
open Go.RowKit
def blk (f : Nat → Int) : Array Value := ((List.range 1024).map fun i => Value.int .u8 (f i)).toArray
def upd (f : Nat → Int) (i : Nat) (x : Int) : Nat → Int := fun j => if j = i then x else f j
def nought : Nat → Int := fun _ => 0
theorem blk_size (f : Nat → Int) : (blk f).size = 1024 := by simp [blk]
theorem blk_get (f : Nat → Int) (i : Nat) (h : i < 1024) : (blk f)[i]? = some (.int .u8 (f i)) := by
  simp [blk, h]
theorem blk_set (f : Nat → Int) (i : Nat) (x : Int) : (blk f).setIfInBounds i (.int .u8 x) = blk (upd f i x) := by
  apply Array.ext_getElem?
  intro j
  by_cases hj : j < 1024
  · rw [blk_get _ _ hj, Array.getElem?_setIfInBounds]
    by_cases e : i = j
    · subst e; simp [blk_size, hj, upd]
    · have e' : ¬ j = i := fun q => e q.symm
      simp [e, e', blk_get _ _ hj, upd]
  · rw [Array.getElem?_eq_none (by rw [Array.size_setIfInBounds, blk_size]; omega), Array.getElem?_eq_none (by rw [blk_size]; omega)]
theorem blk_congr {f g : Nat → Int} (h : ∀ i, i < 1024 → f i = g i) : blk f = blk g := by
  apply Array.ext_getElem?
  intro j
  by_cases hj : j < 1024
  · rw [blk_get _ _ hj, blk_get _ _ hj, h j hj]
  · rw [Array.getElem?_eq_none (by rw [blk_size]; omega), Array.getElem?_eq_none (by rw [blk_size]; omega)]
theorem blk_one (f : Nat → Int) : (blk f).all (·.oneCell') = true := by
  rw [Array.all_eq_true_iff_forall_mem]
  intro v hv
  simp [blk] at hv
  obtain ⟨i, _, rfl⟩ := hv
  rfl
end Go.Proofs.YtiejhjngcnkimaaGreatRN
/- The block type of this program over its translation: loads, stores and results of whole blocks; fits; no condition. -/
namespace Go.Proofs.YtiejhjngcnkimaaGreatRN
open Go.RowKit
theorem info25 : (Tryz.prog.info? 85).map (fun i => (i.zero, i.size)) = some (some (.agg (blk nought)), 1024) := by kernel_rfl
theorem zero25 : ∀ w, (zeroValue 85).run Tryz.prog w = .ok (.agg (blk nought)) w := (zero_of_info info25).1
theorem size25 : (Tryz.prog.info? 85).map (·.size) = some 1024 := (zero_of_info info25).2
set_option maxHeartbeats 400000 in
theorem fits_any (a n : Int) (w : World) (hn : 0 ≤ n ∧ n ≤ 1024) :
    Calls Tryz.prog 215 #[.int .i64 a, .int .i64 n] w fun e w' => e = .returned (.bool (decide (0 ≤ a ∧ a ≤ 1024 - n))) ∧ w' = w := by
  by_cases h0 : 0 ≤ a
  · by_cases h1 : a ≤ 1024 - n
    · go_enter Tryz.func215, Tryz.ntmps215
      go_wp2
      go_ret
      exact ⟨by simp [h0, h1], rfl⟩
    · go_enter Tryz.func215, Tryz.ntmps215
      go_wp2
      go_ret
      exact ⟨by simp [h1], rfl⟩
  · go_enter Tryz.func215, Tryz.ntmps215
    go_wp2
    go_ret
    exact ⟨by simp; omega, rfl⟩
theorem fits_yes (a n : Int) (w : World) (hn : 0 ≤ n ∧ n ≤ 1024) (h : 0 ≤ a ∧ a ≤ 1024 - n) :
    Calls Tryz.prog 215 #[.int .i64 a, .int .i64 n] w fun e w' => e = .returned (.bool true) ∧ w' = w := by
  have := fits_any a n w hn
  rwa [decide_eq_true h] at this
theorem wpList_load25 {ops : Array Oper} {rest : List Oper} {o : Oper} {a : Act} {w : World} {Q : Exit → Act → World → Prop} (hgd : o.guard = none) (x : Operand) (ho : o.op = .load 85 x)
    (g : Nat) (hx : a.eval x = .pointer (some ⟨g, 0, none⟩)) (f : Nat → Int) (hg : w.heap[g]? = some (.cells (blk f) 85))
    (h : wpList Tryz.prog ops Q rest (a.put o.dst (.agg (blk f))) w) : wpList Tryz.prog ops Q (o :: rest) a w :=
  wpList_load_row hgd 85 x ho g hx 85 (blk f) (0, 0) _ hg Tryz.underlying85 rfl (by rw [blk_size]; exact size25) h
theorem wpList_store25 {ops : Array Oper} {rest : List Oper} {o : Oper} {a : Act} {w : World} {Q : Exit → Act → World → Prop} (hgd : o.guard = none) (x y : Operand) (ho : o.op = .store 85 x y)
    (g : Nat) (f : Nat → Int) (hx : a.eval x = .pointer (some ⟨g, 0, none⟩)) (hy : a.eval y = .agg (blk f)) (f0 : Nat → Int) (hg : w.heap[g]? = some (.cells (blk f0) 85))
    (h : wpList Tryz.prog ops Q rest (a.put o.dst undef) (w.setRow g (blk f))) : wpList Tryz.prog ops Q (o :: rest) a w :=
  wpList_plain hgd fun _ hK => by
    unfold Oper.wp execOp
    simp only [ho, hx, hy, Instr.storeAt, Instr.sureAddr, Sem.run_bind, Sem.run_pure, Result.andThen_ok, run_storeVar_row w g 85 85 (blk f0) (blk f) hg (by rw [blk_size]; exact size25) (by rw [blk_size, blk_size]) (blk_one f)]
    exact hK _ _ h
theorem ret25 {fn : Func} {p : Tmp} {R : Ending → World → Prop} {a : Act} {w : World} (h : fn.results = #[.cell p 85]) (g : Nat) (f : Nat → Int)
    (hp : a.tmps.getD p undef = .pointer (some ⟨g, 0, none⟩)) (hg : w.heap[g]? = some (.cells (blk f) 85)) (hd : a.defers = []) (hR : R (.returned (.agg (blk f))) w) : bodyPost Tryz.prog fn R .ret a w :=
  bodyPost_ret (results_cell_row h a.tmps w g 85 (blk f) (0, 0) _ hp hg Tryz.underlying85 rfl (by rw [blk_size]; exact size25)) hd hR
theorem below_setRow {B : Nat} {a w : World} (h : Below B a w) {g : Nat} (hg : B ≤ g) (cs : Array Value) : Below B a (w.setRow g cs) :=
  h.trans ⟨rfl, rfl, rfl, by simp, fun k hk => setRow_other w g k cs (by omega)⟩
theorem below2 (w : World) (a b : Obj) (g : Nat) (hg : w.heap.size ≤ g) (cs : Array Value) : Below w.heap.size w (((w.alloc a).alloc b).setRow g cs) :=
  below_setRow (((Below.refl _ _).alloc (Nat.le_refl _) _).alloc (by simp) _) hg _
end Go.Proofs.YtiejhjngcnkimaaGreatRN
/- Two blocks held against each other: equal just where every byte is; for every two blocks. -/
namespace Go.Proofs.YtiejhjngcnkimaaGreatRN
open Go.RowKit
end Go.Proofs.YtiejhjngcnkimaaGreatRN
/- Regions whose order is drawn and whose calls make memory but turn none that was there: one walk in the text's order serves every order. -/
namespace Go.Proofs.YtiejhjngcnkimaaGreatRN
open Go.RowKit
theorem wpList_store25_new {ops : Array Oper} {rest : List Oper} {o : Oper} {a : Act} {w : World} {Q : Exit → Act → World → Prop} (hgd : o.guard = none) (x y : Operand) (ho : o.op = .store 85 x y)
    (f f0 : Nat → Int) (hx : a.eval x = .pointer (some ⟨w.heap.size, 0, none⟩)) (hy : a.eval y = .agg (blk f))
    (h : wpList Tryz.prog ops Q rest (a.put o.dst undef) (w.alloc (.cells (blk f) 85))) : wpList Tryz.prog ops Q (o :: rest) a (w.alloc (.cells (blk f0) 85)) :=
  wpList_store25 hgd x y ho w.heap.size f hx hy f0 (heap_alloc_new _ _) (by rw [World.setRow_alloc_new]; exact h)
end Go.Proofs.YtiejhjngcnkimaaGreatRN
/- slab's inside: which of some places lie in a block; for every place and number. -/
namespace Go.Proofs.YtiejhjngcnkimaaGreatRN
open Go.RowKit
def insLo (a n : Int) : Nat := if n < 1 ∨ 1024 ≤ a then 0 else a.toNat
def insHi (a n : Int) : Nat := if n < 1 ∨ 1024 ≤ a then 0 else (min (a + n) 1024).toNat
theorem ins_le (a n : Int) : insLo a n ≤ insHi a n ∧ insHi a n ≤ 1024 := by
  unfold insLo insHi; split
  · omega
  · omega
theorem ins_iff (a n : Int) (j : Nat) (hj : j < 1024) : (insLo a n ≤ j ∧ j < insHi a n) ↔ (a ≤ (j : Int) ∧ (j : Int) - a < n) := by
  unfold insLo insHi; split <;> omega
theorem ins_lo (a n : Int) (h : insLo a n < insHi a n) : a ≤ (insLo a n : Int) ∧ (insHi a n : Int) - a ≤ n := by
  unfold insLo insHi at *; split at h <;> split <;> omega
theorem ret_two {a b c d : Int} (h : a = c) (h' : b = d) : Ending.returned (.tuple #[.int .i64 a, .int .i64 b]) = .returned (.tuple #[.int .i64 c, .int .i64 d]) := by rw [h, h']
set_option maxHeartbeats 400000 in
theorem slabInside_any (a n : Int) (w : World) (ha : -9223372036854775808 ≤ a ∧ a ≤ 9223372036854775807) (hn : -9223372036854775808 ≤ n ∧ n ≤ 9223372036854775807) :
    Calls Tryz.prog 214 #[.int .i64 a, .int .i64 n] w fun e w' => e = .returned (.tuple #[.int .i64 (insLo a n), .int .i64 (insHi a n)]) ∧ w' = w := by
  have hlo : ((insLo a n : Nat) : Int) = if n < 1 ∨ 1024 ≤ a then 0 else if a < 0 then 0 else a := by unfold insLo; split <;> (try split) <;> omega
  have hhi : ((insHi a n : Nat) : Int) = if n < 1 ∨ 1024 ≤ a then 0 else if a + n < 0 then 0 else if a + n < 1024 then a + n else 1024 := by
    unfold insHi; split <;> (try split) <;> (try split) <;> omega
  generalize ((insLo a n : Nat) : Int) = lo at *
  generalize ((insHi a n : Nat) : Int) = hi at *
  have HLO : Hid (lo = if n < 1 ∨ 1024 ≤ a then 0 else if a < 0 then 0 else a) := hlo
  have HHI : Hid (hi = if n < 1 ∨ 1024 ≤ a then 0 else if a + n < 0 then 0 else if a + n < 1024 then a + n else 1024) := hhi
  clear hlo hhi
  by_cases h1 : n < 1
  · go_enter Tryz.func214, Tryz.ntmps214
    go_wp2
    go_ret2
    exact ⟨ret_two (by rw [HLO.out, if_pos (.inl h1)]) (by rw [HHI.out, if_pos (.inl h1)]), rfl⟩
  · by_cases h2 : 1024 ≤ a
    · go_enter Tryz.func214, Tryz.ntmps214
      go_wp2
      go_ret2
      exact ⟨ret_two (by rw [HLO.out, if_pos (.inr h2)]) (by rw [HHI.out, if_pos (.inr h2)]), rfl⟩
    · by_cases h3 : a < 0
      · by_cases h4 : a + n < 0
        all_goals by_cases h5 : a + n < 1024
        all_goals
          go_enter Tryz.func214, Tryz.ntmps214
          go_wp2
        all_goals
          go_ret2
          refine ⟨ret_two ?_ ?_, rfl⟩
          · have := HLO.out; rw [if_neg (by omega), if_pos (by omega)] at this; omega
          · have := HHI.out; rw [if_neg (by omega)] at this; split at this <;> (try split at this) <;> omega
      · by_cases h5 : n < 1024 - a
        all_goals
          go_enter Tryz.func214, Tryz.ntmps214
          go_wp2
        all_goals
          go_ret2
          refine ⟨ret_two ?_ ?_, rfl⟩
          · have := HLO.out; rw [if_neg (by omega), if_neg (by omega)] at this; omega
          · have := HHI.out; rw [if_neg (by omega)] at this; split at this <;> (try split at this) <;> omega
end Go.Proofs.YtiejhjngcnkimaaGreatRN
/- The law's own function block: a block that begins with the bytes of a slice; its bytes lie in memory below. -/
namespace Go.Proofs.YtiejhjngcnkimaaGreatRN
open Go.RowKit
def Lies (w : World) (v : Value) (n : Nat) (f : Nat → Int) : Prop :=
  (∃ a cap, v = .slice a 0 cap ∧ n = 0 ∧ (a = none → cap = 0)) ∨ ∃ b off cap, v = .slice (some ⟨b, off, none⟩) n cap ∧ n ≤ maxLen ∧ n ≤ cap ∧ b < w.heap.size ∧ ∀ i, i < n → w.cell? ⟨b, off + i, none⟩ = some (.int .u8 (f i))
end Go.Proofs.YtiejhjngcnkimaaGreatRN
/- Rows of bytes in memory: read, written, copied; whatever their number. -/
namespace Go.Proofs.YtiejhjngcnkimaaGreatRN
open Go.RowKit
theorem info5 : (Tryz.prog.info? 5).map (fun i => (i.zero, i.size, i.bytes)) = some (some (.int .u8 0), 1, 1) := by kernel_rfl
def rowA (f : Nat → Int) (m : Nat) : Array Value := ((List.range m).map fun i => Value.int .u8 (f i)).toArray
theorem rowA_size (f : Nat → Int) (m : Nat) : (rowA f m).size = m := by simp [rowA]
theorem rowA_get (f : Nat → Int) (m i : Nat) (h : i < m) : (rowA f m)[i]? = some (.int .u8 (f i)) := by simp [rowA, h]
theorem rowA_ext {f : Nat → Int} {m : Nat} {cs : Array Value} (hs : cs.size = m) (h : ∀ i, i < m → cs[i]? = some (.int .u8 (f i))) : cs = rowA f m := by
  apply Array.ext_getElem?
  intro i
  by_cases hi : i < m
  · rw [h i hi, rowA_get f m i hi]
  · rw [Array.getElem?_eq_none (by omega), Array.getElem?_eq_none (by rw [rowA_size]; omega)]
theorem rowA_congr {f g : Nat → Int} {m : Nat} (h : ∀ i, i < m → f i = g i) : rowA f m = rowA g m :=
  rowA_ext (rowA_size f m) fun i hi => by rw [rowA_get f m i hi, h i hi]
theorem made_row (m : Nat) : madeCells #[Value.int .u8 0] m = rowA nought m :=
  rowA_ext (by simp [madeCells]) fun i hi => by simp [madeCells, hi, nought, Nat.mod_one]
theorem cell_row {w : World} {g m : Nat} {f : Nat → Int} {t : TypeId} (h : w.heap[g]? = some (.cells (rowA f m) t)) (i : Nat) (hi : i < m) : w.cell? ⟨g, i, none⟩ = some (.int .u8 (f i)) := by
  rw [cell_of_row w g i _ t _ h]; exact rowA_get f m i hi
theorem rowA_one (f : Nat → Int) (m : Nat) : ∀ v ∈ (rowA f m).toList, v.oneCell' = true := by
  intro v hv
  simp [rowA] at hv
  obtain ⟨i, _, rfl⟩ := hv
  rfl
def over (F : Nat → Int) (off n : Nat) (G : Nat → Int) : Nat → Int := fun i => if off ≤ i ∧ i < off + n then G (i - off) else F i
theorem run_copy5 (w : World) (ty : TypeId) (g off dLen dCap gs so sLen sCap : Nat)
    (F : Nat → Int) (m : Nat) (t : TypeId) (hF : w.heap[g]? = some (.cells (rowA F m) t)) (G : Nat → Int) (n : Nat) (hn : n = Nat.min sLen dLen)
    (hsrc : ∀ j, j < n → w.cell? ⟨gs, so + j, none⟩ = some (.int .u8 (G j))) (hfit : off + n ≤ m) :
    (Builtin.copy_ #[88, 88] ty #[.slice (some ⟨g, off, none⟩) dLen dCap, .slice (some ⟨gs, so, none⟩) sLen sCap]).run Tryz.prog w = .ok (goInt n) (w.setRow g (rowA (over F off n G) m)) := by
  have hlen : (rowA G n).toList.length = n := by simp [rowA_size]
  have hi5 : (Tryz.prog.info? 5).map (·.size) = some 1 := by
    obtain ⟨i0, hi0, _, hz1, _⟩ := info_parts info5
    rw [hi0]; simp [hz1]
  have key := run_copy_row (P := Tryz.prog) w 88 88 ty 5 g off dLen dCap ⟨gs, so, none⟩ sLen sCap (rowA F m) t (rowA G n).toList Tryz.underlying88 hi5 hF (by rw [hlen]; exact hn) (fun j v hv => by
    have hj : j < n := by rw [← hlen]; exact (List.getElem?_eq_some_iff.1 hv).1
    have e : v = .int .u8 (G j) := by
      have := rowA_get G n j hj
      simp at hv
      rw [hv] at this
      exact Option.some.inj this
    rw [e, Go.WideShapes.add_plain]
    exact hsrc j hj) (by rw [hlen, rowA_size]; exact hfit) (rowA_one G n)
  have e : ((rowA F m).toList.take off ++ ((rowA G n).toList ++ (rowA F m).toList.drop (off + n))).toArray = rowA (over F off n G) m := by
    refine rowA_ext ?_ fun i hi => ?_
    · simp [rowA_size]; omega
    · simp only [List.getElem?_toArray]
      by_cases h1 : i < off
      · rw [List.getElem?_append_left (by simp [rowA_size]; omega), List.getElem?_take_of_lt h1]
        simp only [Array.getElem?_toList, rowA_get F m i hi, over]
        rw [if_neg (by omega)]
      · rw [List.getElem?_append_right (by simp [rowA_size]; omega)]
        have e0 : (List.take off (rowA F m).toList).length = off := by simp [rowA_size]; omega
        rw [e0]
        by_cases h2 : i < off + n
        · rw [List.getElem?_append_left (by simp [rowA_size]; omega)]
          simp only [Array.getElem?_toList, rowA_get G n (i - off) (by omega), over]
          rw [if_pos (by omega)]
        · rw [List.getElem?_append_right (by simp [rowA_size]; omega), hlen, List.getElem?_drop, show off + n + (i - off - n) = i by omega]
          simp only [Array.getElem?_toList, rowA_get F m i hi, over]
          rw [if_neg (by omega)]
  rw [hlen, List.append_assoc, e] at key
  exact key
theorem wp_copy5 {o : Oper} {a : Act} {w : World} {K : Act → World → Prop} {Q : Exit → Act → World → Prop} (d s : Operand)
    (ho : o.op = .call { callee := .builtin .copy, args := #[d, s], argTypes := #[88, 88] }) (g off dLen dCap gs so sLen sCap : Nat)
    (hd : a.eval d = .slice (some ⟨g, off, none⟩) dLen dCap) (hs : a.eval s = .slice (some ⟨gs, so, none⟩) sLen sCap)
    (F : Nat → Int) (m : Nat) (t : TypeId) (hF : w.heap[g]? = some (.cells (rowA F m) t)) (G : Nat → Int) (n : Nat) (hn : n = Nat.min sLen dLen)
    (hsrc : ∀ j, j < n → w.cell? ⟨gs, so + j, none⟩ = some (.int .u8 (G j))) (hfit : off + n ≤ m)
    (h : K (a.put o.dst (goInt n)) (w.setRow g (rowA (over F off n G) m))) : o.wp Tryz.prog a w K Q := by
  have hrun := run_copy5 w o.type g off dLen dCap gs so sLen sCap F m t hF G n hn hsrc hfit
  unfold Oper.wp
  simp [execOp, ho, resolve, invoke, builtin, hd, hs, hrun, Result.andThen]
  exact h
theorem wpList_copy5 {ops : Array Oper} {rest : List Oper} {o : Oper} {a : Act} {w : World} {Q : Exit → Act → World → Prop} (hgd : o.guard = none) (d s : Operand)
    (ho : o.op = .call { callee := .builtin .copy, args := #[d, s], argTypes := #[88, 88] }) (g off dLen dCap gs so sLen sCap : Nat)
    (hd : a.eval d = .slice (some ⟨g, off, none⟩) dLen dCap) (hs : a.eval s = .slice (some ⟨gs, so, none⟩) sLen sCap)
    (F : Nat → Int) (m : Nat) (t : TypeId) (hF : w.heap[g]? = some (.cells (rowA F m) t)) (G : Nat → Int) (n : Nat) (hn : n = Nat.min sLen dLen)
    (hsrc : ∀ j, j < n → w.cell? ⟨gs, so + j, none⟩ = some (.int .u8 (G j))) (hfit : off + n ≤ m)
    (h : wpList Tryz.prog ops Q rest (a.put o.dst (goInt n)) (w.setRow g (rowA (over F off n G) m))) : wpList Tryz.prog ops Q (o :: rest) a w :=
  wpList_plain hgd fun _ hK => wp_copy5 d s ho g off dLen dCap gs so sLen sCap hd hs F m t hF G n hn hsrc hfit (hK _ _ h)
end Go.Proofs.YtiejhjngcnkimaaGreatRN
