/- Several texts joined: the log, its cache and its disk, of the program and of the document; no condition. -/
import Derived.Test.YtichojdcoegboaaGreatK1
import Derived.StillTailTactics
import Derived.Deep.DeepAppendWide
namespace Go.Proofs.YtichojdcoegboaaGreatW
open Go.RowKit
variable {w : World} {L : Loc} {s : St}
def BlkAt (w : World) (g off : Nat) (f : Nat → Int) : Prop := w.rangeAt g off (blk f).toList
theorem BlkAt.of {w : World} {g : Nat} {f : Nat → Int} {t : TypeId} (h : w.heap[g]? = some (.cells (blk f) t)) : BlkAt w g 0 f := fun j v hv => by
 rw [cell_of_row w g _ _ t _ h, Nat.zero_add, ← Array.getElem?_toList]
 exact hv
theorem loadM {w : World} {g off : Nat} {f : Nat → Int} (h : BlkAt w g off f) : (Instr.loadAt 64 (.pointer (some ⟨g, off, none⟩))).run Tryz.prog w = .ok (.agg (blk f)) w := by
 have hr := run_loadAt_mid (P := Tryz.prog) w g off 64 (blk f).toList _ h Tryz.underlying64 rfl (by rw [blk_list_len]; exact size25)
 rwa [Array.toArray_toList] at hr
theorem wpList_loadM {ops : Array Oper} {rest : List Oper} {o : Oper} {a : Act} {w : World} {Q : Exit → Act → World → Prop} (hgd : o.guard = none) (x : Operand) (ho : o.op = .load 64 x)
  (g off : Nat) (hx : a.eval x = .pointer (some ⟨g, off, none⟩)) (f : Nat → Int) (hg : BlkAt w g off f)
  (h : wpList Tryz.prog ops Q rest (a.put o.dst (.agg (blk f))) w) : wpList Tryz.prog ops Q (o :: rest) a w :=
 wpList_plain hgd fun _ hK => by
  unfold Oper.wp execOp
  simp only [ho, hx, loadM hg, Sem.run_bind, Result.andThen_ok, Sem.run_pure]
  exact hK _ _ h
theorem wpStill_loadM {ops : Array Oper} {Q : Act → Prop} {a : Act} {o : Oper} {rest : List Oper} {w : World} (hgd : o.guard = none) (x : Operand) (ho : o.op = .load 64 x)
  (g off : Nat) (hx : a.eval x = .pointer (some ⟨g, off, none⟩)) (f : Nat → Int) (hg : BlkAt w g off f)
  (h : wpStill Tryz.prog ops w Q rest (a.put o.dst (.agg (blk f)))) : wpStill Tryz.prog ops w Q (o :: rest) a := by
 unfold wpStill
 rw [if_pos (by simp [Region.wanted, hgd])]
 unfold Oper.still execOp
 simp only [ho, hx, loadM hg, Sem.run_bind, Result.andThen_ok, Sem.run_pure, Oper.stillUpon]
 exact ⟨trivial, h⟩
theorem built58 (u : World) : (Instr.build 64 #[]).run Tryz.prog u = .ok (.agg (blk nought)) u := by
 have z25 := zero25
 simp [Instr.build, z25, run_underlying Tryz.underlying64, Tryz.sizeOf5, Instr.fill, Value.cells]
theorem wpList_build58 {ops : Array Oper} {rest : List Oper} {o : Oper} {a : Act} {w : World} {Q : Exit → Act → World → Prop} (hgd : o.guard = none) (ho : o.op = .build 64 #[]) {N : Nat → Int}
  (hb : ∀ u, (Instr.build 64 #[]).run Tryz.prog u = .ok (.agg (blk N)) u) (h : wpList Tryz.prog ops Q rest (a.put o.dst (.agg (blk N))) w) : wpList Tryz.prog ops Q (o :: rest) a w :=
 wpList_plain hgd fun _ hK => by
  have e : (execOp a.eval o).run Tryz.prog w = .ok (.value (.agg (blk N))) w := by
   unfold execOp
   simp only [ho, Array.map_empty, Sem.run_bind]
   simp only [hb, Result.andThen_ok, Sem.run_pure]
  unfold Oper.wp
  rw [e]
  exact hK _ _ h
def holdV (s : St) (k : Int) (f : Nat → Int) : St := { s with held := fun j => if j = k then (if blankB f then none else some f) else s.held j }
theorem holdV_ok (h : Ok s) {k : Int} (hk : 0 ≤ k ∧ k < s.n) {f : Nat → Int} (hf : Can f) : Ok (holdV s k f) := by
 refine ⟨h.n, fun j g hj => ?_, h.wait, h.fuse, h.made, h.reads, h.claims⟩
 unfold holdV at hj
 simp only at hj
 by_cases e : j = k
 ·rw [if_pos e] at hj
  cases hb : blankB f
  ·rw [hb] at hj
   simp at hj
   subst hj
   exact ⟨by rw [e]; exact hk, hf, fun q => by rw [hf.blank.2 q] at hb; cases hb⟩
  ·rw [hb] at hj; simp at hj
 ·rw [if_neg e] at hj
  exact h.held j g hj
theorem holdV_heldV (s : St) (k : Int) (f : Nat → Int) : heldV (holdV s k f) = fun y => if y = k then (if blankB f then none else some (.agg (blk f))) else heldV s y := by
 funext y
 unfold heldV holdV
 simp only
 by_cases e : y = k
 ·rw [if_pos e, if_pos e]
  cases blankB f <;> rfl
 ·rw [if_neg e, if_neg e]
theorem DiskAt.hold (h : DiskAt w L s) {k : Int} (hk : 0 ≤ k ∧ k < s.n) {f : Nat → Int} (hf : Can f) {w' : World} (hm : MapIs Tryz.prog 3 w' L.hb (heldV (holdV s k f))) (hfr : Fr (fun i => i = L.hb) w w') : DiskAt w' L (holdV s k f) := by
 have hne : ∀ i, L.has i → i ≠ L.hb → w'.heap[i]? = w.heap[i]? := fun i hi q => hfr.block i (h.lt i hi) q
 obtain ⟨es, ck, hmm⟩ := h.held.isMap
 refine ⟨?_, hm, ?_, ?_, h.ne, holdV_ok h.ok hk hf⟩
 ·rw [hne L.d (.inl rfl) fun e => by rw [← e, h.row] at hmm; cases hmm]
  exact h.row
 ·exact h.late.kept (hne _ (.inr (.inr (.inl rfl))) fun e => h.ne e.symm)
 ·refine ownsRow_kept0 h.hist fun i hi => hne i (.inr (.inr (.inr hi))) fun e => ?_
  rcases h.hist.2 with ⟨h1, _⟩ | ⟨g, cap, cur, h1, _, h2, _⟩
  ·rw [h1] at hi; cases hi
  ·rw [h1] at hi
   injection hi with hi
   rw [← hi] at e
   simp only at e
   rw [e, hmm] at h2
   cases h2
theorem keyed3 : Go.Maps.Keyed Tryz.prog 3 := Go.Maps.int_keyed Tryz.underlying3
theorem Fr.drew {T : Nat → Prop} (w : World) : Fr T w w.drew := ⟨rfl, rfl, rfl, Nat.le_refl _, fun _ _ _ => rfl⟩
theorem inTop_of (h : Ok s) {k : Int} (hk : 0 ≤ k ∧ k < s.n) : inTop k := by
 have := h.n
 unfold inTop
 omega
set_option maxRecDepth 20000 in
theorem hold_of (h : DiskAt w L s) {k : Int} (hk : 0 ≤ k ∧ k < s.n) {f : Nat → Int} (hf : Can f) {g off : Nat} (hg : BlkAt w g off f) :
  Calls Tryz.prog 32 #[.pointer (some ⟨L.d, 0, none⟩), .int .i64 k, .pointer (some ⟨g, off, none⟩)] w fun e w' => e = .returned (.tuple #[]) ∧ DiskAt w' L (holdV s k f) ∧ Fr (fun i => i = L.hb) w w' := by
 have hq := eq25
 have hbd := built58
 have c2 := h.c2
 have hin := inTop_of h.ok hk
 have hW := inTop.wf hin
 have HA : Hid (∀ w', MapIs Tryz.prog 3 w' L.hb (heldV (holdV s k f)) → Fr (fun i => i = L.hb) w w' → DiskAt w' L (holdV s k f)) := fun w' => h.hold hk hf
 rw [holdV_heldV] at HA
 have hM := h.held
 have hl : L.hb < w.heap.size := hM.lt
 cases hb : blankB f
 ·rw [hb] at HA
  unfold blankB at hb
  clear h hf hk
  generalize nought = N at *
  go_enter Tryz.func32, Tryz.ntmps32
  go_wp2_with (first | refine wpList_loadM rfl _ rfl g off rfl f hg ?_ | refine wpList_build58 rfl rfl hbd ?_)
  go_still_tail 8, (by kernel_rfl)
  refine wpStill_loadM rfl _ rfl g off rfl f hg ?_
  refine wpStill_nil ?_
  change wpList _ _ _ _ _ (World.drew _)
  refine wpList_putM rfl _ _ _ 92 rfl 64 Tryz.underlying3 keyed3 Tryz.underlying92 L.hb _ rfl (hM.kept (w' := w.drew) rfl) k hin rfl _ rfl ?_
  intro w' hm' hg'
  have hF : Hid (Fr (fun i => i = L.hb) w w') := (Fr.drew w).trans ((Fr.ofGrown hg').mono fun i _ q => by injection q with q; exact q.symm) fun _ _ q => q
  have hD : Hid (DiskAt w' L (holdV s k f)) := HA.out w' hm' hF.out
  clear hm' hg' HA
  go_wp2
  go_end0
  exact ⟨rfl, hD.out, hF.out⟩
 ·rw [hb] at HA
  unfold blankB at hb
  clear h hf hk
  generalize nought = N at *
  have HB : Hid (∀ w' : World, MapIs Tryz.prog 3 w' L.hb (fun y => if y = k then none else heldV s y) → w.grownBy w' (some L.hb) → DiskAt w' L (holdV s k f) ∧ Fr (fun i => i = L.hb) w w') := fun w' hm' hg' => by
   have hF : Fr (fun i => i = L.hb) w w' := (Fr.ofGrown hg').mono fun i _ q => by injection q with q; exact q.symm
   exact ⟨HA.out w' hm' hF, hF⟩
  clear HA
  go_enter Tryz.func32, Tryz.ntmps32
  go_wp2_with (first | refine wpList_loadM rfl _ rfl g off rfl f hg ?_ | refine wpList_build58 rfl rfl hbd ?_ | (refine wpList_delM rfl (.tmp 14) (.tmp 15) 92 rfl 64 Tryz.underlying3 keyed3 Tryz.underlying92 L.hb _ rfl hM k hW rfl ?_; intro w' hm' hg'))
  refine bodyPost_ret (results_none rfl _ _ _) rfl ?_
  exact ⟨rfl, HB.out _ hm' hg'⟩
end Go.Proofs.YtichojdcoegboaaGreatW
namespace Go.Proofs.YtichojdcoegboaaGreatW
open Go.RowKit
variable {w : World} {L : Loc} {s : St}
theorem opCells_get : ∀ (l : List Rec) (i j : Nat) (r : Rec), l[i]? = some r → j < 1026 → (opCells l)[i * 1026 + j]? = (recCells r)[j]?
 | [], i, j, r, h, _ => by simp at h
 | x :: t, 0, j, r, h, hj => by
  have h' : x = r := by simpa using h
  subst h'
  show (recCells x ++ opCells t)[0 * 1026 + j]? = _
  rw [Nat.zero_mul, Nat.zero_add, List.getElem?_append_left (by rw [recCells_len]; exact hj)]
 | x :: t, i + 1, j, r, h, hj => by
  have h' : t[i]? = some r := by simpa using h
  show (recCells x ++ opCells t)[(i + 1) * 1026 + j]? = _
  rw [List.getElem?_append_right (by rw [recCells_len, Nat.add_mul]; omega), recCells_len, show (i + 1) * 1026 + j - 1026 = i * 1026 + j by rw [Nat.add_mul]; omega]
  exact opCells_get t i j r h' hj
theorem DiskAt.histAt (h : DiskAt w L s) {g : Nat} (hg : L.hv.ownBlock = some g) {i j : Nat} {r : Rec} (hi : s.ops[i]? = some r) (hj : j < 1026) : w.cell? ⟨g, i * 1026 + j, none⟩ = (recCells r)[j]? := by
 rcases h.hist.2 with ⟨h1, _⟩ | ⟨g', cap, cur, h1, _, hh, hc, hm, hs, ht⟩
 ·rw [h1] at hg; cases hg
 ·rw [h1] at hg
  have e : g' = g := by injection hg
  subst e
  have hlt : i < s.ops.length := (List.getElem?_eq_some_iff.1 hi).1
  have hin : i * 1026 + j < s.ops.length * 1026 := by simp only [Nat.mul_comm _ 1026] at *; omega
  rw [cell_of_row w g' _ cur 98 _ hh, ← Array.getElem?_toList, ← opCells_get _ i j r hi hj, ← ht, List.getElem?_take_of_lt hin]
theorem DiskAt.histPos (h : DiskAt w L s) {g : Nat} (hg : L.hv.ownBlock = some g) {i : Nat} {r : Rec} (hi : s.ops[i]? = some r) : w.cell? ⟨g, i * 1026 + 1, none⟩ = some (.int .i64 r.pos) :=
 (h.histAt hg hi (by omega)).trans rfl
theorem DiskAt.histBlk (h : DiskAt w L s) {g : Nat} (hg : L.hv.ownBlock = some g) {i : Nat} {r : Rec} (hi : s.ops[i]? = some r) : BlkAt w g (i * 1026 + 2) r.dat := fun j v hv => by
 have hj : j < 1024 := by have := (List.getElem?_eq_some_iff.1 hv).1; rwa [blk_list_len] at this
 rw [Nat.add_assoc, Nat.add_comm 2 j, h.histAt hg hi (by omega)]
 rw [show (recCells r)[j + 2]? = (blk r.dat).toList[j]? by simp only [recCells, List.getElem?_cons_succ]]
 exact hv
theorem DiskAt.shape (h : DiskAt w L s) : ∃ p c, L.hv = .slice p s.ops.length c ∧ s.ops.length ≤ c ∧ c ≤ maxLen ∧ (p = none ∧ c = 0 ∨ ∃ g, p = some ⟨g, 0, none⟩ ∧ L.hv.ownBlock = some g ∧ g < w.heap.size) := by
 rcases h.hist.2 with ⟨h1, h2⟩ | ⟨g', cap, cur, h1, _, hh, hc, hm, hs, ht⟩
 ·exact ⟨none, 0, by rw [h1, h2], by omega, by unfold maxLen; omega, .inl ⟨rfl, rfl⟩⟩
 ·exact ⟨_, cap, h1, hc, hm, .inr ⟨g', rfl, by rw [h1]; rfl, (Array.getElem?_eq_some_iff.1 hh).1⟩⟩
theorem ops_len (s : St) : s.ops.length = s.done.length + s.wait.length := by simp [St.ops]
theorem ops_wait (s : St) {i : Nat} {c : Cel} (h : s.wait[i]? = some c) : s.ops[s.done.length + i]? = some (wrec c) := by
 unfold St.ops
 rw [List.getElem?_append_right (by omega), Nat.add_sub_cancel_left, List.getElem?_map, h]
 rfl
def pendV (v : Value) (l : Nat) : Value := match v with
 | .slice a n c => sliced a l n c 1026
 | _ => v
theorem DiskAt.pend (h : DiskAt w L s) : ∃ p c, pendV L.hv s.done.length = .slice p s.wait.length c ∧ s.wait.length ≤ c ∧ (0 < s.wait.length → ∃ g, L.hv.ownBlock = some g ∧ p = some ⟨g, s.done.length * 1026, none⟩) := by
 obtain ⟨p, c, h1, h2, h3, h4⟩ := h.shape
 have hl := ops_len s
 refine ⟨if c = s.done.length then p else p.map (·.add (s.done.length * 1026)), c - s.done.length, ?_, by omega, fun hw => ?_⟩
 ·rw [h1]
  show sliced p s.done.length s.ops.length c 1026 = _
  unfold sliced
  rw [hl, Nat.add_sub_cancel_left]
 ·rw [if_neg (by omega)]
  rcases h4 with ⟨_, h5⟩ | ⟨g, h5, h6, _⟩
  ·omega
  ·refine ⟨g, h6, ?_⟩
   rw [h5]
   show some (Addr.add ⟨g, 0, none⟩ _) = _
   rw [Go.WideShapes.add_plain, Nat.zero_add]
theorem elem67 : Tryz.prog.elem 49 = 98 := by kernel_rfl
theorem slice67 (p : Option Addr) (n c l : Nat) (hl : l ≤ n) (u : World) :
  (Instr.sliceAt 49 (.slice p n c) (some (.int .i64 (l : Int))) none none).run Tryz.prog u = .ok (pendV (.slice p n c) l) u := by
 have hu : Tryz.prog.underlying 49 = some (.slice (Tryz.prog.elem 49)) := by rw [elem67]; exact Tryz.underlying49
 rw [run_sliceAt_slice (P := Tryz.prog) u 49 _ _ _ _ hu, run_slice_l (P := Tryz.prog) u 49 p n c hu .i64 l (by omega) (by omega), elem67, Tryz.sizeOf98 u]
 rw [Result.andThen_ok, Int.toNat_natCast]
 rfl
theorem wpStill_slice67 {ops : Array Oper} {Q : Act → Prop} {a : Act} {o : Oper} {rest : List Oper} {w : World} (hgd : o.guard = none) (x y : Operand) (ho : o.op = .slice 49 x (some y) none none)
  (vx vy V : Value) (hx : a.eval x = vx) (hy : a.eval y = vy) (hr : (Instr.sliceAt 49 vx (some vy) none none).run Tryz.prog w = .ok V w)
  (h : wpStill Tryz.prog ops w Q rest (a.put o.dst V)) : wpStill Tryz.prog ops w Q (o :: rest) a := by
 unfold wpStill
 rw [if_pos (by simp [Region.wanted, hgd])]
 unfold Oper.still execOp
 simp only [ho, hx, hy, Option.map, Sem.run_bind, hr, Result.andThen_ok, Sem.run_pure, Oper.stillUpon]
 exact ⟨trivial, h⟩
set_option maxRecDepth 20000 in
theorem pending_of (h : DiskAt w L s) : Calls Tryz.prog 87 #[.pointer (some ⟨L.d, 0, none⟩)] w fun e w' => e = .returned (pendV L.hv s.done.length) ∧ w' = w.drew := by
 have c3 := h.c3
 have c4 := h.c4
 obtain ⟨p, c, h1, h2, h3, h4⟩ := h.shape
 have hl := ops_len s
 rw [h1] at c3 ⊢
 have hs := slice67 p s.ops.length c s.done.length (by omega)
 generalize pendV (.slice p s.ops.length c) s.done.length = V at *
 clear h h1 h4 hl h2 h3
 generalize s.ops.length = m at *
 generalize s.done.length = l at *
 go_enter Tryz.func87, Tryz.ntmps87
 go_wp2
 refine wp_region_still_lit (by kernel_rfl) (by kernel_rfl) ?_
 iterate 8 still_step
 refine wpStill_slice67 rfl _ _ rfl _ _ V rfl rfl (hs _) ?_
 simp only [Act.put, pA, pB, pC]
 iterate 1 still_step
 refine wpStill_nil ?_
 change Exit.then _ _ _ _ (World.drew _)
 go_wp2
 go_ret
 exact ⟨rfl, rfl⟩
def row12 (d : Nat) (n : Int) (hb : Nat) (hv : Value) (bh : Int) (lb : Nat) (fu : Int) (st : Bool) (ma re cl : Int) (cd : Bool) : Array Value :=
 #[.pointer (some ⟨d, 0, none⟩), .int .i64 n, .map (some hb), hv, .int .i64 bh, .map (some lb), .int .i64 fu, .bool st, .int .i64 ma, .int .i64 re, .int .i64 cl, .bool cd]
theorem nothing_of {d : Nat} {n : Int} {hb : Nat} {p : Option Addr} {m c : Nat} {bh : Int} {lb : Nat} {fu : Int} {st : Bool} {ma re cl : Int} {cd : Bool} (h : w.heap[d]? = some (.cells (row12 d n hb (.slice p m c) bh lb fu st ma re cl cd) 95)) :
  Calls Tryz.prog 88 #[.pointer (some ⟨d, 0, none⟩)] w fun e w' => e = .returned (.tuple #[]) ∧ w'.heap[d]? = some (.cells (row12 d n hb (.slice p m c) m w.heap.size fu st ma re cl cd) 95) ∧ MapIs Tryz.prog 3 w' w.heap.size (fun _ => none) ∧ Fr (fun i => i = d) w w' := by
 have hmm := @run_makeMap Tryz.prog
 have hlt : d < w.heap.size := (Array.getElem?_eq_some_iff.1 h).1
 have c3 : w.cell? ⟨d, 3, none⟩ = some (.slice p m c) := Joins.cell_of_block h 3
 have c4 : w.cell? ⟨d, 4, none⟩ = some (.int .i64 bh) := Joins.cell_of_block h 4
 have f4 : w.frozen? ⟨d, 4, none⟩ = false := Joins.unfrozen_of_block h 4
 have c5 : w.cell? ⟨d, 5, none⟩ = some (.map (some lb)) := Joins.cell_of_block h 5
 have f5 : w.frozen? ⟨d, 5, none⟩ = false := Joins.unfrozen_of_block h 5
 have hS : ((w.setCell ⟨d, 4, none⟩ (.int .i64 (m : Int))).setCell ⟨d, 5, none⟩ (.map (some w.heap.size))).heap.size = w.heap.size := by simp
 have hR : Hid ((((w.setCell ⟨d, 4, none⟩ (.int .i64 (m : Int))).setCell ⟨d, 5, none⟩ (.map (some w.heap.size))).alloc (.map #[] 0)).heap[d]? = some (.cells (row12 d n hb (.slice p m c) m w.heap.size fu st ma re cl cd) 95)) := by
  have h1 := Joins.block_setCell h (i := 4) (.int .i64 (m : Int))
  have h3 := Joins.block_setCell h1 (i := 5) (.map (some w.heap.size))
  exact (((Below.refl (d + 1) _).alloc (by rw [hS]; omega) _).block d (by omega)).trans h3
 have hM : Hid (MapIs Tryz.prog 3 (((w.setCell ⟨d, 4, none⟩ (.int .i64 (m : Int))).setCell ⟨d, 5, none⟩ (.map (some w.heap.size))).alloc (.map #[] 0)) w.heap.size (fun _ => none)) := by
  have h1 := MapIs.made (P := Tryz.prog) (k := 3) ((w.setCell ⟨d, 4, none⟩ (.int .i64 (m : Int))).setCell ⟨d, 5, none⟩ (.map (some w.heap.size)))
  rwa [hS] at h1
 have hF : Hid (Fr (fun i => i = d) w (((w.setCell ⟨d, 4, none⟩ (.int .i64 (m : Int))).setCell ⟨d, 5, none⟩ (.map (some w.heap.size))).alloc (.map #[] 0))) :=
  ((Fr.setCell w d 4 _).trans (Fr.setCell _ d 5 _) fun _ _ q => q).trans (Fr.alloc (fun i => i = d) _ _) fun _ _ q => q
 clear h hS
 go_enter Tryz.func88, Tryz.ntmps88
 go_wp2
 go_end0
 exact ⟨rfl, hR.out, hM.out, hF.out⟩
end Go.Proofs.YtichojdcoegboaaGreatW
namespace Go.Proofs.YtichojdcoegboaaGreatW
open Go.RowKit
variable {w : World} {L : Loc} {s : St}
theorem info108 : (Tryz.prog.info? 98).map (fun i => (i.zero, i.size, i.bytes)) = some (some (.agg (recCells ⟨0, 0, nought⟩).toArray), 1026, 1040) := by kernel_rfl
theorem zero108 : ∀ w, (zeroValue 98).run Tryz.prog w = .ok (.agg (recCells ⟨0, 0, nought⟩).toArray) w := by
 obtain ⟨i0, hi0, hz0, hz1, hz2⟩ := info_parts info108
 exact (zero_of_info (t := 98) (P := Tryz.prog) (by rw [hi0]; exact congrArg some (Prod.ext hz0 hz1))).1
theorem fold_set (b : Nat) : ∀ (l : List Value) (k : Nat) (cs : Array Value), b + k + l.length ≤ cs.size → ∀ j,
  ((l.zipIdx k).foldl (fun (cs : Array Value) (p : Value × Nat) => cs.setIfInBounds (b + p.2) p.1) cs)[j]? = if b + k ≤ j ∧ j < b + k + l.length then l[j - (b + k)]? else cs[j]?
 | [], k, cs, _, j => by simp; intro h1 h2; omega
 | v :: l, k, cs, h, j => by
  simp only [List.length_cons] at h
  rw [List.zipIdx_cons, List.foldl_cons, fold_set b l (k + 1) _ (by simp; omega) j]
  by_cases h1 : b + (k + 1) ≤ j ∧ j < b + (k + 1) + l.length
  ·rw [if_pos h1, if_pos (by simp only [List.length_cons]; omega), show j - (b + k) = (j - (b + (k + 1))) + 1 by omega, List.getElem?_cons_succ]
  ·rw [if_neg h1, Array.getElem?_setIfInBounds]
   by_cases h2 : b + k = j
   ·subst h2; rw [if_pos rfl, if_pos (by omega), if_pos (by simp only [List.length_cons]; omega), Nat.sub_self]; rfl
   ·rw [if_neg h2, if_neg (by simp only [List.length_cons]; omega)]
theorem fold_over (b : Nat) (c cs : Array Value) (h : b + c.size ≤ cs.size) :
  Array.foldl (fun (cs : Array Value) (p : Value × Nat) => cs.setIfInBounds (b + p.2) p.1) cs c.zipIdx = (cs.toList.take b ++ (c.toList ++ cs.toList.drop (b + c.size))).toArray := by
 apply Array.ext_getElem?
 intro j
 rw [← Array.foldl_toList, Array.toList_zipIdx, fold_set b c.toList 0 _ (by rw [Array.length_toList]; omega), Array.length_toList]
 rw [show ((cs.toList.take b ++ (c.toList ++ cs.toList.drop (b + c.size))).toArray)[j]? = (cs.toList.take b ++ (c.toList ++ cs.toList.drop (b + c.size)))[j]? from List.getElem?_toArray]
 by_cases h1 : j < b
 ·rw [if_neg (by omega), List.getElem?_append_left (by rw [List.length_take, Array.length_toList]; omega), List.getElem?_take_of_lt h1, Array.getElem?_toList]
 ·rw [List.getElem?_append_right (by rw [List.length_take, Array.length_toList]; omega), List.length_take, Array.length_toList, Nat.min_eq_left (by omega)]
  by_cases h2 : j < b + c.size
  ·rw [if_pos (by omega), List.getElem?_append_left (by rw [Array.length_toList]; omega), Nat.add_zero]
  ·rw [if_neg (by omega), List.getElem?_append_right (by rw [Array.length_toList]; omega), Array.length_toList, List.getElem?_drop, Array.getElem?_toList, show b + c.size + (j - b - c.size) = j by omega]
theorem fill_rec (k p : Int) (f : Nat → Int) (Z : Array Value) (hZ : Z.size = 1026) (place : Nat → Option (Nat × Nat)) (h0 : place 0 = some (0, 1)) (h1 : place 1 = some (1, 1)) (h2 : place 2 = some (2, 1024)) :
  Instr.fill place Z [(0, .int .u8 k), (1, .int .i64 p), (2, .agg (blk f))] = some (recCells ⟨k, p, f⟩).toArray := by
 have hb := blk_size f
 unfold Instr.fill
 rw [h0]
 simp only [Value.cells, List.size_toArray, List.length_cons, List.length_nil, hZ]
 rw [if_neg (by simp)]
 unfold Instr.fill
 rw [h1]
 simp only [Value.cells, List.size_toArray, List.length_cons, List.length_nil]
 rw [fold_over 0 #[.int .u8 k] Z (by rw [hZ]; simp)]
 rw [if_neg (by simp [hZ])]
 unfold Instr.fill
 rw [h2]
 simp only [Value.cells, hb]
 rw [fold_over 1 #[.int .i64 p] _ (by simp [hZ])]
 rw [if_neg (by simp [hZ])]
 rw [fold_over 2 (blk f) _ (by simp [hZ, hb])]
 have hl : Z.toList.length = 1026 := by rw [Array.length_toList, hZ]
 obtain ⟨z0, z1, r, hz, hr⟩ : ∃ z0 z1 r, Z.toList = z0 :: z1 :: r ∧ r.length = 1024 := by
  cases hz : Z.toList with
  | nil => rw [hz, List.length_nil] at hl; omega
  | cons z0 t =>
   cases t with
   | nil => rw [hz, List.length_cons, List.length_nil] at hl; omega
   | cons z1 r => exact ⟨z0, z1, r, rfl, by rw [hz, List.length_cons, List.length_cons] at hl; omega⟩
 rw [hz]
 simp only [List.take_zero, List.nil_append, List.take_succ_cons, List.drop_succ_cons, List.drop_zero, List.singleton_append, List.size_toArray, List.length_cons, List.length_nil, hb, Nat.zero_add, Nat.reduceAdd]
 unfold Instr.fill
 rw [List.drop_eq_nil_of_le (by omega), List.append_nil]
 rfl
theorem build108 (k p : Int) (f : Nat → Int) (u : World) : (Instr.build 98 #[(0, .int .u8 k), (1, .int .i64 p), (2, .agg (blk f))]).run Tryz.prog u = .ok (.agg (recCells ⟨k, p, f⟩).toArray) u := by
 have z := zero108
 have hZ : (recCells ⟨0, 0, nought⟩).toArray.size = 1026 := by rw [List.size_toArray, recCells_len]
 generalize (recCells ⟨0, 0, nought⟩).toArray = Z at *
 have hf := fill_rec k p f Z hZ
 simp [Instr.build, z, run_underlying Tryz.underlying98, Value.cells]
 rw [hf _ rfl rfl rfl]
 simp only [Sem.run_pure]
theorem fill_bar (k : Int) (place : Nat → Option (Nat × Nat)) (h0 : place 0 = some (0, 1)) :
  Instr.fill place (recCells ⟨0, 0, nought⟩).toArray [(0, .int .u8 k)] = some (recCells ⟨k, 0, nought⟩).toArray := by
 have hb := blk_list_len nought
 unfold recCells
 simp only
 generalize (blk nought).toList = B at *
 unfold Instr.fill
 rw [h0]
 simp only [Value.cells, List.size_toArray, List.length_cons, List.length_nil]
 rw [if_neg (by simp), fold_over 0 #[.int .u8 k] _ (by simp)]
 unfold Instr.fill
 simp only [List.take_zero, List.nil_append, List.size_toArray, List.length_cons, List.length_nil, Nat.zero_add, List.drop_succ_cons, List.drop_zero, List.singleton_append]
theorem build108b (k : Int) (u : World) : (Instr.build 98 #[(0, .int .u8 k)]).run Tryz.prog u = .ok (.agg (recCells ⟨k, 0, nought⟩).toArray) u := by
 have z := zero108
 have hf := fill_bar k
 generalize (recCells ⟨0, 0, nought⟩).toArray = Z at *
 generalize (recCells ⟨k, 0, nought⟩).toArray = Z' at *
 simp [Instr.build, z, run_underlying Tryz.underlying98, Value.cells]
 rw [hf _ rfl]
 simp only [Sem.run_pure]
theorem run_buildSlice_gen {P : Program} (u : World) (t e : TypeId) (len size : Nat) (zero : Value) (parts : Array (Nat × Value)) (cells : Array Value) (hu : P.underlying t = some (.slice e)) (hs : (sizeOf e).run P u = .ok size u)
  (hb : ¬ len * size > 2 ^ 24) (h0 : ¬ len * size = 0) (hz : (zeroValue e).run P u = .ok zero u)
  (hf : Instr.fill (fun i => some (i * size, size)) ((Array.range (len * size)).map (zero.cells[· % zero.cells.size]!)) parts.toList = some cells) :
  (Instr.buildSlice t len parts).run P u = .ok (.slice (some ⟨u.heap.size, 0, none⟩) len len) (u.alloc (.cells cells e)) := by
 simp only [Instr.buildSlice, Sem.run_bind, run_underlying hu, Result.andThen_ok, hs]
 rw [if_neg hb, if_neg h0]
 simp only [Sem.run_bind, hz, Result.andThen_ok, Sem.run_pure, hf, newRow, run_newObj_alloc]
theorem fill_one (c z : Array Value) (n : Nat) (hc : c.size = n) (hz : z.size = n) : Instr.fill (fun i => some (i * n, n)) z [(0, .agg c)] = some c := by
 unfold Instr.fill
 simp only [Value.cells, Nat.zero_mul]
 rw [if_neg (by simp [hc, hz]), fold_over 0 c z (by omega)]
 unfold Instr.fill
 rw [List.take_zero, List.nil_append, List.drop_eq_nil_of_le (by rw [Array.length_toList]; omega), List.append_nil]
theorem build1 (t e n : Nat) (zero : Value) (c : Array Value) (hu : Tryz.prog.underlying t = some (.slice e)) (hs : ∀ u, (sizeOf e).run Tryz.prog u = .ok n u) (hn : 0 < n ∧ n ≤ 16777216) (hz : ∀ u, (zeroValue e).run Tryz.prog u = .ok zero u) (hc : c.size = n) (u : World) :
  (Instr.buildSlice t 1 #[(0, .agg c)]).run Tryz.prog u = .ok (.slice (some ⟨u.heap.size, 0, none⟩) 1 1) (u.alloc (.cells c e)) :=
 run_buildSlice_gen u t e 1 n zero #[(0, .agg c)] c hu (hs u) (by omega) (by omega) (hz u) (fill_one c _ n hc (by rw [Array.size_map, Array.size_range]; omega))
theorem wpList_build1 {ops : Array Oper} {rest : List Oper} {o : Oper} {a : Act} {w : World} {Q : Exit → Act → World → Prop} (hgd : o.guard = none) (t e : TypeId) (x : Operand) (ho : o.op = .buildSlice t 1 #[(0, x)])
  (c : Array Value) (hx : a.eval x = .agg c) (hr : (Instr.buildSlice t 1 #[(0, .agg c)]).run Tryz.prog w = .ok (.slice (some ⟨w.heap.size, 0, none⟩) 1 1) (w.alloc (.cells c e)))
  (h : wpList Tryz.prog ops Q rest (a.put o.dst (.slice (some ⟨w.heap.size, 0, none⟩) 1 1)) (w.alloc (.cells c e))) : wpList Tryz.prog ops Q (o :: rest) a w :=
 wpList_plain hgd fun _ hK => by
  have hm : (#[(0, x)] : Array (Nat × Operand)).map (fun p => (p.1, a.eval p.2)) = #[(0, .agg c)] := by simp [hx]
  have e' : (execOp a.eval o).run Tryz.prog w = .ok (.value (.slice (some ⟨w.heap.size, 0, none⟩) 1 1)) (w.alloc (.cells c e)) := by
   unfold execOp
   simp only [ho, hm, Sem.run_bind]
   simp only [hr, Result.andThen_ok, Sem.run_pure]
  unfold Oper.wp
  rw [e']
  exact hK _ _ h
theorem rec_size (r : Rec) : (recCells r).toArray.size = 1026 := by rw [List.size_toArray, recCells_len]
theorem build67 (r : Rec) (u : World) : (Instr.buildSlice 49 1 #[(0, .agg (recCells r).toArray)]).run Tryz.prog u = .ok (.slice (some ⟨u.heap.size, 0, none⟩) 1 1) (u.alloc (.cells (recCells r).toArray 98)) :=
 build1 49 98 1026 _ _ Tryz.underlying49 Tryz.sizeOf98 (by omega) zero108 (rec_size r) u
theorem opCells_one (r : Rec) : opCells [r] = recCells r := by simp [opCells]
theorem append_where {W : World} {v : Value} {n : Nat} {xs : List Value} (hown : W.ownsRow 0 98 1026 v n xs) {ad : Addr} {c : Nat} {news : List Value} (hl : news.length = 1 * 1026)
  (hnews : ∀ j u, news[j]? = some u → W.cell? (ad.add j) = some u) (h1 : ∀ u ∈ news, u.oneCell' = true) (hn : n < 68719476736) {ty : TypeId} {v' : Value} {w' : World}
  (hr : (Builtin.append_ #[49, 49] ty #[v, .slice (some ad) 1 c]).run Tryz.prog W = .ok v' w') : v'.ownBlock = v.ownBlock ∨ v'.ownBlock = some W.heap.size := by
 obtain ⟨i0, hi0, hz0, hz1, hz2⟩ := info_parts info108
 rcases hown.2 with ⟨rfl, rfl⟩ | ⟨g, cap, cur, rfl, _, hg, hnc, hcm, hcs, htake⟩
 ·rw [run_append_nil (P := Tryz.prog) W 49 ty 98 i0 _ Tryz.underlying49 hi0 hz0 ad 1 c news (by rw [hz1]; exact hl) hnews (by omega) (by omega) (by rw [hz2]; omega)] at hr
  injection hr with h1 h2
  rw [← h1]
  exact .inr rfl
 ·by_cases hroom : n + 1 ≤ cap
  ·rw [run_append_room (P := Tryz.prog) W 49 ty 98 i0 Tryz.underlying49 hi0 g n cap cur hg ad 1 c news (by rw [hz1]; exact hl) hnews h1 hroom (by rw [hz1, hl, hcs]; simp only [Nat.mul_comm _ 1026]; omega)] at hr
   injection hr with h1 h2
   rw [← h1]
   exact .inl rfl
  ·rw [run_append_grow (P := Tryz.prog) W 49 ty 98 i0 _ Tryz.underlying49 hi0 hz0 ⟨g, 0, none⟩ n cap xs (by rw [hz1]; exact hown.1) (hown.cells (g := g) rfl) ad 1 c news (by rw [hz1]; exact hl) hnews (by omega) (by omega) (growslice_fits_wide (by omega) (by rw [hz2]; omega))] at hr
   injection hr with h1 h2
   rw [← h1]
   exact .inr rfl
theorem push_run {W : World} {v : Value} {l : List Rec} (r : Rec) (ty : TypeId) (hown : W.ownsRow 0 98 1026 v l.length (opCells l)) (hn : l.length < 68719476736) :
  ∃ v' w', (Builtin.append_ #[49, 49] ty #[v, .slice (some ⟨W.heap.size, 0, none⟩) 1 1]).run Tryz.prog (W.alloc (.cells (recCells r).toArray 98)) = .ok v' w' ∧
   w'.ownsRow 0 98 1026 v' (l ++ [r]).length (opCells (l ++ [r])) ∧ Fr (fun i => v.ownBlock = some i) W w' ∧ (∀ k, v'.ownBlock = some k → v.ownBlock = some k ∨ W.heap.size ≤ k) := by
 obtain ⟨i0, hi0, hz0, hz1, hz2⟩ := info_parts info108
 have hown1 := World.ownsRow.alloc hown (.cells (recCells r).toArray 98)
 have hnews : ∀ j u, (recCells r)[j]? = some u → (W.alloc (.cells (recCells r).toArray 98)).cell? ((⟨W.heap.size, 0, none⟩ : Addr).add j) = some u := fun j u hu => by
  rw [Go.WideShapes.add_plain, Nat.zero_add, cell_of_row _ _ j _ 98 _ (heap_alloc_new W _), List.getElem?_toArray]
  exact hu
 obtain ⟨v', w', hr, h2, hg, _⟩ := run_append_own_wide (P := Tryz.prog) (W.alloc (.cells (recCells r).toArray 98)) 0 49 ty 98 i0 _ 1026 1040 Tryz.underlying49 hi0 hz0 hz1 hz2 (rec_size _) (by decide) v l.length _ hown1 ⟨W.heap.size, 0, none⟩ 1 1 (recCells r) (by rw [recCells_len]) hnews
  (recCells_one r) (by unfold maxLen; omega) (by omega) (Nat.zero_le _)
 refine ⟨v', w', hr, ?_, (Fr.alloc _ W _).trans (Fr.ofGrown hg) fun _ _ q => q, fun k hk => ?_⟩
 ·rw [List.length_append, List.length_singleton, opCells_append, opCells_one]
  exact h2
 ·rcases append_where hown1 (by rw [recCells_len]) hnews (recCells_one r) hn hr with h | h
  ·exact .inl (h ▸ hk)
  ·rw [h] at hk
   injection hk with hk
   simp at hk
   exact .inr (by omega)
theorem wpList_pushR {ops : Array Oper} {rest : List Oper} {o : Oper} {a : Act} {W : World} {Q : Exit → Act → World → Prop} (hgd : o.guard = none) (s x : Operand)
  (ho : o.op = .call { callee := .builtin .append, args := #[s, x], argTypes := #[49, 49] }) (v : Value) (l : List Rec) (r : Rec) (hs : a.eval s = v)
  (hx : a.eval x = .slice (some ⟨W.heap.size, 0, none⟩) 1 1) (hown : W.ownsRow 0 98 1026 v l.length (opCells l)) (hn : l.length < 68719476736)
  (h : ∀ v' w', w'.ownsRow 0 98 1026 v' (l ++ [r]).length (opCells (l ++ [r])) → Fr (fun i => v.ownBlock = some i) W w' → (∀ k, v'.ownBlock = some k → v.ownBlock = some k ∨ W.heap.size ≤ k) → wpList Tryz.prog ops Q rest (a.put o.dst v') w') :
  wpList Tryz.prog ops Q (o :: rest) a (W.alloc (.cells (recCells r).toArray 98)) := by
 refine wpList_plain hgd fun K' hK' => ?_
 obtain ⟨v', w', hr, h1, h2, h3⟩ := push_run r o.type hown hn
 unfold Oper.wp
 simp [execOp, ho, resolve, invoke, builtin, hs, hx, hr, Result.andThen]
 exact hK' _ _ (h v' w' h1 h2 h3)
end Go.Proofs.YtichojdcoegboaaGreatW
namespace Go.Proofs.YtichojdcoegboaaGreatW
open Go.RowKit
structure RawAt (w : World) (L : Loc) (row : Array Value) (held late : Int → Option Value) (ops : List Rec) : Prop where
 row : w.heap[L.d]? = some (.cells row 95)
 held : MapIs Tryz.prog 3 w L.hb held
 late : MapIs Tryz.prog 3 w L.lb late
 hist : w.ownsRow 0 98 1026 L.hv ops.length (opCells ops)
 ne : L.hb ≠ L.lb
variable {w w' : World} {L : Loc} {s : St} {row : Array Value} {held late : Int → Option Value} {ops : List Rec}
theorem DiskAt.raw (h : DiskAt w L s) : RawAt w L (dkRow L s) (heldV s) (lateV s) s.ops := ⟨h.row, h.held, h.late, h.hist, h.ne⟩
theorem RawAt.disk (h : RawAt w L (dkRow L s) (heldV s) (lateV s) s.ops) (ok : Ok s) : DiskAt w L s := ⟨h.row, h.held, h.late, h.hist, h.ne, ok⟩
theorem hist_block {v : Value} {n : Nat} {xs : List Value} (h : w.ownsRow 0 98 1026 v n xs) {k : Nat} (hk : v.ownBlock = some k) : ∃ cur, w.heap[k]? = some (.cells cur 98) := by
 rcases h.2 with ⟨h1, _⟩ | ⟨g, cap, cur, h1, _, h2, _⟩
 ·rw [h1] at hk; cases hk
 ·rw [h1] at hk
  have e : g = k := by injection hk
  subst e
  exact ⟨cur, h2⟩
theorem map_row {b d : Nat} {m : Int → Option Value} {r : Array Value} {t : TypeId} (h : MapIs Tryz.prog 3 w b m) (hr : w.heap[d]? = some (.cells r t)) : b ≠ d := fun e => by
 obtain ⟨es, ck, hm⟩ := h.isMap
 rw [e, hr] at hm
 cases hm
theorem hist_row {v : Value} {n : Nat} {xs : List Value} (h : w.ownsRow 0 98 1026 v n xs) {d : Nat} {r : Array Value} (hr : w.heap[d]? = some (.cells r 95)) : v.ownBlock ≠ some d := fun e => by
 obtain ⟨cur, hc⟩ := hist_block h e
 rw [hr] at hc
 cases hc
theorem hist_map {v : Value} {n : Nat} {xs : List Value} (h : w.ownsRow 0 98 1026 v n xs) {b : Nat} {m : Int → Option Value} (hm : MapIs Tryz.prog 3 w b m) : v.ownBlock ≠ some b := fun e => by
 obtain ⟨cur, hc⟩ := hist_block h e
 exact map_row hm hc rfl
theorem RawAt.lt (h : RawAt w L row held late ops) (k : Nat) (hk : L.has k) : k < w.heap.size := by
 rcases hk with rfl | rfl | rfl | hk
 ·exact (Array.getElem?_eq_some_iff.1 h.row).1
 ·exact h.held.lt
 ·exact h.late.lt
 ·exact (h.hist.lt k hk).2
theorem RawAt.fr (h : RawAt w L row held late ops) {T : Nat → Prop} (hf : Fr T w w') (hT : ∀ k, L.has k → ¬ T k) : RawAt w' L row held late ops := by
 have hb : ∀ k, L.has k → w'.heap[k]? = w.heap[k]? := fun k hk => hf.block k (h.lt k hk) (hT k hk)
 exact ⟨(hb _ (.inl rfl)).trans h.row, h.held.kept (hb _ (.inr (.inl rfl))), h.late.kept (hb _ (.inr (.inr (.inl rfl)))), ownsRow_kept0 h.hist fun k hk => hb k (.inr (.inr (.inr hk))), h.ne⟩
theorem RawAt.rowTo (h : RawAt w L row held late ops) {row' : Array Value} (hr : w'.heap[L.d]? = some (.cells row' 95)) (hf : Fr (fun i => i = L.d) w w') : RawAt w' L row' held late ops := by
 have hb : ∀ k, L.has k → k ≠ L.d → w'.heap[k]? = w.heap[k]? := fun k hk hn => hf.block k (h.lt k hk) hn
 exact ⟨hr, h.held.kept (hb _ (.inr (.inl rfl)) (map_row h.held h.row)), h.late.kept (hb _ (.inr (.inr (.inl rfl))) (map_row h.late h.row)), ownsRow_kept0 h.hist fun k hk => hb k (.inr (.inr (.inr hk))) fun e => hist_row h.hist h.row (e ▸ hk), h.ne⟩
theorem RawAt.cell (h : RawAt w L row held late ops) (i : Nat) (v : Value) : RawAt (w.setCell ⟨L.d, i, none⟩ v) L (row.setIfInBounds i v) held late ops :=
 h.rowTo (Joins.block_setCell h.row v) (Fr.setCell w L.d i v)
theorem RawAt.lateTo (h : RawAt w L row held late ops) {late' : Int → Option Value} (hm : MapIs Tryz.prog 3 w' L.lb late') (hf : Fr (fun i => i = L.lb) w w') : RawAt w' L row held late' ops := by
 have hb : ∀ k, L.has k → k ≠ L.lb → w'.heap[k]? = w.heap[k]? := fun k hk hn => hf.block k (h.lt k hk) hn
 exact ⟨(hb _ (.inl rfl) fun e => map_row h.late h.row e.symm).trans h.row, h.held.kept (hb _ (.inr (.inl rfl)) h.ne), hm, ownsRow_kept0 h.hist fun k hk => hb k (.inr (.inr (.inr hk))) fun e => hist_map h.hist h.late (e ▸ hk), h.ne⟩
theorem RawAt.lateNew (h : RawAt w L row held late ops) {b : Nat} {late' : Int → Option Value} (hb : L.hb ≠ b) (hm : MapIs Tryz.prog 3 w b late') : RawAt w ⟨L.d, L.hb, b, L.hv⟩ row held late' ops := ⟨h.row, h.held, hm, h.hist, hb⟩
theorem RawAt.histTo (h : RawAt w L row held late ops) {v : Value} {ops' : List Rec} (ho : w'.ownsRow 0 98 1026 v ops'.length (opCells ops')) (hf : Fr (fun i => L.hv.ownBlock = some i) w w') : RawAt w' ⟨L.d, L.hb, L.lb, v⟩ row held late ops' := by
 have hb : ∀ k, L.has k → L.hv.ownBlock ≠ some k → w'.heap[k]? = w.heap[k]? := fun k hk hn => hf.block k (h.lt k hk) hn
 exact ⟨(hb _ (.inl rfl) (hist_row h.hist h.row)).trans h.row, h.held.kept (hb _ (.inr (.inl rfl)) (hist_map h.hist h.held)), h.late.kept (hb _ (.inr (.inr (.inl rfl))) (hist_map h.hist h.late)), ho, h.ne⟩
theorem Goes.of {a b : World} {L L' : Loc} {T : Nat → Prop} (hd : L'.d = L.d) (ho : ∀ k, L'.has k → L.has k ∨ a.heap.size ≤ k) (hf : Fr T a b) (hT : ∀ i, i < a.heap.size → T i → L.has i) : Goes a b L L' := ⟨hd, ho, hf.mono hT⟩
end Go.Proofs.YtichojdcoegboaaGreatW
