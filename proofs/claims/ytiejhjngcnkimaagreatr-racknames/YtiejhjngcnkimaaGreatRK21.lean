/- Several texts joined, each with its own remark; no condition. -/
import Derived.Test.YtiejhjngcnkimaaGreatRK20
import Derived.Test.YtiejhjngcnkimaaGreatRK17
/- A block of a file laid on the page, where its number lies in the inode itself. -/
namespace Go.Proofs.YtiejhjngcnkimaaGreatR
open Go.RowKit Go.Maps
def overN (F : Nat → Int) (o n : Nat) (f : Nat → Int) : Nat → Int := fun j => if o ≤ j ∧ j < o + n then f (j - o) else F j
def ovL (F : Nat → Int) (o : Nat) : List Int → Nat → Int
  | [] => F
  | x :: r => ovL (updN F o x) (o + 1) r
theorem ovL_get : ∀ (l : List Int) (F : Nat → Int) (o j : Nat), ovL F o l j = if o ≤ j ∧ j < o + l.length then l.getD (j - o) 0 else F j
  | [], F, o, j => by rw [ovL, if_neg (by rw [List.length_nil]; omega)]
  | x :: r, F, o, j => by
    rw [ovL, ovL_get r (updN F o x) (o + 1) j, List.length_cons]
    by_cases h : o + 1 ≤ j ∧ j < o + 1 + r.length
    · rw [if_pos h, if_pos (by omega), show j - o = (j - (o + 1)) + 1 by omega, List.getD_cons_succ]
    · rw [if_neg h]
      unfold updN
      by_cases e : j = o
      · subst e
        rw [if_pos rfl, if_pos (by omega), Nat.sub_self, List.getD_cons_zero]
      · rw [if_neg e, if_neg (by omega)]
theorem setCells_row {t : TypeId} (g m : Nat) : ∀ (l : List Int) (o : Nat) (F : Nat → Int) (w : World), w.heap[g]? = some (.cells (rowN .u8 F m) t) → (w.setCells g o (l.map (Value.int .u8))).heap[g]? = some (.cells (rowN .u8 (ovL F o l) m) t)
  | [], _, _, _, h => h
  | x :: l, o, F, _, h => setCells_row g m l (o + 1) (updN F o x) _ (setCell_rowN h o x)
theorem heap_setCells (b : Nat) : ∀ (vs : List Value) (o : Nat) (w : World) (k : Nat), k ≠ b → (w.setCells b o vs).heap[k]? = w.heap[k]?
  | [], _, _, _, _ => rfl
  | v :: r, o, w, k, h => (heap_setCells b r (o + 1) _ k h).trans (Below.heap_setCell w _ v k h)
theorem rowN_list (f : Nat → Int) (n : Nat) : (rowN .u8 f n).toList = ((List.range n).map f).map (Value.int .u8) := by simp [rowN, Function.comp_def]
theorem setCells_rowN {t : TypeId} (g m o n : Nat) (F f : Nat → Int) (w : World) (h : w.heap[g]? = some (.cells (rowN .u8 F m) t)) : (w.setCells g o (rowN .u8 f n).toList).heap[g]? = some (.cells (rowN .u8 (overN F o n f) m) t) := by
  rw [rowN_list, setCells_row g m _ o F w h, rowN_congr (g := overN F o n f) fun i _ => ?_]
  rw [ovL_get]
  unfold overN
  rw [List.length_map, List.length_range]
  split
  · rename_i q
    rw [List.getD_eq_getElem?_getD, List.getElem?_map, List.getElem?_range (by omega)]
    rfl
  · rfl
theorem setCells_same (w : World) (g : Nat) : ∀ (vs : List Value) (o : Nat), (w.setCells g o vs).heap.size = w.heap.size ∧ (w.setCells g o vs).os = w.os ∧ (w.setCells g o vs).tape = w.tape ∧ (w.setCells g o vs).output = w.output := fun vs => by
  induction vs generalizing w with
  | nil => exact fun _ => ⟨rfl, rfl, rfl, rfl⟩
  | cons v r ih =>
    intro o
    have := ih (w.setCell ⟨g, o, none⟩ v) (o + 1)
    have hF := Fr.setCell w g o v
    exact ⟨this.1.trans (by simp), this.2.1.trans hF.os, this.2.2.1.trans hF.tape, this.2.2.2.trans hF.output⟩
theorem Fr.setCells (w : World) (g o : Nat) (vs : List Value) : Fr (fun k => k = g) w (w.setCells g o vs) := by
  obtain ⟨h1, h2, h3, h4⟩ := setCells_same w g vs o
  exact ⟨h2, h3, h4, by omega, fun k _ hn => heap_setCells g vs o w k hn⟩
def updF (F : Nat → Nat → Int) (k : Nat) (b : Nat → Int) : Nat → Nat → Int := fun q => if q = k then b else F q
theorem over_pg (F : Nat → Nat → Int) (k : Nat) (b : Nat → Int) (n : Nat) : rowN .u8 (overN (fun i => F (i / 1024) (i % 1024)) (k * 1024) 1024 b) (n * 1024) = pgCells (updF F k b) n := by
  unfold pgCells
  refine rowN_congr fun i _ => ?_
  unfold overN updF
  by_cases h : i / 1024 = k
  · rw [if_pos (by omega), if_pos h, show i - k * 1024 = i % 1024 by omega]
  · rw [if_neg (by omega), if_neg h]
section
variable {W : World} {gp gl gu n : Nat} {y : Lay} {F : Nat → Nat → Int} {U : Nat → Bool} {turn next : Int}
theorem PgAt.setBlk (h : PgAt W gp gl gu n y F U turn next) (k : Nat) (b : Nat → Int) : PgAt (W.setCells gl (k * 1024) (blk b).toList) gp gl gu n y (updF F k b) U turn next := by
  have hF := Fr.setCells W gl (k * 1024) (blk b).toList
  refine ⟨(hF.block _ (Array.getElem?_eq_some_iff.1 h.row).1 h.ne1).trans h.row, ?_, (hF.block _ (Array.getElem?_eq_some_iff.1 h.used).1 (fun q => h.ne3 q.symm)).trans h.used, h.ne1, h.ne2, h.ne3⟩
  have := setCells_rowN gl (n * 1024) (k * 1024) 1024 _ b W h.blks
  rwa [over_pg] at this
theorem PgAt.there (h : PgAt W gp gl gu n y F U turn next) {k : Nat} (hk : k < n) : W.there gl (k * 1024) 1024 := fun j hj => by
  have := cell_rowN (i := k * 1024 + j) (m := n * 1024) h.blks (by omega)
  exact ⟨by rw [this]; rfl, frozen_row h.blks _⟩
theorem PgAt.blkAt (h : PgAt W gp gl gu n y F U turn next) {k : Nat} (hk : k < n) : NumsAt W .u8 gl (k * 1024) (F k) 1024 := fun j hj => by
  have := cell_rowN (i := k * 1024 + j) (m := n * 1024) h.blks (by omega)
  rw [this, show (k * 1024 + j) / 1024 = k by omega, show (k * 1024 + j) % 1024 = j by omega]
end
theorem exec_stB {o : Oper} {a : Act} {w : World} {x y : Operand} {g off : Nat} {f : Nat → Int} (ho : o.op = .store 85 x y) (hx : a.eval x = .pointer (some ⟨g, off, none⟩)) (hy : a.eval y = .agg (blk f)) (ht : w.there g off 1024) : (execOp a.eval o).run Tryz.prog w = .ok .skip (w.setCells g off (blk f).toList) := by
  unfold execOp
  simp only [ho, hx, hy, Sem.run_bind, run_storeAt_mid (P := Tryz.prog) w g off 85 (blk f) (by rw [blk_size]; exact ht) (by rw [blk_size]; exact size77) (rowN_one _ _ _), Result.andThen_ok, Sem.run_pure]
theorem exec_ldB {o : Oper} {a : Act} {w : World} {x : Operand} {g off : Nat} {f : Nat → Int} (ho : o.op = .load 85 x) (hx : a.eval x = .pointer (some ⟨g, off, none⟩)) (hg : NumsAt w .u8 g off f 1024) : (execOp a.eval o).run Tryz.prog w = .ok (.value (.agg (blk f))) w := by
  unfold execOp
  simp only [ho, hx, loadB hg, Sem.run_bind, Result.andThen_ok, Sem.run_pure]
structure FiS (w W : World) (gp gl gu n : Nat) (y : Lay) (F : Nat → Nat → Int) (U : Nat → Bool) (turn next : Int) (N : Array Value) (f : Nat → Int) : Prop where
  pg : PgAt W gp gl gu n y F U turn next
  fr : PgFr gp gl gu w W
  nod : W.heap[w.heap.size]? = some (.cells N 45)
  blk : W.heap[w.heap.size + 1]? = some (.cells (blk f) 85)
  res : W.heap[w.heap.size + 2]? = some (.cells (node16 0 0 0 0 nought) 45)
  lt : gp < w.heap.size ∧ gl < w.heap.size ∧ gu < w.heap.size
theorem FiS.setN {w W : World} {gp gl gu n : Nat} {y : Lay} {F : Nat → Nat → Int} {U : Nat → Bool} {turn next : Int} {N : Array Value} {f : Nat → Int} (h : FiS w W gp gl gu n y F U turn next N f) (j : Nat) (v : Value) : FiS w (W.setCell ⟨w.heap.size, j, none⟩ v) gp gl gu n y F U turn next (N.setIfInBounds j v) f := by
  have hF := Fr.setCell W w.heap.size j v
  have hl := h.lt
  exact ⟨h.pg.frame hF (by omega) (by omega) (by omega), Fr.trans h.fr hF (fun i hi q => by omega), heap_setCell_same _ _ _ _ _ _ h.nod, (hF.block _ (Array.getElem?_eq_some_iff.1 h.blk).1 (by omega)).trans h.blk, (hF.block _ (Array.getElem?_eq_some_iff.1 h.res).1 (by omega)).trans h.res, hl⟩
set_option maxRecDepth 20000 in
set_option maxHeartbeats 8000000 in
theorem file_direct {w : World} {gp gl gu n : Nat} {y : Lay} {F : Nat → Nat → Int} {U : Nat → Bool} {turn : Int} {next da m : Nat} (h : PgAt w gp gl gu n y F U turn next) (hda : y.dataAt = da) (hm : n = da + m) (hnx : next < m) (hn : n ≤ 1048576) (ht : 0 ≤ turn ∧ turn ≤ 1048576) (hu : U (da + next) = false) (k l s b : Int) (d : Nat → Int) (hb : 0 ≤ b ∧ b ≤ 1000000) (i : Nat) (hi : i < 10) (f : Nat → Int) :
    Calls Tryz.prog 133 #[.pointer (some ⟨gp, 0, none⟩), .agg (node16 k l s b d), .int .i64 (i : Int), .agg (blk f)] w fun e w' => e = .returned (.agg (node16 k l s (b + 1) (updN d i ((da + next : Nat) : Int)))) ∧ PgAt w' gp gl gu n y (updF F (da + next) f) (updB U (da + next) true) turn (((next : Int) + turn) % (m : Int)) ∧ PgFr gp gl gu w w' := by
  have z := zero27
  have hlt : gp < w.heap.size ∧ gl < w.heap.size ∧ gu < w.heap.size := ⟨(Array.getElem?_eq_some_iff.1 h.row).1, (Array.getElem?_eq_some_iff.1 h.blks).1, (Array.getElem?_eq_some_iff.1 h.used).1⟩
  obtain ⟨A, hA⟩ : ∃ A, A = ((w.alloc (.cells (node16 k l s b d) 45)).alloc (.cells (blk f) 85)).alloc (.cells (node16 0 0 0 0 nought) 45) := ⟨_, rfl⟩
  have hbA : Below w.heap.size w A := by rw [hA]; exact below_next (below_next (below_new _ _) (below_new _ _)) (below_new _ _)
  have HS : Hid (FiS w A gp gl gu n y F U turn next (node16 k l s b d) f) := by
    refine ⟨h.later hbA, Fr.ofBelow hbA, ?_, ?_, ?_, hlt⟩
    · rw [hA]; exact heap_kept (heap_kept (heap_alloc_new _ _) (below_new _ _)) (below_new _ _)
    · rw [hA]; exact heap_kept (heap_two _ _ _) (below_new _ _)
    · rw [hA]
      have := heap_alloc_new ((w.alloc (.cells (node16 k l s b d) 45)).alloc (.cells (blk f) 85)) (.cells (node16 0 0 0 0 nought) 45)
      simpa using this
  have htk := take_hit HS.out.pg hda hm hnx hn ht hu
  have c13 : A.cell? ⟨gp, 13, none⟩ = some (.bool false) := Joins.cell_of_block HS.out.pg.row 13
  have HA : Hid (A = _) := hA
  have hat : da + next < n := by omega
  have t1 : decide ((i : Int) < 0) = false := decide_eq_false (by omega)
  have t2 : decide ((65802 : Int) ≤ (i : Int)) = false := decide_eq_false (by omega)
  have t2' : decide (65802 ≤ i) = false := decide_eq_false (by omega)
  have t3 : decide ((i : Int) < 10) = true := decide_eq_true (by omega)
  have t3' : decide (i < 10) = true := decide_eq_true hi
  clear h hA hbA hlt hda hm hnx hu ht
  obtain ⟨at', hat'⟩ : ∃ at', da + next = at' := ⟨_, rfl⟩
  obtain ⟨nn, hnn⟩ : ∃ nn, ((next : Int) + turn) % (m : Int) = nn := ⟨_, rfl⟩
  rw [hat', hnn] at htk ⊢
  rw [hat'] at hat
  clear hat' hnn
  go_enter Tryz.func133, Tryz.ntmps133
  go_upto_region 1 with fail
  rw [← HA.out]
  clear HA
  go_wp2_with (first | (go_at_call 201; fail))
  refine htk.mono ?_
  rintro e X ⟨rfl, hpX, hfX⟩
  have HS1 : Hid (FiS w X gp gl gu n y F (updB U at' true) turn nn (node16 k l s b d) f) := by
    have hl := HS.out.lt
    exact ⟨hpX, HS.out.fr.trans' hfX, (hfX.block _ (Array.getElem?_eq_some_iff.1 HS.out.nod).1 (by omega)).trans HS.out.nod, (hfX.block _ (Array.getElem?_eq_some_iff.1 HS.out.blk).1 (by omega)).trans HS.out.blk, (hfX.block _ (Array.getElem?_eq_some_iff.1 HS.out.res).1 (by omega)).trans HS.out.res, hl⟩
  clear htk hpX hfX HS c13
  have c13 : X.cell? ⟨gp, 13, none⟩ = some (.bool false) := Joins.cell_of_block HS1.out.pg.row 13
  have cn : X.cell? ⟨w.heap.size, 4 + i, none⟩ = some (.int .u32 (d i)) := (cell_of_row _ _ (4 + i) _ _ _ HS1.out.nod).trans (node_get k l s b d i (by omega))
  have fn := frozen_row HS1.out.nod (4 + i)
  have e1 : IntKind.u32.wrap (at' : Int) = (at' : Int) := by rw [wrap_u32]; omega
  have HS2 : Hid (FiS w (X.setCell ⟨w.heap.size, 4 + i, none⟩ (.int .u32 (at' : Int))) gp gl gu n y F (updB U at' true) turn nn (node16 k l s b (updN d i (at' : Int))) f) := by
    have := HS1.out.setN (4 + i) (.int .u32 (at' : Int))
    rwa [node_set k l s b d i (by omega)] at this
  generalize d i = di at *
  have hi' : (i : Int) < 10 := by omega
  clear HS1
  go_upto_region 10 with fail
  generalize X.setCell ⟨w.heap.size, 4 + i, none⟩ (.int .u32 (at' : Int)) = Y at *
  clear c13 cn fn t1 t2 t2' t3 t3'
  have cb := nod_b HS2.out.nod
  have fb := frozen_row HS2.out.nod 3
  have e2 : IntKind.u32.wrap (b + 1) = b + 1 := by rw [wrap_u32]; omega
  have HS3 : Hid (FiS w (Y.setCell ⟨w.heap.size, 3, none⟩ (.int .u32 (b + 1))) gp gl gu n y F (updB U at' true) turn nn (node16 k l s (b + 1) (updN d i (at' : Int))) f) := HS2.out.setN 3 (.int .u32 (b + 1))
  clear HS2
  go_upto_region 11 with fail
  generalize Y.setCell ⟨w.heap.size, 3, none⟩ (.int .u32 (b + 1)) = Z at *
  clear cb fb
  have HS4 : Hid (FiS w Z.drew gp gl gu n y F (updB U at' true) turn nn (node16 k l s (b + 1) (updN d i (at' : Int))) f) := by
    have q := HS3.out
    exact ⟨q.pg.later (Below.refl _ _).drew, q.fr.trans' (Fr.ofBelow (Below.refl _ _).drew), q.nod, q.blk, q.res, q.lt⟩
  have c9 : Z.drew.cell? ⟨gp, 9, none⟩ = some (.slice (some ⟨gl, 0, none⟩) n n) := Joins.cell_of_block HS4.out.pg.row 9
  have hthere := HS4.out.pg.there hat
  have hblk := blk_at HS4.out.blk
  have hFs := Fr.setCells Z.drew gl (at' * 1024) (blk f).toList
  have HS5 : Hid (FiS w (Z.drew.setCells gl (at' * 1024) (blk f).toList) gp gl gu n y (updF F at' f) (updB U at' true) turn nn (node16 k l s (b + 1) (updN d i (at' : Int))) f) := by
    have q := HS4.out
    have hl := q.lt
    exact ⟨q.pg.setBlk at' f, q.fr.trans' (hFs.mono fun _ _ e => .inr (.inl e)), (hFs.block _ (Array.getElem?_eq_some_iff.1 q.nod).1 (by omega)).trans q.nod, (hFs.block _ (Array.getElem?_eq_some_iff.1 q.blk).1 (by omega)).trans q.blk, (hFs.block _ (Array.getElem?_eq_some_iff.1 q.res).1 (by omega)).trans q.res, hl⟩
  clear HS3 HS4 hFs
  have hat2 : (at' : Int) < (n : Int) := by omega
  refine wp_region_ord (S := fun u => u.cell? ⟨gp, 9, none⟩ = some (.slice (some ⟨gl, 0, none⟩) n n) ∧ NumsAt u .u8 (w.heap.size + 1) 0 f 1024) [(0, true), (1, true), (2, true), (3, true), (4, true), (5, true), (6, true), (7, false)] (by kernel_rfl) rfl (by kernel_rfl) (fun d _ _ _ _ h => by cases d <;> exact h) ⟨c9, hblk⟩ ?_
  simp only [inOrd, List.getElem?_cons_zero, List.getElem?_cons_succ]
  refine wpOrd_yield (v := .pointer (some ⟨gp, 0, none⟩)) rfl (fun u _ => exec_mv rfl rfl) ?_
  simp only [Act.put, pA, pB, pC]
  refine wpOrd_yield (v := .pointer (some ⟨gp, 0, none⟩)) rfl (fun u _ => by go_simp) ?_
  simp only [Act.put, pA, pB, pC]
  refine wpOrd_yield (v := .pointer (some ⟨gp, 9, none⟩)) rfl (fun u _ => by go_simp) ?_
  simp only [Act.put, pA, pB, pC]
  refine wpOrd_yield (v := .slice (some ⟨gl, 0, none⟩) n n) rfl (fun u hu => by have := hu.1; go_simp) ?_
  simp only [Act.put, pA, pB, pC]
  refine wpOrd_yield (v := .int .i64 (at' : Int)) rfl (fun u _ => exec_mv rfl rfl) ?_
  simp only [Act.put, pA, pB, pC]
  refine wpOrd_yield (v := .agg (blk f)) rfl (fun u hu => exec_ldB rfl rfl hu.2) ?_
  simp only [Act.put, pA, pB, pC]
  refine wpOrd_yield (v := .pointer (some ⟨gl, at' * 1024, none⟩)) rfl (fun u _ => by go_simp) ?_
  simp only [Act.put, pA, pB, pC]
  refine wpOrd_do rfl (exec_stB rfl rfl rfl hthere) ⟨Joins.cell_of_block HS5.out.pg.row 9, blk_at HS5.out.blk⟩ ?_
  simp only [Act.put]
  refine wpOrd_nil ?_
  clear c9 hthere hblk
  generalize Z.drew.setCells gl (at' * 1024) (blk f).toList = V at *
  have hnod := HS5.out.nod
  have hres := HS5.out.res
  have HRes : Hid (PgAt (V.setRow (w.heap.size + 2) (node16 k l s (b + 1) (updN d i (at' : Int)))) gp gl gu n y (updF F at' f) (updB U at' true) turn nn ∧ PgFr gp gl gu w (V.setRow (w.heap.size + 2) (node16 k l s (b + 1) (updN d i (at' : Int))))) := by
    have q := HS5.out
    have hl := q.lt
    have hF := Fr.setRow V (w.heap.size + 2) (node16 k l s (b + 1) (updN d i (at' : Int)))
    exact ⟨q.pg.frame hF (by omega) (by omega) (by omega), Fr.trans q.fr hF (fun i hi q => by omega)⟩
  clear HS5
  have HI : Hid _ := nod_info k l s (b + 1) (updN d i (at' : Int))
  have HI2 : Hid _ := nod_two 0 0 0 0 k l s (b + 1) nought (updN d i (at' : Int))
  have HI3 : Hid _ := node_one k l s (b + 1) (updN d i (at' : Int))
  obtain ⟨N1, hN1⟩ : ∃ N1, node16 k l s (b + 1) (updN d i (at' : Int)) = N1 := ⟨_, rfl⟩
  have HN1 : Hid (node16 k l s (b + 1) (updN d i (at' : Int)) = N1) := hN1
  rw [hN1] at HI HI2 HI3 hnod HRes
  clear hN1
  go_wp2_with (first | (with_reducible refine isLoadR 45 ?_; refine wpList_ldR 45 Tryz.underlying45 rfl rfl (.tmp 5) rfl w.heap.size rfl N1 45 (0, 0) HI.out hnod ?_) | (with_reducible refine isStoreR 45 ?_; refine wpList_stR 45 rfl (.tmp 8) (.tmp 53) rfl (w.heap.size + 2) N1 (node16 0 0 0 0 nought) 45 HI.out HI2.out HI3.out rfl rfl hres ?_))
  exact retR Tryz.underlying45 rfl rfl (w.heap.size + 2) N1 45 HI.out rfl (setRow_heap _ _ _ _ _ _ hres) rfl ⟨by rw [HN1.out], HRes.out.1, HRes.out.2⟩
end Go.Proofs.YtiejhjngcnkimaaGreatR
/- The entries of a directory of one block laid on the page. -/
namespace Go.Proofs.YtiejhjngcnkimaaGreatR
open Go.RowKit Go.Maps
def EntOk (e : Int × ByteArray) : Prop := e = (0, ⟨#[]⟩) ∨ ((0 < e.1 ∧ e.1 < 65536) ∧ NmOk e.2)
def encE (e : Int × ByteArray) : Nat → Int := if e.1 = 0 then nought else encP e.1 e.2
theorem enc18_ok (w : World) (e : Int × ByteArray) (h : EntOk e) :
    Calls Tryz.prog 200 #[.agg #[.int .u16 e.1, .string e.2]] w fun r w' => r = .returned (.tuple #[.agg (rowN .u8 (encE e) 16), .int .i64 0]) ∧ Below w.heap.size w w' := by
  rcases h with rfl | ⟨h1, h2⟩
  · exact enc18_free w
  · unfold encE
    rw [if_neg (by omega)]
    exact enc18_name w e.1 h1 e.2 h2
def dirP (es : List (Int × ByteArray)) (m : Nat) : Nat → Int := fun j => if j < m then encE (es.getD (j / 16) (0, ⟨#[]⟩)) (j % 16) else 0
theorem dirP_zero (es : List (Int × ByteArray)) : dirP es 0 = nought := by funext j; unfold dirP; rw [if_neg (by omega)]; rfl
theorem dirP_step (es : List (Int × ByteArray)) (m : Nat) : updN (dirP es m) m (encE (es.getD (m / 16) (0, ⟨#[]⟩)) (m % 16)) = dirP es (m + 1) := by
  funext j
  unfold updN dirP
  by_cases e : j = m
  · rw [if_pos e, if_pos (by omega), e]
  · rw [if_neg e]
    by_cases h : j < m
    · rw [if_pos h, if_pos (by omega)]
    · rw [if_neg h, if_neg (by omega)]
structure DiS (w W : World) (gp gl gu n : Nat) (y : Lay) (F : Nat → Nat → Int) (U : Nat → Bool) (turn next : Int) (N : Array Value) (f : Nat → Int) : Prop where
  pg : PgAt W gp gl gu n y F U turn next
  fr : PgFr gp gl gu w W
  nod : W.heap[w.heap.size]? = some (.cells N 45)
  res : W.heap[w.heap.size + 1]? = some (.cells (node16 0 0 0 0 nought) 45)
  blk : W.heap[w.heap.size + 2]? = some (.cells (blk f) 85)
  lt : gp < w.heap.size ∧ gl < w.heap.size ∧ gu < w.heap.size
section
variable {w W : World} {gp gl gu n : Nat} {y : Lay} {F : Nat → Nat → Int} {U : Nat → Bool} {turn next : Int} {N : Array Value} {f : Nat → Int}
theorem DiS.call {W' : World} (h : DiS w W gp gl gu n y F U turn next N f) (hb : Below W.heap.size W W') : DiS w W' gp gl gu n y F U turn next N f := ⟨h.pg.later hb, h.fr.trans' (Fr.ofBelow hb), heap_kept h.nod hb, heap_kept h.res hb, heap_kept h.blk hb, h.lt⟩
theorem DiS.setB (h : DiS w W gp gl gu n y F U turn next N f) (j : Nat) (x : Int) : DiS w (W.setCell ⟨w.heap.size + 2, j, none⟩ (.int .u8 x)) gp gl gu n y F U turn next N (updN f j x) := by
  have hF := Fr.setCell W (w.heap.size + 2) j (.int .u8 x)
  have hl := h.lt
  exact ⟨h.pg.frame hF (by omega) (by omega) (by omega), Fr.trans h.fr hF (fun i hi q => by omega), (hF.block _ (Array.getElem?_eq_some_iff.1 h.nod).1 (by omega)).trans h.nod, (hF.block _ (Array.getElem?_eq_some_iff.1 h.res).1 (by omega)).trans h.res, setCell_rowN (m := 1024) h.blk j x, hl⟩
theorem DiS.rowB' (h : DiS w W gp gl gu n y F U turn next N f) (f' : Nat → Int) : DiS w (W.setRow (w.heap.size + 2) (Go.Proofs.YtiejhjngcnkimaaGreatR.blk f')) gp gl gu n y F U turn next N f' := by
  have hF := Fr.setRow W (w.heap.size + 2) (Go.Proofs.YtiejhjngcnkimaaGreatR.blk f')
  have hl := h.lt
  exact ⟨h.pg.frame hF (by omega) (by omega) (by omega), Fr.trans h.fr hF (fun i hi q => by omega), (hF.block _ (Array.getElem?_eq_some_iff.1 h.nod).1 (by omega)).trans h.nod, (hF.block _ (Array.getElem?_eq_some_iff.1 h.res).1 (by omega)).trans h.res, setRow_heap _ _ _ _ _ _ h.blk, hl⟩
theorem DiS.rowN' (h : DiS w W gp gl gu n y F U turn next N f) (N' : Array Value) : DiS w (W.setRow w.heap.size N') gp gl gu n y F U turn next N' f := by
  have hF := Fr.setRow W w.heap.size N'
  have hl := h.lt
  exact ⟨h.pg.frame hF (by omega) (by omega) (by omega), Fr.trans h.fr hF (fun i hi q => by omega), setRow_heap _ _ _ _ _ _ h.nod, (hF.block _ (Array.getElem?_eq_some_iff.1 h.res).1 (by omega)).trans h.res, (hF.block _ (Array.getElem?_eq_some_iff.1 h.blk).1 (by omega)).trans h.blk, hl⟩
end
theorem r16_info (f : Nat → Int) : (Tryz.prog.info? 287).map (·.size) = some (rowN .u8 f 16).size := by rw [rowN_size]; exact size204
theorem r16_two (f g : Nat → Int) : (rowN .u8 f 16).size = (rowN .u8 g 16).size := by rw [rowN_size, rowN_size]
theorem PgFr.lie {α : Type} {en : α → List Value} {sz : Nat} {gp gl gu : Nat} {W W' : World} {p : Option Addr} {l : List α} (h : LieG en sz W p l) (hf : PgFr gp gl gu W W') (hn : ∀ g, p = some ⟨g, 0, none⟩ → g ≠ gp ∧ g ≠ gl ∧ g ≠ gu) : LieG en sz W' p l := fun h0 => by
  obtain ⟨g, h1, h2, h3⟩ := h h0
  obtain ⟨n1, n2, n3⟩ := hn g h1
  have hb := hf.block g h2 (by omega)
  refine ⟨g, h1, Nat.lt_of_lt_of_le h2 hf.size, fun i x hx j u hu => ?_⟩
  have := h3 i x hx j u hu
  unfold World.cell? at this ⊢
  rwa [hb]
set_option maxRecDepth 20000 in
set_option maxHeartbeats 8000000 in
theorem dir_ok {w : World} {gp gl gu n : Nat} {y : Lay} {F : Nat → Nat → Int} {U : Nat → Bool} {turn : Int} {next da m : Nat} (h : PgAt w gp gl gu n y F U turn next) (hda : y.dataAt = da) (hm : n = da + m) (hnx : next < m) (hn : n ≤ 1048576) (ht : 0 ≤ turn ∧ turn ≤ 1048576) (hu : U (da + next) = false) (k l s b : Int) (d : Nat → Int) (hb : 0 ≤ b ∧ b ≤ 1000000)
    {p : Option Addr} {es : List (Int × ByteArray)} (c : Nat) (hes : LieG enE 2 w p es) (hpn : ∀ g, p = some ⟨g, 0, none⟩ → g ≠ gp ∧ g ≠ gl ∧ g ≠ gu) (hlen : 1 ≤ es.length ∧ es.length ≤ 64) (hok : ∀ e ∈ es, EntOk e) :
    Calls Tryz.prog 132 #[.pointer (some ⟨gp, 0, none⟩), .agg (node16 k l s b d), .slice p es.length c] w fun e w' => e = .returned (.agg (node16 k l s (b + 1) (updN d 0 ((da + next : Nat) : Int)))) ∧ PgAt w' gp gl gu n y (updF F (da + next) (dirP es (16 * es.length))) (updB U (da + next) true) turn (((next : Int) + turn) % (m : Int)) ∧ PgFr gp gl gu w w' := by
  have z := zero27
  have z1 := zero77
  have z2 := zero204
  have hlt : gp < w.heap.size ∧ gl < w.heap.size ∧ gu < w.heap.size := ⟨(Array.getElem?_eq_some_iff.1 h.row).1, (Array.getElem?_eq_some_iff.1 h.blks).1, (Array.getElem?_eq_some_iff.1 h.used).1⟩
  obtain ⟨A, hA⟩ : ∃ A, A = ((w.alloc (.cells (node16 k l s b d) 45)).alloc (.cells (node16 0 0 0 0 nought) 45)).alloc (.cells (blk nought) 85) := ⟨_, rfl⟩
  have hbA : Below w.heap.size w A := by rw [hA]; exact below_next (below_next (below_new _ _) (below_new _ _)) (below_new _ _)
  have HS : Hid (DiS w A gp gl gu n y F U turn next (node16 k l s b d) (dirP es (16 * 0))) := by
    refine ⟨h.later hbA, Fr.ofBelow hbA, ?_, ?_, ?_, hlt⟩
    · rw [hA]; exact heap_kept (heap_kept (heap_alloc_new _ _) (below_new _ _)) (below_new _ _)
    · rw [hA]; exact heap_kept (heap_two _ _ _) (below_new _ _)
    · rw [show 16 * 0 = 0 from rfl, dirP_zero, hA]
      have := heap_alloc_new ((w.alloc (.cells (node16 k l s b d) 45)).alloc (.cells (node16 0 0 0 0 nought) 45)) (.cells (blk nought) 85)
      simpa using this
  have HFl : Hid (∀ W f, PgAt W gp gl gu n y F U turn next → Calls Tryz.prog 133 #[.pointer (some ⟨gp, 0, none⟩), .agg (node16 k l s b d), .int .i64 0, .agg (blk f)] W fun e w' => e = .returned (.agg (node16 k l s (b + 1) (updN d 0 ((da + next : Nat) : Int)))) ∧ PgAt w' gp gl gu n y (updF F (da + next) f) (updB U (da + next) true) turn (((next : Int) + turn) % (m : Int)) ∧ PgFr gp gl gu W w') := fun W f hW => file_direct hW hda hm hnx hn ht hu k l s b d hb 0 (by omega) f
  have HA : Hid (A = _) := hA
  have HE : Hid (LieG enE 2 w p es) := hes
  have HPn : Hid _ := hpn
  have HO : Hid _ := hok
  obtain ⟨hl1, hl2⟩ := hlen
  clear h hA hbA hlt hda hm hnx hu ht hes hpn hok
  obtain ⟨at', hat'⟩ : ∃ at', da + next = at' := ⟨_, rfl⟩
  obtain ⟨nn, hnn⟩ : ∃ nn, ((next : Int) + turn) % (m : Int) = nn := ⟨_, rfl⟩
  rw [hat', hnn] at HFl ⊢
  clear hat' hnn
  obtain ⟨M, hM⟩ : ∃ M, es.length = M := ⟨_, rfl⟩
  have HM : Hid (es.length = M) := hM
  rw [hM] at hl1 hl2 ⊢
  clear hM
  have HI : Hid _ := nod_info k l s b d
  have HI1 : Hid _ := nod_info k l s (b + 1) (updN d 0 (at' : Int))
  have HI2 : Hid _ := nod_two k l s b k l s (b + 1) d (updN d 0 (at' : Int))
  have HI3 : Hid _ := node_one k l s (b + 1) (updN d 0 (at' : Int))
  have HI4 : Hid _ := nod_two 0 0 0 0 k l s (b + 1) nought (updN d 0 (at' : Int))
  obtain ⟨N0, hN0⟩ : ∃ N0, node16 k l s b d = N0 := ⟨_, rfl⟩
  obtain ⟨N1, hN1⟩ : ∃ N1, node16 k l s (b + 1) (updN d 0 (at' : Int)) = N1 := ⟨_, rfl⟩
  rw [hN0] at HS HI HI2 HA ⊢
  rw [hN1] at HI1 HI2 HI3 HI4 ⊢
  simp only [hN0, hN1] at HFl
  clear hN0 hN1
  go_enter Tryz.func132, Tryz.ntmps132
  go_wp2
  rw [← HA.out]
  clear HA
  go_loopw [8, 9, 10, 11] (fun s8 _ _ _ wx => ∃ q : Nat, s8 = .int .i64 q ∧ ((q < M ∧ Hid (DiS w wx gp gl gu n y F U turn next N0 (dirP es (16 * q)))) ∨ (q = M ∧ Hid (DiS w wx gp gl gu n y (updF F at' (dirP es (16 * M))) (updB U at' true) turn nn N1 nought)))) (fun s8 _ _ _ _ => M - (intOf s8).toNat)
  case atStart => exact ⟨0, rfl, .inl ⟨by omega, HS.out⟩⟩
  case round =>
    clear HS
    obtain ⟨q, rfl, hcase⟩ := hrel
    rcases hcase with ⟨hq, HS⟩ | ⟨hq, HS⟩
    · have hqM : (q : Int) < (M : Int) := by omega
      have c13 : wr.cell? ⟨gp, 13, none⟩ = some (.bool false) := Joins.cell_of_block HS.out.pg.row 13
      have hqE : q < es.length := by rw [HM.out]; exact hq
      have hLw := PgFr.lie HE.out HS.out.fr HPn.out
      obtain ⟨ge, rfl, hge, hce⟩ := hLw (by omega)
      have heq : es[q]? = some es[q] := List.getElem?_eq_getElem hqE
      have a0 : wr.cell? ⟨ge, q * 2, none⟩ = some (.int .u16 (es[q]).1) := hce q _ heq 0 _ rfl
      have a1 : wr.cell? ⟨ge, q * 2 + 1, none⟩ = some (.string (es[q]).2) := hce q _ heq 1 _ rfl
      have henc := enc18_ok wr es[q] (HO.out _ (List.getElem_mem hqE))
      have HGd : Hid (es.getD q (0, ⟨#[]⟩) = es[q]) := by show _ = _; rw [List.getD_eq_getElem?_getD, heq]; rfl
      generalize es[q] = en at *
      clear hce heq hLw hqE
      go_wp2_with (first | (go_at_call 200; fail))
      refine henc.mono ?_
      rintro e X ⟨rfl, hbX⟩
      have HS1 : Hid (DiS w (X.alloc (.cells (rowN .u8 (encE en) 16) 287)) gp gl gu n y F U turn next N0 (dirP es (16 * q + 0))) := (HS.out.call hbX).call (below_new _ _)
      have HR1 : Hid ((X.alloc (.cells (rowN .u8 (encE en) 16) 287)).heap[X.heap.size]? = some (.cells (rowN .u8 (encE en) 16) 287)) := heap_alloc_new _ _
      have hgx : w.heap.size + 2 < X.heap.size := Nat.lt_of_lt_of_le (Array.getElem?_eq_some_iff.1 HS.out.blk).1 hbX.size
      clear henc hbX HS c13 a0 a1 hge
      go_wp2_with (first | (with_reducible refine isStoreR 287 ?_; refine wpList_stNew 287 rfl (.tmp 9) (.tmp 31) rfl X.heap.size (rowN .u8 (encE en) 16) (rowN .u8 nought 16) 287 (r16_info _) (r16_two _ _) (rowN_one _ _ _) rfl rfl rfl ?_))
      generalize X.alloc (.cells (rowN .u8 (encE en) 16) 287) = V at *
      generalize X.heap.size = gx at *
      go_loopw [11] (fun s11 wx => ∃ i : Nat, i ≤ 16 ∧ s11 = .int .i64 i ∧ Hid (DiS w wx gp gl gu n y F U turn next N0 (dirP es (16 * q + i))) ∧ Hid (wx.heap[gx]? = some (.cells (rowN .u8 (encE en) 16) 287))) (fun s11 _ => 16 - (intOf s11).toNat)
      case atStart => exact ⟨0, by omega, rfl, HS1.out, HR1.out⟩
      case round =>
        clear HS1 HR1
        obtain ⟨i, hi, rfl, HS, HR⟩ := hrel
        have t1 : IntKind.i64.wrap ((q : Int) * 16) = (q : Int) * 16 := by rw [IntKind.wrap_i64]; omega
        have t2 : ((q : Int) * 16).tmod 1024 = ((16 * q : Nat) : Int) := by rw [Int.tmod_eq_emod_of_nonneg (by omega)]; omega
        have t3 : IntKind.i64.wrap ((16 * q : Nat) : Int) = ((16 * q : Nat) : Int) := by rw [IntKind.wrap_i64]; omega
        by_cases hi2 : (i : Int) < 16
        · have cx := cell_rowN (i := i) HR.out (by omega)
          have cb := cell_rowN (i := 16 * q + i) (m := 1024) HS.out.blk (by omega)
          have fb := frozen_row HS.out.blk (16 * q + i)
          have HV : Hid (encE (es.getD ((16 * q + i) / 16) (0, ⟨#[]⟩)) ((16 * q + i) % 16) = encE en i) := by
            show _ = _
            rw [show (16 * q + i) / 16 = q by omega, show (16 * q + i) % 16 = i by omega, HGd.out]
          have HS2 : Hid (DiS w (wr.setCell ⟨w.heap.size + 2, 16 * q + i, none⟩ (.int .u8 (encE en i))) gp gl gu n y F U turn next N0 (dirP es (16 * q + (i + 1)))) := by
            have := HS.out.setB (16 * q + i) (encE en i)
            rw [← HV.out, dirP_step, HV.out] at this
            exact this
          have HR2 : Hid ((wr.setCell ⟨w.heap.size + 2, 16 * q + i, none⟩ (.int .u8 (encE en i))).heap[gx]? = some (.cells (rowN .u8 (encE en) 16) 287)) := ((Fr.setCell wr (w.heap.size + 2) (16 * q + i) (.int .u8 (encE en i))).block _ (Array.getElem?_eq_some_iff.1 HR.out).1 (by omega)).trans HR.out
          have t4 : IntKind.i64.wrap (((16 * q : Nat) : Int) + (i : Int)) = ((16 * q + i : Nat) : Int) := by rw [IntKind.wrap_i64]; omega
          have t4' : ((16 * q : Nat) : Int) + (i : Int) = ((16 * q + i : Nat) : Int) := by omega
          have hml : 16 * q + i < 1024 := by omega
          have t5 : IntKind.i64.wrap ((16 * q + i : Nat) : Int) = ((16 * q + i : Nat) : Int) := by rw [IntKind.wrap_i64]; omega
          have HNx : Hid (16 * q + (i + 1) = 16 * q + i + 1) := by show _ = _; omega
          clear HS HR HV
          generalize dirP es (16 * q + i) (16 * q + i) = old at *
          rw [HNx.out] at HS2
          generalize hmm : 16 * q + i = mm at *
          generalize encE en i = ev at *
          generalize 16 * q = q16 at *
          go_wp2
          exact ⟨⟨i + 1, by omega, by go_num, by rw [HNx.out]; exact HS2.out, HR2.out⟩, by simp [intOf]; omega⟩
        · obtain rfl : i = 16 := by omega
          have hfile := HFl.out wr (dirP es (16 * q + 16)) HS.out.pg
          have hb0 := blk_at HS.out.blk
          have hnod := HS.out.nod
          have t6 : ((q : Int) * 16).tdiv 1024 = 0 := by rw [Int.tdiv_eq_ediv_of_nonneg (by omega)]; omega
          have HQ16 : Hid (16 * q + 16 = 16 * (q + 1)) := by show _ = _; omega
          rw [HQ16.out] at hfile hb0 HS
          have HRx : Hid _ := HR.out
          clear HR HGd
          by_cases hlast : q + 1 = M
          · have HLast : Hid (q + 1 = M) := hlast
            obtain ⟨fd, hfd⟩ : ∃ fd, dirP es (16 * (q + 1)) = fd := ⟨_, rfl⟩
            have HFd : Hid (dirP es (16 * (q + 1)) = fd) := hfd
            rw [hfd] at hfile hb0 HS
            clear hfd
            have e1 : IntKind.i64.wrap ((M : Int) - 1) = (q : Int) := by rw [IntKind.wrap_i64]; omega
            have e1' : (M : Int) - 1 = (q : Int) := by omega
            by_cases h63 : q = 63
            · have g0 : (((16 * q : Nat) : Int) == 1008) = true := by simp; omega
              clear h63
              generalize 16 * q = q16 at *
              go_wp2_with (first | (with_reducible refine isLoadR 45 ?_; refine wpList_ldR 45 Tryz.underlying45 rfl rfl (.tmp 4) rfl w.heap.size rfl N0 45 (0, 0) HI.out hnod ?_) | (with_reducible refine isLoadR 85 ?_; refine wpList_ldB rfl (.tmp 7) rfl (w.heap.size + 2) 0 fd rfl hb0 ?_) | (go_at_call 133; fail))
              refine hfile.mono ?_
              rintro e Y ⟨rfl, hpY, hfY⟩
              have HS2 : Hid (DiS w Y gp gl gu n y (updF F at' fd) (updB U at' true) turn nn N0 fd) := by
                have q := HS.out
                have hl := q.lt
                exact ⟨hpY, q.fr.trans' hfY, (hfY.block _ (Array.getElem?_eq_some_iff.1 q.nod).1 (by omega)).trans q.nod, (hfY.block _ (Array.getElem?_eq_some_iff.1 q.res).1 (by omega)).trans q.res, (hfY.block _ (Array.getElem?_eq_some_iff.1 q.blk).1 (by omega)).trans q.blk, hl⟩
              have hnod2 := HS2.out.nod
              have HS3 : Hid (DiS w (Y.setRow w.heap.size N1) gp gl gu n y (updF F at' fd) (updB U at' true) turn nn N1 fd) := HS2.out.rowN' N1
              clear hfile hpY hfY HS HS2 hb0 hnod
              go_upto_region 12 with (first | (with_reducible refine isStoreR 45 ?_; refine wpList_stR 45 rfl (.tmp 4) (.tmp 63) rfl w.heap.size N1 N0 45 HI1.out HI2.out HI3.out rfl rfl hnod2 ?_))
              generalize Y.setRow w.heap.size N1 = Z at *
              have hblk3 := HS3.out.blk
              have HS4 : Hid (DiS w (Z.setRow (w.heap.size + 2) (blk nought)) gp gl gu n y (updF F at' fd) (updB U at' true) turn nn N1 nought) := HS3.out.rowB' nought
              clear HS3 hnod2
              go_wp2_with (first | (with_reducible refine isBuildR 85 ?_; refine wpList_buildB rfl rfl ?_) | (with_reducible refine isStoreR 85 ?_; refine wpList_stB rfl (.tmp 7) (.tmp 64) rfl (w.heap.size + 2) nought fd 85 rfl rfl hblk3 ?_))
              exact ⟨⟨q + 1, by go_num, .inr ⟨hlast, by rw [← HLast.out, HFd.out]; exact HS4.out⟩⟩, by simp [intOf]; omega⟩
            · have g0 : (((16 * q : Nat) : Int) == 1008) = false := by simp; omega
              clear h63
              generalize 16 * q = q16 at *
              go_wp2_with (first | (with_reducible refine isLoadR 45 ?_; refine wpList_ldR 45 Tryz.underlying45 rfl rfl (.tmp 4) rfl w.heap.size rfl N0 45 (0, 0) HI.out hnod ?_) | (with_reducible refine isLoadR 85 ?_; refine wpList_ldB rfl (.tmp 7) rfl (w.heap.size + 2) 0 fd rfl hb0 ?_) | (go_at_call 133; fail))
              refine hfile.mono ?_
              rintro e Y ⟨rfl, hpY, hfY⟩
              have HS2 : Hid (DiS w Y gp gl gu n y (updF F at' fd) (updB U at' true) turn nn N0 fd) := by
                have q := HS.out
                have hl := q.lt
                exact ⟨hpY, q.fr.trans' hfY, (hfY.block _ (Array.getElem?_eq_some_iff.1 q.nod).1 (by omega)).trans q.nod, (hfY.block _ (Array.getElem?_eq_some_iff.1 q.res).1 (by omega)).trans q.res, (hfY.block _ (Array.getElem?_eq_some_iff.1 q.blk).1 (by omega)).trans q.blk, hl⟩
              have hnod2 := HS2.out.nod
              have HS3 : Hid (DiS w (Y.setRow w.heap.size N1) gp gl gu n y (updF F at' fd) (updB U at' true) turn nn N1 fd) := HS2.out.rowN' N1
              clear hfile hpY hfY HS HS2 hb0 hnod
              go_upto_region 12 with (first | (with_reducible refine isStoreR 45 ?_; refine wpList_stR 45 rfl (.tmp 4) (.tmp 63) rfl w.heap.size N1 N0 45 HI1.out HI2.out HI3.out rfl rfl hnod2 ?_))
              generalize Y.setRow w.heap.size N1 = Z at *
              have hblk3 := HS3.out.blk
              have HS4 : Hid (DiS w (Z.setRow (w.heap.size + 2) (blk nought)) gp gl gu n y (updF F at' fd) (updB U at' true) turn nn N1 nought) := HS3.out.rowB' nought
              clear HS3 hnod2
              go_wp2_with (first | (with_reducible refine isBuildR 85 ?_; refine wpList_buildB rfl rfl ?_) | (with_reducible refine isStoreR 85 ?_; refine wpList_stB rfl (.tmp 7) (.tmp 64) rfl (w.heap.size + 2) nought fd 85 rfl rfl hblk3 ?_))
              exact ⟨⟨q + 1, by go_num, .inr ⟨hlast, by rw [← HLast.out, HFd.out]; exact HS4.out⟩⟩, by simp [intOf]; omega⟩
          · have g0 : (((16 * q : Nat) : Int) == 1008) = false := by simp; omega
            have e1 : IntKind.i64.wrap ((M : Int) - 1) = (M : Int) - 1 := by rw [IntKind.wrap_i64]; omega
            have g1 : ((q : Int) == (M : Int) - 1) = false := by simp; omega
            have HS2 : Hid (DiS w wr gp gl gu n y F U turn next N0 (dirP es (16 * (q + 1)))) := HS.out
            clear HS hfile hb0 hnod
            generalize 16 * q = q16 at *
            go_wp2
            exact ⟨⟨q + 1, by go_num, .inl ⟨by omega, HS2.out⟩⟩, by simp [intOf]; omega⟩
    · subst hq
      have hnod := HS.out.nod
      have hres := HS.out.res
      have HRes : Hid (PgAt (wr.setRow (w.heap.size + 1) N1) gp gl gu n y (updF F at' (dirP es (16 * q))) (updB U at' true) turn nn ∧ PgFr gp gl gu w (wr.setRow (w.heap.size + 1) N1)) := by
        have q := HS.out
        have hl := q.lt
        have hF := Fr.setRow wr (w.heap.size + 1) N1
        exact ⟨q.pg.frame hF (by omega) (by omega) (by omega), Fr.trans q.fr hF (fun i hi q => by omega)⟩
      clear HS
      go_wp2_with (first | (with_reducible refine isLoadR 45 ?_; refine wpList_ldR 45 Tryz.underlying45 rfl rfl (.tmp 4) rfl w.heap.size rfl N1 45 (0, 0) HI1.out hnod ?_) | (with_reducible refine isStoreR 45 ?_; refine wpList_stR 45 rfl (.tmp 6) (.tmp 65) rfl (w.heap.size + 1) N1 (node16 0 0 0 0 nought) 45 HI1.out HI4.out HI3.out rfl rfl hres ?_))
      exact retR Tryz.underlying45 rfl rfl (w.heap.size + 1) N1 45 HI1.out rfl (setRow_heap _ _ _ _ _ _ hres) rfl ⟨rfl, HRes.out.1, HRes.out.2⟩
end Go.Proofs.YtiejhjngcnkimaaGreatR
/- An inode's bytes, written whole; the document's own words. -/
namespace Go.Proofs.YtiejhjngcnkimaaGreatR
open Go.RowKit Go.Maps
def encD (f : Nat → Int) (d : Nat → Int) : Nat → Nat → Int
  | 0 => f
  | m + 1 => putP (encD f d m) (12 + 4 * m) 4 (d m)
def encH (k l s b : Int) : Nat → Int := putP (putP (putP (putP nought 0 2 k) 2 2 l) 4 4 s) 8 4 b
def encN (k l s b : Int) (d : Nat → Int) : Nat → Int := encD (encH k l s b) d 12
structure Ec (w W : World) (N : Array Value) (f : Nat → Int) : Prop where
  nod : W.heap[w.heap.size]? = some (.cells N 45)
  res : W.heap[w.heap.size + 1]? = some (.cells (rowN .u8 nought 64) 180)
  row : W.heap[w.heap.size + 2]? = some (.cells (rowN .u8 f 64) 180)
  bel : Below w.heap.size w W
theorem Ec.call {w W W' : World} {N : Array Value} {f : Nat → Int} (h : Ec w W N f) (hb : Below W.heap.size W W') : Ec w W' N f := ⟨heap_kept h.nod hb, heap_kept h.res hb, heap_kept h.row hb, below_next h.bel hb⟩
theorem Ec.store {w W : World} {N : Array Value} {f : Nat → Int} (h : Ec w W N f) (g : Nat → Int) : Ec w (W.setRow (w.heap.size + 2) (rowN .u8 g 64)) N g := by
  have hF := Fr.setRow W (w.heap.size + 2) (rowN .u8 g 64)
  exact ⟨(hF.block _ (Array.getElem?_eq_some_iff.1 h.nod).1 (by omega)).trans h.nod, (hF.block _ (Array.getElem?_eq_some_iff.1 h.res).1 (by omega)).trans h.res, setRow_heap _ _ _ _ _ _ h.row, h.bel.trans (hF.below (fun j q => by omega) h.bel.size)⟩
set_option maxRecDepth 20000 in
set_option maxHeartbeats 8000000 in
theorem enc10_any (k l s b : Int) (d : Nat → Int) (hk : 0 ≤ k ∧ k < 65536) (hl : 0 ≤ l ∧ l < 65536) (hs : 0 ≤ s ∧ s < 4294967296) (hb : 0 ≤ b ∧ b < 4294967296) (hd : ∀ i, i < 12 → 0 ≤ d i ∧ d i < 4294967296) (w : World) :
    Calls Tryz.prog 134 #[.agg (node16 k l s b d)] w fun e w' => e = .returned (.agg (rowN .u8 (encN k l s b d) 64)) ∧ Below w.heap.size w w' := by
  have z := zero159
  have z12 := zero12
  have HNum : Hid (∀ W, Calls Tryz.prog 205 #[.agg (node16 k l s b d)] W fun e w' => e = .returned (.agg (rowN .u32 d 12)) ∧ Below W.heap.size W w') := fun W => numbers10_any k l s b d W
  have HI : Hid _ := nod_info k l s b d
  have Hc : Hid (∀ (W : World) (g : Nat) (t : TypeId), W.heap[g]? = some (.cells (node16 k l s b d) t) → W.cell? ⟨g, 0, none⟩ = some (.int .u16 k) ∧ W.cell? ⟨g, 1, none⟩ = some (.int .u16 l) ∧ W.cell? ⟨g, 2, none⟩ = some (.int .u32 s) ∧ W.cell? ⟨g, 3, none⟩ = some (.int .u32 b)) := fun W g t h => ⟨nod_k h, nod_l h, nod_s h, nod_b h⟩
  have HD : Hid _ := hd
  clear hd
  generalize node16 k l s b d = N at *
  obtain ⟨A, hA⟩ : ∃ A, A = ((w.alloc (.cells N 45)).alloc (.cells (rowN .u8 nought 64) 180)).alloc (.cells (rowN .u8 nought 64) 180) := ⟨_, rfl⟩
  have HP : Hid (Ec w A N nought) := by
    rw [hA]
    refine ⟨heap_kept (heap_kept (heap_alloc_new _ _) (below_new _ _)) (below_new _ _), heap_kept (heap_two _ _ _) (below_new _ _), ?_, below_next (below_next (below_new _ _) (below_new _ _)) (below_new _ _)⟩
    have := heap_alloc_new ((w.alloc (.cells N 45)).alloc (.cells (rowN .u8 nought 64) 180)) (.cells (rowN .u8 nought 64) 180)
    simpa using this
  have HA : Hid (A = _) := hA
  clear hA
  have e1 : IntKind.u32.wrap k = k := by rw [wrap_u32]; omega
  have e2 : IntKind.u32.wrap l = l := by rw [wrap_u32]; omega
  go_enter Tryz.func134, Tryz.ntmps134
  go_upto_region 2 with fail
  rw [← HA.out]
  clear HA
  have hput := put10_any nought 0 2 k (by omega) (by omega) (by omega) A
  have hrow := HP.out.row
  obtain ⟨c1, c2, c3, c4⟩ := Hc.out A _ _ HP.out.nod
  go_wp2_with (first | (with_reducible refine isLoadR 180 ?_; refine wpList_ldR 180 Tryz.underlying180 rfl rfl (.tmp 3) rfl (w.heap.size + 2) rfl (rowN .u8 nought 64) 180 (0, 0) (r64_info _) hrow ?_) | (go_at_call 204; fail))
  refine hput.mono ?_
  rintro e Y1 ⟨rfl, hb1⟩
  have HQ1 : Hid (Ec w Y1 N nought) := HP.out.call hb1
  have hrow2 := HQ1.out.row
  have HP1 : Hid (Ec w (Y1.setRow (w.heap.size + 2) (rowN .u8 (putP nought 0 2 k) 64)) N (putP nought 0 2 k)) := HQ1.out.store _
  clear hput hrow c1 c2 c3 c4 hb1 HQ1 HP
  go_upto_region 3 with (first | (with_reducible refine isStoreR 180 ?_; refine wpList_stR 180 rfl (.tmp 3) (.tmp 10) rfl (w.heap.size + 2) (rowN .u8 (putP nought 0 2 k) 64) (rowN .u8 nought 64) 180 (r64_info _) (r64_two _ _) (rowN_one _ _ _) rfl rfl hrow2 ?_))
  clear hrow2
  generalize Y1.setRow (w.heap.size + 2) (rowN .u8 (putP nought 0 2 k) 64) = X1 at *
  have hput := put10_any (putP nought 0 2 k) 2 2 l (by omega) (by omega) (by omega) X1
  have hrow := HP1.out.row
  obtain ⟨c1, c2, c3, c4⟩ := Hc.out X1 _ _ HP1.out.nod
  go_wp2_with (first | (with_reducible refine isLoadR 180 ?_; refine wpList_ldR 180 Tryz.underlying180 rfl rfl (.tmp 3) rfl (w.heap.size + 2) rfl (rowN .u8 (putP nought 0 2 k) 64) 180 (0, 0) (r64_info _) hrow ?_) | (go_at_call 204; fail))
  refine hput.mono ?_
  rintro e Y2 ⟨rfl, hb2⟩
  have HQ2 : Hid (Ec w Y2 N (putP nought 0 2 k)) := HP1.out.call hb2
  have hrow2 := HQ2.out.row
  have HP2 : Hid (Ec w (Y2.setRow (w.heap.size + 2) (rowN .u8 (putP (putP nought 0 2 k) 2 2 l) 64)) N (putP (putP nought 0 2 k) 2 2 l)) := HQ2.out.store _
  clear hput hrow c1 c2 c3 c4 hb2 HQ2 HP1
  go_upto_region 4 with (first | (with_reducible refine isStoreR 180 ?_; refine wpList_stR 180 rfl (.tmp 3) (.tmp 15) rfl (w.heap.size + 2) (rowN .u8 (putP (putP nought 0 2 k) 2 2 l) 64) (rowN .u8 (putP nought 0 2 k) 64) 180 (r64_info _) (r64_two _ _) (rowN_one _ _ _) rfl rfl hrow2 ?_))
  clear hrow2
  generalize Y2.setRow (w.heap.size + 2) (rowN .u8 (putP (putP nought 0 2 k) 2 2 l) 64) = X2 at *
  have hput := put10_any (putP (putP nought 0 2 k) 2 2 l) 4 4 s (by omega) (by omega) (by omega) X2
  have hrow := HP2.out.row
  obtain ⟨c1, c2, c3, c4⟩ := Hc.out X2 _ _ HP2.out.nod
  go_wp2_with (first | (with_reducible refine isLoadR 180 ?_; refine wpList_ldR 180 Tryz.underlying180 rfl rfl (.tmp 3) rfl (w.heap.size + 2) rfl (rowN .u8 (putP (putP nought 0 2 k) 2 2 l) 64) 180 (0, 0) (r64_info _) hrow ?_) | (go_at_call 204; fail))
  refine hput.mono ?_
  rintro e Y3 ⟨rfl, hb3⟩
  have HQ3 : Hid (Ec w Y3 N (putP (putP nought 0 2 k) 2 2 l)) := HP2.out.call hb3
  have hrow2 := HQ3.out.row
  have HP3 : Hid (Ec w (Y3.setRow (w.heap.size + 2) (rowN .u8 (putP (putP (putP nought 0 2 k) 2 2 l) 4 4 s) 64)) N (putP (putP (putP nought 0 2 k) 2 2 l) 4 4 s)) := HQ3.out.store _
  clear hput hrow c1 c2 c3 c4 hb3 HQ3 HP2
  go_upto_region 5 with (first | (with_reducible refine isStoreR 180 ?_; refine wpList_stR 180 rfl (.tmp 3) (.tmp 19) rfl (w.heap.size + 2) (rowN .u8 (putP (putP (putP nought 0 2 k) 2 2 l) 4 4 s) 64) (rowN .u8 (putP (putP nought 0 2 k) 2 2 l) 64) 180 (r64_info _) (r64_two _ _) (rowN_one _ _ _) rfl rfl hrow2 ?_))
  clear hrow2
  generalize Y3.setRow (w.heap.size + 2) (rowN .u8 (putP (putP (putP nought 0 2 k) 2 2 l) 4 4 s) 64) = X3 at *
  have hput := put10_any (putP (putP (putP nought 0 2 k) 2 2 l) 4 4 s) 8 4 b (by omega) (by omega) (by omega) X3
  have hrow := HP3.out.row
  obtain ⟨c1, c2, c3, c4⟩ := Hc.out X3 _ _ HP3.out.nod
  go_wp2_with (first | (with_reducible refine isLoadR 180 ?_; refine wpList_ldR 180 Tryz.underlying180 rfl rfl (.tmp 3) rfl (w.heap.size + 2) rfl (rowN .u8 (putP (putP (putP nought 0 2 k) 2 2 l) 4 4 s) 64) 180 (0, 0) (r64_info _) hrow ?_) | (go_at_call 204; fail))
  refine hput.mono ?_
  rintro e Y4 ⟨rfl, hb4⟩
  have HQ4 : Hid (Ec w Y4 N (putP (putP (putP nought 0 2 k) 2 2 l) 4 4 s)) := HP3.out.call hb4
  have hrow2 := HQ4.out.row
  have HP4 : Hid (Ec w (Y4.setRow (w.heap.size + 2) (rowN .u8 (encH k l s b) 64)) N (encH k l s b)) := HQ4.out.store _
  clear hput hrow c1 c2 c3 c4 hb4 HQ4 HP3
  go_upto_region 6 with (first | (with_reducible refine isStoreR 180 ?_; refine wpList_stR 180 rfl (.tmp 3) (.tmp 23) rfl (w.heap.size + 2) (rowN .u8 (encH k l s b) 64) (rowN .u8 (putP (putP (putP nought 0 2 k) 2 2 l) 4 4 s) 64) 180 (r64_info _) (r64_two _ _) (rowN_one _ _ _) rfl rfl hrow2 ?_))
  clear hrow2
  generalize Y4.setRow (w.heap.size + 2) (rowN .u8 (encH k l s b) 64) = X4 at *
  have hnum := HNum.out X4
  have hnod := HP4.out.nod
  go_wp2_with (first | (with_reducible refine isLoadR 45 ?_; refine wpList_ldR 45 Tryz.underlying45 rfl rfl (.tmp 1) rfl w.heap.size rfl N 45 (0, 0) HI.out hnod ?_) | (go_at_call 205; fail))
  refine hnum.mono ?_
  rintro e W5 ⟨rfl, hb5⟩
  have HP5 : Hid (Ec w (W5.alloc (.cells (rowN .u32 d 12) 246)) N (encD (encH k l s b) d 0)) := (HP4.out.call hb5).call (below_new _ _)
  have HG5 : Hid ((W5.alloc (.cells (rowN .u32 d 12) 246)).heap[W5.heap.size]? = some (.cells (rowN .u32 d 12) 246)) := heap_alloc_new _ _
  have hgw : w.heap.size + 2 < W5.heap.size := Nat.lt_of_lt_of_le (Array.getElem?_eq_some_iff.1 HP4.out.row).1 hb5.size
  clear hnum hb5 HP4 hnod
  go_wp2_with (first | (with_reducible refine isStoreR 246 ?_; refine wpList_stNew 246 rfl (.tmp 4) (.tmp 25) rfl W5.heap.size (rowN .u32 d 12) (rowN .u32 nought 12) 246 (r12_info _) (r12_two _ _) (rowN_one _ _ _) rfl rfl rfl ?_))
  generalize W5.alloc (.cells (rowN .u32 d 12) 246) = V at *
  generalize W5.heap.size = gn at *
  go_loopw [5] (fun s5 wx => ∃ i : Nat, i ≤ 12 ∧ s5 = .int .i64 i ∧ Hid (Ec w wx N (encD (encH k l s b) d i)) ∧ Hid (wx.heap[gn]? = some (.cells (rowN .u32 d 12) 246))) (fun s5 _ => 12 - (intOf s5).toNat)
  case atStart => exact ⟨0, by omega, rfl, HP5.out, HG5.out⟩
  case round =>
    clear HP5 HG5
    obtain ⟨i, hi, rfl, HP, HG⟩ := hrel
    by_cases hi2 : (i : Int) < 12
    · have hi3 : i < 12 := by omega
      have hdi := HD.out i hi3
      have cn : wr.drew.cell? ⟨gn, i, none⟩ = some (.int .u32 (d i)) := cell_rowN (i := i) HG.out hi3
      have HPd : Hid (Ec w wr.drew N (encD (encH k l s b) d i)) := HP.out.call (Below.refl _ _).drew
      have HGd : Hid (wr.drew.heap[gn]? = some (.cells (rowN .u32 d 12) 246)) := HG.out
      have hput := put10_any (encD (encH k l s b) d i) (12 + 4 * i) 4 (d i) (by omega) (by omega) hdi wr.drew
      have HE : Hid (putP (encD (encH k l s b) d i) (12 + 4 * i) 4 (d i) = encD (encH k l s b) d (i + 1)) := rfl
      rw [HE.out] at hput
      have e5 : IntKind.i64.wrap (4 * (i : Int)) = 4 * (i : Int) := by rw [IntKind.wrap_i64]; omega
      have e6 : IntKind.i64.wrap (12 + 4 * (i : Int)) = ((12 + 4 * i : Nat) : Int) := by rw [IntKind.wrap_i64]; omega
      have e6' : 12 + 4 * (i : Int) = ((12 + 4 * i : Nat) : Int) := by omega
      have e7 : IntKind.i64.wrap ((12 + 4 * i : Nat) : Int) = ((12 + 4 * i : Nat) : Int) := by rw [IntKind.wrap_i64]; omega
      clear HP HG HE
      obtain ⟨f2, hf2⟩ : ∃ f2, encD (encH k l s b) d (i + 1) = f2 := ⟨_, rfl⟩
      have HE2 : Hid (encD (encH k l s b) d (i + 1) = f2) := hf2
      rw [hf2] at hput
      clear hf2
      generalize encD (encH k l s b) d i = f1 at *
      generalize hdi' : d i = di at *
      have HDi : Hid (d i = di) := hdi'
      clear hdi'
      generalize hmm : 12 + 4 * i = m at *
      go_upto_region 10 with fail
      refine wp_region_ord (S := fun u => u.cell? ⟨gn, i, none⟩ = some (.int .u32 di)) [(1, true), (2, true), (3, true), (4, true), (5, true), (6, true), (0, false), (7, false), (8, false)] (by kernel_rfl) rfl (by kernel_rfl) (fun d _ _ _ _ h => by cases d <;> exact h) cn ?_
      simp only [inOrd, List.getElem?_cons_zero, List.getElem?_cons_succ]
      refine wpOrd_yield (v := .int .i64 (i : Int)) rfl (fun u _ => exec_mv rfl rfl) ?_
      simp only [Act.put, pA, pB, pC]
      refine wpOrd_yield (v := .int .i64 (4 * (i : Int))) rfl (fun u _ => by go_simp) ?_
      simp only [Act.put, pA, pB, pC]
      refine wpOrd_yield (v := .int .i64 (m : Int)) rfl (fun u _ => by go_simp) ?_
      simp only [Act.put, pA, pB, pC]
      refine wpOrd_yield (v := .int .i64 (i : Int)) rfl (fun u _ => exec_mv rfl rfl) ?_
      simp only [Act.put, pA, pB, pC]
      refine wpOrd_yield (v := .pointer (some ⟨gn, i, none⟩)) rfl (fun u _ => by go_simp) ?_
      simp only [Act.put, pA, pB, pC]
      refine wpOrd_yield (v := .int .u32 di) rfl (fun u hu => by have := hu; go_simp) ?_
      simp only [Act.put, pA, pB, pC]
      refine wpOrd_act (W' := wr.drew) rfl (run_ldR 180 Tryz.underlying180 rfl (.tmp 3) rfl (w.heap.size + 2) rfl HPd.out.row (r64_info _)) cn ?_
      simp only [Act.put, pA, pB, pC]
      refine wpOrd_call rfl 204 _ _ rfl Tryz.call204 [.agg (rowN .u8 f1 64), .int .i64 (m : Int), .int .i64 ((4 : Nat) : Int), .int .u32 di] rfl ?_
      refine hput.mono ?_
      rintro e X ⟨rfl, hbX⟩
      have hgX := heap_kept HGd.out hbX
      have hcX := cell_rowN (i := i) hgX hi3
      rw [HDi.out] at hcX
      refine ⟨_, rfl, hcX, ?_⟩
      simp only [Act.put, pA, pB, pC]
      have hPX := HPd.out.call hbX
      have HP3 : Hid (Ec w (X.setRow (w.heap.size + 2) (rowN .u8 f2 64)) N f2) := hPX.store _
      have HG3 : Hid ((X.setRow (w.heap.size + 2) (rowN .u8 f2 64)).heap[gn]? = some (.cells (rowN .u32 d 12) 246)) := ((Fr.setRow X (w.heap.size + 2) _).block _ (Array.getElem?_eq_some_iff.1 hgX).1 (by omega)).trans hgX
      have hcY := cell_rowN (i := i) HG3.out hi3
      rw [HDi.out] at hcY
      refine wpOrd_do rfl (exec_stR 180 (.tmp 3) (.tmp 37) rfl (w.heap.size + 2) rfl rfl hPX.row (r64_info _) (r64_two _ _) (rowN_one _ _ _)) hcY ?_
      simp only [Act.put]
      refine wpOrd_nil ?_
      clear hcX hcY hPX hgX hbX hput HPd HGd cn
      generalize X.setRow (w.heap.size + 2) (rowN .u8 f2 64) = Z at *
      go_wp2
      exact ⟨⟨i + 1, by omega, by go_num, by rw [HE2.out]; exact HP3.out, HG3.out⟩, by simp [intOf]; omega⟩
    · obtain rfl : i = 12 := by omega
      have hrow := HP.out.row
      have hres := HP.out.res
      have HB : Hid _ := HP.out.bel
      have HEn : Hid (encD (encH k l s b) d 12 = encN k l s b d) := rfl
      rw [HEn.out] at hrow
      clear HP HEn
      go_wp2_with (first | (with_reducible refine isLoadR 180 ?_; refine wpList_ldR 180 Tryz.underlying180 rfl rfl (.tmp 3) rfl (w.heap.size + 2) rfl (rowN .u8 (encN k l s b d) 64) 180 (0, 0) (r64_info _) hrow ?_) | (with_reducible refine isStoreR 180 ?_; refine wpList_stR 180 rfl (.tmp 2) (.tmp 38) rfl (w.heap.size + 1) (rowN .u8 (encN k l s b d) 64) (rowN .u8 nought 64) 180 (r64_info _) (r64_two _ _) (rowN_one _ _ _) rfl rfl hres ?_))
      exact retR Tryz.underlying180 rfl rfl (w.heap.size + 1) _ 180 (r64_info _) rfl (setRow_heap _ _ _ _ _ _ hres) rfl ⟨rfl, HB.out.trans ((Fr.setRow wr (w.heap.size + 1) _).below (fun j q => by omega) HB.out.size)⟩
end Go.Proofs.YtiejhjngcnkimaaGreatR
/- A disk looked at, where nothing is wrong with it: its state; the document's Look, over what is said of each inode's own contents. -/
namespace Go.Proofs.YtiejhjngcnkimaaGreatR
open Go.RowKit Go.Maps
structure It where
  i : Int
  k : Int
  lk : Int
  s : Int
  b : Int
  p : Option Addr
  m : Nat
  c : Nat
  q : Option Addr
  n : Nat
  d : Nat
def itCells (t : It) : List Value := [.int .i64 t.i, .int .u16 t.k, .int .i64 t.lk, .int .i64 t.s, .int .i64 t.b, .slice t.p t.m t.c, .slice t.q t.n t.d]
theorem itCells_len (t : It) : (itCells t).length = 7 := rfl
theorem itCells_one (t : It) : ∀ u ∈ itCells t, u.oneCell' = true := fun u hu => by
  simp only [itCells, List.mem_cons, List.not_mem_nil, or_false] at hu
  rcases hu with rfl | rfl | rfl | rfl | rfl | rfl | rfl <;> rfl
theorem infoIt : (Tryz.prog.info? 81).map (fun i => (i.zero, i.size, i.bytes)) = some (some (.agg (itRow 0 0 0 0 0 (.slice none 0 0) (.slice none 0 0))), 7, 88) := by kernel_rfl
theorem sizeIs : (Tryz.prog.info? 27).map (·.size) = some 1 := by kernel_rfl
def Keep (w w' : World) : Prop := ∀ (g : Nat) cs t fr, w.heap[g]? = some (.cells cs t fr) → t ≠ 81 → t ≠ 29 → w'.heap[g]? = some (.cells cs t fr)
theorem Keep.trans {a b c : World} (h : Keep a b) (k : Keep b c) : Keep a c := fun g cs t fr h1 h2 h3 => k g cs t fr (h g cs t fr h1 h2 h3) h2 h3
theorem Keep.below {w w' : World} (h : Below w.heap.size w w') : Keep w w' := fun g _ _ _ h1 _ _ => (h.block g (Array.getElem?_eq_some_iff.1 h1).1).trans h1
theorem Keep.fr {w w' : World} {T : Nat → Prop} (h : Fr T w w') (hT : ∀ (g : Nat) (cs : Array Value) (t : TypeId) (fr : Nat × Nat), T g → w.heap[g]? = some (.cells cs t fr) → t = 81 ∨ t = 29) : Keep w w' := fun g cs t fr h1 h2 h3 => (h.block g (Array.getElem?_eq_some_iff.1 h1).1 fun q => by rcases hT g cs t fr q h1 with e | e; exact h2 e; exact h3 e).trans h1
theorem own_keep {w w' : World} {base e size : Nat} {v : Value} {n : Nat} {xs : List Value} (h : w.ownsRow base e size v n xs) (hk : Keep w w') (h1 : e ≠ 81) (h2 : e ≠ 29) : w'.ownsRow base e size v n xs := by
  obtain ⟨ha, hb⟩ := h
  refine ⟨ha, ?_⟩
  rcases hb with hb | ⟨g, cap, cur, hv, hg, hh, r⟩
  · exact .inl hb
  · exact .inr ⟨g, cap, cur, hv, hg, hk g _ _ _ hh h1 h2, r⟩
def ofFl (t : It) (x : Fl) : Prop := t.i = x.inum ∧ t.k = x.k ∧ t.lk = x.lk ∧ t.s = x.s ∧ t.b = x.b
structure LkS (A W : World) (R : World → Fl → It → Prop) (L : List Fl) (gs k : Nat) (v : Value) (fr sp : Int) (ts : List It) : Prop where
  row : W.heap[gs]? = some (.cells #[v, .int .i64 fr, .int .i64 sp] 29)
  own : OwnG itCells 81 7 W A.heap.size v ts
  len : ts.length = k
  its : ∀ (j : Nat) t, ts[j]? = some t → ∃ x, L[j]? = some x ∧ ofFl t x ∧ R W x t
  far : A.heap.size ≤ gs
  bel : Below A.heap.size A W
def KeepR (R : World → Fl → It → Prop) : Prop := ∀ W W' x t, Keep W W' → R W x t → R W' x t
theorem LkS.call {A W W' : World} {R : World → Fl → It → Prop} {L : List Fl} {gs k : Nat} {v : Value} {fr sp : Int} {ts : List It} (h : LkS A W R L gs k v fr sp ts) (hk : KeepR R) (hb : Below W.heap.size W W') : LkS A W' R L gs k v fr sp ts :=
  ⟨heap_kept h.row hb, h.own.later hb, h.len, fun j t ht => by obtain ⟨x, h1, h2, h3⟩ := h.its j t ht; exact ⟨x, h1, h2, hk _ _ _ _ (Keep.below hb) h3⟩, h.far, below_next h.bel hb⟩
theorem LkS.cell {A W : World} {R : World → Fl → It → Prop} {L : List Fl} {gs k : Nat} {v : Value} {fr sp : Int} {ts : List It} (h : LkS A W R L gs k v fr sp ts) (hk : KeepR R) (j : Nat) (u : Value) (v' : Value) (fr' : Int) (hr : (#[v, .int .i64 fr, .int .i64 sp] : Array Value).setIfInBounds j u = #[v', .int .i64 fr', .int .i64 sp]) {ts' : List It} {k' : Nat} (ho : OwnG itCells 81 7 W A.heap.size v' ts') (hl : ts'.length = k') (hi : ∀ (j : Nat) t, ts'[j]? = some t → ∃ x, L[j]? = some x ∧ ofFl t x ∧ R W x t) : LkS A (W.setCell ⟨gs, j, none⟩ u) R L gs k' v' fr' sp ts' := by
  have hF := Fr.setCell W gs j u
  have hK : Keep W (W.setCell ⟨gs, j, none⟩ u) := Keep.fr hF fun g cs t f q hg => by
    subst q
    rw [h.row] at hg
    injection hg with hg
    injection hg with _ h2
    exact .inr h2.symm
  refine ⟨?_, own_frame ho hF fun b hb hT => own_ne ho h.row (by decide) (hT ▸ hb), hl, fun j t ht => ?_, h.far, h.bel.trans (hF.below (fun j q => by have := h.far; omega) h.bel.size)⟩
  · rw [heap_setCell_same _ _ _ _ _ _ h.row, hr]
  · obtain ⟨x, h1, h2, h3⟩ := hi j t ht
    exact ⟨x, h1, h2, hk _ _ _ _ hK h3⟩
theorem LkS.push {A W : World} {R : World → Fl → It → Prop} {L : List Fl} {gs k : Nat} {v : Value} {fr sp : Int} {ts : List It} (h : LkS A W R L gs k v fr sp ts) (hk : KeepR R) (hn : k ≤ 1000000) (t : It) (x : Fl) (hx : L[k]? = some x) (ht : ofFl t x) (hr : R W x t) (ty : TypeId) :
    ∃ p n c w', (Builtin.append_ #[27, 27] ty #[v, .slice (some ⟨W.heap.size, 0, none⟩) 1 1]).run Tryz.prog (W.alloc (.cells (itCells t).toArray 81)) = .ok (.slice p n c) w' ∧ w'.cell? ⟨gs, 0, none⟩ = some v ∧ w'.frozen? ⟨gs, 0, none⟩ = false ∧ Below A.heap.size A w' ∧ LkS A (w'.setCell ⟨gs, 0, none⟩ (.slice p n c)) R L gs (k + 1) (.slice p n c) fr sp (ts ++ [t]) := by
  obtain ⟨i0, hi0, hz0, hz1, hz2⟩ := info_parts infoIt
  obtain ⟨v', w', h1, h2, h3, h4⟩ := own_pushF itCells_len itCells_one Tryz.underlying27 hi0 hz0 hz1 hz2 rfl (by omega) (by omega) h.own h.bel.size (by rw [h.len]; omega) t ty
  obtain ⟨p, c, rfl, _⟩ := OwnG.lie itCells_len (show OwnG itCells 81 7 w' A.heap.size v' (ts ++ [t]) from h2)
  have hrow : w'.heap[gs]? = some (.cells #[v, .int .i64 fr, .int .i64 sp] 29) := (h4.block gs (Array.getElem?_eq_some_iff.1 h.row).1 (own_ne h.own h.row (by decide))).trans h.row
  have hbel := h.bel.trans h3
  have hK : Keep W w' := Keep.fr h4 fun g cs tt f q hg => by
    have hq := h.own
    rcases hq.2 with ⟨rfl, _⟩ | ⟨g', cap, cur, rfl, _, hh, _⟩
    · cases q
    · injection q with q
      subst q
      rw [hg] at hh
      injection hh with hh
      injection hh with _ h2
      exact .inl h2
  have hL' : LkS A w' R L gs k v fr sp ts ∨ True := .inr trivial
  clear hL'
  refine ⟨p, _, c, w', h1, Joins.cell_of_block hrow 0, frozen_row hrow 0, hbel, ?_⟩
  have hF := Fr.setCell w' gs 0 (.slice p (ts ++ [t]).length c)
  have hK2 : Keep w' (w'.setCell ⟨gs, 0, none⟩ (.slice p (ts ++ [t]).length c)) := Keep.fr hF fun g cs tt f q hg => by
    subst q
    rw [hrow] at hg
    injection hg with hg
    injection hg with _ h2
    exact .inr h2.symm
  refine ⟨?_, own_frame h2 hF fun b hb hT => own_ne h2 hrow (by decide) (hT ▸ hb), by rw [List.length_append, h.len]; rfl, fun j u hu => ?_, h.far, hbel.trans (hF.below (fun j q => by have := h.far; omega) hbel.size)⟩
  · rw [heap_setCell_same _ _ _ _ _ _ hrow]; rfl
  · by_cases hj : j < ts.length
    · rw [List.getElem?_append_left hj] at hu
      obtain ⟨x', q1, q2, q3⟩ := h.its j u hu
      exact ⟨x', q1, q2, hk _ _ _ _ (hK.trans hK2) q3⟩
    · have hj2 : j = ts.length := by
        have := (List.getElem?_eq_some_iff.1 hu).1
        rw [List.length_append] at this
        simp at this
        omega
      subst hj2
      rw [List.getElem?_append_right (Nat.le_refl _), Nat.sub_self] at hu
      injection hu with hu
      subst hu
      rw [h.len]
      exact ⟨x, hx, ht, hk _ _ _ _ (hK.trans hK2) hr⟩
section
variable {o : Oper} {a : Act} {W : World}
theorem exec_sliceIt {y : Operand} {t : It} (ho : o.op = .buildSlice 27 1 #[(0, y)]) (hy : a.eval y = .agg (itCells t).toArray) : (execOp a.eval o).run Tryz.prog W = .ok (.value (.slice (some ⟨W.heap.size, 0, none⟩) 1 1)) (W.alloc (.cells (itCells t).toArray 81)) := by
  have z := zeroIt
  unfold itRow at z
  unfold itCells at *
  generalize a.eval = E at *
  unfold execOp
  simp only [ho]
  simp [go_sem, hy, z]
theorem exec_st1 {ty : TypeId} (hi : (Tryz.prog.info? ty).map (·.size) = some 1) {x y : Operand} {g i n c : Nat} {p : Option Addr} {old : Value} (ho : o.op = .store ty x y) (hx : a.eval x = .pointer (some ⟨g, i, none⟩)) (hy : a.eval y = .slice p n c) (hc : W.cell? ⟨g, i, none⟩ = some old) (hf : W.frozen? ⟨g, i, none⟩ = false) : (execOp a.eval o).run Tryz.prog W = .ok .skip (W.setCell ⟨g, i, none⟩ (.slice p n c)) := by
  obtain ⟨i0, hi0, hz1⟩ : ∃ i0, Tryz.prog.info? ty = some i0 ∧ i0.size = 1 := by
    cases hq : Tryz.prog.info? ty with
    | none => rw [hq] at hi; cases hi
    | some i => rw [hq] at hi; exact ⟨i, rfl, by simpa using hi⟩
  generalize a.eval = E at *
  unfold execOp
  simp only [ho]
  simp [hx, hy, Instr.storeAt, Instr.sureAddr, storeVar, sizeOf, typeInfo, hi0, hz1, storeCells, go_sem, hc, hf]
theorem exec_ldF {x : Operand} {b off : Nat} {f : Fl} (ho : o.op = .load 223 x) (hx : a.eval x = .pointer (some ⟨b, off, none⟩)) (hg : ∀ j u, (flCells f)[j]? = some u → W.cell? ⟨b, off + j, none⟩ = some u) : (execOp a.eval o).run Tryz.prog W = .ok (.value (.agg (flCells f).toArray)) W := by
  unfold execOp
  simp only [ho, hx, loadF hg, Sem.run_bind, Result.andThen_ok, Sem.run_pure]
end
structure LkR (W : World) (B : Nat) (R : World → Fl → It → Prop) (L : List Fl) (v : Value) (ts : List It) : Prop where
  own : OwnG itCells 81 7 W B v ts
  len : ts.length = L.length
  its : ∀ (j : Nat) t, ts[j]? = some t → ∃ x, L[j]? = some x ∧ ofFl t x ∧ R W x t
def freeK (y : Lay) (L : List Fl) (k : Nat) : Int := y.b - y.dataAt - ((allS (L.take k)).length : Nat)
theorem sizeSt : (Tryz.prog.info? 29).map (·.size) = some 3 := by kernel_rfl
def stRow (v : Value) (fr sp : Int) : Array Value := #[v, .int .i64 fr, .int .i64 sp]
theorem st_info (v : Value) (fr sp : Int) : (Tryz.prog.info? 29).map (·.size) = some (stRow v fr sp).size := sizeSt
theorem st_two (v v' : Value) (fr sp fr' sp' : Int) : (stRow v fr sp).size = (stRow v' fr' sp').size := rfl
theorem st_one (p : Option Addr) (n c : Nat) (fr sp : Int) : (stRow (.slice p n c) fr sp).all (·.oneCell') = true := by simp [stRow, Value.oneCell']
theorem zeroSt : ∀ w, (zeroValue 29).run Tryz.prog w = .ok (.agg (stRow (.slice none 0 0) 0 0)) w := (zero_of_info (show (Tryz.prog.info? 29).map (fun i => (i.zero, i.size)) = some (some (.agg (stRow (.slice none 0 0) 0 0)), 3) by kernel_rfl)).1
theorem exec_buildSt {o : Oper} {a : Act} {W : World} {x y : Operand} {fr sp : Int} (ho : o.op = .build 29 #[(1, x), (2, y)]) (hx : a.eval x = .int .i64 fr) (hy : a.eval y = .int .i64 sp) : (execOp a.eval o).run Tryz.prog W = .ok (.value (.agg (stRow (.slice none 0 0) fr sp))) W := by
  have z := zeroSt W
  unfold stRow at *
  generalize a.eval = E at *
  unfold execOp
  simp only [ho]
  simp [go_sem, hx, hy, z]
structure Tells (R : World → Fl → It → Prop) (g : Nat) (A : World) (L : List Fl) : Prop where
  keep : KeepR R
  item : ∀ W x, x ∈ L → Below A.heap.size A W → Calls Tryz.prog 130 #[.pointer (some ⟨g, 0, none⟩), .agg (flCells x).toArray] W fun r w' => ∃ t, r = .returned (.agg (itCells t).toArray) ∧ ofFl t x ∧ R w' x t ∧ Below W.heap.size W w'
set_option maxRecDepth 20000 in
set_option maxHeartbeats 8000000 in
theorem look29_ok {b l i nN bB : Nat} {n : Int} {im : List Cel} {p : Option Addr} {cap : Nat} {w : World} {ent : Fl → List (Int × ByteArray)} (hi : ImgAt w p im) (hw : WholeOk n im) (hs : SupOk b l i im) (hbn : (b : Int) ≤ n) (hbyt : ∀ c ∈ im, ∀ i, 0 ≤ c.2 i ∧ c.2 i ≤ 255) (hf : FineA (layOf b l i) im i nN b bB ent) (R : World → Fl → It → Prop)
    (hR : ∀ g A L, L.map Fl.core = filesK (layOf b l i) im i → Aud A g n im (layOf b l i) → (∀ x ∈ L, FlOk A x) → Tells R g A L) :
    Calls Tryz.prog 77 #[.agg #[.int .i64 n, .slice p im.length cap]] w fun e w' => ∃ L v ts, e = .returned (.tuple #[.agg (stRow v (freeK (layOf b l i) L L.length) ((i : Int) - (L.length : Int))), .slice none 0 0]) ∧ L.map Fl.core = filesK (layOf b l i) im i ∧ LkR w' w.heap.size R L v ts ∧ Below w.heap.size w w' := by
  have zst := zeroSt
  obtain ⟨W0, hW0⟩ : ∃ W0, W0 = (w.alloc (.cells #[.int .i64 n, .slice p im.length cap] 97)).alloc (.cells (stRow (.slice none 0 0) 0 0) 29) := ⟨_, rfl⟩
  have HX : Hid (W0.heap[w.heap.size]? = some (.cells #[.int .i64 n, .slice p im.length cap] 97)) := by rw [hW0]; exact heap_kept (heap_alloc_new _ _) (below_new _ _)
  have HRs : Hid (W0.heap[w.heap.size + 1]? = some (.cells (stRow (.slice none 0 0) 0 0) 29)) := by rw [hW0]; exact heap_two _ _ _
  have hb0 : Below w.heap.size w W0 := by rw [hW0]; exact below_next (below_new _ _) (below_new _ _)
  have hop := open29_ok (cap := cap) (hi.later hb0) hw hs hbn hbyt
  have HB0 : Hid _ := hb0
  have HF : Hid _ := hf
  have HR : Hid _ := hR
  obtain ⟨g1, g2, g3, g4, g5, g6, g7⟩ := hs.geo
  have HyI : Hid ((layOf b l i).i = (i : Int)) := rfl
  have HyB : Hid ((layOf b l i).b = (b : Int)) := rfl
  have HyD : Hid (0 ≤ (layOf b l i).dataAt ∧ (layOf b l i).dataAt < (b : Int)) := by
    show 0 ≤ ((1 + l + (i + 16) / 16 + (b + 8191) / 8192 : Nat) : Int) ∧ ((1 + l + (i + 16) / 16 + (b + 8191) / 8192 : Nat) : Int) < (b : Int)
    omega
  clear hi hw hs hbyt hf hR hb0
  obtain ⟨y, hy⟩ : ∃ y, layOf b l i = y := ⟨_, rfl⟩
  rw [hy] at hop HF HR HyI HyB HyD
  simp only [hy]
  clear hy
  obtain ⟨N, hN⟩ : ∃ N, im.length = N := ⟨_, rfl⟩
  rw [hN] at hop HX hW0 ⊢
  clear hN
  have HW0 : Hid (W0 = _) := hW0
  clear hW0
  go_enter Tryz.func77, Tryz.ntmps77
  go_upto_region 1 with fail
  rw [← HW0.out]
  clear HW0
  go_wp2_with (first | (with_reducible refine isLoadR 97 ?_; refine wpList_ldR 97 Tryz.underlying97 rfl rfl (.tmp 1) rfl w.heap.size rfl #[.int .i64 n, .slice p N cap] 97 (0, 0) (im_info _ _ _ _) HX.out ?_) | (go_at_call 127; fail))
  refine hop.mono ?_
  rintro e W1 ⟨g, rfl, ha, hb⟩
  have HA1 : Hid _ := ha
  have HB1 : Hid (Below w.heap.size w W1) := below_next HB0.out hb
  have HRs1 : Hid _ := heap_kept HRs.out hb
  have hwr := wrong29_all ha HF.out
  clear hop ha hb HRs HB0 HX
  go_wp2_with (first | (go_at_call 128; fail))
  refine hwr.mono ?_
  rintro e W2 ⟨rfl, hb⟩
  have HA2 : Hid (Aud W2 g n im y) := HA1.out.later hb
  have HB2 : Hid (Below w.heap.size w W2) := below_next HB1.out hb
  have HRs2 : Hid _ := heap_kept HRs1.out hb
  have hfi := files29_any HA2.out HF.out.nodes.i HF.out.nodes.i1 HF.out.nodes.at'
  clear hwr hb HA1 HB1 HRs1
  go_wp2_with (first | (go_at_call 129; fail))
  refine hfi.mono ?_
  rintro e A ⟨v, rfl, ⟨L, hfa, hco⟩, hb⟩
  have hfl := HF.out.all L hco
  have hll : L.length ≤ 1000000 := by
    have h1 : L.length = (filesK y im i).length := by rw [← hco, List.length_map]
    have h2 := filesK_len y im i
    omega
  obtain ⟨pl, c, rfl, hls⟩ := hfa.fls hll hfl.len2
  have HA : Hid (Aud A g n im y) := HA2.out.later hb
  have HB : Hid (Below w.heap.size w A) := below_next HB2.out hb
  have HRsA : Hid _ := heap_kept HRs2.out hb
  have HL : Hid (FlsAt A pl L) := hls
  have HCo : Hid _ := hco
  have HTe : Hid (Tells R g A L) := HR.out g A L hco HA.out fun x hx => hls.get hx (hfl.sb x hx).1 (hfl.sb x hx).2
  have htot := hfl.tot
  have hx0 := HA.out.row
  obtain ⟨p', cap', q', c', hdk, _⟩ := hx0
  unfold dkRow at hdk
  have d2 : A.cell? ⟨g, 2, none⟩ = some (.int .i64 (b : Int)) := by rw [← HyB.out]; exact Joins.cell_of_block hdk 2
  have d10 : A.cell? ⟨g, 10, none⟩ = some (.int .i64 y.dataAt) := Joins.cell_of_block hdk 10
  have d4 : A.cell? ⟨g, 4, none⟩ = some (.int .i64 (i : Int)) := by rw [← HyI.out]; exact Joins.cell_of_block hdk 4
  clear hfi hb hfl hls hfa hco HA2 HB2 HRs2 hdk HR
  have hda := HyD.out
  generalize hdv : y.dataAt = da at *
  have e1 : IntKind.i64.wrap ((b : Int) - da) = (b : Int) - da := by rw [IntKind.wrap_i64]; omega
  have e2 : IntKind.i64.wrap ((i : Int) - (L.length : Int)) = (i : Int) - (L.length : Int) := by rw [IntKind.wrap_i64]; omega
  obtain ⟨M, hM⟩ : ∃ M, L.length = M := ⟨_, rfl⟩
  have HM : Hid (L.length = M) := hM
  rw [hM] at e2 hll ⊢
  clear hM
  go_upto_region 8 with fail
  refine wp_region_ord (S := fun u => u.cell? ⟨g, 2, none⟩ = some (.int .i64 (b : Int)) ∧ u.cell? ⟨g, 10, none⟩ = some (.int .i64 da) ∧ u.cell? ⟨g, 4, none⟩ = some (.int .i64 (i : Int))) [(0, true), (1, true), (2, true), (3, true), (4, true), (5, true), (6, true), (7, true), (8, true), (9, true), (10, true), (11, true), (12, true), (13, true), (14, true), (15, true), (16, true), (17, true), (18, true), (19, true), (20, true), (21, true), (22, false), (23, false)] (by kernel_rfl) rfl (by kernel_rfl) (fun d _ _ _ _ h => by cases d <;> exact h) ⟨d2, d10, d4⟩ ?_
  simp only [inOrd, List.getElem?_cons_zero, List.getElem?_cons_succ]
  refine wpOrd_yield (v := .pointer (some ⟨g, 0, none⟩)) rfl (fun u _ => exec_mv rfl rfl) ?_
  simp only [Act.put, pA, pB, pC]
  refine wpOrd_yield (v := .pointer (some ⟨g, 0, none⟩)) rfl (fun u _ => by go_simp) ?_
  simp only [Act.put, pA, pB, pC]
  refine wpOrd_yield (v := .pointer (some ⟨g, 2, none⟩)) rfl (fun u _ => by go_simp) ?_
  simp only [Act.put, pA, pB, pC]
  refine wpOrd_yield (v := .pointer (some ⟨g, 2, none⟩)) rfl (fun u _ => by go_simp) ?_
  simp only [Act.put, pA, pB, pC]
  refine wpOrd_yield (v := .pointer (some ⟨g, 2, none⟩)) rfl (fun u _ => by go_simp) ?_
  simp only [Act.put, pA, pB, pC]
  refine wpOrd_yield (v := .int .i64 (b : Int)) rfl (fun u hu => by have := hu.1; go_simp) ?_
  simp only [Act.put, pA, pB, pC]
  refine wpOrd_yield (v := .pointer (some ⟨g, 0, none⟩)) rfl (fun u _ => exec_mv rfl rfl) ?_
  simp only [Act.put, pA, pB, pC]
  refine wpOrd_yield (v := .pointer (some ⟨g, 0, none⟩)) rfl (fun u _ => by go_simp) ?_
  simp only [Act.put, pA, pB, pC]
  refine wpOrd_yield (v := .pointer (some ⟨g, 2, none⟩)) rfl (fun u _ => by go_simp) ?_
  simp only [Act.put, pA, pB, pC]
  refine wpOrd_yield (v := .pointer (some ⟨g, 10, none⟩)) rfl (fun u _ => by go_simp) ?_
  simp only [Act.put, pA, pB, pC]
  refine wpOrd_yield (v := .int .i64 da) rfl (fun u hu => by have := hu.2.1; go_simp) ?_
  simp only [Act.put, pA, pB, pC]
  refine wpOrd_yield (v := .int .i64 ((b : Int) - da)) rfl (fun u _ => by go_simp) ?_
  simp only [Act.put, pA, pB, pC]
  refine wpOrd_yield (v := .pointer (some ⟨g, 0, none⟩)) rfl (fun u _ => exec_mv rfl rfl) ?_
  simp only [Act.put, pA, pB, pC]
  refine wpOrd_yield (v := .pointer (some ⟨g, 0, none⟩)) rfl (fun u _ => by go_simp) ?_
  simp only [Act.put, pA, pB, pC]
  refine wpOrd_yield (v := .pointer (some ⟨g, 2, none⟩)) rfl (fun u _ => by go_simp) ?_
  simp only [Act.put, pA, pB, pC]
  refine wpOrd_yield (v := .pointer (some ⟨g, 2, none⟩)) rfl (fun u _ => by go_simp) ?_
  simp only [Act.put, pA, pB, pC]
  refine wpOrd_yield (v := .pointer (some ⟨g, 4, none⟩)) rfl (fun u _ => by go_simp) ?_
  simp only [Act.put, pA, pB, pC]
  refine wpOrd_yield (v := .int .i64 (i : Int)) rfl (fun u hu => by have := hu.2.2; go_simp) ?_
  simp only [Act.put, pA, pB, pC]
  refine wpOrd_yield (v := .slice pl M c) rfl (fun u _ => exec_mv rfl rfl) ?_
  simp only [Act.put, pA, pB, pC]
  refine wpOrd_yield (v := .int .i64 (M : Int)) rfl (fun u _ => by go_simp) ?_
  simp only [Act.put, pA, pB, pC]
  refine wpOrd_yield (v := .int .i64 ((i : Int) - (M : Int))) rfl (fun u _ => by go_simp) ?_
  simp only [Act.put, pA, pB, pC]
  refine wpOrd_yield (v := .agg (stRow (.slice none 0 0) ((b : Int) - da) ((i : Int) - (M : Int)))) rfl (fun u _ => exec_buildSt rfl rfl rfl) ?_
  simp only [Act.put, pA, pB, pC]
  have HSd : Hid (∀ u, Below A.heap.size A u → u.cell? ⟨g, 2, none⟩ = some (.int .i64 (b : Int)) ∧ u.cell? ⟨g, 10, none⟩ = some (.int .i64 da) ∧ u.cell? ⟨g, 4, none⟩ = some (.int .i64 (i : Int))) := fun u hu => ⟨(hu.cell (p := ⟨g, 2, none⟩) (block_lt_of_cell d2)).trans d2, (hu.cell (p := ⟨g, 10, none⟩) (block_lt_of_cell d10)).trans d10, (hu.cell (p := ⟨g, 4, none⟩) (block_lt_of_cell d4)).trans d4⟩
  have hbA : Below A.heap.size A (A.drew.alloc (.cells (stRow (.slice none 0 0) 0 0) 29)) := (Below.refl _ _).drew.alloc (Nat.le_refl _) _
  have hgA : (A.drew.alloc (.cells (stRow (.slice none 0 0) 0 0) 29)).heap[A.heap.size]? = some (.cells (stRow (.slice none 0 0) 0 0) 29) := heap_alloc_new A.drew _
  refine wpOrd_act (W' := A.drew.alloc (.cells (stRow (.slice none 0 0) 0 0) 29)) rfl (exec_allocR zeroSt rfl) (HSd.out _ hbA) ?_
  simp only [Act.put, pA, pB, pC]
  have hbS : Below A.heap.size A ((A.drew.alloc (.cells (stRow (.slice none 0 0) 0 0) 29)).setRow A.heap.size (stRow (.slice none 0 0) ((b : Int) - da) ((i : Int) - (M : Int)))) := hbA.trans ((Fr.setRow _ _ _).below (fun j q => by omega) hbA.size)
  refine wpOrd_do rfl (exec_stR 29 (.tmp 7) (.tmp 48) rfl A.heap.size rfl rfl hgA (st_info _ _ _) (st_two _ _ _ _ _ _) (st_one _ _ _ _ _)) (HSd.out _ hbS) ?_
  simp only [Act.put]
  refine wpOrd_nil ?_
  have HK0 : Hid (LkS A ((A.drew.alloc (.cells (stRow (.slice none 0 0) 0 0) 29)).setRow A.heap.size (stRow (.slice none 0 0) ((b : Int) - da) ((i : Int) - (M : Int)))) R L A.heap.size 0 (.slice none 0 0) (freeK y L 0) ((i : Int) - (M : Int)) []) := by
    refine ⟨?_, OwnG.nil _ _, rfl, fun j t ht => by simp at ht, Nat.le_refl _, hbS⟩
    rw [show freeK y L 0 = (b : Int) - da by unfold freeK; rw [List.take_zero, HyB.out, hdv]; show (b : Int) - da - ((0 : Nat) : Int) = _; omega]
    exact setRow_heap _ _ _ _ _ _ hgA
  clear hgA hbA hbS d2 d4 d10 HSd e1 e2
  generalize (A.drew.alloc (.cells (stRow (.slice none 0 0) 0 0) 29)).setRow A.heap.size (stRow (.slice none 0 0) ((b : Int) - da) ((i : Int) - (M : Int))) = V at *
  rw [show A.drew.heap.size = A.heap.size from rfl]
  generalize hgs : A.heap.size = gs at *
  have HGs : Hid (A.heap.size = gs) := hgs
  clear hgs
  have HTk := HTe.out.keep
  go_wp2
  go_loopw [8] (fun s8 wx => ∃ (k : Nat) (v : Value) (ts : List It), k ≤ M ∧ s8 = .int .i64 k ∧ Hid (LkS A wx R L gs k v (freeK y L k) ((i : Int) - (M : Int)) ts)) (fun s8 _ => M - (intOf s8).toNat)
  case atStart => exact ⟨0, _, _, by omega, rfl, HK0.out⟩
  case round =>
    clear HK0
    obtain ⟨k, v, ts, hk, rfl, HK⟩ := hrel
    by_cases hk2 : (k : Int) < (M : Int)
    · have hkL : k < L.length := by rw [HM.out]; omega
      obtain ⟨gf, x, rfl, hLk, hxL, hcx⟩ := (HL.out.later HK.out.bel).at (i := k) hkL
      have HCx : Hid (∀ u, Below A.heap.size A u → ∀ j v, (flCells x)[j]? = some v → u.cell? ⟨gf, k * 18 + j, none⟩ = some v) := fun u hu => by
        obtain ⟨g', x', hp, hx', _, hc'⟩ := (HL.out.later hu).at (i := k) hkL
        injection hp with hp
        injection hp with hp
        subst hp
        rw [hLk] at hx'
        injection hx' with hx'
        subst hx'
        exact hc'
      have HIt : Hid (∀ W, Below A.heap.size A W → Calls Tryz.prog 130 #[.pointer (some ⟨g, 0, none⟩), .agg (flCells x).toArray] W fun r w' => ∃ t, r = .returned (.agg (itCells t).toArray) ∧ ofFl t x ∧ R w' x t ∧ Below W.heap.size W w') := fun W hW => HTe.out.item W x hxL hW
      have hkM : k < M := by omega
      have HLk : Hid (L[k]? = some x) := hLk
      have HFr : Hid (freeK y L (k + 1) = freeK y L k - (x.sp.length : Int)) := by
        show _ = _
        unfold freeK
        rw [allS_snoc hLk, List.length_append]
        omega
      have HFb : Hid (-200000000 ≤ freeK y L k ∧ freeK y L k ≤ 200000000 ∧ x.sp.length ≤ 1000000) := by
        have h1 := allS_le L k
        refine ⟨?_, ?_, (HL.out.len2 x hxL)⟩
        · unfold freeK; rw [HyB.out, hdv]; omega
        · unfold freeK; rw [HyB.out, hdv]; omega
      clear hcx hLk hkL hxL
      generalize freeK y L k = fk at *
      have HKd : Hid (LkS A wr.drew R L gs k v fk ((i : Int) - (M : Int)) ts) := HK.out.call HTk (Below.refl _ _).drew
      have HCu : Hid (∀ u, Below wr.heap.size wr u → u.cell? ⟨gs, 0, none⟩ = some v) := fun u hu => Joins.cell_of_block (heap_kept HK.out.row hu) 0
      go_upto_region 12 with fail
      go_cut [] from 55 to 65 (fun wc => ∃ (v' : Value) (ts' : List It), Hid (LkS A wc R L gs (k + 1) v' fk ((i : Int) - (M : Int)) ts'))
      case first =>
        refine wp_region_tree (S := fun u => Below A.heap.size A u) (rdT 0 (rdT 2 (rdT 3 (rdT 4 (rdT 5 (rdT 6 (altT [(1, altT [(7, altT [(8, altT [(9, rdT 10 (altT [(11, finT)]))])])]), (7, altT [(1, altT [(8, altT [(9, rdT 10 (altT [(11, finT)]))])]), (8, altT [(1, altT [(9, rdT 10 (altT [(11, finT)]))])])])]))))))) (by kernel_rfl) rfl (by kernel_rfl) (fun d _ _ _ _ h => by cases d <;> exact h) HKd.out.bel ?_
        have hbd : Below wr.heap.size wr wr.drew := (Below.refl _ _).drew
        have cvd := HCu.out _ hbd
        generalize wr.drew = X0 at *
        refine wpT_yield (v := .pointer (some ⟨gs, 0, none⟩)) rfl rfl (fun u _ => by go_simp) ?_
        simp only [Act.put, pA, pB, pC]
        refine wpT_yield (v := .pointer (some ⟨g, 0, none⟩)) rfl rfl (fun u _ => exec_mv rfl rfl) ?_
        simp only [Act.put, pA, pB, pC]
        refine wpT_yield (v := .slice (some ⟨gf, 0, none⟩) M c) rfl rfl (fun u _ => exec_mv rfl rfl) ?_
        simp only [Act.put, pA, pB, pC]
        refine wpT_yield (v := .int .i64 (k : Int)) rfl rfl (fun u _ => exec_mv rfl rfl) ?_
        simp only [Act.put, pA, pB, pC]
        refine wpT_yield (v := .pointer (some ⟨gf, k * 18, none⟩)) rfl rfl (fun u _ => by go_simp) ?_
        simp only [Act.put, pA, pB, pC]
        refine wpT_yield (v := .agg (flCells x).toArray) rfl rfl (fun u hu => exec_ldF rfl rfl (HCx.out u hu)) ?_
        simp only [Act.put, pA, pB, pC]
        refine wpT_make (v := v) (w' := X0) rfl rfl (by have := cvd; go_simp) HKd.out.bel ?_ ?_
        · simp only [Act.put, pA, pB, pC]
          refine wpT_call rfl rfl 130 _ _ rfl Tryz.call130 [.pointer (some ⟨g, 0, none⟩), .agg (flCells x).toArray] rfl ?_ ?_
          · refine Calls.mono (HIt.out _ HKd.out.bel) ?_
            rintro e1 Xc ⟨t, rfl, hof, hrt, hbc⟩
            have hKc : LkS A Xc R L gs k v fk ((i : Int) - (M : Int)) ts := HKd.out.call HTk hbc
            have hbwc := below_next hbd hbc
            refine ⟨_, rfl, hKc.bel, ?_⟩
            simp only [Act.put, pA, pB, pC]
            refine wpT_make rfl rfl (exec_sliceIt rfl rfl) (hKc.bel.alloc hKc.bel.size _) ?_ ?_
            · simp only [Act.put, pA, pB, pC]
              obtain ⟨p', n', c', w', hR1, hc1, hf1, hb1, hK1⟩ := hKc.push HTk (by omega) t x HLk.out hof hrt 27
              refine wpT_make rfl rfl (exec_push rfl rfl rfl hR1) hb1 ?_ wpT_stop
              simp only [Act.put, pA, pB, pC]
              refine wpT_yield (v := .pointer (some ⟨gs, 0, none⟩)) rfl rfl (fun u _ => by go_simp) ?_
              simp only [Act.put, pA, pB, pC]
              refine wpT_do rfl rfl (exec_st1 sizeIs rfl rfl rfl hc1 hf1) hK1.bel ?_ wpT_stop
              simp only [Act.put]
              refine wpT_fin ?_
              have HK1 : Hid _ := hK1
              generalize w'.setCell ⟨gs, 0, none⟩ (.slice p' n' c') = ZZ at HK1 ⊢
              clear hK1 hb1 hc1 hf1 hR1 hKc
              go_wp2_with fail
              go_meet
              case rel => exact ⟨_, _, HK1.out⟩
            · exact wpT_stop
          · exact wpT_stop
        refine wpT_call rfl rfl 130 _ _ rfl Tryz.call130 [.pointer (some ⟨g, 0, none⟩), .agg (flCells x).toArray] rfl ?_ ?_
        · refine Calls.mono (HIt.out _ HKd.out.bel) ?_
          rintro e1 Xc ⟨t, rfl, hof, hrt, hbc⟩
          have hKc : LkS A Xc R L gs k v fk ((i : Int) - (M : Int)) ts := HKd.out.call HTk hbc
          have hbwc := below_next hbd hbc
          refine ⟨_, rfl, hKc.bel, ?_⟩
          simp only [Act.put, pA, pB, pC]
          have cvc := HCu.out _ hbwc
          refine wpT_make (v := v) (w' := Xc) rfl rfl (by have := cvc; go_simp) hKc.bel ?_ ?_
          · simp only [Act.put, pA, pB, pC]
            refine wpT_make rfl rfl (exec_sliceIt rfl rfl) (hKc.bel.alloc hKc.bel.size _) ?_ ?_
            · simp only [Act.put, pA, pB, pC]
              obtain ⟨p', n', c', w', hR1, hc1, hf1, hb1, hK1⟩ := hKc.push HTk (by omega) t x HLk.out hof hrt 27
              refine wpT_make rfl rfl (exec_push rfl rfl rfl hR1) hb1 ?_ wpT_stop
              simp only [Act.put, pA, pB, pC]
              refine wpT_yield (v := .pointer (some ⟨gs, 0, none⟩)) rfl rfl (fun u _ => by go_simp) ?_
              simp only [Act.put, pA, pB, pC]
              refine wpT_do rfl rfl (exec_st1 sizeIs rfl rfl rfl hc1 hf1) hK1.bel ?_ wpT_stop
              simp only [Act.put]
              refine wpT_fin ?_
              have HK1 : Hid _ := hK1
              generalize w'.setCell ⟨gs, 0, none⟩ (.slice p' n' c') = ZZ at HK1 ⊢
              clear hK1 hb1 hc1 hf1 hR1 hKc
              go_wp2_with fail
              go_meet
              case rel => exact ⟨_, _, HK1.out⟩
            · exact wpT_stop
          refine wpT_make rfl rfl (exec_sliceIt rfl rfl) (hKc.bel.alloc hKc.bel.size _) ?_ ?_
          · simp only [Act.put, pA, pB, pC]
            have cva : (Xc.alloc (.cells (itCells t).toArray 81)).cell? ⟨gs, 0, none⟩ = some v := HCu.out _ (below_next hbwc (below_new _ _))
            refine wpT_make (v := v) (w' := Xc.alloc (.cells (itCells t).toArray 81)) rfl rfl (by have := cva; go_simp) (hKc.bel.alloc hKc.bel.size _) ?_ ?_
            · simp only [Act.put, pA, pB, pC]
              obtain ⟨p', n', c', w', hR1, hc1, hf1, hb1, hK1⟩ := hKc.push HTk (by omega) t x HLk.out hof hrt 27
              refine wpT_make rfl rfl (exec_push rfl rfl rfl hR1) hb1 ?_ wpT_stop
              simp only [Act.put, pA, pB, pC]
              refine wpT_yield (v := .pointer (some ⟨gs, 0, none⟩)) rfl rfl (fun u _ => by go_simp) ?_
              simp only [Act.put, pA, pB, pC]
              refine wpT_do rfl rfl (exec_st1 sizeIs rfl rfl rfl hc1 hf1) hK1.bel ?_ wpT_stop
              simp only [Act.put]
              refine wpT_fin ?_
              have HK1 : Hid _ := hK1
              generalize w'.setCell ⟨gs, 0, none⟩ (.slice p' n' c') = ZZ at HK1 ⊢
              clear hK1 hb1 hc1 hf1 hR1 hKc
              go_wp2_with fail
              go_meet
              case rel => exact ⟨_, _, HK1.out⟩
            · exact wpT_stop
          · exact wpT_stop
        · exact wpT_stop
      case rest =>
        obtain ⟨v1, ts1, HK1⟩ := hcut
        have HKe : Hid (LkS A wc.drew R L gs (k + 1) v1 fk ((i : Int) - (M : Int)) ts1) := HK1.out.call HTk (Below.refl _ _).drew
        have c17 : wc.drew.cell? ⟨gf, k * 18 + 17, none⟩ = some (.slice x.p x.sp.length x.c) := HCx.out _ HKe.out.bel 17 _ rfl
        have cf : wc.drew.cell? ⟨gs, 1, none⟩ = some (.int .i64 fk) := Joins.cell_of_block HKe.out.row 1
        have ff := frozen_row HKe.out.row 1
        obtain ⟨hf1, hf2, hf3⟩ := HFb.out
        have e1 : IntKind.i64.wrap (fk - (x.sp.length : Int)) = fk - (x.sp.length : Int) := by rw [IntKind.wrap_i64]; omega
        have HK2 : Hid (LkS A (wc.drew.setCell ⟨gs, 1, none⟩ (.int .i64 (fk - (x.sp.length : Int)))) R L gs (k + 1) v1 (freeK y L (k + 1)) ((i : Int) - (M : Int)) ts1) := by
          rw [HFr.out]
          exact HKe.out.cell HTk 1 _ v1 _ rfl HKe.out.own HKe.out.len HKe.out.its
        have c17' : (wc.drew.setCell ⟨gs, 1, none⟩ (.int .i64 (fk - (x.sp.length : Int)))).cell? ⟨gf, k * 18 + 17, none⟩ = some (.slice x.p x.sp.length x.c) := HCx.out _ HK2.out.bel 17 _ rfl
        clear HK1 HKe HFr HFb HKd HCu HK hf1 hf2
        go_upto_region 13 with fail
        generalize x.sp.length = sl at *
        refine wp_region_ord (S := fun u => u.cell? ⟨gf, k * 18 + 17, none⟩ = some (.slice x.p sl x.c)) [(0, true), (2, true), (3, true), (4, true), (5, true), (6, true), (7, true), (1, false), (8, true), (9, true), (10, false)] (by kernel_rfl) rfl (by kernel_rfl) (fun d _ _ _ _ h => by cases d <;> exact h) c17 ?_
        simp only [inOrd, List.getElem?_cons_zero, List.getElem?_cons_succ]
        refine wpOrd_yield (v := .pointer (some ⟨gs, 1, none⟩)) rfl (fun u _ => by go_simp) ?_
        simp only [Act.put, pA, pB, pC]
        refine wpOrd_yield (v := .slice (some ⟨gf, 0, none⟩) M c) rfl (fun u _ => exec_mv rfl rfl) ?_
        simp only [Act.put, pA, pB, pC]
        refine wpOrd_yield (v := .int .i64 (k : Int)) rfl (fun u _ => exec_mv rfl rfl) ?_
        simp only [Act.put, pA, pB, pC]
        refine wpOrd_yield (v := .pointer (some ⟨gf, k * 18, none⟩)) rfl (fun u _ => by go_simp) ?_
        simp only [Act.put, pA, pB, pC]
        refine wpOrd_yield (v := .pointer (some ⟨gf, k * 18 + 17, none⟩)) rfl (fun u _ => by go_simp) ?_
        simp only [Act.put, pA, pB, pC]
        refine wpOrd_yield (v := .slice x.p sl x.c) rfl (fun u hu => by have := hu; go_simp) ?_
        simp only [Act.put, pA, pB, pC]
        refine wpOrd_yield (v := .int .i64 (sl : Int)) rfl (fun u _ => by go_simp) ?_
        simp only [Act.put, pA, pB, pC]
        refine wpOrd_act (W' := wc.drew) (v := .int .i64 fk) rfl (by go_simp) c17 ?_
        simp only [Act.put, pA, pB, pC]
        refine wpOrd_yield (v := .int .i64 (fk - (sl : Int))) rfl (fun u _ => by go_simp) ?_
        simp only [Act.put, pA, pB, pC]
        refine wpOrd_yield (v := .pointer (some ⟨gs, 1, none⟩)) rfl (fun u _ => by go_simp) ?_
        simp only [Act.put, pA, pB, pC]
        refine wpOrd_do rfl (exec_st3 rfl rfl rfl cf ff) c17' ?_
        simp only [Act.put]
        refine wpOrd_nil ?_
        clear c17 c17' cf ff e1
        generalize wc.drew.setCell ⟨gs, 1, none⟩ (.int .i64 (fk - (sl : Int))) = X at *
        go_wp2
        exact ⟨⟨k + 1, _, _, by omega, by go_num, HK2.out⟩, by simp [intOf]; omega⟩
    · obtain rfl : k = M := by omega
      have hrow := HK.out.row
      obtain ⟨pv, cv, rfl, _⟩ := OwnG.lie itCells_len HK.out.own
      have hrs := heap_kept HRsA.out HK.out.bel
      have hwA : w.heap.size + 1 < A.heap.size := (Array.getElem?_eq_some_iff.1 HRsA.out).1
      have HRow : Hid (wr.heap[gs]? = some (.cells (stRow (.slice pv ts.length cv) (freeK y L k) ((i : Int) - (k : Int))) 29)) := hrow
      have hF := Fr.setRow wr (w.heap.size + 1) (stRow (.slice pv ts.length cv) (freeK y L k) ((i : Int) - (k : Int)))
      have hKp : Keep wr (wr.setRow (w.heap.size + 1) (stRow (.slice pv ts.length cv) (freeK y L k) ((i : Int) - (k : Int)))) := Keep.fr hF fun g cs tt f q hg => by
        subst q
        rw [hrs] at hg
        injection hg with hg
        injection hg with _ h2
        exact .inr h2.symm
      have HRes : Hid (LkR (wr.setRow (w.heap.size + 1) (stRow (.slice pv ts.length cv) (freeK y L k) ((i : Int) - (k : Int)))) w.heap.size R L (.slice pv ts.length cv) ts) := by
        refine ⟨own_frame (HK.out.own.mono (by omega)) hF fun b hb hT => ?_, by rw [HK.out.len, HM.out], fun j t ht => ?_⟩
        · have := World.ownsRow.lt HK.out.own b hb
          omega
        · obtain ⟨x, q1, q2, q3⟩ := HK.out.its j t ht
          exact ⟨x, q1, q2, HTk _ _ _ _ hKp q3⟩
      have HBe : Hid (Below w.heap.size w (wr.setRow (w.heap.size + 1) (stRow (.slice pv ts.length cv) (freeK y L k) ((i : Int) - (k : Int))))) := (below_next HB.out HK.out.bel).trans (hF.below (fun j q => by omega) (below_next HB.out HK.out.bel).size)
      clear hrow hF hKp HK
      obtain ⟨fk, hfk⟩ : ∃ fk, freeK y L k = fk := ⟨_, rfl⟩
      have HFk : Hid (freeK y L k = fk) := hfk
      rw [hfk] at HRow HRes HBe
      clear hfk
      generalize ts.length = tl at *
      go_wp2_with (first | (with_reducible refine isLoadR 29 ?_; refine wpList_ldR 29 Tryz.underlying29 rfl rfl (.tmp 7) rfl gs rfl (stRow (.slice pv tl cv) fk ((i : Int) - (k : Int))) 29 (0, 0) (st_info _ _ _) HRow.out ?_) | (with_reducible refine isStoreR 29 ?_; refine wpList_stR 29 rfl (.tmp 2) (.tmp 76) rfl (w.heap.size + 1) (stRow (.slice pv tl cv) fk ((i : Int) - (k : Int))) (stRow (.slice none 0 0) 0 0) 29 (st_info _ _ _) (st_two _ _ _ _ _ _) (st_one _ _ _ _ _) rfl rfl hrs ?_))
      refine retCT Tryz.underlying29 rfl rfl (w.heap.size + 1) _ 29 (st_info _ _ _) rfl (setRow_heap _ _ _ _ _ _ hrs) rfl ⟨L, _, ?_, HCo.out, ⟨ts, HRes.out⟩, HBe.out⟩
      rw [HM.out, HFk.out]
      rfl
end Go.Proofs.YtiejhjngcnkimaaGreatR
/- A directory's inode laid on the page. -/
namespace Go.Proofs.YtiejhjngcnkimaaGreatR
open Go.RowKit Go.Maps
theorem over_step (f : Nat → Int) (o m : Nat) (e : Nat → Int) : updN (overN f o m e) (o + m) (e m) = overN f o (m + 1) e := by
  funext j
  unfold updN overN
  by_cases h : j = o + m
  · rw [if_pos h, if_pos (by omega), h, show o + m - o = m by omega]
  · rw [if_neg h]
    by_cases q : o ≤ j ∧ j < o + m
    · rw [if_pos q, if_pos (by omega)]
    · rw [if_neg q, if_neg (by omega)]
theorem over_zero (f : Nat → Int) (o : Nat) (e : Nat → Int) : overN f o 0 e = f := by funext j; unfold overN; rw [if_neg (by omega)]
theorem updF_self (F : Nat → Nat → Int) (k : Nat) : updF F k (F k) = F := by
  funext q
  unfold updF
  split
  · rename_i h; rw [h]
  · rfl
theorem updF_two (F : Nat → Nat → Int) (k : Nat) (f g : Nat → Int) : updF (updF F k f) k g = updF F k g := by
  funext q
  unfold updF
  split <;> rfl
theorem updF_at (F : Nat → Nat → Int) (k : Nat) (f : Nat → Int) : updF F k f k = f := by unfold updF; rw [if_pos rfl]
section
variable {W : World} {gp gl gu n : Nat} {y : Lay} {F : Nat → Nat → Int} {U : Nat → Bool} {turn next : Int}
theorem PgAt.setByte (h : PgAt W gp gl gu n y F U turn next) (k j : Nat) (hj : j < 1024) (x : Int) : PgAt (W.setCell ⟨gl, k * 1024 + j, none⟩ (.int .u8 x)) gp gl gu n y (updF F k (updN (F k) j x)) U turn next := by
  have hF := Fr.setCell W gl (k * 1024 + j) (.int .u8 x)
  refine ⟨(hF.block _ (Array.getElem?_eq_some_iff.1 h.row).1 h.ne1).trans h.row, ?_, (hF.block _ (Array.getElem?_eq_some_iff.1 h.used).1 (fun q => h.ne3 q.symm)).trans h.used, h.ne1, h.ne2, h.ne3⟩
  have := setCell_rowN (m := n * 1024) h.blks (k * 1024 + j) x
  rw [this]
  congr 2
  unfold pgCells
  refine rowN_congr fun i _ => ?_
  unfold updN updF
  by_cases e : i / 1024 = k
  · rw [if_pos e]
    by_cases q : i % 1024 = j
    · rw [if_pos (by omega), if_pos q]
    · rw [if_neg (by omega), if_neg q]
      show F (i / 1024) (i % 1024) = _
      rw [e]
  · rw [if_neg e, if_neg (by omega)]
end
theorem exec_st5 {o : Oper} {a : Act} {W : World} {x y : Operand} {g i : Nat} {v : Int} {old : Value} (ho : o.op = .store 5 x y) (hx : a.eval x = .pointer (some ⟨g, i, none⟩)) (hy : a.eval y = .int .u8 v) (hc : W.cell? ⟨g, i, none⟩ = some old) (hf : W.frozen? ⟨g, i, none⟩ = false) : (execOp a.eval o).run Tryz.prog W = .ok .skip (W.setCell ⟨g, i, none⟩ (.int .u8 v)) := by
  obtain ⟨i0, hi0, hz1⟩ : ∃ i0, Tryz.prog.info? 5 = some i0 ∧ i0.size = 1 := by
    have h : (Tryz.prog.info? 5).map (·.size) = some 1 := by kernel_rfl
    cases hq : Tryz.prog.info? 5 with
    | none => rw [hq] at h; cases h
    | some i => rw [hq] at h; exact ⟨i, rfl, by simpa using h⟩
  generalize a.eval = E at *
  unfold execOp
  simp only [ho]
  simp [hx, hy, Instr.storeAt, Instr.sureAddr, storeVar, sizeOf, typeInfo, hi0, hz1, storeCells, go_sem, hc, hf]
structure ItS (w W : World) (gp gl gu n : Nat) (y : Lay) (F : Nat → Nat → Int) (U : Nat → Bool) (turn next : Int) (t : It) : Prop where
  pg : PgAt W gp gl gu n y F U turn next
  fr : PgFr gp gl gu w W
  row : W.heap[w.heap.size]? = some (.cells (itCells t).toArray 81)
  lt : gp < w.heap.size ∧ gl < w.heap.size ∧ gu < w.heap.size
section
variable {w W : World} {gp gl gu n : Nat} {y : Lay} {F : Nat → Nat → Int} {U : Nat → Bool} {turn next : Int} {t : It}
theorem ItS.call {W' : World} (h : ItS w W gp gl gu n y F U turn next t) (hb : Below W.heap.size W W') : ItS w W' gp gl gu n y F U turn next t := ⟨h.pg.later hb, h.fr.trans' (Fr.ofBelow hb), heap_kept h.row hb, h.lt⟩
theorem ItS.other (h : ItS w W gp gl gu n y F U turn next t) (g : Nat) (hg : w.heap.size < g) (N : Array Value) : ItS w (W.setRow g N) gp gl gu n y F U turn next t := by
  have hF := Fr.setRow W g N
  have hl := h.lt
  exact ⟨h.pg.frame hF (by omega) (by omega) (by omega), Fr.trans h.fr hF (fun i hi q => by omega), (hF.block _ (Array.getElem?_eq_some_iff.1 h.row).1 (by omega)).trans h.row, hl⟩
theorem ItS.setByte (h : ItS w W gp gl gu n y F U turn next t) (k j : Nat) (hj : j < 1024) (x : Int) : ItS w (W.setCell ⟨gl, k * 1024 + j, none⟩ (.int .u8 x)) gp gl gu n y (updF F k (updN (F k) j x)) U turn next t := by
  have hF := Fr.setCell W gl (k * 1024 + j) (.int .u8 x)
  have hl := h.lt
  exact ⟨h.pg.setByte k j hj x, h.fr.trans' (hF.mono fun _ _ e => .inr (.inl e)), (hF.block _ (Array.getElem?_eq_some_iff.1 h.row).1 (by omega)).trans h.row, hl⟩
end
theorem wpList_buildNd {ops : Array Oper} {rest : List Oper} {o : Oper} {a : Act} {w : World} {Q : Exit → Act → World → Prop} (hw : Region.wanted o (yielded ops a.tmps) = true) (x0 x1 x2 : Operand) (ho : o.op = .build 45 #[(0, x0), (1, x1), (2, x2)]) (k l s : Int)
    (h0 : a.eval x0 = .int .u16 k) (h1 : a.eval x1 = .int .u16 l) (h2 : a.eval x2 = .int .u32 s)
    (h : wpList Tryz.prog ops Q rest (a.put o.dst (.agg (node16 k l s 0 nought))) w) : wpList Tryz.prog ops Q (o :: rest) a w := by
  unfold wpList
  rw [if_pos hw]
  refine .inl ?_
  have z := zero27 w
  have e : (execOp a.eval o).run Tryz.prog w = .ok (.value (.agg (node16 k l s 0 nought))) w := by
    unfold node16 at *
    generalize a.eval = E at *
    unfold execOp
    simp only [ho]
    simp [go_sem, h0, h1, h2, z]
  unfold Oper.wp
  rw [e]
  exact h
def pgDir (F : Nat → Nat → Int) (at' k off : Nat) (es : List (Int × ByteArray)) (lk s : Int) : Nat → Nat → Int :=
  updF (updF F at' (dirP es (16 * es.length))) k (overN ((updF F at' (dirP es (16 * es.length))) k) off 64 (encN 2 lk s 1 (updN nought 0 (at' : Int))))
set_option maxRecDepth 20000 in
set_option maxHeartbeats 8000000 in
theorem item_dir {w : World} {gp gl gu n : Nat} {y : Lay} {F : Nat → Nat → Int} {U : Nat → Bool} {turn : Int} {next da m na nI inum : Nat} (h : PgAt w gp gl gu n y F U turn next) (hda : y.dataAt = da) (hm : n = da + m) (hnx : next < m) (hn : n ≤ 1048576) (ht : 0 ≤ turn ∧ turn ≤ 1048576) (hu : U (da + next) = false)
    (hna : y.nodeAt = na) (hnI : y.i = nI) (hin : 1 ≤ inum ∧ inum ≤ nI) (hnI2 : nI ≤ 65535) (hna2 : na + inum / 16 < n) (lk s : Int) (hlk : 0 ≤ lk ∧ lk < 65536) (hs : 0 ≤ s ∧ s < 4294967296) (b : Int) (pd : Option Addr) (cd : Nat)
    {p : Option Addr} {es : List (Int × ByteArray)} (c : Nat) (hes : LieG enE 2 w p es) (hpn : ∀ g, p = some ⟨g, 0, none⟩ → g ≠ gp ∧ g ≠ gl ∧ g ≠ gu) (hlen : 1 ≤ es.length ∧ es.length ≤ 64) (hok : ∀ e ∈ es, EntOk e) :
    Calls Tryz.prog 81 #[.pointer (some ⟨gp, 0, none⟩), .agg (itCells ⟨inum, 2, lk, s, b, pd, 0, cd, p, es.length, c⟩).toArray] w fun e w' => e = .returned (.tuple #[]) ∧ PgAt w' gp gl gu n y (pgDir F (da + next) (na + inum / 16) (64 * (inum % 16)) es lk s) (updB U (da + next) true) turn (((next : Int) + turn) % (m : Int)) ∧ PgFr gp gl gu w w' := by
  have z := zero27
  have z64 := zero159
  have hlt : gp < w.heap.size ∧ gl < w.heap.size ∧ gu < w.heap.size := ⟨(Array.getElem?_eq_some_iff.1 h.row).1, (Array.getElem?_eq_some_iff.1 h.blks).1, (Array.getElem?_eq_some_iff.1 h.used).1⟩
  have HDir : Hid (∀ W, PgAt W gp gl gu n y F U turn next → LieG enE 2 W p es → Calls Tryz.prog 132 #[.pointer (some ⟨gp, 0, none⟩), .agg (node16 2 lk s 0 nought), .slice p es.length c] W fun e w' => e = .returned (.agg (node16 2 lk s 1 (updN nought 0 ((da + next : Nat) : Int)))) ∧ PgAt w' gp gl gu n y (updF F (da + next) (dirP es (16 * es.length))) (updB U (da + next) true) turn (((next : Int) + turn) % (m : Int)) ∧ PgFr gp gl gu W w') := fun W hW hE => dir_ok hW hda hm hnx hn ht hu 2 lk s 0 nought (by omega) c hE hpn hlen hok
  have HE : Hid (LieG enE 2 w p es) := hes
  have HPd : Hid (pgDir F (da + next) (na + inum / 16) (64 * (inum % 16)) es lk s = updF (updF F (da + next) (dirP es (16 * es.length))) (na + inum / 16) (overN ((updF F (da + next) (dirP es (16 * es.length))) (na + inum / 16)) (64 * (inum % 16)) 64 (encN 2 lk s 1 (updN nought 0 ((da + next : Nat) : Int))))) := rfl
  have hat : da + next < 4294967296 := by omega
  obtain ⟨at', hat'⟩ : ∃ at', da + next = at' := ⟨_, rfl⟩
  obtain ⟨nn, hnn⟩ : ∃ nn, ((next : Int) + turn) % (m : Int) = nn := ⟨_, rfl⟩
  rw [hat', hnn] at HDir
  rw [hat'] at HPd hat
  rw [hat', hnn]
  obtain ⟨F1, hF1⟩ : ∃ F1, updF F at' (dirP es (16 * es.length)) = F1 := ⟨_, rfl⟩
  simp only [hF1] at HDir HPd
  rw [HPd.out]
  clear hat' hnn hF1 HPd hes hpn hok
  obtain ⟨M, hM⟩ : ∃ M, es.length = M := ⟨_, rfl⟩
  rw [hM] at HDir hlen ⊢
  clear hM
  have henc := fun W => enc10_any 2 lk s 1 (updN nought 0 (at' : Int)) (by decide) hlk hs (by decide) (fun i _ => by unfold updN nought; split <;> omega) W
  have HEnc : Hid _ := henc
  clear henc
  have hX := heap_alloc_new w (.cells (itCells ⟨inum, 2, lk, s, b, pd, 0, cd, p, M, c⟩).toArray 81)
  have hbX := below_new w (.cells (itCells ⟨inum, 2, lk, s, b, pd, 0, cd, p, M, c⟩).toArray 81)
  have HS : Hid (ItS w (w.alloc (.cells (itCells ⟨inum, 2, lk, s, b, pd, 0, cd, p, M, c⟩).toArray 81)) gp gl gu n y F U turn next ⟨inum, 2, lk, s, b, pd, 0, cd, p, M, c⟩) := ⟨h.later hbX, Fr.ofBelow hbX, hX, hlt⟩
  have HEX : Hid (LieG enE 2 (w.alloc (.cells (itCells ⟨inum, 2, lk, s, b, pd, 0, cd, p, M, c⟩).toArray 81)) p es) := HE.out.later hbX
  have HNa : Hid (y.nodeAt = (na : Int)) := hna
  clear h hX hbX hlt hda hm hnx hu ht hna HE
  have HnI : Hid (y.i = (nI : Int)) := hnI
  clear hnI
  go_enter Tryz.func81, Tryz.ntmps81
  go_upto_region 1 with fail
  generalize w.alloc (.cells (itCells ⟨inum, 2, lk, s, b, pd, 0, cd, p, M, c⟩).toArray 81) = V at *
  have c0 : V.cell? ⟨w.heap.size, 0, none⟩ = some (.int .i64 (inum : Int)) := Joins.cell_of_block HS.out.row 0
  have p2 : V.cell? ⟨gp, 2, none⟩ = some (.int .i64 (nI : Int)) := by rw [← HnI.out]; exact Joins.cell_of_block HS.out.pg.row 2
  have t1 : decide ((inum : Int) < 1) = false := decide_eq_false (by omega)
  have t1' : decide (inum < 1) = false := decide_eq_false (by omega)
  have t2 : decide ((nI : Int) < (inum : Int)) = false := decide_eq_false (by omega)
  have t2' : decide (nI < inum) = false := decide_eq_false (by omega)
  go_quiet (fail)
  have HSd : Hid (∀ q, ItS w (V.drewN q) gp gl gu n y F U turn next ⟨inum, 2, lk, s, b, pd, 0, cd, p, M, c⟩ ∧ LieG enE 2 (V.drewN q) p es) := fun q => ⟨HS.out.call (belowN (Below.refl _ _) q), HEX.out.later (belowN (Below.refl _ _) q)⟩
  clear c0 p2 t1 t1' t2 t2' HS HEX
  go_upto_region 3 with fail
  have HS1 : Hid _ := (HSd.out nq).1
  have HE1 : Hid (LieG enE 2 (V.drewN nq) p es) := (HSd.out nq).2
  clear HSd
  generalize V.drewN nq = V1 at *
  have c1 : V1.cell? ⟨w.heap.size, 1, none⟩ = some (.int .u16 2) := Joins.cell_of_block HS1.out.row 1
  have c2 : V1.cell? ⟨w.heap.size, 2, none⟩ = some (.int .i64 lk) := Joins.cell_of_block HS1.out.row 2
  have c3 : V1.cell? ⟨w.heap.size, 3, none⟩ = some (.int .i64 s) := Joins.cell_of_block HS1.out.row 3
  have e1 : IntKind.u16.wrap lk = lk := by rw [wrap_u16]; omega
  have e2 : IntKind.u32.wrap s = s := by rw [wrap_u32]; omega
  have HI0 : Hid _ := nod_info 2 lk s 0 nought
  have HI1 : Hid _ := nod_info 2 lk s 1 (updN nought 0 (at' : Int))
  have HT0 : Hid _ := nod_two 0 0 0 0 2 lk s 0 nought nought
  have HT1 : Hid _ := nod_two 2 lk s 0 2 lk s 1 nought (updN nought 0 (at' : Int))
  have HO0 : Hid _ := node_one 2 lk s 0 nought
  have HO1 : Hid _ := node_one 2 lk s 1 (updN nought 0 (at' : Int))
  have HS2 : Hid (ItS w (V1.alloc (.cells (node16 2 lk s 0 nought) 45)) gp gl gu n y F U turn next ⟨inum, 2, lk, s, b, pd, 0, cd, p, M, c⟩) := HS1.out.call (below_new _ _)
  have HE2 : Hid (LieG enE 2 (V1.alloc (.cells (node16 2 lk s 0 nought) 45)) p es) := HE1.out.later (below_new _ _)
  have HN2 : Hid ((V1.alloc (.cells (node16 2 lk s 0 nought) 45)).heap[V1.heap.size]? = some (.cells (node16 2 lk s 0 nought) 45)) := heap_alloc_new _ _
  have hgN : w.heap.size < V1.heap.size := (Array.getElem?_eq_some_iff.1 HS1.out.row).1
  clear HS1 HE1
  go_upto_region 4 with (first | (with_reducible refine isBuildR 45 ?_; refine wpList_buildNd rfl (.tmp 26) (.tmp 29) (.tmp 32) rfl 2 lk s rfl rfl rfl ?_) | (with_reducible refine isStoreR 45 ?_; refine wpList_stNew 45 rfl (.tmp 4) (.tmp 33) rfl V1.heap.size (node16 2 lk s 0 nought) (node16 0 0 0 0 nought) 45 HI0.out HT0.out HO0.out rfl rfl rfl ?_))
  clear c1 c2 c3 e1 e2
  generalize V1.alloc (.cells (node16 2 lk s 0 nought) 45) = V2 at *
  generalize V1.heap.size = gN at *
  have c1 : V2.cell? ⟨w.heap.size, 1, none⟩ = some (.int .u16 2) := Joins.cell_of_block HS2.out.row 1
  have c6 : V2.cell? ⟨w.heap.size, 6, none⟩ = some (.slice p M c) := Joins.cell_of_block HS2.out.row 6
  have hdir := HDir.out V2 HS2.out.pg HE2.out
  generalize node16 2 lk s 0 nought = N0 at *
  have hn2 := HN2.out
  go_wp2_with (first | (with_reducible refine isLoadR 45 ?_; refine wpList_ldR 45 Tryz.underlying45 rfl rfl (.tmp 4) rfl gN rfl N0 45 (0, 0) HI0.out hn2 ?_) | (go_at_call 132; fail))
  refine hdir.mono ?_
  rintro e X ⟨rfl, hpX, hfX⟩
  have hl := HS2.out.lt
  have hnX := (hfX.block _ (Array.getElem?_eq_some_iff.1 hn2).1 (by omega)).trans hn2
  have HS3 : Hid (ItS w X gp gl gu n y F1 (updB U at' true) turn nn ⟨inum, 2, lk, s, b, pd, 0, cd, p, M, c⟩) := ⟨hpX, HS2.out.fr.trans' hfX, (hfX.block _ (Array.getElem?_eq_some_iff.1 HS2.out.row).1 (by omega)).trans HS2.out.row, hl⟩
  have henc := HEnc.out
  clear HEnc hdir hpX hfX HS2 HE2 HN2 hn2 HDir c1 c6 hl
  generalize node16 2 lk s 1 (updN nought 0 (at' : Int)) = N1 at *
  have HS4 : Hid (ItS w (X.setRow gN N1) gp gl gu n y F1 (updB U at' true) turn nn ⟨inum, 2, lk, s, b, pd, 0, cd, p, M, c⟩) := HS3.out.other gN hgN N1
  have HN4 : Hid ((X.setRow gN N1).heap[gN]? = some (.cells N1 45)) := setRow_heap _ _ _ _ _ _ hnX
  clear HS3
  have HEnc : Hid _ := henc
  clear henc
  go_wp2_with (first | (with_reducible refine isStoreR 45 ?_; refine wpList_stR 45 rfl (.tmp 4) (.tmp 41) rfl gN N1 N0 45 HI1.out HT1.out HO1.out rfl rfl hnX ?_))
  generalize X.setRow gN N1 = X1 at *
  clear hnX
  have d5 : X1.cell? ⟨w.heap.size, 5, none⟩ = some (.slice pd 0 cd) := Joins.cell_of_block HS4.out.row 5
  have hn4 := HN4.out
  go_loopw [5] (fun s5 wx => s5 = .int .i64 0 ∧ wx = X1) (fun _ _ => 0)
  case atStart => exact ⟨rfl, rfl⟩
  case round =>
    obtain ⟨rfl, rfl⟩ := hrel
    go_wp2_with (first | (with_reducible refine isLoadR 45 ?_; refine wpList_ldR 45 Tryz.underlying45 rfl rfl (.tmp 4) rfl gN rfl N1 45 (0, 0) HI1.out hn4 ?_) | (go_at_call 134; fail))
    refine (HEnc.out wr).mono ?_
    rintro e Y ⟨rfl, hbY⟩
    clear d5 hn4 HEnc HN4
    obtain ⟨fe, hfe⟩ : ∃ fe, encN 2 lk s 1 (updN nought 0 (at' : Int)) = fe := ⟨_, rfl⟩
    have HFe : Hid (encN 2 lk s 1 (updN nought 0 (at' : Int)) = fe) := hfe
    rw [hfe]
    clear hfe
    have HS5 : Hid (ItS w (Y.alloc (.cells (rowN .u8 fe 64) 180)) gp gl gu n y (updF F1 (na + inum / 16) (overN (F1 (na + inum / 16)) (64 * (inum % 16)) 0 fe)) (updB U at' true) turn nn ⟨inum, 2, lk, s, b, pd, 0, cd, p, M, c⟩) := by
      rw [over_zero, updF_self]
      exact (HS4.out.call hbY).call (below_new _ _)
    have HR5 : Hid ((Y.alloc (.cells (rowN .u8 fe 64) 180)).heap[Y.heap.size]? = some (.cells (rowN .u8 fe 64) 180)) := heap_alloc_new _ _
    have hgY : w.heap.size < Y.heap.size := Nat.lt_of_lt_of_le (Array.getElem?_eq_some_iff.1 HS4.out.row).1 hbY.size
    clear hbY HS4
    go_wp2_with (first | (with_reducible refine isStoreR 180 ?_; refine wpList_stNew 180 rfl (.tmp 6) (.tmp 77) rfl Y.heap.size (rowN .u8 fe 64) (rowN .u8 nought 64) 180 (r64_info _) (r64_two _ _) (rowN_one _ _ _) rfl rfl rfl ?_))
    generalize Y.alloc (.cells (rowN .u8 fe 64) 180) = Z at *
    generalize Y.heap.size = gx at *
    have q1 : (inum : Int).tdiv 16 = ((inum / 16 : Nat) : Int) := by rw [Int.tdiv_eq_ediv_of_nonneg (by omega)]; omega
    have q2 : (inum : Int).tmod 16 = ((inum % 16 : Nat) : Int) := by rw [Int.tmod_eq_emod_of_nonneg (by omega)]; omega
    have q3 : IntKind.i64.wrap ((inum / 16 : Nat) : Int) = ((inum / 16 : Nat) : Int) := by rw [IntKind.wrap_i64]; omega
    have q4 : IntKind.i64.wrap ((inum % 16 : Nat) : Int) = ((inum % 16 : Nat) : Int) := by rw [IntKind.wrap_i64]; omega
    have q5 : IntKind.i64.wrap ((na : Int) + ((inum / 16 : Nat) : Int)) = ((na + inum / 16 : Nat) : Int) := by rw [IntKind.wrap_i64]; omega
    have q6 : IntKind.i64.wrap (64 * ((inum % 16 : Nat) : Int)) = ((64 * (inum % 16) : Nat) : Int) := by rw [IntKind.wrap_i64]; omega
    have ho : 64 * (inum % 16) + 64 ≤ 1024 := by omega
    have hk16 : inum / 16 < 1048576 := by omega
    generalize hk : na + inum / 16 = kb at *
    generalize hoff : 64 * (inum % 16) = off at *
    have hkb : kb ≤ 1048576 := by omega
    have HKb : Hid (na + inum / 16 = kb) := hk
    have HOf : Hid (64 * (inum % 16) = off) := hoff
    clear hk hoff
    obtain ⟨dq, hdq⟩ : ∃ dq, inum / 16 = dq := ⟨_, rfl⟩
    obtain ⟨rq, hrq⟩ : ∃ rq, inum % 16 = rq := ⟨_, rfl⟩
    rw [hdq] at q1 q3 q5 hk16
    rw [hrq] at q2 q4 q6
    clear hdq hrq
    go_loopw [7] (fun s7 wx => ∃ i : Nat, i ≤ 64 ∧ s7 = .int .i64 i ∧ Hid (ItS w wx gp gl gu n y (updF F1 kb (overN (F1 kb) off i fe)) (updB U at' true) turn nn ⟨inum, 2, lk, s, b, pd, 0, cd, p, M, c⟩) ∧ Hid (wx.heap[gx]? = some (.cells (rowN .u8 fe 64) 180))) (fun s7 _ => 64 - (intOf s7).toNat)
    case atStart => exact ⟨0, by omega, rfl, HS5.out, HR5.out⟩
    case round =>
      clear HS5 HR5
      obtain ⟨i, hi, rfl, HS, HR⟩ := hrel
      by_cases hi2 : (i : Int) < 64
      · have hi3 : i < 64 := by omega
        have hl := HS.out.lt
        have HSd : Hid (ItS w wr.drew gp gl gu n y (updF F1 kb (overN (F1 kb) off i fe)) (updB U at' true) turn nn ⟨inum, 2, lk, s, b, pd, 0, cd, p, M, c⟩) := HS.out.call (Below.refl _ _).drew
        have HRd : Hid (wr.drew.heap[gx]? = some (.cells (rowN .u8 fe 64) 180)) := HR.out
        have hSx : ∀ u : World, PgFr gp gl gu w u → PgAt u gp gl gu n y (updF F1 kb (overN (F1 kb) off i fe)) (updB U at' true) turn nn → True := fun _ _ _ => trivial
        clear hSx
        have p9 : wr.drew.cell? ⟨gp, 9, none⟩ = some (.slice (some ⟨gl, 0, none⟩) n n) := Joins.cell_of_block HSd.out.pg.row 9
        have p4 : wr.drew.cell? ⟨gp, 4, none⟩ = some (.int .i64 (na : Int)) := by rw [← HNa.out]; exact Joins.cell_of_block HSd.out.pg.row 4
        have r0 : wr.drew.cell? ⟨w.heap.size, 0, none⟩ = some (.int .i64 (inum : Int)) := Joins.cell_of_block HSd.out.row 0
        have cx := cell_rowN (i := i) HRd.out hi3
        have cb := cell_rowN (i := kb * 1024 + (off + i)) (m := n * 1024) HSd.out.pg.blks (by omega)
        have fb := frozen_row HSd.out.pg.blks (kb * 1024 + (off + i))
        have HS2 : Hid (ItS w (wr.drew.setCell ⟨gl, kb * 1024 + (off + i), none⟩ (.int .u8 (fe i))) gp gl gu n y (updF F1 kb (overN (F1 kb) off (i + 1) fe)) (updB U at' true) turn nn ⟨inum, 2, lk, s, b, pd, 0, cd, p, M, c⟩) := by
          have := HSd.out.setByte kb (off + i) (by omega) (fe i)
          rwa [updF_at, over_step, updF_two] at this
        have HR2 : Hid ((wr.drew.setCell ⟨gl, kb * 1024 + (off + i), none⟩ (.int .u8 (fe i))).heap[gx]? = some (.cells (rowN .u8 fe 64) 180)) := ((Fr.setCell wr.drew gl (kb * 1024 + (off + i)) (.int .u8 (fe i))).block _ (Array.getElem?_eq_some_iff.1 HRd.out).1 (by omega)).trans HRd.out
        have q7 : IntKind.i64.wrap ((off : Int) + (i : Int)) = ((off + i : Nat) : Int) := by rw [IntKind.wrap_i64]; omega
        have hkn : kb < n := hna2
        have hob : off + i < 1024 := by omega
        have s1 : (wr.drew.setCell ⟨gl, kb * 1024 + (off + i), none⟩ (.int .u8 (fe i))).cell? ⟨gp, 9, none⟩ = some (.slice (some ⟨gl, 0, none⟩) n n) := Joins.cell_of_block HS2.out.pg.row 9
        have s2 : (wr.drew.setCell ⟨gl, kb * 1024 + (off + i), none⟩ (.int .u8 (fe i))).cell? ⟨gp, 4, none⟩ = some (.int .i64 (na : Int)) := by rw [← HNa.out]; exact Joins.cell_of_block HS2.out.pg.row 4
        have s3 : (wr.drew.setCell ⟨gl, kb * 1024 + (off + i), none⟩ (.int .u8 (fe i))).cell? ⟨w.heap.size, 0, none⟩ = some (.int .i64 (inum : Int)) := Joins.cell_of_block HS2.out.row 0
        have s4 := cell_rowN (i := i) HR2.out hi3
        clear HS HR HSd HRd
        generalize fe i = fv at *
        generalize hob' : off + i = oi at *
        clear hob'
        have q8 : (oi : Int) < 1024 := by omega
        have q9 : (kb : Int) < (n : Int) := by omega
        go_upto_region 14 with fail
        refine wp_region_ord (S := fun u => u.cell? ⟨gp, 9, none⟩ = some (.slice (some ⟨gl, 0, none⟩) n n) ∧ u.cell? ⟨gp, 4, none⟩ = some (.int .i64 (na : Int)) ∧ u.cell? ⟨w.heap.size, 0, none⟩ = some (.int .i64 (inum : Int)) ∧ u.cell? ⟨gx, i, none⟩ = some (.int .u8 fv)) [(0, true), (1, true), (2, true), (3, true), (4, true), (5, true), (6, true), (7, true), (8, true), (9, true), (10, true), (11, true), (12, true), (13, true), (14, true), (15, true), (16, true), (17, true), (18, true), (19, true), (20, true), (21, true), (22, true), (23, true), (24, false)] (by kernel_rfl) rfl (by kernel_rfl) (fun d _ _ _ _ h => by cases d <;> exact h) ⟨p9, p4, r0, cx⟩ ?_
        simp only [inOrd, List.getElem?_cons_zero, List.getElem?_cons_succ]
        refine wpOrd_yield (v := .pointer (some ⟨gp, 0, none⟩)) rfl (fun u _ => exec_mv rfl rfl) ?_
        simp only [Act.put, pA, pB, pC]
        refine wpOrd_yield (v := .pointer (some ⟨gp, 0, none⟩)) rfl (fun u _ => by go_simp) ?_
        simp only [Act.put, pA, pB, pC]
        refine wpOrd_yield (v := .pointer (some ⟨gp, 9, none⟩)) rfl (fun u _ => by go_simp) ?_
        simp only [Act.put, pA, pB, pC]
        refine wpOrd_yield (v := .slice (some ⟨gl, 0, none⟩) n n) rfl (fun u hu => by have := hu.1; go_simp) ?_
        simp only [Act.put, pA, pB, pC]
        refine wpOrd_yield (v := .pointer (some ⟨gp, 0, none⟩)) rfl (fun u _ => exec_mv rfl rfl) ?_
        simp only [Act.put, pA, pB, pC]
        refine wpOrd_yield (v := .pointer (some ⟨gp, 0, none⟩)) rfl (fun u _ => by go_simp) ?_
        simp only [Act.put, pA, pB, pC]
        refine wpOrd_yield (v := .pointer (some ⟨gp, 0, none⟩)) rfl (fun u _ => by go_simp) ?_
        simp only [Act.put, pA, pB, pC]
        refine wpOrd_yield (v := .pointer (some ⟨gp, 4, none⟩)) rfl (fun u _ => by go_simp) ?_
        simp only [Act.put, pA, pB, pC]
        refine wpOrd_yield (v := .int .i64 (na : Int)) rfl (fun u hu => by have := hu.2.1; go_simp) ?_
        simp only [Act.put, pA, pB, pC]
        refine wpOrd_yield (v := .pointer (some ⟨w.heap.size, 0, none⟩)) rfl (fun u _ => by go_simp) ?_
        simp only [Act.put, pA, pB, pC]
        refine wpOrd_yield (v := .int .i64 (inum : Int)) rfl (fun u hu => by have := hu.2.2.1; go_simp) ?_
        simp only [Act.put, pA, pB, pC]
        refine wpOrd_yield (v := .int .i64 (dq : Int)) rfl (fun u _ => by go_simp) ?_
        simp only [Act.put, pA, pB, pC]
        refine wpOrd_yield (v := .int .i64 (kb : Int)) rfl (fun u _ => by go_simp) ?_
        simp only [Act.put, pA, pB, pC]
        refine wpOrd_yield (v := .pointer (some ⟨w.heap.size, 0, none⟩)) rfl (fun u _ => by go_simp) ?_
        simp only [Act.put, pA, pB, pC]
        refine wpOrd_yield (v := .int .i64 (inum : Int)) rfl (fun u hu => by have := hu.2.2.1; go_simp) ?_
        simp only [Act.put, pA, pB, pC]
        refine wpOrd_yield (v := .int .i64 (rq : Int)) rfl (fun u _ => by go_simp) ?_
        simp only [Act.put, pA, pB, pC]
        refine wpOrd_yield (v := .int .i64 (off : Int)) rfl (fun u _ => by go_simp) ?_
        simp only [Act.put, pA, pB, pC]
        refine wpOrd_yield (v := .int .i64 (i : Int)) rfl (fun u _ => exec_mv rfl rfl) ?_
        simp only [Act.put, pA, pB, pC]
        refine wpOrd_yield (v := .int .i64 (oi : Int)) rfl (fun u _ => by go_simp) ?_
        simp only [Act.put, pA, pB, pC]
        refine wpOrd_yield (v := .int .i64 (i : Int)) rfl (fun u _ => exec_mv rfl rfl) ?_
        simp only [Act.put, pA, pB, pC]
        refine wpOrd_yield (v := .pointer (some ⟨gx, i, none⟩)) rfl (fun u _ => by go_simp) ?_
        simp only [Act.put, pA, pB, pC]
        refine wpOrd_yield (v := .int .u8 fv) rfl (fun u hu => by have := hu.2.2.2; go_simp) ?_
        simp only [Act.put, pA, pB, pC]
        refine wpOrd_yield (v := .pointer (some ⟨gl, kb * 1024, none⟩)) rfl (fun u _ => by go_simp) ?_
        simp only [Act.put, pA, pB, pC]
        refine wpOrd_yield (v := .pointer (some ⟨gl, kb * 1024 + oi, none⟩)) rfl (fun u _ => by go_simp) ?_
        simp only [Act.put, pA, pB, pC]
        refine wpOrd_do rfl (exec_st5 rfl rfl rfl cb fb) ⟨s1, s2, s3, s4⟩ ?_
        simp only [Act.put]
        refine wpOrd_nil ?_
        clear p9 p4 r0 cx cb fb s1 s2 s3 s4
        generalize wr.drew.setCell ⟨gl, kb * 1024 + oi, none⟩ (.int .u8 fv) = X2 at *
        go_wp2
        exact ⟨⟨i + 1, by omega, by go_num, HS2.out, HR2.out⟩, by simp [intOf]; omega⟩
      · obtain rfl : i = 64 := by omega
        have HF : Hid _ := HS.out
        clear HS HR
        go_wp2
        rw [HKb.out, HOf.out, HFe.out]
        exact ⟨rfl, _, results_none rfl _ _ _, rfl, HF.out.pg, HF.out.fr⟩
end Go.Proofs.YtiejhjngcnkimaaGreatR
