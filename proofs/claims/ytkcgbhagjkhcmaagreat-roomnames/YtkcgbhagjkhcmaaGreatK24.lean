/- Several texts joined, each with its own remark; no condition. -/
import Derived.Test.YtkcgbhagjkhcmaaGreatK23
import Derived.Test.YtkcgbhagjkhcmaaGreatK22
import Derived.Test.YtkcgbhagjkhcmaaGreatK18
import Derived.Deep.Cut
/- A directory's inode laid on the page. -/
namespace Go.Proofs.YtkcgbhagjkhcmaaGreat
open Go.RowKit Go.Maps
theorem over_step (f : Nat → Int) (o m : Nat) (e : Nat → Int) : updN (overN f o m e) (o + m) (e m) = overN f o (m + 1) e := by
  funext j
  unfold updN overN
  by_cases h : j = o + m
  · rw [if_pos h, if_pos (by omega), h, show o + m - o = m by omega]
  · rw [if_neg h]
    by_cases q : o ≤ j ∧ j < o + m
    · rw [if_pos q, if_pos (by omega)]
    · rw [if_neg q, if_neg (by omega)]
theorem over_zero (f : Nat → Int) (o : Nat) (e : Nat → Int) : overN f o 0 e = f := by funext j; unfold overN; rw [if_neg (by omega)]
theorem updF_self (F : Nat → Nat → Int) (k : Nat) : updF F k (F k) = F := by
  funext q
  unfold updF
  split
  · rename_i h; rw [h]
  · rfl
theorem updF_two (F : Nat → Nat → Int) (k : Nat) (f g : Nat → Int) : updF (updF F k f) k g = updF F k g := by
  funext q
  unfold updF
  split <;> rfl
theorem updF_at (F : Nat → Nat → Int) (k : Nat) (f : Nat → Int) : updF F k f k = f := by unfold updF; rw [if_pos rfl]
section
variable {W : World} {gp gl gu n : Nat} {y : Lay} {F : Nat → Nat → Int} {U : Nat → Bool} {turn next : Int}
theorem PgAt.setByte (h : PgAt W gp gl gu n y F U turn next) (k j : Nat) (hj : j < 1024) (x : Int) : PgAt (W.setCell ⟨gl, k * 1024 + j, none⟩ (.int .u8 x)) gp gl gu n y (updF F k (updN (F k) j x)) U turn next := by
  have hF := Fr.setCell W gl (k * 1024 + j) (.int .u8 x)
  refine ⟨(hF.block _ (Array.getElem?_eq_some_iff.1 h.row).1 h.ne1).trans h.row, ?_, (hF.block _ (Array.getElem?_eq_some_iff.1 h.used).1 (fun q => h.ne3 q.symm)).trans h.used, h.ne1, h.ne2, h.ne3⟩
  have := setCell_rowN (m := n * 1024) h.blks (k * 1024 + j) x
  rw [this]
  congr 2
  unfold pgCells
  refine rowN_congr fun i _ => ?_
  unfold updN updF
  by_cases e : i / 1024 = k
  · rw [if_pos e]
    by_cases q : i % 1024 = j
    · rw [if_pos (by omega), if_pos q]
    · rw [if_neg (by omega), if_neg q]
      show F (i / 1024) (i % 1024) = _
      rw [e]
  · rw [if_neg e, if_neg (by omega)]
end
theorem exec_st5 {o : Oper} {a : Act} {W : World} {x y : Operand} {g i : Nat} {v : Int} {old : Value} (ho : o.op = .store 5 x y) (hx : a.eval x = .pointer (some ⟨g, i, none⟩)) (hy : a.eval y = .int .u8 v) (hc : W.cell? ⟨g, i, none⟩ = some old) (hf : W.frozen? ⟨g, i, none⟩ = false) : (execOp a.eval o).run Tryz.prog W = .ok .skip (W.setCell ⟨g, i, none⟩ (.int .u8 v)) := by
  obtain ⟨i0, hi0, hz1⟩ : ∃ i0, Tryz.prog.info? 5 = some i0 ∧ i0.size = 1 := by
    have h : (Tryz.prog.info? 5).map (·.size) = some 1 := by kernel_rfl
    cases hq : Tryz.prog.info? 5 with
    | none => rw [hq] at h; cases h
    | some i => rw [hq] at h; exact ⟨i, rfl, by simpa using h⟩
  generalize a.eval = E at *
  unfold execOp
  simp only [ho]
  simp [hx, hy, Instr.storeAt, Instr.sureAddr, storeVar, sizeOf, typeInfo, hi0, hz1, storeCells, go_sem, hc, hf]
structure ItS (w W : World) (gp gl gu n : Nat) (y : Lay) (F : Nat → Nat → Int) (U : Nat → Bool) (turn next : Int) (t : It) : Prop where
  pg : PgAt W gp gl gu n y F U turn next
  fr : PgFr gp gl gu w W
  row : W.heap[w.heap.size]? = some (.cells (itCells t).toArray 105)
  lt : gp < w.heap.size ∧ gl < w.heap.size ∧ gu < w.heap.size
section
variable {w W : World} {gp gl gu n : Nat} {y : Lay} {F : Nat → Nat → Int} {U : Nat → Bool} {turn next : Int} {t : It}
theorem ItS.call {W' : World} (h : ItS w W gp gl gu n y F U turn next t) (hb : Below W.heap.size W W') : ItS w W' gp gl gu n y F U turn next t := ⟨h.pg.later hb, h.fr.trans' (Fr.ofBelow hb), heap_kept h.row hb, h.lt⟩
theorem ItS.other (h : ItS w W gp gl gu n y F U turn next t) (g : Nat) (hg : w.heap.size < g) (N : Array Value) : ItS w (W.setRow g N) gp gl gu n y F U turn next t := by
  have hF := Fr.setRow W g N
  have hl := h.lt
  exact ⟨h.pg.frame hF (by omega) (by omega) (by omega), Fr.trans h.fr hF (fun i hi q => by omega), (hF.block _ (Array.getElem?_eq_some_iff.1 h.row).1 (by omega)).trans h.row, hl⟩
theorem ItS.setByte (h : ItS w W gp gl gu n y F U turn next t) (k j : Nat) (hj : j < 1024) (x : Int) : ItS w (W.setCell ⟨gl, k * 1024 + j, none⟩ (.int .u8 x)) gp gl gu n y (updF F k (updN (F k) j x)) U turn next t := by
  have hF := Fr.setCell W gl (k * 1024 + j) (.int .u8 x)
  have hl := h.lt
  exact ⟨h.pg.setByte k j hj x, h.fr.trans' (hF.mono fun _ _ e => .inr (.inl e)), (hF.block _ (Array.getElem?_eq_some_iff.1 h.row).1 (by omega)).trans h.row, hl⟩
end
theorem wpList_buildNd {ops : Array Oper} {rest : List Oper} {o : Oper} {a : Act} {w : World} {Q : Exit → Act → World → Prop} (hw : Region.wanted o (yielded ops a.tmps) = true) (x0 x1 x2 : Operand) (ho : o.op = .build 154 #[(0, x0), (1, x1), (2, x2)]) (k l s : Int)
    (h0 : a.eval x0 = .int .u16 k) (h1 : a.eval x1 = .int .u16 l) (h2 : a.eval x2 = .int .u32 s)
    (h : wpList Tryz.prog ops Q rest (a.put o.dst (.agg (node16 k l s 0 nought))) w) : wpList Tryz.prog ops Q (o :: rest) a w := by
  unfold wpList
  rw [if_pos hw]
  refine .inl ?_
  have z := zero27 w
  have e : (execOp a.eval o).run Tryz.prog w = .ok (.value (.agg (node16 k l s 0 nought))) w := by
    unfold node16 at *
    generalize a.eval = E at *
    unfold execOp
    simp only [ho]
    simp [go_sem, h0, h1, h2, z]
  unfold Oper.wp
  rw [e]
  exact h
/-- The page behind a directory's inode. -/
def pgDir (F : Nat → Nat → Int) (at' k off : Nat) (es : List (Int × ByteArray)) (lk s : Int) : Nat → Nat → Int :=
  updF (updF F at' (dirP es (16 * es.length))) k (overN ((updF F at' (dirP es (16 * es.length))) k) off 64 (encN 2 lk s 1 (updN nought 0 (at' : Int))))
set_option maxRecDepth 20000 in
set_option maxHeartbeats 8000000 in
theorem item_dir {w : World} {gp gl gu n : Nat} {y : Lay} {F : Nat → Nat → Int} {U : Nat → Bool} {turn : Int} {next da m na nI inum : Nat} (h : PgAt w gp gl gu n y F U turn next) (hda : y.dataAt = da) (hm : n = da + m) (hnx : next < m) (hn : n ≤ 1048576) (ht : 0 ≤ turn ∧ turn ≤ 1048576) (hu : U (da + next) = false)
    (hna : y.nodeAt = na) (hnI : y.i = nI) (hin : 1 ≤ inum ∧ inum ≤ nI) (hnI2 : nI ≤ 65535) (hna2 : na + inum / 16 < n) (lk s : Int) (hlk : 0 ≤ lk ∧ lk < 65536) (hs : 0 ≤ s ∧ s < 4294967296) (b : Int) (pd : Option Addr) (cd : Nat)
    {p : Option Addr} {es : List (Int × ByteArray)} (c : Nat) (hes : LieG enE 2 w p es) (hpn : ∀ g, p = some ⟨g, 0, none⟩ → g ≠ gp ∧ g ≠ gl ∧ g ≠ gu) (hlen : 1 ≤ es.length ∧ es.length ≤ 64) (hok : ∀ e ∈ es, EntOk e) :
    Calls Tryz.prog 42 #[.pointer (some ⟨gp, 0, none⟩), .agg (itCells ⟨inum, 2, lk, s, b, pd, 0, cd, p, es.length, c⟩).toArray] w fun e w' => e = .returned (.tuple #[]) ∧ PgAt w' gp gl gu n y (pgDir F (da + next) (na + inum / 16) (64 * (inum % 16)) es lk s) (updB U (da + next) true) turn (((next : Int) + turn) % (m : Int)) ∧ PgFr gp gl gu w w' := by
  have z := zero27
  have z64 := zero159
  have hlt : gp < w.heap.size ∧ gl < w.heap.size ∧ gu < w.heap.size := ⟨(Array.getElem?_eq_some_iff.1 h.row).1, (Array.getElem?_eq_some_iff.1 h.blks).1, (Array.getElem?_eq_some_iff.1 h.used).1⟩
  have HDir : Hid (∀ W, PgAt W gp gl gu n y F U turn next → LieG enE 2 W p es → Calls Tryz.prog 81 #[.pointer (some ⟨gp, 0, none⟩), .agg (node16 2 lk s 0 nought), .slice p es.length c] W fun e w' => e = .returned (.agg (node16 2 lk s 1 (updN nought 0 ((da + next : Nat) : Int)))) ∧ PgAt w' gp gl gu n y (updF F (da + next) (dirP es (16 * es.length))) (updB U (da + next) true) turn (((next : Int) + turn) % (m : Int)) ∧ PgFr gp gl gu W w') := fun W hW hE => dir_ok hW hda hm hnx hn ht hu 2 lk s 0 nought (by omega) c hE hpn hlen hok
  have HE : Hid (LieG enE 2 w p es) := hes
  have HPd : Hid (pgDir F (da + next) (na + inum / 16) (64 * (inum % 16)) es lk s = updF (updF F (da + next) (dirP es (16 * es.length))) (na + inum / 16) (overN ((updF F (da + next) (dirP es (16 * es.length))) (na + inum / 16)) (64 * (inum % 16)) 64 (encN 2 lk s 1 (updN nought 0 ((da + next : Nat) : Int))))) := rfl
  have hat : da + next < 4294967296 := by omega
  obtain ⟨at', hat'⟩ : ∃ at', da + next = at' := ⟨_, rfl⟩
  obtain ⟨nn, hnn⟩ : ∃ nn, ((next : Int) + turn) % (m : Int) = nn := ⟨_, rfl⟩
  rw [hat', hnn] at HDir
  rw [hat'] at HPd hat
  rw [hat', hnn]
  obtain ⟨F1, hF1⟩ : ∃ F1, updF F at' (dirP es (16 * es.length)) = F1 := ⟨_, rfl⟩
  simp only [hF1] at HDir HPd
  rw [HPd.out]
  clear hat' hnn hF1 HPd hes hpn hok
  obtain ⟨M, hM⟩ : ∃ M, es.length = M := ⟨_, rfl⟩
  rw [hM] at HDir hlen ⊢
  clear hM
  have henc := fun W => enc10_any 2 lk s 1 (updN nought 0 (at' : Int)) (by decide) hlk hs (by decide) (fun i _ => by unfold updN nought; split <;> omega) W
  have HEnc : Hid _ := henc
  clear henc
  have hX := heap_alloc_new w (.cells (itCells ⟨inum, 2, lk, s, b, pd, 0, cd, p, M, c⟩).toArray 105)
  have hbX := below_new w (.cells (itCells ⟨inum, 2, lk, s, b, pd, 0, cd, p, M, c⟩).toArray 105)
  have HS : Hid (ItS w (w.alloc (.cells (itCells ⟨inum, 2, lk, s, b, pd, 0, cd, p, M, c⟩).toArray 105)) gp gl gu n y F U turn next ⟨inum, 2, lk, s, b, pd, 0, cd, p, M, c⟩) := ⟨h.later hbX, Fr.ofBelow hbX, hX, hlt⟩
  have HEX : Hid (LieG enE 2 (w.alloc (.cells (itCells ⟨inum, 2, lk, s, b, pd, 0, cd, p, M, c⟩).toArray 105)) p es) := HE.out.later hbX
  have HNa : Hid (y.nodeAt = (na : Int)) := hna
  clear h hX hbX hlt hda hm hnx hu ht hna HE
  have HnI : Hid (y.i = (nI : Int)) := hnI
  clear hnI
  go_enter Tryz.func42, Tryz.ntmps42
  go_upto_region 1 with fail
  generalize w.alloc (.cells (itCells ⟨inum, 2, lk, s, b, pd, 0, cd, p, M, c⟩).toArray 105) = V at *
  have c0 : V.cell? ⟨w.heap.size, 0, none⟩ = some (.int .i64 (inum : Int)) := Joins.cell_of_block HS.out.row 0
  have p2 : V.cell? ⟨gp, 2, none⟩ = some (.int .i64 (nI : Int)) := by rw [← HnI.out]; exact Joins.cell_of_block HS.out.pg.row 2
  have t1 : decide ((inum : Int) < 1) = false := decide_eq_false (by omega)
  have t1' : decide (inum < 1) = false := decide_eq_false (by omega)
  have t2 : decide ((nI : Int) < (inum : Int)) = false := decide_eq_false (by omega)
  have t2' : decide (nI < inum) = false := decide_eq_false (by omega)
  go_quiet (fail)
  have HSd : Hid (∀ q, ItS w (V.drewN q) gp gl gu n y F U turn next ⟨inum, 2, lk, s, b, pd, 0, cd, p, M, c⟩ ∧ LieG enE 2 (V.drewN q) p es) := fun q => ⟨HS.out.call (belowN (Below.refl _ _) q), HEX.out.later (belowN (Below.refl _ _) q)⟩
  clear c0 p2 t1 t1' t2 t2' HS HEX
  go_upto_region 3 with fail
  have HS1 : Hid _ := (HSd.out nq).1
  have HE1 : Hid (LieG enE 2 (V.drewN nq) p es) := (HSd.out nq).2
  clear HSd
  generalize V.drewN nq = V1 at *
  have c1 : V1.cell? ⟨w.heap.size, 1, none⟩ = some (.int .u16 2) := Joins.cell_of_block HS1.out.row 1
  have c2 : V1.cell? ⟨w.heap.size, 2, none⟩ = some (.int .i64 lk) := Joins.cell_of_block HS1.out.row 2
  have c3 : V1.cell? ⟨w.heap.size, 3, none⟩ = some (.int .i64 s) := Joins.cell_of_block HS1.out.row 3
  have e1 : IntKind.u16.wrap lk = lk := by rw [wrap_u16]; omega
  have e2 : IntKind.u32.wrap s = s := by rw [wrap_u32]; omega
  have HI0 : Hid _ := nod_info 2 lk s 0 nought
  have HI1 : Hid _ := nod_info 2 lk s 1 (updN nought 0 (at' : Int))
  have HT0 : Hid _ := nod_two 0 0 0 0 2 lk s 0 nought nought
  have HT1 : Hid _ := nod_two 2 lk s 0 2 lk s 1 nought (updN nought 0 (at' : Int))
  have HO0 : Hid _ := node_one 2 lk s 0 nought
  have HO1 : Hid _ := node_one 2 lk s 1 (updN nought 0 (at' : Int))
  have HS2 : Hid (ItS w (V1.alloc (.cells (node16 2 lk s 0 nought) 154)) gp gl gu n y F U turn next ⟨inum, 2, lk, s, b, pd, 0, cd, p, M, c⟩) := HS1.out.call (below_new _ _)
  have HE2 : Hid (LieG enE 2 (V1.alloc (.cells (node16 2 lk s 0 nought) 154)) p es) := HE1.out.later (below_new _ _)
  have HN2 : Hid ((V1.alloc (.cells (node16 2 lk s 0 nought) 154)).heap[V1.heap.size]? = some (.cells (node16 2 lk s 0 nought) 154)) := heap_alloc_new _ _
  have hgN : w.heap.size < V1.heap.size := (Array.getElem?_eq_some_iff.1 HS1.out.row).1
  clear HS1 HE1
  go_upto_region 4 with (first | (with_reducible refine isBuildR 154 ?_; refine wpList_buildNd rfl (.tmp 26) (.tmp 29) (.tmp 32) rfl 2 lk s rfl rfl rfl ?_) | (with_reducible refine isStoreR 154 ?_; refine wpList_stNew 154 rfl (.tmp 4) (.tmp 33) rfl V1.heap.size (node16 2 lk s 0 nought) (node16 0 0 0 0 nought) 154 HI0.out HT0.out HO0.out rfl rfl rfl ?_))
  clear c1 c2 c3 e1 e2
  generalize V1.alloc (.cells (node16 2 lk s 0 nought) 154) = V2 at *
  generalize V1.heap.size = gN at *
  have c1 : V2.cell? ⟨w.heap.size, 1, none⟩ = some (.int .u16 2) := Joins.cell_of_block HS2.out.row 1
  have c6 : V2.cell? ⟨w.heap.size, 6, none⟩ = some (.slice p M c) := Joins.cell_of_block HS2.out.row 6
  have hdir := HDir.out V2 HS2.out.pg HE2.out
  generalize node16 2 lk s 0 nought = N0 at *
  have hn2 := HN2.out
  go_wp2_with (first | (with_reducible refine isLoadR 154 ?_; refine wpList_ldR 154 Tryz.underlying154 rfl rfl (.tmp 4) rfl gN rfl N0 154 (0, 0) HI0.out hn2 ?_) | (go_at_call 81; fail))
  refine hdir.mono ?_
  rintro e X ⟨rfl, hpX, hfX⟩
  have hl := HS2.out.lt
  have hnX := (hfX.block _ (Array.getElem?_eq_some_iff.1 hn2).1 (by omega)).trans hn2
  have HS3 : Hid (ItS w X gp gl gu n y F1 (updB U at' true) turn nn ⟨inum, 2, lk, s, b, pd, 0, cd, p, M, c⟩) := ⟨hpX, HS2.out.fr.trans' hfX, (hfX.block _ (Array.getElem?_eq_some_iff.1 HS2.out.row).1 (by omega)).trans HS2.out.row, hl⟩
  have henc := HEnc.out
  clear HEnc hdir hpX hfX HS2 HE2 HN2 hn2 HDir c1 c6 hl
  generalize node16 2 lk s 1 (updN nought 0 (at' : Int)) = N1 at *
  have HS4 : Hid (ItS w (X.setRow gN N1) gp gl gu n y F1 (updB U at' true) turn nn ⟨inum, 2, lk, s, b, pd, 0, cd, p, M, c⟩) := HS3.out.other gN hgN N1
  have HN4 : Hid ((X.setRow gN N1).heap[gN]? = some (.cells N1 154)) := setRow_heap _ _ _ _ _ _ hnX
  clear HS3
  have HEnc : Hid _ := henc
  clear henc
  go_wp2_with (first | (with_reducible refine isStoreR 154 ?_; refine wpList_stR 154 rfl (.tmp 4) (.tmp 41) rfl gN N1 N0 154 HI1.out HT1.out HO1.out rfl rfl hnX ?_))
  generalize X.setRow gN N1 = X1 at *
  clear hnX
  have d5 : X1.cell? ⟨w.heap.size, 5, none⟩ = some (.slice pd 0 cd) := Joins.cell_of_block HS4.out.row 5
  have hn4 := HN4.out
  go_loopw [5] (fun s5 wx => s5 = .int .i64 0 ∧ wx = X1) (fun _ _ => 0)
  case atStart => exact ⟨rfl, rfl⟩
  case round =>
    obtain ⟨rfl, rfl⟩ := hrel
    go_wp2_with (first | (with_reducible refine isLoadR 154 ?_; refine wpList_ldR 154 Tryz.underlying154 rfl rfl (.tmp 4) rfl gN rfl N1 154 (0, 0) HI1.out hn4 ?_) | (go_at_call 83; fail))
    refine (HEnc.out wr).mono ?_
    rintro e Y ⟨rfl, hbY⟩
    clear d5 hn4 HEnc HN4
    obtain ⟨fe, hfe⟩ : ∃ fe, encN 2 lk s 1 (updN nought 0 (at' : Int)) = fe := ⟨_, rfl⟩
    have HFe : Hid (encN 2 lk s 1 (updN nought 0 (at' : Int)) = fe) := hfe
    rw [hfe]
    clear hfe
    have HS5 : Hid (ItS w (Y.alloc (.cells (rowN .u8 fe 64) 161)) gp gl gu n y (updF F1 (na + inum / 16) (overN (F1 (na + inum / 16)) (64 * (inum % 16)) 0 fe)) (updB U at' true) turn nn ⟨inum, 2, lk, s, b, pd, 0, cd, p, M, c⟩) := by
      rw [over_zero, updF_self]
      exact (HS4.out.call hbY).call (below_new _ _)
    have HR5 : Hid ((Y.alloc (.cells (rowN .u8 fe 64) 161)).heap[Y.heap.size]? = some (.cells (rowN .u8 fe 64) 161)) := heap_alloc_new _ _
    have hgY : w.heap.size < Y.heap.size := Nat.lt_of_lt_of_le (Array.getElem?_eq_some_iff.1 HS4.out.row).1 hbY.size
    clear hbY HS4
    go_wp2_with (first | (with_reducible refine isStoreR 161 ?_; refine wpList_stNew 161 rfl (.tmp 6) (.tmp 77) rfl Y.heap.size (rowN .u8 fe 64) (rowN .u8 nought 64) 161 (r64_info _) (r64_two _ _) (rowN_one _ _ _) rfl rfl rfl ?_))
    generalize Y.alloc (.cells (rowN .u8 fe 64) 161) = Z at *
    generalize Y.heap.size = gx at *
    have q1 : (inum : Int).tdiv 16 = ((inum / 16 : Nat) : Int) := by rw [Int.tdiv_eq_ediv_of_nonneg (by omega)]; omega
    have q2 : (inum : Int).tmod 16 = ((inum % 16 : Nat) : Int) := by rw [Int.tmod_eq_emod_of_nonneg (by omega)]; omega
    have q3 : IntKind.i64.wrap ((inum / 16 : Nat) : Int) = ((inum / 16 : Nat) : Int) := by rw [IntKind.wrap_i64]; omega
    have q4 : IntKind.i64.wrap ((inum % 16 : Nat) : Int) = ((inum % 16 : Nat) : Int) := by rw [IntKind.wrap_i64]; omega
    have q5 : IntKind.i64.wrap ((na : Int) + ((inum / 16 : Nat) : Int)) = ((na + inum / 16 : Nat) : Int) := by rw [IntKind.wrap_i64]; omega
    have q6 : IntKind.i64.wrap (64 * ((inum % 16 : Nat) : Int)) = ((64 * (inum % 16) : Nat) : Int) := by rw [IntKind.wrap_i64]; omega
    have ho : 64 * (inum % 16) + 64 ≤ 1024 := by omega
    have hk16 : inum / 16 < 1048576 := by omega
    generalize hk : na + inum / 16 = kb at *
    generalize hoff : 64 * (inum % 16) = off at *
    have hkb : kb ≤ 1048576 := by omega
    have HKb : Hid (na + inum / 16 = kb) := hk
    have HOf : Hid (64 * (inum % 16) = off) := hoff
    clear hk hoff
    obtain ⟨dq, hdq⟩ : ∃ dq, inum / 16 = dq := ⟨_, rfl⟩
    obtain ⟨rq, hrq⟩ : ∃ rq, inum % 16 = rq := ⟨_, rfl⟩
    rw [hdq] at q1 q3 q5 hk16
    rw [hrq] at q2 q4 q6
    clear hdq hrq
    go_loopw [7] (fun s7 wx => ∃ i : Nat, i ≤ 64 ∧ s7 = .int .i64 i ∧ Hid (ItS w wx gp gl gu n y (updF F1 kb (overN (F1 kb) off i fe)) (updB U at' true) turn nn ⟨inum, 2, lk, s, b, pd, 0, cd, p, M, c⟩) ∧ Hid (wx.heap[gx]? = some (.cells (rowN .u8 fe 64) 161))) (fun s7 _ => 64 - (intOf s7).toNat)
    case atStart => exact ⟨0, by omega, rfl, HS5.out, HR5.out⟩
    case round =>
      clear HS5 HR5
      obtain ⟨i, hi, rfl, HS, HR⟩ := hrel
      by_cases hi2 : (i : Int) < 64
      · have hi3 : i < 64 := by omega
        have hl := HS.out.lt
        have HSd : Hid (ItS w wr.drew gp gl gu n y (updF F1 kb (overN (F1 kb) off i fe)) (updB U at' true) turn nn ⟨inum, 2, lk, s, b, pd, 0, cd, p, M, c⟩) := HS.out.call (Below.refl _ _).drew
        have HRd : Hid (wr.drew.heap[gx]? = some (.cells (rowN .u8 fe 64) 161)) := HR.out
        have hSx : ∀ u : World, PgFr gp gl gu w u → PgAt u gp gl gu n y (updF F1 kb (overN (F1 kb) off i fe)) (updB U at' true) turn nn → True := fun _ _ _ => trivial
        clear hSx
        have p9 : wr.drew.cell? ⟨gp, 9, none⟩ = some (.slice (some ⟨gl, 0, none⟩) n n) := Joins.cell_of_block HSd.out.pg.row 9
        have p4 : wr.drew.cell? ⟨gp, 4, none⟩ = some (.int .i64 (na : Int)) := by rw [← HNa.out]; exact Joins.cell_of_block HSd.out.pg.row 4
        have r0 : wr.drew.cell? ⟨w.heap.size, 0, none⟩ = some (.int .i64 (inum : Int)) := Joins.cell_of_block HSd.out.row 0
        have cx := cell_rowN (i := i) HRd.out hi3
        have cb := cell_rowN (i := kb * 1024 + (off + i)) (m := n * 1024) HSd.out.pg.blks (by omega)
        have fb := frozen_row HSd.out.pg.blks (kb * 1024 + (off + i))
        have HS2 : Hid (ItS w (wr.drew.setCell ⟨gl, kb * 1024 + (off + i), none⟩ (.int .u8 (fe i))) gp gl gu n y (updF F1 kb (overN (F1 kb) off (i + 1) fe)) (updB U at' true) turn nn ⟨inum, 2, lk, s, b, pd, 0, cd, p, M, c⟩) := by
          have := HSd.out.setByte kb (off + i) (by omega) (fe i)
          rwa [updF_at, over_step, updF_two] at this
        have HR2 : Hid ((wr.drew.setCell ⟨gl, kb * 1024 + (off + i), none⟩ (.int .u8 (fe i))).heap[gx]? = some (.cells (rowN .u8 fe 64) 161)) := ((Fr.setCell wr.drew gl (kb * 1024 + (off + i)) (.int .u8 (fe i))).block _ (Array.getElem?_eq_some_iff.1 HRd.out).1 (by omega)).trans HRd.out
        have q7 : IntKind.i64.wrap ((off : Int) + (i : Int)) = ((off + i : Nat) : Int) := by rw [IntKind.wrap_i64]; omega
        have hkn : kb < n := hna2
        have hob : off + i < 1024 := by omega
        have s1 : (wr.drew.setCell ⟨gl, kb * 1024 + (off + i), none⟩ (.int .u8 (fe i))).cell? ⟨gp, 9, none⟩ = some (.slice (some ⟨gl, 0, none⟩) n n) := Joins.cell_of_block HS2.out.pg.row 9
        have s2 : (wr.drew.setCell ⟨gl, kb * 1024 + (off + i), none⟩ (.int .u8 (fe i))).cell? ⟨gp, 4, none⟩ = some (.int .i64 (na : Int)) := by rw [← HNa.out]; exact Joins.cell_of_block HS2.out.pg.row 4
        have s3 : (wr.drew.setCell ⟨gl, kb * 1024 + (off + i), none⟩ (.int .u8 (fe i))).cell? ⟨w.heap.size, 0, none⟩ = some (.int .i64 (inum : Int)) := Joins.cell_of_block HS2.out.row 0
        have s4 := cell_rowN (i := i) HR2.out hi3
        clear HS HR HSd HRd
        generalize fe i = fv at *
        generalize hob' : off + i = oi at *
        clear hob'
        have q8 : (oi : Int) < 1024 := by omega
        have q9 : (kb : Int) < (n : Int) := by omega
        go_upto_region 14 with fail
        refine wp_region_ord (S := fun u => u.cell? ⟨gp, 9, none⟩ = some (.slice (some ⟨gl, 0, none⟩) n n) ∧ u.cell? ⟨gp, 4, none⟩ = some (.int .i64 (na : Int)) ∧ u.cell? ⟨w.heap.size, 0, none⟩ = some (.int .i64 (inum : Int)) ∧ u.cell? ⟨gx, i, none⟩ = some (.int .u8 fv)) [(0, true), (1, true), (2, true), (3, true), (4, true), (5, true), (6, true), (7, true), (8, true), (9, true), (10, true), (11, true), (12, true), (13, true), (14, true), (15, true), (16, true), (17, true), (18, true), (19, true), (20, true), (21, true), (22, true), (23, true), (24, false)] (by kernel_rfl) rfl (by kernel_rfl) (fun d _ _ _ _ h => by cases d <;> exact h) ⟨p9, p4, r0, cx⟩ ?_
        simp only [inOrd, List.getElem?_cons_zero, List.getElem?_cons_succ]
        refine wpOrd_yield (v := .pointer (some ⟨gp, 0, none⟩)) rfl (fun u _ => exec_mv rfl rfl) ?_
        simp only [Act.put, List.setIfInBounds_toArray, List.set_cons_succ, List.set_cons_zero]
        refine wpOrd_yield (v := .pointer (some ⟨gp, 0, none⟩)) rfl (fun u _ => by go_simp) ?_
        simp only [Act.put, List.setIfInBounds_toArray, List.set_cons_succ, List.set_cons_zero]
        refine wpOrd_yield (v := .pointer (some ⟨gp, 9, none⟩)) rfl (fun u _ => by go_simp) ?_
        simp only [Act.put, List.setIfInBounds_toArray, List.set_cons_succ, List.set_cons_zero]
        refine wpOrd_yield (v := .slice (some ⟨gl, 0, none⟩) n n) rfl (fun u hu => by have := hu.1; go_simp) ?_
        simp only [Act.put, List.setIfInBounds_toArray, List.set_cons_succ, List.set_cons_zero]
        refine wpOrd_yield (v := .pointer (some ⟨gp, 0, none⟩)) rfl (fun u _ => exec_mv rfl rfl) ?_
        simp only [Act.put, List.setIfInBounds_toArray, List.set_cons_succ, List.set_cons_zero]
        refine wpOrd_yield (v := .pointer (some ⟨gp, 0, none⟩)) rfl (fun u _ => by go_simp) ?_
        simp only [Act.put, List.setIfInBounds_toArray, List.set_cons_succ, List.set_cons_zero]
        refine wpOrd_yield (v := .pointer (some ⟨gp, 0, none⟩)) rfl (fun u _ => by go_simp) ?_
        simp only [Act.put, List.setIfInBounds_toArray, List.set_cons_succ, List.set_cons_zero]
        refine wpOrd_yield (v := .pointer (some ⟨gp, 4, none⟩)) rfl (fun u _ => by go_simp) ?_
        simp only [Act.put, List.setIfInBounds_toArray, List.set_cons_succ, List.set_cons_zero]
        refine wpOrd_yield (v := .int .i64 (na : Int)) rfl (fun u hu => by have := hu.2.1; go_simp) ?_
        simp only [Act.put, List.setIfInBounds_toArray, List.set_cons_succ, List.set_cons_zero]
        refine wpOrd_yield (v := .pointer (some ⟨w.heap.size, 0, none⟩)) rfl (fun u _ => by go_simp) ?_
        simp only [Act.put, List.setIfInBounds_toArray, List.set_cons_succ, List.set_cons_zero]
        refine wpOrd_yield (v := .int .i64 (inum : Int)) rfl (fun u hu => by have := hu.2.2.1; go_simp) ?_
        simp only [Act.put, List.setIfInBounds_toArray, List.set_cons_succ, List.set_cons_zero]
        refine wpOrd_yield (v := .int .i64 (dq : Int)) rfl (fun u _ => by go_simp) ?_
        simp only [Act.put, List.setIfInBounds_toArray, List.set_cons_succ, List.set_cons_zero]
        refine wpOrd_yield (v := .int .i64 (kb : Int)) rfl (fun u _ => by go_simp) ?_
        simp only [Act.put, List.setIfInBounds_toArray, List.set_cons_succ, List.set_cons_zero]
        refine wpOrd_yield (v := .pointer (some ⟨w.heap.size, 0, none⟩)) rfl (fun u _ => by go_simp) ?_
        simp only [Act.put, List.setIfInBounds_toArray, List.set_cons_succ, List.set_cons_zero]
        refine wpOrd_yield (v := .int .i64 (inum : Int)) rfl (fun u hu => by have := hu.2.2.1; go_simp) ?_
        simp only [Act.put, List.setIfInBounds_toArray, List.set_cons_succ, List.set_cons_zero]
        refine wpOrd_yield (v := .int .i64 (rq : Int)) rfl (fun u _ => by go_simp) ?_
        simp only [Act.put, List.setIfInBounds_toArray, List.set_cons_succ, List.set_cons_zero]
        refine wpOrd_yield (v := .int .i64 (off : Int)) rfl (fun u _ => by go_simp) ?_
        simp only [Act.put, List.setIfInBounds_toArray, List.set_cons_succ, List.set_cons_zero]
        refine wpOrd_yield (v := .int .i64 (i : Int)) rfl (fun u _ => exec_mv rfl rfl) ?_
        simp only [Act.put, List.setIfInBounds_toArray, List.set_cons_succ, List.set_cons_zero]
        refine wpOrd_yield (v := .int .i64 (oi : Int)) rfl (fun u _ => by go_simp) ?_
        simp only [Act.put, List.setIfInBounds_toArray, List.set_cons_succ, List.set_cons_zero]
        refine wpOrd_yield (v := .int .i64 (i : Int)) rfl (fun u _ => exec_mv rfl rfl) ?_
        simp only [Act.put, List.setIfInBounds_toArray, List.set_cons_succ, List.set_cons_zero]
        refine wpOrd_yield (v := .pointer (some ⟨gx, i, none⟩)) rfl (fun u _ => by go_simp) ?_
        simp only [Act.put, List.setIfInBounds_toArray, List.set_cons_succ, List.set_cons_zero]
        refine wpOrd_yield (v := .int .u8 fv) rfl (fun u hu => by have := hu.2.2.2; go_simp) ?_
        simp only [Act.put, List.setIfInBounds_toArray, List.set_cons_succ, List.set_cons_zero]
        refine wpOrd_yield (v := .pointer (some ⟨gl, kb * 1024, none⟩)) rfl (fun u _ => by go_simp) ?_
        simp only [Act.put, List.setIfInBounds_toArray, List.set_cons_succ, List.set_cons_zero]
        refine wpOrd_yield (v := .pointer (some ⟨gl, kb * 1024 + oi, none⟩)) rfl (fun u _ => by go_simp) ?_
        simp only [Act.put, List.setIfInBounds_toArray, List.set_cons_succ, List.set_cons_zero]
        refine wpOrd_do rfl (exec_st5 rfl rfl rfl cb fb) ⟨s1, s2, s3, s4⟩ ?_
        simp only [Act.put]
        refine wpOrd_nil ?_
        clear p9 p4 r0 cx cb fb s1 s2 s3 s4
        generalize wr.drew.setCell ⟨gl, kb * 1024 + oi, none⟩ (.int .u8 fv) = X2 at *
        go_wp2
        exact ⟨⟨i + 1, by omega, by go_num, HS2.out, HR2.out⟩, by simp [intOf]; omega⟩
      · obtain rfl : i = 64 := by omega
        have HF : Hid _ := HS.out
        clear HS HR
        go_wp2
        rw [HKb.out, HOf.out, HFe.out]
        exact ⟨rfl, _, results_none rfl _ _ _, rfl, HF.out.pg, HF.out.fr⟩
end Go.Proofs.YtkcgbhagjkhcmaaGreat
/- Blocks as an image: the document's image of a page. -/
namespace Go.Proofs.YtkcgbhagjkhcmaaGreat
open Go.RowKit Go.Maps
theorem fold_set (b : Nat) : ∀ (l : List Value) (k : Nat) (cs : Array Value), b + k + l.length ≤ cs.size → ∀ j,
    ((l.zipIdx k).foldl (fun (cs : Array Value) (p : Value × Nat) => cs.setIfInBounds (b + p.2) p.1) cs)[j]? = if b + k ≤ j ∧ j < b + k + l.length then l[j - (b + k)]? else cs[j]?
  | [], k, cs, _, j => by simp; intro h1 h2; omega
  | v :: l, k, cs, h, j => by
    simp only [List.length_cons] at h
    rw [List.zipIdx_cons, List.foldl_cons, fold_set b l (k + 1) _ (by simp; omega) j]
    by_cases h1 : b + (k + 1) ≤ j ∧ j < b + (k + 1) + l.length
    · rw [if_pos h1, if_pos (by simp only [List.length_cons]; omega), show j - (b + k) = (j - (b + (k + 1))) + 1 by omega, List.getElem?_cons_succ]
    · rw [if_neg h1, Array.getElem?_setIfInBounds]
      by_cases h2 : b + k = j
      · subst h2; rw [if_pos rfl, if_pos (by omega), if_pos (by simp only [List.length_cons]; omega), Nat.sub_self]; rfl
      · rw [if_neg h2, if_neg (by simp only [List.length_cons]; omega)]
/-- Cells laid over cells. -/
theorem fold_over (b : Nat) (c cs : Array Value) (h : b + c.size ≤ cs.size) :
    Array.foldl (fun (cs : Array Value) (p : Value × Nat) => cs.setIfInBounds (b + p.2) p.1) cs c.zipIdx = (cs.toList.take b ++ (c.toList ++ cs.toList.drop (b + c.size))).toArray := by
  apply Array.ext_getElem?
  intro j
  rw [← Array.foldl_toList, Array.toList_zipIdx, fold_set b c.toList 0 _ (by rw [Array.length_toList]; omega), Array.length_toList]
  rw [show ((cs.toList.take b ++ (c.toList ++ cs.toList.drop (b + c.size))).toArray)[j]? = (cs.toList.take b ++ (c.toList ++ cs.toList.drop (b + c.size)))[j]? from List.getElem?_toArray]
  by_cases h1 : j < b
  · rw [if_neg (by omega), List.getElem?_append_left (by rw [List.length_take, Array.length_toList]; omega), List.getElem?_take_of_lt h1, Array.getElem?_toList]
  · rw [List.getElem?_append_right (by rw [List.length_take, Array.length_toList]; omega), List.length_take, Array.length_toList, Nat.min_eq_left (by omega)]
    by_cases h2 : j < b + c.size
    · rw [if_pos (by omega), List.getElem?_append_left (by rw [Array.length_toList]; omega), Nat.add_zero]
    · rw [if_neg (by omega), List.getElem?_append_right (by rw [Array.length_toList]; omega), Array.length_toList, List.getElem?_drop, Array.getElem?_toList, show b + c.size + (j - b - c.size) = j by omega]
theorem run_buildSlice_gen {P : Program} (u : World) (t e : TypeId) (len size : Nat) (zero : Value) (parts : Array (Nat × Value)) (cells : Array Value) (hu : P.underlying t = some (.slice e)) (hs : (sizeOf e).run P u = .ok size u)
    (hb : ¬ len * size > 2 ^ 24) (h0 : ¬ len * size = 0) (hz : (zeroValue e).run P u = .ok zero u)
    (hf : Instr.fill (fun i => some (i * size, size)) ((Array.range (len * size)).map (zero.cells[· % zero.cells.size]!)) parts.toList = some cells) :
    (Instr.buildSlice t len parts).run P u = .ok (.slice (some ⟨u.heap.size, 0, none⟩) len len) (u.alloc (.cells cells e)) := by
  simp only [Instr.buildSlice, Sem.run_bind, run_underlying hu, Result.andThen_ok, hs]
  rw [if_neg hb, if_neg h0]
  simp only [Sem.run_bind, hz, Result.andThen_ok, Sem.run_pure, hf, newRow, run_newObj_alloc]
theorem fill_one (c z : Array Value) (n : Nat) (hc : c.size = n) (hz : z.size = n) : Instr.fill (fun i => some (i * n, n)) z [(0, .agg c)] = some c := by
  unfold Instr.fill
  simp only [Value.cells, Nat.zero_mul]
  rw [if_neg (by simp [hc, hz]), fold_over 0 c z (by omega)]
  unfold Instr.fill
  rw [List.take_zero, List.nil_append, List.drop_eq_nil_of_le (by rw [Array.length_toList]; omega), List.append_nil]
theorem build1 (t e n : Nat) (zero : Value) (c : Array Value) (hu : Tryz.prog.underlying t = some (.slice e)) (hs : ∀ u, (sizeOf e).run Tryz.prog u = .ok n u) (hn : 0 < n ∧ n ≤ 16777216) (hz : ∀ u, (zeroValue e).run Tryz.prog u = .ok zero u) (hc : c.size = n) (u : World) :
    (Instr.buildSlice t 1 #[(0, .agg c)]).run Tryz.prog u = .ok (.slice (some ⟨u.heap.size, 0, none⟩) 1 1) (u.alloc (.cells c e)) :=
  run_buildSlice_gen u t e 1 n zero #[(0, .agg c)] c hu (hs u) (by omega) (by omega) (hz u) (fill_one c _ n hc (by rw [Array.size_map, Array.size_range]; omega))
theorem fill_cel (p : Int) (f : Nat → Int) (Z : Array Value) (hZ : Z.size = 1025) (place : Nat → Option (Nat × Nat)) (h0 : place 0 = some (0, 1)) (h1 : place 1 = some (1, 1024)) :
    Instr.fill place Z [(0, .int .i64 p), (1, .agg (blk f))] = some (celRow (p, f)).toArray := by
  have hb := blk_size f
  unfold Instr.fill
  rw [h0]
  simp only [Value.cells, List.size_toArray, List.length_cons, List.length_nil, hZ]
  rw [if_neg (by simp)]
  unfold Instr.fill
  rw [h1]
  simp only [Value.cells, hb]
  rw [fold_over 0 #[.int .i64 p] Z (by rw [hZ]; simp)]
  rw [if_neg (by simp [hZ])]
  rw [fold_over 1 (blk f) _ (by simp [hZ, hb])]
  have hl : Z.toList.length = 1025 := by rw [Array.length_toList, hZ]
  obtain ⟨z0, r, hz, hr⟩ : ∃ z0 r, Z.toList = z0 :: r ∧ r.length = 1024 := by
    cases hz : Z.toList with
    | nil => rw [hz, List.length_nil] at hl; omega
    | cons z0 r => exact ⟨z0, r, rfl, by rw [hz, List.length_cons] at hl; omega⟩
  rw [hz]
  simp only [List.take_zero, List.nil_append, List.take_succ_cons, List.drop_succ_cons, List.drop_zero, List.singleton_append, List.size_toArray, List.length_cons, List.length_nil, hb, Nat.zero_add, Nat.reduceAdd]
  unfold Instr.fill
  rw [List.drop_eq_nil_of_le (by omega), List.append_nil]
  rfl
theorem cel_size (c : Cel) : (celRow c).toArray.size = 1025 := by rw [List.size_toArray, celRow_len]
theorem infoHeld : (Tryz.prog.info? 115).map (fun i => (i.zero, i.size, i.bytes)) = some (some (.agg (celRow (0, nought)).toArray), 1025, 1032) := by kernel_rfl
theorem sizeOfHeld : ∀ u, (sizeOf 115).run Tryz.prog u = .ok 1025 u := fun u => by
  obtain ⟨i0, hi0, hz0, hz1, hz2⟩ := info_parts infoHeld
  simp [sizeOf, typeInfo, hi0, hz1, go_sem]
theorem buildHeld (p : Int) (f : Nat → Int) (u : World) : (Instr.build 115 #[(0, .int .i64 p), (1, .agg (blk f))]).run Tryz.prog u = .ok (.agg (celRow (p, f)).toArray) u := by
  have z := zeroHeld
  have hZ : (celRow (0, nought)).toArray.size = 1025 := cel_size _
  generalize (celRow (0, nought)).toArray = Z at *
  have hf := fill_cel p f Z hZ
  simp [Instr.build, z, run_underlying Tryz.underlying115, Value.cells]
  rw [hf _ rfl rfl]
  simp only [Sem.run_pure]
section
variable {o : Oper} {a : Act} {W : World}
theorem exec_buildHeld {x y : Operand} {p : Int} {f : Nat → Int} (ho : o.op = .build 115 #[(0, x), (1, y)]) (hx : a.eval x = .int .i64 p) (hy : a.eval y = .agg (blk f)) : (execOp a.eval o).run Tryz.prog W = .ok (.value (.agg (celRow (p, f)).toArray)) W := by
  have e := buildHeld p f W
  generalize (celRow (p, f)).toArray = Z at *
  generalize blk f = Y at *
  simp [execOp, ho, hx, hy, e]
theorem exec_sliceHeld {y : Operand} {c : Cel} (ho : o.op = .buildSlice 60 1 #[(0, y)]) (hy : a.eval y = .agg (celRow c).toArray) : (execOp a.eval o).run Tryz.prog W = .ok (.value (.slice (some ⟨W.heap.size, 0, none⟩) 1 1)) (W.alloc (.cells (celRow c).toArray 115)) := by
  have e := build1 60 115 1025 _ _ Tryz.underlying60 sizeOfHeld (by omega) zeroHeld (cel_size c) W
  generalize (celRow c).toArray = Z at *
  simp [execOp, ho, hy, e]
end
theorem sizeHs : (Tryz.prog.info? 60).map (·.size) = some 1 := by kernel_rfl
abbrev OwnH (w : World) (B : Nat) (v : Value) (l : List Cel) : Prop := OwnG celRow 115 1025 w B v l
theorem OwnH.img {w : World} {B : Nat} {v : Value} {l : List Cel} (h : OwnH w B v l) : ∃ p c, v = .slice p l.length c ∧ ImgAt w p l := by
  obtain ⟨p, c, hv, hl⟩ := OwnG.lie celRow_len h
  refine ⟨p, c, hv, fun h0 => ?_⟩
  obtain ⟨g, h1, h2, h3⟩ := hl h0
  refine ⟨g, 0, h1, h2, fun i c hc => ⟨?_, fun j hj => ?_⟩⟩
  · have := h3 i c hc 0 _ (celRow_zero c)
    rwa [Nat.add_zero, ← Nat.zero_add (i * 1025)] at this
  · have := h3 i c hc (j + 1) _ (celRow_get c j hj)
    rwa [show i * 1025 + (j + 1) = 0 + i * 1025 + 1 + j by omega] at this
/-- The blocks of a page that are not blank. -/
def imgL (F : Nat → Nat → Int) (k : Nat) : List Cel := (List.range k).filterMap fun i => if sameN 1024 (F i) nought then none else some ((i : Int), F i)
theorem imgL_zero {F : Nat → Nat → Int} {k : Nat} (h : sameN 1024 (F k) nought = true) : imgL F (k + 1) = imgL F k := by unfold imgL; rw [List.range_succ, List.filterMap_append]; simp [h]
theorem imgL_some {F : Nat → Nat → Int} {k : Nat} (h : sameN 1024 (F k) nought = false) : imgL F (k + 1) = imgL F k ++ [((k : Int), F k)] := by unfold imgL; rw [List.range_succ, List.filterMap_append]; simp [h]
theorem imgL_len (F : Nat → Nat → Int) (k : Nat) : (imgL F k).length ≤ k := by
  unfold imgL
  have := List.length_filterMap_le (fun (i : Nat) => if sameN 1024 (F i) nought then none else some ((i : Int), F i)) (List.range k)
  rwa [List.length_range] at this
def imRow (n : Int) (v : Value) : Array Value := #[.int .i64 n, v]
theorem imr_info (n : Int) (v : Value) : (Tryz.prog.info? 62).map (·.size) = some (imRow n v).size := by show _ = some 2; kernel_rfl
theorem imr_two (n m : Int) (v u : Value) : (imRow n v).size = (imRow m u).size := rfl
theorem imr_one (n : Int) (p : Option Addr) (m c : Nat) : (imRow n (.slice p m c)).all (·.oneCell') = true := by simp [imRow, Value.oneCell']
theorem zeroIm : ∀ w, (zeroValue 62).run Tryz.prog w = .ok (.agg (imRow 0 (.slice none 0 0))) w := (zero_of_info (show (Tryz.prog.info? 62).map (fun i => (i.zero, i.size)) = some (some (.agg (imRow 0 (.slice none 0 0))), 2) by kernel_rfl)).1
theorem wpList_buildIm {ops : Array Oper} {rest : List Oper} {o : Oper} {a : Act} {w : World} {Q : Exit → Act → World → Prop} (hw : Region.wanted o (yielded ops a.tmps) = true) (x : Operand) (ho : o.op = .build 62 #[(0, x)]) (n : Int) (hx : a.eval x = .int .i64 n)
    (h : wpList Tryz.prog ops Q rest (a.put o.dst (.agg (imRow n (.slice none 0 0)))) w) : wpList Tryz.prog ops Q (o :: rest) a w := by
  unfold wpList
  rw [if_pos hw]
  refine .inl ?_
  have z := zeroIm w
  have e : (execOp a.eval o).run Tryz.prog w = .ok (.value (.agg (imRow n (.slice none 0 0)))) w := by
    unfold imRow at *
    generalize a.eval = E at *
    unfold execOp
    simp only [ho]
    simp [go_sem, hx, z]
  unfold Oper.wp
  rw [e]
  exact h
/-- The image so far. -/
structure ImS (w W : World) (n : Int) (v : Value) (l : List Cel) : Prop where
  res : W.heap[w.heap.size]? = some (.cells (imRow 0 (.slice none 0 0)) 62)
  row : W.heap[w.heap.size + 1]? = some (.cells (imRow n v) 62)
  own : OwnH W (w.heap.size + 2) v l
  bel : Below w.heap.size w W
theorem ImS.call {w W W' : World} {n : Int} {v : Value} {l : List Cel} (h : ImS w W n v l) (hb : Below W.heap.size W W') : ImS w W' n v l := ⟨heap_kept h.res hb, heap_kept h.row hb, h.own.later hb, below_next h.bel hb⟩
theorem ImS.push {w W : World} {n : Int} {v : Value} {l : List Cel} (h : ImS w W n v l) (hn : l.length ≤ 10000000) (x : Cel) (ty : TypeId) :
    ∃ p m c w', (Builtin.append_ #[60, 60] ty #[v, .slice (some ⟨W.heap.size, 0, none⟩) 1 1]).run Tryz.prog (W.alloc (.cells (celRow x).toArray 115)) = .ok (.slice p m c) w' ∧ w'.cell? ⟨w.heap.size + 1, 1, none⟩ = some v ∧ w'.frozen? ⟨w.heap.size + 1, 1, none⟩ = false ∧ Below w.heap.size w w' ∧ ImS w (w'.setCell ⟨w.heap.size + 1, 1, none⟩ (.slice p m c)) n (.slice p m c) (l ++ [x]) := by
  obtain ⟨i0, hi0, hz0, hz1, hz2⟩ := info_parts infoHeld
  have hsz : w.heap.size + 2 ≤ W.heap.size := by have := (Array.getElem?_eq_some_iff.1 h.row).1; omega
  obtain ⟨v', w', h1, h2, h3, h4⟩ := own_pushF celRow_len celRow_one Tryz.underlying60 hi0 hz0 hz1 hz2 (cel_size _) (by omega) (by omega) h.own hsz hn x ty
  obtain ⟨p, c, rfl, _⟩ := OwnG.lie celRow_len (show OwnH w' (w.heap.size + 2) v' (l ++ [x]) from h2)
  have hrow : w'.heap[w.heap.size + 1]? = some (.cells (imRow n v) 62) := (h4.block _ (Array.getElem?_eq_some_iff.1 h.row).1 (own_ne h.own h.row (by decide))).trans h.row
  have hres : w'.heap[w.heap.size]? = some (.cells (imRow 0 (.slice none 0 0)) 62) := (h4.block _ (Array.getElem?_eq_some_iff.1 h.res).1 (own_ne h.own h.res (by decide))).trans h.res
  have hbel := h.bel.trans (h3.mono (by omega))
  have hF := Fr.setCell w' (w.heap.size + 1) 1 (.slice p (l ++ [x]).length c)
  refine ⟨p, _, c, w', h1, Joins.cell_of_block hrow 1, frozen_row hrow 1, hbel, (hF.block _ (Array.getElem?_eq_some_iff.1 hres).1 (by omega)).trans hres, ?_, own_frame h2 hF fun b hb hT => own_ne h2 hrow (by decide) (hT ▸ hb), hbel.trans (hF.below (fun j q => by omega) hbel.size)⟩
  rw [heap_setCell_same _ _ _ _ _ _ hrow]
  rfl
set_option maxRecDepth 20000 in
set_option maxHeartbeats 8000000 in
theorem image_any {w : World} {gl n : Nat} {F : Nat → Nat → Int} (h : w.heap[gl]? = some (.cells (pgCells F n) 76)) (hn : n ≤ 1048576) :
    Calls Tryz.prog 46 #[.slice (some ⟨gl, 0, none⟩) n n] w fun e w' => ∃ v, e = .returned (.agg (imRow n v)) ∧ OwnH w' w.heap.size v (imgL F n) ∧ Below w.heap.size w w' := by
  have z := zeroIm
  have zb := zero77
  have hgl : gl < w.heap.size := (Array.getElem?_eq_some_iff.1 h).1
  obtain ⟨A, hA⟩ : ∃ A, A = (w.alloc (.cells (imRow 0 (.slice none 0 0)) 62)).alloc (.cells (imRow n (.slice none 0 0)) 62) := ⟨_, rfl⟩
  have HS : Hid (ImS w A n (.slice none 0 0) (imgL F 0)) := by
    rw [hA]
    exact ⟨heap_kept (heap_alloc_new _ _) (below_new _ _), heap_two _ _ _, OwnG.nil _ _, below_next (below_new _ _) (below_new _ _)⟩
  have HL : Hid (∀ W : World, Below w.heap.size w W → ∀ k, k < n → NumsAt W .u8 gl (k * 1024) (F k) 1024) := fun W hW k hk j hj => by
    have := cell_rowN (i := k * 1024 + j) (m := n * 1024) (heap_kept h hW) (by omega)
    rw [this, show (k * 1024 + j) / 1024 = k by omega, show (k * 1024 + j) % 1024 = j by omega]
  have HA : Hid (A = _) := hA
  clear hA h
  go_enter Tryz.func46, Tryz.ntmps46
  go_wp2_with (first | (with_reducible refine isBuildR 62 ?_; refine wpList_buildIm rfl (.tmp 6) rfl n rfl ?_) | (with_reducible refine isStoreR 62 ?_; refine wpList_stNew 62 rfl (.tmp 3) (.tmp 7) rfl (w.heap.size + 1) (imRow n (.slice none 0 0)) (imRow 0 (.slice none 0 0)) 62 (imr_info _ _) (imr_two _ _ _ _) (imr_one _ _ _ _) rfl (by simp) rfl ?_))
  rw [← HA.out]
  clear HA
  go_loopw [4] (fun s4 wx => ∃ (k : Nat) (v : Value), k ≤ n ∧ s4 = .int .i64 k ∧ Hid (ImS w wx n v (imgL F k))) (fun s4 _ => n - (intOf s4).toNat)
  case atStart => exact ⟨0, _, by omega, rfl, HS.out⟩
  case round =>
    clear HS
    obtain ⟨k, v, hk, rfl, HS⟩ := hrel
    by_cases hk2 : (k : Int) < (n : Int)
    · have hkn : k < n := by omega
      have hnum := HL.out wr HS.out.bel k hkn
      have HNum : Hid (∀ W : World, Below w.heap.size w W → NumsAt W .u8 gl (k * 1024) (F k) 1024) := fun W hW => HL.out W hW k hkn
      have HZ : Hid (sameN 1024 (F k) nought = true → imgL F (k + 1) = imgL F k) := imgL_zero
      have HO : Hid (sameN 1024 (F k) nought = false → imgL F (k + 1) = imgL F k ++ [((k : Int), F k)]) := imgL_some
      have hlen := imgL_len F k
      generalize imgL F k = lk at *
      generalize F k = fk at *
      cases hb : sameN 1024 fk nought with
      | true =>
        have HE : Hid _ := HZ.out hb
        go_wp2_with (first | (with_reducible refine isLoadR 76 ?_; refine wpList_ldB rfl (.tmp 16) rfl gl (k * 1024) fk rfl hnum ?_) | (with_reducible refine isBuildR 76 ?_; refine wpList_buildB rfl rfl ?_) | (with_reducible refine isEqR 76 76 ?_; refine wpList_neN Tryz.underlying76 eg77 rfl (.tmp 17) (.tmp 18) rfl fk nought true rfl rfl hb ?_))
        exact ⟨⟨k + 1, v, by omega, by go_num, by rw [HE.out]; exact HS.out⟩, by simp [intOf]; omega⟩
      | false =>
        have HE : Hid _ := HO.out hb
        go_upto_region 6 with (first | (with_reducible refine isLoadR 76 ?_; refine wpList_ldB rfl (.tmp 16) rfl gl (k * 1024) fk rfl hnum ?_) | (with_reducible refine isBuildR 76 ?_; refine wpList_buildB rfl rfl ?_) | (with_reducible refine isEqR 76 76 ?_; refine wpList_neN Tryz.underlying76 eg77 rfl (.tmp 17) (.tmp 18) rfl fk nought false rfl rfl hb ?_))
        clear hb HZ HO hnum
        have HSd : Hid (ImS w wr.drew n v lk) := HS.out.call (Below.refl _ _).drew
        have hc0 : wr.drew.cell? ⟨w.heap.size + 1, 1, none⟩ = some v := Joins.cell_of_block HSd.out.row 1
        have hc1 : (wr.drew.alloc (.cells (celRow ((k : Int), fk)).toArray 115)).cell? ⟨w.heap.size + 1, 1, none⟩ = some v := Joins.cell_of_block (heap_kept HSd.out.row (below_new _ _)) 1
        have hba : Below w.heap.size w (wr.drew.alloc (.cells (celRow ((k : Int), fk)).toArray 115)) := below_next HSd.out.bel (below_new _ _)
        obtain ⟨p', m', c', w', hR1, hcv, hfv, hb1, hK1⟩ := HSd.out.push (by omega) ((k : Int), fk) 60
        have HK1 : Hid (ImS w (w'.setCell ⟨w.heap.size + 1, 1, none⟩ (.slice p' m' c')) n (.slice p' m' c') (imgL F (k + 1))) := by rw [HE.out]; exact hK1
        have hbK := hK1.bel
        clear hK1 HE HS
        refine wp_region_tree (S := fun u => Below w.heap.size w u) (rdT 0 (rdT 2 (rdT 3 (rdT 4 (rdT 5 (rdT 6 (rdT 7 (altT [(1, altT [(8, altT [(9, rdT 10 (altT [(11, finT)]))])]), (8, altT [(1, altT [(9, rdT 10 (altT [(11, finT)]))])])])))))))) (by kernel_rfl) rfl (by kernel_rfl) (fun d _ _ _ _ h => by cases d <;> exact h) HSd.out.bel ?_
        generalize wr.drew = X0 at *
        refine wpT_yield (v := .pointer (some ⟨w.heap.size + 1, 1, none⟩)) rfl rfl (fun u _ => by go_simp) ?_
        simp only [Act.put, List.setIfInBounds_toArray, List.set_cons_succ, List.set_cons_zero]
        refine wpT_yield (v := .int .i64 (k : Int)) rfl rfl (fun u _ => exec_mv rfl rfl) ?_
        simp only [Act.put, List.setIfInBounds_toArray, List.set_cons_succ, List.set_cons_zero]
        refine wpT_yield (v := .slice (some ⟨gl, 0, none⟩) n n) rfl rfl (fun u _ => exec_mv rfl rfl) ?_
        simp only [Act.put, List.setIfInBounds_toArray, List.set_cons_succ, List.set_cons_zero]
        refine wpT_yield (v := .int .i64 (k : Int)) rfl rfl (fun u _ => exec_mv rfl rfl) ?_
        simp only [Act.put, List.setIfInBounds_toArray, List.set_cons_succ, List.set_cons_zero]
        refine wpT_yield (v := .pointer (some ⟨gl, k * 1024, none⟩)) rfl rfl (fun u _ => by go_simp) ?_
        simp only [Act.put, List.setIfInBounds_toArray, List.set_cons_succ, List.set_cons_zero]
        refine wpT_yield (v := .agg (blk fk)) rfl rfl (fun u hu => exec_ldB rfl rfl (HNum.out u hu)) ?_
        simp only [Act.put, List.setIfInBounds_toArray, List.set_cons_succ, List.set_cons_zero]
        refine wpT_yield (v := .agg (celRow ((k : Int), fk)).toArray) rfl rfl (fun u _ => exec_buildHeld (p := (k : Int)) (f := fk) rfl rfl rfl) ?_
        simp only [Act.put, List.setIfInBounds_toArray, List.set_cons_succ, List.set_cons_zero]
        refine wpT_make (v := v) (w' := X0) rfl rfl (by have := hc0; go_simp) HSd.out.bel ?_ ?_
        · simp only [Act.put, List.setIfInBounds_toArray, List.set_cons_succ, List.set_cons_zero]
          refine wpT_make (v := .slice (some ⟨X0.heap.size, 0, none⟩) 1 1) (w' := X0.alloc (.cells (celRow ((k : Int), fk)).toArray 115)) rfl rfl (exec_sliceHeld (c := ((k : Int), fk)) rfl rfl) hba ?_ wpT_stop
          simp only [Act.put, List.setIfInBounds_toArray, List.set_cons_succ, List.set_cons_zero]
          refine wpT_make (v := .slice p' m' c') (w' := w') rfl rfl (exec_push (ad := ⟨X0.heap.size, 0, none⟩) (m := 1) (c := 1) (v := v) rfl rfl rfl hR1) hb1 ?_ wpT_stop
          simp only [Act.put, List.setIfInBounds_toArray, List.set_cons_succ, List.set_cons_zero]
          refine wpT_yield (v := .pointer (some ⟨w.heap.size + 1, 1, none⟩)) rfl rfl (fun u _ => by go_simp) ?_
          simp only [Act.put, List.setIfInBounds_toArray, List.set_cons_succ, List.set_cons_zero]
          refine wpT_do rfl rfl (exec_st1 sizeHs rfl rfl rfl hcv hfv) hbK ?_ wpT_stop
          simp only [Act.put]
          refine wpT_fin ?_
          generalize w'.setCell ⟨w.heap.size + 1, 1, none⟩ (.slice p' m' c') = ZZ at HK1 ⊢
          clear hcv hfv hb1 hbK hR1 hc0 hc1 hba
          go_wp2
          exact ⟨⟨k + 1, _, by omega, by go_num, HK1.out⟩, by simp [intOf]; omega⟩
        refine wpT_make (v := .slice (some ⟨X0.heap.size, 0, none⟩) 1 1) (w' := X0.alloc (.cells (celRow ((k : Int), fk)).toArray 115)) rfl rfl (exec_sliceHeld (c := ((k : Int), fk)) rfl rfl) hba ?_ wpT_stop
        simp only [Act.put, List.setIfInBounds_toArray, List.set_cons_succ, List.set_cons_zero]
        refine wpT_make (v := v) (w' := X0.alloc (.cells (celRow ((k : Int), fk)).toArray 115)) rfl rfl (by have := hc1; go_simp) hba ?_ wpT_stop
        simp only [Act.put, List.setIfInBounds_toArray, List.set_cons_succ, List.set_cons_zero]
        refine wpT_make (v := .slice p' m' c') (w' := w') rfl rfl (exec_push (ad := ⟨X0.heap.size, 0, none⟩) (m := 1) (c := 1) (v := v) rfl rfl rfl hR1) hb1 ?_ wpT_stop
        simp only [Act.put, List.setIfInBounds_toArray, List.set_cons_succ, List.set_cons_zero]
        refine wpT_yield (v := .pointer (some ⟨w.heap.size + 1, 1, none⟩)) rfl rfl (fun u _ => by go_simp) ?_
        simp only [Act.put, List.setIfInBounds_toArray, List.set_cons_succ, List.set_cons_zero]
        refine wpT_do rfl rfl (exec_st1 sizeHs rfl rfl rfl hcv hfv) hbK ?_ wpT_stop
        simp only [Act.put]
        refine wpT_fin ?_
        generalize w'.setCell ⟨w.heap.size + 1, 1, none⟩ (.slice p' m' c') = ZZ at HK1 ⊢
        clear hcv hfv hb1 hbK hR1 hc0 hc1 hba
        go_wp2
        exact ⟨⟨k + 1, _, by omega, by go_num, HK1.out⟩, by simp [intOf]; omega⟩
    · obtain rfl : k = n := by omega
      have hrow := HS.out.row
      have hres := HS.out.res
      obtain ⟨pv, cv, rfl, _⟩ := OwnG.lie celRow_len HS.out.own
      have hF := Fr.setRow wr w.heap.size (imRow k (.slice pv (imgL F k).length cv))
      have HRes : Hid (OwnH (wr.setRow w.heap.size (imRow k (.slice pv (imgL F k).length cv))) w.heap.size (.slice pv (imgL F k).length cv) (imgL F k) ∧ Below w.heap.size w (wr.setRow w.heap.size (imRow k (.slice pv (imgL F k).length cv)))) := by
        refine ⟨own_frame (HS.out.own.mono (by omega)) hF fun b hb hT => ?_, HS.out.bel.trans (hF.below (fun j q => by omega) HS.out.bel.size)⟩
        have := World.ownsRow.lt HS.out.own b hb
        omega
      clear HS hF
      obtain ⟨N, hN⟩ : ∃ N, (imgL F k).length = N := ⟨_, rfl⟩
      rw [hN] at hrow HRes
      clear hN
      go_wp2_with (first | (with_reducible refine isLoadR 62 ?_; refine wpList_ldR 62 Tryz.underlying62 rfl rfl (.tmp 3) rfl (w.heap.size + 1) rfl (imRow k (.slice pv N cv)) 62 (0, 0) (imr_info _ _) hrow ?_) | (with_reducible refine isStoreR 62 ?_; refine wpList_stR 62 rfl (.tmp 2) (.tmp 31) rfl w.heap.size (imRow k (.slice pv N cv)) (imRow 0 (.slice none 0 0)) 62 (imr_info _ _) (imr_two _ _ _ _) (imr_one _ _ _ _) rfl rfl hres ?_))
      exact retR Tryz.underlying62 rfl rfl w.heap.size _ 62 (imr_info _ _) rfl (setRow_heap _ _ _ _ _ _ hres) rfl ⟨_, rfl, HRes.out.1, HRes.out.2⟩
end Go.Proofs.YtkcgbhagjkhcmaaGreat
/- A bit of a block set; the document's own words. -/
namespace Go.Proofs.YtkcgbhagjkhcmaaGreat
open Go.RowKit Go.Maps
def setP (f : Nat → Int) (i : Nat) : Nat → Int := if hasP f i = true then f else updN f (i / 8) (f (i / 8) + 2 ^ (i % 8))
theorem bit_cases {P : Nat → Prop} (h : P 0 ∧ P 1 ∧ P 2 ∧ P 3 ∧ P 4 ∧ P 5 ∧ P 6 ∧ P 7) (k : Nat) (hk : k < 8) : P k := by
  rcases (show k = 0 ∨ k = 1 ∨ k = 2 ∨ k = 3 ∨ k = 4 ∨ k = 5 ∨ k = 6 ∨ k = 7 by omega) with rfl | rfl | rfl | rfl | rfl | rfl | rfl | rfl
  · exact h.1
  · exact h.2.1
  · exact h.2.2.1
  · exact h.2.2.2.1
  · exact h.2.2.2.2.1
  · exact h.2.2.2.2.2.1
  · exact h.2.2.2.2.2.2.1
  · exact h.2.2.2.2.2.2.2
theorem bit_room {a : Int} (ha : 0 ≤ a ∧ a ≤ 255) (k : Nat) (hk : k < 8) (h : ¬ a / 2 ^ k % 2 = 1) : a + 2 ^ k ≤ 255 := by
  revert h
  refine bit_cases (P := fun k => ¬ a / 2 ^ k % 2 = 1 → a + 2 ^ k ≤ 255) ⟨?_, ?_, ?_, ?_, ?_, ?_, ?_, ?_⟩ k hk <;> (intro h; omega)
theorem setP_byt {f : Nat → Int} (hf : Byt f) (i : Nat) : Byt (setP f i) := fun j => by
  unfold setP
  split
  · exact hf j
  · rename_i h
    unfold updN
    split
    · have h1 := hf (i / 8)
      have h2 := bit_room h1 (i % 8) (by omega) (by unfold hasP at h; simpa using h)
      have h3 : (0 : Int) < 2 ^ (i % 8) := Int.pow_pos (by decide)
      omega
    · exact hf j
theorem bit_same {a : Int} (ha : 0 ≤ a ∧ a ≤ 255) (k m : Nat) (hk : k < 8) (hm : m < 8) (h : ¬ a / 2 ^ k % 2 = 1) : ((a + 2 ^ k) / 2 ^ m % 2 = 1) ↔ (m = k ∨ a / 2 ^ m % 2 = 1) := by
  rcases (show k = 0 ∨ k = 1 ∨ k = 2 ∨ k = 3 ∨ k = 4 ∨ k = 5 ∨ k = 6 ∨ k = 7 by omega) with rfl | rfl | rfl | rfl | rfl | rfl | rfl | rfl <;>
    rcases (show m = 0 ∨ m = 1 ∨ m = 2 ∨ m = 3 ∨ m = 4 ∨ m = 5 ∨ m = 6 ∨ m = 7 by omega) with rfl | rfl | rfl | rfl | rfl | rfl | rfl | rfl <;> omega
theorem setP_has {f : Nat → Int} (hf : Byt f) (i j : Nat) : hasP (setP f i) j = (decide (j = i) || hasP f j) := by
  unfold setP
  split
  · rename_i h
    by_cases e : j = i
    · subst e; rw [h]; simp
    · simp [e]
  · rename_i h
    have h' : ¬ f (i / 8) / 2 ^ (i % 8) % 2 = 1 := by unfold hasP at h; simpa using h
    unfold hasP updN
    by_cases e : j / 8 = i / 8
    · rw [if_pos e, e]
      have hb := bit_same (hf (i / 8)) (i % 8) (j % 8) (by omega) (by omega) h'
      by_cases q : (f (i / 8) + 2 ^ (i % 8)) / 2 ^ (j % 8) % 2 = 1
      · have := hb.1 q
        rw [show ((f (i / 8) + 2 ^ (i % 8)) / 2 ^ (j % 8) % 2 == 1) = true by simp [q]]
        rcases this with r | r
        · rw [show j = i by omega]; simp
        · simp [r]
      · have h1 : ¬ j % 8 = i % 8 := fun r => q (hb.2 (.inl r))
        have h2 : ¬ f (i / 8) / 2 ^ (j % 8) % 2 = 1 := fun r => q (hb.2 (.inr r))
        rw [beq_eq_false_iff_ne.2 q, beq_eq_false_iff_ne.2 h2, decide_eq_false (show ¬ j = i by omega)]
        rfl
    · rw [if_neg e, decide_eq_false (show ¬ j = i from fun q => e (by rw [q]))]
      rfl
structure StS (w W : World) (f : Nat → Int) : Prop where
  row : W.heap[w.heap.size]? = some (.cells (blk f) 76)
  res : W.heap[w.heap.size + 1]? = some (.cells (blk nought) 76)
  bel : Below w.heap.size w W
theorem StS.call {w W W' : World} {f : Nat → Int} (h : StS w W f) (hb : Below W.heap.size W W') : StS w W' f := ⟨heap_kept h.row hb, heap_kept h.res hb, below_next h.bel hb⟩
theorem StS.set {w W : World} {f : Nat → Int} (h : StS w W f) (j : Nat) (x : Int) : StS w (W.setCell ⟨w.heap.size, j, none⟩ (.int .u8 x)) (updN f j x) := by
  have hF := Fr.setCell W w.heap.size j (.int .u8 x)
  exact ⟨setCell_rowN (m := 1024) h.row j x, (hF.block _ (Array.getElem?_eq_some_iff.1 h.res).1 (by omega)).trans h.res, h.bel.trans (hF.below (fun j q => by omega) h.bel.size)⟩
set_option maxRecDepth 20000 in
set_option maxHeartbeats 4000000 in
theorem set02_any (f : Nat → Int) (i : Nat) (w : World) (hf : Byt f) (hi : i < 8192) :
    Calls Tryz.prog 44 #[.agg (blk f), .int .i64 (i : Int), .bool true] w fun e w' => e = .returned (.agg (blk (setP f i))) ∧ Below w.heap.size w w' := by
  have z := zero77
  obtain ⟨A, hA⟩ : ∃ A, A = (w.alloc (.cells (blk f) 76)).alloc (.cells (blk nought) 76) := ⟨_, rfl⟩
  have HS : Hid (StS w A f) := by rw [hA]; exact ⟨heap_kept (heap_alloc_new _ _) (below_new _ _), heap_two _ _ _, below_next (below_new _ _) (below_new _ _)⟩
  have hhas := has02_any f i A hf hi
  have HA : Hid (A = _) := hA
  have HF : Hid _ := hf
  clear hA hf
  have t1 : decide ((i : Int) < 0) = false := decide_eq_false (by omega)
  have t2 : decide ((8192 : Int) ≤ (i : Int)) = false := decide_eq_false (by omega)
  have t2' : decide (8192 ≤ i) = false := decide_eq_false (by omega)
  have hb0 := blk_at HS.out.row
  have HSt : Hid (hasP f i = true → setP f i = f) := fun h => by unfold setP; rw [if_pos h]
  have HSf : Hid (hasP f i = false → setP f i = updN f (i / 8) (f (i / 8) + 2 ^ (i % 8))) := fun h => by unfold setP; rw [if_neg (by rw [h]; decide)]
  have HRm : Hid (hasP f i = false → f (i / 8) + 2 ^ (i % 8) ≤ 255) := fun h => bit_room (HF.out _) (i % 8) (by omega) (by unfold hasP at h; simpa using h)
  go_enter Tryz.func44, Tryz.ntmps44
  go_upto_region 1 with fail
  rw [← HA.out]
  clear HA
  go_wp2_with (first | (with_reducible refine isLoadR 76 ?_; refine wpList_ldB rfl (.tmp 3) rfl w.heap.size 0 f rfl hb0 ?_) | (go_at_call 86; fail))
  refine hhas.mono ?_
  rintro e W1 ⟨rfl, hb⟩
  have HS1 : Hid (StS w W1 f) := HS.out.call hb
  clear hhas hb HS hb0 t1 t2 t2'
  have hb1 := blk_at HS1.out.row
  have hres := HS1.out.res
  cases hh : hasP f i with
  | true =>
    have HE : Hid _ := HSt.out hh
    clear HSt HSf HRm hh
    go_wp2_with (first | (with_reducible refine isLoadR 76 ?_; refine wpList_ldB rfl (.tmp 3) rfl w.heap.size 0 f rfl hb1 ?_) | (with_reducible refine isStoreR 76 ?_; refine wpList_stB rfl (.tmp 6) (.tmp 22) rfl (w.heap.size + 1) f nought 76 rfl rfl hres ?_))
    exact retB rfl (w.heap.size + 1) f 76 rfl (setRow_heap _ _ _ _ _ _ hres) rfl ⟨by rw [HE.out], HS1.out.bel.trans ((Fr.setRow W1 (w.heap.size + 1) (blk f)).below (fun i hi => by omega) HS1.out.bel.size)⟩
  | false =>
    have HE : Hid _ := HSf.out hh
    have hrm := HRm.out hh
    have hf8 := HF.out (i / 8)
    clear HSt HSf HRm hh hb1 hres
    have e1 : (i : Int).tmod 8 = ((i % 8 : Nat) : Int) := by rw [Int.tmod_eq_emod_of_nonneg (by omega)]; omega
    have e2 : IntKind.i64.wrap ((i % 8 : Nat) : Int) = ((i % 8 : Nat) : Int) := by rw [IntKind.wrap_i64]; omega
    have e3 : (i : Int).tdiv 8 = ((i / 8 : Nat) : Int) := by rw [Int.tdiv_eq_ediv_of_nonneg (by omega)]; omega
    have e4 : IntKind.i64.wrap ((i / 8 : Nat) : Int) = ((i / 8 : Nat) : Int) := by rw [IntKind.wrap_i64]; omega
    have hi8 : i / 8 < 1024 := by omega
    have hr8 : i % 8 < 8 := by omega
    generalize i / 8 = q at *
    generalize i % 8 = r at *
    go_wp2
    go_loopw [7, 8] (fun s7 s8 wx => wx = W1 ∧ ∃ k : Nat, k ≤ r ∧ s8 = .int .i64 k ∧ s7 = .int .u8 (2 ^ k)) (fun _ s8 _ => r - (intOf s8).toNat)
    case atStart => exact ⟨rfl, 0, by omega, rfl, rfl⟩
    case round =>
      obtain ⟨rfl, k, hk, rfl, rfl⟩ := hrel
      by_cases hk2 : (k : Int) < (r : Int)
      · have hp : (2 : Int) ^ k ≤ 64 := bit_cases (P := fun k => k < 7 → (2 : Int) ^ k ≤ 64) ⟨by decide, by decide, by decide, by decide, by decide, by decide, by decide, by omega⟩ k (by omega) (by omega)
        have hp0 : (0 : Int) < 2 ^ k := Int.pow_pos (by decide)
        have HP : Hid ((2 : Int) ^ (k + 1) = 2 * 2 ^ k) := by show _ = _; rw [Int.pow_succ]; omega
        generalize (2 : Int) ^ k = pk at *
        have e5 : IntKind.u8.wrap (2 * pk) = 2 * pk := by rw [IntKind.wrap_u8]; omega
        have hkr : k < r := by omega
        go_wp2
        exact ⟨⟨trivial, k + 1, by omega, by go_num, by rw [HP.out]⟩, by simp [intOf]; omega⟩
      · obtain rfl : k = r := by omega
        have cb := cell_rowN (i := q) (m := 1024) HS1.out.row hi8
        have fb := frozen_row HS1.out.row q
        have hp0 : (0 : Int) < 2 ^ k := Int.pow_pos (by decide)
        have HS2 : Hid (StS w (wr.setCell ⟨w.heap.size, q, none⟩ (.int .u8 (f q + 2 ^ k))) (setP f i)) := by
          rw [HE.out]
          exact HS1.out.set q _
        obtain ⟨f2, hf2⟩ : ∃ f2, setP f i = f2 := ⟨_, rfl⟩
        have HF2 : Hid (setP f i = f2) := hf2
        rw [hf2] at HS2
        clear hf2
        generalize (2 : Int) ^ k = pk at *
        generalize f q = fq at *
        have e5 : IntKind.u8.wrap (fq + pk) = fq + pk := by rw [IntKind.wrap_u8]; omega
        clear HE HS1
        go_upto_region 11 with fail
        generalize wr.setCell ⟨w.heap.size, q, none⟩ (.int .u8 (fq + pk)) = X at *
        clear cb fb
        have hb2 := blk_at HS2.out.row
        have hres := HS2.out.res
        have HB : Hid _ := HS2.out.bel
        clear HS2
        go_wp2_with (first | (with_reducible refine isLoadR 76 ?_; refine wpList_ldB rfl (.tmp 3) rfl w.heap.size 0 f2 rfl hb2 ?_) | (with_reducible refine isStoreR 76 ?_; refine wpList_stB rfl (.tmp 6) (.tmp 50) rfl (w.heap.size + 1) f2 nought 76 rfl rfl hres ?_))
        exact retB rfl (w.heap.size + 1) f2 76 rfl (setRow_heap _ _ _ _ _ _ hres) rfl ⟨by rw [HF2.out], HB.out.trans ((Fr.setRow X (w.heap.size + 1) (blk f2)).below (fun i hi => by omega) HB.out.size)⟩
end Go.Proofs.YtkcgbhagjkhcmaaGreat
/- A disk's image that holds a state, laid without a seed: the document's Laid, over what is said of each item. -/
namespace Go.Proofs.YtkcgbhagjkhcmaaGreat
open Go.RowKit Go.Maps
set_option maxRecDepth 20000 in
set_option maxHeartbeats 1000000 in
theorem divisor_one (m : Nat) (hm : 1 < m) (hm2 : m ≤ 1048576) (w : World) : Calls Tryz.prog 41 #[.int .i64 1, .int .i64 (m : Int)] w fun e w' => e = .returned (.int .i64 1) ∧ Below w.heap.size w w' := by
  go_enter Tryz.func41, Tryz.ntmps41
  go_wp2
  go_loopw [0, 1] (fun s0 s1 wx => ((s0 = .int .i64 1 ∧ s1 = .int .i64 (m : Int)) ∨ (s0 = .int .i64 (m : Int) ∧ s1 = .int .i64 1) ∨ (s0 = .int .i64 1 ∧ s1 = .int .i64 0)) ∧ Hid (Below w.heap.size w wx)) (fun _ s1 _ => (intOf s1).toNat)
  case atStart => exact ⟨.inl ⟨rfl, rfl⟩, Below.refl _ _⟩
  case round =>
    obtain ⟨hc, HW⟩ := hrel
    have HW2 : Hid (∀ q, Below w.heap.size w (wr.drewN q)) := fun q => belowN HW.out q
    have e1 : (1 : Int).tmod (m : Int) = 1 := by rw [Int.tmod_eq_emod_of_nonneg (by omega)]; exact Int.emod_eq_of_lt (by omega) (by omega)
    have e2 : (m : Int).tmod 1 = 0 := by simp
    have hm0 : ((m : Int) == 0) = false := by simp; omega
    have hm1 : (0 : Int) < (m : Int) := by omega
    have hm2' : 0 < m := by omega
    have hmz : ¬ (m : Int) = 0 := by omega
    have hmz' : ¬ m = 0 := by omega
    rcases hc with ⟨rfl, rfl⟩ | ⟨rfl, rfl⟩ | ⟨rfl, rfl⟩
    · go_wp2_with fail
      go_quiet (fail)
      go_wp2
      exact ⟨⟨.inr (.inl ⟨rfl, rfl⟩), HW2.out _⟩, by simp [intOf]; omega⟩
    · go_wp2_with fail
      go_quiet (fail)
      go_wp2
      exact ⟨⟨.inr (.inr ⟨rfl, rfl⟩), HW2.out _⟩, by simp [intOf]⟩
    · go_wp2
      go_ret
      exact ⟨rfl, HW.out⟩
set_option maxHeartbeats 400000 in
theorem pick_zero (w : World) : Calls Tryz.prog 40 #[.int .i64 0, .int .i64 1000003] w fun e w' => e = .returned (.int .i64 0) ∧ w' = w := by
  go_enter Tryz.func40, Tryz.ntmps40
  go_wp2
  go_ret
  exact ⟨rfl, rfl⟩
/-- Bits set one by one. -/
def bitsR (f : Nat → Int) (want : Nat → Bool) : Nat → Nat → Int
  | 0 => f
  | k + 1 => if want k then setP (bitsR f want k) k else bitsR f want k
theorem bitsR_byt {f : Nat → Int} (hf : Byt f) (want : Nat → Bool) : ∀ k, Byt (bitsR f want k)
  | 0 => hf
  | k + 1 => by
    unfold bitsR
    split
    · exact setP_byt (bitsR_byt hf want k) k
    · exact bitsR_byt hf want k
theorem bitsR_has {f : Nat → Int} (hf : Byt f) (want : Nat → Bool) : ∀ k j, hasP (bitsR f want k) j = (decide (j < k) && want j || hasP f j)
  | 0, j => by unfold bitsR; simp
  | k + 1, j => by
    unfold bitsR
    have ih := bitsR_has hf want k j
    split
    · rename_i h
      rw [setP_has (bitsR_byt hf want k), ih]
      by_cases e : j = k
      · subst e; simp [h]
      · by_cases q : j < k
        · simp [e, q, show j < k + 1 by omega]
        · simp [e, q, show ¬ j < k + 1 by omega]
    · rename_i h
      rw [ih]
      by_cases e : j = k
      · subst e; simp [h]
      · by_cases q : j < k
        · simp [q, show j < k + 1 by omega]
        · simp [q, show ¬ j < k + 1 by omega]
theorem infoBlk : (Tryz.prog.info? 76).map (fun i => (i.zero, i.size, i.bytes)) = some (some (.agg (blk nought)), 1024, 1024) := by kernel_rfl
theorem blk_got (f : Nat → Int) (j : Nat) (h : j < 1024) : (blk f)[j]? = some (.int .u8 (f j)) := rowN_get _ _ _ _ h
def noF : Nat → Nat → Int := fun _ => nought
theorem made_blks (n : Nat) : madeCells (blk nought) (n * 1024) = pgCells noF n := by
  unfold pgCells
  refine rowN_ext ?_ fun j hj => ?_
  · generalize blk nought = Z at *
    simp [madeCells]
  · have h1 := blk_size nought
    have h2 : ∀ q, q < 1024 → (blk nought)[q]? = some (.int .u8 0) := fun q hq => blk_got nought q hq
    generalize blk nought = Z at *
    have h3 := h2 (j % 1024) (by omega)
    simp only [madeCells, h1]
    rw [Array.getElem?_map, Array.getElem?_range, if_pos hj]
    simp only [Option.map_some]
    rw [getElem!_def, h3]
    rfl
theorem run_makeBlk (u : World) (n : Nat) (hn : n ≤ 1048576) :
    (Instr.makeSlice 95 (.int .i64 (n : Int)) (.int .i64 (n : Int))).run Tryz.prog u = .ok (.slice (some ⟨u.heap.size, 0, none⟩) n n) (u.alloc (.cells (pgCells noF n) 76)) := by
  obtain ⟨i0, hi0, hz0, hz1, hz2⟩ := info_parts infoBlk
  have h := run_make (P := Tryz.prog) u 95 76 i0 (.agg (blk nought)) Tryz.underlying95 hi0 hz0 .i64 .i64 n n (by omega) (Int.le_refl _) (by rw [hz2]; omega) (by omega)
  rw [Int.toNat_natCast, hz1] at h
  rw [h]
  have e : (Value.agg (blk nought)).cells = blk nought := rfl
  rw [e, made_blks]
theorem exec_buildPg {o : Oper} {a : Act} {W : World} {x0 x1 x2 : Operand} {y : Lay} {gl gu n : Nat} (ho : o.op = .build 98 #[(0, x0), (1, x1), (2, x2)]) (h0 : a.eval x0 = .agg (layRow y)) (h1 : a.eval x1 = .slice (some ⟨gl, 0, none⟩) n n) (h2 : a.eval x2 = .slice (some ⟨gu, 0, none⟩) n n) : (execOp a.eval o).run Tryz.prog W = .ok (.value (.agg (pgRow y gl gu n 0 0 false))) W := by
  have z := (zero_of_info (show (Tryz.prog.info? 98).map (fun i => (i.zero, i.size)) = some (some (.agg #[.int .i64 0, .int .i64 0, .int .i64 0, .int .i64 0, .int .i64 0, .int .i64 0, .int .i64 0, .int .i64 0, .int .i64 0, .slice none 0 0, .slice none 0 0, .int .i64 0, .int .i64 0, .bool false]), 14) by kernel_rfl)).1 W
  unfold layRow at h0
  unfold pgRow
  generalize a.eval = E at *
  unfold execOp
  simp only [ho]
  simp [go_sem, h0, h1, h2, z]
structure LaS (w W : World) (gw gp gl gu n : Nat) (y : Lay) (F : Nat → Nat → Int) (U : Nat → Bool) (turn next : Int) (b l i : Int) (sv : Value) (fr sp : Int) : Prop where
  geo : W.heap[w.heap.size]? = some (.cells (geoRow b l i) 26)
  st : W.heap[w.heap.size + 1]? = some (.cells (stRow sv fr sp) 29)
  res : W.heap[w.heap.size + 2]? = some (.cells (imRow 0 (.slice none 0 0)) 62)
  lay : W.heap[gw]? = some (.cells (layRow y) 49)
  pg : PgAt W gp gl gu n y F U turn next
  far : w.heap.size + 2 < gw ∧ gw < gp ∧ gw < gl ∧ gw < gu
  bel : Below w.heap.size w W
section
variable {w W W' : World} {gw gp gl gu n : Nat} {y : Lay} {F F' : Nat → Nat → Int} {U U' : Nat → Bool} {turn next turn' next' : Int} {b l i : Int} {sv : Value} {fr sp : Int}
theorem LaS.call (h : LaS w W gw gp gl gu n y F U turn next b l i sv fr sp) (hb : Below W.heap.size W W') : LaS w W' gw gp gl gu n y F U turn next b l i sv fr sp := ⟨heap_kept h.geo hb, heap_kept h.st hb, heap_kept h.res hb, heap_kept h.lay hb, h.pg.later hb, h.far, below_next h.bel hb⟩
theorem LaS.page (h : LaS w W gw gp gl gu n y F U turn next b l i sv fr sp) (hp : PgAt W' gp gl gu n y F' U' turn' next') (hf : PgFr gp gl gu W W') : LaS w W' gw gp gl gu n y F' U' turn' next' b l i sv fr sp := by
  have hq := h.far
  exact ⟨(hf.block _ (Array.getElem?_eq_some_iff.1 h.geo).1 (by omega)).trans h.geo, (hf.block _ (Array.getElem?_eq_some_iff.1 h.st).1 (by omega)).trans h.st, (hf.block _ (Array.getElem?_eq_some_iff.1 h.res).1 (by omega)).trans h.res, (hf.block _ (Array.getElem?_eq_some_iff.1 h.lay).1 (by omega)).trans h.lay, hp, hq, h.bel.trans (hf.below (fun j q => by omega) h.bel.size)⟩
theorem PgAt.setTurn (h : PgAt W gp gl gu n y F U turn next) (x : Int) : PgAt (W.setCell ⟨gp, 11, none⟩ (.int .i64 x)) gp gl gu n y F U x next := by
  have hF := Fr.setCell W gp 11 (.int .i64 x)
  refine ⟨?_, (hF.block _ (Array.getElem?_eq_some_iff.1 h.blks).1 (fun q => h.ne1 q.symm)).trans h.blks, (hF.block _ (Array.getElem?_eq_some_iff.1 h.used).1 (fun q => h.ne2 q.symm)).trans h.used, h.ne1, h.ne2, h.ne3⟩
  rw [heap_setCell_same _ _ _ _ _ _ h.row]
  rfl
end
end Go.Proofs.YtkcgbhagjkhcmaaGreat
