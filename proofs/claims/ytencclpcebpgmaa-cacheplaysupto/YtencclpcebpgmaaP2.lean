/- Several texts joined, each with its own remark; no condition. -/
import Derived.Test.YtencclpcebpgmaaP1
import Derived.BigRegion
/- Leaving the row and standing last in it, as the program does; no condition. -/
namespace Go.Proofs.Ytencclpcebpgmaa
open Go.RowKit

/-- The holdings of S lie in memory as M says. -/
def Nodes (w : World) (M : Nat → Nd) (S : Nat → Prop) : Prop := ∀ g, S g → RowAt w g (M g).pos (M g).fast (ptr (M g).pv) (ptr (M g).nx) (M g).dat
variable {w : World} {M : Nat → Nd} {S : Nat → Prop}
theorem Nodes.setNx (h : Nodes w M S) {g : Nat} (hg : S g) (z : Nat) : Nodes (w.setCell ⟨g, 3, none⟩ (ptr z)) (setNx M g z) S := fun k hk => by
  unfold Go.Proofs.Ytencclpcebpgmaa.setNx setM
  by_cases e : k = g
  · subst e
    rw [if_pos rfl]
    exact (h k hk).set3 (ptr z)
  · rw [if_neg e]
    exact (h k hk).other 3 _ e
theorem Nodes.setPv (h : Nodes w M S) {g : Nat} (hg : S g) (z : Nat) : Nodes (w.setCell ⟨g, 2, none⟩ (ptr z)) (setPv M g z) S := fun k hk => by
  unfold Go.Proofs.Ytencclpcebpgmaa.setPv setM
  by_cases e : k = g
  · subst e
    rw [if_pos rfl]
    exact (h k hk).set2 (ptr z)
  · rw [if_neg e]
    exact (h k hk).other 2 _ e
theorem Nodes.kept {w' : World} (h : Nodes w M S) (hb : ∀ g, S g → w'.heap[g]? = w.heap[g]?) : Nodes w' M S := fun g hg => (hb g hg).trans (h g hg)
theorem Nodes.mono {S' : Nat → Prop} (h : Nodes w M S) (hs : ∀ g, S' g → S g) : Nodes w M S' := fun g hg => h g (hs g hg)
set_option maxHeartbeats 1000000 in
theorem leave_of (hN : Nodes w M S) {h : Nat} (hh : S h) (hp : S (M h).pv) (hn : S (M h).nx) :
    Calls Try.prog 63 #[ptr h] w fun e w' => e = .returned (.tuple #[]) ∧ Nodes w' (leaveM M h) S ∧ Fr (fun k => k = (M h).pv ∨ k = (M h).nx) w w' := by
  have k2 := (hN h hh).c2
  have k3 := (hN h hh).c3
  have p3 := (hN _ hp).c3
  have fp := (hN _ hp).free 3
  have n2 := (hN _ hn).c2
  have fn := (hN _ hn).free 2
  have N1 : Nodes ((w.setCell ⟨(M h).pv, 3, none⟩ (ptr (M h).nx)).setCell ⟨(M h).nx, 2, none⟩ (ptr (M h).pv)) (leaveM M h) S := (hN.setNx hp _).setPv hn _
  have F1 : Fr (fun k => k = (M h).pv ∨ k = (M h).nx) w ((w.setCell ⟨(M h).pv, 3, none⟩ (ptr (M h).nx)).setCell ⟨(M h).nx, 2, none⟩ (ptr (M h).pv)) := by
    refine ((Fr.setCell w (M h).pv 3 (ptr (M h).nx)).mono (T' := fun k => k = (M h).pv ∨ k = (M h).nx) fun _ _ q => .inl q).trans (Fr.setCell _ (M h).nx 2 (ptr (M h).pv)) fun _ _ q => .inr q
  have HN : Hid (Nodes _ (leaveM M h) S) := N1
  have HF : Hid (Fr _ w _) := F1
  clear N1 F1 hN
  generalize leaveM M h = M' at *
  generalize (M h).pv = P at *
  generalize (M h).nx = X at *
  unfold ptr at *
  go_enter Try.func63, Try.ntmps63
  go_wp2_with (fail)
  go_region
  go_end0
  exact ⟨rfl, HN.out, HF.out.trans (Fr.drew (T := fun _ => False) _) fun _ _ q => q.elim⟩
set_option maxHeartbeats 1000000 in
/-- h stands with anything where its neighbours do. -/
theorem stand_of (hN : Nodes w M S) {h e : Nat} {n : Nd} {p q : Value} (hS : ¬ S h) (he : S e) (hz : S (M e).pv) (hh : RowAt w h n.pos n.fast p q n.dat) :
    Calls Try.prog 65 #[ptr h, ptr e] w fun x w' => x = .returned (.tuple #[]) ∧ Nodes w' (standM (setM M h n) h e) (fun k => k = h ∨ S k) ∧ Fr (fun k => k = h ∨ k = e ∨ k = (M e).pv) w w' := by
  have hhe : h ≠ e := fun q => hS (q ▸ he)
  have hhz : h ≠ (M e).pv := fun q => hS (q ▸ hz)
  have e2 := (hN e he).c2
  have fe := (hN e he).free 2
  have z3 := (hN _ hz).c3
  have fz := (hN _ hz).free 3
  have h2 := hh.c2
  have h3 := hh.c3
  have f2 := hh.free 2
  have f3 := hh.free 3
  have eM : (setM M h n e) = M e := by unfold setM; rw [if_neg (Ne.symm hhe)]
  have e1 : ∀ k, k ≠ h → setM M h n k = M k := fun k hk => by unfold setM; rw [if_neg hk]
  have N1 : Nodes ((((w.setCell ⟨h, 2, none⟩ (ptr (M e).pv)).setCell ⟨h, 3, none⟩ (ptr e)).setCell ⟨(M e).pv, 3, none⟩ (ptr h)).setCell ⟨e, 2, none⟩ (ptr h)) (standM (setM M h n) h e) (fun k => k = h ∨ S k) := by
    unfold standM
    rw [eM]
    refine Nodes.setPv (Nodes.setNx ?_ (.inr hz) _) (.inr he) _
    rintro k (rfl | hk)
    · have := (hh.set2 (ptr (M e).pv)).set3 (ptr e)
      have e3 : setNx (setPv (setM M k n) k (M e).pv) k e k = { n with pv := (M e).pv, nx := e } := by unfold setNx setPv setM; simp
      rw [e3]
      exact this
    · have hk' : k ≠ h := fun q => hS (q ▸ hk)
      have e3 : setNx (setPv (setM M h n) h (M e).pv) h e k = M k := by unfold setNx setPv setM; simp [hk']
      rw [e3]
      exact ((hN k hk).other 2 _ hk').other 3 _ hk'
  have F1 : Fr (fun k => k = h ∨ k = e ∨ k = (M e).pv) w ((((w.setCell ⟨h, 2, none⟩ (ptr (M e).pv)).setCell ⟨h, 3, none⟩ (ptr e)).setCell ⟨(M e).pv, 3, none⟩ (ptr h)).setCell ⟨e, 2, none⟩ (ptr h)) := by
    have a1 := (Fr.setCell w h 2 (ptr (M e).pv)).mono (T' := fun k => k = h ∨ k = e ∨ k = (M e).pv) fun _ _ q => .inl q
    have a2 := a1.trans (Fr.setCell _ h 3 (ptr e)) fun _ _ q => .inl q
    have a3 := a2.trans (Fr.setCell _ (M e).pv 3 (ptr h)) fun _ _ q => .inr (.inr q)
    exact a3.trans (Fr.setCell _ e 2 (ptr h)) fun _ _ q => .inr (.inl q)
  have HN : Hid (Nodes _ _ _) := N1
  have HF : Hid (Fr _ w _) := F1
  clear N1 F1 hN eM e1 hh
  generalize standM (setM M h n) h e = M' at *
  generalize (M e).pv = Z at *
  unfold ptr at *
  go_enter Try.func65, Try.ntmps65
  go_wp2
  go_end0
  exact ⟨rfl, HN.out, HF.out⟩
end Go.Proofs.Ytencclpcebpgmaa
/- The history in memory; what is pending of it, and that nothing is; no condition. -/
namespace Go.Proofs.Ytencclpcebpgmaa
open Go.RowKit
variable {w : World} {L : Loc} {s : St}

theorem opCells_get : ∀ (l : List Rec) (i j : Nat) (r : Rec), l[i]? = some r → j < 1026 → (opCells l)[i * 1026 + j]? = (recCells r)[j]?
  | [], i, j, r, h, _ => by simp at h
  | x :: t, 0, j, r, h, hj => by
    have h' : x = r := by simpa using h
    subst h'
    show (recCells x ++ opCells t)[0 * 1026 + j]? = _
    rw [Nat.zero_mul, Nat.zero_add, List.getElem?_append_left (by rw [recCells_len]; exact hj)]
  | x :: t, i + 1, j, r, h, hj => by
    have h' : t[i]? = some r := by simpa using h
    show (recCells x ++ opCells t)[(i + 1) * 1026 + j]? = _
    rw [List.getElem?_append_right (by rw [recCells_len, Nat.add_mul]; omega), recCells_len, show (i + 1) * 1026 + j - 1026 = i * 1026 + j by rw [Nat.add_mul]; omega]
    exact opCells_get t i j r h' hj
theorem DiskAt.histAt (h : DiskAt w L s) {g : Nat} (hg : L.hv.ownBlock = some g) {i j : Nat} {r : Rec} (hi : s.ops[i]? = some r) (hj : j < 1026) : w.cell? ⟨g, i * 1026 + j, none⟩ = (recCells r)[j]? := by
  rcases h.hist.2 with ⟨h1, _⟩ | ⟨g', cap, cur, h1, _, hh, hc, hm, hs, ht⟩
  · rw [h1] at hg; cases hg
  · rw [h1] at hg
    have e : g' = g := by injection hg
    subst e
    have hlt : i < s.ops.length := (List.getElem?_eq_some_iff.1 hi).1
    have hin : i * 1026 + j < s.ops.length * 1026 := by simp only [Nat.mul_comm _ 1026] at *; omega
    rw [cell_of_row w g' _ cur 108 _ hh, ← Array.getElem?_toList, ← opCells_get _ i j r hi hj, ← ht, List.getElem?_take_of_lt hin]
theorem DiskAt.histPos (h : DiskAt w L s) {g : Nat} (hg : L.hv.ownBlock = some g) {i : Nat} {r : Rec} (hi : s.ops[i]? = some r) : w.cell? ⟨g, i * 1026 + 1, none⟩ = some (.int .i64 r.pos) :=
  (h.histAt hg hi (by omega)).trans rfl
theorem DiskAt.histBlk (h : DiskAt w L s) {g : Nat} (hg : L.hv.ownBlock = some g) {i : Nat} {r : Rec} (hi : s.ops[i]? = some r) : BlkAt w g (i * 1026 + 2) r.dat := fun j v hv => by
  have hj : j < 1024 := by have := (List.getElem?_eq_some_iff.1 hv).1; rwa [blk_list_len] at this
  rw [Nat.add_assoc, Nat.add_comm 2 j, h.histAt hg hi (by omega)]
  rw [show (recCells r)[j + 2]? = (blk r.dat).toList[j]? by simp only [recCells, List.getElem?_cons_succ]]
  exact hv
theorem DiskAt.shape (h : DiskAt w L s) : ∃ p c, L.hv = .slice p s.ops.length c ∧ s.ops.length ≤ c ∧ c ≤ maxLen ∧ (p = none ∧ c = 0 ∨ ∃ g, p = some ⟨g, 0, none⟩ ∧ L.hv.ownBlock = some g ∧ g < w.heap.size) := by
  rcases h.hist.2 with ⟨h1, h2⟩ | ⟨g', cap, cur, h1, _, hh, hc, hm, hs, ht⟩
  · exact ⟨none, 0, by rw [h1, h2], by omega, by unfold maxLen; omega, .inl ⟨rfl, rfl⟩⟩
  · exact ⟨_, cap, h1, hc, hm, .inr ⟨g', rfl, by rw [h1]; rfl, (Array.getElem?_eq_some_iff.1 hh).1⟩⟩
theorem ops_len (s : St) : s.ops.length = s.done.length + s.wait.length := by simp [St.ops]
theorem ops_wait (s : St) {i : Nat} {c : Cel} (h : s.wait[i]? = some c) : s.ops[s.done.length + i]? = some (wrec c) := by
  unfold St.ops
  rw [List.getElem?_append_right (by omega), Nat.add_sub_cancel_left, List.getElem?_map, h]
  rfl
/-- The part of the history behind l. -/
def pendV (v : Value) (l : Nat) : Value := match v with
  | .slice a n c => sliced a l n c 1026
  | _ => v
theorem DiskAt.pend (h : DiskAt w L s) : ∃ p c, pendV L.hv s.done.length = .slice p s.wait.length c ∧ s.wait.length ≤ c ∧ (0 < s.wait.length → ∃ g, L.hv.ownBlock = some g ∧ p = some ⟨g, s.done.length * 1026, none⟩) := by
  obtain ⟨p, c, h1, h2, h3, h4⟩ := h.shape
  have hl := ops_len s
  refine ⟨if c = s.done.length then p else p.map (·.add (s.done.length * 1026)), c - s.done.length, ?_, by omega, fun hw => ?_⟩
  · rw [h1]
    show sliced p s.done.length s.ops.length c 1026 = _
    unfold sliced
    rw [hl, Nat.add_sub_cancel_left]
  · rw [if_neg (by omega)]
    rcases h4 with ⟨_, h5⟩ | ⟨g, h5, h6, _⟩
    · omega
    · refine ⟨g, h6, ?_⟩
      rw [h5]
      show some (Addr.add ⟨g, 0, none⟩ _) = _
      rw [Go.WideShapes.add_plain, Nat.zero_add]
theorem elem67 : Try.prog.elem 75 = 108 := by kernel_rfl
theorem slice67 (p : Option Addr) (n c l : Nat) (hl : l ≤ n) (u : World) :
    (Instr.sliceAt 75 (.slice p n c) (some (.int .i64 (l : Int))) none none).run Try.prog u = .ok (pendV (.slice p n c) l) u := by
  have hu : Try.prog.underlying 75 = some (.slice (Try.prog.elem 75)) := by rw [elem67]; exact Try.underlying75
  rw [run_sliceAt_slice (P := Try.prog) u 75 _ _ _ _ hu, run_slice_l (P := Try.prog) u 75 p n c hu .i64 l (by omega) (by omega), elem67, Try.sizeOf108 u]
  rw [Result.andThen_ok, Int.toNat_natCast]
  rfl
theorem wpStill_slice67 {ops : Array Oper} {Q : Act → Prop} {a : Act} {o : Oper} {rest : List Oper} {w : World} (hgd : o.guard = none) (x y : Operand) (ho : o.op = .slice 75 x (some y) none none)
    (vx vy V : Value) (hx : a.eval x = vx) (hy : a.eval y = vy) (hr : (Instr.sliceAt 75 vx (some vy) none none).run Try.prog w = .ok V w)
    (h : wpStill Try.prog ops w Q rest (a.put o.dst V)) : wpStill Try.prog ops w Q (o :: rest) a := by
  unfold wpStill
  rw [if_pos (by simp [Region.wanted, hgd])]
  unfold Oper.still execOp
  simp only [ho, hx, hy, Option.map, Sem.run_bind, hr, Result.andThen_ok, Sem.run_pure, Oper.stillUpon]
  exact ⟨trivial, h⟩
set_option maxRecDepth 20000 in
theorem pending_of (h : DiskAt w L s) : Calls Try.prog 49 #[.pointer (some ⟨L.d, 0, none⟩)] w fun e w' => e = .returned (pendV L.hv s.done.length) ∧ w' = w.drew := by
  have c3 := h.c3
  have c4 := h.c4
  obtain ⟨p, c, h1, h2, h3, h4⟩ := h.shape
  have hl := ops_len s
  rw [h1] at c3 ⊢
  have hs := slice67 p s.ops.length c s.done.length (by omega)
  generalize pendV (.slice p s.ops.length c) s.done.length = V at *
  clear h h1 h4 hl h2 h3
  generalize s.ops.length = m at *
  generalize s.done.length = l at *
  go_enter Try.func49, Try.ntmps49
  go_wp2
  refine wp_region_still_lit (by kernel_rfl) (by kernel_rfl) ?_
  iterate 8 still_step
  refine wpStill_slice67 rfl _ _ rfl _ _ V rfl rfl (hs _) ?_
  simp only [Act.put, List.setIfInBounds_toArray, List.set_cons_succ, List.set_cons_zero]
  iterate 1 still_step
  refine wpStill_nil ?_
  change Exit.then _ _ _ _ (World.drew _)
  go_wp2
  go_ret
  exact ⟨rfl, rfl⟩
/-- The cells of a disk, one by one. -/
def row12 (d : Nat) (n : Int) (hb : Nat) (hv : Value) (bh : Int) (lb : Nat) (fu : Int) (st : Bool) (ma re cl : Int) (cd : Bool) : Array Value :=
  #[.pointer (some ⟨d, 0, none⟩), .int .i64 n, .map (some hb), hv, .int .i64 bh, .map (some lb), .int .i64 fu, .bool st, .int .i64 ma, .int .i64 re, .int .i64 cl, .bool cd]
theorem nothing_of {d : Nat} {n : Int} {hb : Nat} {p : Option Addr} {m c : Nat} {bh : Int} {lb : Nat} {fu : Int} {st : Bool} {ma re cl : Int} {cd : Bool} (h : w.heap[d]? = some (.cells (row12 d n hb (.slice p m c) bh lb fu st ma re cl cd) 78)) :
    Calls Try.prog 51 #[.pointer (some ⟨d, 0, none⟩)] w fun e w' => e = .returned (.tuple #[]) ∧ w'.heap[d]? = some (.cells (row12 d n hb (.slice p m c) m w.heap.size fu st ma re cl cd) 78) ∧ MapIs Try.prog 3 w' w.heap.size (fun _ => none) ∧ Fr (fun i => i = d) w w' := by
  have hmm := @run_makeMap Try.prog
  have hlt : d < w.heap.size := (Array.getElem?_eq_some_iff.1 h).1
  have c3 : w.cell? ⟨d, 3, none⟩ = some (.slice p m c) := Joins.cell_of_block h 3
  have c4 : w.cell? ⟨d, 4, none⟩ = some (.int .i64 bh) := Joins.cell_of_block h 4
  have f4 : w.frozen? ⟨d, 4, none⟩ = false := Joins.unfrozen_of_block h 4
  have c5 : w.cell? ⟨d, 5, none⟩ = some (.map (some lb)) := Joins.cell_of_block h 5
  have f5 : w.frozen? ⟨d, 5, none⟩ = false := Joins.unfrozen_of_block h 5
  have hS : ((w.setCell ⟨d, 4, none⟩ (.int .i64 (m : Int))).setCell ⟨d, 5, none⟩ (.map (some w.heap.size))).heap.size = w.heap.size := by simp
  have hR : Hid ((((w.setCell ⟨d, 4, none⟩ (.int .i64 (m : Int))).setCell ⟨d, 5, none⟩ (.map (some w.heap.size))).alloc (.map #[] 0)).heap[d]? = some (.cells (row12 d n hb (.slice p m c) m w.heap.size fu st ma re cl cd) 78)) := by
    have h1 := Joins.block_setCell h (i := 4) (.int .i64 (m : Int))
    have h3 := Joins.block_setCell h1 (i := 5) (.map (some w.heap.size))
    exact (((Below.refl (d + 1) _).alloc (by rw [hS]; omega) _).block d (by omega)).trans h3
  have hM : Hid (MapIs Try.prog 3 (((w.setCell ⟨d, 4, none⟩ (.int .i64 (m : Int))).setCell ⟨d, 5, none⟩ (.map (some w.heap.size))).alloc (.map #[] 0)) w.heap.size (fun _ => none)) := by
    have h1 := MapIs.made (P := Try.prog) (k := 3) ((w.setCell ⟨d, 4, none⟩ (.int .i64 (m : Int))).setCell ⟨d, 5, none⟩ (.map (some w.heap.size)))
    rwa [hS] at h1
  have hF : Hid (Fr (fun i => i = d) w (((w.setCell ⟨d, 4, none⟩ (.int .i64 (m : Int))).setCell ⟨d, 5, none⟩ (.map (some w.heap.size))).alloc (.map #[] 0))) :=
    ((Fr.setCell w d 4 _).trans (Fr.setCell _ d 5 _) fun _ _ q => q).trans (Fr.alloc (fun i => i = d) _ _) fun _ _ q => q
  clear h hS
  go_enter Try.func51, Try.ntmps51
  go_wp2
  go_end0
  exact ⟨rfl, hR.out, hM.out, hF.out⟩
end Go.Proofs.Ytencclpcebpgmaa
