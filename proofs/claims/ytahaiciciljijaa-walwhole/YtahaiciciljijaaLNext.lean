/- Lists of blocks held against each other, copied, and turned by a step's changes, beside whatever stands on a disk; no condition. -/
import Derived.Test.YtahaiciciljijaaLCtx
namespace Go.Proofs.Ytahaiciciljijaa
open Go.RowKit Go.Maps
/-- Blocks that lie one behind the other. -/
def BlksIn (W : World) (p : Option Addr) (fs : List (Nat → Int)) : Prop := 0 < fs.length → ∃ q off, p = some ⟨q, off, none⟩ ∧ q < W.heap.size ∧ ∀ k f, fs[k]? = some f → BlkAt W q (off + k * 1024) f
theorem BlkAt.keeps {W W' : World} {q off : Nat} {f : Nat → Int} (h : BlkAt W q off f) (hq : q < W.heap.size) (hb : Below W.heap.size W W') : BlkAt W' q off f := fun j v hv => (hb.cell (p := ⟨q, off + j, none⟩) hq).trans (h j v hv)
theorem BlksIn.later {W W' : World} {p : Option Addr} {fs : List (Nat → Int)} (h : BlksIn W p fs) (hb : Below W.heap.size W W') : BlksIn W' p fs := fun h0 => by
  obtain ⟨q, off, h1, h2, h3⟩ := h h0
  exact ⟨q, off, h1, Nat.lt_of_lt_of_le h2 hb.size, fun k f hf => (h3 k f hf).keeps h2 hb⟩
theorem BlksIn.of {W : World} {B : Nat} {v : Value} {fs : List (Nat → Int)} (h : W.ownsRow B 23 1024 v fs.length (blkCells fs)) : ∃ p c, v = .slice p fs.length c ∧ BlksIn W p fs := by
  by_cases h0 : 0 < fs.length
  · obtain ⟨q, c, h1, _, _, h2, _, h3⟩ := blks_at h h0
    exact ⟨_, c, h1, fun _ => ⟨q, 0, rfl, h2, fun k f hf => by rw [Nat.zero_add]; exact h3 k f hf⟩⟩
  · rcases h.2 with ⟨h1, h2⟩ | ⟨q, cap, cur, h1, _⟩
    · exact ⟨none, 0, by rw [h1, h2], fun q => absurd q h0⟩
    · exact ⟨_, cap, h1, fun q => absurd q h0⟩
section
variable {a : Act} {u : World} {o : Oper}
theorem exec_mv {x : Operand} {v : Value} (ho : o.op = .move x) (hx : a.eval x = v) : (execOp a.eval o).run Try.prog u = .ok (.value v) u := by
  unfold execOp
  simp [ho, hx]
theorem exec_ix69o {y z : Operand} {q off n c k : Nat} (ho : o.op = .indexAddr 69 y z) (hx : a.eval y = .slice (some ⟨q, off, none⟩) n c) (hz : a.eval z = .int .i64 (k : Int)) (hk : k < n) : (execOp a.eval o).run Try.prog u = .ok (.value (.pointer (some ⟨q, off + k * 1024, none⟩))) u := by
  have hk2 : (k : Int) < n := by omega
  simp only [execOp, ho, hx, hz]
  go_simp
theorem exec_ld5 {y : Operand} {q k : Nat} {v : Value} (ho : o.op = .load 5 y) (hx : a.eval y = .pointer (some ⟨q, k, none⟩)) (hc : u.cell? ⟨q, k, none⟩ = some v) : (execOp a.eval o).run Try.prog u = .ok (.value v) u := by
  simp only [execOp, ho, hx]
  go_simp
theorem exec_neS {x y : Operand} {f g : Nat → Int} {b : Bool} (ho : o.op = .binOp .neq 23 x y 23) (hx : a.eval x = .agg (blk f)) (hy : a.eval y = .agg (blk g)) (hb : sameB f g = b) : (execOp a.eval o).run Try.prog u = .ok (.value (.bool (!b))) u := by
  have e := H.neq30 f g b hb u
  unfold execOp
  simp only [ho, hx, hy, Sem.run_bind, H.neqg30, e, Result.andThen_ok, Sem.run_pure]
theorem exec_stM {y z : Operand} {q off : Nat} {f : Nat → Int} (ho : o.op = .store 23 y z) (hx : a.eval y = .pointer (some ⟨q, off, none⟩)) (hy : a.eval z = .agg (blk f)) (h : u.there q off 1024) : (execOp a.eval o).run Try.prog u = .ok .skip (u.setCells q off (blk f).toList) := by
  have e := run_storeVar_mid (P := Try.prog) u q off 23 (blk f) (by rw [blk_size]; exact h) (by rw [blk_size]; exact size25) (blk_one f)
  unfold execOp
  simp only [ho, hx, hy, Instr.storeAt, Instr.sureAddr, Sem.run_bind, Sem.run_pure, Result.andThen_ok, e]
end
section
variable {P : Program} {ops : Array Oper} {Q : Exit → Act → World → Prop} {S : World → Prop} {r : List (Bool × Oper)} {a : Act} {w w' : World} {o : Oper}
theorem wpOrd_done (hw : Region.wanted o (yielded ops a.tmps) = true) (hr : (execOp a.eval o).run P w = .ok .skip w') (hS : S w') (h : wpOrd P ops Q S r (a.put o.dst undef) w') : wpOrd P ops Q S ((false, o) :: r) a w := by
  simp only [wpOrd, hw, if_true]
  unfold Oper.wp
  rw [hr]
  exact ⟨hS, h⟩
end
/-- What SameBlocks tells: of equal lists, true. -/
def SbPost (w : World) (fs gs : List (Nat → Int)) (e : Ending) (w' : World) : Prop := ∃ B, e = .returned (.bool B) ∧ (fs = gs → B = true) ∧ Below w.heap.size w w'
set_option maxRecDepth 20000 in
set_option maxHeartbeats 1600000 in
theorem sameBlocks_any (fs gs : List (Nat → Int)) (p p' : Option Addr) (c1 c2 : Nat) (w : World) (h : BlksIn w p fs) (h' : BlksIn w p' gs) (hl : fs.length ≤ 1000) (hl' : gs.length ≤ 1000) :
    Calls Try.prog 58 #[.slice p fs.length c1, .slice p' gs.length c2] w (SbPost w fs gs) := by
  obtain ⟨n, hn⟩ : ∃ n, fs.length = n := ⟨_, rfl⟩
  obtain ⟨n', hn'⟩ : ∃ n', gs.length = n' := ⟨_, rfl⟩
  have HH : Hid (BlksIn w p fs ∧ BlksIn w p' gs ∧ fs.length = n ∧ gs.length = n') := ⟨h, h', hn, hn'⟩
  rw [hn] at hl ⊢
  rw [hn'] at hl' ⊢
  have HB0 : Hid (Below w.heap.size w w) := Below.refl _ _
  clear h h' hn hn'
  by_cases hnn : n = n'
  · subst hnn
    go_enter Try.func58, Try.ntmps58
    go_wp2
    go_loopw [5] (fun s5 wx => ∃ k : Nat, k ≤ n ∧ s5 = .int .i64 k ∧ Hid (Below w.heap.size w wx)) (fun s5 _ => n - (intOf s5).toNat)
    case atStart => exact ⟨0, by omega, rfl, HB0.out⟩
    case round =>
      obtain ⟨k, hk, rfl, HB⟩ := hrel
      by_cases hk2 : (k : Int) < n
      · obtain ⟨h, h', hn, hn'⟩ := HH.out
        obtain ⟨q1, o1, rfl, hq1, C1⟩ := h (by omega)
        obtain ⟨q2, o2, rfl, hq2, C2⟩ := h' (by omega)
        obtain ⟨f, hf⟩ : ∃ f, fs[k]? = some f := ⟨_, List.getElem?_eq_getElem (by omega)⟩
        obtain ⟨g, hg⟩ : ∃ g, gs[k]? = some g := ⟨_, List.getElem?_eq_getElem (by omega)⟩
        have hbd := Below.drew HB.out
        have HS : Hid (BlkAt wr.drew q1 (o1 + k * 1024) f ∧ BlkAt wr.drew q2 (o2 + k * 1024) g) := ⟨(C1 k _ hf).keeps hq1 hbd, (C2 k _ hg).keeps hq2 hbd⟩
        obtain ⟨B, hB⟩ : ∃ B, sameB f g = B := ⟨_, rfl⟩
        have HNe : Hid (B = false → fs ≠ gs) := fun hb e => by
          have e2 : f = g := by
            have q := hf
            rw [e, hg] at q
            injection q with q
            exact q.symm
          rw [e2, hb] at hB
          have : sameB g g = true := by unfold sameB; simp
          rw [this] at hB
          cases hB
        have HBd := Hid.mk' hbd
        clear h h' hn hn' hq1 hq2 C1 C2 hf hg hbd HB
        go_wp2
        refine wp_region_ord (S := fun u => BlkAt u q1 (o1 + k * 1024) f ∧ BlkAt u q2 (o2 + k * 1024) g) [(0, true), (1, true), (2, true), (3, true), (4, true), (5, true), (6, true), (7, true), (8, true)]
          (by kernel_rfl) rfl (by kernel_rfl) (fun d _ _ _ _ h => by cases d <;> exact h) HS.out ?_
        simp only [inOrd, List.getElem?_cons_zero, List.getElem?_cons_succ]
        refine wpOrd_yield (v := .slice (some ⟨q1, o1, none⟩) n c1) rfl (fun u _ => exec_mv rfl rfl) ?_
        simp only [Act.put, List.setIfInBounds_toArray, List.set_cons_succ, List.set_cons_zero]
        refine wpOrd_yield (v := .int .i64 (k : Int)) rfl (fun u _ => exec_mv rfl rfl) ?_
        simp only [Act.put, List.setIfInBounds_toArray, List.set_cons_succ, List.set_cons_zero]
        refine wpOrd_yield (v := .pointer (some ⟨q1, o1 + k * 1024, none⟩)) rfl (fun u _ => exec_ix69o rfl rfl rfl (by omega)) ?_
        simp only [Act.put, List.setIfInBounds_toArray, List.set_cons_succ, List.set_cons_zero]
        refine wpOrd_yield (v := .agg (blk f)) rfl (fun u hu => exec_ldM rfl rfl hu.1) ?_
        simp only [Act.put, List.setIfInBounds_toArray, List.set_cons_succ, List.set_cons_zero]
        refine wpOrd_yield (v := .slice (some ⟨q2, o2, none⟩) n c2) rfl (fun u _ => exec_mv rfl rfl) ?_
        simp only [Act.put, List.setIfInBounds_toArray, List.set_cons_succ, List.set_cons_zero]
        refine wpOrd_yield (v := .int .i64 (k : Int)) rfl (fun u _ => exec_mv rfl rfl) ?_
        simp only [Act.put, List.setIfInBounds_toArray, List.set_cons_succ, List.set_cons_zero]
        refine wpOrd_yield (v := .pointer (some ⟨q2, o2 + k * 1024, none⟩)) rfl (fun u _ => exec_ix69o rfl rfl rfl (by omega)) ?_
        simp only [Act.put, List.setIfInBounds_toArray, List.set_cons_succ, List.set_cons_zero]
        refine wpOrd_yield (v := .agg (blk g)) rfl (fun u hu => exec_ldM rfl rfl hu.2) ?_
        simp only [Act.put, List.setIfInBounds_toArray, List.set_cons_succ, List.set_cons_zero]
        refine wpOrd_yield (v := .bool (!B)) rfl (fun u _ => exec_neS rfl rfl rfl hB) ?_
        simp only [Act.put, List.setIfInBounds_toArray, List.set_cons_succ, List.set_cons_zero]
        refine wpOrd_nil ?_
        clear HS hB
        cases B
        · go_wp2
          go_ret
          exact ⟨false, rfl, fun e => absurd e (HNe.out (by trivial)), HBd.out⟩
        · go_wp2
          exact ⟨⟨k + 1, by omega, by go_num, HBd.out⟩, by simp [intOf]; omega⟩
      · go_wp2
        go_ret
        exact ⟨true, rfl, fun _ => rfl, HB.out⟩
  · have hne : ¬ (n : Int) = n' := by omega
    go_enter Try.func58, Try.ntmps58
    go_wp2
    go_ret
    refine ⟨false, rfl, fun e => ?_, HB0.out⟩
    obtain ⟨_, _, h1, h2⟩ := HH.out
    rw [e] at h1
    omega
section
variable {w W W' : World} {d : Nat} {C : World → St → List (Nat × Obj) → Prop} {t : St} {v : Value} {ks : List (Nat × Obj)} {fs : List (Nat → Int)}
theorem CB.setB (hC : Ctx w d C) (h : CB w C W t v fs ks) {q k : Nat} (hq : v.ownBlock = some q) (hk : k < fs.length) (f : Nat → Int) : W.there q (k * 1024) 1024 ∧ CB w C (W.setCells q (k * 1024) (blk f).toList) t v (fs.set k f) ks := by
  obtain ⟨own, h1, h2, h3⟩ := h
  obtain ⟨b1, b2⟩ := blks_set (hC.owns h1 h2) hq hk f
  obtain ⟨own', q1, q2, q3⟩ := hC.grown h1 h2 (Nat.le_refl _) h3 ((Fr.setCells W q (k * 1024) (blk f).toList).mono fun i _ e => by rw [e]; exact hq) b2 fun k hk => .inl hk
  exact ⟨b1, own', q1, by rw [List.length_set]; exact q2, q3⟩
theorem blks_cell {p : Nat} {off : Nat} (h : ∀ k f, fs[k]? = some f → BlkAt W p (off + k * 1024) f) {j : Nat} {u : Value} (hj : (blkCells fs)[j]? = some u) : W.cell? ⟨p, off + j, none⟩ = some u := by
  have hl : j < fs.length * 1024 := by
    have := (List.getElem?_eq_some_iff.1 hj).1
    rwa [blkCells_len] at this
  have hk : j / 1024 < fs.length := by omega
  have hf : fs[j / 1024]? = some fs[j / 1024] := List.getElem?_eq_getElem hk
  rw [blkCells_split fs (j / 1024) _ hf] at hj
  have hlen : (blkCells (fs.take (j / 1024))).length = j / 1024 * 1024 := by rw [blkCells_len, List.length_take]; omega
  rw [List.getElem?_append_right (by omega), hlen, List.getElem?_append_left (by rw [blk_list_len]; omega)] at hj
  have q := h _ _ hf (j - j / 1024 * 1024) u hj
  rw [show off + j / 1024 * 1024 + (j - j / 1024 * 1024) = off + j by omega] at q
  exact q
/-- A copy of a list of blocks. -/
theorem copy_any (hC : Ctx w d C) (h : C W t ks) {p : Option Addr} (hb : BlksIn W p fs) (h0 : 0 < fs.length) (hl : fs.length ≤ 1000) (c : Nat) : Calls Try.prog 76 #[.slice p fs.length c] W fun e W' => ∃ v, e = .returned v ∧ CB w C W' t v fs ks := by
  obtain ⟨q, off, rfl, hq, hB⟩ := hb h0
  have hW := (hC.below h).size
  obtain ⟨i0, hi0, hz0, hz1, hz2⟩ := info_parts info23b
  obtain ⟨Z, hZ, hZs⟩ : ∃ Z : Value, Value.agg (blk nought) = Z ∧ Z.cells.size = 1024 := ⟨_, rfl, blk_size nought⟩
  rw [hZ] at hz0
  obtain ⟨v', W', hr, h2, h3, h4⟩ := append_gen (W := W) (v := .slice none 0 0) (ad := ⟨q, off, none⟩) (c := c) (news := blkCells fs) Try.underlying69 hi0 hz0 hz1 hz2 hZs (by omega) (World.ownsRow_nil W w.heap.size 23 1024) h0 (blkCells_len fs) (fun j u hu => by
      rw [Go.WideShapes.add_plain]
      exact blks_cell hB hu) (fun u hu => by
      unfold blkCells at hu
      obtain ⟨f, _, hf⟩ := List.mem_flatMap.1 hu
      have := blk_one f
      rw [Array.all_eq_true'] at this
      exact this u (Array.mem_toList_iff.1 hf)) (by unfold maxLen; omega) (by omega) hW 69
  obtain ⟨own', q1, q2, q3⟩ := hC.grown (own := []) (v := .slice none 0 0) h (Holds.nil _ _ _) (Nat.le_refl _) (fun _ _ q => by cases q) h3 h2 h4
  have HQ : Hid (CB w C W' t v' fs ks) := ⟨own', q1, by rw [Nat.zero_add, List.nil_append] at q2; exact q2, q3⟩
  clear h hB h2 h3 h4 q1 q2 q3 hi0 hz0 hz1 hz2 hZ hZs
  generalize fs.length = n at *
  go_enter Try.func76, Try.ntmps76
  go_wp2_with (first | (at_builtin; refine wpList_push rfl rfl rfl rfl hr ?_))
  go_ret
  exact ⟨v', rfl, HQ.out⟩
/-- What blocks are behind a step. -/
def nextL (fs : List (Nat → Int)) (cs : List (Int × Int)) : List (Nat → Int) := cs.foldl (fun fs c => fs.set (c.1 % (fs.length : Int)).toNat (blkF c.2)) fs
theorem nextL_len : ∀ (cs : List (Int × Int)) (fs : List (Nat → Int)), (nextL fs cs).length = fs.length
  | [], _ => rfl
  | c :: r, fs => by
    show (nextL (fs.set (c.1 % (fs.length : Int)).toNat (blkF c.2)) r).length = _
    rw [nextL_len r, List.length_set]
theorem nextL_snoc (fs : List (Nat → Int)) (cs : List (Int × Int)) (c : Int × Int) : nextL fs (cs ++ [c]) = (nextL fs cs).set (c.1 % (fs.length : Int)).toNat (blkF c.2) := by
  have h : nextL fs (cs ++ [c]) = (nextL fs cs).set (c.1 % ((nextL fs cs).length : Int)).toNat (blkF c.2) := by unfold nextL; rw [List.foldl_append]; rfl
  rw [h, nextL_len]
set_option maxRecDepth 20000 in
set_option maxHeartbeats 3200000 in
theorem next_any (hC : Ctx w d C) (h : C W t ks) {p : Option Addr} (hb : BlksIn W p fs) (h0 : 0 < fs.length) (hl : fs.length ≤ 1000) (c : Nat) {pc : Option Addr} {cs : List (Int × Int)} (cc : Nat) (hcs : ChsAt w pc cs) (hfill : ∀ c ∈ cs, 0 ≤ c.2 ∧ c.2 ≤ 255) (hcl : cs.length ≤ 31) :
    Calls Try.prog 52 #[.slice p fs.length c, .slice pc cs.length cc] W fun e W' => ∃ v, e = .returned v ∧ CB w C W' t v (nextL fs cs) ks := by
  have HCp := Hid.mk' (copy_any hC h hb h0 hl c)
  have HC := Hid.mk' hC
  obtain ⟨n, hn⟩ : ∃ n, fs.length = n := ⟨_, rfl⟩
  obtain ⟨m, hm⟩ : ∃ m, cs.length = m := ⟨_, rfl⟩
  have HT : Hid (ChsAt w pc cs ∧ cs.length = m ∧ ∀ c ∈ cs, 0 ≤ c.2 ∧ c.2 ≤ 255) := ⟨hcs, hm, hfill⟩
  have HN : Hid (fs.length = n) := hn
  rw [hn] at h0 hl HCp ⊢
  rw [hm] at hcl ⊢
  clear hcs hfill hn hm hC h hb
  go_enter Try.func52, Try.ntmps52
  go_wp2_with (first | (go_at_call 76; fail))
  refine HCp.out.mono ?_
  rintro e W1 ⟨v, rfl, h1⟩
  obtain ⟨q5, c5, e5, _⟩ := blks_at (h1.owns HC.out) (by rw [HN.out]; exact h0)
  rw [HN.out] at e5
  subst e5
  have H1 := Hid.mk' h1
  clear h1 HCp
  go_wp2
  go_loopw [6] (fun s6 wx => ∃ k : Nat, k ≤ m ∧ s6 = .int .i64 k ∧ Hid (CB w C wx t (.slice (some ⟨q5, 0, none⟩) n c5) (nextL fs (cs.take k)) ks)) (fun s6 _ => m - (intOf s6).toNat)
  case atStart => exact ⟨0, by omega, rfl, H1.out⟩
  case round =>
    obtain ⟨k, hk, rfl, HJ⟩ := hrel
    clear H1
    by_cases hk2 : (k : Int) < m
    · obtain ⟨hts, hm1, hfl⟩ := HT.out
      have hx : cs[k]? = some cs[k] := List.getElem?_eq_getElem (by omega)
      have htk : cs.take (k + 1) = cs.take k ++ [cs[k]] := by rw [List.take_add_one, hx]; rfl
      have hfk := hfl cs[k] (List.getElem_mem _)
      obtain ⟨b1, o1, rfl, l1w, C1⟩ := hts (by omega)
      have hCk := C1 k _ hx
      generalize cs[k] = cz at hx hfk hCk htk
      obtain ⟨cat, cf⟩ := cz
      dsimp only at hCk hfk
      have sa : ∀ u, Below w.heap.size w u → u.cell? ⟨b1, o1 + k * 2, none⟩ = some (.int .i64 cat) := fun u hu => (hu.cell (p := ⟨b1, o1 + k * 2, none⟩) l1w).trans hCk.1
      have sf : ∀ u, Below w.heap.size w u → u.cell? ⟨b1, o1 + k * 2 + 1, none⟩ = some (.int .u8 cf) := fun u hu => (hu.cell (p := ⟨b1, o1 + k * 2 + 1, none⟩) l1w).trans hCk.2
      have hpk := fun W => pick_any cat (n : Int) ⟨by omega, by omega⟩ W
      obtain ⟨an, han, han2⟩ : ∃ an : Nat, cat % (n : Int) = (an : Int) ∧ an < n := ⟨(cat % (n : Int)).toNat, by have := Int.emod_nonneg cat (show (n : Int) ≠ 0 by omega); omega, by have := Int.emod_nonneg cat (show (n : Int) ≠ 0 by omega); have := Int.emod_lt_of_pos cat (show (0 : Int) < n by omega); omega⟩
      rw [han] at hpk
      have HNx : Hid (nextL fs (cs.take (k + 1)) = (nextL fs (cs.take k)).set an (blkF cf)) := by
        have q := nextL_snoc fs (cs.take k) (cat, cf)
        rw [HN.out] at q
        simp only [han] at q
        rw [show ((an : Int)).toNat = an by omega] at q
        show nextL fs (cs.take (k + 1)) = _
        rw [htk]
        exact q
      have HJd := Hid.mk' (HJ.out.later HC.out (H.drew_below wr))
      clear hCk l1w C1 hx htk hts hm1 hfl HJ han
      go_wp2
      refine wp_region_ord (S := fun u => Below w.heap.size w u) [(0, true), (1, true), (2, true), (3, true), (4, true), (5, true), (6, true), (7, true), (9, true), (10, true), (11, true), (12, true), (13, true), (8, false), (14, false), (15, true), (16, false)]
        (by kernel_rfl) rfl (by kernel_rfl) (fun d _ _ _ _ h => by cases d <;> exact h) (HJd.out.below HC.out) ?_
      simp only [inOrd, List.getElem?_cons_zero, List.getElem?_cons_succ]
      refine wpOrd_yield (v := .slice (some ⟨q5, 0, none⟩) n c5) rfl (fun u _ => exec_mv rfl rfl) ?_
      simp only [Act.put, List.setIfInBounds_toArray, List.set_cons_succ, List.set_cons_zero]
      refine wpOrd_yield (v := .slice (some ⟨b1, o1, none⟩) m cc) rfl (fun u _ => exec_mv rfl rfl) ?_
      simp only [Act.put, List.setIfInBounds_toArray, List.set_cons_succ, List.set_cons_zero]
      refine wpOrd_yield (v := .int .i64 (k : Int)) rfl (fun u _ => exec_mv rfl rfl) ?_
      simp only [Act.put, List.setIfInBounds_toArray, List.set_cons_succ, List.set_cons_zero]
      refine wpOrd_yield (v := .pointer (some ⟨b1, o1 + k * 2, none⟩)) rfl (fun u _ => by go_simp) ?_
      simp only [Act.put, List.setIfInBounds_toArray, List.set_cons_succ, List.set_cons_zero]
      refine wpOrd_yield (v := .pointer (some ⟨b1, o1 + k * 2, none⟩)) rfl (fun u _ => by go_simp) ?_
      simp only [Act.put, List.setIfInBounds_toArray, List.set_cons_succ, List.set_cons_zero]
      refine wpOrd_yield (v := .int .i64 cat) rfl (fun u hu => exec_ld3 rfl rfl (sa u hu)) ?_
      simp only [Act.put, List.setIfInBounds_toArray, List.set_cons_succ, List.set_cons_zero]
      refine wpOrd_yield (v := .slice (some ⟨q5, 0, none⟩) n c5) rfl (fun u _ => exec_mv rfl rfl) ?_
      simp only [Act.put, List.setIfInBounds_toArray, List.set_cons_succ, List.set_cons_zero]
      refine wpOrd_yield (v := .int .i64 (n : Int)) rfl (fun u _ => by go_simp) ?_
      simp only [Act.put, List.setIfInBounds_toArray, List.set_cons_succ, List.set_cons_zero]
      refine wpOrd_yield (v := .slice (some ⟨b1, o1, none⟩) m cc) rfl (fun u _ => exec_mv rfl rfl) ?_
      simp only [Act.put, List.setIfInBounds_toArray, List.set_cons_succ, List.set_cons_zero]
      refine wpOrd_yield (v := .int .i64 (k : Int)) rfl (fun u _ => exec_mv rfl rfl) ?_
      simp only [Act.put, List.setIfInBounds_toArray, List.set_cons_succ, List.set_cons_zero]
      refine wpOrd_yield (v := .pointer (some ⟨b1, o1 + k * 2, none⟩)) rfl (fun u _ => by go_simp) ?_
      simp only [Act.put, List.setIfInBounds_toArray, List.set_cons_succ, List.set_cons_zero]
      refine wpOrd_yield (v := .pointer (some ⟨b1, o1 + k * 2 + 1, none⟩)) rfl (fun u _ => by go_simp) ?_
      simp only [Act.put, List.setIfInBounds_toArray, List.set_cons_succ, List.set_cons_zero]
      refine wpOrd_yield (v := .int .u8 cf) rfl (fun u hu => exec_ld5 rfl rfl (sf u hu)) ?_
      simp only [Act.put, List.setIfInBounds_toArray, List.set_cons_succ, List.set_cons_zero]
      refine wpOrd_call rfl 17 _ _ rfl Try.call17 [.int .i64 cat, .int .i64 (n : Int)] rfl ?_
      refine (hpk _).mono ?_
      rintro e X1 ⟨rfl, he⟩
      obtain rfl := he.symm
      clear he
      refine ⟨_, rfl, HJd.out.below HC.out, ?_⟩
      simp only [Act.put, List.setIfInBounds_toArray, List.set_cons_succ, List.set_cons_zero]
      refine wpOrd_call rfl 31 _ _ rfl Try.call31 [.int .u8 cf] rfl ?_
      refine (block_any cf hfk _).mono ?_
      rintro e X2 ⟨rfl, hx2⟩
      have HJ2 := Hid.mk' (HJd.out.later HC.out hx2)
      clear hx2
      refine ⟨_, rfl, HJ2.out.below HC.out, ?_⟩
      simp only [Act.put, List.setIfInBounds_toArray, List.set_cons_succ, List.set_cons_zero]
      refine wpOrd_yield (v := .pointer (some ⟨q5, an * 1024, none⟩)) rfl (fun u _ => exec_ix69 rfl rfl rfl (by omega)) ?_
      simp only [Act.put, List.setIfInBounds_toArray, List.set_cons_succ, List.set_cons_zero]
      obtain ⟨hth, hset⟩ := HJ2.out.setB HC.out (q := q5) rfl (k := an) (by rw [nextL_len, HN.out]; omega) (blkF cf)
      have HSet := Hid.mk' hset
      refine wpOrd_done rfl (exec_stM rfl rfl rfl hth) (HSet.out.below HC.out) ?_
      clear hth hset
      refine wpOrd_nil ?_
      have H9 : Hid (CB w C (X2.setCells q5 (an * 1024) (blk (blkF cf)).toList) t (.slice (some ⟨q5, 0, none⟩) n c5) (nextL fs (cs.take (k + 1))) ks) := by
        rw [HNx.out]
        exact HSet.out
      clear sa sf hpk HJd HJ2 HSet
      go_wp2
      exact ⟨⟨k + 1, by omega, by go_num, H9.out⟩, by simp [intOf]; omega⟩
    · obtain rfl : k = m := by omega
      have H9 : Hid (CB w C wr t (.slice (some ⟨q5, 0, none⟩) n c5) (nextL fs cs) ks) := by
        have q := HJ.out
        rw [List.take_of_length_le (by rw [HT.out.2.1]; exact Nat.le_refl _)] at q
        exact q
      go_wp2
      go_ret
      exact ⟨_, rfl, H9.out⟩
end
end Go.Proofs.Ytahaiciciljijaa
