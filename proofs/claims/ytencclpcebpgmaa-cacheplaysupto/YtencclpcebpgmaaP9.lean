/- Several texts joined, each with its own remark; no condition. -/
import Derived.Test.YtencclpcebpgmaaP8
import Derived.Test.YtencclpcebpgmaaP6
/- The document's disk of the cache's chapter: Write, Barrier, Crash; disks of at least one block. -/
namespace Go.Proofs.Ytencclpcebpgmaa
open Go.RowKit Go.Maps
variable {w w' : World} {R : RL} {n : Nat} {s : RD}
theorem enK_blk (f : Nat → Int) : (enK f).toArray = blk f := by unfold enK; rw [Array.toArray_toList]
theorem storeK {g off : Nat} {f : Nat → Int} {cur : Array Value} (hg : w.heap[g]? = some (.cells cur 59)) (hfit : off + 1024 ≤ cur.size) :
    (Instr.storeAt 59 (.pointer (some ⟨g, off, none⟩)) (.agg (blk f))).run Try.prog w = .ok () (w.setRow g (putE cur off (enK f))) := by
  have hl := lenK f
  have hst := run_storeCells_at Try.prog g off 59 (enK f) 0 cur w hg (by rw [hl]; omega) (oneK f)
  have hsz := size25
  rw [← enK_blk]
  simp only [Nat.add_zero] at hst
  unfold putE
  generalize enK f = R at *
  cases hi : Try.prog.info? 59 with
  | none => rw [hi] at hsz; simp at hsz
  | some i =>
    rw [hi] at hsz
    have hz : i.size = 1024 := by simpa using hsz
    simp [Instr.storeAt, Instr.sureAddr, storeVar, sizeOf, typeInfo, hi, Value.cells, hl, hz, hst]
theorem wpList_stK {ops : Array Oper} {rest : List Oper} {o : Oper} {a : Act} {Q : Exit → Act → World → Prop} (hgd : o.guard = none) (x y : Operand) (ho : o.op = .store 59 x y) (g off : Nat) (f : Nat → Int) (cur : Array Value) (hx : a.eval x = .pointer (some ⟨g, off, none⟩)) (hy : a.eval y = .agg (blk f)) (hg : w.heap[g]? = some (.cells cur 59)) (hfit : off + 1024 ≤ cur.size)
    (h : wpList Try.prog ops Q rest (a.put o.dst undef) (w.setRow g (putE cur off (enK f)))) : wpList Try.prog ops Q (o :: rest) a w :=
  wpList_plain hgd fun _ hK => by
    have hr := storeK (f := f) hg hfit
    unfold Oper.wp execOp
    simp only [ho, hx, hy, Sem.run_bind, hr, Result.andThen_ok, Sem.run_pure]
    exact hK _ _ h
theorem RDk.putNow (h : RDk w R n s) {i : Nat} (hi : i < n) (f : Nat → Int) : ∃ cur, w.heap[R.pn]? = some (.cells cur 59) ∧ i * 1024 + 1024 ≤ cur.size ∧ RDk (w.setRow R.pn (putE cur (i * 1024) (enK f))) R n { s with now := s.now.set i f } := by
  obtain ⟨cur, hg, hfit, hst⟩ := own_set (x := f) (i := i) lenK h.now h.ln hi
  refine ⟨cur, hg, hfit, (setRow_other w R.pn R.g _ (Ne.symm h.gn)).trans h.row, hst, own_other h.held (fun q => by injection q with q; exact h.ne q.symm) _, h.ne, ?_, h.lh⟩
  show (s.now.set i f).length = n
  rw [List.length_set]; exact h.ln
theorem RDk.putHeld (h : RDk w R n s) {i : Nat} (hi : i < n) (f : Nat → Int) : ∃ cur, w.heap[R.ph]? = some (.cells cur 59) ∧ i * 1024 + 1024 ≤ cur.size ∧ RDk (w.setRow R.ph (putE cur (i * 1024) (enK f))) R n { s with held := s.held.set i f } := by
  obtain ⟨cur, hg, hfit, hst⟩ := own_set (x := f) (i := i) lenK h.held h.lh hi
  refine ⟨cur, hg, hfit, (setRow_other w R.ph R.g _ (Ne.symm h.gh)).trans h.row, own_other h.now (fun q => by injection q with q; exact h.ne q) _, hst, h.ne, h.ln, ?_⟩
  show (s.held.set i f).length = n
  rw [List.length_set]; exact h.lh
theorem RDk.drew (h : RDk w R n s) : RDk w.drew R n s := h.kept fun _ _ => rfl
theorem RDk.atNow (h : RDk w R n s) {i : Nat} {f : Nat → Int} (hx : s.now[i]? = some f) : BlkAt w R.pn (i * 1024) f := own_get lenK h.now hx
theorem RDk.atHeld (h : RDk w R n s) {i : Nat} {f : Nat → Int} (hx : s.held[i]? = some f) : BlkAt w R.ph (i * 1024) f := own_get lenK h.held hx
theorem ltV_now (s : RD) : (ltV s).now = s.now := by unfold ltV; split <;> rfl
theorem ltV_held (s : RD) : (ltV s).held = s.held := by unfold ltV; split <;> rfl
/-- Write. -/
def wtE (n : Nat) (s : RD) (k : Int) : Int := if wrE n s k = 0 then (if ltB s then 0 else 3) else wrE n s k
def wtV (n : Nat) (s : RD) (k : Int) (f : Nat → Int) : RD := if wrE n s k = 0 then (if ltB s then { ltV s with now := s.now.set k.toNat f } else ltV s) else s
structure Small (s : RD) : Prop where
  fuse : -9223372036854775808 ≤ s.fuse ∧ s.fuse ≤ 9223372036854775807
  made : 0 ≤ s.made ∧ s.made < 9223372036854775807
theorem wrE_zero {k : Int} (h : wrE n s k = 0) : 0 ≤ k ∧ k < n := by
  unfold wrE at h
  split at h
  · omega
  · split at h
    · assumption
    · omega
set_option maxRecDepth 20000 in
set_option maxHeartbeats 1000000 in
theorem write6 (h : RDk w R n s) (hs : Small s) (k : Int) (f : Nat → Int) : Calls Try.prog 43 #[.pointer (some ⟨R.g, 0, none⟩), .int .i64 k, .agg (blk f)] w fun e w' => e = .returned (.int .i64 (wtE n s k)) ∧ RDk w' R n (wtV n s k f) ∧ Fr R.has w w' := by
  have hb0 := below_new w (.cells (blk f) 59)
  have h1 := h.later hb0
  have HF0 : Hid (Fr R.has w (w.alloc (.cells (blk f) 59))) := Fr.ofBelow hb0
  have hW := wrong6 h1 k
  have HL := hidd (lets6 h1 hs.fuse hs.made)
  have hg0 := heap_alloc_new w (.cells (blk f) 59)
  have hlt := fun k (hk : R.has k) => h.lt hk
  have hsz : w.heap.size < (w.alloc (.cells (blk f) 59)).heap.size := by simp
  clear h hb0
  unfold wtE wtV
  by_cases hz : wrE n s k = 0
  · rw [if_pos hz, if_pos hz]
    rw [hz] at hW
    obtain ⟨hk0, hkn⟩ := wrE_zero hz
    obtain ⟨i, rfl⟩ : ∃ i : Nat, k = i := ⟨k.toNat, by omega⟩
    clear hz h1
    cases hl : ltB s
    · rw [hl] at HL
      simp only [Bool.false_eq_true, if_false]
      go_enter Try.func43, Try.ntmps43
      go_wp2_with (first | (go_at_call 59; refine hW.mono ?_; rintro e W ⟨rfl, rfl⟩) | (go_at_call 52; fail))
      refine HL.out.mono ?_
      rintro e W ⟨rfl, hD, hF⟩
      have HD := hidd hD
      have HF2 := hidd (HF0.out.trans (hF.mono fun k _ (q : k = R.g) => .inl q) fun _ _ q => q)
      clear hD hF HF0 HL hW
      go_wp2
      go_ret
      exact ⟨rfl, HD.out, HF2.out⟩
    · rw [hl] at HL
      simp only [if_true]
      go_enter Try.func43, Try.ntmps43
      go_wp2_with (first | (go_at_call 59; refine hW.mono ?_; rintro e W ⟨rfl, rfl⟩) | (go_at_call 52; fail))
      refine HL.out.mono ?_
      rintro e W ⟨rfl, hD, hF⟩
      have hB : BlkAt W w.heap.size 0 f := BlkAt.of ((hF.block w.heap.size hsz fun q => by have := hlt R.g (.inl rfl); omega).trans hg0)
      have HF2 := hidd ((HF0.out.trans (hF.mono fun k _ (q : k = R.g) => .inl q) fun _ _ q => q).trans (Fr.drew (T := R.has) W) fun _ _ q => q)
      have c0 : W.cell? ⟨R.g, 0, none⟩ = some (.slice (some ⟨R.pn, 0, none⟩) n R.cn) := hD.cell 0
      obtain ⟨cur, hrow, hfit, hst⟩ := hD.drew.putNow (i := i) (by omega) f
      rw [ltV_now] at hst
      have HD := hidd hst
      have HF3 := hidd (HF2.out.trans ((Fr.setRow W.drew R.pn (putE cur (i * 1024) (enK f))).mono fun k _ (q : k = R.pn) => (.inr (.inl q) : R.has k)) fun _ _ q => q)
      clear hD hF HF0 HL hW hst hg0 hsz hlt HF2
      generalize w.heap.size = g0 at *
      go_wp2
      go_still_tail 7, (by kernel_rfl)
      refine wpStill_loadM rfl _ rfl g0 0 rfl f hB ?_
      repeat still_step
      refine wpStill_nil ?_
      change wpList _ _ _ _ _ (World.drew _)
      refine wpList_stK rfl _ _ rfl R.pn (i * 1024) f cur rfl rfl hrow hfit ?_
      go_wp2
      go_ret
      exact ⟨rfl, HD.out, HF3.out⟩
  · rw [if_neg hz, if_neg hz]
    have HD := hidd h1
    have hne : (wrE n s k != 0) = true := by simp [hz]
    clear h1
    generalize wrE n s k = r at *
    go_enter Try.func43, Try.ntmps43
    go_wp2_with (first | (go_at_call 59; refine hW.mono ?_; rintro e W ⟨rfl, rfl⟩))
    go_ret
    exact ⟨rfl, HD.out, HF0.out⟩
end Go.Proofs.Ytencclpcebpgmaa
/- The document's disk of the cache's chapter: Barrier, Crash; disks of at least one block. -/
namespace Go.Proofs.Ytencclpcebpgmaa
open Go.RowKit Go.Maps
variable {w w' : World} {R : RL} {n : Nat} {s : RD}
/-- The first i of one list, then the other's. -/
def mixL {α : Type} (a b : List α) (i : Nat) : List α := a.take i ++ b.drop i
theorem mixL_zero {α : Type} (a b : List α) : mixL a b 0 = b := by simp [mixL]
theorem mixL_full {α : Type} (a b : List α) {n : Nat} (ha : a.length = n) (hb : b.length = n) : mixL a b n = a := by
  unfold mixL
  rw [List.take_of_length_le (by omega), List.drop_of_length_le (by omega), List.append_nil]
theorem mixL_set {α : Type} (a b : List α) {i : Nat} {x : α} (hb : i < b.length) (hx : a[i]? = some x) : (mixL a b i).set i x = mixL a b (i + 1) := by
  obtain ⟨hi, e⟩ := List.getElem?_eq_some_iff.1 hx
  have hl : (a.take i).length = i := by rw [List.length_take]; omega
  unfold mixL
  rw [List.set_append_right _ _ (by rw [hl]; exact Nat.le_refl _), hl, Nat.sub_self, List.drop_eq_getElem_cons hb, List.set_cons_zero, List.take_add_one, hx]
  simp
def brE (s : RD) : Int := if s.stopped then 3 else if ltB s then 0 else 3
def brV (s : RD) : RD := if s.stopped then s else if ltB s then { ltV s with held := s.now } else ltV s
/-- The loop so far. -/
structure BrI (w0 : World) (R : RL) (n : Nat) (s : RD) (i : Nat) (w : World) : Prop where
  dk : RDk w R n { s with held := mixL s.now s.held i }
  fr : Fr R.has w0 w
  lh : s.held.length = n
theorem BrI.next {w0 : World} {i : Nat} (h : BrI w0 R n s i w) (hi : i < n) : ∃ f cur, BlkAt w R.pn (i * 1024) f ∧ w.drew.heap[R.ph]? = some (.cells cur 59) ∧ i * 1024 + 1024 ≤ cur.size ∧ BrI w0 R n s (i + 1) (w.drew.setRow R.ph (putE cur (i * 1024) (enK f))) := by
  have hln : s.now.length = n := h.dk.ln
  obtain ⟨f, hx⟩ : ∃ f, s.now[i]? = some f := ⟨_, List.getElem?_eq_getElem (by omega)⟩
  obtain ⟨cur, hg, hfit, hst⟩ := h.dk.drew.putHeld hi f
  refine ⟨f, cur, h.dk.atNow hx, hg, hfit, ?_, ?_, h.lh⟩
  · have e : ({ s with held := (mixL s.now s.held i).set i f } : RD) = { s with held := mixL s.now s.held (i + 1) } := by rw [mixL_set _ _ (by rw [h.lh]; exact hi) hx]
    rw [← e]
    exact hst
  · exact (h.fr.trans (Fr.drew (T := R.has) w) fun _ _ q => q).trans ((Fr.setRow _ R.ph _).mono fun k _ (q : k = R.ph) => (.inr (.inr q) : R.has k)) fun _ _ q => q
theorem BrI.last {w0 : World} (h : BrI w0 R n s n w) : RDk w R n { s with held := s.now } := by
  have e : mixL s.now s.held n = s.now := mixL_full _ _ h.dk.ln h.lh
  have := h.dk
  rwa [e] at this
set_option maxRecDepth 20000 in
set_option maxHeartbeats 1000000 in
theorem barrier6 (h : RDk w R n s) (hs : Small s) (hn : n ≤ 1000000) : Calls Try.prog 23 #[.pointer (some ⟨R.g, 0, none⟩)] w fun e w' => e = .returned (.int .i64 (brE s)) ∧ RDk w' R n (brV s) ∧ Fr R.has w w' := by
  have c3 : w.cell? ⟨R.g, 3, none⟩ = some (.bool s.stopped) := h.cell 3
  have HL := hidd (lets6 h hs.fuse hs.made)
  have HD0 := hidd h
  clear h
  unfold brE brV
  cases hst : s.stopped
  · rw [hst] at c3
    simp only [Bool.false_eq_true, if_false]
    cases hl : ltB s
    · rw [hl] at HL
      simp only [Bool.false_eq_true, if_false]
      go_enter Try.func23, Try.ntmps23
      go_wp2_with (go_at_call 52; fail)
      refine HL.out.mono ?_
      rintro e W ⟨rfl, hD, hF⟩
      have HD := hidd hD
      have HF2 := hidd (hF.mono fun k _ (q : k = R.g) => (.inl q : R.has k))
      clear hD hF HL HD0
      go_wp2
      go_ret
      exact ⟨rfl, HD.out, HF2.out⟩
    · rw [hl] at HL
      simp only [if_true]
      rw [← ltV_now s]
      generalize ltV s = t at *
      go_enter Try.func23, Try.ntmps23
      go_wp2_with (go_at_call 52; fail)
      refine HL.out.mono ?_
      rintro e W ⟨rfl, hD, hF⟩
      have HI : Hid (BrI w R n t 0 W) := ⟨by rw [mixL_zero]; exact hD, hF.mono fun k _ (q : k = R.g) => (.inl q : R.has k), hD.lh⟩
      clear hD hF HL HD0 c3
      go_wp2
      go_loopw [4] (fun s4 wx => ∃ i : Nat, i ≤ n ∧ s4 = .int .i64 i ∧ Hid (BrI w R n t i wx)) (fun s4 _ => n - (intOf s4).toNat)
      case atStart => exact ⟨0, by omega, rfl, HI.out⟩
      case round =>
        obtain ⟨i, hi, rfl, HX⟩ := hrel
        clear HI
        have c0 : wr.cell? ⟨R.g, 0, none⟩ = some (.slice (some ⟨R.pn, 0, none⟩) n R.cn) := HX.out.dk.cell 0
        have c1 : wr.cell? ⟨R.g, 1, none⟩ = some (.slice (some ⟨R.ph, 0, none⟩) n R.ch) := HX.out.dk.cell 1
        by_cases hi2 : (i : Int) < n
        · obtain ⟨f, cur, hB, hrow, hfit, hnx⟩ := HX.out.next (by omega)
          have HN := hidd hnx
          clear hnx HX
          go_wp2
          go_still_tail 13, (by kernel_rfl)
          refine wpStill_loadM rfl _ rfl R.pn (i * 1024) rfl f hB ?_
          repeat still_step
          refine wpStill_nil ?_
          change wpList _ _ _ _ _ (World.drew _)
          refine wpList_stK rfl _ _ rfl R.ph (i * 1024) f cur rfl rfl hrow hfit ?_
          go_wp2
          exact ⟨⟨i + 1, by omega, by go_num, HN.out⟩, by simp [intOf]; omega⟩
        · obtain rfl : i = n := by omega
          have HE := hidd HX.out.last
          have HF := hidd HX.out.fr
          clear HX
          go_wp2
          go_ret
          exact ⟨rfl, HE.out, HF.out⟩
  · rw [hst] at c3
    simp only [if_true]
    clear HL
    go_enter Try.func23, Try.ntmps23
    go_wp2
    go_ret
    exact ⟨rfl, HD0.out, Fr.refl _ _⟩
/-- Crash. -/
def crV (s : RD) : RD := { s with now := s.held, stopped := false, fuse := -1 }
structure CrI (w0 : World) (R : RL) (n : Nat) (s : RD) (i : Nat) (w : World) : Prop where
  dk : RDk w R n { s with now := mixL s.held s.now i }
  fr : Fr R.has w0 w
  ln : s.now.length = n
theorem CrI.next {w0 : World} {i : Nat} (h : CrI w0 R n s i w) (hi : i < n) : ∃ f cur, BlkAt w R.ph (i * 1024) f ∧ w.drew.heap[R.pn]? = some (.cells cur 59) ∧ i * 1024 + 1024 ≤ cur.size ∧ CrI w0 R n s (i + 1) (w.drew.setRow R.pn (putE cur (i * 1024) (enK f))) := by
  have hlh : s.held.length = n := h.dk.lh
  obtain ⟨f, hx⟩ : ∃ f, s.held[i]? = some f := ⟨_, List.getElem?_eq_getElem (by omega)⟩
  obtain ⟨cur, hg, hfit, hst⟩ := h.dk.drew.putNow hi f
  refine ⟨f, cur, h.dk.atHeld hx, hg, hfit, ?_, ?_, h.ln⟩
  · have e : ({ s with now := (mixL s.held s.now i).set i f } : RD) = { s with now := mixL s.held s.now (i + 1) } := by rw [mixL_set _ _ (by rw [h.ln]; exact hi) hx]
    rw [← e]
    exact hst
  · exact (h.fr.trans (Fr.drew (T := R.has) w) fun _ _ q => q).trans ((Fr.setRow _ R.pn _).mono fun k _ (q : k = R.pn) => (.inr (.inl q) : R.has k)) fun _ _ q => q
theorem CrI.last {w0 : World} (h : CrI w0 R n s n w) : RDk w R n { s with now := s.held } := by
  have e : mixL s.held s.now n = s.held := mixL_full _ _ h.dk.lh h.ln
  have := h.dk
  rwa [e] at this
theorem RDk.calm (h : RDk w R n { s with now := s.held }) : RDk ((w.setCell ⟨R.g, 3, none⟩ (.bool false)).setCell ⟨R.g, 2, none⟩ (.int .i64 (-1))) R n (crV s) :=
  (h.set (j := 3) (u := .bool false) (s' := { s with now := s.held, stopped := false }) rfl rfl rfl).set (j := 2) (u := .int .i64 (-1)) (s' := crV s) rfl rfl rfl
set_option maxRecDepth 20000 in
set_option maxHeartbeats 1000000 in
theorem crash6 (h : RDk w R n s) (hn : n ≤ 1000000) : Calls Try.prog 33 #[.pointer (some ⟨R.g, 0, none⟩)] w fun e w' => e = .returned (.tuple #[]) ∧ RDk w' R n (crV s) ∧ Fr R.has w w' := by
  have HI : Hid (CrI w R n s 0 w) := ⟨by rw [mixL_zero]; exact h, Fr.refl _ _, h.ln⟩
  clear h
  go_enter Try.func33, Try.ntmps33
  go_wp2
  go_loopw [2] (fun s2 wx => ∃ i : Nat, i ≤ n ∧ s2 = .int .i64 i ∧ Hid (CrI w R n s i wx)) (fun s2 _ => n - (intOf s2).toNat)
  case atStart => exact ⟨0, by omega, rfl, HI.out⟩
  case round =>
    obtain ⟨i, hi, rfl, HX⟩ := hrel
    clear HI
    have c0 : wr.cell? ⟨R.g, 0, none⟩ = some (.slice (some ⟨R.pn, 0, none⟩) n R.cn) := HX.out.dk.cell 0
    have c1 : wr.cell? ⟨R.g, 1, none⟩ = some (.slice (some ⟨R.ph, 0, none⟩) n R.ch) := HX.out.dk.cell 1
    by_cases hi2 : (i : Int) < n
    · obtain ⟨f, cur, hB, hrow, hfit, hnx⟩ := HX.out.next (by omega)
      have HN := hidd hnx
      clear hnx HX
      go_wp2
      go_still_tail 13, (by kernel_rfl)
      refine wpStill_loadM rfl _ rfl R.ph (i * 1024) rfl f hB ?_
      repeat still_step
      refine wpStill_nil ?_
      change wpList _ _ _ _ _ (World.drew _)
      refine wpList_stK rfl _ _ rfl R.pn (i * 1024) f cur rfl rfl hrow hfit ?_
      go_wp2
      exact ⟨⟨i + 1, by omega, by go_num, HN.out⟩, by simp [intOf]; omega⟩
    · obtain rfl : i = n := by omega
      have hl := HX.out.last
      have HE := hidd hl.calm
      have c2 : wr.cell? ⟨R.g, 2, none⟩ = some (.int .i64 s.fuse) := hl.cell 2
      have c3 : wr.cell? ⟨R.g, 3, none⟩ = some (.bool s.stopped) := hl.cell 3
      have f2 := hl.free 2
      have f3 := hl.free 3
      have HF := hidd ((HX.out.fr.trans ((Fr.setCell wr R.g 3 (.bool false)).mono fun k _ (q : k = R.g) => (.inl q : R.has k)) fun _ _ q => q).trans ((Fr.setCell _ R.g 2 (.int .i64 (-1))).mono fun k _ (q : k = R.g) => (.inl q : R.has k)) fun _ _ q => q)
      clear HX hl
      go_wp2
      exact ⟨rfl, _, results_none rfl _ _ _, rfl, HE.out, HF.out⟩
end Go.Proofs.Ytencclpcebpgmaa
/- The document's cache in memory: its row, its list of what is held, the oldest first; find, Fast; lists up to a million. -/
namespace Go.Proofs.Ytencclpcebpgmaa
open Go.RowKit Go.Maps
def enH (h : Hld) : List Value := .int .i64 h.pos :: (enK h.dat ++ [.bool h.fast])
theorem lenH (h : Hld) : (enH h).length = 1026 := by unfold enH; rw [List.length_cons, List.length_append, lenK]; rfl
theorem oneH (h : Hld) : ∀ u ∈ enH h, u.oneCell' = true := fun u hu => by
  unfold enH at hu
  rcases List.mem_cons.1 hu with rfl | hu
  · rfl
  · rcases List.mem_append.1 hu with hu | hu
    · exact oneK _ u hu
    · obtain rfl : u = .bool h.fast := by simpa using hu
      rfl
theorem enH_pos (h : Hld) : (enH h)[0]? = some (.int .i64 h.pos) := rfl
theorem enH_fast (h : Hld) : (enH h)[1025]? = some (.bool h.fast) := by
  unfold enH
  rw [List.getElem?_cons_succ, List.getElem?_append_right (by rw [lenK]; exact Nat.le_refl _), lenK]
  rfl
theorem enH_dat (h : Hld) (j : Nat) (v : Value) (hv : (enK h.dat)[j]? = some v) : (enH h)[1 + j]? = some v := by
  have := (List.getElem?_eq_some_iff.1 hv).1
  unfold enH
  rw [Nat.add_comm, List.getElem?_cons_succ, List.getElem?_append_left this]
  exact hv
/-- A cache of the document's at block g, over the disk at block d; v is its list. -/
structure RCk (w : World) (g d : Nat) (v : Value) (s : CSt) : Prop where
  row : w.heap[g]? = some (.cells #[ptr d, .int .i64 s.size, v] 101)
  own : w.ownsRow 0 103 1026 v s.row.length (s.row.flatMap enH)
def rcHas (g : Nat) (v : Value) (k : Nat) : Prop := k = g ∨ v.ownBlock = some k
variable {w w' : World} {g d : Nat} {v : Value} {s : CSt}
theorem RCk.kept (h : RCk w g d v s) (hb : ∀ k, rcHas g v k → w'.heap[k]? = w.heap[k]?) : RCk w' g d v s := ⟨(hb _ (.inl rfl)).trans h.row, ownsRow_kept0 h.own fun k hk => hb k (.inr hk)⟩
theorem RCk.lt (h : RCk w g d v s) {k : Nat} (hk : rcHas g v k) : k < w.heap.size := by
  rcases hk with rfl | hk
  · exact (Array.getElem?_eq_some_iff.1 h.row).1
  · exact (h.own.lt _ hk).2
theorem RCk.later (h : RCk w g d v s) (hb : Below w.heap.size w w') : RCk w' g d v s := h.kept fun k hk => hb.block k (h.lt hk)
theorem RCk.drew (h : RCk w g d v s) : RCk w.drew g d v s := h.kept fun _ _ => rfl
theorem RCk.cell (h : RCk w g d v s) (i : Nat) : w.cell? ⟨g, i, none⟩ = (#[ptr d, .int .i64 s.size, v] : Array Value)[i]? := Joins.cell_of_block h.row i
theorem RCk.free (h : RCk w g d v s) (i : Nat) : w.frozen? ⟨g, i, none⟩ = false := Joins.unfrozen_of_block h.row i
/-- What it holds at place i. -/
structure AtH (w : World) (b i : Nat) (x : Hld) : Prop where
  pos : w.cell? ⟨b, i * 1026, none⟩ = some (.int .i64 x.pos)
  fast : w.cell? ⟨b, i * 1026 + 1025, none⟩ = some (.bool x.fast)
  dat : BlkAt w b (i * 1026 + 1) x.dat
set_option maxRecDepth 20000 in
theorem RCk.at (h : RCk w g d v s) {i : Nat} {x : Hld} (hx : s.row[i]? = some x) : ∃ b c, v = .slice (some ⟨b, 0, none⟩) s.row.length c ∧ AtH w b i x := by
  have hi := (List.getElem?_eq_some_iff.1 hx).1
  rcases own_form h.own with ⟨_, q⟩ | ⟨b, c, hv, _⟩
  · omega
  · have ho := h.own
    rw [hv] at ho
    have hc := own_get lenH ho hx
    have h0 := hc 0 _ (enH_pos x)
    rw [Nat.add_zero] at h0
    refine ⟨b, c, hv, h0, hc 1025 _ (enH_fast x), fun j u hu => ?_⟩
    have := hc (1 + j) u (enH_dat x j u hu)
    rwa [← Nat.add_assoc] at this
/-- The list's value. -/
theorem RCk.shape (h : RCk w g d v s) : ∃ p c, v = .slice p s.row.length c := by
  rcases own_form h.own with ⟨hv, q⟩ | ⟨b, c, hv, _⟩
  · exact ⟨none, 0, by rw [hv, q]⟩
  · exact ⟨_, c, hv⟩
/-- Where a number lies in it. -/
def idxR (r : List Hld) (k : Int) : Int := if r.findIdx (fun h => h.pos == k) < r.length then (r.findIdx (fun h => h.pos == k) : Int) else -1
theorem findIdx_at {r : List Hld} {k : Int} {i : Nat} {x : Hld} (hx : r[i]? = some x) (hk : x.pos = k) (hb : ∀ j y, j < i → r[j]? = some y → y.pos ≠ k) : r.findIdx (fun h => h.pos == k) = i := by
  obtain ⟨hi, e⟩ := List.getElem?_eq_some_iff.1 hx
  rw [List.findIdx_eq hi]
  refine ⟨by rw [e]; simp [hk], fun j hj => ?_⟩
  have := hb j _ hj (List.getElem?_eq_getElem (by omega))
  simpa using this
theorem findIdx_no {r : List Hld} {k : Int} (hb : ∀ j y, j < r.length → r[j]? = some y → y.pos ≠ k) : r.findIdx (fun h => h.pos == k) = r.length := by
  rw [List.findIdx_eq_length]
  intro x hx
  obtain ⟨j, hj, e⟩ := List.mem_iff_getElem.1 hx
  have := hb j x hj (by rw [List.getElem?_eq_getElem hj, e])
  simpa using this
set_option maxRecDepth 20000 in
set_option maxHeartbeats 1000000 in
theorem find6 (h : RCk w g d v s) (k : Int) (hn : s.row.length ≤ 1000000) : Calls Try.prog 60 #[.pointer (some ⟨g, 0, none⟩), .int .i64 k] w fun e w' => e = .returned (.int .i64 (idxR s.row k)) ∧ w' = w := by
  have c2 : w.cell? ⟨g, 2, none⟩ = some v := h.cell 2
  obtain ⟨p, c, hv⟩ := h.shape
  have HR : Hid (∀ i x, s.row[i]? = some x → ∃ b, p = some ⟨b, 0, none⟩ ∧ AtH w b i x) := fun i x hx => by
    obtain ⟨b, c', hv', ha⟩ := h.at hx
    rw [hv] at hv'
    injection hv' with q1
    exact ⟨b, q1, ha⟩
  subst hv
  clear h
  generalize hr : s.row = r at *
  go_enter Try.func60, Try.ntmps60
  go_wp2
  go_loopw [5] (fun s5 wx => ∃ i : Nat, i ≤ r.length ∧ s5 = .int .i64 i ∧ wx = w ∧ Hid (∀ j y, j < i → r[j]? = some y → y.pos ≠ k)) (fun s5 _ => r.length - (intOf s5).toNat)
  case atStart => exact ⟨0, by omega, rfl, rfl, fun j y hj _ => by omega⟩
  case round =>
    obtain ⟨i, hi, rfl, rfl, HN⟩ := hrel
    by_cases hi2 : i < r.length
    · obtain ⟨x, hx⟩ : ∃ x, r[i]? = some x := ⟨_, List.getElem?_eq_getElem hi2⟩
      obtain ⟨b, rfl, ha⟩ := HR.out i x hx
      have hi3 : (i : Int) < r.length := by omega
      have hp := ha.pos
      clear ha
      by_cases hk : x.pos = k
      · have HE : Hid (idxR r k = i) := by
          unfold idxR Hid
          rw [findIdx_at hx hk HN.out, if_pos hi2]
        rw [hk] at hp
        clear HR HN hk hx
        go_wp2
        go_ret
        exact ⟨by rw [HE.out]; rfl, rfl⟩
      · have HN2 : Hid (∀ j y, j < i + 1 → r[j]? = some y → y.pos ≠ k) := fun j y hj hy => by
          by_cases q : j = i
          · rw [q, hx] at hy
            injection hy with hy
            rw [← hy]
            exact hk
          · exact HN.out j y (by omega) hy
        clear HR HN hx
        generalize x.pos = z at *
        go_wp2
        exact ⟨⟨i + 1, by omega, by go_num, trivial, HN2.out⟩, by simp [intOf]; omega⟩
    · obtain rfl : i = r.length := by omega
      have HE : Hid (idxR r k = -1) := by
        unfold idxR Hid
        rw [findIdx_no HN.out, if_neg (by omega)]
      clear HR HN
      go_wp2
      go_ret
      exact ⟨by rw [HE.out]; rfl, rfl⟩
set_option maxRecDepth 20000 in
set_option maxHeartbeats 1000000 in
theorem fast6 (h : RCk w g d v s) (hn : s.row.length ≤ 1000000) : Calls Try.prog 28 #[.pointer (some ⟨g, 0, none⟩)] w fun e w' => e = .returned (.int .i64 (fastN s.row : Int)) ∧ w' = w := by
  have c2 : w.cell? ⟨g, 2, none⟩ = some v := h.cell 2
  obtain ⟨p, c, hv⟩ := h.shape
  have HR : Hid (∀ i x, s.row[i]? = some x → ∃ b, p = some ⟨b, 0, none⟩ ∧ AtH w b i x) := fun i x hx => by
    obtain ⟨b, c', hv', ha⟩ := h.at hx
    rw [hv] at hv'
    injection hv' with q1
    exact ⟨b, q1, ha⟩
  subst hv
  clear h
  generalize hr : s.row = r at *
  go_enter Try.func28, Try.ntmps28
  go_wp2
  go_loopw [3, 4] (fun s3 s4 wx => ∃ i m : Nat, i ≤ r.length ∧ m ≤ i ∧ s4 = .int .i64 i ∧ s3 = .int .i64 m ∧ wx = w ∧ Hid (fastN (r.take i) = m)) (fun _ s4 _ => r.length - (intOf s4).toNat)
  case atStart => exact ⟨0, 0, by omega, by omega, rfl, rfl, rfl, rfl⟩
  case round =>
    obtain ⟨i, m, hi, hm, rfl, rfl, rfl, HN⟩ := hrel
    by_cases hi2 : i < r.length
    · obtain ⟨x, hx⟩ : ∃ x, r[i]? = some x := ⟨_, List.getElem?_eq_getElem hi2⟩
      obtain ⟨b, rfl, ha⟩ := HR.out i x hx
      have hi3 : (i : Int) < r.length := by omega
      have hp := ha.fast
      have HN2 : Hid (fastN (r.take (i + 1)) = m + (if x.fast then 1 else 0)) := by
        have := HN.out
        unfold fastN Hid at *
        rw [List.take_add_one, hx, List.countP_append, this]
        simp [List.countP_cons]
      clear ha HR HN hx
      cases hb : x.fast
      · rw [hb] at hp HN2
        clear hb
        go_wp2
        exact ⟨⟨i + 1, m, by omega, by omega, by go_num, rfl, trivial, HN2.out⟩, by simp [intOf]; omega⟩
      · rw [hb] at hp HN2
        clear hb
        go_wp2
        exact ⟨⟨i + 1, m + 1, by omega, by omega, by go_num, by go_num, trivial, HN2.out⟩, by simp [intOf]; omega⟩
    · obtain rfl : i = r.length := by omega
      have hN := HN.out
      rw [List.take_length] at hN
      have HE := hidd hN
      clear HR HN hN
      go_wp2
      go_ret
      exact ⟨by rw [HE.out]; rfl, rfl⟩
end Go.Proofs.Ytencclpcebpgmaa
