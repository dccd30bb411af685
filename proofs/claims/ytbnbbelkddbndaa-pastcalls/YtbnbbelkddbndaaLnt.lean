/- Lists that are copied, and lent with marks behind them; each of at most a million. -/
import Derived.Test.YtbnbbelkddbndaaApH
import Derived.Test.YtbnbbelkddbndaaSameO
namespace Go.Proofs.Ytbnbbelkddbndaa
open Go.RowKit Go.Maps
section
variable {α : Type} {en : α → List Value} {sz e : Nat}
/-- A list lies somewhere. -/
def LiesE (en : α → List Value) (sz : Nat) (w : World) (p : Option Addr) (l : List α) : Prop := 0 < l.length → ∃ b off, p = some ⟨b, off, none⟩ ∧ b < w.heap.size ∧ ∀ k x, l[k]? = some x → ∀ j v, (en x)[j]? = some v → w.cell? ⟨b, off + k * sz + j, none⟩ = some v
theorem LiesE.cells (hr : ∀ x, (en x).length = sz) (hsz : 0 < sz) {w : World} {b off : Nat} {l : List α} (h : ∀ k x, l[k]? = some x → ∀ j v, (en x)[j]? = some v → w.cell? ⟨b, off + k * sz + j, none⟩ = some v) : ∀ j v, (l.flatMap en)[j]? = some v → w.cell? ⟨b, off + j, none⟩ = some v := fun j v hv => by
  have hj := (List.getElem?_eq_some_iff.1 hv).1
  rw [fml hr] at hj
  have hk : j / sz < l.length := (Nat.div_lt_iff_lt_mul hsz).2 hj
  have hm : j % sz < sz := Nat.mod_lt _ hsz
  have hdm : j / sz * sz + j % sz = j := Nat.div_add_mod' j sz
  have h1 : l[j / sz]? = some (l[j / sz]'hk) := List.getElem?_eq_getElem hk
  have h2 := fm_get (row := en) (n := sz) hr l (j / sz) (j % sz) _ h1 hm
  rw [hdm, hv] at h2
  have := h (j / sz) _ h1 (j % sz) v h2.symm
  rwa [show off + j / sz * sz + j % sz = off + (j / sz * sz + j % sz) by omega, hdm] at this
theorem append_copy {st : TypeId} {i : TypeInfo} {z : Value} {bytes : Nat} (hr : ∀ x, (en x).length = sz) (h1 : ∀ x, ∀ u ∈ en x, u.oneCell' = true) (ht : Try.prog.underlying st = some (.slice e)) (hi : Try.prog.info? e = some i) (hz : i.zero = some z) (hsize : i.size = sz) (hby : i.bytes = bytes) (hzs : z.cells.size = sz) (hsz : 0 < sz) (hbb : bytes ≤ 2000)
    {W : World} {p : Option Addr} {c : Nat} {l : List α} (hl : LiesE en sz W p l) (hn : l.length ≤ 1000000) (ty : TypeId) :
    ∃ v' w', (Builtin.append_ #[st, st] ty #[.slice none 0 0, .slice p l.length c]).run Try.prog W = .ok v' w' ∧ w'.ownsRow W.heap.size e sz v' l.length (l.flatMap en) ∧ Below W.heap.size W w' := by
  have hbt : ((0 + l.length) + (0 + l.length) / 4 + 192) * bytes ≤ 281474976710656 := by
    have : ((0 + l.length) + (0 + l.length) / 4 + 192) * bytes ≤ 1250192 * 2000 := Nat.mul_le_mul (by omega) hbb
    omega
  have key : ∀ ad : Addr, p = some ad → (∀ j u, (l.flatMap en)[j]? = some u → W.cell? (ad.add j) = some u) → ∃ v' w', (Builtin.append_ #[st, st] ty #[.slice none 0 0, .slice p l.length c]).run Try.prog W = .ok v' w' ∧ w'.ownsRow W.heap.size e sz v' l.length (l.flatMap en) ∧ Below W.heap.size W w' := fun ad hp hc => by
    subst hp
    obtain ⟨v', w', hrun, h2, hg, _⟩ := run_append_own_wide (P := Try.prog) W W.heap.size st ty e i z sz bytes ht hi hz hsize hby hzs hsz (.slice none 0 0) 0 [] (World.ownsRow_nil _ _ _ _) ad l.length c (l.flatMap en) (fml hr l) hc (fun u hu => by
      obtain ⟨x, _, hx⟩ := List.mem_flatMap.1 hu
      exact h1 x u hx) (by unfold maxLen; omega) hbt (Nat.le_refl _)
    refine ⟨v', w', hrun, by simpa using h2, (Below.refl _ _).grown hg (Nat.le_refl _) fun k hk => by cases hk⟩
  by_cases h0 : 0 < l.length
  · obtain ⟨b, off, hp, _, hc⟩ := hl h0
    exact key _ hp fun j u hu => by
      rw [Go.WideShapes.add_plain]
      exact LiesE.cells hr hsz hc j u hu
  · have hl0 : l = [] := List.length_eq_zero_iff.1 (by omega)
    subst hl0
    cases p with
    | some ad => exact key ad rfl fun j u hu => by simp at hu
    | none =>
      refine ⟨.slice none 0 0, W, ?_, World.ownsRow_nil _ _ _ _, Below.refl _ _⟩
      simp [go_sem, run_underlying ht, sizeOf, typeInfo, hi]
theorem own_push {st : TypeId} {i : TypeInfo} {z : Value} {bytes : Nat} (hr : ∀ x, (en x).length = sz) (h1 : ∀ x, ∀ u ∈ en x, u.oneCell' = true) (ht : Try.prog.underlying st = some (.slice e)) (hi : Try.prog.info? e = some i) (hz : i.zero = some z) (hsize : i.size = sz) (hby : i.bytes = bytes) (hzs : z.cells.size = sz) (hsz : 0 < sz) (hbb : bytes ≤ 2000)
    {B : Nat} {w : World} {v : Value} {l : List α} (h : w.ownsRow B e sz v l.length (l.flatMap en)) (hB : B ≤ w.heap.size) (hn : l.length ≤ 10000000) (x : α) (ty : TypeId) :
    ∃ v' w', (Builtin.append_ #[st, st] ty #[v, .slice (some ⟨w.heap.size, 0, none⟩) 1 1]).run Try.prog (w.alloc (.cells (en x).toArray e)) = .ok v' w' ∧ w'.ownsRow B e sz v' (l ++ [x]).length ((l ++ [x]).flatMap en) ∧ Below B w w' := by
  have hnews : ∀ j v, (en x)[j]? = some v → (w.alloc (.cells (en x).toArray e)).cell? ((⟨w.heap.size, 0, none⟩ : Addr).add j) = some v := fun j v hv => by
    rw [Go.WideShapes.add_plain, Nat.zero_add, cell_of_row _ _ j _ e _ (heap_alloc_new w _), List.getElem?_toArray]
    exact hv
  have hbt : ((l.length + 1) + (l.length + 1) / 4 + 192) * bytes ≤ 281474976710656 := by
    have : ((l.length + 1) + (l.length + 1) / 4 + 192) * bytes ≤ 12500194 * 2000 := Nat.mul_le_mul (by omega) hbb
    omega
  obtain ⟨v', w', hrun, ho', hf, _⟩ := append_gen (W := w.alloc (.cells (en x).toArray e)) (v := v) ht hi hz hsize hby hzs hsz (World.ownsRow.alloc h (.cells (en x).toArray e)) (ad := ⟨w.heap.size, 0, none⟩) (m := 1) (c := 1) (news := en x) (by omega) (by rw [hr, Nat.one_mul]) hnews (h1 x) (by unfold maxLen; omega) hbt (by simp only [World.alloc, Array.size_push]; omega) ty
  have hF : Fr (fun b => v.ownBlock = some b) w w' := (Fr.alloc _ w (.cells (en x).toArray e)).trans hf fun _ _ q => q
  refine ⟨v', w', hrun, ?_, hF.below (fun j q => (h.lt j q).1) hB⟩
  rw [List.length_append, List.flatMap_append]
  simpa using ho'
theorem own_lies (hr : ∀ x, (en x).length = sz) {B : Nat} {w : World} {p : Option Addr} {c : Nat} {l : List α} (h : w.ownsRow B e sz (.slice p l.length c) l.length (l.flatMap en)) : LiesE en sz w p l := fun h0 => by
  rcases own_form h with ⟨_, q⟩ | ⟨g, c', q, hlt⟩
  · omega
  · injection q with q1 q2 q3
    subst q1
    exact ⟨g, 0, rfl, hlt, fun k x hx j v hv => by
      rw [Nat.zero_add]
      exact own_get hr h hx j v hv⟩
theorem own_slice {B n : Nat} {w : World} {v : Value} {xs : List Value} (h : w.ownsRow B e sz v n xs) : ∃ p c, v = .slice p n c ∧ (p = none → n = 0) := by
  rcases own_form h with ⟨q, r⟩ | ⟨g, c', q, hlt⟩
  · exact ⟨none, 0, by rw [q, r], fun _ => r⟩
  · exact ⟨_, c', q, fun q => by cases q⟩
end
theorem exec_pushY {o : Oper} {a : Act} {s y : Operand} {st : TypeId} {Y v v' : Value} {W W' : World} (ho : o.op = .call { callee := .builtin .append, args := #[s, y], argTypes := #[st, st] }) (hs : a.eval s = v) (hx : a.eval y = Y)
    (hr : (Builtin.append_ #[st, st] o.type #[v, Y]).run Try.prog W = .ok v' W') : (execOp a.eval o).run Try.prog W = .ok (.value v') W' := by
  simp [execOp, ho, resolve, invoke, builtin, hs, hx, hr, Result.andThen]
def mk7H (i : Nat) : Cel := (-1000 * 7 - (i : Int) - 7, nought)
/-- A list with the marks behind it. -/
def lentH (l : List Cel) : List Cel := l ++ mks mk7H 6
set_option maxRecDepth 20000 in
theorem copyH_any (l : List Cel) (p : Option Addr) (c : Nat) (w : World) (hn : l.length ≤ 1000000) (h : LiesE celRow 1025 w p l) :
    Calls Try.prog 18 #[.slice p l.length c] w fun e w' => ∃ v, e = .returned v ∧ w'.ownsRow w.heap.size 44 1025 v l.length (l.flatMap celRow) ∧ Below w.heap.size w w' := by
  obtain ⟨i0, hi0, hz0, hz1, hz2⟩ := info_parts info85
  obtain ⟨v', w', hr, ho, hb⟩ := append_copy (c := c) lenH oneH Try.underlying22 hi0 hz0 hz1 hz2 (cel_size (0, nought)) (by omega) (by omega) h hn 22
  have HR := Hid.mk' hr
  clear hr h hz0 hi0
  go_enter Try.func18, Try.ntmps18
  go_wp2_with (first | refine wpList_exec rfl (exec_pushY rfl rfl rfl HR.out) ?_)
  go_ret
  exact ⟨v', rfl, ho, hb⟩
set_option maxRecDepth 20000 in
set_option maxHeartbeats 400000 in
theorem lentH_any (l : List Cel) (p : Option Addr) (c : Nat) (w : World) (hn : l.length ≤ 1000000) (h : LiesE celRow 1025 w p l) :
    Calls Try.prog 10 #[.slice p l.length c] w fun e w' => ∃ v, e = .returned v ∧ w'.ownsRow w.heap.size 44 1025 v (lentH l).length ((lentH l).flatMap celRow) ∧ Below w.heap.size w w' := by
  obtain ⟨i0, hi0, hz0, hz1, hz2⟩ := info_parts info85
  have HC := Hid.mk' (copyH_any l p c w hn h)
  have HPu := Hid.mk' (fun (w1 : World) (v : Value) (l1 : List Cel) (h : w1.ownsRow w.heap.size 44 1025 v l1.length (l1.flatMap celRow)) (hB : w.heap.size ≤ w1.heap.size) (hn : l1.length ≤ 10000000) (x : Cel) => own_push lenH oneH Try.underlying22 hi0 hz0 hz1 hz2 (cel_size (0, nought)) (by omega) (by omega) h hB hn x 22)
  clear h hi0 hz0 hz1 hz2
  go_enter Try.func10, Try.ntmps10
  go_wp2_with (go_at_call 18; fail)
  refine Calls.mono HC.out ?_
  rintro e W1 ⟨v1, rfl, ho1, hb1⟩
  have HO1 : Hid (W1.ownsRow w.heap.size 44 1025 v1 (l ++ mks mk7H 0).length ((l ++ mks mk7H 0).flatMap celRow)) := by
    have e0 : l ++ mks mk7H 0 = l := by simp [mks]
    rw [e0]
    exact Hid.mk' ho1
  have HB1 := Hid.mk' hb1
  clear ho1 hb1 HC
  go_wp2
  go_loopw [3, 4] (fun s3 s4 wx => ∃ i : Nat, (i : Int) ≤ 6 ∧ s4 = .int .i64 i ∧ Hid (wx.ownsRow w.heap.size 44 1025 s3 (l ++ mks mk7H i).length ((l ++ mks mk7H i).flatMap celRow)) ∧ Hid (Below w.heap.size w wx)) (fun _ s4 _ => 6 - (intOf s4).toNat)
  case atStart => exact ⟨0, by omega, rfl, HO1.out, HB1.out⟩
  case round =>
    obtain ⟨i, hi, rfl, HO, HB⟩ := hrel
    clear HO1 HB1
    by_cases hi2 : (i : Int) < 6
    · go_wp2_with (go_at_call 38; fail)
      refine (markH_any 7 i wr (by omega) (by omega)).mono ?_
      rintro e w2 ⟨rfl, hb2⟩
      have HB2 := Hid.mk' (HB.out.trans (hb2.mono HB.out.size))
      obtain ⟨v', w3, hr, ho3, hb3⟩ := HPu.out _ _ _ (own_later HO.out hb2) HB2.out.size (by rw [List.length_append, mks_len]; omega) (mk7H i)
      rw [List.append_assoc, ← mks_succ] at ho3
      have HO3 := Hid.mk' ho3
      have HB3 := Hid.mk' (HB2.out.trans hb3)
      have HRR := Hid.mk' hr
      clear ho3 hr hb2 hb3 HO HB HB2
      have em : ((-1000 * 7 - (i : Int) - 7, nought) : Cel) = mk7H i := rfl
      rw [em]
      generalize mk7H i = m at *
      clear em
      go_wp2_with (first | (with_reducible refine isList 22 ?_; refine wpList_exec rfl (sliceXH (x := m) rfl rfl) ?_) | refine wpList_exec rfl (exec_pushY rfl rfl rfl HRR.out) ?_)
      exact ⟨⟨i + 1, by omega, by go_num, HO3.out, HB3.out⟩, by simp [intOf]; omega⟩
    · have hi6 : i = 6 := by omega
      subst hi6
      go_wp2
      go_ret
      exact ⟨_, rfl, HO.out, HB.out⟩
def vlO (r : Rec) : Value := .agg (recCells r).toArray
theorem fill_recp (p : Int) (Z : Array Value) (hZ : Z.size = 1026) (place : Nat → Option (Nat × Nat)) (h0 : place 1 = some (1, 1)) :
    Instr.fill place Z [(1, .int .i64 p)] = some (Z.setIfInBounds 1 (.int .i64 p)) := by
  unfold Instr.fill
  rw [h0]
  simp only [Value.cells, List.size_toArray, List.length_cons, List.length_nil]
  rw [if_neg (by intro q; simp at q; omega)]
  unfold Instr.fill
  simp
theorem rec_set (p : Int) : (recCells ⟨0, 0, nought⟩).toArray.setIfInBounds 1 (.int .i64 p) = (recCells ⟨0, p, nought⟩).toArray := by
  unfold recCells
  simp
theorem build42i (p : Int) (u : World) : (Instr.build 42 #[(1, .int .i64 p)]).run Try.prog u = .ok (.agg (recCells ⟨0, p, nought⟩).toArray) u := by
  have z := zero108
  have hf := fill_recp p (recCells ⟨0, 0, nought⟩).toArray (rec_size _)
  rw [rec_set] at hf
  generalize (recCells ⟨0, p, nought⟩).toArray = Y at *
  generalize (recCells ⟨0, 0, nought⟩).toArray = Z at *
  simp [Instr.build, z, run_underlying Try.underlying42, Value.cells]
  rw [hf _ rfl]
  simp only [Sem.run_pure]
theorem exec_build42i {o : Oper} {a : Act} {W : World} {x : Operand} {p : Int} (ho : o.op = .build 42 #[(1, x)]) (hx : a.eval x = .int .i64 p) : (execOp a.eval o).run Try.prog W = .ok (.value (.agg (recCells ⟨0, p, nought⟩).toArray)) W := by
  have e := build42i p W
  generalize (recCells ⟨0, p, nought⟩).toArray = Z at *
  simp [execOp, ho, hx, e]
set_option maxRecDepth 20000 in
set_option maxHeartbeats 400000 in
theorem markO_any (k : Int) (i : Nat) (w : World) (hk : 0 ≤ k ∧ k ≤ 1000) (hi : i ≤ 1000000000) :
    Calls Try.prog 39 #[.int .i64 k, .int .i64 i] w fun e w' => e = .returned (vlO ⟨0, -1000 * k - (i : Int) - 7, nought⟩) ∧ Below w.heap.size w w' := by
  unfold vlO
  have z := zero108
  have HZ : Hid ((recCells ⟨0, 0, nought⟩).toArray.size = 1026) := rec_size _
  have HSZ : Hid ((recCells ⟨0, -1000 * k - (i : Int) - 7, nought⟩).toArray.size = 1026) := rec_size _
  have HO : Hid ((recCells ⟨0, -1000 * k - (i : Int) - 7, nought⟩).toArray.all (·.oneCell') = true) := by
    rw [Array.all_eq_true_iff_forall_mem]
    intro v hv
    exact recCells_one _ v (by simpa using hv)
  have HE := Hid.mk' (fun (o : Oper) (a : Act) (W : World) (x : Operand) => exec_build42i (o := o) (a := a) (W := W) (x := x) (p := -1000 * k - (i : Int) - 7))
  generalize (recCells ⟨0, -1000 * k - (i : Int) - 7, nought⟩).toArray = R at *
  generalize (recCells ⟨0, 0, nought⟩).toArray = Z at *
  have hw1 : IntKind.i64.wrap (-1000 * k) = -1000 * k := by rw [IntKind.wrap_i64]; omega
  have hw2 : IntKind.i64.wrap (-1000 * k - (i : Int)) = -1000 * k - (i : Int) := by rw [IntKind.wrap_i64]; omega
  have hw3 : IntKind.i64.wrap (-1000 * k - (i : Int) - 7) = -1000 * k - (i : Int) - 7 := by rw [IntKind.wrap_i64]; omega
  go_enter Try.func39, Try.ntmps39
  go_wp2_with (first | (with_reducible refine isBuild 42 ?_; refine wpList_exec rfl (HE.out _ _ _ _ rfl rfl) ?_) | (with_reducible refine isStore 42 ?_; refine wpList_storeNew 42 1026 size108 rfl (.tmp 4) (.tmp 10) rfl Z R HZ.out HSZ.out HO.out w.heap.size rfl rfl rfl ?_))
  refine bodyPost_ret (results_cell_row rfl _ _ w.heap.size 42 R (0, 0) _ rfl (heap_alloc_new _ _) Try.underlying42 rfl (by rw [HSZ.out]; exact size108)) rfl ⟨rfl, below_new _ _⟩
theorem sliceXO {o : Oper} {a : Act} {W : World} {y : Operand} {x : Rec} (ho : o.op = .buildSlice 25 1 #[(0, y)]) (hy : a.eval y = vlO x) : (execOp a.eval o).run Try.prog W = .ok (.value (.slice (some ⟨W.heap.size, 0, none⟩) 1 1)) (W.alloc (.cells (recCells x).toArray 42)) := by
  have e := build67 x W
  unfold vlO at hy
  generalize (recCells x).toArray = Z at *
  simp [execOp, ho, hy, e]
def mk7O (i : Nat) : Rec := ⟨0, -1000 * 7 - (i : Int) - 7, nought⟩
/-- A list with the marks behind it. -/
def lentO (l : List Rec) : List Rec := l ++ mks mk7O 6
set_option maxRecDepth 20000 in
theorem copyO_any (l : List Rec) (p : Option Addr) (c : Nat) (w : World) (hn : l.length ≤ 1000000) (h : LiesE recCells 1026 w p l) :
    Calls Try.prog 19 #[.slice p l.length c] w fun e w' => ∃ v, e = .returned v ∧ w'.ownsRow w.heap.size 42 1026 v l.length (l.flatMap recCells) ∧ Below w.heap.size w w' := by
  obtain ⟨i0, hi0, hz0, hz1, hz2⟩ := info_parts info108
  obtain ⟨v', w', hr, ho, hb⟩ := append_copy (c := c) recCells_len recCells_one Try.underlying25 hi0 hz0 hz1 hz2 (rec_size _) (by omega) (by omega) h hn 25
  have HR := Hid.mk' hr
  clear hr h hz0 hi0
  go_enter Try.func19, Try.ntmps19
  go_wp2_with (first | refine wpList_exec rfl (exec_pushY rfl rfl rfl HR.out) ?_)
  go_ret
  exact ⟨v', rfl, ho, hb⟩
set_option maxRecDepth 20000 in
set_option maxHeartbeats 400000 in
theorem lentO_any (l : List Rec) (p : Option Addr) (c : Nat) (w : World) (hn : l.length ≤ 1000000) (h : LiesE recCells 1026 w p l) :
    Calls Try.prog 11 #[.slice p l.length c] w fun e w' => ∃ v, e = .returned v ∧ w'.ownsRow w.heap.size 42 1026 v (lentO l).length ((lentO l).flatMap recCells) ∧ Below w.heap.size w w' := by
  obtain ⟨i0, hi0, hz0, hz1, hz2⟩ := info_parts info108
  have HC := Hid.mk' (copyO_any l p c w hn h)
  have HPu := Hid.mk' (fun (w1 : World) (v : Value) (l1 : List Rec) (h : w1.ownsRow w.heap.size 42 1026 v l1.length (l1.flatMap recCells)) (hB : w.heap.size ≤ w1.heap.size) (hn : l1.length ≤ 10000000) (x : Rec) => own_push recCells_len recCells_one Try.underlying25 hi0 hz0 hz1 hz2 (rec_size _) (by omega) (by omega) h hB hn x 25)
  clear h hi0 hz0 hz1 hz2
  go_enter Try.func11, Try.ntmps11
  go_wp2_with (go_at_call 19; fail)
  refine Calls.mono HC.out ?_
  rintro e W1 ⟨v1, rfl, ho1, hb1⟩
  have HO1 : Hid (W1.ownsRow w.heap.size 42 1026 v1 (l ++ mks mk7O 0).length ((l ++ mks mk7O 0).flatMap recCells)) := by
    have e0 : l ++ mks mk7O 0 = l := by simp [mks]
    rw [e0]
    exact Hid.mk' ho1
  have HB1 := Hid.mk' hb1
  clear ho1 hb1 HC
  go_wp2
  go_loopw [3, 4] (fun s3 s4 wx => ∃ i : Nat, (i : Int) ≤ 6 ∧ s4 = .int .i64 i ∧ Hid (wx.ownsRow w.heap.size 42 1026 s3 (l ++ mks mk7O i).length ((l ++ mks mk7O i).flatMap recCells)) ∧ Hid (Below w.heap.size w wx)) (fun _ s4 _ => 6 - (intOf s4).toNat)
  case atStart => exact ⟨0, by omega, rfl, HO1.out, HB1.out⟩
  case round =>
    obtain ⟨i, hi, rfl, HO, HB⟩ := hrel
    clear HO1 HB1
    by_cases hi2 : (i : Int) < 6
    · go_wp2_with (go_at_call 39; fail)
      refine (markO_any 7 i wr (by omega) (by omega)).mono ?_
      rintro e w2 ⟨rfl, hb2⟩
      have HB2 := Hid.mk' (HB.out.trans (hb2.mono HB.out.size))
      obtain ⟨v', w3, hr, ho3, hb3⟩ := HPu.out _ _ _ (own_later HO.out hb2) HB2.out.size (by rw [List.length_append, mks_len]; omega) (mk7O i)
      rw [List.append_assoc, ← mks_succ] at ho3
      have HO3 := Hid.mk' ho3
      have HB3 := Hid.mk' (HB2.out.trans hb3)
      have HRR := Hid.mk' hr
      clear ho3 hr hb2 hb3 HO HB HB2
      have em : (⟨0, -1000 * 7 - (i : Int) - 7, nought⟩ : Rec) = mk7O i := rfl
      rw [em]
      generalize mk7O i = m at *
      clear em
      go_wp2_with (first | (with_reducible refine isList 25 ?_; refine wpList_exec rfl (sliceXO (x := m) rfl rfl) ?_) | refine wpList_exec rfl (exec_pushY rfl rfl rfl HRR.out) ?_)
      exact ⟨⟨i + 1, by omega, by go_num, HO3.out, HB3.out⟩, by simp [intOf]; omega⟩
    · have hi6 : i = 6 := by omega
      subst hi6
      go_wp2
      go_ret
      exact ⟨_, rfl, HO.out, HB.out⟩
end Go.Proofs.Ytbnbbelkddbndaa
