/- PlanGrows answers true, of any index and of at most 1048576 indices. -/
import Derived.Test.YtcimehjcajdfiaaGrows
namespace Go.Proofs.Ytcimehjcajdfiaa
open Go.RowKit Go.Maps
section
variable {o : Oper} {a : Act} {W : World}
theorem exec_mvR {x : Operand} {v : Value} (ho : o.op = .move x) (hx : a.eval x = v) : (execOp a.eval o).run Try.prog W = .ok (.value v) W := by
  unfold execOp
  simp [ho, hx]
theorem exec_asR {x : Operand} {v : Value} (ho : o.op = .assign x) (hx : a.eval x = v) : (execOp a.eval o).run Try.prog W = .ok (.value v) W := by
  unfold execOp
  simp [ho, hx]
theorem build2 (x u : Int) (W : World) : (Instr.buildSlice 32 2 #[(0, .int .i64 x), (1, .int .i64 u)]).run Try.prog W = .ok (.slice (some ⟨W.heap.size, 0, none⟩) 2 2) (W.alloc (.cells #[.int .i64 x, .int .i64 u] 3)) := by
  simp [Instr.buildSlice, go_sem, Instr.fill, Value.cells]
theorem exec_slice2 {y z : Operand} {x u : Int} (ho : o.op = .buildSlice 32 2 #[(0, y), (1, z)]) (hy : a.eval y = .int .i64 x) (hz : a.eval z = .int .i64 u) : (execOp a.eval o).run Try.prog W = .ok (.value (.slice (some ⟨W.heap.size, 0, none⟩) 2 2)) (W.alloc (.cells #[.int .i64 x, .int .i64 u] 3)) := by
  have e := build2 x u W
  unfold execOp
  simp only [ho, List.map_toArray, List.map_cons, List.map_nil, hy, hz, e, Sem.run_bind, Result.andThen_ok, Sem.run_pure]
theorem wpOrd_act {ops : Array Oper} {Q : Exit → Act → World → Prop} {S : World → Prop} {r : List (Bool × Oper)} {W' : World} {v : Value} (hw : Region.wanted o (yielded ops a.tmps) = true) (hr : (execOp a.eval o).run Try.prog W = .ok (.value v) W') (hS : S W') (h : wpOrd Try.prog ops Q S r (a.put o.dst v) W') : wpOrd Try.prog ops Q S ((false, o) :: r) a W := by
  simp only [wpOrd, hw, if_true]
  unfold Oper.wp
  rw [hr]
  exact ⟨hS, h⟩
end
theorem two_at (W : World) (x : Int) : ∀ j u, ([x, x].map (Value.int .i64))[j]? = some u → (W.alloc (.cells #[.int .i64 x, .int .i64 x] 3)).cell? ((⟨W.heap.size, 0, none⟩ : Addr).add j) = some u := fun j u hu => by
  rw [Go.WideShapes.add_plain, Nat.zero_add, cell_of_row _ _ j _ 3 _ (heap_alloc_new W _)]
  rw [show (#[Value.int .i64 x, .int .i64 x] : Array Value) = ([x, x].map (Value.int .i64)).toArray from rfl, List.getElem?_toArray]
  exact hu
/-- Two more of a number behind a list. -/
theorem OwnZ.push2 {W : World} {B : Nat} {v : Value} {l : List Int} (h : OwnZ W B v l) (hB : B ≤ W.heap.size) (hn : l.length ≤ 10000000) (x : Int) (ty : TypeId) :
    ∃ v' W', (Builtin.append_ #[32, 32] ty #[v, .slice (some ⟨W.heap.size, 0, none⟩) 2 2]).run Try.prog (W.alloc (.cells #[.int .i64 x, .int .i64 x] 3)) = .ok v' W' ∧ OwnZ W' B v' (l ++ [x, x]) ∧ Below B W W' := by
  obtain ⟨i0, hi0, hz0, hz1, hz2⟩ := info_parts info3
  obtain ⟨v', W', hr, ho, hf, _⟩ := append_gen (W := W.alloc (.cells #[.int .i64 x, .int .i64 x] 3)) (v := v) Try.underlying32 hi0 hz0 hz1 hz2 rfl (by omega) (World.ownsRow.alloc h _) (ad := ⟨W.heap.size, 0, none⟩) (m := 2) (c := 2) (news := [x, x].map (Value.int .i64)) (by omega) rfl (two_at W x) (ints_one _) (by unfold maxLen; omega) (by omega) (by simp; omega) ty
  refine ⟨v', W', hr, ?_, ((Fr.alloc _ W _).trans hf fun _ _ q => q).below (fun i hi => (World.ownsRow.lt h i hi).1) hB⟩
  unfold OwnZ
  rw [List.length_append, List.map_append]
  exact ho
set_option maxRecDepth 20000 in
set_option maxHeartbeats 2000000 in
theorem law_grows {w : World} (zs : List Int) (p : Option Addr) (cap : Nat) (hn : zs.length ≤ 1048576) (hz : IntsAt w p zs) (hcap : p = none → cap = 0) (i : Int) :
    Calls Try.prog 8 #[.slice p zs.length cap, .int .i64 i] w fun e w' => e = .returned (.bool true) ∧ Below w.heap.size w w' := by
  have haw := awake_any w
  have hwy := way_any i
  unfold wayA way3 at hwy
  obtain ⟨g1, g2, g3⟩ := grows zs i
  obtain ⟨n, hnn⟩ : ∃ n, zs.length = n := ⟨_, rfl⟩
  have HZ : Hid (zs.length = n ∧ (zs ++ [i]).length = n + 1 ∧ IntsAt w p zs ∧ (p = none → cap = 0)) := ⟨hnn, by simp [hnn], hz, hcap⟩
  obtain ⟨A, hA⟩ : ∃ A, cnt (keysL zs) = A := ⟨_, rfl⟩
  obtain ⟨B, hB⟩ : ∃ B, cnt (keysL (zs ++ [i])) = B := ⟨_, rfl⟩
  have bA := cnt_bound (keysL zs)
  have bB := cnt_bound (keysL (zs ++ [i]))
  rw [hA] at g1 g2 g3 bA
  rw [hB] at g1 g2 g3 bB
  have T1 : Hid (∀ (q : Option Addr) (c : Nat) (W : World), IntsAt W q zs → Calls Try.prog 20 #[.slice q n c] W fun e' w' => e' = .returned (.int .i64 (A : Int)) ∧ Below W.heap.size W w') := fun q c W h => by
    have := totalC_any zs q c W (by omega) h
    rwa [hA, hnn] at this
  have T2 : Hid (∀ (q : Option Addr) (c : Nat) (W : World), IntsAt W q (zs ++ [i]) → Calls Try.prog 20 #[.slice q (n + 1) c] W fun e' w' => e' = .returned (.int .i64 (B : Int)) ∧ Below W.heap.size W w') := fun q c W h => by
    have := totalC_any (zs ++ [i]) q c W (by simp; omega) h
    rwa [hB, HZ.out.2.1] at this
  have T3 : Hid (∀ (q : Option Addr) (c : Nat) (W : World), IntsAt W q (backL (zs ++ [i]) 0) → Calls Try.prog 20 #[.slice q (backL (zs ++ [i]) 0).length c] W fun e' w' => e' = .returned (.int .i64 (B : Int)) ∧ Below W.heap.size W w') := fun q c W h => by
    have := totalC_any (backL (zs ++ [i]) 0) q c W (by have := backL_len (zs ++ [i]) 0; simp at this; omega) h
    rwa [cnt_congr (keysL_congr (backL_mem (zs ++ [i]))), hB] at this
  have hlen : 0 ≤ n := Nat.zero_le _
  rw [hnn] at hn ⊢
  clear hz hcap hA hB
  go_enter Try.func8, Try.ntmps8
  go_wp2_with (first | (go_at_call 24; fail))
  refine haw.mono ?_
  rintro e W1 ⟨rfl, hb1⟩
  have HB1 : Hid (Below w.heap.size w W1) := hb1
  have hz1 := HZ.out.2.2.1.later hb1
  have hs1 := hb1.size
  have hcap := HZ.out.2.2.2
  clear haw hb1 hlen
  have hnz : 8 * (zs.length + 1) ≤ 140737488355328 := by omega
  go_wp2_with (first
    | (at_builtin; refine wpList_appAll rfl (.tmp 14) (.tmp 15) rfl w.heap.size zs p cap hcap n hnn hn rfl rfl hz1 hs1 ?_; intro v6 W2 hown2 hb2)
    | (at_builtin; refine wpList_pushW rfl (.tmp 17) (.tmp 19) rfl w.heap.size _ zs i rfl rfl hown2 hnz (Nat.le_trans hs1 hb2.size) ?_; intro v7 W3 hown3 _ hb3)
    | (go_at_call 20; fail))
  have HB3 : Hid (Below w.heap.size w W3) := HB1.out.trans (hb2.trans hb3)
  rcases own_form hown3 with ⟨_, q0⟩ | ⟨gm, cm, rfl, hlt⟩
  · rw [HZ.out.2.1] at q0
    omega
  rw [HZ.out.2.1]
  have HM : Hid (IntsAt W3 (some ⟨gm, 0, none⟩) (zs ++ [i])) := by
    obtain ⟨p', c', e1, h2, _, _⟩ := hown3.ints
    injection e1 with e1
    rw [e1]
    exact h2
  clear hown2 hown3 hb2 hb3 HB1 hz1 hs1 hcap hnz hlt
  refine (T1.out _ _ _ (HZ.out.2.2.1.later HB3.out)).mono ?_
  rintro e W4 ⟨rfl, hb4⟩
  go_wp2_with (first | (go_at_call 20; fail))
  refine (T2.out _ _ _ (HM.out.later hb4)).mono ?_
  rintro e W5 ⟨rfl, hb5⟩
  have HM5 : Hid (IntsAt W5 (some ⟨gm, 0, none⟩) (zs ++ [i]) ∧ gm < W5.heap.size) := by
    have h := (HM.out.later hb4).later hb5
    obtain ⟨b, off, e1, h2, _⟩ := h (by rw [HZ.out.2.1]; omega)
    injection e1 with e1
    injection e1 with e1
    exact ⟨h, by rw [e1]; exact h2⟩
  have HB5 : Hid (Below w.heap.size w W5) := below_next HB3.out (below_next hb4 hb5)
  clear hb4 hb5 HM HB3
  go_wp2
  go_loopw [9, 10] (fun s9 s10 wx => ∃ j : Nat, j ≤ n + 1 ∧ s10 = .int .i64 ((j : Int) - 1) ∧ Hid (OwnZ wx W5.heap.size s9 (backL (zs ++ [i]) j)) ∧ Hid (Below W5.heap.size W5 wx)) (fun _ s10 _ => (intOf s10 + 1).toNat)
  case atStart => exact ⟨n + 1, by omega, by simp, by have h := HZ.out.2.1; rw [← h, backL_end]; exact OwnZ.nil _ _, Below.refl _ _⟩
  case round =>
    obtain ⟨j0, hj, rfl, HO, HW⟩ := hrel
    rcases Nat.eq_zero_or_pos j0 with hj0 | hj0
    · subst hj0
      have hO := HO.out
      obtain ⟨pb, cb, rfl, hib, _, _⟩ := hO.ints
      have HIB : Hid (IntsAt wr pb (backL (zs ++ [i]) 0)) := hib
      have HBW : Hid (Below w.heap.size w wr) := below_next HB5.out HW.out
      have H3 := T3.out pb cb wr hib
      have d1 : decide ((B : Int) < (A : Int)) = false := decide_eq_false (by omega)
      have d2 : decide ((A : Int) + 3 < (B : Int)) = false := decide_eq_false (by omega)
      have d1n : decide (B < A) = false := decide_eq_false (by omega)
      have d2n : decide (A + 3 < B) = false := decide_eq_false (by omega)
      have d3 : ((B : Int) == (B : Int)) = true := by simp
      have e3 : IntKind.i64.wrap ((A : Int) + 3) = (A : Int) + 3 := by rw [IntKind.wrap_i64]; omega
      have hf29 := field29
      generalize (backL (zs ++ [i]) 0).length = bl at *
      clear HO HW hO hib T1 T2 T3 hj HB5 HM5
      go_wp2_with (first | (go_at_call 20; fail))
      refine H3.mono ?_
      rintro e V1 ⟨rfl, hv1⟩
      have HV1 : Hid (Below w.heap.size w V1) := below_next HBW.out hv1
      clear hv1 H3 HIB HBW
      go_wp2_with (first | (go_at_call 17; fail))
      refine (hwy _).mono ?_
      rintro e V2 ⟨rfl, hv2⟩
      have HV2 : Hid (Below w.heap.size w V2) := below_next HV1.out hv2
      have hidx : (depthN i != 0) = isIdx i := rfl
      have HG3 : Hid ((isIdx i && !zs.contains i) = decide (A < B)) := g3
      generalize depthN i = D at *
      generalize firstN i = F at *
      generalize secondN i = G at *
      generalize isIdx i = I at *
      clear hv2 hwy g3 HV1
      go_wp2
      go_loopw [11, 12] (fun s11 s12 wx => ∃ k : Nat, k ≤ n ∧ s12 = .int .i64 k ∧ s11 = .bool (I && !(zs.take k).contains i) ∧ wx = V2) (fun _ s12 _ => n - (intOf s12).toNat)
      case atStart => exact ⟨0, by omega, rfl, by simp, rfl⟩
      case round =>
        obtain ⟨k, hk, rfl, rfl, rfl⟩ := hrel
        by_cases hk2 : (k : Int) < n
        · have hkz : k < zs.length := by rw [HZ.out.1]; omega
          have hx : zs[k]? = some zs[k] := List.getElem?_eq_getElem hkz
          have htk : zs.take (k + 1) = zs.take k ++ [zs[k]] := by rw [List.take_add_one, hx]; rfl
          obtain ⟨b1, o1, rfl, l1, C1⟩ := HZ.out.2.2.1 (by rw [HZ.out.1]; omega)
          have HN : Hid ((I && !(zs.take (k + 1)).contains i) = ((I && !(zs.take k).contains i) && (zs[k] != i))) := by
            rw [htk]
            show _ = _
            simp only [List.contains_append, List.contains_cons, List.contains_nil, Bool.or_false, Bool.not_or, Bool.and_assoc]
            congr 2
            rw [bne, Bool.beq_comm]
          generalize zs[k] = x at *
          have c0 : wr.cell? ⟨b1, o1 + k, none⟩ = some (.int .i64 x) := (HV2.out.cell (p := ⟨b1, o1 + k, none⟩) l1).trans (C1 k x hx)
          generalize hfr : (I && !(zs.take k).contains i) = fr at *
          clear hfr hx htk C1 hkz
          cases fr
          · go_wp2
            have h := HN.out
            rw [Bool.false_and] at h
            exact ⟨⟨k + 1, by omega, by go_num, by rw [h], trivial⟩, by simp [intOf]; omega⟩
          · go_wp2
            have h := HN.out
            rw [Bool.true_and] at h
            exact ⟨⟨k + 1, by omega, by go_num, by rw [h], trivial⟩, by simp [intOf]; omega⟩
        · obtain rfl : n = k := by omega
          have h3 : (I && !(zs.take n).contains i) = decide (A < B) := by
            rw [List.take_of_length_le (by rw [HZ.out.1]; exact Nat.le_refl _)]
            exact HG3.out
          rw [h3]
          generalize hbb : decide (A < B) = bb
          have HBB : Hid (decide (A < B) = bb) := hbb
          clear h3 hk hk2 hbb
          go_wp2
          go_ret
          refine ⟨?_, HV2.out⟩
          have h := HBB.out
          show Ending.returned (.bool (bb == decide (A < B))) = _
          rw [h]
          simp
    · obtain ⟨j, rfl⟩ : ∃ j, j0 = j + 1 := ⟨j0 - 1, by omega⟩
      have ej : ((j + 1 : Nat) : Int) - 1 = j := by omega
      rw [ej]
      have hjl : j < (zs ++ [i]).length := by rw [HZ.out.2.1]; omega
      have hst := backL_step (zs ++ [i]) j hjl
      have hx : (zs ++ [i])[j]? = some (zs ++ [i])[j] := List.getElem?_eq_getElem hjl
      obtain ⟨b1, o1, e1, l1, C1⟩ := HM5.out.1 (by omega)
      injection e1 with e1
      injection e1 with e1 e2
      subst e1 e2
      generalize (zs ++ [i])[j] = x at *
      have c0 : wr.cell? ⟨gm, j, none⟩ = some (.int .i64 x) := by
        have := (HW.out.cell (p := ⟨gm, 0 + j, none⟩) l1).trans (C1 j x hx)
        rwa [Nat.zero_add] at this
      have c0d : wr.drew.cell? ⟨gm, j, none⟩ = some (.int .i64 x) := c0
      have hO : OwnZ wr.drew W5.heap.size u9 (backL (zs ++ [i]) (j + 1)) := HO.out
      have hBw : Below W5.heap.size W5 wr.drew := HW.out.drew
      obtain ⟨v', W', R1, ho', hb'⟩ := hO.push2 hBw.size (by have := backL_len (zs ++ [i]) (j + 1); rw [HZ.out.2.1] at this; omega) x 32
      have HO' : Hid (OwnZ W' W5.heap.size v' (backL (zs ++ [i]) j)) := by rw [hst]; exact ho'
      have HB' : Hid (Below W5.heap.size W5 W') := hBw.trans hb'
      have hS1 : (wr.drew.alloc (.cells #[.int .i64 x, .int .i64 x] 3)).cell? ⟨gm, j, none⟩ = some (.int .i64 x) := ((below_new wr.drew _).cell (p := ⟨gm, j, none⟩) (block_lt_of_cell c0d)).trans c0d
      have hS2 : W'.cell? ⟨gm, j, none⟩ = some (.int .i64 x) := (hb'.cell (p := ⟨gm, j, none⟩) l1).trans c0d
      clear ho' hb' hst hx C1 hjl ej HO HW hO hBw
      go_wp2
      refine wp_region_ord (S := fun u => u.cell? ⟨gm, j, none⟩ = some (.int .i64 x)) [(0, true), (1, true), (2, true), (3, true), (4, true), (5, true), (6, true), (7, true), (8, true), (9, false), (10, false), (11, true)]
        (by kernel_rfl) rfl (by kernel_rfl) (fun d _ _ _ _ h => by cases d <;> exact h) c0d ?_
      simp only [inOrd, List.getElem?_cons_zero, List.getElem?_cons_succ]
      refine wpOrd_yield (v := u9) rfl (fun u _ => exec_mvR rfl rfl) ?_
      simp only [Act.put, List.setIfInBounds_toArray, List.set_cons_succ, List.set_cons_zero]
      refine wpOrd_yield (v := .slice (some ⟨gm, 0, none⟩) (n + 1) cm) rfl (fun u _ => exec_mvR rfl rfl) ?_
      simp only [Act.put, List.setIfInBounds_toArray, List.set_cons_succ, List.set_cons_zero]
      refine wpOrd_yield (v := .int .i64 (j : Int)) rfl (fun u _ => exec_mvR rfl rfl) ?_
      simp only [Act.put, List.setIfInBounds_toArray, List.set_cons_succ, List.set_cons_zero]
      refine wpOrd_yield (v := .pointer (some ⟨gm, j, none⟩)) rfl (fun u _ => by go_simp; intro q; omega) ?_
      simp only [Act.put, List.setIfInBounds_toArray, List.set_cons_succ, List.set_cons_zero]
      refine wpOrd_yield (v := .int .i64 x) rfl (fun u hu => by go_simp) ?_
      simp only [Act.put, List.setIfInBounds_toArray, List.set_cons_succ, List.set_cons_zero]
      refine wpOrd_yield (v := .slice (some ⟨gm, 0, none⟩) (n + 1) cm) rfl (fun u _ => exec_mvR rfl rfl) ?_
      simp only [Act.put, List.setIfInBounds_toArray, List.set_cons_succ, List.set_cons_zero]
      refine wpOrd_yield (v := .int .i64 (j : Int)) rfl (fun u _ => exec_mvR rfl rfl) ?_
      simp only [Act.put, List.setIfInBounds_toArray, List.set_cons_succ, List.set_cons_zero]
      refine wpOrd_yield (v := .pointer (some ⟨gm, j, none⟩)) rfl (fun u _ => by go_simp; intro q; omega) ?_
      simp only [Act.put, List.setIfInBounds_toArray, List.set_cons_succ, List.set_cons_zero]
      refine wpOrd_yield (v := .int .i64 x) rfl (fun u hu => by go_simp) ?_
      simp only [Act.put, List.setIfInBounds_toArray, List.set_cons_succ, List.set_cons_zero]
      refine wpOrd_act rfl (exec_slice2 rfl rfl rfl) hS1 ?_
      simp only [Act.put, List.setIfInBounds_toArray, List.set_cons_succ, List.set_cons_zero]
      refine wpOrd_act rfl (exec_push rfl rfl rfl R1) hS2 ?_
      simp only [Act.put, List.setIfInBounds_toArray, List.set_cons_succ, List.set_cons_zero]
      refine wpOrd_yield (v := v') rfl (fun u _ => exec_asR rfl rfl) ?_
      simp only [Act.put, List.setIfInBounds_toArray, List.set_cons_succ, List.set_cons_zero]
      refine wpOrd_nil ?_
      generalize wr.drew = V at *
      go_wp2
      exact ⟨⟨j, by omega, rfl, HO'.out, HB'.out⟩, by simp only [intOf]; omega⟩
end Go.Proofs.Ytcimehjcajdfiaa
