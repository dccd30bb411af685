/- DeskNames, which takes nothing, answers true; no condition. -/
import Derived.Test.YtpghalekcgnefaaDk8
import Derived.Test.YtpghalekcgnefaaDk4
import Derived.Test.YtpghalekcgnefaaDk9
namespace Go.Proofs.Ytpghalekcgnefaa
open Go.RowKit Go.Maps Go.Shelf
attribute [local go_sem] Oper.semAt_some
attribute [local simp, local go_sem] wide_fn wide_depth
theorem info3b : (Try.prog.info? 3).map (fun i => (i.zero, i.size, i.bytes)) = some (some (.int .i64 0), 1, 8) := by kernel_rfl
theorem own_cells {W : World} {B e sz n j : Nat} {v : Value} {xs : List Value} {o : Obj} (h : W.ownsRow B e sz v n xs) (hj : v.ownBlock = some j) (ho : W.heap[j]? = some o) : o.isCells = true := by
  rcases h.2 with ⟨rfl, _⟩ | ⟨g, c, cu, rfl, _, hh, _⟩
  · cases hj
  · injection hj with hj
    have hj' : g = j := hj
    rw [hj', ho] at hh
    injection hh with hh
    rw [hh]
    rfl
theorem push2 {V : World} {B : Nat} {v : Value} {k : Nat} {xs : List Value} (ho : V.ownsRow B 3 1 v k xs) (hB : B ≤ V.heap.size) (hk : k ≤ 2000000) (x : Int × Int) : ∃ v' w2, (Builtin.append_ #[35, 35] 35 #[v, .slice (some ⟨V.heap.size, 0, none⟩) 2 2]).run Try.prog (V.alloc (.cells #[.int .i64 x.1, .int .i64 x.2] 3)) = .ok v' w2 ∧ w2.ownsRow B 3 1 v' (k + 2) (xs ++ pc2 x) ∧ Fr (fun b => v.ownBlock = some b) V w2 := by
  obtain ⟨i0, hi0, hz0, hz1, hz2⟩ := info_parts info3b
  have hnews : ∀ j u, (pc2 x)[j]? = some u → (V.alloc (.cells #[.int .i64 x.1, .int .i64 x.2] 3)).cell? ((⟨V.heap.size, 0, none⟩ : Addr).add j) = some u := fun j u hu => by
    rw [Go.WideShapes.add_plain, Nat.zero_add, cell_of_row _ _ j _ 3 _ (heap_alloc_new V _), show (#[.int .i64 x.1, .int .i64 x.2] : Array Value) = (pc2 x).toArray from rfl, List.getElem?_toArray]
    exact hu
  obtain ⟨v', w', hrun, ho', hf, _⟩ := append_gen (W := V.alloc (.cells #[.int .i64 x.1, .int .i64 x.2] 3)) (v := v) Try.underlying35 hi0 hz0 hz1 hz2 rfl (by decide) (World.ownsRow.alloc ho _) (ad := ⟨V.heap.size, 0, none⟩) (m := 2) (c := 2) (news := pc2 x) (by omega) rfl hnews (pc2_one x) (by unfold maxLen; omega) (by omega) (by simp; omega) 35
  exact ⟨v', w', hrun, ho', (Fr.alloc _ V _).trans hf fun _ _ q => q⟩
theorem wpListIn_app {F : Fence} {n : Nat} {ops : Array Oper} {rest : List Oper} {o : Oper} {a : Act} {W W' : World} {v v' : Value} {ad : Addr} {m c : Nat} {st : TypeId} {Q : Exit → Act → World → Prop} (hgd : o.guard = none) (s y : Operand)
    (ho : o.op = .call { callee := .builtin .append, args := #[s, y], argTypes := #[st, st] }) (hs : a.eval s = v) (hx : a.eval y = .slice (some ad) m c)
    (hr : (Builtin.append_ #[st, st] o.type #[v, .slice (some ad) m c]).run Try.prog W = .ok v' W') (h : wpListIn F n Try.prog ops Q rest (a.put o.dst v') W') : wpListIn F n Try.prog ops Q (o :: rest) a W := by
  refine wpListIn_plain hgd fun K hK => ?_
  unfold Oper.wpIn
  refine ⟨?_, ?_⟩
  · simp [Oper.about, ho, resolve, Target.leads, Sem.run_pure]
  · rw [Oper.semAt_plain F _ _ (by rw [ho]; intro c hc'; cases hc'), exec_push ho hs hx hr]
    exact hK _ _ h
/-- The block of the calls that a range put off. -/
def dfP (D : Nat) : Part := ⟨fun k => k = D, fun W => W.heap[D]? = some (.deferred (some []))⟩
theorem dfP_good (D : Nat) : (dfP D).Good := fun _ _ hs _ q => (q D rfl).trans hs
theorem Sep.mark {w W : World} {D : Nat} (hb : Below w.heap.size w W) (hD : W.heap[D]? = some (.deferred (some []))) (hw : w.heap.size ≤ D) : Sep w W [dfP D] :=
  ⟨fun p hp => by rw [List.mem_singleton.1 hp]; exact dfP_good D, fun p hp => by rw [List.mem_singleton.1 hp]; exact hD, fun p hp k hk => by
    rw [List.mem_singleton.1 hp] at hk
    have hk' : k = D := hk
    rw [hk']
    exact ⟨hw, (Array.getElem?_eq_some_iff.1 hD).1⟩, List.pairwise_singleton _ _, hb⟩
set_option maxRecDepth 100000 in
set_option maxHeartbeats 8000000 in
theorem names_in (w : World) : CallsIn Fence.wide 3 Try.prog 6 #[] w fun e w' => e = .returned (.bool true) ∧ Below w.heap.size w w' := by
  have d0 : Dok 2 [] 0 := Dok.start (by omega) (by omega) 0
  have d1 := d0
  have d2 : Dok 2 [(5, 1)] 1 := by have := d1.hold (k := 5) (by omega); rwa [show holdL 2 [] 5 = [(5, 1)] by decide] at this
  have d3 : Dok 2 [(5, 2)] 2 := by have := d2.hold (k := 5) (by omega); rwa [show holdL 2 [(5, 1)] 5 = [(5, 2)] by decide] at this
  have d4 : Dok 2 [(5, 2), (7, 1)] 3 := by have := d3.hold (k := 7) (by omega); rwa [show holdL 2 [(5, 2)] 7 = [(5, 2), (7, 1)] by decide] at this
  have d5 : Dok 2 [(5, 2), (7, 1)] 4 := by have := d4.hold (k := 9) (by omega); rwa [show holdL 2 [(5, 2), (7, 1)] 9 = [(5, 2), (7, 1)] by decide] at this
  have d6 : Dok 2 [(5, 2), (7, 2)] 5 := by have := d5.hold (k := 7) (by omega); rwa [show holdL 2 [(5, 2), (7, 1)] 7 = [(5, 2), (7, 2)] by decide] at this
  have d7 := d6
  have d8 : Dok 2 [(5, 1), (7, 2)] 5 := by have := d7.drop 5; rwa [show dropL [(5, 2), (7, 2)] 5 = [(5, 1), (7, 2)] by decide] at this
  have d9 : Dok 2 [(7, 2)] 5 := by have := d8.drop 5; rwa [show dropL [(5, 1), (7, 2)] 5 = [(7, 2)] by decide] at this
  have d10 : Dok 2 [(7, 2)] 5 := by have := d9.drop 5; rwa [show dropL [(7, 2)] 5 = [(7, 2)] by decide] at this
  have d11 : Dok 2 [(7, 2), (9, 1)] 6 := by have := d10.hold (k := 9) (by omega); rwa [show holdL 2 [(7, 2)] 9 = [(7, 2), (9, 1)] by decide] at this
  have heq := eqlSeq
  refine callsIn_of_wp_marks Try.func6 rfl trivial ?_ rfl
  simp only [Try.ntmps6, List.size_toArray, List.length_nil, Nat.reduceSub, Array.replicate_succ, Array.replicate_zero, List.push_toArray, List.append_toArray, List.nil_append, List.cons_append]
  gi_wp2_with (first | (gi_at_call 7; fail))
  refine (callsIn_wide.2 ((Sep.nil (Below.refl _ _)).new 2)).mono ?_
  rintro e W0 ⟨g, b, rfl, h0⟩
  rw [show max (2 : Int) 0 = 2 by decide] at h0
  have H0 : Hid (Sep w W0 (dkP g b 2 [] :: [])) := h0
  clear h0
  gi_wp2_with (first | (gi_at_call 10; fail))
  refine (callsIn_wide.2 (dlives_ok _)).mono ?_
  rintro e W1 ⟨rfl, hb⟩
  have h1 := H0.out.later hb
  clear hb H0
  have H1 : Hid (Sep w W1 (dkP g b 2 [] :: [])) := h1
  clear h1
  gi_wp2_with (first | (gi_at_call 13; fail))
  refine (callsIn_wide.2 (H1.out.hold d1 (by omega) 5 (by decide))).mono ?_
  rw [show holdE 2 [] 5 = 0 by decide, show holdL 2 [] 5 = [(5, 1)] by decide]
  rintro e W2 ⟨rfl, h2⟩
  have H2 : Hid (Sep w W2 (dkP g b 2 [(5, 1)] :: [])) := h2
  clear h2
  gi_wp2_with (first | (gi_at_call 13; fail))
  refine (callsIn_wide.2 (H2.out.hold d2 (by omega) 5 (by decide))).mono ?_
  rw [show holdE 2 [(5, 1)] 5 = 0 by decide, show holdL 2 [(5, 1)] 5 = [(5, 2)] by decide]
  rintro e W3 ⟨rfl, h3⟩
  have H3 : Hid (Sep w W3 (dkP g b 2 [(5, 2)] :: [])) := h3
  clear h3
  gi_wp2_with (first | (gi_at_call 13; fail))
  refine (callsIn_wide.2 (H3.out.hold d3 (by omega) 7 (by decide))).mono ?_
  rw [show holdE 2 [(5, 2)] 7 = 0 by decide, show holdL 2 [(5, 2)] 7 = [(5, 2), (7, 1)] by decide]
  rintro e W4 ⟨rfl, h4⟩
  have H4 : Hid (Sep w W4 (dkP g b 2 [(5, 2), (7, 1)] :: [])) := h4
  clear h4
  gi_wp2_with (first | (gi_at_call 13; fail))
  refine (callsIn_wide.2 (H4.out.hold d4 (by omega) 9 (by decide))).mono ?_
  rw [show holdE 2 [(5, 2), (7, 1)] 9 = 15 by decide, show holdL 2 [(5, 2), (7, 1)] 9 = [(5, 2), (7, 1)] by decide]
  rintro e W5 ⟨rfl, h5⟩
  have H5 : Hid (Sep w W5 (dkP g b 2 [(5, 2), (7, 1)] :: [])) := h5
  clear h5
  gi_wp2_with (first | (gi_at_call 13; fail))
  refine (callsIn_wide.2 (H5.out.hold d5 (by omega) 7 (by decide))).mono ?_
  rw [show holdE 2 [(5, 2), (7, 1)] 7 = 0 by decide, show holdL 2 [(5, 2), (7, 1)] 7 = [(5, 2), (7, 2)] by decide]
  rintro e W6 ⟨rfl, h6⟩
  have H6 : Hid (Sep w W6 (dkP g b 2 [(5, 2), (7, 2)] :: [])) := h6
  clear h6
  gi_wp2_with (first | (gi_at_call 14; fail))
  refine (callsIn_wide.2 (H6.out.full)).mono ?_
  rw [show fullB 2 [(5, 2), (7, 2)] = true by decide]
  rintro e W7 ⟨rfl, h7⟩
  have H7 : Hid (Sep w W7 (dkP g b 2 [(5, 2), (7, 2)] :: [])) := h7
  clear h7
  gi_wp2_with (first | (gi_at_call 15; fail))
  refine (callsIn_wide.2 (H7.out.dropD d7 (by omega) 5 (by decide))).mono ?_
  rw [show dropB [(5, 2), (7, 2)] 5 = false by decide, show dropE [(5, 2), (7, 2)] 5 = 0 by decide, show dropL [(5, 2), (7, 2)] 5 = [(5, 1), (7, 2)] by decide]
  rintro e W8 ⟨rfl, h8⟩
  have H8 : Hid (Sep w W8 (dkP g b 2 [(5, 1), (7, 2)] :: [])) := h8
  clear h8
  gi_wp2_with (first | (gi_at_call 15; fail))
  refine (callsIn_wide.2 (H8.out.dropD d8 (by omega) 5 (by decide))).mono ?_
  rw [show dropB [(5, 1), (7, 2)] 5 = true by decide, show dropE [(5, 1), (7, 2)] 5 = 0 by decide, show dropL [(5, 1), (7, 2)] 5 = [(7, 2)] by decide]
  rintro e W9 ⟨rfl, h9⟩
  have H9 : Hid (Sep w W9 (dkP g b 2 [(7, 2)] :: [])) := h9
  clear h9
  gi_wp2_with (first | (gi_at_call 15; fail))
  refine (callsIn_wide.2 (H9.out.dropD d9 (by omega) 5 (by decide))).mono ?_
  rw [show dropB [(7, 2)] 5 = false by decide, show dropE [(7, 2)] 5 = 2 by decide, show dropL [(7, 2)] 5 = [(7, 2)] by decide]
  rintro e W10 ⟨rfl, h10⟩
  have H10 : Hid (Sep w W10 (dkP g b 2 [(7, 2)] :: [])) := h10
  clear h10
  gi_wp2_with (first | (gi_at_call 13; fail))
  refine (callsIn_wide.2 (H10.out.hold d10 (by omega) 9 (by decide))).mono ?_
  rw [show holdE 2 [(7, 2)] 9 = 0 by decide, show holdL 2 [(7, 2)] 9 = [(7, 2), (9, 1)] by decide]
  rintro e W11 ⟨rfl, h11⟩
  have H11 : Hid (Sep w W11 (dkP g b 2 [(7, 2), (9, 1)] :: [])) := h11
  clear h11
  gi_wp2_with (first | (gi_at_call 17; fail))
  refine (callsIn_wide.2 (len_ok H11.out.desk)).mono ?_
  rw [show ((List.length ([(7, 2), (9, 1)] : List (Int × Int)) : Nat) : Int) = 2 from rfl]
  rintro e V11 ⟨rfl, q11⟩
  obtain rfl := q11.symm
  have h11 := H11.out
  clear H11
  have H11 : Hid (Sep w W11 (dkP g b 2 [(7, 2), (9, 1)] :: [])) := h11
  clear h11
  gi_wp2_with (first | (gi_at_call 19; fail))
  have hal := all_ok (H11.out.later (below_new W11 (.cells #[.slice none 0 0] 35))).desk d11 (by omega)
  have hwB : Below w.heap.size w (W11.alloc (.cells #[.slice none 0 0] 35)) := (H11.out.later (below_new W11 (.cells #[.slice none 0 0] 35))).below
  have hlc : (W11.alloc (.cells #[.slice none 0 0] 35)).heap[W11.heap.size]? = some (.cells #[.slice none 0 0] 35) := heap_alloc_new _ _
  refine (callsIn_wide.2 hal).mono ?_
  rintro e W2 ⟨q, v, rfl, hq1, hq2, hq3, hb2⟩
  obtain ⟨p, cap, rfl, hhe, hpp⟩ := HeldAt.of hq3
  have hql : q < W2.heap.size := World.block_lt_of_cell? W2 _ hq1
  have hst : SeqStopsK Fence.wide 2 Try.prog 28 #[.pointer (some ⟨q, 0, none⟩)] (fun x : Int × Int => #[.int .i64 x.1, .int .i64 x.2]) (KpQ q p) (fun ys => ys = [(7, 2), (9, 1)]) (fun pre => pre <+: [(7, 2), (9, 1)]) 1000000 W2 := iterD_stops rfl (by decide) 2 q p cap W2 hql (fun g e => (hpp g e).2) hq1 hhe
  have HST := (show Hid _ from hst)
  have HL0 : Hid (W2.heap[W11.heap.size]? = some (.cells #[.slice none 0 0] 35)) := heap_kept hlc hb2
  have HB2 : Hid (Below w.heap.size w W2) := below_next hwB hb2
  have HNE : Hid (q ≠ W11.heap.size ∧ ∀ g, p = some ⟨g, 0, none⟩ → g ≠ W11.heap.size ∧ g < W2.heap.size) := by
    rw [World.size_alloc] at hq2 hpp
    exact ⟨by omega, fun g e => ⟨by have := (hpp g e).1; omega, (hpp g e).2⟩⟩
  have hlh : W11.heap.size < W2.heap.size := (Array.getElem?_eq_some_iff.1 HL0.out).1
  have HWL : Hid (w.heap.size ≤ W11.heap.size) := H11.out.below.size
  obtain ⟨i0, hi0, hz0, hz1, hz2⟩ := info_parts info3b
  clear hal hwB hlc hq1 hq3 hhe hb2 hst hpp hq2
  gi_wp2
  refine wpIn_rangeFunc_ownF rfl (by omega) (gf := 28) rfl trivial (enters_of Try.func28 (by kernel_rfl) rfl) HST.out KpQ.trans (kpQ_b hql fun g e => (HNE.out.2 g e).2) (Below.refl _ _) (fun _ => rfl)
    (fun pre V => (∃ v, V.heap[W11.heap.size]? = some (.cells #[v] 35) ∧ V.ownsRow W2.heap.size 3 1 v (pre.length * 2) (pre.flatMap pc2)) ∧ Below w.heap.size w V ∧ W2.heap.size ≤ V.heap.size)
    (fun c pre V => False)
    (OwnFrom.and (fun s A B row hs hg hr => by
      obtain ⟨v, h1, h2⟩ := hs
      refine ⟨v, (grownBy_keeps_cells hg (fun r e => (hr r e).2) h1 rfl).trans h1, h2.kept hg ?_⟩
      rcases own_form h2 with ⟨rfl, _⟩ | ⟨g, c, rfl, _⟩
      · exact .inl rfl
      · refine .inr fun e => ?_
        obtain ⟨_, o, ho, hc⟩ := hr g e.symm
        rcases h2.2 with ⟨k, _⟩ | ⟨g', _, cu, k, _, hh, _⟩
        · cases k
        · injection k with k
          injection k with k
          injection k with k
          rw [← k, ho] at hh
          injection hh with hh
          rw [hh] at hc
          cases hc) (OwnFrom.and (ownFrom_below (Nat.le_refl _) HB2.out.size) (fun s A B row hs hg hr => Nat.le_trans hs hg.size)))
    (fun c s A B row hs _ _ => hs)
    ⟨⟨_, HL0.out, World.ownsRow_nil _ _ _ _⟩, HB2.out, Nat.le_refl _⟩
    ?a1 ?assign ?body ?done ?stop
  case assign =>
    intro l x V K hK
    gi_wp2
    exact hK
  case body =>
    rintro l pre x V ⟨⟨v, hv1, hv2⟩, hB, hsz⟩ hlen
    obtain ⟨v', w2, hrun, ho2, hF⟩ := push2 hv2 hsz (by omega) x
    obtain ⟨va, vn, vc, rfl⟩ : ∃ va vn vc, v = .slice va vn vc := by
      rcases own_form hv2 with ⟨rfl, _⟩ | ⟨_, _, rfl, _⟩ <;> exact ⟨_, _, _, rfl⟩
    obtain ⟨ya, yn, yc, rfl⟩ : ∃ ya yn yc, v' = .slice ya yn yc := by
      rcases own_form ho2 with ⟨rfl, _⟩ | ⟨_, _, rfl, _⟩ <;> exact ⟨_, _, _, rfl⟩
    have c10 : V.cell? ⟨W11.heap.size, 0, none⟩ = some (.slice va vn vc) := Joins.cell_of_block hv1 0
    have hwh : w2.heap[W11.heap.size]? = some (.cells #[.slice va vn vc] 35) := (hF.block _ (by omega) (fun e => by have := (hv2.lt _ e).1; omega)).trans hv1
    have f2 : w2.frozen? ⟨W11.heap.size, 0, none⟩ = false := frozen_row hwh 0
    have c2 : w2.cell? ⟨W11.heap.size, 0, none⟩ = some (.slice va vn vc) := Joins.cell_of_block hwh 0
    have HK : Hid (KeepsOthers V (w2.setCell ⟨W11.heap.size, 0, none⟩ (.slice ya yn yc))) := (KeepsOthers.of_grownBy hF.grown (fun j o e ho => own_cells hv2 e ho)).trans (KeepsOthers.setCell _ _ _)
    have HQ : Hid (KpQ q p V (w2.setCell ⟨W11.heap.size, 0, none⟩ (.slice ya yn yc))) := by
      have hne := HNE.out
      refine ⟨(heap_setCell_other _ _ _ _ hne.1).trans (hF.block q (by omega) fun e => by have := (hv2.lt _ e).1; omega), fun g e => ?_⟩
      have h3 := hne.2 g e
      exact (heap_setCell_other _ _ _ _ h3.1).trans (hF.block g (by omega) fun e => by have := (hv2.lt _ e).1; omega)
    have HI : Hid ((∃ v, (w2.setCell ⟨W11.heap.size, 0, none⟩ (.slice ya yn yc)).heap[W11.heap.size]? = some (.cells #[v] 35) ∧ (w2.setCell ⟨W11.heap.size, 0, none⟩ (.slice ya yn yc)).ownsRow W2.heap.size 3 1 v ((pre ++ [x]).length * 2) ((pre ++ [x]).flatMap pc2)) ∧ Below w.heap.size w (w2.setCell ⟨W11.heap.size, 0, none⟩ (.slice ya yn yc)) ∧ W2.heap.size ≤ (w2.setCell ⟨W11.heap.size, 0, none⟩ (.slice ya yn yc)).heap.size) := by
      have hw := HWL.out
      refine ⟨⟨_, heap_setCell_same _ _ _ _ _ _ hwh, ?_⟩, ?_, ?_⟩
      · have h4 := own_frame ho2 (Fr.setCell w2 W11.heap.size 0 (.slice ya yn yc)) (fun i hi e => by have := (ho2.lt i hi).1; omega)
        rw [List.length_append, List.flatMap_append, Nat.add_mul]
        simpa using h4
      · refine (hB.trans (hF.below (fun i hi => by have := (hv2.lt i hi).1; omega) hB.size)).trans ((Fr.setCell w2 W11.heap.size 0 _).below (fun i hi => by omega) ?_)
        exact Nat.le_trans hB.size hF.size
      · rw [World.size_setCell]
        exact Nat.le_trans hsz hF.size
    clear hv1 hv2 hB ho2 hF hwh
    gi_wp2_with (first | (gi_at_builtin; refine wpListIn_app rfl (.tmp 97) (.tmp 100) rfl rfl rfl hrun ?_))
    exact ⟨HK.out, HQ.out, HI.out⟩
  case done =>
    rintro D xs V hD rfl ⟨⟨v, hv1, hv2⟩, hB, hsz⟩ hmk
    have hS := Sep.mark hB hmk (by have := HWL.out; omega)
    obtain ⟨g4, c4, rfl⟩ : ∃ g4 c4, v = .slice (some ⟨g4, 0, none⟩) 4 c4 := by
      rcases own_form hv2 with ⟨_, q⟩ | ⟨g4, c4, rfl, _⟩
      · cases q
      · exact ⟨g4, c4, rfl⟩
    have c10 : V.cell? ⟨W11.heap.size, 0, none⟩ = some (.slice (some ⟨g4, 0, none⟩) 4 c4) := Joins.cell_of_block hv1 0
    have e0 : V.cell? ⟨g4, 0, none⟩ = some (.int .i64 7) := World.ownsRow.cellAt hv2 0 (by decide)
    have e1 : V.cell? ⟨g4, 1, none⟩ = some (.int .i64 2) := World.ownsRow.cellAt hv2 1 (by decide)
    have e2 : V.cell? ⟨g4, 2, none⟩ = some (.int .i64 9) := World.ownsRow.cellAt hv2 2 (by decide)
    have e3 : V.cell? ⟨g4, 3, none⟩ = some (.int .i64 1) := World.ownsRow.cellAt hv2 3 (by decide)
    have HS0 : Hid (Sep w V [dfP D]) := hS
    have z0 : Dok 0 [] 0 := Dok.start (by omega) (by omega) 0
    clear hv1 hv2 hB hmk hS
    gi_wp2_with (first | (gi_at_call 7; fail))
    refine (callsIn_wide.2 (HS0.out.new 0)).mono ?_
    rintro e X1 ⟨g1, b1, rfl, s1⟩
    rw [show max (0 : Int) 0 = 0 by decide] at s1
    have S1 : Hid (Sep w X1 (dkP g1 b1 0 [] :: dfP D :: [])) := s1
    clear s1 HS0
    gi_wp2_with (first | (gi_at_call 7; fail))
    refine (callsIn_wide.2 (S1.out.new (-3))).mono ?_
    rintro e X2 ⟨g2, b2, rfl, s2⟩
    rw [show max (-3 : Int) 0 = 0 by decide] at s2
    have S2 : Hid (Sep w X2 (dkP g2 b2 0 [] :: dkP g1 b1 0 [] :: dfP D :: [])) := s2
    clear s2 S1
    gi_wp2_with (first | (gi_at_call 13; fail))
    refine (callsIn_wide.2 (S2.out.swap.hold z0 (by omega) 1 (by decide))).mono ?_
    rw [show holdE 0 [] 1 = 15 by decide, show holdL 0 [] 1 = [] by decide]
    rintro e X3 ⟨rfl, s3⟩
    have S3 : Hid (Sep w X3 (dkP g2 b2 0 [] :: dkP g1 b1 0 [] :: dfP D :: [])) := s3.swap
    clear s3 S2
    gi_wp2_with (first | (gi_at_call 13; fail))
    refine (callsIn_wide.2 (S3.out.hold z0 (by omega) 1 (by decide))).mono ?_
    rw [show holdE 0 [] 1 = 15 by decide, show holdL 0 [] 1 = [] by decide]
    rintro e X4 ⟨rfl, s4⟩
    have S4 : Hid (Sep w X4 (dkP g2 b2 0 [] :: dkP g1 b1 0 [] :: dfP D :: [])) := s4
    clear s4 S3
    gi_wp2_with (first | (gi_at_call 14; fail))
    refine (callsIn_wide.2 S4.out.swap.full).mono ?_
    rw [show fullB 0 [] = true by decide]
    rintro e X5 ⟨rfl, s5⟩
    have S5 : Hid (Sep w X5 (dkP g2 b2 0 [] :: dkP g1 b1 0 [] :: dfP D :: [])) := s5.swap
    clear s5 S4
    gi_wp2_with (first | (gi_at_call 14; fail))
    refine (callsIn_wide.2 S5.out.full).mono ?_
    rw [show fullB 0 [] = true by decide]
    rintro e X6 ⟨rfl, s6⟩
    have S6 : Hid (Sep w X6 (dkP g2 b2 0 [] :: dkP g1 b1 0 [] :: dfP D :: [])) := s6
    clear s6 S5
    gi_wp2_with (first | (gi_at_call 13; fail))
    refine (callsIn_wide.2 (S6.out.swap.hold z0 (by omega) 0 (by decide))).mono ?_
    rw [show holdE 0 [] 0 = 2 by decide, show holdL 0 [] 0 = [] by decide]
    rintro e X7 ⟨rfl, s7⟩
    have S7 : Hid (Sep w X7 (dkP g2 b2 0 [] :: dkP g1 b1 0 [] :: dfP D :: [])) := s7.swap
    clear s7 S6
    gi_wp2
    have hmk : X7.heap[D]? = some (.deferred (some [])) := S7.out.drop.drop.head
    refine ⟨by simp, .inl ⟨_, _, rfl, run_takeDeferred hmk, ?_⟩⟩
    refine ⟨.bool true, ?_, rfl, S7.out.below.trans (belowK_b (w := w) (Nat.le_refl _) X7 D _ _ (S7.out.drop.drop.headLt (k := D) rfl).1 hmk rfl rfl)⟩
    simp [results]
  case stop =>
    rintro D c pre V _ _ h _
    exact h.elim
  
theorem names_walk (w : World) : Calls Try.prog 6 #[] w fun e w' => e = .returned (.bool true) ∧ Below w.heap.size w w' := callsIn_wide.1 (names_in w)
end Go.Proofs.Ytpghalekcgnefaa
