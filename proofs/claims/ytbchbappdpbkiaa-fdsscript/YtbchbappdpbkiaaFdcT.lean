/- The program's table of things of one type: Open, Close, and all calls beside whatever lies apart; fewer than ten million rows; no other condition. -/
import Derived.Test.YtbchbappdpbkiaaFdbT
namespace Go.Proofs.Ytbchbappdpbkiaa
open Go.RowKit Go.Maps
theorem isZeroT {ops : Array Oper} {rest : List Oper} {Q : Exit → Act → World → Prop} {a : Act} {w : World} {dst : Option Tmp} {ty : TypeId} {pos : String} {aft : Array Edge} {gd : Option (Nat × Bool)} (h : wpList Try.prog ops Q (⟨dst, .build 96 #[], ty, pos, aft, gd⟩ :: rest) a w) : wpList Try.prog ops Q (⟨dst, .build 96 #[], ty, pos, aft, gd⟩ :: rest) a w := h
section
variable {w W W' : World} {g le : Nat} {v : Value} {m : Int} {R : List (Option ByteArray)} {l : List Part}
theorem rowneT {b c n : Nat} {xs : List Value} {Z : Array Value} (hg : w.heap[g]? = some (.cells Z 64)) (ho : w.ownsRow 0 96 2 (.slice (some ⟨b, 0, none⟩) n c) n xs) : g ≠ b := fun e => by
  obtain ⟨_, h2⟩ := ho
  rcases h2 with ⟨q, _⟩ | ⟨b', cap, cur, q, _, hh, _⟩
  · cases q
  · injection q with q1
    injection q1 with q1
    injection q1 with q1
    rw [e, q1, hh] at hg
    injection hg with hg
    injection hg with _ hg
    exact absurd hg (by decide)
theorem putT {b c k : Nat} {r : Option ByteArray} (h : w.ownsRow 0 96 2 (.slice (some ⟨b, 0, none⟩) R.length c) R.length (R.flatMap enT)) (hk : k < R.length) :
    ∃ cur, w.heap[b]? = some (.cells cur 96) ∧ k * 2 + (enT r).length ≤ cur.size ∧ (w.setRow b (putE cur (k * 2) (enT r))).ownsRow 0 96 2 (.slice (some ⟨b, 0, none⟩) R.length c) (R.set k r).length ((R.set k r).flatMap enT) := by
  obtain ⟨cur, h1, h2, h3⟩ := own_set lenT (x := r) h rfl hk
  exact ⟨cur, h1, by rw [lenT]; exact h2, by rw [List.length_set]; exact h3⟩
theorem ownbT {R : List (Option ByteArray)} {n : Nat} (h : w.ownsRow 0 96 2 v n (R.flatMap enT)) (hn : R.length = n) (h0 : 0 < R.length) : ∃ b c, v = .slice (some ⟨b, 0, none⟩) R.length c ∧ b < w.heap.size := by
  rcases own_form h with ⟨rfl, q⟩ | ⟨b, c, rfl, hl⟩
  · omega
  · exact ⟨b, c, by rw [hn], hl⟩
set_option maxRecDepth 20000 in
theorem midT (x : ByteArray) (h : w.heap[g]? = some (.cells (tbT g m (cnt R) le v) 64)) {R1 : List (Option ByteArray)} (ho : w.ownsRow 0 96 2 v R1.length (R1.flatMap enT)) (hk : lf R < R1.length) (hs : R1.set (lf R) (some x) = openR R x) (hcm : (cnt R : Int) < m) (htop : m ≤ 9223372036854775807) :
    ∃ b c cur i, v = .slice (some ⟨b, 0, none⟩) R1.length c ∧ b < w.heap.size ∧ w.heap[b]? = some (.cells cur 96) ∧ Try.prog.info? 96 = some i ∧ i.size = (enT (some x)).length ∧ lf R * 2 + (enT (some x)).length ≤ cur.size ∧ g ≠ b ∧
      (w.setRow b (putE cur (lf R * 2) (enT (some x)))).cell? ⟨g, 2, none⟩ = some (.int .i64 (cnt R)) ∧ (w.setRow b (putE cur (lf R * 2) (enT (some x)))).cell? ⟨g, 3, none⟩ = some (.int .i64 le) ∧ (w.setRow b (putE cur (lf R * 2) (enT (some x)))).frozen? ⟨g, 2, none⟩ = false ∧ (w.setRow b (putE cur (lf R * 2) (enT (some x)))).frozen? ⟨g, 3, none⟩ = false ∧
      TabT (((w.setRow b (putE cur (lf R * 2) (enT (some x)))).setCell ⟨g, 2, none⟩ (.int .i64 ((cnt R : Int) + 1))).setCell ⟨g, 3, none⟩ (.int .i64 ((lf R : Int) + 1))) g v (lf R + 1) m (openR R x) := by
  obtain ⟨b, c, rfl, hb⟩ := ownbT ho rfl (by omega)
  obtain ⟨cur, h1, h2, h3⟩ := putT (r := some x) ho hk
  obtain ⟨i0, hi0, hz0, hz1, hz2⟩ := info_parts infT
  have hne := rowneT h ho
  have r1 : (w.setRow b (putE cur (lf R * 2) (enT (some x)))).heap[g]? = some (.cells (tbT g m (cnt R) le (.slice (some ⟨b, 0, none⟩) R1.length c)) 64) := (setRow_other _ _ _ _ hne).trans h
  have r2 := heap_setCell_same _ g 2 _ _ (.int .i64 ((cnt R : Int) + 1)) r1
  have r3 := heap_setCell_same _ g 3 _ _ (.int .i64 ((lf R : Int) + 1)) r2
  refine ⟨b, c, cur, i0, rfl, hb, h1, hi0, by rw [hz1, lenT], h2, hne, by rw [cell_of_row _ _ _ _ _ _ r1]; rfl, by rw [cell_of_row _ _ _ _ _ _ r1]; rfl, frozen_row r1 2, frozen_row r1 3, ?_⟩
  have hT : TabT (((w.setRow b (putE cur (lf R * 2) (enT (some x)))).setCell ⟨g, 2, none⟩ (.int .i64 ((cnt R : Int) + 1))).setCell ⟨g, 3, none⟩ (.int .i64 ((lf R : Int) + 1))) g (.slice (some ⟨b, 0, none⟩) R1.length c) (lf R + 1) m (openR R x) := by
    refine ⟨?_, ?_, lf_open R x, by rw [cnt_open]; omega, htop⟩
    · rw [cnt_open]
      refine r3.trans ?_
      rw [show ((cnt R + 1 : Nat) : Int) = (cnt R : Int) + 1 by omega, show ((lf R + 1 : Nat) : Int) = (lf R : Int) + 1 by omega]
      simp only [tbT, List.setIfInBounds_toArray, List.set_cons_succ, List.set_cons_zero]
    · rw [← hs]
      obtain ⟨q1, q2⟩ := h3
      refine ⟨q1, ?_⟩
      rcases q2 with q2 | ⟨b', cap, cur', q, q3, q4, q5⟩
      · exact .inl q2
      · refine .inr ⟨b', cap, cur', q, q3, ?_, q5⟩
        have eb : b' = b := by injection q with e1; injection e1 with e1; injection e1 with e1; exact e1.symm
        subst eb
        exact ((heap_setCell_other _ _ _ _ (by exact hne.symm)).trans (heap_setCell_other _ _ _ _ (by exact hne.symm))).trans q4
  exact hT
set_option maxRecDepth 20000 in
theorem open_okT (h : TabT w g v le m R) (hl : R.length ≤ 10000000) (x : ByteArray) : Calls Try.prog 40 #[.pointer (some ⟨g, 0, none⟩), thT (some x)] w fun e w' => e = .returned (.tuple #[.int .i64 (openN R m), .int .i64 (openE R m)]) ∧ ToT w g v m (openT R m x) w' := by
  have HT : Hid (TabT w g v le m R) := h
  have hful := full_okT h
  have hcm := h.cnm
  have htop := h.top
  obtain ⟨c0, c1, c2, c3, c4⟩ := h.cells
  unfold openN openE openT
  by_cases hfu : (cnt R : Int) = m
  · rw [if_pos hfu, if_pos hfu, if_pos hfu]
    rw [show decide ((cnt R : Int) = m) = true from decide_eq_true hfu] at hful
    clear h hcm
    unfold thT
    go_enter Try.func40, Try.ntmps40
    go_wp2_with (first | (go_at_call 59; refine (none_noT c0).mono ?_; rintro e W ⟨rfl, rfl⟩) | (go_at_call 46; fail))
    refine hful.mono ?_
    rintro e W1 ⟨rfl, hb⟩
    have HB : Hid (Below W.heap.size W W1) := hb
    clear hb hful
    go_wp2
    go_ret2
    exact ⟨rfl, _, _, HT.out.later HB.out, Fr.ofBelow HB.out, fun k q => .inl q⟩
  · rw [if_neg hfu, if_neg hfu, if_neg hfu]
    rw [show decide ((cnt R : Int) = m) = false from decide_eq_false hfu] at hful
    have hlt : (cnt R : Int) < m := by omega
    clear h hcm
    unfold thT
    go_enter Try.func40, Try.ntmps40
    go_wp2_with (first | (go_at_call 59; refine (none_noT c0).mono ?_; rintro e W ⟨rfl, rfl⟩) | (go_at_call 46; fail))
    refine hful.mono ?_
    rintro e W1 ⟨rfl, hb⟩
    have HB : Hid (Below W.heap.size W W1) := hb
    have HU : Hid (TabT W1 g v le m R) := HT.out.later hb
    clear hb hful c0 c1 c2 c3 c4
    obtain ⟨c0, c1, c2, c3, c4⟩ := HU.out.cells
    have hfr := free_okT HU.out (by omega)
    have hll := lf_le R
    have hcl := cnt_le R
    have hq0 : cnt R ≤ 10000000 := by omega
    have hes := openR_set R x
    obtain ⟨p, c, hv, _⟩ := HU.out.form
    have HV : Hid (v = .slice p R.length c) := hv
    rw [hv] at c4
    by_cases hlen : lf R = R.length
    · have hq : ((lf R : Int) == (R.length : Int)) = true := by simp [hlen]
      rw [if_pos hlen] at hes
      obtain ⟨v1, Wa, hrun, hown, hfr1, hob⟩ := pushT HU.out.own hl 62
      have rowa := (hfr1.block g HU.out.lt (fun q => own_ne HU.out.own HU.out.row (by decide) q)).trans HU.out.row
      obtain ⟨b1, c1, rfl, _⟩ := ownbT hown rfl (by simp)
      have hne1 := rowneT rowa hown
      have rowb := heap_setCell_same Wa g 4 _ _ (.slice (some ⟨b1, 0, none⟩) (R ++ [none]).length c1) rowa
      have hownb := own_frame hown (Fr.setCell Wa g 4 (.slice (some ⟨b1, 0, none⟩) (R ++ [none]).length c1)) (fun i q e => by injection q with q; exact hne1 (e.symm.trans q.symm))
      obtain ⟨b, c', cur, i, hv, hb, hbc, hi, hsz, hfit, hne, e2, e3, y2, y3, hT⟩ := midT (le := le) x rowb hownb (by rw [hlen]; simp) hes.symm hlt htop
      obtain ⟨rfl, rfl⟩ : b1 = b ∧ c1 = c' := by injection hv with q1 q2 q3; injection q1 with q1; injection q1 with q1; exact ⟨q1, q3⟩
      have d0 := (cell_of_row Wa g 0 _ _ _ rowa).trans rfl
      have d2 := (cell_of_row Wa g 2 _ _ _ rowa).trans rfl
      have d4 := (cell_of_row Wa g 4 _ _ _ rowa).trans rfl
      have z2 := frozen_row rowa 2
      have z3 := frozen_row rowa 3
      have z4 := frozen_row rowa 4
      rw [HV.out] at d4 hrun
      have hTo : Hid (ToT W g v m (openR R x) (((((Wa.setCell ⟨g, 4, none⟩ (.slice (some ⟨b1, 0, none⟩) (R ++ [none]).length c1)).setRow b1 (putE cur (lf R * 2) (enT (some x)))).setCell ⟨g, 2, none⟩ (.int .i64 ((cnt R : Int) + 1))).setCell ⟨g, 3, none⟩ (.int .i64 ((lf R : Int) + 1))))) := by
        have hsz := HB.out.size
        refine ⟨_, _, hT, ?_, fun k hk => ?_⟩
        · have f1 := (Fr.ofBelow (T := fun k => k = g ∨ v.ownBlock = some k) HB.out).trans hfr1 (fun i _ q => .inr q)
          have f2 := f1.trans (Fr.setCell Wa g 4 (.slice (some ⟨b1, 0, none⟩) (R ++ [none]).length c1)) (fun i _ q => .inl q)
          have f3 := f2.trans (Fr.setRow _ b1 (putE cur (lf R * 2) (enT (some x)))) (fun i hi q => by
            subst q
            rcases hob i rfl with q | q
            · exact .inr q
            · omega)
          exact (f3.trans (Fr.setCell _ g 2 _) (fun i _ q => .inl q)).trans (Fr.setCell _ g 3 _) (fun i _ q => .inl q)
        · have hk' : b1 = k := by injection hk
          subst hk'
          rcases hob b1 rfl with q | q
          · exact .inl q
          · exact .inr (by omega)
      have hN1 : lf R < (R ++ [none]).length := by rw [List.length_append]; simp; omega
      have hn0 : lf R ≤ 10000000 := by omega
      clear hT hob hfr1 hown hownb hes hll hl rowa rowb hcl hv
      generalize (R ++ [none]).length = N1 at *
      generalize R.length = N at *
      obtain ⟨n, hn⟩ : ∃ n, lf R = n := ⟨_, rfl⟩
      have HN : Hid (lf R = n) := hn
      rw [hn] at hfr hq hTo hN1 hn0 hlen hfit e2 e3 y2 y3
      generalize cnt R = q at *
      clear hn
      subst hlen
      go_wp2_with (first | (go_at_call 60; refine hfr.mono ?_; rintro e W2 ⟨rfl, rfl⟩) | (at_builtin; refine wpList_app rfl (.tmp 26) (.tmp 28) rfl rfl rfl hrun ?_) | (with_reducible refine isStoreR 96 ?_; refine wpList_stAt 96 96 rfl (.tmp 39) (.tmp 38) rfl b1 (n * 2) (enT (some x)) cur i hi hsz rfl rfl hbc hfit (oneT _) ?_))
      go_ret2
      exact ⟨by rw [HN.out]; rfl, hTo.out⟩
    · have hq : ((lf R : Int) == (R.length : Int)) = false := by simp; omega
      rw [if_neg hlen] at hes
      obtain ⟨b, c', cur, i, hvb, hb, hbc, hi, hsz, hfit, hne, e2, e3, y2, y3, hT⟩ := midT x HU.out.row HU.out.own (by omega) hes.symm hlt htop
      obtain ⟨rfl, rfl⟩ : p = some ⟨b, 0, none⟩ ∧ c = c' := by rw [hv] at hvb; injection hvb with q1 q2 q3; exact ⟨q1, q3⟩
      have hnN : lf R < R.length := by omega
      have hn0 : lf R ≤ 10000000 := by omega
      have hTo : Hid (ToT W g v m (openR R x) (((W1.setRow b (putE cur (lf R * 2) (enT (some x)))).setCell ⟨g, 2, none⟩ (.int .i64 ((cnt R : Int) + 1))).setCell ⟨g, 3, none⟩ (.int .i64 ((lf R : Int) + 1)))) := by
        refine ⟨_, _, hT, ?_, fun k hk => .inl hk⟩
        have f1 : Fr (fun k => k = g ∨ v.ownBlock = some k) W W1 := Fr.ofBelow HB.out
        have f3 := f1.trans (Fr.setRow _ b (putE cur (lf R * 2) (enT (some x)))) (fun i hi q => .inr (by rw [q, hv]; rfl))
        exact (f3.trans (Fr.setCell _ g 2 _) (fun i _ q => .inl q)).trans (Fr.setCell _ g 3 _) (fun i _ q => .inl q)
      clear hT hcl hv hvb hes hll hl
      generalize R.length = N at *
      obtain ⟨n, hn⟩ : ∃ n, lf R = n := ⟨_, rfl⟩
      have HN : Hid (lf R = n) := hn
      rw [hn] at hfr hq hTo hnN hn0 hlen hfit e2 e3 y2 y3
      generalize cnt R = q at *
      clear hn
      go_wp2_with (first | (go_at_call 60; refine hfr.mono ?_; rintro e W2 ⟨rfl, rfl⟩) | (with_reducible refine isStoreR 96 ?_; refine wpList_stAt 96 96 rfl (.tmp 39) (.tmp 38) rfl b (n * 2) (enT (some x)) cur i hi hsz rfl rfl hbc hfit (oneT _) ?_))
      go_ret2
      exact ⟨by rw [HN.out]; rfl, hTo.out⟩
set_option maxRecDepth 20000 in
theorem midcT {k : Nat} {x : ByteArray} (h : TabT w g v le m R) (hk : R[k]? = some (some x)) (j : Nat) (hj : j = min le k) :
    ∃ b c cur i, v = .slice (some ⟨b, 0, none⟩) R.length c ∧ b < w.heap.size ∧ w.heap[b]? = some (.cells cur 96) ∧ Try.prog.info? 96 = some i ∧ i.size = (enT none).length ∧ k * 2 + (enT none).length ≤ cur.size ∧ g ≠ b ∧ 1 ≤ cnt R ∧
      (w.setRow b (putE cur (k * 2) (enT none))).cell? ⟨g, 2, none⟩ = some (.int .i64 (cnt R)) ∧ (w.setRow b (putE cur (k * 2) (enT none))).cell? ⟨g, 3, none⟩ = some (.int .i64 le) ∧ (w.setRow b (putE cur (k * 2) (enT none))).frozen? ⟨g, 2, none⟩ = false ∧ (w.setRow b (putE cur (k * 2) (enT none))).frozen? ⟨g, 3, none⟩ = false ∧
      ToT w g v m (R.set k none) (((w.setRow b (putE cur (k * 2) (enT none))).setCell ⟨g, 2, none⟩ (.int .i64 ((cnt R : Int) - 1))).setCell ⟨g, 3, none⟩ (.int .i64 (j : Int))) := by
  have hkl := (List.getElem?_eq_some_iff.1 hk).1
  have hrow := h.row
  have hcs := cnt_set_none R k x hk
  obtain ⟨b, c, rfl, hb⟩ := ownbT h.own rfl (by omega)
  obtain ⟨cur, h1, h2, h3⟩ := putT (r := none) h.own hkl
  obtain ⟨i0, hi0, hz0, hz1, hz2⟩ := info_parts infT
  have hne := rowneT hrow h.own
  have r1 : (w.setRow b (putE cur (k * 2) (enT none))).heap[g]? = some (.cells (tbT g m (cnt R) le (.slice (some ⟨b, 0, none⟩) R.length c)) 64) := (setRow_other _ _ _ _ hne).trans hrow
  have r2 := heap_setCell_same _ g 2 _ _ (.int .i64 ((cnt R : Int) - 1)) r1
  have r3 := heap_setCell_same _ g 3 _ _ (.int .i64 (j : Int)) r2
  refine ⟨b, c, cur, i0, rfl, hb, h1, hi0, by rw [hz1, lenT], h2, hne, by omega, by rw [cell_of_row _ _ _ _ _ _ r1]; rfl, by rw [cell_of_row _ _ _ _ _ _ r1]; rfl, frozen_row r1 2, frozen_row r1 3, .slice (some ⟨b, 0, none⟩) R.length c, j, ⟨?_, ?_, ?_, ?_, h.top⟩, ?_, fun k hk => .inl hk⟩
  · rw [show ((cnt (R.set k none) : Nat) : Int) = (cnt R : Int) - 1 by omega]
    refine r3.trans ?_
    simp only [tbT, List.setIfInBounds_toArray, List.set_cons_succ, List.set_cons_zero]
  · obtain ⟨q1, q2⟩ := h3
    refine ⟨q1, ?_⟩
    rw [List.length_set] at q2 ⊢
    rcases q2 with q2 | ⟨b', cap, cur', q, q3, q4, q5⟩
    · exact .inl q2
    · refine .inr ⟨b', cap, cur', q, q3, ?_, q5⟩
      have eb : b' = b := by injection q with e1; injection e1 with e1; injection e1 with e1; exact e1.symm
      subst eb
      exact ((heap_setCell_other _ _ _ _ (by exact hne.symm)).trans (heap_setCell_other _ _ _ _ (by exact hne.symm))).trans q4
  · rw [hj]; exact lf_close h.lel hk
  · have := h.cnm; omega
  · have f3 := (Fr.refl (fun k => k = g ∨ (Value.slice (some ⟨b, 0, none⟩) R.length c).ownBlock = some k) w).trans (Fr.setRow w b (putE cur (k * 2) (enT none))) (fun i hi q => .inr (by rw [q]; rfl))
    exact (f3.trans (Fr.setCell _ g 2 _) (fun i _ q => .inl q)).trans (Fr.setCell _ g 3 _) (fun i _ q => .inl q)
set_option maxRecDepth 20000 in
theorem close_okT (h : TabT w g v le m R) (hl : R.length ≤ 10000000) (fd : Int) : Calls Try.prog 44 #[.pointer (some ⟨g, 0, none⟩), .int .i64 fd] w fun e w' => e = .returned (.tuple #[thT (getO R fd), .int .i64 (refV R fd)]) ∧ ToT w g v m (closeR R fd) w' := by
  have HT : Hid (TabT w g v le m R) := h
  have hr := get_okT h fd
  obtain ⟨c0, c1, c2, c3, c4⟩ := h.cells
  rcases fd_cases R fd with ⟨k, x, rfl, hk, h1, h2, h3, _⟩ | ⟨h1, h2, h3, _⟩
  · rw [h2, h3]
    rw [h1, h2] at hr
    rw [h1]
    have hkN := (List.getElem?_eq_some_iff.1 hk).1
    have hll := lf_le R
    have hlel := h.lel
    have hcl := cnt_le R
    obtain ⟨j, hj⟩ : ∃ j, j = min le k := ⟨_, rfl⟩
    obtain ⟨b, c, cur, i, hv, hb, hbc, hi, hsz, hfit, hne, hc1, e2, e3, y2, y3, hT⟩ := midcT h hk j hj
    have hTo := (show Hid _ from hT)
    have hmin : min (le : Int) (k : Int) = (j : Int) := by omega
    have hle0 : le ≤ 10000000 := by omega
    have hc0 : cnt R ≤ 10000000 := by omega
    rw [hv] at c4
    have HJ : Hid (j = min le k) := hj
    clear h hk h1 h2 h3 hT hj hcl hlel hll hv hl
    generalize cnt R = q at *
    generalize R.length = N at *
    show Calls _ _ _ _ fun e w' => e = .returned (.tuple #[thT (some x), .int .i64 0]) ∧ ToT w g v m (R.set k none) w'
    unfold thT at hr ⊢
    go_enter Try.func44, Try.ntmps44
    go_wp2_with (first | (go_at_call 42; refine hr.mono ?_; rintro e W ⟨rfl, rfl⟩) | (with_reducible refine isStoreR 96 ?_; refine wpList_stAt 96 96 rfl (.tmp 24) (.tmp 23) rfl b (k * 2) (enT none) cur i hi hsz rfl rfl hbc hfit (oneT _) ?_))
    all_goals go_ret2
    all_goals first | (rw [show j = k by have := HJ.out; omega] at hTo; exact ⟨rfl, hTo.out⟩) | (rw [show j = le by have := HJ.out; omega] at hTo; exact ⟨rfl, hTo.out⟩)
  · rw [h2, h3]
    rw [h1, h2] at hr
    rw [h1]
    show Calls _ _ _ _ fun e w' => e = .returned (.tuple #[.string ⟨#[]⟩, .int .i64 13]) ∧ ToT w g v m R w'
    unfold thT at hr
    clear h h1 h2 h3
    go_enter Try.func44, Try.ntmps44
    go_wp2_with (first | (go_at_call 42; refine hr.mono ?_; rintro e W ⟨rfl, rfl⟩))
    go_ret2
    exact ⟨rfl, _, _, HT.out, Fr.refl _ _, fun k q => .inl q⟩
/- The calls beside whatever lies apart. -/
theorem sep_openT (h : Sep w W (tpT g v le m R :: l)) (hl : R.length ≤ 10000000) (x : ByteArray) : Calls Try.prog 40 #[.pointer (some ⟨g, 0, none⟩), thT (some x)] W fun e W' => e = .returned (.tuple #[.int .i64 (openN R m), .int .i64 (openE R m)]) ∧ ∃ v' le', Sep w W' (tpT g v' le' m (openT R m x) :: l) :=
  (open_okT h.head hl x).mono fun _ _ ⟨e, hT⟩ => ⟨e, sep_toT h hT⟩
theorem sep_closeT (h : Sep w W (tpT g v le m R :: l)) (hl : R.length ≤ 10000000) (fd : Int) : Calls Try.prog 44 #[.pointer (some ⟨g, 0, none⟩), .int .i64 fd] W fun e W' => e = .returned (.tuple #[thT (getO R fd), .int .i64 (refV R fd)]) ∧ ∃ v' le', Sep w W' (tpT g v' le' m (closeR R fd) :: l) :=
  (close_okT h.head hl fd).mono fun _ _ ⟨e, hT⟩ => ⟨e, sep_toT h hT⟩
theorem sep_setT (h : Sep w W (tpT g v le m R :: l)) (fd : Int) (x : ByteArray) : Calls Try.prog 43 #[.pointer (some ⟨g, 0, none⟩), .int .i64 fd, thT (some x)] W fun e W' => e = .returned (.int .i64 (refV R fd)) ∧ ∃ v' le', Sep w W' (tpT g v' le' m (setR R fd x) :: l) :=
  (set_okT h.head fd x).mono fun _ _ ⟨e, hT, hF⟩ => ⟨e, sep_toT h ⟨v, le, hT, hF.mono (fun _ _ q => .inr q), fun _ q => .inl q⟩⟩
theorem sep_fullT (h : Sep w W (tpT g v le m R :: l)) : Calls Try.prog 46 #[.pointer (some ⟨g, 0, none⟩)] W fun e W' => e = .returned (.bool (decide ((cnt R : Int) = m))) ∧ Sep w W' (tpT g v le m R :: l) :=
  (full_okT h.head).mono fun _ _ ⟨e, hb⟩ => ⟨e, h.later hb⟩
end
end Go.Proofs.Ytbchbappdpbkiaa
