/- The document's desk: All, Hold and Drop; for lists of fewer than a million. -/
import Derived.Test.YtpghalekcgnefaaDk11
namespace Go.Proofs.Ytpghalekcgnefaa
open Go.RowKit Go.Maps
theorem infoP : (Try.prog.info? 57).map (fun i => (i.zero, i.size, i.bytes)) = some (some (.agg #[.int .i64 0, .int .i64 0]), 2, 16) := by kernel_rfl
/-- A pair is put behind a list. -/
theorem pushP {w : World} {B : Nat} {v : Value} {l : List (Int × Int)} (h : w.ownsRow B 57 2 v l.length (l.flatMap pc2)) (hB : B ≤ w.heap.size) (hn : l.length ≤ 10000000) (x : Int × Int) :
    ∃ v' w', (Builtin.append_ #[52, 52] 52 #[v, .slice (some ⟨w.heap.size, 0, none⟩) 1 1]).run Try.prog (w.alloc (.cells #[.int .i64 x.1, .int .i64 x.2] 57)) = .ok v' w' ∧ w'.ownsRow B 57 2 v' (l ++ [x]).length ((l ++ [x]).flatMap pc2) ∧ Below B w w' := by
  obtain ⟨i0, hi0, hz0, hz1, hz2⟩ := info_parts infoP
  obtain ⟨v', w', h1, h2, h3, _⟩ := own_pushF (st := 52) pc2_len pc2_one Try.underlying52 hi0 hz0 hz1 hz2 rfl (by omega) (by omega) h hB hn x 52
  exact ⟨v', w', h1, h2, h3⟩
theorem slice_of {w : World} {B e sz n : Nat} {v : Value} {xs : List Value} (h : w.ownsRow B e sz v n xs) : ∃ a k c, v = .slice a k c := by
  rcases own_form h with ⟨rfl, rfl⟩ | ⟨_, _, rfl, _⟩ <;> exact ⟨_, _, _, rfl⟩
section
variable {α : Type} {en : α → List Value} {sz : Nat}
theorem fm_put (hr : ∀ x, (en x).length = sz) : ∀ (l : List α) (i j : Nat) (x x' : α) (u : Value), l[i]? = some x → j < sz → en x' = (en x).set j u → (l.flatMap en).set (i * sz + j) u = (l.set i x').flatMap en
  | [], i, j, x, x', u, h, _, _ => by simp at h
  | y :: t, 0, j, x, x', u, h, hj, he => by
    have h' : y = x := by simpa using h
    subst h'
    rw [List.set_cons_zero, List.flatMap_cons, List.flatMap_cons, Nat.zero_mul, Nat.zero_add, List.set_append_left _ _ (by rw [hr]; exact hj), he]
  | y :: t, i + 1, j, x, x', u, h, hj, he => by
    have h' : t[i]? = some x := by simpa using h
    have e : (i + 1) * sz + j = sz + (i * sz + j) := by rw [Nat.add_mul, Nat.one_mul]; omega
    rw [List.set_cons_succ, List.flatMap_cons, List.flatMap_cons, e, List.set_append_right _ _ (by rw [hr]; omega), hr, Nat.add_sub_cancel_left, fm_put hr t i j x x' u h' hj he]
theorem own_cell (hr : ∀ x, (en x).length = sz) {B e g n c i j : Nat} {w : World} {l : List α} {x x' : α} {u : Value} (h : w.ownsRow B e sz (.slice (some ⟨g, 0, none⟩) n c) n (l.flatMap en)) (hx : l[i]? = some x) (hj : j < sz) (he : en x' = (en x).set j u) :
    (w.setCell ⟨g, i * sz + j, none⟩ u).ownsRow B e sz (.slice (some ⟨g, 0, none⟩) n c) n ((l.set i x').flatMap en) := by
  have := (World.ownsRow.stored h (i * sz + j) u).1
  rwa [fm_put hr l i j x x' u hx hj he] at this
end
section
variable {w W : World} {g : Nat} {m : Int} {v : Value} {L : List (Int × Int)} {l : List Part} {c : Nat}
set_option maxRecDepth 20000 in
theorem rall_ok (h : RfAt w g m v L) (hlen : L.length ≤ 1000000) : Calls Try.prog 25 #[.pointer (some ⟨g, 0, none⟩)] w fun e w' => ∃ v', e = .returned v' ∧ w'.ownsRow w.heap.size 57 2 v' L.length (L.flatMap pc2) ∧ Below w.heap.size w w' := by
  have HF : Hid (RfAt w g m v L) := h
  obtain ⟨p, cap, rfl, _⟩ := h.list
  obtain ⟨N, hN⟩ : ∃ N, L.length = N := ⟨_, rfl⟩
  have HN : Hid (L.length = N) := hN
  have hN1 : N ≤ 1000000 := by omega
  obtain ⟨c0, c1⟩ := h.cells
  rw [hN] at c1
  clear h hN hlen
  go_enter Try.func25, Try.ntmps25
  go_wp2
  go_loopw [3, 4] (fun s3 s4 wx => ∃ i a cc : Nat, ∃ ad, i ≤ N ∧ s4 = .int .i64 i ∧ s3 = .slice ad a cc ∧ Hid (wx.ownsRow w.heap.size 57 2 (.slice ad a cc) (L.take i).length ((L.take i).flatMap pc2)) ∧ Hid (Below w.heap.size w wx)) (fun _ s4 _ => N - (intOf s4).toNat)
  case atStart => exact ⟨0, 0, 0, none, by omega, rfl, rfl, World.ownsRow_nil _ _ _ _, Below.refl _ _⟩
  case round =>
    obtain ⟨i, a, cc, ad, hi, rfl, rfl, HO, HB⟩ := hrel
    have hf := HF.out.later HB.out
    obtain ⟨d0, d1⟩ := hf.cells
    rw [HN.out] at d1
    by_cases hi2 : i < N
    · have hln := HN.out
      have hx : L[i]? = some L[i] := List.getElem?_eq_getElem (by omega)
      obtain ⟨p', cap', e, hl⟩ := hf.list
      injection e with e1 _ e3
      subst e1 e3
      obtain ⟨b, rfl, a0, a1⟩ := hl i _ hx
      have HT : Hid (L.take (i + 1) = L.take i ++ [L[i]]) := take_next hx
      generalize L[i] = x at *
      obtain ⟨v', w2, hrun, ho2, hb2⟩ := pushP HO.out HB.out.size (by rw [List.length_take]; omega) x
      obtain ⟨ad', n', c', rfl⟩ := slice_of ho2
      have HO2 : Hid (w2.ownsRow w.heap.size 57 2 (.slice ad' n' c') (L.take (i + 1)).length ((L.take (i + 1)).flatMap pc2)) := by rw [HT.out]; exact ho2
      have HB2 : Hid (Below w.heap.size w w2) := HB.out.trans hb2
      clear hx hl ho2 hb2 hf HO HB
      go_wp2_with (at_builtin; refine wpList_app rfl (.tmp 18) (.tmp 26) rfl rfl rfl hrun ?_)
      go_roundw
      case rel => exact ⟨i + 1, _, _, _, by omega, by go_num, rfl, HO2, HB2⟩
      case measure => simp [intOf]; omega
    · obtain rfl : i = N := by omega
      have HO2 : Hid (wr.ownsRow w.heap.size 57 2 (.slice ad a cc) L.length (L.flatMap pc2)) := by
        have := HO.out
        rw [← HN.out, List.take_length] at this
        exact this
      clear hf HO
      go_wp2
      go_ret
      exact ⟨_, rfl, HO2.out, HB.out⟩
/-- What Hold and Drop leave. -/
def RfTo (w : World) (g : Nat) (m : Int) (v : Value) (L' : List (Int × Int)) (w' : World) : Prop := ∃ v', RfAt w' g m v' L' ∧ Fr (fun i => i = g ∨ v.ownBlock = some i) w w' ∧ ∀ j, v'.ownBlock = some j → v.ownBlock = some j ∨ w.heap.size ≤ j
theorem RfTo.refl (h : RfAt w g m v L) : RfTo w g m v L w := ⟨v, h, Fr.refl _ _, fun _ q => .inl q⟩
theorem RfTo.drawn (h : RfAt w g m v L) (q : Nat) : RfTo w g m v L (w.drewN q) := ⟨v, h.later (belowN (Below.refl _ _) q), Fr.ofBelow (belowN (Below.refl _ _) q), fun _ q => .inl q⟩
/-- One pair's second number is written over. -/
theorem RfTo.cell {cap n b : Nat} (h : RfAt w g m (.slice (some ⟨b, 0, none⟩) n cap) L) {i : Nat} {x : Int × Int} (hx : L[i]? = some x) (y : Int) : RfTo w g m (.slice (some ⟨b, 0, none⟩) n cap) (L.set i (x.1, y)) (w.setCell ⟨b, i * 2 + 1, none⟩ (.int .i64 y)) := by
  have hn : n = L.length := by
    rcases own_form h.own with ⟨q, _⟩ | ⟨_, _, q, _⟩
    · cases q
    · injection q
  subst hn
  have hne : g ≠ b := fun e => h.ne (by rw [e]; rfl)
  refine ⟨_, ⟨(heap_setCell_other _ _ _ _ hne).trans h.row, ?_⟩, (Fr.setCell w b (i * 2 + 1) _).mono (fun k _ q => .inr (by rw [q]; rfl)), fun _ q => .inl q⟩
  rw [List.length_set]
  exact own_cell pc2_len h.own hx (by omega) rfl
/-- The list is another one, made since. -/
theorem RfTo.list {V : World} {v' : Value} {L' : List (Int × Int)} (h : RfAt w g m v L) (hb : Below w.heap.size w V) (ho : V.ownsRow w.heap.size 57 2 v' L'.length (L'.flatMap pc2)) : RfTo w g m v L' (V.setCell ⟨g, 1, none⟩ v') := by
  have hr := heap_kept h.row hb
  refine ⟨v', ⟨heap_setCell_same _ _ _ _ _ _ hr, ?_⟩, ?_, fun j q => .inr (ho.lt j q).1⟩
  · refine own_frame (World.ownsRow.mono ho (Nat.zero_le _)) (Fr.setCell V g 1 v') fun i hi e => ?_
    have := (ho.lt i hi).1
    have := h.lt
    omega
  · exact (Fr.ofBelow (T := fun i => i = g ∨ v.ownBlock = some i) hb).trans (Fr.setCell V g 1 v') fun i _ q => .inl q
set_option maxRecDepth 20000 in
set_option maxHeartbeats 2000000 in
theorem rhold_ok (h : RfAt w g m v L) (ho : Dok m L c) (hc : c < 1000000) (k : Int) : Calls Try.prog 20 #[.pointer (some ⟨g, 0, none⟩), .int .i64 k] w fun e w' => e = .returned (.int .i64 (holdE m L k)) ∧ RfTo w g m v (holdL m L k) w' := by
  have HF : Hid (RfAt w g m v L) := h
  have HO : Hid (Dok m L c) := ho
  obtain ⟨p, cap, rfl, hl⟩ := h.list
  have HL := (show Hid _ from hl)
  obtain ⟨N, hN⟩ : ∃ N, L.length = N := ⟨_, rfl⟩
  have HN : Hid (L.length = N) := hN
  have hN1 : N ≤ 1000000 := by have := ho.lec; omega
  obtain ⟨c0, c1⟩ := h.cells
  rw [hN] at c1
  have hln := ho.len
  rw [hN] at hln
  by_cases hk1 : k < 1
  · have g1 : decide (k < 1) = true := decide_eq_true hk1
    unfold holdE holdL
    rw [if_pos hk1, if_pos hk1]
    clear h ho hl hN
    go_enter Try.func20, Try.ntmps20
    go_wp2
    go_ret
    exact ⟨rfl, RfTo.refl HF.out⟩
  have g1 : decide (k < 1) = false := decide_eq_false hk1
  obtain ⟨E, hE⟩ : ∃ E, holdE m L k = E := ⟨_, rfl⟩
  obtain ⟨L', hL'⟩ : ∃ L', holdL m L k = L' := ⟨_, rfl⟩
  have HE : Hid (holdE m L k = E ∧ holdL m L k = L') := ⟨hE, hL'⟩
  rw [hE, hL']
  clear h ho hl hN hE hL'
  go_enter Try.func20, Try.ntmps20
  go_wp2
  go_loopw [5] (fun s5 wx => ∃ i : Nat, i ≤ N ∧ s5 = .int .i64 i ∧ Hid (∀ (j : Nat) (q : Int × Int), j < i → L[j]? = some q → q.1 ≠ k) ∧ wx = w) (fun s5 _ => N - (intOf s5).toNat)
  case atStart => exact ⟨0, by omega, rfl, fun j q hj => by omega, rfl⟩
  case round =>
    obtain ⟨i, hi, rfl, HNF, hw⟩ := hrel
    obtain rfl := hw.symm
    by_cases hi2 : i < N
    · have hlnn := HN.out
      have hx : L[i]? = some L[i] := List.getElem?_eq_getElem (by omega)
      obtain ⟨b, rfl, a0, a1⟩ := HL.out i _ hx
      have HX : Hid (L[i]? = some L[i]) := hx
      generalize L[i] = x at *
      clear hx
      by_cases hk : x.1 = k
      · have hkk : (x.1 == k) = true := by simpa using hk
        have hge : getH L k = some x.2 := by
          have h1 := get_at (k := x.1) (h := x.2) HO.out.ris HX.out
          rwa [hk] at h1
        have hxv := HO.out.val x (List.mem_of_getElem? HX.out)
        have hw1 : IntKind.i64.wrap (x.2 + 1) = x.2 + 1 := by rw [IntKind.wrap_i64]; omega
        obtain ⟨e1, e2⟩ := HE.out
        unfold holdE at e1
        unfold holdL at e2
        rw [if_neg (show ¬ k < 1 by omega), hge] at e1 e2
        simp only at e1 e2
        subst e1
        rw [put_set L i k x.2 _ HO.out.ris (by rw [HX.out, ← hk]), ← hk] at e2
        have HT := RfTo.cell HF.out HX.out (x.2 + 1)
        rw [e2] at HT
        have HT2 := (show Hid _ from HT)
        have fr : w.frozen? ⟨b, i * 2 + 1, none⟩ = false := by
          rcases HF.out.own.2 with ⟨q, _⟩ | ⟨g', cap', cur, q, _, hh, _⟩
          · cases q
          · injection q with q1
            injection q1 with q1
            injection q1 with q1
            rw [← q1] at hh
            exact Joins.unfrozen_of_block hh _
        clear hk e2 hge HT hxv
        go_wp2
        go_ret
        exact ⟨rfl, HT2.out⟩
      · have hkk : (x.1 == k) = false := by simpa using hk
        have HF2 : Hid (∀ (j : Nat) (q : Int × Int), j < i + 1 → L[j]? = some q → q.1 ≠ k) := fun j q hj hq => by
          by_cases e : j = i
          · subst e
            rw [HX.out] at hq
            injection hq with hq
            rw [← hq]
            exact hk
          · exact HNF.out j q (by omega) hq
        clear hk
        go_wp2
        go_roundw
        case rel => exact ⟨i + 1, by omega, by go_num, HF2, by trivial⟩
        case measure => simp [intOf]; omega
    · obtain rfl : i = N := by omega
      have hge : getH L k = none := get_not fun j q hq => HNF.out j q (by have := (List.getElem?_eq_some_iff.1 hq).1; rw [HN.out] at this; exact this) hq
      obtain ⟨e1, e2⟩ := HE.out
      unfold holdE at e1
      unfold holdL at e2
      rw [if_neg (show ¬ k < 1 by omega), hge] at e1 e2
      simp only at e1 e2
      rw [HN.out] at e1 e2
      by_cases hful : (i : Int) = m
      · rw [if_pos hful] at e1 e2
        subst e1 e2
        have q1 : decide (m ≤ (i : Int)) = true := decide_eq_true (by omega)
        clear hge
        go_wp2
        go_quiet (fail)
        go_wp2
        go_ret
        exact ⟨rfl, RfTo.drawn HF.out _⟩
      · rw [if_neg hful] at e1 e2
        subst e1
        have q1 : decide (m ≤ (i : Int)) = false := decide_eq_false (by omega)
        have HL' : Hid (putH L k 1 = L') := e2
        have HG : Hid (getH L k = none) := hge
        clear hge e2
        go_wp2
        go_quiet (fail)
        have HYB : Hid (Below w.heap.size w (w.drewN nq)) := belowN (Below.refl _ _) _
        generalize w.drewN nq = Y at *
        go_wp2
        go_loopw [6, 7, 8] (fun s6 s7 s8 wx => ∃ (j a cc : Nat) (d : Bool) (ad : Option Addr), j ≤ i ∧ s8 = .int .i64 j ∧ s7 = .bool d ∧ s6 = .slice ad a cc ∧ Hid (wx.ownsRow w.heap.size 57 2 (.slice ad a cc) (insU k L j d).length ((insU k L j d).flatMap pc2)) ∧ Hid (InsOk k L j d) ∧ Hid (Below w.heap.size w wx)) (fun _ _ s8 _ => i - (intOf s8).toNat)
        case atStart => exact ⟨0, 0, 0, false, none, by omega, rfl, rfl, rfl, World.ownsRow_nil _ _ _ _, InsOk.start _ _, HYB⟩
        case round =>
          obtain ⟨j, a, cc, d, ad, hj, rfl, rfl, rfl, HV, HI, HB⟩ := hrel
          have hf := HF.out.later HB.out
          obtain ⟨d0, d1⟩ := hf.cells
          rw [HN.out] at d1
          have hlv : (insU k L j d).length ≤ 10000000 := by have := insU_len k L j d; rw [HN.out] at this; omega
          by_cases hj2 : j < i
          · have hlx := HN.out
            have hx : L[j]? = some L[j] := List.getElem?_eq_getElem (by omega)
            obtain ⟨p', cap', e, hl2⟩ := hf.list
            injection e with e1 _ e3
            subst e1 e3
            obtain ⟨b, rfl, a0, a1⟩ := hl2 j _ hx
            have HX : Hid (L[j]? = some L[j]) := hx
            generalize L[j] = x at *
            clear hx hl2
            cases d with
            | false =>
              by_cases hg : k < x.1
              · have hg1 : decide (k < x.1) = true := decide_eq_true hg
                obtain ⟨v1, w1, hrun1, ho1, hb1⟩ := pushP HV.out HB.out.size hlv (k, 1)
                obtain ⟨ad1, n1, cc1, rfl⟩ := slice_of ho1
                have hB1 := HB.out.trans hb1
                have hf1 := HF.out.later hB1
                obtain ⟨y0, y1⟩ := hf1.cells
                rw [HN.out] at y1
                obtain ⟨p', cap', e, hl2⟩ := hf1.list
                injection e with e1 _ e3
                subst e1 e3
                obtain ⟨b', e', b0, b1⟩ := hl2 j _ HX.out
                injection e' with e'
                injection e' with e'
                subst e'
                obtain ⟨v2, w2, hrun2, ho2, hb2⟩ := pushP ho1 hB1.size (by rw [List.length_append]; simp only [List.length_singleton]; have := insU_len k L j false; rw [HN.out] at this; omega) x
                obtain ⟨ad2, n2, cc2, rfl⟩ := slice_of ho2
                obtain ⟨hi1, hi3⟩ := HI.out.put HX.out hg
                have HV2 : Hid (w2.ownsRow w.heap.size 57 2 (.slice ad2 n2 cc2) (insU k L (j + 1) true).length ((insU k L (j + 1) true).flatMap pc2)) := by rw [hi3]; exact ho2
                have HB2 : Hid (Below w.heap.size w w2) := hB1.trans hb2
                have HI2 : Hid (InsOk k L (j + 1) true) := hi1
                clear ho1 hb1 ho2 hb2 hf hf1 hB1 HV HB hl2 hi1 hi3 hg
                go_wp2_with (first | (at_builtin; refine wpList_app rfl (.tmp 76) (.tmp 79) rfl rfl rfl hrun1 ?_) | (at_builtin; refine wpList_app rfl (.tmp 81) (.tmp 89) rfl rfl rfl hrun2 ?_))
                go_roundw
                case rel => exact ⟨j + 1, _, _, true, _, by omega, by go_num, rfl, rfl, HV2, HI2, HB2⟩
                case measure => simp [intOf]; omega
              · have hg1 : decide (k < x.1) = false := decide_eq_false hg
                obtain ⟨v2, w2, hrun2, ho2, hb2⟩ := pushP HV.out HB.out.size hlv x
                obtain ⟨ad2, n2, cc2, rfl⟩ := slice_of ho2
                obtain ⟨hi1, hi3⟩ := HI.out.go HX.out hg
                have HV2 : Hid (w2.ownsRow w.heap.size 57 2 (.slice ad2 n2 cc2) (insU k L (j + 1) false).length ((insU k L (j + 1) false).flatMap pc2)) := by rw [hi3]; exact ho2
                have HB2 : Hid (Below w.heap.size w w2) := HB.out.trans hb2
                have HI2 : Hid (InsOk k L (j + 1) false) := hi1
                clear ho2 hb2 hf HV HB hi1 hi3 hg
                go_wp2_with (first | (at_builtin; refine wpList_app rfl (.tmp 81) (.tmp 89) rfl rfl rfl hrun2 ?_))
                go_roundw
                case rel => exact ⟨j + 1, _, _, false, _, by omega, by go_num, rfl, rfl, HV2, HI2, HB2⟩
                case measure => simp [intOf]; omega
            | true =>
              obtain ⟨v2, w2, hrun2, ho2, hb2⟩ := pushP HV.out HB.out.size hlv x
              obtain ⟨ad2, n2, cc2, rfl⟩ := slice_of ho2
              obtain ⟨hi1, hi3⟩ := HI.out.more HX.out
              have HV2 : Hid (w2.ownsRow w.heap.size 57 2 (.slice ad2 n2 cc2) (insU k L (j + 1) true).length ((insU k L (j + 1) true).flatMap pc2)) := by rw [hi3]; exact ho2
              have HB2 : Hid (Below w.heap.size w w2) := HB.out.trans hb2
              have HI2 : Hid (InsOk k L (j + 1) true) := hi1
              clear ho2 hb2 hf HV HB hi1 hi3
              go_wp2_with (first | (at_builtin; refine wpList_app rfl (.tmp 81) (.tmp 89) rfl rfl rfl hrun2 ?_))
              go_roundw
              case rel => exact ⟨j + 1, _, _, true, _, by omega, by go_num, rfl, rfl, HV2, HI2, HB2⟩
              case measure => simp [intOf]; omega
          · obtain rfl : j = i := by omega
            cases d with
            | true =>
              have HV2 : Hid (wr.ownsRow w.heap.size 57 2 (.slice ad a cc) L'.length (L'.flatMap pc2)) := by
                have h1 := HV.out
                have h2 := ins_done HG.out
                rw [HN.out, HL'.out] at h2
                rwa [h2] at h1
              have HT := RfTo.list HF.out HB.out HV2.out
              have HT2 := (show Hid _ from HT)
              have fr : wr.frozen? ⟨g, 1, none⟩ = false := frozen_row hf.row 1
              clear HT HV hf
              go_wp2
              go_ret
              exact ⟨rfl, HT2.out⟩
            | false =>
              obtain ⟨v2, w2, hrun2, ho2, hb2⟩ := pushP HV.out HB.out.size hlv (k, 1)
              obtain ⟨ad2, n2, cc2, rfl⟩ := slice_of ho2
              have HV2 : Hid (w2.ownsRow w.heap.size 57 2 (.slice ad2 n2 cc2) L'.length (L'.flatMap pc2)) := by
                have hi := HI.out
                rw [← HN.out] at hi
                have h2 := hi.last HG.out
                rw [HN.out, HL'.out] at h2
                rwa [h2] at ho2
              have hB2 := HB.out.trans hb2
              have hf2 := HF.out.later hB2
              obtain ⟨y0, y1⟩ := hf2.cells
              rw [HN.out] at y1
              have HT := RfTo.list HF.out hB2 HV2.out
              have HT2 := (show Hid _ from HT)
              have fr : w2.frozen? ⟨g, 1, none⟩ = false := frozen_row hf2.row 1
              clear HT HV hf ho2 hb2 hB2 hf2
              go_wp2_with (first | (at_builtin; refine wpList_app rfl (.tmp 93) (.tmp 96) rfl rfl rfl hrun2 ?_))
              go_ret
              exact ⟨rfl, HT2.out⟩
end
end Go.Proofs.Ytpghalekcgnefaa
