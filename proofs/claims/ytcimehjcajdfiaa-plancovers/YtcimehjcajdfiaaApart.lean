/- Lists of pieces that lie apart are told apart; at most 100000 pieces each. -/
import Derived.Test.YtcimehjcajdfiaaApG
namespace Go.Proofs.Ytcimehjcajdfiaa
open Go.RowKit Go.Maps
def mkB (c : Int) (j : Nat) : Int × Int := (c, j)
/-- n marks of one kind, then marks of another. -/
def mkC (n : Nat) (c d : Int) (j : Nat) : Int × Int := if j < n then (c, j) else (d, 0)
theorem mkC_lt {n j : Nat} (c d : Int) (h : j < n) : mkC n c d j = (c, (j : Int)) := if_pos h
theorem mkC_ge {n j : Nat} (c d : Int) (h : ¬ j < n) : mkC n c d j = (d, 0) := if_neg h
theorem mks_mkC (n : Nat) (c d : Int) : mks (mkB c) n = mks (mkC n c d) n := by
  unfold mks
  apply List.map_congr_left
  intro j hj
  rw [mkC_lt c d (List.mem_range.1 hj)]
  rfl
theorem wpList_app {ops : Array Oper} {rest : List Oper} {o : Oper} {a : Act} {W W' : World} {v v' : Value} {ad : Addr} {m c : Nat} {st : TypeId} {Q : Exit → Act → World → Prop} (hgd : o.guard = none) (s y : Operand)
    (ho : o.op = .call { callee := .builtin .append, args := #[s, y], argTypes := #[st, st] }) (hs : a.eval s = v) (hx : a.eval y = .slice (some ad) m c)
    (hr : (Builtin.append_ #[st, st] o.type #[v, .slice (some ad) m c]).run Try.prog W = .ok v' W') (h : wpList Try.prog ops Q rest (a.put o.dst v') W') : wpList Try.prog ops Q (o :: rest) a W :=
  wpList_plain hgd fun _ hK => by
    unfold Oper.wp
    rw [exec_push ho hs hx hr]
    exact hK _ _ h
/-- What a list that was gone on with holds at k. -/
theorem Dbl.at1 {mk1 mk2 : Nat → Int × Int} {v1 v2 u1 u2 : Value} {n1 n2 i j : Nat} {W w : World} (h : Dbl mk1 mk2 v1 v2 n1 n2 W i j u1 u2 w) (hi : 0 < i) :
    ∃ g c, u1 = .slice (some ⟨g, 0, none⟩) (n1 + i) c ∧ ∀ k, k < n1 + i → w.cell? ⟨g, k * 2, none⟩ = some (.int .i64 (mk1 k).1) ∧ w.cell? ⟨g, k * 2 + 1, none⟩ = some (.int .i64 (mk1 k).2) := by
  have ho := h.own1
  rcases own_form ho with ⟨_, q⟩ | ⟨g, c, rfl, _⟩
  · omega
  · refine ⟨g, c, rfl, fun k hk => ?_⟩
    have hc := own_get pc2_len ho (mks_get mk1 (n1 + i) k hk)
    exact ⟨hc 0 _ rfl, hc 1 _ rfl⟩
theorem Dbl.old1 {mk1 mk2 : Nat → Int × Int} {v1 v2 u1 u2 : Value} {n1 n2 i j : Nat} {W w : World} (h : Dbl mk1 mk2 v1 v2 n1 n2 W i j u1 u2 w) (hn : 0 < n1) :
    ∃ g c, v1 = .slice (some ⟨g, 0, none⟩) n1 c ∧ ∀ k, k < n1 → w.cell? ⟨g, k * 2, none⟩ = some (.int .i64 (mk1 k).1) := by
  obtain ⟨g, c, hv, _, hc⟩ := h.keep1 hn
  exact ⟨g, c, hv, fun k hk => hc k hk 0 _ rfl⟩
set_option maxRecDepth 20000 in
set_option maxHeartbeats 2000000 in
theorem apart_any (l m : List (Int × Int)) (p q : Option Addr) (cp cq B : Nat) (w : World) (hl : l.length ≤ 100000) (hm : m.length ≤ 100000) (hB : B ≤ w.heap.size)
    (h1 : OwnP w B (.slice p l.length cp) l) (h2 : OwnP w B (.slice q m.length cq) m) (hne : ∀ b, (Value.slice p l.length cp).ownBlock = some b → (Value.slice q m.length cq).ownBlock ≠ some b) :
    Calls Try.prog 12 #[.slice p l.length cp, .slice q m.length cq] w fun e w' => e = .returned (.bool true) ∧ Below B w w' := by
  unfold OwnP at h1 h2
  have HL : Hid (∃ a b, l.length = a ∧ m.length = b) := ⟨_, _, rfl, rfl⟩
  obtain ⟨n1, n2, e1, e2⟩ := HL.out
  rw [e1] at hl h1 hne
  rw [e2] at hm h2 hne
  rw [e1, e2]
  have HE : Hid (l.length = n1 ∧ m.length = n2) := ⟨e1, e2⟩
  have H1 : Hid (w.ownsRow B 39 2 (.slice p n1 cp) n1 (l.flatMap pc2)) := h1
  have H2 : Hid (w.ownsRow B 39 2 (.slice q n2 cq) n2 (m.flatMap pc2)) := h2
  have HN : Hid (∀ b, (Value.slice p n1 cp).ownBlock = some b → (Value.slice q n2 cq).ownBlock ≠ some b) := hne
  clear e1 e2 HL h1 h2 hne
  go_enter Try.func12, Try.ntmps12
  go_wp2
  go_loopw [5] (fun s5 wx => ∃ k : Nat, k ≤ n1 ∧ s5 = .int .i64 k ∧ Hid (wx.ownsRow B 39 2 (.slice p n1 cp) n1 ((asM (mkB (-1)) l k).flatMap pc2)) ∧ Hid (wx.ownsRow B 39 2 (.slice q n2 cq) n2 (m.flatMap pc2)) ∧ Hid (Below B w wx)) (fun s5 _ => n1 - (intOf s5).toNat)
  case atStart => exact ⟨0, by omega, rfl, by rw [asM_zero]; exact H1.out, H2.out, Below.refl _ _⟩
  case round =>
    obtain ⟨k, hk, rfl, G1, G2, GB⟩ := hrel
    by_cases hk2 : (k : Int) < n1
    · rcases own_form G1.out with ⟨_, q0⟩ | ⟨g, c, hv, hlt⟩
      · omega
      · injection hv with hv1 hv2 hv3
        subst hv1
        obtain ⟨cur, hg, hfit, hst⟩ := own_set pc2_len (x := mkB (-1) k) G1.out (by rw [asM_len _ _ _ (by rw [HE.out.1]; omega)]; exact HE.out.1) (by omega : k < n1)
        rw [asM_set _ _ _ (by rw [HE.out.1]; omega)] at hst
        have H1' : Hid _ := hst
        have H2' : Hid _ := own_other G2.out (g := g) (HN.out g rfl) (putE cur (k * 2) (pc2 (mkB (-1) k)))
        have HB' : Hid (Below B w (wr.setRow g (putE cur (k * 2) (pc2 (mkB (-1) k))))) := GB.out.trans ((Fr.setRow wr g _).below (fun i hi => by subst hi; exact (G1.out.lt _ rfl).1) (Nat.le_trans hB GB.out.size))
        clear hst hlt hv2 hv3 G1 G2 GB
        go_wp2_with (first | refine wpList_stPc rfl (.tmp 22) (.tmp 21) rfl g (k * 2) (mkB (-1) k) cur rfl rfl hg hfit ?_)
        exact ⟨⟨k + 1, by omega, by go_num, H1'.out, H2'.out, HB'.out⟩, by simp [intOf]; omega⟩
    · obtain rfl : n1 = k := by omega
      have G1' : Hid (wr.ownsRow B 39 2 (.slice p n1 cp) n1 ((mks (mkB (-1)) n1).flatMap pc2)) := by
        have := G1.out
        rw [← HE.out.1, asM_full, HE.out.1] at this
        exact this
      clear G1 hk hk2 H1 H2
      go_wp2
      go_loopw [6] (fun s6 wx => ∃ k : Nat, k ≤ n2 ∧ s6 = .int .i64 k ∧ Hid (wx.ownsRow B 39 2 (.slice p n1 cp) n1 ((mks (mkB (-1)) n1).flatMap pc2)) ∧ Hid (wx.ownsRow B 39 2 (.slice q n2 cq) n2 ((asM (mkB (-2)) m k).flatMap pc2)) ∧ Hid (Below B w wx)) (fun s6 _ => n2 - (intOf s6).toNat)
      case atStart => exact ⟨0, by omega, rfl, G1'.out, by rw [asM_zero]; exact G2.out, GB.out⟩
      case round =>
        clear G1' G2 GB
        obtain ⟨k, hk, rfl, G1, G2, GB⟩ := hrel
        by_cases hk2 : (k : Int) < n2
        · rcases own_form G2.out with ⟨_, q0⟩ | ⟨g, c, hv, hlt⟩
          · omega
          · injection hv with hv1 hv2 hv3
            subst hv1
            obtain ⟨cur, hg, hfit, hst⟩ := own_set pc2_len (x := mkB (-2) k) G2.out (by rw [asM_len _ _ _ (by rw [HE.out.2]; omega)]; exact HE.out.2) (by omega : k < n2)
            rw [asM_set _ _ _ (by rw [HE.out.2]; omega)] at hst
            have H2' : Hid _ := hst
            have H1' : Hid _ := own_other G1.out (g := g) (fun r => HN.out g r rfl) (putE cur (k * 2) (pc2 (mkB (-2) k)))
            have HB' : Hid (Below B w (wr.setRow g (putE cur (k * 2) (pc2 (mkB (-2) k))))) := GB.out.trans ((Fr.setRow wr g _).below (fun i hi => by subst hi; exact (G2.out.lt _ rfl).1) (Nat.le_trans hB GB.out.size))
            clear hst hlt hv2 hv3 G1 G2 GB
            go_wp2_with (first | refine wpList_stPc rfl (.tmp 33) (.tmp 32) rfl g (k * 2) (mkB (-2) k) cur rfl rfl hg hfit ?_)
            exact ⟨⟨k + 1, by omega, by go_num, H1'.out, H2'.out, HB'.out⟩, by simp [intOf]; omega⟩
        · obtain rfl : n2 = k := by omega
          have G2' : Hid (wr.ownsRow B 39 2 (.slice q n2 cq) n2 ((mks (mkB (-2)) n2).flatMap pc2)) := by
            have := G2.out
            rw [← HE.out.2, asM_full, HE.out.2] at this
            exact this
          have HD : Hid (Dbl (mkC n1 (-1) (-3)) (mkC n2 (-2) (-4)) (.slice p n1 cp) (.slice q n2 cq) n1 n2 wr 0 0 (.slice p n1 cp) (.slice q n2 cq) wr) := by
            have a1 := G1.out
            have a2 := G2'.out
            rw [mks_mkC n1 (-1) (-3)] at a1
            rw [mks_mkC n2 (-2) (-4)] at a2
            exact Dbl.start a1 a2 HN.out
          have HW : Hid (Below B w wr ∧ ∀ b, (Value.slice p n1 cp).ownBlock = some b ∨ (Value.slice q n2 cq).ownBlock = some b → B ≤ b) := ⟨GB.out, fun b hb => by rcases hb with hb | hb; exact (G1.out.lt b hb).1; exact (G2'.out.lt b hb).1⟩
          clear G1 G2 G2' GB hk hk2
          go_wp2
          generalize wr = W3 at *
          go_loopw [7, 8, 9] (fun s7 s8 s9 wx => ∃ k : Nat, k ≤ 40 ∧ s9 = .int .i64 k ∧ Hid (Dbl (mkC n1 (-1) (-3)) (mkC n2 (-2) (-4)) (.slice p n1 cp) (.slice q n2 cq) n1 n2 W3 k k s7 s8 wx)) (fun _ _ s9 _ => 40 - (intOf s9).toNat)
          case atStart => exact ⟨0, by omega, rfl, HD.out⟩
          case round =>
            clear HD
            obtain ⟨k, hk, rfl, HD⟩ := hrel
            by_cases hk2 : (k : Int) < 40
            · have hp1 := HD.out.push (by omega) 22
              rw [mkC_ge _ _ (by omega)] at hp1
              obtain ⟨v1', w1', hr1, hD1⟩ := hp1
              have hp2 := hD1.swap.push (by omega) 22
              rw [mkC_ge _ _ (by omega)] at hp2
              obtain ⟨v2', w2', hr2, hD2⟩ := hp2
              have HD2 : Hid _ := hD2.swap
              have R1 : (Builtin.append_ #[22, 22] 22 #[u7, .slice (some ⟨wr.heap.size, 0, none⟩) 1 1]).run Try.prog (wr.alloc (.cells #[.int .i64 (-3), .int .i64 0] 39)) = .ok v1' w1' := hr1
              have R2 : (Builtin.append_ #[22, 22] 22 #[u8, .slice (some ⟨w1'.heap.size, 0, none⟩) 1 1]).run Try.prog (w1'.alloc (.cells #[.int .i64 (-4), .int .i64 0] 39)) = .ok v2' w2' := hr2
              clear hr1 hr2 hD1 hD2 HD
              go_wp2_with (first | (at_builtin; refine wpList_app rfl (.tmp 40) (.tmp 42) rfl rfl rfl R1 ?_) | (at_builtin; refine wpList_app rfl (.tmp 44) (.tmp 46) rfl rfl rfl R2 ?_))
              exact ⟨⟨k + 1, by omega, by go_num, HD2.out⟩, by simp [intOf]; omega⟩
            · obtain rfl : k = 40 := by omega
              obtain ⟨g1, c1, rfl, hA1⟩ := HD.out.at1 (by omega)
              obtain ⟨g2, c2, rfl, hA2⟩ := HD.out.swap.at1 (by omega)
              have HA1 : Hid (∀ k, k < n1 + 40 → wr.cell? ⟨g1, k * 2, none⟩ = some (.int .i64 (mkC n1 (-1) (-3) k).1) ∧ wr.cell? ⟨g1, k * 2 + 1, none⟩ = some (.int .i64 (mkC n1 (-1) (-3) k).2)) := hA1
              have HA2 : Hid (∀ k, k < n2 + 40 → wr.cell? ⟨g2, k * 2, none⟩ = some (.int .i64 (mkC n2 (-2) (-4) k).1) ∧ wr.cell? ⟨g2, k * 2 + 1, none⟩ = some (.int .i64 (mkC n2 (-2) (-4) k).2)) := hA2
              have HO1 : Hid (0 < n1 → ∃ g, p = some ⟨g, 0, none⟩ ∧ ∀ k, k < n1 → wr.cell? ⟨g, k * 2, none⟩ = some (.int .i64 (mkC n1 (-1) (-3) k).1)) := fun h0 => by
                obtain ⟨g, c, hv, hc⟩ := HD.out.old1 h0
                injection hv with hv
                exact ⟨g, hv, hc⟩
              have HO2 : Hid (0 < n2 → ∃ g, q = some ⟨g, 0, none⟩ ∧ ∀ k, k < n2 → wr.cell? ⟨g, k * 2, none⟩ = some (.int .i64 (mkC n2 (-2) (-4) k).1)) := fun h0 => by
                obtain ⟨g, c, hv, hc⟩ := HD.out.swap.old1 h0
                injection hv with hv
                exact ⟨g, hv, hc⟩
              have HB4 : Hid (Below B w wr) := HW.out.1.trans (HD.out.fr.below (fun b hb => HW.out.2 b hb) (Nat.le_trans hB HW.out.1.size))
              clear HD HW HN hA1 hA2 hk hk2
              go_wp2
              generalize wr = W4 at *
              go_loopw [10] (fun s wx => ∃ k : Nat, k ≤ n1 + 40 ∧ s = .int .i64 k ∧ wx = W4) (fun s _ => n1 + 40 - (intOf s).toNat)
              case atStart => exact ⟨0, by omega, rfl, rfl⟩
              case round =>
                obtain ⟨k, hk, rfl, rfl⟩ := hrel
                by_cases hk2 : (k : Int) < (n1 : Int) + 40
                · obtain ⟨c0, c1⟩ := HA1.out k (by omega)
                  by_cases hk3 : k < n1
                  · have g3 : decide ((k : Int) < (n1 : Int)) = true := decide_eq_true (by omega)
                    have g4 : decide ((n1 : Int) ≤ (k : Int)) = false := decide_eq_false (by omega)
                    have g5 : decide (k < n1) = true := decide_eq_true hk3
                    have g6 : decide (n1 ≤ k) = false := decide_eq_false (by omega)
                    obtain ⟨gv, hv1, hvc⟩ := HO1.out (by omega)
                    subst hv1
                    have d0 := hvc k hk3
                    rw [mkC_lt _ _ hk3] at c0 c1 d0
                    clear hvc
                    go_wp2
                    exact ⟨⟨k + 1, by omega, by go_num, trivial⟩, by simp [intOf]; omega⟩
                  · have g3 : decide ((k : Int) < (n1 : Int)) = false := decide_eq_false (by omega)
                    have g4 : decide ((n1 : Int) ≤ (k : Int)) = true := decide_eq_true (by omega)
                    have g5 : decide (k < n1) = false := decide_eq_false hk3
                    have g6 : decide (n1 ≤ k) = true := decide_eq_true (by omega)
                    rw [mkC_ge _ _ hk3] at c0 c1
                    go_wp2
                    exact ⟨⟨k + 1, by omega, by go_num, trivial⟩, by simp [intOf]; omega⟩
                · obtain rfl : k = n1 + 40 := by omega
                  clear hk hk2
                  go_wp2
                  generalize wr = W5 at *
                  go_loopw [11] (fun s wx => ∃ k : Nat, k ≤ n2 + 40 ∧ s = .int .i64 k ∧ wx = W5) (fun s _ => n2 + 40 - (intOf s).toNat)
                  case atStart => exact ⟨0, by omega, rfl, rfl⟩
                  case round =>
                    obtain ⟨k, hk, rfl, rfl⟩ := hrel
                    by_cases hk2 : (k : Int) < (n2 : Int) + 40
                    · obtain ⟨c0, c1⟩ := HA2.out k (by omega)
                      by_cases hk3 : k < n2
                      · have g3 : decide ((k : Int) < (n2 : Int)) = true := decide_eq_true (by omega)
                        have g4 : decide ((n2 : Int) ≤ (k : Int)) = false := decide_eq_false (by omega)
                        have g5 : decide (k < n2) = true := decide_eq_true hk3
                        have g6 : decide (n2 ≤ k) = false := decide_eq_false (by omega)
                        obtain ⟨gv, hv1, hvc⟩ := HO2.out (by omega)
                        subst hv1
                        have d0 := hvc k hk3
                        rw [mkC_lt _ _ hk3] at c0 c1 d0
                        clear hvc
                        go_wp2
                        exact ⟨⟨k + 1, by omega, by go_num, trivial⟩, by simp [intOf]; omega⟩
                      · have g3 : decide ((k : Int) < (n2 : Int)) = false := decide_eq_false (by omega)
                        have g4 : decide ((n2 : Int) ≤ (k : Int)) = true := decide_eq_true (by omega)
                        have g5 : decide (k < n2) = false := decide_eq_false hk3
                        have g6 : decide (n2 ≤ k) = true := decide_eq_true (by omega)
                        rw [mkC_ge _ _ hk3] at c0 c1
                        go_wp2
                        exact ⟨⟨k + 1, by omega, by go_num, trivial⟩, by simp [intOf]; omega⟩
                    · obtain rfl : k = n2 + 40 := by omega
                      clear hk hk2
                      go_wp2
                      go_ret
                      exact ⟨rfl, HB4.out⟩
end Go.Proofs.Ytcimehjcajdfiaa
