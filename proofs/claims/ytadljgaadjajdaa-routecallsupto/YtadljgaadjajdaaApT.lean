/- Lists of texts, in memory of their own, are told apart; at most 90 of them, each of at most ten million. -/
import Derived.Test.YtadljgaadjajdaaApG2
import Derived.Test.YtadljgaadjajdaaLater
import Derived.Test.YtadljgaadjajdaaOrd
import Derived.Test.YtadljgaadjajdaaTx
namespace Go.Proofs.Ytadljgaadjajdaa
open Go.RowKit Go.Maps
def enT (s : ByteArray) : List Value := [.string s]
def vlT (s : ByteArray) : Value := .string s
def mkTx (k i : Nat) : ByteArray := mkS ((k : Int) + 10) (i : Int)
theorem lenT (x : ByteArray) : (enT x).length = 1 := rfl
theorem oneT (x : ByteArray) : ∀ u ∈ enT x, u.oneCell' = true := fun u hu => by simp [enT] at hu; subst hu; rfl
theorem inf22 : (Try.prog.info? 22).map (fun i => (i.zero, i.size, i.bytes)) = some (some (.slice none 0 0), 1, 24) := by kernel_rfl
theorem markX_T (k i : Nat) (w : World) (_ : k ≤ 900) (_ : i ≤ 1000000000) : Calls Try.prog 24 #[.int .i64 ((k : Int) + 10), .int .i64 i] w fun e w' => e = .returned (vlT (mkTx k i)) ∧ Below w.heap.size w w' := mark_any ((k : Int) + 10) i w
theorem loadXT {w : World} {g off : Nat} {x : ByteArray} (h : ∀ j v, (enT x)[j]? = some v → w.cell? ⟨g, off + j, none⟩ = some v) : (Instr.loadAt 9 (.pointer (some ⟨g, off, none⟩))).run Try.prog w = .ok (vlT x) w := by
  have h0 := h 0 _ rfl
  rw [Nat.add_zero] at h0
  go_simp
  rfl
theorem storeXT {w : World} {g off : Nat} {x : ByteArray} {cur : Array Value} (hg : w.heap[g]? = some (.cells cur 9)) (hfit : off + 1 ≤ cur.size) :
    (Instr.storeAt 9 (.pointer (some ⟨g, off, none⟩)) (vlT x)).run Try.prog w = .ok () (w.setRow g (putE cur off (enT x))) := by
  have hst := run_storeCells_at Try.prog g off 9 (enT x) 0 cur w hg (by rw [lenT]; omega) (oneT x)
  obtain ⟨i0, hi0, hz0, hz1, hz2⟩ := info_parts info9
  simp only [Nat.add_zero] at hst
  unfold putE vlT
  unfold enT at *
  simp [Instr.storeAt, Instr.sureAddr, storeVar, sizeOf, typeInfo, hi0, Value.cells, hz1, hst]
theorem eqXT (x : ByteArray) (w : World) : (Op.equalIn 10000 9 (vlT x) (vlT x)).run Try.prog w = .ok true w := by
  unfold vlT
  rw [run_equalIn_string _ _ _ _ _ Try.underlying9]
  simp
theorem exec_ldXT {o : Oper} {a : Act} {W : World} {x : Operand} {g off : Nat} {c : ByteArray} (ho : o.op = .load 9 x) (hx : a.eval x = .pointer (some ⟨g, off, none⟩)) (hc : ∀ j v, (enT c)[j]? = some v → W.cell? ⟨g, off + j, none⟩ = some v) : (execOp a.eval o).run Try.prog W = .ok (.value (vlT c)) W := by
  have e := loadXT hc
  unfold execOp
  simp only [ho, hx, e, Sem.run_bind, Result.andThen_ok, Sem.run_pure]
theorem quiet_ldXT {W : World} {o : Oper} {a : Act} {K : Act → Prop} (x : Operand) (ho : o.op = .load 9 x) (g off : Nat) (hx : a.eval x = .pointer (some ⟨g, off, none⟩)) (c : ByteArray)
    (hlt : g < W.heap.size) (hc : ∀ j v, (enT c)[j]? = some v → W.cell? ⟨g, off + j, none⟩ = some v) (hk : K (a.put o.dst (vlT c))) : o.quiet Try.prog a (fun w' => ∃ x : Later W, w' = x.val) K := by
  refine ⟨vlT c, ?_, hk⟩
  rintro _ ⟨y, rfl⟩
  have hr := loadXT (w := y.val) (g := g) (off := off) (x := c) fun j v hv => (y.cell ⟨g, off + j, none⟩ hlt).trans (hc j v hv)
  unfold Oper.quietAt execOp
  simp only [ho, hx, hr, Sem.run_bind, Result.andThen_ok, Sem.run_pure]
  exact ⟨rfl, rfl⟩
theorem wpOrd_stXT {ops : Array Oper} {Q : Exit → Act → World → Prop} {S : World → Prop} {r : List (Bool × Oper)} {a : Act} {w : World} {o : Oper} (hw : Region.wanted o (yielded ops a.tmps) = true) (x y : Operand) (ho : o.op = .store 9 x y)
    (g off : Nat) (c : ByteArray) (cur : Array Value) (hx : a.eval x = .pointer (some ⟨g, off, none⟩)) (hy : a.eval y = vlT c) (hg : w.heap[g]? = some (.cells cur 9)) (hfit : off + 1 ≤ cur.size)
    (h : S (w.setRow g (putE cur off (enT c))) ∧ wpOrd Try.prog ops Q S r (a.put o.dst undef) (w.setRow g (putE cur off (enT c)))) : wpOrd Try.prog ops Q S ((false, o) :: r) a w := by
  have hr := storeXT (x := c) hg hfit
  refine wpOrd_do hw ?_ h.1 h.2
  unfold execOp
  simp only [ho, hx, hy, Sem.run_bind, hr, Result.andThen_ok, Sem.run_pure]
set_option maxRecDepth 20000 in
set_option maxHeartbeats 4000000 in
theorem apartT_any (K gl : Nat) (ps : Nat → Option Addr) (ns cs : Nat → Nat) (w : World) (fs : Nat → List ByteArray) (hK0 : 0 < K) (hK : (K : Int) ≤ 90) (cK : Nat) (hns : ∀ k, k < K → (fs k).length = ns k ∧ ns k ≤ 10000000)
    (hap : Apt K gl (fun k => .slice (ps k) (ns k) (cs k))) (h0 : Lsts enT 9 1 K gl (fun k => .slice (ps k) (ns k) (cs k)) w fs w) :
    Calls Try.prog 18 #[.slice (some ⟨gl, 0, none⟩) K cK] w fun e w' => e = .returned (.bool true) ∧ Fr (TV K (fun k => .slice (ps k) (ns k) (cs k))) w w' := by
  have HNS := Hid.mk' hns
  have HAP := Hid.mk' hap
  obtain ⟨i0, hi0, hz0, hz1, hz2⟩ := info_parts info9
  obtain ⟨i1, hi1, hy0, hy1, hy2⟩ := info_parts inf22
  have HI0 := Hid.mk' hi0
  have HI1 := Hid.mk' hi1
  have HZ := Hid.mk' (show _ ∧ _ ∧ _ from ⟨hz0, hz1, hz2⟩)
  have HY := Hid.mk' (show _ ∧ _ ∧ _ from ⟨hy0, hy1, hy2⟩)
  clear hi0 hz0 hz1 hz2 hi1 hy0 hy1 hy2
  have H1 : Hid (Lsts enT 9 1 K gl (fun k => .slice (ps k) (ns k) (cs k)) w (fillU mkTx fs 0 0) w) := ⟨h0.fr, h0.head, fun j hj => by
    rw [fillU_zero]
    exact h0.own j hj⟩
  clear hns h0 hap
  go_enter Try.func18, Try.ntmps18
  go_wp2
  go_loopw [3] (fun s3 wx => ∃ k : Nat, (k : Int) ≤ K ∧ s3 = .int .i64 k ∧ Hid (Lsts enT 9 1 K gl (fun k => .slice (ps k) (ns k) (cs k)) w (fillU mkTx fs k 0) wx)) (fun s3 _ => K - (intOf s3).toNat)
  case atStart => exact ⟨0, by omega, rfl, H1.out⟩
  case round =>
    obtain ⟨k, hk, rfl, HL⟩ := hrel
    clear H1
    by_cases hk2 : (k : Int) < K
    · have hkN : k < K := by omega
      have hn := (HNS.out k hkN).2
      have HLN := Hid.mk' (HNS.out k hkN).1
      go_wp2
      go_loopw [4] (fun s4 wx => ∃ i : Nat, (i : Int) ≤ ns k ∧ s4 = .int .i64 i ∧ Hid (Lsts enT 9 1 K gl (fun k => .slice (ps k) (ns k) (cs k)) w (fillU mkTx fs k i) wx)) (fun s4 _ => ns k - (intOf s4).toNat)
      case atStart => exact ⟨0, by omega, rfl, HL.out⟩
      case round =>
        clear HL
        obtain ⟨i, hi, rfl, HL⟩ := hrel
        have hhd : wr.cell? ⟨gl, k, none⟩ = some (.slice (ps k) (ns k) (cs k)) := HL.out.head k hkN
        by_cases hi2 : (i : Int) < ns k
        · obtain ⟨g, hp⟩ : ∃ g, ps k = some ⟨g, 0, none⟩ := by
            rcases own_form (HL.out.own k hkN) with ⟨q, _⟩ | ⟨g, c, q, _⟩
            · injection q with q1 q2
              omega
            · injection q with q1 q2 q3
              exact ⟨g, q1⟩
          have HP := Hid.mk' hp
          rw [hp] at hhd
          clear hp
          go_wp2
          have hwr : IntKind.i64.wrap ((k : Int) + 10) = (k : Int) + 10 := by rw [IntKind.wrap_i64]; omega
          refine wp_region_ord (S := fun u => u.cell? ⟨gl, k, none⟩ = some (.slice (some ⟨g, 0, none⟩) (ns k) (cs k))) [(0, true), (1, true), (2, true), (3, true), (4, true), (5, true), (6, true), (7, true), (8, false), (9, true), (10, false)]
            (by kernel_rfl) rfl (by kernel_rfl) (fun d _ _ _ _ h => by cases d <;> exact h) hhd ?_
          simp only [inOrd, List.getElem?_cons_zero, List.getElem?_cons_succ]
          refine wpOrd_yield (v := .slice (some ⟨gl, 0, none⟩) K cK) rfl (fun u _ => exec_mvR rfl rfl) ?_
          simp only [Act.put, List.setIfInBounds_toArray, List.set_cons_succ, List.set_cons_zero]
          refine wpOrd_yield (v := .int .i64 (k : Int)) rfl (fun u _ => exec_mvR rfl rfl) ?_
          simp only [Act.put, List.setIfInBounds_toArray, List.set_cons_succ, List.set_cons_zero]
          refine wpOrd_yield (v := .pointer (some ⟨gl, k, none⟩)) rfl (fun u _ => by go_simp) ?_
          simp only [Act.put, List.setIfInBounds_toArray, List.set_cons_succ, List.set_cons_zero]
          refine wpOrd_yield (v := .slice (some ⟨g, 0, none⟩) (ns k) (cs k)) rfl (fun u hu => by go_simp) ?_
          simp only [Act.put, List.setIfInBounds_toArray, List.set_cons_succ, List.set_cons_zero]
          refine wpOrd_yield (v := .int .i64 (i : Int)) rfl (fun u _ => exec_mvR rfl rfl) ?_
          simp only [Act.put, List.setIfInBounds_toArray, List.set_cons_succ, List.set_cons_zero]
          refine wpOrd_yield (v := .int .i64 (k : Int)) rfl (fun u _ => exec_mvR rfl rfl) ?_
          simp only [Act.put, List.setIfInBounds_toArray, List.set_cons_succ, List.set_cons_zero]
          refine wpOrd_yield (v := .int .i64 ((k : Int) + 10)) rfl (fun u _ => by go_simp) ?_
          simp only [Act.put, List.setIfInBounds_toArray, List.set_cons_succ, List.set_cons_zero]
          refine wpOrd_yield (v := .int .i64 (i : Int)) rfl (fun u _ => exec_mvR rfl rfl) ?_
          simp only [Act.put, List.setIfInBounds_toArray, List.set_cons_succ, List.set_cons_zero]
          refine wpOrd_call rfl 24 _ _ rfl Try.call24 [.int .i64 ((k : Int) + 10), .int .i64 (i : Int)] rfl ?_
          refine (markX_T k i _ (by omega) (by omega)).mono ?_
          rintro e X ⟨rfl, hbX⟩
          have hLX : Lsts enT 9 1 K gl (fun k => .slice (ps k) (ns k) (cs k)) w (fillU mkTx fs k i) X := (show Lsts enT 9 1 K gl (fun k => .slice (ps k) (ns k) (cs k)) w (fillU mkTx fs k i) wr.drew from ⟨HL.out.fr.trans (Fr.drew (T := fun _ => False) wr) (fun _ _ q => q.elim), HL.out.head, HL.out.own⟩).later hbX
          have hhX : X.cell? ⟨gl, k, none⟩ = some (.slice (some ⟨g, 0, none⟩) (ns k) (cs k)) := by have := hLX.head k hkN; rw [← HP.out]; exact this
          obtain ⟨cur, hrow, hfit, hst⟩ := hLX.store (i := i) (g := g) (n := ns k) (c := cs k) lenT HAP.out hkN (by show Value.slice (ps k) (ns k) (cs k) = _; rw [HP.out]) HLN.out (by omega)
          have hhY : (X.setRow g (putE cur (i * 1) (enT (mkTx k i)))).cell? ⟨gl, k, none⟩ = some (.slice (some ⟨g, 0, none⟩) (ns k) (cs k)) := by have := hst.head k hkN; rw [← HP.out]; exact this
          refine ⟨_, rfl, hhX, ?_⟩
          have HST := Hid.mk' hst
          have HHY := Hid.mk' hhY
          clear hst hhY hhX hLX HL
          simp only [Nat.mul_one] at HST HHY
          rw [Nat.mul_one] at hfit
          generalize hm : mkTx k i = m at *
          simp only [Act.put, List.setIfInBounds_toArray, List.set_cons_succ, List.set_cons_zero]
          refine wpOrd_yield (v := .pointer (some ⟨g, i, none⟩)) rfl (fun u _ => by go_simp) ?_
          simp only [Act.put, List.setIfInBounds_toArray, List.set_cons_succ, List.set_cons_zero]
          refine wpOrd_stXT rfl _ _ rfl g (i) m cur rfl rfl hrow hfit ⟨HHY.out, ?_⟩
          refine wpOrd_nil ?_
          simp only [Act.put]
          generalize X.setRow g (putE cur (i) (enT m)) = Y at HST ⊢
          clear hhd hrow hm hfit HHY
          go_wp2
          exact ⟨⟨i + 1, by omega, by go_num, HST.out⟩, by simp [intOf]; omega⟩
        · have e : i = (fs k).length := by rw [HLN.out]; omega
          have HL2 : Hid (Lsts enT 9 1 K gl (fun k => .slice (ps k) (ns k) (cs k)) w (fillU mkTx fs (k + 1) 0) wr) := by have h := HL.out; rw [e] at h; exact h.next
          clear HL e
          go_wp2
          exact ⟨⟨k + 1, by omega, by go_num, HL2.out⟩, by simp [intOf]; omega⟩
    · have e : K = k := by omega
      have HM : Hid (Lsts enT 9 1 K gl (fun k => .slice (ps k) (ns k) (cs k)) w (fun j => mks (mkTx j) (ns j)) wr) := ⟨HL.out.fr, HL.out.head, fun j hj => by
        have h := HL.out.own j hj
        have q : fillU mkTx fs k 0 j = mks (mkTx j) (ns j) := by unfold fillU; rw [if_pos (by omega), (HNS.out j hj).1]
        rw [q] at h
        exact h⟩
      clear HL e hk
      have HG0 := Hid.mk' (Grn.start (sl := 22) lenT HM.out hK0)
      have HF0 := Hid.mk' HM.out.fr
      clear HM
      go_wp2
      generalize wr = W2 at HG0 HF0 ⊢
      go_loopw [5, 6] (fun s5 s6 wx => ∃ (k : Nat) (gv : Nat → Value), (k : Int) ≤ K ∧ s6 = .int .i64 k ∧ Hid (Grn enT 9 22 1 K gl mkTx (fun k => .slice (ps k) (ns k) (cs k)) ns W2 k gv s5 wx)) (fun _ s6 _ => K - (intOf s6).toNat)
      case atStart => exact ⟨0, fun _ => undef, by omega, rfl, HG0.out⟩
      case round =>
        obtain ⟨k2, gv, hk3, rfl, HGr⟩ := hrel
        clear HG0
        by_cases hk4 : (k2 : Int) < K
        · have hkN : k2 < K := by omega
          have hn := (HNS.out k2 hkN).2
          have hhd : wr.cell? ⟨gl, k2, none⟩ = some (.slice (ps k2) (ns k2) (cs k2)) := HGr.out.head k2 hkN
          have HIn0 := Hid.mk' (Inn.start lenT (HGr.out.own k2 (Nat.le_refl _) hkN))
          have hgl3 : gl < wr.heap.size := block_lt_of_cell hhd
          go_wp2
          generalize wr = W3 at HGr hhd HIn0 hgl3 ⊢
          go_loopw [7, 8] (fun s7 s8 wx => ∃ i : Nat, (i : Int) ≤ 6 ∧ s8 = .int .i64 i ∧ Hid (Inn enT 9 1 (mkTx k2) (.slice (ps k2) (ns k2) (cs k2)) (ns k2) W3 i s7 wx)) (fun _ s8 _ => 6 - (intOf s8).toNat)
          case atStart => exact ⟨0, by omega, rfl, HIn0.out⟩
          case round =>
            obtain ⟨i, hi, rfl, HS⟩ := hrel
            clear HIn0
            have hhd3 : wr.cell? ⟨gl, k2, none⟩ = some (.slice (ps k2) (ns k2) (cs k2)) := (World.cell?_of_block (a := ⟨gl, k2, none⟩) (HS.out.fr.block gl hgl3 (HAP.out.row k2 hkN))).trans hhd
            by_cases hi2 : (i : Int) < 6
            · have HMk : Hid (∀ u : World, Calls Try.prog 24 #[.int .i64 ((k2 : Int) + 10), .int .i64 ((ns k2 : Int) + i)] u fun e w' => e = .returned (vlT (mkTx k2 (ns k2 + i))) ∧ Below u.heap.size u w') := fun u => by
                have := markX_T k2 (ns k2 + i) u (by omega) (by omega)
                rwa [show ((ns k2 + i : Nat) : Int) = (ns k2 : Int) + i by omega] at this
              clear hhd
              go_wp2_with (go_at_call 24; fail)
              refine (HMk.out wr).mono ?_
              rintro e w2 ⟨rfl, hb2⟩
              obtain ⟨v', w3, hr, hin⟩ := (HS.out.later hb2).push lenT oneT Try.underlying22 HI0.out HZ.out.1 HZ.out.2.1 HZ.out.2.2 (by rfl) (by omega) (by omega) (by omega) 22
              have HIN := Hid.mk' hin
              have HRR := Hid.mk' hr
              clear hin hr HMk HS hb2
              generalize mkTx k2 (ns k2 + i) = m at *
              unfold vlT
              have HR2 : Hid ((Builtin.append_ #[22, 22] 22 #[u7, .slice (some ⟨w2.heap.size, 0, none⟩) 1 1]).run Try.prog (w2.alloc (.cells #[.string m] 9)) = .ok v' w3) := HRR.out
              clear HRR
              go_wp2_with (first | refine wpList_exec rfl (exec_push rfl rfl rfl HR2.out) ?_)
              exact ⟨⟨i + 1, by omega, by go_num, HIN.out⟩, by simp [intOf]; omega⟩
            · have hi6 : i = 6 := by omega
              subst hi6
              obtain ⟨g7, c7, hu7⟩ : ∃ g7 c7, u7 = .slice (some ⟨g7, 0, none⟩) (ns k2 + 6) c7 := by
                rcases own_form HS.out.own with ⟨_, q⟩ | ⟨g, c, q, _⟩
                · omega
                · exact ⟨g, c, q⟩
              subst hu7
              obtain ⟨v', w3, hr, hG2⟩ := HGr.out.next (ss := 33) Try.underlying33 HI1.out HY.out.1 HY.out.2.1 HY.out.2.2 (by decide) HAP.out hkN (by omega) HS.out rfl 33
              have HG2 := Hid.mk' hG2
              have HRR := Hid.mk' hr
              clear hG2 hr HS hhd hhd3 HGr
              go_wp2_with (first | refine wpList_exec rfl (exec_push rfl rfl rfl HRR.out) ?_)
              exact ⟨⟨k2 + 1, _, by omega, by go_num, HG2.out⟩, by simp [intOf]; omega⟩
        · have e : k2 = K := by omega
          subst e
          have HC : Hid (∀ j, j < k2 → ∃ h c, gv j = .slice (some ⟨h, 0, none⟩) (ns j + 6) c ∧ h < wr.heap.size ∧ ∀ i, i < ns j + 6 → ∀ q v, (enT (mkTx j i))[q]? = some v → wr.cell? ⟨h, i * 1 + q, none⟩ = some v) := fun j hj => by
            obtain ⟨hj', _⟩ := HGr.out.each j hj
            obtain ⟨h, c, hv2, hlt, hcc⟩ := KeepC.of lenT hj' (by omega)
            exact ⟨h, c, hv2, hlt, hcc⟩
          obtain ⟨G, cG, hu5, HD5⟩ : ∃ G cG, u5 = .slice (some ⟨G, 0, none⟩) k2 cG ∧ Hid (∀ j, j < k2 → wr.cell? ⟨G, j, none⟩ = some (gv j)) := by
            have hr := HGr.out.row
            obtain ⟨_, h2⟩ := hr
            rcases h2 with ⟨_, h0⟩ | ⟨G, cG, cur, hv, _⟩
            · omega
            · refine ⟨G, cG, hv, fun j hj => ?_⟩
              have hr := HGr.out.row
              rw [hv] at hr
              rw [World.ownsRow.cellAt hr j (by omega)]
              simp [hj]
          subst hu5
          have HE : Hid (∀ j, j < k2 → wr.cell? ⟨gl, j, none⟩ = some (.slice (ps j) (ns j) (cs j)) ∧ (0 < ns j → ∃ h, ps j = some ⟨h, 0, none⟩ ∧ h < wr.heap.size ∧ ∀ i, i < ns j → ∀ q v, (enT (mkTx j i))[q]? = some v → wr.cell? ⟨h, i * 1 + q, none⟩ = some v)) := fun j hj => by
            refine ⟨HGr.out.head j hj, fun h0 => ?_⟩
            obtain ⟨h, c, hv, hlt, hcc⟩ := HGr.out.keep j hj h0
            injection hv with hv1 hv2 hv3
            exact ⟨h, hv1, hlt, hcc⟩
          have HF : Hid (Fr (TV k2 (fun k => .slice (ps k) (ns k) (cs k))) w wr) := HF0.out.trans HGr.out.fr (fun _ _ q => q)
          clear HGr HF0
          go_wp2
          generalize wr = W4 at HC HD5 HE HF ⊢
          go_loopw [9] (fun s9 wx => ∃ k : Nat, (k : Int) ≤ k2 ∧ s9 = .int .i64 k ∧ Hid (Below W4.heap.size W4 wx)) (fun s9 _ => k2 - (intOf s9).toNat)
          case atStart => exact ⟨0, by omega, rfl, Below.refl _ _⟩
          case round =>
            obtain ⟨k5, hk5, rfl, HB5⟩ := hrel
            by_cases hk6 : (k5 : Int) < k2
            · have hkN : k5 < k2 := by omega
              obtain ⟨_, hn⟩ := HNS.out k5 hkN
              obtain ⟨h, c, hgv, hhlt, hc⟩ := HC.out k5 hkN
              have hc5 := HD5.out k5 hkN
              rw [hgv] at hc5
              obtain ⟨hc6, hc7⟩ := HE.out k5 hkN
              have hwr : IntKind.i64.wrap ((k5 : Int) + 10) = (k5 : Int) + 10 := by rw [IntKind.wrap_i64]; omega
              have HCc := Hid.mk' hc
              have HC7 := Hid.mk' hc7
              have hGl := block_lt_of_cell hc5
              have hgl6 := block_lt_of_cell hc6
              clear hc hc7
              go_wp2
              go_loopw [10] (fun s10 wx => ∃ i : Nat, (i : Int) ≤ ns k5 + 6 ∧ s10 = .int .i64 i ∧ Hid (Below W4.heap.size W4 wx)) (fun s10 _ => ns k5 + 6 - (intOf s10).toNat)
              case atStart => exact ⟨0, by omega, rfl, HB5.out⟩
              case round =>
                obtain ⟨i, hi, rfl, HB⟩ := hrel
                have hc5' : wr.cell? ⟨G, k5, none⟩ = _ := (HB.out.cell (p := ⟨G, k5, none⟩) hGl).trans hc5
                by_cases hi2 : (i : Int) < ns k5 + 6
                · have hmk := fun u => markX_T k5 i u (by omega) (by omega)
                  have heq := eqXT (mkTx k5 i)
                  have q5 : ∀ x : Later wr, x.val.cell? ⟨G, k5, none⟩ = some (.slice (some ⟨h, 0, none⟩) (ns k5 + 6) c) := fun x => (x.cell ⟨G, k5, none⟩ (Nat.lt_of_lt_of_le hGl HB.out.size)).trans hc5'
                  have l1 : h < wr.heap.size := Nat.lt_of_lt_of_le hhlt HB.out.size
                  have HL1 : Hid (∀ q v, (enT (mkTx k5 i))[q]? = some v → wr.cell? ⟨h, i + q, none⟩ = some v) := fun q v hv => (HB.out.cell (p := ⟨h, i + q, none⟩) hhlt).trans (by have := HCc.out i (by omega) q v hv; rwa [Nat.mul_one] at this)
                  have hne := later_some wr
                  by_cases hi3 : (i : Int) < ns k5
                  · obtain ⟨h6, hp6, hglt6, hcc6⟩ := HC7.out (by omega)
                    have l2 : h6 < wr.heap.size := Nat.lt_of_lt_of_le hglt6 HB.out.size
                    have hc6' := hc6
                    rw [hp6] at hc6'
                    have q6 : ∀ x : Later wr, x.val.cell? ⟨gl, k5, none⟩ = some (.slice (some ⟨h6, 0, none⟩) (ns k5) (cs k5)) := fun x => (x.cell ⟨gl, k5, none⟩ (Nat.lt_of_lt_of_le hgl6 HB.out.size)).trans ((HB.out.cell (p := ⟨gl, k5, none⟩) hgl6).trans hc6')
                    have HL2 : Hid (∀ q v, (enT (mkTx k5 i))[q]? = some v → wr.cell? ⟨h6, i + q, none⟩ = some v) := fun q v hv => (HB.out.cell (p := ⟨h6, i + q, none⟩) hglt6).trans (by have := hcc6 i (by omega) q v hv; rwa [Nat.mul_one] at this)
                    clear hp6 hcc6 hc6' hc6
                    generalize mkTx k5 i = m at *
                    have HQ1 : Hid (∀ {o : Oper} {a : Act} {K : Act → Prop} (x : Operand), o.op = .load 9 x → a.eval x = .pointer (some ⟨h, i, none⟩) → K (a.put o.dst (vlT m)) → o.quiet Try.prog a (fun w' => ∃ x : Later wr, w' = x.val) K) := fun x ho hx hk => quiet_ldXT x ho h (i) hx m l1 HL1.out hk
                    have HQ2 : Hid (∀ {o : Oper} {a : Act} {K : Act → Prop} (x : Operand), o.op = .load 9 x → a.eval x = .pointer (some ⟨h6, i, none⟩) → K (a.put o.dst (vlT m)) → o.quiet Try.prog a (fun w' => ∃ x : Later wr, w' = x.val) K) := fun x ho hx hk => quiet_ldXT x ho h6 (i) hx m l2 HL2.out hk
                    clear HL1 HL2
                    unfold vlT at *
                    go_wp2
                    refine wp_region_later (by kernel_rfl) (by kernel_rfl) wr (Below.refl _ _) ?_
                    repeat (first
                      | (go_big_quiet_want; refine HQ1.out _ rfl rfl ?_; simp only [Act.put, List.setIfInBounds_toArray, List.set_cons_succ, List.set_cons_zero]; go_big_quiet_on)
                      | (go_big_quiet_want; refine HQ2.out _ rfl rfl ?_; simp only [Act.put, List.setIfInBounds_toArray, List.set_cons_succ, List.set_cons_zero]; go_big_quiet_on)
                      | go_big_quiet_step (first | (go_at_call 24; exact Later.call _ (hmk _))))
                    refine wpQuiet_nil ?_
                    rintro _ ⟨x, rfl⟩
                    go_wp2
                    exact ⟨⟨i + 1, by omega, by go_num, HB.out.trans (x.below.mono HB.out.size)⟩, by simp [intOf]; omega⟩
                  · have hi4 : decide ((i : Int) < (ns k5 : Int)) = false := by simpa using hi3
                    have hi5 : decide (i < ns k5) = false := by simp; omega
                    have q6 : ∀ x : Later wr, x.val.cell? ⟨gl, k5, none⟩ = some (.slice (ps k5) (ns k5) (cs k5)) := fun x => (x.cell ⟨gl, k5, none⟩ (Nat.lt_of_lt_of_le hgl6 HB.out.size)).trans ((HB.out.cell (p := ⟨gl, k5, none⟩) hgl6).trans hc6)
                    clear hc6
                    generalize mkTx k5 i = m at *
                    have HQ1 : Hid (∀ {o : Oper} {a : Act} {K : Act → Prop} (x : Operand), o.op = .load 9 x → a.eval x = .pointer (some ⟨h, i, none⟩) → K (a.put o.dst (vlT m)) → o.quiet Try.prog a (fun w' => ∃ x : Later wr, w' = x.val) K) := fun x ho hx hk => quiet_ldXT x ho h (i) hx m l1 HL1.out hk
                    clear HL1
                    unfold vlT at *
                    go_wp2
                    refine wp_region_later (by kernel_rfl) (by kernel_rfl) wr (Below.refl _ _) ?_
                    repeat (first
                      | (go_big_quiet_want; refine HQ1.out _ rfl rfl ?_; simp only [Act.put, List.setIfInBounds_toArray, List.set_cons_succ, List.set_cons_zero]; go_big_quiet_on)
                      | go_big_quiet_step (first | (go_at_call 24; exact Later.call _ (hmk _))))
                    refine wpQuiet_nil ?_
                    rintro _ ⟨x, rfl⟩
                    go_wp2
                    exact ⟨⟨i + 1, by omega, by go_num, HB.out.trans (x.below.mono HB.out.size)⟩, by simp [intOf]; omega⟩
                · go_wp2
                  exact ⟨⟨k5 + 1, by omega, by go_num, HB.out⟩, by simp [intOf]; omega⟩
            · go_wp2
              go_ret
              exact ⟨rfl, HF.out.trans (Fr.mono (T := fun _ => False) (Fr.ofBelow HB5.out) (fun _ _ q => q.elim)) (fun _ _ (q : False) => q.elim)⟩
end Go.Proofs.Ytadljgaadjajdaa
