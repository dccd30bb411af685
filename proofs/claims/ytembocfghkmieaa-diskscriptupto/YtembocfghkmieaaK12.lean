/- Several texts joined, each with its own remark; no condition. -/
import Derived.Test.YtembocfghkmieaaK6
import Derived.Test.YtembocfghkmieaaK1
import Derived.Test.YtembocfghkmieaaK11
import Derived.Test.YtembocfghkmieaaK9
import Derived.Test.YtembocfghkmieaaK10
import Derived.Test.YtembocfghkmieaaK4
/- Lists of things done, in memory of their own, are told apart; at most eight million of them, each of at most ten million. -/
namespace Go.Proofs.Ytembocfghkmieaa
open Go.RowKit Go.Maps
section
variable {ops : Array Oper} {rest : List Oper} {a : Act} {w : World} {Q : Exit → Act → World → Prop} {dst : Option Tmp} {ty : TypeId} {pos : String} {aft : Array Edge} {gd : Option (Nat × Bool)}
theorem isListO (t : TypeId) {n : Nat} {ps : Array (Nat × Operand)} (h : wpList Try.prog ops Q (⟨dst, .buildSlice t n ps, ty, pos, aft, gd⟩ :: rest) a w) : wpList Try.prog ops Q (⟨dst, .buildSlice t n ps, ty, pos, aft, gd⟩ :: rest) a w := h
end
def vlO (c : Rec) : Value := .agg (recCells c).toArray
def mkO (k i : Nat) : Rec := ⟨0, -1000 * ((k : Int) + 10) - (i : Int) - 7, nought⟩
theorem inf67 : (Try.prog.info? 67).map (fun i => (i.zero, i.size, i.bytes)) = some (some (.slice none 0 0), 1, 24) := by kernel_rfl
theorem fill_posi (p : Int) (place : Nat → Option (Nat × Nat)) (h0 : place 1 = some (1, 1)) :
    Instr.fill place (recCells ⟨0, 0, nought⟩).toArray [(1, .int .i64 p)] = some (recCells ⟨0, p, nought⟩).toArray := by
  have hb := blk_list_len nought
  unfold recCells
  simp only
  generalize (blk nought).toList = B at *
  unfold Instr.fill
  rw [h0]
  simp only [Value.cells, List.size_toArray, List.length_cons, List.length_nil]
  rw [if_neg (by simp), fold_over 1 #[.int .i64 p] _ (by simp)]
  unfold Instr.fill
  simp only [List.take_succ_cons, List.take_zero, List.size_toArray, List.length_cons, List.length_nil, Nat.zero_add, Nat.reduceAdd, List.drop_succ_cons, List.drop_zero, List.cons_append, List.nil_append]
theorem build108i (p : Int) (u : World) : (Instr.build 108 #[(1, .int .i64 p)]).run Try.prog u = .ok (.agg (recCells ⟨0, p, nought⟩).toArray) u := by
  have z := zero108
  have hf := fill_posi p
  generalize (recCells ⟨0, 0, nought⟩).toArray = Z at *
  generalize (recCells ⟨0, p, nought⟩).toArray = Z' at *
  simp [Instr.build, z, run_underlying Try.underlying108, Value.cells]
  rw [hf _ rfl]
  simp only [Sem.run_pure]
theorem exec_build108i {o : Oper} {a : Act} {W : World} {x : Operand} {p : Int} (ho : o.op = .build 108 #[(1, x)]) (hx : a.eval x = .int .i64 p) : (execOp a.eval o).run Try.prog W = .ok (.value (.agg (recCells ⟨0, p, nought⟩).toArray)) W := by
  have e := build108i p W
  generalize (recCells ⟨0, p, nought⟩).toArray = Z at *
  simp [execOp, ho, hx, e]
theorem lenO (x : Rec) : (recCells x).length = 1026 := recCells_len x
theorem oneO (x : Rec) : ∀ u ∈ recCells x, u.oneCell' = true := recCells_one x
theorem storeXO {w : World} {g off : Nat} {x : Rec} {cur : Array Value} (hg : w.heap[g]? = some (.cells cur 108)) (hfit : off + 1026 ≤ cur.size) :
    (Instr.storeAt 108 (.pointer (some ⟨g, off, none⟩)) (vlO x)).run Try.prog w = .ok () (w.setRow g (putE cur off (recCells x))) := by
  have hl := recCells_len x
  have hst := run_storeCells_at Try.prog g off 108 (recCells x) 0 cur w hg (by rw [hl]; omega) (recCells_one x)
  obtain ⟨i0, hi0, hz0, hz1, hz2⟩ := info_parts info108
  simp only [Nat.add_zero] at hst
  unfold putE vlO
  generalize recCells x = R at *
  simp [Instr.storeAt, Instr.sureAddr, storeVar, sizeOf, typeInfo, hi0, Value.cells, hl, hz1, hst]
theorem putE_all (Z : Array Value) (r : List Value) (hZ : Z.size = r.length) : putE Z 0 r = r.toArray := by
  unfold putE
  rw [List.take_zero, List.nil_append, List.drop_of_length_le (by rw [Array.length_toList]; omega), List.append_nil]
theorem wpList_st108 {ops : Array Oper} {rest : List Oper} {o : Oper} {a : Act} {w : World} {Q : Exit → Act → World → Prop} (hgd : o.guard = none) (x y : Operand) (ho : o.op = .store 108 x y) (g : Nat) (r : Rec) (Z : Array Value) (hx : a.eval x = .pointer (some ⟨g, 0, none⟩)) (hy : a.eval y = .agg (recCells r).toArray) (hg : w.heap[g]? = some (.cells Z 108)) (hZ : Z.size = 1026)
    (h : wpList Try.prog ops Q rest (a.put o.dst undef) (w.setRow g (recCells r).toArray)) : wpList Try.prog ops Q (o :: rest) a w :=
  wpList_plain hgd fun _ hK => by
    have hr := storeXO (x := r) (off := 0) hg (by omega)
    rw [putE_all Z _ (by rw [recCells_len]; exact hZ)] at hr
    unfold vlO at hr
    unfold Oper.wp execOp
    simp only [ho, hx, hy, Sem.run_bind, hr, Result.andThen_ok, Sem.run_pure]
    exact hK _ _ h
set_option maxRecDepth 20000 in
set_option maxHeartbeats 400000 in
theorem markO_any (k : Int) (i : Nat) (w : World) (hk : 0 ≤ k ∧ k ≤ 10000000) (hi : i ≤ 100000000) :
    Calls Try.prog 79 #[.int .i64 k, .int .i64 i] w fun e w' => e = .returned (vlO ⟨0, -1000 * k - (i : Int) - 7, nought⟩) ∧ Below w.heap.size w w' := by
  unfold vlO
  have z := zero108
  have HS : Hid ((recCells ⟨0, 0, nought⟩).toArray.size = 1026) := rec_size _
  have hb := below_new w (.cells (recCells ⟨0, 0, nought⟩).toArray 108)
  have hR := heap_alloc_new w (.cells (recCells ⟨0, 0, nought⟩).toArray 108)
  have HSZ : Hid ((recCells ⟨0, -1000 * k - (i : Int) - 7, nought⟩).toArray.size = 1026) := rec_size _
  generalize (recCells ⟨0, 0, nought⟩).toArray = Z at *
  have hw1 : IntKind.i64.wrap (-1000 * k) = -1000 * k := by rw [IntKind.wrap_i64]; omega
  have hw2 : IntKind.i64.wrap (-1000 * k - (i : Int)) = -1000 * k - (i : Int) := by rw [IntKind.wrap_i64]; omega
  have hw3 : IntKind.i64.wrap (-1000 * k - (i : Int) - 7) = -1000 * k - (i : Int) - 7 := by rw [IntKind.wrap_i64]; omega
  go_enter Try.func79, Try.ntmps79
  go_wp2_with (first | refine wpList_exec rfl (exec_build108i (p := -1000 * k - (i : Int) - 7) rfl rfl) ?_ | refine wpList_st108 rfl (.tmp 4) (.tmp 10) rfl w.heap.size ⟨0, -1000 * k - (i : Int) - 7, nought⟩ Z rfl rfl hR HS.out ?_)
  refine bodyPost_ret (results_cell_row rfl _ _ w.heap.size 108 (recCells ⟨0, -1000 * k - (i : Int) - 7, nought⟩).toArray (0, 0) _ rfl (setRow_heap _ _ _ _ _ _ hR) Try.underlying108 rfl (by rw [HSZ.out]; exact size108)) rfl ⟨rfl, below_setRow hb (Nat.le_refl _) _⟩
theorem markX_O (k i : Nat) (w : World) (hk : k ≤ 9000000) (hi : i ≤ 100000000) : Calls Try.prog 79 #[.int .i64 ((k : Int) + 10), .int .i64 i] w fun e w' => e = .returned (vlO (mkO k i)) ∧ Below w.heap.size w w' := markO_any ((k : Int) + 10) i w (by omega) hi
theorem loadXO {w : World} {g off : Nat} {x : Rec} (h : ∀ j v, (recCells x)[j]? = some v → w.cell? ⟨g, off + j, none⟩ = some v) : (Instr.loadAt 108 (.pointer (some ⟨g, off, none⟩))).run Try.prog w = .ok (vlO x) w :=
  run_loadAt_mid (P := Try.prog) w g off 108 (recCells x) _ h Try.underlying108 rfl (by rw [recCells_len]; exact size108)
theorem eqXO (x : Rec) (w : World) : (Op.equalIn 10000 108 (vlO x) (vlO x)).run Try.prog w = .ok true w := by
  unfold vlO
  rw [eq_rec 9997 x x w, recB_self]
theorem sliceXO {o : Oper} {a : Act} {W : World} {y : Operand} {x : Rec} (ho : o.op = .buildSlice 67 1 #[(0, y)]) (hy : a.eval y = vlO x) : (execOp a.eval o).run Try.prog W = .ok (.value (.slice (some ⟨W.heap.size, 0, none⟩) 1 1)) (W.alloc (.cells (recCells x).toArray 108)) := by
  have e := build67 x W
  unfold vlO at hy
  generalize (recCells x).toArray = Z at *
  simp [execOp, ho, hy, e]
theorem exec_ldXO {o : Oper} {a : Act} {W : World} {x : Operand} {g off : Nat} {c : Rec} (ho : o.op = .load 108 x) (hx : a.eval x = .pointer (some ⟨g, off, none⟩)) (hc : ∀ j v, (recCells c)[j]? = some v → W.cell? ⟨g, off + j, none⟩ = some v) : (execOp a.eval o).run Try.prog W = .ok (.value (vlO c)) W := by
  have e := loadXO hc
  unfold execOp
  simp only [ho, hx, e, Sem.run_bind, Result.andThen_ok, Sem.run_pure]
theorem quiet_ldXO {W : World} {o : Oper} {a : Act} {K : Act → Prop} (x : Operand) (ho : o.op = .load 108 x) (g off : Nat) (hx : a.eval x = .pointer (some ⟨g, off, none⟩)) (c : Rec)
    (hlt : g < W.heap.size) (hc : ∀ j v, (recCells c)[j]? = some v → W.cell? ⟨g, off + j, none⟩ = some v) (hk : K (a.put o.dst (vlO c))) : o.quiet Try.prog a (fun w' => ∃ x : Later W, w' = x.val) K := by
  refine ⟨vlO c, ?_, hk⟩
  rintro _ ⟨y, rfl⟩
  have hr := loadXO (w := y.val) (g := g) (off := off) (x := c) fun j v hv => (y.cell ⟨g, off + j, none⟩ hlt).trans (hc j v hv)
  unfold Oper.quietAt execOp
  simp only [ho, hx, hr, Sem.run_bind, Result.andThen_ok, Sem.run_pure]
  exact ⟨rfl, rfl⟩
theorem wpOrd_stXO {ops : Array Oper} {Q : Exit → Act → World → Prop} {S : World → Prop} {r : List (Bool × Oper)} {a : Act} {w : World} {o : Oper} (hw : Region.wanted o (yielded ops a.tmps) = true) (x y : Operand) (ho : o.op = .store 108 x y)
    (g off : Nat) (c : Rec) (cur : Array Value) (hx : a.eval x = .pointer (some ⟨g, off, none⟩)) (hy : a.eval y = vlO c) (hg : w.heap[g]? = some (.cells cur 108)) (hfit : off + 1026 ≤ cur.size)
    (h : S (w.setRow g (putE cur off (recCells c))) ∧ wpOrd Try.prog ops Q S r (a.put o.dst undef) (w.setRow g (putE cur off (recCells c)))) : wpOrd Try.prog ops Q S ((false, o) :: r) a w := by
  have hr := storeXO (x := c) hg hfit
  refine wpOrd_do hw ?_ h.1 h.2
  unfold execOp
  simp only [ho, hx, hy, Sem.run_bind, hr, Result.andThen_ok, Sem.run_pure]
set_option maxRecDepth 20000 in
set_option maxHeartbeats 4000000 in
theorem apartO_any (K gl : Nat) (ps : Nat → Option Addr) (ns cs : Nat → Nat) (w : World) (fs : Nat → List Rec) (hK0 : 0 < K) (hK : (K : Int) ≤ 8000000) (cK : Nat) (hns : ∀ k, k < K → (fs k).length = ns k ∧ ns k ≤ 10000000)
    (hap : Apt K gl (fun k => .slice (ps k) (ns k) (cs k))) (h0 : Lsts recCells 108 1026 K gl (fun k => .slice (ps k) (ns k) (cs k)) w fs w) :
    Calls Try.prog 59 #[.slice (some ⟨gl, 0, none⟩) K cK] w fun e w' => e = .returned (.bool true) ∧ Fr (TV K (fun k => .slice (ps k) (ns k) (cs k))) w w' := by
  have HNS := Hid.mk' hns
  have HAP := Hid.mk' hap
  obtain ⟨i0, hi0, hz0, hz1, hz2⟩ := info_parts info108
  obtain ⟨i1, hi1, hy0, hy1, hy2⟩ := info_parts inf67
  have HI0 := Hid.mk' hi0
  have HI1 := Hid.mk' hi1
  have HZ := Hid.mk' (show _ ∧ _ ∧ _ from ⟨hz0, hz1, hz2⟩)
  have HY := Hid.mk' (show _ ∧ _ ∧ _ from ⟨hy0, hy1, hy2⟩)
  clear hi0 hz0 hz1 hz2 hi1 hy0 hy1 hy2
  have H1 : Hid (Lsts recCells 108 1026 K gl (fun k => .slice (ps k) (ns k) (cs k)) w (fillU mkO fs 0 0) w) := ⟨h0.fr, h0.head, fun j hj => by
    rw [fillU_zero]
    exact h0.own j hj⟩
  clear hns h0 hap
  go_enter Try.func59, Try.ntmps59
  go_wp2
  go_loopw [3] (fun s3 wx => ∃ k : Nat, (k : Int) ≤ K ∧ s3 = .int .i64 k ∧ Hid (Lsts recCells 108 1026 K gl (fun k => .slice (ps k) (ns k) (cs k)) w (fillU mkO fs k 0) wx)) (fun s3 _ => K - (intOf s3).toNat)
  case atStart => exact ⟨0, by omega, rfl, H1.out⟩
  case round =>
    obtain ⟨k, hk, rfl, HL⟩ := hrel
    clear H1
    by_cases hk2 : (k : Int) < K
    · have hkN : k < K := by omega
      have hn := (HNS.out k hkN).2
      have HLN := Hid.mk' (HNS.out k hkN).1
      go_wp2
      go_loopw [4] (fun s4 wx => ∃ i : Nat, (i : Int) ≤ ns k ∧ s4 = .int .i64 i ∧ Hid (Lsts recCells 108 1026 K gl (fun k => .slice (ps k) (ns k) (cs k)) w (fillU mkO fs k i) wx)) (fun s4 _ => ns k - (intOf s4).toNat)
      case atStart => exact ⟨0, by omega, rfl, HL.out⟩
      case round =>
        clear HL
        obtain ⟨i, hi, rfl, HL⟩ := hrel
        have hhd : wr.cell? ⟨gl, k, none⟩ = some (.slice (ps k) (ns k) (cs k)) := HL.out.head k hkN
        by_cases hi2 : (i : Int) < ns k
        · obtain ⟨g, hp⟩ : ∃ g, ps k = some ⟨g, 0, none⟩ := by
            rcases own_form (HL.out.own k hkN) with ⟨q, _⟩ | ⟨g, c, q, _⟩
            · injection q with q1 q2
              omega
            · injection q with q1 q2 q3
              exact ⟨g, q1⟩
          have HP := Hid.mk' hp
          rw [hp] at hhd
          clear hp
          go_wp2
          have hwr : IntKind.i64.wrap ((k : Int) + 10) = (k : Int) + 10 := by rw [IntKind.wrap_i64]; omega
          refine wp_region_ord (S := fun u => u.cell? ⟨gl, k, none⟩ = some (.slice (some ⟨g, 0, none⟩) (ns k) (cs k))) [(0, true), (1, true), (2, true), (3, true), (4, true), (5, true), (6, true), (7, true), (8, false), (9, true), (10, false)]
            (by kernel_rfl) rfl (by kernel_rfl) (fun d _ _ _ _ h => by cases d <;> exact h) hhd ?_
          simp only [inOrd, List.getElem?_cons_zero, List.getElem?_cons_succ]
          refine wpOrd_yield (v := .slice (some ⟨gl, 0, none⟩) K cK) rfl (fun u _ => exec_mv rfl rfl) ?_
          simp only [Act.put, List.setIfInBounds_toArray, List.set_cons_succ, List.set_cons_zero]
          refine wpOrd_yield (v := .int .i64 (k : Int)) rfl (fun u _ => exec_mv rfl rfl) ?_
          simp only [Act.put, List.setIfInBounds_toArray, List.set_cons_succ, List.set_cons_zero]
          refine wpOrd_yield (v := .pointer (some ⟨gl, k, none⟩)) rfl (fun u _ => by go_simp) ?_
          simp only [Act.put, List.setIfInBounds_toArray, List.set_cons_succ, List.set_cons_zero]
          refine wpOrd_yield (v := .slice (some ⟨g, 0, none⟩) (ns k) (cs k)) rfl (fun u hu => by go_simp) ?_
          simp only [Act.put, List.setIfInBounds_toArray, List.set_cons_succ, List.set_cons_zero]
          refine wpOrd_yield (v := .int .i64 (i : Int)) rfl (fun u _ => exec_mv rfl rfl) ?_
          simp only [Act.put, List.setIfInBounds_toArray, List.set_cons_succ, List.set_cons_zero]
          refine wpOrd_yield (v := .int .i64 (k : Int)) rfl (fun u _ => exec_mv rfl rfl) ?_
          simp only [Act.put, List.setIfInBounds_toArray, List.set_cons_succ, List.set_cons_zero]
          refine wpOrd_yield (v := .int .i64 ((k : Int) + 10)) rfl (fun u _ => by go_simp) ?_
          simp only [Act.put, List.setIfInBounds_toArray, List.set_cons_succ, List.set_cons_zero]
          refine wpOrd_yield (v := .int .i64 (i : Int)) rfl (fun u _ => exec_mv rfl rfl) ?_
          simp only [Act.put, List.setIfInBounds_toArray, List.set_cons_succ, List.set_cons_zero]
          refine wpOrd_call rfl 79 _ _ rfl Try.call79 [.int .i64 ((k : Int) + 10), .int .i64 (i : Int)] rfl ?_
          refine (markX_O k i _ (by omega) (by omega)).mono ?_
          rintro e X ⟨rfl, hbX⟩
          have hLX : Lsts recCells 108 1026 K gl (fun k => .slice (ps k) (ns k) (cs k)) w (fillU mkO fs k i) X := (show Lsts recCells 108 1026 K gl (fun k => .slice (ps k) (ns k) (cs k)) w (fillU mkO fs k i) wr.drew from ⟨HL.out.fr.trans (Fr.drew (T := fun _ => False) wr) (fun _ _ q => q.elim), HL.out.head, HL.out.own⟩).later hbX
          have hhX : X.cell? ⟨gl, k, none⟩ = some (.slice (some ⟨g, 0, none⟩) (ns k) (cs k)) := by have := hLX.head k hkN; rw [← HP.out]; exact this
          obtain ⟨cur, hrow, hfit, hst⟩ := hLX.store (i := i) (g := g) (n := ns k) (c := cs k) lenO HAP.out hkN (by show Value.slice (ps k) (ns k) (cs k) = _; rw [HP.out]) HLN.out (by omega)
          have hhY : (X.setRow g (putE cur (i * 1026) (recCells (mkO k i)))).cell? ⟨gl, k, none⟩ = some (.slice (some ⟨g, 0, none⟩) (ns k) (cs k)) := by have := hst.head k hkN; rw [← HP.out]; exact this
          refine ⟨_, rfl, hhX, ?_⟩
          have HST := Hid.mk' hst
          have HHY := Hid.mk' hhY
          clear hst hhY hhX hLX HL
          skip
          skip
          generalize hm : mkO k i = m at *
          simp only [Act.put, List.setIfInBounds_toArray, List.set_cons_succ, List.set_cons_zero]
          refine wpOrd_yield (v := .pointer (some ⟨g, i * 1026, none⟩)) rfl (fun u _ => by go_simp) ?_
          simp only [Act.put, List.setIfInBounds_toArray, List.set_cons_succ, List.set_cons_zero]
          refine wpOrd_stXO rfl _ _ rfl g (i * 1026) m cur rfl rfl hrow hfit ⟨HHY.out, ?_⟩
          refine wpOrd_nil ?_
          simp only [Act.put]
          generalize X.setRow g (putE cur (i * 1026) (recCells m)) = Y at HST ⊢
          clear hhd hrow hm hfit HHY
          go_wp2
          exact ⟨⟨i + 1, by omega, by go_num, HST.out⟩, by simp [intOf]; omega⟩
        · have e : i = (fs k).length := by rw [HLN.out]; omega
          have HL2 : Hid (Lsts recCells 108 1026 K gl (fun k => .slice (ps k) (ns k) (cs k)) w (fillU mkO fs (k + 1) 0) wr) := by have h := HL.out; rw [e] at h; exact h.next
          clear HL e
          go_wp2
          exact ⟨⟨k + 1, by omega, by go_num, HL2.out⟩, by simp [intOf]; omega⟩
    · have e : K = k := by omega
      have HM : Hid (Lsts recCells 108 1026 K gl (fun k => .slice (ps k) (ns k) (cs k)) w (fun j => mks (mkO j) (ns j)) wr) := ⟨HL.out.fr, HL.out.head, fun j hj => by
        have h := HL.out.own j hj
        have q : fillU mkO fs k 0 j = mks (mkO j) (ns j) := by unfold fillU; rw [if_pos (by omega), (HNS.out j hj).1]
        rw [q] at h
        exact h⟩
      clear HL e hk
      have HG0 := Hid.mk' (Grn.start (sl := 67) lenO HM.out hK0)
      have HF0 := Hid.mk' HM.out.fr
      clear HM
      go_wp2
      generalize wr = W2 at HG0 HF0 ⊢
      go_loopw [5, 6] (fun s5 s6 wx => ∃ (k : Nat) (gv : Nat → Value), (k : Int) ≤ K ∧ s6 = .int .i64 k ∧ Hid (Grn recCells 108 67 1026 K gl mkO (fun k => .slice (ps k) (ns k) (cs k)) ns W2 k gv s5 wx)) (fun _ s6 _ => K - (intOf s6).toNat)
      case atStart => exact ⟨0, fun _ => undef, by omega, rfl, HG0.out⟩
      case round =>
        obtain ⟨k2, gv, hk3, rfl, HGr⟩ := hrel
        clear HG0
        by_cases hk4 : (k2 : Int) < K
        · have hkN : k2 < K := by omega
          have hn := (HNS.out k2 hkN).2
          have hhd : wr.cell? ⟨gl, k2, none⟩ = some (.slice (ps k2) (ns k2) (cs k2)) := HGr.out.head k2 hkN
          have HIn0 := Hid.mk' (Inn.start lenO (HGr.out.own k2 (Nat.le_refl _) hkN))
          have hgl3 : gl < wr.heap.size := block_lt_of_cell hhd
          go_wp2
          generalize wr = W3 at HGr hhd HIn0 hgl3 ⊢
          go_loopw [7, 8] (fun s7 s8 wx => ∃ i : Nat, (i : Int) ≤ 6 ∧ s8 = .int .i64 i ∧ Hid (Inn recCells 108 1026 (mkO k2) (.slice (ps k2) (ns k2) (cs k2)) (ns k2) W3 i s7 wx)) (fun _ s8 _ => 6 - (intOf s8).toNat)
          case atStart => exact ⟨0, by omega, rfl, HIn0.out⟩
          case round =>
            obtain ⟨i, hi, rfl, HS⟩ := hrel
            clear HIn0
            have hhd3 : wr.cell? ⟨gl, k2, none⟩ = some (.slice (ps k2) (ns k2) (cs k2)) := (World.cell?_of_block (a := ⟨gl, k2, none⟩) (HS.out.fr.block gl hgl3 (HAP.out.row k2 hkN))).trans hhd
            by_cases hi2 : (i : Int) < 6
            · have HMk : Hid (∀ u : World, Calls Try.prog 79 #[.int .i64 ((k2 : Int) + 10), .int .i64 ((ns k2 : Int) + i)] u fun e w' => e = .returned (vlO (mkO k2 (ns k2 + i))) ∧ Below u.heap.size u w') := fun u => by
                have := markX_O k2 (ns k2 + i) u (by omega) (by omega)
                rwa [show ((ns k2 + i : Nat) : Int) = (ns k2 : Int) + i by omega] at this
              clear hhd
              go_wp2_with (go_at_call 79; fail)
              refine (HMk.out wr).mono ?_
              rintro e w2 ⟨rfl, hb2⟩
              obtain ⟨v', w3, hr, hin⟩ := (HS.out.later hb2).push lenO oneO Try.underlying67 HI0.out HZ.out.1 HZ.out.2.1 HZ.out.2.2 (rec_size ⟨0, 0, nought⟩) (by omega) (by omega) (by omega) 67
              have HIN := Hid.mk' hin
              have HRR := Hid.mk' hr
              clear hin hr HMk HS hb2
              generalize mkO k2 (ns k2 + i) = m at *
              go_wp2_with (first | (with_reducible refine isListO 67 ?_; refine wpList_exec rfl (sliceXO (x := m) rfl rfl) ?_) | refine wpList_exec rfl (exec_push rfl rfl rfl HRR.out) ?_)
              exact ⟨⟨i + 1, by omega, by go_num, HIN.out⟩, by simp [intOf]; omega⟩
            · have hi6 : i = 6 := by omega
              subst hi6
              obtain ⟨g7, c7, hu7⟩ : ∃ g7 c7, u7 = .slice (some ⟨g7, 0, none⟩) (ns k2 + 6) c7 := by
                rcases own_form HS.out.own with ⟨_, q⟩ | ⟨g, c, q, _⟩
                · omega
                · exact ⟨g, c, q⟩
              subst hu7
              obtain ⟨v', w3, hr, hG2⟩ := HGr.out.next (ss := 36) Try.underlying36 HI1.out HY.out.1 HY.out.2.1 HY.out.2.2 (by decide) HAP.out hkN (by omega) HS.out rfl 36
              have HG2 := Hid.mk' hG2
              have HRR := Hid.mk' hr
              clear hG2 hr HS hhd hhd3 HGr
              go_wp2_with (first | refine wpList_exec rfl (exec_push rfl rfl rfl HRR.out) ?_)
              exact ⟨⟨k2 + 1, _, by omega, by go_num, HG2.out⟩, by simp [intOf]; omega⟩
        · have e : k2 = K := by omega
          subst e
          have HC : Hid (∀ j, j < k2 → ∃ h c, gv j = .slice (some ⟨h, 0, none⟩) (ns j + 6) c ∧ h < wr.heap.size ∧ ∀ i, i < ns j + 6 → ∀ q v, (recCells (mkO j i))[q]? = some v → wr.cell? ⟨h, i * 1026 + q, none⟩ = some v) := fun j hj => by
            obtain ⟨hj', _⟩ := HGr.out.each j hj
            obtain ⟨h, c, hv2, hlt, hcc⟩ := KeepC.of lenO hj' (by omega)
            exact ⟨h, c, hv2, hlt, hcc⟩
          obtain ⟨G, cG, hu5, HD5⟩ : ∃ G cG, u5 = .slice (some ⟨G, 0, none⟩) k2 cG ∧ Hid (∀ j, j < k2 → wr.cell? ⟨G, j, none⟩ = some (gv j)) := by
            have hr := HGr.out.row
            obtain ⟨_, h2⟩ := hr
            rcases h2 with ⟨_, h0⟩ | ⟨G, cG, cur, hv, _⟩
            · omega
            · refine ⟨G, cG, hv, fun j hj => ?_⟩
              have hr := HGr.out.row
              rw [hv] at hr
              rw [World.ownsRow.cellAt hr j (by omega)]
              simp [hj]
          subst hu5
          have HE : Hid (∀ j, j < k2 → wr.cell? ⟨gl, j, none⟩ = some (.slice (ps j) (ns j) (cs j)) ∧ (0 < ns j → ∃ h, ps j = some ⟨h, 0, none⟩ ∧ h < wr.heap.size ∧ ∀ i, i < ns j → ∀ q v, (recCells (mkO j i))[q]? = some v → wr.cell? ⟨h, i * 1026 + q, none⟩ = some v)) := fun j hj => by
            refine ⟨HGr.out.head j hj, fun h0 => ?_⟩
            obtain ⟨h, c, hv, hlt, hcc⟩ := HGr.out.keep j hj h0
            injection hv with hv1 hv2 hv3
            exact ⟨h, hv1, hlt, hcc⟩
          have HF : Hid (Fr (TV k2 (fun k => .slice (ps k) (ns k) (cs k))) w wr) := HF0.out.trans HGr.out.fr (fun _ _ q => q)
          clear HGr HF0
          go_wp2
          generalize wr = W4 at HC HD5 HE HF ⊢
          go_loopw [9] (fun s9 wx => ∃ k : Nat, (k : Int) ≤ k2 ∧ s9 = .int .i64 k ∧ Hid (Below W4.heap.size W4 wx)) (fun s9 _ => k2 - (intOf s9).toNat)
          case atStart => exact ⟨0, by omega, rfl, Below.refl _ _⟩
          case round =>
            obtain ⟨k5, hk5, rfl, HB5⟩ := hrel
            by_cases hk6 : (k5 : Int) < k2
            · have hkN : k5 < k2 := by omega
              obtain ⟨_, hn⟩ := HNS.out k5 hkN
              obtain ⟨h, c, hgv, hhlt, hc⟩ := HC.out k5 hkN
              have hc5 := HD5.out k5 hkN
              rw [hgv] at hc5
              obtain ⟨hc6, hc7⟩ := HE.out k5 hkN
              have hwr : IntKind.i64.wrap ((k5 : Int) + 10) = (k5 : Int) + 10 := by rw [IntKind.wrap_i64]; omega
              have HCc := Hid.mk' hc
              have HC7 := Hid.mk' hc7
              have hGl := block_lt_of_cell hc5
              have hgl6 := block_lt_of_cell hc6
              clear hc hc7
              go_wp2
              go_loopw [10] (fun s10 wx => ∃ i : Nat, (i : Int) ≤ ns k5 + 6 ∧ s10 = .int .i64 i ∧ Hid (Below W4.heap.size W4 wx)) (fun s10 _ => ns k5 + 6 - (intOf s10).toNat)
              case atStart => exact ⟨0, by omega, rfl, HB5.out⟩
              case round =>
                obtain ⟨i, hi, rfl, HB⟩ := hrel
                have hc5' : wr.cell? ⟨G, k5, none⟩ = _ := (HB.out.cell (p := ⟨G, k5, none⟩) hGl).trans hc5
                by_cases hi2 : (i : Int) < ns k5 + 6
                · have hmk := fun u => markX_O k5 i u (by omega) (by omega)
                  have heq := eqXO (mkO k5 i)
                  have q5 : ∀ x : Later wr, x.val.cell? ⟨G, k5, none⟩ = some (.slice (some ⟨h, 0, none⟩) (ns k5 + 6) c) := fun x => (x.cell ⟨G, k5, none⟩ (Nat.lt_of_lt_of_le hGl HB.out.size)).trans hc5'
                  have l1 : h < wr.heap.size := Nat.lt_of_lt_of_le hhlt HB.out.size
                  have HL1 : Hid (∀ q v, (recCells (mkO k5 i))[q]? = some v → wr.cell? ⟨h, i * 1026 + q, none⟩ = some v) := fun q v hv => (HB.out.cell (p := ⟨h, i * 1026 + q, none⟩) hhlt).trans (by have := HCc.out i (by omega) q v hv; exact this)
                  have hne := later_some wr
                  by_cases hi3 : (i : Int) < ns k5
                  · obtain ⟨h6, hp6, hglt6, hcc6⟩ := HC7.out (by omega)
                    have l2 : h6 < wr.heap.size := Nat.lt_of_lt_of_le hglt6 HB.out.size
                    have hc6' := hc6
                    rw [hp6] at hc6'
                    have q6 : ∀ x : Later wr, x.val.cell? ⟨gl, k5, none⟩ = some (.slice (some ⟨h6, 0, none⟩) (ns k5) (cs k5)) := fun x => (x.cell ⟨gl, k5, none⟩ (Nat.lt_of_lt_of_le hgl6 HB.out.size)).trans ((HB.out.cell (p := ⟨gl, k5, none⟩) hgl6).trans hc6')
                    have HL2 : Hid (∀ q v, (recCells (mkO k5 i))[q]? = some v → wr.cell? ⟨h6, i * 1026 + q, none⟩ = some v) := fun q v hv => (HB.out.cell (p := ⟨h6, i * 1026 + q, none⟩) hglt6).trans (by have := hcc6 i (by omega) q v hv; exact this)
                    clear hp6 hcc6 hc6' hc6
                    generalize mkO k5 i = m at *
                    have HQ1 : Hid (∀ {o : Oper} {a : Act} {K : Act → Prop} (x : Operand), o.op = .load 108 x → a.eval x = .pointer (some ⟨h, i * 1026, none⟩) → K (a.put o.dst (vlO m)) → o.quiet Try.prog a (fun w' => ∃ x : Later wr, w' = x.val) K) := fun x ho hx hk => quiet_ldXO x ho h (i * 1026) hx m l1 HL1.out hk
                    have HQ2 : Hid (∀ {o : Oper} {a : Act} {K : Act → Prop} (x : Operand), o.op = .load 108 x → a.eval x = .pointer (some ⟨h6, i * 1026, none⟩) → K (a.put o.dst (vlO m)) → o.quiet Try.prog a (fun w' => ∃ x : Later wr, w' = x.val) K) := fun x ho hx hk => quiet_ldXO x ho h6 (i * 1026) hx m l2 HL2.out hk
                    clear HL1 HL2
                    unfold vlO at *
                    generalize (recCells m).toArray = M at *
                    go_wp2
                    refine wp_region_later (by kernel_rfl) (by kernel_rfl) wr (Below.refl _ _) ?_
                    repeat (first
                      | (go_big_quiet_want; refine HQ1.out _ rfl rfl ?_; simp only [Act.put, List.setIfInBounds_toArray, List.set_cons_succ, List.set_cons_zero]; go_big_quiet_on)
                      | (go_big_quiet_want; refine HQ2.out _ rfl rfl ?_; simp only [Act.put, List.setIfInBounds_toArray, List.set_cons_succ, List.set_cons_zero]; go_big_quiet_on)
                      | go_big_quiet_step (first | (go_at_call 79; exact Later.call _ (hmk _))))
                    refine wpQuiet_nil ?_
                    rintro _ ⟨x, rfl⟩
                    go_wp2
                    exact ⟨⟨i + 1, by omega, by go_num, HB.out.trans (x.below.mono HB.out.size)⟩, by simp [intOf]; omega⟩
                  · have hi4 : decide ((i : Int) < (ns k5 : Int)) = false := by simpa using hi3
                    have hi5 : decide (i < ns k5) = false := by simp; omega
                    have q6 : ∀ x : Later wr, x.val.cell? ⟨gl, k5, none⟩ = some (.slice (ps k5) (ns k5) (cs k5)) := fun x => (x.cell ⟨gl, k5, none⟩ (Nat.lt_of_lt_of_le hgl6 HB.out.size)).trans ((HB.out.cell (p := ⟨gl, k5, none⟩) hgl6).trans hc6)
                    clear hc6
                    generalize mkO k5 i = m at *
                    have HQ1 : Hid (∀ {o : Oper} {a : Act} {K : Act → Prop} (x : Operand), o.op = .load 108 x → a.eval x = .pointer (some ⟨h, i * 1026, none⟩) → K (a.put o.dst (vlO m)) → o.quiet Try.prog a (fun w' => ∃ x : Later wr, w' = x.val) K) := fun x ho hx hk => quiet_ldXO x ho h (i * 1026) hx m l1 HL1.out hk
                    clear HL1
                    unfold vlO at *
                    generalize (recCells m).toArray = M at *
                    go_wp2
                    refine wp_region_later (by kernel_rfl) (by kernel_rfl) wr (Below.refl _ _) ?_
                    repeat (first
                      | (go_big_quiet_want; refine HQ1.out _ rfl rfl ?_; simp only [Act.put, List.setIfInBounds_toArray, List.set_cons_succ, List.set_cons_zero]; go_big_quiet_on)
                      | go_big_quiet_step (first | (go_at_call 79; exact Later.call _ (hmk _))))
                    refine wpQuiet_nil ?_
                    rintro _ ⟨x, rfl⟩
                    go_wp2
                    exact ⟨⟨i + 1, by omega, by go_num, HB.out.trans (x.below.mono HB.out.size)⟩, by simp [intOf]; omega⟩
                · go_wp2
                  exact ⟨⟨k5 + 1, by omega, by go_num, HB.out⟩, by simp [intOf]; omega⟩
            · go_wp2
              go_ret
              exact ⟨rfl, HF.out.trans (Fr.mono (T := fun _ => False) (Fr.ofBelow HB5.out) (fun _ _ q => q.elim)) (fun _ _ (q : False) => q.elim)⟩
set_option maxRecDepth 20000 in
theorem apartO_none (c : Nat) (p : Option Addr) (w : World) : Calls Try.prog 59 #[.slice p 0 c] w fun e w' => e = .returned (.bool true) ∧ w' = w := by
  go_enter Try.func59, Try.ntmps59
  go_wp2
  go_loopw [3] (fun s3 wx => s3 = .int .i64 0 ∧ w = wx) (fun _ _ => 0)
  case atStart => exact ⟨rfl, rfl⟩
  case round =>
    obtain ⟨rfl, rfl⟩ := hrel
    go_wp2
    go_loopw [5, 6] (fun s5 s6 wx => s5 = .slice none 0 0 ∧ s6 = .int .i64 0 ∧ w = wx) (fun _ _ _ => 0)
    case atStart => exact ⟨rfl, rfl, rfl⟩
    case round =>
      obtain ⟨rfl, rfl, rfl⟩ := hrel
      go_wp2
      go_loopw [9] (fun s9 wx => s9 = .int .i64 0 ∧ w = wx) (fun _ _ => 0)
      case atStart => exact ⟨rfl, rfl⟩
      case round =>
        obtain ⟨rfl, rfl⟩ := hrel
        go_wp2
        go_ret
        exact ⟨rfl, rfl⟩
end Go.Proofs.Ytembocfghkmieaa
/- Each call keeps that both disks stand for the same, and both answer alike; boxes beside them; lists that were told; no condition. -/
namespace Go.Proofs.Ytembocfghkmieaa
open Go.RowKit Go.Maps
section
variable {s : St} {t : RSt} {m : Nat}
theorem Sim.readV (h : Sim t s) (k : Int) : Sim (rReadV t k) (readV s k) := by
  unfold rReadV Go.Proofs.Ytembocfghkmieaa.readV
  rw [h.ref k]
  by_cases hb : refV s k = 0
  · rw [if_pos hb, if_pos hb]; exact h.read
  · rw [if_neg hb, if_neg hb]; exact h
theorem Sim.readB (h : Sim t s) (k : Int) : rReadB t k = readB s k := by
  unfold rReadB Go.Proofs.Ytembocfghkmieaa.readB
  rw [h.ref k, h.cur k]
theorem Sim.writeV (h : Sim t s) (k : Int) (f : Nat → Int) : Sim (rWriteV t k f) (writeV s k f) := by
  unfold rWriteV Go.Proofs.Ytembocfghkmieaa.writeV
  rw [h.ref k, h.lets]
  by_cases hb : refV s k = 0
  · rw [if_pos hb, if_pos hb]
    cases Go.Proofs.Ytembocfghkmieaa.lets s
    · exact h.let_
    · exact h.write k f
  · rw [if_neg hb, if_neg hb]; exact h
theorem Sim.writeE (h : Sim t s) (k : Int) : rWriteE t k = writeE s k := by
  unfold rWriteE Go.Proofs.Ytembocfghkmieaa.writeE
  rw [h.ref k, h.lets]
theorem Sim.barV (h : Sim t s) (hk : Ok s) : Sim (rBarV t) (barV s) := by
  unfold rBarV Go.Proofs.Ytembocfghkmieaa.barV
  rw [h.dead, h.lets]
  cases s.stopped
  · cases Go.Proofs.Ytembocfghkmieaa.lets s
    · exact h.let_
    · exact h.barrier hk
  · exact h
theorem Sim.barE (h : Sim t s) : rBarE t = barE s := by
  unfold rBarE Go.Proofs.Ytembocfghkmieaa.barE
  rw [h.dead, h.lets]
theorem Cap.readV (h : Cap s m) (k : Int) : Cap (readV s k) (m + 1) := by
  unfold Go.Proofs.Ytembocfghkmieaa.readV
  have h1 := h.ops
  have h2 := h.made
  have h3 := h.reads
  have h4 := h.claims
  split
  · exact ⟨by show s.ops.length ≤ m + 1; omega, by show s.made ≤ ((m + 1 : Nat) : Int); omega, by show s.reads + 1 ≤ ((m + 1 : Nat) : Int); omega, by show s.claims ≤ ((m + 1 : Nat) : Int); omega⟩
  · exact h.mono (by omega)
theorem Cap.letV (h : Cap s m) : Cap (letV s) (m + 1) := by
  have h1 := h.ops
  have h2 := h.made
  have h3 := h.reads
  have h4 := h.claims
  unfold Go.Proofs.Ytembocfghkmieaa.letV
  split
  · exact ⟨by show s.ops.length ≤ m + 1; omega, by show s.made ≤ ((m + 1 : Nat) : Int); omega, by show s.reads ≤ ((m + 1 : Nat) : Int); omega, by show s.claims ≤ ((m + 1 : Nat) : Int); omega⟩
  · exact ⟨by show s.ops.length ≤ m + 1; omega, by show s.made + 1 ≤ ((m + 1 : Nat) : Int); omega, by show s.reads ≤ ((m + 1 : Nat) : Int); omega, by show s.claims ≤ ((m + 1 : Nat) : Int); omega⟩
theorem Cap.writeV (h : Cap s m) (k : Int) (f : Nat → Int) : Cap (writeV s k f) (m + 1) := by
  have h1 := h.ops
  have hl := h.letV
  unfold Go.Proofs.Ytembocfghkmieaa.writeV
  split
  · split
    · refine ⟨?_, hl.made, hl.reads, hl.claims⟩
      show ((Go.Proofs.Ytembocfghkmieaa.letV s).done ++ (s.wait ++ [(k, f)]).map wrec).length ≤ m + 1
      rw [letV_done]
      unfold St.ops at h1
      simp only [List.length_append, List.length_map, List.length_singleton] at h1 ⊢
      omega
    · exact hl
  · exact h.mono (by omega)
theorem holdAll_cap (h : Cap s m) (l : List Cel) : (holdAll s l).made ≤ m ∧ (holdAll s l).reads ≤ m ∧ (holdAll s l).claims ≤ m := by
  obtain ⟨hh, he⟩ := holdAll_same l s
  rw [he]
  exact ⟨h.made, h.reads, h.claims⟩
theorem Cap.barV (h : Cap s m) : Cap (barV s) (m + 1) := by
  have h1 := h.ops
  have hl := h.letV
  unfold Go.Proofs.Ytembocfghkmieaa.barV
  split
  · exact h.mono (by omega)
  · split
    · obtain ⟨a, b, c⟩ := holdAll_cap hl s.wait
      refine ⟨?_, a, b, c⟩
      rw [barS_ops, List.length_append, List.length_singleton]
      omega
    · exact hl
theorem Cap.fuseV (h : Cap s m) (n : Int) : Cap (fuseV s n) (m + 1) := by
  unfold Go.Proofs.Ytembocfghkmieaa.fuseV
  have h' := h.mono (show m ≤ m + 1 by omega)
  split
  · exact h'
  · exact ⟨h'.ops, h'.made, h'.reads, h'.claims⟩
theorem Cap.crashS (h : Cap s m) (kl : List Bool) : Cap (crashS s kl) (m + 1) := by
  obtain ⟨a, b, c⟩ := holdAll_cap (h.mono (show m ≤ m + 1 by omega)) (keptL s.wait kl)
  exact ⟨Nat.zero_le _, a, b, c⟩
theorem Cap.claimV (h : Cap s m) : Cap (claimV s) (m + 1) := by
  unfold Go.Proofs.Ytembocfghkmieaa.claimV
  have h' := h.mono (show m ≤ m + 1 by omega)
  have h4 := h.claims
  split
  · exact h'
  · exact ⟨h'.ops, h'.made, h'.reads, by show s.claims + 1 ≤ ((m + 1 : Nat) : Int); omega⟩
end
/-- A block that is told whole. -/
def boxP (g : Nat) (o : Obj) : Part := ⟨fun k => k = g, fun W => W.heap[g]? = some o⟩
theorem boxP_good (g : Nat) (o : Obj) : (boxP g o).Good := fun _ _ h _ hb => (hb g rfl).trans h
section
variable {w W : World} {d g : Nat} {s : St} {t : RSt} {l : List Part}
theorem Both.box (h : Both w W d g s t l) (o : Obj) : Both w (W.alloc o) d g s t (boxP W.heap.size o :: l) := by
  obtain ⟨L, R, hd, hg, h⟩ := h.out
  have h2 := h.add (p := boxP W.heap.size o) (below_new W o) (boxP_good _ _) (heap_alloc_new W o) fun k hk => by
    have e : k = W.heap.size := hk
    rw [e]
    exact ⟨Nat.le_refl _, by simp⟩
  exact ⟨L, R, hd, hg, h2.back⟩
theorem Both.say (h : Both w W d g s t l) {p : Part} (hp : p ∈ l) : p.say W := by
  obtain ⟨L, R, hd, hg, h⟩ := h.out
  exact h.say p (by simp [hp])
theorem Both.at (h : Both w W d g s t l) {b : Nat} {o : Obj} (hp : boxP b o ∈ l) : W.heap[b]? = some o := h.say hp
theorem Both.pop {p : Part} (h : Both w W d g s t (p :: l)) : Both w W d g s t l := by
  obtain ⟨L, R, hd, hg, h⟩ := h.out
  exact ⟨L, R, hd, hg, h.third.drop⟩
theorem Both.perm {l' : List Part} (h : Both w W d g s t l) (hp : l.Perm l') : Both w W d g s t l' := by
  obtain ⟨L, R, hd, hg, h⟩ := h.out
  exact ⟨L, R, hd, hg, h.perm (.cons _ (.cons _ hp))⟩
/-- One of the parts turns. -/
theorem Both.turn {W' : World} {p p' : Part} (h : Both w W d g s t (p :: l)) {T : Nat → Prop} (hF : Fr T W W') (hT : ∀ k, k < W.heap.size → T k → p.own k) (hg : p'.Good) (hs : p'.say W') (ho : ∀ k, p'.own k → (p.own k ∨ W.heap.size ≤ k) ∧ k < W'.heap.size) : Both w W' d g s t (p' :: l) := by
  obtain ⟨L, R, hd, hg', h⟩ := h.out
  exact ⟨L, R, hd, hg', (h.third.turn hF hT hg hs ho).back⟩
end
/-- A list that was told. -/
structure Tl (α : Type) where
  p : Option Addr
  c : Nat
  l : List α
def Tl.v {α : Type} (x : Tl α) : Value := .slice x.p x.l.length x.c
def enS {α : Type} (x : Tl α) : List Value := [x.v]
theorem enS_len {α : Type} (x : Tl α) : (enS x).length = 1 := rfl
theorem enS_one {α : Type} (x : Tl α) : ∀ u ∈ enS x, u.oneCell' = true := fun u hu => by
  simp only [enS, List.mem_singleton] at hu
  subst hu
  rfl
/-- Lists that were told, and the row that has them. -/
structure Bk {α : Type} (en : α → List Value) (e sl sz : Nat) (v : Value) (T : List (Tl α)) (W : World) : Prop where
  row : W.ownsRow 0 sl 1 v T.length (T.flatMap enS)
  own : ∀ x ∈ T, W.ownsRow 0 e sz x.v x.l.length (x.l.flatMap en)
  two : T.Pairwise fun x y => ∀ b, x.v.ownBlock = some b → y.v.ownBlock ≠ some b
def bkO {α : Type} (v : Value) (T : List (Tl α)) (k : Nat) : Prop := v.ownBlock = some k ∨ ∃ x ∈ T, x.v.ownBlock = some k
def bkP {α : Type} (en : α → List Value) (e sl sz : Nat) (v : Value) (T : List (Tl α)) : Part := ⟨bkO v T, Bk en e sl sz v T⟩
section
variable {α : Type} {en : α → List Value} {e sl sz : Nat} {v : Value} {T : List (Tl α)}
theorem bkP_good : (bkP en e sl sz v T).Good := fun _ _ h _ hb =>
  ⟨ownsRow_kept0 h.row fun k hk => hb k (.inl hk), fun x hx => ownsRow_kept0 (h.own x hx) fun k hk => hb k (.inr ⟨x, hx, hk⟩), h.two⟩
variable {w W W1 : World} {d g : Nat} {s : St} {t : RSt} {l : List Part}
/-- One list more. -/
theorem Both.tell {st : TypeId} {ti : TypeInfo} (ht : Try.prog.underlying st = some (.slice sl)) (hi : Try.prog.info? sl = some ti) (hz : ti.zero = some (.slice none 0 0)) (hsize : ti.size = 1) (hby : ti.bytes = 24) (hne : e ≠ sl)
    (h : Both w W d g s t (bkP en e sl sz v T :: l)) (hb : Below W.heap.size W W1) (x : Tl α) (ho : W1.ownsRow W.heap.size e sz x.v x.l.length (x.l.flatMap en)) (hn : T.length ≤ 8000000) (ty : TypeId) :
    ∃ p c W', (Builtin.append_ #[st, st] ty #[v, .slice (some ⟨W1.heap.size, 0, none⟩) 1 1]).run Try.prog (W1.alloc (.cells #[x.v] sl)) = .ok (.slice p (T.length + 1) c) W' ∧ Both w W' d g s t (bkP en e sl sz (.slice p (T.length + 1) c) (T ++ [x]) :: l) ∧ Both w (W1.alloc (.cells #[x.v] sl)) d g s t (bkP en e sl sz v T :: l) ∧ Both w W1 d g s t (bkP en e sl sz v T :: l) := by
  have hW1 := h.later hb
  have h1 : Bk en e sl sz v T W1 := hW1.say (p := bkP en e sl sz v T) (by simp)
  have h0 : Bk en e sl sz v T W := h.say (p := bkP en e sl sz v T) (by simp)
  obtain ⟨v', W', hr, ho', _, hF, hor⟩ := own_pushL enS_len enS_one ht hi hz hsize hby (by rfl) (by omega) (by omega) h1.row (Nat.zero_le _) (by omega) x ty
  have hlen : (T ++ [x]).length = T.length + 1 := by simp
  obtain ⟨p, c, rfl, _⟩ := own_slice ho'
  rw [hlen] at hr ho' hor
  refine ⟨p, c, W', hr, ?_, hW1.later (below_new _ _), hW1⟩
  have hx : ∀ b, x.v.ownBlock = some b → W.heap.size ≤ b ∧ b < W1.heap.size := fun b q => ho.lt b q
  have hFx : ∀ b, x.v.ownBlock = some b → ¬ v.ownBlock = some b := fun b q r => by
    have := (h0.row.lt b r).2
    have := (hx b q).1
    omega
  refine h.turn (T := fun k => v.ownBlock = some k) ((Fr.ofBelow (T := fun k => v.ownBlock = some k) hb).trans hF fun _ _ q => q) (fun k _ q => .inl q) bkP_good ⟨by rw [hlen]; exact ho', fun y hy => ?_, ?_⟩ fun k hk => ?_
  · rcases List.mem_append.1 hy with hy | hy
    · exact own_frame (h1.own y hy) hF fun i q r => rows_apart (Ne.symm hne) (h1.own y hy) q h1.row r
    · obtain rfl : y = x := by simpa using hy
      exact own_frame (own_base ho (Nat.zero_le _)) hF fun i q r => hFx i q r
  · rw [List.pairwise_append]
    refine ⟨h1.two, List.pairwise_singleton _ _, fun y hy z hz b q r => ?_⟩
    obtain rfl : z = x := by simpa using hz
    have := ((h0.own y hy).lt b q).2
    have := (hx b r).1
    omega
  · rcases hk with q | ⟨y, hy, q⟩
    · refine ⟨?_, (ho'.lt k q).2⟩
      rcases hor k q with r | r
      · exact .inl (.inl r)
      · exact .inr (by have := hb.size; omega)
    · rcases List.mem_append.1 hy with hy | hy
      · exact ⟨.inl (.inr ⟨y, hy, q⟩), Nat.lt_of_lt_of_le ((h1.own y hy).lt k q).2 hF.size⟩
      · obtain rfl : y = x := by simpa using hy
        exact ⟨.inr (hx k q).1, Nat.lt_of_lt_of_le (hx k q).2 hF.size⟩
end
end Go.Proofs.Ytembocfghkmieaa
/- act of both disks: the calls that tell no list: Read, Barrier, Fuse, Claim, Claimed, the counts, and none; no condition but that numbers do not pass their greatest. -/
namespace Go.Proofs.Ytembocfghkmieaa
open Go.RowKit Go.Maps
/-- Behind a call: both disks stand for the same, and have done one thing more at most. -/
def ActP (w : World) (d g m : Nat) (l : List Part) (W : World) : Prop := ∃ s t, Both w W d g s t l ∧ Sim t s ∧ Cap s (m + 1)
variable {w W : World} {d g m : Nat} {s : St} {t : RSt} {l : List Part}
set_option maxRecDepth 20000 in
set_option maxHeartbeats 1000000 in
theorem act_read (h : Both w W d g s t l) (hS : Sim t s) (hc : Cap s m) (hm : m ≤ 6000000) (yv : Value) (o pos n : Int) (pv kv : Value) :
    Calls Try.prog 12 #[yv, .pointer (some ⟨d, 0, none⟩), .pointer (some ⟨g, 0, none⟩), .agg (actC o 0 pos pv n kv)] W fun e W' => e = .returned (.bool true) ∧ ActP w d g m l W' := by
  obtain ⟨N, z25, eN⟩ : ∃ N, (∀ w, (zeroValue 58).run Try.prog w = .ok (.agg (blk N)) w) ∧ N = nought := ⟨nought, zero25, rfl⟩
  have HN : Hid (N = nought) := eN
  clear eN
  have hb0 := h.box (.cells (actC o 0 pos pv n kv) 44)
  have HS := Hid.mk' hS
  have HC := Hid.mk' hc
  have HB0 := Hid.mk' hb0
  have hA := heap_alloc_new W (.cells (actC o 0 pos pv n kv) 44)
  have HF : Hid (∀ s' t', Sim t' s' → Cap s' (m + 1) → ∀ W' q r u, Both w W' d g s' t' (q :: r :: u :: l) → ActP w d g m l W') := fun s' t' h1 h2 W' q r u h3 => ⟨s', t', h3.pop.pop.pop, h1, h2⟩
  unfold actC at *
  clear h hb0 hS hc
  go_enter Try.func12, Try.ntmps12
  go_wp2_with (go_at_call 20; fail)
  generalize W.alloc _ = W0 at *
  generalize W.heap.size = g0 at *
  refine (both_read HB0.out (HC.out.room (by omega)) pos).mono ?_
  rintro e W1 ⟨rfl, h1⟩
  have hRR := HS.out.room HB0.out.ok HC.out (by omega)
  have hsB := HS.out.readB pos
  have HS1 := Hid.mk' (HS.out.readV pos)
  have HC1 := Hid.mk' (HC.out.readV pos)
  have hrf := HS.out.ref pos
  have h2 := h1.box (.cells (blk (readB s pos)) 58)
  have a2 := h2.at (b := g0) (List.mem_cons_of_mem _ (List.mem_cons_self ..))
  have c2 := Joins.cell_of_block a2 2
  have H2 := Hid.mk' h2
  have HR := Hid.mk' hRR
  have HSB := Hid.mk' hsB
  have HRF := Hid.mk' hrf
  clear h1 h2 hRR hsB hrf HB0 hA a2 HS HC
  generalize hs' : readV s pos = s' at *
  generalize hb1 : readB s pos = b1 at *
  generalize hr1 : refV s pos = r1 at *
  clear hs' hb1 hr1
  go_wp2_with (first | refine wpList_store25_new rfl (.tmp 9) (.tmp 23) rfl b1 _ rfl rfl ?_ | (go_at_call 42; fail))
  generalize W1.alloc _ = W2 at *
  generalize W1.heap.size = g1 at *
  refine (both_rread H2.out HR.out pos).mono ?_
  rintro e W3 ⟨rfl, h3⟩
  rw [HSB.out, HRF.out]
  have h4 := h3.box (.cells (blk b1) 58)
  have k1 := h4.at (b := g1) (List.mem_cons_of_mem _ (List.mem_cons_self ..))
  have k2 := h4.at (b := W3.heap.size) (List.mem_cons_self ..)
  have H4 := Hid.mk' (HF.out _ _ HS1.out HC1.out _ _ _ _ h4)
  clear h3 h4 H2 HR HSB HRF HS1 HC1 HF c2
  have hsb := sameB_self b1
  go_wp2_with (first | refine wpList_store25_new rfl (.tmp 11) (.tmp 30) rfl b1 _ rfl rfl ?_ | refine wpList_load25 rfl (.tmp 9) rfl g1 rfl b1 k1 ?_ | refine wpList_load25 rfl (.tmp 11) rfl W3.heap.size rfl b1 k2 ?_ | refine wpList_eq58 rfl (.tmp 32) (.tmp 33) rfl b1 b1 true rfl rfl hsb ?_)
  go_ret
  exact ⟨rfl, H4.out⟩
end Go.Proofs.Ytembocfghkmieaa
/- act of both disks: Write, Barrier, Fuse, Claim, Claimed, the counts, and none; no condition but that numbers do not pass their greatest. -/
namespace Go.Proofs.Ytembocfghkmieaa
open Go.RowKit Go.Maps
variable {w W : World} {d g m : Nat} {s : St} {t : RSt} {l : List Part}
set_option maxRecDepth 20000 in
set_option maxHeartbeats 1000000 in
theorem act_barrier (h : Both w W d g s t l) (hS : Sim t s) (hc : Cap s m) (hm : m ≤ 6000000) (yv : Value) (o pos n : Int) (pv kv : Value) :
    Calls Try.prog 12 #[yv, .pointer (some ⟨d, 0, none⟩), .pointer (some ⟨g, 0, none⟩), .agg (actC o 2 pos pv n kv)] W fun e W' => e = .returned (.bool true) ∧ ActP w d g m l W' := by
  have hb0 := h.box (.cells (actC o 2 pos pv n kv) 44)
  have HS := Hid.mk' hS
  have HC := Hid.mk' hc
  have HB0 := Hid.mk' hb0
  have hA := heap_alloc_new W (.cells (actC o 2 pos pv n kv) 44)
  have HF : Hid (∀ s' t', Sim t' s' → Cap s' (m + 1) → ∀ W' q, Both w W' d g s' t' (q :: l) → ActP w d g m l W') := fun s' t' h1 h2 W' q h3 => ⟨s', t', h3.pop, h1, h2⟩
  unfold actC at *
  clear h hb0 hS hc
  go_enter Try.func12, Try.ntmps12
  go_wp2_with (go_at_call 32; fail)
  generalize W.alloc _ = W0 at *
  generalize W.heap.size = g0 at *
  refine (both_barrier HB0.out (HC.out.room (by omega))).mono ?_
  rintro e W1 ⟨rfl, h1⟩
  have HR := Hid.mk' (HS.out.room HB0.out.ok HC.out (by omega))
  have HS1 := Hid.mk' (HS.out.barV HB0.out.ok)
  have HC1 := Hid.mk' (HC.out.barV)
  have HE := Hid.mk' HS.out.barE
  have a2 := h1.at (b := g0) (List.mem_cons_self ..)
  have c4 := Joins.cell_of_block a2 4
  have H1 := Hid.mk' h1
  clear h1 HB0 hA a2 HS HC
  go_wp2_with (go_at_call 44; fail)
  refine (both_rbarrier H1.out HR.out).mono ?_
  rintro e W3 ⟨rfl, h3⟩
  have H4 := Hid.mk' (HF.out _ _ HS1.out HC1.out _ _ h3)
  clear h3 H1 HR HS1 HC1 HF c4
  rw [HE.out]
  generalize barE s = r1
  go_wp2
  go_ret
  exact ⟨rfl, H4.out⟩
set_option maxRecDepth 20000 in
set_option maxHeartbeats 1000000 in
theorem act_fuse (h : Both w W d g s t l) (hS : Sim t s) (hc : Cap s m) (hm : m ≤ 6000000) (yv : Value) (o pos n : Int) (pv kv : Value) (hn : n ≤ 9223372036854775807) :
    Calls Try.prog 12 #[yv, .pointer (some ⟨d, 0, none⟩), .pointer (some ⟨g, 0, none⟩), .agg (actC o 3 pos pv n kv)] W fun e W' => e = .returned (.bool true) ∧ ActP w d g m l W' := by
  have hb0 := h.box (.cells (actC o 3 pos pv n kv) 44)
  have HS := Hid.mk' hS
  have HC := Hid.mk' hc
  have HB0 := Hid.mk' hb0
  have hA := heap_alloc_new W (.cells (actC o 3 pos pv n kv) 44)
  have HF : Hid (∀ s' t', Sim t' s' → Cap s' (m + 1) → ∀ W' q, Both w W' d g s' t' (q :: l) → ActP w d g m l W') := fun s' t' h1 h2 W' q h3 => ⟨s', t', h3.pop, h1, h2⟩
  unfold actC at *
  clear h hb0 hS hc
  go_enter Try.func12, Try.ntmps12
  go_wp2_with (go_at_call 31; fail)
  generalize W.alloc _ = W0 at *
  generalize W.heap.size = g0 at *
  refine (both_fuse HB0.out n hn).mono ?_
  rintro e W1 ⟨rfl, h1⟩
  have HR := Hid.mk' (HS.out.room HB0.out.ok HC.out (by omega))
  have HS1 := Hid.mk' (HS.out.fuse_ n hn)
  have HC1 := Hid.mk' (HC.out.fuseV n)
  have a2 := h1.at (b := g0) (List.mem_cons_self ..)
  have c4 := Joins.cell_of_block a2 4
  have H1 := Hid.mk' h1
  clear h1 HB0 hA a2 HS HC
  go_wp2_with (go_at_call 45; fail)
  refine (both_rfuse H1.out n).mono ?_
  rintro e W3 ⟨rfl, h3⟩
  have H4 := Hid.mk' (HF.out _ _ HS1.out HC1.out _ _ h3)
  clear h3 H1 HR HS1 HC1 HF c4
  go_wp2
  go_ret
  exact ⟨rfl, H4.out⟩
set_option maxRecDepth 20000 in
set_option maxHeartbeats 1000000 in
theorem act_claim (h : Both w W d g s t l) (hS : Sim t s) (hc : Cap s m) (hm : m ≤ 6000000) (yv : Value) (o pos n : Int) (pv kv : Value) :
    Calls Try.prog 12 #[yv, .pointer (some ⟨d, 0, none⟩), .pointer (some ⟨g, 0, none⟩), .agg (actC o 5 pos pv n kv)] W fun e W' => e = .returned (.bool true) ∧ ActP w d g m l W' := by
  have hb0 := h.box (.cells (actC o 5 pos pv n kv) 44)
  have HS := Hid.mk' hS
  have HC := Hid.mk' hc
  have HB0 := Hid.mk' hb0
  have hA := heap_alloc_new W (.cells (actC o 5 pos pv n kv) 44)
  have HF : Hid (∀ s' t', Sim t' s' → Cap s' (m + 1) → ∀ W' q, Both w W' d g s' t' (q :: l) → ActP w d g m l W') := fun s' t' h1 h2 W' q h3 => ⟨s', t', h3.pop, h1, h2⟩
  unfold actC at *
  clear h hb0 hS hc
  go_enter Try.func12, Try.ntmps12
  go_wp2_with (go_at_call 36; fail)
  generalize W.alloc _ = W0 at *
  generalize W.heap.size = g0 at *
  refine (both_claim HB0.out (HC.out.room (by omega))).mono ?_
  rintro e W1 ⟨rfl, h1⟩
  have HR := Hid.mk' (HS.out.room HB0.out.ok HC.out (by omega))
  have HS1 := Hid.mk' ((HS.out.claim HB0.out.ok.claims).1)
  have HC1 := Hid.mk' (HC.out.claimV)
  have HE := Hid.mk' (HS.out.claim HB0.out.ok.claims).2
  have a2 := h1.at (b := g0) (List.mem_cons_self ..)
  have c4 := Joins.cell_of_block a2 4
  have H1 := Hid.mk' h1
  clear h1 HB0 hA a2 HS HC
  go_wp2_with (go_at_call 47; fail)
  refine (both_rclaim H1.out HR.out).mono ?_
  rintro e W3 ⟨rfl, h3⟩
  have H4 := Hid.mk' (HF.out _ _ HS1.out HC1.out _ _ h3)
  clear h3 H1 HR HS1 HC1 HF c4
  rw [HE.out]
  generalize claimN s = r1
  go_wp2
  go_ret
  exact ⟨rfl, H4.out⟩
set_option maxRecDepth 20000 in
set_option maxHeartbeats 1000000 in
theorem act_counts (h : Both w W d g s t l) (hS : Sim t s) (hc : Cap s m) (_hm : m ≤ 6000000) (yv : Value) (o pos n : Int) (pv kv : Value) :
    Calls Try.prog 12 #[yv, .pointer (some ⟨d, 0, none⟩), .pointer (some ⟨g, 0, none⟩), .agg (actC o 10 pos pv n kv)] W fun e W' => e = .returned (.bool true) ∧ ActP w d g m l W' := by
  have hb0 := h.box (.cells (actC o 10 pos pv n kv) 44)
  have HS := Hid.mk' hS
  have HC := Hid.mk' hc
  have HB0 := Hid.mk' hb0
  have hA := heap_alloc_new W (.cells (actC o 10 pos pv n kv) 44)
  have HF : Hid (∀ s' t', Sim t' s' → Cap s' (m + 1) → ∀ W' q, Both w W' d g s' t' (q :: l) → ActP w d g m l W') := fun s' t' h1 h2 W' q h3 => ⟨s', t', h3.pop, h1, h2⟩
  unfold actC at *
  clear h hb0 hS hc
  go_enter Try.func12, Try.ntmps12
  go_wp2_with (go_at_call 23; fail)
  generalize W.alloc _ = W0 at *
  have HM := Hid.mk' HS.out.count
  have HRd := Hid.mk' HS.out.seen
  have HL := Hid.mk' HS.out.n
  have HD := Hid.mk' HS.out.dead
  have c1 := fun (V : World) (e : V = W0) => e ▸ both_made HB0.out
  have q1 := both_made HB0.out
  have q2 := both_rmade HB0.out
  have q3 := both_reads HB0.out
  have q4 := both_rreads HB0.out
  have q5 := both_len HB0.out
  have q6 := both_rlen HB0.out
  have q7 := both_stopped HB0.out
  have q8 := both_rstopped HB0.out
  rw [HM.out] at q2
  rw [HRd.out] at q4
  rw [HL.out] at q6
  rw [HD.out] at q8
  have HP := Hid.mk' (HF.out _ _ HS.out (HC.out.mono (by omega)) _ _ HB0.out)
  have Q1 := Hid.mk' q1
  have Q2 := Hid.mk' q2
  have Q3 := Hid.mk' q3
  have Q4 := Hid.mk' q4
  have Q5 := Hid.mk' q5
  have Q6 := Hid.mk' q6
  have Q7 := Hid.mk' q7
  have Q8 := Hid.mk' q8
  clear q1 q2 q3 q4 q5 q6 q7 q8 c1 HM HRd HL HD HS HC HB0 HF
  generalize s.made = x1 at *
  generalize s.reads = x2 at *
  generalize s.n = x3 at *
  generalize s.stopped = x4 at *
  go_wp2_with (first | (go_at_call 23; refine Calls.mono Q1.out ?_; rintro e W' ⟨rfl, rfl⟩) | (go_at_call 52; refine Calls.mono Q2.out ?_; rintro e W' ⟨rfl, rfl⟩) | (go_at_call 24; refine Calls.mono Q3.out ?_; rintro e W' ⟨rfl, rfl⟩) | (go_at_call 53; refine Calls.mono Q4.out ?_; rintro e W' ⟨rfl, rfl⟩) | (go_at_call 18; refine Calls.mono Q5.out ?_; rintro e W' ⟨rfl, rfl⟩) | (go_at_call 54; refine Calls.mono Q6.out ?_; rintro e W' ⟨rfl, rfl⟩) | (go_at_call 34; refine Calls.mono Q7.out ?_; rintro e W' ⟨rfl, rfl⟩) | (go_at_call 55; refine Calls.mono Q8.out ?_; rintro e W' ⟨rfl, rfl⟩))
  go_ret
  exact ⟨rfl, HP.out⟩
set_option maxRecDepth 20000 in
set_option maxHeartbeats 1000000 in
theorem act_else (h : Both w W d g s t l) (hS : Sim t s) (hc : Cap s m) (_hm : m ≤ 6000000) (yv : Value) (o pos n : Int) (pv kv : Value) (k : Int) (hk : ¬ (0 ≤ k ∧ k ≤ 10)) :
    Calls Try.prog 12 #[yv, .pointer (some ⟨d, 0, none⟩), .pointer (some ⟨g, 0, none⟩), .agg (actC o k pos pv n kv)] W fun e W' => e = .returned (.bool true) ∧ ActP w d g m l W' := by
  have hb0 := h.box (.cells (actC o k pos pv n kv) 44)
  have HS := Hid.mk' hS
  have HC := Hid.mk' hc
  have HB0 := Hid.mk' hb0
  have hA := heap_alloc_new W (.cells (actC o k pos pv n kv) 44)
  have HF : Hid (∀ s' t', Sim t' s' → Cap s' (m + 1) → ∀ W' q, Both w W' d g s' t' (q :: l) → ActP w d g m l W') := fun s' t' h1 h2 W' q h3 => ⟨s', t', h3.pop, h1, h2⟩
  unfold actC at *
  clear h hb0 hS hc
  have f0 : (k == 0) = false := by simp; omega
  have f1 : (k == 1) = false := by simp; omega
  have f2 : (k == 2) = false := by simp; omega
  have f3 : (k == 3) = false := by simp; omega
  have f4 : (k == 4) = false := by simp; omega
  have f5 : (k == 5) = false := by simp; omega
  have f6 : (k == 6) = false := by simp; omega
  have f7 : (k == 7) = false := by simp; omega
  have f8 : (k == 8) = false := by simp; omega
  have f9 : (k == 9) = false := by simp; omega
  have f10 : (k == 10) = false := by simp; omega
  have HP := Hid.mk' (HF.out _ _ HS.out (HC.out.mono (by omega)) _ _ HB0.out)
  clear HS HC HF HB0 hk
  go_enter Try.func12, Try.ntmps12
  go_wp2
  go_ret
  exact ⟨rfl, HP.out⟩
set_option maxRecDepth 20000 in
set_option maxHeartbeats 1000000 in
theorem act_claimed (h : Both w W d g s t l) (hS : Sim t s) (hc : Cap s m) (_hm : m ≤ 6000000) (yv : Value) (o pos n : Int) (pv kv : Value) :
    Calls Try.prog 12 #[yv, .pointer (some ⟨d, 0, none⟩), .pointer (some ⟨g, 0, none⟩), .agg (actC o 6 pos pv n kv)] W fun e W' => e = .returned (.bool true) ∧ ActP w d g m l W' := by
  have hb0 := h.box (.cells (actC o 6 pos pv n kv) 44)
  have HS := Hid.mk' hS
  have HC := Hid.mk' hc
  have HB0 := Hid.mk' hb0
  have hA := heap_alloc_new W (.cells (actC o 6 pos pv n kv) 44)
  have HF : Hid (∀ s' t', Sim t' s' → Cap s' (m + 1) → ∀ W' q, Both w W' d g s' t' (q :: l) → ActP w d g m l W') := fun s' t' h1 h2 W' q h3 => ⟨s', t', h3.pop, h1, h2⟩
  unfold actC at *
  clear h hb0 hS hc
  go_enter Try.func12, Try.ntmps12
  go_wp2
  generalize W.alloc _ = W0 at *
  generalize W.heap.size = g0 at *
  have HB1 := Hid.mk' HB0.out.drew
  have HS0 : Hid (W0.drew.heap[g0]? = some _) := hA
  clear HB0 hA
  refine wp_region_ord (S := fun u => u.heap[g0]? = some (.cells #[.int .i64 o, .int .i64 6, .int .i64 pos, pv, .int .i64 n, kv] 44)) [(0, true), (1, true), (2, true), (4, true), (5, true), (6, true), (3, false), (7, false), (8, true), (9, true)]
    (by kernel_rfl) rfl (by kernel_rfl) (fun d _ _ _ _ h => by cases d <;> exact h) HS0.out ?_
  generalize W0.drew = W1 at *
  simp only [inOrd, List.getElem?_cons_zero, List.getElem?_cons_succ]
  refine wpOrd_yield (v := .pointer (some ⟨d, 0, none⟩)) rfl (fun u _ => exec_mv rfl rfl) ?_
  simp only [Act.put, List.setIfInBounds_toArray, List.set_cons_succ, List.set_cons_zero]
  refine wpOrd_yield (v := .pointer (some ⟨g0, 4, none⟩)) rfl (fun u _ => by go_simp) ?_
  simp only [Act.put, List.setIfInBounds_toArray, List.set_cons_succ, List.set_cons_zero]
  refine wpOrd_yield (v := .int .i64 n) rfl (fun u hu => by have := Joins.cell_of_block hu 4; go_simp) ?_
  simp only [Act.put, List.setIfInBounds_toArray, List.set_cons_succ, List.set_cons_zero]
  refine wpOrd_yield (v := .pointer (some ⟨g, 0, none⟩)) rfl (fun u _ => exec_mv rfl rfl) ?_
  simp only [Act.put, List.setIfInBounds_toArray, List.set_cons_succ, List.set_cons_zero]
  refine wpOrd_yield (v := .pointer (some ⟨g0, 4, none⟩)) rfl (fun u _ => by go_simp) ?_
  simp only [Act.put, List.setIfInBounds_toArray, List.set_cons_succ, List.set_cons_zero]
  refine wpOrd_yield (v := .int .i64 n) rfl (fun u hu => by have := Joins.cell_of_block hu 4; go_simp) ?_
  simp only [Act.put, List.setIfInBounds_toArray, List.set_cons_succ, List.set_cons_zero]
  refine wpOrd_call rfl 37 _ _ rfl Try.call37 [.pointer (some ⟨d, 0, none⟩), .int .i64 n] rfl ?_
  refine (both_claimed HB1.out n).mono ?_
  rintro e X ⟨rfl, rfl⟩
  refine ⟨_, rfl, HS0.out, ?_⟩
  simp only [Act.put, List.setIfInBounds_toArray, List.set_cons_succ, List.set_cons_zero]
  refine wpOrd_call rfl 48 _ _ rfl Try.call48 [.pointer (some ⟨g, 0, none⟩), .int .i64 n] rfl ?_
  refine (both_rclaimed HB1.out n).mono ?_
  rintro e X2 ⟨rfl, rfl⟩
  rw [HS.out.isClaimed n]
  refine ⟨_, rfl, HS0.out, ?_⟩
  simp only [Act.put, List.setIfInBounds_toArray, List.set_cons_succ, List.set_cons_zero]
  have HP := Hid.mk' (HF.out _ _ HS.out (HC.out.mono (by omega)) _ _ HB1.out)
  clear HB1 HS HC HF HS0
  generalize claimedV s n = b
  refine wpOrd_yield (v := .bool true) rfl (fun u _ => by go_simp) ?_
  simp only [Act.put, List.setIfInBounds_toArray, List.set_cons_succ, List.set_cons_zero]
  refine wpOrd_yield (v := .bool true) rfl (fun u _ => by go_simp) ?_
  simp only [Act.put, List.setIfInBounds_toArray, List.set_cons_succ, List.set_cons_zero]
  refine wpOrd_nil ?_
  try simp only [Act.put]
  go_wp2
  go_ret
  exact ⟨rfl, HP.out⟩
set_option maxRecDepth 20000 in
set_option maxHeartbeats 1000000 in
theorem act_write (h : Both w W d g s t l) (hS : Sim t s) (hc : Cap s m) (hm : m ≤ 6000000) (yv : Value) (o pos n : Int) (pv kv : Value) {f : Nat → Int} (hf : Can f) (hB : ∀ V, (∃ s t l, Both w V d g s t l) → Calls Try.prog 21 #[pv] V fun e W' => e = .returned (.agg (blk f)) ∧ Below V.heap.size V W') :
    Calls Try.prog 12 #[yv, .pointer (some ⟨d, 0, none⟩), .pointer (some ⟨g, 0, none⟩), .agg (actC o 1 pos pv n kv)] W fun e W' => e = .returned (.bool true) ∧ ActP w d g m l W' := by
  have hb0 := h.box (.cells (actC o 1 pos pv n kv) 44)
  have HS := Hid.mk' hS
  have HC := Hid.mk' hc
  have HB0 := Hid.mk' hb0
  have hA := heap_alloc_new W (.cells (actC o 1 pos pv n kv) 44)
  have HF : Hid (∀ s' t', Sim t' s' → Cap s' (m + 1) → ∀ W' q, Both w W' d g s' t' (q :: l) → ActP w d g m l W') := fun s' t' h1 h2 W' q h3 => ⟨s', t', h3.pop, h1, h2⟩
  unfold actC at *
  clear h hb0 hS hc
  have HBk : Hid (∀ V, (∃ s t l, Both w V d g s t l) → Calls Try.prog 21 #[pv] V fun e W' => e = .returned (.agg (blk f)) ∧ Below V.heap.size V W') := hB
  clear hB
  go_enter Try.func12, Try.ntmps12
  go_wp2
  generalize W.alloc _ = W0 at *
  generalize W.heap.size = g0 at *
  have HB1 := Hid.mk' HB0.out.drew
  have HS0 : Hid (W0.drew.heap[g0]? = some _) := hA
  clear HB0 hA
  refine wp_region_ord (S := fun u => u.heap[g0]? = some (.cells #[.int .i64 o, .int .i64 1, .int .i64 pos, pv, .int .i64 n, kv] 44)) [(0, true), (1, true), (2, true), (3, true), (4, true), (7, true), (8, true), (9, true), (10, true), (11, true), (5, false), (6, false), (12, false), (13, false), (14, true), (15, true)]
    (by kernel_rfl) rfl (by kernel_rfl) (fun d _ _ _ _ h => by cases d <;> exact h) HS0.out ?_
  generalize W0.drew = W1 at *
  simp only [inOrd, List.getElem?_cons_zero, List.getElem?_cons_succ]
  refine wpOrd_yield (v := .pointer (some ⟨d, 0, none⟩)) rfl (fun u _ => exec_mv rfl rfl) ?_
  simp only [Act.put, List.setIfInBounds_toArray, List.set_cons_succ, List.set_cons_zero]
  refine wpOrd_yield (v := .pointer (some ⟨g0, 2, none⟩)) rfl (fun u _ => by go_simp) ?_
  simp only [Act.put, List.setIfInBounds_toArray, List.set_cons_succ, List.set_cons_zero]
  refine wpOrd_yield (v := .int .i64 pos) rfl (fun u hu => by have := Joins.cell_of_block hu 2; go_simp) ?_
  simp only [Act.put, List.setIfInBounds_toArray, List.set_cons_succ, List.set_cons_zero]
  refine wpOrd_yield (v := .pointer (some ⟨g0, 3, none⟩)) rfl (fun u _ => by go_simp) ?_
  simp only [Act.put, List.setIfInBounds_toArray, List.set_cons_succ, List.set_cons_zero]
  refine wpOrd_yield (v := pv) rfl (fun u hu => by have := Joins.cell_of_block hu 3; go_simp) ?_
  simp only [Act.put, List.setIfInBounds_toArray, List.set_cons_succ, List.set_cons_zero]
  refine wpOrd_yield (v := .pointer (some ⟨g, 0, none⟩)) rfl (fun u _ => exec_mv rfl rfl) ?_
  simp only [Act.put, List.setIfInBounds_toArray, List.set_cons_succ, List.set_cons_zero]
  refine wpOrd_yield (v := .pointer (some ⟨g0, 2, none⟩)) rfl (fun u _ => by go_simp) ?_
  simp only [Act.put, List.setIfInBounds_toArray, List.set_cons_succ, List.set_cons_zero]
  refine wpOrd_yield (v := .int .i64 pos) rfl (fun u hu => by have := Joins.cell_of_block hu 2; go_simp) ?_
  simp only [Act.put, List.setIfInBounds_toArray, List.set_cons_succ, List.set_cons_zero]
  refine wpOrd_yield (v := .pointer (some ⟨g0, 3, none⟩)) rfl (fun u _ => by go_simp) ?_
  simp only [Act.put, List.setIfInBounds_toArray, List.set_cons_succ, List.set_cons_zero]
  refine wpOrd_yield (v := pv) rfl (fun u hu => by have := Joins.cell_of_block hu 3; go_simp) ?_
  simp only [Act.put, List.setIfInBounds_toArray, List.set_cons_succ, List.set_cons_zero]
  refine wpOrd_call rfl 21 _ _ rfl Try.call21 [pv] rfl ?_
  refine (HBk.out _ ⟨_, _, _, HB1.out⟩).mono ?_
  rintro e X1 ⟨rfl, hb1⟩
  have h1 := HB1.out.later hb1
  refine ⟨_, rfl, h1.at (List.mem_cons_self ..), ?_⟩
  simp only [Act.put, List.setIfInBounds_toArray, List.set_cons_succ, List.set_cons_zero]
  refine wpOrd_call rfl 33 _ _ rfl Try.call33 [.pointer (some ⟨d, 0, none⟩), .int .i64 pos, .agg (blk f)] rfl ?_
  refine (both_write h1 (HC.out.room (by omega)) pos hf).mono ?_
  rintro e X2 ⟨rfl, h2⟩
  refine ⟨_, rfl, h2.at (List.mem_cons_self ..), ?_⟩
  simp only [Act.put, List.setIfInBounds_toArray, List.set_cons_succ, List.set_cons_zero]
  refine wpOrd_call rfl 21 _ _ rfl Try.call21 [pv] rfl ?_
  refine (HBk.out _ ⟨_, _, _, h2⟩).mono ?_
  rintro e X3 ⟨rfl, hb3⟩
  have h3 := h2.later hb3
  refine ⟨_, rfl, h3.at (List.mem_cons_self ..), ?_⟩
  simp only [Act.put, List.setIfInBounds_toArray, List.set_cons_succ, List.set_cons_zero]
  refine wpOrd_call rfl 43 _ _ rfl Try.call43 [.pointer (some ⟨g, 0, none⟩), .int .i64 pos, .agg (blk f)] rfl ?_
  refine (both_rwrite h3 (HS.out.room HB1.out.ok HC.out (by omega)) pos f).mono ?_
  rintro e X4 ⟨rfl, h4⟩
  rw [HS.out.writeE pos]
  refine ⟨_, rfl, h4.at (List.mem_cons_self ..), ?_⟩
  simp only [Act.put, List.setIfInBounds_toArray, List.set_cons_succ, List.set_cons_zero]
  have HP := Hid.mk' (HF.out _ _ (HS.out.writeV pos f) (HC.out.writeV pos f) _ _ h4)
  clear HB1 HS HC HF HS0 HBk h1 h2 h3 h4 hb1 hb3
  generalize writeE s pos = b
  refine wpOrd_yield (v := .bool true) rfl (fun u _ => by go_simp) ?_
  simp only [Act.put, List.setIfInBounds_toArray, List.set_cons_succ, List.set_cons_zero]
  refine wpOrd_yield (v := .bool true) rfl (fun u _ => by go_simp) ?_
  simp only [Act.put, List.setIfInBounds_toArray, List.set_cons_succ, List.set_cons_zero]
  refine wpOrd_nil ?_
  try simp only [Act.put]
  go_wp2
  go_ret
  exact ⟨rfl, HP.out⟩
end Go.Proofs.Ytembocfghkmieaa
/- A list that lies somewhere is put into the book; no condition but a bound of the book's length. -/
namespace Go.Proofs.Ytembocfghkmieaa
open Go.RowKit Go.Maps
/-- Two parts as one. -/
def Part.and (p q : Part) : Part := ⟨fun k => p.own k ∨ q.own k, fun W => p.say W ∧ q.say W⟩
theorem Sep.join {w W : World} {p q : Part} {l : List Part} (h : Sep w W (p :: q :: l)) : Sep w W (p.and q :: l) := by
  obtain ⟨ha, hl⟩ := List.pairwise_cons.1 h.apart
  obtain ⟨hb, hl⟩ := List.pairwise_cons.1 hl
  have mp : p ∈ p :: q :: l := by simp
  have mq : q ∈ p :: q :: l := by simp
  refine ⟨fun r hr => ?_, fun r hr => ?_, fun r hr k hk => ?_, List.pairwise_cons.2 ⟨fun r hr k hk => ?_, hl⟩, h.below⟩
  · rcases List.mem_cons.1 hr with rfl | hr
    · exact fun W W' hs hlt hk => ⟨h.good p mp W W' hs.1 (fun k q => hlt k (.inl q)) fun k q => hk k (.inl q), h.good q mq W W' hs.2 (fun k q => hlt k (.inr q)) fun k q => hk k (.inr q)⟩
    · exact h.good r (by simp [hr])
  · rcases List.mem_cons.1 hr with rfl | hr
    · exact ⟨h.say p mp, h.say q mq⟩
    · exact h.say r (by simp [hr])
  · rcases List.mem_cons.1 hr with rfl | hr
    · rcases hk with hk | hk
      · exact h.lt p mp k hk
      · exact h.lt q mq k hk
    · exact h.lt r (by simp [hr]) k hk
  · rcases hk with hk | hk
    · exact ha r (by simp [hr]) k hk
    · exact hb r hr k hk
/-- A list. -/
def lsP {α : Type} (en : α → List Value) (e sz : Nat) (x : Tl α) : Part := ⟨fun k => x.v.ownBlock = some k, fun W => W.ownsRow 0 e sz x.v x.l.length (x.l.flatMap en)⟩
section
variable {α : Type} {en : α → List Value} {e sl sz : Nat} {v : Value} {T : List (Tl α)} {x : Tl α}
variable {w W W1 : World} {d g gy : Nat} {s : St} {t : RSt} {l : List Part} {vs : Array Value}
theorem Both.list (h : Both w W d g s t l) (hb : Below W.heap.size W W1) (ho : W1.ownsRow W.heap.size e sz x.v x.l.length (x.l.flatMap en)) : Both w W1 d g s t (lsP en e sz x :: l) := by
  obtain ⟨L, R, hd, hg, h⟩ := h.out
  have h2 := h.add (p := lsP en e sz x) hb (fun W W' h _ hk => ownsRow_kept0 h hk) (own_base ho (Nat.zero_le _)) fun k hk => ho.lt k hk
  exact ⟨L, R, hd, hg, h2.back⟩
/-- The list is put into the book. -/
theorem Both.tellP {st : TypeId} {ti : TypeInfo} (ht : Try.prog.underlying st = some (.slice sl)) (hi : Try.prog.info? sl = some ti) (hz : ti.zero = some (.slice none 0 0)) (hsize : ti.size = 1) (hby : ti.bytes = 24) (hne : e ≠ sl)
    (h : Both w W d g s t (lsP en e sz x :: bkP en e sl sz v T :: l)) (hn : T.length ≤ 8000000) (ty : TypeId) :
    ∃ p c W', (Builtin.append_ #[st, st] ty #[v, .slice (some ⟨W.heap.size, 0, none⟩) 1 1]).run Try.prog (W.alloc (.cells #[x.v] sl)) = .ok (.slice p (T.length + 1) c) W' ∧ Both w W' d g s t (bkP en e sl sz (.slice p (T.length + 1) c) (T ++ [x]) :: l) := by
  have hx : W.ownsRow 0 e sz x.v x.l.length (x.l.flatMap en) := h.say (p := lsP en e sz x) (by simp)
  have h1 : Bk en e sl sz v T W := h.say (p := bkP en e sl sz v T) (by simp)
  have hap : ∀ k, x.v.ownBlock = some k → ¬ bkO v T k := by
    obtain ⟨L, R, hd, hg, h⟩ := h.out
    exact (List.pairwise_cons.1 h.drop.drop.apart).1 (bkP en e sl sz v T) (by simp)
  obtain ⟨v', W', hr, ho', _, hF, hor⟩ := own_pushL enS_len enS_one ht hi hz hsize hby (by rfl) (by omega) (by omega) h1.row (Nat.zero_le _) (by omega) x ty
  have hlen : (T ++ [x]).length = T.length + 1 := by simp
  obtain ⟨p, c, rfl, _⟩ := own_slice ho'
  rw [hlen] at hr ho' hor
  refine ⟨p, c, W', hr, ?_⟩
  have hj : Both w W d g s t ((lsP en e sz x).and (bkP en e sl sz v T) :: l) := by
    obtain ⟨L, R, hd, hg, h⟩ := h.out
    have h2 : Sep w W (lsP en e sz x :: bkP en e sl sz v T :: dkP L s :: rdP R t :: l) := by
      have h3 : Sep w W ([dkP L s, rdP R t] ++ (lsP en e sz x :: bkP en e sl sz v T :: l)) := h
      have h4 := h3.perm List.perm_middle
      have h5 : Sep w W ([lsP en e sz x, dkP L s, rdP R t] ++ (bkP en e sl sz v T :: l)) := h4
      exact (h5.perm List.perm_middle).swap
    exact ⟨L, R, hd, hg, h2.join.back⟩
  refine hj.turn (T := fun k => v.ownBlock = some k) hF (fun k _ q => .inr (.inl q)) bkP_good ⟨by rw [hlen]; exact ho', fun y hy => ?_, ?_⟩ fun k hk => ?_
  · rcases List.mem_append.1 hy with hy | hy
    · exact own_frame (h1.own y hy) hF fun i q r => rows_apart (Ne.symm hne) (h1.own y hy) q h1.row r
    · obtain rfl : y = x := by simpa using hy
      exact own_frame hx hF fun i q r => hap i q (.inl r)
  · rw [List.pairwise_append]
    refine ⟨h1.two, List.pairwise_singleton _ _, fun y hy z hz b q r => ?_⟩
    obtain rfl : z = x := by simpa using hz
    exact hap b r (.inr ⟨y, hy, q⟩)
  · rcases hk with q | ⟨y, hy, q⟩
    · exact ⟨(hor k q).elim (fun r => .inl (.inr (.inl r))) .inr, (ho'.lt k q).2⟩
    · rcases List.mem_append.1 hy with hy | hy
      · exact ⟨.inl (.inr (.inr ⟨y, hy, q⟩)), Nat.lt_of_lt_of_le ((h1.own y hy).lt k q).2 hF.size⟩
      · obtain rfl : y = x := by simpa using hy
        exact ⟨.inl (.inl q), Nat.lt_of_lt_of_le (hx.lt k q).2 hF.size⟩
/-- A cell of a block that is told is written. -/
theorem Both.setBox {ty : TypeId} (h : Both w W d g s t (boxP gy (.cells vs ty) :: l)) (i : Nat) (u : Value) : Both w (W.setCell ⟨gy, i, none⟩ u) d g s t (boxP gy (.cells (vs.setIfInBounds i u) ty) :: l) := by
  have hg := h.at (List.mem_cons_self ..)
  have hg2 : (W.setCell ⟨gy, i, none⟩ u).heap[gy]? = some (.cells (vs.setIfInBounds i u) ty) := heap_setCell_same W gy i _ ty _ hg
  refine h.turn (p' := boxP gy (.cells (vs.setIfInBounds i u) ty)) (Fr.setCell W gy i _) (fun k _ q => q) (boxP_good _ _) hg2 fun k hk => ⟨.inl hk, ?_⟩
  have e : k = gy := hk
  rw [e]
  exact (Array.getElem?_eq_some_iff.1 hg2).1
/-- The list is put into the book, and its row's new place stands in the book's own row. -/
theorem Both.tells {st : TypeId} {ti : TypeInfo} (ht : Try.prog.underlying st = some (.slice sl)) (hi : Try.prog.info? sl = some ti) (hz : ti.zero = some (.slice none 0 0)) (hsize : ti.size = 1) (hby : ti.bytes = 24) (hne : e ≠ sl)
    (h : Both w W d g s t (lsP en e sz x :: boxP gy (.cells vs 39) :: bkP en e sl sz v T :: l)) (hn : T.length ≤ 8000000) (ty : TypeId) (i : Nat) :
    ∃ p c W', (Builtin.append_ #[st, st] ty #[v, .slice (some ⟨W.heap.size, 0, none⟩) 1 1]).run Try.prog (W.alloc (.cells #[x.v] sl)) = .ok (.slice p (T.length + 1) c) W' ∧ Both w W' d g s t (boxP gy (.cells vs 39) :: bkP en e sl sz (.slice p (T.length + 1) c) (T ++ [x]) :: l) ∧
      Both w (W'.setCell ⟨gy, i, none⟩ (.slice p (T.length + 1) c)) d g s t (boxP gy (.cells (vs.setIfInBounds i (.slice p (T.length + 1) c)) 39) :: bkP en e sl sz (.slice p (T.length + 1) c) (T ++ [x]) :: l) := by
  have h2 : Both w W d g s t (lsP en e sz x :: bkP en e sl sz v T :: boxP gy (.cells vs 39) :: l) := h.perm (.cons _ (.swap _ _ _))
  obtain ⟨p, c, W', hr, h3⟩ := Both.tellP ht hi hz hsize hby hne h2 hn ty
  have h4 := h3.perm (.swap _ _ _)
  exact ⟨p, c, W', hr, h4, h4.setBox i _⟩
end
/-- Lists that were told: those of the program, and what they must be. -/
structure Book where
  i1 : List (Tl Int)
  i2 : List (Tl Int)
  o1 : List (Tl Rec)
  o2 : List (Tl Rec)
  h1 : List (Tl Cel)
  h2 : List (Tl Cel)
/-- Each is what it must be; there are so many at most. -/
structure Book.Ok (Y : Book) (m : Nat) : Prop where
  i : Y.i1.map (·.l) = Y.i2.map (·.l)
  o : Y.o1.map (·.l) = Y.o2.map (·.l)
  h : Y.h1.map (·.l) = Y.h2.map (·.l)
  li : Y.i1.length ≤ m
  lo : Y.o1.length ≤ m
  lh : Y.h1.length ≤ m
  ei : ∀ x ∈ Y.i1, x.l.length ≤ 7000000
  eo : ∀ x ∈ Y.o1, x.l.length ≤ 7000000
  eh : ∀ x ∈ Y.h1, x.l.length ≤ 7000000
theorem Book.Ok.mono {Y : Book} {m m' : Nat} (h : Y.Ok m) (hm : m ≤ m') : Y.Ok m' := ⟨h.i, h.o, h.h, by have := h.li; omega, by have := h.lo; omega, by have := h.lh; omega, h.ei, h.eo, h.eh⟩
theorem Book.Ok.l2 {Y : Book} {m : Nat} (h : Y.Ok m) : Y.i2.length ≤ m ∧ Y.o2.length ≤ m ∧ Y.h2.length ≤ m := by
  have a := congrArg List.length h.i
  have b := congrArg List.length h.o
  have c := congrArg List.length h.h
  simp only [List.length_map] at a b c
  have := h.li
  have := h.lo
  have := h.lh
  omega
/-- The book in memory. -/
def bkL (gy : Nat) (v0 v1 v2 v3 v4 v5 : Value) (Y : Book) (l : List Part) : List Part :=
  boxP gy (.cells #[v0, v1, v2, v3, v4, v5] 39) :: bkP enI 3 65 1 v0 Y.i1 :: bkP enI 3 65 1 v1 Y.i2 :: bkP recCells 108 67 1026 v2 Y.o1 :: bkP recCells 108 67 1026 v3 Y.o2 :: bkP celRow 85 30 1025 v4 Y.h1 :: bkP celRow 85 30 1025 v5 Y.h2 :: l
def ActY (w : World) (d g gy m : Nat) (l : List Part) (W : World) : Prop := ∃ v0 v1 v2 v3 v4 v5 Y s t, Both w W d g s t (bkL gy v0 v1 v2 v3 v4 v5 Y l) ∧ Sim t s ∧ Cap s (m + 1) ∧ Book.Ok Y (m + 1)
/-- A list's part comes to its place behind the book's row, and goes back. -/
theorem perm_up {β : Type} (a b : β) (u : List β) (c : β) (r : List β) : (a :: b :: (u ++ c :: r)).Perm (b :: c :: (a :: u ++ r)) := (List.Perm.swap b a _).trans (.cons _ (List.perm_middle (l₁ := a :: u)))
end Go.Proofs.Ytembocfghkmieaa
