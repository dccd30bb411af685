/- Several texts joined, each with its own remark; no condition. -/
import Derived.Test.YtlcdpmjdnihocaaGreatJ9
import Derived.Test.YtlcdpmjdnihocaaGreatJ11
import Derived.Test.YtlcdpmjdnihocaaGreatJ14
import Derived.Test.YtlcdpmjdnihocaaGreatJ10
import Derived.Test.YtlcdpmjdnihocaaGreatJ4
/- Lists of things done held against each other: SameOps; no condition but that lists are not longer than lists can be. -/
namespace Go.Proofs.YtlcdpmjdnihocaaGreatD
open Go.RowKit Go.Maps
/-- A list of things done lies somewhere. -/
def OpsAt (w : World) (p : Option Addr) (l : List Rec) : Prop := LiesE recCells 1026 w p l
theorem OpsAt.later {w W : World} {p : Option Addr} {l : List Rec} (h : OpsAt w p l) (hb : Below w.heap.size w W) : OpsAt W p l := fun h0 => by
  obtain ⟨b, off, h1, h2, h3⟩ := h h0
  exact ⟨b, off, h1, Nat.lt_of_lt_of_le h2 hb.size, fun k x hx j v hv => (hb.cell (p := ⟨b, off + k * 1026 + j, none⟩) h2).trans (h3 k x hx j v hv)⟩
theorem part_kind (r : Rec) (w : World) : (part 92 (recCells r).toArray 0).run Tryz.prog w = .ok (.int .u8 r.kind) w := by
  simp [part, Tryz.isAgg92, recCells]
theorem part_pos (r : Rec) (w : World) : (part 3 (recCells r).toArray 1).run Tryz.prog w = .ok (.int .i64 r.pos) w := by
  simp [part, Tryz.isAgg3, recCells]
theorem part_dat (r : Rec) (w : World) : (part 79 (recCells r).toArray 2).run Tryz.prog w = .ok (.agg (blk r.dat)) w := by
  have hs := blk_size r.dat
  have hc : (recCells r).toArray.size = 1026 := by rw [List.size_toArray, recCells_len]
  have he : (recCells r).toArray.extract 2 (2 + 1024) = blk r.dat := by
    apply Array.toList_inj.1
    have ht : (blk r.dat).toList.take 1024 = (blk r.dat).toList := List.take_of_length_le (by rw [Array.length_toList, hs]; omega)
    simp [recCells, ht]
  generalize hR : (recCells r).toArray = R at *
  simp [part, Tryz.isAgg79, Tryz.sizeOf79, hc, he]
theorem fields86 : (Tryz.prog.fieldsOf 94).toList.map (fun f => (f.name, f.type, f.offset)) = [("Kind", 92, 0), ("At", 3, 1), ("Data", 79, 2)] := by kernel_rfl
theorem under86 : Tryz.prog.underlying 94 = some (.struct (Tryz.prog.fieldsOf 94)) := by
  unfold Program.fieldsOf
  rw [Tryz.underlying94]
theorem held86 : Tryz.prog.stoodInHeld 94 = false := by kernel_rfl
/-- Are two things done the same? -/
def recB (a b : Rec) : Bool := (a.kind == b.kind) && ((a.pos == b.pos) && sameB a.dat b.dat)
theorem eq_rec (d : Nat) (a b : Rec) (w : World) : (Op.equalIn (d + 1 + 1 + 1) 94 (.agg (recCells a).toArray) (.agg (recCells b).toArray)).run Tryz.prog w = .ok (recB a b) w := by
  rw [run_equalIn_struct w (d + 1 + 1) 94 _ _ under86 held86]
  have hf := fields86
  generalize (Tryz.prog.fieldsOf 94).toList = fs at hf
  obtain ⟨f1, f2, f3, rfl⟩ : ∃ f1 f2 f3, fs = [f1, f2, f3] := by
    have hl : fs.length = 3 := by have := congrArg List.length hf; simpa using this
    rcases fs with _ | ⟨f1, _ | ⟨f2, _ | ⟨f3, _ | ⟨f4, t⟩⟩⟩⟩
    · simp at hl
    · simp at hl
    · simp at hl
    · exact ⟨f1, f2, f3, rfl⟩
    · simp at hl
  · simp only [List.map_cons, List.map_nil, List.cons.injEq, Prod.mk.injEq] at hf
    obtain ⟨⟨n1, t1, o1⟩, ⟨n2, t2, o2⟩, ⟨n3, t3, o3⟩, _⟩ := hf
    have e1 := part_kind a
    have e2 := part_kind b
    have e3 := part_pos a
    have e4 := part_pos b
    have e5 := part_dat a
    have e6 := part_dat b
    have e7 := eq25d d a.dat b.dat
    generalize (recCells a).toArray = A at *
    generalize (recCells b).toArray = B at *
    generalize blk a.dat = F at *
    generalize blk b.dat = G at *
    unfold recB
    cases hx : (a.kind == b.kind)
    · simp [Op.eqFields, n1, t1, o1, e1, e2, run_equalIn_int _ _ _ _ _ _ _ Tryz.underlying92, hx]
    · cases hy : (a.pos == b.pos)
      · simp [Op.eqFields, n1, t1, o1, n2, t2, o2, e1, e2, e3, e4, run_equalIn_int _ _ _ _ _ _ _ Tryz.underlying92, run_equalIn_int _ _ _ _ _ _ _ Tryz.underlying3, hx, hy]
      · cases hz : sameB a.dat b.dat
        · rw [hz] at e7
          simp [Op.eqFields, n1, t1, o1, n2, t2, o2, n3, t3, o3, e1, e2, e3, e4, e5, e6, e7, run_equalIn_int _ _ _ _ _ _ _ Tryz.underlying92, run_equalIn_int _ _ _ _ _ _ _ Tryz.underlying3, hx, hy]
        · rw [hz] at e7
          simp [Op.eqFields, n1, t1, o1, n2, t2, o2, n3, t3, o3, e1, e2, e3, e4, e5, e6, e7, run_equalIn_int _ _ _ _ _ _ _ Tryz.underlying92, run_equalIn_int _ _ _ _ _ _ _ Tryz.underlying3, hx, hy]
theorem load86 {w : World} {g off : Nat} {r : Rec} (h : w.rangeAt g off (recCells r)) : (Instr.loadAt 94 (.pointer (some ⟨g, off, none⟩))).run Tryz.prog w = .ok (.agg (recCells r).toArray) w :=
  run_loadAt_mid (P := Tryz.prog) w g off 94 (recCells r) _ h Tryz.underlying94 rfl (by rw [recCells_len]; exact size108)
theorem neqg86 (x y : Operand) (F G : Array Value) (u : World) : (eqGuard .neq 94 x y (.agg F) (.agg G)).run Tryz.prog u = .ok () u := by
  unfold eqGuard
  simp
theorem neq86 (a b : Rec) (r : Bool) (hr : recB a b = r) (u : World) : (binOp .neq 94 (.agg (recCells a).toArray) (.agg (recCells b).toArray)).run Tryz.prog u = .ok (.bool (!r)) u := by
  have h := eq_rec 9997 a b u
  rw [hr] at h
  generalize (recCells a).toArray = F at *
  generalize (recCells b).toArray = G at *
  have h' : (Op.equalIn 10000 94 (.agg F) (.agg G)).run Tryz.prog u = .ok r u := h
  simp only [binOp, Op.equal, Op.maxDepth, Sem.run_bind, h', Result.andThen_ok, Sem.run_pure]
theorem wpStill_load86 {ops : Array Oper} {Q : Act → Prop} {a : Act} {o : Oper} {rest : List Oper} {w : World} (hw : Region.wanted o (yielded ops a.tmps) = true) (x : Operand) (ho : o.op = .load 94 x)
    (g off : Nat) (hx : a.eval x = .pointer (some ⟨g, off, none⟩)) (c : Rec) (hg : w.rangeAt g off (recCells c))
    (h : wpStill Tryz.prog ops w Q rest (a.put o.dst (.agg (recCells c).toArray))) : wpStill Tryz.prog ops w Q (o :: rest) a := by
  unfold wpStill
  rw [if_pos hw]
  unfold Oper.still execOp
  simp only [ho, hx, load86 hg, Sem.run_bind, Result.andThen_ok, Sem.run_pure, Oper.stillUpon]
  exact ⟨trivial, h⟩
theorem wpStill_neq86 {ops : Array Oper} {Q : Act → Prop} {a : Act} {o : Oper} {rest : List Oper} {w : World} (hw : Region.wanted o (yielded ops a.tmps) = true) (x y : Operand) (ho : o.op = .binOp .neq 94 x y 94)
    (c d : Rec) (r : Bool) (hx : a.eval x = .agg (recCells c).toArray) (hy : a.eval y = .agg (recCells d).toArray) (hr : recB c d = r)
    (h : wpStill Tryz.prog ops w Q rest (a.put o.dst (.bool (!r)))) : wpStill Tryz.prog ops w Q (o :: rest) a := by
  have e := neq86 c d r hr w
  unfold wpStill
  rw [if_pos hw]
  unfold Oper.still execOp
  simp only [ho, hx, hy, Sem.run_bind, neqg86, e, Result.andThen_ok, Sem.run_pure, Oper.stillUpon]
  exact ⟨trivial, h⟩
/-- Are two lists the same? -/
def recsB : List Rec → List Rec → Bool
  | [], [] => true
  | a :: s, b :: t => recB a b && recsB s t
  | _, _ => false
theorem recsB_len : ∀ {s t : List Rec}, recsB s t = true → s.length = t.length
  | [], [], _ => rfl
  | a :: s, b :: t, h => by
    unfold recsB at h
    simp at h
    simp [recsB_len h.2]
  | [], _ :: _, h => by simp [recsB] at h
  | _ :: _, [], h => by simp [recsB] at h
theorem recB_self (r : Rec) : recB r r = true := by
  unfold recB
  rw [sameB_self]
  simp
theorem recsB_self : ∀ l : List Rec, recsB l l = true
  | [] => rfl
  | a :: t => by unfold recsB; rw [recB_self, recsB_self t]; rfl
set_option maxRecDepth 20000 in
set_option maxHeartbeats 1000000 in
theorem sameOps_any (s t : List Rec) (p q : Option Addr) (cp cq : Nat) (w : World) (hls : s.length < 9223372036854775807) (_hlt : t.length < 9223372036854775807) (hs : OpsAt w p s) (ht : OpsAt w q t) :
    Calls Tryz.prog 17 #[.slice p s.length cp, .slice q t.length cq] w fun e w' => e = .returned (.bool (recsB s t)) ∧ Below w.heap.size w w' := by
  by_cases hl : s.length = t.length
  · have HS : Hid (OpsAt w p s) := hs
    have HT : Hid (OpsAt w q t) := ht
    have HR : Hid (recsB s t = recsB (s.drop 0) (t.drop 0)) := rfl
    generalize recsB s t = res at *
    obtain ⟨n, hn⟩ : ∃ n, s.length = n := ⟨_, rfl⟩
    have hn2 : t.length = n := by omega
    rw [hn, hn2]
    rw [hn] at hls
    have HL : Hid (s.length = n ∧ t.length = n) := ⟨hn, hn2⟩
    clear hs ht hl hn hn2
    go_enter Tryz.func17, Tryz.ntmps17
    go_wp2
    go_loopw [5] (fun s5 wx => ∃ k : Nat, k ≤ n ∧ s5 = .int .i64 k ∧ Hid (Below w.heap.size w wx) ∧ Hid (res = recsB (s.drop k) (t.drop k))) (fun s5 _ => n - (intOf s5).toNat)
    case atStart => exact ⟨0, by omega, rfl, Below.refl _ _, HR.out⟩
    case round =>
      obtain ⟨k, hk, rfl, HB, HR2⟩ := hrel
      clear HR
      by_cases hk2 : (k : Int) < n
      · obtain ⟨hn, hn2⟩ := HL.out
        have hc : s[k]? = some s[k] := List.getElem?_eq_getElem (by omega)
        have hd : t[k]? = some t[k] := List.getElem?_eq_getElem (by omega)
        have hcd : s.drop k = s[k] :: s.drop (k + 1) := List.drop_eq_getElem_cons (by omega)
        have hdd : t.drop k = t[k] :: t.drop (k + 1) := List.drop_eq_getElem_cons (by omega)
        obtain ⟨b1, o1, rfl, l1, C1⟩ := (HS.out.later HB.out) (by omega)
        obtain ⟨b2, o2, rfl, l2, C2⟩ := (HT.out.later HB.out) (by omega)
        generalize s[k] = c at hc hcd
        generalize t[k] = d at hd hdd
        have q1 : wr.rangeAt b1 (o1 + k * 1026) (recCells c) := C1 k c hc
        have q2 : wr.rangeAt b2 (o2 + k * 1026) (recCells d) := C2 k d hd
        have hR := HR2.out
        rw [hcd, hdd] at hR
        unfold recsB at hR
        clear HR2 C1 C2 hcd hdd hc hd hn hn2
        cases hb : recB c d
        · have hr0 : res = false := by rw [hR, hb]; rfl
          clear hR
          subst hr0
          go_wp2
          refine wp_region_still_lit (by kernel_rfl) (by kernel_rfl) ?_
          repeat still_step
          refine wpStill_load86 rfl (.tmp 19) rfl b1 (o1 + k * 1026) rfl c q1 ?_
          repeat still_step
          refine wpStill_load86 rfl (.tmp 23) rfl b2 (o2 + k * 1026) rfl d q2 ?_
          repeat still_step
          refine wpStill_neq86 rfl (.tmp 20) (.tmp 24) rfl c d false rfl rfl hb ?_
          simp only [Act.put, List.setIfInBounds_toArray, List.set_cons_succ, List.set_cons_zero, Bool.not_false]
          refine wpStill_nil ?_
          go_wp2
          go_ret
          exact ⟨rfl, HB.out.drew⟩
        · have HR3 : Hid (res = recsB (s.drop (k + 1)) (t.drop (k + 1))) := by
            have e : res = recsB (s.drop (k + 1)) (t.drop (k + 1)) := by rw [hR, hb]; rfl
            exact e
          clear hR
          go_wp2
          refine wp_region_still_lit (by kernel_rfl) (by kernel_rfl) ?_
          repeat still_step
          refine wpStill_load86 rfl (.tmp 19) rfl b1 (o1 + k * 1026) rfl c q1 ?_
          repeat still_step
          refine wpStill_load86 rfl (.tmp 23) rfl b2 (o2 + k * 1026) rfl d q2 ?_
          repeat still_step
          refine wpStill_neq86 rfl (.tmp 20) (.tmp 24) rfl c d true rfl rfl hb ?_
          simp only [Act.put, List.setIfInBounds_toArray, List.set_cons_succ, List.set_cons_zero, Bool.not_true]
          refine wpStill_nil ?_
          go_wp2
          exact ⟨⟨k + 1, by omega, by go_num, HB.out.drew, HR3.out⟩, by simp [intOf]; omega⟩
      · obtain rfl : k = n := by omega
        have hr0 : res = true := by
          obtain ⟨hn, hn2⟩ := HL.out
          rw [HR2.out, List.drop_of_length_le (by omega), List.drop_of_length_le (by omega)]
          rfl
        subst hr0
        go_wp2
        go_ret
        exact ⟨rfl, HB.out⟩
  · have hr0 : recsB s t = false := by
      cases hq : recsB s t
      · rfl
      · exact absurd (recsB_len hq) hl
    rw [hr0]
    clear hr0 hs ht
    have hl2 : (s.length : Int) ≠ t.length := by omega
    generalize s.length = n at *
    generalize t.length = m at *
    go_enter Tryz.func17, Tryz.ntmps17
    go_wp2
    go_ret
    exact ⟨rfl, Below.refl _ _⟩
end Go.Proofs.YtlcdpmjdnihocaaGreatD
/- The program's disk and the document's, beside parts that lie apart: each call of either in one form; no condition but that numbers do not pass their greatest. -/
namespace Go.Proofs.YtlcdpmjdnihocaaGreatD
open Go.RowKit Go.Maps

theorem claimed_of {w : World} {L : Loc} {s : St} (h : DiskAt w L s) (k : Int) : Calls Tryz.prog 15 #[.pointer (some ⟨L.d, 0, none⟩), .int .i64 k] w fun e w' => e = .returned (.bool (claimedV s k)) ∧ w' = w := by
  have c7 := h.c7
  have c10 := h.c10
  have c11 := h.c11
  have h0 := h.c0
  clear h
  unfold claimedV
  cases hs : s.stopped
  · cases hc : s.claimed
    · rw [hs] at c7
      rw [hc] at c11
      go_enter Tryz.func15, Tryz.ntmps15
      go_wp2_with (first | (go_at_call 37; refine (none_no h0).mono ?_; rintro e W ⟨rfl, rfl⟩))
      go_ret
      exact ⟨rfl, rfl⟩
    · rw [hs] at c7
      rw [hc] at c11
      go_enter Tryz.func15, Tryz.ntmps15
      go_wp2_with (first | (go_at_call 37; refine (none_no h0).mono ?_; rintro e W ⟨rfl, rfl⟩))
      go_ret
      exact ⟨by simp, rfl⟩
  · rw [hs] at c7
    go_enter Tryz.func15, Tryz.ntmps15
    go_wp2_with (first | (go_at_call 37; refine (none_no h0).mono ?_; rintro e W ⟨rfl, rfl⟩))
    go_ret
    exact ⟨rfl, rfl⟩
def dkP (L : Loc) (s : St) : Part := ⟨L.has, fun W => DiskAt W L s⟩
theorem dkP_good (L : Loc) (s : St) : (dkP L s).Good := fun _ _ h _ hb => DiskAt.kept h hb
structure RLoc where
  B : Nat
  g : Nat
  hv : Value
  wv : Value
  ov : Value
def rdP (R : RLoc) (t : RSt) : Part := ⟨RHas R.g R.hv R.wv R.ov, fun W => RDAt W R.B R.g R.hv R.wv R.ov t⟩
theorem RDAt.keptR {w w' : World} {B g : Nat} {hv wv ov : Value} {s : RSt} (h : RDAt w B g hv wv ov s) (hb : ∀ k, RHas g hv wv ov k → w'.heap[k]? = w.heap[k]?) : RDAt w' B g hv wv ov s :=
  ⟨(hb _ (.inl rfl)).trans h.row, ownsRow_kept0 h.held fun k hk => hb k (.inr (.inl hk)), ownsRow_kept0 h.wait fun k hk => hb k (.inr (.inr (.inl hk))), ownsRow_kept0 h.ops fun k hk => hb k (.inr (.inr (.inr hk))), h.two, h.base⟩
theorem rdP_good (R : RLoc) (t : RSt) : (rdP R t).Good := fun _ _ h _ hb => RDAt.keptR h hb
theorem RDAt.ltR {w : World} {B g : Nat} {hv wv ov : Value} {s : RSt} (h : RDAt w B g hv wv ov s) {k : Nat} (hk : RHas g hv wv ov k) : k < w.heap.size := by
  rcases hk with rfl | hk | hk | hk
  · exact h.lt
  · exact (h.held.lt k hk).2
  · exact (h.wait.lt k hk).2
  · exact (h.ops.lt k hk).2
/-- Parts stay where blocks of none of them turn. -/
theorem Sep.kept {w W W' : World} {l : List Part} (h : Sep w W l) {T : Nat → Prop} (hF : Fr T W W') (hT : ∀ p ∈ l, ∀ k, p.own k → ¬ T k) (hN : ∀ k, k < W.heap.size → T k → w.heap.size ≤ k) : Sep w W' l :=
  ⟨h.good, fun q hq => h.good q hq W W' (h.say q hq) (fun k hk => (h.lt q hq k hk).2) fun k hk => hF.block k (h.lt q hq k hk).2 (hT q hq k hk), fun q hq k hk => ⟨(h.lt q hq k hk).1, Nat.lt_of_lt_of_le (h.lt q hq k hk).2 hF.size⟩, h.apart, h.below.trans (hF.below' (fun k hk hlt => hN k hlt hk) h.below.size)⟩
/-- What lies beside a disk. -/
structure Beside (w : World) (l : List Part) (W : World) (L : Loc) : Prop where
  sep : Sep w W l
  new : L.from w.heap.size
  apart : ∀ p ∈ l, ∀ k, L.has k → ¬ p.own k
theorem beside_stays (w : World) (l : List Part) : Stays (Beside w l) := fun W W' L L' _ h hG => by
  refine ⟨h.sep.kept hG.fr (fun p hp k hk q => h.apart p hp k q hk) (fun k _ q => h.new k q), fun k hk => ?_, fun p hp k hk hk2 => ?_⟩
  · rcases hG.own k hk with q | q
    · exact h.new k q
    · have := h.sep.below.size; omega
  · rcases hG.own k hk with q | q
    · exact h.apart p hp k q hk2
    · have := (h.sep.lt p hp k hk2).2; omega
variable {w W : World} {d g : Nat} {s : St} {t : RSt} {l : List Part}
theorem Sep.toHas {L : Loc} (h : Sep w W (dkP L s :: l)) : Has (Beside w l) W L.d s :=
  ⟨L, rfl, h.head, h.drop, fun _ hk => (h.headLt (p := dkP L s) hk).1, fun p hp k hk => (List.pairwise_cons.1 h.apart).1 p hp k hk⟩
theorem Has.toSep (h : Has (Beside w l) W d s) : ∃ L : Loc, L.d = d ∧ Sep w W (dkP L s :: l) := by
  obtain ⟨L, hd, hD, h⟩ := h
  refine ⟨L, hd, fun p hp => ?_, fun p hp => ?_, fun p hp k hk => ?_, List.pairwise_cons.2 ⟨h.apart, h.sep.apart⟩, h.sep.below⟩
  · rcases List.mem_cons.1 hp with rfl | hp
    · exact dkP_good L s
    · exact h.sep.good p hp
  · rcases List.mem_cons.1 hp with rfl | hp
    · exact hD
    · exact h.sep.say p hp
  · rcases List.mem_cons.1 hp with rfl | hp
    · exact ⟨h.new k hk, hD.lt k hk⟩
    · exact h.sep.lt p hp k hk
/-- Both disks, and parts beside them. -/
structure Both (w W : World) (d g : Nat) (s : St) (t : RSt) (l : List Part) : Prop where
  out : ∃ (L : Loc) (R : RLoc), L.d = d ∧ R.g = g ∧ Sep w W (dkP L s :: rdP R t :: l)
theorem Both.has (h : Both w W d g s t l) : ∃ R : RLoc, R.g = g ∧ Has (Beside w (rdP R t :: l)) W d s := by
  obtain ⟨L, R, rfl, hg, h⟩ := h.out
  exact ⟨R, hg, h.toHas⟩
theorem Both.of {R : RLoc} (hg : R.g = g) (h : Has (Beside w (rdP R t :: l)) W d s) : Both w W d g s t l := by
  obtain ⟨L, hd, h⟩ := h.toSep
  exact ⟨L, R, hd, hg, h⟩
theorem Both.ok (h : Both w W d g s t l) : Ok s := by
  obtain ⟨R, _, h⟩ := h.has
  exact h.ok
theorem Both.below (h : Both w W d g s t l) : Below w.heap.size w W := by
  obtain ⟨L, R, _, _, h⟩ := h.out
  exact h.below
theorem Both.later {W' : World} (h : Both w W d g s t l) (hb : Below W.heap.size W W') : Both w W' d g s t l := by
  obtain ⟨L, R, hd, hg, h⟩ := h.out
  exact ⟨L, R, hd, hg, h.later hb⟩
theorem Both.drew (h : Both w W d g s t l) : Both w W.drew d g s t l := h.later ⟨rfl, rfl, rfl, Nat.le_refl _, fun _ _ => rfl⟩
/-- The document's disk, and how it may turn. -/
theorem Both.rd (h : Both w W d g s t l) : ∃ R : RLoc, RDAt W R.B g R.hv R.wv R.ov t ∧ ∀ (W' : World) (hv' wv' ov' : Value) (t' : RSt), RDAt W' R.B g hv' wv' ov' t' → RTo g R.hv R.wv R.ov hv' wv' ov' W W' → Both w W' d g s t' l := by
  obtain ⟨L, R, hd, rfl, hq⟩ := h.out
  have h2 := hq.swap
  refine ⟨R, h2.head, fun W' hv' wv' ov' t' hD hT => ?_⟩
  have h3 := h2.turn (p' := rdP ⟨R.B, R.g, hv', wv', ov'⟩ t') hT.fr (fun _ _ q => q) (rdP_good _ _) hD fun k hk => ⟨hT.loc k hk, hD.ltR hk⟩
  exact ⟨L, ⟨R.B, R.g, hv', wv', ov'⟩, hd, rfl, h3.swap⟩
/-- How many things there may have been so far. -/
structure Cap (s : St) (m : Nat) : Prop where
  ops : s.ops.length ≤ m
  made : s.made ≤ m
  reads : s.reads ≤ m
  claims : s.claims ≤ m
theorem Cap.room {m : Nat} (h : Cap s m) (hm : m ≤ 7000000) : Room s := ⟨by have := h.ops; omega, by have := h.made; omega, by have := h.reads; omega, by have := h.claims; omega⟩
theorem Cap.wait {m : Nat} (h : Cap s m) : s.wait.length ≤ m := by
  have := h.ops
  unfold St.ops at this
  rw [List.length_append, List.length_map] at this
  omega
theorem Cap.mono {m m' : Nat} (h : Cap s m) (hm : m ≤ m') : Cap s m' := ⟨by have := h.ops; omega, by have := h.made; omega, by have := h.reads; omega, by have := h.claims; omega⟩
/-- The document's disk has room, too. -/
structure RRoom (t : RSt) : Prop where
  seen : 0 ≤ t.seen ∧ t.seen < 9223372036854775807
  count : 0 ≤ t.count ∧ t.count < 9223372036854775807
  claims : 0 ≤ t.claims ∧ t.claims < 9223372036854775807
  left : t.fused = true → 0 ≤ t.left ∧ t.left ≤ 9223372036854775807
  wait : t.wait.length ≤ 7000000
  ops : t.ops.length ≤ 7000000
  held : t.held.length ≤ 1048576
theorem Sim.room {m : Nat} (h : Sim t s) (hk : Ok s) (hc : Cap s m) (hm : m ≤ 7000000) : RRoom t := by
  have h1 := hk.made
  have h2 := hk.reads
  have h3 := hk.claims
  have h4 := hc.made
  have h5 := hc.reads
  have h6 := hc.claims
  have h7 := hc.ops
  have h8 := hc.wait
  refine ⟨by rw [h.seen]; omega, by rw [h.count]; omega, by rw [h.claims]; omega, h.left, by rw [h.wait]; omega, by rw [h.ops]; omega, ?_⟩
  have h9 := rise_len t.held (-1) h.rise h.top (by have := hk.n.1; omega)
  have := hk.n.2
  omega
def rWriteV (t : RSt) (k : Int) (f : Nat → Int) : RSt := if rRefV t k = 0 then (if rLetsB t then rWriteS t k f else rLets t) else t
def rWriteE (t : RSt) (k : Int) : Int := if rRefV t k = 0 then (if rLetsB t then 0 else 3) else rRefV t k
def rBarV (t : RSt) : RSt := if t.dead then t else (if rLetsB t then rBarS t else rLets t)
def rBarE (t : RSt) : Int := if t.dead then 3 else (if rLetsB t then 0 else 3)
section
theorem both_fuse (h : Both w W d g s t l) (n : Int) (hn : n ≤ 9223372036854775807) : Calls Tryz.prog 11 #[.pointer (some ⟨d, 0, none⟩), .int .i64 n] W fun e W' => e = .returned (.tuple #[]) ∧ Both w W' d g (fuseV s n) t l := by
  obtain ⟨R, hg, h⟩ := h.has
  exact (has_fuse (beside_stays w _) h n hn).mono fun e W' ⟨h1, h2⟩ => ⟨h1, Both.of hg h2⟩
theorem both_claim (h : Both w W d g s t l) (hr : Room s) : Calls Tryz.prog 9 #[.pointer (some ⟨d, 0, none⟩)] W fun e W' => e = .returned (.int .i64 (claimN s)) ∧ Both w W' d g (claimV s) t l := by
  obtain ⟨R, hg, L, rfl, hD, hp⟩ := h.has
  exact (claim_of hD hr).mono fun e W' ⟨h1, h2, h3⟩ => ⟨h1, Both.of hg (Has.goes (beside_stays w _) rfl hD hp h2 h3)⟩
theorem both_claimed (h : Both w W d g s t l) (n : Int) : Calls Tryz.prog 15 #[.pointer (some ⟨d, 0, none⟩), .int .i64 n] W fun e W' => e = .returned (.bool (claimedV s n)) ∧ W' = W := by
  obtain ⟨R, hg, L, rfl, hD, hp⟩ := h.has
  exact claimed_of hD n
theorem both_made (h : Both w W d g s t l) : Calls Tryz.prog 25 #[.pointer (some ⟨d, 0, none⟩)] W fun e W' => e = .returned (.int .i64 s.made) ∧ W' = W := by
  obtain ⟨R, hg, L, rfl, hD, hp⟩ := h.has
  exact made_of hD
theorem both_len (h : Both w W d g s t l) : Calls Tryz.prog 57 #[.pointer (some ⟨d, 0, none⟩)] W fun e W' => e = .returned (.int .i64 s.n) ∧ W' = W := by
  obtain ⟨R, hg, L, rfl, hD, hp⟩ := h.has
  exact len_of hD
theorem both_stopped (h : Both w W d g s t l) : Calls Tryz.prog 23 #[.pointer (some ⟨d, 0, none⟩)] W fun e W' => e = .returned (.bool s.stopped) ∧ W' = W := by
  obtain ⟨R, hg, L, rfl, hD, hp⟩ := h.has
  exact stopped_of hD
theorem both_rwrite (h : Both w W d g s t l) (hr : RRoom t) (k : Int) (f : Nat → Int) : Calls Tryz.prog 44 #[.pointer (some ⟨g, 0, none⟩), .int .i64 k, .agg (blk f)] W fun e W' => e = .returned (.int .i64 (rWriteE t k)) ∧ Both w W' d g s (rWriteV t k f) l := by
  obtain ⟨R, hD, hT⟩ := h.rd
  unfold rWriteE rWriteV
  by_cases hb : rRefV t k = 0
  · rw [if_pos hb, if_pos hb]
    cases hL : rLetsB t
    · exact (rWrite_dead hD hb hL hr.left hr.count f).mono fun e W' ⟨h1, h2, h3⟩ => ⟨h1, hT _ _ _ _ _ h2 (RTo.ofFr h3)⟩
    · exact (rWrite_ok hD hb hL hr.left hr.count (by have := hr.wait; omega) (by have := hr.ops; omega) f).mono fun e W' ⟨h1, _, _, h2, h3⟩ => ⟨h1, hT _ _ _ _ _ h2 h3⟩
  · rw [if_neg hb, if_neg hb]
    exact (rWrite_bad hD hb f).mono fun e W' ⟨h1, h2, h3⟩ => ⟨h1, hT _ _ _ _ _ h2 (RTo.ofFr (Fr.ofBelow h3))⟩
theorem both_rbarrier (h : Both w W d g s t l) (hr : RRoom t) : Calls Tryz.prog 45 #[.pointer (some ⟨g, 0, none⟩)] W fun e W' => e = .returned (.int .i64 (rBarE t)) ∧ Both w W' d g s (rBarV t) l := by
  obtain ⟨R, hD, hT⟩ := h.rd
  unfold rBarE rBarV
  cases hd : t.dead
  · cases hL : rLetsB t
    · exact (rBarrier_dead hD hd hL hr.left hr.count).mono fun e W' ⟨h1, h2, h3⟩ => ⟨h1, hT _ _ _ _ _ h2 (RTo.ofFr h3)⟩
    · refine (rBarrier_ok hD hd hL hr.left hr.count (by have := hr.wait; have := hr.held; omega) (by have := hr.ops; omega)).mono fun e W' ⟨h1, hv', ov', h2, h3, h4, h5⟩ => ⟨h1, hT _ _ _ _ _ h2 ⟨h3.mono fun i _ q => ?_, fun b q => ?_⟩⟩
      · rcases q with q | q
        · exact .inl q
        · exact .inr (.inr (.inr q))
      · rcases q with q | q | q | q
        · exact .inl (.inl q)
        · exact (h4 b q).elim (fun r => .inl (.inr (.inl r))) .inr
        · cases q
        · exact (h5 b q).elim (fun r => .inl (.inr (.inr (.inr r)))) .inr
  · exact (rBarrier_stopped hD hd).mono fun e W' ⟨h1, h2⟩ => ⟨h1, by rw [h2]; exact h⟩
theorem both_rfuse (h : Both w W d g s t l) (n : Int) : Calls Tryz.prog 12 #[.pointer (some ⟨g, 0, none⟩), .int .i64 n] W fun e W' => e = .returned (.tuple #[]) ∧ Both w W' d g s (rFuse t n) l := by
  obtain ⟨R, hD, hT⟩ := h.rd
  exact (rFuse_any hD n).mono fun e W' ⟨h1, h2, h3⟩ => ⟨h1, hT _ _ _ _ _ h2 (RTo.ofFr h3)⟩
theorem both_rclaim (h : Both w W d g s t l) (hr : RRoom t) : Calls Tryz.prog 10 #[.pointer (some ⟨g, 0, none⟩)] W fun e W' => e = .returned (.int .i64 (rClaimN t)) ∧ Both w W' d g s (rClaim t) l := by
  obtain ⟨R, hD, hT⟩ := h.rd
  exact (rClaim_any hD hr.claims).mono fun e W' ⟨h1, h2, h3⟩ => ⟨h1, hT _ _ _ _ _ h2 (RTo.ofFr h3)⟩
theorem both_rclaimed (h : Both w W d g s t l) (n : Int) : Calls Tryz.prog 16 #[.pointer (some ⟨g, 0, none⟩), .int .i64 n] W fun e W' => e = .returned (.bool (rClaimed t n)) ∧ W' = W := by
  obtain ⟨R, hD, hT⟩ := h.rd
  exact rClaimed_any hD n
theorem both_rmade (h : Both w W d g s t l) : Calls Tryz.prog 26 #[.pointer (some ⟨g, 0, none⟩)] W fun e W' => e = .returned (.int .i64 t.count) ∧ W' = W := by
  obtain ⟨R, hD, hT⟩ := h.rd
  exact rMade_any hD
theorem both_rlen (h : Both w W d g s t l) : Calls Tryz.prog 43 #[.pointer (some ⟨g, 0, none⟩)] W fun e W' => e = .returned (.int .i64 t.n) ∧ W' = W := by
  obtain ⟨R, hD, hT⟩ := h.rd
  exact rLen_any hD
theorem both_rstopped (h : Both w W d g s t l) : Calls Tryz.prog 24 #[.pointer (some ⟨g, 0, none⟩)] W fun e W' => e = .returned (.bool t.dead) ∧ W' = W := by
  obtain ⟨R, hD, hT⟩ := h.rd
  exact rStopped_any hD
end
/-- A row that is just a list. -/
theorem own_row {α : Type} {en : α → List Value} {sz : Nat} (hr : ∀ x, (en x).length = sz) {B e b : Nat} {x : List α} {W : World} (hx : x.length ≤ maxLen) (hB : B ≤ b) (h : W.heap[b]? = some (.cells (x.flatMap en).toArray e)) : W.ownsRow B e sz (.slice (some ⟨b, 0, none⟩) x.length x.length) x.length (x.flatMap en) :=
  ⟨fml hr x, .inr ⟨b, x.length, _, rfl, hB, h, Nat.le_refl _, hx, by rw [List.size_toArray, fml hr x], by rw [List.toList_toArray, List.take_of_length_le (by rw [fml hr x]; exact Nat.le_refl _)]⟩⟩
theorem both_history (h : Both w W d g s t l) (hl : s.ops.length ≤ 7000000) : Calls Tryz.prog 18 #[.pointer (some ⟨d, 0, none⟩)] W fun e W' => ∃ b c, e = .returned (.slice (some ⟨b, 0, none⟩) s.ops.length c) ∧ W'.ownsRow W.heap.size 94 1026 (.slice (some ⟨b, 0, none⟩) s.ops.length c) s.ops.length (s.ops.flatMap recCells) ∧ Below W.heap.size W W' := by
  obtain ⟨R, hg, L, rfl, hD, hp⟩ := h.has
  exact (history_of hD (by omega)).mono fun e W' ⟨h1, h2, h3⟩ => ⟨W.heap.size, s.ops.length, h1, own_row recCells_len (by unfold maxLen; omega) (Nat.le_refl _) h2, h3⟩
theorem both_image (h : Both w W d g s t l) (hS : Sim t s) (hl : t.held.length ≤ 7000000) : Calls Tryz.prog 21 #[.pointer (some ⟨d, 0, none⟩)] W fun e W' => ∃ b c, e = .returned (.agg #[.int .i64 s.n, .slice (some ⟨b, 0, none⟩) t.held.length c]) ∧ W'.ownsRow W.heap.size 81 1025 (.slice (some ⟨b, 0, none⟩) t.held.length c) t.held.length (t.held.flatMap celRow) ∧ Below W.heap.size W W' := by
  obtain ⟨R, hg, L, rfl, hD, hp⟩ := h.has
  refine (image_walk hD).mono fun e W' ⟨b, lx, h1, h2, h3, h4, h5⟩ => ?_
  obtain rfl : lx = t.held := h2.one hS.rise hS.sound hS.held
  exact ⟨b, _, h1, own_row celRow_len (by unfold maxLen; omega) h4 h3, h5⟩
theorem both_rhistory (h : Both w W d g s t l) (hl : t.ops.length ≤ 7000000) : Calls Tryz.prog 19 #[.pointer (some ⟨g, 0, none⟩)] W fun e W' => ∃ p c, e = .returned (.slice p t.ops.length c) ∧ W'.ownsRow W.heap.size 94 1026 (.slice p t.ops.length c) t.ops.length (t.ops.flatMap recCells) ∧ Below W.heap.size W W' := by
  obtain ⟨R, hD, hT⟩ := h.rd
  refine (rHistory_any hD (by omega)).mono fun e W' ⟨v, h1, h2, h3⟩ => ?_
  obtain ⟨p, c, rfl, _⟩ := own_slice h2
  exact ⟨p, c, h1, h2, h3⟩
theorem both_rimage (h : Both w W d g s t l) (hl : t.held.length ≤ 7000000) : Calls Tryz.prog 22 #[.pointer (some ⟨g, 0, none⟩)] W fun e W' => ∃ p c, e = .returned (.agg #[.int .i64 t.n, .slice p t.held.length c]) ∧ W'.ownsRow W.heap.size 81 1025 (.slice p t.held.length c) t.held.length (t.held.flatMap celRow) ∧ Below W.heap.size W W' := by
  obtain ⟨R, hD, hT⟩ := h.rd
  exact (rImage_any hD (by omega)).mono fun e W' ⟨p, c, h1, h2, h3⟩ => ⟨p, c, h1, h2, h3⟩
end Go.Proofs.YtlcdpmjdnihocaaGreatD
/- What is done to the document's disk, one thing behind the other, till one is refused. -/
namespace Go.Proofs.YtlcdpmjdnihocaaGreatD
open Go.RowKit Go.Maps
variable {w W : World} {d g : Nat} {s s' : St} {t : RSt} {l : List Part} {m : Nat}
theorem sim_write (h : Sim t s) (k : Int) (f : Nat → Int) : rWriteE t k = writeE s k ∧ Sim (rWriteV t k f) (writeV s k f) := by
  have hr := h.ref k
  have hl := h.lets
  unfold rWriteE writeE rWriteV writeV
  rw [hr, hl]
  by_cases h0 : refV s k = 0
  · simp only [if_pos h0]
    cases lets s
    · exact ⟨trivial, h.let_⟩
    · exact ⟨trivial, h.write k f⟩
  · simp only [if_neg h0]
    exact ⟨trivial, h⟩
theorem sim_bar (h : Sim t s) (hk : Ok s) : rBarE t = barE s ∧ Sim (rBarV t) (barV s) := by
  have hd := h.dead
  have hl := h.lets
  unfold rBarE barE rBarV barV
  rw [hd, hl]
  cases s.stopped
  · cases lets s
    · exact ⟨rfl, h.let_⟩
    · exact ⟨rfl, h.barrier hk⟩
  · exact ⟨rfl, h⟩
theorem ok_bar (hk : Ok s) : Ok (barV s) := by
  unfold barV
  split
  · exact hk
  · split
    · exact barS_ok (holdAll_ok (letV_ok hk) fun c hc => by rw [letV_n]; exact hk.wait c hc)
    · exact letV_ok hk
theorem ok_write (hk : Ok s) (k : Int) {f : Nat → Int} (hf : Can f) : Ok (writeV s k f) := by
  unfold writeV
  split
  · rename_i hr
    split
    · exact writeS_ok hk (refV_ok hr).2 hf
    · exact letV_ok hk
  · exact hk
theorem cap_do (hc : Cap s m) (o : MOp) : Cap (doV s o) (m + 1) := by
  obtain ⟨h1, h2, h3, h4⟩ := hc
  obtain ⟨l1, l2, l3, _⟩ := letV_most s
  cases o with
  | none =>
    show Cap (barV s) (m + 1)
    unfold barV
    split
    · exact ⟨by omega, by omega, by omega, by omega⟩
    · split
      · obtain ⟨b1, b2, b3, b4, _⟩ := barS_rest s
        exact ⟨by rw [barS_ops, List.length_append, List.length_singleton]; omega, by rw [b2]; omega, by rw [b3, l2]; omega, by rw [b4, l3]; omega⟩
      · exact ⟨by rw [letV_ops]; omega, by omega, by rw [l2]; omega, by rw [l3]; omega⟩
  | some c =>
    show Cap (writeV s c.1 c.2) (m + 1)
    unfold writeV
    split
    · split
      · exact ⟨by rw [writeS_ops, List.length_append, List.length_singleton]; omega, by show (letV s).made ≤ _; omega, by show (letV s).reads ≤ _; rw [l2]; omega, by show (letV s).claims ≤ _; rw [l3]; omega⟩
      · exact ⟨by rw [letV_ops]; omega, by omega, by rw [l2]; omega, by rw [l3]; omega⟩
    · exact ⟨by omega, by omega, by omega, by omega⟩
theorem n_do (s : St) (o : MOp) : (doV s o).n = s.n := by
  cases o with
  | none =>
    show (barV s).n = _
    unfold barV
    split
    · rfl
    · split
      · exact (barS_rest s).1
      · exact letV_n s
  | some c =>
    show (writeV s c.1 c.2).n = _
    unfold writeV
    split
    · split
      · exact letV_n s
      · exact letV_n s
    · rfl
theorem e_do {o : MOp} (h : InOp s.n o) : doE s o = 0 ∨ doE s o = 3 := by
  cases o with
  | none =>
    show barE s = 0 ∨ barE s = 3
    unfold barE
    split
    · exact .inr rfl
    · split
      · exact .inl rfl
      · exact .inr rfl
  | some c =>
    show writeE s c.1 = 0 ∨ writeE s c.1 = 3
    have hr : refV s c.1 = 0 ∨ refV s c.1 = 3 := by
      unfold refV
      split
      · exact .inr rfl
      · rw [if_pos (show 0 ≤ c.1 ∧ c.1 < s.n from h)]; exact .inl rfl
    unfold writeE
    rcases hr with hr | hr
    · rw [if_pos hr]
      split
      · exact .inl rfl
      · exact .inr rfl
    · rw [if_neg (by omega)]
      exact .inr hr
/-- The document's disk stands for s, the program's for s', beside parts. -/
structure RS (w W : World) (d g : Nat) (s' : St) (t : RSt) (s : St) (m : Nat) (l : List Part) : Prop where
  both : Both w W d g s' t l
  sim : Sim t s
  ok : Ok s
  cap : Cap s m
theorem RS.later {W' : World} (h : RS w W d g s' t s m l) (hb : Below W.heap.size W W') : RS w W' d g s' t s m l := ⟨h.both.later hb, h.sim, h.ok, h.cap⟩
theorem RS.room (h : RS w W d g s' t s m l) (hm : m ≤ 7000000) : RRoom t := h.sim.room h.ok h.cap hm
/-- What is left to be done ends in R; l: what is left. -/
def RI (w W : World) (d g : Nat) (s' : St) (l : List Part) (R : St × Int) (rest : List MOp) (m : Nat) : Prop :=
  ∃ t s, RS w W d g s' t s m l ∧ runL s rest = R ∧ (∀ o ∈ rest, InOp s.n o)
/-- It has ended. -/
def RE (w W : World) (d g : Nat) (s' : St) (l : List Part) (R : St × Int) (m : Nat) : Prop := ∃ t, RS w W d g s' t R.1 m l
variable {R : St × Int} {rest : List MOp} {k : Int} {f : Nat → Int}
theorem RI.later {W' : World} (h : RI w W d g s' l R rest m) (hb : Below W.heap.size W W') : RI w W' d g s' l R rest m := by
  obtain ⟨t, s, h, h1, h2⟩ := h
  exact ⟨t, s, h.later hb, h1, h2⟩
theorem RI.below (h : RI w W d g s' l R rest m) : Below w.heap.size w W := by
  obtain ⟨t, s, h, h1, h2⟩ := h
  exact h.both.below
theorem RE.mono {m' : Nat} (h : RE w W d g s' l R m) (hm : m ≤ m') : RE w W d g s' l R m' := by
  obtain ⟨t, h⟩ := h
  exact ⟨t, h.both, h.sim, h.ok, h.cap.mono hm⟩
theorem RI.end_ (h : RI w W d g s' l R [] m) : RE w W d g s' l R m ∧ R.2 = 0 := by
  obtain ⟨t, s, h, h1, h2⟩ := h
  have e : R = (s, 0) := h1.symm
  rw [e]
  exact ⟨⟨t, h⟩, rfl⟩
theorem RI.write (h : RI w W d g s' l R (some (k, f) :: rest) m) (hf : Can f) (hm : m ≤ 6000000) :
    Calls Tryz.prog 44 #[.pointer (some ⟨g, 0, none⟩), .int .i64 k, .agg (blk f)] W fun e W' =>
      (e = .returned (.int .i64 0) ∧ RI w W' d g s' l R rest (m + 1)) ∨ (e = .returned (.int .i64 3) ∧ R.2 = 3 ∧ RE w W' d g s' l R (m + 1)) := by
  obtain ⟨t, s, h, h1, h2⟩ := h
  obtain ⟨q1, q2⟩ := sim_write h.sim k f
  have h3 := both_rwrite h.both (h.room (by omega)) k f
  rw [q1] at h3
  refine h3.mono ?_
  rintro e W' ⟨rfl, h4⟩
  have h5 : RS w W' d g s' (rWriteV t k f) (doV s (some (k, f))) (m + 1) l := ⟨h4, q2, ok_write h.ok k hf, cap_do h.cap _⟩
  have hE : doE s (some (k, f)) = writeE s k := rfl
  rw [runL_cons] at h1
  rcases e_do (h2 _ (List.mem_cons_self ..)) with z | z
  · rw [if_pos z] at h1
    exact .inl ⟨by rw [← hE, z], _, _, h5, h1, fun o ho => by rw [n_do]; exact h2 o (List.mem_cons_of_mem _ ho)⟩
  · rw [if_neg (by rw [z]; omega)] at h1
    exact .inr ⟨by rw [← hE, z], by rw [← h1]; exact z, by rw [← h1]; exact ⟨_, h5⟩⟩
theorem RI.bar (h : RI w W d g s' l R (none :: rest) m) (hm : m ≤ 6000000) :
    Calls Tryz.prog 45 #[.pointer (some ⟨g, 0, none⟩)] W fun e W' =>
      (e = .returned (.int .i64 0) ∧ RI w W' d g s' l R rest (m + 1)) ∨ (e = .returned (.int .i64 3) ∧ R.2 = 3 ∧ RE w W' d g s' l R (m + 1)) := by
  obtain ⟨t, s, h, h1, h2⟩ := h
  obtain ⟨q1, q2⟩ := sim_bar h.sim h.ok
  have h3 := both_rbarrier h.both (h.room (by omega))
  rw [q1] at h3
  refine h3.mono ?_
  rintro e W' ⟨rfl, h4⟩
  have h5 : RS w W' d g s' (rBarV t) (doV s none) (m + 1) l := ⟨h4, q2, ok_bar h.ok, cap_do h.cap _⟩
  have hE : doE s none = barE s := rfl
  rw [runL_cons] at h1
  rcases e_do (h2 _ (List.mem_cons_self ..)) with z | z
  · rw [if_pos z] at h1
    exact .inl ⟨by rw [← hE, z], _, _, h5, h1, fun o ho => by rw [n_do]; exact h2 o (List.mem_cons_of_mem _ ho)⟩
  · rw [if_neg (by rw [z]; omega)] at h1
    exact .inr ⟨by rw [← hE, z], by rw [← h1]; exact z, by rw [← h1]; exact ⟨_, h5⟩⟩
theorem RS.claim (h : RS w W d g s' t s m l) (hm : m ≤ 6000000) (hs : s.stopped = false) :
    Calls Tryz.prog 10 #[.pointer (some ⟨g, 0, none⟩)] W fun e W' => (∃ v : Int, e = .returned (.int .i64 v)) ∧ ∃ t', RS w W' d g s' t' (claimV s) (m + 1) l := by
  obtain ⟨q1, q2⟩ := h.sim.claim h.ok.claims
  refine (both_rclaim h.both (h.room (by omega))).mono ?_
  rintro e W' ⟨rfl, h4⟩
  have hc : claimV s = { s with claims := s.claims + 1, claimed := true } := by unfold claimV; rw [hs]; rfl
  refine ⟨⟨_, rfl⟩, _, h4, q1, ?_, ?_⟩
  · rw [hc]
    have h1 := h.ok
    exact ⟨h1.n, h1.held, h1.wait, h1.fuse, h1.made, h1.reads, by show 0 ≤ s.claims + 1; have := h1.claims; omega⟩
  · rw [hc]
    have h1 := h.cap
    exact ⟨by show s.ops.length ≤ _; have := h1.ops; omega, by show s.made ≤ _; have := h1.made; omega, by show s.reads ≤ _; have := h1.reads; omega, by show s.claims + 1 ≤ _; have := h1.claims; omega⟩
theorem claim_n (s : St) : (claimV s).n = s.n := by
  unfold claimV
  split <;> rfl
end Go.Proofs.YtlcdpmjdnihocaaGreatD
/- The document's look at a layout: does it fit? For every layout. -/
namespace Go.Proofs.YtlcdpmjdnihocaaGreatP
open Go.RowKit
set_option maxRecDepth 20000 in
set_option maxHeartbeats 400000 in
theorem fits3_fine (b l i a c d e f g : Int) (w : World) (hf : Fine b l i) :
    Calls Tryz.prog 70 #[.agg (lay9 b l i a c d e f g)] w fun e' w' => e' = .returned (.bool (standsB b l i a c d e f g)) ∧ Below w.heap.size w w' := by
  have hc := fun w => refOf_any b l i w
  rw [show ofV b l i = layV b l i from if_pos hf, show ofE b l i = 0 from if_pos hf] at hc
  have HF : Hid (Fine b l i) := hf
  clear hf
  unfold layV at hc
  have e1 : ∀ (w : World), (w.alloc (.cells (lay9 b l i a c d e f g) 52)).heap[w.heap.size]? = some (.cells (lay9 b l i a c d e f g) 52) := fun w => heap_alloc_new _ _
  have e2 := fun (W1 : World) (h : W1.heap[w.heap.size]? = some (.cells (lay9 b l i a c d e f g) 52)) => lay_cells h
  unfold lay9 at *
  go_enter Tryz.func70, Tryz.ntmps70
  go_wp2_with (first | (go_at_call 27; fail))
  refine (hc _).mono ?_
  rintro e' W1 ⟨rfl, hb1⟩
  have h1 := heap_kept (e1 w) hb1
  have HB : Hid (Below w.heap.size w W1) := below_next (below_new _ _) hb1
  obtain ⟨c0, c1, c2, c3, c4, c5, c6, c7, c8, hlt⟩ := e2 W1 h1
  clear hb1 hc e1 h1 e2
  go_wp2
  all_goals
    go_ret
    refine ⟨ret_bool ?_, bel_al HB.out _⟩
    clear c0 c1 c2 c3 c4 c5 c6 c7 c8
    first
      | exact (show true = standsB b l i a c d e f g from (decide_eq_true ⟨HF.out, by omega, by omega, by omega, by omega, by omega, by omega⟩).symm)
      | exact (show false = standsB b l i a c d e f g from (decide_eq_false fun ⟨_, q1, q2, q3, q4, q5, q6⟩ => by omega).symm)

set_option maxRecDepth 20000 in
set_option maxHeartbeats 400000 in
theorem fits3_not (b l i a c d e f g : Int) (w : World) (hf : ¬ Fine b l i) :
    Calls Tryz.prog 70 #[.agg (lay9 b l i a c d e f g)] w fun e' w' => e' = .returned (.bool (standsB b l i a c d e f g)) ∧ Below w.heap.size w w' := by
  have hc := fun w => refOf_any b l i w
  rw [show ofV b l i = layZ from if_neg hf, show ofE b l i = 2 from if_neg hf] at hc
  have HF : Hid (¬ Fine b l i) := hf
  clear hf
  unfold layZ at hc
  unfold lay9 at *
  go_enter Tryz.func70, Tryz.ntmps70
  go_wp2_with (first | (go_at_call 27; fail))
  refine (hc _).mono ?_
  rintro e' W1 ⟨rfl, hb1⟩
  have HB : Hid (Below w.heap.size w W1) := below_next (below_new _ _) hb1
  clear hb1 hc
  go_wp2
  go_ret
  exact ⟨ret_bool (show false = standsB b l i a c d e f g from (decide_eq_false fun q => HF.out q.1).symm), bel_al HB.out _⟩
theorem fits3_any (b l i a c d e f g : Int) (w : World) :
    Calls Tryz.prog 70 #[.agg (lay9 b l i a c d e f g)] w fun e' w' => e' = .returned (.bool (standsB b l i a c d e f g)) ∧ Below w.heap.size w w' := by
  by_cases hf : Fine b l i
  · exact fits3_fine b l i a c d e f g w hf
  · exact fits3_not b l i a c d e f g w hf
end Go.Proofs.YtlcdpmjdnihocaaGreatP
