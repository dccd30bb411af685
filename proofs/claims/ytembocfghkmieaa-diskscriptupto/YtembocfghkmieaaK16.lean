/- Several texts joined, each with its own remark; no condition. -/
import Derived.Test.YtembocfghkmieaaK14
import Derived.Test.YtembocfghkmieaaK15
import Derived.Test.YtembocfghkmieaaK8
/- two: a disk that New makes and one of an image, the document's beside them; images of at most a million and a half blocks. -/
namespace Go.Proofs.Ytembocfghkmieaa
open Go.RowKit Go.Maps
section
variable {w W W1 : World} {l l' : List Part}
theorem Sep.box (h : Sep w W l) (o : Obj) : Sep w (W.alloc o) (boxP W.heap.size o :: l) :=
  h.add (below_new W o) (boxP_good _ _) (heap_alloc_new W o) fun k hk => by
    have e : k = W.heap.size := hk
    rw [e]
    exact ⟨Nat.le_refl _, by simp⟩
theorem Sep.at (h : Sep w W l) {b : Nat} {o : Obj} (hp : boxP b o ∈ l) : W.heap[b]? = some o := h.say _ hp
theorem Sep.sub (h : Sep w W l) (hs : l'.Sublist l) : Sep w W l' := ⟨fun q hq => h.good q (hs.subset hq), fun q hq => h.say q (hs.subset hq), fun q hq => h.lt q (hs.subset hq), h.apart.sublist hs, h.below⟩
theorem Sep.list {α : Type} {en : α → List Value} {e sz : Nat} {x : Tl α} (h : Sep w W l) (hb : Below W.heap.size W W1) (ho : W1.ownsRow W.heap.size e sz x.v x.l.length (x.l.flatMap en)) : Sep w W1 (lsP en e sz x :: l) :=
  h.add hb (fun _ _ h _ hk => ownsRow_kept0 h hk) (own_base ho (Nat.zero_le _)) fun k hk => ho.lt k hk
theorem Sep.disk {L : Loc} {s : St} (h : Sep w W l) (hb : Below W.heap.size W W1) (hD : DiskAt W1 L s) (hL : L.from W.heap.size) : Sep w W1 (dkP L s :: l) :=
  h.add hb (dkP_good L s) hD fun k hk => ⟨hL k hk, hD.lt k hk⟩
theorem Sep.ref {g : Nat} {hv wv ov : Value} {t : RSt} (h : Sep w W l) (hb : Below W.heap.size W W1) (hD : RDAt W1 W.heap.size g hv wv ov t) : Sep w W1 (rdP ⟨W.heap.size, g, hv, wv, ov⟩ t :: l) :=
  h.add hb (rdP_good _ _) hD fun k hk => ⟨by
    rcases hk with rfl | hk | hk | hk
    · exact hD.base
    · exact (hD.held.lt k hk).1
    · exact (hD.wait.lt k hk).1
    · exact (hD.ops.lt k hk).1, hD.ltR hk⟩
/-- A cell of a block that is told is written. -/
theorem setBoxS {gy : Nat} {vs : Array Value} {ty : TypeId} (h : Sep w W (boxP gy (.cells vs ty) :: l)) (i : Nat) (u : Value) : Sep w (W.setCell ⟨gy, i, none⟩ u) (boxP gy (.cells (vs.setIfInBounds i u) ty) :: l) := by
  have hg : W.heap[gy]? = some (.cells vs ty) := h.head
  have hg2 : (W.setCell ⟨gy, i, none⟩ u).heap[gy]? = some (.cells (vs.setIfInBounds i u) ty) := heap_setCell_same W gy i _ ty _ hg
  refine h.turn (p' := boxP gy (.cells (vs.setIfInBounds i u) ty)) (Fr.setCell W gy i _) (fun k _ q => q) (boxP_good _ _) hg2 fun k hk => ⟨.inl hk, ?_⟩
  have e : k = gy := hk
  rw [e]
  exact (Array.getElem?_eq_some_iff.1 hg2).1
theorem two_boxes (hb : Below w.heap.size w W) (o1 o2 o3 o4 o5 : Obj) : Sep w (((((W.alloc o1).alloc o2).alloc o3).alloc o4).alloc o5) [boxP (W.heap.size + 1 + 1 + 1 + 1) o5, boxP (W.heap.size + 1 + 1 + 1) o4, boxP (W.heap.size + 1 + 1) o3, boxP (W.heap.size + 1) o2, boxP W.heap.size o1] := by
  have h := (((((Sep.nil hb).box o1).box o2).box o3).box o4).box o5
  simpa only [World.alloc, Array.size_push] using h
end
section
variable {ops : Array Oper} {rest : List Oper} {a : Act} {w : World} {Q : Exit → Act → World → Prop} {dst : Option Tmp} {x : Operand} {ty : TypeId} {pos : String} {aft : Array Edge} {gd : Option (Nat × Bool)}
theorem isLoadB (t : TypeId) (h : wpList Try.prog ops Q (⟨dst, .load t x, ty, pos, aft, gd⟩ :: rest) a w) : wpList Try.prog ops Q (⟨dst, .load t x, ty, pos, aft, gd⟩ :: rest) a w := h
end
section
variable {o : Oper} {a : Act} {W : World}
theorem exec_ldRow (ty : TypeId) {d : TypeDesc} (hu : Try.prog.underlying ty = some d) (hd : d.isRow = true) {x : Operand} {g : Nat} {cs : Array Value} {t : TypeId} (ho : o.op = .load ty x) (hx : a.eval x = .pointer (some ⟨g, 0, none⟩)) (hi : (Try.prog.info? ty).map (·.size) = some cs.size) (hg : W.heap[g]? = some (.cells cs t)) : (execOp a.eval o).run Try.prog W = .ok (.value (.agg cs)) W := by
  unfold execOp
  simp only [ho, hx, Instr.loadAt, Instr.sureAddr, Sem.run_bind, Sem.run_pure, Result.andThen_ok, run_loadVar_row W g t ty cs (0, 0) d hg hu (by cases d <;> first | rfl | cases hd) hi]
theorem exec_stRow (ty : TypeId) {x y : Operand} {g : Nat} {cs c0 : Array Value} {t : TypeId} (ho : o.op = .store ty x y) (hx : a.eval x = .pointer (some ⟨g, 0, none⟩)) (hy : a.eval y = .agg cs) (hi : (Try.prog.info? ty).map (·.size) = some cs.size) (hs : c0.size = cs.size) (h1 : cs.all (·.oneCell') = true) (hg : W.heap[g]? = some (.cells c0 t)) : (execOp a.eval o).run Try.prog W = .ok .skip (W.setRow g cs) := by
  unfold execOp
  simp only [ho, hx, hy, Instr.storeAt, Instr.sureAddr, Sem.run_bind, Sem.run_pure, Result.andThen_ok, run_storeVar_row W g t ty c0 cs hg hi hs h1]
theorem setRowS {w : World} {l : List Part} {gy : Nat} {vs us : Array Value} {ty : TypeId} (h : Sep w W (boxP gy (.cells vs ty) :: l)) : Sep w (W.setRow gy us) (boxP gy (.cells us ty) :: l) := by
  have hg : W.heap[gy]? = some (.cells vs ty) := h.head
  have hg2 : (W.setRow gy us).heap[gy]? = some (.cells us ty) := setRow_heap _ _ _ _ _ _ hg
  refine h.turn (p' := boxP gy (.cells us ty)) (Fr.setRow W gy _) (fun k _ q => q) (boxP_good _ _) hg2 fun k hk => ⟨.inl hk, ?_⟩
  have e : k = gy := hk
  rw [e]
  exact (Array.getElem?_eq_some_iff.1 hg2).1
theorem size25r (a b : Value) : (Try.prog.info? 25).map (·.size) = some (#[a, b] : Array Value).size := by kernel_rfl
theorem size27r (a b : Value) : (Try.prog.info? 27).map (·.size) = some (#[a, b] : Array Value).size := by kernel_rfl
end
/-- Results: two rows in cells and a value. -/
theorem retCCT {fn : Func} {p q u : Tmp} {ty tz : TypeId} {R : Ending → World → Prop} {a : Act} {w : World} (h : fn.results = #[.cell p ty, .cell q tz, .tmp u]) {g k : Nat} {cs ds : Array Value} {v : Value} {d e : TypeDesc} {t t' : TypeId}
    (hp : a.tmps.getD p undef = .pointer (some ⟨g, 0, none⟩)) (hq : a.tmps.getD q undef = .pointer (some ⟨k, 0, none⟩)) (hv : a.tmps.getD u undef = v) (hg : w.heap[g]? = some (.cells cs t)) (hk : w.heap[k]? = some (.cells ds t'))
    (hu : Try.prog.underlying ty = some d) (hd : d.isRow = true) (hi : (Try.prog.info? ty).map (·.size) = some cs.size)
    (hu' : Try.prog.underlying tz = some e) (hd' : e.isRow = true) (hi' : (Try.prog.info? tz).map (·.size) = some ds.size)
    (hdf : a.defers = []) (hR : R (.returned (.tuple #[.agg cs, .agg ds, v])) w) : bodyPost Try.prog fn R .ret a w := by
  have hp' : a.tmps[p]?.getD undef = .pointer (some ⟨g, 0, none⟩) := by simpa using hp
  have hq' : a.tmps[q]?.getD undef = .pointer (some ⟨k, 0, none⟩) := by simpa using hq
  have hv' : a.tmps[u]?.getD undef = v := by simpa using hv
  refine bodyPost_ret ?_ hdf hR
  simp [results, h, hp', hq', hv', asAddr, run_loadVar_row w g t ty cs (0, 0) d hg hu (by cases d <;> first | rfl | cases hd) hi, run_loadVar_row w k t' tz ds (0, 0) e hk hu' (by cases e <;> first | rfl | cases hd') hi']
abbrev DR : Type := Option (Loc × RLoc × St × RSt)
/-- Both disks, where there are any. -/
def dsk : DR → List Part
  | none => []
  | some (L, R, s, t) => [dkP L s, rdP R t]
def dpt (o : DR) : Value := .pointer (o.map fun x => ⟨x.1.d, 0, none⟩)
def rpt (o : DR) : Value := .pointer (o.map fun x => ⟨x.2.1.g, 0, none⟩)
def okd (o : DR) (m : Nat) : Prop := ∀ L R s t, o = some (L, R, s, t) → Sim t s ∧ Cap s m
def TwoP (w : World) (a b c d : Value) (W : World) : Prop := ∃ o0 o1, (a = dpt o0 ∧ b = dpt o1 ∧ c = rpt o0 ∧ d = rpt o1) ∧ Sep w W (dsk o0 ++ dsk o1) ∧ okd o0 0 ∧ okd o1 0
theorem sim_made {n : Int} : Sim (rNew n []) (newV n) ∧ Cap (newV n) 0 := ⟨sim_new, Nat.zero_le _, Int.le_refl _, Int.le_refl _, Int.le_refl _⟩
set_option maxRecDepth 20000 in
set_option maxHeartbeats 4000000 in
theorem two_11 {w : World} (n space : Int) (p : Option Addr) (cap : Nat) (l : List Cel) (W : World) (hb : Below w.heap.size w W) (hl : l.length ≤ 1500000) (hI : LiesE celRow 1025 W p l) (hcan : ∀ c ∈ l, Can c.2) (hn : bndB n = true) (hm : mayB space l = true) :
    Calls Try.prog 9 #[.int .i64 n, .agg #[.int .i64 space, .slice p l.length cap]] W fun e W' => ∃ a b c d, e = .returned (.tuple #[.agg #[a, b], .agg #[c, d], .bool true]) ∧ TwoP w a b c d W' := by
  have hs0 := two_boxes hb (.cells #[.int .i64 space, .slice p l.length cap] 32) (.cells #[.pointer none, .pointer none] 25) (.cells #[.pointer none, .pointer none] 27) (.cells #[.pointer none, .pointer none] 25) (.cells #[.pointer none, .pointer none] 27)
  obtain ⟨K, hK⟩ : ∃ K, l.length = K := ⟨_, rfl⟩
  have HK := Hid.mk' hK
  have hlen : (lentH l).length = K + 6 := by unfold lentH; rw [List.length_append, mks_len, hK]
  have HI : Hid (∀ V, Below W.heap.size W V → LiesE celRow 1025 V p l) := fun V hV => hI.later hV
  have HW : Hid (∀ V, Below w.heap.size w V → True) := fun _ _ => trivial
  have HLen := Hid.mk' hlen
  have HCan := Hid.mk' hcan
  have hbW : ∀ o1 o2 o3 o4 o5, Below W.heap.size W (((((W.alloc o1).alloc o2).alloc o3).alloc o4).alloc o5) := fun o1 o2 o3 o4 o5 => below_next (below_next (below_next (below_next (below_new _ _) (below_new _ _)) (below_new _ _)) (below_new _ _)) (below_new _ _)
  have HB0 := Hid.mk' (hbW (.cells #[.int .i64 space, .slice p l.length cap] 32) (.cells #[.pointer none, .pointer none] 25) (.cells #[.pointer none, .pointer none] 27) (.cells #[.pointer none, .pointer none] 25) (.cells #[.pointer none, .pointer none] 27))
  have HS0 := Hid.mk' hs0
  rw [hK] at HS0 HB0 hl ⊢
  clear hs0 hI hcan hK hlen hbW hb HW
  go_enter Try.func9, Try.ntmps9
  have c1 := Joins.cell_of_block (HS0.out.at (b := W.heap.size) (o := .cells #[.int .i64 space, .slice p K cap] 32) (by simp)) 1
  go_wp2_with (go_at_call 38; fail)
  clear c1
  generalize World.alloc _ _ = V0 at *
  generalize W.heap.size + 1 + 1 + 1 + 1 = a8 at *
  generalize W.heap.size + 1 + 1 + 1 = a7 at *
  generalize W.heap.size + 1 + 1 = a5 at *
  generalize W.heap.size + 1 = a4 at *
  have HL := Hid.mk' (lentH_any l p cap V0 (by have := HK.out; omega) (HI.out V0 HB0.out))
  rw [HK.out, HLen.out] at HL
  refine Calls.mono HL.out ?_
  rintro e V1 ⟨vF, rfl, ho1, hb1⟩
  rcases own_form ho1 with ⟨-, q⟩ | ⟨bF, cF, rfl, -⟩
  · omega
  have hcF : K + 6 ≤ cF := (own_heap ho1).2.1
  have hcF2 : ¬ cF < K := by omega
  have hcF3 : K ≤ cF := by omega
  have hcF4 : ¬ ((K : Int) < 0) := by omega
  have ho1' : V1.ownsRow V0.heap.size 85 1025 (.slice (some ⟨bF, 0, none⟩) (lentH l).length cF) (lentH l).length ((lentH l).flatMap celRow) := by rw [HLen.out]; exact ho1
  have hs1 := HS0.out.list (x := ⟨some ⟨bF, 0, none⟩, cF, lentH l⟩) (en := celRow) hb1 ho1'
  have HS1 := Hid.mk' hs1
  have HB1 := Hid.mk' (below_next HB0.out hb1)
  have HF1 := Hid.mk' (own_lies celRow_len ho1')
  clear ho1 ho1' hb1 hs1 HL HS0 HB0
  go_wp2_with (go_at_call 30; fail)
  refine (new_ok hn V1).mono ?_
  rintro e V2 ⟨L0, rfl, hD0, hL0, hb2⟩
  have HS2 := Hid.mk' (HS1.out.disk hb2 hD0 hL0)
  have HB2 := Hid.mk' (below_next HB1.out hb2)
  have HF2 := Hid.mk' (HF1.out.later hb2)
  clear hD0 hL0 hb2 HS1 HB1 HF1
  go_wp2
  have HSd : Hid (V2.drew.heap[W.heap.size]? = some (.cells #[.int .i64 space, .slice p K cap] 32)) := HS2.out.at (b := W.heap.size) (o := .cells #[.int .i64 space, .slice p K cap] 32) (by simp)
  refine wp_region_ord (S := fun u => u.heap[W.heap.size]? = some (.cells #[.int .i64 space, .slice p K cap] 32)) [(0, true), (1, true), (2, true), (3, true), (4, true), (5, true), (6, true), (7, true), (8, false), (9, true), (10, true), (11, true), (12, true), (13, true)]
    (by kernel_rfl) rfl (by kernel_rfl) (fun d _ _ _ _ h => by cases d <;> exact h) HSd.out ?_
  have HS3 := Hid.mk' (HS2.out.later (show Below V2.heap.size V2 V2.drew from ⟨rfl, rfl, rfl, Nat.le_refl _, fun _ _ => rfl⟩))
  have HB3 := Hid.mk' (below_next HB2.out (show Below V2.heap.size V2 V2.drew from ⟨rfl, rfl, rfl, Nat.le_refl _, fun _ _ => rfl⟩))
  have HF3 : Hid (LiesE celRow 1025 V2.drew (some ⟨bF, 0, none⟩) (lentH l)) := HF2.out
  clear HS2 HB2 HF2 HSd
  generalize V2.drew = V3 at *
  simp only [inOrd, List.getElem?_cons_zero, List.getElem?_cons_succ]
  refine wpOrd_yield (v := .pointer (some ⟨W.heap.size, 0, none⟩)) rfl (fun u _ => by go_simp) ?_
  simp only [Act.put, List.setIfInBounds_toArray, List.set_cons_succ, List.set_cons_zero]
  refine wpOrd_yield (v := .int .i64 space) rfl (fun u hu => by have hq := Joins.cell_of_block hu 0; go_simp) ?_
  simp only [Act.put, List.setIfInBounds_toArray, List.set_cons_succ, List.set_cons_zero]
  refine wpOrd_yield (v := .slice (some ⟨bF, 0, none⟩) (K + 6) cF) rfl (fun u _ => exec_mv rfl rfl) ?_
  simp only [Act.put, List.setIfInBounds_toArray, List.set_cons_succ, List.set_cons_zero]
  refine wpOrd_yield (v := .pointer (some ⟨W.heap.size, 1, none⟩)) rfl (fun u _ => by go_simp) ?_
  simp only [Act.put, List.setIfInBounds_toArray, List.set_cons_succ, List.set_cons_zero]
  refine wpOrd_yield (v := .slice p K cap) rfl (fun u hu => by have hq := Joins.cell_of_block hu 1; go_simp) ?_
  simp only [Act.put, List.setIfInBounds_toArray, List.set_cons_succ, List.set_cons_zero]
  refine wpOrd_yield (v := .int .i64 (K : Int)) rfl (fun u _ => by go_simp) ?_
  simp only [Act.put, List.setIfInBounds_toArray, List.set_cons_succ, List.set_cons_zero]
  refine wpOrd_yield (v := .slice (some ⟨bF, 0, none⟩) K cF) rfl (fun u _ => by go_simp) ?_
  simp only [Act.put, List.setIfInBounds_toArray, List.set_cons_succ, List.set_cons_zero]
  refine wpOrd_yield (v := .agg #[.int .i64 space, .slice (some ⟨bF, 0, none⟩) K cF]) rfl (fun u _ => by go_simp) ?_
  simp only [Act.put, List.setIfInBounds_toArray, List.set_cons_succ, List.set_cons_zero]
  have hq := load_ok space l (some ⟨bF, 0, none⟩) cF V3 (by have := HK.out; omega) (lies_img (lies_prefix HF3.out)) HCan.out hm
  rw [HK.out] at hq
  refine wpOrd_call rfl 15 _ _ rfl Try.call15 [.agg #[.int .i64 space, .slice (some ⟨bF, 0, none⟩) K cF]] rfl ?_
  refine hq.mono ?_
  rintro e V4 ⟨L1, rfl, hD1, hL1, hb4⟩
  have HS4 := Hid.mk' (HS3.out.disk hb4 hD1 hL1)
  have HB4 := Hid.mk' (below_next HB3.out hb4)
  have HF4 := Hid.mk' (HF3.out.later hb4)
  have hi4 := HS4.out.at (b := W.heap.size) (o := .cells #[.int .i64 space, .slice p K cap] 32) (by simp)
  clear hD1 hL1 hb4 hq HS3 HB3 HF3
  refine ⟨_, rfl, hi4, ?_⟩
  simp only [Act.put, List.setIfInBounds_toArray, List.set_cons_succ, List.set_cons_zero]
  refine wpOrd_yield (v := .tuple #[.pointer (some ⟨L1.d, 0, none⟩), .int .i64 0]) rfl (fun u _ => exec_mv rfl rfl) ?_
  simp only [Act.put, List.setIfInBounds_toArray, List.set_cons_succ, List.set_cons_zero]
  refine wpOrd_yield (v := .pointer (some ⟨L1.d, 0, none⟩)) rfl (fun u _ => by go_simp) ?_
  simp only [Act.put, List.setIfInBounds_toArray, List.set_cons_succ, List.set_cons_zero]
  refine wpOrd_yield (v := .int .i64 0) rfl (fun u _ => by go_simp) ?_
  simp only [Act.put, List.setIfInBounds_toArray, List.set_cons_succ, List.set_cons_zero]
  refine wpOrd_yield (v := .pointer (some ⟨L1.d, 0, none⟩)) rfl (fun u _ => by go_simp) ?_
  simp only [Act.put, List.setIfInBounds_toArray, List.set_cons_succ, List.set_cons_zero]
  refine wpOrd_yield (v := .int .i64 0) rfl (fun u _ => by go_simp) ?_
  simp only [Act.put, List.setIfInBounds_toArray, List.set_cons_succ, List.set_cons_zero]
  refine wpOrd_nil ?_
  try simp only [Act.put]
  go_wp2_with (go_at_call 39; fail)
  have hnn : 1 ≤ n ∧ n ≤ 1048576 := of_decide_eq_true hn
  refine (rNew_ok n V4 hnn.1 hnn.2).mono ?_
  rintro e V5 ⟨rfl, hR0, hb5⟩
  have HS5 := Hid.mk' (HS4.out.ref hb5 hR0)
  have HB5 := Hid.mk' (below_next HB4.out hb5)
  have HF5 := Hid.mk' (HF4.out.later hb5)
  clear hR0 hb5 HS4 HB4 HF4 hi4
  generalize V4.heap.size = g0 at *
  have hi5 := HS5.out.at (b := W.heap.size) (o := .cells #[.int .i64 space, .slice p K cap] 32) (by simp)
  have HRL := Hid.mk' (refLoad_made space l p cap V5 (by have := HK.out; omega) (lies_img (HI.out V5 HB5.out)) hm)
  rw [HK.out] at HRL
  go_wp2_with (first | (with_reducible refine isLoadB 32 ?_; refine wpList_ldR 32 Try.underlying32 rfl rfl (.tmp 3) rfl W.heap.size rfl _ 32 (0, 0) (by kernel_rfl) hi5 ?_) | (go_at_call 16; fail))
  refine Calls.mono HRL.out ?_
  rintro e V6 ⟨g1, hv1, rfl, hR1, hb6⟩
  have HS6 := Hid.mk' (HS5.out.ref hb6 hR1)
  have HB6 := Hid.mk' (below_next HB5.out hb6)
  have HF6 := Hid.mk' (HF5.out.later hb6)
  have hi6 := HS6.out.at (b := W.heap.size) (o := .cells #[.int .i64 space, .slice p K cap] 32) (by simp)
  have c6 := Joins.cell_of_block hi6 1
  clear hR1 hb6 HRL HS5 HB5 HF5 hi5
  have HKp := Hid.mk' (keptH_any l (some ⟨bF, 0, none⟩) p cF cap V6 (by have := HK.out; omega) HF6.out (HI.out V6 HB6.out))
  rw [HK.out, HLen.out] at HKp
  go_wp2_with (go_at_call 40; fail)
  refine Calls.mono HKp.out ?_
  rintro e V7 ⟨rfl, hb7⟩
  have hs7 := HS6.out.later hb7
  have hs7' : Sep w V7 ([rdP ⟨V5.heap.size, g1, hv1, .slice none 0 0, .slice none 0 0⟩ (rNew space l), rdP ⟨g0, g0, .slice none 0 0, .slice none 0 0, .slice none 0 0⟩ (rNew n []), dkP L1 (loadV space l), dkP L0 (newV n)] ++ lsP celRow 85 1025 ⟨some ⟨bF, 0, none⟩, cF, lentH l⟩ :: [boxP a8 (.cells #[.pointer none, .pointer none] 27), boxP a7 (.cells #[.pointer none, .pointer none] 25), boxP a5 (.cells #[.pointer none, .pointer none] 27), boxP a4 (.cells #[.pointer none, .pointer none] 25), boxP W.heap.size (.cells #[.int .i64 space, .slice p K cap] 32)]) := hs7
  have hs7q := hs7'.perm List.perm_middle
  have ho7 : V7.ownsRow 0 85 1025 (.slice (some ⟨bF, 0, none⟩) (lentH l).length cF) (lentH l).length ((lentH l).flatMap celRow) := hs7q.head
  have hov := overH_any (n := K + 6) (by rw [← HLen.out]; exact ho7) HLen.out (by omega)
  have HS7 := Hid.mk' hs7q
  have HOv := Hid.mk' hov
  clear hs7 hs7' hs7q ho7 hov hb7 HKp HS6 HB6 HF6 hi6 c6
  go_wp2_with (go_at_call 41; fail)
  refine Calls.mono HOv.out ?_
  rintro e V8 ⟨rfl, hf8⟩
  have hs8 : Sep w V8 ([rdP ⟨V5.heap.size, g1, hv1, .slice none 0 0, .slice none 0 0⟩ (rNew space l), rdP ⟨g0, g0, .slice none 0 0, .slice none 0 0, .slice none 0 0⟩ (rNew n []), dkP L1 (loadV space l), dkP L0 (newV n)] ++ [boxP a8 (.cells #[.pointer none, .pointer none] 27), boxP a7 (.cells #[.pointer none, .pointer none] 25), boxP a5 (.cells #[.pointer none, .pointer none] 27), boxP a4 (.cells #[.pointer none, .pointer none] 25), boxP W.heap.size (.cells #[.int .i64 space, .slice p K cap] 32)]) := HS7.out.after hf8 fun k q => by
    subst q
    rfl
  have HS8 := Hid.mk' hs8
  clear hf8 hs8 HOv HS7
  have hz1 : Sep w V8 (boxP a8 (.cells #[.pointer none, .pointer none] 27) :: ([rdP ⟨V5.heap.size, g1, hv1, .slice none 0 0, .slice none 0 0⟩ (rNew space l), rdP ⟨g0, g0, .slice none 0 0, .slice none 0 0, .slice none 0 0⟩ (rNew n []), dkP L1 (loadV space l), dkP L0 (newV n)] ++ [boxP a7 (.cells #[.pointer none, .pointer none] 25), boxP a5 (.cells #[.pointer none, .pointer none] 27), boxP a4 (.cells #[.pointer none, .pointer none] 25), boxP W.heap.size (.cells #[.int .i64 space, .slice p K cap] 32)])) := HS8.out.perm (List.perm_middle (l₁ := [rdP ⟨V5.heap.size, g1, hv1, .slice none 0 0, .slice none 0 0⟩ (rNew space l), rdP ⟨g0, g0, .slice none 0 0, .slice none 0 0, .slice none 0 0⟩ (rNew n []), dkP L1 (loadV space l), dkP L0 (newV n)]))
  have hz2 : Sep w V8 (boxP a7 (.cells #[.pointer none, .pointer none] 25) :: ([boxP a8 (.cells #[.pointer none, .pointer none] 27), rdP ⟨V5.heap.size, g1, hv1, .slice none 0 0, .slice none 0 0⟩ (rNew space l), rdP ⟨g0, g0, .slice none 0 0, .slice none 0 0, .slice none 0 0⟩ (rNew n []), dkP L1 (loadV space l), dkP L0 (newV n)] ++ [boxP a5 (.cells #[.pointer none, .pointer none] 27), boxP a4 (.cells #[.pointer none, .pointer none] 25), boxP W.heap.size (.cells #[.int .i64 space, .slice p K cap] 32)])) := hz1.perm (List.perm_middle (l₁ := [boxP a8 (.cells #[.pointer none, .pointer none] 27), rdP ⟨V5.heap.size, g1, hv1, .slice none 0 0, .slice none 0 0⟩ (rNew space l), rdP ⟨g0, g0, .slice none 0 0, .slice none 0 0, .slice none 0 0⟩ (rNew n []), dkP L1 (loadV space l), dkP L0 (newV n)]))
  have c70 : V8.cell? ⟨a7, 0, none⟩ = some (.pointer none) := Joins.cell_of_block (show V8.heap[a7]? = some (.cells #[.pointer none, .pointer none] 25) from hz2.head) 0
  have f70 : V8.frozen? ⟨a7, 0, none⟩ = false := Joins.unfrozen_of_block (show V8.heap[a7]? = some (.cells #[.pointer none, .pointer none] 25) from hz2.head) 0
  have hz3 := setBoxS hz2 0 (.pointer (some ⟨L0.d, 0, none⟩))
  have c71 : (V8.setCell ⟨a7, 0, none⟩ (.pointer (some ⟨L0.d, 0, none⟩))).cell? ⟨a7, 1, none⟩ = some (.pointer none) := Joins.cell_of_block hz3.head 1
  have f71 : (V8.setCell ⟨a7, 0, none⟩ (.pointer (some ⟨L0.d, 0, none⟩))).frozen? ⟨a7, 1, none⟩ = false := Joins.unfrozen_of_block hz3.head 1
  have hz4 : Sep w ((V8.setCell ⟨a7, 0, none⟩ (.pointer (some ⟨L0.d, 0, none⟩))).setCell ⟨a7, 1, none⟩ (.pointer (some ⟨L1.d, 0, none⟩))) (boxP a7 (.cells #[.pointer (some ⟨L0.d, 0, none⟩), .pointer (some ⟨L1.d, 0, none⟩)] 25) :: ([boxP a8 (.cells #[.pointer none, .pointer none] 27), rdP ⟨V5.heap.size, g1, hv1, .slice none 0 0, .slice none 0 0⟩ (rNew space l), rdP ⟨g0, g0, .slice none 0 0, .slice none 0 0, .slice none 0 0⟩ (rNew n []), dkP L1 (loadV space l), dkP L0 (newV n)] ++ [boxP a5 (.cells #[.pointer none, .pointer none] 27), boxP a4 (.cells #[.pointer none, .pointer none] 25), boxP W.heap.size (.cells #[.int .i64 space, .slice p K cap] 32)])) := setBoxS hz3 1 (.pointer (some ⟨L1.d, 0, none⟩))
  have HZ4 := Hid.mk' hz4
  clear hz1 hz2 hz3 hz4 HS8
  go_upto_region 12 with fail
  clear c70 f70 c71 f71
  generalize (V8.setCell ⟨a7, 0, none⟩ (.pointer (some ⟨L0.d, 0, none⟩))).setCell ⟨a7, 1, none⟩ (.pointer (some ⟨L1.d, 0, none⟩)) = V9 at *
  have hz2 : Sep w V9 (boxP a8 (.cells #[.pointer none, .pointer none] 27) :: boxP a7 (.cells #[.pointer (some ⟨L0.d, 0, none⟩), .pointer (some ⟨L1.d, 0, none⟩)] 25) :: ([rdP ⟨V5.heap.size, g1, hv1, .slice none 0 0, .slice none 0 0⟩ (rNew space l), rdP ⟨g0, g0, .slice none 0 0, .slice none 0 0, .slice none 0 0⟩ (rNew n []), dkP L1 (loadV space l), dkP L0 (newV n)] ++ [boxP a5 (.cells #[.pointer none, .pointer none] 27), boxP a4 (.cells #[.pointer none, .pointer none] 25), boxP W.heap.size (.cells #[.int .i64 space, .slice p K cap] 32)])) := HZ4.out.swap
  have c70 : V9.cell? ⟨a8, 0, none⟩ = some (.pointer none) := Joins.cell_of_block (show V9.heap[a8]? = some (.cells #[.pointer none, .pointer none] 27) from hz2.head) 0
  have f70 : V9.frozen? ⟨a8, 0, none⟩ = false := Joins.unfrozen_of_block (show V9.heap[a8]? = some (.cells #[.pointer none, .pointer none] 27) from hz2.head) 0
  have hz3 := setBoxS hz2 0 (.pointer (some ⟨g0, 0, none⟩))
  have c71 : (V9.setCell ⟨a8, 0, none⟩ (.pointer (some ⟨g0, 0, none⟩))).cell? ⟨a8, 1, none⟩ = some (.pointer none) := Joins.cell_of_block hz3.head 1
  have f71 : (V9.setCell ⟨a8, 0, none⟩ (.pointer (some ⟨g0, 0, none⟩))).frozen? ⟨a8, 1, none⟩ = false := Joins.unfrozen_of_block hz3.head 1
  have hz4 : Sep w ((V9.setCell ⟨a8, 0, none⟩ (.pointer (some ⟨g0, 0, none⟩))).setCell ⟨a8, 1, none⟩ (.pointer (some ⟨g1, 0, none⟩))) (boxP a8 (.cells #[.pointer (some ⟨g0, 0, none⟩), .pointer (some ⟨g1, 0, none⟩)] 27) :: boxP a7 (.cells #[.pointer (some ⟨L0.d, 0, none⟩), .pointer (some ⟨L1.d, 0, none⟩)] 25) :: ([rdP ⟨V5.heap.size, g1, hv1, .slice none 0 0, .slice none 0 0⟩ (rNew space l), rdP ⟨g0, g0, .slice none 0 0, .slice none 0 0, .slice none 0 0⟩ (rNew n []), dkP L1 (loadV space l), dkP L0 (newV n)] ++ [boxP a5 (.cells #[.pointer none, .pointer none] 27), boxP a4 (.cells #[.pointer none, .pointer none] 25), boxP W.heap.size (.cells #[.int .i64 space, .slice p K cap] 32)])) := setBoxS hz3 1 (.pointer (some ⟨g1, 0, none⟩))
  have HZ5 := Hid.mk' hz4
  clear hz2 hz3 hz4 HZ4
  go_upto_region 13 with fail
  clear c70 f70 c71 f71
  generalize (V9.setCell ⟨a8, 0, none⟩ (.pointer (some ⟨g0, 0, none⟩))).setCell ⟨a8, 1, none⟩ (.pointer (some ⟨g1, 0, none⟩)) = V10 at *
  have k8 : V10.heap[a8]? = some (.cells #[.pointer (some ⟨g0, 0, none⟩), .pointer (some ⟨g1, 0, none⟩)] 27) := HZ5.out.at (List.mem_cons_self ..)
  have k7 : V10.heap[a7]? = some (.cells #[.pointer (some ⟨L0.d, 0, none⟩), .pointer (some ⟨L1.d, 0, none⟩)] 25) := HZ5.out.at (List.mem_cons_of_mem _ (List.mem_cons_self ..))
  have k5 : V10.heap[a5]? = some (.cells #[.pointer none, .pointer none] 27) := HZ5.out.at (by simp)
  have k4 : V10.heap[a4]? = some (.cells #[.pointer none, .pointer none] 25) := HZ5.out.at (by simp)
  have hy0 : Sep w V10.drew (boxP a5 (.cells #[.pointer none, .pointer none] 27) :: ([boxP a8 (.cells #[.pointer (some ⟨g0, 0, none⟩), .pointer (some ⟨g1, 0, none⟩)] 27), boxP a7 (.cells #[.pointer (some ⟨L0.d, 0, none⟩), .pointer (some ⟨L1.d, 0, none⟩)] 25), rdP ⟨V5.heap.size, g1, hv1, .slice none 0 0, .slice none 0 0⟩ (rNew space l), rdP ⟨g0, g0, .slice none 0 0, .slice none 0 0, .slice none 0 0⟩ (rNew n []), dkP L1 (loadV space l), dkP L0 (newV n)] ++ [boxP a4 (.cells #[.pointer none, .pointer none] 25), boxP W.heap.size (.cells #[.int .i64 space, .slice p K cap] 32)])) := (HZ5.out.later (show Below V10.heap.size V10 V10.drew from ⟨rfl, rfl, rfl, Nat.le_refl _, fun _ _ => rfl⟩)).perm (List.perm_middle (l₁ := [boxP a8 (.cells #[.pointer (some ⟨g0, 0, none⟩), .pointer (some ⟨g1, 0, none⟩)] 27), boxP a7 (.cells #[.pointer (some ⟨L0.d, 0, none⟩), .pointer (some ⟨L1.d, 0, none⟩)] 25), rdP ⟨V5.heap.size, g1, hv1, .slice none 0 0, .slice none 0 0⟩ (rNew space l), rdP ⟨g0, g0, .slice none 0 0, .slice none 0 0, .slice none 0 0⟩ (rNew n []), dkP L1 (loadV space l), dkP L0 (newV n)]))
  have hy1 : Sep w V10.drew (boxP a4 (.cells #[.pointer none, .pointer none] 25) :: ([boxP a5 (.cells #[.pointer none, .pointer none] 27), boxP a8 (.cells #[.pointer (some ⟨g0, 0, none⟩), .pointer (some ⟨g1, 0, none⟩)] 27), boxP a7 (.cells #[.pointer (some ⟨L0.d, 0, none⟩), .pointer (some ⟨L1.d, 0, none⟩)] 25), rdP ⟨V5.heap.size, g1, hv1, .slice none 0 0, .slice none 0 0⟩ (rNew space l), rdP ⟨g0, g0, .slice none 0 0, .slice none 0 0, .slice none 0 0⟩ (rNew n []), dkP L1 (loadV space l), dkP L0 (newV n)] ++ [boxP W.heap.size (.cells #[.int .i64 space, .slice p K cap] 32)])) := hy0.perm (List.perm_middle (l₁ := [boxP a5 (.cells #[.pointer none, .pointer none] 27), boxP a8 (.cells #[.pointer (some ⟨g0, 0, none⟩), .pointer (some ⟨g1, 0, none⟩)] 27), boxP a7 (.cells #[.pointer (some ⟨L0.d, 0, none⟩), .pointer (some ⟨L1.d, 0, none⟩)] 25), rdP ⟨V5.heap.size, g1, hv1, .slice none 0 0, .slice none 0 0⟩ (rNew space l), rdP ⟨g0, g0, .slice none 0 0, .slice none 0 0, .slice none 0 0⟩ (rNew n []), dkP L1 (loadV space l), dkP L0 (newV n)]))
  have HY := Hid.mk' hy1
  clear hy0 hy1
  refine wp_region_ord (S := fun u => u.heap[a7]? = some (.cells #[.pointer (some ⟨L0.d, 0, none⟩), .pointer (some ⟨L1.d, 0, none⟩)] 25) ∧ u.heap[a8]? = some (.cells #[.pointer (some ⟨g0, 0, none⟩), .pointer (some ⟨g1, 0, none⟩)] 27)) [(0, true), (1, true), (2, false), (3, false), (4, true)]
    (by kernel_rfl) rfl (by kernel_rfl) (fun d _ _ _ _ h => by cases d <;> exact h) ⟨k7, k8⟩ ?_
  generalize V10.drew = V11 at *
  simp only [inOrd, List.getElem?_cons_zero, List.getElem?_cons_succ]
  refine wpOrd_yield (v := .agg #[.pointer (some ⟨L0.d, 0, none⟩), .pointer (some ⟨L1.d, 0, none⟩)]) rfl (fun u hu => exec_ldRow 25 Try.underlying25 rfl rfl rfl (size25r _ _) hu.1) ?_
  simp only [Act.put, List.setIfInBounds_toArray, List.set_cons_succ, List.set_cons_zero]
  refine wpOrd_yield (v := .agg #[.pointer (some ⟨g0, 0, none⟩), .pointer (some ⟨g1, 0, none⟩)]) rfl (fun u hu => exec_ldRow 27 Try.underlying27 rfl rfl rfl (size27r _ _) hu.2) ?_
  simp only [Act.put, List.setIfInBounds_toArray, List.set_cons_succ, List.set_cons_zero]
  have hx1 := setRowS (us := #[.pointer (some ⟨L0.d, 0, none⟩), .pointer (some ⟨L1.d, 0, none⟩)]) HY.out
  have j8 := hx1.at (b := a8) (o := .cells #[.pointer (some ⟨g0, 0, none⟩), .pointer (some ⟨g1, 0, none⟩)] 27) (by simp)
  have j7 := hx1.at (b := a7) (o := .cells #[.pointer (some ⟨L0.d, 0, none⟩), .pointer (some ⟨L1.d, 0, none⟩)] 25) (by simp)
  have j5 := hx1.at (b := a5) (o := .cells #[.pointer none, .pointer none] 27) (by simp)
  refine wpOrd_do (w' := V11.setRow a4 #[.pointer (some ⟨L0.d, 0, none⟩), .pointer (some ⟨L1.d, 0, none⟩)]) rfl (exec_stRow (c0 := #[.pointer none, .pointer none]) 25 rfl rfl rfl (size25r _ _) rfl (by simp [Value.oneCell']) (HY.out.at (List.mem_cons_self ..))) ⟨j7, j8⟩ ?_
  have hx2 := setRowS (us := #[.pointer (some ⟨g0, 0, none⟩), .pointer (some ⟨g1, 0, none⟩)]) hx1.swap
  have i8 := hx2.at (b := a8) (o := .cells #[.pointer (some ⟨g0, 0, none⟩), .pointer (some ⟨g1, 0, none⟩)] 27) (by simp)
  have i7 := hx2.at (b := a7) (o := .cells #[.pointer (some ⟨L0.d, 0, none⟩), .pointer (some ⟨L1.d, 0, none⟩)] 25) (by simp)
  have i5 := hx2.at (b := a5) (o := .cells #[.pointer (some ⟨g0, 0, none⟩), .pointer (some ⟨g1, 0, none⟩)] 27) (by simp)
  have i4 := hx2.at (b := a4) (o := .cells #[.pointer (some ⟨L0.d, 0, none⟩), .pointer (some ⟨L1.d, 0, none⟩)] 25) (by simp)
  simp only [Act.put]
  refine wpOrd_do (w' := (V11.setRow a4 #[.pointer (some ⟨L0.d, 0, none⟩), .pointer (some ⟨L1.d, 0, none⟩)]).setRow a5 #[.pointer (some ⟨g0, 0, none⟩), .pointer (some ⟨g1, 0, none⟩)]) rfl (exec_stRow (c0 := #[.pointer none, .pointer none]) 27 rfl rfl rfl (size27r _ _) rfl (by simp [Value.oneCell']) j5) ⟨i7, i8⟩ ?_
  have HX := Hid.mk' hx2
  have HI4 := Hid.mk' i4
  have HI5 := Hid.mk' i5
  clear hx1 hx2 j8 j7 j5 i8 i7 i5 i4 HY k8 k7 k5 k4 HZ5
  generalize (V11.setRow a4 #[.pointer (some ⟨L0.d, 0, none⟩), .pointer (some ⟨L1.d, 0, none⟩)]).setRow a5 #[.pointer (some ⟨g0, 0, none⟩), .pointer (some ⟨g1, 0, none⟩)] = V12 at *
  simp only [Act.put]
  refine wpOrd_yield (v := .bool true) rfl (fun u _ => by go_simp) ?_
  simp only [Act.put, List.setIfInBounds_toArray, List.set_cons_succ, List.set_cons_zero]
  refine wpOrd_nil ?_
  try simp only [Act.put]
  have HP : Hid (TwoP w (.pointer (some ⟨L0.d, 0, none⟩)) (.pointer (some ⟨L1.d, 0, none⟩)) (.pointer (some ⟨g0, 0, none⟩)) (.pointer (some ⟨g1, 0, none⟩)) V12) := ⟨some (L0, ⟨g0, g0, .slice none 0 0, .slice none 0 0, .slice none 0 0⟩, newV n, rNew n []), some (L1, ⟨V5.heap.size, g1, hv1, .slice none 0 0, .slice none 0 0⟩, loadV space l, rNew space l), ⟨rfl, rfl, rfl, rfl⟩, (show Sep w V12 [rdP ⟨V5.heap.size, g1, hv1, .slice none 0 0, .slice none 0 0⟩ (rNew space l), rdP ⟨g0, g0, .slice none 0 0, .slice none 0 0, .slice none 0 0⟩ (rNew n []), dkP L1 (loadV space l), dkP L0 (newV n)] from HX.out.sub (.cons _ (.cons _ (.cons _ (.cons _ (.cons_cons _ (.cons_cons _ (.cons_cons _ (.cons_cons _ (List.nil_sublist _)))))))))).perm ((List.reverse_perm _).symm.trans (.cons _ (.swap _ _ _))), (fun L R s t q => by cases q; exact sim_made), (fun L R s t q => by cases q; exact sim_load hm HCan.out)⟩
  clear HX
  go_wp2
  exact retCCT rfl rfl rfl rfl HI4.out HI5.out Try.underlying25 rfl (size25r _ _) Try.underlying27 rfl (size27r _ _) rfl ⟨_, _, _, _, rfl, HP.out⟩
set_option maxRecDepth 20000 in
set_option maxHeartbeats 4000000 in
theorem two_10 {w : World} (n space : Int) (p : Option Addr) (cap : Nat) (l : List Cel) (W : World) (hb : Below w.heap.size w W) (hl : l.length ≤ 1500000) (hI : LiesE celRow 1025 W p l) (hcan : ∀ c ∈ l, Can c.2) (hn : bndB n = true) (hm : mayB space l = false) :
    Calls Try.prog 9 #[.int .i64 n, .agg #[.int .i64 space, .slice p l.length cap]] W fun e W' => ∃ a b c d, e = .returned (.tuple #[.agg #[a, b], .agg #[c, d], .bool true]) ∧ TwoP w a b c d W' := by
  have hs0 := two_boxes hb (.cells #[.int .i64 space, .slice p l.length cap] 32) (.cells #[.pointer none, .pointer none] 25) (.cells #[.pointer none, .pointer none] 27) (.cells #[.pointer none, .pointer none] 25) (.cells #[.pointer none, .pointer none] 27)
  obtain ⟨K, hK⟩ : ∃ K, l.length = K := ⟨_, rfl⟩
  have HK := Hid.mk' hK
  have hlen : (lentH l).length = K + 6 := by unfold lentH; rw [List.length_append, mks_len, hK]
  have HI : Hid (∀ V, Below W.heap.size W V → LiesE celRow 1025 V p l) := fun V hV => hI.later hV
  have HW : Hid (∀ V, Below w.heap.size w V → True) := fun _ _ => trivial
  have HLen := Hid.mk' hlen
  have HCan := Hid.mk' hcan
  have hbW : ∀ o1 o2 o3 o4 o5, Below W.heap.size W (((((W.alloc o1).alloc o2).alloc o3).alloc o4).alloc o5) := fun o1 o2 o3 o4 o5 => below_next (below_next (below_next (below_next (below_new _ _) (below_new _ _)) (below_new _ _)) (below_new _ _)) (below_new _ _)
  have HB0 := Hid.mk' (hbW (.cells #[.int .i64 space, .slice p l.length cap] 32) (.cells #[.pointer none, .pointer none] 25) (.cells #[.pointer none, .pointer none] 27) (.cells #[.pointer none, .pointer none] 25) (.cells #[.pointer none, .pointer none] 27))
  have HS0 := Hid.mk' hs0
  rw [hK] at HS0 HB0 hl ⊢
  clear hs0 hI hcan hK hlen hbW hb HW
  go_enter Try.func9, Try.ntmps9
  have c1 := Joins.cell_of_block (HS0.out.at (b := W.heap.size) (o := .cells #[.int .i64 space, .slice p K cap] 32) (by simp)) 1
  go_wp2_with (go_at_call 38; fail)
  clear c1
  generalize World.alloc _ _ = V0 at *
  generalize W.heap.size + 1 + 1 + 1 + 1 = a8 at *
  generalize W.heap.size + 1 + 1 + 1 = a7 at *
  generalize W.heap.size + 1 + 1 = a5 at *
  generalize W.heap.size + 1 = a4 at *
  have HL := Hid.mk' (lentH_any l p cap V0 (by have := HK.out; omega) (HI.out V0 HB0.out))
  rw [HK.out, HLen.out] at HL
  refine Calls.mono HL.out ?_
  rintro e V1 ⟨vF, rfl, ho1, hb1⟩
  rcases own_form ho1 with ⟨-, q⟩ | ⟨bF, cF, rfl, -⟩
  · omega
  have hcF : K + 6 ≤ cF := (own_heap ho1).2.1
  have hcF2 : ¬ cF < K := by omega
  have hcF3 : K ≤ cF := by omega
  have hcF4 : ¬ ((K : Int) < 0) := by omega
  have ho1' : V1.ownsRow V0.heap.size 85 1025 (.slice (some ⟨bF, 0, none⟩) (lentH l).length cF) (lentH l).length ((lentH l).flatMap celRow) := by rw [HLen.out]; exact ho1
  have hs1 := HS0.out.list (x := ⟨some ⟨bF, 0, none⟩, cF, lentH l⟩) (en := celRow) hb1 ho1'
  have HS1 := Hid.mk' hs1
  have HB1 := Hid.mk' (below_next HB0.out hb1)
  have HF1 := Hid.mk' (own_lies celRow_len ho1')
  clear ho1 ho1' hb1 hs1 HL HS0 HB0
  go_wp2_with (go_at_call 30; fail)
  refine (new_ok hn V1).mono ?_
  rintro e V2 ⟨L0, rfl, hD0, hL0, hb2⟩
  have HS2 := Hid.mk' (HS1.out.disk hb2 hD0 hL0)
  have HB2 := Hid.mk' (below_next HB1.out hb2)
  have HF2 := Hid.mk' (HF1.out.later hb2)
  clear hD0 hL0 hb2 HS1 HB1 HF1
  go_wp2
  have HSd : Hid (V2.drew.heap[W.heap.size]? = some (.cells #[.int .i64 space, .slice p K cap] 32)) := HS2.out.at (b := W.heap.size) (o := .cells #[.int .i64 space, .slice p K cap] 32) (by simp)
  refine wp_region_ord (S := fun u => u.heap[W.heap.size]? = some (.cells #[.int .i64 space, .slice p K cap] 32)) [(0, true), (1, true), (2, true), (3, true), (4, true), (5, true), (6, true), (7, true), (8, false), (9, true), (10, true), (11, true), (12, true), (13, true)]
    (by kernel_rfl) rfl (by kernel_rfl) (fun d _ _ _ _ h => by cases d <;> exact h) HSd.out ?_
  have HS3 := Hid.mk' (HS2.out.later (show Below V2.heap.size V2 V2.drew from ⟨rfl, rfl, rfl, Nat.le_refl _, fun _ _ => rfl⟩))
  have HB3 := Hid.mk' (below_next HB2.out (show Below V2.heap.size V2 V2.drew from ⟨rfl, rfl, rfl, Nat.le_refl _, fun _ _ => rfl⟩))
  have HF3 : Hid (LiesE celRow 1025 V2.drew (some ⟨bF, 0, none⟩) (lentH l)) := HF2.out
  clear HS2 HB2 HF2 HSd
  generalize V2.drew = V3 at *
  simp only [inOrd, List.getElem?_cons_zero, List.getElem?_cons_succ]
  refine wpOrd_yield (v := .pointer (some ⟨W.heap.size, 0, none⟩)) rfl (fun u _ => by go_simp) ?_
  simp only [Act.put, List.setIfInBounds_toArray, List.set_cons_succ, List.set_cons_zero]
  refine wpOrd_yield (v := .int .i64 space) rfl (fun u hu => by have hq := Joins.cell_of_block hu 0; go_simp) ?_
  simp only [Act.put, List.setIfInBounds_toArray, List.set_cons_succ, List.set_cons_zero]
  refine wpOrd_yield (v := .slice (some ⟨bF, 0, none⟩) (K + 6) cF) rfl (fun u _ => exec_mv rfl rfl) ?_
  simp only [Act.put, List.setIfInBounds_toArray, List.set_cons_succ, List.set_cons_zero]
  refine wpOrd_yield (v := .pointer (some ⟨W.heap.size, 1, none⟩)) rfl (fun u _ => by go_simp) ?_
  simp only [Act.put, List.setIfInBounds_toArray, List.set_cons_succ, List.set_cons_zero]
  refine wpOrd_yield (v := .slice p K cap) rfl (fun u hu => by have hq := Joins.cell_of_block hu 1; go_simp) ?_
  simp only [Act.put, List.setIfInBounds_toArray, List.set_cons_succ, List.set_cons_zero]
  refine wpOrd_yield (v := .int .i64 (K : Int)) rfl (fun u _ => by go_simp) ?_
  simp only [Act.put, List.setIfInBounds_toArray, List.set_cons_succ, List.set_cons_zero]
  refine wpOrd_yield (v := .slice (some ⟨bF, 0, none⟩) K cF) rfl (fun u _ => by go_simp) ?_
  simp only [Act.put, List.setIfInBounds_toArray, List.set_cons_succ, List.set_cons_zero]
  refine wpOrd_yield (v := .agg #[.int .i64 space, .slice (some ⟨bF, 0, none⟩) K cF]) rfl (fun u _ => by go_simp) ?_
  simp only [Act.put, List.setIfInBounds_toArray, List.set_cons_succ, List.set_cons_zero]
  have hq := load_bad space l (some ⟨bF, 0, none⟩) cF V3 (by have := HK.out; omega) (lies_img (lies_prefix HF3.out)) hm
  rw [HK.out] at hq
  refine wpOrd_call rfl 15 _ _ rfl Try.call15 [.agg #[.int .i64 space, .slice (some ⟨bF, 0, none⟩) K cF]] rfl ?_
  refine hq.mono ?_
  rintro e V4 ⟨rfl, hb4⟩
  have HS4 := Hid.mk' (HS3.out.later hb4)
  have HB4 := Hid.mk' (below_next HB3.out hb4)
  have HF4 := Hid.mk' (HF3.out.later hb4)
  have hi4 := HS4.out.at (b := W.heap.size) (o := .cells #[.int .i64 space, .slice p K cap] 32) (by simp)
  clear hb4 hq HS3 HB3 HF3
  refine ⟨_, rfl, hi4, ?_⟩
  simp only [Act.put, List.setIfInBounds_toArray, List.set_cons_succ, List.set_cons_zero]
  refine wpOrd_yield (v := .tuple #[.pointer none, .int .i64 4]) rfl (fun u _ => exec_mv rfl rfl) ?_
  simp only [Act.put, List.setIfInBounds_toArray, List.set_cons_succ, List.set_cons_zero]
  refine wpOrd_yield (v := .pointer none) rfl (fun u _ => by go_simp) ?_
  simp only [Act.put, List.setIfInBounds_toArray, List.set_cons_succ, List.set_cons_zero]
  refine wpOrd_yield (v := .int .i64 4) rfl (fun u _ => by go_simp) ?_
  simp only [Act.put, List.setIfInBounds_toArray, List.set_cons_succ, List.set_cons_zero]
  refine wpOrd_yield (v := .pointer none) rfl (fun u _ => by go_simp) ?_
  simp only [Act.put, List.setIfInBounds_toArray, List.set_cons_succ, List.set_cons_zero]
  refine wpOrd_yield (v := .int .i64 4) rfl (fun u _ => by go_simp) ?_
  simp only [Act.put, List.setIfInBounds_toArray, List.set_cons_succ, List.set_cons_zero]
  refine wpOrd_nil ?_
  try simp only [Act.put]
  go_wp2_with (go_at_call 39; fail)
  have hnn : 1 ≤ n ∧ n ≤ 1048576 := of_decide_eq_true hn
  refine (rNew_ok n V4 hnn.1 hnn.2).mono ?_
  rintro e V5 ⟨rfl, hR0, hb5⟩
  have HS5 := Hid.mk' (HS4.out.ref hb5 hR0)
  have HB5 := Hid.mk' (below_next HB4.out hb5)
  have HF5 := Hid.mk' (HF4.out.later hb5)
  clear hR0 hb5 HS4 HB4 HF4 hi4
  generalize V4.heap.size = g0 at *
  have hi5 := HS5.out.at (b := W.heap.size) (o := .cells #[.int .i64 space, .slice p K cap] 32) (by simp)
  have HRL := Hid.mk' (refLoad_bad space l p cap V5 (by have := HK.out; omega) (lies_img (HI.out V5 HB5.out)) hm)
  rw [HK.out] at HRL
  go_wp2_with (first | (with_reducible refine isLoadB 32 ?_; refine wpList_ldR 32 Try.underlying32 rfl rfl (.tmp 3) rfl W.heap.size rfl _ 32 (0, 0) (by kernel_rfl) hi5 ?_) | (go_at_call 16; fail))
  refine Calls.mono HRL.out ?_
  rintro e V6 ⟨rfl, hb6⟩
  have HS6 := Hid.mk' (HS5.out.later hb6)
  have HB6 := Hid.mk' (below_next HB5.out hb6)
  have HF6 := Hid.mk' (HF5.out.later hb6)
  have hi6 := HS6.out.at (b := W.heap.size) (o := .cells #[.int .i64 space, .slice p K cap] 32) (by simp)
  have c6 := Joins.cell_of_block hi6 1
  clear hb6 HRL HS5 HB5 HF5 hi5
  have HKp := Hid.mk' (keptH_any l (some ⟨bF, 0, none⟩) p cF cap V6 (by have := HK.out; omega) HF6.out (HI.out V6 HB6.out))
  rw [HK.out, HLen.out] at HKp
  go_wp2_with (go_at_call 40; fail)
  refine Calls.mono HKp.out ?_
  rintro e V7 ⟨rfl, hb7⟩
  have hs7 := HS6.out.later hb7
  have hs7' : Sep w V7 ([rdP ⟨g0, g0, .slice none 0 0, .slice none 0 0, .slice none 0 0⟩ (rNew n []), dkP L0 (newV n)] ++ lsP celRow 85 1025 ⟨some ⟨bF, 0, none⟩, cF, lentH l⟩ :: [boxP a8 (.cells #[.pointer none, .pointer none] 27), boxP a7 (.cells #[.pointer none, .pointer none] 25), boxP a5 (.cells #[.pointer none, .pointer none] 27), boxP a4 (.cells #[.pointer none, .pointer none] 25), boxP W.heap.size (.cells #[.int .i64 space, .slice p K cap] 32)]) := hs7
  have hs7q := hs7'.perm List.perm_middle
  have ho7 : V7.ownsRow 0 85 1025 (.slice (some ⟨bF, 0, none⟩) (lentH l).length cF) (lentH l).length ((lentH l).flatMap celRow) := hs7q.head
  have hov := overH_any (n := K + 6) (by rw [← HLen.out]; exact ho7) HLen.out (by omega)
  have HS7 := Hid.mk' hs7q
  have HOv := Hid.mk' hov
  clear hs7 hs7' hs7q ho7 hov hb7 HKp HS6 HB6 HF6 hi6 c6
  go_wp2_with (go_at_call 41; fail)
  refine Calls.mono HOv.out ?_
  rintro e V8 ⟨rfl, hf8⟩
  have hs8 : Sep w V8 ([rdP ⟨g0, g0, .slice none 0 0, .slice none 0 0, .slice none 0 0⟩ (rNew n []), dkP L0 (newV n)] ++ [boxP a8 (.cells #[.pointer none, .pointer none] 27), boxP a7 (.cells #[.pointer none, .pointer none] 25), boxP a5 (.cells #[.pointer none, .pointer none] 27), boxP a4 (.cells #[.pointer none, .pointer none] 25), boxP W.heap.size (.cells #[.int .i64 space, .slice p K cap] 32)]) := HS7.out.after hf8 fun k q => by
    subst q
    rfl
  have HS8 := Hid.mk' hs8
  clear hf8 hs8 HOv HS7
  have hz1 : Sep w V8 (boxP a8 (.cells #[.pointer none, .pointer none] 27) :: ([rdP ⟨g0, g0, .slice none 0 0, .slice none 0 0, .slice none 0 0⟩ (rNew n []), dkP L0 (newV n)] ++ [boxP a7 (.cells #[.pointer none, .pointer none] 25), boxP a5 (.cells #[.pointer none, .pointer none] 27), boxP a4 (.cells #[.pointer none, .pointer none] 25), boxP W.heap.size (.cells #[.int .i64 space, .slice p K cap] 32)])) := HS8.out.perm (List.perm_middle (l₁ := [rdP ⟨g0, g0, .slice none 0 0, .slice none 0 0, .slice none 0 0⟩ (rNew n []), dkP L0 (newV n)]))
  have hz2 : Sep w V8 (boxP a7 (.cells #[.pointer none, .pointer none] 25) :: ([boxP a8 (.cells #[.pointer none, .pointer none] 27), rdP ⟨g0, g0, .slice none 0 0, .slice none 0 0, .slice none 0 0⟩ (rNew n []), dkP L0 (newV n)] ++ [boxP a5 (.cells #[.pointer none, .pointer none] 27), boxP a4 (.cells #[.pointer none, .pointer none] 25), boxP W.heap.size (.cells #[.int .i64 space, .slice p K cap] 32)])) := hz1.perm (List.perm_middle (l₁ := [boxP a8 (.cells #[.pointer none, .pointer none] 27), rdP ⟨g0, g0, .slice none 0 0, .slice none 0 0, .slice none 0 0⟩ (rNew n []), dkP L0 (newV n)]))
  have c70 : V8.cell? ⟨a7, 0, none⟩ = some (.pointer none) := Joins.cell_of_block (show V8.heap[a7]? = some (.cells #[.pointer none, .pointer none] 25) from hz2.head) 0
  have f70 : V8.frozen? ⟨a7, 0, none⟩ = false := Joins.unfrozen_of_block (show V8.heap[a7]? = some (.cells #[.pointer none, .pointer none] 25) from hz2.head) 0
  have hz3 := setBoxS hz2 0 (.pointer (some ⟨L0.d, 0, none⟩))
  have c71 : (V8.setCell ⟨a7, 0, none⟩ (.pointer (some ⟨L0.d, 0, none⟩))).cell? ⟨a7, 1, none⟩ = some (.pointer none) := Joins.cell_of_block hz3.head 1
  have f71 : (V8.setCell ⟨a7, 0, none⟩ (.pointer (some ⟨L0.d, 0, none⟩))).frozen? ⟨a7, 1, none⟩ = false := Joins.unfrozen_of_block hz3.head 1
  have hz4 : Sep w ((V8.setCell ⟨a7, 0, none⟩ (.pointer (some ⟨L0.d, 0, none⟩))).setCell ⟨a7, 1, none⟩ (.pointer none)) (boxP a7 (.cells #[.pointer (some ⟨L0.d, 0, none⟩), .pointer none] 25) :: ([boxP a8 (.cells #[.pointer none, .pointer none] 27), rdP ⟨g0, g0, .slice none 0 0, .slice none 0 0, .slice none 0 0⟩ (rNew n []), dkP L0 (newV n)] ++ [boxP a5 (.cells #[.pointer none, .pointer none] 27), boxP a4 (.cells #[.pointer none, .pointer none] 25), boxP W.heap.size (.cells #[.int .i64 space, .slice p K cap] 32)])) := setBoxS hz3 1 (.pointer none)
  have HZ4 := Hid.mk' hz4
  clear hz1 hz2 hz3 hz4 HS8
  go_upto_region 12 with fail
  clear c70 f70 c71 f71
  generalize (V8.setCell ⟨a7, 0, none⟩ (.pointer (some ⟨L0.d, 0, none⟩))).setCell ⟨a7, 1, none⟩ (.pointer none) = V9 at *
  have hz2 : Sep w V9 (boxP a8 (.cells #[.pointer none, .pointer none] 27) :: boxP a7 (.cells #[.pointer (some ⟨L0.d, 0, none⟩), .pointer none] 25) :: ([rdP ⟨g0, g0, .slice none 0 0, .slice none 0 0, .slice none 0 0⟩ (rNew n []), dkP L0 (newV n)] ++ [boxP a5 (.cells #[.pointer none, .pointer none] 27), boxP a4 (.cells #[.pointer none, .pointer none] 25), boxP W.heap.size (.cells #[.int .i64 space, .slice p K cap] 32)])) := HZ4.out.swap
  have c70 : V9.cell? ⟨a8, 0, none⟩ = some (.pointer none) := Joins.cell_of_block (show V9.heap[a8]? = some (.cells #[.pointer none, .pointer none] 27) from hz2.head) 0
  have f70 : V9.frozen? ⟨a8, 0, none⟩ = false := Joins.unfrozen_of_block (show V9.heap[a8]? = some (.cells #[.pointer none, .pointer none] 27) from hz2.head) 0
  have hz3 := setBoxS hz2 0 (.pointer (some ⟨g0, 0, none⟩))
  have c71 : (V9.setCell ⟨a8, 0, none⟩ (.pointer (some ⟨g0, 0, none⟩))).cell? ⟨a8, 1, none⟩ = some (.pointer none) := Joins.cell_of_block hz3.head 1
  have f71 : (V9.setCell ⟨a8, 0, none⟩ (.pointer (some ⟨g0, 0, none⟩))).frozen? ⟨a8, 1, none⟩ = false := Joins.unfrozen_of_block hz3.head 1
  have hz4 : Sep w ((V9.setCell ⟨a8, 0, none⟩ (.pointer (some ⟨g0, 0, none⟩))).setCell ⟨a8, 1, none⟩ (.pointer none)) (boxP a8 (.cells #[.pointer (some ⟨g0, 0, none⟩), .pointer none] 27) :: boxP a7 (.cells #[.pointer (some ⟨L0.d, 0, none⟩), .pointer none] 25) :: ([rdP ⟨g0, g0, .slice none 0 0, .slice none 0 0, .slice none 0 0⟩ (rNew n []), dkP L0 (newV n)] ++ [boxP a5 (.cells #[.pointer none, .pointer none] 27), boxP a4 (.cells #[.pointer none, .pointer none] 25), boxP W.heap.size (.cells #[.int .i64 space, .slice p K cap] 32)])) := setBoxS hz3 1 (.pointer none)
  have HZ5 := Hid.mk' hz4
  clear hz2 hz3 hz4 HZ4
  go_upto_region 13 with fail
  clear c70 f70 c71 f71
  generalize (V9.setCell ⟨a8, 0, none⟩ (.pointer (some ⟨g0, 0, none⟩))).setCell ⟨a8, 1, none⟩ (.pointer none) = V10 at *
  have k8 : V10.heap[a8]? = some (.cells #[.pointer (some ⟨g0, 0, none⟩), .pointer none] 27) := HZ5.out.at (List.mem_cons_self ..)
  have k7 : V10.heap[a7]? = some (.cells #[.pointer (some ⟨L0.d, 0, none⟩), .pointer none] 25) := HZ5.out.at (List.mem_cons_of_mem _ (List.mem_cons_self ..))
  have k5 : V10.heap[a5]? = some (.cells #[.pointer none, .pointer none] 27) := HZ5.out.at (by simp)
  have k4 : V10.heap[a4]? = some (.cells #[.pointer none, .pointer none] 25) := HZ5.out.at (by simp)
  have hy0 : Sep w V10.drew (boxP a5 (.cells #[.pointer none, .pointer none] 27) :: ([boxP a8 (.cells #[.pointer (some ⟨g0, 0, none⟩), .pointer none] 27), boxP a7 (.cells #[.pointer (some ⟨L0.d, 0, none⟩), .pointer none] 25), rdP ⟨g0, g0, .slice none 0 0, .slice none 0 0, .slice none 0 0⟩ (rNew n []), dkP L0 (newV n)] ++ [boxP a4 (.cells #[.pointer none, .pointer none] 25), boxP W.heap.size (.cells #[.int .i64 space, .slice p K cap] 32)])) := (HZ5.out.later (show Below V10.heap.size V10 V10.drew from ⟨rfl, rfl, rfl, Nat.le_refl _, fun _ _ => rfl⟩)).perm (List.perm_middle (l₁ := [boxP a8 (.cells #[.pointer (some ⟨g0, 0, none⟩), .pointer none] 27), boxP a7 (.cells #[.pointer (some ⟨L0.d, 0, none⟩), .pointer none] 25), rdP ⟨g0, g0, .slice none 0 0, .slice none 0 0, .slice none 0 0⟩ (rNew n []), dkP L0 (newV n)]))
  have hy1 : Sep w V10.drew (boxP a4 (.cells #[.pointer none, .pointer none] 25) :: ([boxP a5 (.cells #[.pointer none, .pointer none] 27), boxP a8 (.cells #[.pointer (some ⟨g0, 0, none⟩), .pointer none] 27), boxP a7 (.cells #[.pointer (some ⟨L0.d, 0, none⟩), .pointer none] 25), rdP ⟨g0, g0, .slice none 0 0, .slice none 0 0, .slice none 0 0⟩ (rNew n []), dkP L0 (newV n)] ++ [boxP W.heap.size (.cells #[.int .i64 space, .slice p K cap] 32)])) := hy0.perm (List.perm_middle (l₁ := [boxP a5 (.cells #[.pointer none, .pointer none] 27), boxP a8 (.cells #[.pointer (some ⟨g0, 0, none⟩), .pointer none] 27), boxP a7 (.cells #[.pointer (some ⟨L0.d, 0, none⟩), .pointer none] 25), rdP ⟨g0, g0, .slice none 0 0, .slice none 0 0, .slice none 0 0⟩ (rNew n []), dkP L0 (newV n)]))
  have HY := Hid.mk' hy1
  clear hy0 hy1
  refine wp_region_ord (S := fun u => u.heap[a7]? = some (.cells #[.pointer (some ⟨L0.d, 0, none⟩), .pointer none] 25) ∧ u.heap[a8]? = some (.cells #[.pointer (some ⟨g0, 0, none⟩), .pointer none] 27)) [(0, true), (1, true), (2, false), (3, false), (4, true)]
    (by kernel_rfl) rfl (by kernel_rfl) (fun d _ _ _ _ h => by cases d <;> exact h) ⟨k7, k8⟩ ?_
  generalize V10.drew = V11 at *
  simp only [inOrd, List.getElem?_cons_zero, List.getElem?_cons_succ]
  refine wpOrd_yield (v := .agg #[.pointer (some ⟨L0.d, 0, none⟩), .pointer none]) rfl (fun u hu => exec_ldRow 25 Try.underlying25 rfl rfl rfl (size25r _ _) hu.1) ?_
  simp only [Act.put, List.setIfInBounds_toArray, List.set_cons_succ, List.set_cons_zero]
  refine wpOrd_yield (v := .agg #[.pointer (some ⟨g0, 0, none⟩), .pointer none]) rfl (fun u hu => exec_ldRow 27 Try.underlying27 rfl rfl rfl (size27r _ _) hu.2) ?_
  simp only [Act.put, List.setIfInBounds_toArray, List.set_cons_succ, List.set_cons_zero]
  have hx1 := setRowS (us := #[.pointer (some ⟨L0.d, 0, none⟩), .pointer none]) HY.out
  have j8 := hx1.at (b := a8) (o := .cells #[.pointer (some ⟨g0, 0, none⟩), .pointer none] 27) (by simp)
  have j7 := hx1.at (b := a7) (o := .cells #[.pointer (some ⟨L0.d, 0, none⟩), .pointer none] 25) (by simp)
  have j5 := hx1.at (b := a5) (o := .cells #[.pointer none, .pointer none] 27) (by simp)
  refine wpOrd_do (w' := V11.setRow a4 #[.pointer (some ⟨L0.d, 0, none⟩), .pointer none]) rfl (exec_stRow (c0 := #[.pointer none, .pointer none]) 25 rfl rfl rfl (size25r _ _) rfl (by simp [Value.oneCell']) (HY.out.at (List.mem_cons_self ..))) ⟨j7, j8⟩ ?_
  have hx2 := setRowS (us := #[.pointer (some ⟨g0, 0, none⟩), .pointer none]) hx1.swap
  have i8 := hx2.at (b := a8) (o := .cells #[.pointer (some ⟨g0, 0, none⟩), .pointer none] 27) (by simp)
  have i7 := hx2.at (b := a7) (o := .cells #[.pointer (some ⟨L0.d, 0, none⟩), .pointer none] 25) (by simp)
  have i5 := hx2.at (b := a5) (o := .cells #[.pointer (some ⟨g0, 0, none⟩), .pointer none] 27) (by simp)
  have i4 := hx2.at (b := a4) (o := .cells #[.pointer (some ⟨L0.d, 0, none⟩), .pointer none] 25) (by simp)
  simp only [Act.put]
  refine wpOrd_do (w' := (V11.setRow a4 #[.pointer (some ⟨L0.d, 0, none⟩), .pointer none]).setRow a5 #[.pointer (some ⟨g0, 0, none⟩), .pointer none]) rfl (exec_stRow (c0 := #[.pointer none, .pointer none]) 27 rfl rfl rfl (size27r _ _) rfl (by simp [Value.oneCell']) j5) ⟨i7, i8⟩ ?_
  have HX := Hid.mk' hx2
  have HI4 := Hid.mk' i4
  have HI5 := Hid.mk' i5
  clear hx1 hx2 j8 j7 j5 i8 i7 i5 i4 HY k8 k7 k5 k4 HZ5
  generalize (V11.setRow a4 #[.pointer (some ⟨L0.d, 0, none⟩), .pointer none]).setRow a5 #[.pointer (some ⟨g0, 0, none⟩), .pointer none] = V12 at *
  simp only [Act.put]
  refine wpOrd_yield (v := .bool true) rfl (fun u _ => by go_simp) ?_
  simp only [Act.put, List.setIfInBounds_toArray, List.set_cons_succ, List.set_cons_zero]
  refine wpOrd_nil ?_
  try simp only [Act.put]
  have HP : Hid (TwoP w (.pointer (some ⟨L0.d, 0, none⟩)) (.pointer none) (.pointer (some ⟨g0, 0, none⟩)) (.pointer none) V12) := ⟨some (L0, ⟨g0, g0, .slice none 0 0, .slice none 0 0, .slice none 0 0⟩, newV n, rNew n []), none, ⟨rfl, rfl, rfl, rfl⟩, (show Sep w V12 [rdP ⟨g0, g0, .slice none 0 0, .slice none 0 0, .slice none 0 0⟩ (rNew n []), dkP L0 (newV n)] from HX.out.sub (.cons _ (.cons _ (.cons _ (.cons _ (.cons_cons _ (.cons_cons _ (List.nil_sublist _)))))))).swap, (fun L R s t q => by cases q; exact sim_made), (fun L R s t q => by cases q)⟩
  clear HX
  go_wp2
  exact retCCT rfl rfl rfl rfl HI4.out HI5.out Try.underlying25 rfl (size25r _ _) Try.underlying27 rfl (size27r _ _) rfl ⟨_, _, _, _, rfl, HP.out⟩
set_option maxRecDepth 20000 in
set_option maxHeartbeats 4000000 in
theorem two_01 {w : World} (n space : Int) (p : Option Addr) (cap : Nat) (l : List Cel) (W : World) (hb : Below w.heap.size w W) (hl : l.length ≤ 1500000) (hI : LiesE celRow 1025 W p l) (hcan : ∀ c ∈ l, Can c.2) (hn : bndB n = false) (hm : mayB space l = true) :
    Calls Try.prog 9 #[.int .i64 n, .agg #[.int .i64 space, .slice p l.length cap]] W fun e W' => ∃ a b c d, e = .returned (.tuple #[.agg #[a, b], .agg #[c, d], .bool true]) ∧ TwoP w a b c d W' := by
  have hs0 := two_boxes hb (.cells #[.int .i64 space, .slice p l.length cap] 32) (.cells #[.pointer none, .pointer none] 25) (.cells #[.pointer none, .pointer none] 27) (.cells #[.pointer none, .pointer none] 25) (.cells #[.pointer none, .pointer none] 27)
  obtain ⟨K, hK⟩ : ∃ K, l.length = K := ⟨_, rfl⟩
  have HK := Hid.mk' hK
  have hlen : (lentH l).length = K + 6 := by unfold lentH; rw [List.length_append, mks_len, hK]
  have HI : Hid (∀ V, Below W.heap.size W V → LiesE celRow 1025 V p l) := fun V hV => hI.later hV
  have HW : Hid (∀ V, Below w.heap.size w V → True) := fun _ _ => trivial
  have HLen := Hid.mk' hlen
  have HCan := Hid.mk' hcan
  have hbW : ∀ o1 o2 o3 o4 o5, Below W.heap.size W (((((W.alloc o1).alloc o2).alloc o3).alloc o4).alloc o5) := fun o1 o2 o3 o4 o5 => below_next (below_next (below_next (below_next (below_new _ _) (below_new _ _)) (below_new _ _)) (below_new _ _)) (below_new _ _)
  have HB0 := Hid.mk' (hbW (.cells #[.int .i64 space, .slice p l.length cap] 32) (.cells #[.pointer none, .pointer none] 25) (.cells #[.pointer none, .pointer none] 27) (.cells #[.pointer none, .pointer none] 25) (.cells #[.pointer none, .pointer none] 27))
  have HS0 := Hid.mk' hs0
  rw [hK] at HS0 HB0 hl ⊢
  clear hs0 hI hcan hK hlen hbW hb HW
  go_enter Try.func9, Try.ntmps9
  have c1 := Joins.cell_of_block (HS0.out.at (b := W.heap.size) (o := .cells #[.int .i64 space, .slice p K cap] 32) (by simp)) 1
  go_wp2_with (go_at_call 38; fail)
  clear c1
  generalize World.alloc _ _ = V0 at *
  generalize W.heap.size + 1 + 1 + 1 + 1 = a8 at *
  generalize W.heap.size + 1 + 1 + 1 = a7 at *
  generalize W.heap.size + 1 + 1 = a5 at *
  generalize W.heap.size + 1 = a4 at *
  have HL := Hid.mk' (lentH_any l p cap V0 (by have := HK.out; omega) (HI.out V0 HB0.out))
  rw [HK.out, HLen.out] at HL
  refine Calls.mono HL.out ?_
  rintro e V1 ⟨vF, rfl, ho1, hb1⟩
  rcases own_form ho1 with ⟨-, q⟩ | ⟨bF, cF, rfl, -⟩
  · omega
  have hcF : K + 6 ≤ cF := (own_heap ho1).2.1
  have hcF2 : ¬ cF < K := by omega
  have hcF3 : K ≤ cF := by omega
  have hcF4 : ¬ ((K : Int) < 0) := by omega
  have ho1' : V1.ownsRow V0.heap.size 85 1025 (.slice (some ⟨bF, 0, none⟩) (lentH l).length cF) (lentH l).length ((lentH l).flatMap celRow) := by rw [HLen.out]; exact ho1
  have hs1 := HS0.out.list (x := ⟨some ⟨bF, 0, none⟩, cF, lentH l⟩) (en := celRow) hb1 ho1'
  have HS1 := Hid.mk' hs1
  have HB1 := Hid.mk' (below_next HB0.out hb1)
  have HF1 := Hid.mk' (own_lies celRow_len ho1')
  clear ho1 ho1' hb1 hs1 HL HS0 HB0
  go_wp2_with (go_at_call 30; fail)
  refine (new_bad hn V1).mono ?_
  rintro e V2 ⟨rfl, hv2⟩
  subst hv2
  have HS2 := HS1
  have HB2 := HB1
  have HF2 := HF1
  clear HS1 HB1 HF1
  go_wp2
  have HSd : Hid (V2.drew.heap[W.heap.size]? = some (.cells #[.int .i64 space, .slice p K cap] 32)) := HS2.out.at (b := W.heap.size) (o := .cells #[.int .i64 space, .slice p K cap] 32) (by simp)
  refine wp_region_ord (S := fun u => u.heap[W.heap.size]? = some (.cells #[.int .i64 space, .slice p K cap] 32)) [(0, true), (1, true), (2, true), (3, true), (4, true), (5, true), (6, true), (7, true), (8, false), (9, true), (10, true), (11, true), (12, true), (13, true)]
    (by kernel_rfl) rfl (by kernel_rfl) (fun d _ _ _ _ h => by cases d <;> exact h) HSd.out ?_
  have HS3 := Hid.mk' (HS2.out.later (show Below V2.heap.size V2 V2.drew from ⟨rfl, rfl, rfl, Nat.le_refl _, fun _ _ => rfl⟩))
  have HB3 := Hid.mk' (below_next HB2.out (show Below V2.heap.size V2 V2.drew from ⟨rfl, rfl, rfl, Nat.le_refl _, fun _ _ => rfl⟩))
  have HF3 : Hid (LiesE celRow 1025 V2.drew (some ⟨bF, 0, none⟩) (lentH l)) := HF2.out
  clear HS2 HB2 HF2 HSd
  generalize V2.drew = V3 at *
  simp only [inOrd, List.getElem?_cons_zero, List.getElem?_cons_succ]
  refine wpOrd_yield (v := .pointer (some ⟨W.heap.size, 0, none⟩)) rfl (fun u _ => by go_simp) ?_
  simp only [Act.put, List.setIfInBounds_toArray, List.set_cons_succ, List.set_cons_zero]
  refine wpOrd_yield (v := .int .i64 space) rfl (fun u hu => by have hq := Joins.cell_of_block hu 0; go_simp) ?_
  simp only [Act.put, List.setIfInBounds_toArray, List.set_cons_succ, List.set_cons_zero]
  refine wpOrd_yield (v := .slice (some ⟨bF, 0, none⟩) (K + 6) cF) rfl (fun u _ => exec_mv rfl rfl) ?_
  simp only [Act.put, List.setIfInBounds_toArray, List.set_cons_succ, List.set_cons_zero]
  refine wpOrd_yield (v := .pointer (some ⟨W.heap.size, 1, none⟩)) rfl (fun u _ => by go_simp) ?_
  simp only [Act.put, List.setIfInBounds_toArray, List.set_cons_succ, List.set_cons_zero]
  refine wpOrd_yield (v := .slice p K cap) rfl (fun u hu => by have hq := Joins.cell_of_block hu 1; go_simp) ?_
  simp only [Act.put, List.setIfInBounds_toArray, List.set_cons_succ, List.set_cons_zero]
  refine wpOrd_yield (v := .int .i64 (K : Int)) rfl (fun u _ => by go_simp) ?_
  simp only [Act.put, List.setIfInBounds_toArray, List.set_cons_succ, List.set_cons_zero]
  refine wpOrd_yield (v := .slice (some ⟨bF, 0, none⟩) K cF) rfl (fun u _ => by go_simp) ?_
  simp only [Act.put, List.setIfInBounds_toArray, List.set_cons_succ, List.set_cons_zero]
  refine wpOrd_yield (v := .agg #[.int .i64 space, .slice (some ⟨bF, 0, none⟩) K cF]) rfl (fun u _ => by go_simp) ?_
  simp only [Act.put, List.setIfInBounds_toArray, List.set_cons_succ, List.set_cons_zero]
  have hq := load_ok space l (some ⟨bF, 0, none⟩) cF V3 (by have := HK.out; omega) (lies_img (lies_prefix HF3.out)) HCan.out hm
  rw [HK.out] at hq
  refine wpOrd_call rfl 15 _ _ rfl Try.call15 [.agg #[.int .i64 space, .slice (some ⟨bF, 0, none⟩) K cF]] rfl ?_
  refine hq.mono ?_
  rintro e V4 ⟨L1, rfl, hD1, hL1, hb4⟩
  have HS4 := Hid.mk' (HS3.out.disk hb4 hD1 hL1)
  have HB4 := Hid.mk' (below_next HB3.out hb4)
  have HF4 := Hid.mk' (HF3.out.later hb4)
  have hi4 := HS4.out.at (b := W.heap.size) (o := .cells #[.int .i64 space, .slice p K cap] 32) (by simp)
  clear hD1 hL1 hb4 hq HS3 HB3 HF3
  refine ⟨_, rfl, hi4, ?_⟩
  simp only [Act.put, List.setIfInBounds_toArray, List.set_cons_succ, List.set_cons_zero]
  refine wpOrd_yield (v := .tuple #[.pointer (some ⟨L1.d, 0, none⟩), .int .i64 0]) rfl (fun u _ => exec_mv rfl rfl) ?_
  simp only [Act.put, List.setIfInBounds_toArray, List.set_cons_succ, List.set_cons_zero]
  refine wpOrd_yield (v := .pointer (some ⟨L1.d, 0, none⟩)) rfl (fun u _ => by go_simp) ?_
  simp only [Act.put, List.setIfInBounds_toArray, List.set_cons_succ, List.set_cons_zero]
  refine wpOrd_yield (v := .int .i64 0) rfl (fun u _ => by go_simp) ?_
  simp only [Act.put, List.setIfInBounds_toArray, List.set_cons_succ, List.set_cons_zero]
  refine wpOrd_yield (v := .pointer (some ⟨L1.d, 0, none⟩)) rfl (fun u _ => by go_simp) ?_
  simp only [Act.put, List.setIfInBounds_toArray, List.set_cons_succ, List.set_cons_zero]
  refine wpOrd_yield (v := .int .i64 0) rfl (fun u _ => by go_simp) ?_
  simp only [Act.put, List.setIfInBounds_toArray, List.set_cons_succ, List.set_cons_zero]
  refine wpOrd_nil ?_
  try simp only [Act.put]
  go_wp2_with (go_at_call 39; fail)
  have hnn : n < 1 ∨ 1048576 < n := by have q := of_decide_eq_false hn; omega
  refine (rNew_bad n V4 hnn).mono ?_
  rintro e V5 ⟨rfl, hv5⟩
  subst hv5
  have HS5 := HS4
  have HB5 := HB4
  have HF5 := HF4
  clear HS4 HB4 HF4 hi4
  have hi5 := HS5.out.at (b := W.heap.size) (o := .cells #[.int .i64 space, .slice p K cap] 32) (by simp)
  have HRL := Hid.mk' (refLoad_made space l p cap V5 (by have := HK.out; omega) (lies_img (HI.out V5 HB5.out)) hm)
  rw [HK.out] at HRL
  go_wp2_with (first | (with_reducible refine isLoadB 32 ?_; refine wpList_ldR 32 Try.underlying32 rfl rfl (.tmp 3) rfl W.heap.size rfl _ 32 (0, 0) (by kernel_rfl) hi5 ?_) | (go_at_call 16; fail))
  refine Calls.mono HRL.out ?_
  rintro e V6 ⟨g1, hv1, rfl, hR1, hb6⟩
  have HS6 := Hid.mk' (HS5.out.ref hb6 hR1)
  have HB6 := Hid.mk' (below_next HB5.out hb6)
  have HF6 := Hid.mk' (HF5.out.later hb6)
  have hi6 := HS6.out.at (b := W.heap.size) (o := .cells #[.int .i64 space, .slice p K cap] 32) (by simp)
  have c6 := Joins.cell_of_block hi6 1
  clear hR1 hb6 HRL HS5 HB5 HF5 hi5
  have HKp := Hid.mk' (keptH_any l (some ⟨bF, 0, none⟩) p cF cap V6 (by have := HK.out; omega) HF6.out (HI.out V6 HB6.out))
  rw [HK.out, HLen.out] at HKp
  go_wp2_with (go_at_call 40; fail)
  refine Calls.mono HKp.out ?_
  rintro e V7 ⟨rfl, hb7⟩
  have hs7 := HS6.out.later hb7
  have hs7' : Sep w V7 ([rdP ⟨V5.heap.size, g1, hv1, .slice none 0 0, .slice none 0 0⟩ (rNew space l), dkP L1 (loadV space l)] ++ lsP celRow 85 1025 ⟨some ⟨bF, 0, none⟩, cF, lentH l⟩ :: [boxP a8 (.cells #[.pointer none, .pointer none] 27), boxP a7 (.cells #[.pointer none, .pointer none] 25), boxP a5 (.cells #[.pointer none, .pointer none] 27), boxP a4 (.cells #[.pointer none, .pointer none] 25), boxP W.heap.size (.cells #[.int .i64 space, .slice p K cap] 32)]) := hs7
  have hs7q := hs7'.perm List.perm_middle
  have ho7 : V7.ownsRow 0 85 1025 (.slice (some ⟨bF, 0, none⟩) (lentH l).length cF) (lentH l).length ((lentH l).flatMap celRow) := hs7q.head
  have hov := overH_any (n := K + 6) (by rw [← HLen.out]; exact ho7) HLen.out (by omega)
  have HS7 := Hid.mk' hs7q
  have HOv := Hid.mk' hov
  clear hs7 hs7' hs7q ho7 hov hb7 HKp HS6 HB6 HF6 hi6 c6
  go_wp2_with (go_at_call 41; fail)
  refine Calls.mono HOv.out ?_
  rintro e V8 ⟨rfl, hf8⟩
  have hs8 : Sep w V8 ([rdP ⟨V5.heap.size, g1, hv1, .slice none 0 0, .slice none 0 0⟩ (rNew space l), dkP L1 (loadV space l)] ++ [boxP a8 (.cells #[.pointer none, .pointer none] 27), boxP a7 (.cells #[.pointer none, .pointer none] 25), boxP a5 (.cells #[.pointer none, .pointer none] 27), boxP a4 (.cells #[.pointer none, .pointer none] 25), boxP W.heap.size (.cells #[.int .i64 space, .slice p K cap] 32)]) := HS7.out.after hf8 fun k q => by
    subst q
    rfl
  have HS8 := Hid.mk' hs8
  clear hf8 hs8 HOv HS7
  have hz1 : Sep w V8 (boxP a8 (.cells #[.pointer none, .pointer none] 27) :: ([rdP ⟨V5.heap.size, g1, hv1, .slice none 0 0, .slice none 0 0⟩ (rNew space l), dkP L1 (loadV space l)] ++ [boxP a7 (.cells #[.pointer none, .pointer none] 25), boxP a5 (.cells #[.pointer none, .pointer none] 27), boxP a4 (.cells #[.pointer none, .pointer none] 25), boxP W.heap.size (.cells #[.int .i64 space, .slice p K cap] 32)])) := HS8.out.perm (List.perm_middle (l₁ := [rdP ⟨V5.heap.size, g1, hv1, .slice none 0 0, .slice none 0 0⟩ (rNew space l), dkP L1 (loadV space l)]))
  have hz2 : Sep w V8 (boxP a7 (.cells #[.pointer none, .pointer none] 25) :: ([boxP a8 (.cells #[.pointer none, .pointer none] 27), rdP ⟨V5.heap.size, g1, hv1, .slice none 0 0, .slice none 0 0⟩ (rNew space l), dkP L1 (loadV space l)] ++ [boxP a5 (.cells #[.pointer none, .pointer none] 27), boxP a4 (.cells #[.pointer none, .pointer none] 25), boxP W.heap.size (.cells #[.int .i64 space, .slice p K cap] 32)])) := hz1.perm (List.perm_middle (l₁ := [boxP a8 (.cells #[.pointer none, .pointer none] 27), rdP ⟨V5.heap.size, g1, hv1, .slice none 0 0, .slice none 0 0⟩ (rNew space l), dkP L1 (loadV space l)]))
  have c70 : V8.cell? ⟨a7, 0, none⟩ = some (.pointer none) := Joins.cell_of_block (show V8.heap[a7]? = some (.cells #[.pointer none, .pointer none] 25) from hz2.head) 0
  have f70 : V8.frozen? ⟨a7, 0, none⟩ = false := Joins.unfrozen_of_block (show V8.heap[a7]? = some (.cells #[.pointer none, .pointer none] 25) from hz2.head) 0
  have hz3 := setBoxS hz2 0 (.pointer none)
  have c71 : (V8.setCell ⟨a7, 0, none⟩ (.pointer none)).cell? ⟨a7, 1, none⟩ = some (.pointer none) := Joins.cell_of_block hz3.head 1
  have f71 : (V8.setCell ⟨a7, 0, none⟩ (.pointer none)).frozen? ⟨a7, 1, none⟩ = false := Joins.unfrozen_of_block hz3.head 1
  have hz4 : Sep w ((V8.setCell ⟨a7, 0, none⟩ (.pointer none)).setCell ⟨a7, 1, none⟩ (.pointer (some ⟨L1.d, 0, none⟩))) (boxP a7 (.cells #[.pointer none, .pointer (some ⟨L1.d, 0, none⟩)] 25) :: ([boxP a8 (.cells #[.pointer none, .pointer none] 27), rdP ⟨V5.heap.size, g1, hv1, .slice none 0 0, .slice none 0 0⟩ (rNew space l), dkP L1 (loadV space l)] ++ [boxP a5 (.cells #[.pointer none, .pointer none] 27), boxP a4 (.cells #[.pointer none, .pointer none] 25), boxP W.heap.size (.cells #[.int .i64 space, .slice p K cap] 32)])) := setBoxS hz3 1 (.pointer (some ⟨L1.d, 0, none⟩))
  have HZ4 := Hid.mk' hz4
  clear hz1 hz2 hz3 hz4 HS8
  go_upto_region 12 with fail
  clear c70 f70 c71 f71
  generalize (V8.setCell ⟨a7, 0, none⟩ (.pointer none)).setCell ⟨a7, 1, none⟩ (.pointer (some ⟨L1.d, 0, none⟩)) = V9 at *
  have hz2 : Sep w V9 (boxP a8 (.cells #[.pointer none, .pointer none] 27) :: boxP a7 (.cells #[.pointer none, .pointer (some ⟨L1.d, 0, none⟩)] 25) :: ([rdP ⟨V5.heap.size, g1, hv1, .slice none 0 0, .slice none 0 0⟩ (rNew space l), dkP L1 (loadV space l)] ++ [boxP a5 (.cells #[.pointer none, .pointer none] 27), boxP a4 (.cells #[.pointer none, .pointer none] 25), boxP W.heap.size (.cells #[.int .i64 space, .slice p K cap] 32)])) := HZ4.out.swap
  have c70 : V9.cell? ⟨a8, 0, none⟩ = some (.pointer none) := Joins.cell_of_block (show V9.heap[a8]? = some (.cells #[.pointer none, .pointer none] 27) from hz2.head) 0
  have f70 : V9.frozen? ⟨a8, 0, none⟩ = false := Joins.unfrozen_of_block (show V9.heap[a8]? = some (.cells #[.pointer none, .pointer none] 27) from hz2.head) 0
  have hz3 := setBoxS hz2 0 (.pointer none)
  have c71 : (V9.setCell ⟨a8, 0, none⟩ (.pointer none)).cell? ⟨a8, 1, none⟩ = some (.pointer none) := Joins.cell_of_block hz3.head 1
  have f71 : (V9.setCell ⟨a8, 0, none⟩ (.pointer none)).frozen? ⟨a8, 1, none⟩ = false := Joins.unfrozen_of_block hz3.head 1
  have hz4 : Sep w ((V9.setCell ⟨a8, 0, none⟩ (.pointer none)).setCell ⟨a8, 1, none⟩ (.pointer (some ⟨g1, 0, none⟩))) (boxP a8 (.cells #[.pointer none, .pointer (some ⟨g1, 0, none⟩)] 27) :: boxP a7 (.cells #[.pointer none, .pointer (some ⟨L1.d, 0, none⟩)] 25) :: ([rdP ⟨V5.heap.size, g1, hv1, .slice none 0 0, .slice none 0 0⟩ (rNew space l), dkP L1 (loadV space l)] ++ [boxP a5 (.cells #[.pointer none, .pointer none] 27), boxP a4 (.cells #[.pointer none, .pointer none] 25), boxP W.heap.size (.cells #[.int .i64 space, .slice p K cap] 32)])) := setBoxS hz3 1 (.pointer (some ⟨g1, 0, none⟩))
  have HZ5 := Hid.mk' hz4
  clear hz2 hz3 hz4 HZ4
  go_upto_region 13 with fail
  clear c70 f70 c71 f71
  generalize (V9.setCell ⟨a8, 0, none⟩ (.pointer none)).setCell ⟨a8, 1, none⟩ (.pointer (some ⟨g1, 0, none⟩)) = V10 at *
  have k8 : V10.heap[a8]? = some (.cells #[.pointer none, .pointer (some ⟨g1, 0, none⟩)] 27) := HZ5.out.at (List.mem_cons_self ..)
  have k7 : V10.heap[a7]? = some (.cells #[.pointer none, .pointer (some ⟨L1.d, 0, none⟩)] 25) := HZ5.out.at (List.mem_cons_of_mem _ (List.mem_cons_self ..))
  have k5 : V10.heap[a5]? = some (.cells #[.pointer none, .pointer none] 27) := HZ5.out.at (by simp)
  have k4 : V10.heap[a4]? = some (.cells #[.pointer none, .pointer none] 25) := HZ5.out.at (by simp)
  have hy0 : Sep w V10.drew (boxP a5 (.cells #[.pointer none, .pointer none] 27) :: ([boxP a8 (.cells #[.pointer none, .pointer (some ⟨g1, 0, none⟩)] 27), boxP a7 (.cells #[.pointer none, .pointer (some ⟨L1.d, 0, none⟩)] 25), rdP ⟨V5.heap.size, g1, hv1, .slice none 0 0, .slice none 0 0⟩ (rNew space l), dkP L1 (loadV space l)] ++ [boxP a4 (.cells #[.pointer none, .pointer none] 25), boxP W.heap.size (.cells #[.int .i64 space, .slice p K cap] 32)])) := (HZ5.out.later (show Below V10.heap.size V10 V10.drew from ⟨rfl, rfl, rfl, Nat.le_refl _, fun _ _ => rfl⟩)).perm (List.perm_middle (l₁ := [boxP a8 (.cells #[.pointer none, .pointer (some ⟨g1, 0, none⟩)] 27), boxP a7 (.cells #[.pointer none, .pointer (some ⟨L1.d, 0, none⟩)] 25), rdP ⟨V5.heap.size, g1, hv1, .slice none 0 0, .slice none 0 0⟩ (rNew space l), dkP L1 (loadV space l)]))
  have hy1 : Sep w V10.drew (boxP a4 (.cells #[.pointer none, .pointer none] 25) :: ([boxP a5 (.cells #[.pointer none, .pointer none] 27), boxP a8 (.cells #[.pointer none, .pointer (some ⟨g1, 0, none⟩)] 27), boxP a7 (.cells #[.pointer none, .pointer (some ⟨L1.d, 0, none⟩)] 25), rdP ⟨V5.heap.size, g1, hv1, .slice none 0 0, .slice none 0 0⟩ (rNew space l), dkP L1 (loadV space l)] ++ [boxP W.heap.size (.cells #[.int .i64 space, .slice p K cap] 32)])) := hy0.perm (List.perm_middle (l₁ := [boxP a5 (.cells #[.pointer none, .pointer none] 27), boxP a8 (.cells #[.pointer none, .pointer (some ⟨g1, 0, none⟩)] 27), boxP a7 (.cells #[.pointer none, .pointer (some ⟨L1.d, 0, none⟩)] 25), rdP ⟨V5.heap.size, g1, hv1, .slice none 0 0, .slice none 0 0⟩ (rNew space l), dkP L1 (loadV space l)]))
  have HY := Hid.mk' hy1
  clear hy0 hy1
  refine wp_region_ord (S := fun u => u.heap[a7]? = some (.cells #[.pointer none, .pointer (some ⟨L1.d, 0, none⟩)] 25) ∧ u.heap[a8]? = some (.cells #[.pointer none, .pointer (some ⟨g1, 0, none⟩)] 27)) [(0, true), (1, true), (2, false), (3, false), (4, true)]
    (by kernel_rfl) rfl (by kernel_rfl) (fun d _ _ _ _ h => by cases d <;> exact h) ⟨k7, k8⟩ ?_
  generalize V10.drew = V11 at *
  simp only [inOrd, List.getElem?_cons_zero, List.getElem?_cons_succ]
  refine wpOrd_yield (v := .agg #[.pointer none, .pointer (some ⟨L1.d, 0, none⟩)]) rfl (fun u hu => exec_ldRow 25 Try.underlying25 rfl rfl rfl (size25r _ _) hu.1) ?_
  simp only [Act.put, List.setIfInBounds_toArray, List.set_cons_succ, List.set_cons_zero]
  refine wpOrd_yield (v := .agg #[.pointer none, .pointer (some ⟨g1, 0, none⟩)]) rfl (fun u hu => exec_ldRow 27 Try.underlying27 rfl rfl rfl (size27r _ _) hu.2) ?_
  simp only [Act.put, List.setIfInBounds_toArray, List.set_cons_succ, List.set_cons_zero]
  have hx1 := setRowS (us := #[.pointer none, .pointer (some ⟨L1.d, 0, none⟩)]) HY.out
  have j8 := hx1.at (b := a8) (o := .cells #[.pointer none, .pointer (some ⟨g1, 0, none⟩)] 27) (by simp)
  have j7 := hx1.at (b := a7) (o := .cells #[.pointer none, .pointer (some ⟨L1.d, 0, none⟩)] 25) (by simp)
  have j5 := hx1.at (b := a5) (o := .cells #[.pointer none, .pointer none] 27) (by simp)
  refine wpOrd_do (w' := V11.setRow a4 #[.pointer none, .pointer (some ⟨L1.d, 0, none⟩)]) rfl (exec_stRow (c0 := #[.pointer none, .pointer none]) 25 rfl rfl rfl (size25r _ _) rfl (by simp [Value.oneCell']) (HY.out.at (List.mem_cons_self ..))) ⟨j7, j8⟩ ?_
  have hx2 := setRowS (us := #[.pointer none, .pointer (some ⟨g1, 0, none⟩)]) hx1.swap
  have i8 := hx2.at (b := a8) (o := .cells #[.pointer none, .pointer (some ⟨g1, 0, none⟩)] 27) (by simp)
  have i7 := hx2.at (b := a7) (o := .cells #[.pointer none, .pointer (some ⟨L1.d, 0, none⟩)] 25) (by simp)
  have i5 := hx2.at (b := a5) (o := .cells #[.pointer none, .pointer (some ⟨g1, 0, none⟩)] 27) (by simp)
  have i4 := hx2.at (b := a4) (o := .cells #[.pointer none, .pointer (some ⟨L1.d, 0, none⟩)] 25) (by simp)
  simp only [Act.put]
  refine wpOrd_do (w' := (V11.setRow a4 #[.pointer none, .pointer (some ⟨L1.d, 0, none⟩)]).setRow a5 #[.pointer none, .pointer (some ⟨g1, 0, none⟩)]) rfl (exec_stRow (c0 := #[.pointer none, .pointer none]) 27 rfl rfl rfl (size27r _ _) rfl (by simp [Value.oneCell']) j5) ⟨i7, i8⟩ ?_
  have HX := Hid.mk' hx2
  have HI4 := Hid.mk' i4
  have HI5 := Hid.mk' i5
  clear hx1 hx2 j8 j7 j5 i8 i7 i5 i4 HY k8 k7 k5 k4 HZ5
  generalize (V11.setRow a4 #[.pointer none, .pointer (some ⟨L1.d, 0, none⟩)]).setRow a5 #[.pointer none, .pointer (some ⟨g1, 0, none⟩)] = V12 at *
  simp only [Act.put]
  refine wpOrd_yield (v := .bool true) rfl (fun u _ => by go_simp) ?_
  simp only [Act.put, List.setIfInBounds_toArray, List.set_cons_succ, List.set_cons_zero]
  refine wpOrd_nil ?_
  try simp only [Act.put]
  have HP : Hid (TwoP w (.pointer none) (.pointer (some ⟨L1.d, 0, none⟩)) (.pointer none) (.pointer (some ⟨g1, 0, none⟩)) V12) := ⟨none, some (L1, ⟨V5.heap.size, g1, hv1, .slice none 0 0, .slice none 0 0⟩, loadV space l, rNew space l), ⟨rfl, rfl, rfl, rfl⟩, (show Sep w V12 [rdP ⟨V5.heap.size, g1, hv1, .slice none 0 0, .slice none 0 0⟩ (rNew space l), dkP L1 (loadV space l)] from HX.out.sub (.cons _ (.cons _ (.cons _ (.cons _ (.cons_cons _ (.cons_cons _ (List.nil_sublist _)))))))).swap, (fun L R s t q => by cases q), (fun L R s t q => by cases q; exact sim_load hm HCan.out)⟩
  clear HX
  go_wp2
  exact retCCT rfl rfl rfl rfl HI4.out HI5.out Try.underlying25 rfl (size25r _ _) Try.underlying27 rfl (size27r _ _) rfl ⟨_, _, _, _, rfl, HP.out⟩
set_option maxRecDepth 20000 in
set_option maxHeartbeats 4000000 in
theorem two_00 {w : World} (n space : Int) (p : Option Addr) (cap : Nat) (l : List Cel) (W : World) (hb : Below w.heap.size w W) (hl : l.length ≤ 1500000) (hI : LiesE celRow 1025 W p l) (hcan : ∀ c ∈ l, Can c.2) (hn : bndB n = false) (hm : mayB space l = false) :
    Calls Try.prog 9 #[.int .i64 n, .agg #[.int .i64 space, .slice p l.length cap]] W fun e W' => ∃ a b c d, e = .returned (.tuple #[.agg #[a, b], .agg #[c, d], .bool true]) ∧ TwoP w a b c d W' := by
  have hs0 := two_boxes hb (.cells #[.int .i64 space, .slice p l.length cap] 32) (.cells #[.pointer none, .pointer none] 25) (.cells #[.pointer none, .pointer none] 27) (.cells #[.pointer none, .pointer none] 25) (.cells #[.pointer none, .pointer none] 27)
  obtain ⟨K, hK⟩ : ∃ K, l.length = K := ⟨_, rfl⟩
  have HK := Hid.mk' hK
  have hlen : (lentH l).length = K + 6 := by unfold lentH; rw [List.length_append, mks_len, hK]
  have HI : Hid (∀ V, Below W.heap.size W V → LiesE celRow 1025 V p l) := fun V hV => hI.later hV
  have HW : Hid (∀ V, Below w.heap.size w V → True) := fun _ _ => trivial
  have HLen := Hid.mk' hlen
  have HCan := Hid.mk' hcan
  have hbW : ∀ o1 o2 o3 o4 o5, Below W.heap.size W (((((W.alloc o1).alloc o2).alloc o3).alloc o4).alloc o5) := fun o1 o2 o3 o4 o5 => below_next (below_next (below_next (below_next (below_new _ _) (below_new _ _)) (below_new _ _)) (below_new _ _)) (below_new _ _)
  have HB0 := Hid.mk' (hbW (.cells #[.int .i64 space, .slice p l.length cap] 32) (.cells #[.pointer none, .pointer none] 25) (.cells #[.pointer none, .pointer none] 27) (.cells #[.pointer none, .pointer none] 25) (.cells #[.pointer none, .pointer none] 27))
  have HS0 := Hid.mk' hs0
  rw [hK] at HS0 HB0 hl ⊢
  clear hs0 hI hcan hK hlen hbW hb HW
  go_enter Try.func9, Try.ntmps9
  have c1 := Joins.cell_of_block (HS0.out.at (b := W.heap.size) (o := .cells #[.int .i64 space, .slice p K cap] 32) (by simp)) 1
  go_wp2_with (go_at_call 38; fail)
  clear c1
  generalize World.alloc _ _ = V0 at *
  generalize W.heap.size + 1 + 1 + 1 + 1 = a8 at *
  generalize W.heap.size + 1 + 1 + 1 = a7 at *
  generalize W.heap.size + 1 + 1 = a5 at *
  generalize W.heap.size + 1 = a4 at *
  have HL := Hid.mk' (lentH_any l p cap V0 (by have := HK.out; omega) (HI.out V0 HB0.out))
  rw [HK.out, HLen.out] at HL
  refine Calls.mono HL.out ?_
  rintro e V1 ⟨vF, rfl, ho1, hb1⟩
  rcases own_form ho1 with ⟨-, q⟩ | ⟨bF, cF, rfl, -⟩
  · omega
  have hcF : K + 6 ≤ cF := (own_heap ho1).2.1
  have hcF2 : ¬ cF < K := by omega
  have hcF3 : K ≤ cF := by omega
  have hcF4 : ¬ ((K : Int) < 0) := by omega
  have ho1' : V1.ownsRow V0.heap.size 85 1025 (.slice (some ⟨bF, 0, none⟩) (lentH l).length cF) (lentH l).length ((lentH l).flatMap celRow) := by rw [HLen.out]; exact ho1
  have hs1 := HS0.out.list (x := ⟨some ⟨bF, 0, none⟩, cF, lentH l⟩) (en := celRow) hb1 ho1'
  have HS1 := Hid.mk' hs1
  have HB1 := Hid.mk' (below_next HB0.out hb1)
  have HF1 := Hid.mk' (own_lies celRow_len ho1')
  clear ho1 ho1' hb1 hs1 HL HS0 HB0
  go_wp2_with (go_at_call 30; fail)
  refine (new_bad hn V1).mono ?_
  rintro e V2 ⟨rfl, hv2⟩
  subst hv2
  have HS2 := HS1
  have HB2 := HB1
  have HF2 := HF1
  clear HS1 HB1 HF1
  go_wp2
  have HSd : Hid (V2.drew.heap[W.heap.size]? = some (.cells #[.int .i64 space, .slice p K cap] 32)) := HS2.out.at (b := W.heap.size) (o := .cells #[.int .i64 space, .slice p K cap] 32) (by simp)
  refine wp_region_ord (S := fun u => u.heap[W.heap.size]? = some (.cells #[.int .i64 space, .slice p K cap] 32)) [(0, true), (1, true), (2, true), (3, true), (4, true), (5, true), (6, true), (7, true), (8, false), (9, true), (10, true), (11, true), (12, true), (13, true)]
    (by kernel_rfl) rfl (by kernel_rfl) (fun d _ _ _ _ h => by cases d <;> exact h) HSd.out ?_
  have HS3 := Hid.mk' (HS2.out.later (show Below V2.heap.size V2 V2.drew from ⟨rfl, rfl, rfl, Nat.le_refl _, fun _ _ => rfl⟩))
  have HB3 := Hid.mk' (below_next HB2.out (show Below V2.heap.size V2 V2.drew from ⟨rfl, rfl, rfl, Nat.le_refl _, fun _ _ => rfl⟩))
  have HF3 : Hid (LiesE celRow 1025 V2.drew (some ⟨bF, 0, none⟩) (lentH l)) := HF2.out
  clear HS2 HB2 HF2 HSd
  generalize V2.drew = V3 at *
  simp only [inOrd, List.getElem?_cons_zero, List.getElem?_cons_succ]
  refine wpOrd_yield (v := .pointer (some ⟨W.heap.size, 0, none⟩)) rfl (fun u _ => by go_simp) ?_
  simp only [Act.put, List.setIfInBounds_toArray, List.set_cons_succ, List.set_cons_zero]
  refine wpOrd_yield (v := .int .i64 space) rfl (fun u hu => by have hq := Joins.cell_of_block hu 0; go_simp) ?_
  simp only [Act.put, List.setIfInBounds_toArray, List.set_cons_succ, List.set_cons_zero]
  refine wpOrd_yield (v := .slice (some ⟨bF, 0, none⟩) (K + 6) cF) rfl (fun u _ => exec_mv rfl rfl) ?_
  simp only [Act.put, List.setIfInBounds_toArray, List.set_cons_succ, List.set_cons_zero]
  refine wpOrd_yield (v := .pointer (some ⟨W.heap.size, 1, none⟩)) rfl (fun u _ => by go_simp) ?_
  simp only [Act.put, List.setIfInBounds_toArray, List.set_cons_succ, List.set_cons_zero]
  refine wpOrd_yield (v := .slice p K cap) rfl (fun u hu => by have hq := Joins.cell_of_block hu 1; go_simp) ?_
  simp only [Act.put, List.setIfInBounds_toArray, List.set_cons_succ, List.set_cons_zero]
  refine wpOrd_yield (v := .int .i64 (K : Int)) rfl (fun u _ => by go_simp) ?_
  simp only [Act.put, List.setIfInBounds_toArray, List.set_cons_succ, List.set_cons_zero]
  refine wpOrd_yield (v := .slice (some ⟨bF, 0, none⟩) K cF) rfl (fun u _ => by go_simp) ?_
  simp only [Act.put, List.setIfInBounds_toArray, List.set_cons_succ, List.set_cons_zero]
  refine wpOrd_yield (v := .agg #[.int .i64 space, .slice (some ⟨bF, 0, none⟩) K cF]) rfl (fun u _ => by go_simp) ?_
  simp only [Act.put, List.setIfInBounds_toArray, List.set_cons_succ, List.set_cons_zero]
  have hq := load_bad space l (some ⟨bF, 0, none⟩) cF V3 (by have := HK.out; omega) (lies_img (lies_prefix HF3.out)) hm
  rw [HK.out] at hq
  refine wpOrd_call rfl 15 _ _ rfl Try.call15 [.agg #[.int .i64 space, .slice (some ⟨bF, 0, none⟩) K cF]] rfl ?_
  refine hq.mono ?_
  rintro e V4 ⟨rfl, hb4⟩
  have HS4 := Hid.mk' (HS3.out.later hb4)
  have HB4 := Hid.mk' (below_next HB3.out hb4)
  have HF4 := Hid.mk' (HF3.out.later hb4)
  have hi4 := HS4.out.at (b := W.heap.size) (o := .cells #[.int .i64 space, .slice p K cap] 32) (by simp)
  clear hb4 hq HS3 HB3 HF3
  refine ⟨_, rfl, hi4, ?_⟩
  simp only [Act.put, List.setIfInBounds_toArray, List.set_cons_succ, List.set_cons_zero]
  refine wpOrd_yield (v := .tuple #[.pointer none, .int .i64 4]) rfl (fun u _ => exec_mv rfl rfl) ?_
  simp only [Act.put, List.setIfInBounds_toArray, List.set_cons_succ, List.set_cons_zero]
  refine wpOrd_yield (v := .pointer none) rfl (fun u _ => by go_simp) ?_
  simp only [Act.put, List.setIfInBounds_toArray, List.set_cons_succ, List.set_cons_zero]
  refine wpOrd_yield (v := .int .i64 4) rfl (fun u _ => by go_simp) ?_
  simp only [Act.put, List.setIfInBounds_toArray, List.set_cons_succ, List.set_cons_zero]
  refine wpOrd_yield (v := .pointer none) rfl (fun u _ => by go_simp) ?_
  simp only [Act.put, List.setIfInBounds_toArray, List.set_cons_succ, List.set_cons_zero]
  refine wpOrd_yield (v := .int .i64 4) rfl (fun u _ => by go_simp) ?_
  simp only [Act.put, List.setIfInBounds_toArray, List.set_cons_succ, List.set_cons_zero]
  refine wpOrd_nil ?_
  try simp only [Act.put]
  go_wp2_with (go_at_call 39; fail)
  have hnn : n < 1 ∨ 1048576 < n := by have q := of_decide_eq_false hn; omega
  refine (rNew_bad n V4 hnn).mono ?_
  rintro e V5 ⟨rfl, hv5⟩
  subst hv5
  have HS5 := HS4
  have HB5 := HB4
  have HF5 := HF4
  clear HS4 HB4 HF4 hi4
  have hi5 := HS5.out.at (b := W.heap.size) (o := .cells #[.int .i64 space, .slice p K cap] 32) (by simp)
  have HRL := Hid.mk' (refLoad_bad space l p cap V5 (by have := HK.out; omega) (lies_img (HI.out V5 HB5.out)) hm)
  rw [HK.out] at HRL
  go_wp2_with (first | (with_reducible refine isLoadB 32 ?_; refine wpList_ldR 32 Try.underlying32 rfl rfl (.tmp 3) rfl W.heap.size rfl _ 32 (0, 0) (by kernel_rfl) hi5 ?_) | (go_at_call 16; fail))
  refine Calls.mono HRL.out ?_
  rintro e V6 ⟨rfl, hb6⟩
  have HS6 := Hid.mk' (HS5.out.later hb6)
  have HB6 := Hid.mk' (below_next HB5.out hb6)
  have HF6 := Hid.mk' (HF5.out.later hb6)
  have hi6 := HS6.out.at (b := W.heap.size) (o := .cells #[.int .i64 space, .slice p K cap] 32) (by simp)
  have c6 := Joins.cell_of_block hi6 1
  clear hb6 HRL HS5 HB5 HF5 hi5
  have HKp := Hid.mk' (keptH_any l (some ⟨bF, 0, none⟩) p cF cap V6 (by have := HK.out; omega) HF6.out (HI.out V6 HB6.out))
  rw [HK.out, HLen.out] at HKp
  go_wp2_with (go_at_call 40; fail)
  refine Calls.mono HKp.out ?_
  rintro e V7 ⟨rfl, hb7⟩
  have hs7 := HS6.out.later hb7
  have hs7' : Sep w V7 ([] ++ lsP celRow 85 1025 ⟨some ⟨bF, 0, none⟩, cF, lentH l⟩ :: [boxP a8 (.cells #[.pointer none, .pointer none] 27), boxP a7 (.cells #[.pointer none, .pointer none] 25), boxP a5 (.cells #[.pointer none, .pointer none] 27), boxP a4 (.cells #[.pointer none, .pointer none] 25), boxP W.heap.size (.cells #[.int .i64 space, .slice p K cap] 32)]) := hs7
  have hs7q := hs7'.perm List.perm_middle
  have ho7 : V7.ownsRow 0 85 1025 (.slice (some ⟨bF, 0, none⟩) (lentH l).length cF) (lentH l).length ((lentH l).flatMap celRow) := hs7q.head
  have hov := overH_any (n := K + 6) (by rw [← HLen.out]; exact ho7) HLen.out (by omega)
  have HS7 := Hid.mk' hs7q
  have HOv := Hid.mk' hov
  clear hs7 hs7' hs7q ho7 hov hb7 HKp HS6 HB6 HF6 hi6 c6
  go_wp2_with (go_at_call 41; fail)
  refine Calls.mono HOv.out ?_
  rintro e V8 ⟨rfl, hf8⟩
  have hs8 : Sep w V8 ([] ++ [boxP a8 (.cells #[.pointer none, .pointer none] 27), boxP a7 (.cells #[.pointer none, .pointer none] 25), boxP a5 (.cells #[.pointer none, .pointer none] 27), boxP a4 (.cells #[.pointer none, .pointer none] 25), boxP W.heap.size (.cells #[.int .i64 space, .slice p K cap] 32)]) := HS7.out.after hf8 fun k q => by
    subst q
    rfl
  have HS8 := Hid.mk' hs8
  clear hf8 hs8 HOv HS7
  have hz1 : Sep w V8 (boxP a8 (.cells #[.pointer none, .pointer none] 27) :: ([] ++ [boxP a7 (.cells #[.pointer none, .pointer none] 25), boxP a5 (.cells #[.pointer none, .pointer none] 27), boxP a4 (.cells #[.pointer none, .pointer none] 25), boxP W.heap.size (.cells #[.int .i64 space, .slice p K cap] 32)])) := HS8.out.perm (List.perm_middle (l₁ := []))
  have hz2 : Sep w V8 (boxP a7 (.cells #[.pointer none, .pointer none] 25) :: ([boxP a8 (.cells #[.pointer none, .pointer none] 27)] ++ [boxP a5 (.cells #[.pointer none, .pointer none] 27), boxP a4 (.cells #[.pointer none, .pointer none] 25), boxP W.heap.size (.cells #[.int .i64 space, .slice p K cap] 32)])) := hz1.perm (List.perm_middle (l₁ := [boxP a8 (.cells #[.pointer none, .pointer none] 27)]))
  have c70 : V8.cell? ⟨a7, 0, none⟩ = some (.pointer none) := Joins.cell_of_block (show V8.heap[a7]? = some (.cells #[.pointer none, .pointer none] 25) from hz2.head) 0
  have f70 : V8.frozen? ⟨a7, 0, none⟩ = false := Joins.unfrozen_of_block (show V8.heap[a7]? = some (.cells #[.pointer none, .pointer none] 25) from hz2.head) 0
  have hz3 := setBoxS hz2 0 (.pointer none)
  have c71 : (V8.setCell ⟨a7, 0, none⟩ (.pointer none)).cell? ⟨a7, 1, none⟩ = some (.pointer none) := Joins.cell_of_block hz3.head 1
  have f71 : (V8.setCell ⟨a7, 0, none⟩ (.pointer none)).frozen? ⟨a7, 1, none⟩ = false := Joins.unfrozen_of_block hz3.head 1
  have hz4 : Sep w ((V8.setCell ⟨a7, 0, none⟩ (.pointer none)).setCell ⟨a7, 1, none⟩ (.pointer none)) (boxP a7 (.cells #[.pointer none, .pointer none] 25) :: ([boxP a8 (.cells #[.pointer none, .pointer none] 27)] ++ [boxP a5 (.cells #[.pointer none, .pointer none] 27), boxP a4 (.cells #[.pointer none, .pointer none] 25), boxP W.heap.size (.cells #[.int .i64 space, .slice p K cap] 32)])) := setBoxS hz3 1 (.pointer none)
  have HZ4 := Hid.mk' hz4
  clear hz1 hz2 hz3 hz4 HS8
  go_upto_region 12 with fail
  clear c70 f70 c71 f71
  generalize (V8.setCell ⟨a7, 0, none⟩ (.pointer none)).setCell ⟨a7, 1, none⟩ (.pointer none) = V9 at *
  have hz2 : Sep w V9 (boxP a8 (.cells #[.pointer none, .pointer none] 27) :: boxP a7 (.cells #[.pointer none, .pointer none] 25) :: ([] ++ [boxP a5 (.cells #[.pointer none, .pointer none] 27), boxP a4 (.cells #[.pointer none, .pointer none] 25), boxP W.heap.size (.cells #[.int .i64 space, .slice p K cap] 32)])) := HZ4.out.swap
  have c70 : V9.cell? ⟨a8, 0, none⟩ = some (.pointer none) := Joins.cell_of_block (show V9.heap[a8]? = some (.cells #[.pointer none, .pointer none] 27) from hz2.head) 0
  have f70 : V9.frozen? ⟨a8, 0, none⟩ = false := Joins.unfrozen_of_block (show V9.heap[a8]? = some (.cells #[.pointer none, .pointer none] 27) from hz2.head) 0
  have hz3 := setBoxS hz2 0 (.pointer none)
  have c71 : (V9.setCell ⟨a8, 0, none⟩ (.pointer none)).cell? ⟨a8, 1, none⟩ = some (.pointer none) := Joins.cell_of_block hz3.head 1
  have f71 : (V9.setCell ⟨a8, 0, none⟩ (.pointer none)).frozen? ⟨a8, 1, none⟩ = false := Joins.unfrozen_of_block hz3.head 1
  have hz4 : Sep w ((V9.setCell ⟨a8, 0, none⟩ (.pointer none)).setCell ⟨a8, 1, none⟩ (.pointer none)) (boxP a8 (.cells #[.pointer none, .pointer none] 27) :: boxP a7 (.cells #[.pointer none, .pointer none] 25) :: ([] ++ [boxP a5 (.cells #[.pointer none, .pointer none] 27), boxP a4 (.cells #[.pointer none, .pointer none] 25), boxP W.heap.size (.cells #[.int .i64 space, .slice p K cap] 32)])) := setBoxS hz3 1 (.pointer none)
  have HZ5 := Hid.mk' hz4
  clear hz2 hz3 hz4 HZ4
  go_upto_region 13 with fail
  clear c70 f70 c71 f71
  generalize (V9.setCell ⟨a8, 0, none⟩ (.pointer none)).setCell ⟨a8, 1, none⟩ (.pointer none) = V10 at *
  have k8 : V10.heap[a8]? = some (.cells #[.pointer none, .pointer none] 27) := HZ5.out.at (List.mem_cons_self ..)
  have k7 : V10.heap[a7]? = some (.cells #[.pointer none, .pointer none] 25) := HZ5.out.at (List.mem_cons_of_mem _ (List.mem_cons_self ..))
  have k5 : V10.heap[a5]? = some (.cells #[.pointer none, .pointer none] 27) := HZ5.out.at (by simp)
  have k4 : V10.heap[a4]? = some (.cells #[.pointer none, .pointer none] 25) := HZ5.out.at (by simp)
  have hy0 : Sep w V10.drew (boxP a5 (.cells #[.pointer none, .pointer none] 27) :: ([boxP a8 (.cells #[.pointer none, .pointer none] 27), boxP a7 (.cells #[.pointer none, .pointer none] 25)] ++ [boxP a4 (.cells #[.pointer none, .pointer none] 25), boxP W.heap.size (.cells #[.int .i64 space, .slice p K cap] 32)])) := (HZ5.out.later (show Below V10.heap.size V10 V10.drew from ⟨rfl, rfl, rfl, Nat.le_refl _, fun _ _ => rfl⟩)).perm (List.perm_middle (l₁ := [boxP a8 (.cells #[.pointer none, .pointer none] 27), boxP a7 (.cells #[.pointer none, .pointer none] 25)]))
  have hy1 : Sep w V10.drew (boxP a4 (.cells #[.pointer none, .pointer none] 25) :: ([boxP a5 (.cells #[.pointer none, .pointer none] 27), boxP a8 (.cells #[.pointer none, .pointer none] 27), boxP a7 (.cells #[.pointer none, .pointer none] 25)] ++ [boxP W.heap.size (.cells #[.int .i64 space, .slice p K cap] 32)])) := hy0.perm (List.perm_middle (l₁ := [boxP a5 (.cells #[.pointer none, .pointer none] 27), boxP a8 (.cells #[.pointer none, .pointer none] 27), boxP a7 (.cells #[.pointer none, .pointer none] 25)]))
  have HY := Hid.mk' hy1
  clear hy0 hy1
  refine wp_region_ord (S := fun u => u.heap[a7]? = some (.cells #[.pointer none, .pointer none] 25) ∧ u.heap[a8]? = some (.cells #[.pointer none, .pointer none] 27)) [(0, true), (1, true), (2, false), (3, false), (4, true)]
    (by kernel_rfl) rfl (by kernel_rfl) (fun d _ _ _ _ h => by cases d <;> exact h) ⟨k7, k8⟩ ?_
  generalize V10.drew = V11 at *
  simp only [inOrd, List.getElem?_cons_zero, List.getElem?_cons_succ]
  refine wpOrd_yield (v := .agg #[.pointer none, .pointer none]) rfl (fun u hu => exec_ldRow 25 Try.underlying25 rfl rfl rfl (size25r _ _) hu.1) ?_
  simp only [Act.put, List.setIfInBounds_toArray, List.set_cons_succ, List.set_cons_zero]
  refine wpOrd_yield (v := .agg #[.pointer none, .pointer none]) rfl (fun u hu => exec_ldRow 27 Try.underlying27 rfl rfl rfl (size27r _ _) hu.2) ?_
  simp only [Act.put, List.setIfInBounds_toArray, List.set_cons_succ, List.set_cons_zero]
  have hx1 := setRowS (us := #[.pointer none, .pointer none]) HY.out
  have j8 := hx1.at (b := a8) (o := .cells #[.pointer none, .pointer none] 27) (by simp)
  have j7 := hx1.at (b := a7) (o := .cells #[.pointer none, .pointer none] 25) (by simp)
  have j5 := hx1.at (b := a5) (o := .cells #[.pointer none, .pointer none] 27) (by simp)
  refine wpOrd_do (w' := V11.setRow a4 #[.pointer none, .pointer none]) rfl (exec_stRow (c0 := #[.pointer none, .pointer none]) 25 rfl rfl rfl (size25r _ _) rfl (by simp [Value.oneCell']) (HY.out.at (List.mem_cons_self ..))) ⟨j7, j8⟩ ?_
  have hx2 := setRowS (us := #[.pointer none, .pointer none]) hx1.swap
  have i8 := hx2.at (b := a8) (o := .cells #[.pointer none, .pointer none] 27) (by simp)
  have i7 := hx2.at (b := a7) (o := .cells #[.pointer none, .pointer none] 25) (by simp)
  have i5 := hx2.at (b := a5) (o := .cells #[.pointer none, .pointer none] 27) (by simp)
  have i4 := hx2.at (b := a4) (o := .cells #[.pointer none, .pointer none] 25) (by simp)
  simp only [Act.put]
  refine wpOrd_do (w' := (V11.setRow a4 #[.pointer none, .pointer none]).setRow a5 #[.pointer none, .pointer none]) rfl (exec_stRow (c0 := #[.pointer none, .pointer none]) 27 rfl rfl rfl (size27r _ _) rfl (by simp [Value.oneCell']) j5) ⟨i7, i8⟩ ?_
  have HX := Hid.mk' hx2
  have HI4 := Hid.mk' i4
  have HI5 := Hid.mk' i5
  clear hx1 hx2 j8 j7 j5 i8 i7 i5 i4 HY k8 k7 k5 k4 HZ5
  generalize (V11.setRow a4 #[.pointer none, .pointer none]).setRow a5 #[.pointer none, .pointer none] = V12 at *
  simp only [Act.put]
  refine wpOrd_yield (v := .bool true) rfl (fun u _ => by go_simp) ?_
  simp only [Act.put, List.setIfInBounds_toArray, List.set_cons_succ, List.set_cons_zero]
  refine wpOrd_nil ?_
  try simp only [Act.put]
  have HP : Hid (TwoP w (.pointer none) (.pointer none) (.pointer none) (.pointer none) V12) := ⟨none, none, ⟨rfl, rfl, rfl, rfl⟩, (show Sep w V12 [] from HX.out.sub (.cons _ (.cons _ (.cons _ (.cons _ (List.nil_sublist _)))))), (fun L R s t q => by cases q), (fun L R s t q => by cases q)⟩
  clear HX
  go_wp2
  exact retCCT rfl rfl rfl rfl HI4.out HI5.out Try.underlying25 rfl (size25r _ _) Try.underlying27 rfl (size27r _ _) rfl ⟨_, _, _, _, rfl, HP.out⟩
theorem two_any {w : World} (n space : Int) (p : Option Addr) (cap : Nat) (l : List Cel) (W : World) (hb : Below w.heap.size w W) (hl : l.length ≤ 1500000) (hI : LiesE celRow 1025 W p l) (hcan : ∀ c ∈ l, Can c.2) :
    Calls Try.prog 9 #[.int .i64 n, .agg #[.int .i64 space, .slice p l.length cap]] W fun e W' => ∃ a b c d, e = .returned (.tuple #[.agg #[a, b], .agg #[c, d], .bool true]) ∧ TwoP w a b c d W' := by
  cases hn : bndB n
  · cases hm : mayB space l
    · exact two_00 n space p cap l W hb hl hI hcan hn hm
    · exact two_01 n space p cap l W hb hl hI hcan hn hm
  · cases hm : mayB space l
    · exact two_10 n space p cap l W hb hl hI hcan hn hm
    · exact two_11 n space p cap l W hb hl hI hcan hn hm
end Go.Proofs.Ytembocfghkmieaa
/- The law's state: two pairs of disks, made or not, and the book; no condition. -/
namespace Go.Proofs.Ytembocfghkmieaa
open Go.RowKit Go.Maps
variable {w W : World} {gy m : Nat}
/-- Where the pairs lie. -/
def at2 (o : DR) : Option (Nat × Nat) := o.map fun x => (x.1.d, x.2.1.g)
def dpv (c : Option (Nat × Nat)) : Value := .pointer (c.map fun x => ⟨x.1, 0, none⟩)
def rpv (c : Option (Nat × Nat)) : Value := .pointer (c.map fun x => ⟨x.2, 0, none⟩)
theorem dpv_at (o : DR) : dpt o = dpv (at2 o) := by cases o <;> rfl
theorem rpv_at (o : DR) : rpt o = rpv (at2 o) := by cases o <;> rfl
structure Lw (w : World) (gy m : Nat) (X : List Part) (c0 c1 : Option (Nat × Nat)) (W : World) : Prop where
  out : ∃ o0 o1 v0 v1 v2 v3 v4 v5 Y, at2 o0 = c0 ∧ at2 o1 = c1 ∧ Sep w W (dsk o0 ++ bkL gy v0 v1 v2 v3 v4 v5 Y (dsk o1 ++ X)) ∧ okd o0 m ∧ okd o1 m ∧ Book.Ok Y m
variable {c0 c1 : Option (Nat × Nat)} {X : List Part}
theorem okd.mono {o : DR} {m m' : Nat} (h : okd o m) (hm : m ≤ m') : okd o m' := fun L R s t q => ⟨(h L R s t q).1, (h L R s t q).2.mono hm⟩
theorem Lw.mono (h : Lw w gy m X c0 c1 W) {m' : Nat} (hm : m ≤ m') : Lw w gy m' X c0 c1 W := by
  obtain ⟨o0, o1, v0, v1, v2, v3, v4, v5, Y, a, b, c, d, e, f⟩ := h.out
  exact ⟨o0, o1, v0, v1, v2, v3, v4, v5, Y, a, b, c, d.mono hm, e.mono hm, f.mono hm⟩
theorem Lw.below (h : Lw w gy m X c0 c1 W) : Below w.heap.size w W := by
  obtain ⟨o0, o1, v0, v1, v2, v3, v4, v5, Y, a, b, c, d, e, f⟩ := h.out
  exact c.below
theorem Lw.later {W' : World} (h : Lw w gy m X c0 c1 W) (hb : Below W.heap.size W W') : Lw w gy m X c0 c1 W' := by
  obtain ⟨o0, o1, v0, v1, v2, v3, v4, v5, Y, a, b, c, d, e, f⟩ := h.out
  exact ⟨o0, o1, v0, v1, v2, v3, v4, v5, Y, a, b, c.later hb, d, e, f⟩
theorem Lw.swap (h : Lw w gy m X c0 c1 W) : Lw w gy m X c1 c0 W := by
  obtain ⟨o0, o1, v0, v1, v2, v3, v4, v5, Y, a, b, c, d, e, f⟩ := h.out
  refine ⟨o1, o0, v0, v1, v2, v3, v4, v5, Y, b, a, c.perm ?_, e, d, f⟩
  have H : ∀ b : List Part, (dsk o0 ++ (b ++ (dsk o1 ++ X))).Perm (dsk o1 ++ (b ++ (dsk o0 ++ X))) := fun b => by
    have e1 : ∀ x y : List Part, (x ++ (b ++ (y ++ X))).Perm (x ++ y ++ (b ++ X)) := fun x y => by
      rw [List.append_assoc]
      refine List.Perm.append_left x ?_
      rw [← List.append_assoc, ← List.append_assoc]
      exact List.perm_append_comm.append_right X
    exact (e1 _ _).trans ((List.perm_append_comm.append_right _).trans (e1 _ _).symm)
  exact H [boxP gy (.cells #[v0, v1, v2, v3, v4, v5] 39), bkP enI 3 65 1 v0 Y.i1, bkP enI 3 65 1 v1 Y.i2, bkP recCells 108 67 1026 v2 Y.o1, bkP recCells 108 67 1026 v3 Y.o2, bkP celRow 85 30 1025 v4 Y.h1, bkP celRow 85 30 1025 v5 Y.h2]
/-- The first pair, with the book beside it. -/
theorem Lw.bos {d g : Nat} (h : Lw w gy m X (some (d, g)) c1 W) : ∃ o1, at2 o1 = c1 ∧ okd o1 m ∧ BoS w d g gy m (dsk o1 ++ X) W := by
  obtain ⟨o0, o1, v0, v1, v2, v3, v4, v5, Y, a, b, c, d', e, f⟩ := h.out
  rcases o0 with _ | ⟨L, R, s, t⟩
  · cases a
  · have e1 : L.d = d ∧ R.g = g := by
      have q : some (L.d, R.g) = some (d, g) := a
      injection q with q
      injection q with q1 q2
      exact ⟨q1, q2⟩
    exact ⟨o1, b, e, v0, v1, v2, v3, v4, v5, Y, s, t, ⟨L, R, e1.1, e1.2, c⟩, (d' L R s t rfl).1, (d' L R s t rfl).2, f⟩
theorem Lw.ofBos {d g : Nat} {o1 : DR} (hc : at2 o1 = c1) (ho : okd o1 m) (h : BoS w d g gy m (dsk o1 ++ X) W) : Lw w gy m X (some (d, g)) c1 W := by
  obtain ⟨v0, v1, v2, v3, v4, v5, Y, s, t, hB, hS, hC, hY⟩ := h
  obtain ⟨L, R, rfl, rfl, hq⟩ := hB.out
  exact ⟨some (L, R, s, t), o1, v0, v1, v2, v3, v4, v5, Y, rfl, hc, hq, fun L' R' s' t' q => by cases q; exact ⟨hS, hC⟩, ho, hY⟩
theorem Lw.act {d g : Nat} (h : Lw w gy m X (some (d, g)) c1 W) (hm : m ≤ 6000000) (o k pos n : Int) {pv kv : Value} (hA : ActIn w pv kv n) :
    Calls Try.prog 12 #[.pointer (some ⟨gy, 0, none⟩), .pointer (some ⟨d, 0, none⟩), .pointer (some ⟨g, 0, none⟩), .agg (actC o k pos pv n kv)] W fun e W' => e = .returned (.bool true) ∧ Lw w gy (m + 1) X (some (d, g)) c1 W' := by
  obtain ⟨o1, h1, h2, h3⟩ := h.bos
  exact (act_any h3 hm o k pos n hA).mono fun e W' ⟨k1, k2⟩ => ⟨k1, Lw.ofBos h1 (h2.mono (by omega)) k2⟩
theorem Lw.whole {d g : Nat} (h : Lw w gy m X (some (d, g)) c1 W) (a : Option Addr) (len cap : Nat) (hA : ActsAt w a len) (hm : m + 2 * len + 4 ≤ 6000000) :
    Calls Try.prog 13 #[.pointer (some ⟨gy, 0, none⟩), .pointer (some ⟨d, 0, none⟩), .pointer (some ⟨g, 0, none⟩), .slice a len cap] W fun e W' => e = .returned (.bool true) ∧ Lw w gy (m + 2 * len + 4) X (some (d, g)) c1 W' := by
  obtain ⟨o1, h1, h2, h3⟩ := h.bos
  exact (whole_any h3 a len cap hA hm).mono fun e W' ⟨k1, k2⟩ => ⟨k1, Lw.ofBos h1 (h2.mono (by omega)) k2⟩
theorem Lw.box (h : Lw w gy m X c0 c1 W) {b : Nat} {o : Obj} (hp : boxP b o ∈ X) : W.heap[b]? = some o := by
  obtain ⟨o0, o1, v0, v1, v2, v3, v4, v5, Y, _, _, c, _⟩ := h.out
  exact c.at (by simp [bkL, hp])
theorem Lw.right (h : Lw w gy m X c0 c1 W) (hm : m ≤ 8000000) : Calls Try.prog 14 #[.pointer (some ⟨gy, 0, none⟩)] W fun e W' => e = .returned (.bool true) ∧ Below w.heap.size w W' := by
  obtain ⟨o0, o1, v0, v1, v2, v3, v4, v5, Y, a, b, c, d, e, f⟩ := h.out
  exact right_any (c.sub (List.sublist_append_right _ _)) f hm
theorem TwoP.later {a b c d : Value} {W' : World} (h : TwoP w a b c d W) (hb : Below W.heap.size W W') : TwoP w a b c d W' := by
  obtain ⟨o0, o1, h0, hs, k0, k1⟩ := h
  exact ⟨o0, o1, h0, hs.later hb, k0, k1⟩
/-- The law's two rows beside the disks. -/
theorem TwoP.rows {x0 x1 y0 y1 : Value} (h : TwoP w x0 x1 y0 y1 W) (z25 z27 cs ds : Array Value) : ∃ o0 o1, (x0 = dpt o0 ∧ x1 = dpt o1 ∧ y0 = rpt o0 ∧ y1 = rpt o1) ∧ okd o0 0 ∧ okd o1 0 ∧
    Sep w ((((W.alloc (.cells z25 25)).alloc (.cells z27 27)).setRow W.heap.size cs).setRow (W.heap.size + 1) ds) ([boxP (W.heap.size + 1) (.cells ds 27), boxP W.heap.size (.cells cs 25)] ++ (dsk o0 ++ dsk o1)) := by
  obtain ⟨o0, o1, h0, hs, k0, k1⟩ := h
  refine ⟨o0, o1, h0, k0, k1, ?_⟩
  have h1 := (hs.box (.cells z25 25)).box (.cells z27 27)
  have e : (W.alloc (.cells z25 25)).heap.size = W.heap.size + 1 := by simp
  rw [e] at h1
  exact setRowS (setRowS h1.swap).swap
/-- The book is made. -/
theorem Lw.start {o0 o1 : DR} {X : List Part} (hs : Sep w W (X ++ (dsk o0 ++ dsk o1))) (k0 : okd o0 0) (k1 : okd o1 0) : Lw w W.heap.size 0 X (at2 o0) (at2 o1) (W.alloc (.cells #[.slice none 0 0, .slice none 0 0, .slice none 0 0, .slice none 0 0, .slice none 0 0, .slice none 0 0] 39)) := by
  refine ⟨o0, o1, .slice none 0 0, .slice none 0 0, .slice none 0 0, .slice none 0 0, .slice none 0 0, .slice none 0 0, ⟨[], [], [], [], [], []⟩, rfl, rfl, ?_, k0, k1, ⟨rfl, rfl, rfl, Nat.le_refl _, Nat.le_refl _, Nat.le_refl _, by simp, by simp, by simp⟩⟩
  have hb := hs.box (.cells #[.slice none 0 0, .slice none 0 0, .slice none 0 0, .slice none 0 0, .slice none 0 0, .slice none 0 0] 39)
  have hn : ∀ {α : Type} {en : α → List Value} {e sl sz : Nat} {V : World} {l : List Part}, Sep w V l → Sep w V (bkP en e sl sz (.slice none 0 0) [] :: l) := fun {α en e sl sz V l} hl => hl.add (Below.refl _ _) bkP_good ⟨World.ownsRow_nil _ _ _ _, by simp, List.Pairwise.nil⟩ fun k q => by
    rcases q with q | ⟨x, hx, _⟩
    · cases q
    · cases hx
  have h2 := hn (en := enI) (e := 3) (sl := 65) (sz := 1) (hn (en := enI) (e := 3) (sl := 65) (sz := 1) (hn (en := recCells) (e := 108) (sl := 67) (sz := 1026) (hn (en := recCells) (e := 108) (sl := 67) (sz := 1026) (hn (en := celRow) (e := 85) (sl := 30) (sz := 1025) (hn (en := celRow) (e := 85) (sl := 30) (sz := 1025) hb)))))
  refine h2.perm ?_
  unfold bkL
  simp only
  generalize bkP enI 3 65 1 (Value.slice none 0 0) [] = x1
  generalize bkP recCells 108 67 1026 (Value.slice none 0 0) [] = x2
  generalize bkP celRow 85 30 1025 (Value.slice none 0 0) [] = x3
  generalize boxP W.heap.size _ = x0
  have e1 : (x1 :: x1 :: x2 :: x2 :: x3 :: x3 :: x0 :: (X ++ (dsk o0 ++ dsk o1))).Perm (x0 :: ([x1, x1, x2, x2, x3, x3] ++ (X ++ (dsk o0 ++ dsk o1)))) := List.perm_middle (l₁ := [x1, x1, x2, x2, x3, x3])
  refine e1.trans ?_
  have e2 : ∀ y : List Part, (y ++ (X ++ (dsk o0 ++ dsk o1))).Perm (dsk o0 ++ (y ++ (dsk o1 ++ X))) := fun y => by
    refine (List.Perm.append_left y (List.perm_append_comm (l₁ := X))).trans ?_
    have e3 : (y ++ (dsk o0 ++ (dsk o1 ++ X))).Perm (dsk o0 ++ (y ++ (dsk o1 ++ X))) := by
      have q := (List.perm_append_comm (l₁ := y) (l₂ := dsk o0)).append_right (dsk o1 ++ X)
      rwa [List.append_assoc, List.append_assoc] at q
    rwa [List.append_assoc]
  exact e2 (x0 :: [x1, x1, x2, x2, x3, x3])
end Go.Proofs.Ytembocfghkmieaa
