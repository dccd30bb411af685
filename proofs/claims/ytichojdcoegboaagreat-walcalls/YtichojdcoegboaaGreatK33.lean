/- The document's log: a commit: whatever of it the disk lets through; groups of at most 255 blocks. -/
import Derived.Test.YtichojdcoegboaaGreatK30
import Derived.Test.YtichojdcoegboaaGreatK31
import Derived.Test.YtichojdcoegboaaGreatK32
import Derived.Test.YtichojdcoegboaaGreatK24
namespace Go.Proofs.YtichojdcoegboaaGreatW
open Go.RowKit Go.Maps
section
variable {w W W' V : World} {q r : Nat} {y y' : RL} {u u' : RSt} {l : List Part} {B gh : Nat} {v : Value} {ts : List Int}
theorem RDs.say (h : RDs w W r u l) {p : Part} (hp : p ∈ l) : p.say W := by
 obtain ⟨R, hg, h⟩ := h.out
 exact h.say p (List.mem_cons_of_mem _ hp)
theorem RDs.drop {p : Part} (h : RDs w W r u (p :: l)) : RDs w W r u l := by
 obtain ⟨R, hg, h⟩ := h.out
 exact ⟨R, hg, h.swap.drop⟩
theorem RDs.headNew (h : RDs w W r u l) : RDs w (W.alloc (.cells #[.slice none 0 0] 129)) r u (hdP W.heap.size W.heap.size (.slice none 0 0) [] :: l) := by
 obtain ⟨R, hg, h⟩ := h.out
 refine ⟨R, hg, (h.add (p := hdP W.heap.size W.heap.size (.slice none 0 0) []) (below_new W _) (hdP_good _ _ _ _) ⟨heap_alloc_new _ _, H.OwnZ.nil _ _, Nat.le_refl _⟩ fun k hk => ?_).swap⟩
 rcases hk with rfl | hk
 ·simp
 ·cases hk
theorem RDs.headPush (h : RDs w W r u (hdP B gh v ts :: l)) (hl : ts.length ≤ 10000000) (x : Int) : ∃ p1 c1 p2 c2 W5, v = .slice p1 ts.length c1 ∧ W.cell? ⟨gh, 0, none⟩ = some v ∧ (Builtin.append_ #[90, 90] 90 #[v, .slice (some ⟨W.heap.size, 0, none⟩) 1 1]).run Tryz.prog (W.alloc (.cells #[.int .i64 x] 3)) = .ok (.slice p2 (ts.length + 1) c2) W5 ∧ W5.cell? ⟨gh, 0, none⟩ = some v ∧ W5.frozen? ⟨gh, 0, none⟩ = false ∧ gh < W.heap.size ∧ RDs w W5 r u l ∧ RDs w (W5.setCell ⟨gh, 0, none⟩ (.slice p2 (ts.length + 1) c2)) r u (hdP B gh (.slice p2 (ts.length + 1) c2) (ts ++ [x]) :: l) := by
 obtain ⟨R, hg, h⟩ := h.out
 have h := h.swap
 have hH : HdAt W B gh v ts := h.head
 obtain ⟨v', W5, hr, hrow, hF, hor, hn⟩ := hH.push hl x
 obtain ⟨p1, c1, e1, _⟩ := H.OwnZ.ints hH.own
 obtain ⟨p2, c2, e2, _⟩ := H.OwnZ.ints hn.own
 rw [List.length_append, List.length_singleton] at e2
 subst e2
 have hF2 : Fr (fun k => k = gh ∨ v.ownBlock = some k) W (W5.setCell ⟨gh, 0, none⟩ (.slice p2 (ts.length + 1) c2)) := (hF.mono fun i _ e => .inr e).trans ((Fr.setCell W5 gh 0 _).mono fun i _ e => .inl e) fun _ _ e => e
 refine ⟨p1, c1, p2, c2, W5, e1, hH.cell, hr, Joins.cell_of_block hrow 0, Joins.unfrozen_of_block hrow 0, hH.lt, ?_, ⟨R, hg, (h.turn (p' := hdP B gh (.slice p2 (ts.length + 1) c2) (ts ++ [x])) hF2 (fun k _ e => e) (hdP_good _ _ _ _) hn fun k hk => ?_).swap⟩⟩
 ·have := h.turn (p' := noPart) (hF.mono (T' := fun k => k = gh ∨ v.ownBlock = some k) fun i _ e => .inr e) (fun k _ e => e) noPart_good trivial fun k hk => hk.elim
  exact ⟨R, hg, this.drop⟩
 ·rcases hk with rfl | hk
  ·exact ⟨.inl (.inl rfl), hn.lt⟩
  ·refine ⟨?_, (World.ownsRow.lt hn.own k hk).2⟩
   rcases hor k hk with e | e
   ·exact .inl (.inr e)
   ·exact .inr e
def RCmt (w : World) (q r : Nat) (y : RL) (u : RSt) (l : List Part) (e : Ending) (W' : World) : Prop :=
 (rrunE (rcOps y) u = 0 → e = .returned (.int .i64 0) ∧ DL w W' q r { y with grp := [], commit := y.commit + 1 } (rrunV (rcOps y) u) l) ∧ (rrunE (rcOps y) u ≠ 0 → e = .returned (.int .i64 3) ∧ DL w W' q r y (rrunV (rcOps y) u) l)
theorem cmt_ends {a b : List (Option Cel)} {o : Option Cel} (hab : rcOps y = a ++ o :: b) (h0 : rrunE a u = 0) (h1 : rdopE (rrunV a u) o ≠ 0) {e : Ending} (he : e = .returned (.int .i64 3)) (hd : DL w W q r y (rdopV (rrunV a u) o) l) : RCmt w q r y u l e W := by
 obtain ⟨s1, s2⟩ := rrun_snoc (o := o) h0
 have h2 : rrunE (a ++ [o]) u ≠ 0 := by rw [s1]; exact h1
 obtain ⟨t1, t2⟩ := rrun_ended (b := b) h2
 have hc : rcOps y = a ++ [o] ++ b := by rw [hab]; simp
 rw [← hc] at t1 t2
 refine ⟨fun q0 => absurd q0 (by rw [t1]; exact h2), fun _ => ⟨he, ?_⟩⟩
 rw [t2, s2]
 exact hd
theorem gLog_take {g : List Cel} {j : Nat} {x : Cel} (hx : g[j]? = some x) : gLog 2 (g.take (j + 1)) = gLog 2 (g.take j) ++ [some (2 + (j : Int), x.2)] := by
 have hj : j < g.length := (List.getElem?_eq_some_iff.1 hx).1
 have ht : g.take (j + 1) = g.take j ++ [x] := by rw [List.take_add_one, hx]; rfl
 rw [ht, gLog_append, List.length_take, Nat.min_eq_left (by omega)]
 rfl
theorem gLog_split {g : List Cel} {j : Nat} {x : Cel} (hx : g[j]? = some x) : ∃ t, gLog 2 g = gLog 2 (g.take j) ++ some (2 + (j : Int), x.2) :: t := by
 have hj : j < g.length := (List.getElem?_eq_some_iff.1 hx).1
 refine ⟨gLog (2 + ((g.take (j + 1)).length : Int)) (g.drop (j + 1)), ?_⟩
 have := gLog_append (g.take (j + 1)) (g.drop (j + 1)) 2
 rw [List.take_append_drop] at this
 rw [this, gLog_take hx, List.append_assoc]
 rfl
theorem rc_split {j : Nat} {x : Cel} (hx : y.grp[j]? = some x) : ∃ t, rcOps y = gLog 2 (y.grp.take j) ++ some (2 + (j : Int), x.2) :: t := by
 obtain ⟨tl, htl⟩ := gLog_split hx
 refine ⟨tl ++ (none :: some (1, H.headF (y.grp.map (·.1))) :: none :: (y.grp.map some ++ [none, some (1, nought), none])), ?_⟩
 unfold rcOps
 rw [htl, List.append_assoc]
 rfl
theorem map_take {g : List Cel} {j : Nat} {x : Cel} (hx : g[j]? = some x) : (g.take (j + 1)).map (·.1) = (g.take j).map (·.1) ++ [x.1] := by
 have ht : g.take (j + 1) = g.take j ++ [x] := by rw [List.take_add_one, hx]; rfl
 rw [ht, List.map_append]
 rfl
def Pre (y : RL) (u U : RSt) (b : List (Option Cel)) : Prop := ∃ a, rcOps y = a ++ b ∧ rrunE a u = 0 ∧ rrunV a u = U
theorem Pre.go {U : RSt} {o : Option Cel} {b : List (Option Cel)} (h : Pre y u U (o :: b)) (h0 : rdopE U o = 0) : Pre y u (rdopV U o) b := by
 obtain ⟨a, h1, h2, rfl⟩ := h
 obtain ⟨s1, s2⟩ := rrun_snoc (o := o) h2
 exact ⟨a ++ [o], by rw [h1]; simp, by rw [s1, h0], s2⟩
theorem Pre.ends {U : RSt} {o : Option Cel} {b : List (Option Cel)} (h : Pre y u U (o :: b)) (h1 : rdopE U o ≠ 0) (hd : DL w W q r y (rdopV U o) l) : RCmt w q r y u l (.returned (.int .i64 3)) W := by
 obtain ⟨a, e1, e2, rfl⟩ := h
 exact cmt_ends e1 e2 h1 rfl hd
theorem Pre.done {U : RSt} (h : Pre y u U []) (hd : DL w W q r { y with grp := [], commit := y.commit + 1 } U l) : RCmt w q r y u l (.returned (.int .i64 0)) W := by
 obtain ⟨a, e1, e2, rfl⟩ := h
 rw [List.append_nil] at e1
 subst e1
 exact ⟨fun _ => ⟨rfl, hd⟩, fun q => absurd e2 q⟩
theorem Pre.room {U : RSt} {b : List (Option Cel)} (hR : ∀ a b, rcOps y = a ++ b → RRoom (rrunV a u)) (h : Pre y u U b) : RRoom U := by
 obtain ⟨a, e1, _, rfl⟩ := h
 exact hR a b e1
theorem RDs.box (h : RDs w W r u l) (f : Nat → Int) : RDs w (W.alloc (.cells (blk f) 64)) r u (boxB W.heap.size f :: l) := by
 obtain ⟨R, hg, h⟩ := h.out
 refine ⟨R, hg, (h.add (p := boxB W.heap.size f) (below_new W _) (boxB_good _ _) (heap_alloc_new _ _) fun k hk => ?_).swap⟩
 obtain rfl : k = W.heap.size := hk
 simp
theorem RDs.boxed {g : Nat} {f : Nat → Int} (h : RDs w W r u (boxB g f :: l)) : W.heap[g]? = some (.cells (blk f) 64) := h.say (p := boxB g f) (by simp)
theorem RDs.rebox {g : Nat} {f : Nat → Int} (h : RDs w W r u (boxB g f :: l)) (f' : Nat → Int) : RDs w (W.setRow g (blk f')) r u (boxB g f' :: l) := by
 have hb := h.boxed
 obtain ⟨R, hg, h⟩ := h.out
 refine ⟨R, hg, (h.swap.turn (p' := boxB g f') (T := fun k => k = g) (Fr.setRow W g _) (fun k _ e => e) (boxB_good _ _) (setRow_heap _ _ _ _ _ (0, 0) hb) fun k hk => ⟨.inl hk, ?_⟩).swap⟩
 obtain rfl : k = g := hk
 have := (Array.getElem?_eq_some_iff.1 hb).1
 simpa using this
theorem exec_ld129 {o : Oper} {a : Act} {W : World} {x : Operand} {g : Nat} {v : Value} (ho : o.op = .load 129 x) (hx : a.eval x = .pointer (some ⟨g, 0, none⟩)) (hg : W.heap[g]? = some (.cells #[v] 129)) : (execOp a.eval o).run Tryz.prog W = .ok (.value (.agg #[v])) W := by
 unfold execOp
 simp only [ho, hx, Instr.loadAt, Instr.sureAddr, Sem.run_bind, Sem.run_pure, Result.andThen_ok, run_loadVar_row W g 129 129 #[v] (0, 0) _ hg H.under35 rfl H.size35H]
theorem exec_ldLayR {o : Oper} {a : Act} {W : World} {x : Operand} {b off : Nat} {cs : List Value} {R : Array Value} (ho : o.op = .load 59 x) (hx : a.eval x = .pointer (some ⟨b, off, none⟩)) (hR : cs.toArray = R) (hn : cs.length = 9) (hg : ∀ j v, cs[j]? = some v → W.cell? ⟨b, off + j, none⟩ = some v) : (execOp a.eval o).run Tryz.prog W = .ok (.value (.agg R)) W := by
 subst hR
 have e : (Instr.loadAt 59 (.pointer (some ⟨b, off, none⟩))).run Tryz.prog W = .ok (.agg cs.toArray) W := run_loadAt_mid (P := Tryz.prog) W b off 59 cs _ (fun j v hv => hg j v hv) Tryz.underlying59 rfl (by rw [hn]; exact H.size25L)
 unfold execOp
 simp only [ho, hx, e, Sem.run_bind, Result.andThen_ok, Sem.run_pure]
theorem exec_zeroB64 {o : Oper} {a : Act} {W : World} (ho : o.op = .build 64 #[]) : (execOp a.eval o).run Tryz.prog W = .ok (.value (.agg (blk nought))) W := by
 unfold execOp
 have h := zero25 W
 simp [go_sem] at h
 simp [ho, Instr.build, go_sem, h]
theorem fine_log {b l i : Int} (hf : H.Fine b l i) : 32 ≤ l ∧ l ≤ 256 := by
 exact ⟨hf.1, hf.2.1⟩
theorem RLAt.noGrp {B : Nat} {gv wv : Value} (h : RLAt W B q r gv wv y) : RLAt (W.setCell ⟨q, 12, none⟩ (.slice none 0 0)) B q r (.slice none 0 0) wv { y with grp := [] } := by
 refine ⟨?_, ?_, ?_, h.base⟩
 ·rw [heap_setCell_same W q 12 _ 121 _ h.row]; rfl
 ·exact ⟨by simp, .inl ⟨rfl, rfl⟩⟩
 ·exact ownsRow_setCell_other h.wrote (a := ⟨q, 12, none⟩) h.qw _
theorem DL.noGrp (h : DL w W q r y u l) : DL w (W.setCell ⟨q, 12, none⟩ (.slice none 0 0)) q r { y with grp := [] } u l := by
 obtain ⟨Y, _, hl, hT⟩ := h.log
 exact hT _ _ _ _ _ hl.noGrp (Fr.setCell W q 12 _) (fun k _ e => .inl e) fun k hk => by
  rcases hk with rfl | hk | hk
  ·exact .inl (.inl rfl)
  ·cases hk
  ·exact .inl (.inr (.inr hk))
set_option maxRecDepth 20000 in
set_option maxHeartbeats 4000000 in
theorem DL.commit (h : DL w W q r y u l) (hf : H.Fine y.b y.l y.i) (hgl : y.grp.length ≤ 255) (hAU : H.AllU (y.grp.map (·.1))) (hM : H.mayB (1 + y.l) y.b (y.l - 1) (y.grp.map (·.1)) = true) (hR : ∀ a b, rcOps y = a ++ b → RRoom (rrunV a u)) (hcm : 0 ≤ y.commit ∧ y.commit ≤ 1099511627776) :
  Calls Tryz.prog 83 #[.pointer (some ⟨q, 0, none⟩)] W (RCmt w q r y u l) := by
 obtain ⟨Yl, hq, hd⟩ := h.ds
 have HY := Hid.mk' hq
 have H0 := Hid.mk' hd.headNew
 have z129 := H.zero35
 have HR := Hid.mk' hR
 have HF := Hid.mk' hf
 have HAU := Hid.mk' hAU
 have HMB := Hid.mk' hM
 obtain ⟨G, hG⟩ : ∃ G, y.grp.length = G := ⟨_, rfl⟩
 have HG := Hid.mk' hG
 rw [hG] at hgl
 obtain ⟨Y0, hl⟩ := h.at
 have c12 := hl.c12
 obtain ⟨p, c, hv, hI⟩ := own_img hl.grp
 rw [hv, HG.out] at c12
 clear h hd hq hR hf hAU hM hG hl hv hI
 go_enter Tryz.func83, Tryz.ntmps83
 go_wp2
 generalize hgh : W.heap.size = gh at *
 go_loopw [5] (fun s5 wx => ∃ j : Nat, (j : Int) ≤ G ∧ s5 = .int .i64 j ∧ ∃ Bh vh, Hid (RDs w wx r (rrunV (gLog 2 (y.grp.take j)) u) (hdP Bh gh vh ((y.grp.take j).map (·.1)) :: rlP r Yl y :: l) ∧ rrunE (gLog 2 (y.grp.take j)) u = 0)) (fun s5 _ => G - (intOf s5).toNat)
 case atStart =>
  refine ⟨0, by omega, rfl, gh, .slice none 0 0, Hid.mk' ⟨?_, rfl⟩⟩
  exact H0.out
 case round =>
  obtain ⟨j, hj, rfl, Bh, vh, HM⟩ := hrel
  clear H0 c12
  by_cases hj2 : (j : Int) < G
  ·have hjl : j < y.grp.length := by have := HG.out; omega
   have hcc : y.grp[j]? = some (y.grp[j]'hjl) := List.getElem?_eq_getElem hjl
   generalize y.grp[j]'hjl = x at hcc
   have hL : RLAt wr Yl.B q r Yl.gv Yl.wv y := by have := HM.out.1.say (p := rlP r Yl y) (by simp); rw [← HY.out]; exact this
   obtain ⟨p, c, hv, hI⟩ := own_img hL.grp
   obtain ⟨b0, off, rfl, hlt, hC⟩ := hI (by omega)
   rw [HG.out] at hv
   clear hI hC hlt
   have HB : Hid (∀ u : World, RLAt u Yl.B q r Yl.gv Yl.wv y → u.cell? ⟨q, 12, none⟩ = some (.slice (some ⟨b0, off, none⟩) G c) ∧ u.cell? ⟨b0, off + j * 1025, none⟩ = some (.int .i64 x.1) ∧ BlkAt u b0 (off + j * 1025 + 1) x.2) := fun u hu => by
    have e12 := hu.c12
    obtain ⟨p', c', hv', hI'⟩ := own_img hu.grp
    rw [HG.out] at hv'
    have ev := hv.symm.trans hv'
    injection ev with ev1 ev2 ev3
    obtain ⟨b1, off1, e1, hlt1, hC1⟩ := hI' (by omega)
    rw [e1] at ev1
    injection ev1 with ev1
    injection ev1 with eb eo
    subst eb
    subst eo
    exact ⟨by rw [e12, hv], (hC1 j x hcc).1, (hC1 j x hcc).2⟩
   obtain ⟨tl, htl⟩ := rc_split hcc
   have HSp := Hid.mk' htl
   have HTk := Hid.mk' (gLog_take hcc)
   have HTm := Hid.mk' (map_take hcc)
   have hRm := HR.out _ _ HSp.out
   have HD : Hid (Calls Tryz.prog 95 #[.pointer (some ⟨r, 0, none⟩), .int .i64 (2 + (j : Int)), .agg (blk x.2)] wr.drew fun e W' => e = .returned (.int .i64 (rWriteE (rrunV (gLog 2 (y.grp.take j)) u) (2 + (j : Int)))) ∧ RDs w W' r (rWriteV (rrunV (gLog 2 (y.grp.take j)) u) (2 + (j : Int)) x.2) (hdP Bh gh vh ((y.grp.take j).map (·.1)) :: rlP r Yl y :: l)) :=
    (HM.out.1.later (W' := wr.drew) ⟨rfl, rfl, rfl, Nat.le_refl _, fun _ _ => rfl⟩).write hRm _ _
   have HE0 := Hid.mk' HM.out.2
   have hLd : RLAt wr.drew Yl.B q r Yl.gv Yl.wv y := hL.later ⟨rfl, rfl, rfl, Nat.le_refl _, fun _ _ => rfl⟩
   have hw1 : IntKind.i64.wrap ((1 : Int) + 1) = 2 := by decide
   have hw0 : IntKind.i64.wrap 2 = 2 := by decide
   have hw2 : IntKind.i64.wrap ((2 : Int) + (j : Int)) = 2 + (j : Int) := by rw [IntKind.wrap_i64]; omega
   clear hv hcc htl hRm hjl HM hL
   obtain ⟨x1, f⟩ := x
   dsimp only at *
   generalize HU : rrunV (gLog 2 (y.grp.take j)) u = U at *
   have HUu := Hid.mk' HU
   clear HU
   go_wp2
   refine wp_region_ord (S := fun v => RLAt v Yl.B q r Yl.gv Yl.wv y) [(0, true), (1, true), (2, true), (3, true), (4, true), (5, true), (6, true), (7, true), (8, true), (9, true), (10, true), (11, true), (12, true), (13, true), (14, true), (15, true), (16, true), (17, true), (18, true), (19, true), (20, false), (21, true)]
    (by kernel_rfl) rfl (by kernel_rfl) (fun d _ _ _ _ h => by cases d <;> exact h) hLd ?_
   simp only [inOrd, List.getElem?_cons_zero, List.getElem?_cons_succ]
   refine wpOrd_move rfl _ rfl ?_
   simp only [Act.put, pA, pB, pC]
   refine wpOrd_yield (v := .pointer (some ⟨q, 0, none⟩)) rfl (fun v hv => by go_simp) ?_
   simp only [Act.put, pA, pB, pC]
   refine wpOrd_yield (v := .pointer (some ⟨q, 0, none⟩)) rfl (fun v hv => by go_simp) ?_
   simp only [Act.put, pA, pB, pC]
   refine wpOrd_yield (v := .pointer (some ⟨r, 0, none⟩)) rfl (fun v hv => by have e := hv.c0; go_simp) ?_
   simp only [Act.put, pA, pB, pC]
   refine wpOrd_move rfl _ rfl ?_
   simp only [Act.put, pA, pB, pC]
   refine wpOrd_yield (v := .pointer (some ⟨q, 0, none⟩)) rfl (fun v hv => by go_simp) ?_
   simp only [Act.put, pA, pB, pC]
   refine wpOrd_yield (v := .pointer (some ⟨q, 1, none⟩)) rfl (fun v hv => by go_simp) ?_
   simp only [Act.put, pA, pB, pC]
   refine wpOrd_yield (v := .pointer (some ⟨q, 4, none⟩)) rfl (fun v hv => by go_simp) ?_
   simp only [Act.put, pA, pB, pC]
   refine wpOrd_yield (v := .int .i64 1) rfl (fun v hv => by have e := hv.c4; go_simp) ?_
   simp only [Act.put, pA, pB, pC]
   refine wpOrd_yield (v := .int .i64 2) rfl (fun v hv => by go_simp) ?_
   simp only [Act.put, pA, pB, pC]
   refine wpOrd_move rfl _ rfl ?_
   simp only [Act.put, pA, pB, pC]
   refine wpOrd_yield (v := .int .i64 (2 + (j : Int))) rfl (fun v hv => by go_simp) ?_
   simp only [Act.put, pA, pB, pC]
   refine wpOrd_move rfl _ rfl ?_
   simp only [Act.put, pA, pB, pC]
   refine wpOrd_yield (v := .pointer (some ⟨q, 0, none⟩)) rfl (fun v hv => by go_simp) ?_
   simp only [Act.put, pA, pB, pC]
   refine wpOrd_yield (v := .pointer (some ⟨q, 12, none⟩)) rfl (fun v hv => by go_simp) ?_
   simp only [Act.put, pA, pB, pC]
   refine wpOrd_yield (v := .slice (some ⟨b0, off, none⟩) G c) rfl (fun v hv => by have e := (HB.out v hv).1; go_simp) ?_
   simp only [Act.put, pA, pB, pC]
   refine wpOrd_move rfl _ rfl ?_
   simp only [Act.put, pA, pB, pC]
   refine wpOrd_yield (v := .pointer (some ⟨b0, off + j * 1025, none⟩)) rfl (fun v hv => by go_simp) ?_
   simp only [Act.put, pA, pB, pC]
   refine wpOrd_yield (v := .pointer (some ⟨b0, off + j * 1025 + 1, none⟩)) rfl (fun v hv => by go_simp) ?_
   simp only [Act.put, pA, pB, pC]
   refine wpOrd_yield (v := .agg (blk f)) rfl (fun v hv => exec_ldBlk rfl rfl (HB.out v hv).2.2) ?_
   simp only [Act.put, pA, pB, pC]
   refine wpOrd_call rfl 95 _ _ rfl Tryz.call95 [.pointer (some ⟨r, 0, none⟩), .int .i64 (2 + (j : Int)), .agg (blk f)] rfl ?_
   refine HD.out.mono ?_
   rintro e W1 ⟨rfl, h1⟩
   have hL1 : RLAt W1 Yl.B q r Yl.gv Yl.wv y := by have := h1.say (p := rlP r Yl y) (by simp); rw [← HY.out]; exact this
   refine ⟨_, rfl, hL1, ?_⟩
   simp only [Act.put, pA, pB, pC]
   by_cases hE : rWriteE U (2 + (j : Int)) = 0
   ·have hb : (rWriteE U (2 + (j : Int)) != 0) = false := by simp [hE]
    refine wpOrd_yield (v := .bool false) rfl (fun v hv => by go_simp) ?_
    simp only [Act.put, pA, pB, pC]
    refine wpOrd_nil ?_
    have HE1 : Hid (rrunE (gLog 2 (y.grp.take (j + 1))) u = 0 ∧ rrunV (gLog 2 (y.grp.take (j + 1))) u = rWriteV U (2 + (j : Int)) f) := by
     rw [HTk.out]
     obtain ⟨s1, s2⟩ := rrun_snoc (o := some (2 + (j : Int), f)) HE0.out
     rw [s1, s2, HUu.out]
     exact ⟨hE, rfl⟩
    have H1 := Hid.mk' h1
    generalize rWriteE U (2 + (j : Int)) = E at *
    subst hE
    clear h1 HD HE0 HUu HTk HSp hLd hb
    generalize rWriteV U (2 + (j : Int)) f = U1 at *
    have HB1 := Hid.mk' (HB.out W1 hL1)
    go_wp2
    have hLn : ((y.grp.take j).map (·.1)).length = j := by rw [List.length_map, List.length_take]; have := HG.out; omega
    have hS9 : RLAt W1.drew Yl.B q r Yl.gv Yl.wv y := hL1.later ⟨rfl, rfl, rfl, Nat.le_refl _, fun _ _ => rfl⟩
    have D9 := H1.out.later (W' := W1.drew) ⟨rfl, rfl, rfl, Nat.le_refl _, fun _ _ => rfl⟩
    obtain ⟨p1, c1, p2, c2, W5, ev, k1, hr9, k9, z9, hlt9, hP5, hP6⟩ := D9.headPush (by rw [hLn]; omega) x1
    rw [hLn] at ev hr9 hP6
    subst ev
    have hS5 : RLAt W5 Yl.B q r Yl.gv Yl.wv y := by have := hP5.say (p := rlP r Yl y) (by simp); rw [← HY.out]; exact this
    have hS6 : RLAt (W5.setCell ⟨gh, 0, none⟩ (.slice p2 (j + 1) c2)) Yl.B q r Yl.gv Yl.wv y := by have := hP6.say (p := rlP r Yl y) (by simp); rw [← HY.out]; exact this
    have hS1 := hS9.later (below_new W1.drew (.cells #[.int .i64 x1] 3))
    rw [← HTm.out] at hP6
    have HP6 := Hid.mk' hP6
    have k1' : (W1.drew.alloc (.cells #[.int .i64 x1] 3)).cell? ⟨gh, 0, none⟩ = some (.slice p1 j c1) := by rw [World.cell?_alloc_past _ _ _ hlt9]; exact k1
    clear hP5 hP6 D9 H1 hLn HTm hL1
    refine wp_region_fork (S := fun v => RLAt v Yl.B q r Yl.gv Yl.wv y) [0, 2, 3, 4, 5, 6, 7, 8, 9] 1 10 [(11, false), (12, true), (13, false)] (by kernel_rfl) rfl (by kernel_rfl) (fun d _ _ _ _ h => by cases d <;> exact h) hS9 ?_
    try simp only [Act.put]
    generalize W1.drew = V9 at *
    refine wpFork_yield (v := .pointer (some ⟨gh, 0, none⟩)) rfl rfl (fun v hv => by go_simp) ?_
    simp only [Act.put, pA, pB, pC]
    refine wpFork_yield (v := .pointer (some ⟨q, 0, none⟩)) rfl rfl (fun v hv => by simp [execOp, Act.eval]) ?_
    simp only [Act.put, pA, pB, pC]
    refine wpFork_yield (v := .pointer (some ⟨q, 0, none⟩)) rfl rfl (fun v hv => by go_simp) ?_
    simp only [Act.put, pA, pB, pC]
    refine wpFork_yield (v := .pointer (some ⟨q, 12, none⟩)) rfl rfl (fun v hv => by go_simp) ?_
    simp only [Act.put, pA, pB, pC]
    refine wpFork_yield (v := .slice (some ⟨b0, off, none⟩) G c) rfl rfl (fun v hv => by have e := (HB.out v hv).1; go_simp) ?_
    simp only [Act.put, pA, pB, pC]
    refine wpFork_yield (v := .int .i64 (j : Int)) rfl rfl (fun v hv => by simp [execOp, Act.eval]) ?_
    simp only [Act.put, pA, pB, pC]
    refine wpFork_yield (v := .pointer (some ⟨b0, off + j * 1025, none⟩)) rfl rfl (fun v hv => by go_simp) ?_
    simp only [Act.put, pA, pB, pC]
    refine wpFork_yield (v := .pointer (some ⟨b0, off + j * 1025, none⟩)) rfl rfl (fun v hv => by go_simp) ?_
    simp only [Act.put, pA, pB, pC]
    refine wpFork_yield (v := .int .i64 x1) rfl rfl (fun v hv => by have e := (HB.out v hv).2.1; go_simp) ?_
    simp only [Act.put, pA, pB, pC]
    refine wpFork_nil rfl rfl ?_ ?_
    ·simp only [inOrd, List.getElem?_cons_zero, List.getElem?_cons_succ]
     refine wpOrd_run (v := .slice p1 j c1) (w' := V9) rfl (by go_simp) hS9 ?_
     simp only [Act.put, pA, pB, pC]
     refine wpOrd_run (v := .slice (some ⟨V9.heap.size, 0, none⟩) 1 1) (w' := V9.alloc (.cells #[.int .i64 x1] 3)) rfl (H.exec_build24 rfl x1 rfl) hS1 ?_
     simp only [Act.put, pA, pB, pC]
     refine wpOrd_run (v := .slice p2 (j + 1) c2) (w' := W5) rfl (by simp [execOp, Act.eval, resolve, invoke, builtin, hr9, Result.andThen]) hS5 ?_
     simp only [Act.put, pA, pB, pC]
     refine wpOrd_yield (v := .pointer (some ⟨gh, 0, none⟩)) rfl (fun v hv => by go_simp) ?_
     simp only [Act.put, pA, pB, pC]
     refine wpOrd_do (w' := W5.setCell ⟨gh, 0, none⟩ (.slice p2 (j + 1) c2)) rfl (by go_simp) hS6 ?_
     refine wpOrd_nil ?_
     simp only [Act.put]
     clear hr9 hS1 hS5 hS6 hS9 k9 z9 k1 k1'
     generalize W5.setCell ⟨gh, 0, none⟩ (.slice p2 (j + 1) c2) = WE at *
     go_wp2
     refine ⟨⟨j + 1, by omega, by go_num, Bh, .slice p2 (j + 1) c2, Hid.mk' ⟨?_, HE1.out.1⟩⟩, by simp [intOf]; omega⟩
     rw [HE1.out.2]
     exact HP6.out
    ·simp only [inOrd, List.getElem?_cons_zero, List.getElem?_cons_succ]
     refine wpOrd_run (v := .slice (some ⟨V9.heap.size, 0, none⟩) 1 1) (w' := V9.alloc (.cells #[.int .i64 x1] 3)) rfl (H.exec_build24 rfl x1 rfl) hS1 ?_
     simp only [Act.put, pA, pB, pC]
     refine wpOrd_run (v := .slice p1 j c1) (w' := V9.alloc (.cells #[.int .i64 x1] 3)) rfl (by go_simp) hS1 ?_
     simp only [Act.put, pA, pB, pC]
     refine wpOrd_run (v := .slice p2 (j + 1) c2) (w' := W5) rfl (by simp [execOp, Act.eval, resolve, invoke, builtin, hr9, Result.andThen]) hS5 ?_
     simp only [Act.put, pA, pB, pC]
     refine wpOrd_yield (v := .pointer (some ⟨gh, 0, none⟩)) rfl (fun v hv => by go_simp) ?_
     simp only [Act.put, pA, pB, pC]
     refine wpOrd_do (w' := W5.setCell ⟨gh, 0, none⟩ (.slice p2 (j + 1) c2)) rfl (by go_simp) hS6 ?_
     refine wpOrd_nil ?_
     simp only [Act.put]
     clear hr9 hS1 hS5 hS6 hS9 k9 z9 k1 k1'
     generalize W5.setCell ⟨gh, 0, none⟩ (.slice p2 (j + 1) c2) = WE at *
     go_wp2
     refine ⟨⟨j + 1, by omega, by go_num, Bh, .slice p2 (j + 1) c2, Hid.mk' ⟨?_, HE1.out.1⟩⟩, by simp [intOf]; omega⟩
     rw [HE1.out.2]
     exact HP6.out
   ·have hb : (rWriteE U (2 + (j : Int)) != 0) = true := by simp [hE]
    refine wpOrd_yield (v := .bool true) rfl (fun v hv => by go_simp) ?_
    simp only [Act.put, pA, pB, pC]
    refine wpOrd_nil ?_
    have HZ : Hid (RCmt w q r y u l (.returned (.int .i64 3)) W1) := cmt_ends HSp.out HE0.out (by rw [HUu.out]; exact hE) rfl (by rw [HUu.out]; exact DL.of HY.out h1.drop)
    generalize rWriteE U (2 + (j : Int)) = E at *
    clear h1 HD HE0 HUu HTk HSp hLd hb hE hL1
    go_wp2
    go_ret
    exact HZ.out
  ·obtain rfl : G = j := by omega
   have hjG : y.grp.take G = y.grp := List.take_of_length_le (by have := HG.out; omega)
   have HM1 := HM.out
   rw [hjG] at HM1
   have HP : Hid (Pre y u (rrunV (gLog 2 y.grp) u) (none :: some (1, H.headF (y.grp.map (·.1))) :: none :: (y.grp.map some ++ [none, some (1, nought), none]))) := ⟨_, rfl, HM1.2, rfl⟩
   have HD := Hid.mk' HM1.1
   generalize rrunV (gLog 2 y.grp) u = U0 at *
   clear HM HM1 hjG
   have hHd : HdAt wr Bh gh vh (y.grp.map (·.1)) := HD.out.say (p := hdP Bh gh vh (y.grp.map fun c : Cel => c.1)) (by simp)
   obtain ⟨p1, c1, e1, hI1, _⟩ := H.OwnZ.ints hHd.own
   rw [List.length_map, HG.out] at e1
   subst e1
   have hRow := hHd.row
   have HEnc : Hid (∀ V, Below wr.heap.size wr V → Calls Tryz.prog 108 #[.agg (layA y.b y.l y.i), .agg #[.slice p1 G c1]] V fun e V' => e = .returned (.tuple #[.agg (blk (H.headF (y.grp.map (·.1)))), .int .i64 0]) ∧ Below V.heap.size V V') := fun V hV => by
    have := H.refEnc_ok y.b y.l y.i 1 (1 + y.l) (H.nodeB y.i) (H.bitsAt y.l y.i) (H.bitsB y.b) (H.dataAt y.b y.l y.i) (y.grp.map (·.1)) p1 c1 V (lay_fine HF.out) (fine_log HF.out) (hI1.later hV) HAU.out (by rw [List.length_map, HG.out]; exact hgl) HMB.out
    rw [List.length_map, HG.out] at this
    exact this
   generalize H.headF (y.grp.map (·.1)) = F at *
   have hL : RLAt wr Yl.B q r Yl.gv Yl.wv y := by have := HD.out.say (p := rlP r Yl y) (by simp); rw [← HY.out]; exact this
   have HLy : Hid (∀ V, Below wr.heap.size wr V → RLAt V Yl.B q r Yl.gv Yl.wv y) := fun V hV => hL.later hV
   have HDr : Hid (RDs w wr r U0 (rlP r Yl y :: l)) := HD.out.drop
   clear hHd hI1 HD hL HAU HMB
   go_wp2
   apply wp_mono_at (S := fun g w' => Hid (RDs w w' r U0 (boxB g F :: rlP r Yl y :: l)))
   case h =>
    refine wp_region_tree (S := fun v => Below wr.heap.size wr v) (rdT 0 (rdT 1 (rdT 2 (rdT 3 (rdT 4 (altT [(5, rdT 6 (rdT 7 (rdT 8 (altT [(9, altT [(10, rdT 11 finT)])])))), (9, altT [(5, rdT 6 (rdT 7 (rdT 8 (altT [(10, rdT 11 finT)]))))])])))))) (by kernel_rfl) rfl (by kernel_rfl) (fun _ _ _ _ _ h => by cases h.1) ⟨rfl, rfl, rfl, Nat.le_refl _, fun _ _ => rfl⟩ ?_
    have hB0 : Below wr.heap.size wr wr.drew := ⟨rfl, rfl, rfl, Nat.le_refl _, fun _ _ => rfl⟩
    generalize wr.drew = V0 at *
    refine wpT_yield (v := .pointer (some ⟨q, 0, none⟩)) rfl rfl (fun v hv => by simp [execOp, Act.eval]) ?_
    simp only [Act.put, pA, pB, pC]
    refine wpT_yield (v := .pointer (some ⟨q, 0, none⟩)) rfl rfl (fun v hv => by go_simp) ?_
    simp only [Act.put, pA, pB, pC]
    refine wpT_yield (v := .pointer (some ⟨q, 1, none⟩)) rfl rfl (fun v hv => by go_simp) ?_
    simp only [Act.put, pA, pB, pC]
    refine wpT_yield (v := .agg (layA y.b y.l y.i)) rfl rfl (fun v hv => exec_ldLayR rfl rfl (layC_row y.b y.l y.i) rfl (HLy.out v hv).lay) ?_
    simp only [Act.put, pA, pB, pC]
    refine wpT_yield (v := .agg #[.slice p1 G c1]) rfl rfl (fun v hv => exec_ld129 rfl rfl (heap_kept hRow hv)) ?_
    simp only [Act.put, pA, pB, pC]
    refine wpT_call rfl rfl 108 _ _ rfl Tryz.call108 [.agg (layA y.b y.l y.i), .agg #[.slice p1 G c1]] rfl ?_ ?_
    ·refine (HEnc.out V0 hB0).mono ?_
     rintro e X1 ⟨rfl, hX⟩
     have hB1 : Below wr.heap.size wr X1 := below_next hB0 hX
     refine ⟨_, rfl, hB1, ?_⟩
     simp only [Act.put, pA, pB, pC]
     refine wpT_yield (v := .tuple #[.agg (blk F), .int .i64 0]) rfl rfl (fun v hv => by simp [execOp, Act.eval]) ?_
     simp only [Act.put, pA, pB, pC]
     refine wpT_yield (v := .agg (blk F)) rfl rfl (fun v hv => by go_simp) ?_
     simp only [Act.put, pA, pB, pC]
     refine wpT_yield (v := .int .i64 0) rfl rfl (fun v hv => by go_simp) ?_
     simp only [Act.put, pA, pB, pC]
     have hB2 : Below wr.heap.size wr (X1.alloc (.cells (blk nought) 64)) := below_next hB1 (below_new _ _)
     refine wpT_make (v := .pointer (some ⟨X1.heap.size, 0, none⟩)) (w' := X1.alloc (.cells (blk nought) 64)) rfl rfl (H.exec_allocB rfl) hB2 ?_ wpT_stop
     simp only [Act.put, pA, pB, pC]
     refine wpT_do (w' := (X1.alloc (.cells (blk nought) 64)).setRow X1.heap.size (blk F)) rfl rfl (H.exec_storeB rfl _ F nought rfl rfl (heap_alloc_new _ _)) (below_setRow hB2 hB1.size _) ?_ wpT_stop
     simp only [Act.put]
     have hfin : Hid (RDs w ((X1.alloc (.cells (blk nought) 64)).setRow X1.heap.size (blk F)) r U0 (boxB X1.heap.size F :: rlP r Yl y :: l)) := ((HDr.out.later hB1).box nought).rebox F
     generalize (X1.alloc (.cells (blk nought) 64)).setRow X1.heap.size (blk F) = WX at *
     generalize X1.heap.size = gx at *
     refine wpT_yield (v := .int .i64 0) rfl rfl (fun v hv => by go_simp) ?_
     simp only [Act.put, pA, pB, pC]
     exact wpT_fin ⟨rfl, gx, rfl, hfin⟩
    ·have hB2 : Below wr.heap.size wr (V0.alloc (.cells (blk nought) 64)) := below_next hB0 (below_new _ _)
     refine wpT_make (v := .pointer (some ⟨V0.heap.size, 0, none⟩)) (w' := V0.alloc (.cells (blk nought) 64)) rfl rfl (H.exec_allocB rfl) hB2 ?_ wpT_stop
     simp only [Act.put, pA, pB, pC]
     have hD1 := (HDr.out.later hB0).box nought
     have hgx : wr.heap.size ≤ V0.heap.size := hB0.size
     generalize V0.alloc (.cells (blk nought) 64) = V1 at *
     generalize V0.heap.size = gx at *
     refine wpT_call rfl rfl 108 _ _ rfl Tryz.call108 [.agg (layA y.b y.l y.i), .agg #[.slice p1 G c1]] rfl ?_ wpT_stop
     refine (HEnc.out V1 hB2).mono ?_
     rintro e X2 ⟨rfl, hX⟩
     have hB3 : Below wr.heap.size wr X2 := below_next hB2 hX
     refine ⟨_, rfl, hB3, ?_⟩
     simp only [Act.put, pA, pB, pC]
     refine wpT_yield (v := .tuple #[.agg (blk F), .int .i64 0]) rfl rfl (fun v hv => by simp [execOp, Act.eval]) ?_
     simp only [Act.put, pA, pB, pC]
     refine wpT_yield (v := .agg (blk F)) rfl rfl (fun v hv => by go_simp) ?_
     simp only [Act.put, pA, pB, pC]
     refine wpT_yield (v := .int .i64 0) rfl rfl (fun v hv => by go_simp) ?_
     simp only [Act.put, pA, pB, pC]
     have hD2 := hD1.later hX
     refine wpT_do (w' := X2.setRow gx (blk F)) rfl rfl (H.exec_storeB rfl _ F nought rfl rfl hD2.boxed) (below_setRow hB3 hgx _) ?_ wpT_stop
     simp only [Act.put]
     refine wpT_yield (v := .int .i64 0) rfl rfl (fun v hv => by go_simp) ?_
     simp only [Act.put, pA, pB, pC]
     exact wpT_fin ⟨rfl, gx, rfl, hD2.rebox F⟩
   case hr =>
    intro g W9 HD
    clear HDr HEnc HLy hRow
    go_wp2
    have HDd := Hid.mk' (HD.out.later (W' := World.drew W9) ⟨rfl, rfl, rfl, Nat.le_refl _, fun _ _ => rfl⟩)
    have hSd : (fun v => RLAt v Yl.B q r Yl.gv Yl.wv y ∧ v.heap[g]? = some (.cells (blk F) 64)) (World.drew W9) := ⟨by have := (HDd.out).say (p := rlP r Yl y) (by simp); rw [← HY.out]; exact this, (HDd.out).boxed⟩
    have HB0 : Hid (Calls Tryz.prog 96 #[.pointer (some ⟨r, 0, none⟩)] (World.drew W9) fun e W' => e = .returned (.int .i64 (rBarE U0)) ∧ RDs w W' r (rBarV U0) (boxB g F :: rlP r Yl y :: l)) := HDd.out.barrier (HP.out.room HR.out)
    clear HD HDd
    refine wp_region_ord (S := fun v => RLAt v Yl.B q r Yl.gv Yl.wv y ∧ v.heap[g]? = some (.cells (blk F) 64)) [(0, true), (1, true), (2, true), (3, true), (4, false), (5, true), (6, true), (7, true), (8, true), (9, true), (10, true), (11, true), (12, true), (13, true), (14, true), (15, true), (16, true), (17, false), (18, true), (19, true), (20, true), (21, true), (22, true), (23, true), (24, true), (25, false), (26, true), (27, true)]
     (by kernel_rfl) rfl (by kernel_rfl) (fun d _ _ _ _ h => by cases d <;> exact h) hSd ?_
    simp only [inOrd, List.getElem?_cons_zero, List.getElem?_cons_succ]
    refine wpOrd_move rfl _ rfl ?_
    simp only [Act.put, pA, pB, pC]
    refine wpOrd_yield (v := .pointer (some ⟨q, 0, none⟩)) rfl (fun v hv => by go_simp) ?_
    simp only [Act.put, pA, pB, pC]
    refine wpOrd_yield (v := .pointer (some ⟨q, 0, none⟩)) rfl (fun v hv => by go_simp) ?_
    simp only [Act.put, pA, pB, pC]
    refine wpOrd_yield (v := .pointer (some ⟨r, 0, none⟩)) rfl (fun v hv => by have e := hv.1.c0; go_simp) ?_
    simp only [Act.put, pA, pB, pC]
    refine wpOrd_call rfl 96 _ _ rfl Tryz.call96 [.pointer (some ⟨r, 0, none⟩)] rfl ?_
    refine HB0.out.mono ?_
    rintro e W1 ⟨rfl, h1⟩
    have hSx : (fun v => RLAt v Yl.B q r Yl.gv Yl.wv y ∧ v.heap[g]? = some (.cells (blk F) 64)) W1 := ⟨by have := (h1).say (p := rlP r Yl y) (by simp); rw [← HY.out]; exact this, (h1).boxed⟩
    refine ⟨_, rfl, hSx, ?_⟩
    simp only [Act.put, pA, pB, pC]
    by_cases hE : rBarE U0 = 0
    rotate_left
    ·have hb : (rBarE U0 != 0) = true := by simp [hE]
     have HZ : Hid (RCmt w q r y u l (.returned (.int .i64 3)) W1) := HP.out.ends hE (DL.of HY.out h1.drop)
     generalize rBarE U0 = E at *
     refine wpOrd_yield (v := .bool true) rfl (fun v hv => by go_simp) ?_
     simp only [Act.put, pA, pB, pC]
     refine wpOrd_yield (v := .bool true) rfl (fun v hv => by simp [execOp, Act.eval]) ?_
     simp only [Act.put, pA, pB, pC]
     refine wpOrd_skip hSx rfl ?_
     simp only [Act.put, pA, pB, pC]
     refine wpOrd_skip hSx rfl ?_
     simp only [Act.put, pA, pB, pC]
     refine wpOrd_skip hSx rfl ?_
     simp only [Act.put, pA, pB, pC]
     refine wpOrd_skip hSx rfl ?_
     simp only [Act.put, pA, pB, pC]
     refine wpOrd_skip hSx rfl ?_
     simp only [Act.put, pA, pB, pC]
     refine wpOrd_skip hSx rfl ?_
     simp only [Act.put, pA, pB, pC]
     refine wpOrd_skip hSx rfl ?_
     simp only [Act.put, pA, pB, pC]
     refine wpOrd_skip hSx rfl ?_
     simp only [Act.put, pA, pB, pC]
     refine wpOrd_skip hSx rfl ?_
     simp only [Act.put, pA, pB, pC]
     refine wpOrd_skip hSx rfl ?_
     simp only [Act.put, pA, pB, pC]
     refine wpOrd_skip hSx rfl ?_
     simp only [Act.put, pA, pB, pC]
     refine wpOrd_skip hSx rfl ?_
     simp only [Act.put, pA, pB, pC]
     refine wpOrd_yield (v := .bool true) rfl (fun v hv => by go_simp) ?_
     simp only [Act.put, pA, pB, pC]
     refine wpOrd_yield (v := .bool true) rfl (fun v hv => by simp [execOp, Act.eval]) ?_
     simp only [Act.put, pA, pB, pC]
     refine wpOrd_skip hSx rfl ?_
     simp only [Act.put, pA, pB, pC]
     refine wpOrd_skip hSx rfl ?_
     simp only [Act.put, pA, pB, pC]
     refine wpOrd_skip hSx rfl ?_
     simp only [Act.put, pA, pB, pC]
     refine wpOrd_skip hSx rfl ?_
     simp only [Act.put, pA, pB, pC]
     refine wpOrd_skip hSx rfl ?_
     simp only [Act.put, pA, pB, pC]
     refine wpOrd_skip hSx rfl ?_
     simp only [Act.put, pA, pB, pC]
     refine wpOrd_yield (v := .bool true) rfl (fun v hv => by go_simp) ?_
     simp only [Act.put, pA, pB, pC]
     refine wpOrd_nil ?_
     clear h1 hE hb hSx hSd
     go_wp2
     go_ret
     exact HZ.out
    have hb : (rBarE U0 != 0) = false := by simp [hE]
    have HP1 := Hid.mk' (HP.out.go hE)
    dsimp only [rdopV] at HP1
    have HR1 := HP1.out.room HR.out
    have HB1 : Hid (Calls Tryz.prog 95 #[.pointer (some ⟨r, 0, none⟩), .int .i64 1, .agg (blk F)] W1 fun e W' => e = .returned (.int .i64 (rWriteE (rBarV U0) 1)) ∧ RDs w W' r (rWriteV (rBarV U0) 1 F) (boxB g F :: rlP r Yl y :: l)) := h1.write HR1 _ _
    generalize rBarE U0 = E at *
    subst hE
    generalize rBarV U0 = U1 at *
    clear h1 HB0 HP HR1
    refine wpOrd_yield (v := .bool false) rfl (fun v hv => by go_simp) ?_
    simp only [Act.put, pA, pB, pC]
    refine wpOrd_yield (v := .bool false) rfl (fun v hv => by simp [execOp, Act.eval]) ?_
    simp only [Act.put, pA, pB, pC]
    clear hb
    refine wpOrd_move rfl _ rfl ?_
    simp only [Act.put, pA, pB, pC]
    refine wpOrd_yield (v := .pointer (some ⟨q, 0, none⟩)) rfl (fun v hv => by go_simp) ?_
    simp only [Act.put, pA, pB, pC]
    refine wpOrd_yield (v := .pointer (some ⟨q, 0, none⟩)) rfl (fun v hv => by go_simp) ?_
    simp only [Act.put, pA, pB, pC]
    refine wpOrd_yield (v := .pointer (some ⟨r, 0, none⟩)) rfl (fun v hv => by have e := hv.1.c0; go_simp) ?_
    simp only [Act.put, pA, pB, pC]
    refine wpOrd_move rfl _ rfl ?_
    simp only [Act.put, pA, pB, pC]
    refine wpOrd_yield (v := .pointer (some ⟨q, 0, none⟩)) rfl (fun v hv => by go_simp) ?_
    simp only [Act.put, pA, pB, pC]
    refine wpOrd_yield (v := .pointer (some ⟨q, 1, none⟩)) rfl (fun v hv => by go_simp) ?_
    simp only [Act.put, pA, pB, pC]
    refine wpOrd_yield (v := .pointer (some ⟨q, 4, none⟩)) rfl (fun v hv => by go_simp) ?_
    simp only [Act.put, pA, pB, pC]
    refine wpOrd_yield (v := .int .i64 1) rfl (fun v hv => by have e := hv.1.c4; go_simp) ?_
    simp only [Act.put, pA, pB, pC]
    refine wpOrd_yield (v := .agg (blk F)) rfl (fun v hv => H.exec_loadB rfl g F rfl hv.2) ?_
    simp only [Act.put, pA, pB, pC]
    refine wpOrd_call rfl 95 _ _ rfl Tryz.call95 [.pointer (some ⟨r, 0, none⟩), .int .i64 1, .agg (blk F)] rfl ?_
    refine HB1.out.mono ?_
    rintro e W2 ⟨rfl, h2⟩
    have hSx : (fun v => RLAt v Yl.B q r Yl.gv Yl.wv y ∧ v.heap[g]? = some (.cells (blk F) 64)) W2 := ⟨by have := (h2).say (p := rlP r Yl y) (by simp); rw [← HY.out]; exact this, (h2).boxed⟩
    refine ⟨_, rfl, hSx, ?_⟩
    simp only [Act.put, pA, pB, pC]
    by_cases hE : rWriteE U1 1 = 0
    rotate_left
    ·have hb : (rWriteE U1 1 != 0) = true := by simp [hE]
     have HZ : Hid (RCmt w q r y u l (.returned (.int .i64 3)) W2) := HP1.out.ends hE (DL.of HY.out h2.drop)
     generalize rWriteE U1 1 = E at *
     refine wpOrd_yield (v := .bool true) rfl (fun v hv => by go_simp) ?_
     simp only [Act.put, pA, pB, pC]
     refine wpOrd_yield (v := .bool true) rfl (fun v hv => by go_simp) ?_
     simp only [Act.put, pA, pB, pC]
     refine wpOrd_yield (v := .bool true) rfl (fun v hv => by simp [execOp, Act.eval]) ?_
     simp only [Act.put, pA, pB, pC]
     refine wpOrd_skip hSx rfl ?_
     simp only [Act.put, pA, pB, pC]
     refine wpOrd_skip hSx rfl ?_
     simp only [Act.put, pA, pB, pC]
     refine wpOrd_skip hSx rfl ?_
     simp only [Act.put, pA, pB, pC]
     refine wpOrd_skip hSx rfl ?_
     simp only [Act.put, pA, pB, pC]
     refine wpOrd_skip hSx rfl ?_
     simp only [Act.put, pA, pB, pC]
     refine wpOrd_skip hSx rfl ?_
     simp only [Act.put, pA, pB, pC]
     refine wpOrd_yield (v := .bool true) rfl (fun v hv => by go_simp) ?_
     simp only [Act.put, pA, pB, pC]
     refine wpOrd_nil ?_
     clear h2 hE hb hSx hSd
     go_wp2
     go_ret
     exact HZ.out
    have hb : (rWriteE U1 1 != 0) = false := by simp [hE]
    have HP2 := Hid.mk' (HP1.out.go hE)
    dsimp only [rdopV] at HP2
    have HR1 := HP2.out.room HR.out
    have HB2 : Hid (Calls Tryz.prog 96 #[.pointer (some ⟨r, 0, none⟩)] W2 fun e W' => e = .returned (.int .i64 (rBarE (rWriteV U1 1 F))) ∧ RDs w W' r (rBarV (rWriteV U1 1 F)) (boxB g F :: rlP r Yl y :: l)) := h2.barrier HR1
    generalize rWriteE U1 1 = E at *
    subst hE
    generalize rWriteV U1 1 F = U2 at *
    clear h2 HB1 HP1 HR1
    refine wpOrd_yield (v := .bool false) rfl (fun v hv => by go_simp) ?_
    simp only [Act.put, pA, pB, pC]
    refine wpOrd_yield (v := .bool false) rfl (fun v hv => by go_simp) ?_
    simp only [Act.put, pA, pB, pC]
    refine wpOrd_yield (v := .bool false) rfl (fun v hv => by simp [execOp, Act.eval]) ?_
    simp only [Act.put, pA, pB, pC]
    clear hb
    refine wpOrd_move rfl _ rfl ?_
    simp only [Act.put, pA, pB, pC]
    refine wpOrd_yield (v := .pointer (some ⟨q, 0, none⟩)) rfl (fun v hv => by go_simp) ?_
    simp only [Act.put, pA, pB, pC]
    refine wpOrd_yield (v := .pointer (some ⟨q, 0, none⟩)) rfl (fun v hv => by go_simp) ?_
    simp only [Act.put, pA, pB, pC]
    refine wpOrd_yield (v := .pointer (some ⟨r, 0, none⟩)) rfl (fun v hv => by have e := hv.1.c0; go_simp) ?_
    simp only [Act.put, pA, pB, pC]
    refine wpOrd_call rfl 96 _ _ rfl Tryz.call96 [.pointer (some ⟨r, 0, none⟩)] rfl ?_
    refine HB2.out.mono ?_
    rintro e W3 ⟨rfl, h3⟩
    have hSx : (fun v => RLAt v Yl.B q r Yl.gv Yl.wv y ∧ v.heap[g]? = some (.cells (blk F) 64)) W3 := ⟨by have := (h3).say (p := rlP r Yl y) (by simp); rw [← HY.out]; exact this, (h3).boxed⟩
    refine ⟨_, rfl, hSx, ?_⟩
    simp only [Act.put, pA, pB, pC]
    by_cases hE : rBarE U2 = 0
    rotate_left
    ·have hb : (rBarE U2 != 0) = true := by simp [hE]
     have HZ : Hid (RCmt w q r y u l (.returned (.int .i64 3)) W3) := HP2.out.ends hE (DL.of HY.out h3.drop)
     generalize rBarE U2 = E at *
     refine wpOrd_yield (v := .bool true) rfl (fun v hv => by go_simp) ?_
     simp only [Act.put, pA, pB, pC]
     refine wpOrd_yield (v := .bool true) rfl (fun v hv => by go_simp) ?_
     simp only [Act.put, pA, pB, pC]
     refine wpOrd_nil ?_
     clear h3 hE hb hSx hSd
     go_wp2
     go_ret
     exact HZ.out
    have hb : (rBarE U2 != 0) = false := by simp [hE]
    have HP3 := Hid.mk' (HP2.out.go hE)
    dsimp only [rdopV] at HP3
    have HD3 := Hid.mk' (h3.drop)
    generalize rBarE U2 = E at *
    subst hE
    generalize rBarV U2 = U3 at *
    clear h3 HB2 HP2
    refine wpOrd_yield (v := .bool false) rfl (fun v hv => by go_simp) ?_
    simp only [Act.put, pA, pB, pC]
    refine wpOrd_yield (v := .bool false) rfl (fun v hv => by go_simp) ?_
    simp only [Act.put, pA, pB, pC]
    refine wpOrd_nil ?_
    clear hb hSx hSd
    go_wp2
    go_loopw [8] (fun s8 wx => ∃ j : Nat, (j : Int) ≤ G ∧ s8 = .int .i64 j ∧ ∃ U, Hid (Pre y u U ((y.grp.drop j).map some ++ [none, some (1, nought), none]) ∧ RDs w wx r U (rlP r Yl y :: l))) (fun s8 _ => G - (intOf s8).toNat)
    case atStart => exact ⟨0, by omega, rfl, U3, Hid.mk' ⟨HP3.out, HD3.out⟩⟩
    case round =>
     obtain ⟨j, hj, rfl, U, HM⟩ := hrel
     clear HP3 HD3
     by_cases hj2 : (j : Int) < G
     ·have hjl : j < y.grp.length := by have := HG.out; omega
      have hcc : y.grp[j]? = some (y.grp[j]'hjl) := List.getElem?_eq_getElem hjl
      have hdr : y.grp.drop j = y.grp[j]'hjl :: y.grp.drop (j + 1) := List.drop_eq_getElem_cons hjl
      generalize y.grp[j]'hjl = x at hcc hdr
      have hL : RLAt wr Yl.B q r Yl.gv Yl.wv y := by have := HM.out.2.say (p := rlP r Yl y) (by simp); rw [← HY.out]; exact this
      obtain ⟨p, c, hv, hI⟩ := own_img hL.grp
      obtain ⟨b0, off, rfl, hlt, hC⟩ := hI (by omega)
      rw [HG.out] at hv
      clear hI hC hlt
      have HB : Hid (∀ u : World, RLAt u Yl.B q r Yl.gv Yl.wv y → u.cell? ⟨q, 12, none⟩ = some (.slice (some ⟨b0, off, none⟩) G c) ∧ u.cell? ⟨b0, off + j * 1025, none⟩ = some (.int .i64 x.1) ∧ BlkAt u b0 (off + j * 1025 + 1) x.2) := fun u hu => by
       have e12 := hu.c12
       obtain ⟨p', c', hv', hI'⟩ := own_img hu.grp
       rw [HG.out] at hv'
       have ev := hv.symm.trans hv'
       injection ev with ev1 ev2 ev3
       obtain ⟨b1, off1, e1, hlt1, hC1⟩ := hI' (by omega)
       rw [e1] at ev1
       injection ev1 with ev1
       injection ev1 with eb eo
       subst eb
       subst eo
       exact ⟨by rw [e12, hv], (hC1 j x hcc).1, (hC1 j x hcc).2⟩
      have HP0 : Hid (Pre y u U (some x :: ((y.grp.drop (j + 1)).map some ++ [none, some (1, nought), none]))) := by have := HM.out.1; rw [hdr] at this; exact this
      have HD : Hid (Calls Tryz.prog 95 #[.pointer (some ⟨r, 0, none⟩), .int .i64 x.1, .agg (blk x.2)] wr.drew fun e W' => e = .returned (.int .i64 (rWriteE U x.1)) ∧ RDs w W' r (rWriteV U x.1 x.2) (rlP r Yl y :: l)) :=
       (HM.out.2.later (W' := wr.drew) ⟨rfl, rfl, rfl, Nat.le_refl _, fun _ _ => rfl⟩).write (HP0.out.room HR.out) _ _
      have hLd : RLAt wr.drew Yl.B q r Yl.gv Yl.wv y := hL.later ⟨rfl, rfl, rfl, Nat.le_refl _, fun _ _ => rfl⟩
      clear hv hcc hjl HM hL hdr
      obtain ⟨x1, f⟩ := x
      dsimp only at *
      go_wp2
      refine wp_region_ord (S := fun v => RLAt v Yl.B q r Yl.gv Yl.wv y) [(0, true), (1, true), (2, true), (3, true), (4, true), (5, true), (6, true), (7, true), (8, true), (9, true), (10, true), (11, true), (12, true), (13, true), (14, true), (15, true), (16, true), (17, true), (18, true), (19, true), (20, false), (21, true)]
       (by kernel_rfl) rfl (by kernel_rfl) (fun d _ _ _ _ h => by cases d <;> exact h) hLd ?_
      simp only [inOrd, List.getElem?_cons_zero, List.getElem?_cons_succ]
      refine wpOrd_move rfl _ rfl ?_
      simp only [Act.put, pA, pB, pC]
      refine wpOrd_yield (v := .pointer (some ⟨q, 0, none⟩)) rfl (fun v hv => by go_simp) ?_
      simp only [Act.put, pA, pB, pC]
      refine wpOrd_yield (v := .pointer (some ⟨q, 0, none⟩)) rfl (fun v hv => by go_simp) ?_
      simp only [Act.put, pA, pB, pC]
      refine wpOrd_yield (v := .pointer (some ⟨r, 0, none⟩)) rfl (fun v hv => by have e := hv.c0; go_simp) ?_
      simp only [Act.put, pA, pB, pC]
      refine wpOrd_move rfl _ rfl ?_
      simp only [Act.put, pA, pB, pC]
      refine wpOrd_yield (v := .pointer (some ⟨q, 0, none⟩)) rfl (fun v hv => by go_simp) ?_
      simp only [Act.put, pA, pB, pC]
      refine wpOrd_yield (v := .pointer (some ⟨q, 12, none⟩)) rfl (fun v hv => by go_simp) ?_
      simp only [Act.put, pA, pB, pC]
      refine wpOrd_yield (v := .slice (some ⟨b0, off, none⟩) G c) rfl (fun v hv => by have e := (HB.out v hv).1; go_simp) ?_
      simp only [Act.put, pA, pB, pC]
      refine wpOrd_move rfl _ rfl ?_
      simp only [Act.put, pA, pB, pC]
      refine wpOrd_yield (v := .pointer (some ⟨b0, off + j * 1025, none⟩)) rfl (fun v hv => by go_simp) ?_
      simp only [Act.put, pA, pB, pC]
      refine wpOrd_yield (v := .pointer (some ⟨b0, off + j * 1025, none⟩)) rfl (fun v hv => by go_simp) ?_
      simp only [Act.put, pA, pB, pC]
      refine wpOrd_yield (v := .int .i64 x1) rfl (fun v hv => by have e := (HB.out v hv).2.1; go_simp) ?_
      simp only [Act.put, pA, pB, pC]
      refine wpOrd_move rfl _ rfl ?_
      simp only [Act.put, pA, pB, pC]
      refine wpOrd_yield (v := .pointer (some ⟨q, 0, none⟩)) rfl (fun v hv => by go_simp) ?_
      simp only [Act.put, pA, pB, pC]
      refine wpOrd_yield (v := .pointer (some ⟨q, 12, none⟩)) rfl (fun v hv => by go_simp) ?_
      simp only [Act.put, pA, pB, pC]
      refine wpOrd_yield (v := .slice (some ⟨b0, off, none⟩) G c) rfl (fun v hv => by have e := (HB.out v hv).1; go_simp) ?_
      simp only [Act.put, pA, pB, pC]
      refine wpOrd_move rfl _ rfl ?_
      simp only [Act.put, pA, pB, pC]
      refine wpOrd_yield (v := .pointer (some ⟨b0, off + j * 1025, none⟩)) rfl (fun v hv => by go_simp) ?_
      simp only [Act.put, pA, pB, pC]
      refine wpOrd_yield (v := .pointer (some ⟨b0, off + j * 1025 + 1, none⟩)) rfl (fun v hv => by go_simp) ?_
      simp only [Act.put, pA, pB, pC]
      refine wpOrd_yield (v := .agg (blk f)) rfl (fun v hv => exec_ldBlk rfl rfl (HB.out v hv).2.2) ?_
      simp only [Act.put, pA, pB, pC]
      refine wpOrd_call rfl 95 _ _ rfl Tryz.call95 [.pointer (some ⟨r, 0, none⟩), .int .i64 x1, .agg (blk f)] rfl ?_
      refine HD.out.mono ?_
      rintro e W1 ⟨rfl, h1⟩
      have hL1 : RLAt W1 Yl.B q r Yl.gv Yl.wv y := by have := h1.say (p := rlP r Yl y) (by simp); rw [← HY.out]; exact this
      refine ⟨_, rfl, hL1, ?_⟩
      simp only [Act.put, pA, pB, pC]
      by_cases hE : rWriteE U x1 = 0
      ·have hb : (rWriteE U x1 != 0) = false := by simp [hE]
       refine wpOrd_yield (v := .bool false) rfl (fun v hv => by go_simp) ?_
       simp only [Act.put, pA, pB, pC]
       refine wpOrd_nil ?_
       have HE1 : Hid (Pre y u (rWriteV U x1 f) ((y.grp.drop (j + 1)).map some ++ [none, some (1, nought), none]) ∧ RDs w W1 r (rWriteV U x1 f) (rlP r Yl y :: l)) := ⟨HP0.out.go (o := some (x1, f)) hE, h1⟩
       generalize rWriteE U x1 = E at *
       subst hE
       generalize rWriteV U x1 f = U1 at *
       clear h1 HD HP0 hLd hb HB hL1
       go_wp2
       exact ⟨⟨j + 1, by omega, by go_num, U1, HE1⟩, by simp [intOf]; omega⟩
      ·have hb : (rWriteE U x1 != 0) = true := by simp [hE]
       refine wpOrd_yield (v := .bool true) rfl (fun v hv => by go_simp) ?_
       simp only [Act.put, pA, pB, pC]
       refine wpOrd_nil ?_
       have HZ : Hid (RCmt w q r y u l (.returned (.int .i64 3)) W1) := HP0.out.ends (o := some (x1, f)) hE (DL.of HY.out h1)
       generalize rWriteE U x1 = E at *
       clear h1 HD HP0 hLd hb hE hL1 HB
       go_wp2
       go_ret
       exact HZ.out
     ·obtain rfl : G = j := by omega
      have hdr : y.grp.drop G = [] := List.drop_eq_nil_of_le (by have := HG.out; omega)
      have HP : Hid (Pre y u U [none, some (1, nought), none]) := by have := HM.out.1; rw [hdr] at this; exact this
      have HD := Hid.mk' HM.out.2
      clear HM hdr
      generalize U = U0 at *
      have z64 := zero25
      go_wp2
      have HDd := Hid.mk' (HD.out.later (W' := World.drew wr) ⟨rfl, rfl, rfl, Nat.le_refl _, fun _ _ => rfl⟩)
      have hSd : (fun v => RLAt v Yl.B q r Yl.gv Yl.wv y) (World.drew wr) := by have := (HDd.out).say (p := rlP r Yl y) (by simp); rw [← HY.out]; exact this
      have HB0 : Hid (Calls Tryz.prog 96 #[.pointer (some ⟨r, 0, none⟩)] (World.drew wr) fun e W' => e = .returned (.int .i64 (rBarE U0)) ∧ RDs w W' r (rBarV U0) (rlP r Yl y :: l)) := HDd.out.barrier (HP.out.room HR.out)
      clear HD HDd
      refine wp_region_ord (S := fun v => RLAt v Yl.B q r Yl.gv Yl.wv y) [(0, true), (1, true), (2, true), (3, true), (4, false), (5, true), (6, true), (7, true), (8, true), (9, true), (10, true), (11, true), (12, true), (13, true), (14, true), (15, true), (16, true), (17, false), (18, true), (19, true), (20, true), (21, true), (22, true), (23, true), (24, true), (25, false), (26, true), (27, true)]
       (by kernel_rfl) rfl (by kernel_rfl) (fun d _ _ _ _ h => by cases d <;> exact h) hSd ?_
      simp only [inOrd, List.getElem?_cons_zero, List.getElem?_cons_succ]
      refine wpOrd_move rfl _ rfl ?_
      simp only [Act.put, pA, pB, pC]
      refine wpOrd_yield (v := .pointer (some ⟨q, 0, none⟩)) rfl (fun v hv => by go_simp) ?_
      simp only [Act.put, pA, pB, pC]
      refine wpOrd_yield (v := .pointer (some ⟨q, 0, none⟩)) rfl (fun v hv => by go_simp) ?_
      simp only [Act.put, pA, pB, pC]
      refine wpOrd_yield (v := .pointer (some ⟨r, 0, none⟩)) rfl (fun v hv => by have e := hv.c0; go_simp) ?_
      simp only [Act.put, pA, pB, pC]
      refine wpOrd_call rfl 96 _ _ rfl Tryz.call96 [.pointer (some ⟨r, 0, none⟩)] rfl ?_
      refine HB0.out.mono ?_
      rintro e W1 ⟨rfl, h1⟩
      have hSx : (fun v => RLAt v Yl.B q r Yl.gv Yl.wv y) W1 := by have := (h1).say (p := rlP r Yl y) (by simp); rw [← HY.out]; exact this
      refine ⟨_, rfl, hSx, ?_⟩
      simp only [Act.put, pA, pB, pC]
      by_cases hE : rBarE U0 = 0
      rotate_left
      ·have hb : (rBarE U0 != 0) = true := by simp [hE]
       have HZ : Hid (RCmt w q r y u l (.returned (.int .i64 3)) W1) := HP.out.ends hE (DL.of HY.out h1)
       generalize rBarE U0 = E at *
       refine wpOrd_yield (v := .bool true) rfl (fun v hv => by go_simp) ?_
       simp only [Act.put, pA, pB, pC]
       refine wpOrd_yield (v := .bool true) rfl (fun v hv => by simp [execOp, Act.eval]) ?_
       simp only [Act.put, pA, pB, pC]
       refine wpOrd_skip hSx rfl ?_
       simp only [Act.put, pA, pB, pC]
       refine wpOrd_skip hSx rfl ?_
       simp only [Act.put, pA, pB, pC]
       refine wpOrd_skip hSx rfl ?_
       simp only [Act.put, pA, pB, pC]
       refine wpOrd_skip hSx rfl ?_
       simp only [Act.put, pA, pB, pC]
       refine wpOrd_skip hSx rfl ?_
       simp only [Act.put, pA, pB, pC]
       refine wpOrd_skip hSx rfl ?_
       simp only [Act.put, pA, pB, pC]
       refine wpOrd_skip hSx rfl ?_
       simp only [Act.put, pA, pB, pC]
       refine wpOrd_skip hSx rfl ?_
       simp only [Act.put, pA, pB, pC]
       refine wpOrd_skip hSx rfl ?_
       simp only [Act.put, pA, pB, pC]
       refine wpOrd_skip hSx rfl ?_
       simp only [Act.put, pA, pB, pC]
       refine wpOrd_skip hSx rfl ?_
       simp only [Act.put, pA, pB, pC]
       refine wpOrd_skip hSx rfl ?_
       simp only [Act.put, pA, pB, pC]
       refine wpOrd_yield (v := .bool true) rfl (fun v hv => by go_simp) ?_
       simp only [Act.put, pA, pB, pC]
       refine wpOrd_yield (v := .bool true) rfl (fun v hv => by simp [execOp, Act.eval]) ?_
       simp only [Act.put, pA, pB, pC]
       refine wpOrd_skip hSx rfl ?_
       simp only [Act.put, pA, pB, pC]
       refine wpOrd_skip hSx rfl ?_
       simp only [Act.put, pA, pB, pC]
       refine wpOrd_skip hSx rfl ?_
       simp only [Act.put, pA, pB, pC]
       refine wpOrd_skip hSx rfl ?_
       simp only [Act.put, pA, pB, pC]
       refine wpOrd_skip hSx rfl ?_
       simp only [Act.put, pA, pB, pC]
       refine wpOrd_skip hSx rfl ?_
       simp only [Act.put, pA, pB, pC]
       refine wpOrd_yield (v := .bool true) rfl (fun v hv => by go_simp) ?_
       simp only [Act.put, pA, pB, pC]
       refine wpOrd_nil ?_
       clear h1 hE hb hSx hSd
       go_wp2
       go_ret
       exact HZ.out
      have hb : (rBarE U0 != 0) = false := by simp [hE]
      have HP1 := Hid.mk' (HP.out.go hE)
      dsimp only [rdopV] at HP1
      have HR1 := HP1.out.room HR.out
      have HB1 : Hid (Calls Tryz.prog 95 #[.pointer (some ⟨r, 0, none⟩), .int .i64 1, .agg (blk nought)] W1 fun e W' => e = .returned (.int .i64 (rWriteE (rBarV U0) 1)) ∧ RDs w W' r (rWriteV (rBarV U0) 1 nought) (rlP r Yl y :: l)) := h1.write HR1 _ _
      generalize rBarE U0 = E at *
      subst hE
      generalize rBarV U0 = U1 at *
      clear h1 HB0 HP HR1
      refine wpOrd_yield (v := .bool false) rfl (fun v hv => by go_simp) ?_
      simp only [Act.put, pA, pB, pC]
      refine wpOrd_yield (v := .bool false) rfl (fun v hv => by simp [execOp, Act.eval]) ?_
      simp only [Act.put, pA, pB, pC]
      clear hb
      refine wpOrd_move rfl _ rfl ?_
      simp only [Act.put, pA, pB, pC]
      refine wpOrd_yield (v := .pointer (some ⟨q, 0, none⟩)) rfl (fun v hv => by go_simp) ?_
      simp only [Act.put, pA, pB, pC]
      refine wpOrd_yield (v := .pointer (some ⟨q, 0, none⟩)) rfl (fun v hv => by go_simp) ?_
      simp only [Act.put, pA, pB, pC]
      refine wpOrd_yield (v := .pointer (some ⟨r, 0, none⟩)) rfl (fun v hv => by have e := hv.c0; go_simp) ?_
      simp only [Act.put, pA, pB, pC]
      refine wpOrd_move rfl _ rfl ?_
      simp only [Act.put, pA, pB, pC]
      refine wpOrd_yield (v := .pointer (some ⟨q, 0, none⟩)) rfl (fun v hv => by go_simp) ?_
      simp only [Act.put, pA, pB, pC]
      refine wpOrd_yield (v := .pointer (some ⟨q, 1, none⟩)) rfl (fun v hv => by go_simp) ?_
      simp only [Act.put, pA, pB, pC]
      refine wpOrd_yield (v := .pointer (some ⟨q, 4, none⟩)) rfl (fun v hv => by go_simp) ?_
      simp only [Act.put, pA, pB, pC]
      refine wpOrd_yield (v := .int .i64 1) rfl (fun v hv => by have e := hv.c4; go_simp) ?_
      simp only [Act.put, pA, pB, pC]
      refine wpOrd_yield (v := .agg (blk nought)) rfl (fun v hv => exec_zeroB64 rfl) ?_
      simp only [Act.put, pA, pB, pC]
      refine wpOrd_call rfl 95 _ _ rfl Tryz.call95 [.pointer (some ⟨r, 0, none⟩), .int .i64 1, .agg (blk nought)] rfl ?_
      refine HB1.out.mono ?_
      rintro e W2 ⟨rfl, h2⟩
      have hSx : (fun v => RLAt v Yl.B q r Yl.gv Yl.wv y) W2 := by have := (h2).say (p := rlP r Yl y) (by simp); rw [← HY.out]; exact this
      refine ⟨_, rfl, hSx, ?_⟩
      simp only [Act.put, pA, pB, pC]
      by_cases hE : rWriteE U1 1 = 0
      rotate_left
      ·have hb : (rWriteE U1 1 != 0) = true := by simp [hE]
       have HZ : Hid (RCmt w q r y u l (.returned (.int .i64 3)) W2) := HP1.out.ends hE (DL.of HY.out h2)
       generalize rWriteE U1 1 = E at *
       refine wpOrd_yield (v := .bool true) rfl (fun v hv => by go_simp) ?_
       simp only [Act.put, pA, pB, pC]
       refine wpOrd_yield (v := .bool true) rfl (fun v hv => by go_simp) ?_
       simp only [Act.put, pA, pB, pC]
       refine wpOrd_yield (v := .bool true) rfl (fun v hv => by simp [execOp, Act.eval]) ?_
       simp only [Act.put, pA, pB, pC]
       refine wpOrd_skip hSx rfl ?_
       simp only [Act.put, pA, pB, pC]
       refine wpOrd_skip hSx rfl ?_
       simp only [Act.put, pA, pB, pC]
       refine wpOrd_skip hSx rfl ?_
       simp only [Act.put, pA, pB, pC]
       refine wpOrd_skip hSx rfl ?_
       simp only [Act.put, pA, pB, pC]
       refine wpOrd_skip hSx rfl ?_
       simp only [Act.put, pA, pB, pC]
       refine wpOrd_skip hSx rfl ?_
       simp only [Act.put, pA, pB, pC]
       refine wpOrd_yield (v := .bool true) rfl (fun v hv => by go_simp) ?_
       simp only [Act.put, pA, pB, pC]
       refine wpOrd_nil ?_
       clear h2 hE hb hSx hSd
       go_wp2
       go_ret
       exact HZ.out
      have hb : (rWriteE U1 1 != 0) = false := by simp [hE]
      have HP2 := Hid.mk' (HP1.out.go hE)
      dsimp only [rdopV] at HP2
      have HR1 := HP2.out.room HR.out
      have HB2 : Hid (Calls Tryz.prog 96 #[.pointer (some ⟨r, 0, none⟩)] W2 fun e W' => e = .returned (.int .i64 (rBarE (rWriteV U1 1 nought))) ∧ RDs w W' r (rBarV (rWriteV U1 1 nought)) (rlP r Yl y :: l)) := h2.barrier HR1
      generalize rWriteE U1 1 = E at *
      subst hE
      generalize rWriteV U1 1 nought = U2 at *
      clear h2 HB1 HP1 HR1
      refine wpOrd_yield (v := .bool false) rfl (fun v hv => by go_simp) ?_
      simp only [Act.put, pA, pB, pC]
      refine wpOrd_yield (v := .bool false) rfl (fun v hv => by go_simp) ?_
      simp only [Act.put, pA, pB, pC]
      refine wpOrd_yield (v := .bool false) rfl (fun v hv => by simp [execOp, Act.eval]) ?_
      simp only [Act.put, pA, pB, pC]
      clear hb
      refine wpOrd_move rfl _ rfl ?_
      simp only [Act.put, pA, pB, pC]
      refine wpOrd_yield (v := .pointer (some ⟨q, 0, none⟩)) rfl (fun v hv => by go_simp) ?_
      simp only [Act.put, pA, pB, pC]
      refine wpOrd_yield (v := .pointer (some ⟨q, 0, none⟩)) rfl (fun v hv => by go_simp) ?_
      simp only [Act.put, pA, pB, pC]
      refine wpOrd_yield (v := .pointer (some ⟨r, 0, none⟩)) rfl (fun v hv => by have e := hv.c0; go_simp) ?_
      simp only [Act.put, pA, pB, pC]
      refine wpOrd_call rfl 96 _ _ rfl Tryz.call96 [.pointer (some ⟨r, 0, none⟩)] rfl ?_
      refine HB2.out.mono ?_
      rintro e W3 ⟨rfl, h3⟩
      have hSx : (fun v => RLAt v Yl.B q r Yl.gv Yl.wv y) W3 := by have := (h3).say (p := rlP r Yl y) (by simp); rw [← HY.out]; exact this
      refine ⟨_, rfl, hSx, ?_⟩
      simp only [Act.put, pA, pB, pC]
      by_cases hE : rBarE U2 = 0
      rotate_left
      ·have hb : (rBarE U2 != 0) = true := by simp [hE]
       have HZ : Hid (RCmt w q r y u l (.returned (.int .i64 3)) W3) := HP2.out.ends hE (DL.of HY.out h3)
       generalize rBarE U2 = E at *
       refine wpOrd_yield (v := .bool true) rfl (fun v hv => by go_simp) ?_
       simp only [Act.put, pA, pB, pC]
       refine wpOrd_yield (v := .bool true) rfl (fun v hv => by go_simp) ?_
       simp only [Act.put, pA, pB, pC]
       refine wpOrd_nil ?_
       clear h3 hE hb hSx hSd
       go_wp2
       go_ret
       exact HZ.out
      have hb : (rBarE U2 != 0) = false := by simp [hE]
      have HP3 := Hid.mk' (HP2.out.go hE)
      dsimp only [rdopV] at HP3
      have HD3 := Hid.mk' (h3)
      generalize rBarE U2 = E at *
      subst hE
      generalize rBarV U2 = U3 at *
      clear h3 HB2 HP2
      refine wpOrd_yield (v := .bool false) rfl (fun v hv => by go_simp) ?_
      simp only [Act.put, pA, pB, pC]
      refine wpOrd_yield (v := .bool false) rfl (fun v hv => by go_simp) ?_
      simp only [Act.put, pA, pB, pC]
      refine wpOrd_nil ?_
      clear hb hSx hSd
      have HDL : Hid (DL w W3 q r y U3 l) := DL.of HY.out HD3.out
      obtain ⟨Y3, hl3⟩ := HDL.out.at
      have d12 := hl3.c12
      have f12 := hl3.free 12
      have HD5 := Hid.mk' HDL.out.noGrp
      obtain ⟨Y5, hl5⟩ := HD5.out.at
      have d16 := hl5.c16
      have f16 := hl5.free 16
      have HD6 := Hid.mk' (HD5.out.set 16 (.int .i64 (y.commit + 1)) (y' := { y with grp := [], commit := y.commit + 1 }) (fun gv wv => rfl) rfl rfl)
      have hwc : IntKind.i64.wrap (y.commit + 1) = y.commit + 1 := by rw [IntKind.wrap_i64]; omega
      clear hl3 hl5 HD3 HDL HD5
      generalize hW5 : W3.setCell ⟨q, 12, none⟩ (.slice none 0 0) = W5 at *
      go_wp2
      go_ret
      exact HP3.out.done HD6.out
end
end Go.Proofs.YtichojdcoegboaaGreatW
